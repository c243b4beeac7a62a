/-
  Sets of validators: what shows them; what the document says of them, on lists; Find, the program's and the document's.
-/
import Derived.Test.YtanmgfpogomgcaaDb
import Derived.Test.YtanmgfpogomgcaaStr
import Derived.Deep.MidRow
import Derived.Laws.StructEq
namespace Go.Proofs.Ytanmgfpogomgcaa
open Go.RowKit

/-- a validator -/
structure Vd where
  name : ByteArray
  wt : Int
  deriving DecidableEq
/-- its cells -/
def vdC (x : Vd) : List Value := [.string x.name, .int .i64 x.wt]
/-- a slice that shows these validators -/
def SeesV (w : World) (v : Value) (l : List Vd) : Prop :=
  ∃ a cap, v = .slice a l.length cap ∧ l.length ≤ cap ∧ cap ≤ maxLen ∧ (a = none → cap = 0) ∧ ∀ i x, l[i]? = some x → ∃ g off, a = some ⟨g, off, none⟩ ∧ w.rangeAt g (off + i * 2) (vdC x)
/-- as any validator that can be -/
structure Vd.wf (x : Vd) : Prop where
  nm : x.name.size < 9223372036854775807
  lo : -9223372036854775808 ≤ x.wt
  hi : x.wt ≤ 9223372036854775807
def VOk (l : List Vd) : Prop := ∀ x ∈ l, x.wf

theorem range_lt {w : World} {g off : Nat} {x : Vd} (h : w.rangeAt g off (vdC x)) : g < w.heap.size := lt_of_cell (h 0 _ rfl)
theorem range_kept {F : Nat → Prop} {w w' : World} {g off : Nat} {x : Vd} (h : w.rangeAt g off (vdC x)) (k : Kp F w w') (hF : ¬ F g) : w'.rangeAt g off (vdC x) := fun j u hj => by
  rw [k.cell (range_lt h) hF]; exact h j u hj
theorem SeesV.kept {w w' : World} {v : Value} {l : List Vd} (h : SeesV w v l) (k : Kp (fun _ => False) w w') : SeesV w' v l := by
  obtain ⟨a, cap, rfl, h1, h2, h3, h4⟩ := h
  exact ⟨a, cap, rfl, h1, h2, h3, fun i x hi => by
    obtain ⟨g, off, e, hr⟩ := h4 i x hi
    exact ⟨g, off, e, range_kept hr k (fun f => f)⟩⟩
theorem SeesV.form {w : World} {v : Value} {l : List Vd} (h : SeesV w v l) : ∃ a c, v = .slice a l.length c ∧ l.length ≤ c ∧ c ≤ 9223372036854775807 := by
  obtain ⟨a, cap, rfl, h1, h2, _⟩ := h
  exact ⟨_, _, rfl, h1, h2⟩
theorem SeesV.at {w : World} {a : Option Addr} {n c : Nat} {l : List Vd} (h : SeesV w (.slice a n c) l) {k : Nat} {x : Vd} (hk : l[k]? = some x) :
    ∃ g off, a = some ⟨g, off, none⟩ ∧ w.rangeAt g (off + k * 2) (vdC x) ∧ w.cell? ⟨g, off + k * 2, none⟩ = some (.string x.name) ∧ w.cell? ⟨g, off + k * 2 + 1, none⟩ = some (.int .i64 x.wt) := by
  obtain ⟨a', cap, e, _, _, _, h4⟩ := h
  obtain ⟨g, off, e2, hr⟩ := h4 k x hk
  injection e with e1 _ _
  exact ⟨g, off, by rw [e1, e2], hr, hr 0 _ rfl, hr 1 _ rfl⟩
theorem SeesV.take {w : World} {a : Option Addr} {n c : Nat} {l : List Vd} (h : SeesV w (.slice a n c) l) {k : Nat} (hk : k ≤ l.length) : SeesV w (.slice a k c) (l.take k) := by
  obtain ⟨a', cap, e, h1, h2, h3, h4⟩ := h
  injection e with e1 e2 e3
  subst e1 e3
  refine ⟨a, c, by rw [List.length_take, Nat.min_eq_left hk], by rw [List.length_take]; omega, h2, h3, fun i x hi => ?_⟩
  rw [List.getElem?_take] at hi
  split at hi
  · exact h4 i x hi
  · cases hi
theorem vok_at {l : List Vd} (h : VOk l) {k : Nat} {x : Vd} (hk : l[k]? = some x) : x.wf := h x (List.mem_of_getElem? hk)

theorem name_eq {a b : ByteArray} (h : a = b) : (a.toList == b.toList) = true := by rw [h]; simp
theorem name_ne {a b : ByteArray} (h : a ≠ b) : (a.toList == b.toList) = false := by
  cases h' : (a.toList == b.toList) with
  | false => rfl
  | true =>
    rw [ByteArray.toList_eq, ByteArray.toList_eq] at h'
    exact absurd (ByteArray.ext (Array.toList_inj.mp (by simpa using h'))) h
/-- the place of the first one of this name; -1: none -/
def findV : List Vd → ByteArray → Int
  | [], _ => -1
  | x :: r, n => if x.name = n then 0 else (if findV r n = -1 then -1 else findV r n + 1)
theorem findV_ge (l : List Vd) (n : ByteArray) : -1 ≤ findV l n ∧ findV l n < l.length := by
  induction l with
  | nil => simp [findV]
  | cons x r ih =>
    unfold findV
    split
    · simp
    · split <;> simp <;> omega
theorem findV_none {l : List Vd} {n : ByteArray} (h : ∀ (j : Nat) (x : Vd), l[j]? = some x → x.name ≠ n) : findV l n = -1 := by
  induction l with
  | nil => rfl
  | cons x r ih =>
    unfold findV
    rw [if_neg (h 0 x rfl), if_pos (ih (fun j y hy => h (j + 1) y hy))]
theorem findV_at {l : List Vd} {n : ByteArray} {k : Nat} {x : Vd} (hk : l[k]? = some x) (hx : x.name = n) (h : ∀ (j : Nat) (y : Vd), j < k → l[j]? = some y → y.name ≠ n) : findV l n = k := by
  induction l generalizing k with
  | nil => cases hk
  | cons y r ih =>
    unfold findV
    cases k with
    | zero =>
      cases hk
      rw [if_pos hx]; rfl
    | succ k =>
      have h1 := ih (k := k) hk (fun j z hj hz => h (j + 1) z (by omega) hz)
      rw [if_neg (h 0 y (by omega) rfl), h1, if_neg (by omega)]
      omega

set_option maxRecDepth 100000 in
set_option maxHeartbeats 800000 in
theorem rfind_any {v : Value} {l : List Vd} {w : World} (hs : SeesV w v l) (n : ByteArray) : Calls Try.prog 11 #[v, .string n] w fun e w' => e = .returned (.int .i64 (findV l n)) ∧ w' = w := by
  obtain ⟨a, c, rfl, hlc, hmax⟩ := hs.form
  have HS := Lib.hid hs
  have F0 := Lib.hid (fun (k : Nat) (x : Vd) (hk : l[k]? = some x) (hx : x.name = n) (h : ∀ (j : Nat) (y : Vd), j < k → l[j]? = some y → y.name ≠ n) => findV_at hk hx h)
  have F1 := Lib.hid (fun (h : ∀ (j : Nat) (y : Vd), l[j]? = some y → y.name ≠ n) => findV_none h)
  obtain ⟨z, hz⟩ : ∃ z, z = findV l n := ⟨_, rfl⟩
  rw [← hz] at F0 F1 ⊢
  clear hs hz
  go_enter Try.func11, Try.ntmps11
  go_wp2
  go_loopw [5] (fun i wr => ∃ k : Nat, k ≤ l.length ∧ i = .int .i64 k ∧ wr = w ∧ Hid (∀ (j : Nat) (y : Vd), j < k → l[j]? = some y → y.name ≠ n)) (fun i _ => l.length - (intOf i).toNat)
  case atStart => exact ⟨0, by omega, rfl, rfl, Lib.hid (fun j y h => by omega)⟩
  case round =>
    obtain ⟨k, hk, rfl, rfl, hsm⟩ := hrel
    by_cases hlt : k < l.length
    · obtain ⟨x, hx⟩ : ∃ x, l[k]? = some x := ⟨l[k], by simp [hlt]⟩
      obtain ⟨g, off, rfl, _, hc0, hc1⟩ := HS.out.at hx
      have HX := Lib.hid hx
      clear hx
      by_cases hn : x.name = n
      · have HN := Lib.hid (F0.out k x HX.out hn hsm.out)
        have hn' := name_eq hn
        clear hn
        go_wp2
        go_ret
        exact ⟨by rw [HN.out]; rfl, rfl⟩
      · have hn' := name_ne hn
        have HN := Lib.hid hn
        clear hn
        go_wp2
        go_roundw
        case rel => exact ⟨k + 1, by omega, by go_num, by first | rfl | trivial, Lib.hid (fun j y hj hy => by
          rcases Nat.lt_or_ge j k with h | h
          · exact hsm.out j y h hy
          · obtain rfl : j = k := by omega
            rw [HX.out] at hy
            cases hy
            exact HN.out)⟩
        case measure => simp [intOf]; omega
    · obtain rfl : k = l.length := by omega
      have HZ := Lib.hid (F1.out (fun j y hy => hsm.out j y ((List.getElem?_eq_some_iff.1 hy).1) hy))
      go_wp2
      go_ret
      exact ⟨by rw [HZ.out]; rfl, rfl⟩
end Go.Proofs.Ytanmgfpogomgcaa
