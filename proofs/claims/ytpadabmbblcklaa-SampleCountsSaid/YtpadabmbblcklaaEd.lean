/-
  A draw; the document's has and left.
-/
import Derived.Test.YtpadabmbblcklaaEc
namespace Go.Proofs.Ytpadabmbblcklaa
open Go.RowKit

set_option maxRecDepth 100000 in
set_option maxHeartbeats 1600000 in
theorem drawAt_any {v : Value} {ds : List Int} {w : World} (hs : SeesZ .u64 w v ds) (j : Nat) :
    Calls Try.prog 28 #[v, .int .i64 j] w fun e w' => e = .returned (.int .u64 (ds[j]?.getD 0)) ∧ Kp (fun _ => False) w w' := by
  obtain ⟨a, c, rfl, hlc, hmax, _⟩ := hs.form
  obtain ⟨z, hz⟩ : ∃ z, z = ds[j]?.getD 0 := ⟨_, rfl⟩
  rw [← hz]
  by_cases hlt : j < ds.length
  · obtain ⟨x, hx⟩ : ∃ x, ds[j]? = some x := ⟨ds[j], by simp⟩
    obtain ⟨g, off, rfl, hc⟩ := hs.at hx
    have HF := Lib.hid (show z = x by rw [hz, hx]; rfl)
    clear hz hs hx
    go_enter Try.func28, Try.ntmps28
    go_wp2
    go_ret
    exact ⟨by rw [HF.out]; rfl, Kp.refl _ _⟩
  · have HF := Lib.hid (show z = 0 by rw [hz, List.getElem?_eq_none (by omega)]; rfl)
    clear hz hs
    go_enter Try.func28, Try.ntmps28
    go_wp2
    go_ret
    exact ⟨by rw [HF.out]; rfl, Kp.refl _ _⟩

theorem notin_take {l : List Int} {k : Nat} {x n : Int} (hx : l[k]? = some x) (h : n ∉ l.take k) (hn : x ≠ n) : n ∉ l.take (k + 1) := by
  obtain ⟨hk, e⟩ := List.getElem?_eq_some_iff.1 hx
  rw [List.take_succ_eq_append_getElem hk, e, List.mem_append, List.mem_singleton]
  rintro (h' | h')
  · exact h h'
  · exact hn h'.symm

set_option maxRecDepth 100000 in
set_option maxHeartbeats 1600000 in
theorem has_any {v : Value} {l : List Int} {w : World} (hs : SeesZ .i64 w v l) (n : Int) :
    Calls Try.prog 40 #[v, .int .i64 n] w fun e w' => e = .returned (.bool (decide (n ∈ l))) ∧ Kp (fun _ => False) w w' := by
  obtain ⟨a, c, rfl, hlc, hmax, _⟩ := hs.form
  obtain ⟨z, hz⟩ : ∃ z, z = decide (n ∈ l) := ⟨_, rfl⟩
  rw [← hz]
  have HS := Lib.hid hs
  have HZ := Lib.hid hz
  clear hz hs
  go_enter Try.func40, Try.ntmps40
  go_wp2
  go_loopw [5] (fun i wr => ∃ k : Nat, k ≤ l.length ∧ i = .int .i64 k ∧ wr = w ∧ Hid (n ∉ l.take k)) (fun i _ => l.length - (intOf i).toNat)
  case atStart => exact ⟨0, by omega, rfl, rfl, Lib.hid (by simp)⟩
  case round =>
    obtain ⟨k, hk, rfl, rfl, hno⟩ := hrel
    by_cases hlt : k < l.length
    · obtain ⟨x, hx⟩ : ∃ x, l[k]? = some x := ⟨l[k], by simp⟩
      obtain ⟨g, off, rfl, hc⟩ := HS.out.at hx
      have HX := Lib.hid hx
      clear hx
      by_cases hxn : x = n
      · have HF := Lib.hid (show z = true by rw [HZ.out]; exact decide_eq_true (hxn ▸ List.mem_of_getElem? HX.out))
        subst hxn
        go_wp2
        go_ret
        exact ⟨by rw [HF.out]; rfl, Kp.refl _ _⟩
      · have HN := Lib.hid (notin_take HX.out hno.out hxn)
        go_wp2
        go_roundw
        case rel => exact ⟨k + 1, by omega, by go_num, by first | rfl | trivial, HN⟩
        case measure => simp [intOf]; omega
    · obtain rfl : k = l.length := by omega
      have HF := Lib.hid (show z = false by rw [HZ.out]; exact decide_eq_false (by have := hno.out; rwa [List.take_length] at this))
      go_wp2
      go_ret
      exact ⟨by rw [HF.out]; rfl, Kp.refl _ _⟩

def isT : Value → Bool
  | .bool b => b
  | _ => false
theorem cnt_take {l : List Int} {k : Nat} {y : Int} (hy : l[k]? = some y) (x : Int) : cnt (l.take (k + 1)) x = cnt (l.take k) x + (if y ≤ x then 1 else 0) := by
  obtain ⟨hk, e⟩ := List.getElem?_eq_some_iff.1 hy
  rw [List.take_succ_eq_append_getElem hk, e, cnt_append, cnt_cons, cnt_nil]
  omega

set_option maxRecDepth 100000 in
set_option maxHeartbeats 1600000 in
theorem left_any {v : Value} {l : List Int} {w : World} (hs : SeesZ .i64 w v l) (hd : l.Nodup) (n u : Int) (hn : 0 ≤ n) (hl : l.length ≤ 64) (hb : n ≤ 4611686018427387903) (hu : Nth l n u) :
    Calls Try.prog 30 #[v, .int .i64 n] w fun e w' => e = .returned (.int .i64 u) ∧ Kp (fun _ => False) w w' := by
  obtain ⟨a, c, rfl, hlc, hmax, _⟩ := hs.form
  have HS := Lib.hid hs
  have HH := Lib.hid (fun w' (k : Kp (fun _ => False) w w') => has_any (hs.kept k) u)
  have HM := Lib.hid (fun (x y : Int) (h : x ≤ y) => cnt_gap hd h)
  have HL := Lib.hid (fun (x : Int) (h : x < u) => hu.less hd h)
  have hun : u ≤ n + l.length := by have := hu.2; have := cnt_le l u; omega
  have hnu : n ≤ u := by have := hu.2; omega
  have HE := Lib.hid hu.2
  have HO := Lib.hid hu.1
  clear hs hd hu
  go_enter Try.func30, Try.ntmps30
  go_wp2
  go_loopw [5, 6] (fun xv gv wr => ∃ (x : Int) (b : Bool), xv = .int .i64 x ∧ gv = .bool b ∧ (n ≤ x ∧ x ≤ u) ∧ wr = w ∧ Hid (x ≤ n + cnt l x) ∧ Hid (b = false → x = u)) (fun xv gv _ => (u - intOf xv).toNat + (isT gv).toNat)
  case atStart => exact ⟨n, true, rfl, rfl, by omega, rfl, Lib.hid (by omega), Lib.hid (by simp)⟩
  case round =>
    obtain ⟨x, b, rfl, rfl, ⟨hx0, hx1⟩, rfl, hxc, hxf⟩ := hrel
    cases b
    · obtain rfl := hxf.out rfl
      obtain ⟨w0, hw0⟩ : ∃ w0, w0 = wr := ⟨_, rfl⟩
      rw [← hw0] at HH ⊢
      have HW := Lib.hid hw0
      clear hw0
      go_wp2
      go_loopw [5] (fun xv wr' => xv = .int .i64 x ∧ wr' = w0) (fun _ _ => 0)
      case atStart => exact ⟨rfl, rfl⟩
      case round =>
        obtain ⟨rfl, rfl⟩ := hrel
        have HC := HH.out _ (Kp.refl _ _)
        rw [decide_eq_false HO.out] at HC
        have HCC := Lib.hid HC
        clear HC
        go_wp2_with (go_at_call 40; refine HCC.out.mono ?_; rintro e w3 ⟨rfl, k3⟩; have K3 := Lib.hid k3; clear k3)
        go_ret
        exact ⟨rfl, HW.out ▸ K3.out⟩
    · obtain ⟨w0, hw0⟩ : ∃ w0, w0 = wr := ⟨_, rfl⟩
      rw [← hw0] at HH HS ⊢
      clear hw0
      go_wp2
      go_loopw [7, 8] (fun bv iv wr' => ∃ (k : Nat) (q : Nat), k ≤ l.length ∧ iv = .int .i64 k ∧ bv = .int .i64 q ∧ q ≤ k ∧ wr' = w0 ∧ Hid (q = cnt (l.take k) x)) (fun _ iv _ => l.length - (intOf iv).toNat)
      case atStart => exact ⟨0, 0, by omega, rfl, rfl, by omega, rfl, Lib.hid (by simp [cnt])⟩
      case round =>
        obtain ⟨k, q, hk, rfl, rfl, hqk, rfl, hq⟩ := hrel
        by_cases hlt : k < l.length
        · obtain ⟨y, hy⟩ : ∃ y, l[k]? = some y := ⟨l[k], by simp⟩
          obtain ⟨g, off, rfl, hc⟩ := HS.out.at hy
          have hct := cnt_take hy x
          rw [← hq.out] at hct
          clear hy
          by_cases hyx : y ≤ x
          · have HQ := Lib.hid (show q + 1 = cnt (l.take (k + 1)) x by rw [hct, if_pos hyx])
            clear hct
            go_wp2
            go_roundw
            case rel => exact ⟨k + 1, q + 1, by omega, by go_num, by go_num, by omega, by first | rfl | trivial, HQ⟩
            case measure => simp [intOf]; omega
          · have HQ := Lib.hid (show q = cnt (l.take (k + 1)) x by rw [hct, if_neg hyx, Nat.add_zero])
            clear hct
            go_wp2
            go_roundw
            case rel => exact ⟨k + 1, q, by omega, by go_num, rfl, by omega, by first | rfl | trivial, HQ⟩
            case measure => simp [intOf]; omega
        · obtain rfl : k = l.length := by omega
          have hq1 := hq.out
          rw [List.take_length] at hq1
          have hqn : (n + q : Int) ≤ u := by
            have := (HM.out x u hx1).1
            have := HE.out
            omega
          have hxq : x ≤ n + q := by have := hxc.out; omega
          by_cases hxe : x = n + q
          · have HX := Lib.hid (show x = u by
              rcases Int.lt_or_le x u with h | h
              · have := HL.out x h; omega
              · omega)
            have hne : (x != n + q) = false := by simp [hxe]
            have HC := Lib.hid hxc.out
            clear hxe hq1
            go_wp2
            go_roundw
            case rel => exact ⟨x, false, rfl, rfl, by omega, by first | rfl | trivial, HC, Lib.hid (fun _ => HX.out)⟩
            case measure => simp [intOf, isT]
          · have hne : (x != n + q) = true := by simp [hxe]
            have HC := Lib.hid (show (n + q : Int) ≤ n + cnt l (n + q) by
              have := (HM.out x (n + q) hxq).1
              omega)
            have hlt2 : x < n + q := by omega
            clear hxe hq1
            go_wp2
            go_roundw
            case rel => exact ⟨n + q, true, by go_num, rfl, by omega, by first | rfl | trivial, HC, Lib.hid (by simp)⟩
            case measure => simp [intOf, isT]; omega
end Go.Proofs.Ytpadabmbblcklaa
