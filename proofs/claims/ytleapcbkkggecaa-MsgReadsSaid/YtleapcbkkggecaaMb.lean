/-
  Messages as values: two numbers, a slice of names, a slice of rows of bytes. Contracts of Check, the program's and the document's, and of the laws' own few.
-/
import Derived.Test.YtleapcbkkggecaaMa
import Derived.Deep.MidRow
namespace Go.Proofs.Ytleapcbkkggecaa
open Go.ChangeShapes Go.WideShapes Go.ChangeAt Go.RowKit

/-- a message -/
structure Ms where
  k : Int
  r : Int
  ids : List (List Int)
  bl : List (List Int)
  deriving DecidableEq
structure Ms.wf (m : Ms) : Prop where
  klo : -9223372036854775808 ≤ m.k
  khi : m.k ≤ 9223372036854775807
  rlo : -9223372036854775808 ≤ m.r
  rhi : m.r ≤ 9223372036854775807
  idl : ∀ x ∈ m.ids, x.length = 32 ∧ Rng x
  blr : ∀ x ∈ m.bl, Rng x
/-- a message's cells, its slices being vi and vb -/
def msC (k r : Int) (vi vb : Value) : List Value := [.int .i64 k, .int .i64 r, vi, vb]
def msV (k r : Int) (vi vb : Value) : Value := .agg #[.int .i64 k, .int .i64 r, vi, vb]
/-- a slice of names, in blocks of which A holds -/
def SeesI (A : Nat → Prop) (w : World) (v : Value) (ids : List (List Int)) : Prop :=
  (v = .slice none 0 0 ∧ ids = []) ∨
  ∃ ad cap, v = .slice (some ad) ids.length cap ∧ ids.length ≤ cap ∧ cap ≤ maxLen ∧ (ids ≠ [] → A ad.block) ∧ ∀ i x, ids[i]? = some x → ∀ j u, x[j]? = some u → w.cell? (ad.add (i * 32 + j)) = some (.int .u8 u)
/-- a slice of rows of bytes, in blocks of which A holds -/
def SeesR (A : Nat → Prop) (w : World) (v : Value) (bl : List (List Int)) : Prop :=
  (v = .slice none 0 0 ∧ bl = []) ∨
  ∃ ad cap, v = .slice (some ad) bl.length cap ∧ bl.length ≤ cap ∧ cap ≤ maxLen ∧ (bl ≠ [] → A ad.block) ∧ ∀ i x, bl[i]? = some x → ∃ u, w.cell? (ad.add i) = some u ∧ Sees w u x ∧ (x ≠ [] → ∀ g, u.ownBlock = some g → A g)
structure SeesM (A : Nat → Prop) (w : World) (vi vb : Value) (m : Ms) : Prop where
  i : SeesI A w vi m.ids
  b : SeesR A w vb m.bl
variable {A A' : Nat → Prop}
theorem SeesI.kept {F : Nat → Prop} {w w' : World} {v : Value} {ids : List (List Int)} (h : SeesI A w v ids) (k : Kp F w w') (hF : ∀ g, A g → ¬ F g) : SeesI A w' v ids := by
  rcases h with h | ⟨ad, cap, rfl, h1, h2, ha, h4⟩
  · exact .inl h
  · refine .inr ⟨ad, cap, rfl, h1, h2, ha, fun i x hi j u hj => ?_⟩
    have hne : ids ≠ [] := by intro e; subst e; cases hi
    have hc := h4 i x hi j u hj
    exact (k.cell (lt_of_cell hc) (by rw [add_block]; exact hF _ (ha hne))).trans hc
theorem SeesI.mono {w : World} {v : Value} {ids : List (List Int)} (h : SeesI A w v ids) (hA : ∀ g, g < w.heap.size → A g → A' g) (hl : ∀ x ∈ ids, x.length = 32) : SeesI A' w v ids := by
  rcases h with h | ⟨ad, cap, rfl, h1, h2, ha, h4⟩
  · exact .inl h
  · refine .inr ⟨ad, cap, rfl, h1, h2, fun hne => hA _ ?_ (ha hne), h4⟩
    obtain ⟨x, r, rfl⟩ := List.exists_cons_of_ne_nil hne
    have hx := hl x (List.mem_cons_self ..)
    obtain ⟨y, hy⟩ : ∃ y, x[0]? = some y := ⟨x[0], by simp [hx]⟩
    have := lt_of_cell (h4 0 x rfl 0 y hy)
    rwa [add_block] at this
theorem SeesR.kept {F : Nat → Prop} {w w' : World} {v : Value} {bl : List (List Int)} (h : SeesR A w v bl) (k : Kp F w w') (hF : ∀ g, A g → ¬ F g) : SeesR A w' v bl := by
  rcases h with h | ⟨ad, cap, rfl, h1, h2, ha, h4⟩
  · exact .inl h
  · refine .inr ⟨ad, cap, rfl, h1, h2, ha, fun i x hi => ?_⟩
    have hne : bl ≠ [] := by intro e; subst e; cases hi
    obtain ⟨u, hc, hs, hu⟩ := h4 i x hi
    exact ⟨u, (k.cell (lt_of_cell hc) (by rw [add_block]; exact hF _ (ha hne))).trans hc, hs.kept k (fun hx g hg => hF g (hu hx g hg)), hu⟩
theorem SeesR.mono {w : World} {v : Value} {bl : List (List Int)} (h : SeesR A w v bl) (hA : ∀ g, g < w.heap.size → A g → A' g) : SeesR A' w v bl := by
  rcases h with h | ⟨ad, cap, rfl, h1, h2, ha, h4⟩
  · exact .inl h
  · refine .inr ⟨ad, cap, rfl, h1, h2, fun hne => hA _ ?_ (ha hne), fun i x hi => ?_⟩
    · obtain ⟨x, r, rfl⟩ := List.exists_cons_of_ne_nil hne
      obtain ⟨u, hc, _⟩ := h4 0 x rfl
      have := lt_of_cell hc
      rwa [add_block] at this
    · obtain ⟨u, hc, hs, hu⟩ := h4 i x hi
      exact ⟨u, hc, hs, fun hx g hg => hA g (hs.lt hx g hg) (hu hx g hg)⟩
theorem SeesM.kept {F : Nat → Prop} {w w' : World} {vi vb : Value} {m : Ms} (h : SeesM A w vi vb m) (k : Kp F w w') (hF : ∀ g, A g → ¬ F g) : SeesM A w' vi vb m := ⟨h.i.kept k hF, h.b.kept k hF⟩
theorem SeesM.old {w w' : World} {vi vb : Value} {m : Ms} (h : SeesM A w vi vb m) (k : Kp (fun _ => False) w w') : SeesM A w' vi vb m := h.kept k (fun _ _ f => f)
theorem SeesM.mono {w : World} {vi vb : Value} {m : Ms} (h : SeesM A w vi vb m) (hA : ∀ g, g < w.heap.size → A g → A' g) (hl : m.wf) : SeesM A' w vi vb m := ⟨h.i.mono hA (fun x hx => (hl.idl x hx).1), h.b.mono hA⟩
theorem SeesI.form {w : World} {v : Value} {ids : List (List Int)} (h : SeesI A w v ids) : ∃ a c, v = .slice a ids.length c ∧ ids.length ≤ 9223372036854775807 := by
  rcases h with ⟨rfl, rfl⟩ | ⟨ad, cap, rfl, h1, h2, _⟩
  · exact ⟨none, 0, rfl, by simp⟩
  · exact ⟨_, _, rfl, by unfold maxLen at h2; omega⟩
theorem SeesR.form {w : World} {v : Value} {bl : List (List Int)} (h : SeesR A w v bl) : ∃ a c, v = .slice a bl.length c ∧ bl.length ≤ 9223372036854775807 := by
  rcases h with ⟨rfl, rfl⟩ | ⟨ad, cap, rfl, h1, h2, _⟩
  · exact ⟨none, 0, rfl, by simp⟩
  · exact ⟨_, _, rfl, by unfold maxLen at h2; omega⟩
/-- the element of a row, its address written out -/
theorem SeesR.at {w : World} {a : Option Addr} {c : Nat} {bl : List (List Int)} (h : SeesR A w (.slice a bl.length c) bl) {k : Nat} (hk : k < bl.length) :
    ∃ b off u, a = some ⟨b, off, none⟩ ∧ w.cell? ⟨b, off + k, none⟩ = some u ∧ Sees w u bl[k] ∧ bl.length ≤ c ∧ c ≤ maxLen ∧ A b ∧ (bl[k] ≠ [] → ∀ g, u.ownBlock = some g → A g) := by
  rcases h with ⟨_, e⟩ | ⟨ad, cap, e, h1, h2, ha, h4⟩
  · rw [e] at hk; cases hk
  · injection e with e1 e2 e3
    subst e1 e3
    obtain ⟨u, hc, hs, hu⟩ := h4 k bl[k] (List.getElem?_eq_getElem hk)
    obtain ⟨u0, hc0, _⟩ := h4 0 bl[0] (List.getElem?_eq_getElem (by omega))
    have hsp := spot_of_cell hc0
    obtain ⟨b, off, s⟩ := ad
    have hs' : s = none := by simpa [Addr.add] using hsp
    subst hs'
    rw [Addr.add_lit] at hc
    exact ⟨b, off, u, rfl, hc, hs, h1, h2, ha (by rintro rfl; cases hk), hu⟩
/-- a name of a slice, its address written out -/
theorem SeesI.at {w : World} {a : Option Addr} {c : Nat} {ids : List (List Int)} (hl : ∀ x ∈ ids, x.length = 32) (h : SeesI A w (.slice a ids.length c) ids) {k : Nat} (hk : k < ids.length) :
    ∃ b off, a = some ⟨b, off, none⟩ ∧ w.rangeAt b (off + k * 32) (U8s ids[k]) ∧ ids.length ≤ c ∧ c ≤ maxLen ∧ A b := by
  rcases h with ⟨_, e⟩ | ⟨ad, cap, e, h1, h2, ha, h4⟩
  · rw [e] at hk; cases hk
  · injection e with e1 e2 e3
    subst e1 e3
    have h0l := hl ids[0] (List.getElem_mem (by omega))
    obtain ⟨y, hy⟩ : ∃ y, (ids[0]'(by omega))[0]? = some y := ⟨(ids[0]'(by omega))[0], by simp [h0l]⟩
    have hsp := spot_of_cell (h4 0 _ (List.getElem?_eq_getElem (by omega)) 0 y hy)
    obtain ⟨b, off, s⟩ := ad
    have hs' : s = none := by simpa [Addr.add] using hsp
    subst hs'
    refine ⟨b, off, rfl, fun j u hj => ?_, h1, h2, ha (by rintro rfl; cases hk)⟩
    obtain ⟨x, hx, rfl⟩ := U8s_inv hj
    have := h4 k _ (List.getElem?_eq_getElem hk) j x hx
    rw [Addr.add_lit] at this
    rw [Nat.add_assoc]
    exact this

/-- a message in a block -/
def MsAt (w : World) (g : Nat) (k r : Int) (vi vb : Value) : Prop := w.heap[g]? = some (.cells #[.int .i64 k, .int .i64 r, vi, vb] 25 (0, 0))
theorem MsAt.cells {w : World} {g : Nat} {k r : Int} {vi vb : Value} (h : MsAt w g k r vi vb) :
    w.cell? ⟨g, 0, none⟩ = some (.int .i64 k) ∧ w.cell? ⟨g, 1, none⟩ = some (.int .i64 r) ∧ w.cell? ⟨g, 2, none⟩ = some vi ∧ w.cell? ⟨g, 3, none⟩ = some vb ∧ (∀ i, w.frozen? ⟨g, i, none⟩ = false) :=
  ⟨by rw [cell_blk h]; rfl, by rw [cell_blk h]; rfl, by rw [cell_blk h]; rfl, by rw [cell_blk h]; rfl, fun i => free_blk h i⟩
theorem MsAt.kept {F : Nat → Prop} {w w' : World} {g : Nat} {k r : Int} {vi vb : Value} (h : MsAt w g k r vi vb) (kp : Kp F w w') (hF : ¬ F g) : MsAt w' g k r vi vb := kept_blk h kp hF
theorem MsAt.new (w : World) (k r : Int) (vi vb : Value) : MsAt (w.alloc (.cells #[.int .i64 k, .int .i64 r, vi, vb] 25)) w.heap.size k r vi vb := new_blk w _
theorem MsAt.old {w w' : World} {g : Nat} {k r : Int} {vi vb : Value} (h : MsAt w g k r vi vb) (kp : Kp (fun _ => False) w w') : MsAt w' g k r vi vb := kept_blk h kp (fun f => f)
theorem MsAt.lt {w : World} {g : Nat} {k r : Int} {vi vb : Value} (h : MsAt w g k r vi vb) : g < w.heap.size := lt_of_blk h

/-! ### what a kind bears -/
theorem holds_any (a b : Nat) (n : Int) (w : World) :
    Calls Try.prog 42 #[spV a b, .int .i64 n] w fun e w' => e = .returned (.bool (decide ((a : Int) ≤ n ∧ n ≤ (b : Int)))) ∧ Kp (fun _ => False) w w' := by
  have hk : ∀ o, Kp (fun _ => False) w (w.alloc o) := fun o => (Kp.refl _ _).alloc _
  have hz := new_blk w (.cells #[.int .i64 a, .int .i64 b] 57)
  by_cases h1 : (a : Int) ≤ n
  · have e : decide ((a : Int) ≤ n ∧ n ≤ (b : Int)) = decide (n ≤ (b : Int)) := by simp [h1]
    rw [e]
    clear e
    go_enter Try.func42, Try.ntmps42
    unfold spV
    go_wp2
    go_ret
    exact ⟨rfl, hk _⟩
  · have e : decide ((a : Int) ≤ n ∧ n ≤ (b : Int)) = false := by simp [h1]
    rw [e]
    clear e
    go_enter Try.func42, Try.ntmps42
    unfold spV
    go_wp2
    go_ret
    exact ⟨rfl, hk _⟩
theorem neq_cast (a b : Nat) : ((a : Int) != (b : Int)) = decide (a ≠ b) := by
  by_cases h : a = b
  · simp [h]
  · have : (a : Int) ≠ (b : Int) := by omega
    simp [h, this]
theorem counted_any (a b : Nat) (w : World) :
    Calls Try.prog 56 #[spV a b] w fun e w' => e = .returned (.bool (decide (a ≠ b))) ∧ Kp (fun _ => False) w w' := by
  have hk : ∀ o, Kp (fun _ => False) w (w.alloc o) := fun o => (Kp.refl _ _).alloc _
  go_enter Try.func56, Try.ntmps56
  unfold spV
  go_wp2
  go_ret
  exact ⟨by rw [← neq_cast]; rfl, hk _⟩

/-- is no row too long -/
def shortL (n : Nat) (bl : List (List Int)) : Bool := bl.all (fun x => decide (x.length ≤ n))
set_option maxRecDepth 100000 in
set_option maxHeartbeats 800000 in
theorem noneTooLong_any {v : Value} {bl : List (List Int)} {w : World} (hs : SeesR A w v bl) :
    Calls Try.prog 43 #[v] w fun e w' => e = .returned (.bool (shortL 246 bl)) ∧ w = w' := by
  obtain ⟨a, c, rfl, hmax⟩ := hs.form
  have HS := Lib.hid hs
  have SH0 := Lib.hid (fun (i : Nat) (hi : i < bl.length) (h : 246 < bl[i].length) => (show shortL 246 bl = false by
    unfold shortL
    rw [← Bool.not_eq_true, List.all_eq_true]
    intro h2
    have := h2 bl[i] (List.getElem_mem hi)
    simp at this
    omega))
  have SH1 := Lib.hid (fun (h : ∀ (i : Nat) (hi : i < bl.length), bl[i].length ≤ 246) => (show shortL 246 bl = true by
    unfold shortL
    rw [List.all_eq_true]
    intro x hx
    obtain ⟨i, hi, rfl⟩ := List.getElem_of_mem hx
    simpa using h i hi))
  clear hs
  go_enter Try.func43, Try.ntmps43
  go_wp2
  go_loopw [7] (fun i wr => ∃ k : Nat, k ≤ bl.length ∧ i = .int .i64 k ∧ w = wr ∧ Hid (∀ (j : Nat) (hj : j < bl.length), j < k → bl[j].length ≤ 246)) (fun i _ => bl.length - (intOf i).toNat)
  case atStart => exact ⟨0, by omega, rfl, rfl, Lib.hid (fun j _ h => by omega)⟩
  case round =>
    obtain ⟨k, hk, rfl, rfl, hsm⟩ := hrel
    by_cases hlt : k < bl.length
    · obtain ⟨b, off, u, rfl, hc, hsu, hlc, hcm, _⟩ := HS.out.at hlt
      obtain ⟨ax, cx, rfl⟩ := sees_form hsu
      have hcm' : c ≤ 9223372036854775807 := hcm
      by_cases h3k : 246 < bl[k].length
      · have h3k' : (246 : Int) < bl[k].length := by omega
        have HZ := Lib.hid (SH0.out k hlt h3k)
        clear hsu h3k
        go_wp2
        go_ret
        exact ⟨by rw [HZ.out]; rfl, rfl⟩
      · have h3k' : ¬ (246 : Int) < bl[k].length := by omega
        have HSM := Lib.hid (show bl[k].length ≤ 246 by omega)
        clear hsu h3k
        go_wp2
        go_roundw
        case rel => exact ⟨k + 1, by omega, by go_num, trivial, Lib.hid (fun j hj h => by
          rcases Nat.lt_or_ge j k with h' | h'
          · exact hsm.out j hj h'
          · obtain rfl : j = k := by omega
            exact HSM.out)⟩
        case measure => simp [intOf]; omega
    · obtain rfl : k = bl.length := by omega
      have HZ := Lib.hid (SH1.out (fun i hi => hsm.out i hi hi))
      clear hsm
      go_wp2
      go_ret
      exact ⟨by rw [HZ.out]; rfl, rfl⟩
end Go.Proofs.Ytleapcbkkggecaa
