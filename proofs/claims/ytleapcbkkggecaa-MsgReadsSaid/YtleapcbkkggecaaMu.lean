/-
  Messages: contracts of what takes counts, names and rows of bytes out of an unpacker.
-/
import Derived.Test.YtleapcbkkggecaaMl
import Derived.Test.YtleapcbkkggecaaUo
import Derived.Laws.MakeOwn
namespace Go.Proofs.Ytleapcbkkggecaa
open Go.ChangeShapes Go.WideShapes Go.ChangeAt Go.RowKit

/-- an unpacker made since W, what it has left lying ahead of B, all else being as it was -/
structure UX (W : World) (C B u : Nat) (s : RS) (w : World) : Prop where
  uk : ∃ v, UK w 0 u v s.1 s.2 ∧ (s.1 ≠ [] → ∀ g, v.ownBlock = some g → g < C)
  kp : Kp (fun k => k = u ∨ B ≤ k) W w
  base : B ≤ W.heap.size
  cb : C ≤ B
theorem UX.size {W w : World} {C B u : Nat} {s : RS} (h : UX W C B u s w) : B ≤ w.heap.size := Nat.le_trans h.base h.kp.size
theorem UX.step {W w w' : World} {C B u : Nat} {v : Value} {s r : RS} (h : UX W C B u s w) (_hu : UK w 0 u v s.1 s.2) (hf : s.1 ≠ [] → ∀ g, v.ownBlock = some g → g < C) (hne : r.1 ≠ [] → s.1 ≠ []) (hp : UPost w 0 u v r.1 r.2 w') : UX W C B u r w' := by
  obtain ⟨⟨v', h1, h2⟩, hk⟩ := hp
  refine ⟨⟨v', h1, fun hn g hg => hf (hne hn) g (by rw [← h2 hn]; exact hg)⟩, h.kp.trans hk (fun x _ hx => .inl hx), h.base, h.cb⟩
theorem UX.old {W w w' : World} {C B u : Nat} {s : RS} (h : UX W C B u s w) (k : Kp (fun _ => False) w w') : UX W C B u s w' := by
  obtain ⟨v, h1, h2⟩ := h.uk
  exact ⟨⟨v, h1.kept k (fun f => f) (fun _ _ _ f => f), h2⟩, h.kp.trans k (fun _ _ f => f.elim), h.base, h.cb⟩
/-- what changes neither the unpacker nor what lies ahead of B -/
theorem UX.other {W w w' : World} {C B u g : Nat} {s : RS} (h : UX W C B u s w) (k : Kp (fun y => y = g) w w') (hg : B ≤ g) (hu : u ≠ g) : UX W C B u s w' := by
  obtain ⟨v, h1, h2⟩ := h.uk
  exact ⟨⟨v, h1.kept k hu (fun hn y hy e => by have h3 := h2 hn y hy; have h4 : y = g := e; have h5 := h.cb; omega), h2⟩, h.kp.trans k (fun x _ e => .inr (by have h4 : x = g := e; omega)), h.base, h.cb⟩
theorem UX.rebase {W w : World} {C B u : Nat} {s : RS} (h : UX W C B u s w) : UX w C w.heap.size u s w :=
  ⟨h.uk, Kp.refl _ _, Nat.le_refl _, Nat.le_trans h.cb h.size⟩
theorem takeL_ne' {l : List Int} {e n : Int} : takeL l e n ≠ [] → l ≠ [] := fun h hl => h (by subst hl; unfold takeL; split <;> simp)
theorem cntL_ne' {l : List Int} {e : Int} {hd : Nat} {m : Int} : cntL l e hd m ≠ [] → l ≠ [] := fun h hl => h (by subst hl; unfold cntL; split <;> simp)

set_option maxRecDepth 100000 in
set_option maxHeartbeats 1600000 in
theorem takeCount_any (a b : Nat) (hb : b ≤ 1000) {W w : World} {C B u : Nat} {s : RS} (h : UX W C B u s w) (hr : Rng s.1) (_hab : a ≤ b) :
    Calls Try.prog 46 #[spV a b, .pointer (some ⟨u, 0, none⟩)] w fun e w' => e = .returned (.int .i64 ((cntS a b s).1 : Int)) ∧ UX W C B u (cntS a b s).2 w' := by
  have k1 : Kp (fun _ => False) w (w.alloc (.cells #[.int .i64 a, .int .i64 b] 57)) := (Kp.refl _ _).alloc _
  have HX := Lib.hid (h.old k1)
  have HC := Lib.hid (counted_any a b (w.alloc (.cells #[.int .i64 a, .int .i64 b] 57)))
  have hat := new_blk w (.cells #[.int .i64 a, .int .i64 b] 57)
  have HAT := Lib.hid hat
  have HRN := Lib.hid hr
  have HLT := Lib.hid (show u < w.heap.size by obtain ⟨v, hv, _⟩ := h.uk; exact lt_of_blk hv.cell)
  clear h k1 hat hr
  by_cases hab : a = b
  · have e1 : cntS a b s = (a, s) := by unfold cntS; rw [if_pos hab]
    rw [e1]
    have e2 : decide (a ≠ b) = false := by simpa using hab
    rw [e2] at HC
    clear e1 e2 hab
    unfold spV at HC ⊢
    go_enter Try.func46, Try.ntmps46
    go_wp2_with fail
    refine HC.out.mono ?_
    rintro e w1 ⟨rfl, k2⟩
    have H2 := Lib.hid (HX.out.old k2)
    have hc := cell_blk (kept_blk HAT.out k2 (fun f => f)) 0
    simp only [List.getElem?_toArray, List.getElem?_cons_zero] at hc
    clear k2
    go_wp2_with fail
    go_ret
    exact ⟨rfl, H2.out⟩
  · have e1 : cntS a b s = ((min (val (takeR s.1 s.2 4)) ((b : Int) + 1)).toNat, tkS s 4) := by unfold cntS; rw [if_neg hab]
    rw [e1]
    have e2 : decide (a ≠ b) = true := by simpa using hab
    rw [e2] at HC
    have hm : ((b : Int) + 1) % 4294967296 = b + 1 := by omega
    have hv := val_take_bd HRN.out s.2 4 (by omega)
    obtain ⟨z, hz⟩ : ∃ z, z = val (takeR s.1 s.2 4) := ⟨_, rfl⟩
    rw [← hz] at hv ⊢
    have HZ := Lib.hid hz
    clear e1 e2 hab hz
    unfold spV at HC ⊢
    go_enter Try.func46, Try.ntmps46
    go_wp2_with fail
    refine HC.out.mono ?_
    rintro e w1 ⟨rfl, k2⟩
    have H2 := Lib.hid (HX.out.old k2)
    have hw2 := kept_blk HAT.out k2 (fun f => f)
    have HW2 := Lib.hid hw2
    have hc := cell_blk hw2 1
    simp only [List.getElem?_toArray, List.getElem?_cons_zero, List.getElem?_cons_succ] at hc
    obtain ⟨v, hu, hf⟩ := (H2.out.old ((Kp.refl (fun _ => False) w1).drew)).uk
    have hq := uInt_any hu HRN.out
    unfold NumU at hq
    rw [← HZ.out] at hq
    have HQ := Lib.hid hq
    have HU := Lib.hid hu
    have HF := Lib.hid hf
    have HWK := Lib.hid (fun (w3 : World) (hp : UPost w1.drew 0 u v (takeL s.1 s.2 4) (takeE s.1 s.2 4) w3) => (show w3.cell? ⟨w.heap.size, 1, none⟩ = some (.int .i64 b) from by
      have h := cell_blk (kept_blk (show w1.drew.heap[w.heap.size]? = _ from HW2.out) hp.kp (fun e => by have := HLT.out; have h' : w.heap.size = u := e; omega)) 1
      simpa only [List.getElem?_toArray, List.getElem?_cons_zero, List.getElem?_cons_succ] using h))
    have t1 : IntKind.u32.wrap ((b : Int) + 1) = b + 1 := IntWalk.u32_in _ (by omega)
    have t2 : IntKind.i64.wrap (min z ((b : Int) + 1)) = min z (b + 1) := IntWalk.i64_in _ (by omega)
    have hw1 : IntKind.i64.wrap ((b : Int) + 1) = b + 1 := IntWalk.i64_in _ (by omega)
    have HMN := Lib.hid (show (((min z ((b : Int) + 1)).toNat : Nat) : Int) = min z (b + 1) by omega)
    have HD := Lib.hid (H2.out.old ((Kp.refl (fun _ => False) w1).drew))
    clear hu hf hq k2 hw2
    go_wp2_with fail
    go_region_with (first
      | (go_at_call 30; refine HQ.out.mono ?_; rintro e w3 ⟨rfl, hp⟩; have c3 := HWK.out w3 hp; have HP := Lib.hid hp; clear hp))
    all_goals
      go_wp2_with fail
      go_ret
      exact ⟨by rw [HMN.out]; rfl, HD.out.step HU.out HF.out takeL_ne' HP.out⟩
end Go.Proofs.Ytleapcbkkggecaa
