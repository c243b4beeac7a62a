/-
  Messages: contract of what takes rows of bytes out of an unpacker.
-/
import Derived.Test.YtleapcbkkggecaaMn
namespace Go.Proofs.Ytleapcbkkggecaa
open Go.ChangeShapes Go.WideShapes Go.ChangeAt Go.RowKit

theorem infoRowZ : (Try.prog.info? 29).map (fun i => (i.zero, i.size, i.bytes)) = some (some (.slice none 0 0), 1, 24) := by kernel_rfl
theorem mkRows (n : Nat) (hn : n ≤ 1000) (w : World) : (Instr.makeSlice 23 (.int .i64 (n : Int)) (.int .i64 (n : Int))).run Try.prog w = .ok (.slice (some ⟨w.heap.size, 0, none⟩) n n) (w.alloc (.cells (List.replicate n (.slice none 0 0)).toArray 29)) := by
  obtain ⟨i, h1, h2, h3, h4⟩ := info_parts infoRowZ
  have h := run_makeSlice w 23 29 i _ Try.underlying23 h1 h2 .i64 .i64 n n (by omega) (by omega) (by rw [h3]; omega) (by rw [h4]; omega) (by omega)
  rw [h, h3, Int.toNat_natCast, Nat.mul_one]
  have e : madeCells (Value.slice none 0 0).cells n = (List.replicate n (.slice none 0 0)).toArray := by
    apply madeCells_all
    · intro i hi
      have : i = 0 := by have : i < 1 := hi; omega
      subst this; rfl
    · show 0 < 1; omega
  rw [e]
/-- rows taken so far, in a row of one's own, nothing behind them -/
structure BR (W : World) (C B u gr n k : Nat) (s : RS) (w : World) : Prop where
  ux : UX W C B u (takeB k s).2 w
  ex : ∃ vs : List Value, w.heap[gr]? = some (.cells (vs ++ List.replicate (n - k) (Value.slice none 0 0)).toArray 29 (0, 0)) ∧ vs.length = k ∧
    ∀ (i : Nat) (x : List Int), (takeB k s).1[i]? = some x → ∃ u' : Value, vs[i]? = some u' ∧ Sees w u' x ∧ (∀ g, u'.ownBlock = some g → B ≤ g ∧ g ≠ gr ∧ g ≠ u)
theorem BR.cell {W w : World} {C B u gr n k : Nat} {s : RS} (h : BR W C B u gr n k s w) (hk : k < n) : ∃ z, w.cell? ⟨gr, k, none⟩ = some z ∧ w.frozen? ⟨gr, k, none⟩ = false := by
  obtain ⟨vs, h1, h2, _⟩ := h.ex
  refine ⟨.slice none 0 0, ?_, free_blk h1 _⟩
  rw [cell_blk h1, List.getElem?_toArray, List.getElem?_append_right (by omega), h2, Nat.sub_self, List.getElem?_replicate, if_pos (by omega)]
theorem BR.step {W w w1 : World} {C B u gr n k : Nat} {s : RS} {v rv : Value} (h : BR W C B u gr n k s w) (hk : k < n) (hB : B ≤ gr) (hug : u ≠ gr) (hu : UK w 0 u v (takeB k s).2.1 (takeB k s).2.2) (hf : (takeB k s).2.1 ≠ [] → ∀ g, v.ownBlock = some g → g < C)
    (hp : UPost w 0 u v (cntL (takeB k s).2.1 (takeB k s).2.2 4 246) (cntE (takeB k s).2.1 (takeB k s).2.2 4 246) w1) (hs : OwnB w1 w.heap.size rv (cntR (takeB k s).2.1 (takeB k s).2.2 4 246)) :
    BR W C B u gr n (k + 1) s (w1.setCell ⟨gr, k, none⟩ rv) := by
  obtain ⟨vs, h1, h2, h3⟩ := h.ex
  have h1' := kept_blk h1 hp.kp (fun e => by have h' : gr = u := e; omega)
  have hul : u < w.heap.size := lt_of_blk hu.cell
  have hgl : gr < w.heap.size := lt_of_blk h1
  have ks : Kp (fun y => y = gr) w1 (w1.setCell ⟨gr, k, none⟩ rv) := Kp.setCell (F := fun y => y = gr) (Kp.refl _ w1) (p := ⟨gr, k, none⟩) (fun _ => rfl) _
  have hset := set_blk h1' k rv
  refine ⟨(UX.step (r := cnS (takeB k s).2) h.ux hu hf cntL_ne' hp).other ks hB hug, vs ++ [rv], ?_, by simp [h2], fun i x hi => ?_⟩
  · rw [hset]
    congr 2
    apply Array.ext'
    have e : List.replicate (n - k) (Value.slice none 0 0) = .slice none 0 0 :: List.replicate (n - (k + 1)) (.slice none 0 0) := by
      rw [← List.replicate_succ]; congr 1; omega
    rw [e]
    simp [← h2]
  · have hx : ((takeB k s).1 ++ [cntR (takeB k s).2.1 (takeB k s).2.2 4 246])[i]? = some x := hi
    rcases Nat.lt_or_ge i (takeB k s).1.length with hl | hl
    · rw [List.getElem?_append_left hl] at hx
      obtain ⟨u', g1, g2, g3⟩ := h3 i x hx
      refine ⟨u', by rw [List.getElem?_append_left (by rw [h2, ← takeB_len k s]; exact hl)]; exact g1, (g2.kept hp.kp (fun _ g hg e => (g3 g hg).2.2 e)).kept ks (fun _ g hg e => (g3 g hg).2.1 e), g3⟩
    · rw [List.getElem?_append_right hl] at hx
      have hi0 : i - (takeB k s).1.length = 0 := by
        have := (List.getElem?_eq_some_iff.1 hx).1
        simp at this; omega
      rw [hi0] at hx
      simp at hx
      subst hx
      rw [takeB_len] at hi0 hl
      refine ⟨rv, by rw [List.getElem?_append_right (by omega), h2, hi0]; rfl, hs.sees.kept ks (fun _ g hg e => by have := (hs.lt g hg).1; have h' : g = gr := e; omega), fun g hg => ?_⟩
      have := (hs.lt g hg).1
      have h5 := h.ux.size
      exact ⟨by omega, by omega, by omega⟩
theorem own_rows {W w : World} {C B u gr n : Nat} {s : RS} (h : BR W C B u gr n n s w) (hn2 : n ≤ 1000) (hB : B ≤ gr) : SeesR (fun g => B ≤ g) w (.slice (some ⟨gr, 0, none⟩) n n) (takeB n s).1 := by
  obtain ⟨vs, h1, h2, h3⟩ := h.ex
  rw [Nat.sub_self, List.replicate_zero, List.append_nil] at h1
  refine .inr ⟨⟨gr, 0, none⟩, n, by rw [takeB_len], by rw [takeB_len]; exact Nat.le_refl _, by unfold maxLen; omega, fun _ => hB, fun i x hi => ?_⟩
  obtain ⟨u', g1, g2, g3⟩ := h3 i x hi
  exact ⟨u', by rw [Addr.add_lit, cell_blk h1, Nat.zero_add, List.getElem?_toArray]; exact g1, g2, fun _ g hg => (g3 g hg).1⟩

set_option maxRecDepth 100000 in
set_option maxHeartbeats 3200000 in
theorem takeRows_any (a b : Nat) (hab : a ≤ b) (hb : b ≤ 900) {W w : World} {C B u : Nat} {s : RS} (h : UX W C B u s w) (hr : Rng s.1) (hl : s.1.length ≤ 1000000) :
    Calls Try.prog 33 #[spV a b, .pointer (some ⟨u, 0, none⟩)] w fun e w' => ∃ vb, e = .returned vb ∧ SeesR (fun g => B ≤ g) w' vb (takeB (cntS a b s).1 (cntS a b s).2).1 ∧ UX W C B u (takeB (cntS a b s).1 (cntS a b s).2).2 w' := by
  have k1 : Kp (fun _ => False) w (w.alloc (.cells #[.int .i64 a, .int .i64 b] 62)) := (Kp.refl _ _).alloc _
  have HX := Lib.hid (h.old k1)
  have HC := Lib.hid (takeCount_any a b (by omega) HX.out hr hab)
  have hn1 : (cntS a b s).1 ≤ 1000 := by
    unfold cntS
    split
    · show a ≤ 1000; omega
    · show (min (val (takeR s.1 s.2 4)) ((b : Int) + 1)).toNat ≤ 1000; omega
  have hr2 := cntS_rng hr a b
  have hl2 : (cntS a b s).2.1.length ≤ 1000000 := by
    unfold cntS
    split
    · exact hl
    · exact Nat.le_trans (takeL_len _ _ _) hl
  obtain ⟨n, hn⟩ : ∃ n, n = (cntS a b s).1 := ⟨_, rfl⟩
  obtain ⟨s2, hs2⟩ : ∃ s2, s2 = (cntS a b s).2 := ⟨_, rfl⟩
  rw [← hn, ← hs2] at HC ⊢
  rw [← hn] at hn1
  rw [← hs2] at hr2 hl2
  have HR := Lib.hid hr2
  have HL := Lib.hid hl2
  clear h k1 hr hl hn hs2 hr2 hl2
  unfold spV at HC ⊢
  go_enter Try.func33, Try.ntmps33
  go_wp2_with fail
  refine HC.out.mono ?_
  rintro e w1 ⟨rfl, hx⟩
  have hmk := mkRows n hn1 w1
  have hul : u < w1.heap.size := by obtain ⟨v, hv, _⟩ := hx.uk; exact lt_of_blk hv.cell
  have hNR : BR W C B u w1.heap.size n 0 s2 (w1.alloc (.cells (List.replicate n (.slice none 0 0)).toArray 29)) :=
    ⟨hx.old ((Kp.refl _ _).alloc _), [], by rw [new_blk]; simp, rfl, fun i x hi => by cases hi⟩
  obtain ⟨gr, hgr⟩ : ∃ gr, gr = w1.heap.size := ⟨_, rfl⟩
  have hB := hx.size
  rw [← hgr] at hNR hB hul
  have HNR := Lib.hid hNR
  clear hx hNR
  go_wp2_with fail
  rw [← hgr]
  clear hmk hgr
  go_loopw [14] (fun i wr => ∃ k : Nat, k ≤ n ∧ i = .int .i64 k ∧ BR W C B u gr n k s2 wr) (fun i _ => n - (intOf i).toNat)
  case atStart => exact ⟨0, by omega, rfl, HNR.out⟩
  case round =>
    obtain ⟨k, hk, rfl, hx⟩ := hrel
    by_cases hlt : k < n
    · obtain ⟨v, hu, hf⟩ := hx.ux.uk
      have hll : (takeB k s2).2.1.length ≤ 1000000 := takeB_left k s2 HL.out
      have HFX := Lib.hid (uBytes_own 246 (by omega) hu (takeB_rng HR.out k).2 (by omega))
      have HST := Lib.hid (fun (rv : Value) (w4 : World) (hp : UPost wr 0 u v (cntL (takeB k s2).2.1 (takeB k s2).2.2 4 246) (cntE (takeB k s2).2.1 (takeB k s2).2.2 4 246) w4) (hs : OwnB w4 wr.heap.size rv (cntR (takeB k s2).2.1 (takeB k s2).2.2 4 246)) =>
        hx.step hlt hB (by omega) hu hf hp hs)
      have HCL := Lib.hid (fun (w4 : World) (hp : UPost wr 0 u v (cntL (takeB k s2).2.1 (takeB k s2).2.2 4 246) (cntE (takeB k s2).2.1 (takeB k s2).2.2 4 246) w4) => (show ∃ z, w4.cell? ⟨gr, k, none⟩ = some z ∧ w4.frozen? ⟨gr, k, none⟩ = false by
        obtain ⟨z, h1, h2⟩ := hx.cell hlt
        have hg := lt_of_cell h1
        exact ⟨z, (hp.kp.cell hg (fun e => by have h' : gr = u := e; omega)).trans h1, (hp.kp.frozen hg (fun e => by have h' : gr = u := e; omega)).trans h2⟩))
      clear hu hf hll hx
      go_wp2_with fail
      refine HFX.out.mono ?_
      rintro e w4 ⟨rv, rfl, hsr, hpp⟩
      have HN := Lib.hid (HST.out rv w4 hpp hsr)
      obtain ⟨z, t1, t2⟩ := HCL.out w4 hpp
      obtain ⟨ra, rc, hrv⟩ := sees_form hsr.sees
      clear hsr hpp
      rw [hrv] at HN
      subst hrv
      go_wp2_with fail
      go_roundw
      case rel => exact ⟨k + 1, by omega, by go_num, HN.out⟩
      case measure => simp [intOf]; omega
    · obtain rfl : k = n := by omega
      have HO := Lib.hid (own_rows hx hn1 hB)
      have HU := Lib.hid hx.ux
      clear hx
      go_wp2_with fail
      go_ret
      exact ⟨_, rfl, HO.out, HU.out⟩
end Go.Proofs.Ytleapcbkkggecaa
