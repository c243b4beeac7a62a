/-
  The iterator that All gives: what it tells.
-/
import Derived.Test.YtpadabmbblcklaaEyb
namespace Go.Proofs.Ytpadabmbblcklaa
open Go.RowKit Go.Shelf

attribute [local go_sem] Oper.semAt_some

theorem round_any {l' m m' : Nat} {P : Program} {l : Nat} {f : FuncId} {tmps : Array Value} {assign body : Code} {w : World} {R : Ending → World → Prop}
    (h : RoundIn Fence.wide m P l f tmps assign body w R) : RoundIn (Fence.wide.inRound l') m' P l f tmps assign body w R := ⟨h.1, fun c cs _ => h.2 c cs (fun d h => by cases h)⟩
theorem blk_grownZ {w w' : World} {g t : Nat} {cs : Array Value} {fr : Nat × Nat} {row : Option Nat} (h : w.heap[g]? = some (.cells cs t fr)) (hg : w.grownBy w' row) (hr : ∀ r, row = some r → ∃ o : Obj, w.heap[r]? = some o ∧ o.isCells = false) : w'.heap[g]? = some (.cells cs t fr) := by
  rw [hg.block g (lt_of_blk h) (fun e => by
    obtain ⟨o, ho, hc⟩ := hr g e.symm
    rw [h] at ho; cases ho; cases hc)]
  exact h
def tellF (l : List (Int × Int)) : List (Int × Int) := l.filter (fun x => decide (0 < x.2))
theorem tellF_yes {l : List (Int × Int)} {x : Int × Int} (h : 0 < x.2) : tellF (l ++ [x]) = tellF l ++ [x] := by simp [tellF, h]
theorem tellF_no {l : List (Int × Int)} {x : Int × Int} (h : ¬ 0 < x.2) : tellF (l ++ [x]) = tellF l := by simp [tellF, h]
theorem tellF_len (l : List (Int × Int)) : (tellF l).length ≤ l.length := List.length_filter_le _ _

set_option maxRecDepth 100000 in
set_option maxHeartbeats 4000000 in
theorem all1_tells (n : Nat) (hn : 3 ≤ n) (B : Nat) (v : Value) (cs : List Int) (w : World) (hc : w.cell? ⟨B, 0, none⟩ = some v) (hs : SeesZ .i64 w v cs) :
    TellsO Fence.wide n Try.prog 41 #[.pointer (some ⟨B, 0, none⟩)] (fun x : Int × Int => #[Value.int .i64 x.1, Value.int .i64 x.2]) (RowR B v cs) (fun ys => ys = tellL cs) (fun pre => pre <+: tellL cs) cs.length w := by
  intro lp J Jx W hW hlp hJ hJx hY h0
  have kW : Kp (fun _ => False) w W := (Kp.of_below hW).mono (fun x hx h => by omega)
  have hcW : W.cell? ⟨B, 0, none⟩ = some v := by rw [kW.cell (lt_of_cell hc) (fun f => f)]; exact hc
  have hsW := hs.kept kW
  obtain ⟨a, c, rfl, hlc, hmax, _⟩ := hs.form
  have hcb : (W.alloc (.cells #[.func (.yield lp) #[] #[]] 74)).cell? ⟨B, 0, none⟩ = some (.slice a cs.length c) := by
    rw [((Kp.refl (fun _ => False) W).alloc _).cell (lt_of_cell hcW) (fun f => f)]; exact hcW
  have HYH := Lib.hid hY
  have HJ := Lib.hid hJ
  have HJX := Lib.hid hJx
  have H0 := Lib.hid h0
  have HSW := Lib.hid hsW
  clear hY hJ hJx hs hsW hc kW h0 hcW hW
  obtain ⟨w1, hw1⟩ : ∃ w1, w1 = (W.alloc (.cells #[.func (.yield lp) #[] #[]] 74)).alloc (.cells #[.slice a cs.length c] 37) := ⟨_, rfl⟩
  have k1 : Kp (fun _ => False) W w1 := by rw [hw1]; exact ((Kp.refl _ W).alloc _).alloc _
  have s1 : w1.heap.size = W.heap.size + 2 := by rw [hw1]; simp
  have HBX := Lib.hid (show w1.heap[W.heap.size]? = some (.cells #[.func (.yield lp) #[] #[]] 74 (0, 0)) by rw [hw1]; exact old_blk (new_blk W _) _)
  have HC1 := Lib.hid (show w1.cell? ⟨W.heap.size + 1, 0, none⟩ = some (.slice a cs.length c) by
    have := cell_blk (new_blk (W.alloc (.cells #[.func (.yield lp) #[] #[]] 74)) (.cells #[.slice a cs.length c] 37)) 0
    rw [World.size_alloc] at this
    rw [hw1]; exact this)
  have HS1 := Lib.hid (HSW.out.kept k1)
  have HW1 := Lib.hid hw1
  have HK1 := Lib.hid k1
  clear k1
  refine callsIn_of_wp_marks Try.func41 rfl trivial ?_ rfl
  simp only [Try.ntmps41, List.size_toArray, List.length_cons, List.length_nil, Nat.reduceAdd, Nat.reduceSub, Array.replicate_succ, Array.replicate_zero, List.push_toArray, List.append_toArray, List.nil_append, List.cons_append]
  gi_wp2_with (refine ⟨trivial, (fun h => by cases h), ?_⟩; gi_at_call 42; refine (callsIn_wide.2 (sall_any a cs.length c _)).mono ?_; rintro e w2 ⟨rfl, rfl⟩)
  show Code.wpIn _ _ _ _ _ _ ((W.alloc (.cells #[.func (.yield lp) #[] #[]] 74)).alloc (.cells #[.slice a cs.length c] 37))
  rw [← HW1.out]
  refine wpIn_rangeFunc_ownG rfl (by omega) (gf := 56) (lb := #[.pointer (some ⟨W.heap.size + 1, 0, none⟩)]) rfl trivial (enters_of Try.func56 (by kernel_rfl) rfl)
    (sall1_stops Fence.wide _ trivial rfl (by omega) (W.heap.size + 1) _ cs w1 (fun X Y => SeesZ .i64 X (.slice a cs.length c) cs → SeesZ .i64 Y (.slice a cs.length c) cs) (fun _ _ h => h) HC1.out HS1.out)
    (fun h k e => k (h e)) (fun Wx q o o' hq ho hoc _ e => e.grown (grownBy_putObj' Wx q o') (fun r er => by cases er; exact ⟨_, ho, hoc⟩)) (Below.refl _ _) (fun _ => rfl)
    (fun pre Wx => J w1.heap.size (tellF pre) Wx ∧ Wx.heap[W.heap.size]? = some (.cells #[.func (.yield lp) #[] #[]] 74 (0, 0)) ∧ w1.heap.size ≤ Wx.heap.size)
    (fun k pre Wx => k = .ret ∧ Jx w1.heap.size (tellF pre) Wx)
    (fun s X Y row h hg hr => ⟨HJ.out _ (tellF s) X Y row h.1 hg (fun r e => ⟨by have := (hr r e).1; omega, (hr r e).2⟩), blk_grownZ h.2.1 hg (fun r e => (hr r e).2), Nat.le_trans h.2.2 hg.size⟩)
    (fun k s X Y row h hg hr => ⟨h.1, HJX.out _ (tellF s) X Y row h.2 hg (fun r e => ⟨by have := (hr r e).1; omega, (hr r e).2⟩)⟩)
    ?start
    (fun x => { tmps := #[.func (.yield lp) #[] #[], .pointer (some ⟨B, 0, none⟩), .pointer (some ⟨W.heap.size, 0, none⟩), .int .i64 x.1, .int .i64 x.2, .slice a cs.length c, .func (.func 56) #[] #[.pointer (some ⟨W.heap.size + 1, 0, none⟩)], .int .i64 x.1, .int .i64 x.2, undef, undef, undef, undef, undef, undef, undef, undef, undef], defers := [] }) ?assign ?body ?done ?stop
  case start =>
    refine ⟨?_, HBX.out, Nat.le_refl _⟩
    exact HJ.out _ [] W w1 none (H0.out _) (grown_of_kpZ HK1.out) (fun r e => by cases e)
  case assign =>
    intro l x W K hK
    gi_wp2
    exact hK
  case body =>
    rintro q pre x Wx ⟨hJp, hbx, hsz⟩ hlen
    have hcy : Wx.cell? ⟨W.heap.size, 0, none⟩ = some (.func (.yield lp) #[] #[]) := cell_blk hbx 0
    by_cases hpos : 0 < x.2
    · obtain ⟨fn, tmps, assign, body, hy, hRR⟩ := HYH.out w1.heap.size (tellF pre) x Wx hJp (by omega) hsz (by have := tellF_len pre; omega)
      have HR2 := Lib.hid hRR
      have HBX2 := Lib.hid hbx
      have HT := Lib.hid (tellF_yes (l := pre) hpos)
      clear hRR hbx hJp
      gi_wp2
      refine ⟨(fun h => by cases h), (round_any HR2.out).mono ?_⟩
      rintro e W3 (⟨rfl, hJ3, hR3, hst⟩ | ⟨rfl, hJx3, hst⟩)
      · have HF := Lib.hid (show KeepsFrom w1.heap.size Wx W3 ∧ (SeesZ .i64 Wx (.slice a cs.length c) cs → SeesZ .i64 W3 (.slice a cs.length c) cs) ∧ (J w1.heap.size (tellF (pre ++ [x])) W3 ∧ W3.heap[W.heap.size]? = some (.cells #[.func (.yield lp) #[] #[]] 74 (0, 0)) ∧ w1.heap.size ≤ W3.heap.size) from
          ⟨⟨hst.size, fun k o hk ho hc => hst.same k o (by omega) ho hc⟩, hR3.2, by rw [HT.out]; exact hJ3, by rw [hst.band W.heap.size (Nat.le_refl _) (by omega)]; exact HBX2.out, Nat.le_trans hsz hst.size⟩)
        clear hJ3 hR3 hst
        gi_wp2
        exact HF.out
      · have HF := Lib.hid (show KeepsFrom w1.heap.size Wx W3 ∧ Jx w1.heap.size (tellF (pre ++ [x])) W3 from
          ⟨⟨hst.size, fun k o hk ho hc => hst.same k o (by omega) ho hc⟩, by rw [HT.out]; exact hJx3⟩)
        clear hJx3 hst
        gi_wp2
        exact ⟨HF.out.1, rfl, HF.out.2⟩
    · have HF := Lib.hid (show KeepsFrom w1.heap.size Wx Wx ∧ (SeesZ .i64 Wx (.slice a cs.length c) cs → SeesZ .i64 Wx (.slice a cs.length c) cs) ∧ (J w1.heap.size (tellF (pre ++ [x])) Wx ∧ Wx.heap[W.heap.size]? = some (.cells #[.func (.yield lp) #[] #[]] 74 (0, 0)) ∧ w1.heap.size ≤ Wx.heap.size) from
        ⟨KeepsFrom.refl _ _, id, by rw [tellF_no hpos]; exact hJp, hbx, hsz⟩)
      clear hJp hbx
      gi_wp2
      refine ⟨(fun f h => by cases h), ?_⟩
      gi_wp2
      exact HF.out
  case done =>
    rintro D ys Wx hD rfl ⟨hJp, _, _⟩ hK
    have HF := Lib.hid (HJ.out w1.heap.size _ _ _ (some D) hJp (grownBy_putObj' Wx D (.deferred none)) (fun r e => by cases e; exact ⟨by omega, _, hK, rfl⟩))
    clear hJp
    gi_wp2
    refine ⟨by simp, .inl ⟨_, _, rfl, run_takeDeferred hK, ?_⟩⟩
    exact ⟨_, results_none rfl _ _ _, ⟨_, rfl⟩, .inl ⟨_, _, rfl, HF.out⟩⟩
  case stop =>
    rintro D k pre Wx hD hpre ⟨rfl, hJp⟩ hK
    have HF := Lib.hid (HJX.out w1.heap.size _ _ _ (some D) hJp (grownBy_putObj' Wx D (.deferred none)) (fun r e => by cases e; exact ⟨by omega, _, hK, rfl⟩))
    have HPR := Lib.hid (show tellF pre <+: tellL cs from hpre.filter _)
    clear hJp hpre
    gi_wp2
    refine ⟨by simp, .inl ⟨_, _, rfl, run_takeDeferred hK, ?_⟩⟩
    exact ⟨_, results_none rfl _ _ _, ⟨_, rfl⟩, .inr ⟨_, _, HPR.out, HF.out⟩⟩
end Go.Proofs.Ytpadabmbblcklaa
