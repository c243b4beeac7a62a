/-
  Contract of package block's Row, where all blocks are linked.
-/
import Derived.Test.YtoognhbdgdfkoaaDoorBs
import Derived.Test.YtoognhbdgdfkoaaDoorQk
namespace Go.Proofs.YtoognhbdgdfkoaaDoor
open Go.ChangeShapes Go.WideShapes Go.ChangeAt Go.RowKit

/-- a part of a row loaded, in a drawn region -/
theorem quiet_load_mid {P : Program} {C : World → Prop} {a : Act} {o : Oper} {K : Act → Prop} (ty : TypeId) (x : Operand) (ho : o.op = .load ty x)
    (g off : Nat) (hx : a.eval x = .pointer (some ⟨g, off, none⟩)) (cs : List Value) (d : TypeDesc) (hc : ∀ w, C w → w.rangeAt g off cs)
    (hu : P.underlying ty = some d) (hd : d.isRow = true) (hi : (P.info? ty).map (·.size) = some cs.length)
    (h : K (a.put o.dst (.agg cs.toArray))) : o.quiet P a C K :=
  ⟨.agg cs.toArray, fun w hw => by
    unfold Oper.quietAt execOp
    simp only [ho, hx, Instr.loadAt, Instr.sureAddr, Sem.run_bind, Sem.run_pure, Result.andThen_ok, run_loadVar_mid w g off ty cs d (hc w hw) hu hd hi]
    exact ⟨rfl, rfl⟩, h⟩

/-- newest first, each one may be and is the child of the next one -/
def RowOk (l : List Blk) : Prop := ∀ i b, l[i]? = some b → bchk b = 0 ∧ ∀ j c, j + 1 = i → l[j]? = some c → lnkE c b = 0
theorem RowOk.take {l : List Blk} (h : RowOk l) (n : Nat) : RowOk (l.take n) := fun i b hi => by
  have h1 := (List.getElem?_eq_some_iff.1 hi).1
  rw [List.length_take] at h1
  rw [List.getElem?_take_of_lt (by omega)] at hi
  refine ⟨(h i b hi).1, fun j c hj hc => ?_⟩
  rw [List.getElem?_take_of_lt (by omega)] at hc
  exact (h i b hi).2 j c hj hc
theorem RowOk.drop {l : List Blk} (h : RowOk l) (n : Nat) : RowOk (l.drop n) := fun i b hi => by
  rw [List.getElem?_drop] at hi
  refine ⟨(h _ b hi).1, fun j c hj hc => ?_⟩
  rw [List.getElem?_drop] at hc
  exact (h _ b hi).2 (n + j) c (by omega) hc

set_option maxRecDepth 100000 in
set_option maxHeartbeats 1600000 in
theorem row_any {v : Value} {bs : List (Blk × Value)} {w : World} (hs : SeesBs w v bs) (hb : BsOk w bs) (hok : RowOk (bs.map (·.1))) (hlen : bs.length ≤ 1000) (hR : Rts w) :
    Calls Tryd.prog 30 #[v] w fun e w' => e = .returned (.tuple #[.int .i64 bs.length, .int .i64 0]) ∧ Kp (fun _ => False) w w' := by
  obtain ⟨a, c, rfl⟩ := hs.form
  have HS := Lib.hid hs
  have HB := Lib.hid hb
  have HR := Lib.hid hR
  have HOK := Lib.hid (show ∀ i x, bs[i]? = some x → bchk x.1 = 0 from fun i x hx => (hok i x.1 (by rw [List.getElem?_map, hx]; rfl)).1)
  have HLK := Lib.hid (show ∀ i x y, bs[i]? = some x → bs[i + 1]? = some y → lnkE x.1 y.1 = 0 from fun i x y hx hy => (hok (i + 1) y.1 (by rw [List.getElem?_map, hy]; rfl)).2 i x.1 rfl (by rw [List.getElem?_map, hx]; rfl))
  have hz := zeroBlk
  clear hs hb hok hR
  go_enter Tryd.func30, Tryd.ntmps30
  go_wp2
  go_loopw [9] (fun i wr => ∃ k : Nat, k ≤ bs.length ∧ i = .int .i64 k ∧ Kp (fun _ => False) w wr) (fun i _ => bs.length - (intOf i).toNat)
  case atStart => exact ⟨0, by omega, rfl, Kp.refl _ _⟩
  case round =>
    obtain ⟨k, hk, rfl, hkp⟩ := hrel
    by_cases hlt : k < bs.length
    · obtain ⟨x, hx⟩ : ∃ x, bs[k]? = some x := ⟨bs[k], by simp [hlt]⟩
      obtain ⟨hwf, hsx⟩ := HB.out x (List.mem_of_getElem? hx)
      have hck := HOK.out k x hx
      obtain ⟨g, off, cap, hv, h3⟩ : ∃ g off cap, (Value.slice a bs.length c = .slice (some ⟨g, off, none⟩) bs.length cap) ∧ ∀ w', Kp (fun _ => False) w w' → ∀ i x, bs[i]? = some x → w'.rangeAt g (off + i * 34) (blkC x.1 x.2) := by
        rcases HS.out with ⟨_, e⟩ | ⟨g, off, cap, e, h1, h2, h3⟩
        · rw [e] at hlt; cases hlt
        · exact ⟨g, off, cap, e, fun w' k i x hi j u hj => by
            have hc := h3 i x hi j u hj
            rw [k.cell (lt_of_cell hc) (fun f => f)]; exact hc⟩
      injection hv with hv1 hv2 hv3
      subst hv1 hv3
      obtain ⟨ax, cx, hxv⟩ := sees_form hsx
      have hRG := h3 wr hkp k x hx
      rw [hxv] at hRG
      have HR3 := Lib.hid h3
      have HRG := Lib.hid hRG
      have HW := Lib.hid hwf
      have HI := Lib.hid (fun v => (by have := infoBlk hwf.nm.len v; rw [List.size_toArray] at this; exact this : (Tryd.prog.info? 26).map (·.size) = some (blkC x.1 v).length))
      have HX := Lib.hid hx
      have HK := Lib.hid hkp
      have HQ := Lib.hid (fun w' (k : Kp (fun _ => False) w w') => check_any (v := .slice ax x.1.d.length cx) hwf (by rw [← hxv]; exact hsx.kept k (fun _ _ _ f => f)))
      have HSX := Lib.hid (fun w' (k : Kp (fun _ => False) w w') => (by rw [← hxv]; exact hsx.kept k (fun _ _ _ f => f) : Sees w' (.slice ax x.1.d.length cx) x.1.d))
      rw [hck] at HQ
      clear h3 hsx hwf hx hkp hxv hRG hck
      go_wp2_with (first
        | ((with_reducible refine at_dst 13 ?_); refine wpList_load_mid rfl 26 _ rfl g (off + k * 34) rfl (blkC x.1 (.slice ax x.1.d.length cx)) _ HRG.out Tryd.underlying26 rfl (HI.out _) ?_)
        | ((with_reducible refine at_store 5 13 ?_); refine wpList_store_fresh rfl 26 _ _ rfl (blkC x.1 (.slice ax x.1.d.length cx)).toArray rfl rfl 26 _ (by rw [List.size_toArray]; exact HI.out _) (by rw [List.size_toArray, List.size_toArray, blkC_length HW.out.nm.len]; rfl) blkC_one ?_; intro w2 k2 m2 s2; have M2 := Lib.hid (BlkAt.mk m2 HW.out.nm.len); have K2 := Lib.hid (HK.out.trans k2 (fun _ _ f => f)); clear m2 s2 k2)
        | ((with_reducible refine at_dst 14 ?_); refine wpList_load_row rfl 26 _ rfl wr.heap.size rfl 26 _ (0, 0) _ M2.out.row Tryd.underlying26 rfl (by rw [List.size_toArray]; exact HI.out _) ?_))
      refine (HQ.out _ K2.out).mono ?_
      rintro e w3 ⟨rfl, k3⟩
      have M3 := Lib.hid (M2.out.kept k3 (fun f => f))
      have K3 := Lib.hid (K2.out.trans k3 (fun _ _ f => f))
      clear k3
      by_cases hk0 : k = 0
      · subst hk0
        go_wp2_with fail
        go_roundw
        case rel => exact ⟨1, by omega, rfl, K3.out⟩
        case measure => simp [intOf]; omega
      · obtain ⟨m, rfl⟩ : ∃ m, k = m + 1 := ⟨k - 1, by omega⟩
        obtain ⟨y, hy⟩ : ∃ y, bs[m]? = some y := ⟨bs[m], by simp [show m < bs.length by omega]⟩
        obtain ⟨hwy, hsy⟩ := HB.out y (List.mem_of_getElem? hy)
        obtain ⟨ay, cy, hyv⟩ := sees_form hsy
        have hly := HLK.out m y x hy HX.out
        have HYR := Lib.hid (fun w' (k : Kp (fun _ => False) w3 w') => (by have := HR3.out w' (K3.out.trans k (fun _ _ f => f)) m y hy; rw [hyv] at this; exact this : w'.rangeAt g (off + m * 34) (blkC y.1 (.slice ay y.1.d.length cy))))
        have HYI := Lib.hid (fun v => (by have := infoBlk hwy.nm.len v; rw [List.size_toArray] at this; exact this : (Tryd.prog.info? 26).map (·.size) = some (blkC y.1 v).length))
        have HLQ := Lib.hid (fun w' (k : Kp (fun _ => False) w3 w') => linked_any (va := .slice ay y.1.d.length cy) (vb := .slice ax x.1.d.length cx) hwy HW.out (by rw [← hyv]; exact hsy.kept (K3.out.trans k (fun _ _ f => f)) (fun _ _ _ f => f)) (HSX.out _ (K3.out.trans k (fun _ _ f => f))) (HR.out.kept (K3.out.trans k (fun _ _ f => f)) (fun _ _ f => f)))
        rw [hly] at HLQ
        unfold blkV at HLQ
        have HMR := Lib.hid (fun w' (k : Kp (fun _ => False) w3 w') => (M3.out.kept k (fun f => f)).row)
        have e1 : IntKind.i64.wrap ((m : Int) + 1 - 1) = m := by rw [show ((m : Int) + 1 - 1) = (m : Int) by omega]; exact IntWalk.i64_in _ (by omega)
        have e2 : IntKind.i64.wrap (((m + 1 : Nat) : Int) - 1) = m := by rw [show (((m + 1 : Nat) : Int) - 1) = (m : Int) by omega]; exact IntWalk.i64_in _ (by omega)
        have p0 : (0 : Int) ≤ m := by omega
        have p1 : (m : Int) < bs.length := by omega
        obtain ⟨gx, hgx⟩ : ∃ g, g = wr.heap.size := ⟨_, rfl⟩
        clear hwy hsy hyv hly hy
        go_upto_region 6 with (fail)
        rw [← hgx] at HMR ⊢
        refine wp_kept (W := w3) (by kernel_rfl) (by kernel_rfl) (Kp.refl _ _) ?_
        repeat (first
          | go_big_quiet_skip
          | (go_big_quiet_want; refine quiet_load_mid 26 _ rfl g (off + m * 34) rfl (blkC y.1 (.slice ay y.1.d.length cy)) _ HYR.out Tryd.underlying26 rfl (HYI.out _) ?_; (simp only [Act.put, List.setIfInBounds_toArray, List.set_cons_zero, List.set_cons_succ]); go_big_quiet_on)
          | (go_big_quiet_want; refine quiet_load_row 26 _ rfl gx rfl 26 _ (0, 0) _ HMR.out Tryd.underlying26 rfl (by rw [List.size_toArray]; exact HI.out _) ?_; (simp only [Act.put, List.setIfInBounds_toArray, List.set_cons_zero, List.set_cons_succ]); go_big_quiet_on)
          | (go_big_quiet_want; go_big_quiet_op; first | go_big_quiet_on | go_big_quiet_call ((intro hk; first
              | with_reducible rfl
              | (go_at_call 28; exact (HLQ.out _ hk).mono (fun e w' h => ⟨h.1, hk.trans h.2 (fun _ _ f => f)⟩))))))
        refine wpQuiet_nil ?_
        intro w4 k4
        have K4 := Lib.hid (K3.out.trans k4 (fun _ _ f => f))
        clear k4 e1 e2
        go_wp2_with fail
        go_roundw
        case rel => exact ⟨m + 1 + 1, by omega, by go_num, K4.out⟩
        case measure => simp [intOf]; omega
    · obtain rfl : k = bs.length := by omega
      go_wp2
      go_ret2
      exact ⟨rfl, hkp⟩
end Go.Proofs.YtoognhbdgdfkoaaDoor
