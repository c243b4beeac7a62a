/-
  BlockChain's walk.
-/
import Derived.Test.YtoognhbdgdfkoaaDoorBx
import Derived.Test.YtoognhbdgdfkoaaDoorPc
namespace Go.Proofs.YtoognhbdgdfkoaaDoor
open Go.ChangeShapes Go.WideShapes Go.ChangeAt Go.RowKit

theorem seesA_kept {w w' : World} {v : Value} {ls : List (List Int)} (h : SeesA w v ls) (k : Kp (fun _ => False) w w') : SeesA w' v ls := by
  rcases h with h | ⟨ad, cap, rfl, h1, h2, h3⟩
  · exact .inl h
  · exact .inr ⟨ad, cap, rfl, h1, h2, fun i l hi => by
      obtain ⟨u, hc, hs⟩ := h3 i l hi
      exact ⟨u, by rw [k.cell (lt_of_cell hc) (fun f => f)]; exact hc, hs.kept k (fun _ _ _ f => f)⟩⟩
/-- the row of blocks behind k data, its newest one in the variable's block too -/
structure ChRel (w : World) (g5 k : Nat) (a : Option Addr) (c : Nat) (bs : List (Blk × Value)) (b : Blk) (bv : Value) (wr : World) : Prop where
  head : ∃ r, bs = (b, bv) :: r
  len : bs.length = k + 1
  sees : SeesBs wr (.slice a (k + 1) c) bs
  ok : BsOk wr bs
  row : RowOk (bs.map (·.1))
  ht : b.h = k
  at5 : BlkAt wr g5 b bv
  kp : Kp (fun _ => False) w wr
  ne : ∀ g, (Value.slice a (k + 1) c).ownBlock = some g → g ≠ g5
  nd : ∀ x ∈ bs, ∀ g, x.2.ownBlock = some g → g ≠ g5
theorem BsOk.kept_of {F : Nat → Prop} {w w' : World} {bs : List (Blk × Value)} (h : BsOk w bs) (k : Kp F w w') (hF : ∀ x ∈ bs, ∀ g, x.2.ownBlock = some g → ¬ F g) : BsOk w' bs :=
  fun x hx => ⟨(h x hx).1, (h x hx).2.kept k (fun _ => hF x hx)⟩
theorem RowOk.cons {b : Blk} {l : List Blk} (h : RowOk l) (hb : bchk b = 0) (hl : ∀ c, l[0]? = some c → lnkE b c = 0) : RowOk (b :: l) := fun i x hi => by
  match i, hi with
  | 0, hi =>
    cases hi
    exact ⟨hb, fun j c hj => by omega⟩
  | i + 1, hi =>
    have hi' : l[i]? = some x := hi
    refine ⟨(h i x hi').1, fun j c hj hc => ?_⟩
    match j, hj, hc with
    | 0, hj, hc =>
      cases hc
      obtain rfl : i = 0 := by omega
      exact hl x hi'
    | j + 1, hj, hc => exact (h i x hi').2 j c (by omega) hc
theorem blk1_chk0 : bchk (blk1 []) = 0 := by decide
theorem nil_rng : Rng [] := fun _ h => by cases h

set_option maxRecDepth 100000 in
set_option maxHeartbeats 6400000 in
theorem chain_law (v0 : Value) (ls : List (List Int)) (m : Int) (hm0 : 0 ≤ m) (hm1 : m ≤ 255) (w : World) (hs : SeesA w v0 ls) (hr : ∀ l ∈ ls, Rng l) (hR : Rts w) :
    Calls Tryd.prog 7 #[v0, .int .u8 m] w fun e w' => e = .returned (.bool true) ∧ Kp (fun _ => False) w w' := by
  obtain ⟨a0, c0, rfl⟩ : ∃ a c, v0 = .slice a ls.length c := by
    rcases hs with ⟨rfl, rfl⟩ | ⟨ad, cap, rfl, _⟩
    · exact ⟨none, 0, rfl⟩
    · exact ⟨_, _, rfl⟩
  have SL := Lib.hid (fun w' (k : Kp (fun _ => False) w w') => seesA_kept hs k)
  have HR := Lib.hid (fun w' (k : Kp (fun _ => False) w w') => hR.kept k (fun _ _ f => f))
  have HRL := Lib.hid hr
  have hz := zeroBlk
  have W0 := Lib.hid (blk1_wf nil_rng)
  have I0 := Lib.hid (fun v => infoBlk (b := blk1 []) rfl v)
  have HM0 := Lib.hid hm0
  have HM1 := Lib.hid hm1
  clear hs hr hR
  go_enter Tryd.func7, Tryd.ntmps7
  go_wp2_with fail
  refine (blive_any _ (HR.out _ (Kp.refl _ _))).mono ?_
  rintro e w1 ⟨rfl, k⟩
  have K1 := Lib.hid k
  clear k
  by_cases hbig : 20 < ls.length
  · have hd : decide ((20 : Int) < ls.length) = true := by simp; omega
    go_wp2_with fail
    refine (blive_any _ (HR.out _ K1.out)).mono ?_
    rintro e w3 ⟨rfl, k⟩
    have K4 := Lib.hid (K1.out.trans k (fun _ _ f => f))
    clear k
    go_wp2_with fail
    go_ret
    exact ⟨rfl, K4.out⟩
  have hd : decide ((20 : Int) < ls.length) = false := by simp; omega
  have hn : ls.length ≤ 20 := by omega
  have HN := Lib.hid hn
  have QF := first_any (w := w1) (d := []) nil_rng (.inl ⟨rfl, rfl⟩ : Sees w1 (.slice none 0 0) [])
  rw [blk1_chk0] at QF
  have QF' := Lib.hid (show Calls Tryd.prog 12 #[.slice none 0 0] w1 (NewBlkE w1 (blk1 []) 0) from QF)
  clear QF hbig
  go_wp2_with fail
  refine QF'.out.mono ?_
  rintro e w2 ⟨v2, rfl, own, k⟩
  obtain ⟨a2, c2, rfl⟩ := sees_form own.sees
  have O2 := Lib.hid own
  have K2 := Lib.hid (K1.out.trans k (fun _ _ f => f))
  clear own k
  unfold blkV
  have HMK := Lib.hid (fun w => mks1 (a := blk1 []) rfl (.slice a2 (blk1 []).d.length c2) w)
  go_upto_region 7 with (first
    | ((with_reducible refine at_store 5 26 ?_); refine wpList_store_fresh rfl 26 _ _ rfl (blkC (blk1 []) (.slice a2 (blk1 []).d.length c2)).toArray rfl rfl 26 _ (I0.out _) (by rw [List.size_toArray, List.size_toArray, blkC_length W0.out.nm.len]; rfl) blkC_one ?_; intro w3 k3 m3 s3; have B3 := Lib.hid (BlkAt.mk m3 W0.out.nm.len); have O3 := Lib.hid (O2.out.kept k3 (fun _ _ f => f)); have K3 := Lib.hid (K2.out.trans k3 (fun _ _ f => f)); have S3 := Lib.hid s3; clear s3; clear m3 k3)
    | ((with_reducible refine at_dst 30 ?_); refine wpList_load_row rfl 26 _ rfl (w2.heap.size) rfl 26 _ (0, 0) _ B3.out.row Tryd.underlying26 rfl (I0.out _) ?_)
    | ((with_reducible refine at_dst 31 ?_); refine wpList_slice_run rfl _ _ _ rfl _ rfl _ _ (HMK.out _) ?_))
  have kn : Kp (fun _ => False) w3 (w3.alloc (.cells (blkC (blk1 []) (.slice a2 (blk1 []).d.length c2)).toArray 26)) := (Kp.refl _ _).alloc _
  have hst : ChRel w w2.heap.size 0 (some ⟨w3.heap.size, 0, none⟩) 1 [(blk1 [], .slice a2 (blk1 []).d.length c2)] (blk1 []) (.slice a2 (blk1 []).d.length c2) (w3.alloc (.cells (blkC (blk1 []) (.slice a2 (blk1 []).d.length c2)).toArray 26)) := by
    have h5 := B3.out.lt
    refine ⟨⟨[], rfl⟩, rfl, one_row w3 (a := blk1 []) _ rfl, ?_, ?_, rfl, B3.out.kept kn (fun f => f), K3.out.trans kn (fun _ _ f => f), ?_, ?_⟩
    · intro x hx
      obtain rfl := List.mem_singleton.1 hx
      exact ⟨W0.out, (O3.out.kept kn (fun _ _ f => f)).sees⟩
    · exact RowOk.cons (l := []) (fun i b h => by cases h) blk1_chk0 (fun c h => by cases h)
    · intro g hg e
      have hg' : w3.heap.size = g := Option.some.inj hg
      have := K3.out.size
      omega
    · intro x hx g hg e
      obtain rfl := List.mem_singleton.1 hx
      have := (O2.out.lt g hg).2
      omega
  have HST := Lib.hid hst
  clear hst kn
  go_wp2_with fail
  go_loopw [7, 34] (fun v i wr => ∃ k : Nat, k ≤ ls.length ∧ i = .int .i64 k ∧ ∃ a c bs b bv, v = .slice a (k + 1) c ∧ ChRel w w2.heap.size k a c bs b bv wr) (fun _ i _ => ls.length - (intOf i).toNat)
  case atStart => exact ⟨0, by omega, rfl, _, _, _, _, _, rfl, HST.out⟩
  case round =>
    obtain ⟨k, hk, rfl, a, c, bs, b, bv, rfl, hch⟩ := hrel
    by_cases hlt : k < ls.length
    · obtain ⟨l, hl⟩ : ∃ l, ls[k]? = some l := ⟨ls[k], by simp [hlt]⟩
      have hlr := HRL.out l (List.mem_of_getElem? hl)
      obtain ⟨bb, off, u, hav, hcu, hsu⟩ : ∃ bb off u, a0 = some ⟨bb, off, none⟩ ∧ wr.cell? ⟨bb, off + k, none⟩ = some u ∧ ∀ w', Kp (fun _ => False) w w' → Sees w' u l := by
        rcases SL.out w (Kp.refl _ _) with ⟨_, e⟩ | ⟨ad, cap, e, _, _, h3⟩
        · rw [e] at hlt; cases hlt
        · injection e with e1 _ _
          obtain ⟨u, hcu, hsu⟩ := h3 k l hl
          have hc' := hcu
          rw [← hch.kp.cell (lt_of_cell hcu) (fun f => f)] at hc'
          obtain ⟨bb, off, sp⟩ := ad
          obtain ⟨l0, hl0⟩ : ∃ l, ls[0]? = some l := ⟨ls[0], by simp [show 0 < ls.length by omega]⟩
          obtain ⟨_, hc0, _⟩ := h3 0 l0 hl0
          have hsp := spot_of_cell hc0
          have hsp' : sp = none := by simpa [Addr.add] using hsp
          subst hsp'
          rw [Addr.add_lit] at hc'
          exact ⟨bb, off, u, e1, hc', fun w' k' => hsu.kept k' (fun _ _ _ f => f)⟩
      subst hav
      obtain ⟨au, cu, rfl⟩ := sees_form (hsu w (Kp.refl _ _))
      have hd2 : decide ((k : Int) < ls.length) = true := by simp; omega
      have hn2 := HN.out
      have HSU := Lib.hid hsu
      have HLR := Lib.hid hlr
      have HCH := Lib.hid hch
      clear hl hlr hsu hch
      by_cases hll : 200 < l.length
      · have hll' : (200 : Int) < l.length := by omega
        go_wp2_with fail
        go_ret
        exact ⟨rfl, HCH.out.kp⟩
      · have hll' : ¬ (200 : Int) < l.length := by omega
        obtain ⟨r, hbs⟩ := HCH.out.head
        have hbok := HCH.out.ok (b, bv) (by rw [hbs]; exact List.mem_cons_self ..)
        have hb0 : bchk b = 0 := (HCH.out.row 0 b (by rw [hbs]; rfl)).1
        have hhk := HCH.out.ht
        have hmx : b.h ≠ 9223372036854775807 := by omega
        have hce : chdE b l = 0 := (chdE_good hb0 hmx).2 hll
        have hcw := chd_wf hbok.1 hmx HLR.out
        have hck : bchk (chd b l) = 0 := by rw [chd_chk hb0 hmx]; exact hce
        have hlk : lnkE (chd b l) b = 0 := lnkE_yes hck hb0 rfl (by show b.h + 1 - 1 = b.h; omega)
        obtain ⟨ab, cb, hbv⟩ := sees_form hbok.2
        have hbk : b.wf ∧ Sees wr bv b.d := hbok
        have hbv' : bv = .slice ab b.d.length cb := hbv
        clear hbok hbv
        subst hbv'
        have hbok := hbk
        clear hbk
        have qc := child_any hbok.1 HLR.out hbok.2 (HSU.out wr HCH.out.kp) (HR.out _ HCH.out.kp)
        rw [hce] at qc
        have QC := Lib.hid (show Calls Tryd.prog 26 #[blkV b (.slice ab b.d.length cb), .slice au l.length cu] wr (NewBlkE wr (chd b l) 0) from qc)
        have IB := Lib.hid (fun v => infoBlk hbok.1.nm.len v)
        have IC := Lib.hid (fun v => infoBlk hcw.nm.len v)
        have WC := Lib.hid hcw
        have HCK := Lib.hid hck
        have HLK := Lib.hid hlk
        have HBS := Lib.hid hbs
        have A5 := Lib.hid HCH.out.at5
        have HH := Lib.hid (show (chd b l).h = k + 1 by show b.h + 1 = _; rw [hhk])
        clear hbs hbok hb0 hhk hmx hce hcw hck hlk qc
        go_wp2_with ((with_reducible refine at_dst 43 ?_); refine wpList_load_row rfl 26 _ rfl (w2.heap.size) rfl 26 _ (0, 0) _ A5.out.row Tryd.underlying26 rfl (IB.out _) ?_)
        refine QC.out.mono ?_
        rintro e w4 ⟨v4, rfl, own, k4⟩
        obtain ⟨a4, c4, rfl⟩ := sees_form own.sees
        have hr4 := A5.out.kept k4 (fun f => f)
        have k5 : Kp (fun y => y = w2.heap.size) w4 (w4.setRow w2.heap.size (blkC (chd b l) (.slice a4 (chd b l).d.length c4)).toArray) := (Kp.refl (fun y => y = w2.heap.size) w4).setRow (fun _ => rfl) _
        have h5 := A5.out.lt
        have hw2 : w.heap.size ≤ w2.heap.size := K2.out.size
        have ho5 := own.kept k5 (fun g hg (e : g = w2.heap.size) => by have := (own.lt g hg).1; omega)
        have hsb := (HCH.out.sees.kept k4 (fun _ _ _ f => f)).kept k5 (fun _ g hg e => HCH.out.ne g hg e)
        have hok5 := (HCH.out.ok.kept k4).kept_of k5 (fun x hx g hg e => HCH.out.nd x hx g hg e)
        have hat5 : BlkAt (w4.setRow w2.heap.size (blkC (chd b l) (.slice a4 (chd b l).d.length c4)).toArray) w2.heap.size (chd b l) (.slice a4 (chd b l).d.length c4) := ⟨setRow_blk hr4.row, WC.out.nm.len⟩
        have kw5 : Kp (fun _ => False) w (w4.setRow w2.heap.size (blkC (chd b l) (.slice a4 (chd b l).d.length c4)).toArray) := (HCH.out.kp.trans k4 (fun _ _ f => f)).trans k5 (fun y hy e => by omega)
        have H4 := Lib.hid hr4
        obtain ⟨w5, hw5⟩ : ∃ w5, w5 = w4.setRow w2.heap.size (blkC (chd b l) (.slice a4 (chd b l).d.length c4)).toArray := ⟨_, rfl⟩
        rw [← hw5] at ho5 hsb hok5 hat5 kw5
        have hlen := HCH.out.len
        have hsls := hok5.sls
        rw [show k + 1 = bs.length by omega] at hsb
        obtain ⟨cap6, w6, hap, hs6, k6⟩ := run_prepend (b := chd b l) (a := a4) (n := (chd b l).d.length) (c := c4) WC.out.nm.len hsb hsls (by omega) (by omega)
        rw [show bs.length = k + 1 by omega] at hap hs6
        have hnx : ChRel w w2.heap.size (k + 1) (some ⟨w5.heap.size + 1, 0, none⟩) cap6 ((chd b l, .slice a4 (chd b l).d.length c4) :: bs) (chd b l) (.slice a4 (chd b l).d.length c4) w6 := by
          have h55 := hat5.lt
          refine ⟨⟨bs, rfl⟩, by rw [List.length_cons]; omega, hs6, ?_, ?_, HH.out, hat5.kept k6 (fun f => f), kw5.trans k6 (fun _ _ f => f), ?_, ?_⟩
          · intro x hx
            rcases List.mem_cons.1 hx with rfl | hx
            · exact ⟨WC.out, (ho5.kept k6 (fun _ _ f => f)).sees⟩
            · exact (hok5.kept k6) x hx
          · refine RowOk.cons HCH.out.row HCK.out (fun y hy => ?_)
            rw [HBS.out] at hy
            cases hy
            exact HLK.out
          · intro g hg e
            have hg' : w5.heap.size + 1 = g := Option.some.inj hg
            omega
          · intro x hx g hg e
            rcases List.mem_cons.1 hx with rfl | hx
            · have := (own.lt g hg).1
              omega
            · exact HCH.out.nd x hx g hg e
        have HNX := Lib.hid hnx
        have c32 := hat5.ht
        rw [HH.out] at c32
        have HAP := Lib.hid hap
        have HA5 := Lib.hid hat5
        have HMK5 := Lib.hid (fun w => mks1 (a := chd b l) WC.out.nm.len (.slice a4 (chd b l).d.length c4) w)
        have hkk : (k : Int) + 1 ≤ 21 := by omega
        clear own k4 k5 hr4 ho5 hsb hok5 hat5 kw5 hlen hsls hap hs6 k6 hnx
        unfold blkV
        go_upto_region 13 with ((with_reducible refine at_store 5 46 ?_); refine wpList_store_row rfl 26 _ _ rfl w2.heap.size (blkC (chd b l) (.slice a4 (chd b l).d.length c4)).toArray rfl rfl 26 _ H4.out.row (IC.out _) (by rw [List.size_toArray, List.size_toArray, blkC_length H4.out.len, blkC_length WC.out.nm.len]) blkC_one ?_)
        rw [← hw5]
        clear hw5
        go_wp2_with (first
          | ((with_reducible refine at_dst 57 ?_); refine wpList_load_row rfl 26 _ rfl (w2.heap.size) rfl 26 _ (0, 0) _ HA5.out.row Tryd.underlying26 rfl (IC.out _) ?_)
          | ((with_reducible refine at_dst 58 ?_); refine wpList_slice_run rfl _ _ _ rfl _ rfl _ _ (HMK5.out _) ?_)
          | ((with_reducible refine at_dst 60 ?_); refine Lib.wpList_append_run _ rfl _ _ _ _ rfl _ _ rfl rfl _ _ (HAP.out _) ?_))
        go_roundw
        case rel => exact ⟨k + 1, by omega, by go_num, _, _, _, _, _, rfl, HNX.out⟩
        case measure => simp [intOf]; omega
    · obtain rfl : k = ls.length := by omega
      have hd2 : decide ((ls.length : Int) < ls.length) = false := by simp
      have hn2 := HN.out
      have hm0' := HM0.out
      have hm1' := HM1.out
      have hmw : IntKind.i64.wrap m = m := IntWalk.i64_in m (by omega)
      obtain ⟨kk, hkk, hkl⟩ : ∃ kk : Nat, m.tmod ((ls.length : Int) + 1 + 1) = kk ∧ kk ≤ ls.length + 1 := ⟨(m % ((ls.length : Int) + 1 + 1)).toNat, by
        rw [Int.tmod_eq_emod_of_nonneg hm0', Int.toNat_of_nonneg (Int.emod_nonneg _ (by omega))], by
        have := Int.emod_lt_of_pos m (show (0 : Int) < (ls.length : Int) + 1 + 1 by omega)
        have := Int.emod_nonneg m (show ((ls.length : Int) + 1 + 1) ≠ 0 by omega)
        omega⟩
      have hnz : ((ls.length : Int) + 1 + 1) ≠ 0 := by omega
      have hlen := hch.len
      have q1 := row_any hch.sees hch.ok hch.row (by omega) (HR.out _ hch.kp)
      rw [show (bs.length : Int) = (ls.length : Int) + 1 by omega] at q1
      have Q1 := Lib.hid q1
      obtain ⟨vt, ht, st⟩ := blk_to hch.sees kk (by omega)
      obtain ⟨vf, hf, sf⟩ := blk_from hch.sees kk (by omega)
      have q2 := fun w' (k : Kp (fun _ => False) wr w') => row_any (st.kept k (fun _ _ _ f => f)) (fun x hx => (hch.ok.kept k) x (List.mem_of_mem_take hx)) (by rw [List.map_take]; exact hch.row.take kk) (by rw [List.length_take]; omega) (HR.out _ (hch.kp.trans k (fun _ _ f => f)))
      rw [show (bs.take kk).length = kk by rw [List.length_take]; omega] at q2
      have q3 := fun w' (k : Kp (fun _ => False) wr w') => row_any (sf.kept k (fun _ _ _ f => f)) (fun x hx => (hch.ok.kept k) x (List.mem_of_mem_drop hx)) (by rw [List.map_drop]; exact hch.row.drop kk) (by rw [List.length_drop]; omega) (HR.out _ (hch.kp.trans k (fun _ _ f => f)))
      rw [show ((bs.drop kk).length : Int) = (ls.length : Int) + 1 - kk by rw [List.length_drop]; omega] at q3
      have Q2 := Lib.hid q2
      have Q3 := Lib.hid q3
      have HT := Lib.hid ht
      have HF := Lib.hid hf
      have KW := Lib.hid hch.kp
      clear hch q1 q2 q3 ht hf st sf
      have e1 : IntKind.i64.wrap ((ls.length : Int) + 1 - kk) = (ls.length : Int) + 1 - kk := IntWalk.i64_in _ (by omega)
      go_wp2_with fail
      refine Q1.out.mono ?_
      rintro e w6 ⟨rfl, k6⟩
      have K6 := Lib.hid k6
      have ht := HT.out
      clear k6
      go_wp2_with fail
      refine (Q2.out _ K6.out).mono ?_
      rintro e w7 ⟨rfl, k7⟩
      have K7 := Lib.hid (K6.out.trans k7 (fun _ _ f => f))
      have hf := HF.out
      clear k7 ht
      go_wp2_with fail
      refine (Q3.out _ K7.out).mono ?_
      rintro e w8 ⟨rfl, k8⟩
      have K8 := Lib.hid (K7.out.trans k8 (fun _ _ f => f))
      clear k8 hf
      go_wp2_with fail
      go_ret
      exact ⟨rfl, KW.out.trans K8.out (fun _ _ f => f)⟩
end Go.Proofs.YtoognhbdgdfkoaaDoor
