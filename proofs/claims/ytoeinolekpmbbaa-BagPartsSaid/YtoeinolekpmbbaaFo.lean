/-
  Package bag's Merge: two bags in one.
-/
import Derived.Test.YtoeinolekpmbbaaFf
import Derived.Test.YtoeinolekpmbbaaFh
namespace Go.Proofs.Ytoeinolekpmbbaa
open Go.ChangeShapes Go.WideShapes Go.ChangeAt Go.RowKit

theorem gathV_snoc {base l : List Vt} {k : Nat} {x : Vt} (hx : l[k]? = some x) : gathV base (l.take (k + 1)) = gath (gathV base (l.take k)) x.id x.n := by
  rw [take_snoc hx]
  simp [gathV]
theorem gathV_app (base a b : List Vt) : gathV base (a ++ b) = gathV (gathV base a) b := by simp [gathV]
theorem gathV_cnt : ∀ (vs base : List Vt) (k : List Int), Uniq vs → cntV (gathV base vs) k = cntV base k + cntV vs k
  | [], base, k, _ => by simp [gathV, cntV]
  | x :: r, base, k, hu => by
    obtain ⟨h1, h2⟩ : x.id ∉ r.map (·.id) ∧ (r.map (·.id)).Nodup := List.nodup_cons.1 (show ((x :: r).map (·.id)).Nodup from hu)
    rw [show gathV base (x :: r) = gathV (gath base x.id x.n) r from rfl, gathV_cnt r _ k h2, gath_cnt]
    by_cases h : k = x.id
    · subst h
      have h0 : cntV r x.id = 0 := cntV_none (fun y hy e => h1 (by rw [← e]; exact List.mem_map_of_mem hy))
      simp [cntV, h0]
    · have h' : ¬ x.id = k := fun e => h e.symm
      simp [cntV, h, h']
theorem MadeT.nil (B : Nat) (w : World) : MadeT B w (.slice none 0 0) [] := ⟨SeesT.nil w, .inl rfl⟩
theorem gathV_len : ∀ (vs base : List Vt), (gathV base vs).length ≤ base.length + vs.length
  | [], base => by simp [gathV]
  | x :: r, base => by
    have h1 := gathV_len r (gath base x.id x.n)
    have h2 := gath_length base x.id x.n
    rw [show gathV base (x :: r) = gathV (gath base x.id x.n) r from rfl, List.length_cons]
    omega
/-- what was gathered behind so many of two bags -/
def pre2 (A B : List Vt) : Nat → List Vt
  | 0 => []
  | 1 => A
  | _ => A ++ B
theorem part2 {A B : List Vt} {k : Nat} (hk : k < 2) {a : Option Addr} {c : Nat} {b : Option Addr} {d : Nat} {w0 : World} (SA : ∀ w', Kp (fun _ => False) w0 w' → SeesT w' (.slice a A.length c) A) (SB : ∀ w', Kp (fun _ => False) w0 w' → SeesT w' (.slice b B.length d) B)
    (hA : TOk A) (hB : TOk B) (gA : ∀ x ∈ A, 1 ≤ x.n ∧ x.n ≤ 1048576) (gB : ∀ x ∈ B, 1 ≤ x.n ∧ x.n ≤ 1048576) (lA : A.length ≤ 400) (lB : B.length ≤ 400) (tA : ∀ j, 0 ≤ sumT (A.take j) ∧ sumT (A.take j) ≤ 1048576) (tB : ∀ j, 0 ≤ sumT (B.take j) ∧ sumT (B.take j) ≤ 1048576) :
    ∃ P pa pc, (#[Value.slice a A.length c, Value.slice b B.length d])[k]? = some (.slice pa P.length pc) ∧ (∀ w', Kp (fun _ => False) w0 w' → SeesT w' (.slice pa P.length pc) P) ∧ TOk P ∧ (∀ x ∈ P, 1 ≤ x.n ∧ x.n ≤ 1048576) ∧ P.length ≤ 400 ∧ pre2 A B (k + 1) = pre2 A B k ++ P ∧ ∀ j, 0 ≤ sumT (P.take j) ∧ sumT (P.take j) ≤ 1048576 := by
  match k, hk with
  | 0, _ => exact ⟨A, a, c, rfl, SA, hA, gA, lA, rfl, tA⟩
  | 1, _ => exact ⟨B, b, d, rfl, SB, hB, gB, lB, rfl, tB⟩
/-- what a merge answers -/
def mrgE (a b : List Vt) : Int := cond (good a && good b) (cond (decide (sumT a + sumT b ≤ 1048576)) 0 6) 70

set_option maxRecDepth 100000 in
set_option maxHeartbeats 6400000 in
theorem bmerge_any {u v : Value} {A B : List Vt} {w : World} (hu : SeesT w u A) (hv : SeesT w v B) (hA : TOk A) (hB : TOk B) (lA : A.length ≤ 400) (lB : B.length ≤ 400) :
    Calls Try.prog 24 #[u, v] w fun e w' => ∃ v' L, e = .returned (.tuple #[v', .int .i64 (mrgE A B)]) ∧ (mrgE A B = 0 → Sorts (gathV (gathV [] A) B) L ∧ Gathd (gathV (gathV [] A) B) (sumT A + sumT B)) ∧ (mrgE A B ≠ 0 → L = []) ∧ MadeT w.heap.size w' v' L ∧ Kp (fun _ => False) w w' := by
  have SA := Lib.hid (fun w' (k : Kp (fun _ => False) w w') => hu.kept k)
  have SB := Lib.hid (fun w' (k : Kp (fun _ => False) w w') => hv.kept k)
  have CA := Lib.hid (fun w' (k : Kp (fun _ => False) w w') => bsum_any (hu.kept k) hA)
  have CB := Lib.hid (fun w' (k : Kp (fun _ => False) w w') => bsum_any (hv.kept k) hB)
  obtain ⟨a, c, rfl, hlc, hmax⟩ := hu.form
  obtain ⟨b, d, rfl, hld, hmax2⟩ := hv.form
  have HNIL := Lib.hid (fun w' => MadeT.nil w.heap.size w')
  by_cases hg : (good A && good B) = true
  · obtain ⟨hga, hgb⟩ := Bool.and_eq_true_iff.1 hg
    have sa := good_sum hga
    have sb := good_sum hgb
    rw [show totT A = sumT A by unfold totT; rw [hga]; rfl, show chkT A = 0 by unfold chkT; rw [hga]; rfl] at CA
    rw [show totT B = sumT B by unfold totT; rw [hgb]; rfl, show chkT B = 0 by unfold chkT; rw [hgb]; rfl] at CB
    by_cases hs : sumT A + sumT B ≤ 1048576
    · have hm : mrgE A B = 0 := by unfold mrgE; rw [hg, decide_eq_true hs]; rfl
      rw [hm]
      have HVA := Lib.hid hA
      have HVB := Lib.hid hB
      have TA := Lib.hid (good_sum_take hga)
      have TB := Lib.hid (good_sum_take hgb)
      have HSA := Lib.hid sa
      have HSB := Lib.hid sb
      obtain ⟨ta, hta⟩ : ∃ t, t = sumT A := ⟨_, rfl⟩
      obtain ⟨tb, htb⟩ : ∃ t, t = sumT B := ⟨_, rfl⟩
      rw [← hta] at CA hs sa ⊢
      rw [← htb] at CB hs sb ⊢
      have HTA := Lib.hid hta
      have HTB := Lib.hid htb
      have h1 := sa.1
      have h2 := sb.1
      have h3 := sa.2.1
      have h4 := sb.2.1
      have hs' : ¬ 1048576 < ta + tb := by omega
      have hd0 : decide (1048576 < ta + tb) = false := decide_eq_false hs'
      have hmm := @run_makeMap Try.prog
      have hzv := zeroVt
      have HIV := Lib.hid (fun (x : Vt) (h : x.id.length = 32) => infoVt h)
      have HIV2 := Lib.hid (fun (x : Vt) (h : x.id.length = 32) => infoVt' h)
      have HLA := Lib.hid lA
      have HLB := Lib.hid lB
      clear hu hv hA hB hg hga hgb hm sa sb hta htb lA lB
      go_enter Try.func24, Try.ntmps24
      go_wp2_with fail
      refine (CA.out w (Kp.refl _ _)).mono ?_
      rintro e w1 ⟨rfl, k1⟩
      have K1 := Lib.hid k1
      clear k1
      go_wp2_with fail
      refine (CB.out w1 K1.out).mono ?_
      rintro e w2 ⟨rfl, k2⟩
      have K2 := Lib.hid (K1.out.trans k2 (fun _ _ f => f))
      clear k2
      obtain ⟨mb, hmb⟩ : ∃ m, m = w2.heap.size := ⟨_, rfl⟩
      have HMB := Lib.hid (show w.heap.size ≤ mb by rw [hmb]; exact K2.out.size)
      have hmk := mkF2 a A.length c b B.length d (w2.alloc (.map #[] 0))
      rw [World.size_alloc] at hmk
      have HMK := Lib.hid hmk
      obtain ⟨w3, hw3⟩ : ∃ w3, w3 = (w2.alloc (.map #[] 0)).alloc (.cells #[.slice a A.length c, .slice b B.length d] 22) := ⟨_, rfl⟩
      have HW3 := Lib.hid hw3
      have HM0 := Lib.hid (show MapI w3 mb [] by rw [hw3, hmb]; exact (MapI.made w2).kept ((Kp.refl (fun _ => False) _).alloc _) (fun f => f))
      have HGS := Lib.hid (show w3.heap[w2.heap.size + 1]? = some (.cells #[.slice a A.length c, .slice b B.length d] 22 (0, 0)) by
        rw [hw3]
        have h := new_blk (w2.alloc (.map #[] 0)) (.cells #[.slice a A.length c, .slice b B.length d] 22)
        rw [World.size_alloc] at h
        exact h)
      have K3 := Lib.hid (show Kp (fun _ => False) w w3 by rw [hw3]; exact (K2.out.alloc _).alloc _)
      have HMBE := Lib.hid hmb
      clear hmk hw3 hmb
      go_wp2_with ((with_reducible refine at_dst 40 ?_); refine wpList_slice_run rfl 43 2 _ rfl _ rfl _ _ HMK.out ?_; rw [← HW3.out])
      obtain ⟨gs, hgs⟩ : ∃ g, g = w2.heap.size + 1 := ⟨_, rfl⟩
      rw [← hgs] at HGS ⊢
      rw [← HMBE.out]
      clear hgs
      go_loopw [42] (fun i wr => ∃ k : Nat, k ≤ 2 ∧ i = .int .i64 k ∧ Hid (Kp (fun _ => False) w wr) ∧ Hid (wr.heap[gs]? = some (.cells #[.slice a A.length c, .slice b B.length d] 22 (0, 0))) ∧ Hid (MapI wr mb (gathV [] (pre2 A B k))) ∧ Hid (Gathd (gathV [] (pre2 A B k)) (sumT (pre2 A B k)))) (fun i _ => 2 - (intOf i).toNat)
      case atStart => exact ⟨0, by omega, rfl, K3, HGS, HM0, Lib.hid Gathd.nil⟩
      case round =>
        obtain ⟨k, hk, rfl, HK, HG, HMI, HGA⟩ := hrel
        obtain ⟨wo, rfl⟩ : ∃ wo, wo = wr := ⟨wr, rfl⟩
        by_cases hlt : k < 2
        · have hk2 : decide ((k : Int) < 2) = true := decide_eq_true (by omega)
          obtain ⟨P, pa, pc, hpk, HP, hpv, hpn, hpl, hpp, hpt⟩ := part2 hlt SA.out SB.out HVA.out HVB.out HSA.out.2.2 HSB.out.2.2 HLA.out HLB.out TA.out TB.out
          have hcell : wo.cell? ⟨gs, k, none⟩ = some (.slice pa P.length pc) := (cell_blk HG.out k).trans hpk
          have hform := (HP wo HK.out).form
          obtain ⟨a9, c9, e9, hpc1, hpc2⟩ := hform
          cases e9
          have HP := Lib.hid HP
          have HPV := Lib.hid hpv
          have HPN := Lib.hid hpn
          have HPL := Lib.hid hpl
          have HPP := Lib.hid hpp
          obtain ⟨base, hbase⟩ : ∃ b, b = gathV [] (pre2 A B k) := ⟨_, rfl⟩
          have HPG := Lib.hid (show gathV [] (pre2 A B (k + 1)) = gathV base P by rw [hpp, gathV_app, hbase])
          obtain ⟨m0, hm0⟩ : ∃ m, m = sumT (pre2 A B k) := ⟨_, rfl⟩
          have HPS := Lib.hid (show sumT (pre2 A B (k + 1)) = m0 + sumT P by rw [hpp, sumT_append, hm0])
          have HM1 := Lib.hid (show 0 ≤ m0 ∧ m0 ≤ 1048576 by
            rw [hm0]
            have h1 := HSA.out.1
            have h2 := HSA.out.2.1
            match k, hlt with
            | 0, _ => exact ⟨Int.le_refl _, by show (0 : Int) ≤ 1048576; omega⟩
            | 1, _ => exact ⟨h1, h2⟩)
          have HPT := Lib.hid hpt
          rw [← hbase, ← hm0] at HGA
          rw [← hbase] at HMI
          clear hpk hpv hpn hpl hpp hpt hbase hm0
          go_wp2_with fail
          go_loopw [48] (fun i wr => ∃ j : Nat, j ≤ P.length ∧ i = .int .i64 j ∧ Hid (Kp (fun _ => False) w wr) ∧ Hid (wr.heap[gs]? = some (.cells #[.slice a A.length c, .slice b B.length d] 22 (0, 0))) ∧ Hid (MapI wr mb (gathV base (P.take j))) ∧ Hid (Gathd (gathV base (P.take j)) (m0 + sumT (P.take j)))) (fun i _ => P.length - (intOf i).toNat)
          case atStart => exact ⟨0, Nat.zero_le _, rfl, HK, HG, HMI, Lib.hid (by simpa [sumT, gathV] using HGA.out)⟩
          case round =>
            obtain ⟨j, hj, rfl, HK, HG, HMI, HGA⟩ := hrel
            by_cases hlt2 : j < P.length
            · obtain ⟨x, hx⟩ : ∃ x, P[j]? = some x := ⟨P[j], List.getElem?_eq_getElem hlt2⟩
              obtain ⟨g, off, rfl, hr⟩ := (HP.out _ HK.out).at hx
              have HN := Lib.hid (tok_at HPV.out hx).nm
              have HR := Lib.hid hr
              have HX := Lib.hid hx
              obtain ⟨hxn0, hxn1⟩ := HPN.out x (List.mem_of_getElem? hx)
              obtain ⟨lg, hle⟩ : ∃ l, l = gathV base (P.take j) := ⟨_, rfl⟩
              rw [← hle] at HMI HGA
              have HLE := Lib.hid hle
              obtain ⟨hc0, hc1⟩ := HGA.out.cnt x.id
              obtain ⟨cn, hcn⟩ : ∃ cn, cn = cntV lg x.id := ⟨_, rfl⟩
              rw [← hcn] at hc0 hc1
              have HCN := Lib.hid hcn
              have hb1 := (HPT.out j).2
              have hb2 := HM1.out.2
              have hcb : cn ≤ 2097152 := by omega
              have hw1 : wrap64 (cn + x.n) = cn + x.n := by unfold wrap64; omega
              have hw2 : IntKind.i64.wrap (cn + x.n) = cn + x.n := by simp [IntKind.wrap, IntKind.bits, IntKind.signed]; omega
              have HI := Lib.hid (infoIdL HN.out.len)
              clear hr hx hle hcn hb1 hb2 hc1
              go_upto_region 14 with (first
                | ((with_reducible refine at_dst 51 ?_); refine wpList_load_mid rfl 33 _ rfl g (off + j * 33) rfl (vtC x) _ HR.out Try.underlying33 rfl (HIV.out x HN.out.len) ?_)
                | ((with_reducible refine at_store 14 51 ?_); refine st_fresh rfl 33 _ _ rfl (vtC x).toArray rfl rfl 33 _ (HIV2.out x HN.out.len) (vt_same (by decide) HN.out.len) (vtC_all x) ?_; intro u2 k2 m2 s2; have M2 := Lib.hid m2; have K2 := Lib.hid k2; clear m2 s2 k2))
              refine wp_region_any (by kernel_rfl) ?_
              try (change wpAny _ _ _ _ _ _ _ (World.drew _))
              refine wpAny_take (i := 0) (v := ?_) rfl (by kernel_rfl) (by kernel_rfl) (by kernel_rfl) (fun _ _ _ h => h) (Or.inl ⟨by rfl, ?_⟩) ?_
              rotate_left
              · intro w; go_simp; try with_reducible rfl
              try simp only [Act.put, List.getElem_toArray, List.getElem_cons_zero, List.setIfInBounds_toArray, List.set_cons_zero, List.set_cons_succ]
              obtain ⟨w3, hw3⟩ : ∃ w3, w3 = u2.drew := ⟨_, rfl⟩
              have hmw : MapI w3 mb lg := by rw [hw3]; exact (HMI.out.kept K2.out (fun f => f)).kept (F := fun _ => False) ((Kp.refl _ _).drew) (fun f => f)
              have m3 : w3.heap[wr.heap.size]? = some (.cells (vtC x).toArray 33 (0, 0)) := by rw [hw3]; exact M2.out
              have R3 := Lib.hid (range_pre (range_blk m3) : w3.rangeAt wr.heap.size 0 (U8s x.id))
              have c32 : w3.cell? ⟨wr.heap.size, 32, none⟩ = some (.int .i64 x.n) := (cell_blk m3 32).trans (by rw [List.getElem?_toArray]; exact vt_n HN.out.len)
              have K3 := Lib.hid (show Kp (fun _ => False) wr w3 by rw [hw3]; exact K2.out.drew)
              have HGM := Lib.hid (show gs ≠ mb from fun e => by rw [e] at HG; rw [HMI.out.blk] at HG; cases HG.out)
              rw [← hw3]
              clear hw3 m3
              have e1 := look_run hmw HN.out.len
              obtain ⟨w4, e2, hm4, k4, s4⟩ := entry_run hmw HN.out.len
              have e3 := look_run hm4 HN.out.len
              rw [gath_cnt, if_pos rfl, Int.add_zero] at e3
              obtain ⟨w5, e4, hm5, k5, s5⟩ := put_run HN.out.len hmw.uq hmw.len hm4 x.n
              rw [← HCN.out] at e1 e2 e3 e4
              simp only [keyV] at e1 e2 e3 e4
              have HM5 := Lib.hid hm5
              have K5 := Lib.hid (((K3.out.mono (G := fun _ => False) (F := fun y => y = mb) (fun _ _ f => f.elim)).trans k4 (fun _ _ h => h)).trans k5 (fun _ _ h => h))
              clear hm4 hm5 k4 k5 s4 s5 hmw
              obtain ⟨ps, hps⟩ : ∃ ps, ps = posE lg x.id := ⟨_, rfl⟩
              rw [← hps] at e2 e4
              clear hps
              refine wpAny_take (i := 1) (v := ?_) rfl (by kernel_rfl) (by kernel_rfl) (by kernel_rfl) (fun _ _ _ h => h) (Or.inl ⟨by rfl, ?_⟩) ?_
              rotate_left
              · intro w; go_simp; try with_reducible rfl
              try simp only [Act.put, List.getElem_toArray, List.getElem_cons_succ, List.getElem_cons_zero, List.setIfInBounds_toArray, List.set_cons_zero, List.set_cons_succ]
              refine wpAny_take (i := 4) (v := ?_) rfl (by kernel_rfl) (by kernel_rfl) (by kernel_rfl) (fun _ _ _ h => h) (Or.inl ⟨by rfl, ?_⟩) ?_
              rotate_left
              · intro w; go_simp; try with_reducible rfl
              try simp only [Act.put, List.getElem_toArray, List.getElem_cons_succ, List.getElem_cons_zero, List.setIfInBounds_toArray, List.set_cons_zero, List.set_cons_succ]
              refine wpAny_ready (rs := [2, 5]) (by kernel_rfl) (by simp) ?_
              refine BigFrame.allReady_want rfl (by kernel_rfl) (fun K hK => ?_) (BigFrame.allReady_want rfl (by kernel_rfl) (fun K hK => ?_) AllReady.nil)
              · refine wp_load_mid 27 _ rfl wr.heap.size 0 rfl (U8s x.id) _ R3.out Try.underlying27 rfl HI.out ?_
                refine hK _ _ ?_; clear hK K
                try simp only [Act.put, List.getElem_toArray, List.getElem_cons_succ, List.getElem_cons_zero, List.setIfInBounds_toArray, List.set_cons_zero, List.set_cons_succ]
                refine wpAny_ready (rs := [3, 5]) (by kernel_rfl) (by simp) ?_
                refine BigFrame.allReady_want rfl (by kernel_rfl) (fun K hK => ?_) (BigFrame.allReady_want rfl (by kernel_rfl) (fun K hK => ?_) AllReady.nil)
                · go_simp
                  refine hK _ _ ?_; clear hK K
                  try simp only [Act.put, List.getElem_toArray, List.getElem_cons_succ, List.getElem_cons_zero, List.setIfInBounds_toArray, List.set_cons_zero, List.set_cons_succ]
                  refine wpAny_ready (rs := [5]) (by kernel_rfl) (by simp) ?_
                  refine BigFrame.allReady_want rfl (by kernel_rfl) (fun K hK => ?_) AllReady.nil
                  go_simp
                  refine hK _ _ ?_; clear hK K
                  try simp only [Act.put, List.getElem_toArray, List.getElem_cons_succ, List.getElem_cons_zero, List.setIfInBounds_toArray, List.set_cons_zero, List.set_cons_succ]
                  refine wpAny_take (i := 6) (v := ?_) rfl (by kernel_rfl) (by kernel_rfl) (by kernel_rfl) (fun _ _ _ h => h) (Or.inl ⟨by rfl, ?_⟩) ?_
                  rotate_left
                  · intro w; go_simp; try with_reducible rfl
                  try simp only [Act.put, List.getElem_toArray, List.getElem_cons_succ, List.getElem_cons_zero, List.setIfInBounds_toArray, List.set_cons_zero, List.set_cons_succ]
                  refine wpAny_ready (rs := [7]) (by kernel_rfl) (by simp) ?_
                  refine BigFrame.allReady_want rfl (by kernel_rfl) (fun K hK => ?_) AllReady.nil
                  go_simp
                  refine hK _ _ ?_; clear hK K
                  try simp only [Act.put, List.getElem_toArray, List.getElem_cons_succ, List.getElem_cons_zero, List.setIfInBounds_toArray, List.set_cons_zero, List.set_cons_succ]
                  refine wpAny_take (i := 8) (v := ?_) rfl (by kernel_rfl) (by kernel_rfl) (by kernel_rfl) (fun _ _ _ h => h) (Or.inl ⟨by rfl, ?_⟩) ?_
                  rotate_left
                  · intro w; go_simp; try with_reducible rfl
                  try simp only [Act.put, List.getElem_toArray, List.getElem_cons_succ, List.getElem_cons_zero, List.setIfInBounds_toArray, List.set_cons_zero, List.set_cons_succ]
                  refine wpAny_ready (rs := [9]) (by kernel_rfl) (by simp) ?_
                  refine BigFrame.allReady_want rfl (by kernel_rfl) (fun K hK => ?_) AllReady.nil
                  go_simp
                  refine hK _ _ ?_; clear hK K
                  try simp only [Act.put, List.getElem_toArray, List.getElem_cons_succ, List.getElem_cons_zero, List.setIfInBounds_toArray, List.set_cons_zero, List.set_cons_succ]
                  refine wpAny_done (by kernel_rfl) ?_ _
                  go_wp2_with fail
                  go_roundw
                  case rel => exact ⟨j + 1, by omega, by go_num, Lib.hid (HK.out.trans K5.out (fun y hy e => by have := HMB.out; omega)), Lib.hid (kept_blk HG.out K5.out (fun e => HGM.out e)), Lib.hid (by rw [gathV_snoc HX.out, ← HLE.out]; exact HM5.out), Lib.hid (by rw [gathV_snoc HX.out, ← HLE.out, take_snoc HX.out, sumT_append, sumT_cons, sumT_nil, Int.add_zero, ← Int.add_assoc]; exact HGA.out.step HN.out hxn0)⟩
                  case measure => simp [intOf]; omega
                · go_simp
                  refine hK _ _ ?_; clear hK K
                  try simp only [Act.put, List.getElem_toArray, List.getElem_cons_succ, List.getElem_cons_zero, List.setIfInBounds_toArray, List.set_cons_zero, List.set_cons_succ]
                  refine wpAny_ready (rs := [3, 7]) (by kernel_rfl) (by simp) ?_
                  refine BigFrame.allReady_want rfl (by kernel_rfl) (fun K hK => ?_) (BigFrame.allReady_want rfl (by kernel_rfl) (fun K hK => ?_) AllReady.nil)
                  · go_simp
                    refine hK _ _ ?_; clear hK K
                    try simp only [Act.put, List.getElem_toArray, List.getElem_cons_succ, List.getElem_cons_zero, List.setIfInBounds_toArray, List.set_cons_zero, List.set_cons_succ]
                    refine wpAny_take (i := 6) (v := ?_) rfl (by kernel_rfl) (by kernel_rfl) (by kernel_rfl) (fun _ _ _ h => h) (Or.inl ⟨by rfl, ?_⟩) ?_
                    rotate_left
                    · intro w; go_simp; try with_reducible rfl
                    try simp only [Act.put, List.getElem_toArray, List.getElem_cons_succ, List.getElem_cons_zero, List.setIfInBounds_toArray, List.set_cons_zero, List.set_cons_succ]
                    refine wpAny_ready (rs := [7]) (by kernel_rfl) (by simp) ?_
                    refine BigFrame.allReady_want rfl (by kernel_rfl) (fun K hK => ?_) AllReady.nil
                    go_simp
                    refine hK _ _ ?_; clear hK K
                    try simp only [Act.put, List.getElem_toArray, List.getElem_cons_succ, List.getElem_cons_zero, List.setIfInBounds_toArray, List.set_cons_zero, List.set_cons_succ]
                    refine wpAny_take (i := 8) (v := ?_) rfl (by kernel_rfl) (by kernel_rfl) (by kernel_rfl) (fun _ _ _ h => h) (Or.inl ⟨by rfl, ?_⟩) ?_
                    rotate_left
                    · intro w; go_simp; try with_reducible rfl
                    try simp only [Act.put, List.getElem_toArray, List.getElem_cons_succ, List.getElem_cons_zero, List.setIfInBounds_toArray, List.set_cons_zero, List.set_cons_succ]
                    refine wpAny_ready (rs := [9]) (by kernel_rfl) (by simp) ?_
                    refine BigFrame.allReady_want rfl (by kernel_rfl) (fun K hK => ?_) AllReady.nil
                    go_simp
                    refine hK _ _ ?_; clear hK K
                    try simp only [Act.put, List.getElem_toArray, List.getElem_cons_succ, List.getElem_cons_zero, List.setIfInBounds_toArray, List.set_cons_zero, List.set_cons_succ]
                    refine wpAny_done (by kernel_rfl) ?_ _
                    go_wp2_with fail
                    go_roundw
                    case rel => exact ⟨j + 1, by omega, by go_num, Lib.hid (HK.out.trans K5.out (fun y hy e => by have := HMB.out; omega)), Lib.hid (kept_blk HG.out K5.out (fun e => HGM.out e)), Lib.hid (by rw [gathV_snoc HX.out, ← HLE.out]; exact HM5.out), Lib.hid (by rw [gathV_snoc HX.out, ← HLE.out, take_snoc HX.out, sumT_append, sumT_cons, sumT_nil, Int.add_zero, ← Int.add_assoc]; exact HGA.out.step HN.out hxn0)⟩
                    case measure => simp [intOf]; omega
                  · go_simp
                    refine hK _ _ ?_; clear hK K
                    try simp only [Act.put, List.getElem_toArray, List.getElem_cons_succ, List.getElem_cons_zero, List.setIfInBounds_toArray, List.set_cons_zero, List.set_cons_succ]
                    refine wpAny_take (i := 8) (v := ?_) rfl (by kernel_rfl) (by kernel_rfl) (by kernel_rfl) (fun _ _ _ h => h) (Or.inl ⟨by rfl, ?_⟩) ?_
                    rotate_left
                    · intro w; go_simp; try with_reducible rfl
                    try simp only [Act.put, List.getElem_toArray, List.getElem_cons_succ, List.getElem_cons_zero, List.setIfInBounds_toArray, List.set_cons_zero, List.set_cons_succ]
                    refine wpAny_ready (rs := [3]) (by kernel_rfl) (by simp) ?_
                    refine BigFrame.allReady_want rfl (by kernel_rfl) (fun K hK => ?_) AllReady.nil
                    go_simp
                    refine hK _ _ ?_; clear hK K
                    try simp only [Act.put, List.getElem_toArray, List.getElem_cons_succ, List.getElem_cons_zero, List.setIfInBounds_toArray, List.set_cons_zero, List.set_cons_succ]
                    refine wpAny_take (i := 6) (v := ?_) rfl (by kernel_rfl) (by kernel_rfl) (by kernel_rfl) (fun _ _ _ h => h) (Or.inl ⟨by rfl, ?_⟩) ?_
                    rotate_left
                    · intro w; go_simp; try with_reducible rfl
                    try simp only [Act.put, List.getElem_toArray, List.getElem_cons_succ, List.getElem_cons_zero, List.setIfInBounds_toArray, List.set_cons_zero, List.set_cons_succ]
                    refine wpAny_ready (rs := [9]) (by kernel_rfl) (by simp) ?_
                    refine BigFrame.allReady_want rfl (by kernel_rfl) (fun K hK => ?_) AllReady.nil
                    go_simp
                    refine hK _ _ ?_; clear hK K
                    try simp only [Act.put, List.getElem_toArray, List.getElem_cons_succ, List.getElem_cons_zero, List.setIfInBounds_toArray, List.set_cons_zero, List.set_cons_succ]
                    refine wpAny_done (by kernel_rfl) ?_ _
                    go_wp2_with fail
                    go_roundw
                    case rel => exact ⟨j + 1, by omega, by go_num, Lib.hid (HK.out.trans K5.out (fun y hy e => by have := HMB.out; omega)), Lib.hid (kept_blk HG.out K5.out (fun e => HGM.out e)), Lib.hid (by rw [gathV_snoc HX.out, ← HLE.out]; exact HM5.out), Lib.hid (by rw [gathV_snoc HX.out, ← HLE.out, take_snoc HX.out, sumT_append, sumT_cons, sumT_nil, Int.add_zero, ← Int.add_assoc]; exact HGA.out.step HN.out hxn0)⟩
                    case measure => simp [intOf]; omega
              · go_simp
                refine hK _ _ ?_; clear hK K
                try simp only [Act.put, List.getElem_toArray, List.getElem_cons_succ, List.getElem_cons_zero, List.setIfInBounds_toArray, List.set_cons_zero, List.set_cons_succ]
                refine wpAny_ready (rs := [2]) (by kernel_rfl) (by simp) ?_
                refine BigFrame.allReady_want rfl (by kernel_rfl) (fun K hK => ?_) AllReady.nil
                refine wp_load_mid 27 _ rfl wr.heap.size 0 rfl (U8s x.id) _ R3.out Try.underlying27 rfl HI.out ?_
                refine hK _ _ ?_; clear hK K
                try simp only [Act.put, List.getElem_toArray, List.getElem_cons_succ, List.getElem_cons_zero, List.setIfInBounds_toArray, List.set_cons_zero, List.set_cons_succ]
                refine wpAny_ready (rs := [3, 7]) (by kernel_rfl) (by simp) ?_
                refine BigFrame.allReady_want rfl (by kernel_rfl) (fun K hK => ?_) (BigFrame.allReady_want rfl (by kernel_rfl) (fun K hK => ?_) AllReady.nil)
                · go_simp
                  refine hK _ _ ?_; clear hK K
                  try simp only [Act.put, List.getElem_toArray, List.getElem_cons_succ, List.getElem_cons_zero, List.setIfInBounds_toArray, List.set_cons_zero, List.set_cons_succ]
                  refine wpAny_take (i := 6) (v := ?_) rfl (by kernel_rfl) (by kernel_rfl) (by kernel_rfl) (fun _ _ _ h => h) (Or.inl ⟨by rfl, ?_⟩) ?_
                  rotate_left
                  · intro w; go_simp; try with_reducible rfl
                  try simp only [Act.put, List.getElem_toArray, List.getElem_cons_succ, List.getElem_cons_zero, List.setIfInBounds_toArray, List.set_cons_zero, List.set_cons_succ]
                  refine wpAny_ready (rs := [7]) (by kernel_rfl) (by simp) ?_
                  refine BigFrame.allReady_want rfl (by kernel_rfl) (fun K hK => ?_) AllReady.nil
                  go_simp
                  refine hK _ _ ?_; clear hK K
                  try simp only [Act.put, List.getElem_toArray, List.getElem_cons_succ, List.getElem_cons_zero, List.setIfInBounds_toArray, List.set_cons_zero, List.set_cons_succ]
                  refine wpAny_take (i := 8) (v := ?_) rfl (by kernel_rfl) (by kernel_rfl) (by kernel_rfl) (fun _ _ _ h => h) (Or.inl ⟨by rfl, ?_⟩) ?_
                  rotate_left
                  · intro w; go_simp; try with_reducible rfl
                  try simp only [Act.put, List.getElem_toArray, List.getElem_cons_succ, List.getElem_cons_zero, List.setIfInBounds_toArray, List.set_cons_zero, List.set_cons_succ]
                  refine wpAny_ready (rs := [9]) (by kernel_rfl) (by simp) ?_
                  refine BigFrame.allReady_want rfl (by kernel_rfl) (fun K hK => ?_) AllReady.nil
                  go_simp
                  refine hK _ _ ?_; clear hK K
                  try simp only [Act.put, List.getElem_toArray, List.getElem_cons_succ, List.getElem_cons_zero, List.setIfInBounds_toArray, List.set_cons_zero, List.set_cons_succ]
                  refine wpAny_done (by kernel_rfl) ?_ _
                  go_wp2_with fail
                  go_roundw
                  case rel => exact ⟨j + 1, by omega, by go_num, Lib.hid (HK.out.trans K5.out (fun y hy e => by have := HMB.out; omega)), Lib.hid (kept_blk HG.out K5.out (fun e => HGM.out e)), Lib.hid (by rw [gathV_snoc HX.out, ← HLE.out]; exact HM5.out), Lib.hid (by rw [gathV_snoc HX.out, ← HLE.out, take_snoc HX.out, sumT_append, sumT_cons, sumT_nil, Int.add_zero, ← Int.add_assoc]; exact HGA.out.step HN.out hxn0)⟩
                  case measure => simp [intOf]; omega
                · go_simp
                  refine hK _ _ ?_; clear hK K
                  try simp only [Act.put, List.getElem_toArray, List.getElem_cons_succ, List.getElem_cons_zero, List.setIfInBounds_toArray, List.set_cons_zero, List.set_cons_succ]
                  refine wpAny_take (i := 8) (v := ?_) rfl (by kernel_rfl) (by kernel_rfl) (by kernel_rfl) (fun _ _ _ h => h) (Or.inl ⟨by rfl, ?_⟩) ?_
                  rotate_left
                  · intro w; go_simp; try with_reducible rfl
                  try simp only [Act.put, List.getElem_toArray, List.getElem_cons_succ, List.getElem_cons_zero, List.setIfInBounds_toArray, List.set_cons_zero, List.set_cons_succ]
                  refine wpAny_ready (rs := [3]) (by kernel_rfl) (by simp) ?_
                  refine BigFrame.allReady_want rfl (by kernel_rfl) (fun K hK => ?_) AllReady.nil
                  go_simp
                  refine hK _ _ ?_; clear hK K
                  try simp only [Act.put, List.getElem_toArray, List.getElem_cons_succ, List.getElem_cons_zero, List.setIfInBounds_toArray, List.set_cons_zero, List.set_cons_succ]
                  refine wpAny_take (i := 6) (v := ?_) rfl (by kernel_rfl) (by kernel_rfl) (by kernel_rfl) (fun _ _ _ h => h) (Or.inl ⟨by rfl, ?_⟩) ?_
                  rotate_left
                  · intro w; go_simp; try with_reducible rfl
                  try simp only [Act.put, List.getElem_toArray, List.getElem_cons_succ, List.getElem_cons_zero, List.setIfInBounds_toArray, List.set_cons_zero, List.set_cons_succ]
                  refine wpAny_ready (rs := [9]) (by kernel_rfl) (by simp) ?_
                  refine BigFrame.allReady_want rfl (by kernel_rfl) (fun K hK => ?_) AllReady.nil
                  go_simp
                  refine hK _ _ ?_; clear hK K
                  try simp only [Act.put, List.getElem_toArray, List.getElem_cons_succ, List.getElem_cons_zero, List.setIfInBounds_toArray, List.set_cons_zero, List.set_cons_succ]
                  refine wpAny_done (by kernel_rfl) ?_ _
                  go_wp2_with fail
                  go_roundw
                  case rel => exact ⟨j + 1, by omega, by go_num, Lib.hid (HK.out.trans K5.out (fun y hy e => by have := HMB.out; omega)), Lib.hid (kept_blk HG.out K5.out (fun e => HGM.out e)), Lib.hid (by rw [gathV_snoc HX.out, ← HLE.out]; exact HM5.out), Lib.hid (by rw [gathV_snoc HX.out, ← HLE.out, take_snoc HX.out, sumT_append, sumT_cons, sumT_nil, Int.add_zero, ← Int.add_assoc]; exact HGA.out.step HN.out hxn0)⟩
                  case measure => simp [intOf]; omega
            · obtain rfl : j = P.length := by omega
              rw [List.take_length, ← HPG.out] at HMI HGA
              rw [← HPS.out] at HGA
              go_wp2_with fail
              go_roundw
              case rel => exact ⟨k + 1, by omega, by go_num, HK, HG, HMI, HGA⟩
              case measure => simp [intOf]; omega
        · obtain rfl : k = 2 := by omega
          have hm2 : MapI wo mb (gathV (gathV [] A) B) := by rw [← gathV_app]; exact HMI.out
          have hg2 : Gathd (gathV (gathV [] A) B) (ta + tb) := by
            have := HGA.out
            rw [show pre2 A B 2 = A ++ B from rfl, sumT_append, gathV_app, ← HTA.out, ← HTB.out] at this
            exact this
          have hlen : (gathV (gathV [] A) B).length ≤ 1000 := by
            have h1 := gathV_len B (gathV [] A)
            have h2 := gathV_len A []
            have h3 := HLA.out
            have h4 := HLB.out
            simp at h2
            omega
          have HC := Lib.hid (rising_any hm2 (hg2.tok (by omega)) hlen)
          have HG2 := Lib.hid hg2
          clear hm2 hg2 hlen
          go_wp2_with fail
          refine HC.out.mono ?_
          rintro e w9 ⟨v', L, rfl, h1, ⟨h2, h3⟩, h4⟩
          have HF := Lib.hid (show ∃ L, Sorts (gathV (gathV [] A) B) L ∧ Gathd (gathV (gathV [] A) B) (ta + tb) ∧ MadeT w.heap.size w9 v' L ∧ Kp (fun _ => False) w w9 from ⟨L, h1, HG2.out, ⟨h2, by
            rcases h3 with h | ⟨g, cap, e1, e2, e3⟩
            · exact .inl h
            · exact .inr ⟨g, cap, e1, Nat.le_trans HK.out.size e2, e3⟩⟩, HK.out.trans h4 (fun _ _ f => f)⟩)
          obtain ⟨a2, c2, rfl, _⟩ := h2.form
          clear h1 h2 h3 h4
          go_wp2_with fail
          go_ret2
          obtain ⟨L, hL1, hL2, hL3⟩ := HF.out
          exact ⟨_, L, rfl, fun _ => ⟨hL1, hL2⟩, fun h => absurd rfl h, hL3⟩
    · have hm : mrgE A B = 6 := by unfold mrgE; rw [hg, decide_eq_false hs]; rfl
      rw [hm]
      have hs' : 1048576 < sumT A + sumT B := by omega
      have h1 := sa.2.1
      have h2 := sb.2.1
      have h3 := sa.1
      have h4 := sb.1
      generalize sumT A = ta at CA hs' h1 h3 ⊢
      generalize sumT B = tb at CB hs' h2 h4 ⊢
      clear hu hv hA hB hg hga hgb hs hm sa sb
      go_enter Try.func24, Try.ntmps24
      go_wp2_with fail
      refine (CA.out w (Kp.refl _ _)).mono ?_
      rintro e w1 ⟨rfl, k1⟩
      have K1 := Lib.hid k1
      clear k1
      go_wp2_with fail
      refine (CB.out w1 K1.out).mono ?_
      rintro e w2 ⟨rfl, k2⟩
      have K2 := Lib.hid (K1.out.trans k2 (fun _ _ f => f))
      clear k2
      go_wp2_with fail
      go_ret2
      exact ⟨_, [], rfl, fun h => by omega, fun _ => rfl, HNIL.out _, K2.out⟩
  · have hm : mrgE A B = 70 := by unfold mrgE; rw [show (good A && good B) = false by simpa using hg]; rfl
    rw [hm]
    have hbad : ¬ chkT A = 0 ∨ ¬ chkT B = 0 := by
      unfold chkT
      cases h1 : good A <;> cases h2 : good B <;> simp_all
    generalize totT A = ta at CA
    generalize totT B = tb at CB
    generalize chkT A = ca at CA hbad
    generalize chkT B = cb at CB hbad
    clear hu hv hA hB hg hm
    by_cases hca : ca = 0
    · have hcb : ¬ cb = 0 := by rcases hbad with h | h; exact absurd hca h; exact h
      have e1 : (cb != 0) = true := by simpa using hcb
      subst hca
      clear hbad
      go_enter Try.func24, Try.ntmps24
      go_wp2_with fail
      refine (CA.out w (Kp.refl _ _)).mono ?_
      rintro e w1 ⟨rfl, k1⟩
      have K1 := Lib.hid k1
      clear k1
      go_wp2_with fail
      refine (CB.out w1 K1.out).mono ?_
      rintro e w2 ⟨rfl, k2⟩
      have K2 := Lib.hid (K1.out.trans k2 (fun _ _ f => f))
      clear k2
      go_wp2_with fail
      go_ret2
      exact ⟨_, [], rfl, fun h => by omega, fun _ => rfl, HNIL.out _, K2.out⟩
    · have e1 : (ca != 0) = true := by simpa using hca
      clear hbad
      go_enter Try.func24, Try.ntmps24
      go_wp2_with fail
      refine (CA.out w (Kp.refl _ _)).mono ?_
      rintro e w1 ⟨rfl, k1⟩
      have K1 := Lib.hid k1
      clear k1
      go_wp2_with fail
      refine (CB.out w1 K1.out).mono ?_
      rintro e w2 ⟨rfl, k2⟩
      have K2 := Lib.hid (K1.out.trans k2 (fun _ _ f => f))
      clear k2
      go_wp2_with fail
      go_ret2
      exact ⟨_, [], rfl, fun h => by omega, fun _ => rfl, HNIL.out _, K2.out⟩
end Go.Proofs.Ytoeinolekpmbbaa
