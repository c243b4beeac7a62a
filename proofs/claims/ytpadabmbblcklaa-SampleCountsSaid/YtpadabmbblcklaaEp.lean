/-
  Slots, the program's and the document's.
-/
import Derived.Test.YtpadabmbblcklaaEn
import Derived.Test.YtpadabmbblcklaaEm
namespace Go.Proofs.Ytpadabmbblcklaa
open Go.RowKit

/-- what units that are drawn without an error are like -/
theorem unitsU_ok {t k : Int} {ds : List Int} (h : (unitsU t k ds).2 = 0) : (unitsU t k ds).1.length = k.toNat ∧ k.toNat ≤ 64 ∧ (unitsU t k ds).1.Nodup ∧ (∀ u ∈ (unitsU t k ds).1, 0 ≤ u ∧ u < t) := by
  unfold unitsU at h ⊢
  split at h
  · cases h
  · rename_i h1
    rw [if_neg h1]
    split at h
    · cases h
    · rename_i h2
      rw [if_neg h2]
      have d := drawn_ok (numA_ok (t := t) (ds := ds) (k := k.toNat) (by omega)) k.toNat (Nat.le_refl _)
      exact ⟨d.len, by omega, d.nodup, d.rng⟩
theorem slotsE_bad {l ds : List Int} {k : Int} (h : wtsMay l = false) : slotsE l k ds = ([], 1) := by unfold slotsE; rw [h]; rfl
theorem slotsE_ok {l ds : List Int} {k : Int} (h : wtsMay l = true) : slotsE l k ds = ((unitsU (sumQ l) k ds).1.map (ownQ l), (unitsU (sumQ l) k ds).2) := by unfold slotsE; rw [h]; rfl
theorem unitsU_err {t k : Int} {ds : List Int} (h : ¬ (unitsU t k ds).2 = 0) : (unitsU t k ds).1 = [] := by
  unfold unitsU at h ⊢
  split
  · rfl
  · split
    · rfl
    · rename_i h1 h2
      rw [if_neg h1, if_neg h2] at h
      exact absurd rfl h
/-- how the two come: what is left to the walk -/
theorem slots_cases (l ds : List Int) (k : Int) :
    (wtsMay l = false ∧ slotsE l k ds = ([], 1)) ∨
    (∃ ue, GoodW l ∧ ¬ ue = 0 ∧ wtsMay l = true ∧ (unitsU (sumQ l) k ds).2 = ue ∧ slotsE l k ds = ([], ue)) ∨
    (∃ us, GoodW l ∧ wtsMay l = true ∧ unitsU (sumQ l) k ds = (us, 0) ∧ us.length ≤ 64 ∧ (∀ u ∈ us, 0 ≤ u ∧ u < sumQ l) ∧ slotsE l k ds = (us.map (ownQ l), 0)) := by
  cases h : wtsMay l
  · exact .inl ⟨rfl, slotsE_bad h⟩
  · right
    have G := wtsMay_iff.1 h
    by_cases h0 : (unitsU (sumQ l) k ds).2 = 0
    · right
      obtain ⟨h1, h2, _, h4⟩ := unitsU_ok h0
      exact ⟨(unitsU (sumQ l) k ds).1, G, rfl, by rw [← h0], by omega, h4, by rw [slotsE_ok h, h0]⟩
    · left
      exact ⟨_, G, h0, rfl, rfl, by rw [slotsE_ok h, unitsU_err h0]; rfl⟩
theorem sumE_ok {l : List Int} (h : wtsMay l = true) : sumE l = (sumQ l, 0) := by unfold sumE; rw [h]; rfl
theorem sumE_bad {l : List Int} (h : wtsMay l = false) : sumE l = (0, 1) := by unfold sumE; rw [h]; rfl

set_option maxRecDepth 100000 in
set_option maxHeartbeats 8000000 in
theorem slots_any {v vd : Value} {l ds : List Int} {w : World} (hs : SeesZ .i64 w v l) (hz : ZOk (-9223372036854775808) 9223372036854775807 l) (hsd : SeesZ .u64 w vd ds) (hzd : ZOk 0 18446744073709551615 ds) (k : Int) :
    Calls Try.prog 18 #[v, .int .i64 k, vd] w fun e w' => ∃ v', e = .returned (.tuple #[v', .int .i64 (slotsE l k ds).2]) ∧ SeesZ .i64 w' v' (slotsE l k ds).1 ∧
      (∀ g, v'.ownBlock = some g → w.heap.size ≤ g) ∧ Kp (fun _ => False) w w' := by
  have HC := Lib.hid (sum_any hs hz)
  have HUN := Lib.hid (fun w' (kp : Kp (fun _ => False) w w') (t : Int) => units_any (hsd.kept kp) hzd t k)
  have HOW := Lib.hid (fun w' (kp : Kp (fun _ => False) w w') (G : GoodW l) (u : Int) (h0 : 0 ≤ u) (h1 : u < sumQ l) => owner_any (hs.kept kp) G.pos G.sum u h0 h1)
  obtain ⟨a, c, rfl, hlc, hmax, _⟩ := hs.form
  obtain ⟨ad, cd, rfl, hlcd, hmaxd, _⟩ := hsd.form
  have hcs := slots_cases l ds k
  clear hs hz hsd hzd
  rcases hcs with ⟨hb, he⟩ | ⟨ue, G, hue, hm, hu2, he⟩ | ⟨us, G, hm, hu, hul, hur, he⟩
  · rw [he]
    rw [sumE_bad hb] at HC
    clear he hb
    go_enter Try.func18, Try.ntmps18
    go_wp2_with fail
    refine HC.out.mono ?_
    rintro e w2 ⟨rfl, k2⟩
    have K2 := Lib.hid k2
    clear k2
    go_wp2_with fail
    go_ret2
    exact ⟨_, rfl, SeesZ.nil _ _, (fun g h => by cases h), K2.out⟩
  · rw [he]
    rw [sumE_ok hm] at HC
    obtain ⟨S, hS⟩ : ∃ S, S = sumQ l := ⟨_, rfl⟩
    have HU2 := Lib.hid (fun w' (kp : Kp (fun _ => False) w w') => HUN.out w' kp S)
    rw [← hS] at HC hu2
    rw [hu2] at HU2
    have hne : (ue != 0) = true := by simp [hue]
    clear he hm G hS hu2 HUN HOW hue
    go_enter Try.func18, Try.ntmps18
    go_wp2_with fail
    refine HC.out.mono ?_
    rintro e w2 ⟨rfl, k2⟩
    have HU3 := Lib.hid (HU2.out _ k2)
    have K2 := Lib.hid k2
    clear k2
    go_wp2_with fail
    refine HU3.out.mono ?_
    rintro e w3 ⟨v3, rfl, _, _, k3⟩
    have K3 := Lib.hid (K2.out.trans k3 (fun _ _ f => f))
    clear k3
    go_wp2_with fail
    go_ret2
    exact ⟨_, rfl, SeesZ.nil _ _, (fun g h => by cases h), K3.out⟩
  · rw [he]
    rw [sumE_ok hm] at HC
    obtain ⟨S, hS⟩ : ∃ S, S = sumQ l := ⟨_, rfl⟩
    have HU2 := Lib.hid (fun w' (kp : Kp (fun _ => False) w w') => HUN.out w' kp S)
    rw [← hS] at HC hu hur
    rw [← hS] at HOW
    rw [hu] at HU2
    have HO2 := Lib.hid (fun w' (kp : Kp (fun _ => False) w w') (u : Int) (h : 0 ≤ u ∧ u < S) => HOW.out w' kp G u h.1 h.2)
    have HR := Lib.hid (fun (j : Nat) (u : Int) (h : us[j]? = some u) => hur u (List.mem_of_getElem? h))
    clear he hm G hS hu HUN HOW hur
    go_enter Try.func18, Try.ntmps18
    go_wp2_with fail
    refine HC.out.mono ?_
    rintro e w2 ⟨rfl, k2⟩
    have HU3 := Lib.hid (HU2.out _ k2)
    have K2 := Lib.hid k2
    clear k2
    go_wp2_with fail
    refine HU3.out.mono ?_
    rintro e w3 ⟨v3, rfl, s3, _, k3⟩
    obtain ⟨a3, c3, rfl, hlc3, hmax3, _⟩ := s3.form
    have S3 := Lib.hid s3
    have K3 := Lib.hid (K2.out.trans k3 (fun _ _ f => f))
    clear s3 k3
    have hmk := mkInt us.length (by omega) w3
    have k3' := K3.out.size
    have hl3 : (0 : Int) ≤ us.length := by omega
    have HSZ := Lib.hid k3'
    clear k3'
    go_wp2_with fail
    go_loopw [37] (fun jv wr => ∃ (j : Nat), j ≤ us.length ∧ jv = .int .i64 j ∧ Hid (Kp (fun _ => False) w3 wr) ∧
      Hid (wr.heap[w3.heap.size]? = some (.cells (zrow .i64 us.length ((us.take j).map (ownQ l))).toArray 3 (0, 0)))) (fun jv _ => us.length - (intOf jv).toNat)
    case atStart => exact ⟨0, by omega, rfl, Lib.hid ((Kp.refl _ w3).alloc _), Lib.hid (new_blk _ _)⟩
    case round =>
      obtain ⟨j, hj, rfl, hkp, hblk⟩ := hrel
      by_cases hlt : j < us.length
      · obtain ⟨u, hu⟩ : ∃ u, us[j]? = some u := ⟨us[j], by simp⟩
        obtain ⟨g, off, rfl, hc⟩ := (S3.out.kept hkp.out).at hu
        have HOJ := Lib.hid (HO2.out wr (K3.out.trans hkp.out (fun _ _ f => f)) u (HR.out j u hu))
        obtain ⟨o, ho⟩ : ∃ o, o = ownQ l u := ⟨_, rfl⟩
        rw [← ho] at HOJ
        have hln : ((us.take j).map (ownQ l)).length = j := by rw [List.length_map, List.length_take]; omega
        have hzp := zrow_put (k := .i64) (n := us.length) (l := (us.take j).map (ownQ l)) o (by rw [hln]; exact hlt)
        have htk : (us.take j).map (ownQ l) ++ [o] = (us.take (j + 1)).map (ownQ l) := by
          obtain ⟨hk', e⟩ := List.getElem?_eq_some_iff.1 hu
          rw [List.take_succ_eq_append_getElem hk', e, List.map_append, ho]; rfl
        rw [hln, htk] at hzp
        have HZP := Lib.hid hzp
        have HBK := Lib.hid hblk.out
        have HKP := Lib.hid hkp.out
        have HLN := Lib.hid hln
        clear hu ho hln hzp htk hkp hblk
        go_wp2_with fail
        refine HOJ.out.mono ?_
        rintro e w4 ⟨rfl, k4⟩
        have hb4 := kept_blk HBK.out k4 (fun f => f)
        have hc4 : w4.cell? ⟨w3.heap.size, j, none⟩ = some (.int .i64 0) := by
          rw [cell_blk hb4, List.getElem?_toArray]
          unfold zrow
          rw [List.getElem?_append_right (by rw [encZ_length, HLN.out]; omega), encZ_length, HLN.out, Nat.sub_self, List.getElem?_replicate, if_pos (by omega)]
        have hf4 : w4.frozen? ⟨w3.heap.size, j, none⟩ = false := free_blk hb4 j
        have hs5 := set_blk hb4 j (.int .i64 o)
        rw [HZP.out] at hs5
        have HB5 := Lib.hid hs5
        have HK5 := Lib.hid (show Kp (fun _ => False) w3 (w4.setCell ⟨w3.heap.size, j, none⟩ (.int .i64 o)) from (HKP.out.trans k4 (fun _ _ f => f)).setCell (fun h => by simp only at h; omega) _)
        clear k4 hb4 hs5
        go_wp2
        go_roundw
        case rel => exact ⟨j + 1, by omega, by go_num, HK5, HB5⟩
        case measure => simp [intOf]; omega
      · obtain rfl : j = us.length := by omega
        have hb := hblk.out
        rw [List.take_length] at hb
        have hml : (us.map (ownQ l)).length = us.length := List.length_map _
        rw [zrow_full hml] at hb
        have hse := seesZ_blk (cap := us.length) hb (by rw [hml]; omega) (by unfold maxLen; omega)
        rw [hml] at hse
        have HSE := Lib.hid hse
        have HKP := Lib.hid (K3.out.trans hkp.out (fun _ _ f => f))
        clear hb hse hblk hkp hml
        go_wp2
        go_ret2
        exact ⟨_, rfl, HSE.out, fun g hg => by cases hg; exact HSZ.out, HKP.out⟩

/-- a source that lies in a block from its beginning on -/
theorem src_oneI {w : World} {g T : Nat} {x : Int} (h : w.heap[g]? = some (.cells #[.int .i64 x] T (0, 0))) : Src Try.prog 1 37 (.slice (some ⟨g, 0, none⟩) 1 1) 1 (encZ .i64 [x]) w :=
  Src.ofSlice w Try.underlying37 ⟨g, 0, none⟩ 1 1 (encZ .i64 [x]) rfl (fun j u hj => by rw [Addr.add_lit, cell_blk h, Nat.zero_add, List.getElem?_toArray]; exact hj) (encZ_one _ _)

set_option maxRecDepth 100000 in
set_option maxHeartbeats 8000000 in
theorem rslots_any {v vd : Value} {l ds : List Int} {w : World} (hs : SeesZ .i64 w v l) (hz : ZOk (-9223372036854775808) 9223372036854775807 l) (hsd : SeesZ .u64 w vd ds) (hzd : ZOk 0 18446744073709551615 ds) (k : Int) :
    Calls Try.prog 19 #[v, .int .i64 k, vd] w fun e w' => ∃ v', e = .returned (.tuple #[v', .int .i64 (slotsE l k ds).2]) ∧ SeesZ .i64 w' v' (slotsE l k ds).1 ∧
      (∀ g, v'.ownBlock = some g → w.heap.size ≤ g) ∧ Kp (fun _ => False) w w' := by
  have HC := Lib.hid (rsumQ_any hs hz)
  have HUN := Lib.hid (fun w' (kp : Kp (fun _ => False) w w') (t : Int) => runits_any (hsd.kept kp) hzd t k)
  have HOW := Lib.hid (fun w' (kp : Kp (fun _ => False) w w') (hm : wtsMay l = true) (u : Int) (h0 : 0 ≤ u) (h1 : u < sumQ l) => by
    have := rOwner_any (hs.kept kp) hz u
    rw [show ownE l u = (ownQ l u, 0) by unfold ownE; rw [hm]; exact if_neg (by omega)] at this
    exact this)
  obtain ⟨a, c, rfl, hlc, hmax, _⟩ := hs.form
  obtain ⟨ad, cd, rfl, hlcd, hmaxd, _⟩ := hsd.form
  have hcs := slots_cases l ds k
  clear hs hz hsd hzd
  rcases hcs with ⟨hb, he⟩ | ⟨ue, G, hue, hm, hu2, he⟩ | ⟨us, G, hm, hu, hul, hur, he⟩
  · rw [he]
    rw [sumE_bad hb, hb] at HC
    clear he hb
    go_enter Try.func19, Try.ntmps19
    go_wp2_with fail
    refine HC.out.mono ?_
    rintro e w2 ⟨rfl, k2⟩
    have K2 := Lib.hid k2
    clear k2
    go_wp2_with fail
    go_ret2
    exact ⟨_, rfl, SeesZ.nil _ _, (fun g h => by cases h), K2.out⟩
  · rw [he]
    rw [sumE_ok hm, hm] at HC
    obtain ⟨S, hS⟩ : ∃ S, S = sumQ l := ⟨_, rfl⟩
    have HU2 := Lib.hid (fun w' (kp : Kp (fun _ => False) w w') => HUN.out w' kp S)
    rw [← hS] at HC hu2
    rw [hu2] at HU2
    have hne : (ue != 0) = true := by simp [hue]
    clear he hm G hS hu2 HUN HOW hue
    go_enter Try.func19, Try.ntmps19
    go_wp2_with fail
    refine HC.out.mono ?_
    rintro e w2 ⟨rfl, k2⟩
    have HU3 := Lib.hid (HU2.out _ k2)
    have K2 := Lib.hid k2
    clear k2
    go_wp2_with fail
    refine HU3.out.mono ?_
    rintro e w3 ⟨v3, rfl, _, _, k3⟩
    have K3 := Lib.hid (K2.out.trans k3 (fun _ _ f => f))
    clear k3
    go_wp2_with fail
    go_ret2
    exact ⟨_, rfl, SeesZ.nil _ _, (fun g h => by cases h), K3.out⟩
  · rw [he]
    rw [sumE_ok hm, hm] at HC
    obtain ⟨S, hS⟩ : ∃ S, S = sumQ l := ⟨_, rfl⟩
    have HU2 := Lib.hid (fun w' (kp : Kp (fun _ => False) w w') => HUN.out w' kp S)
    rw [← hS] at HC hu hur
    rw [← hS] at HOW
    rw [hu] at HU2
    have HO2 := Lib.hid (fun w' (kp : Kp (fun _ => False) w w') (u : Int) (h : 0 ≤ u ∧ u < S) => HOW.out w' kp hm u h.1 h.2)
    have HR := Lib.hid (fun (j : Nat) (u : Int) (h : us[j]? = some u) => hur u (List.mem_of_getElem? h))
    clear he hm G hS hu HUN HOW hur
    go_enter Try.func19, Try.ntmps19
    go_wp2_with fail
    refine HC.out.mono ?_
    rintro e w2 ⟨rfl, k2⟩
    have HU3 := Lib.hid (HU2.out _ k2)
    have K2 := Lib.hid k2
    clear k2
    go_wp2_with fail
    refine HU3.out.mono ?_
    rintro e w3 ⟨v3, rfl, s3, _, k3⟩
    obtain ⟨a3, c3, rfl, hlc3, hmax3, _⟩ := s3.form
    have S3 := Lib.hid s3
    have K3 := Lib.hid (K2.out.trans k3 (fun _ _ f => f))
    clear s3 k3
    have hl3 : (0 : Int) ≤ us.length := by omega
    go_wp2_with fail
    go_loopw [12, 13] (fun ov jv wr => ∃ (j : Nat), j ≤ us.length ∧ jv = .int .i64 j ∧ Hid (Kp (fun _ => False) w3 wr) ∧
      Hid (OwnG 3 1 wr w3.heap.size ov j (encZ .i64 ((us.take j).map (ownQ l))))) (fun _ jv _ => us.length - (intOf jv).toNat)
    case atStart => exact ⟨0, by omega, rfl, Lib.hid (Kp.refl _ w3), Lib.hid (OwnG.nil _ _ _ _)⟩
    case round =>
      obtain ⟨j, hj, rfl, hkp, hown⟩ := hrel
      obtain ⟨a4, c4, rfl⟩ := hown.out.form
      by_cases hlt : j < us.length
      · obtain ⟨u, hu⟩ : ∃ u, us[j]? = some u := ⟨us[j], by simp⟩
        obtain ⟨g, off, rfl, hc⟩ := (S3.out.kept hkp.out).at hu
        have HOJ := Lib.hid (HO2.out wr (K3.out.trans hkp.out (fun _ _ f => f)) u (HR.out j u hu))
        obtain ⟨o, ho⟩ : ∃ o, o = ownQ l u := ⟨_, rfl⟩
        rw [← ho] at HOJ
        have HTK := Lib.hid (show (us.take (j + 1)).map (ownQ l) = (us.take j).map (ownQ l) ++ [o] by
          obtain ⟨hk', e⟩ := List.getElem?_eq_some_iff.1 hu
          rw [List.take_succ_eq_append_getElem hk', e, List.map_append, ho]; rfl)
        have HKP := Lib.hid hkp.out
        have HOWN := Lib.hid hown.out
        clear hu ho hkp hown
        go_wp2_with fail
        refine HOJ.out.mono ?_
        rintro e w4 ⟨rfl, k4⟩
        have k5 : Kp (fun _ => False) wr (w4.alloc (.cells #[.int .i64 o] 3)) := k4.alloc _
        obtain ⟨v', w5, hap, o5, k6, b5⟩ := app_own Try.underlying37 infoInt rfl (by have := HKP.out.size; have := k5.size; omega) (HOWN.out.kept k5 (fun _ _ f => f)) (src_oneI (new_blk w4 (.cells #[.int .i64 o] 3))) (Nat.le_refl _) (by omega) (by omega)
        have HO5 := Lib.hid (show OwnG 3 1 w5 w3.heap.size v' (j + 1) (encZ .i64 ((us.take (j + 1)).map (ownQ l))) by rw [HTK.out, encZ_append]; exact o5)
        have HK5 := Lib.hid (show Kp (fun _ => False) w3 w5 from (HKP.out.trans k5 (fun _ _ f => f)).trans k6 (fun x hx h => by have := (HOWN.out.lt x h).1; omega))
        clear k4 k5 o5 k6 b5
        go_wp2_with (at_builtin; refine Lib.wpList_append_run _ rfl _ _ _ _ rfl _ _ rfl rfl _ _ (hap _) ?_)
        go_roundw
        case rel => exact ⟨j + 1, by omega, by go_num, HK5, HO5⟩
        case measure => simp [intOf]; omega
      · obtain rfl : j = us.length := by omega
        have ho := hown.out
        rw [List.take_length] at ho
        have hml : (us.map (ownQ l)).length = us.length := List.length_map _
        have HSE := Lib.hid (show SeesZ .i64 wr (.slice a4 us.length c4) (us.map (ownQ l)) ∧ (∀ g, (Value.slice a4 us.length c4).ownBlock = some g → w.heap.size ≤ g) ∧ Kp (fun _ => False) w wr from
          ⟨(show OwnG 3 1 wr w3.heap.size (.slice a4 us.length c4) (us.map (ownQ l)).length (encZ .i64 (us.map (ownQ l))) by rw [hml]; exact ho).seesZ, fun g hg => Nat.le_trans K3.out.size (ho.lt g hg).1, K3.out.trans hkp.out (fun _ _ f => f)⟩)
        clear ho hml hkp hown
        go_wp2
        go_ret2
        exact ⟨_, rfl, HSE.out⟩
end Go.Proofs.Ytpadabmbblcklaa
