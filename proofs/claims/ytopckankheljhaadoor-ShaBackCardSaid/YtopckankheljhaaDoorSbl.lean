/-
  ShaBack's walk.
-/
import Derived.Test.YtopckankheljhaaDoorSb
namespace Go.Proofs.YtopckankheljhaaDoor
open Go.ChangeShapes Go.WideShapes Go.ChangeAt Go.RowKit

theorem hex_string_len {xs : List Int} (h : Nm xs) : (strOfNums (hexI xs)).size = 64 := by
  show (strOfNums (hexI xs)).data.size = 64
  rw [← Array.length_toList, strOfNums_data, List.length_map, hexI_length, h.len]
set_option maxRecDepth 100000 in
set_option maxHeartbeats 1600000 in
theorem back_law (a : List Int) (ha : Nm a) (s : ByteArray) (w : World) (hR : Rts w) :
    Calls Tryd.prog 7 #[.agg (U8s a).toArray, .string s] w fun e w' => e = .returned (.bool true) ∧ Kp (fun _ => False) w w' := by
  have hz2 := zerosId
  have i1 := info32 a ha.len
  obtain ⟨W, hW⟩ : ∃ W, W = w.alloc (.cells (U8s a).toArray 26) := ⟨_, rfl⟩
  have h1 := new_blk w (.cells (U8s a).toArray 26)
  have hk : Kp (fun _ => False) w W := by rw [hW]; exact (Kp.refl _ w).alloc _
  rw [← hW] at h1
  have H1 := Lib.hid (fun w' (k : Kp (fun _ => False) W w') => kept_blk h1 k (fun f => f))
  have I1 := Lib.hid i1
  have HK := Lib.hid hk
  have HR := Lib.hid (hR.kept hk (fun _ _ f => f))
  have QH := Lib.hid (hex_any a ha)
  have qp := parse_any (strOfNums (hexI a))
  rw [Bys_strOfNums (hexI_rng ha.rng), parsed_hex ha] at qp
  have QP := Lib.hid qp
  have qt := parse_any s
  have hcs := parsed_cases (Bys s)
  have hnm := parsed_nm (Bys s)
  obtain ⟨y, hy⟩ : ∃ y, y = (parsed (Bys s)).1 := ⟨_, rfl⟩
  obtain ⟨e, he⟩ : ∃ e, e = (parsed (Bys s)).2 := ⟨_, rfl⟩
  rw [← hy, ← he] at qt
  rw [← hy] at hnm
  have hcs' : (y = id0 ∧ e = 20) ∨ (e = 0 ∧ hexI y = Bys s) := by
    rcases hcs with h | ⟨h1, h2⟩
    · left; rw [hy, he, h]; exact ⟨rfl, rfl⟩
    · right; rw [hy, he]; exact ⟨h1, h2⟩
  have QT := Lib.hid qt
  have HC := Lib.hid hcs'
  have IY := Lib.hid (info32 y hnm.len)
  have QY := Lib.hid (hex_any y hnm)
  have hne := neq_names a a ha.len ha.len
  rw [decide_eq_true rfl, Bool.not_true] at hne
  have hlen := hex_string_len ha
  have HL := Lib.hid hlen
  have k0 : Kp (fun _ => False) W (w.alloc (.cells (U8s a).toArray 26)) := by rw [← hW]; exact Kp.refl _ _
  clear qp qt hcs hcs' h1 hk i1 hW hR hy he hlen
  go_enter Tryd.func7, Tryd.ntmps7
  go_wp2_with (refine wpList_load_want rfl 26 _ rfl w.heap.size rfl 26 _ (0, 0) _ (H1.out _ (by assumption)) Tryd.underlying26 rfl I1.out ?_)
  refine (QH.out _).mono ?_
  rintro r w1 ⟨rfl, k1⟩
  replace k1 := k0.trans k1 (fun _ _ f => f)
  go_wp2_with fail
  refine (QP.out _).mono ?_
  rintro r w2 ⟨rfl, k2⟩
  replace k2 := k1.trans k2 (fun _ _ f => f)
  clear k0 k1
  have HZ2 := k2
  go_wp2_with (refine wpList_store_fresh rfl 26 _ _ rfl _ rfl rfl 26 _ I1.out (by rw [List.size_toArray, List.size_toArray, U8s_length, U8s_length, ha.len]; rfl) (all_oneCell_toArray (U8s_one _)) ?_; intro w3 k3 m3 s3; have M3 := Lib.hid m3; have K3 := Lib.hid k3; clear m3 s3 k3)
  have H5 := Lib.hid (fun w' (k : Kp (fun _ => False) w3 w') => kept_blk M3.out k (fun f => f))
  obtain ⟨g5, hg5⟩ : ∃ g, g = w2.heap.size := ⟨_, rfl⟩
  rw [← hg5] at H5 ⊢
  replace k2 := k2.trans K3.out (fun _ _ f => f)
  have j0 : Kp (fun _ => False) w3 w3 := Kp.refl _ _
  have h64 : (((strOfNums (hexI a)).size : Int) != 64) = false := by rw [HL.out]; rfl
  clear hg5 HZ2
  refine (begun_any _ (HR.out.kept k2 (fun _ _ f => f))).mono ?_
  rintro r w4 ⟨rfl, k4⟩
  have j4 := j0.trans k4 (fun _ _ f => f)
  replace k4 := k2.trans k4 (fun _ _ f => f)
  go_wp2_with (first
    | (refine wpList_load_want rfl 26 _ rfl w.heap.size rfl 26 _ (0, 0) _ (H1.out _ (by assumption)) Tryd.underlying26 rfl I1.out ?_)
    | (refine wpList_load_want rfl 26 _ rfl g5 rfl 26 _ (0, 0) _ (H5.out _ (by assumption)) Tryd.underlying26 rfl I1.out ?_))
  refine (QH.out _).mono ?_
  rintro r w5 ⟨rfl, k5⟩
  replace k5 := k4.trans k5 (fun _ _ f => f)
  go_wp2_with fail
  refine (QT.out _).mono ?_
  rintro r w6 ⟨rfl, k6⟩
  replace k6 := k5.trans k6 (fun _ _ f => f)
  clear j0 j4 k2 k4 k5
  rcases HC.out with ⟨hy, he⟩ | ⟨he, hxy⟩
  · subst hy he
    have hee := eql_names id0 id0 rfl rfl
    rw [decide_eq_true rfl] at hee
    go_wp2_with (first
    | (refine wpList_store_fresh rfl 26 _ _ rfl _ rfl rfl 26 _ IY.out rfl (all_oneCell_toArray (U8s_one _)) ?_; intro w7 k7 m7 s7; have M7 := Lib.hid m7; have K7 := Lib.hid (k6.trans k7 (fun _ _ f => f)); clear m7 s7 k7)
    | (refine wpList_load_want rfl 26 _ rfl w6.heap.size rfl 26 _ (0, 0) _ M7.out Tryd.underlying26 rfl IY.out ?_))
    go_ret
    exact ⟨rfl, HK.out.trans K7.out (fun _ _ f => f)⟩
  · subst he
    have hq : ((strOfNums (hexI y)).toList == s.toList) = true := by rw [hxy, strOf_Bys]; simp
    clear hxy
    go_wp2_with (first
    | (refine wpList_store_fresh rfl 26 _ _ rfl _ rfl rfl 26 _ IY.out (by rw [List.size_toArray, List.size_toArray, U8s_length, U8s_length, hnm.len]; rfl) (all_oneCell_toArray (U8s_one _)) ?_; intro w7 k7 m7 s7; have M7 := Lib.hid m7; have K7 := Lib.hid (k6.trans k7 (fun _ _ f => f)); clear m7 s7 k7)
    | (refine wpList_load_want rfl 26 _ rfl w6.heap.size rfl 26 _ (0, 0) _ M7.out Tryd.underlying26 rfl IY.out ?_))
    refine (QY.out _).mono ?_
    rintro r w8 ⟨rfl, k8⟩
    have K8 := Lib.hid (K7.out.trans k8 (fun _ _ f => f))
    clear k8
    go_wp2_with fail
    go_ret
    exact ⟨rfl, HK.out.trans K8.out (fun _ _ f => f)⟩
end Go.Proofs.YtopckankheljhaaDoor
