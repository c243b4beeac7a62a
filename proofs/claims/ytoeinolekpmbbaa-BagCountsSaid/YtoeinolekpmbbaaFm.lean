/-
  The laws' own few and live: the chapter's example.
-/
import Derived.Test.YtoeinolekpmbbaaFf
import Derived.Test.YtoeinolekpmbbaaFk
import Derived.Test.YtoeinolekpmbbaaFl
import Derived.Test.YtoeinolekpmbbaaFj
namespace Go.Proofs.Ytoeinolekpmbbaa
open Go.ChangeShapes Go.WideShapes Go.ChangeAt Go.RowKit

/-! what is told in order is known by what was gathered -/
theorem Sorts.rise {l L : List Vt} (h : Sorts l L) (hu : Uniq l) (hl : ∀ x ∈ l, x.id.length = 32) : Rise L := by
  have huL : (L.map (fun x : Vt => x.id)).Nodup := (h.1.map (fun x : Vt => x.id)).nodup_iff.2 hu
  have hne : L.Pairwise (fun x y => x.id ≠ y.id) := List.pairwise_map.1 (List.nodup_iff_pairwise_ne.1 huL)
  have hlen : ∀ x ∈ L, x.id.length = 32 := fun x hx => hl x (h.1.mem_iff.1 hx)
  have h3 : L.Pairwise (fun x y => x.id.length = 32 ∧ y.id.length = 32) := List.pairwise_of_forall_mem_list (fun x hx y hy => ⟨hlen x hx, hlen y hy⟩)
  refine ((h.2.and hne).and h3).imp (fun {_ _} hxy => ?_)
  obtain ⟨⟨h1, h2⟩, h4, h5⟩ := hxy
  exact cmpI_gt (by rw [h4, h5]) h1 (Ne.symm h2)
theorem perm_rise {a b : List Vt} (ha : Rise a) (hb : Rise b) (h : a.Perm b) : a = b := rise_ext ha hb (fun _ => h.mem_iff)

set_option maxRecDepth 100000 in
set_option maxHeartbeats 800000 in
theorem fewT_any {g n cap : Nat} {t : TypeId} {fr : Nat × Nat} {vs : List Value} {w : World} (hb : w.heap[g]? = some (.cells vs.toArray t fr)) (hn : vs.length = n) (hcap : n ≤ cap) (hmax : cap ≤ 1000)
    (ls : List Nat) (hls : ∀ (i : Nat) (v : Value), vs[i]? = some v → ∃ a m c, v = .slice a m c ∧ ls[i]? = some m) (hln : ls.length = n) :
    Calls Try.prog 10 #[.slice (some ⟨g, 0, none⟩) n cap] w fun e w' => e = .returned (.bool (decide (∀ m ∈ ls, m ≤ 60))) ∧ Kp (fun _ => False) w w' := by
  have HB := Lib.hid hb
  have HLS := Lib.hid hls
  have HN := Lib.hid hn
  have HLN := Lib.hid hln
  obtain ⟨z, hz⟩ : ∃ z, z = decide (∀ m ∈ ls, m ≤ 60) := ⟨_, rfl⟩
  rw [← hz]
  have HZ := Lib.hid hz
  clear hb hls hn hln hz
  go_enter Try.func10, Try.ntmps10
  go_wp2_with fail
  go_loopw [7] (fun i wr => ∃ k : Nat, k ≤ n ∧ i = .int .i64 k ∧ wr = w ∧ Hid (∀ (j m : Nat), j < k → ls[j]? = some m → m ≤ 60)) (fun i _ => n - (intOf i).toNat)
  case atStart => exact ⟨0, Nat.zero_le _, rfl, rfl, Lib.hid (fun j m h => by omega)⟩
  case round =>
    obtain ⟨k, hk, rfl, rfl, hsm⟩ := hrel
    by_cases hlt : k < n
    · obtain ⟨v, hv⟩ : ∃ v, vs[k]? = some v := ⟨vs[k]'(by rw [HN.out]; exact hlt), List.getElem?_eq_getElem _⟩
      obtain ⟨a, m, c, rfl, hm⟩ := HLS.out k v hv
      have hc0 : wr.cell? ⟨g, k, none⟩ = some (.slice a m c) := (cell_blk HB.out k).trans (by rw [List.getElem?_toArray]; exact hv)
      have HM := Lib.hid hm
      clear hv hm
      by_cases h60 : 60 < m
      · have h60' : (60 : Int) < m := by omega
        have HF := Lib.hid (show z = false by
          rw [HZ.out]
          exact decide_eq_false (fun h => by have := h m (List.mem_of_getElem? HM.out); omega))
        go_wp2
        go_ret
        exact ⟨by rw [HF.out]; rfl, Kp.refl _ _⟩
      · have h60' : ¬ (60 : Int) < m := by omega
        go_wp2
        go_roundw
        case rel => exact ⟨k + 1, by omega, by go_num, by first | rfl | trivial, Lib.hid (fun j m' hj hm' => by
          rcases Nat.lt_or_ge j k with h | h
          · exact hsm.out j m' h hm'
          · obtain rfl : j = k := by omega
            rw [HM.out] at hm'
            cases hm'
            omega)⟩
        case measure => simp [intOf]; omega
    · obtain rfl : k = n := by omega
      have HF := Lib.hid (show z = true by
        rw [HZ.out]
        refine decide_eq_true (fun m hm => ?_)
        obtain ⟨j, hj⟩ := List.getElem?_of_mem hm
        exact hsm.out j m (by rw [← HLN.out]; exact (List.getElem?_eq_some_iff.1 hj).1) hj)
      clear hsm
      go_wp2
      go_ret
      exact ⟨by rw [HF.out]; rfl, Kp.refl _ _⟩

def idA : List Int := 1 :: List.replicate 31 0
def idB : List Int := 2 :: List.replicate 31 0
theorem idA_nm : Nm idA := ⟨by decide, fun x hx => by
  rcases List.mem_cons.1 hx with e | h
  · omega
  · rw [List.eq_of_mem_replicate h]; omega⟩
theorem idB_nm : Nm idB := ⟨by decide, fun x hx => by
  rcases List.mem_cons.1 hx with e | h
  · omega
  · rw [List.eq_of_mem_replicate h]; omega⟩
def exL : List Vt := [⟨idA, 1⟩, ⟨idB, 2⟩]
theorem exL_rise : Rise exL := by
  refine List.pairwise_cons.2 ⟨fun x hx => ?_, List.pairwise_singleton _ _⟩
  rw [List.mem_singleton.1 hx]
  decide
theorem exL_gath : (gathAll [] [idB, idA, idB]).Perm exL := by
  have : gathAll [] [idB, idA, idB] = [⟨idB, 2⟩, ⟨idA, 1⟩] := by decide
  rw [this]
  exact List.Perm.swap _ _ _
theorem exL_ok : TOk exL := fun x hx => by
  rcases List.mem_cons.1 hx with e | hx
  · rw [e]; exact ⟨idA_nm, by decide, by decide⟩
  · rw [List.mem_singleton.1 hx]; exact ⟨idB_nm, by decide, by decide⟩
theorem exL_mode : modeV exL = ⟨idB, 2⟩ := by decide
theorem exL_tot : totT exL = 3 := by decide
theorem ex_sorts {L : List Vt} (h : Sorts (gathAll [] [idB, idA, idB]) L) (hg : Gathd (gathAll [] [idB, idA, idB]) 3) : L = exL :=
  perm_rise (h.rise hg.uq (fun x hx => (hg.nm x hx).len)) exL_rise (h.1.trans exL_gath)
set_option maxRecDepth 100000 in
theorem mkBAB (w : World) : (Instr.buildSlice 23 3 #[(0, .agg (U8s idB).toArray), (1, .agg (U8s idA).toArray), (2, .agg (U8s idB).toArray)]).run Try.prog w = .ok (.slice (some ⟨w.heap.size, 0, none⟩) 3 3) (w.alloc (.cells (U8s [idB, idA, idB].flatten).toArray 27)) := by
  kernel_rfl
set_option maxRecDepth 100000 in
theorem mkExL (w : World) : (Instr.buildSlice 22 2 #[(0, .agg (vtC ⟨idA, 1⟩).toArray), (1, .agg (vtC ⟨idB, 2⟩).toArray)]).run Try.prog w = .ok (.slice (some ⟨w.heap.size, 0, none⟩) 2 2) (w.alloc (.cells (flatT exL).toArray 33)) := by
  kernel_rfl
theorem builtA : (Try.prog.built 27 [(0, .int .u8 1)]).isSome = true ∧ (Try.prog.built 27 [(0, .int .u8 1)]).getD #[] = (U8s idA).toArray := ⟨by kernel_rfl, by kernel_rfl⟩
theorem builtB : (Try.prog.built 27 [(0, .int .u8 2)]).isSome = true ∧ (Try.prog.built 27 [(0, .int .u8 2)]).getD #[] = (U8s idB).toArray := ⟨by kernel_rfl, by kernel_rfl⟩
theorem wpList_idc {ops : Array Oper} {rest : List Oper} {o : Oper} {a : Act} {w : World} {Q : Exit → Act → World → Prop} (c : Int) (id : List Int) (hb : (Try.prog.built 27 [(0, .int .u8 c)]).isSome = true ∧ (Try.prog.built 27 [(0, .int .u8 c)]).getD #[] = (U8s id).toArray)
    (hg : o.guard = none) (ho : o.op = .build 27 #[(0, .const (.int .u8 c))]) (h : wpList Try.prog ops Q rest (a.put o.dst (.agg (U8s id).toArray)) w) : wpList Try.prog ops Q (o :: rest) a w := by
  have e0 : (#[((0 : Nat), Operand.const (.int .u8 c))].map fun (i, x) => (i, a.eval x)).toList = [(0, .int .u8 c)] := by simp [Act.eval]
  refine wpList_build hg _ _ ho (by rw [e0]; exact hb.1) ?_
  rw [e0, hb.2]
  exact h
set_option maxRecDepth 100000 in
set_option maxHeartbeats 3200000 in
theorem liveT_any (w : World) : Calls Try.prog 9 #[] w fun e w' => e = .returned (.bool true) ∧ Kp (fun _ => False) w w' := by
  have hz := zeroIdF
  obtain ⟨z, hzz⟩ : ∃ z, z = (U8s (List.replicate 32 0)).toArray := ⟨_, rfl⟩
  have hzs : z.size = 32 := by rw [hzz]; simp [U8s_length]
  rw [← hzz] at hz
  clear hzz
  have IA := Lib.hid (info32 idA idA_nm.len)
  have IB := Lib.hid (info32 idB idB_nm.len)
  have ZA := Lib.hid (show z.size = (U8s idA).toArray.size by rw [hzs, List.size_toArray, U8s_length, idA_nm.len])
  have ZB := Lib.hid (show z.size = (U8s idB).toArray.size by rw [hzs, List.size_toArray, U8s_length, idB_nm.len])
  have OA := Lib.hid (all_oneCell_toArray (U8s_one idA))
  have OB := Lib.hid (all_oneCell_toArray (U8s_one idB))
  have b1 := old_blk (new_blk w (.cells z 27)) (.cells z 27)
  have b2 := new_blk (w.alloc (.cells z 27)) (.cells z 27)
  rw [World.size_alloc] at b2
  have B1 := Lib.hid b1
  obtain ⟨V, hV⟩ : ∃ V, V = ((w.alloc (.cells z 27)).alloc (.cells z 27)).setRow w.heap.size (U8s idA).toArray := ⟨_, rfl⟩
  have kV : Kp (fun y => y = w.heap.size) ((w.alloc (.cells z 27)).alloc (.cells z 27)) V := by rw [hV]; exact st_row_kp (F := fun y => y = w.heap.size) (Kp.refl _ _) (fun _ => rfl) _
  have v1 : V.heap[w.heap.size]? = some (.cells (U8s idA).toArray 27 (0, 0)) := by rw [hV]; exact st_row_blk b1
  have v2 := kept_blk b2 kV (fun e => by omega)
  have V2 := Lib.hid v2
  obtain ⟨X, hX⟩ : ∃ X, X = V.setRow (w.heap.size + 1) (U8s idB).toArray := ⟨_, rfl⟩
  have kX : Kp (fun y => y = w.heap.size + 1) V X := by rw [hX]; exact st_row_kp (F := fun y => y = w.heap.size + 1) (Kp.refl _ _) (fun _ => rfl) _
  have XA := Lib.hid (kept_blk v1 kX (fun e => by omega))
  have XB := Lib.hid (show X.heap[w.heap.size + 1]? = some (.cells (U8s idB).toArray 27 (0, 0)) by rw [hX]; exact st_row_blk v2)
  have KX := Lib.hid (show Kp (fun _ => False) w X from ((((Kp.refl (fun _ => False) w).alloc _).alloc _).trans kV (fun y hy e => by omega)).trans kX (fun y hy e => by omega))
  have own : OwnG 27 32 (X.alloc (.cells (U8s [idB, idA, idB].flatten).toArray 27)) 0 (.slice (some ⟨X.heap.size, 0, none⟩) 3 3) 3 (U8s [idB, idA, idB].flatten) :=
    ⟨by rw [U8s_length]; decide, .inr ⟨X.heap.size, 3, [], rfl, Nat.zero_le _, by rw [List.append_nil]; exact new_blk _ _, by rw [List.append_nil, U8s_length]; decide, Nat.le_refl _, by unfold maxLen; omega⟩⟩
  have hnm : ∀ x ∈ [idB, idA, idB], Nm x := fun x hx => by
    rcases List.mem_cons.1 hx with e | hx
    · rw [e]; exact idB_nm
    · rcases List.mem_cons.1 hx with e | hx
      · rw [e]; exact idA_nm
      · rw [List.mem_singleton.1 hx]; exact idB_nm
  have HOF := Lib.hid (bof_any ((own_seesI (ids := [idB, idA, idB]) (fun x hx => (hnm x hx).len) own).mono (A' := fun _ => True) (fun _ _ _ => trivial) (fun x hx => (hnm x hx).len)) hnm (by decide))
  have HX := Lib.hid hX
  have HV := Lib.hid hV
  clear hX hV kV kX v1 v2 b1 b2 own hnm hzs
  go_enter Try.func9, Try.ntmps9
  go_wp2_with (first
    | ((with_reducible refine at_dst 6 ?_); refine wpList_idc 1 idA builtA rfl rfl ?_)
    | ((with_reducible refine at_dst 7 ?_); refine wpList_idc 2 idB builtB rfl rfl ?_)
    | ((with_reducible refine at_store 1 6 ?_); refine wpList_store_row rfl 27 _ _ rfl w.heap.size (U8s idA).toArray rfl rfl 27 _ B1.out IA.out ZA.out OA.out ?_; rw [← HV.out])
    | ((with_reducible refine at_store 2 7 ?_); refine wpList_store_row rfl 27 _ _ rfl (w.heap.size + 1) (U8s idB).toArray rfl rfl 27 _ V2.out IB.out ZB.out OB.out ?_; rw [← HX.out])
    | ((with_reducible refine at_dst 8 ?_); refine wpList_load_row rfl 27 _ rfl (w.heap.size + 1) rfl 27 _ (0, 0) _ XB.out Try.underlying27 rfl IB.out ?_)
    | ((with_reducible refine at_dst 9 ?_); refine wpList_load_row rfl 27 _ rfl w.heap.size rfl 27 _ (0, 0) _ XA.out Try.underlying27 rfl IA.out ?_)
    | ((with_reducible refine at_dst 10 ?_); refine wpList_load_row rfl 27 _ rfl (w.heap.size + 1) rfl 27 _ (0, 0) _ XB.out Try.underlying27 rfl IB.out ?_)
    | ((with_reducible refine at_dst 11 ?_); refine wpList_slice_run rfl 23 3 _ rfl _ rfl _ _ (mkBAB X) ?_))
  refine HOF.out.mono ?_
  rintro e w1 ⟨v1, L, rfl, hso, hga, hma, k1⟩
  obtain rfl := ex_sorts hso hga
  have K1 := Lib.hid ((KX.out.alloc (.cells (U8s [idB, idA, idB].flatten).toArray 27)).trans k1 (fun _ _ f => f))
  have k1' := ((Kp.refl (fun _ => False) X).alloc (.cells (U8s [idB, idA, idB].flatten).toArray 27)).trans k1 (fun _ _ f => f)
  have YA := Lib.hid (kept_blk XA.out k1' (fun f => f))
  have YB := Lib.hid (kept_blk XB.out k1' (fun f => f))
  have HMD := Lib.hid (bmode_any hma.1 exL_ok)
  rw [exL_mode] at HMD
  have HS := Lib.hid hma.1
  obtain ⟨a1, c1, rfl, _⟩ := hma.1.form
  clear hso hga hma k1 k1'
  go_wp2_with fail
  refine HMD.out.mono ?_
  rintro e w2 ⟨rfl, k2⟩
  have K2 := Lib.hid (K1.out.trans k2 (fun _ _ f => f))
  have ZA2 := Lib.hid (kept_blk YA.out k2 (fun f => f))
  have ZB2 := Lib.hid (kept_blk YB.out k2 (fun f => f))
  have HS2 := Lib.hid (HS.out.kept k2)
  clear k2
  go_wp2_with (first
    | ((with_reducible refine at_store 4 16 ?_); refine st_fresh rfl 27 _ _ rfl (U8s idB).toArray rfl rfl 27 _ IB.out ZB.out OB.out ?_; intro w3 k3 m3 s3; have K3 := Lib.hid (K2.out.trans k3 (fun _ _ f => f)); have M3 := Lib.hid m3; have ZA3 := Lib.hid (kept_blk ZA2.out k3 (fun f => f)); have ZB3 := Lib.hid (kept_blk ZB2.out k3 (fun f => f)); have HS3 := Lib.hid (HS2.out.kept k3); clear k3 m3 s3)
    | ((with_reducible refine at_dst 19 ?_); refine wpList_load_row rfl 27 _ rfl w.heap.size rfl 27 _ (0, 0) _ ZA3.out Try.underlying27 rfl IA.out ?_)
    | ((with_reducible refine at_dst 20 ?_); refine wpList_vt (.tmp 19) (.const (.int .i64 1)) ⟨idA, 1⟩ idA_nm.len rfl rfl rfl rfl ?_)
    | ((with_reducible refine at_dst 21 ?_); refine wpList_load_row rfl 27 _ rfl (w.heap.size + 1) rfl 27 _ (0, 0) _ ZB3.out Try.underlying27 rfl IB.out ?_)
    | ((with_reducible refine at_dst 22 ?_); refine wpList_vt (.tmp 21) (.const (.int .i64 2)) ⟨idB, 2⟩ idB_nm.len rfl rfl rfl rfl ?_)
    | ((with_reducible refine at_dst 23 ?_); refine wpList_slice_run rfl 22 2 _ rfl _ rfl _ _ (mkExL w3) ?_))
  have k4 : Kp (fun _ => False) w3 (w3.alloc (.cells (flatT exL).toArray 33)) := (Kp.refl _ _).alloc _
  have hse : SeesT (w3.alloc (.cells (flatT exL).toArray 33)) (.slice (some ⟨w3.heap.size, 0, none⟩) 2 2) exL :=
    OwnG.seesT (B := 0) (fun x hx => (exL_ok x hx).nm.len) ⟨by decide, .inr ⟨w3.heap.size, 2, [], rfl, Nat.zero_le _, by rw [List.append_nil]; exact new_blk _ _, by decide, by decide, by unfold maxLen; omega⟩⟩
  have hq := eqVotes_any (HS3.out.kept k4) hse (fun x hx => (exL_ok x hx).nm.len) (fun x hx => (exL_ok x hx).nm.len)
  rw [decide_eq_true rfl] at hq
  have HQ := Lib.hid hq
  have K4 := Lib.hid (K3.out.trans k4 (fun _ _ f => f))
  have M4 := Lib.hid (kept_blk M3.out k4 (fun f => f))
  have ZB4 := Lib.hid (kept_blk ZB3.out k4 (fun f => f))
  have HS4 := Lib.hid (HS3.out.kept k4)
  clear k4 hse hq
  refine HQ.out.mono ?_
  rintro e w5 ⟨rfl, k5⟩
  have K5 := Lib.hid (K4.out.trans k5 (fun _ _ f => f))
  have M5 := Lib.hid (kept_blk M4.out k5 (fun f => f))
  have ZB5 := Lib.hid (kept_blk ZB4.out k5 (fun f => f))
  have hs5 := HS4.out.kept k5
  have HT := Lib.hid (btotal_any hs5 exL_ok)
  rw [exL_tot] at HT
  have hee := eql_names idB idB idB_nm.len idB_nm.len
  rw [decide_eq_true rfl] at hee
  clear k5 hs5
  go_wp2_with (first
    | ((with_reducible refine at_dst 26 ?_); refine wpList_load_want rfl 27 _ rfl w2.heap.size rfl 27 _ (0, 0) _ M5.out Try.underlying27 rfl IB.out ?_)
    | ((with_reducible refine at_dst 27 ?_); refine wpList_load_want rfl 27 _ rfl (w.heap.size + 1) rfl 27 _ (0, 0) _ ZB5.out Try.underlying27 rfl IB.out ?_))
  refine HT.out.mono ?_
  rintro e w6 ⟨rfl, k6⟩
  have K6 := Lib.hid (K5.out.trans k6 (fun _ _ f => f))
  clear k6
  go_wp2_with fail
  go_ret
  exact ⟨rfl, K6.out⟩
end Go.Proofs.Ytoeinolekpmbbaa
