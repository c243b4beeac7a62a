/-
  Contracts of package sha's New, Sum, Len, Write, Clone.
-/
import Derived.Test.YtoognhbdgdfkoaaDoorEnd
namespace Go.Proofs.YtoognhbdgdfkoaaDoor
open Go.ChangeShapes Go.WideShapes Go.ChangeAt Go.RowKit

theorem infoSt {H : St} {part : List Int} (hp : part.length = 64) (came : Int) : (Tryd.prog.info? 85).map (·.size) = some (stC H part came).toArray.size := by
  rw [List.size_toArray, show (stC H part came).length = 74 by simp [stC, stL, U32s_length, U8s_length, hp, St.list]]; kernel_rfl
theorem info8 (l : List Int) (h : l.length = 8) : (Tryd.prog.info? 76).map (·.size) = some (U32s l).toArray.size := by
  rw [List.size_toArray, U32s_length, h]; kernel_rfl
theorem info32 (l : List Int) (h : l.length = 32) : (Tryd.prog.info? 23).map (·.size) = some (U8s l).toArray.size := by
  rw [List.size_toArray, U8s_length, h]; kernel_rfl
theorem stC_one (H : St) (part : List Int) (came : Int) : (stC H part came).toArray.all (·.oneCell') = true :=
  all_oneCell_toArray (fun v hv => by
    simp only [stC, stL, U32s, U8s, List.mem_cons, List.mem_append, List.mem_map, List.not_mem_nil, or_false] at hv
    rcases hv with rfl | (⟨_, _, rfl⟩ | ⟨_, _, rfl⟩) | rfl <;> rfl)
def st0 : List Value := .bool false :: (U32s (List.replicate 8 0) ++ U8s (List.replicate 64 0) ++ [.int .i64 0])
theorem zerosSt (w : World) : (zeroValue 85).run Tryd.prog w = .ok (.agg st0.toArray) w := by kernel_rfl
def id0 : List Int := List.replicate 32 0
theorem zerosId (w : World) : (zeroValue 23).run Tryd.prog w = .ok (.agg (U8s id0).toArray) w := by kernel_rfl

/-- the first k words' bytes stand in the name -/
structure SmRel (w : World) (s : St) (k : Nat) (wr : World) (g r : Nat) : Prop where
  row : ∃ l, wr.heap[g]? = some (.cells (U8s l).toArray 23 (0, 0)) ∧ l.length = 32 ∧ l.take (4 * k) = (bytesOf s).take (4 * k)
  out : ∃ l, wr.heap[r]? = some (.cells (U8s l).toArray 23 (0, 0)) ∧ l.length = 32
  kp : Kp (fun _ => False) w wr
theorem bytesOf_get (s : St) (k : Nat) (hk : k < 8) : (bytesOf s).take (4 * (k + 1)) = (bytesOf s).take (4 * k) ++ w4 (s.list.getD k 0) := by
  match k, hk with
  | 0, _ => rfl
  | 1, _ => rfl
  | 2, _ => rfl
  | 3, _ => rfl
  | 4, _ => rfl
  | 5, _ => rfl
  | 6, _ => rfl
  | 7, _ => rfl
set_option maxRecDepth 100000 in
set_option maxHeartbeats 800000 in
theorem sum_any (bs : List Int) (hlen : bs.length ≤ 100000) (p : Nat) (w : World) (hR : Rts w) (hst : IsSt w p bs) :
    Calls Tryd.prog 54 #[.pointer (some ⟨p, 0, none⟩)] w fun e w' => e = .returned (.agg (U8s (sumOf bs)).toArray) ∧ Kp (fun _ => False) w w' := by
  obtain ⟨H, part, hso, hg⟩ := hst
  have hpw := lt_of_blk hg
  have c0 : w.cell? ⟨p, 0, none⟩ = some (.bool true) := by rw [cell_blk hg]; rfl
  have hz1 := zerosSt
  have hz2 := zerosId
  have HG := Lib.hid hg
  have HR := Lib.hid hR
  clear hg hR
  go_enter Tryd.func54, Tryd.ntmps54
  have hps : Tryd.prog.underlying 85 = some _ := Tryd.underlying85
  have hpl := hso.len
  go_wp2_with (first
    | (refine wpList_load_row rfl 85 _ rfl p rfl 85 _ (0, 0) _ (old_blk HG.out _) Tryd.underlying85 rfl (infoSt hpl _) ?_)
    | (refine wpList_store_fresh_at rfl 85 _ _ rfl _ (w.heap.size + 1) (World.size_alloc _ _) rfl rfl 85 _ (infoSt hpl _) (by rw [List.size_toArray, List.size_toArray, show (stC H part bs.length).length = 74 by simp [stC, stL, U32s_length, U8s_length, hpl, St.list]]; rfl) (stC_one _ _ _) ?_; intro w2 hk2 hm hs2; have HM := Lib.hid hm; have HS2 := Lib.hid hs2; clear hm hs2))
  have hg0 := kept_blk (new_blk w (.cells (U8s id0).toArray 23)) hk2 (fun f => f)
  have hk02 : Kp (fun _ => False) w w2 := ((Kp.refl _ w).alloc _).trans hk2 (fun _ _ f => f)
  have HE := Lib.hid (end_any bs hlen (w.heap.size + 1) w2 (HR.out.kept hk02 (fun _ _ f => f)) (by have := HR.out.size; omega) ⟨H, part, hso, HM.out⟩)
  have HG0 := Lib.hid hg0
  have HK02 := Lib.hid hk02
  clear hg0 hk2 hk02 c0 hps
  refine HE.out.mono ?_
  rintro e w3 ⟨rfl, ⟨H', part', hso', hg'⟩, hk3⟩
  have hg3 := kept_blk HG0.out hk3 (by show ¬ w.heap.size = _; omega)
  have hk03 : Kp (fun _ => False) w w3 := HK02.out.trans hk3 (fun x hx e => by omega)
  have hs3 := hk3.size
  rw [HS2.out] at hs3
  have hrow : ∀ o, (w3.alloc o).rangeAt (w.heap.size + 1) 1 (U32s H'.list) := fun o j v hj => by
    rw [cell_blk (old_blk hg' o), List.getElem?_toArray, Nat.add_comm 1 j, stC, stL, List.getElem?_cons_succ, List.append_assoc, List.getElem?_append_left (List.getElem?_eq_some_iff.1 hj).1]
    exact hj
  have hstart : SmRel w H' 0 (w3.alloc (.cells (U8s id0).toArray 23)) w3.heap.size w.heap.size :=
    ⟨⟨id0, new_blk _ _, rfl, rfl⟩, ⟨id0, old_blk hg3 _, rfl⟩, hk03.alloc _⟩
  have HSt := Lib.hid hstart
  have HRow := Lib.hid hrow
  have hsz : w.heap.size + 2 ≤ w3.heap.size := by omega
  clear hstart hrow hg3 hk03 hs3 hg' hk3
  go_wp2_with (refine wpList_load_mid rfl 76 _ rfl (w.heap.size + 1) 1 rfl (U32s H'.list) _ (HRow.out _) Tryd.underlying76 rfl (by rw [← List.size_toArray]; exact info8 _ rfl) ?_)
  go_loopw [5, 6, 23] (fun _ _ i wr => ∃ k : Nat, k ≤ 8 ∧ i = .int .i64 k ∧ SmRel w H' k wr w3.heap.size w.heap.size) (fun _ _ i _ => 8 - (intOf i).toNat)
  case atStart => exact ⟨0, by omega, rfl, HSt.out⟩
  case round =>
    obtain ⟨k, hk8, rfl, hr⟩ := hrel
    by_cases hlt : k < 8
    · obtain ⟨l, hl, hl32, htk⟩ := hr.row
      have hix := index_words (t := 76) Tryd.underlying76 Tryd.underlying75 (by kernel_rfl) H'.list rfl k hlt
      have hsl := slice_from0 (t := 23) Tryd.underlying23 u8size w3.heap.size (4 * k) (4 * (k : Int)) (by omega) (by omega)
      have hd : decide ((k : Int) < 8) = true := by simp; omega
      have hx := getD_w32 hso'.ok.ws k
      have HSW := Lib.hid (setWord_at w3.heap.size _ l (4 * k) (32 - 4 * k) (32 - 4 * k) _ hx (by omega) (by omega) wr hl)
      have HTK := Lib.hid htk
      have HB := Lib.hid (bytesOf_get H' k hlt)
      clear hl htk
      go_wp2_with fail
      refine HSW.out.mono ?_
      rintro e wz ⟨rfl, hg4, hk4, hs4⟩
      have hnext : SmRel w H' (k + 1) wz w3.heap.size w.heap.size := by
        obtain ⟨lo, ho, hol⟩ := hr.out
        refine ⟨⟨_, hg4, by rw [put4_length _ _ _ (by omega)]; exact hl32, ?_⟩, ⟨lo, kept_blk ho hk4 (by show ¬ w.heap.size = _; omega), hol⟩, hr.kp.trans hk4 (fun x hx e => by omega)⟩
        rw [HB.out, ← HTK.out, put4, List.take_append_of_le_length (by simp [w4]; omega), List.take_of_length_le (by simp [w4]; omega)]
      have HN := Lib.hid hnext
      clear hnext hg4 hs4
      go_wp2_with fail
      go_roundw
      case rel => exact ⟨k + 1, by omega, by go_num, HN.out⟩
      case measure => simp [intOf]; omega
    · obtain rfl : k = 8 := by omega
      obtain ⟨l, hl, hl32, htk⟩ := hr.row
      obtain ⟨lo, ho, hol⟩ := hr.out
      obtain rfl : l = bytesOf H' := by
        rw [List.take_of_length_le (by omega), List.take_of_length_le (by rw [bytesOf_length]; omega)] at htk
        exact htk
      rw [sum_state hso'] at hl hl32
      have HL := Lib.hid hl
      have HO := Lib.hid ho
      have HOL := Lib.hid hol
      clear hl ho hol htk hlt hk8
      rw [show ((8 : Nat) : Int) = 8 from rfl]
      go_wp2_with (first
        | (refine wpList_load_row rfl 23 _ rfl w3.heap.size rfl 23 _ (0, 0) _ HL.out Tryd.underlying23 rfl (info32 _ hl32) ?_)
        | (refine wpList_store_row rfl 23 _ _ rfl w.heap.size _ rfl rfl 23 _ HO.out (info32 _ hl32) (by rw [List.size_toArray, List.size_toArray, U8s_length, U8s_length, HOL.out, hl32]) (all_oneCell_toArray (U8s_one _)) ?_))
      refine bodyPost_ret (v := .agg (U8s (sumOf bs)).toArray) (results_cell_row Tryd.results54 _ _ w.heap.size 23 _ (0, 0) _ rfl (setRow_blk HO.out) Tryd.underlying23 rfl (info32 _ hl32)) rfl ⟨rfl, ?_⟩
      exact hr.kp.setRow (by simp) _
end Go.Proofs.YtoognhbdgdfkoaaDoor
