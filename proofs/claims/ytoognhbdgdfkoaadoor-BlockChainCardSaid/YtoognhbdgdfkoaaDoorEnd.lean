/-
  Contract of package sha's end: what comes behind the last byte.
-/
import Derived.Test.YtoognhbdgdfkoaaDoorTake
namespace Go.Proofs.YtoognhbdgdfkoaaDoor
open Go.ChangeShapes Go.WideShapes Go.ChangeAt Go.RowKit

theorem be8 (v : Int) (h0 : 0 ≤ v) (h1 : v < 18446744073709551616) : be 8 v = w4 (v / 4294967296) ++ w4 (v % 4294967296) := by
  simp only [be, w4, List.cons_append, List.nil_append]
  refine List.cons_eq_cons.2 ⟨?_, List.cons_eq_cons.2 ⟨?_, List.cons_eq_cons.2 ⟨?_, List.cons_eq_cons.2 ⟨?_, List.cons_eq_cons.2 ⟨?_, List.cons_eq_cons.2 ⟨?_, List.cons_eq_cons.2 ⟨?_, List.cons_eq_cons.2 ⟨?_, rfl⟩⟩⟩⟩⟩⟩⟩⟩ <;> omega

def tl : List Int := 128 :: List.replicate 71 0
def tail0 : List Value := U8s tl
/-- the first n + 8 bytes of the tail are what stands behind -/
theorem tail_is (B n : Nat) (hn : n = gap B + 1) (hB : B ≤ 100000) : (put4 (put4 tl n ((B : Int) * 8 / 4294967296)) (n + 4) ((B : Int) * 8)).take (n + 8) = behind B := by
  have hg : gap B < 64 := by unfold gap; omega
  have e1 : (put4 tl n ((B : Int) * 8 / 4294967296)).take (n + 4) = tl.take n ++ w4 ((B : Int) * 8 / 4294967296) := by
    unfold put4
    rw [List.take_append_of_le_length (by simp [w4, tl]; omega), List.take_of_length_le (by simp [w4, tl]; omega)]
  have e2 : tl.take n = 128 :: List.replicate (gap B) 0 := by
    subst hn
    unfold tl
    rw [List.take_succ_cons, List.take_replicate, Nat.min_eq_left (by omega)]
  rw [put4, e1, e2, List.take_append_of_le_length (by simp [w4]; omega), List.take_of_length_le (by simp [w4]; omega), behind, be8 _ (by omega) (by omega), show (B : Int) * 8 % 4294967296 = (B : Int) * 8 by omega]
  simp
theorem tail_sees {w : World} {g t : Nat} (B n : Nat) (hn : n = gap B + 1) (hB : B ≤ 100000) (h : w.heap[g]? = some (.cells (U8s (put4 (put4 tl n ((B : Int) * 8 / 4294967296)) (n + 4) ((B : Int) * 8))).toArray t (0, 0))) :
    Sees w (.slice (some ⟨g, 0, none⟩) (n + 8) 72) (behind B) := by
  have hl : (behind B).length = n + 8 := by simp [behind, be_length]; omega
  have hg : gap B < 64 := by unfold gap; omega
  rw [← hl]
  refine Sees.mk (by omega) (by unfold maxLen; omega) (fun i x hx => ?_)
  rw [Nat.zero_add, cell_blk h, List.getElem?_toArray]
  refine U8s_get ?_
  rw [← tail_is B n hn hB] at hx
  rw [List.getElem?_take] at hx
  split at hx
  · exact hx
  · cases hx
theorem built72 : (Tryd.prog.built 95 [(0, .int .u8 128)]).isSome = true ∧ (Tryd.prog.built 95 [(0, .int .u8 128)]).getD #[] = tail0.toArray := ⟨by kernel_rfl, by kernel_rfl⟩
theorem wpList_tail {ops : Array Oper} {rest : List Oper} {o : Oper} {a : Act} {w : World} {Q : Exit → Act → World → Prop} (hg : o.guard = none) (ho : o.op = .build 95 #[(0, .const (.int .u8 128))])
    (h : wpList Tryd.prog ops Q rest (a.put o.dst (.agg tail0.toArray)) w) : wpList Tryd.prog ops Q (o :: rest) a w := by
  have e0 : (#[((0 : Nat), Operand.const (.int .u8 128))].map fun (i, x) => (i, a.eval x)).toList = [(0, .int .u8 128)] := by simp [Act.eval]
  refine wpList_build hg _ _ ho (by rw [e0]; exact built72.1) ?_
  rw [e0, built72.2]
  exact h
def zero72 : List Value := U8s (List.replicate 72 0)
theorem zeros72 (w : World) : (zeroValue 95).run Tryd.prog w = .ok (.agg zero72.toArray) w := by kernel_rfl
/-- a part of an array of one's own, from l on, and up to h -/
theorem slice_from0 {t e : TypeId} {n : Nat} (hu : Tryd.prog.underlying t = some (.array n e)) (hq : (Tryd.prog.info? e).map (·.size) = some 1) (g l : Nat) (L : Int) (hL : L = l) (hl : l < n) (w : World) :
    (Instr.sliceAt t (.pointer (some ⟨g, 0, none⟩)) (some (.int .i64 L)) none none).run Tryd.prog w = .ok (.slice (some ⟨g, l, none⟩) (n - l) (n - l)) w := by
  have := slice_from hu hq g 0 l L hL hl w
  rw [Nat.zero_add] at this
  exact this
theorem slice_to {t e : TypeId} {n : Nat} (hu : Tryd.prog.underlying t = some (.array n e)) (hq : (Tryd.prog.info? e).map (·.size) = some 1) (g h : Nat) (L : Int) (hL : L = h) (hl : h ≤ n) (h0 : 0 < n) (w : World) :
    (Instr.sliceAt t (.pointer (some ⟨g, 0, none⟩)) none (some (.int .i64 L)) none).run Tryd.prog w = .ok (.slice (some ⟨g, 0, none⟩) h n) w := by
  subst hL
  obtain ⟨i, hi, hs⟩ := Option.map_eq_some_iff.1 hq
  have he : Tryd.prog.elem t = e := by simp [Program.elem, hu]
  have ha : Tryd.prog.arrayLen t = n := by simp [Program.arrayLen, hu]
  rw [run_sliceAt_array_h w t ⟨g, 0, none⟩ (by rw [ha, hu, he]) .i64 h (by omega) (by omega), he, ha]
  simp [sizeOf, typeInfo, hi, hs, slicedAt, Nat.ne_of_gt h0, Addr.add_mid]
theorem info72 : (Tryd.prog.info? 95).map (·.size) = some tail0.toArray.size := by kernel_rfl
theorem gap_eq (B : Nat) : 64 - ((B : Int) + 8) % 64 = ((gap B + 1 : Nat) : Int) ∧ gap B + 1 ≤ 64 := by
  unfold gap; omega
set_option maxRecDepth 100000 in
set_option maxHeartbeats 800000 in
theorem end_any (bs : List Int) (hlen : bs.length ≤ 100000) (p : Nat) (w : World) (hR : Rts w) (hp2 : 2 ≤ p) (hst : IsSt w p bs) :
    Calls Tryd.prog 63 #[.pointer (some ⟨p, 0, none⟩)] w fun e w' => e = .returned (.tuple #[]) ∧ IsSt w' p (padded bs) ∧ Kp (fun y => y = p) w w' := by
  obtain ⟨H, part, hso, hg⟩ := id hst
  have c73 := came_cell hso.len hg
  have HST := Lib.hid hst
  obtain ⟨B, hB⟩ : ∃ B, B = bs.length := ⟨_, rfl⟩
  rw [← hB] at c73 hlen
  have HB := Lib.hid hB
  clear hg hst hB
  go_enter Tryd.func63, Tryd.ntmps63
  obtain ⟨hgap, hg64⟩ := gap_eq B
  obtain ⟨n, hn⟩ : ∃ n, n = gap B + 1 := ⟨_, rfl⟩
  rw [← hn] at hgap hg64
  have HN := Lib.hid hn
  have hz := zeros72
  have hpw := HST.out.lt
  clear hn
  have hsl1 := slice_from0 (t := 95) Tryd.underlying95 u8size w.heap.size n n rfl (by omega)
  have hsl2 := slice_from0 (t := 95) Tryd.underlying95 u8size w.heap.size (n + 4) ((n : Int) + 4) (by omega) (by omega)
  have hsl3 := slice_to (t := 95) Tryd.underlying95 u8size w.heap.size (n + 8) ((n : Int) + 8) (by omega) (by omega) (by omega)
  go_wp2_with (first
    | (refine wpList_tail rfl rfl ?_)
    | (refine wpList_store_fresh rfl 95 _ _ rfl _ rfl rfl 95 _ info72 rfl (all_oneCell_toArray (U8s_one _)) ?_; intro w2 hk2 hm hs2; have HM := Lib.hid hm; have HS2 := Lib.hid hs2; have c732 := (hk2.cell (p := ⟨p, 73, none⟩) hpw (fun f => f)).trans c73; clear hm hs2))
  have hl1 : n + 4 ≤ tl.length := by rw [show tl.length = 72 from rfl]; omega
  have hx1 : W32 ((B : Int) * 8 / 4294967296) := by unfold W32; omega
  have hx2 : W32 ((B : Int) * 8) := by unfold W32; omega
  have hl2 : n + 4 + 4 ≤ (put4 tl n ((B : Int) * 8 / 4294967296)).length := by rw [put4_length _ _ _ hl1, show tl.length = 72 from rfl]; omega
  refine (setWord_at w.heap.size _ tl n (72 - n) (72 - n) _ hx1 hl1 (by omega) w2 HM.out).mono ?_
  rintro e w3 ⟨rfl, hg3, hk3, hs3⟩
  have HG3 := Lib.hid hg3
  have HS3 := Lib.hid hs3
  have c733 := (hk3.cell (p := ⟨p, 73, none⟩) (by rw [HS2.out]; show p < _; omega) (by show ¬ p = _; omega)).trans c732
  clear hg3 hs3
  go_wp2_with fail
  refine (setWord_at w.heap.size _ _ (n + 4) (68 - n) (68 - n) _ hx2 hl2 (by omega) w3 HG3.out).mono ?_
  rintro e w4 ⟨rfl, hg4, hk4, hs4⟩
  have hsee := tail_sees (w := w4) B n HN.out hlen (by rw [hg4])
  have hkk : Kp (fun _ => False) w w4 := hk2.trans (hk3.trans hk4 (fun _ _ h => h)) (fun x hx e => by omega)
  have HK := Lib.hid hkk
  have HSE := Lib.hid hsee
  clear hg4 hs4 hsee hkk
  have hbl : (behind B).length = n + 8 := by simp [behind, be_length, HN.out]
  have HT := Lib.hid (take_any bs (behind B) (behind_rng B) (by rw [← HB.out, hbl]; omega) p _ w4 (hR.kept HK.out (fun _ _ f => f)) hp2 HSE.out (fun _ g hg e => by injection hg with hg; simp at hg; omega) (HST.out.kept HK.out (fun f => f)))
  clear hbl
  go_wp2_with fail
  refine HT.out.mono ?_
  rintro e w5 ⟨rfl, hst5, hk5⟩
  have H5 := Lib.hid hst5
  clear hst5
  go_wp2_with fail
  go_end0
  refine ⟨rfl, ?_, ((HK.out.mono (F := fun y => y = p) (fun _ _ f => f.elim)).trans hk5 (fun _ _ h => h))⟩
  have := H5.out
  rw [HB.out] at this
  exact this
end Go.Proofs.YtoognhbdgdfkoaaDoor
