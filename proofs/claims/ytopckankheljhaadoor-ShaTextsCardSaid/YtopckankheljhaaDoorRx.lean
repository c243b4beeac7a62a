/-
  Contracts of the document's own names: digit, Hex, Parse.
-/
import Derived.Test.YtopckankheljhaaDoorSb
import Derived.Test.YtopckankheljhaaDoorAp
namespace Go.Proofs.YtopckankheljhaaDoor
open Go.ChangeShapes Go.WideShapes Go.ChangeAt Go.RowKit

/-- a digit's value, or -1 -/
def hvI (c : Int) : Int := match hv c with
  | some d => d
  | none => -1
theorem digi_0 (w : World) : (Instr.index 9 (.string ⟨#[48, 49, 50, 51, 52, 53, 54, 55, 56, 57, 97, 98, 99, 100, 101, 102]⟩) (.int .i64 0)).run Tryd.prog w = .ok (.int .u8 (dg 0)) w := by kernel_rfl
theorem digi_1 (w : World) : (Instr.index 9 (.string ⟨#[48, 49, 50, 51, 52, 53, 54, 55, 56, 57, 97, 98, 99, 100, 101, 102]⟩) (.int .i64 1)).run Tryd.prog w = .ok (.int .u8 (dg 1)) w := by kernel_rfl
theorem digi_2 (w : World) : (Instr.index 9 (.string ⟨#[48, 49, 50, 51, 52, 53, 54, 55, 56, 57, 97, 98, 99, 100, 101, 102]⟩) (.int .i64 2)).run Tryd.prog w = .ok (.int .u8 (dg 2)) w := by kernel_rfl
theorem digi_3 (w : World) : (Instr.index 9 (.string ⟨#[48, 49, 50, 51, 52, 53, 54, 55, 56, 57, 97, 98, 99, 100, 101, 102]⟩) (.int .i64 3)).run Tryd.prog w = .ok (.int .u8 (dg 3)) w := by kernel_rfl
theorem digi_4 (w : World) : (Instr.index 9 (.string ⟨#[48, 49, 50, 51, 52, 53, 54, 55, 56, 57, 97, 98, 99, 100, 101, 102]⟩) (.int .i64 4)).run Tryd.prog w = .ok (.int .u8 (dg 4)) w := by kernel_rfl
theorem digi_5 (w : World) : (Instr.index 9 (.string ⟨#[48, 49, 50, 51, 52, 53, 54, 55, 56, 57, 97, 98, 99, 100, 101, 102]⟩) (.int .i64 5)).run Tryd.prog w = .ok (.int .u8 (dg 5)) w := by kernel_rfl
theorem digi_6 (w : World) : (Instr.index 9 (.string ⟨#[48, 49, 50, 51, 52, 53, 54, 55, 56, 57, 97, 98, 99, 100, 101, 102]⟩) (.int .i64 6)).run Tryd.prog w = .ok (.int .u8 (dg 6)) w := by kernel_rfl
theorem digi_7 (w : World) : (Instr.index 9 (.string ⟨#[48, 49, 50, 51, 52, 53, 54, 55, 56, 57, 97, 98, 99, 100, 101, 102]⟩) (.int .i64 7)).run Tryd.prog w = .ok (.int .u8 (dg 7)) w := by kernel_rfl
theorem digi_8 (w : World) : (Instr.index 9 (.string ⟨#[48, 49, 50, 51, 52, 53, 54, 55, 56, 57, 97, 98, 99, 100, 101, 102]⟩) (.int .i64 8)).run Tryd.prog w = .ok (.int .u8 (dg 8)) w := by kernel_rfl
theorem digi_9 (w : World) : (Instr.index 9 (.string ⟨#[48, 49, 50, 51, 52, 53, 54, 55, 56, 57, 97, 98, 99, 100, 101, 102]⟩) (.int .i64 9)).run Tryd.prog w = .ok (.int .u8 (dg 9)) w := by kernel_rfl
theorem digi_10 (w : World) : (Instr.index 9 (.string ⟨#[48, 49, 50, 51, 52, 53, 54, 55, 56, 57, 97, 98, 99, 100, 101, 102]⟩) (.int .i64 10)).run Tryd.prog w = .ok (.int .u8 (dg 10)) w := by kernel_rfl
theorem digi_11 (w : World) : (Instr.index 9 (.string ⟨#[48, 49, 50, 51, 52, 53, 54, 55, 56, 57, 97, 98, 99, 100, 101, 102]⟩) (.int .i64 11)).run Tryd.prog w = .ok (.int .u8 (dg 11)) w := by kernel_rfl
theorem digi_12 (w : World) : (Instr.index 9 (.string ⟨#[48, 49, 50, 51, 52, 53, 54, 55, 56, 57, 97, 98, 99, 100, 101, 102]⟩) (.int .i64 12)).run Tryd.prog w = .ok (.int .u8 (dg 12)) w := by kernel_rfl
theorem digi_13 (w : World) : (Instr.index 9 (.string ⟨#[48, 49, 50, 51, 52, 53, 54, 55, 56, 57, 97, 98, 99, 100, 101, 102]⟩) (.int .i64 13)).run Tryd.prog w = .ok (.int .u8 (dg 13)) w := by kernel_rfl
theorem digi_14 (w : World) : (Instr.index 9 (.string ⟨#[48, 49, 50, 51, 52, 53, 54, 55, 56, 57, 97, 98, 99, 100, 101, 102]⟩) (.int .i64 14)).run Tryd.prog w = .ok (.int .u8 (dg 14)) w := by kernel_rfl
theorem digi_15 (w : World) : (Instr.index 9 (.string ⟨#[48, 49, 50, 51, 52, 53, 54, 55, 56, 57, 97, 98, 99, 100, 101, 102]⟩) (.int .i64 15)).run Tryd.prog w = .ok (.int .u8 (dg 15)) w := by kernel_rfl
theorem digi_at (k : Nat) (h1 : k < 16) (w : World) : (Instr.index 9 (.string ⟨#[48, 49, 50, 51, 52, 53, 54, 55, 56, 57, 97, 98, 99, 100, 101, 102]⟩) (.int .i64 (k : Int))).run Tryd.prog w = .ok (.int .u8 (dg k)) w := by
  have h : k = 0 ∨ k = 1 ∨ k = 2 ∨ k = 3 ∨ k = 4 ∨ k = 5 ∨ k = 6 ∨ k = 7 ∨ k = 8 ∨ k = 9 ∨ k = 10 ∨ k = 11 ∨ k = 12 ∨ k = 13 ∨ k = 14 ∨ k = 15 := by omega
  rcases h with rfl | rfl | rfl | rfl | rfl | rfl | rfl | rfl | rfl | rfl | rfl | rfl | rfl | rfl | rfl | rfl
  · exact digi_0 w
  · exact digi_1 w
  · exact digi_2 w
  · exact digi_3 w
  · exact digi_4 w
  · exact digi_5 w
  · exact digi_6 w
  · exact digi_7 w
  · exact digi_8 w
  · exact digi_9 w
  · exact digi_10 w
  · exact digi_11 w
  · exact digi_12 w
  · exact digi_13 w
  · exact digi_14 w
  · exact digi_15 w

set_option maxHeartbeats 400000 in
theorem rdigit_any (c : Int) (w : World) :
    Calls Tryd.prog 32 #[.int .u8 c] w fun e w' => e = .returned (.int .i64 (hvI c)) ∧ w = w' := by
  go_enter Tryd.func32, Tryd.ntmps32
  go_wp2
  go_loop [3] (fun i => ∃ k : Nat, k ≤ 16 ∧ i = .int .i64 k ∧ ∀ j : Nat, j < k → dg j ≠ c) (fun i => 16 - (intOf i).toNat)
  case atStart => exact ⟨0, by omega, rfl, fun j hj => by omega⟩
  case round =>
    obtain ⟨k, hk, rfl, hne⟩ := hrel
    have HNE := Lib.hid hne
    clear hne
    by_cases hlt : k < 16
    · have hix := digi_at k hlt
      have hd : decide ((k : Int) < 16) = true := by simp; omega
      by_cases hc : dg k = c
      · have hb : (dg k == c) = true := beq_iff_eq.2 hc
        have hr : hvI c = k := by unfold hvI; rw [← hc, hv_of_dg (by omega) (by omega)]
        have HR := Lib.hid hr
        clear hc hr
        go_wp2
        go_ret
        exact ⟨by rw [HR.out]; rfl, rfl⟩
      · have hb : (dg k == c) = false := beq_eq_false_iff_ne.2 hc
        have HC := Lib.hid hc
        clear hc
        go_wp2
        go_round
        case rel => exact ⟨k + 1, by omega, by go_num, fun j hj => by
          by_cases e : j = k
          · rw [e]; exact HC.out
          · exact HNE.out j (by omega)⟩
        case measure => simp [intOf]; omega
    · obtain rfl : k = 16 := by omega
      have hr : hvI c = -1 := by
        unfold hvI
        cases h : hv c with
        | none => rfl
        | some d =>
          have := hv_rng h
          have h2 := hv_dg h
          obtain ⟨j, rfl⟩ := Int.eq_ofNat_of_zero_le this.1
          exact absurd h2 (HNE.out j (by omega))
      have HR := Lib.hid hr
      clear hr
      rw [show ((16 : Nat) : Int) = 16 from rfl]
      go_wp2
      go_ret
      exact ⟨by rw [HR.out]; rfl, rfl⟩

/-- the first k bytes' digits, in a row of one's own -/
structure RhRel (w : World) (xs : List Int) (k : Nat) (v : Value) (wr : World) : Prop where
  own : OwnB wr (w.heap.size + 1) v (hexI (xs.take k))
  kp : Kp (fun _ => False) w wr
  box : wr.heap[w.heap.size]? = some (.cells (U8s xs).toArray 26 (0, 0))
theorem OwnB.form {w : World} {B : Nat} {v : Value} {l : List Int} (h : OwnB w B v l) : ∃ a c, v = .slice a l.length c := h.sees.len
set_option maxRecDepth 100000 in
set_option maxHeartbeats 800000 in
theorem rhex_any (xs : List Int) (hx : Nm xs) (w : World) :
    Calls Tryd.prog 21 #[.agg (U8s xs).toArray] w fun e w' => e = .returned (.string (strOfNums (hexI xs))) ∧ Kp (fun _ => False) w w' := by
  have hst : RhRel w xs 0 (.slice none 0 0) (w.alloc (.cells (U8s xs).toArray 26)) := ⟨.inl ⟨rfl, rfl⟩, (Kp.refl _ w).alloc _, new_blk _ _⟩
  have HS := Lib.hid hst
  have HX := Lib.hid hx
  clear hst hx
  go_enter Tryd.func21, Tryd.ntmps21
  go_wp2
  go_loopw [3, 4] (fun v i wr => ∃ k : Nat, k ≤ 32 ∧ i = .int .i64 k ∧ RhRel w xs k v wr) (fun _ i _ => 32 - (intOf i).toNat)
  case atStart => exact ⟨0, by omega, rfl, HS.out⟩
  case round =>
    obtain ⟨k, hk, rfl, hr⟩ := hrel
    by_cases hlt : k < 32
    · have hc : wr.cell? ⟨w.heap.size, k, none⟩ = some (.int .u8 (xs.getD k 0)) := by
        rw [cell_blk hr.box, List.getElem?_toArray]
        exact U8s_get (by simp [HX.out.len, hlt])
      have hxk : xs.take (k + 1) = xs.take k ++ [xs.getD k 0] := by rw [List.take_succ_eq_append_getElem (by rw [HX.out.len]; exact hlt)]; simp [HX.out.len, hlt]
      obtain ⟨b0, b1⟩ := getD_byte HX.out.rng k
      obtain ⟨x, hxe⟩ : ∃ x, x = xs.getD k 0 := ⟨_, rfl⟩
      rw [← hxe] at hc hxk b0 b1
      have d1 := digs_at (x / 16) (by omega) (by omega)
      have d2 := digs_at (x % 16) (by omega) (by omega)
      have hd : decide ((k : Int) < 32) = true := by simp; omega
      have p0 : (0 : Int) ≤ k := by omega
      have p1 : (k : Int) < 32 := by omega
      have t1 : x.tdiv 16 = x / 16 := Int.tdiv_eq_ediv_of_nonneg b0
      have t2 : x.tmod 16 = x % 16 := Int.tmod_eq_emod_of_nonneg b0
      have t3 : IntKind.u8.wrap (x / 16) = x / 16 := IntWalk.u8_in _ (by omega)
      have t4 : IntKind.u8.wrap (x % 16) = x % 16 := IntWalk.u8_in _ (by omega)
      have e16 : IntKind.i64.wrap (k : Int) = k := by rw [IntWalk.i64_in _ (by omega)]
      obtain ⟨a, c, hv'⟩ := hr.own.form
      have hown1 : ∀ m, OwnB ((wr.drew).alloc (.cells #[.int .u8 (dg (x / 16)), .int .u8 (dg (x % 16))] m)) (w.heap.size + 1) u3 (hexI (xs.take k)) := fun m =>
        hr.own.kept (((Kp.refl (fun _ => False) wr).drew).alloc _) (fun _ _ f => f)
      have hlit : Sees ((wr.drew).alloc (.cells #[.int .u8 (dg (x / 16)), .int .u8 (dg (x % 16))] 5)) (.slice (some ⟨wr.heap.size, 0, none⟩) 2 2) [dg (x / 16), dg (x % 16)] :=
        array_sees (xs := [dg (x / 16), dg (x % 16)]) (new_blk wr.drew (.cells (U8s [dg (x / 16), dg (x % 16)]).toArray 5)) (by show 2 ≤ 100000; omega)
      have hll : (hexI (xs.take k)).length ≤ 64 := by rw [hexI_length, List.length_take]; omega
      have hB := hr.own.lt
      obtain ⟨v', w', hap, hown', hk', hnew⟩ := run_append_by (B := w.heap.size + 1) (by rw [World.size_alloc]; show w.heap.size + 1 ≤ wr.heap.size + 1; have := hr.kp.size; omega) (hown1 _) hlit (by simp only [List.length_cons, List.length_nil]; omega)
      have hnext : RhRel w xs (k + 1) v' w' := by
        refine ⟨?_, ?_, ?_⟩
        · rw [hxk, hexI_append]; exact hown'
        · exact ((hr.kp.drew).alloc _).trans hk' (fun y hy e => by have := (hB y e).1; omega)
        · exact kept_blk (old_blk (show wr.drew.heap[w.heap.size]? = _ from hr.box) _) hk' (fun e => by have := (hB _ e).1; omega)
      have HAP := Lib.hid hap
      have HN := Lib.hid hnext
      clear hap hnext hown' hk' hnew hown1 hlit hB hxk hxe hll hr
      subst hv'
      go_wp2_with fail
      go_region_law (refine step_append_run rfl _ _ _ _ rfl _ _ rfl rfl _ _ (HAP.out _) ?_)
      clear e16 t1 t2 t3 t4
      all_goals go_wp2
      all_goals exact ⟨⟨k + 1, by omega, by go_num, HN.out⟩, by simp [intOf]; omega⟩
    · obtain rfl : k = 32 := by omega
      have hown := hr.own
      rw [List.take_of_length_le (by rw [HX.out.len]; omega)] at hown
      have hcv := run_string_of hown.sees
      obtain ⟨a, c, hv'⟩ := hown.form
      have HK := Lib.hid hr.kp
      clear hr hown
      subst hv'
      rw [show ((32 : Nat) : Int) = 32 from rfl]
      go_wp2
      go_ret
      exact ⟨rfl, HK.out⟩

/-- the first k bytes of a text are digits -/
structure RpRel (w : World) (s : ByteArray) (k : Nat) (wr : World) : Prop where
  here : ∃ ns, NibsTo (Bys s) k ns ∧ wr.heap[w.heap.size]? = some (.cells (U8s id0).toArray 26 (0, 0)) ∧ wr.heap[w.heap.size + 1]? = some (.cells (U8s (idOf ns)).toArray 26 (0, 0))
  kp : Kp (fun _ => False) w wr
theorem index_text (s : ByteArray) (k : Nat) (h : k < s.size) (w : World) : (Instr.index 9 (.string s) (.int .i64 (k : Int))).run Tryd.prog w = .ok (.int .u8 ((Bys s).getD k 0)) w := by
  rw [Bys_get s k h]
  have h0 : (0 : Int) ≤ k := by omega
  simp [Instr.index, run_underlying Tryd.underlying9, asIntOf, h0, h, go_sem]
set_option maxRecDepth 100000 in
set_option maxHeartbeats 1600000 in
theorem rparse_any (s : ByteArray) (w : World) :
    Calls Tryd.prog 19 #[.string s] w fun e w' => e = .returned (.tuple #[.agg (U8s (parsed (Bys s)).1).toArray, .int .i64 (parsed (Bys s)).2]) ∧ Kp (fun _ => False) w w' := by
  have hz2 := zerosId
  have h0 := old_blk (new_blk w (.cells (U8s id0).toArray 26)) (.cells (U8s id0).toArray 26)
  have h1 := new_blk (w.alloc (.cells (U8s id0).toArray 26)) (.cells (U8s id0).toArray 26)
  rw [World.size_alloc] at h1
  have hi := info32 id0 rfl
  have HI := Lib.hid hi
  have hlen := Bys_length s
  have H0 := Lib.hid h0
  have H1 := Lib.hid h1
  have hku : ∀ W : World, W.heap[w.heap.size]? = some (.cells (U8s id0).toArray 26 (0, 0)) → (loadVar 26 ⟨w.heap.size, 0, none⟩).run Tryd.prog W = .ok (.agg (U8s id0).toArray) W := fun W hW =>
    run_loadVar_row W w.heap.size 26 26 _ (0, 0) _ hW Tryd.underlying26 rfl HI.out
  have HKU := Lib.hid hku
  clear hi h0 h1 hku
  by_cases hs : s.size = 64
  · have hne : ((s.size : Int) != 64) = false := by rw [hs]; rfl
    have hstart : RpRel w s 0 ((w.alloc (.cells (U8s id0).toArray 26)).alloc (.cells (U8s id0).toArray 26)) :=
      ⟨⟨[], ⟨rfl, by omega, fun i hi => by omega⟩, H0.out, by rw [idOf_nil]; exact H1.out⟩, ((Kp.refl _ w).alloc _).alloc _⟩
    have HS := Lib.hid hstart
    have HL := Lib.hid hlen
    have HSZ := Lib.hid hs
    clear hstart hlen hs
    go_enter Tryd.func19, Tryd.ntmps19
    go_wp2
    go_loopw [5, 6] (fun i _ wr => ∃ k : Nat, k ≤ 64 ∧ i = .int .i64 k ∧ RpRel w s k wr) (fun i _ _ => 64 - (intOf i).toNat)
    case atStart => exact ⟨0, by omega, rfl, HS.out⟩
    case round =>
      obtain ⟨k, hk, rfl, ⟨⟨ns, hns, hw0, hw1⟩, hWk⟩⟩ := hrel
      by_cases hlt : k < 64
      · have hks : k < s.size := by rw [HSZ.out]; exact hlt
        have hix := index_text s k hks
        have hd0 : decide ((k : Int) < 64) = true := by simp; omega
        obtain ⟨c, hc⟩ : ∃ c, c = (Bys s).getD k 0 := ⟨_, rfl⟩
        rw [← hc] at hix
        cases hd : hv c with
        | none =>
          have hbad : parsed (Bys s) = (id0, 20) := by
            unfold parsed
            rw [if_pos (by rw [HL.out, HSZ.out]), nibs_none (Bys s) k (by rw [HL.out]; exact hks) (by rw [← hc]; exact hd)]
            rfl
          have hvi : hvI c = -1 := by unfold hvI; rw [hd]
          have q := rdigit_any c
          rw [hvi] at q
          have HB := Lib.hid hbad
          have HG := Lib.hid hw0
          have HK := Lib.hid hWk
          have HQ := Lib.hid q
          clear hbad hd hw0 hw1 hns hc hvi q hWk
          go_wp2_with fail
          refine (HQ.out _).mono ?_
          rintro e w1 ⟨rfl, rfl⟩
          go_wp2_with (refine wpList_store_row rfl 26 _ _ rfl w.heap.size _ rfl rfl 26 _ HG.out HI.out rfl (all_oneCell_toArray (U8s_one _)) ?_)
          rw [HB.out]
          refine bodyPost_ret (v := .tuple #[.agg (U8s id0).toArray, .int .i64 20]) (results_name Tryd.results19 _ _ w.heap.size _ _ rfl rfl (HKU.out _ (setRow_blk HG.out))) rfl ⟨rfl, ?_⟩
          exact HK.out.setRow (by simp) _
        | some d =>
          have hvi : hvI c = d := by unfold hvI; rw [hd]
          have q := rdigit_any c
          rw [hvi] at q
          have hdr := hv_rng hd
          have hnext := hns.next (by rw [HL.out]; exact hks) (by rw [← hc]; exact hd)
          have hsm := cell_small hns
          have hset := idOf_next hns d hlt
          obtain ⟨x, hx⟩ : ∃ x, x = (idOf ns).getD (k / 2) 0 := ⟨_, rfl⟩
          rw [← hx] at hsm hset
          have hcl : wr.cell? ⟨w.heap.size + 1, k / 2, none⟩ = some (.int .u8 x) := by
            rw [cell_blk hw1, List.getElem?_toArray]
            exact U8s_get (by rw [hx]; simp [idOf_length, show k / 2 < 32 by omega])
          have hf : wr.frozen? ⟨w.heap.size + 1, k / 2, none⟩ = false := free_blk hw1 _
          have hrel : RpRel w s (k + 1) (wr.setCell ⟨w.heap.size + 1, k / 2, none⟩ (.int .u8 (x * 16 + d))) := by
            refine ⟨⟨_, hnext, ?_, ?_⟩, hWk.setCell (fun h => absurd h (by show ¬ w.heap.size + 1 < _; omega)) _⟩
            · rw [other_blk hw0 (by show w.heap.size ≠ w.heap.size + 1; omega)]
            · rw [set_blk hw1]
              congr 2
              apply Array.ext'
              rw [← hset, Int.mul_comm x 16]
              simp [U8s, List.map_set]
          obtain ⟨hx0, hx1⟩ := hsm
          obtain ⟨hd0', hd1⟩ := hdr
          have q0 : (0 : Int) ≤ (k : Int) / 2 := by omega
          have q1 : (k : Int) / 2 < 32 := by omega
          have hdn : decide (d < 0) = false := by simp; omega
          have HN := Lib.hid hrel
          have HQ := Lib.hid q
          clear hrel hd hset hnext hw0 hw1 hns hx hc hvi q hWk
          go_wp2_with fail
          refine (HQ.out _).mono ?_
          rintro e w1 ⟨rfl, rfl⟩
          go_wp2_with fail
          go_roundw
          case rel => exact ⟨k + 1, by omega, by go_num, HN.out⟩
          case measure => simp [intOf]; omega
      · obtain rfl : k = 64 := by omega
        have hgood : parsed (Bys s) = (idOf ns, 0) := by
          unfold parsed
          rw [if_pos (by rw [HL.out, HSZ.out]), nibs_of (Bys s) ns (by rw [HL.out, HSZ.out]; exact hns)]
        have HB := Lib.hid hgood
        have HG0 := Lib.hid hw0
        have HG1 := Lib.hid hw1
        have HK := Lib.hid hWk
        have HI2 := Lib.hid (info32 _ (idOf_length ns))
        clear hgood hw0 hw1 hns hWk
        rw [show ((64 : Nat) : Int) = 64 from rfl]
        go_wp2_with (first
          | (refine wpList_load_row rfl 26 _ rfl (w.heap.size + 1) rfl 26 _ (0, 0) _ HG1.out Tryd.underlying26 rfl HI2.out ?_)
          | (refine wpList_store_row rfl 26 _ _ rfl w.heap.size _ rfl rfl 26 _ HG0.out HI2.out (by rw [List.size_toArray, List.size_toArray, U8s_length, U8s_length, idOf_length]; rfl) (all_oneCell_toArray (U8s_one _)) ?_))
        rw [HB.out]
        refine bodyPost_ret (v := .tuple #[.agg (U8s (idOf ns)).toArray, .int .i64 0]) (results_name Tryd.results19 _ _ w.heap.size _ _ rfl rfl
          (run_loadVar_row _ w.heap.size 26 26 _ (0, 0) _ (setRow_blk HG0.out) Tryd.underlying26 rfl HI2.out)) rfl ⟨rfl, ?_⟩
        exact HK.out.setRow (by simp) _
  · have hp : parsed (Bys s) = (id0, 20) := by unfold parsed; rw [if_neg (by rw [hlen]; exact hs)]; rfl
    have hne : ((s.size : Int) != 64) = true := by simp; omega
    have HP := Lib.hid hp
    clear hp hlen hs
    go_enter Tryd.func19, Tryd.ntmps19
    go_wp2_with (refine wpList_store_row rfl 26 _ _ rfl w.heap.size _ rfl rfl 26 _ H0.out HI.out rfl (all_oneCell_toArray (U8s_one _)) ?_)
    rw [HP.out]
    refine bodyPost_ret (v := .tuple #[.agg (U8s id0).toArray, .int .i64 20]) (results_name Tryd.results19 _ _ w.heap.size _ _ rfl rfl (HKU.out _ (setRow_blk H0.out))) rfl ⟨rfl, ?_⟩
    exact (((Kp.refl _ w).alloc _).alloc _).setRow (by simp) _
end Go.Proofs.YtopckankheljhaaDoor
