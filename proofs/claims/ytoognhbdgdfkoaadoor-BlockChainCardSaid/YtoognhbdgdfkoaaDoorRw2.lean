/-
  Contracts of the document's own SHA-256: turned, constants, words.
-/
import Derived.Test.YtoognhbdgdfkoaaDoorTake
import Derived.Test.YtoognhbdgdfkoaaDoorAp
namespace Go.Proofs.YtoognhbdgdfkoaaDoor
open Go.ChangeShapes Go.WideShapes Go.ChangeAt Go.RowKit

set_option maxHeartbeats 400000 in
theorem turned_any (n x : Int) (hn0 : 1 ≤ n) (hn1 : n ≤ 31) (w : World) :
    Calls Tryd.prog 67 #[.int .u32 x, .int .u64 n] w fun e w' => e = .returned (.int .u32 (rotr n x)) ∧ w = w' := by
  have e1 : min (32 - n).toNat IntKind.u32.bits = (32 - n).toNat := by simp [IntKind.bits]; omega
  have e2 : min n.toNat IntKind.u32.bits = n.toNat := by simp [IntKind.bits]; omega
  have hc := bits_or_comm (x / 2 ^ n.toNat) (x * 2 ^ (32 - n).toNat % 4294967296)
  have HC := Lib.hid hc
  clear hc
  go_enter Tryd.func67, Tryd.ntmps67
  go_wp2
  go_ret
  exact ⟨by unfold rotr; rw [← HC.out]; rfl, rfl⟩
theorem turned_q (n x : Int) (hn0 : 1 ≤ n) (hn1 : n ≤ 31) (w : World) :
    Calls Tryd.prog 67 #[.int .u32 x, .int .u64 n] w fun e w' => e = .returned (.int .u32 (rotr n x)) ∧ w' = w :=
  (turned_any n x hn0 hn1 w).mono fun _ _ h => ⟨h.1, h.2.symm⟩

def zeros64w : List Int := List.replicate 64 0
theorem zerosK (w : World) : (zeroValue 87).run Tryd.prog w = .ok (.agg (U32s zeros64w).toArray) w := by kernel_rfl

/-- a word while its bytes come -/
def pw (bs : List Int) (k : Nat) : Nat → Int
  | 0 => 0
  | i + 1 => pw bs k i * 256 + bs.getD (4 * k + i) 0
theorem pw_bd {bs : List Int} (hb : Rng bs) (k : Nat) : (0 ≤ pw bs k 0 ∧ pw bs k 0 ≤ 0) ∧ (0 ≤ pw bs k 1 ∧ pw bs k 1 ≤ 255) ∧ (0 ≤ pw bs k 2 ∧ pw bs k 2 ≤ 65535) ∧ (0 ≤ pw bs k 3 ∧ pw bs k 3 ≤ 16777215) := by
  have h0 := getD_byte hb (4 * k)
  have h1 := getD_byte hb (4 * k + 1)
  have h2 := getD_byte hb (4 * k + 2)
  simp only [pw, Nat.add_zero]
  omega
theorem pw_small {bs : List Int} (hb : Rng bs) (k i : Nat) (hi : i < 4) : 0 ≤ pw bs k i ∧ pw bs k i ≤ 16777215 := by
  have h := pw_bd hb k
  have e : i = 0 ∨ i = 1 ∨ i = 2 ∨ i = 3 := by omega
  rcases e with rfl | rfl | rfl | rfl <;> omega
theorem pw_four (bs : List Int) (k : Nat) : pw bs k 4 = wd (bs.getD (4 * k) 0) (bs.getD (4 * k + 1) 0) (bs.getD (4 * k + 2) 0) (bs.getD (4 * k + 3) 0) := by
  simp only [pw, wd, Nat.add_zero]; omega
/-- the first k words stand, x behind them, noughts behind that -/
structure WRel (w : World) (bs : List Int) (k : Nat) (x : Int) (wr : World) : Prop where
  kp : Kp (fun _ => False) w wr
  out : wr.heap[w.heap.size]? = some (.cells (U32s zeros64w).toArray 87 (0, 0))
  row : wr.heap[w.heap.size + 1]? = some (.cells (U32s (wds bs k ++ x :: List.replicate (63 - k) 0)).toArray 87 (0, 0))
theorem WRel.cell {w wr : World} {bs : List Int} {k : Nat} {x : Int} (h : WRel w bs k x wr) : wr.cell? ⟨w.heap.size + 1, k, none⟩ = some (.int .u32 x) ∧ wr.frozen? ⟨w.heap.size + 1, k, none⟩ = false := by
  refine ⟨?_, free_blk h.row _⟩
  rw [cell_blk h.row, U32s_get _ _ (by simp [wds_length])]
  congr 2
  have := wds_length bs k
  simp [this]
theorem WRel.set {w wr : World} {bs : List Int} {k : Nat} {x : Int} (h : WRel w bs k x wr) (y : Int) : WRel w bs k y ((wr.drew).setCell ⟨w.heap.size + 1, k, none⟩ (.int .u32 y)) := by
  refine ⟨h.kp.drew.setCell (fun hlt => absurd hlt (by show ¬ w.heap.size + 1 < _; omega)) _, ?_, ?_⟩
  · rw [other_blk (w := wr.drew) h.out (by show w.heap.size ≠ w.heap.size + 1; omega)]
  · refine (set_blk (w := wr.drew) h.row _ _).trans ?_
    congr 2
    apply Array.ext'
    have hl : (U32s (wds bs k)).length = k := by rw [U32s_length, wds_length]
    simp only [U32s_append, Array.toList_setIfInBounds]
    rw [List.set_append_right _ _ (by omega), hl]
    simp [U32s]
theorem WRel.next {w wr : World} {bs : List Int} {k : Nat} (h : WRel w bs k (pw bs k 4) wr) (hk : k < 15) : WRel w bs (k + 1) 0 wr := by
  refine ⟨h.kp, h.out, ?_⟩
  rw [h.row, pw_four]
  congr 4
  rw [show 63 - k = (63 - (k + 1)) + 1 by omega, List.replicate_succ]
  simp [wds]
theorem WRel.last {w wr : World} {bs : List Int} (h : WRel w bs 15 (pw bs 15 4) wr) : SpRel w (wds bs 16) wr := by
  refine ⟨h.kp, ⟨_, h.out, by simp [U32s_length, zeros64w]⟩, ⟨List.replicate 48 0, ?_, by simp [wds_length]⟩⟩
  have e : wds bs 15 ++ pw bs 15 4 :: List.replicate (63 - 15) 0 = wds bs 16 ++ List.replicate 48 0 := by
    rw [pw_four, show wds bs 16 = wds bs 15 ++ [wd (bs.getD (4 * 15) 0) (bs.getD (4 * 15 + 1) 0) (bs.getD (4 * 15 + 2) 0) (bs.getD (4 * 15 + 3) 0)] from rfl, List.append_assoc]
    rfl
  rw [h.row, e]
theorem w_start (w : World) (bs : List Int) : WRel w bs 0 0 ((w.alloc (.cells (U32s zeros64w).toArray 87)).alloc (.cells (U32s zeros64w).toArray 87)) := by
  refine ⟨((Kp.refl _ w).alloc _).alloc _, old_blk (new_blk _ _) _, ?_⟩
  have := new_blk (w.alloc (.cells (U32s zeros64w).toArray 87)) (.cells (U32s zeros64w).toArray 87)
  rw [World.size_alloc] at this
  exact this

set_option maxRecDepth 100000 in
set_option maxHeartbeats 1600000 in
theorem words_any (bs : List Int) (hb : Rng bs) (hl : bs.length = 64) (v : Value) (w : World) (hs : Sees w v bs) :
    Calls Tryd.prog 65 #[v] w fun e w' => e = .returned (.agg (U32s (sched bs)).toArray) ∧ Kp (fun _ => False) w w' := by
  have hz := zerosK
  have HST := Lib.hid (w_start w bs)
  obtain ⟨ad, cap, rfl, hcells⟩ : ∃ ad cap, v = .slice (some ad) 64 cap ∧ ∀ i x, bs[i]? = some x → w.cell? (ad.add i) = some (.int .u8 x) := by
    rcases hs with ⟨_, rfl⟩ | ⟨ad, cap, rfl, _, _, h⟩
    · simp at hl
    · exact ⟨ad, cap, by rw [hl], h⟩
  have hcell : ∀ wr, Kp (fun _ => False) w wr → ∀ i, i < 64 → wr.cell? (ad.add i) = some (.int .u8 (bs.getD i 0)) := fun wr k i hi => by
    have h1 := hcells i (bs.getD i 0) (by simp [hl, hi])
    rw [k.cell (lt_of_cell h1) (fun f => f)]; exact h1
  have HC := Lib.hid hcell
  clear hcells hcell hs hl
  go_enter Tryd.func65, Tryd.ntmps65
  go_wp2
  go_loopw [4, 5] (fun i _ wr => ∃ k : Nat, k ≤ 16 ∧ i = .int .i64 k ∧ (if k < 16 then WRel w bs k 0 wr else SpRel w (wds bs 16) wr)) (fun i _ _ => 16 - (intOf i).toNat)
  case atStart => exact ⟨0, by omega, rfl, HST.out⟩
  case round =>
    obtain ⟨k, hk, rfl, hr⟩ := hrel
    obtain ⟨wo, hwo⟩ : ∃ wo : World, wo = wr := ⟨_, rfl⟩
    by_cases hlt : k < 16
    · rw [if_pos hlt] at hr
      have hd : decide ((k : Int) < 16) = true := by simp; omega
      have HR := Lib.hid hr
      clear hr hwo
      go_wp2_with fail
      clear hd
      go_loopw [5] (fun i wr => ∃ j : Nat, j ≤ 4 ∧ i = .int .i64 j ∧ WRel w bs k (pw bs k j) wr) (fun i _ => 4 - (intOf i).toNat)
      case atStart => exact ⟨0, by omega, rfl, HR.out⟩
      case round =>
        clear HR
        obtain ⟨j, hj, rfl, hr⟩ := hrel
        by_cases hj4 : j < 4
        · have hd : decide ((j : Int) < 4) = true := by simp; omega
          obtain ⟨hc1, hf1⟩ := hr.cell
          have hc2 := HC.out _ hr.kp (4 * k + j) (by omega)
          obtain ⟨p0, p1⟩ := pw_small hb k j hj4
          obtain ⟨b0, b1⟩ := getD_byte hb (4 * k + j)
          have e3 : (pw bs k j * 256 + bs[4 * k + j]?.getD 0) % 4294967296 = pw bs k (j + 1) := by
            rw [show pw bs k (j + 1) = pw bs k j * 256 + bs.getD (4 * k + j) 0 from rfl, ← List.getD_eq_getElem?_getD]
            omega
          have HE := Lib.hid e3
          have hx : ∀ W v, W = wr.drew → v = pw bs k (j + 1) → WRel w bs k (pw bs k (j + 1)) (W.setCell ⟨w.heap.size + 1, k, none⟩ (.int .u32 v)) := fun W v e e' => e'.symm ▸ e.symm ▸ hr.set (pw bs k (j + 1))
          have HX := Lib.hid hx
          clear hx hr
          have e1 : IntKind.i64.wrap (4 * (k : Int)) = 4 * k := IntWalk.i64_in _ (by omega)
          have e2 : IntKind.i64.wrap (4 * (k : Int) + j) = 4 * k + j := IntWalk.i64_in _ (by omega)
          have q0 : (0 : Int) ≤ k := by omega
          have q1 : (k : Int) < 64 := by omega
          have q2 : (0 : Int) ≤ 4 * k + j := by omega
          have q3 : (4 * (k : Int) + j) < 64 := by omega
          have q4 : (4 * (k : Int) + j).toNat = 4 * k + j := by omega
          go_wp2_with fail
          refine wp_tail 15 (by kernel_rfl) (by kernel_rfl) ?_
          simp only [List.take_succ_cons, List.take_zero, List.drop_succ_cons, List.drop_zero]
          repeat still_step
          refine wpStill_nil ?_
          clear e1 e2 e3 q4
          go_wp2
          go_roundw
          case rel => exact ⟨j + 1, by omega, by go_num, HX.out _ _ rfl HE.out⟩
          case measure => simp [intOf]; omega
        · obtain rfl : j = 4 := by omega
          rw [show ((4 : Nat) : Int) = 4 from rfl]
          go_wp2_with fail
          go_roundw
          case rel =>
            refine ⟨k + 1, by omega, by go_num, ?_⟩
            by_cases h15 : k < 15
            · rw [if_pos (by omega)]; exact hr.next h15
            · obtain rfl : k = 15 := by omega
              rw [if_neg (by omega)]; exact hr.last
          case measure => simp [intOf]; omega
    · obtain rfl : k = 16 := by omega
      rw [if_neg (by omega)] at hr
      rw [show ((16 : Nat) : Int) = 16 from rfl]
      go_wp2_with fail
      clear hlt hk
      go_loopw [6, 7, 8, 9, 10] (fun j _ _ _ _ wr => ∃ n : Nat, n ≤ 48 ∧ j = .int .i64 (n + 16) ∧ SpRel w (ext bs n) wr) (fun j _ _ _ _ _ => 64 - (intOf j).toNat)
      case atStart => exact ⟨0, by omega, rfl, hr⟩
      case round =>
        clear hr
        rename_i wo _
        obtain ⟨n, hn, rfl, hr⟩ := hrel
        by_cases hlt : n < 48
        · obtain ⟨hc, hv, hf⟩ := hr.cells
          rw [ext_length] at hc
          have x15 := hc (n + 1) (by omega)
          have x2 := hc (n + 14) (by omega)
          have x7 := hc (n + 9) (by omega)
          have x16 := hc n (by omega)
          obtain ⟨v, hv⟩ := hv (n + 16) (by omega)
          have hf := hf (n + 16)
          obtain ⟨b15, c15⟩ := getD_w32 (ext_w32 hb n) (n + 1)
          obtain ⟨b2, c2⟩ := getD_w32 (ext_w32 hb n) (n + 14)
          clear hc
          go_wp2_with fail
          go_wp2_with (go_at_call 67; refine (turned_any _ _ (by omega) (by omega) _).mono ?_; rintro e w' ⟨rfl, rfl⟩)
          have hx : ∀ m, SpRel w (ext bs (n + 1)) ((wr.drewN m).setCell ⟨w.heap.size + 1, n + 16, none⟩ (.int .u32 (nxt (ext bs n) (n + 16)))) := fun m => by
            have := (hr.drewN m).set (by rw [ext_length]; omega) (nxt (ext bs n) (n + 16))
            rw [ext_length, Nat.add_comm 16 n] at this
            exact this
          have HX := Lib.hid hx
          clear hx
          have e7 : IntKind.i64.wrap ((n : Int) + 16 - 7) = n + 9 := by rw [IntWalk.i64_in _ (by omega)]; omega
          have e16 : IntKind.i64.wrap (n : Int) = n := by rw [IntWalk.i64_in _ (by omega)]
          have e17 : IntKind.i64.wrap ((n : Int) + 16) = n + 16 := by rw [IntWalk.i64_in _ (by omega)]
          have p0 : (0 : Int) ≤ n := by omega
          have p7 : (0 : Int) ≤ (n : Int) + 9 := by omega
          have p7' : (n : Int) + 9 < 64 := by omega
          have p7n : ((n : Int) + 9).toNat = n + 9 := by omega
          have p16 : (0 : Int) ≤ (n : Int) + 16 := by omega
          have p16' : (n : Int) + 16 < 64 := by omega
          have p0' : (n : Int) < 64 := by omega
          have p16n : ((n : Int) + 16).toNat = n + 16 := by omega
          refine wp_tail 15 (by kernel_rfl) (by kernel_rfl) ?_
          simp only [List.take_succ_cons, List.take_zero, List.drop_succ_cons, List.drop_zero]
          repeat still_step
          refine wpStill_nil ?_
          clear e7 e16 e17 p7n p16n
          go_wp2
          go_roundw
          case rel => exact ⟨n + 1, by omega, by go_num, HX.out _⟩
          case measure => simp [intOf]; omega
        · obtain rfl : n = 48 := by omega
          rw [show ((48 : Nat) : Int) = 48 from rfl]
          obtain ⟨old, ho, hz⟩ := hr.out
          obtain ⟨r, hw, hl⟩ := hr.row
          obtain rfl : r = [] := by
            rw [List.length_append, ext_length] at hl
            exact List.eq_nil_of_length_eq_zero (by omega)
          rw [List.append_nil] at hw hl
          have HW := Lib.hid hw
          have HO := Lib.hid ho
          have HZ := Lib.hid hz
          have HL := Lib.hid hl
          clear hw ho hz hl HST HC
          go_wp2_with (first
            | (refine wpList_load_row rfl 87 _ rfl (w.heap.size + 1) rfl 87 _ (0, 0) _ HW.out Tryd.underlying87 rfl (info64 _ HL.out) ?_)
            | (refine wpList_store_row rfl 87 _ _ rfl w.heap.size _ rfl rfl 87 _ HO.out (info64 _ HL.out) (by rw [HZ.out]; simp [U32s_length, HL.out]) (U32s_one _) ?_))
          refine bodyPost_ret (v := .agg (U32s (ext bs 48)).toArray) (results_cell_row Tryd.results65 _ _ w.heap.size 87 _ (0, 0) _ rfl (setRow_blk HO.out) Tryd.underlying87 rfl (info64 _ HL.out)) rfl ⟨rfl, ?_⟩
          exact hr.kp.setRow (by simp) _
end Go.Proofs.YtoognhbdgdfkoaaDoor
