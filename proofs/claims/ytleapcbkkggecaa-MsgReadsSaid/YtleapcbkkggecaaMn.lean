/-
  Messages: contract of what takes names out of an unpacker.
-/
import Derived.Test.YtleapcbkkggecaaMu
import Derived.Deep.DeepCutAuto
namespace Go.Proofs.Ytleapcbkkggecaa
open Go.ChangeShapes Go.WideShapes Go.ChangeAt Go.RowKit

theorem madeCells_all (z : Array Value) (v : Value) (hz : ∀ i, i < z.size → z[i]! = v) (h1 : 0 < z.size) (n : Nat) : madeCells z n = (List.replicate n v).toArray := by
  apply Array.ext
  · simp [size_madeCells]
  · intro i h1' h2'
    simp only [madeCells, Array.getElem_map, Array.getElem_range, List.getElem_toArray, List.getElem_replicate]
    exact hz _ (Nat.mod_lt _ h1)
theorem U8s_rep (n : Nat) : List.replicate n (Value.int .u8 0) = U8s (List.replicate n 0) := by simp [U8s]
theorem infoIdZ : (Try.prog.info? 37).map (fun i => (i.zero, i.size, i.bytes)) = some (some (.agg (U8s (List.replicate 32 0)).toArray), 32, 32) := by kernel_rfl
theorem rep_get (v : Value) (n i : Nat) (h : i < n) : (List.replicate n v).toArray[i]! = v := by simp [h]
theorem mkIds (n : Nat) (hn : n ≤ 1000) (w : World) : (Instr.makeSlice 22 (.int .i64 (n : Int)) (.int .i64 (n : Int))).run Try.prog w = .ok (.slice (some ⟨w.heap.size, 0, none⟩) n n) (w.alloc (.cells (U8s (List.replicate (n * 32) 0)).toArray 37)) := by
  obtain ⟨i, h1, h2, h3, h4⟩ := info_parts infoIdZ
  have h := run_makeSlice w 22 37 i _ Try.underlying22 h1 h2 .i64 .i64 n n (by omega) (by omega) (by rw [h3]; omega) (by rw [h4]; omega) (by omega)
  rw [h, h3, Int.toNat_natCast]
  have e : madeCells (Value.agg (U8s (List.replicate 32 0)).toArray).cells (n * 32) = (U8s (List.replicate (n * 32) 0)).toArray := by
    rw [madeCells_all _ (.int .u8 0) _ _ (n * 32), U8s_rep]
    · intro i hi
      have e1 : (Value.agg (U8s (List.replicate 32 0)).toArray).cells = (List.replicate 32 (Value.int .u8 0)).toArray := by rw [U8s_rep]; rfl
      rw [e1] at hi ⊢
      exact rep_get _ _ _ (by simpa using hi)
    · show 0 < ((U8s (List.replicate 32 0)).toArray).size
      simp [U8s]
  rw [e]
/-- thirty-two bytes, or none, copied into a row of names -/
theorem run_copy_id {w : World} {g : Nat} {pre mid post xs : List Int} {src : Value} (hg : w.heap[g]? = some (.cells (U8s (pre ++ mid ++ post)).toArray 37 (0, 0))) (hm : mid.length = 32) (hs : Sees w src xs) (hx : xs = [] ∨ xs.length = 32) :
    ∃ (n : Int) (w' : World), (∀ ty, (Builtin.copy_ #[29, 29] ty #[.slice (some ⟨g, pre.length, none⟩) 32 32, src]).run Try.prog w = .ok (.int .i64 n) w') ∧
      w'.heap[g]? = some (.cells (U8s (pre ++ (if xs.length = 32 then xs else mid) ++ post)).toArray 37 (0, 0)) ∧ Kp (fun y => y = g) w w' := by
  by_cases hn : xs = []
  · subst hn
    obtain ⟨a, c, rfl⟩ := sees_form hs
    refine ⟨0, w, fun ty => run_copy_zero _ _ Try.underlying29 w _ a 32 32 0 c (.inr rfl) ty, ?_, Kp.refl _ _⟩
    rw [if_neg (by simp)]; exact hg
  · have hl : xs.length = 32 := by rcases hx with h | h; exact absurd h hn; exact h
    rcases hs with ⟨_, h⟩ | ⟨ad, cap, rfl, _, _, hc⟩
    · exact absurd h hn
    · have h := fun ty => run_copy_row (P := Try.prog) w 29 29 ty 5 g pre.length 32 32 ad xs.length cap (U8s (pre ++ mid ++ post)).toArray 37 (U8s xs) Try.underlying29 byte1 hg (by rw [U8s_length, hl]; rfl)
        (fun j u hj => by
          obtain ⟨x, hx, rfl⟩ := U8s_inv hj
          exact hc j x hx) (by rw [U8s_length, hl, List.size_toArray, U8s_length]; simp; omega) (U8s_one xs)
      refine ⟨_, _, h, ?_, (setRow_kp _ _ _).1⟩
      rw [setRow_blk hg, if_pos hl]
      congr 2
      apply Array.ext'
      simp only [U8s_append]
      have e := splice_mid (U8s pre) (U8s mid) (U8s post) (U8s xs) (by rw [U8s_length, U8s_length, hm, hl])
      rw [U8s_length, U8s_length] at e
      rw [U8s_length]
      exact e
/-- names taken so far, in a row of one's own, zeros behind them -/
structure NR (W : World) (C B u gr n k : Nat) (s : RS) (w : World) : Prop where
  ux : UX W C B u (takeN k s).2 w
  row : w.heap[gr]? = some (.cells (U8s ((takeN k s).1.flatten ++ List.replicate ((n - k) * 32) 0)).toArray 37 (0, 0))
theorem rep_split (n k : Nat) (h : k < n) : List.replicate ((n - k) * 32) (0 : Int) = List.replicate 32 0 ++ List.replicate ((n - (k + 1)) * 32) 0 := by
  rw [List.replicate_append_replicate]; congr 1; omega
theorem takeN_flat_len {s : RS} (hr : Rng s.1) (k : Nat) : (takeN k s).1.flatten.length = k * 32 := by
  have h1 := (takeN_rng hr k).1
  induction k with
  | zero => simp [takeN]
  | succ k ih =>
    simp only [takeN, List.flatten_append, List.length_append, List.flatten_cons, List.flatten_nil, List.append_nil]
    rw [ih (takeN_rng hr k).1, (h1 _ (by simp [takeN])).1]
    omega
theorem takeN_left (k : Nat) (s : RS) {n : Nat} (h : s.1.length ≤ n) : (takeN k s).2.1.length ≤ n := by
  induction k with
  | zero => exact h
  | succ k ih => exact Nat.le_trans (takeL_len _ _ _) ih
theorem takeB_left (k : Nat) (s : RS) {n : Nat} (h : s.1.length ≤ n) : (takeB k s).2.1.length ≤ n := by
  induction k with
  | zero => exact h
  | succ k ih => exact Nat.le_trans (cntL_len _ _ _ _) ih
/-- one step -/
theorem NR.step {W w w1 : World} {C B u gr n k : Nat} {s : RS} {v rv : Value} (h : NR W C B u gr n k s w) (hk : k < n) (hr : Rng s.1) (hB : B ≤ gr) (hug : u ≠ gr) (hu : UK w 0 u v (takeN k s).2.1 (takeN k s).2.2) (hf : (takeN k s).2.1 ≠ [] → ∀ g, v.ownBlock = some g → g < C)
    (hp : UPost w 0 u v (takeL (takeN k s).2.1 (takeN k s).2.2 32) (takeE (takeN k s).2.1 (takeN k s).2.2 32) w1) (hs : Sees w1 rv (takeR (takeN k s).2.1 (takeN k s).2.2 32)) :
    ∃ (n' : Int) (w2 : World), (∀ ty, (Builtin.copy_ #[29, 29] ty #[.slice (some ⟨gr, k * 32, none⟩) 32 32, rv]).run Try.prog w1 = .ok (.int .i64 n') w2) ∧ NR W C B u gr n (k + 1) s w2 := by
  have hrow := h.row
  rw [rep_split n k hk, ← List.append_assoc] at hrow
  have hrow1 := kept_blk hrow hp.kp (fun e => by have h' : gr = u := e; omega)
  have hx : takeR (takeN k s).2.1 (takeN k s).2.2 32 = [] ∨ (takeR (takeN k s).2.1 (takeN k s).2.2 32).length = 32 := by
    by_cases h0 : takeE (takeN k s).2.1 (takeN k s).2.2 32 = 0
    · exact .inr (tk_ok (n := 32) h0).2.2
    · left; unfold takeR; rw [if_neg h0]
  obtain ⟨n', w2, hcp, hrw, hk2⟩ := run_copy_id hrow1 (by simp) hs hx
  rw [takeN_flat_len hr] at hcp
  refine ⟨n', w2, hcp, ⟨?_, ?_⟩⟩
  · have := (UX.step (r := tkS (takeN k s).2 32) h.ux hu hf takeL_ne' hp).other hk2 hB hug
    exact this
  · rw [hrw]
    simp only [takeN, List.flatten_append, List.flatten_cons, List.flatten_nil, List.append_nil, idOr]

theorem flat_at : ∀ {ids : List (List Int)}, (∀ x ∈ ids, x.length = 32) → ∀ {i : Nat} {x : List Int}, ids[i]? = some x → ∀ {j : Nat} {y : Int}, x[j]? = some y → ids.flatten[i * 32 + j]? = some y
  | [], _, i, x, hi, _, _, _ => by cases hi
  | z :: r, hl, 0, x, hi, j, y, hj => by
    cases hi
    rw [Nat.zero_mul, Nat.zero_add, List.flatten_cons, List.getElem?_append_left (List.getElem?_eq_some_iff.1 hj).1]
    exact hj
  | z :: r, hl, i + 1, x, hi, j, y, hj => by
    have ih := flat_at (ids := r) (fun u hu => hl u (List.mem_cons_of_mem _ hu)) (i := i) hi hj
    have h1 := hl z (List.mem_cons_self ..)
    rw [List.flatten_cons, List.getElem?_append_right (by omega), h1, show (i + 1) * 32 + j - 32 = i * 32 + j by omega]
    exact ih
theorem own_ids {w : World} {B gr n : Nat} {ids : List (List Int)} (hl : ∀ x ∈ ids, x.length = 32) (hn : ids.length = n) (hn2 : n ≤ 1000) (hB : B ≤ gr) (h : w.heap[gr]? = some (.cells (U8s ids.flatten).toArray 37 (0, 0))) :
    SeesI (fun g => B ≤ g) w (.slice (some ⟨gr, 0, none⟩) n n) ids := by
  subst hn
  refine .inr ⟨⟨gr, 0, none⟩, ids.length, rfl, Nat.le_refl _, by unfold maxLen; omega, fun _ => hB, fun i x hi j y hj => ?_⟩
  rw [Addr.add_lit, cell_blk h, Nat.zero_add, List.getElem?_toArray]
  exact U8s_get (flat_at hl hi hj)

set_option maxRecDepth 100000 in
set_option maxHeartbeats 3200000 in
theorem takeNames_any (a b : Nat) (hab : a ≤ b) (hb : b ≤ 900) {W w : World} {C B u : Nat} {s : RS} (h : UX W C B u s w) (hr : Rng s.1) (hl : s.1.length ≤ 1000000) :
    Calls Try.prog 32 #[spV a b, .pointer (some ⟨u, 0, none⟩)] w fun e w' => ∃ vi, e = .returned vi ∧ SeesI (fun g => B ≤ g) w' vi (takeN (cntS a b s).1 (cntS a b s).2).1 ∧ UX W C B u (takeN (cntS a b s).1 (cntS a b s).2).2 w' := by
  have k1 : Kp (fun _ => False) w (w.alloc (.cells #[.int .i64 a, .int .i64 b] 59)) := (Kp.refl _ _).alloc _
  have HX := Lib.hid (h.old k1)
  have HC := Lib.hid (takeCount_any a b (by omega) HX.out hr hab)
  have hn1 : (cntS a b s).1 ≤ 1000 := by
    unfold cntS
    split
    · show a ≤ 1000; omega
    · show (min (val (takeR s.1 s.2 4)) ((b : Int) + 1)).toNat ≤ 1000; omega
  have hr2 := cntS_rng hr a b
  have hl2 : (cntS a b s).2.1.length ≤ 1000000 := by
    unfold cntS
    split
    · exact hl
    · exact Nat.le_trans (takeL_len _ _ _) hl
  obtain ⟨n, hn⟩ : ∃ n, n = (cntS a b s).1 := ⟨_, rfl⟩
  obtain ⟨s2, hs2⟩ : ∃ s2, s2 = (cntS a b s).2 := ⟨_, rfl⟩
  rw [← hn, ← hs2] at HC ⊢
  rw [← hn] at hn1
  rw [← hs2] at hr2 hl2
  have HR := Lib.hid hr2
  have HL := Lib.hid hl2
  clear h k1 hr hl hn hs2 hr2 hl2
  unfold spV at HC ⊢
  go_enter Try.func32, Try.ntmps32
  go_wp2_with fail
  refine HC.out.mono ?_
  rintro e w1 ⟨rfl, hx⟩
  have HX1 := Lib.hid hx
  have hmk := mkIds n hn1 w1
  have hul : u < w1.heap.size := by obtain ⟨v, hv, _⟩ := hx.uk; exact lt_of_blk hv.cell
  have hNR : NR W C B u w1.heap.size n 0 s2 (w1.alloc (.cells (U8s (List.replicate (n * 32) 0)).toArray 37)) :=
    ⟨hx.old ((Kp.refl _ _).alloc _), by rw [new_blk]; simp [takeN]⟩
  obtain ⟨gr, hgr⟩ : ∃ gr, gr = w1.heap.size := ⟨_, rfl⟩
  have hB := hx.size
  rw [← hgr] at hNR hB hul
  have HNR := Lib.hid hNR
  clear hx hNR
  go_wp2_with fail
  rw [← hgr]
  clear hmk hgr
  go_loopw [15] (fun i wr => ∃ k : Nat, k ≤ n ∧ i = .int .i64 k ∧ NR W C B u gr n k s2 wr) (fun i _ => n - (intOf i).toNat)
  case atStart => exact ⟨0, by omega, rfl, HNR.out⟩
  case round =>
    obtain ⟨k, hk, rfl, hx⟩ := hrel
    by_cases hlt : k < n
    · obtain ⟨v, hu, hf⟩ := (hx.ux.old ((Kp.refl (fun _ => False) wr).drew)).uk
      have hll : (takeN k s2).2.1.length ≤ 1000000 := takeN_left k s2 HL.out
      have HFX := Lib.hid (uFixed_any 32 hu (by omega))
      have HST := Lib.hid (fun (rv : Value) (w4 : World) (hp : UPost wr.drew 0 u v (takeL (takeN k s2).2.1 (takeN k s2).2.2 32) (takeE (takeN k s2).2.1 (takeN k s2).2.2 32) w4) (hs : Sees w4 rv (takeR (takeN k s2).2.1 (takeN k s2).2.2 32)) =>
        NR.step (w := wr.drew) ⟨hx.ux.old ((Kp.refl (fun _ => False) wr).drew), hx.row⟩ hlt HR.out hB (by omega) hu hf hp hs)
      clear hu hf hll hx
      go_wp2_with fail
      go_region_with (first
        | (go_at_call 47; refine HFX.out.mono ?_; rintro e w4 ⟨rv, rfl, hsr, _, hpp⟩; obtain ⟨ra, rc, hrv⟩ := sees_form hsr; obtain ⟨n5, w5, hcp, hpa⟩ := HST.out rv w4 hpp hsr; rw [hrv] at hcp; subst hrv; have HPA := Lib.hid hpa; clear hsr hpp hpa))
      all_goals
        go_wp2_with fail
        go_roundw
        case rel => exact ⟨k + 1, by omega, by go_num, HPA.out⟩
        case measure => simp [intOf]; omega
    · obtain rfl : k = n := by omega
      have hrow := hx.row
      rw [Nat.sub_self, Nat.zero_mul, List.replicate_zero, List.append_nil] at hrow
      have HO := Lib.hid (own_ids (B := B) (fun x hx => ((takeN_rng HR.out k).1 x hx).1) (takeN_len _ _) hn1 hB hrow)
      have HU := Lib.hid hx.ux
      clear hx hrow
      go_wp2_with fail
      go_ret
      exact ⟨_, rfl, HO.out, HU.out⟩
end Go.Proofs.Ytleapcbkkggecaa
