/-
  Contracts of the document's packer (package flurryref01).
-/
import Derived.Test.YtahdnapinlbflaaPkC
import Derived.Deep.QuietTactic
import Derived.BigQuiet
import Derived.Lib.ConvBytes
import Derived.Laws.OwnMore
namespace Go.Proofs.Ytahdnapinlbflaa
open Go.ChangeShapes Go.WideShapes Go.ChangeAt Go.RowKit

structure RK (w : World) (B q : Nat) (v : Value) (lim : Int) (l : List Int) (e : Int) : Prop where
  cell : w.heap[q]? = some (.cells #[v, .int .i64 lim, .int .i64 e] 37 (0, 0))
  own : OwnB w B v l
  ne : v.ownBlock ≠ some q
  base : B ≤ q
  lims : e = 0 → 0 ≤ lim ∧ lim ≤ 8192 ∧ (l.length : Int) ≤ lim
def RPost (w : World) (B q : Nat) (v : Value) (lim : Int) (r : List Int × Int) (w' : World) : Prop :=
  ∃ v', RK w' B q v' lim r.1 r.2 ∧ Kp (PF q v) w w' ∧ (v'.ownBlock = v.ownBlock ∨ ∀ g, v'.ownBlock = some g → w.heap.size ≤ g)
theorem RK.cells {w : World} {B p : Nat} {v : Value} {lim : Int} {l : List Int} {e : Int} (h : RK w B p v lim l e) :
    w.cell? ⟨p, 0, none⟩ = some v ∧ w.cell? ⟨p, 1, none⟩ = some (.int .i64 lim) ∧ w.cell? ⟨p, 2, none⟩ = some (.int .i64 e) ∧ (∀ i, w.frozen? ⟨p, i, none⟩ = false) :=
  ⟨by rw [cell_blk h.cell]; rfl, by rw [cell_blk h.cell]; rfl, by rw [cell_blk h.cell]; rfl, fun i => free_blk h.cell i⟩
theorem RK.form {w : World} {B p : Nat} {v : Value} {lim : Int} {l : List Int} {e : Int} (h : RK w B p v lim l e) : ∃ a cap, v = .slice a l.length cap := sees_form h.own.sees
theorem RK.setErr {w : World} {B p : Nat} {v : Value} {lim : Int} {l : List Int} {e : Int} (h : RK w B p v lim l e) (x : Int) (hx : x ≠ 0) :
    RPost w B p v lim (l, x) (w.setCell ⟨p, 2, none⟩ (.int .i64 x)) := by
  have k : Kp (PF p v) w (w.setCell ⟨p, 2, none⟩ (.int .i64 x)) := (Kp.refl _ _).setCell (fun _ => .inl rfl) _
  refine ⟨v, ⟨?_, ?_, h.ne, h.base, fun h0 => absurd h0 hx⟩, k, .inl rfl⟩
  · rw [set_blk h.cell]; rfl
  · have k' : Kp (fun k => k = p) w (w.setCell ⟨p, 2, none⟩ (.int .i64 x)) := Kp.setCell (F := fun k => k = p) (Kp.refl _ w) (p := ⟨p, 2, none⟩) (fun _ => rfl) _
    exact h.own.kept k' (fun g hg e => h.ne (by rw [hg, e]))
theorem RPost.ofDrewN {w : World} {n : Nat} {B q : Nat} {v : Value} {lim : Int} {r : List Int × Int} {w' : World} (h : RPost (w.drewN n) B q v lim r w') : RPost w B q v lim r w' := by
  obtain ⟨v', h1, h2, h3⟩ := h
  exact ⟨v', h1, ⟨h2.os, h2.tape, h2.output, h2.size, h2.block⟩, h3⟩
theorem RK.drewN {w : World} {B q : Nat} {v : Value} {lim : Int} {l : List Int} {e : Int} (h : RK w B q v lim l e) (n : Nat) : RK (w.drewN n) B q v lim l e :=
  ⟨h.cell, h.own, h.ne, h.base, h.lims⟩

set_option maxHeartbeats 400000 in
theorem newR_any (n : Int) {w : World} {B : Nat} (hB : B ≤ w.heap.size) :
    Calls Try.prog 12 #[.int .i64 n] w fun e w' => e = .returned (.pointer (some ⟨w.heap.size, 0, none⟩)) ∧ RK w' B w.heap.size (.slice none 0 0) n [] (if 0 ≤ n ∧ n ≤ 8192 then 0 else 1) ∧ Kp (fun _ => False) w w' ∧ w'.heap.size = w.heap.size + 1 := by
  by_cases hb : 0 ≤ n ∧ n ≤ 8192
  · rw [if_pos hb]
    have hk : Kp (fun _ => False) w (w.alloc (.cells #[.slice none 0 0, .int .i64 n, .int .i64 0] 37)) := (Kp.refl _ _).alloc _
    have hp : RK (w.alloc (.cells #[.slice none 0 0, .int .i64 n, .int .i64 0] 37)) B w.heap.size (.slice none 0 0) n [] 0 :=
      ⟨new_blk w _, .inl ⟨rfl, rfl⟩, (fun h => by cases h), hB, fun _ => ⟨hb.1, hb.2, hb.1⟩⟩
    obtain ⟨h0, h1⟩ := hb
    have HP := Lib.hid hp
    clear hp
    go_enter Try.func12, Try.ntmps12
    go_wp2
    go_ret
    exact ⟨rfl, HP.out, hk, by simp⟩
  · rw [if_neg hb]
    have hp : RK (w.alloc (.cells #[.slice none 0 0, .int .i64 n, .int .i64 1] 37)) B w.heap.size (.slice none 0 0) n [] 1 :=
      ⟨new_blk w _, .inl ⟨rfl, rfl⟩, (fun h => by cases h), hB, (fun h => by cases h)⟩
    have hk2 : Kp (fun _ => False) w (w.alloc (.cells #[.slice none 0 0, .int .i64 n, .int .i64 1] 37)) := (Kp.refl _ _).alloc _
    have HP := Lib.hid hp
    have HK := Lib.hid hk2
    have hor : n < 0 ∨ 0 ≤ n ∧ 8192 < n := by omega
    clear hp hk2 hb
    rcases hor with h0 | ⟨h0, h1⟩
    all_goals
      go_enter Try.func12, Try.ntmps12
      go_wp2
      go_ret
      exact ⟨rfl, HP.out, HK.out, by simp⟩

/-- a number's bytes, in a row of their own -/
def NumP (w : World) (n : Nat) (v : Int) (e : Ending) (w' : World) : Prop :=
  e = .returned (.slice (some ⟨w.heap.size, 0, none⟩) n n) ∧ w'.heap[w.heap.size]? = some (.cells (U8s (be n v)).toArray 5 (0, 0)) ∧ Kp (fun _ => False) w w'

set_option maxHeartbeats 1000000 in
theorem num_any (n : Nat) (v : Int) (h0 : 0 ≤ v) (hv : v ≤ 18446744073709551615) (hn : n ≤ 9000) (w : World) :
    Calls Try.prog 59 #[.int .i64 n, .int .u64 v] w (NumP w n v) := by
  obtain ⟨i0, hi0, hz0, hs0, hb0⟩ := info_parts info8
  obtain ⟨w1, hmk, hown, hgr⟩ := run_makeSlice_full (P := Try.prog) w w.heap.size 30 5 i0 (.int .u8 0) 1 Try.underlying30 hi0 hz0 hs0 .i64 .i64 n (by omega) (by rw [hb0]; omega) (by unfold maxLen; omega) (Nat.le_refl _)
  obtain ⟨mid, hmid, hblk⟩ : ∃ mid : List Value, mid.length = n ∧ w1.heap[w.heap.size]? = some (.cells ([] ++ mid ++ []).toArray 5 (0, 0)) := by
    obtain ⟨h1, ⟨h2, _⟩ | ⟨g, cap, cur, h2, _, h3, h4, _, h5, _⟩⟩ := hown
    · cases h2
    · cases h2
      exact ⟨cur.toList, by rw [Array.length_toList, h5, Nat.mul_one], by simpa using h3⟩
  have hk : Kp (fun _ => False) w w1 := (Kp.of_grownBy hgr).mono (fun _ _ h => by cases h)
  have hstart : SetRel w1 w.heap.size [] mid [] v 0 n w1 := by
    refine ⟨?_, Kp.refl _ _, rfl⟩
    rw [hblk, List.take_of_length_le (by omega)]; simp [U8s, be]
  have HV := Lib.hid hv
  have HK := Lib.hid hk
  clear hblk hown hgr hv hk
  go_enter Try.func59, Try.ntmps59
  go_wp2
  go_loopw [6, 1] (fun i y wr => ∃ (k : Nat) (j : Nat) (x : Int), k + j = n ∧ i = .int .i64 ((j : Int) - 1) ∧ y = .int .u64 x ∧ Hid (x = v / 256 ^ k) ∧ SetRel w1 w.heap.size [] mid [] v k j wr) (fun i _ _ => (intOf i + 1).toNat)
  case atStart => exact ⟨0, n, v, by omega, rfl, rfl, Lib.hid (by simp), hstart⟩
  case round =>
    obtain ⟨k, j, x, hkj, rfl, rfl, hx, hr⟩ := hrel
    have hxb := div_pow_bd h0 HV.out k
    rw [← hx.out] at hxb
    obtain ⟨hx0, hx1⟩ := hxb
    by_cases hj : 1 ≤ j
    · obtain ⟨i, rfl⟩ : ∃ i, j = i + 1 := ⟨j - 1, by omega⟩
      have hlen : (mid.take (i + 1)).length = i + 1 := by rw [List.length_take]; omega
      obtain ⟨u, hu⟩ := get_mid [] (mid.take (i + 1)) (U8s (be k v)) [] i hlen
      have hc : wr.cell? ⟨w.heap.size, i, none⟩ = some u := by rw [cell_blk hr.1, ← hu]; simp
      have hf : wr.frozen? ⟨w.heap.size, i, none⟩ = false := free_blk hr.1 _
      have hnext : SetRel w1 w.heap.size [] mid [] v (k + 1) i (wr.setCell ⟨w.heap.size, i, none⟩ (.int .u8 (x % 256))) := by
        refine ⟨?_, hr.2.1.setCell (fun _ => rfl) _, by rw [World.size_setCell]; exact hr.2.2⟩
        have hset := set_mid [] (mid.take (i + 1)) (U8s (be k v)) [] i (.int .u8 (x % 256)) hlen
        rw [List.length_nil, Nat.zero_add] at hset
        rw [set_blk hr.1, hset, List.take_take, show min i (i + 1) = i by omega, hx.out]
        rfl
      have hxn : Hid (x / 256 = v / 256 ^ (k + 1)) := Lib.hid (by rw [hx.out, div_pow])
      clear hu hlen hr
      go_wp2
      go_roundw
      case rel => exact ⟨k + 1, i, x / 256, by omega, rfl, rfl, hxn, hnext⟩
      case measure => simp [intOf]
    · obtain rfl : j = 0 := by omega
      obtain rfl : k = n := by omega
      obtain ⟨r1, r2, r3⟩ := hr
      have R1 := Lib.hid r1
      clear r1
      go_wp2
      go_ret
      exact ⟨rfl, by rw [R1.out]; simp, (HK.out).trans r2 (fun y hy e => by omega)⟩

set_option maxHeartbeats 1000000 in
theorem rfixed_any {w : World} {B q : Nat} {v : Value} {lim : Int} {l : List Int} {e : Int} {b : Value} {xs : List Int} (hB : B ≤ w.heap.size) (h : RK w B q v lim l e) (hs : Sees w b xs) (hx : xs.length ≤ 1000000) :
    Calls Try.prog 41 #[.pointer (some ⟨q, 0, none⟩), b] w fun r w' => r = .returned (.tuple #[]) ∧ RPost w B q v lim (putS lim l e xs) w' := by
  obtain ⟨a, cap, rfl⟩ := sees_form hs
  obtain ⟨av, capv, rfl⟩ := h.form
  obtain ⟨c0, c1, c2, cf⟩ := h.cells
  have cf0 := cf 0
  have cf2 := cf 2
  by_cases he : e = 0
  · subst he
    obtain ⟨hl0, hl1, hl2⟩ := h.lims rfl
    by_cases hf : (l.length : Int) + xs.length ≤ lim
    · have e1 : putS lim l 0 xs = (l ++ xs, 0) := by unfold putS; rw [if_pos rfl, if_pos hf]
      rw [e1]
      have hd : decide (lim - (l.length : Int) < (xs.length : Int)) = false := decide_eq_false (by omega)
      have happ : ∀ n : Nat, ∃ v' w', (∀ ty, (Builtin.append_ #[30, 30] ty #[.slice av l.length capv, .slice a xs.length cap]).run Try.prog (w.drewN n) = .ok v' w') ∧ RPost w B q (.slice av l.length capv) lim (l ++ xs, 0) (w'.setCell ⟨q, 0, none⟩ v') ∧ (∃ a2 n2 c2, v' = .slice a2 n2 c2) ∧ (∃ u, w'.cell? ⟨q, 0, none⟩ = some u) ∧ w'.frozen? ⟨q, 0, none⟩ = false := by
        intro n
        obtain ⟨v', w', ha, ho, hk, hnew⟩ := run_append_by (w := w.drewN n) hB h.own hs (by omega)
        have hq := kept_blk (w := w.drewN n) h.cell hk h.ne
        have hne : v'.ownBlock ≠ some q := by
          rcases hnew with h1 | h1
          · rw [h1]; exact h.ne
          · intro h2
            have h3 : w.heap.size ≤ q := h1 _ h2
            exact absurd (lt_of_blk h.cell) (by omega)
        have hown : OwnB (w'.setCell ⟨q, 0, none⟩ v') B v' (l ++ xs) :=
          ho.kept (Kp.setCell (F := fun k => k = q) (Kp.refl _ w') (p := ⟨q, 0, none⟩) (fun _ => rfl) v') (fun g hg e => hne (by rw [hg, e]))
        have hk1 : Kp (PF q (.slice av l.length capv)) w w' := ⟨hk.os, hk.tape, hk.output, hk.size, fun k hk1 hk2 => hk.block k hk1 (fun hh => hk2 (.inr hh))⟩
        refine ⟨v', w', ha, ⟨v', ⟨by rw [set_blk hq]; rfl, hown, hne, h.base, fun _ => ⟨hl0, hl1, ?_⟩⟩, hk1.setCell (p := ⟨q, 0, none⟩) (fun _ => .inl rfl) _, hnew⟩, ?_, ⟨_, (cell_blk hq 0).trans rfl⟩, free_blk hq _⟩
        · rw [List.length_append]; omega
        · obtain ⟨a2, c2, h2⟩ := sees_form ho.sees
          exact ⟨_, _, _, h2⟩
      have HA := Lib.hid happ
      clear h hs cf happ e1
      go_enter Try.func41, Try.ntmps41
      go_wp2
      go_quiet (fail)
      rename_i nq
      obtain ⟨v', w', ha, hfin, ⟨a2, n2, c2', rfl⟩, ⟨u, hu⟩, hfr⟩ := HA.out nq
      have HF := Lib.hid hfin
      have HAP := Lib.hid ha
      clear hfin ha
      go_wp2_with (at_builtin; refine Lib.wpList_append_run _ rfl _ _ _ _ rfl _ _ rfl rfl _ _ (HAP.out _) ?_)
      go_end0
      exact ⟨rfl, HF.out⟩
    · have e1 : putS lim l 0 xs = (l, 10) := by unfold putS; rw [if_pos rfl, if_neg hf]
      rw [e1]
      have hd : decide (lim - (l.length : Int) < (xs.length : Int)) = true := decide_eq_true (by omega)
      have HF := Lib.hid (fun n : Nat => RPost.ofDrewN ((h.drewN n).setErr 10 (by omega)))
      clear h hs cf e1
      go_enter Try.func41, Try.ntmps41
      go_wp2
      go_quiet (fail)
      rename_i nq
      go_wp2
      go_end0
      exact ⟨rfl, HF.out nq⟩
  · have e1 : putS lim l e xs = (l, e) := by unfold putS; rw [if_neg he]
    rw [e1]
    have hd : (e == 0) = false := by simpa using he
    have HF := Lib.hid (fun n : Nat => RPost.ofDrewN (show RPost (w.drewN n) B q (.slice av l.length capv) lim (l, e) (w.drewN n) from ⟨_, h.drewN n, Kp.refl _ _, .inl rfl⟩))
    clear h hs cf e1
    go_enter Try.func41, Try.ntmps41
    go_wp2
    go_quiet (fail)
    rename_i nq
    go_wp2
    go_end0
    exact ⟨rfl, HF.out nq⟩

theorem NumP.sees {w w' : World} {n : Nat} {v : Int} {e : Ending} (h : NumP w n v e w') (hm : n ≤ 9000) : Sees w' (.slice (some ⟨w.heap.size, 0, none⟩) n n) (be n v) := by
  obtain ⟨_, h2, _⟩ := h
  have h := Sees.mk (w := w') (b := w.heap.size) (off := 0) (cap := n) (xs := be n v) (by rw [be_length]; exact Nat.le_refl _) (by unfold maxLen; omega) (fun i x hi => by rw [Nat.zero_add, cell_blk h2, List.getElem?_toArray, U8s_get hi])
  rw [be_length] at h
  exact h
theorem NumP.own {w w' : World} {n : Nat} {v : Int} {e : Ending} {B : Nat} (h : NumP w n v e w') (hB : B ≤ w.heap.size) (hm : n ≤ 9000) : OwnB w' B (.slice (some ⟨w.heap.size, 0, none⟩) n n) (be n v) := by
  obtain ⟨_, h2, _⟩ := h
  refine .inr ⟨_, n, [], by rw [be_length], hB, by rw [List.append_nil]; exact h2, by rw [List.append_nil, U8s_length, be_length], by unfold maxLen; omega⟩

theorem RK.kept {F : Nat → Prop} {w w' : World} {B q : Nat} {v : Value} {lim : Int} {l : List Int} {e : Int} (h : RK w B q v lim l e) (k : Kp F w w') (hF : ∀ x, PF q v x → ¬ F x) : RK w' B q v lim l e :=
  ⟨kept_blk h.cell k (hF q (.inl rfl)), h.own.kept k (fun g hg => hF g (.inr hg)), h.ne, h.base, h.lims⟩
theorem PK.kept {F : Nat → Prop} {w w' : World} {B q : Nat} {v : Value} {lim : Int} {l : List Int} {e : Int} (h : PK w B q v lim l e) (k : Kp F w w') (hF : ∀ x, PF q v x → ¬ F x) : PK w' B q v lim l e :=
  ⟨kept_blk h.cell k (hF q (.inl rfl)), h.own.kept k (fun g hg => hF g (.inr hg)), h.ne, h.base, h.lims⟩
theorem RPost.after {w w1 w' : World} {B q : Nat} {v : Value} {lim : Int} {r : List Int × Int} (h : RPost w1 B q v lim r w') (k : Kp (fun _ => False) w w1) : RPost w B q v lim r w' := by
  obtain ⟨v', h1, h2, h3⟩ := h
  exact ⟨v', h1, (k.mono (F := PF q v) (fun _ _ f => f.elim)).trans h2 (fun _ _ h => h), h3.imp id (fun h g hg => Nat.le_trans k.size (h g hg))⟩

set_option maxHeartbeats 400000 in
theorem rnum_any (n : Nat) (x : Int) (hx0 : 0 ≤ x) (hx1 : x ≤ 18446744073709551615) (hn : n ≤ 9000) {w : World} {B q : Nat} {v : Value} {lim : Int} {l : List Int} {e : Int} (hB : B ≤ w.heap.size) (h : RK w B q v lim l e) :
    Calls Try.prog 43 #[.pointer (some ⟨q, 0, none⟩), .int .i64 n, .int .u64 x] w fun r w' => r = .returned (.tuple #[]) ∧ RPost w B q v lim (putS lim l e (be n x)) w' := by
  have HN := Lib.hid (num_any n x hx0 hx1 hn w)
  have HP := Lib.hid h
  clear h hx1
  go_enter Try.func43, Try.ntmps43
  go_wp2_with fail
  refine (HN.out).mono ?_
  intro r w1 hnp
  have hr := hnp.1
  subst hr
  have HR := Lib.hid (rfixed_any (Nat.le_trans hB hnp.2.2.size) ((HP.out).kept hnp.2.2 (fun _ _ h => h)) (hnp.sees hn) (by rw [be_length]; omega))
  have HK := Lib.hid hnp.2.2
  clear hnp
  go_wp2_with fail
  refine (HR.out).mono ?_
  rintro r w2 ⟨rfl, hp⟩
  have HF := Lib.hid hp
  clear hp
  go_wp2_with fail
  go_end0
  exact ⟨rfl, RPost.after HF.out HK.out⟩

set_option maxHeartbeats 400000 in
theorem rbytes_any {w : World} {B q : Nat} {v : Value} {lim : Int} {l : List Int} {e : Int} {b : Value} {xs : List Int} (hB : B ≤ w.heap.size) (h : RK w B q v lim l e) (hs : Sees w b xs) (hx : xs.length ≤ 900000) :
    Calls Try.prog 44 #[.pointer (some ⟨q, 0, none⟩), b] w fun r w' => r = .returned (.tuple #[]) ∧ RPost w B q v lim (putS lim l e (be 4 xs.length ++ xs)) w' := by
  obtain ⟨a, cap, rfl⟩ := sees_form hs
  have HN := Lib.hid (num_any 4 (xs.length : Int) (by omega) (by omega) (by omega) w)
  have HP := Lib.hid h
  have HS := Lib.hid hs
  clear h hs
  go_enter Try.func44, Try.ntmps44
  go_wp2_with fail
  refine (HN.out).mono ?_
  intro r w1 hnp
  have hr := hnp.1
  subst hr
  have hk := hnp.2.2
  have hB1 := Nat.le_trans hB hk.size
  obtain ⟨v2, w2, ha, ho, hk2, hnew⟩ := run_append_by hB1 (hnp.own hB (by omega)) ((HS.out).kept hk (fun _ _ _ h => h)) (by rw [be_length]; omega)
  have hk12 : Kp (fun _ => False) w w2 := hk.trans hk2 (fun y hy e => absurd hy (by injection e with e; simp at e; omega))
  have HR := Lib.hid (rfixed_any (Nat.le_trans hB1 hk2.size) ((HP.out).kept hk12 (fun _ _ h => h)) ho.sees (by rw [List.length_append, be_length]; omega))
  have HK := Lib.hid hk12
  have HA := Lib.hid ha
  clear hnp ha ho hk2 hnew hk hk12
  go_wp2_with (at_builtin; refine Lib.wpList_append_run _ rfl _ _ _ _ rfl _ _ rfl rfl _ _ (HA.out _) ?_)
  refine (HR.out).mono ?_
  rintro r w3 ⟨rfl, hp⟩
  have HF := Lib.hid hp
  clear hp
  go_wp2_with fail
  go_end0
  exact ⟨rfl, RPost.after HF.out HK.out⟩

theorem bytesWorld_kp (w : World) (e : TypeId) (s : ByteArray) : Kp (fun _ => False) w (Lib.bytesWorld w e s) :=
  ⟨by simp [Lib.bytesWorld, World.freeze, World.alloc, World.drew, -World.alloc_eq, -World.drew_eq], by simp [Lib.bytesWorld, World.freeze, World.alloc, World.drew, -World.alloc_eq, -World.drew_eq],
    by simp [Lib.bytesWorld, World.freeze, World.alloc, World.drew, -World.alloc_eq, -World.drew_eq], by rw [Lib.bytesWorld_size]; omega, fun k hk _ => Lib.bytesWorld_at_old w e s k hk⟩
theorem bytesWorld_sees (w : World) (s : ByteArray) (hs : s.size ≤ 1000000) : Sees (Lib.bytesWorld w 5 s) (.slice (some ⟨w.heap.size, 0, none⟩) s.size (grownCap w s.size 0 5)) (Bys s) := by
  have h := Sees.mk (w := Lib.bytesWorld w 5 s) (b := w.heap.size) (off := 0) (cap := grownCap w s.size 0 5) (xs := Bys s) (by rw [Bys_length]; exact grownCap_ge _ _ _ _) (grownCap_le_maxLen _ _ _ _ (by unfold maxLen; omega)) (fun i x hi => ?_)
  · rw [Bys_length] at h; exact h
  have hlt : i < s.size := by rw [← Bys_length]; exact (List.getElem?_eq_some_iff.1 hi).1
  rw [Nat.zero_add, Lib.bytesWorld_cell _ _ _ _ hlt]
  congr 2
  unfold Bys at hi
  rw [List.getElem?_map, Option.map_eq_some_iff] at hi
  obtain ⟨y, hy, rfl⟩ := hi
  simp [List.getD, hy]

/-- the second half of Text: the number, the text's bytes, and Fixed -/
theorem text_tail {w0 : World} {B q : Nat} {v : Value} {lim : Int} {l : List Int} {e : Int} {s : ByteArray} (hB : B ≤ w0.heap.size) (h : RK w0 B q v lim l e) (hx : s.size ≤ 900000) {w1 : World} {r : Ending} (hnp : NumP w0 2 (s.size : Int) r w1) :
    ∃ v2 w2, (∀ ty, (Builtin.append_ #[30, 30] ty #[.slice (some ⟨w0.heap.size, 0, none⟩) 2 2, .slice (some ⟨w1.heap.size, 0, none⟩) s.size (grownCap w1 s.size 0 5)]).run Try.prog (Lib.bytesWorld w1 5 s) = .ok v2 w2) ∧
      Calls Try.prog 41 #[.pointer (some ⟨q, 0, none⟩), v2] w2 (fun r w' => r = .returned (.tuple #[]) ∧ RPost w0 B q v lim (putS lim l e (be 2 (s.size : Int) ++ Bys s)) w') := by
  have hk := hnp.2.2
  have hB1 := Nat.le_trans hB hk.size
  have hbk := bytesWorld_kp w1 5 s
  have hsees := bytesWorld_sees w1 s (by omega)
  obtain ⟨v2, w2, ha, ho, hk2, hnew⟩ := run_append_by (w := Lib.bytesWorld w1 5 s) (Nat.le_trans hB1 hbk.size) ((hnp.own hB (by omega)).kept hbk (fun _ _ h => h)) hsees (by rw [be_length, Bys_length]; omega)
  have hk1 := hk.trans hbk (fun _ _ h => h)
  have hk12 : Kp (fun _ => False) w0 w2 := hk1.trans hk2 (fun y hy e => absurd hy (by injection e with e; simp at e; omega))
  exact ⟨v2, w2, ha, (rfixed_any (Nat.le_trans hB hk12.size) (h.kept hk12 (fun _ _ h => h)) ho.sees (by rw [List.length_append, be_length, Bys_length]; omega)).mono fun r w' hh => ⟨hh.1, RPost.after hh.2 hk12⟩⟩

set_option maxHeartbeats 1000000 in
theorem rtext_any {w : World} {B q : Nat} {v : Value} {lim : Int} {l : List Int} {e : Int} {s : ByteArray} (hB : B ≤ w.heap.size) (h : RK w B q v lim l e) (hx : s.size ≤ 900000) :
    Calls Try.prog 46 #[.pointer (some ⟨q, 0, none⟩), .string s] w fun r w' => r = .returned (.tuple #[]) ∧ RPost w B q v lim (putT lim l e s) w' := by
  obtain ⟨c0, c1, c2, cf⟩ := h.cells
  have hconv := fun w1 => Lib.run_convert_string_bytes (P := Try.prog) w1 9 30 5 s Try.underlying9 Try.underlying30 Try.underlying5
  have hx63 : (s.size : Int) ≤ 900000 := by omega
  by_cases hlong : e = 0 ∧ 65535 < s.size
  · obtain ⟨rfl, hl⟩ := hlong
    have e1 : putT lim l 0 s = (l, 3) := by unfold putT; rw [if_pos ⟨rfl, hl⟩]
    rw [e1]
    have cf2 := cf 2
    obtain ⟨v1, hp1, hk1, hn1⟩ := h.setErr 3 (by omega)
    have hl2 : (65535 : Int) < (s.size : Int) := by omega
    have HN := Lib.hid (num_any 2 (s.size : Int) (by omega) (by omega) (by omega) (w.setCell ⟨q, 2, none⟩ (.int .i64 3)))
    have HT := Lib.hid (fun w1 r hnp => text_tail (w1 := w1) (r := r) (s := s) (by rw [World.size_setCell]; exact hB) hp1 hx hnp)
    have HF := Lib.hid (fun w3 (hp : RPost (w.setCell ⟨q, 2, none⟩ (.int .i64 3)) B q v1 lim (l, 3) w3) => (show RPost w B q v lim (l, 3) w3 from by
      obtain ⟨v3, a1, a2, a3⟩ := hp
      refine ⟨v3, a1, hk1.trans a2 (fun y hy hh => ?_), ?_⟩
      · rcases hh with hh | hh
        · exact .inl hh
        · rcases hn1 with hn | hn
          · exact .inr (by rw [← hn]; exact hh)
          · exact absurd hy (by have := hn _ hh; omega)
      · rcases a3 with a3 | a3
        · rcases hn1 with hn | hn
          · exact .inl (by rw [a3, hn])
          · exact .inr (fun g hg => hn g (by rw [← a3]; exact hg))
        · exact .inr (fun g hg => by have := a3 g hg; rw [World.size_setCell] at this; exact this)))
    have e2 : putS lim l 3 (be 2 (s.size : Int) ++ Bys s) = (l, 3) := by unfold putS; rw [if_neg (by omega)]
    rw [e2] at HT
    clear h cf hp1 hk1 hn1 e1 hl e2
    go_enter Try.func46, Try.ntmps46
    go_wp2_with fail
    refine (HN.out).mono ?_
    intro r w1 hnp
    have hr := hnp.1
    obtain ⟨v2, w2, ha, hc⟩ := HT.out w1 r hnp
    have HA := Lib.hid ha
    have HC := Lib.hid hc
    clear ha hc hnp
    subst hr
    rw [World.size_setCell] at HA
    go_wp2_with (at_builtin; refine Lib.wpList_append_run _ rfl _ _ _ _ rfl _ _ rfl rfl _ _ (HA.out _) ?_)
    refine (HC.out).mono ?_
    rintro r w3 ⟨rfl, hp⟩
    have HP := Lib.hid (HF.out w3 hp)
    clear hp
    go_wp2_with fail
    go_end0
    exact ⟨rfl, HP.out⟩
  · have e1 : putT lim l e s = putS lim l e (be 2 (s.size : Int) ++ Bys s) := by unfold putT; rw [if_neg hlong]
    rw [e1]
    have hd : ((e == 0) = false) ∨ ((e == 0) = true ∧ ¬ (65535 : Int) < (s.size : Int)) := by
      by_cases he : e = 0
      · exact .inr ⟨by simpa using he, fun h2 => hlong ⟨he, by omega⟩⟩
      · exact .inl (by simpa using he)
    have HN := Lib.hid (num_any 2 (s.size : Int) (by omega) (by omega) (by omega) w)
    have HT := Lib.hid (fun w1 r hnp => text_tail (w1 := w1) (r := r) (s := s) hB h hx hnp)
    clear h cf hlong e1
    rcases hd with hd | ⟨hd, hd2⟩
    all_goals
      go_enter Try.func46, Try.ntmps46
      go_wp2_with fail
      refine (HN.out).mono ?_
      intro r w1 hnp
      have hr := hnp.1
      obtain ⟨v2, w2, ha, hc⟩ := HT.out w1 r hnp
      have HA := Lib.hid ha
      have HC := Lib.hid hc
      clear ha hc hnp
      subst hr
      go_wp2_with (at_builtin; refine Lib.wpList_append_run _ rfl _ _ _ _ rfl _ _ rfl rfl _ _ (HA.out _) ?_)
      refine (HC.out).mono ?_
      rintro r w3 ⟨rfl, hp⟩
      have HP := Lib.hid hp
      clear hp
      go_wp2_with fail
      go_end0
      exact ⟨rfl, HP.out⟩

set_option maxHeartbeats 400000 in
/-- all bytes as they lie, or the error -/
theorem rout_any {w : World} {B q : Nat} {v : Value} {lim : Int} {l : List Int} {e : Int} (h : RK w B q v lim l e) :
    Calls Try.prog 17 #[.pointer (some ⟨q, 0, none⟩)] w fun r w' => r = .returned (.tuple #[if e = 0 then v else .slice none 0 0, .int .i64 e]) ∧ ∃ n, w' = w.drewN n := by
  obtain ⟨c0, c1, c2, cf⟩ := h.cells
  obtain ⟨av, capv, rfl⟩ := h.form
  by_cases he : e = 0
  · subst he
    rw [if_pos rfl]
    clear h cf
    go_enter Try.func17, Try.ntmps17
    go_wp2
    go_ret2
    exact ⟨rfl, 0, rfl⟩
  · rw [if_neg he]
    have hb : (e != 0) = true := by simpa using he
    clear h cf
    go_enter Try.func17, Try.ntmps17
    go_wp2
    go_quiet (fail)
    rename_i nq
    go_wp2
    go_ret2
    exact ⟨rfl, nq, rfl⟩

end Go.Proofs.Ytahdnapinlbflaa
