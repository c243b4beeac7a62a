/-
  Contracts of package block's Bytes and ID, and of the document's own.
-/
import Derived.Test.YtoognhbdgdfkoaaDoorBn
import Derived.Test.YtoognhbdgdfkoaaDoorPkC
import Derived.Test.YtoognhbdgdfkoaaDoorRf
import Derived.Test.YtoognhbdgdfkoaaDoorRw6
namespace Go.Proofs.YtoognhbdgdfkoaaDoor
open Go.ChangeShapes Go.WideShapes Go.ChangeAt Go.RowKit

/-- a block's bytes, as the document tells them -/
def bbytes (b : Blk) : List Int := [0, 0] ++ b.p ++ be 8 b.h ++ be 4 b.d.length ++ b.d
/-- a block's name -/
def bid (b : Blk) : List Int := sumOf (bbytes b)
theorem bbytes_length {b : Blk} (h : b.p.length = 32) : (bbytes b).length = 46 + b.d.length := by
  simp [bbytes, be_length, h]; omega
theorem bbytes_rng {b : Blk} (h : b.wf) : Rng (bbytes b) := by
  unfold bbytes
  have h0 : Rng [0, 0] := fun x hx => by simp at hx; omega
  exact (((h0.append h.nm.rng).append (be_rng _ _)).append (be_rng _ _)).append h.rng
theorem bchk_pos {b : Blk} (h : bchk b = 0) : 0 ≤ b.h := by
  unfold bchk at h
  split at h
  · cases h
  · rename_i h1
    by_cases h2 : b.h < 0
    · exact absurd (.inl h2) h1
    · omega

theorem PK.away {w : World} {B p : Nat} {v : Value} {lim : Int} {l : List Int} {e : Int} (h : PK w B p v lim l e) {g : Nat} (hg : g < B) : ¬ PF p v g := by
  have hb := h.base
  rintro (e | e)
  · omega
  · have := (h.own.lt g e).1; omega
/-- what is put behind what was put since a world -/
theorem PPost.since {w0 w w' : World} {p : Nat} {v : Value} {lim : Int} {l : List Int} {x : List Int} (hx : (l.length : Int) + x.length ≤ lim) (k : Kp (fun _ => False) w0 w) (h : PK w w0.heap.size p v lim l 0) (hp : PPost w w0.heap.size p v lim (putS lim l 0 x) w') :
    ∃ v', PK w' w0.heap.size p v' lim (l ++ x) 0 ∧ Kp (fun _ => False) w0 w' := by
  obtain ⟨v', h1, k1, _⟩ := hp
  have e1 : putS lim l 0 x = (l ++ x, 0) := by unfold putS; rw [if_pos rfl, if_pos hx]
  rw [e1] at h1
  exact ⟨v', h1, k.trans k1 (fun y hy hf => h.away hy hf)⟩

/-- the bytes, in new memory, or the error -/
def BytesP (w : World) (b : Blk) (e : Ending) (w' : World) : Prop :=
  ∃ v', e = .returned (.tuple #[v', .int .i64 (bchk b)]) ∧ OwnB w' w.heap.size v' (if bchk b = 0 then bbytes b else []) ∧ Kp (fun _ => False) w w'

set_option maxRecDepth 100000 in
set_option maxHeartbeats 800000 in
theorem blbytes_any {b : Blk} {v : Value} (hb : b.wf) {w : World} (hs : Sees w v b.d) :
    Calls Tryd.prog 19 #[blkV b v] w (BytesP w b) := by
  obtain ⟨a0, c0, rfl⟩ := sees_form hs
  have hA := BlkAt.new w hb.nm.len (.slice a0 b.d.length c0)
  have k1 : Kp (fun _ => False) w (w.alloc (.cells (blkC b (.slice a0 b.d.length c0)).toArray 26)) := (Kp.refl _ _).alloc _
  have HC := Lib.hid (check_any hb (hs.kept k1 (fun _ _ _ f => f)))
  have HS := Lib.hid hs
  have HA := Lib.hid hA
  have HW := Lib.hid hb
  have K1 := Lib.hid k1
  have HI := Lib.hid (fun v => infoBlk hb.nm.len v)
  have hcs := bchk_cases b
  have hcl := fun h => And.intro (bchk_len (b := b) h) (bchk_pos h)
  unfold BytesP
  obtain ⟨x, hx⟩ : ∃ x, x = bchk b := ⟨_, rfl⟩
  rw [← hx] at HC hcs hcl ⊢
  clear hs hA hb hx k1
  rcases hcs with rfl | rfl
  · obtain ⟨hl, hh⟩ := hcl rfl
    have HL := Lib.hid hl
    have hh2 := HW.out.hi
    clear hcl hl
    go_enter Tryd.func19, Tryd.ntmps19
    unfold blkV
    go_wp2_with ((with_reducible refine at_dst 6 ?_); refine wpList_load_row rfl 26 _ rfl w.heap.size rfl 26 _ (0, 0) _ HA.out.row Tryd.underlying26 rfl (HI.out _) ?_)
    refine HC.out.mono ?_
    rintro e w1 ⟨rfl, k⟩
    have H1 := Lib.hid (HA.out.kept k (fun f => f))
    have K2 := Lib.hid (K1.out.trans k (fun _ _ f => f))
    clear k
    go_wp2_with fail
    refine (newP_any 246 (Nat.le_refl w1.heap.size)).mono ?_
    rintro e w2 ⟨rfl, hp, k, _⟩
    rw [if_pos (by omega)] at hp
    have hlt : w.heap.size < w1.heap.size := H1.out.lt
    obtain ⟨p, hpe⟩ : ∃ p, p = w1.heap.size := ⟨_, rfl⟩
    rw [← hpe] at ⊢
    have hp' : PK w2 w1.heap.size p (.slice none 0 0) 246 [] 0 := by rw [hpe]; exact hp
    have Q := Lib.hid (putShort_any 0 (by omega) (by omega) k.size hp')
    have HP := Lib.hid hp'
    have K3 := Lib.hid k
    clear hp hp' k hpe
    go_wp2_with fail
    refine Q.out.mono ?_
    rintro e w3 ⟨rfl, hq⟩
    obtain ⟨v3, hp3, k3⟩ := hq.since (by rw [be_length]; simp) K3.out HP.out
    clear hq Q HP K3
    have H3 := Lib.hid (H1.out.kept k3 (fun f => f))
    have hpar : Sees w3 (.slice (some ⟨w.heap.size, 0, none⟩) 32 32) b.p := by
      have h := Sees.mk (w := w3) (b := w.heap.size) (off := 0) (cap := 32) (xs := b.p) (by rw [HW.out.nm.len]; omega) (by unfold maxLen; omega) (fun i y hi => H3.out.par i _ (U8s_get hi))
      rw [HW.out.nm.len] at h
      exact h
    have Q := Lib.hid (putFixed_any k3.size hp3 hpar (by rw [HW.out.nm.len]; omega) (fun _ g hg => hp3.away (by obtain rfl := own_some hg; exact hlt)))
    have HP := Lib.hid hp3
    have K3 := Lib.hid k3
    clear hp3 k3 hpar
    go_wp2_with fail
    refine Q.out.mono ?_
    rintro e w4 ⟨rfl, hq⟩
    obtain ⟨v4, hp4, k4⟩ := hq.since (by rw [List.length_append, be_length, HW.out.nm.len]; simp) K3.out HP.out
    clear hq Q HP K3 H3
    have H4 := Lib.hid (H1.out.kept k4 (fun f => f))
    have c32 := H4.out.ht
    have Q := Lib.hid (putLong_any b.h hh (by omega) k4.size hp4)
    have HP := Lib.hid hp4
    have K4 := Lib.hid k4
    clear hp4 k4
    go_wp2_with fail
    refine Q.out.mono ?_
    rintro e w5 ⟨rfl, hq⟩
    obtain ⟨v5, hp5, k5⟩ := hq.since (by simp only [List.length_append, be_length, HW.out.nm.len]; simp) K4.out HP.out
    clear hq Q HP K4 c32 H4
    have H5 := Lib.hid (H1.out.kept k5 (fun f => f))
    have c33 := H5.out.dat
    have Q := Lib.hid (putBytes_any k5.size hp5 ((HS.out.kept K2.out (fun _ _ _ f => f)).kept k5 (fun _ _ _ f => f)) (by have := HL.out; omega) (fun hne g hg => hp5.away (by have := HS.out.lt hne g hg; omega)))
    have HP := Lib.hid hp5
    have K5 := Lib.hid k5
    clear hp5 k5
    go_wp2_with fail
    refine Q.out.mono ?_
    rintro e w6 ⟨rfl, hq⟩
    obtain ⟨v6, hp6, k6⟩ := hq.since (by simp only [List.length_append, be_length, HW.out.nm.len]; have := HL.out; simp; omega) K5.out HP.out
    clear hq Q HP K5 c33 H5
    have Q := Lib.hid (pout_any hp6)
    have K6 := Lib.hid k6
    clear hp6 k6
    go_wp2_with fail
    refine Q.out.mono ?_
    rintro e w7 ⟨v7, rfl, own, k7⟩
    rw [if_pos rfl] at own
    have hk : Kp (fun _ => False) w w7 := (K2.out.trans K6.out (fun _ _ f => f)).trans k7 (fun _ _ f => f)
    have OW := Lib.hid (own.up (Nat.le_trans K2.out.size K6.out.size))
    have HK := Lib.hid hk
    clear own k7 hk
    go_wp2_with fail
    go_ret2
    refine ⟨_, rfl, ?_, HK.out⟩
    show OwnB w7 w.heap.size v7 (bbytes b)
    exact (by rw [show bbytes b = [] ++ be 2 0 ++ b.p ++ be 8 b.h ++ (be 4 (b.d.length : Int) ++ b.d) by simp [bbytes, be]]; exact OW.out)
  · clear hcl
    go_enter Tryd.func19, Tryd.ntmps19
    unfold blkV
    go_wp2_with ((with_reducible refine at_dst 6 ?_); refine wpList_load_row rfl 26 _ rfl w.heap.size rfl 26 _ (0, 0) _ HA.out.row Tryd.underlying26 rfl (HI.out _) ?_)
    refine HC.out.mono ?_
    rintro e w1 ⟨rfl, k⟩
    have K2 := Lib.hid (K1.out.trans k (fun _ _ f => f))
    clear k
    go_wp2_with fail
    go_ret2
    exact ⟨_, rfl, .inl ⟨rfl, rfl⟩, K2.out⟩

/-- bytes appended to those of the call's own -/
theorem pd_app {w wr w1 : World} {l xs : List Int} {n : Nat} {v b : Value} (h : PdRel w l n v wr) (k1 : Kp (fun _ => False) wr w1) (hs : Sees w1 b xs) (hl : l.length + xs.length ≤ 1000000) :
    ∃ v' w', (∀ ty, (Builtin.append_ #[24, 24] ty #[v, b]).run Tryd.prog w1 = .ok v' w') ∧ PdRel w (l ++ xs) (n + xs.length) v' w' := by
  obtain ⟨v', w', h1, h2, h3, _⟩ := run_append_by (Nat.le_trans h.kp.size k1.size) (h.own.kept k1 (fun _ _ f => f)) hs (by omega)
  refine ⟨v', w', h1, ?_, by rw [List.length_append, h.len], h2, (h.kp.trans k1 (fun _ _ f => f)).trans h3 (fun y hy e => by have := (h.own.lt y e).1; omega)⟩
  have := h2.sees.len
  rw [List.length_append, h.len] at this
  exact this

set_option maxRecDepth 100000 in
set_option maxHeartbeats 800000 in
theorem rblbytes_any {b : Blk} {v : Value} (hb : b.wf) {w : World} (hs : Sees w v b.d) :
    Calls Tryd.prog 20 #[blkV b v] w (BytesP w b) := by
  obtain ⟨a0, c0, rfl⟩ := sees_form hs
  have hA := BlkAt.new w hb.nm.len (.slice a0 b.d.length c0)
  have k1 : Kp (fun _ => False) w (w.alloc (.cells (blkC b (.slice a0 b.d.length c0)).toArray 26)) := (Kp.refl _ _).alloc _
  have HC := Lib.hid (rcheck_any hb (hs.kept k1 (fun _ _ _ f => f)))
  have HS := Lib.hid hs
  have HA := Lib.hid hA
  have HW := Lib.hid hb
  have K1 := Lib.hid k1
  have HI := Lib.hid (fun v => infoBlk hb.nm.len v)
  have hcs := bchk_cases b
  have hcl := fun h => And.intro (bchk_len (b := b) h) (bchk_pos h)
  unfold BytesP
  obtain ⟨x, hx⟩ : ∃ x, x = bchk b := ⟨_, rfl⟩
  rw [← hx] at HC hcs hcl ⊢
  clear hs hA hb hx k1
  rcases hcs with rfl | rfl
  · obtain ⟨hl, hh⟩ := hcl rfl
    have HL := Lib.hid hl
    have hh2 := HW.out.hi
    clear hcl hl
    go_enter Tryd.func20, Tryd.ntmps20
    unfold blkV
    go_wp2_with ((with_reducible refine at_dst 7 ?_); refine wpList_load_row rfl 26 _ rfl w.heap.size rfl 26 _ (0, 0) _ HA.out.row Tryd.underlying26 rfl (HI.out _) ?_)
    refine HC.out.mono ?_
    rintro e w1 ⟨rfl, k⟩
    have H1 := Lib.hid (HA.out.kept k (fun f => f))
    have K2 := Lib.hid (K1.out.trans k (fun _ _ f => f))
    have HST := Lib.hid (show PdRel w1 [0, 0] 2 (.slice (some ⟨w1.heap.size, 0, none⟩) 2 2) (w1.alloc (.cells #[.int .u8 0, .int .u8 0] 5)) from
      ⟨⟨_, _, rfl⟩, rfl, .inr ⟨w1.heap.size, 2, [], rfl, Nat.le_refl _, new_blk _ _, rfl, by unfold maxLen; omega⟩, (Kp.refl _ _).alloc _⟩)
    clear k
    go_wp2_with fail
    go_loopw [5, 6] (fun v i wr => ∃ k : Nat, k ≤ 32 ∧ i = .int .i64 k ∧ PdRel w1 ([0, 0] ++ b.p.take k) (2 + k) v wr) (fun _ i _ => 32 - (intOf i).toNat)
    case atStart => exact ⟨0, by omega, rfl, HST.out⟩
    case round =>
      obtain ⟨k, hk, rfl, hr⟩ := hrel
      obtain ⟨a, c, hv⟩ := hr.form
      by_cases hlt : k < 32
      · have hpl := HW.out.nm.len
        obtain ⟨v', w', hap, hnext⟩ := pd_next hr (by rw [hr.len]; omega) (b.p.getD k 0)
        obtain ⟨a', c', hv'⟩ := hnext.form
        have hbx : wr.cell? ⟨w.heap.size, k, none⟩ = some (.int .u8 (b.p.getD k 0)) := by
          have := (H1.out.kept hr.kp (fun f => f)).par k _ (U8s_get (x := b.p.getD k 0) (by simp [hpl, hlt]))
          rw [Nat.zero_add] at this; exact this
        have hd : decide ((k : Int) < 32) = true := by simp; omega
        have HAP := Lib.hid hap
        have HN := Lib.hid hnext
        have htk : b.p.take (k + 1) = b.p.take k ++ [b.p.getD k 0] := by rw [List.take_succ_eq_append_getElem (by omega)]; simp [hpl, hlt]
        have HT := Lib.hid htk
        clear hap hnext hr hpl htk
        subst hv hv'
        obtain ⟨y, hy⟩ : ∃ y, y = b.p.getD k 0 := ⟨_, rfl⟩
        rw [← hy] at hbx HAP HN HT
        clear hy
        go_wp2_with (at_builtin; refine Lib.wpList_append_run _ rfl _ _ _ _ rfl _ _ rfl rfl _ _ (HAP.out _) ?_)
        go_roundw
        case rel => exact ⟨k + 1, by omega, by go_num, by rw [HT.out, ← List.append_assoc]; exact HN.out⟩
        case measure => simp [intOf]; omega
      · obtain rfl : k = 32 := by omega
        rw [List.take_of_length_le (by rw [HW.out.nm.len]; exact Nat.le_refl _), show 2 + 32 = 34 from rfl] at hr
        rw [show 2 + 32 = 34 from rfl] at hv
        subst hv
        have h2 := H1.out.kept hr.kp (fun f => f)
        have c32 := h2.ht
        have NM := Lib.hid (num_any 8 b.h hh (by omega) (by omega) wr)
        have HR := Lib.hid hr
        have HK := Lib.hid hr.kp
        clear hr h2 hlt hk
        rw [show ((32 : Nat) : Int) = 32 from rfl]
        go_wp2_with fail
        refine NM.out.mono ?_
        intro e w3 hnp
        have hr' := hnp.1
        subst hr'
        have hk3 := hnp.2.2
        obtain ⟨v4, w4, hap, hn4⟩ := pd_app HR.out hk3 (hnp.sees (by omega)) (by rw [HR.out.len, be_length]; omega)
        rw [be_length] at hn4
        obtain ⟨a4, c4, rfl⟩ := hn4.form
        have h4 := H1.out.kept hn4.kp (fun f => f)
        have c33 := h4.dat
        have HAP := Lib.hid hap
        have HR4 := Lib.hid hn4
        have hdl : (b.d.length : Int) ≤ 200 := by have := HL.out; omega
        have e64 : IntKind.u64.wrap (b.d.length : Int) = b.d.length := IntWalk.u64_in _ (by omega)
        have NM4 := Lib.hid (num_any 4 (b.d.length : Int) (by omega) (by omega) (by omega) w4)
        clear hnp hap hn4 h4 hk3 c32
        go_wp2_with (at_builtin; refine Lib.wpList_append_run _ rfl _ _ _ _ rfl _ _ rfl rfl _ _ (HAP.out _) ?_)
        refine NM4.out.mono ?_
        intro e w5 hnp
        have hr' := hnp.1
        subst hr'
        have hk5 := hnp.2.2
        obtain ⟨v6, w6, hap, hn6⟩ := pd_app HR4.out hk5 (hnp.sees (by omega)) (by rw [HR4.out.len, be_length]; omega)
        rw [be_length] at hn6
        obtain ⟨a6, c6, rfl⟩ := hn6.form
        have h6 := H1.out.kept hn6.kp (fun f => f)
        have d33 := h6.dat
        have HAP6 := Lib.hid hap
        obtain ⟨v7, w7, hap, hn7⟩ := pd_app hn6 (Kp.refl _ _) (HS.out.kept (K2.out.trans hn6.kp (fun _ _ f => f)) (fun _ _ _ f => f)) (by rw [hn6.len]; omega)
        obtain ⟨a7, c7, rfl⟩ := hn7.form
        have HAP7 := Lib.hid hap
        have HK7 := Lib.hid (K2.out.trans hn7.kp (fun _ _ f => f))
        have OW := Lib.hid (hn7.own.up (B' := w.heap.size) K2.out.size)
        clear hnp hap hn6 hn7 h6 hk5 c33 e64
        go_wp2_with (first
          | ((with_reducible refine at_dst 36 ?_); refine Lib.wpList_append_run _ rfl _ _ _ _ rfl _ _ rfl rfl _ _ (HAP6.out _) ?_)
          | ((with_reducible refine at_dst 40 ?_); refine Lib.wpList_append_run _ rfl _ _ _ _ rfl _ _ rfl rfl _ _ (HAP7.out _) ?_))
        go_ret2
        refine ⟨_, rfl, ?_, HK7.out⟩
        exact OW.out
  · clear hcl
    go_enter Tryd.func20, Tryd.ntmps20
    unfold blkV
    go_wp2_with ((with_reducible refine at_dst 7 ?_); refine wpList_load_row rfl 26 _ rfl w.heap.size rfl 26 _ (0, 0) _ HA.out.row Tryd.underlying26 rfl (HI.out _) ?_)
    refine HC.out.mono ?_
    rintro e w1 ⟨rfl, k⟩
    have K2 := Lib.hid (K1.out.trans k (fun _ _ f => f))
    clear k
    go_wp2_with fail
    go_ret2
    exact ⟨_, rfl, .inl ⟨rfl, rfl⟩, K2.out⟩
end Go.Proofs.YtoognhbdgdfkoaaDoor
