/-
  Plain facts on Parse: the document's answer, and what an unpacker's steps come to.
-/
import Derived.Test.YtoognhbdgdfkoaaDoorBo
import Derived.Test.YtoognhbdgdfkoaaDoorVb
namespace Go.Proofs.YtoognhbdgdfkoaaDoor
open Go.RowKit

/-- the block that stands in bytes, if any -/
def pB (l : List Int) : Blk := ⟨(l.drop 2).take 32, wrap64 (val ((l.drop 34).take 8)), l.drop 46⟩
def pOk (l : List Int) : Prop := 46 ≤ l.length ∧ bchk (pB l) = 0 ∧ bbytes (pB l) = l
instance (l : List Int) : Decidable (pOk l) := by unfold pOk; infer_instance
def pE (l : List Int) : Int := if pOk l then 0 else 30

/-! what the unpacker's steps come to -/
def pz (l : List Int) : Int := val (takeR l 0 2)
def pl1 (l : List Int) : List Int := takeL l 0 2
def pe1 (l : List Int) : Int := takeE l 0 2
def pr2 (l : List Int) : List Int := takeR (pl1 l) (pe1 l) 32
def pl2 (l : List Int) : List Int := takeL (pl1 l) (pe1 l) 32
def pe2 (l : List Int) : Int := takeE (pl1 l) (pe1 l) 32
def pr3 (l : List Int) : List Int := takeR (pl2 l) (pe2 l) 8
def pl3 (l : List Int) : List Int := takeL (pl2 l) (pe2 l) 8
def pe3 (l : List Int) : Int := takeE (pl2 l) (pe2 l) 8
def pr4 (l : List Int) : List Int := cntR (pl3 l) (pe3 l) 4 200
def pl4 (l : List Int) : List Int := cntL (pl3 l) (pe3 l) 4 200
def pe4 (l : List Int) : Int := cntE (pl3 l) (pe3 l) 4 200
def ppar (l : List Int) : List Int := if pr2 l = [] then id0 else pr2 l
def pblk (l : List Int) : Blk := ⟨ppar l, wrap64 (val (pr3 l)), pr4 l⟩

theorem tk0 {l : List Int} {n : Nat} (h : n ≤ l.length) : takeE l 0 n = 0 ∧ takeR l 0 n = l.take n ∧ takeL l 0 n = l.drop n := by
  have e : takeE l 0 n = 0 := by unfold takeE; rw [if_neg (by simp), if_neg (by omega), if_neg (by omega)]
  exact ⟨e, by unfold takeR; rw [if_pos e, Int.toNat_natCast], by unfold takeL; rw [if_pos e, Int.toNat_natCast]⟩
theorem takeR_len_or (l : List Int) (e : Int) (n : Nat) : takeR l e n = [] ∨ (takeR l e n).length = n := by
  unfold takeR
  split
  · rename_i h
    right
    unfold takeE at h
    split at h
    · rename_i h1; exact absurd h h1
    · split at h
      · cases h
      · split at h
        · cases h
        · rw [List.length_take, Int.toNat_natCast]; omega
  · exact .inl rfl
theorem cntE_self (l : List Int) (e : Int) (hd : Nat) (m : Int) (he : e ≠ 0) : cntE l e hd m = e := by unfold cntE; rw [if_pos he]

theorem ppar_nm {l : List Int} (h : Rng l) : Nm (ppar l) := by
  unfold ppar
  split
  · exact id0_nm
  · rename_i hne
    rcases takeR_len_or (pl1 l) (pe1 l) 32 with h1 | h1
    · exact absurd h1 hne
    · exact ⟨h1, takeR_rng (takeL_rng h _ _) _ _⟩
theorem pl3_rng {l : List Int} (h : Rng l) : Rng (pl3 l) := takeL_rng (takeL_rng (takeL_rng h _ _) _ _) _ _
theorem pblk_wf {l : List Int} (h : Rng l) : (pblk l).wf :=
  ⟨ppar_nm h, by show -9223372036854775808 ≤ wrap64 _; unfold wrap64; omega, by show wrap64 _ ≤ 9223372036854775807; unfold wrap64; omega, cntR_rng (pl3_rng h) _ _ _⟩
theorem pB_nm {l : List Int} (h : Rng l) (hl : 46 ≤ l.length) : Nm (pB l).p :=
  ⟨by show ((l.drop 2).take 32).length = 32; rw [List.length_take, List.length_drop]; omega, fun x hx => h x (List.mem_of_mem_drop (List.mem_of_mem_take hx))⟩
theorem pB_wf {l : List Int} (h : Rng l) (hl : 46 ≤ l.length) : (pB l).wf :=
  ⟨pB_nm h hl, by show -9223372036854775808 ≤ wrap64 _; unfold wrap64; omega, by show wrap64 _ ≤ 9223372036854775807; unfold wrap64; omega, fun x hx => h x (List.mem_of_mem_drop hx)⟩
theorem orpB_wf {l : List Int} (h : Rng l) : (orBlk (pB l) (pE l)).wf := by
  unfold pE
  by_cases hk : pOk l
  · rw [if_pos hk]; exact orBlk_wf (pB_wf h hk.1) _
  · rw [if_neg hk]; exact blk1_wf (d := []) (fun _ h => by cases h)

/-- bytes that are long enough, part by part -/
theorem p_long {l : List Int} (h : 46 ≤ l.length) :
    pz l = val (l.take 2) ∧ pr2 l = (l.drop 2).take 32 ∧ pr3 l = (l.drop 34).take 8 ∧ pl3 l = l.drop 42 ∧ pe3 l = 0 := by
  obtain ⟨a1, a2, a3⟩ := tk0 (l := l) (n := 2) (by omega)
  have b1 : pl1 l = l.drop 2 := a3
  have b2 : pe1 l = 0 := a1
  obtain ⟨a4, a5, a6⟩ := tk0 (l := l.drop 2) (n := 32) (by rw [List.length_drop]; omega)
  have b3 : pl2 l = l.drop 34 := by unfold pl2; rw [b1, b2]; exact a6.trans (by rw [List.drop_drop])
  have b4 : pe2 l = 0 := by unfold pe2; rw [b1, b2]; exact a4
  obtain ⟨a7, a8, a9⟩ := tk0 (l := l.drop 34) (n := 8) (by rw [List.length_drop]; omega)
  refine ⟨congrArg val a2, by unfold pr2; rw [b1, b2]; exact a5, by unfold pr3; rw [b3, b4]; exact a8, by unfold pl3; rw [b3, b4]; exact a9.trans (by rw [List.drop_drop]), by unfold pe3; rw [b3, b4]; exact a7⟩
theorem takeE_short {l : List Int} {n : Nat} (h : l.length < n) : takeE l 0 n ≠ 0 := by
  unfold takeE; rw [if_neg (by simp), if_neg (by omega), if_pos (by omega)]; omega
theorem pe4_short {l : List Int} (h : l.length < 46) : pe4 l ≠ 0 := by
  unfold pe4
  by_cases h1 : l.length < 2
  · have e1 : pe1 l ≠ 0 := takeE_short h1
    have e2 : pe2 l ≠ 0 := by unfold pe2; rw [takeE_self _ _ _ e1]; exact e1
    have e3 : pe3 l ≠ 0 := by unfold pe3; rw [takeE_self _ _ _ e2]; exact e2
    rw [cntE_self _ _ _ _ e3]; exact e3
  · obtain ⟨a1, a2, a3⟩ := tk0 (l := l) (n := 2) (by omega)
    have b1 : pl1 l = l.drop 2 := a3
    have b2 : pe1 l = 0 := a1
    by_cases h2 : l.length < 34
    · have e2 : pe2 l ≠ 0 := by unfold pe2; rw [b1, b2]; exact takeE_short (n := 32) (by rw [List.length_drop]; omega)
      have e3 : pe3 l ≠ 0 := by unfold pe3; rw [takeE_self _ _ _ e2]; exact e2
      rw [cntE_self _ _ _ _ e3]; exact e3
    · obtain ⟨a4, a5, a6⟩ := tk0 (l := l.drop 2) (n := 32) (by rw [List.length_drop]; omega)
      have b3 : pl2 l = l.drop 34 := by unfold pl2; rw [b1, b2]; exact a6.trans (by rw [List.drop_drop])
      have b4 : pe2 l = 0 := by unfold pe2; rw [b1, b2]; exact a4
      by_cases h3 : l.length < 42
      · have e3 : pe3 l ≠ 0 := by unfold pe3; rw [b3, b4]; exact takeE_short (n := 8) (by rw [List.length_drop]; omega)
        rw [cntE_self _ _ _ _ e3]; exact e3
      · obtain ⟨a7, a8, a9⟩ := tk0 (l := l.drop 34) (n := 8) (by rw [List.length_drop]; omega)
        have b5 : pl3 l = l.drop 42 := by unfold pl3; rw [b3, b4]; exact a9.trans (by rw [List.drop_drop])
        have b6 : pe3 l = 0 := by unfold pe3; rw [b3, b4]; exact a7
        rw [b5, b6]
        unfold cntE countE
        rw [if_neg (by simp), if_neg (by omega), if_pos (by rw [List.length_drop]; omega)]
        omega
theorem endE_zero {l : List Int} {e : Int} : endE l e = 0 ↔ e = 0 ∧ l = [] := by
  unfold endE
  by_cases he : e = 0
  · subst he
    rw [if_neg (by simp)]
    by_cases hl : 0 < l.length
    · rw [if_pos hl]
      exact ⟨(fun h => by cases h), (fun h => by rw [h.2] at hl; cases hl)⟩
    · rw [if_neg hl]
      exact ⟨fun _ => ⟨rfl, List.eq_nil_of_length_eq_zero (by omega)⟩, fun _ => rfl⟩
  · rw [if_pos he]
    exact ⟨fun h => absurd h he, fun h => absurd h.1 he⟩
/-- what stands behind the count, if nothing is left -/
theorem p_count {l : List Int} (hr : Rng l) (h : 46 ≤ l.length) :
    (endE (pl4 l) (pe4 l) = 0 ↔ val ((l.drop 42).take 4) = l.length - 46 ∧ l.length - 46 ≤ 200) ∧ (endE (pl4 l) (pe4 l) = 0 → pr4 l = l.drop 46) := by
  obtain ⟨_, _, _, b5, b6⟩ := p_long h
  have hb := val_bd ((l.drop 42).take 4) (fun x hx => hr x (List.mem_of_mem_drop (List.mem_of_mem_take hx)))
  have hdl : (l.drop 42).length = l.length - 42 := List.length_drop
  have e1 : pe4 l = if 200 < val ((l.drop 42).take 4) then 3 else if ((l.drop 42).length : Int) - 4 < val ((l.drop 42).take 4) then 11 else 0 := by
    unfold pe4
    rw [b5, b6]
    unfold cntE countE
    rw [if_neg (by simp), if_neg (by omega), if_neg (by omega)]
    rfl
  have e2 : pe4 l = 0 → pr4 l = (l.drop 46).take (val ((l.drop 42).take 4)).toNat ∧ pl4 l = (l.drop 46).drop (val ((l.drop 42).take 4)).toNat := by
    intro he
    have he' : cntE (l.drop 42) 0 4 200 = 0 := by have := he; unfold pe4 at this; rw [b5, b6] at this; exact this
    unfold pr4 pl4
    rw [b5, b6]
    unfold cntR cntL
    rw [if_pos he', if_pos he', List.drop_drop]
    exact ⟨rfl, rfl⟩
  obtain ⟨n, hn⟩ : ∃ n : Nat, val ((l.drop 42).take 4) = n := ⟨_, (Int.toNat_of_nonneg hb.1).symm⟩
  rw [hn] at e1 e2 ⊢
  rw [Int.toNat_natCast] at e2
  rw [endE_zero]
  have key : (pe4 l = 0 ∧ pl4 l = []) ↔ ((n : Int) = l.length - 46 ∧ l.length - 46 ≤ 200) := by
    constructor
    · rintro ⟨he, hl⟩
      have h2 := (e2 he).2
      rw [hl] at h2
      have h3 := congrArg List.length h2
      rw [List.length_nil, List.length_drop, List.length_drop] at h3
      rw [he] at e1
      split at e1
      · cases e1
      · split at e1
        · cases e1
        · omega
    · rintro ⟨h1, h2⟩
      have he : pe4 l = 0 := by rw [e1, if_neg (by omega), if_neg (by omega)]
      refine ⟨he, ?_⟩
      rw [(e2 he).2]
      exact List.drop_eq_nil_of_le (by rw [List.length_drop]; omega)
  refine ⟨key, fun hk => ?_⟩
  have hk2 := key.1 hk
  rw [(e2 hk.1).1]
  exact List.take_of_length_le (by rw [List.length_drop]; omega)

theorem split5 (l : List Int) : l = l.take 2 ++ (l.drop 2).take 32 ++ (l.drop 34).take 8 ++ (l.drop 42).take 4 ++ l.drop 46 := by
  have h1 : l.drop 42 = (l.drop 42).take 4 ++ l.drop 46 := by
    have := (List.take_append_drop 4 (l.drop 42)).symm; rw [List.drop_drop] at this; exact this
  have h2 : l.drop 34 = (l.drop 34).take 8 ++ l.drop 42 := by
    have := (List.take_append_drop 8 (l.drop 34)).symm; rw [List.drop_drop] at this; exact this
  have h3 : l.drop 2 = (l.drop 2).take 32 ++ l.drop 34 := by
    have := (List.take_append_drop 32 (l.drop 2)).symm; rw [List.drop_drop] at this; exact this
  have h4 := (List.take_append_drop 2 l).symm
  rw [List.append_assoc, List.append_assoc, List.append_assoc, ← h1, ← h2, ← h3]; exact h4
theorem pE_iff {l : List Int} (hr : Rng l) : (pz l = 0 ∧ endE (pl4 l) (pe4 l) = 0 ∧ bchk (pblk l) = 0) ↔ pOk l := by
  by_cases hlen : 46 ≤ l.length
  · obtain ⟨b1, b2, b3, b5, b6⟩ := p_long hlen
    obtain ⟨hc, hc4⟩ := p_count hr hlen
    have hpar : ppar l = (l.drop 2).take 32 := by
      unfold ppar
      rw [b2, if_neg]
      intro h
      have := congrArg List.length h
      rw [List.length_take, List.length_drop, List.length_nil] at this
      omega
    have hblk : endE (pl4 l) (pe4 l) = 0 → pblk l = pB l := fun h => by unfold pblk pB; rw [hpar, b3, hc4 h]
    have hr2 : Rng (l.take 2) := fun x hx => hr x (List.mem_of_mem_take hx)
    have hr8 : Rng ((l.drop 34).take 8) := fun x hx => hr x (List.mem_of_mem_drop (List.mem_of_mem_take hx))
    have hr4 : Rng ((l.drop 42).take 4) := fun x hx => hr x (List.mem_of_mem_drop (List.mem_of_mem_take hx))
    have l8 : ((l.drop 34).take 8).length = 8 := by rw [List.length_take, List.length_drop]; omega
    have l4 : ((l.drop 42).take 4).length = 4 := by rw [List.length_take, List.length_drop]; omega
    have l2 : (l.take 2).length = 2 := by rw [List.length_take]; omega
    have hsp := split5 l
    have hv8 := val_bd _ hr8
    rw [l8] at hv8
    have e8 : (256 : Int) ^ 8 = 18446744073709551616 := by decide
    rw [e8] at hv8
    constructor
    · rintro ⟨hz, he, hk⟩
      rw [hblk he] at hk
      refine ⟨hlen, hk, ?_⟩
      obtain ⟨hcn, hcm⟩ := hc.1 he
      have hh := bchk_pos hk
      have hw : wrap64 (val ((l.drop 34).take 8)) = val ((l.drop 34).take 8) := by
        have hh' : 0 ≤ wrap64 (val ((l.drop 34).take 8)) := hh
        unfold wrap64 at hh' ⊢
        omega
      have hz2 : l.take 2 = [0, 0] := by
        refine val_inj hr2 (fun x hx => by simp at hx; omega) l2 ?_
        rw [← b1, hz]; rfl
      have h4 : be 4 (l.drop 46).length = (l.drop 42).take 4 := by
        rw [List.length_drop, show ((l.length - 46 : Nat) : Int) = val ((l.drop 42).take 4) by omega]
        exact be_val' hr4 l4
      unfold bbytes
      show [0, 0] ++ (l.drop 2).take 32 ++ be 8 (wrap64 (val ((l.drop 34).take 8))) ++ be 4 (l.drop 46).length ++ l.drop 46 = l
      rw [hw, be_val' hr8 l8, h4, ← hz2]
      exact hsp.symm
    · rintro ⟨_, hk, hb⟩
      have hlen2 := bchk_len hk
      have hlen3 : l.length - 46 ≤ 200 := by have h : (l.drop 46).length ≤ 200 := hlen2; rw [List.length_drop] at h; exact h
      have hb0 : [0, 0] ++ (l.drop 2).take 32 ++ be 8 (wrap64 (val ((l.drop 34).take 8))) ++ be 4 (l.drop 46).length ++ l.drop 46 = l := hb
      have hb' : [0, 0] ++ ((l.drop 2).take 32 ++ (be 8 (wrap64 (val ((l.drop 34).take 8))) ++ (be 4 (l.drop 46).length ++ l.drop 46))) = l := by
        simpa only [List.append_assoc] using hb0
      have t2 : l.take 2 = [0, 0] := by rw [← hb']; rfl
      have t4 : (l.drop 42).take 4 = be 4 (l.drop 46).length := by
        have hd : l.drop 42 = be 4 (l.drop 46).length ++ l.drop 46 := by
          conv => lhs; rw [← hb']
          have q1 : ([0, 0] ++ ((l.drop 2).take 32 ++ (be 8 (wrap64 (val ((l.drop 34).take 8))) ++ (be 4 (l.drop 46).length ++ l.drop 46)))).drop 42 = (([0, 0] ++ ((l.drop 2).take 32 ++ be 8 (wrap64 (val ((l.drop 34).take 8))))) ++ (be 4 (l.drop 46).length ++ l.drop 46)).drop 42 := by simp only [List.append_assoc]
          rw [q1]
          exact List.drop_left' (by simp [be_length]; omega)
        rw [hd, List.take_left' (be_length _ _)]
      have hcn : val ((l.drop 42).take 4) = (l.length : Int) - 46 := by
        rw [t4, val_be 4 _ (by omega), List.length_drop, show (256 : Int) ^ 4 = 4294967296 by decide]
        omega
      have he : endE (pl4 l) (pe4 l) = 0 := hc.2 ⟨hcn, by omega⟩
      exact ⟨by rw [b1, t2]; rfl, he, by rw [hblk he]; exact hk⟩
  · constructor
    · rintro ⟨_, he, _⟩
      exact absurd (endE_zero.1 he).1 (pe4_short (by omega))
    · rintro ⟨h, _⟩
      exact absurd h hlen
theorem pblk_eq {l : List Int} (hr : Rng l) (h : pOk l) : pblk l = pB l := by
  obtain ⟨_, he, _⟩ := (pE_iff hr).2 h
  obtain ⟨_, b2, b3, _, _⟩ := p_long h.1
  obtain ⟨_, hc4⟩ := p_count hr h.1
  unfold pblk pB ppar
  rw [b2, b3, hc4 he, if_neg]
  intro h'
  have := congrArg List.length h'
  rw [List.length_take, List.length_drop, List.length_nil] at this
  have := h.1
  omega
end Go.Proofs.YtoognhbdgdfkoaaDoor
