/-
  Messages: what the program's reader makes of any bytes, on lists; there and back.
-/
import Derived.Test.YtleapcbkkggecaaMw
import Derived.Test.YtleapcbkkggecaaUc
import Derived.Test.YtleapcbkkggecaaVb
namespace Go.Proofs.Ytleapcbkkggecaa
open Go.RowKit

/-- what is left, and the first error -/
abbrev RS := List Int × Int
def tkS (s : RS) (n : Int) : RS := (takeL s.1 s.2 n, takeE s.1 s.2 n)
def cnS (s : RS) : RS := (cntL s.1 s.2 4 246, cntE s.1 s.2 4 246)
def idOr (x : List Int) : List Int := if x.length = 32 then x else List.replicate 32 0
def takeN : Nat → RS → List (List Int) × RS
  | 0, s => ([], s)
  | n + 1, s => ((takeN n s).1 ++ [idOr (takeR (takeN n s).2.1 (takeN n s).2.2 32)], tkS (takeN n s).2 32)
def takeB : Nat → RS → List (List Int) × RS
  | 0, s => ([], s)
  | n + 1, s => ((takeB n s).1 ++ [cntR (takeB n s).2.1 (takeB n s).2.2 4 246], cnS (takeB n s).2)
def cntS (a b : Nat) (s : RS) : Nat × RS := if a = b then (a, s) else ((min (val (takeR s.1 s.2 4)) ((b : Int) + 1)).toNat, tkS s 4)
def pS1 (b : List Int) : RS := tkS (b, 0) 1
def pS2 (b : List Int) : RS := tkS (pS1 b) 4
def pK (b : List Int) : Int := val (takeR b 0 1)
def pR (b : List Int) : Int := val (takeR (pS1 b).1 (pS1 b).2 4)
def ldIds (l : Ld) (s : RS) : List (List Int) := match l with
  | .nm a c => (takeN (cntS a c s).1 (cntS a c s).2).1
  | _ => []
def ldRows (l : Ld) (s : RS) : List (List Int) := match l with
  | .bl a c => (takeB (cntS a c s).1 (cntS a c s).2).1
  | _ => []
def ldEnd (l : Ld) (s : RS) : RS := match l with
  | .no => s
  | .nm a c => (takeN (cntS a c s).1 (cntS a c s).2).2
  | .bl a c => (takeB (cntS a c s).1 (cntS a c s).2).2
def pM (b : List Int) : Ms := ⟨pK b, pR b, ldIds (ldOf (pK b)) (pS2 b), ldRows (ldOf (pK b)) (pS2 b)⟩
def pEnd (b : List Int) : RS := ldEnd (ldOf (pK b)) (pS2 b)
def ms0 : Ms := ⟨0, 0, [], []⟩
def pGood (b : List Int) : Prop := endE (pEnd b).1 (pEnd b).2 = 0 ∧ okM (pM b) = true
instance (b : List Int) : Decidable (pGood b) := inferInstanceAs (Decidable (_ ∧ _))
def prs (b : List Int) : Ms × Int := if pGood b then (pM b, 0) else (ms0, 40)

theorem takeN_len (n : Nat) (s : RS) : (takeN n s).1.length = n := by
  induction n with
  | zero => rfl
  | succ n ih => simp [takeN, ih]
theorem takeB_len (n : Nat) (s : RS) : (takeB n s).1.length = n := by
  induction n with
  | zero => rfl
  | succ n ih => simp [takeB, ih]
theorem takeN_rng {s : RS} (h : Rng s.1) (n : Nat) : (∀ x ∈ (takeN n s).1, x.length = 32 ∧ Rng x) ∧ Rng (takeN n s).2.1 := by
  induction n with
  | zero => exact ⟨fun x hx => (by cases hx), h⟩
  | succ n ih =>
    refine ⟨fun x hx => ?_, takeL_rng ih.2 _ _⟩
    rcases List.mem_append.1 hx with h1 | h1
    · exact ih.1 x h1
    · rw [List.mem_singleton.1 h1]
      unfold idOr
      split
      · rename_i h2; exact ⟨h2, takeR_rng ih.2 _ _⟩
      · exact ⟨by simp, fun y hy => by rw [(List.mem_replicate.1 hy).2]; omega⟩
theorem takeB_rng {s : RS} (h : Rng s.1) (n : Nat) : (∀ x ∈ (takeB n s).1, Rng x) ∧ Rng (takeB n s).2.1 := by
  induction n with
  | zero => exact ⟨fun x hx => (by cases hx), h⟩
  | succ n ih =>
    refine ⟨fun x hx => ?_, cntL_rng ih.2 _ _ _⟩
    rcases List.mem_append.1 hx with h1 | h1
    · exact ih.1 x h1
    · rw [List.mem_singleton.1 h1]; exact cntR_rng ih.2 _ _ _
theorem cntS_rng {s : RS} (h : Rng s.1) (a b : Nat) : Rng (cntS a b s).2.1 := by
  unfold cntS; split
  · exact h
  · exact takeL_rng h _ _
theorem pS2_rng {b : List Int} (h : Rng b) : Rng (pS2 b).1 := takeL_rng (takeL_rng h _ _) _ _
theorem val_take_bd {l : List Int} (h : Rng l) (e n : Int) (hn : n ≤ 4) : 0 ≤ val (takeR l e n) ∧ val (takeR l e n) ≤ 4294967295 := by
  have h1 := val_bd _ (takeR_rng h e n)
  have h2 := takeR_len l e n
  have h3 : (256 : Int) ^ (takeR l e n).length ≤ 256 ^ 4 := pow_le_le _ _ (by omega)
  have h4 : (256 : Int) ^ 4 = 4294967296 := by decide
  omega
theorem pM_wf {b : List Int} (h : Rng b) : (pM b).wf := by
  have h1 := val_take_bd h 0 1 (by omega)
  have h2 := val_take_bd (takeL_rng h 0 1) (takeE b 0 1) 4 (by omega)
  refine ⟨?_, ?_, ?_, ?_, ?_, ?_⟩
  · have : (pM b).k = val (takeR b 0 1) := rfl
    omega
  · have : (pM b).k = val (takeR b 0 1) := rfl
    omega
  · have : (pM b).r = val (takeR (takeL b 0 1) (takeE b 0 1) 4) := rfl
    omega
  · have : (pM b).r = val (takeR (takeL b 0 1) (takeE b 0 1) 4) := rfl
    omega
  · show ∀ x ∈ ldIds _ _, _
    unfold ldIds
    split
    · exact (takeN_rng (cntS_rng (pS2_rng h) _ _) _).1
    · intro x hx; cases hx
  · show ∀ x ∈ ldRows _ _, _
    unfold ldRows
    split
    · exact (takeB_rng (cntS_rng (pS2_rng h) _ _) _).1
    · intro x hx; cases hx

/-! ### what was read stands there -/
theorem tk_ok {l : List Int} {e : Int} {n : Nat} (h : takeE l e n = 0) : e = 0 ∧ l = takeR l e n ++ takeL l e n ∧ (takeR l e n).length = n := by
  have h0 := h
  unfold takeE at h
  split at h
  · rename_i he; exact absurd h he
  · split at h
    · cases h
    · split at h
      · cases h
      · rename_i h1 h2 h3
        refine ⟨by omega, ?_, ?_⟩
        · unfold takeR takeL; rw [if_pos h0, if_pos h0]; simp
        · unfold takeR; rw [if_pos h0, List.length_take]; simp; omega
theorem cnt_ok {l : List Int} {e : Int} (hr : Rng l) (h : cntE l e 4 246 = 0) : e = 0 ∧ l = rowB (cntR l e 4 246) ++ cntL l e 4 246 := by
  have h0 := h
  unfold cntE at h
  split at h
  · rename_i he; exact absurd h he
  · unfold countE at h
    rw [if_neg (by omega)] at h
    split at h
    · cases h
    · split at h
      · cases h
      · split at h
        · cases h
        · rename_i h1 h2 h3 h4
          have hv := hd_bd l hr 4 (by omega)
          refine ⟨by omega, ?_⟩
          unfold cntR cntL rowB
          rw [if_pos h0, if_pos h0]
          have e1 : ((l.drop 4).take (val (l.take 4)).toNat).length = (val (l.take 4)).toNat := by
            rw [List.length_take, List.length_drop]; omega
          rw [e1, show (((val (l.take 4)).toNat : Nat) : Int) = val (l.take 4) by omega, be_val' (fun x hx => hr x (List.mem_of_mem_take hx)) (by rw [List.length_take]; omega), List.append_assoc, List.take_append_drop, List.take_append_drop]
theorem takeN_ok (n : Nat) (s : RS) (h : (takeN n s).2.2 = 0) : s.2 = 0 ∧ s.1 = (takeN n s).1.flatten ++ (takeN n s).2.1 := by
  induction n with
  | zero => exact ⟨h, rfl⟩
  | succ n ih =>
    obtain ⟨h1, h2, h3⟩ := tk_ok (n := 32) (show takeE (takeN n s).2.1 (takeN n s).2.2 (32 : Nat) = 0 from h)
    obtain ⟨g1, g2⟩ := ih h1
    refine ⟨g1, ?_⟩
    rw [g2]
    simp only [takeN, List.flatten_append, List.flatten_cons, List.flatten_nil, List.append_nil, List.append_assoc]
    congr 1
    unfold idOr
    rw [if_pos (show (takeR (takeN n s).2.1 (takeN n s).2.2 32).length = 32 from h3)]
    exact h2
theorem takeB_ok (n : Nat) (s : RS) (hr : Rng s.1) (h : (takeB n s).2.2 = 0) : s.2 = 0 ∧ s.1 = ((takeB n s).1.map rowB).flatten ++ (takeB n s).2.1 := by
  induction n with
  | zero => exact ⟨h, rfl⟩
  | succ n ih =>
    obtain ⟨h1, h2⟩ := cnt_ok (takeB_rng hr n).2 (show cntE (takeB n s).2.1 (takeB n s).2.2 4 246 = 0 from h)
    obtain ⟨g1, g2⟩ := ih h1
    refine ⟨g1, ?_⟩
    rw [g2]
    simp only [takeB, List.map_append, List.map_cons, List.map_nil, List.flatten_append, List.flatten_cons, List.flatten_nil, List.append_nil, List.append_assoc]
    congr 1
theorem cntS_ok {a b : Nat} {s : RS} (hr : Rng s.1) (h : (cntS a b s).2.2 = 0) (hb : (cntS a b s).1 ≤ b) : s.2 = 0 ∧ s.1 = (cntRow a b (cntS a b s).1).flatten ++ (cntS a b s).2.1 := by
  unfold cntS at h hb ⊢
  by_cases hab : a = b
  · rw [if_pos hab] at h hb ⊢
    exact ⟨h, by simp [cntRow, hab]⟩
  · rw [if_neg hab] at h hb ⊢
    obtain ⟨h1, h2, h3⟩ := tk_ok (n := 4) (show takeE s.1 s.2 (4 : Nat) = 0 from h)
    have hv := val_take_bd hr s.2 4 (by omega)
    refine ⟨h1, ?_⟩
    have hb' : (min (val (takeR s.1 s.2 4)) ((b : Int) + 1)).toNat ≤ b := hb
    have e1 : (((min (val (takeR s.1 s.2 4)) ((b : Int) + 1)).toNat : Nat) : Int) = val (takeR s.1 s.2 4) := by
      have hv1 : 0 ≤ val (takeR s.1 s.2 4) := hv.1
      omega
    have e2 : be 4 (val (takeR s.1 s.2 4)) = takeR s.1 s.2 4 := be_val' (takeR_rng hr _ _) h3
    simp only [cntRow, ne_eq, hab, not_false_eq_true, if_true, List.flatten_cons, List.flatten_nil, List.append_nil]
    rw [e1, e2]
    exact h2
theorem pGood_form {b : List Int} (hr : Rng b) (h : pGood b) : form (pM b) = b := by
  obtain ⟨hend, hok⟩ := h
  have he : (pEnd b).2 = 0 ∧ (pEnd b).1 = [] := by
    unfold endE at hend
    split at hend
    · rename_i h1; exact absurd hend h1
    · split at hend
      · cases hend
      · rename_i h1 h2
        exact ⟨by omega, List.eq_nil_of_length_eq_zero (by omega)⟩
  obtain ⟨_, _, hf⟩ := okM_parts hok
  have hk : (pM b).k = pK b := rfl
  have hbd := ldOf_bd (pK b)
  have hrest : (pS2 b).2 = 0 ∧ (pS2 b).1 = (pM b).rows.flatten := by
    unfold Ms.rows
    rw [hk] at hf ⊢
    unfold pEnd at he
    have hi : (pM b).ids = ldIds (ldOf (pK b)) (pS2 b) := rfl
    have hB : (pM b).bl = ldRows (ldOf (pK b)) (pS2 b) := rfl
    cases hl : ldOf (pK b) with
    | no => rw [hl] at hf; cases hf
    | nm a c =>
      rw [hl] at hf he hi hB
      obtain ⟨_, h2, _⟩ := fits_nm hf
      obtain ⟨g1, g2⟩ := takeN_ok _ _ (show (takeN (cntS a c (pS2 b)).1 (cntS a c (pS2 b)).2).2.2 = 0 from he.1)
      have hn : (pM b).ids.length = (cntS a c (pS2 b)).1 := by rw [hi]; exact takeN_len _ _
      obtain ⟨g3, g4⟩ := cntS_ok (pS2_rng hr) g1 (by omega)
      refine ⟨g3, ?_⟩
      have e0 : (takeN (cntS a c (pS2 b)).1 (cntS a c (pS2 b)).2).2.1 = [] := he.2
      rw [e0, List.append_nil] at g2
      rw [g4, g2, hn, hi, List.flatten_append]
      rfl
    | bl a c =>
      rw [hl] at hf he hi hB
      obtain ⟨_, h2, _⟩ := fits_bl hf
      obtain ⟨g1, g2⟩ := takeB_ok _ _ (cntS_rng (pS2_rng hr) a c) (show (takeB (cntS a c (pS2 b)).1 (cntS a c (pS2 b)).2).2.2 = 0 from he.1)
      have hn : (pM b).bl.length = (cntS a c (pS2 b)).1 := by rw [hB]; exact takeB_len _ _
      obtain ⟨g3, g4⟩ := cntS_ok (pS2_rng hr) g1 (by omega)
      refine ⟨g3, ?_⟩
      have e0 : (takeB (cntS a c (pS2 b)).1 (cntS a c (pS2 b)).2).2.1 = [] := he.2
      rw [e0, List.append_nil] at g2
      rw [g4, g2, hn, hB, List.flatten_append]
      rfl
  obtain ⟨h1, h2, h3⟩ := tk_ok (n := 4) (show takeE (pS1 b).1 (pS1 b).2 (4 : Nat) = 0 from hrest.1)
  obtain ⟨_, h5, h6⟩ := tk_ok (n := 1) (show takeE b 0 (1 : Nat) = 0 from h1)
  unfold form
  have e1 : be 1 (pM b).k = takeR b 0 1 := be_val' (takeR_rng hr _ _) h6
  have e4 : be 4 (pM b).r = takeR (pS1 b).1 (pS1 b).2 4 := be_val' (takeR_rng (takeL_rng hr _ _) _ _) h3
  rw [e1, e4, ← hrest.2, List.append_assoc]
  refine Eq.trans ?_ h5.symm
  congr 1
  exact h2.symm

/-! ### what a message's bytes are read as -/
theorem tk_app {x rest : List Int} {n : Nat} (h : x.length = n) : takeR (x ++ rest) 0 n = x ∧ tkS (x ++ rest, 0) n = (rest, 0) := by
  subst h
  obtain ⟨h1, h2, h3⟩ := take_app x rest
  exact ⟨h2, by simp [tkS, h1, h3]⟩
theorem cn_app {x rest : List Int} (h : x.length ≤ 246) : cntR (rowB x ++ rest) 0 4 246 = x ∧ cnS (rowB x ++ rest, 0) = (rest, 0) := by
  have e1 : (rowB x ++ rest).take 4 = be 4 (x.length : Int) := by
    rw [rowB, List.append_assoc, List.take_append_of_le_length (by rw [be_length]; omega), List.take_of_length_le (by rw [be_length]; omega)]
  have e2 : (rowB x ++ rest).drop 4 = x ++ rest := by
    rw [rowB, List.append_assoc, List.drop_append_of_le_length (by rw [be_length]; omega), List.drop_of_length_le (by rw [be_length]; omega), List.nil_append]
  have e3 : val (be 4 (x.length : Int)) = x.length := by
    rw [val_be _ _ (by omega)]
    have : (256 : Int) ^ 4 = 4294967296 := by decide
    omega
  have hE : cntE (rowB x ++ rest) 0 4 246 = 0 := by
    unfold cntE countE
    rw [if_neg (by simp), if_neg (by omega), e1, e3, if_neg (by simp [rowB, be_length]), if_neg (by omega), if_neg (by simp [rowB, be_length]; omega)]
  constructor
  · unfold cntR
    rw [if_pos hE, e1, e2, e3, Int.toNat_natCast, List.take_append_of_le_length (by omega), List.take_of_length_le (by omega)]
  · unfold cnS
    show (cntL (rowB x ++ rest) 0 4 246, cntE (rowB x ++ rest) 0 4 246) = _
    rw [hE]
    unfold cntL
    rw [if_pos hE, e1, e2, e3, Int.toNat_natCast, List.drop_append_of_le_length (by omega), List.drop_of_length_le (by omega), List.nil_append]
theorem takeN_app (ids : List (List Int)) (t : List Int) (hl : ∀ x ∈ ids, x.length = 32) : ∀ k, k ≤ ids.length → takeN k (ids.flatten ++ t, 0) = (ids.take k, ((ids.drop k).flatten ++ t, 0)) := by
  intro k
  induction k with
  | zero => intro _; simp [takeN]
  | succ k ih =>
    intro hk
    have e := ih (by omega)
    have ed : ids.drop k = ids[k] :: ids.drop (k + 1) := by rw [List.drop_eq_getElem_cons (by omega)]
    have h32 := hl ids[k] (List.getElem_mem (by omega))
    obtain ⟨g1, g2⟩ := tk_app (x := ids[k]) (rest := (ids.drop (k + 1)).flatten ++ t) h32
    rw [takeN, e]
    simp only []
    rw [ed, List.flatten_cons, List.append_assoc, List.take_succ_eq_append_getElem (by omega)]
    show (_ ++ [idOr (takeR (ids[k] ++ _) 0 (32 : Nat))], tkS _ (32 : Nat)) = _
    rw [g1, g2]
    unfold idOr
    rw [if_pos h32]
theorem takeB_app (bl : List (List Int)) (t : List Int) (hl : ∀ x ∈ bl, x.length ≤ 246) : ∀ k, k ≤ bl.length → takeB k ((bl.map rowB).flatten ++ t, 0) = (bl.take k, (((bl.drop k).map rowB).flatten ++ t, 0)) := by
  intro k
  induction k with
  | zero => intro _; simp [takeB]
  | succ k ih =>
    intro hk
    have e := ih (by omega)
    have ed : bl.drop k = bl[k] :: bl.drop (k + 1) := by rw [List.drop_eq_getElem_cons (by omega)]
    obtain ⟨g1, g2⟩ := cn_app (x := bl[k]) (rest := ((bl.drop (k + 1)).map rowB).flatten ++ t) (hl bl[k] (List.getElem_mem (by omega)))
    rw [takeB, e]
    simp only []
    rw [ed, List.map_cons, List.flatten_cons, List.append_assoc, List.take_succ_eq_append_getElem (by omega), g1, g2]
theorem cntS_app {a b n : Nat} (t : List Int) (h1 : a ≤ n) (h2 : n ≤ b) (hb : b ≤ 1000) : cntS a b ((cntRow a b n).flatten ++ t, 0) = (n, (t, 0)) := by
  unfold cntS cntRow
  by_cases hab : a = b
  · subst hab
    simp
    omega
  · rw [if_neg hab, if_pos hab]
    simp only [List.flatten_cons, List.flatten_nil, List.append_nil]
    obtain ⟨g1, g2⟩ := tk_app (x := be 4 (n : Int)) (rest := t) (n := 4) (be_length _ _)
    have g1' : takeR (be 4 (n : Int) ++ t) 0 4 = be 4 (n : Int) := g1
    have g2' : tkS (be 4 (n : Int) ++ t, 0) 4 = (t, 0) := g2
    rw [g1', g2', val_be _ _ (by omega)]
    have : (256 : Int) ^ 4 = 4294967296 := by decide
    congr 1
    omega
theorem form_pM {m : Ms} (hw : m.wf) (hok : okM m = true) : pGood (form m) ∧ pM (form m) = m := by
  obtain ⟨hr0, hr1, hf⟩ := okM_parts hok
  have hk := kind_bd (k := m.k) (fun e => by rw [e] at hf; cases hf)
  have hbd := ldOf_bd m.k
  have e0 : form m = be 1 m.k ++ (be 4 m.r ++ m.rows.flatten) := by rw [form, List.append_assoc]
  obtain ⟨g1, g2⟩ := tk_app (x := be 1 m.k) (rest := be 4 m.r ++ m.rows.flatten) (n := 1) (be_length _ _)
  obtain ⟨g3, g4⟩ := tk_app (x := be 4 m.r) (rest := m.rows.flatten) (n := 4) (be_length _ _)
  have p1 : (256 : Int) ^ 1 = 256 := by decide
  have p4 : (256 : Int) ^ 4 = 4294967296 := by decide
  have s1 : pS1 (form m) = (be 4 m.r ++ m.rows.flatten, 0) := by unfold pS1; rw [e0]; exact g2
  have s2 : pS2 (form m) = (m.rows.flatten, 0) := by unfold pS2; rw [s1]; exact g4
  have v1 : pK (form m) = m.k := by
    unfold pK
    rw [e0]
    refine (congrArg val g1).trans ?_
    rw [val_be _ _ (by omega)]; omega
  have v2 : pR (form m) = m.r := by
    unfold pR
    rw [s1]
    refine (congrArg val g3).trans ?_
    rw [val_be _ _ (by omega)]; omega
  have hall : ldIds (ldOf m.k) (m.rows.flatten, 0) = m.ids ∧ ldRows (ldOf m.k) (m.rows.flatten, 0) = m.bl ∧ ldEnd (ldOf m.k) (m.rows.flatten, 0) = ([], 0) := by
    unfold Ms.rows
    cases hl : ldOf m.k with
    | no => rw [hl] at hf; cases hf
    | nm a c =>
      rw [hl] at hf
      obtain ⟨h1, h2, h3⟩ := fits_nm hf
      obtain ⟨_, h4⟩ := hbd.1 a c hl
      have hn := takeN_app m.ids [] (fun x hx => (hw.idl x hx).1) m.ids.length (Nat.le_refl _)
      rw [List.append_nil, List.take_length, List.drop_length] at hn
      simp only [ldIds, ldRows, ldEnd, List.flatten_append]
      rw [cntS_app _ h1 h2 (by omega)]
      simp only []
      rw [hn, h3]
      exact ⟨rfl, rfl, rfl⟩
    | bl a c =>
      rw [hl] at hf
      obtain ⟨h1, h2, h3, h5⟩ := fits_bl hf
      obtain ⟨_, h4⟩ := hbd.2 a c hl
      have hn := takeB_app m.bl [] h5 m.bl.length (Nat.le_refl _)
      rw [List.append_nil, List.take_length, List.drop_length] at hn
      simp only [ldIds, ldRows, ldEnd, List.flatten_append]
      rw [cntS_app _ h1 h2 (by omega)]
      simp only []
      rw [hn, h3]
      exact ⟨rfl, rfl, rfl⟩
  have hM : pM (form m) = m := by
    unfold pM
    rw [v1, v2, s2, hall.1, hall.2.1]
  refine ⟨⟨?_, ?_⟩, hM⟩
  · unfold pEnd
    rw [v1, s2, hall.2.2]
    rfl
  · rw [hM]; exact hok

/-- the reader's answer, by what it must be -/
theorem prs_of_good {b : List Int} {m : Ms} (hw : m.wf) (hok : okM m = true) (hf : form m = b) : prs b = (m, 0) := by
  subst hf
  obtain ⟨h1, h2⟩ := form_pM hw hok
  unfold prs
  rw [if_pos h1, h2]
theorem prs_of_none {b : List Int} (hr : Rng b) (h : ∀ m : Ms, m.wf → okM m = true → form m ≠ b) : prs b = (ms0, 40) := by
  unfold prs
  rw [if_neg (fun hg => h (pM b) (pM_wf hr) hg.2 (pGood_form hr hg))]
theorem prs_cases {b : List Int} (hr : Rng b) : (∃ m : Ms, m.wf ∧ okM m = true ∧ form m = b ∧ prs b = (m, 0)) ∨ ((∀ m : Ms, m.wf → okM m = true → form m ≠ b) ∧ prs b = (ms0, 40)) := by
  by_cases hg : pGood b
  · exact .inl ⟨pM b, pM_wf hr, hg.2, pGood_form hr hg, by unfold prs; rw [if_pos hg]⟩
  · refine .inr ⟨fun m hw hok hf => hg ?_, by unfold prs; rw [if_neg hg]⟩
    subst hf
    exact (form_pM hw hok).1
end Go.Proofs.Ytleapcbkkggecaa
