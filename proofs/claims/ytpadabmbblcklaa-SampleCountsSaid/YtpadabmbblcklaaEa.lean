/-
  Units of stake, on plain lists: which unit is the one with a number among those that are left. Nothing of the program stands here.
-/
namespace Go.Proofs.Ytpadabmbblcklaa

/-- how many of l are at most x -/
def cnt (l : List Int) (x : Int) : Nat := l.countP (fun y => decide (y ≤ x))
theorem cnt_nil (x : Int) : cnt [] x = 0 := rfl
theorem cnt_cons (y : Int) (l : List Int) (x : Int) : cnt (y :: l) x = cnt l x + (if y ≤ x then 1 else 0) := by
  unfold cnt
  rw [List.countP_cons]
  by_cases h : y ≤ x <;> simp [h]
theorem cnt_append (a b : List Int) (x : Int) : cnt (a ++ b) x = cnt a x + cnt b x := by simp [cnt]
theorem cnt_perm {a b : List Int} (h : a.Perm b) (x : Int) : cnt a x = cnt b x := h.countP_eq _
theorem cnt_le (l : List Int) (x : Int) : cnt l x ≤ l.length := List.countP_le_length
theorem cnt_none {l : List Int} {x : Int} (h : ∀ y ∈ l, x < y) : cnt l x = 0 := by
  unfold cnt
  rw [List.countP_eq_zero]
  intro y hy
  have := h y hy
  simp; omega
theorem cnt_all {l : List Int} {x : Int} (h : ∀ y ∈ l, y ≤ x) : cnt l x = l.length := by
  unfold cnt
  rw [List.countP_eq_length]
  intro y hy
  simpa using h y hy
/-- one more: its own one more, if it is there -/
theorem cnt_step {l : List Int} (h : l.Nodup) (x : Int) : cnt l x = cnt l (x - 1) + (if x ∈ l then 1 else 0) := by
  induction l with
  | nil => rfl
  | cons y r ih =>
    rw [List.nodup_cons] at h
    rw [cnt_cons, cnt_cons, ih h.2]
    by_cases hxy : x = y
    · subst hxy
      rw [if_neg h.1, if_pos (Int.le_refl _), if_neg (by omega : ¬ x ≤ x - 1), if_pos (by simp)]
    · have e : (x ∈ y :: r) = (x ∈ r) := by simp [hxy]
      simp only [e]
      split <;> split <;> split <;> omega
/-- of n numbers in a row no more than n are there -/
theorem cnt_mono {l : List Int} (h : l.Nodup) (x : Int) (n : Nat) : cnt l x ≤ cnt l (x + n) ∧ cnt l (x + n) ≤ cnt l x + n := by
  induction n with
  | zero => simp
  | succ n ih =>
    have := cnt_step h (x + (n + 1 : Nat))
    rw [show x + ((n + 1 : Nat) : Int) - 1 = x + n by omega] at this
    split at this <;> omega
theorem cnt_gap {l : List Int} (h : l.Nodup) {x y : Int} (hxy : x ≤ y) : cnt l x ≤ cnt l y ∧ (cnt l y : Int) ≤ cnt l x + (y - x) := by
  have := cnt_mono h x (y - x).toNat
  rw [show x + ((y - x).toNat : Int) = y by omega] at this
  omega
/-- u is the one with number n among those that l has not -/
def Nth (l : List Int) (n u : Int) : Prop := u ∉ l ∧ u - cnt l u = n
theorem Nth.perm {a b : List Int} (h : a.Perm b) {n u : Int} (hn : Nth a n u) : Nth b n u := ⟨fun hu => hn.1 (h.mem_iff.2 hu), by rw [← cnt_perm h]; exact hn.2⟩
/-- below it there are fewer -/
theorem Nth.less {l : List Int} (hd : l.Nodup) {n u : Int} (h : Nth l n u) {x : Int} (hx : x < u) : x - cnt l x < n := by
  have h1 := cnt_step hd u
  rw [if_neg h.1] at h1
  have h2 := cnt_gap hd (x := x) (y := u - 1) (by omega)
  have := h.2
  omega
theorem Nth.one {l : List Int} (hd : l.Nodup) {n u v : Int} (h : Nth l n u) (h' : Nth l n v) : u = v := by
  rcases Int.lt_trichotomy u v with hl | hl | hl
  · have := h'.less hd hl; have := h.2; omega
  · exact hl
  · have := h.less hd hl; have := h'.2; omega
/-- a unit that is not there has a number -/
theorem Nth.num {l : List Int} (hd : l.Nodup) {t u : Int} (hr : ∀ y ∈ l, 0 ≤ y ∧ y < t) (hu : u ∉ l) (h0 : 0 ≤ u) (ht : u < t) : 0 ≤ u - cnt l u ∧ u - cnt l u < t - l.length := by
  have h1 := cnt_step hd u
  rw [if_neg hu] at h1
  have h2 := cnt_gap hd (x := -1) (y := u - 1) (by omega)
  rw [cnt_none (x := -1) (fun y hy => by have := (hr y hy).1; omega)] at h2
  have h3 := cnt_gap hd (x := u) (y := t - 1) (by omega)
  rw [cnt_all (x := t - 1) (fun y hy => by have := (hr y hy).2; omega)] at h3
  omega
theorem Nth.range {l : List Int} {t n u : Int} (h : Nth l n u) (hn : n < t - l.length) : n ≤ u ∧ u < t := by
  have h2 := h.2
  have h1 := cnt_le l u
  refine ⟨by omega, ?_⟩
  omega

/-- the unit with number n beside rising ones, and its place -/
def pick : List Int → Int → Int
  | [], n => n
  | d :: r, n => if d ≤ n then pick r (n + 1) else n
def place : List Int → Int → Nat
  | [], _ => 0
  | d :: r, n => if d ≤ n then place r (n + 1) + 1 else 0
theorem pick_cons (d : Int) (r : List Int) (n : Int) : pick (d :: r) n = if d ≤ n then pick r (n + 1) else n := rfl
theorem place_cons (d : Int) (r : List Int) (n : Int) : place (d :: r) n = if d ≤ n then place r (n + 1) + 1 else 0 := rfl
theorem pick_place (l : List Int) : ∀ n, pick l n = n + place l n := by
  induction l with
  | nil => intro n; simp [pick, place]
  | cons d r ih => intro n; unfold pick place; split <;> simp [ih] <;> omega
theorem place_le (l : List Int) : ∀ n, place l n ≤ l.length := by
  induction l with
  | nil => intro n; simp [place]
  | cons d r ih => intro n; unfold place; have := ih (n + 1); split <;> simp <;> omega
theorem place_pre (l : List Int) (k : Nat) (y : Int) : ∀ n, l[k]? = some y → k < place l n → y ≤ n + k := by
  induction l generalizing k with
  | nil => intro n h; cases h
  | cons d r ih =>
    intro n h hk
    unfold place at hk
    split at hk
    · cases k with
      | zero => cases h; omega
      | succ k => have := ih k (n + 1) h (by omega); omega
    · omega
theorem place_at (l : List Int) (y : Int) : ∀ n, l[place l n]? = some y → n + place l n < y := by
  induction l with
  | nil => intro n h; cases h
  | cons d r ih =>
    intro n h
    unfold place at h ⊢
    split at h
    · rename_i hd
      rw [if_pos hd]
      have := ih (n + 1) h
      omega
    · rename_i hd
      rw [if_neg hd]
      cases h
      omega
/-- how far a walk has come: the first k are at most what it has -/
theorem place_of {l : List Int} {n : Int} {k : Nat} (h : ∀ j y, j < k → l[j]? = some y → y ≤ n + j) (hk : k ≤ l.length) (hs : ∀ y, l[k]? = some y → n + k < y) : place l n = k := by
  induction l generalizing n k with
  | nil => simp at hk; subst hk; rfl
  | cons d r ih =>
    unfold place
    cases k with
    | zero => have := hs d rfl; rw [if_neg (by omega)]
    | succ k =>
      have := h 0 d (by omega) rfl
      rw [if_pos (by simpa using this)]
      have := ih (n := n + 1) (k := k) (fun j y hj hy => by have := h (j + 1) y (by omega) hy; omega) (by simpa using hk) (fun y hy => by have := hs y hy; omega)
      omega
theorem rising_gt {d : Int} {r : List Int} (h : (d :: r).Pairwise (· < ·)) : ∀ y ∈ r, d < y := (List.pairwise_cons.1 h).1
theorem rising_nodup {l : List Int} (h : l.Pairwise (· < ·)) : l.Nodup := h.imp (fun h => by omega)
theorem pick_ge (l : List Int) : ∀ n, n ≤ pick l n := fun n => by rw [pick_place]; omega
theorem pick_nth {l : List Int} (h : l.Pairwise (· < ·)) : ∀ n, Nth l n (pick l n) := by
  induction l with
  | nil => intro n; exact ⟨by simp, by simp [pick, cnt]⟩
  | cons d r ih =>
    intro n
    unfold pick
    split
    · rename_i hd
      have i := ih (List.pairwise_cons.1 h).2 (n + 1)
      have g := pick_ge r (n + 1)
      refine ⟨?_, ?_⟩
      · rw [List.mem_cons]
        rintro (e | e)
        · omega
        · exact i.1 e
      · rw [cnt_cons, if_pos (by omega)]
        have := i.2
        omega
    · rename_i hd
      have g := rising_gt h
      refine ⟨?_, ?_⟩
      · rw [List.mem_cons]
        rintro (e | e)
        · omega
        · have := g _ e; omega
      · rw [cnt_none (fun y hy => by
          rcases List.mem_cons.1 hy with rfl | hy
          · omega
          · have := g _ hy; omega)]
        simp
/-- the rising ones with it -/
def ins (l : List Int) (n : Int) : List Int := l.take (place l n) ++ pick l n :: l.drop (place l n)
theorem ins_perm (l : List Int) (n : Int) : (ins l n).Perm (pick l n :: l) := by
  unfold ins
  have := List.perm_middle (a := pick l n) (l₁ := l.take (place l n)) (l₂ := l.drop (place l n))
  rwa [List.take_append_drop] at this
theorem ins_rising {l : List Int} (h : l.Pairwise (· < ·)) (n : Int) : (ins l n).Pairwise (· < ·) := by
  induction l generalizing n with
  | nil => simp [ins, place, pick]
  | cons d r ih =>
    have hc := List.pairwise_cons.1 h
    by_cases hd : d ≤ n
    · have e : ins (d :: r) n = d :: ins r (n + 1) := by
        unfold ins
        rw [place_cons, pick_cons]
        simp [hd]
      rw [e, List.pairwise_cons]
      refine ⟨fun y hy => ?_, ih hc.2 (n + 1)⟩
      rcases List.mem_cons.1 ((ins_perm r (n + 1)).mem_iff.1 hy) with rfl | hy
      · have := pick_ge r (n + 1); omega
      · exact hc.1 y hy
    · have e : ins (d :: r) n = n :: d :: r := by
        unfold ins
        rw [place_cons, pick_cons]
        simp [hd]
      rw [e, List.pairwise_cons]
      refine ⟨fun y hy => ?_, h⟩
      rcases List.mem_cons.1 hy with rfl | hy
      · omega
      · have := hc.1 y hy; omega

/-- a draw's number, of those that are left -/
def numA (t : Int) (ds : List Int) (j : Nat) : Int := (ds[j]?.getD 0) % (t - j)
/-- the first j units, as they are drawn, and rising -/
def drawnP (t : Int) (f : Nat → Int) : Nat → List Int × List Int
  | 0 => ([], [])
  | j + 1 => ((drawnP t f j).1 ++ [pick (drawnP t f j).2 (f j)], ins (drawnP t f j).2 (f j))
/-- the first j units -/
def unitsL (t : Int) (f : Nat → Int) (j : Nat) : List Int := (drawnP t f j).1
def riseL (t : Int) (f : Nat → Int) (j : Nat) : List Int := (drawnP t f j).2
/-- each number is one of those that are left -/
def NumOk (t : Int) (f : Nat → Int) (k : Nat) : Prop := ∀ j, j < k → 0 ≤ f j ∧ f j < t - j
structure DrawnOk (t : Int) (f : Nat → Int) (j : Nat) : Prop where
  len : (unitsL t f j).length = j
  perm : (unitsL t f j).Perm (riseL t f j)
  rise : (riseL t f j).Pairwise (· < ·)
  rng : ∀ y ∈ unitsL t f j, 0 ≤ y ∧ y < t
theorem DrawnOk.nodup {t : Int} {f : Nat → Int} {j : Nat} (h : DrawnOk t f j) : (unitsL t f j).Nodup := h.perm.nodup_iff.2 (rising_nodup h.rise)
theorem DrawnOk.rlen {t : Int} {f : Nat → Int} {j : Nat} (h : DrawnOk t f j) : (riseL t f j).length = j := by rw [← h.perm.length_eq]; exact h.len
theorem unitsL_succ (t : Int) (f : Nat → Int) (j : Nat) : unitsL t f (j + 1) = unitsL t f j ++ [pick (riseL t f j) (f j)] := rfl
theorem riseL_succ (t : Int) (f : Nat → Int) (j : Nat) : riseL t f (j + 1) = ins (riseL t f j) (f j) := rfl
theorem DrawnOk.nth {t : Int} {f : Nat → Int} {j : Nat} (h : DrawnOk t f j) : Nth (unitsL t f j) (f j) (pick (riseL t f j) (f j)) := (pick_nth h.rise (f j)).perm h.perm.symm
theorem drawn_ok {t : Int} {f : Nat → Int} {k : Nat} (h : NumOk t f k) : ∀ j, j ≤ k → DrawnOk t f j := by
  intro j
  induction j with
  | zero => intro _; exact ⟨rfl, List.Perm.refl _, List.Pairwise.nil, by intro y hy; cases hy⟩
  | succ j ih =>
    intro hj
    have i := ih (by omega)
    have hn := h j (by omega)
    have hr := i.nth.range (t := t) (by rw [i.len]; exact hn.2)
    refine ⟨by rw [unitsL_succ, List.length_append, i.len]; rfl, ?_, ins_rising i.rise _, ?_⟩
    · rw [unitsL_succ, riseL_succ]
      exact (List.perm_append_comm.trans ((List.Perm.cons _ i.perm))).trans (ins_perm _ _).symm
    · intro y hy
      rw [unitsL_succ, List.mem_append] at hy
      rcases hy with hy | hy
      · exact i.rng y hy
      · rw [List.mem_singleton] at hy
        subst hy
        exact ⟨by omega, hr.2⟩
/-- a beginning of the units -/
theorem unitsL_pre (t : Int) (f : Nat → Int) (j : Nat) : ∀ k, j ≤ k → unitsL t f j <+: unitsL t f k := by
  intro k
  induction k with
  | zero => intro h; exact (show j = 0 by omega) ▸ List.prefix_refl _
  | succ k ih =>
    intro h
    rcases Nat.lt_or_ge k j with h' | h'
    · exact (show j = k + 1 by omega) ▸ List.prefix_refl _
    · exact (ih h').trans (by rw [unitsL_succ]; exact List.prefix_append _ _)
theorem unitsL_same {t : Int} {f g : Nat → Int} {k : Nat} (h : ∀ j, j < k → f j = g j) : drawnP t f k = drawnP t g k := by
  induction k with
  | zero => rfl
  | succ k ih => unfold drawnP; rw [ih (fun j hj => h j (by omega)), h k (by omega)]
theorem numA_ok {t : Int} {ds : List Int} {k : Nat} (hk : (k : Int) ≤ t) : NumOk t (numA t ds) k := by
  intro j hj
  unfold numA
  exact ⟨Int.emod_nonneg _ (by omega), Int.emod_lt_of_pos _ (by omega)⟩
/-- what Units says: the units, and the error -/
def unitsU (t k : Int) (ds : List Int) : List Int × Int :=
  if t < 0 ∨ 4611686018427387903 < t ∨ k < 0 ∨ 64 < k then ([], 1) else if t < k then ([], 60) else (unitsL t (numA t ds) k.toNat, 0)
end Go.Proofs.Ytpadabmbblcklaa
