/-
  The stake of some: Sum, the program's and the document's.
-/
import Derived.Test.YtphbckjadebdmaaDz
import Derived.Laws.MakeOwn
namespace Go.Proofs.Ytphbckjadebdmaa
open Go.RowKit

/-- a slice that shows these numbers -/
def SeesN (w : World) (v : Value) (l : List Int) : Prop :=
  ∃ a cap, v = .slice a l.length cap ∧ l.length ≤ cap ∧ cap ≤ maxLen ∧ (a = none → cap = 0) ∧ ∀ i x, l[i]? = some x → ∃ g off, a = some ⟨g, off, none⟩ ∧ w.cell? ⟨g, off + i, none⟩ = some (.int .i64 x)
def NOk (l : List Int) : Prop := ∀ x ∈ l, -9223372036854775808 ≤ x ∧ x ≤ 9223372036854775807
theorem SeesN.kept {w w' : World} {v : Value} {l : List Int} (h : SeesN w v l) (k : Kp (fun _ => False) w w') : SeesN w' v l := by
  obtain ⟨a, cap, rfl, h1, h2, h3, h4⟩ := h
  exact ⟨a, cap, rfl, h1, h2, h3, fun i x hi => by
    obtain ⟨g, off, e, hr⟩ := h4 i x hi
    exact ⟨g, off, e, by rw [k.cell (lt_of_cell hr) (fun f => f)]; exact hr⟩⟩
theorem SeesN.form {w : World} {v : Value} {l : List Int} (h : SeesN w v l) : ∃ a c, v = .slice a l.length c ∧ l.length ≤ c ∧ c ≤ 9223372036854775807 := by
  obtain ⟨a, cap, rfl, h1, h2, _⟩ := h
  exact ⟨_, _, rfl, h1, h2⟩
theorem SeesN.at {w : World} {a : Option Addr} {n c : Nat} {l : List Int} (h : SeesN w (.slice a n c) l) {k : Nat} {x : Int} (hk : l[k]? = some x) :
    ∃ g off, a = some ⟨g, off, none⟩ ∧ w.cell? ⟨g, off + k, none⟩ = some (.int .i64 x) := by
  obtain ⟨a', cap, e, _, _, _, h4⟩ := h
  obtain ⟨g, off, e2, hr⟩ := h4 k x hk
  injection e with e1 _ _
  exact ⟨g, off, by rw [e1, e2], hr⟩

/-- which of n have been counted -/
def marks (n : Nat) (done : List Int) : List Value := (List.range n).map (fun (i : Nat) => Value.bool (decide ((i : Int) ∈ done)))
theorem marks_length (n : Nat) (d : List Int) : (marks n d).length = n := by simp [marks]
theorem marks_get {n : Nat} {d : List Int} {i : Nat} (h : i < n) : (marks n d)[i]? = some (.bool (decide ((i : Int) ∈ d))) := by simp [marks, h]
theorem marks_set {n : Nat} {d : List Int} {i : Nat} : (marks n d).toArray.setIfInBounds i (.bool true) = (marks n (d ++ [(i : Int)])).toArray := by
  apply Array.ext'
  apply List.ext_getElem?
  intro j
  simp only [Array.toList_setIfInBounds, List.getElem?_set, marks_length]
  by_cases hj : j < n
  · by_cases hij : i = j
    · subst hij
      rw [if_pos rfl, if_pos hj, marks_get hj]
      simp
    · rw [if_neg hij, marks_get hj, marks_get hj]
      have : ¬ ((j : Int) = (i : Int)) := by omega
      simp [this]
  · rw [List.getElem?_eq_none (by rw [marks_length]; omega : (marks n (d ++ [(i : Int)])).length ≤ j)]
    split
    · split
      · omega
      · rfl
    · exact List.getElem?_eq_none (by rw [marks_length]; omega)
theorem marks_same {n : Nat} {d : List Int} {i : Int} (h : i ∈ d) : marks n (d ++ [i]) = marks n d := by
  unfold marks
  apply List.map_congr_left
  intro j _
  congr 1
  rw [Bool.eq_iff_iff]
  simp only [decide_eq_true_eq, List.mem_append, List.mem_singleton]
  constructor
  · rintro (h' | h')
    · exact h'
    · rw [h']; exact h
  · exact .inl
theorem marks_nil (n : Nat) : marks n [] = List.replicate n (.bool false) := by
  apply List.ext_getElem?
  intro j
  by_cases hj : j < n
  · rw [marks_get hj]; simp [hj]
  · rw [List.getElem?_eq_none (by rw [marks_length]; omega), List.getElem?_eq_none (by simp; omega)]

/-- the weights of those among d, from place i on -/
def sumGo : Nat → List Vd → List Int → Int
  | _, [], _ => 0
  | i, x :: r, d => (if (i : Int) ∈ d then x.wt else 0) + sumGo (i + 1) r d
theorem sumGo_nil (i : Nat) (l : List Vd) : sumGo i l [] = 0 := by
  induction l generalizing i with
  | nil => rfl
  | cons x r ih => simp [sumGo, ih]
theorem sumGo_same {l : List Vd} {d : List Int} {j : Int} (h : j ∈ d) : ∀ i : Nat, sumGo i l (d ++ [j]) = sumGo i l d := by
  induction l with
  | nil => intro i; rfl
  | cons x r ih =>
    intro i
    have e : ((i : Int) ∈ d ++ [j]) = ((i : Int) ∈ d) := by
      simp only [List.mem_append, List.mem_singleton, eq_iff_iff]
      constructor
      · rintro (h' | h')
        · exact h'
        · rw [h']; exact h
      · exact .inl
    unfold sumGo
    rw [ih (i + 1)]
    simp only [e]
theorem sumGo_past {l : List Vd} {d : List Int} {j : Int} : ∀ i : Nat, j < (i : Int) → sumGo i l (d ++ [j]) = sumGo i l d := by
  induction l with
  | nil => intro i _; rfl
  | cons x r ih =>
    intro i hi
    have e : ((i : Int) ∈ d ++ [j]) = ((i : Int) ∈ d) := by
      have : (i : Int) ≠ j := by omega
      simp [this]
    unfold sumGo
    rw [ih (i + 1) (by omega)]
    simp only [e]
theorem sumGo_add {l : List Vd} {d : List Int} : ∀ {i k : Nat} {x : Vd}, l[k]? = some x → ¬ ((i + k : Nat) : Int) ∈ d → sumGo i l (d ++ [((i + k : Nat) : Int)]) = sumGo i l d + x.wt := by
  induction l with
  | nil => intro i k x h; cases h
  | cons y r ih =>
    intro i k x hk hn
    cases k with
    | zero =>
      cases hk
      unfold sumGo
      rw [sumGo_past (i + 1) (by omega)]
      simp only [Nat.add_zero] at hn ⊢
      rw [if_neg hn, if_pos (by simp)]
      omega
    | succ k =>
      have h1 := ih (i := i + 1) (k := k) (x := x) hk (by rw [show i + 1 + k = i + (k + 1) by omega]; exact hn)
      rw [show i + 1 + k = i + (k + 1) by omega] at h1
      have e : ((i : Int) ∈ d ++ [((i + (k + 1) : Nat) : Int)]) = ((i : Int) ∈ d) := by
        have : ¬ ((i : Int) = ((i + (k + 1) : Nat) : Int)) := by omega
        simp only [List.mem_append, List.mem_singleton, this, or_false]
      unfold sumGo
      rw [h1]
      simp only [e]
      omega
theorem sumGo_bound {l : List Vd} (h : ∀ x ∈ l, 1 ≤ x.wt) (d : List Int) : ∀ i : Nat, 0 ≤ sumGo i l d ∧ sumGo i l d ≤ sumV l := by
  induction l with
  | nil => intro i; simp [sumGo, sumV]
  | cons y r ih =>
    intro i
    have h1 := ih (fun x hx => h x (List.mem_cons_of_mem _ hx)) (i + 1)
    have h2 := h y (by simp)
    unfold sumGo sumV
    split <;> omega
theorem sumGo_snoc {l : List Vd} {d : List Int} : ∀ {i k : Nat} {x : Vd}, l[k]? = some x → sumGo i (l.take (k + 1)) d = sumGo i (l.take k) d + (if ((i + k : Nat) : Int) ∈ d then x.wt else 0) := by
  induction l with
  | nil => intro i k x h; cases h
  | cons y r ih =>
    intro i k x hk
    cases k with
    | zero =>
      cases hk
      simp [sumGo]
    | succ k =>
      have h1 := ih (i := i + 1) (k := k) (x := x) hk
      rw [show i + 1 + k = i + (k + 1) by omega] at h1
      rw [List.take_succ_cons, List.take_succ_cons]
      unfold sumGo
      rw [h1]
      omega
/-- is each of them a place of n -/
def whoOk (n : Nat) (who : List Int) : Bool := who.all (fun i => decide (0 ≤ i ∧ i < n))
theorem whoOk_no {n : Nat} {who : List Int} {k : Nat} {x : Int} (hk : who[k]? = some x) (h : x < 0 ∨ n ≤ x) : whoOk n who = false := by
  rw [← Bool.not_eq_true]
  intro h1
  have := of_decide_eq_true (List.all_eq_true.1 h1 x (List.mem_of_getElem? hk))
  omega
theorem whoOk_yes {n : Nat} {who : List Int} (h : ∀ (j : Nat) (x : Int), who[j]? = some x → 0 ≤ x ∧ x < n) : whoOk n who = true := by
  refine List.all_eq_true.2 (fun x hx => ?_)
  obtain ⟨j, hj⟩ := List.getElem?_of_mem hx
  simpa using h j x hj
/-- what Sum says -/
def whoV (l : List Vd) (who : List Int) : Int × Int := cond (decide (checkE l = 0)) (cond (whoOk l.length who) (sumGo 0 l who, 0) (0, 4)) (0, checkE l)

theorem marks_zero : (Array.replicate 32 (Value.bool false)) = (marks 32 []).toArray := by rw [marks_nil]; rfl

set_option maxRecDepth 100000 in
set_option maxHeartbeats 1600000 in
theorem sum_any {v vn : Value} {l : List Vd} {who : List Int} {w : World} (hs : SeesV w v l) (hv : VOk l) (hn : SeesN w vn who) :
    Calls Try.prog 23 #[v, vn] w fun e w' => e = .returned (.tuple #[.int .i64 (whoV l who).1, .int .i64 (whoV l who).2]) ∧ Kp (fun _ => False) w w' := by
  obtain ⟨a, c, rfl, hlc, hmax⟩ := hs.form
  obtain ⟨an, cn, rfl, hlcn, hmaxn⟩ := hn.form
  have HS := Lib.hid hs
  have HN := Lib.hid hn
  have HC := Lib.hid (check_any hs hv)
  have HZ0 := Lib.hid marks_zero
  obtain ⟨q1, h1⟩ : ∃ q, q = (whoV l who).1 := ⟨_, rfl⟩
  obtain ⟨q2, h2⟩ : ∃ q, q = (whoV l who).2 := ⟨_, rfl⟩
  rw [← h1, ← h2]
  obtain ⟨ce, hce⟩ : ∃ ce, ce = checkE l := ⟨_, rfl⟩
  have HZ := Lib.hid (fun (h : ce ≠ 0) => (show q1 = 0 ∧ q2 = ce by rw [h1, h2]; unfold whoV; rw [← hce, decide_eq_false h]; exact ⟨rfl, rfl⟩))
  have HBad := Lib.hid (fun (h : ce = 0) (h' : whoOk l.length who = false) => (show q1 = 0 ∧ q2 = 4 by rw [h1, h2]; unfold whoV; rw [← hce, decide_eq_true h, h']; exact ⟨rfl, rfl⟩))
  have HGd := Lib.hid (fun (h : ce = 0) (h' : whoOk l.length who = true) => (show q1 = sumGo 0 l who ∧ q2 = 0 by rw [h1, h2]; unfold whoV; rw [← hce, decide_eq_true h, h']; exact ⟨rfl, rfl⟩))
  have HG := Lib.hid (fun (h : ce = 0) => checkE_ok.1 (hce.symm.trans h))
  rw [← hce] at HC
  clear hs hv hn h1 h2 hce
  go_enter Try.func23, Try.ntmps23
  go_wp2_with fail
  refine HC.out.mono ?_
  rintro e w2 ⟨rfl, k2⟩
  have K2 := Lib.hid k2
  clear k2
  by_cases h0 : ce = 0
  · have h0' : (ce != 0) = false := by simp [h0]
    have G := HG.out h0
    have h32 := G.most
    have HGG := Lib.hid G
    clear G
    go_wp2
    go_loopw [7, 18] (fun f i wr => ∃ (k : Nat) (s : Int), k ≤ who.length ∧ i = .int .i64 k ∧ f = .int .i64 s ∧ (0 ≤ s ∧ s ≤ 4611686018427387903) ∧ Kp (fun _ => False) w wr ∧
      Hid (wr.heap[w2.heap.size]? = some (.cells (marks 32 (who.take k)).toArray 60 (0, 0))) ∧ Hid (s = sumGo 0 l (who.take k)) ∧ Hid (∀ (j : Nat) (x : Int), j < k → who[j]? = some x → 0 ≤ x ∧ x < l.length)) (fun _ i _ => who.length - (intOf i).toNat)
    case atStart => exact ⟨0, 0, by omega, rfl, rfl, by omega, K2.out.alloc _, Lib.hid (by rw [List.take_zero, ← HZ0.out]; exact new_blk _ _), Lib.hid (by rw [List.take_zero, sumGo_nil]), Lib.hid (fun j x h => by omega)⟩
    case round =>
      obtain ⟨k, s, hk, rfl, rfl, ⟨hs0, hs1⟩, hkp, hbk, hsm, hall⟩ := hrel
      have HK := Lib.hid hkp
      by_cases hlt : k < who.length
      · obtain ⟨x, hx⟩ : ∃ x, who[k]? = some x := ⟨who[k], by simp [hlt]⟩
        obtain ⟨gn, offn, rfl, hcn⟩ := (HN.out.kept hkp).at hx
        have HX := Lib.hid hx
        clear hx hkp
        by_cases hneg : x < 0
        · obtain ⟨rfl, rfl⟩ := HBad.out h0 (whoOk_no HX.out (.inl hneg))
          go_wp2
          go_ret2
          exact ⟨rfl, HK.out⟩
        · by_cases hbig : (l.length : Int) ≤ x
          · obtain ⟨rfl, rfl⟩ := HBad.out h0 (whoOk_no HX.out (.inr hbig))
            go_wp2
            go_ret2
            exact ⟨rfl, HK.out⟩
          · obtain ⟨m, rfl⟩ : ∃ m : Nat, x = m := ⟨x.toNat, by omega⟩
            have hm : m < l.length := by omega
            obtain ⟨y, hy⟩ : ∃ y, l[m]? = some y := ⟨l[m], by simp [hm]⟩
            obtain ⟨g, off, rfl, _, _, hcy⟩ := (HS.out.kept HK.out).at hy
            have hm32 : m < 32 := by omega
            have hcm : wr.cell? ⟨w2.heap.size, m, none⟩ = some (.bool (decide ((m : Int) ∈ who.take k))) := by rw [cell_blk hbk.out, List.getElem?_toArray]; exact marks_get hm32
            have hfm : wr.frozen? ⟨w2.heap.size, m, none⟩ = false := free_blk hbk.out m
            have hTK := Lib.hid (show who.take (k + 1) = who.take k ++ [(m : Int)] by
              obtain ⟨hk', e⟩ := List.getElem?_eq_some_iff.1 HX.out
              rw [List.take_succ_eq_append_getElem hk', e])
            have HALL := Lib.hid (show ∀ (j : Nat) (x : Int), j < k + 1 → who[j]? = some x → 0 ≤ x ∧ x < l.length from fun j y hj hy => by
              rcases Nat.lt_or_ge j k with h | h
              · exact hall.out j y h hy
              · obtain rfl : j = k := by omega
                rw [HX.out] at hy
                cases hy
                omega)
            by_cases hin : (m : Int) ∈ who.take k
            · rw [decide_eq_true hin] at hcm
              have HB2 := Lib.hid (show wr.heap[w2.heap.size]? = some (.cells (marks 32 (who.take (k + 1))).toArray 60 (0, 0)) by rw [hTK.out, marks_same hin]; exact hbk.out)
              have HS2 := Lib.hid (show s = sumGo 0 l (who.take (k + 1)) by rw [hTK.out, sumGo_same hin]; exact hsm.out)
              clear hin
              go_wp2
              go_roundw
              case rel => exact ⟨k + 1, _, by omega, by go_num, rfl, by omega, HK.out, HB2, HS2, HALL⟩
              case measure => simp [intOf]; omega
            · rw [decide_eq_false hin] at hcm
              have hbound := sumGo_bound (weightsOk_pos HGG.out.wt) (who.take (k + 1)) 0
              have hsum := HGG.out.sum
              have hpos := HGG.out.pos hy
              have hS2 : sumGo 0 l (who.take (k + 1)) = s + y.wt := by
                have := sumGo_add (l := l) (d := who.take k) (i := 0) (k := m) (x := y) hy (by rw [Nat.zero_add]; exact hin)
                rw [Nat.zero_add] at this
                rw [hTK.out, this, ← hsm.out]
              rw [hS2] at hbound
              have hb1 : 0 ≤ s + y.wt ∧ s + y.wt ≤ 4611686018427387903 := by omega
              have HS2 := Lib.hid hS2.symm
              have hbk2 := set_blk hbk.out m (.bool true)
              rw [marks_set, ← hTK.out] at hbk2
              have HB2 := Lib.hid hbk2
              have hcy2 : (wr.setCell ⟨w2.heap.size, m, none⟩ (.bool true)).cell? ⟨g, off + m * 2 + 1, none⟩ = some (.int .i64 y.wt) := by
                rw [((Kp.refl (fun q => q = w2.heap.size) wr).setCell (p := ⟨w2.heap.size, m, none⟩) (fun _ => rfl) _).cell (lt_of_cell hcy) (fun e => ?_)]
                · exact hcy
                · obtain ⟨_, _, e2, _, _, hc3⟩ := HS.out.at hy
                  cases e2
                  have := lt_of_cell hc3
                  have := K2.out.size
                  have e' : g = w2.heap.size := e
                  simp only at *
                  omega
              have HK2 := Lib.hid (show Kp (fun _ => False) w (wr.setCell ⟨w2.heap.size, m, none⟩ (.bool true)) from HK.out.setCell (fun h => by have := K2.out.size; simp only at h; omega) _)
              clear hin hS2 hbound hsum hbk2 hy
              go_wp2
              go_roundw
              case rel => exact ⟨k + 1, _, by omega, by go_num, rfl, hb1, HK2.out, HB2, HS2, HALL⟩
              case measure => simp [intOf]; omega
      · obtain rfl : k = who.length := by omega
        obtain ⟨e1, rfl⟩ := HGd.out h0 (whoOk_yes (fun j x hj => hall.out j x ((List.getElem?_eq_some_iff.1 hj).1) hj))
        have HE := Lib.hid (show q1 = s by rw [e1, hsm.out, List.take_length])
        clear e1 hkp
        go_wp2
        go_ret2
        exact ⟨by rw [HE.out]; rfl, HK.out⟩
  · have h0' : (ce != 0) = true := by simp [h0]
    obtain ⟨rfl, rfl⟩ := HZ.out h0
    go_wp2
    go_ret2
    exact ⟨rfl, K2.out⟩
end Go.Proofs.Ytphbckjadebdmaa
