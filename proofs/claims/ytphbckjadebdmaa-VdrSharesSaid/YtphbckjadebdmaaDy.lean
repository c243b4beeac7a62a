/-
  Shares, the document's: products of two numbers in words of 31 bits.
-/
import Derived.Test.YtphbckjadebdmaaDx
import Derived.Test.YtphbckjadebdmaaStr
namespace Go.Proofs.Ytphbckjadebdmaa
open Go.RowKit

/-- the number that digits are, the lowest first -/
def valL : List Int → Int
  | [] => 0
  | d :: r => d + 2147483648 * valL r
theorem valL_set {l : List Int} : ∀ {j : Nat} {o d : Int}, l[j]? = some o → valL (l.set j d) = valL l + (d - o) * 2147483648 ^ j := by
  induction l with
  | nil => intro j o d h; cases h
  | cons x r ih =>
    intro j o d h
    cases j with
    | zero =>
      cases h
      show d + 2147483648 * valL r = x + 2147483648 * valL r + (d - x) * 2147483648 ^ 0
      rw [Int.pow_zero, Int.mul_one]
      omega
    | succ j =>
      show x + 2147483648 * valL (r.set j d) = x + 2147483648 * valL r + (d - o) * 2147483648 ^ (j + 1)
      rw [ih (j := j) (o := o) (d := d) h, Int.mul_add, Int.pow_succ, Int.add_assoc]
      congr 2
      rw [← Int.mul_assoc, Int.mul_comm 2147483648 (d - o), Int.mul_assoc, Int.mul_comm 2147483648]
theorem valL_snoc (l : List Int) (x : Int) : valL (l ++ [x]) = valL l + x * 2147483648 ^ l.length := by
  induction l with
  | nil => simp [valL]
  | cons y r ih =>
    show y + 2147483648 * valL (r ++ [x]) = y + 2147483648 * valL r + x * 2147483648 ^ (r.length + 1)
    rw [ih, Int.mul_add, Int.pow_succ, Int.add_assoc]
    congr 2
    rw [← Int.mul_assoc, Int.mul_comm 2147483648 x, Int.mul_assoc, Int.mul_comm 2147483648]
theorem valL_take {l : List Int} {k : Nat} {x : Int} (h : l[k]? = some x) : valL (l.take (k + 1)) = valL (l.take k) + x * 2147483648 ^ k := by
  obtain ⟨hk, e⟩ := List.getElem?_eq_some_iff.1 h
  rw [List.take_succ_eq_append_getElem hk, valL_snoc, e, List.length_take, Nat.min_eq_left (Nat.le_of_lt hk)]
/-- all of them digits -/
def Dig (l : List Int) : Prop := ∀ (j : Nat) (d : Int), l[j]? = some d → 0 ≤ d ∧ d < 2147483648
theorem valL_lex : ∀ {i : Nat} {a b : List Int} {x y : Int}, Dig a → Dig b → a[i]? = some x → b[i]? = some y → a.drop (i + 1) = b.drop (i + 1) → y < x → valL b < valL a := by
  intro i
  induction i with
  | zero =>
    intro a b x y ha hb hx hy ht hlt
    cases a with
    | nil => cases hx
    | cons x' a =>
      cases b with
      | nil => cases hy
      | cons y' b =>
        cases hx; cases hy
        have ht' : a = b := ht
        subst ht'
        show y + _ < x + _
        omega
  | succ i ih =>
    intro a b x y ha hb hx hy ht hlt
    cases a with
    | nil => cases hx
    | cons x' a =>
      cases b with
      | nil => cases hy
      | cons y' b =>
        have h1 := ih (a := a) (b := b) (fun j d h => ha (j + 1) d h) (fun j d h => hb (j + 1) d h) hx hy ht hlt
        have h2 := ha 0 x' rfl
        have h3 := hb 0 y' rfl
        show y' + 2147483648 * valL b < x' + 2147483648 * valL a
        omega
/-- numbers as cells -/
def wCs (l : List Int) : List Value := l.map (.int .i64)
theorem wCs_get {l : List Int} {j : Nat} {d : Int} (h : l[j]? = some d) : (wCs l)[j]? = some (.int .i64 d) := by simp [wCs, h]
theorem wCs_set (l : List Int) (j : Nat) (d : Int) : (wCs l).toArray.setIfInBounds j (.int .i64 d) = (wCs (l.set j d)).toArray := by
  apply Array.ext'
  simp [wCs, List.map_set]
theorem wCs_one (l : List Int) : (wCs l).toArray.all (·.oneCell') = true := by
  simp only [wCs, List.all_toArray, List.all_map, List.all_eq_true]
  intro x _; rfl
/-- a number in three words -/
def w3 (a : Int) : List Int := [a % 2147483648, a / 2147483648 % 2147483648, a / 4611686018427387904]
theorem w3_val (a : Int) : valL (w3 a) = a := by
  show a % 2147483648 + 2147483648 * (a / 2147483648 % 2147483648 + 2147483648 * (a / 4611686018427387904 + 2147483648 * 0)) = a
  omega
theorem w3_dig (a : Int) (h0 : 0 ≤ a) (h1 : a ≤ 9223372036854775807) : Dig (w3 a) := by
  intro j d h
  match j, h with
  | 0, h => cases h; omega
  | 1, h => cases h; omega
  | 2, h => cases h; omega

/-- the words of a product while it is being made: row i, k of its words done -/
structure Row (A Y : Int) (xs ys : List Int) (i k : Nat) (out : List Int) (carry : Int) : Prop where
  len : out.length = 6
  c0 : 0 ≤ carry
  c1 : carry < 2147483648
  dig : Dig out
  top : ∀ (j : Nat) (d : Int), i + 3 ≤ j → out[j]? = some d → d = 0
  val : valL out + carry * 2147483648 ^ (i + k) = valL (xs.take i) * Y + (match xs[i]? with | some x => x | none => 0) * 2147483648 ^ i * valL (ys.take k)
theorem Row.step {A Y : Int} {xs ys : List Int} {i k : Nat} {out : List Int} {carry : Int} (h : Row A Y xs ys i k out carry) {o x y : Int} (ho : out[i + k]? = some o) (hx : xs[i]? = some x) (hy : ys[k]? = some y)
    (hk : k < 3) (dx : 0 ≤ x ∧ x < 2147483648) (dy : 0 ≤ y ∧ y < 2147483648) :
    0 ≤ x * y ∧ 0 ≤ o ∧ o + carry + x * y ≤ 4611686018427387903 ∧ Row A Y xs ys i (k + 1) (out.set (i + k) ((o + carry + x * y) % 2147483648)) ((o + carry + x * y) / 2147483648) := by
  have hxy0 : 0 ≤ x * y := Int.mul_nonneg dx.1 dy.1
  have hxy1 : x * y ≤ 2147483647 * 2147483647 := Int.mul_le_mul (by omega) (by omega) dy.1 (by omega)
  have ho' := h.dig _ _ ho
  have hc0 := h.c0
  have hc1 := h.c1
  refine ⟨hxy0, ho'.1, by omega, ⟨by rw [List.length_set]; exact h.len, by omega, by omega, ?_, ?_, ?_⟩⟩
  · intro j d hj
    rw [List.getElem?_set] at hj
    split at hj
    · split at hj
      · cases hj; omega
      · cases hj
    · exact h.dig j d hj
  · intro j d hij hj
    rw [List.getElem?_set, if_neg (by omega)] at hj
    exact h.top j d hij hj
  · have hv := h.val
    rw [hx] at hv ⊢
    simp only at hv ⊢
    rw [valL_set ho, valL_take hy, Int.mul_add (x * 2147483648 ^ i), ← Int.add_assoc, ← hv]
    obtain ⟨v, hv'⟩ : ∃ v, v = o + carry + x * y := ⟨_, rfl⟩
    rw [← hv']
    have e1 : x * 2147483648 ^ i * (y * 2147483648 ^ k) = (x * y) * 2147483648 ^ (i + k) := by
      rw [Int.pow_add, Int.mul_assoc, Int.mul_assoc, ← Int.mul_assoc (2147483648 ^ i) y, Int.mul_comm (2147483648 ^ i) y, Int.mul_assoc]
    rw [e1, show i + (k + 1) = (i + k) + 1 by omega, Int.pow_succ]
    generalize (2147483648 : Int) ^ (i + k) = P
    have e2 : v / 2147483648 * (P * 2147483648) = (2147483648 * (v / 2147483648)) * P := by
      rw [Int.mul_comm P, ← Int.mul_assoc, Int.mul_comm (v / 2147483648)]
    have e3 : 2147483648 * (v / 2147483648) = v - v % 2147483648 := by omega
    rw [e2, e3, Int.add_assoc, ← Int.add_mul, Int.add_assoc, ← Int.add_mul, show v % 2147483648 - o + (v - v % 2147483648) = carry + x * y by omega]
theorem Row.done {A Y : Int} {xs ys : List Int} {i : Nat} {out : List Int} {carry : Int} (h : Row A Y xs ys i 3 out carry) {x : Int} (hx : xs[i]? = some x) (hi : i < 3) (hY : valL ys = Y) (hl : ys.length = 3) :
    Row A Y xs ys (i + 1) 0 (out.set (i + 3) carry) 0 := by
  have hlen := h.len
  obtain ⟨o, ho⟩ : ∃ o, out[i + 3]? = some o := ⟨out[i + 3]'(by omega), List.getElem?_eq_getElem _⟩
  have ho0 := h.top _ _ (Nat.le_refl _) ho
  subst ho0
  refine ⟨by rw [List.length_set]; exact h.len, by omega, by omega, ?_, ?_, ?_⟩
  · intro j d hj
    rw [List.getElem?_set] at hj
    split at hj
    · split at hj
      · cases hj; exact ⟨h.c0, h.c1⟩
      · cases hj
    · exact h.dig j d hj
  · intro j d hij hj
    rw [List.getElem?_set, if_neg (by omega)] at hj
    exact h.top j d (by omega) hj
  · have hv := h.val
    rw [hx] at hv
    simp only at hv
    rw [show ys.take 3 = ys from List.take_of_length_le (by omega), hY] at hv
    rw [valL_set ho, Int.zero_mul, Int.add_zero, Int.sub_zero, hv, valL_take hx, List.take_zero, Int.add_mul]
    simp [valL]
theorem Row.start (A Y : Int) (xs ys : List Int) : Row A Y xs ys 0 0 [0, 0, 0, 0, 0, 0] 0 :=
  ⟨rfl, by omega, by omega, fun j d hj => by
    have : d = 0 := by
      match j, hj with
      | 0, hj => cases hj; rfl
      | 1, hj => cases hj; rfl
      | 2, hj => cases hj; rfl
      | 3, hj => cases hj; rfl
      | 4, hj => cases hj; rfl
      | 5, hj => cases hj; rfl
    omega, fun j d _ hj => by
      match j, hj with
      | 0, hj => cases hj; rfl
      | 1, hj => cases hj; rfl
      | 2, hj => cases hj; rfl
      | 3, hj => cases hj; rfl
      | 4, hj => cases hj; rfl
      | 5, hj => cases hj; rfl, by simp [valL]⟩
end Go.Proofs.Ytphbckjadebdmaa
