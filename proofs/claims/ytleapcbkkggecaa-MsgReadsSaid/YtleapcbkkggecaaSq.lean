/-
  Bytes that come piece by piece, as plain lists: what a state's words and its part are behind any bytes. Nothing of the program stands here.
-/
import Derived.Test.YtleapcbkkggecaaSp
import Derived.Test.YtleapcbkkggecaaMem
namespace Go.Proofs.Ytleapcbkkggecaa

theorem many_append (n : Nat) (s : St) (bs ys : List Int) (h : 64 * n ≤ bs.length) : many n s (bs ++ ys) = many n s bs := by
  induction n generalizing s bs with
  | zero => rfl
  | succ n ih =>
    simp only [many]
    rw [List.take_append_of_le_length (by omega), List.drop_append_of_le_length (by omega), ih _ _ (by rw [List.length_drop]; omega)]
theorem many_succ (n : Nat) (s : St) (bs : List Int) : many (n + 1) s bs = comp (many n s bs) ((bs.drop (64 * n)).take 64) := by
  induction n generalizing s bs with
  | zero => simp [many]
  | succ n ih =>
    have e : many (n + 1 + 1) s bs = many (n + 1) (comp s (bs.take 64)) (bs.drop 64) := rfl
    rw [e, ih, List.drop_drop, show 64 + 64 * n = 64 * (n + 1) by omega]
    rfl

/-- a state's words and part, behind these bytes -/
structure StOf (bs : List Int) (H : St) (part : List Int) : Prop where
  words : H = many (bs.length / 64) h0 bs
  len : part.length = 64
  rng : Rng part
  part : part.take (bs.length % 64) = bs.drop (64 * (bs.length / 64))
theorem StOf.start : StOf [] h0 (List.replicate 64 0) :=
  ⟨rfl, by simp, fun x hx => by obtain ⟨_, rfl⟩ := List.mem_replicate.1 hx; omega, rfl⟩
theorem StOf.put_rng {bs part ys : List Int} {H : St} (h : StOf bs H part) (hy : Rng ys) : Rng (part.take (bs.length % 64) ++ ys ++ part.drop (bs.length % 64 + ys.length)) := by
  intro x hx
  rcases List.mem_append.1 hx with h1 | h1
  · rcases List.mem_append.1 h1 with h2 | h2
    · exact h.rng x (List.mem_of_mem_take h2)
    · exact hy x h2
  · exact h.rng x (List.mem_of_mem_drop h1)
theorem StOf.some {bs part ys : List Int} {H : St} (h : StOf bs H part) (hy : Rng ys) (hl : bs.length % 64 + ys.length < 64) :
    StOf (bs ++ ys) H (part.take (bs.length % 64) ++ ys ++ part.drop (bs.length % 64 + ys.length)) := by
  have e1 : (bs ++ ys).length / 64 = bs.length / 64 := by rw [List.length_append]; omega
  have e2 : (bs ++ ys).length % 64 = bs.length % 64 + ys.length := by rw [List.length_append]; omega
  have hp := h.len
  refine ⟨?_, ?_, h.put_rng hy, ?_⟩
  · rw [e1, many_append _ _ _ _ (by omega)]; exact h.words
  · simp only [List.length_append, List.length_take, List.length_drop]; omega
  · rw [e1, e2, List.drop_append_of_le_length (by omega), ← h.part, List.take_append_of_le_length (by simp only [List.length_append, List.length_take]; omega),
      List.take_of_length_le (by simp only [List.length_append, List.length_take]; omega)]
theorem StOf.full {bs part ys : List Int} {H : St} (h : StOf bs H part) (hy : Rng ys) (hl : bs.length % 64 + ys.length = 64) :
    StOf (bs ++ ys) (comp H (part.take (bs.length % 64) ++ ys ++ part.drop (bs.length % 64 + ys.length))) (part.take (bs.length % 64) ++ ys ++ part.drop (bs.length % 64 + ys.length)) := by
  have e1 : (bs ++ ys).length / 64 = bs.length / 64 + 1 := by rw [List.length_append]; omega
  have e2 : (bs ++ ys).length % 64 = 0 := by rw [List.length_append]; omega
  have hp := h.len
  have e3 : (bs ++ ys).drop (64 * (bs.length / 64)) = part.take (bs.length % 64) ++ ys := by rw [List.drop_append_of_le_length (by omega), ← h.part]
  have e4 : part.drop (bs.length % 64 + ys.length) = [] := List.drop_eq_nil_of_le (by omega)
  have e5 : (part.take (bs.length % 64) ++ ys).length = 64 := by rw [List.length_append, List.length_take]; omega
  have e6 : (part.take (bs.length % 64) ++ ys).take 64 = part.take (bs.length % 64) ++ ys := List.take_of_length_le (by omega)
  have e7 : (bs ++ ys).drop (64 * ((bs ++ ys).length / 64)) = [] := List.drop_eq_nil_of_le (by omega)
  have hr := h.put_rng hy
  rw [e4, List.append_nil] at hr ⊢
  refine ⟨?_, e5, hr, ?_⟩
  · rw [e1, many_succ, many_append (bs.length / 64) h0 bs ys (by omega), ← h.words, e3, e6]
  · rw [e2, List.take_zero, e7]

/-- what stands behind n bytes -/
def behind (n : Nat) : List Int := 128 :: (List.replicate (gap n) 0 ++ be 8 ((n : Int) * 8))
def padded (bs : List Int) : List Int := bs ++ behind bs.length
theorem behind_length (n : Nat) : (n + (behind n).length) % 64 = 0 := by
  simp [behind, be_length, gap]; omega
theorem behind_rng (n : Nat) : Rng (behind n) := by
  intro x hx
  rcases List.mem_cons.1 hx with h | h
  · subst h; omega
  · rcases List.mem_append.1 h with h | h
    · obtain ⟨_, rfl⟩ := List.mem_replicate.1 h; omega
    · exact be_rng _ _ x h
/-- a word's four bytes -/
def w4 (x : Int) : List Int := [x / 16777216, x / 65536 % 256, x / 256 % 256, x % 256]
def bytesOf (s : St) : List Int := s.list.flatMap w4
/-- SHA-256 of bytes -/
def sumOf (bs : List Int) : List Int := bytesOf (many ((padded bs).length / 64) h0 (padded bs))
theorem sum_state {bs part : List Int} {H : St} (h : StOf (padded bs) H part) : bytesOf H = sumOf bs := by rw [h.words]; rfl
theorem bytesOf_length (s : St) : (bytesOf s).length = 32 := rfl
theorem w4_rng {x : Int} (hx : W32 x) : Rng (w4 x) := by
  intro y hy
  obtain ⟨h0, h1⟩ := hx
  simp only [w4, List.mem_cons, List.not_mem_nil, or_false] at hy
  rcases hy with h3 | h3 | h3 | h3 <;> subst h3 <;> omega
theorem sumOf_length (bs : List Int) : (sumOf bs).length = 32 := rfl
end Go.Proofs.Ytleapcbkkggecaa
