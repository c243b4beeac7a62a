/-
  Plain facts: what was put is taken as it was; of fewer bytes not all.
-/
import Derived.Test.YtahdnapinlbflaaBk
import Derived.Test.YtahdnapinlbflaaRun
namespace Go.Proofs.Ytahdnapinlbflaa
open Go.RowKit

theorem val_shift (xs : List Int) : ∀ v : Int, xs.foldl (fun v x => v * 256 + x) v = v * 256 ^ xs.length + val xs := by
  induction xs with
  | nil => intro v; simp [val]
  | cons x xs ih =>
    intro v
    have h1 : val (x :: xs) = (0 * 256 + x) * 256 ^ xs.length + val xs := by rw [val, List.foldl_cons, ih]
    rw [List.foldl_cons, ih, h1, List.length_cons, Int.pow_succ, Int.add_mul, Int.mul_assoc, Int.mul_comm 256, Int.zero_mul, Int.zero_add, Int.add_assoc]
theorem val_cons (x : Int) (xs : List Int) : val (x :: xs) = x * 256 ^ xs.length + val xs := by
  have := val_shift xs (0 * 256 + x)
  rw [val, List.foldl_cons, this]
  rw [Int.zero_mul, Int.zero_add]
theorem val_be (n : Nat) (v : Int) (h : 0 ≤ v) : val (be n v) = v % 256 ^ n := by
  obtain ⟨m, rfl⟩ := Int.eq_ofNat_of_zero_le h
  induction n with
  | zero => simp [be, val]
  | succ n ih =>
    rw [be, val_cons, be_length, ih]
    have hN : m % 256 ^ (n + 1) = m % 256 ^ n + 256 ^ n * (m / 256 ^ n % 256) := Nat.mod_pow_succ
    have hI := congrArg (fun z : Nat => (z : Int)) hN
    simp only [Int.natCast_emod, Int.natCast_ediv, Int.natCast_pow, Int.natCast_add, Int.natCast_mul] at hI
    have e : ((256 : Nat) : Int) = 256 := rfl
    rw [e] at hI
    rw [hI, Int.mul_comm (256 ^ n)]
    omega

theorem take_app (x rest : List Int) : takeE (x ++ rest) 0 x.length = 0 ∧ takeR (x ++ rest) 0 x.length = x ∧ takeL (x ++ rest) 0 x.length = rest := by
  have h : takeE (x ++ rest) 0 x.length = 0 := by unfold takeE; rw [if_neg (by simp), if_neg (by omega), if_neg (by rw [List.length_append]; omega)]
  refine ⟨h, ?_, ?_⟩
  · unfold takeR; rw [if_pos h, Int.toNat_natCast, List.take_left]
  · unfold takeL; rw [if_pos h, Int.toNat_natCast, List.drop_left]
theorem take_short {l : List Int} {n : Nat} (h : l.length < n) : takeE l 0 n = 11 := by
  unfold takeE; rw [if_neg (by simp), if_neg (by omega), if_pos (by omega)]
theorem cnt_app (hd : Nat) (xs rest : List Int) (hh : (xs.length : Int) < 256 ^ hd) :
    cntE (be hd xs.length ++ xs ++ rest) 0 hd xs.length = 0 ∧ cntR (be hd xs.length ++ xs ++ rest) 0 hd xs.length = xs ∧ cntL (be hd xs.length ++ xs ++ rest) 0 hd xs.length = rest := by
  have hl : (be hd (xs.length : Int)).length = hd := be_length _ _
  have ht : (be hd (xs.length : Int) ++ xs ++ rest).take hd = be hd xs.length := by
    rw [List.append_assoc, List.take_append_of_le_length (by omega), List.take_of_length_le (by omega)]
  have hdr : (be hd (xs.length : Int) ++ xs ++ rest).drop hd = xs ++ rest := by
    rw [List.append_assoc, List.drop_append_of_le_length (by omega), List.drop_eq_nil_of_le (by omega), List.nil_append]
  have hv : val ((be hd (xs.length : Int) ++ xs ++ rest).take hd) = xs.length := by
    rw [ht, val_be hd _ (by omega)]; exact Int.emod_eq_of_lt (by omega) hh
  have hlen : (be hd (xs.length : Int) ++ xs ++ rest).length = hd + xs.length + rest.length := by simp [hl, Nat.add_assoc]
  have h : cntE (be hd xs.length ++ xs ++ rest) 0 hd xs.length = 0 := by
    unfold cntE countE
    rw [if_neg (by simp), if_neg (by omega), if_neg (by omega), hv, if_neg (by omega), if_neg (by omega)]
  refine ⟨h, ?_, ?_⟩
  · unfold cntR; rw [if_pos h, hv, hdr, Int.toNat_natCast, List.take_left]
  · unfold cntL; rw [if_pos h, hv, hdr, Int.toNat_natCast, List.drop_left]
theorem cnt_short (hd : Nat) (xs l s : List Int) (hh : (xs.length : Int) < 256 ^ hd) (hs : s ≠ []) (he : be hd xs.length ++ xs = l ++ s) : cntE l 0 hd xs.length = 11 := by
  have hl : (be hd (xs.length : Int)).length = hd := be_length _ _
  have hsl : 0 < s.length := List.length_pos_iff.2 hs
  have hlen : hd + xs.length = l.length + s.length := by
    have := congrArg List.length he
    rw [List.length_append, List.length_append, hl] at this
    exact this
  unfold cntE countE
  rw [if_neg (by simp), if_neg (by omega)]
  by_cases h1 : l.length < hd
  · rw [if_pos h1]
  · have ht : l.take hd = be hd xs.length := by
      have := congrArg (List.take hd) he
      rw [List.take_append_of_le_length (by omega), List.take_append_of_le_length (by omega), List.take_of_length_le (by omega)] at this
      exact this.symm
    rw [if_neg h1, ht, val_be hd _ (by omega), Int.emod_eq_of_lt (by omega) hh, if_neg (by omega), if_pos (by omega)]

structure ItmOk (it : Itm) : Prop where
  v0 : 0 ≤ it.V
  v1 : it.V ≤ 18446744073709551615
  rng : Rng it.xs
  len : it.xs.length ≤ 200000
theorem be_take (n : Nat) (v : Int) (rest : List Int) (h : 0 ≤ v) : takeE (be n v ++ rest) 0 n = 0 ∧ val (takeR (be n v ++ rest) 0 n) = v % 256 ^ n ∧ takeL (be n v ++ rest) 0 n = rest := by
  have := take_app (be n v) rest
  rw [be_length] at this
  exact ⟨this.1, by rw [this.2.1, val_be n v h], this.2.2⟩

theorem bk_app {it : Itm} (h : ItmOk it) {x rest : List Int} (hp : piece it = some x) : bkL (x ++ rest) 0 it.d it.xs.length = rest ∧ bkE (x ++ rest) 0 it.d it.xs.length = 0 ∧ bkQ (x ++ rest) 0 it.d it.V it.xs = true := by
  have hv0 := h.v0
  have hv1 := h.v1
  have hl := h.len
  unfold piece at hp
  unfold bkL bkE bkQ
  by_cases d0 : it.d = 0
  · simp only [if_pos d0] at hp ⊢
    obtain rfl := Option.some.inj hp
    have := take_app it.xs rest
    exact ⟨this.2.2, this.1, by rw [this.2.1]; simp⟩
  simp only [if_neg d0] at hp ⊢
  by_cases d1 : it.d = 1
  · simp only [if_pos d1] at hp ⊢
    obtain rfl := Option.some.inj hp
    have := be_take 1 (it.V % 256) rest (by omega)
    exact ⟨this.2.2, this.1, by rw [show (1 : Int) = ((1 : Nat) : Int) from rfl, this.2.1]; simp⟩
  simp only [if_neg d1] at hp ⊢
  by_cases d2 : it.d = 2
  · simp only [if_pos d2] at hp ⊢
    obtain rfl := Option.some.inj hp
    have := be_take 2 (it.V % 65536) rest (by omega)
    exact ⟨this.2.2, this.1, by rw [show (2 : Int) = ((2 : Nat) : Int) from rfl, this.2.1]; simp⟩
  simp only [if_neg d2] at hp ⊢
  by_cases d3 : it.d = 3
  · simp only [if_pos d3] at hp ⊢
    obtain rfl := Option.some.inj hp
    have e7 : (256 : Int) ^ 4 = 4294967296 := by decide
    have := cnt_app 4 it.xs rest (by omega)
    exact ⟨this.2.2, this.1, by rw [this.2.1]; simp⟩
  simp only [if_neg d3] at hp ⊢
  by_cases d4 : it.d = 4
  · simp only [if_pos d4] at hp ⊢
    obtain rfl := Option.some.inj hp
    have := be_take 4 (it.V % 4294967296) rest (by omega)
    exact ⟨this.2.2, this.1, by rw [show (4 : Int) = ((4 : Nat) : Int) from rfl, this.2.1]; simp⟩
  simp only [if_neg d4] at hp ⊢
  by_cases d5 : it.d = 5
  · simp only [if_pos d5] at hp ⊢
    split at hp
    · cases hp
    · rename_i ht
      obtain rfl := Option.some.inj hp
      rw [Bys_strOfNums h.rng]
      have e7 : (256 : Int) ^ 2 = 65536 := by decide
      have := cnt_app 2 it.xs rest (by omega)
      exact ⟨this.2.2, this.1, by rw [this.2.1]; simp⟩
  simp only [if_neg d5] at hp ⊢
  by_cases d8 : it.d = 8
  · simp only [if_pos d8] at hp ⊢
    obtain rfl := Option.some.inj hp
    have e7 : (256 : Int) ^ 8 = 18446744073709551616 := by decide
    have := be_take 8 it.V rest hv0
    have hm : it.V % 256 ^ 8 = it.V := Int.emod_eq_of_lt hv0 (by omega)
    exact ⟨this.2.2, this.1, by rw [show (8 : Int) = ((8 : Nat) : Int) from rfl, this.2.1, hm]; simp⟩
  simp only [if_neg d8] at hp ⊢
  obtain rfl := Option.some.inj hp
  simp

theorem bk_short {it : Itm} (h : ItmOk it) {x l s : List Int} (hp : piece it = some x) (hs : s ≠ []) (hx : x = l ++ s) : bkE l 0 it.d it.xs.length = 11 := by
  have hl := h.len
  have hsl : 0 < s.length := List.length_pos_iff.2 hs
  have hlt : l.length < x.length := by rw [hx, List.length_append]; omega
  unfold piece at hp
  unfold bkE
  by_cases d0 : it.d = 0
  · simp only [if_pos d0] at hp ⊢
    obtain rfl := Option.some.inj hp
    exact take_short hlt
  simp only [if_neg d0] at hp ⊢
  by_cases d1 : it.d = 1
  · simp only [if_pos d1] at hp ⊢
    rw [← Option.some.inj hp, be_length] at hlt
    exact take_short hlt
  simp only [if_neg d1] at hp ⊢
  by_cases d2 : it.d = 2
  · simp only [if_pos d2] at hp ⊢
    rw [← Option.some.inj hp, be_length] at hlt
    exact take_short hlt
  simp only [if_neg d2] at hp ⊢
  by_cases d3 : it.d = 3
  · simp only [if_pos d3] at hp ⊢
    have e7 : (256 : Int) ^ 4 = 4294967296 := by decide
    exact cnt_short 4 it.xs l s (by omega) hs ((Option.some.inj hp).trans hx)
  simp only [if_neg d3] at hp ⊢
  by_cases d4 : it.d = 4
  · simp only [if_pos d4] at hp ⊢
    rw [← Option.some.inj hp, be_length] at hlt
    exact take_short hlt
  simp only [if_neg d4] at hp ⊢
  by_cases d5 : it.d = 5
  · simp only [if_pos d5] at hp ⊢
    split at hp
    · cases hp
    · rename_i ht
      rw [Bys_strOfNums h.rng] at hp
      have e7 : (256 : Int) ^ 2 = 65536 := by decide
      exact cnt_short 2 it.xs l s (by omega) hs ((Option.some.inj hp).trans hx)
  simp only [if_neg d5] at hp ⊢
  by_cases d8 : it.d = 8
  · simp only [if_pos d8] at hp ⊢
    rw [← Option.some.inj hp, be_length] at hlt
    exact take_short hlt
  simp only [if_neg d8] at hp ⊢
  rw [← Option.some.inj hp] at hlt
  exact absurd hlt (Nat.not_lt_zero _)
theorem bk_err {l : List Int} {e d n : Int} (he : e ≠ 0) : bkL l e d n = l ∧ bkE l e d n = e := by
  have h1 : ∀ m, takeE l e m = e ∧ takeL l e m = l := fun m => ⟨takeE_self l e m he, by unfold takeL; rw [takeE_self l e m he, if_neg he]⟩
  have h2 : ∀ hd m, cntE l e hd m = e ∧ cntL l e hd m = l := fun hd m => by
    have h := show cntE l e hd m = e by unfold cntE; rw [if_pos he]
    exact ⟨h, by unfold cntL; rw [h, if_neg he]⟩
  unfold bkL bkE
  simp only [(h1 _).1, (h1 _).2, (h2 _ _).1, (h2 _ _).2, ite_self]
  exact ⟨trivial, trivial⟩

/-- all that items put -/
def cat (its : List Itm) : List Int := its.flatMap fun it => (piece it).getD []
theorem run_cat (lim : Int) : ∀ (its : List Itm) (l : List Int), (l.length : Int) ≤ lim → (runS lim its (l, 0)).2 = 0 → (∀ it ∈ its, piece it ≠ none) ∧ (runS lim its (l, 0)).1 = l ++ cat its
  | [], l, _, _ => ⟨(fun _ h => by cases h), by simp [runS, cat]⟩
  | it :: its, l, hl, h0 => by
    rw [run_cons, step_ok lim l it hl] at h0 ⊢
    cases hp : piece it with
    | none => simp only [hp] at h0; rw [run_err lim its l 3 (by omega)] at h0; simp at h0
    | some x =>
      simp only [hp] at h0 ⊢
      by_cases hf : (l.length : Int) + x.length ≤ lim
      · rw [if_pos hf] at h0 ⊢
        obtain ⟨i1, i2⟩ := run_cat lim its (l ++ x) (by rw [List.length_append]; omega) h0
        refine ⟨fun y hy => ?_, ?_⟩
        · rcases List.mem_cons.1 hy with rfl | hy
          · rw [hp]; simp
          · exact i1 y hy
        · rw [i2]; simp [cat, hp]
      · rw [if_neg hf, run_err lim its l 10 (by omega)] at h0; simp at h0
theorem run_e (lim : Int) : ∀ (its : List Itm) (l : List Int), (l.length : Int) ≤ lim → (runS lim its (l, 0)).2 = 0 ∨ (runS lim its (l, 0)).2 = 3 ∨ (runS lim its (l, 0)).2 = 10
  | [], _, _ => .inl rfl
  | it :: its, l, hl => by
    rw [run_cons, step_ok lim l it hl]
    cases hp : piece it with
    | none => simp only; rw [run_err lim its l 3 (by omega)]; exact .inr (.inl rfl)
    | some x =>
      simp only
      by_cases hf : (l.length : Int) + x.length ≤ lim
      · rw [if_pos hf]; exact run_e lim its _ (by rw [List.length_append]; omega)
      · rw [if_neg hf, run_err lim its l 10 (by omega)]; exact .inr (.inr rfl)
theorem cat_drop (its : List Itm) (k : Nat) (hk : k < its.length) : cat (its.drop k) = (piece its[k]).getD [] ++ cat (its.drop (k + 1)) := by
  rw [List.drop_eq_getElem_cons hk, cat, List.flatMap_cons]
  rfl

end Go.Proofs.Ytahdnapinlbflaa
