/-
  bytes.Compare; the order of numbers' bytes.
-/
import Derived.Test.YtahdnapinlbflaaLw
import Derived.Lib.Bytealg
import Derived.Laws.Externs
namespace Go.Proofs.Ytahdnapinlbflaa
open Go.ChangeShapes Go.WideShapes Go.ChangeAt Go.RowKit

theorem run_loadBytes (w : World) (b : Nat) : ∀ (xs : List Int) (off : Nat) (acc : ByteArray), (∀ i x, xs[i]? = some x → w.cell? ⟨b, off + i, none⟩ = some (.int .u8 x)) →
    (Extern.Bytes.loadBytes ⟨b, off, none⟩ xs.length acc).run Try.prog w = .ok (xs.foldl (fun r n => r.push (UInt8.ofNat n.toNat)) acc) w
  | [], _, _, _ => rfl
  | x :: xs, off, acc, h => by
    have h0 := h 0 x rfl
    have ih := run_loadBytes w b xs (off + 1) (acc.push (UInt8.ofNat x.toNat)) (fun i y hy => by
      have := h (i + 1) y hy
      rw [show off + 1 + i = off + (i + 1) by omega]; exact this)
    have hl : (load ⟨b, off, none⟩).run Try.prog w = .ok (.int .u8 x) w := by
      rw [Nat.add_zero] at h0
      simp [go_sem, h0]
    show (Extern.Bytes.loadBytes ⟨b, off, none⟩ (xs.length + 1) acc).run Try.prog w = _
    simp only [Extern.Bytes.loadBytes, Sem.run_bind, hl, Result.andThen]
    exact ih

theorem run_bytesOf {w : World} {v : Value} {xs : List Int} (h : Sees w v xs) : (Extern.Bytes.bytesOf v).run Try.prog w = .ok (strOfNums xs) w := by
  have hf : xs.foldl (fun r n => r.push (UInt8.ofNat n.toNat)) ByteArray.empty = strOfNums xs := by
    rw [foldl_push_bytes]; simp [strOfNums, ByteArray.empty, ByteArray.emptyWithCapacity]; rfl
  rcases h with ⟨rfl, rfl⟩ | ⟨ad, cap, rfl, h1, h2, hc⟩
  · rw [← hf]; rfl
  · cases xs with
    | nil => rw [← hf]; rfl
    | cons x r =>
      have h0 := hc 0 x rfl
      have hs := spot_of_cell h0
      obtain ⟨b, off, s⟩ := ad
      have hs' : s = none := by simpa [Addr.add] using hs
      subst hs'
      have h3 := run_loadBytes w b (x :: r) off ByteArray.empty (fun i y hy => by
        have := hc i y hy
        rw [Addr.add_lit] at this; exact this)
      rw [hf] at h3
      exact h3

theorem run_compare {w : World} {a b : Value} {xs ys : List Int} (ha : Sees w a xs) (hb : Sees w b ys) :
    (Extern.BytealgCompare.compare #[a, b]).run Try.prog w = .ok (.int .i64 (Lib.compareBytes (strOfNums xs).data.toList (strOfNums ys).data.toList)) w := by
  change Sem.run Try.prog (do pure (goInt (Extern.BytealgCompare.cmp (← Extern.Bytes.bytesOf a) (← Extern.Bytes.bytesOf b)))) w = _
  simp only [Sem.run_bind, Sem.run_pure, Result.andThen, run_bytesOf ha, run_bytesOf hb]
  rw [Lib.cmp_eq]
  rfl

def cmpI : List Int → List Int → Int
  | [], [] => 0
  | [], _ :: _ => -1
  | _ :: _, [] => 1
  | a :: xs, b :: ys => if a < b then -1 else if b < a then 1 else cmpI xs ys
theorem compareBytes_eq : ∀ (xs ys : List Int), Rng xs → Rng ys → Lib.compareBytes (strOfNums xs).data.toList (strOfNums ys).data.toList = cmpI xs ys
  | [], [], _, _ => rfl
  | [], _ :: _, _, _ => rfl
  | _ :: _, [], _, _ => rfl
  | x :: xs, y :: ys, hx, hy => by
    have ih := compareBytes_eq xs ys (fun z hz => hx z (List.mem_cons_of_mem _ hz)) (fun z hz => hy z (List.mem_cons_of_mem _ hz))
    have hx0 := hx x (List.mem_cons_self ..)
    have hy0 := hy y (List.mem_cons_self ..)
    rw [strOfNums_data, strOfNums_data] at ih ⊢
    simp only [List.map_cons, Lib.compareBytes, cmpI, ih]
    have e1 : (UInt8.ofNat x.toNat < UInt8.ofNat y.toNat) ↔ x < y := by
      rw [UInt8.lt_iff_toNat_lt]; simp only [UInt8.toNat_ofNat']; omega
    have e2 : (UInt8.ofNat y.toNat < UInt8.ofNat x.toNat) ↔ y < x := by
      rw [UInt8.lt_iff_toNat_lt]; simp only [UInt8.toNat_ofNat']; omega
    simp only [e1, e2]

theorem digit_mod (m n k : Nat) (hk : k + 1 ≤ n) : m % 256 ^ n / 256 ^ k % 256 = m / 256 ^ k % 256 := by
  have e1 : 256 ^ n = 256 ^ k * (256 * 256 ^ (n - k - 1)) := by
    rw [← Nat.pow_succ', ← Nat.pow_add]; congr 1; omega
  rw [e1, Nat.mod_mul_right_div_self, Nat.mod_mul_right_mod]
theorem be_mod (n : Nat) (a : Int) (h : 0 ≤ a) : be n (a % 256 ^ n) = be n a := by
  suffices h : ∀ k, k ≤ n → be k (a % 256 ^ n) = be k a from h n (Nat.le_refl n)
  intro k
  induction k with
  | zero => intro _; rfl
  | succ k ih =>
    intro hk
    obtain ⟨m, rfl⟩ := Int.eq_ofNat_of_zero_le h
    have h1 : ((m : Int) % 256 ^ n / 256 ^ k % 256) = (m : Int) / 256 ^ k % 256 := by
      have h := congrArg (fun z : Nat => (z : Int)) (digit_mod m n k hk)
      simp only [Int.natCast_emod, Int.natCast_ediv, Int.natCast_pow] at h
      exact h
    rw [be, be, ih (by omega), h1]
/-- of two numbers below 256^n the bytes stand as they do -/
theorem be_cmp : ∀ (n : Nat) (a b : Int), 0 ≤ a → a < 256 ^ n → 0 ≤ b → b < 256 ^ n → (cmpI (be n a) (be n b) < 0 ↔ a < b) ∧ (be n a = be n b ↔ a = b)
  | 0, a, b, h0, h1, h2, h3 => by
    have ha : a = 0 := by simp at h1; omega
    have hb : b = 0 := by simp at h3; omega
    subst ha hb
    simp [be, cmpI]
  | n + 1, a, b, h0, h1, h2, h3 => by
    have hA : (0 : Int) < 256 ^ n := Int.pow_pos (by omega)
    generalize hAe : (256 : Int) ^ n = A at hA
    rw [Int.pow_succ, hAe] at h1 h3
    have ih := be_cmp n (a % A) (b % A) (Int.emod_nonneg _ (by omega)) (by rw [hAe]; exact Int.emod_lt_of_pos _ hA) (Int.emod_nonneg _ (by omega)) (by rw [hAe]; exact Int.emod_lt_of_pos _ hA)
    have ma := be_mod n a h0
    have mb := be_mod n b h2
    rw [hAe] at ma mb
    rw [ma, mb] at ih
    have qa : a / A % 256 = a / A := Int.emod_eq_of_lt (Int.ediv_nonneg h0 (by omega)) (Int.ediv_lt_of_lt_mul hA (by rw [Int.mul_comm]; exact h1))
    have qb : b / A % 256 = b / A := Int.emod_eq_of_lt (Int.ediv_nonneg h2 (by omega)) (Int.ediv_lt_of_lt_mul hA (by rw [Int.mul_comm]; exact h3))
    have ea := Int.mul_ediv_add_emod a A
    have eb := Int.mul_ediv_add_emod b A
    rw [be, be, hAe, qa, qb]
    simp only [cmpI, List.cons.injEq]
    rcases Int.lt_trichotomy (a / A) (b / A) with hl | he | hg
    · have hab : a < b := by
        rcases Int.lt_or_le a b with h | h
        · exact h
        · have := Int.ediv_le_ediv hA h; omega
      rw [if_pos hl]
      constructor
      · simp [hab]
      · constructor
        · rintro ⟨h, _⟩; omega
        · intro h; omega
    · rw [he, if_neg (Int.lt_irrefl _), if_neg (Int.lt_irrefl _)]
      rw [he] at ea
      constructor
      · rw [ih.1]; omega
      · rw [ih.2]
        constructor
        · rintro ⟨_, h⟩; omega
        · intro h; subst h; exact ⟨rfl, rfl⟩
    · have hab : b < a := by
        rcases Int.lt_or_le b a with h | h
        · exact h
        · have := Int.ediv_le_ediv hA h; omega
      rw [if_neg (by omega), if_pos hg]
      constructor
      · constructor
        · intro h; omega
        · intro h; omega
      · constructor
        · rintro ⟨h, _⟩; omega
        · intro h; omega

set_option maxHeartbeats 1000000 in
set_option maxRecDepth 100000 in
theorem compare_any {w : World} {a b : Value} {xs ys : List Int} (ha : Sees w a xs) (hb : Sees w b ys) (hx : Rng xs) (hy : Rng ys) :
    Calls Try.prog 29 #[a, b] w fun r w' => r = .returned (.int .i64 (cmpI xs ys)) ∧ w = w' := by
  have H := Lib.hid (run_compare ha hb)
  have HC := Lib.hid (compareBytes_eq xs ys hx hy)
  clear ha hb hx hy
  go_enter Try.func29, Try.ntmps29
  go_wp2
  rw [run_callFunc_extern Try.func53 (by kernel_rfl) (by kernel_rfl) (by kernel_rfl) (e := Extern.BytealgCompare.compare) (by kernel_rfl), H.out]
  simp only [Result.andThen]
  rw [Oper.upon_value]
  go_wp2
  go_ret
  exact ⟨by rw [← HC.out]; rfl, rfl⟩

end Go.Proofs.Ytahdnapinlbflaa
