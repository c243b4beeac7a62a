/-
  SHA-256 as plain functions on lists of integers: rounds, message words, blocks, what comes behind the bytes. Nothing of the program stands here.
-/
import Derived.Laws.BitsAllLaws
import Derived.Laws.Closers25b
namespace Go.Proofs.Ytleapcbkkggecaa

/-- a word's bits, turned round to the right -/
def rotr (n x : Int) : Int := bits .or .u32 (x * 2 ^ (32 - n).toNat % 4294967296) (x / 2 ^ n.toNat)
/-- four bytes as a word -/
def wd (a b c d : Int) : Int := a * 16777216 + b * 65536 + c * 256 + d
/-- a sum of words -/
def addw (a b : Int) : Int := (a + b) % 4294967296
def xorw (a b : Int) : Int := bits .xor .u32 a b
def andw (a b : Int) : Int := bits .and .u32 a b

/-- a word -/
def W32 (x : Int) : Prop := 0 ≤ x ∧ x < 4294967296
/-- all of them words -/
def Ws (l : List Int) : Prop := ∀ x ∈ l, W32 x

theorem bits_w32 (op : BinOp) (a b : Int) : W32 (bits op .u32 a b) := by
  have h := (IntKind.wrap_u32' ((match op with
    | .and => BitVec.ofInt IntKind.u32.bits a &&& BitVec.ofInt IntKind.u32.bits b
    | .or => BitVec.ofInt IntKind.u32.bits a ||| BitVec.ofInt IntKind.u32.bits b
    | .xor => BitVec.ofInt IntKind.u32.bits a ^^^ BitVec.ofInt IntKind.u32.bits b
    | _ => BitVec.ofInt IntKind.u32.bits a &&& ~~~BitVec.ofInt IntKind.u32.bits b).toNat : Int))
  have h2 : bits op .u32 a b = _ := h
  rw [h2]; unfold W32; omega
theorem addw_w32 (a b : Int) : W32 (addw a b) := by unfold addw W32; omega
theorem rotr_w32 (n x : Int) : W32 (rotr n x) := bits_w32 _ _ _
theorem xorw_w32 (a b : Int) : W32 (xorw a b) := bits_w32 _ _ _
theorem andw_w32 (a b : Int) : W32 (andw a b) := bits_w32 _ _ _
theorem wd_w32 {a b c d : Int} (ha : 0 ≤ a ∧ a ≤ 255) (hb : 0 ≤ b ∧ b ≤ 255) (hc : 0 ≤ c ∧ c ≤ 255) (hd : 0 ≤ d ∧ d ≤ 255) : W32 (wd a b c d) := by
  unfold wd W32; omega
theorem bits_or_comm (a b : Int) : bits .or .u32 a b = bits .or .u32 b a := by
  simp only [bits, BitVec.or_comm]

def sig0 (x : Int) : Int := xorw (xorw (rotr 7 x) (rotr 18 x)) (x / 8)
def sig1 (x : Int) : Int := xorw (xorw (rotr 17 x) (rotr 19 x)) (x / 1024)
/-- one message word more -/
def nxt (l : List Int) (t : Nat) : Int := (sig1 (l.getD (t - 2) 0) + l.getD (t - 7) 0 + sig0 (l.getD (t - 15) 0) + l.getD (t - 16) 0) % 4294967296
/-- the first 16 words of 64 bytes -/
def wds (bs : List Int) : Nat → List Int
  | 0 => []
  | n + 1 => wds bs n ++ [wd (bs.getD (4 * n) 0) (bs.getD (4 * n + 1) 0) (bs.getD (4 * n + 2) 0) (bs.getD (4 * n + 3) 0)]
def ext (bs : List Int) : Nat → List Int
  | 0 => wds bs 16
  | n + 1 => ext bs n ++ [nxt (ext bs n) (n + 16)]
def sched (bs : List Int) : List Int := ext bs 48

theorem wds_length (bs : List Int) (n : Nat) : (wds bs n).length = n := by
  induction n with
  | zero => rfl
  | succ n ih => simp [wds, ih]
theorem ext_length (bs : List Int) (n : Nat) : (ext bs n).length = 16 + n := by
  induction n with
  | zero => exact wds_length bs 16
  | succ n ih => simp [ext, ih]; omega
theorem sched_length (bs : List Int) : (sched bs).length = 64 := ext_length bs 48
theorem nxt_w32 (l : List Int) (t : Nat) : W32 (nxt l t) := by unfold nxt W32; omega
theorem getD_byte {bs : List Int} (h : ∀ x ∈ bs, 0 ≤ x ∧ x ≤ 255) (i : Nat) : 0 ≤ bs.getD i 0 ∧ bs.getD i 0 ≤ 255 := by
  rw [List.getD_eq_getElem?_getD]
  cases e : bs[i]? with
  | none => simp
  | some x => exact h x (List.mem_of_getElem? e)
theorem wds_w32 {bs : List Int} (h : ∀ x ∈ bs, 0 ≤ x ∧ x ≤ 255) (n : Nat) : Ws (wds bs n) := by
  induction n with
  | zero => intro x hx; cases hx
  | succ n ih =>
    intro x hx
    rcases List.mem_append.1 hx with h1 | h1
    · exact ih x h1
    · obtain rfl := List.mem_singleton.1 h1
      exact wd_w32 (getD_byte h _) (getD_byte h _) (getD_byte h _) (getD_byte h _)
theorem ext_w32 {bs : List Int} (h : ∀ x ∈ bs, 0 ≤ x ∧ x ≤ 255) (n : Nat) : Ws (ext bs n) := by
  induction n with
  | zero => exact wds_w32 h 16
  | succ n ih =>
    intro x hx
    rcases List.mem_append.1 hx with h1 | h1
    · exact ih x h1
    · obtain rfl := List.mem_singleton.1 h1
      exact nxt_w32 _ _

/-- a to h -/
structure St where
  a : Int
  b : Int
  c : Int
  d : Int
  e : Int
  f : Int
  g : Int
  h : Int
  deriving DecidableEq
def St.list (s : St) : List Int := [s.a, s.b, s.c, s.d, s.e, s.f, s.g, s.h]
def notw (x : Int) : Int := xorw (if IntKind.u32.signed = true then -1 else IntKind.u32.max) x
def t1 (s : St) (k w : Int) : Int :=
  (s.h + xorw (xorw (rotr 6 s.e) (rotr 11 s.e)) (rotr 25 s.e) + xorw (andw s.e s.f) (andw (notw s.e) s.g) + k + w) % 4294967296
def t2 (s : St) : Int :=
  (xorw (xorw (rotr 2 s.a) (rotr 13 s.a)) (rotr 22 s.a) + xorw (xorw (andw s.a s.b) (andw s.a s.c)) (andw s.b s.c)) % 4294967296
def step (s : St) (k w : Int) : St := ⟨addw (t1 s k w) (t2 s), s.a, s.b, s.c, addw s.d (t1 s k w), s.e, s.f, s.g⟩
def kTab : List Int := [1116352408, 1899447441, 3049323471, 3921009573, 961987163, 1508970993, 2453635748, 2870763221, 3624381080, 310598401, 607225278, 1426881987, 1925078388, 2162078206, 2614888103, 3248222580, 3835390401, 4022224774, 264347078, 604807628, 770255983, 1249150122, 1555081692, 1996064986, 2554220882, 2821834349, 2952996808, 3210313671, 3336571891, 3584528711, 113926993, 338241895, 666307205, 773529912, 1294757372, 1396182291, 1695183700, 1986661051, 2177026350, 2456956037, 2730485921, 2820302411, 3259730800, 3345764771, 3516065817, 3600352804, 4094571909, 275423344, 430227734, 506948616, 659060556, 883997877, 958139571, 1322822218, 1537002063, 1747873779, 1955562222, 2024104815, 2227730452, 2361852424, 2428436474, 2756734187, 3204031479, 3329325298]
def h0 : St := ⟨1779033703, 3144134277, 1013904242, 2773480762, 1359893119, 2600822924, 528734635, 1541459225⟩
def rounds (m : List Int) (s : St) : Nat → St
  | 0 => s
  | n + 1 => step (rounds m s n) (kTab.getD n 0) (m.getD n 0)
def addS (x y : St) : St := ⟨addw x.a y.a, addw x.b y.b, addw x.c y.c, addw x.d y.d, addw x.e y.e, addw x.f y.f, addw x.g y.g, addw x.h y.h⟩
/-- behind 64 bytes more -/
def comp (s : St) (bs : List Int) : St := addS s (rounds (sched bs) s 64)
/-- behind n times 64 bytes more -/
def many : Nat → St → List Int → St
  | 0, s, _ => s
  | n + 1, s, bs => many n (comp s (bs.take 64)) (bs.drop 64)
/-- so many noughts stand behind the byte 128 -/
def gap (n : Nat) : Nat := (119 - n % 64) % 64
end Go.Proofs.Ytleapcbkkggecaa
