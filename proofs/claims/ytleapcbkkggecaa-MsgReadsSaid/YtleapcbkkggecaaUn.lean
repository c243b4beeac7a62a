/-
  Contracts of package pack's unpacker.
-/
import Derived.Test.YtleapcbkkggecaaPkC
namespace Go.Proofs.Ytleapcbkkggecaa
open Go.ChangeShapes Go.WideShapes Go.ChangeAt Go.RowKit

/-! ### what is taken -/
def val (xs : List Int) : Int := xs.foldl (fun v x => v * 256 + x) 0
theorem val_snoc (xs : List Int) (x : Int) : val (xs ++ [x]) = val xs * 256 + x := by simp [val, List.foldl_append]
theorem val_from (xs : List Int) : ∀ (v : Int), Rng xs → 0 ≤ v → 0 ≤ xs.foldl (fun v x => v * 256 + x) v ∧ xs.foldl (fun v x => v * 256 + x) v < (v + 1) * 256 ^ xs.length := by
  induction xs with
  | nil => intro v _ h; simp; omega
  | cons x xs ih =>
    intro v h h0
    have hx := h x (List.mem_cons_self ..)
    have i := ih (v * 256 + x) (fun y hy => h y (List.mem_cons_of_mem _ hy)) (by omega)
    have hp : (0 : Int) ≤ 256 ^ xs.length := Int.pow_nonneg (by omega)
    have hm := Int.mul_le_mul_of_nonneg_right (show v * 256 + x + 1 ≤ (v + 1) * 256 by omega) hp
    rw [List.foldl_cons, List.length_cons, Int.pow_succ, Int.mul_comm (256 ^ xs.length) 256, ← Int.mul_assoc]
    exact ⟨i.1, by omega⟩
theorem val_bd (xs : List Int) (h : Rng xs) : 0 ≤ val xs ∧ val xs < 256 ^ xs.length := by
  have := val_from xs 0 h (Int.le_refl _)
  simpa [val] using this

/-- a slice and an error: an unpacker made since B -/
structure UK (w : World) (B u : Nat) (v : Value) (l : List Int) (e : Int) : Prop where
  cell : w.heap[u]? = some (.cells #[.bool true, v, .int .i64 e] 78 (0, 0))
  sees : Sees w v l
  away : l ≠ [] → ∀ g, v.ownBlock = some g → g ≠ u
  base : B ≤ u
theorem UK.cells {w : World} {B u : Nat} {v : Value} {l : List Int} {e : Int} (h : UK w B u v l e) :
    w.cell? ⟨u, 0, none⟩ = some (.bool true) ∧ w.cell? ⟨u, 1, none⟩ = some v ∧ w.cell? ⟨u, 2, none⟩ = some (.int .i64 e) ∧ (∀ i, w.frozen? ⟨u, i, none⟩ = false) :=
  ⟨by rw [cell_blk h.cell]; rfl, by rw [cell_blk h.cell]; rfl, by rw [cell_blk h.cell]; rfl, fun i => free_blk h.cell i⟩
theorem UK.kept {F : Nat → Prop} {w w' : World} {B u : Nat} {v : Value} {l : List Int} {e : Int} (h : UK w B u v l e) (k : Kp F w w') (hu : ¬ F u) (hv : l ≠ [] → ∀ g, v.ownBlock = some g → ¬ F g) : UK w' B u v l e :=
  ⟨kept_blk h.cell k hu, h.sees.kept k hv, h.away, h.base⟩
theorem UK.drewN {w : World} {B u : Nat} {v : Value} {l : List Int} {e : Int} (h : UK w B u v l e) (n : Nat) : UK (w.drewN n) B u v l e := ⟨h.cell, h.sees, h.away, h.base⟩

/-- the error of taking n -/
def takeE (l : List Int) (e n : Int) : Int := if e ≠ 0 then e else if n < 0 then 1 else if (l.length : Int) < n then 11 else 0
def takeR (l : List Int) (e n : Int) : List Int := if takeE l e n = 0 then l.take n.toNat else []
def takeL (l : List Int) (e n : Int) : List Int := if takeE l e n = 0 then l.drop n.toNat else l
/-- behind taking, of a slice v: what is told, what is left -/
structure UPost (w : World) (B u : Nat) (v : Value) (l : List Int) (e : Int) (w' : World) : Prop where
  ex : ∃ v', UK w' B u v' l e ∧ (l ≠ [] → v'.ownBlock = v.ownBlock)
  kp : Kp (fun k => k = u) w w'
def TakeP (w : World) (B u : Nat) (v : Value) (l : List Int) (e n : Int) (r : Ending) (w' : World) : Prop :=
  ∃ rv, r = .returned rv ∧ Sees w' rv (takeR l e n) ∧ (takeR l e n ≠ [] → rv.ownBlock = v.ownBlock) ∧ UPost w B u v (takeL l e n) (takeE l e n) w'

theorem UPost.later {w w1 w2 : World} {B u : Nat} {v : Value} {l : List Int} {e : Int} (h : UPost w B u v l e w1) (_hu : u < w.heap.size) (k : Kp (fun _ => False) w1 w2) : UPost w B u v l e w2 := by
  obtain ⟨⟨v', h1, h2⟩, hk⟩ := h
  exact ⟨⟨v', h1.kept k (fun f => f) (fun _ _ _ f => f), h2⟩, hk.trans k (fun _ _ f => f.elim)⟩
theorem UK.setErr {w : World} {B u : Nat} {v : Value} {l : List Int} {e : Int} (h : UK w B u v l e) (x : Int) : UPost w B u v l x (w.setCell ⟨u, 2, none⟩ (.int .i64 x)) := by
  have k : Kp (fun k => k = u) w (w.setCell ⟨u, 2, none⟩ (.int .i64 x)) := Kp.setCell (F := fun k => k = u) (Kp.refl _ w) (p := ⟨u, 2, none⟩) (fun _ => rfl) _
  exact ⟨⟨v, ⟨by rw [set_blk h.cell]; rfl, h.sees.kept k h.away, h.away, h.base⟩, fun _ => rfl⟩, k⟩
theorem UK.setLeft {w : World} {B u : Nat} {v : Value} {l : List Int} {e : Int} (h : UK w B u v l e) (v' : Value) (l' : List Int) (hs : Sees w v' l') (hb : l' ≠ [] → l ≠ [] ∧ v'.ownBlock = v.ownBlock) : UPost w B u v l' e (w.setCell ⟨u, 1, none⟩ v') := by
  have k : Kp (fun k => k = u) w (w.setCell ⟨u, 1, none⟩ v') := Kp.setCell (F := fun k => k = u) (Kp.refl _ w) (p := ⟨u, 1, none⟩) (fun _ => rfl) _
  have ha : l' ≠ [] → ∀ g, v'.ownBlock = some g → g ≠ u := fun hne g hg => h.away (hb hne).1 g (by rw [← (hb hne).2]; exact hg)
  exact ⟨⟨v', ⟨by rw [set_blk h.cell]; rfl, hs.kept k ha, ha, h.base⟩, fun hne => (hb hne).2⟩, k⟩

/-- pieces of what a slice shows -/
theorem sees_take {w : World} {ad : Addr} {cap : Nat} {l : List Int} (h : Sees w (.slice (some ad) l.length cap) l) (n : Nat) (hn : n ≤ l.length) : Sees w (.slice (some ad) n cap) (l.take n) := by
  rcases h with ⟨h, _⟩ | ⟨ad', cap', hv, h1, h2, hc⟩
  · cases h
  · obtain ⟨rfl, rfl⟩ : ad = ad' ∧ cap = cap' := by injection hv with a _ b; exact ⟨by injection a, b⟩
    refine .inr ⟨ad, cap, by rw [List.length_take, Nat.min_eq_left hn], by rw [List.length_take]; omega, h2, fun i x hi => ?_⟩
    have hlt := (List.getElem?_eq_some_iff.1 hi).1
    rw [List.length_take] at hlt
    rw [List.getElem?_take_of_lt (by omega)] at hi
    exact hc i x hi
theorem sees_drop {w : World} {b off cap : Nat} {l : List Int} (h : Sees w (.slice (some ⟨b, off, none⟩) l.length cap) l) (n : Nat) (hn : n ≤ l.length) : Sees w (.slice (some ⟨b, off + n, none⟩) (l.length - n) (cap - n)) (l.drop n) := by
  rcases h with ⟨h, _⟩ | ⟨ad', cap', hv, h1, h2, hc⟩
  · cases h
  · obtain ⟨rfl, rfl⟩ : (⟨b, off, none⟩ : Addr) = ad' ∧ cap = cap' := by injection hv with a _ b; exact ⟨by injection a, b⟩
    rw [← List.length_drop]
    refine Sees.mk (by rw [List.length_drop]; omega) (by omega) (fun i x hi => ?_)
    rw [List.getElem?_drop] at hi
    have := hc _ x hi
    rw [Addr.add_lit] at this
    rw [Nat.add_assoc]; exact this
theorem sees_empty {w : World} (ad : Addr) (cap : Nat) (h : cap ≤ maxLen) : Sees w (.slice (some ad) 0 cap) [] := .inr ⟨ad, cap, rfl, Nat.zero_le _, h, fun i x hi => by cases hi⟩

set_option maxHeartbeats 1000000 in
theorem utake_any (n : Int) {w : World} {B u : Nat} {v : Value} {l : List Int} {e : Int} (h : UK w B u v l e) :
    Calls Try.prog 45 #[.pointer (some ⟨u, 0, none⟩), .int .i64 n] w (TakeP w B u v l e n) := by
  obtain ⟨c0, c1, c2, cf⟩ := h.cells
  have cf1 := cf 1
  have cf2 := cf 2
  by_cases he : e = 0
  · subst he
    by_cases hn : n < 0
    · have e1 : takeE l 0 n = 1 := by unfold takeE; rw [if_neg (by simp), if_pos hn]
      have hfin : TakeP w B u v l 0 n (.returned (.slice none 0 0)) (w.setCell ⟨u, 2, none⟩ (.int .i64 1)) := by
        unfold TakeP takeR takeL
        rw [e1, if_neg (by omega), if_neg (by omega)]
        exact ⟨_, rfl, .inl ⟨rfl, rfl⟩, fun h => absurd rfl h, h.setErr 1⟩
      have HF := Lib.hid hfin
      clear hfin h cf e1
      go_enter Try.func45, Try.ntmps45
      go_wp2
      go_ret
      exact HF.out
    · by_cases hlen : (l.length : Int) < n
      · obtain ⟨a, cap, rfl⟩ := sees_form h.sees
        have e1 : takeE l 0 n = 11 := by unfold takeE; rw [if_neg (by simp), if_neg hn, if_pos hlen]
        have hfin : TakeP w B u (.slice a l.length cap) l 0 n (.returned (.slice none 0 0)) (w.setCell ⟨u, 2, none⟩ (.int .i64 11)) := by
          unfold TakeP takeR takeL
          rw [e1, if_neg (by omega), if_neg (by omega)]
          exact ⟨_, rfl, .inl ⟨rfl, rfl⟩, fun h => absurd rfl h, h.setErr 11⟩
        have HF := Lib.hid hfin
        clear hfin h cf e1
        go_enter Try.func45, Try.ntmps45
        go_wp2
        go_ret
        exact HF.out
      · obtain ⟨m, rfl⟩ := Int.eq_ofNat_of_zero_le (show 0 ≤ n by omega)
        have hml : m ≤ l.length := by omega
        have e1 : takeE l 0 m = 0 := by unfold takeE; rw [if_neg (by simp), if_neg hn, if_neg hlen]
        have hcl : ∀ rv v', Sees w rv (l.take m) → (l ≠ [] → rv.ownBlock = v.ownBlock) → Sees w v' (l.drop m) → (l.drop m ≠ [] → v'.ownBlock = v.ownBlock) → Hid (TakeP w B u v l 0 m (.returned rv) (w.setCell ⟨u, 1, none⟩ v')) := by
          intro rv v' h1 h0 h2 h3
          refine Lib.hid ?_
          unfold TakeP takeR takeL
          rw [e1, if_pos rfl, if_pos rfl, Int.toNat_natCast]
          have hp := h.setLeft v' (l.drop m) h2 (fun hne => ⟨fun hl => hne (by rw [hl]; simp), h3 hne⟩)
          refine ⟨rv, rfl, h1.kept hp.kp (fun hne g hg => ?_), fun hne => h0 (fun hl => hne (by rw [hl]; simp)), hp⟩
          have hl : l ≠ [] := fun hl => hne (by rw [hl]; simp)
          exact h.away hl g (by rw [← h0 hl]; exact hg)
        have hs := h.sees
        clear h cf e1
        rcases hs with ⟨rfl, rfl⟩ | ⟨ad, cap, rfl, g1, g2, hc⟩
        · obtain rfl : m = 0 := by simpa using hml
          have HF := hcl (.slice none 0 0) (.slice none 0 0) (.inl ⟨rfl, rfl⟩) (fun h => absurd rfl h) (.inl ⟨rfl, rfl⟩) (fun h => absurd rfl h)
          clear hcl hn hlen hml
          go_enter Try.func45, Try.ntmps45
          go_wp2
          go_ret
          exact HF.out
        · by_cases hl : l = []
          · subst hl
            obtain rfl : m = 0 := by simpa using hml
            have HF := hcl (.slice (some ad) 0 cap) (.slice (some ad) 0 cap) (sees_empty ad cap g2) (fun h => absurd rfl h) (sees_empty ad cap g2) (fun h => absurd rfl h)
            clear hcl hn hlen hml hc
            go_enter Try.func45, Try.ntmps45
            go_wp2
            go_ret
            exact HF.out
          · obtain ⟨x, r, hxr⟩ := List.exists_cons_of_ne_nil hl
            have hsp := spot_of_cell (hc 0 x (by rw [hxr]; rfl))
            obtain ⟨b, off, s⟩ := ad
            have hs' : s = none := by simpa [Addr.add] using hsp
            subst hs'
            have hs : Sees w (.slice (some ⟨b, off, none⟩) l.length cap) l := .inr ⟨_, cap, rfl, g1, g2, hc⟩
            have hcap63 : cap ≤ 9223372036854775807 := g2
            have hml1 : ¬ (l.length : Int) < (m : Int) := hlen
            by_cases hcm : m = cap
            · obtain rfl : m = l.length := by omega
              have hcl2 : cap = l.length := hcm.symm
              subst hcl2
              have hdrop : l.drop l.length = [] := List.drop_eq_nil_of_le (Nat.le_refl _)
              have HF := hcl (.slice (some ⟨b, off, none⟩) l.length l.length) (.slice (some ⟨b, off, none⟩) 0 0) (sees_take hs _ (Nat.le_refl _)) (fun _ => rfl)
                (by rw [hdrop]; exact sees_empty _ _ (Nat.zero_le _)) (fun _ => rfl)
              clear hcl hdrop hc hs hsp hxr hcm hn
              go_enter Try.func45, Try.ntmps45
              go_wp2
              go_ret
              exact HF.out
            · have hmc : m < cap := by omega
              have HF := hcl (.slice (some ⟨b, off, none⟩) m cap) (.slice (some ⟨b, off + m, none⟩) (l.length - m) (cap - m)) (sees_take hs m hml) (fun _ => rfl) (sees_drop hs m hml) (fun _ => rfl)
              clear hcl hc hs hsp hxr hcm hn
              go_enter Try.func45, Try.ntmps45
              go_wp2
              go_ret
              exact HF.out
  · have e1 : takeE l e n = e := by unfold takeE; rw [if_pos he]
    have hfin : TakeP w B u v l e n (.returned (.slice none 0 0)) w := by
      unfold TakeP takeR takeL
      rw [e1, if_neg he, if_neg he]
      exact ⟨_, rfl, .inl ⟨rfl, rfl⟩, fun h => absurd rfl h, ⟨v, h, fun _ => rfl⟩, Kp.refl _ _⟩
    have hb : (e != 0) = true := by simpa using he
    have HF := Lib.hid hfin
    clear hfin h cf e1
    go_enter Try.func45, Try.ntmps45
    go_wp2
    go_ret
    exact HF.out

/-! ### numbers -/
theorem pow_le7 (k : Nat) (h : k ≤ 7) : (256 : Int) ^ k ≤ 256 ^ 7 := by
  have h' : k = 0 ∨ k = 1 ∨ k = 2 ∨ k = 3 ∨ k = 4 ∨ k = 5 ∨ k = 6 ∨ k = 7 := by omega
  rcases h' with rfl | rfl | rfl | rfl | rfl | rfl | rfl | rfl <;> decide
theorem or_add (v x : Int) (hv0 : 0 ≤ v) (hv1 : v < 72057594037927936) (hx0 : 0 ≤ x) (hx1 : x ≤ 255) : bits .or .u64 (v * 256) x = v * 256 + x := by
  have h := bits_or_u64_nat (v.toNat * 256) x.toNat (by omega) (by omega)
  have e1 : ((v.toNat * 256 : Nat) : Int) = v * 256 := by omega
  have e2 : ((x.toNat : Nat) : Int) = x := by omega
  rw [e1, e2] at h
  rw [h]
  have e3 : v.toNat * 256 ||| x.toNat = v.toNat * 256 + x.toNat := by
    have := Nat.shiftLeft_add_eq_or_of_lt (show x.toNat < 2 ^ 8 by omega) v.toNat
    rw [Nat.shiftLeft_eq, show (2 : Nat) ^ 8 = 256 from rfl] at this
    exact this.symm
  rw [e3, Int.natCast_add, e1, e2]

set_option maxHeartbeats 1000000 in
theorem number_any {w : World} {b : Value} {xs : List Int} (hs : Sees w b xs) (hr : Rng xs) (h8 : xs.length ≤ 8) :
    Calls Try.prog 44 #[b] w fun r w' => r = .returned (.int .u64 (val xs)) ∧ w = w' := by
  obtain ⟨a, cap, rfl⟩ := sees_form hs
  have HS := Lib.hid hs
  have HR := Lib.hid hr
  clear hs hr
  go_enter Try.func44, Try.ntmps44
  go_wp2
  go_loop [8, 3] (fun i v => ∃ k : Nat, k ≤ xs.length ∧ i = .int .i64 k ∧ v = .int .u64 (val (xs.take k))) (fun i _ => xs.length - (intOf i).toNat)
  case atStart => exact ⟨0, Nat.zero_le _, rfl, rfl⟩
  case round =>
    obtain ⟨k, hk, rfl, rfl⟩ := hrel
    by_cases hlt : k < xs.length
    · have hne : xs ≠ [] := by intro h; subst h; simp at hlt
      have hbd := val_bd (xs.take k) (fun y hy => HR.out y (List.mem_of_mem_take hy))
      have hlen : (xs.take k).length = k := by rw [List.length_take]; omega
      rw [hlen] at hbd
      have hx := HR.out xs[k] (List.getElem_mem hlt)
      have hv7 : val (xs.take k) < 72057594037927936 := by
        have : (256 : Int) ^ k ≤ 256 ^ 7 := pow_le7 k (by omega)
        have e : (256 : Int) ^ 7 = 72057594037927936 := by decide
        omega
      have hnext : val (xs.take (k + 1)) = val (xs.take k) * 256 + xs[k] := by
        rw [List.take_succ_eq_append_getElem hlt, val_snoc]
      obtain ⟨bb, off, hab, hcell⟩ : ∃ bb off, a = some ⟨bb, off, none⟩ ∧ w.cell? ⟨bb, off + k, none⟩ = some (.int .u8 xs[k]) := by
        rcases HS.out with ⟨_, h⟩ | ⟨ad, cap', hv, _, _, hc⟩
        · exact absurd h hne
        · obtain rfl : a = some ad := by injection hv
          have hck := hc k xs[k] (List.getElem?_eq_getElem hlt)
          obtain ⟨x, r, hxr⟩ := List.exists_cons_of_ne_nil hne
          have hsp := spot_of_cell (hc 0 x (by rw [hxr]; rfl))
          obtain ⟨b, off, s⟩ := ad
          have hs' : s = none := by simpa [Addr.add] using hsp
          subst hs'
          exact ⟨b, off, rfl, by rw [Addr.add_lit] at hck; exact hck⟩
      subst hab
      have hv0 := hbd.1
      have hor := or_add (val (xs.take k)) xs[k] hv0 hv7 hx.1 hx.2
      obtain ⟨x, hxe⟩ : ∃ x, x = xs[k] := ⟨_, rfl⟩
      obtain ⟨z, hze⟩ : ∃ z, z = val (xs.take k) := ⟨_, rfl⟩
      rw [← hxe, ← hze] at hor hnext
      rw [← hxe] at hcell hx
      rw [← hze] at hv0 hv7
      rw [← hze]
      have HN := Lib.hid hnext
      clear hnext hbd hxe hze hlen hne
      go_wp2
      go_round
      case rel => exact ⟨k + 1, by omega, by go_num, by rw [HN.out]⟩
      case measure => simp [intOf]; omega
    · obtain rfl : k = xs.length := by omega
      go_wp2
      go_ret
      exact ⟨rfl, rfl⟩

/-! ### the unpacker's calls -/
theorem pow_le_le (j k : Nat) (h : j ≤ k) : (256 : Int) ^ j ≤ 256 ^ k := by
  obtain ⟨d, rfl⟩ : ∃ d, k = j + d := ⟨k - j, by omega⟩
  rw [Int.pow_add]
  have h1 : (0 : Int) ≤ 256 ^ j := Int.pow_nonneg (by omega)
  have h2 : (1 : Int) ≤ 256 ^ d := by
    have : (0 : Int) < 256 ^ d := Int.pow_pos (by omega)
    omega
  have := Int.mul_le_mul_of_nonneg_left h2 h1
  omega
theorem takeE_self (l : List Int) (e n : Int) (he : e ≠ 0) : takeE l e n = e := by unfold takeE; rw [if_pos he]
theorem takeR_rng {l : List Int} (h : Rng l) (e n : Int) : Rng (takeR l e n) := by
  unfold takeR
  split
  · exact fun y hy => h y (List.mem_of_mem_take hy)
  · intro y hy; cases hy
theorem takeL_rng {l : List Int} (h : Rng l) (e n : Int) : Rng (takeL l e n) := by
  unfold takeL
  split
  · exact fun y hy => h y (List.mem_of_mem_drop hy)
  · exact h
theorem takeR_len (l : List Int) (e n : Int) : ((takeR l e n).length : Int) ≤ max n 0 := by
  unfold takeR
  split
  · rw [List.length_take]; omega
  · simp; omega

def NumU (w : World) (B u : Nat) (v : Value) (l : List Int) (e : Int) (n : Int) (k : IntKind) (r : Ending) (w' : World) : Prop :=
  r = .returned (.int k (val (takeR l e n))) ∧ UPost w B u v (takeL l e n) (takeE l e n) w'
set_option maxHeartbeats 400000 in
theorem uByte_any {w : World} {B u : Nat} {v : Value} {l : List Int} {e : Int} (h : UK w B u v l e) (hr : Rng l) :
    Calls Try.prog 29 #[.pointer (some ⟨u, 0, none⟩)] w (NumU w B u v l e 1 .u8) := by
  have HT := Lib.hid (utake_any 1 h)
  have hlen := takeR_len l e 1
  have hvb := val_bd _ (takeR_rng hr e 1)
  have hvb2 : val (takeR l e 1) < 256 := by
    have h7 : (256 : Int) ^ (takeR l e 1).length ≤ 256 ^ 1 := pow_le_le _ _ (by omega)
    have e7 : (256 : Int) ^ 1 = 256 := by decide
    omega
  have HR := Lib.hid (And.intro (takeR_rng hr e 1) (show (takeR l e 1).length ≤ 8 by omega))
  obtain ⟨z, hz⟩ : ∃ z, z = val (takeR l e 1) := ⟨_, rfl⟩
  rw [← hz] at hvb hvb2
  have hz0 := hvb.1
  have HZ := Lib.hid hz
  have HV := Lib.hid hvb2
  clear h hr hlen hvb hz
  go_enter Try.func29, Try.ntmps29
  go_wp2_with fail
  refine (HT.out).mono ?_
  rintro r w1 ⟨rv, rfl, hs, _, hp⟩
  have HN := Lib.hid (number_any hs HR.out.1 HR.out.2)
  rw [← HZ.out] at HN
  have HP := Lib.hid hp
  clear hs hp
  go_wp2_with fail
  refine (HN.out).mono ?_
  rintro r w2 ⟨rfl, rfl⟩
  go_wp2_with fail
  go_ret
  exact ⟨by rw [← HZ.out]; rfl, HP.out⟩
set_option maxHeartbeats 400000 in
theorem uInt_any {w : World} {B u : Nat} {v : Value} {l : List Int} {e : Int} (h : UK w B u v l e) (hr : Rng l) :
    Calls Try.prog 30 #[.pointer (some ⟨u, 0, none⟩)] w (NumU w B u v l e 4 .u32) := by
  have HT := Lib.hid (utake_any 4 h)
  have hlen := takeR_len l e 4
  have hvb := val_bd _ (takeR_rng hr e 4)
  have hvb2 : val (takeR l e 4) < 4294967296 := by
    have h7 : (256 : Int) ^ (takeR l e 4).length ≤ 256 ^ 4 := pow_le_le _ _ (by omega)
    have e7 : (256 : Int) ^ 4 = 4294967296 := by decide
    omega
  have HR := Lib.hid (And.intro (takeR_rng hr e 4) (show (takeR l e 4).length ≤ 8 by omega))
  obtain ⟨z, hz⟩ : ∃ z, z = val (takeR l e 4) := ⟨_, rfl⟩
  rw [← hz] at hvb hvb2
  have hz0 := hvb.1
  have HZ := Lib.hid hz
  have HV := Lib.hid hvb2
  clear h hr hlen hvb hz
  go_enter Try.func30, Try.ntmps30
  go_wp2_with fail
  refine (HT.out).mono ?_
  rintro r w1 ⟨rv, rfl, hs, _, hp⟩
  have HN := Lib.hid (number_any hs HR.out.1 HR.out.2)
  rw [← HZ.out] at HN
  have HP := Lib.hid hp
  clear hs hp
  go_wp2_with fail
  refine (HN.out).mono ?_
  rintro r w2 ⟨rfl, rfl⟩
  go_wp2_with fail
  go_ret
  exact ⟨by rw [← HZ.out]; rfl, HP.out⟩
/-- what is told lies in new memory -/
def FixU (w : World) (B u : Nat) (v : Value) (l : List Int) (e n : Int) (r : Ending) (w' : World) : Prop :=
  ∃ rv, r = .returned rv ∧ Sees w' rv (takeR l e n) ∧ (∀ g, rv.ownBlock = some g → w.heap.size ≤ g) ∧ UPost w B u v (takeL l e n) (takeE l e n) w'
set_option maxHeartbeats 400000 in
theorem uFixed_any (n : Int) {w : World} {B u : Nat} {v : Value} {l : List Int} {e : Int} (h : UK w B u v l e) (hl : l.length ≤ 1000000000) :
    Calls Try.prog 47 #[.pointer (some ⟨u, 0, none⟩), .int .i64 n] w (FixU w B u v l e n) := by
  have HT := Lib.hid (utake_any n h)
  have HU := Lib.hid (lt_of_blk h.cell)
  have hlen : (takeR l e n).length ≤ l.length := by
    unfold takeR; split
    · rw [List.length_take]; omega
    · exact Nat.zero_le _
  have HL := Lib.hid hlen
  clear h hlen
  go_enter Try.func47, Try.ntmps47
  go_wp2_with fail
  refine (HT.out).mono ?_
  rintro r w1 ⟨rv, rfl, hs, _, hp⟩
  have HC := Lib.hid (slclone_any hs (by have := HL.out; omega))
  have HP := Lib.hid hp
  clear hs hp
  go_wp2_with fail
  refine (HC.out).mono ?_
  rintro r w2 ⟨v2, rfl, ho, hk⟩
  have HF := Lib.hid (And.intro ho.sees (And.intro (fun g hg => Nat.le_trans HP.out.kp.size (ho.lt g hg).1) (UPost.later HP.out HU.out hk)))
  clear ho hk
  go_wp2_with fail
  go_ret
  exact ⟨v2, rfl, HF.out.1, HF.out.2.1, HF.out.2.2⟩

end Go.Proofs.Ytleapcbkkggecaa
