/-
  Contracts of the document's unpacker (package flurryref01).
-/
import Derived.Test.YtahdnapinlbflaaUc
namespace Go.Proofs.Ytahdnapinlbflaa
open Go.ChangeShapes Go.WideShapes Go.ChangeAt Go.RowKit

/-- a slice and an error: an unpacker made since B -/
structure VK (w : World) (B u : Nat) (v : Value) (l : List Int) (e : Int) : Prop where
  cell : w.heap[u]? = some (.cells #[v, .int .i64 e] 50 (0, 0))
  sees : Sees w v l
  away : l ≠ [] → ∀ g, v.ownBlock = some g → g ≠ u
  base : B ≤ u
theorem VK.cells {w : World} {B u : Nat} {v : Value} {l : List Int} {e : Int} (h : VK w B u v l e) :
    w.cell? ⟨u, 0, none⟩ = some v ∧ w.cell? ⟨u, 1, none⟩ = some (.int .i64 e) ∧ (∀ i, w.frozen? ⟨u, i, none⟩ = false) :=
  ⟨by rw [cell_blk h.cell]; rfl, by rw [cell_blk h.cell]; rfl, fun i => free_blk h.cell i⟩
theorem VK.kept {F : Nat → Prop} {w w' : World} {B u : Nat} {v : Value} {l : List Int} {e : Int} (h : VK w B u v l e) (k : Kp F w w') (hu : ¬ F u) (hv : l ≠ [] → ∀ g, v.ownBlock = some g → ¬ F g) : VK w' B u v l e :=
  ⟨kept_blk h.cell k hu, h.sees.kept k hv, h.away, h.base⟩
theorem VK.drewN {w : World} {B u : Nat} {v : Value} {l : List Int} {e : Int} (h : VK w B u v l e) (n : Nat) : VK (w.drewN n) B u v l e := ⟨h.cell, h.sees, h.away, h.base⟩

/-- behind taking, of a slice v: what is told, what is left -/
structure VPost (w : World) (B u : Nat) (v : Value) (l : List Int) (e : Int) (w' : World) : Prop where
  ex : ∃ v', VK w' B u v' l e ∧ (l ≠ [] → v'.ownBlock = v.ownBlock)
  kp : Kp (fun k => k = u) w w'
def TakeV (w : World) (B u : Nat) (v : Value) (l : List Int) (e n : Int) (r : Ending) (w' : World) : Prop :=
  ∃ rv, r = .returned rv ∧ Sees w' rv (takeR l e n) ∧ (takeR l e n ≠ [] → rv.ownBlock = v.ownBlock) ∧ VPost w B u v (takeL l e n) (takeE l e n) w'

theorem VPost.later {w w1 w2 : World} {B u : Nat} {v : Value} {l : List Int} {e : Int} (h : VPost w B u v l e w1) (_hu : u < w.heap.size) (k : Kp (fun _ => False) w1 w2) : VPost w B u v l e w2 := by
  obtain ⟨⟨v', h1, h2⟩, hk⟩ := h
  exact ⟨⟨v', h1.kept k (fun f => f) (fun _ _ _ f => f), h2⟩, hk.trans k (fun _ _ f => f.elim)⟩
theorem VK.setErr {w : World} {B u : Nat} {v : Value} {l : List Int} {e : Int} (h : VK w B u v l e) (x : Int) : VPost w B u v l x (w.setCell ⟨u, 1, none⟩ (.int .i64 x)) := by
  have k : Kp (fun k => k = u) w (w.setCell ⟨u, 1, none⟩ (.int .i64 x)) := Kp.setCell (F := fun k => k = u) (Kp.refl _ w) (p := ⟨u, 1, none⟩) (fun _ => rfl) _
  exact ⟨⟨v, ⟨by rw [set_blk h.cell]; rfl, h.sees.kept k h.away, h.away, h.base⟩, fun _ => rfl⟩, k⟩
theorem VK.setLeft {w : World} {B u : Nat} {v : Value} {l : List Int} {e : Int} (h : VK w B u v l e) (v' : Value) (l' : List Int) (hs : Sees w v' l') (hb : l' ≠ [] → l ≠ [] ∧ v'.ownBlock = v.ownBlock) : VPost w B u v l' e (w.setCell ⟨u, 0, none⟩ v') := by
  have k : Kp (fun k => k = u) w (w.setCell ⟨u, 0, none⟩ v') := Kp.setCell (F := fun k => k = u) (Kp.refl _ w) (p := ⟨u, 0, none⟩) (fun _ => rfl) _
  have ha : l' ≠ [] → ∀ g, v'.ownBlock = some g → g ≠ u := fun hne g hg => h.away (hb hne).1 g (by rw [← (hb hne).2]; exact hg)
  exact ⟨⟨v', ⟨by rw [set_blk h.cell]; rfl, hs.kept k ha, ha, h.base⟩, fun hne => (hb hne).2⟩, k⟩

set_option maxHeartbeats 1000000 in
theorem vtake_any (n : Int) {w : World} {B u : Nat} {v : Value} {l : List Int} {e : Int} (h : VK w B u v l e) :
    Calls Try.prog 49 #[.pointer (some ⟨u, 0, none⟩), .int .i64 n] w (TakeV w B u v l e n) := by
  obtain ⟨c0, c1, cf⟩ := h.cells
  have cf0 := cf 0
  have cf1 := cf 1
  by_cases he : e = 0
  · subst he
    by_cases hn : n < 0
    · have e1 : takeE l 0 n = 1 := by unfold takeE; rw [if_neg (by simp), if_pos hn]
      have hfin : TakeV w B u v l 0 n (.returned (.slice none 0 0)) (w.setCell ⟨u, 1, none⟩ (.int .i64 1)) := by
        unfold TakeV takeR takeL
        rw [e1, if_neg (by omega), if_neg (by omega)]
        exact ⟨_, rfl, .inl ⟨rfl, rfl⟩, fun h => absurd rfl h, h.setErr 1⟩
      have HF := Lib.hid hfin
      clear hfin h cf e1
      go_enter Try.func49, Try.ntmps49
      go_wp2
      go_ret
      exact HF.out
    · by_cases hlen : (l.length : Int) < n
      · obtain ⟨a, cap, rfl⟩ := sees_form h.sees
        have e1 : takeE l 0 n = 11 := by unfold takeE; rw [if_neg (by simp), if_neg hn, if_pos hlen]
        have hfin : TakeV w B u (.slice a l.length cap) l 0 n (.returned (.slice none 0 0)) (w.setCell ⟨u, 1, none⟩ (.int .i64 11)) := by
          unfold TakeV takeR takeL
          rw [e1, if_neg (by omega), if_neg (by omega)]
          exact ⟨_, rfl, .inl ⟨rfl, rfl⟩, fun h => absurd rfl h, h.setErr 11⟩
        have HF := Lib.hid hfin
        clear hfin h cf e1
        go_enter Try.func49, Try.ntmps49
        go_wp2
        go_ret
        exact HF.out
      · obtain ⟨m, rfl⟩ := Int.eq_ofNat_of_zero_le (show 0 ≤ n by omega)
        have hml : m ≤ l.length := by omega
        have e1 : takeE l 0 m = 0 := by unfold takeE; rw [if_neg (by simp), if_neg hn, if_neg hlen]
        have hcl : ∀ rv v', Sees w rv (l.take m) → (l ≠ [] → rv.ownBlock = v.ownBlock) → Sees w v' (l.drop m) → (l.drop m ≠ [] → v'.ownBlock = v.ownBlock) → Hid (TakeV w B u v l 0 m (.returned rv) (w.setCell ⟨u, 0, none⟩ v')) := by
          intro rv v' h1 h0 h2 h3
          refine Lib.hid ?_
          unfold TakeV takeR takeL
          rw [e1, if_pos rfl, if_pos rfl, Int.toNat_natCast]
          have hp := h.setLeft v' (l.drop m) h2 (fun hne => ⟨fun hl => hne (by rw [hl]; simp), h3 hne⟩)
          refine ⟨rv, rfl, h1.kept hp.kp (fun hne g hg => ?_), fun hne => h0 (fun hl => hne (by rw [hl]; simp)), hp⟩
          have hl : l ≠ [] := fun hl => hne (by rw [hl]; simp)
          exact h.away hl g (by rw [← h0 hl]; exact hg)
        have hs := h.sees
        clear h cf e1
        rcases hs with ⟨rfl, rfl⟩ | ⟨ad, cap, rfl, g1, g2, hc⟩
        · obtain rfl : m = 0 := by simpa using hml
          have HF := hcl (.slice none 0 0) (.slice none 0 0) (.inl ⟨rfl, rfl⟩) (fun h => absurd rfl h) (.inl ⟨rfl, rfl⟩) (fun h => absurd rfl h)
          clear hcl hn hlen hml
          go_enter Try.func49, Try.ntmps49
          go_wp2
          go_ret
          exact HF.out
        · by_cases hl : l = []
          · subst hl
            obtain rfl : m = 0 := by simpa using hml
            have HF := hcl (.slice (some ad) 0 cap) (.slice (some ad) 0 cap) (sees_empty ad cap g2) (fun h => absurd rfl h) (sees_empty ad cap g2) (fun h => absurd rfl h)
            clear hcl hn hlen hml hc
            go_enter Try.func49, Try.ntmps49
            go_wp2
            go_ret
            exact HF.out
          · obtain ⟨x, r, hxr⟩ := List.exists_cons_of_ne_nil hl
            have hsp := spot_of_cell (hc 0 x (by rw [hxr]; rfl))
            obtain ⟨b, off, s⟩ := ad
            have hs' : s = none := by simpa [Addr.add] using hsp
            subst hs'
            have hs : Sees w (.slice (some ⟨b, off, none⟩) l.length cap) l := .inr ⟨_, cap, rfl, g1, g2, hc⟩
            have hcap63 : cap ≤ 9223372036854775807 := g2
            have hml1 : ¬ (l.length : Int) < (m : Int) := hlen
            by_cases hcm : m = cap
            · obtain rfl : m = l.length := by omega
              have hcl2 : cap = l.length := hcm.symm
              subst hcl2
              have hdrop : l.drop l.length = [] := List.drop_eq_nil_of_le (Nat.le_refl _)
              have HF := hcl (.slice (some ⟨b, off, none⟩) l.length l.length) (.slice (some ⟨b, off, none⟩) 0 0) (sees_take hs _ (Nat.le_refl _)) (fun _ => rfl)
                (by rw [hdrop]; exact sees_empty _ _ (Nat.zero_le _)) (fun _ => rfl)
              clear hcl hdrop hc hs hsp hxr hcm hn
              go_enter Try.func49, Try.ntmps49
              go_wp2
              go_ret
              exact HF.out
            · have hmc : m < cap := by omega
              have HF := hcl (.slice (some ⟨b, off, none⟩) m cap) (.slice (some ⟨b, off + m, none⟩) (l.length - m) (cap - m)) (sees_take hs m hml) (fun _ => rfl) (sees_drop hs m hml) (fun _ => rfl)
              clear hcl hc hs hsp hxr hcm hn
              go_enter Try.func49, Try.ntmps49
              go_wp2
              go_ret
              exact HF.out
  · have e1 : takeE l e n = e := by unfold takeE; rw [if_pos he]
    have hfin : TakeV w B u v l e n (.returned (.slice none 0 0)) w := by
      unfold TakeV takeR takeL
      rw [e1, if_neg he, if_neg he]
      exact ⟨_, rfl, .inl ⟨rfl, rfl⟩, fun h => absurd rfl h, ⟨v, h, fun _ => rfl⟩, Kp.refl _ _⟩
    have hb : (e != 0) = true := by simpa using he
    have hb2 : (e == 0) = false := by simpa using he
    have HF := Lib.hid hfin
    clear hfin h cf e1
    go_enter Try.func49, Try.ntmps49
    go_wp2
    go_ret
    exact HF.out

set_option maxHeartbeats 1000000 in
theorem val_any {w : World} {b : Value} {xs : List Int} (hs : Sees w b xs) (hr : Rng xs) (h8 : xs.length ≤ 8) :
    Calls Try.prog 60 #[b] w fun r w' => r = .returned (.int .u64 (val xs)) ∧ w = w' := by
  obtain ⟨a, cap, rfl⟩ := sees_form hs
  have HS := Lib.hid hs
  have HR := Lib.hid hr
  clear hs hr
  go_enter Try.func60, Try.ntmps60
  go_wp2
  go_loop [4, 3] (fun i v => ∃ k : Nat, k ≤ xs.length ∧ i = .int .i64 k ∧ v = .int .u64 (val (xs.take k))) (fun i _ => xs.length - (intOf i).toNat)
  case atStart => exact ⟨0, Nat.zero_le _, rfl, rfl⟩
  case round =>
    obtain ⟨k, hk, rfl, rfl⟩ := hrel
    by_cases hlt : k < xs.length
    · have hne : xs ≠ [] := by intro h; subst h; simp at hlt
      have hbd := val_bd (xs.take k) (fun y hy => HR.out y (List.mem_of_mem_take hy))
      have hlen : (xs.take k).length = k := by rw [List.length_take]; omega
      rw [hlen] at hbd
      have hx := HR.out xs[k] (List.getElem_mem hlt)
      have hv7 : val (xs.take k) < 72057594037927936 := by
        have : (256 : Int) ^ k ≤ 256 ^ 7 := pow_le7 k (by omega)
        have e : (256 : Int) ^ 7 = 72057594037927936 := by decide
        omega
      have hnext : val (xs.take (k + 1)) = val (xs.take k) * 256 + xs[k] := by
        rw [List.take_succ_eq_append_getElem hlt, val_snoc]
      obtain ⟨bb, off, hab, hcell⟩ : ∃ bb off, a = some ⟨bb, off, none⟩ ∧ w.cell? ⟨bb, off + k, none⟩ = some (.int .u8 xs[k]) := by
        rcases HS.out with ⟨_, h⟩ | ⟨ad, cap', hv, _, _, hc⟩
        · exact absurd h hne
        · obtain rfl : a = some ad := by injection hv
          have hck := hc k xs[k] (List.getElem?_eq_getElem hlt)
          obtain ⟨x, r, hxr⟩ := List.exists_cons_of_ne_nil hne
          have hsp := spot_of_cell (hc 0 x (by rw [hxr]; rfl))
          obtain ⟨b, off, s⟩ := ad
          have hs' : s = none := by simpa [Addr.add] using hsp
          subst hs'
          exact ⟨b, off, rfl, by rw [Addr.add_lit] at hck; exact hck⟩
      subst hab
      have hv0 := hbd.1
      obtain ⟨x, hxe⟩ : ∃ x, x = xs[k] := ⟨_, rfl⟩
      obtain ⟨z, hze⟩ : ∃ z, z = val (xs.take k) := ⟨_, rfl⟩
      rw [← hxe, ← hze, Int.mul_comm] at hnext
      rw [← hxe] at hcell hx
      rw [← hze] at hv0 hv7
      rw [← hze]
      have HN := Lib.hid hnext
      clear hnext hbd hxe hze hlen hne
      go_wp2
      go_round
      case rel => exact ⟨k + 1, by omega, by go_num, by rw [HN.out]⟩
      case measure => simp [intOf]; omega
    · obtain rfl : k = xs.length := by omega
      go_wp2
      go_ret
      exact ⟨rfl, rfl⟩

def NumV (w : World) (B u : Nat) (v : Value) (l : List Int) (e : Int) (n : Int) (r : Ending) (w' : World) : Prop :=
  r = .returned (.int .u64 (val (takeR l e n))) ∧ VPost w B u v (takeL l e n) (takeE l e n) w'
set_option maxHeartbeats 400000 in
theorem vNum_any (n : Nat) (hn : n ≤ 8) {w : World} {B u : Nat} {v : Value} {l : List Int} {e : Int} (h : VK w B u v l e) (hr : Rng l) :
    Calls Try.prog 50 #[.pointer (some ⟨u, 0, none⟩), .int .i64 n] w (NumV w B u v l e n) := by
  have HT := Lib.hid (vtake_any n h)
  have hlen := takeR_len l e n
  have HR := Lib.hid (And.intro (takeR_rng hr e n) (show (takeR l e n).length ≤ 8 by omega))
  clear h hr hlen
  go_enter Try.func50, Try.ntmps50
  go_wp2_with fail
  refine (HT.out).mono ?_
  rintro r w1 ⟨rv, rfl, hs, _, hp⟩
  have HN := Lib.hid (val_any hs HR.out.1 HR.out.2)
  have HP := Lib.hid hp
  clear hs hp
  go_wp2_with fail
  refine (HN.out).mono ?_
  rintro r w2 ⟨rfl, rfl⟩
  go_wp2_with fail
  go_ret
  exact ⟨rfl, HP.out⟩

end Go.Proofs.Ytahdnapinlbflaa
