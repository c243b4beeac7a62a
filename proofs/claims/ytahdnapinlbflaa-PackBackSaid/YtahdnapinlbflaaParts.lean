/-
  PackParts: its walk.
-/
import Derived.Test.YtahdnapinlbflaaRun
namespace Go.Proofs.Ytahdnapinlbflaa
open Go.ChangeShapes Go.WideShapes Go.ChangeAt Go.RowKit

theorem wpList_append_want {P : Program} (w : World) {ops : Array Oper} {rest : List Oper} {o : Oper} {a : Act} {Q : Exit → Act → World → Prop} (hw : Region.wanted o (yielded ops a.tmps) = true) (s x : Operand) (t tn : TypeId)
    (ho : o.op = .call { callee := .builtin .append, args := #[s, x], argTypes := #[t, tn] }) (vs vx : Value) (hs : a.eval s = vs) (hx : a.eval x = vx)
    (v' : Value) (w' : World) (hr : (Builtin.append_ #[t, tn] o.type #[vs, vx]).run P w = .ok v' w') (h : wpList P ops Q rest (a.put o.dst v') w') : wpList P ops Q (o :: rest) a w :=
  BigFrame.wpList_want hw fun _ hK => Lib.wp_append_run w s x t tn ho vs vx hs hx v' w' hr (hK _ _ h)

/-- another packer's blocks stay apart, and as they were -/
theorem apart_after {w w1 : World} {B p q : Nat} {v u v1 : Value} {l2 : List Int} {e2 : Int} (hq : PK w B q u 8192 l2 e2) (hs : ∀ x, PF p v x → ¬ PF q u x) (k : Kp (PF p v) w w1) (f : Fr w v v1) :
    PK w1 B q u 8192 l2 e2 ∧ ∀ x, PF p v1 x → ¬ PF q u x := by
  refine ⟨hq.kept k (fun x hx hp => hs x hp hx), ?_⟩
  rintro x (rfl | hx)
  · exact hs x (.inl rfl)
  · rcases f with h3 | h3
    · exact hs x (.inr (by rw [← h3]; exact hx))
    · intro hh
      have := h3 x hx
      have := (hq.foot x hh).2
      omega

/-- three packers made since W, apart -/
structure Tri (W w : World) (a b c : Nat) (va vb vc : Value) (sa sb sc : List Int × Int) : Prop where
  pa : PK w W.heap.size a va 8192 sa.1 sa.2
  pb : PK w W.heap.size b vb 8192 sb.1 sb.2
  pc : PK w W.heap.size c vc 8192 sc.1 sc.2
  ab : ∀ x, PF a va x → ¬ PF b vb x
  ac : ∀ x, PF a va x → ¬ PF c vc x
  bc : ∀ x, PF b vb x → ¬ PF c vc x
  keep : Kp (fun _ => False) W w
namespace Tri
variable {W w w1 : World} {a b c : Nat} {va vb vc : Value} {sa sb sc r : List Int × Int}
theorem fresh (h : Tri W w a b c va vb vc sa sb sc) (k : Kp (fun _ => False) w w1) : Tri W w1 a b c va vb vc sa sb sc :=
  ⟨h.pa.kept k (fun _ _ f => f), h.pb.kept k (fun _ _ f => f), h.pc.kept k (fun _ _ f => f), h.ab, h.ac, h.bc, h.keep.trans k (fun _ _ f => f)⟩
theorem kp {p : Nat} {v : Value} {l : List Int} {e : Int} (hp : PK w W.heap.size p v 8192 l e) (keep : Kp (fun _ => False) W w) (k : Kp (PF p v) w w1) : Kp (fun _ => False) W w1 :=
  keep.trans k (fun x hx hh => by have := (hp.foot x hh).1; omega)
theorem putA (h : Tri W w a b c va vb vc sa sb sc) (hp : PPost w W.heap.size a va 8192 r w1) : ∃ v, Tri W w1 a b c v vb vc r sb sc ∧ Kp (PF a va) w w1 := by
  obtain ⟨v, h1, h2, h3⟩ := hp
  obtain ⟨b1, ab⟩ := apart_after h.pb h.ab h2 h3
  obtain ⟨c1, ac⟩ := apart_after h.pc h.ac h2 h3
  exact ⟨v, ⟨h1, b1, c1, ab, ac, h.bc, kp h.pa h.keep h2⟩, h2⟩
theorem putB (h : Tri W w a b c va vb vc sa sb sc) (hp : PPost w W.heap.size b vb 8192 r w1) : ∃ v, Tri W w1 a b c va v vc sa r sc ∧ Kp (PF b vb) w w1 := by
  obtain ⟨v, h1, h2, h3⟩ := hp
  obtain ⟨a1, ba⟩ := apart_after h.pa (fun x hb ha => h.ab x ha hb) h2 h3
  obtain ⟨c1, bc⟩ := apart_after h.pc h.bc h2 h3
  exact ⟨v, ⟨a1, h1, c1, fun x ha hb => ba x hb ha, h.ac, bc, kp h.pb h.keep h2⟩, h2⟩
theorem putC (h : Tri W w a b c va vb vc sa sb sc) (hp : PPost w W.heap.size c vc 8192 r w1) : ∃ v, Tri W w1 a b c va vb v sa sb r ∧ Kp (PF c vc) w w1 := by
  obtain ⟨v, h1, h2, h3⟩ := hp
  obtain ⟨a1, ca⟩ := apart_after h.pa (fun x hc ha => h.ac x ha hc) h2 h3
  obtain ⟨b1, cb⟩ := apart_after h.pb (fun x hc hb => h.bc x hb hc) h2 h3
  exact ⟨v, ⟨a1, b1, h1, h.ab, fun x ha hc => ca x hc ha, fun x hb hc => cb x hc hb, kp h.pc h.keep h2⟩, h2⟩
theorem away {p : Nat} {v bv : Value} {l xs : List Int} {e : Int} (hp : PK w W.heap.size p v 8192 l e) (hs : Sees W bv xs) : Away bv xs (PF p v) := fun hne g hg hpf => by
  have := hs.lt hne g hg
  have := (hp.foot g hpf).1
  omega
end Tri

/-- what a round over items has at hand: the item's cells, in a later world -/
theorem round_item {W wr : World} {lv : Value} {its : List Itm} (h : ItemsAt W lv its) {k : Nat} (hlt : k < its.length) (hkp : Kp (fun _ => False) W wr) :
    ∃ b off cap, lv = .slice (some ⟨b, off, none⟩) its.length cap ∧ cap ≤ 9223372036854775807 ∧ its.length ≤ cap ∧ ItmLit wr b off k its[k] ∧ Good W its[k] ∧ ∃ bp bc, its[k].b = .slice bp its[k].xs.length bc := by
  have hne : its ≠ [] := by intro he; subst he; simp at hlt
  obtain ⟨b, off, cap, hlv, h1, h2, hit⟩ := h.lit hne
  obtain ⟨c, g⟩ := hit k its[k] (List.getElem?_eq_getElem hlt)
  have hc : ∀ {p : Addr} {u : Value}, W.cell? p = some u → wr.cell? p = some u := fun hh => (hkp.cell (lt_of_cell hh) (fun f => f)).trans hh
  exact ⟨b, off, cap, hlv, h2, h1, ⟨hc c.c0, hc c.c1, hc c.c2, hc c.c3⟩, g, sees_form g.sees⟩

-- MAIN
theorem ItemsAt.rng {W : World} {lv : Value} {its : List Itm} (h : ItemsAt W lv its) : ∀ it ∈ its, Rng it.xs := by
  rcases h with ⟨_, rfl⟩ | ⟨a, cap, _, _, _, h⟩
  · intro it hi; cases hi
  · intro it hi
    obtain ⟨j, hj, rfl⟩ := List.mem_iff_getElem.1 hi
    exact (h j _ (List.getElem?_eq_getElem hj)).2.rng
theorem parts_case (its more : List Itm) :
    ((runS 8192 its ([], 0)).2 = 0 ∧ (runS 8192 more ([], 0)).2 = 0 ∧ ((runS 8192 its ([], 0)).1.length : Int) + (runS 8192 more ([], 0)).1.length ≤ 8192 →
      (runS 8192 more (runS 8192 its ([], 0))).1 = (runS 8192 its ([], 0)).1 ++ (runS 8192 more ([], 0)).1 ∧ (runS 8192 more (runS 8192 its ([], 0))).2 = 0) ∧
    (¬ ((runS 8192 its ([], 0)).2 = 0 ∧ (runS 8192 more ([], 0)).2 = 0 ∧ ((runS 8192 its ([], 0)).1.length : Int) + (runS 8192 more ([], 0)).1.length ≤ 8192) → (runS 8192 more (runS 8192 its ([], 0))).2 ≠ 0) := by
  generalize hs : runS 8192 its ([], 0) = s
  obtain ⟨la, ea⟩ := s
  by_cases he : ea = 0
  · subst he
    have hl := (run_len 8192 its [] (by simp) (by rw [hs])).2
    rw [hs] at hl
    have h := run_parts 8192 la more [] (by simpa using hl)
    rw [List.append_nil] at h
    refine ⟨fun hh => ?_, fun hh => h.2 (fun hx => hh ⟨rfl, hx.1, hx.2⟩)⟩
    rw [h.1 ⟨hh.2.1, hh.2.2⟩]
    exact ⟨rfl, rfl⟩
  · rw [run_err 8192 more la ea he]
    exact ⟨fun hh => absurd hh.1 he, fun _ => he⟩
def Rel1 (W : World) (a b c : Nat) (its : List Itm) (k : Nat) (wr : World) : Prop :=
  ∃ va vc, Tri W wr a b c va (.slice none 0 0) vc (runS 8192 (its.take k) ([], 0)) ([], 0) (runS 8192 (its.take k) ([], 0))
def Rel2 (W : World) (a b c : Nat) (its more : List Itm) (k : Nat) (wr : World) : Prop :=
  ∃ va vb vc, Tri W wr a b c va vb vc (runS 8192 its ([], 0)) (runS 8192 (more.take k) ([], 0)) (runS 8192 (more.take k) (runS 8192 its ([], 0)))

set_option maxHeartbeats 8000000 in
theorem parts_law {W : World} {lv mv : Value} {its more : List Itm} (h : ItemsAt W lv its) (hj : ItemsAt W mv more) :
    Calls Try.prog 7 #[lv, mv] W fun r w' => r = .returned (.bool true) ∧ Kp (fun _ => False) W w' := by
  obtain ⟨la, lc, rfl, hlc, hlm⟩ := h.form
  obtain ⟨ma, mc, rfl, hmc, hmm⟩ := hj.form
  have HL := Lib.hid (fun w => live_any w)
  have HRI := Lib.hid h.rng
  have HRJ := Lib.hid hj.rng
  have HI := Lib.hid h
  have HJ := Lib.hid hj
  have hlc63 : lc ≤ 9223372036854775807 := hlm
  have hmc63 : mc ≤ 9223372036854775807 := hmm
  clear h hj hlm hmm
  go_enter Try.func7, Try.ntmps7
  go_wp2_with fail
  refine (HL.out _).mono ?_
  rintro r w1 ⟨rfl, hk1⟩
  have HF := Lib.hid (few_any ((HI.out).kept hk1))
  have HK1 := Lib.hid hk1
  clear hk1
  go_wp2_with fail
  refine (HF.out).mono ?_
  rintro r w2 ⟨qb, rfl, hq, hk⟩
  have hk2 := (HK1.out).trans hk (fun _ _ f => f)
  have HK2 := Lib.hid hk2
  have HQ := Lib.hid hq
  clear hk hk2 hq
  cases qb
  · go_wp2_with fail
    refine (HL.out _).mono ?_
    rintro r w3 ⟨rfl, hk3⟩
    have HK3 := Lib.hid ((HK2.out).trans hk3 (fun _ _ f => f))
    clear hk3
    go_wp2_with fail
    go_ret
    exact ⟨rfl, HK3.out⟩
  obtain ⟨hl200, hxs⟩ := HQ.out rfl
  have HX := Lib.hid hxs
  have HG := Lib.hid (few_any ((HJ.out).kept HK2.out))
  clear hxs
  go_wp2_with fail
  refine (HG.out).mono ?_
  rintro r w3 ⟨qc, rfl, hq, hk⟩
  have hk3 := (HK2.out).trans hk (fun _ _ f => f)
  have HK3 := Lib.hid hk3
  have HQ2 := Lib.hid hq
  clear hk hk3 hq
  cases qc
  · go_wp2_with fail
    refine (HL.out _).mono ?_
    rintro r w4 ⟨rfl, hk4⟩
    have HK4 := Lib.hid ((HK3.out).trans hk4 (fun _ _ f => f))
    clear hk4
    go_wp2_with fail
    go_ret
    exact ⟨rfl, HK4.out⟩
  obtain ⟨hm200, hys⟩ := HQ2.out rfl
  have HY := Lib.hid hys
  have HN1 := Lib.hid (newP_any 8192 (w := w3) (B := W.heap.size) HK3.out.size)
  clear hys
  go_wp2_with fail
  refine (HN1.out).mono ?_
  rintro r w4 ⟨rfl, hp, hk, hsz⟩
  rw [if_pos (by omega)] at hp
  have hk4 := (HK3.out).trans hk (fun _ _ f => f)
  have HN2 := Lib.hid (newP_any 8192 (w := w4) (B := W.heap.size) hk4.size)
  have HP := Lib.hid hp
  have HK4 := Lib.hid hk4
  have HSZ := Lib.hid hsz
  clear hp hk hk4 hsz
  go_wp2_with fail
  refine (HN2.out).mono ?_
  rintro r w5 ⟨rfl, hp, hk, hsz⟩
  rw [if_pos (by omega)] at hp
  have hk5 := (HK4.out).trans hk (fun _ _ f => f)
  have HN3 := Lib.hid (newP_any 8192 (w := w5) (B := W.heap.size) hk5.size)
  have HPb := Lib.hid hp
  have HPa := Lib.hid ((HP.out).kept hk (fun _ _ f => f))
  have HK5 := Lib.hid hk5
  have HSZ5 := Lib.hid hsz
  clear hp hk hk5 hsz
  go_wp2_with fail
  refine (HN3.out).mono ?_
  rintro r w6 ⟨rfl, hp, hk, hsz⟩
  rw [if_pos (by omega)] at hp
  obtain ⟨p1, hp1⟩ : ∃ p1, p1 = w3.heap.size := ⟨_, rfl⟩
  obtain ⟨p2, hp2⟩ : ∃ p2, p2 = w4.heap.size := ⟨_, rfl⟩
  obtain ⟨p3, hp3⟩ : ∃ p3, p3 = w5.heap.size := ⟨_, rfl⟩
  have hnil : ∀ p q : Nat, p ≠ q → ∀ x, PF p (.slice none 0 0) x → ¬ PF q (.slice none 0 0) x := by
    rintro p q hpq x (rfl | hx) (hq | hq)
    · exact hpq hq
    · cases hq
    · cases hx
    · cases hx
  have hstart : Rel1 W p1 p2 p3 its 0 w6 := by
    have h1 := HSZ.out
    have h2 := HSZ5.out
    refine ⟨_, _, ⟨?_, ?_, ?_, hnil _ _ (by omega), hnil _ _ (by omega), hnil _ _ (by omega), (HK5.out).trans hk (fun _ _ f => f)⟩⟩
    · rw [hp1]; exact (HPa.out).kept hk (fun _ _ f => f)
    · rw [hp2]; exact (HPb.out).kept hk (fun _ _ f => f)
    · rw [hp3]; exact hp
  have HS := Lib.hid hstart
  rw [← hp1, ← hp2, ← hp3]
  clear hp hk hsz hstart hnil hp1 hp2 hp3
  go_wp2_with fail
  go_loopw [46] (fun i wr => ∃ k : Nat, k ≤ its.length ∧ i = .int .i64 k ∧ Hid (Rel1 W p1 p2 p3 its k wr)) (fun i _ => its.length - (intOf i).toNat)
  case atStart => exact ⟨0, by omega, rfl, HS⟩
  case round =>
    obtain ⟨k, hk, rfl, hrel⟩ := hrel
    by_cases hlt : k < its.length
    · obtain ⟨va, vc, htri⟩ := hrel.out
      obtain ⟨b, off, cap, hlv, hcap, hlc, hcell, g, bp, bc, hb⟩ := round_item HI.out hlt htri.keep
      obtain ⟨rfl, rfl⟩ : la = some ⟨b, off, none⟩ ∧ lc = cap := by injection hlv with h1 _ h2; exact ⟨h1, h2⟩
      obtain ⟨e0, e1, e2, e3⟩ := hcell
      have hxl := HX.out its[k] (List.getElem_mem hlt)
      have hstep1 := run_take 8192 its k hlt ([], 0)
      have hstep2 := run_take 8192 its k hlt ([], 0)
      obtain ⟨it, hitk⟩ : ∃ it, it = its[k] := ⟨_, rfl⟩
      rw [← hitk] at e0 e1 e2 e3 g hxl hb hstep1 hstep2
      obtain ⟨d, V, n, bv, xs⟩ := it
      simp only at hb e0 e1 e2 e3
      subst hb
      have hka : Kp (fun _ => False) wr (wr.alloc (.cells #[.int .i64 d, .int .u64 V, .slice bp xs.length bc, .int .i64 n] 32)) := (Kp.refl _ _).alloc _
      have htri1 := htri.fresh hka
      have hb0 := new_blk wr (.cells #[.int .i64 d, .int .u64 V, .slice bp xs.length bc, .int .i64 n] 32)
      have hxs : xs.length ≤ 900000 := Nat.le_trans hxl (by omega)
      have HP := Lib.hid (put_any d V n g.vr.1 g.vr.2 htri1.keep.size htri1.pa (g.sees.kept htri1.keep (fun _ _ _ f => f)) (Tri.away htri1.pa g.sees) hxs)
      have HFt := Lib.hid htri.pa.foot
      have HT := Lib.hid htri1
      have HB := Lib.hid hb0
      have HG := Lib.hid g
      have HS1 := Lib.hid hstep1
      have HS2 := Lib.hid hstep2
      clear htri htri1 hka hb0 g hstep1 hstep2 hrel hlv hitk
      go_wp2_with fail
      refine (HP.out).mono ?_
      rintro r w5 ⟨rfl, hp⟩
      obtain ⟨v5, htri5, hk5⟩ := (HT.out).putA hp
      have hb5 := kept_blk HB.out hk5 (fun hh => absurd (HFt.out _ hh).2 (Nat.lt_irrefl _))
      have c0 : w5.cell? ⟨wr.heap.size, 0, none⟩ = some (.int .i64 d) := (cell_blk hb5 0).trans rfl
      have c1 : w5.cell? ⟨wr.heap.size, 1, none⟩ = some (.int .u64 V) := (cell_blk hb5 1).trans rfl
      have c2 : w5.cell? ⟨wr.heap.size, 2, none⟩ = some (.slice bp xs.length bc) := (cell_blk hb5 2).trans rfl
      have c3 : w5.cell? ⟨wr.heap.size, 3, none⟩ = some (.int .i64 n) := (cell_blk hb5 3).trans rfl
      have HP2 := Lib.hid (put_any d V n HG.out.vr.1 HG.out.vr.2 htri5.keep.size htri5.pc (HG.out.sees.kept htri5.keep (fun _ _ _ f => f)) (Tri.away htri5.pc HG.out.sees) hxs)
      have HT5 := Lib.hid htri5
      clear hp htri5 hk5 hb5
      go_wp2_with fail
      refine (HP2.out).mono ?_
      rintro r w6 ⟨rfl, hp⟩
      obtain ⟨v6, htri6, _⟩ := (HT5.out).putC hp
      have hnext : Rel1 W p1 p2 p3 its (k + 1) w6 := by
        refine ⟨v5, v6, ?_⟩
        rw [HS1.out]
        try rw [HS2.out]
        exact htri6
      have HN := Lib.hid hnext
      clear hp htri6 hnext
      go_wp2_with fail
      go_roundw
      case rel => exact ⟨k + 1, by omega, by go_num, HN⟩
      case measure => simp [intOf]; omega
    · obtain rfl : k = its.length := by omega
      obtain ⟨va, vc, htri⟩ := hrel.out
      rw [List.take_length] at htri
      have HS2 : Hid (Rel2 W p1 p2 p3 its more 0 wr) := Lib.hid ⟨va, _, vc, htri⟩
      obtain ⟨wo, rfl⟩ : ∃ wo : World, wo = wr := ⟨_, rfl⟩
      clear htri hrel
      go_wp2_with fail
      go_loopw [59] (fun i wr => ∃ k : Nat, k ≤ more.length ∧ i = .int .i64 k ∧ Hid (Rel2 W p1 p2 p3 its more k wr)) (fun i _ => more.length - (intOf i).toNat)
      case atStart => exact ⟨0, by omega, rfl, HS2⟩
      case round =>
        obtain ⟨k, hk, rfl, hrel⟩ := hrel
        by_cases hlt : k < more.length
        · obtain ⟨va, vb, vc, htri⟩ := hrel.out
          obtain ⟨b, off, cap, hlv, hcap, hlc, hcell, g, bp, bc, hb⟩ := round_item HJ.out hlt htri.keep
          obtain ⟨rfl, rfl⟩ : ma = some ⟨b, off, none⟩ ∧ mc = cap := by injection hlv with h1 _ h2; exact ⟨h1, h2⟩
          obtain ⟨e0, e1, e2, e3⟩ := hcell
          have hxl := HY.out more[k] (List.getElem_mem hlt)
          have hstep1 := run_take 8192 more k hlt ([], 0)
          have hstep2 := run_take 8192 more k hlt (runS 8192 its ([], 0))
          obtain ⟨it, hitk⟩ : ∃ it, it = more[k] := ⟨_, rfl⟩
          rw [← hitk] at e0 e1 e2 e3 g hxl hb hstep1 hstep2
          obtain ⟨d, V, n, bv, xs⟩ := it
          simp only at hb e0 e1 e2 e3
          subst hb
          have hka : Kp (fun _ => False) wr (wr.alloc (.cells #[.int .i64 d, .int .u64 V, .slice bp xs.length bc, .int .i64 n] 32)) := (Kp.refl _ _).alloc _
          have htri1 := htri.fresh hka
          have hb0 := new_blk wr (.cells #[.int .i64 d, .int .u64 V, .slice bp xs.length bc, .int .i64 n] 32)
          have hxs : xs.length ≤ 900000 := Nat.le_trans hxl (by omega)
          have HP := Lib.hid (put_any d V n g.vr.1 g.vr.2 htri1.keep.size htri1.pb (g.sees.kept htri1.keep (fun _ _ _ f => f)) (Tri.away htri1.pb g.sees) hxs)
          have HFt := Lib.hid htri.pb.foot
          have HT := Lib.hid htri1
          have HB := Lib.hid hb0
          have HG := Lib.hid g
          have HS1 := Lib.hid hstep1
          have HS2 := Lib.hid hstep2
          clear htri htri1 hka hb0 g hstep1 hstep2 hrel hlv hitk
          go_wp2_with fail
          refine (HP.out).mono ?_
          rintro r w5 ⟨rfl, hp⟩
          obtain ⟨v5, htri5, hk5⟩ := (HT.out).putB hp
          have hb5 := kept_blk HB.out hk5 (fun hh => absurd (HFt.out _ hh).2 (Nat.lt_irrefl _))
          have c0 : w5.cell? ⟨wr.heap.size, 0, none⟩ = some (.int .i64 d) := (cell_blk hb5 0).trans rfl
          have c1 : w5.cell? ⟨wr.heap.size, 1, none⟩ = some (.int .u64 V) := (cell_blk hb5 1).trans rfl
          have c2 : w5.cell? ⟨wr.heap.size, 2, none⟩ = some (.slice bp xs.length bc) := (cell_blk hb5 2).trans rfl
          have c3 : w5.cell? ⟨wr.heap.size, 3, none⟩ = some (.int .i64 n) := (cell_blk hb5 3).trans rfl
          have HP2 := Lib.hid (put_any d V n HG.out.vr.1 HG.out.vr.2 htri5.keep.size htri5.pc (HG.out.sees.kept htri5.keep (fun _ _ _ f => f)) (Tri.away htri5.pc HG.out.sees) hxs)
          have HT5 := Lib.hid htri5
          clear hp htri5 hk5 hb5
          go_wp2_with fail
          refine (HP2.out).mono ?_
          rintro r w6 ⟨rfl, hp⟩
          obtain ⟨v6, htri6, _⟩ := (HT5.out).putC hp
          have hnext : Rel2 W p1 p2 p3 its more (k + 1) w6 := by
            refine ⟨va, v5, v6, ?_⟩
            rw [HS1.out]
            try rw [HS2.out]
            exact htri6
          have HN := Lib.hid hnext
          clear hp htri6 hnext
          go_wp2_with fail
          go_roundw
          case rel => exact ⟨k + 1, by omega, by go_num, HN⟩
          case measure => simp [intOf]; omega
        · obtain rfl : k = more.length := by omega
          obtain ⟨va, vb, vc, htri⟩ := hrel.out
          rw [List.take_length] at htri
          have hcase := parts_case its more
          have hra : Rng (runS 8192 its ([], 0)).1 := run_rng 8192 its _ (fun y hy => by cases hy) (HRI.out)
          have hrb : Rng (runS 8192 more ([], 0)).1 := run_rng 8192 more _ (fun y hy => by cases hy) (HRJ.out)
          generalize runS 8192 more (runS 8192 its ([], 0)) = sc at htri hcase
          generalize runS 8192 its ([], 0) = sa at htri hcase hra
          generalize runS 8192 more ([], 0) = sb at htri hcase hrb
          obtain ⟨la1, ea⟩ := sa
          obtain ⟨lb1, eb⟩ := sb
          obtain ⟨lc1, ec⟩ := sc
          simp only at hcase hra hrb
          have HT := Lib.hid htri
          have HCA := Lib.hid hcase
          have HRA := Lib.hid hra
          have HRB := Lib.hid hrb
          have HO1 := Lib.hid (pout_any htri.pa)
          clear htri hcase hra hrb hrel
          go_wp2_with fail
          refine (HO1.out).mono ?_
          rintro r w7 ⟨x7, rfl, hx7, hk7⟩
          have HT7 := Lib.hid ((HT.out).fresh hk7)
          have HX7 := Lib.hid hx7
          have HO2 := Lib.hid (pout_any (HT7.out).pb)
          clear hx7 hk7
          go_wp2_with fail
          refine (HO2.out).mono ?_
          rintro r w8 ⟨x8, rfl, hx8, hk8⟩
          have HT8 := Lib.hid ((HT7.out).fresh hk8)
          have HX8 := Lib.hid (And.intro ((HX7.out).sees.kept hk8 (fun _ _ _ f => f)) hx8.sees)
          have HO3 := Lib.hid (pout_any (HT8.out).pc)
          clear hx8 hk8
          go_wp2_with fail
          refine (HO3.out).mono ?_
          rintro r w9 ⟨x9, rfl, hx9, hk9⟩
          have HT9 := Lib.hid ((HT8.out).fresh hk9)
          have h7 := ((HX8.out).1.kept hk9 (fun _ _ _ f => f))
          have h8 := ((HX8.out).2.kept hk9 (fun _ _ _ f => f))
          have h9 := hx9.sees
          clear hx9 hk9
          have hpa := (HT9.out).pa.lims
          have hpb := (HT9.out).pb.lims
          by_cases hea : ea = 0
          · subst hea
            rw [if_pos rfl] at h7
            have hla := (hpa rfl).2.2
            obtain ⟨a7, c7, rfl⟩ := sees_form h7
            by_cases heb : eb = 0
            · subst heb
              rw [if_pos rfl] at h8
              have hlb := (hpb rfl).2.2
              obtain ⟨a8, c8, rfl⟩ := sees_form h8
              by_cases hfit : (la1.length : Int) + lb1.length ≤ 8192
              · obtain ⟨rfl, rfl⟩ := (HCA.out).1 ⟨rfl, rfl, hfit⟩
                rw [if_pos rfl] at h9
                have HC := Lib.hid (bclone_any h7 (by omega))
                have H8 := Lib.hid h8
                have H9 := Lib.hid h9
                have hfit2 : ¬ (8192 : Int) < (la1.length : Int) + lb1.length := by omega
                clear h7 h8 h9 hpa hpb
                go_wp2_with fail
                refine (HC.out).mono ?_
                rintro r w10 ⟨v10, rfl, ho, hk10⟩
                obtain ⟨v11, w11, hap, ho2, hk11, _⟩ := run_append_by (B := w9.heap.size) hk10.size ho ((H8.out).kept hk10 (fun _ _ _ f => f)) (by omega)
                have hk12 : Kp (fun _ => False) w9 w11 := hk10.trans hk11 (fun x hx hh => by have := (ho.lt x hh).1; omega)
                have HA := Lib.hid hap
                have HE := Lib.hid (equal_any ((H9.out).kept hk12 (fun _ _ _ f => f)) ho2.sees ((HRA.out).append HRB.out) ((HRA.out).append HRB.out))
                have HT12 := Lib.hid ((HT9.out).fresh hk12)
                have HL1 := Lib.hid (plen_any (HT12.out).pc)
                have HL2 := Lib.hid (plen_any (HT12.out).pa)
                have HL3 := Lib.hid (plen_any (HT12.out).pb)
                have hsum : (((la1 ++ lb1).length : Int) == (la1.length : Int) + lb1.length) = true := by simp
                clear ho hk10 hap ho2 hk11 hk12
                go_wp2_with (at_builtin; refine wpList_append_want _ rfl _ _ _ _ rfl _ _ rfl rfl _ _ (HA.out _) ?_)
                refine (HE.out).mono ?_
                rintro r w13 ⟨rfl, rfl⟩
                go_wp2_with fail
                refine (HL1.out).mono ?_
                rintro r w13 ⟨rfl, rfl⟩
                go_wp2_with fail
                refine (HL2.out).mono ?_
                rintro r w13 ⟨rfl, rfl⟩
                go_wp2_with fail
                refine (HL3.out).mono ?_
                rintro r w13 ⟨rfl, rfl⟩
                go_wp2_with fail
                go_ret
                exact ⟨rfl, (HT12.out).keep⟩
              · have hec := (HCA.out).2 (fun hh => hfit hh.2.2)
                rw [if_neg hec] at h9
                obtain ⟨a9, c9, rfl⟩ := sees_form h9
                have hb1 : (ec != 0) = true := by simpa using hec
                have hfit2 : (8192 : Int) < (la1.length : Int) + lb1.length := by omega
                clear h7 h8 h9 hpa hpb hec hfit
                go_wp2_with fail
                go_ret
                exact ⟨rfl, (HT9.out).keep⟩
            · have hec := (HCA.out).2 (fun hh => heb hh.2.1)
              rw [if_neg hec] at h9
              rw [if_neg heb] at h8
              obtain ⟨a8, c8, rfl⟩ := sees_form h8
              obtain ⟨a9, c9, rfl⟩ := sees_form h9
              have hb1 : (ec != 0) = true := by simpa using hec
              have hb2 : (eb != 0) = true := by simpa using heb
              clear h7 h8 h9 hpa hpb hec heb
              go_wp2_with fail
              go_ret
              exact ⟨rfl, (HT9.out).keep⟩
          · have hec := (HCA.out).2 (fun hh => hea hh.1)
            rw [if_neg hec] at h9
            obtain ⟨a9, c9, rfl⟩ := sees_form h9
            have hb1 : (ec != 0) = true := by simpa using hec
            have hb2 : (ea != 0) = true := by simpa using hea
            clear h7 h8 h9 hpa hpb hec hea
            go_wp2_with fail
            go_ret
            exact ⟨rfl, (HT9.out).keep⟩

end Go.Proofs.Ytahdnapinlbflaa
