/-
  takes: what is taken from both unpackers.
-/
import Derived.Test.YtahdnapinlbflaaRw
import Derived.Test.YtahdnapinlbflaaFew
import Derived.Deep.RegionWith
namespace Go.Proofs.Ytahdnapinlbflaa
open Go.ChangeShapes Go.WideShapes Go.ChangeAt Go.RowKit

/-- an unpacker and the document's, apart, with the same left -/
structure Ut (w : World) (B u t : Nat) (vu vt : Value) (l : List Int) (e : Int) : Prop where
  uk : UK w B u vu l e
  vk : VK w B t vt l e
  ne : u ≠ t
  ut : l ≠ [] → ∀ g, vu.ownBlock = some g → g ≠ t
  tu : l ≠ [] → ∀ g, vt.ownBlock = some g → g ≠ u
theorem Ut.fresh {w w1 : World} {B u t : Nat} {vu vt : Value} {l : List Int} {e : Int} (h : Ut w B u t vu vt l e) (k : Kp (fun _ => False) w w1) : Ut w1 B u t vu vt l e :=
  ⟨h.uk.kept k (fun f => f) (fun _ _ _ f => f), h.vk.kept k (fun f => f) (fun _ _ _ f => f), h.ne, h.ut, h.tu⟩
theorem Ut.drewN {w : World} {B u t : Nat} {vu vt : Value} {l : List Int} {e : Int} (h : Ut w B u t vu vt l e) (n : Nat) : Ut (w.drewN n) B u t vu vt l e := h.fresh ((Kp.refl _ _).drewN n)
theorem Ut.mid {w w1 : World} {B u t : Nat} {vu vt : Value} {l l1 : List Int} {e e1 : Int} (h : Ut w B u t vu vt l e) (hp : UPost w B u vu l1 e1 w1) : VK w1 B t vt l e :=
  h.vk.kept hp.kp (fun hh => h.ne hh.symm) (fun hne g hg hh => h.tu hne g hg hh)
theorem Ut.both {w w1 w2 : World} {B u t : Nat} {vu vt : Value} {l l1 : List Int} {e e1 : Int} (h : Ut w B u t vu vt l e) (hp : UPost w B u vu l1 e1 w1) (hq : VPost w1 B t vt l1 e1 w2) (hl : l1 ≠ [] → l ≠ []) :
    (∃ vu' vt', Ut w2 B u t vu' vt' l1 e1) ∧ Kp (fun k => k = u ∨ k = t) w w2 := by
  obtain ⟨⟨vu1, hu1, hu2⟩, hk1⟩ := hp
  obtain ⟨⟨vt1, ht1, ht2⟩, hk2⟩ := hq
  have hut : l1 ≠ [] → ∀ g, vu1.ownBlock = some g → g ≠ t := fun hne g hg => h.ut (hl hne) g (by rw [← hu2 hne]; exact hg)
  have htu : l1 ≠ [] → ∀ g, vt1.ownBlock = some g → g ≠ u := fun hne g hg => h.tu (hl hne) g (by rw [← ht2 hne]; exact hg)
  exact ⟨⟨vu1, vt1, hu1.kept hk2 (fun hh => h.ne hh) hut, ht1, h.ne, hut, htu⟩, (hk1.mono (F := fun k => k = u ∨ k = t) (fun _ _ h => .inl h)).trans hk2 (fun _ _ h => .inr h)⟩

/-- what an item leaves, and the error behind it -/
def itL (l : List Int) (e d n : Int) : List Int :=
  if d = 0 then takeL l e n else if d = 1 then takeL l e 1 else if d = 2 then takeL l e 2 else if d = 3 then cntL l e 4 n else if d = 4 then takeL l e 4 else if d = 5 then cntL l e 2 n else if d = 8 then takeL l e 8 else l
def itE (l : List Int) (e d n : Int) : Int :=
  if d = 0 then takeE l e n else if d = 1 then takeE l e 1 else if d = 2 then takeE l e 2 else if d = 3 then cntE l e 4 n else if d = 4 then takeE l e 4 else if d = 5 then cntE l e 2 n else if d = 8 then takeE l e 8 else e
def TakesP (w : World) (B u t : Nat) (l1 : List Int) (e1 : Int) (r : Ending) (w' : World) : Prop :=
  r = .returned (.bool true) ∧ (∃ vu' vt', Ut w' B u t vu' vt' l1 e1) ∧ Kp (fun k => k = u ∨ k = t) w w'
theorem takes_close {w w0 w2 : World} {B u t : Nat} {l1 : List Int} {e1 : Int} (k0 : Kp (fun _ => False) w w0) (h : (∃ vu' vt', Ut w2 B u t vu' vt' l1 e1) ∧ Kp (fun k => k = u ∨ k = t) w0 w2) : TakesP w B u t l1 e1 (.returned (.bool true)) w2 :=
  ⟨rfl, h.1, (k0.mono (F := fun k => k = u ∨ k = t) (fun _ _ f => f.elim)).trans h.2 (fun _ _ h => h)⟩
theorem take_equal {w w1 w2 : World} {B u t : Nat} {vu vt rv rv2 : Value} {l l1 R : List Int} {e e1 : Int} (h : Ut w B u t vu vt l e) (hs : Sees w1 rv R) (ho : ∀ g, rv.ownBlock = some g → w.heap.size ≤ g) (hq : VPost w1 B t vt l1 e1 w2) (hs2 : Sees w2 rv2 R) (hr : Rng R) :
    Calls Try.prog 18 #[rv, rv2] w2 fun r w' => r = .returned (.bool true) ∧ w2 = w' := by
  have := equal_any (hs.kept hq.kp (fun _ g hg hh => by have := ho g hg; have := lt_of_blk h.vk.cell; omega)) hs2 hr hr
  simpa using this
theorem takeL_ne {l : List Int} {e n : Int} : takeL l e n ≠ [] → l ≠ [] := fun h hl => h (by subst hl; unfold takeL; split <;> simp)
theorem cntL_ne {l : List Int} {e : Int} {hd : Nat} {m : Int} : cntL l e hd m ≠ [] → l ≠ [] := fun h hl => h (by subst hl; unfold cntL; split <;> simp)

set_option maxHeartbeats 2000000 in
theorem takes_1 {w : World} {B u t : Nat} {vu vt : Value} {l : List Int} {e : Int} {b : Value} (V n : Int) (hb : ∃ bp bl bc, b = .slice bp bl bc)
    (h : Ut w B u t vu vt l e) (hr : Rng l) (hl : l.length ≤ 1000000000) :
    Calls Try.prog 22 #[.pointer (some ⟨u, 0, none⟩), .pointer (some ⟨t, 0, none⟩), .agg #[.int .i64 1, .int .u64 V, b, .int .i64 n]] w (TakesP w B u t (takeL l e 1) (takeE l e 1)) := by
  obtain ⟨bp, bl, bc, rfl⟩ := hb
  have hk0 : Kp (fun _ => False) w (w.alloc (.cells #[.int .i64 1, .int .u64 V, .slice bp bl bc, .int .i64 n] 32)) := (Kp.refl _ _).alloc _
  have h0 := h.fresh hk0
  have hb0 := new_blk w (.cells #[.int .i64 1, .int .u64 V, .slice bp bl bc, .int .i64 n] 32)
  have HU := Lib.hid (And.intro (lt_of_blk h.uk.cell) (lt_of_blk h.vk.cell))
  have HK0 := Lib.hid hk0
  have HB := Lib.hid hb0
  have HR := Lib.hid hr
  have HL := Lib.hid hl
  have HC := Lib.hid (uByte_any h0.uk hr)
  have H0 := Lib.hid h0
  clear h hk0 h0 hb0 hr hl
  go_enter Try.func22, Try.ntmps22
  go_wp2_with fail
  refine (HC.out).mono ?_
  rintro r w1 ⟨rfl, hp⟩
  have HD := Lib.hid (vNum_any 1 (by omega) ((H0.out).mid hp) HR.out)
  have hlen := takeR_len l e 1
  have hvb := val_bd _ (takeR_rng HR.out e 1)
  have hvb2 : val (takeR l e 1) < 256 := by
    have h7 : (256 : Int) ^ (takeR l e 1).length ≤ 256 ^ 1 := pow_le_le _ _ (by omega)
    have e7 : (256 : Int) ^ 1 = 256 := by decide
    omega
  have HP := Lib.hid hp
  have hz0 := hvb.1
  have hnn : takeR l e ((1 : Nat) : Int) = takeR l e 1 := rfl
  obtain ⟨z, hz⟩ : ∃ z, z = val (takeR l e 1) := ⟨_, rfl⟩
  have HZ := Lib.hid hz
  have HV := Lib.hid hvb2
  rw [← hz] at hz0 hvb2 ⊢
  have hzz : (z == z) = true := by simp
  clear hp hlen hvb hz hnn
  go_wp2_with fail
  refine (HD.out).mono ?_
  rintro r w2 ⟨rfl, hq⟩
  have HF := Lib.hid (takes_close HK0.out ((H0.out).both HP.out hq takeL_ne))
  rw [show val (takeR l e ((1 : Nat) : Int)) = z from HZ.out.symm]
  clear hq
  go_wp2_with fail
  go_ret
  exact HF.out

set_option maxHeartbeats 2000000 in
theorem takes_2 {w : World} {B u t : Nat} {vu vt : Value} {l : List Int} {e : Int} {b : Value} (V n : Int) (hb : ∃ bp bl bc, b = .slice bp bl bc)
    (h : Ut w B u t vu vt l e) (hr : Rng l) (hl : l.length ≤ 1000000000) :
    Calls Try.prog 22 #[.pointer (some ⟨u, 0, none⟩), .pointer (some ⟨t, 0, none⟩), .agg #[.int .i64 2, .int .u64 V, b, .int .i64 n]] w (TakesP w B u t (takeL l e 2) (takeE l e 2)) := by
  obtain ⟨bp, bl, bc, rfl⟩ := hb
  have hk0 : Kp (fun _ => False) w (w.alloc (.cells #[.int .i64 2, .int .u64 V, .slice bp bl bc, .int .i64 n] 32)) := (Kp.refl _ _).alloc _
  have h0 := h.fresh hk0
  have hb0 := new_blk w (.cells #[.int .i64 2, .int .u64 V, .slice bp bl bc, .int .i64 n] 32)
  have HU := Lib.hid (And.intro (lt_of_blk h.uk.cell) (lt_of_blk h.vk.cell))
  have HK0 := Lib.hid hk0
  have HB := Lib.hid hb0
  have HR := Lib.hid hr
  have HL := Lib.hid hl
  have HC := Lib.hid (uShort_any h0.uk hr)
  have H0 := Lib.hid h0
  clear h hk0 h0 hb0 hr hl
  go_enter Try.func22, Try.ntmps22
  go_wp2_with fail
  refine (HC.out).mono ?_
  rintro r w1 ⟨rfl, hp⟩
  have HD := Lib.hid (vNum_any 2 (by omega) ((H0.out).mid hp) HR.out)
  have hlen := takeR_len l e 2
  have hvb := val_bd _ (takeR_rng HR.out e 2)
  have hvb2 : val (takeR l e 2) < 65536 := by
    have h7 : (256 : Int) ^ (takeR l e 2).length ≤ 256 ^ 2 := pow_le_le _ _ (by omega)
    have e7 : (256 : Int) ^ 2 = 65536 := by decide
    omega
  have HP := Lib.hid hp
  have hz0 := hvb.1
  have hnn : takeR l e ((2 : Nat) : Int) = takeR l e 2 := rfl
  obtain ⟨z, hz⟩ : ∃ z, z = val (takeR l e 2) := ⟨_, rfl⟩
  have HZ := Lib.hid hz
  have HV := Lib.hid hvb2
  rw [← hz] at hz0 hvb2 ⊢
  have hzz : (z == z) = true := by simp
  clear hp hlen hvb hz hnn
  go_wp2_with fail
  refine (HD.out).mono ?_
  rintro r w2 ⟨rfl, hq⟩
  have HF := Lib.hid (takes_close HK0.out ((H0.out).both HP.out hq takeL_ne))
  rw [show val (takeR l e ((2 : Nat) : Int)) = z from HZ.out.symm]
  clear hq
  go_wp2_with fail
  go_ret
  exact HF.out

set_option maxHeartbeats 2000000 in
theorem takes_4 {w : World} {B u t : Nat} {vu vt : Value} {l : List Int} {e : Int} {b : Value} (V n : Int) (hb : ∃ bp bl bc, b = .slice bp bl bc)
    (h : Ut w B u t vu vt l e) (hr : Rng l) (hl : l.length ≤ 1000000000) :
    Calls Try.prog 22 #[.pointer (some ⟨u, 0, none⟩), .pointer (some ⟨t, 0, none⟩), .agg #[.int .i64 4, .int .u64 V, b, .int .i64 n]] w (TakesP w B u t (takeL l e 4) (takeE l e 4)) := by
  obtain ⟨bp, bl, bc, rfl⟩ := hb
  have hk0 : Kp (fun _ => False) w (w.alloc (.cells #[.int .i64 4, .int .u64 V, .slice bp bl bc, .int .i64 n] 32)) := (Kp.refl _ _).alloc _
  have h0 := h.fresh hk0
  have hb0 := new_blk w (.cells #[.int .i64 4, .int .u64 V, .slice bp bl bc, .int .i64 n] 32)
  have HU := Lib.hid (And.intro (lt_of_blk h.uk.cell) (lt_of_blk h.vk.cell))
  have HK0 := Lib.hid hk0
  have HB := Lib.hid hb0
  have HR := Lib.hid hr
  have HL := Lib.hid hl
  have HC := Lib.hid (uInt_any h0.uk hr)
  have H0 := Lib.hid h0
  clear h hk0 h0 hb0 hr hl
  go_enter Try.func22, Try.ntmps22
  go_wp2_with fail
  refine (HC.out).mono ?_
  rintro r w1 ⟨rfl, hp⟩
  have HD := Lib.hid (vNum_any 4 (by omega) ((H0.out).mid hp) HR.out)
  have hlen := takeR_len l e 4
  have hvb := val_bd _ (takeR_rng HR.out e 4)
  have hvb2 : val (takeR l e 4) < 4294967296 := by
    have h7 : (256 : Int) ^ (takeR l e 4).length ≤ 256 ^ 4 := pow_le_le _ _ (by omega)
    have e7 : (256 : Int) ^ 4 = 4294967296 := by decide
    omega
  have HP := Lib.hid hp
  have hz0 := hvb.1
  have hnn : takeR l e ((4 : Nat) : Int) = takeR l e 4 := rfl
  obtain ⟨z, hz⟩ : ∃ z, z = val (takeR l e 4) := ⟨_, rfl⟩
  have HZ := Lib.hid hz
  have HV := Lib.hid hvb2
  rw [← hz] at hz0 hvb2 ⊢
  have hzz : (z == z) = true := by simp
  clear hp hlen hvb hz hnn
  go_wp2_with fail
  refine (HD.out).mono ?_
  rintro r w2 ⟨rfl, hq⟩
  have HF := Lib.hid (takes_close HK0.out ((H0.out).both HP.out hq takeL_ne))
  rw [show val (takeR l e ((4 : Nat) : Int)) = z from HZ.out.symm]
  clear hq
  go_wp2_with fail
  go_ret
  exact HF.out

set_option maxHeartbeats 2000000 in
theorem takes_8 {w : World} {B u t : Nat} {vu vt : Value} {l : List Int} {e : Int} {b : Value} (V n : Int) (hb : ∃ bp bl bc, b = .slice bp bl bc)
    (h : Ut w B u t vu vt l e) (hr : Rng l) (hl : l.length ≤ 1000000000) :
    Calls Try.prog 22 #[.pointer (some ⟨u, 0, none⟩), .pointer (some ⟨t, 0, none⟩), .agg #[.int .i64 8, .int .u64 V, b, .int .i64 n]] w (TakesP w B u t (takeL l e 8) (takeE l e 8)) := by
  obtain ⟨bp, bl, bc, rfl⟩ := hb
  have hk0 : Kp (fun _ => False) w (w.alloc (.cells #[.int .i64 8, .int .u64 V, .slice bp bl bc, .int .i64 n] 32)) := (Kp.refl _ _).alloc _
  have h0 := h.fresh hk0
  have hb0 := new_blk w (.cells #[.int .i64 8, .int .u64 V, .slice bp bl bc, .int .i64 n] 32)
  have HU := Lib.hid (And.intro (lt_of_blk h.uk.cell) (lt_of_blk h.vk.cell))
  have HK0 := Lib.hid hk0
  have HB := Lib.hid hb0
  have HR := Lib.hid hr
  have HL := Lib.hid hl
  have HC := Lib.hid (uLong_any h0.uk hr)
  have H0 := Lib.hid h0
  clear h hk0 h0 hb0 hr hl
  go_enter Try.func22, Try.ntmps22
  go_wp2_with fail
  refine (HC.out).mono ?_
  rintro r w1 ⟨rfl, hp⟩
  have HD := Lib.hid (vNum_any 8 (by omega) ((H0.out).mid hp) HR.out)
  have hlen := takeR_len l e 8
  have hvb := val_bd _ (takeR_rng HR.out e 8)
  have hvb2 : val (takeR l e 8) < 18446744073709551616 := by
    have h7 : (256 : Int) ^ (takeR l e 8).length ≤ 256 ^ 8 := pow_le_le _ _ (by omega)
    have e7 : (256 : Int) ^ 8 = 18446744073709551616 := by decide
    omega
  have HP := Lib.hid hp
  have hz0 := hvb.1
  have hnn : takeR l e ((8 : Nat) : Int) = takeR l e 8 := rfl
  obtain ⟨z, hz⟩ : ∃ z, z = val (takeR l e 8) := ⟨_, rfl⟩
  have HZ := Lib.hid hz
  have HV := Lib.hid hvb2
  rw [← hz] at hz0 hvb2 ⊢
  have hzz : (z == z) = true := by simp
  clear hp hlen hvb hz hnn hvb2
  go_wp2_with fail
  refine (HD.out).mono ?_
  rintro r w2 ⟨rfl, hq⟩
  have HF := Lib.hid (takes_close HK0.out ((H0.out).both HP.out hq takeL_ne))
  rw [show val (takeR l e ((8 : Nat) : Int)) = z from HZ.out.symm]
  clear hq
  go_wp2_with fail
  go_ret
  exact HF.out

set_option maxHeartbeats 2000000 in
theorem takes_0 {w : World} {B u t : Nat} {vu vt : Value} {l : List Int} {e : Int} {b : Value} (V n : Int) (hb : ∃ bp bl bc, b = .slice bp bl bc)
    (h : Ut w B u t vu vt l e) (hr : Rng l) (hl : l.length ≤ 1000000000) :
    Calls Try.prog 22 #[.pointer (some ⟨u, 0, none⟩), .pointer (some ⟨t, 0, none⟩), .agg #[.int .i64 0, .int .u64 V, b, .int .i64 n]] w (TakesP w B u t (takeL l e n) (takeE l e n)) := by
  obtain ⟨bp, bl, bc, rfl⟩ := hb
  have hk0 : Kp (fun _ => False) w (w.alloc (.cells #[.int .i64 0, .int .u64 V, .slice bp bl bc, .int .i64 n] 32)) := (Kp.refl _ _).alloc _
  have h0 := h.fresh hk0
  have hb0 := new_blk w (.cells #[.int .i64 0, .int .u64 V, .slice bp bl bc, .int .i64 n] 32)
  have HU := Lib.hid (And.intro (lt_of_blk h.uk.cell) (lt_of_blk h.vk.cell))
  have HK0 := Lib.hid hk0
  have HB := Lib.hid hb0
  have HR := Lib.hid hr
  have HL := Lib.hid hl
  have HC := Lib.hid (uFixed_any n (h0.drewN 1).uk hl)
  have H0 := Lib.hid (h0.drewN 1)
  clear h hk0 h0 hb0 hr hl
  go_enter Try.func22, Try.ntmps22
  go_wp2
  go_region_with (first
    | (go_at_call 34; refine (HC.out).mono ?_; rintro r w1 ⟨rv, rfl, hs, ho, hp⟩; have hb1 := kept_blk (w := (w.alloc (.cells #[.int .i64 0, .int .u64 V, .slice bp bl bc, .int .i64 n] 32)).drew) HB.out hp.kp (fun hh => by have := HU.out.1; omega); have c3 : w1.cell? ⟨w.heap.size, 3, none⟩ = some (.int .i64 n) := (cell_blk hb1 3).trans rfl; have HD := Lib.hid (vtake_any n ((H0.out).mid hp)); have HS := Lib.hid (And.intro hs (And.intro ho hp)); clear hs ho hp hb1)
    | (go_at_call 49; refine (HD.out).mono ?_; rintro r w2 ⟨rv2, rfl, hs2, ho2, hq⟩; have HE := Lib.hid (take_equal (H0.out) HS.out.1 HS.out.2.1 hq hs2 (takeR_rng HR.out e n)); have HF := Lib.hid (takes_close HK0.out.drew ((H0.out).both HS.out.2.2 hq takeL_ne)); clear hs2 ho2 hq)
    | (go_at_call 18; refine (HE.out).mono ?_; rintro r w3 ⟨rfl, rfl⟩))
  all_goals
    go_wp2
    go_ret
    exact HF.out

set_option maxHeartbeats 2000000 in
theorem takes_3 {w : World} {B u t : Nat} {vu vt : Value} {l : List Int} {e : Int} {b : Value} (V n : Int) (hn : n ≤ 9223372036854775807) (hb : ∃ bp bl bc, b = .slice bp bl bc)
    (h : Ut w B u t vu vt l e) (hr : Rng l) (hl : l.length ≤ 1000000000) :
    Calls Try.prog 22 #[.pointer (some ⟨u, 0, none⟩), .pointer (some ⟨t, 0, none⟩), .agg #[.int .i64 3, .int .u64 V, b, .int .i64 n]] w (TakesP w B u t (cntL l e 4 n) (cntE l e 4 n)) := by
  obtain ⟨bp, bl, bc, rfl⟩ := hb
  have hk0 : Kp (fun _ => False) w (w.alloc (.cells #[.int .i64 3, .int .u64 V, .slice bp bl bc, .int .i64 n] 32)) := (Kp.refl _ _).alloc _
  have h0 := h.fresh hk0
  have hb0 := new_blk w (.cells #[.int .i64 3, .int .u64 V, .slice bp bl bc, .int .i64 n] 32)
  have HU := Lib.hid (And.intro (lt_of_blk h.uk.cell) (lt_of_blk h.vk.cell))
  have HK0 := Lib.hid hk0
  have HB := Lib.hid hb0
  have HR := Lib.hid hr
  have HL := Lib.hid hl
  have HC := Lib.hid (uBytes_any n hn (h0.drewN 1).uk hr hl)
  have H0 := Lib.hid (h0.drewN 1)
  clear h hk0 h0 hb0 hr hl
  go_enter Try.func22, Try.ntmps22
  go_wp2
  go_region_with (first
    | (go_at_call 35; refine (HC.out).mono ?_; rintro r w1 ⟨rv, rfl, hs, ho, hp⟩; have hb1 := kept_blk (w := (w.alloc (.cells #[.int .i64 3, .int .u64 V, .slice bp bl bc, .int .i64 n] 32)).drew) HB.out hp.kp (fun hh => by have := HU.out.1; omega); have c3 : w1.cell? ⟨w.heap.size, 3, none⟩ = some (.int .i64 n) := (cell_blk hb1 3).trans rfl; have HD := Lib.hid (vBytes_any n hn ((H0.out).mid hp) HR.out); have HS := Lib.hid (And.intro hs (And.intro ho hp)); clear hs ho hp hb1)
    | (go_at_call 51; refine (HD.out).mono ?_; rintro r w2 ⟨rv2, rfl, hs2, ho2, hq⟩; have HE := Lib.hid (take_equal (H0.out) HS.out.1 HS.out.2.1 hq hs2 (cntR_rng HR.out e 4 n)); have HF := Lib.hid (takes_close HK0.out.drew ((H0.out).both HS.out.2.2 hq cntL_ne)); clear hs2 ho2 hq)
    | (go_at_call 18; refine (HE.out).mono ?_; rintro r w3 ⟨rfl, rfl⟩))
  all_goals
    go_wp2
    go_ret
    exact HF.out

set_option maxHeartbeats 2000000 in
theorem takes_5 {w : World} {B u t : Nat} {vu vt : Value} {l : List Int} {e : Int} {b : Value} (V n : Int) (hn : n ≤ 9223372036854775807) (hb : ∃ bp bl bc, b = .slice bp bl bc)
    (h : Ut w B u t vu vt l e) (hr : Rng l) (hl : l.length ≤ 1000000000) :
    Calls Try.prog 22 #[.pointer (some ⟨u, 0, none⟩), .pointer (some ⟨t, 0, none⟩), .agg #[.int .i64 5, .int .u64 V, b, .int .i64 n]] w (TakesP w B u t (cntL l e 2 n) (cntE l e 2 n)) := by
  obtain ⟨bp, bl, bc, rfl⟩ := hb
  have hk0 : Kp (fun _ => False) w (w.alloc (.cells #[.int .i64 5, .int .u64 V, .slice bp bl bc, .int .i64 n] 32)) := (Kp.refl _ _).alloc _
  have h0 := h.fresh hk0
  have hb0 := new_blk w (.cells #[.int .i64 5, .int .u64 V, .slice bp bl bc, .int .i64 n] 32)
  have HU := Lib.hid (And.intro (lt_of_blk h.uk.cell) (lt_of_blk h.vk.cell))
  have HK0 := Lib.hid hk0
  have HB := Lib.hid hb0
  have HR := Lib.hid hr
  have HL := Lib.hid hl
  have HC := Lib.hid (uText_any n hn (h0.drewN 1).uk hr hl)
  have H0 := Lib.hid (h0.drewN 1)
  clear h hk0 h0 hb0 hr hl
  go_enter Try.func22, Try.ntmps22
  go_wp2
  go_region_with (first
    | (go_at_call 36; refine (HC.out).mono ?_; rintro r w1 ⟨rfl, hp⟩; have hb1 := kept_blk (w := (w.alloc (.cells #[.int .i64 5, .int .u64 V, .slice bp bl bc, .int .i64 n] 32)).drew) HB.out hp.kp (fun hh => by have := HU.out.1; omega); have c3 : w1.cell? ⟨w.heap.size, 3, none⟩ = some (.int .i64 n) := (cell_blk hb1 3).trans rfl; have HD := Lib.hid (vText_any n hn ((H0.out).mid hp) HR.out); have HS := Lib.hid hp; clear hp hb1)
    | (go_at_call 52; refine (HD.out).mono ?_; rintro r w2 ⟨rfl, hq⟩; have HF := Lib.hid (takes_close HK0.out.drew ((H0.out).both HS.out hq cntL_ne)); clear hq))
  all_goals
    go_wp2
    go_ret
    exact HF.out

set_option maxHeartbeats 1000000 in
theorem takes_else {w : World} {B u t : Nat} {vu vt : Value} {l : List Int} {e : Int} {b : Value} (d V n : Int) (hd : d ≠ 0 ∧ d ≠ 1 ∧ d ≠ 2 ∧ d ≠ 3 ∧ d ≠ 4 ∧ d ≠ 5 ∧ d ≠ 8) (hb : ∃ bp bl bc, b = .slice bp bl bc)
    (h : Ut w B u t vu vt l e) :
    Calls Try.prog 22 #[.pointer (some ⟨u, 0, none⟩), .pointer (some ⟨t, 0, none⟩), .agg #[.int .i64 d, .int .u64 V, b, .int .i64 n]] w (TakesP w B u t l e) := by
  obtain ⟨bp, bl, bc, rfl⟩ := hb
  have hk0 : Kp (fun _ => False) w (w.alloc (.cells #[.int .i64 d, .int .u64 V, .slice bp bl bc, .int .i64 n] 32)) := (Kp.refl _ _).alloc _
  have HF := Lib.hid (takes_close hk0 (And.intro (show ∃ vu' vt', Ut _ B u t vu' vt' l e from ⟨vu, vt, h.fresh hk0⟩) (Kp.refl _ _)))
  obtain ⟨d0, d1, d2, d3, d4, d5, d8⟩ := hd
  have b0 : (d == 0) = false := by simpa using d0
  have b1 : (d == 1) = false := by simpa using d1
  have b2 : (d == 2) = false := by simpa using d2
  have b3 : (d == 3) = false := by simpa using d3
  have b4 : (d == 4) = false := by simpa using d4
  have b5 : (d == 5) = false := by simpa using d5
  have b8 : (d == 8) = false := by simpa using d8
  clear h hk0 d0 d1 d2 d3 d4 d5 d8
  go_enter Try.func22, Try.ntmps22
  go_wp2_with fail
  go_ret
  exact HF.out

theorem takes_any {w : World} {B u t : Nat} {vu vt : Value} {l : List Int} {e : Int} {b : Value} (d V n : Int) (hn : n ≤ 9223372036854775807) (hb : ∃ bp bl bc, b = .slice bp bl bc)
    (h : Ut w B u t vu vt l e) (hr : Rng l) (hl : l.length ≤ 1000000000) :
    Calls Try.prog 22 #[.pointer (some ⟨u, 0, none⟩), .pointer (some ⟨t, 0, none⟩), .agg #[.int .i64 d, .int .u64 V, b, .int .i64 n]] w (TakesP w B u t (itL l e d n) (itE l e d n)) := by
  unfold itL itE
  by_cases d0 : d = 0
  · subst d0; exact takes_0 V n hb h hr hl
  by_cases d1 : d = 1
  · subst d1; exact takes_1 V n hb h hr hl
  by_cases d2 : d = 2
  · subst d2; exact takes_2 V n hb h hr hl
  by_cases d3 : d = 3
  · subst d3; exact takes_3 V n hn hb h hr hl
  by_cases d4 : d = 4
  · subst d4; exact takes_4 V n hb h hr hl
  by_cases d5 : d = 5
  · subst d5; exact takes_5 V n hn hb h hr hl
  by_cases d8 : d = 8
  · subst d8; exact takes_8 V n hb h hr hl
  simp only [if_neg d0, if_neg d1, if_neg d2, if_neg d3, if_neg d4, if_neg d5, if_neg d8]
  exact takes_else d V n ⟨d0, d1, d2, d3, d4, d5, d8⟩ hb h

end Go.Proofs.Ytahdnapinlbflaa
