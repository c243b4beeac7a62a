/-
  Contracts of the laws' own helpers: bytes held against bytes, the chapter's examples, what is put into both.
-/
import Derived.Test.YtahdnapinlbflaaRf
namespace Go.Proofs.Ytahdnapinlbflaa
open Go.ChangeShapes Go.WideShapes Go.ChangeAt Go.RowKit

theorem strOf_inj {xs ys : List Int} (hx : Rng xs) (hy : Rng ys) : ((strOfNums xs).toList == (strOfNums ys).toList) = decide (xs = ys) := by
  rw [Lib.toList_data, Lib.toList_data]
  by_cases h : xs = ys
  · subst h; simp
  · rw [decide_eq_false h]
    refine beq_eq_false_iff_ne.2 (fun e => h ?_)
    rw [← Bys_strOfNums hx, ← Bys_strOfNums hy]
    unfold Bys
    rw [e]

set_option maxHeartbeats 400000 in
theorem equal_any {w : World} {a b : Value} {xs ys : List Int} (ha : Sees w a xs) (hb : Sees w b ys) (hx : Rng xs) (hy : Rng ys) :
    Calls Try.prog 18 #[a, b] w fun r w' => r = .returned (.bool (decide (xs = ys))) ∧ w = w' := by
  have h1 := run_string_of ha
  have h2 := run_string_of hb
  have H3 := Lib.hid (strOf_inj hx hy)
  obtain ⟨a1, c1, rfl⟩ := sees_form ha
  obtain ⟨a2, c2, rfl⟩ := sees_form hb
  clear ha hb hx hy
  go_enter Try.func18, Try.ntmps18
  go_wp2
  go_ret
  refine ⟨?_, rfl⟩
  show Ending.returned (Value.bool ((strOfNums xs).toList == (strOfNums ys).toList)) = _
  rw [H3.out]

/-- a literal of bytes -/
theorem lit_sees (w : World) (xs : List Int) (hx : xs.length ≤ 1000) : Sees (w.alloc (.cells (U8s xs).toArray 5)) (.slice (some ⟨w.heap.size, 0, none⟩) xs.length xs.length) xs := by
  refine Sees.mk (Nat.le_refl _) (by unfold maxLen; omega) (fun i x hi => ?_)
  rw [Nat.zero_add, cell_blk (new_blk w _), List.getElem?_toArray, U8s_get hi]

def LiveLit : List Int := [1, 2, 0, 0, 0, 2, 7, 8, 0, 2, 195, 169]

set_option maxHeartbeats 1000000 in
theorem live_any (w : World) : Calls Try.prog 9 #[] w fun r w' => r = .returned (.bool true) ∧ Kp (fun _ => False) w w' := by
  have HN := Lib.hid (newP_any 20 (Nat.le_refl w.heap.size))
  go_enter Try.func9, Try.ntmps9
  go_wp2_with fail
  refine (HN.out).mono ?_
  rintro r w1 ⟨rfl, hp, hk, hsz⟩
  rw [if_pos (by omega)] at hp
  have hB1 : w.heap.size ≤ w1.heap.size := by omega
  have HS := Lib.hid (putShort_any 258 (by omega) (by omega) hB1 hp)
  have HK := Lib.hid hk
  have HB := Lib.hid hB1
  clear hp hk hsz hB1
  go_wp2_with fail
  refine (HS.out).mono ?_
  rintro r w2 ⟨rfl, v2, hp, hk, hn⟩
  have HK2 := Lib.hid ((HK.out).trans hk (F := fun _ => False) (fun y hy hh => by
    rcases hh with rfl | hh
    · omega
    · cases hh))
  clear hk hn
  have hB2 : w.heap.size ≤ (w2.alloc (.cells (U8s [7, 8]).toArray 5)).heap.size := by have := HK2.out.size; rw [World.size_alloc]; omega
  have hka : Kp (fun _ => False) w2 (w2.alloc (.cells (U8s [7, 8]).toArray 5)) := (Kp.refl _ _).alloc _
  have hby := putBytes_any hB2 (hp.kept hka (fun _ _ h => h)) (lit_sees w2 [7, 8] (by simp)) (by simp) (fun _ g hg hh => by
    obtain rfl := own_some hg
    rcases hh with hh | hh
    · have := lt_of_blk hp.cell; omega
    · have := hp.own.lt _ hh; omega)
  have HBy := Lib.hid hby
  have HL2 := Lib.hid hp.own.lt
  have HK3 := Lib.hid ((HK2.out).trans hka (fun _ _ h => h))
  clear hp hB2 hka hby
  go_wp2_with fail
  refine (HBy.out).mono ?_
  rintro r w3 ⟨rfl, v3, hp, hk, hn⟩
  have hk4 := (HK3.out).trans hk (F := fun _ => False) (fun y hy hh => by
    rcases hh with rfl | hh
    · omega
    · have := (HL2.out _ hh).1; omega)
  have HK4 := Lib.hid hk4
  have HL3 := Lib.hid hp.own.lt
  have HTx := Lib.hid (putText_any (s := ⟨#[195, 169]⟩) (by have := hk4.size; omega) hp (by decide))
  clear hp hk hn hk4
  go_wp2_with fail
  refine (HTx.out).mono ?_
  rintro r w4 ⟨rfl, v4, hp, hk, hn⟩
  have hk5 := (HK4.out).trans hk (F := fun _ => False) (fun y hy hh => by
    rcases hh with rfl | hh
    · omega
    · have := (HL3.out _ hh).1; omega)
  have HK5 := Lib.hid hk5
  have hval : putT 20 (putS 20 (putS 20 [] 0 (be 2 258)).1 (putS 20 [] 0 (be 2 258)).2 (be 4 ([7, 8] : List Int).length ++ [7, 8])).1 (putS 20 (putS 20 [] 0 (be 2 258)).1 (putS 20 [] 0 (be 2 258)).2 (be 4 ([7, 8] : List Int).length ++ [7, 8])).2 ⟨#[195, 169]⟩ = (LiveLit, 0) := by decide
  rw [hval] at hp
  have HO := Lib.hid (pout_any hp)
  clear hp hk hn hk5 hval
  go_wp2_with fail
  refine (HO.out).mono ?_
  rintro r w5 ⟨v5, rfl, hown, hk⟩
  rw [if_pos rfl] at hown
  have hka : Kp (fun _ => False) w5 (w5.alloc (.cells (U8s LiveLit).toArray 5)) := (Kp.refl _ _).alloc _
  have hrng : Rng LiveLit := by unfold Rng LiveLit; decide
  have HE := Lib.hid (equal_any (hown.sees.kept hka (fun _ _ _ h => h)) (lit_sees w5 LiveLit (by decide)) hrng hrng)
  have HF := Lib.hid (((HK5.out).trans hk (fun _ _ h => h)).trans hka (fun _ _ h => h))
  clear hown hk hka hrng
  go_wp2_with fail
  refine (HE.out).mono ?_
  rintro r w6 ⟨rfl, rfl⟩
  go_wp2_with fail
  go_ret
  exact ⟨rfl, HF.out⟩

/-! ### both packers -/
/-- a slice's row is the one that it was, or a new one -/
def Fr (w : World) (v v' : Value) : Prop := v'.ownBlock = v.ownBlock ∨ ∀ g, v'.ownBlock = some g → w.heap.size ≤ g
/-- a packer and the document's packer, apart -/
structure St (w : World) (B p q : Nat) (v u : Value) (lim1 : Int) (l1 : List Int) (e1 : Int) (lim2 : Int) (l2 : List Int) (e2 : Int) : Prop where
  pk : PK w B p v lim1 l1 e1
  rk : RK w B q u lim2 l2 e2
  sep : ∀ x, PF p v x → ¬ PF q u x
section
variable {w w1 : World} {B p q : Nat} {v u : Value} {lim1 : Int} {l1 : List Int} {e1 : Int} {lim2 : Int} {l2 : List Int} {e2 : Int}
theorem PK.foot (h : PK w B p v lim1 l1 e1) : ∀ x, PF p v x → B ≤ x ∧ x < w.heap.size := by
  rintro x (rfl | hx)
  · exact ⟨h.base, lt_of_blk h.cell⟩
  · exact h.own.lt x hx
theorem RK.foot (h : RK w B q u lim2 l2 e2) : ∀ x, PF q u x → B ≤ x ∧ x < w.heap.size := by
  rintro x (rfl | hx)
  · exact ⟨h.base, lt_of_blk h.cell⟩
  · exact h.own.lt x hx
theorem St.fresh (h : St w B p q v u lim1 l1 e1 lim2 l2 e2) (k : Kp (fun _ => False) w w1) : St w1 B p q v u lim1 l1 e1 lim2 l2 e2 :=
  ⟨h.pk.kept k (fun _ _ f => f), h.rk.kept k (fun _ _ f => f), h.sep⟩
theorem St.pack {r : List Int × Int} (h : St w B p q v u lim1 l1 e1 lim2 l2 e2) (hp : PPost w B p v lim1 r w1) :
    ∃ v1, St w1 B p q v1 u lim1 r.1 r.2 lim2 l2 e2 ∧ Kp (PF p v) w w1 ∧ Fr w v v1 := by
  obtain ⟨v1, h1, h2, h3⟩ := hp
  refine ⟨v1, ⟨h1, h.rk.kept h2 (fun x hq hp => h.sep x hp hq), ?_⟩, h2, h3⟩
  rintro x (rfl | hx)
  · exact h.sep x (.inl rfl)
  · rcases h3 with h3 | h3
    · exact h.sep x (.inr (by rw [← h3]; exact hx))
    · intro hq
      have := h3 x hx
      have := (h.rk.foot x hq).2
      omega
theorem St.ref {r : List Int × Int} (h : St w B p q v u lim1 l1 e1 lim2 l2 e2) (hp : RPost w B q u lim2 r w1) :
    ∃ u1, St w1 B p q v u1 lim1 l1 e1 lim2 r.1 r.2 ∧ Kp (PF q u) w w1 ∧ Fr w u u1 := by
  obtain ⟨v1, h1, h2, h3⟩ := hp
  refine ⟨v1, ⟨h.pk.kept h2 (fun x hq hp => h.sep x hq hp), h1, ?_⟩, h2, h3⟩
  rintro x hx (rfl | hq)
  · exact h.sep x hx (.inl rfl)
  · rcases h3 with h3 | h3
    · exact h.sep x hx (.inr (by rw [← h3]; exact hq))
    · have := h3 x hq
      have := (h.pk.foot x hx).2
      omega
end

/-- what an item does -/
def itemS (lim : Int) (l : List Int) (e : Int) (d V : Int) (xs : List Int) : List Int × Int :=
  if d = 0 then putS lim l e xs else if d = 1 then putS lim l e (be 1 (V % 256)) else if d = 2 then putS lim l e (be 2 (V % 65536)) else if d = 3 then putS lim l e (be 4 xs.length ++ xs)
  else if d = 4 then putS lim l e (be 4 (V % 4294967296)) else if d = 5 then putT lim l e (strOfNums xs) else if d = 8 then putS lim l e (be 8 V) else (l, e)
/-- behind puts -/
def PutsPost (w : World) (B p q : Nat) (v u : Value) (lim1 : Int) (r1 : List Int × Int) (lim2 : Int) (r2 : List Int × Int) (e : Ending) (w' : World) : Prop :=
  e = .returned (.tuple #[]) ∧ ∃ v' u', St w' B p q v' u' lim1 r1.1 r1.2 lim2 r2.1 r2.2 ∧ Kp (fun k => PF p v k ∨ PF q u k) w w' ∧ Fr w v v' ∧ Fr w u u'
/-- both calls of puts -/
theorem puts_close {w w0 w1 w2 : World} {B p q : Nat} {v u v1 u1 : Value} {lim1 : Int} {r1 : List Int × Int} {lim2 : Int} {r2 : List Int × Int} (k0 : Kp (fun _ => False) w w0) (k1 : Kp (PF p v) w0 w1) (k2 : Kp (PF q u) w1 w2) (f1 : Fr w0 v v1) (f2 : Fr w1 u u1)
    (h : St w2 B p q v1 u1 lim1 r1.1 r1.2 lim2 r2.1 r2.2) : PutsPost w B p q v u lim1 r1 lim2 r2 (.returned (.tuple #[])) w2 :=
  ⟨rfl, v1, u1, h, ((k0.mono (F := fun k => PF p v k ∨ PF q u k) (fun _ _ f => f.elim)).trans k1 (fun _ _ h => .inl h)).trans k2 (fun _ _ h => .inr h),
    f1.imp id (fun f g hg => Nat.le_trans k0.size (f g hg)), f2.imp id (fun f g hg => Nat.le_trans (Nat.le_trans k0.size k1.size) (f g hg))⟩
/-- bytes that lie in none of a packer's blocks -/
def Away (b : Value) (xs : List Int) (F : Nat → Prop) : Prop := xs ≠ [] → ∀ g, b.ownBlock = some g → ¬ F g

set_option maxHeartbeats 1000000 in
theorem puts_0 {w : World} {B p q : Nat} {v u : Value} {lim1 : Int} {l1 : List Int} {e1 : Int} {lim2 : Int} {l2 : List Int} {e2 : Int} {b : Value} {xs : List Int} (V n : Int) (hB : B ≤ w.heap.size)
    (h : St w B p q v u lim1 l1 e1 lim2 l2 e2) (hs : Sees w b xs) (ho : Away b xs (PF p v)) (hx : xs.length ≤ 900000) :
    Calls Try.prog 13 #[.pointer (some ⟨p, 0, none⟩), .pointer (some ⟨q, 0, none⟩), .agg #[.int .i64 0, .int .u64 V, b, .int .i64 n]] w (PutsPost w B p q v u lim1 (putS lim1 l1 e1 xs) lim2 (putS lim2 l2 e2 xs)) := by
  obtain ⟨a, cap, rfl⟩ := sees_form hs
  have hk0 : Kp (fun _ => False) w (w.alloc (.cells #[.int .i64 0, .int .u64 V, .slice a xs.length cap, .int .i64 n] 32)) := (Kp.refl _ _).alloc _
  have hB0 := Nat.le_trans hB hk0.size
  have h0 := h.fresh hk0
  have hs0 := hs.kept hk0 (fun _ _ _ f => f)
  have hb0 := new_blk w (.cells #[.int .i64 0, .int .u64 V, .slice a xs.length cap, .int .i64 n] 32)
  have HFt := Lib.hid h.pk.foot
  have HF := Lib.hid (putFixed_any hB0 h0.pk hs0 (by omega) ho)
  have H0 := Lib.hid h0
  have HB := Lib.hid hb0
  have HS := Lib.hid hs0
  have HK0 := Lib.hid hk0
  clear h hk0 h0 hb0 hs hs0
  go_enter Try.func13, Try.ntmps13
  go_wp2_with fail
  refine (HF.out).mono ?_
  rintro r w1 ⟨rfl, hp⟩
  obtain ⟨v1, h1, hk1, hf1⟩ := (H0.out).pack hp
  have hb1 := kept_blk HB.out hk1 (fun hh => absurd (HFt.out _ hh).2 (Nat.lt_irrefl _))
  have c1 : w1.cell? ⟨w.heap.size, 1, none⟩ = some (.int .u64 V) := (cell_blk hb1 1).trans rfl
  have c2 : w1.cell? ⟨w.heap.size, 2, none⟩ = some (.slice a xs.length cap) := (cell_blk hb1 2).trans rfl
  have hB1 := Nat.le_trans hB0 hk1.size
  have HR := Lib.hid (rfixed_any hB1 h1.rk (HS.out.kept hk1 ho) (by omega))
  have H1 := Lib.hid h1
  have HK1 := Lib.hid hk1
  have HF1 := Lib.hid hf1
  clear hp h1 hk1 hb1 hf1
  go_wp2_with fail
  refine (HR.out).mono ?_
  rintro r w2 ⟨rfl, hp⟩
  obtain ⟨u1, hst, hk2, hf2⟩ := (H1.out).ref hp
  have HST := Lib.hid (puts_close HK0.out HK1.out hk2 HF1.out hf2 hst)
  clear hp hst hk2 hf2
  go_wp2_with fail
  go_end0
  exact HST.out

set_option maxHeartbeats 1000000 in
theorem puts_3 {w : World} {B p q : Nat} {v u : Value} {lim1 : Int} {l1 : List Int} {e1 : Int} {lim2 : Int} {l2 : List Int} {e2 : Int} {b : Value} {xs : List Int} (V n : Int) (hB : B ≤ w.heap.size)
    (h : St w B p q v u lim1 l1 e1 lim2 l2 e2) (hs : Sees w b xs) (ho : Away b xs (PF p v)) (hx : xs.length ≤ 900000) :
    Calls Try.prog 13 #[.pointer (some ⟨p, 0, none⟩), .pointer (some ⟨q, 0, none⟩), .agg #[.int .i64 3, .int .u64 V, b, .int .i64 n]] w (PutsPost w B p q v u lim1 (putS lim1 l1 e1 (be 4 xs.length ++ xs)) lim2 (putS lim2 l2 e2 (be 4 xs.length ++ xs))) := by
  obtain ⟨a, cap, rfl⟩ := sees_form hs
  have hk0 : Kp (fun _ => False) w (w.alloc (.cells #[.int .i64 3, .int .u64 V, .slice a xs.length cap, .int .i64 n] 32)) := (Kp.refl _ _).alloc _
  have hB0 := Nat.le_trans hB hk0.size
  have h0 := h.fresh hk0
  have hs0 := hs.kept hk0 (fun _ _ _ f => f)
  have hb0 := new_blk w (.cells #[.int .i64 3, .int .u64 V, .slice a xs.length cap, .int .i64 n] 32)
  have HFt := Lib.hid h.pk.foot
  have HF := Lib.hid (putBytes_any hB0 h0.pk hs0 hx ho)
  have H0 := Lib.hid h0
  have HB := Lib.hid hb0
  have HS := Lib.hid hs0
  have HK0 := Lib.hid hk0
  clear h hk0 h0 hb0 hs hs0
  go_enter Try.func13, Try.ntmps13
  go_wp2_with fail
  refine (HF.out).mono ?_
  rintro r w1 ⟨rfl, hp⟩
  obtain ⟨v1, h1, hk1, hf1⟩ := (H0.out).pack hp
  have hb1 := kept_blk HB.out hk1 (fun hh => absurd (HFt.out _ hh).2 (Nat.lt_irrefl _))
  have c1 : w1.cell? ⟨w.heap.size, 1, none⟩ = some (.int .u64 V) := (cell_blk hb1 1).trans rfl
  have c2 : w1.cell? ⟨w.heap.size, 2, none⟩ = some (.slice a xs.length cap) := (cell_blk hb1 2).trans rfl
  have hB1 := Nat.le_trans hB0 hk1.size
  have HR := Lib.hid (rbytes_any hB1 h1.rk (HS.out.kept hk1 ho) hx)
  have H1 := Lib.hid h1
  have HK1 := Lib.hid hk1
  have HF1 := Lib.hid hf1
  clear hp h1 hk1 hb1 hf1
  go_wp2_with fail
  refine (HR.out).mono ?_
  rintro r w2 ⟨rfl, hp⟩
  obtain ⟨u1, hst, hk2, hf2⟩ := (H1.out).ref hp
  have HST := Lib.hid (puts_close HK0.out HK1.out hk2 HF1.out hf2 hst)
  clear hp hst hk2 hf2
  go_wp2_with fail
  go_end0
  exact HST.out

set_option maxHeartbeats 1000000 in
theorem puts_5 {w : World} {B p q : Nat} {v u : Value} {lim1 : Int} {l1 : List Int} {e1 : Int} {lim2 : Int} {l2 : List Int} {e2 : Int} {b : Value} {xs : List Int} (V n : Int) (hB : B ≤ w.heap.size)
    (h : St w B p q v u lim1 l1 e1 lim2 l2 e2) (hs : Sees w b xs) (ho : Away b xs (PF p v)) (hx : xs.length ≤ 900000) :
    Calls Try.prog 13 #[.pointer (some ⟨p, 0, none⟩), .pointer (some ⟨q, 0, none⟩), .agg #[.int .i64 5, .int .u64 V, b, .int .i64 n]] w (PutsPost w B p q v u lim1 (putT lim1 l1 e1 (strOfNums xs)) lim2 (putT lim2 l2 e2 (strOfNums xs))) := by
  obtain ⟨a, cap, rfl⟩ := sees_form hs
  have hk0 : Kp (fun _ => False) w (w.alloc (.cells #[.int .i64 5, .int .u64 V, .slice a xs.length cap, .int .i64 n] 32)) := (Kp.refl _ _).alloc _
  have hB0 := Nat.le_trans hB hk0.size
  have h0 := h.fresh hk0
  have hs0 := hs.kept hk0 (fun _ _ _ f => f)
  have hb0 := new_blk w (.cells #[.int .i64 5, .int .u64 V, .slice a xs.length cap, .int .i64 n] 32)
  have HFt := Lib.hid h.pk.foot
  have HF := Lib.hid (putText_any hB0 h0.pk (s := strOfNums xs) (by rw [strOfNums_size]; exact hx))
  have H0 := Lib.hid h0
  have HB := Lib.hid hb0
  have HS := Lib.hid hs0
  have HK0 := Lib.hid hk0
  have hst0 := run_string_of hs0
  clear h hk0 h0 hb0 hs hs0
  go_enter Try.func13, Try.ntmps13
  go_wp2_with fail
  refine (HF.out).mono ?_
  rintro r w1 ⟨rfl, hp⟩
  obtain ⟨v1, h1, hk1, hf1⟩ := (H0.out).pack hp
  have hb1 := kept_blk HB.out hk1 (fun hh => absurd (HFt.out _ hh).2 (Nat.lt_irrefl _))
  have c1 : w1.cell? ⟨w.heap.size, 1, none⟩ = some (.int .u64 V) := (cell_blk hb1 1).trans rfl
  have c2 : w1.cell? ⟨w.heap.size, 2, none⟩ = some (.slice a xs.length cap) := (cell_blk hb1 2).trans rfl
  have hB1 := Nat.le_trans hB0 hk1.size
  have HR := Lib.hid (rtext_any hB1 h1.rk (s := strOfNums xs) (by rw [strOfNums_size]; exact hx))
  have H1 := Lib.hid h1
  have HK1 := Lib.hid hk1
  have HF1 := Lib.hid hf1
  have hst1 := run_string_of (HS.out.kept hk1 ho)
  clear hp h1 hk1 hb1 hf1
  go_wp2_with fail
  refine (HR.out).mono ?_
  rintro r w2 ⟨rfl, hp⟩
  obtain ⟨u1, hst, hk2, hf2⟩ := (H1.out).ref hp
  have HST := Lib.hid (puts_close HK0.out HK1.out hk2 HF1.out hf2 hst)
  clear hp hst hk2 hf2
  go_wp2_with fail
  go_end0
  exact HST.out

set_option maxHeartbeats 1000000 in
theorem puts_1 {w : World} {B p q : Nat} {v u : Value} {lim1 : Int} {l1 : List Int} {e1 : Int} {lim2 : Int} {l2 : List Int} {e2 : Int} {b : Value} {xs : List Int} (V n : Int) (hV0 : 0 ≤ V) (hB : B ≤ w.heap.size)
    (h : St w B p q v u lim1 l1 e1 lim2 l2 e2) (hs : Sees w b xs) :
    Calls Try.prog 13 #[.pointer (some ⟨p, 0, none⟩), .pointer (some ⟨q, 0, none⟩), .agg #[.int .i64 1, .int .u64 V, b, .int .i64 n]] w (PutsPost w B p q v u lim1 (putS lim1 l1 e1 (be 1 (V % 256))) lim2 (putS lim2 l2 e2 (be 1 (V % 256)))) := by
  obtain ⟨a, cap, rfl⟩ := sees_form hs
  have hk0 : Kp (fun _ => False) w (w.alloc (.cells #[.int .i64 1, .int .u64 V, .slice a xs.length cap, .int .i64 n] 32)) := (Kp.refl _ _).alloc _
  have hB0 := Nat.le_trans hB hk0.size
  have h0 := h.fresh hk0
  have hs0 := hs.kept hk0 (fun _ _ _ f => f)
  have hb0 := new_blk w (.cells #[.int .i64 1, .int .u64 V, .slice a xs.length cap, .int .i64 n] 32)
  have HFt := Lib.hid h.pk.foot
  have HF := Lib.hid (putByte_any (V % 256) (by omega) (by omega) hB0 h0.pk)
  have H0 := Lib.hid h0
  have HB := Lib.hid hb0
  have HS := Lib.hid hs0
  have HK0 := Lib.hid hk0
  clear h hk0 h0 hb0 hs hs0
  go_enter Try.func13, Try.ntmps13
  go_wp2_with fail
  refine (HF.out).mono ?_
  rintro r w1 ⟨rfl, hp⟩
  obtain ⟨v1, h1, hk1, hf1⟩ := (H0.out).pack hp
  have hb1 := kept_blk HB.out hk1 (fun hh => absurd (HFt.out _ hh).2 (Nat.lt_irrefl _))
  have c1 : w1.cell? ⟨w.heap.size, 1, none⟩ = some (.int .u64 V) := (cell_blk hb1 1).trans rfl
  have c2 : w1.cell? ⟨w.heap.size, 2, none⟩ = some (.slice a xs.length cap) := (cell_blk hb1 2).trans rfl
  have hB1 := Nat.le_trans hB0 hk1.size
  have HR := Lib.hid (rnum_any 1 (V % 256) (by omega) (by omega) (by omega) hB1 h1.rk)
  have H1 := Lib.hid h1
  have HK1 := Lib.hid hk1
  have HF1 := Lib.hid hf1
  clear hp h1 hk1 hb1 hf1
  go_wp2_with fail
  refine (HR.out).mono ?_
  rintro r w2 ⟨rfl, hp⟩
  obtain ⟨u1, hst, hk2, hf2⟩ := (H1.out).ref hp
  have HST := Lib.hid (puts_close HK0.out HK1.out hk2 HF1.out hf2 hst)
  clear hp hst hk2 hf2
  go_wp2_with fail
  go_end0
  exact HST.out

set_option maxHeartbeats 1000000 in
theorem puts_2 {w : World} {B p q : Nat} {v u : Value} {lim1 : Int} {l1 : List Int} {e1 : Int} {lim2 : Int} {l2 : List Int} {e2 : Int} {b : Value} {xs : List Int} (V n : Int) (hV0 : 0 ≤ V) (hB : B ≤ w.heap.size)
    (h : St w B p q v u lim1 l1 e1 lim2 l2 e2) (hs : Sees w b xs) :
    Calls Try.prog 13 #[.pointer (some ⟨p, 0, none⟩), .pointer (some ⟨q, 0, none⟩), .agg #[.int .i64 2, .int .u64 V, b, .int .i64 n]] w (PutsPost w B p q v u lim1 (putS lim1 l1 e1 (be 2 (V % 65536))) lim2 (putS lim2 l2 e2 (be 2 (V % 65536)))) := by
  obtain ⟨a, cap, rfl⟩ := sees_form hs
  have hk0 : Kp (fun _ => False) w (w.alloc (.cells #[.int .i64 2, .int .u64 V, .slice a xs.length cap, .int .i64 n] 32)) := (Kp.refl _ _).alloc _
  have hB0 := Nat.le_trans hB hk0.size
  have h0 := h.fresh hk0
  have hs0 := hs.kept hk0 (fun _ _ _ f => f)
  have hb0 := new_blk w (.cells #[.int .i64 2, .int .u64 V, .slice a xs.length cap, .int .i64 n] 32)
  have HFt := Lib.hid h.pk.foot
  have HF := Lib.hid (putShort_any (V % 65536) (by omega) (by omega) hB0 h0.pk)
  have H0 := Lib.hid h0
  have HB := Lib.hid hb0
  have HS := Lib.hid hs0
  have HK0 := Lib.hid hk0
  clear h hk0 h0 hb0 hs hs0
  go_enter Try.func13, Try.ntmps13
  go_wp2_with fail
  refine (HF.out).mono ?_
  rintro r w1 ⟨rfl, hp⟩
  obtain ⟨v1, h1, hk1, hf1⟩ := (H0.out).pack hp
  have hb1 := kept_blk HB.out hk1 (fun hh => absurd (HFt.out _ hh).2 (Nat.lt_irrefl _))
  have c1 : w1.cell? ⟨w.heap.size, 1, none⟩ = some (.int .u64 V) := (cell_blk hb1 1).trans rfl
  have c2 : w1.cell? ⟨w.heap.size, 2, none⟩ = some (.slice a xs.length cap) := (cell_blk hb1 2).trans rfl
  have hB1 := Nat.le_trans hB0 hk1.size
  have HR := Lib.hid (rnum_any 2 (V % 65536) (by omega) (by omega) (by omega) hB1 h1.rk)
  have H1 := Lib.hid h1
  have HK1 := Lib.hid hk1
  have HF1 := Lib.hid hf1
  clear hp h1 hk1 hb1 hf1
  go_wp2_with fail
  refine (HR.out).mono ?_
  rintro r w2 ⟨rfl, hp⟩
  obtain ⟨u1, hst, hk2, hf2⟩ := (H1.out).ref hp
  have HST := Lib.hid (puts_close HK0.out HK1.out hk2 HF1.out hf2 hst)
  clear hp hst hk2 hf2
  go_wp2_with fail
  go_end0
  exact HST.out

set_option maxHeartbeats 1000000 in
theorem puts_4 {w : World} {B p q : Nat} {v u : Value} {lim1 : Int} {l1 : List Int} {e1 : Int} {lim2 : Int} {l2 : List Int} {e2 : Int} {b : Value} {xs : List Int} (V n : Int) (hV0 : 0 ≤ V) (hB : B ≤ w.heap.size)
    (h : St w B p q v u lim1 l1 e1 lim2 l2 e2) (hs : Sees w b xs) :
    Calls Try.prog 13 #[.pointer (some ⟨p, 0, none⟩), .pointer (some ⟨q, 0, none⟩), .agg #[.int .i64 4, .int .u64 V, b, .int .i64 n]] w (PutsPost w B p q v u lim1 (putS lim1 l1 e1 (be 4 (V % 4294967296))) lim2 (putS lim2 l2 e2 (be 4 (V % 4294967296)))) := by
  obtain ⟨a, cap, rfl⟩ := sees_form hs
  have hk0 : Kp (fun _ => False) w (w.alloc (.cells #[.int .i64 4, .int .u64 V, .slice a xs.length cap, .int .i64 n] 32)) := (Kp.refl _ _).alloc _
  have hB0 := Nat.le_trans hB hk0.size
  have h0 := h.fresh hk0
  have hs0 := hs.kept hk0 (fun _ _ _ f => f)
  have hb0 := new_blk w (.cells #[.int .i64 4, .int .u64 V, .slice a xs.length cap, .int .i64 n] 32)
  have HFt := Lib.hid h.pk.foot
  have HF := Lib.hid (putInt_any (V % 4294967296) (by omega) (by omega) hB0 h0.pk)
  have H0 := Lib.hid h0
  have HB := Lib.hid hb0
  have HS := Lib.hid hs0
  have HK0 := Lib.hid hk0
  clear h hk0 h0 hb0 hs hs0
  go_enter Try.func13, Try.ntmps13
  go_wp2_with fail
  refine (HF.out).mono ?_
  rintro r w1 ⟨rfl, hp⟩
  obtain ⟨v1, h1, hk1, hf1⟩ := (H0.out).pack hp
  have hb1 := kept_blk HB.out hk1 (fun hh => absurd (HFt.out _ hh).2 (Nat.lt_irrefl _))
  have c1 : w1.cell? ⟨w.heap.size, 1, none⟩ = some (.int .u64 V) := (cell_blk hb1 1).trans rfl
  have c2 : w1.cell? ⟨w.heap.size, 2, none⟩ = some (.slice a xs.length cap) := (cell_blk hb1 2).trans rfl
  have hB1 := Nat.le_trans hB0 hk1.size
  have HR := Lib.hid (rnum_any 4 (V % 4294967296) (by omega) (by omega) (by omega) hB1 h1.rk)
  have H1 := Lib.hid h1
  have HK1 := Lib.hid hk1
  have HF1 := Lib.hid hf1
  clear hp h1 hk1 hb1 hf1
  go_wp2_with fail
  refine (HR.out).mono ?_
  rintro r w2 ⟨rfl, hp⟩
  obtain ⟨u1, hst, hk2, hf2⟩ := (H1.out).ref hp
  have HST := Lib.hid (puts_close HK0.out HK1.out hk2 HF1.out hf2 hst)
  clear hp hst hk2 hf2
  go_wp2_with fail
  go_end0
  exact HST.out

set_option maxHeartbeats 1000000 in
theorem puts_8 {w : World} {B p q : Nat} {v u : Value} {lim1 : Int} {l1 : List Int} {e1 : Int} {lim2 : Int} {l2 : List Int} {e2 : Int} {b : Value} {xs : List Int} (V n : Int) (hV0 : 0 ≤ V) (hV1 : V ≤ 18446744073709551615) (hB : B ≤ w.heap.size)
    (h : St w B p q v u lim1 l1 e1 lim2 l2 e2) (hs : Sees w b xs) :
    Calls Try.prog 13 #[.pointer (some ⟨p, 0, none⟩), .pointer (some ⟨q, 0, none⟩), .agg #[.int .i64 8, .int .u64 V, b, .int .i64 n]] w (PutsPost w B p q v u lim1 (putS lim1 l1 e1 (be 8 V)) lim2 (putS lim2 l2 e2 (be 8 V))) := by
  obtain ⟨a, cap, rfl⟩ := sees_form hs
  have hk0 : Kp (fun _ => False) w (w.alloc (.cells #[.int .i64 8, .int .u64 V, .slice a xs.length cap, .int .i64 n] 32)) := (Kp.refl _ _).alloc _
  have hB0 := Nat.le_trans hB hk0.size
  have h0 := h.fresh hk0
  have hs0 := hs.kept hk0 (fun _ _ _ f => f)
  have hb0 := new_blk w (.cells #[.int .i64 8, .int .u64 V, .slice a xs.length cap, .int .i64 n] 32)
  have HFt := Lib.hid h.pk.foot
  have HF := Lib.hid (putLong_any V hV0 hV1 hB0 h0.pk)
  have H0 := Lib.hid h0
  have HB := Lib.hid hb0
  have HS := Lib.hid hs0
  have HK0 := Lib.hid hk0
  have HV := Lib.hid hV1
  clear h hk0 h0 hb0 hs hs0 hV1
  go_enter Try.func13, Try.ntmps13
  go_wp2_with fail
  refine (HF.out).mono ?_
  rintro r w1 ⟨rfl, hp⟩
  obtain ⟨v1, h1, hk1, hf1⟩ := (H0.out).pack hp
  have hb1 := kept_blk HB.out hk1 (fun hh => absurd (HFt.out _ hh).2 (Nat.lt_irrefl _))
  have c1 : w1.cell? ⟨w.heap.size, 1, none⟩ = some (.int .u64 V) := (cell_blk hb1 1).trans rfl
  have c2 : w1.cell? ⟨w.heap.size, 2, none⟩ = some (.slice a xs.length cap) := (cell_blk hb1 2).trans rfl
  have hB1 := Nat.le_trans hB0 hk1.size
  have HR := Lib.hid (rnum_any 8 V hV0 HV.out (by omega) hB1 h1.rk)
  have H1 := Lib.hid h1
  have HK1 := Lib.hid hk1
  have HF1 := Lib.hid hf1
  clear hp h1 hk1 hb1 hf1
  go_wp2_with fail
  refine (HR.out).mono ?_
  rintro r w2 ⟨rfl, hp⟩
  obtain ⟨u1, hst, hk2, hf2⟩ := (H1.out).ref hp
  have HST := Lib.hid (puts_close HK0.out HK1.out hk2 HF1.out hf2 hst)
  clear hp hst hk2 hf2
  go_wp2_with fail
  go_end0
  exact HST.out

set_option maxHeartbeats 1000000 in
theorem puts_else {w : World} {B p q : Nat} {v u : Value} {lim1 : Int} {l1 : List Int} {e1 : Int} {lim2 : Int} {l2 : List Int} {e2 : Int} {b : Value} {xs : List Int} (d V n : Int) (hd : d ≠ 0 ∧ d ≠ 1 ∧ d ≠ 2 ∧ d ≠ 3 ∧ d ≠ 4 ∧ d ≠ 5 ∧ d ≠ 8)
    (h : St w B p q v u lim1 l1 e1 lim2 l2 e2) (hs : Sees w b xs) :
    Calls Try.prog 13 #[.pointer (some ⟨p, 0, none⟩), .pointer (some ⟨q, 0, none⟩), .agg #[.int .i64 d, .int .u64 V, b, .int .i64 n]] w (PutsPost w B p q v u lim1 (l1, e1) lim2 (l2, e2)) := by
  obtain ⟨a, cap, rfl⟩ := sees_form hs
  have hk0 : Kp (fun _ => False) w (w.alloc (.cells #[.int .i64 d, .int .u64 V, .slice a xs.length cap, .int .i64 n] 32)) := (Kp.refl _ _).alloc _
  have H0 := Lib.hid (puts_close (p := p) (v := v) (q := q) (u := u) (lim1 := lim1) (lim2 := lim2) (r1 := (l1, e1)) (r2 := (l2, e2)) hk0 (Kp.refl _ _) (Kp.refl _ _) (.inl rfl) (.inl rfl) (h.fresh hk0))
  obtain ⟨d0, d1, d2, d3, d4, d5, d8⟩ := hd
  have b0 : (d == 0) = false := by simpa using d0
  have b1 : (d == 1) = false := by simpa using d1
  have b2 : (d == 2) = false := by simpa using d2
  have b3 : (d == 3) = false := by simpa using d3
  have b4 : (d == 4) = false := by simpa using d4
  have b5 : (d == 5) = false := by simpa using d5
  have b8 : (d == 8) = false := by simpa using d8
  clear h hk0 hs d0 d1 d2 d3 d4 d5 d8
  go_enter Try.func13, Try.ntmps13
  go_wp2_with fail
  go_end0
  exact H0.out

theorem puts_any {w : World} {B p q : Nat} {v u : Value} {lim1 : Int} {l1 : List Int} {e1 : Int} {lim2 : Int} {l2 : List Int} {e2 : Int} {b : Value} {xs : List Int} (d V n : Int) (hV0 : 0 ≤ V) (hV1 : V ≤ 18446744073709551615) (hB : B ≤ w.heap.size)
    (h : St w B p q v u lim1 l1 e1 lim2 l2 e2) (hs : Sees w b xs) (ho : Away b xs (PF p v)) (hx : xs.length ≤ 900000) :
    Calls Try.prog 13 #[.pointer (some ⟨p, 0, none⟩), .pointer (some ⟨q, 0, none⟩), .agg #[.int .i64 d, .int .u64 V, b, .int .i64 n]] w (PutsPost w B p q v u lim1 (itemS lim1 l1 e1 d V xs) lim2 (itemS lim2 l2 e2 d V xs)) := by
  unfold itemS
  by_cases d0 : d = 0
  · subst d0; exact puts_0 V n hB h hs ho hx
  by_cases d1 : d = 1
  · subst d1; exact puts_1 V n hV0 hB h hs
  by_cases d2 : d = 2
  · subst d2; exact puts_2 V n hV0 hB h hs
  by_cases d3 : d = 3
  · subst d3; exact puts_3 V n hB h hs ho hx
  by_cases d4 : d = 4
  · subst d4; exact puts_4 V n hV0 hB h hs
  by_cases d5 : d = 5
  · subst d5; exact puts_5 V n hB h hs ho hx
  by_cases d8 : d = 8
  · subst d8; exact puts_8 V n hV0 hV1 hB h hs
  simp only [if_neg d0, if_neg d1, if_neg d2, if_neg d3, if_neg d4, if_neg d5, if_neg d8]
  exact puts_else d V n ⟨d0, d1, d2, d3, d4, d5, d8⟩ h hs

end Go.Proofs.Ytahdnapinlbflaa
