/-
  Messages: contracts of what puts names and blocks into a packer.
-/
import Derived.Test.YtleapcbkkggecaaMd
namespace Go.Proofs.Ytleapcbkkggecaa
open Go.ChangeShapes Go.WideShapes Go.ChangeAt Go.RowKit
variable {A : Nat → Prop}

theorem PK.foot' {w : World} {B p : Nat} {v : Value} {lim : Int} {l : List Int} {e : Int} (h : PK w B p v lim l e) : ∀ x, PF p v x → B ≤ x ∧ x < w.heap.size := by
  rintro x (rfl | hx)
  · exact ⟨h.base, lt_of_blk h.cell⟩
  · exact h.own.lt x hx
/-- a packer made since W, all else being as it was -/
structure PX (W : World) (B p : Nat) (lim : Int) (s : List Int × Int) (w : World) : Prop where
  pk : ∃ v, PK w B p v lim s.1 s.2
  kp : Kp (fun k => B ≤ k) W w
  base : B ≤ W.heap.size
theorem PX.step {W w w' : World} {B p : Nat} {v : Value} {lim : Int} {s r : List Int × Int} (h : PX W B p lim s w) (hp : PK w B p v lim s.1 s.2) (hq : PPost w B p v lim r w') : PX W B p lim r w' := by
  obtain ⟨v', h1, h2, _⟩ := hq
  exact ⟨⟨v', h1⟩, h.kp.trans h2 (fun x _ hx => (hp.foot' x hx).1), h.base⟩
theorem PX.old {W w w' : World} {B p : Nat} {lim : Int} {s : List Int × Int} (h : PX W B p lim s w) (k : Kp (fun _ => False) w w') : PX W B p lim s w' := by
  obtain ⟨v, hv⟩ := h.pk
  refine ⟨⟨v, ⟨kept_blk hv.cell k (fun f => f), hv.own.kept k (fun _ _ f => f), hv.ne, hv.base, hv.lims⟩⟩, h.kp.trans k (fun _ _ f => f.elim), h.base⟩
theorem PX.size {W w : World} {B p : Nat} {lim : Int} {s : List Int × Int} (h : PX W B p lim s w) : B ≤ w.heap.size := Nat.le_trans h.base h.kp.size

/-- rows put one behind the other -/
def putL (lim : Int) (s : List Int × Int) (xs : List (List Int)) : List Int × Int := xs.foldl (fun s x => putS lim s.1 s.2 x) s
theorem putL_snoc (lim : Int) (s : List Int × Int) (xs : List (List Int)) (x : List Int) : putL lim s (xs ++ [x]) = putS lim (putL lim s xs).1 (putL lim s xs).2 x := by
  simp [putL, List.foldl_append]
theorem putL_fit (lim : Int) : ∀ (xs : List (List Int)) (l : List Int), (l.length : Int) + xs.flatten.length ≤ lim → putL lim (l, 0) xs = (l ++ xs.flatten, 0)
  | [], l, _ => by simp [putL]
  | x :: r, l, h => by
    have h1 : (l.length : Int) + x.length ≤ lim := by simp at h; omega
    have e : putS lim l 0 x = (l ++ x, 0) := by unfold putS; rw [if_pos rfl, if_pos h1]
    have := putL_fit lim r (l ++ x) (by simp at h ⊢; omega)
    unfold putL at this ⊢
    rw [List.foldl_cons, e, this]
    simp
/-- a number ahead, where it is no choice -/
def cntRow (a b n : Nat) : List (List Int) := if a ≠ b then [be 4 (n : Int)] else []

set_option maxRecDepth 100000 in
set_option maxHeartbeats 800000 in
theorem putCount_any (a b n : Nat) (hn : n ≤ 1000) {W w : World} {B p : Nat} {lim : Int} {s : List Int × Int} (h : PX W B p lim s w) :
    Calls Try.prog 52 #[spV a b, .pointer (some ⟨p, 0, none⟩), .int .i64 n] w fun e w' => e = .returned (.tuple #[]) ∧ PX W B p lim (putL lim s (cntRow a b n)) w' := by
  have k1 : Kp (fun _ => False) w (w.alloc (.cells #[.int .i64 a, .int .i64 b] 57)) := (Kp.refl _ _).alloc _
  have HX := Lib.hid (h.old k1)
  have HC := Lib.hid (counted_any a b (w.alloc (.cells #[.int .i64 a, .int .i64 b] 57)))
  clear h k1
  by_cases hab : a = b
  · have e1 : cntRow a b n = [] := by unfold cntRow; rw [if_neg (by simpa using hab)]
    rw [e1]
    have e2 : decide (a ≠ b) = false := by simpa using hab
    rw [e2] at HC
    clear e1 e2 hab
    unfold spV at HC ⊢
    go_enter Try.func52, Try.ntmps52
    go_wp2_with fail
    refine HC.out.mono ?_
    rintro e w1 ⟨rfl, k2⟩
    have H2 := Lib.hid (HX.out.old k2)
    clear k2
    go_wp2_with fail
    go_end0
    exact ⟨rfl, H2.out⟩
  · have e1 : cntRow a b n = [be 4 (n : Int)] := by unfold cntRow; rw [if_pos (by simpa using hab)]
    rw [e1]
    have e2 : decide (a ≠ b) = true := by simpa using hab
    rw [e2] at HC
    have hm : (n : Int) % 4294967296 = n := by omega
    clear e1 e2 hab
    unfold spV at HC ⊢
    go_enter Try.func52, Try.ntmps52
    go_wp2_with fail
    refine HC.out.mono ?_
    rintro e w1 ⟨rfl, k2⟩
    have H2 := Lib.hid (HX.out.old k2)
    obtain ⟨v, hv⟩ := H2.out.pk
    have HV := Lib.hid hv
    have HP := Lib.hid (putInt_any (n : Int) (by omega) (by omega) H2.out.size hv)
    clear k2 hv
    go_wp2_with fail
    refine HP.out.mono ?_
    rintro e w3 ⟨rfl, hq⟩
    have H3 := Lib.hid (H2.out.step HV.out hq)
    clear hq
    go_wp2_with fail
    go_end0
    exact ⟨rfl, H3.out⟩

theorem infoId {x : List Int} (h : x.length = 32) : (Try.prog.info? 37).map (·.size) = some (U8s x).length := by
  rw [U8s_length, h]; kernel_rfl
theorem u8sees {w : World} {g t : Nat} {x : List Int} (h : w.heap[g]? = some (.cells (U8s x).toArray t (0, 0))) (hx : x.length ≤ 1000) : Sees w (.slice (some ⟨g, 0, none⟩) x.length x.length) x :=
  Sees.mk (Nat.le_refl _) (by unfold maxLen; omega) (fun i y hi => by rw [cell_blk h, Nat.zero_add, List.getElem?_toArray, U8s_get hi])
theorem U8s_all (x : List Int) : (U8s x).toArray.all (·.oneCell') = true := all_oneCell_toArray (U8s_one x)

set_option maxRecDepth 100000 in
set_option maxHeartbeats 1600000 in
theorem putNames_any (a b : Nat) {vi : Value} {ids : List (List Int)} (hl : ∀ x ∈ ids, x.length = 32) (hn : ids.length ≤ 1000) {W w : World} {B p : Nat} {lim : Int} {s : List Int × Int} (h : PX W B p lim s w) (hs : SeesI (fun g => g < B) W vi ids) :
    Calls Try.prog 39 #[spV a b, .pointer (some ⟨p, 0, none⟩), vi] w fun e w' => e = .returned (.tuple #[]) ∧ PX W B p lim (putL lim s (cntRow a b ids.length ++ ids)) w' := by
  obtain ⟨a1, c1, rfl, hm1⟩ := hs.form
  have k1 : Kp (fun _ => False) w (w.alloc (.cells #[.int .i64 a, .int .i64 b] 59)) := (Kp.refl _ _).alloc _
  have HX := Lib.hid (h.old k1)
  have HC := Lib.hid (putCount_any a b ids.length hn HX.out)
  have HS := Lib.hid hs
  have HK := Lib.hid k1
  have HL := Lib.hid hl
  have HI := Lib.hid (fun (x : List Int) (h : x.length = 32) => infoId h)
  clear h k1 hs hl
  unfold spV at HC ⊢
  go_enter Try.func39, Try.ntmps39
  go_wp2_with fail
  refine HC.out.mono ?_
  rintro e w1 ⟨rfl, hx⟩
  have H1 := Lib.hid hx
  have HW := Lib.hid (HX.out.kp)
  clear hx
  go_wp2_with fail
  go_loopw [16] (fun i wr => ∃ k : Nat, k ≤ ids.length ∧ i = .int .i64 k ∧ PX W B p lim (putL lim s (cntRow a b ids.length ++ ids.take k)) wr) (fun i _ => ids.length - (intOf i).toNat)
  case atStart => exact ⟨0, by omega, rfl, by rw [List.take_zero, List.append_nil]; exact H1.out⟩
  case round =>
    obtain ⟨k, hk, rfl, hx⟩ := hrel
    by_cases hlt : k < ids.length
    · have hx32 : ids[k].length = 32 := HL.out _ (List.getElem_mem hlt)
      obtain ⟨g, off, rfl, hr, hlc, hcm, _⟩ := (HS.out.kept hx.kp (fun g h => by omega)).at HL.out hlt
      have hcm' : c1 ≤ 9223372036854775807 := hcm
      have e : ids.take (k + 1) = ids.take k ++ [ids[k]] := by rw [List.take_succ_eq_append_getElem hlt]
      have HN := Lib.hid (fun (w' : World) (h : PX W B p lim (putS lim (putL lim s (cntRow a b ids.length ++ ids.take k)).1 (putL lim s (cntRow a b ids.length ++ ids.take k)).2 ids[k]) w') =>
        (show PX W B p lim (putL lim s (cntRow a b ids.length ++ ids.take (k + 1))) w' by rw [e, ← List.append_assoc, putL_snoc]; exact h))
      obtain ⟨x, hxe⟩ : ∃ x, x = ids[k] := ⟨_, rfl⟩
      rw [← hxe] at hx32 hr HN
      obtain ⟨s2, hs2⟩ : ∃ s2, s2 = putL lim s (cntRow a b ids.length ++ ids.take k) := ⟨_, rfl⟩
      rw [← hs2] at hx HN
      have HR := Lib.hid hr
      have HX2 := Lib.hid hx
      have H32 := Lib.hid hx32
      clear hr hx e hx32 hxe hs2
      go_wp2_with (first
        | ((with_reducible refine at_dst 19 ?_); refine wpList_load_mid rfl 37 _ rfl g (off + k * 32) rfl (U8s x) _ HR.out Try.underlying37 rfl (HI.out _ H32.out) ?_)
        | ((with_reducible refine at_store 7 19 ?_); refine wpList_store_fresh rfl 37 _ _ rfl (U8s x).toArray rfl rfl 37 _ (by rw [List.size_toArray]; exact HI.out _ H32.out) (by rw [List.size_toArray, List.size_toArray, U8s_length, H32.out]; rfl) (U8s_all x) ?_; intro w2 k2 m2 s2; have M2 := Lib.hid m2; have K2 := Lib.hid k2; have S2 := Lib.hid s2; clear m2 k2 s2))
      have hx2 := HX2.out.old K2.out
      obtain ⟨v, hv0⟩ := HX2.out.pk
      have hv : PK w2 B p v lim s2.1 s2.2 := ⟨kept_blk hv0.cell K2.out (fun f => f), hv0.own.kept K2.out (fun _ _ f => f), hv0.ne, hv0.base, hv0.lims⟩
      have hsx := u8sees M2.out (by have := H32.out; omega)
      rw [H32.out] at hsx
      have HP := Lib.hid (putFixed_any hx2.size hv hsx (by have := H32.out; omega) (fun _ g hg hf => by
        have e1 : wr.heap.size = g := own_some hg
        have := (hv0.foot' g hf).2
        omega))
      have HV := Lib.hid hv
      have HX3 := Lib.hid hx2
      clear hv hv0 hx2 hsx
      go_wp2_with fail
      refine HP.out.mono ?_
      rintro e w3 ⟨rfl, hq⟩
      have H3 := Lib.hid (HX3.out.step HV.out hq)
      clear hq
      go_wp2_with fail
      go_roundw
      case rel => exact ⟨k + 1, by omega, by go_num, HN.out _ H3.out⟩
      case measure => simp [intOf]; omega
    · obtain rfl : k = ids.length := by omega
      rw [List.take_length] at hx
      have H3 := Lib.hid hx
      clear hx
      go_wp2_with fail
      go_end0
      exact ⟨rfl, H3.out⟩

/-- a row of bytes as it is put -/
def rowB (x : List Int) : List Int := be 4 (x.length : Int) ++ x
set_option maxRecDepth 100000 in
set_option maxHeartbeats 1600000 in
theorem putRows_any (a b : Nat) {vb : Value} {bl : List (List Int)} (hl : ∀ x ∈ bl, x.length ≤ 246) (hn : bl.length ≤ 1000) {W w : World} {B p : Nat} {lim : Int} {s : List Int × Int} (h : PX W B p lim s w) (hs : SeesR (fun g => g < B) W vb bl) :
    Calls Try.prog 40 #[spV a b, .pointer (some ⟨p, 0, none⟩), vb] w fun e w' => e = .returned (.tuple #[]) ∧ PX W B p lim (putL lim s (cntRow a b bl.length ++ bl.map rowB)) w' := by
  obtain ⟨a1, c1, rfl, hm1⟩ := hs.form
  have k1 : Kp (fun _ => False) w (w.alloc (.cells #[.int .i64 a, .int .i64 b] 62)) := (Kp.refl _ _).alloc _
  have HX := Lib.hid (h.old k1)
  have HC := Lib.hid (putCount_any a b bl.length hn HX.out)
  have HS := Lib.hid hs
  have HK := Lib.hid k1
  have HL := Lib.hid hl
  clear h k1 hs hl
  unfold spV at HC ⊢
  go_enter Try.func40, Try.ntmps40
  go_wp2_with fail
  refine HC.out.mono ?_
  rintro e w1 ⟨rfl, hx⟩
  have H1 := Lib.hid hx
  have HW := Lib.hid (HX.out.kp)
  clear hx
  go_wp2_with fail
  go_loopw [16] (fun i wr => ∃ k : Nat, k ≤ bl.length ∧ i = .int .i64 k ∧ PX W B p lim (putL lim s (cntRow a b bl.length ++ (bl.take k).map rowB)) wr) (fun i _ => bl.length - (intOf i).toNat)
  case atStart => exact ⟨0, by omega, rfl, by rw [List.take_zero, List.map_nil, List.append_nil]; exact H1.out⟩
  case round =>
    obtain ⟨k, hk, rfl, hx⟩ := hrel
    by_cases hlt : k < bl.length
    · have hxl : bl[k].length ≤ 246 := HL.out _ (List.getElem_mem hlt)
      obtain ⟨g, off, u, rfl, hc, hsu, hlc, hcm, _, hub⟩ := (HS.out.kept hx.kp (fun g h => by omega)).at hlt
      obtain ⟨ax, cx, rfl⟩ := sees_form hsu
      have hcm' : c1 ≤ 9223372036854775807 := hcm
      have e : (bl.take (k + 1)).map rowB = (bl.take k).map rowB ++ [rowB bl[k]] := by rw [List.take_succ_eq_append_getElem hlt, List.map_append]; rfl
      have HN := Lib.hid (fun (w' : World) (h : PX W B p lim (putS lim (putL lim s (cntRow a b bl.length ++ (bl.take k).map rowB)).1 (putL lim s (cntRow a b bl.length ++ (bl.take k).map rowB)).2 (rowB bl[k])) w') =>
        (show PX W B p lim (putL lim s (cntRow a b bl.length ++ (bl.take (k + 1)).map rowB)) w' by rw [e, ← List.append_assoc, putL_snoc]; exact h))
      obtain ⟨s2, hs2⟩ : ∃ s2, s2 = putL lim s (cntRow a b bl.length ++ (bl.take k).map rowB) := ⟨_, rfl⟩
      rw [← hs2] at hx HN
      obtain ⟨v, hv⟩ := hx.pk
      have HX2 := Lib.hid hx
      have HP := Lib.hid (putBytes_any hx.size hv hsu (by omega) (fun hne g hg hf => by
        have h1 := hub hne g hg
        have h2 := (hv.foot' g hf).1
        omega))
      have HV := Lib.hid hv
      clear hx e hs2 hsu hub hv hxl
      go_wp2_with fail
      refine HP.out.mono ?_
      rintro e w3 ⟨rfl, hq⟩
      have H3 := Lib.hid (HX2.out.step HV.out hq)
      clear hq
      go_wp2_with fail
      go_roundw
      case rel => exact ⟨k + 1, by omega, by go_num, HN.out _ H3.out⟩
      case measure => simp [intOf]; omega
    · obtain rfl : k = bl.length := by omega
      rw [List.take_length] at hx
      have H3 := Lib.hid hx
      clear hx
      go_wp2_with fail
      go_end0
      exact ⟨rfl, H3.out⟩
end Go.Proofs.Ytleapcbkkggecaa
