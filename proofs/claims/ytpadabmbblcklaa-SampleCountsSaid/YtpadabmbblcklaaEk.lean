/-
  slices.Clone of numbers; Rest, the program's and the document's.
-/
import Derived.Test.YtpadabmbblcklaaEc
import Derived.Lib.SliceRun
import Derived.Lib.AppendZerosOnto
namespace Go.Proofs.Ytpadabmbblcklaa
open Go.RowKit

theorem SeesZ.srcQ {w : World} {a : Option Addr} {n c : Nat} {l : List Int} (h : SeesZ .i64 w (.slice a n c) l) : Src Try.prog 1 24 (.slice a n c) l.length (encZ .i64 l) w := by
  obtain ⟨a', cap, e, h1, h2, h3, h4⟩ := h
  injection e with e1 e2 e3
  subst e1 e2 e3
  cases a with
  | none =>
    obtain rfl : l = [] := List.eq_nil_of_length_eq_zero (by have := h3 rfl; omega)
    exact Src.ofNil _ Try.underlying24 c
  | some ad =>
    refine Src.ofSlice _ Try.underlying24 ad l.length c (encZ .i64 l) (by rw [encZ_length, Nat.mul_one]) (fun j u hj => ?_) (encZ_one _ _)
    obtain ⟨x, hx, rfl⟩ := encZ_inv hj
    obtain ⟨g, off, e, hr⟩ := h4 j x hx
    cases e
    rw [Addr.add_lit]
    exact hr

set_option maxRecDepth 100000 in
set_option maxHeartbeats 1600000 in
theorem cloneQ_any {v : Value} {l : List Int} {w : World} (hs : SeesZ .i64 w v l) (hl : l.length ≤ 1000000) : Calls Try.prog 25 #[v] w fun e w' => ∃ v', e = .returned v' ∧ SeesZ .i64 w' v' l ∧
    Hid (l ≠ [] → OwnG 2 1 w' w.heap.size v' l.length (encZ .i64 l)) ∧ (∀ g, v'.ownBlock = some g → w.heap.size ≤ g) ∧ Kp (fun _ => False) w w' := by
  obtain ⟨a, c, rfl, hlc, hmax, _⟩ := hs.form
  cases a with
  | none =>
    obtain ⟨a', cap, e, h1, h2, h3, h4⟩ := hs
    injection e with e1 e2 e3
    subst e1 e3
    obtain rfl : c = 0 := h3 rfl
    obtain rfl : l = [] := List.eq_nil_of_length_eq_zero (by omega)
    have hq := fun (w : World) (a : Option Addr) (n c : Nat) => Lib.run_eql_slice_nil (P := Try.prog) w 24 2 a n c 0 0 Try.underlying24
    go_enter Try.func25, Try.ntmps25
    go_wp2_with fail
    go_ret
    exact ⟨_, rfl, SeesZ.nil _ _, (by first | exact Lib.hid trivial | exact Lib.hid (fun h => absurd rfl h)), fun g hg => (by cases hg), Kp.refl _ _⟩
  | some ad =>
    have hk : Kp (fun _ => False) w (w.alloc (.cells #[] 2)) := (Kp.refl _ _).alloc _
    have hs1 := hs.kept hk
    by_cases hn : 1 ≤ l.length
    · obtain ⟨v', w2, hap, ho, k2⟩ := app_new Try.underlying24 infoI64 rfl (some ⟨w.heap.size, 0, none⟩) hs1.srcQ hn hl (by omega)
      have ho' : OwnG 2 1 w2 w.heap.size v' l.length (encZ .i64 l) := by
        obtain ⟨e1, e2 | ⟨g, cap, rest, e2, e3, e4⟩⟩ := ho
        · exact ⟨e1, .inl e2⟩
        · exact ⟨e1, .inr ⟨g, cap, rest, e2, Nat.le_trans hk.size e3, e4⟩⟩
      have HF := Lib.hid (show SeesZ .i64 w2 v' l ∧ Hid (l ≠ [] → OwnG 2 1 w2 w.heap.size v' l.length (encZ .i64 l)) ∧ (∀ g, v'.ownBlock = some g → w.heap.size ≤ g) ∧ Kp (fun _ => False) w w2 from ⟨ho.seesZ, Lib.hid (fun _ => ho'), fun g hg => Nat.le_trans hk.size (ho.lt g hg).1, hk.trans k2 (fun _ _ h => h)⟩)
      obtain ⟨a3, c3, rfl⟩ := ho.form
      clear ho ho' k2 hs1 hs hk
      have hq := fun (w : World) (a : Option Addr) (n c : Nat) => Lib.run_eql_slice_nil (P := Try.prog) w 24 2 a n c 0 0 Try.underlying24
      go_enter Try.func25, Try.ntmps25
      go_wp2_with (at_builtin; refine Lib.wpList_append_run _ rfl _ _ _ _ rfl _ _ rfl rfl _ _ (hap _) ?_)
      go_ret
      exact ⟨_, rfl, HF.out⟩
    · obtain rfl : l = [] := List.eq_nil_of_length_eq_zero (by omega)
      have hap := app_zero Try.underlying24 infoI64 (w.alloc (.cells #[] 2)) (some ⟨w.heap.size, 0, none⟩) (some ad) c
      have HK := Lib.hid hk
      clear hs1 hs hk
      have hq := fun (w : World) (a : Option Addr) (n c : Nat) => Lib.run_eql_slice_nil (P := Try.prog) w 24 2 a n c 0 0 Try.underlying24
      go_enter Try.func25, Try.ntmps25
      go_wp2_with (at_builtin; refine Lib.wpList_append_run _ rfl _ _ _ _ rfl _ _ rfl rfl _ _ (hap _) ?_)
      go_ret
      exact ⟨_, rfl, ⟨_, 0, rfl, by simp, by simp, fun _ => rfl, fun i x hi => by cases hi⟩, (by first | exact Lib.hid trivial | exact Lib.hid (fun h => absurd rfl h)), fun g hg => (by cases hg; exact Nat.le_refl _), HK.out⟩

theorem SeesZ.srcU {w : World} {a : Option Addr} {n c : Nat} {l : List Int} (h : SeesZ .u64 w (.slice a n c) l) : Src Try.prog 1 22 (.slice a n c) l.length (encZ .u64 l) w := by
  obtain ⟨a', cap, e, h1, h2, h3, h4⟩ := h
  injection e with e1 e2 e3
  subst e1 e2 e3
  cases a with
  | none =>
    obtain rfl : l = [] := List.eq_nil_of_length_eq_zero (by have := h3 rfl; omega)
    exact Src.ofNil _ Try.underlying22 c
  | some ad =>
    refine Src.ofSlice _ Try.underlying22 ad l.length c (encZ .u64 l) (by rw [encZ_length, Nat.mul_one]) (fun j u hj => ?_) (encZ_one _ _)
    obtain ⟨x, hx, rfl⟩ := encZ_inv hj
    obtain ⟨g, off, e, hr⟩ := h4 j x hx
    cases e
    rw [Addr.add_lit]
    exact hr

set_option maxRecDepth 100000 in
set_option maxHeartbeats 1600000 in
theorem cloneU_any {v : Value} {l : List Int} {w : World} (hs : SeesZ .u64 w v l) (hl : l.length ≤ 1000000) : Calls Try.prog 31 #[v] w fun e w' => ∃ v', e = .returned v' ∧ SeesZ .u64 w' v' l ∧
    Hid (l ≠ [] → OwnG 31 1 w' w.heap.size v' l.length (encZ .u64 l)) ∧ (∀ g, v'.ownBlock = some g → w.heap.size ≤ g) ∧ Kp (fun _ => False) w w' := by
  obtain ⟨a, c, rfl, hlc, hmax, _⟩ := hs.form
  cases a with
  | none =>
    obtain ⟨a', cap, e, h1, h2, h3, h4⟩ := hs
    injection e with e1 e2 e3
    subst e1 e3
    obtain rfl : c = 0 := h3 rfl
    obtain rfl : l = [] := List.eq_nil_of_length_eq_zero (by omega)
    have hq := fun (w : World) (a : Option Addr) (n c : Nat) => Lib.run_eql_slice_nil (P := Try.prog) w 22 31 a n c 0 0 Try.underlying22
    go_enter Try.func31, Try.ntmps31
    go_wp2_with fail
    go_ret
    exact ⟨_, rfl, SeesZ.nil _ _, (by first | exact Lib.hid trivial | exact Lib.hid (fun h => absurd rfl h)), fun g hg => (by cases hg), Kp.refl _ _⟩
  | some ad =>
    have hk : Kp (fun _ => False) w (w.alloc (.cells #[] 31)) := (Kp.refl _ _).alloc _
    have hs1 := hs.kept hk
    by_cases hn : 1 ≤ l.length
    · obtain ⟨v', w2, hap, ho, k2⟩ := app_new Try.underlying22 infoU64 rfl (some ⟨w.heap.size, 0, none⟩) hs1.srcU hn hl (by omega)
      have ho' : OwnG 31 1 w2 w.heap.size v' l.length (encZ .u64 l) := by
        obtain ⟨e1, e2 | ⟨g, cap, rest, e2, e3, e4⟩⟩ := ho
        · exact ⟨e1, .inl e2⟩
        · exact ⟨e1, .inr ⟨g, cap, rest, e2, Nat.le_trans hk.size e3, e4⟩⟩
      have HF := Lib.hid (show SeesZ .u64 w2 v' l ∧ Hid (l ≠ [] → OwnG 31 1 w2 w.heap.size v' l.length (encZ .u64 l)) ∧ (∀ g, v'.ownBlock = some g → w.heap.size ≤ g) ∧ Kp (fun _ => False) w w2 from ⟨ho.seesZ, Lib.hid (fun _ => ho'), fun g hg => Nat.le_trans hk.size (ho.lt g hg).1, hk.trans k2 (fun _ _ h => h)⟩)
      obtain ⟨a3, c3, rfl⟩ := ho.form
      clear ho ho' k2 hs1 hs hk
      have hq := fun (w : World) (a : Option Addr) (n c : Nat) => Lib.run_eql_slice_nil (P := Try.prog) w 22 31 a n c 0 0 Try.underlying22
      go_enter Try.func31, Try.ntmps31
      go_wp2_with (at_builtin; refine Lib.wpList_append_run _ rfl _ _ _ _ rfl _ _ rfl rfl _ _ (hap _) ?_)
      go_ret
      exact ⟨_, rfl, HF.out⟩
    · obtain rfl : l = [] := List.eq_nil_of_length_eq_zero (by omega)
      have hap := app_zero Try.underlying22 infoU64 (w.alloc (.cells #[] 31)) (some ⟨w.heap.size, 0, none⟩) (some ad) c
      have HK := Lib.hid hk
      clear hs1 hs hk
      have hq := fun (w : World) (a : Option Addr) (n c : Nat) => Lib.run_eql_slice_nil (P := Try.prog) w 22 31 a n c 0 0 Try.underlying22
      go_enter Try.func31, Try.ntmps31
      go_wp2_with (at_builtin; refine Lib.wpList_append_run _ rfl _ _ _ _ rfl _ _ rfl rfl _ _ (hap _) ?_)
      go_ret
      exact ⟨_, rfl, ⟨_, 0, rfl, by simp, by simp, fun _ => rfl, fun i x hi => by cases hi⟩, (by first | exact Lib.hid trivial | exact Lib.hid (fun h => absurd rfl h)), fun g hg => (by cases hg; exact Nat.le_refl _), HK.out⟩

/-- what lies from place b on -/
theorem SeesZ.from {k : IntKind} {w : World} {a : Option Addr} {n c : Nat} {l : List Int} (h : SeesZ k w (.slice a n c) l) (b : Nat) (hb : b ≤ l.length) : SeesZ k w (.slice (Option.map (fun x => x.add b) a) (l.length - b) (c - b)) (l.drop b) := by
  obtain ⟨a', cap, e, h1, h2, h3, h4⟩ := h
  injection e with e1 e2 e3
  subst e1 e3
  refine ⟨_, _, by rw [List.length_drop], by rw [List.length_drop]; omega, by omega, (fun e => ?_), fun i x hi => ?_⟩
  · cases a with
    | none => have := h3 rfl; omega
    | some ad => cases e
  · rw [List.getElem?_drop] at hi
    obtain ⟨g, off, e, hr⟩ := h4 (b + i) x hi
    subst e
    exact ⟨g, off + b, by rw [Option.map_some, Addr.add_lit], by rw [← hr, Nat.add_assoc]⟩
theorem seesZ_none {k : IntKind} {w : World} (a : Option Addr) {l : List Int} (b : Nat) (hb : l.length ≤ b) : SeesZ k w (.slice a 0 0) (l.drop b) := by
  rw [List.drop_of_length_le hb]
  exact ⟨a, 0, rfl, Nat.le_refl _, Nat.zero_le _, fun _ => rfl, fun i x hi => by cases hi⟩

/-- what Rest says -/
def restL (k : Int) (ds : List Int) : List Int := ds.drop k.toNat
set_option maxRecDepth 100000 in
set_option maxHeartbeats 1600000 in
theorem rest_any {v : Value} {ds : List Int} {w : World} (hs : SeesZ .u64 w v ds) (hl : ds.length ≤ 1000000) (k : Int) :
    Calls Try.prog 14 #[.int .i64 k, v] w fun e w' => ∃ v', e = .returned v' ∧ SeesZ .u64 w' v' (restL k ds) ∧ Kp (fun _ => False) w w' := by
  obtain ⟨r, hr⟩ : ∃ r, r = restL k ds := ⟨_, rfl⟩
  rw [← hr]
  obtain ⟨a, c, rfl, hlc, hmax, hnil⟩ := hs.form
  have hlen0 : (0 : Int) ≤ ds.length := by omega
  by_cases hk0 : k < 0
  · have HD := Lib.hid (show r = ds by rw [hr]; unfold restL; rw [show k.toNat = 0 by omega, List.drop_zero])
    by_cases hc0 : c = 0
    · subst hc0
      obtain rfl : ds = [] := List.eq_nil_of_length_eq_zero (by omega)
      have HC := Lib.hid (cloneU_any hs (by omega))
      clear hs hr
      go_enter Try.func14, Try.ntmps14
      go_wp2_with fail
      refine HC.out.mono ?_
      rintro e w3 ⟨v', rfl, s3, _, _, k3⟩
      have K3 := Lib.hid k3
      have S3 := Lib.hid s3
      clear k3 s3
      go_wp2_with fail
      go_ret
      exact ⟨_, rfl, by rw [HD.out]; exact S3.out, K3.out⟩
    · have HC := Lib.hid (cloneU_any hs (by omega))
      clear hs hr
      go_enter Try.func14, Try.ntmps14
      go_wp2_with fail
      refine HC.out.mono ?_
      rintro e w3 ⟨v', rfl, s3, _, _, k3⟩
      have K3 := Lib.hid k3
      have S3 := Lib.hid s3
      clear k3 s3
      go_wp2_with fail
      go_ret
      exact ⟨_, rfl, by rw [HD.out]; exact S3.out, K3.out⟩
  by_cases hk0' : k = 0
  · subst hk0'
    have HD := Lib.hid (show r = ds by rw [hr]; unfold restL; rw [show (0 : Int).toNat = 0 from rfl, List.drop_zero])
    by_cases hc0 : c = 0
    · subst hc0
      obtain rfl : ds = [] := List.eq_nil_of_length_eq_zero (by omega)
      have HC := Lib.hid (cloneU_any hs (by omega))
      clear hs hr
      go_enter Try.func14, Try.ntmps14
      go_wp2_with fail
      refine HC.out.mono ?_
      rintro e w3 ⟨v', rfl, s3, _, _, k3⟩
      have K3 := Lib.hid k3
      have S3 := Lib.hid s3
      clear k3 s3
      go_wp2_with fail
      go_ret
      exact ⟨_, rfl, by rw [HD.out]; exact S3.out, K3.out⟩
    · have HC := Lib.hid (cloneU_any hs (by omega))
      clear hs hr
      go_enter Try.func14, Try.ntmps14
      go_wp2_with fail
      refine HC.out.mono ?_
      rintro e w3 ⟨v', rfl, s3, _, _, k3⟩
      have K3 := Lib.hid k3
      have S3 := Lib.hid s3
      clear k3 s3
      go_wp2_with fail
      go_ret
      exact ⟨_, rfl, by rw [HD.out]; exact S3.out, K3.out⟩
  by_cases hkl : (ds.length : Int) < k
  · have HD := Lib.hid (show r = ds.drop ds.length by rw [hr]; unfold restL; rw [List.drop_of_length_le (by omega), List.drop_of_length_le (Nat.le_refl _)])
    have hk1 : 0 < k := by omega
    have hk2 : ¬ (k ≤ ds.length) := by omega
    by_cases hcb : c = ds.length
    · have HC := Lib.hid (cloneU_any (seesZ_none (k := .u64) (w := w) a (l := ds) ds.length (Nat.le_refl _)) (by rw [List.length_drop]; omega))
      subst hcb
      clear hs hr hk0
      go_enter Try.func14, Try.ntmps14
      go_wp2_with fail
      refine HC.out.mono ?_
      rintro e w3 ⟨v', rfl, s3, _, _, k3⟩
      have K3 := Lib.hid k3
      have S3 := Lib.hid s3
      clear k3 s3
      go_wp2_with fail
      go_ret
      exact ⟨_, rfl, by rw [HD.out]; exact S3.out, K3.out⟩
    · have HC := Lib.hid (cloneU_any (hs.from ds.length (Nat.le_refl _)) (by rw [List.length_drop]; omega))
      rw [Nat.sub_self] at HC
      clear hs hr hk0
      go_enter Try.func14, Try.ntmps14
      go_wp2_with fail
      refine HC.out.mono ?_
      rintro e w3 ⟨v', rfl, s3, _, _, k3⟩
      have K3 := Lib.hid k3
      have S3 := Lib.hid s3
      clear k3 s3
      go_wp2_with fail
      go_ret
      exact ⟨_, rfl, by rw [HD.out]; exact S3.out, K3.out⟩
  · obtain ⟨m, rfl⟩ : ∃ m : Nat, k = m := ⟨k.toNat, by omega⟩
    have HD := Lib.hid (show r = ds.drop m by rw [hr]; unfold restL; rw [Int.toNat_natCast])
    have hm0 : 0 < (m : Int) := by omega
    have hml : (m : Int) ≤ ds.length := by omega
    by_cases hmc : c = m
    · have HC := Lib.hid (cloneU_any (seesZ_none (k := .u64) (w := w) a (l := ds) m (by omega)) (by rw [List.length_drop]; omega))
      obtain rfl : m = ds.length := by omega
      subst hmc
      clear hs hr hk0 hkl
      go_enter Try.func14, Try.ntmps14
      go_wp2_with fail
      refine HC.out.mono ?_
      rintro e w3 ⟨v', rfl, s3, _, _, k3⟩
      have K3 := Lib.hid k3
      have S3 := Lib.hid s3
      clear k3 s3
      go_wp2_with fail
      go_ret
      exact ⟨_, rfl, by rw [HD.out]; exact S3.out, K3.out⟩
    · have HC := Lib.hid (cloneU_any (hs.from m (by omega)) (by rw [List.length_drop]; omega))
      clear hs hr hk0 hkl
      go_enter Try.func14, Try.ntmps14
      go_wp2_with fail
      refine HC.out.mono ?_
      rintro e w3 ⟨v', rfl, s3, _, _, k3⟩
      have K3 := Lib.hid k3
      have S3 := Lib.hid s3
      clear k3 s3
      go_wp2_with fail
      go_ret
      exact ⟨_, rfl, by rw [HD.out]; exact S3.out, K3.out⟩
end Go.Proofs.Ytpadabmbblcklaa
