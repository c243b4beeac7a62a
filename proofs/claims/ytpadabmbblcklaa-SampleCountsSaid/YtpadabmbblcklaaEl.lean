/-
  The document's Rest and Units.
-/
import Derived.Test.YtpadabmbblcklaaEk
import Derived.Test.YtpadabmbblcklaaEj
namespace Go.Proofs.Ytpadabmbblcklaa
open Go.RowKit

/-- onto none, numbers -/
theorem app_nilU {w : World} {a : Option Addr} {n c : Nat} {l : List Int} (hs : SeesZ .u64 w (.slice a n c) l) (hl : l.length ≤ 1000000) :
    ∃ v' w', (∀ ty, (Builtin.append_ #[22, 22] ty #[.slice none 0 0, .slice a n c]).run Try.prog w = .ok v' w') ∧ SeesZ .u64 w' v' l ∧ (∀ g, v'.ownBlock = some g → w.heap.size ≤ g) ∧ Kp (fun _ => False) w w' := by
  have hn : n = l.length := by
    obtain ⟨a', c', e, _⟩ := hs
    injection e
  subst hn
  by_cases h1 : 1 ≤ l.length
  · obtain ⟨v', w2, hap, ho, k2⟩ := app_new Try.underlying22 infoU64 rfl none hs.srcU h1 hl (by omega)
    exact ⟨v', w2, hap, ho.seesZ, fun g hg => (ho.lt g hg).1, k2⟩
  · obtain rfl : l = [] := List.eq_nil_of_length_eq_zero (by omega)
    exact ⟨_, w, fun ty => app_zero Try.underlying22 infoU64 w none a c ty, SeesZ.nil _ _, (fun g hg => by cases hg), Kp.refl _ _⟩

set_option maxRecDepth 100000 in
set_option maxHeartbeats 1600000 in
theorem rrest_any {v : Value} {ds : List Int} {w : World} (hs : SeesZ .u64 w v ds) (hl : ds.length ≤ 1000000) (k : Int) :
    Calls Try.prog 15 #[.int .i64 k, v] w fun e w' => ∃ v', e = .returned v' ∧ SeesZ .u64 w' v' (restL k ds) ∧ Kp (fun _ => False) w w' := by
  obtain ⟨r, hr⟩ : ∃ r, r = restL k ds := ⟨_, rfl⟩
  rw [← hr]
  obtain ⟨a, c, rfl, hlc, hmax, hnil⟩ := hs.form
  have hlen0 : (0 : Int) ≤ ds.length := by omega
  by_cases hk0 : k < 0
  · have HD := Lib.hid (show r = ds by rw [hr]; unfold restL; rw [show k.toNat = 0 by omega, List.drop_zero])
    have hkk : ¬ ((ds.length : Int) < k) := by omega
    by_cases hc0 : c = 0
    · subst hc0
      obtain rfl : ds = [] := List.eq_nil_of_length_eq_zero (by omega)
      obtain ⟨v', w2, hap, s2, o2, k2⟩ := app_nilU hs (by omega)
      have HF := Lib.hid (show SeesZ .u64 w2 v' _ ∧ _ ∧ Kp (fun _ => False) w w2 from ⟨s2, o2, k2⟩)
      clear s2 o2 k2
      clear hs hr
      go_enter Try.func15, Try.ntmps15
      go_wp2_with (at_builtin; refine Lib.wpList_append_run _ rfl _ _ _ _ rfl _ _ rfl rfl _ _ (hap _) ?_)
      go_ret
      exact ⟨_, rfl, by rw [HD.out]; exact HF.out.1, HF.out.2.2⟩
    · obtain ⟨v', w2, hap, s2, o2, k2⟩ := app_nilU hs (by omega)
      have HF := Lib.hid (show SeesZ .u64 w2 v' _ ∧ _ ∧ Kp (fun _ => False) w w2 from ⟨s2, o2, k2⟩)
      clear s2 o2 k2
      clear hs hr
      go_enter Try.func15, Try.ntmps15
      go_wp2_with (at_builtin; refine Lib.wpList_append_run _ rfl _ _ _ _ rfl _ _ rfl rfl _ _ (hap _) ?_)
      go_ret
      exact ⟨_, rfl, by rw [HD.out]; exact HF.out.1, HF.out.2.2⟩
  by_cases hk0' : k = 0
  · subst hk0'
    have HD := Lib.hid (show r = ds by rw [hr]; unfold restL; rw [show (0 : Int).toNat = 0 from rfl, List.drop_zero])
    have hkk : ¬ ((ds.length : Int) < 0) := by omega
    by_cases hc0 : c = 0
    · subst hc0
      obtain rfl : ds = [] := List.eq_nil_of_length_eq_zero (by omega)
      obtain ⟨v', w2, hap, s2, o2, k2⟩ := app_nilU hs (by omega)
      have HF := Lib.hid (show SeesZ .u64 w2 v' _ ∧ _ ∧ Kp (fun _ => False) w w2 from ⟨s2, o2, k2⟩)
      clear s2 o2 k2
      clear hs hr
      go_enter Try.func15, Try.ntmps15
      go_wp2_with (at_builtin; refine Lib.wpList_append_run _ rfl _ _ _ _ rfl _ _ rfl rfl _ _ (hap _) ?_)
      go_ret
      exact ⟨_, rfl, by rw [HD.out]; exact HF.out.1, HF.out.2.2⟩
    · obtain ⟨v', w2, hap, s2, o2, k2⟩ := app_nilU hs (by omega)
      have HF := Lib.hid (show SeesZ .u64 w2 v' _ ∧ _ ∧ Kp (fun _ => False) w w2 from ⟨s2, o2, k2⟩)
      clear s2 o2 k2
      clear hs hr
      go_enter Try.func15, Try.ntmps15
      go_wp2_with (at_builtin; refine Lib.wpList_append_run _ rfl _ _ _ _ rfl _ _ rfl rfl _ _ (hap _) ?_)
      go_ret
      exact ⟨_, rfl, by rw [HD.out]; exact HF.out.1, HF.out.2.2⟩
  by_cases hkl : (ds.length : Int) < k
  · have HD := Lib.hid (show r = [] by rw [hr]; unfold restL; rw [List.drop_of_length_le (by omega)])
    clear hs hr
    go_enter Try.func15, Try.ntmps15
    go_wp2
    go_ret
    exact ⟨_, rfl, by rw [HD.out]; exact SeesZ.nil _ _, Kp.refl _ _⟩
  · obtain ⟨m, rfl⟩ : ∃ m : Nat, k = m := ⟨k.toNat, by omega⟩
    have HD := Lib.hid (show r = ds.drop m by rw [hr]; unfold restL; rw [Int.toNat_natCast])
    have hm0 : 0 < (m : Int) := by omega
    have hml : (m : Int) ≤ ds.length := by omega
    by_cases hmc : c = m
    · obtain rfl : m = ds.length := by omega
      have hs' := seesZ_none (k := .u64) (w := w) a (l := ds) ds.length (Nat.le_refl _)
      subst hmc
      obtain ⟨v', w2, hap, s2, o2, k2⟩ := app_nilU hs' (by rw [List.length_drop]; omega)
      have HF := Lib.hid (show SeesZ .u64 w2 v' _ ∧ _ ∧ Kp (fun _ => False) w w2 from ⟨s2, o2, k2⟩)
      clear s2 o2 k2
      clear hs hs' hr hk0 hk0' hkl
      go_enter Try.func15, Try.ntmps15
      go_wp2_with (at_builtin; refine Lib.wpList_append_run _ rfl _ _ _ _ rfl _ _ rfl rfl _ _ (hap _) ?_)
      go_ret
      exact ⟨_, rfl, by rw [HD.out]; exact HF.out.1, HF.out.2.2⟩
    · have hs' := hs.from m (by omega)
      obtain ⟨v', w2, hap, s2, o2, k2⟩ := app_nilU hs' (by rw [List.length_drop]; omega)
      have HF := Lib.hid (show SeesZ .u64 w2 v' _ ∧ _ ∧ Kp (fun _ => False) w w2 from ⟨s2, o2, k2⟩)
      clear s2 o2 k2
      clear hs hs' hr hk0 hk0' hkl
      go_enter Try.func15, Try.ntmps15
      go_wp2_with (at_builtin; refine Lib.wpList_append_run _ rfl _ _ _ _ rfl _ _ rfl rfl _ _ (hap _) ?_)
      go_ret
      exact ⟨_, rfl, by rw [HD.out]; exact HF.out.1, HF.out.2.2⟩
end Go.Proofs.Ytpadabmbblcklaa
