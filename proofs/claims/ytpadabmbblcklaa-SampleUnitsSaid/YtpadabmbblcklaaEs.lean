/-
  SampleUnits, SampleSlots: the laws' walks.
-/
import Derived.Test.YtpadabmbblcklaaEr
namespace Go.Proofs.Ytpadabmbblcklaa
open Go.RowKit

set_option maxRecDepth 100000 in
set_option maxHeartbeats 4000000 in
theorem units_law {v : Value} {ds : List Int} {w : World} (t k : Int) (hs : SeesZ .u64 w v ds) (hz : ZOk 0 18446744073709551615 ds) :
    Calls Try.prog 3 #[.int .i64 t, .int .i64 k, v] w fun e w' => e = .returned (.bool true) ∧ Kp (fun _ => False) w w' := by
  have HB := Lib.hid (fun w => begun_any w)
  have HU := Lib.hid (fun w' (kp : Kp (fun _ => False) w w') => units_any (hs.kept kp) hz t k)
  have HRU := Lib.hid (fun w' (kp : Kp (fun _ => False) w w') => runits_any (hs.kept kp) hz t k)
  have HR := Lib.hid (fun w' (kp : Kp (fun _ => False) w w') (h : ds.length ≤ 1000000) => rest_any (hs.kept kp) h k)
  have HRR := Lib.hid (fun w' (kp : Kp (fun _ => False) w w') (h : ds.length ≤ 1000000) => rrest_any (hs.kept kp) h k)
  obtain ⟨a, c, rfl, hlc, hmax, _⟩ := hs.form
  clear hs hz
  have hl0 : (0 : Int) ≤ ds.length := by omega
  by_cases hbig : 300 < (ds.length : Int)
  · go_enter Try.func3, Try.ntmps3
    go_wp2_with fail
    refine (HB.out w).mono ?_
    rintro e w2 ⟨rfl, k2⟩
    have K2 := Lib.hid k2
    clear k2
    go_wp2_with fail
    refine (HB.out w2).mono ?_
    rintro e w3 ⟨rfl, k3⟩
    have K3 := Lib.hid (K2.out.trans k3 (fun _ _ f => f))
    clear k3
    go_wp2_with fail
    go_ret
    exact ⟨rfl, K3.out⟩
  · have hfew : ds.length ≤ 1000000 := by omega
    have HR1 := Lib.hid (fun w' kp => HR.out w' kp hfew)
    have HR2 := Lib.hid (fun w' kp => HRR.out w' kp hfew)
    obtain ⟨u, ue, hu⟩ : ∃ u ue, unitsU t k ds = (u, ue) := ⟨_, _, rfl⟩
    rw [hu] at HU HRU
    obtain ⟨r, hr⟩ : ∃ r, r = restL k ds := ⟨_, rfl⟩
    rw [← hr] at HR1 HR2
    clear HR HRR hu hr hfew
    go_enter Try.func3, Try.ntmps3
    go_wp2_with fail
    refine (HB.out w).mono ?_
    rintro e w2 ⟨rfl, k2⟩
    have HU2 := Lib.hid (HU.out w2 k2)
    have K2 := Lib.hid k2
    clear k2
    go_wp2_with fail
    refine HU2.out.mono ?_
    rintro e w3 ⟨v3, rfl, s3, _, k3⟩
    have K3 := Lib.hid (K2.out.trans k3 (fun _ _ f => f))
    have S3 := Lib.hid s3
    have HU3 := Lib.hid (HRU.out w3 K3.out)
    clear k3 s3
    go_wp2_with fail
    refine HU3.out.mono ?_
    rintro e w4 ⟨v4, rfl, s4, _, k4⟩
    have K4 := Lib.hid (K3.out.trans k4 (fun _ _ f => f))
    have HE := Lib.hid (equalQ_any (S3.out.kept k4) s4)
    rw [decide_eq_true rfl] at HE
    clear k4 s4
    go_wp2_with fail
    refine HE.out.mono ?_
    rintro e w5 ⟨rfl, k5⟩
    have K5 := Lib.hid (K4.out.trans k5 (fun _ _ f => f))
    have HR3 := Lib.hid (HR1.out w5 K5.out)
    clear k5
    go_wp2_with fail
    refine HR3.out.mono ?_
    rintro e w6 ⟨v6, rfl, s6, k6⟩
    have K6 := Lib.hid (K5.out.trans k6 (fun _ _ f => f))
    have S6 := Lib.hid s6
    have HR4 := Lib.hid (HR2.out w6 K6.out)
    clear k6 s6
    go_wp2_with fail
    refine HR4.out.mono ?_
    rintro e w7 ⟨v7, rfl, s7, k7⟩
    have K7 := Lib.hid (K6.out.trans k7 (fun _ _ f => f))
    have HE2 := Lib.hid (equalU_any (S6.out.kept k7) s7)
    rw [decide_eq_true rfl] at HE2
    clear k7 s7
    go_wp2_with fail
    refine HE2.out.mono ?_
    rintro e w8 ⟨rfl, k8⟩
    have K8 := Lib.hid (K7.out.trans k8 (fun _ _ f => f))
    clear k8
    go_wp2_with fail
    go_ret
    exact ⟨rfl, K8.out⟩
end Go.Proofs.Ytpadabmbblcklaa
