/-
  SampleSlots: the law's walk.
-/
import Derived.Test.YtpadabmbblcklaaEr
namespace Go.Proofs.Ytpadabmbblcklaa
open Go.RowKit

set_option maxRecDepth 100000 in
set_option maxHeartbeats 8000000 in
theorem slots_law {v vd : Value} {l ds : List Int} {w : World} (hs : SeesZ .i64 w v l) (hz : ZOk (-9223372036854775808) 9223372036854775807 l) (u k : Int) (hsd : SeesZ .u64 w vd ds) (hzd : ZOk 0 18446744073709551615 ds) :
    Calls Try.prog 4 #[v, .int .i64 u, .int .i64 k, vd] w fun e w' => e = .returned (.bool true) ∧ Kp (fun _ => False) w w' := by
  have HB := Lib.hid (fun w => begun_any w)
  have HO := Lib.hid (fun w' (kp : Kp (fun _ => False) w w') => Owner_any (hs.kept kp) hz u)
  have HRO := Lib.hid (fun w' (kp : Kp (fun _ => False) w w') => rOwner_any (hs.kept kp) hz u)
  have HU := Lib.hid (fun w' (kp : Kp (fun _ => False) w w') => slots_any (hs.kept kp) hz (hsd.kept kp) hzd k)
  have HRU := Lib.hid (fun w' (kp : Kp (fun _ => False) w w') => rslots_any (hs.kept kp) hz (hsd.kept kp) hzd k)
  obtain ⟨a, c, rfl, hlc, hmax, _⟩ := hs.form
  obtain ⟨ad, cd, rfl, hlcd, hmaxd, _⟩ := hsd.form
  clear hs hz hsd hzd
  have hl0 : (0 : Int) ≤ l.length := by omega
  have hl1 : (0 : Int) ≤ ds.length := by omega
  obtain ⟨o1, o2, ho⟩ : ∃ o1 o2, ownE l u = (o1, o2) := ⟨_, _, rfl⟩
  obtain ⟨s1, s2, hsl⟩ : ∃ s1 s2, slotsE l k ds = (s1, s2) := ⟨_, _, rfl⟩
  rw [ho] at HO HRO
  rw [hsl] at HU HRU
  clear ho hsl
  by_cases hb1 : 200 < (l.length : Int)
  · go_enter Try.func4, Try.ntmps4
    go_wp2_with fail
    refine (HB.out w).mono ?_
    rintro e w2 ⟨rfl, k2⟩
    have K2 := Lib.hid k2
    clear k2
    go_wp2_with fail
    refine (HB.out w2).mono ?_
    rintro e w3 ⟨rfl, k3⟩
    have K3 := Lib.hid (K2.out.trans k3 (fun _ _ f => f))
    clear k3
    go_wp2_with fail
    go_ret
    exact ⟨rfl, K3.out⟩
  by_cases hb2 : 300 < (ds.length : Int)
  · go_enter Try.func4, Try.ntmps4
    go_wp2_with fail
    refine (HB.out w).mono ?_
    rintro e w2 ⟨rfl, k2⟩
    have K2 := Lib.hid k2
    clear k2
    go_wp2_with fail
    refine (HB.out w2).mono ?_
    rintro e w3 ⟨rfl, k3⟩
    have K3 := Lib.hid (K2.out.trans k3 (fun _ _ f => f))
    clear k3
    go_wp2_with fail
    go_ret
    exact ⟨rfl, K3.out⟩
  go_enter Try.func4, Try.ntmps4
  go_wp2_with fail
  refine (HB.out w).mono ?_
  rintro e w2 ⟨rfl, k2⟩
  have H2 := Lib.hid (HO.out w2 k2)
  have K2 := Lib.hid k2
  clear k2
  go_wp2_with fail
  refine H2.out.mono ?_
  rintro e w3 ⟨rfl, k3⟩
  have K3 := Lib.hid (K2.out.trans k3 (fun _ _ f => f))
  have H3 := Lib.hid (HRO.out w3 K3.out)
  clear k3
  go_wp2_with fail
  refine H3.out.mono ?_
  rintro e w4 ⟨rfl, k4⟩
  have K4 := Lib.hid (K3.out.trans k4 (fun _ _ f => f))
  have H4 := Lib.hid (HU.out w4 K4.out)
  clear k4
  go_wp2_with fail
  refine H4.out.mono ?_
  rintro e w5 ⟨v5, rfl, s5, _, k5⟩
  have K5 := Lib.hid (K4.out.trans k5 (fun _ _ f => f))
  have S5 := Lib.hid s5
  have H5 := Lib.hid (HRU.out w5 K5.out)
  clear k5 s5
  go_wp2_with fail
  refine H5.out.mono ?_
  rintro e w6 ⟨v6, rfl, s6, _, k6⟩
  have K6 := Lib.hid (K5.out.trans k6 (fun _ _ f => f))
  have HE := Lib.hid (equalI_any (S5.out.kept k6) s6)
  rw [decide_eq_true rfl] at HE
  clear k6 s6
  go_wp2_with fail
  refine HE.out.mono ?_
  rintro e w7 ⟨rfl, k7⟩
  have K7 := Lib.hid (K6.out.trans k7 (fun _ _ f => f))
  clear k7
  go_wp2_with fail
  go_ret
  exact ⟨rfl, K7.out⟩
end Go.Proofs.Ytpadabmbblcklaa
