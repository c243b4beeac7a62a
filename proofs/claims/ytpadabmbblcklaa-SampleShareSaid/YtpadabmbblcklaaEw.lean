/-
  SampleShare: the law's walk.
-/
import Derived.Test.YtpadabmbblcklaaEr
import Derived.Test.YtpadabmbblcklaaEwc
import Derived.Test.YtpadabmbblcklaaEk
namespace Go.Proofs.Ytpadabmbblcklaa
open Go.RowKit

/-- the draws, each cut down to a number of those that are left -/
def smallD (S : Int) (ds : List Int) (j : Nat) : List Int := (List.range j).map (numA S ds)
theorem smallD_length (S : Int) (ds : List Int) (j : Nat) : (smallD S ds j).length = j := by simp [smallD]
theorem smallD_succ (S : Int) (ds : List Int) (j : Nat) : smallD S ds (j + 1) = smallD S ds j ++ [numA S ds j] := by
  unfold smallD
  rw [List.range_succ, List.map_append]; rfl
theorem small_units {S k : Int} {ds more : List Int} (h : (unitsU S k ds).2 = 0) : unitsU S k (smallD S ds k.toNat ++ more) = unitsU S k ds := by
  unfold unitsU at h ⊢
  split at h
  · cases h
  · rename_i h1
    rw [if_neg h1, if_neg h1]
    split at h
    · cases h
    · rename_i h2
      rw [if_neg h2, if_neg h2]
      have hok := numA_ok (t := S) (ds := ds) (k := k.toNat) (by omega)
      have e : drawnP S (numA S (smallD S ds k.toNat ++ more)) k.toNat = drawnP S (numA S ds) k.toNat := unitsL_same (fun j hj => by
        have hg : (smallD S ds k.toNat ++ more)[j]? = some (numA S ds j) := by
          rw [List.getElem?_append_left (by rw [smallD_length]; exact hj)]
          unfold smallD
          simp [hj]
        have := hok j hj
        rw [numA, hg, Option.getD_some]
        exact Int.emod_eq_of_lt this.1 this.2)
      unfold unitsL
      rw [e]
theorem smallD_rng {S : Int} {ds : List Int} {k : Nat} (hk : (k : Int) ≤ S) (hS : S ≤ 4611686018427387903) : ZOk 0 18446744073709551615 (smallD S ds k) := by
  intro x hx
  unfold smallD at hx
  obtain ⟨j, hj, rfl⟩ := List.mem_map.1 hx
  have := numA_ok (t := S) (ds := ds) hk j (by simpa using hj)
  omega
theorem src_oneU {w : World} {g T : Nat} {x : Int} (h : w.heap[g]? = some (.cells #[.int .u64 x] T (0, 0))) : Src Try.prog 1 22 (.slice (some ⟨g, 0, none⟩) 1 1) 1 (encZ .u64 [x]) w :=
  Src.ofSlice w Try.underlying22 ⟨g, 0, none⟩ 1 1 (encZ .u64 [x]) rfl (fun j u hj => by rw [Addr.add_lit, cell_blk h, Nat.zero_add, List.getElem?_toArray]; exact hj) (encZ_one _ _)
/-- numbers put behind a row of one's own, none among these -/
theorem app_moreU {w : World} {B n c : Nat} {v : Value} {a : Option Addr} {l more : List Int} (hB : B ≤ w.heap.size) (ho : OwnG 31 1 w B v l.length (encZ .u64 l)) (hs : SeesZ .u64 w (.slice a n c) more) (hl : l.length + more.length ≤ 1000000) :
    ∃ v' w', (∀ ty, (Builtin.append_ #[22, 22] ty #[v, .slice a n c]).run Try.prog w = .ok v' w') ∧ SeesZ .u64 w' v' (l ++ more) ∧ Kp (fun k => v.ownBlock = some k) w w' := by
  have hn : n = more.length := by
    obtain ⟨a', c', e, _⟩ := hs
    injection e
  subst hn
  by_cases h1 : 1 ≤ more.length
  · obtain ⟨v', w2, hap, o2, k2, _⟩ := app_own Try.underlying22 infoU64 rfl hB ho hs.srcU h1 hl (by omega)
    refine ⟨v', w2, hap, ?_, k2⟩
    rw [← encZ_append, ← List.length_append] at o2
    exact o2.seesZ
  · obtain rfl : more = [] := List.eq_nil_of_length_eq_zero (by omega)
    have hsl := ho.seesZ
    obtain ⟨i0, hi0, hz0, hs0, hb0⟩ := info_parts infoU64
    obtain ⟨hcl, ⟨rfl, h0⟩ | ⟨g, cap, rest, rfl, h1, h2, h3, h4, h5⟩⟩ := ho
    · obtain rfl : l = [] := List.eq_nil_of_length_eq_zero h0
      exact ⟨_, w, fun ty => app_zero Try.underlying22 infoU64 w none a c ty, SeesZ.nil _ _, Kp.refl _ _⟩
    · have src := hs.srcU
      rw [← hs0] at src
      have hrun := fun ty => run_append_room_src (P := Try.prog) w 22 22 ty 31 i0 Try.underlying22 hi0 g 0 l.length cap (.slice a 0 c) 0 (encZ .u64 []) src (by omega) (fun j hj => by exact absurd hj (by simp [encZ])) (fun j hj => free_blk h2 _)
      refine ⟨_, _, hrun, ?_, Kp.refl _ _⟩
      rw [List.append_nil]
      exact hsl
/-- what is left to the walk where there are slots -/
theorem share_cases (l ds : List Int) (k : Int) :
    (∃ e, ¬ e = 0 ∧ slotsE l k ds = ([], e)) ∨
    (∃ (us : List Int) (n : Nat), k = n ∧ us.length = n ∧ n ≤ 64 ∧ GoodW l ∧ unitsU (sumQ l) n ds = (us, 0) ∧ slotsE l k ds = (us.map (ownQ l), 0) ∧ us.Nodup ∧ (∀ u ∈ us, 0 ≤ u ∧ u < sumQ l) ∧ (n : Int) ≤ sumQ l ∧
      (∀ more, slotsE l n (smallD (sumQ l) ds n ++ more) = (us.map (ownQ l), 0))) := by
  rcases slots_cases l ds k with ⟨_, he⟩ | ⟨ue, _, h, _, _, he⟩ | ⟨us, G, hm, hu, hul, hur, he⟩
  · exact .inl ⟨1, by decide, he⟩
  · exact .inl ⟨ue, h, he⟩
  · right
    have h0 : (unitsU (sumQ l) k ds).2 = 0 := by rw [hu]
    obtain ⟨h1, h2, h3, h4⟩ := unitsU_ok h0
    rw [hu] at h1 h3
    have hk0 : 0 ≤ k ∧ k ≤ sumQ l := by
      unfold unitsU at h0
      split at h0
      · cases h0
      · split at h0
        · cases h0
        · omega
    have hkn : k = (k.toNat : Int) := by omega
    refine ⟨us, k.toNat, hkn, h1, h2, G, by rw [← hkn]; exact hu, he, h3, hur, by omega, fun more => ?_⟩
    rw [← hkn, slotsE_ok hm, small_units h0, hu]
theorem slots_ok {l us : List Int} (hp : ∀ x ∈ l, 1 ≤ x) (hr : ∀ u ∈ us, 0 ≤ u ∧ u < sumQ l) : slotsOk l.length (us.map (ownQ l)) = true := by
  unfold slotsOk
  rw [List.all_eq_true]
  intro x hx
  obtain ⟨u, hu, rfl⟩ := List.mem_map.1 hx
  obtain ⟨k, h1, h2, _⟩ := ownQ_of hp (hr u hu).1 (hr u hu).2
  rw [h2]
  simp
  omega

set_option maxRecDepth 100000 in
set_option maxHeartbeats 16000000 in
theorem share_law {v vd vm : Value} {l ds more : List Int} {w : World} (hs : SeesZ .i64 w v l) (hz : ZOk (-9223372036854775808) 9223372036854775807 l) (k : Int) (hsd : SeesZ .u64 w vd ds) (hzd : ZOk 0 18446744073709551615 ds) (hsm : SeesZ .u64 w vm more) (hzm : ZOk 0 18446744073709551615 more) :
    Calls Try.prog 8 #[v, .int .i64 k, vd, vm] w fun e w' => e = .returned (.bool true) ∧ Kp (fun _ => False) w w' := by
  have HB := Lib.hid (fun w => begun_any w)
  have HSL := Lib.hid (fun w' (kp : Kp (fun _ => False) w w') => slots_any (hs.kept kp) hz (hsd.kept kp) hzd k)
  have HSL2 := Lib.hid (fun w' (kp : Kp (fun _ => False) w w') (v2 : Value) (d2 : List Int) (h2 : SeesZ .u64 w' v2 d2) (hz2 : ZOk 0 18446744073709551615 d2) (k2 : Int) => slots_any (hs.kept kp) hz h2 hz2 k2)
  have HUN := Lib.hid (fun w' (kp : Kp (fun _ => False) w w') (t k2 : Int) => units_any (hsd.kept kp) hzd t k2)
  have HOW := Lib.hid (fun w' (kp : Kp (fun _ => False) w w') (u : Int) => Owner_any (hs.kept kp) hz u)
  have HS := Lib.hid (fun w' (kp : Kp (fun _ => False) w w') => hs.kept kp)
  have HSD := Lib.hid (fun w' (kp : Kp (fun _ => False) w w') => hsd.kept kp)
  have HSM0 := Lib.hid (fun w' (kp : Kp (fun _ => False) w w') => hsm.kept kp)
  have HZM := Lib.hid hzm
  have HZD := Lib.hid (fun j => getD_rng hzd (by omega) (by omega) j)
  obtain ⟨a, c, rfl, hlc, hmax, _⟩ := hs.form
  obtain ⟨ad, cd, rfl, hlcd, hmaxd, _⟩ := hsd.form
  obtain ⟨am, cm, rfl, hlcm, hmaxm, _⟩ := hsm.form
  have hcs := share_cases l ds k
  clear hs hz hsd hzd hsm hzm
  have hl0 : (0 : Int) ≤ l.length := by omega
  have hl1 : (0 : Int) ≤ ds.length := by omega
  have hl2 : (0 : Int) ≤ more.length := by omega
  by_cases hb1 : 200 < (l.length : Int)
  · go_enter Try.func8, Try.ntmps8
    go_wp2_with fail
    refine (HB.out w).mono ?_
    rintro e w2 ⟨rfl, k2⟩
    have K2 := Lib.hid k2
    clear k2
    go_wp2_with fail
    refine (HB.out w2).mono ?_
    rintro e w3 ⟨rfl, k3⟩
    have K3 := Lib.hid (K2.out.trans k3 (fun _ _ f => f))
    clear k3
    go_wp2_with fail
    go_ret
    exact ⟨rfl, K3.out⟩
  by_cases hb2 : 300 < (ds.length : Int)
  · go_enter Try.func8, Try.ntmps8
    go_wp2_with fail
    refine (HB.out w).mono ?_
    rintro e w2 ⟨rfl, k2⟩
    have K2 := Lib.hid k2
    clear k2
    go_wp2_with fail
    refine (HB.out w2).mono ?_
    rintro e w3 ⟨rfl, k3⟩
    have K3 := Lib.hid (K2.out.trans k3 (fun _ _ f => f))
    clear k3
    go_wp2_with fail
    go_ret
    exact ⟨rfl, K3.out⟩
  by_cases hb3 : 300 < (more.length : Int)
  · go_enter Try.func8, Try.ntmps8
    go_wp2_with fail
    refine (HB.out w).mono ?_
    rintro e w2 ⟨rfl, k2⟩
    have K2 := Lib.hid k2
    clear k2
    go_wp2_with fail
    refine (HB.out w2).mono ?_
    rintro e w3 ⟨rfl, k3⟩
    have K3 := Lib.hid (K2.out.trans k3 (fun _ _ f => f))
    clear k3
    go_wp2_with fail
    go_ret
    exact ⟨rfl, K3.out⟩
  rcases hcs with ⟨ee, hee, he⟩ | ⟨us, n, rfl, hun, hn64, G, hu, he, hnd, hur, hnS, hmore⟩
  · rw [he] at HSL
    have hne : (ee != 0) = true := by simp [hee]
    clear he hee
    go_enter Try.func8, Try.ntmps8
    go_wp2_with fail
    refine (HB.out w).mono ?_
    rintro e w2 ⟨rfl, k2⟩
    have H2 := Lib.hid (HSL.out w2 k2)
    have K2 := Lib.hid k2
    clear k2
    go_wp2_with fail
    refine H2.out.mono ?_
    rintro e w3 ⟨v3, rfl, s3, _, k3⟩
    obtain ⟨a3, c3, rfl, _⟩ := s3.form
    have K3 := Lib.hid (K2.out.trans k3 (fun _ _ f => f))
    clear k3 s3
    go_wp2_with fail
    go_ret
    exact ⟨rfl, K3.out⟩
  · rw [he] at HSL
    obtain ⟨S, hS⟩ : ∃ S, S = sumQ l := ⟨_, rfl⟩
    have HPRE := Lib.hid (fun (j : Nat) (x : Int) (h : l[j]? = some x) => (show 1 ≤ x ∧ 0 ≤ sumQ (l.take j) ∧ sumQ (l.take j) + x ≤ 4611686018427387903 from by
      have h1 := G.pos x (List.mem_of_getElem? h)
      have h2 := sumQ_pre G.pos j
      have h3 := sumQ_pre G.pos (j + 1)
      rw [sumQ_take h] at h3
      have := G.sum
      exact ⟨h1, h2.1, by omega⟩))
    have HOE := Lib.hid (fun (j : Nat) (u : Int) (h : us[j]? = some u) => (show ownE l u = (ownQ l u, 0) by
      have := hur u (List.mem_of_getElem? h)
      unfold ownE
      rw [wtsMay_iff.2 G]
      exact if_neg (by omega)))
    have hcE : countE l.length (us.map (ownQ l)) = (countQ l.length (us.map (ownQ l)), 0) := by
      unfold countE
      have := G.most
      rw [if_neg (by omega), slots_ok G.pos hur]
      rfl
    have HSHR := Lib.hid (fun (j : Nat) (x : Int) (h : l[j]? = some x) => share_le G.pos hnd hur h)
    have hSM : S ≤ 4611686018427387903 := by rw [hS]; exact G.sum
    rw [← hS] at hu hnS hmore hur
    have hUN2 := fun w' (kp : Kp (fun _ => False) w w') => HUN.out w' kp S n
    rw [hu] at hUN2
    have HUN2 := Lib.hid hUN2
    have h32 := G.most
    have hl1w := G.one
    have HMORE := Lib.hid hmore
    have HHS := Lib.hid hS
    have HNA := Lib.hid (numA_ok (t := S) (ds := ds) (k := n) hnS)
    have HCE := Lib.hid hcE
    obtain ⟨sl, hsl⟩ : ∃ sl, sl = us.map (ownQ l) := ⟨_, rfl⟩
    have hsll : sl.length = n := by rw [hsl, List.length_map, hun]
    have HSLE := Lib.hid hsl
    rw [← hsl] at HSL HCE HSHR HMORE
    have HHUN := Lib.hid hun
    have HHSLL := Lib.hid hsll
    have hn0 : (0 : Int) ≤ n := by omega
    clear hmore hur hnd hUN2 hu G hS he HUN hcE hsl hun hsll
    go_enter Try.func8, Try.ntmps8
    go_wp2_with fail
    refine (HB.out w).mono ?_
    rintro e w2 ⟨rfl, k2⟩
    have H2 := Lib.hid (HSL.out w2 k2)
    have K2 := Lib.hid k2
    clear k2
    go_wp2_with fail
    refine H2.out.mono ?_
    rintro e w3 ⟨v3, rfl, s3, _, k3⟩
    have S3 := Lib.hid s3
    obtain ⟨a3, c3, rfl, hlc3, hmax3, _⟩ := s3.form
    rw [HHSLL.out] at hlc3
    have K3 := Lib.hid (K2.out.trans k3 (fun _ _ f => f))
    rw [HHSLL.out] at S3 ⊢
    clear k3 s3
    go_wp2_with fail
    go_loopw [11, 61] (fun tv iv wr => ∃ (i : Nat) (t : Int), i ≤ l.length ∧ iv = .int .i64 i ∧ tv = .int .i64 t ∧ (0 ≤ t ∧ t ≤ 4611686018427387903) ∧ wr = w3 ∧ Hid (t = sumQ (l.take i))) (fun _ iv _ => l.length - (intOf iv).toNat)
    case atStart => exact ⟨0, 0, by omega, rfl, rfl, by omega, rfl, Lib.hid (by simp [sumQ])⟩
    case round =>
      obtain ⟨i, t, hi, rfl, rfl, ⟨ht0, ht1⟩, rfl, htq⟩ := hrel
      by_cases hlt : i < l.length
      · obtain ⟨x, hx⟩ : ∃ x, l[i]? = some x := ⟨l[i], by simp⟩
        obtain ⟨g, off, rfl, hc⟩ := (HS.out wr K3.out).at hx
        obtain ⟨hp1, hp2, hp3⟩ := HPRE.out i x hx
        rw [← htq.out] at hp2 hp3
        have HT := Lib.hid (show t + x = sumQ (l.take (i + 1)) by rw [sumQ_take hx, ← htq.out])
        clear hx
        go_wp2_with fail
        go_roundw
        case rel => exact ⟨i + 1, t + x, by omega, by go_num, by go_num, by omega, by first | rfl | trivial, HT⟩
        case measure => simp [intOf]; omega
      · obtain rfl : i = l.length := by omega
        obtain rfl : t = S := by rw [htq.out, List.take_length, HHS.out]
        obtain ⟨w4, hw4⟩ : ∃ w4, w4 = wr := ⟨_, rfl⟩
        rw [← hw4] at K3 S3 ⊢
        have HU4 := Lib.hid (HUN2.out w4 K3.out)
        clear hw4 htq
        go_wp2_with fail
        refine HU4.out.mono ?_
        rintro e w5 ⟨v5, rfl, s5, _, k5⟩
        obtain ⟨a5, c5, rfl, hlc5, hmax5, _⟩ := s5.form
        rw [HHUN.out] at hlc5
        have S5 := Lib.hid s5
        rw [HHUN.out] at S5 ⊢
        have S35 := Lib.hid (S3.out.kept k5)
        have K5 := Lib.hid (K3.out.trans k5 (fun _ _ f => f))
        have hct := count_any S35.out (l.length : Int)
        rw [HCE.out] at hct
        have HCT := Lib.hid hct
        clear k5 s5 hct
        go_wp2_with fail
        refine HCT.out.mono ?_
        rintro e w6 ⟨v6, rfl, s6, _, k6⟩
        obtain ⟨a6, c6, rfl, hlc6, hmax6, _⟩ := s6.form
        rw [countQ_length] at hlc6
        have S6 := Lib.hid s6
        rw [countQ_length] at S6 ⊢
        have S36 := Lib.hid (S35.out.kept k6)
        have S56 := Lib.hid (S5.out.kept k6)
        have K6 := Lib.hid (K5.out.trans k6 (fun _ _ f => f))
        clear k6 s6
        go_wp2_with fail
        go_loopw [105] (fun iv wr' => ∃ (i : Nat), i ≤ n ∧ iv = .int .i64 i ∧ Hid (Kp (fun _ => False) w6 wr')) (fun iv _ => n - (intOf iv).toNat)
        case atStart => exact ⟨0, by omega, rfl, Lib.hid (Kp.refl _ _)⟩
        case round =>
          obtain ⟨i, hi, rfl, hkp⟩ := hrel
          have HKP := Lib.hid hkp.out
          clear hkp
          by_cases hlt : i < n
          · obtain ⟨u, hu⟩ : ∃ u, us[i]? = some u := ⟨us[i]'(by rw [HHUN.out]; exact hlt), List.getElem?_eq_getElem _⟩
            have hso : sl[i]? = some (ownQ l u) := by rw [HSLE.out, List.getElem?_map, hu]; rfl
            obtain ⟨g3, off3, rfl, hc3⟩ := (S36.out.kept HKP.out).at hso
            obtain ⟨g5, off5, rfl, hc5⟩ := (S56.out.kept HKP.out).at hu
            have how := HOW.out wr (K6.out.trans HKP.out (fun _ _ f => f)) u
            rw [HOE.out i u hu] at how
            obtain ⟨o, ho⟩ : ∃ o, o = ownQ l u := ⟨_, rfl⟩
            rw [← ho] at how hc3
            have HO := Lib.hid how
            clear hu hso how ho
            go_wp2_with fail
            refine HO.out.mono ?_
            rintro e w7 ⟨rfl, k7⟩
            have HK7 := Lib.hid (HKP.out.trans k7 (fun _ _ f => f))
            clear k7
            go_wp2_with fail
            go_roundw
            case rel => exact ⟨i + 1, by omega, by go_num, HK7⟩
            case measure => simp [intOf]; omega
          · obtain rfl : i = n := by omega
            have S67 := Lib.hid (S6.out.kept HKP.out)
            have S37 := Lib.hid (S36.out.kept HKP.out)
            have K7 := Lib.hid (K6.out.trans HKP.out (fun _ _ f => f))
            obtain ⟨w7, hw7⟩ : ∃ w7, w7 = wr := ⟨_, rfl⟩
            rw [← hw7] at S67 S37 K7 ⊢
            clear hw7 HKP
            go_wp2_with fail
            go_loopw [129] (fun iv wr' => ∃ (j : Nat), j ≤ l.length ∧ iv = .int .i64 j ∧ wr' = w7) (fun iv _ => l.length - (intOf iv).toNat)
            case atStart => exact ⟨0, by omega, rfl, rfl⟩
            case round =>
              obtain ⟨j, hj, rfl, rfl⟩ := hrel
              by_cases hlt : j < l.length
              · obtain ⟨x, hx⟩ : ∃ x, l[j]? = some x := ⟨l[j], by simp⟩
                obtain ⟨g, off, rfl, hc⟩ := (HS.out wr K7.out).at hx
                obtain ⟨cc, hcc⟩ : ∃ cc, cc = ((sl.countP (fun y => decide (y = (j : Int))) : Nat) : Int) := ⟨_, rfl⟩
                obtain ⟨g6, off6, rfl, hc6⟩ := S67.out.at (show (countQ l.length sl)[j]? = some cc by rw [countQ_get hlt, hcc])
                have hle := HSHR.out j x hx
                rw [← hcc] at hle
                clear hx hcc
                go_wp2_with fail
                go_roundw
                case rel => exact ⟨j + 1, by omega, by go_num, by first | rfl | trivial⟩
                case measure => simp [intOf]; omega
              · obtain rfl : j = l.length := by omega
                obtain ⟨W8, hw8⟩ : ∃ W8, W8 = wr := ⟨_, rfl⟩
                rw [← hw8] at S37 K7 ⊢
                clear hw8
                go_wp2_with fail
                go_loopw [24, 142] (fun dv jv wr' => ∃ (j : Nat), j ≤ i ∧ jv = .int .i64 j ∧ Hid (OwnG 31 1 wr' W8.heap.size dv j (encZ .u64 (smallD t ds j))) ∧ Hid (Kp (fun _ => False) W8 wr')) (fun _ jv _ => i - (intOf jv).toNat)
                case atStart => exact ⟨0, by omega, rfl, Lib.hid (OwnG.nil _ _ _ _), Lib.hid (Kp.refl _ _)⟩
                case round =>
                  obtain ⟨j, hj, rfl, hown, hkp⟩ := hrel
                  obtain ⟨a9, c9, rfl⟩ := hown.out.form
                  have HOWN := Lib.hid hown.out
                  have HKP := Lib.hid hkp.out
                  clear hown hkp
                  by_cases hlt : j < i
                  · have HSM := Lib.hid (smallD_succ t ds j)
                    obtain ⟨hb1, hb2⟩ := HNA.out j hlt
                    have hfj : numA t ds j = (ds[j]?.getD 0) % (t - j) := rfl
                    have hrg := HZD.out j
                    obtain ⟨fj, hf⟩ : ∃ fj, fj = numA t ds j := ⟨_, rfl⟩
                    rw [← hf] at HSM hb1 hb2 hfj
                    have hnz : ¬ (t - j = 0) := by omega
                    clear hf
                    by_cases hlt2 : j < ds.length
                    · obtain ⟨dd, hdx⟩ : ∃ dd, ds[j]? = some dd := ⟨ds[j], by simp⟩
                      obtain ⟨g, off, rfl, hcd⟩ := (HSD.out wr (K7.out.trans HKP.out (fun _ _ f => f))).at hdx
                      rw [hdx, Option.getD_some] at hfj hrg
                      have hrm : dd.tmod (t - j) = fj := by rw [Int.tmod_eq_emod_of_nonneg hrg.1, hfj]
                      obtain ⟨hr0, hr1⟩ := hrg
                      clear hdx hfj
                      have k4 : Kp (fun _ => False) wr (wr.alloc (.cells #[.int .u64 fj] 31)) := (Kp.refl _ _).alloc _
                      obtain ⟨v', w9, hap, o5, k5, b5⟩ := app_own Try.underlying22 infoU64 rfl (by have := HKP.out.size; have := k4.size; omega) (HOWN.out.kept k4 (fun _ _ f => f)) (src_oneU (new_blk wr (.cells #[.int .u64 fj] 31))) (Nat.le_refl _) (by omega) (by omega)
                      have HO5 := Lib.hid (show OwnG 31 1 w9 W8.heap.size v' (j + 1) (encZ .u64 (smallD t ds (j + 1))) by rw [HSM.out, encZ_append]; exact o5)
                      have HK5 := Lib.hid (show Kp (fun _ => False) W8 w9 from (HKP.out.trans k4 (fun _ _ f => f)).trans k5 (fun x hx h => by have := (HOWN.out.lt x h).1; omega))
                      clear k4 o5 k5 b5
                      go_wp2_with (at_builtin; refine Lib.wpList_append_run _ rfl _ _ _ _ rfl _ _ rfl rfl _ _ (hap _) ?_)
                      go_roundw
                      case rel => exact ⟨j + 1, by omega, by go_num, HO5, HK5⟩
                      case measure => simp [intOf]; omega
                    · rw [List.getElem?_eq_none (by omega), Option.getD_none] at hfj
                      obtain rfl : fj = 0 := by rw [hfj]; simp
                      clear hfj hrg
                      have k4 : Kp (fun _ => False) wr (wr.alloc (.cells #[.int .u64 0] 31)) := (Kp.refl _ _).alloc _
                      obtain ⟨v', w9, hap, o5, k5, b5⟩ := app_own Try.underlying22 infoU64 rfl (by have := HKP.out.size; have := k4.size; omega) (HOWN.out.kept k4 (fun _ _ f => f)) (src_oneU (new_blk wr (.cells #[.int .u64 0] 31))) (Nat.le_refl _) (by omega) (by omega)
                      have HO5 := Lib.hid (show OwnG 31 1 w9 W8.heap.size v' (j + 1) (encZ .u64 (smallD t ds (j + 1))) by rw [HSM.out, encZ_append]; exact o5)
                      have HK5 := Lib.hid (show Kp (fun _ => False) W8 w9 from (HKP.out.trans k4 (fun _ _ f => f)).trans k5 (fun x hx h => by have := (HOWN.out.lt x h).1; omega))
                      clear k4 o5 k5 b5
                      go_wp2_with (at_builtin; refine Lib.wpList_append_run _ rfl _ _ _ _ rfl _ _ rfl rfl _ _ (hap _) ?_)
                      go_roundw
                      case rel => exact ⟨j + 1, by omega, by go_num, HO5, HK5⟩
                      case measure => simp [intOf]; omega
                  · obtain rfl : j = i := by omega
                    obtain ⟨v', w9, hap, s9, k9⟩ := app_moreU (HKP.out.size) (by rw [smallD_length]; exact HOWN.out) (HSM0.out wr (K7.out.trans HKP.out (fun _ _ f => f))) (by rw [smallD_length]; omega)
                    have k89 : Kp (fun _ => False) W8 w9 := HKP.out.trans k9 (fun x hx h => by have := (HOWN.out.lt x h).1; omega)
                    have k09 := K7.out.trans k89 (fun _ _ f => f)
                    obtain ⟨d2, hd2⟩ : ∃ d2, d2 = smallD t ds j ++ more := ⟨_, rfl⟩
                    rw [← hd2] at s9
                    have hag := HSL2.out w9 k09 v' d2 s9 (fun x hx => by
                      rw [hd2] at hx
                      rcases List.mem_append.1 hx with h | h
                      · exact smallD_rng hnS (by omega) x h
                      · exact HZM.out x h) (j : Int)
                    rw [hd2, HMORE.out more] at hag
                    obtain ⟨a10, c10, rfl, _⟩ := s9.form
                    have HAG := Lib.hid hag
                    have S39 := Lib.hid (S37.out.kept k89)
                    have K9 := Lib.hid k09
                    clear s9 k9 k89 k09 hag hd2
                    go_wp2_with (at_builtin; refine Lib.wpList_append_run _ rfl _ _ _ _ rfl _ _ rfl rfl _ _ (hap _) ?_)
                    refine HAG.out.mono ?_
                    rintro e w10 ⟨v10, rfl, s10, _, k10⟩
                    have HE := Lib.hid (equalI_any s10 (S39.out.kept k10))
                    rw [decide_eq_true rfl] at HE
                    have K10 := Lib.hid (K9.out.trans k10 (fun _ _ f => f))
                    clear s10 k10
                    go_wp2_with fail
                    refine HE.out.mono ?_
                    rintro e w11 ⟨rfl, k11⟩
                    have K11 := Lib.hid (K10.out.trans k11 (fun _ _ f => f))
                    clear k11
                    go_wp2_with fail
                    go_ret
                    exact ⟨rfl, K11.out⟩
end Go.Proofs.Ytpadabmbblcklaa
