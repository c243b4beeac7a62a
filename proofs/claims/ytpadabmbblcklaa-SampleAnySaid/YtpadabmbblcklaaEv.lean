/-
  SampleAny: the law's walk.
-/
import Derived.Test.YtpadabmbblcklaaEva
import Derived.Deep.CutRange
namespace Go.Proofs.Ytpadabmbblcklaa
open Go.RowKit

theorem slice_uptoZ {Tsl T : TypeId} (hu : Try.prog.underlying Tsl = some (.slice T)) (hsz : ∀ w, (Go.sizeOf T).run Try.prog w = .ok 1 w) (a : Option Addr) (n c q : Nat) (hq : q ≤ c) (ha : a = none → c = 0) (w : World) :
    (Instr.slice Tsl (.slice a n c) none (some (.int .i64 (q : Int))) none).run Try.prog w = .ok (.slice a q c) w := by
  have h0 : (0 : Int) ≤ q := by omega
  cases a with
  | none =>
    obtain rfl : c = 0 := ha rfl
    obtain rfl : q = 0 := by omega
    simp [Instr.slice, Instr.sliceBounds, Instr.sliceBound, asIntOf, run_underlying hu, hsz, go_sem]
  | some ad =>
    simp [Instr.slice, Instr.sliceBounds, Instr.sliceBound, asIntOf, run_underlying hu, hsz, go_sem, h0]
    intro h
    exact absurd h (by omega)
theorem src_oneU {w : World} {g T : Nat} {x : Int} (h : w.heap[g]? = some (.cells #[.int .u64 x] T (0, 0))) : Src Try.prog 1 22 (.slice (some ⟨g, 0, none⟩) 1 1) 1 (encZ .u64 [x]) w :=
  Src.ofSlice w Try.underlying22 ⟨g, 0, none⟩ 1 1 (encZ .u64 [x]) rfl (fun j u hj => by rw [Addr.add_lit, cell_blk h, Nat.zero_add, List.getElem?_toArray]; exact hj) (encZ_one _ _)
theorem wishD_rng {wl : List Int} (hd : wl.Nodup) {t : Int} (hr : ∀ y ∈ wl, 0 ≤ y ∧ y < t) (ht : ¬ 4611686018427387903 < t) {j : Nat} : ZOk 0 18446744073709551615 (wishD wl j) := by
  intro x hx
  unfold wishD at hx
  obtain ⟨i, _, rfl⟩ := List.mem_map.1 hx
  cases h : wl[i]? with
  | none =>
    rw [Option.getD_none]
    have : clt (wl.take i) 0 = 0 := by
      unfold clt
      rw [List.countP_eq_zero]
      intro y hy
      have := (hr y (List.mem_of_mem_take hy)).1
      simp; omega
    omega
  | some y =>
    rw [Option.getD_some]
    obtain ⟨h1, h2, _⟩ := wish_num hd hr h
    omega
theorem OwnG.cap {T : Nat} {w : World} {B n c : Nat} {a : Option Addr} {cs : List Value} (h : OwnG T 1 w B (.slice a n c) n cs) : n ≤ c ∧ c ≤ 9223372036854775807 ∧ (a = none → c = 0) := by
  obtain ⟨_, ⟨e, rfl⟩ | ⟨g, cap, rest, e, _, _, _, h4, h5⟩⟩ := h
  · injection e with e1 _ e3
    subst e1 e3
    exact ⟨Nat.le_refl _, by omega, fun _ => rfl⟩
  · injection e with e1 _ e3
    subst e1 e3
    exact ⟨h4, h5, fun e => by cases e⟩

set_option maxRecDepth 100000 in
set_option maxHeartbeats 8000000 in
theorem any_law {v : Value} {l : List Int} {w : World} (t : Int) (hs : SeesZ .u32 w v l) (hz : ZOk 0 4294967295 l) :
    Calls Try.prog 7 #[.int .i64 t, v] w fun e w' => e = .returned (.bool true) ∧ Kp (fun _ => False) w w' := by
  have HB := Lib.hid (fun w => begun_any w)
  obtain ⟨a, c, rfl, hlc, hmax, hnil⟩ := hs.form
  have HS := Lib.hid (fun w' (kp : Kp (fun _ => False) w w') => hs.kept kp)
  have HR := Lib.hid (fun (k : Nat) (x : Int) (h : l[k]? = some x) => hz x (List.mem_of_getElem? h))
  clear hs hz
  have hl0 : (0 : Int) ≤ l.length := by omega
  by_cases ht1 : t < 1
  · go_enter Try.func7, Try.ntmps7
    go_wp2_with fail
    refine (HB.out w).mono ?_
    rintro e w2 ⟨rfl, k2⟩
    have K2 := Lib.hid k2
    clear k2
    go_wp2_with fail
    refine (HB.out w2).mono ?_
    rintro e w3 ⟨rfl, k3⟩
    have K3 := Lib.hid (K2.out.trans k3 (fun _ _ f => f))
    clear k3
    go_wp2_with fail
    go_ret
    exact ⟨rfl, K3.out⟩
  by_cases ht2 : 4611686018427387903 < t
  · go_enter Try.func7, Try.ntmps7
    go_wp2_with fail
    refine (HB.out w).mono ?_
    rintro e w2 ⟨rfl, k2⟩
    have K2 := Lib.hid k2
    clear k2
    go_wp2_with fail
    refine (HB.out w2).mono ?_
    rintro e w3 ⟨rfl, k3⟩
    have K3 := Lib.hid (K2.out.trans k3 (fun _ _ f => f))
    clear k3
    go_wp2_with fail
    go_ret
    exact ⟨rfl, K3.out⟩
  obtain ⟨q, hq, hql, hq64⟩ : ∃ q : Nat, min (l.length : Int) 64 = q ∧ q ≤ l.length ∧ q ≤ 64 := ⟨min l.length 64, by omega, by omega, by omega⟩
  have HQ := Lib.hid hq
  have hsl := slice_uptoZ Try.underlying52 (fun w => by kernel_rfl) a l.length c q (by omega) hnil
  have HNIL := Lib.hid hnil
  clear hq hnil
  go_enter Try.func7, Try.ntmps7
  go_wp2_with fail
  refine (HB.out w).mono ?_
  rintro e w2 ⟨rfl, k2⟩
  have HS2 := Lib.hid (HS.out w2 k2)
  have K2 := Lib.hid k2
  clear k2
  go_upto_region 4 with fail
  go_cut [32, 33, 34] from 28 to 34 (fun s n i wc => s = .slice a q c ∧ n = .int .i64 q ∧ i = .int .i64 0 ∧ wc = w2)
  case first =>
    have hc : (l.length : Int) ≤ 64 ∨ 64 < (l.length : Int) := by omega
    rcases hc with hc | hc
    · obtain rfl : q = l.length := by have := HQ.out; omega
      go_wp2_with fail
      go_meet
      case rel => exact ⟨rfl, rfl, rfl, rfl⟩
    · obtain rfl : q = 64 := by have := HQ.out; omega
      have hsl2 := fun w => hsl w
      rw [show ((64 : Nat) : Int) = 64 from rfl] at hsl2
      go_wp2_with fail
      go_meet
      case rel => exact ⟨rfl, rfl, rfl, rfl⟩
  case rest =>
  obtain ⟨rfl, rfl, rfl, rfl⟩ := hcut
  clear hsl
  go_wp2_with fail
  go_loopw [5, 34] (fun wv iv wr => ∃ (k : Nat) (wl : List Int), k ≤ q ∧ iv = .int .i64 k ∧ wl.length ≤ k ∧ Hid (OwnG 2 1 wr wc.heap.size wv wl.length (encZ .i64 wl)) ∧ Hid (Kp (fun _ => False) wc wr) ∧ Hid (wl.Nodup ∧ ∀ y ∈ wl, 0 ≤ y ∧ y < t)) (fun _ iv _ => q - (intOf iv).toNat)
  case atStart => exact ⟨0, [], by omega, rfl, by simp, Lib.hid (OwnG.nil _ _ _ _), Lib.hid (Kp.refl _ _), Lib.hid ⟨List.nodup_nil, by intro y hy; cases hy⟩⟩
  case round =>
    obtain ⟨k, wl, hk, rfl, hwk, hown, hkp, hnd⟩ := hrel
    obtain ⟨a5, c5, rfl⟩ := hown.out.form
    by_cases hlt : k < q
    · obtain ⟨y, hy⟩ : ∃ y, l[k]? = some y := ⟨l[k], List.getElem?_eq_getElem (by omega)⟩
      obtain ⟨g, off, rfl, hc⟩ := (HS2.out.kept hkp.out).at hy
      obtain ⟨hy0, hy1⟩ := HR.out k y hy
      obtain ⟨nn, hnn⟩ : ∃ nn, nn = y % t := ⟨_, rfl⟩
      have hn0 : 0 ≤ nn := by rw [hnn]; exact Int.emod_nonneg _ (by omega)
      have hn1 : nn < t := by rw [hnn]; exact Int.emod_lt_of_pos _ (by omega)
      have hrm : y.tmod t = nn := by rw [Int.tmod_eq_emod_of_nonneg hy0, hnn]
      have hnz : ¬ (t = 0) := by omega
      have HC := Lib.hid (contains_any hown.out.seesZ nn)
      have HOW := Lib.hid hown.out
      have HKP := Lib.hid hkp.out
      have HND := Lib.hid hnd.out
      clear hy hnn hown hkp hnd
      by_cases hin : nn ∈ wl
      · rw [decide_eq_true hin] at HC
        clear hin
        go_wp2_with fail
        refine HC.out.mono ?_
        rintro e w3 ⟨rfl, k3⟩
        have HO3 := Lib.hid (HOW.out.kept k3 (fun _ _ f => f))
        have HK3 := Lib.hid (HKP.out.trans k3 (fun _ _ f => f))
        clear k3
        go_wp2_with fail
        go_roundw
        case rel => exact ⟨k + 1, wl, by omega, by go_num, by omega, HO3, HK3, HND⟩
        case measure => simp [intOf]; omega
      · rw [decide_eq_false hin] at HC
        have HND2 := Lib.hid (show (wl ++ [nn]).Nodup ∧ ∀ y ∈ wl ++ [nn], 0 ≤ y ∧ y < t from
          ⟨List.nodup_append.2 ⟨HND.out.1, by simp, fun x hx y hy => by rw [List.mem_singleton] at hy; subst hy; exact fun e => hin (e ▸ hx)⟩, fun y hy => by
            rcases List.mem_append.1 hy with h | h
            · exact HND.out.2 y h
            · rw [List.mem_singleton] at h; subst h; exact ⟨hn0, hn1⟩⟩)
        clear hin
        go_wp2_with fail
        refine HC.out.mono ?_
        rintro e w3 ⟨rfl, k3⟩
        have k4 : Kp (fun _ => False) wr (w3.alloc (.cells #[.int .i64 nn] 2)) := k3.alloc _
        obtain ⟨v', w5, hap, o5, k5, b5⟩ := app_own Try.underlying24 infoI64 rfl (by have := HKP.out.size; have := k4.size; omega) (HOW.out.kept k4 (fun _ _ f => f)) (src_one (new_blk w3 (.cells #[.int .i64 nn] 2))) (Nat.le_refl _) (by omega) (by omega)
        have HO5 := Lib.hid (show OwnG 2 1 w5 wc.heap.size v' (wl ++ [nn]).length (encZ .i64 (wl ++ [nn])) by rw [encZ_append, List.length_append]; exact o5)
        have HK5 := Lib.hid (show Kp (fun _ => False) wc w5 from (HKP.out.trans k4 (fun _ _ f => f)).trans k5 (fun x hx h => by have := (HOW.out.lt x h).1; omega))
        clear k3 k4 o5 k5 b5
        go_wp2_with (at_builtin; refine Lib.wpList_append_run _ rfl _ _ _ _ rfl _ _ rfl rfl _ _ (hap _) ?_)
        go_roundw
        case rel => exact ⟨k + 1, wl ++ [nn], by omega, by go_num, by rw [List.length_append]; simp; omega, HO5, HK5, HND2⟩
        case measure => simp [intOf]; omega
    · have hm64 : wl.length ≤ 64 := by omega
      obtain rfl : k = q := by omega
      obtain ⟨m, hm⟩ : ∃ m, m = wl.length := ⟨_, rfl⟩
      have ho := hown.out
      rw [← hm] at ho hm64 hwk ⊢
      have HOW := Lib.hid ho
      obtain ⟨hmc, hcm, hcn⟩ := ho.cap
      have HM := Lib.hid hm
      have HSW := Lib.hid hown.out.seesZ
      rw [← hm] at HSW
      have HKP := Lib.hid hkp.out
      have HND := Lib.hid hnd.out
      obtain ⟨w0, hw0⟩ : ∃ w0, w0 = wr := ⟨_, rfl⟩
      rw [← hw0] at HOW HSW HKP ⊢
      have HW0 := Lib.hid hw0
      clear hown hkp hnd ho hm hw0 hlt hk hwk
      go_wp2_with fail
      go_loopw [9, 53] (fun dv jv wr' => ∃ (j : Nat), j ≤ m ∧ jv = .int .i64 j ∧ Hid (OwnG 31 1 wr' w0.heap.size dv j (encZ .u64 (wishD wl j))) ∧ Hid (Kp (fun _ => False) w0 wr')) (fun _ jv _ => m - (intOf jv).toNat)
      case atStart => exact ⟨0, by omega, rfl, Lib.hid (OwnG.nil _ _ _ _), Lib.hid (Kp.refl _ _)⟩
      case round =>
        obtain ⟨j, hj, rfl, hod, hkd⟩ := hrel
        obtain ⟨a9, c9, rfl⟩ := hod.out.form
        have hsw := HSW.out.kept hkd.out
        by_cases hlt2 : j < m
        · obtain ⟨x, hx⟩ : ∃ x, wl[j]? = some x := ⟨wl[j], List.getElem?_eq_getElem (by rw [← HM.out]; exact hlt2)⟩
          obtain ⟨g, off, rfl, hc⟩ := hsw.at hx
          have hsl3 := slice_uptoZ Try.underlying24 (fun w => by kernel_rfl) (some ⟨g, off, none⟩) m c5 j (by omega) (by intro e; cases e)
          have HSX := Lib.hid hsw
          obtain ⟨hw1, hw2, _⟩ := wish_num HND.out.1 HND.out.2 hx
          have hws := wishD_succ hx
          have hxr := HND.out.2 x (List.mem_of_getElem? hx)
          obtain ⟨cl, hcl⟩ : ∃ cl, cl = clt (wl.take j) x := ⟨_, rfl⟩
          rw [← hcl] at hw1 hw2 hws
          have HWS := Lib.hid hws
          have HCL := Lib.hid hcl
          have hcj : cl ≤ j := by rw [hcl]; have := List.countP_le_length (p := fun y => decide (y < x)) (l := wl.take j); rw [List.length_take] at this; unfold clt; omega
          have HOD := Lib.hid hod.out
          have HKD := Lib.hid hkd.out
          obtain ⟨hx0, hx1⟩ := hxr
          obtain ⟨w1, hw1'⟩ : ∃ w1, w1 = wr := ⟨_, rfl⟩
          rw [← hw1'] at HSX HOD HKD hc ⊢
          clear hx hsw hws hcl hod hkd hw1'
          go_wp2_with fail
          go_loopw [12, 62] (fun pv iv w'' => ∃ (i p : Nat), i ≤ j ∧ iv = .int .i64 i ∧ pv = .int .i64 p ∧ p ≤ i ∧ w'' = w1 ∧ Hid (p = clt (wl.take i) x)) (fun _ iv _ => j - (intOf iv).toNat)
          case atStart => exact ⟨0, 0, by omega, rfl, rfl, by omega, rfl, Lib.hid (by simp [clt])⟩
          case round =>
            obtain ⟨i, p, hi, rfl, rfl, hpi, rfl, hpc⟩ := hrel
            by_cases hlt3 : i < j
            · obtain ⟨y, hy⟩ : ∃ y, wl[i]? = some y := ⟨wl[i]'(by rw [← HM.out]; omega), List.getElem?_eq_getElem _⟩
              obtain ⟨g', off', e, hcy⟩ := HSX.out.at hy
              cases e
              have hct := clt_take hy x
              rw [← hpc.out] at hct
              clear hy
              by_cases hyx : y < x
              · have HP := Lib.hid (show p + 1 = clt (wl.take (i + 1)) x by rw [hct, if_pos hyx])
                clear hct
                go_wp2_with fail
                go_roundw
                case rel => exact ⟨i + 1, p + 1, by omega, by go_num, by go_num, by omega, by first | rfl | trivial, HP⟩
                case measure => simp [intOf]; omega
              · have HP := Lib.hid (show p = clt (wl.take (i + 1)) x by rw [hct, if_neg hyx, Nat.add_zero])
                clear hct
                go_wp2_with fail
                go_roundw
                case rel => exact ⟨i + 1, p, by omega, by go_num, rfl, by omega, by first | rfl | trivial, HP⟩
                case measure => simp [intOf]; omega
            · obtain rfl : i = j := by omega
              obtain rfl : p = cl := by rw [hpc.out, HCL.out]
              obtain ⟨w3, hw3⟩ : ∃ w3, w3 = wr := ⟨_, rfl⟩
              rw [← hw3] at HSX HOD HKD hc ⊢
              clear hw3 hpc HCL
              have k4 : Kp (fun _ => False) w3 (w3.alloc (.cells #[.int .u64 (x - p)] 31)) := (Kp.refl _ _).alloc _
              obtain ⟨v', w5, hap, o5, k5, b5⟩ := app_own Try.underlying22 infoU64 rfl (by have := HKD.out.size; have := k4.size; omega) (HOD.out.kept k4 (fun _ _ f => f)) (src_oneU (new_blk w3 (.cells #[.int .u64 (x - p)] 31))) (Nat.le_refl _) (by omega) (by omega)
              have HO5 := Lib.hid (show OwnG 31 1 w5 w0.heap.size v' (i + 1) (encZ .u64 (wishD wl (i + 1))) by rw [HWS.out, encZ_append]; exact o5)
              have HK5 := Lib.hid (show Kp (fun _ => False) w0 w5 from (HKD.out.trans k4 (fun _ _ f => f)).trans k5 (fun x hx h => by have := (HOD.out.lt x h).1; omega))
              clear k4 o5 k5 b5
              go_wp2_with (at_builtin; refine Lib.wpList_append_run _ rfl _ _ _ _ rfl _ _ rfl rfl _ _ (hap _) ?_)
              go_roundw
              case rel => exact ⟨i + 1, by omega, by go_num, HO5, HK5⟩
              case measure => simp [intOf]; omega
        · obtain rfl : j = m := by omega
          have hsd : SeesZ .u64 wr (.slice a9 j c9) (wishD wl j) := (show OwnG 31 1 wr w0.heap.size (.slice a9 j c9) (wishD wl j).length (encZ .u64 (wishD wl j)) by rw [wishD_length]; exact hod.out).seesZ
          have hun := units_any hsd (wishD_rng HND.out.1 HND.out.2 (by omega)) t (j : Int)
          rw [show unitsU t (j : Int) (wishD wl j) = (wl, 0) by rw [HM.out]; exact wish_units HND.out.1 HND.out.2 (by omega) (by omega) (by rw [← HM.out]; exact hm64)] at hun
          have HUN := Lib.hid hun
          have HSX := Lib.hid hsw
          have HKD := Lib.hid hkd.out
          clear hsd hun hsw hod hkd
          go_wp2_with fail
          refine HUN.out.mono ?_
          rintro e w6 ⟨v6, rfl, s6, _, k6⟩
          have HE := Lib.hid (equalQ_any s6 (HSX.out.kept k6))
          rw [decide_eq_true rfl] at HE
          have K6 := Lib.hid (((K2.out.trans HKP.out (fun _ _ f => f)).trans HKD.out (fun _ _ f => f)).trans k6 (fun _ _ f => f))
          clear s6 k6
          go_wp2_with fail
          refine HE.out.mono ?_
          rintro e w7 ⟨rfl, k7⟩
          have K7 := Lib.hid (K6.out.trans k7 (fun _ _ f => f))
          clear k7
          go_wp2_with fail
          go_ret
          exact ⟨rfl, K7.out⟩
end Go.Proofs.Ytpadabmbblcklaa
