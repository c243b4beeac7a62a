/-
  Messages: slices.EqualFunc over rows of bytes; the program's Same and the document's.
-/
import Derived.Test.YtleapcbkkggecaaMq
import Derived.Test.YtleapcbkkggecaaLw
namespace Go.Proofs.Ytleapcbkkggecaa
open Go.ChangeShapes Go.WideShapes Go.ChangeAt Go.RowKit
variable {A A' : Nat → Prop}

set_option maxRecDepth 100000 in
set_option maxHeartbeats 1600000 in
theorem eqRows_any {u v : Value} {xs ys : List (List Int)} {w : World} (hx : SeesR A w u xs) (hy : SeesR A' w v ys) (hxr : ∀ x ∈ xs, Rng x) (hyr : ∀ x ∈ ys, Rng x) :
    Calls Try.prog 27 #[u, v, .func (.func 19) #[] #[]] w fun e w' => e = .returned (.bool (decide (xs = ys))) ∧ Kp (fun _ => False) w w' := by
  obtain ⟨a1, c1, rfl, hm1⟩ := hx.form
  obtain ⟨a2, c2, rfl, hm2⟩ := hy.form
  by_cases hlen : xs.length = ys.length
  · have HL := Lib.hid hlen
    have HX := Lib.hid hx
    have HY := Lib.hid hy
    have XL := Lib.hid hxr
    have YL := Lib.hid hyr
    have e0 : ((xs.length : Int) != (ys.length : Int)) = false := by rw [hlen]; simp
    clear hlen hx hy hxr hyr
    go_enter Try.func27, Try.ntmps27
    go_wp2_with fail
    go_loopw [17] (fun i wr => ∃ k : Nat, k ≤ xs.length ∧ i = .int .i64 k ∧ Kp (fun _ => False) w wr ∧ Hid (∀ (j : Nat) (hj : j < xs.length) (hj' : j < ys.length), j < k → xs[j] = ys[j])) (fun i _ => xs.length - (intOf i).toNat)
    case atStart => exact ⟨0, by omega, rfl, Kp.refl _ _, Lib.hid (fun j _ _ h => by omega)⟩
    case round =>
      obtain ⟨k, hk, rfl, hkp, hsm⟩ := hrel
      by_cases hlt : k < xs.length
      · have hlt2 : k < ys.length := by have := HL.out; omega
        obtain ⟨g1, o1, u1, rfl, t1, s1, hc1, hd1, _⟩ := (HX.out.kept hkp (fun _ _ f => f)).at hlt
        obtain ⟨g2, o2, u2, rfl, t2, s2, hc2, hd2, _⟩ := (HY.out.kept hkp (fun _ _ f => f)).at hlt2
        have hd1' : c1 ≤ 9223372036854775807 := hd1
        have hd2' : c2 ≤ 9223372036854775807 := hd2
        have HEQ := Lib.hid (equal_any s1 s2 (XL.out _ (List.getElem_mem hlt)) (YL.out _ (List.getElem_mem hlt2)))
        obtain ⟨b1, d1, rfl⟩ := sees_form s1
        obtain ⟨b2, d2, rfl⟩ := sees_form s2
        obtain ⟨x, hxe⟩ : ∃ x, x = xs[k] := ⟨_, rfl⟩
        obtain ⟨y, hye⟩ : ∃ y, y = ys[k] := ⟨_, rfl⟩
        rw [← hxe] at t1
        rw [← hye] at t2
        rw [← hxe, ← hye] at HEQ
        have HK := Lib.hid hkp
        have HXE := Lib.hid hxe
        have HYE := Lib.hid hye
        clear s1 s2 hkp hxe hye
        go_wp2_with fail
        refine HEQ.out.mono ?_
        rintro e w2 ⟨rfl, rfl⟩
        by_cases hxy : x = y
        · have HXY := Lib.hid hxy
          rw [decide_eq_true hxy]
          clear hxy
          go_wp2_with fail
          go_roundw
          case rel => exact ⟨k + 1, by omega, by go_num, HK.out, Lib.hid (fun j hj hj' h => by
            rcases Nat.lt_or_ge j k with h' | h'
            · exact hsm.out j hj hj' h'
            · obtain rfl : j = k := by omega
              rw [← HXE.out, ← HYE.out]; exact HXY.out)⟩
          case measure => simp [intOf]; omega
        · have HXY := Lib.hid hxy
          rw [decide_eq_false hxy]
          clear hxy
          have HZ := Lib.hid (show decide (xs = ys) = false from decide_eq_false (fun h => HXY.out (by rw [HXE.out, HYE.out]; simp only [h])))
          go_wp2_with fail
          go_ret
          exact ⟨by rw [HZ.out]; rfl, HK.out⟩
      · obtain rfl : k = xs.length := by omega
        have HZ := Lib.hid (show decide (xs = ys) = true from decide_eq_true (list_eq_of HL.out (fun i hi => hsm.out i hi _ hi)))
        have HK := Lib.hid hkp
        clear hsm hkp
        go_wp2_with fail
        go_ret
        exact ⟨by rw [HZ.out]; rfl, HK.out⟩
  · have e0 : ((xs.length : Int) != (ys.length : Int)) = true := by
      have : (xs.length : Int) ≠ (ys.length : Int) := by omega
      simpa using this
    have HZ := Lib.hid (show decide (xs = ys) = false from decide_eq_false (fun h => hlen (by rw [h])))
    clear hlen hx hy
    go_enter Try.func27, Try.ntmps27
    go_wp2_with fail
    go_ret
    exact ⟨by rw [HZ.out]; rfl, Kp.refl _ _⟩

def sameM (a b : Ms) : Bool := decide (a.k = b.k) && decide (a.r = b.r) && decide (a.ids = b.ids) && decide (a.bl = b.bl)
theorem sameM_iff (a b : Ms) : sameM a b = true ↔ a = b := by
  cases a; cases b
  simp [sameM, and_assoc]

set_option maxRecDepth 100000 in
set_option maxHeartbeats 1600000 in
theorem msame_any {ui ub vi vb : Value} {a b : Ms} {w : World} (ha : SeesM A w ui ub a) (hb : SeesM A' w vi vb b) (wa : a.wf) (wb : b.wf) :
    Calls Try.prog 12 #[msV a.k a.r ui ub, msV b.k b.r vi vb] w fun e w' => e = .returned (.bool (sameM a b)) ∧ Kp (fun _ => False) w w' := by
  obtain ⟨a1, c1, rfl, hm1⟩ := ha.i.form
  obtain ⟨a2, c2, rfl, hm2⟩ := ha.b.form
  obtain ⟨a3, c3, rfl, hm3⟩ := hb.i.form
  obtain ⟨a4, c4, rfl, hm4⟩ := hb.b.form
  have k1 : Kp (fun _ => False) w (w.alloc (.cells #[.int .i64 a.k, .int .i64 a.r, .slice a1 a.ids.length c1, .slice a2 a.bl.length c2] 25)) := (Kp.refl _ _).alloc _
  have k2 : Kp (fun _ => False) (w.alloc (.cells #[.int .i64 a.k, .int .i64 a.r, .slice a1 a.ids.length c1, .slice a2 a.bl.length c2] 25)) _ := (Kp.refl _ _).alloc (.cells #[.int .i64 b.k, .int .i64 b.r, .slice a3 b.ids.length c3, .slice a4 b.bl.length c4] 25)
  have hA := (MsAt.new w a.k a.r (.slice a1 a.ids.length c1) (.slice a2 a.bl.length c2)).old k2
  have hB := MsAt.new (w.alloc (.cells #[.int .i64 a.k, .int .i64 a.r, .slice a1 a.ids.length c1, .slice a2 a.bl.length c2] 25)) b.k b.r (.slice a3 b.ids.length c3) (.slice a4 b.bl.length c4)
  rw [World.size_alloc] at hB
  obtain ⟨x0, x1, x2, x3, _⟩ := hA.cells
  obtain ⟨y0, y1, y2, y3, _⟩ := hB.cells
  have k12 := k1.trans k2 (fun _ _ f => f)
  have HI := Lib.hid (eqIds_any (ha.i.kept k12 (fun _ _ f => f)) (hb.i.kept k12 (fun _ _ f => f)) (fun x hx => (wa.idl x hx).1) (fun x hx => (wb.idl x hx).1))
  have HR := Lib.hid (fun w' (k : Kp (fun _ => False) w w') => eqRows_any (ha.b.kept k (fun _ _ f => f)) (hb.b.kept k (fun _ _ f => f)) wa.blr wb.blr)
  have HA := Lib.hid hA
  have HB := Lib.hid hB
  have HK := Lib.hid k12
  have hs : sameM a b = (decide (a.k = b.k) && decide (a.r = b.r) && decide (a.ids = b.ids) && decide (a.bl = b.bl)) := rfl
  rw [hs]
  obtain ⟨p1, hp1⟩ : ∃ p, p = decide (a.ids = b.ids) := ⟨_, rfl⟩
  obtain ⟨p2, hp2⟩ : ∃ p, p = decide (a.bl = b.bl) := ⟨_, rfl⟩
  rw [← hp1, ← hp2]
  rw [← hp1] at HI
  rw [← hp2] at HR
  clear ha hb wa wb k1 k2 k12 hA hB hs hp1 hp2
  by_cases h1 : a.k = b.k
  · have e1 : (a.k == b.k) = true := by simpa using h1
    rw [decide_eq_true h1]
    clear h1
    by_cases h2 : a.r = b.r
    · have e2 : (a.r == b.r) = true := by simpa using h2
      rw [decide_eq_true h2]
      clear h2
      cases p1
      · go_enter Try.func12, Try.ntmps12
        unfold msV
        go_wp2_with fail
        refine HI.out.mono ?_
        rintro e w2 ⟨rfl, k3⟩
        have K3 := Lib.hid (HK.out.trans k3 (fun _ _ f => f))
        clear k3
        go_wp2_with fail
        go_ret
        exact ⟨rfl, K3.out⟩
      · go_enter Try.func12, Try.ntmps12
        unfold msV
        go_wp2_with fail
        refine HI.out.mono ?_
        rintro e w2 ⟨rfl, k3⟩
        have K3 := Lib.hid (HK.out.trans k3 (fun _ _ f => f))
        obtain ⟨_, _, _, z3, _⟩ := (HA.out.old k3).cells
        obtain ⟨_, _, _, u3, _⟩ := (HB.out.old k3).cells
        have HQ := Lib.hid (HR.out _ K3.out)
        clear k3
        go_wp2_with fail
        refine HQ.out.mono ?_
        rintro e w3 ⟨rfl, k4⟩
        have K4 := Lib.hid (K3.out.trans k4 (fun _ _ f => f))
        clear k4
        go_wp2_with fail
        go_ret
        exact ⟨rfl, K4.out⟩
    · have e2 : (a.r == b.r) = false := by simpa using h2
      rw [decide_eq_false h2]
      clear h2
      go_enter Try.func12, Try.ntmps12
      unfold msV
      go_wp2_with fail
      go_ret
      exact ⟨rfl, HK.out⟩
  · have e1 : (a.k == b.k) = false := by simpa using h1
    rw [decide_eq_false h1]
    clear h1
    go_enter Try.func12, Try.ntmps12
    unfold msV
    go_wp2_with fail
    go_ret
    exact ⟨rfl, HK.out⟩
end Go.Proofs.Ytleapcbkkggecaa
