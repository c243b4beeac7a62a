/-
  Whether a set may be: the document's Check.
-/
import Derived.Test.YtanmgfpogomgcaaDe
namespace Go.Proofs.Ytanmgfpogomgcaa
open Go.RowKit

set_option maxRecDepth 100000 in
set_option maxHeartbeats 1600000 in
theorem rcheck_any {v : Value} {l : List Vd} {w : World} (hs : SeesV w v l) (hv : VOk l) : Calls Try.prog 7 #[v] w fun e w' => e = .returned (.int .i64 (checkE l)) ∧ Kp (fun _ => False) w w' := by
  obtain ⟨a, c, rfl, hlc, hmax⟩ := hs.form
  have HS := Lib.hid hs
  have HV := Lib.hid hv
  have N0 := Lib.hid (fun (i : Nat) (x : Vd) (hi : l[i]? = some x) (h : nameOk x.name = false ∨ findV l x.name ≠ (i : Int)) => namesOk_no hi h)
  have N1 := Lib.hid (fun (h : ∀ (i : Nat) (x : Vd), l[i]? = some x → nameOk x.name = true ∧ findV l x.name = (i : Int)) => namesOk_yes h)
  obtain ⟨z, hz'⟩ : ∃ z, z = checkE l := ⟨_, rfl⟩
  rw [← hz']
  have HZ := Lib.hid (show z = cond (decide (l.length < 1) || decide (32 < l.length)) 3 (cond (namesOk l) (cond (weightsOk 4611686018427387903 l) 0 51) 50) from hz')
  clear hs hv hz'
  by_cases hn1 : l.length < 1
  · have HF := Lib.hid (show z = 3 by rw [HZ.out, decide_eq_true hn1]; rfl)
    have hn1' : (l.length : Int) < 1 := by omega
    go_enter Try.func7, Try.ntmps7
    go_wp2
    go_ret
    exact ⟨by rw [HF.out]; rfl, Kp.refl _ _⟩
  by_cases hn2 : 32 < l.length
  · have HF := Lib.hid (show z = 3 by rw [HZ.out, decide_eq_false hn1, decide_eq_true hn2]; rfl)
    have hn1' : ¬ (l.length : Int) < 1 := by omega
    have hn2' : (32 : Int) < l.length := by omega
    go_enter Try.func7, Try.ntmps7
    go_wp2
    go_ret
    exact ⟨by rw [HF.out]; rfl, Kp.refl _ _⟩
  have HZ := Lib.hid (show z = cond (namesOk l) (cond (weightsOk 4611686018427387903 l) 0 51) 50 by rw [HZ.out, decide_eq_false hn1, decide_eq_false hn2]; rfl)
  have hn1' : ¬ (l.length : Int) < 1 := by omega
  have hn2' : ¬ (32 : Int) < l.length := by omega
  go_enter Try.func7, Try.ntmps7
  go_wp2
  go_loopw [3] (fun i wr => ∃ k : Nat, k ≤ l.length ∧ i = .int .i64 k ∧ Kp (fun _ => False) w wr ∧ Hid (∀ (j : Nat) (y : Vd), j < k → l[j]? = some y → nameOk y.name = true ∧ findV l y.name = (j : Int))) (fun i _ => l.length - (intOf i).toNat)
  case atStart => exact ⟨0, by omega, rfl, Kp.refl _ _, Lib.hid (fun j y h => by omega)⟩
  case round =>
    obtain ⟨k, hk, rfl, hkp, hsm⟩ := hrel
    by_cases hlt : k < l.length
    · obtain ⟨x, hx⟩ : ∃ x, l[k]? = some x := ⟨l[k], by simp [hlt]⟩
      obtain ⟨g, off, rfl, _, hc0, _⟩ := (HS.out.kept hkp).at hx
      have HX := Lib.hid hx
      have HK := Lib.hid hkp
      have HNM := Lib.hid (fun w' => rname_any x.name w' (vok_at HV.out hx).nm)
      have HFD := Lib.hid (fun w' (k : Kp (fun _ => False) w w') => rfind_any (HS.out.kept k) x.name)
      clear hx hkp
      obtain ⟨b, hb⟩ : ∃ b, b = nameOk x.name := ⟨_, rfl⟩
      obtain ⟨fd, hfd⟩ : ∃ fd, fd = findV l x.name := ⟨_, rfl⟩
      rw [← hb] at HNM
      rw [← hfd] at HFD
      have HB := Lib.hid hb
      have HD := Lib.hid hfd
      clear hb hfd
      go_wp2_with fail
      refine (HNM.out _).mono ?_
      rintro e w3 ⟨rfl, k3⟩
      have c3 : w3.cell? ⟨g, off + k * 2, none⟩ = some (.string x.name) := by rw [k3.cell (lt_of_cell hc0) (fun f => f)]; exact hc0
      have K3 := Lib.hid (HK.out.trans k3 (fun _ _ f => f))
      clear k3 hc0
      cases b
      · rw [show nameE false = 50 from rfl]
        have HF := Lib.hid (show z = 50 by rw [HZ.out, N0.out k x HX.out (.inl HB.out.symm)]; rfl)
        go_wp2
        go_ret
        exact ⟨by rw [HF.out]; rfl, K3.out⟩
      · rw [show nameE true = 0 from rfl]
        go_wp2_with fail
        refine (HFD.out _ K3.out).mono ?_
        rintro e w4 ⟨rfl, rfl⟩
        by_cases hne : fd = (k : Int)
        · have HN := Lib.hid hne
          have hne' : (fd != (k : Int)) = false := by simp [hne]
          clear hne
          go_wp2
          go_roundw
          case rel => exact ⟨k + 1, by omega, by go_num, K3.out, Lib.hid (fun j y hj hy => by
            rcases Nat.lt_or_ge j k with h | h
            · exact hsm.out j y h hy
            · obtain rfl : j = k := by omega
              rw [HX.out] at hy
              cases hy
              exact ⟨HB.out.symm, by rw [← HD.out]; exact HN.out⟩)⟩
          case measure => simp [intOf]; omega
        · have HF := Lib.hid (show z = 50 by rw [HZ.out, N0.out k x HX.out (.inr (by rw [← HD.out]; exact hne))]; rfl)
          have hne' : (fd != (k : Int)) = true := by simpa using hne
          clear hne
          go_wp2
          go_ret
          exact ⟨by rw [HF.out]; rfl, K3.out⟩
    · obtain rfl : k = l.length := by omega
      have HN := Lib.hid (N1.out (fun j y hy => hsm.out j y ((List.getElem?_eq_some_iff.1 hy).1) hy))
      have HF := Lib.hid (show z = cond (weightsOk 4611686018427387903 l) 0 51 by rw [HZ.out, HN.out]; rfl)
      obtain ⟨q, hq⟩ : ∃ q, q = weightsOk 4611686018427387903 l := ⟨_, rfl⟩
      rw [← hq] at HF
      have HQ := Lib.hid hq
      have HK := Lib.hid hkp
      clear hkp hq hsm
      rename_i wr hle
      obtain ⟨w0, hw0⟩ : ∃ w0, w0 = wr := ⟨_, rfl⟩
      have HK : Hid (Kp (fun _ => False) w w0) := by rw [hw0]; exact HK
      rw [← hw0]
      clear hw0
      go_wp2
      go_loopw [4, 5] (fun f i wr => ∃ (k : Nat) (left : Int), k ≤ l.length ∧ i = .int .i64 k ∧ f = .int .i64 left ∧ (0 ≤ left ∧ left ≤ 4611686018427387903) ∧ wr = w0 ∧ Hid (q = weightsOk left (l.drop k))) (fun _ i _ => l.length - (intOf i).toNat)
      case atStart => exact ⟨0, _, by omega, rfl, rfl, by omega, rfl, Lib.hid HQ.out⟩
      case round =>
        obtain ⟨k, left, hk, rfl, rfl, ⟨hl0, hl1⟩, rfl, hrest⟩ := hrel
        by_cases hlt : k < l.length
        · obtain ⟨x, hx⟩ : ∃ x, l[k]? = some x := ⟨l[k], by simp [hlt]⟩
          obtain ⟨g, off, rfl, _, _, hc1⟩ := (HS.out.kept HK.out).at hx
          have HE := Lib.hid (show q = (decide (1 ≤ x.wt) && decide (x.wt ≤ left) && weightsOk (left - x.wt) (l.drop (k + 1))) by rw [hrest.out, drop_at hx]; rfl)
          obtain ⟨_, hw1, hw2⟩ := vok_at HV.out hx
          clear hx hrest
          by_cases h1 : x.wt < 1
          · have HG := Lib.hid (show q = false by rw [HE.out, decide_eq_false (by omega : ¬ 1 ≤ x.wt)]; rfl)
            go_wp2
            go_ret
            exact ⟨by rw [HF.out, HG.out]; rfl, HK.out⟩
          · by_cases h2 : left < x.wt
            · have HG := Lib.hid (show q = false by rw [HE.out, decide_eq_true (by omega : 1 ≤ x.wt), decide_eq_false (by omega : ¬ x.wt ≤ left)]; rfl)
              go_wp2
              go_ret
              exact ⟨by rw [HF.out, HG.out]; rfl, HK.out⟩
            · have HG := Lib.hid (show q = weightsOk (left - x.wt) (l.drop (k + 1)) by rw [HE.out, decide_eq_true (by omega : 1 ≤ x.wt), decide_eq_true (by omega : x.wt ≤ left)]; rfl)
              go_wp2
              go_roundw
              case rel => exact ⟨k + 1, _, by omega, by go_num, rfl, by omega, by first | rfl | trivial, Lib.hid HG.out⟩
              case measure => simp [intOf]; omega
        · obtain rfl : k = l.length := by omega
          have HG := Lib.hid (show q = true by rw [hrest.out, List.drop_length]; rfl)
          go_wp2
          go_ret
          exact ⟨by rw [HF.out, HG.out]; rfl, HK.out⟩
end Go.Proofs.Ytanmgfpogomgcaa
