/-
  Whether a set may be: weightsMayBe, Check, and the document's Check.
-/
import Derived.Test.YtanmgfpogomgcaaDd
namespace Go.Proofs.Ytanmgfpogomgcaa
open Go.RowKit

/-- are weights at least 1, and together no more than what is left -/
def weightsOk : Int → List Vd → Bool
  | _, [] => true
  | left, x :: r => decide (1 ≤ x.wt) && decide (x.wt ≤ left) && weightsOk (left - x.wt) r
/-- may all names be, no two alike -/
def namesOk (l : List Vd) : Bool := (List.range l.length).all (fun i => match l[i]? with | some x => nameOk x.name && decide (findV l x.name = (i : Int)) | none => true)
/-- what Check says -/
def checkE (l : List Vd) : Int := cond (decide (l.length < 1) || decide (32 < l.length)) 3 (cond (namesOk l) (cond (weightsOk 4611686018427387903 l) 0 51) 50)
theorem namesOk_no {l : List Vd} {i : Nat} {x : Vd} (hi : l[i]? = some x) (h : nameOk x.name = false ∨ findV l x.name ≠ (i : Int)) : namesOk l = false := by
  rw [← Bool.not_eq_true]
  intro h1
  have h2 := List.all_eq_true.1 h1 i (List.mem_range.2 (List.getElem?_eq_some_iff.1 hi).1)
  rw [hi] at h2
  simp at h2
  rcases h with h | h
  · rw [h] at h2; simp at h2
  · exact h h2.2
theorem namesOk_yes {l : List Vd} (h : ∀ (i : Nat) (x : Vd), l[i]? = some x → nameOk x.name = true ∧ findV l x.name = (i : Int)) : namesOk l = true := by
  refine List.all_eq_true.2 (fun i _ => ?_)
  cases hi : l[i]? with
  | none => rfl
  | some x =>
    obtain ⟨h1, h2⟩ := h i x hi
    simp [h1, h2]
theorem namesOk_at {l : List Vd} (h : namesOk l = true) {i : Nat} {x : Vd} (hi : l[i]? = some x) : nameOk x.name = true ∧ findV l x.name = (i : Int) := by
  have h2 := List.all_eq_true.1 h i (List.mem_range.2 (List.getElem?_eq_some_iff.1 hi).1)
  rw [hi] at h2
  simpa using h2
theorem drop_at {T : Type} {l : List T} {k : Nat} {x : T} (h : l[k]? = some x) : l.drop k = x :: l.drop (k + 1) := by
  obtain ⟨hk, e⟩ := List.getElem?_eq_some_iff.1 h
  rw [List.drop_eq_getElem_cons hk, e]

theorem zeroVd (w : World) : (zeroValue 31).run Try.prog w = .ok (.agg #[.string ByteArray.empty, .int .i64 0]) w := by kernel_rfl
theorem vdC_one (x : Vd) : (vdC x).toArray.all (·.oneCell') = true := by simp [vdC, Value.oneCell']
theorem infoVd : (Try.prog.info? 31).map (·.size) = some 2 := by kernel_rfl

set_option maxRecDepth 100000 in
set_option maxHeartbeats 1600000 in
theorem weights_any {v : Value} {l : List Vd} {w : World} (hs : SeesV w v l) (hv : VOk l) : Calls Try.prog 20 #[v] w fun e w' => e = .returned (.bool (weightsOk 4611686018427387903 l)) ∧ Kp (fun _ => False) w w' := by
  obtain ⟨a, c, rfl, hlc, hmax⟩ := hs.form
  have HS := Lib.hid hs
  have HV := Lib.hid hv
  have hz := zeroVd
  have HI := Lib.hid infoVd
  obtain ⟨z, hz'⟩ : ∃ z, z = weightsOk 4611686018427387903 l := ⟨_, rfl⟩
  rw [← hz']
  have HZ := Lib.hid hz'
  clear hs hv hz'
  go_enter Try.func20, Try.ntmps20
  go_wp2
  go_loopw [3, 8] (fun f i wr => ∃ (k : Nat) (left : Int), k ≤ l.length ∧ i = .int .i64 k ∧ f = .int .i64 left ∧ (0 ≤ left ∧ left ≤ 4611686018427387903) ∧ Kp (fun _ => False) w wr ∧ Hid (z = weightsOk left (l.drop k))) (fun _ i _ => l.length - (intOf i).toNat)
  case atStart => exact ⟨0, _, by omega, rfl, rfl, by omega, Kp.refl _ _, Lib.hid HZ.out⟩
  case round =>
    obtain ⟨k, left, hk, rfl, rfl, ⟨hl0, hl1⟩, hkp, hrest⟩ := hrel
    by_cases hlt : k < l.length
    · obtain ⟨x, hx⟩ : ∃ x, l[k]? = some x := ⟨l[k], by simp [hlt]⟩
      obtain ⟨g, off, rfl, hr, _⟩ := (HS.out.kept hkp).at hx
      have HR := Lib.hid hr
      have HX := Lib.hid hx
      have HK := Lib.hid hkp
      have HE := Lib.hid (show z = (decide (1 ≤ x.wt) && decide (x.wt ≤ left) && weightsOk (left - x.wt) (l.drop (k + 1))) by rw [hrest.out, drop_at hx]; rfl)
      obtain ⟨_, hw1, hw2⟩ := vok_at HV.out hx
      clear hx hr hkp hrest
      by_cases h1 : x.wt < 1
      · have HF := Lib.hid (show z = false by rw [HE.out, decide_eq_false (by omega : ¬ 1 ≤ x.wt)]; rfl)
        go_wp2_with (first
          | ((with_reducible refine at_dst 11 ?_); refine wpList_load_mid rfl 31 _ rfl g (off + k * 2) rfl (vdC x) _ HR.out Try.underlying31 rfl HI.out ?_)
          | ((with_reducible refine at_store 5 11 ?_); refine st_fresh rfl 31 _ _ rfl (vdC x).toArray rfl rfl 31 _ HI.out rfl (vdC_one x) ?_; intro w2 k2 m2 s2; have c1 : w2.cell? ⟨wr.heap.size, 1, none⟩ = some (.int .i64 x.wt) := cell_blk m2 1; have K2 := Lib.hid (HK.out.trans k2 (fun _ _ f => f)); clear m2 s2 k2))
        go_ret
        exact ⟨by rw [HF.out]; rfl, K2.out⟩
      · by_cases h2 : left < x.wt
        · have HF := Lib.hid (show z = false by rw [HE.out, decide_eq_true (by omega : 1 ≤ x.wt), decide_eq_false (by omega : ¬ x.wt ≤ left)]; rfl)
          go_wp2_with (first
            | ((with_reducible refine at_dst 11 ?_); refine wpList_load_mid rfl 31 _ rfl g (off + k * 2) rfl (vdC x) _ HR.out Try.underlying31 rfl HI.out ?_)
            | ((with_reducible refine at_store 5 11 ?_); refine st_fresh rfl 31 _ _ rfl (vdC x).toArray rfl rfl 31 _ HI.out rfl (vdC_one x) ?_; intro w2 k2 m2 s2; have c1 : w2.cell? ⟨wr.heap.size, 1, none⟩ = some (.int .i64 x.wt) := cell_blk m2 1; have K2 := Lib.hid (HK.out.trans k2 (fun _ _ f => f)); clear m2 s2 k2))
          go_ret
          exact ⟨by rw [HF.out]; rfl, K2.out⟩
        · have HF := Lib.hid (show z = weightsOk (left - x.wt) (l.drop (k + 1)) by rw [HE.out, decide_eq_true (by omega : 1 ≤ x.wt), decide_eq_true (by omega : x.wt ≤ left)]; rfl)
          go_wp2_with (first
            | ((with_reducible refine at_dst 11 ?_); refine wpList_load_mid rfl 31 _ rfl g (off + k * 2) rfl (vdC x) _ HR.out Try.underlying31 rfl HI.out ?_)
            | ((with_reducible refine at_store 5 11 ?_); refine st_fresh rfl 31 _ _ rfl (vdC x).toArray rfl rfl 31 _ HI.out rfl (vdC_one x) ?_; intro w2 k2 m2 s2; have c1 : w2.cell? ⟨wr.heap.size, 1, none⟩ = some (.int .i64 x.wt) := cell_blk m2 1; have K2 := Lib.hid (HK.out.trans k2 (fun _ _ f => f)); clear m2 s2 k2))
          go_roundw
          case rel => exact ⟨k + 1, _, by omega, by go_num, rfl, by omega, K2.out, Lib.hid HF.out⟩
          case measure => simp [intOf]; omega
    · obtain rfl : k = l.length := by omega
      have HF := Lib.hid (show z = true by rw [hrest.out, List.drop_length]; rfl)
      have HK := Lib.hid hkp
      clear hkp hrest
      go_wp2
      go_ret
      exact ⟨by rw [HF.out]; rfl, HK.out⟩

set_option maxRecDepth 100000 in
set_option maxHeartbeats 1600000 in
theorem check_any {v : Value} {l : List Vd} {w : World} (hs : SeesV w v l) (hv : VOk l) : Calls Try.prog 6 #[v] w fun e w' => e = .returned (.int .i64 (checkE l)) ∧ Kp (fun _ => False) w w' := by
  obtain ⟨a, c, rfl, hlc, hmax⟩ := hs.form
  have HS := Lib.hid hs
  have HV := Lib.hid hv
  have hz := zeroVd
  have HI := Lib.hid infoVd
  have N0 := Lib.hid (fun (i : Nat) (x : Vd) (hi : l[i]? = some x) (h : nameOk x.name = false ∨ findV l x.name ≠ (i : Int)) => namesOk_no hi h)
  have N1 := Lib.hid (fun (h : ∀ (i : Nat) (x : Vd), l[i]? = some x → nameOk x.name = true ∧ findV l x.name = (i : Int)) => namesOk_yes h)
  obtain ⟨z, hz'⟩ : ∃ z, z = checkE l := ⟨_, rfl⟩
  rw [← hz']
  have HZ := Lib.hid (show z = cond (decide (l.length < 1) || decide (32 < l.length)) 3 (cond (namesOk l) (cond (weightsOk 4611686018427387903 l) 0 51) 50) from hz')
  have WA := Lib.hid (fun w' (k : Kp (fun _ => False) w w') => weights_any (hs.kept k) hv)
  clear hs hv hz'
  by_cases hn1 : l.length < 1
  · have HF := Lib.hid (show z = 3 by rw [HZ.out, decide_eq_true hn1]; rfl)
    have hn1' : (l.length : Int) < 1 := by omega
    go_enter Try.func6, Try.ntmps6
    go_wp2
    go_ret
    exact ⟨by rw [HF.out]; rfl, Kp.refl _ _⟩
  by_cases hn2 : 32 < l.length
  · have HF := Lib.hid (show z = 3 by rw [HZ.out, decide_eq_false hn1, decide_eq_true hn2]; rfl)
    have hn1' : ¬ (l.length : Int) < 1 := by omega
    have hn2' : (32 : Int) < l.length := by omega
    go_enter Try.func6, Try.ntmps6
    go_wp2
    go_ret
    exact ⟨by rw [HF.out]; rfl, Kp.refl _ _⟩
  have HZ := Lib.hid (show z = cond (namesOk l) (cond (weightsOk 4611686018427387903 l) 0 51) 50 by rw [HZ.out, decide_eq_false hn1, decide_eq_false hn2]; rfl)
  have hn1' : ¬ (l.length : Int) < 1 := by omega
  have hn2' : ¬ (32 : Int) < l.length := by omega
  go_enter Try.func6, Try.ntmps6
  go_wp2
  go_loopw [15] (fun i wr => ∃ k : Nat, k ≤ l.length ∧ i = .int .i64 k ∧ Kp (fun _ => False) w wr ∧ Hid (∀ (j : Nat) (y : Vd), j < k → l[j]? = some y → nameOk y.name = true ∧ findV l y.name = (j : Int))) (fun i _ => l.length - (intOf i).toNat)
  case atStart => exact ⟨0, by omega, rfl, Kp.refl _ _, Lib.hid (fun j y h => by omega)⟩
  case round =>
    obtain ⟨k, hk, rfl, hkp, hsm⟩ := hrel
    by_cases hlt : k < l.length
    · obtain ⟨x, hx⟩ : ∃ x, l[k]? = some x := ⟨l[k], by simp [hlt]⟩
      obtain ⟨g, off, rfl, hr, _⟩ := (HS.out.kept hkp).at hx
      have HR := Lib.hid hr
      have HX := Lib.hid hx
      have HK := Lib.hid hkp
      have HNM := Lib.hid (fun w' => name_any x.name w' (vok_at HV.out hx).nm)
      have HFD := Lib.hid (fun w' (k : Kp (fun _ => False) w w') => find_any (HS.out.kept k) x.name)
      clear hx hr hkp
      obtain ⟨b, hb⟩ : ∃ b, b = nameOk x.name := ⟨_, rfl⟩
      obtain ⟨fd, hfd⟩ : ∃ fd, fd = findV l x.name := ⟨_, rfl⟩
      rw [← hb] at HNM
      rw [← hfd] at HFD
      have HB := Lib.hid hb
      have HD := Lib.hid hfd
      clear hb hfd
      go_wp2_with (first
        | ((with_reducible refine at_dst 19 ?_); refine wpList_load_mid rfl 31 _ rfl g (off + k * 2) rfl (vdC x) _ HR.out Try.underlying31 rfl HI.out ?_)
        | ((with_reducible refine at_store 4 19 ?_); refine st_fresh rfl 31 _ _ rfl (vdC x).toArray rfl rfl 31 _ HI.out rfl (vdC_one x) ?_; intro w2 k2 m2 s2; have c0 : w2.cell? ⟨wr.heap.size, 0, none⟩ = some (.string x.name) := cell_blk m2 0; have M2 := Lib.hid m2; have K2 := Lib.hid (HK.out.trans k2 (fun _ _ f => f)); clear m2 s2 k2)
        | fail)
      refine (HNM.out _).mono ?_
      rintro e w3 ⟨rfl, k3⟩
      have c3 : w3.cell? ⟨wr.heap.size, 0, none⟩ = some (.string x.name) := by rw [k3.cell (lt_of_cell c0) (fun f => f)]; exact c0
      have K3 := Lib.hid (K2.out.trans k3 (fun _ _ f => f))
      clear k3
      cases b
      · rw [show nameE false = 50 from rfl]
        have HF := Lib.hid (show z = 50 by rw [HZ.out, N0.out k x HX.out (.inl HB.out.symm)]; rfl)
        go_wp2
        go_ret
        exact ⟨by rw [HF.out]; rfl, K3.out⟩
      · rw [show nameE true = 0 from rfl]
        go_wp2_with fail
        refine (HFD.out _ K3.out).mono ?_
        rintro e w4 ⟨rfl, k4⟩
        have K4 := Lib.hid (K3.out.trans k4 (fun _ _ f => f))
        clear k4
        by_cases hne : fd = (k : Int)
        · have HN := Lib.hid hne
          have hne' : (fd != (k : Int)) = false := by simp [hne]
          clear hne
          go_wp2
          go_roundw
          case rel => exact ⟨k + 1, by omega, by go_num, K4.out, Lib.hid (fun j y hj hy => by
            rcases Nat.lt_or_ge j k with h | h
            · exact hsm.out j y h hy
            · obtain rfl : j = k := by omega
              rw [HX.out] at hy
              cases hy
              exact ⟨HB.out.symm, by rw [← HD.out]; exact HN.out⟩)⟩
          case measure => simp [intOf]; omega
        · have HF := Lib.hid (show z = 50 by rw [HZ.out, N0.out k x HX.out (.inr (by rw [← HD.out]; exact hne))]; rfl)
          have hne' : (fd != (k : Int)) = true := by simpa using hne
          clear hne
          go_wp2
          go_ret
          exact ⟨by rw [HF.out]; rfl, K4.out⟩
    · obtain rfl : k = l.length := by omega
      have HN := Lib.hid (N1.out (fun j y hy => hsm.out j y ((List.getElem?_eq_some_iff.1 hy).1) hy))
      have HF := Lib.hid (show z = cond (weightsOk 4611686018427387903 l) 0 51 by rw [HZ.out, HN.out]; rfl)
      have HK := Lib.hid hkp
      obtain ⟨b, hb⟩ : ∃ b, b = weightsOk 4611686018427387903 l := ⟨_, rfl⟩
      rw [← hb] at WA HF
      clear hkp hb
      go_wp2_with fail
      refine (WA.out _ HK.out).mono ?_
      rintro e w2 ⟨rfl, k2⟩
      have K2 := Lib.hid (HK.out.trans k2 (fun _ _ f => f))
      clear k2
      cases b
      · go_wp2
        go_ret
        exact ⟨by rw [HF.out]; rfl, K2.out⟩
      · go_wp2
        go_ret
        exact ⟨by rw [HF.out]; rfl, K2.out⟩
end Go.Proofs.Ytanmgfpogomgcaa
