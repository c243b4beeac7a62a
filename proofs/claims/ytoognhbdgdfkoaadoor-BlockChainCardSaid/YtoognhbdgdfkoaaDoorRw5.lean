/-
  Contract of the document's own SHA-256: padded.
-/
import Derived.Test.YtoognhbdgdfkoaaDoorRw4
import Derived.Test.YtoognhbdgdfkoaaDoorBc
import Derived.Test.YtoognhbdgdfkoaaDoorPc
namespace Go.Proofs.YtoognhbdgdfkoaaDoor
open Go.ChangeShapes Go.WideShapes Go.ChangeAt Go.RowKit

def slen : Value → Nat
  | .slice _ n _ => n
  | _ => 0
/-- these bytes stand in a slice of the call's own -/
structure PdRel (w : World) (l : List Int) (n : Nat) (v : Value) (wr : World) : Prop where
  form : ∃ a c, v = .slice a n c
  len : l.length = n
  own : OwnB wr w.heap.size v l
  kp : Kp (fun _ => False) w wr
theorem pd_first {w : World} {v : Value} {bs : List Int} (hs : Sees w v bs) (hl : bs.length ≤ 2000) :
    ∃ v' w', (∀ ty, (Builtin.append_ #[24, 24] ty #[.slice none 0 0, v]).run Tryd.prog w = .ok v' w') ∧ PdRel w bs bs.length v' w' := by
  obtain ⟨v', w', h1, h2, h3, _⟩ := run_append_by (Nat.le_refl _) (.inl ⟨rfl, rfl⟩ : OwnB w w.heap.size (.slice none 0 0) []) hs (by simp; omega)
  exact ⟨v', w', h1, h2.sees.len, rfl, h2, h3.mono (fun _ _ e => by cases e)⟩
theorem pd_next {w wr : World} {l : List Int} {n : Nat} {v : Value} (h : PdRel w l n v wr) (hl : l.length ≤ 5000) (x : Int) :
    ∃ v' w', (∀ ty, (Builtin.append_ #[24, 24] ty #[v, .slice (some ⟨wr.heap.size, 0, none⟩) 1 1]).run Tryd.prog (wr.alloc (.cells #[.int .u8 x] 5)) = .ok v' w') ∧ PdRel w (l ++ [x]) (n + 1) v' w' := by
  have k1 : Kp (fun _ => False) wr (wr.alloc (.cells #[.int .u8 x] 5)) := (Kp.refl _ wr).alloc _
  obtain ⟨v', w', h1, h2, h3, _⟩ := run_append_by (Nat.le_trans h.kp.size k1.size) (h.own.kept k1 (fun _ _ f => f)) (lit_piece wr [x] (by simp)) (by simp; omega)
  refine ⟨v', w', h1, ?_, by rw [List.length_append, h.len]; rfl, h2, (h.kp.trans k1 (fun _ _ f => f)).trans h3 (fun y hy e => by have := (h.own.lt y e).1; omega)⟩
  have := h2.sees.len
  rw [List.length_append, h.len] at this
  exact this
theorem be_take (X : Int) (k : Nat) (hk : k < 8) : (be 8 X).take (k + 1) = (be 8 X).take k ++ [X / 2 ^ (56 - 8 * k) % 256] := by
  match k, hk with
  | 0, _ => rfl
  | 1, _ => rfl
  | 2, _ => rfl
  | 3, _ => rfl
  | 4, _ => rfl
  | 5, _ => rfl
  | 6, _ => rfl
  | 7, _ => rfl

set_option maxRecDepth 100000 in
set_option maxHeartbeats 800000 in
theorem padded_any (bs : List Int) (hl : bs.length ≤ 2000) (v : Value) (w : World) (hs : Sees w v bs) :
    Calls Tryd.prog 55 #[v] w (NewB w (padded bs)) := by
  obtain ⟨L, hL⟩ : ∃ L, L = bs.length := ⟨_, rfl⟩
  obtain ⟨v1, w1, hap1, hr1⟩ := pd_first hs hl
  obtain ⟨v2, w2, hap2, hr2⟩ := pd_next hr1 (by omega) 128
  obtain ⟨a0, c0, hv0⟩ := hs.len
  obtain ⟨a1, c1, hv1⟩ := hr1.form
  have HAP1 := Lib.hid hap1
  have HAP2 := Lib.hid hap2
  have HR2 := Lib.hid hr2
  have HLL := Lib.hid hL
  rw [← hL] at hv0 hv1 hl
  clear hap1 hap2 hr1 hr2 hs hL
  subst hv0 hv1
  go_enter Tryd.func55, Tryd.ntmps55
  go_wp2_with (first
    | (at_builtin; refine Lib.wpList_append_run (o := ⟨some 7, _, _, _, _, _⟩) _ rfl _ _ _ _ rfl _ _ rfl rfl _ _ (HAP1.out _) ?_)
    | (at_builtin; refine Lib.wpList_append_run (o := ⟨some 10, _, _, _, _, _⟩) _ rfl _ _ _ _ rfl _ _ rfl rfl _ _ (HAP2.out _) ?_))
  go_loopw [3] (fun v3 wr => ∃ n : Nat, n ≤ gap L ∧ PdRel w (bs ++ 128 :: List.replicate n 0) (L + 1 + n) v3 wr) (fun v3 _ => L + 1 + gap L - slen v3)
  case atStart => exact ⟨0, by omega, by rw [HLL.out]; exact HR2.out⟩
  case round =>
    obtain ⟨n, hn, hr⟩ := hrel
    obtain ⟨a, c, hv⟩ := hr.form
    by_cases hlt : n < gap L
    · have hm : ((L + 1 + n : Nat) : Int).tmod 64 = (((L + 1 + n) % 64 : Nat) : Int) := by rw [Int.tmod_eq_emod_of_nonneg (by omega)]; omega
      have hne : ¬ (((L + 1 + n) % 64 : Nat) : Int) = 56 := by unfold gap at hlt; omega
      obtain ⟨N, hN⟩ : ∃ N, N = L + 1 + n := ⟨_, rfl⟩
      obtain ⟨M, hM⟩ : ∃ M, M = (L + 1 + n) % 64 := ⟨_, rfl⟩
      rw [← hM] at hm hne
      rw [← hN] at hm hv hr
      obtain ⟨v', w', hap, hnext⟩ := pd_next hr (by have := hr.len; unfold gap at hlt; omega) 0
      obtain ⟨a', c', hv'⟩ := hnext.form
      have HAP := Lib.hid hap
      have HN := Lib.hid hnext
      clear hap hnext hr
      subst hv hv'
      go_wp2_with (at_builtin; refine Lib.wpList_append_run _ rfl _ _ _ _ rfl _ _ rfl rfl _ _ (HAP.out _) ?_)
      go_roundw
      case rel => 
        refine ⟨n + 1, by omega, ?_⟩
        have := HN.out
        rw [List.append_assoc, List.cons_append, ← List.replicate_succ', hN] at this
        exact this
      case measure => simp [slen]; omega
    · obtain rfl : n = gap L := by omega
      have hm : ((L + 1 + gap L : Nat) : Int).tmod 64 = 56 := by rw [Int.tmod_eq_emod_of_nonneg (by omega)]; unfold gap; omega
      obtain ⟨N, hN⟩ : ∃ N, N = L + 1 + gap L := ⟨_, rfl⟩
      rw [← hN] at hm hv hr
      have hm2 : (N : Int) % 64 = 56 := by rw [← hm, Int.tmod_eq_emod_of_nonneg (by omega)]
      have HR := Lib.hid hr
      have HN := Lib.hid hN
      clear hN
      have eL : IntKind.u64.wrap (L : Int) = L := IntWalk.u64_in _ (by omega)
      have eL8 : IntKind.u64.wrap ((L : Int) * 8) = L * 8 := IntWalk.u64_in _ (by omega)
      clear hr
      subst hv
      go_wp2_with fail
      clear hm hm2 hlt hn eL eL8
      go_loopw [3, 5] (fun v3 i wr => ∃ k : Nat, k ≤ 8 ∧ i = .int .i64 k ∧ PdRel w ((bs ++ 128 :: List.replicate (gap L) 0) ++ (be 8 ((L : Int) * 8)).take k) (N + k) v3 wr) (fun _ i _ => 8 - (intOf i).toNat)
      case atStart => exact ⟨0, by omega, rfl, by rw [List.take_zero, List.append_nil]; exact HR.out⟩
      case round =>
        obtain ⟨k, hk, rfl, hr⟩ := hrel
        obtain ⟨a, c, hv⟩ := hr.form
        by_cases hlt : k < 8
        · obtain ⟨v', w', hap, hnext⟩ := pd_next hr (by have := hr.len; have := HN.out; unfold gap at this; omega) ((L : Int) * 8 / 2 ^ (56 - 8 * k) % 256)
          rw [List.append_assoc, ← be_take _ _ hlt] at hnext
          obtain ⟨a', c', hv'⟩ := hnext.form
          have HAP := Lib.hid hap
          have HX := Lib.hid hnext
          have hd : decide ((k : Int) < 8) = true := by simp; omega
          have e1 : IntKind.i64.wrap (8 * (k : Int)) = 8 * k := IntWalk.i64_in _ (by omega)
          have e2 : IntKind.i64.wrap (56 - 8 * (k : Int)) = 56 - 8 * k := IntWalk.i64_in _ (by omega)
          have e3 : IntKind.u64.wrap (56 - 8 * (k : Int)) = 56 - 8 * k := IntWalk.u64_in _ (by omega)
          have e4 : min (56 - 8 * (k : Int)).toNat IntKind.u64.bits = (56 - 8 * (k : Int)).toNat := by simp [IntKind.bits]; omega
          have p0 : (0 : Int) ≤ 56 - 8 * k := by omega
          have p1 : ¬ (56 - 8 * (k : Int) < 0) := by omega
          clear hap hnext hr
          subst hv hv'
          go_wp2_with (at_builtin; refine Lib.wpList_append_run (o := ⟨some 35, _, _, _, _, _⟩) _ rfl _ _ _ _ rfl _ _ rfl rfl _ _ (HAP.out _) ?_)
          go_roundw
          case rel => exact ⟨k + 1, by omega, by go_num, HX.out⟩
          case measure => simp [intOf]; omega
        · obtain rfl : k = 8 := by omega
          have hown := hr.own
          have hkp := hr.kp
          rw [List.take_of_length_le (by rw [be_length]; exact Nat.le_refl 8)] at hown
          have hp : NewB w (padded bs) (.returned (.slice a (N + 8) c)) wr := by
            refine ⟨_, rfl, ?_, hkp⟩
            rw [← hv]
            unfold padded behind
            rw [← HLL.out]
            simpa [List.append_assoc] using hown
          have HP := Lib.hid hp
          clear hp hown hkp hr
          subst hv
          go_wp2_with fail
          go_ret
          exact HP.out
end Go.Proofs.YtoognhbdgdfkoaaDoor
