/-
  ShaSums's walk.
-/
import Derived.Test.YtopckankheljhaaDoorRw6
import Derived.Test.YtopckankheljhaaDoorPc
import Derived.Test.YtopckankheljhaaDoorQk
namespace Go.Proofs.YtopckankheljhaaDoor
open Go.ChangeShapes Go.WideShapes Go.ChangeAt Go.RowKit

/-- the copy's bytes are turned, the name and the state stand -/
structure CpRel (w : World) (B : Nat) (a : Option Addr) (c p g4 : Nat) (xs ys : List Int) (wr : World) : Prop where
  own : OwnB wr B (.slice a xs.length c) ys
  st : IsSt wr p xs
  row : wr.heap[g4]? = some (.cells (U8s (sumOf xs)).toArray 26 (0, 0))
  kp : Kp (fun _ => False) w wr
  lt : ∀ g, (Value.slice a xs.length c).ownBlock = some g → g < g4
  hB : w.heap.size ≤ B
  h4 : g4 < p
theorem CpRel.cell {w wr : World} {B c p g4 k : Nat} {a : Option Addr} {xs ys : List Int} (h : CpRel w B a c p g4 xs ys wr) (hk : k < xs.length) :
    ∃ g, a = some ⟨g, 0, none⟩ ∧ wr.cell? ⟨g, k, none⟩ = some (.int .u8 (ys.getD k 0)) ∧ wr.frozen? ⟨g, k, none⟩ = false ∧ ∀ x, ∃ zs, CpRel w B a c p g4 xs zs (wr.setCell ⟨g, k, none⟩ (.int .u8 x)) := by
  rcases h.own with ⟨e, _⟩ | ⟨g, cap, rest, e, h1, h2, h3, h4⟩
  · injection e with _ e2 _; omega
  · injection e with e1 e2 e3
    subst e1 e3
    have hl := h.lt g rfl
    have hp := h.h4
    have hB := h.hB
    refine ⟨g, rfl, ?_, free_blk h2 _, fun x => ⟨ys.set k x, ?_, ?_, ?_, ?_, h.lt, hB, hp⟩⟩
    · rw [cell_blk h2, List.getElem?_toArray, List.getElem?_append_left (by rw [U8s_length]; omega)]
      simp [U8s, show k < ys.length by omega]
    · refine .inr ⟨g, c, rest, by rw [List.length_set, e2], h1, ?_, by rw [List.length_append, U8s_length, List.length_set, ← U8s_length ys, ← List.length_append]; exact h3, h4⟩
      rw [set_blk h2]
      congr 2
      apply Array.ext'
      simp only [Array.toList_setIfInBounds]
      rw [List.set_append_left _ _ (by rw [U8s_length]; omega)]
      simp [U8s, List.map_set]
    · obtain ⟨H, part, hh1, hh2⟩ := h.st
      exact ⟨H, part, hh1, by rw [other_blk hh2 (by show p ≠ g; omega)]⟩
    · rw [other_blk h.row (by show g4 ≠ g; omega)]
    · exact h.kp.setCell (fun hlt => absurd hlt (by show ¬ g < _; omega)) _

set_option maxRecDepth 100000 in
set_option maxHeartbeats 1000000 in
theorem sums_law (v0 : Value) (xs : List Int) (hx : Rng xs) (w : World) (hs : Sees w v0 xs) (hR : Rts w) :
    Calls Tryd.prog 3 #[v0] w fun e w' => e = .returned (.bool true) ∧ Kp (fun _ => False) w w' := by
  have hz2 := zerosId
  have HS := Lib.hid hs
  have HX := Lib.hid hx
  obtain ⟨a0, c0, rfl⟩ := hs.len
  have HR := Lib.hid (fun w' (k : Kp (fun _ => False) w w') => hR.kept k (fun _ _ f => f))
  have HI := Lib.hid (info32 (sumOf xs) rfl)
  have HB1 := Lib.hid (begun_any w hR)
  clear hs hx hR
  go_enter Tryd.func3, Tryd.ntmps3
  go_wp2_with fail
  refine HB1.out.mono ?_
  rintro e w1 ⟨rfl, k1⟩
  have K1 := Lib.hid k1
  clear k1
  by_cases hbig : 2000 < xs.length
  · have hd : decide ((2000 : Int) < xs.length) = true := by simp; omega
    go_wp2_with fail
    refine (begun_any _ (HR.out _ K1.out)).mono ?_
    rintro e w2 ⟨rfl, k2⟩
    have K2 := Lib.hid (K1.out.trans k2 (fun _ _ f => f))
    clear k2
    go_wp2_with fail
    go_ret
    exact ⟨rfl, K2.out⟩
  · have hd : decide ((2000 : Int) < xs.length) = false := by simp; omega
    go_wp2_with fail
    refine (bclone_any (HS.out.kept K1.out (fun _ _ _ f => f)) (by omega)).mono ?_
    intro e w2 hnb
    obtain ⟨a3, c3, rfl, own2, k2⟩ := hnb.here
    have K2 := Lib.hid (K1.out.trans k2 (fun _ _ f => f))
    have OW2 := Lib.hid own2
    clear hnb own2 k2
    go_wp2_with fail
    refine (rsum_any xs HX.out (by omega) _ w2 (HS.out.kept K2.out (fun _ _ _ f => f))).mono ?_
    rintro e w3 ⟨rfl, k3⟩
    have K3 := Lib.hid (K2.out.trans k3 (fun _ _ f => f))
    have OW3 := Lib.hid (OW2.out.kept k3 (fun _ _ f => f))
    clear k3
    go_wp2_with (refine wpList_store_fresh rfl 26 _ _ rfl _ rfl rfl 26 _ HI.out rfl (all_oneCell_toArray (U8s_one _)) ?_; intro w4 k4 m4 s4; have M4 := Lib.hid m4; have S4 := Lib.hid s4; have K4 := Lib.hid (K3.out.trans k4 (fun _ _ f => f)); have OW4 := Lib.hid (OW3.out.kept k4 (fun _ _ f => f)); clear m4 s4 k4)
    refine (new_any w4 (HR.out _ K4.out)).mono ?_
    rintro e w5 ⟨rfl, st5, k5, z5⟩
    have ST5 := Lib.hid st5
    have M5 := Lib.hid (kept_blk M4.out k5 (fun f => f))
    have OW5 := Lib.hid (OW4.out.kept k5 (fun _ _ f => f))
    have K5 := Lib.hid (K4.out.trans k5 (fun _ _ f => f))
    clear st5 k5 z5
    have hlt : ∀ g, (Value.slice a3 xs.length c3).ownBlock = some g → g < w3.heap.size := fun g hg => (OW3.out.lt g hg).2
    obtain ⟨p, hp⟩ : ∃ p, p = w4.heap.size := ⟨_, rfl⟩
    obtain ⟨g4, hg4⟩ : ∃ g, g = w3.heap.size := ⟨_, rfl⟩
    have hpg : g4 < p := by rw [hp, hg4, S4.out]; omega
    have hwp : w.heap.size ≤ p := by rw [hp]; exact K4.out.size
    have hp2 : 2 ≤ p := by rw [hp]; exact (HR.out _ K4.out).size
    rw [← hp] at ST5 ⊢
    rw [← hg4] at M5 hlt ⊢
    have HLT := Lib.hid hlt
    clear hp hg4 hlt
    have QW := Lib.hid (write_any [] [xs] (fun x hx' => by simp at hx'; subst hx'; exact HX.out) (by simp only [List.flatten_cons, List.flatten_nil, List.append_nil, List.length_nil]; omega) (by simp) p _ _
      (HR.out _ (K5.out.alloc (.cells #[.slice a3 xs.length c3] 22))) hp2 (one_piece OW5.out.sees (fun _ g hg => by have := HLT.out g hg; omega) ST5.out.lt) (ST5.out.kept ((Kp.refl (fun _ => False) w5).alloc _) (fun f => f)))
    go_wp2_with fail
    refine QW.out.mono ?_
    rintro e w6 ⟨rfl, st6, k6⟩
    rw [List.nil_append, List.flatten_cons, List.flatten_nil, List.append_nil] at st6
    have k06 : Kp (fun y => y = p) w5 w6 := ((Kp.refl (fun y => y = p) w5).alloc _).trans k6 (fun _ _ h => h)
    have hst : CpRel w w1.heap.size a3 c3 p g4 xs xs w6 :=
      ⟨OW5.out.kept k06 (fun g hg e => by have := HLT.out g hg; omega), st6, kept_blk M5.out k06 (by show ¬ g4 = p; omega), kp_new K5.out k06 hwp, HLT.out, K1.out.size, hpg⟩
    have HST := Lib.hid hst
    clear hst st6 k6 k06
    go_wp2_with fail
    go_loopw [6, 31] (fun _ i wr => ∃ k : Nat, k ≤ xs.length ∧ i = .int .i64 k ∧ ∃ ys, CpRel w w1.heap.size a3 c3 p g4 xs ys wr) (fun _ i _ => xs.length - (intOf i).toNat)
    case atStart => exact ⟨0, by omega, rfl, _, HST.out⟩
    case round =>
      obtain ⟨k, hk, rfl, ys, hr⟩ := hrel
      by_cases hlt : k < xs.length
      · obtain ⟨g, rfl, hc, hf, hx⟩ := hr.cell hlt
        have hd2 : decide ((k : Int) < xs.length) = true := by simp; omega
        have p0 : (0 : Int) ≤ k := by omega
        have p1 : (k : Int) < xs.length := by omega
        have HXX := Lib.hid hx
        clear hr hx
        go_wp2_with fail
        go_roundw
        case rel => exact ⟨k + 1, by omega, by go_num, HXX.out _⟩
        case measure => simp [intOf]; omega
      · obtain rfl : k = xs.length := by omega
        have stF := hr.st
        have roF := hr.row
        have kpF := hr.kp
        have STF := Lib.hid stF
        have ROF := Lib.hid roF
        have KPF := Lib.hid kpF
        have QA := Lib.hid (fun w' (kk : Kp (fun _ => False) wr w') => sums_any xs HX.out (by omega) _ w' (HR.out w' (KPF.out.trans kk (fun _ _ f => f))) (HS.out.kept (KPF.out.trans kk (fun _ _ f => f)) (fun _ _ _ f => f)))
        have QT := Lib.hid (fun w' (kk : Kp (fun _ => False) wr w') => sum_any xs (by omega) p w' (HR.out w' (KPF.out.trans kk (fun _ _ f => f))) (STF.out.kept kk (fun f => f)))
        have QL := Lib.hid (fun w' (kk : Kp (fun _ => False) wr w') => len_any xs p w' (STF.out.kept kk (fun f => f)))
        have L4 := Lib.hid (fun w' (kk : Kp (fun _ => False) wr w') => kept_blk ROF.out kk (fun f => f))
        have hee := eql_names (sumOf xs) (sumOf xs) rfl rfl
        rw [decide_eq_true rfl] at hee
        clear hr stF roF kpF
        go_wp2_with fail
        refine wp_kept (W := wr) (by kernel_rfl) (by kernel_rfl) (Kp.refl _ _) ?_
        repeat (first
          | go_big_quiet_skip
          | (go_big_quiet_want; refine quiet_load_row 26 _ rfl g4 rfl 26 _ (0, 0) _ L4.out Tryd.underlying26 rfl HI.out ?_; (simp only [Act.put, List.setIfInBounds_toArray, List.set_cons_zero, List.set_cons_succ]); go_big_quiet_on)
          | (go_big_quiet_want; go_big_quiet_op; first | go_big_quiet_on | go_big_quiet_call ((intro hk; first
              | with_reducible rfl
              | (go_at_call 15; exact (QA.out _ hk).mono (fun e w' h => ⟨h.1, hk.trans h.2 (fun _ _ f => f)⟩))
              | (go_at_call 16; exact (QT.out _ hk).mono (fun e w' h => ⟨h.1, hk.trans h.2 (fun _ _ f => f)⟩))
              | (go_at_call 17; exact (QL.out _ hk).mono (fun e w' h => ⟨h.1, h.2 ▸ hk⟩))))))
        refine wpQuiet_nil ?_
        intro w9 k9
        go_wp2_with fail
        go_ret
        exact ⟨rfl, KPF.out.trans k9 (fun _ _ f => f)⟩
end Go.Proofs.YtopckankheljhaaDoor
