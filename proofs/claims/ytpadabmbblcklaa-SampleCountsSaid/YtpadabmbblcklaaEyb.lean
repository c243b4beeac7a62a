/-
  slices.All of numbers; the iterator that All gives.
-/
import Derived.Test.YtpadabmbblcklaaEya
import Derived.Test.YtpadabmbblcklaaEwc
import Derived.Test.YtpadabmbblcklaaEr
import Derived.Shelf.Abstract
import Derived.Shelf.RegionOpen
import Derived.OwnWalkIn
import Derived.TacticsInMore
import Derived.LoopNIn
import Derived.LoopIn
namespace Go.Proofs.Ytpadabmbblcklaa
open Go.RowKit Go.Shelf

attribute [local go_sem] Oper.semAt_some

/-- each with its place -/
def idxL (l : List Int) : List (Int × Int) := (List.range l.length).map (fun (i : Nat) => ((i : Int), l[i]?.getD 0))
theorem idxL_length (l : List Int) : (idxL l).length = l.length := by simp [idxL]
theorem idxL_take {l : List Int} {k : Nat} {x : Int} (h : l[k]? = some x) : (idxL l).take k ++ [((k : Int), x)] = (idxL l).take (k + 1) := by
  have hk := (List.getElem?_eq_some_iff.1 h).1
  have hk' : k < (idxL l).length := by rw [idxL_length]; exact hk
  rw [List.take_succ_eq_append_getElem hk']
  congr 1
  simp [idxL, h]
/-- those that stand there at all -/
def tellL (l : List Int) : List (Int × Int) := (idxL l).filter (fun x => decide (0 < x.2))
/-- what lies where the iterator looks -/
def RowR (B : Nat) (v : Value) (l : List Int) (W W' : World) : Prop := (W.cell? ⟨B, 0, none⟩ = some v → W'.cell? ⟨B, 0, none⟩ = some v) ∧ (SeesZ .i64 W v l → SeesZ .i64 W' v l)
theorem RowR.trans {B : Nat} {v : Value} {l : List Int} {X Y Z : World} (h : RowR B v l X Y) (k : RowR B v l Y Z) : RowR B v l X Z := ⟨fun e => k.1 (h.1 e), fun e => k.2 (h.2 e)⟩
theorem SeesZ.grown {k : IntKind} {w w' : World} {v : Value} {l : List Int} {row : Option Nat} (h : SeesZ k w v l) (hg : w.grownBy w' row) (hr : ∀ r, row = some r → ∃ o : Obj, w.heap[r]? = some o ∧ o.isCells = false) : SeesZ k w' v l := by
  obtain ⟨a, cap, rfl, h1, h2, h3, h4⟩ := h
  exact ⟨a, cap, rfl, h1, h2, h3, fun i x hi => by
    obtain ⟨g, off, e, hc⟩ := h4 i x hi
    exact ⟨g, off, e, cell_kept hc hg hr⟩⟩
theorem RowR.grown {B : Nat} {v : Value} {l : List Int} {W W' : World} {row : Option Nat} (hg : W.grownBy W' row) (hr : ∀ r, row = some r → ∃ o : Obj, W.heap[r]? = some o ∧ o.isCells = false) : RowR B v l W W' :=
  ⟨fun e => cell_kept e hg hr, fun e => e.grown hg hr⟩
theorem grown_of_kpZ {w w' : World} (k : Kp (fun _ => False) w w') : w.grownBy w' none := ⟨k.os, k.tape, k.output, k.size, fun x hx _ => k.block x hx (fun f => f)⟩

set_option maxRecDepth 100000 in
theorem sall_any (a : Option Addr) (n c : Nat) (w : World) : Calls Try.prog 42 #[.slice a n c] w fun e w' =>
    e = .returned (.func (.func 56) #[] #[.pointer (some ⟨w.heap.size, 0, none⟩)]) ∧ w' = w.alloc (.cells #[.slice a n c] 37) := by
  go_enter Try.func42, Try.ntmps42
  go_wp2
  go_ret
  exact ⟨rfl, rfl⟩

set_option maxRecDepth 100000 in
set_option maxHeartbeats 2000000 in
theorem sall1_stops (F : Fence) (n : Nat) (hF : F.fn 56) (hro : F.round = none) (hn : 1 ≤ n) (B : Nat) (v : Value) (l : List Int) (w : World) (R : World → World → Prop)
    (hR : ∀ W W', R W W' → SeesZ .i64 W v l → SeesZ .i64 W' v l) (hc : w.cell? ⟨B, 0, none⟩ = some v) (hs : SeesZ .i64 w v l) :
    SeqStopsK F n Try.prog 56 #[.pointer (some ⟨B, 0, none⟩)] (fun x : Int × Int => #[Value.int .i64 x.1, Value.int .i64 x.2]) R (fun ys => ys = idxL l) (fun pre => pre <+: idxL l) l.length w := by
  intro lp J Jx W hW hJ hJx hY h0
  have kW : Kp (fun _ => False) w W := (Kp.of_below hW).mono (fun x hx h => by omega)
  have hcW : W.cell? ⟨B, 0, none⟩ = some v := by rw [kW.cell (lt_of_cell hc) (fun f => f)]; exact hc
  have hsW := hs.kept kW
  obtain ⟨a, c, rfl, hlc, hmax, _⟩ := hs.form
  have HR := Lib.hid hR
  have HYH := Lib.hid hY
  have HS := Lib.hid hsW
  clear hY hJ hJx hs hsW hc kW hR
  refine callsIn_of_wp Try.func56 rfl hF ?_ hro
  simp only [Try.ntmps56, List.size_toArray, List.length_cons, List.length_nil, Nat.reduceAdd, Nat.reduceSub, Array.replicate_succ, Array.replicate_zero, List.push_toArray, List.append_toArray, List.nil_append, List.cons_append]
  gi_wp2
  gi_loopw [7] (fun i wr => ∃ k : Nat, k ≤ l.length ∧ i = .int .i64 k ∧ J ((idxL l).take k) wr ∧ Hid (SeesZ .i64 wr (.slice a l.length c) l)) (fun i _ => l.length - (intOf i).toNat)
  case atStart => exact ⟨0, Nat.zero_le _, rfl, h0, HS⟩
  case round =>
    obtain ⟨k, hk, rfl, hJs, hsr⟩ := hrel
    by_cases hlt : k < l.length
    · obtain ⟨x, hx⟩ : ∃ x, l[k]? = some x := ⟨l[k], by simp [hlt]⟩
      obtain ⟨g, off, rfl, hcx⟩ := hsr.out.at hx
      have HT := Lib.hid (idxL_take hx)
      obtain ⟨fn, tmps, assign, body, hy, hRR⟩ := HYH.out _ ((k : Int), x) wr hJs (by rw [List.length_take, idxL_length]; omega)
      have HSR := Lib.hid hsr.out
      clear hx hsr hJs
      gi_wp2
      refine hRR.mono ?_
      rintro e W3 (⟨rfl, hJ3, hk3⟩ | ⟨rfl, hJx3⟩)
      · have HS3 := Lib.hid (HR.out _ _ hk3 HSR.out)
        rw [HT.out] at hJ3
        clear hk3
        gi_wp2
        go_roundw
        case rel => exact ⟨k + 1, by omega, by simp, hJ3, HS3⟩
        case measure => simp [intOf]; omega
      · rw [HT.out] at hJx3
        gi_wp2
        refine bodyPost_ret (results_none rfl _ _ _) rfl ?_
        exact ⟨⟨_, rfl⟩, .inr ⟨_, List.take_prefix _ _, hJx3⟩⟩
    · obtain rfl : k = l.length := by omega
      have ht : (idxL l).take l.length = idxL l := List.take_of_length_le (by rw [idxL_length]; omega)
      rw [ht] at hJs
      gi_wp2
      go_end0
      exact ⟨⟨_, rfl⟩, .inl ⟨_, rfl, hJs⟩⟩
end Go.Proofs.Ytpadabmbblcklaa
