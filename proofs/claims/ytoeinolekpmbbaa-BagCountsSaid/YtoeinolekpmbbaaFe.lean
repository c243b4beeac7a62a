/-
  Votes made out of a map: literals of a vote, a row of votes that grows, the range over the map, the sort: package bag's rising.
-/
import Derived.Test.YtoeinolekpmbbaaFc
import Derived.Test.YtoeinolekpmbbaaFd
import Derived.Laws.Tables
import Derived.Lib.AppendZeros
namespace Go.Proofs.Ytoeinolekpmbbaa
open Go.ChangeShapes Go.WideShapes Go.ChangeAt Go.RowKit
open Go.ChangeMaps (setBlock)

theorem list_consE {l : List Int} {n : Nat} (h : l.length = n + 1) : ∃ x r, l = x :: r ∧ r.length = n := by
  cases l with
  | nil => cases h
  | cons x r => exact ⟨x, r, rfl, by simpa using h⟩
theorem builtV (p : List Int) (hp : p.length = 32) (n : Int) :
    (Try.prog.built 33 [(0, .agg (U8s p).toArray), (1, .int .i64 n)]).isSome = true ∧
    (Try.prog.built 33 [(0, .agg (U8s p).toArray), (1, .int .i64 n)]).getD #[] = (vtC ⟨p, n⟩).toArray := by
  obtain ⟨x0, p0, rfl, xh0⟩ := list_consE hp
  obtain ⟨x1, p1, rfl, xh1⟩ := list_consE xh0
  obtain ⟨x2, p2, rfl, xh2⟩ := list_consE xh1
  obtain ⟨x3, p3, rfl, xh3⟩ := list_consE xh2
  obtain ⟨x4, p4, rfl, xh4⟩ := list_consE xh3
  obtain ⟨x5, p5, rfl, xh5⟩ := list_consE xh4
  obtain ⟨x6, p6, rfl, xh6⟩ := list_consE xh5
  obtain ⟨x7, p7, rfl, xh7⟩ := list_consE xh6
  obtain ⟨x8, p8, rfl, xh8⟩ := list_consE xh7
  obtain ⟨x9, p9, rfl, xh9⟩ := list_consE xh8
  obtain ⟨x10, p10, rfl, xh10⟩ := list_consE xh9
  obtain ⟨x11, p11, rfl, xh11⟩ := list_consE xh10
  obtain ⟨x12, p12, rfl, xh12⟩ := list_consE xh11
  obtain ⟨x13, p13, rfl, xh13⟩ := list_consE xh12
  obtain ⟨x14, p14, rfl, xh14⟩ := list_consE xh13
  obtain ⟨x15, p15, rfl, xh15⟩ := list_consE xh14
  obtain ⟨x16, p16, rfl, xh16⟩ := list_consE xh15
  obtain ⟨x17, p17, rfl, xh17⟩ := list_consE xh16
  obtain ⟨x18, p18, rfl, xh18⟩ := list_consE xh17
  obtain ⟨x19, p19, rfl, xh19⟩ := list_consE xh18
  obtain ⟨x20, p20, rfl, xh20⟩ := list_consE xh19
  obtain ⟨x21, p21, rfl, xh21⟩ := list_consE xh20
  obtain ⟨x22, p22, rfl, xh22⟩ := list_consE xh21
  obtain ⟨x23, p23, rfl, xh23⟩ := list_consE xh22
  obtain ⟨x24, p24, rfl, xh24⟩ := list_consE xh23
  obtain ⟨x25, p25, rfl, xh25⟩ := list_consE xh24
  obtain ⟨x26, p26, rfl, xh26⟩ := list_consE xh25
  obtain ⟨x27, p27, rfl, xh27⟩ := list_consE xh26
  obtain ⟨x28, p28, rfl, xh28⟩ := list_consE xh27
  obtain ⟨x29, p29, rfl, xh29⟩ := list_consE xh28
  obtain ⟨x30, p30, rfl, xh30⟩ := list_consE xh29
  obtain ⟨x31, p31, rfl, xh31⟩ := list_consE xh30
  obtain rfl := List.eq_nil_of_length_eq_zero xh31
  exact ⟨by kernel_rfl, by kernel_rfl⟩
theorem wpList_vt {ops : Array Oper} {rest : List Oper} {o : Oper} {a : Act} {w : World} {Q : Exit → Act → World → Prop} (X Y : Operand) (x : Vt) (hl : x.id.length = 32)
    (hx : a.eval X = .agg (U8s x.id).toArray) (hy : a.eval Y = .int .i64 x.n) (hg : o.guard = none) (ho : o.op = .build 33 #[(0, X), (1, Y)])
    (h : wpList Try.prog ops Q rest (a.put o.dst (.agg (vtC x).toArray)) w) : wpList Try.prog ops Q (o :: rest) a w := by
  have e0 : (#[((0 : Nat), X), (1, Y)].map fun (i, x) => (i, a.eval x)).toList = [(0, .agg (U8s x.id).toArray), (1, .int .i64 x.n)] := by simp [hx, hy]
  refine wpList_build hg _ _ ho (by rw [e0]; exact (builtV x.id hl x.n).1) ?_
  rw [e0, (builtV x.id hl x.n).2]
  exact h
set_option maxRecDepth 100000 in
theorem mkV1' (p : List Int) (hp : p.length = 32) (n : Int) (w : World) :
    (Instr.buildSlice 22 1 #[(0, .agg (vtC ⟨p, n⟩).toArray)]).run Try.prog w = .ok (.slice (some ⟨w.heap.size, 0, none⟩) 1 1) (w.alloc (.cells (vtC ⟨p, n⟩).toArray 33)) := by
  obtain ⟨x0, p0, rfl, xh0⟩ := list_consE hp
  obtain ⟨x1, p1, rfl, xh1⟩ := list_consE xh0
  obtain ⟨x2, p2, rfl, xh2⟩ := list_consE xh1
  obtain ⟨x3, p3, rfl, xh3⟩ := list_consE xh2
  obtain ⟨x4, p4, rfl, xh4⟩ := list_consE xh3
  obtain ⟨x5, p5, rfl, xh5⟩ := list_consE xh4
  obtain ⟨x6, p6, rfl, xh6⟩ := list_consE xh5
  obtain ⟨x7, p7, rfl, xh7⟩ := list_consE xh6
  obtain ⟨x8, p8, rfl, xh8⟩ := list_consE xh7
  obtain ⟨x9, p9, rfl, xh9⟩ := list_consE xh8
  obtain ⟨x10, p10, rfl, xh10⟩ := list_consE xh9
  obtain ⟨x11, p11, rfl, xh11⟩ := list_consE xh10
  obtain ⟨x12, p12, rfl, xh12⟩ := list_consE xh11
  obtain ⟨x13, p13, rfl, xh13⟩ := list_consE xh12
  obtain ⟨x14, p14, rfl, xh14⟩ := list_consE xh13
  obtain ⟨x15, p15, rfl, xh15⟩ := list_consE xh14
  obtain ⟨x16, p16, rfl, xh16⟩ := list_consE xh15
  obtain ⟨x17, p17, rfl, xh17⟩ := list_consE xh16
  obtain ⟨x18, p18, rfl, xh18⟩ := list_consE xh17
  obtain ⟨x19, p19, rfl, xh19⟩ := list_consE xh18
  obtain ⟨x20, p20, rfl, xh20⟩ := list_consE xh19
  obtain ⟨x21, p21, rfl, xh21⟩ := list_consE xh20
  obtain ⟨x22, p22, rfl, xh22⟩ := list_consE xh21
  obtain ⟨x23, p23, rfl, xh23⟩ := list_consE xh22
  obtain ⟨x24, p24, rfl, xh24⟩ := list_consE xh23
  obtain ⟨x25, p25, rfl, xh25⟩ := list_consE xh24
  obtain ⟨x26, p26, rfl, xh26⟩ := list_consE xh25
  obtain ⟨x27, p27, rfl, xh27⟩ := list_consE xh26
  obtain ⟨x28, p28, rfl, xh28⟩ := list_consE xh27
  obtain ⟨x29, p29, rfl, xh29⟩ := list_consE xh28
  obtain ⟨x30, p30, rfl, xh30⟩ := list_consE xh29
  obtain ⟨x31, p31, rfl, xh31⟩ := list_consE xh30
  obtain rfl := List.eq_nil_of_length_eq_zero xh31
  kernel_rfl
theorem mkV1 (x : Vt) (hx : x.id.length = 32) (w : World) : (Instr.buildSlice 22 1 #[(0, .agg (vtC x).toArray)]).run Try.prog w = .ok (.slice (some ⟨w.heap.size, 0, none⟩) 1 1) (w.alloc (.cells (vtC x).toArray 33)) := mkV1' x.id hx x.n w
theorem infoVt3 : (Try.prog.info? 33).map (fun i => (i.zero, i.size, i.bytes)) = some (some (.agg (vtC vt0).toArray), 33, 40) := by kernel_rfl
theorem zVt_size : (Value.agg (vtC vt0).toArray).cells.size = 33 := by kernel_rfl
theorem src_one (x : Vt) (hx : x.id.length = 32) {w : World} {g : Nat} (h : w.heap[g]? = some (.cells (vtC x).toArray 33 (0, 0))) : Src Try.prog 33 22 (.slice (some ⟨g, 0, none⟩) 1 1) 1 (vtC x) w :=
  Src.ofSlice _ Try.underlying22 _ 1 1 (vtC x) (by rw [vtC_length hx]) (fun j u hj => by rw [Addr.add_lit]; exact range_blk h j u hj) (vtC_one x)
theorem mkT (n : Nat) (hn : n ≤ 1000) (w : World) : ∃ cs : List Value, cs.length = n * 33 ∧ (Instr.makeSlice 22 (.int .i64 0) (.int .i64 (n : Int))).run Try.prog w = .ok (.slice (some ⟨w.heap.size, 0, none⟩) 0 n) (w.alloc (.cells cs.toArray 33)) := by
  obtain ⟨i, h1, h2, h3, h4⟩ := info_parts infoVt3
  have h := run_makeSlice w 22 33 i _ Try.underlying22 h1 h2 .i64 .i64 0 n (by omega) (by omega) (by rw [h3]; omega) (by rw [h4]; omega) (by omega)
  refine ⟨(madeCells (Value.agg (vtC vt0).toArray).cells (n * 33)).toList, by simp [size_madeCells], ?_⟩
  rw [h, h3, Int.toNat_natCast]
  rfl

/-! the range -/
/-- block r is an iterator over block b, n entries long, that has told these -/
def Iter (w : World) (r b n : Nat) (seen : List Nat) : Prop := w.heap[r]? = some (.mapIter (some b) n seen.toArray n)
theorem range_run {w : World} {b : Nat} {l : List Vt} (h : MapI w b l) : (Instr.range 66 (.map (some b))).run Try.prog w = .ok (.pointer (some ⟨w.heap.size, 0, none⟩)) (w.alloc (.mapIter (some b) l.length #[] l.length)) := by
  simp [Instr.range, run_underlying Try.underlying66, MapKept.run_getObj_map h.blk, Result.andThen, newObj, Sem.run]
theorem len_run {w : World} {b : Nat} {l : List Vt} (h : MapI w b l) (ty : TypeId) : (Builtin.len_ #[66] ty #[.map (some b)]).run Try.prog w = .ok (.int .i64 l.length) w := by
  simp [Builtin.len_, run_underlying Try.underlying66, MapKept.run_getObj_map h.blk, goInt, Result.andThen, ents_length]
theorem next_run {w : World} {b r : Nat} {l : List Vt} {seen : List Nat} (h : MapI w b l) (hi : Iter w r b l.length seen) (ty : TypeId) :
    ((∀ i, i < l.length → i ∈ seen) ∧ (Instr.next (.pointer (some ⟨r, 0, none⟩)) false ty).run Try.prog w = .ok (.tuple #[.bool false]) w) ∨
    ∃ j x w', l[j]? = some x ∧ j ∉ seen ∧ (Instr.next (.pointer (some ⟨r, 0, none⟩)) false ty).run Try.prog w = .ok (.tuple #[.bool true, keyV x.id, .int .i64 x.n]) w' ∧ Iter w' r b l.length (seen ++ [j]) ∧ Kp (fun k => k = r) w w' ∧ w'.heap.size = w.heap.size := by
  rcases run_next_at (P := Try.prog) w ty r b l.length l.length seen.toArray (ents 0 l).toArray l.length hi h.blk (fun e he => by
      obtain ⟨j, x, hj, rfl⟩ := ents_inv he
      have := (List.getElem?_eq_some_iff.1 hj).1
      show 0 + j < l.length; omega) (Nat.le_refl _) with ⟨h0, hr⟩ | ⟨e, he, w1, hw1, hr⟩
  · refine .inl ⟨fun i hil => ?_, hr⟩
    have hm : leftOf (ents 0 l).toArray seen.toArray = #[] := Array.eq_empty_of_size_eq_zero h0
    have hx := List.getElem?_eq_getElem hil
    have hg := ents_get 0 l i _ hx
    rw [Nat.zero_add] at hg
    by_cases hs : i ∈ seen
    · exact hs
    · have hmem : (⟨keyV l[i].id, .int .i64 l[i].n, i⟩ : MapEntry) ∈ leftOf (ents 0 l).toArray seen.toArray := by
        unfold leftOf
        rw [Array.mem_filter]
        exact ⟨by rw [List.mem_toArray]; exact List.mem_of_getElem? hg, by simpa using hs⟩
      rw [hm] at hmem
      simp at hmem
  · have he' : e ∈ leftOf (ents 0 l).toArray seen.toArray := Array.mem_toList_iff.1 he
    unfold leftOf at he'
    rw [Array.mem_filter] at he'
    obtain ⟨he1, he2⟩ := he'
    obtain ⟨j, x, hj, rfl⟩ := ents_inv (List.mem_toArray.1 he1)
    rw [Nat.zero_add] at hr he2
    have hrb : w1.heap[r]? = some (.mapIter (some b) l.length seen.toArray l.length) := by rcases hw1 with rfl | rfl <;> exact hi
    refine .inr ⟨j, x, _, hj, by simpa using he2, hr, ?_, ?_, ?_⟩
    · unfold Iter setBlock
      show (w1.heap.setIfInBounds r _)[r]? = _
      rw [Array.getElem?_setIfInBounds_self_of_lt (lt_of_blk hrb)]
      simp
    · have k1 : Kp (fun k => k = r) w w1 := by
        rcases hw1 with e | e
        · rw [e]; exact Kp.refl _ _
        · rw [e]; exact (Kp.refl _ _).drew
      exact k1.trans (kp_setBlock _) (fun _ _ h => h)
    · have : w1.heap.size = w.heap.size := by rcases hw1 with rfl | rfl <;> rfl
      simp [setBlock, this]
theorem entry_run2 {w : World} {b r j : Nat} {l : List Vt} {seen : List Nat} {x : Vt} (h : MapI w b l) (hi : Iter w r b l.length (seen ++ [j])) (hj : l[j]? = some x) :
    (Instr.entry (.pointer (some ⟨r, 0, none⟩))).run Try.prog w = .ok (.tuple #[keyV x.id, .int .i64 x.n]) w := by
  have hg := ents_get 0 l j x hj
  rw [Nat.zero_add] at hg
  have := run_entry_at (P := Try.prog) w r b l.length seen.toArray (ents 0 l).toArray l.length ⟨keyV x.id, .int .i64 x.n, j⟩ (by rw [show w.heap[r]? = _ from hi]; simp) h.blk (List.mem_of_getElem? hg) (by
    rw [List.toList_toArray, ents_born]; exact List.nodup_range')
  exact this
/-- the entries at these places -/
def picks (l : List Vt) (seen : List Nat) : List Vt := seen.filterMap (fun i => l[i]?)
theorem picks_snoc {l : List Vt} {seen : List Nat} {j : Nat} {x : Vt} (h : l[j]? = some x) : picks l (seen ++ [j]) = picks l seen ++ [x] := by simp [picks, h]
theorem picks_all {l : List Vt} {seen : List Nat} (hn : seen.Nodup) (hlt : ∀ i ∈ seen, i < l.length) (hall : ∀ i, i < l.length → i ∈ seen) : (picks l seen).Perm l := by
  have hp : seen.Perm (List.range l.length) := (List.perm_ext_iff_of_nodup hn List.nodup_range).2 (fun i => by rw [List.mem_range]; exact ⟨hlt i, hall i⟩)
  have h2 : picks l (List.range l.length) = l := by
    have : ∀ k, k ≤ l.length → picks l (List.range k) = l.take k := by
      intro k
      induction k with
      | zero => intro _; rfl
      | succ k ih =>
        intro hk
        rw [List.range_succ, picks_snoc (List.getElem?_eq_getElem (by omega)), ih (by omega), List.take_succ_eq_append_getElem (by omega)]
    rw [this _ (Nat.le_refl _), List.take_length]
  have h3 := hp.filterMap (fun i => l[i]?)
  rw [show (List.range l.length).filterMap (fun i => l[i]?) = l from h2] at h3
  exact h3
theorem seen_lt {n : Nat} {seen : List Nat} {j : Nat} (hn : (seen ++ [j]).Nodup) (hlt : ∀ i ∈ seen ++ [j], i < n) : seen.length < n := by
  have := List.Nodup.length_le_of_subset hn (l₂ := List.range n) (fun i hi => List.mem_range.2 (hlt i hi))
  rw [List.length_append, List.length_range] at this
  exact this
/-- how many the iterator has told -/
def seenN (w : World) (r : Nat) : Nat := match w.heap[r]? with
  | some (.mapIter _ _ s _) => s.size
  | _ => 0
theorem Iter.kept {F : Nat → Prop} {w w' : World} {r b n : Nat} {seen : List Nat} (h : Iter w r b n seen) (k : Kp F w w') (hF : ¬ F r) : Iter w' r b n seen := kept_blk h k hF
theorem Iter.told {w : World} {r b n : Nat} {seen : List Nat} (h : Iter w r b n seen) : seenN w r = seen.length := by unfold seenN; rw [show w.heap[r]? = _ from h]; simp

/-- votes in new memory that no one else has: they may be written to -/
def MadeT (B : Nat) (w : World) (v : Value) (l : List Vt) : Prop :=
  SeesT w v l ∧ (v = .slice none 0 0 ∨ ∃ g cap, v = .slice (some ⟨g, 0, none⟩) l.length cap ∧ B ≤ g ∧ g < w.heap.size ∧ ∀ j, j < l.length * 33 → w.frozen? ⟨g, j, none⟩ = false)
/-- a map's names in order -/
def Sorts (l L : List Vt) : Prop := L.Perm l ∧ L.Pairwise (fun x y => ¬ cmpI y.id x.id < 0)

set_option maxRecDepth 100000 in
set_option maxHeartbeats 3200000 in
theorem rising_any {w : World} {b : Nat} {l : List Vt} (hm : MapI w b l) (hw : TOk l) (hl : l.length ≤ 1000) :
    Calls Try.prog 40 #[.map (some b)] w fun e w' => ∃ v L, e = .returned v ∧ Sorts l L ∧ MadeT w.heap.size w' v L ∧ Kp (fun _ => False) w w' := by
  have hlen := fun ty => len_run hm ty
  obtain ⟨cs, hcs, hmk⟩ := mkT l.length hl w
  have hm1 : MapI (w.alloc (.cells cs.toArray 33)) b l := hm.kept ((Kp.refl (fun _ => False) _).alloc _) (fun f => f)
  have hrg := range_run hm1
  rw [World.size_alloc] at hrg
  have HM := Lib.hid hm
  have HW := Lib.hid hw
  have HLEN := Lib.hid hl
  have hbl := lt_of_blk hm.blk
  have HB := Lib.hid hbl
  obtain ⟨w0, hw0⟩ : ∃ w0, w0 = (w.alloc (.cells cs.toArray 33)).alloc (.mapIter (some b) l.length #[] l.length) := ⟨_, rfl⟩
  have K0 := Lib.hid (show Kp (fun _ => False) w w0 by rw [hw0]; exact ((Kp.refl _ _).alloc _).alloc _)
  have I0 := Lib.hid (show Iter w0 (w.heap.size + 1) b l.length [] by
    rw [hw0]
    have h := new_blk (w.alloc (.cells cs.toArray 33)) (.mapIter (some b) l.length #[] l.length)
    rw [World.size_alloc] at h
    exact h)
  have O0 := Lib.hid (show OwnG 33 33 w0 w.heap.size (.slice (some ⟨w.heap.size, 0, none⟩) 0 l.length) 0 (flatT (picks l [])) by
    refine ⟨rfl, .inr ⟨w.heap.size, l.length, cs, rfl, Nat.le_refl _, ?_, by simpa [flatT, picks] using hcs, Nat.zero_le _, by have := hl; unfold maxLen; omega⟩⟩
    rw [hw0]
    exact old_blk (new_blk w _) _)
  rw [← hw0] at hrg
  clear hm hw hl hm1 hbl hw0
  obtain ⟨n, hn⟩ : ∃ n, n = l.length := ⟨_, rfl⟩
  rw [← hn] at hlen hmk O0
  have HN := Lib.hid hn
  clear hn
  go_enter Try.func40, Try.ntmps40
  go_wp2_with fail
  go_loopw [3] (fun s wr => ∃ seen : List Nat, Hid (seen.Nodup) ∧ Hid (∀ i ∈ seen, i < l.length) ∧ (∃ g cap, s = .slice (some ⟨g, 0, none⟩) seen.length cap) ∧ Hid (OwnG 33 33 wr w.heap.size s seen.length (flatT (picks l seen))) ∧ Hid (Iter wr (w.heap.size + 1) b l.length seen) ∧ Hid (s.ownBlock ≠ some (w.heap.size + 1)) ∧ Hid (Kp (fun _ => False) w wr)) (fun _ wr => l.length - seenN wr (w.heap.size + 1))
  case atStart => exact ⟨[], Lib.hid List.nodup_nil, Lib.hid (fun i h => by cases h), ⟨_, _, rfl⟩, O0, I0, Lib.hid (fun e => by
    have := own_some e
    omega), K0⟩
  case round =>
    obtain ⟨seen, hnd, hlt, ⟨g, cap, rfl⟩, ho, hi, hne, hkp⟩ := hrel
    have hmr := HM.out.kept hkp.out (fun f => f)
    rcases next_run hmr hi.out 0 with ⟨hall, hnx⟩ | ⟨j, x, w1, hx, hjs, hnx, hi1, hk1, hs1⟩
    · have HP := Lib.hid (picks_all hnd.out hlt.out hall)
      obtain ⟨hcl, ⟨h0, _⟩ | ⟨g', cap', rest, e, h1, h2, h3, h4, h5⟩⟩ := ho.out
      · cases h0
      · cases e
        have hwp : TOk (picks l seen) := fun y hy => HW.out y (HP.out.mem_iff.1 hy)
        have hpl : (picks l seen).length = seen.length := by
          have := flatT_length (fun y hy => (hwp y hy).nm.len)
          omega
        have hso := sortT_any (cap := cap) hwp h2 (by rw [hpl, ← hpl, HP.out.length_eq]; have := HLEN.out; omega)
        rw [hpl] at hso
        have HSO := Lib.hid hso
        have HPL := Lib.hid hpl
        have HG := Lib.hid h1
        have HC := Lib.hid h4
        have HC5 := Lib.hid h5
        have HGL := Lib.hid (lt_of_blk h2)
        clear hso hwp hpl h1 h2 h3 h4 h5 hcl hall hnd hlt ho hi hne hmr
        go_wp2_with fail
        refine HSO.out.mono ?_
        rintro e w2 ⟨rfl, L, hp, hsd, hrd, hfr, hk2⟩
        have HR := Lib.hid (show Sorts l L ∧ MadeT w.heap.size w2 (.slice (some ⟨g, 0, none⟩) seen.length cap) L ∧ Kp (fun _ => False) w w2 by
          have hLl : L.length = seen.length := by rw [hp.length_eq, HPL.out]
          refine ⟨⟨hp.trans HP.out, hsd.imp (fun h => by omega)⟩, ⟨⟨some ⟨g, 0, none⟩, cap, by rw [hLl], by rw [hLl]; exact HC.out, HC5.out, (fun e => by cases e), fun i x hi => ⟨g, 0, rfl, by rw [Nat.zero_add]; exact hrd i x hi⟩⟩, .inr ⟨g, cap, by rw [hLl], HG.out, Nat.lt_of_lt_of_le HGL.out hk2.size, fun j hj => hfr j (by rw [← hLl]; exact hj)⟩⟩, hkp.out.trans hk2 (fun y hy e => by have := HG.out; omega)⟩)
        clear hp hsd hrd hfr hk2
        go_wp2_with fail
        go_ret
        exact ⟨_, L, rfl, HR.out⟩
    · have hb := HB.out
      have hen := entry_run2 (hmr.kept hk1 (fun e => by omega)) hi1 hx
      simp only [keyV] at hnx hen
      have HX := Lib.hid hx
      have HXW := Lib.hid (HW.out x (List.mem_of_getElem? hx))
      have HO1 := Lib.hid (ho.out.kept hk1 (fun y hy e => hne.out (by rw [hy, e])))
      have HI1 := Lib.hid hi1
      have HK1 := Lib.hid (hkp.out.trans hk1 (fun y hy e => by omega))
      have HS1 := Lib.hid hs1
      have HIL := Lib.hid (lt_of_blk hi.out)
      have HJS := Lib.hid hjs
      have ILT := Lib.hid (hlt.out)
      have HND := Lib.hid (show (seen ++ [j]).Nodup from List.nodup_append.2 ⟨hnd.out, by simp, fun a ha c hc e => by rw [List.mem_singleton] at hc; subst hc; subst e; exact HJS.out ha⟩)
      have HLT := Lib.hid (show ∀ i ∈ seen ++ [j], i < l.length from fun i hi => by
        rcases List.mem_append.1 hi with h | h
        · exact hlt.out i h
        · rw [List.mem_singleton.1 h]; exact (List.getElem?_eq_some_iff.1 HX.out).1)
      have HGB := Lib.hid (show w.heap.size ≤ g from (ho.out.lt g rfl).1)
      have HB2 := Lib.hid hb
      clear hx hjs hi1 hk1 hs1 hmr hb
      go_wp2_with (first
        | ((with_reducible refine at_store 4 14 ?_); refine st_fresh rfl 27 _ _ rfl (U8s x.id).toArray rfl rfl 27 _ (info32 x.id HXW.out.nm.len) (by simp [U8s_length, HXW.out.nm.len]) (all_oneCell_toArray (U8s_one _)) ?_; intro w2 k2 m2 s2; have M2 := Lib.hid m2; have K2 := Lib.hid k2; obtain ⟨v', w3, hap, ho3, hk3, hloc⟩ := app_own Try.underlying22 infoVt3 zVt_size (w := w2.alloc (.cells (vtC x).toArray 33)) (B := w.heap.size) (n := seen.length) (k := 1) (by rw [World.size_alloc]; have := HK1.out.size; have := k2.size; omega) ((HO1.out.kept k2 (fun _ _ f => f)).kept (k := (Kp.refl (fun _ => False) _).alloc _) (fun _ _ f => f)) (src_one x HXW.out.nm.len (new_blk w2 (.cells (vtC x).toArray 33))) (by omega) (by have := HLEN.out; have := seen_lt HND.out HLT.out; omega) (by omega); have HSZ := Lib.hid (show w.heap.size + 1 < (w2.alloc (.cells (vtC x).toArray 33)).heap.size by rw [World.size_alloc]; have := HIL.out; have := HK1.out.size; have := k2.size; have := HS1.out; omega); have HI3 := Lib.hid (((HI1.out.kept k2 (fun f => f)).kept (k := (Kp.refl (fun _ => False) _).alloc _) (fun f => f)).kept hk3 (fun e => hne.out e)); have HO3 := Lib.hid ho3; have HK3 := Lib.hid hk3; have HL3 := Lib.hid hloc; clear ho3 hk3 hloc k2 m2 s2)
        | ((with_reducible refine at_dst 17 ?_); refine wpList_load_row rfl 27 _ rfl w1.heap.size rfl 27 _ (0, 0) _ M2.out Try.underlying27 rfl (info32 x.id HXW.out.nm.len) ?_)
        | ((with_reducible refine at_dst 19 ?_); refine wpList_vt (.tmp 17) (.tmp 18) x HXW.out.nm.len rfl rfl rfl rfl ?_)
        | ((with_reducible refine at_dst 20 ?_); refine wpList_slice_run rfl 22 1 _ rfl _ rfl _ _ (mkV1 x HXW.out.nm.len _) ?_)
        | (at_builtin; refine Lib.wpList_append_run _ rfl _ _ _ _ rfl _ _ rfl rfl _ _ (hap _) ?_))
      go_roundw
      case rel =>
        obtain ⟨hc3, ⟨_, h0⟩ | ⟨g3, cap3, rest3, rfl, r1, r2, r3, r4, r5⟩⟩ := HO3.out
        · omega
        · refine ⟨seen ++ [j], Lib.hid HND.out, Lib.hid HLT.out, ⟨g3, cap3, by rw [List.length_append]; rfl⟩, Lib.hid (by rw [picks_snoc HX.out, flatT_append, List.length_append, show flatT [x] = vtC x by simp [flatT]]; exact HO3.out), Lib.hid HI3.out, Lib.hid (fun e => ?_), Lib.hid ?_⟩
          · rcases HL3.out with h | h
            · exact hne.out (h ▸ e)
            · have := h _ e
              have := HSZ.out
              omega
          · exact ((HK1.out.trans K2.out (fun _ _ f => f)).alloc _).trans HK3.out (fun y hy e => by
              have := own_some e
              have := HGB.out
              omega)
      case measure =>
        have t1 := HI3.out.told
        have t2 := hi.out.told
        rw [t1, t2, List.length_append]
        have := seen_lt HND.out HLT.out
        simp
        omega
end Go.Proofs.Ytoeinolekpmbbaa
