/-
  Contract of package sha's mix: a state's words behind 64 bytes more.
-/
import Derived.Test.YtoognhbdgdfkoaaDoorSha
namespace Go.Proofs.YtoognhbdgdfkoaaDoor
open Go.ChangeShapes Go.WideShapes Go.ChangeAt Go.RowKit

/-- a state's cells -/
def stL (l part : List Int) (came : Int) : List Value := .bool true :: (U32s l ++ U8s part ++ [.int .i64 came])
def stC (H : St) (part : List Int) (came : Int) : List Value := stL H.list part came
/-- the two tables -/
structure Rts (w : World) : Prop where
  sq : ∃ t fr, w.heap[0]? = some (.cells (U32s h0.list).toArray t fr)
  cb : ∃ t fr, w.heap[1]? = some (.cells (U32s kTab).toArray t fr)
theorem Rts.kept {F : Nat → Prop} {w w' : World} (h : Rts w) (k : Kp F w w') (hF : ∀ g, g < 2 → ¬ F g) : Rts w' := by
  obtain ⟨⟨t, fr, h1⟩, ⟨t', fr', h2⟩⟩ := h
  exact ⟨⟨t, fr, kept_blk h1 k (hF _ (by omega))⟩, ⟨t', fr', kept_blk h2 k (hF _ (by omega))⟩⟩
theorem Rts.size {w : World} (h : Rts w) : 2 ≤ w.heap.size := by
  obtain ⟨⟨t, fr, h1⟩, ⟨t', fr', h2⟩⟩ := h
  have := lt_of_blk h1
  have := lt_of_blk h2
  omega

theorem kTab_length : kTab.length = 64 := by decide
theorem kTab_w32 : Ws kTab := by
  have h : kTab.all (fun x => decide (0 ≤ x) && decide (x < 4294967296)) = true := by decide +kernel
  intro x hx
  have := List.all_eq_true.1 h x hx
  simpa [W32] using this
/-- all of them words -/
structure St.ok (s : St) : Prop where
  a : W32 s.a
  b : W32 s.b
  c : W32 s.c
  d : W32 s.d
  e : W32 s.e
  f : W32 s.f
  g : W32 s.g
  h : W32 s.h
theorem step_ok {s : St} (h : s.ok) (k w : Int) : (step s k w).ok := ⟨addw_w32 _ _, h.a, h.b, h.c, addw_w32 _ _, h.e, h.f, h.g⟩
theorem addS_ok (x y : St) : (addS x y).ok := ⟨addw_w32 _ _, addw_w32 _ _, addw_w32 _ _, addw_w32 _ _, addw_w32 _ _, addw_w32 _ _, addw_w32 _ _, addw_w32 _ _⟩
theorem rounds_ok (m : List Int) {s : St} (h : s.ok) (n : Nat) : (rounds m s n).ok := by
  induction n with
  | zero => exact h
  | succ n ih => exact step_ok ih _ _
theorem comp_ok (s : St) (bs : List Int) : (comp s bs).ok := addS_ok _ _
theorem h0_ok : h0.ok := by constructor <;> (unfold W32; decide)
theorem St.ok.ws {s : St} (h : s.ok) : Ws s.list := by
  intro x hx
  simp only [St.list, List.mem_cons, List.not_mem_nil, or_false] at hx
  rcases hx with e | e | e | e | e | e | e | e <;> subst e
  · exact h.a
  · exact h.b
  · exact h.c
  · exact h.d
  · exact h.e
  · exact h.f
  · exact h.g
  · exact h.h

/-- one place of a row of words -/
theorem index_words {t : TypeId} {n : Nat} {e : TypeId} (hu : Tryd.prog.underlying t = some (.array n e)) (he : Tryd.prog.underlying e = some (.int .u32)) (hq : (Tryd.prog.info? e).map (·.size) = some 1) (l : List Int) (hl : l.length = n) (k : Nat) (hk : k < n) (w : World) :
    (Instr.index t (.agg (U32s l).toArray) (.int .i64 k)).run Tryd.prog w = .ok (.int .u32 (l.getD k 0)) w := by
  obtain ⟨i, hi, hs⟩ := Option.map_eq_some_iff.1 hq
  have h0 : (0 : Int) ≤ k := by omega
  have hg : (U32s l)[k]? = some (.int .u32 (l.getD k 0)) := by simp [U32s, show k < l.length by omega]
  simp [Instr.index, run_underlying hu, asIntOf, h0, hk, go_sem, sizeOf, typeInfo, hi, hs, hg, isAgg, run_underlying he]
/-- a row stored into a block made just now: the world behind it by its facts -/
theorem wpList_store_fresh {P : Program} {ops : Array Oper} {rest : List Oper} {o : Oper} {a : Act} {w : World} {Q : Exit → Act → World → Prop} (hgd : o.guard = none) (ty : TypeId) (x y : Operand) (ho : o.op = .store ty x y)
    (cells : Array Value) (hx : a.eval x = .pointer (some ⟨w.heap.size, 0, none⟩)) (hy : a.eval y = .agg cells)
    (t : TypeId) (old : Array Value) (hi : (P.info? ty).map (·.size) = some cells.size)
    (hold : old.size = cells.size) (h1 : cells.all (·.oneCell') = true)
    (h : ∀ w2, Kp (fun _ => False) w w2 → w2.heap[w.heap.size]? = some (.cells cells t (0, 0)) → w2.heap.size = w.heap.size + 1 → wpList P ops Q rest (a.put o.dst undef) w2) :
    wpList P ops Q (o :: rest) a (w.alloc (.cells old t)) :=
  wpList_store_row hgd ty x y ho w.heap.size cells hx hy t old (new_blk _ _) hi hold h1
    (h _ (((Kp.refl _ w).alloc _).setRow (by simp) _) (setRow_blk (new_blk _ _)) (by simp))
theorem wpList_store_fresh_at {P : Program} {ops : Array Oper} {rest : List Oper} {o : Oper} {a : Act} {w : World} {Q : Exit → Act → World → Prop} (hgd : o.guard = none) (ty : TypeId) (x y : Operand) (ho : o.op = .store ty x y)
    (cells : Array Value) (g : Nat) (hz : w.heap.size = g) (hx : a.eval x = .pointer (some ⟨g, 0, none⟩)) (hy : a.eval y = .agg cells)
    (t : TypeId) (old : Array Value) (hi : (P.info? ty).map (·.size) = some cells.size)
    (hold : old.size = cells.size) (h1 : cells.all (·.oneCell') = true)
    (h : ∀ w2, Kp (fun _ => False) w w2 → w2.heap[g]? = some (.cells cells t (0, 0)) → w2.heap.size = g + 1 → wpList P ops Q rest (a.put o.dst undef) w2) :
    wpList P ops Q (o :: rest) a (w.alloc (.cells old t)) := by
  subst hz
  exact wpList_store_fresh hgd ty x y ho cells hx hy t old hi hold h1 h
theorem st_part (H : St) (part : List Int) (came : Int) (i : Nat) (hi : i < part.length) : (stC H part came).toArray[9 + i]? = some (.int .u8 (part.getD i 0)) := by
  have e : (stC H part came) = (.bool true :: U32s H.list) ++ (U8s part ++ [.int .i64 came]) := by simp [stC, stL]
  rw [e, List.getElem?_toArray, List.getElem?_append_right (by simp [U32s, St.list]), show 9 + i - (Value.bool true :: U32s H.list).length = i by simp [U32s, St.list],
    List.getElem?_append_left (by rw [U8s_length]; exact hi)]
  simp [U8s, hi]
/-- the words while they are added up: the first k are -/
structure MixRel (w : World) (p : Nat) (l1 l0 part : List Int) (came : Int) (k : Nat) (wx : World) : Prop where
  row : wx.heap[p]? = some (.cells (stL (l1.take k ++ l0.drop k) part came).toArray 85 (0, 0))
  kp : Kp (fun y => y = p) w wx
theorem MixRel.cell {w wx : World} {p : Nat} {l1 l0 part : List Int} {came : Int} {k : Nat} (h : MixRel w p l1 l0 part came k wx) (h1 : l1.length = 8) (h0 : l0.length = 8) (hk : k < 8) :
    wx.cell? ⟨p, 1 + k, none⟩ = some (.int .u32 (l0.getD k 0)) ∧ wx.frozen? ⟨p, 1 + k, none⟩ = false := by
  refine ⟨?_, free_blk h.row _⟩
  rw [cell_blk h.row, Nat.add_comm 1 k, List.getElem?_toArray, stL, List.getElem?_cons_succ, List.append_assoc, List.getElem?_append_left (by rw [U32s_length]; simp; omega)]
  simp only [U32s, List.getElem?_map]
  rw [List.getElem?_append_right (by simp; omega)]
  simp [h1, show min k 8 = k by omega, show k < l0.length by omega]
theorem MixRel.set {w wx : World} {p : Nat} {l1 l0 part : List Int} {came : Int} {k : Nat} (h : MixRel w p l1 l0 part came k wx) (h1 : l1.length = 8) (h0 : l0.length = 8) (hk : k < 8) (n : Nat) :
    MixRel w p l1 l0 part came (k + 1) ((wx.drewN n).setCell ⟨p, 1 + k, none⟩ (.int .u32 (l1.getD k 0))) := by
  have hr : (wx.drewN n).heap[p]? = _ := h.row
  refine ⟨?_, (h.kp.drewN n).setCell (fun _ => rfl) _⟩
  rw [set_blk hr]
  congr 2
  apply Array.ext'
  have e0 : l0.drop k = l0.getD k 0 :: l0.drop (k + 1) := by rw [List.drop_eq_getElem_cons (by omega)]; simp [show k < l0.length by omega]
  have e1 : l1.take (k + 1) = l1.take k ++ [l1.getD k 0] := by rw [List.take_succ_eq_append_getElem (by omega)]; simp [show k < l1.length by omega]
  have hl : (U32s (l1.take k)).length = k := by rw [U32s_length]; simp; omega
  rw [e0, e1]
  simp only [stL, U32s_append, Array.toList_setIfInBounds, Nat.add_comm 1 k, List.set_cons_succ, List.append_assoc]
  rw [List.set_append_right _ _ (by omega), hl]
  simp [U32s]
theorem add_get (x y : St) (k : Nat) (hk : k < 8) : (addS x y).list.getD k 0 = (x.list.getD k 0 + y.list.getD k 0) % 4294967296 := by
  match k, hk with
  | 0, _ => rfl
  | 1, _ => rfl
  | 2, _ => rfl
  | 3, _ => rfl
  | 4, _ => rfl
  | 5, _ => rfl
  | 6, _ => rfl
  | 7, _ => rfl
theorem drewN_two (w : World) (m n : Nat) : (w.drewN m).drewN n = w.drewN (m + n) := by
  simp [World.drewN, Nat.add_assoc]
set_option maxRecDepth 100000 in
set_option maxHeartbeats 800000 in
theorem mix_any (H : St) (hH : H.ok) (part : List Int) (hp : part.length = 64) (hb : ∀ x ∈ part, 0 ≤ x ∧ x ≤ 255) (came : Int) (p : Nat) (w : World) (hR : Rts w)
    (hg : w.heap[p]? = some (.cells (stC H part came).toArray 85 (0, 0))) :
    Calls Tryd.prog 62 #[.pointer (some ⟨p, 0, none⟩)] w fun e w' => e = .returned (.tuple #[]) ∧ w'.heap[p]? = some (.cells (stC (comp H part) part came).toArray 85 (0, 0)) ∧ Kp (fun y => y = p) w w' := by
  have hc : ∀ i, i < 64 → w.cell? ⟨p, 9 + i, none⟩ = some (.int .u8 (part.getD i 0)) := fun i hi => by
    rw [cell_blk hg]; show (stC H part came).toArray[9 + i]? = _
    rw [st_part H part came i (by omega)]
  have HC := Lib.hid hc
  have HG := Lib.hid hg
  clear hc hg
  go_enter Tryd.func62, Tryd.ntmps62
  go_wp2_with fail
  refine (spread_any part hb p 9 w HC.out).mono ?_
  rintro e w1 ⟨rfl, hk⟩
  have HL := Lib.hid (sched_length part)
  go_wp2_with (refine wpList_store_fresh rfl 87 _ _ rfl _ rfl rfl 87 _ (info64 _ HL.out) (by simp [U32s_length, HL.out]) (U32s_one _) ?_; intro w2 hk2 hm hs2)
  have hp1 := lt_of_blk HG.out
  have hg2 := kept_blk (kept_blk HG.out hk (fun f => f)) hk2 (fun f => f)
  have hcH : ∀ i, i < 8 → w2.cell? ⟨p, 1 + i, none⟩ = some (.int .u32 (H.list.getD i 0)) := fun i hi => by
    rw [cell_blk hg2]
    match i, hi with
    | 0, _ => rfl
    | 1, _ => rfl
    | 2, _ => rfl
    | 3, _ => rfl
    | 4, _ => rfl
    | 5, _ => rfl
    | 6, _ => rfl
    | 7, _ => rfl
  have c0 := hcH 0 (by omega)
  have c1 := hcH 1 (by omega)
  have c2 := hcH 2 (by omega)
  have c3 := hcH 3 (by omega)
  have c4 := hcH 4 (by omega)
  have c5 := hcH 5 (by omega)
  have c6 := hcH 6 (by omega)
  have c7 := hcH 7 (by omega)
  simp only [St.list, List.getD_cons_zero, List.getD_cons_succ] at c0 c1 c2 c3 c4 c5 c6 c7
  obtain ⟨tk, fk, hK⟩ := ((hR.kept hk (fun _ _ f => f)).kept hk2 (fun _ _ f => f)).cb
  have HK := Lib.hid hK
  have HM := Lib.hid hm
  have HG2 := Lib.hid hg2
  clear hcH hg2 hm hK hs2
  go_quiet (fail)
  go_wp2_with (refine wpList_load_row rfl 87 _ rfl 1 rfl tk _ fk _ HK.out Tryd.underlying87 rfl (info64 _ kTab_length) ?_)
  go_loopw [3, 4, 5, 6, 7, 8, 9, 10, 11, 12, 13, 14, 62] (fun a b c d e f g h _ _ _ _ i wr => ∃ (k m : Nat), k ≤ 64 ∧ i = .int .i64 k ∧ wr = w2.drewN m ∧ a = .int .u32 (rounds (sched part) H k).a ∧ b = .int .u32 (rounds (sched part) H k).b ∧ c = .int .u32 (rounds (sched part) H k).c ∧ d = .int .u32 (rounds (sched part) H k).d
    ∧ e = .int .u32 (rounds (sched part) H k).e ∧ f = .int .u32 (rounds (sched part) H k).f ∧ g = .int .u32 (rounds (sched part) H k).g ∧ h = .int .u32 (rounds (sched part) H k).h) (fun _ _ _ _ _ _ _ _ _ _ _ _ i _ => 64 - (intOf i).toNat)
  case atStart => exact ⟨0, _, by omega, rfl, rfl, rfl, rfl, rfl, rfl, rfl, rfl, rfl, rfl⟩
  case round =>
    obtain ⟨k, m, hk64, rfl, hwr, rfl, rfl, rfl, rfl, rfl, rfl, rfl, rfl⟩ := hrel
    have HWR := Lib.hid hwr
    have hok := rounds_ok (sched part) hH k
    have hsn : rounds (sched part) H (k + 1) = step (rounds (sched part) H k) (kTab.getD k 0) ((sched part).getD k 0) := rfl
    obtain ⟨s, hse⟩ : ∃ s, s = rounds (sched part) H k := ⟨_, rfl⟩
    rw [← hse] at hok hsn ⊢
    have HE := Lib.hid hse
    have HN := Lib.hid hsn
    clear hse hsn hwr c0 c1 c2 c3 c4 c5 c6 c7
    by_cases hlt : k < 64
    · have hix := index_words (t := 87) Tryd.underlying87 Tryd.underlying75 (by kernel_rfl) kTab kTab_length k hlt
      have hw : wr.cell? ⟨w1.heap.size, k, none⟩ = some (.int .u32 ((sched part).getD k 0)) := by
        rw [HWR.out, World.cell?_drewN, cell_blk HM.out, U32s_get _ _ (by rw [HL.out]; exact hlt)]
      have hd : decide ((k : Int) < 64) = true := by simp; omega
      have p0 : (0 : Int) ≤ k := by omega
      have p1 : (k : Int) < 64 := by omega
      obtain ⟨e0, e1⟩ := hok.e
      clear hR hp hb
      go_wp2_with fail
      go_quiet ((go_at_call 70; exact Calls.quiet_of_same (right_q _ _ (by omega) (by omega) _)))
      go_wp2_with (go_at_call 70; refine (right_any _ _ (by omega) (by omega) _).mono ?_; rintro e w' ⟨rfl, rfl⟩)
      go_roundw
      case rel => exact ⟨k + 1, m + nq, by omega, by go_num, by rw [HWR.out, drewN_two], by rw [HN.out]; rfl, by rw [HN.out]; rfl, by rw [HN.out]; rfl, by rw [HN.out]; rfl, by rw [HN.out]; rfl, by rw [HN.out]; rfl, by rw [HN.out]; rfl, by rw [HN.out]; rfl⟩
      case measure => simp [intOf]; omega
    · obtain rfl : k = 64 := by omega
      rw [show ((64 : Nat) : Int) = 64 from rfl]
      go_wp2_with fail
      clear hlt hk64
      have hstart : MixRel w p (comp H part).list H.list part came 0 wr := by
        refine ⟨by rw [HWR.out]; exact HG2.out, ?_⟩
        rw [HWR.out]
        exact ((hk.trans hk2 (fun _ _ f => f)).mono (fun _ _ f => f.elim)).drewN m
      have hcs : ∀ j, j < 8 → (comp H part).list.getD j 0 = (H.list.getD j 0 + s.list.getD j 0) % 4294967296 := fun j hj => by
        rw [HE.out]; exact add_get _ _ _ hj
      have HS := Lib.hid hstart
      have HCS := Lib.hid hcs
      clear hstart hcs hR hb hp
      go_loopw [15, 16, 133] (fun _ _ i wx => ∃ k : Nat, k ≤ 8 ∧ i = .int .i64 k ∧ MixRel w p (comp H part).list H.list part came k wx) (fun _ _ i _ => 8 - (intOf i).toNat)
      case atStart => exact ⟨0, by omega, rfl, HS.out⟩
      case round =>
        rename_i wo _
        obtain ⟨k, hk8, rfl, hr⟩ := hrel
        by_cases hlt : k < 8
        · obtain ⟨hc, hf⟩ := hr.cell rfl rfl hlt
          have hix : ∀ w, (Instr.index 76 (.agg #[.int .u32 s.a, .int .u32 s.b, .int .u32 s.c, .int .u32 s.d, .int .u32 s.e, .int .u32 s.f, .int .u32 s.g, .int .u32 s.h]) (.int .i64 k)).run Tryd.prog w = .ok (.int .u32 (s.list.getD k 0)) w := index_words (t := 76) Tryd.underlying76 Tryd.underlying75 (by kernel_rfl) s.list rfl k hlt
          have hd : decide ((k : Int) < 8) = true := by simp; omega
          have p0 : (0 : Int) ≤ k := by omega
          have p1 : (k : Int) < 8 := by omega
          have e16 : IntKind.i64.wrap (k : Int) = k := by rw [IntWalk.i64_in _ (by omega)]
          have hset := fun n => hr.set rfl rfl hlt n
          rw [HCS.out k hlt] at hset
          have HX := Lib.hid hset
          clear hset
          go_wp2_with fail
          refine wp_tail 11 (by kernel_rfl) (by kernel_rfl) ?_
          simp only [List.take_succ_cons, List.take_zero, List.drop_succ_cons, List.drop_zero]
          repeat still_step
          refine wpStill_nil ?_
          clear e16
          go_wp2
          go_roundw
          case rel => exact ⟨k + 1, by omega, by go_num, HX.out _⟩
          case measure => simp [intOf]; omega
        · obtain rfl : k = 8 := by omega
          go_wp2_with fail
          go_end0
          exact ⟨rfl, hr.row, hr.kp⟩
end Go.Proofs.YtoognhbdgdfkoaaDoor
