/-
  Package bag's Of: names counted in a map, and told in order.
-/
import Derived.Test.YtoeinolekpmbbaaFe
import Derived.Test.YtoeinolekpmbbaaBaa
import Derived.BigRegion
namespace Go.Proofs.Ytoeinolekpmbbaa
open Go.ChangeShapes Go.WideShapes Go.ChangeAt Go.RowKit

theorem gath_pos {l : List Vt} (h : ∀ x ∈ l, 1 ≤ x.n) (k : List Int) {n : Int} (hn : 1 ≤ n) : ∀ x ∈ gath l k n, 1 ≤ x.n := by
  induction l with
  | nil => intro x hx; simp [gath] at hx; rw [hx]; exact hn
  | cons y r ih =>
    have hy := h y (List.mem_cons_self ..)
    have hr := fun x hx => h x (List.mem_cons_of_mem _ hx)
    intro x hx
    simp only [gath] at hx
    split at hx
    · rcases List.mem_cons.1 hx with e | hx
      · rw [e]; show 1 ≤ y.n + n; omega
      · exact hr x hx
    · rcases List.mem_cons.1 hx with e | hx
      · rw [e]; exact hy
      · exact ih hr x hx
theorem le_sumT {l : List Vt} (h : ∀ x ∈ l, 1 ≤ x.n) : 0 ≤ sumT l ∧ ∀ x ∈ l, x.n ≤ sumT l := by
  induction l with
  | nil => exact ⟨by simp [sumT], fun x hx => by cases hx⟩
  | cons y r ih =>
    obtain ⟨i1, i2⟩ := ih (fun x hx => h x (List.mem_cons_of_mem _ hx))
    have hy := h y (List.mem_cons_self ..)
    rw [sumT_cons]
    refine ⟨by omega, fun x hx => ?_⟩
    rcases List.mem_cons.1 hx with e | hx
    · subst e; omega
    · have := i2 x hx; omega
/-- names gathered: what a map of votes holds on the way -/
structure Gathd (l : List Vt) (m : Int) : Prop where
  uq : Uniq l
  nm : ∀ x ∈ l, Nm x.id
  pos : ∀ x ∈ l, 1 ≤ x.n
  sum : sumT l = m
theorem Gathd.nil : Gathd [] 0 := ⟨List.nodup_nil, fun x h => (by cases h), fun x h => (by cases h), rfl⟩
theorem Gathd.step {l : List Vt} {m : Int} (h : Gathd l m) {k : List Int} (hk : Nm k) {n : Int} (hn : 1 ≤ n) : Gathd (gath l k n) (m + n) :=
  ⟨gath_uniq h.uq k n, fun x hx => by
    rcases gath_mem hx with h' | h'
    · exact h.nm x h'
    · rw [h']; exact hk, gath_pos h.pos k hn, by rw [gath_sum, h.sum]⟩
theorem Gathd.tok {l : List Vt} {m : Int} (h : Gathd l m) (hm : m ≤ 1000000000) : TOk l := fun x hx => by
  have h1 := h.pos x hx
  have h2 := (le_sumT h.pos).2 x hx
  rw [h.sum] at h2
  exact ⟨h.nm x hx, by omega, by omega⟩
theorem Gathd.cnt {l : List Vt} {m : Int} (h : Gathd l m) (k : List Int) : 0 ≤ cntV l k ∧ cntV l k ≤ m := by
  have hs := le_sumT h.pos
  rw [h.sum] at hs
  by_cases h0 : cntV l k = 0
  · omega
  · obtain ⟨x, hx, _, e⟩ := cntV_inv h0
    have := h.pos x hx
    have := hs.2 x hx
    omega
theorem Gathd.lens {l : List Vt} {m : Int} (h : Gathd l m) : l.length ≤ m := by
  have : ∀ (l : List Vt), (∀ x ∈ l, 1 ≤ x.n) → (l.length : Int) ≤ sumT l := by
    intro l
    induction l with
    | nil => intro _; simp [sumT]
    | cons y r ih =>
      intro hl
      have := hl y (List.mem_cons_self ..)
      have := ih (fun x hx => hl x (List.mem_cons_of_mem _ hx))
      rw [sumT_cons, List.length_cons]; omega
  have := this l h.pos
  rw [h.sum] at this
  exact this
theorem gathAll_snoc {ids : List (List Int)} {k : Nat} {x : List Int} (hx : ids[k]? = some x) : gathAll [] (ids.take (k + 1)) = gath (gathAll [] (ids.take k)) x 1 := by
  obtain ⟨hk, e⟩ := List.getElem?_eq_some_iff.1 hx
  rw [List.take_succ_eq_append_getElem hk, e]
  simp [gathAll]
theorem zeroIdF (w : World) : (zeroValue 27).run Try.prog w = .ok (.agg (U8s (List.replicate 32 0)).toArray) w := by kernel_rfl

set_option maxRecDepth 100000 in
set_option maxHeartbeats 3200000 in
theorem bof_any {v : Value} {ids : List (List Int)} {w : World} (hs : SeesI (fun _ => True) w v ids) (hl : ∀ x ∈ ids, Nm x) (hn : ids.length ≤ 1000) :
    Calls Try.prog 17 #[v] w fun e w' => ∃ v' L, e = .returned v' ∧ Sorts (gathAll [] ids) L ∧ Gathd (gathAll [] ids) ids.length ∧ MadeT w.heap.size w' v' L ∧ Kp (fun _ => False) w w' := by
  obtain ⟨a, c, rfl, hm⟩ := hs.form
  have HS := Lib.hid hs
  have HL := Lib.hid hl
  have HL2 := Lib.hid (show ∀ x ∈ ids, x.length = 32 from fun x hx => (hl x hx).len)
  have hz := zeroIdF
  have hmm := @run_makeMap Try.prog
  have HNI := Lib.hid hn
  clear hs hl
  go_enter Try.func17, Try.ntmps17
  go_wp2_with fail
  go_loopw [12] (fun i wr => ∃ k : Nat, k ≤ ids.length ∧ i = .int .i64 k ∧ Hid (Kp (fun _ => False) w wr) ∧ Hid (MapI wr w.heap.size (gathAll [] (ids.take k))) ∧ Hid (Gathd (gathAll [] (ids.take k)) k)) (fun i _ => ids.length - (intOf i).toNat)
  case atStart => exact ⟨0, Nat.zero_le _, rfl, Lib.hid ((Kp.refl _ _).alloc _), Lib.hid (MapI.made w), Lib.hid Gathd.nil⟩
  case round =>
    obtain ⟨k, hk, rfl, hkp, hmi, hga⟩ := hrel
    by_cases hlt : k < ids.length
    · have hx := List.getElem?_eq_getElem hlt
      obtain ⟨g, off, rfl, hr, hlc, hmax, _⟩ := (HS.out.kept hkp.out (fun _ _ f => f)).at HL2.out hlt
      have hc' : c ≤ 9223372036854775807 := hmax
      have HNX := Lib.hid (HL.out _ (List.getElem_mem hlt))
      obtain ⟨x, hxe⟩ : ∃ x, x = ids[k] := ⟨_, rfl⟩
      rw [← hxe] at hr hx HNX
      have HR := Lib.hid hr
      have HX := Lib.hid hx
      obtain ⟨l, hle⟩ : ∃ l, l = gathAll [] (ids.take k) := ⟨_, rfl⟩
      rw [← hle] at hmi hga
      have HLE := Lib.hid hle
      obtain ⟨hc0, hc1⟩ := hga.out.cnt x
      obtain ⟨cn, hcn⟩ : ∃ cn, cn = cntV l x := ⟨_, rfl⟩
      rw [← hcn] at hc0 hc1
      have HCN := Lib.hid hcn
      have hn1 := HNI.out
      have hw1 : wrap64 (cn + 1) = cn + 1 := by unfold wrap64; omega
      have hw2 : IntKind.i64.wrap (cn + 1) = cn + 1 := by simp [IntKind.wrap, IntKind.bits, IntKind.signed]; omega
      have HI := Lib.hid (infoIdL HNX.out.len)
      have HMI := hmi
      clear hr hx hxe hle hcn
      go_upto_region 7 with (first
        | ((with_reducible refine at_dst 15 ?_); refine wpList_load_mid rfl 27 _ rfl g (off + k * 32) rfl (U8s x) _ HR.out Try.underlying27 rfl HI.out ?_)
        | ((with_reducible refine at_store 5 15 ?_); refine st_fresh rfl 27 _ _ rfl (U8s x).toArray rfl rfl 27 _ (info32 x HNX.out.len) (by simp [U8s_length, HNX.out.len]) (all_oneCell_toArray (U8s_one _)) ?_; intro w2 k2 m2 s2; have M2 := Lib.hid m2; have K2 := Lib.hid k2; clear m2 s2 k2))
      refine wp_region_any (by kernel_rfl) ?_
      try (change wpAny _ _ _ _ _ _ _ (World.drew _))
      refine wpAny_take (i := 0) (v := ?_) rfl (by kernel_rfl) (by kernel_rfl) (by kernel_rfl) (fun _ _ _ h => h) (Or.inl ⟨by rfl, ?_⟩) ?_
      rotate_left
      · intro w; go_simp; try with_reducible rfl
      try simp only [Act.put, List.getElem_toArray, List.getElem_cons_zero, List.setIfInBounds_toArray, List.set_cons_zero, List.set_cons_succ]
      obtain ⟨w3, hw3⟩ : ∃ w3, w3 = w2.drew := ⟨_, rfl⟩
      have hmw : MapI w3 w.heap.size l := by rw [hw3]; exact (HMI.out.kept K2.out (fun f => f)).kept (F := fun _ => False) ((Kp.refl _ _).drew) (fun f => f)
      have M3 := Lib.hid (show w3.heap[wr.heap.size]? = some (.cells (U8s x).toArray 27 (0, 0)) by rw [hw3]; exact M2.out)
      have K3 := Lib.hid (show Kp (fun _ => False) wr w3 by rw [hw3]; exact K2.out.drew)
      rw [← hw3]
      clear hw3
      have e1 := look_run hmw HNX.out.len
      obtain ⟨w4, e2, hm4, k4, s4⟩ := entry_run hmw HNX.out.len
      have e3 := look_run hm4 HNX.out.len
      rw [gath_cnt, if_pos rfl, Int.add_zero] at e3
      obtain ⟨w5, e4, hm5, k5, s5⟩ := put_run HNX.out.len hmw.uq hmw.len hm4 1
      rw [← HCN.out] at e1 e2 e3 e4
      simp only [keyV] at e1 e2 e3 e4
      have HM5 := Lib.hid hm5
      have K5 := Lib.hid (((K3.out.mono (G := fun _ => False) (F := fun y => y = w.heap.size) (fun _ _ f => f.elim)).trans k4 (fun _ _ h => h)).trans k5 (fun _ _ h => h))
      clear hm4 hm5 k4 k5 s4 s5 hmw
      obtain ⟨ps, hps⟩ : ∃ ps, ps = posE l x := ⟨_, rfl⟩
      rw [← hps] at e2 e4
      clear hps
      refine wpAny_ready (rs := [1]) (by kernel_rfl) (by simp) ?_
      refine BigFrame.allReady_want rfl (by kernel_rfl) (fun K hK => ?_) AllReady.nil
      refine wp_load_row 27 _ rfl wr.heap.size rfl 27 _ (0, 0) _ M3.out Try.underlying27 rfl (info32 x HNX.out.len) ?_
      refine hK _ _ ?_; clear hK K
      try simp only [Act.put, List.getElem_toArray, List.getElem_cons_succ, List.getElem_cons_zero, List.setIfInBounds_toArray, List.set_cons_zero, List.set_cons_succ]
      refine wpAny_ready (rs := [2, 4]) (by kernel_rfl) (by simp) ?_
      refine BigFrame.allReady_want rfl (by kernel_rfl) (fun K hK => ?_) (BigFrame.allReady_want rfl (by kernel_rfl) (fun K hK => ?_) AllReady.nil)
      · go_simp
        refine hK _ _ ?_; clear hK K
        try simp only [Act.put, List.getElem_toArray, List.getElem_cons_succ, List.getElem_cons_zero, List.setIfInBounds_toArray, List.set_cons_zero, List.set_cons_succ]
        refine wpAny_take (i := 3) (v := ?_) rfl (by kernel_rfl) (by kernel_rfl) (by kernel_rfl) (fun _ _ _ h => h) (Or.inl ⟨by rfl, ?_⟩) ?_
        rotate_left
        · intro w; go_simp; try with_reducible rfl
        try simp only [Act.put, List.getElem_toArray, List.getElem_cons_succ, List.getElem_cons_zero, List.setIfInBounds_toArray, List.set_cons_zero, List.set_cons_succ]
        refine wpAny_ready (rs := [4]) (by kernel_rfl) (by simp) ?_
        refine BigFrame.allReady_want rfl (by kernel_rfl) (fun K hK => ?_) AllReady.nil
        go_simp
        refine hK _ _ ?_; clear hK K
        try simp only [Act.put, List.getElem_toArray, List.getElem_cons_succ, List.getElem_cons_zero, List.setIfInBounds_toArray, List.set_cons_zero, List.set_cons_succ]
        refine wpAny_take (i := 5) (v := ?_) rfl (by kernel_rfl) (by kernel_rfl) (by kernel_rfl) (fun _ _ _ h => h) (Or.inl ⟨by rfl, ?_⟩) ?_
        rotate_left
        · intro w; go_simp; try with_reducible rfl
        try simp only [Act.put, List.getElem_toArray, List.getElem_cons_succ, List.getElem_cons_zero, List.setIfInBounds_toArray, List.set_cons_zero, List.set_cons_succ]
        refine wpAny_ready (rs := [6]) (by kernel_rfl) (by simp) ?_
        refine BigFrame.allReady_want rfl (by kernel_rfl) (fun K hK => ?_) AllReady.nil
        go_simp
        refine hK _ _ ?_; clear hK K
        try simp only [Act.put, List.getElem_toArray, List.getElem_cons_succ, List.getElem_cons_zero, List.setIfInBounds_toArray, List.set_cons_zero, List.set_cons_succ]
        refine wpAny_done (by kernel_rfl) ?_ _
        go_wp2_with fail
        go_roundw
        case rel => exact ⟨k + 1, by omega, by go_num, Lib.hid (hkp.out.trans K5.out (fun y hy e => by omega)), Lib.hid (by rw [gathAll_snoc HX.out, ← HLE.out]; exact HM5.out), Lib.hid (by rw [gathAll_snoc HX.out, ← HLE.out]; have := hga.out.step HNX.out (n := 1) (by omega); simpa using this)⟩
        case measure => simp [intOf]; omega
      · go_simp
        refine hK _ _ ?_; clear hK K
        try simp only [Act.put, List.getElem_toArray, List.getElem_cons_succ, List.getElem_cons_zero, List.setIfInBounds_toArray, List.set_cons_zero, List.set_cons_succ]
        refine wpAny_take (i := 5) (v := ?_) rfl (by kernel_rfl) (by kernel_rfl) (by kernel_rfl) (fun _ _ _ h => h) (Or.inl ⟨by rfl, ?_⟩) ?_
        rotate_left
        · intro w; go_simp; try with_reducible rfl
        try simp only [Act.put, List.getElem_toArray, List.getElem_cons_succ, List.getElem_cons_zero, List.setIfInBounds_toArray, List.set_cons_zero, List.set_cons_succ]
        refine wpAny_ready (rs := [2]) (by kernel_rfl) (by simp) ?_
        refine BigFrame.allReady_want rfl (by kernel_rfl) (fun K hK => ?_) AllReady.nil
        go_simp
        refine hK _ _ ?_; clear hK K
        try simp only [Act.put, List.getElem_toArray, List.getElem_cons_succ, List.getElem_cons_zero, List.setIfInBounds_toArray, List.set_cons_zero, List.set_cons_succ]
        refine wpAny_take (i := 3) (v := ?_) rfl (by kernel_rfl) (by kernel_rfl) (by kernel_rfl) (fun _ _ _ h => h) (Or.inl ⟨by rfl, ?_⟩) ?_
        rotate_left
        · intro w; go_simp; try with_reducible rfl
        try simp only [Act.put, List.getElem_toArray, List.getElem_cons_succ, List.getElem_cons_zero, List.setIfInBounds_toArray, List.set_cons_zero, List.set_cons_succ]
        refine wpAny_ready (rs := [6]) (by kernel_rfl) (by simp) ?_
        refine BigFrame.allReady_want rfl (by kernel_rfl) (fun K hK => ?_) AllReady.nil
        go_simp
        refine hK _ _ ?_; clear hK K
        try simp only [Act.put, List.getElem_toArray, List.getElem_cons_succ, List.getElem_cons_zero, List.setIfInBounds_toArray, List.set_cons_zero, List.set_cons_succ]
        refine wpAny_done (by kernel_rfl) ?_ _
        go_wp2_with fail
        go_roundw
        case rel => exact ⟨k + 1, by omega, by go_num, Lib.hid (hkp.out.trans K5.out (fun y hy e => by omega)), Lib.hid (by rw [gathAll_snoc HX.out, ← HLE.out]; exact HM5.out), Lib.hid (by rw [gathAll_snoc HX.out, ← HLE.out]; have := hga.out.step HNX.out (n := 1) (by omega); simpa using this)⟩
        case measure => simp [intOf]; omega
    · obtain rfl : k = ids.length := by omega
      rw [List.take_length] at hmi hga
      have HC := Lib.hid (rising_any hmi.out (hga.out.tok (by have := HNI.out; omega)) (by have := hga.out.lens; have := HNI.out; omega))
      go_wp2_with fail
      refine HC.out.mono ?_
      rintro e w2 ⟨v', L, rfl, h1, ⟨h2, h3⟩, h4⟩
      have HF := Lib.hid (show ∃ L, Sorts (gathAll [] ids) L ∧ Gathd (gathAll [] ids) ids.length ∧ MadeT w.heap.size w2 v' L ∧ Kp (fun _ => False) w w2 from ⟨L, h1, hga.out, ⟨h2, by
        rcases h3 with h | ⟨g, cap, e1, e2, e3⟩
        · exact .inl h
        · exact .inr ⟨g, cap, e1, Nat.le_trans hkp.out.size e2, e3⟩⟩, hkp.out.trans h4 (fun _ _ f => f)⟩)
      obtain ⟨a2, c2, rfl, _⟩ := h2.form
      clear h1 h2 h3 h4
      go_wp2_with fail
      go_ret
      obtain ⟨L, hL⟩ := HF.out
      exact ⟨_, L, rfl, hL⟩
end Go.Proofs.Ytoeinolekpmbbaa
