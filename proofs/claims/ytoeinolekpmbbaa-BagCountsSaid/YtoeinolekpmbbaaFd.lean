/-
  The sort of votes by their names: the closure, and what the library's sort makes of a row of one's own.
-/
import Derived.Test.YtoeinolekpmbbaaFb
import Derived.Test.YtoeinolekpmbbaaFs
namespace Go.Proofs.Ytoeinolekpmbbaa
open Go.ChangeShapes Go.WideShapes Go.ChangeAt Go.RowKit

/-- a vote that can be -/
def WVt : Type := {x : Vt // x.wf}
theorem rng_zero : Rng (List.replicate 32 0) := fun x hx => by rw [List.eq_of_mem_replicate hx]; omega
theorem vt0_wf : vt0.wf := ⟨⟨by simp [vt0], rng_zero⟩, by decide, by decide⟩
instance : Inhabited WVt := ⟨⟨vt0, vt0_wf⟩⟩
def encW (x : WVt) : List Value := vtC x.1
def cfW (x y : WVt) : Int := cmpI x.1.id y.1.id
theorem swoW : Go.Sort.SWO (Go.Proofs.ltOf cfW) where
  irrefl x := decide_eq_false (cmpI_irr _)
  trans x y z h1 h2 := decide_eq_true (cmpI_lt_trans (of_decide_eq_true h1) (of_decide_eq_true h2))
  ntrans x y z h1 h2 := decide_eq_false (by
    have g1 : ¬ cmpI x.1.id y.1.id < 0 := of_decide_eq_false h1
    have g2 : ¬ cmpI y.1.id z.1.id < 0 := of_decide_eq_false h2
    have g3 := cmpI_trans' x.1.id y.1.id z.1.id (by omega) (by omega)
    show ¬ cmpI x.1.id z.1.id < 0
    omega)

set_option maxRecDepth 100000 in
set_option maxHeartbeats 800000 in
theorem rclo_any (x y : Vt) (hx : x.wf) (hy : y.wf) (w : World) :
    Calls Try.prog 48 #[.agg (vtC x).toArray, .agg (vtC y).toArray] w fun e w' => e = .returned (.int .i64 (cmpI x.id y.id)) ∧ ∃ q os', w' = Go.Sort.grow (w.drewN q) os' := by
  have h1 := old_blk (new_blk w (.cells (vtC x).toArray 33)) (.cells (vtC y).toArray 33)
  have h2 := new_blk (w.alloc (.cells (vtC x).toArray 33)) (.cells (vtC y).toArray 33)
  rw [World.size_alloc] at h2
  have H1 := Lib.hid (range_pre (range_blk h1) : World.rangeAt _ _ _ (U8s x.id))
  have H2 := Lib.hid (range_pre (range_blk h2) : World.rangeAt _ _ _ (U8s y.id))
  have I1 := Lib.hid (infoIdL hx.nm.len)
  have I2 := Lib.hid (infoIdL hy.nm.len)
  have HQ := Lib.hid (fun w => bcmp_any x.id y.id hx.nm hy.nm w)
  clear h1 h2 hx hy
  go_enter Try.func48, Try.ntmps48
  go_wp2_with (first
    | ((with_reducible refine at_dst 6 ?_); refine wpList_load_mid rfl 27 _ rfl w.heap.size 0 rfl (U8s x.id) _ H1.out Try.underlying27 rfl I1.out ?_)
    | ((with_reducible refine at_dst 8 ?_); refine wpList_load_mid rfl 27 _ rfl (w.heap.size + 1) 0 rfl (U8s y.id) _ H2.out Try.underlying27 rfl I2.out ?_))
  refine (HQ.out _).mono ?_
  rintro e w1 ⟨rfl, n, rfl⟩
  go_wp2_with fail
  go_ret
  refine ⟨rfl, n, #[.cells (vtC x).toArray 33, .cells (vtC y).toArray 33, .cells (U8s x.id).toArray 27, .cells (U8s y.id).toArray 27], ?_⟩
  rw [Go.Sort.alloc_eq_grow, Go.Sort.alloc_eq_grow, Go.Sort.alloc_eq_grow, Go.Sort.alloc_eq_grow, Go.Sort.grow_grow, Go.Sort.grow_grow, Go.Sort.grow_grow]
  rfl

/-! votes' cells, one behind the other -/
def flatT (l : List Vt) : List Value := l.flatMap vtC
theorem flatT_append (a b : List Vt) : flatT (a ++ b) = flatT a ++ flatT b := by simp [flatT]
theorem flatT_length {l : List Vt} (h : ∀ x ∈ l, x.id.length = 32) : (flatT l).length = l.length * 33 := by
  induction l with
  | nil => rfl
  | cons x r ih =>
    have h1 := ih (fun y hy => h y (List.mem_cons_of_mem _ hy))
    have h2 := vtC_length (h x (List.mem_cons_self ..))
    rw [show flatT (x :: r) = vtC x ++ flatT r from rfl, List.length_append, h1, h2, List.length_cons]; omega
theorem flatT_get : ∀ {l : List Vt}, (∀ x ∈ l, x.id.length = 32) → ∀ {i : Nat} {x : Vt}, l[i]? = some x → ∀ {c : Nat}, c < 33 → (flatT l)[i * 33 + c]? = (vtC x)[c]?
  | [], _, _, _, h, _, _ => by cases h
  | y :: r, hl, i, x, h, c, hc => by
    have h2 := vtC_length (hl y (List.mem_cons_self ..))
    rw [show flatT (y :: r) = vtC y ++ flatT r from rfl]
    cases i with
    | zero =>
      cases h
      rw [List.getElem?_append_left (by omega), Nat.zero_mul, Nat.zero_add]
    | succ i =>
      rw [List.getElem?_append_right (by omega), h2, show (i + 1) * 33 + c - 33 = i * 33 + c by omega]
      exact flatT_get (fun z hz => hl z (List.mem_cons_of_mem _ hz)) (by simpa using h) hc
theorem flatT_one (l : List Vt) : ∀ u ∈ flatT l, u.oneCell' = true := fun u hu => by
  obtain ⟨x, _, hx⟩ := List.mem_flatMap.1 hu
  exact vtC_one x u hx

/-- these votes, as votes that can be -/
def wrapT (l : List Vt) (h : TOk l) : Array WVt := (l.attachWith Vt.wf h).toArray
theorem wrapT_size (l : List Vt) (h : TOk l) : (wrapT l h).size = l.length := by
  show (l.attachWith Vt.wf h).length = l.length
  exact List.length_attachWith
theorem wrapT_list (l : List Vt) (h : TOk l) : (wrapT l h).toList.map (fun x : WVt => x.1) = l := by
  show (l.attachWith Vt.wf h).map (fun x => x.1) = l
  exact List.attachWith_map_subtype_val h
theorem wrapT_get {l : List Vt} {h : TOk l} {i : Nat} {x : Vt} (hi : l[i]? = some x) : ((wrapT l h)[i]!).1 = x := by
  obtain ⟨hl, _⟩ := List.getElem?_eq_some_iff.1 hi
  have hs : i < (wrapT l h).size := by rw [wrapT_size]; exact hl
  rw [getElem!_pos _ i hs]
  have e1 : (wrapT l h).toList[i]? = some ((wrapT l h)[i]) := by rw [Array.getElem?_toList, Array.getElem?_eq_getElem hs]
  have e2 : ((wrapT l h).toList.map (fun x : WVt => x.1))[i]? = some ((wrapT l h)[i]).1 := by rw [List.getElem?_map, e1]; rfl
  rw [wrapT_list, hi] at e2
  exact (Option.some.inj e2).symm
theorem kp_sortK {α : Type} [Inhabited α] (enc : α → List Value) (k : Nat) (w : World) (g off n : Nat) (d : Array α) (os : Array Obj) : Kp (fun x => x = g) w (Go.Proofs.sortWorldK enc k w g off n d os) := by
  refine ⟨rfl, rfl, rfl, ?_, fun x hx hne => ?_⟩
  · unfold Go.Proofs.sortWorldK Go.Sort.putRowK
    rw [Go.Sort.size_grow, Go.Sort.size_putRow]
    exact Nat.le_add_right _ _
  · show ((w.heap.modify g _) ++ os)[x]? = _
    rw [Array.getElem?_append_left (by simpa using hx), Array.getElem?_modify, if_neg (Ne.symm hne)]

set_option maxRecDepth 100000 in
theorem sortT_any {w : World} {l : List Vt} {g cap t : Nat} {rest : List Value} (hw : TOk l) (hb : w.heap[g]? = some (.cells (flatT l ++ rest).toArray t (0, 0))) (hl : l.length ≤ 1000000) :
    Calls Try.prog 47 #[.slice (some ⟨g, 0, none⟩) l.length cap, .func (.func 48) #[] #[]] w fun e w' => e = .returned (.tuple #[]) ∧
      ∃ l' : List Vt, l'.Perm l ∧ l'.Pairwise (fun x y => ¬ cmpI y.id x.id < 0) ∧ (∀ (i : Nat) (x : Vt), l'[i]? = some x → w'.rangeAt g (i * 33) (vtC x)) ∧ (∀ j, j < l.length * 33 → w'.frozen? ⟨g, j, none⟩ = false) ∧ Kp (fun k => k = g) w w' := by
  have hlen : ∀ x ∈ l, x.id.length = 32 := fun x hx => (hw x hx).nm.len
  have hH : Go.Sort.HoldsK encW 33 w g 0 (wrapT l hw) := by
    intro j hj
    rw [Go.Sort.size_flatK, wrapT_size] at hj
    have hj2 : j / 33 < l.length := by omega
    have hg := List.getElem?_eq_getElem hj2
    have hd := wrapT_get (h := hw) hg
    rw [Go.Sort.get_flatK _ _ _ _ (by rw [wrapT_size]; exact hj), Nat.zero_add, cell_blk hb, free_blk hb, List.getElem?_toArray, List.getElem?_append_left (by rw [flatT_length hlen]; exact hj)]
    have hf := flatT_get hlen hg (c := j % 33) (Nat.mod_lt _ (by omega))
    rw [show j / 33 * 33 + j % 33 = j by omega] at hf
    refine ⟨?_, rfl⟩
    rw [hf]
    have hd2 : encW ((wrapT l hw)[j / 33]!) = vtC l[j / 33] := congrArg vtC hd
    rw [hd2]
    have hc : j % 33 < (vtC l[j / 33]).length := by rw [vtC_length (hlen _ (List.getElem_mem hj2))]; omega
    rw [List.getElem?_eq_getElem hc, getElem!_pos (vtC l[j / 33]) (j % 33) hc]; rfl
  have hcmp : Go.Proofs.CmpLays Try.prog 48 #[] encW 33 cfW g 0 (wrapT l hw).size w := fun m os dk _ x y => rclo_any x.1 y.1 x.2 y.2 _
  have hlt := lt_of_blk hb
  have hc := Go.Proofs.AnyQ.slices_SortFunc sortT 33 (by intro w; kernel_rfl) (by intro w; kernel_rfl) encW (fun x => vtC_length x.2.nm.len) (fun x => vtC_one x.1) cfW swoW 48 #[] g 0 cap (wrapT l hw) w
    (enters_of Try.func48 (by kernel_rfl) rfl) hcmp hH hlt (by rw [wrapT_size]; omega)
  rw [wrapT_size] at hc
  refine Calls.mono (show Calls Try.prog 47 _ w _ from hc) ?_
  rintro e w' ⟨rfl, d', n, os, hp, hso, rfl⟩
  obtain ⟨hsz, _, hp2⟩ := hp
  rw [wrapT_size] at hsz
  have e1 : (d'.extract 0 l.length).toList = d'.toList := by rw [← hsz, Array.extract_size]
  have e2 : ((wrapT l hw).extract 0 l.length).toList = (wrapT l hw).toList := by
    have := wrapT_size l hw
    rw [show (wrapT l hw).extract 0 l.length = wrapT l hw from by rw [← this, Array.extract_size]]
  rw [e1, e2] at hp2
  have hH2 := ((Go.Proofs.SWK.start hH).on hlt n d' os (by rw [hsz, wrapT_size])).holds hlt hH (by rw [hsz, wrapT_size])
  have hfree : ∀ j, j < l.length * 33 → (Go.Proofs.sortWorldK encW 33 w g 0 n d' os).frozen? ⟨g, j, none⟩ = false := fun j hj => by
    have := (hH2 j (by rw [Go.Sort.size_flatK, hsz]; exact hj)).2
    rwa [Nat.zero_add] at this
  refine ⟨rfl, d'.toList.map (fun x : WVt => x.1), ?_, ?_, ?_, hfree, kp_sortK ..⟩
  · have := hp2.map (fun x : WVt => x.1)
    rwa [wrapT_list] at this
  · refine List.pairwise_map.2 (List.pairwise_iff_getElem.2 (fun i j hi hj hij => ?_))
    have hi' : i < d'.size := by simpa using hi
    have hj' : j < d'.size := by simpa using hj
    have := hso i j (Nat.zero_le _) hij (by omega)
    rw [getElem!_pos _ i hi', getElem!_pos _ j hj'] at this
    exact of_decide_eq_false this
  · intro i x hi c u hc
    rw [List.getElem?_map] at hi
    obtain ⟨y, hy, rfl⟩ := Option.map_eq_some_iff.1 hi
    have hil : i < d'.size := by simpa using (List.getElem?_eq_some_iff.1 hy).1
    have hcl : c < 33 := by have := (List.getElem?_eq_some_iff.1 hc).1; rwa [vtC_length y.2.nm.len] at this
    have := (Go.Sort.HoldsK.cell hH2 hil hcl).1
    rw [Nat.zero_add] at this
    rw [this, getElem!_pos _ i hil]
    have hyd : d'[i] = y := by
      have h' := (List.getElem?_eq_some_iff.1 hy).2
      simpa using h'
    rw [hyd]
    show some (vtC y.1)[c]! = some u
    obtain ⟨hcc, e⟩ := List.getElem?_eq_some_iff.1 hc
    rw [getElem!_pos _ c hcc, e]
end Go.Proofs.Ytoeinolekpmbbaa
