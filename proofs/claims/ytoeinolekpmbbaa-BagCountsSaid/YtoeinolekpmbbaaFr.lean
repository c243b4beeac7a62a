/-
  A range over a function whose loop variable lies in a block of its own, laid anew each round: the caller's law. Nothing of the program stands here.
-/
import Derived.Test.YtoeinolekpmbbaaBaa
import Derived.RangeFuncNested
import Derived.RangeFuncBound
import Derived.RangeFuncFrom
import Derived.RangeFuncLeaves
import Derived.RangeFuncCalls
namespace Go.Proofs.Ytoeinolekpmbbaa
open Go.RowKit

theorem grown_of_kp' {w w' : World} (k : Kp (fun _ => False) w w') : w.grownBy w' none := ⟨k.os, k.tape, k.output, k.size, fun x hx _ => k.block x hx (fun f => f)⟩
/-- from W to W' one new block: these cells -/
def Boxed (t : TypeId) (cs : Array Value) (W W' : World) : Prop := Kp (fun _ => False) W W' ∧ W'.heap[W.heap.size]? = some (.cells cs t (0, 0)) ∧ W'.heap.size = W.heap.size + 1

variable {F : Fence} {n : Nat} {P : Program}
set_option maxHeartbeats 1000000 in
theorem rangeFunc_boxed {α : Type} {g : Operand} {ps : Array Tmp} {assign body : Code} {Q : Exit → Act → World → Prop} {a : Act} {w : World} (t : TypeId) (box : α → Array Value)
    (hro : F.round = none) (h1 : 1 ≤ n) {gf : Nat} {lb : Array Value} (hg : a.eval g = .func (.func gf) #[] lb) (hFg : F.fn gf) (eg : ∀ args w, (callFunc gf args).run P w = .ok (.enter gf args) w)
    {encs : α → Array Value} {R : World → World → Prop} {S Sp : List α → Prop} {N : Nat} {w0 : World} (hseq : SeqStopsK F (n - 1) P gf lb encs R S Sp N w0)
    (hRt : ∀ {A B C : World}, R A B → R B C → R A C) (hRb : ∀ (W : World) (l : Nat) (o o' : Obj), w.heap.size ≤ l → W.heap[l]? = some o → o.isCells = false → R W (W.putObj l o')) (hRk : ∀ {A B : World}, Kp (fun _ => False) A B → R A B) (hb0 : Below w0.heap.size w0 w) (hps : ∀ x, (encs x).size = ps.size)
    (I : List α → World → Prop) (Ix : Code → List α → World → Prop) (hI : OwnFrom w.heap.size I) (hIx : ∀ c, OwnFrom w.heap.size (Ix c)) (h0 : I [] w) (a₁ : α → Nat → Act)
    (hassign : ∀ (l : Nat) (x : α) (W : World) (K : Act → World → Prop), (∀ W', Boxed t (box x) W W' → K (a₁ x W.heap.size) W') →
      assign.wpIn (F.inRound l) (n - 1 - 1) P (Exit.then K (fun _ _ _ => False)) { tmps := (ps.zip (encs x)).foldl (fun t (p, v) => t.setIfInBounds p v) a.tmps, defers := [] } W)
    (hbody : ∀ (l : Nat) (pre : List α) (x : α) (b : Nat) (W : World), I pre W → w.heap.size + 2 ≤ b → W.heap[b]? = some (.cells (box x) t (0, 0)) → W.heap.size = b + 1 → pre.length < N → body.wpIn (F.inRound l) (n - 1 - 1) P (ownPostK R I Ix (pre ++ [x]) W) (a₁ x b) W)
    (hdone : ∀ (D : Nat) (xs : List α) (W : World), w.heap.size ≤ D → S xs → I xs W → W.heap[D]? = some (.deferred (some [])) → Q .normal { a with defers := { target := .collected D, args := #[] } :: a.defers } W)
    (hstop : ∀ (D : Nat) (c : Code) (pre : List α) (W : World), w.heap.size ≤ D → Sp pre → Ix c pre W → W.heap[D]? = some (.deferred (some [])) → c.wpIn F n P Q { a with defers := { target := .collected D, args := #[] } :: a.defers } W) :
    (Code.rangeFunc g ps assign body).wpIn F n P Q a w := by
  refine wpIn_rangeFunc ?_
  intro fn hfn
  rw [hro]
  obtain ⟨rec, hrec⟩ : ∃ rec : LoopState → Option Code → Loop, rec = fun st pe => { state := st, pending := pe, fn, tmps := a.tmps, params := ps, assign, body, defers := w.heap.size } := ⟨_, rfl⟩
  obtain ⟨V, hV⟩ : ∃ V, (w.alloc (.deferred (some []))).alloc (.loop (rec .ready none)) = V := ⟨_, rfl⟩
  have vs : V.heap.size = w.heap.size + 2 := by rw [← hV]; simp
  have vl : V.heap[w.heap.size + 1]? = some (.loop (rec .ready none)) := by
    have := World.alloc_heap_new (w.alloc (.deferred (some []))) (.loop (rec .ready none))
    rw [World.size_alloc] at this
    rw [← hV]; exact this
  have vd : V.heap[w.heap.size]? = some (.deferred (some [])) := by
    rw [← hV]; exact (Below.heap_alloc _ _ _ (by simp)).trans (World.alloc_heap_new w _)
  have vb : Below w0.heap.size w0 V := by
    rw [← hV]; exact hb0.trans ((((Below.refl _ w).alloc (Nat.le_refl _) _).alloc (by simp) _).mono hb0.size)
  have vI : I [] V := by rw [← hV]; exact hI.alloc _ (hI.alloc _ h0)
  have up : ∀ {A : World} {row : Option Nat}, (∀ r, row = some r → V.heap.size ≤ r ∧ ∃ o : Obj, A.heap[r]? = some o ∧ o.isWalk = true) → (∀ r, row = some r → w.heap.size ≤ r ∧ ∃ o : Obj, A.heap[r]? = some o ∧ o.isCells = false) :=
    fun h r e => by obtain ⟨h1, o, h2, h3⟩ := h r e; exact ⟨by omega, o, h2, Obj.not_cells_of_walk h3⟩
  have old : ∀ {A B : World} {row : Option Nat} {k : Nat} {o : Obj}, k < w.heap.size + 2 → A.grownBy B row → (∀ r, row = some r → V.heap.size ≤ r ∧ ∃ o : Obj, A.heap[r]? = some o ∧ o.isWalk = true) → A.heap[k]? = some o → B.heap[k]? = some o :=
    fun hk hg hr ho => by rw [hg.block _ (Array.getElem?_eq_some_iff.1 ho).1 (fun e => by have := (hr _ e.symm).1; omega)]; exact ho
  refine ⟨w.heap.size + 1, [{ target := .collected w.heap.size, args := #[] }], V, { target := .fn (.func gf) lb, args := #[.func (.yield (w.heap.size + 1)) #[] #[]] }, V, gf,
    #[.func (.yield (w.heap.size + 1)) #[] #[]] ++ lb, V, ?_, ?_, ?_, ?_, fun _ => h1, ?_⟩
  · rw [← hV, hrec]; exact run_enterLoop_outer _ _ _ _ _
  · simp only [resolve, hg]
    simp [go_sem]
  · intro f' hf'; simp [Target.leads] at hf'; subst hf'; exact hFg
  · simp [invoke, go_sem, eg]
  · refine (hseq (w.heap.size + 1)
      (fun pre W => I pre W ∧ W.heap[w.heap.size + 1]? = some (.loop (rec .ready none)) ∧ W.heap[w.heap.size]? = some (.deferred (some [])))
      (fun pre W => ∃ c, Ix c pre W ∧ W.heap[w.heap.size + 1]? = some (.loop (rec .done (some c))) ∧ W.heap[w.heap.size]? = some (.deferred (some [])))
      V vb
      (fun s A B row hs hg' hr => ⟨hI s A B row hs.1 hg' (up hr), old (by omega) hg' hr hs.2.1, old (by omega) hg' hr hs.2.2⟩)
      (fun s A B row hs hg' hr => by
        obtain ⟨c, hc, hl, hk⟩ := hs
        exact ⟨c, hIx c s A B row hc hg' (up hr), old (by omega) hg' hr hl, old (by omega) hg' hr hk⟩)
      ?_ ⟨vI, vl, vd⟩).mono ?_
    · rintro pre x W ⟨hi, hl, hk⟩ hlen
      have hlt : w.heap.size + 1 < W.heap.size := (Array.getElem?_eq_some_iff.1 hl).1
      have hy := run_yield (P := P) (args := encs x) hl (by rw [hrec]; exact hps x)
      rw [hrec] at hy
      refine ⟨fn, _, assign, body, hy, roundIn_of_wpIn hfn (hassign _ x W _ ?_)⟩
      clear hy
      rintro W' ⟨kw, bw, sw⟩
      have hl' := kept_blk hl kw (fun f => f)
      have hk' := kept_blk hk kw (fun f => f)
      have hi' : I pre W' := hI _ _ _ none hi (grown_of_kp' kw) (fun r e => by cases e)
      refine ⟨_, run_beginRound hl' (by rw [hrec]), ?_⟩
      obtain ⟨W2, hW2⟩ : ∃ W2, W'.putObj (w.heap.size + 1) (.loop { rec .ready none with state := .busy }) = W2 := ⟨_, rfl⟩
      have r2 : R W W2 := hRt (hRk kw) (by rw [← hW2]; exact hRb _ _ _ _ (by omega) hl' rfl)
      have i2 : I pre W2 := by rw [← hW2]; exact hI.putObj _ hi' (by omega) hl' rfl
      have l2 : W2.heap[w.heap.size + 1]? = some (.loop { rec .ready none with state := .busy }) := by rw [← hW2]; exact World.putObj_heap_same (by omega)
      have d2 : W2.heap[w.heap.size]? = some (.deferred (some [])) := by rw [← hW2]; exact (World.putObj_heap_other (by omega)).trans hk'
      have b2 : W2.heap[W.heap.size]? = some (.cells (box x) t (0, 0)) := by rw [← hW2]; exact (World.putObj_heap_other (by omega)).trans bw
      have s2 : W2.heap.size = W.heap.size + 1 := by rw [← hW2]; simpa [World.putObj] using sw
      show body.wpIn _ _ _ _ _ (W'.putObj (w.heap.size + 1) (.loop { rec .ready none with state := .busy }))
      rw [hW2]
      refine wpIn_mono (hbody (w.heap.size + 1) pre x W.heap.size W2 i2 (by omega) b2 s2 hlen) ?_
      have fin : ∀ (jump : Option Code) (W3 : World), KeepsOthers W2 W3 →
          ∃ W4, (Instr.endRound (w.heap.size + 1) jump).run P W3 = .ok (.bool jump.isNone) W4 ∧ W4 = W3.putObj (w.heap.size + 1) (.loop (rec (if jump.isNone then .ready else .done) jump)) ∧
            W3.heap[w.heap.size + 1]? = some (.loop { rec .ready none with state := .busy }) ∧ W4.heap[w.heap.size + 1]? = some (.loop (rec (if jump.isNone then .ready else .done) jump)) ∧ W4.heap[w.heap.size]? = some (.deferred (some [])) := fun jump W3 k3 => by
        have l3 := k3.same _ _ l2 rfl
        have d3 := k3.same _ _ d2 rfl
        have hr := run_endRound (P := P) jump l3
        rw [hrec] at hr
        refine ⟨_, hr, by rw [hrec], l3, ?_, ?_⟩
        · rw [hrec]; exact World.putObj_heap_same (Array.getElem?_eq_some_iff.1 l3).1
        · exact (World.putObj_heap_other (by omega)).trans d3
      rintro e a3 W3 hp
      cases e with
      | normal =>
        obtain ⟨k3, r3, i3⟩ := hp
        obtain ⟨W4, hr, h4, l3, l4, d4⟩ := fin none W3 k3
        refine ⟨_, _, hr, .inl ⟨rfl, ⟨?_, l4, d4⟩, ?_⟩⟩
        · rw [h4]; exact hI.putObj _ i3 (by omega) l3 rfl
        · rw [h4]; exact hRt r2 (hRt r3 (hRb _ _ _ _ (by omega) l3 rfl))
      | ret =>
        obtain ⟨k3, i3⟩ := hp
        obtain ⟨W4, hr, h4, l3, l4, d4⟩ := fin (some .ret) W3 k3
        exact ⟨_, _, hr, .inr ⟨rfl, ⟨.ret, by rw [h4]; exact (hIx _).putObj _ i3 (by omega) l3 rfl, l4, d4⟩⟩⟩
      | exit id =>
        obtain ⟨k3, i3⟩ := hp
        obtain ⟨W4, hr, h4, l3, l4, d4⟩ := fin (some (.exit id)) W3 k3
        exact ⟨_, _, hr, .inr ⟨rfl, ⟨.exit id, by rw [h4]; exact (hIx _).putObj _ i3 (by omega) l3 rfl, l4, d4⟩⟩⟩
      | goto t =>
        obtain ⟨k3, i3⟩ := hp
        obtain ⟨W4, hr, h4, l3, l4, d4⟩ := fin (some (.goto t)) W3 k3
        exact ⟨_, _, hr, .inr ⟨rfl, ⟨.goto t, by rw [h4]; exact (hIx _).putObj _ i3 (by omega) l3 rfl, l4, d4⟩⟩⟩
      | panic ch => exact hp.elim
      | outgrown => exact hp.elim
    · rintro e W2 ⟨⟨v, rfl⟩, (⟨xs, hS, hi, hl, hk⟩ | ⟨pre, hSp, c, hi, hl, hk⟩)⟩
      · have he := run_endLoop (P := P) hl (by rw [hrec]; simp)
        have hd := (World.putObj_heap_other (o := .loop { rec .ready none with state := .exhausted }) (show w.heap.size ≠ w.heap.size + 1 by omega)).trans hk
        have hi' := hI.putObj (.loop { rec .ready none with state := .exhausted }) hi (by omega) hl rfl
        rw [hrec] at he
        exact ⟨none, _, he, hdone _ xs _ (Nat.le_refl _) hS (by rw [hrec] at hi'; exact hi') (by rw [hrec] at hd; exact hd)⟩
      · have he := run_endLoop (P := P) hl (by rw [hrec]; simp)
        have hd := (World.putObj_heap_other (o := .loop { rec .done (some c) with state := .exhausted }) (show w.heap.size ≠ w.heap.size + 1 by omega)).trans hk
        have hi' := (hIx c).putObj (.loop { rec .done (some c) with state := .exhausted }) hi (by omega) hl rfl
        rw [hrec] at he
        exact ⟨some c, _, he, hstop _ c pre _ (Nat.le_refl _) hSp (by rw [hrec] at hi'; exact hi') (by rw [hrec] at hd; exact hd)⟩
end Go.Proofs.Ytoeinolekpmbbaa
