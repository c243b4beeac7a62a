/-
  A range over a function that ranges over another one: what such an iterator says to its caller, and the caller's law. Nothing of the program stands here.
-/
import Derived.Test.YtpadabmbblcklaaFrame
import Derived.RangeFuncNested
import Derived.RangeFuncBound
import Derived.RangeFuncFrom
import Derived.RangeFuncLeaves
import Derived.RangeFuncCalls
namespace Go.Proofs.Ytpadabmbblcklaa
open Go.RowKit

/-- what a round leaves as it is: all that is no cells but the loop's own record, and each block from A on below T -/
structure Still (l A T : Nat) (W W' : World) : Prop where
  size : W.heap.size ≤ W'.heap.size
  same : ∀ (k : Nat) (o : Obj), k ≠ l → W.heap[k]? = some o → o.isCells = false → W'.heap[k]? = some o
  band : ∀ k, A ≤ k → k < T → W'.heap[k]? = W.heap[k]?
theorem Still.trans {l A T : Nat} {X Y Z : World} (h : Still l A T X Y) (k : Still l A T Y Z) : Still l A T X Z :=
  ⟨Nat.le_trans h.size k.size, fun i o hi ho hc => k.same i o hi (h.same i o hi ho hc) hc, fun i h1 h2 => (k.band i h1 h2).trans (h.band i h1 h2)⟩
theorem Still.put {l A T : Nat} (W : World) (o : Obj) (hl : l < A) : Still l A T W (W.putObj l o) :=
  ⟨by simp [World.putObj], fun k o' hk ho _ => (World.putObj_heap_other hk).trans ho, fun k hk _ => World.putObj_heap_other (by omega)⟩

/-- an iterator that may range over others meanwhile -/
def TellsO {α : Type} (F : Fence) (n : Nat) (P : Program) (g : Nat) (lb : Array Value) (encs : α → Array Value) (R : World → World → Prop) (S Sp : List α → Prop) (N : Nat) (w : World) : Prop :=
  ∀ (l : Nat) (J Jx : Nat → List α → World → Prop) (W : World), Below w.heap.size w W → l < W.heap.size → (∀ T, OwnFrom W.heap.size (J T)) → (∀ T, OwnFrom W.heap.size (Jx T)) →
    (∀ T pre x W1, J T pre W1 → W.heap.size ≤ T → T ≤ W1.heap.size → pre.length < N → YieldAt F (n - 1) P l (encs x) W1 fun e W' =>
      (e = .returned (.bool true) ∧ J T (pre ++ [x]) W' ∧ R W1 W' ∧ Still l W.heap.size T W1 W') ∨ (e = .returned (.bool false) ∧ Jx T (pre ++ [x]) W' ∧ Still l W.heap.size T W1 W')) →
    (∀ T, J T [] W) →
    CallsIn F n P g (#[.func (.yield l) #[] #[]] ++ lb) W fun e W' => (∃ v, e = .returned v) ∧ ((∃ T xs, S xs ∧ J T xs W') ∨ (∃ T pre, Sp pre ∧ Jx T pre W'))

/-- how a round's body may be left -/
def postO {α : Type} (R : World → World → Prop) (I : List α → World → Prop) (Ix : Code → List α → World → Prop) (A T : Nat) (xs : List α) (W : World) : Exit → Act → World → Prop
  | .normal, _, W' => KeepsOthers W W' ∧ (∀ k, A ≤ k → k < T → W'.heap[k]? = W.heap[k]?) ∧ R W W' ∧ I xs W'
  | .ret, _, W' => KeepsOthers W W' ∧ (∀ k, A ≤ k → k < T → W'.heap[k]? = W.heap[k]?) ∧ Ix .ret xs W'
  | .exit id, _, W' => KeepsOthers W W' ∧ (∀ k, A ≤ k → k < T → W'.heap[k]? = W.heap[k]?) ∧ Ix (.exit id) xs W'
  | .goto t, _, W' => KeepsOthers W W' ∧ (∀ k, A ≤ k → k < T → W'.heap[k]? = W.heap[k]?) ∧ Ix (.goto t) xs W'
  | .panic _, _, _ => False
  | .outgrown, _, _ => False

variable {F : Fence} {n : Nat} {P : Program}
set_option maxHeartbeats 1000000 in
theorem rangeFunc_tells {α : Type} {g : Operand} {ps : Array Tmp} {assign body : Code} {Q : Exit → Act → World → Prop} {a : Act} {w : World}
    (hro : F.round = none) (h1 : 1 ≤ n) {gf : Nat} {lb : Array Value} (hg : a.eval g = .func (.func gf) #[] lb) (hFg : F.fn gf) (eg : ∀ args w, (callFunc gf args).run P w = .ok (.enter gf args) w)
    {encs : α → Array Value} {R : World → World → Prop} {S Sp : List α → Prop} {N : Nat} {w0 : World} (hseq : TellsO F (n - 1) P gf lb encs R S Sp N w0)
    (hRt : ∀ {A B C : World}, R A B → R B C → R A C) (hRb : ∀ (W : World) (l : Nat) (o o' : Obj), w.heap.size ≤ l → W.heap[l]? = some o → o.isCells = false → R W (W.putObj l o')) (hb0 : Below w0.heap.size w0 w) (hps : ∀ x, (encs x).size = ps.size)
    (I : Nat → List α → World → Prop) (Ix : Nat → Code → List α → World → Prop) (hI : ∀ T, OwnFrom w.heap.size (I T)) (hIx : ∀ T c, OwnFrom w.heap.size (Ix T c)) (h0 : ∀ T, I T [] w) (a₁ : α → Act)
    (hassign : ∀ (l : Nat) (x : α) (W : World) (K : Act → World → Prop), K (a₁ x) W → assign.wpIn (F.inRound l) (n - 1 - 1) P (Exit.then K (fun _ _ _ => False)) { tmps := (ps.zip (encs x)).foldl (fun t (p, v) => t.setIfInBounds p v) a.tmps, defers := [] } W)
    (hbody : ∀ (l T : Nat) (pre : List α) (x : α) (W : World), I T pre W → w.heap.size + 2 ≤ T → T ≤ W.heap.size → pre.length < N → body.wpIn (F.inRound l) (n - 1 - 1) P (postO R (I T) (Ix T) (w.heap.size + 2) T (pre ++ [x]) W) (a₁ x) W)
    (hdone : ∀ (D T : Nat) (xs : List α) (W : World), w.heap.size ≤ D → S xs → I T xs W → W.heap[D]? = some (.deferred (some [])) → Q .normal { a with defers := { target := .collected D, args := #[] } :: a.defers } W)
    (hstop : ∀ (D T : Nat) (c : Code) (pre : List α) (W : World), w.heap.size ≤ D → Sp pre → Ix T c pre W → W.heap[D]? = some (.deferred (some [])) → c.wpIn F n P Q { a with defers := { target := .collected D, args := #[] } :: a.defers } W) :
    (Code.rangeFunc g ps assign body).wpIn F n P Q a w := by
  refine wpIn_rangeFunc ?_
  intro fn hfn
  rw [hro]
  obtain ⟨rec, hrec⟩ : ∃ rec : LoopState → Option Code → Loop, rec = fun st pe => { state := st, pending := pe, fn, tmps := a.tmps, params := ps, assign, body, defers := w.heap.size } := ⟨_, rfl⟩
  obtain ⟨V, hV⟩ : ∃ V, (w.alloc (.deferred (some []))).alloc (.loop (rec .ready none)) = V := ⟨_, rfl⟩
  have vs : V.heap.size = w.heap.size + 2 := by rw [← hV]; simp
  have vl : V.heap[w.heap.size + 1]? = some (.loop (rec .ready none)) := by
    have := World.alloc_heap_new (w.alloc (.deferred (some []))) (.loop (rec .ready none))
    rw [World.size_alloc] at this
    rw [← hV]; exact this
  have vd : V.heap[w.heap.size]? = some (.deferred (some [])) := by
    rw [← hV]; exact (Below.heap_alloc _ _ _ (by simp)).trans (World.alloc_heap_new w _)
  have vb : Below w0.heap.size w0 V := by
    rw [← hV]; exact hb0.trans ((((Below.refl _ w).alloc (Nat.le_refl _) _).alloc (by simp) _).mono hb0.size)
  have vI : ∀ T, I T [] V := fun T => by rw [← hV]; exact (hI T).alloc _ ((hI T).alloc _ (h0 T))
  have up : ∀ {A : World} {row : Option Nat}, (∀ r, row = some r → V.heap.size ≤ r ∧ ∃ o : Obj, A.heap[r]? = some o ∧ o.isCells = false) → (∀ r, row = some r → w.heap.size ≤ r ∧ ∃ o : Obj, A.heap[r]? = some o ∧ o.isCells = false) :=
    fun h r e => ⟨by have := (h r e).1; omega, (h r e).2⟩
  have old : ∀ {A B : World} {row : Option Nat} {k : Nat} {o : Obj}, k < w.heap.size + 2 → A.grownBy B row → (∀ r, row = some r → V.heap.size ≤ r ∧ ∃ o : Obj, A.heap[r]? = some o ∧ o.isCells = false) → A.heap[k]? = some o → B.heap[k]? = some o :=
    fun hk hg hr ho => by rw [hg.block _ (Array.getElem?_eq_some_iff.1 ho).1 (fun e => by have := (hr _ e.symm).1; omega)]; exact ho
  refine ⟨w.heap.size + 1, [{ target := .collected w.heap.size, args := #[] }], V, { target := .fn (.func gf) lb, args := #[.func (.yield (w.heap.size + 1)) #[] #[]] }, V, gf,
    #[.func (.yield (w.heap.size + 1)) #[] #[]] ++ lb, V, ?_, ?_, ?_, ?_, fun _ => h1, ?_⟩
  · rw [← hV, hrec]; exact run_enterLoop_outer _ _ _ _ _
  · simp only [resolve, hg]
    simp [go_sem]
  · intro f' hf'; simp [Target.leads] at hf'; subst hf'; exact hFg
  · simp [invoke, go_sem, eg]
  · refine (hseq (w.heap.size + 1)
      (fun T pre W => I T pre W ∧ W.heap[w.heap.size + 1]? = some (.loop (rec .ready none)) ∧ W.heap[w.heap.size]? = some (.deferred (some [])))
      (fun T pre W => ∃ c, Ix T c pre W ∧ W.heap[w.heap.size + 1]? = some (.loop (rec .done (some c))) ∧ W.heap[w.heap.size]? = some (.deferred (some [])))
      V vb (by omega)
      (fun T s A B row hs hg' hr => ⟨hI T s A B row hs.1 hg' (up hr), old (by omega) hg' hr hs.2.1, old (by omega) hg' hr hs.2.2⟩)
      (fun T s A B row hs hg' hr => by
        obtain ⟨c, hc, hl, hk⟩ := hs
        exact ⟨c, hIx T c s A B row hc hg' (up hr), old (by omega) hg' hr hl, old (by omega) hg' hr hk⟩)
      ?_ (fun T => ⟨vI T, vl, vd⟩)).mono ?_
    · rintro T pre x W ⟨hi, hl, hk⟩ hT1 hT2 hlen
      rw [vs] at hT1
      rw [vs]
      have hlt : w.heap.size + 1 < W.heap.size := (Array.getElem?_eq_some_iff.1 hl).1
      have hy := run_yield (P := P) (args := encs x) hl (by rw [hrec]; exact hps x)
      rw [hrec] at hy
      refine ⟨fn, _, assign, body, hy, roundIn_of_wpIn hfn (hassign _ x W _ ?_)⟩
      clear hy
      refine ⟨_, run_beginRound hl (by rw [hrec]), ?_⟩
      obtain ⟨W2, hW2⟩ : ∃ W2, W.putObj (w.heap.size + 1) (.loop { rec .ready none with state := .busy }) = W2 := ⟨_, rfl⟩
      have s2 : Still (w.heap.size + 1) (w.heap.size + 2) T W W2 := by rw [← hW2]; exact Still.put W _ (by omega)
      have r2 : R W W2 := by rw [← hW2]; exact hRb _ _ _ _ (by omega) hl rfl
      have i2 : I T pre W2 := by rw [← hW2]; exact (hI T).putObj _ hi (by omega) hl rfl
      have l2 : W2.heap[w.heap.size + 1]? = some (.loop { rec .ready none with state := .busy }) := by rw [← hW2]; exact World.putObj_heap_same hlt
      have d2 : W2.heap[w.heap.size]? = some (.deferred (some [])) := s2.same _ _ (by omega) hk rfl
      show body.wpIn _ _ _ _ _ (W.putObj (w.heap.size + 1) (.loop { rec .ready none with state := .busy }))
      rw [hW2]
      refine wpIn_mono (hbody (w.heap.size + 1) T pre x W2 i2 hT1 (Nat.le_trans hT2 s2.size) hlen) ?_
      have fin : ∀ (jump : Option Code) (W3 : World), KeepsOthers W2 W3 → (∀ k, w.heap.size + 2 ≤ k → k < T → W3.heap[k]? = W2.heap[k]?) →
          ∃ W4, (Instr.endRound (w.heap.size + 1) jump).run P W3 = .ok (.bool jump.isNone) W4 ∧ W4 = W3.putObj (w.heap.size + 1) (.loop (rec (if jump.isNone then .ready else .done) jump)) ∧
            W3.heap[w.heap.size + 1]? = some (.loop { rec .ready none with state := .busy }) ∧ W4.heap[w.heap.size + 1]? = some (.loop (rec (if jump.isNone then .ready else .done) jump)) ∧ W4.heap[w.heap.size]? = some (.deferred (some [])) ∧ Still (w.heap.size + 1) (w.heap.size + 2) T W W4 := fun jump W3 k3 b3 => by
        have l3 := k3.same _ _ l2 rfl
        have d3 := k3.same _ _ d2 rfl
        have hr := run_endRound (P := P) jump l3
        rw [hrec] at hr
        refine ⟨_, hr, by rw [hrec], l3, ?_, ?_, ?_⟩
        · rw [hrec]; exact World.putObj_heap_same (Array.getElem?_eq_some_iff.1 l3).1
        · exact (World.putObj_heap_other (by omega)).trans d3
        · exact (s2.trans ⟨k3.size, fun i o _ ho hc => k3.same i o ho hc, b3⟩).trans (Still.put W3 _ (by omega))
      rintro e a3 W3 hp
      cases e with
      | normal =>
        obtain ⟨k3, b3, r3, i3⟩ := hp
        obtain ⟨W4, hr, h4, l3, l4, d4, s4⟩ := fin none W3 k3 b3
        refine ⟨_, _, hr, .inl ⟨rfl, ⟨?_, l4, d4⟩, ?_, s4⟩⟩
        · rw [h4]; exact (hI T).putObj _ i3 (by omega) l3 rfl
        · rw [h4]; exact hRt r2 (hRt r3 (hRb _ _ _ _ (by omega) l3 rfl))
      | ret =>
        obtain ⟨k3, b3, i3⟩ := hp
        obtain ⟨W4, hr, h4, l3, l4, d4, s4⟩ := fin (some .ret) W3 k3 b3
        exact ⟨_, _, hr, .inr ⟨rfl, ⟨.ret, by rw [h4]; exact (hIx T _).putObj _ i3 (by omega) l3 rfl, l4, d4⟩, s4⟩⟩
      | exit id =>
        obtain ⟨k3, b3, i3⟩ := hp
        obtain ⟨W4, hr, h4, l3, l4, d4, s4⟩ := fin (some (.exit id)) W3 k3 b3
        exact ⟨_, _, hr, .inr ⟨rfl, ⟨.exit id, by rw [h4]; exact (hIx T _).putObj _ i3 (by omega) l3 rfl, l4, d4⟩, s4⟩⟩
      | goto t =>
        obtain ⟨k3, b3, i3⟩ := hp
        obtain ⟨W4, hr, h4, l3, l4, d4, s4⟩ := fin (some (.goto t)) W3 k3 b3
        exact ⟨_, _, hr, .inr ⟨rfl, ⟨.goto t, by rw [h4]; exact (hIx T _).putObj _ i3 (by omega) l3 rfl, l4, d4⟩, s4⟩⟩
      | panic ch => exact hp.elim
      | outgrown => exact hp.elim
    · rintro e W2 ⟨⟨v, rfl⟩, (⟨T, xs, hS, hi, hl, hk⟩ | ⟨T, pre, hSp, c, hi, hl, hk⟩)⟩
      · have he := run_endLoop (P := P) hl (by rw [hrec]; simp)
        have hd := (World.putObj_heap_other (o := .loop { rec .ready none with state := .exhausted }) (show w.heap.size ≠ w.heap.size + 1 by omega)).trans hk
        have hi' := (hI T).putObj (.loop { rec .ready none with state := .exhausted }) hi (by omega) hl rfl
        rw [hrec] at he
        exact ⟨none, _, he, hdone _ T xs _ (Nat.le_refl _) hS (by rw [hrec] at hi'; exact hi') (by rw [hrec] at hd; exact hd)⟩
      · have he := run_endLoop (P := P) hl (by rw [hrec]; simp)
        have hd := (World.putObj_heap_other (o := .loop { rec .done (some c) with state := .exhausted }) (show w.heap.size ≠ w.heap.size + 1 by omega)).trans hk
        have hi' := (hIx T c).putObj (.loop { rec .done (some c) with state := .exhausted }) hi (by omega) hl rfl
        rw [hrec] at he
        exact ⟨some c, _, he, hstop _ T c pre _ (Nat.le_refl _) hSp (by rw [hrec] at hi'; exact hi') (by rw [hrec] at hd; exact hd)⟩
end Go.Proofs.Ytpadabmbblcklaa
