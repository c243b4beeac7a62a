/-
  Contract of bytes.Clone.
-/
import Derived.Test.YtleapcbkkggecaaAp
import Derived.Laws.CopyRow
import Derived.Laws.CopyOwn
import Derived.Lib.LazyBuf
import Derived.Lib.SlBuf
import Derived.Lib.BufferWrite
namespace Go.Proofs.Ytleapcbkkggecaa
open Go.ChangeShapes Go.WideShapes Go.ChangeAt Go.RowKit

set_option maxHeartbeats 400000 in
theorem bclone_any {w : World} {v : Value} {l : List Int} (hs : Sees w v l) (hx : l.length ≤ 1000000000) :
    Calls Try.prog 15 #[v] w (NewB w l) := by
  by_cases hnil : v = .slice none 0 0
  · subst hnil
    have hl : l = [] := by
      rcases hs with ⟨_, h⟩ | ⟨ad, cap, h, _⟩
      · exact h
      · cases h
    subst hl
    clear hs
    have hq := fun (w : World) (a : Option Addr) (n c : Nat) => Lib.run_eql_slice_nil (P := Try.prog) w 29 5 a n c 0 0 Try.underlying29
    go_enter Try.func15, Try.ntmps15
    go_wp2_with fail
    go_ret
    exact ⟨_, rfl, .inl ⟨rfl, rfl⟩, Kp.refl _ _⟩
  · have hk : Kp (fun _ => False) w (w.alloc (.cells #[] 5)) := (Kp.refl _ _).alloc _
    have hs1 : Sees (w.alloc (.cells #[] 5)) v l := hs.kept hk (by simp)
    have hform : ∃ ad cap, v = .slice (some ad) l.length cap := by
      rcases hs with ⟨h, _⟩ | ⟨ad, cap, h, _⟩
      · exact absurd h hnil
      · exact ⟨_, _, h⟩
    obtain ⟨ad, cap, rfl⟩ := hform
    by_cases hn : 1 ≤ l.length
    · obtain ⟨G, rest, w2, hap, h2, h3, h4, k2⟩ := run_append_new hs1 hn hx (some ⟨w.heap.size, 0, none⟩)
      have hfin : NewB w l (.returned (.slice (some ⟨(w.alloc (.cells #[] 5)).heap.size, 0, none⟩) l.length G)) w2 :=
        ⟨_, rfl, .inr ⟨_, G, rest, rfl, by simp, h2, h3, h4⟩, hk.trans k2 (fun _ _ h => h)⟩
      have HF := Lib.hid hfin
      rw [World.size_alloc] at HF hap
      clear hfin h2 h3 k2 hs1 hs hk hnil
      have hq := fun (w : World) (a : Option Addr) (n c : Nat) => Lib.run_eql_slice_nil (P := Try.prog) w 29 5 a n c 0 0 Try.underlying29
      go_enter Try.func15, Try.ntmps15
      go_wp2_with (at_builtin; refine Lib.wpList_append_run _ rfl _ _ _ _ rfl _ _ rfl rfl _ _ (hap _) ?_)
      go_ret
      exact HF.out
    · obtain rfl : l = [] := List.eq_nil_of_length_eq_zero (by omega)
      have hap := run_append_none hs1 (some ⟨w.heap.size, 0, none⟩)
      have hfin : NewB w [] (.returned (.slice (some ⟨w.heap.size, 0, none⟩) 0 0)) (w.alloc (.cells #[] 5)) :=
        ⟨_, rfl, .inr ⟨_, 0, [], rfl, Nat.le_refl _, by simpa [U8s] using new_blk w _, by simp [U8s], Nat.zero_le _⟩, hk⟩
      have HF := Lib.hid hfin
      clear hfin hs1 hs hk hnil
      have hq := fun (w : World) (a : Option Addr) (n c : Nat) => Lib.run_eql_slice_nil (P := Try.prog) w 29 5 a n c 0 0 Try.underlying29
      go_enter Try.func15, Try.ntmps15
      go_wp2_with fail
      go_ret
      exact HF.out

end Go.Proofs.Ytleapcbkkggecaa
