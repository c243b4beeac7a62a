/-
  An unpacker's Bytes, whose answer lies in a row of its own.
-/
import Derived.Test.YtleapcbkkggecaaUc
namespace Go.Proofs.Ytleapcbkkggecaa
open Go.ChangeShapes Go.WideShapes Go.ChangeAt Go.RowKit

/-- what is told is one's own -/
def CntO (w : World) (B u : Nat) (v : Value) (l : List Int) (e : Int) (hd : Nat) (most : Int) (r : Ending) (w' : World) : Prop :=
  ∃ rv, r = .returned rv ∧ OwnB w' w.heap.size rv (cntR l e hd most) ∧ UPost w B u v (cntL l e hd most) (cntE l e hd most) w'
set_option maxHeartbeats 400000 in
theorem uBytes_own (most : Int) (hm : most ≤ 9223372036854775807) {w : World} {B u : Nat} {v : Value} {l : List Int} {e : Int} (h : UK w B u v l e) (hr : Rng l) (hl : l.length ≤ 1000000000) :
    Calls Try.prog 48 #[.pointer (some ⟨u, 0, none⟩), .int .i64 most] w (CntO w B u v l e 4 most) := by
  have HT := Lib.hid (ucounted_any 4 most (by omega) (by omega) hm h hr hl)
  have HU := Lib.hid (lt_of_blk h.cell)
  have HL := Lib.hid (cntR_len l e 4 most)
  clear h hr
  go_enter Try.func48, Try.ntmps48
  go_wp2_with fail
  refine (HT.out).mono ?_
  rintro r w1 ⟨rv, rfl, hs, hp⟩
  have HC := Lib.hid (slclone_any hs (by have := HL.out; omega))
  have HP := Lib.hid hp
  clear hs hp
  go_wp2_with fail
  refine (HC.out).mono ?_
  rintro r w2 ⟨v2, rfl, ho, hk⟩
  have HO := Lib.hid (show OwnB w2 w.heap.size v2 (cntR l e 4 most) from by
    rcases ho with h | ⟨g, cap, rest, e1, h1, h2⟩
    · exact .inl h
    · exact .inr ⟨g, cap, rest, e1, Nat.le_trans HP.out.kp.size h1, h2⟩)
  have HF := Lib.hid (UPost.later HP.out HU.out hk)
  clear ho hk
  go_wp2_with fail
  go_ret
  exact ⟨v2, rfl, HO.out, HF.out⟩
end Go.Proofs.Ytleapcbkkggecaa
