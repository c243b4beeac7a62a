/-
  Contracts of package pack's packer: bytes and texts put, how many there are, the first error, all bytes.
-/
import Derived.Test.YtleapcbkkggecaaPk
import Derived.Lib.LazyBuf
import Derived.Lib.SlBuf
import Derived.Lib.BufferWrite
import Derived.Laws.CopyRow
import Derived.Laws.CopyOwn
import Derived.Deep.AppendSrc
import Derived.Test.YtleapcbkkggecaaSc
namespace Go.Proofs.Ytleapcbkkggecaa
open Go.ChangeShapes Go.WideShapes Go.ChangeAt Go.RowKit

theorem byte1 : (Try.prog.info? 5).map (·.size) = some 1 := by kernel_rfl

/-- copy into the middle of a row -/
def CopyPost (w : World) (g : Nat) (pre : List Value) (xs : List Int) (post : List Value) (w' : World) : Prop :=
  w'.heap[g]? = some (.cells (pre ++ U8s xs ++ post).toArray 5 (0, 0)) ∧ Kp (fun y => y = g) w w' ∧ w'.heap.size = w.heap.size
theorem setRow_kp (w : World) (g : Nat) (cs : Array Value) : Kp (fun y => y = g) w (w.setRow g cs) ∧ (w.setRow g cs).heap.size = w.heap.size :=
  ⟨⟨rfl, rfl, rfl, by simp [World.setRow], fun k _ hne => setRow_other w g k cs hne⟩, by simp [World.setRow]⟩
theorem splice_mid (pre mid post xs : List Value) (h : mid.length = xs.length) : (pre ++ mid ++ post).take pre.length ++ xs ++ (pre ++ mid ++ post).drop (pre.length + xs.length) = pre ++ xs ++ post := by
  rw [← h, List.append_assoc pre mid post, List.take_left, ← List.drop_drop, List.drop_left, List.drop_left]
theorem run_copy_mid (T S : TypeId) (hT : Try.prog.underlying T = some (.slice 5)) {w : World} {g : Nat} {pre mid post : List Value} {xs : List Int} {src : Value} (n c : Nat) (hg : w.heap[g]? = some (.cells (pre ++ mid ++ post).toArray 5 (0, 0)))
    (hm : mid.length = n) (hs : Sees w src xs) (hx : xs.length = n) (hn : 1 ≤ n) :
    ∃ w', (∀ ty, (Builtin.copy_ #[T, S] ty #[.slice (some ⟨g, pre.length, none⟩) n c, src]).run Try.prog w = .ok (.int .i64 n) w') ∧ CopyPost w g pre xs post w' := by
  rcases hs with ⟨_, rfl⟩ | ⟨ad, cap, rfl, _, _, hc⟩
  · simp at hx; omega
  · refine ⟨w.setRow g (pre ++ U8s xs ++ post).toArray, fun ty => ?_, setRow_heap _ _ _ _ _ _ hg, (setRow_kp _ _ _).1, (setRow_kp _ _ _).2⟩
    have h := run_copy_row (P := Try.prog) w T S ty 5 g pre.length n c ad xs.length cap (pre ++ mid ++ post).toArray 5 (U8s xs) hT byte1 hg (by rw [U8s_length, hx]; exact (Nat.min_self n).symm)
      (fun j v hj => by
        obtain ⟨x, hx, rfl⟩ := U8s_inv hj
        exact hc j x hx) (by simp [U8s_length]; omega) (U8s_one xs)
    rw [h, U8s_length, hx]
    rw [show (pre ++ mid ++ post).toArray.toList = pre ++ mid ++ post from rfl, ← hx, ← U8s_length xs, splice_mid _ _ _ _ (by rw [U8s_length]; omega)]
    rfl
theorem run_copy_zero (T S : TypeId) (hT : Try.prog.underlying T = some (.slice 5)) (w : World) (d s : Option Addr) (dl dc sl sc : Nat) (h : dl = 0 ∨ sl = 0) (ty : TypeId) :
    (Builtin.copy_ #[T, S] ty #[.slice d dl dc, .slice s sl sc]).run Try.prog w = .ok (.int .i64 0) w :=
  run_copy_none w T S ty 5 d s dl dc sl sc hT byte1 (by rcases h with h | h <;> simp [h])

theorem grow_zero (base : Option Addr) (l c : Nat) (w : World) (hlc : l ≤ c) (hc63 : c ≤ 9223372036854775807) :
    Calls Try.prog 58 #[.slice base l c, .int .i64 0] w fun e w' => e = .returned (.slice base l c) ∧ w = w' := grow_room base l c 0 w hlc hc63 (by omega) (by omega)
set_option maxHeartbeats 400000 in
theorem room_zero {w : World} {B p : Nat} {v : Value} {lim : Int} {l : List Int} {e : Int} (h : PK w B p v lim l e) :
    Calls Try.prog 51 #[.pointer (some ⟨p, 0, none⟩), .int .i64 0] w fun r w' => (∃ a c, r = .returned (.slice a 0 c)) ∧ PPost w B p v lim (putS lim l e []) w' := by
  by_cases he : e = 0
  · subst he
    have e1 : putS lim l 0 [] = (l, 0) := by
      have := (h.lims rfl).2.2
      unfold putS; rw [if_pos rfl, if_pos (by simpa using this), List.append_nil]
    rw [e1]
    have hl2 := (h.lims rfl).2.2
    have hl1 := (h.lims rfl).2.1
    obtain ⟨c0, c1, c2, c3, cf⟩ := h.cells
    have cf2 := cf 2
    have hgt : ¬ (lim - (l.length : Int) < (0 : Int)) := by omega
    have hlen : ((l.length : Int) : Int) + 0 = l.length := by omega
    rcases h.own with ⟨rfl, rfl⟩ | ⟨g, cap, rest, rfl, h1, h2, h3, h4⟩
    · have hfin : PPost w B p (.slice none 0 0) lim ([], 0) (w.setCell ⟨p, 2, none⟩ (.slice none 0 0)) := by
        refine ⟨.slice none 0 0, ⟨by rw [set_blk h.cell]; rfl, .inl ⟨rfl, rfl⟩, h.ne, h.base, h.lims⟩, (Kp.refl _ _).setCell (p := ⟨p, 2, none⟩) (fun _ => .inl rfl) _, .inl rfl⟩
      have HF := Lib.hid hfin
      have gr := grow_zero none 0 0 w (by omega) (by omega)
      have HG := Lib.hid gr
      clear hfin gr h cf hlen
      go_enter Try.func51, Try.ntmps51
      go_wp2_with (first | (go_at_call 58; go_must (refine (HG.out).mono ?_; rintro e w1 ⟨rfl, rfl⟩)) | go_in)
      go_ret
      exact ⟨⟨none, 0, rfl⟩, HF.out⟩
    · have hcapl : l.length ≤ cap := by rw [List.length_append, U8s_length] at h3; omega
      have hc63 : cap ≤ 9223372036854775807 := h4
      have hfin : PPost w B p (.slice (some ⟨g, 0, none⟩) l.length cap) lim (l, 0) (w.setCell ⟨p, 2, none⟩ (.slice (some ⟨g, 0, none⟩) l.length cap)) := by
        have hpg : g ≠ p := fun e => h.ne (by rw [e]; rfl)
        refine ⟨.slice (some ⟨g, 0, none⟩) l.length cap, ⟨by rw [set_blk h.cell]; rfl, .inr ⟨g, cap, rest, rfl, h1, other_blk h2 hpg _, h3, h4⟩, h.ne, h.base, h.lims⟩, (Kp.refl _ _).setCell (p := ⟨p, 2, none⟩) (fun _ => .inl rfl) _, .inl rfl⟩
      clear h cf hlen h2 h3
      by_cases hcap : cap = l.length
      · subst hcap
        have HF := Lib.hid hfin
        clear hfin
        go_enter Try.func51, Try.ntmps51
        go_wp2_with go_in
        go_ret
        exact ⟨⟨_, _, rfl⟩, HF.out⟩
      · have hcl : l.length < cap := by omega
        have HF := Lib.hid hfin
        clear hfin hcap
        go_enter Try.func51, Try.ntmps51
        go_wp2_with go_in
        go_ret
        exact ⟨⟨_, _, rfl⟩, HF.out⟩
  · refine (room_err 0 h he).mono ?_
    rintro r w' ⟨rfl, rfl⟩
    have e1 : putS lim l e [] = (l, e) := by unfold putS; rw [if_neg he]
    rw [e1]
    exact ⟨⟨none, 0, rfl⟩, v, h, Kp.refl _ _, .inl rfl⟩

theorem sees_form {w : World} {v : Value} {xs : List Int} (h : Sees w v xs) : ∃ a cap, v = .slice a xs.length cap := by
  rcases h with ⟨rfl, rfl⟩ | ⟨ad, cap, rfl, _⟩
  · exact ⟨_, _, rfl⟩
  · exact ⟨_, _, rfl⟩

set_option maxHeartbeats 400000 in
theorem putFixed_any {w : World} {B p : Nat} {v : Value} {lim : Int} {l : List Int} {e : Int} {b : Value} {xs : List Int} (hB : B ≤ w.heap.size) (h : PK w B p v lim l e) (hs : Sees w b xs) (hx : xs.length ≤ 1000000) (hoff : xs ≠ [] → ∀ g, b.ownBlock = some g → ¬ PF p v g) :
    Calls Try.prog 53 #[.pointer (some ⟨p, 0, none⟩), b] w fun r w' => r = .returned (.tuple #[]) ∧ PPost w B p v lim (putS lim l e xs) w' := by
  obtain ⟨a, cap0, rfl⟩ := sees_form hs
  by_cases hn : 1 ≤ xs.length
  · have HR := Lib.hid (room_any xs.length hn hx hB h)
    have HP := Lib.hid h
    have HS := Lib.hid hs
    clear h hs
    go_enter Try.func53, Try.ntmps53
    go_wp2_with fail
    refine (HR.out).mono ?_
    rintro r w1 (⟨rfl, hf, g, cap, mid, post, rfl, hp, hg, hmid, hc, hm, hne, hBg, hnew, hk⟩ | ⟨rfl, hpp⟩)
    · have hs1 := (HS.out).kept hk hoff
      obtain ⟨w2, hcp, hg2, k2, _⟩ := run_copy_mid 29 29 Try.underlying29 xs.length (cap - l.length) hg hmid hs1 rfl hn
      have hfp := fit_post (w := w) (w2 := w2) ⟨((HP.out).lims rfl).1, ((HP.out).lims rfl).2.1⟩ hf hp hmid hc hm hne hBg HP.out.base hnew hk xs rfl hg2 k2
      have HFF := Lib.hid hfp
      rw [U8s_length] at hcp
      clear hp hg hc hmid hnew hf hfp hg2 k2 hs1
      go_wp2_with fail
      go_end0
      exact ⟨rfl, HFF.out⟩
    · have HPP := Lib.hid (hpp xs rfl)
      have hcp := run_copy_zero 29 29 Try.underlying29 w1 none a 0 0 xs.length cap0 (.inl rfl)
      clear hpp
      go_wp2_with fail
      go_end0
      exact ⟨rfl, HPP.out⟩
  · obtain rfl : xs = [] := List.eq_nil_of_length_eq_zero (by omega)
    have HR := Lib.hid (room_zero h)
    clear h hs
    simp only [List.length_nil]
    go_enter Try.func53, Try.ntmps53
    go_wp2_with fail
    refine (HR.out).mono ?_
    rintro r w1 ⟨⟨a1, c1, rfl⟩, hpp⟩
    have HPP := Lib.hid hpp
    have hcp := run_copy_zero 29 29 Try.underlying29 w1 a1 a 0 c1 0 cap0 (.inl rfl)
    clear hpp
    go_wp2_with fail
    go_end0
    exact ⟨rfl, HPP.out⟩

set_option maxHeartbeats 1000000 in
theorem putBytes_any {w : World} {B p : Nat} {v : Value} {lim : Int} {l : List Int} {e : Int} {b : Value} {xs : List Int} (hB : B ≤ w.heap.size) (h : PK w B p v lim l e) (hs : Sees w b xs) (hx : xs.length ≤ 900000) (hoff : xs ≠ [] → ∀ g, b.ownBlock = some g → ¬ PF p v g) :
    Calls Try.prog 54 #[.pointer (some ⟨p, 0, none⟩), b] w fun r w' => r = .returned (.tuple #[]) ∧ PPost w B p v lim (putS lim l e (be 4 xs.length ++ xs)) w' := by
  obtain ⟨a, cap0, rfl⟩ := sees_form hs
  have hr0 : Calls Try.prog 51 #[.pointer (some ⟨p, 0, none⟩), .int .i64 (4 + (xs.length : Int))] w (RoomAny w B p v lim l e (4 + xs.length)) := by
    have e1 : (4 + (xs.length : Int)) = ((4 + xs.length : Nat) : Int) := by omega
    rw [e1]; exact room_any _ (by omega) (by omega) hB h
  have HR := Lib.hid hr0
  have HP := Lib.hid h
  have HS := Lib.hid hs
  have hbl : (be 4 (xs.length : Int) ++ xs).length = 4 + xs.length := by rw [List.length_append, be_length]
  have HBL := Lib.hid hbl
  clear h hs hr0 hbl
  go_enter Try.func54, Try.ntmps54
  go_wp2_with fail
  refine (HR.out).mono ?_
  rintro r w1 (⟨rfl, hf, g, cap, mid, post, rfl, hp, hg, hmid, hc, hm, hne, hBg, hnew, hk⟩ | ⟨rfl, hpp⟩)
  · have hs1 := (HS.out).kept hk hoff
    have hlen : l.length + (4 + xs.length) + post.length = cap := by rw [← hc]; simp [U8s_length, hmid, Nat.add_assoc]
    have hle : l.length + (4 + xs.length) ≤ cap := by omega
    have hm63 : cap ≤ 9223372036854775807 := hm
    have hg1 : w1.heap[g]? = some (.cells (U8s l ++ mid.take 4 ++ (mid.drop 4 ++ post)).toArray 5 (0, 0)) := by
      rw [hg, List.append_assoc (U8s l) (mid.take 4), ← List.append_assoc (mid.take 4), List.take_append_drop, List.append_assoc]
    have hset := fun c => setNumber_any g 4 c (U8s l) (mid.take 4) (mid.drop 4 ++ post) (xs.length : Int) (by omega) (by omega) w1 (by rw [List.length_take]; omega) (by omega) hg1
    rw [U8s_length] at hset
    have HSN := Lib.hid hset
    have HFF := Lib.hid (fun w2 hx h2 k2 => fit_post (w := w) (w2 := w2) ⟨((HP.out).lims rfl).1, ((HP.out).lims rfl).2.1⟩ hf hp hmid hc hm hne hBg HP.out.base hnew hk (be 4 (xs.length : Int) ++ xs) hx h2 k2)
    have HM := Lib.hid hmid
    have HS1 := Lib.hid hs1
    have HF := Lib.hid hf
    have HB := Lib.hid (fun (hxne : xs ≠ []) (g' : Nat) (e1 : (Value.slice a xs.length cap0).ownBlock = some g') (e2 : g' = g) => (hoff hxne g' e1 (by
      subst e2
      rcases hnew with h | h
      · exact .inr h
      · have := (HS.out).lt hxne _ e1; omega) : False))
    clear hp hg hc hmid hnew hf hset hs1 hg1 hlen hoff
    go_wp2_with fail
    refine (HSN.out _).mono ?_
    rintro r w2 ⟨rfl, h2, k2, _⟩
    have hg2 : w2.heap[g]? = some (.cells (U8s (l ++ be 4 (xs.length : Int)) ++ mid.drop 4 ++ post).toArray 5 (0, 0)) := by
      rw [h2, U8s_append, List.append_assoc (U8s l ++ _)]
    have hs2 := (HS1.out).kept k2 (fun hne g' e1 e2 => HB.out hne g' e1 e2)
    by_cases hn : 1 ≤ xs.length
    · have hmd : (mid.drop 4).length = xs.length := by rw [List.length_drop, HM.out]; omega
      obtain ⟨w3, hcp, hg3, k3, _⟩ := run_copy_mid 29 29 Try.underlying29 xs.length (cap - (l.length + 4)) hg2 hmd hs2 rfl hn
      have HG := Lib.hid (HFF.out w3 HBL.out (by rw [hg3, U8s_append, U8s_append, ← List.append_assoc]) (k2.trans k3 (fun _ _ h => h)))
      rw [U8s_length, List.length_append, be_length] at hcp
      have hcc : cap - (l.length + 4) = cap - l.length - 4 := by omega
      rw [hcc] at hcp
      clear h2 hg2 hs2 hmd hg3 k3 k2 hcc
      go_wp2_with fail
      go_end0
      exact ⟨rfl, HG.out⟩
    · obtain rfl : xs = [] := List.eq_nil_of_length_eq_zero (by omega)
      have hcp := fun d c => run_copy_zero 29 29 Try.underlying29 w2 d a 0 c 0 cap0 (.inl rfl)
      have hmd : mid.drop 4 = [] := List.eq_nil_of_length_eq_zero (by have := HM.out; rw [List.length_drop]; simp at this; omega)
      have HG := Lib.hid (HFF.out w2 HBL.out (by rw [hg2, hmd]; simp [U8s_append]) k2)
      clear h2 hg2 hs2 hmd k2
      by_cases hcap : cap = l.length + 4
      · subst hcap
        go_wp2_with fail
        go_end0
        exact ⟨rfl, HG.out⟩
      · have hcl : l.length + 4 < cap := by simp at hle; omega
        clear hcap
        go_wp2_with fail
        go_end0
        exact ⟨rfl, HG.out⟩
  · have HPP := Lib.hid (hpp _ HBL.out)
    clear hpp
    go_wp2_with fail
    go_end0
    exact ⟨rfl, HPP.out⟩

/-! ### copies -/
end Go.Proofs.Ytleapcbkkggecaa
