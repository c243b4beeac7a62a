/-
  Contracts of package pack's packer: a new one, a text put, how many bytes there are, the first error, all bytes.
-/
import Derived.Test.YtahdnapinlbflaaPkB
namespace Go.Proofs.Ytahdnapinlbflaa
open Go.ChangeShapes Go.WideShapes Go.ChangeAt Go.RowKit

theorem PK.form {w : World} {B p : Nat} {v : Value} {lim : Int} {l : List Int} {e : Int} (h : PK w B p v lim l e) : ∃ a cap, v = .slice a l.length cap := sees_form h.own.sees

set_option maxHeartbeats 400000 in
theorem newP_any (n : Int) {w : World} {B : Nat} (hB : B ≤ w.heap.size) :
    Calls Try.prog 11 #[.int .i64 n] w fun e w' => e = .returned (.pointer (some ⟨w.heap.size, 0, none⟩)) ∧ PK w' B w.heap.size (.slice none 0 0) n [] (if 0 ≤ n ∧ n ≤ 8192 then 0 else 1) ∧ Kp (fun _ => False) w w' ∧ w'.heap.size = w.heap.size + 1 := by
  have hk : Kp (fun _ => False) w (w.alloc (.cells #[.bool true, .int .i64 n, .slice none 0 0, .int .i64 0] 62)) := (Kp.refl _ _).alloc _
  have hnew := new_blk w (.cells #[.bool true, .int .i64 n, .slice none 0 0, .int .i64 0] 62)
  by_cases hb : 0 ≤ n ∧ n ≤ 8192
  · rw [if_pos hb]
    have hp : PK (w.alloc (.cells #[.bool true, .int .i64 n, .slice none 0 0, .int .i64 0] 62)) B w.heap.size (.slice none 0 0) n [] 0 :=
      ⟨hnew, .inl ⟨rfl, rfl⟩, (fun h => by cases h), hB, fun _ => ⟨hb.1, hb.2, hb.1⟩⟩
    obtain ⟨h0, h1⟩ := hb
    have HP := Lib.hid hp
    clear hp hnew
    go_enter Try.func11, Try.ntmps11
    go_wp2
    go_ret
    exact ⟨rfl, HP.out, hk, by simp⟩
  · rw [if_neg hb]
    have hp : PK (w.alloc (.cells #[.bool true, .int .i64 n, .slice none 0 0, .int .i64 1] 62)) B w.heap.size (.slice none 0 0) n [] 1 :=
      ⟨new_blk w _, .inl ⟨rfl, rfl⟩, (fun h => by cases h), hB, (fun h => by cases h)⟩
    have hk2 : Kp (fun _ => False) w (w.alloc (.cells #[.bool true, .int .i64 n, .slice none 0 0, .int .i64 1] 62)) := (Kp.refl _ _).alloc _
    have HP := Lib.hid hp
    have HK := Lib.hid hk2
    have hor : n < 0 ∨ 0 ≤ n ∧ 8192 < n := by omega
    clear hp hnew hk hk2 hb
    rcases hor with h0 | ⟨h0, h1⟩
    all_goals
      go_enter Try.func11, Try.ntmps11
      go_wp2
      go_ret
      exact ⟨rfl, HP.out, HK.out, by simp⟩

set_option maxHeartbeats 400000 in
theorem perr_any {w : World} {B p : Nat} {v : Value} {lim : Int} {l : List Int} {e : Int} (h : PK w B p v lim l e) :
    Calls Try.prog 15 #[.pointer (some ⟨p, 0, none⟩)] w fun r w' => r = .returned (.int .i64 e) ∧ w = w' := by
  obtain ⟨c0, c1, c2, c3, cf⟩ := h.cells
  clear h cf
  go_enter Try.func15, Try.ntmps15
  go_wp2
  go_ret
  exact ⟨rfl, rfl⟩

set_option maxHeartbeats 400000 in
theorem plen_any {w : World} {B p : Nat} {v : Value} {lim : Int} {l : List Int} {e : Int} (h : PK w B p v lim l e) :
    Calls Try.prog 14 #[.pointer (some ⟨p, 0, none⟩)] w fun r w' => r = .returned (.int .i64 l.length) ∧ w = w' := by
  obtain ⟨c0, c1, c2, c3, cf⟩ := h.cells
  obtain ⟨a, cap, rfl⟩ := h.form
  clear h cf
  go_enter Try.func14, Try.ntmps14
  go_wp2
  go_ret
  exact ⟨rfl, rfl⟩

/-- all bytes, in new memory, or the error -/
def OutP (w : World) (l : List Int) (e : Int) (r : Ending) (w' : World) : Prop :=
  ∃ v', r = .returned (.tuple #[v', .int .i64 e]) ∧ OwnB w' w.heap.size v' (if e = 0 then l else []) ∧ Kp (fun _ => False) w w'
set_option maxHeartbeats 400000 in
theorem pout_any {w : World} {B p : Nat} {v : Value} {lim : Int} {l : List Int} {e : Int} (h : PK w B p v lim l e) :
    Calls Try.prog 16 #[.pointer (some ⟨p, 0, none⟩)] w (OutP w l e) := by
  obtain ⟨c0, c1, c2, c3, cf⟩ := h.cells
  by_cases he : e = 0
  · subst he
    have HC := Lib.hid (clone_any h.own.sees (by have := h.lims rfl; omega))
    clear h cf
    go_enter Try.func16, Try.ntmps16
    go_wp2_with (first | (go_at_call 48; go_must (refine (HC.out).mono ?_; rintro e w1 ⟨v', rfl, hown, hk⟩; have HO := Lib.hid hown; clear hown)) | go_in)
    go_ret2
    exact ⟨_, rfl, by rw [if_pos rfl]; exact HO.out, hk⟩
  · have hb : (e != 0) = true := by simpa using he
    clear h cf
    go_enter Try.func16, Try.ntmps16
    go_wp2
    go_ret2
    exact ⟨_, rfl, by rw [if_neg he]; exact .inl ⟨rfl, rfl⟩, Kp.refl _ _⟩

/-! ### texts -/
/-- a string's bytes as numbers -/
def Bys (s : ByteArray) : List Int := s.data.toList.map fun b => (b.toNat : Int)
theorem Bys_length (s : ByteArray) : (Bys s).length = s.size := by
  unfold Bys; rw [List.length_map, Array.length_toList]; rfl
theorem Bys_cells (s : ByteArray) : U8s (Bys s) = byteCells s := by simp [U8s, Bys, byteCells]

theorem run_copy_mid_string (T S : TypeId) (hT : Try.prog.underlying T = some (.slice 5)) {w : World} {g : Nat} {pre mid post : List Value} {s : ByteArray} (n c : Nat) (hg : w.heap[g]? = some (.cells (pre ++ mid ++ post).toArray 5 (0, 0)))
    (hm : mid.length = n) (hx : s.size = n) :
    ∃ w', (∀ ty, (Builtin.copy_ #[T, S] ty #[.slice (some ⟨g, pre.length, none⟩) n c, .string s]).run Try.prog w = .ok (.int .i64 n) w') ∧ CopyPost w g pre (Bys s) post w' := by
  refine ⟨w.setRow g (pre ++ U8s (Bys s) ++ post).toArray, fun ty => ?_, setRow_heap _ _ _ _ _ _ hg, (setRow_kp _ _ _).1, (setRow_kp _ _ _).2⟩
  have h := Lib.run_copy_row_string (P := Try.prog) w T S ty 5 g pre.length n c s (pre ++ mid ++ post).toArray 5 hT byte1 hg (by omega) (by simp; omega)
  have e1 : Lib.byteCells s.data.toList = U8s (Bys s) := by simp [U8s, Bys, Lib.byteCells]
  have hl : (U8s (Bys s)).length = s.size := by rw [U8s_length, Bys_length]
  rw [h, e1, hx]
  rw [show (pre ++ mid ++ post).toArray.toList = pre ++ mid ++ post from rfl, ← hx, ← hl, splice_mid _ _ _ _ (by omega)]
  rfl

/-- a text put: too long, or bytes behind their number -/
def putT (lim : Int) (l : List Int) (e : Int) (s : ByteArray) : List Int × Int :=
  if e = 0 ∧ 65535 < s.size then (l, 3) else putS lim l e (be 2 (s.size : Int) ++ Bys s)

set_option maxHeartbeats 1000000 in
theorem putText_any {w : World} {B p : Nat} {v : Value} {lim : Int} {l : List Int} {e : Int} {s : ByteArray} (hB : B ≤ w.heap.size) (h : PK w B p v lim l e) (hx : s.size ≤ 900000) :
    Calls Try.prog 39 #[.pointer (some ⟨p, 0, none⟩), .string s] w fun r w' => r = .returned (.tuple #[]) ∧ PPost w B p v lim (putT lim l e s) w' := by
  obtain ⟨c0, c1, c2, c3, cf⟩ := h.cells
  have hgt : (65535 : Int) < (s.size : Int) ↔ 65535 < s.size := by omega
  by_cases hlong : e = 0 ∧ 65535 < s.size
  · obtain ⟨rfl, hl⟩ := hlong
    have e1 : putT lim l 0 s = (l, 3) := by unfold putT; rw [if_pos ⟨rfl, hl⟩]
    rw [e1]
    have cf3 := cf 3
    obtain ⟨v1, hp1, hk1, hn1⟩ := h.setErr 3 (by omega)
    have HR := Lib.hid (room_err (2 + (s.size : Int)) hp1 (by simp))
    have HF := Lib.hid (show PPost w B p v lim (l, 3) _ from ⟨v1, hp1, hk1, hn1⟩)
    have hl2 : (65535 : Int) < (s.size : Int) := by omega
    clear h cf hp1 hk1 hn1 e1 hgt hl
    go_enter Try.func39, Try.ntmps39
    go_wp2_with (first | (go_at_call 58; go_must (refine (HR.out).mono ?_; rintro e w1 ⟨rfl, rfl⟩)) | go_in)
    go_end0
    exact ⟨rfl, HF.out⟩
  · have e1 : putT lim l e s = putS lim l e (be 2 (s.size : Int) ++ Bys s) := by unfold putT; rw [if_neg hlong]
    rw [e1]
    have hr0 : Calls Try.prog 58 #[.pointer (some ⟨p, 0, none⟩), .int .i64 (2 + (s.size : Int))] w (RoomAny w B p v lim l e (2 + s.size)) := by
      have e1 : (2 + (s.size : Int)) = ((2 + s.size : Nat) : Int) := by omega
      rw [e1]; exact room_any _ (by omega) (by omega) hB h
    have HR := Lib.hid hr0
    have HP := Lib.hid h
    have hbl : (be 2 (s.size : Int) ++ Bys s).length = 2 + s.size := by rw [List.length_append, be_length, Bys_length]
    have HBL := Lib.hid hbl
    have hd : ((e == 0) = false) ∨ ((e == 0) = true ∧ ¬ (65535 : Int) < (s.size : Int)) := by
      by_cases he : e = 0
      · exact .inr ⟨by simpa using he, fun h2 => hlong ⟨he, by omega⟩⟩
      · exact .inl (by simpa using he)
    have HE := Lib.hid (perr_any h)
    clear h hr0 hbl cf hlong hgt e1
    rcases hd with hd | ⟨hd, hd2⟩
    all_goals
      go_enter Try.func39, Try.ntmps39
      go_wp2_with fail
      refine (HE.out).mono ?_
      rintro r w0 ⟨rfl, rfl⟩
      go_wp2_with fail
      refine (HR.out).mono ?_
      rintro r w1 (⟨he0, hf, g, cap, mid, post, rfl, hp, hg, hmid, hc, hm, hne, hBg, hnew, hk⟩ | ⟨rfl, hpp⟩)
      · subst he0
        have hlen : l.length + (2 + s.size) + post.length = cap := by rw [← hc]; simp [U8s_length, hmid, Nat.add_assoc]
        have hle : l.length + (2 + s.size) ≤ cap := by omega
        have hm63 : cap ≤ 9223372036854775807 := hm
        have hg1 : w1.heap[g]? = some (.cells (U8s l ++ mid.take 2 ++ (mid.drop 2 ++ post)).toArray 5 (0, 0)) := by
          rw [hg, List.append_assoc (U8s l) (mid.take 2), ← List.append_assoc (mid.take 2), List.take_append_drop, List.append_assoc]
        have hset := fun c => setNumber_any g 2 c (U8s l) (mid.take 2) (mid.drop 2 ++ post) (s.size : Int) (by omega) (by omega) w1 (by rw [List.length_take]; omega) (by omega) hg1
        rw [U8s_length] at hset
        have HSN := Lib.hid hset
        have HFF := Lib.hid (fun w2 hx h2 k2 => fit_post (w := w) (w2 := w2) ⟨((HP.out).lims rfl).1, ((HP.out).lims rfl).2.1⟩ hf hp hmid hc hm hne hBg HP.out.base hnew hk (be 2 (s.size : Int) ++ Bys s) hx h2 k2)
        have HM := Lib.hid hmid
        clear hp hg hc hmid hnew hf hset hg1 hlen
        go_wp2_with fail
        refine (HSN.out _).mono ?_
        rintro r w2 ⟨rfl, h2, k2, _⟩
        have hg2 : w2.heap[g]? = some (.cells (U8s (l ++ be 2 (s.size : Int)) ++ mid.drop 2 ++ post).toArray 5 (0, 0)) := by
          rw [h2, U8s_append, List.append_assoc (U8s l ++ _)]
        have hmd : (mid.drop 2).length = s.size := by rw [List.length_drop, HM.out]; omega
        by_cases hn : 1 ≤ s.size
        · obtain ⟨w3, hcp, hg3, k3, _⟩ := run_copy_mid_string 30 9 Try.underlying30 s.size (cap - (l.length + 2)) hg2 hmd rfl
          have HG := Lib.hid (HFF.out w3 HBL.out (by rw [hg3, U8s_append, U8s_append, ← List.append_assoc]) (k2.trans k3 (fun _ _ h => h)))
          rw [U8s_length, List.length_append, be_length] at hcp
          have hcc : cap - (l.length + 2) = cap - l.length - 2 := by omega
          rw [hcc] at hcp
          clear h2 hg2 hmd hg3 k3 k2 hcc
          go_wp2_with fail
          go_end0
          exact ⟨rfl, HG.out⟩
        · have hn0 : s.size = 0 := by omega
          have hcp := fun d dl dc ty => Lib.run_copy_empty_string (P := Try.prog) w2 30 9 ty 5 d dl dc s Try.underlying30 (by rw [byte1]; rfl) hn0
          have hmd0 : mid.drop 2 = [] := List.eq_nil_of_length_eq_zero (by omega)
          have hs0 : Bys s = [] := List.eq_nil_of_length_eq_zero (by rw [Bys_length]; omega)
          have HG := Lib.hid (HFF.out w2 HBL.out (by rw [hg2, hmd0, hs0]; simp [U8s_append]) k2)
          have HN := Lib.hid hn0
          clear h2 hg2 hmd hmd0 hs0 k2 hn0 hn
          by_cases hcap : cap = l.length + 2
          · subst hcap
            have hs0 : s.size = 0 := HN.out
            rw [hs0] at hle
            go_wp2_with fail
            go_end0
            exact ⟨rfl, HG.out⟩
          · have hcl : l.length + 2 < cap := by omega
            clear hcap
            go_wp2_with fail
            go_end0
            exact ⟨rfl, HG.out⟩
      · have HPP := Lib.hid (hpp _ HBL.out)
        clear hpp
        go_wp2_with fail
        go_end0
        exact ⟨rfl, HPP.out⟩

/-! ### append onto a row of one's own; bytes as a string -/
theorem run_append_by {w : World} {B : Nat} {v b : Value} {l xs : List Int} (hB : B ≤ w.heap.size) (h : OwnB w B v l) (hs : Sees w b xs) (hx : l.length + xs.length ≤ 1000000000) :
    ∃ v' w', (∀ ty, (Builtin.append_ #[30, 30] ty #[v, b]).run Try.prog w = .ok v' w') ∧ OwnB w' B v' (l ++ xs) ∧ Kp (fun k => v.ownBlock = some k) w w' ∧ (v'.ownBlock = v.ownBlock ∨ ∀ g, v'.ownBlock = some g → w.heap.size ≤ g) := by
  obtain ⟨i0, hi0, hz0, hs0, hb0⟩ := info_parts info8
  have hsrc : ∃ bx n, b = bx ∧ n = xs.length ∧ Src Try.prog i0.size 30 b n (U8s xs) w := by
    rcases hs with ⟨rfl, rfl⟩ | ⟨ad, cap, rfl, h1, h2, hc⟩
    · exact ⟨_, 0, rfl, rfl, Src.ofNil w Try.underlying30 0⟩
    · exact ⟨_, xs.length, rfl, rfl, Src.ofSlice w Try.underlying30 ad xs.length cap (U8s xs) (by rw [hs0, U8s_length, Nat.mul_one]) (fun j u hj => by
        obtain ⟨x, hx, rfl⟩ := U8s_inv hj
        exact hc j x hx) (U8s_one xs)⟩
  obtain ⟨_, _, rfl, rfl, src⟩ := hsrc
  have hz1 : (Value.int .u8 0).cells.size = 1 := rfl
  rcases h with ⟨rfl, rfl⟩ | ⟨g, cap, rest, rfl, h1, h2, h3, h4⟩
  · by_cases hn : xs.length = 0
    · obtain rfl : xs = [] := List.eq_nil_of_length_eq_zero hn
      exact ⟨.slice none 0 0, w, run_append_none hs none, .inl ⟨rfl, rfl⟩, Kp.refl _ _, .inl rfl⟩
    · obtain ⟨G, rest, w2, hap, h2, h3, h4, k2⟩ := run_append_new hs (by omega) (by omega) none
      exact ⟨_, w2, hap, .inr ⟨_, G, rest, by simp, hB, by simpa using h2, by simpa using h3, h4⟩, k2.mono (fun _ _ f => f.elim), .inr (fun y e => by cases e; exact Nat.le_refl _)⟩
  · have hlen : l.length + rest.length = cap := by rw [← h3]; simp [U8s_length]
    by_cases hroom : l.length + xs.length ≤ cap
    · have hrest : rest = rest.take xs.length ++ rest.drop xs.length := (List.take_append_drop _ _).symm
      have hl3 : (rest.take xs.length).length = (U8s xs).length := by rw [List.length_take, U8s_length]; omega
      have hblk : w.heap[g]? = some (.cells (U8s l ++ rest.take xs.length ++ rest.drop xs.length).toArray 5 (0, 0)) := by rw [h2, List.append_assoc, List.take_append_drop]
      obtain ⟨s1, s2, _⟩ := setCells_blk g 5 (U8s xs) (U8s l) (rest.take xs.length) (rest.drop xs.length) w hblk hl3
      have hrun := fun ty => run_append_room_src (P := Try.prog) w 30 30 ty 5 i0 Try.underlying30 hi0 g 0 l.length cap b xs.length (U8s xs) src hroom
        (fun j hj => by
          rw [U8s_length] at hj
          rw [hs0, Nat.zero_add, Nat.mul_one, cell_blk h2, List.getElem?_toArray, List.getElem?_eq_getElem (by rw [List.length_append, U8s_length]; omega)]; rfl)
        (fun j hj => free_blk h2 _)
      rw [hs0, Nat.zero_add, Nat.mul_one] at hrun
      rw [U8s_length] at s1 s2
      refine ⟨_, _, hrun, .inr ⟨g, cap, rest.drop xs.length, by rw [List.length_append], h1, by rw [U8s_append]; exact s1, ?_, h4⟩, s2.mono (fun x _ e => by rw [e]; rfl), .inl rfl⟩
      rw [List.length_append, U8s_length, List.length_append, List.length_drop]; omega
    · have hold : (Builtin.firstCells i0.size l.length (.slice (some ⟨g, 0, none⟩) l.length cap)).run Try.prog w.drew = .ok (U8s l).toArray w.drew :=
        run_firstCells_some w.drew i0.size l.length ⟨g, 0, none⟩ l.length cap (U8s l) (by rw [hs0, U8s_length, Nat.mul_one]) (fun j u hj => by
          rw [Addr.add_lit, World.cell?_drew, cell_blk h2, Nat.zero_add, List.getElem?_toArray, List.getElem?_append_left (by rw [U8s_length]; rw [← U8s_length l]; exact (List.getElem?_eq_some_iff.1 hj).1)]; exact hj)
      have hrun := fun ty => run_append_grow_src (P := Try.prog) w 30 30 ty 5 i0 (.int .u8 0) Try.underlying30 hi0 hz0 (some ⟨g, 0, none⟩) l.length cap (U8s l) hold b xs.length (U8s xs) src (by omega) (by omega) (growslice_fits (by omega) (by rw [hb0]; omega))
      refine ⟨_, _, hrun, .inr ⟨w.heap.size, grownCap w (l.length + xs.length) cap 5, (Builtin.zeroCells (Value.int .u8 0).cells (grownCap w (l.length + xs.length) cap 5 - (l.length + xs.length))).toList, by rw [List.length_append], hB, ?_, ?_, grownCap_le_maxLen w _ _ _ (by unfold maxLen; omega)⟩, ((Kp.refl _ _).drew.alloc _), .inr (fun y e => by cases e; exact Nat.le_refl _)⟩
      · refine (new_blk w.drew _).trans ?_
        congr 2
        apply Array.ext'; simp [U8s]
      · have hG := grownCap_ge w (l.length + xs.length) cap 5
        simp [size_zeroCells, hz1, U8s_length]; omega

theorem run_string_of {w : World} {b : Value} {xs : List Int} (hs : Sees w b xs) : (convert 30 9 b).run Try.prog w = .ok (.string (strOfNums xs)) w := by
  rcases hs with ⟨rfl, rfl⟩ | ⟨ad, cap, rfl, h1, h2, hc⟩
  · exact run_convert_bytes_nil w 30 5 Try.underlying30 Try.underlying5 0 0 9 Try.underlying9
  · have hl : (loadCells ad xs.length).run Try.prog w = .ok (xs.map (Value.int .u8)).toArray w := by
      have h := run_loadCells_list (P := Try.prog) w ad (U8s xs) (fun j v hj => by
        obtain ⟨x, hx, rfl⟩ := U8s_inv hj
        exact hc j x hx)
      rw [U8s_length] at h
      exact h
    rw [run_convert_bytes_string w 30 9 5 _ _ cap Try.underlying30 Try.underlying5 Try.underlying9, run_bytesToString w _ _ cap xs hl, foldl_push_bytes]
    simp [strOfNums, ByteArray.empty, ByteArray.emptyWithCapacity]
    rfl
theorem Bys_strOfNums {xs : List Int} (h : Rng xs) : Bys (strOfNums xs) = xs := by
  unfold Bys
  rw [strOfNums_data, List.map_map]
  conv => rhs; rw [← List.map_id xs]
  apply List.map_congr_left
  intro x hx
  have := h x hx
  simp only [Function.comp, id, UInt8.toNat_ofNat']
  omega

end Go.Proofs.Ytahdnapinlbflaa
