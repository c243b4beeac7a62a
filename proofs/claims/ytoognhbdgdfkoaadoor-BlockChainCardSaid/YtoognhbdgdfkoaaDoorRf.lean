/-
  Contracts of the document's packer (package flurryref01).
-/
import Derived.Test.YtoognhbdgdfkoaaDoorPkC
import Derived.Deep.QuietTactic
import Derived.BigQuiet
import Derived.Lib.ConvBytes
import Derived.Laws.OwnMore
namespace Go.Proofs.YtoognhbdgdfkoaaDoor
open Go.ChangeShapes Go.WideShapes Go.ChangeAt Go.RowKit

/-- a number's bytes, in a row of their own -/
def NumP (w : World) (n : Nat) (v : Int) (e : Ending) (w' : World) : Prop :=
  e = .returned (.slice (some ⟨w.heap.size, 0, none⟩) n n) ∧ w'.heap[w.heap.size]? = some (.cells (U8s (be n v)).toArray 5 (0, 0)) ∧ Kp (fun _ => False) w w'

set_option maxHeartbeats 1000000 in
theorem num_any (n : Nat) (v : Int) (h0 : 0 ≤ v) (hv : v ≤ 18446744073709551615) (hn : n ≤ 9000) (w : World) :
    Calls Tryd.prog 39 #[.int .i64 n, .int .u64 v] w (NumP w n v) := by
  obtain ⟨i0, hi0, hz0, hs0, hb0⟩ := info_parts byteInfo
  obtain ⟨w1, hmk, hown, hgr⟩ := run_makeSlice_full (P := Tryd.prog) w w.heap.size 24 5 i0 (.int .u8 0) 1 Tryd.underlying24 hi0 hz0 hs0 .i64 .i64 n (by omega) (by rw [hb0]; omega) (by unfold maxLen; omega) (Nat.le_refl _)
  obtain ⟨mid, hmid, hblk⟩ : ∃ mid : List Value, mid.length = n ∧ w1.heap[w.heap.size]? = some (.cells ([] ++ mid ++ []).toArray 5 (0, 0)) := by
    obtain ⟨h1, ⟨h2, _⟩ | ⟨g, cap, cur, h2, _, h3, h4, _, h5, _⟩⟩ := hown
    · cases h2
    · cases h2
      exact ⟨cur.toList, by rw [Array.length_toList, h5, Nat.mul_one], by simpa using h3⟩
  have hk : Kp (fun _ => False) w w1 := (Kp.of_grownBy hgr).mono (fun _ _ h => by cases h)
  have hstart : SetRel w1 w.heap.size [] mid [] v 0 n w1 := by
    refine ⟨?_, Kp.refl _ _, rfl⟩
    rw [hblk, List.take_of_length_le (by omega)]; simp [U8s, be]
  have HV := Lib.hid hv
  have HK := Lib.hid hk
  clear hblk hown hgr hv hk
  go_enter Tryd.func39, Tryd.ntmps39
  go_wp2
  go_loopw [6, 1] (fun i y wr => ∃ (k : Nat) (j : Nat) (x : Int), k + j = n ∧ i = .int .i64 ((j : Int) - 1) ∧ y = .int .u64 x ∧ Hid (x = v / 256 ^ k) ∧ SetRel w1 w.heap.size [] mid [] v k j wr) (fun i _ _ => (intOf i + 1).toNat)
  case atStart => exact ⟨0, n, v, by omega, rfl, rfl, Lib.hid (by simp), hstart⟩
  case round =>
    obtain ⟨k, j, x, hkj, rfl, rfl, hx, hr⟩ := hrel
    have hxb := div_pow_bd h0 HV.out k
    rw [← hx.out] at hxb
    obtain ⟨hx0, hx1⟩ := hxb
    by_cases hj : 1 ≤ j
    · obtain ⟨i, rfl⟩ : ∃ i, j = i + 1 := ⟨j - 1, by omega⟩
      have hlen : (mid.take (i + 1)).length = i + 1 := by rw [List.length_take]; omega
      obtain ⟨u, hu⟩ := get_mid [] (mid.take (i + 1)) (U8s (be k v)) [] i hlen
      have hc : wr.cell? ⟨w.heap.size, i, none⟩ = some u := by rw [cell_blk hr.1, ← hu]; simp
      have hf : wr.frozen? ⟨w.heap.size, i, none⟩ = false := free_blk hr.1 _
      have hnext : SetRel w1 w.heap.size [] mid [] v (k + 1) i (wr.setCell ⟨w.heap.size, i, none⟩ (.int .u8 (x % 256))) := by
        refine ⟨?_, hr.2.1.setCell (fun _ => rfl) _, by rw [World.size_setCell]; exact hr.2.2⟩
        have hset := set_mid [] (mid.take (i + 1)) (U8s (be k v)) [] i (.int .u8 (x % 256)) hlen
        rw [List.length_nil, Nat.zero_add] at hset
        rw [set_blk hr.1, hset, List.take_take, show min i (i + 1) = i by omega, hx.out]
        rfl
      have hxn : Hid (x / 256 = v / 256 ^ (k + 1)) := Lib.hid (by rw [hx.out, div_pow])
      clear hu hlen hr
      go_wp2
      go_roundw
      case rel => exact ⟨k + 1, i, x / 256, by omega, rfl, rfl, hxn, hnext⟩
      case measure => simp [intOf]
    · obtain rfl : j = 0 := by omega
      obtain rfl : k = n := by omega
      obtain ⟨r1, r2, r3⟩ := hr
      have R1 := Lib.hid r1
      clear r1
      go_wp2
      go_ret
      exact ⟨rfl, by rw [R1.out]; simp, (HK.out).trans r2 (fun y hy e => by omega)⟩

theorem NumP.sees {w w' : World} {n : Nat} {v : Int} {e : Ending} (h : NumP w n v e w') (hm : n ≤ 9000) : Sees w' (.slice (some ⟨w.heap.size, 0, none⟩) n n) (be n v) := by
  obtain ⟨_, h2, _⟩ := h
  have h := Sees.mk (w := w') (b := w.heap.size) (off := 0) (cap := n) (xs := be n v) (by rw [be_length]; exact Nat.le_refl _) (by unfold maxLen; omega) (fun i x hi => by rw [Nat.zero_add, cell_blk h2, List.getElem?_toArray, U8s_get hi])
  rw [be_length] at h
  exact h
theorem NumP.own {w w' : World} {n : Nat} {v : Int} {e : Ending} {B : Nat} (h : NumP w n v e w') (hB : B ≤ w.heap.size) (hm : n ≤ 9000) : OwnB w' B (.slice (some ⟨w.heap.size, 0, none⟩) n n) (be n v) := by
  obtain ⟨_, h2, _⟩ := h
  refine .inr ⟨_, n, [], by rw [be_length], hB, by rw [List.append_nil]; exact h2, by rw [List.append_nil, U8s_length, be_length], by unfold maxLen; omega⟩

theorem PK.kept {F : Nat → Prop} {w w' : World} {B q : Nat} {v : Value} {lim : Int} {l : List Int} {e : Int} (h : PK w B q v lim l e) (k : Kp F w w') (hF : ∀ x, PF q v x → ¬ F x) : PK w' B q v lim l e :=
  ⟨kept_blk h.cell k (hF q (.inl rfl)), h.own.kept k (fun g hg => hF g (.inr hg)), h.ne, h.base, h.lims⟩
theorem bytesWorld_kp (w : World) (e : TypeId) (s : ByteArray) : Kp (fun _ => False) w (Lib.bytesWorld w e s) :=
  ⟨by simp [Lib.bytesWorld, World.freeze, World.alloc, World.drew, -World.alloc_eq, -World.drew_eq], by simp [Lib.bytesWorld, World.freeze, World.alloc, World.drew, -World.alloc_eq, -World.drew_eq],
    by simp [Lib.bytesWorld, World.freeze, World.alloc, World.drew, -World.alloc_eq, -World.drew_eq], by rw [Lib.bytesWorld_size]; omega, fun k hk _ => Lib.bytesWorld_at_old w e s k hk⟩
theorem bytesWorld_sees (w : World) (s : ByteArray) (hs : s.size ≤ 1000000) : Sees (Lib.bytesWorld w 5 s) (.slice (some ⟨w.heap.size, 0, none⟩) s.size (grownCap w s.size 0 5)) (Bys s) := by
  have h := Sees.mk (w := Lib.bytesWorld w 5 s) (b := w.heap.size) (off := 0) (cap := grownCap w s.size 0 5) (xs := Bys s) (by rw [Bys_length]; exact grownCap_ge _ _ _ _) (grownCap_le_maxLen _ _ _ _ (by unfold maxLen; omega)) (fun i x hi => ?_)
  · rw [Bys_length] at h; exact h
  have hlt : i < s.size := by rw [← Bys_length]; exact (List.getElem?_eq_some_iff.1 hi).1
  rw [Nat.zero_add, Lib.bytesWorld_cell _ _ _ _ hlt]
  congr 2
  unfold Bys at hi
  rw [List.getElem?_map, Option.map_eq_some_iff] at hi
  obtain ⟨y, hy, rfl⟩ := hi
  simp [List.getD, hy]

end Go.Proofs.YtoognhbdgdfkoaaDoor
