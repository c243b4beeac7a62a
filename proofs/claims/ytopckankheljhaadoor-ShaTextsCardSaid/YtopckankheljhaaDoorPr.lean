/-
  Contracts of package sha's digit and Parse: the name of a text.
-/
import Derived.Test.YtopckankheljhaaDoorPa
import Derived.Laws.RangeAny
namespace Go.Proofs.YtopckankheljhaaDoor
open Go.ChangeShapes Go.WideShapes Go.ChangeAt Go.RowKit

set_option maxHeartbeats 400000 in
theorem digit_yes (r d : Int) (h : hv r = some d) (w : World) :
    Calls Tryd.prog 31 #[.int .i32 r] w fun e w' => e = .returned (.tuple #[.int .u8 d, .bool true]) ∧ w = w' := by
  unfold hv at h
  split at h
  · rename_i hr
    obtain ⟨h0, h1⟩ := hr
    obtain rfl : r - 48 = d := by injection h
    clear h
    have e1 : decide ((48 : Int) ≤ r) = true := by simpa using h0
    have e2 : decide (r ≤ 57) = true := by simpa using h1
    go_enter Tryd.func31, Tryd.ntmps31
    go_wp2
    go_ret2
    exact ⟨rfl, rfl⟩
  · rename_i hr
    split at h
    · rename_i hr2
      obtain ⟨h0, h1⟩ := hr2
      obtain rfl : r - 87 = d := by injection h
      clear h
      have e0 : decide ((48 : Int) ≤ r) = true := by simp; omega
      have e9 : decide (r ≤ 57) = false := by simp; omega
      have e1 : decide ((97 : Int) ≤ r) = true := by simpa using h0
      have e2 : decide (r ≤ 102) = true := by simpa using h1
      clear hr
      go_enter Tryd.func31, Tryd.ntmps31
      go_wp2
      go_ret2
      exact ⟨by congr 3; simp; omega, rfl⟩
    · cases h
set_option maxHeartbeats 400000 in
theorem digit_no (r : Int) (h : hv r = none) (w : World) :
    Calls Tryd.prog 31 #[.int .i32 r] w fun e w' => e = .returned (.tuple #[.int .u8 0, .bool false]) ∧ w = w' := by
  have hb : r < 48 ∨ (57 < r ∧ r < 97) ∨ 102 < r := by
    unfold hv at h
    split at h
    · cases h
    · split at h
      · cases h
      · omega
  clear h
  rcases hb with hb | ⟨h1, h2⟩ | hb
  · have e1 : decide ((48 : Int) ≤ r) = false := by simp; omega
    have e2 : decide ((97 : Int) ≤ r) = false := by simp; omega
    go_enter Tryd.func31, Tryd.ntmps31
    go_wp2
    go_ret2
    exact ⟨rfl, rfl⟩
  · have e1 : decide ((48 : Int) ≤ r) = true := by simp; omega
    have e0 : decide (r ≤ 57) = false := by simp; omega
    have e2 : decide ((97 : Int) ≤ r) = false := by simp; omega
    go_enter Tryd.func31, Tryd.ntmps31
    go_wp2
    go_ret2
    exact ⟨rfl, rfl⟩
  · have e1 : decide ((48 : Int) ≤ r) = true := by simp; omega
    have e0 : decide (r ≤ 57) = false := by simp; omega
    have e2 : decide ((97 : Int) ≤ r) = true := by simp; omega
    have e3 : decide (r ≤ 102) = false := by simp; omega
    go_enter Tryd.func31, Tryd.ntmps31
    go_wp2
    go_ret2
    exact ⟨rfl, rfl⟩

theorem iter_setCell (W : World) (s : ByteArray) (k : Nat) (p : Addr) (v : Value) (hp : p.block < W.heap.size) : (W.iter s k).setCell p v = (W.setCell p v).iter s k := by
  unfold World.iter World.setCell World.alloc
  congr 1
  apply Array.ext
  · simp
  · intro i h1 h2
    simp only [Array.getElem_modify, Array.getElem_push]
    by_cases e : p.block = i
    · subst e
      simp [hp]
    · simp only [if_neg e, Array.size_modify]
theorem results_name {fn : Func} {p q : Tmp} {ty : TypeId} (h : fn.results = #[.cell p ty, .tmp q]) (tmps : Array Value) (w : World) (g : Nat) (cs : Array Value) (u : Value)
    (hp : tmps.getD p undef = .pointer (some ⟨g, 0, none⟩)) (hq : tmps.getD q undef = u) (hl : (loadVar ty ⟨g, 0, none⟩).run Tryd.prog w = .ok (.agg cs) w) :
    (results fn tmps).run Tryd.prog w = .ok (.tuple #[.agg cs, u]) w := by
  have hp' : tmps[p]?.getD undef = .pointer (some ⟨g, 0, none⟩) := by simpa using hp
  have hq' : tmps[q]?.getD undef = u := by simpa using hq
  simp [results, h, hp', hq', asAddr, hl]

/-- the text's first k bytes are digits -/
structure PrRel (w : World) (s : ByteArray) (k : Nat) (wr : World) : Prop where
  here : ∃ W ns, wr = W.iter s k ∧ W.heap.size = w.heap.size + 2 ∧ Kp (fun _ => False) w W ∧ NibsTo (Bys s) k ns ∧
    W.heap[w.heap.size]? = some (.cells (U8s id0).toArray 26 (0, 0)) ∧ W.heap[w.heap.size + 1]? = some (.cells (U8s (idOf ns)).toArray 26 (0, 0))
theorem Bys_length (s : ByteArray) : (Bys s).length = s.size := by
  unfold Bys; rw [List.length_map, Array.length_toList]; rfl
theorem Bys_get (s : ByteArray) (k : Nat) (h : k < s.size) : (Bys s).getD k 0 = ((s[k]'h).toNat : Int) := by
  have h' : k < s.data.toList.length := by rw [Array.length_toList]; exact h
  simp only [Bys, List.getD_eq_getElem?_getD, List.getElem?_map, List.getElem?_eq_getElem h']
  rfl
theorem or_digit (x d : Int) (hx0 : 0 ≤ x) (hx1 : x < 16) (hd0 : 0 ≤ d) (hd1 : d < 16) : bits .or .u8 (x * 16) d = 16 * x + d := by
  obtain ⟨x, rfl⟩ := Int.eq_ofNat_of_zero_le hx0
  obtain ⟨d, rfl⟩ := Int.eq_ofNat_of_zero_le hd0
  have j := nat_join 4 (x * 16) d (by omega) (by omega)
  rw [show (x : Int) * 16 = ((x * 16 : Nat) : Int) by omega, u8_or_nat _ _ (by omega) (by omega), j]
  omega
theorem nib_rng {l ns : List Int} {k : Nat} (h : NibsTo l k ns) (j : Nat) : 0 ≤ ns.getD j 0 ∧ ns.getD j 0 < 16 := by
  by_cases hj : j < k
  · exact hv_rng (h.2.2 j hj)
  · have := h.1
    simp [List.getElem?_eq_none (show ns.length ≤ j by omega)]
/-- the byte that a digit comes to -/
theorem cell_small {l ns : List Int} {k : Nat} (h : NibsTo l k ns) : 0 ≤ (idOf ns).getD (k / 2) 0 ∧ (idOf ns).getD (k / 2) 0 < 16 := by
  by_cases hj : k / 2 < 32
  · rw [idOf_get _ _ hj]
    unfold byteAt
    rw [if_neg (by rw [h.1]; omega)]
    exact nib_rng h _
  · rw [List.getD_eq_getElem?_getD, List.getElem?_eq_none (by rw [idOf_length]; omega)]; simp
theorem idOf_next {l ns : List Int} {k : Nat} (h : NibsTo l k ns) (d : Int) (hk : k < 64) : (idOf ns).set (k / 2) (16 * (idOf ns).getD (k / 2) 0 + d) = idOf (ns ++ [d]) := by
  rw [idOf_put, h.1]
  by_cases he : k % 2 = 0
  · rw [if_pos he, idOf_get _ _ (by omega)]
    unfold byteAt
    rw [if_neg (by rw [h.1]; omega), show 2 * (k / 2) = k by omega]
    simp [List.getElem?_eq_none (show ns.length ≤ k by rw [h.1]; omega)]
  · rw [if_neg he]

set_option maxRecDepth 100000 in
set_option maxHeartbeats 1600000 in
theorem parse_any (s : ByteArray) (w : World) :
    Calls Tryd.prog 18 #[.string s] w fun e w' => e = .returned (.tuple #[.agg (U8s (parsed (Bys s)).1).toArray, .int .i64 (parsed (Bys s)).2]) ∧ Kp (fun _ => False) w w' := by
  have hz2 := zerosId
  have h0 := old_blk (new_blk w (.cells (U8s id0).toArray 26)) (.cells (U8s id0).toArray 26)
  have h1 := new_blk (w.alloc (.cells (U8s id0).toArray 26)) (.cells (U8s id0).toArray 26)
  rw [World.size_alloc] at h1
  have hi := info32 id0 rfl
  have HI := Lib.hid hi
  have hlen := Bys_length s
  have H0 := Lib.hid h0
  have H1 := Lib.hid h1
  have hku : ∀ W : World, W.heap[w.heap.size]? = some (.cells (U8s id0).toArray 26 (0, 0)) → (loadVar 26 ⟨w.heap.size, 0, none⟩).run Tryd.prog W = .ok (.agg (U8s id0).toArray) W := fun W hW =>
    run_loadVar_row W w.heap.size 26 26 _ (0, 0) _ hW Tryd.underlying26 rfl HI.out
  have HKU := Lib.hid hku
  clear hi h0 h1 hku
  by_cases hs : s.size = 64
  · have hne : ((s.size : Int) != 64) = false := by rw [hs]; rfl
    have hstart : PrRel w s 0 (((w.alloc (.cells (U8s id0).toArray 26)).alloc (.cells (U8s id0).toArray 26)).iter s 0) :=
      ⟨⟨_, [], rfl, by simp, ((Kp.refl _ w).alloc _).alloc _, ⟨rfl, by omega, fun i hi => by omega⟩, H0.out, by rw [idOf_nil]; exact H1.out⟩⟩
    have HS := Lib.hid hstart
    have HL := Lib.hid hlen
    have HSZ := Lib.hid hs
    clear hstart hlen hs
    go_enter Tryd.func18, Tryd.ntmps18
    go_wp2
    go_loopw [5, 6, 7, 8] (fun _ _ _ _ wr => ∃ k : Nat, k ≤ 64 ∧ PrRel w s k wr) (fun _ _ _ _ wr => 64 - wr.iterPos (w.heap.size + 2))
    case atStart => exact ⟨0, by omega, HS.out⟩
    case round =>
      obtain ⟨k, hk, ⟨W, ns, rfl, hWs, hWk, hns, hw0, hw1⟩⟩ := hrel
      by_cases hlt : k < 64
      · have hks : k < s.size := by rw [HSZ.out]; exact hlt
        have hnx : ∀ ty, (Instr.next (.pointer (some ⟨w.heap.size + 1 + 1, 0, none⟩)) true ty).run Tryd.prog (W.iter s k) = .ok (.tuple #[.bool true, .int .i64 k, .int .i32 (Utf8.decode s k).1]) (W.iter s (k + (Utf8.decode s k).2)) := fun ty => by
          have := run_next_any (P := Tryd.prog) W s k ty hks
          rw [hWs] at this
          exact this
        cases hd : hv ((Utf8.decode s k).1 : Int) with
        | none =>
          have hbad : parsed (Bys s) = (id0, 20) := by
            unfold parsed
            rw [if_pos (by rw [HL.out, HSZ.out])]
            have hn : hv ((Bys s).getD k 0) = none := by
              rw [Bys_get s k hks]
              by_cases ha : (s[k]'hks).toNat < 128
              · rw [decode_ascii s k hks ha] at hd; exact hd
              · unfold hv; rw [if_neg (by omega), if_neg (by omega)]
            rw [nibs_none (Bys s) k (by rw [HL.out]; exact hks) hn]
            rfl
          have hg := old_blk hw0 (.stringIter s (k + (Utf8.decode s k).2))
          have HB := Lib.hid hbad
          have HG := Lib.hid hg
          have HD := Lib.hid hd
          have HK := Lib.hid (hWk.alloc (.stringIter s (k + (Utf8.decode s k).2)))
          clear hbad hg hd hw0 hw1 hns
          generalize ((Utf8.decode s k).1 : Int) = r at *
          generalize (Utf8.decode s k).2 = n at *
          go_wp2_with fail
          refine (digit_no r HD.out _).mono ?_
          rintro e w1 ⟨rfl, rfl⟩
          go_wp2_with (refine wpList_store_row rfl 26 _ _ rfl w.heap.size _ rfl rfl 26 _ HG.out HI.out rfl (all_oneCell_toArray (U8s_one _)) ?_)
          rw [HB.out]
          refine bodyPost_ret (v := .tuple #[.agg (U8s id0).toArray, .int .i64 20]) (results_name Tryd.results18 _ _ w.heap.size _ _ rfl rfl (HKU.out _ (setRow_blk HG.out))) rfl ⟨rfl, ?_⟩
          exact HK.out.setRow (by simp) _
        | some d =>
          have ha : (s[k]'hks).toNat < 128 := by
            by_cases ha : (s[k]'hks).toNat < 128
            · exact ha
            · have hh := (decode_high s k hks (by omega)).1
              unfold hv at hd
              rw [if_neg (by omega), if_neg (by omega)] at hd
              cases hd
          rw [decode_ascii s k hks ha] at hd hnx
          have hdr := hv_rng hd
          have hnext := hns.next (by rw [HL.out]; exact hks) (by rw [Bys_get s k hks]; exact hd)
          have hsm := cell_small hns
          have hset := idOf_next hns d hlt
          obtain ⟨x, hx⟩ : ∃ x, x = (idOf ns).getD (k / 2) 0 := ⟨_, rfl⟩
          rw [← hx] at hsm hset
          have hg1 : (W.iter s (k + 1)).heap[w.heap.size + 1]? = some (.cells (U8s (idOf ns)).toArray 26 (0, 0)) := old_blk hw1 (.stringIter s (k + 1))
          have hc : (W.iter s (k + 1)).cell? ⟨w.heap.size + 1, k / 2, none⟩ = some (.int .u8 x) := by
            rw [cell_blk hg1, List.getElem?_toArray]
            exact U8s_get (by rw [hx]; simp [idOf_length, show k / 2 < 32 by omega])
          have hf : (W.iter s (k + 1)).frozen? ⟨w.heap.size + 1, k / 2, none⟩ = false := free_blk hg1 _
          have hor := or_digit x d hsm.1 hsm.2 hdr.1 hdr.2
          have hrel : PrRel w s (k + 1) ((W.iter s (k + 1)).setCell ⟨w.heap.size + 1, k / 2, none⟩ (.int .u8 (16 * x + d))) := by
            rw [iter_setCell W s (k + 1) _ _ (by show w.heap.size + 1 < _; omega)]
            refine ⟨⟨_, _, rfl, by rw [World.size_setCell]; exact hWs, hWk.setCell (fun h => absurd h (by show ¬ w.heap.size + 1 < _; omega)) _, hnext, ?_, ?_⟩⟩
            · rw [other_blk hw0 (by show w.heap.size ≠ w.heap.size + 1; omega)]
            · rw [set_blk hw1]
              congr 2
              apply Array.ext'
              rw [← hset]
              simp [U8s, List.map_set]
          have hpos : ((W.iter s (k + 1)).setCell ⟨w.heap.size + 1, k / 2, none⟩ (.int .u8 (16 * x + d))).iterPos (w.heap.size + 2) = k + 1 := by
            rw [iter_setCell W s (k + 1) _ _ (by show w.heap.size + 1 < _; omega)]
            have := World.iterPos_iter (W.setCell ⟨w.heap.size + 1, k / 2, none⟩ (.int .u8 (16 * x + d))) s (k + 1)
            rw [World.size_setCell, hWs] at this
            exact this
          have hpos0 : (W.iter s k).iterPos (w.heap.size + 2) = k := by
            have := World.iterPos_iter W s k
            rw [hWs] at this
            exact this
          obtain ⟨hx0, hx1⟩ := hsm
          obtain ⟨hd0, hd1⟩ := hdr
          have q0 : (0 : Int) ≤ (k : Int) / 2 := by omega
          have q1 : (k : Int) / 2 < 32 := by omega
          have HN := Lib.hid hrel
          have HD := Lib.hid hd
          have HP := Lib.hid hpos
          have HP0 := Lib.hid hpos0
          clear hrel hd hpos hpos0 hset hnext hg1 hw0 hw1 hns hx hWs
          generalize ((s[k]'hks).toNat : Int) = r at *
          go_wp2_with fail
          refine (digit_yes r d HD.out _).mono ?_
          rintro e w1 ⟨rfl, rfl⟩
          go_wp2_with fail
          go_roundw
          case rel => exact ⟨k + 1, by omega, HN.out⟩
          case measure => rw [HP.out, HP0.out]; omega
      · obtain rfl : k = 64 := by omega
        have hnx : ∀ ty, (Instr.next (.pointer (some ⟨w.heap.size + 1 + 1, 0, none⟩)) true ty).run Tryd.prog (W.iter s 64) = .ok (.tuple #[.bool false]) (W.iter s 64) := fun ty => by
          have := run_next_end (P := Tryd.prog) W s 64 ty (by rw [HSZ.out]; omega)
          rw [hWs] at this
          exact this
        have hgood : parsed (Bys s) = (idOf ns, 0) := by
          unfold parsed
          rw [if_pos (by rw [HL.out, HSZ.out]), nibs_of (Bys s) ns (by rw [HL.out, HSZ.out]; exact hns)]
        have HB := Lib.hid hgood
        have HG0 := Lib.hid (old_blk hw0 (.stringIter s 64))
        have HG1 := Lib.hid (old_blk hw1 (.stringIter s 64))
        have HK := Lib.hid (hWk.alloc (.stringIter s 64))
        have HI2 := Lib.hid (info32 _ (idOf_length ns))
        clear hgood hw0 hw1 hns hWs
        go_wp2_with (first
          | (refine wpList_load_row rfl 26 _ rfl (w.heap.size + 1) rfl 26 _ (0, 0) _ HG1.out Tryd.underlying26 rfl HI2.out ?_)
          | (refine wpList_store_row rfl 26 _ _ rfl w.heap.size _ rfl rfl 26 _ HG0.out HI2.out (by rw [List.size_toArray, List.size_toArray, U8s_length, U8s_length, idOf_length]; rfl) (all_oneCell_toArray (U8s_one _)) ?_))
        rw [HB.out]
        refine bodyPost_ret (v := .tuple #[.agg (U8s (idOf ns)).toArray, .int .i64 0]) (results_name Tryd.results18 _ _ w.heap.size _ _ rfl rfl
          (run_loadVar_row _ w.heap.size 26 26 _ (0, 0) _ (setRow_blk HG0.out) Tryd.underlying26 rfl HI2.out)) rfl ⟨rfl, ?_⟩
        exact HK.out.setRow (by simp) _
  · have hp : parsed (Bys s) = (id0, 20) := by unfold parsed; rw [if_neg (by rw [hlen]; exact hs)]; rfl
    have hne : ((s.size : Int) != 64) = true := by simp; omega
    have HP := Lib.hid hp
    clear hp hlen hs
    go_enter Tryd.func18, Tryd.ntmps18
    go_wp2_with (refine wpList_store_row rfl 26 _ _ rfl w.heap.size _ rfl rfl 26 _ H0.out HI.out rfl (all_oneCell_toArray (U8s_one _)) ?_)
    rw [HP.out]
    refine bodyPost_ret (v := .tuple #[.agg (U8s id0).toArray, .int .i64 20]) (results_name Tryd.results18 _ _ w.heap.size _ _ rfl rfl (HKU.out _ (setRow_blk H0.out))) rfl ⟨rfl, ?_⟩
    exact (((Kp.refl _ w).alloc _).alloc _).setRow (by simp) _
end Go.Proofs.YtopckankheljhaaDoor
