/-
  The stake of some: the document's.
-/
import Derived.Test.YtphbckjadebdmaaDs
namespace Go.Proofs.Ytphbckjadebdmaa
open Go.RowKit

theorem infoBoolZ : (Try.prog.info? 4).map (fun i => (i.zero, i.size, i.bytes)) = some (some (.bool false), 1, 1) := by kernel_rfl
theorem madeCells_one (z : Array Value) (v : Value) (hz : ∀ i, i < z.size → z[i]! = v) (h1 : 0 < z.size) (n : Nat) : madeCells z n = (List.replicate n v).toArray := by
  apply Array.ext
  · simp [size_madeCells]
  · intro i h1' h2'
    simp only [madeCells, Array.getElem_map, Array.getElem_range, List.getElem_toArray, List.getElem_replicate]
    exact hz _ (Nat.mod_lt _ h1)
theorem mkBools (n : Nat) (hn : n ≤ 1000) (w : World) : (Instr.makeSlice 61 (.int .i64 (n : Int)) (.int .i64 (n : Int))).run Try.prog w = .ok (.slice (some ⟨w.heap.size, 0, none⟩) n n) (w.alloc (.cells (marks n []).toArray 4)) := by
  obtain ⟨i, h1, h2, h3, h4⟩ := info_parts infoBoolZ
  have h := run_makeSlice w 61 4 i _ Try.underlying61 h1 h2 .i64 .i64 n n (by omega) (by omega) (by rw [h3]; omega) (by rw [h4]; omega) (by omega)
  rw [h, h3, Int.toNat_natCast, Nat.mul_one, marks_nil]
  have e : madeCells (Value.bool false).cells n = (List.replicate n (.bool false)).toArray := by
    apply madeCells_one
    · intro i hi
      have : i = 0 := by have : i < 1 := hi; omega
      subst this; rfl
    · show 0 < 1; omega
  rw [e]

set_option maxRecDepth 100000 in
set_option maxHeartbeats 1600000 in
theorem rsum_any {v vn : Value} {l : List Vd} {who : List Int} {w : World} (hs : SeesV w v l) (hv : VOk l) (hn : SeesN w vn who) :
    Calls Try.prog 24 #[v, vn] w fun e w' => e = .returned (.tuple #[.int .i64 (whoV l who).1, .int .i64 (whoV l who).2]) ∧ Kp (fun _ => False) w w' := by
  obtain ⟨a, c, rfl, hlc, hmax⟩ := hs.form
  obtain ⟨an, cn, rfl, hlcn, hmaxn⟩ := hn.form
  have HS := Lib.hid hs
  have HN := Lib.hid hn
  have HC := Lib.hid (rcheck_any hs hv)
  obtain ⟨q1, h1⟩ : ∃ q, q = (whoV l who).1 := ⟨_, rfl⟩
  obtain ⟨q2, h2⟩ : ∃ q, q = (whoV l who).2 := ⟨_, rfl⟩
  rw [← h1, ← h2]
  obtain ⟨ce, hce⟩ : ∃ ce, ce = checkE l := ⟨_, rfl⟩
  have HZ := Lib.hid (fun (h : ce ≠ 0) => (show q1 = 0 ∧ q2 = ce by rw [h1, h2]; unfold whoV; rw [← hce, decide_eq_false h]; exact ⟨rfl, rfl⟩))
  have HBad := Lib.hid (fun (h : ce = 0) (h' : whoOk l.length who = false) => (show q1 = 0 ∧ q2 = 4 by rw [h1, h2]; unfold whoV; rw [← hce, decide_eq_true h, h']; exact ⟨rfl, rfl⟩))
  have HGd := Lib.hid (fun (h : ce = 0) (h' : whoOk l.length who = true) => (show q1 = sumGo 0 l who ∧ q2 = 0 by rw [h1, h2]; unfold whoV; rw [← hce, decide_eq_true h, h']; exact ⟨rfl, rfl⟩))
  have HG := Lib.hid (fun (h : ce = 0) => checkE_ok.1 (hce.symm.trans h))
  rw [← hce] at HC
  clear hs hv hn h1 h2 hce
  go_enter Try.func24, Try.ntmps24
  go_wp2_with fail
  refine HC.out.mono ?_
  rintro e w2 ⟨rfl, k2⟩
  have K2 := Lib.hid k2
  clear k2
  by_cases h0 : ce = 0
  · have h0' : (ce != 0) = false := by simp [h0]
    have G := HG.out h0
    have h32 := G.most
    have HGG := Lib.hid G
    have hmk := mkBools l.length (by omega) w2
    clear G
    go_wp2
    go_loopw [8] (fun i wr => ∃ (k : Nat), k ≤ who.length ∧ i = .int .i64 k ∧ Kp (fun _ => False) w wr ∧
      Hid (wr.heap[w2.heap.size]? = some (.cells (marks l.length (who.take k)).toArray 4 (0, 0))) ∧ Hid (∀ (j : Nat) (x : Int), j < k → who[j]? = some x → 0 ≤ x ∧ x < l.length)) (fun i _ => who.length - (intOf i).toNat)
    case atStart => exact ⟨0, by omega, rfl, K2.out.alloc _, Lib.hid (new_blk _ _), Lib.hid (fun j x h => by omega)⟩
    case round =>
      obtain ⟨k, hk, rfl, hkp, hbk, hall⟩ := hrel
      have HK := Lib.hid hkp
      by_cases hlt : k < who.length
      · obtain ⟨x, hx⟩ : ∃ x, who[k]? = some x := ⟨who[k], by simp [hlt]⟩
        obtain ⟨gn, offn, rfl, hcn⟩ := (HN.out.kept hkp).at hx
        have HX := Lib.hid hx
        clear hx hkp
        by_cases hneg : x < 0
        · obtain ⟨rfl, rfl⟩ := HBad.out h0 (whoOk_no HX.out (.inl hneg))
          go_wp2
          go_ret2
          exact ⟨rfl, HK.out⟩
        · by_cases hbig : (l.length : Int) ≤ x
          · obtain ⟨rfl, rfl⟩ := HBad.out h0 (whoOk_no HX.out (.inr hbig))
            go_wp2
            go_ret2
            exact ⟨rfl, HK.out⟩
          · obtain ⟨m, rfl⟩ : ∃ m : Nat, x = m := ⟨x.toNat, by omega⟩
            have hm : m < l.length := by omega
            have hcm : wr.cell? ⟨w2.heap.size, m, none⟩ = some (.bool (decide ((m : Int) ∈ who.take k))) := by rw [cell_blk hbk.out, List.getElem?_toArray]; exact marks_get hm
            have hfm : wr.frozen? ⟨w2.heap.size, m, none⟩ = false := free_blk hbk.out m
            have hTK := Lib.hid (show who.take (k + 1) = who.take k ++ [(m : Int)] by
              obtain ⟨hk', e⟩ := List.getElem?_eq_some_iff.1 HX.out
              rw [List.take_succ_eq_append_getElem hk', e])
            have HALL := Lib.hid (show ∀ (j : Nat) (x : Int), j < k + 1 → who[j]? = some x → 0 ≤ x ∧ x < l.length from fun j y hj hy => by
              rcases Nat.lt_or_ge j k with h | h
              · exact hall.out j y h hy
              · obtain rfl : j = k := by omega
                rw [HX.out] at hy
                cases hy
                omega)
            have hbk2 := set_blk hbk.out m (.bool true)
            rw [marks_set, ← hTK.out] at hbk2
            have HB2 := Lib.hid hbk2
            have HK2 := Lib.hid (show Kp (fun _ => False) w (wr.setCell ⟨w2.heap.size, m, none⟩ (.bool true)) from HK.out.setCell (fun h => by have := K2.out.size; simp only at h; omega) _)
            clear hbk2
            go_wp2
            go_roundw
            case rel => exact ⟨k + 1, by omega, by go_num, HK2.out, HB2, HALL⟩
            case measure => simp [intOf]; omega
      · obtain rfl : k = who.length := by omega
        obtain ⟨e1, rfl⟩ := HGd.out h0 (whoOk_yes (fun j x hj => hall.out j x ((List.getElem?_eq_some_iff.1 hj).1) hj))
        have HE := Lib.hid e1
        have hbk1 := hbk.out
        rw [List.take_length] at hbk1
        have HBK := Lib.hid hbk1
        clear e1 hkp hbk1 hbk
        obtain ⟨w0, hw0⟩ : ∃ w0, w0 = wr := ⟨_, rfl⟩
        rw [← hw0] at HK HBK ⊢
        clear hw0
        go_wp2
        go_loopw [9, 10] (fun f i wr => ∃ (k : Nat) (s : Int), k ≤ l.length ∧ i = .int .i64 k ∧ f = .int .i64 s ∧ (0 ≤ s ∧ s ≤ 4611686018427387903) ∧ wr = w0 ∧ Hid (s = sumGo 0 (l.take k) who)) (fun _ i _ => l.length - (intOf i).toNat)
        case atStart => exact ⟨0, 0, by omega, rfl, rfl, by omega, rfl, Lib.hid (by simp [sumGo])⟩
        case round =>
          obtain ⟨k, s, hk, rfl, rfl, ⟨hs0, hs1⟩, rfl, hsm⟩ := hrel
          by_cases hlt : k < l.length
          · obtain ⟨y, hy⟩ : ∃ y, l[k]? = some y := ⟨l[k], by simp⟩
            obtain ⟨g, off, rfl, _, _, hcy⟩ := (HS.out.kept HK.out).at hy
            have hcm : wr.cell? ⟨w2.heap.size, k, none⟩ = some (.bool (decide ((k : Int) ∈ who))) := by rw [cell_blk HBK.out, List.getElem?_toArray]; exact marks_get hlt
            have hst := sumGo_snoc (l := l) (d := who) (i := 0) hy
            rw [Nat.zero_add, ← hsm.out] at hst
            have hbound := sumGo_bound (l := l.take (k + 1)) (fun x hx => weightsOk_pos HGG.out.wt x (List.mem_of_mem_take hx)) who 0
            have hpre := (HGG.out.pre (k + 1)).2
            have hsum := HGG.out.sum
            by_cases hin : (k : Int) ∈ who
            · rw [decide_eq_true hin] at hcm
              rw [if_pos hin] at hst
              rw [hst] at hbound
              have hb1 : 0 ≤ s + y.wt ∧ s + y.wt ≤ 4611686018427387903 := by omega
              have HS2 := Lib.hid hst.symm
              clear hin hst hbound hpre hsum hy
              go_wp2
              go_roundw
              case rel => exact ⟨k + 1, _, by omega, by go_num, rfl, hb1, by first | rfl | trivial, HS2⟩
              case measure => simp [intOf]; omega
            · rw [decide_eq_false hin] at hcm
              rw [if_neg hin, Int.add_zero] at hst
              have HS2 := Lib.hid hst.symm
              clear hin hst hbound hpre hsum hy
              go_wp2
              go_roundw
              case rel => exact ⟨k + 1, _, by omega, by go_num, rfl, by omega, by first | rfl | trivial, HS2⟩
              case measure => simp [intOf]; omega
          · obtain rfl : k = l.length := by omega
            have HE2 := Lib.hid (show q1 = s by rw [HE.out, hsm.out, List.take_length])
            go_wp2
            go_ret2
            exact ⟨by rw [HE2.out]; rfl, HK.out⟩
  · have h0' : (ce != 0) = true := by simp [h0]
    obtain ⟨rfl, rfl⟩ := HZ.out h0
    go_wp2
    go_ret2
    exact ⟨rfl, K2.out⟩
end Go.Proofs.Ytphbckjadebdmaa
