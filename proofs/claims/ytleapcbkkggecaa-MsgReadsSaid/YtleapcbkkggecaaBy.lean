/-
  Bytes and texts: a slice of bytes as a text, two texts held against each other, bytes.Compare.
-/
import Derived.Test.YtleapcbkkggecaaRows
import Derived.Test.YtleapcbkkggecaaMem
import Derived.WalkKit
import Derived.ProofKit
import Derived.Outline
import Derived.Lib.Hide
import Derived.WalkLawsBesides
import Derived.WalkSpells
import Derived.Laws.BytesArg
import Derived.Laws.BytesString
import Derived.Lib.Bytealg
import Derived.Laws.Externs
namespace Go.Proofs.Ytleapcbkkggecaa
open Go.ChangeShapes Go.WideShapes Go.ChangeAt Go.RowKit

/-- a text's bytes -/
def Bys (s : ByteArray) : List Int := s.data.toList.map fun b => (b.toNat : Int)
theorem run_string_of {w : World} {b : Value} {xs : List Int} (hs : Sees w b xs) : (convert 29 9 b).run Try.prog w = .ok (.string (strOfNums xs)) w := by
  rcases hs with ⟨rfl, rfl⟩ | ⟨ad, cap, rfl, h1, h2, hc⟩
  · exact run_convert_bytes_nil w 29 5 Try.underlying29 Try.underlying5 0 0 9 Try.underlying9
  · have hl : (loadCells ad xs.length).run Try.prog w = .ok (xs.map (Value.int .u8)).toArray w := by
      have h := run_loadCells_list (P := Try.prog) w ad (U8s xs) (fun j v hj => by
        obtain ⟨x, hx, rfl⟩ := U8s_inv hj
        exact hc j x hx)
      rw [U8s_length] at h
      exact h
    rw [run_convert_bytes_string w 29 9 5 _ _ cap Try.underlying29 Try.underlying5 Try.underlying9, run_bytesToString w _ _ cap xs hl, foldl_push_bytes]
    simp [strOfNums, ByteArray.empty, ByteArray.emptyWithCapacity]
    rfl
theorem Bys_strOfNums {xs : List Int} (h : Rng xs) : Bys (strOfNums xs) = xs := by
  unfold Bys
  rw [strOfNums_data, List.map_map]
  conv => rhs; rw [← List.map_id xs]
  apply List.map_congr_left
  intro x hx
  have := h x hx
  simp only [Function.comp, id, UInt8.toNat_ofNat']
  omega

theorem strOf_inj {xs ys : List Int} (hx : Rng xs) (hy : Rng ys) : ((strOfNums xs).toList == (strOfNums ys).toList) = decide (xs = ys) := by
  rw [Lib.toList_data, Lib.toList_data]
  by_cases h : xs = ys
  · subst h; simp
  · rw [decide_eq_false h]
    refine beq_eq_false_iff_ne.2 (fun e => h ?_)
    rw [← Bys_strOfNums hx, ← Bys_strOfNums hy]
    unfold Bys
    rw [e]

theorem run_loadBytes (w : World) (b : Nat) : ∀ (xs : List Int) (off : Nat) (acc : ByteArray), (∀ i x, xs[i]? = some x → w.cell? ⟨b, off + i, none⟩ = some (.int .u8 x)) →
    (Extern.Bytes.loadBytes ⟨b, off, none⟩ xs.length acc).run Try.prog w = .ok (xs.foldl (fun r n => r.push (UInt8.ofNat n.toNat)) acc) w
  | [], _, _, _ => rfl
  | x :: xs, off, acc, h => by
    have h0 := h 0 x rfl
    have ih := run_loadBytes w b xs (off + 1) (acc.push (UInt8.ofNat x.toNat)) (fun i y hy => by
      have := h (i + 1) y hy
      rw [show off + 1 + i = off + (i + 1) by omega]; exact this)
    have hl : (load ⟨b, off, none⟩).run Try.prog w = .ok (.int .u8 x) w := by
      rw [Nat.add_zero] at h0
      simp [go_sem, h0]
    show (Extern.Bytes.loadBytes ⟨b, off, none⟩ (xs.length + 1) acc).run Try.prog w = _
    simp only [Extern.Bytes.loadBytes, Sem.run_bind, hl, Result.andThen]
    exact ih

theorem run_bytesOf {w : World} {v : Value} {xs : List Int} (h : Sees w v xs) : (Extern.Bytes.bytesOf v).run Try.prog w = .ok (strOfNums xs) w := by
  have hf : xs.foldl (fun r n => r.push (UInt8.ofNat n.toNat)) ByteArray.empty = strOfNums xs := by
    rw [foldl_push_bytes]; simp [strOfNums, ByteArray.empty, ByteArray.emptyWithCapacity]; rfl
  rcases h with ⟨rfl, rfl⟩ | ⟨ad, cap, rfl, h1, h2, hc⟩
  · rw [← hf]; rfl
  · cases xs with
    | nil => rw [← hf]; rfl
    | cons x r =>
      have h0 := hc 0 x rfl
      have hs := spot_of_cell h0
      obtain ⟨b, off, s⟩ := ad
      have hs' : s = none := by simpa [Addr.add] using hs
      subst hs'
      have h3 := run_loadBytes w b (x :: r) off ByteArray.empty (fun i y hy => by
        have := hc i y hy
        rw [Addr.add_lit] at this; exact this)
      rw [hf] at h3
      exact h3

theorem run_compare {w : World} {a b : Value} {xs ys : List Int} (ha : Sees w a xs) (hb : Sees w b ys) :
    (Extern.BytealgCompare.compare #[a, b]).run Try.prog w = .ok (.int .i64 (Lib.compareBytes (strOfNums xs).data.toList (strOfNums ys).data.toList)) w := by
  change Sem.run Try.prog (do pure (goInt (Extern.BytealgCompare.cmp (← Extern.Bytes.bytesOf a) (← Extern.Bytes.bytesOf b)))) w = _
  simp only [Sem.run_bind, Sem.run_pure, Result.andThen, run_bytesOf ha, run_bytesOf hb]
  rw [Lib.cmp_eq]
  rfl

def cmpI : List Int → List Int → Int
  | [], [] => 0
  | [], _ :: _ => -1
  | _ :: _, [] => 1
  | a :: xs, b :: ys => if a < b then -1 else if b < a then 1 else cmpI xs ys
theorem compareBytes_eq : ∀ (xs ys : List Int), Rng xs → Rng ys → Lib.compareBytes (strOfNums xs).data.toList (strOfNums ys).data.toList = cmpI xs ys
  | [], [], _, _ => rfl
  | [], _ :: _, _, _ => rfl
  | _ :: _, [], _, _ => rfl
  | x :: xs, y :: ys, hx, hy => by
    have ih := compareBytes_eq xs ys (fun z hz => hx z (List.mem_cons_of_mem _ hz)) (fun z hz => hy z (List.mem_cons_of_mem _ hz))
    have hx0 := hx x (List.mem_cons_self ..)
    have hy0 := hy y (List.mem_cons_self ..)
    rw [strOfNums_data, strOfNums_data] at ih ⊢
    simp only [List.map_cons, Lib.compareBytes, cmpI, ih]
    have e1 : (UInt8.ofNat x.toNat < UInt8.ofNat y.toNat) ↔ x < y := by
      rw [UInt8.lt_iff_toNat_lt]; simp only [UInt8.toNat_ofNat']; omega
    have e2 : (UInt8.ofNat y.toNat < UInt8.ofNat x.toNat) ↔ y < x := by
      rw [UInt8.lt_iff_toNat_lt]; simp only [UInt8.toNat_ofNat']; omega
    simp only [e1, e2]

end Go.Proofs.Ytleapcbkkggecaa
