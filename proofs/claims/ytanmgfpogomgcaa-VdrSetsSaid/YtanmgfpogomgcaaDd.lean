/-
  Find, the program's: slices.IndexFunc over a closure that holds a name.
-/
import Derived.Test.YtanmgfpogomgcaaDc
namespace Go.Proofs.Ytanmgfpogomgcaa
open Go.RowKit

set_option maxRecDepth 100000 in
set_option maxHeartbeats 800000 in
theorem find1_any (x : Vd) (b : Nat) (n : ByteArray) (w : World) (hb : w.cell? ⟨b, 0, none⟩ = some (.string n)) :
    Calls Try.prog 23 #[.agg (vdC x).toArray, .pointer (some ⟨b, 0, none⟩)] w fun e w' => e = .returned (.bool (x.name.toList == n.toList)) ∧ Kp (fun _ => False) w w' := by
  have hlt := lt_of_cell hb
  have h1 : (w.alloc (.cells #[.string x.name, .int .i64 x.wt] 31)).cell? ⟨b, 0, none⟩ = some (.string n) := by
    rw [((Kp.refl (fun _ => False) w).alloc _).cell hlt (fun f => f)]; exact hb
  have h2 := cell_blk (new_blk w (.cells #[.string x.name, .int .i64 x.wt] 31)) 0
  have hk := Lib.hid ((Kp.refl (fun _ => False) w).alloc (.cells #[.string x.name, .int .i64 x.wt] 31))
  unfold vdC
  obtain ⟨z, hz⟩ : ∃ z, z = (x.name.toList == n.toList) := ⟨_, rfl⟩
  rw [← hz]
  have hz' : (x.name.toList == n.toList) = z := hz.symm
  clear hz hb
  go_enter Try.func23, Try.ntmps23
  go_wp2
  go_ret
  exact ⟨rfl, hk.out⟩

set_option maxRecDepth 100000 in
set_option maxHeartbeats 800000 in
theorem indexFunc_any {v : Value} {l : List Vd} {w : World} (hs : SeesV w v l) (b : Nat) (n : ByteArray) (hb : w.cell? ⟨b, 0, none⟩ = some (.string n)) :
    Calls Try.prog 22 #[v, .func (.func 23) #[] #[.pointer (some ⟨b, 0, none⟩)]] w fun e w' => e = .returned (.int .i64 (findV l n)) ∧ Kp (fun _ => False) w w' := by
  obtain ⟨a, c, rfl, hlc, hmax⟩ := hs.form
  have HS := Lib.hid hs
  have HB := Lib.hid hb
  have HC := Lib.hid (fun x w' h => find1_any x b n w' h)
  have F0 := Lib.hid (fun (k : Nat) (x : Vd) (hk : l[k]? = some x) (hx : x.name = n) (h : ∀ (j : Nat) (y : Vd), j < k → l[j]? = some y → y.name ≠ n) => findV_at hk hx h)
  have F1 := Lib.hid (fun (h : ∀ (j : Nat) (y : Vd), l[j]? = some y → y.name ≠ n) => findV_none h)
  have HI : (Try.prog.info? 31).map (·.size) = some 2 := by kernel_rfl
  have HI := Lib.hid HI
  obtain ⟨z, hz⟩ : ∃ z, z = findV l n := ⟨_, rfl⟩
  rw [← hz] at F0 F1 ⊢
  clear hs hz hb
  go_enter Try.func22, Try.ntmps22
  go_wp2
  go_loopw [8] (fun i wr => ∃ k : Nat, k ≤ l.length ∧ i = .int .i64 k ∧ Kp (fun _ => False) w wr ∧ Hid (∀ (j : Nat) (y : Vd), j < k → l[j]? = some y → y.name ≠ n)) (fun i _ => l.length - (intOf i).toNat)
  case atStart => exact ⟨0, by omega, rfl, Kp.refl _ _, Lib.hid (fun j y h => by omega)⟩
  case round =>
    obtain ⟨k, hk, rfl, hkp, hsm⟩ := hrel
    by_cases hlt : k < l.length
    · obtain ⟨x, hx⟩ : ∃ x, l[k]? = some x := ⟨l[k], by simp [hlt]⟩
      obtain ⟨g, off, rfl, hr, _⟩ := (HS.out.kept hkp).at hx
      have HR := Lib.hid hr
      have HX := Lib.hid hx
      have HC2 := Lib.hid (HC.out x wr (by rw [hkp.cell (lt_of_cell HB.out) (fun f => f)]; exact HB.out))
      have HK := Lib.hid hkp
      clear hx hr hkp
      go_wp2_with (first
        | ((with_reducible refine at_dst 15 ?_); refine wpList_load_mid rfl 31 _ rfl g (off + k * 2) rfl (vdC x) _ HR.out Try.underlying31 rfl HI.out ?_)
        | fail)
      refine HC2.out.mono ?_
      rintro e w2 ⟨rfl, k2⟩
      have K2 := Lib.hid (HK.out.trans k2 (fun _ _ f => f))
      clear k2
      by_cases hn : x.name = n
      · have HN := Lib.hid (F0.out k x HX.out hn hsm.out)
        rw [name_eq hn]
        clear hn
        go_wp2
        go_ret
        exact ⟨by rw [HN.out]; rfl, K2.out⟩
      · rw [name_ne hn]
        have HN := Lib.hid hn
        clear hn
        go_wp2
        go_roundw
        case rel => exact ⟨k + 1, by omega, by go_num, K2.out, Lib.hid (fun j y hj hy => by
          rcases Nat.lt_or_ge j k with h | h
          · exact hsm.out j y h hy
          · obtain rfl : j = k := by omega
            rw [HX.out] at hy
            cases hy
            exact HN.out)⟩
        case measure => simp [intOf]; omega
    · obtain rfl : k = l.length := by omega
      have HZ := Lib.hid (F1.out (fun j y hy => hsm.out j y ((List.getElem?_eq_some_iff.1 hy).1) hy))
      have HK := Lib.hid hkp
      clear hkp
      go_wp2
      go_ret
      exact ⟨by rw [HZ.out]; rfl, HK.out⟩

set_option maxRecDepth 100000 in
set_option maxHeartbeats 800000 in
theorem find_any {v : Value} {l : List Vd} {w : World} (hs : SeesV w v l) (n : ByteArray) : Calls Try.prog 10 #[v, .string n] w fun e w' => e = .returned (.int .i64 (findV l n)) ∧ Kp (fun _ => False) w w' := by
  have k0 : Kp (fun _ => False) w (w.alloc (.cells #[.string n] 9)) := (Kp.refl _ _).alloc _
  have HC := Lib.hid (indexFunc_any (hs.kept k0) w.heap.size n (cell_blk (new_blk w _) 0))
  have K0 := Lib.hid k0
  obtain ⟨a, c, rfl, hlc, hmax⟩ := hs.form
  clear hs k0
  go_enter Try.func10, Try.ntmps10
  go_wp2_with fail
  refine HC.out.mono ?_
  rintro e w2 ⟨rfl, k2⟩
  have K2 := Lib.hid (K0.out.trans k2 (fun _ _ f => f))
  clear k2
  go_wp2
  go_ret
  exact ⟨rfl, K2.out⟩
end Go.Proofs.Ytanmgfpogomgcaa
