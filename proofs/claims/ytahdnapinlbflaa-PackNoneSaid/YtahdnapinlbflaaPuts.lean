/-
  PackPuts: its walk.
-/
import Derived.Test.YtahdnapinlbflaaPt
import Derived.Test.YtahdnapinlbflaaFew
namespace Go.Proofs.Ytahdnapinlbflaa
open Go.ChangeShapes Go.WideShapes Go.ChangeAt Go.RowKit

theorem quiet_left {P : Program} {f : FuncId} {args : Array Value} {w : World} {n : Nat} {v : Value}
    (h : Calls P f args (w.drewN n) fun e w' => e = .returned v ∧ w.drewN n = w') : Calls P f args (w.drewN n) fun e w'' => e = .returned v ∧ ∃ m, w'' = w.drewN m :=
  h.mono fun _ _ ⟨he, hm⟩ => ⟨he, n, hm.symm⟩

theorem putS_rng {lim : Int} {l : List Int} {e : Int} {x : List Int} (hl : Rng l) (hx : Rng x) : Rng (putS lim l e x).1 := by
  unfold putS
  split
  · split
    · exact hl.append hx
    · exact hl
  · exact hl
theorem Bys_rng (s : ByteArray) : Rng (Bys s) := by
  intro x hx
  unfold Bys at hx
  obtain ⟨b, _, rfl⟩ := List.mem_map.1 hx
  have := b.toNat_lt
  omega
theorem itemS_rng {lim : Int} {l : List Int} {e d V : Int} {xs : List Int} (hl : Rng l) (hx : Rng xs) : Rng (itemS lim l e d V xs).1 := by
  unfold itemS putT
  repeat' split
  all_goals first | exact hl | exact putS_rng hl hx | exact putS_rng hl (be_rng _ _) | exact putS_rng hl ((be_rng _ _).append hx) | exact putS_rng hl ((be_rng _ _).append (Bys_rng _))

theorem PK.drewN {w : World} {B q : Nat} {v : Value} {lim : Int} {l : List Int} {e : Int} (h : PK w B q v lim l e) (n : Nat) : PK (w.drewN n) B q v lim l e :=
  ⟨h.cell, h.own, h.ne, h.base, h.lims⟩
theorem St.drewN {w : World} {B p q : Nat} {v u : Value} {lim1 : Int} {l1 : List Int} {e1 : Int} {lim2 : Int} {l2 : List Int} {e2 : Int} (h : St w B p q v u lim1 l1 e1 lim2 l2 e2) (n : Nat) : St (w.drewN n) B p q v u lim1 l1 e1 lim2 l2 e2 :=
  ⟨h.pk.drewN n, h.rk.drewN n, h.sep⟩
/-- a row that is written to, byte by byte: nothing else has turned -/
def XorRel (w0 : World) (va : Value) (n : Nat) (wx : World) : Prop :=
  Kp (fun x => va.ownBlock = some x) w0 wx ∧ (n = 0 ∨ ∃ g c cur, va = .slice (some ⟨g, 0, none⟩) n c ∧ wx.heap[g]? = some (.cells cur 5 (0, 0)) ∧ ∀ k, k < n → ∃ z, cur[k]? = some (.int .u8 z))
theorem xor_start {w5 : World} {B : Nat} {v : Value} {l : List Int} (h : OwnB w5 B v l) (n6 : Nat) : XorRel (w5.drewN n6) v l.length (w5.drewN n6) := by
  refine ⟨Kp.refl _ _, ?_⟩
  rcases h with ⟨_, rfl⟩ | ⟨g, cap, rest, rfl, h1, h2, h3, h4⟩
  · exact .inl rfl
  · refine .inr ⟨g, cap, _, rfl, h2, fun k hk => ⟨l[k], ?_⟩⟩
    rw [List.getElem?_toArray, List.getElem?_append_left (by rw [U8s_length]; exact hk), U8s_get (List.getElem?_eq_getElem hk)]
theorem xor_step {w0 wx : World} {va : Value} {n : Nat} (h : XorRel w0 va n wx) {k : Nat} (hk : k < n) :
    ∃ g c z, va = .slice (some ⟨g, 0, none⟩) n c ∧ wx.cell? ⟨g, k, none⟩ = some (.int .u8 z) ∧ wx.frozen? ⟨g, k, none⟩ = false ∧ ∀ x, XorRel w0 va n (wx.setCell ⟨g, k, none⟩ (.int .u8 x)) := by
  obtain ⟨hkp, h | ⟨g, c, cur, rfl, h2, h3⟩⟩ := h
  · omega
  · obtain ⟨z, hz⟩ := h3 k hk
    refine ⟨g, c, z, rfl, by rw [cell_blk h2, hz], free_blk h2 _, fun x => ⟨hkp.setCell (p := ⟨g, k, none⟩) (fun _ => rfl) _, .inr ⟨g, c, _, rfl, set_blk h2 _ _, fun j hj => ?_⟩⟩⟩
    by_cases hjk : j = k
    · subst hjk
      have hlt := (Array.getElem?_eq_some_iff.1 hz).1
      exact ⟨x, by rw [Array.getElem?_setIfInBounds, if_pos rfl, if_pos hlt]⟩
    · obtain ⟨y, hy⟩ := h3 j hj
      exact ⟨y, by rw [Array.getElem?_setIfInBounds, if_neg (by omega), hy]⟩
/-- between the rounds -/
def PutsRel (W : World) (p q : Nat) (lim : Int) (wr : World) : Prop :=
  ∃ v u l e, St wr W.heap.size p q v u lim l e lim l e ∧ Rng l ∧ Kp (fun _ => False) W wr

set_option maxHeartbeats 4000000 in
theorem puts_law {W : World} (limit : Int) {lv : Value} {its : List Itm} (h : ItemsAt W lv its) :
    Calls Try.prog 3 #[.int .i64 limit, lv] W fun r w' => r = .returned (.bool true) ∧ Kp (fun _ => False) W w' := by
  obtain ⟨la, lc, rfl, hlc, hlm⟩ := h.form
  have HL := Lib.hid (fun w => live_any w)
  have HI := Lib.hid h
  have hlc63 : lc ≤ 9223372036854775807 := hlm
  clear h hlm
  go_enter Try.func3, Try.ntmps3
  go_wp2_with fail
  refine (HL.out _).mono ?_
  rintro r w1 ⟨rfl, hk1⟩
  have HF := Lib.hid (few_any ((HI.out).kept hk1))
  have HK1 := Lib.hid hk1
  clear hk1
  go_wp2_with fail
  refine (HF.out).mono ?_
  rintro r w2 ⟨qb, rfl, hq, hk⟩
  have hk2 := (HK1.out).trans hk (fun _ _ f => f)
  have HK2 := Lib.hid hk2
  have HQ := Lib.hid hq
  clear hk hk2 hq
  cases qb
  · go_wp2_with fail
    refine (HL.out _).mono ?_
    rintro r w3 ⟨rfl, hk3⟩
    have HK3 := Lib.hid ((HK2.out).trans hk3 (fun _ _ f => f))
    clear hk3
    go_wp2_with fail
    go_ret
    exact ⟨rfl, HK3.out⟩
  · obtain ⟨hl200, hxs⟩ := HQ.out rfl
    have HX := Lib.hid hxs
    clear hxs
    have HN1 := Lib.hid (newP_any limit (w := w2) (B := W.heap.size) HK2.out.size)
    go_wp2_with fail
    refine (HN1.out).mono ?_
    rintro r w3 ⟨rfl, hp, hk, hsz⟩
    have hk3 := (HK2.out).trans hk (fun _ _ f => f)
    have HN2 := Lib.hid (newR_any limit (w := w3) (B := W.heap.size) hk3.size)
    have HP := Lib.hid hp
    have HK3 := Lib.hid hk3
    have HSZ := Lib.hid hsz
    clear hp hk hk3 hsz
    go_wp2_with fail
    refine (HN2.out).mono ?_
    rintro r w4 ⟨rfl, hr, hk, hsz⟩
    have hstart : PutsRel W w2.heap.size w3.heap.size limit w4 := by
      refine ⟨_, _, _, _, ⟨(HP.out).kept hk (fun _ _ f => f), hr, fun x hx hq => ?_⟩, (fun y hy => by cases hy), (HK3.out).trans hk (fun _ _ f => f)⟩
      have := HSZ.out
      rcases hx with rfl | hx
      · rcases hq with hq | hq
        · omega
        · cases hq
      · cases hx
    have HS := Lib.hid hstart
    clear hr hk hsz hstart
    go_wp2_with fail
    go_loopw [31] (fun i wr => ∃ k : Nat, k ≤ its.length ∧ i = .int .i64 k ∧ Hid (PutsRel W w2.heap.size w3.heap.size limit wr)) (fun i _ => its.length - (intOf i).toNat)
    case atStart => exact ⟨0, by omega, rfl, HS⟩
    case round =>
      obtain ⟨k, hk, rfl, hrel⟩ := hrel
      by_cases hlt : k < its.length
      · obtain ⟨v, u, l, e, hst, hrng, hkp⟩ := hrel.out
        have hne : its ≠ [] := by intro he; subst he; simp at hlt
        obtain ⟨b, off, cap, hlv, _, _, hit⟩ := (HI.out).lit hne
        obtain ⟨rfl, rfl⟩ : la = some ⟨b, off, none⟩ ∧ lc = cap := by injection hlv with h1 _ h2; exact ⟨h1, h2⟩
        obtain ⟨c, g⟩ := hit k its[k] (List.getElem?_eq_getElem hlt)
        have hc : ∀ {p : Addr} {u : Value}, W.cell? p = some u → wr.cell? p = some u := fun hh => (hkp.cell (lt_of_cell hh) (fun f => f)).trans hh
        have e0 := hc c.c0
        have e1 := hc c.c1
        have e2 := hc c.c2
        have e3 := hc c.c3
        have hxl := HX.out its[k] (List.getElem_mem hlt)
        obtain ⟨it, hitk⟩ : ∃ it, it = its[k] := ⟨_, rfl⟩
        rw [← hitk] at e0 e1 e2 e3 g hxl
        obtain ⟨d, V, n, bv, xs⟩ := it
        have hka : Kp (fun _ => False) wr (wr.alloc (.cells #[.int .i64 d, .int .u64 V, bv, .int .i64 n] 32)) := (Kp.refl _ _).alloc _
        have hka2 := hkp.trans hka (fun _ _ f => f)
        have hst1 := hst.fresh hka
        have hsees := g.sees.kept hka2 (fun _ _ _ f => f)
        have haway : Away bv xs (PF w2.heap.size v) := fun hne gb hgb hpf => by
          have h1 := g.sees.lt hne gb hgb
          have h2 := (hst.pk.foot gb hpf).1
          omega
        have HFo := Lib.hid (And.intro hst.pk.foot hst.rk.foot)
        have HP := Lib.hid (puts_any d V n g.vr.1 g.vr.2 hka2.size hst1 hsees haway (Nat.le_trans hxl (by omega)))
        have HR := Lib.hid (itemS_rng (lim := limit) (e := e) (d := d) (V := V) hrng g.rng)
        obtain ⟨bvp, bvc, hbv⟩ := sees_form g.sees
        simp only at hbv e0 e1 e2 e3
        subst hbv
        have HK := Lib.hid hka2
        clear hst hrng hkp hit hlv c g hc hitk hxl hka hka2 hst1 hsees haway hrel
        go_wp2_with fail
        refine (HP.out).mono ?_
        rintro r w5 ⟨rfl, v5, u5, hst5, hk5, _, _⟩
        obtain ⟨r1, hr1⟩ : ∃ r1, r1 = itemS limit l e d V xs := ⟨_, rfl⟩
        rw [← hr1] at hst5
        have hrng5 := HR.out
        rw [← hr1] at hrng5
        obtain ⟨l5, e5⟩ := r1
        simp only at hst5 hrng5
        have hk6 : Kp (fun _ => False) W w5 := (HK.out).trans hk5 (fun x hx hh => by
          rcases hh with hh | hh
          · have := (HFo.out.1 x hh).1; omega
          · have := (HFo.out.2 x hh).1; omega)
        have HRel : Hid (∀ n, PutsRel W w2.heap.size w3.heap.size limit (w5.drewN n)) := Lib.hid (fun n => ⟨v5, u5, l5, e5, hst5.drewN n, hrng5, hk6.drewN n⟩)
        obtain ⟨ua, uc, hu⟩ := hst5.rk.form
        obtain ⟨c0, c1, c2, _⟩ := hst5.rk.cells
        rw [hu] at c0
        have HLen := Lib.hid (fun n => quiet_left (n := n) (plen_any (hst5.pk.drewN n)))
        have HErr := Lib.hid (fun n => quiet_left (n := n) (perr_any (hst5.pk.drewN n)))
        have hb1 : ((l5.length : Int) != (l5.length : Int)) = false := by simp
        have hb2 : (e5 != e5) = false := by simp
        clear hst5 hk5 hk6 hrng5 hr1 hu
        go_wp2_with fail
        go_quiet (first | (go_at_call 14; exact HLen.out _) | (go_at_call 15; exact HErr.out _))
        rename_i nq
        go_wp2_with fail
        go_roundw
        case rel => exact ⟨k + 1, by omega, by go_num, Lib.hid (HRel.out nq)⟩
        case measure => simp [intOf]; omega
      · obtain ⟨v, u, l, e, hst, hrng, hkp⟩ := hrel.out
        obtain ⟨bv, hbv⟩ : ∃ bv, bv = (if e = 0 then u else .slice none 0 0) := ⟨_, rfl⟩
        obtain ⟨lx, hlx⟩ : ∃ lx, lx = (if e = 0 then l else []) := ⟨_, rfl⟩
        have HRN := Lib.hid (show Rng lx by rw [hlx]; split; exact hrng; intro y hy; cases hy)
        have HO := Lib.hid (fun w' (k : Kp (fun _ => False) wr w') => pout_any (hst.fresh k).pk)
        have HQ := Lib.hid (fun w' (k : Kp (fun _ => False) wr w') => rout_any (hst.fresh k).rk)
        rw [← hbv] at HQ
        have hsb : ∀ w', Kp (fun _ => False) wr w' → Sees w' bv lx := fun w' k => by
          rw [hbv, hlx]
          split
          · exact (hst.fresh k).rk.own.sees
          · exact .inl ⟨rfl, rfl⟩
        have hbf : ∀ g, bv.ownBlock = some g → g < wr.heap.size := by
          rw [hbv]
          split
          · intro g hg; exact (hst.rk.own.lt g hg).2
          · intro g hg; cases hg
        have HSB := Lib.hid hsb
        have HBF := Lib.hid hbf
        have HST := Lib.hid hst
        have HKP := Lib.hid hkp
        have HLX := Lib.hid hlx
        clear hst hrng hkp hrel hsb hbf hbv hlx
        go_wp2_with fail
        refine ((HO.out) wr (Kp.refl _ _)).mono ?_
        rintro r w5 ⟨va, rfl, hown, hk5⟩
        rw [← HLX.out] at hown
        have HOW := Lib.hid hown
        have HK5 := Lib.hid hk5
        clear hown hk5
        go_wp2_with fail
        refine ((HQ.out) w5 HK5.out).mono ?_
        rintro r w6 ⟨rfl, n6, rfl⟩
        have hb1 : (e != e) = false := by simp
        have hsa : Sees (w5.drewN n6) va lx := (HOW.out).sees
        have HE := Lib.hid (equal_any hsa (HSB.out _ (HK5.out.drewN n6)) HRN.out HRN.out)
        obtain ⟨aa, ac, hva⟩ := sees_form hsa
        subst hva
        clear hsa
        go_wp2_with fail
        refine (HE.out).mono ?_
        rintro r w7 ⟨rfl, rfl⟩
        have hxr : Hid (XorRel (w5.drewN n6) (.slice aa lx.length ac) lx.length (w5.drewN n6)) := Lib.hid (xor_start HOW.out n6)
        have hlx63 : lx.length ≤ 8192 := by
          rw [HLX.out]
          split
          · rename_i he; have := (HST.out).pk.lims he; omega
          · exact Nat.zero_le _
        obtain ⟨wo, rfl⟩ : ∃ wo : World, wo = wr := ⟨_, rfl⟩
        go_wp2_with fail
        go_loopw [78] (fun i wx => ∃ k : Nat, k ≤ lx.length ∧ i = .int .i64 k ∧ Hid (XorRel (w5.drewN n6) (.slice aa lx.length ac) lx.length wx)) (fun i _ => lx.length - (intOf i).toNat)
        case atStart => exact ⟨0, by omega, rfl, hxr⟩
        case round =>
          obtain ⟨k, hk, rfl, hx⟩ := hrel
          by_cases hlt : k < lx.length
          · obtain ⟨g, c, z, ha, hc, hf, hnext⟩ := xor_step hx.out hlt
            obtain ⟨rfl, rfl⟩ : aa = some ⟨g, 0, none⟩ ∧ ac = c := by injection ha with h1 _ h2; exact ⟨h1, h2⟩
            have HN := Lib.hid hnext
            clear ha hnext hx
            go_wp2_with fail
            go_roundw
            case rel => exact ⟨k + 1, by omega, by go_num, Lib.hid (HN.out _)⟩
            case measure => simp [intOf]; omega
          · have hkx : Kp (fun _ => False) wo wr := (HK5.out.drewN n6).trans hx.out.1 (fun x hx hh => by have := ((HOW.out).lt x hh).1; omega)
            have HKX := Lib.hid hkx
            clear hx hkx
            go_wp2_with fail
            refine ((HO.out) wr HKX.out).mono ?_
            rintro r w8 ⟨vc, rfl, hown, hk8⟩
            rw [← HLX.out] at hown
            have hkz := HKX.out.trans hk8 (fun _ _ f => f)
            have HE2 := Lib.hid (equal_any hown.sees (HSB.out _ hkz) HRN.out HRN.out)
            have HFIN := Lib.hid ((HKP.out).trans hkz (fun _ _ f => f))
            clear hown hk8 hkz
            go_wp2_with fail
            refine (HE2.out).mono ?_
            rintro r w9 ⟨rfl, rfl⟩
            have hb3 : (e == e) = true := by simp
            go_wp2_with fail
            go_ret
            exact ⟨rfl, HFIN.out⟩

end Go.Proofs.Ytahdnapinlbflaa
