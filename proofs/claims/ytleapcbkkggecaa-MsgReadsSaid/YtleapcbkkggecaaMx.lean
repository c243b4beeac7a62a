/-
  Messages: contract of the program's Parse.
-/
import Derived.Test.YtleapcbkkggecaaMo
namespace Go.Proofs.Ytleapcbkkggecaa
open Go.ChangeShapes Go.WideShapes Go.ChangeAt Go.RowKit

theorem val_take_bd1 {l : List Int} (h : Rng l) : 0 ≤ val (takeR l 0 1) ∧ val (takeR l 0 1) ≤ 255 := by
  have h1 := val_bd _ (takeR_rng h 0 1)
  have h2 := takeR_len l 0 1
  have h3 : (256 : Int) ^ (takeR l 0 1).length ≤ 256 ^ 1 := pow_le_le _ _ (by omega)
  have h4 : (256 : Int) ^ 1 = 256 := by decide
  omega
/-- the message of bytes, in new memory, or none -/
def MsIn (w : World) (b : List Int) (e : Ending) (w' : World) : Prop :=
  ∃ vi vb, e = .returned (.tuple #[msV (prs b).1.k (prs b).1.r vi vb, .int .i64 (prs b).2]) ∧ SeesM (fun g => w.heap.size ≤ g) w' vi vb (prs b).1 ∧ Kp (fun _ => False) w w'
theorem results_cell_tmp' {P : Program} {fn : Func} {p q : Tmp} {ty : TypeId} (h : fn.results = #[.cell p ty, .tmp q]) (tmps : Array Value) (w : World) (g : Nat) (t : TypeId) (cs : Array Value) (fr : Nat × Nat) (d : TypeDesc) (e : Value)
    (hp : tmps.getD p undef = .pointer (some ⟨g, 0, none⟩)) (hq : tmps.getD q undef = e) (hg : w.heap[g]? = some (.cells cs t fr))
    (hu : P.underlying ty = some d) (hd : (match d with | .struct _ | .array _ _ => true | _ => false) = true) (hi : (P.info? ty).map (·.size) = some cs.size) :
    (results fn tmps).run P w = .ok (.tuple #[.agg cs, e]) w := by
  have hp' : tmps[p]?.getD undef = .pointer (some ⟨g, 0, none⟩) := by simpa using hp
  have hq' : tmps[q]?.getD undef = e := by simpa using hq
  simp [results, h, hp', hq', asAddr, run_loadVar_row w g t ty cs fr d hg hu hd hi]
theorem infoMs (a b c d : Value) : (Try.prog.info? 25).map (·.size) = some (#[a, b, c, d] : Array Value).size := by kernel_rfl
theorem msOne (k r : Int) (a1 : Option Addr) (n1 c1 : Nat) (a2 : Option Addr) (n2 c2 : Nat) : (#[.int .i64 k, .int .i64 r, .slice a1 n1 c1, .slice a2 n2 c2] : Array Value).all (·.oneCell') = true :=
  all_oneCell_toArray (cs := [.int .i64 k, .int .i64 r, .slice a1 n1 c1, .slice a2 n2 c2]) (fun v hv => by
    simp only [List.mem_cons, List.not_mem_nil, or_false] at hv
    rcases hv with rfl | rfl | rfl | rfl <;> rfl)
theorem sees0 (A : Nat → Prop) (w : World) : SeesM A w (.slice none 0 0) (.slice none 0 0) ms0 := ⟨.inl ⟨rfl, rfl⟩, .inl ⟨rfl, rfl⟩⟩

set_option maxRecDepth 100000 in
set_option maxHeartbeats 3200000 in
theorem mparse_any {b : List Int} {v : Value} (hr : Rng b) (hl : b.length ≤ 1000000) {w : World} (hs : Sees w v b) :
    Calls Try.prog 16 #[v] w (MsIn w b) := by
  obtain ⟨a0, c0, rfl⟩ := sees_form hs
  have k1 : Kp (fun _ => False) w (w.alloc (.cells #[.int .i64 0, .int .i64 0, .slice none 0 0, .slice none 0 0] 25)) := (Kp.refl _ _).alloc _
  have HA0 := Lib.hid (MsAt.new w 0 0 (.slice none 0 0) (.slice none 0 0))
  have HRD := Lib.hid (uRead_any (B := 0) (Nat.zero_le _) (hs.kept k1 (fun _ _ _ f => f)) (by omega))
  have HR := Lib.hid hr
  have HL := Lib.hid hl
  have K1 := Lib.hid k1
  clear hs hr hl k1
  go_enter Try.func16, Try.ntmps16
  go_wp2_with fail
  refine HRD.out.mono ?_
  rintro e w1 ⟨u, uv, rfl, hu, hug, _, k2⟩
  have hul : u < w1.heap.size := lt_of_blk hu.cell
  have hX1 : UX w1 w1.heap.size w1.heap.size u (b, 0) w1 := ⟨⟨uv, hu, fun hne g hg => hu.sees.lt hne g hg⟩, Kp.refl _ _, Nat.le_refl _, Nat.le_refl _⟩
  have K2 := Lib.hid (K1.out.trans k2 (fun _ _ f => f))
  have A1 := Lib.hid (HA0.out.old k2)
  have HUG := Lib.hid (show w.heap.size < u by rw [World.size_alloc] at hug; omega)
  have HUL := Lib.hid hul
  have X1 := Lib.hid hX1
  have hq := uByte_any hu HR.out
  have hv1 := val_take_bd1 HR.out
  unfold NumU at hq
  have HQ1 := Lib.hid hq
  have HU1 := Lib.hid hu
  have HF1 := Lib.hid (fun (hne : b ≠ []) g hg => hu.sees.lt hne g hg)
  clear hu hX1 hq hug hul k2
  go_wp2_with fail
  refine HQ1.out.mono ?_
  rintro e w2 ⟨rfl, hp⟩
  have hx2 : UX w1 w1.heap.size w1.heap.size u (pS1 b) w2 := X1.out.step HU1.out HF1.out takeL_ne' hp
  obtain ⟨v2, hu2, hf2⟩ := hx2.uk
  have hr2 : Rng (pS1 b).1 := takeL_rng HR.out _ _
  have hq := uInt_any hu2 hr2
  have hv2 := val_take_bd hr2 (pS1 b).2 4 (by omega)
  unfold NumU at hq
  have hk : val (takeR b 0 1) = pK b := rfl
  have hrr : val (takeR (pS1 b).1 (pS1 b).2 4) = pR b := rfl
  rw [hk] at hv1
  rw [hrr] at hv2 hq
  have X2 := Lib.hid hx2
  have HQ2 := Lib.hid hq
  have HU2 := Lib.hid hu2
  have HF2 := Lib.hid hf2
  rw [hk]
  clear hp hx2 hu2 hf2 hq hk hrr
  go_wp2_with fail
  refine HQ2.out.mono ?_
  rintro e w3 ⟨rfl, hp⟩
  have hx3 : UX w1 w1.heap.size w1.heap.size u (pS2 b) w3 := X2.out.step HU2.out HF2.out takeL_ne' hp
  have X3 := Lib.hid hx3
  clear hp hx3
  have kc : Kp (fun _ => False) w3 (w3.alloc (.cells #[.int .i64 (pK b), .int .i64 (pR b), .slice none 0 0, .slice none 0 0] 25)) := (Kp.refl _ _).alloc _
  have hX4 := X3.out.old kc
  have hM4 := MsAt.new w3 (pK b) (pR b) (.slice none 0 0) (.slice none 0 0)
  have hA4 : MsAt (w3.alloc (.cells #[.int .i64 (pK b), .int .i64 (pR b), .slice none 0 0, .slice none 0 0] 25)) w.heap.size 0 0 (.slice none 0 0) (.slice none 0 0) :=
    (A1.out.kept X3.out.kp (fun h => by have := HUG.out; have := HUL.out; omega)).old kc
  have hK4 : Kp (fun _ => False) w (w3.alloc (.cells #[.int .i64 (pK b), .int .i64 (pR b), .slice none 0 0, .slice none 0 0] 25)) :=
    (K2.out.trans X3.out.kp (fun x hx h => by have := HUG.out; have := HUL.out; omega)).trans kc (fun _ _ f => f)
  have hg5 : w1.heap.size ≤ w3.heap.size := X3.out.kp.size
  have HLD := Lib.hid (loadOf_any (pK b))
  have q1 := as_no_nm
  have q2 := as_no_bl
  have q3 := as_nm_nm
  have q4 := as_nm_bl
  have q5 := as_bl_nm
  have q6 := as_bl_bl
  obtain ⟨x0, _⟩ := hM4.cells
  have X4 := Lib.hid hX4
  have M4 := Lib.hid hM4
  have A4 := Lib.hid hA4
  have K4 := Lib.hid hK4
  clear kc hX4 hM4 hA4 hK4
  have hv1' : pK b ≤ 255 := hv1.2
  go_wp2_with fail
  refine (HLD.out _).mono ?_
  rintro e w4 ⟨rfl, rfl⟩
  have HPE := Lib.hid (show pEnd b = ldEnd (ldOf (pK b)) (pS2 b) from rfl)
  have HPI := Lib.hid (show (pM b).ids = ldIds (ldOf (pK b)) (pS2 b) from rfl)
  have HPB := Lib.hid (show (pM b).bl = ldRows (ldOf (pK b)) (pS2 b) from rfl)
  have hbd := ldOf_bd (pK b)
  have HS2L := Lib.hid (show (pS2 b).1.length ≤ 1000000 from Nat.le_trans (takeL_len _ _ _) (Nat.le_trans (takeL_len _ _ _) HL.out))
  have HS2R := Lib.hid (pS2_rng HR.out)
  clear hv2
  cases hL : ldOf (pK b) with
  | no =>
    rw [hL] at HPE HPI HPB
    unfold Ld.V
    have kx : Kp (fun _ => False) (w3.alloc (.cells #[.int .i64 (pK b), .int .i64 (pR b), .slice none 0 0, .slice none 0 0] 25)) (((w3.alloc (.cells #[.int .i64 (pK b), .int .i64 (pR b), .slice none 0 0, .slice none 0 0] 25)).alloc (.cells #[.int .i64 0, .int .i64 0] 59)).alloc (.cells #[.int .i64 0, .int .i64 0] 62)) := ((Kp.refl _ _).alloc _).alloc _
    have hma := M4.out.old kx
    have ha0 := A4.out.old kx
    have hkx := K4.out.trans kx (fun _ _ f => f)
    obtain ⟨ve, hue, _⟩ := (X4.out.old kx).uk
    have hsm : SeesM (fun g => w1.heap.size ≤ g) (((w3.alloc (.cells #[.int .i64 (pK b), .int .i64 (pR b), .slice none 0 0, .slice none 0 0] 25)).alloc (.cells #[.int .i64 0, .int .i64 0] 59)).alloc (.cells #[.int .i64 0, .int .i64 0] 62)) (.slice none 0 0) (.slice none 0 0) (pM b) := ⟨.inl ⟨rfl, HPI.out⟩, .inl ⟨rfl, HPB.out⟩⟩
    rw [show pS2 b = pEnd b from HPE.out.symm] at hue
    clear kx hL hbd
    have HE := Lib.hid (uEnd_any hue)
    obtain ⟨z, hz⟩ : ∃ z, z = endE (pEnd b).1 (pEnd b).2 := ⟨_, rfl⟩
    rw [← hz] at HE
    have HZ := Lib.hid hz
    have HCK := Lib.hid (mcheck_any hsm)
    have HSM := Lib.hid hsm
    obtain ⟨y0, y1, y2, y3, _⟩ := hma.cells
    have HMA := Lib.hid hma
    have HA0X := Lib.hid ha0
    have HKX := Lib.hid hkx
    unfold msV at HCK
    clear hue hz hsm hma ha0 hkx
    by_cases hz0 : z = 0
    · subst hz0
      by_cases hok : okM (pM b) = true
      · have HP := Lib.hid (show prs b = (pM b, 0) by unfold prs; rw [if_pos ⟨HZ.out.symm, hok⟩])
        rw [show chk (pM b) = 0 by unfold chk; rw [if_pos hok]] at HCK
        clear hok
        go_wp2_with fail
        refine HE.out.mono ?_
        rintro e wa ⟨rfl, rfl⟩
        go_wp2_with fail
        refine HCK.out.mono ?_
        rintro e wb ⟨rfl, kb⟩
        obtain ⟨q0, q1, q2, q3, _⟩ := (HMA.out.old kb).cells
        have AB := Lib.hid (HA0X.out.old kb)
        have SB := Lib.hid (HSM.out.old kb)
        have KB := Lib.hid (HKX.out.trans kb (fun _ _ f => f))
        clear kb
        go_wp2_with ((with_reducible refine at_store 2 52 ?_); refine wpList_store_row rfl 25 _ _ rfl w.heap.size #[.int .i64 (pK b), .int .i64 (pR b), .slice none 0 0, .slice none 0 0] rfl rfl 25 _ AB.out (infoMs _ _ _ _) rfl (msOne _ _ _ _ _ _ _ _) ?_)
        refine bodyPost_ret (v := .tuple #[msV (pK b) (pR b) (.slice none 0 0) (.slice none 0 0), .int .i64 0]) (results_cell_tmp' Try.results16 _ _ w.heap.size 25 _ (0, 0) _ _ rfl rfl (setRow_blk AB.out) Try.underlying25 rfl (infoMs _ _ _ _)) rfl ⟨_, _, by rw [HP.out]; rfl, ?_, KB.out.setRow (fun hlt => by omega) _⟩
        rw [HP.out]
        exact (SB.out.kept ((Kp.refl (fun y => y = w.heap.size) _).setRow (fun _ => rfl) _) (fun g hg e => by have := HUG.out; have := HUL.out; have e' : g = w.heap.size := e; omega)).mono (fun g _ hg => by have := HUG.out; have := HUL.out; omega) (pM_wf HR.out)
      · have HP := Lib.hid (show prs b = (ms0, 40) by unfold prs; rw [if_neg (fun h => hok h.2)])
        rw [show chk (pM b) = 40 by unfold chk; rw [if_neg hok]] at HCK
        clear hok
        go_wp2_with fail
        refine HE.out.mono ?_
        rintro e wa ⟨rfl, rfl⟩
        go_wp2_with fail
        refine HCK.out.mono ?_
        rintro e wb ⟨rfl, kb⟩
        have AB := Lib.hid (HA0X.out.old kb)
        have KB := Lib.hid (HKX.out.trans kb (fun _ _ f => f))
        clear kb
        go_wp2_with ((with_reducible refine at_store 2 51 ?_); refine wpList_store_row rfl 25 _ _ rfl w.heap.size #[.int .i64 0, .int .i64 0, .slice none 0 0, .slice none 0 0] rfl rfl 25 _ AB.out (infoMs _ _ _ _) rfl (msOne _ _ _ _ _ _ _ _) ?_)
        refine bodyPost_ret (v := .tuple #[msV 0 0 (.slice none 0 0) (.slice none 0 0), .int .i64 40]) (results_cell_tmp' Try.results16 _ _ w.heap.size 25 _ (0, 0) _ _ rfl rfl (setRow_blk AB.out) Try.underlying25 rfl (infoMs _ _ _ _)) rfl ⟨.slice none 0 0, .slice none 0 0, by rw [HP.out]; rfl, by rw [HP.out]; exact sees0 _ _, KB.out.setRow (fun hlt => by omega) _⟩
    · have HP := Lib.hid (show prs b = (ms0, 40) by unfold prs; rw [if_neg (fun h => hz0 (HZ.out.trans h.1))])
      have hbz : (z != 0) = true := by simpa using hz0
      clear hz0
      go_wp2_with fail
      refine HE.out.mono ?_
      rintro e wa ⟨rfl, rfl⟩
      go_wp2_with ((with_reducible refine at_store 2 51 ?_); refine wpList_store_row rfl 25 _ _ rfl w.heap.size #[.int .i64 0, .int .i64 0, .slice none 0 0, .slice none 0 0] rfl rfl 25 _ HA0X.out (infoMs _ _ _ _) rfl (msOne _ _ _ _ _ _ _ _) ?_)
      refine bodyPost_ret (v := .tuple #[msV 0 0 (.slice none 0 0) (.slice none 0 0), .int .i64 40]) (results_cell_tmp' Try.results16 _ _ w.heap.size 25 _ (0, 0) _ _ rfl rfl (setRow_blk HA0X.out) Try.underlying25 rfl (infoMs _ _ _ _)) rfl ⟨.slice none 0 0, .slice none 0 0, by rw [HP.out]; rfl, by rw [HP.out]; exact sees0 _ _, HKX.out.setRow (fun hlt => by omega) _⟩
  | nm a c =>
    rw [hL] at HPE HPI HPB
    obtain ⟨hab, hcb⟩ := hbd.1 a c hL
    have ka : Kp (fun _ => False) (w3.alloc (.cells #[.int .i64 (pK b), .int .i64 (pR b), .slice none 0 0, .slice none 0 0] 25)) ((w3.alloc (.cells #[.int .i64 (pK b), .int .i64 (pR b), .slice none 0 0, .slice none 0 0] 25)).alloc (.cells #[.int .i64 a, .int .i64 c] 59)) := (Kp.refl _ _).alloc _
    have HPT := Lib.hid (takeNames_any a c hab (by omega) (X4.out.old ka).rebase HS2R.out HS2L.out)
    have MA := Lib.hid (M4.out.old ka)
    have AA := Lib.hid (A4.out.old ka)
    have KA := Lib.hid (K4.out.trans ka (fun _ _ f => f))
    unfold Ld.V spV
    unfold spV at HPT
    clear hL hbd ka
    go_wp2_with fail
    refine HPT.out.mono ?_
    rintro e w5 ⟨vx, rfl, hsi, hx5⟩
    rw [← show (pM b).ids = (takeN (cntS a c (pS2 b)).1 (cntS a c (pS2 b)).2).1 from HPI.out] at hsi
    rw [← show pEnd b = (takeN (cntS a c (pS2 b)).1 (cntS a c (pS2 b)).2).2 from HPE.out] at hx5
    obtain ⟨a1, c1, rfl, hm1⟩ := hsi.form
    have hM5 := MA.out.kept hx5.kp (fun h => by simp only [World.size_alloc] at h; have := HUL.out; omega)
    have hA5 := AA.out.kept hx5.kp (fun h => by simp only [World.size_alloc] at h; have := HUL.out; have := HUG.out; omega)
    obtain ⟨y0, y1, y2, y3, yf⟩ := hM5.cells
    have yf2 := yf 2
    have kset : Kp (fun y => y = w3.heap.size) w5 (w5.setCell ⟨w3.heap.size, 2, none⟩ (.slice a1 (pM b).ids.length c1)) := Kp.setCell (F := fun y => y = w3.heap.size) (Kp.refl _ w5) (p := ⟨w3.heap.size, 2, none⟩) (fun _ => rfl) _
    have hma : MsAt (w5.setCell ⟨w3.heap.size, 2, none⟩ (.slice a1 (pM b).ids.length c1)) w3.heap.size (pK b) (pR b) (.slice a1 (pM b).ids.length c1) (.slice none 0 0) := by
      unfold MsAt; rw [set_blk hM5]; rfl
    have ha0 := hA5.kept kset (fun e => by have := HUL.out; have := HUG.out; have e' : w.heap.size = w3.heap.size := e; omega)
    have hkx := (KA.out.trans hx5.kp (fun x hx h => by simp only [World.size_alloc] at h; have := HUL.out; have := HUG.out; have hx' : x < w.heap.size := hx; rcases h with h | h <;> omega)).trans kset (fun x hx e => by have := HUL.out; have := HUG.out; have e' : x = w3.heap.size := e; omega)
    obtain ⟨ve, hue5, hfe⟩ := hx5.uk
    have hue := hue5.kept kset (fun e => by have := HUL.out; have e' : u = w3.heap.size := e; omega) (fun hne g hg e => by have h1 := hfe hne g hg; have e' : g = w3.heap.size := e; omega)
    have hsm : SeesM (fun g => w1.heap.size ≤ g) _ (.slice a1 (pM b).ids.length c1) (.slice none 0 0) (pM b) := ⟨(SeesI.kept hsi kset (fun g hg e => by have e' : g = w3.heap.size := e; have hg' : _ ≤ g := hg; simp only [World.size_alloc] at hg'; omega)).mono (A' := fun g => w1.heap.size ≤ g) (fun g _ hg => by have hg' : _ ≤ g := hg; simp only [World.size_alloc] at hg'; show w1.heap.size ≤ g; omega) (fun x hx => ((pM_wf HR.out).idl x hx).1), .inl ⟨rfl, HPB.out⟩⟩
    clear hM5 hA5 kset hue5 hfe hsi hx5 yf
    have HE := Lib.hid (uEnd_any hue)
    obtain ⟨z, hz⟩ : ∃ z, z = endE (pEnd b).1 (pEnd b).2 := ⟨_, rfl⟩
    rw [← hz] at HE
    have HZ := Lib.hid hz
    have HCK := Lib.hid (mcheck_any hsm)
    have HSM := Lib.hid hsm
    obtain ⟨q0, q1, q2, q3, _⟩ := hma.cells
    have HMA := Lib.hid hma
    have HA0X := Lib.hid ha0
    have HKX := Lib.hid hkx
    unfold msV at HCK
    clear hue hz hsm hma ha0 hkx
    by_cases hz0 : z = 0
    · subst hz0
      by_cases hok : okM (pM b) = true
      · have HP := Lib.hid (show prs b = (pM b, 0) by unfold prs; rw [if_pos ⟨HZ.out.symm, hok⟩])
        rw [show chk (pM b) = 0 by unfold chk; rw [if_pos hok]] at HCK
        clear hok
        go_wp2_with fail
        refine HE.out.mono ?_
        rintro e wa ⟨rfl, rfl⟩
        go_wp2_with fail
        refine HCK.out.mono ?_
        rintro e wb ⟨rfl, kb⟩
        obtain ⟨q0, q1, q2, q3, _⟩ := (HMA.out.old kb).cells
        have AB := Lib.hid (HA0X.out.old kb)
        have SB := Lib.hid (HSM.out.old kb)
        have KB := Lib.hid (HKX.out.trans kb (fun _ _ f => f))
        clear kb
        go_wp2_with ((with_reducible refine at_store 2 52 ?_); refine wpList_store_row rfl 25 _ _ rfl w.heap.size #[.int .i64 (pK b), .int .i64 (pR b), .slice a1 (pM b).ids.length c1, .slice none 0 0] rfl rfl 25 _ AB.out (infoMs _ _ _ _) rfl (msOne _ _ _ _ _ _ _ _) ?_)
        refine bodyPost_ret (v := .tuple #[msV (pK b) (pR b) (.slice a1 (pM b).ids.length c1) (.slice none 0 0), .int .i64 0]) (results_cell_tmp' Try.results16 _ _ w.heap.size 25 _ (0, 0) _ _ rfl rfl (setRow_blk AB.out) Try.underlying25 rfl (infoMs _ _ _ _)) rfl ⟨_, _, by rw [HP.out]; rfl, ?_, KB.out.setRow (fun hlt => by omega) _⟩
        rw [HP.out]
        exact (SB.out.kept ((Kp.refl (fun y => y = w.heap.size) _).setRow (fun _ => rfl) _) (fun g hg e => by have := HUG.out; have := HUL.out; have e' : g = w.heap.size := e; omega)).mono (fun g _ hg => by have := HUG.out; have := HUL.out; omega) (pM_wf HR.out)
      · have HP := Lib.hid (show prs b = (ms0, 40) by unfold prs; rw [if_neg (fun h => hok h.2)])
        rw [show chk (pM b) = 40 by unfold chk; rw [if_neg hok]] at HCK
        clear hok
        go_wp2_with fail
        refine HE.out.mono ?_
        rintro e wa ⟨rfl, rfl⟩
        go_wp2_with fail
        refine HCK.out.mono ?_
        rintro e wb ⟨rfl, kb⟩
        have AB := Lib.hid (HA0X.out.old kb)
        have KB := Lib.hid (HKX.out.trans kb (fun _ _ f => f))
        clear kb
        go_wp2_with ((with_reducible refine at_store 2 51 ?_); refine wpList_store_row rfl 25 _ _ rfl w.heap.size #[.int .i64 0, .int .i64 0, .slice none 0 0, .slice none 0 0] rfl rfl 25 _ AB.out (infoMs _ _ _ _) rfl (msOne _ _ _ _ _ _ _ _) ?_)
        refine bodyPost_ret (v := .tuple #[msV 0 0 (.slice none 0 0) (.slice none 0 0), .int .i64 40]) (results_cell_tmp' Try.results16 _ _ w.heap.size 25 _ (0, 0) _ _ rfl rfl (setRow_blk AB.out) Try.underlying25 rfl (infoMs _ _ _ _)) rfl ⟨.slice none 0 0, .slice none 0 0, by rw [HP.out]; rfl, by rw [HP.out]; exact sees0 _ _, KB.out.setRow (fun hlt => by omega) _⟩
    · have HP := Lib.hid (show prs b = (ms0, 40) by unfold prs; rw [if_neg (fun h => hz0 (HZ.out.trans h.1))])
      have hbz : (z != 0) = true := by simpa using hz0
      clear hz0
      go_wp2_with fail
      refine HE.out.mono ?_
      rintro e wa ⟨rfl, rfl⟩
      go_wp2_with ((with_reducible refine at_store 2 51 ?_); refine wpList_store_row rfl 25 _ _ rfl w.heap.size #[.int .i64 0, .int .i64 0, .slice none 0 0, .slice none 0 0] rfl rfl 25 _ HA0X.out (infoMs _ _ _ _) rfl (msOne _ _ _ _ _ _ _ _) ?_)
      refine bodyPost_ret (v := .tuple #[msV 0 0 (.slice none 0 0) (.slice none 0 0), .int .i64 40]) (results_cell_tmp' Try.results16 _ _ w.heap.size 25 _ (0, 0) _ _ rfl rfl (setRow_blk HA0X.out) Try.underlying25 rfl (infoMs _ _ _ _)) rfl ⟨.slice none 0 0, .slice none 0 0, by rw [HP.out]; rfl, by rw [HP.out]; exact sees0 _ _, HKX.out.setRow (fun hlt => by omega) _⟩
  | bl a c =>
    rw [hL] at HPE HPI HPB
    obtain ⟨hab, hcb⟩ := hbd.2 a c hL
    have ka : Kp (fun _ => False) (w3.alloc (.cells #[.int .i64 (pK b), .int .i64 (pR b), .slice none 0 0, .slice none 0 0] 25)) (((w3.alloc (.cells #[.int .i64 (pK b), .int .i64 (pR b), .slice none 0 0, .slice none 0 0] 25)).alloc (.cells #[.int .i64 0, .int .i64 0] 59)).alloc (.cells #[.int .i64 a, .int .i64 c] 62)) := ((Kp.refl _ _).alloc _).alloc _
    have HPT := Lib.hid (takeRows_any a c hab (by omega) (X4.out.old ka).rebase HS2R.out HS2L.out)
    have MA := Lib.hid (M4.out.old ka)
    have AA := Lib.hid (A4.out.old ka)
    have KA := Lib.hid (K4.out.trans ka (fun _ _ f => f))
    unfold Ld.V spV
    unfold spV at HPT
    clear hL hbd ka
    go_wp2_with fail
    refine HPT.out.mono ?_
    rintro e w5 ⟨vx, rfl, hsi, hx5⟩
    rw [← show (pM b).bl = (takeB (cntS a c (pS2 b)).1 (cntS a c (pS2 b)).2).1 from HPB.out] at hsi
    rw [← show pEnd b = (takeB (cntS a c (pS2 b)).1 (cntS a c (pS2 b)).2).2 from HPE.out] at hx5
    obtain ⟨a1, c1, rfl, hm1⟩ := hsi.form
    have hM5 := MA.out.kept hx5.kp (fun h => by simp only [World.size_alloc] at h; have := HUL.out; omega)
    have hA5 := AA.out.kept hx5.kp (fun h => by simp only [World.size_alloc] at h; have := HUL.out; have := HUG.out; omega)
    obtain ⟨y0, y1, y2, y3, yf⟩ := hM5.cells
    have yf2 := yf 3
    have kset : Kp (fun y => y = w3.heap.size) w5 (w5.setCell ⟨w3.heap.size, 3, none⟩ (.slice a1 (pM b).bl.length c1)) := Kp.setCell (F := fun y => y = w3.heap.size) (Kp.refl _ w5) (p := ⟨w3.heap.size, 3, none⟩) (fun _ => rfl) _
    have hma : MsAt (w5.setCell ⟨w3.heap.size, 3, none⟩ (.slice a1 (pM b).bl.length c1)) w3.heap.size (pK b) (pR b) (.slice none 0 0) (.slice a1 (pM b).bl.length c1) := by
      unfold MsAt; rw [set_blk hM5]; rfl
    have ha0 := hA5.kept kset (fun e => by have := HUL.out; have := HUG.out; have e' : w.heap.size = w3.heap.size := e; omega)
    have hkx := (KA.out.trans hx5.kp (fun x hx h => by simp only [World.size_alloc] at h; have := HUL.out; have := HUG.out; have hx' : x < w.heap.size := hx; rcases h with h | h <;> omega)).trans kset (fun x hx e => by have := HUL.out; have := HUG.out; have e' : x = w3.heap.size := e; omega)
    obtain ⟨ve, hue5, hfe⟩ := hx5.uk
    have hue := hue5.kept kset (fun e => by have := HUL.out; have e' : u = w3.heap.size := e; omega) (fun hne g hg e => by have h1 := hfe hne g hg; have e' : g = w3.heap.size := e; omega)
    have hsm : SeesM (fun g => w1.heap.size ≤ g) _ (.slice none 0 0) (.slice a1 (pM b).bl.length c1) (pM b) := ⟨.inl ⟨rfl, HPI.out⟩, (SeesR.kept hsi kset (fun g hg e => by have e' : g = w3.heap.size := e; have hg' : _ ≤ g := hg; simp only [World.size_alloc] at hg'; omega)).mono (A' := fun g => w1.heap.size ≤ g) (fun g _ hg => by have hg' : _ ≤ g := hg; simp only [World.size_alloc] at hg'; show w1.heap.size ≤ g; omega)⟩
    clear hM5 hA5 kset hue5 hfe hsi hx5 yf
    have HE := Lib.hid (uEnd_any hue)
    obtain ⟨z, hz⟩ : ∃ z, z = endE (pEnd b).1 (pEnd b).2 := ⟨_, rfl⟩
    rw [← hz] at HE
    have HZ := Lib.hid hz
    have HCK := Lib.hid (mcheck_any hsm)
    have HSM := Lib.hid hsm
    obtain ⟨q0, q1, q2, q3, _⟩ := hma.cells
    have HMA := Lib.hid hma
    have HA0X := Lib.hid ha0
    have HKX := Lib.hid hkx
    unfold msV at HCK
    clear hue hz hsm hma ha0 hkx
    by_cases hz0 : z = 0
    · subst hz0
      by_cases hok : okM (pM b) = true
      · have HP := Lib.hid (show prs b = (pM b, 0) by unfold prs; rw [if_pos ⟨HZ.out.symm, hok⟩])
        rw [show chk (pM b) = 0 by unfold chk; rw [if_pos hok]] at HCK
        clear hok
        go_wp2_with fail
        refine HE.out.mono ?_
        rintro e wa ⟨rfl, rfl⟩
        go_wp2_with fail
        refine HCK.out.mono ?_
        rintro e wb ⟨rfl, kb⟩
        obtain ⟨q0, q1, q2, q3, _⟩ := (HMA.out.old kb).cells
        have AB := Lib.hid (HA0X.out.old kb)
        have SB := Lib.hid (HSM.out.old kb)
        have KB := Lib.hid (HKX.out.trans kb (fun _ _ f => f))
        clear kb
        go_wp2_with ((with_reducible refine at_store 2 52 ?_); refine wpList_store_row rfl 25 _ _ rfl w.heap.size #[.int .i64 (pK b), .int .i64 (pR b), .slice none 0 0, .slice a1 (pM b).bl.length c1] rfl rfl 25 _ AB.out (infoMs _ _ _ _) rfl (msOne _ _ _ _ _ _ _ _) ?_)
        refine bodyPost_ret (v := .tuple #[msV (pK b) (pR b) (.slice none 0 0) (.slice a1 (pM b).bl.length c1), .int .i64 0]) (results_cell_tmp' Try.results16 _ _ w.heap.size 25 _ (0, 0) _ _ rfl rfl (setRow_blk AB.out) Try.underlying25 rfl (infoMs _ _ _ _)) rfl ⟨_, _, by rw [HP.out]; rfl, ?_, KB.out.setRow (fun hlt => by omega) _⟩
        rw [HP.out]
        exact (SB.out.kept ((Kp.refl (fun y => y = w.heap.size) _).setRow (fun _ => rfl) _) (fun g hg e => by have := HUG.out; have := HUL.out; have e' : g = w.heap.size := e; omega)).mono (fun g _ hg => by have := HUG.out; have := HUL.out; omega) (pM_wf HR.out)
      · have HP := Lib.hid (show prs b = (ms0, 40) by unfold prs; rw [if_neg (fun h => hok h.2)])
        rw [show chk (pM b) = 40 by unfold chk; rw [if_neg hok]] at HCK
        clear hok
        go_wp2_with fail
        refine HE.out.mono ?_
        rintro e wa ⟨rfl, rfl⟩
        go_wp2_with fail
        refine HCK.out.mono ?_
        rintro e wb ⟨rfl, kb⟩
        have AB := Lib.hid (HA0X.out.old kb)
        have KB := Lib.hid (HKX.out.trans kb (fun _ _ f => f))
        clear kb
        go_wp2_with ((with_reducible refine at_store 2 51 ?_); refine wpList_store_row rfl 25 _ _ rfl w.heap.size #[.int .i64 0, .int .i64 0, .slice none 0 0, .slice none 0 0] rfl rfl 25 _ AB.out (infoMs _ _ _ _) rfl (msOne _ _ _ _ _ _ _ _) ?_)
        refine bodyPost_ret (v := .tuple #[msV 0 0 (.slice none 0 0) (.slice none 0 0), .int .i64 40]) (results_cell_tmp' Try.results16 _ _ w.heap.size 25 _ (0, 0) _ _ rfl rfl (setRow_blk AB.out) Try.underlying25 rfl (infoMs _ _ _ _)) rfl ⟨.slice none 0 0, .slice none 0 0, by rw [HP.out]; rfl, by rw [HP.out]; exact sees0 _ _, KB.out.setRow (fun hlt => by omega) _⟩
    · have HP := Lib.hid (show prs b = (ms0, 40) by unfold prs; rw [if_neg (fun h => hz0 (HZ.out.trans h.1))])
      have hbz : (z != 0) = true := by simpa using hz0
      clear hz0
      go_wp2_with fail
      refine HE.out.mono ?_
      rintro e wa ⟨rfl, rfl⟩
      go_wp2_with ((with_reducible refine at_store 2 51 ?_); refine wpList_store_row rfl 25 _ _ rfl w.heap.size #[.int .i64 0, .int .i64 0, .slice none 0 0, .slice none 0 0] rfl rfl 25 _ HA0X.out (infoMs _ _ _ _) rfl (msOne _ _ _ _ _ _ _ _) ?_)
      refine bodyPost_ret (v := .tuple #[msV 0 0 (.slice none 0 0) (.slice none 0 0), .int .i64 40]) (results_cell_tmp' Try.results16 _ _ w.heap.size 25 _ (0, 0) _ _ rfl rfl (setRow_blk HA0X.out) Try.underlying25 rfl (infoMs _ _ _ _)) rfl ⟨.slice none 0 0, .slice none 0 0, by rw [HP.out]; rfl, by rw [HP.out]; exact sees0 _ _, HKX.out.setRow (fun hlt => by omega) _⟩
end Go.Proofs.Ytleapcbkkggecaa
