/-
  laws.FnExactFlatten returns true whatever the stack: impl.Flatten answers as the specification, leaves its argument, and its answer owns its memory. Conditions: none but the row's own.
-/
import Derived.Test.YtpalpbpamcaakaaGreatRows
import Derived.WalkKit
import Derived.ProofKit
import Derived.OpenShut
import Derived.ShutString
import Derived.ChangeOld
import Derived.Below
import Derived.SliceStrings
import Derived.JoinedCond
import Derived.Deep.DeepHandedRow
import Derived.Deep.DeepWitnessRowRef
import Derived.Lib.Hide
import Derived.Test.YtpalpbpamcaakaaGreatFlatI
import Derived.Test.YtpalpbpamcaakaaGreatMarkS
namespace Go.Proofs.YtpalpbpamcaakaaGreat.fnExactFlatten
open Go.ChangeShapes Go.WideShapes Go.ChangeAt Go.RowKit
open Go.ChangeMaps (open_string shut_string)
set_option linter.unusedVariables false
set_option maxRecDepth 100000

theorem own : ownKnob Tryz.prog.godebug = none := by kernel_rfl
theorem laidOut : laidOutB Tryz.prog = true := by kernel_rfl

/-- What the answer's dictionary holds. -/
def rsFl (ls : List Lay) : List Ent := if (okK ls && okD (flatS ls)) = true then flatS ls else []
theorem rsFl_small (ls : List Lay) : (rsFl ls).length ≤ 40 ∧ ∀ e ∈ rsFl ls, okE e = true := by
  unfold rsFl
  split
  · rename_i h
    rw [Bool.and_eq_true] at h
    obtain ⟨h1, h2, _⟩ := okD_parts h.2
    exact ⟨h1, h2⟩
  · exact ⟨Nat.zero_le _, fun e he => by cases he⟩
theorem specFl_rs (v : Value) (ls : List Lay) (w : World) (h : LaysAt w v ls) (hn : ls.length ≤ 2097152) (hx : ∀ l ∈ ls, layOk l) :
    Calls Tryz.prog 25 #[dV v] w fun r w' => (∃ v2, r = .returned (.tuple #[dV v2, .bool (okK ls && okD (flatS ls))]) ∧ EntsAt w' v2 (rsFl ls)) ∧ Below w.heap.size w w' := by
  refine (specFlatten_any v ls w h hn hx).mono ?_
  rintro r w' ⟨⟨v2, rfl, h1, h2⟩, hb⟩
  refine ⟨⟨v2, rfl, ?_⟩, hb⟩
  unfold rsFl
  split
  · rename_i hc; exact h1 hc
  · rename_i hc; rw [h2 (by simpa using hc)]; exact EntsAt.nil _ _ _
theorem Fl_rs (v : Value) (ls : List Lay) (w : World) (h : LaysAt w v ls) (hn : ls.length ≤ 2097152) (hx : ∀ l ∈ ls, layOk l) :
    Calls Tryz.prog 16 #[dV v] w fun r w' => (∃ v2, r = .returned (.tuple #[dV v2, .bool (okK ls && okD (flatS ls))]) ∧ OwnEs w' w.heap.size w'.heap.size v2 (rsFl ls)) ∧ Below w.heap.size w w' := by
  refine (Flatten_any v ls w h hn hx).mono ?_
  rintro r w' ⟨⟨v2, us, rfl, h1, h2⟩, hb⟩
  exact ⟨⟨v2, rfl, by unfold rsFl; rw [← h2]; exact h1.own'⟩, hb⟩
/-! ### THE WALK: the Go text returns true, and writes nothing that was there. -/
set_option maxRecDepth 100000 in
set_option maxHeartbeats 8000000 in
theorem walk (u0 : Value) (d0 : List Lay) (w : World) (hS : w.ShapedOpen Tryz.prog)  (w0 : LaysIn w u0 d0) :
    Calls Tryz.prog 7 #[dV u0] w fun e w' => e = .returned (.bool true) ∧ Below w.heap.size w w' := by
  obtain ⟨hat, hlen, hfine⟩ := w0
  clear hS
  have CZ := Lib.hid (fun w' hb => szSk_any u0 d0 1048576 w' ⟨hat.below (w' := w') hb, hlen, hfine⟩ (by omega) (Int.le_refl _))
  have CT := Lib.hid (fun hn hx w' hb => toS_any u0 d0 w' (hat.below (w' := w') hb) hn hx)
  have CE := Lib.hid (fun u v w h h' hn hx => eqS_same u v d0 w h h' hn hx)
  have cs := fun v w h hn hx => specFl_rs v d0 w h hn hx
  have ci := fun v w h hn hx => Fl_rs v d0 w h hn hx
  obtain ⟨hrl, hrd⟩ := rsFl_small d0
  obtain ⟨rs, hrs⟩ : ∃ rs, rs = rsFl d0 := ⟨_, rfl⟩
  obtain ⟨b, hb⟩ : ∃ b, b = (okK d0 && okD (flatS d0)) := ⟨_, rfl⟩
  rw [← hrs, ← hb] at cs ci
  rw [← hrs] at hrl hrd
  have hre : ∀ e ∈ rs, okE e = true := hrd
  have hsm : ∀ e ∈ rs, e.1.length ≤ 6 := fun e he => (okE_size (hre e he)).2.1
  have hend : endE 1 rs ≤ 1100000 := by have := endE_le 1 rs 6 hsm; omega
  have hok : ∀ e ∈ rs, entOk e := fun e he => by have := okE_size (hre e he); exact ⟨by omega, by omega⟩
  have hsm2 : ∀ e ∈ rs, e.1.length ≤ 1100000 := fun e he => by have := hsm e he; omega
  have CS := Lib.hid cs
  have CI := Lib.hid ci
  have CQ := Lib.hid (fun v u w hv hu => eqD_same v u rs w hv hu (by omega) hok)
  have CM := Lib.hid (fun base S v w h hS hb => markD_any base S v rs w h hend (by omega) hS hb hsm2)
  have CH := Lib.hid (fun base S v w h => heldD_any base S v rs w h hend (by omega) hsm2)
  have CMD := Lib.hid (fun base S v w h hm hn hS hb hx => markS_any base S v d0 w h hm hn hS hb hx)
  obtain ⟨a, cap, rfl, hcap, _⟩ := hat.cells
  have HWt := Lib.hid (endL_wt 1 d0)
  have HWi := Lib.hid (fun h => wtL_in (ls := d0) h)
  obtain ⟨n, hnn⟩ : ∃ n, n = d0.length := ⟨_, rfl⟩
  have HN := Lib.hid hnn
  unfold dV at CZ CT CS CI CE CMD CQ CM CH ⊢
  rw [← hnn] at CZ CT CS CI CE CMD hcap HWt HWi ⊢
  obtain ⟨E, hE⟩ : ∃ E, E = endL 1 d0 := ⟨_, rfl⟩
  rw [← hE] at CMD HWt
  obtain ⟨WT, hWT⟩ : ∃ WT, WT = wtL d0 := ⟨_, rfl⟩
  rw [← hWT] at CZ HWt HWi
  obtain ⟨M, hM⟩ : ∃ M, M = endE 1 rs := ⟨_, rfl⟩
  rw [← hM] at CM CH hend
  obtain ⟨rn, hrn⟩ : ∃ rn, rn = rs.length := ⟨_, rfl⟩
  have HRN := Lib.hid hrn
  clear hat hlen hfine hend hok hsm hsm2 hre hrd hrs hb cs ci hnn hE hWT hM hrn
  go_enter Tryz.func7, Tryz.ntmps7
  go_wp2_with fail
  refine (CZ.out _ (below_al _ _)).mono ?_
  rintro r w1 ⟨⟨q, rfl, hq⟩, hb⟩
  have A1 : Hid (BoxV w1 w.heap.size 73 (.slice a n cap)) := (BoxV.new w _ _).below hb (by simp)
  have HB1 := Lib.hid (below_box hb)
  clear hb
  rcases hq with rfl | ⟨hq0, hq1⟩
  · go_wp2
    go_ret
    exact ⟨rfl, HB1.out⟩
  · have hnq : ¬ q < 0 := by omega
    have hwt : WT + n ≤ 1048576 := by omega
    have hE1 : E ≤ 1100000 := by have := HWt.out; omega
    obtain ⟨hn, hx⟩ := HWi.out hwt
    have CT1 := Lib.hid (CT.out hn hx)
    have CS1 := Lib.hid (fun v w h => CS.out v w h (by omega) (fun l hl => (hx l hl).ok))
    have CI1 := Lib.hid (fun v w h => CI.out v w h (by omega) (fun l hl => (hx l hl).ok))
    have CE1 := Lib.hid (fun u v w h h' => CE.out u v w h h' (by omega) (fun l hl => (hx l hl).ok))
    have CMD1 := Lib.hid (fun base S v w h hS hb => CMD.out base S v w h hE1 (by omega) hS hb (fun l hl => ⟨by have := (hx l hl).1; omega, fun e he => by have := ((hx l hl).2 e he).1; omega⟩))
    clear CT CS CI CE CZ CMD hx hn hq0 hq1 HWi HWt hwt
    have cA := A1.out.cell
    go_wp2_with fail
    refine (CT1.out w1 HB1.out).mono ?_
    rintro r w2 ⟨⟨u, rfl, hu⟩, hb⟩
    obtain ⟨ua, uc, uf, _, _⟩ := hu.at.cells
    rw [← HN.out] at uf
    subst uf
    have U2 := Lib.hid hu
    have A2 := Lib.hid (A1.out.below hb A1.out.lt)
    have HB2 := Lib.hid (below_step HB1.out hb)
    clear hb hu A1 HB1 cA
    go_wp2_with fail
    refine (CS1.out _ w2 U2.out.at).mono ?_
    rintro r w4 ⟨⟨s, rfl, hs⟩, hb⟩
    obtain ⟨sa, sc, sf, _, _⟩ := hs.cells
    rw [← HRN.out] at sf
    subst sf
    obtain ⟨w5, hW⟩ : ∃ W, W = w4.alloc (.cells #[.slice sa rn sc] 34) := ⟨_, rfl⟩
    have hbA : Below w4.heap.size w4 w5 := by rw [hW]; exact below_al _ _
    have hSA : w4.heap.size < w5.heap.size := by rw [hW]; simp
    have VX5 : Hid (BoxV w5 w4.heap.size 34 (.slice sa rn sc)) := by rw [hW]; exact BoxV.new _ _ _
    have HW_w5 := Lib.hid hW
    have SA_w5 := Lib.hid hSA
    have V5 := Lib.hid (hs.below hbA)
    have A5 := Lib.hid ((A2.out.below hb A2.out.lt).below hbA (by have := A2.out.lt; have := hb.size; omega))
    have HB5 := Lib.hid (below_step (below_step HB2.out hb) hbA)
    clear hb hs hbA hW hSA U2 A2 HB2
    have cA := A5.out.cell
    rw [HW_w5.out] at cA
    go_wp2_with fail
    rw [← HW_w5.out]
    refine (CT1.out w5 HB5.out).mono ?_
    rintro r w6 ⟨⟨x, rfl, hx⟩, hb⟩
    obtain ⟨xa, xc, xf, _, _⟩ := hx.at.cells
    rw [← HN.out] at xf
    subst xf
    have S56 : Hid (w5.heap.size ≤ w6.heap.size) := hb.size
    obtain ⟨w7, hW⟩ : ∃ W, W = w6.alloc (.cells #[.slice xa n xc] 26) := ⟨_, rfl⟩
    have hbA : Below w6.heap.size w6 w7 := by rw [hW]; exact below_al _ _
    have hSA : w6.heap.size < w7.heap.size := by rw [hW]; simp
    have XB7 : Hid (BoxV w7 w6.heap.size 26 (.slice xa n xc)) := by rw [hW]; exact BoxV.new _ _ _
    have HW_w7 := Lib.hid hW
    have SA_w7 := Lib.hid hSA
    have X7 := Lib.hid (hx.below hbA)
    have HC7 := Lib.hid (below_step hb hbA)
    clear hb hx hbA hW hSA cA HW_w5
    have cX := XB7.out.cell
    rw [HW_w7.out] at cX
    go_wp2_with fail
    rw [← HW_w7.out]
    refine (CI1.out _ w7 X7.out.at).mono ?_
    rintro r w9 ⟨⟨gv, rfl, hG⟩, hb⟩
    obtain ⟨ga, gc, gf, _, _⟩ := hG.at.cells
    rw [← HRN.out] at gf
    subst gf
    have S89 : Hid (w7.heap.size ≤ w9.heap.size) := hb.size
    obtain ⟨w10, hW⟩ : ∃ W, W = w9.alloc (.cells #[.slice ga rn gc] 34) := ⟨_, rfl⟩
    have hbA : Below w9.heap.size w9 w10 := by rw [hW]; exact below_al _ _
    have hSA : w9.heap.size < w10.heap.size := by rw [hW]; simp
    have GB10 : Hid (BoxV w10 w9.heap.size 34 (.slice ga rn gc)) := by rw [hW]; exact BoxV.new _ _ _
    have HW_w10 := Lib.hid hW
    have SA_w10 := Lib.hid hSA
    have hb10 := below_step hb hbA
    have G10 := Lib.hid (hG.below hbA)
    have X10 := Lib.hid (X7.out.below hb10)
    have XB10 := Lib.hid (XB7.out.below hb10 XB7.out.lt)
    have HC10 := Lib.hid (below_step HC7.out hb10)
    clear hb hG hb10 hbA hW hSA X7 XB7 HC7 cX HW_w7
    have VXc := Lib.hid (VX5.out.below HC10.out VX5.out.lt)
    have cG := GB10.out.cell
    rw [HW_w10.out] at cG
    have cV := VXc.out.cell
    rw [HW_w10.out] at cV
    go_wp2_with fail
    rw [← HW_w10.out]
    refine (CQ.out _ _ w10 G10.out.at (V5.out.below HC10.out)).mono ?_
    rintro r w11 ⟨rfl, hb⟩
    have G11 := Lib.hid (G10.out.below hb)
    have X11 := Lib.hid (X10.out.below hb)
    have XB11 := Lib.hid (XB10.out.below hb XB10.out.lt)
    have GB11 := Lib.hid (GB10.out.below hb GB10.out.lt)
    have HC11 := Lib.hid (below_step HC10.out hb)
    have S1011 : Hid (w10.heap.size ≤ w11.heap.size) := hb.size
    clear hb G10 X10 XB10 GB10 HC10 VXc cG cV HW_w10
    have Ac := Lib.hid (A5.out.below HC11.out A5.out.lt)
    have HBc := Lib.hid (below_step HB5.out HC11.out)
    have k0 := cell_regrown XB11.out.cell
    have k1 := cell_regrown Ac.out.cell
    go_wp2_with fail
    refine Mx.wp_region_mixed (Mx.ofL [(0, 1), (1, 1), (2, 2), (3, 3), (4, 0)] .done) (by kernel_rfl) (by kernel_rfl) ?_
    repeat ((first | refine Mx.mix0 rfl ?_ | refine Mx.mix1 rfl ?_); go_big_quiet_step (fail); refine wpQuiet_nil ?_)
    refine Mx.mix2 rfl ?_
    go_wp2_with fail
    refine (CT1.out w11.drew HBc.out.drew).mono ?_
    rintro r w12 ⟨⟨t, rfl, ht⟩, hb⟩
    obtain ⟨ta, tc, tf, _, _⟩ := ht.at.cells
    rw [← HN.out] at tf
    subst tf
    have hb12 : Below w11.heap.size w11 w12 := (below_drewN (Below.refl _ _) 1).trans hb
    have T12 := Lib.hid ht.at
    have HG := Lib.hid (regrown_of_below hb12)
    have HB12 := Lib.hid hb12
    have X12 := Lib.hid (X11.out.below hb12)
    clear hb hb12 ht k0 k1
    go_wp2
    refine Mx.mid_normal (fun _ => HG.out) ?_
    refine Mx.mix3 rfl ?_
    go_wp2_with fail
    refine (CE1.out _ _ w12 X12.out.at T12.out).mono ?_
    rintro r w13 ⟨rfl, hb⟩
    have hb13 : Below w11.heap.size w11 w13 := below_step HB12.out hb
    have G13 := Lib.hid (G11.out.below hb13)
    have X13 := Lib.hid (X11.out.below hb13)
    have XB13 := Lib.hid (XB11.out.below hb13 XB11.out.lt)
    have GB13 := Lib.hid (GB11.out.below hb13 GB11.out.lt)
    have HC13 := Lib.hid (below_step HC11.out hb13)
    have S1113 : Hid (w11.heap.size ≤ w13.heap.size) := hb13.size
    clear hb hb13 G11 X11 XB11 GB11 HC11 Ac HBc HB12 T12 X12 HG
    go_wp2
    refine Mx.mid_normal (fun q => by cases q) ?_
    repeat ((first | refine Mx.mix0 rfl ?_ | refine Mx.mix1 rfl ?_); go_big_quiet_step (fail); refine wpQuiet_nil ?_)
    refine Mx.mix_nil ?_
    have cX := XB13.out.cell
    go_wp2_with fail
    refine (CMD1.out w5.heap.size w6.heap.size _ w13 X13.out (by have := S56.out; have := SA_w7.out; have := S89.out; have := SA_w10.out; have := S1011.out; have := S1113.out; omega) (by have := S56.out; have := SA_w7.out; have := S89.out; have := SA_w10.out; have := S1011.out; have := S1113.out; omega)).mono ?_
    rintro r w16 ⟨rfl, _, hT, hb⟩
    have HC16 : Hid (Below w5.heap.size w5 w16) := HC13.out.trans hb
    have G16 := Lib.hid (G13.out.touch hT (fun b h1 h2 q => by have := q.2; have := S56.out; have := SA_w7.out; have := S89.out; have := SA_w10.out; have := S1011.out; have := S1113.out; omega))
    have GB16 := Lib.hid (GB13.out.touch hT (fun q => by have := q.2; have := S56.out; have := SA_w7.out; have := S89.out; have := SA_w10.out; have := S1011.out; have := S1113.out; omega))
    have S1516 : Hid (w13.heap.size ≤ w16.heap.size) := hb.size
    have hEp : ¬ ((E : Int)) < 0 := by omega
    clear hb hT X13 XB13 G13 GB13 HC13 cX
    have VXc := Lib.hid (VX5.out.below HC16.out VX5.out.lt)
    have cG := GB16.out.cell
    have cV := VXc.out.cell
    go_wp2_with fail
    refine (CQ.out _ _ w16 G16.out.at (V5.out.below HC16.out)).mono ?_
    rintro r w18 ⟨rfl, hb⟩
    have G18 := Lib.hid (G16.out.below hb)
    have GB18 := Lib.hid (GB16.out.below hb GB16.out.lt)
    have HC18 := Lib.hid (below_step HC16.out hb)
    have S1718 : Hid (w16.heap.size ≤ w18.heap.size) := hb.size
    clear hb G16 GB16 HC16 VXc cG cV hEp
    have cG := GB18.out.cell
    go_wp2_with fail
    refine (CM.out w7.heap.size w9.heap.size _ w18 G18.out (by have := S56.out; have := SA_w7.out; have := S89.out; have := SA_w10.out; have := S1011.out; have := S1113.out; have := S1516.out; have := S1718.out; omega) (by have := S56.out; have := SA_w7.out; have := S89.out; have := SA_w10.out; have := S1011.out; have := S1113.out; have := S1516.out; have := S1718.out; omega)).mono ?_
    rintro r w19 ⟨rfl, hO, hT, hb⟩
    have G19 := Lib.hid hO
    have HC19 : Hid (Below w5.heap.size w5 w19) := HC18.out.trans (hb.mono (by have := S56.out; have := SA_w7.out; have := S89.out; have := SA_w10.out; have := S1011.out; have := S1113.out; have := S1516.out; have := S1718.out; omega))
    have GB19 := Lib.hid (GB18.out.touch hT (fun q => by have := q.2; omega))
    have hMp : ¬ ((M : Int)) < 0 := by omega
    have hMM : ((M : Int) != (M : Int)) = false := by simp
    clear hb hT hO G18 GB18 HC18 cG
    have cG := GB19.out.cell
    go_wp2_with fail
    refine (CH.out _ _ _ w19 G19.out).mono ?_
    rintro r w20 ⟨rfl, hb⟩
    have G20 := Lib.hid (G19.out.below hb)
    have GB20 := Lib.hid (GB19.out.below hb GB19.out.lt)
    have HC20 := Lib.hid (below_step HC19.out hb)
    clear hb G19 GB19 HC19 cG
    have Ac := Lib.hid (A5.out.below HC20.out A5.out.lt)
    have cA := Ac.out.cell
    go_wp2_with fail
    refine (CT1.out w20 (below_step HB5.out HC20.out)).mono ?_
    rintro r w21 ⟨⟨p, rfl, hp⟩, hb⟩
    obtain ⟨pa, pc, pf, _, _⟩ := hp.at.cells
    rw [← HN.out] at pf
    subst pf
    have P21 := Lib.hid hp.at
    have G21 := Lib.hid (G20.out.below hb)
    have GB21 := Lib.hid (GB20.out.below hb GB20.out.lt)
    have HC21 := Lib.hid (below_step HC20.out hb)
    clear hb hp G20 GB20 HC20 Ac cA
    go_wp2_with fail
    refine (CI1.out _ w21 P21.out).mono ?_
    rintro r w23 ⟨⟨hv, rfl, hg⟩, hb⟩
    have hH := hg.at
    obtain ⟨ha, hc, hf, _, _⟩ := hH.cells
    rw [← HRN.out] at hf
    subst hf
    obtain ⟨w24, hW⟩ : ∃ W, W = w23.alloc (.cells #[.slice ha rn hc] 34) := ⟨_, rfl⟩
    have hbA : Below w23.heap.size w23 w24 := by rw [hW]; exact below_al _ _
    have hSA : w23.heap.size < w24.heap.size := by rw [hW]; simp
    have HX24 : Hid (BoxV w24 w23.heap.size 34 (.slice ha rn hc)) := by rw [hW]; exact BoxV.new _ _ _
    have HW_w24 := Lib.hid hW
    have SA_w24 := Lib.hid hSA
    have hb24 := below_step hb hbA
    have H24 := Lib.hid (hH.below hbA)
    have G24 := Lib.hid (G21.out.below hb24)
    have GB24 := Lib.hid (GB21.out.below hb24 GB21.out.lt)
    have HC24 := Lib.hid (below_step HC21.out hb24)
    have VXc := Lib.hid (VX5.out.below HC24.out VX5.out.lt)
    clear hb hg hH hb24 hbA hW hSA P21 G21 GB21 HC21
    have cH := HX24.out.cell
    rw [HW_w24.out] at cH
    have cV := VXc.out.cell
    rw [HW_w24.out] at cV
    go_wp2_with fail
    rw [← HW_w24.out]
    refine (CQ.out _ _ w24 H24.out (V5.out.below HC24.out)).mono ?_
    rintro r w25 ⟨rfl, hb⟩
    have G25 := Lib.hid (G24.out.below hb)
    have GB25 := Lib.hid (GB24.out.below hb GB24.out.lt)
    have HC25 := Lib.hid (below_step HC24.out hb)
    clear hb H24 HX24 G24 GB24 HC24 VXc cH cV HW_w24
    have cG := GB25.out.cell
    go_wp2_with fail
    refine (CH.out _ _ _ w25 G25.out).mono ?_
    rintro r w26 ⟨rfl, hb⟩
    have HB26 := Lib.hid (below_step HB5.out (below_step HC25.out hb))
    clear hb G25 GB25 HC25 cG
    go_wp2
    go_ret
    exact ⟨rfl, HB26.out⟩

/-! ### THE ROW's STEP -/
set_option maxRecDepth 100000 in
theorem contract (H : Type) (enc : TypeId × Value → H) (W : World) (base : Nat) (args : Array Value) (ds gs : List (DataW H)) (before : List MemPlace)
    (hval : ∀ (j : Nat) t v, Tryz.f7.params[j]? = some t → args[j]? = some v → Value.okWide Tryz.prog W .any base t v)
    (hW : DataW.Whole enc Tryz.prog Tryz.f7.params.toList Rows.fnExactFlattenSpec.vars false W args.toList ds gs before) (hL : laidMetH Tryz.prog Rows.fnExactFlattenRow.laid W) (hS : W.ShapedOpen Tryz.prog) :
    Calls Tryz.prog 7 args W fun e W' => ∃ v, e = .returned v ∧ Rows.fnExactFlattenSpec.post enc Tryz.prog Tryz.f7 false true false false W args v W' := by
  have hW' := hW
  obtain ⟨p, q, hA0, hV, rfl, hfz, hnd⟩ := hW
  have hA : DataW.TrodAll enc Tryz.prog W 0 (fun _ => true) true Tryz.f7.params.toList args.toList ds p := hA0
  rw [Tryz.params7] at hA hval
  obtain ⟨v0, vs0, d0, ds0, p0, q0, hargs, rfl, rfl, h0, r0⟩ := trodAll_cons hA
  obtain ⟨rfl, rfl, rfl⟩ := trodAll_nil r0
  obtain rfl : args = #[v0] := by cases args; simp_all
  obtain ⟨rfl, rfl⟩ := trodVars_none hV
  have k0 := h0
  have lt0 : ∀ x ∈ p0, x.block < W.heap.size := by obtain ⟨m, hm⟩ := k0; exact DataW.trod_lt m _ _ _ hm
  obtain ⟨u0, d0, rfl, w0⟩ := open_stackV Tryz.underlying73 (by kernel_rfl) (by kernel_rfl) ⟨rfl, rfl⟩ Tryz.underlying71 Tryz.underlying163 (by kernel_rfl) (by kernel_rfl) (by kernel_rfl) ⟨rfl, rfl⟩ ⟨rfl, rfl⟩ Tryz.underlying82 (by kernel_rfl) ⟨rfl, rfl⟩ Tryz.underlying4 Tryz.underlying80 Tryz.underlying169 (by kernel_rfl) (by kernel_rfl) (by kernel_rfl) (by kernel_rfl) ⟨rfl, rfl⟩ ⟨rfl, rfl⟩ Tryz.underlying27 Tryz.underlying3 Tryz.underlying9 (hval 0 73 v0 rfl rfl) h0
  clear hA0 hval
  refine (walk u0 d0 W hS  w0).mono fun e W' ⟨he, bel⟩ => ?_
  subst he
  exact ⟨_, rfl, _, _, _, [], _, [], hW', trodAll_mk1 (shut_bool Tryz.underlying4 _), (trodAll_cons_mk (Below.trod laidOut (by kernel_rfl) (of_decide_eq_true (by kernel_rfl)) k0 bel lt0) trodAll_mk0), rfl, bel.frame _, fun h => by cases h⟩

theorem reads (os : Os) {H : Type} (enc : TypeId × Value → H) : ∃ places, DataW.whole enc Tryz.prog ((World.holding Tryz.prog os ⟨#[], #[], []⟩).forCall (fun _ _ => 0) ⟨#[], #[.agg #[.slice none 0 0]], []⟩).memory Tryz.f7.params.toList Rows.fnExactFlattenSpec.vars false (#[.agg #[.slice none 0 0]] : Array Value).toList 8 = some ([.agg [.nil]], [], places) :=
  ⟨[], by kernel_rfl⟩

set_option maxRecDepth 100000 in
theorem lifted (os : Os) (started : os.Started) (H : Type) (enc : TypeId × Value → H) (F : Stop.Interp) :
    ReturnsInHanded {} Tryz.checked os 7 .any ((OpenSpec.ofChange Rows.fnExactFlattenSpec).preRow enc Tryz.prog Tryz.f7 Rows.fnExactFlattenRow.domain false Rows.fnExactFlattenRow.laid) (((OpenSpec.ofChange Rows.fnExactFlattenSpec).at F).post enc Tryz.prog Tryz.f7 false true false false) := by
  obtain ⟨places, hx⟩ := reads os enc
  refine returnsInHanded_of_row (C := Tryz.checked) (s := OpenSpec.ofChange Rows.fnExactFlattenSpec) own started (by kernel_rfl) Tryz.func7
    (witness_row_atRef (enc := enc) (C := Tryz.checked) false (World.holding Tryz.prog os ⟨#[], #[], []⟩) #[.agg #[.slice none 0 0]] rfl (by kernel_rfl) (by kernel_rfl) (by kernel_rfl)
      (OpenSpec.preRow_of_cond 8 hx (by kernel_rfl) (fun k hk => by cases hk) (by kernel_rfl) ⟨[], rfl, List.nodup_nil, fun b off h => by cases h⟩)) ?_
  intro W base args ds gs before hval hW _ _ _ hL hS _
  exact contract H enc W base args ds gs before hval hW hL hS

theorem said : Rows.FnExactFlattenSaid :=
  OpenClaim.holds_of_cond 7 Tryz.f7 rfl rfl rfl rfl rfl rfl rfl ⟨rfl, rfl, rfl, rfl, rfl⟩ rfl rfl rfl rfl rfl (by kernel_rfl) Tryz.func7 (by kernel_rfl)
    (of_decide_eq_true (by kernel_rfl)) (by unfold Func.isWrapper; first | (rw [if_pos (by decide +kernel)]; kernel_rfl) | (rw [if_neg (by decide +kernel)]; exact ⟨rfl, rfl⟩))
    (fun os started H enc _ F => by rw [OpenClaim.pre_eq_preRow]; exact lifted os started H enc F)

theorem proved : Rows.FnExactFlattenSaid := said
#print axioms proved
end Go.Proofs.YtpalpbpamcaakaaGreat.fnExactFlatten
