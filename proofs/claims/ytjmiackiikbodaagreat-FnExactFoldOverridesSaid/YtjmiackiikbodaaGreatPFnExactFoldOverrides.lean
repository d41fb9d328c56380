/-
  laws.FnExactFoldOverrides returns true whatever the dictionary and the fold list: impl.FoldOverrides answers as the specification, leaves its arguments, and its answer owns its memory. Conditions: none but the row's own.
-/
import Derived.Test.YtjmiackiikbodaaGreatRows
import Derived.WalkKit
import Derived.ProofKit
import Derived.OpenShut
import Derived.ShutString
import Derived.ChangeOld
import Derived.Below
import Derived.SliceStrings
import Derived.JoinedCond
import Derived.Deep.DeepHandedRow
import Derived.Deep.DeepWitnessRowRef
import Derived.Lib.Hide
import Derived.Test.YtjmiackiikbodaaGreatFov
import Derived.Test.YtjmiackiikbodaaGreatMarkO
namespace Go.Proofs.YtjmiackiikbodaaGreat.fnExactFoldOverrides
open Go.ChangeShapes Go.WideShapes Go.ChangeAt Go.RowKit
open Go.ChangeMaps (open_string shut_string)
set_option linter.unusedVariables false
set_option maxRecDepth 100000

theorem own : ownKnob Tryz.prog.godebug = none := by kernel_rfl
theorem laidOut : laidOutB Tryz.prog = true := by kernel_rfl

theorem ownAs_touch {T : Nat → Prop} {w w' : World} {base : Nat} {v : Value} {n : Nat} {f : Nat → Atm} (h : OwnAs w base v n f) (ht : Touch T w w') (hT : ∀ b, base ≤ b → ¬ T b) : OwnAs w' base v n f := by
  rcases h with h | ⟨g, cap, hv, hc, hg, h0, hr⟩
  · exact .inl h
  · refine .inr ⟨g, cap, hv, hc, hg, h0, Nat.lt_of_lt_of_le hr.1 ht.1, fun j hj => ?_, fun j => ((ht.cf j hr.1 (hT g hg)).2).trans (hr.2.2 j)⟩
    exact ⟨((ht.cf _ hr.1 (hT g hg)).1).trans (hr.2.1 j hj).1, ((ht.cf _ hr.1 (hT g hg)).1).trans (hr.2.1 j hj).2⟩
/-! ### THE WALK: the Go text returns true, and writes nothing that was there. -/
set_option maxRecDepth 100000 in
set_option maxHeartbeats 8000000 in
theorem walk (u0 : Value) (d0 : List Ent) (a1 : Option Addr) (n1 c1 : Nat) (e1 : List (Int × ByteArray)) (w : World) (hS : w.ShapedOpen Tryz.prog)  (w0 : EntsIn w u0 d0) (w1 : AtomsIn w a1 n1 c1 e1) :
    Calls Tryz.prog 4 #[dV u0, .slice a1 n1 c1] w fun e w' => e = .returned (.bool true) ∧ Below w.heap.size w w' := by
  obtain ⟨hat, hlen, hfine⟩ := w0
  obtain ⟨hfm, hfl, hfrow, hfval⟩ := w1
  have HFr := Lib.hid hfrow
  have CZ := Lib.hid (fun w' hb => szDw_any u0 d0 w' ⟨hat.below (w' := w') hb, hlen, hfine⟩)
  have CZF := Lib.hid (fun q w' h0 h1 hb => szFsL_any q h0 h1 (.slice a1 n1 c1) e1 w' (hfrow.below (w' := w') hb) (by rw [hfl]; exact hfm) (fun e he => (hfval e he).2))
  have CT := Lib.hid (fun hn hx w' hb => toD_any u0 d0 w' (hat.below (w' := w') hb) hn hx)
  have CE := Lib.hid (fun u v w h h' hn hx => eqD_same u v d0 w h h' hn hx)
  have CMD := Lib.hid (fun base S v w h hm hn hS hb hx => markD_any base S v d0 w h hm hn hS hb hx)
  have HFL := Lib.hid hfl
  obtain ⟨a, cap, rfl, hcap, _⟩ := hat.cells
  have cs := fun v f w h hf hn hx hfn hfx => specFoldOverrides_any v d0 f e1 w h hn hx hf hfn hfx
  have ci := fun v f w h hf hn hx hfn hfx => FoldOverrides_any v d0 f e1 w h hn hx hf hfn hfx
  have ho1 : (ovO d0 e1).length ≤ 40 := by
    cases hg : (okD d0 && Pl.okFs e1)
    · rw [ovO_no hg]; simp
    · rw [ovO_yes hg]
      rw [Bool.and_eq_true] at hg
      exact Nat.le_trans (ovL_len _ _ _) (okD_parts hg.1).1
  have ho2 : ∀ xs ∈ ovO d0 e1, xs.length ≤ 6 := by
    intro xs hxs
    cases hg : (okD d0 && Pl.okFs e1)
    · rw [ovO_no hg] at hxs; simp at hxs
    · rw [ovO_yes hg] at hxs
      rw [Bool.and_eq_true] at hg
      obtain ⟨e, he, rfl⟩ := ovL_mem hxs
      exact (okE_size ((okD_parts hg.1).2.1 e he)).2.1
  obtain ⟨os, hos⟩ : ∃ os, os = ovO d0 e1 := ⟨_, rfl⟩
  obtain ⟨b, hbb⟩ : ∃ b, b = (okD d0 && Pl.okFs e1) := ⟨_, rfl⟩
  rw [← hos, ← hbb] at cs ci
  rw [← hos] at ho1 ho2
  have CS := Lib.hid cs
  have CI := Lib.hid ci
  have COE := Lib.hid (fun u v w h h' => eqOs_same u v os w h h' (by omega) (fun xs hx => by have := ho2 xs hx; omega))
  have CMO := Lib.hid (fun base S v w h => markOs_any base S v os w h (by omega) (fun xs hx => by have := ho2 xs hx; omega))
  have CHO := Lib.hid (fun base S v w h => heldOs_any base S v os w h (by omega) (fun xs hx => by have := ho2 xs hx; omega))
  obtain ⟨M, hM⟩ : ∃ M, M = endO 1 os := ⟨_, rfl⟩
  rw [← hM] at CMO CHO
  have HWt := Lib.hid (endE_wt 1 d0)
  have HWi := Lib.hid (fun h => wtE_in (es := d0) h)
  obtain ⟨n, hnn⟩ : ∃ n, n = d0.length := ⟨_, rfl⟩
  have HN := Lib.hid hnn
  unfold maxLen at hfm
  unfold dV at CZ CT CS CI CE CMD ⊢
  rw [← hnn] at CZ CT CS CI CE CMD hcap HWt HWi ⊢
  obtain ⟨E, hE⟩ : ∃ E, E = endE 1 d0 := ⟨_, rfl⟩
  have hEp1 : 1 ≤ E := by rw [hE]; exact endE_take 1 d0 0
  rw [← hE] at CMD HWt
  obtain ⟨WT, hWT⟩ : ∃ WT, WT = wtE d0 := ⟨_, rfl⟩
  rw [← hWT] at CZ HWt HWi
  clear cs ci hat hS hlen hfine hos hbb ho1 ho2 hnn hE hWT hM hfl hfrow hfval
  go_enter Tryz.func4, Tryz.ntmps4
  go_wp2_with fail
  refine (CZ.out _ (below_al _ _)).mono ?_
  rintro r w1 ⟨⟨q, rfl, hq⟩, hb⟩
  have A1 : Hid (BoxV w1 w.heap.size 24 (.slice a n cap)) := (BoxV.new w _ _).below hb (by simp)
  have B1 := Lib.hid (below_box hb)
  clear hb CZ
  rcases hq with rfl | ⟨hq0, hqs⟩
  · go_wp2
    go_ret
    exact ⟨rfl, B1.out⟩
  have hq1 : q ≤ 1048576 := by omega
  have hwt : WT + n ≤ 1048576 := by omega
  have hE1 : E ≤ 1100000 := by have := HWt.out; omega
  have hnq : ¬ q < 0 := by omega
  have HIN := Lib.hid (HWi.out hwt)
  clear hqs HWt HWi hwt
  go_wp2_with fail
  refine (CZF.out q _ hq0 hq1 B1.out).mono ?_
  rintro r w2 ⟨⟨r, rfl, hr⟩, hb⟩
  have A2 := Lib.hid (A1.out.below hb A1.out.lt)
  have B2 := Lib.hid (below_step B1.out hb)
  have HRr := Lib.hid hr
  clear hb CZF A1 B1 hr hq0 hq1
  by_cases hneg : r < 0
  · go_wp2
    go_ret
    exact ⟨rfl, B2.out⟩
  obtain ⟨hfn, hfx⟩ := HRr.out (by omega)
  obtain ⟨hdn, hdx⟩ := HIN.out
  have CT1 := Lib.hid (CT.out hdn hdx)
  have CS1 := Lib.hid (fun v f w h hf => CS.out v f w h hf (by omega) (fun e he => (hdx e he).ok) (by omega) hfx)
  have CI1 := Lib.hid (fun v f w h hf => CI.out v f w h hf (by omega) (fun e he => (hdx e he).ok) (by omega) hfx)
  have CE1 := Lib.hid (fun u v w h h' => CE.out u v w h h' (by omega) (fun e he => (hdx e he).ok))
  have CF1 := Lib.hid (fun w' hb => toFs_any (.slice a1 n1 c1) e1 w' (HFr.out.below (w' := w') hb) hfn)
  have CFE := Lib.hid (fun v u w h h' => eqFs_same v u e1 w h h' (by omega))
  have CMF := Lib.hid (fun base S v w h hS hb => markF_from base S E v e1.length (fun j => e1.getD j a00) w h hS hb (by omega) hEp1 (by omega))
  have CMD1 := Lib.hid (fun base S v w h hS hb => CMD.out base S v w h hE1 (by omega) hS hb (fun e he => by have := (hdx e he).1; omega))
  obtain ⟨m, hmm⟩ : ∃ m, m = e1.length := ⟨_, rfl⟩
  have HM := Lib.hid hmm
  rw [← hmm] at CMF
  have hmn : m ≤ 1048576 := by omega
  clear CT CS CI CE CMD HRr HIN hfn hfx hdn hdx hnq hmm
  have cA := A2.out.cell
  go_wp2_with fail
  refine (CT1.out _ B2.out).mono ?_
  rintro r w3 ⟨⟨u, rfl, hu⟩, hb⟩
  have U3 := Lib.hid hu.at
  obtain ⟨uaa, uac, huf, _, _⟩ := hu.at.cells
  rw [← HN.out] at huf
  subst huf
  clear hu
  have A3 := Lib.hid (A2.out.below hb A2.out.lt)
  have B3 := Lib.hid (below_step B2.out hb)
  clear hb A2 B2  cA
  go_wp2_with fail
  refine (CF1.out _ B3.out).mono ?_
  rintro r w4 ⟨⟨f3, rfl, hf⟩, hb⟩
  have F4 := Lib.hid hf.atoms
  clear hf
  have U4 := Lib.hid (U3.out.below hb)
  have A4 := Lib.hid (A3.out.below hb A3.out.lt)
  have B4 := Lib.hid (below_step B3.out hb)
  clear hb U3 A3 B3  
  go_wp2_with fail
  refine (CS1.out _ _ _ U4.out F4.out).mono ?_
  rintro r w5 ⟨⟨wv, rfl, hwv⟩, hb⟩
  have V := Lib.hid hwv
  obtain ⟨wa, wc, rfl, _, _⟩ := hwv.cells
  clear hwv
  have A5 := Lib.hid (A4.out.below hb A4.out.lt)
  have B5 := Lib.hid (below_step B4.out hb)
  clear hb A4 B4 U4 F4 
  have D5 := Lib.hid (Below.refl w5.heap.size w5)
  have HA5 : Hid (w.heap.size < w5.heap.size) := Lib.hid A5.out.lt
  have cA := A5.out.cell
  go_wp2_with fail
  refine (CT1.out _ B5.out).mono ?_
  rintro r w6 ⟨⟨u, rfl, hu⟩, hb⟩
  obtain ⟨xa, xc, huf, _, _⟩ := hu.at.cells
  rw [← HN.out] at huf
  subst huf
  obtain ⟨v6, hv6⟩ : ∃ W, W = w6.alloc (.cells #[.slice xa n xc] 33) := ⟨_, rfl⟩
  have hb66 : Below w6.heap.size w6 v6 := by rw [hv6]; exact below_al _ _
  have hb56 : Below w5.heap.size w5 v6 := below_step hb hb66
  have hB6 := below_step B5.out hb56
  have cf := CF1.out _ hB6
  rw [hv6] at cf
  have CF7 := Lib.hid cf
  have X6 : Hid (BoxV v6 w6.heap.size 33 (.slice xa n xc)) := Lib.hid (by rw [hv6]; exact BoxV.new _ _ _)
  have O6 : Hid (OwnEs v6 w5.heap.size w6.heap.size (.slice xa n xc) d0) := Lib.hid (hu.below hb66)
  have HV := Lib.hid hv6
  have S6 : Hid (w5.heap.size ≤ w6.heap.size ∧ w6.heap.size < v6.heap.size) := Lib.hid ⟨hb.size, by rw [hv6]; simp⟩
  have A6 := Lib.hid (A5.out.below hb56 A5.out.lt)
  have B6 := Lib.hid hB6
  have D6 := Lib.hid hb56
  clear hb hb66 hb56 hB6 cf hv6 A5 B5 D5 hu cA
  go_wp2_with fail
  refine CF7.out.mono ?_
  rintro r w7 ⟨⟨f7, rfl, hf⟩, hb⟩
  rw [← HV.out] at hf hb
  have F7 : Hid (OwnAs w7 v6.heap.size f7 m (fun j => e1.getD j a00)) := Lib.hid (by rw [HM.out]; exact hf)
  have FL7 : Hid (0 < m → ∀ g, f7.ownBlock = some g → g < w7.heap.size) := Lib.hid (fun h0 => F7.out.lt h0)
  have X7 := Lib.hid (X6.out.below hb X6.out.lt)
  have O7 := Lib.hid (O6.out.below hb)
  have A7 := Lib.hid (A6.out.below hb A6.out.lt)
  have B7 := Lib.hid (below_step B6.out hb)
  have D7 := Lib.hid (below_step D6.out hb)
  have S7 : Hid (v6.heap.size ≤ w7.heap.size) := Lib.hid hb.size
  clear hb hf X6 O6 A6 B6 D6 CF7 HV
  have cX := X7.out.cell
  go_wp2_with fail
  refine (CI1.out _ _ _ O7.out.at (show AtomsAt _ f7 e1 from by have := F7.out; rw [HM.out] at this; exact this.atoms)).mono ?_
  rintro r w8 ⟨⟨gv, us, rfl, hg, hus⟩, hb⟩
  have G8 : Hid (OwnOs w8 w7.heap.size w8.heap.size gv os) := Lib.hid (by rw [← hus]; exact hg.own')
  obtain ⟨ga, gc, rfl, _, _⟩ := G8.out.at.cells
  clear hg hus
  have F8 := Lib.hid (F7.out.below hb)
  have O8 := Lib.hid (O7.out.below hb)
  have A8 := Lib.hid (A7.out.below hb A7.out.lt)
  have X8 := Lib.hid (X7.out.below hb X7.out.lt)
  have B8 := Lib.hid (below_step B7.out hb)
  have D8 := Lib.hid (below_step D7.out hb)
  have S8 : Hid (w7.heap.size ≤ w8.heap.size) := Lib.hid hb.size
  clear hb F7 O7 A7 X7 B7 D7  cX
  go_wp2_with fail
  refine (COE.out _ _ _ G8.out.at (V.out.below D8.out)).mono ?_
  rintro r w9 ⟨rfl, hb⟩
  have F9 := Lib.hid (F8.out.below hb)
  have O9 := Lib.hid (O8.out.below hb)
  have G9 := Lib.hid (G8.out.below hb)
  have A9 := Lib.hid (A8.out.below hb A8.out.lt)
  have X9 := Lib.hid (X8.out.below hb X8.out.lt)
  have B9 := Lib.hid (below_step B8.out hb)
  have D9 := Lib.hid (below_step D8.out hb)
  have S9 : Hid (w8.heap.size ≤ w9.heap.size) := Lib.hid hb.size
  clear hb F8 O8 G8 A8 X8 B8 D8  
  have k0 := cell_regrown X9.out.cell
  have k1 := cell_regrown A9.out.cell
  go_wp2_with fail
  refine Mx.wp_region_mixed (Mx.ofL [(0, 1), (1, 1), (2, 2), (3, 3), (4, 0)] .done) (by kernel_rfl) (by kernel_rfl) ?_
  repeat ((first | refine Mx.mix0 rfl ?_ | refine Mx.mix1 rfl ?_); go_big_quiet_step (fail); refine wpQuiet_nil ?_)
  refine Mx.mix2 rfl ?_
  go_wp2_with fail
  refine (CT1.out _ (below_drewF B9.out 1)).mono ?_
  rintro r w10 ⟨⟨u, rfl, hu⟩, hb⟩
  have G10' : Hid (Below w9.heap.size w9 w10) := Lib.hid ((below_drewF (Below.refl _ _) 1).trans hb)
  have Z10 := Lib.hid hu.at
  obtain ⟨za, zc, huf, _, _⟩ := hu.at.cells
  rw [← HN.out] at huf
  subst huf
  have O10 := Lib.hid (O9.out.below G10'.out)
  clear hb k0 k1 hu
  go_wp2
  refine Mx.mid_normal (fun _ => regrown_of_below G10'.out) ?_
  refine Mx.mix3 rfl ?_
  go_wp2_with fail
  refine (CE1.out _ _ _ O10.out.at Z10.out).mono ?_
  rintro r w11 ⟨rfl, hb⟩
  have hb911 : Below w9.heap.size w9 w11 := below_step G10'.out hb
  have F11 := Lib.hid (F9.out.below hb911)
  have O11 := Lib.hid (O9.out.below hb911)
  have G11 := Lib.hid (G9.out.below hb911)
  have A11 := Lib.hid (A9.out.below hb911 A9.out.lt)
  have X11 := Lib.hid (X9.out.below hb911 X9.out.lt)
  have B11 := Lib.hid (below_step B9.out hb911)
  have D11 := Lib.hid (below_step D9.out hb911)
  have S11 : Hid (w9.heap.size ≤ w11.heap.size) := Lib.hid hb911.size
  clear hb hb911 F9 O9 G9 A9 X9 B9 D9 G10' O10 Z10
  go_wp2
  refine Mx.mid_normal (fun q => by cases q) ?_
  repeat ((first | refine Mx.mix0 rfl ?_ | refine Mx.mix1 rfl ?_); go_big_quiet_step (fail); refine wpQuiet_nil ?_)
  refine Mx.mix_nil ?_
  go_wp2_with fail
  refine (CF1.out _ B11.out).mono ?_
  rintro r w12 ⟨⟨f12, rfl, hf⟩, hb⟩
  have Y12 := Lib.hid hf.atoms
  clear hf
  have F12 := Lib.hid (F11.out.below hb)
  have O12 := Lib.hid (O11.out.below hb)
  have G12 := Lib.hid (G11.out.below hb)
  have A12 := Lib.hid (A11.out.below hb A11.out.lt)
  have X12 := Lib.hid (X11.out.below hb X11.out.lt)
  have B12 := Lib.hid (below_step B11.out hb)
  have D12 := Lib.hid (below_step D11.out hb)
  have S12 : Hid (w11.heap.size ≤ w12.heap.size) := Lib.hid hb.size
  clear hb F11 O11 G11 A11 X11 B11 D11  
  go_wp2_with fail
  refine (CFE.out _ _ _ (show AtomsAt _ f7 e1 from by have := F12.out; rw [HM.out] at this; exact this.atoms) Y12.out).mono ?_
  rintro r w13 ⟨rfl, hb⟩
  have F13 := Lib.hid (F12.out.below hb)
  have O13 := Lib.hid (O12.out.below hb)
  have G13 := Lib.hid (G12.out.below hb)
  have A13 := Lib.hid (A12.out.below hb A12.out.lt)
  have X13 := Lib.hid (X12.out.below hb X12.out.lt)
  have B13 := Lib.hid (below_step B12.out hb)
  have D13 := Lib.hid (below_step D12.out hb)
  have S13 : Hid (w12.heap.size ≤ w13.heap.size) := Lib.hid hb.size
  clear hb F12 O12 G12 A12 X12 B12 D12 Y12 
  have cX := X13.out.cell
  go_wp2_with fail
  refine (CMD1.out _ _ _ _ O13.out (by have := S6.out; have := S7.out; have := S8.out; have := S9.out; have := S11.out; have := S12.out; have := S13.out; omega) D13.out.size).mono ?_
  rintro r w14 ⟨rfl, _, hT, hb⟩
  have D14 : Hid (Below w5.heap.size w5 w14) := Lib.hid (D13.out.trans hb)
  have F14 := Lib.hid (ownAs_touch F13.out hT (fun x h1 h2 => by have := S6.out; omega))
  have G14 : Hid (OwnOs w14 w7.heap.size w8.heap.size (.slice ga os.length gc) os) := Lib.hid (G13.out.touch hT (fun x h1 h2 h3 => by have := S6.out; have := S7.out; omega))
  have A14 := Lib.hid (A13.out.below hb HA5.out)
  have B14 : Hid (Below w.heap.size w w14) := Lib.hid (B13.out.trans (hb.mono (Nat.le_of_lt HA5.out)))
  have S14 : Hid (w13.heap.size ≤ w14.heap.size) := Lib.hid hb.size
  clear hb hT F13 G13 A13 B13 D13 O13 X13 cX
  go_wp2_with fail
  refine (CMF.out _ w7.heap.size _ _ F14.out FL7.out (by have := S6.out; have := S7.out; have := S8.out; have := S9.out; have := S11.out; have := S12.out; have := S13.out; have := S14.out; omega)).mono ?_
  rintro r w15 ⟨rfl, hT, hb⟩
  have D15 : Hid (Below w5.heap.size w5 w15) := Lib.hid (D14.out.trans (hb.mono (by have := S6.out; omega)))
  have G15 : Hid (OwnOs w15 w7.heap.size w8.heap.size (.slice ga os.length gc) os) := Lib.hid (G14.out.touch hT (fun x h1 h2 h3 => by omega))
  have A15 := Lib.hid (A14.out.below hb (by have := HA5.out; have := S6.out; omega))
  have B15 : Hid (Below w.heap.size w w15) := Lib.hid (B14.out.trans (hb.mono (by have := HA5.out; have := S6.out; omega)))
  have hEm : ¬ (((E + 2 * m : Nat) : Int) < 0) := by omega
  clear hb hT F14 FL7 G14 A14 B14 D14
  go_wp2_with fail
  refine (COE.out _ _ _ G15.out.at (V.out.below D15.out)).mono ?_
  rintro r w16 ⟨rfl, hb⟩
  have A16 := Lib.hid (A15.out.below hb A15.out.lt)
  have G16 := Lib.hid (G15.out.below hb)
  have B16 := Lib.hid (below_step B15.out hb)
  have D16 := Lib.hid (below_step D15.out hb)
  clear hb A15 G15 B15 D15 hEm
  go_wp2_with fail
  refine (CMO.out _ _ _ _ G16.out).mono ?_
  rintro r w17 ⟨rfl, hG, _, hb⟩
  have G17 := Lib.hid hG
  have hA7 : w.heap.size < w7.heap.size := by have := HA5.out; have := S6.out; have := S7.out; omega
  have A17 := Lib.hid (A16.out.below hb hA7)
  have B17 : Hid (Below w.heap.size w w17) := Lib.hid (B16.out.trans (hb.mono (Nat.le_of_lt hA7)))
  have D17 : Hid (Below w5.heap.size w5 w17) := Lib.hid (D16.out.trans (hb.mono (by have := S6.out; have := S7.out; omega)))
  have hMp : ¬ (M : Int) < 0 := by omega
  have hMM : ((M : Int) != (M : Int)) = false := by simp
  clear hb hG A16 G16 B16 D16 hA7
  go_wp2_with fail
  refine (CHO.out _ _ _ _ G17.out).mono ?_
  rintro r w18 ⟨rfl, hb⟩
  have G18 := Lib.hid (G17.out.below hb)
  have A18 := Lib.hid (A17.out.below hb A17.out.lt)
  have B18 := Lib.hid (below_step B17.out hb)
  have D18 := Lib.hid (below_step D17.out hb)
  clear hb G17 A17 B17 D17  
  have cA := A18.out.cell
  go_wp2_with fail
  refine (CT1.out _ B18.out).mono ?_
  rintro r w19 ⟨⟨u, rfl, hu⟩, hb⟩
  have U19 := Lib.hid hu.at
  obtain ⟨yaa, yac, huf, _, _⟩ := hu.at.cells
  rw [← HN.out] at huf
  subst huf
  clear hu
  have G19 := Lib.hid (G18.out.below hb)
  have B19 := Lib.hid (below_step B18.out hb)
  have D19 := Lib.hid (below_step D18.out hb)
  clear hb G18 B18 D18  cA
  go_wp2_with fail
  refine (CF1.out _ B19.out).mono ?_
  rintro r w20 ⟨⟨f20, rfl, hf⟩, hb⟩
  have F20 := Lib.hid hf.atoms
  clear hf
  have G20 := Lib.hid (G19.out.below hb)
  have U20 := Lib.hid (U19.out.below hb)
  have B20 := Lib.hid (below_step B19.out hb)
  have D20 := Lib.hid (below_step D19.out hb)
  clear hb G19 U19 B19 D19  
  go_wp2_with fail
  refine (CI1.out _ _ _ U20.out F20.out).mono ?_
  rintro r w21 ⟨⟨hv, us2, rfl, hg, hus⟩, hb⟩
  have H21 : Hid (OutsAt w21 hv os) := Lib.hid (by rw [← hus]; exact hg.at)
  obtain ⟨ha, hc, rfl, _, _⟩ := H21.out.cells
  clear hg hus
  have G21 := Lib.hid (G20.out.below hb)
  have B21 := Lib.hid (below_step B20.out hb)
  have D21 := Lib.hid (below_step D20.out hb)
  clear hb G20 B20 D20 U20 F20 
  go_wp2_with fail
  refine (COE.out _ _ _ H21.out (V.out.below D21.out)).mono ?_
  rintro r w22 ⟨rfl, hb⟩
  have G22 := Lib.hid (G21.out.below hb)
  have B22 := Lib.hid (below_step B21.out hb)
  have D22 := Lib.hid (below_step D21.out hb)
  clear hb G21 B21 D21 H21 
  go_wp2_with fail
  refine (CHO.out _ _ _ _ G22.out).mono ?_
  rintro r w23 ⟨rfl, hb⟩
  have B23 := Lib.hid (below_step B22.out hb)
  have D23 := Lib.hid (below_step D22.out hb)
  clear hb  B22 D22  
  go_wp2
  go_ret
  exact ⟨rfl, B23.out⟩

/-! ### THE ROW's STEP -/
set_option maxRecDepth 100000 in
theorem contract (H : Type) (enc : TypeId × Value → H) (W : World) (base : Nat) (args : Array Value) (ds gs : List (DataW H)) (before : List MemPlace)
    (hval : ∀ (j : Nat) t v, Tryz.f4.params[j]? = some t → args[j]? = some v → Value.okWide Tryz.prog W .any base t v)
    (hW : DataW.Whole enc Tryz.prog Tryz.f4.params.toList Rows.fnExactFoldOverridesSpec.vars false W args.toList ds gs before) (hL : laidMetH Tryz.prog Rows.fnExactFoldOverridesRow.laid W) (hS : W.ShapedOpen Tryz.prog) :
    Calls Tryz.prog 4 args W fun e W' => ∃ v, e = .returned v ∧ Rows.fnExactFoldOverridesSpec.post enc Tryz.prog Tryz.f4 false true false false W args v W' := by
  have hW' := hW
  obtain ⟨p, q, hA0, hV, rfl, hfz, hnd⟩ := hW
  have hA : DataW.TrodAll enc Tryz.prog W 0 (fun _ => true) true Tryz.f4.params.toList args.toList ds p := hA0
  rw [Tryz.params4] at hA hval
  obtain ⟨v0, vs0, d0, ds0, p0, q0, hargs, rfl, rfl, h0, r0⟩ := trodAll_cons hA
  obtain ⟨v1, vs1, d1, ds1, p1, q1, rfl, rfl, rfl, h1, r1⟩ := trodAll_cons r0
  obtain ⟨rfl, rfl, rfl⟩ := trodAll_nil r1
  obtain rfl : args = #[v0, v1] := by cases args; simp_all
  obtain ⟨rfl, rfl⟩ := trodVars_none hV
  have k0 := h0
  have lt0 : ∀ x ∈ p0, x.block < W.heap.size := by obtain ⟨m, hm⟩ := k0; exact DataW.trod_lt m _ _ _ hm
  obtain ⟨u0, d0, rfl, w0⟩ := open_dictV Tryz.underlying24 (by kernel_rfl) (by kernel_rfl) ⟨rfl, rfl⟩ Tryz.underlying22 Tryz.underlying118 (by kernel_rfl) (by kernel_rfl) (by kernel_rfl) (by kernel_rfl) ⟨rfl, rfl⟩ ⟨rfl, rfl⟩ Tryz.underlying26 Tryz.underlying3 Tryz.underlying9 (hval 0 24 v0 rfl rfl) h0
  have k1 := h1
  have lt1 : ∀ x ∈ p1, x.block < W.heap.size := by obtain ⟨m, hm⟩ := k1; exact DataW.trod_lt m _ _ _ hm
  obtain ⟨a1, n1, c1, rfl⟩ := okWide_slice Tryz.underlying25 (hval 1 25 v1 rfl rfl)
  obtain ⟨e1, w1⟩ : ∃ es, AtomsIn W a1 n1 c1 es := by
    obtain ⟨fuel, hf⟩ := h1
    obtain ⟨a, n, c, es, hcs, hin⟩ := open_atoms Tryz.underlying25 Tryz.underlying69 (by kernel_rfl) (by kernel_rfl) (by kernel_rfl) ⟨rfl, rfl⟩ ⟨rfl, rfl⟩ Tryz.underlying3 Tryz.underlying9 hf
    simp [Value.cells] at hcs
    obtain ⟨rfl, rfl, rfl⟩ := hcs
    exact ⟨es, hin⟩
  clear hA0 hval
  refine (walk u0 d0 a1 n1 c1 e1 W hS  w0 w1).mono fun e W' ⟨he, bel⟩ => ?_
  subst he
  exact ⟨_, rfl, _, _, _, [], _, [], hW', trodAll_mk1 (shut_bool Tryz.underlying4 _), (trodAll_cons_mk (Below.trod laidOut (by kernel_rfl) (of_decide_eq_true (by kernel_rfl)) k0 bel lt0) (trodAll_cons_mk (Below.trod laidOut (by kernel_rfl) (of_decide_eq_true (by kernel_rfl)) k1 bel lt1) trodAll_mk0)), rfl, bel.frame _, fun h => by cases h⟩

theorem reads (os : Os) {H : Type} (enc : TypeId × Value → H) : ∃ places, DataW.whole enc Tryz.prog ((World.holding Tryz.prog os ⟨#[], #[], []⟩).forCall (fun _ _ => 0) ⟨#[], #[.agg #[.slice none 0 0], .slice none 0 0], []⟩).memory Tryz.f4.params.toList Rows.fnExactFoldOverridesSpec.vars false (#[.agg #[.slice none 0 0], .slice none 0 0] : Array Value).toList 8 = some ([.agg [.nil], .nil], [], places) :=
  ⟨[], by kernel_rfl⟩

set_option maxRecDepth 100000 in
theorem lifted (os : Os) (started : os.Started) (H : Type) (enc : TypeId × Value → H) (F : Stop.Interp) :
    ReturnsInHanded {} Tryz.checked os 4 .any ((OpenSpec.ofChange Rows.fnExactFoldOverridesSpec).preRow enc Tryz.prog Tryz.f4 Rows.fnExactFoldOverridesRow.domain false Rows.fnExactFoldOverridesRow.laid) (((OpenSpec.ofChange Rows.fnExactFoldOverridesSpec).at F).post enc Tryz.prog Tryz.f4 false true false false) := by
  obtain ⟨places, hx⟩ := reads os enc
  refine returnsInHanded_of_row (C := Tryz.checked) (s := OpenSpec.ofChange Rows.fnExactFoldOverridesSpec) own started (by kernel_rfl) Tryz.func4
    (witness_row_atRef (enc := enc) (C := Tryz.checked) false (World.holding Tryz.prog os ⟨#[], #[], []⟩) #[.agg #[.slice none 0 0], .slice none 0 0] rfl (by kernel_rfl) (by kernel_rfl) (by kernel_rfl)
      (OpenSpec.preRow_of_cond 8 hx (by kernel_rfl) (fun k hk => by cases hk) (by kernel_rfl) ⟨[], rfl, List.nodup_nil, fun b off h => by cases h⟩)) ?_
  intro W base args ds gs before hval hW _ _ _ hL hS _
  exact contract H enc W base args ds gs before hval hW hL hS

theorem said : Rows.FnExactFoldOverridesSaid :=
  OpenClaim.holds_of_cond 4 Tryz.f4 rfl rfl rfl rfl rfl rfl rfl ⟨rfl, rfl, rfl, rfl, rfl⟩ rfl rfl rfl rfl rfl (by kernel_rfl) Tryz.func4 (by kernel_rfl)
    (of_decide_eq_true (by kernel_rfl)) (by unfold Func.isWrapper; first | (rw [if_pos (by decide +kernel)]; kernel_rfl) | (rw [if_neg (by decide +kernel)]; exact ⟨rfl, rfl⟩))
    (fun os started H enc _ F => by rw [OpenClaim.pre_eq_preRow]; exact lifted os started H enc F)

theorem proved : Rows.FnExactFoldOverridesSaid := said
#print axioms proved
end Go.Proofs.YtjmiackiikbodaaGreat.fnExactFoldOverrides
