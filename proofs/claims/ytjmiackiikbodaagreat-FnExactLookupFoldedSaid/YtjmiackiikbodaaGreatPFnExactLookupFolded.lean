/-
  laws.FnExactLookupFolded returns true whatever the dictionary, the fold list and the outline: impl.LookupFolded answers as the specification and leaves its arguments. Conditions: none but the row's own.
-/
import Derived.Test.YtjmiackiikbodaaGreatRows
import Derived.WalkKit
import Derived.ProofKit
import Derived.OpenShut
import Derived.ShutString
import Derived.ChangeOld
import Derived.Below
import Derived.SliceStrings
import Derived.JoinedCond
import Derived.Deep.DeepHandedRow
import Derived.Deep.DeepWitnessRowRef
import Derived.Lib.Hide
import Derived.Test.YtjmiackiikbodaaGreatLfS
namespace Go.Proofs.YtjmiackiikbodaaGreat.fnExactLookupFolded
open Go.ChangeShapes Go.WideShapes Go.ChangeAt Go.RowKit
open Go.ChangeMaps (open_string shut_string)
set_option linter.unusedVariables false
set_option maxRecDepth 100000

theorem own : ownKnob Tryz.prog.godebug = none := by kernel_rfl
theorem laidOut : laidOutB Tryz.prog = true := by kernel_rfl

/-- A slice of integers that came in. -/
def IsRow (k : IntKind) (w : World) (a : Option Addr) (len cap : Nat) (zs : List Int) : Prop :=
  (a = none ∧ len = 0 ∧ cap = 0 ∧ zs = []) ∨
  ∃ x, a = some x ∧ len ≤ cap ∧ cap ≤ maxLen ∧ zs.length = cap ∧ (∀ i, i < zs.length → w.cell? (x.add i) = some (.int k (zs.getD i 0))) ∧ ∀ n ∈ zs, (Lit.int k n).wf = true

theorem ints_of {w : World} {a : Option Addr} {n c : Nat} {z : List Int} (h : IsRow .i64 w a n c z) : (z.take n).length = n ∧ n ≤ maxLen ∧ IntsAt w (.slice a n c) (z.take n) := by
  rcases h with ⟨rfl, rfl, rfl, rfl⟩ | ⟨x, rfl, hl, hm, hs, hcell, hz⟩
  · exact ⟨rfl, by decide, IntsAt.nil _ _ _⟩
  · have hlen : (z.take n).length = n := by rw [List.length_take]; omega
    refine ⟨hlen, by omega, ?_⟩
    by_cases h0 : n = 0
    · subst h0; exact IntsAt.nil _ _ _
    · obtain ⟨b, o, spot⟩ := x
      have h1 := hcell 0 (by omega)
      have hspot : spot = none := by simpa [Addr.add] using World.cell?_spot h1
      subst hspot
      refine ⟨_, c, by rw [hlen], by rw [hlen]; exact hl, .inr ⟨b, o, rfl, ?_, fun j y hy => ?_⟩⟩
      · have : (w.cell? ⟨b, o, none⟩).isSome := by have := h1; simp [Addr.add] at this; rw [this]; rfl
        rcases Nat.lt_or_ge b w.heap.size with h' | h'
        · exact h'
        · simp [World.cell?, Array.getElem?_eq_none h'] at this
      · have hj : j < n := by
          rcases Nat.lt_or_ge j n with h' | h'
          · exact h'
          · rw [List.getElem?_eq_none (by rw [hlen]; exact h')] at hy; cases hy
        have h2 := hcell j (by omega)
        rw [List.getElem?_take_of_lt hj] at hy
        by_cases hj0 : j = 0
        · subst hj0; simpa [Addr.add, List.getD, hy] using h2
        · simpa [Addr.add, List.getD, hy, hj0] using h2
/-! ### THE WALK: the Go text returns true, and writes nothing that was there. -/
set_option maxRecDepth 100000 in
set_option maxHeartbeats 8000000 in
theorem walk (u0 : Value) (d0 : List Ent) (a1 : Option Addr) (n1 c1 : Nat) (e1 : List (Int × ByteArray)) (a2 : Option Addr) (n2 c2 : Nat) (z2 : List Int) (w : World) (hS : w.ShapedOpen Tryz.prog)  (w0 : EntsIn w u0 d0) (w1 : AtomsIn w a1 n1 c1 e1) (w2 : IsRow .i64 w a2 n2 c2 z2) :
    Calls Tryz.prog 3 #[dV u0, .slice a1 n1 c1, .slice a2 n2 c2] w fun e w' => e = .returned (.bool true) ∧ Below w.heap.size w w' := by
  obtain ⟨hat, hlen, hfine⟩ := w0
  obtain ⟨hfm, hfl, hfrow, hfval⟩ := w1
  obtain ⟨hlen2, hnm2, hrow2⟩ := ints_of w2
  obtain ⟨ys, hzs2⟩ : ∃ ys, ys = z2.take n2 := ⟨_, rfl⟩
  rw [← hzs2] at hlen2 hrow2
  unfold maxLen at hnm2
  have HY := Lib.hid hrow2
  have HFr := Lib.hid hfrow
  have HD := Lib.hid hat
  have CZ := Lib.hid (fun w' hb => szDw_any u0 d0 w' ⟨hat.below (w' := w') hb, hlen, hfine⟩)
  have CZF := Lib.hid (fun q w' h0 h1 hb => szFsL_any q h0 h1 (.slice a1 n1 c1) e1 w' (hfrow.below (w' := w') hb) (by rw [hfl]; exact hfm) (fun e he => (hfval e he).2))
  have CT := Lib.hid (fun hn hx w' hb => toD_any u0 d0 w' (hat.below (w' := w') hb) hn hx)
  have CE := Lib.hid (fun u v w h h' hn hx => eqD_same u v d0 w h h' hn hx)
  have HFL := Lib.hid hfl
  clear w2 hzs2 hS
  obtain ⟨a, cap, rfl, hcap, _⟩ := hat.cells
  by_cases hbig : 1048576 < n2
  · clear hat hlen hfine CZ CT CE CZF hlen2 hrow2 hfm hfrow hfval HD HFr HY
    unfold dV
    go_enter Tryz.func3, Tryz.ntmps3
    go_wp2
    go_ret
    exact ⟨rfl, below_al _ _⟩
  have CY := Lib.hid (fun w' hb => toI_full _ ys w' (hrow2.below (w' := w') hb) (by omega))
  have CYE := Lib.hid (fun v u w h h' => eqI_same v u ys w h h' (by omega))
  have cs := fun v f u w h hf hu hn hx hfn hfx => specLookupFolded_any v d0 f e1 u ys w h hn hx hf hfn hfx hu (by omega)
  have ci := fun v f u w h hf hu hn hx hfn hfx => LookupFolded_any v d0 f e1 u ys w h hn hx hf hfn hfx hu (by omega)
  unfold lfE at cs ci
  obtain ⟨t, ht⟩ : ∃ t, t = ((lfR d0 e1 ys).map (·.1)).getD ⟨#[]⟩ := ⟨_, rfl⟩
  obtain ⟨by_, hby⟩ : ∃ i, i = ((lfR d0 e1 ys).map (·.2)).getD 0 := ⟨_, rfl⟩
  obtain ⟨ok, hok⟩ : ∃ b, b = (lfR d0 e1 ys).isSome := ⟨_, rfl⟩
  rw [← ht, ← hby, ← hok] at cs ci
  have CS := Lib.hid cs
  have CI := Lib.hid ci
  obtain ⟨n, hnn⟩ : ∃ n, n = d0.length := ⟨_, rfl⟩
  have HN := Lib.hid hnn
  obtain ⟨m, hmm⟩ : ∃ m, m = e1.length := ⟨_, rfl⟩
  have HM := Lib.hid hmm
  have hm1 : m = n1 := hmm.trans hfl
  unfold maxLen at hfm
  unfold dV at CZ CT CS CI CE ⊢
  rw [← hnn] at CZ CT CS CI CE hcap ⊢
  clear cs ci hat hlen hfine hnn hlen2 hrow2 hmm hfl hfrow hfval ht hby hok
  go_enter Tryz.func3, Tryz.ntmps3
  go_wp2_with fail
  refine (CZ.out _ (below_al _ _)).mono ?_
  rintro r w1 ⟨⟨q, rfl, hq⟩, hb⟩
  have A1 : Hid (BoxV w1 w.heap.size 24 (.slice a n cap)) := (BoxV.new w _ _).below hb (by simp)
  have B1 := Lib.hid (below_box hb)
  clear hb CZ
  rcases hq with rfl | ⟨hq0, hqs⟩
  · go_wp2
    go_ret
    exact ⟨rfl, B1.out⟩
  have hq1 : q ≤ 1048576 := by omega
  have HIN := Lib.hid (wtE_in (es := d0) (by rw [← HN.out]; omega))
  have hnq : ¬ q < 0 := by omega
  clear hqs
  go_wp2_with fail
  refine (CZF.out q _ hq0 hq1 B1.out).mono ?_
  rintro r w2 ⟨⟨r, rfl, hr⟩, hb⟩
  have A2 := Lib.hid (A1.out.below hb A1.out.lt)
  have B2 := Lib.hid (below_step B1.out hb)
  have HRr := Lib.hid hr
  clear hb CZF A1 B1 hr hq0 hq1
  by_cases hneg : r < 0
  · go_wp2
    go_ret
    exact ⟨rfl, B2.out⟩
  obtain ⟨hfn, hfx⟩ := HRr.out (by omega)
  obtain ⟨hdn, hdx⟩ := HIN.out
  rw [← HN.out] at hdn
  have CT1 := Lib.hid (CT.out hdn hdx)
  have CS1 := Lib.hid (fun v f u w h hf hu => CS.out v f u w h hf hu (by omega) (fun e he => (hdx e he).ok) (by omega) hfx)
  have CI1 := Lib.hid (fun v f u w h hf hu => CI.out v f u w h hf hu (by omega) (fun e he => (hdx e he).ok) (by omega) hfx)
  have CE1 := Lib.hid (fun u v w h h' => CE.out u v w h h' (by omega) (fun e he => (hdx e he).ok))
  have CF1 := Lib.hid (fun w' hb => toFs_any (.slice a1 n1 c1) e1 w' (HFr.out.below (w' := w') hb) hfn)
  have CFE := Lib.hid (fun v u w h h' => eqFs_same v u e1 w h h' (by omega))
  clear CT CS CI CE HRr HIN hfn hfx hdn hdx hnq
  have cA := A2.out.cell
  go_wp2_with fail
  refine (CT1.out _ B2.out).mono ?_
  rintro r w3 ⟨⟨u, rfl, hu⟩, hb⟩
  have U3 := Lib.hid hu.at
  obtain ⟨uaa, uac, huf, _, _⟩ := hu.at.cells
  rw [← HN.out] at huf
  subst huf
  clear hu
  have A3 := Lib.hid (A2.out.below hb A2.out.lt)
  have B3 := Lib.hid (below_step B2.out hb)
  clear hb A2 B2  cA
  go_wp2_with fail
  refine (CF1.out _ B3.out).mono ?_
  rintro r w4 ⟨⟨f3, rfl, hf⟩, hb⟩
  have F4 := Lib.hid hf.atoms
  clear hf
  have U4 := Lib.hid (U3.out.below hb)
  have A4 := Lib.hid (A3.out.below hb A3.out.lt)
  have B4 := Lib.hid (below_step B3.out hb)
  clear hb U3 A3 B3  
  go_wp2_with fail
  refine (CY.out _ B4.out).mono ?_
  rintro r w5 ⟨⟨y3, rfl, _, hy⟩, hb⟩
  have Y5 := Lib.hid hy
  clear hy
  have U5 := Lib.hid (U4.out.below hb)
  have F5 := Lib.hid (F4.out.below hb)
  have A5 := Lib.hid (A4.out.below hb A4.out.lt)
  have B5 := Lib.hid (below_step B4.out hb)
  clear hb U4 F4 A4 B4  
  go_wp2_with fail
  refine (CS1.out _ _ _ _ U5.out F5.out Y5.out).mono ?_
  rintro r w6 ⟨rfl, hb⟩
  have A6 := Lib.hid (A5.out.below hb A5.out.lt)
  have B6 := Lib.hid (below_step B5.out hb)
  clear hb A5 B5 U5 F5 Y5 
  have cA := A6.out.cell
  go_wp2_with fail
  refine (CT1.out _ B6.out).mono ?_
  rintro r w7 ⟨⟨u, rfl, hu⟩, hb⟩
  have U7 := Lib.hid hu.at
  obtain ⟨xaa, xac, huf, _, _⟩ := hu.at.cells
  rw [← HN.out] at huf
  subst huf
  clear hu
  have A7 := Lib.hid (A6.out.below hb A6.out.lt)
  have B7 := Lib.hid (below_step B6.out hb)
  clear hb A6 B6  cA
  obtain ⟨v7, hv7⟩ : ∃ W, W = w7.alloc (.cells #[.slice xaa n xac] 33) := ⟨_, rfl⟩
  have hb77 : Below w7.heap.size w7 v7 := by rw [hv7]; exact below_al _ _
  have hB7 := below_step B7.out hb77
  have cf := CF1.out _ hB7
  rw [hv7] at cf
  have CF7 := Lib.hid cf
  have X7' : Hid (BoxV v7 w7.heap.size 33 (.slice xaa n xac)) := Lib.hid (by rw [hv7]; exact BoxV.new _ _ _)
  have HV := Lib.hid hv7
  have A7' := Lib.hid (A7.out.below hb77 A7.out.lt)
  have U7' := Lib.hid (U7.out.below hb77)
  have B7' := Lib.hid hB7
  clear hb77 hB7 cf hv7 A7 U7 B7
  go_wp2_with fail
  refine CF7.out.mono ?_
  rintro r w8 ⟨⟨f8, rfl, hf⟩, hb⟩
  rw [← HV.out] at hf hb
  have F8 := Lib.hid hf.atoms
  have A8 := Lib.hid (A7'.out.below hb A7'.out.lt)
  have U8 := Lib.hid (U7'.out.below hb)
  have X8 := Lib.hid (X7'.out.below hb X7'.out.lt)
  have B8 := Lib.hid (below_step B7'.out hb)
  clear hb hf A7' U7' X7' B7' CF7 HV
  go_wp2_with fail
  refine (CY.out _ B8.out).mono ?_
  rintro r w9 ⟨⟨y8, rfl, _, hy⟩, hb⟩
  have Y9 := Lib.hid hy
  clear hy
  have U9 := Lib.hid (U8.out.below hb)
  have F9 := Lib.hid (F8.out.below hb)
  have A9 := Lib.hid (A8.out.below hb A8.out.lt)
  have X9 := Lib.hid (X8.out.below hb X8.out.lt)
  have B9 := Lib.hid (below_step B8.out hb)
  clear hb U8 F8 A8 X8 B8  
  have cX := X9.out.cell
  go_wp2_with fail
  refine (CI1.out _ _ _ _ U9.out F9.out Y9.out).mono ?_
  rintro r w10 ⟨rfl, hb⟩
  have U10 := Lib.hid (U9.out.below hb)
  have F10 := Lib.hid (F9.out.below hb)
  have Y10 := Lib.hid (Y9.out.below hb)
  have A10 := Lib.hid (A9.out.below hb A9.out.lt)
  have X10 := Lib.hid (X9.out.below hb X9.out.lt)
  have B10 := Lib.hid (below_step B9.out hb)
  clear hb U9 F9 Y9 A9 X9 B9  cX
  have k0 := cell_regrown X10.out.cell
  have k1 := cell_regrown A10.out.cell
  go_wp2_with fail
  refine Mx.wp_region_mixed (Mx.ofL [(0, 1), (1, 1), (2, 2), (3, 3), (4, 0)] .done) (by kernel_rfl) (by kernel_rfl) ?_
  repeat ((first | refine Mx.mix0 rfl ?_ | refine Mx.mix1 rfl ?_); go_big_quiet_step (fail); refine wpQuiet_nil ?_)
  refine Mx.mix2 rfl ?_
  go_wp2_with fail
  refine (CT1.out _ (below_drewF B10.out 1)).mono ?_
  rintro r w11 ⟨⟨u, rfl, hu⟩, hb⟩
  have G11 : Hid (Below w10.heap.size w10 w11) := Lib.hid ((below_drewF (Below.refl _ _) 1).trans hb)
  have Z11 := Lib.hid hu.at
  obtain ⟨za, zc, huf, _, _⟩ := hu.at.cells
  rw [← HN.out] at huf
  subst huf
  clear hu
  have U11 := Lib.hid (U10.out.below G11.out)
  have F11 := Lib.hid (F10.out.below G11.out)
  have Y11 := Lib.hid (Y10.out.below G11.out)
  have B11 := Lib.hid (below_step B10.out G11.out)
  clear hb U10 F10 Y10 B10 k0 k1 X10 A10
  go_wp2
  refine Mx.mid_normal (fun _ => regrown_of_below G11.out) ?_
  refine Mx.mix3 rfl ?_
  go_wp2_with fail
  refine (CE1.out _ _ _ U11.out Z11.out).mono ?_
  rintro r w12 ⟨rfl, hb⟩
  have F12 := Lib.hid (F11.out.below hb)
  have Y12 := Lib.hid (Y11.out.below hb)
  have B12 := Lib.hid (below_step B11.out hb)
  clear hb F11 Y11 B11 G11 Z11 U11
  go_wp2
  refine Mx.mid_normal (fun q => by cases q) ?_
  repeat ((first | refine Mx.mix0 rfl ?_ | refine Mx.mix1 rfl ?_); go_big_quiet_step (fail); refine wpQuiet_nil ?_)
  refine Mx.mix_nil ?_
  go_wp2_with fail
  refine (CF1.out _ B12.out).mono ?_
  rintro r w13 ⟨⟨f13, rfl, hf⟩, hb⟩
  have G13 := Lib.hid hf.atoms
  clear hf
  have F13 := Lib.hid (F12.out.below hb)
  have Y13 := Lib.hid (Y12.out.below hb)
  have B13 := Lib.hid (below_step B12.out hb)
  clear hb F12 Y12 B12  
  go_wp2_with fail
  refine (CFE.out _ _ _ F13.out G13.out).mono ?_
  rintro r w14 ⟨rfl, hb⟩
  have Y14 := Lib.hid (Y13.out.below hb)
  have B14 := Lib.hid (below_step B13.out hb)
  clear hb Y13 B13 F13 G13 
  go_wp2_with fail
  refine (CY.out _ B14.out).mono ?_
  rintro r w15 ⟨⟨y15, rfl, _, hy⟩, hb⟩
  have V15 := Lib.hid hy
  clear hy
  have Y15 := Lib.hid (Y14.out.below hb)
  have B15 := Lib.hid (below_step B14.out hb)
  clear hb Y14 B14  
  go_wp2_with fail
  refine (CYE.out _ _ _ Y15.out.at V15.out.at).mono ?_
  rintro r w16 ⟨rfl, hb⟩
  have B16 := Lib.hid (below_step B15.out hb)
  clear hb B15 Y15 V15 
  go_wp2
  go_ret
  exact ⟨rfl, B16.out⟩

/-! ### THE ROW's STEP -/
set_option maxRecDepth 100000 in
theorem contract (H : Type) (enc : TypeId × Value → H) (W : World) (base : Nat) (args : Array Value) (ds gs : List (DataW H)) (before : List MemPlace)
    (hval : ∀ (j : Nat) t v, Tryz.f3.params[j]? = some t → args[j]? = some v → Value.okWide Tryz.prog W .any base t v)
    (hW : DataW.Whole enc Tryz.prog Tryz.f3.params.toList Rows.fnExactLookupFoldedSpec.vars false W args.toList ds gs before) (hL : laidMetH Tryz.prog Rows.fnExactLookupFoldedRow.laid W) (hS : W.ShapedOpen Tryz.prog) :
    Calls Tryz.prog 3 args W fun e W' => ∃ v, e = .returned v ∧ Rows.fnExactLookupFoldedSpec.post enc Tryz.prog Tryz.f3 false true false false W args v W' := by
  have hW' := hW
  obtain ⟨p, q, hA0, hV, rfl, hfz, hnd⟩ := hW
  have hA : DataW.TrodAll enc Tryz.prog W 0 (fun _ => true) true Tryz.f3.params.toList args.toList ds p := hA0
  rw [Tryz.params3] at hA hval
  obtain ⟨v0, vs0, d0, ds0, p0, q0, hargs, rfl, rfl, h0, r0⟩ := trodAll_cons hA
  obtain ⟨v1, vs1, d1, ds1, p1, q1, rfl, rfl, rfl, h1, r1⟩ := trodAll_cons r0
  obtain ⟨v2, vs2, d2, ds2, p2, q2, rfl, rfl, rfl, h2, r2⟩ := trodAll_cons r1
  obtain ⟨rfl, rfl, rfl⟩ := trodAll_nil r2
  obtain rfl : args = #[v0, v1, v2] := by cases args; simp_all
  obtain ⟨rfl, rfl⟩ := trodVars_none hV
  have k0 := h0
  have lt0 : ∀ x ∈ p0, x.block < W.heap.size := by obtain ⟨m, hm⟩ := k0; exact DataW.trod_lt m _ _ _ hm
  obtain ⟨u0, d0, rfl, w0⟩ := open_dictV Tryz.underlying24 (by kernel_rfl) (by kernel_rfl) ⟨rfl, rfl⟩ Tryz.underlying22 Tryz.underlying118 (by kernel_rfl) (by kernel_rfl) (by kernel_rfl) (by kernel_rfl) ⟨rfl, rfl⟩ ⟨rfl, rfl⟩ Tryz.underlying26 Tryz.underlying3 Tryz.underlying9 (hval 0 24 v0 rfl rfl) h0
  have k1 := h1
  have lt1 : ∀ x ∈ p1, x.block < W.heap.size := by obtain ⟨m, hm⟩ := k1; exact DataW.trod_lt m _ _ _ hm
  obtain ⟨a1, n1, c1, rfl⟩ := okWide_slice Tryz.underlying25 (hval 1 25 v1 rfl rfl)
  obtain ⟨e1, w1⟩ : ∃ es, AtomsIn W a1 n1 c1 es := by
    obtain ⟨fuel, hf⟩ := h1
    obtain ⟨a, n, c, es, hcs, hin⟩ := open_atoms Tryz.underlying25 Tryz.underlying69 (by kernel_rfl) (by kernel_rfl) (by kernel_rfl) ⟨rfl, rfl⟩ ⟨rfl, rfl⟩ Tryz.underlying3 Tryz.underlying9 hf
    simp [Value.cells] at hcs
    obtain ⟨rfl, rfl, rfl⟩ := hcs
    exact ⟨es, hin⟩
  have k2 := h2
  have lt2 : ∀ x ∈ p2, x.block < W.heap.size := by obtain ⟨m, hm⟩ := k2; exact DataW.trod_lt m _ _ _ hm
  obtain ⟨a2, n2, c2, rfl⟩ := okWide_slice Tryz.underlying26 (hval 2 26 v2 rfl rfl)
  obtain ⟨z2, w2⟩ : ∃ zs, IsRow .i64 W a2 n2 c2 zs := by
    obtain ⟨fuel, hf⟩ := h2
    rcases open_ints Tryz.underlying26 Tryz.underlying3 (by kernel_rfl) hf with ⟨hcs, _⟩ | ⟨x, l, c, zs, hcs, _, hl, hm, hz, _, hcell, hwz⟩
    · simp [Value.cells] at hcs
      obtain ⟨rfl, rfl, rfl⟩ := hcs
      exact ⟨[], .inl ⟨rfl, rfl, rfl, rfl⟩⟩
    · simp [Value.cells] at hcs
      obtain ⟨rfl, rfl, rfl⟩ := hcs
      exact ⟨zs, .inr ⟨_, rfl, hl, hm, by simpa using hz, hcell, hwz⟩⟩
  clear hA0 hval
  refine (walk u0 d0 a1 n1 c1 e1 a2 n2 c2 z2 W hS  w0 w1 w2).mono fun e W' ⟨he, bel⟩ => ?_
  subst he
  exact ⟨_, rfl, _, _, _, [], _, [], hW', trodAll_mk1 (shut_bool Tryz.underlying4 _), (trodAll_cons_mk (Below.trod laidOut (by kernel_rfl) (of_decide_eq_true (by kernel_rfl)) k0 bel lt0) (trodAll_cons_mk (Below.trod laidOut (by kernel_rfl) (of_decide_eq_true (by kernel_rfl)) k1 bel lt1) (trodAll_cons_mk (Below.trod laidOut (by kernel_rfl) (of_decide_eq_true (by kernel_rfl)) k2 bel lt2) trodAll_mk0))), rfl, bel.frame _, fun h => by cases h⟩

theorem reads (os : Os) {H : Type} (enc : TypeId × Value → H) : ∃ places, DataW.whole enc Tryz.prog ((World.holding Tryz.prog os ⟨#[], #[], []⟩).forCall (fun _ _ => 0) ⟨#[], #[.agg #[.slice none 0 0], .slice none 0 0, .slice none 0 0], []⟩).memory Tryz.f3.params.toList Rows.fnExactLookupFoldedSpec.vars false (#[.agg #[.slice none 0 0], .slice none 0 0, .slice none 0 0] : Array Value).toList 8 = some ([.agg [.nil], .nil, .nil], [], places) :=
  ⟨[], by kernel_rfl⟩

set_option maxRecDepth 100000 in
theorem lifted (os : Os) (started : os.Started) (H : Type) (enc : TypeId × Value → H) (F : Stop.Interp) :
    ReturnsInHanded {} Tryz.checked os 3 .any ((OpenSpec.ofChange Rows.fnExactLookupFoldedSpec).preRow enc Tryz.prog Tryz.f3 Rows.fnExactLookupFoldedRow.domain false Rows.fnExactLookupFoldedRow.laid) (((OpenSpec.ofChange Rows.fnExactLookupFoldedSpec).at F).post enc Tryz.prog Tryz.f3 false true false false) := by
  obtain ⟨places, hx⟩ := reads os enc
  refine returnsInHanded_of_row (C := Tryz.checked) (s := OpenSpec.ofChange Rows.fnExactLookupFoldedSpec) own started (by kernel_rfl) Tryz.func3
    (witness_row_atRef (enc := enc) (C := Tryz.checked) false (World.holding Tryz.prog os ⟨#[], #[], []⟩) #[.agg #[.slice none 0 0], .slice none 0 0, .slice none 0 0] rfl (by kernel_rfl) (by kernel_rfl) (by kernel_rfl)
      (OpenSpec.preRow_of_cond 8 hx (by kernel_rfl) (fun k hk => by cases hk) (by kernel_rfl) ⟨[], rfl, List.nodup_nil, fun b off h => by cases h⟩)) ?_
  intro W base args ds gs before hval hW _ _ _ hL hS _
  exact contract H enc W base args ds gs before hval hW hL hS

theorem said : Rows.FnExactLookupFoldedSaid :=
  OpenClaim.holds_of_cond 3 Tryz.f3 rfl rfl rfl rfl rfl rfl rfl ⟨rfl, rfl, rfl, rfl, rfl⟩ rfl rfl rfl rfl rfl (by kernel_rfl) Tryz.func3 (by kernel_rfl)
    (of_decide_eq_true (by kernel_rfl)) (by unfold Func.isWrapper; first | (rw [if_pos (by decide +kernel)]; kernel_rfl) | (rw [if_neg (by decide +kernel)]; exact ⟨rfl, rfl⟩))
    (fun os started H enc _ F => by rw [OpenClaim.pre_eq_preRow]; exact lifted os started H enc F)

theorem proved : Rows.FnExactLookupFoldedSaid := said
#print axioms proved
end Go.Proofs.YtjmiackiikbodaaGreat.fnExactLookupFolded
