/-
  laws.FnExactPlainWords returns true whatever the list of atoms: impl.PlainWords answers as the specification and leaves its argument. Conditions: none but the row's own.
-/
import Derived.Test.YtiajaeaffmmckaaRows
import Derived.WalkKit
import Derived.ProofKit
import Derived.OpenShut
import Derived.ShutString
import Derived.ChangeOld
import Derived.Below
import Derived.SliceStrings
import Derived.JoinedCond
import Derived.Deep.DeepHandedRow
import Derived.Deep.DeepWitnessRowRef
import Derived.Lib.Hide
import Derived.Test.YtiajaeaffmmckaaWant5
import Derived.Test.YtiajaeaffmmckaaImpl5
import Derived.Test.YtiajaeaffmmckaaMarkA
namespace Go.Proofs.Ytiajaeaffmmckaa.fnExactPlainWords
open Go.ChangeShapes Go.WideShapes Go.ChangeAt Go.RowKit
open Go.ChangeMaps (open_string shut_string)
set_option linter.unusedVariables false
set_option maxRecDepth 100000

theorem own : ownKnob Try.prog.godebug = none := by kernel_rfl
theorem laidOut : laidOutB Try.prog = true := by kernel_rfl

theorem plainL_len (ls : List Atm) : (plainL ls).length ≤ 10 := by
  unfold plainL
  split
  · rename_i h
    have h1 := wordsOf_len ls
    have h2 := (okL_parts h).2.1
    omega
  · exact Nat.zero_le _
/-! ### THE WALK: the Go text returns true, and writes nothing that was there. -/
set_option maxRecDepth 100000 in
set_option maxHeartbeats 1000000 in
theorem walk (a0 : Option Addr) (n0 c0 : Nat) (e0 : List (Int × ByteArray)) (w : World) (hS : w.ShapedOpen Try.prog)  (w0 : AtomsIn w a0 n0 c0 e0) :
    Calls Try.prog 10 #[.slice a0 n0 c0] w fun e w' => e = .returned (.bool true) ∧ Below w.heap.size w w' := by
  obtain ⟨hnm, hlen, hrow, hval⟩ := w0
  have CZ := Lib.hid (fun w h => szAs_any (.slice a0 n0 c0) e0 w h (by rw [hlen]; exact hnm) (fun e he => (hval e he).2))
  have HR := Lib.hid hrow
  obtain ⟨hx0, hv0⟩ : (∀ e ∈ e0, e.2.size ≤ maxLen) ∧ ∀ e ∈ e0, (Lit.int .i64 e.1).wf = true := ⟨fun e he => (hval e he).2, fun e he => (hval e he).1⟩
  have HV := Lib.hid hv0
  have HL := Lib.hid hlen
  unfold maxLen at hnm
  clear hrow hval hS hlen hx0 hv0
  go_enter Try.func10, Try.ntmps10
  go_wp2_with fail
  refine (CZ.out _ HR.out).mono ?_
  rintro e w1 ⟨⟨r, rfl, hr⟩, hb⟩
  have HB1 := Lib.hid hb
  have HR1 := Lib.hid (HR.out.below hb)
  have HRr := Lib.hid hr
  clear hb CZ HR hr
  by_cases hneg : r < 0
  · go_wp2
    go_ret
    exact ⟨rfl, HB1.out⟩
  · obtain ⟨hl, hsz⟩ := HRr.out (by omega)
    have CT := Lib.hid (fun v w h => toAs_any v e0 w h hl)
    have cs := fun v w h => specPlainWords_any v e0 w h (by omega) (fun e he => by have := hsz e he; omega)
    have ci := fun v w h => impl5.plain v e0 w h (by omega) (fun e he => ⟨HV.out e he, hsz e he⟩)
    have hpl := plainL_len e0
    obtain ⟨b, hb0⟩ : ∃ g, g = okL e0 := ⟨_, rfl⟩
    obtain ⟨xs, hxs⟩ : ∃ f, f = plainL e0 := ⟨_, rfl⟩
    rw [← hb0, ← hxs] at cs ci
    rw [← hxs] at hpl
    unfold OutS at cs
    unfold OutOS at ci
    have CS := Lib.hid cs
    have CI := Lib.hid ci
    have CE := Lib.hid (fun v u w h h' => eqAs_same v u e0 w h h' (by omega))
    have CQ := Lib.hid (fun v u w h h' => eq_same v u xs w h h' (by omega))
    have MA := Lib.hid (fun base S v f w h hS hb => markA_any base S v e0.length f w h hS hb (by omega))
    have MS := Lib.hid (fun base v f w h hb => mark_any base v xs.length f w h hb (by omega))
    have HH := Lib.hid (fun base v w h => held_any base v xs.length w h (by omega))
    clear cs ci hb0 hxs hsz HRr HV
    have hs1 := HB1.out.size
    go_wp2_with fail
    refine (CT.out _ _ HR1.out).mono ?_
    rintro e w2 ⟨⟨x, rfl, hx⟩, hb⟩
    have hs2 := hb.size
    have HC2 : Hid (Below w1.heap.size w1 w2) := hb
    have HX2 := Lib.hid hx.atoms
    clear hx
    clear hb  
    go_wp2_with fail
    refine (CS.out _ _ HX2.out).mono ?_
    rintro e w3 ⟨⟨u, rfl, hu⟩, hb⟩
    have hs3 := hb.size
    have H13 : Hid (Below w1.heap.size w1 w3) := HC2.out.trans (hb.mono (by omega))
    have HC3 : Hid (Below w3.heap.size w3 w3) := Below.refl _ _
    have HU3 := Lib.hid hu
    clear hu
    clear hb HC2  HX2
    go_wp2_with fail
    refine (CT.out _ _ (HR1.out.below (H13.out.trans (HC3.out.mono (by omega))))).mono ?_
    rintro e w4 ⟨⟨x0, rfl, hx⟩, hb⟩
    have hs4 := hb.size
    have HC4 : Hid (Below w3.heap.size w3 w4) := HC3.out.trans (hb.mono (by omega))
    have HX4 := Lib.hid hx
    have HXL : Hid (0 < e0.length → ∀ g, x0.ownBlock = some g → g < w4.heap.size) := fun h0 => hx.lt h0
    clear hx
    clear hb HC3  
    go_wp2_with fail
    refine (CI.out _ _ HX4.out.atoms).mono ?_
    rintro e w5 ⟨⟨g, rfl, hg⟩, hb⟩
    have hs5 := hb.size
    have HC5 : Hid (Below w3.heap.size w3 w5) := HC4.out.trans (hb.mono (by omega))
    have HX5 := Lib.hid (HX4.out.below hb)
    have HG5 := Lib.hid hg
    clear hg
    clear hb HC4 HX4 
    go_wp2_with fail
    refine (CQ.out _ _ _ HG5.out.strs (HU3.out.below HC5.out)).mono ?_
    rintro e w6 ⟨rfl, hb⟩
    have hs6 := hb.size
    have HC6 : Hid (Below w3.heap.size w3 w6) := HC5.out.trans (hb.mono (by omega))
    have HX6 := Lib.hid (HX5.out.below hb)
    have HG6 := Lib.hid (HG5.out.below hb)
    clear hb HC5 HX5 HG5 
    go_wp2_with fail
    refine (CT.out _ _ (HR1.out.below (H13.out.trans (HC6.out.mono (by omega))))).mono ?_
    rintro e w7 ⟨⟨z, rfl, hz⟩, hb⟩
    have hs7 := hb.size
    have HC7 : Hid (Below w3.heap.size w3 w7) := HC6.out.trans (hb.mono (by omega))
    have HX7 := Lib.hid (HX6.out.below hb)
    have HG7 := Lib.hid (HG6.out.below hb)
    have HZ7 := Lib.hid hz.atoms
    clear hz
    clear hb HC6 HX6 HG6 
    go_wp2_with fail
    refine (CE.out _ _ _ HX7.out.atoms HZ7.out).mono ?_
    rintro e w8 ⟨rfl, hb⟩
    have hs8 := hb.size
    have HC8 : Hid (Below w3.heap.size w3 w8) := HC7.out.trans (hb.mono (by omega))
    have HX8 := Lib.hid (HX7.out.below hb)
    have HG8 := Lib.hid (HG7.out.below hb)
    clear hb HC7 HX7 HG7 HZ7
    go_wp2_with fail
    refine (MA.out _ w4.heap.size _ _ _ HX8.out HXL.out (by omega)).mono ?_
    rintro e w9 ⟨rfl, _, ho, hb⟩
    have hs9 := hb.size
    have HC9 : Hid (Below w3.heap.size w3 w9) := HC8.out.trans (hb.mono (by omega))
    have HG9 := Lib.hid (HG8.out.over ho (Nat.le_refl _))
    clear ho
    clear hb HC8  HX8 HG8
    go_wp2_with fail
    refine (CQ.out _ _ _ HG9.out.strs (HU3.out.below HC9.out)).mono ?_
    rintro e w10 ⟨rfl, hb⟩
    have hs10 := hb.size
    have HC10 : Hid (Below w3.heap.size w3 w10) := HC9.out.trans (hb.mono (by omega))
    have HG10 := Lib.hid (HG9.out.below hb)
    clear hb HC9 HG9 
    go_wp2_with fail
    refine (MS.out _ _ _ _ HG10.out (by omega)).mono ?_
    rintro e w11 ⟨rfl, ho, hb⟩
    have hs11 := hb.size
    have HC11 : Hid (Below w3.heap.size w3 w11) := HC10.out.trans (hb.mono (by omega))
    have HG11 := Lib.hid ho
    clear ho
    clear hb HC10  HG10
    go_wp2_with fail
    refine (HH.out _ _ _ HG11.out).mono ?_
    rintro e w12 ⟨rfl, hb⟩
    have hs12 := hb.size
    have HC12 : Hid (Below w3.heap.size w3 w12) := HC11.out.trans (hb.mono (by omega))
    have HG12 := Lib.hid (HG11.out.below hb)
    clear hb HC11 HG11 
    go_wp2_with fail
    refine (CT.out _ _ (HR1.out.below (H13.out.trans (HC12.out.mono (by omega))))).mono ?_
    rintro e w13 ⟨⟨y, rfl, hy⟩, hb⟩
    have hs13 := hb.size
    have HC13 : Hid (Below w3.heap.size w3 w13) := HC12.out.trans (hb.mono (by omega))
    have HG13 := Lib.hid (HG12.out.below hb)
    have HY13 := Lib.hid hy.atoms
    clear hy
    clear hb HC12 HG12 
    go_wp2_with fail
    refine (CI.out _ _ HY13.out).mono ?_
    rintro e w14 ⟨⟨h, rfl, hh⟩, hb⟩
    have hs14 := hb.size
    have HC14 : Hid (Below w3.heap.size w3 w14) := HC13.out.trans (hb.mono (by omega))
    have HG14 := Lib.hid (HG13.out.below hb)
    have HH14 := Lib.hid hh
    clear hh
    clear hb HC13 HG13 HY13
    go_wp2_with fail
    refine (CQ.out _ _ _ HH14.out.strs (HU3.out.below HC14.out)).mono ?_
    rintro e w15 ⟨rfl, hb⟩
    have hs15 := hb.size
    have HC15 : Hid (Below w3.heap.size w3 w15) := HC14.out.trans (hb.mono (by omega))
    have HG15 := Lib.hid (HG14.out.below hb)
    clear hb HC14 HG14 HH14
    go_wp2_with fail
    refine (HH.out _ _ _ HG15.out).mono ?_
    rintro e w16 ⟨rfl, hb⟩
    have hs16 := hb.size
    have HC16 : Hid (Below w3.heap.size w3 w16) := HC15.out.trans (hb.mono (by omega))
    clear hb HC15  HG15
    have HF := Lib.hid (HB1.out.trans ((H13.out.trans (HC16.out.mono (by omega))).mono hs1))
    go_wp2
    go_ret
    exact ⟨rfl, HF.out⟩

/-! ### THE ROW's STEP -/
set_option maxRecDepth 100000 in
theorem contract (H : Type) (enc : TypeId × Value → H) (W : World) (base : Nat) (args : Array Value) (ds gs : List (DataW H)) (before : List MemPlace)
    (hval : ∀ (j : Nat) t v, Try.f10.params[j]? = some t → args[j]? = some v → Value.okWide Try.prog W .any base t v)
    (hW : DataW.Whole enc Try.prog Try.f10.params.toList Rows.fnExactPlainWordsSpec.vars false W args.toList ds gs before) (hL : laidMetH Try.prog Rows.fnExactPlainWordsRow.laid W) (hS : W.ShapedOpen Try.prog) :
    Calls Try.prog 10 args W fun e W' => ∃ v, e = .returned v ∧ Rows.fnExactPlainWordsSpec.post enc Try.prog Try.f10 false true false false W args v W' := by
  have hW' := hW
  obtain ⟨p, q, hA0, hV, rfl, hfz, hnd⟩ := hW
  have hA : DataW.TrodAll enc Try.prog W 0 (fun _ => true) true Try.f10.params.toList args.toList ds p := hA0
  rw [Try.params10] at hA hval
  obtain ⟨v0, vs0, d0, ds0, p0, q0, hargs, rfl, rfl, h0, r0⟩ := trodAll_cons hA
  obtain ⟨rfl, rfl, rfl⟩ := trodAll_nil r0
  obtain rfl : args = #[v0] := by cases args; simp_all
  obtain ⟨rfl, rfl⟩ := trodVars_none hV
  have k0 := h0
  have lt0 : ∀ x ∈ p0, x.block < W.heap.size := by obtain ⟨m, hm⟩ := k0; exact DataW.trod_lt m _ _ _ hm
  obtain ⟨a0, n0, c0, rfl⟩ := okWide_slice Try.underlying48 (hval 0 48 v0 rfl rfl)
  obtain ⟨e0, w0⟩ : ∃ es, AtomsIn W a0 n0 c0 es := by
    obtain ⟨fuel, hf⟩ := h0
    obtain ⟨a, n, c, es, hcs, hin⟩ := open_atoms Try.underlying48 Try.underlying42 (by kernel_rfl) (by kernel_rfl) (by kernel_rfl) ⟨rfl, rfl⟩ ⟨rfl, rfl⟩ Try.underlying3 Try.underlying9 hf
    simp [Value.cells] at hcs
    obtain ⟨rfl, rfl, rfl⟩ := hcs
    exact ⟨es, hin⟩
  clear hA0 hval
  refine (walk a0 n0 c0 e0 W hS  w0).mono fun e W' ⟨he, bel⟩ => ?_
  subst he
  exact ⟨_, rfl, _, _, _, [], _, [], hW', trodAll_mk1 (shut_bool Try.underlying4 _), (trodAll_cons_mk (Below.trod laidOut (by kernel_rfl) (of_decide_eq_true (by kernel_rfl)) k0 bel lt0) trodAll_mk0), rfl, bel.frame _, fun h => by cases h⟩

theorem reads (os : Os) {H : Type} (enc : TypeId × Value → H) : ∃ places, DataW.whole enc Try.prog ((World.holding Try.prog os ⟨#[], #[], []⟩).forCall (fun _ _ => 0) ⟨#[], #[.slice none 0 0], []⟩).memory Try.f10.params.toList Rows.fnExactPlainWordsSpec.vars false (#[.slice none 0 0] : Array Value).toList 8 = some ([.nil], [], places) :=
  ⟨[], by kernel_rfl⟩

set_option maxRecDepth 100000 in
theorem lifted (os : Os) (started : os.Started) (H : Type) (enc : TypeId × Value → H) (F : Stop.Interp) :
    ReturnsInHanded {} Try.checked os 10 .any ((OpenSpec.ofChange Rows.fnExactPlainWordsSpec).preRow enc Try.prog Try.f10 Rows.fnExactPlainWordsRow.domain false Rows.fnExactPlainWordsRow.laid) (((OpenSpec.ofChange Rows.fnExactPlainWordsSpec).at F).post enc Try.prog Try.f10 false true false false) := by
  obtain ⟨places, hx⟩ := reads os enc
  refine returnsInHanded_of_row (C := Try.checked) (s := OpenSpec.ofChange Rows.fnExactPlainWordsSpec) own started (by kernel_rfl) Try.func10
    (witness_row_atRef (enc := enc) (C := Try.checked) false (World.holding Try.prog os ⟨#[], #[], []⟩) #[.slice none 0 0] rfl (by kernel_rfl) (by kernel_rfl) (by kernel_rfl)
      (OpenSpec.preRow_of_cond 8 hx (by kernel_rfl) (fun k hk => by cases hk) (by kernel_rfl) ⟨[], rfl, List.nodup_nil, fun b off h => by cases h⟩)) ?_
  intro W base args ds gs before hval hW _ _ _ hL hS _
  exact contract H enc W base args ds gs before hval hW hL hS

theorem said : Rows.FnExactPlainWordsSaid :=
  OpenClaim.holds_of_cond 10 Try.f10 rfl rfl rfl rfl rfl rfl rfl ⟨rfl, rfl, rfl, rfl, rfl⟩ rfl rfl rfl rfl rfl (by kernel_rfl) Try.func10 (by kernel_rfl)
    (of_decide_eq_true (by kernel_rfl)) (by unfold Func.isWrapper; first | (rw [if_pos (by decide +kernel)]; kernel_rfl) | (rw [if_neg (by decide +kernel)]; exact ⟨rfl, rfl⟩))
    (fun os started H enc _ F => by rw [OpenClaim.pre_eq_preRow]; exact lifted os started H enc F)

theorem proved : Rows.FnExactPlainWordsSaid := said
#print axioms proved
end Go.Proofs.Ytiajaeaffmmckaa.fnExactPlainWords
