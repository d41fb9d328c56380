/-
  laws.FnExactLastUpStrokes returns true whatever the events: impl.LastUpStrokes answers as the specification, leaves its argument, and its answer owns its memory. Conditions: none but the row's own.
-/
import Derived.Test.YtindcafdphfppaaRows
import Derived.WalkKit
import Derived.ProofKit
import Derived.OpenShut
import Derived.ShutString
import Derived.ChangeOld
import Derived.Below
import Derived.SliceStrings
import Derived.JoinedCond
import Derived.Deep.DeepHandedRow
import Derived.Deep.DeepWitnessRowRef
import Derived.Lib.Hide
import Derived.Test.YtindcafdphfppaaSpecEvs
import Derived.Test.YtindcafdphfppaaImpl3
namespace Go.Proofs.Ytindcafdphfppaa.fnExactLastUpStrokes
open Go.ChangeShapes Go.WideShapes Go.ChangeAt Go.RowKit
open Go.ChangeMaps (open_string shut_string)
set_option linter.unusedVariables false

theorem own : ownKnob Try.prog.godebug = none := by kernel_rfl
theorem laidOut : laidOutB Try.prog = true := by kernel_rfl

/-! ### THE WALK: the Go text returns true, and writes nothing that was there. -/
set_option maxRecDepth 100000 in
set_option maxHeartbeats 1000000 in
theorem walk (a0 : Option Addr) (n0 c0 : Nat) (e0 : List Pl.Ev) (w : World) (hS : w.ShapedOpen Try.prog)  (w0 : EvsIn w a0 n0 c0 e0) :
    Calls Try.prog 6 #[.slice a0 n0 c0] w fun e w' => e = .returned (.bool true) ∧ Below w.heap.size w w' := by
  obtain ⟨hml, hlen, hev, _⟩ := w0
  have c := fun w => szE_any a0 n0 c0 w hml
  by_cases hbig : n0 ≤ 1048576
  · rw [if_pos hbig] at c
    have CS := Lib.hid c
    have hen : e0.length ≤ 1048576 := by omega
    have HT := Lib.hid (fun v w h => toE_any v e0 w h hen)
    have HQE := Lib.hid (fun v u w hv hu => eqE_same v u e0 w hv hu (by omega))
    have HSp := Lib.hid (fun v w h => specLastUp_any v e0 w h (by omega))
    have HIm := Lib.hid (fun v w h => impl3.last v e0 w h (by omega))
    have HME := Lib.hid (fun base S v f w h hS => markE_row base S v e0.length f w h hS (by omega))
    have HEV := Lib.hid hev
    obtain ⟨xs, hxs⟩ : ∃ xs, lastL e0 = xs := ⟨_, rfl⟩
    have hxl : xs.length ≤ 200 := by rw [← hxs]; exact lastL_len e0
    obtain ⟨b, hb⟩ : ∃ b, Pl.good e0 = b := ⟨_, rfl⟩
    rw [hxs, hb] at HSp HIm
    have HQ := Lib.hid (fun v u w hv hu => eqI_same v u xs w hv hu (by omega))
    have HM := Lib.hid (fun base v f w h hb => markI_any base v xs.length f w h hb (by omega))
    have HH := Lib.hid (fun base v w h => heldI_any base v xs.length w h (by omega))
    have hneg : ¬ (1048576 - (n0 : Int) < 0) := by omega
    clear c hxs hb hev hS
    go_enter Try.func6, Try.ntmps6
    go_wp2_with fail
    refine (CS.out _).mono ?_
    rintro e w' ⟨rfl, rfl⟩
    go_wp2_with fail
    refine (HT.out _ _ HEV.out).mono ?_
    rintro e w1 ⟨⟨v1, rfl, h1⟩, b1⟩
    have HV1 := Lib.hid h1.evs
    clear h1
    go_wp2_with fail
    refine (HSp.out _ _ HV1.out).mono ?_
    rintro e w2 ⟨⟨u, rfl, hu⟩, b12⟩
    have HU := Lib.hid hu
    have b2 := b1.trans (b12.mono b1.size)
    clear hu HV1 b12
    go_wp2_with fail
    refine (HT.out _ _ (HEV.out.below b2)).mono ?_
    rintro e w3 ⟨⟨x0, rfl, h3⟩, b23⟩
    have HX := Lib.hid h3
    have b3 := b2.trans (b23.mono b2.size)
    clear h3
    go_wp2_with fail
    refine (HIm.out _ _ HX.out.evs).mono ?_
    rintro e w4 ⟨⟨g, rfl, hg⟩, b34⟩
    have HG := Lib.hid hg
    have b24 := b23.trans (b34.mono b23.size)
    clear hg
    go_wp2_with fail
    refine (HQ.out _ _ _ HG.out.ints (HU.out.below b24)).mono ?_
    rintro e w5 ⟨rfl, b45⟩
    have b25 := b24.trans (b45.mono b24.size)
    have b35 := b34.trans (b45.mono b34.size)
    go_wp2_with fail
    refine (HT.out _ _ (HEV.out.below (b2.trans (b25.mono b2.size)))).mono ?_
    rintro e w6 ⟨⟨y, rfl, h6⟩, b56⟩
    have HY := Lib.hid h6.evs
    have b26 := b25.trans (b56.mono b25.size)
    have b36 := b35.trans (b56.mono b35.size)
    clear h6
    go_wp2_with fail
    refine (HQE.out _ _ _ ((HX.out.below b36).evs) HY.out).mono ?_
    rintro e w7 ⟨rfl, b67⟩
    have b27 := b26.trans (b67.mono b26.size)
    have b37 := b36.trans (b67.mono b36.size)
    have HG7 := Lib.hid (((HG.out.below b45).below b56).below b67)
    clear HY
    go_wp2_with fail
    refine (HME.out _ w3.heap.size _ _ _ (HX.out.below b37) (fun h0 => HX.out.lt h0)).mono ?_
    rintro e w8 ⟨rfl, hab, b78⟩
    have HG8 := Lib.hid (HG7.out.above hab (Nat.le_refl _))
    have b28 := b27.trans b78
    have hk8 : ¬ ((1 : Int) + 3 * (e0.length : Int) < 0) := by omega
    clear hab HG7
    go_wp2_with fail
    refine (HQ.out _ _ _ HG8.out.ints (HU.out.below b28)).mono ?_
    rintro e w9 ⟨rfl, b89⟩
    have b29 := b28.trans (b89.mono b28.size)
    have HG9 := Lib.hid (HG8.out.below b89)
    have hs39 : w3.heap.size ≤ w9.heap.size := by have := b37.size; have := b78.size; have := b89.size; omega
    clear HG8
    go_wp2_with fail
    refine (HM.out _ _ _ _ HG9.out hs39).mono ?_
    rintro e w10 ⟨rfl, hO, b910⟩
    have HO := Lib.hid hO
    have b210 := b29.trans (b910.mono b23.size)
    clear hO HG9
    go_wp2_with fail
    refine (HH.out _ _ _ HO.out).mono ?_
    rintro e w11 ⟨rfl, b1011⟩
    have b211 := b210.trans (b1011.mono b210.size)
    have hq : ¬ ((1 : Int) + (xs.length : Int) < 0) := by omega
    go_wp2_with fail
    refine (HT.out _ _ (HEV.out.below (b2.trans (b211.mono b2.size)))).mono ?_
    rintro e w12 ⟨⟨z, rfl, h12⟩, b1112⟩
    have HZ := Lib.hid h12.evs
    have b212 := b211.trans (b1112.mono b211.size)
    clear h12
    go_wp2_with fail
    refine (HIm.out _ _ HZ.out).mono ?_
    rintro e w13 ⟨⟨h, rfl, hh⟩, b1213⟩
    have HHv := Lib.hid hh.ints
    have b213 := b212.trans (b1213.mono b212.size)
    clear hh HZ
    go_wp2_with fail
    refine (HQ.out _ _ _ HHv.out (HU.out.below b213)).mono ?_
    rintro e w14 ⟨rfl, b1314⟩
    have b214 := b213.trans (b1314.mono b213.size)
    have HO14 := Lib.hid ((((HO.out.below b1011).below b1112).below b1213).below b1314)
    go_wp2_with fail
    refine (HH.out _ _ _ HO14.out).mono ?_
    rintro e w15 ⟨rfl, b1415⟩
    have b215 := b214.trans (b1415.mono b214.size)
    have hfin := b2.trans (b215.mono b2.size)
    go_wp2
    go_ret
    exact ⟨rfl, hfin⟩
  · rw [if_neg hbig] at c
    have CS := Lib.hid c
    clear c
    go_enter Try.func6, Try.ntmps6
    go_wp2_with fail
    refine (CS.out _).mono ?_
    rintro e w' ⟨rfl, rfl⟩
    go_wp2
    go_ret
    exact ⟨rfl, Below.refl _ _⟩

/-! ### THE ROW's STEP -/
theorem contract (H : Type) (enc : TypeId × Value → H) (W : World) (base : Nat) (args : Array Value) (ds gs : List (DataW H)) (before : List MemPlace)
    (hval : ∀ (j : Nat) t v, Try.f6.params[j]? = some t → args[j]? = some v → Value.okWide Try.prog W .any base t v)
    (hW : DataW.Whole enc Try.prog Try.f6.params.toList Rows.fnExactLastUpStrokesSpec.vars false W args.toList ds gs before) (hL : laidMetH Try.prog Rows.fnExactLastUpStrokesRow.laid W) (hS : W.ShapedOpen Try.prog) :
    Calls Try.prog 6 args W fun e W' => ∃ v, e = .returned v ∧ Rows.fnExactLastUpStrokesSpec.post enc Try.prog Try.f6 false true false false W args v W' := by
  have hW' := hW
  obtain ⟨p, q, hA0, hV, rfl, hfz, hnd⟩ := hW
  have hA : DataW.TrodAll enc Try.prog W 0 (fun _ => true) true Try.f6.params.toList args.toList ds p := hA0
  rw [Try.params6] at hA hval
  obtain ⟨v0, vs0, d0, ds0, p0, q0, hargs, rfl, rfl, h0, r0⟩ := trodAll_cons hA
  obtain ⟨rfl, rfl, rfl⟩ := trodAll_nil r0
  obtain rfl : args = #[v0] := by cases args; simp_all
  obtain ⟨rfl, rfl⟩ := trodVars_none hV
  have k0 := h0
  have lt0 : ∀ x ∈ p0, x.block < W.heap.size := by obtain ⟨m, hm⟩ := k0; exact DataW.trod_lt m _ _ _ hm
  obtain ⟨a0, n0, c0, rfl⟩ := okWide_slice Try.underlying38 (hval 0 38 v0 rfl rfl)
  obtain ⟨e0, w0⟩ : ∃ es, EvsIn W a0 n0 c0 es := by
    obtain ⟨fuel, hf⟩ := h0
    obtain ⟨a, n, c, es, hcs, hin⟩ := open_evs Try.underlying38 Try.underlying74 (by kernel_rfl) (by kernel_rfl) (by kernel_rfl) ⟨rfl, rfl⟩ ⟨rfl, rfl⟩ ⟨rfl, rfl⟩ Try.underlying3 Try.underlying4 hf
    simp [Value.cells] at hcs
    obtain ⟨rfl, rfl, rfl⟩ := hcs
    exact ⟨es, hin⟩
  clear hA0 hval
  refine (walk a0 n0 c0 e0 W hS  w0).mono fun e W' ⟨he, bel⟩ => ?_
  subst he
  exact ⟨_, rfl, _, _, _, [], _, [], hW', trodAll_mk1 (shut_bool Try.underlying4 _), (trodAll_cons_mk (Below.trod laidOut (by kernel_rfl) (of_decide_eq_true (by kernel_rfl)) k0 bel lt0) trodAll_mk0), rfl, bel.frame _, fun h => by cases h⟩

theorem reads (os : Os) {H : Type} (enc : TypeId × Value → H) : ∃ places, DataW.whole enc Try.prog ((World.holding Try.prog os ⟨#[], #[], []⟩).forCall (fun _ _ => 0) ⟨#[], #[.slice none 0 0], []⟩).memory Try.f6.params.toList Rows.fnExactLastUpStrokesSpec.vars false (#[.slice none 0 0] : Array Value).toList 8 = some ([.nil], [], places) :=
  ⟨[], by kernel_rfl⟩

set_option maxRecDepth 100000 in
theorem lifted (os : Os) (started : os.Started) (H : Type) (enc : TypeId × Value → H) (F : Stop.Interp) :
    ReturnsInHanded {} Try.checked os 6 .any ((OpenSpec.ofChange Rows.fnExactLastUpStrokesSpec).preRow enc Try.prog Try.f6 Rows.fnExactLastUpStrokesRow.domain false Rows.fnExactLastUpStrokesRow.laid) (((OpenSpec.ofChange Rows.fnExactLastUpStrokesSpec).at F).post enc Try.prog Try.f6 false true false false) := by
  obtain ⟨places, hx⟩ := reads os enc
  refine returnsInHanded_of_row (C := Try.checked) (s := OpenSpec.ofChange Rows.fnExactLastUpStrokesSpec) own started (by kernel_rfl) Try.func6
    (witness_row_atRef (enc := enc) (C := Try.checked) false (World.holding Try.prog os ⟨#[], #[], []⟩) #[.slice none 0 0] rfl (by kernel_rfl) (by kernel_rfl) (by kernel_rfl)
      (OpenSpec.preRow_of_cond 8 hx (by kernel_rfl) (fun k hk => by cases hk) (by kernel_rfl) ⟨[], rfl, List.nodup_nil, fun b off h => by cases h⟩)) ?_
  intro W base args ds gs before hval hW _ _ _ hL hS _
  exact contract H enc W base args ds gs before hval hW hL hS

theorem said : Rows.FnExactLastUpStrokesSaid :=
  OpenClaim.holds_of_cond 6 Try.f6 rfl rfl rfl rfl rfl rfl rfl ⟨rfl, rfl, rfl, rfl, rfl⟩ rfl rfl rfl rfl rfl (by kernel_rfl) Try.func6 (by kernel_rfl)
    (of_decide_eq_true (by kernel_rfl)) (by unfold Func.isWrapper; first | (rw [if_pos (by decide +kernel)]; kernel_rfl) | (rw [if_neg (by decide +kernel)]; exact ⟨rfl, rfl⟩))
    (fun os started H enc _ F => by rw [OpenClaim.pre_eq_preRow]; exact lifted os started H enc F)

theorem proved : Rows.FnExactLastUpStrokesSaid := said
#print axioms proved
end Go.Proofs.Ytindcafdphfppaa.fnExactLastUpStrokes
