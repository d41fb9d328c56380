/-
  laws.FnExactDefaultFolds returns true: impl.DefaultFolds answers as the specification, and its answer owns its memory. Conditions: none but the row's own.
-/
import Derived.Test.YtnjbaomekbiflaaRows
import Derived.WalkKit
import Derived.ProofKit
import Derived.OpenShut
import Derived.ShutString
import Derived.ChangeOld
import Derived.Below
import Derived.SliceStrings
import Derived.JoinedCond
import Derived.Deep.DeepHandedRow
import Derived.Deep.DeepWitnessRowRef
import Derived.Lib.Hide
import Derived.Test.YtnjbaomekbiflaaUnf
namespace Go.Proofs.Ytnjbaomekbiflaa.fnExactDefaultFolds
open Go.ChangeShapes Go.WideShapes Go.ChangeAt Go.RowKit
open Go.ChangeMaps (open_string shut_string)
set_option linter.unusedVariables false
set_option maxRecDepth 100000

theorem own : ownKnob Try.prog.godebug = none := by kernel_rfl
theorem laidOut : laidOutB Try.prog = true := by kernel_rfl

/-! ### THE WALK: the Go text returns true, and writes nothing that was there. -/
set_option maxRecDepth 100000 in
set_option maxHeartbeats 8000000 in
theorem walk  (w : World) (hS : w.ShapedOpen Try.prog)   :
    Calls Try.prog 3 #[] w fun e w' => e = .returned (.bool true) ∧ Below w.heap.size w w' := by
  have HSp := Lib.hid (fun w => specDefaultFolds_any w)
  have HIm := Lib.hid (fun w => DefaultFolds_any w)
  have HQ := Lib.hid (fun v u w hv hu => eqFs_same v u dFs w hv hu (by decide))
  have HM := Lib.hid (fun base v f w h hb => markF_any base w.heap.size v dFs.length f w h (fun h0 => h.lt h0) hb (by decide))
  have HH := Lib.hid (fun base v w h => heldF_any base v dFs.length w h (by decide))
  clear hS
  go_enter Try.func3, Try.ntmps3
  go_wp2_with fail
  refine (HSp.out _).mono ?_
  rintro e w1 ⟨⟨u, rfl, hu⟩, hb1'⟩
  have HU := Lib.hid hu.atoms
  clear hu
  go_wp2_with fail
  refine (HIm.out _).mono ?_
  rintro e w2 ⟨⟨g, rfl, hg⟩, hb2⟩
  have HG := Lib.hid hg
  clear hg
  go_wp2_with fail
  refine (HQ.out _ _ _ HG.out.atoms (HU.out.below hb2)).mono ?_
  rintro e w3 ⟨rfl, hb3⟩
  have hb13 : Below w1.heap.size w1 w3 := hb2.trans (hb3.mono hb2.size)
  have HO := Lib.hid (HG.out.below hb3)
  go_wp2_with fail
  refine (HM.out _ _ _ _ HO.out hb13.size).mono ?_
  rintro e w4 ⟨rfl, hO4, _, hb4⟩
  have HO4 := Lib.hid hO4
  have hb14 : Below w1.heap.size w1 w4 := hb13.trans hb4
  clear hO4
  go_wp2_with fail
  refine (HH.out _ _ _ HO4.out).mono ?_
  rintro e w5 ⟨rfl, hb5⟩
  have hb15 : Below w1.heap.size w1 w5 := hb14.trans (hb5.mono hb14.size)
  go_wp2_with fail
  refine (HIm.out _).mono ?_
  rintro e w6 ⟨⟨h, rfl, hh⟩, hb6⟩
  have HHv := Lib.hid hh
  have hb16 : Below w1.heap.size w1 w6 := hb15.trans (hb6.mono hb15.size)
  clear hh
  go_wp2_with fail
  refine (HQ.out _ _ _ HHv.out.atoms (HU.out.below hb16)).mono ?_
  rintro e w7 ⟨rfl, hb7⟩
  have hb17 : Below w1.heap.size w1 w7 := hb16.trans (hb7.mono hb16.size)
  have HO7 := Lib.hid (((HO4.out.below hb5).below hb6).below hb7)
  go_wp2_with fail
  refine (HH.out _ _ _ HO7.out).mono ?_
  rintro e w8 ⟨rfl, hb8⟩
  have hb08 : Below w.heap.size w w8 := hb1'.trans ((hb17.trans (hb8.mono hb17.size)).mono hb1'.size)
  go_wp2
  go_ret
  exact ⟨rfl, hb08⟩

/-! ### THE ROW's STEP -/
set_option maxRecDepth 100000 in
theorem contract (H : Type) (enc : TypeId × Value → H) (W : World) (base : Nat) (args : Array Value) (ds gs : List (DataW H)) (before : List MemPlace)
    (hval : ∀ (j : Nat) t v, Try.f3.params[j]? = some t → args[j]? = some v → Value.okWide Try.prog W .any base t v)
    (hW : DataW.Whole enc Try.prog Try.f3.params.toList Rows.fnExactDefaultFoldsSpec.vars false W args.toList ds gs before) (hL : laidMetH Try.prog Rows.fnExactDefaultFoldsRow.laid W) (hS : W.ShapedOpen Try.prog) :
    Calls Try.prog 3 args W fun e W' => ∃ v, e = .returned v ∧ Rows.fnExactDefaultFoldsSpec.post enc Try.prog Try.f3 false true false false W args v W' := by
  have hW' := hW
  obtain ⟨p, q, hA0, hV, rfl, hfz, hnd⟩ := hW
  have hA : DataW.TrodAll enc Try.prog W 0 (fun _ => true) true Try.f3.params.toList args.toList ds p := hA0
  rw [Try.params3] at hA hval
  obtain ⟨hargs, rfl, rfl⟩ := trodAll_nil hA
  obtain rfl : args = #[] := by cases args; simp_all
  obtain ⟨rfl, rfl⟩ := trodVars_none hV
  clear hA0 hval
  refine (walk  W hS  ).mono fun e W' ⟨he, bel⟩ => ?_
  subst he
  exact ⟨_, rfl, _, _, _, [], _, [], hW', trodAll_mk1 (shut_bool Try.underlying4 _), trodAll_mk0, rfl, bel.frame _, fun h => by cases h⟩

theorem reads (os : Os) {H : Type} (enc : TypeId × Value → H) : ∃ places, DataW.whole enc Try.prog ((World.holding Try.prog os ⟨#[], #[], []⟩).forCall (fun _ _ => 0) ⟨#[], #[], []⟩).memory Try.f3.params.toList Rows.fnExactDefaultFoldsSpec.vars false (#[] : Array Value).toList 8 = some ([], [], places) :=
  ⟨[], by kernel_rfl⟩

set_option maxRecDepth 100000 in
theorem lifted (os : Os) (started : os.Started) (H : Type) (enc : TypeId × Value → H) (F : Stop.Interp) :
    ReturnsInHanded {} Try.checked os 3 .any ((OpenSpec.ofChange Rows.fnExactDefaultFoldsSpec).preRow enc Try.prog Try.f3 Rows.fnExactDefaultFoldsRow.domain false Rows.fnExactDefaultFoldsRow.laid) (((OpenSpec.ofChange Rows.fnExactDefaultFoldsSpec).at F).post enc Try.prog Try.f3 false true false false) := by
  obtain ⟨places, hx⟩ := reads os enc
  refine returnsInHanded_of_row (C := Try.checked) (s := OpenSpec.ofChange Rows.fnExactDefaultFoldsSpec) own started (by kernel_rfl) Try.func3
    (witness_row_atRef (enc := enc) (C := Try.checked) false (World.holding Try.prog os ⟨#[], #[], []⟩) #[] rfl (by kernel_rfl) (by kernel_rfl) (by kernel_rfl)
      (OpenSpec.preRow_of_cond 8 hx (by kernel_rfl) (fun k hk => by cases hk) (by kernel_rfl) ⟨[], rfl, List.nodup_nil, fun b off h => by cases h⟩)) ?_
  intro W base args ds gs before hval hW _ _ _ hL hS _
  exact contract H enc W base args ds gs before hval hW hL hS

theorem said : Rows.FnExactDefaultFoldsSaid :=
  OpenClaim.holds_of_cond 3 Try.f3 rfl rfl rfl rfl rfl rfl rfl ⟨rfl, rfl, rfl, rfl, rfl⟩ rfl rfl rfl rfl rfl (by kernel_rfl) Try.func3 (by kernel_rfl)
    (of_decide_eq_true (by kernel_rfl)) (by unfold Func.isWrapper; first | (rw [if_pos (by decide +kernel)]; kernel_rfl) | (rw [if_neg (by decide +kernel)]; exact ⟨rfl, rfl⟩))
    (fun os started H enc _ F => by rw [OpenClaim.pre_eq_preRow]; exact lifted os started H enc F)

theorem proved : Rows.FnExactDefaultFoldsSaid := said
#print axioms proved
end Go.Proofs.Ytnjbaomekbiflaa.fnExactDefaultFolds
