/-
  laws.FnExactParseOutline returns true whatever the string: impl.ParseOutline answers as the specification, and its answer owns its memory. Conditions: none but the row's own.
-/
import Derived.Test.YtkhklidpighmpaaRows
import Derived.WalkKit
import Derived.ProofKit
import Derived.OpenShut
import Derived.ShutString
import Derived.ChangeOld
import Derived.Below
import Derived.SliceStrings
import Derived.JoinedCond
import Derived.Deep.DeepHandedRow
import Derived.Deep.DeepWitnessRowRef
import Derived.Lib.Hide
import Derived.Test.YtkhklidpighmpaaImpl4C
import Derived.Test.YtkhklidpighmpaaImpl4
namespace Go.Proofs.Ytkhklidpighmpaa.fnExactParseOutline
open Go.ChangeShapes Go.WideShapes Go.ChangeAt Go.RowKit
open Go.ChangeMaps (open_string shut_string)
set_option linter.unusedVariables false
set_option maxRecDepth 100000

theorem own : ownKnob Try.prog.godebug = none := by kernel_rfl
theorem laidOut : laidOutB Try.prog = true := by kernel_rfl

/-! ### THE WALK: the Go text returns true, and writes nothing that was there. -/
set_option maxRecDepth 100000 in
set_option maxHeartbeats 8000000 in
theorem walk (a0 : ByteArray) (w : World) (hS : w.ShapedOpen Try.prog)  (w0 : a0.size ≤ maxLen) :
    Calls Try.prog 7 #[.string a0] w fun e w' => e = .returned (.bool true) ∧ Below w.heap.size w w' := by
  by_cases hbig : 1048576 < a0.size
  · unfold maxLen at w0
    clear hS
    go_enter Try.func7, Try.ntmps7
    go_wp2
    go_ret
    exact ⟨rfl, Below.refl _ _⟩
  · have cs := fun w => specParseOutline_any a0 w (by omega)
    have ci := fun w => impl4.parse a0 w (by omega)
    have hpl := parI_len a0
    obtain ⟨xs, hxs⟩ : ∃ xs, xs = parI a0 := ⟨_, rfl⟩
    obtain ⟨b, hb⟩ : ∃ b, b = parB a0 := ⟨_, rfl⟩
    rw [← hxs, ← hb] at cs ci
    rw [← hxs] at hpl
    unfold OutE at cs
    unfold OutO at ci
    have HSp := Lib.hid cs
    have HIm := Lib.hid ci
    have HQ := Lib.hid (fun v u w hv hu => eqI_same v u xs w hv hu (by omega))
    have HM := Lib.hid (fun base v f w h hb => markI_any base v xs.length f w h hb (by omega))
    have HH := Lib.hid (fun base v w h => heldI_any base v xs.length w h (by omega))
    unfold maxLen at w0
    clear cs ci hxs hb hS
    go_enter Try.func7, Try.ntmps7
    go_wp2_with fail
    refine (HSp.out _).mono ?_
    rintro e w1 ⟨⟨u, rfl, hu⟩, hb1'⟩
    have HU := Lib.hid hu
    clear hu
    go_wp2_with fail
    refine (HIm.out _).mono ?_
    rintro e w2 ⟨⟨g, rfl, hg⟩, hb2⟩
    have HG := Lib.hid hg
    clear hg
    go_wp2_with fail
    refine (HQ.out _ _ _ HG.out.ints (HU.out.below hb2)).mono ?_
    rintro e w3 ⟨rfl, hb3⟩
    have hb13 : Below w1.heap.size w1 w3 := hb2.trans (hb3.mono hb2.size)
    have HO := Lib.hid (HG.out.below hb3)
    go_wp2_with fail
    refine (HM.out _ _ _ _ HO.out hb13.size).mono ?_
    rintro e w4 ⟨rfl, hO4, hb4⟩
    have HO4 := Lib.hid hO4
    have hb14 : Below w1.heap.size w1 w4 := hb13.trans hb4
    clear hO4
    go_wp2_with fail
    refine (HH.out _ _ _ HO4.out).mono ?_
    rintro e w5 ⟨rfl, hb5⟩
    have hb15 : Below w1.heap.size w1 w5 := hb14.trans (hb5.mono hb14.size)
    go_wp2_with fail
    refine (HIm.out _).mono ?_
    rintro e w6 ⟨⟨h, rfl, hh⟩, hb6⟩
    have HHv := Lib.hid hh
    have hb16 : Below w1.heap.size w1 w6 := hb15.trans (hb6.mono hb15.size)
    clear hh
    go_wp2_with fail
    refine (HQ.out _ _ _ HHv.out.ints (HU.out.below hb16)).mono ?_
    rintro e w7 ⟨rfl, hb7⟩
    have hb17 : Below w1.heap.size w1 w7 := hb16.trans (hb7.mono hb16.size)
    have HO7 := Lib.hid (((HO4.out.below hb5).below hb6).below hb7)
    go_wp2_with fail
    refine (HH.out _ _ _ HO7.out).mono ?_
    rintro e w8 ⟨rfl, hb8⟩
    have hb08 : Below w.heap.size w w8 := hb1'.trans ((hb17.trans (hb8.mono hb17.size)).mono hb1'.size)
    go_wp2
    go_ret
    exact ⟨rfl, hb08⟩

/-! ### THE ROW's STEP -/
set_option maxRecDepth 100000 in
theorem contract (H : Type) (enc : TypeId × Value → H) (W : World) (base : Nat) (args : Array Value) (ds gs : List (DataW H)) (before : List MemPlace)
    (hval : ∀ (j : Nat) t v, Try.f7.params[j]? = some t → args[j]? = some v → Value.okWide Try.prog W .any base t v)
    (hW : DataW.Whole enc Try.prog Try.f7.params.toList Rows.fnExactParseOutlineSpec.vars false W args.toList ds gs before) (hL : laidMetH Try.prog Rows.fnExactParseOutlineRow.laid W) (hS : W.ShapedOpen Try.prog) :
    Calls Try.prog 7 args W fun e W' => ∃ v, e = .returned v ∧ Rows.fnExactParseOutlineSpec.post enc Try.prog Try.f7 false true false false W args v W' := by
  have hW' := hW
  obtain ⟨p, q, hA0, hV, rfl, hfz, hnd⟩ := hW
  have hA : DataW.TrodAll enc Try.prog W 0 (fun _ => true) true Try.f7.params.toList args.toList ds p := hA0
  rw [Try.params7] at hA hval
  obtain ⟨v0, vs0, d0, ds0, p0, q0, hargs, rfl, rfl, h0, r0⟩ := trodAll_cons hA
  obtain ⟨rfl, rfl, rfl⟩ := trodAll_nil r0
  obtain rfl : args = #[v0] := by cases args; simp_all
  obtain ⟨rfl, rfl⟩ := trodVars_none hV
  have k0 := h0
  have lt0 : ∀ x ∈ p0, x.block < W.heap.size := by obtain ⟨m, hm⟩ := k0; exact DataW.trod_lt m _ _ _ hm
  obtain ⟨a0, rfl, rfl, rfl, w0⟩ := open_string Try.underlying9 (hval 0 9 v0 rfl rfl) h0
  clear hA0 hval
  refine (walk a0 W hS  w0).mono fun e W' ⟨he, bel⟩ => ?_
  subst he
  exact ⟨_, rfl, _, _, _, [], _, [], hW', trodAll_mk1 (shut_bool Try.underlying4 _), (trodAll_cons_mk (Below.trod laidOut (by kernel_rfl) (of_decide_eq_true (by kernel_rfl)) k0 bel lt0) trodAll_mk0), rfl, bel.frame _, fun h => by cases h⟩

theorem reads (os : Os) {H : Type} (enc : TypeId × Value → H) : ∃ places, DataW.whole enc Try.prog ((World.holding Try.prog os ⟨#[], #[], []⟩).forCall (fun _ _ => 0) ⟨#[], #[.string ByteArray.empty], []⟩).memory Try.f7.params.toList Rows.fnExactParseOutlineSpec.vars false (#[.string ByteArray.empty] : Array Value).toList 8 = some ([.lit (.string [])], [], places) :=
  ⟨[], by kernel_rfl⟩

set_option maxRecDepth 100000 in
theorem lifted (os : Os) (started : os.Started) (H : Type) (enc : TypeId × Value → H) (F : Stop.Interp) :
    ReturnsInHanded {} Try.checked os 7 .any ((OpenSpec.ofChange Rows.fnExactParseOutlineSpec).preRow enc Try.prog Try.f7 Rows.fnExactParseOutlineRow.domain false Rows.fnExactParseOutlineRow.laid) (((OpenSpec.ofChange Rows.fnExactParseOutlineSpec).at F).post enc Try.prog Try.f7 false true false false) := by
  obtain ⟨places, hx⟩ := reads os enc
  refine returnsInHanded_of_row (C := Try.checked) (s := OpenSpec.ofChange Rows.fnExactParseOutlineSpec) own started (by kernel_rfl) Try.func7
    (witness_row_atRef (enc := enc) (C := Try.checked) false (World.holding Try.prog os ⟨#[], #[], []⟩) #[.string ByteArray.empty] rfl (by kernel_rfl) (by kernel_rfl) (by kernel_rfl)
      (OpenSpec.preRow_of_cond 8 hx (by kernel_rfl) (fun k hk => by cases hk) (by kernel_rfl) ⟨[], rfl, List.nodup_nil, fun b off h => by cases h⟩)) ?_
  intro W base args ds gs before hval hW _ _ _ hL hS _
  exact contract H enc W base args ds gs before hval hW hL hS

theorem said : Rows.FnExactParseOutlineSaid :=
  OpenClaim.holds_of_cond 7 Try.f7 rfl rfl rfl rfl rfl rfl rfl ⟨rfl, rfl, rfl, rfl, rfl⟩ rfl rfl rfl rfl rfl (by kernel_rfl) Try.func7 (by kernel_rfl)
    (of_decide_eq_true (by kernel_rfl)) (by unfold Func.isWrapper; first | (rw [if_pos (by decide +kernel)]; kernel_rfl) | (rw [if_neg (by decide +kernel)]; exact ⟨rfl, rfl⟩))
    (fun os started H enc _ F => by rw [OpenClaim.pre_eq_preRow]; exact lifted os started H enc F)

theorem proved : Rows.FnExactParseOutlineSaid := said
#print axioms proved
end Go.Proofs.Ytkhklidpighmpaa.fnExactParseOutline
