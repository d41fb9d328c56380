/-
  laws.FnExactIsValidEvents returns true whatever the events: impl.IsValidEvents answers as the specification and leaves its argument. Conditions: none but the row's own.
-/
import Derived.Test.YtindcafdphfppaaRows
import Derived.WalkKit
import Derived.ProofKit
import Derived.OpenShut
import Derived.ShutString
import Derived.ChangeOld
import Derived.Below
import Derived.SliceStrings
import Derived.JoinedCond
import Derived.Deep.DeepHandedRow
import Derived.Deep.DeepWitnessRowRef
import Derived.Lib.Hide
import Derived.Test.YtindcafdphfppaaSpecEvs
import Derived.Test.YtindcafdphfppaaImpl3
namespace Go.Proofs.Ytindcafdphfppaa.fnExactIsValidEvents
open Go.ChangeShapes Go.WideShapes Go.ChangeAt Go.RowKit
open Go.ChangeMaps (open_string shut_string)
set_option linter.unusedVariables false

theorem own : ownKnob Try.prog.godebug = none := by kernel_rfl
theorem laidOut : laidOutB Try.prog = true := by kernel_rfl

/-! ### THE WALK: the Go text returns true, and writes nothing that was there. -/
set_option maxRecDepth 100000 in
set_option maxHeartbeats 1000000 in
theorem walk (a0 : Option Addr) (n0 c0 : Nat) (e0 : List Pl.Ev) (w : World) (hS : w.ShapedOpen Try.prog)  (w0 : EvsIn w a0 n0 c0 e0) :
    Calls Try.prog 5 #[.slice a0 n0 c0] w fun e w' => e = .returned (.bool true) ∧ Below w.heap.size w w' := by
  obtain ⟨hml, hlen, hev, _⟩ := w0
  have c := fun w => szE_any a0 n0 c0 w hml
  by_cases hbig : n0 ≤ 1048576
  · rw [if_pos hbig] at c
    have CS := Lib.hid c
    have hen : e0.length ≤ 1048576 := by omega
    have HT := Lib.hid (fun v w h => toE_any v e0 w h hen)
    have HQE := Lib.hid (fun v u w hv hu => eqE_same v u e0 w hv hu (by omega))
    have HSp := Lib.hid (fun v w h => specIsValidEvents_any v e0 w h (by omega))
    have HIm := Lib.hid (fun v w h => impl3.valid v e0 w h (by omega))
    have HEV := Lib.hid hev
    obtain ⟨b, hb⟩ : ∃ b, Pl.good e0 = b := ⟨_, rfl⟩
    rw [hb] at HSp HIm
    have hneg : ¬ (1048576 - (n0 : Int) < 0) := by omega
    clear c hb hev hS
    go_enter Try.func5, Try.ntmps5
    go_wp2_with fail
    refine (CS.out _).mono ?_
    rintro e w' ⟨rfl, rfl⟩
    go_wp2_with fail
    refine (HT.out _ _ HEV.out).mono ?_
    rintro e w1 ⟨⟨v1, rfl, h1⟩, b1⟩
    have HV1 := Lib.hid h1.evs
    clear h1
    go_wp2_with fail
    refine (HSp.out _ _ HV1.out).mono ?_
    rintro e w2 ⟨rfl, b12⟩
    have b2 := b1.trans (b12.mono b1.size)
    clear HV1 b12
    go_wp2_with fail
    refine (HT.out _ _ (HEV.out.below b2)).mono ?_
    rintro e w3 ⟨⟨x0, rfl, h3⟩, b23⟩
    have HX := Lib.hid h3.evs
    have b3 := b2.trans (b23.mono b2.size)
    clear h3
    go_wp2_with fail
    refine (HIm.out _ _ HX.out).mono ?_
    rintro e w4 ⟨rfl, b34⟩
    have b4 := b3.trans (b34.mono b3.size)
    go_wp2_with fail
    refine (HT.out _ _ (HEV.out.below b4)).mono ?_
    rintro e w6 ⟨⟨y, rfl, h6⟩, b46⟩
    have HY := Lib.hid h6.evs
    have b6 := b4.trans (b46.mono b4.size)
    have HX6 := Lib.hid ((HX.out.below b34).below b46)
    clear h6
    go_wp2_with fail
    refine (HQE.out _ _ _ HX6.out HY.out).mono ?_
    rintro e w7 ⟨rfl, b67⟩
    have hfin := b6.trans (b67.mono b6.size)
    go_wp2
    go_ret
    exact ⟨rfl, hfin⟩
  · rw [if_neg hbig] at c
    have CS := Lib.hid c
    clear c
    go_enter Try.func5, Try.ntmps5
    go_wp2_with fail
    refine (CS.out _).mono ?_
    rintro e w' ⟨rfl, rfl⟩
    go_wp2
    go_ret
    exact ⟨rfl, Below.refl _ _⟩

/-! ### THE ROW's STEP -/
theorem contract (H : Type) (enc : TypeId × Value → H) (W : World) (base : Nat) (args : Array Value) (ds gs : List (DataW H)) (before : List MemPlace)
    (hval : ∀ (j : Nat) t v, Try.f5.params[j]? = some t → args[j]? = some v → Value.okWide Try.prog W .any base t v)
    (hW : DataW.Whole enc Try.prog Try.f5.params.toList Rows.fnExactIsValidEventsSpec.vars false W args.toList ds gs before) (hL : laidMetH Try.prog Rows.fnExactIsValidEventsRow.laid W) (hS : W.ShapedOpen Try.prog) :
    Calls Try.prog 5 args W fun e W' => ∃ v, e = .returned v ∧ Rows.fnExactIsValidEventsSpec.post enc Try.prog Try.f5 false true false false W args v W' := by
  have hW' := hW
  obtain ⟨p, q, hA0, hV, rfl, hfz, hnd⟩ := hW
  have hA : DataW.TrodAll enc Try.prog W 0 (fun _ => true) true Try.f5.params.toList args.toList ds p := hA0
  rw [Try.params5] at hA hval
  obtain ⟨v0, vs0, d0, ds0, p0, q0, hargs, rfl, rfl, h0, r0⟩ := trodAll_cons hA
  obtain ⟨rfl, rfl, rfl⟩ := trodAll_nil r0
  obtain rfl : args = #[v0] := by cases args; simp_all
  obtain ⟨rfl, rfl⟩ := trodVars_none hV
  have k0 := h0
  have lt0 : ∀ x ∈ p0, x.block < W.heap.size := by obtain ⟨m, hm⟩ := k0; exact DataW.trod_lt m _ _ _ hm
  obtain ⟨a0, n0, c0, rfl⟩ := okWide_slice Try.underlying38 (hval 0 38 v0 rfl rfl)
  obtain ⟨e0, w0⟩ : ∃ es, EvsIn W a0 n0 c0 es := by
    obtain ⟨fuel, hf⟩ := h0
    obtain ⟨a, n, c, es, hcs, hin⟩ := open_evs Try.underlying38 Try.underlying74 (by kernel_rfl) (by kernel_rfl) (by kernel_rfl) ⟨rfl, rfl⟩ ⟨rfl, rfl⟩ ⟨rfl, rfl⟩ Try.underlying3 Try.underlying4 hf
    simp [Value.cells] at hcs
    obtain ⟨rfl, rfl, rfl⟩ := hcs
    exact ⟨es, hin⟩
  clear hA0 hval
  refine (walk a0 n0 c0 e0 W hS  w0).mono fun e W' ⟨he, bel⟩ => ?_
  subst he
  exact ⟨_, rfl, _, _, _, [], _, [], hW', trodAll_mk1 (shut_bool Try.underlying4 _), (trodAll_cons_mk (Below.trod laidOut (by kernel_rfl) (of_decide_eq_true (by kernel_rfl)) k0 bel lt0) trodAll_mk0), rfl, bel.frame _, fun h => by cases h⟩

theorem reads (os : Os) {H : Type} (enc : TypeId × Value → H) : ∃ places, DataW.whole enc Try.prog ((World.holding Try.prog os ⟨#[], #[], []⟩).forCall (fun _ _ => 0) ⟨#[], #[.slice none 0 0], []⟩).memory Try.f5.params.toList Rows.fnExactIsValidEventsSpec.vars false (#[.slice none 0 0] : Array Value).toList 8 = some ([.nil], [], places) :=
  ⟨[], by kernel_rfl⟩

set_option maxRecDepth 100000 in
theorem lifted (os : Os) (started : os.Started) (H : Type) (enc : TypeId × Value → H) (F : Stop.Interp) :
    ReturnsInHanded {} Try.checked os 5 .any ((OpenSpec.ofChange Rows.fnExactIsValidEventsSpec).preRow enc Try.prog Try.f5 Rows.fnExactIsValidEventsRow.domain false Rows.fnExactIsValidEventsRow.laid) (((OpenSpec.ofChange Rows.fnExactIsValidEventsSpec).at F).post enc Try.prog Try.f5 false true false false) := by
  obtain ⟨places, hx⟩ := reads os enc
  refine returnsInHanded_of_row (C := Try.checked) (s := OpenSpec.ofChange Rows.fnExactIsValidEventsSpec) own started (by kernel_rfl) Try.func5
    (witness_row_atRef (enc := enc) (C := Try.checked) false (World.holding Try.prog os ⟨#[], #[], []⟩) #[.slice none 0 0] rfl (by kernel_rfl) (by kernel_rfl) (by kernel_rfl)
      (OpenSpec.preRow_of_cond 8 hx (by kernel_rfl) (fun k hk => by cases hk) (by kernel_rfl) ⟨[], rfl, List.nodup_nil, fun b off h => by cases h⟩)) ?_
  intro W base args ds gs before hval hW _ _ _ hL hS _
  exact contract H enc W base args ds gs before hval hW hL hS

theorem said : Rows.FnExactIsValidEventsSaid :=
  OpenClaim.holds_of_cond 5 Try.f5 rfl rfl rfl rfl rfl rfl rfl ⟨rfl, rfl, rfl, rfl, rfl⟩ rfl rfl rfl rfl rfl (by kernel_rfl) Try.func5 (by kernel_rfl)
    (of_decide_eq_true (by kernel_rfl)) (by unfold Func.isWrapper; first | (rw [if_pos (by decide +kernel)]; kernel_rfl) | (rw [if_neg (by decide +kernel)]; exact ⟨rfl, rfl⟩))
    (fun os started H enc _ F => by rw [OpenClaim.pre_eq_preRow]; exact lifted os started H enc F)

theorem proved : Rows.FnExactIsValidEventsSaid := said
#print axioms proved
end Go.Proofs.Ytindcafdphfppaa.fnExactIsValidEvents
