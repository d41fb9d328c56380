/-
  laws.FnExactIsValidFolds returns true whatever the list of folds: impl.IsValidFolds answers as the specification and leaves its argument. Conditions: none but the row's own.
-/
import Derived.Test.YtnjbaomekbiflaaRows
import Derived.WalkKit
import Derived.ProofKit
import Derived.OpenShut
import Derived.ShutString
import Derived.ChangeOld
import Derived.Below
import Derived.SliceStrings
import Derived.JoinedCond
import Derived.Deep.DeepHandedRow
import Derived.Deep.DeepWitnessRowRef
import Derived.Lib.Hide
import Derived.Test.YtnjbaomekbiflaaUnf
namespace Go.Proofs.Ytnjbaomekbiflaa.fnExactIsValidFolds
open Go.ChangeShapes Go.WideShapes Go.ChangeAt Go.RowKit
open Go.ChangeMaps (open_string shut_string)
set_option linter.unusedVariables false
set_option maxRecDepth 100000

theorem own : ownKnob Try.prog.godebug = none := by kernel_rfl
theorem laidOut : laidOutB Try.prog = true := by kernel_rfl

/-! ### THE WALK: the Go text returns true, and writes nothing that was there. -/
set_option maxRecDepth 100000 in
set_option maxHeartbeats 8000000 in
theorem walk (a0 : Option Addr) (n0 c0 : Nat) (e0 : List (Int × ByteArray)) (w : World) (hS : w.ShapedOpen Try.prog)  (w0 : AtomsIn w a0 n0 c0 e0) :
    Calls Try.prog 4 #[.slice a0 n0 c0] w fun e w' => e = .returned (.bool true) ∧ Below w.heap.size w w' := by
  obtain ⟨hnm, hlen, hrow, hval⟩ := w0
  have CZ := Lib.hid (fun w h => szFs_any (.slice a0 n0 c0) e0 w h (by rw [hlen]; exact hnm) (fun e he => (hval e he).2))
  have HR := Lib.hid hrow
  obtain ⟨hx0, hv0⟩ : (∀ e ∈ e0, e.2.size ≤ maxLen) ∧ ∀ e ∈ e0, (Lit.int .i64 e.1).wf = true := ⟨fun e he => (hval e he).2, fun e he => (hval e he).1⟩
  have HV := Lib.hid hv0
  have HL := Lib.hid hlen
  unfold maxLen at hnm
  clear hrow hval hS hlen hx0 hv0
  go_enter Try.func4, Try.ntmps4
  go_wp2_with fail
  refine (CZ.out _ HR.out).mono ?_
  rintro e w1 ⟨⟨r, rfl, hr⟩, hb⟩
  have HB1 := Lib.hid hb
  have HR1 := Lib.hid (HR.out.below hb)
  have HRr := Lib.hid hr
  clear hb CZ HR hr
  by_cases hneg : r < 0
  · go_wp2
    go_ret
    exact ⟨rfl, HB1.out⟩
  · obtain ⟨hl, hsz⟩ := HRr.out (by omega)
    have CT := Lib.hid (fun v w h => toFs_any v e0 w h hl)
    have cs := fun v w h => specIsValidFolds_any v e0 w h (by omega) (fun e he => by have := hsz e he; unfold maxLen; omega)
    have ci := fun v w h => IsValidFolds_any v e0 w h (by omega) (fun e he => by have := hsz e he; unfold maxLen; omega)
    obtain ⟨g, hg⟩ : ∃ g, g = Pl.okFs e0 := ⟨_, rfl⟩
    rw [← hg] at cs ci
    have CS := Lib.hid cs
    have CI := Lib.hid ci
    have CE := Lib.hid (fun v u w h h' => eqFs_same v u e0 w h h' (by omega))
    clear cs ci hg hl hsz HRr HV
    go_wp2_with fail
    refine (CT.out _ _ HR1.out).mono ?_
    rintro e w2 ⟨⟨x, rfl, hx⟩, hb⟩
    have HB2 := Lib.hid (HB1.out.trans (hb.mono HB1.out.size))
    have HR2 := Lib.hid (HR1.out.below hb)
    have HX2 := Lib.hid hx.atoms
    clear hb hx HB1 HR1
    go_wp2_with fail
    refine (CS.out _ _ HX2.out).mono ?_
    rintro e w3 ⟨rfl, hb⟩
    have HB3 := Lib.hid (HB2.out.trans (hb.mono HB2.out.size))
    have HR3 := Lib.hid (HR2.out.below hb)
    clear hb HB2 HR2 HX2
    go_wp2_with fail
    refine (CT.out _ _ HR3.out).mono ?_
    rintro e w4 ⟨⟨y, rfl, hy⟩, hb⟩
    have HB4 := Lib.hid (HB3.out.trans (hb.mono HB3.out.size))
    have HR4 := Lib.hid (HR3.out.below hb)
    have HY4 := Lib.hid hy.atoms
    clear hb hy HB3 HR3
    go_wp2_with fail
    refine (CI.out _ _ HY4.out).mono ?_
    rintro e w5 ⟨rfl, hb⟩
    have HB5 := Lib.hid (HB4.out.trans (hb.mono HB4.out.size))
    have HR5 := Lib.hid (HR4.out.below hb)
    have HY5 := Lib.hid (HY4.out.below hb)
    clear hb HB4 HR4 HY4
    go_wp2_with fail
    refine (CT.out _ _ HR5.out).mono ?_
    rintro e w6 ⟨⟨z, rfl, hz⟩, hb⟩
    have HB6 := Lib.hid (HB5.out.trans (hb.mono HB5.out.size))
    have HY6 := Lib.hid (HY5.out.below hb)
    have HZ6 := Lib.hid hz.atoms
    clear hb hz HB5 HR5 HY5
    go_wp2_with fail
    refine (CE.out _ _ _ HY6.out HZ6.out).mono ?_
    rintro e w7 ⟨rfl, hb⟩
    have HB7 := Lib.hid (HB6.out.trans (hb.mono HB6.out.size))
    clear hb HB6 HY6 HZ6
    go_wp2
    go_ret
    exact ⟨rfl, HB7.out⟩

/-! ### THE ROW's STEP -/
set_option maxRecDepth 100000 in
theorem contract (H : Type) (enc : TypeId × Value → H) (W : World) (base : Nat) (args : Array Value) (ds gs : List (DataW H)) (before : List MemPlace)
    (hval : ∀ (j : Nat) t v, Try.f4.params[j]? = some t → args[j]? = some v → Value.okWide Try.prog W .any base t v)
    (hW : DataW.Whole enc Try.prog Try.f4.params.toList Rows.fnExactIsValidFoldsSpec.vars false W args.toList ds gs before) (hL : laidMetH Try.prog Rows.fnExactIsValidFoldsRow.laid W) (hS : W.ShapedOpen Try.prog) :
    Calls Try.prog 4 args W fun e W' => ∃ v, e = .returned v ∧ Rows.fnExactIsValidFoldsSpec.post enc Try.prog Try.f4 false true false false W args v W' := by
  have hW' := hW
  obtain ⟨p, q, hA0, hV, rfl, hfz, hnd⟩ := hW
  have hA : DataW.TrodAll enc Try.prog W 0 (fun _ => true) true Try.f4.params.toList args.toList ds p := hA0
  rw [Try.params4] at hA hval
  obtain ⟨v0, vs0, d0, ds0, p0, q0, hargs, rfl, rfl, h0, r0⟩ := trodAll_cons hA
  obtain ⟨rfl, rfl, rfl⟩ := trodAll_nil r0
  obtain rfl : args = #[v0] := by cases args; simp_all
  obtain ⟨rfl, rfl⟩ := trodVars_none hV
  have k0 := h0
  have lt0 : ∀ x ∈ p0, x.block < W.heap.size := by obtain ⟨m, hm⟩ := k0; exact DataW.trod_lt m _ _ _ hm
  obtain ⟨a0, n0, c0, rfl⟩ := okWide_slice Try.underlying27 (hval 0 27 v0 rfl rfl)
  obtain ⟨e0, w0⟩ : ∃ es, AtomsIn W a0 n0 c0 es := by
    obtain ⟨fuel, hf⟩ := h0
    obtain ⟨a, n, c, es, hcs, hin⟩ := open_atoms Try.underlying27 Try.underlying34 (by kernel_rfl) (by kernel_rfl) (by kernel_rfl) ⟨rfl, rfl⟩ ⟨rfl, rfl⟩ Try.underlying3 Try.underlying9 hf
    simp [Value.cells] at hcs
    obtain ⟨rfl, rfl, rfl⟩ := hcs
    exact ⟨es, hin⟩
  clear hA0 hval
  refine (walk a0 n0 c0 e0 W hS  w0).mono fun e W' ⟨he, bel⟩ => ?_
  subst he
  exact ⟨_, rfl, _, _, _, [], _, [], hW', trodAll_mk1 (shut_bool Try.underlying4 _), (trodAll_cons_mk (Below.trod laidOut (by kernel_rfl) (of_decide_eq_true (by kernel_rfl)) k0 bel lt0) trodAll_mk0), rfl, bel.frame _, fun h => by cases h⟩

theorem reads (os : Os) {H : Type} (enc : TypeId × Value → H) : ∃ places, DataW.whole enc Try.prog ((World.holding Try.prog os ⟨#[], #[], []⟩).forCall (fun _ _ => 0) ⟨#[], #[.slice none 0 0], []⟩).memory Try.f4.params.toList Rows.fnExactIsValidFoldsSpec.vars false (#[.slice none 0 0] : Array Value).toList 8 = some ([.nil], [], places) :=
  ⟨[], by kernel_rfl⟩

set_option maxRecDepth 100000 in
theorem lifted (os : Os) (started : os.Started) (H : Type) (enc : TypeId × Value → H) (F : Stop.Interp) :
    ReturnsInHanded {} Try.checked os 4 .any ((OpenSpec.ofChange Rows.fnExactIsValidFoldsSpec).preRow enc Try.prog Try.f4 Rows.fnExactIsValidFoldsRow.domain false Rows.fnExactIsValidFoldsRow.laid) (((OpenSpec.ofChange Rows.fnExactIsValidFoldsSpec).at F).post enc Try.prog Try.f4 false true false false) := by
  obtain ⟨places, hx⟩ := reads os enc
  refine returnsInHanded_of_row (C := Try.checked) (s := OpenSpec.ofChange Rows.fnExactIsValidFoldsSpec) own started (by kernel_rfl) Try.func4
    (witness_row_atRef (enc := enc) (C := Try.checked) false (World.holding Try.prog os ⟨#[], #[], []⟩) #[.slice none 0 0] rfl (by kernel_rfl) (by kernel_rfl) (by kernel_rfl)
      (OpenSpec.preRow_of_cond 8 hx (by kernel_rfl) (fun k hk => by cases hk) (by kernel_rfl) ⟨[], rfl, List.nodup_nil, fun b off h => by cases h⟩)) ?_
  intro W base args ds gs before hval hW _ _ _ hL hS _
  exact contract H enc W base args ds gs before hval hW hL hS

theorem said : Rows.FnExactIsValidFoldsSaid :=
  OpenClaim.holds_of_cond 4 Try.f4 rfl rfl rfl rfl rfl rfl rfl ⟨rfl, rfl, rfl, rfl, rfl⟩ rfl rfl rfl rfl rfl (by kernel_rfl) Try.func4 (by kernel_rfl)
    (of_decide_eq_true (by kernel_rfl)) (by unfold Func.isWrapper; first | (rw [if_pos (by decide +kernel)]; kernel_rfl) | (rw [if_neg (by decide +kernel)]; exact ⟨rfl, rfl⟩))
    (fun os started H enc _ F => by rw [OpenClaim.pre_eq_preRow]; exact lifted os started H enc F)

theorem proved : Rows.FnExactIsValidFoldsSaid := said
#print axioms proved
end Go.Proofs.Ytnjbaomekbiflaa.fnExactIsValidFolds
