/-
  laws.FnExactCountUntranslated returns true whatever the list of pieces: impl.CountUntranslated answers as the specification and leaves its argument. Conditions: none but the row's own.
-/
import Derived.Test.YthigdblloddepaaRows
import Derived.WalkKit
import Derived.ProofKit
import Derived.OpenShut
import Derived.ShutString
import Derived.ChangeOld
import Derived.Below
import Derived.SliceStrings
import Derived.JoinedCond
import Derived.Deep.DeepHandedRow
import Derived.Deep.DeepWitnessRowRef
import Derived.Lib.Hide
import Derived.Test.YthigdblloddepaaImC
namespace Go.Proofs.Ythigdblloddepaa.fnExactCountUntranslated
open Go.ChangeShapes Go.WideShapes Go.ChangeAt Go.RowKit
open Go.ChangeMaps (open_string shut_string)
set_option linter.unusedVariables false
set_option maxRecDepth 100000

theorem own : ownKnob Try.prog.godebug = none := by kernel_rfl
theorem laidOut : laidOutB Try.prog = true := by kernel_rfl

/-! ### THE WALK: the Go text returns true, and writes nothing that was there. -/
set_option maxRecDepth 100000 in
set_option maxHeartbeats 8000000 in
theorem walk (a0 : Option Addr) (n0 c0 : Nat) (e0 : List Pc) (w : World) (hS : w.ShapedOpen Try.prog)  (w0 : PcsIn w a0 n0 c0 e0) :
    Calls Try.prog 6 #[.slice a0 n0 c0] w fun e w' => e = .returned (.bool true) ∧ Below w.heap.size w w' := by
  obtain ⟨hnm0, hlen0, hat0, hfine0⟩ := w0
  have hnm : e0.length ≤ maxLen := by rw [hlen0]; exact hnm0
  have CZ := Lib.hid (fun w' hb => szPcs_any 1048576 (by decide) (by decide) (.slice a0 n0 c0) e0 w' (hat0.below (w' := w') hb) hnm (fun e he => (hfine0 e he).2.2))
  have CT := Lib.hid (fun (hn : e0.length ≤ 1048576) w' hb => toPcs_any (.slice a0 n0 c0) e0 w' (hat0.below (w' := w') hb) hn)
  have HA := Lib.hid (fun w base v (h : OwnPcs w base v e0.length (fun j => e0.getD j pc0)) => show PcsAt w v e0 from h.at rfl (fun j e he => by simp [List.getD, he]))
  have CS := Lib.hid (fun v w h (hn : e0.length ≤ 2097152) => specCountUntranslated_any v e0 w h hn)
  have CI := Lib.hid (fun v w h (hn : e0.length ≤ 2097152) => CountUntranslated_any v e0 w h hn)
  have CE := Lib.hid (fun v u w h h' (hn : e0.length ≤ 2097152) => eqPcs_same v u e0 w h h' hn)
  obtain ⟨L, hL⟩ : ∃ L, L = e0.length := ⟨_, rfl⟩
  obtain ⟨U, hU⟩ : ∃ U, U = Pl.untr e0 := ⟨_, rfl⟩
  rw [← hL] at CZ CT HA CS CI CE
  rw [← hU] at CS CI
  have HL := Lib.hid hL
  clear hat0 hfine0 hnm hnm0 hS hL hU hlen0
  go_enter Try.func6, Try.ntmps6
  go_wp2_with fail
  refine (CZ.out w (Below.refl _ _)).mono ?_
  rintro r w1 ⟨⟨q, rfl, hq⟩, hb1⟩
  by_cases hq0 : q < 0
  · clear hq CZ CT
    go_wp2
    go_ret
    exact ⟨rfl, hb1⟩
  · have hn := (hq (by omega)).1
    have CT1 := Lib.hid (CT.out hn)
    have CS1 := Lib.hid (fun v w h => CS.out v w h (by omega))
    have CI1 := Lib.hid (fun v w h => CI.out v w h (by omega))
    have CE1 := Lib.hid (fun v u w h h' => CE.out v u w h h' (by omega))
    have HB1 := Lib.hid hb1
    clear hq CZ CT CS CI CE hb1 hn
    go_wp2_with fail
    refine (CT1.out w1 HB1.out).mono ?_
    rintro r w2 ⟨⟨u2, rfl, hu2⟩, hb⟩
    have U2 := Lib.hid (HA.out _ _ _ hu2)
    have HB2 := Lib.hid (below_step HB1.out hb)
    clear hb hu2
    go_wp2_with fail
    refine (CS1.out _ w2 U2.out).mono ?_
    rintro r w3 ⟨rfl, hb⟩
    have HB3 := Lib.hid (below_step HB2.out hb)
    clear hb
    go_wp2_with fail
    refine (CT1.out w3 HB3.out).mono ?_
    rintro r w4 ⟨⟨u4, rfl, hu4⟩, hb⟩
    have U4 := Lib.hid (HA.out _ _ _ hu4)
    have HB4 := Lib.hid (below_step HB3.out hb)
    clear hb hu4
    go_wp2_with fail
    refine (CI1.out _ w4 U4.out).mono ?_
    rintro r w5 ⟨rfl, hb⟩
    have U5 := Lib.hid (U4.out.below hb)
    have HB5 := Lib.hid (below_step HB4.out hb)
    have hUU : ((U : Int) != (U : Int)) = false := by simp
    clear hb
    go_wp2_with fail
    refine (CT1.out w5 HB5.out).mono ?_
    rintro r w6 ⟨⟨u6, rfl, hu6⟩, hb⟩
    have U6 := Lib.hid (HA.out _ _ _ hu6)
    have U56 := Lib.hid (U5.out.below hb)
    have HB6 := Lib.hid (below_step HB5.out hb)
    clear hb hu6
    go_wp2_with fail
    refine (CE1.out _ _ w6 U56.out U6.out).mono ?_
    rintro r w7 ⟨rfl, hb⟩
    have HB7 := Lib.hid (below_step HB6.out hb)
    clear hb
    go_wp2
    go_ret
    exact ⟨rfl, HB7.out⟩

/-! ### THE ROW's STEP -/
set_option maxRecDepth 100000 in
theorem contract (H : Type) (enc : TypeId × Value → H) (W : World) (base : Nat) (args : Array Value) (ds gs : List (DataW H)) (before : List MemPlace)
    (hval : ∀ (j : Nat) t v, Try.f6.params[j]? = some t → args[j]? = some v → Value.okWide Try.prog W .any base t v)
    (hW : DataW.Whole enc Try.prog Try.f6.params.toList Rows.fnExactCountUntranslatedSpec.vars false W args.toList ds gs before) (hL : laidMetH Try.prog Rows.fnExactCountUntranslatedRow.laid W) (hS : W.ShapedOpen Try.prog) :
    Calls Try.prog 6 args W fun e W' => ∃ v, e = .returned v ∧ Rows.fnExactCountUntranslatedSpec.post enc Try.prog Try.f6 false true false false W args v W' := by
  have hW' := hW
  obtain ⟨p, q, hA0, hV, rfl, hfz, hnd⟩ := hW
  have hA : DataW.TrodAll enc Try.prog W 0 (fun _ => true) true Try.f6.params.toList args.toList ds p := hA0
  rw [Try.params6] at hA hval
  obtain ⟨v0, vs0, d0, ds0, p0, q0, hargs, rfl, rfl, h0, r0⟩ := trodAll_cons hA
  obtain ⟨rfl, rfl, rfl⟩ := trodAll_nil r0
  obtain rfl : args = #[v0] := by cases args; simp_all
  obtain ⟨rfl, rfl⟩ := trodVars_none hV
  have k0 := h0
  have lt0 : ∀ x ∈ p0, x.block < W.heap.size := by obtain ⟨m, hm⟩ := k0; exact DataW.trod_lt m _ _ _ hm
  obtain ⟨a0, n0, c0, rfl⟩ := okWide_slice Try.underlying48 (hval 0 48 v0 rfl rfl)
  obtain ⟨e0, w0⟩ : ∃ es, PcsIn W a0 n0 c0 es := by
    obtain ⟨fuel, hf⟩ := h0
    obtain ⟨a, n, c, es, hcs, hin⟩ := open_pcs Try.underlying48 Try.underlying73 (by kernel_rfl) (by kernel_rfl) (by kernel_rfl) ⟨rfl, rfl⟩ ⟨rfl, rfl⟩ ⟨rfl, rfl⟩ Try.underlying3 Try.underlying9 hf
    simp [Value.cells] at hcs
    obtain ⟨rfl, rfl, rfl⟩ := hcs
    exact ⟨es, hin⟩
  clear hA0 hval
  refine (walk a0 n0 c0 e0 W hS  w0).mono fun e W' ⟨he, bel⟩ => ?_
  subst he
  exact ⟨_, rfl, _, _, _, [], _, [], hW', trodAll_mk1 (shut_bool Try.underlying4 _), (trodAll_cons_mk (Below.trod laidOut (by kernel_rfl) (of_decide_eq_true (by kernel_rfl)) k0 bel lt0) trodAll_mk0), rfl, bel.frame _, fun h => by cases h⟩

theorem reads (os : Os) {H : Type} (enc : TypeId × Value → H) : ∃ places, DataW.whole enc Try.prog ((World.holding Try.prog os ⟨#[], #[], []⟩).forCall (fun _ _ => 0) ⟨#[], #[.slice none 0 0], []⟩).memory Try.f6.params.toList Rows.fnExactCountUntranslatedSpec.vars false (#[.slice none 0 0] : Array Value).toList 8 = some ([.nil], [], places) :=
  ⟨[], by kernel_rfl⟩

set_option maxRecDepth 100000 in
theorem lifted (os : Os) (started : os.Started) (H : Type) (enc : TypeId × Value → H) (F : Stop.Interp) :
    ReturnsInHanded {} Try.checked os 6 .any ((OpenSpec.ofChange Rows.fnExactCountUntranslatedSpec).preRow enc Try.prog Try.f6 Rows.fnExactCountUntranslatedRow.domain false Rows.fnExactCountUntranslatedRow.laid) (((OpenSpec.ofChange Rows.fnExactCountUntranslatedSpec).at F).post enc Try.prog Try.f6 false true false false) := by
  obtain ⟨places, hx⟩ := reads os enc
  refine returnsInHanded_of_row (C := Try.checked) (s := OpenSpec.ofChange Rows.fnExactCountUntranslatedSpec) own started (by kernel_rfl) Try.func6
    (witness_row_atRef (enc := enc) (C := Try.checked) false (World.holding Try.prog os ⟨#[], #[], []⟩) #[.slice none 0 0] rfl (by kernel_rfl) (by kernel_rfl) (by kernel_rfl)
      (OpenSpec.preRow_of_cond 8 hx (by kernel_rfl) (fun k hk => by cases hk) (by kernel_rfl) ⟨[], rfl, List.nodup_nil, fun b off h => by cases h⟩)) ?_
  intro W base args ds gs before hval hW _ _ _ hL hS _
  exact contract H enc W base args ds gs before hval hW hL hS

theorem said : Rows.FnExactCountUntranslatedSaid :=
  OpenClaim.holds_of_cond 6 Try.f6 rfl rfl rfl rfl rfl rfl rfl ⟨rfl, rfl, rfl, rfl, rfl⟩ rfl rfl rfl rfl rfl (by kernel_rfl) Try.func6 (by kernel_rfl)
    (of_decide_eq_true (by kernel_rfl)) (by unfold Func.isWrapper; first | (rw [if_pos (by decide +kernel)]; kernel_rfl) | (rw [if_neg (by decide +kernel)]; exact ⟨rfl, rfl⟩))
    (fun os started H enc _ F => by rw [OpenClaim.pre_eq_preRow]; exact lifted os started H enc F)

theorem proved : Rows.FnExactCountUntranslatedSaid := said
#print axioms proved
end Go.Proofs.Ythigdblloddepaa.fnExactCountUntranslated
