/-
  laws.FnExactLastWord returns true whatever the state: impl.LastWord answers as the specification. Conditions: none but the row's own.
-/
import Derived.Test.YtnpiphkglhcifaaRows
import Derived.WalkKit
import Derived.ProofKit
import Derived.OpenShut
import Derived.ShutString
import Derived.ChangeOld
import Derived.Below
import Derived.SliceStrings
import Derived.JoinedCond
import Derived.Deep.DeepHandedRow
import Derived.Deep.DeepWitnessRowRef
import Derived.Lib.Hide
import Derived.Test.YtnpiphkglhcifaaFmI
namespace Go.Proofs.Ytnpiphkglhcifaa.fnExactLastWord
open Go.ChangeShapes Go.WideShapes Go.ChangeAt Go.RowKit
open Go.ChangeMaps (open_string shut_string)
set_option linter.unusedVariables false
set_option maxRecDepth 100000

theorem own : ownKnob Try.prog.godebug = none := by kernel_rfl
theorem laidOut : laidOutB Try.prog = true := by kernel_rfl

/-! ### THE WALK: the Go text returns true, and writes nothing that was there. -/
set_option maxRecDepth 100000 in
set_option maxHeartbeats 8000000 in
theorem walk (s0 : St) (w : World) (hS : w.ShapedOpen Try.prog)  (w0 : StFine s0) :
    Calls Try.prog 5 #[stV s0] w fun e w' => e = .returned (.bool true) ∧ Below w.heap.size w w' := by
  obtain ⟨t, j, g, c, p⟩ := s0
  have hsz : t.size ≤ maxLen := w0.2.2
  have CZ := Lib.hid (fun w => szState_any ⟨t, j, g, c, p⟩ 1048576 w (by omega) (by omega) hsz)
  have CT := Lib.hid (fun w => toState_any ⟨t, j, g, c, p⟩ w)
  dsimp only at CZ CT
  by_cases hbig : (1048576 : Int) < t.size
  · rw [if_pos hbig] at CZ
    clear w0 hS
    go_enter Try.func5, Try.ntmps5
    go_wp2_with fail
    refine (CZ.out _).mono ?_
    rintro e w1 ⟨rfl, hb⟩
    have HB1 := Lib.hid (below_new hb)
    clear hb
    go_wp2
    go_ret
    exact ⟨rfl, HB1.out⟩
  · rw [if_neg hbig] at CZ
    have cs := fun w => specLastWord_any ⟨t, j, g, c, p⟩ w (by show t.size ≤ _; omega)
    have ci := fun w => LastWord_any ⟨t, j, g, c, p⟩ w (by show t.size ≤ _; omega)
    unfold lastE at cs ci
    obtain ⟨q, hq⟩ : ∃ q, q = okSt ⟨t, j, g, c, p⟩ := ⟨_, rfl⟩
    rw [← hq] at cs ci
    obtain ⟨f, hf⟩ : ∃ f, f = (if q = true then lastT ⟨t, j, g, c, p⟩ else ⟨#[]⟩) := ⟨_, rfl⟩
    rw [← hf] at cs ci
    clear hq hf
    have CS := Lib.hid cs
    have CI := Lib.hid ci
    clear w0 hS cs ci
    go_enter Try.func5, Try.ntmps5
    go_wp2_with fail
    refine (CZ.out _).mono ?_
    rintro e w1 ⟨rfl, hb⟩
    have HX1 := Lib.hid (BoxL.new (s := ⟨t, j, g, c, p⟩) hb)
    have HB1 := Lib.hid (below_new hb)
    clear hb
    obtain ⟨_, c0, c1, c2, c3, c4⟩ := HX1.out
    go_wp2_with fail
    refine (CT.out _).mono ?_
    rintro e w2 ⟨rfl, hb⟩
    have HX2 := Lib.hid (HX1.out.below hb)
    have HB2 := Lib.hid (HB1.out.trans (hb.mono HB1.out.size))
    clear hb c0 c1 c2 c3 c4 HX1 HB1
    obtain ⟨_, c0, c1, c2, c3, c4⟩ := HX2.out
    go_wp2_with fail
    refine (CS.out _).mono ?_
    rintro e w3 ⟨rfl, hb⟩
    have HX3 := Lib.hid (HX2.out.below hb)
    have HB3 := Lib.hid (HB2.out.trans (hb.mono HB2.out.size))
    clear hb c0 c1 c2 c3 c4 HX2 HB2
    obtain ⟨_, c0, c1, c2, c3, c4⟩ := HX3.out
    go_wp2_with fail
    refine (CT.out _).mono ?_
    rintro e w4 ⟨rfl, hb⟩
    have HX4 := Lib.hid (HX3.out.below hb)
    have HB4 := Lib.hid (HB3.out.trans (hb.mono HB3.out.size))
    clear hb c0 c1 c2 c3 c4 HX3 HB3
    obtain ⟨_, c0, c1, c2, c3, c4⟩ := HX4.out
    go_wp2_with fail
    refine (CI.out _).mono ?_
    rintro e w5 ⟨rfl, hb⟩
    have HX5 := Lib.hid (HX4.out.below hb)
    have HB5 := Lib.hid (HB4.out.trans (hb.mono HB4.out.size))
    clear hb c0 c1 c2 c3 c4 HX4 HB4
    obtain ⟨_, c0, c1, c2, c3, c4⟩ := HX5.out
    go_wp2
    go_ret
    exact ⟨rfl, HB5.out⟩

/-! ### THE ROW's STEP -/
set_option maxRecDepth 100000 in
theorem contract (H : Type) (enc : TypeId × Value → H) (W : World) (base : Nat) (args : Array Value) (ds gs : List (DataW H)) (before : List MemPlace)
    (hval : ∀ (j : Nat) t v, Try.f5.params[j]? = some t → args[j]? = some v → Value.okWide Try.prog W .any base t v)
    (hW : DataW.Whole enc Try.prog Try.f5.params.toList Rows.fnExactLastWordSpec.vars false W args.toList ds gs before) (hL : laidMetH Try.prog Rows.fnExactLastWordRow.laid W) (hS : W.ShapedOpen Try.prog) :
    Calls Try.prog 5 args W fun e W' => ∃ v, e = .returned v ∧ Rows.fnExactLastWordSpec.post enc Try.prog Try.f5 false true false false W args v W' := by
  have hW' := hW
  obtain ⟨p, q, hA0, hV, rfl, hfz, hnd⟩ := hW
  have hA : DataW.TrodAll enc Try.prog W 0 (fun _ => true) true Try.f5.params.toList args.toList ds p := hA0
  rw [Try.params5] at hA hval
  obtain ⟨v0, vs0, d0, ds0, p0, q0, hargs, rfl, rfl, h0, r0⟩ := trodAll_cons hA
  obtain ⟨rfl, rfl, rfl⟩ := trodAll_nil r0
  obtain rfl : args = #[v0] := by cases args; simp_all
  obtain ⟨rfl, rfl⟩ := trodVars_none hV
  have k0 := h0
  have lt0 : ∀ x ∈ p0, x.block < W.heap.size := by obtain ⟨m, hm⟩ := k0; exact DataW.trod_lt m _ _ _ hm
  obtain ⟨s0, rfl, w0⟩ := open_stV Try.underlying28 (by kernel_rfl) (by kernel_rfl) (by kernel_rfl) ⟨rfl, rfl⟩ ⟨rfl, rfl⟩ ⟨rfl, rfl⟩ ⟨rfl, rfl⟩ ⟨rfl, rfl⟩ Try.underlying3 Try.underlying9 Try.underlying4 (by kernel_rfl) (hval 0 28 v0 rfl rfl) h0
  clear hA0 hval
  refine (walk s0 W hS  w0).mono fun e W' ⟨he, bel⟩ => ?_
  subst he
  exact ⟨_, rfl, _, _, _, [], _, [], hW', trodAll_mk1 (shut_bool Try.underlying4 _), (trodAll_cons_mk (Below.trod laidOut (by kernel_rfl) (of_decide_eq_true (by kernel_rfl)) k0 bel lt0) trodAll_mk0), rfl, bel.frame _, fun h => by cases h⟩

theorem reads (os : Os) {H : Type} (enc : TypeId × Value → H) : ∃ places, DataW.whole enc Try.prog ((World.holding Try.prog os ⟨#[], #[], []⟩).forCall (fun _ _ => 0) ⟨#[], #[.agg #[.string ByteArray.empty, .bool false, .bool false, .int .i64 0, .int .i64 0]], []⟩).memory Try.f5.params.toList Rows.fnExactLastWordSpec.vars false (#[.agg #[.string ByteArray.empty, .bool false, .bool false, .int .i64 0, .int .i64 0]] : Array Value).toList 8 = some ([.agg [.lit (.string []), .lit (.bool false), .lit (.bool false), .lit (.int .i64 0), .lit (.int .i64 0)]], [], places) :=
  ⟨[], by kernel_rfl⟩

set_option maxRecDepth 100000 in
theorem lifted (os : Os) (started : os.Started) (H : Type) (enc : TypeId × Value → H) (F : Stop.Interp) :
    ReturnsInHanded {} Try.checked os 5 .any ((OpenSpec.ofChange Rows.fnExactLastWordSpec).preRow enc Try.prog Try.f5 Rows.fnExactLastWordRow.domain false Rows.fnExactLastWordRow.laid) (((OpenSpec.ofChange Rows.fnExactLastWordSpec).at F).post enc Try.prog Try.f5 false true false false) := by
  obtain ⟨places, hx⟩ := reads os enc
  refine returnsInHanded_of_row (C := Try.checked) (s := OpenSpec.ofChange Rows.fnExactLastWordSpec) own started (by kernel_rfl) Try.func5
    (witness_row_atRef (enc := enc) (C := Try.checked) false (World.holding Try.prog os ⟨#[], #[], []⟩) #[.agg #[.string ByteArray.empty, .bool false, .bool false, .int .i64 0, .int .i64 0]] rfl (by kernel_rfl) (by kernel_rfl) (by kernel_rfl)
      (OpenSpec.preRow_of_cond 8 hx (by kernel_rfl) (fun k hk => by cases hk) (by kernel_rfl) ⟨[], rfl, List.nodup_nil, fun b off h => by cases h⟩)) ?_
  intro W base args ds gs before hval hW _ _ _ hL hS _
  exact contract H enc W base args ds gs before hval hW hL hS

theorem said : Rows.FnExactLastWordSaid :=
  OpenClaim.holds_of_cond 5 Try.f5 rfl rfl rfl rfl rfl rfl rfl ⟨rfl, rfl, rfl, rfl, rfl⟩ rfl rfl rfl rfl rfl (by kernel_rfl) Try.func5 (by kernel_rfl)
    (of_decide_eq_true (by kernel_rfl)) (by unfold Func.isWrapper; first | (rw [if_pos (by decide +kernel)]; kernel_rfl) | (rw [if_neg (by decide +kernel)]; exact ⟨rfl, rfl⟩))
    (fun os started H enc _ F => by rw [OpenClaim.pre_eq_preRow]; exact lifted os started H enc F)

theorem proved : Rows.FnExactLastWordSaid := said
#print axioms proved
end Go.Proofs.Ytnpiphkglhcifaa.fnExactLastWord
