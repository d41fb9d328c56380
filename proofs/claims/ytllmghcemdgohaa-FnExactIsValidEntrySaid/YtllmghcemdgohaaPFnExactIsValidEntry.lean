/-
  laws.FnExactIsValidEntry returns true whatever the entry: impl.IsValidEntry answers as the specification and leaves its argument. Conditions: none but the row's own.
-/
import Derived.Test.YtllmghcemdgohaaRows
import Derived.WalkKit
import Derived.ProofKit
import Derived.OpenShut
import Derived.ShutString
import Derived.ChangeOld
import Derived.Below
import Derived.SliceStrings
import Derived.JoinedCond
import Derived.Deep.DeepHandedRow
import Derived.Deep.DeepWitnessRowRef
import Derived.Lib.Hide
import Derived.Test.YtllmghcemdgohaaImpl6E
namespace Go.Proofs.Ytllmghcemdgohaa.fnExactIsValidEntry
open Go.ChangeShapes Go.WideShapes Go.ChangeAt Go.RowKit
open Go.ChangeMaps (open_string shut_string)
set_option linter.unusedVariables false
set_option maxRecDepth 100000

theorem own : ownKnob Try.prog.godebug = none := by kernel_rfl
theorem laidOut : laidOutB Try.prog = true := by kernel_rfl

/-! ### THE WALK: the Go text returns true, and writes nothing that was there. -/
set_option maxRecDepth 100000 in
set_option maxHeartbeats 8000000 in
theorem walk (u0 : Value) (e0 : Ent) (w : World) (hS : w.ShapedOpen Try.prog)  (w0 : IntsAt w u0 e0.1 ∧ entFine e0) :
    Calls Try.prog 4 #[enV u0 e0.2] w fun e w' => e = .returned (.bool true) ∧ Below w.heap.size w w' := by
  obtain ⟨hat, hfine⟩ := w0
  have CZ := Lib.hid (fun w' hb => szE_any u0 e0 1048576 w' (hat.below (w' := w') hb) (by decide) (by decide) hfine)
  have CT := Lib.hid (fun he w' hb => toE_any u0 e0 w' (hat.below (w' := w') hb) he)
  have CS := Lib.hid (fun u w h he => specIsValidEntry_any u e0 w h he)
  have CI := Lib.hid (fun u w h he => Valid6_any u e0 w h he)
  have CE := Lib.hid (fun u v w h h' he => eqE_same u v e0 w h h' he)
  obtain ⟨a, cap, rfl, hcap, _⟩ := hat.cells
  obtain ⟨xs, t⟩ := e0
  obtain ⟨b, hb⟩ : ∃ b, b = okE (xs, t) := ⟨_, rfl⟩
  rw [← hb] at CS CI
  unfold enV at CZ CT CS CI CE ⊢
  simp only at CZ CT CS CI CE hcap ⊢
  obtain ⟨n, hnn⟩ : ∃ n, n = xs.length := ⟨_, rfl⟩
  have HN := Lib.hid hnn
  rw [← hnn] at CZ CT hcap ⊢
  clear hat hS hb hfine hnn
  go_enter Try.func4, Try.ntmps4
  go_wp2_with fail
  refine (CZ.out _ (below_al _ _)).mono ?_
  rintro r w1 ⟨⟨q, rfl, hq⟩, hb⟩
  have A1 : Hid (BoxW w1 w.heap.size 40 (.slice a n cap) (.string t)) := (BoxW.new w _ _ _).below hb (by simp)
  have HB1 := Lib.hid (below_box hb)
  clear hb
  rcases hq with rfl | ⟨hq0, hq1'⟩
  · go_wp2
    go_ret
    exact ⟨rfl, HB1.out⟩
  · have hnq : ¬ q < 0 := by omega
    have hq2 : entIn (xs, t) := ⟨by have hN := HN.out; show xs.length ≤ 1048576; omega, by show t.size ≤ 1048576; omega⟩
    have CT1 := Lib.hid (CT.out hq2)
    have CS1 := Lib.hid (fun u w h => CS.out u w h hq2.ok)
    have CI1 := Lib.hid (fun u w h => CI.out u w h hq2.ok)
    have CE1 := Lib.hid (fun u v w h h' => CE.out u v w h h' hq2.ok.1)
    have c1 := A1.out.cell0
    have d1 := A1.out.cell1
    clear CT CS CI CE CZ hq2 hq0 hq1'
    go_wp2_with fail
    refine (CT1.out w1 HB1.out).mono ?_
    rintro r w2 ⟨⟨u2, rfl, hu2⟩, hb⟩
    have hi2 : IntsAt w2 u2 xs := by rw [HN.out] at hu2; exact hu2.ints
    have U2 := Lib.hid hi2
    have A2 := Lib.hid (A1.out.below hb A1.out.lt)
    have HB2 := Lib.hid (below_step HB1.out hb)
    obtain ⟨ua2, uc2, rfl⟩ := hu2.form
    clear hb hu2 hi2 A1 HB1 c1 d1
    go_wp2_with fail
    refine (CS1.out _ w2 U2.out).mono ?_
    rintro r w3 ⟨rfl, hb⟩
    have A3 := Lib.hid (A2.out.below hb A2.out.lt)
    have HB3 := Lib.hid (below_step HB2.out hb)
    have c3 := A3.out.cell0
    have d3 := A3.out.cell1
    clear hb A2 HB2 U2
    go_wp2_with fail
    refine (CT1.out w3 HB3.out).mono ?_
    rintro r w4 ⟨⟨u4, rfl, hu4⟩, hb⟩
    obtain ⟨ua4, uc4, rfl⟩ := hu4.form
    have U4 : Hid (IntsAt (w4.alloc (.cells #[.slice ua4 n uc4, .string t] 39)) (.slice ua4 n uc4) xs) := by have := hu4; rw [HN.out] at this ⊢; exact this.ints.below (below_al _ _)
    have A4 : Hid (BoxW (w4.alloc (.cells #[.slice ua4 n uc4, .string t] 39)) w.heap.size 40 (.slice a n cap) (.string t)) := (A3.out.below hb A3.out.lt).below (below_al _ _) (by have := A3.out.lt; have := hb.size; omega)
    have X4 : Hid (BoxW (w4.alloc (.cells #[.slice ua4 n uc4, .string t] 39)) w4.heap.size 39 (.slice ua4 n uc4) (.string t)) := BoxW.new _ _ _ _
    have HB4 : Hid (Below w.heap.size w (w4.alloc (.cells #[.slice ua4 n uc4, .string t] 39))) := below_step (below_step HB3.out hb) (below_al _ _)
    clear hb hu4 A3 HB3 c3 d3
    go_wp2_with fail
    refine (CI1.out _ _ U4.out).mono ?_
    rintro r w5 ⟨rfl, hb⟩
    have A5 := Lib.hid (A4.out.below hb A4.out.lt)
    have X5 := Lib.hid (X4.out.below hb X4.out.lt)
    have U5 := Lib.hid (U4.out.below hb)
    have HB5 := Lib.hid (below_step HB4.out hb)
    have c5 := A5.out.cell0
    have d5 := A5.out.cell1
    have x5 := X5.out.cell0
    have y5 := X5.out.cell1
    clear hb A4 X4 U4 HB4
    go_wp2_with fail
    go_region_with (first
      | (go_at_call 21
         refine (CT1.out _ (by repeat (first | exact HB5.out | apply Below.drew))).mono ?_
         rintro r w6 ⟨⟨u6, rfl, hu6⟩, hb⟩
         have hbx : Below w5.heap.size w5 w6 := Below.trans (by repeat (first | exact Below.refl _ _ | apply Below.drew)) hb
         have HU6 : Hid (IntsAt w6 u6 xs) := by rw [HN.out] at hu6; exact hu6.ints
         have HBX := Lib.hid hbx
         have x6 := (X5.out.below hbx X5.out.lt).cell0
         have y6 := (X5.out.below hbx X5.out.lt).cell1
         obtain ⟨ua6, uc6, rfl⟩ := hu6.form
         clear hu6 hb hbx)
      | (go_at_call 23
         refine (CE1.out _ _ _ ((U5.out.below HBX.out).below (by repeat (first | exact Below.refl _ _ | apply Below.drew))) (HU6.out.below (by repeat (first | exact Below.refl _ _ | apply Below.drew)))).mono ?_
         rintro r w7 ⟨rfl, hb⟩
         have HB7 : Hid (Below w.heap.size w w7) := below_step (below_step HB5.out HBX.out) (Below.trans (by repeat (first | exact Below.refl _ _ | apply Below.drew)) hb)
         clear hb))
    all_goals go_wp2
    all_goals go_ret
    all_goals exact ⟨rfl, by repeat (first | exact HB7.out | apply Below.drew)⟩

/-! ### THE ROW's STEP -/
set_option maxRecDepth 100000 in
theorem contract (H : Type) (enc : TypeId × Value → H) (W : World) (base : Nat) (args : Array Value) (ds gs : List (DataW H)) (before : List MemPlace)
    (hval : ∀ (j : Nat) t v, Try.f4.params[j]? = some t → args[j]? = some v → Value.okWide Try.prog W .any base t v)
    (hW : DataW.Whole enc Try.prog Try.f4.params.toList Rows.fnExactIsValidEntrySpec.vars false W args.toList ds gs before) (hL : laidMetH Try.prog Rows.fnExactIsValidEntryRow.laid W) (hS : W.ShapedOpen Try.prog) :
    Calls Try.prog 4 args W fun e W' => ∃ v, e = .returned v ∧ Rows.fnExactIsValidEntrySpec.post enc Try.prog Try.f4 false true false false W args v W' := by
  have hW' := hW
  obtain ⟨p, q, hA0, hV, rfl, hfz, hnd⟩ := hW
  have hA : DataW.TrodAll enc Try.prog W 0 (fun _ => true) true Try.f4.params.toList args.toList ds p := hA0
  rw [Try.params4] at hA hval
  obtain ⟨v0, vs0, d0, ds0, p0, q0, hargs, rfl, rfl, h0, r0⟩ := trodAll_cons hA
  obtain ⟨rfl, rfl, rfl⟩ := trodAll_nil r0
  obtain rfl : args = #[v0] := by cases args; simp_all
  obtain ⟨rfl, rfl⟩ := trodVars_none hV
  have k0 := h0
  have lt0 : ∀ x ∈ p0, x.block < W.heap.size := by obtain ⟨m, hm⟩ := k0; exact DataW.trod_lt m _ _ _ hm
  obtain ⟨u0, e0, rfl, w0⟩ := open_entV Try.underlying40 (by kernel_rfl) (by kernel_rfl) (by kernel_rfl) ⟨rfl, rfl⟩ ⟨rfl, rfl⟩ Try.underlying36 Try.underlying3 Try.underlying9 (by kernel_rfl) (hval 0 40 v0 rfl rfl) h0
  clear hA0 hval
  refine (walk u0 e0 W hS  w0).mono fun e W' ⟨he, bel⟩ => ?_
  subst he
  exact ⟨_, rfl, _, _, _, [], _, [], hW', trodAll_mk1 (shut_bool Try.underlying4 _), (trodAll_cons_mk (Below.trod laidOut (by kernel_rfl) (of_decide_eq_true (by kernel_rfl)) k0 bel lt0) trodAll_mk0), rfl, bel.frame _, fun h => by cases h⟩

theorem reads (os : Os) {H : Type} (enc : TypeId × Value → H) : ∃ places, DataW.whole enc Try.prog ((World.holding Try.prog os ⟨#[], #[], []⟩).forCall (fun _ _ => 0) ⟨#[], #[.agg #[.slice none 0 0, .string ByteArray.empty]], []⟩).memory Try.f4.params.toList Rows.fnExactIsValidEntrySpec.vars false (#[.agg #[.slice none 0 0, .string ByteArray.empty]] : Array Value).toList 8 = some ([.agg [.nil, .lit (.string [])]], [], places) :=
  ⟨[], by kernel_rfl⟩

set_option maxRecDepth 100000 in
theorem lifted (os : Os) (started : os.Started) (H : Type) (enc : TypeId × Value → H) (F : Stop.Interp) :
    ReturnsInHanded {} Try.checked os 4 .any ((OpenSpec.ofChange Rows.fnExactIsValidEntrySpec).preRow enc Try.prog Try.f4 Rows.fnExactIsValidEntryRow.domain false Rows.fnExactIsValidEntryRow.laid) (((OpenSpec.ofChange Rows.fnExactIsValidEntrySpec).at F).post enc Try.prog Try.f4 false true false false) := by
  obtain ⟨places, hx⟩ := reads os enc
  refine returnsInHanded_of_row (C := Try.checked) (s := OpenSpec.ofChange Rows.fnExactIsValidEntrySpec) own started (by kernel_rfl) Try.func4
    (witness_row_atRef (enc := enc) (C := Try.checked) false (World.holding Try.prog os ⟨#[], #[], []⟩) #[.agg #[.slice none 0 0, .string ByteArray.empty]] rfl (by kernel_rfl) (by kernel_rfl) (by kernel_rfl)
      (OpenSpec.preRow_of_cond 8 hx (by kernel_rfl) (fun k hk => by cases hk) (by kernel_rfl) ⟨[], rfl, List.nodup_nil, fun b off h => by cases h⟩)) ?_
  intro W base args ds gs before hval hW _ _ _ hL hS _
  exact contract H enc W base args ds gs before hval hW hL hS

theorem said : Rows.FnExactIsValidEntrySaid :=
  OpenClaim.holds_of_cond 4 Try.f4 rfl rfl rfl rfl rfl rfl rfl ⟨rfl, rfl, rfl, rfl, rfl⟩ rfl rfl rfl rfl rfl (by kernel_rfl) Try.func4 (by kernel_rfl)
    (of_decide_eq_true (by kernel_rfl)) (by unfold Func.isWrapper; first | (rw [if_pos (by decide +kernel)]; kernel_rfl) | (rw [if_neg (by decide +kernel)]; exact ⟨rfl, rfl⟩))
    (fun os started H enc _ F => by rw [OpenClaim.pre_eq_preRow]; exact lifted os started H enc F)

theorem proved : Rows.FnExactIsValidEntrySaid := said
#print axioms proved
end Go.Proofs.Ytllmghcemdgohaa.fnExactIsValidEntry
