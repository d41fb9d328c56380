/-
  laws.FnExactIsValidStack returns true whatever the stack: impl.IsValidStack answers as the specification and leaves its argument. Conditions: none but the row's own.
-/
import Derived.Test.YtmpcdhoigepdpaaRows
import Derived.WalkKit
import Derived.ProofKit
import Derived.OpenShut
import Derived.ShutString
import Derived.ChangeOld
import Derived.Below
import Derived.SliceStrings
import Derived.JoinedCond
import Derived.Deep.DeepHandedRow
import Derived.Deep.DeepWitnessRowRef
import Derived.Lib.Hide
import Derived.Test.YtmpcdhoigepdpaaStk
namespace Go.Proofs.Ytmpcdhoigepdpaa.fnExactIsValidStack
open Go.ChangeShapes Go.WideShapes Go.ChangeAt Go.RowKit
open Go.ChangeMaps (open_string shut_string)
set_option linter.unusedVariables false
set_option maxRecDepth 100000

theorem own : ownKnob Try.prog.godebug = none := by kernel_rfl
theorem laidOut : laidOutB Try.prog = true := by kernel_rfl

/-! ### THE WALK: the Go text returns true, and writes nothing that was there. -/
set_option maxRecDepth 100000 in
set_option maxHeartbeats 8000000 in
theorem walk (u0 : Value) (d0 : List Lay) (w : World) (hS : w.ShapedOpen Try.prog)  (w0 : LaysIn w u0 d0) :
    Calls Try.prog 4 #[dV u0] w fun e w' => e = .returned (.bool true) ∧ Below w.heap.size w w' := by
  obtain ⟨hat, hlen, hfine⟩ := w0
  have CZ := Lib.hid (fun w' hb => szS_any u0 d0 w' ⟨hat.below (w' := w') hb, hlen, hfine⟩)
  have CT := Lib.hid (fun hn hx w' hb => toS_any u0 d0 w' (hat.below (w' := w') hb) hn hx)
  have cs := fun u w h hn hx => specIsValidStack_any u d0 w h hn hx
  have ci := fun u w h hn hx => ValidK_any u d0 w h hn hx
  have CE := Lib.hid (fun u v w h h' hn hx => eqS_same u v d0 w h h' hn hx)
  obtain ⟨a, cap, rfl, hcap, _⟩ := hat.cells
  obtain ⟨b, hX⟩ : ∃ b, b = okK d0 := ⟨_, rfl⟩
  rw [← hX] at cs ci
  have CS := Lib.hid cs
  have CI := Lib.hid ci
  obtain ⟨n, hnn⟩ : ∃ n, n = d0.length := ⟨_, rfl⟩
  have HN := Lib.hid hnn
  unfold dV at CZ CT CS CI CE ⊢
  rw [← hnn] at CZ CT CS CI CE hcap ⊢
  clear cs ci hat hS hlen hfine hX hnn
  go_enter Try.func4, Try.ntmps4
  go_wp2_with fail
  refine (CZ.out _ (below_al _ _)).mono ?_
  rintro r w1 ⟨⟨q, rfl, hq⟩, hb⟩
  have A1 : Hid (BoxV w1 w.heap.size 42 (.slice a n cap)) := (BoxV.new w _ _).below hb (by simp)
  have HB1 := Lib.hid (below_box hb)
  clear hb
  rcases hq with rfl | ⟨hq0, hn, hx⟩
  · go_wp2
    go_ret
    exact ⟨rfl, HB1.out⟩
  · have hnq : ¬ q < 0 := by omega
    have CT1 := Lib.hid (CT.out hn hx)
    have CS1 := Lib.hid (fun u w h => CS.out u w h (by omega) (fun e he => (hx e he).ok))
    have CI1 := Lib.hid (fun u w h => CI.out u w h (by omega) (fun e he => (hx e he).ok))
    have CE1 := Lib.hid (fun u v w h h' => CE.out u v w h h' (by omega) (fun e he => (hx e he).ok))
    have c1 := A1.out.cell
    clear CT CS CI CE CZ hx hn hq0
    go_wp2_with fail
    refine (CT1.out w1 HB1.out).mono ?_
    rintro r w2 ⟨⟨u2, rfl, hu2⟩, hb⟩
    have U2 := Lib.hid hu2.at
    have A2 := Lib.hid (A1.out.below hb A1.out.lt)
    have HB2 := Lib.hid (below_step HB1.out hb)
    obtain ⟨ua2, uc2, rfl, _, _⟩ := hu2.at.cells
    rw [← HN.out] at U2
    rw [← HN.out]
    clear hb hu2 A1 HB1 c1
    go_wp2_with fail
    refine (CS1.out _ w2 U2.out).mono ?_
    rintro r w3 ⟨rfl, hb⟩
    have A3 := Lib.hid (A2.out.below hb A2.out.lt)
    have HB3 := Lib.hid (below_step HB2.out hb)
    have c3 := A3.out.cell
    clear hb A2 HB2 U2
    go_wp2_with fail
    refine (CT1.out w3 HB3.out).mono ?_
    rintro r w4 ⟨⟨u4, rfl, hu4⟩, hb⟩
    obtain ⟨ua4, uc4, rfl, _, _⟩ := hu4.at.cells
    have U4 : Hid (LaysAt (w4.alloc (.cells #[.slice ua4 n uc4] 47)) (.slice ua4 n uc4) d0) := by have := hu4.at; rw [← HN.out] at this; exact this.below (below_al _ _)
    have A4 : Hid (BoxV (w4.alloc (.cells #[.slice ua4 n uc4] 47)) w.heap.size 42 (.slice a n cap)) := (A3.out.below hb A3.out.lt).below (below_al _ _) (by have := A3.out.lt; have := hb.size; omega)
    have X4 : Hid (BoxV (w4.alloc (.cells #[.slice ua4 n uc4] 47)) w4.heap.size 47 (.slice ua4 n uc4)) := BoxV.new _ _ _
    have HB4 : Hid (Below w.heap.size w (w4.alloc (.cells #[.slice ua4 n uc4] 47))) := below_step (below_step HB3.out hb) (below_al _ _)
    rw [← HN.out]
    clear hb hu4 A3 HB3 c3
    go_wp2_with fail
    refine (CI1.out _ _ U4.out).mono ?_
    rintro r w5 ⟨rfl, hb⟩
    have A5 := Lib.hid (A4.out.below hb A4.out.lt)
    have X5 := Lib.hid (X4.out.below hb X4.out.lt)
    have U5 := Lib.hid (U4.out.below hb)
    have HB5 := Lib.hid (below_step HB4.out hb)
    have c5 := A5.out.cell
    have x5 := X5.out.cell
    clear hb A4 X4 U4 HB4
    go_wp2_with fail
    go_region_with (first
      | (go_at_call 18
         refine (CT1.out _ (by repeat (first | exact HB5.out | apply Below.drew))).mono ?_
         rintro r w6 ⟨⟨u6, rfl, hu6⟩, hb⟩
         have hbx : Below w5.heap.size w5 w6 := Below.trans (by repeat (first | exact Below.refl _ _ | apply Below.drew)) hb
         have HU6 := Lib.hid hu6.at
         have HBX := Lib.hid hbx
         have x6 := (X5.out.below hbx X5.out.lt).cell
         obtain ⟨ua6, uc6, rfl, _, _⟩ := hu6.at.cells
         rw [← HN.out]
         rw [← HN.out] at HU6
         clear hu6 hb hbx)
      | (go_at_call 20
         refine (CE1.out _ _ _ ((U5.out.below HBX.out).below (by repeat (first | exact Below.refl _ _ | apply Below.drew))) (HU6.out.below (by repeat (first | exact Below.refl _ _ | apply Below.drew)))).mono ?_
         rintro r w7 ⟨rfl, hb⟩
         have HB7 : Hid (Below w.heap.size w w7) := below_step (below_step HB5.out HBX.out) (Below.trans (by repeat (first | exact Below.refl _ _ | apply Below.drew)) hb)
         clear hb))
    all_goals go_wp2
    all_goals go_ret
    all_goals exact ⟨rfl, by repeat (first | exact HB7.out | apply Below.drew)⟩

/-! ### THE ROW's STEP -/
set_option maxRecDepth 100000 in
theorem contract (H : Type) (enc : TypeId × Value → H) (W : World) (base : Nat) (args : Array Value) (ds gs : List (DataW H)) (before : List MemPlace)
    (hval : ∀ (j : Nat) t v, Try.f4.params[j]? = some t → args[j]? = some v → Value.okWide Try.prog W .any base t v)
    (hW : DataW.Whole enc Try.prog Try.f4.params.toList Rows.fnExactIsValidStackSpec.vars false W args.toList ds gs before) (hL : laidMetH Try.prog Rows.fnExactIsValidStackRow.laid W) (hS : W.ShapedOpen Try.prog) :
    Calls Try.prog 4 args W fun e W' => ∃ v, e = .returned v ∧ Rows.fnExactIsValidStackSpec.post enc Try.prog Try.f4 false true false false W args v W' := by
  have hW' := hW
  obtain ⟨p, q, hA0, hV, rfl, hfz, hnd⟩ := hW
  have hA : DataW.TrodAll enc Try.prog W 0 (fun _ => true) true Try.f4.params.toList args.toList ds p := hA0
  rw [Try.params4] at hA hval
  obtain ⟨v0, vs0, d0, ds0, p0, q0, hargs, rfl, rfl, h0, r0⟩ := trodAll_cons hA
  obtain ⟨rfl, rfl, rfl⟩ := trodAll_nil r0
  obtain rfl : args = #[v0] := by cases args; simp_all
  obtain ⟨rfl, rfl⟩ := trodVars_none hV
  have k0 := h0
  have lt0 : ∀ x ∈ p0, x.block < W.heap.size := by obtain ⟨m, hm⟩ := k0; exact DataW.trod_lt m _ _ _ hm
  obtain ⟨u0, d0, rfl, w0⟩ := open_stackV Try.underlying42 (by kernel_rfl) (by kernel_rfl) ⟨rfl, rfl⟩ Try.underlying40 Try.underlying123 (by kernel_rfl) (by kernel_rfl) (by kernel_rfl) ⟨rfl, rfl⟩ ⟨rfl, rfl⟩ Try.underlying121 (by kernel_rfl) ⟨rfl, rfl⟩ Try.underlying4 Try.underlying119 Try.underlying160 (by kernel_rfl) (by kernel_rfl) (by kernel_rfl) (by kernel_rfl) ⟨rfl, rfl⟩ ⟨rfl, rfl⟩ Try.underlying36 Try.underlying3 Try.underlying9 (hval 0 42 v0 rfl rfl) h0
  clear hA0 hval
  refine (walk u0 d0 W hS  w0).mono fun e W' ⟨he, bel⟩ => ?_
  subst he
  exact ⟨_, rfl, _, _, _, [], _, [], hW', trodAll_mk1 (shut_bool Try.underlying4 _), (trodAll_cons_mk (Below.trod laidOut (by kernel_rfl) (of_decide_eq_true (by kernel_rfl)) k0 bel lt0) trodAll_mk0), rfl, bel.frame _, fun h => by cases h⟩

theorem reads (os : Os) {H : Type} (enc : TypeId × Value → H) : ∃ places, DataW.whole enc Try.prog ((World.holding Try.prog os ⟨#[], #[], []⟩).forCall (fun _ _ => 0) ⟨#[], #[.agg #[.slice none 0 0]], []⟩).memory Try.f4.params.toList Rows.fnExactIsValidStackSpec.vars false (#[.agg #[.slice none 0 0]] : Array Value).toList 8 = some ([.agg [.nil]], [], places) :=
  ⟨[], by kernel_rfl⟩

set_option maxRecDepth 100000 in
theorem lifted (os : Os) (started : os.Started) (H : Type) (enc : TypeId × Value → H) (F : Stop.Interp) :
    ReturnsInHanded {} Try.checked os 4 .any ((OpenSpec.ofChange Rows.fnExactIsValidStackSpec).preRow enc Try.prog Try.f4 Rows.fnExactIsValidStackRow.domain false Rows.fnExactIsValidStackRow.laid) (((OpenSpec.ofChange Rows.fnExactIsValidStackSpec).at F).post enc Try.prog Try.f4 false true false false) := by
  obtain ⟨places, hx⟩ := reads os enc
  refine returnsInHanded_of_row (C := Try.checked) (s := OpenSpec.ofChange Rows.fnExactIsValidStackSpec) own started (by kernel_rfl) Try.func4
    (witness_row_atRef (enc := enc) (C := Try.checked) false (World.holding Try.prog os ⟨#[], #[], []⟩) #[.agg #[.slice none 0 0]] rfl (by kernel_rfl) (by kernel_rfl) (by kernel_rfl)
      (OpenSpec.preRow_of_cond 8 hx (by kernel_rfl) (fun k hk => by cases hk) (by kernel_rfl) ⟨[], rfl, List.nodup_nil, fun b off h => by cases h⟩)) ?_
  intro W base args ds gs before hval hW _ _ _ hL hS _
  exact contract H enc W base args ds gs before hval hW hL hS

theorem said : Rows.FnExactIsValidStackSaid :=
  OpenClaim.holds_of_cond 4 Try.f4 rfl rfl rfl rfl rfl rfl rfl ⟨rfl, rfl, rfl, rfl, rfl⟩ rfl rfl rfl rfl rfl (by kernel_rfl) Try.func4 (by kernel_rfl)
    (of_decide_eq_true (by kernel_rfl)) (by unfold Func.isWrapper; first | (rw [if_pos (by decide +kernel)]; kernel_rfl) | (rw [if_neg (by decide +kernel)]; exact ⟨rfl, rfl⟩))
    (fun os started H enc _ F => by rw [OpenClaim.pre_eq_preRow]; exact lifted os started H enc F)

theorem proved : Rows.FnExactIsValidStackSaid := said
#print axioms proved
end Go.Proofs.Ytmpcdhoigepdpaa.fnExactIsValidStack
