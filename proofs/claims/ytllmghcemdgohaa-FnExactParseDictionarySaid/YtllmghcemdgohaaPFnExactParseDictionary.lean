/-
  laws.FnExactParseDictionary returns true whatever the string: impl.ParseDictionary answers as the specification, and its answer owns its memory. Conditions: none but the row's own.
-/
import Derived.Test.YtllmghcemdgohaaRows
import Derived.WalkKit
import Derived.ProofKit
import Derived.OpenShut
import Derived.ShutString
import Derived.ChangeOld
import Derived.Below
import Derived.SliceStrings
import Derived.JoinedCond
import Derived.Deep.DeepHandedRow
import Derived.Deep.DeepWitnessRowRef
import Derived.Lib.Hide
import Derived.Test.YtllmghcemdgohaaPDS
import Derived.Test.YtllmghcemdgohaaPD
import Derived.Test.YtllmghcemdgohaaMix
namespace Go.Proofs.Ytllmghcemdgohaa.fnExactParseDictionary
open Go.ChangeShapes Go.WideShapes Go.ChangeAt Go.RowKit
open Go.ChangeMaps (open_string shut_string)
set_option linter.unusedVariables false
set_option maxRecDepth 100000

theorem own : ownKnob Try.prog.godebug = none := by kernel_rfl
theorem laidOut : laidOutB Try.prog = true := by kernel_rfl

theorem parD_small (s : ByteArray) : (parD s).length ≤ 40 ∧ ∀ e ∈ parD s, okE e = true := by
  cases h : parDB s
  · rw [parD_no h]; exact ⟨Nat.zero_le _, fun e he => by cases he⟩
  · rw [parD_yes h]
    have h1 : okD (candP s.data.toList) = true := by
      cases h2 : okD (candP s.data.toList)
      · rw [parDB_bad h2] at h; cases h
      · rfl
    exact ⟨(okD_parts h1).1, (okD_parts h1).2.1⟩
/-! ### THE WALK: the Go text returns true, and writes nothing that was there. -/
set_option maxRecDepth 100000 in
set_option maxHeartbeats 8000000 in
theorem walk (a0 : ByteArray) (w : World) (hS : w.ShapedOpen Try.prog)  (w0 : a0.size ≤ maxLen) :
    Calls Try.prog 10 #[.string a0] w fun e w' => e = .returned (.bool true) ∧ Below w.heap.size w w' := by
  by_cases hbig : 1048576 < a0.size
  · unfold maxLen at w0
    clear hS
    go_enter Try.func10, Try.ntmps10
    go_wp2
    go_ret
    exact ⟨rfl, Below.refl _ _⟩
  · have cs := fun w => specParseD_any a0 w (by omega)
    have ci := fun w => ParseD_any a0 w (by omega)
    obtain ⟨hpl, hpe⟩ := parD_small a0
    obtain ⟨xs, hxs⟩ : ∃ xs, xs = parD a0 := ⟨_, rfl⟩
    obtain ⟨b, hb⟩ : ∃ b, b = parDB a0 := ⟨_, rfl⟩
    rw [← hxs, ← hb] at cs ci
    rw [← hxs] at hpl hpe
    have hsm : ∀ e ∈ xs, e.1.length ≤ 6 := fun e he => (okE_size (hpe e he)).2.1
    have hend : endE 1 xs ≤ 1100000 := by have := endE_le 1 xs 6 hsm; omega
    have hok : ∀ e ∈ xs, entOk e := fun e he => by have := okE_size (hpe e he); exact ⟨by omega, by omega⟩
    have hsm2 : ∀ e ∈ xs, e.1.length ≤ 1100000 := fun e he => by have := hsm e he; omega
    unfold OutD at ci
    have HSp := Lib.hid cs
    have HIm := Lib.hid ci
    have HQ := Lib.hid (fun v u w hv hu => eqD_same v u xs w hv hu (by omega) hok)
    have HM := Lib.hid (fun base S v w h hS hb => markD_any base S v xs w h hend (by omega) hS hb hsm2)
    have HH := Lib.hid (fun base S v w h => heldD_any base S v xs w h hend (by omega) hsm2)
    unfold maxLen at w0
    obtain ⟨E, hE⟩ : ∃ E, E = endE 1 xs := ⟨_, rfl⟩
    rw [← hE] at HM HH
    have hEp : ¬ (E : Int) < 0 := by omega
    have hEE : ((E : Int) != (E : Int)) = false := by simp
    unfold dV at HSp HIm HQ HM HH
    clear cs ci hxs hb hS hpl hpe hsm hend hok hsm2 hE
    go_enter Try.func10, Try.ntmps10
    go_wp2_with fail
    refine (HSp.out _).mono ?_
    rintro e w1 ⟨⟨u, rfl, hu⟩, hb1'⟩
    obtain ⟨ua, uc, rfl, _, _⟩ := hu.cells
    obtain ⟨W1, hW1⟩ : ∃ W1, W1 = w1.alloc (.cells #[.slice ua xs.length uc] 26) := ⟨_, rfl⟩
    have hbA : Below w1.heap.size w1 W1 := by rw [hW1]; exact below_al _ _
    have U1 : Hid (EntsAt W1 (.slice ua xs.length uc) xs) := Lib.hid (hu.below hbA)
    have X1 : Hid (BoxV W1 w1.heap.size 26 (.slice ua xs.length uc)) := by rw [hW1]; exact BoxV.new _ _ _
    have HB1 : Hid (Below w.heap.size w W1) := below_step hb1' hbA
    have HW1 := Lib.hid hW1
    clear hu hb1' hbA hW1
    go_wp2_with fail
    refine (HIm.out _).mono ?_
    rintro e w2 ⟨⟨g, us, rfl, hg, hus⟩, hb2⟩
    rw [← HW1.out] at hg hb2
    have HG : Hid (OwnEs w2 W1.heap.size w2.heap.size g xs) := by rw [← hus]; exact hg.own'
    obtain ⟨ga, gc, rfl, _, _⟩ := HG.out.at.cells
    obtain ⟨W2, hW2⟩ : ∃ W2, W2 = w2.alloc (.cells #[.slice ga xs.length gc] 26) := ⟨_, rfl⟩
    have hbA : Below w2.heap.size w2 W2 := by rw [hW2]; exact below_al _ _
    have hb12 : Below W1.heap.size W1 W2 := below_step hb2 hbA
    have U2 := Lib.hid (U1.out.below hb12)
    have G2 := Lib.hid (HG.out.below hbA)
    have X20 := Lib.hid (X1.out.below hb2 X1.out.lt)
    have X2 := Lib.hid (X1.out.below hb12 X1.out.lt)
    have Y2 : Hid (BoxV W2 w2.heap.size 26 (.slice ga xs.length gc)) := by rw [hW2]; exact BoxV.new _ _ _
    have x2 := X20.out.cell
    have lx2 := X20.out.lt
    have Q2 := Lib.hid (HQ.out _ _ W2 G2.out.at U2.out)
    have HL := Lib.hid X1.out.lt
    have HS2 : Hid (W1.heap.size ≤ w2.heap.size) := hb2.size
    have HS22 : Hid (w2.heap.size ≤ W2.heap.size) := hbA.size
    have HB12 := Lib.hid hb12
    rw [hW2] at Q2
    have HW2 := Lib.hid hW2
    clear hg hus us hb2 hbA hb12 hW2 HG X1 X20 U2
    go_wp2_with fail
    refine Q2.out.mono ?_
    rintro e w3 ⟨rfl, hb3⟩
    rw [← HW2.out] at hb3
    have hb13 : Below W1.heap.size W1 w3 := below_step HB12.out hb3
    have G3 := Lib.hid (G2.out.below hb3)
    have X3 := Lib.hid (X2.out.below hb3 X2.out.lt)
    have Y3 := Lib.hid (Y2.out.below hb3 Y2.out.lt)
    have HB13 := Lib.hid hb13
    have HS3 : Hid (W2.heap.size ≤ w3.heap.size) := hb3.size
    have y3 := Y3.out.cell
    clear hb3 hb13 G2 X2 Y2 HB12 Q2 x2 lx2
    go_wp2_with fail
    refine (HM.out _ _ _ w3 G3.out (by have := HS22.out; have := HS3.out; omega) HB13.out.size).mono ?_
    rintro e w4 ⟨rfl, hO4, hT, hb4⟩
    have G4 := Lib.hid hO4
    have Y4 : Hid (BoxV w4 w2.heap.size 26 (.slice ga xs.length gc)) := (hT.2 _ Y3.out.lt (fun h => by omega)).trans Y3.out
    have X4 := Lib.hid (X3.out.below hb4 HL.out)
    have HB14 : Hid (Below W1.heap.size W1 w4) := HB13.out.trans hb4
    have y4 := Y4.out.cell
    clear hO4 hT hb4 X3 Y3 G3 HB13 y3
    go_wp2_with fail
    refine (HH.out _ _ _ w4 G4.out).mono ?_
    rintro e w5 ⟨rfl, hb5⟩
    have G5 := Lib.hid (G4.out.below hb5)
    have X5 := Lib.hid (X4.out.below hb5 X4.out.lt)
    have Y5 := Lib.hid (Y4.out.below hb5 Y4.out.lt)
    have HB15 := Lib.hid (below_step HB14.out hb5)
    clear hb5 G4 X4 Y4 HB14 y4
    go_wp2_with fail
    refine (HIm.out _).mono ?_
    rintro e w6 ⟨⟨h, us, rfl, hh, hus⟩, hb6⟩
    have H6 : Hid (EntsAt w6 h xs) := by rw [← hus]; exact hh.own'.at
    obtain ⟨ha, hc, rfl, _, _⟩ := H6.out.cells
    obtain ⟨W6, hW6⟩ : ∃ W6, W6 = w6.alloc (.cells #[.slice ha xs.length hc] 26) := ⟨_, rfl⟩
    have hbA : Below w6.heap.size w6 W6 := by rw [hW6]; exact below_al _ _
    have hb56 : Below w5.heap.size w5 W6 := below_step hb6 hbA
    have G6 := Lib.hid (G5.out.below hb56)
    have X60 := Lib.hid (X5.out.below hb6 X5.out.lt)
    have Y6 := Lib.hid (Y5.out.below hb56 Y5.out.lt)
    have HB16 := Lib.hid (below_step HB15.out hb56)
    have x6 := X60.out.cell
    have lx6 := X60.out.lt
    have Q6 := Lib.hid (HQ.out _ _ W6 (H6.out.below hbA) (U1.out.below HB16.out))
    rw [hW6] at Q6
    have HW6 := Lib.hid hW6
    clear hh hus us hb6 hbA hb56 hW6 G5 X5 Y5 HB15 X60 H6
    go_wp2_with fail
    refine Q6.out.mono ?_
    rintro e w7 ⟨rfl, hb7⟩
    rw [← HW6.out] at hb7
    have G7 := Lib.hid (G6.out.below hb7)
    have Y7 := Lib.hid (Y6.out.below hb7 Y6.out.lt)
    have HB7 : Hid (Below w.heap.size w w7) := below_step HB1.out (below_step HB16.out hb7)
    have y7 := Y7.out.cell
    clear hb7 G6 Y6 HB16 Q6 x6 lx6
    go_wp2_with fail
    refine (HH.out _ _ _ w7 G7.out).mono ?_
    rintro e w8 ⟨rfl, hb8⟩
    have HB8 := Lib.hid (below_step HB7.out hb8)
    clear hb8 G7 Y7 HB7 y7
    go_wp2
    go_ret
    exact ⟨rfl, HB8.out⟩

/-! ### THE ROW's STEP -/
set_option maxRecDepth 100000 in
theorem contract (H : Type) (enc : TypeId × Value → H) (W : World) (base : Nat) (args : Array Value) (ds gs : List (DataW H)) (before : List MemPlace)
    (hval : ∀ (j : Nat) t v, Try.f10.params[j]? = some t → args[j]? = some v → Value.okWide Try.prog W .any base t v)
    (hW : DataW.Whole enc Try.prog Try.f10.params.toList Rows.fnExactParseDictionarySpec.vars false W args.toList ds gs before) (hL : laidMetH Try.prog Rows.fnExactParseDictionaryRow.laid W) (hS : W.ShapedOpen Try.prog) :
    Calls Try.prog 10 args W fun e W' => ∃ v, e = .returned v ∧ Rows.fnExactParseDictionarySpec.post enc Try.prog Try.f10 false true false false W args v W' := by
  have hW' := hW
  obtain ⟨p, q, hA0, hV, rfl, hfz, hnd⟩ := hW
  have hA : DataW.TrodAll enc Try.prog W 0 (fun _ => true) true Try.f10.params.toList args.toList ds p := hA0
  rw [Try.params10] at hA hval
  obtain ⟨v0, vs0, d0, ds0, p0, q0, hargs, rfl, rfl, h0, r0⟩ := trodAll_cons hA
  obtain ⟨rfl, rfl, rfl⟩ := trodAll_nil r0
  obtain rfl : args = #[v0] := by cases args; simp_all
  obtain ⟨rfl, rfl⟩ := trodVars_none hV
  have k0 := h0
  have lt0 : ∀ x ∈ p0, x.block < W.heap.size := by obtain ⟨m, hm⟩ := k0; exact DataW.trod_lt m _ _ _ hm
  obtain ⟨a0, rfl, rfl, rfl, w0⟩ := open_string Try.underlying9 (hval 0 9 v0 rfl rfl) h0
  clear hA0 hval
  refine (walk a0 W hS  w0).mono fun e W' ⟨he, bel⟩ => ?_
  subst he
  exact ⟨_, rfl, _, _, _, [], _, [], hW', trodAll_mk1 (shut_bool Try.underlying4 _), (trodAll_cons_mk (Below.trod laidOut (by kernel_rfl) (of_decide_eq_true (by kernel_rfl)) k0 bel lt0) trodAll_mk0), rfl, bel.frame _, fun h => by cases h⟩

theorem reads (os : Os) {H : Type} (enc : TypeId × Value → H) : ∃ places, DataW.whole enc Try.prog ((World.holding Try.prog os ⟨#[], #[], []⟩).forCall (fun _ _ => 0) ⟨#[], #[.string ByteArray.empty], []⟩).memory Try.f10.params.toList Rows.fnExactParseDictionarySpec.vars false (#[.string ByteArray.empty] : Array Value).toList 8 = some ([.lit (.string [])], [], places) :=
  ⟨[], by kernel_rfl⟩

set_option maxRecDepth 100000 in
theorem lifted (os : Os) (started : os.Started) (H : Type) (enc : TypeId × Value → H) (F : Stop.Interp) :
    ReturnsInHanded {} Try.checked os 10 .any ((OpenSpec.ofChange Rows.fnExactParseDictionarySpec).preRow enc Try.prog Try.f10 Rows.fnExactParseDictionaryRow.domain false Rows.fnExactParseDictionaryRow.laid) (((OpenSpec.ofChange Rows.fnExactParseDictionarySpec).at F).post enc Try.prog Try.f10 false true false false) := by
  obtain ⟨places, hx⟩ := reads os enc
  refine returnsInHanded_of_row (C := Try.checked) (s := OpenSpec.ofChange Rows.fnExactParseDictionarySpec) own started (by kernel_rfl) Try.func10
    (witness_row_atRef (enc := enc) (C := Try.checked) false (World.holding Try.prog os ⟨#[], #[], []⟩) #[.string ByteArray.empty] rfl (by kernel_rfl) (by kernel_rfl) (by kernel_rfl)
      (OpenSpec.preRow_of_cond 8 hx (by kernel_rfl) (fun k hk => by cases hk) (by kernel_rfl) ⟨[], rfl, List.nodup_nil, fun b off h => by cases h⟩)) ?_
  intro W base args ds gs before hval hW _ _ _ hL hS _
  exact contract H enc W base args ds gs before hval hW hL hS

theorem said : Rows.FnExactParseDictionarySaid :=
  OpenClaim.holds_of_cond 10 Try.f10 rfl rfl rfl rfl rfl rfl rfl ⟨rfl, rfl, rfl, rfl, rfl⟩ rfl rfl rfl rfl rfl (by kernel_rfl) Try.func10 (by kernel_rfl)
    (of_decide_eq_true (by kernel_rfl)) (by unfold Func.isWrapper; first | (rw [if_pos (by decide +kernel)]; kernel_rfl) | (rw [if_neg (by decide +kernel)]; exact ⟨rfl, rfl⟩))
    (fun os started H enc _ F => by rw [OpenClaim.pre_eq_preRow]; exact lifted os started H enc F)

theorem proved : Rows.FnExactParseDictionarySaid := said
#print axioms proved
end Go.Proofs.Ytllmghcemdgohaa.fnExactParseDictionary
