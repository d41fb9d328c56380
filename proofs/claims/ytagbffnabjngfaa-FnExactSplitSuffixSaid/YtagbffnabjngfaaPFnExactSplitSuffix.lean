/-
  laws.FnExactSplitSuffix returns true whatever the two strings: impl.SplitSuffix answers as the specification, and its answer owns its memory. Conditions: none but the row's own.
-/
import Derived.Test.YtagbffnabjngfaaRows
import Derived.WalkKit
import Derived.ProofKit
import Derived.OpenShut
import Derived.ShutString
import Derived.ChangeOld
import Derived.Below
import Derived.SliceStrings
import Derived.JoinedCond
import Derived.Deep.DeepHandedRow
import Derived.Deep.DeepWitnessRowRef
import Derived.Lib.Hide
import Derived.Test.YtagbffnabjngfaaSplS9
import Derived.Test.YtagbffnabjngfaaMark
namespace Go.Proofs.Ytagbffnabjngfaa.fnExactSplitSuffix
open Go.ChangeShapes Go.WideShapes Go.ChangeAt Go.RowKit
open Go.ChangeMaps (open_string shut_string)
set_option linter.unusedVariables false
set_option maxRecDepth 100000

theorem own : ownKnob Try.prog.godebug = none := by kernel_rfl
theorem laidOut : laidOutB Try.prog = true := by kernel_rfl

/-- BOTH SPLITS GIVE THE SAME WORDS AND THE SAME FLAG. -/
theorem split_both (s f : ByteArray) (hs : s.size ≤ 1048576) (hf : f.size ≤ 1048576) :
    ∃ (xs : List ByteArray) (b : Bool), xs.length ≤ 4001 ∧
      (∀ w, Calls Try.prog 13 #[.string s, .string f] w fun e w' => (∃ v, e = .returned (.tuple #[v, .bool b]) ∧ StrsAt w' v xs) ∧ Below w.heap.size w w') ∧
      (∀ w, Calls Try.prog 12 #[.string s, .string f] w fun e w' => (∃ v, e = .returned (.tuple #[v, .bool b]) ∧ w'.ownsRow w.heap.size 9 1 v xs.length (xs.map .string)) ∧ Below w.heap.size w w') := by
  refine ⟨(splitL s.data.toList f.data.toList).map ofL, _, ?_, fun w => (specSplitSuffix_any s f w (by omega) (by omega)).mono fun e w' ⟨⟨v, he, hv⟩, hb⟩ => ⟨⟨v, he, hv.at⟩, hb⟩, fun w => (SplitSuffix_any s f w (by omega) (by omega)).mono fun e w' ⟨⟨v, he, hv⟩, hb⟩ => ⟨⟨v, he, ?_⟩, hb⟩⟩
  · rw [List.length_map]; have := splitL_len s.data.toList f.data.toList; omega
  · rw [List.length_map, List.map_map]; exact hv
/-! ### THE WALK: the Go text returns true, and writes nothing that was there. -/
set_option maxRecDepth 100000 in
set_option maxHeartbeats 8000000 in
theorem walk (a0 : ByteArray) (a1 : ByteArray) (w : World) (hS : w.ShapedOpen Try.prog)  (w0 : a0.size ≤ maxLen) (w1 : a1.size ≤ maxLen) :
    Calls Try.prog 9 #[.string a0, .string a1] w fun e w' => e = .returned (.bool true) ∧ Below w.heap.size w w' := by
  unfold maxLen at w0 w1
  by_cases hbig : a0.size ≤ 1048576 ∧ a1.size ≤ 1048576
  · obtain ⟨hb0, hb1⟩ := hbig
    obtain ⟨xs, b, hlen, hSp, hIm⟩ := split_both a0 a1 hb0 hb1
    have HSp := Lib.hid hSp
    have HIm := Lib.hid hIm
    have HQ := Lib.hid (fun v u w hv hu => eq_same v u xs w hv hu (by omega))
    have HM := Lib.hid (fun base v f w h hb => mark_any base v xs.length f w h hb (by omega))
    have HH := Lib.hid (fun base v w h => held_any base v xs.length w h (by omega))
    obtain ⟨n, hn⟩ : ∃ n, n = xs.length := ⟨_, rfl⟩
    rw [← hn] at HM HH hlen
    have HN := Lib.hid hn
    clear hSp hIm hS hn
    go_enter Try.func9, Try.ntmps9
    go_wp2_with fail
    refine (HSp.out _).mono ?_
    rintro e w1 ⟨⟨u, rfl, hu⟩, hb1'⟩
    have HU := Lib.hid hu
    clear hu
    go_wp2_with fail
    refine (HIm.out _).mono ?_
    rintro e w2 ⟨⟨g, rfl, hg⟩, hb2⟩
    have HG := Lib.hid hg
    have hb02 := hb1'.trans (hb2.mono hb1'.size)
    clear hg
    go_wp2_with fail
    refine (HQ.out _ _ _ (ownsRow_at HG.out) (HU.out.below hb2)).mono ?_
    rintro e w3 ⟨rfl, hb3⟩
    have hb13 : Below w1.heap.size w1 w3 := hb2.trans (hb3.mono hb2.size)
    have HO : Hid (OwnStrs w3 w1.heap.size g n (fun j => xs.getD j ByteArray.empty)) := by
      have h := (ownStrs_of HG.out).below hb3
      rw [← HN.out] at h
      exact h
    go_wp2_with fail
    refine (HM.out _ _ _ _ HO.out hb13.size).mono ?_
    rintro e w4 ⟨rfl, hO4, hb4⟩
    have HO4 := Lib.hid hO4
    have hb14 : Below w1.heap.size w1 w4 := hb13.trans hb4
    clear hO4
    go_wp2_with fail
    refine (HH.out _ _ _ HO4.out).mono ?_
    rintro e w5 ⟨rfl, hb5⟩
    have hb15 : Below w1.heap.size w1 w5 := hb14.trans (hb5.mono hb14.size)
    go_wp2_with fail
    refine (HIm.out _).mono ?_
    rintro e w6 ⟨⟨h, rfl, hh⟩, hb6⟩
    have HHv := Lib.hid hh
    have hb16 : Below w1.heap.size w1 w6 := hb15.trans (hb6.mono hb15.size)
    clear hh
    go_wp2_with fail
    refine (HQ.out _ _ _ (ownsRow_at HHv.out) (HU.out.below hb16)).mono ?_
    rintro e w7 ⟨rfl, hb7⟩
    have hb17 : Below w1.heap.size w1 w7 := hb16.trans (hb7.mono hb16.size)
    have HO7 : Hid (OwnStrs w7 w1.heap.size g n (fun j => markB (1 + j))) := ((HO4.out.below hb5).below hb6).below hb7
    go_wp2_with fail
    refine (HH.out _ _ _ HO7.out).mono ?_
    rintro e w8 ⟨rfl, hb8⟩
    have hb08 : Below w.heap.size w w8 := hb1'.trans ((hb17.trans (hb8.mono hb17.size)).mono hb1'.size)
    go_wp2
    go_ret
    exact ⟨rfl, hb08⟩
  · clear hS
    by_cases h0 : a0.size ≤ 1048576
    · have h1 : 1048576 < a1.size := by omega
      clear hbig
      go_enter Try.func9, Try.ntmps9
      go_wp2
      go_ret
      exact ⟨rfl, Below.refl _ _⟩
    · clear hbig
      go_enter Try.func9, Try.ntmps9
      go_wp2
      go_ret
      exact ⟨rfl, Below.refl _ _⟩

/-! ### THE ROW's STEP -/
set_option maxRecDepth 100000 in
theorem contract (H : Type) (enc : TypeId × Value → H) (W : World) (base : Nat) (args : Array Value) (ds gs : List (DataW H)) (before : List MemPlace)
    (hval : ∀ (j : Nat) t v, Try.f9.params[j]? = some t → args[j]? = some v → Value.okWide Try.prog W .any base t v)
    (hW : DataW.Whole enc Try.prog Try.f9.params.toList Rows.fnExactSplitSuffixSpec.vars false W args.toList ds gs before) (hL : laidMetH Try.prog Rows.fnExactSplitSuffixRow.laid W) (hS : W.ShapedOpen Try.prog) :
    Calls Try.prog 9 args W fun e W' => ∃ v, e = .returned v ∧ Rows.fnExactSplitSuffixSpec.post enc Try.prog Try.f9 false true false false W args v W' := by
  have hW' := hW
  obtain ⟨p, q, hA0, hV, rfl, hfz, hnd⟩ := hW
  have hA : DataW.TrodAll enc Try.prog W 0 (fun _ => true) true Try.f9.params.toList args.toList ds p := hA0
  rw [Try.params9] at hA hval
  obtain ⟨v0, vs0, d0, ds0, p0, q0, hargs, rfl, rfl, h0, r0⟩ := trodAll_cons hA
  obtain ⟨v1, vs1, d1, ds1, p1, q1, rfl, rfl, rfl, h1, r1⟩ := trodAll_cons r0
  obtain ⟨rfl, rfl, rfl⟩ := trodAll_nil r1
  obtain rfl : args = #[v0, v1] := by cases args; simp_all
  obtain ⟨rfl, rfl⟩ := trodVars_none hV
  have k0 := h0
  have lt0 : ∀ x ∈ p0, x.block < W.heap.size := by obtain ⟨m, hm⟩ := k0; exact DataW.trod_lt m _ _ _ hm
  obtain ⟨a0, rfl, rfl, rfl, w0⟩ := open_string Try.underlying9 (hval 0 9 v0 rfl rfl) h0
  have k1 := h1
  have lt1 : ∀ x ∈ p1, x.block < W.heap.size := by obtain ⟨m, hm⟩ := k1; exact DataW.trod_lt m _ _ _ hm
  obtain ⟨a1, rfl, rfl, rfl, w1⟩ := open_string Try.underlying9 (hval 1 9 v1 rfl rfl) h1
  clear hA0 hval
  refine (walk a0 a1 W hS  w0 w1).mono fun e W' ⟨he, bel⟩ => ?_
  subst he
  exact ⟨_, rfl, _, _, _, [], _, [], hW', trodAll_mk1 (shut_bool Try.underlying4 _), (trodAll_cons_mk (Below.trod laidOut (by kernel_rfl) (of_decide_eq_true (by kernel_rfl)) k0 bel lt0) (trodAll_cons_mk (Below.trod laidOut (by kernel_rfl) (of_decide_eq_true (by kernel_rfl)) k1 bel lt1) trodAll_mk0)), rfl, bel.frame _, fun h => by cases h⟩

theorem reads (os : Os) {H : Type} (enc : TypeId × Value → H) : ∃ places, DataW.whole enc Try.prog ((World.holding Try.prog os ⟨#[], #[], []⟩).forCall (fun _ _ => 0) ⟨#[], #[.string ByteArray.empty, .string ByteArray.empty], []⟩).memory Try.f9.params.toList Rows.fnExactSplitSuffixSpec.vars false (#[.string ByteArray.empty, .string ByteArray.empty] : Array Value).toList 8 = some ([.lit (.string []), .lit (.string [])], [], places) :=
  ⟨[], by kernel_rfl⟩

set_option maxRecDepth 100000 in
theorem lifted (os : Os) (started : os.Started) (H : Type) (enc : TypeId × Value → H) (F : Stop.Interp) :
    ReturnsInHanded {} Try.checked os 9 .any ((OpenSpec.ofChange Rows.fnExactSplitSuffixSpec).preRow enc Try.prog Try.f9 Rows.fnExactSplitSuffixRow.domain false Rows.fnExactSplitSuffixRow.laid) (((OpenSpec.ofChange Rows.fnExactSplitSuffixSpec).at F).post enc Try.prog Try.f9 false true false false) := by
  obtain ⟨places, hx⟩ := reads os enc
  refine returnsInHanded_of_row (C := Try.checked) (s := OpenSpec.ofChange Rows.fnExactSplitSuffixSpec) own started (by kernel_rfl) Try.func9
    (witness_row_atRef (enc := enc) (C := Try.checked) false (World.holding Try.prog os ⟨#[], #[], []⟩) #[.string ByteArray.empty, .string ByteArray.empty] rfl (by kernel_rfl) (by kernel_rfl) (by kernel_rfl)
      (OpenSpec.preRow_of_cond 8 hx (by kernel_rfl) (fun k hk => by cases hk) (by kernel_rfl) ⟨[], rfl, List.nodup_nil, fun b off h => by cases h⟩)) ?_
  intro W base args ds gs before hval hW _ _ _ hL hS _
  exact contract H enc W base args ds gs before hval hW hL hS

theorem said : Rows.FnExactSplitSuffixSaid :=
  OpenClaim.holds_of_cond 9 Try.f9 rfl rfl rfl rfl rfl rfl rfl ⟨rfl, rfl, rfl, rfl, rfl⟩ rfl rfl rfl rfl rfl (by kernel_rfl) Try.func9 (by kernel_rfl)
    (of_decide_eq_true (by kernel_rfl)) (by unfold Func.isWrapper; first | (rw [if_pos (by decide +kernel)]; kernel_rfl) | (rw [if_neg (by decide +kernel)]; exact ⟨rfl, rfl⟩))
    (fun os started H enc _ F => by rw [OpenClaim.pre_eq_preRow]; exact lifted os started H enc F)

theorem proved : Rows.FnExactSplitSuffixSaid := said
#print axioms proved
end Go.Proofs.Ytagbffnabjngfaa.fnExactSplitSuffix
