/-
  laws.FnExactIsValidOutline returns true whatever the list of ints: impl.IsValidOutline answers as the specification and leaves its argument. Conditions: none but the row's own.
-/
import Derived.Test.YtkhklidpighmpaaRows
import Derived.WalkKit
import Derived.ProofKit
import Derived.OpenShut
import Derived.ShutString
import Derived.ChangeOld
import Derived.Below
import Derived.SliceStrings
import Derived.JoinedCond
import Derived.Deep.DeepHandedRow
import Derived.Deep.DeepWitnessRowRef
import Derived.Lib.Hide
import Derived.Test.YtkhklidpighmpaaImpl4C
import Derived.Test.YtkhklidpighmpaaImpl4
namespace Go.Proofs.Ytkhklidpighmpaa.fnExactIsValidOutline
open Go.ChangeShapes Go.WideShapes Go.ChangeAt Go.RowKit
open Go.ChangeMaps (open_string shut_string)
set_option linter.unusedVariables false
set_option maxRecDepth 100000

theorem own : ownKnob Try.prog.godebug = none := by kernel_rfl
theorem laidOut : laidOutB Try.prog = true := by kernel_rfl

/-- A slice of integers that came in. -/
def IsRow (k : IntKind) (w : World) (a : Option Addr) (len cap : Nat) (zs : List Int) : Prop :=
  (a = none ∧ len = 0 ∧ cap = 0 ∧ zs = []) ∨
  ∃ x, a = some x ∧ len ≤ cap ∧ cap ≤ maxLen ∧ zs.length = cap ∧ (∀ i, i < zs.length → w.cell? (x.add i) = some (.int k (zs.getD i 0))) ∧ ∀ n ∈ zs, (Lit.int k n).wf = true

theorem ints_of {w : World} {a : Option Addr} {n c : Nat} {z : List Int} (h : IsRow .i64 w a n c z) : (z.take n).length = n ∧ n ≤ maxLen ∧ IntsAt w (.slice a n c) (z.take n) := by
  rcases h with ⟨rfl, rfl, rfl, rfl⟩ | ⟨x, rfl, hl, hm, hs, hcell, hz⟩
  · exact ⟨rfl, by decide, IntsAt.nil _ _ _⟩
  · have hlen : (z.take n).length = n := by rw [List.length_take]; omega
    refine ⟨hlen, by omega, ?_⟩
    by_cases h0 : n = 0
    · subst h0; exact IntsAt.nil _ _ _
    · obtain ⟨b, o, spot⟩ := x
      have h1 := hcell 0 (by omega)
      have hspot : spot = none := by simpa [Addr.add] using World.cell?_spot h1
      subst hspot
      refine ⟨_, c, by rw [hlen], by rw [hlen]; exact hl, .inr ⟨b, o, rfl, ?_, fun j y hy => ?_⟩⟩
      · have : (w.cell? ⟨b, o, none⟩).isSome := by have := h1; simp [Addr.add] at this; rw [this]; rfl
        rcases Nat.lt_or_ge b w.heap.size with h' | h'
        · exact h'
        · simp [World.cell?, Array.getElem?_eq_none h'] at this
      · have hj : j < n := by
          rcases Nat.lt_or_ge j n with h' | h'
          · exact h'
          · rw [List.getElem?_eq_none (by rw [hlen]; exact h')] at hy; cases hy
        have h2 := hcell j (by omega)
        rw [List.getElem?_take_of_lt hj] at hy
        by_cases hj0 : j = 0
        · subst hj0; simpa [Addr.add, List.getD, hy] using h2
        · simpa [Addr.add, List.getD, hy, hj0] using h2
/-! ### THE WALK: the Go text returns true, and writes nothing that was there. -/
set_option maxRecDepth 100000 in
set_option maxHeartbeats 8000000 in
theorem walk (a0 : Option Addr) (n0 c0 : Nat) (z0 : List Int) (w : World) (hS : w.ShapedOpen Try.prog)  (w0 : IsRow .i64 w a0 n0 c0 z0) :
    Calls Try.prog 5 #[.slice a0 n0 c0] w fun e w' => e = .returned (.bool true) ∧ Below w.heap.size w w' := by
  obtain ⟨hlen0, hnm0, hrow0⟩ := ints_of w0
  obtain ⟨xs, hzs0⟩ : ∃ xs, xs = z0.take n0 := ⟨_, rfl⟩
  rw [← hzs0] at hlen0 hrow0
  unfold maxLen at hnm0
  clear w0 hzs0
  clear hS
  by_cases hbig : 1048576 < n0
  · clear hlen0 hrow0
    go_enter Try.func5, Try.ntmps5
    go_wp2
    go_ret
    exact ⟨rfl, Below.refl _ _⟩
  · have CT := Lib.hid (fun v w h => toI_any v xs w h (by omega))
    have cs := fun v w h => specIsValidOutline_any v xs w h (by omega)
    have ci := fun v w h => impl4.valid v xs w h (by omega)
    have CQ := Lib.hid (fun v u w hv hu => eqI_same v u xs w hv hu (by omega))
    obtain ⟨R, hR⟩ : ∃ R, R = okO xs := ⟨_, rfl⟩
    rw [← hR] at cs ci
    clear hR
    have CS := Lib.hid cs
    have CI := Lib.hid ci
    have HR := Lib.hid hrow0
    clear hlen0 hrow0 cs ci
    go_enter Try.func5, Try.ntmps5
    go_wp2_with fail
    refine (CT.out _ _ HR.out).mono ?_
    rintro e w1 ⟨u1, rfl, hu1, hb1⟩
    have HU_1 := Lib.hid hu1
    have HB1 := Lib.hid hb1
    clear hu1 hb1
    go_wp2_with fail
    refine (CS.out _ _ HU_1.out).mono ?_
    rintro e w2 ⟨rfl, rfl⟩
    go_wp2_with fail
    refine (CT.out _ _ (HR.out.below HB1.out)).mono ?_
    rintro e w2 ⟨u3, rfl, hu2, hb2⟩
    have HX_2 := Lib.hid hu2
    have HB2 := Lib.hid (HB1.out.trans (hb2.mono HB1.out.size))
    clear hu2 hb2
    go_wp2_with fail
    refine (CI.out _ _ HX_2.out).mono ?_
    rintro e w3 ⟨rfl, hb3⟩
    have HX_3 := Lib.hid (HX_2.out.below hb3)
    have HB3 := Lib.hid (HB2.out.trans (hb3.mono HB2.out.size))
    clear hb3
    go_wp2_with fail
    refine (CT.out _ _ (HR.out.below HB3.out)).mono ?_
    rintro e w4 ⟨u5, rfl, hu4, hb4⟩
    have HX_4 := Lib.hid (HX_3.out.below hb4)
    have HY_4 := Lib.hid hu4
    have HB4 := Lib.hid (HB3.out.trans (hb4.mono HB3.out.size))
    clear hu4 hb4
    go_wp2_with fail
    refine (CQ.out _ _ _ HX_4.out HY_4.out).mono ?_
    rintro e w5 ⟨rfl, hb5⟩
    have HX_5 := Lib.hid (HX_4.out.below hb5)
    have HY_5 := Lib.hid (HY_4.out.below hb5)
    have HB5 := Lib.hid (HB4.out.trans (hb5.mono HB4.out.size))
    clear hb5
    go_wp2
    go_ret
    exact ⟨rfl, HB5.out⟩

/-! ### THE ROW's STEP -/
set_option maxRecDepth 100000 in
theorem contract (H : Type) (enc : TypeId × Value → H) (W : World) (base : Nat) (args : Array Value) (ds gs : List (DataW H)) (before : List MemPlace)
    (hval : ∀ (j : Nat) t v, Try.f5.params[j]? = some t → args[j]? = some v → Value.okWide Try.prog W .any base t v)
    (hW : DataW.Whole enc Try.prog Try.f5.params.toList Rows.fnExactIsValidOutlineSpec.vars false W args.toList ds gs before) (hL : laidMetH Try.prog Rows.fnExactIsValidOutlineRow.laid W) (hS : W.ShapedOpen Try.prog) :
    Calls Try.prog 5 args W fun e W' => ∃ v, e = .returned v ∧ Rows.fnExactIsValidOutlineSpec.post enc Try.prog Try.f5 false true false false W args v W' := by
  have hW' := hW
  obtain ⟨p, q, hA0, hV, rfl, hfz, hnd⟩ := hW
  have hA : DataW.TrodAll enc Try.prog W 0 (fun _ => true) true Try.f5.params.toList args.toList ds p := hA0
  rw [Try.params5] at hA hval
  obtain ⟨v0, vs0, d0, ds0, p0, q0, hargs, rfl, rfl, h0, r0⟩ := trodAll_cons hA
  obtain ⟨rfl, rfl, rfl⟩ := trodAll_nil r0
  obtain rfl : args = #[v0] := by cases args; simp_all
  obtain ⟨rfl, rfl⟩ := trodVars_none hV
  have k0 := h0
  have lt0 : ∀ x ∈ p0, x.block < W.heap.size := by obtain ⟨m, hm⟩ := k0; exact DataW.trod_lt m _ _ _ hm
  obtain ⟨a0, n0, c0, rfl⟩ := okWide_slice Try.underlying25 (hval 0 25 v0 rfl rfl)
  obtain ⟨z0, w0⟩ : ∃ zs, IsRow .i64 W a0 n0 c0 zs := by
    obtain ⟨fuel, hf⟩ := h0
    rcases open_ints Try.underlying25 Try.underlying3 (by kernel_rfl) hf with ⟨hcs, _⟩ | ⟨x, l, c, zs, hcs, _, hl, hm, hz, _, hcell, hwz⟩
    · simp [Value.cells] at hcs
      obtain ⟨rfl, rfl, rfl⟩ := hcs
      exact ⟨[], .inl ⟨rfl, rfl, rfl, rfl⟩⟩
    · simp [Value.cells] at hcs
      obtain ⟨rfl, rfl, rfl⟩ := hcs
      exact ⟨zs, .inr ⟨_, rfl, hl, hm, by simpa using hz, hcell, hwz⟩⟩
  clear hA0 hval
  refine (walk a0 n0 c0 z0 W hS  w0).mono fun e W' ⟨he, bel⟩ => ?_
  subst he
  exact ⟨_, rfl, _, _, _, [], _, [], hW', trodAll_mk1 (shut_bool Try.underlying4 _), (trodAll_cons_mk (Below.trod laidOut (by kernel_rfl) (of_decide_eq_true (by kernel_rfl)) k0 bel lt0) trodAll_mk0), rfl, bel.frame _, fun h => by cases h⟩

theorem reads (os : Os) {H : Type} (enc : TypeId × Value → H) : ∃ places, DataW.whole enc Try.prog ((World.holding Try.prog os ⟨#[], #[], []⟩).forCall (fun _ _ => 0) ⟨#[], #[.slice none 0 0], []⟩).memory Try.f5.params.toList Rows.fnExactIsValidOutlineSpec.vars false (#[.slice none 0 0] : Array Value).toList 8 = some ([.nil], [], places) :=
  ⟨[], by kernel_rfl⟩

set_option maxRecDepth 100000 in
theorem lifted (os : Os) (started : os.Started) (H : Type) (enc : TypeId × Value → H) (F : Stop.Interp) :
    ReturnsInHanded {} Try.checked os 5 .any ((OpenSpec.ofChange Rows.fnExactIsValidOutlineSpec).preRow enc Try.prog Try.f5 Rows.fnExactIsValidOutlineRow.domain false Rows.fnExactIsValidOutlineRow.laid) (((OpenSpec.ofChange Rows.fnExactIsValidOutlineSpec).at F).post enc Try.prog Try.f5 false true false false) := by
  obtain ⟨places, hx⟩ := reads os enc
  refine returnsInHanded_of_row (C := Try.checked) (s := OpenSpec.ofChange Rows.fnExactIsValidOutlineSpec) own started (by kernel_rfl) Try.func5
    (witness_row_atRef (enc := enc) (C := Try.checked) false (World.holding Try.prog os ⟨#[], #[], []⟩) #[.slice none 0 0] rfl (by kernel_rfl) (by kernel_rfl) (by kernel_rfl)
      (OpenSpec.preRow_of_cond 8 hx (by kernel_rfl) (fun k hk => by cases hk) (by kernel_rfl) ⟨[], rfl, List.nodup_nil, fun b off h => by cases h⟩)) ?_
  intro W base args ds gs before hval hW _ _ _ hL hS _
  exact contract H enc W base args ds gs before hval hW hL hS

theorem said : Rows.FnExactIsValidOutlineSaid :=
  OpenClaim.holds_of_cond 5 Try.f5 rfl rfl rfl rfl rfl rfl rfl ⟨rfl, rfl, rfl, rfl, rfl⟩ rfl rfl rfl rfl rfl (by kernel_rfl) Try.func5 (by kernel_rfl)
    (of_decide_eq_true (by kernel_rfl)) (by unfold Func.isWrapper; first | (rw [if_pos (by decide +kernel)]; kernel_rfl) | (rw [if_neg (by decide +kernel)]; exact ⟨rfl, rfl⟩))
    (fun os started H enc _ F => by rw [OpenClaim.pre_eq_preRow]; exact lifted os started H enc F)

theorem proved : Rows.FnExactIsValidOutlineSaid := said
#print axioms proved
end Go.Proofs.Ytkhklidpighmpaa.fnExactIsValidOutline
