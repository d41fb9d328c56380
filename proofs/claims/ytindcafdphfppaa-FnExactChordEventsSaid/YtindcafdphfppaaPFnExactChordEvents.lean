/-
  laws.FnExactChordEvents returns true whatever the strokes and the interval: impl.ChordEvents answers as the specification, leaves its argument, and its answer owns its memory. Conditions: none but the row's own.
-/
import Derived.Test.YtindcafdphfppaaRows
import Derived.WalkKit
import Derived.ProofKit
import Derived.OpenShut
import Derived.ShutString
import Derived.ChangeOld
import Derived.Below
import Derived.SliceStrings
import Derived.JoinedCond
import Derived.Deep.DeepHandedRow
import Derived.Deep.DeepWitnessRowRef
import Derived.Lib.Hide
import Derived.Test.YtindcafdphfppaaSpecChord
import Derived.Test.YtindcafdphfppaaMarkE
import Derived.Test.YtindcafdphfppaaImpl3
namespace Go.Proofs.Ytindcafdphfppaa.fnExactChordEvents
open Go.ChangeShapes Go.WideShapes Go.ChangeAt Go.RowKit
open Go.ChangeMaps (open_string shut_string)
set_option linter.unusedVariables false

theorem own : ownKnob Try.prog.godebug = none := by kernel_rfl
theorem laidOut : laidOutB Try.prog = true := by kernel_rfl

/-- A slice of integers that came in. -/
def IsRow (k : IntKind) (w : World) (a : Option Addr) (len cap : Nat) (zs : List Int) : Prop :=
  (a = none ∧ len = 0 ∧ cap = 0 ∧ zs = []) ∨
  ∃ x, a = some x ∧ len ≤ cap ∧ cap ≤ maxLen ∧ zs.length = cap ∧ (∀ i, i < zs.length → w.cell? (x.add i) = some (.int k (zs.getD i 0))) ∧ ∀ n ∈ zs, (Lit.int k n).wf = true

theorem ints_of {w : World} {a : Option Addr} {n c : Nat} {z : List Int} (h : IsRow .i64 w a n c z) : (z.take n).length = n ∧ n ≤ maxLen ∧ IntsAt w (.slice a n c) (z.take n) := by
  rcases h with ⟨rfl, rfl, rfl, rfl⟩ | ⟨x, rfl, hl, hm, hs, hcell, hz⟩
  · exact ⟨rfl, by decide, IntsAt.nil _ _ _⟩
  · have hlen : (z.take n).length = n := by rw [List.length_take]; omega
    refine ⟨hlen, by omega, ?_⟩
    by_cases h0 : n = 0
    · subst h0; exact IntsAt.nil _ _ _
    · obtain ⟨b, o, spot⟩ := x
      have h1 := hcell 0 (by omega)
      have hspot : spot = none := by simpa [Addr.add] using World.cell?_spot h1
      subst hspot
      refine ⟨_, c, by rw [hlen], by rw [hlen]; exact hl, .inr ⟨b, o, rfl, ?_, fun j y hy => ?_⟩⟩
      · have : (w.cell? ⟨b, o, none⟩).isSome := by have := h1; simp [Addr.add] at this; rw [this]; rfl
        rcases Nat.lt_or_ge b w.heap.size with h' | h'
        · exact h'
        · simp [World.cell?, Array.getElem?_eq_none h'] at this
      · have hj : j < n := by
          rcases Nat.lt_or_ge j n with h' | h'
          · exact h'
          · rw [List.getElem?_eq_none (by rw [hlen]; exact h')] at hy; cases hy
        have h2 := hcell j (by omega)
        rw [List.getElem?_take_of_lt hj] at hy
        by_cases hj0 : j = 0
        · subst hj0; simpa [Addr.add, List.getD, hy] using h2
        · simpa [Addr.add, List.getD, hy, hj0] using h2
/-! ### THE WALK: the Go text returns true, and writes nothing that was there. -/
set_option maxRecDepth 100000 in
set_option maxHeartbeats 1000000 in
theorem walk (a0 : Option Addr) (n0 c0 : Nat) (z0 : List Int) (a1 : Int) (w : World) (hS : w.ShapedOpen Try.prog)  (w0 : IsRow .i64 w a0 n0 c0 z0) (w1 : (Lit.int .i64 a1).wf = true) :
    Calls Try.prog 10 #[.slice a0 n0 c0, .int .i64 a1] w fun e w' => e = .returned (.bool true) ∧ Below w.heap.size w w' := by
  obtain ⟨hlen, hnm, hrow⟩ := ints_of w0
  obtain ⟨zs, hzs⟩ : ∃ zs, zs = z0.take n0 := ⟨_, rfl⟩
  rw [← hzs] at hlen hrow
  unfold maxLen at hnm
  clear w0 hzs hS
  by_cases hbig : 1048576 < n0
  · clear hlen hrow
    go_enter Try.func10, Try.ntmps10
    go_wp2
    go_ret
    exact ⟨rfl, Below.refl _ _⟩
  · have HT := Lib.hid (fun v w h => toI_own v zs w h (by omega))
    have HQE := Lib.hid (fun v u w hv hu => eqI_same v u zs w hv hu (by omega))
    have HSp := Lib.hid (fun v w h => specChord_any v zs a1 w h (by omega))
    have HIm := Lib.hid (fun v w h => impl3.chord v zs a1 w h (by omega))
    have HME := Lib.hid (fun base S v f w h hS => markI_row base S v zs.length f w h hS (by omega))
    have HEV := Lib.hid hrow
    unfold ChordE at HSp
    obtain ⟨xs, hxs⟩ : ∃ xs, chordL zs a1 = xs := ⟨_, rfl⟩
    have hxl : xs.length ≤ 200 := by rw [← hxs]; exact chordL_len zs a1
    obtain ⟨b, hb⟩ : ∃ b, chordB zs a1 = b := ⟨_, rfl⟩
    rw [hxs, hb] at HSp HIm
    have HQ := Lib.hid (fun v u w hv hu => eqE_same v u xs w hv hu (by omega))
    have HM := Lib.hid (fun base v f w h => markE_own base v xs.length f w h (by omega))
    have HH := Lib.hid (fun base v w h => heldE_any base v xs.length w h (by omega))
    clear hxs hb hrow
    go_enter Try.func10, Try.ntmps10
    go_wp2_with fail
    refine (HT.out _ _ HEV.out).mono ?_
    rintro e w1 ⟨⟨v1, rfl, h1⟩, b1⟩
    have HV1 := Lib.hid h1.ints
    clear h1
    go_wp2_with fail
    refine (HSp.out _ _ HV1.out).mono ?_
    rintro e w2 ⟨⟨u, rfl, hu⟩, b12⟩
    have HU := Lib.hid hu
    have b2 := b1.trans (b12.mono b1.size)
    clear hu HV1 b12
    go_wp2_with fail
    refine (HT.out _ _ (HEV.out.below b2)).mono ?_
    rintro e w3 ⟨⟨x0, rfl, h3⟩, b23⟩
    have HX := Lib.hid h3
    have b3 := b2.trans (b23.mono b2.size)
    clear h3
    go_wp2_with fail
    refine (HIm.out _ _ HX.out.ints).mono ?_
    rintro e w4 ⟨⟨g, rfl, hg⟩, b34⟩
    have HG := Lib.hid hg
    have b24 := b23.trans (b34.mono b23.size)
    clear hg
    go_wp2_with fail
    refine (HQ.out _ _ _ HG.out.evs (HU.out.below b24)).mono ?_
    rintro e w5 ⟨rfl, b45⟩
    have b25 := b24.trans (b45.mono b24.size)
    have b35 := b34.trans (b45.mono b34.size)
    go_wp2_with fail
    refine (HT.out _ _ (HEV.out.below (b2.trans (b25.mono b2.size)))).mono ?_
    rintro e w6 ⟨⟨y, rfl, h6⟩, b56⟩
    have HY := Lib.hid h6.ints
    have b26 := b25.trans (b56.mono b25.size)
    have b36 := b35.trans (b56.mono b35.size)
    clear h6
    go_wp2_with fail
    refine (HQE.out _ _ _ ((HX.out.below b36).ints) HY.out).mono ?_
    rintro e w7 ⟨rfl, b67⟩
    have b27 := b26.trans (b67.mono b26.size)
    have b37 := b36.trans (b67.mono b36.size)
    have HG7 := Lib.hid (((HG.out.below b45).below b56).below b67)
    clear HY
    go_wp2_with fail
    refine (HME.out _ w3.heap.size _ _ _ (HX.out.below b37) (fun h0 => HX.out.lt h0)).mono ?_
    rintro e w8 ⟨rfl, hab, b78⟩
    have HG8 := Lib.hid (HG7.out.above hab (Nat.le_refl _))
    have b28 := b27.trans b78
    have hk8 : ¬ ((1 : Int) + (zs.length : Int) < 0) := by omega
    clear hab HG7
    go_wp2_with fail
    refine (HQ.out _ _ _ HG8.out.evs (HU.out.below b28)).mono ?_
    rintro e w9 ⟨rfl, b89⟩
    have b29 := b28.trans (b89.mono b28.size)
    have HG9 := Lib.hid (HG8.out.below b89)
    have hs39 : w3.heap.size ≤ w9.heap.size := by have := b37.size; have := b78.size; have := b89.size; omega
    clear HG8
    go_wp2_with fail
    refine (HM.out _ _ _ _ HG9.out).mono ?_
    rintro e w10 ⟨rfl, hO, b910⟩
    have HO := Lib.hid hO
    have b210 := b29.trans (b910.mono b23.size)
    clear hO HG9
    go_wp2_with fail
    refine (HH.out _ _ _ HO.out).mono ?_
    rintro e w11 ⟨rfl, b1011⟩
    have b211 := b210.trans (b1011.mono b210.size)
    have hq : ¬ ((1 : Int) + 3 * (xs.length : Int) < 0) := by omega
    go_wp2_with fail
    refine (HT.out _ _ (HEV.out.below (b2.trans (b211.mono b2.size)))).mono ?_
    rintro e w12 ⟨⟨z, rfl, h12⟩, b1112⟩
    have HZ := Lib.hid h12.ints
    have b212 := b211.trans (b1112.mono b211.size)
    clear h12
    go_wp2_with fail
    refine (HIm.out _ _ HZ.out).mono ?_
    rintro e w13 ⟨⟨h, rfl, hh⟩, b1213⟩
    have HHv := Lib.hid hh.evs
    have b213 := b212.trans (b1213.mono b212.size)
    clear hh HZ
    go_wp2_with fail
    refine (HQ.out _ _ _ HHv.out (HU.out.below b213)).mono ?_
    rintro e w14 ⟨rfl, b1314⟩
    have b214 := b213.trans (b1314.mono b213.size)
    have HO14 := Lib.hid ((((HO.out.below b1011).below b1112).below b1213).below b1314)
    go_wp2_with fail
    refine (HH.out _ _ _ HO14.out).mono ?_
    rintro e w15 ⟨rfl, b1415⟩
    have b215 := b214.trans (b1415.mono b214.size)
    have hfin := b2.trans (b215.mono b2.size)
    go_wp2
    go_ret
    exact ⟨rfl, hfin⟩

/-! ### THE ROW's STEP -/
theorem contract (H : Type) (enc : TypeId × Value → H) (W : World) (base : Nat) (args : Array Value) (ds gs : List (DataW H)) (before : List MemPlace)
    (hval : ∀ (j : Nat) t v, Try.f10.params[j]? = some t → args[j]? = some v → Value.okWide Try.prog W .any base t v)
    (hW : DataW.Whole enc Try.prog Try.f10.params.toList Rows.fnExactChordEventsSpec.vars false W args.toList ds gs before) (hL : laidMetH Try.prog Rows.fnExactChordEventsRow.laid W) (hS : W.ShapedOpen Try.prog) :
    Calls Try.prog 10 args W fun e W' => ∃ v, e = .returned v ∧ Rows.fnExactChordEventsSpec.post enc Try.prog Try.f10 false true false false W args v W' := by
  have hW' := hW
  obtain ⟨p, q, hA0, hV, rfl, hfz, hnd⟩ := hW
  have hA : DataW.TrodAll enc Try.prog W 0 (fun _ => true) true Try.f10.params.toList args.toList ds p := hA0
  rw [Try.params10] at hA hval
  obtain ⟨v0, vs0, d0, ds0, p0, q0, hargs, rfl, rfl, h0, r0⟩ := trodAll_cons hA
  obtain ⟨v1, vs1, d1, ds1, p1, q1, rfl, rfl, rfl, h1, r1⟩ := trodAll_cons r0
  obtain ⟨rfl, rfl, rfl⟩ := trodAll_nil r1
  obtain rfl : args = #[v0, v1] := by cases args; simp_all
  obtain ⟨rfl, rfl⟩ := trodVars_none hV
  have k0 := h0
  have lt0 : ∀ x ∈ p0, x.block < W.heap.size := by obtain ⟨m, hm⟩ := k0; exact DataW.trod_lt m _ _ _ hm
  obtain ⟨a0, n0, c0, rfl⟩ := okWide_slice Try.underlying24 (hval 0 24 v0 rfl rfl)
  obtain ⟨z0, w0⟩ : ∃ zs, IsRow .i64 W a0 n0 c0 zs := by
    obtain ⟨fuel, hf⟩ := h0
    rcases open_ints Try.underlying24 Try.underlying3 (by kernel_rfl) hf with ⟨hcs, _⟩ | ⟨x, l, c, zs, hcs, _, hl, hm, hz, _, hcell, hwz⟩
    · simp [Value.cells] at hcs
      obtain ⟨rfl, rfl, rfl⟩ := hcs
      exact ⟨[], .inl ⟨rfl, rfl, rfl, rfl⟩⟩
    · simp [Value.cells] at hcs
      obtain ⟨rfl, rfl, rfl⟩ := hcs
      exact ⟨zs, .inr ⟨_, rfl, hl, hm, by simpa using hz, hcell, hwz⟩⟩
  have k1 := h1
  have lt1 : ∀ x ∈ p1, x.block < W.heap.size := by obtain ⟨m, hm⟩ := k1; exact DataW.trod_lt m _ _ _ hm
  obtain ⟨a1, rfl, rfl, rfl, w1⟩ := open_int Try.underlying3 (hval 1 3 v1 rfl rfl) h1
  clear hA0 hval
  refine (walk a0 n0 c0 z0 a1 W hS  w0 w1).mono fun e W' ⟨he, bel⟩ => ?_
  subst he
  exact ⟨_, rfl, _, _, _, [], _, [], hW', trodAll_mk1 (shut_bool Try.underlying4 _), (trodAll_cons_mk (Below.trod laidOut (by kernel_rfl) (of_decide_eq_true (by kernel_rfl)) k0 bel lt0) (trodAll_cons_mk (Below.trod laidOut (by kernel_rfl) (of_decide_eq_true (by kernel_rfl)) k1 bel lt1) trodAll_mk0)), rfl, bel.frame _, fun h => by cases h⟩

theorem reads (os : Os) {H : Type} (enc : TypeId × Value → H) : ∃ places, DataW.whole enc Try.prog ((World.holding Try.prog os ⟨#[], #[], []⟩).forCall (fun _ _ => 0) ⟨#[], #[.slice none 0 0, .int .i64 0], []⟩).memory Try.f10.params.toList Rows.fnExactChordEventsSpec.vars false (#[.slice none 0 0, .int .i64 0] : Array Value).toList 8 = some ([.nil, .lit (.int .i64 0)], [], places) :=
  ⟨[], by kernel_rfl⟩

set_option maxRecDepth 100000 in
theorem lifted (os : Os) (started : os.Started) (H : Type) (enc : TypeId × Value → H) (F : Stop.Interp) :
    ReturnsInHanded {} Try.checked os 10 .any ((OpenSpec.ofChange Rows.fnExactChordEventsSpec).preRow enc Try.prog Try.f10 Rows.fnExactChordEventsRow.domain false Rows.fnExactChordEventsRow.laid) (((OpenSpec.ofChange Rows.fnExactChordEventsSpec).at F).post enc Try.prog Try.f10 false true false false) := by
  obtain ⟨places, hx⟩ := reads os enc
  refine returnsInHanded_of_row (C := Try.checked) (s := OpenSpec.ofChange Rows.fnExactChordEventsSpec) own started (by kernel_rfl) Try.func10
    (witness_row_atRef (enc := enc) (C := Try.checked) false (World.holding Try.prog os ⟨#[], #[], []⟩) #[.slice none 0 0, .int .i64 0] rfl (by kernel_rfl) (by kernel_rfl) (by kernel_rfl)
      (OpenSpec.preRow_of_cond 8 hx (by kernel_rfl) (fun k hk => by cases hk) (by kernel_rfl) ⟨[], rfl, List.nodup_nil, fun b off h => by cases h⟩)) ?_
  intro W base args ds gs before hval hW _ _ _ hL hS _
  exact contract H enc W base args ds gs before hval hW hL hS

theorem said : Rows.FnExactChordEventsSaid :=
  OpenClaim.holds_of_cond 10 Try.f10 rfl rfl rfl rfl rfl rfl rfl ⟨rfl, rfl, rfl, rfl, rfl⟩ rfl rfl rfl rfl rfl (by kernel_rfl) Try.func10 (by kernel_rfl)
    (of_decide_eq_true (by kernel_rfl)) (by unfold Func.isWrapper; first | (rw [if_pos (by decide +kernel)]; kernel_rfl) | (rw [if_neg (by decide +kernel)]; exact ⟨rfl, rfl⟩))
    (fun os started H enc _ F => by rw [OpenClaim.pre_eq_preRow]; exact lifted os started H enc F)

theorem proved : Rows.FnExactChordEventsSaid := said
#print axioms proved
end Go.Proofs.Ytindcafdphfppaa.fnExactChordEvents
