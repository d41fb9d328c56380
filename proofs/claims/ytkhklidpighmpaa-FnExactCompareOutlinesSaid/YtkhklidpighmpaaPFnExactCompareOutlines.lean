/-
  laws.FnExactCompareOutlines returns true whatever the two lists of ints: impl.CompareOutlines answers as the specification and leaves its arguments. Conditions: none but the row's own.
-/
import Derived.Test.YtkhklidpighmpaaRows
import Derived.WalkKit
import Derived.ProofKit
import Derived.OpenShut
import Derived.ShutString
import Derived.ChangeOld
import Derived.Below
import Derived.SliceStrings
import Derived.JoinedCond
import Derived.Deep.DeepHandedRow
import Derived.Deep.DeepWitnessRowRef
import Derived.Lib.Hide
import Derived.Test.YtkhklidpighmpaaImpl4C
import Derived.Test.YtkhklidpighmpaaImpl4
namespace Go.Proofs.Ytkhklidpighmpaa.fnExactCompareOutlines
open Go.ChangeShapes Go.WideShapes Go.ChangeAt Go.RowKit
open Go.ChangeMaps (open_string shut_string)
set_option linter.unusedVariables false
set_option maxRecDepth 100000

theorem own : ownKnob Try.prog.godebug = none := by kernel_rfl
theorem laidOut : laidOutB Try.prog = true := by kernel_rfl

/-- A slice of integers that came in. -/
def IsRow (k : IntKind) (w : World) (a : Option Addr) (len cap : Nat) (zs : List Int) : Prop :=
  (a = none ∧ len = 0 ∧ cap = 0 ∧ zs = []) ∨
  ∃ x, a = some x ∧ len ≤ cap ∧ cap ≤ maxLen ∧ zs.length = cap ∧ (∀ i, i < zs.length → w.cell? (x.add i) = some (.int k (zs.getD i 0))) ∧ ∀ n ∈ zs, (Lit.int k n).wf = true

theorem ints_of {w : World} {a : Option Addr} {n c : Nat} {z : List Int} (h : IsRow .i64 w a n c z) : (z.take n).length = n ∧ n ≤ maxLen ∧ IntsAt w (.slice a n c) (z.take n) := by
  rcases h with ⟨rfl, rfl, rfl, rfl⟩ | ⟨x, rfl, hl, hm, hs, hcell, hz⟩
  · exact ⟨rfl, by decide, IntsAt.nil _ _ _⟩
  · have hlen : (z.take n).length = n := by rw [List.length_take]; omega
    refine ⟨hlen, by omega, ?_⟩
    by_cases h0 : n = 0
    · subst h0; exact IntsAt.nil _ _ _
    · obtain ⟨b, o, spot⟩ := x
      have h1 := hcell 0 (by omega)
      have hspot : spot = none := by simpa [Addr.add] using World.cell?_spot h1
      subst hspot
      refine ⟨_, c, by rw [hlen], by rw [hlen]; exact hl, .inr ⟨b, o, rfl, ?_, fun j y hy => ?_⟩⟩
      · have : (w.cell? ⟨b, o, none⟩).isSome := by have := h1; simp [Addr.add] at this; rw [this]; rfl
        rcases Nat.lt_or_ge b w.heap.size with h' | h'
        · exact h'
        · simp [World.cell?, Array.getElem?_eq_none h'] at this
      · have hj : j < n := by
          rcases Nat.lt_or_ge j n with h' | h'
          · exact h'
          · rw [List.getElem?_eq_none (by rw [hlen]; exact h')] at hy; cases hy
        have h2 := hcell j (by omega)
        rw [List.getElem?_take_of_lt hj] at hy
        by_cases hj0 : j = 0
        · subst hj0; simpa [Addr.add, List.getD, hy] using h2
        · simpa [Addr.add, List.getD, hy, hj0] using h2
/-! ### THE WALK: the Go text returns true, and writes nothing that was there. -/
set_option maxRecDepth 100000 in
set_option maxHeartbeats 8000000 in
theorem walk (a0 : Option Addr) (n0 c0 : Nat) (z0 : List Int) (a1 : Option Addr) (n1 c1 : Nat) (z1 : List Int) (w : World) (hS : w.ShapedOpen Try.prog)  (w0 : IsRow .i64 w a0 n0 c0 z0) (w1 : IsRow .i64 w a1 n1 c1 z1) :
    Calls Try.prog 8 #[.slice a0 n0 c0, .slice a1 n1 c1] w fun e w' => e = .returned (.bool true) ∧ Below w.heap.size w w' := by
  obtain ⟨hlen0, hnm0, hrow0⟩ := ints_of w0
  obtain ⟨xs, hzs0⟩ : ∃ xs, xs = z0.take n0 := ⟨_, rfl⟩
  rw [← hzs0] at hlen0 hrow0
  unfold maxLen at hnm0
  clear w0 hzs0
  obtain ⟨hlen1, hnm1, hrow1⟩ := ints_of w1
  obtain ⟨ys, hzs1⟩ : ∃ ys, ys = z1.take n1 := ⟨_, rfl⟩
  rw [← hzs1] at hlen1 hrow1
  unfold maxLen at hnm1
  clear w1 hzs1
  clear hS
  by_cases hbig : 1048576 < n0
  · clear hlen0 hrow0 hlen1 hrow1
    go_enter Try.func8, Try.ntmps8
    go_wp2
    go_ret
    exact ⟨rfl, Below.refl _ _⟩
  · by_cases hbig1 : 1048576 < n1
    · clear hlen0 hrow0 hlen1 hrow1
      go_enter Try.func8, Try.ntmps8
      go_wp2
      go_ret
      exact ⟨rfl, Below.refl _ _⟩
    · have CX := Lib.hid (fun v w h => toI_any v xs w h (by omega))
      have CY := Lib.hid (fun v w h => toI_any v ys w h (by omega))
      have cs := fun v u w h h' => specCompare_any v u xs ys w h h' (by omega) (by omega)
      have ci := fun v u w h h' => impl4.compare v u xs ys w h h' (by omega) (by omega)
      have QX := Lib.hid (fun v u w hv hu => eqI_same v u xs w hv hu (by omega))
      have QY := Lib.hid (fun v u w hv hu => eqI_same v u ys w hv hu (by omega))
      obtain ⟨c, hc⟩ : ∃ c : Int, c = (if okO xs = true ∧ okO ys = true then Pl.cmp xs ys else 0) := ⟨_, rfl⟩
      obtain ⟨R, hR⟩ : ∃ R, R = (okO xs && okO ys) := ⟨_, rfl⟩
      have hE : cmpE xs ys = .returned (.tuple #[.int .i64 c, .bool R]) := by unfold cmpE; rw [hc, hR]
      rw [hE] at cs ci
      clear hc hR hE
      have CS := Lib.hid cs
      have CI := Lib.hid ci
      have HR := Lib.hid hrow0
      have HS := Lib.hid hrow1
      clear hlen0 hrow0 hlen1 hrow1 cs ci
      go_enter Try.func8, Try.ntmps8
      go_wp2_with fail
      refine (CX.out _ _ HR.out).mono ?_
      rintro e w1 ⟨u1, rfl, hu1, hb1⟩
      have HU_1 := Lib.hid hu1
      have HB1 := Lib.hid hb1
      clear hu1 hb1
      go_wp2_with fail
      refine (CY.out _ _ (HS.out.below HB1.out)).mono ?_
      rintro e w2 ⟨u2, rfl, hu2, hb2⟩
      have HU_2 := Lib.hid (HU_1.out.below hb2)
      have HV_2 := Lib.hid hu2
      have HB2 := Lib.hid (HB1.out.trans (hb2.mono HB1.out.size))
      clear hu2 hb2
      go_wp2_with fail
      refine (CS.out _ _ _ HU_2.out HV_2.out).mono ?_
      rintro e w3 ⟨rfl, hb3⟩
      have HU_3 := Lib.hid (HU_2.out.below hb3)
      have HV_3 := Lib.hid (HV_2.out.below hb3)
      have HB3 := Lib.hid (HB2.out.trans (hb3.mono HB2.out.size))
      clear hb3
      go_wp2_with fail
      refine (CX.out _ _ (HR.out.below HB3.out)).mono ?_
      rintro e w4 ⟨x0, rfl, hu4, hb4⟩
      have HX_4 := Lib.hid hu4
      have HB4 := Lib.hid (HB3.out.trans (hb4.mono HB3.out.size))
      clear hu4 hb4
      go_wp2_with fail
      refine (CY.out _ _ (HS.out.below HB4.out)).mono ?_
      rintro e w5 ⟨x1, rfl, hu5, hb5⟩
      have HX_5 := Lib.hid (HX_4.out.below hb5)
      have HY_5 := Lib.hid hu5
      have HB5 := Lib.hid (HB4.out.trans (hb5.mono HB4.out.size))
      clear hu5 hb5
      go_wp2_with fail
      refine (CI.out _ _ _ HX_5.out HY_5.out).mono ?_
      rintro e w6 ⟨rfl, hb6⟩
      have HX_6 := Lib.hid (HX_5.out.below hb6)
      have HY_6 := Lib.hid (HY_5.out.below hb6)
      have HB6 := Lib.hid (HB5.out.trans (hb6.mono HB5.out.size))
      clear hb6
      go_wp2_with fail
      refine (CX.out _ _ (HR.out.below HB6.out)).mono ?_
      rintro e w7 ⟨y0, rfl, hu7, hb7⟩
      have HX_7 := Lib.hid (HX_6.out.below hb7)
      have HY_7 := Lib.hid (HY_6.out.below hb7)
      have HZ_7 := Lib.hid hu7
      have HB7 := Lib.hid (HB6.out.trans (hb7.mono HB6.out.size))
      clear hu7 hb7
      go_wp2_with fail
      refine (QX.out _ _ _ HX_7.out HZ_7.out).mono ?_
      rintro e w8 ⟨rfl, hb8⟩
      have HX_8 := Lib.hid (HX_7.out.below hb8)
      have HY_8 := Lib.hid (HY_7.out.below hb8)
      have HZ_8 := Lib.hid (HZ_7.out.below hb8)
      have HB8 := Lib.hid (HB7.out.trans (hb8.mono HB7.out.size))
      clear hb8
      go_wp2_with fail
      refine (CY.out _ _ (HS.out.below HB8.out)).mono ?_
      rintro e w9 ⟨y1, rfl, hu9, hb9⟩
      have HY_9 := Lib.hid (HY_8.out.below hb9)
      have HZ_9 := Lib.hid hu9
      have HB9 := Lib.hid (HB8.out.trans (hb9.mono HB8.out.size))
      clear hu9 hb9
      go_wp2_with fail
      refine (QY.out _ _ _ HY_9.out HZ_9.out).mono ?_
      rintro e w10 ⟨rfl, hb10⟩
      have HY_10 := Lib.hid (HY_9.out.below hb10)
      have HZ_10 := Lib.hid (HZ_9.out.below hb10)
      have HB10 := Lib.hid (HB9.out.trans (hb10.mono HB9.out.size))
      clear hb10
      go_wp2
      go_ret
      exact ⟨rfl, HB10.out⟩

/-! ### THE ROW's STEP -/
set_option maxRecDepth 100000 in
theorem contract (H : Type) (enc : TypeId × Value → H) (W : World) (base : Nat) (args : Array Value) (ds gs : List (DataW H)) (before : List MemPlace)
    (hval : ∀ (j : Nat) t v, Try.f8.params[j]? = some t → args[j]? = some v → Value.okWide Try.prog W .any base t v)
    (hW : DataW.Whole enc Try.prog Try.f8.params.toList Rows.fnExactCompareOutlinesSpec.vars false W args.toList ds gs before) (hL : laidMetH Try.prog Rows.fnExactCompareOutlinesRow.laid W) (hS : W.ShapedOpen Try.prog) :
    Calls Try.prog 8 args W fun e W' => ∃ v, e = .returned v ∧ Rows.fnExactCompareOutlinesSpec.post enc Try.prog Try.f8 false true false false W args v W' := by
  have hW' := hW
  obtain ⟨p, q, hA0, hV, rfl, hfz, hnd⟩ := hW
  have hA : DataW.TrodAll enc Try.prog W 0 (fun _ => true) true Try.f8.params.toList args.toList ds p := hA0
  rw [Try.params8] at hA hval
  obtain ⟨v0, vs0, d0, ds0, p0, q0, hargs, rfl, rfl, h0, r0⟩ := trodAll_cons hA
  obtain ⟨v1, vs1, d1, ds1, p1, q1, rfl, rfl, rfl, h1, r1⟩ := trodAll_cons r0
  obtain ⟨rfl, rfl, rfl⟩ := trodAll_nil r1
  obtain rfl : args = #[v0, v1] := by cases args; simp_all
  obtain ⟨rfl, rfl⟩ := trodVars_none hV
  have k0 := h0
  have lt0 : ∀ x ∈ p0, x.block < W.heap.size := by obtain ⟨m, hm⟩ := k0; exact DataW.trod_lt m _ _ _ hm
  obtain ⟨a0, n0, c0, rfl⟩ := okWide_slice Try.underlying25 (hval 0 25 v0 rfl rfl)
  obtain ⟨z0, w0⟩ : ∃ zs, IsRow .i64 W a0 n0 c0 zs := by
    obtain ⟨fuel, hf⟩ := h0
    rcases open_ints Try.underlying25 Try.underlying3 (by kernel_rfl) hf with ⟨hcs, _⟩ | ⟨x, l, c, zs, hcs, _, hl, hm, hz, _, hcell, hwz⟩
    · simp [Value.cells] at hcs
      obtain ⟨rfl, rfl, rfl⟩ := hcs
      exact ⟨[], .inl ⟨rfl, rfl, rfl, rfl⟩⟩
    · simp [Value.cells] at hcs
      obtain ⟨rfl, rfl, rfl⟩ := hcs
      exact ⟨zs, .inr ⟨_, rfl, hl, hm, by simpa using hz, hcell, hwz⟩⟩
  have k1 := h1
  have lt1 : ∀ x ∈ p1, x.block < W.heap.size := by obtain ⟨m, hm⟩ := k1; exact DataW.trod_lt m _ _ _ hm
  obtain ⟨a1, n1, c1, rfl⟩ := okWide_slice Try.underlying25 (hval 1 25 v1 rfl rfl)
  obtain ⟨z1, w1⟩ : ∃ zs, IsRow .i64 W a1 n1 c1 zs := by
    obtain ⟨fuel, hf⟩ := h1
    rcases open_ints Try.underlying25 Try.underlying3 (by kernel_rfl) hf with ⟨hcs, _⟩ | ⟨x, l, c, zs, hcs, _, hl, hm, hz, _, hcell, hwz⟩
    · simp [Value.cells] at hcs
      obtain ⟨rfl, rfl, rfl⟩ := hcs
      exact ⟨[], .inl ⟨rfl, rfl, rfl, rfl⟩⟩
    · simp [Value.cells] at hcs
      obtain ⟨rfl, rfl, rfl⟩ := hcs
      exact ⟨zs, .inr ⟨_, rfl, hl, hm, by simpa using hz, hcell, hwz⟩⟩
  clear hA0 hval
  refine (walk a0 n0 c0 z0 a1 n1 c1 z1 W hS  w0 w1).mono fun e W' ⟨he, bel⟩ => ?_
  subst he
  exact ⟨_, rfl, _, _, _, [], _, [], hW', trodAll_mk1 (shut_bool Try.underlying4 _), (trodAll_cons_mk (Below.trod laidOut (by kernel_rfl) (of_decide_eq_true (by kernel_rfl)) k0 bel lt0) (trodAll_cons_mk (Below.trod laidOut (by kernel_rfl) (of_decide_eq_true (by kernel_rfl)) k1 bel lt1) trodAll_mk0)), rfl, bel.frame _, fun h => by cases h⟩

theorem reads (os : Os) {H : Type} (enc : TypeId × Value → H) : ∃ places, DataW.whole enc Try.prog ((World.holding Try.prog os ⟨#[], #[], []⟩).forCall (fun _ _ => 0) ⟨#[], #[.slice none 0 0, .slice none 0 0], []⟩).memory Try.f8.params.toList Rows.fnExactCompareOutlinesSpec.vars false (#[.slice none 0 0, .slice none 0 0] : Array Value).toList 8 = some ([.nil, .nil], [], places) :=
  ⟨[], by kernel_rfl⟩

set_option maxRecDepth 100000 in
theorem lifted (os : Os) (started : os.Started) (H : Type) (enc : TypeId × Value → H) (F : Stop.Interp) :
    ReturnsInHanded {} Try.checked os 8 .any ((OpenSpec.ofChange Rows.fnExactCompareOutlinesSpec).preRow enc Try.prog Try.f8 Rows.fnExactCompareOutlinesRow.domain false Rows.fnExactCompareOutlinesRow.laid) (((OpenSpec.ofChange Rows.fnExactCompareOutlinesSpec).at F).post enc Try.prog Try.f8 false true false false) := by
  obtain ⟨places, hx⟩ := reads os enc
  refine returnsInHanded_of_row (C := Try.checked) (s := OpenSpec.ofChange Rows.fnExactCompareOutlinesSpec) own started (by kernel_rfl) Try.func8
    (witness_row_atRef (enc := enc) (C := Try.checked) false (World.holding Try.prog os ⟨#[], #[], []⟩) #[.slice none 0 0, .slice none 0 0] rfl (by kernel_rfl) (by kernel_rfl) (by kernel_rfl)
      (OpenSpec.preRow_of_cond 8 hx (by kernel_rfl) (fun k hk => by cases hk) (by kernel_rfl) ⟨[], rfl, List.nodup_nil, fun b off h => by cases h⟩)) ?_
  intro W base args ds gs before hval hW _ _ _ hL hS _
  exact contract H enc W base args ds gs before hval hW hL hS

theorem said : Rows.FnExactCompareOutlinesSaid :=
  OpenClaim.holds_of_cond 8 Try.f8 rfl rfl rfl rfl rfl rfl rfl ⟨rfl, rfl, rfl, rfl, rfl⟩ rfl rfl rfl rfl rfl (by kernel_rfl) Try.func8 (by kernel_rfl)
    (of_decide_eq_true (by kernel_rfl)) (by unfold Func.isWrapper; first | (rw [if_pos (by decide +kernel)]; kernel_rfl) | (rw [if_neg (by decide +kernel)]; exact ⟨rfl, rfl⟩))
    (fun os started H enc _ F => by rw [OpenClaim.pre_eq_preRow]; exact lifted os started H enc F)

theorem proved : Rows.FnExactCompareOutlinesSaid := said
#print axioms proved
end Go.Proofs.Ytkhklidpighmpaa.fnExactCompareOutlines
