/-
  laws.FnExactUnfold returns true whatever the outline and the fold: impl.Unfold answers as the specification, leaves its argument, and its answer owns its memory. Conditions: none but the row's own.
-/
import Derived.Test.YtnjbaomekbiflaaRows
import Derived.WalkKit
import Derived.ProofKit
import Derived.OpenShut
import Derived.ShutString
import Derived.ChangeOld
import Derived.Below
import Derived.SliceStrings
import Derived.JoinedCond
import Derived.Deep.DeepHandedRow
import Derived.Deep.DeepWitnessRowRef
import Derived.Lib.Hide
import Derived.Test.YtnjbaomekbiflaaUnfI
namespace Go.Proofs.Ytnjbaomekbiflaa.fnExactUnfold
open Go.ChangeShapes Go.WideShapes Go.ChangeAt Go.RowKit
open Go.ChangeMaps (open_string shut_string)
set_option linter.unusedVariables false
set_option maxRecDepth 100000

theorem own : ownKnob Try.prog.godebug = none := by kernel_rfl
theorem laidOut : laidOutB Try.prog = true := by kernel_rfl

/-- A slice of integers that came in. -/
def IsRow (k : IntKind) (w : World) (a : Option Addr) (len cap : Nat) (zs : List Int) : Prop :=
  (a = none ∧ len = 0 ∧ cap = 0 ∧ zs = []) ∨
  ∃ x, a = some x ∧ len ≤ cap ∧ cap ≤ maxLen ∧ zs.length = cap ∧ (∀ i, i < zs.length → w.cell? (x.add i) = some (.int k (zs.getD i 0))) ∧ ∀ n ∈ zs, (Lit.int k n).wf = true

theorem ints_of {w : World} {a : Option Addr} {n c : Nat} {z : List Int} (h : IsRow .i64 w a n c z) : (z.take n).length = n ∧ n ≤ maxLen ∧ IntsAt w (.slice a n c) (z.take n) := by
  rcases h with ⟨rfl, rfl, rfl, rfl⟩ | ⟨x, rfl, hl, hm, hs, hcell, hz⟩
  · exact ⟨rfl, by decide, IntsAt.nil _ _ _⟩
  · have hlen : (z.take n).length = n := by rw [List.length_take]; omega
    refine ⟨hlen, by omega, ?_⟩
    by_cases h0 : n = 0
    · subst h0; exact IntsAt.nil _ _ _
    · obtain ⟨b, o, spot⟩ := x
      have h1 := hcell 0 (by omega)
      have hspot : spot = none := by simpa [Addr.add] using World.cell?_spot h1
      subst hspot
      refine ⟨_, c, by rw [hlen], by rw [hlen]; exact hl, .inr ⟨b, o, rfl, ?_, fun j y hy => ?_⟩⟩
      · have : (w.cell? ⟨b, o, none⟩).isSome := by have := h1; simp [Addr.add] at this; rw [this]; rfl
        rcases Nat.lt_or_ge b w.heap.size with h' | h'
        · exact h'
        · simp [World.cell?, Array.getElem?_eq_none h'] at this
      · have hj : j < n := by
          rcases Nat.lt_or_ge j n with h' | h'
          · exact h'
          · rw [List.getElem?_eq_none (by rw [hlen]; exact h')] at hy; cases hy
        have h2 := hcell j (by omega)
        rw [List.getElem?_take_of_lt hj] at hy
        by_cases hj0 : j = 0
        · subst hj0; simpa [Addr.add, List.getD, hy] using h2
        · simpa [Addr.add, List.getD, hy, hj0] using h2
/-! ### THE WALK: the Go text returns true, and writes nothing that was there. -/
set_option maxRecDepth 100000 in
set_option maxHeartbeats 8000000 in
theorem walk (a0 : Option Addr) (n0 c0 : Nat) (z0 : List Int) (a1 : Int) (s1 : ByteArray) (w : World) (hS : w.ShapedOpen Try.prog)  (w0 : IsRow .i64 w a0 n0 c0 z0) (w1 : (Lit.int .i64 a1).wf = true ∧ s1.size ≤ maxLen) :
    Calls Try.prog 5 #[.slice a0 n0 c0, .agg #[.int .i64 a1, .string s1]] w fun e w' => e = .returned (.bool true) ∧ Below w.heap.size w w' := by
  obtain ⟨hlen0, hnm0, hrow0⟩ := ints_of w0
  obtain ⟨xs, hzs0⟩ : ∃ xs, xs = z0.take n0 := ⟨_, rfl⟩
  rw [← hzs0] at hlen0 hrow0
  unfold maxLen at hnm0
  clear w0 hzs0 hS
  by_cases hbig : 1048576 < n0
  · clear hlen0 hrow0 w1
    go_enter Try.func5, Try.ntmps5
    go_wp2
    go_ret
    exact ⟨rfl, (Below.refl _ _).alloc (Nat.le_refl _) _⟩
  have CZ := Lib.hid (fun w => szFold_any a1 s1 1048576 w (by omega) (by omega) w1.2)
  by_cases hbig1 : (1048576 : Int) < s1.size
  · rw [if_pos hbig1] at CZ
    clear hlen0 hrow0 w1
    go_enter Try.func5, Try.ntmps5
    go_wp2_with fail
    refine (CZ.out _).mono ?_
    rintro e w1 ⟨rfl, hb⟩
    have HB1 := Lib.hid (below_new hb)
    clear hb
    go_wp2
    go_ret
    exact ⟨rfl, HB1.out⟩
  rw [if_neg hbig1] at CZ
  have CT := Lib.hid (fun w => toFold_any a1 s1 w)
  have CX := Lib.hid (fun v w h => toI_full v xs w h (by omega))
  have cs := fun v w h => specUnfold_any v xs a1 s1 w h (by omega) (by omega)
  have ci := fun v w h => Unfold_any v xs a1 s1 w h (by omega) (by omega)
  have QX := Lib.hid (fun v u w hv hu => eqI_same v u xs w hv hu (by omega))
  have MX := Lib.hid (fun base S v f w h hS => markI_from base S 1 v xs.length f w h hS (by omega) (by omega))
  have hcl := unfI_len xs a1 s1
  obtain ⟨zs, hzs⟩ : ∃ zs, zs = unfI xs a1 s1 := ⟨_, rfl⟩
  obtain ⟨b, hb⟩ : ∃ b, b = unfB xs a1 s1 := ⟨_, rfl⟩
  rw [← hzs, ← hb] at cs ci
  rw [← hzs] at hcl
  unfold OutE at cs
  unfold OutO at ci
  have HSp := Lib.hid cs
  have HIm := Lib.hid ci
  have HQ := Lib.hid (fun v u w hv hu => eqI_same v u zs w hv hu (by omega))
  have HM := Lib.hid (fun base v f w h hb => markI_any base v zs.length f w h hb (by omega))
  have HH := Lib.hid (fun base v w h => heldI_any base v zs.length w h (by omega))
  obtain ⟨n, hn⟩ : ∃ n, n = xs.length := ⟨_, rfl⟩
  have hn2 : n ≤ 1048576 := by omega
  rw [← hn] at MX
  have HN := Lib.hid hn
  have HR := Lib.hid hrow0
  clear hlen0 hrow0 cs ci hzs hb hn w1
  go_enter Try.func5, Try.ntmps5
  go_wp2_with fail
  refine (CZ.out _).mono ?_
  rintro e v1 ⟨rfl, hb⟩
  have X1 := Lib.hid (BoxA.new hb)
  have B1 := Lib.hid (below_new hb)
  clear hb
  obtain ⟨_, q0, q1⟩ := X1.out
  have k0 := cell_regrown q0
  have k1 := cell_regrown q1
  go_wp2_with fail
  refine Mx.wp_region_mixed (Mx.ofL [(0, 0), (2, 1), (1, 2), (3, 3), (4, 3), (5, 0), (6, 0), (7, 0), (8, 0), (9, 0)] .done) (by kernel_rfl) (by kernel_rfl) ?_
  repeat ((first | refine Mx.mix0 rfl ?_ | refine Mx.mix1 rfl ?_); go_big_quiet_step (fail); refine wpQuiet_nil ?_)
  refine Mx.mix2 rfl ?_
  go_wp2_with fail
  refine (CX.out _ _ (HR.out.below (below_drewF B1.out 1))).mono ?_
  rintro e v2 ⟨⟨u1, rfl, _, h1⟩, hb⟩
  have G2 : Hid (Below v1.heap.size v1 v2) := Lib.hid ((below_drewF (Below.refl _ _) 1).trans hb)
  have H1 := Lib.hid h1
  have X2 := Lib.hid (X1.out.below G2.out)
  have B2 := Lib.hid (B1.out.trans (G2.out.mono B1.out.size))
  clear h1 hb X1 B1 q0 q1 k0 k1
  go_wp2
  refine Mx.mid_normal (fun _ => regrown_of_below G2.out) ?_
  refine Mx.mix3 rfl ?_
  go_wp2_with fail
  refine (CT.out _).mono ?_
  rintro e v3 ⟨rfl, hb⟩
  have H2 := Lib.hid (H1.out.below hb)
  have X3 := Lib.hid (X2.out.below hb)
  have B3 := Lib.hid (B2.out.trans (hb.mono B2.out.size))
  clear hb H1 X2 B2 G2
  go_wp2
  refine Mx.mid_normal (fun q => by cases q) ?_
  refine Mx.mix3 rfl ?_
  go_wp2_with fail
  refine (HSp.out _ _ H2.out).mono ?_
  rintro e v4 ⟨⟨u, rfl, hu⟩, hb⟩
  have HU := Lib.hid hu
  have X4 := Lib.hid (X3.out.below hb)
  have B4 := Lib.hid (B3.out.trans (hb.mono B3.out.size))
  clear hb hu H2 X3 B3
  go_wp2
  refine Mx.mid_normal (fun q => by cases q) ?_
  repeat ((first | refine Mx.mix0 rfl ?_ | refine Mx.mix1 rfl ?_); go_big_quiet_step (fail); refine wpQuiet_nil ?_)
  refine Mx.mix_nil ?_
  go_wp2_with fail
  refine (CX.out _ _ (HR.out.below B4.out)).mono ?_
  rintro e v5 ⟨⟨x0, rfl, hx, hxm⟩, hb⟩
  have HX := Lib.hid hx
  have HXM := Lib.hid hxm
  have HXL := Lib.hid (show 0 < n → ∀ g, x0.ownBlock = some g → g < v5.heap.size from fun h0 => hx.lt (by rw [← HN.out]; exact h0))
  have D5 := Lib.hid hb
  have s5 := hb.size
  clear hx hxm hb
  obtain ⟨_, q0, q1⟩ := (X4.out.below D5.out)
  go_wp2_with fail
  refine (CT.out _).mono ?_
  rintro e v6 ⟨rfl, hb⟩
  clear q0 q1
  have HX6 := Lib.hid (HX.out.below hb)
  have HXM6 := Lib.hid (HXM.out.below hb)
  have D6 := Lib.hid (D5.out.trans (hb.mono D5.out.size))
  have s6 := hb.size
  clear hb HX HXM
  go_wp2_with fail
  refine (HIm.out _ _ HXM6.out).mono ?_
  rintro e v7 ⟨⟨g, rfl, hg⟩, hb⟩
  have HG7 := Lib.hid hg
  have HX7 := Lib.hid (HX6.out.below hb)
  have D7 := Lib.hid (D6.out.trans (hb.mono D6.out.size))
  have s7 := hb.size
  clear hb hg HX6 HXM6
  go_wp2_with fail
  refine (HQ.out _ _ _ HG7.out.ints (HU.out.below D7.out)).mono ?_
  rintro e v8 ⟨rfl, hb⟩
  have HG8 := Lib.hid (HG7.out.below hb)
  have HX8 := Lib.hid (HX7.out.below hb)
  have D8 := Lib.hid (D7.out.trans (hb.mono D7.out.size))
  have s8 := hb.size
  clear hb HG7 HX7
  go_wp2_with fail
  refine (CX.out _ _ (HR.out.below (B4.out.trans (D8.out.mono B4.out.size)))).mono ?_
  rintro e v9 ⟨⟨y0, rfl, _, hy⟩, hb⟩
  have HY9 := Lib.hid hy
  have HG9 := Lib.hid (HG8.out.below hb)
  have HX9 := Lib.hid (HX8.out.below hb)
  have D9 := Lib.hid (D8.out.trans (hb.mono D8.out.size))
  have s9 := hb.size
  clear hb hy HG8 HX8
  go_wp2_with fail
  refine (QX.out _ _ _ HX9.out.ints HY9.out.at).mono ?_
  rintro e v10 ⟨rfl, hb⟩
  have HG10 := Lib.hid (HG9.out.below hb)
  have HX10 : Hid (OwnInts v10 v4.heap.size x0 n (fun j => xs.getD j 0)) := by rw [HN.out]; exact HX9.out.below hb
  have D10 := Lib.hid (D9.out.trans (hb.mono D9.out.size))
  have s10 := hb.size
  clear hb HY9 HG9 HX9
  go_wp2_with fail
  refine (MX.out _ v5.heap.size _ _ _ HX10.out HXL.out).mono ?_
  rintro e v11 ⟨rfl, ha, hb⟩
  have HG11 := Lib.hid (HG10.out.above ha (by omega))
  have D11 := Lib.hid (D10.out.trans hb)
  have s11 := hb.size
  have hk11 : ¬ (((1 + n : Nat) : Int) < 0) := by omega
  clear ha hb HG10 HX10
  go_wp2_with fail
  refine (HQ.out _ _ _ HG11.out.ints (HU.out.below D11.out)).mono ?_
  rintro e v12 ⟨rfl, hb⟩
  have HG12 := Lib.hid (HG11.out.below hb)
  have D12 := Lib.hid (D11.out.trans (hb.mono D11.out.size))
  have s12 := hb.size
  clear hb HG11 hk11
  go_wp2_with fail
  refine (HM.out _ _ _ _ HG12.out (by omega)).mono ?_
  rintro e v13 ⟨rfl, hO, hb⟩
  have HO13 := Lib.hid hO
  have D13 := Lib.hid (D12.out.trans (hb.mono (by omega)))
  clear hO hb HG12
  go_wp2_with fail
  refine (HH.out _ _ _ HO13.out).mono ?_
  rintro e v14 ⟨rfl, hb⟩
  have HO14 := Lib.hid (HO13.out.below hb)
  have D14 := Lib.hid (D13.out.trans (hb.mono D13.out.size))
  clear hb HO13
  obtain ⟨_, q0, q1⟩ := (X4.out.below D14.out)
  have k0 := cell_regrown q0
  have k1 := cell_regrown q1
  go_wp2_with fail
  refine Mx.wp_region_mixed (Mx.ofL [(0, 0), (2, 1), (1, 2), (3, 3), (4, 3), (5, 0), (6, 0), (7, 0), (8, 0), (9, 0)] .done) (by kernel_rfl) (by kernel_rfl) ?_
  repeat ((first | refine Mx.mix0 rfl ?_ | refine Mx.mix1 rfl ?_); go_big_quiet_step (fail); refine wpQuiet_nil ?_)
  refine Mx.mix2 rfl ?_
  go_wp2_with fail
  refine (CX.out _ _ (HR.out.below (below_drewF (B4.out.trans (D14.out.mono B4.out.size)) 1))).mono ?_
  rintro e v15 ⟨⟨y2, rfl, _, hy⟩, hb⟩
  have G15 : Hid (Below v14.heap.size v14 v15) := Lib.hid ((below_drewF (Below.refl _ _) 1).trans hb)
  have HY15 := Lib.hid hy
  have HO15 := Lib.hid (HO14.out.below G15.out)
  have D15 := Lib.hid (D14.out.trans (G15.out.mono D14.out.size))
  clear hb hy HO14 q0 q1 k0 k1
  go_wp2
  refine Mx.mid_normal (fun _ => regrown_of_below G15.out) ?_
  refine Mx.mix3 rfl ?_
  go_wp2_with fail
  refine (CT.out _).mono ?_
  rintro e v16 ⟨rfl, hb⟩
  have HY16 := Lib.hid (HY15.out.below hb)
  have HO16 := Lib.hid (HO15.out.below hb)
  have D16 := Lib.hid (D15.out.trans (hb.mono D15.out.size))
  clear hb HO15 HY15 G15
  go_wp2
  refine Mx.mid_normal (fun q => by cases q) ?_
  refine Mx.mix3 rfl ?_
  go_wp2_with fail
  refine (HIm.out _ _ HY16.out).mono ?_
  rintro e v17 ⟨⟨h, rfl, hh⟩, hb⟩
  have HV17 := Lib.hid hh
  have HO17 := Lib.hid (HO16.out.below hb)
  have D17 := Lib.hid (D16.out.trans (hb.mono D16.out.size))
  clear hb hh HO16 HY16
  go_wp2
  refine Mx.mid_normal (fun q => by cases q) ?_
  repeat ((first | refine Mx.mix0 rfl ?_ | refine Mx.mix1 rfl ?_); go_big_quiet_step (fail); refine wpQuiet_nil ?_)
  refine Mx.mix_nil ?_
  go_wp2_with fail
  refine (HQ.out _ _ _ HV17.out.ints (HU.out.below D17.out)).mono ?_
  rintro e v18 ⟨rfl, hb⟩
  have HO18 := Lib.hid (HO17.out.below hb)
  have D18 := Lib.hid (D17.out.trans (hb.mono D17.out.size))
  clear hb HO17 HV17
  go_wp2_with fail
  refine (HH.out _ _ _ HO18.out).mono ?_
  rintro e v19 ⟨rfl, hb⟩
  have hfin := B4.out.trans ((D18.out.trans (hb.mono D18.out.size)).mono B4.out.size)
  go_wp2
  go_ret
  exact ⟨rfl, hfin⟩

/-! ### THE ROW's STEP -/
set_option maxRecDepth 100000 in
theorem contract (H : Type) (enc : TypeId × Value → H) (W : World) (base : Nat) (args : Array Value) (ds gs : List (DataW H)) (before : List MemPlace)
    (hval : ∀ (j : Nat) t v, Try.f5.params[j]? = some t → args[j]? = some v → Value.okWide Try.prog W .any base t v)
    (hW : DataW.Whole enc Try.prog Try.f5.params.toList Rows.fnExactUnfoldSpec.vars false W args.toList ds gs before) (hL : laidMetH Try.prog Rows.fnExactUnfoldRow.laid W) (hS : W.ShapedOpen Try.prog) :
    Calls Try.prog 5 args W fun e W' => ∃ v, e = .returned v ∧ Rows.fnExactUnfoldSpec.post enc Try.prog Try.f5 false true false false W args v W' := by
  have hW' := hW
  obtain ⟨p, q, hA0, hV, rfl, hfz, hnd⟩ := hW
  have hA : DataW.TrodAll enc Try.prog W 0 (fun _ => true) true Try.f5.params.toList args.toList ds p := hA0
  rw [Try.params5] at hA hval
  obtain ⟨v0, vs0, d0, ds0, p0, q0, hargs, rfl, rfl, h0, r0⟩ := trodAll_cons hA
  obtain ⟨v1, vs1, d1, ds1, p1, q1, rfl, rfl, rfl, h1, r1⟩ := trodAll_cons r0
  obtain ⟨rfl, rfl, rfl⟩ := trodAll_nil r1
  obtain rfl : args = #[v0, v1] := by cases args; simp_all
  obtain ⟨rfl, rfl⟩ := trodVars_none hV
  have k0 := h0
  have lt0 : ∀ x ∈ p0, x.block < W.heap.size := by obtain ⟨m, hm⟩ := k0; exact DataW.trod_lt m _ _ _ hm
  obtain ⟨a0, n0, c0, rfl⟩ := okWide_slice Try.underlying32 (hval 0 32 v0 rfl rfl)
  obtain ⟨z0, w0⟩ : ∃ zs, IsRow .i64 W a0 n0 c0 zs := by
    obtain ⟨fuel, hf⟩ := h0
    rcases open_ints Try.underlying32 Try.underlying3 (by kernel_rfl) hf with ⟨hcs, _⟩ | ⟨x, l, c, zs, hcs, _, hl, hm, hz, _, hcell, hwz⟩
    · simp [Value.cells] at hcs
      obtain ⟨rfl, rfl, rfl⟩ := hcs
      exact ⟨[], .inl ⟨rfl, rfl, rfl, rfl⟩⟩
    · simp [Value.cells] at hcs
      obtain ⟨rfl, rfl, rfl⟩ := hcs
      exact ⟨zs, .inr ⟨_, rfl, hl, hm, by simpa using hz, hcell, hwz⟩⟩
  have k1 := h1
  have lt1 : ∀ x ∈ p1, x.block < W.heap.size := by obtain ⟨m, hm⟩ := k1; exact DataW.trod_lt m _ _ _ hm
  obtain ⟨a1, s1, rfl, w1⟩ := open_atomV Try.underlying34 (by kernel_rfl) (by kernel_rfl) ⟨rfl, rfl⟩ ⟨rfl, rfl⟩ Try.underlying3 Try.underlying9 (by kernel_rfl) (hval 1 34 v1 rfl rfl) h1
  clear hA0 hval
  refine (walk a0 n0 c0 z0 a1 s1 W hS  w0 w1).mono fun e W' ⟨he, bel⟩ => ?_
  subst he
  exact ⟨_, rfl, _, _, _, [], _, [], hW', trodAll_mk1 (shut_bool Try.underlying4 _), (trodAll_cons_mk (Below.trod laidOut (by kernel_rfl) (of_decide_eq_true (by kernel_rfl)) k0 bel lt0) (trodAll_cons_mk (Below.trod laidOut (by kernel_rfl) (of_decide_eq_true (by kernel_rfl)) k1 bel lt1) trodAll_mk0)), rfl, bel.frame _, fun h => by cases h⟩

theorem reads (os : Os) {H : Type} (enc : TypeId × Value → H) : ∃ places, DataW.whole enc Try.prog ((World.holding Try.prog os ⟨#[], #[], []⟩).forCall (fun _ _ => 0) ⟨#[], #[.slice none 0 0, .agg #[.int .i64 0, .string ByteArray.empty]], []⟩).memory Try.f5.params.toList Rows.fnExactUnfoldSpec.vars false (#[.slice none 0 0, .agg #[.int .i64 0, .string ByteArray.empty]] : Array Value).toList 8 = some ([.nil, .agg [.lit (.int .i64 0), .lit (.string [])]], [], places) :=
  ⟨[], by kernel_rfl⟩

set_option maxRecDepth 100000 in
theorem lifted (os : Os) (started : os.Started) (H : Type) (enc : TypeId × Value → H) (F : Stop.Interp) :
    ReturnsInHanded {} Try.checked os 5 .any ((OpenSpec.ofChange Rows.fnExactUnfoldSpec).preRow enc Try.prog Try.f5 Rows.fnExactUnfoldRow.domain false Rows.fnExactUnfoldRow.laid) (((OpenSpec.ofChange Rows.fnExactUnfoldSpec).at F).post enc Try.prog Try.f5 false true false false) := by
  obtain ⟨places, hx⟩ := reads os enc
  refine returnsInHanded_of_row (C := Try.checked) (s := OpenSpec.ofChange Rows.fnExactUnfoldSpec) own started (by kernel_rfl) Try.func5
    (witness_row_atRef (enc := enc) (C := Try.checked) false (World.holding Try.prog os ⟨#[], #[], []⟩) #[.slice none 0 0, .agg #[.int .i64 0, .string ByteArray.empty]] rfl (by kernel_rfl) (by kernel_rfl) (by kernel_rfl)
      (OpenSpec.preRow_of_cond 8 hx (by kernel_rfl) (fun k hk => by cases hk) (by kernel_rfl) ⟨[], rfl, List.nodup_nil, fun b off h => by cases h⟩)) ?_
  intro W base args ds gs before hval hW _ _ _ hL hS _
  exact contract H enc W base args ds gs before hval hW hL hS

theorem said : Rows.FnExactUnfoldSaid :=
  OpenClaim.holds_of_cond 5 Try.f5 rfl rfl rfl rfl rfl rfl rfl ⟨rfl, rfl, rfl, rfl, rfl⟩ rfl rfl rfl rfl rfl (by kernel_rfl) Try.func5 (by kernel_rfl)
    (of_decide_eq_true (by kernel_rfl)) (by unfold Func.isWrapper; first | (rw [if_pos (by decide +kernel)]; kernel_rfl) | (rw [if_neg (by decide +kernel)]; exact ⟨rfl, rfl⟩))
    (fun os started H enc _ F => by rw [OpenClaim.pre_eq_preRow]; exact lifted os started H enc F)

theorem proved : Rows.FnExactUnfoldSaid := said
#print axioms proved
end Go.Proofs.Ytnjbaomekbiflaa.fnExactUnfold
