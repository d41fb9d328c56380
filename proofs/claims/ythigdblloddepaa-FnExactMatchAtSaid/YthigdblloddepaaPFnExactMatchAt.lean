/-
  laws.FnExactMatchAt returns true whatever the dictionary, the strokes and the index: impl.MatchAt answers as the specification and leaves its arguments. Conditions: none but the row's own.
-/
import Derived.Test.YthigdblloddepaaRows
import Derived.WalkKit
import Derived.ProofKit
import Derived.OpenShut
import Derived.ShutString
import Derived.ChangeOld
import Derived.Below
import Derived.SliceStrings
import Derived.JoinedCond
import Derived.Deep.DeepHandedRow
import Derived.Deep.DeepWitnessRowRef
import Derived.Lib.Hide
import Derived.Test.YthigdblloddepaaImC
namespace Go.Proofs.Ythigdblloddepaa.fnExactMatchAt
open Go.ChangeShapes Go.WideShapes Go.ChangeAt Go.RowKit
open Go.ChangeMaps (open_string shut_string)
set_option linter.unusedVariables false
set_option maxRecDepth 100000

theorem own : ownKnob Try.prog.godebug = none := by kernel_rfl
theorem laidOut : laidOutB Try.prog = true := by kernel_rfl

/-- A slice of integers that came in. -/
def IsRow (k : IntKind) (w : World) (a : Option Addr) (len cap : Nat) (zs : List Int) : Prop :=
  (a = none ∧ len = 0 ∧ cap = 0 ∧ zs = []) ∨
  ∃ x, a = some x ∧ len ≤ cap ∧ cap ≤ maxLen ∧ zs.length = cap ∧ (∀ i, i < zs.length → w.cell? (x.add i) = some (.int k (zs.getD i 0))) ∧ ∀ n ∈ zs, (Lit.int k n).wf = true

theorem ints_of {w : World} {a : Option Addr} {n c : Nat} {z : List Int} (h : IsRow .i64 w a n c z) : (z.take n).length = n ∧ n ≤ maxLen ∧ IntsAt w (.slice a n c) (z.take n) := by
  rcases h with ⟨rfl, rfl, rfl, rfl⟩ | ⟨x, rfl, hl, hm, hs, hcell, hz⟩
  · exact ⟨rfl, by decide, IntsAt.nil _ _ _⟩
  · have hlen : (z.take n).length = n := by rw [List.length_take]; omega
    refine ⟨hlen, by omega, ?_⟩
    by_cases h0 : n = 0
    · subst h0; exact IntsAt.nil _ _ _
    · obtain ⟨b, o, spot⟩ := x
      have h1 := hcell 0 (by omega)
      have hspot : spot = none := by simpa [Addr.add] using World.cell?_spot h1
      subst hspot
      refine ⟨_, c, by rw [hlen], by rw [hlen]; exact hl, .inr ⟨b, o, rfl, ?_, fun j y hy => ?_⟩⟩
      · have : (w.cell? ⟨b, o, none⟩).isSome := by have := h1; simp [Addr.add] at this; rw [this]; rfl
        rcases Nat.lt_or_ge b w.heap.size with h' | h'
        · exact h'
        · simp [World.cell?, Array.getElem?_eq_none h'] at this
      · have hj : j < n := by
          rcases Nat.lt_or_ge j n with h' | h'
          · exact h'
          · rw [List.getElem?_eq_none (by rw [hlen]; exact h')] at hy; cases hy
        have h2 := hcell j (by omega)
        rw [List.getElem?_take_of_lt hj] at hy
        by_cases hj0 : j = 0
        · subst hj0; simpa [Addr.add, List.getD, hy] using h2
        · simpa [Addr.add, List.getD, hy, hj0] using h2
/-! ### THE WALK: the Go text returns true, and writes nothing that was there. -/
set_option maxRecDepth 100000 in
set_option maxHeartbeats 8000000 in
theorem walk (u0 : Value) (d0 : List Ent) (a1 : Option Addr) (n1 c1 : Nat) (z1 : List Int) (a2 : Int) (w : World) (hS : w.ShapedOpen Try.prog)  (w0 : EntsIn w u0 d0) (w1 : IsRow .i64 w a1 n1 c1 z1) (w2 : (Lit.int .i64 a2).wf = true) :
    Calls Try.prog 3 #[dV u0, .slice a1 n1 c1, .int .i64 a2] w fun e w' => e = .returned (.bool true) ∧ Below w.heap.size w w' := by
  obtain ⟨hat, hlen, hfine⟩ := w0
  obtain ⟨hlen1, hnm1, hrow1⟩ := ints_of w1
  obtain ⟨ys, hzs1⟩ : ∃ ys, ys = z1.take n1 := ⟨_, rfl⟩
  rw [← hzs1] at hlen1 hrow1
  unfold maxLen at hnm1
  clear w1 hzs1 hS
  have CZ := Lib.hid (fun w' hb => szD_any u0 d0 w' ⟨hat.below (w' := w') hb, hlen, hfine⟩)
  have CT := Lib.hid (fun hn hx w' hb => toD_any u0 d0 w' (hat.below (w' := w') hb) hn hx)
  have CE := Lib.hid (fun u v w h h' hn hx => eqD_same u v d0 w h h' hn hx)
  obtain ⟨P, b, hX⟩ : ∃ (P : Pc) (b : Bool), mtE d0 ys a2 = .returned (.tuple #[pcV P, .bool b]) := ⟨_, _, rfl⟩
  by_cases hbig : 1048576 < n1
  · obtain ⟨a, cap, rfl, hcap, _⟩ := hat.cells
    clear hat hlen hfine CZ CT CE hX hlen1 hrow1
    unfold dV
    go_enter Try.func3, Try.ntmps3
    go_wp2
    go_ret
    exact ⟨rfl, below_al _ _⟩
  · have cs := fun v u w h h' hn hx => specMatchAt_any v d0 u ys a2 w h h' hn hx (by omega)
    have ci := fun v u w h h' hn hx => MatchAt_any v d0 u ys a2 w h h' hn hx (by omega)
    rw [hX] at cs ci
    have CQ := Lib.hid (fun w => eqPc_same P w)
    obtain ⟨pf, pc, pt⟩ := P
    have CS := Lib.hid cs
    have CI := Lib.hid ci
    have CY := Lib.hid (fun w' hb => toI_any _ ys w' (hrow1.below (w' := w') hb) (by omega))
    have CYE := Lib.hid (fun v u w h h' => eqI_same v u ys w h h' (by omega))
    obtain ⟨a, cap, rfl, hcap, _⟩ := hat.cells
    obtain ⟨n, hnn⟩ : ∃ n, n = d0.length := ⟨_, rfl⟩
    have HN := Lib.hid hnn
    unfold dV at CZ CT CS CI CE ⊢
    rw [← hnn] at CZ CT CS CI CE hcap ⊢
    clear cs ci hat hlen hfine hX hnn hlen1 hrow1
    go_enter Try.func3, Try.ntmps3
    go_wp2_with fail
    refine (CZ.out _ (below_al _ _)).mono ?_
    rintro r w1 ⟨⟨q, rfl, hq⟩, hb⟩
    have A1 : Hid (BoxV w1 w.heap.size 24 (.slice a n cap)) := (BoxV.new w _ _).below hb (by simp)
    have HB1 := Lib.hid (below_box hb)
    clear hb
    rcases hq with rfl | ⟨hq0, hn, hx⟩
    · go_wp2
      go_ret
      exact ⟨rfl, HB1.out⟩
    · have hnq : ¬ q < 0 := by omega
      have CT1 := Lib.hid (CT.out hn hx)
      have CS1 := Lib.hid (fun v u w h h' => CS.out v u w h h' (by omega) (fun e he => (hx e he).ok))
      have CI1 := Lib.hid (fun v u w h h' => CI.out v u w h h' (by omega) (fun e he => (hx e he).ok))
      have CE1 := Lib.hid (fun u v w h h' => CE.out u v w h h' (by omega) (fun e he => (hx e he).ok))
      have c1 := A1.out.cell
      clear CT CS CI CE CZ hx hn hq0
      go_wp2_with fail
      refine (CT1.out w1 HB1.out).mono ?_
      rintro r w2 ⟨⟨u2, rfl, hu2⟩, hb⟩
      have U2 := Lib.hid hu2.at
      have A2 := Lib.hid (A1.out.below hb A1.out.lt)
      have HB2 := Lib.hid (below_step HB1.out hb)
      obtain ⟨ua2, uc2, rfl, _, _⟩ := hu2.at.cells
      rw [← HN.out] at U2
      rw [← HN.out]
      clear hb hu2 A1 HB1 c1
      go_wp2_with fail
      refine (CY.out w2 HB2.out).mono ?_
      rintro r wa ⟨y2, rfl, hy2, hb⟩
      have Y2 := Lib.hid hy2
      have Ua := Lib.hid (U2.out.below hb)
      have Aa := Lib.hid (A2.out.below hb A2.out.lt)
      have HBa := Lib.hid (below_step HB2.out hb)
      clear hb hy2 U2 A2 HB2
      go_wp2_with fail
      refine (CS1.out _ _ wa Ua.out Y2.out).mono ?_
      rintro r w3 ⟨rfl, hb⟩
      have P3 := Lib.hid (show PcB (w3.alloc (.cells #[.int .i64 pf, .int .i64 pc, .string pt] 28)) w3.heap.size (pf, pc, pt) from PcB.new w3 (pf, pc, pt))
      have A3 : Hid (BoxV (w3.alloc (.cells #[.int .i64 pf, .int .i64 pc, .string pt] 28)) w.heap.size 24 (.slice a n cap)) := (Aa.out.below hb Aa.out.lt).below (below_al _ _) (by have := Aa.out.lt; have := hb.size; omega)
      have HB3 : Hid (Below w.heap.size w (w3.alloc (.cells #[.int .i64 pf, .int .i64 pc, .string pt] 28))) := below_step (below_step HBa.out hb) (below_al _ _)
      have c3 := A3.out.cell
      clear hb Aa HBa Ua Y2
      go_wp2_with fail
      refine (CT1.out _ HB3.out).mono ?_
      rintro r w4 ⟨⟨u4, rfl, hu4⟩, hb⟩
      obtain ⟨ua4, uc4, rfl, _, _⟩ := hu4.at.cells
      have U4 : Hid (EntsAt (w4.alloc (.cells #[.slice ua4 n uc4] 33)) (.slice ua4 n uc4) d0) := by have := hu4.at; rw [← HN.out] at this; exact this.below (below_al _ _)
      have A4 : Hid (BoxV (w4.alloc (.cells #[.slice ua4 n uc4] 33)) w.heap.size 24 (.slice a n cap)) := (A3.out.below hb A3.out.lt).below (below_al _ _) (by have := A3.out.lt; have := hb.size; omega)
      have X4 : Hid (BoxV (w4.alloc (.cells #[.slice ua4 n uc4] 33)) w4.heap.size 33 (.slice ua4 n uc4)) := BoxV.new _ _ _
      have HB4 : Hid (Below w.heap.size w (w4.alloc (.cells #[.slice ua4 n uc4] 33))) := below_step (below_step HB3.out hb) (below_al _ _)
      have P4 : Hid (PcB (w4.alloc (.cells #[.slice ua4 n uc4] 33)) w3.heap.size (pf, pc, pt)) := (P3.out.below hb P3.out.lt).below (below_al _ _) (by have := P3.out.lt; have := hb.size; omega)
      rw [← HN.out]
      clear hb hu4 A3 HB3 c3 P3
      go_wp2_with fail
      refine (CY.out _ HB4.out).mono ?_
      rintro r wb ⟨y4, rfl, hy4, hb⟩
      have Y4 := Lib.hid hy4
      have Ub := Lib.hid (U4.out.below hb)
      have Ab := Lib.hid (A4.out.below hb A4.out.lt)
      have Xb := Lib.hid (X4.out.below hb X4.out.lt)
      have HBb := Lib.hid (below_step HB4.out hb)
      have Pb := Lib.hid (P4.out.below hb P4.out.lt)
      have xb := Xb.out.cell
      obtain ⟨ya4, yc4, rfl, _, _⟩ := hy4.cells
      clear hb hy4 U4 A4 X4 HB4 P4
      go_wp2_with fail
      refine (CI1.out _ _ wb Ub.out Y4.out).mono ?_
      rintro r w5 ⟨rfl, hb⟩
      have hb5 : Below wb.heap.size wb (w5.alloc (.cells #[.int .i64 pf, .int .i64 pc, .string pt] 28)) := below_step hb (below_al _ _)
      have A5 := Lib.hid (Ab.out.below hb5 Ab.out.lt)
      have X5 := Lib.hid (Xb.out.below hb5 Xb.out.lt)
      have U5 := Lib.hid (Ub.out.below hb5)
      have Y5 := Lib.hid (Y4.out.below hb5)
      have P5 := Lib.hid (Pb.out.below hb5 Pb.out.lt)
      have G5 := Lib.hid (show PcB (w5.alloc (.cells #[.int .i64 pf, .int .i64 pc, .string pt] 28)) w5.heap.size (pf, pc, pt) from PcB.new w5 (pf, pc, pt))
      have HB5 := Lib.hid (below_step HBb.out hb5)
      obtain ⟨p0, p1, p2⟩ := P5.out.cells
      obtain ⟨q0, q1, q2⟩ := G5.out.cells
      clear hb hb5 Ab Xb Ub HBb Y4 xb Pb
      go_wp2_with fail
      refine (CQ.out _).mono ?_
      rintro r w5' ⟨rfl, hb⟩
      have A5' := Lib.hid (A5.out.below hb A5.out.lt)
      have X5' := Lib.hid (X5.out.below hb X5.out.lt)
      have U5' := Lib.hid (U5.out.below hb)
      have Y5' := Lib.hid (Y5.out.below hb)
      have HB5' := Lib.hid (below_step HB5.out hb)
      have c5 := A5'.out.cell
      have x5 := X5'.out.cell
      clear hb A5 X5 U5 Y5 HB5 P5 G5 p0 p1 p2 q0 q1 q2
      go_wp2_with fail
      go_region_with (first
        | (go_at_call 10
           refine (CT1.out _ (by repeat (first | exact HB5'.out | apply Below.drew))).mono ?_
           rintro r w6 ⟨⟨u6, rfl, hu6⟩, hb⟩
           have hbx : Below w5'.heap.size w5' w6 := Below.trans (by repeat (first | exact Below.refl _ _ | apply Below.drew)) hb
           have HU6 := Lib.hid hu6.at
           have HBX := Lib.hid hbx
           have x6 := (X5'.out.below hbx X5'.out.lt).cell
           obtain ⟨ua6, uc6, rfl, _, _⟩ := hu6.at.cells
           rw [← HN.out]
           rw [← HN.out] at HU6
           clear hu6 hb hbx)
        | (go_at_call 14
           refine (CE1.out _ _ _ ((U5'.out.below HBX.out).below (by repeat (first | exact Below.refl _ _ | apply Below.drew))) (HU6.out.below (by repeat (first | exact Below.refl _ _ | apply Below.drew)))).mono ?_
           rintro r w7 ⟨rfl, hb⟩
           have hb57 : Below w5'.heap.size w5' w7 := below_step HBX.out (Below.trans (by repeat (first | exact Below.refl _ _ | apply Below.drew)) hb)
           have HB7 : Hid (Below w.heap.size w w7) := below_step HB5'.out hb57
           have HY7 := Lib.hid (Y5'.out.below hb57)
           clear hb hb57))
      all_goals go_wp2_with fail
      all_goals refine (CY.out _ (by repeat (first | exact HB7.out | apply Below.drew))).mono ?_
      all_goals rintro r w8 ⟨y8, rfl, hy8, hb⟩
      all_goals have HB8 : Hid (Below w.heap.size w w8) := below_step (by repeat (first | exact HB7.out | apply Below.drew)) hb
      all_goals have HY8 := Lib.hid ((HY7.out.below (by repeat (first | exact Below.refl _ _ | apply Below.drew))).below hb)
      all_goals obtain ⟨ya8, yc8, rfl, _, _⟩ := hy8.cells
      all_goals have HY8' := Lib.hid hy8
      all_goals clear hb hy8
      all_goals go_wp2_with fail
      all_goals refine (CYE.out _ _ w8 HY8.out HY8'.out).mono ?_
      all_goals rintro r w9 ⟨rfl, hb⟩
      all_goals have HB9 : Hid (Below w.heap.size w w9) := below_step HB8.out hb
      all_goals clear hb
      all_goals go_wp2
      all_goals go_ret
      all_goals exact ⟨rfl, HB9.out⟩

/-! ### THE ROW's STEP -/
set_option maxRecDepth 100000 in
theorem contract (H : Type) (enc : TypeId × Value → H) (W : World) (base : Nat) (args : Array Value) (ds gs : List (DataW H)) (before : List MemPlace)
    (hval : ∀ (j : Nat) t v, Try.f3.params[j]? = some t → args[j]? = some v → Value.okWide Try.prog W .any base t v)
    (hW : DataW.Whole enc Try.prog Try.f3.params.toList Rows.fnExactMatchAtSpec.vars false W args.toList ds gs before) (hL : laidMetH Try.prog Rows.fnExactMatchAtRow.laid W) (hS : W.ShapedOpen Try.prog) :
    Calls Try.prog 3 args W fun e W' => ∃ v, e = .returned v ∧ Rows.fnExactMatchAtSpec.post enc Try.prog Try.f3 false true false false W args v W' := by
  have hW' := hW
  obtain ⟨p, q, hA0, hV, rfl, hfz, hnd⟩ := hW
  have hA : DataW.TrodAll enc Try.prog W 0 (fun _ => true) true Try.f3.params.toList args.toList ds p := hA0
  rw [Try.params3] at hA hval
  obtain ⟨v0, vs0, d0, ds0, p0, q0, hargs, rfl, rfl, h0, r0⟩ := trodAll_cons hA
  obtain ⟨v1, vs1, d1, ds1, p1, q1, rfl, rfl, rfl, h1, r1⟩ := trodAll_cons r0
  obtain ⟨v2, vs2, d2, ds2, p2, q2, rfl, rfl, rfl, h2, r2⟩ := trodAll_cons r1
  obtain ⟨rfl, rfl, rfl⟩ := trodAll_nil r2
  obtain rfl : args = #[v0, v1, v2] := by cases args; simp_all
  obtain ⟨rfl, rfl⟩ := trodVars_none hV
  have k0 := h0
  have lt0 : ∀ x ∈ p0, x.block < W.heap.size := by obtain ⟨m, hm⟩ := k0; exact DataW.trod_lt m _ _ _ hm
  obtain ⟨u0, d0, rfl, w0⟩ := open_dictV Try.underlying24 (by kernel_rfl) (by kernel_rfl) ⟨rfl, rfl⟩ Try.underlying22 Try.underlying85 (by kernel_rfl) (by kernel_rfl) (by kernel_rfl) (by kernel_rfl) ⟨rfl, rfl⟩ ⟨rfl, rfl⟩ Try.underlying25 Try.underlying3 Try.underlying9 (hval 0 24 v0 rfl rfl) h0
  have k1 := h1
  have lt1 : ∀ x ∈ p1, x.block < W.heap.size := by obtain ⟨m, hm⟩ := k1; exact DataW.trod_lt m _ _ _ hm
  obtain ⟨a1, n1, c1, rfl⟩ := okWide_slice Try.underlying25 (hval 1 25 v1 rfl rfl)
  obtain ⟨z1, w1⟩ : ∃ zs, IsRow .i64 W a1 n1 c1 zs := by
    obtain ⟨fuel, hf⟩ := h1
    rcases open_ints Try.underlying25 Try.underlying3 (by kernel_rfl) hf with ⟨hcs, _⟩ | ⟨x, l, c, zs, hcs, _, hl, hm, hz, _, hcell, hwz⟩
    · simp [Value.cells] at hcs
      obtain ⟨rfl, rfl, rfl⟩ := hcs
      exact ⟨[], .inl ⟨rfl, rfl, rfl, rfl⟩⟩
    · simp [Value.cells] at hcs
      obtain ⟨rfl, rfl, rfl⟩ := hcs
      exact ⟨zs, .inr ⟨_, rfl, hl, hm, by simpa using hz, hcell, hwz⟩⟩
  have k2 := h2
  have lt2 : ∀ x ∈ p2, x.block < W.heap.size := by obtain ⟨m, hm⟩ := k2; exact DataW.trod_lt m _ _ _ hm
  obtain ⟨a2, rfl, rfl, rfl, w2⟩ := open_int Try.underlying3 (hval 2 3 v2 rfl rfl) h2
  clear hA0 hval
  refine (walk u0 d0 a1 n1 c1 z1 a2 W hS  w0 w1 w2).mono fun e W' ⟨he, bel⟩ => ?_
  subst he
  exact ⟨_, rfl, _, _, _, [], _, [], hW', trodAll_mk1 (shut_bool Try.underlying4 _), (trodAll_cons_mk (Below.trod laidOut (by kernel_rfl) (of_decide_eq_true (by kernel_rfl)) k0 bel lt0) (trodAll_cons_mk (Below.trod laidOut (by kernel_rfl) (of_decide_eq_true (by kernel_rfl)) k1 bel lt1) (trodAll_cons_mk (Below.trod laidOut (by kernel_rfl) (of_decide_eq_true (by kernel_rfl)) k2 bel lt2) trodAll_mk0))), rfl, bel.frame _, fun h => by cases h⟩

theorem reads (os : Os) {H : Type} (enc : TypeId × Value → H) : ∃ places, DataW.whole enc Try.prog ((World.holding Try.prog os ⟨#[], #[], []⟩).forCall (fun _ _ => 0) ⟨#[], #[.agg #[.slice none 0 0], .slice none 0 0, .int .i64 0], []⟩).memory Try.f3.params.toList Rows.fnExactMatchAtSpec.vars false (#[.agg #[.slice none 0 0], .slice none 0 0, .int .i64 0] : Array Value).toList 8 = some ([.agg [.nil], .nil, .lit (.int .i64 0)], [], places) :=
  ⟨[], by kernel_rfl⟩

set_option maxRecDepth 100000 in
theorem lifted (os : Os) (started : os.Started) (H : Type) (enc : TypeId × Value → H) (F : Stop.Interp) :
    ReturnsInHanded {} Try.checked os 3 .any ((OpenSpec.ofChange Rows.fnExactMatchAtSpec).preRow enc Try.prog Try.f3 Rows.fnExactMatchAtRow.domain false Rows.fnExactMatchAtRow.laid) (((OpenSpec.ofChange Rows.fnExactMatchAtSpec).at F).post enc Try.prog Try.f3 false true false false) := by
  obtain ⟨places, hx⟩ := reads os enc
  refine returnsInHanded_of_row (C := Try.checked) (s := OpenSpec.ofChange Rows.fnExactMatchAtSpec) own started (by kernel_rfl) Try.func3
    (witness_row_atRef (enc := enc) (C := Try.checked) false (World.holding Try.prog os ⟨#[], #[], []⟩) #[.agg #[.slice none 0 0], .slice none 0 0, .int .i64 0] rfl (by kernel_rfl) (by kernel_rfl) (by kernel_rfl)
      (OpenSpec.preRow_of_cond 8 hx (by kernel_rfl) (fun k hk => by cases hk) (by kernel_rfl) ⟨[], rfl, List.nodup_nil, fun b off h => by cases h⟩)) ?_
  intro W base args ds gs before hval hW _ _ _ hL hS _
  exact contract H enc W base args ds gs before hval hW hL hS

theorem said : Rows.FnExactMatchAtSaid :=
  OpenClaim.holds_of_cond 3 Try.f3 rfl rfl rfl rfl rfl rfl rfl ⟨rfl, rfl, rfl, rfl, rfl⟩ rfl rfl rfl rfl rfl (by kernel_rfl) Try.func3 (by kernel_rfl)
    (of_decide_eq_true (by kernel_rfl)) (by unfold Func.isWrapper; first | (rw [if_pos (by decide +kernel)]; kernel_rfl) | (rw [if_neg (by decide +kernel)]; exact ⟨rfl, rfl⟩))
    (fun os started H enc _ F => by rw [OpenClaim.pre_eq_preRow]; exact lifted os started H enc F)

theorem proved : Rows.FnExactMatchAtSaid := said
#print axioms proved
end Go.Proofs.Ythigdblloddepaa.fnExactMatchAt
