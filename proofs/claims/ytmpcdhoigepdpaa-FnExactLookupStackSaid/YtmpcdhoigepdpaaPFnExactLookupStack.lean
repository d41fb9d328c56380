/-
  laws.FnExactLookupStack returns true whatever the stack and the list of ints: impl.LookupStack answers as the specification and leaves its arguments. Conditions: none but the row's own.
-/
import Derived.Test.YtmpcdhoigepdpaaRows
import Derived.WalkKit
import Derived.ProofKit
import Derived.OpenShut
import Derived.ShutString
import Derived.ChangeOld
import Derived.Below
import Derived.SliceStrings
import Derived.JoinedCond
import Derived.Deep.DeepHandedRow
import Derived.Deep.DeepWitnessRowRef
import Derived.Lib.Hide
import Derived.Test.YtmpcdhoigepdpaaLkS
namespace Go.Proofs.Ytmpcdhoigepdpaa.fnExactLookupStack
open Go.ChangeShapes Go.WideShapes Go.ChangeAt Go.RowKit
open Go.ChangeMaps (open_string shut_string)
set_option linter.unusedVariables false
set_option maxRecDepth 100000

theorem own : ownKnob Try.prog.godebug = none := by kernel_rfl
theorem laidOut : laidOutB Try.prog = true := by kernel_rfl

/-- A slice of integers that came in. -/
def IsRow (k : IntKind) (w : World) (a : Option Addr) (len cap : Nat) (zs : List Int) : Prop :=
  (a = none ∧ len = 0 ∧ cap = 0 ∧ zs = []) ∨
  ∃ x, a = some x ∧ len ≤ cap ∧ cap ≤ maxLen ∧ zs.length = cap ∧ (∀ i, i < zs.length → w.cell? (x.add i) = some (.int k (zs.getD i 0))) ∧ ∀ n ∈ zs, (Lit.int k n).wf = true

theorem ints_of {w : World} {a : Option Addr} {n c : Nat} {z : List Int} (h : IsRow .i64 w a n c z) : (z.take n).length = n ∧ n ≤ maxLen ∧ IntsAt w (.slice a n c) (z.take n) := by
  rcases h with ⟨rfl, rfl, rfl, rfl⟩ | ⟨x, rfl, hl, hm, hs, hcell, hz⟩
  · exact ⟨rfl, by decide, IntsAt.nil _ _ _⟩
  · have hlen : (z.take n).length = n := by rw [List.length_take]; omega
    refine ⟨hlen, by omega, ?_⟩
    by_cases h0 : n = 0
    · subst h0; exact IntsAt.nil _ _ _
    · obtain ⟨b, o, spot⟩ := x
      have h1 := hcell 0 (by omega)
      have hspot : spot = none := by simpa [Addr.add] using World.cell?_spot h1
      subst hspot
      refine ⟨_, c, by rw [hlen], by rw [hlen]; exact hl, .inr ⟨b, o, rfl, ?_, fun j y hy => ?_⟩⟩
      · have : (w.cell? ⟨b, o, none⟩).isSome := by have := h1; simp [Addr.add] at this; rw [this]; rfl
        rcases Nat.lt_or_ge b w.heap.size with h' | h'
        · exact h'
        · simp [World.cell?, Array.getElem?_eq_none h'] at this
      · have hj : j < n := by
          rcases Nat.lt_or_ge j n with h' | h'
          · exact h'
          · rw [List.getElem?_eq_none (by rw [hlen]; exact h')] at hy; cases hy
        have h2 := hcell j (by omega)
        rw [List.getElem?_take_of_lt hj] at hy
        by_cases hj0 : j = 0
        · subst hj0; simpa [Addr.add, List.getD, hy] using h2
        · simpa [Addr.add, List.getD, hy, hj0] using h2
/-! ### THE WALK: the Go text returns true, and writes nothing that was there. -/
set_option maxRecDepth 100000 in
set_option maxHeartbeats 8000000 in
theorem walk (u0 : Value) (d0 : List Lay) (a1 : Option Addr) (n1 c1 : Nat) (z1 : List Int) (w : World) (hS : w.ShapedOpen Try.prog)  (w0 : LaysIn w u0 d0) (w1 : IsRow .i64 w a1 n1 c1 z1) :
    Calls Try.prog 5 #[dV u0, .slice a1 n1 c1] w fun e w' => e = .returned (.bool true) ∧ Below w.heap.size w w' := by
  obtain ⟨hat, hlen, hfine⟩ := w0
  obtain ⟨hlen1, hnm1, hrow1⟩ := ints_of w1
  obtain ⟨ys, hzs1⟩ : ∃ ys, ys = z1.take n1 := ⟨_, rfl⟩
  rw [← hzs1] at hlen1 hrow1
  unfold maxLen at hnm1
  clear w1 hzs1 hS
  have CZ := Lib.hid (fun w' hb => szS_any u0 d0 w' ⟨hat.below (w' := w') hb, hlen, hfine⟩)
  have CT := Lib.hid (fun hn hx w' hb => toS_any u0 d0 w' (hat.below (w' := w') hb) hn hx)
  have CE := Lib.hid (fun u v w h h' hn hx => eqS_same u v d0 w h h' hn hx)
  obtain ⟨x, li, b, hX⟩ : ∃ (x : ByteArray) (li : Nat) (b : Bool), lkKE (lkK ys d0) = .returned (.tuple #[.string x, .int .i64 (li : Int), .bool b]) := ⟨_, _, _, rfl⟩
  by_cases hbig : 1048576 < n1
  · obtain ⟨a, cap, rfl, hcap, _⟩ := hat.cells
    clear hat hlen hfine CZ CT CE hX hlen1 hrow1
    unfold dV
    go_enter Try.func5, Try.ntmps5
    go_wp2
    go_ret
    exact ⟨rfl, below_al _ _⟩
  · have cs := fun v u w h h' hn hx => specLookupK_any v d0 u ys w h h' hn hx (by omega)
    have ci := fun v u w h h' hn hx => LookupK_any v d0 u ys w h h' hn hx (by omega)
    rw [hX] at cs ci
    have CS := Lib.hid cs
    have CI := Lib.hid ci
    have CY := Lib.hid (fun w' hb => toI_any _ ys w' (hrow1.below (w' := w') hb) (by omega))
    have CYE := Lib.hid (fun v u w h h' => eqI_same v u ys w h h' (by omega))
    obtain ⟨a, cap, rfl, hcap, _⟩ := hat.cells
    obtain ⟨n, hnn⟩ : ∃ n, n = d0.length := ⟨_, rfl⟩
    have HN := Lib.hid hnn
    unfold dV at CZ CT CS CI CE ⊢
    rw [← hnn] at CZ CT CS CI CE hcap ⊢
    clear cs ci hat hlen hfine hX hnn hlen1 hrow1
    go_enter Try.func5, Try.ntmps5
    go_wp2_with fail
    refine (CZ.out _ (below_al _ _)).mono ?_
    rintro r w1 ⟨⟨q, rfl, hq⟩, hb⟩
    have A1 : Hid (BoxV w1 w.heap.size 42 (.slice a n cap)) := (BoxV.new w _ _).below hb (by simp)
    have HB1 := Lib.hid (below_box hb)
    clear hb
    rcases hq with rfl | ⟨hq0, hn, hx⟩
    · go_wp2
      go_ret
      exact ⟨rfl, HB1.out⟩
    · have hnq : ¬ q < 0 := by omega
      have CT1 := Lib.hid (CT.out hn hx)
      have CS1 := Lib.hid (fun v u w h h' => CS.out v u w h h' (by omega) (fun e he => (hx e he).ok))
      have CI1 := Lib.hid (fun v u w h h' => CI.out v u w h h' (by omega) (fun e he => (hx e he).ok))
      have CE1 := Lib.hid (fun u v w h h' => CE.out u v w h h' (by omega) (fun e he => (hx e he).ok))
      have c1 := A1.out.cell
      clear CT CS CI CE CZ hx hn hq0
      go_wp2_with fail
      refine (CT1.out w1 HB1.out).mono ?_
      rintro r w2 ⟨⟨u2, rfl, hu2⟩, hb⟩
      have U2 := Lib.hid hu2.at
      have A2 := Lib.hid (A1.out.below hb A1.out.lt)
      have HB2 := Lib.hid (below_step HB1.out hb)
      obtain ⟨ua2, uc2, rfl, _, _⟩ := hu2.at.cells
      rw [← HN.out] at U2
      rw [← HN.out]
      clear hb hu2 A1 HB1 c1
      go_wp2_with fail
      refine (CY.out w2 HB2.out).mono ?_
      rintro r wa ⟨y2, rfl, hy2, hb⟩
      have Y2 := Lib.hid hy2
      have Ua := Lib.hid (U2.out.below hb)
      have Aa := Lib.hid (A2.out.below hb A2.out.lt)
      have HBa := Lib.hid (below_step HB2.out hb)
      clear hb hy2 U2 A2 HB2
      go_wp2_with fail
      refine (CS1.out _ _ wa Ua.out Y2.out).mono ?_
      rintro r w3 ⟨rfl, hb⟩
      have A3 := Lib.hid (Aa.out.below hb Aa.out.lt)
      have HB3 := Lib.hid (below_step HBa.out hb)
      have c3 := A3.out.cell
      clear hb Aa HBa Ua Y2
      go_wp2_with fail
      refine (CT1.out w3 HB3.out).mono ?_
      rintro r w4 ⟨⟨u4, rfl, hu4⟩, hb⟩
      obtain ⟨ua4, uc4, rfl, _, _⟩ := hu4.at.cells
      have U4 : Hid (LaysAt (w4.alloc (.cells #[.slice ua4 n uc4] 47)) (.slice ua4 n uc4) d0) := by have := hu4.at; rw [← HN.out] at this; exact this.below (below_al _ _)
      have A4 : Hid (BoxV (w4.alloc (.cells #[.slice ua4 n uc4] 47)) w.heap.size 42 (.slice a n cap)) := (A3.out.below hb A3.out.lt).below (below_al _ _) (by have := A3.out.lt; have := hb.size; omega)
      have X4 : Hid (BoxV (w4.alloc (.cells #[.slice ua4 n uc4] 47)) w4.heap.size 47 (.slice ua4 n uc4)) := BoxV.new _ _ _
      have HB4 : Hid (Below w.heap.size w (w4.alloc (.cells #[.slice ua4 n uc4] 47))) := below_step (below_step HB3.out hb) (below_al _ _)
      rw [← HN.out]
      clear hb hu4 A3 HB3 c3
      go_wp2_with fail
      refine (CY.out _ HB4.out).mono ?_
      rintro r wb ⟨y4, rfl, hy4, hb⟩
      have Y4 := Lib.hid hy4
      have Ub := Lib.hid (U4.out.below hb)
      have Ab := Lib.hid (A4.out.below hb A4.out.lt)
      have Xb := Lib.hid (X4.out.below hb X4.out.lt)
      have HBb := Lib.hid (below_step HB4.out hb)
      have xb := Xb.out.cell
      obtain ⟨ya4, yc4, rfl, _, _⟩ := hy4.cells
      clear hb hy4 U4 A4 X4 HB4
      go_wp2_with fail
      refine (CI1.out _ _ wb Ub.out Y4.out).mono ?_
      rintro r w5 ⟨rfl, hb⟩
      have A5 := Lib.hid (Ab.out.below hb Ab.out.lt)
      have X5 := Lib.hid (Xb.out.below hb Xb.out.lt)
      have U5 := Lib.hid (Ub.out.below hb)
      have Y5 := Lib.hid (Y4.out.below hb)
      have HB5 := Lib.hid (below_step HBb.out hb)
      have c5 := A5.out.cell
      have x5 := X5.out.cell
      clear hb Ab Xb Ub HBb Y4 xb
      go_wp2_with fail
      go_region_with (first
        | (go_at_call 18
           refine (CT1.out _ (by repeat (first | exact HB5.out | apply Below.drew))).mono ?_
           rintro r w6 ⟨⟨u6, rfl, hu6⟩, hb⟩
           have hbx : Below w5.heap.size w5 w6 := Below.trans (by repeat (first | exact Below.refl _ _ | apply Below.drew)) hb
           have HU6 := Lib.hid hu6.at
           have HBX := Lib.hid hbx
           have x6 := (X5.out.below hbx X5.out.lt).cell
           obtain ⟨ua6, uc6, rfl, _, _⟩ := hu6.at.cells
           rw [← HN.out]
           rw [← HN.out] at HU6
           clear hu6 hb hbx)
        | (go_at_call 20
           refine (CE1.out _ _ _ ((U5.out.below HBX.out).below (by repeat (first | exact Below.refl _ _ | apply Below.drew))) (HU6.out.below (by repeat (first | exact Below.refl _ _ | apply Below.drew)))).mono ?_
           rintro r w7 ⟨rfl, hb⟩
           have hb57 : Below w5.heap.size w5 w7 := below_step HBX.out (Below.trans (by repeat (first | exact Below.refl _ _ | apply Below.drew)) hb)
           have HB7 : Hid (Below w.heap.size w w7) := below_step HB5.out hb57
           have HY7 := Lib.hid (Y5.out.below hb57)
           clear hb hb57))
      all_goals go_wp2_with fail
      all_goals refine (CY.out _ (by repeat (first | exact HB7.out | apply Below.drew))).mono ?_
      all_goals rintro r w8 ⟨y8, rfl, hy8, hb⟩
      all_goals have HB8 : Hid (Below w.heap.size w w8) := below_step (by repeat (first | exact HB7.out | apply Below.drew)) hb
      all_goals have HY8 := Lib.hid ((HY7.out.below (by repeat (first | exact Below.refl _ _ | apply Below.drew))).below hb)
      all_goals obtain ⟨ya8, yc8, rfl, _, _⟩ := hy8.cells
      all_goals have HY8' := Lib.hid hy8
      all_goals clear hb hy8
      all_goals go_wp2_with fail
      all_goals refine (CYE.out _ _ w8 HY8.out HY8'.out).mono ?_
      all_goals rintro r w9 ⟨rfl, hb⟩
      all_goals have HB9 : Hid (Below w.heap.size w w9) := below_step HB8.out hb
      all_goals clear hb
      all_goals go_wp2
      all_goals go_ret
      all_goals exact ⟨rfl, HB9.out⟩

/-! ### THE ROW's STEP -/
set_option maxRecDepth 100000 in
theorem contract (H : Type) (enc : TypeId × Value → H) (W : World) (base : Nat) (args : Array Value) (ds gs : List (DataW H)) (before : List MemPlace)
    (hval : ∀ (j : Nat) t v, Try.f5.params[j]? = some t → args[j]? = some v → Value.okWide Try.prog W .any base t v)
    (hW : DataW.Whole enc Try.prog Try.f5.params.toList Rows.fnExactLookupStackSpec.vars false W args.toList ds gs before) (hL : laidMetH Try.prog Rows.fnExactLookupStackRow.laid W) (hS : W.ShapedOpen Try.prog) :
    Calls Try.prog 5 args W fun e W' => ∃ v, e = .returned v ∧ Rows.fnExactLookupStackSpec.post enc Try.prog Try.f5 false true false false W args v W' := by
  have hW' := hW
  obtain ⟨p, q, hA0, hV, rfl, hfz, hnd⟩ := hW
  have hA : DataW.TrodAll enc Try.prog W 0 (fun _ => true) true Try.f5.params.toList args.toList ds p := hA0
  rw [Try.params5] at hA hval
  obtain ⟨v0, vs0, d0, ds0, p0, q0, hargs, rfl, rfl, h0, r0⟩ := trodAll_cons hA
  obtain ⟨v1, vs1, d1, ds1, p1, q1, rfl, rfl, rfl, h1, r1⟩ := trodAll_cons r0
  obtain ⟨rfl, rfl, rfl⟩ := trodAll_nil r1
  obtain rfl : args = #[v0, v1] := by cases args; simp_all
  obtain ⟨rfl, rfl⟩ := trodVars_none hV
  have k0 := h0
  have lt0 : ∀ x ∈ p0, x.block < W.heap.size := by obtain ⟨m, hm⟩ := k0; exact DataW.trod_lt m _ _ _ hm
  obtain ⟨u0, d0, rfl, w0⟩ := open_stackV Try.underlying42 (by kernel_rfl) (by kernel_rfl) ⟨rfl, rfl⟩ Try.underlying40 Try.underlying123 (by kernel_rfl) (by kernel_rfl) (by kernel_rfl) ⟨rfl, rfl⟩ ⟨rfl, rfl⟩ Try.underlying121 (by kernel_rfl) ⟨rfl, rfl⟩ Try.underlying4 Try.underlying119 Try.underlying160 (by kernel_rfl) (by kernel_rfl) (by kernel_rfl) (by kernel_rfl) ⟨rfl, rfl⟩ ⟨rfl, rfl⟩ Try.underlying36 Try.underlying3 Try.underlying9 (hval 0 42 v0 rfl rfl) h0
  have k1 := h1
  have lt1 : ∀ x ∈ p1, x.block < W.heap.size := by obtain ⟨m, hm⟩ := k1; exact DataW.trod_lt m _ _ _ hm
  obtain ⟨a1, n1, c1, rfl⟩ := okWide_slice Try.underlying36 (hval 1 36 v1 rfl rfl)
  obtain ⟨z1, w1⟩ : ∃ zs, IsRow .i64 W a1 n1 c1 zs := by
    obtain ⟨fuel, hf⟩ := h1
    rcases open_ints Try.underlying36 Try.underlying3 (by kernel_rfl) hf with ⟨hcs, _⟩ | ⟨x, l, c, zs, hcs, _, hl, hm, hz, _, hcell, hwz⟩
    · simp [Value.cells] at hcs
      obtain ⟨rfl, rfl, rfl⟩ := hcs
      exact ⟨[], .inl ⟨rfl, rfl, rfl, rfl⟩⟩
    · simp [Value.cells] at hcs
      obtain ⟨rfl, rfl, rfl⟩ := hcs
      exact ⟨zs, .inr ⟨_, rfl, hl, hm, by simpa using hz, hcell, hwz⟩⟩
  clear hA0 hval
  refine (walk u0 d0 a1 n1 c1 z1 W hS  w0 w1).mono fun e W' ⟨he, bel⟩ => ?_
  subst he
  exact ⟨_, rfl, _, _, _, [], _, [], hW', trodAll_mk1 (shut_bool Try.underlying4 _), (trodAll_cons_mk (Below.trod laidOut (by kernel_rfl) (of_decide_eq_true (by kernel_rfl)) k0 bel lt0) (trodAll_cons_mk (Below.trod laidOut (by kernel_rfl) (of_decide_eq_true (by kernel_rfl)) k1 bel lt1) trodAll_mk0)), rfl, bel.frame _, fun h => by cases h⟩

theorem reads (os : Os) {H : Type} (enc : TypeId × Value → H) : ∃ places, DataW.whole enc Try.prog ((World.holding Try.prog os ⟨#[], #[], []⟩).forCall (fun _ _ => 0) ⟨#[], #[.agg #[.slice none 0 0], .slice none 0 0], []⟩).memory Try.f5.params.toList Rows.fnExactLookupStackSpec.vars false (#[.agg #[.slice none 0 0], .slice none 0 0] : Array Value).toList 8 = some ([.agg [.nil], .nil], [], places) :=
  ⟨[], by kernel_rfl⟩

set_option maxRecDepth 100000 in
theorem lifted (os : Os) (started : os.Started) (H : Type) (enc : TypeId × Value → H) (F : Stop.Interp) :
    ReturnsInHanded {} Try.checked os 5 .any ((OpenSpec.ofChange Rows.fnExactLookupStackSpec).preRow enc Try.prog Try.f5 Rows.fnExactLookupStackRow.domain false Rows.fnExactLookupStackRow.laid) (((OpenSpec.ofChange Rows.fnExactLookupStackSpec).at F).post enc Try.prog Try.f5 false true false false) := by
  obtain ⟨places, hx⟩ := reads os enc
  refine returnsInHanded_of_row (C := Try.checked) (s := OpenSpec.ofChange Rows.fnExactLookupStackSpec) own started (by kernel_rfl) Try.func5
    (witness_row_atRef (enc := enc) (C := Try.checked) false (World.holding Try.prog os ⟨#[], #[], []⟩) #[.agg #[.slice none 0 0], .slice none 0 0] rfl (by kernel_rfl) (by kernel_rfl) (by kernel_rfl)
      (OpenSpec.preRow_of_cond 8 hx (by kernel_rfl) (fun k hk => by cases hk) (by kernel_rfl) ⟨[], rfl, List.nodup_nil, fun b off h => by cases h⟩)) ?_
  intro W base args ds gs before hval hW _ _ _ hL hS _
  exact contract H enc W base args ds gs before hval hW hL hS

theorem said : Rows.FnExactLookupStackSaid :=
  OpenClaim.holds_of_cond 5 Try.f5 rfl rfl rfl rfl rfl rfl rfl ⟨rfl, rfl, rfl, rfl, rfl⟩ rfl rfl rfl rfl rfl (by kernel_rfl) Try.func5 (by kernel_rfl)
    (of_decide_eq_true (by kernel_rfl)) (by unfold Func.isWrapper; first | (rw [if_pos (by decide +kernel)]; kernel_rfl) | (rw [if_neg (by decide +kernel)]; exact ⟨rfl, rfl⟩))
    (fun os started H enc _ F => by rw [OpenClaim.pre_eq_preRow]; exact lifted os started H enc F)

theorem proved : Rows.FnExactLookupStackSaid := said
#print axioms proved
end Go.Proofs.Ytmpcdhoigepdpaa.fnExactLookupStack
