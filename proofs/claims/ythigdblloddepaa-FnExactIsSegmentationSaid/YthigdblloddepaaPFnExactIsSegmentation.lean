/-
  laws.FnExactIsSegmentation returns true whatever the dictionary, the strokes and the list of pieces: impl.IsSegmentation answers as the specification and leaves its arguments. Conditions: none but the row's own.
-/
import Derived.Test.YthigdblloddepaaRows
import Derived.WalkKit
import Derived.ProofKit
import Derived.OpenShut
import Derived.ShutString
import Derived.ChangeOld
import Derived.Below
import Derived.SliceStrings
import Derived.JoinedCond
import Derived.Deep.DeepHandedRow
import Derived.Deep.DeepWitnessRowRef
import Derived.Lib.Hide
import Derived.Test.YthigdblloddepaaImD
namespace Go.Proofs.Ythigdblloddepaa.fnExactIsSegmentation
open Go.ChangeShapes Go.WideShapes Go.ChangeAt Go.RowKit
open Go.ChangeMaps (open_string shut_string)
set_option linter.unusedVariables false
set_option maxRecDepth 100000

theorem own : ownKnob Try.prog.godebug = none := by kernel_rfl
theorem laidOut : laidOutB Try.prog = true := by kernel_rfl

/-- A slice of integers that came in. -/
def IsRow (k : IntKind) (w : World) (a : Option Addr) (len cap : Nat) (zs : List Int) : Prop :=
  (a = none ∧ len = 0 ∧ cap = 0 ∧ zs = []) ∨
  ∃ x, a = some x ∧ len ≤ cap ∧ cap ≤ maxLen ∧ zs.length = cap ∧ (∀ i, i < zs.length → w.cell? (x.add i) = some (.int k (zs.getD i 0))) ∧ ∀ n ∈ zs, (Lit.int k n).wf = true

theorem ints_of {w : World} {a : Option Addr} {n c : Nat} {z : List Int} (h : IsRow .i64 w a n c z) : (z.take n).length = n ∧ n ≤ maxLen ∧ IntsAt w (.slice a n c) (z.take n) := by
  rcases h with ⟨rfl, rfl, rfl, rfl⟩ | ⟨x, rfl, hl, hm, hs, hcell, hz⟩
  · exact ⟨rfl, by decide, IntsAt.nil _ _ _⟩
  · have hlen : (z.take n).length = n := by rw [List.length_take]; omega
    refine ⟨hlen, by omega, ?_⟩
    by_cases h0 : n = 0
    · subst h0; exact IntsAt.nil _ _ _
    · obtain ⟨b, o, spot⟩ := x
      have h1 := hcell 0 (by omega)
      have hspot : spot = none := by simpa [Addr.add] using World.cell?_spot h1
      subst hspot
      refine ⟨_, c, by rw [hlen], by rw [hlen]; exact hl, .inr ⟨b, o, rfl, ?_, fun j y hy => ?_⟩⟩
      · have : (w.cell? ⟨b, o, none⟩).isSome := by have := h1; simp [Addr.add] at this; rw [this]; rfl
        rcases Nat.lt_or_ge b w.heap.size with h' | h'
        · exact h'
        · simp [World.cell?, Array.getElem?_eq_none h'] at this
      · have hj : j < n := by
          rcases Nat.lt_or_ge j n with h' | h'
          · exact h'
          · rw [List.getElem?_eq_none (by rw [hlen]; exact h')] at hy; cases hy
        have h2 := hcell j (by omega)
        rw [List.getElem?_take_of_lt hj] at hy
        by_cases hj0 : j = 0
        · subst hj0; simpa [Addr.add, List.getD, hy] using h2
        · simpa [Addr.add, List.getD, hy, hj0] using h2
/-! ### THE WALK: the Go text returns true, and writes nothing that was there. -/
set_option maxRecDepth 100000 in
set_option maxHeartbeats 8000000 in
theorem walk (u0 : Value) (d0 : List Ent) (a1 : Option Addr) (n1 c1 : Nat) (z1 : List Int) (a2 : Option Addr) (n2 c2 : Nat) (e2 : List Pc) (w : World) (hS : w.ShapedOpen Try.prog)  (w0 : EntsIn w u0 d0) (w1 : IsRow .i64 w a1 n1 c1 z1) (w2 : PcsIn w a2 n2 c2 e2) :
    Calls Try.prog 5 #[dV u0, .slice a1 n1 c1, .slice a2 n2 c2] w fun e w' => e = .returned (.bool true) ∧ Below w.heap.size w w' := by
  obtain ⟨hat, hlen, hfine⟩ := w0
  obtain ⟨hlen1, hnm1, hrow1⟩ := ints_of w1
  obtain ⟨ys, hzs1⟩ : ∃ ys, ys = z1.take n1 := ⟨_, rfl⟩
  rw [← hzs1] at hlen1 hrow1
  unfold maxLen at hnm1
  clear w1 hzs1 hS
  obtain ⟨hnm2, hlen2, hat2, hfine2⟩ := w2
  have hnm2' : e2.length ≤ maxLen := by rw [hlen2]; exact hnm2
  have CZ := Lib.hid (fun w' hb => szDw_any u0 d0 w' ⟨hat.below (w' := w') hb, hlen, hfine⟩)
  by_cases hbig : 1048576 < n1
  · obtain ⟨a, cap, rfl, hcap, _⟩ := hat.cells
    clear hat hlen hfine CZ hlen1 hrow1 hat2 hfine2 hnm2 hnm2'
    unfold dV
    go_enter Try.func5, Try.ntmps5
    go_wp2
    go_ret
    exact ⟨rfl, below_al _ _⟩
  · have CZ2 := Lib.hid (fun (L : Int) (hL0 : 0 ≤ L) (hL : L ≤ 1048576) w' hb => szPcs_any L hL0 hL (.slice a2 n2 c2) e2 w' (hat2.below (w' := w') hb) hnm2' (fun e he => (hfine2 e he).2.2))
    have CP := Lib.hid (fun (hn : e2.length ≤ 1048576) w' hb => toPcs_any (.slice a2 n2 c2) e2 w' (hat2.below (w' := w') hb) hn)
    have HPa := Lib.hid (fun w base v (h : OwnPcs w base v e2.length (fun j => e2.getD j pc0)) => show PcsAt w v e2 from h.at rfl (fun j e he => by simp [List.getD, he]))
    have CPE := Lib.hid (fun v u w h h' (hn : e2.length ≤ 2097152) => eqPcs_same v u e2 w h h' hn)
    have CT := Lib.hid (fun hn hx w' hb => toD_any u0 d0 w' (hat.below (w' := w') hb) hn hx)
    have CE := Lib.hid (fun u v w h h' hn hx => eqD_same u v d0 w h h' hn hx)
    have CS := Lib.hid (fun v u l w h h' hl hn hx hln => specIsSegmentation_any v d0 u ys l e2 w h h' hl hn hx (by omega) hln)
    have CI := Lib.hid (fun v u l w h h' hl hn hx hln => IsSegmentation_any v d0 u ys l e2 w h h' hl hn hx (by omega) hln)
    have CY := Lib.hid (fun w' hb => toI_any _ ys w' (hrow1.below (w' := w') hb) (by omega))
    have CYE := Lib.hid (fun v u w h h' => eqI_same v u ys w h h' (by omega))
    obtain ⟨b, hbb⟩ : ∃ b, b = sgB d0 ys := ⟨_, rfl⟩
    obtain ⟨I, hI⟩ : ∃ b, b = isB d0 ys e2 := ⟨_, rfl⟩
    rw [← hI, ← hbb] at CS CI
    obtain ⟨L, hL⟩ : ∃ L, L = e2.length := ⟨_, rfl⟩
    rw [← hL] at CZ2 CP HPa CPE CS CI
    obtain ⟨a, cap, rfl, hcap, _⟩ := hat.cells
    have HWi := Lib.hid (fun h => wtE_in (es := d0) h)
    obtain ⟨n, hnn⟩ : ∃ n, n = d0.length := ⟨_, rfl⟩
    have HN := Lib.hid hnn
    unfold dV at CZ CT CS CI CE ⊢
    rw [← hnn] at CZ CT CS CI CE hcap HWi ⊢
    obtain ⟨WT, hWT⟩ : ∃ WT, WT = wtE d0 := ⟨_, rfl⟩
    rw [← hWT] at CZ HWi
    clear hat hlen hfine hbb hI hnn hWT hL hrow1 hcap hat2 hfine2 hnm2 hnm2' hlen2 hlen1
    go_enter Try.func5, Try.ntmps5
    go_wp2_with fail
    refine (CZ.out _ (below_al _ _)).mono ?_
    rintro r w1' ⟨⟨q, rfl, hq⟩, hb⟩
    have A1 : Hid (BoxV w1' w.heap.size 24 (.slice a n cap)) := (BoxV.new w _ _).below hb (by simp)
    have HB1 := Lib.hid (below_box hb)
    clear hb
    rcases hq with rfl | ⟨hq0, hq1⟩
    · go_wp2
      go_ret
      exact ⟨rfl, HB1.out⟩
    · have hnq : ¬ q < 0 := by omega
      have hwt : WT + n ≤ 1048576 := by omega
      obtain ⟨hn, hx⟩ := HWi.out hwt
      have CT1 := Lib.hid (CT.out hn hx)
      have CS1 := Lib.hid (fun v u l w h h' hl hln => CS.out v u l w h h' hl (by omega) (fun e he => (hx e he).ok) hln)
      have CI1 := Lib.hid (fun v u l w h h' hl hln => CI.out v u l w h h' hl (by omega) (fun e he => (hx e he).ok) hln)
      have CE1 := Lib.hid (fun u v w h h' => CE.out u v w h h' (by omega) (fun e he => (hx e he).ok))
      have CZ3 := Lib.hid (CZ2.out q hq0 (by omega))
      clear CT CS CI CE CZ CZ2 hx hn hq0 hq1 HWi hwt
      go_wp2_with fail
      refine (CZ3.out w1' HB1.out).mono ?_
      rintro r w1p ⟨⟨q2, rfl, hq2⟩, hb⟩
      have A1p := Lib.hid (A1.out.below hb A1.out.lt)
      have HB1p := Lib.hid (below_step HB1.out hb)
      have c1 := A1p.out.cell
      clear hb A1 HB1 CZ3
      by_cases hq20 : q2 < 0
      · clear hq2
        go_wp2
        go_ret
        exact ⟨rfl, HB1p.out⟩
      · have hL1 := (hq2 (by omega)).1
        have CP1 := Lib.hid (CP.out hL1)
        have CPE1 := Lib.hid (fun v u w h h' => CPE.out v u w h h' (by omega))
        have CS2 := Lib.hid (fun v u l w h h' hl => CS1.out v u l w h h' hl (by omega))
        have CI2 := Lib.hid (fun v u l w h h' hl => CI1.out v u l w h h' hl (by omega))
        clear hq2 CP CPE CS1 CI1 hL1
        go_wp2_with fail
        refine (CT1.out w1p HB1p.out).mono ?_
        rintro r w2 ⟨⟨u2, rfl, hu2⟩, hb⟩
        have U2 := Lib.hid hu2.at
        have A2 := Lib.hid (A1p.out.below hb A1p.out.lt)
        have HB2 := Lib.hid (below_step HB1p.out hb)
        obtain ⟨ua2, uc2, rfl, _, _⟩ := hu2.at.cells
        rw [← HN.out] at U2
        rw [← HN.out]
        clear hb hu2 A1p HB1p c1
        go_wp2_with fail
        refine (CY.out w2 HB2.out).mono ?_
        rintro r wa ⟨y2, rfl, hy2, hb⟩
        have Y2 := Lib.hid hy2
        have Ua := Lib.hid (U2.out.below hb)
        have Aa := Lib.hid (A2.out.below hb A2.out.lt)
        have HBa := Lib.hid (below_step HB2.out hb)
        clear hb hy2 U2 A2 HB2
        go_wp2_with fail
        refine (CP1.out wa HBa.out).mono ?_
        rintro r wl ⟨⟨l2, rfl, hl2⟩, hb⟩
        have Lq := Lib.hid (HPa.out _ _ _ hl2)
        have Yl := Lib.hid (Y2.out.below hb)
        have Ul := Lib.hid (Ua.out.below hb)
        have Al := Lib.hid (Aa.out.below hb Aa.out.lt)
        have HBl := Lib.hid (below_step HBa.out hb)
        clear hb hl2 Y2 Ua Aa HBa
        go_wp2_with fail
        refine (CS2.out _ _ _ wl Ul.out Yl.out Lq.out).mono ?_
        rintro r w3 ⟨rfl, hb⟩
        have A3 := Lib.hid (Al.out.below hb Al.out.lt)
        have HB3 := Lib.hid (below_step HBl.out hb)
        have c3 := A3.out.cell
        clear hb Al HBl Ul Yl Lq
        go_wp2_with fail
        refine (CT1.out w3 HB3.out).mono ?_
        rintro r w4 ⟨⟨u4, rfl, hu4⟩, hb⟩
        obtain ⟨ua4, uc4, rfl, _, _⟩ := hu4.at.cells
        have U4 : Hid (EntsAt (w4.alloc (.cells #[.slice ua4 n uc4] 33)) (.slice ua4 n uc4) d0) := by have := hu4.at; rw [← HN.out] at this; exact this.below (below_al _ _)
        have A4 : Hid (BoxV (w4.alloc (.cells #[.slice ua4 n uc4] 33)) w.heap.size 24 (.slice a n cap)) := (A3.out.below hb A3.out.lt).below (below_al _ _) (by have := A3.out.lt; have := hb.size; omega)
        have X4 : Hid (BoxV (w4.alloc (.cells #[.slice ua4 n uc4] 33)) w4.heap.size 33 (.slice ua4 n uc4)) := BoxV.new _ _ _
        have HB4 : Hid (Below w.heap.size w (w4.alloc (.cells #[.slice ua4 n uc4] 33))) := below_step (below_step HB3.out hb) (below_al _ _)
        rw [← HN.out]
        clear hb hu4 A3 HB3 c3
        go_wp2_with fail
        refine (CY.out _ HB4.out).mono ?_
        rintro r wb ⟨y4, rfl, hy4, hb⟩
        have Y4 := Lib.hid hy4
        have Ub := Lib.hid (U4.out.below hb)
        have Ab := Lib.hid (A4.out.below hb A4.out.lt)
        have Xb := Lib.hid (X4.out.below hb X4.out.lt)
        have HBb := Lib.hid (below_step HB4.out hb)
        clear hb hy4 U4 A4 X4 HB4
        go_wp2_with fail
        refine (CP1.out wb HBb.out).mono ?_
        rintro r wc ⟨⟨l4, rfl, hl4⟩, hb⟩
        have Lc := Lib.hid (HPa.out _ _ _ hl4)
        have Yc := Lib.hid (Y4.out.below hb)
        have Uc := Lib.hid (Ub.out.below hb)
        have Ac := Lib.hid (Ab.out.below hb Ab.out.lt)
        have Xc := Lib.hid (Xb.out.below hb Xb.out.lt)
        have HBc := Lib.hid (below_step HBb.out hb)
        have xc := Xc.out.cell
        clear hb hl4 Y4 Ub Ab Xb HBb
        go_wp2_with fail
        refine (CI2.out _ _ _ wc Uc.out Yc.out Lc.out).mono ?_
        rintro r w5 ⟨rfl, hb⟩
        have A5 := Lib.hid (Ac.out.below hb Ac.out.lt)
        have X5 := Lib.hid (Xc.out.below hb Xc.out.lt)
        have U5 := Lib.hid (Uc.out.below hb)
        have Y5 := Lib.hid (Yc.out.below hb)
        have L5 := Lib.hid (Lc.out.below hb)
        have HB5 := Lib.hid (below_step HBc.out hb)
        have k0 := cell_regrown X5.out.cell
        have k1 := cell_regrown A5.out.cell
        clear hb Ac Xc Uc Yc Lc HBc xc
        go_wp2_with fail
        refine Mx.wp_region_mixed (Mx.ofL [(0, 1), (1, 1), (2, 2), (3, 3), (4, 0)] .done) (by kernel_rfl) (by kernel_rfl) ?_
        repeat ((first | refine Mx.mix0 rfl ?_ | refine Mx.mix1 rfl ?_); go_big_quiet_step (fail); refine wpQuiet_nil ?_)
        refine Mx.mix2 rfl ?_
        go_wp2_with fail
        refine (CT1.out w5.drew HB5.out.drew).mono ?_
        rintro r w7 ⟨⟨u7, rfl, hu7⟩, hb⟩
        have hb57 : Below w5.heap.size w5 w7 := (below_drewN (Below.refl _ _) 1).trans hb
        obtain ⟨ua7, uc7, hu7f, _, _⟩ := hu7.at.cells
        rw [← HN.out] at hu7f
        have U7 : Hid (EntsAt w7 (.slice ua7 n uc7) d0) := by rw [← hu7f]; exact hu7.at
        have HG := Lib.hid (regrown_of_below hb57)
        have HB57 := Lib.hid hb57
        have U57 := Lib.hid (U5.out.below hb57)
        subst hu7f
        clear hb hb57 hu7 k0 k1
        go_wp2
        refine Mx.mid_normal (fun _ => HG.out) ?_
        refine Mx.mix3 rfl ?_
        go_wp2_with fail
        refine (CE1.out _ _ w7 U57.out U7.out).mono ?_
        rintro r w8 ⟨rfl, hb⟩
        have hb58 : Below w5.heap.size w5 w8 := below_step HB57.out hb
        have Y8 := Lib.hid (Y5.out.below hb58)
        have L8 := Lib.hid (L5.out.below hb58)
        have HB8 := Lib.hid (below_step HB5.out hb58)
        clear hb hb58 A5 X5 U5 Y5 L5 HB5 HB57 U57 U7 HG
        go_wp2
        refine Mx.mid_normal (fun q => by cases q) ?_
        repeat ((first | refine Mx.mix0 rfl ?_ | refine Mx.mix1 rfl ?_); go_big_quiet_step (fail); refine wpQuiet_nil ?_)
        refine Mx.mix_nil ?_
        go_wp2_with fail
        refine (CY.out w8 HB8.out).mono ?_
        rintro r w9 ⟨y9, rfl, hy9, hb⟩
        have Y9 := Lib.hid hy9
        have Y89 := Lib.hid (Y8.out.below hb)
        have L9 := Lib.hid (L8.out.below hb)
        have HB9 := Lib.hid (below_step HB8.out hb)
        clear hb hy9 Y8 L8 HB8
        go_wp2_with fail
        refine (CYE.out _ _ w9 Y89.out Y9.out).mono ?_
        rintro r w10 ⟨rfl, hb⟩
        have L10 := Lib.hid (L9.out.below hb)
        have HB10 := Lib.hid (below_step HB9.out hb)
        clear hb Y9 Y89 L9 HB9
        go_wp2_with fail
        refine (CP1.out w10 HB10.out).mono ?_
        rintro r w11 ⟨⟨l11, rfl, hl11⟩, hb⟩
        have M11 := Lib.hid (HPa.out _ _ _ hl11)
        have L11 := Lib.hid (L10.out.below hb)
        have HB11 := Lib.hid (below_step HB10.out hb)
        clear hb hl11 L10 HB10
        go_wp2_with fail
        refine (CPE1.out _ _ w11 L11.out M11.out).mono ?_
        rintro r w12 ⟨rfl, hb⟩
        have HB12 := Lib.hid (below_step HB11.out hb)
        clear hb L11 M11 HB11
        go_wp2
        go_ret
        exact ⟨rfl, HB12.out⟩

/-! ### THE ROW's STEP -/
set_option maxRecDepth 100000 in
theorem contract (H : Type) (enc : TypeId × Value → H) (W : World) (base : Nat) (args : Array Value) (ds gs : List (DataW H)) (before : List MemPlace)
    (hval : ∀ (j : Nat) t v, Try.f5.params[j]? = some t → args[j]? = some v → Value.okWide Try.prog W .any base t v)
    (hW : DataW.Whole enc Try.prog Try.f5.params.toList Rows.fnExactIsSegmentationSpec.vars false W args.toList ds gs before) (hL : laidMetH Try.prog Rows.fnExactIsSegmentationRow.laid W) (hS : W.ShapedOpen Try.prog) :
    Calls Try.prog 5 args W fun e W' => ∃ v, e = .returned v ∧ Rows.fnExactIsSegmentationSpec.post enc Try.prog Try.f5 false true false false W args v W' := by
  have hW' := hW
  obtain ⟨p, q, hA0, hV, rfl, hfz, hnd⟩ := hW
  have hA : DataW.TrodAll enc Try.prog W 0 (fun _ => true) true Try.f5.params.toList args.toList ds p := hA0
  rw [Try.params5] at hA hval
  obtain ⟨v0, vs0, d0, ds0, p0, q0, hargs, rfl, rfl, h0, r0⟩ := trodAll_cons hA
  obtain ⟨v1, vs1, d1, ds1, p1, q1, rfl, rfl, rfl, h1, r1⟩ := trodAll_cons r0
  obtain ⟨v2, vs2, d2, ds2, p2, q2, rfl, rfl, rfl, h2, r2⟩ := trodAll_cons r1
  obtain ⟨rfl, rfl, rfl⟩ := trodAll_nil r2
  obtain rfl : args = #[v0, v1, v2] := by cases args; simp_all
  obtain ⟨rfl, rfl⟩ := trodVars_none hV
  have k0 := h0
  have lt0 : ∀ x ∈ p0, x.block < W.heap.size := by obtain ⟨m, hm⟩ := k0; exact DataW.trod_lt m _ _ _ hm
  obtain ⟨u0, d0, rfl, w0⟩ := open_dictV Try.underlying24 (by kernel_rfl) (by kernel_rfl) ⟨rfl, rfl⟩ Try.underlying22 Try.underlying85 (by kernel_rfl) (by kernel_rfl) (by kernel_rfl) (by kernel_rfl) ⟨rfl, rfl⟩ ⟨rfl, rfl⟩ Try.underlying25 Try.underlying3 Try.underlying9 (hval 0 24 v0 rfl rfl) h0
  have k1 := h1
  have lt1 : ∀ x ∈ p1, x.block < W.heap.size := by obtain ⟨m, hm⟩ := k1; exact DataW.trod_lt m _ _ _ hm
  obtain ⟨a1, n1, c1, rfl⟩ := okWide_slice Try.underlying25 (hval 1 25 v1 rfl rfl)
  obtain ⟨z1, w1⟩ : ∃ zs, IsRow .i64 W a1 n1 c1 zs := by
    obtain ⟨fuel, hf⟩ := h1
    rcases open_ints Try.underlying25 Try.underlying3 (by kernel_rfl) hf with ⟨hcs, _⟩ | ⟨x, l, c, zs, hcs, _, hl, hm, hz, _, hcell, hwz⟩
    · simp [Value.cells] at hcs
      obtain ⟨rfl, rfl, rfl⟩ := hcs
      exact ⟨[], .inl ⟨rfl, rfl, rfl, rfl⟩⟩
    · simp [Value.cells] at hcs
      obtain ⟨rfl, rfl, rfl⟩ := hcs
      exact ⟨zs, .inr ⟨_, rfl, hl, hm, by simpa using hz, hcell, hwz⟩⟩
  have k2 := h2
  have lt2 : ∀ x ∈ p2, x.block < W.heap.size := by obtain ⟨m, hm⟩ := k2; exact DataW.trod_lt m _ _ _ hm
  obtain ⟨a2, n2, c2, rfl⟩ := okWide_slice Try.underlying48 (hval 2 48 v2 rfl rfl)
  obtain ⟨e2, w2⟩ : ∃ es, PcsIn W a2 n2 c2 es := by
    obtain ⟨fuel, hf⟩ := h2
    obtain ⟨a, n, c, es, hcs, hin⟩ := open_pcs Try.underlying48 Try.underlying73 (by kernel_rfl) (by kernel_rfl) (by kernel_rfl) ⟨rfl, rfl⟩ ⟨rfl, rfl⟩ ⟨rfl, rfl⟩ Try.underlying3 Try.underlying9 hf
    simp [Value.cells] at hcs
    obtain ⟨rfl, rfl, rfl⟩ := hcs
    exact ⟨es, hin⟩
  clear hA0 hval
  refine (walk u0 d0 a1 n1 c1 z1 a2 n2 c2 e2 W hS  w0 w1 w2).mono fun e W' ⟨he, bel⟩ => ?_
  subst he
  exact ⟨_, rfl, _, _, _, [], _, [], hW', trodAll_mk1 (shut_bool Try.underlying4 _), (trodAll_cons_mk (Below.trod laidOut (by kernel_rfl) (of_decide_eq_true (by kernel_rfl)) k0 bel lt0) (trodAll_cons_mk (Below.trod laidOut (by kernel_rfl) (of_decide_eq_true (by kernel_rfl)) k1 bel lt1) (trodAll_cons_mk (Below.trod laidOut (by kernel_rfl) (of_decide_eq_true (by kernel_rfl)) k2 bel lt2) trodAll_mk0))), rfl, bel.frame _, fun h => by cases h⟩

theorem reads (os : Os) {H : Type} (enc : TypeId × Value → H) : ∃ places, DataW.whole enc Try.prog ((World.holding Try.prog os ⟨#[], #[], []⟩).forCall (fun _ _ => 0) ⟨#[], #[.agg #[.slice none 0 0], .slice none 0 0, .slice none 0 0], []⟩).memory Try.f5.params.toList Rows.fnExactIsSegmentationSpec.vars false (#[.agg #[.slice none 0 0], .slice none 0 0, .slice none 0 0] : Array Value).toList 8 = some ([.agg [.nil], .nil, .nil], [], places) :=
  ⟨[], by kernel_rfl⟩

set_option maxRecDepth 100000 in
theorem lifted (os : Os) (started : os.Started) (H : Type) (enc : TypeId × Value → H) (F : Stop.Interp) :
    ReturnsInHanded {} Try.checked os 5 .any ((OpenSpec.ofChange Rows.fnExactIsSegmentationSpec).preRow enc Try.prog Try.f5 Rows.fnExactIsSegmentationRow.domain false Rows.fnExactIsSegmentationRow.laid) (((OpenSpec.ofChange Rows.fnExactIsSegmentationSpec).at F).post enc Try.prog Try.f5 false true false false) := by
  obtain ⟨places, hx⟩ := reads os enc
  refine returnsInHanded_of_row (C := Try.checked) (s := OpenSpec.ofChange Rows.fnExactIsSegmentationSpec) own started (by kernel_rfl) Try.func5
    (witness_row_atRef (enc := enc) (C := Try.checked) false (World.holding Try.prog os ⟨#[], #[], []⟩) #[.agg #[.slice none 0 0], .slice none 0 0, .slice none 0 0] rfl (by kernel_rfl) (by kernel_rfl) (by kernel_rfl)
      (OpenSpec.preRow_of_cond 8 hx (by kernel_rfl) (fun k hk => by cases hk) (by kernel_rfl) ⟨[], rfl, List.nodup_nil, fun b off h => by cases h⟩)) ?_
  intro W base args ds gs before hval hW _ _ _ hL hS _
  exact contract H enc W base args ds gs before hval hW hL hS

theorem said : Rows.FnExactIsSegmentationSaid :=
  OpenClaim.holds_of_cond 5 Try.f5 rfl rfl rfl rfl rfl rfl rfl ⟨rfl, rfl, rfl, rfl, rfl⟩ rfl rfl rfl rfl rfl (by kernel_rfl) Try.func5 (by kernel_rfl)
    (of_decide_eq_true (by kernel_rfl)) (by unfold Func.isWrapper; first | (rw [if_pos (by decide +kernel)]; kernel_rfl) | (rw [if_neg (by decide +kernel)]; exact ⟨rfl, rfl⟩))
    (fun os started H enc _ F => by rw [OpenClaim.pre_eq_preRow]; exact lifted os started H enc F)

theorem proved : Rows.FnExactIsSegmentationSaid := said
#print axioms proved
end Go.Proofs.Ythigdblloddepaa.fnExactIsSegmentation
