/-
  laws.FnExactSegment returns true whatever the dictionary and the strokes: impl.Segment answers as the specification, leaves its arguments, and its answer owns its memory. Conditions: none but the row's own.
-/
import Derived.Test.YthigdblloddepaaRows
import Derived.WalkKit
import Derived.ProofKit
import Derived.OpenShut
import Derived.ShutString
import Derived.ChangeOld
import Derived.Below
import Derived.SliceStrings
import Derived.JoinedCond
import Derived.Deep.DeepHandedRow
import Derived.Deep.DeepWitnessRowRef
import Derived.Lib.Hide
import Derived.Test.YthigdblloddepaaImC
import Derived.Test.YthigdblloddepaaPD
namespace Go.Proofs.Ythigdblloddepaa.fnExactSegment
open Go.ChangeShapes Go.WideShapes Go.ChangeAt Go.RowKit
open Go.ChangeMaps (open_string shut_string)
set_option linter.unusedVariables false
set_option maxRecDepth 100000

theorem own : ownKnob Try.prog.godebug = none := by kernel_rfl
theorem laidOut : laidOutB Try.prog = true := by kernel_rfl

/-- A slice of integers that came in. -/
def IsRow (k : IntKind) (w : World) (a : Option Addr) (len cap : Nat) (zs : List Int) : Prop :=
  (a = none ∧ len = 0 ∧ cap = 0 ∧ zs = []) ∨
  ∃ x, a = some x ∧ len ≤ cap ∧ cap ≤ maxLen ∧ zs.length = cap ∧ (∀ i, i < zs.length → w.cell? (x.add i) = some (.int k (zs.getD i 0))) ∧ ∀ n ∈ zs, (Lit.int k n).wf = true

theorem ints_of {w : World} {a : Option Addr} {n c : Nat} {z : List Int} (h : IsRow .i64 w a n c z) : (z.take n).length = n ∧ n ≤ maxLen ∧ IntsAt w (.slice a n c) (z.take n) := by
  rcases h with ⟨rfl, rfl, rfl, rfl⟩ | ⟨x, rfl, hl, hm, hs, hcell, hz⟩
  · exact ⟨rfl, by decide, IntsAt.nil _ _ _⟩
  · have hlen : (z.take n).length = n := by rw [List.length_take]; omega
    refine ⟨hlen, by omega, ?_⟩
    by_cases h0 : n = 0
    · subst h0; exact IntsAt.nil _ _ _
    · obtain ⟨b, o, spot⟩ := x
      have h1 := hcell 0 (by omega)
      have hspot : spot = none := by simpa [Addr.add] using World.cell?_spot h1
      subst hspot
      refine ⟨_, c, by rw [hlen], by rw [hlen]; exact hl, .inr ⟨b, o, rfl, ?_, fun j y hy => ?_⟩⟩
      · have : (w.cell? ⟨b, o, none⟩).isSome := by have := h1; simp [Addr.add] at this; rw [this]; rfl
        rcases Nat.lt_or_ge b w.heap.size with h' | h'
        · exact h'
        · simp [World.cell?, Array.getElem?_eq_none h'] at this
      · have hj : j < n := by
          rcases Nat.lt_or_ge j n with h' | h'
          · exact h'
          · rw [List.getElem?_eq_none (by rw [hlen]; exact h')] at hy; cases hy
        have h2 := hcell j (by omega)
        rw [List.getElem?_take_of_lt hj] at hy
        by_cases hj0 : j = 0
        · subst hj0; simpa [Addr.add, List.getD, hy] using h2
        · simpa [Addr.add, List.getD, hy, hj0] using h2
theorem ownPcs_ge {w : World} {base : Nat} {v : Value} {n : Nat} {f : Nat → Pc} (h : OwnPcs w base v n f) (h0 : 0 < n) {g : Nat} (hg : v.ownBlock = some g) : base ≤ g := by
  rcases h with ⟨hz, _⟩ | ⟨g', cap, rfl, _, hb, _, _⟩
  · omega
  · have : g' = g := by simpa [Value.ownBlock] using hg
    rw [← this]; exact hb
theorem ownInts_lt {w : World} {base : Nat} {v : Value} {n : Nat} {f : Nat → Int} (h : OwnInts w base v n f) (h0 : 0 < n) {g : Nat} (hg : v.ownBlock = some g) : g < w.heap.size := by
  rcases h with ⟨hz, _⟩ | ⟨g', cap, rfl, _, _, _, hl, _⟩
  · omega
  · have : g' = g := by simpa [Value.ownBlock] using hg
    rw [← this]; exact hl
/-! ### THE WALK: the Go text returns true, and writes nothing that was there. -/
set_option maxRecDepth 100000 in
set_option maxHeartbeats 8000000 in
theorem walk (u0 : Value) (d0 : List Ent) (a1 : Option Addr) (n1 c1 : Nat) (z1 : List Int) (w : World) (hS : w.ShapedOpen Try.prog)  (w0 : EntsIn w u0 d0) (w1 : IsRow .i64 w a1 n1 c1 z1) :
    Calls Try.prog 4 #[dV u0, .slice a1 n1 c1] w fun e w' => e = .returned (.bool true) ∧ Below w.heap.size w w' := by
  obtain ⟨hat, hlen, hfine⟩ := w0
  obtain ⟨hlen1, hnm1, hrow1⟩ := ints_of w1
  obtain ⟨ys, hzs1⟩ : ∃ ys, ys = z1.take n1 := ⟨_, rfl⟩
  rw [← hzs1] at hlen1 hrow1
  unfold maxLen at hnm1
  clear w1 hzs1 hS
  have CZ := Lib.hid (fun w' hb => szDw_any u0 d0 w' ⟨hat.below (w' := w') hb, hlen, hfine⟩)
  by_cases hbig : 1048576 < n1
  · obtain ⟨a, cap, rfl, hcap, _⟩ := hat.cells
    clear hat hlen hfine CZ hlen1 hrow1
    unfold dV
    go_enter Try.func4, Try.ntmps4
    go_wp2
    go_ret
    exact ⟨rfl, below_al _ _⟩
  · have CT := Lib.hid (fun hn hx w' hb => toD_any u0 d0 w' (hat.below (w' := w') hb) hn hx)
    have CE := Lib.hid (fun u v w h h' hn hx => eqD_same u v d0 w h h' hn hx)
    have CS := Lib.hid (fun v u w h h' hn hx => specSegment_any v d0 u ys w h h' hn hx (by omega))
    have CI := Lib.hid (fun v u w h h' hn hx => Segment_any v d0 u ys w h h' hn hx (by omega))
    have CMD := Lib.hid (fun base S v w h hm hn hS hb hx => markD_any base S v d0 w h hm hn hS hb hx)
    have CY := Lib.hid (fun w' hb => toI_full _ ys w' (hrow1.below (w' := w') hb) (by omega))
    have CYE := Lib.hid (fun v u w h h' => eqI_same v u ys w h h' (by omega))
    have CMI := Lib.hid (fun base m0 v f w h hm => markI_t base m0 v ys.length f w h (by omega) hm)
    have hps := sgL_len d0 ys
    obtain ⟨ps, hpsd⟩ : ∃ ps, ps = sgL d0 ys := ⟨_, rfl⟩
    obtain ⟨b, hbb⟩ : ∃ b, b = sgB d0 ys := ⟨_, rfl⟩
    rw [← hpsd, ← hbb] at CS CI
    rw [← hpsd] at hps
    have COE := Lib.hid (fun u v w h h' => eqPcs_same u v ps w h h' (by omega))
    obtain ⟨L, hL⟩ : ∃ L, L = ps.length := ⟨_, rfl⟩
    have HPn := Lib.hid (fun w base v (h : OwnP w base v ps) => show OwnPcs w base v L (fun j => ps.getD j pc0) from by rw [hL]; exact ownP_own h)
    have HPa := Lib.hid (fun w base v (h : OwnPcs w base v L (fun j => ps.getD j pc0)) => show PcsAt w v ps from h.at hL (fun j e he => by simp [List.getD, he]))
    rw [← hL] at hps
    have CMO := Lib.hid (fun base v f w h hb => markPcs_any base v L f w h hb (by omega))
    have CHO := Lib.hid (fun base v w h => heldPcs_any base v L w h (by omega))
    obtain ⟨a, cap, rfl, hcap, _⟩ := hat.cells
    obtain ⟨M, hM⟩ : ∃ M : Int, M = 1 + 3 * (L : Int) := ⟨_, rfl⟩
    have hM0 : 0 ≤ M := by omega
    rw [← hM] at CMO CHO
    have HWt := Lib.hid (endE_wt 1 d0)
    have HWi := Lib.hid (fun h => wtE_in (es := d0) h)
    obtain ⟨n, hnn⟩ : ∃ n, n = d0.length := ⟨_, rfl⟩
    have HN := Lib.hid hnn
    unfold dV at CZ CT CS CI CE CMD ⊢
    rw [← hnn] at CZ CT CS CI CE CMD hcap HWt HWi ⊢
    obtain ⟨E, hE⟩ : ∃ E, E = endE 1 d0 := ⟨_, rfl⟩
    rw [← hE] at CMD HWt
    obtain ⟨WT, hWT⟩ : ∃ WT, WT = wtE d0 := ⟨_, rfl⟩
    rw [← hWT] at CZ HWt HWi
    obtain ⟨yn, hyn⟩ : ∃ yn, yn = ys.length := ⟨_, rfl⟩
    have HYn := Lib.hid hyn
    rw [← hyn] at CMI CY hlen1
    subst hlen1
    have HY1 := Lib.hid (fun w v (h : IntsM w v ys) => show ∃ ya yc, v = .slice ya yn yc ∧ IntsAt w v ys from by obtain ⟨ya, yc, hv, _⟩ := h.at.cells; exact ⟨ya, yc, by rw [hyn]; exact hv, h.at⟩)
    clear hat hlen hfine hpsd hbb hnn hE hWT hM hL hyn hrow1 hcap hnm1
    go_enter Try.func4, Try.ntmps4
    go_wp2_with fail
    refine (CZ.out _ (below_al _ _)).mono ?_
    rintro r w1' ⟨⟨q, rfl, hq⟩, hb⟩
    have A1 : Hid (BoxV w1' w.heap.size 24 (.slice a n cap)) := (BoxV.new w _ _).below hb (by simp)
    have HB1 := Lib.hid (below_box hb)
    clear hb
    rcases hq with rfl | ⟨hq0, hq1⟩
    · go_wp2
      go_ret
      exact ⟨rfl, HB1.out⟩
    · have hnq : ¬ q < 0 := by omega
      have hwt : WT + n ≤ 1048576 := by omega
      have hE1 : E ≤ 1100000 := by have := HWt.out; omega
      obtain ⟨hn, hx⟩ := HWi.out hwt
      have CT1 := Lib.hid (CT.out hn hx)
      have CS1 := Lib.hid (fun v u w h h' => CS.out v u w h h' (by omega) (fun e he => (hx e he).ok))
      have CI1 := Lib.hid (fun v u w h h' => CI.out v u w h h' (by omega) (fun e he => (hx e he).ok))
      have CE1 := Lib.hid (fun u v w h h' => CE.out u v w h h' (by omega) (fun e he => (hx e he).ok))
      have CMD1 := Lib.hid (fun base S v w h hS hb => CMD.out base S v w h hE1 (by omega) hS hb (fun e he => by have := (hx e he).1; omega))
      have c1 := A1.out.cell
      clear CT CS CI CE CZ CMD hx hn hq0 hq1 HWi HWt hwt
      go_wp2_with fail
      refine (CT1.out w1' HB1.out).mono ?_
      rintro r w2 ⟨⟨u2, rfl, hu2⟩, hb⟩
      have U2 := Lib.hid hu2.at
      have A2 := Lib.hid (A1.out.below hb A1.out.lt)
      have HB2 := Lib.hid (below_step HB1.out hb)
      obtain ⟨ua2, uc2, rfl, _, _⟩ := hu2.at.cells
      rw [← HN.out] at U2
      rw [← HN.out]
      clear hb hu2 A1 HB1 c1
      go_wp2_with fail
      refine (CY.out w2 HB2.out).mono ?_
      rintro r wa ⟨⟨y2, rfl, _, hy2⟩, hb⟩
      obtain ⟨ya2, yc2, rfl, hy2'⟩ := HY1.out _ _ hy2
      have Y2 := Lib.hid hy2'
      have Ua := Lib.hid (U2.out.below hb)
      have Aa := Lib.hid (A2.out.below hb A2.out.lt)
      have HBa := Lib.hid (below_step HB2.out hb)
      clear hb hy2 hy2' U2 A2 HB2
      go_wp2_with fail
      refine (CS1.out _ _ wa Ua.out Y2.out).mono ?_
      rintro r w3 ⟨⟨wv, rfl, hwv⟩, hb⟩
      have W3 := Lib.hid (HPa.out _ _ _ (HPn.out _ _ _ hwv))
      have A3 := Lib.hid (Aa.out.below hb Aa.out.lt)
      have HB3 := Lib.hid (below_step HBa.out hb)
      have c3 := A3.out.cell
      clear hb hwv Aa HBa Ua Y2
      go_wp2_with fail
      refine (CT1.out w3 HB3.out).mono ?_
      rintro r w4 ⟨⟨u4, rfl, hu4⟩, hb⟩
      obtain ⟨ua4, uc4, hu4f, _, _⟩ := hu4.at.cells
      rw [← HN.out] at hu4f
      subst hu4f
      obtain ⟨W4, hW4⟩ : ∃ W4, W4 = w4.alloc (.cells #[.slice ua4 n uc4] 33) := ⟨_, rfl⟩
      have hb44 : Below w4.heap.size w4 W4 := by rw [hW4]; exact below_al _ _
      have hs44 : w4.heap.size < W4.heap.size := by rw [hW4]; simp
      have O4 : Hid (OwnEs W4 w3.heap.size w4.heap.size (.slice ua4 n uc4) d0) := hu4.below hb44
      have A4 : Hid (BoxV W4 w.heap.size 24 (.slice a n cap)) := (A3.out.below hb A3.out.lt).below hb44 (by have := A3.out.lt; have := hb.size; omega)
      have X4 : Hid (BoxV W4 w4.heap.size 33 (.slice ua4 n uc4)) := by rw [hW4]; exact BoxV.new _ _ _
      have hb34 : Below w3.heap.size w3 W4 := hb.trans (hb44.mono hb.size)
      have V4 := Lib.hid (W3.out.below hb34)
      have HB34 := Lib.hid hb34
      have HB4 : Hid (Below w.heap.size w W4) := below_step HB3.out hb34
      have HS4 : Hid (w3.heap.size ≤ w4.heap.size) := hb.size
      have HS44 := Lib.hid hs44
      have HCY := Lib.hid (CY.out W4 HB4.out)
      rw [hW4] at HCY
      have HW4 := Lib.hid hW4
      have HA3 : Hid (w.heap.size < w3.heap.size) := A3.out.lt
      clear hb hu4 A3 HB3 c3 hb44 hb34 hs44 hW4
      go_wp2_with fail
      refine HCY.out.mono ?_
      rintro r wb ⟨⟨y4, rfl, hyo, hym⟩, hb⟩
      rw [← HW4.out] at hyo hb
      obtain ⟨ya4, yc4, rfl, hy4'⟩ := HY1.out _ _ hym
      have Yo := Lib.hid hyo
      have Y4 := Lib.hid hy4'
      have Ab := Lib.hid (A4.out.below hb A4.out.lt)
      have Xb := Lib.hid (X4.out.below hb X4.out.lt)
      have Ob := Lib.hid (O4.out.below hb)
      have Vb := Lib.hid (V4.out.below hb)
      have HBb := Lib.hid (below_step HB4.out hb)
      have HB3b := Lib.hid (below_step HB34.out hb)
      have HS4b : Hid (W4.heap.size ≤ wb.heap.size) := hb.size
      have xb := Xb.out.cell
      clear hb hyo hym hy4' A4 X4 O4 V4 HB4 HB34 HCY
      go_wp2_with fail
      refine (CI1.out _ _ wb Ob.out.at Y4.out).mono ?_
      rintro r w5 ⟨⟨gv, rfl, hg⟩, hb⟩
      have G5 : Hid (OwnPcs w5 wb.heap.size gv L (fun j => ps.getD j pc0)) := HPn.out _ _ _ hg
      have A5 := Lib.hid (Ab.out.below hb Ab.out.lt)
      have X5 := Lib.hid (Xb.out.below hb Xb.out.lt)
      have O5 := Lib.hid (Ob.out.below hb)
      have V5 := Lib.hid (Vb.out.below hb)
      have Y5 := Lib.hid (Yo.out.below hb)
      have YA5 := Lib.hid (Y4.out.below hb)
      have HB5 := Lib.hid (below_step HBb.out hb)
      have HB35 := Lib.hid (below_step HB3b.out hb)
      have HS5 : Hid (wb.heap.size ≤ w5.heap.size) := hb.size
      have HYlt : Hid (0 < yn → ∀ g, (Value.slice ya4 yn yc4).ownBlock = some g → g < wb.heap.size) := fun h0 g hg => ownInts_lt Yo.out h0 hg
      clear hb hg Ab Xb Ob Vb Yo Y4 HBb HB3b xb
      go_wp2_with fail
      refine (COE.out _ _ w5 (HPa.out _ _ _ G5.out) V5.out).mono ?_
      rintro r w6 ⟨rfl, hb⟩
      have A6 := Lib.hid (A5.out.below hb A5.out.lt)
      have X6 := Lib.hid (X5.out.below hb X5.out.lt)
      have O6 := Lib.hid (O5.out.below hb)
      have V6 := Lib.hid (V5.out.below hb)
      have G6 := Lib.hid (G5.out.below hb)
      have Y6 := Lib.hid (Y5.out.below hb)
      have YA6 := Lib.hid (YA5.out.below hb)
      have HB6 := Lib.hid (below_step HB5.out hb)
      have HB36 := Lib.hid (below_step HB35.out hb)
      have HS6 : Hid (w5.heap.size ≤ w6.heap.size) := hb.size
      have k0 := cell_regrown X6.out.cell
      have k1 := cell_regrown A6.out.cell
      clear hb A5 X5 O5 V5 G5 Y5 YA5 HB5 HB35
      go_wp2_with fail
      refine Mx.wp_region_mixed (Mx.ofL [(0, 1), (1, 1), (2, 2), (3, 3), (4, 0)] .done) (by kernel_rfl) (by kernel_rfl) ?_
      repeat ((first | refine Mx.mix0 rfl ?_ | refine Mx.mix1 rfl ?_); go_big_quiet_step (fail); refine wpQuiet_nil ?_)
      refine Mx.mix2 rfl ?_
      go_wp2_with fail
      refine (CT1.out w6.drew HB6.out.drew).mono ?_
      rintro r w7 ⟨⟨u7, rfl, hu7⟩, hb⟩
      have hb67 : Below w6.heap.size w6 w7 := (below_drewN (Below.refl _ _) 1).trans hb
      obtain ⟨ua7, uc7, hu7f, _, _⟩ := hu7.at.cells
      rw [← HN.out] at hu7f
      have U7 : Hid (EntsAt w7 (.slice ua7 n uc7) d0) := by rw [← hu7f]; exact hu7.at
      have HG := Lib.hid (regrown_of_below hb67)
      have HB67 := Lib.hid hb67
      have O7 := Lib.hid (O6.out.below hb67)
      subst hu7f
      clear hb hb67 hu7 k0 k1
      go_wp2
      refine Mx.mid_normal (fun _ => HG.out) ?_
      refine Mx.mix3 rfl ?_
      go_wp2_with fail
      refine (CE1.out _ _ w7 O7.out.at U7.out).mono ?_
      rintro r w8 ⟨rfl, hb⟩
      have hb68 : Below w6.heap.size w6 w8 := below_step HB67.out hb
      have A8 := Lib.hid (A6.out.below hb68 A6.out.lt)
      have X8 := Lib.hid (X6.out.below hb68 X6.out.lt)
      have O8 := Lib.hid (O6.out.below hb68)
      have V8 := Lib.hid (V6.out.below hb68)
      have G8 := Lib.hid (G6.out.below hb68)
      have Y8 := Lib.hid (Y6.out.below hb68)
      have YA8 := Lib.hid (YA6.out.below hb68)
      have HB8 := Lib.hid (below_step HB6.out hb68)
      have HB38 := Lib.hid (below_step HB36.out hb68)
      have HS8 : Hid (w6.heap.size ≤ w8.heap.size) := hb68.size
      clear hb hb68 A6 X6 O6 V6 G6 Y6 YA6 HB6 HB36 HB67 O7 U7 HG
      go_wp2
      refine Mx.mid_normal (fun q => by cases q) ?_
      repeat ((first | refine Mx.mix0 rfl ?_ | refine Mx.mix1 rfl ?_); go_big_quiet_step (fail); refine wpQuiet_nil ?_)
      refine Mx.mix_nil ?_
      go_wp2_with fail
      refine (CY.out w8 HB8.out).mono ?_
      rintro r w8a ⟨⟨y8, rfl, _, hym⟩, hb⟩
      obtain ⟨ya8, yc8, rfl, hy8'⟩ := HY1.out _ _ hym
      have YB := Lib.hid hy8'
      have A8a := Lib.hid (A8.out.below hb A8.out.lt)
      have X8a := Lib.hid (X8.out.below hb X8.out.lt)
      have O8a := Lib.hid (O8.out.below hb)
      have V8a := Lib.hid (V8.out.below hb)
      have G8a := Lib.hid (G8.out.below hb)
      have Y8a := Lib.hid (Y8.out.below hb)
      have YA8a := Lib.hid (YA8.out.below hb)
      have HB8a := Lib.hid (below_step HB8.out hb)
      have HB38a := Lib.hid (below_step HB38.out hb)
      have HS8a : Hid (w8.heap.size ≤ w8a.heap.size) := hb.size
      clear hb hym hy8' A8 X8 O8 V8 G8 Y8 YA8 HB8 HB38
      go_wp2_with fail
      refine (CYE.out _ _ w8a YA8a.out YB.out).mono ?_
      rintro r w8b ⟨rfl, hb⟩
      have A8b := Lib.hid (A8a.out.below hb A8a.out.lt)
      have X8b := Lib.hid (X8a.out.below hb X8a.out.lt)
      have O8b := Lib.hid (O8a.out.below hb)
      have V8b := Lib.hid (V8a.out.below hb)
      have G8b := Lib.hid (G8a.out.below hb)
      have Y8b := Lib.hid (Y8a.out.below hb)
      have HB8b := Lib.hid (below_step HB8a.out hb)
      have HB38b := Lib.hid (below_step HB38a.out hb)
      have HS8b : Hid (w8a.heap.size ≤ w8b.heap.size) := hb.size
      have HSz : Hid (wb.heap.size ≤ w8b.heap.size) := by have := HS5.out; have := HS6.out; have := HS8.out; have := HS8a.out; have := HS8b.out; show _ ≤ _; omega
      have x8 := X8b.out.cell
      clear hb A8a X8a O8a V8a G8a Y8a YA8a YB HB8a HB38a HS5 HS6 HS8 HS8a HS8b
      go_wp2_with fail
      refine (CMD1.out _ _ _ w8b O8b.out (by have := HS44.out; have := HS4b.out; have := HSz.out; omega) (by have := HS4.out; have := HS44.out; have := HS4b.out; have := HSz.out; omega)).mono ?_
      rintro r w9 ⟨rfl, _, hT, hb⟩
      have hb39 : Below w3.heap.size w3 w9 := HB38b.out.trans hb
      have V9 := Lib.hid (W3.out.below hb39)
      have G9 : Hid (OwnPcs w9 wb.heap.size gv L (fun j => ps.getD j pc0)) := G8b.out.touch hT (fun h0 g hg => by have := ownPcs_ge G8b.out h0 hg; have := HS44.out; have := HS4b.out; omega)
      have Y9 : Hid (OwnInts w9 W4.heap.size (.slice ya4 yn yc4) yn (fun j => ys.getD j 0)) := Y8b.out.touch hT (fun h0 g hg => by have := Y8b.out.ge h0 hg; have := HS44.out; omega)
      have A9 := Lib.hid (A8b.out.below hb HA3.out)
      have HB9 : Hid (Below w.heap.size w w9) := HB8b.out.trans (hb.mono (Nat.le_of_lt HA3.out))
      have HB39 := Lib.hid hb39
      have HS9 : Hid (w8b.heap.size ≤ w9.heap.size) := hb.size
      clear hb hT hb39 A8b X8b O8b V8b G8b Y8b HB8b HB38b x8
      go_wp2_with fail
      refine (CMI.out _ E _ _ w9 Y9.out (by omega)).mono ?_
      rintro r w9b ⟨rfl, _, hT, hb⟩
      have hW43 : w3.heap.size ≤ W4.heap.size := by have := HS4.out; have := HS44.out; omega
      have hb39 : Below w3.heap.size w3 w9b := HB39.out.trans (hb.mono hW43)
      have V9b := Lib.hid (W3.out.below hb39)
      have G9b : Hid (OwnPcs w9b wb.heap.size gv L (fun j => ps.getD j pc0)) := G9.out.touch hT (fun h0 g hg hq => by have := ownPcs_ge G9.out h0 hg; have := HYlt.out hq.1 g hq.2; omega)
      have hA43 : w.heap.size < W4.heap.size := by have := HA3.out; omega
      have A9b := Lib.hid (A9.out.below hb hA43)
      have HB9b : Hid (Below w.heap.size w w9b) := HB9.out.trans (hb.mono (Nat.le_of_lt hA43))
      have HB39b := Lib.hid hb39
      have HS9b : Hid (w9.heap.size ≤ w9b.heap.size) := hb.size
      obtain ⟨K, hK⟩ : ∃ K : Int, K = ((E + yn : Nat) : Int) := ⟨_, rfl⟩
      have hKp : ¬ K < 0 := by omega
      rw [← hK]
      clear hb hT hb39 A9 V9 G9 Y9 HB9 HB39 hK hW43 hA43
      go_wp2_with fail
      refine (COE.out _ _ w9b (HPa.out _ _ _ G9b.out) V9b.out).mono ?_
      rintro r w10 ⟨rfl, hb⟩
      have A10 := Lib.hid (A9b.out.below hb A9b.out.lt)
      have G10 := Lib.hid (G9b.out.below hb)
      have HB10 := Lib.hid (below_step HB9b.out hb)
      have HB310 := Lib.hid (below_step HB39b.out hb)
      have HS10 : Hid (w9b.heap.size ≤ w10.heap.size) := hb.size
      clear hb A9b V9b G9b HB9b HB39b
      go_wp2_with fail
      refine (CMO.out _ _ _ w10 G10.out (by have := HSz.out; have := HS9.out; have := HS9b.out; have := HS10.out; omega)).mono ?_
      rintro r w11 ⟨rfl, hG, _, hb⟩
      have G11 := Lib.hid hG
      have hA4 : w.heap.size < wb.heap.size := by have := HA3.out; have := HS4.out; have := HS44.out; have := HS4b.out; omega
      have A11 := Lib.hid (A10.out.below hb hA4)
      have HB11 : Hid (Below w.heap.size w w11) := HB10.out.trans (hb.mono (Nat.le_of_lt hA4))
      have HB311 : Hid (Below w3.heap.size w3 w11) := HB310.out.trans (hb.mono (by have := HS4.out; have := HS44.out; have := HS4b.out; omega))
      have hMp : ¬ M < 0 := by omega
      have hMM : (M != M) = false := by simp
      clear hb hG A10 G10 HB10 HB310 hA4
      go_wp2_with fail
      refine (CHO.out _ _ w11 G11.out).mono ?_
      rintro r w12 ⟨rfl, hb⟩
      have A12 := Lib.hid (A11.out.below hb A11.out.lt)
      have G12 := Lib.hid (G11.out.below hb)
      have HB12 := Lib.hid (below_step HB11.out hb)
      have HB312 := Lib.hid (below_step HB311.out hb)
      have c12 := A12.out.cell
      clear hb A11 G11 HB11 HB311
      go_wp2_with fail
      refine (CT1.out w12 HB12.out).mono ?_
      rintro r w13 ⟨⟨u13, rfl, hu13⟩, hb⟩
      obtain ⟨ua13, uc13, hu13f, _, _⟩ := hu13.at.cells
      rw [← HN.out] at hu13f
      have U13 : Hid (EntsAt w13 (.slice ua13 n uc13) d0) := by rw [← hu13f]; exact hu13.at
      subst hu13f
      have G13 := Lib.hid (G12.out.below hb)
      have HB13 := Lib.hid (below_step HB12.out hb)
      have HB313 := Lib.hid (below_step HB312.out hb)
      clear hb hu13 A12 G12 HB12 HB312 c12
      go_wp2_with fail
      refine (CY.out w13 HB13.out).mono ?_
      rintro r w13b ⟨⟨y13, rfl, _, hym⟩, hb⟩
      obtain ⟨ya13, yc13, rfl, hy13'⟩ := HY1.out _ _ hym
      have Y13 := Lib.hid hy13'
      have U13b := Lib.hid (U13.out.below hb)
      have G13b := Lib.hid (G13.out.below hb)
      have HB13b := Lib.hid (below_step HB13.out hb)
      have HB313b := Lib.hid (below_step HB313.out hb)
      clear hb hym hy13' G13 HB13 HB313 U13
      go_wp2_with fail
      refine (CI1.out _ _ w13b U13b.out Y13.out).mono ?_
      rintro r w14 ⟨⟨hv, rfl, hg⟩, hb⟩
      have H14 : Hid (PcsAt w14 hv ps) := HPa.out _ _ _ (HPn.out _ _ _ hg)
      have G14 := Lib.hid (G13b.out.below hb)
      have HB14 := Lib.hid (below_step HB13b.out hb)
      have V14 := Lib.hid (W3.out.below (below_step HB313b.out hb))
      clear hb hg G13b HB13b HB313b U13b Y13
      go_wp2_with fail
      refine (COE.out _ _ w14 H14.out V14.out).mono ?_
      rintro r w15 ⟨rfl, hb⟩
      have G15 := Lib.hid (G14.out.below hb)
      have HB15 := Lib.hid (below_step HB14.out hb)
      clear hb H14 G14 HB14 V14
      go_wp2_with fail
      refine (CHO.out _ _ w15 G15.out).mono ?_
      rintro r w16 ⟨rfl, hb⟩
      have HB16 := Lib.hid (below_step HB15.out hb)
      clear hb G15 HB15
      go_wp2
      go_ret
      exact ⟨rfl, HB16.out⟩

/-! ### THE ROW's STEP -/
set_option maxRecDepth 100000 in
theorem contract (H : Type) (enc : TypeId × Value → H) (W : World) (base : Nat) (args : Array Value) (ds gs : List (DataW H)) (before : List MemPlace)
    (hval : ∀ (j : Nat) t v, Try.f4.params[j]? = some t → args[j]? = some v → Value.okWide Try.prog W .any base t v)
    (hW : DataW.Whole enc Try.prog Try.f4.params.toList Rows.fnExactSegmentSpec.vars false W args.toList ds gs before) (hL : laidMetH Try.prog Rows.fnExactSegmentRow.laid W) (hS : W.ShapedOpen Try.prog) :
    Calls Try.prog 4 args W fun e W' => ∃ v, e = .returned v ∧ Rows.fnExactSegmentSpec.post enc Try.prog Try.f4 false true false false W args v W' := by
  have hW' := hW
  obtain ⟨p, q, hA0, hV, rfl, hfz, hnd⟩ := hW
  have hA : DataW.TrodAll enc Try.prog W 0 (fun _ => true) true Try.f4.params.toList args.toList ds p := hA0
  rw [Try.params4] at hA hval
  obtain ⟨v0, vs0, d0, ds0, p0, q0, hargs, rfl, rfl, h0, r0⟩ := trodAll_cons hA
  obtain ⟨v1, vs1, d1, ds1, p1, q1, rfl, rfl, rfl, h1, r1⟩ := trodAll_cons r0
  obtain ⟨rfl, rfl, rfl⟩ := trodAll_nil r1
  obtain rfl : args = #[v0, v1] := by cases args; simp_all
  obtain ⟨rfl, rfl⟩ := trodVars_none hV
  have k0 := h0
  have lt0 : ∀ x ∈ p0, x.block < W.heap.size := by obtain ⟨m, hm⟩ := k0; exact DataW.trod_lt m _ _ _ hm
  obtain ⟨u0, d0, rfl, w0⟩ := open_dictV Try.underlying24 (by kernel_rfl) (by kernel_rfl) ⟨rfl, rfl⟩ Try.underlying22 Try.underlying85 (by kernel_rfl) (by kernel_rfl) (by kernel_rfl) (by kernel_rfl) ⟨rfl, rfl⟩ ⟨rfl, rfl⟩ Try.underlying25 Try.underlying3 Try.underlying9 (hval 0 24 v0 rfl rfl) h0
  have k1 := h1
  have lt1 : ∀ x ∈ p1, x.block < W.heap.size := by obtain ⟨m, hm⟩ := k1; exact DataW.trod_lt m _ _ _ hm
  obtain ⟨a1, n1, c1, rfl⟩ := okWide_slice Try.underlying25 (hval 1 25 v1 rfl rfl)
  obtain ⟨z1, w1⟩ : ∃ zs, IsRow .i64 W a1 n1 c1 zs := by
    obtain ⟨fuel, hf⟩ := h1
    rcases open_ints Try.underlying25 Try.underlying3 (by kernel_rfl) hf with ⟨hcs, _⟩ | ⟨x, l, c, zs, hcs, _, hl, hm, hz, _, hcell, hwz⟩
    · simp [Value.cells] at hcs
      obtain ⟨rfl, rfl, rfl⟩ := hcs
      exact ⟨[], .inl ⟨rfl, rfl, rfl, rfl⟩⟩
    · simp [Value.cells] at hcs
      obtain ⟨rfl, rfl, rfl⟩ := hcs
      exact ⟨zs, .inr ⟨_, rfl, hl, hm, by simpa using hz, hcell, hwz⟩⟩
  clear hA0 hval
  refine (walk u0 d0 a1 n1 c1 z1 W hS  w0 w1).mono fun e W' ⟨he, bel⟩ => ?_
  subst he
  exact ⟨_, rfl, _, _, _, [], _, [], hW', trodAll_mk1 (shut_bool Try.underlying4 _), (trodAll_cons_mk (Below.trod laidOut (by kernel_rfl) (of_decide_eq_true (by kernel_rfl)) k0 bel lt0) (trodAll_cons_mk (Below.trod laidOut (by kernel_rfl) (of_decide_eq_true (by kernel_rfl)) k1 bel lt1) trodAll_mk0)), rfl, bel.frame _, fun h => by cases h⟩

theorem reads (os : Os) {H : Type} (enc : TypeId × Value → H) : ∃ places, DataW.whole enc Try.prog ((World.holding Try.prog os ⟨#[], #[], []⟩).forCall (fun _ _ => 0) ⟨#[], #[.agg #[.slice none 0 0], .slice none 0 0], []⟩).memory Try.f4.params.toList Rows.fnExactSegmentSpec.vars false (#[.agg #[.slice none 0 0], .slice none 0 0] : Array Value).toList 8 = some ([.agg [.nil], .nil], [], places) :=
  ⟨[], by kernel_rfl⟩

set_option maxRecDepth 100000 in
theorem lifted (os : Os) (started : os.Started) (H : Type) (enc : TypeId × Value → H) (F : Stop.Interp) :
    ReturnsInHanded {} Try.checked os 4 .any ((OpenSpec.ofChange Rows.fnExactSegmentSpec).preRow enc Try.prog Try.f4 Rows.fnExactSegmentRow.domain false Rows.fnExactSegmentRow.laid) (((OpenSpec.ofChange Rows.fnExactSegmentSpec).at F).post enc Try.prog Try.f4 false true false false) := by
  obtain ⟨places, hx⟩ := reads os enc
  refine returnsInHanded_of_row (C := Try.checked) (s := OpenSpec.ofChange Rows.fnExactSegmentSpec) own started (by kernel_rfl) Try.func4
    (witness_row_atRef (enc := enc) (C := Try.checked) false (World.holding Try.prog os ⟨#[], #[], []⟩) #[.agg #[.slice none 0 0], .slice none 0 0] rfl (by kernel_rfl) (by kernel_rfl) (by kernel_rfl)
      (OpenSpec.preRow_of_cond 8 hx (by kernel_rfl) (fun k hk => by cases hk) (by kernel_rfl) ⟨[], rfl, List.nodup_nil, fun b off h => by cases h⟩)) ?_
  intro W base args ds gs before hval hW _ _ _ hL hS _
  exact contract H enc W base args ds gs before hval hW hL hS

theorem said : Rows.FnExactSegmentSaid :=
  OpenClaim.holds_of_cond 4 Try.f4 rfl rfl rfl rfl rfl rfl rfl ⟨rfl, rfl, rfl, rfl, rfl⟩ rfl rfl rfl rfl rfl (by kernel_rfl) Try.func4 (by kernel_rfl)
    (of_decide_eq_true (by kernel_rfl)) (by unfold Func.isWrapper; first | (rw [if_pos (by decide +kernel)]; kernel_rfl) | (rw [if_neg (by decide +kernel)]; exact ⟨rfl, rfl⟩))
    (fun os started H enc _ F => by rw [OpenClaim.pre_eq_preRow]; exact lifted os started H enc F)

theorem proved : Rows.FnExactSegmentSaid := said
#print axioms proved
end Go.Proofs.Ythigdblloddepaa.fnExactSegment
