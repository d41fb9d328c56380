/-
  laws.FnExactReverseLookup returns true whatever the dictionary and the text: impl.ReverseLookup answers as the specification, leaves its arguments, and its answer owns its memory. Conditions: none but the row's own.
-/
import Derived.Test.YtllmghcemdgohaaRows
import Derived.WalkKit
import Derived.ProofKit
import Derived.OpenShut
import Derived.ShutString
import Derived.ChangeOld
import Derived.Below
import Derived.SliceStrings
import Derived.JoinedCond
import Derived.Deep.DeepHandedRow
import Derived.Deep.DeepWitnessRowRef
import Derived.Lib.Hide
import Derived.Test.YtllmghcemdgohaaRev
import Derived.Test.YtllmghcemdgohaaMarkO
import Derived.Test.YtllmghcemdgohaaMix
namespace Go.Proofs.Ytllmghcemdgohaa.fnExactReverseLookup
open Go.ChangeShapes Go.WideShapes Go.ChangeAt Go.RowKit
open Go.ChangeMaps (open_string shut_string)
set_option linter.unusedVariables false
set_option maxRecDepth 100000

theorem own : ownKnob Try.prog.godebug = none := by kernel_rfl
theorem laidOut : laidOutB Try.prog = true := by kernel_rfl

/-! ### THE WALK: the Go text returns true, and writes nothing that was there. -/
set_option maxRecDepth 100000 in
set_option maxHeartbeats 8000000 in
theorem walk (u0 : Value) (d0 : List Ent) (a1 : ByteArray) (w : World) (hS : w.ShapedOpen Try.prog)  (w0 : EntsIn w u0 d0) (w1 : a1.size ≤ maxLen) :
    Calls Try.prog 7 #[dV u0, .string a1] w fun e w' => e = .returned (.bool true) ∧ Below w.heap.size w w' := by
  obtain ⟨hat, hlen, hfine⟩ := w0
  have CZ := Lib.hid (fun w' hb => szDw_any u0 d0 w' ⟨hat.below (w' := w') hb, hlen, hfine⟩)
  have CT := Lib.hid (fun hn hx w' hb => toD_any u0 d0 w' (hat.below (w' := w') hb) hn hx)
  have CE := Lib.hid (fun u v w h h' hn hx => eqD_same u v d0 w h h' hn hx)
  have CS := Lib.hid (fun v w h hn hx => specRev_any v d0 a1 w h hn hx)
  have CI := Lib.hid (fun v w h hn hx => Rev_any v d0 a1 w h hn hx)
  have CMD := Lib.hid (fun base S v w h hm hn hS hb hx => markD_any base S v d0 w h hm hn hS hb hx)
  have ho1 := revO_len a1 d0
  have ho2 := revO_small a1 d0
  obtain ⟨os, hos⟩ : ∃ os, os = revO a1 d0 := ⟨_, rfl⟩
  obtain ⟨b, hbb⟩ : ∃ b, b = okD d0 := ⟨_, rfl⟩
  rw [← hos, ← hbb] at CS CI
  rw [← hos] at ho1 ho2
  have COE := Lib.hid (fun u v w h h' => eqOs_same u v os w h h' (by omega) (fun xs hx => by have := ho2 xs hx; omega))
  have CMO := Lib.hid (fun base S v w h => markOs_any base S v os w h (by omega) (fun xs hx => by have := ho2 xs hx; omega))
  have CHO := Lib.hid (fun base S v w h => heldOs_any base S v os w h (by omega) (fun xs hx => by have := ho2 xs hx; omega))
  unfold maxLen at w1
  obtain ⟨a, cap, rfl, hcap, _⟩ := hat.cells
  obtain ⟨M, hM⟩ : ∃ M, M = endO 1 os := ⟨_, rfl⟩
  rw [← hM] at CMO CHO
  have HWt := Lib.hid (endE_wt 1 d0)
  have HWi := Lib.hid (fun h => wtE_in (es := d0) h)
  obtain ⟨n, hnn⟩ : ∃ n, n = d0.length := ⟨_, rfl⟩
  have HN := Lib.hid hnn
  unfold dV at CZ CT CS CI CE CMD ⊢
  rw [← hnn] at CZ CT CS CI CE CMD hcap HWt HWi ⊢
  obtain ⟨E, hE⟩ : ∃ E, E = endE 1 d0 := ⟨_, rfl⟩
  rw [← hE] at CMD HWt
  obtain ⟨WT, hWT⟩ : ∃ WT, WT = wtE d0 := ⟨_, rfl⟩
  rw [← hWT] at CZ HWt HWi
  clear hat hS hlen hfine hos hbb ho1 ho2 hnn hE hWT hM
  by_cases hbig : 1048576 < a1.size
  · clear CZ CT CE CS CI CMD COE CMO CHO
    go_enter Try.func7, Try.ntmps7
    go_wp2
    go_ret
    exact ⟨rfl, below_al _ _⟩
  · go_enter Try.func7, Try.ntmps7
    go_wp2_with fail
    refine (CZ.out _ (below_al _ _)).mono ?_
    rintro r w1' ⟨⟨q, rfl, hq⟩, hb⟩
    have A1 : Hid (BoxV w1' w.heap.size 48 (.slice a n cap)) := (BoxV.new w _ _).below hb (by simp)
    have HB1 := Lib.hid (below_box hb)
    clear hb
    rcases hq with rfl | ⟨hq0, hq1⟩
    · go_wp2
      go_ret
      exact ⟨rfl, HB1.out⟩
    · have hnq : ¬ q < 0 := by omega
      have hwt : WT + n ≤ 1048576 := by omega
      have hE1 : E ≤ 1100000 := by have := HWt.out; omega
      obtain ⟨hn, hx⟩ := HWi.out hwt
      have CT1 := Lib.hid (CT.out hn hx)
      have CS1 := Lib.hid (fun v w h => CS.out v w h (by omega) (fun e he => (hx e he).ok))
      have CI1 := Lib.hid (fun v w h => CI.out v w h (by omega) (fun e he => (hx e he).ok))
      have CE1 := Lib.hid (fun u v w h h' => CE.out u v w h h' (by omega) (fun e he => (hx e he).ok))
      have CMD1 := Lib.hid (fun base S v w h hS hb => CMD.out base S v w h hE1 (by omega) hS hb (fun e he => by have := (hx e he).1; omega))
      have c1 := A1.out.cell
      clear CT CS CI CE CZ CMD hx hn hq0 hq1 HWi HWt hwt hE1
      go_wp2_with fail
      refine (CT1.out w1' HB1.out).mono ?_
      rintro r w2 ⟨⟨u2, rfl, hu2⟩, hb⟩
      have U2 := Lib.hid hu2.at
      have A2 := Lib.hid (A1.out.below hb A1.out.lt)
      have HB2 := Lib.hid (below_step HB1.out hb)
      obtain ⟨ua2, uc2, rfl, _, _⟩ := hu2.at.cells
      rw [← HN.out] at U2
      rw [← HN.out]
      clear hb hu2 A1 HB1 c1
      go_wp2_with fail
      refine (CS1.out _ w2 U2.out).mono ?_
      rintro r w3 ⟨⟨wv, rfl, hwv⟩, hb⟩
      have W3 := Lib.hid hwv
      have A3 := Lib.hid (A2.out.below hb A2.out.lt)
      have HB3 := Lib.hid (below_step HB2.out hb)
      have c3 := A3.out.cell
      obtain ⟨wa, wc, rfl, _, _⟩ := hwv.cells
      clear hb hwv A2 HB2 U2
      go_wp2_with fail
      refine (CT1.out w3 HB3.out).mono ?_
      rintro r w4 ⟨⟨u4, rfl, hu4⟩, hb⟩
      obtain ⟨ua4, uc4, hu4f, _, _⟩ := hu4.at.cells
      rw [← HN.out] at hu4f
      subst hu4f
      obtain ⟨W4, hW4⟩ : ∃ W4, W4 = w4.alloc (.cells #[.slice ua4 n uc4] 26) := ⟨_, rfl⟩
      have hb44 : Below w4.heap.size w4 W4 := by rw [hW4]; exact below_al _ _
      have hs44 : w4.heap.size < W4.heap.size := by rw [hW4]; simp
      have O4 : Hid (OwnEs W4 w3.heap.size w4.heap.size (.slice ua4 n uc4) d0) := hu4.below hb44
      have A4 : Hid (BoxV W4 w.heap.size 48 (.slice a n cap)) := (A3.out.below hb A3.out.lt).below hb44 (by have := A3.out.lt; have := hb.size; omega)
      have X4 : Hid (BoxV W4 w4.heap.size 26 (.slice ua4 n uc4)) := by rw [hW4]; exact BoxV.new _ _ _
      have hb34 : Below w3.heap.size w3 W4 := hb.trans (hb44.mono hb.size)
      have V4 := Lib.hid (W3.out.below hb34)
      have HB34 := Lib.hid hb34
      have HB4 : Hid (Below w.heap.size w W4) := below_step HB3.out hb34
      have HS4 : Hid (w3.heap.size ≤ w4.heap.size) := hb.size
      have HS44 := Lib.hid hs44
      have HCI := Lib.hid (CI1.out _ W4 O4.out.at)
      rw [hW4] at HCI
      have HW4 := Lib.hid hW4
      have HA3 : Hid (w.heap.size < w3.heap.size) := A3.out.lt
      clear hb hu4 A3 HB3 c3 hb44 hb34 hs44 hW4
      go_wp2_with fail
      refine HCI.out.mono ?_
      rintro r w5 ⟨⟨gv, us, rfl, hg, hus⟩, hb⟩
      rw [← HW4.out] at hg hb
      have G5 : Hid (OwnOs w5 W4.heap.size w5.heap.size gv os) := by rw [← hus]; exact hg.own'
      have GA5 : Hid (OutsAt w5 gv os) := G5.out.at
      have A5 := Lib.hid (A4.out.below hb A4.out.lt)
      have X5 := Lib.hid (X4.out.below hb X4.out.lt)
      have O5 := Lib.hid (O4.out.below hb)
      have V5 := Lib.hid (V4.out.below hb)
      have HB5 := Lib.hid (below_step HB4.out hb)
      have HB35 := Lib.hid (below_step HB34.out hb)
      have HS5 : Hid (W4.heap.size ≤ w5.heap.size) := hb.size
      obtain ⟨ga, gc, rfl, _, _⟩ := GA5.out.cells
      clear hb hg hus A4 X4 O4 V4 HB4 HB34 HCI
      go_wp2_with fail
      refine (COE.out _ _ w5 GA5.out V5.out).mono ?_
      rintro r w6 ⟨rfl, hb⟩
      have A6 := Lib.hid (A5.out.below hb A5.out.lt)
      have X6 := Lib.hid (X5.out.below hb X5.out.lt)
      have O6 := Lib.hid (O5.out.below hb)
      have V6 := Lib.hid (V5.out.below hb)
      have G6 := Lib.hid (G5.out.below hb)
      have HB6 := Lib.hid (below_step HB5.out hb)
      have HB36 := Lib.hid (below_step HB35.out hb)
      have HS6 : Hid (w5.heap.size ≤ w6.heap.size) := hb.size
      have k0 := cell_regrown X6.out.cell
      have k1 := cell_regrown A6.out.cell
      clear hb A5 X5 O5 V5 G5 HB5 HB35 GA5
      go_wp2_with fail
      refine Mx.wp_region_mixed (Mx.ofL [(0, 1), (1, 1), (2, 2), (3, 3), (4, 0)] .done) (by kernel_rfl) (by kernel_rfl) ?_
      repeat ((first | refine Mx.mix0 rfl ?_ | refine Mx.mix1 rfl ?_); go_big_quiet_step (fail); refine wpQuiet_nil ?_)
      refine Mx.mix2 rfl ?_
      go_wp2_with fail
      refine (CT1.out w6.drew HB6.out.drew).mono ?_
      rintro r w7 ⟨⟨u7, rfl, hu7⟩, hb⟩
      have hb67 : Below w6.heap.size w6 w7 := (below_drewN (Below.refl _ _) 1).trans hb
      obtain ⟨ua7, uc7, hu7f, _, _⟩ := hu7.at.cells
      rw [← HN.out] at hu7f
      have U7 : Hid (EntsAt w7 (.slice ua7 n uc7) d0) := by rw [← hu7f]; exact hu7.at
      have HG := Lib.hid (regrown_of_below hb67)
      have HB67 := Lib.hid hb67
      have O7 := Lib.hid (O6.out.below hb67)
      subst hu7f
      clear hb hb67 hu7 k0 k1
      go_wp2
      refine Mx.mid_normal (fun _ => HG.out) ?_
      refine Mx.mix3 rfl ?_
      go_wp2_with fail
      refine (CE1.out _ _ w7 O7.out.at U7.out).mono ?_
      rintro r w8 ⟨rfl, hb⟩
      have hb68 : Below w6.heap.size w6 w8 := below_step HB67.out hb
      have A8 := Lib.hid (A6.out.below hb68 A6.out.lt)
      have X8 := Lib.hid (X6.out.below hb68 X6.out.lt)
      have O8 := Lib.hid (O6.out.below hb68)
      have V8 := Lib.hid (V6.out.below hb68)
      have G8 := Lib.hid (G6.out.below hb68)
      have HB8 := Lib.hid (below_step HB6.out hb68)
      have HB38 := Lib.hid (below_step HB36.out hb68)
      have HS8 : Hid (w6.heap.size ≤ w8.heap.size) := hb68.size
      have x8 := X8.out.cell
      clear hb hb68 A6 X6 O6 V6 G6 HB6 HB36 HB67 O7 U7 HG
      go_wp2
      refine Mx.mid_normal (fun q => by cases q) ?_
      repeat ((first | refine Mx.mix0 rfl ?_ | refine Mx.mix1 rfl ?_); go_big_quiet_step (fail); refine wpQuiet_nil ?_)
      refine Mx.mix_nil ?_
      go_wp2_with fail
      refine (CMD1.out _ _ _ w8 O8.out (by have := HS44.out; have := HS5.out; have := HS6.out; have := HS8.out; omega) (by have := HS4.out; have := HS44.out; have := HS5.out; have := HS6.out; have := HS8.out; omega)).mono ?_
      rintro r w9 ⟨rfl, _, hT, hb⟩
      have hb39 : Below w3.heap.size w3 w9 := HB38.out.trans hb
      have V9 := Lib.hid (W3.out.below hb39)
      have G9 : Hid (OwnOs w9 W4.heap.size w5.heap.size (.slice (ga) os.length gc) os) := G8.out.touch hT (fun x h1 h2 h3 => by have := HS44.out; omega)
      have A9 := Lib.hid (A8.out.below hb HA3.out)
      have HB9 : Hid (Below w.heap.size w w9) := HB8.out.trans (hb.mono (Nat.le_of_lt HA3.out))
      have HB39 := Lib.hid hb39
      have hEp : ¬ (E : Int) < 0 := by omega
      have hs89 := hb.size
      have HS9 : Hid (w8.heap.size ≤ w9.heap.size) := hs89
      clear hb hT hb39 A8 X8 O8 V8 G8 HB8 HB38 x8 hs89
      go_wp2_with fail
      refine (COE.out _ _ w9 G9.out.at V9.out).mono ?_
      rintro r w10 ⟨rfl, hb⟩
      have A10 := Lib.hid (A9.out.below hb A9.out.lt)
      have G10 := Lib.hid (G9.out.below hb)
      have HB10 := Lib.hid (below_step HB9.out hb)
      have HB310 := Lib.hid (below_step HB39.out hb)
      clear hb A9 V9 G9 HB9 HB39
      go_wp2_with fail
      refine (CMO.out _ _ _ w10 G10.out).mono ?_
      rintro r w11 ⟨rfl, hG, _, hb⟩
      have G11 := Lib.hid hG
      have hA4 : w.heap.size < W4.heap.size := by have := HA3.out; have := HS4.out; have := HS44.out; omega
      have A11 := Lib.hid (A10.out.below hb hA4)
      have HB11 : Hid (Below w.heap.size w w11) := HB10.out.trans (hb.mono (Nat.le_of_lt hA4))
      have HB311 : Hid (Below w3.heap.size w3 w11) := HB310.out.trans (hb.mono (by have := HS4.out; have := HS44.out; omega))
      have hMp : ¬ (M : Int) < 0 := by omega
      have hMM : ((M : Int) != (M : Int)) = false := by simp
      clear hb hG A10 G10 HB10 HB310 hA4
      go_wp2_with fail
      refine (CHO.out _ _ _ w11 G11.out).mono ?_
      rintro r w12 ⟨rfl, hb⟩
      have A12 := Lib.hid (A11.out.below hb A11.out.lt)
      have G12 := Lib.hid (G11.out.below hb)
      have HB12 := Lib.hid (below_step HB11.out hb)
      have HB312 := Lib.hid (below_step HB311.out hb)
      have c12 := A12.out.cell
      clear hb A11 G11 HB11 HB311
      go_wp2_with fail
      refine (CT1.out w12 HB12.out).mono ?_
      rintro r w13 ⟨⟨u13, rfl, hu13⟩, hb⟩
      obtain ⟨ua13, uc13, hu13f, _, _⟩ := hu13.at.cells
      rw [← HN.out] at hu13f
      have U13 : Hid (EntsAt w13 (.slice ua13 n uc13) d0) := by rw [← hu13f]; exact hu13.at
      subst hu13f
      have G13 := Lib.hid (G12.out.below hb)
      have HB13 := Lib.hid (below_step HB12.out hb)
      have HB313 := Lib.hid (below_step HB312.out hb)
      clear hb hu13 A12 G12 HB12 HB312 c12
      go_wp2_with fail
      refine (CI1.out _ w13 U13.out).mono ?_
      rintro r w14 ⟨⟨hv, us', rfl, hg, hus⟩, hb⟩
      have H14 : Hid (OutsAt w14 hv os) := by rw [← hus]; exact hg.at
      have G14 := Lib.hid (G13.out.below hb)
      have HB14 := Lib.hid (below_step HB13.out hb)
      have V14 := Lib.hid (W3.out.below (below_step HB313.out hb))
      obtain ⟨ha, hc, rfl, _, _⟩ := H14.out.cells
      clear hb hg hus G13 HB13 HB313 U13
      go_wp2_with fail
      refine (COE.out _ _ w14 H14.out V14.out).mono ?_
      rintro r w15 ⟨rfl, hb⟩
      have G15 := Lib.hid (G14.out.below hb)
      have HB15 := Lib.hid (below_step HB14.out hb)
      clear hb H14 G14 HB14 V14
      go_wp2_with fail
      refine (CHO.out _ _ _ w15 G15.out).mono ?_
      rintro r w16 ⟨rfl, hb⟩
      have HB16 := Lib.hid (below_step HB15.out hb)
      clear hb G15 HB15
      go_wp2
      go_ret
      exact ⟨rfl, HB16.out⟩

/-! ### THE ROW's STEP -/
set_option maxRecDepth 100000 in
theorem contract (H : Type) (enc : TypeId × Value → H) (W : World) (base : Nat) (args : Array Value) (ds gs : List (DataW H)) (before : List MemPlace)
    (hval : ∀ (j : Nat) t v, Try.f7.params[j]? = some t → args[j]? = some v → Value.okWide Try.prog W .any base t v)
    (hW : DataW.Whole enc Try.prog Try.f7.params.toList Rows.fnExactReverseLookupSpec.vars false W args.toList ds gs before) (hL : laidMetH Try.prog Rows.fnExactReverseLookupRow.laid W) (hS : W.ShapedOpen Try.prog) :
    Calls Try.prog 7 args W fun e W' => ∃ v, e = .returned v ∧ Rows.fnExactReverseLookupSpec.post enc Try.prog Try.f7 false true false false W args v W' := by
  have hW' := hW
  obtain ⟨p, q, hA0, hV, rfl, hfz, hnd⟩ := hW
  have hA : DataW.TrodAll enc Try.prog W 0 (fun _ => true) true Try.f7.params.toList args.toList ds p := hA0
  rw [Try.params7] at hA hval
  obtain ⟨v0, vs0, d0, ds0, p0, q0, hargs, rfl, rfl, h0, r0⟩ := trodAll_cons hA
  obtain ⟨v1, vs1, d1, ds1, p1, q1, rfl, rfl, rfl, h1, r1⟩ := trodAll_cons r0
  obtain ⟨rfl, rfl, rfl⟩ := trodAll_nil r1
  obtain rfl : args = #[v0, v1] := by cases args; simp_all
  obtain ⟨rfl, rfl⟩ := trodVars_none hV
  have k0 := h0
  have lt0 : ∀ x ∈ p0, x.block < W.heap.size := by obtain ⟨m, hm⟩ := k0; exact DataW.trod_lt m _ _ _ hm
  obtain ⟨u0, d0, rfl, w0⟩ := open_dictV Try.underlying48 (by kernel_rfl) (by kernel_rfl) ⟨rfl, rfl⟩ Try.underlying46 Try.underlying40 (by kernel_rfl) (by kernel_rfl) (by kernel_rfl) (by kernel_rfl) ⟨rfl, rfl⟩ ⟨rfl, rfl⟩ Try.underlying36 Try.underlying3 Try.underlying9 (hval 0 48 v0 rfl rfl) h0
  have k1 := h1
  have lt1 : ∀ x ∈ p1, x.block < W.heap.size := by obtain ⟨m, hm⟩ := k1; exact DataW.trod_lt m _ _ _ hm
  obtain ⟨a1, rfl, rfl, rfl, w1⟩ := open_string Try.underlying9 (hval 1 9 v1 rfl rfl) h1
  clear hA0 hval
  refine (walk u0 d0 a1 W hS  w0 w1).mono fun e W' ⟨he, bel⟩ => ?_
  subst he
  exact ⟨_, rfl, _, _, _, [], _, [], hW', trodAll_mk1 (shut_bool Try.underlying4 _), (trodAll_cons_mk (Below.trod laidOut (by kernel_rfl) (of_decide_eq_true (by kernel_rfl)) k0 bel lt0) (trodAll_cons_mk (Below.trod laidOut (by kernel_rfl) (of_decide_eq_true (by kernel_rfl)) k1 bel lt1) trodAll_mk0)), rfl, bel.frame _, fun h => by cases h⟩

theorem reads (os : Os) {H : Type} (enc : TypeId × Value → H) : ∃ places, DataW.whole enc Try.prog ((World.holding Try.prog os ⟨#[], #[], []⟩).forCall (fun _ _ => 0) ⟨#[], #[.agg #[.slice none 0 0], .string ByteArray.empty], []⟩).memory Try.f7.params.toList Rows.fnExactReverseLookupSpec.vars false (#[.agg #[.slice none 0 0], .string ByteArray.empty] : Array Value).toList 8 = some ([.agg [.nil], .lit (.string [])], [], places) :=
  ⟨[], by kernel_rfl⟩

set_option maxRecDepth 100000 in
theorem lifted (os : Os) (started : os.Started) (H : Type) (enc : TypeId × Value → H) (F : Stop.Interp) :
    ReturnsInHanded {} Try.checked os 7 .any ((OpenSpec.ofChange Rows.fnExactReverseLookupSpec).preRow enc Try.prog Try.f7 Rows.fnExactReverseLookupRow.domain false Rows.fnExactReverseLookupRow.laid) (((OpenSpec.ofChange Rows.fnExactReverseLookupSpec).at F).post enc Try.prog Try.f7 false true false false) := by
  obtain ⟨places, hx⟩ := reads os enc
  refine returnsInHanded_of_row (C := Try.checked) (s := OpenSpec.ofChange Rows.fnExactReverseLookupSpec) own started (by kernel_rfl) Try.func7
    (witness_row_atRef (enc := enc) (C := Try.checked) false (World.holding Try.prog os ⟨#[], #[], []⟩) #[.agg #[.slice none 0 0], .string ByteArray.empty] rfl (by kernel_rfl) (by kernel_rfl) (by kernel_rfl)
      (OpenSpec.preRow_of_cond 8 hx (by kernel_rfl) (fun k hk => by cases hk) (by kernel_rfl) ⟨[], rfl, List.nodup_nil, fun b off h => by cases h⟩)) ?_
  intro W base args ds gs before hval hW _ _ _ hL hS _
  exact contract H enc W base args ds gs before hval hW hL hS

theorem said : Rows.FnExactReverseLookupSaid :=
  OpenClaim.holds_of_cond 7 Try.f7 rfl rfl rfl rfl rfl rfl rfl ⟨rfl, rfl, rfl, rfl, rfl⟩ rfl rfl rfl rfl rfl (by kernel_rfl) Try.func7 (by kernel_rfl)
    (of_decide_eq_true (by kernel_rfl)) (by unfold Func.isWrapper; first | (rw [if_pos (by decide +kernel)]; kernel_rfl) | (rw [if_neg (by decide +kernel)]; exact ⟨rfl, rfl⟩))
    (fun os started H enc _ F => by rw [OpenClaim.pre_eq_preRow]; exact lifted os started H enc F)

theorem proved : Rows.FnExactReverseLookupSaid := said
#print axioms proved
end Go.Proofs.Ytllmghcemdgohaa.fnExactReverseLookup
