/-
  laws.FnExactConcatOutlines returns true whatever the two lists of ints: impl.ConcatOutlines answers as the specification, leaves its arguments, and its answer owns its memory. Conditions: none but the row's own.
-/
import Derived.Test.YtkhklidpighmpaaRows
import Derived.WalkKit
import Derived.ProofKit
import Derived.OpenShut
import Derived.ShutString
import Derived.ChangeOld
import Derived.Below
import Derived.SliceStrings
import Derived.JoinedCond
import Derived.Deep.DeepHandedRow
import Derived.Deep.DeepWitnessRowRef
import Derived.Lib.Hide
import Derived.Test.YtkhklidpighmpaaImpl4C
import Derived.Test.YtkhklidpighmpaaImpl4
namespace Go.Proofs.Ytkhklidpighmpaa.fnExactConcatOutlines
open Go.ChangeShapes Go.WideShapes Go.ChangeAt Go.RowKit
open Go.ChangeMaps (open_string shut_string)
set_option linter.unusedVariables false
set_option maxRecDepth 100000

theorem own : ownKnob Try.prog.godebug = none := by kernel_rfl
theorem laidOut : laidOutB Try.prog = true := by kernel_rfl

/-- A slice of integers that came in. -/
def IsRow (k : IntKind) (w : World) (a : Option Addr) (len cap : Nat) (zs : List Int) : Prop :=
  (a = none ∧ len = 0 ∧ cap = 0 ∧ zs = []) ∨
  ∃ x, a = some x ∧ len ≤ cap ∧ cap ≤ maxLen ∧ zs.length = cap ∧ (∀ i, i < zs.length → w.cell? (x.add i) = some (.int k (zs.getD i 0))) ∧ ∀ n ∈ zs, (Lit.int k n).wf = true

theorem ints_of {w : World} {a : Option Addr} {n c : Nat} {z : List Int} (h : IsRow .i64 w a n c z) : (z.take n).length = n ∧ n ≤ maxLen ∧ IntsAt w (.slice a n c) (z.take n) := by
  rcases h with ⟨rfl, rfl, rfl, rfl⟩ | ⟨x, rfl, hl, hm, hs, hcell, hz⟩
  · exact ⟨rfl, by decide, IntsAt.nil _ _ _⟩
  · have hlen : (z.take n).length = n := by rw [List.length_take]; omega
    refine ⟨hlen, by omega, ?_⟩
    by_cases h0 : n = 0
    · subst h0; exact IntsAt.nil _ _ _
    · obtain ⟨b, o, spot⟩ := x
      have h1 := hcell 0 (by omega)
      have hspot : spot = none := by simpa [Addr.add] using World.cell?_spot h1
      subst hspot
      refine ⟨_, c, by rw [hlen], by rw [hlen]; exact hl, .inr ⟨b, o, rfl, ?_, fun j y hy => ?_⟩⟩
      · have : (w.cell? ⟨b, o, none⟩).isSome := by have := h1; simp [Addr.add] at this; rw [this]; rfl
        rcases Nat.lt_or_ge b w.heap.size with h' | h'
        · exact h'
        · simp [World.cell?, Array.getElem?_eq_none h'] at this
      · have hj : j < n := by
          rcases Nat.lt_or_ge j n with h' | h'
          · exact h'
          · rw [List.getElem?_eq_none (by rw [hlen]; exact h')] at hy; cases hy
        have h2 := hcell j (by omega)
        rw [List.getElem?_take_of_lt hj] at hy
        by_cases hj0 : j = 0
        · subst hj0; simpa [Addr.add, List.getD, hy] using h2
        · simpa [Addr.add, List.getD, hy, hj0] using h2
/-! ### THE WALK: the Go text returns true, and writes nothing that was there. -/
set_option maxRecDepth 100000 in
set_option maxHeartbeats 8000000 in
theorem walk (a0 : Option Addr) (n0 c0 : Nat) (z0 : List Int) (a1 : Option Addr) (n1 c1 : Nat) (z1 : List Int) (w : World) (hS : w.ShapedOpen Try.prog)  (w0 : IsRow .i64 w a0 n0 c0 z0) (w1 : IsRow .i64 w a1 n1 c1 z1) :
    Calls Try.prog 10 #[.slice a0 n0 c0, .slice a1 n1 c1] w fun e w' => e = .returned (.bool true) ∧ Below w.heap.size w w' := by
  obtain ⟨hlen0, hnm0, hrow0⟩ := ints_of w0
  obtain ⟨xs, hzs0⟩ : ∃ xs, xs = z0.take n0 := ⟨_, rfl⟩
  rw [← hzs0] at hlen0 hrow0
  unfold maxLen at hnm0
  clear w0 hzs0
  obtain ⟨hlen1, hnm1, hrow1⟩ := ints_of w1
  obtain ⟨ys, hzs1⟩ : ∃ ys, ys = z1.take n1 := ⟨_, rfl⟩
  rw [← hzs1] at hlen1 hrow1
  unfold maxLen at hnm1
  clear w1 hzs1
  clear hS
  by_cases hbig : 1048576 < n0
  · clear hlen0 hrow0 hlen1 hrow1
    go_enter Try.func10, Try.ntmps10
    go_wp2
    go_ret
    exact ⟨rfl, Below.refl _ _⟩
  · by_cases hbig1 : 1048576 < n1
    · clear hlen0 hrow0 hlen1 hrow1
      go_enter Try.func10, Try.ntmps10
      go_wp2
      go_ret
      exact ⟨rfl, Below.refl _ _⟩
    · have CX := Lib.hid (fun v w h => toI_full v xs w h (by omega))
      have CY := Lib.hid (fun v w h => toI_full v ys w h (by omega))
      have cs := fun v u w h h' => specConcat_any v u xs ys w h h' (by omega) (by omega)
      have ci := fun v u w h h' => impl4.concat v u xs ys w h h' (by omega) (by omega)
      have QX := Lib.hid (fun v u w hv hu => eqI_same v u xs w hv hu (by omega))
      have QY := Lib.hid (fun v u w hv hu => eqI_same v u ys w hv hu (by omega))
      have MX := Lib.hid (fun base S v f w h hS => markI_from base S 1 v xs.length f w h hS (by omega) (by omega))
      have MY := Lib.hid (fun base S v f w h hS => markI_from base S (1 + xs.length) v ys.length f w h hS (by omega) (by omega))
      have hcl := catI_len xs ys
      obtain ⟨zs, hzs⟩ : ∃ zs, zs = catI xs ys := ⟨_, rfl⟩
      obtain ⟨b, hb⟩ : ∃ b, b = catB xs ys := ⟨_, rfl⟩
      rw [← hzs, ← hb] at cs ci
      rw [← hzs] at hcl
      unfold OutE at cs
      unfold OutO at ci
      have HSp := Lib.hid cs
      have HIm := Lib.hid ci
      have HQ := Lib.hid (fun v u w hv hu => eqI_same v u zs w hv hu (by omega))
      have HM := Lib.hid (fun base v f w h hb => markI_any base v zs.length f w h hb (by omega))
      have HH := Lib.hid (fun base v w h => heldI_any base v zs.length w h (by omega))
      obtain ⟨n, hn⟩ : ∃ n, n = xs.length := ⟨_, rfl⟩
      obtain ⟨m, hm⟩ : ∃ m, m = ys.length := ⟨_, rfl⟩
      have hn2 : n ≤ 1048576 := by omega
      have hm2 : m ≤ 1048576 := by omega
      rw [← hn] at MX MY
      rw [← hm] at MY
      have HN := Lib.hid hn
      have HMm := Lib.hid hm
      have HR := Lib.hid hrow0
      have HT := Lib.hid hrow1
      clear hlen0 hrow0 hlen1 hrow1 cs ci hzs hb hn hm
      go_enter Try.func10, Try.ntmps10
      go_wp2_with fail
      refine (CX.out _ _ HR.out).mono ?_
      rintro e w1 ⟨⟨u1, rfl, _, h1⟩, b1⟩
      have H1 := Lib.hid h1
      clear h1
      go_wp2_with fail
      refine (CY.out _ _ (HT.out.below b1)).mono ?_
      rintro e w2 ⟨⟨u2, rfl, _, h2⟩, b12⟩
      have H1b := Lib.hid (H1.out.below b12)
      have H2 := Lib.hid h2
      have b2 := b1.trans (b12.mono b1.size)
      clear h2 H1 b12
      go_wp2_with fail
      refine (HSp.out _ _ _ H1b.out H2.out).mono ?_
      rintro e w3 ⟨⟨u, rfl, hu⟩, b23⟩
      have HU := Lib.hid hu
      have b3 := b2.trans (b23.mono b2.size)
      clear hu H1b H2 b23 b2
      go_wp2_with fail
      refine (CX.out _ _ (HR.out.below b3)).mono ?_
      rintro e w4 ⟨⟨x0, rfl, hx, hxm⟩, b34⟩
      have HX := Lib.hid hx
      have HXM := Lib.hid hxm
      have hxl : 0 < n → ∀ g, x0.ownBlock = some g → g < w4.heap.size := fun h0 => hx.lt (by rw [← HN.out]; exact h0)
      have HXL := Lib.hid hxl
      clear hx hxm hxl
      go_wp2_with fail
      refine (CY.out _ _ (HT.out.below (b3.trans (b34.mono b3.size)))).mono ?_
      rintro e w5 ⟨⟨x1, rfl, hy, hym⟩, b45⟩
      have HY := Lib.hid hy
      have HYM := Lib.hid hym
      have hyl : 0 < m → ∀ g, x1.ownBlock = some g → g < w5.heap.size := fun h0 => hy.lt (by rw [← HMm.out]; exact h0)
      have HYL := Lib.hid hyl
      have b35 := b34.trans (b45.mono b34.size)
      have HX5 := Lib.hid (HX.out.below b45)
      have HXM5 := Lib.hid (HXM.out.below b45)
      have hs4 := b34.size
      have hs5 := b45.size
      clear hy hym hyl HX HXM b34 b45
      go_wp2_with fail
      refine (HIm.out _ _ _ HXM5.out HYM.out).mono ?_
      rintro e w6 ⟨⟨g, rfl, hg⟩, b56⟩
      have HG := Lib.hid hg
      have HX6 := Lib.hid (HX5.out.below b56)
      have HY6 := Lib.hid (HY.out.below b56)
      have b36 := b35.trans (b56.mono b35.size)
      have hs6 := b56.size
      clear hg HX5 HY HXM5 HYM b35 b56
      go_wp2_with fail
      refine (HQ.out _ _ _ HG.out.ints (HU.out.below b36)).mono ?_
      rintro e w7 ⟨rfl, b67⟩
      have HG7 := Lib.hid (HG.out.below b67)
      have HX7 := Lib.hid (HX6.out.below b67)
      have HY7 := Lib.hid (HY6.out.below b67)
      have b37 := b36.trans (b67.mono b36.size)
      have hs7 := b67.size
      clear HG HX6 HY6 b36 b67
      go_wp2_with fail
      refine (CX.out _ _ (HR.out.below (b3.trans (b37.mono b3.size)))).mono ?_
      rintro e w8 ⟨⟨y0, rfl, _, h8⟩, b78⟩
      have H8 := Lib.hid h8
      have HG8 := Lib.hid (HG7.out.below b78)
      have HX8 := Lib.hid (HX7.out.below b78)
      have HY8 := Lib.hid (HY7.out.below b78)
      have b38 := b37.trans (b78.mono b37.size)
      have hs8 := b78.size
      clear h8 HG7 HX7 HY7 b37 b78
      go_wp2_with fail
      refine (QX.out _ _ _ HX8.out.ints H8.out.at).mono ?_
      rintro e w9 ⟨rfl, b89⟩
      have HG9 := Lib.hid (HG8.out.below b89)
      have HX9 := Lib.hid (HX8.out.below b89)
      have HY9 := Lib.hid (HY8.out.below b89)
      have b39 := b38.trans (b89.mono b38.size)
      have hs9 := b89.size
      clear H8 HG8 HX8 HY8 b38 b89
      go_wp2_with fail
      refine (CY.out _ _ (HT.out.below (b3.trans (b39.mono b3.size)))).mono ?_
      rintro e w10 ⟨⟨y1, rfl, _, h10⟩, b910⟩
      have H10 := Lib.hid h10
      have HG10 := Lib.hid (HG9.out.below b910)
      have HX10 := Lib.hid (HX9.out.below b910)
      have HY10 := Lib.hid (HY9.out.below b910)
      have b310 := b39.trans (b910.mono b39.size)
      have hs10 := b910.size
      clear h10 HG9 HX9 HY9 b39 b910
      go_wp2_with fail
      refine (QY.out _ _ _ HY10.out.ints H10.out.at).mono ?_
      rintro e w11 ⟨rfl, b1011⟩
      have HG11 := Lib.hid (HG10.out.below b1011)
      have HX11 : Hid (OwnInts w11 w3.heap.size x0 n (fun j => xs.getD j 0)) := by rw [HN.out]; exact HX10.out.below b1011
      have HY11 : Hid (OwnInts w11 w4.heap.size x1 m (fun j => ys.getD j 0)) := by rw [HMm.out]; exact HY10.out.below b1011
      have b311 := b310.trans (b1011.mono b310.size)
      have hs11 := b1011.size
      clear H10 HG10 HX10 HY10 b310 b1011
      go_wp2_with fail
      refine (MX.out _ w4.heap.size _ _ _ HX11.out HXL.out).mono ?_
      rintro e w12 ⟨rfl, ha, b1112⟩
      have HG12 := Lib.hid (HG11.out.above ha (by omega))
      have HY12 := Lib.hid (HY11.out.above ha (Nat.le_refl _))
      have b312 := b311.trans b1112
      have hs12 := b1112.size
      clear ha HG11 HX11 HY11 b311 b1112
      go_wp2_with fail
      refine (MY.out _ w5.heap.size _ _ _ HY12.out HYL.out).mono ?_
      rintro e w13 ⟨rfl, ha, b1213⟩
      have HG13 := Lib.hid (HG12.out.above ha (Nat.le_refl _))
      have b313 := b312.trans (b1213.mono hs4)
      have hs13 := b1213.size
      have hk13 : ¬ (((1 + n + m : Nat) : Int) < 0) := by omega
      clear ha HG12 HY12 b312 b1213
      go_wp2_with fail
      refine (HQ.out _ _ _ HG13.out.ints (HU.out.below b313)).mono ?_
      rintro e w14 ⟨rfl, b1314⟩
      have HG14 := Lib.hid (HG13.out.below b1314)
      have b314 := b313.trans (b1314.mono b313.size)
      have hs14 := b1314.size
      clear HG13 b313 b1314
      go_wp2_with fail
      refine (HM.out _ _ _ _ HG14.out (by omega)).mono ?_
      rintro e w15 ⟨rfl, hO, b1415⟩
      have HO := Lib.hid hO
      have b315 := b314.trans (b1415.mono (by omega))
      clear hO HG14 b314 b1415
      go_wp2_with fail
      refine (HH.out _ _ _ HO.out).mono ?_
      rintro e w16 ⟨rfl, b1516⟩
      have HO16 := Lib.hid (HO.out.below b1516)
      have b316 := b315.trans (b1516.mono b315.size)
      clear HO b315 b1516
      go_wp2_with fail
      refine (CX.out _ _ (HR.out.below (b3.trans (b316.mono b3.size)))).mono ?_
      rintro e w17 ⟨⟨y2, rfl, _, h17⟩, b1617⟩
      have H17 := Lib.hid h17
      have HO17 := Lib.hid (HO16.out.below b1617)
      have b317 := b316.trans (b1617.mono b316.size)
      clear h17 HO16 b316 b1617
      go_wp2_with fail
      refine (CY.out _ _ (HT.out.below (b3.trans (b317.mono b3.size)))).mono ?_
      rintro e w18 ⟨⟨y3, rfl, _, h18⟩, b1718⟩
      have H18 := Lib.hid h18
      have H17b := Lib.hid (H17.out.below b1718)
      have HO18 := Lib.hid (HO17.out.below b1718)
      have b318 := b317.trans (b1718.mono b317.size)
      clear h18 H17 HO17 b317 b1718
      go_wp2_with fail
      refine (HIm.out _ _ _ H17b.out H18.out).mono ?_
      rintro e w19 ⟨⟨h, rfl, hh⟩, b1819⟩
      have HHv := Lib.hid hh
      have HO19 := Lib.hid (HO18.out.below b1819)
      have b319 := b318.trans (b1819.mono b318.size)
      clear hh HO18 H17b H18 b318 b1819
      go_wp2_with fail
      refine (HQ.out _ _ _ HHv.out.ints (HU.out.below b319)).mono ?_
      rintro e w20 ⟨rfl, b1920⟩
      have HO20 := Lib.hid (HO19.out.below b1920)
      have b320 := b319.trans (b1920.mono b319.size)
      clear HO19 b319 b1920
      go_wp2_with fail
      refine (HH.out _ _ _ HO20.out).mono ?_
      rintro e w21 ⟨rfl, b2021⟩
      have hfin := b3.trans ((b320.trans (b2021.mono b320.size)).mono b3.size)
      go_wp2
      go_ret
      exact ⟨rfl, hfin⟩

/-! ### THE ROW's STEP -/
set_option maxRecDepth 100000 in
theorem contract (H : Type) (enc : TypeId × Value → H) (W : World) (base : Nat) (args : Array Value) (ds gs : List (DataW H)) (before : List MemPlace)
    (hval : ∀ (j : Nat) t v, Try.f10.params[j]? = some t → args[j]? = some v → Value.okWide Try.prog W .any base t v)
    (hW : DataW.Whole enc Try.prog Try.f10.params.toList Rows.fnExactConcatOutlinesSpec.vars false W args.toList ds gs before) (hL : laidMetH Try.prog Rows.fnExactConcatOutlinesRow.laid W) (hS : W.ShapedOpen Try.prog) :
    Calls Try.prog 10 args W fun e W' => ∃ v, e = .returned v ∧ Rows.fnExactConcatOutlinesSpec.post enc Try.prog Try.f10 false true false false W args v W' := by
  have hW' := hW
  obtain ⟨p, q, hA0, hV, rfl, hfz, hnd⟩ := hW
  have hA : DataW.TrodAll enc Try.prog W 0 (fun _ => true) true Try.f10.params.toList args.toList ds p := hA0
  rw [Try.params10] at hA hval
  obtain ⟨v0, vs0, d0, ds0, p0, q0, hargs, rfl, rfl, h0, r0⟩ := trodAll_cons hA
  obtain ⟨v1, vs1, d1, ds1, p1, q1, rfl, rfl, rfl, h1, r1⟩ := trodAll_cons r0
  obtain ⟨rfl, rfl, rfl⟩ := trodAll_nil r1
  obtain rfl : args = #[v0, v1] := by cases args; simp_all
  obtain ⟨rfl, rfl⟩ := trodVars_none hV
  have k0 := h0
  have lt0 : ∀ x ∈ p0, x.block < W.heap.size := by obtain ⟨m, hm⟩ := k0; exact DataW.trod_lt m _ _ _ hm
  obtain ⟨a0, n0, c0, rfl⟩ := okWide_slice Try.underlying25 (hval 0 25 v0 rfl rfl)
  obtain ⟨z0, w0⟩ : ∃ zs, IsRow .i64 W a0 n0 c0 zs := by
    obtain ⟨fuel, hf⟩ := h0
    rcases open_ints Try.underlying25 Try.underlying3 (by kernel_rfl) hf with ⟨hcs, _⟩ | ⟨x, l, c, zs, hcs, _, hl, hm, hz, _, hcell, hwz⟩
    · simp [Value.cells] at hcs
      obtain ⟨rfl, rfl, rfl⟩ := hcs
      exact ⟨[], .inl ⟨rfl, rfl, rfl, rfl⟩⟩
    · simp [Value.cells] at hcs
      obtain ⟨rfl, rfl, rfl⟩ := hcs
      exact ⟨zs, .inr ⟨_, rfl, hl, hm, by simpa using hz, hcell, hwz⟩⟩
  have k1 := h1
  have lt1 : ∀ x ∈ p1, x.block < W.heap.size := by obtain ⟨m, hm⟩ := k1; exact DataW.trod_lt m _ _ _ hm
  obtain ⟨a1, n1, c1, rfl⟩ := okWide_slice Try.underlying25 (hval 1 25 v1 rfl rfl)
  obtain ⟨z1, w1⟩ : ∃ zs, IsRow .i64 W a1 n1 c1 zs := by
    obtain ⟨fuel, hf⟩ := h1
    rcases open_ints Try.underlying25 Try.underlying3 (by kernel_rfl) hf with ⟨hcs, _⟩ | ⟨x, l, c, zs, hcs, _, hl, hm, hz, _, hcell, hwz⟩
    · simp [Value.cells] at hcs
      obtain ⟨rfl, rfl, rfl⟩ := hcs
      exact ⟨[], .inl ⟨rfl, rfl, rfl, rfl⟩⟩
    · simp [Value.cells] at hcs
      obtain ⟨rfl, rfl, rfl⟩ := hcs
      exact ⟨zs, .inr ⟨_, rfl, hl, hm, by simpa using hz, hcell, hwz⟩⟩
  clear hA0 hval
  refine (walk a0 n0 c0 z0 a1 n1 c1 z1 W hS  w0 w1).mono fun e W' ⟨he, bel⟩ => ?_
  subst he
  exact ⟨_, rfl, _, _, _, [], _, [], hW', trodAll_mk1 (shut_bool Try.underlying4 _), (trodAll_cons_mk (Below.trod laidOut (by kernel_rfl) (of_decide_eq_true (by kernel_rfl)) k0 bel lt0) (trodAll_cons_mk (Below.trod laidOut (by kernel_rfl) (of_decide_eq_true (by kernel_rfl)) k1 bel lt1) trodAll_mk0)), rfl, bel.frame _, fun h => by cases h⟩

theorem reads (os : Os) {H : Type} (enc : TypeId × Value → H) : ∃ places, DataW.whole enc Try.prog ((World.holding Try.prog os ⟨#[], #[], []⟩).forCall (fun _ _ => 0) ⟨#[], #[.slice none 0 0, .slice none 0 0], []⟩).memory Try.f10.params.toList Rows.fnExactConcatOutlinesSpec.vars false (#[.slice none 0 0, .slice none 0 0] : Array Value).toList 8 = some ([.nil, .nil], [], places) :=
  ⟨[], by kernel_rfl⟩

set_option maxRecDepth 100000 in
theorem lifted (os : Os) (started : os.Started) (H : Type) (enc : TypeId × Value → H) (F : Stop.Interp) :
    ReturnsInHanded {} Try.checked os 10 .any ((OpenSpec.ofChange Rows.fnExactConcatOutlinesSpec).preRow enc Try.prog Try.f10 Rows.fnExactConcatOutlinesRow.domain false Rows.fnExactConcatOutlinesRow.laid) (((OpenSpec.ofChange Rows.fnExactConcatOutlinesSpec).at F).post enc Try.prog Try.f10 false true false false) := by
  obtain ⟨places, hx⟩ := reads os enc
  refine returnsInHanded_of_row (C := Try.checked) (s := OpenSpec.ofChange Rows.fnExactConcatOutlinesSpec) own started (by kernel_rfl) Try.func10
    (witness_row_atRef (enc := enc) (C := Try.checked) false (World.holding Try.prog os ⟨#[], #[], []⟩) #[.slice none 0 0, .slice none 0 0] rfl (by kernel_rfl) (by kernel_rfl) (by kernel_rfl)
      (OpenSpec.preRow_of_cond 8 hx (by kernel_rfl) (fun k hk => by cases hk) (by kernel_rfl) ⟨[], rfl, List.nodup_nil, fun b off h => by cases h⟩)) ?_
  intro W base args ds gs before hval hW _ _ _ hL hS _
  exact contract H enc W base args ds gs before hval hW hL hS

theorem said : Rows.FnExactConcatOutlinesSaid :=
  OpenClaim.holds_of_cond 10 Try.f10 rfl rfl rfl rfl rfl rfl rfl ⟨rfl, rfl, rfl, rfl, rfl⟩ rfl rfl rfl rfl rfl (by kernel_rfl) Try.func10 (by kernel_rfl)
    (of_decide_eq_true (by kernel_rfl)) (by unfold Func.isWrapper; first | (rw [if_pos (by decide +kernel)]; kernel_rfl) | (rw [if_neg (by decide +kernel)]; exact ⟨rfl, rfl⟩))
    (fun os started H enc _ F => by rw [OpenClaim.pre_eq_preRow]; exact lifted os started H enc F)

theorem proved : Rows.FnExactConcatOutlinesSaid := said
#print axioms proved
end Go.Proofs.Ytkhklidpighmpaa.fnExactConcatOutlines
