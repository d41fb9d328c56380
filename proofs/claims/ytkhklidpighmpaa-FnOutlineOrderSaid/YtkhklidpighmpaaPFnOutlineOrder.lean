/-
  laws.FnOutlineOrder returns true whatever the code: CompareOutlines is a total order in which prefixes come first, at all that the code draws. Conditions: none but the row's own.
-/
import Derived.Test.YtkhklidpighmpaaRows
import Derived.WalkKit
import Derived.ProofKit
import Derived.OpenShut
import Derived.ShutString
import Derived.ChangeOld
import Derived.Below
import Derived.SliceStrings
import Derived.JoinedCond
import Derived.Deep.DeepHandedRow
import Derived.Deep.DeepWitnessRowRef
import Derived.Lib.Hide
import Derived.Test.YtkhklidpighmpaaImpl4C
import Derived.Test.YtkhklidpighmpaaImpl4
import Derived.Test.YtkhklidpighmpaaDrawO
import Derived.Test.YtkhklidpighmpaaCut
import Derived.Test.YtkhklidpighmpaaBig
namespace Go.Proofs.Ytkhklidpighmpaa.fnOutlineOrder
open Go.ChangeShapes Go.WideShapes Go.ChangeAt Go.RowKit
open Go.ChangeMaps (open_string shut_string)
set_option linter.unusedVariables false
set_option maxRecDepth 100000

theorem own : ownKnob Try.prog.godebug = none := by kernel_rfl
theorem laidOut : laidOutB Try.prog = true := by kernel_rfl

/-- A slice of integers that came in. -/
def IsRow (k : IntKind) (w : World) (a : Option Addr) (len cap : Nat) (zs : List Int) : Prop :=
  (a = none ∧ len = 0 ∧ cap = 0 ∧ zs = []) ∨
  ∃ x, a = some x ∧ len ≤ cap ∧ cap ≤ maxLen ∧ zs.length = cap ∧ (∀ i, i < zs.length → w.cell? (x.add i) = some (.int k (zs.getD i 0))) ∧ ∀ n ∈ zs, (Lit.int k n).wf = true

theorem code_of {w : World} {a : Option Addr} {n c : Nat} {z : List Int} (h : IsRow .u8 w a n c z) (hn : n ≤ 1000000) : CodeAt w a n := by
  refine ⟨hn, fun h0 => ?_⟩
  rcases h with ⟨rfl, rfl, rfl, rfl⟩ | ⟨x, rfl, hl, hm, hz, hcell, hwz⟩
  · omega
  · obtain ⟨b, o, spot⟩ := x
    have h1 := hcell 0 (by omega)
    have hspot : spot = none := by simpa [Addr.add] using World.cell?_spot h1
    subst hspot
    refine ⟨b, o, rfl, ?_, fun i hi => ?_⟩
    · have : (w.cell? ⟨b, o, none⟩).isSome := by have := h1; simp [Addr.add] at this; rw [this]; rfl
      rcases Nat.lt_or_ge b w.heap.size with h' | h'
      · exact h'
      · simp [World.cell?, Array.getElem?_eq_none h'] at this
    · have h2 := hcell i (by omega)
      have h3 := bounds_u8 (hwz (z.getD i 0) (by rw [List.getD_eq_getElem?_getD, List.getElem?_eq_getElem (by omega)]; exact List.getElem_mem _))
      refine ⟨z.getD i 0, h3.1, h3.2, ?_⟩
      by_cases hi0 : i = 0
      · subst hi0; simpa [Addr.add] using h2
      · simpa [Addr.add, hi0] using h2
theorem row_len {w : World} {a : Option Addr} {n c : Nat} {z : List Int} (h : IsRow .u8 w a n c z) : n ≤ maxLen := by
  rcases h with ⟨_, rfl, _, _⟩ | ⟨x, _, hl, hm, _⟩
  · exact Nat.zero_le _
  · omega
theorem code_in {w : World} {a : Option Addr} {n c : Nat} {z : List Int} (h : IsRow .u8 w a n c z) (hn : n ≤ 1000000) : CodeIn w a n c := by
  refine ⟨code_of h hn, ?_⟩
  rcases h with ⟨rfl, rfl, rfl, rfl⟩ | ⟨x, rfl, hl, _⟩
  · exact ⟨Nat.le_refl _, fun _ => ⟨rfl, rfl⟩⟩
  · exact ⟨hl, fun e => nomatch e⟩
/-- The number of a comparison. -/
def cmpN (xs ys : List Int) : Int := if okO xs = true ∧ okO ys = true then Pl.cmp xs ys else 0
theorem cmpE_N (xs ys : List Int) : cmpE xs ys = .returned (.tuple #[.int .i64 (cmpN xs ys), .bool (okO xs && okO ys)]) := rfl
theorem cmpN_range (xs ys : List Int) : cmpN xs ys = -1 ∨ cmpN xs ys = 0 ∨ cmpN xs ys = 1 := by
  unfold cmpN
  split
  · exact Pl.cmp_range xs ys
  · exact .inr (.inl rfl)
theorem cmpN_neg (xs ys : List Int) : cmpN ys xs = - cmpN xs ys := by
  unfold cmpN
  by_cases h : okO xs = true ∧ okO ys = true
  · rw [if_pos h, if_pos h.symm]; exact Pl.cmp_neg xs ys
  · rw [if_neg h, if_neg (fun q => h q.symm)]; rfl
theorem cmpN_no {xs ys : List Int} (h : (okO xs && okO ys) = false) : cmpN xs ys = 0 := by
  unfold cmpN
  rw [if_neg (fun q => by rw [q.1, q.2] at h; cases h)]
theorem cmpN_zero {xs ys : List Int} (h : (okO xs && okO ys) = true) : (cmpN xs ys = 0) ↔ xs = ys := by
  rw [Bool.and_eq_true] at h
  unfold cmpN
  rw [if_pos h]; exact Pl.cmp_zero xs ys
theorem cmpN_trans {xs ys zs : List Int} (h : (okO xs && okO ys) = true) (h' : (okO ys && okO zs) = true) (h1 : cmpN xs ys ≤ 0) (h2 : cmpN ys zs ≤ 0) : cmpN xs zs ≤ 0 := by
  rw [Bool.and_eq_true] at h h'
  unfold cmpN at *
  rw [if_pos h] at h1
  rw [if_pos h'] at h2
  rw [if_pos ⟨h.1, h'.2⟩]
  exact Pl.cmp_trans xs ys zs h1 h2
theorem cmpN_pre {xs ys : List Int} (h : ((okO xs && okO ys) && decide (ys <+: xs)) = true) : cmpN ys xs ≤ 0 := by
  rw [Bool.and_eq_true, Bool.and_eq_true, decide_eq_true_eq] at h
  unfold cmpN
  rw [if_pos ⟨h.1.2, h.1.1⟩]
  exact Pl.cmp_prefix ys xs h.2
/-! ### THE WALK: the Go text returns true, and writes nothing that was there. -/
set_option maxRecDepth 100000 in
set_option maxHeartbeats 8000000 in
theorem walk (a0 : Option Addr) (n0 c0 : Nat) (z0 : List Int) (w : World) (hS : w.ShapedOpen Try.prog)  (w0 : IsRow .u8 w a0 n0 c0 z0) :
    Calls Try.prog 4 #[.slice a0 n0 c0] w fun e w' => e = .returned (.bool true) ∧ Below w.heap.size w w' := by
  have hnm := row_len w0
  by_cases hbig : 65536 < n0
  · have C := Lib.hid (big_yes a0 n0 c0 w hbig hnm)
    clear w0 hS hnm
    go_enter Try.func4, Try.ntmps4
    go_wp2_with fail
    refine C.out.mono ?_
    rintro e w1 ⟨rfl, rfl⟩
    go_wp2
    go_ret
    exact ⟨rfl, Below.refl _ _⟩
  · have C := Lib.hid (big_no a0 n0 c0 w (by omega))
    have HCode := Lib.hid (code_in w0 (by omega))
    have CDC := Lib.hid (fun a n c w h => drawCompare_any a n c w h)
    have CDP := Lib.hid (fun w h => drawHasPrefix_any a0 n0 c0 w h)
    have CCut := Lib.hid (fun w h => vCut_any a0 n0 c0 w h (by omega))
    have CI := Lib.hid (fun v u xs ys w h h' hn hm => (impl4.compare v u xs ys w h h' hn hm))
    have CS := Lib.hid (fun v u xs ys w h h' hn hm => (specCompare_any v u xs ys w h h' hn hm))
    have PI := Lib.hid (fun v u xs ys w h h' hn hm => (impl4.pre v u xs ys w h h' hn hm))
    have PS := Lib.hid (fun v u xs ys w h h' hn hm => (specHasPrefix_any v u xs ys w h h' hn hm))
    have CV := Lib.hid (fun v u xs ys w h h' hn hm => vI_any v u xs ys w h h' hn hm)
    clear w0 hS hnm hbig
    go_enter Try.func4, Try.ntmps4
    go_wp2_with fail
    refine C.out.mono ?_
    rintro e w0 ⟨rfl, rfl⟩
    go_wp2_with fail
    refine (CDC.out _ _ _ _ HCode.out.1).mono ?_
    rintro e w1 ⟨⟨v, u, xs, ys, rfl, hv, hu, hxl, hyl⟩, hb⟩
    have HB1 := Lib.hid hb
    have HV1 := Lib.hid hv.at
    have HU1 := Lib.hid hu.at
    have HCode1 : Hid (CodeIn w1 a0 n0 c0) := ⟨HCode.out.1.below hb, HCode.out.2⟩
    clear hb hv hu HCode
    have ci := fun w h h' => CI.out v u xs ys w h h' (by omega) (by omega)
    have cs : ∀ w, IntsAt w v xs → IntsAt w u ys → Calls Try.prog 24 #[v, u] w fun e w' => e = .returned (.tuple #[.int .i64 (cmpN xs ys), .bool (okO xs && okO ys)]) ∧ Below w.heap.size w w' := fun w h h' => CS.out v u xs ys w h h' (by omega) (by omega)
    have cr := fun w h h' => CI.out u v ys xs w h h' (by omega) (by omega)
    simp only [cmpE_N] at ci cr
    rw [cmpN_neg xs ys, show (okO ys && okO xs) = (okO xs && okO ys) from Bool.and_comm _ _] at cr
    have cv := fun w h h' => CV.out v u xs ys w h h' (by omega) (by omega)
    have hno := cmpN_no (xs := xs) (ys := ys)
    have hze := cmpN_zero (xs := xs) (ys := ys)
    have hra := cmpN_range xs ys
    have htr := fun zs => cmpN_trans (xs := xs) (ys := ys) (zs := zs)
    obtain ⟨n, hn⟩ : ∃ n, n = cmpN xs ys := ⟨_, rfl⟩
    obtain ⟨b, hb⟩ : ∃ b, b = (okO xs && okO ys) := ⟨_, rfl⟩
    rw [← hn, ← hb] at ci cs cr
    rw [← hn] at hra
    rw [← hn, ← hb] at hno hze
    simp only [← hn, ← hb] at htr
    have C1 := Lib.hid ci
    have C2 := Lib.hid cs
    have C3 := Lib.hid cr
    have C4 := Lib.hid cv
    have HNo := Lib.hid hno
    have HZe := Lib.hid hze
    have HRa := Lib.hid hra
    have HTr := Lib.hid htr
    clear ci cs cr cv hno hze hra htr hn hb CS
    go_wp2_with fail
    refine (C1.out _ HV1.out HU1.out).mono ?_
    rintro e w2 ⟨rfl, hb⟩
    have HB2 := Lib.hid (HB1.out.trans (hb.mono HB1.out.size))
    have HV2 := Lib.hid (HV1.out.below hb)
    have HU2 := Lib.hid (HU1.out.below hb)
    have HCode2 : Hid (CodeIn w2 a0 n0 c0) := ⟨HCode1.out.1.below hb, HCode1.out.2⟩
    clear hb HB1 HV1 HU1 HCode1 C1
    go_wp2_with fail
    refine (C2.out _ HV2.out HU2.out).mono ?_
    rintro e w3 ⟨rfl, hb⟩
    have HB3 := Lib.hid (HB2.out.trans (hb.mono HB2.out.size))
    have HV3 := Lib.hid (HV2.out.below hb)
    have HU3 := Lib.hid (HU2.out.below hb)
    have HCode3 : Hid (CodeIn w3 a0 n0 c0) := ⟨HCode2.out.1.below hb, HCode2.out.2⟩
    clear hb HB2 HV2 HU2 HCode2 C2
    go_wp2_with fail
    refine (CDP.out _ HCode3.out.1).mono ?_
    rintro e w4 ⟨⟨o, p, os, ps, rfl, ho, hp, hol, hpl⟩, hb⟩
    have HB4 := Lib.hid (HB3.out.trans (hb.mono HB3.out.size))
    have HV4 := Lib.hid (HV3.out.below hb)
    have HU4 := Lib.hid (HU3.out.below hb)
    have HCode4 : Hid (CodeIn w4 a0 n0 c0) := ⟨HCode3.out.1.below hb, HCode3.out.2⟩
    have HO4 := Lib.hid ho.at
    have HP4 := Lib.hid hp.at
    clear hb HB3 HV3 HU3 HCode3 ho hp CDP
    have pi := fun w h h' => PI.out o p os ps w h h' (by omega) (by omega)
    have ps' := fun w h h' => PS.out o p os ps w h h' (by omega) (by omega)
    have pc := fun w h h' => CI.out p o ps os w h h' (by omega) (by omega)
    simp only [cmpE_N] at pc
    have hpre := cmpN_pre (xs := os) (ys := ps)
    unfold preE at pi ps'
    obtain ⟨q, hq⟩ : ∃ q, q = (okO os && okO ps) := ⟨_, rfl⟩
    obtain ⟨y, hy⟩ : ∃ y, y = ((okO os && okO ps) && decide (ps <+: os)) := ⟨_, rfl⟩
    obtain ⟨k, hk⟩ : ∃ k, k = cmpN ps os := ⟨_, rfl⟩
    rw [← hy, ← hq] at pi ps'
    rw [← hk] at pc
    rw [← hk, ← hy] at hpre
    have C1 := Lib.hid pi
    have C2 := Lib.hid ps'
    have C5 := Lib.hid pc
    clear pi ps' pc hq hy hk PI PS
    go_wp2_with fail
    refine (C1.out _ HO4.out HP4.out).mono ?_
    rintro e w5 ⟨rfl, hb⟩
    have HB5 := Lib.hid (HB4.out.trans (hb.mono HB4.out.size))
    have HV5 := Lib.hid (HV4.out.below hb)
    have HU5 := Lib.hid (HU4.out.below hb)
    have HO5 := Lib.hid (HO4.out.below hb)
    have HP5 := Lib.hid (HP4.out.below hb)
    have HCode5 : Hid (CodeIn w5 a0 n0 c0) := ⟨HCode4.out.1.below hb, HCode4.out.2⟩
    clear hb HB4 HV4 HU4 HCode4 HO4 HP4 C1
    go_wp2_with fail
    refine (C2.out _ HO5.out HP5.out).mono ?_
    rintro e w6 ⟨rfl, hb⟩
    have HB6 := Lib.hid (HB5.out.trans (hb.mono HB5.out.size))
    have HV6 := Lib.hid (HV5.out.below hb)
    have HU6 := Lib.hid (HU5.out.below hb)
    have HO6 := Lib.hid (HO5.out.below hb)
    have HP6 := Lib.hid (HP5.out.below hb)
    have HCode6 : Hid (CodeIn w6 a0 n0 c0) := ⟨HCode5.out.1.below hb, HCode5.out.2⟩
    clear hb HB5 HV5 HU5 HCode5 HO5 HP5 C2
    have FIN : ∀ k : Nat, k = k := fun _ => rfl
    clear FIN
    cases q
    case' true =>
      cases y
      case' true =>
        have hk0 : k ≤ 0 := hpre rfl
        have hk1 : ¬ (0 < k) := by omega
        go_wp2_with fail
        refine (C5.out _ HP6.out HO6.out).mono ?_
        rintro e w7 ⟨rfl, hb⟩
        replace HB6 := Lib.hid (HB6.out.trans (hb.mono HB6.out.size))
        replace HV6 := Lib.hid (HV6.out.below hb)
        replace HU6 := Lib.hid (HU6.out.below hb)
        replace HCode6 : Hid (CodeIn w7 a0 n0 c0) := ⟨HCode6.out.1.below hb, HCode6.out.2⟩
        clear hb HO6 HP6 C5
    all_goals
      cases b
      · obtain rfl := HNo.out (by first | rfl | trivial)
        go_wp2
        go_ret
        exact ⟨rfl, HB6.out⟩
      · go_wp2_with fail
        refine (C3.out _ HU6.out HV6.out).mono ?_
        rintro e w8 ⟨rfl, hb⟩
        have HB8 := Lib.hid (HB6.out.trans (hb.mono HB6.out.size))
        have HV8 := Lib.hid (HV6.out.below hb)
        have HU8 := Lib.hid (HU6.out.below hb)
        have HCode8 : Hid (CodeIn w8 a0 n0 c0) := ⟨HCode6.out.1.below hb, HCode6.out.2⟩
        clear hb HB6 HV6 HU6 HCode6 C3
        go_wp2_with fail
        refine (CCut.out _ HCode8.out).mono ?_
        rintro e w9 ⟨⟨a9, n9, c9, rfl, hc⟩, hb⟩
        have HB9 := Lib.hid (HB8.out.trans (hb.mono HB8.out.size))
        have HV9 := Lib.hid (HV8.out.below hb)
        have HU9 := Lib.hid (HU8.out.below hb)
        have HC9 := Lib.hid hc
        clear hb HB8 HV8 HU8 HCode8 hc
        go_wp2_with fail
        refine (CDC.out _ _ _ _ HC9.out).mono ?_
        rintro e w10 ⟨⟨c, c', zs, zs', rfl, hc, _, hzl, _⟩, hb⟩
        have HB10 := Lib.hid (HB9.out.trans (hb.mono HB9.out.size))
        have HV10 := Lib.hid (HV9.out.below hb)
        have HU10 := Lib.hid (HU9.out.below hb)
        have HC10 := Lib.hid hc.at
        clear hb HB9 HV9 HU9 HC9 hc
        have c1 := fun w h h' => CI.out u c ys zs w h h' (by omega) (by omega)
        have c2 := fun w h h' => CI.out v c xs zs w h h' (by omega) (by omega)
        simp only [cmpE_N] at c1 c2
        have ht := HTr.out zs (by first | rfl | trivial)
        have hr1 := cmpN_range ys zs
        have hr2 := cmpN_range xs zs
        obtain ⟨s, hs⟩ : ∃ s, s = cmpN ys zs := ⟨_, rfl⟩
        obtain ⟨t, ht'⟩ : ∃ t, t = cmpN xs zs := ⟨_, rfl⟩
        obtain ⟨f, hf⟩ : ∃ f, f = (okO ys && okO zs) := ⟨_, rfl⟩
        obtain ⟨g, hg⟩ : ∃ g, g = (okO xs && okO zs) := ⟨_, rfl⟩
        rw [← hs, ← hf] at c1
        rw [← ht', ← hg] at c2
        rw [← hs] at hr1
        rw [← ht'] at hr2
        rw [← hs, ← ht', ← hf] at ht
        have C1 := Lib.hid c1
        have C2 := Lib.hid c2
        have HT := Lib.hid ht
        have HR1 := Lib.hid hr1
        have HR2 := Lib.hid hr2
        clear c1 c2 ht hr1 hr2 hs ht' hf hg
        go_wp2_with fail
        refine (C1.out _ HU10.out HC10.out).mono ?_
        rintro e w11 ⟨rfl, hb⟩
        have HB11 := Lib.hid (HB10.out.trans (hb.mono HB10.out.size))
        have HV11 := Lib.hid (HV10.out.below hb)
        have HU11 := Lib.hid (HU10.out.below hb)
        have HC11 := Lib.hid (HC10.out.below hb)
        clear hb HB10 HV10 HU10 HC10 C1
        go_wp2_with fail
        refine (C2.out _ HV11.out HC11.out).mono ?_
        rintro e w12 ⟨rfl, hb⟩
        have HB12 := Lib.hid (HB11.out.trans (hb.mono HB11.out.size))
        have HV12 := Lib.hid (HV11.out.below hb)
        have HU12 := Lib.hid (HU11.out.below hb)
        clear hb HB11 HV11 HU11 HC11 C2
        have c4 := fun w h h' => C4.out w h h'
        have hd : decide (xs = ys) = decide (n = 0) := by exact decide_eq_decide.2 (HZe.out (by first | rfl | trivial)).symm
        rw [hd] at c4
        have C6 := Lib.hid c4
        clear c4 hd C4
        rcases HRa.out with rfl | rfl | rfl
        all_goals
          go_wp2_with fail
          refine (C6.out _ HV12.out HU12.out).mono ?_
          rintro e w13 ⟨rfl, hb⟩
          have HB13 := Lib.hid (HB12.out.trans (hb.mono HB12.out.size))
          clear hb HB12 HV12 HU12 C6
          cases f
          · go_wp2
            go_ret
            exact ⟨rfl, HB13.out⟩
          · cases g
            · go_wp2
              go_ret
              exact ⟨rfl, HB13.out⟩
            · rcases HR1.out with rfl | rfl | rfl
              all_goals
                rcases HR2.out with rfl | rfl | rfl
                all_goals first
                  | (exfalso; have := HT.out (by first | rfl | trivial) (by decide) (by decide); exact absurd this (by decide))
                  | (go_wp2
                     go_ret
                     exact ⟨rfl, HB13.out⟩)

/-! ### THE ROW's STEP -/
set_option maxRecDepth 100000 in
theorem contract (H : Type) (enc : TypeId × Value → H) (W : World) (base : Nat) (args : Array Value) (ds gs : List (DataW H)) (before : List MemPlace)
    (hval : ∀ (j : Nat) t v, Try.f4.params[j]? = some t → args[j]? = some v → Value.okWide Try.prog W .any base t v)
    (hW : DataW.Whole enc Try.prog Try.f4.params.toList Rows.fnOutlineOrderSpec.vars false W args.toList ds gs before) (hL : laidMetH Try.prog Rows.fnOutlineOrderRow.laid W) (hS : W.ShapedOpen Try.prog) :
    Calls Try.prog 4 args W fun e W' => ∃ v, e = .returned v ∧ Rows.fnOutlineOrderSpec.post enc Try.prog Try.f4 false true false false W args v W' := by
  have hW' := hW
  obtain ⟨p, q, hA0, hV, rfl, hfz, hnd⟩ := hW
  have hA : DataW.TrodAll enc Try.prog W 0 (fun _ => true) true Try.f4.params.toList args.toList ds p := hA0
  rw [Try.params4] at hA hval
  obtain ⟨v0, vs0, d0, ds0, p0, q0, hargs, rfl, rfl, h0, r0⟩ := trodAll_cons hA
  obtain ⟨rfl, rfl, rfl⟩ := trodAll_nil r0
  obtain rfl : args = #[v0] := by cases args; simp_all
  obtain ⟨rfl, rfl⟩ := trodVars_none hV
  have k0 := h0
  have lt0 : ∀ x ∈ p0, x.block < W.heap.size := by obtain ⟨m, hm⟩ := k0; exact DataW.trod_lt m _ _ _ hm
  obtain ⟨a0, n0, c0, rfl⟩ := okWide_slice Try.underlying22 (hval 0 22 v0 rfl rfl)
  obtain ⟨z0, w0⟩ : ∃ zs, IsRow .u8 W a0 n0 c0 zs := by
    obtain ⟨fuel, hf⟩ := h0
    rcases open_ints Try.underlying22 Try.underlying5 (by kernel_rfl) hf with ⟨hcs, _⟩ | ⟨x, l, c, zs, hcs, _, hl, hm, hz, _, hcell, hwz⟩
    · simp [Value.cells] at hcs
      obtain ⟨rfl, rfl, rfl⟩ := hcs
      exact ⟨[], .inl ⟨rfl, rfl, rfl, rfl⟩⟩
    · simp [Value.cells] at hcs
      obtain ⟨rfl, rfl, rfl⟩ := hcs
      exact ⟨zs, .inr ⟨_, rfl, hl, hm, by simpa using hz, hcell, hwz⟩⟩
  clear hA0 hval
  refine (walk a0 n0 c0 z0 W hS  w0).mono fun e W' ⟨he, bel⟩ => ?_
  subst he
  exact ⟨_, rfl, _, _, _, [], _, [], hW', trodAll_mk1 (shut_bool Try.underlying4 _), (trodAll_cons_mk (Below.trod laidOut (by kernel_rfl) (of_decide_eq_true (by kernel_rfl)) k0 bel lt0) trodAll_mk0), rfl, bel.frame _, fun h => by cases h⟩

theorem reads (os : Os) {H : Type} (enc : TypeId × Value → H) : ∃ places, DataW.whole enc Try.prog ((World.holding Try.prog os ⟨#[], #[], []⟩).forCall (fun _ _ => 0) ⟨#[], #[.slice none 0 0], []⟩).memory Try.f4.params.toList Rows.fnOutlineOrderSpec.vars false (#[.slice none 0 0] : Array Value).toList 8 = some ([.nil], [], places) :=
  ⟨[], by kernel_rfl⟩

set_option maxRecDepth 100000 in
theorem lifted (os : Os) (started : os.Started) (H : Type) (enc : TypeId × Value → H) (F : Stop.Interp) :
    ReturnsInHanded {} Try.checked os 4 .any ((OpenSpec.ofChange Rows.fnOutlineOrderSpec).preRow enc Try.prog Try.f4 Rows.fnOutlineOrderRow.domain false Rows.fnOutlineOrderRow.laid) (((OpenSpec.ofChange Rows.fnOutlineOrderSpec).at F).post enc Try.prog Try.f4 false true false false) := by
  obtain ⟨places, hx⟩ := reads os enc
  refine returnsInHanded_of_row (C := Try.checked) (s := OpenSpec.ofChange Rows.fnOutlineOrderSpec) own started (by kernel_rfl) Try.func4
    (witness_row_atRef (enc := enc) (C := Try.checked) false (World.holding Try.prog os ⟨#[], #[], []⟩) #[.slice none 0 0] rfl (by kernel_rfl) (by kernel_rfl) (by kernel_rfl)
      (OpenSpec.preRow_of_cond 8 hx (by kernel_rfl) (fun k hk => by cases hk) (by kernel_rfl) ⟨[], rfl, List.nodup_nil, fun b off h => by cases h⟩)) ?_
  intro W base args ds gs before hval hW _ _ _ hL hS _
  exact contract H enc W base args ds gs before hval hW hL hS

theorem said : Rows.FnOutlineOrderSaid :=
  OpenClaim.holds_of_cond 4 Try.f4 rfl rfl rfl rfl rfl rfl rfl ⟨rfl, rfl, rfl, rfl, rfl⟩ rfl rfl rfl rfl rfl (by kernel_rfl) Try.func4 (by kernel_rfl)
    (of_decide_eq_true (by kernel_rfl)) (by unfold Func.isWrapper; first | (rw [if_pos (by decide +kernel)]; kernel_rfl) | (rw [if_neg (by decide +kernel)]; exact ⟨rfl, rfl⟩))
    (fun os started H enc _ F => by rw [OpenClaim.pre_eq_preRow]; exact lifted os started H enc F)

theorem proved : Rows.FnOutlineOrderSaid := said
#print axioms proved
end Go.Proofs.Ytkhklidpighmpaa.fnOutlineOrder
