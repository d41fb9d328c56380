/-
  laws.FnOutlines returns true whatever the code: FormatOutline and ParseOutline are inverse, and a concatenation has its first part as prefix, at all that the code draws. Conditions: none but the row's own.
-/
import Derived.Test.YtkhklidpighmpaaRows
import Derived.WalkKit
import Derived.ProofKit
import Derived.OpenShut
import Derived.ShutString
import Derived.ChangeOld
import Derived.Below
import Derived.SliceStrings
import Derived.JoinedCond
import Derived.Deep.DeepHandedRow
import Derived.Deep.DeepWitnessRowRef
import Derived.Lib.Hide
import Derived.Test.YtkhklidpighmpaaImpl4C
import Derived.Test.YtkhklidpighmpaaImpl4
import Derived.Test.YtkhklidpighmpaaDrawO
import Derived.Test.YtkhklidpighmpaaBig
namespace Go.Proofs.Ytkhklidpighmpaa.fnOutlines
open Go.ChangeShapes Go.WideShapes Go.ChangeAt Go.RowKit
open Go.ChangeMaps (open_string shut_string)
set_option linter.unusedVariables false
set_option maxRecDepth 100000

theorem own : ownKnob Try.prog.godebug = none := by kernel_rfl
theorem laidOut : laidOutB Try.prog = true := by kernel_rfl

/-- A slice of integers that came in. -/
def IsRow (k : IntKind) (w : World) (a : Option Addr) (len cap : Nat) (zs : List Int) : Prop :=
  (a = none ∧ len = 0 ∧ cap = 0 ∧ zs = []) ∨
  ∃ x, a = some x ∧ len ≤ cap ∧ cap ≤ maxLen ∧ zs.length = cap ∧ (∀ i, i < zs.length → w.cell? (x.add i) = some (.int k (zs.getD i 0))) ∧ ∀ n ∈ zs, (Lit.int k n).wf = true

theorem code_of {w : World} {a : Option Addr} {n c : Nat} {z : List Int} (h : IsRow .u8 w a n c z) (hn : n ≤ 1000000) : CodeAt w a n := by
  refine ⟨hn, fun h0 => ?_⟩
  rcases h with ⟨rfl, rfl, rfl, rfl⟩ | ⟨x, rfl, hl, hm, hz, hcell, hwz⟩
  · omega
  · obtain ⟨b, o, spot⟩ := x
    have h1 := hcell 0 (by omega)
    have hspot : spot = none := by simpa [Addr.add] using World.cell?_spot h1
    subst hspot
    refine ⟨b, o, rfl, ?_, fun i hi => ?_⟩
    · have : (w.cell? ⟨b, o, none⟩).isSome := by have := h1; simp [Addr.add] at this; rw [this]; rfl
      rcases Nat.lt_or_ge b w.heap.size with h' | h'
      · exact h'
      · simp [World.cell?, Array.getElem?_eq_none h'] at this
    · have h2 := hcell i (by omega)
      have h3 := bounds_u8 (hwz (z.getD i 0) (by rw [List.getD_eq_getElem?_getD, List.getElem?_eq_getElem (by omega)]; exact List.getElem_mem _))
      refine ⟨z.getD i 0, h3.1, h3.2, ?_⟩
      by_cases hi0 : i = 0
      · subst hi0; simpa [Addr.add] using h2
      · simpa [Addr.add, hi0] using h2
theorem row_len {w : World} {a : Option Addr} {n c : Nat} {z : List Int} (h : IsRow .u8 w a n c z) : n ≤ maxLen := by
  rcases h with ⟨_, rfl, _, _⟩ | ⟨x, _, hl, hm, _⟩
  · exact Nat.zero_le _
  · omega
theorem outN_outI (l : List Nat) : outN (outI l) = l := by
  unfold outN outI
  rw [List.map_map]
  conv => rhs; rw [← List.map_id l]
  exact List.map_congr_left fun n _ => rfl
theorem outI_outN {xs : List Int} (h : ∀ x ∈ xs, okS x = true) : outI (outN xs) = xs := by
  unfold outN outI
  rw [List.map_map]
  conv => rhs; rw [← List.map_id xs]
  exact List.map_congr_left fun n hn => by
    have := okS_iff.1 (h n hn)
    show ((n.toNat : Nat) : Int) = n
    omega
/-- What was read is written as it stood. -/
theorem out_par {t : ByteArray} (h : parB t = true) : okO (parI t) = true ∧ fmtT (parI t) = t := by
  have hne : Pl.parse t.data.toList ≠ [] := by
    intro e
    rw [(par_no e).2] at h
    cases h
  obtain ⟨h6, hv⟩ := Pl.parse_ok t.data.toList
  refine ⟨okO_outI hne h6 (fun n hn => ⟨(hv n hn).1, by have := (hv n hn).2; omega⟩), ?_⟩
  unfold fmtT parI
  rw [outN_outI, Pl.fmt_parse _ hne]
/-- What was written is read as it was. -/
theorem par_fmt {xs : List Int} (h : okO xs = true) : parI (fmtT xs) = xs ∧ parB (fmtT xs) = true := by
  obtain ⟨h1, h6, hv⟩ := okO_parts h
  have e : Pl.parse (fmtT xs).data.toList = outN xs := by
    unfold fmtT
    refine Pl.parse_fmt (outN xs) ?_ (by rw [outN_len]; exact h6) ?_
    · intro e
      have := outN_len xs
      rw [e] at this
      simp at this
      omega
    · intro n hn
      unfold outN at hn
      obtain ⟨x, hx, rfl⟩ := List.mem_map.1 hn
      have := okS_iff.1 (hv x hx)
      omega
  unfold parI parB
  rw [e]
  refine ⟨outI_outN hv, ?_⟩
  cases hc : outN xs with
  | nil => have := outN_len xs; rw [hc] at this; simp at this; omega
  | cons _ _ => rfl
theorem cat_fmt {xs ys : List Int} (h : catB xs ys = true) : fmtT (catI xs ys) = (fmtT xs ++ (⟨#[47]⟩ : ByteArray)) ++ fmtT ys := by
  rw [cat_yes h]
  unfold catB at h
  rw [Bool.and_eq_true, Bool.and_eq_true] at h
  have hx := (okO_parts h.1.1).1
  have hy := (okO_parts h.1.2).1
  have e : outN (xs ++ ys) = outN xs ++ outN ys := by unfold outN; rw [List.map_append]
  unfold fmtT
  rw [e, Pl.fmt_append _ _ (by intro e; have := outN_len xs; rw [e] at this; simp at this; omega) (by intro e; have := outN_len ys; rw [e] at this; simp at this; omega)]
  apply ByteArray.ext
  simp [ByteArray.data_append]
/-- The text that FormatOutline answers. -/
def fmtS (xs : List Int) : ByteArray := if okO xs = true then fmtT xs else ⟨#[]⟩
theorem fmtE_S (xs : List Int) : fmtE xs = .returned (.tuple #[.string (fmtS xs), .bool (okO xs)]) := rfl
theorem fmtS_size {xs : List Int} (h : xs.length ≤ 8) : (fmtS xs).size ≤ 200 := by
  have := fmtT_size xs
  unfold fmtS
  split
  · omega
  · exact Nat.zero_le _
theorem back_facts (xs : List Int) (h : okO xs = true) : parI (fmtS xs) = xs ∧ parB (fmtS xs) = true := by
  unfold fmtS
  rw [if_pos h]
  exact par_fmt h
theorem again_facts (t : ByteArray) (h : parB t = true) : okO (parI t) = true ∧ fmtS (parI t) = t := by
  obtain ⟨h1, h2⟩ := out_par h
  exact ⟨h1, by unfold fmtS; rw [if_pos h1, h2]⟩
theorem join_facts (xs ys : List Int) (h : catB xs ys = true) : okO xs = true ∧ okO ys = true ∧ okO (catI xs ys) = true ∧ fmtS (catI xs ys) = (fmtS xs ++ (⟨#[47]⟩ : ByteArray)) ++ fmtS ys ∧ ((okO (catI xs ys) && okO xs) && decide (xs <+: catI xs ys)) = true := by
  have hc := h
  unfold catB at hc
  rw [Bool.and_eq_true, Bool.and_eq_true] at hc
  have e : okO (catI xs ys) = true := by rw [cat_yes h]; exact hc.2
  refine ⟨hc.1.1, hc.1.2, e, ?_, ?_⟩
  · unfold fmtS
    rw [if_pos hc.1.1, if_pos hc.1.2, if_pos e, cat_fmt h]
  · rw [e, hc.1.1, cat_yes h]
    simp
/-! ### THE WALK: the Go text returns true, and writes nothing that was there. -/
set_option maxRecDepth 100000 in
set_option maxHeartbeats 8000000 in
theorem walk (a0 : Option Addr) (n0 c0 : Nat) (z0 : List Int) (w : World) (hS : w.ShapedOpen Try.prog)  (w0 : IsRow .u8 w a0 n0 c0 z0) :
    Calls Try.prog 3 #[.slice a0 n0 c0] w fun e w' => e = .returned (.bool true) ∧ Below w.heap.size w w' := by
  have hnm := row_len w0
  by_cases hbig : 65536 < n0
  · have C := Lib.hid (big_yes a0 n0 c0 w hbig hnm)
    clear w0 hS hnm
    go_enter Try.func3, Try.ntmps3
    go_wp2_with fail
    refine C.out.mono ?_
    rintro e w1 ⟨rfl, rfl⟩
    go_wp2
    go_ret
    exact ⟨rfl, Below.refl _ _⟩
  · have C := Lib.hid (big_no a0 n0 c0 w (by omega))
    have HC0 := Lib.hid (code_of w0 (by omega))
    have HB0 := Lib.hid (Below.refl w.heap.size w)
    have CDP := Lib.hid (fun w h => drawParseOutline_any a0 n0 c0 w h)
    have CDC := Lib.hid (fun w h => drawConcat_any a0 n0 c0 w h)
    have PI := Lib.hid (fun t w ht => impl4.parse t w ht)
    have PS := Lib.hid (fun t w ht => specParseOutline_any t w ht)
    have FI := Lib.hid (fun v xs w h hn => impl4.format v xs w h hn)
    have VI := Lib.hid (fun v xs w h hn => impl4.valid v xs w h hn)
    have KI := Lib.hid (fun v u xs ys w h h' hn hm => impl4.concat v u xs ys w h h' hn hm)
    have KS := Lib.hid (fun v u xs ys w h h' hn hm => specConcat_any v u xs ys w h h' hn hm)
    have XI := Lib.hid (fun v u xs ys w h h' hn hm => impl4.pre v u xs ys w h h' hn hm)
    clear w0 hS hnm hbig
    go_enter Try.func3, Try.ntmps3
    go_wp2_with fail
    refine C.out.mono ?_
    rintro e w0 ⟨rfl, rfl⟩
    go_wp2_with fail
    refine (CDP.out _ HC0.out).mono ?_
    rintro e w1 ⟨⟨s, hsl, rfl⟩, hb⟩
    have HB1 := Lib.hid (HB0.out.trans (hb.mono HB0.out.size))
    have HC1 := Lib.hid (HC0.out.below hb)
    have pi := fun w => PI.out s w (by omega)
    have ps := fun w => PS.out s w (by omega)
    have hag := again_facts s
    have hpl := parI_len s
    obtain ⟨os, hos⟩ : ∃ os, os = parI s := ⟨_, rfl⟩
    obtain ⟨ok, hok⟩ : ∃ ok, ok = parB s := ⟨_, rfl⟩
    rw [← hos, ← hok] at pi ps
    rw [← hos] at hpl
    rw [← hos, ← hok] at hag
    unfold OutE at ps
    unfold OutO at pi
    have C1 := Lib.hid pi
    have C2 := Lib.hid ps
    have CV := Lib.hid (fun v u w hv hu => vI_same v u os w hv hu (by omega))
    have fo := fun v w h => FI.out v os w h (by omega)
    simp only [fmtE_S] at fo
    obtain ⟨fo', hfo⟩ : ∃ f, f = fmtS os := ⟨_, rfl⟩
    obtain ⟨bo, hbo⟩ : ∃ b, b = okO os := ⟨_, rfl⟩
    rw [← hfo, ← hbo] at fo
    rw [← hfo, ← hbo] at hag
    have CF := Lib.hid fo
    have HAg := Lib.hid hag
    clear pi ps hag hos hok fo hfo hbo PS
    clear hb HB0 HC0 CDP C
    go_wp2_with fail
    refine (C1.out _).mono ?_
    rintro e w2 ⟨⟨o, rfl, ho⟩, hb⟩
    have HB2 := Lib.hid (HB1.out.trans (hb.mono HB1.out.size))
    have HC2 := Lib.hid (HC1.out.below hb)
    have HO2 := Lib.hid ho
    clear ho
    clear hb HB1 HC1 C1
    go_wp2_with fail
    refine (C2.out _).mono ?_
    rintro e w3 ⟨⟨u, rfl, hu⟩, hb⟩
    have HB3 := Lib.hid (HB2.out.trans (hb.mono HB2.out.size))
    have HC3 := Lib.hid (HC2.out.below hb)
    have HO3 := Lib.hid (HO2.out.below hb)
    have HU3 := Lib.hid hu
    clear hu
    clear hb HB2 HC2 HO2 C2
    go_wp2_with fail
    refine (CV.out _ _ _ HO3.out.ints HU3.out).mono ?_
    rintro e w4 ⟨rfl, hb⟩
    have HB4 := Lib.hid (HB3.out.trans (hb.mono HB3.out.size))
    have HC4 := Lib.hid (HC3.out.below hb)
    have HO4 := Lib.hid (HO3.out.below hb)
    clear hb HB3 HC3 HO3 CV HU3
    go_wp2_with fail
    refine (CDC.out _ HC4.out).mono ?_
    rintro e w5 ⟨⟨a, b, xs, ys, rfl, ha, hb1, hxl, hyl⟩, hb⟩
    have HB5 := Lib.hid (HB4.out.trans (hb.mono HB4.out.size))
    have HO5 := Lib.hid (HO4.out.below hb)
    have HX5 := Lib.hid ha
    have HY5 := Lib.hid hb1
    have ki := fun w h h' => KI.out a b xs ys w h h' (by omega) (by omega)
    have ks := fun w h h' => KS.out a b xs ys w h h' (by omega) (by omega)
    have hjf := join_facts xs ys
    have hbk := back_facts xs
    have hcl := catI_len xs ys
    have fx := fun w h => FI.out a xs w h (by omega)
    have fy := fun w h => FI.out b ys w h (by omega)
    have vx := fun w h => VI.out a xs w h (by omega)
    obtain ⟨zs, hzs⟩ : ∃ zs, zs = catI xs ys := ⟨_, rfl⟩
    obtain ⟨j, hj⟩ : ∃ j, j = catB xs ys := ⟨_, rfl⟩
    rw [← hzs, ← hj] at ki ks
    rw [← hzs] at hcl
    rw [← hzs, ← hj] at hjf
    unfold OutE at ks
    unfold OutO at ki
    have fz := fun v w h => FI.out v zs w h (by omega)
    have xz := fun v w h h' => XI.out v a zs xs w h h' (by omega) (by omega)
    unfold preE at xz
    have hxs := fmtS_size hxl
    have hys := fmtS_size hyl
    have hzsz := fmtS_size (xs := zs) (by omega)
    simp only [fmtE_S] at fx fy fz
    have pf := fun w => PI.out (fmtS xs) w (by omega)
    unfold OutO at pf
    have hfl := parI_len (fmtS xs)
    obtain ⟨rs, hrs⟩ : ∃ rs, rs = parI (fmtS xs) := ⟨_, rfl⟩
    obtain ⟨th, hth⟩ : ∃ th, th = parB (fmtS xs) := ⟨_, rfl⟩
    rw [← hrs, ← hth] at pf hbk
    rw [← hrs] at hfl
    obtain ⟨tx, htx⟩ : ∃ t, t = fmtS xs := ⟨_, rfl⟩
    obtain ⟨ty, hty⟩ : ∃ t, t = fmtS ys := ⟨_, rfl⟩
    obtain ⟨tz, htz⟩ : ∃ t, t = fmtS zs := ⟨_, rfl⟩
    rw [← htx] at fx pf hxs
    rw [← hty] at fy hys
    rw [← htz] at fz hzsz
    rw [← htx, ← hty, ← htz] at hjf
    obtain ⟨pq, hpq⟩ : ∃ p, p = ((okO zs && okO xs) && decide (xs <+: zs)) := ⟨_, rfl⟩
    rw [← hpq] at xz hjf
    obtain ⟨bx, hbx⟩ : ∃ t, t = okO xs := ⟨_, rfl⟩
    obtain ⟨by', hby⟩ : ∃ t, t = okO ys := ⟨_, rfl⟩
    obtain ⟨bz, hbz⟩ : ∃ t, t = okO zs := ⟨_, rfl⟩
    rw [← hbx] at fx vx hbk
    rw [← hby] at fy
    rw [← hbz] at fz
    rw [← hbz, ← hbx] at xz
    rw [← hbx, ← hby, ← hbz] at hjf
    have C1 := Lib.hid ki
    have C2 := Lib.hid ks
    have CV := Lib.hid (fun v u w hv hu => vI_same v u zs w hv hu (by omega))
    have CR := Lib.hid (fun v u w hv hu => vI_same v u xs w hv hu (by omega))
    have CX := Lib.hid xz
    have Fx := Lib.hid fx
    have Fy := Lib.hid fy
    have Fz := Lib.hid fz
    have Vx := Lib.hid vx
    have Pf := Lib.hid pf
    have HJ := Lib.hid hjf
    have HBk := Lib.hid hbk
    clear ha hb1 ki ks hjf hbk fx fy fz vx xz pf hzs hj hrs hth htx hty htz hpq hbx hby hbz PI FI VI KI KS XI
    clear hb HB4 HO4 CDC HC4
    go_wp2_with fail
    refine (C1.out _ HX5.out HY5.out).mono ?_
    rintro e w6 ⟨⟨c, rfl, hc⟩, hb⟩
    have HB6 := Lib.hid (HB5.out.trans (hb.mono HB5.out.size))
    have HO6 := Lib.hid (HO5.out.below hb)
    have HX6 := Lib.hid (HX5.out.below hb)
    have HY6 := Lib.hid (HY5.out.below hb)
    have HZ6 := Lib.hid hc
    clear hc
    clear hb HB5 HO5 HX5 HY5 C1
    go_wp2_with fail
    refine (C2.out _ HX6.out HY6.out).mono ?_
    rintro e w7 ⟨⟨u, rfl, hu⟩, hb⟩
    have HB7 := Lib.hid (HB6.out.trans (hb.mono HB6.out.size))
    have HO7 := Lib.hid (HO6.out.below hb)
    have HX7 := Lib.hid (HX6.out.below hb)
    have HY7 := Lib.hid (HY6.out.below hb)
    have HZ7 := Lib.hid (HZ6.out.below hb)
    have HU7 := Lib.hid hu
    clear hu
    clear hb HB6 HO6 HX6 HY6 HZ6 C2
    go_wp2_with fail
    refine (CV.out _ _ _ HZ7.out.ints HU7.out).mono ?_
    rintro e w8 ⟨rfl, hb⟩
    have HB8 := Lib.hid (HB7.out.trans (hb.mono HB7.out.size))
    have HO8 := Lib.hid (HO7.out.below hb)
    have HX8 := Lib.hid (HX7.out.below hb)
    have HY8 := Lib.hid (HY7.out.below hb)
    have HZ8 := Lib.hid (HZ7.out.below hb)
    clear hb HB7 HO7 HX7 HY7 HZ7 CV HU7
    cases j
    case true =>
      obtain ⟨rfl, rfl, rfl, rfl, rfl⟩ := HJ.out (by first | rfl | trivial)
      go_wp2_with fail
      refine (CX.out _ _ HZ8.out.ints HX8.out.at).mono ?_
      rintro e w9 ⟨rfl, hb⟩
      have HB9 := Lib.hid (HB8.out.trans (hb.mono HB8.out.size))
      have HO9 := Lib.hid (HO8.out.below hb)
      have HX9 := Lib.hid (HX8.out.below hb)
      have HY9 := Lib.hid (HY8.out.below hb)
      have HZ9 := Lib.hid (HZ8.out.below hb)
      clear hb HB8 HO8 HX8 HY8 HZ8 CX
      go_wp2_with fail
      refine (Fx.out _ HX9.out.at).mono ?_
      rintro e w10 ⟨rfl, hb⟩
      have HB10 := Lib.hid (HB9.out.trans (hb.mono HB9.out.size))
      have HO10 := Lib.hid (HO9.out.below hb)
      have HX10 := Lib.hid (HX9.out.below hb)
      have HY10 := Lib.hid (HY9.out.below hb)
      have HZ10 := Lib.hid (HZ9.out.below hb)
      clear hb HB9 HO9 HX9 HY9 HZ9 
      go_wp2_with fail
      refine (Fy.out _ HY10.out.at).mono ?_
      rintro e w11 ⟨rfl, hb⟩
      have HB11 := Lib.hid (HB10.out.trans (hb.mono HB10.out.size))
      have HO11 := Lib.hid (HO10.out.below hb)
      have HX11 := Lib.hid (HX10.out.below hb)
      have HZ11 := Lib.hid (HZ10.out.below hb)
      clear hb HB10 HO10 HX10 HZ10 HY10
      go_wp2_with fail
      refine (Fz.out _ _ HZ11.out.ints).mono ?_
      rintro e w12 ⟨rfl, hb⟩
      have HB12 := Lib.hid (HB11.out.trans (hb.mono HB11.out.size))
      have HO12 := Lib.hid (HO11.out.below hb)
      have HX12 := Lib.hid (HX11.out.below hb)
      clear hb HB11 HO11 HX11 HZ11
      have HB8 := HB12
      have HX8 := HX12
      have HO8 := HO12
      clear HB12 HX12 HO12
      go_wp2_with fail
      refine (Fx.out _ HX8.out.at).mono ?_
      rintro e w13 ⟨rfl, hb⟩
      have HB13 := Lib.hid (HB8.out.trans (hb.mono HB8.out.size))
      have HO13 := Lib.hid (HO8.out.below hb)
      have HX13 := Lib.hid (HX8.out.below hb)
      clear hb HB8 HO8 HX8 Fx
      go_wp2_with fail
      refine (Pf.out _).mono ?_
      rintro e w14 ⟨⟨r, rfl, hr⟩, hb⟩
      have HB14 := Lib.hid (HB13.out.trans (hb.mono HB13.out.size))
      have HO14 := Lib.hid (HO13.out.below hb)
      have HX14 := Lib.hid (HX13.out.below hb)
      have HR14 := Lib.hid hr
      clear hr
      clear hb HB13 HO13 HX13 Pf
      go_wp2_with fail
      refine (CF.out _ _ HO14.out.ints).mono ?_
      rintro e w15 ⟨rfl, hb⟩
      have HB15 := Lib.hid (HB14.out.trans (hb.mono HB14.out.size))
      have HX15 := Lib.hid (HX14.out.below hb)
      have HR15 := Lib.hid (HR14.out.below hb)
      clear hb HB14 HX14 HR14 CF HO14
      go_wp2_with fail
      refine (Vx.out _ HX15.out.at).mono ?_
      rintro e w16 ⟨rfl, hb⟩
      have HB16 := Lib.hid (HB15.out.trans (hb.mono HB15.out.size))
      have HX16 := Lib.hid (HX15.out.below hb)
      have HR16 := Lib.hid (HR15.out.below hb)
      clear hb HB15 HX15 HR15 Vx
      obtain ⟨rfl, rfl⟩ := HBk.out (by first | rfl | trivial)
      go_wp2_with fail
      refine (CR.out _ _ _ HR16.out.ints HX16.out.at).mono ?_
      rintro e w17 ⟨rfl, hb⟩
      have HB17 := Lib.hid (HB16.out.trans (hb.mono HB16.out.size))
      clear hb HB16  
      have HB16 := HB17
      clear HB17
      cases ok
      · go_wp2
        go_ret
        exact ⟨rfl, HB16.out⟩
      · obtain ⟨rfl, rfl⟩ := HAg.out (by first | rfl | trivial)
        go_wp2
        go_ret
        exact ⟨rfl, HB16.out⟩
    case false =>
      go_wp2_with fail
      refine (Fx.out _ HX8.out.at).mono ?_
      rintro e w13 ⟨rfl, hb⟩
      have HB13 := Lib.hid (HB8.out.trans (hb.mono HB8.out.size))
      have HO13 := Lib.hid (HO8.out.below hb)
      have HX13 := Lib.hid (HX8.out.below hb)
      clear hb HB8 HO8 HX8 Fx
      go_wp2_with fail
      refine (Pf.out _).mono ?_
      rintro e w14 ⟨⟨r, rfl, hr⟩, hb⟩
      have HB14 := Lib.hid (HB13.out.trans (hb.mono HB13.out.size))
      have HO14 := Lib.hid (HO13.out.below hb)
      have HX14 := Lib.hid (HX13.out.below hb)
      have HR14 := Lib.hid hr
      clear hr
      clear hb HB13 HO13 HX13 Pf
      go_wp2_with fail
      refine (CF.out _ _ HO14.out.ints).mono ?_
      rintro e w15 ⟨rfl, hb⟩
      have HB15 := Lib.hid (HB14.out.trans (hb.mono HB14.out.size))
      have HX15 := Lib.hid (HX14.out.below hb)
      have HR15 := Lib.hid (HR14.out.below hb)
      clear hb HB14 HX14 HR14 CF HO14
      go_wp2_with fail
      refine (Vx.out _ HX15.out.at).mono ?_
      rintro e w16 ⟨rfl, hb⟩
      have HB16 := Lib.hid (HB15.out.trans (hb.mono HB15.out.size))
      have HX16 := Lib.hid (HX15.out.below hb)
      have HR16 := Lib.hid (HR15.out.below hb)
      clear hb HB15 HX15 HR15 Vx
      cases bx
      case false =>
        cases ok
        · go_wp2
          go_ret
          exact ⟨rfl, HB16.out⟩
        · obtain ⟨rfl, rfl⟩ := HAg.out (by first | rfl | trivial)
          go_wp2
          go_ret
          exact ⟨rfl, HB16.out⟩
      case true =>
        obtain ⟨rfl, rfl⟩ := HBk.out (by first | rfl | trivial)
        go_wp2_with fail
        refine (CR.out _ _ _ HR16.out.ints HX16.out.at).mono ?_
        rintro e w17 ⟨rfl, hb⟩
        have HB17 := Lib.hid (HB16.out.trans (hb.mono HB16.out.size))
        clear hb HB16  
        have HB16 := HB17
        clear HB17
        cases ok
        · go_wp2
          go_ret
          exact ⟨rfl, HB16.out⟩
        · obtain ⟨rfl, rfl⟩ := HAg.out (by first | rfl | trivial)
          go_wp2
          go_ret
          exact ⟨rfl, HB16.out⟩

/-! ### THE ROW's STEP -/
set_option maxRecDepth 100000 in
theorem contract (H : Type) (enc : TypeId × Value → H) (W : World) (base : Nat) (args : Array Value) (ds gs : List (DataW H)) (before : List MemPlace)
    (hval : ∀ (j : Nat) t v, Try.f3.params[j]? = some t → args[j]? = some v → Value.okWide Try.prog W .any base t v)
    (hW : DataW.Whole enc Try.prog Try.f3.params.toList Rows.fnOutlinesSpec.vars false W args.toList ds gs before) (hL : laidMetH Try.prog Rows.fnOutlinesRow.laid W) (hS : W.ShapedOpen Try.prog) :
    Calls Try.prog 3 args W fun e W' => ∃ v, e = .returned v ∧ Rows.fnOutlinesSpec.post enc Try.prog Try.f3 false true false false W args v W' := by
  have hW' := hW
  obtain ⟨p, q, hA0, hV, rfl, hfz, hnd⟩ := hW
  have hA : DataW.TrodAll enc Try.prog W 0 (fun _ => true) true Try.f3.params.toList args.toList ds p := hA0
  rw [Try.params3] at hA hval
  obtain ⟨v0, vs0, d0, ds0, p0, q0, hargs, rfl, rfl, h0, r0⟩ := trodAll_cons hA
  obtain ⟨rfl, rfl, rfl⟩ := trodAll_nil r0
  obtain rfl : args = #[v0] := by cases args; simp_all
  obtain ⟨rfl, rfl⟩ := trodVars_none hV
  have k0 := h0
  have lt0 : ∀ x ∈ p0, x.block < W.heap.size := by obtain ⟨m, hm⟩ := k0; exact DataW.trod_lt m _ _ _ hm
  obtain ⟨a0, n0, c0, rfl⟩ := okWide_slice Try.underlying22 (hval 0 22 v0 rfl rfl)
  obtain ⟨z0, w0⟩ : ∃ zs, IsRow .u8 W a0 n0 c0 zs := by
    obtain ⟨fuel, hf⟩ := h0
    rcases open_ints Try.underlying22 Try.underlying5 (by kernel_rfl) hf with ⟨hcs, _⟩ | ⟨x, l, c, zs, hcs, _, hl, hm, hz, _, hcell, hwz⟩
    · simp [Value.cells] at hcs
      obtain ⟨rfl, rfl, rfl⟩ := hcs
      exact ⟨[], .inl ⟨rfl, rfl, rfl, rfl⟩⟩
    · simp [Value.cells] at hcs
      obtain ⟨rfl, rfl, rfl⟩ := hcs
      exact ⟨zs, .inr ⟨_, rfl, hl, hm, by simpa using hz, hcell, hwz⟩⟩
  clear hA0 hval
  refine (walk a0 n0 c0 z0 W hS  w0).mono fun e W' ⟨he, bel⟩ => ?_
  subst he
  exact ⟨_, rfl, _, _, _, [], _, [], hW', trodAll_mk1 (shut_bool Try.underlying4 _), (trodAll_cons_mk (Below.trod laidOut (by kernel_rfl) (of_decide_eq_true (by kernel_rfl)) k0 bel lt0) trodAll_mk0), rfl, bel.frame _, fun h => by cases h⟩

theorem reads (os : Os) {H : Type} (enc : TypeId × Value → H) : ∃ places, DataW.whole enc Try.prog ((World.holding Try.prog os ⟨#[], #[], []⟩).forCall (fun _ _ => 0) ⟨#[], #[.slice none 0 0], []⟩).memory Try.f3.params.toList Rows.fnOutlinesSpec.vars false (#[.slice none 0 0] : Array Value).toList 8 = some ([.nil], [], places) :=
  ⟨[], by kernel_rfl⟩

set_option maxRecDepth 100000 in
theorem lifted (os : Os) (started : os.Started) (H : Type) (enc : TypeId × Value → H) (F : Stop.Interp) :
    ReturnsInHanded {} Try.checked os 3 .any ((OpenSpec.ofChange Rows.fnOutlinesSpec).preRow enc Try.prog Try.f3 Rows.fnOutlinesRow.domain false Rows.fnOutlinesRow.laid) (((OpenSpec.ofChange Rows.fnOutlinesSpec).at F).post enc Try.prog Try.f3 false true false false) := by
  obtain ⟨places, hx⟩ := reads os enc
  refine returnsInHanded_of_row (C := Try.checked) (s := OpenSpec.ofChange Rows.fnOutlinesSpec) own started (by kernel_rfl) Try.func3
    (witness_row_atRef (enc := enc) (C := Try.checked) false (World.holding Try.prog os ⟨#[], #[], []⟩) #[.slice none 0 0] rfl (by kernel_rfl) (by kernel_rfl) (by kernel_rfl)
      (OpenSpec.preRow_of_cond 8 hx (by kernel_rfl) (fun k hk => by cases hk) (by kernel_rfl) ⟨[], rfl, List.nodup_nil, fun b off h => by cases h⟩)) ?_
  intro W base args ds gs before hval hW _ _ _ hL hS _
  exact contract H enc W base args ds gs before hval hW hL hS

theorem said : Rows.FnOutlinesSaid :=
  OpenClaim.holds_of_cond 3 Try.f3 rfl rfl rfl rfl rfl rfl rfl ⟨rfl, rfl, rfl, rfl, rfl⟩ rfl rfl rfl rfl rfl (by kernel_rfl) Try.func3 (by kernel_rfl)
    (of_decide_eq_true (by kernel_rfl)) (by unfold Func.isWrapper; first | (rw [if_pos (by decide +kernel)]; kernel_rfl) | (rw [if_neg (by decide +kernel)]; exact ⟨rfl, rfl⟩))
    (fun os started H enc _ F => by rw [OpenClaim.pre_eq_preRow]; exact lifted os started H enc F)

theorem proved : Rows.FnOutlinesSaid := said
#print axioms proved
end Go.Proofs.Ytkhklidpighmpaa.fnOutlines
