/-
  laws.FnSuffixRule returns true whatever the code: the rule determines how many letters joining adds, at all that the code draws. Conditions: none but the row's own.
-/
import Derived.Test.YtagbffnabjngfaaRows
import Derived.WalkKit
import Derived.ProofKit
import Derived.OpenShut
import Derived.ShutString
import Derived.ChangeOld
import Derived.Below
import Derived.SliceStrings
import Derived.JoinedCond
import Derived.Deep.DeepHandedRow
import Derived.Deep.DeepWitnessRowRef
import Derived.Lib.Hide
import Derived.Test.YtagbffnabjngfaaDraw9
import Derived.Test.YtagbffnabjngfaaLess
namespace Go.Proofs.Ytagbffnabjngfaa.fnSuffixRule
open Go.ChangeShapes Go.WideShapes Go.ChangeAt Go.RowKit
open Go.ChangeMaps (open_string shut_string)
set_option linter.unusedVariables false
set_option maxRecDepth 100000

theorem own : ownKnob Try.prog.godebug = none := by kernel_rfl
theorem laidOut : laidOutB Try.prog = true := by kernel_rfl

/-- A slice of integers that came in. -/
def IsRow (k : IntKind) (w : World) (a : Option Addr) (len cap : Nat) (zs : List Int) : Prop :=
  (a = none ∧ len = 0 ∧ cap = 0 ∧ zs = []) ∨
  ∃ x, a = some x ∧ len ≤ cap ∧ cap ≤ maxLen ∧ zs.length = cap ∧ (∀ i, i < zs.length → w.cell? (x.add i) = some (.int k (zs.getD i 0))) ∧ ∀ n ∈ zs, (Lit.int k n).wf = true

theorem code_of {w : World} {a : Option Addr} {n c : Nat} {z : List Int} (h : IsRow .u8 w a n c z) (hn : n ≤ 1000000) : CodeAt w a n := by
  refine ⟨hn, fun h0 => ?_⟩
  rcases h with ⟨rfl, rfl, rfl, rfl⟩ | ⟨x, rfl, hl, hm, hz, hcell, hwz⟩
  · omega
  · obtain ⟨b, o, spot⟩ := x
    have h1 := hcell 0 (by omega)
    have hspot : spot = none := by simpa [Addr.add] using World.cell?_spot h1
    subst hspot
    refine ⟨b, o, rfl, ?_, fun i hi => ?_⟩
    · have : (w.cell? ⟨b, o, none⟩).isSome := by have := h1; simp [Addr.add] at this; rw [this]; rfl
      rcases Nat.lt_or_ge b w.heap.size with h' | h'
      · exact h'
      · simp [World.cell?, Array.getElem?_eq_none h'] at this
    · have h2 := hcell i (by omega)
      have h3 := bounds_u8 (hwz (z.getD i 0) (by rw [List.getD_eq_getElem?_getD, List.getElem?_eq_getElem (by omega)]; exact List.getElem_mem _))
      refine ⟨z.getD i 0, h3.1, h3.2, ?_⟩
      by_cases hi0 : i = 0
      · subst hi0; simpa [Addr.add] using h2
      · simpa [Addr.add, hi0] using h2
theorem row_len {w : World} {a : Option Addr} {n c : Nat} {z : List Int} (h : IsRow .u8 w a n c z) : n ≤ maxLen := by
  rcases h with ⟨_, rfl, _, _⟩ | ⟨x, _, hl, hm, _⟩
  · exact Nat.zero_le _
  · omega
/-- How long the joined spelling is. -/
theorem join_len (w f : ByteArray) (h1 : 1 ≤ w.size) (hle : w.size ≤ 1000) (hlf : f.size ≤ 1000) :
    (Pl.rule w.data.toList f.data.toList = 0 → joinB w f = w ++ f) ∧ (Pl.rule w.data.toList f.data.toList = 4 → (joinB w f).size = w.size + f.size) ∧
    (Pl.rule w.data.toList f.data.toList = 5 → (joinB w f).size + 1 = w.size + f.size) ∧ (Pl.rule w.data.toList f.data.toList = 3 → (joinB w f).size + 1 = w.size + f.size) ∧
    (Pl.rule w.data.toList f.data.toList = 1 → (joinB w f).size = w.size + f.size + 1) ∧ (Pl.rule w.data.toList f.data.toList = 2 → (joinB w f).size = w.size + f.size + 1) ∧ (Pl.rule w.data.toList f.data.toList = 6 → (joinB w f).size = w.size + f.size + 1) := by
  have hlw : w.data.toList.length = w.size := by simp
  have hlff : f.data.toList.length = f.size := by simp
  obtain ⟨x, hx⟩ := Pl.bef_suffix w.data.toList f.data.toList
  have hje := Pl.join_eq hx
  obtain ⟨c, hc⟩ := Pl.lastL_one (l := w.data.toList) (by omega)
  have hsz : (joinB w f).size = (Pl.join9 w.data.toList f.data.toList).length := by show (Pl.join9 _ _).toArray.size = _; rw [List.size_toArray]
  have el := congrArg List.length hx
  rw [hje, List.length_append, List.length_append, hlff] at hsz
  rw [List.length_append, hlw] at el
  rw [hc] at hsz el hje hx
  refine ⟨fun h => ?_, fun h => ?_, fun h => ?_, fun h => ?_, fun h => ?_, fun h => ?_, fun h => ?_⟩
  · refine (bytes_mk ?_).symm
    rw [hje, h, ext_snoc]
    rw [h] at hx
    have hx : w.data.toList = x := by rw [hx]; simp [Pl.bef]
    simp only [Pl.aft]
    rw [hx]; simp
  all_goals (rw [h] at hsz el; simp [Pl.bef, Pl.aft] at hsz el; omega)
theorem grp_form (z : ByteArray) : ∃ (n : Int) (b : Bool), grpE z = .returned (.tuple #[.int .i64 n, .bool b]) := by
  unfold grpE
  split
  · exact ⟨_, _, rfl⟩
  · exact ⟨_, _, rfl⟩
/-! ### THE WALK: the Go text returns true, and writes nothing that was there. -/
set_option maxRecDepth 100000 in
set_option maxHeartbeats 8000000 in
theorem walk (a0 : Option Addr) (n0 c0 : Nat) (z0 : List Int) (w : World) (hS : w.ShapedOpen Try.prog)  (w0 : IsRow .u8 w a0 n0 c0 z0) :
    Calls Try.prog 4 #[.slice a0 n0 c0] w fun e w' => e = .returned (.bool true) ∧ Below w.heap.size w w' := by
  have hnm := row_len w0
  by_cases hbig : 65536 < n0
  · have C := Lib.hid (vBig_yes a0 n0 c0 w hbig hnm)
    clear w0 hS hnm
    go_enter Try.func4, Try.ntmps4
    go_wp2_with fail
    refine C.out.mono ?_
    rintro e w1 ⟨rfl, rfl⟩
    go_wp2
    go_ret
    exact ⟨rfl, Below.refl _ _⟩
  · have C := Lib.hid (vBig_no a0 n0 c0 w (by omega))
    have HCode := Lib.hid (code_of w0 (by omega))
    have CD := Lib.hid (fun w h => drawSuffixRule_any a0 n0 c0 w h)
    have CV := Lib.hid (fun w h => drawVowelGroups_any a0 n0 c0 w h)
    clear w0 hS hnm hbig
    go_enter Try.func4, Try.ntmps4
    go_wp2_with fail
    refine C.out.mono ?_
    rintro e w0 ⟨rfl, rfl⟩
    go_wp2_with fail
    refine (CD.out _ HCode.out).mono ?_
    rintro e w1 ⟨⟨x, y, hx, hy, rfl⟩, hb1⟩
    have HB1 := Lib.hid hb1
    have R1 := Lib.hid (fun w => SuffixRule_any x y w (by omega) (by omega))
    have R2 := Lib.hid (fun w => specSuffixRule_any x y w (by omega) (by omega))
    have J1 := Lib.hid (fun w => JoinSuffix_any x y w (by omega) (by omega))
    unfold ruleE at R1 R2
    unfold joinE at J1
    rw [← Bool.and_assoc] at J1
    clear hb1
    cases hc : (Pl.wordB x.data.toList && Pl.wordB y.data.toList)
    · rw [hc, if_neg (by decide)] at R1 R2
      rw [hc, Bool.false_and, if_neg (by decide)] at J1
      clear hc
      go_wp2_with fail
      refine (R1.out _).mono ?_
      rintro e w2 ⟨rfl, hb2⟩
      have HB2 := Lib.hid (HB1.out.trans (hb2.mono HB1.out.size))
      clear hb2
      go_wp2_with fail
      refine (R2.out _).mono ?_
      rintro e w3 ⟨rfl, hw3⟩
      subst hw3
      go_wp2_with fail
      refine (CV.out _ (HCode.out.below HB2.out)).mono ?_
      rintro e w4 ⟨⟨z, hz, rfl⟩, hb4⟩
      have HB4 := Lib.hid (HB2.out.trans (hb4.mono HB2.out.size))
      have G1 := Lib.hid (fun w => VowelGroups_any z w (by unfold maxLen; omega))
      have G2 := Lib.hid (fun w => specVowelGroups_any z w (by unfold maxLen; omega))
      obtain ⟨gn, gb, hgz⟩ := grp_form z
      rw [hgz] at G1 G2
      clear hb4 hgz
      go_wp2_with fail
      refine (G1.out _).mono ?_
      rintro e w5 ⟨rfl, hw5⟩
      subst hw5
      go_wp2_with fail
      refine (G2.out _).mono ?_
      rintro e w6 ⟨rfl, hw6⟩
      subst hw6
      go_wp2_with fail
      refine (J1.out _).mono ?_
      rintro e w7 ⟨rfl, hb7⟩
      have HB7 := Lib.hid (HB4.out.trans (hb7.mono HB4.out.size))
      clear hb7
      go_wp2
      go_ret
      exact ⟨rfl, HB7.out⟩
    · rw [hc, if_pos rfl] at R1 R2
      rw [hc, Bool.true_and] at J1
      rw [Bool.and_eq_true] at hc
      obtain ⟨p1, p2⟩ := wordB_size hc.1
      obtain ⟨q1, q2⟩ := wordB_size hc.2
      have hjl := join_len x y p1 (by omega) (by omega)
      have hrc := Pl.rule_cases x.data.toList y.data.toList
      obtain ⟨R, hR⟩ : ∃ R, R = Pl.rule x.data.toList y.data.toList := ⟨_, rfl⟩
      rw [← hR] at R1 R2 hjl hrc
      obtain ⟨J, hJ⟩ : ∃ J, J = joinB x y := ⟨_, rfl⟩
      rw [← hJ] at J1 hjl
      clear hc hR hJ
      by_cases h24 : J.size ≤ 24
      · rw [if_pos (by simpa using h24)] at J1
        obtain ⟨k0, k4, k5, k3, k1, k2, k6⟩ := hjl
        rcases hrc with rfl | rfl | rfl | rfl | rfl | rfl | rfl
        · have k := k0 rfl
          clear k0 k1 k2 k3 k4 k5 k6
          have hk := Lib.hid k
          clear k
          go_wp2_with fail
          refine (R1.out _).mono ?_
          rintro e w2 ⟨rfl, hb2⟩
          have HB2 := Lib.hid (HB1.out.trans (hb2.mono HB1.out.size))
          clear hb2
          go_wp2_with fail
          refine (R2.out _).mono ?_
          rintro e w3 ⟨rfl, hw3⟩
          subst hw3
          go_wp2_with fail
          refine (CV.out _ (HCode.out.below HB2.out)).mono ?_
          rintro e w4 ⟨⟨z, hz, rfl⟩, hb4⟩
          have HB4 := Lib.hid (HB2.out.trans (hb4.mono HB2.out.size))
          have G1 := Lib.hid (fun w => VowelGroups_any z w (by unfold maxLen; omega))
          have G2 := Lib.hid (fun w => specVowelGroups_any z w (by unfold maxLen; omega))
          obtain ⟨gn, gb, hgz⟩ := grp_form z
          rw [hgz] at G1 G2
          clear hb4 hgz
          go_wp2_with fail
          refine (G1.out _).mono ?_
          rintro e w5 ⟨rfl, hw5⟩
          subst hw5
          go_wp2_with fail
          refine (G2.out _).mono ?_
          rintro e w6 ⟨rfl, hw6⟩
          subst hw6
          go_wp2_with fail
          refine (J1.out _).mono ?_
          rintro e w7 ⟨rfl, hb7⟩
          have HB7 := Lib.hid (HB4.out.trans (hb7.mono HB4.out.size))
          clear hb7
          go_wp2
          go_ret
          exact ⟨ret_bool (by rw [hk.out]; simp), HB7.out⟩
        · have k := k1 rfl
          clear k0 k1 k2 k3 k4 k5 k6
          have hk : (J.size : Int) - (x.size : Int) - (y.size : Int) = 1 := by omega
          clear k
          go_wp2_with fail
          refine (R1.out _).mono ?_
          rintro e w2 ⟨rfl, hb2⟩
          have HB2 := Lib.hid (HB1.out.trans (hb2.mono HB1.out.size))
          clear hb2
          go_wp2_with fail
          refine (R2.out _).mono ?_
          rintro e w3 ⟨rfl, hw3⟩
          subst hw3
          go_wp2_with fail
          refine (CV.out _ (HCode.out.below HB2.out)).mono ?_
          rintro e w4 ⟨⟨z, hz, rfl⟩, hb4⟩
          have HB4 := Lib.hid (HB2.out.trans (hb4.mono HB2.out.size))
          have G1 := Lib.hid (fun w => VowelGroups_any z w (by unfold maxLen; omega))
          have G2 := Lib.hid (fun w => specVowelGroups_any z w (by unfold maxLen; omega))
          obtain ⟨gn, gb, hgz⟩ := grp_form z
          rw [hgz] at G1 G2
          clear hb4 hgz
          go_wp2_with fail
          refine (G1.out _).mono ?_
          rintro e w5 ⟨rfl, hw5⟩
          subst hw5
          go_wp2_with fail
          refine (G2.out _).mono ?_
          rintro e w6 ⟨rfl, hw6⟩
          subst hw6
          go_wp2_with fail
          refine (J1.out _).mono ?_
          rintro e w7 ⟨rfl, hb7⟩
          have HB7 := Lib.hid (HB4.out.trans (hb7.mono HB4.out.size))
          clear hb7
          go_wp2
          go_ret
          exact ⟨rfl, HB7.out⟩
        · have k := k2 rfl
          clear k0 k1 k2 k3 k4 k5 k6
          have hk : (J.size : Int) - (x.size : Int) - (y.size : Int) = 1 := by omega
          clear k
          go_wp2_with fail
          refine (R1.out _).mono ?_
          rintro e w2 ⟨rfl, hb2⟩
          have HB2 := Lib.hid (HB1.out.trans (hb2.mono HB1.out.size))
          clear hb2
          go_wp2_with fail
          refine (R2.out _).mono ?_
          rintro e w3 ⟨rfl, hw3⟩
          subst hw3
          go_wp2_with fail
          refine (CV.out _ (HCode.out.below HB2.out)).mono ?_
          rintro e w4 ⟨⟨z, hz, rfl⟩, hb4⟩
          have HB4 := Lib.hid (HB2.out.trans (hb4.mono HB2.out.size))
          have G1 := Lib.hid (fun w => VowelGroups_any z w (by unfold maxLen; omega))
          have G2 := Lib.hid (fun w => specVowelGroups_any z w (by unfold maxLen; omega))
          obtain ⟨gn, gb, hgz⟩ := grp_form z
          rw [hgz] at G1 G2
          clear hb4 hgz
          go_wp2_with fail
          refine (G1.out _).mono ?_
          rintro e w5 ⟨rfl, hw5⟩
          subst hw5
          go_wp2_with fail
          refine (G2.out _).mono ?_
          rintro e w6 ⟨rfl, hw6⟩
          subst hw6
          go_wp2_with fail
          refine (J1.out _).mono ?_
          rintro e w7 ⟨rfl, hb7⟩
          have HB7 := Lib.hid (HB4.out.trans (hb7.mono HB4.out.size))
          clear hb7
          go_wp2
          go_ret
          exact ⟨rfl, HB7.out⟩
        · have k := k3 rfl
          clear k0 k1 k2 k3 k4 k5 k6
          have hk : (J.size : Int) - (x.size : Int) - (y.size : Int) = (-1) := by omega
          clear k
          go_wp2_with fail
          refine (R1.out _).mono ?_
          rintro e w2 ⟨rfl, hb2⟩
          have HB2 := Lib.hid (HB1.out.trans (hb2.mono HB1.out.size))
          clear hb2
          go_wp2_with fail
          refine (R2.out _).mono ?_
          rintro e w3 ⟨rfl, hw3⟩
          subst hw3
          go_wp2_with fail
          refine (CV.out _ (HCode.out.below HB2.out)).mono ?_
          rintro e w4 ⟨⟨z, hz, rfl⟩, hb4⟩
          have HB4 := Lib.hid (HB2.out.trans (hb4.mono HB2.out.size))
          have G1 := Lib.hid (fun w => VowelGroups_any z w (by unfold maxLen; omega))
          have G2 := Lib.hid (fun w => specVowelGroups_any z w (by unfold maxLen; omega))
          obtain ⟨gn, gb, hgz⟩ := grp_form z
          rw [hgz] at G1 G2
          clear hb4 hgz
          go_wp2_with fail
          refine (G1.out _).mono ?_
          rintro e w5 ⟨rfl, hw5⟩
          subst hw5
          go_wp2_with fail
          refine (G2.out _).mono ?_
          rintro e w6 ⟨rfl, hw6⟩
          subst hw6
          go_wp2_with fail
          refine (J1.out _).mono ?_
          rintro e w7 ⟨rfl, hb7⟩
          have HB7 := Lib.hid (HB4.out.trans (hb7.mono HB4.out.size))
          clear hb7
          go_wp2
          go_ret
          exact ⟨rfl, HB7.out⟩
        · have k := k4 rfl
          clear k0 k1 k2 k3 k4 k5 k6
          have hk : (J.size : Int) - (x.size : Int) - (y.size : Int) = 0 := by omega
          clear k
          go_wp2_with fail
          refine (R1.out _).mono ?_
          rintro e w2 ⟨rfl, hb2⟩
          have HB2 := Lib.hid (HB1.out.trans (hb2.mono HB1.out.size))
          clear hb2
          go_wp2_with fail
          refine (R2.out _).mono ?_
          rintro e w3 ⟨rfl, hw3⟩
          subst hw3
          go_wp2_with fail
          refine (CV.out _ (HCode.out.below HB2.out)).mono ?_
          rintro e w4 ⟨⟨z, hz, rfl⟩, hb4⟩
          have HB4 := Lib.hid (HB2.out.trans (hb4.mono HB2.out.size))
          have G1 := Lib.hid (fun w => VowelGroups_any z w (by unfold maxLen; omega))
          have G2 := Lib.hid (fun w => specVowelGroups_any z w (by unfold maxLen; omega))
          obtain ⟨gn, gb, hgz⟩ := grp_form z
          rw [hgz] at G1 G2
          clear hb4 hgz
          go_wp2_with fail
          refine (G1.out _).mono ?_
          rintro e w5 ⟨rfl, hw5⟩
          subst hw5
          go_wp2_with fail
          refine (G2.out _).mono ?_
          rintro e w6 ⟨rfl, hw6⟩
          subst hw6
          go_wp2_with fail
          refine (J1.out _).mono ?_
          rintro e w7 ⟨rfl, hb7⟩
          have HB7 := Lib.hid (HB4.out.trans (hb7.mono HB4.out.size))
          clear hb7
          go_wp2
          go_ret
          exact ⟨rfl, HB7.out⟩
        · have k := k5 rfl
          clear k0 k1 k2 k3 k4 k5 k6
          have hk : (J.size : Int) - (x.size : Int) - (y.size : Int) = (-1) := by omega
          clear k
          go_wp2_with fail
          refine (R1.out _).mono ?_
          rintro e w2 ⟨rfl, hb2⟩
          have HB2 := Lib.hid (HB1.out.trans (hb2.mono HB1.out.size))
          clear hb2
          go_wp2_with fail
          refine (R2.out _).mono ?_
          rintro e w3 ⟨rfl, hw3⟩
          subst hw3
          go_wp2_with fail
          refine (CV.out _ (HCode.out.below HB2.out)).mono ?_
          rintro e w4 ⟨⟨z, hz, rfl⟩, hb4⟩
          have HB4 := Lib.hid (HB2.out.trans (hb4.mono HB2.out.size))
          have G1 := Lib.hid (fun w => VowelGroups_any z w (by unfold maxLen; omega))
          have G2 := Lib.hid (fun w => specVowelGroups_any z w (by unfold maxLen; omega))
          obtain ⟨gn, gb, hgz⟩ := grp_form z
          rw [hgz] at G1 G2
          clear hb4 hgz
          go_wp2_with fail
          refine (G1.out _).mono ?_
          rintro e w5 ⟨rfl, hw5⟩
          subst hw5
          go_wp2_with fail
          refine (G2.out _).mono ?_
          rintro e w6 ⟨rfl, hw6⟩
          subst hw6
          go_wp2_with fail
          refine (J1.out _).mono ?_
          rintro e w7 ⟨rfl, hb7⟩
          have HB7 := Lib.hid (HB4.out.trans (hb7.mono HB4.out.size))
          clear hb7
          go_wp2
          go_ret
          exact ⟨rfl, HB7.out⟩
        · have k := k6 rfl
          clear k0 k1 k2 k3 k4 k5 k6
          have hk : (J.size : Int) - (x.size : Int) - (y.size : Int) = 1 := by omega
          clear k
          go_wp2_with fail
          refine (R1.out _).mono ?_
          rintro e w2 ⟨rfl, hb2⟩
          have HB2 := Lib.hid (HB1.out.trans (hb2.mono HB1.out.size))
          clear hb2
          go_wp2_with fail
          refine (R2.out _).mono ?_
          rintro e w3 ⟨rfl, hw3⟩
          subst hw3
          go_wp2_with fail
          refine (CV.out _ (HCode.out.below HB2.out)).mono ?_
          rintro e w4 ⟨⟨z, hz, rfl⟩, hb4⟩
          have HB4 := Lib.hid (HB2.out.trans (hb4.mono HB2.out.size))
          have G1 := Lib.hid (fun w => VowelGroups_any z w (by unfold maxLen; omega))
          have G2 := Lib.hid (fun w => specVowelGroups_any z w (by unfold maxLen; omega))
          obtain ⟨gn, gb, hgz⟩ := grp_form z
          rw [hgz] at G1 G2
          clear hb4 hgz
          go_wp2_with fail
          refine (G1.out _).mono ?_
          rintro e w5 ⟨rfl, hw5⟩
          subst hw5
          go_wp2_with fail
          refine (G2.out _).mono ?_
          rintro e w6 ⟨rfl, hw6⟩
          subst hw6
          go_wp2_with fail
          refine (J1.out _).mono ?_
          rintro e w7 ⟨rfl, hb7⟩
          have HB7 := Lib.hid (HB4.out.trans (hb7.mono HB4.out.size))
          clear hb7
          go_wp2
          go_ret
          exact ⟨rfl, HB7.out⟩
      · rw [if_neg (by simpa using h24)] at J1
        clear hjl hrc h24
        go_wp2_with fail
        refine (R1.out _).mono ?_
        rintro e w2 ⟨rfl, hb2⟩
        have HB2 := Lib.hid (HB1.out.trans (hb2.mono HB1.out.size))
        clear hb2
        go_wp2_with fail
        refine (R2.out _).mono ?_
        rintro e w3 ⟨rfl, hw3⟩
        subst hw3
        go_wp2_with fail
        refine (CV.out _ (HCode.out.below HB2.out)).mono ?_
        rintro e w4 ⟨⟨z, hz, rfl⟩, hb4⟩
        have HB4 := Lib.hid (HB2.out.trans (hb4.mono HB2.out.size))
        have G1 := Lib.hid (fun w => VowelGroups_any z w (by unfold maxLen; omega))
        have G2 := Lib.hid (fun w => specVowelGroups_any z w (by unfold maxLen; omega))
        obtain ⟨gn, gb, hgz⟩ := grp_form z
        rw [hgz] at G1 G2
        clear hb4 hgz
        go_wp2_with fail
        refine (G1.out _).mono ?_
        rintro e w5 ⟨rfl, hw5⟩
        subst hw5
        go_wp2_with fail
        refine (G2.out _).mono ?_
        rintro e w6 ⟨rfl, hw6⟩
        subst hw6
        go_wp2_with fail
        refine (J1.out _).mono ?_
        rintro e w7 ⟨rfl, hb7⟩
        have HB7 := Lib.hid (HB4.out.trans (hb7.mono HB4.out.size))
        clear hb7
        go_wp2
        go_ret
        exact ⟨rfl, HB7.out⟩

/-! ### THE ROW's STEP -/
set_option maxRecDepth 100000 in
theorem contract (H : Type) (enc : TypeId × Value → H) (W : World) (base : Nat) (args : Array Value) (ds gs : List (DataW H)) (before : List MemPlace)
    (hval : ∀ (j : Nat) t v, Try.f4.params[j]? = some t → args[j]? = some v → Value.okWide Try.prog W .any base t v)
    (hW : DataW.Whole enc Try.prog Try.f4.params.toList Rows.fnSuffixRuleSpec.vars false W args.toList ds gs before) (hL : laidMetH Try.prog Rows.fnSuffixRuleRow.laid W) (hS : W.ShapedOpen Try.prog) :
    Calls Try.prog 4 args W fun e W' => ∃ v, e = .returned v ∧ Rows.fnSuffixRuleSpec.post enc Try.prog Try.f4 false true false false W args v W' := by
  have hW' := hW
  obtain ⟨p, q, hA0, hV, rfl, hfz, hnd⟩ := hW
  have hA : DataW.TrodAll enc Try.prog W 0 (fun _ => true) true Try.f4.params.toList args.toList ds p := hA0
  rw [Try.params4] at hA hval
  obtain ⟨v0, vs0, d0, ds0, p0, q0, hargs, rfl, rfl, h0, r0⟩ := trodAll_cons hA
  obtain ⟨rfl, rfl, rfl⟩ := trodAll_nil r0
  obtain rfl : args = #[v0] := by cases args; simp_all
  obtain ⟨rfl, rfl⟩ := trodVars_none hV
  have k0 := h0
  have lt0 : ∀ x ∈ p0, x.block < W.heap.size := by obtain ⟨m, hm⟩ := k0; exact DataW.trod_lt m _ _ _ hm
  obtain ⟨a0, n0, c0, rfl⟩ := okWide_slice Try.underlying22 (hval 0 22 v0 rfl rfl)
  obtain ⟨z0, w0⟩ : ∃ zs, IsRow .u8 W a0 n0 c0 zs := by
    obtain ⟨fuel, hf⟩ := h0
    rcases open_ints Try.underlying22 Try.underlying5 (by kernel_rfl) hf with ⟨hcs, _⟩ | ⟨x, l, c, zs, hcs, _, hl, hm, hz, _, hcell, hwz⟩
    · simp [Value.cells] at hcs
      obtain ⟨rfl, rfl, rfl⟩ := hcs
      exact ⟨[], .inl ⟨rfl, rfl, rfl, rfl⟩⟩
    · simp [Value.cells] at hcs
      obtain ⟨rfl, rfl, rfl⟩ := hcs
      exact ⟨zs, .inr ⟨_, rfl, hl, hm, by simpa using hz, hcell, hwz⟩⟩
  clear hA0 hval
  refine (walk a0 n0 c0 z0 W hS  w0).mono fun e W' ⟨he, bel⟩ => ?_
  subst he
  exact ⟨_, rfl, _, _, _, [], _, [], hW', trodAll_mk1 (shut_bool Try.underlying4 _), (trodAll_cons_mk (Below.trod laidOut (by kernel_rfl) (of_decide_eq_true (by kernel_rfl)) k0 bel lt0) trodAll_mk0), rfl, bel.frame _, fun h => by cases h⟩

theorem reads (os : Os) {H : Type} (enc : TypeId × Value → H) : ∃ places, DataW.whole enc Try.prog ((World.holding Try.prog os ⟨#[], #[], []⟩).forCall (fun _ _ => 0) ⟨#[], #[.slice none 0 0], []⟩).memory Try.f4.params.toList Rows.fnSuffixRuleSpec.vars false (#[.slice none 0 0] : Array Value).toList 8 = some ([.nil], [], places) :=
  ⟨[], by kernel_rfl⟩

set_option maxRecDepth 100000 in
theorem lifted (os : Os) (started : os.Started) (H : Type) (enc : TypeId × Value → H) (F : Stop.Interp) :
    ReturnsInHanded {} Try.checked os 4 .any ((OpenSpec.ofChange Rows.fnSuffixRuleSpec).preRow enc Try.prog Try.f4 Rows.fnSuffixRuleRow.domain false Rows.fnSuffixRuleRow.laid) (((OpenSpec.ofChange Rows.fnSuffixRuleSpec).at F).post enc Try.prog Try.f4 false true false false) := by
  obtain ⟨places, hx⟩ := reads os enc
  refine returnsInHanded_of_row (C := Try.checked) (s := OpenSpec.ofChange Rows.fnSuffixRuleSpec) own started (by kernel_rfl) Try.func4
    (witness_row_atRef (enc := enc) (C := Try.checked) false (World.holding Try.prog os ⟨#[], #[], []⟩) #[.slice none 0 0] rfl (by kernel_rfl) (by kernel_rfl) (by kernel_rfl)
      (OpenSpec.preRow_of_cond 8 hx (by kernel_rfl) (fun k hk => by cases hk) (by kernel_rfl) ⟨[], rfl, List.nodup_nil, fun b off h => by cases h⟩)) ?_
  intro W base args ds gs before hval hW _ _ _ hL hS _
  exact contract H enc W base args ds gs before hval hW hL hS

theorem said : Rows.FnSuffixRuleSaid :=
  OpenClaim.holds_of_cond 4 Try.f4 rfl rfl rfl rfl rfl rfl rfl ⟨rfl, rfl, rfl, rfl, rfl⟩ rfl rfl rfl rfl rfl (by kernel_rfl) Try.func4 (by kernel_rfl)
    (of_decide_eq_true (by kernel_rfl)) (by unfold Func.isWrapper; first | (rw [if_pos (by decide +kernel)]; kernel_rfl) | (rw [if_neg (by decide +kernel)]; exact ⟨rfl, rfl⟩))
    (fun os started H enc _ F => by rw [OpenClaim.pre_eq_preRow]; exact lifted os started H enc F)

theorem proved : Rows.FnSuffixRuleSaid := said
#print axioms proved
end Go.Proofs.Ytagbffnabjngfaa.fnSuffixRule
