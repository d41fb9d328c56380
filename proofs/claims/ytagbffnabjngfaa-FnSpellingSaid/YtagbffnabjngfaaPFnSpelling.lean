/-
  laws.FnSpelling returns true whatever the code: every word that SplitSuffix returns joins to the given spelling, and the word that was joined is among them, at all that the code draws. Conditions: none but the row's own.
-/
import Derived.Test.YtagbffnabjngfaaRows
import Derived.WalkKit
import Derived.ProofKit
import Derived.OpenShut
import Derived.ShutString
import Derived.ChangeOld
import Derived.Below
import Derived.SliceStrings
import Derived.JoinedCond
import Derived.Deep.DeepHandedRow
import Derived.Deep.DeepWitnessRowRef
import Derived.Lib.Hide
import Derived.Test.YtagbffnabjngfaaDraw9
import Derived.Test.YtagbffnabjngfaaSplS9
import Derived.Test.YtagbffnabjngfaaLess
import Derived.Lib.QuietBelow
namespace Go.Proofs.Ytagbffnabjngfaa.fnSpelling
open Go.ChangeShapes Go.WideShapes Go.ChangeAt Go.RowKit
open Go.ChangeMaps (open_string shut_string)
set_option linter.unusedVariables false
set_option maxRecDepth 100000

theorem own : ownKnob Try.prog.godebug = none := by kernel_rfl
theorem laidOut : laidOutB Try.prog = true := by kernel_rfl

/-- A slice of integers that came in. -/
def IsRow (k : IntKind) (w : World) (a : Option Addr) (len cap : Nat) (zs : List Int) : Prop :=
  (a = none ∧ len = 0 ∧ cap = 0 ∧ zs = []) ∨
  ∃ x, a = some x ∧ len ≤ cap ∧ cap ≤ maxLen ∧ zs.length = cap ∧ (∀ i, i < zs.length → w.cell? (x.add i) = some (.int k (zs.getD i 0))) ∧ ∀ n ∈ zs, (Lit.int k n).wf = true

theorem code_of {w : World} {a : Option Addr} {n c : Nat} {z : List Int} (h : IsRow .u8 w a n c z) (hn : n ≤ 1000000) : CodeAt w a n := by
  refine ⟨hn, fun h0 => ?_⟩
  rcases h with ⟨rfl, rfl, rfl, rfl⟩ | ⟨x, rfl, hl, hm, hz, hcell, hwz⟩
  · omega
  · obtain ⟨b, o, spot⟩ := x
    have h1 := hcell 0 (by omega)
    have hspot : spot = none := by simpa [Addr.add] using World.cell?_spot h1
    subst hspot
    refine ⟨b, o, rfl, ?_, fun i hi => ?_⟩
    · have : (w.cell? ⟨b, o, none⟩).isSome := by have := h1; simp [Addr.add] at this; rw [this]; rfl
      rcases Nat.lt_or_ge b w.heap.size with h' | h'
      · exact h'
      · simp [World.cell?, Array.getElem?_eq_none h'] at this
    · have h2 := hcell i (by omega)
      have h3 := bounds_u8 (hwz (z.getD i 0) (by rw [List.getD_eq_getElem?_getD, List.getElem?_eq_getElem (by omega)]; exact List.getElem_mem _))
      refine ⟨z.getD i 0, h3.1, h3.2, ?_⟩
      by_cases hi0 : i = 0
      · subst hi0; simpa [Addr.add] using h2
      · simpa [Addr.add, hi0] using h2
theorem row_len {w : World} {a : Option Addr} {n c : Nat} {z : List Int} (h : IsRow .u8 w a n c z) : n ≤ maxLen := by
  rcases h with ⟨_, rfl, _, _⟩ | ⟨x, _, hl, hm, _⟩
  · exact Nat.zero_le _
  · omega
/-- Words that were split off: each joins to the spelling, and they ascend. -/
def SplitOk (s f : ByteArray) (xs : List ByteArray) : Prop :=
  (∀ (j : Nat) x, xs[j]? = some x → joinE x f = .returned (.tuple #[.string s, .bool true]) ∧ x.size ≤ 24) ∧
  (∀ (j : Nat) x y, xs[j]? = some x → xs[j + 1]? = some y → Pl.less x y = true)
theorem splitL_good (s f : List UInt8) : Pl.Asc (splitL s f) ∧ ∀ x ∈ splitL s f, Pl.wordB x = true ∧ Pl.join9 x f = s ∧ Pl.wordB s = true ∧ Pl.wordB f = true := by
  unfold splitL
  split
  · rename_i hw
    rw [Bool.and_eq_true] at hw
    split
    · rename_i hsuf
      obtain ⟨y, hy⟩ := (Pl.suffix_iff _ _).1 hsuf
      refine ⟨Pl.sort_asc (Pl.nodup_cands _ _ _), fun x hx => ?_⟩
      rw [Pl.mem_sort, Pl.mem_cands] at hx
      refine ⟨hx.1, ?_, hw⟩
      rw [hx.2, hy, Pl.trim_app]
    · exact ⟨List.Pairwise.nil, fun x hx => by cases hx⟩
  · exact ⟨List.Pairwise.nil, fun x hx => by cases hx⟩
theorem split_ok (s f : ByteArray) : SplitOk s f ((splitL s.data.toList f.data.toList).map ofL) := by
  obtain ⟨ha, hg⟩ := splitL_good s.data.toList f.data.toList
  constructor
  · intro j x hx
    rw [List.getElem?_map] at hx
    obtain ⟨l, hl, rfl⟩ := Option.map_eq_some_iff.1 hx
    obtain ⟨h1, h2, h3, h4⟩ := hg l (List.mem_of_getElem? hl)
    have hd : (ofL l).data.toList = l := data_ofL l
    have hj : joinB (ofL l) f = s := by
      unfold joinB; rw [hd, h2]
    have hs := (wordB_size h3).2
    refine ⟨?_, (wordB_size (by rw [hd]; exact h1)).2⟩
    unfold joinE
    rw [hd, hj, h1, h4, decide_eq_true hs]
    rfl
  · intro j x y hx hy
    rw [List.getElem?_map] at hx hy
    obtain ⟨l, hl, rfl⟩ := Option.map_eq_some_iff.1 hx
    obtain ⟨m, hm, rfl⟩ := Option.map_eq_some_iff.1 hy
    have hlt : l < m := by
      have h1 := (List.getElem?_eq_some_iff.1 hl)
      have h2 := (List.getElem?_eq_some_iff.1 hm)
      obtain ⟨i1, e1⟩ := h1
      obtain ⟨i2, e2⟩ := h2
      rw [← e1, ← e2]
      exact (List.pairwise_iff_getElem.1 ha) j (j + 1) i1 i2 (Nat.lt_succ_self j)
    show Op.bytesLess _ _ = true
    rw [less_eq, data_ofL, data_ofL]
    simpa using hlt
/-- A word that was joined is found again. -/
theorem split_has (x f : ByteArray) (h : (Pl.wordB x.data.toList && (Pl.wordB f.data.toList && decide ((joinB x f).size ≤ 24))) = true) :
    (Pl.wordB (joinB x f).data.toList && Pl.wordB f.data.toList) = true ∧ x ∈ (splitL (joinB x f).data.toList f.data.toList).map ofL := by
  rw [Bool.and_eq_true, Bool.and_eq_true, decide_eq_true_eq] at h
  obtain ⟨h1, h2, h3⟩ := h
  have hd : (joinB x f).data.toList = Pl.join9 x.data.toList f.data.toList := by simp [joinB]
  have hw : Pl.wordB (joinB x f).data.toList = true := by
    obtain ⟨y, hy⟩ := Pl.bef_suffix x.data.toList f.data.toList
    have hje := Pl.join_eq hy
    have l1 := (Pl.wordB_ne h1).2.2
    have l2 := (Pl.wordB_ne h2).2.2
    obtain ⟨c, hc⟩ := Pl.lastL_one (Pl.wordB_ne h1).1
    have hcl : Pl.letter c = true := l1 c (by obtain ⟨z, hz⟩ := Pl.lastL_suffix x.data.toList; rw [hz, hc]; simp)
    have hla : ∀ b ∈ Pl.aft (Pl.rule x.data.toList f.data.toList) (Pl.lastL x.data.toList), Pl.letter b = true := by
      rw [hc]
      unfold Pl.aft
      intro b hb
      repeat' split at hb
      all_goals simp at hb
      all_goals first | (rcases hb with rfl | rfl <;> first | decide | exact hcl) | (subst hb; first | decide | exact hcl)
    have hlen : (joinB x f).data.toList.length = (joinB x f).size := by simp
    unfold Pl.wordB
    rw [Bool.and_eq_true, Bool.and_eq_true, decide_eq_true_eq, decide_eq_true_eq, List.all_eq_true]
    refine ⟨fun b hb => ?_, ?_, by omega⟩
    · rw [hd, hje] at hb
      rw [List.mem_append, List.mem_append] at hb
      rcases hb with (hb | hb) | hb
      · exact l1 b (by rw [hy]; exact List.mem_append_left _ hb)
      · exact hla b hb
      · exact l2 b hb
    · rw [hd, hje, List.length_append]
      have := (Pl.wordB_ne h2).1
      omega
  refine ⟨by rw [hw, h2]; rfl, ?_⟩
  refine List.mem_map.2 ⟨x.data.toList, ?_, ofL_data x⟩
  have hsuf : Lib.hasSuffix (joinB x f).data.toList f.data.toList = true := by rw [hd]; unfold Pl.join9; exact hasSuf_app _ _
  unfold splitL
  rw [hw, h2, if_pos (show (true && true) = true from rfl), if_pos hsuf, Pl.mem_sort, Pl.mem_cands]
  refine ⟨h1, ?_⟩
  obtain ⟨y, hy⟩ := (Pl.suffix_iff _ _).1 hsuf
  rw [hy, Pl.trim_app, ← hy, hd]
/-! ### THE WALK: the Go text returns true, and writes nothing that was there. -/
set_option maxRecDepth 100000 in
set_option maxHeartbeats 8000000 in
theorem walk (a0 : Option Addr) (n0 c0 : Nat) (z0 : List Int) (w : World) (hS : w.ShapedOpen Try.prog)  (w0 : IsRow .u8 w a0 n0 c0 z0) :
    Calls Try.prog 3 #[.slice a0 n0 c0] w fun e w' => e = .returned (.bool true) ∧ Below w.heap.size w w' := by
  have hnm := row_len w0
  by_cases hbig : 65536 < n0
  · have C := Lib.hid (vBig_yes a0 n0 c0 w hbig hnm)
    clear w0 hS hnm
    go_enter Try.func3, Try.ntmps3
    go_wp2_with fail
    refine C.out.mono ?_
    rintro e w1 ⟨rfl, rfl⟩
    go_wp2
    go_ret
    exact ⟨rfl, Below.refl _ _⟩
  · have C := Lib.hid (vBig_no a0 n0 c0 w (by omega))
    have HCode := Lib.hid (code_of w0 (by omega))
    have CD := Lib.hid (fun w h => drawSplitSuffix_any a0 n0 c0 w h)
    have CK := Lib.hid (fun w h => drawJoinSuffix_any a0 n0 c0 w h)
    have CL := Lib.hid (fun a b w => Less_any a b w)
    clear w0 hS hnm hbig
    go_enter Try.func3, Try.ntmps3
    go_wp2_with fail
    refine C.out.mono ?_
    rintro e w0 ⟨rfl, rfl⟩
    go_wp2_with fail
    refine (CD.out _ HCode.out).mono ?_
    rintro e w1 ⟨⟨s, f, hs, hf, rfl⟩, hb1⟩
    have HB1 := Lib.hid hb1
    have P1 := Lib.hid (fun w => SplitSuffix_any s f w (by omega) (by omega))
    have P2 := Lib.hid (fun w => specSplitSuffix_any s f w (by omega) (by omega))
    have HOk := Lib.hid (split_ok s f)
    have W1 := Lib.hid (fun w => IsWord_any s w (by unfold maxLen; omega))
    have W2 := Lib.hid (fun w => specIsWord_any s w (by unfold maxLen; omega))
    have hlen : ((splitL s.data.toList f.data.toList).map ofL).length ≤ 7 := by rw [List.length_map]; exact splitL_len _ _
    have J1 := Lib.hid (fun (x : ByteArray) (hx : x.size ≤ 24) w => JoinSuffix_any x f w (by omega) (by omega))
    obtain ⟨b, hb⟩ : ∃ b, b = (Pl.wordB s.data.toList && Pl.wordB f.data.toList) := ⟨_, rfl⟩
    obtain ⟨c, hc⟩ : ∃ c, c = Pl.wordB s.data.toList := ⟨_, rfl⟩
    rw [← hb] at P1 P2
    rw [← hc] at W1 W2
    have P1' : Hid (∀ w, Calls Try.prog 12 #[.string s, .string f] w fun e w' => (∃ v, e = .returned (.tuple #[v, .bool b]) ∧ StrsAt w' v ((splitL s.data.toList f.data.toList).map ofL)) ∧ Below w.heap.size w w') := by
      intro w
      refine (P1.out w).mono ?_
      rintro e w' ⟨⟨v, he, hv⟩, hb⟩
      exact ⟨⟨v, he, ownsRow_at (by rw [List.length_map, List.map_map]; exact hv)⟩, hb⟩
    obtain ⟨xs, hxs⟩ : ∃ xs, xs = (splitL s.data.toList f.data.toList).map ofL := ⟨_, rfl⟩
    rw [← hxs] at P1' P2 HOk hlen
    obtain ⟨n, hn⟩ : ∃ n, n = xs.length := ⟨_, rfl⟩
    rw [← hn] at hlen
    have HN := Lib.hid hn
    clear hb1 hb hc hxs hn P1
    go_wp2_with fail
    refine (P1'.out _).mono ?_
    rintro e w2 ⟨⟨v, rfl, hv⟩, hb2⟩
    have HB2 := Lib.hid (HB1.out.trans (hb2.mono HB1.out.size))
    have HV2 := Lib.hid hv
    clear hb2 hv
    go_wp2_with fail
    refine (P2.out _).mono ?_
    rintro e w3 ⟨⟨u, rfl, hu⟩, hb3⟩
    have HB3 := Lib.hid (HB2.out.trans (hb3.mono HB2.out.size))
    have HV3 := Lib.hid (HV2.out.below hb3)
    have HU3 := Lib.hid hu.at
    obtain ⟨va, vc, rfl, hvc, hvr⟩ := HV3.out
    obtain ⟨ua, uc, rfl, huc, hur⟩ := HU3.out
    have HVC : Hid (∀ wx, Below w3.heap.size w3 wx → ∀ (j : Nat) x, xs[j]? = some x → ∃ bk o, va = some ⟨bk, o, none⟩ ∧ wx.cell? ⟨bk, o + j, none⟩ = some (.string x)) := by
      intro wx hbx j x hx
      rcases hvr with rfl | ⟨bk, o, ha, hk, h⟩
      · simp at hx
      · exact ⟨bk, o, ha, (hbx.cell (p := ⟨bk, o + j, none⟩) hk).trans (h j x hx)⟩
    have HUC : Hid (∀ wx, Below w3.heap.size w3 wx → ∀ (j : Nat) x, xs[j]? = some x → ∃ bk o, ua = some ⟨bk, o, none⟩ ∧ wx.cell? ⟨bk, o + j, none⟩ = some (.string x)) := by
      intro wx hbx j x hx
      rcases hur with rfl | ⟨bk, o, ha, hk, h⟩
      · simp at hx
      · exact ⟨bk, o, ha, (hbx.cell (p := ⟨bk, o + j, none⟩) hk).trans (h j x hx)⟩
    rw [← HN.out] at hvc huc
    have HVL := Lib.hid hvc
    clear hb3 hu HV3 HU3 HV2 hvr hur
    have hnn : ((n : Int) != (n : Int)) = false := by simp
    rw [show xs.length = n from HN.out.symm]
    go_wp2_with fail
    refine (W1.out _).mono ?_
    rintro e w4 ⟨rfl, hw4⟩
    subst hw4
    go_wp2_with fail
    refine (W2.out _).mono ?_
    rintro e w5 ⟨rfl, hw5⟩
    subst hw5
    go_wp2_with fail
    go_loopw [9] (fun i wr => ∃ k : Nat, k ≤ n ∧ i = .int .i64 k ∧ Below w5.heap.size w5 wr) (fun i _ => n - (intOf i).toNat)
    case atStart => exact ⟨0, Nat.zero_le _, rfl, Below.refl _ _⟩
    case round =>
      obtain ⟨k, hk, rfl, hbel⟩ := hrel
      have HBel := Lib.hid hbel
      clear hbel
      by_cases hlt : k < n
      · obtain ⟨x, hx⟩ : ∃ x, xs[k]? = some x := ⟨_, List.getElem?_eq_getElem (by rw [← HN.out]; exact hlt)⟩
        obtain ⟨hjx, hxs⟩ := HOk.out.1 k x hx
        obtain ⟨bk, o, rfl, hck⟩ := HVC.out wr HBel.out k x hx
        have J1x := J1.out x hxs wr
        rw [hjx] at J1x
        have HJ1x := Lib.hid J1x
        have HX := Lib.hid hx
        clear hjx J1x hx
        go_wp2_with fail
        refine HJ1x.out.mono ?_
        rintro e w7 ⟨rfl, hb7⟩
        have HB7 := Lib.hid (HBel.out.trans (hb7.mono HBel.out.size))
        obtain ⟨bk', o', hva, hcv⟩ := HVC.out w7 HB7.out k x HX.out
        injection hva with hva
        injection hva with hva1 hva2
        subst hva1; subst hva2
        obtain ⟨bu, ou, rfl, hcu⟩ := HUC.out w7 HB7.out k x HX.out
        have kv := cell_regrown hcv
        have ku := cell_regrown hcu
        have hxx : (x.toList != x.toList) = false := by simp
        have hss : (s.toList != s.toList) = false := by simp
        clear hb7 hck hcv hcu HJ1x
        rcases Nat.eq_zero_or_pos k with hk0 | hk0
        · subst hk0
          simp only [Nat.add_zero] at kv ku
          go_wp2_with fail
          refine wp_region_quiet_below (by kernel_rfl) (by kernel_rfl) ?_
          repeat (go_big_quiet_step (fail))
          refine wpQuiet_nil ?_
          rintro _ ⟨⟨dq, osq⟩, rfl⟩
          have HB8 : Hid (Below w7.heap.size w7 (Go.Sort.grow (redrawn w7 dq) osq)) := below_regrown w7 dq osq
          clear kv ku
          go_wp2
          go_roundw
          case rel => exact ⟨0 + 1, by omega, by go_num, HB7.out.trans (HB8.out.mono HB7.out.size)⟩
          case measure => simp [intOf]; omega
        · obtain ⟨m, rfl⟩ : ∃ m, k = m + 1 := ⟨k - 1, by omega⟩
          obtain ⟨y, hy⟩ : ∃ y, xs[m]? = some y := ⟨_, List.getElem?_eq_getElem (by rw [← HN.out]; omega)⟩
          have hless := HOk.out.2 m y x hy HX.out
          obtain ⟨bk'', o'', hva, hcy⟩ := HVC.out w7 HB7.out m y hy
          injection hva with hva
          injection hva with hva1 hva2
          subst hva1; subst hva2
          have ky := cell_regrown hcy
          have CLq : Hid (∀ d os, Calls Try.prog 17 #[.string y, .string x] (Go.Sort.grow (redrawn w7 d) os) fun r w'' => r = .returned (.bool true) ∧ ∃ p : Regrown, w'' = Go.Sort.grow (redrawn w7 p.d) p.os) := by
            intro d os
            refine Calls.regrown_of ((CL.out y x _).mono ?_)
            rintro r w'' ⟨rfl, rfl⟩
            exact ⟨by rw [hless], Below.refl _ _⟩
          have hgt : decide (((m + 1 : Nat) : Int) > 0) = true := decide_eq_true (by omega)
          clear hy hcy hless hk0
          go_wp2_with fail
          refine wp_region_quiet_below (by kernel_rfl) (by kernel_rfl) ?_
          repeat (go_big_quiet_step (exact CLq.out _ _))
          refine wpQuiet_nil ?_
          rintro _ ⟨⟨dq, osq⟩, rfl⟩
          have HB8 : Hid (Below w7.heap.size w7 (Go.Sort.grow (redrawn w7 dq) osq)) := below_regrown w7 dq osq
          clear kv ku ky CLq
          go_wp2
          go_roundw
          case rel => exact ⟨m + 1 + 1, by omega, by go_num, HB7.out.trans (HB8.out.mono HB7.out.size)⟩
          case measure => simp [intOf]; omega
      · have HB6 := Lib.hid (HB3.out.trans (HBel.out.mono HB3.out.size))
        clear HVC HUC HOk P1' P2 W1 W2 J1
        go_wp2_with fail
        refine (CK.out _ (HCode.out.below HB6.out)).mono ?_
        rintro e w8 ⟨⟨x, f2, hx, hf2, rfl⟩, hb8⟩
        have HB8 := Lib.hid (HB6.out.trans (hb8.mono HB6.out.size))
        have K1 := Lib.hid (fun w => JoinSuffix_any x f2 w (by omega) (by omega))
        have K2 := Lib.hid (fun w => specJoinSuffix_any x f2 w (by omega) (by omega))
        unfold joinE at K1 K2
        clear hb8
        cases hc : (Pl.wordB x.data.toList && (Pl.wordB f2.data.toList && decide ((joinB x f2).size ≤ 24)))
        · rw [hc, if_neg (by decide)] at K1 K2
          clear hc
          go_wp2_with fail
          refine (K1.out _).mono ?_
          rintro e w9 ⟨rfl, hb9⟩
          have HB9 := Lib.hid (HB8.out.trans (hb9.mono HB8.out.size))
          clear hb9
          go_wp2_with fail
          refine (K2.out _).mono ?_
          rintro e w10 ⟨rfl, hw10⟩
          subst hw10
          go_wp2
          go_ret
          exact ⟨rfl, HB9.out⟩
        · rw [hc, if_pos rfl] at K1 K2
          obtain ⟨hww, hmem⟩ := split_has x f2 hc
          have hJs : (joinB x f2).size ≤ 24 := by
            rw [Bool.and_eq_true, Bool.and_eq_true, decide_eq_true_eq] at hc
            exact hc.2.2
          obtain ⟨J, hJ⟩ : ∃ J, J = joinB x f2 := ⟨_, rfl⟩
          rw [← hJ] at K1 K2 hww hmem hJs
          have Q1 := Lib.hid (fun w => SplitSuffix_any J f2 w (by omega) (by omega))
          rw [hww] at Q1
          have Q1' : Hid (∀ w, Calls Try.prog 12 #[.string J, .string f2] w fun e w' => (∃ v, e = .returned (.tuple #[v, .bool true]) ∧ StrsAt w' v ((splitL J.data.toList f2.data.toList).map ofL)) ∧ Below w.heap.size w w') := by
            intro w
            refine (Q1.out w).mono ?_
            rintro e w' ⟨⟨v, he, hv⟩, hb⟩
            exact ⟨⟨v, he, ownsRow_at (by rw [List.length_map, List.map_map]; exact hv)⟩, hb⟩
          have hl2 : ((splitL J.data.toList f2.data.toList).map ofL).length ≤ 7 := by rw [List.length_map]; exact splitL_len _ _
          obtain ⟨ys, hys⟩ : ∃ ys, ys = (splitL J.data.toList f2.data.toList).map ofL := ⟨_, rfl⟩
          rw [← hys] at Q1' hl2 hmem
          obtain ⟨m, hm⟩ : ∃ m, m = ys.length := ⟨_, rfl⟩
          rw [← hm] at hl2
          have HM := Lib.hid hm
          have HMem := Lib.hid hmem
          have hJJ : (J.toList != J.toList) = false := by simp
          clear hc hww hmem hJ hys hm Q1
          go_wp2_with fail
          refine (K1.out _).mono ?_
          rintro e w9 ⟨rfl, hb9⟩
          have HB9 := Lib.hid (HB8.out.trans (hb9.mono HB8.out.size))
          clear hb9
          go_wp2_with fail
          refine (K2.out _).mono ?_
          rintro e w10 ⟨rfl, hw10⟩
          subst hw10
          go_wp2_with fail
          refine (Q1'.out _).mono ?_
          rintro e w11 ⟨⟨v2, rfl, hv2⟩, hb11⟩
          have HB11 := Lib.hid (HB9.out.trans (hb11.mono HB9.out.size))
          obtain ⟨qa, qc, rfl, hqc, hqr⟩ := hv2
          have HQC : Hid (∀ wx, Below w11.heap.size w11 wx → ∀ (j : Nat) x, ys[j]? = some x → ∃ bk o, qa = some ⟨bk, o, none⟩ ∧ wx.cell? ⟨bk, o + j, none⟩ = some (.string x)) := by
            intro wx hbx j x hx
            rcases hqr with rfl | ⟨bk, o, ha, hk, h⟩
            · simp at hx
            · exact ⟨bk, o, ha, (hbx.cell (p := ⟨bk, o + j, none⟩) hk).trans (h j x hx)⟩
          rw [← HM.out] at hqc
          rw [show ys.length = m from HM.out.symm]
          clear hb11 hqr
          go_wp2_with fail
          go_loopw [20, 21] (fun b i wr => ∃ (k : Nat) (d : Bool), k ≤ m ∧ i = .int .i64 k ∧ b = .bool d ∧ Hid (d = (ys.take k).any fun y => y.toList == x.toList) ∧ Below w11.heap.size w11 wr) (fun _ i _ => m - (intOf i).toNat)
          case atStart => exact ⟨0, false, Nat.zero_le _, rfl, rfl, Lib.hid (by simp), Below.refl _ _⟩
          case round =>
            obtain ⟨k, d, hk, rfl, rfl, HD, hbel⟩ := hrel
            have HBel2 := Lib.hid hbel
            clear hbel
            by_cases hlt : k < m
            · obtain ⟨y, hy⟩ : ∃ y, ys[k]? = some y := ⟨_, List.getElem?_eq_getElem (by rw [← HM.out]; exact hlt)⟩
              obtain ⟨bk, o, rfl, hck⟩ := HQC.out _ HBel2.out k y hy
              have HNx : Hid (((ys.take (k + 1)).any fun y => y.toList == x.toList) = (d || (y.toList == x.toList))) := by
                show _ = _
                rw [List.take_add_one, hy, HD.out, List.any_append]; simp
              obtain ⟨q, hq⟩ : ∃ q, (y.toList == x.toList) = q := ⟨_, rfl⟩
              rw [hq] at HNx
              clear hy
              cases d
              · have HNx' : Hid (q = (ys.take (k + 1)).any fun y => y.toList == x.toList) := Lib.hid (by rw [HNx.out]; rfl)
                clear HNx HD
                go_wp2
                go_roundw
                case rel => exact ⟨k + 1, q, by omega, by go_num, rfl, HNx', HBel2.out⟩
                case measure => simp [intOf]; omega
              · have HNx' : Hid (true = (ys.take (k + 1)).any fun y => y.toList == x.toList) := Lib.hid (by rw [HNx.out]; rfl)
                clear HNx HD
                go_wp2
                go_roundw
                case rel => exact ⟨k + 1, true, by omega, by go_num, rfl, HNx', HBel2.out⟩
                case measure => simp [intOf]; omega
            · have hd : d = true := by
                rw [HD.out, List.take_of_length_le (by rw [← HM.out]; omega), List.any_eq_true]
                exact ⟨x, HMem.out, by simp⟩
              subst hd
              clear HD
              go_wp2
              go_ret
              exact ⟨rfl, HB11.out.trans (HBel2.out.mono HB11.out.size)⟩

/-! ### THE ROW's STEP -/
set_option maxRecDepth 100000 in
theorem contract (H : Type) (enc : TypeId × Value → H) (W : World) (base : Nat) (args : Array Value) (ds gs : List (DataW H)) (before : List MemPlace)
    (hval : ∀ (j : Nat) t v, Try.f3.params[j]? = some t → args[j]? = some v → Value.okWide Try.prog W .any base t v)
    (hW : DataW.Whole enc Try.prog Try.f3.params.toList Rows.fnSpellingSpec.vars false W args.toList ds gs before) (hL : laidMetH Try.prog Rows.fnSpellingRow.laid W) (hS : W.ShapedOpen Try.prog) :
    Calls Try.prog 3 args W fun e W' => ∃ v, e = .returned v ∧ Rows.fnSpellingSpec.post enc Try.prog Try.f3 false true false false W args v W' := by
  have hW' := hW
  obtain ⟨p, q, hA0, hV, rfl, hfz, hnd⟩ := hW
  have hA : DataW.TrodAll enc Try.prog W 0 (fun _ => true) true Try.f3.params.toList args.toList ds p := hA0
  rw [Try.params3] at hA hval
  obtain ⟨v0, vs0, d0, ds0, p0, q0, hargs, rfl, rfl, h0, r0⟩ := trodAll_cons hA
  obtain ⟨rfl, rfl, rfl⟩ := trodAll_nil r0
  obtain rfl : args = #[v0] := by cases args; simp_all
  obtain ⟨rfl, rfl⟩ := trodVars_none hV
  have k0 := h0
  have lt0 : ∀ x ∈ p0, x.block < W.heap.size := by obtain ⟨m, hm⟩ := k0; exact DataW.trod_lt m _ _ _ hm
  obtain ⟨a0, n0, c0, rfl⟩ := okWide_slice Try.underlying22 (hval 0 22 v0 rfl rfl)
  obtain ⟨z0, w0⟩ : ∃ zs, IsRow .u8 W a0 n0 c0 zs := by
    obtain ⟨fuel, hf⟩ := h0
    rcases open_ints Try.underlying22 Try.underlying5 (by kernel_rfl) hf with ⟨hcs, _⟩ | ⟨x, l, c, zs, hcs, _, hl, hm, hz, _, hcell, hwz⟩
    · simp [Value.cells] at hcs
      obtain ⟨rfl, rfl, rfl⟩ := hcs
      exact ⟨[], .inl ⟨rfl, rfl, rfl, rfl⟩⟩
    · simp [Value.cells] at hcs
      obtain ⟨rfl, rfl, rfl⟩ := hcs
      exact ⟨zs, .inr ⟨_, rfl, hl, hm, by simpa using hz, hcell, hwz⟩⟩
  clear hA0 hval
  refine (walk a0 n0 c0 z0 W hS  w0).mono fun e W' ⟨he, bel⟩ => ?_
  subst he
  exact ⟨_, rfl, _, _, _, [], _, [], hW', trodAll_mk1 (shut_bool Try.underlying4 _), (trodAll_cons_mk (Below.trod laidOut (by kernel_rfl) (of_decide_eq_true (by kernel_rfl)) k0 bel lt0) trodAll_mk0), rfl, bel.frame _, fun h => by cases h⟩

theorem reads (os : Os) {H : Type} (enc : TypeId × Value → H) : ∃ places, DataW.whole enc Try.prog ((World.holding Try.prog os ⟨#[], #[], []⟩).forCall (fun _ _ => 0) ⟨#[], #[.slice none 0 0], []⟩).memory Try.f3.params.toList Rows.fnSpellingSpec.vars false (#[.slice none 0 0] : Array Value).toList 8 = some ([.nil], [], places) :=
  ⟨[], by kernel_rfl⟩

set_option maxRecDepth 100000 in
theorem lifted (os : Os) (started : os.Started) (H : Type) (enc : TypeId × Value → H) (F : Stop.Interp) :
    ReturnsInHanded {} Try.checked os 3 .any ((OpenSpec.ofChange Rows.fnSpellingSpec).preRow enc Try.prog Try.f3 Rows.fnSpellingRow.domain false Rows.fnSpellingRow.laid) (((OpenSpec.ofChange Rows.fnSpellingSpec).at F).post enc Try.prog Try.f3 false true false false) := by
  obtain ⟨places, hx⟩ := reads os enc
  refine returnsInHanded_of_row (C := Try.checked) (s := OpenSpec.ofChange Rows.fnSpellingSpec) own started (by kernel_rfl) Try.func3
    (witness_row_atRef (enc := enc) (C := Try.checked) false (World.holding Try.prog os ⟨#[], #[], []⟩) #[.slice none 0 0] rfl (by kernel_rfl) (by kernel_rfl) (by kernel_rfl)
      (OpenSpec.preRow_of_cond 8 hx (by kernel_rfl) (fun k hk => by cases hk) (by kernel_rfl) ⟨[], rfl, List.nodup_nil, fun b off h => by cases h⟩)) ?_
  intro W base args ds gs before hval hW _ _ _ hL hS _
  exact contract H enc W base args ds gs before hval hW hL hS

theorem said : Rows.FnSpellingSaid :=
  OpenClaim.holds_of_cond 3 Try.f3 rfl rfl rfl rfl rfl rfl rfl ⟨rfl, rfl, rfl, rfl, rfl⟩ rfl rfl rfl rfl rfl (by kernel_rfl) Try.func3 (by kernel_rfl)
    (of_decide_eq_true (by kernel_rfl)) (by unfold Func.isWrapper; first | (rw [if_pos (by decide +kernel)]; kernel_rfl) | (rw [if_neg (by decide +kernel)]; exact ⟨rfl, rfl⟩))
    (fun os started H enc _ F => by rw [OpenClaim.pre_eq_preRow]; exact lifted os started H enc F)

theorem proved : Rows.FnSpellingSaid := said
#print axioms proved
end Go.Proofs.Ytagbffnabjngfaa.fnSpelling
