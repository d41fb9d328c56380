/-
  laws.FnStrings returns true whatever the code: FormatInt and ParseInt are inverse, AppendChecksum and VerifyChecksum are inverse, and any single changed byte of a checksummed string is detected, at all that the code draws. Conditions: none but the row's own; the library's listed tables are tied to the program's text.
-/
import Derived.Test.YtbpjlhdhlcmajaaDoorRows
import Derived.Test.YtbpjlhdhlcmajaaDoorCards
import Derived.Test.YtbpjlhdhlcmajaaDoorTie
import Derived.WalkKit
import Derived.ProofKit
import Derived.OpenShut
import Derived.ShutString
import Derived.ChangeOld
import Derived.Below
import Derived.SliceStrings
import Derived.JoinedCond
import Derived.Deep.DeepHandedRow
import Derived.Deep.DeepWitnessRowRef
import Derived.Lib.Hide
import Derived.LaidMore
import Derived.Lib.LaidTab
import Derived.Stop.LaidErr
import Derived.Test.YtbpjlhdhlcmajaaDoorParse
import Derived.Test.YtbpjlhdhlcmajaaDoorSeal
import Derived.Test.YtbpjlhdhlcmajaaDoorDraw
import Derived.Test.YtbpjlhdhlcmajaaDoorLess
import Derived.Test.YtbpjlhdhlcmajaaDoorPlainFlip
namespace Go.Proofs.YtbpjlhdhlcmajaaDoor.fnStrings
open Go.ChangeShapes Go.WideShapes Go.ChangeAt Go.RowKit
open Go.ChangeMaps (open_string shut_string)
set_option linter.unusedVariables false

theorem own : ownKnob Tryd.prog.godebug = none := by kernel_rfl
theorem laidOut : laidOutB Tryd.prog = true := by kernel_rfl

/-- A slice of integers that came in. -/
def IsRow (k : IntKind) (w : World) (a : Option Addr) (len cap : Nat) (zs : List Int) : Prop :=
  (a = none ∧ len = 0 ∧ cap = 0 ∧ zs = []) ∨
  ∃ x, a = some x ∧ len ≤ cap ∧ cap ≤ maxLen ∧ zs.length = cap ∧ (∀ i, i < zs.length → w.cell? (x.add i) = some (.int k (zs.getD i 0))) ∧ ∀ n ∈ zs, (Lit.int k n).wf = true

theorem gN0 : Tryd.prog.globalNamed "math/bits.deBruijn32tab" = some 2 := by kernel_rfl
theorem gT0 : (Tryd.prog.globals[2]?).map (·.type) = some 85 := by kernel_rfl
def zs0 : List Int := [0, 1, 28, 2, 29, 14, 24, 3, 30, 22, 20, 15, 25, 17, 4, 8, 31, 27, 13, 23, 21, 19, 16, 7, 26, 12, 18, 6, 11, 5, 10, 9]
/-- WHAT THE ROW's LIST GIVES: the table's cells. -/
theorem table0 {W : World} (h : laidMet Tryd.prog Rows.fnStringsRow.laid W) : Lib.TabIs Tryd.prog W "math/bits.deBruijn32tab" .u8 zs0 :=
  Lib.tabIs_of_head gN0 gT0 Tryd.underlying85 Tryd.underlying5 (by kernel_rfl) (by kernel_rfl) (show laidMet Tryd.prog (("math/bits.deBruijn32tab", Lib.tabData .u8 zs0) :: _) W from h)

theorem gN1 : Tryd.prog.globalNamed "math/bits.deBruijn64tab" = some 3 := by kernel_rfl
theorem gT1 : (Tryd.prog.globals[3]?).map (·.type) = some 86 := by kernel_rfl
def zs1 : List Int := [0, 1, 56, 2, 57, 49, 28, 3, 61, 58, 42, 50, 38, 29, 17, 4, 62, 47, 59, 36, 45, 43, 51, 22, 53, 39, 33, 30, 24, 18, 12, 5, 63, 55, 48, 27, 60, 41, 37, 16, 46, 35, 44, 21, 52, 32, 23, 11, 54, 26, 40, 15, 34, 20, 31, 10, 25, 14, 19, 9, 13, 8, 7, 6]
/-- WHAT THE ROW's LIST GIVES: the table's cells. -/
theorem table1 {W : World} (h : laidMet Tryd.prog Rows.fnStringsRow.laid W) : Lib.TabIs Tryd.prog W "math/bits.deBruijn64tab" .u8 zs1 :=
  Lib.tabIs_of_head gN1 gT1 Tryd.underlying86 Tryd.underlying5 (by kernel_rfl) (by kernel_rfl) (show laidMet Tryd.prog (("math/bits.deBruijn64tab", Lib.tabData .u8 zs1) :: _) W from h.tail)

theorem gN2 : Tryd.prog.globalNamed "internal/strconv.uint64pow10" = some 1 := by kernel_rfl
theorem gT2 : (Tryd.prog.globals[1]?).map (·.type) = some 75 := by kernel_rfl
def zs2 : List Int := [1, 10, 100, 1000, 10000, 100000, 1000000, 10000000, 100000000, 1000000000, 10000000000, 100000000000, 1000000000000, 10000000000000, 100000000000000, 1000000000000000, 10000000000000000, 100000000000000000, 1000000000000000000, 10000000000000000000]
/-- WHAT THE ROW's LIST GIVES: the table's cells. -/
theorem table2 {W : World} (h : laidMet Tryd.prog Rows.fnStringsRow.laid W) : Lib.TabIs Tryd.prog W "internal/strconv.uint64pow10" .u64 zs2 :=
  Lib.tabIs_of_head gN2 gT2 Tryd.underlying75 Tryd.underlying35 (by kernel_rfl) (by kernel_rfl) (show laidMet Tryd.prog (("internal/strconv.uint64pow10", Lib.tabData .u64 zs2) :: _) W from h.tail.tail)

theorem code_of {w : World} {a : Option Addr} {n c : Nat} {z : List Int} (h : IsRow .u8 w a n c z) (hn : n ≤ 1000000) : CodeAt w a n := by
  refine ⟨hn, fun h0 => ?_⟩
  rcases h with ⟨rfl, rfl, rfl, rfl⟩ | ⟨x, rfl, hl, hm, hz, hcell, hwz⟩
  · omega
  · obtain ⟨b, o, spot⟩ := x
    have h1 := hcell 0 (by omega)
    have hspot : spot = none := by simpa [Addr.add] using World.cell?_spot h1
    subst hspot
    refine ⟨b, o, rfl, ?_, fun i hi => ?_⟩
    · have : (w.cell? ⟨b, o, none⟩).isSome := by have := h1; simp [Addr.add] at this; rw [this]; rfl
      rcases Nat.lt_or_ge b w.heap.size with h' | h'
      · exact h'
      · simp [World.cell?, Array.getElem?_eq_none h'] at this
    · have h2 := hcell i (by omega)
      have h3 := bounds_u8 (hwz (z.getD i 0) (by rw [List.getD_eq_getElem?_getD, List.getElem?_eq_getElem (by omega)]; exact List.getElem_mem _))
      refine ⟨z.getD i 0, h3.1, h3.2, ?_⟩
      by_cases hi0 : i = 0
      · subst hi0; simpa [Addr.add] using h2
      · simpa [Addr.add, hi0] using h2
theorem row_len {w : World} {a : Option Addr} {n c : Nat} {z : List Int} (h : IsRow .u8 w a n c z) : n ≤ maxLen := by
  rcases h with ⟨_, rfl, _, _⟩ | ⟨x, _, hl, hm, _⟩
  · exact Nat.zero_le _
  · omega

/-- What the law asks of FormatInt. -/
theorem format_facts (n : Int) : ∃ (S : ByteArray) (ok : Bool) (p : Int) (th : Bool), (ok = true → p = n ∧ th = true) ∧
    (∀ w, Pow w → Calls Tryd.prog 10 #[.int .i64 n] w fun e w' => e = .returned (.tuple #[.string S, .bool ok]) ∧ Below w.heap.size w w') ∧
    (∀ w, Calls Tryd.prog 11 #[.int .i64 n] w fun e w' => e = .returned (.tuple #[.string S, .bool ok]) ∧ Below w.heap.size w w') ∧
    (∀ w, Pow w → Calls Tryd.prog 13 #[.string S] w fun e w' => e = .returned (.tuple #[.int .i64 p, .bool th]) ∧ Below w.heap.size w w') := by
  by_cases h : -999999 ≤ n ∧ n ≤ 999999
  · have hsz : (⟨(Lib.itoa n).toArray⟩ : ByteArray).size ≤ maxLen := by
      show (Lib.itoa n).toArray.size ≤ maxLen
      rw [List.size_toArray]
      unfold maxLen Lib.itoa
      split
      · rw [List.length_cons, Lib.decDigits_length]; have := nDigits_le n.natAbs; omega
      · rw [Lib.decDigits_length]; have := nDigits_le n.toNat; omega
    exact ⟨_, true, n, true, fun _ => ⟨rfl, rfl⟩, fun w hT => FormatInt_yes n h.1 h.2 w hT, fun w => specFormatInt_yes n h.1 h.2 w, fun w hT => ParseInt_yes _ n h.1 h.2 (by simp) w hsz hT⟩
  · have h' : n < -999999 ∨ 999999 < n := by omega
    refine ⟨⟨#[]⟩, false, 0, false, fun e => (by cases e), fun w _ => (FormatInt_no n h' w).mono fun e w' ⟨he, hw⟩ => ⟨he, hw ▸ Below.refl _ _⟩, fun w => (specFormatInt_no n h' w).mono fun e w' ⟨he, hw⟩ => ⟨he, hw ▸ Below.refl _ _⟩, fun w hT => ParseInt_no _ (fun m _ _ hm => Pl.itoa_ne_nil m (by simpa using hm)) w (by decide) hT⟩
/-- What the law asks of ParseInt. -/
theorem parse_facts (t : ByteArray) (ht : t.size ≤ 4100) : ∃ (p : Int) (th : Bool),
    (∀ w, Pow w → Calls Tryd.prog 13 #[.string t] w fun e w' => e = .returned (.tuple #[.int .i64 p, .bool th]) ∧ Below w.heap.size w w') ∧
    (∀ w, Calls Tryd.prog 14 #[.string t] w fun e w' => e = .returned (.tuple #[.int .i64 p, .bool th]) ∧ Below w.heap.size w w') := by
  have hsz : t.size ≤ maxLen := by unfold maxLen; omega
  by_cases h : ∃ n : Int, -999999 ≤ n ∧ n ≤ 999999 ∧ Lib.itoa n = t.data.toList
  · obtain ⟨n, h0, h1, hn⟩ := h
    exact ⟨n, true, fun w hT => ParseInt_yes t n h0 h1 hn w hsz hT, fun w => specParseInt_yes t n h0 h1 hn w hsz⟩
  · have hno : Pl.NoNum t.data.toList := fun n h0 h1 hn => h ⟨n, h0, h1, hn⟩
    exact ⟨0, false, fun w hT => ParseInt_no t hno w hsz hT, fun w => specParseInt_no t hno w hsz⟩
/-- '[]byte(y)': new memory that holds y's bytes. -/
theorem bytes_of (y : ByteArray) (w : World) : ∃ (C : Nat) (w1 : World), (convert 9 22 (.string y)).run Tryd.prog w = .ok (.slice (some ⟨w.heap.size, 0, none⟩) y.size C) w1 ∧ y.size ≤ C ∧
    (∀ j (h : j < y.size), w1.cell? ⟨w.heap.size, j, none⟩ = some (.int .u8 ((y[j]'h).toNat : Int)) ∧ w1.frozen? ⟨w.heap.size, j, none⟩ = false) ∧ Below w.heap.size w w1 ∧ w.heap.size < w1.heap.size := by
  have hz : ∀ C : Nat, y.size ≤ (bytesRow y C).size := fun C => by
    unfold bytesRow; rw [Array.size_append, Array.size_map]; exact Nat.le_add_right _ _
  refine ⟨_, _, run_bytes_of_string w _ _ _ y Tryd.underlying9 Tryd.underlying22 Tryd.underlying5, grownCap_ge _ _ _ _, fun j h => ⟨?_, ?_⟩, (Below.refl _ w).drew.alloc (Nat.le_refl _) _, ?_⟩
  · exact (World.cell?_alloc_mark w.drew _ _ _ j).trans (bytesRow_at y _ j h)
  · refine (World.frozen?_alloc_mark w.drew _ _ _ _ j).trans ?_
    have := hz (grownCap w y.size 0 5)
    simp; omega
  · show w.heap.size < (w.heap.push _).size
    rw [Array.size_push]; omega
/-- The byte that is written differs from the one that was there. -/
theorem xor_val (c : UInt8) (q : Nat) : ∃ d : UInt8, bits .xor .u8 (c.toNat : Int) (IntKind.u8.wrap (IntKind.i64.wrap (1 + (q : Int).tmod 255))) = (d.toNat : Int) ∧ c ≠ d := by
  have hlt : q % 255 < 255 := Nat.mod_lt _ (by omega)
  have h1 : (1 + (q : Int).tmod 255) = ((1 + q % 255 : Nat) : Int) := by
    have : (q : Int).tmod 255 = ((q % 255 : Nat) : Int) := rfl
    rw [this]; omega
  rw [h1, IntWalk.i64_in _ (by omega), IntWalk.u8_in _ (by omega)]
  have hc := c.toNat_lt
  rw [u8_xor_nat _ _ (by omega) (by omega)]
  obtain ⟨m, hm⟩ : ∃ m : UInt8, m.toNat = 1 + q % 255 := ⟨UInt8.ofNat (1 + q % 255), by simp; omega⟩
  refine ⟨c ^^^ m, by rw [UInt8.toNat_xor, hm], fun e => Pl.xor_ne c m ?_ e.symm⟩
  rintro rfl
  simp at hm
  omega
/-- The world in which one byte has been written, and 'string(b)' there. -/
theorem flipped (y : ByteArray) (B C k : Nat) (d : UInt8) (w : World) (hk : k < y.size) (hcell : ∀ j (h : j < y.size), w.cell? ⟨B, j, none⟩ = some (.int .u8 ((y[j]'h).toNat : Int))) :
    (convert 22 9 (.slice (some ⟨B, 0, none⟩) y.size C)).run Tryd.prog ((w.setCell ⟨B, k, none⟩ (.int .u8 (d.toNat : Int))).drew) = .ok (.string ⟨(y.data.toList.set k d).toArray⟩) ((w.setCell ⟨B, k, none⟩ (.int .u8 (d.toNat : Int))).drew) := by
  have hc := run_convert_bytes_back (P := Tryd.prog) ((w.setCell ⟨B, k, none⟩ (.int .u8 (d.toNat : Int))).drew) 22 9 5 ⟨B, 0, none⟩ C (y.data.toList.set k d) Tryd.underlying22 Tryd.underlying5 Tryd.underlying9 (fun j hj => by
    have hj' : j < y.size := by rw [List.length_set, Pl.data_len] at hj; exact hj
    have e : ((w.setCell ⟨B, k, none⟩ (.int .u8 (d.toNat : Int))).drew).cell? ⟨B, j, none⟩ = some (.int .u8 (((y.data.toList.set k d)[j]'hj).toNat : Int)) := by
      show (w.setCell ⟨B, k, none⟩ (.int .u8 (d.toNat : Int))).cell? ⟨B, j, none⟩ = _
      by_cases hjk : k = j
      · subst hjk
        rw [World.cell?_setCell_same _ _ _ (hcell k hk), List.getElem_set_self]
      · rw [World.cell?_setCell_other _ _ _ _ (by intro e; injection e; omega), List.getElem_set_ne hjk, hcell j hj']
        rfl
    by_cases hj0 : j = 0
    · subst hj0; simpa [Addr.add] using e
    · simpa [Addr.add, hj0] using e)
  rw [List.length_set, Pl.data_len] at hc
  exact hc
/-! ### THE WALK: the Go text returns true, and writes nothing that was there. -/
set_option maxRecDepth 100000 in
set_option maxHeartbeats 1000000 in
theorem walk (a0 : Option Addr) (n0 c0 : Nat) (z0 : List Int) (w : World) (hS : w.ShapedOpen Tryd.prog) (hT0 : Lib.TabIs Tryd.prog w "math/bits.deBruijn32tab" .u8 zs0) (hT1 : Lib.TabIs Tryd.prog w "math/bits.deBruijn64tab" .u8 zs1) (hT2 : Lib.TabIs Tryd.prog w "internal/strconv.uint64pow10" .u64 zs2) (w0 : IsRow .u8 w a0 n0 c0 z0) :
    Calls Tryd.prog 3 #[.slice a0 n0 c0] w fun e w' => e = .returned (.bool true) ∧ Below w.heap.size w w' := by
  have hnm := row_len w0
  by_cases hbig : 65536 < n0
  · have C := Lib.hid (vBig_yes a0 n0 c0 w hbig hnm)
    clear w0 hS hnm hT0 hT1 hT2
    go_enter Tryd.func3, Tryd.ntmps3
    go_wp2_with fail
    refine C.out.mono ?_
    rintro e w1 ⟨rfl, rfl⟩
    go_wp2
    go_ret
    exact ⟨rfl, Below.refl _ _⟩
  · have C := Lib.hid (vBig_no a0 n0 c0 w (by omega))
    have HCode := Lib.hid (code_of w0 (by omega))
    have HT : Hid (Pow w) := hT2
    have HM := Lib.hid (maxAt hS)
    have CF := Lib.hid (fun w h => drawFormat_any a0 n0 c0 w h)
    have CP := Lib.hid (fun w h => drawParse_any a0 n0 c0 w h)
    have CA := Lib.hid (fun w h => drawAppend_any a0 n0 c0 w h)
    have CV := Lib.hid (fun i w h hi => vAt_any a0 n0 c0 i w h hi (by omega))
    clear w0 hS hnm hbig hT0 hT1 hT2
    go_enter Tryd.func3, Tryd.ntmps3
    go_wp2_with fail
    refine C.out.mono ?_
    rintro e w0 ⟨rfl, rfl⟩
    go_wp2_with fail
    refine (CF.out _ HCode.out).mono ?_
    rintro e w1 ⟨⟨n, n0', n1', rfl⟩, hb1⟩
    have HB1 := Lib.hid hb1
    clear hb1
    obtain ⟨S, ok, p, th, hfacts, hF, hFs, hPS⟩ := format_facts n
    have HFacts := Lib.hid hfacts
    have HF := Lib.hid hF
    have HFs := Lib.hid hFs
    have HPS := Lib.hid hPS
    clear hfacts hF hFs hPS
    go_wp2_with fail
    refine (HF.out _ (HT.out.below HB1.out)).mono ?_
    rintro e w2 ⟨rfl, hb2⟩
    have HB2 := Lib.hid (HB1.out.trans (hb2.mono HB1.out.size))
    clear hb2
    go_wp2_with fail
    refine (HFs.out _).mono ?_
    rintro e w3 ⟨rfl, hb3⟩
    have HB3 := Lib.hid (HB2.out.trans (hb3.mono HB2.out.size))
    clear hb3
    go_wp2_with fail
    refine (CP.out _ (HCode.out.below HB3.out)).mono ?_
    rintro e w4 ⟨⟨t, ht, rfl⟩, hb4⟩
    have HB4 := Lib.hid (HB3.out.trans (hb4.mono HB3.out.size))
    clear hb4
    obtain ⟨m, fine, hP, hPs⟩ := parse_facts t ht
    have HP := Lib.hid hP
    have HPs := Lib.hid hPs
    clear hP hPs
    go_wp2_with fail
    refine (HP.out _ (HT.out.below HB4.out)).mono ?_
    rintro e w5 ⟨rfl, hb5⟩
    have HB5 := Lib.hid (HB4.out.trans (hb5.mono HB4.out.size))
    clear hb5
    go_wp2_with fail
    refine (HPs.out _).mono ?_
    rintro e w6 ⟨rfl, hb6⟩
    have HB6 := Lib.hid (HB5.out.trans (hb6.mono HB5.out.size))
    clear hb6
    go_wp2_with fail
    refine (CA.out _ (HCode.out.below HB6.out)).mono ?_
    rintro e w7 ⟨⟨x, hx, rfl⟩, hb7⟩
    have HB7 := Lib.hid (HB6.out.trans (hb7.mono HB6.out.size))
    clear hb7
    obtain ⟨J, b, hJ⟩ := seals_ex x
    have HJ := Lib.hid hJ
    have HAp := Lib.hid (fun w h => AppendChecksum_any x J b hJ w (by unfold maxLen; omega) h)
    have HAs := Lib.hid (fun w => specAppend_any x J b hJ w (by omega))
    clear hJ
    go_wp2_with fail
    refine (HAp.out _ (HT.out.below HB7.out)).mono ?_
    rintro e w8 ⟨rfl, hb8⟩
    have HB8 := Lib.hid (HB7.out.trans (hb8.mono HB7.out.size))
    clear hb8
    go_wp2_with fail
    refine (HAs.out _).mono ?_
    rintro e w9 ⟨rfl, hb9⟩
    have HB9 := Lib.hid (HB8.out.trans (hb9.mono HB8.out.size))
    clear hb9
    go_wp2_with fail
    refine (HPS.out _ (HT.out.below HB9.out)).mono ?_
    rintro e w10 ⟨rfl, hb10⟩
    have HB10 := Lib.hid (HB9.out.trans (hb10.mono HB9.out.size))
    clear hb10
    have HV := Lib.hid (fun (s J : ByteArray) (b : Bool) (hJ : Opened s J b) (w : World) (hs : s.size ≤ 2097152) (hT : Pow w) (hM : MaxAt w) => VerifyChecksum_any s J b hJ w hs hT hM)
    have HOK : Hid (ok = false ∨ (ok = true ∧ p = n ∧ th = true)) := by
      cases ok
      · exact Or.inl rfl
      · exact Or.inr ⟨rfl, HFacts.out rfl⟩
    clear HFacts
    rcases HOK.out with rfl | ⟨rfl, rfl, rfl⟩
    all_goals
      cases b
      · obtain rfl : J = ⟨#[]⟩ := by
          rcases HJ.out with ⟨_, _, h⟩ | ⟨_, h, _⟩
          · cases h
          · exact h
        go_wp2
        go_ret
        exact ⟨rfl, HB10.out⟩
      · obtain ⟨hok, hJe⟩ : Pl.SealOk x ∧ J = sealB x := by
          rcases HJ.out with ⟨h1, h2, _⟩ | ⟨_, _, h⟩
          · exact ⟨h1, h2⟩
          · cases h
        have hJl : J.data.toList = Pl.sealT x.data.toList := by rw [hJe]; rfl
        have hop := Pl.opens_seal x J hok hJl
        have HO : Hid (Opened J x true) := Or.inl ⟨hop.1, by rw [hop.2], rfl⟩
        have hJs : J.size ≤ 4000 := hop.1.2
        have hJ0 : 0 < J.size := by rw [hJe, sealB_size]; unfold Pl.sealT; rw [List.length_append, List.length_cons]; omega
        have HOk := Lib.hid hok
        have HJl := Lib.hid hJl
        clear hok hJe hJl hop HJ HAp HAs HF HFs HP HPs HPS HOK CF CP CA
        go_wp2_with fail
        refine (HV.out J x true HO.out _ (by omega) (HT.out.below HB10.out) (HM.out.below HB10.out)).mono ?_
        rintro e w11 ⟨rfl, hb11⟩
        have HB11 := Lib.hid (HB10.out.trans (hb11.mono HB10.out.size))
        clear hb11 HB10
        obtain ⟨cap, w12, hcv, hC, hcell, hb12, hlt12⟩ := bytes_of J w11
        have HB12 := Lib.hid (HB11.out.trans (hb12.mono HB11.out.size))
        clear hb12
        have HCell := Lib.hid hcell
        clear hcell
        go_wp2_with fail
        refine (CV.out 9 _ (HCode.out.below HB12.out) (by omega)).mono ?_
        rintro e w13 ⟨⟨r, hr, rfl⟩, rfl⟩
        have hJz : (J.size : Int) ≠ 0 := by omega
        go_wp2_with fail
        obtain ⟨k, hk, hkl⟩ : ∃ k : Nat, (r : Int) % (J.size : Int) = (k : Int) ∧ k < J.size := ⟨r % J.size, by rw [Int.natCast_emod], Nat.mod_lt _ hJ0⟩
        rw [hk]
        obtain ⟨hce, hfr⟩ := HCell.out k hkl
        obtain ⟨c, hc⟩ : ∃ c : UInt8, c = J[k] := ⟨_, rfl⟩
        rw [← hc] at hce
        have HCk := Lib.hid hc
        have HCode' := Lib.hid (HCode.out.below HB12.out)
        clear hk hc hcv
        go_region_with (go_at_call 19; refine (CV.out 10 _ (HCode'.out.below ((Below.refl _ _).drew)) (by omega)).mono ?_; rintro e w14 ⟨⟨q, hq, rfl⟩, rfl⟩)
        all_goals
          obtain ⟨d, hd, hcd⟩ := xor_val c q
          rw [hd]
          have hcv2 := flipped J w11.heap.size cap k d w12 hkl (fun j h => (HCell.out j h).1)
          have HB15 : Hid (Below w.heap.size w ((w12.setCell ⟨w11.heap.size, k, none⟩ (.int .u8 (d.toNat : Int))).drew)) := (HB12.out.setCell HB11.out.size _).drew
          have hZ : Hid (Opened ⟨(J.data.toList.set k d).toArray⟩ ⟨#[]⟩ false) := Or.inr ⟨Pl.flip_closed x J _ HOk.out HJl.out k hkl d (by rw [← HCk.out]; exact hcd) rfl, rfl, rfl⟩
          have hZs : Hid ((⟨(J.data.toList.set k d).toArray⟩ : ByteArray).size ≤ 2097152) := by
            show (J.data.toList.set k d).toArray.size ≤ _
            rw [List.size_toArray, List.length_set, Pl.data_len]; omega
          generalize (w12.setCell ⟨w11.heap.size, k, none⟩ (.int .u8 (d.toNat : Int))).drew = w15 at hcv2 HB15 ⊢
          generalize (⟨(J.data.toList.set k d).toArray⟩ : ByteArray) = Z at hcv2 hZ hZs
          clear hce hfr hd hcd HCk
          go_wp2_with fail
          refine (HV.out Z _ _ hZ.out _ hZs.out (HT.out.below HB15.out) (HM.out.below HB15.out)).mono ?_
          rintro e w16 ⟨rfl, hb16⟩
          have HB16 := Lib.hid (HB15.out.trans (hb16.mono HB15.out.size))
          clear hb16
          go_wp2
          go_ret
          exact ⟨by simp, HB16.out⟩

/-! ### THE ROW's STEP -/
theorem contract (H : Type) (enc : TypeId × Value → H) (W : World) (base : Nat) (args : Array Value) (ds gs : List (DataW H)) (before : List MemPlace)
    (hval : ∀ (j : Nat) t v, Tryd.f3.params[j]? = some t → args[j]? = some v → Value.okWide Tryd.prog W .any base t v)
    (hW : DataW.Whole enc Tryd.prog Tryd.f3.params.toList Rows.fnStringsSpec.vars false W args.toList ds gs before) (hL : laidMetH Tryd.prog Rows.fnStringsRow.laid W) (hS : W.ShapedOpen Tryd.prog) :
    Calls Tryd.prog 3 args W fun e W' => ∃ v, e = .returned v ∧ Rows.fnStringsSpec.post enc Tryd.prog Tryd.f3 false true false false W args v W' := by
  have hW' := hW
  obtain ⟨p, q, hA0, hV, rfl, hfz, hnd⟩ := hW
  have hA : DataW.TrodAll enc Tryd.prog W 0 (fun _ => true) true Tryd.f3.params.toList args.toList ds p := hA0
  rw [Tryd.params3] at hA hval
  obtain ⟨v0, vs0, d0, ds0, p0, q0, hargs, rfl, rfl, h0, r0⟩ := trodAll_cons hA
  obtain ⟨rfl, rfl, rfl⟩ := trodAll_nil r0
  obtain rfl : args = #[v0] := by cases args; simp_all
  obtain ⟨rfl, rfl⟩ := trodVars_none hV
  have k0 := h0
  have lt0 : ∀ x ∈ p0, x.block < W.heap.size := by obtain ⟨m, hm⟩ := k0; exact DataW.trod_lt m _ _ _ hm
  obtain ⟨a0, n0, c0, rfl⟩ := okWide_slice Tryd.underlying22 (hval 0 22 v0 rfl rfl)
  obtain ⟨z0, w0⟩ : ∃ zs, IsRow .u8 W a0 n0 c0 zs := by
    obtain ⟨fuel, hf⟩ := h0
    rcases open_ints Tryd.underlying22 Tryd.underlying5 (by kernel_rfl) hf with ⟨hcs, _⟩ | ⟨x, l, c, zs, hcs, _, hl, hm, hz, _, hcell, hwz⟩
    · simp [Value.cells] at hcs
      obtain ⟨rfl, rfl, rfl⟩ := hcs
      exact ⟨[], .inl ⟨rfl, rfl, rfl, rfl⟩⟩
    · simp [Value.cells] at hcs
      obtain ⟨rfl, rfl, rfl⟩ := hcs
      exact ⟨zs, .inr ⟨_, rfl, hl, hm, by simpa using hz, hcell, hwz⟩⟩
  clear hA0 hval
  have hL1 : laidMet Tryd.prog Rows.fnStringsRow.laid W := by rw [MakeChecks.laidMetH_plain _ _ _ (by kernel_rfl)] at hL; exact hL
  refine (walk a0 n0 c0 z0 W hS (table0 hL1) (table1 hL1) (table2 hL1) w0).mono fun e W' ⟨he, bel⟩ => ?_
  subst he
  exact ⟨_, rfl, _, _, _, [], _, [], hW', trodAll_mk1 (shut_bool Tryd.underlying4 _), (trodAll_cons_mk (Below.trod laidOut (by kernel_rfl) (of_decide_eq_true (by kernel_rfl)) k0 bel lt0) trodAll_mk0), rfl, bel.frame _, fun h => by cases h⟩

theorem door_met (os : Os) : laidMetH Tryd.prog Rows.fnStringsRow.laid ((World.doorLaid Tryd.prog 400 os).forCall (fun _ _ => 0) ⟨#[], #[.slice none 0 0], []⟩).memory :=
  laidMetH_of_parts3 (fuel := 8) (laidMet_of_run' 8 (by kernel_rfl) (by kernel_rfl)) (by kernel_rfl) (by kernel_rfl)
theorem reads (os : Os) {H : Type} (enc : TypeId × Value → H) : ∃ places, DataW.whole enc Tryd.prog ((World.doorLaid Tryd.prog 400 os).forCall (fun _ _ => 0) ⟨#[], #[.slice none 0 0], []⟩).memory Tryd.f3.params.toList Rows.fnStringsSpec.vars false (#[.slice none 0 0] : Array Value).toList 8 = some ([.nil], [], places) :=
  ⟨[], by kernel_rfl⟩

set_option maxRecDepth 100000 in
theorem lifted (os : Os) (started : os.Started) (H : Type) (enc : TypeId × Value → H) (F : Stop.Interp) :
    ReturnsInHanded {} Tryd.checked os 3 .any ((OpenSpec.ofChange Rows.fnStringsSpec).preRow enc Tryd.prog Tryd.f3 Rows.fnStringsRow.domain false Rows.fnStringsRow.laid) (((OpenSpec.ofChange Rows.fnStringsSpec).at F).post enc Tryd.prog Tryd.f3 false true false false) := by
  obtain ⟨places, hx⟩ := reads os enc
  refine returnsInHanded_of_row (C := Tryd.checked) (s := OpenSpec.ofChange Rows.fnStringsSpec) own started (by kernel_rfl) Tryd.func3
    (witness_row_atRef (enc := enc) (C := Tryd.checked) false (World.doorLaid Tryd.prog 400 os) #[.slice none 0 0] rfl (by kernel_rfl) (by kernel_rfl) (by kernel_rfl)
      (OpenSpec.preRow_of_cond 8 hx (by kernel_rfl) (fun k hk => by cases hk) (by kernel_rfl) (door_met os))) ?_
  intro W base args ds gs before hval hW _ _ _ hL hS _
  exact contract H enc W base args ds gs before hval hW hL hS

theorem said : Rows.FnStringsSaid :=
  OpenClaim.holds_of_cond 3 Tryd.f3 rfl rfl rfl rfl rfl rfl rfl ⟨rfl, rfl, rfl, rfl, rfl⟩ rfl rfl rfl rfl rfl (by kernel_rfl) Tryd.func3 (by kernel_rfl)
    (of_decide_eq_true (by kernel_rfl)) (by unfold Func.isWrapper; first | (rw [if_pos (by decide +kernel)]; kernel_rfl) | (rw [if_neg (by decide +kernel)]; exact ⟨rfl, rfl⟩))
    (fun os started H enc _ F => by rw [OpenClaim.pre_eq_preRow]; exact lifted os started H enc F)

theorem plain (f : FuncId) (fn : Func) (hf : Tryd.pinned.checked.prog.funcNamed "loop.example/g00882/laws.FnStrings" = some f) (hfn : Tryd.pinned.checked.prog.funcs[f]? = some fn) :
    false = Tryd.pinned.checked.prog.looks [] ∧ ∀ (j : Nat) t, fn.params[j]? = some t → Tryd.pinned.checked.prog.wantsStandIn t = false := by
  obtain rfl : f = 3 := Option.some.inj ((show Tryd.prog.funcNamed "loop.example/g00882/laws.FnStrings" = some 3 by kernel_rfl).symm.trans hf) |>.symm
  obtain rfl : fn = Tryd.f3 := (Option.some.inj (Tryd.func3.symm.trans hfn)).symm
  refine ⟨by kernel_rfl, fun j t ht => ?_⟩
  rw [Tryd.params3] at ht
  have hm : t ∈ [22] := by have := Array.mem_of_getElem? ht; simpa using this
  have hall : ([22].all fun u => !Tryd.prog.wantsStandIn u) = true := by kernel_rfl
  exact (show Tryd.prog.wantsStandIn t = false by simpa using List.all_eq_true.1 hall t hm)

/-- THE TIED CARD. -/
theorem proved : Rows.FnStringsCardSaid :=
  Claim7.holds_tied_plain_at .later [] _ _ _ _ said (fun _ h => by cases h) (by kernel_rfl) (fun _ h => by cases h) fnStrings_row_tie rfl ⟨rfl, rfl⟩ (by kernel_rfl) rfl plain (by kernel_rfl)
#print axioms proved
end Go.Proofs.YtbpjlhdhlcmajaaDoor.fnStrings
