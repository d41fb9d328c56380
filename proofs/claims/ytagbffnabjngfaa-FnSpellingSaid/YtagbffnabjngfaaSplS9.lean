/-
  CONTRACT of chapter 9 of the specification: SplitSuffix.
-/
import Derived.Test.YtagbffnabjngfaaSplit9
namespace Go.Proofs.Ytagbffnabjngfaa
set_option maxRecDepth 100000
open Go.RowKit
open Pl (try9)

theorem suf_len {l p : List UInt8} (h : Lib.hasSuffix l p = true) : p.length ≤ l.length := by
  obtain ⟨x, hx⟩ := (Pl.suffix_iff _ _).1 h
  rw [hx, List.length_append]; omega
theorem try9_len (F S : List UInt8) (l : List (List UInt8)) (d : List UInt8) : (try9 F S l d).length ≤ l.length + 1 := by
  unfold Pl.try9
  split
  · exact Pl.len_ins d l
  · omega
theorem strsN_new (w : World) : StrsN (w.alloc (.cells #[] 9)) (.slice (some ⟨w.heap.size, 0, none⟩) 0 0) (([] : List (List UInt8)).map ofL) :=
  ⟨w.heap.size, 0, 0, rfl, Nat.le_refl _, by decide, by rw [World.size_alloc]; omega, fun j x hx => by simp at hx⟩

set_option linter.unusedSimpArgs false in
set_option maxHeartbeats 16000000 in
theorem specSplit_words (s f : ByteArray) (w : World) (hs : s.size ≤ 24) (hf : f.size ≤ 24) (hf1 : 1 ≤ f.size) (hw1 : Pl.wordB s.data.toList = true) (hw2 : Pl.wordB f.data.toList = true) (c0 nz q e1 e2 g e3 : Bool)
    (h0 : Lib.hasSuffix s.data.toList f.data.toList = c0) (hnz : decide (0 < (s.extract 0 (s.size - f.size)).size) = nz) (hq : (f.toList == [115]) = q) (h1 : Lib.hasSuffix s.data.toList [101, 115] = e1) (h2 : Lib.hasSuffix s.data.toList [105, 101, 115] = e2)
    (hg : (f.toList == [105, 110, 103]) = g) (h3 : Lib.hasSuffix s.data.toList [121, 105, 110, 103] = e3) (hqg : q = true → g = false) :
    Calls Try.prog 13 #[.string s, .string f] w fun e w' => (∃ v, e = .returned (.tuple #[v, .bool true]) ∧ StrsN w' v ((specB s f c0 nz q e1 e2 g e3).map ofL)) ∧ Below w.heap.size w w' := by
  have hls : s.data.toList.length = s.size := by simp
  have hlf : f.data.toList.length = f.size := by simp
  have HW1 := Lib.hid (fun w => l9Word_any s w (by unfold maxLen; omega))
  have HW2 := Lib.hid (fun w => l9Word_any f w (by unfold maxLen; omega))
  rw [hw1] at HW1
  rw [hw2] at HW2
  have HE0 := Lib.hid (fun w => l9Ends_any s f w (by unfold maxLen; omega) (by unfold maxLen; omega))
  have HE1 := Lib.hid (fun w => l9Ends_any s ⟨#[101, 115]⟩ w (by unfold maxLen; omega) (by decide))
  have HE2 := Lib.hid (fun w => l9Ends_any s ⟨#[105, 101, 115]⟩ w (by unfold maxLen; omega) (by decide))
  have HE3 := Lib.hid (fun w => l9Ends_any s ⟨#[121, 105, 110, 103]⟩ w (by unfold maxLen; omega) (by decide))
  rw [h0] at HE0
  rw [show (⟨#[101, 115]⟩ : ByteArray).data.toList = [101, 115] from rfl, h1] at HE1
  rw [show (⟨#[105, 101, 115]⟩ : ByteArray).data.toList = [105, 101, 115] from rfl, h2] at HE2
  rw [show (⟨#[121, 105, 110, 103]⟩ : ByteArray).data.toList = [121, 105, 110, 103] from rfl, h3] at HE3
  have b0 : c0 = true → f.size ≤ s.size := fun h => by have := suf_len (h0.trans h); omega
  have b1 : e1 = true → 2 ≤ s.size := fun h => by have := suf_len (h1.trans h); simp only [List.length_cons, List.length_nil] at this; omega
  have b2 : e2 = true → 3 ≤ s.size := fun h => by have := suf_len (h2.trans h); simp only [List.length_cons, List.length_nil] at this; omega
  have b3 : e3 = true → 4 ≤ s.size := fun h => by have := suf_len (h3.trans h); simp only [List.length_cons, List.length_nil] at this; omega
  have CT : Hid (∀ (N : Nat) (v : Value) (zs : List (List UInt8)) (d : ByteArray) (wx : World), StrsN wx v (zs.map ofL) → zs.length ≤ N → N ≤ 900 → d.size ≤ 1048600 →
      Calls Try.prog 38 #[v, .string d, .string f, .string s] wx fun e w' => (∃ u, e = .returned u ∧ StrsN w' u ((try9 f.data.toList s.data.toList zs d.data.toList).map ofL) ∧ (try9 f.data.toList s.data.toList zs d.data.toList).length ≤ N + 1) ∧ Below wx.heap.size wx w') := by
    intro N v zs d wx h hl hN hd
    refine (l9Try_any v zs d f s wx h (by omega) hd (by omega) hf1 (by omega)).mono ?_
    rintro e w' ⟨⟨u, he, hu⟩, hb⟩
    exact ⟨⟨u, he, hu, by have := try9_len f.data.toList s.data.toList zs d.data.toList; omega⟩, hb⟩
  obtain ⟨st, hst⟩ : ∃ st, st = s.extract 0 (s.size - f.size) := ⟨_, rfl⟩
  obtain ⟨d3, hd3⟩ : ∃ d3, d3 = st.extract 0 (st.size - 1) := ⟨_, rfl⟩
  obtain ⟨x2, hx2⟩ : ∃ x2, x2 = s.extract 0 (s.size - 2) := ⟨_, rfl⟩
  obtain ⟨x3, hx3⟩ : ∃ x3, x3 = s.extract 0 (s.size - 3) := ⟨_, rfl⟩
  obtain ⟨x4, hx4⟩ : ∃ x4, x4 = s.extract 0 (s.size - 4) := ⟨_, rfl⟩
  have zt : st.size ≤ 24 := by rw [hst]; simp only [ByteArray.size_extract]; omega
  have z3 : d3.size ≤ 24 := by rw [hd3]; simp only [ByteArray.size_extract]; omega
  have y2 : x2.size ≤ 24 := by rw [hx2]; simp only [ByteArray.size_extract]; omega
  have y3 : x3.size ≤ 24 := by rw [hx3]; simp only [ByteArray.size_extract]; omega
  have y4 : x4.size ≤ 24 := by rw [hx4]; simp only [ByteArray.size_extract]; omega
  have k1 : (⟨#[101]⟩ : ByteArray).size = 1 := rfl
  have k2 : (⟨#[121]⟩ : ByteArray).size = 1 := rfl
  have k3 : (⟨#[105, 101]⟩ : ByteArray).size = 2 := rfl
  have S1 : Hid (f.size ≤ s.size → ∀ w, (Instr.slice 9 (.string s) none (some (.int .i64 ((s.size : Int) - (f.size : Int)))) none).run Try.prog w = .ok (.string st) w) := by
    intro h w
    rw [run_slice_string_h (P := Try.prog) w 9 s Try.underlying9 .i64 ((s.size : Int) - (f.size : Int)) (by omega) (by omega), hst, show ((s.size : Int) - (f.size : Int)).toNat = s.size - f.size by omega]
  have S3 : Hid (0 < st.size → ∀ w, (Instr.slice 9 (.string st) none (some (.int .i64 ((st.size : Int) - 1))) none).run Try.prog w = .ok (.string d3) w) := by
    intro h w
    rw [run_slice_string_h (P := Try.prog) w 9 st Try.underlying9 .i64 ((st.size : Int) - 1) (by omega) (by omega), hd3, show ((st.size : Int) - 1).toNat = st.size - 1 by omega]
  have Sx2 : Hid (2 ≤ s.size → ∀ w, (Instr.slice 9 (.string s) none (some (.int .i64 ((s.size : Int) - 2))) none).run Try.prog w = .ok (.string x2) w) := by
    intro h w
    rw [run_slice_string_h (P := Try.prog) w 9 s Try.underlying9 .i64 ((s.size : Int) - 2) (by omega) (by omega), hx2, show ((s.size : Int) - 2).toNat = s.size - 2 by omega]
  have Sx3 : Hid (3 ≤ s.size → ∀ w, (Instr.slice 9 (.string s) none (some (.int .i64 ((s.size : Int) - 3))) none).run Try.prog w = .ok (.string x3) w) := by
    intro h w
    rw [run_slice_string_h (P := Try.prog) w 9 s Try.underlying9 .i64 ((s.size : Int) - 3) (by omega) (by omega), hx3, show ((s.size : Int) - 3).toNat = s.size - 3 by omega]
  have Sx4 : Hid (4 ≤ s.size → ∀ w, (Instr.slice 9 (.string s) none (some (.int .i64 ((s.size : Int) - 4))) none).run Try.prog w = .ok (.string x4) w) := by
    intro h w
    rw [run_slice_string_h (P := Try.prog) w 9 s Try.underlying9 .i64 ((s.size : Int) - 4) (by omega) (by omega), hx4, show ((s.size : Int) - 4).toNat = s.size - 4 by omega]
  rw [← hst] at hnz
  have n1 : nz = true → 0 < st.size := fun h => by rw [h] at hnz; simpa using hnz
  have n0 : nz = false → ¬ 0 < st.size := fun h => by rw [h] at hnz; simpa using hnz
  have HST := Lib.hid (And.intro hst (And.intro hd3 (And.intro hx2 (And.intro hx3 hx4))))
  have HK := Lib.hid (And.intro k1 (And.intro k2 k3))
  clear h0 h1 h2 h3 hnz hst hd3 hx2 hx3 hx4 k1 k2 k3 hw1 hw2 hls hlf
  cases c0
  · cases q
    · clear hqg
      cases g
      · have HSp : Hid (specB s f false nz false e1 e2 false e3 = []) := by
          obtain ⟨hst, hd3, hx2, hx3, hx4⟩ := HST.out
          show specB s f _ _ _ _ _ _ _ = _
          skip
          simp only [specB, o4B, o3B, o2B, o1B, oAB, Bool.false_and, Bool.and_false, Bool.true_and, Bool.and_true, Bool.false_eq_true, if_false, if_true]
        have HS0 := Lib.hid (strsN_new w)
        have HB0 : Hid (Below w.heap.size w (w.alloc (.cells #[] 9))) := (Below.refl _ _).alloc (Nat.le_refl _) _
        have HL0 : Hid (([] : List (List UInt8)).length ≤ 0) := Nat.le_refl _
        rw [HSp.out]
        clear b0 b1 b2 b3 n0 n1 HST HSp S1 S3 Sx2 Sx3 Sx4
        go_enter Try.func13, Try.ntmps13
        go_wp2_with fail
        refine (HW1.out _).mono ?_
        rintro e w' ⟨rfl, rfl⟩
        go_wp2_with fail
        refine (HW2.out _).mono ?_
        rintro e w' ⟨rfl, rfl⟩
        go_wp2_with fail
        refine (HE0.out _).mono ?_
        rintro e w' ⟨rfl, rfl⟩
        go_wp2
        go_ret2
        exact ⟨⟨_, rfl, HS0.out⟩, HB0.out⟩
      · cases e3
        · have HSp : Hid (specB s f false nz false e1 e2 true false = []) := by
            obtain ⟨hst, hd3, hx2, hx3, hx4⟩ := HST.out
            show specB s f _ _ _ _ _ _ _ = _
            skip
            simp only [specB, o4B, o3B, o2B, o1B, oAB, Bool.false_and, Bool.and_false, Bool.true_and, Bool.and_true, Bool.false_eq_true, if_false, if_true]
          have HS0 := Lib.hid (strsN_new w)
          have HB0 : Hid (Below w.heap.size w (w.alloc (.cells #[] 9))) := (Below.refl _ _).alloc (Nat.le_refl _) _
          have HL0 : Hid (([] : List (List UInt8)).length ≤ 0) := Nat.le_refl _
          rw [HSp.out]
          clear b0 b1 b2 b3 n0 n1 HST HSp S1 S3 Sx2 Sx3 Sx4
          go_enter Try.func13, Try.ntmps13
          go_wp2_with fail
          refine (HW1.out _).mono ?_
          rintro e w' ⟨rfl, rfl⟩
          go_wp2_with fail
          refine (HW2.out _).mono ?_
          rintro e w' ⟨rfl, rfl⟩
          go_wp2_with fail
          refine (HE0.out _).mono ?_
          rintro e w' ⟨rfl, rfl⟩
          go_wp2_with fail
          refine (HE3.out _).mono ?_
          rintro e w' ⟨rfl, rfl⟩
          go_wp2
          go_ret2
          exact ⟨⟨_, rfl, HS0.out⟩, HB0.out⟩
        · have f4 := b3 rfl
          have sx4 := Sx4.out f4
          have HSp : Hid (specB s f false nz false e1 e2 true true = (try9 f.data.toList s.data.toList [] (x4 ++ ⟨#[105, 101]⟩).data.toList)) := by
            obtain ⟨hst, hd3, hx2, hx3, hx4⟩ := HST.out
            show specB s f _ _ _ _ _ _ _ = _
            rw [hx4]
            simp only [specB, o4B, o3B, o2B, o1B, oAB, Bool.false_and, Bool.and_false, Bool.true_and, Bool.and_true, Bool.false_eq_true, if_false, if_true]
          have HS0 := Lib.hid (strsN_new w)
          have HB0 : Hid (Below w.heap.size w (w.alloc (.cells #[] 9))) := (Below.refl _ _).alloc (Nat.le_refl _) _
          have HL0 : Hid (([] : List (List UInt8)).length ≤ 0) := Nat.le_refl _
          rw [HSp.out]
          clear b0 b1 b2 b3 n0 n1 HST HSp S1 S3 Sx2 Sx3 Sx4
          go_enter Try.func13, Try.ntmps13
          go_wp2_with fail
          refine (HW1.out _).mono ?_
          rintro e w' ⟨rfl, rfl⟩
          go_wp2_with fail
          refine (HW2.out _).mono ?_
          rintro e w' ⟨rfl, rfl⟩
          go_wp2_with fail
          refine (HE0.out _).mono ?_
          rintro e w' ⟨rfl, rfl⟩
          go_wp2_with fail
          refine (HE3.out _).mono ?_
          rintro e w' ⟨rfl, rfl⟩
          go_wp2_with fail
          have hx := CT.out 0 _ _ (x4 ++ ⟨#[105, 101]⟩) _ HS0.out HL0.out (by decide) (by simp only [ByteArray.size_append]; have := HK.out; omega)
          refine hx.mono ?_
          clear hx
          rintro e w1 ⟨⟨u1', rfl, hsn, hln⟩, hb⟩
          have HS1 := Lib.hid hsn
          have HL1 := Lib.hid hln
          have HB1 := Lib.hid (HB0.out.trans (hb.mono HB0.out.size))
          clear hsn hln hb HS0 HL0 HB0
          go_wp2
          go_ret2
          exact ⟨⟨_, rfl, HS1.out⟩, HB1.out⟩
    · have hg0 := hqg rfl
      clear hqg
      subst hg0
      cases e1
      · cases e2
        · have HSp : Hid (specB s f false nz true false false false e3 = []) := by
            obtain ⟨hst, hd3, hx2, hx3, hx4⟩ := HST.out
            show specB s f _ _ _ _ _ _ _ = _
            skip
            simp only [specB, o4B, o3B, o2B, o1B, oAB, Bool.false_and, Bool.and_false, Bool.true_and, Bool.and_true, Bool.false_eq_true, if_false, if_true]
          have HS0 := Lib.hid (strsN_new w)
          have HB0 : Hid (Below w.heap.size w (w.alloc (.cells #[] 9))) := (Below.refl _ _).alloc (Nat.le_refl _) _
          have HL0 : Hid (([] : List (List UInt8)).length ≤ 0) := Nat.le_refl _
          rw [HSp.out]
          clear b0 b1 b2 b3 n0 n1 HST HSp S1 S3 Sx2 Sx3 Sx4
          go_enter Try.func13, Try.ntmps13
          go_wp2_with fail
          refine (HW1.out _).mono ?_
          rintro e w' ⟨rfl, rfl⟩
          go_wp2_with fail
          refine (HW2.out _).mono ?_
          rintro e w' ⟨rfl, rfl⟩
          go_wp2_with fail
          refine (HE0.out _).mono ?_
          rintro e w' ⟨rfl, rfl⟩
          go_wp2_with fail
          refine (HE1.out _).mono ?_
          rintro e w' ⟨rfl, rfl⟩
          go_wp2_with fail
          refine (HE2.out _).mono ?_
          rintro e w' ⟨rfl, rfl⟩
          go_wp2
          go_ret2
          exact ⟨⟨_, rfl, HS0.out⟩, HB0.out⟩
        · have f3 := b2 rfl
          have sx3 := Sx3.out f3
          have HSp : Hid (specB s f false nz true false true false e3 = (try9 f.data.toList s.data.toList [] (x3 ++ ⟨#[121]⟩).data.toList)) := by
            obtain ⟨hst, hd3, hx2, hx3, hx4⟩ := HST.out
            show specB s f _ _ _ _ _ _ _ = _
            rw [hx3]
            simp only [specB, o4B, o3B, o2B, o1B, oAB, Bool.false_and, Bool.and_false, Bool.true_and, Bool.and_true, Bool.false_eq_true, if_false, if_true]
          have HS0 := Lib.hid (strsN_new w)
          have HB0 : Hid (Below w.heap.size w (w.alloc (.cells #[] 9))) := (Below.refl _ _).alloc (Nat.le_refl _) _
          have HL0 : Hid (([] : List (List UInt8)).length ≤ 0) := Nat.le_refl _
          rw [HSp.out]
          clear b0 b1 b2 b3 n0 n1 HST HSp S1 S3 Sx2 Sx3 Sx4
          go_enter Try.func13, Try.ntmps13
          go_wp2_with fail
          refine (HW1.out _).mono ?_
          rintro e w' ⟨rfl, rfl⟩
          go_wp2_with fail
          refine (HW2.out _).mono ?_
          rintro e w' ⟨rfl, rfl⟩
          go_wp2_with fail
          refine (HE0.out _).mono ?_
          rintro e w' ⟨rfl, rfl⟩
          go_wp2_with fail
          refine (HE1.out _).mono ?_
          rintro e w' ⟨rfl, rfl⟩
          go_wp2_with fail
          refine (HE2.out _).mono ?_
          rintro e w' ⟨rfl, rfl⟩
          go_wp2_with fail
          have hx := CT.out 0 _ _ (x3 ++ ⟨#[121]⟩) _ HS0.out HL0.out (by decide) (by simp only [ByteArray.size_append]; have := HK.out; omega)
          refine hx.mono ?_
          clear hx
          rintro e w1 ⟨⟨u1', rfl, hsn, hln⟩, hb⟩
          have HS1 := Lib.hid hsn
          have HL1 := Lib.hid hln
          have HB1 := Lib.hid (HB0.out.trans (hb.mono HB0.out.size))
          clear hsn hln hb HS0 HL0 HB0
          go_wp2
          go_ret2
          exact ⟨⟨_, rfl, HS1.out⟩, HB1.out⟩
      · cases e2
        · have f2 := b1 rfl
          have sx2 := Sx2.out f2
          have HSp : Hid (specB s f false nz true true false false e3 = (try9 f.data.toList s.data.toList [] x2.data.toList)) := by
            obtain ⟨hst, hd3, hx2, hx3, hx4⟩ := HST.out
            show specB s f _ _ _ _ _ _ _ = _
            rw [hx2]
            simp only [specB, o4B, o3B, o2B, o1B, oAB, Bool.false_and, Bool.and_false, Bool.true_and, Bool.and_true, Bool.false_eq_true, if_false, if_true]
          have HS0 := Lib.hid (strsN_new w)
          have HB0 : Hid (Below w.heap.size w (w.alloc (.cells #[] 9))) := (Below.refl _ _).alloc (Nat.le_refl _) _
          have HL0 : Hid (([] : List (List UInt8)).length ≤ 0) := Nat.le_refl _
          rw [HSp.out]
          clear b0 b1 b2 b3 n0 n1 HST HSp S1 S3 Sx2 Sx3 Sx4
          go_enter Try.func13, Try.ntmps13
          go_wp2_with fail
          refine (HW1.out _).mono ?_
          rintro e w' ⟨rfl, rfl⟩
          go_wp2_with fail
          refine (HW2.out _).mono ?_
          rintro e w' ⟨rfl, rfl⟩
          go_wp2_with fail
          refine (HE0.out _).mono ?_
          rintro e w' ⟨rfl, rfl⟩
          go_wp2_with fail
          refine (HE1.out _).mono ?_
          rintro e w' ⟨rfl, rfl⟩
          go_wp2_with fail
          have hx := CT.out 0 _ _ x2 _ HS0.out HL0.out (by decide) (by omega)
          refine hx.mono ?_
          clear hx
          rintro e w1 ⟨⟨u1', rfl, hsn, hln⟩, hb⟩
          have HS1 := Lib.hid hsn
          have HL1 := Lib.hid hln
          have HB1 := Lib.hid (HB0.out.trans (hb.mono HB0.out.size))
          clear hsn hln hb HS0 HL0 HB0
          go_wp2_with fail
          refine (HE2.out _).mono ?_
          rintro e w101 ⟨rfl, hww⟩
          subst hww
          go_wp2
          go_ret2
          exact ⟨⟨_, rfl, HS1.out⟩, HB1.out⟩
        · have f2 := b1 rfl
          have sx2 := Sx2.out f2
          have f3 := b2 rfl
          have sx3 := Sx3.out f3
          have HSp : Hid (specB s f false nz true true true false e3 = (try9 f.data.toList s.data.toList (try9 f.data.toList s.data.toList [] x2.data.toList) (x3 ++ ⟨#[121]⟩).data.toList)) := by
            obtain ⟨hst, hd3, hx2, hx3, hx4⟩ := HST.out
            show specB s f _ _ _ _ _ _ _ = _
            rw [hx2, hx3]
            simp only [specB, o4B, o3B, o2B, o1B, oAB, Bool.false_and, Bool.and_false, Bool.true_and, Bool.and_true, Bool.false_eq_true, if_false, if_true]
          have HS0 := Lib.hid (strsN_new w)
          have HB0 : Hid (Below w.heap.size w (w.alloc (.cells #[] 9))) := (Below.refl _ _).alloc (Nat.le_refl _) _
          have HL0 : Hid (([] : List (List UInt8)).length ≤ 0) := Nat.le_refl _
          rw [HSp.out]
          clear b0 b1 b2 b3 n0 n1 HST HSp S1 S3 Sx2 Sx3 Sx4
          go_enter Try.func13, Try.ntmps13
          go_wp2_with fail
          refine (HW1.out _).mono ?_
          rintro e w' ⟨rfl, rfl⟩
          go_wp2_with fail
          refine (HW2.out _).mono ?_
          rintro e w' ⟨rfl, rfl⟩
          go_wp2_with fail
          refine (HE0.out _).mono ?_
          rintro e w' ⟨rfl, rfl⟩
          go_wp2_with fail
          refine (HE1.out _).mono ?_
          rintro e w' ⟨rfl, rfl⟩
          go_wp2_with fail
          have hx := CT.out 0 _ _ x2 _ HS0.out HL0.out (by decide) (by omega)
          refine hx.mono ?_
          clear hx
          rintro e w1 ⟨⟨u1', rfl, hsn, hln⟩, hb⟩
          have HS1 := Lib.hid hsn
          have HL1 := Lib.hid hln
          have HB1 := Lib.hid (HB0.out.trans (hb.mono HB0.out.size))
          clear hsn hln hb HS0 HL0 HB0
          go_wp2_with fail
          refine (HE2.out _).mono ?_
          rintro e w101 ⟨rfl, hww⟩
          subst hww
          go_wp2_with fail
          have hx := CT.out 1 _ _ (x3 ++ ⟨#[121]⟩) _ HS1.out HL1.out (by decide) (by simp only [ByteArray.size_append]; have := HK.out; omega)
          refine hx.mono ?_
          clear hx
          rintro e w2 ⟨⟨u2', rfl, hsn, hln⟩, hb⟩
          have HS2 := Lib.hid hsn
          have HL2 := Lib.hid hln
          have HB2 := Lib.hid (HB1.out.trans (hb.mono HB1.out.size))
          clear hsn hln hb HS1 HL1 HB1
          go_wp2
          go_ret2
          exact ⟨⟨_, rfl, HS2.out⟩, HB2.out⟩
  · cases nz
    · cases q
      · clear hqg
        cases g
        · have f0 := b0 rfl
          have s1 := S1.out f0
          have f1 := n0 rfl
          have HSp : Hid (specB s f true false false e1 e2 false e3 = (try9 f.data.toList s.data.toList (try9 f.data.toList s.data.toList [] st.data.toList) (st ++ ⟨#[101]⟩).data.toList)) := by
            obtain ⟨hst, hd3, hx2, hx3, hx4⟩ := HST.out
            show specB s f _ _ _ _ _ _ _ = _
            rw [hst]
            simp only [specB, o4B, o3B, o2B, o1B, oAB, Bool.false_and, Bool.and_false, Bool.true_and, Bool.and_true, Bool.false_eq_true, if_false, if_true]
          have HS0 := Lib.hid (strsN_new w)
          have HB0 : Hid (Below w.heap.size w (w.alloc (.cells #[] 9))) := (Below.refl _ _).alloc (Nat.le_refl _) _
          have HL0 : Hid (([] : List (List UInt8)).length ≤ 0) := Nat.le_refl _
          rw [HSp.out]
          clear b0 b1 b2 b3 n0 n1 HST HSp S1 S3 Sx2 Sx3 Sx4
          go_enter Try.func13, Try.ntmps13
          go_wp2_with fail
          refine (HW1.out _).mono ?_
          rintro e w' ⟨rfl, rfl⟩
          go_wp2_with fail
          refine (HW2.out _).mono ?_
          rintro e w' ⟨rfl, rfl⟩
          go_wp2_with fail
          refine (HE0.out _).mono ?_
          rintro e w' ⟨rfl, rfl⟩
          go_wp2_with fail
          have hx := CT.out 0 _ _ st _ HS0.out HL0.out (by decide) (by omega)
          refine hx.mono ?_
          clear hx
          rintro e w1 ⟨⟨u1', rfl, hsn, hln⟩, hb⟩
          have HS1 := Lib.hid hsn
          have HL1 := Lib.hid hln
          have HB1 := Lib.hid (HB0.out.trans (hb.mono HB0.out.size))
          clear hsn hln hb HS0 HL0 HB0
          go_wp2_with fail
          have hx := CT.out 1 _ _ (st ++ ⟨#[101]⟩) _ HS1.out HL1.out (by decide) (by simp only [ByteArray.size_append]; have := HK.out; omega)
          refine hx.mono ?_
          clear hx
          rintro e w2 ⟨⟨u2', rfl, hsn, hln⟩, hb⟩
          have HS2 := Lib.hid hsn
          have HL2 := Lib.hid hln
          have HB2 := Lib.hid (HB1.out.trans (hb.mono HB1.out.size))
          clear hsn hln hb HS1 HL1 HB1
          go_wp2
          go_ret2
          exact ⟨⟨_, rfl, HS2.out⟩, HB2.out⟩
        · cases e3
          · have f0 := b0 rfl
            have s1 := S1.out f0
            have f1 := n0 rfl
            have HSp : Hid (specB s f true false false e1 e2 true false = (try9 f.data.toList s.data.toList (try9 f.data.toList s.data.toList [] st.data.toList) (st ++ ⟨#[101]⟩).data.toList)) := by
              obtain ⟨hst, hd3, hx2, hx3, hx4⟩ := HST.out
              show specB s f _ _ _ _ _ _ _ = _
              rw [hst]
              simp only [specB, o4B, o3B, o2B, o1B, oAB, Bool.false_and, Bool.and_false, Bool.true_and, Bool.and_true, Bool.false_eq_true, if_false, if_true]
            have HS0 := Lib.hid (strsN_new w)
            have HB0 : Hid (Below w.heap.size w (w.alloc (.cells #[] 9))) := (Below.refl _ _).alloc (Nat.le_refl _) _
            have HL0 : Hid (([] : List (List UInt8)).length ≤ 0) := Nat.le_refl _
            rw [HSp.out]
            clear b0 b1 b2 b3 n0 n1 HST HSp S1 S3 Sx2 Sx3 Sx4
            go_enter Try.func13, Try.ntmps13
            go_wp2_with fail
            refine (HW1.out _).mono ?_
            rintro e w' ⟨rfl, rfl⟩
            go_wp2_with fail
            refine (HW2.out _).mono ?_
            rintro e w' ⟨rfl, rfl⟩
            go_wp2_with fail
            refine (HE0.out _).mono ?_
            rintro e w' ⟨rfl, rfl⟩
            go_wp2_with fail
            have hx := CT.out 0 _ _ st _ HS0.out HL0.out (by decide) (by omega)
            refine hx.mono ?_
            clear hx
            rintro e w1 ⟨⟨u1', rfl, hsn, hln⟩, hb⟩
            have HS1 := Lib.hid hsn
            have HL1 := Lib.hid hln
            have HB1 := Lib.hid (HB0.out.trans (hb.mono HB0.out.size))
            clear hsn hln hb HS0 HL0 HB0
            go_wp2_with fail
            have hx := CT.out 1 _ _ (st ++ ⟨#[101]⟩) _ HS1.out HL1.out (by decide) (by simp only [ByteArray.size_append]; have := HK.out; omega)
            refine hx.mono ?_
            clear hx
            rintro e w2 ⟨⟨u2', rfl, hsn, hln⟩, hb⟩
            have HS2 := Lib.hid hsn
            have HL2 := Lib.hid hln
            have HB2 := Lib.hid (HB1.out.trans (hb.mono HB1.out.size))
            clear hsn hln hb HS1 HL1 HB1
            go_wp2_with fail
            refine (HE3.out _).mono ?_
            rintro e w102 ⟨rfl, hww⟩
            subst hww
            go_wp2
            go_ret2
            exact ⟨⟨_, rfl, HS2.out⟩, HB2.out⟩
          · have f0 := b0 rfl
            have s1 := S1.out f0
            have f1 := n0 rfl
            have f4 := b3 rfl
            have sx4 := Sx4.out f4
            have HSp : Hid (specB s f true false false e1 e2 true true = (try9 f.data.toList s.data.toList (try9 f.data.toList s.data.toList (try9 f.data.toList s.data.toList [] st.data.toList) (st ++ ⟨#[101]⟩).data.toList) (x4 ++ ⟨#[105, 101]⟩).data.toList)) := by
              obtain ⟨hst, hd3, hx2, hx3, hx4⟩ := HST.out
              show specB s f _ _ _ _ _ _ _ = _
              rw [hst, hx4]
              simp only [specB, o4B, o3B, o2B, o1B, oAB, Bool.false_and, Bool.and_false, Bool.true_and, Bool.and_true, Bool.false_eq_true, if_false, if_true]
            have HS0 := Lib.hid (strsN_new w)
            have HB0 : Hid (Below w.heap.size w (w.alloc (.cells #[] 9))) := (Below.refl _ _).alloc (Nat.le_refl _) _
            have HL0 : Hid (([] : List (List UInt8)).length ≤ 0) := Nat.le_refl _
            rw [HSp.out]
            clear b0 b1 b2 b3 n0 n1 HST HSp S1 S3 Sx2 Sx3 Sx4
            go_enter Try.func13, Try.ntmps13
            go_wp2_with fail
            refine (HW1.out _).mono ?_
            rintro e w' ⟨rfl, rfl⟩
            go_wp2_with fail
            refine (HW2.out _).mono ?_
            rintro e w' ⟨rfl, rfl⟩
            go_wp2_with fail
            refine (HE0.out _).mono ?_
            rintro e w' ⟨rfl, rfl⟩
            go_wp2_with fail
            have hx := CT.out 0 _ _ st _ HS0.out HL0.out (by decide) (by omega)
            refine hx.mono ?_
            clear hx
            rintro e w1 ⟨⟨u1', rfl, hsn, hln⟩, hb⟩
            have HS1 := Lib.hid hsn
            have HL1 := Lib.hid hln
            have HB1 := Lib.hid (HB0.out.trans (hb.mono HB0.out.size))
            clear hsn hln hb HS0 HL0 HB0
            go_wp2_with fail
            have hx := CT.out 1 _ _ (st ++ ⟨#[101]⟩) _ HS1.out HL1.out (by decide) (by simp only [ByteArray.size_append]; have := HK.out; omega)
            refine hx.mono ?_
            clear hx
            rintro e w2 ⟨⟨u2', rfl, hsn, hln⟩, hb⟩
            have HS2 := Lib.hid hsn
            have HL2 := Lib.hid hln
            have HB2 := Lib.hid (HB1.out.trans (hb.mono HB1.out.size))
            clear hsn hln hb HS1 HL1 HB1
            go_wp2_with fail
            refine (HE3.out _).mono ?_
            rintro e w102 ⟨rfl, hww⟩
            subst hww
            go_wp2_with fail
            have hx := CT.out 2 _ _ (x4 ++ ⟨#[105, 101]⟩) _ HS2.out HL2.out (by decide) (by simp only [ByteArray.size_append]; have := HK.out; omega)
            refine hx.mono ?_
            clear hx
            rintro e w3 ⟨⟨u3', rfl, hsn, hln⟩, hb⟩
            have HS3 := Lib.hid hsn
            have HL3 := Lib.hid hln
            have HB3 := Lib.hid (HB2.out.trans (hb.mono HB2.out.size))
            clear hsn hln hb HS2 HL2 HB2
            go_wp2
            go_ret2
            exact ⟨⟨_, rfl, HS3.out⟩, HB3.out⟩
      · have hg0 := hqg rfl
        clear hqg
        subst hg0
        cases e1
        · cases e2
          · have f0 := b0 rfl
            have s1 := S1.out f0
            have f1 := n0 rfl
            have HSp : Hid (specB s f true false true false false false e3 = (try9 f.data.toList s.data.toList (try9 f.data.toList s.data.toList [] st.data.toList) (st ++ ⟨#[101]⟩).data.toList)) := by
              obtain ⟨hst, hd3, hx2, hx3, hx4⟩ := HST.out
              show specB s f _ _ _ _ _ _ _ = _
              rw [hst]
              simp only [specB, o4B, o3B, o2B, o1B, oAB, Bool.false_and, Bool.and_false, Bool.true_and, Bool.and_true, Bool.false_eq_true, if_false, if_true]
            have HS0 := Lib.hid (strsN_new w)
            have HB0 : Hid (Below w.heap.size w (w.alloc (.cells #[] 9))) := (Below.refl _ _).alloc (Nat.le_refl _) _
            have HL0 : Hid (([] : List (List UInt8)).length ≤ 0) := Nat.le_refl _
            rw [HSp.out]
            clear b0 b1 b2 b3 n0 n1 HST HSp S1 S3 Sx2 Sx3 Sx4
            go_enter Try.func13, Try.ntmps13
            go_wp2_with fail
            refine (HW1.out _).mono ?_
            rintro e w' ⟨rfl, rfl⟩
            go_wp2_with fail
            refine (HW2.out _).mono ?_
            rintro e w' ⟨rfl, rfl⟩
            go_wp2_with fail
            refine (HE0.out _).mono ?_
            rintro e w' ⟨rfl, rfl⟩
            go_wp2_with fail
            have hx := CT.out 0 _ _ st _ HS0.out HL0.out (by decide) (by omega)
            refine hx.mono ?_
            clear hx
            rintro e w1 ⟨⟨u1', rfl, hsn, hln⟩, hb⟩
            have HS1 := Lib.hid hsn
            have HL1 := Lib.hid hln
            have HB1 := Lib.hid (HB0.out.trans (hb.mono HB0.out.size))
            clear hsn hln hb HS0 HL0 HB0
            go_wp2_with fail
            have hx := CT.out 1 _ _ (st ++ ⟨#[101]⟩) _ HS1.out HL1.out (by decide) (by simp only [ByteArray.size_append]; have := HK.out; omega)
            refine hx.mono ?_
            clear hx
            rintro e w2 ⟨⟨u2', rfl, hsn, hln⟩, hb⟩
            have HS2 := Lib.hid hsn
            have HL2 := Lib.hid hln
            have HB2 := Lib.hid (HB1.out.trans (hb.mono HB1.out.size))
            clear hsn hln hb HS1 HL1 HB1
            go_wp2_with fail
            refine (HE1.out _).mono ?_
            rintro e w102 ⟨rfl, hww⟩
            subst hww
            go_wp2_with fail
            refine (HE2.out _).mono ?_
            rintro e w102 ⟨rfl, hww⟩
            subst hww
            go_wp2
            go_ret2
            exact ⟨⟨_, rfl, HS2.out⟩, HB2.out⟩
          · have f0 := b0 rfl
            have s1 := S1.out f0
            have f1 := n0 rfl
            have f3 := b2 rfl
            have sx3 := Sx3.out f3
            have HSp : Hid (specB s f true false true false true false e3 = (try9 f.data.toList s.data.toList (try9 f.data.toList s.data.toList (try9 f.data.toList s.data.toList [] st.data.toList) (st ++ ⟨#[101]⟩).data.toList) (x3 ++ ⟨#[121]⟩).data.toList)) := by
              obtain ⟨hst, hd3, hx2, hx3, hx4⟩ := HST.out
              show specB s f _ _ _ _ _ _ _ = _
              rw [hst, hx3]
              simp only [specB, o4B, o3B, o2B, o1B, oAB, Bool.false_and, Bool.and_false, Bool.true_and, Bool.and_true, Bool.false_eq_true, if_false, if_true]
            have HS0 := Lib.hid (strsN_new w)
            have HB0 : Hid (Below w.heap.size w (w.alloc (.cells #[] 9))) := (Below.refl _ _).alloc (Nat.le_refl _) _
            have HL0 : Hid (([] : List (List UInt8)).length ≤ 0) := Nat.le_refl _
            rw [HSp.out]
            clear b0 b1 b2 b3 n0 n1 HST HSp S1 S3 Sx2 Sx3 Sx4
            go_enter Try.func13, Try.ntmps13
            go_wp2_with fail
            refine (HW1.out _).mono ?_
            rintro e w' ⟨rfl, rfl⟩
            go_wp2_with fail
            refine (HW2.out _).mono ?_
            rintro e w' ⟨rfl, rfl⟩
            go_wp2_with fail
            refine (HE0.out _).mono ?_
            rintro e w' ⟨rfl, rfl⟩
            go_wp2_with fail
            have hx := CT.out 0 _ _ st _ HS0.out HL0.out (by decide) (by omega)
            refine hx.mono ?_
            clear hx
            rintro e w1 ⟨⟨u1', rfl, hsn, hln⟩, hb⟩
            have HS1 := Lib.hid hsn
            have HL1 := Lib.hid hln
            have HB1 := Lib.hid (HB0.out.trans (hb.mono HB0.out.size))
            clear hsn hln hb HS0 HL0 HB0
            go_wp2_with fail
            have hx := CT.out 1 _ _ (st ++ ⟨#[101]⟩) _ HS1.out HL1.out (by decide) (by simp only [ByteArray.size_append]; have := HK.out; omega)
            refine hx.mono ?_
            clear hx
            rintro e w2 ⟨⟨u2', rfl, hsn, hln⟩, hb⟩
            have HS2 := Lib.hid hsn
            have HL2 := Lib.hid hln
            have HB2 := Lib.hid (HB1.out.trans (hb.mono HB1.out.size))
            clear hsn hln hb HS1 HL1 HB1
            go_wp2_with fail
            refine (HE1.out _).mono ?_
            rintro e w102 ⟨rfl, hww⟩
            subst hww
            go_wp2_with fail
            refine (HE2.out _).mono ?_
            rintro e w102 ⟨rfl, hww⟩
            subst hww
            go_wp2_with fail
            have hx := CT.out 2 _ _ (x3 ++ ⟨#[121]⟩) _ HS2.out HL2.out (by decide) (by simp only [ByteArray.size_append]; have := HK.out; omega)
            refine hx.mono ?_
            clear hx
            rintro e w3 ⟨⟨u3', rfl, hsn, hln⟩, hb⟩
            have HS3 := Lib.hid hsn
            have HL3 := Lib.hid hln
            have HB3 := Lib.hid (HB2.out.trans (hb.mono HB2.out.size))
            clear hsn hln hb HS2 HL2 HB2
            go_wp2
            go_ret2
            exact ⟨⟨_, rfl, HS3.out⟩, HB3.out⟩
        · cases e2
          · have f0 := b0 rfl
            have s1 := S1.out f0
            have f1 := n0 rfl
            have f2 := b1 rfl
            have sx2 := Sx2.out f2
            have HSp : Hid (specB s f true false true true false false e3 = (try9 f.data.toList s.data.toList (try9 f.data.toList s.data.toList (try9 f.data.toList s.data.toList [] st.data.toList) (st ++ ⟨#[101]⟩).data.toList) x2.data.toList)) := by
              obtain ⟨hst, hd3, hx2, hx3, hx4⟩ := HST.out
              show specB s f _ _ _ _ _ _ _ = _
              rw [hst, hx2]
              simp only [specB, o4B, o3B, o2B, o1B, oAB, Bool.false_and, Bool.and_false, Bool.true_and, Bool.and_true, Bool.false_eq_true, if_false, if_true]
            have HS0 := Lib.hid (strsN_new w)
            have HB0 : Hid (Below w.heap.size w (w.alloc (.cells #[] 9))) := (Below.refl _ _).alloc (Nat.le_refl _) _
            have HL0 : Hid (([] : List (List UInt8)).length ≤ 0) := Nat.le_refl _
            rw [HSp.out]
            clear b0 b1 b2 b3 n0 n1 HST HSp S1 S3 Sx2 Sx3 Sx4
            go_enter Try.func13, Try.ntmps13
            go_wp2_with fail
            refine (HW1.out _).mono ?_
            rintro e w' ⟨rfl, rfl⟩
            go_wp2_with fail
            refine (HW2.out _).mono ?_
            rintro e w' ⟨rfl, rfl⟩
            go_wp2_with fail
            refine (HE0.out _).mono ?_
            rintro e w' ⟨rfl, rfl⟩
            go_wp2_with fail
            have hx := CT.out 0 _ _ st _ HS0.out HL0.out (by decide) (by omega)
            refine hx.mono ?_
            clear hx
            rintro e w1 ⟨⟨u1', rfl, hsn, hln⟩, hb⟩
            have HS1 := Lib.hid hsn
            have HL1 := Lib.hid hln
            have HB1 := Lib.hid (HB0.out.trans (hb.mono HB0.out.size))
            clear hsn hln hb HS0 HL0 HB0
            go_wp2_with fail
            have hx := CT.out 1 _ _ (st ++ ⟨#[101]⟩) _ HS1.out HL1.out (by decide) (by simp only [ByteArray.size_append]; have := HK.out; omega)
            refine hx.mono ?_
            clear hx
            rintro e w2 ⟨⟨u2', rfl, hsn, hln⟩, hb⟩
            have HS2 := Lib.hid hsn
            have HL2 := Lib.hid hln
            have HB2 := Lib.hid (HB1.out.trans (hb.mono HB1.out.size))
            clear hsn hln hb HS1 HL1 HB1
            go_wp2_with fail
            refine (HE1.out _).mono ?_
            rintro e w102 ⟨rfl, hww⟩
            subst hww
            go_wp2_with fail
            have hx := CT.out 2 _ _ x2 _ HS2.out HL2.out (by decide) (by omega)
            refine hx.mono ?_
            clear hx
            rintro e w3 ⟨⟨u3', rfl, hsn, hln⟩, hb⟩
            have HS3 := Lib.hid hsn
            have HL3 := Lib.hid hln
            have HB3 := Lib.hid (HB2.out.trans (hb.mono HB2.out.size))
            clear hsn hln hb HS2 HL2 HB2
            go_wp2_with fail
            refine (HE2.out _).mono ?_
            rintro e w103 ⟨rfl, hww⟩
            subst hww
            go_wp2
            go_ret2
            exact ⟨⟨_, rfl, HS3.out⟩, HB3.out⟩
          · have f0 := b0 rfl
            have s1 := S1.out f0
            have f1 := n0 rfl
            have f2 := b1 rfl
            have sx2 := Sx2.out f2
            have f3 := b2 rfl
            have sx3 := Sx3.out f3
            have HSp : Hid (specB s f true false true true true false e3 = (try9 f.data.toList s.data.toList (try9 f.data.toList s.data.toList (try9 f.data.toList s.data.toList (try9 f.data.toList s.data.toList [] st.data.toList) (st ++ ⟨#[101]⟩).data.toList) x2.data.toList) (x3 ++ ⟨#[121]⟩).data.toList)) := by
              obtain ⟨hst, hd3, hx2, hx3, hx4⟩ := HST.out
              show specB s f _ _ _ _ _ _ _ = _
              rw [hst, hx2, hx3]
              simp only [specB, o4B, o3B, o2B, o1B, oAB, Bool.false_and, Bool.and_false, Bool.true_and, Bool.and_true, Bool.false_eq_true, if_false, if_true]
            have HS0 := Lib.hid (strsN_new w)
            have HB0 : Hid (Below w.heap.size w (w.alloc (.cells #[] 9))) := (Below.refl _ _).alloc (Nat.le_refl _) _
            have HL0 : Hid (([] : List (List UInt8)).length ≤ 0) := Nat.le_refl _
            rw [HSp.out]
            clear b0 b1 b2 b3 n0 n1 HST HSp S1 S3 Sx2 Sx3 Sx4
            go_enter Try.func13, Try.ntmps13
            go_wp2_with fail
            refine (HW1.out _).mono ?_
            rintro e w' ⟨rfl, rfl⟩
            go_wp2_with fail
            refine (HW2.out _).mono ?_
            rintro e w' ⟨rfl, rfl⟩
            go_wp2_with fail
            refine (HE0.out _).mono ?_
            rintro e w' ⟨rfl, rfl⟩
            go_wp2_with fail
            have hx := CT.out 0 _ _ st _ HS0.out HL0.out (by decide) (by omega)
            refine hx.mono ?_
            clear hx
            rintro e w1 ⟨⟨u1', rfl, hsn, hln⟩, hb⟩
            have HS1 := Lib.hid hsn
            have HL1 := Lib.hid hln
            have HB1 := Lib.hid (HB0.out.trans (hb.mono HB0.out.size))
            clear hsn hln hb HS0 HL0 HB0
            go_wp2_with fail
            have hx := CT.out 1 _ _ (st ++ ⟨#[101]⟩) _ HS1.out HL1.out (by decide) (by simp only [ByteArray.size_append]; have := HK.out; omega)
            refine hx.mono ?_
            clear hx
            rintro e w2 ⟨⟨u2', rfl, hsn, hln⟩, hb⟩
            have HS2 := Lib.hid hsn
            have HL2 := Lib.hid hln
            have HB2 := Lib.hid (HB1.out.trans (hb.mono HB1.out.size))
            clear hsn hln hb HS1 HL1 HB1
            go_wp2_with fail
            refine (HE1.out _).mono ?_
            rintro e w102 ⟨rfl, hww⟩
            subst hww
            go_wp2_with fail
            have hx := CT.out 2 _ _ x2 _ HS2.out HL2.out (by decide) (by omega)
            refine hx.mono ?_
            clear hx
            rintro e w3 ⟨⟨u3', rfl, hsn, hln⟩, hb⟩
            have HS3 := Lib.hid hsn
            have HL3 := Lib.hid hln
            have HB3 := Lib.hid (HB2.out.trans (hb.mono HB2.out.size))
            clear hsn hln hb HS2 HL2 HB2
            go_wp2_with fail
            refine (HE2.out _).mono ?_
            rintro e w103 ⟨rfl, hww⟩
            subst hww
            go_wp2_with fail
            have hx := CT.out 3 _ _ (x3 ++ ⟨#[121]⟩) _ HS3.out HL3.out (by decide) (by simp only [ByteArray.size_append]; have := HK.out; omega)
            refine hx.mono ?_
            clear hx
            rintro e w4 ⟨⟨u4', rfl, hsn, hln⟩, hb⟩
            have HS4 := Lib.hid hsn
            have HL4 := Lib.hid hln
            have HB4 := Lib.hid (HB3.out.trans (hb.mono HB3.out.size))
            clear hsn hln hb HS3 HL3 HB3
            go_wp2
            go_ret2
            exact ⟨⟨_, rfl, HS4.out⟩, HB4.out⟩
    · cases q
      · clear hqg
        cases g
        · have f0 := b0 rfl
          have s1 := S1.out f0
          have f1 := n1 rfl
          have s3 := S3.out f1
          have HSp : Hid (specB s f true true false e1 e2 false e3 = (try9 f.data.toList s.data.toList (try9 f.data.toList s.data.toList (try9 f.data.toList s.data.toList (try9 f.data.toList s.data.toList [] st.data.toList) (st ++ ⟨#[101]⟩).data.toList) d3.data.toList) (d3 ++ ⟨#[121]⟩).data.toList)) := by
            obtain ⟨hst, hd3, hx2, hx3, hx4⟩ := HST.out
            show specB s f _ _ _ _ _ _ _ = _
            rw [hd3, hst]
            simp only [specB, o4B, o3B, o2B, o1B, oAB, Bool.false_and, Bool.and_false, Bool.true_and, Bool.and_true, Bool.false_eq_true, if_false, if_true]
          have HS0 := Lib.hid (strsN_new w)
          have HB0 : Hid (Below w.heap.size w (w.alloc (.cells #[] 9))) := (Below.refl _ _).alloc (Nat.le_refl _) _
          have HL0 : Hid (([] : List (List UInt8)).length ≤ 0) := Nat.le_refl _
          rw [HSp.out]
          clear b0 b1 b2 b3 n0 n1 HST HSp S1 S3 Sx2 Sx3 Sx4
          go_enter Try.func13, Try.ntmps13
          go_wp2_with fail
          refine (HW1.out _).mono ?_
          rintro e w' ⟨rfl, rfl⟩
          go_wp2_with fail
          refine (HW2.out _).mono ?_
          rintro e w' ⟨rfl, rfl⟩
          go_wp2_with fail
          refine (HE0.out _).mono ?_
          rintro e w' ⟨rfl, rfl⟩
          go_wp2_with fail
          have hx := CT.out 0 _ _ st _ HS0.out HL0.out (by decide) (by omega)
          refine hx.mono ?_
          clear hx
          rintro e w1 ⟨⟨u1', rfl, hsn, hln⟩, hb⟩
          have HS1 := Lib.hid hsn
          have HL1 := Lib.hid hln
          have HB1 := Lib.hid (HB0.out.trans (hb.mono HB0.out.size))
          clear hsn hln hb HS0 HL0 HB0
          go_wp2_with fail
          have hx := CT.out 1 _ _ (st ++ ⟨#[101]⟩) _ HS1.out HL1.out (by decide) (by simp only [ByteArray.size_append]; have := HK.out; omega)
          refine hx.mono ?_
          clear hx
          rintro e w2 ⟨⟨u2', rfl, hsn, hln⟩, hb⟩
          have HS2 := Lib.hid hsn
          have HL2 := Lib.hid hln
          have HB2 := Lib.hid (HB1.out.trans (hb.mono HB1.out.size))
          clear hsn hln hb HS1 HL1 HB1
          go_wp2_with fail
          have hx := CT.out 2 _ _ d3 _ HS2.out HL2.out (by decide) (by omega)
          refine hx.mono ?_
          clear hx
          rintro e w3 ⟨⟨u3', rfl, hsn, hln⟩, hb⟩
          have HS3 := Lib.hid hsn
          have HL3 := Lib.hid hln
          have HB3 := Lib.hid (HB2.out.trans (hb.mono HB2.out.size))
          clear hsn hln hb HS2 HL2 HB2
          go_wp2_with fail
          have hx := CT.out 3 _ _ (d3 ++ ⟨#[121]⟩) _ HS3.out HL3.out (by decide) (by simp only [ByteArray.size_append]; have := HK.out; omega)
          refine hx.mono ?_
          clear hx
          rintro e w4 ⟨⟨u4', rfl, hsn, hln⟩, hb⟩
          have HS4 := Lib.hid hsn
          have HL4 := Lib.hid hln
          have HB4 := Lib.hid (HB3.out.trans (hb.mono HB3.out.size))
          clear hsn hln hb HS3 HL3 HB3
          go_wp2
          go_ret2
          exact ⟨⟨_, rfl, HS4.out⟩, HB4.out⟩
        · cases e3
          · have f0 := b0 rfl
            have s1 := S1.out f0
            have f1 := n1 rfl
            have s3 := S3.out f1
            have HSp : Hid (specB s f true true false e1 e2 true false = (try9 f.data.toList s.data.toList (try9 f.data.toList s.data.toList (try9 f.data.toList s.data.toList (try9 f.data.toList s.data.toList [] st.data.toList) (st ++ ⟨#[101]⟩).data.toList) d3.data.toList) (d3 ++ ⟨#[121]⟩).data.toList)) := by
              obtain ⟨hst, hd3, hx2, hx3, hx4⟩ := HST.out
              show specB s f _ _ _ _ _ _ _ = _
              rw [hd3, hst]
              simp only [specB, o4B, o3B, o2B, o1B, oAB, Bool.false_and, Bool.and_false, Bool.true_and, Bool.and_true, Bool.false_eq_true, if_false, if_true]
            have HS0 := Lib.hid (strsN_new w)
            have HB0 : Hid (Below w.heap.size w (w.alloc (.cells #[] 9))) := (Below.refl _ _).alloc (Nat.le_refl _) _
            have HL0 : Hid (([] : List (List UInt8)).length ≤ 0) := Nat.le_refl _
            rw [HSp.out]
            clear b0 b1 b2 b3 n0 n1 HST HSp S1 S3 Sx2 Sx3 Sx4
            go_enter Try.func13, Try.ntmps13
            go_wp2_with fail
            refine (HW1.out _).mono ?_
            rintro e w' ⟨rfl, rfl⟩
            go_wp2_with fail
            refine (HW2.out _).mono ?_
            rintro e w' ⟨rfl, rfl⟩
            go_wp2_with fail
            refine (HE0.out _).mono ?_
            rintro e w' ⟨rfl, rfl⟩
            go_wp2_with fail
            have hx := CT.out 0 _ _ st _ HS0.out HL0.out (by decide) (by omega)
            refine hx.mono ?_
            clear hx
            rintro e w1 ⟨⟨u1', rfl, hsn, hln⟩, hb⟩
            have HS1 := Lib.hid hsn
            have HL1 := Lib.hid hln
            have HB1 := Lib.hid (HB0.out.trans (hb.mono HB0.out.size))
            clear hsn hln hb HS0 HL0 HB0
            go_wp2_with fail
            have hx := CT.out 1 _ _ (st ++ ⟨#[101]⟩) _ HS1.out HL1.out (by decide) (by simp only [ByteArray.size_append]; have := HK.out; omega)
            refine hx.mono ?_
            clear hx
            rintro e w2 ⟨⟨u2', rfl, hsn, hln⟩, hb⟩
            have HS2 := Lib.hid hsn
            have HL2 := Lib.hid hln
            have HB2 := Lib.hid (HB1.out.trans (hb.mono HB1.out.size))
            clear hsn hln hb HS1 HL1 HB1
            go_wp2_with fail
            have hx := CT.out 2 _ _ d3 _ HS2.out HL2.out (by decide) (by omega)
            refine hx.mono ?_
            clear hx
            rintro e w3 ⟨⟨u3', rfl, hsn, hln⟩, hb⟩
            have HS3 := Lib.hid hsn
            have HL3 := Lib.hid hln
            have HB3 := Lib.hid (HB2.out.trans (hb.mono HB2.out.size))
            clear hsn hln hb HS2 HL2 HB2
            go_wp2_with fail
            have hx := CT.out 3 _ _ (d3 ++ ⟨#[121]⟩) _ HS3.out HL3.out (by decide) (by simp only [ByteArray.size_append]; have := HK.out; omega)
            refine hx.mono ?_
            clear hx
            rintro e w4 ⟨⟨u4', rfl, hsn, hln⟩, hb⟩
            have HS4 := Lib.hid hsn
            have HL4 := Lib.hid hln
            have HB4 := Lib.hid (HB3.out.trans (hb.mono HB3.out.size))
            clear hsn hln hb HS3 HL3 HB3
            go_wp2_with fail
            refine (HE3.out _).mono ?_
            rintro e w104 ⟨rfl, hww⟩
            subst hww
            go_wp2
            go_ret2
            exact ⟨⟨_, rfl, HS4.out⟩, HB4.out⟩
          · have f0 := b0 rfl
            have s1 := S1.out f0
            have f1 := n1 rfl
            have s3 := S3.out f1
            have f4 := b3 rfl
            have sx4 := Sx4.out f4
            have HSp : Hid (specB s f true true false e1 e2 true true = (try9 f.data.toList s.data.toList (try9 f.data.toList s.data.toList (try9 f.data.toList s.data.toList (try9 f.data.toList s.data.toList (try9 f.data.toList s.data.toList [] st.data.toList) (st ++ ⟨#[101]⟩).data.toList) d3.data.toList) (d3 ++ ⟨#[121]⟩).data.toList) (x4 ++ ⟨#[105, 101]⟩).data.toList)) := by
              obtain ⟨hst, hd3, hx2, hx3, hx4⟩ := HST.out
              show specB s f _ _ _ _ _ _ _ = _
              rw [hd3, hst, hx4]
              simp only [specB, o4B, o3B, o2B, o1B, oAB, Bool.false_and, Bool.and_false, Bool.true_and, Bool.and_true, Bool.false_eq_true, if_false, if_true]
            have HS0 := Lib.hid (strsN_new w)
            have HB0 : Hid (Below w.heap.size w (w.alloc (.cells #[] 9))) := (Below.refl _ _).alloc (Nat.le_refl _) _
            have HL0 : Hid (([] : List (List UInt8)).length ≤ 0) := Nat.le_refl _
            rw [HSp.out]
            clear b0 b1 b2 b3 n0 n1 HST HSp S1 S3 Sx2 Sx3 Sx4
            go_enter Try.func13, Try.ntmps13
            go_wp2_with fail
            refine (HW1.out _).mono ?_
            rintro e w' ⟨rfl, rfl⟩
            go_wp2_with fail
            refine (HW2.out _).mono ?_
            rintro e w' ⟨rfl, rfl⟩
            go_wp2_with fail
            refine (HE0.out _).mono ?_
            rintro e w' ⟨rfl, rfl⟩
            go_wp2_with fail
            have hx := CT.out 0 _ _ st _ HS0.out HL0.out (by decide) (by omega)
            refine hx.mono ?_
            clear hx
            rintro e w1 ⟨⟨u1', rfl, hsn, hln⟩, hb⟩
            have HS1 := Lib.hid hsn
            have HL1 := Lib.hid hln
            have HB1 := Lib.hid (HB0.out.trans (hb.mono HB0.out.size))
            clear hsn hln hb HS0 HL0 HB0
            go_wp2_with fail
            have hx := CT.out 1 _ _ (st ++ ⟨#[101]⟩) _ HS1.out HL1.out (by decide) (by simp only [ByteArray.size_append]; have := HK.out; omega)
            refine hx.mono ?_
            clear hx
            rintro e w2 ⟨⟨u2', rfl, hsn, hln⟩, hb⟩
            have HS2 := Lib.hid hsn
            have HL2 := Lib.hid hln
            have HB2 := Lib.hid (HB1.out.trans (hb.mono HB1.out.size))
            clear hsn hln hb HS1 HL1 HB1
            go_wp2_with fail
            have hx := CT.out 2 _ _ d3 _ HS2.out HL2.out (by decide) (by omega)
            refine hx.mono ?_
            clear hx
            rintro e w3 ⟨⟨u3', rfl, hsn, hln⟩, hb⟩
            have HS3 := Lib.hid hsn
            have HL3 := Lib.hid hln
            have HB3 := Lib.hid (HB2.out.trans (hb.mono HB2.out.size))
            clear hsn hln hb HS2 HL2 HB2
            go_wp2_with fail
            have hx := CT.out 3 _ _ (d3 ++ ⟨#[121]⟩) _ HS3.out HL3.out (by decide) (by simp only [ByteArray.size_append]; have := HK.out; omega)
            refine hx.mono ?_
            clear hx
            rintro e w4 ⟨⟨u4', rfl, hsn, hln⟩, hb⟩
            have HS4 := Lib.hid hsn
            have HL4 := Lib.hid hln
            have HB4 := Lib.hid (HB3.out.trans (hb.mono HB3.out.size))
            clear hsn hln hb HS3 HL3 HB3
            go_wp2_with fail
            refine (HE3.out _).mono ?_
            rintro e w104 ⟨rfl, hww⟩
            subst hww
            go_wp2_with fail
            have hx := CT.out 4 _ _ (x4 ++ ⟨#[105, 101]⟩) _ HS4.out HL4.out (by decide) (by simp only [ByteArray.size_append]; have := HK.out; omega)
            refine hx.mono ?_
            clear hx
            rintro e w5 ⟨⟨u5', rfl, hsn, hln⟩, hb⟩
            have HS5 := Lib.hid hsn
            have HL5 := Lib.hid hln
            have HB5 := Lib.hid (HB4.out.trans (hb.mono HB4.out.size))
            clear hsn hln hb HS4 HL4 HB4
            go_wp2
            go_ret2
            exact ⟨⟨_, rfl, HS5.out⟩, HB5.out⟩
      · have hg0 := hqg rfl
        clear hqg
        subst hg0
        cases e1
        · cases e2
          · have f0 := b0 rfl
            have s1 := S1.out f0
            have f1 := n1 rfl
            have s3 := S3.out f1
            have HSp : Hid (specB s f true true true false false false e3 = (try9 f.data.toList s.data.toList (try9 f.data.toList s.data.toList (try9 f.data.toList s.data.toList (try9 f.data.toList s.data.toList [] st.data.toList) (st ++ ⟨#[101]⟩).data.toList) d3.data.toList) (d3 ++ ⟨#[121]⟩).data.toList)) := by
              obtain ⟨hst, hd3, hx2, hx3, hx4⟩ := HST.out
              show specB s f _ _ _ _ _ _ _ = _
              rw [hd3, hst]
              simp only [specB, o4B, o3B, o2B, o1B, oAB, Bool.false_and, Bool.and_false, Bool.true_and, Bool.and_true, Bool.false_eq_true, if_false, if_true]
            have HS0 := Lib.hid (strsN_new w)
            have HB0 : Hid (Below w.heap.size w (w.alloc (.cells #[] 9))) := (Below.refl _ _).alloc (Nat.le_refl _) _
            have HL0 : Hid (([] : List (List UInt8)).length ≤ 0) := Nat.le_refl _
            rw [HSp.out]
            clear b0 b1 b2 b3 n0 n1 HST HSp S1 S3 Sx2 Sx3 Sx4
            go_enter Try.func13, Try.ntmps13
            go_wp2_with fail
            refine (HW1.out _).mono ?_
            rintro e w' ⟨rfl, rfl⟩
            go_wp2_with fail
            refine (HW2.out _).mono ?_
            rintro e w' ⟨rfl, rfl⟩
            go_wp2_with fail
            refine (HE0.out _).mono ?_
            rintro e w' ⟨rfl, rfl⟩
            go_wp2_with fail
            have hx := CT.out 0 _ _ st _ HS0.out HL0.out (by decide) (by omega)
            refine hx.mono ?_
            clear hx
            rintro e w1 ⟨⟨u1', rfl, hsn, hln⟩, hb⟩
            have HS1 := Lib.hid hsn
            have HL1 := Lib.hid hln
            have HB1 := Lib.hid (HB0.out.trans (hb.mono HB0.out.size))
            clear hsn hln hb HS0 HL0 HB0
            go_wp2_with fail
            have hx := CT.out 1 _ _ (st ++ ⟨#[101]⟩) _ HS1.out HL1.out (by decide) (by simp only [ByteArray.size_append]; have := HK.out; omega)
            refine hx.mono ?_
            clear hx
            rintro e w2 ⟨⟨u2', rfl, hsn, hln⟩, hb⟩
            have HS2 := Lib.hid hsn
            have HL2 := Lib.hid hln
            have HB2 := Lib.hid (HB1.out.trans (hb.mono HB1.out.size))
            clear hsn hln hb HS1 HL1 HB1
            go_wp2_with fail
            have hx := CT.out 2 _ _ d3 _ HS2.out HL2.out (by decide) (by omega)
            refine hx.mono ?_
            clear hx
            rintro e w3 ⟨⟨u3', rfl, hsn, hln⟩, hb⟩
            have HS3 := Lib.hid hsn
            have HL3 := Lib.hid hln
            have HB3 := Lib.hid (HB2.out.trans (hb.mono HB2.out.size))
            clear hsn hln hb HS2 HL2 HB2
            go_wp2_with fail
            have hx := CT.out 3 _ _ (d3 ++ ⟨#[121]⟩) _ HS3.out HL3.out (by decide) (by simp only [ByteArray.size_append]; have := HK.out; omega)
            refine hx.mono ?_
            clear hx
            rintro e w4 ⟨⟨u4', rfl, hsn, hln⟩, hb⟩
            have HS4 := Lib.hid hsn
            have HL4 := Lib.hid hln
            have HB4 := Lib.hid (HB3.out.trans (hb.mono HB3.out.size))
            clear hsn hln hb HS3 HL3 HB3
            go_wp2_with fail
            refine (HE1.out _).mono ?_
            rintro e w104 ⟨rfl, hww⟩
            subst hww
            go_wp2_with fail
            refine (HE2.out _).mono ?_
            rintro e w104 ⟨rfl, hww⟩
            subst hww
            go_wp2
            go_ret2
            exact ⟨⟨_, rfl, HS4.out⟩, HB4.out⟩
          · have f0 := b0 rfl
            have s1 := S1.out f0
            have f1 := n1 rfl
            have s3 := S3.out f1
            have f3 := b2 rfl
            have sx3 := Sx3.out f3
            have HSp : Hid (specB s f true true true false true false e3 = (try9 f.data.toList s.data.toList (try9 f.data.toList s.data.toList (try9 f.data.toList s.data.toList (try9 f.data.toList s.data.toList (try9 f.data.toList s.data.toList [] st.data.toList) (st ++ ⟨#[101]⟩).data.toList) d3.data.toList) (d3 ++ ⟨#[121]⟩).data.toList) (x3 ++ ⟨#[121]⟩).data.toList)) := by
              obtain ⟨hst, hd3, hx2, hx3, hx4⟩ := HST.out
              show specB s f _ _ _ _ _ _ _ = _
              rw [hd3, hst, hx3]
              simp only [specB, o4B, o3B, o2B, o1B, oAB, Bool.false_and, Bool.and_false, Bool.true_and, Bool.and_true, Bool.false_eq_true, if_false, if_true]
            have HS0 := Lib.hid (strsN_new w)
            have HB0 : Hid (Below w.heap.size w (w.alloc (.cells #[] 9))) := (Below.refl _ _).alloc (Nat.le_refl _) _
            have HL0 : Hid (([] : List (List UInt8)).length ≤ 0) := Nat.le_refl _
            rw [HSp.out]
            clear b0 b1 b2 b3 n0 n1 HST HSp S1 S3 Sx2 Sx3 Sx4
            go_enter Try.func13, Try.ntmps13
            go_wp2_with fail
            refine (HW1.out _).mono ?_
            rintro e w' ⟨rfl, rfl⟩
            go_wp2_with fail
            refine (HW2.out _).mono ?_
            rintro e w' ⟨rfl, rfl⟩
            go_wp2_with fail
            refine (HE0.out _).mono ?_
            rintro e w' ⟨rfl, rfl⟩
            go_wp2_with fail
            have hx := CT.out 0 _ _ st _ HS0.out HL0.out (by decide) (by omega)
            refine hx.mono ?_
            clear hx
            rintro e w1 ⟨⟨u1', rfl, hsn, hln⟩, hb⟩
            have HS1 := Lib.hid hsn
            have HL1 := Lib.hid hln
            have HB1 := Lib.hid (HB0.out.trans (hb.mono HB0.out.size))
            clear hsn hln hb HS0 HL0 HB0
            go_wp2_with fail
            have hx := CT.out 1 _ _ (st ++ ⟨#[101]⟩) _ HS1.out HL1.out (by decide) (by simp only [ByteArray.size_append]; have := HK.out; omega)
            refine hx.mono ?_
            clear hx
            rintro e w2 ⟨⟨u2', rfl, hsn, hln⟩, hb⟩
            have HS2 := Lib.hid hsn
            have HL2 := Lib.hid hln
            have HB2 := Lib.hid (HB1.out.trans (hb.mono HB1.out.size))
            clear hsn hln hb HS1 HL1 HB1
            go_wp2_with fail
            have hx := CT.out 2 _ _ d3 _ HS2.out HL2.out (by decide) (by omega)
            refine hx.mono ?_
            clear hx
            rintro e w3 ⟨⟨u3', rfl, hsn, hln⟩, hb⟩
            have HS3 := Lib.hid hsn
            have HL3 := Lib.hid hln
            have HB3 := Lib.hid (HB2.out.trans (hb.mono HB2.out.size))
            clear hsn hln hb HS2 HL2 HB2
            go_wp2_with fail
            have hx := CT.out 3 _ _ (d3 ++ ⟨#[121]⟩) _ HS3.out HL3.out (by decide) (by simp only [ByteArray.size_append]; have := HK.out; omega)
            refine hx.mono ?_
            clear hx
            rintro e w4 ⟨⟨u4', rfl, hsn, hln⟩, hb⟩
            have HS4 := Lib.hid hsn
            have HL4 := Lib.hid hln
            have HB4 := Lib.hid (HB3.out.trans (hb.mono HB3.out.size))
            clear hsn hln hb HS3 HL3 HB3
            go_wp2_with fail
            refine (HE1.out _).mono ?_
            rintro e w104 ⟨rfl, hww⟩
            subst hww
            go_wp2_with fail
            refine (HE2.out _).mono ?_
            rintro e w104 ⟨rfl, hww⟩
            subst hww
            go_wp2_with fail
            have hx := CT.out 4 _ _ (x3 ++ ⟨#[121]⟩) _ HS4.out HL4.out (by decide) (by simp only [ByteArray.size_append]; have := HK.out; omega)
            refine hx.mono ?_
            clear hx
            rintro e w5 ⟨⟨u5', rfl, hsn, hln⟩, hb⟩
            have HS5 := Lib.hid hsn
            have HL5 := Lib.hid hln
            have HB5 := Lib.hid (HB4.out.trans (hb.mono HB4.out.size))
            clear hsn hln hb HS4 HL4 HB4
            go_wp2
            go_ret2
            exact ⟨⟨_, rfl, HS5.out⟩, HB5.out⟩
        · cases e2
          · have f0 := b0 rfl
            have s1 := S1.out f0
            have f1 := n1 rfl
            have s3 := S3.out f1
            have f2 := b1 rfl
            have sx2 := Sx2.out f2
            have HSp : Hid (specB s f true true true true false false e3 = (try9 f.data.toList s.data.toList (try9 f.data.toList s.data.toList (try9 f.data.toList s.data.toList (try9 f.data.toList s.data.toList (try9 f.data.toList s.data.toList [] st.data.toList) (st ++ ⟨#[101]⟩).data.toList) d3.data.toList) (d3 ++ ⟨#[121]⟩).data.toList) x2.data.toList)) := by
              obtain ⟨hst, hd3, hx2, hx3, hx4⟩ := HST.out
              show specB s f _ _ _ _ _ _ _ = _
              rw [hd3, hst, hx2]
              simp only [specB, o4B, o3B, o2B, o1B, oAB, Bool.false_and, Bool.and_false, Bool.true_and, Bool.and_true, Bool.false_eq_true, if_false, if_true]
            have HS0 := Lib.hid (strsN_new w)
            have HB0 : Hid (Below w.heap.size w (w.alloc (.cells #[] 9))) := (Below.refl _ _).alloc (Nat.le_refl _) _
            have HL0 : Hid (([] : List (List UInt8)).length ≤ 0) := Nat.le_refl _
            rw [HSp.out]
            clear b0 b1 b2 b3 n0 n1 HST HSp S1 S3 Sx2 Sx3 Sx4
            go_enter Try.func13, Try.ntmps13
            go_wp2_with fail
            refine (HW1.out _).mono ?_
            rintro e w' ⟨rfl, rfl⟩
            go_wp2_with fail
            refine (HW2.out _).mono ?_
            rintro e w' ⟨rfl, rfl⟩
            go_wp2_with fail
            refine (HE0.out _).mono ?_
            rintro e w' ⟨rfl, rfl⟩
            go_wp2_with fail
            have hx := CT.out 0 _ _ st _ HS0.out HL0.out (by decide) (by omega)
            refine hx.mono ?_
            clear hx
            rintro e w1 ⟨⟨u1', rfl, hsn, hln⟩, hb⟩
            have HS1 := Lib.hid hsn
            have HL1 := Lib.hid hln
            have HB1 := Lib.hid (HB0.out.trans (hb.mono HB0.out.size))
            clear hsn hln hb HS0 HL0 HB0
            go_wp2_with fail
            have hx := CT.out 1 _ _ (st ++ ⟨#[101]⟩) _ HS1.out HL1.out (by decide) (by simp only [ByteArray.size_append]; have := HK.out; omega)
            refine hx.mono ?_
            clear hx
            rintro e w2 ⟨⟨u2', rfl, hsn, hln⟩, hb⟩
            have HS2 := Lib.hid hsn
            have HL2 := Lib.hid hln
            have HB2 := Lib.hid (HB1.out.trans (hb.mono HB1.out.size))
            clear hsn hln hb HS1 HL1 HB1
            go_wp2_with fail
            have hx := CT.out 2 _ _ d3 _ HS2.out HL2.out (by decide) (by omega)
            refine hx.mono ?_
            clear hx
            rintro e w3 ⟨⟨u3', rfl, hsn, hln⟩, hb⟩
            have HS3 := Lib.hid hsn
            have HL3 := Lib.hid hln
            have HB3 := Lib.hid (HB2.out.trans (hb.mono HB2.out.size))
            clear hsn hln hb HS2 HL2 HB2
            go_wp2_with fail
            have hx := CT.out 3 _ _ (d3 ++ ⟨#[121]⟩) _ HS3.out HL3.out (by decide) (by simp only [ByteArray.size_append]; have := HK.out; omega)
            refine hx.mono ?_
            clear hx
            rintro e w4 ⟨⟨u4', rfl, hsn, hln⟩, hb⟩
            have HS4 := Lib.hid hsn
            have HL4 := Lib.hid hln
            have HB4 := Lib.hid (HB3.out.trans (hb.mono HB3.out.size))
            clear hsn hln hb HS3 HL3 HB3
            go_wp2_with fail
            refine (HE1.out _).mono ?_
            rintro e w104 ⟨rfl, hww⟩
            subst hww
            go_wp2_with fail
            have hx := CT.out 4 _ _ x2 _ HS4.out HL4.out (by decide) (by omega)
            refine hx.mono ?_
            clear hx
            rintro e w5 ⟨⟨u5', rfl, hsn, hln⟩, hb⟩
            have HS5 := Lib.hid hsn
            have HL5 := Lib.hid hln
            have HB5 := Lib.hid (HB4.out.trans (hb.mono HB4.out.size))
            clear hsn hln hb HS4 HL4 HB4
            go_wp2_with fail
            refine (HE2.out _).mono ?_
            rintro e w105 ⟨rfl, hww⟩
            subst hww
            go_wp2
            go_ret2
            exact ⟨⟨_, rfl, HS5.out⟩, HB5.out⟩
          · have f0 := b0 rfl
            have s1 := S1.out f0
            have f1 := n1 rfl
            have s3 := S3.out f1
            have f2 := b1 rfl
            have sx2 := Sx2.out f2
            have f3 := b2 rfl
            have sx3 := Sx3.out f3
            have HSp : Hid (specB s f true true true true true false e3 = (try9 f.data.toList s.data.toList (try9 f.data.toList s.data.toList (try9 f.data.toList s.data.toList (try9 f.data.toList s.data.toList (try9 f.data.toList s.data.toList (try9 f.data.toList s.data.toList [] st.data.toList) (st ++ ⟨#[101]⟩).data.toList) d3.data.toList) (d3 ++ ⟨#[121]⟩).data.toList) x2.data.toList) (x3 ++ ⟨#[121]⟩).data.toList)) := by
              obtain ⟨hst, hd3, hx2, hx3, hx4⟩ := HST.out
              show specB s f _ _ _ _ _ _ _ = _
              rw [hd3, hst, hx2, hx3]
              simp only [specB, o4B, o3B, o2B, o1B, oAB, Bool.false_and, Bool.and_false, Bool.true_and, Bool.and_true, Bool.false_eq_true, if_false, if_true]
            have HS0 := Lib.hid (strsN_new w)
            have HB0 : Hid (Below w.heap.size w (w.alloc (.cells #[] 9))) := (Below.refl _ _).alloc (Nat.le_refl _) _
            have HL0 : Hid (([] : List (List UInt8)).length ≤ 0) := Nat.le_refl _
            rw [HSp.out]
            clear b0 b1 b2 b3 n0 n1 HST HSp S1 S3 Sx2 Sx3 Sx4
            go_enter Try.func13, Try.ntmps13
            go_wp2_with fail
            refine (HW1.out _).mono ?_
            rintro e w' ⟨rfl, rfl⟩
            go_wp2_with fail
            refine (HW2.out _).mono ?_
            rintro e w' ⟨rfl, rfl⟩
            go_wp2_with fail
            refine (HE0.out _).mono ?_
            rintro e w' ⟨rfl, rfl⟩
            go_wp2_with fail
            have hx := CT.out 0 _ _ st _ HS0.out HL0.out (by decide) (by omega)
            refine hx.mono ?_
            clear hx
            rintro e w1 ⟨⟨u1', rfl, hsn, hln⟩, hb⟩
            have HS1 := Lib.hid hsn
            have HL1 := Lib.hid hln
            have HB1 := Lib.hid (HB0.out.trans (hb.mono HB0.out.size))
            clear hsn hln hb HS0 HL0 HB0
            go_wp2_with fail
            have hx := CT.out 1 _ _ (st ++ ⟨#[101]⟩) _ HS1.out HL1.out (by decide) (by simp only [ByteArray.size_append]; have := HK.out; omega)
            refine hx.mono ?_
            clear hx
            rintro e w2 ⟨⟨u2', rfl, hsn, hln⟩, hb⟩
            have HS2 := Lib.hid hsn
            have HL2 := Lib.hid hln
            have HB2 := Lib.hid (HB1.out.trans (hb.mono HB1.out.size))
            clear hsn hln hb HS1 HL1 HB1
            go_wp2_with fail
            have hx := CT.out 2 _ _ d3 _ HS2.out HL2.out (by decide) (by omega)
            refine hx.mono ?_
            clear hx
            rintro e w3 ⟨⟨u3', rfl, hsn, hln⟩, hb⟩
            have HS3 := Lib.hid hsn
            have HL3 := Lib.hid hln
            have HB3 := Lib.hid (HB2.out.trans (hb.mono HB2.out.size))
            clear hsn hln hb HS2 HL2 HB2
            go_wp2_with fail
            have hx := CT.out 3 _ _ (d3 ++ ⟨#[121]⟩) _ HS3.out HL3.out (by decide) (by simp only [ByteArray.size_append]; have := HK.out; omega)
            refine hx.mono ?_
            clear hx
            rintro e w4 ⟨⟨u4', rfl, hsn, hln⟩, hb⟩
            have HS4 := Lib.hid hsn
            have HL4 := Lib.hid hln
            have HB4 := Lib.hid (HB3.out.trans (hb.mono HB3.out.size))
            clear hsn hln hb HS3 HL3 HB3
            go_wp2_with fail
            refine (HE1.out _).mono ?_
            rintro e w104 ⟨rfl, hww⟩
            subst hww
            go_wp2_with fail
            have hx := CT.out 4 _ _ x2 _ HS4.out HL4.out (by decide) (by omega)
            refine hx.mono ?_
            clear hx
            rintro e w5 ⟨⟨u5', rfl, hsn, hln⟩, hb⟩
            have HS5 := Lib.hid hsn
            have HL5 := Lib.hid hln
            have HB5 := Lib.hid (HB4.out.trans (hb.mono HB4.out.size))
            clear hsn hln hb HS4 HL4 HB4
            go_wp2_with fail
            refine (HE2.out _).mono ?_
            rintro e w105 ⟨rfl, hww⟩
            subst hww
            go_wp2_with fail
            have hx := CT.out 5 _ _ (x3 ++ ⟨#[121]⟩) _ HS5.out HL5.out (by decide) (by simp only [ByteArray.size_append]; have := HK.out; omega)
            refine hx.mono ?_
            clear hx
            rintro e w6 ⟨⟨u6', rfl, hsn, hln⟩, hb⟩
            have HS6 := Lib.hid hsn
            have HL6 := Lib.hid hln
            have HB6 := Lib.hid (HB5.out.trans (hb.mono HB5.out.size))
            clear hsn hln hb HS5 HL5 HB5
            go_wp2
            go_ret2
            exact ⟨⟨_, rfl, HS6.out⟩, HB6.out⟩
/-- The specification's words. -/
theorem specSplitSuffix_any (s f : ByteArray) (w : World) (hs : s.size ≤ 1048600) (hf : f.size ≤ 1048600) :
    Calls Try.prog 13 #[.string s, .string f] w fun e w' => (∃ v, e = .returned (.tuple #[v, .bool (Pl.wordB s.data.toList && Pl.wordB f.data.toList)]) ∧ StrsN w' v ((splitL s.data.toList f.data.toList).map ofL)) ∧ Below w.heap.size w w' := by
  cases hw1 : Pl.wordB s.data.toList
  · have HW1 := Lib.hid (fun w => l9Word_any s w (by unfold maxLen; omega))
    rw [hw1] at HW1
    have HL : Hid (splitL s.data.toList f.data.toList = []) := by show splitL _ _ = _; unfold splitL; rw [hw1]; rfl
    have HN := Lib.hid (strsN_new w)
    rw [Bool.false_and]
    clear hw1
    go_enter Try.func13, Try.ntmps13
    go_wp2_with fail
    refine (HW1.out _).mono ?_
    rintro e w' ⟨rfl, rfl⟩
    go_wp2
    go_ret2
    rw [HL.out]
    exact ⟨⟨_, rfl, HN.out⟩, (Below.refl _ _).alloc (Nat.le_refl _) _⟩
  cases hw2 : Pl.wordB f.data.toList
  · have HW1 := Lib.hid (fun w => l9Word_any s w (by unfold maxLen; omega))
    have HW2 := Lib.hid (fun w => l9Word_any f w (by unfold maxLen; omega))
    rw [hw1] at HW1
    rw [hw2] at HW2
    have HL : Hid (splitL s.data.toList f.data.toList = []) := by show splitL _ _ = _; unfold splitL; rw [hw1, hw2]; rfl
    have HN := Lib.hid (strsN_new w)
    rw [Bool.and_false]
    clear hw1 hw2
    go_enter Try.func13, Try.ntmps13
    go_wp2_with fail
    refine (HW1.out _).mono ?_
    rintro e w' ⟨rfl, rfl⟩
    go_wp2_with fail
    refine (HW2.out _).mono ?_
    rintro e w' ⟨rfl, rfl⟩
    go_wp2
    go_ret2
    rw [HL.out]
    exact ⟨⟨_, rfl, HN.out⟩, (Below.refl _ _).alloc (Nat.le_refl _) _⟩
  obtain ⟨hs1, hs2⟩ := wordB_size hw1
  obtain ⟨hf1, hf2⟩ := wordB_size hw2
  have key : ∀ l : List UInt8, decide (f.data.toList = l) = (f.toList == l) := fun l => by
    rw [Lib.toList_data, Bool.eq_iff_iff]; simp
  rw [← specB_eq s f hw1 hw2, key, key]
  refine specSplit_words s f w hs2 hf2 hf1 hw1 hw2 _ _ _ _ _ _ _ rfl rfl rfl rfl rfl rfl rfl fun h => ?_
  rw [beq_iff_eq] at h
  rw [h]; rfl
end Go.Proofs.Ytagbffnabjngfaa
