/-
  CONTRACTS of the draws of chapter 2: stroke, anyStroke, spoilt, DrawFormatStroke, DrawParseStroke, DrawParseLooseStroke, DrawNewStroke, DrawHasKey, DrawMergeStrokes.
-/
import Derived.Test.YtiajaeaffmmckaaDraw
import Derived.Test.YtiajaeaffmmckaaKeys
namespace Go.Proofs.Ytiajaeaffmmckaa
set_option maxRecDepth 100000
open Go.RowKit
/-- The call gives a text of at most m bytes. -/
def Text (m : Nat) (e : Ending) : Prop := ∃ x : ByteArray, x.size ≤ m ∧ e = .returned (.string x)
theorem ext_size (t : ByteArray) (i j : Nat) (h : j ≤ t.size) : (t.extract i j).size ≤ j - i := by rw [ByteArray.size_extract]; omega


theorem own_keepI {w w' : World} {base B : Nat} {v : Value} {n : Nat} {xs : List Value} (h : w.ownsRow base 3 1 v n xs) (hg : w.grownBy w' (some B)) (hB : B < base) : w'.ownsRow base 3 1 v n xs := by
  refine h.kept hg ?_
  rcases h.2 with ⟨rfl, _⟩ | ⟨g, cap, cur, rfl, hb, _⟩
  · exact .inl rfl
  · refine .inr fun e => ?_
    have : g = B := by simpa [Value.ownBlock] using e
    omega

set_option maxHeartbeats 2000000 in
theorem spoilt_any (B N : Nat) (t wb : ByteArray) (w : World) (h : Cur w B N) (hN : N ≤ 990000) (ht : t.size ≤ 60000) (hw0 : 1 ≤ wb.size) (hw1 : wb.size ≤ 1000) :
    Calls Try.prog 46 #[.pointer (some ⟨B, 0, none⟩), .string t, .string wb] w fun e w' => Text (t.size + 1) e ∧ Cur w' B (N + 6) ∧ w.grownBy w' (some B) := by
  have CP := Lib.hid (fun N n w h hN h0 h1 => pick_any B N n w h hN h0 h1)
  have HC0 := Lib.hid h
  clear h
  by_cases h0 : t = ⟨#[]⟩
  · have e1 : t.toList.isEmpty = true := by rw [Lib.toList_data, h0]; rfl
    have hT : Hid (Text (t.size + 1) (.returned (.string (wb.extract 0 1)))) := ⟨_, by have := ext_size wb 0 1 hw0; omega, rfl⟩
    subst h0
    go_enter Try.func46, Try.ntmps46
    go_wp2
    go_ret
    exact ⟨hT.out, HC0.out.mono (by omega), ⟨rfl, rfl, rfl, Nat.le_refl _, fun _ _ _ => rfl⟩⟩
  · have e1 : t.toList.isEmpty = false := by
      rw [Lib.toList_data]
      cases h : t.data.toList with
      | nil => exact absurd (bytes_mk h) h0
      | cons x l => rfl
    have ht0 : 1 ≤ t.size := by
      rcases Nat.eq_zero_or_pos t.size with h | h
      · exfalso; apply h0
        apply ByteArray.ext
        exact Array.eq_empty_of_size_eq_zero h
      · exact h
    clear h0
    go_enter Try.func46, Try.ntmps46
    go_wp2_with fail
    refine (CP.out _ _ _ HC0.out (by omega) (by omega) (by omega)).mono ?_
    rintro e w1 ⟨⟨r, r0, r1, rfl⟩, hc1, hg1⟩
    obtain ⟨i, rfl⟩ := Int.eq_ofNat_of_zero_le r0
    have hi : i < t.size := by omega
    have HC1 := Lib.hid hc1
    have HG1 := Lib.hid hg1
    clear hc1 hg1
    go_wp2_with fail
    refine (CP.out _ _ _ HC1.out (by omega) (by omega) (by omega)).mono ?_
    rintro e w2 ⟨⟨r, r0, r1, rfl⟩, hc2, hg2⟩
    obtain ⟨j, rfl⟩ := Int.eq_ofNat_of_zero_le r0
    have hj : j < wb.size := by omega
    have HC2 := Lib.hid hc2
    have HG2 := Lib.hid (Lib.grownBy_trans HG1.out hg2)
    have hsx : (wb.extract j wb.size).size = wb.size - j := by rw [ByteArray.size_extract]; omega
    clear hc2 hg2
    go_wp2_with fail
    refine (CP.out _ _ _ HC2.out (by omega) (by omega) (by omega)).mono ?_
    rintro e w3 ⟨⟨r, r0, r1, rfl⟩, hc3, hg3⟩
    have HC3 := Lib.hid hc3
    have HG3 := Lib.hid (Lib.grownBy_trans HG2.out hg3)
    clear hc3 hg3
    obtain ⟨W, hW⟩ : ∃ W, W = (wb.extract j wb.size).extract 0 1 := ⟨_, rfl⟩
    have hWs : W.size ≤ 1 := by rw [hW]; exact ext_size _ _ _ (by omega)
    rw [← hW]
    have a1 := ext_size t 0 i (by omega)
    have a2 := ext_size t i t.size (Nat.le_refl _)
    have a3 := ext_size t (i + 1) t.size (Nat.le_refl _)
    have s1 := fun w => run_slice_string_h (P := Try.prog) w 9 t Try.underlying9 .i64 (i : Int) (by omega) (by omega)
    have s2 := fun w => run_slice_string_l (P := Try.prog) w 9 t Try.underlying9 .i64 (i : Int) (by omega) (by omega)
    have s3 := fun w => run_slice_string_l (P := Try.prog) w 9 t Try.underlying9 .i64 ((i : Int) + 1) (by omega) (by omega)
    rw [show (i : Int).toNat = i from Int.toNat_natCast i] at s1 s2
    rw [show ((i : Int) + 1).toNat = i + 1 by omega] at s3
    obtain ⟨A, hA⟩ : ∃ A, A = t.extract 0 i := ⟨_, rfl⟩
    obtain ⟨C, hC⟩ : ∃ C, C = t.extract i t.size := ⟨_, rfl⟩
    obtain ⟨D, hD⟩ : ∃ D, D = t.extract (i + 1) t.size := ⟨_, rfl⟩
    rw [← hA] at a1 s1
    rw [← hC] at a2 s2
    rw [← hD] at a3 s3
    clear hsx hW hA hC hD
    by_cases hr0 : r = 0
    · subst hr0
      go_wp2
      go_quiet (fail)
      go_wp2
      go_ret
      exact ⟨⟨_, by simp only [ByteArray.size_append]; omega, rfl⟩, (HC3.out.mono (by omega)).below (below_drewN (Below.refl _ _) nq), Lib.grownBy_below HG3.out (below_drewN (Below.refl _ _) nq)⟩
    · have hr0' : (r == 0) = false := by simp; omega
      by_cases hr1 : r = 1
      · subst hr1
        go_wp2
        go_quiet (fail)
        go_wp2
        go_ret
        exact ⟨⟨_, by simp only [ByteArray.size_append]; omega, rfl⟩, (HC3.out.mono (by omega)).below (below_drewN (Below.refl _ _) nq), Lib.grownBy_below HG3.out (below_drewN (Below.refl _ _) nq)⟩
      · have hr1' : (r == 1) = false := by simp; omega
        go_wp2
        go_quiet (fail)
        go_wp2
        go_ret
        exact ⟨⟨_, by simp only [ByteArray.size_append]; omega, rfl⟩, (HC3.out.mono (by omega)).below (below_drewN (Below.refl _ _) nq), Lib.grownBy_below HG3.out (below_drewN (Below.refl _ _) nq)⟩

end Go.Proofs.Ytiajaeaffmmckaa
