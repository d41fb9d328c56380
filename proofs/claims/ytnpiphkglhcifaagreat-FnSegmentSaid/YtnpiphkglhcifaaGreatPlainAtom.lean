/-
  PLAIN MATHEMATICS of chapter 5: atoms, their notation, translations. Nothing of the program stands here.
-/
import Derived.Test.YtnpiphkglhcifaaGreatPlainOut
namespace Go.Proofs.YtnpiphkglhcifaaGreat.Pl
set_option maxRecDepth 100000
open Go

/-- A byte of word text. -/
def wordC (b : UInt8) : Bool := (decide (33 ≤ b.toNat) && decide (b.toNat ≤ 126)) && !(b == 123 || b == 125 || b == 94 || b == 38 || b == 35 || b == 62)
def wordL (t : List UInt8) : Bool := t.all wordC && (decide (1 ≤ t.length) && decide (t.length ≤ 20))
/-- Is this kind with this text an atom? -/
def goodA (k : Int) (t : List UInt8) : Bool :=
  if 1 ≤ k ∧ k ≤ 5 then wordL t
  else if k = 6 then t == [46] || t == [33] || t == [63]
  else if k = 7 then t == [44] || t == [59] || t == [58]
  else if 8 ≤ k ∧ k ≤ 10 then t == []
  else false
/-- The notation of an atom. -/
def fmtA (k : Int) (t : List UInt8) : List UInt8 :=
  if k = 1 then t
  else if k = 2 then [123, 94] ++ t ++ [125]
  else if k = 3 then [123] ++ t ++ [94, 125]
  else if k = 4 then [123, 94] ++ t ++ [94, 125]
  else if k = 5 then [123, 38] ++ t ++ [125]
  else if k = 8 then [123, 45, 124, 125]
  else if k = 9 then [123, 62, 125]
  else if k = 10 then [123, 42, 45, 124, 125]
  else [123] ++ t ++ [125]
/-- What stands within the braces. -/
def kindI (t : List UInt8) : Int × List UInt8 :=
  if t = [45, 124] then (8, [])
  else if t = [62] then (9, [])
  else if t = [42, 45, 124] then (10, [])
  else if t = [46] ∨ t = [33] ∨ t = [63] then (6, t)
  else if t = [44] ∨ t = [59] ∨ t = [58] then (7, t)
  else if t.getD 0 0 = 38 then (5, t.drop 1)
  else if t.getD 0 0 = 94 ∧ t.getD (t.length - 1) 0 = 94 ∧ 2 < t.length then (4, (t.drop 1).take (t.length - 2))
  else if t.getD 0 0 = 94 then (2, t.drop 1)
  else if t.getD (t.length - 1) 0 = 94 then (3, t.take (t.length - 1))
  else (0, [])
def kindA (s : List UInt8) : Int × List UInt8 :=
  if s.length < 3 ∨ s.getD 0 0 ≠ 123 ∨ s.getD (s.length - 1) 0 ≠ 125 then (1, s) else kindI ((s.drop 1).take (s.length - 2))
def parOk (s : List UInt8) : Bool := goodA (kindA s).1 (kindA s).2 && (fmtA (kindA s).1 (kindA s).2 == s)
/-- Reading an atom. -/
def parA (s : List UInt8) : Int × List UInt8 := if parOk s = true then kindA s else (0, [])

theorem word_parts {t : List UInt8} (h : wordL t = true) : 1 ≤ t.length ∧ t.length ≤ 20 ∧ ∀ b ∈ t, wordC b = true := by
  unfold wordL at h
  rw [Bool.and_eq_true, Bool.and_eq_true, decide_eq_true_eq, decide_eq_true_eq, List.all_eq_true] at h
  exact ⟨h.2.1, h.2.2, h.1⟩
theorem wordC_ne {b : UInt8} (h : wordC b = true) : b ≠ 123 ∧ b ≠ 125 ∧ b ≠ 94 ∧ b ≠ 38 ∧ b ≠ 62 ∧ b ≠ 32 := by
  refine ⟨?_, ?_, ?_, ?_, ?_, ?_⟩ <;> (rintro rfl; revert h; decide)
theorem getD_first (x : UInt8) (t : List UInt8) : (x :: t).getD 0 0 = x := rfl
theorem getD_last (t : List UInt8) (x : UInt8) : (t ++ [x]).getD ((t ++ [x]).length - 1) 0 = x := by
  rw [List.length_append, List.length_singleton, Nat.add_sub_cancel]
  simp [List.getD]
theorem inner (x y : UInt8) (t : List UInt8) : ((([x] ++ t ++ [y] : List UInt8).drop 1).take (([x] ++ t ++ [y] : List UInt8).length - 2)) = t := by
  simp
theorem kindA_in (t : List UInt8) (h : 1 ≤ t.length) : kindA ([123] ++ t ++ [125]) = kindI t := by
  unfold kindA
  rw [if_neg, inner]
  rintro (h' | h' | h')
  · simp at h'; omega
  · exact h' rfl
  · exact h' (getD_last _ _)
theorem word_first {t : List UInt8} (h : wordL t = true) : wordC (t.getD 0 0) = true := by
  obtain ⟨h1, _, h3⟩ := word_parts h
  cases t with
  | nil => simp at h1
  | cons x t => exact h3 x List.mem_cons_self
theorem word_last {t : List UInt8} (h : wordL t = true) : wordC (t.getD (t.length - 1) 0) = true := by
  obtain ⟨h1, _, h3⟩ := word_parts h
  refine h3 _ ?_
  rw [List.getD_eq_getElem?_getD, List.getElem?_eq_getElem (by omega)]
  exact List.getElem_mem _
theorem first_app {t u : List UInt8} (h : 1 ≤ t.length) : (t ++ u).getD 0 0 = t.getD 0 0 := by
  cases t with
  | nil => simp at h
  | cons x t => rfl
theorem last_app {t u : List UInt8} (h : 1 ≤ u.length) : (t ++ u).getD ((t ++ u).length - 1) 0 = u.getD (u.length - 1) 0 := by
  rw [List.getD_eq_getElem?_getD, List.getD_eq_getElem?_getD, List.getElem?_append_right (by rw [List.length_append]; omega)]
  congr 2
  rw [List.length_append]; omega
/-- A list that starts with none of these bytes isn't one of the fixed notations. -/
theorem kindI_other {t : List UInt8} (h : ∀ u ∈ [[45, 124], [62], [42, 45, 124], [46], [33], [63], [44], [59], ([58] : List UInt8)], t ≠ u) :
    kindI t = if t.getD 0 0 = 38 then (5, t.drop 1)
      else if t.getD 0 0 = 94 ∧ t.getD (t.length - 1) 0 = 94 ∧ 2 < t.length then (4, (t.drop 1).take (t.length - 2))
      else if t.getD 0 0 = 94 then (2, t.drop 1)
      else if t.getD (t.length - 1) 0 = 94 then (3, t.take (t.length - 1))
      else (0, []) := by
  unfold kindI
  rw [if_neg (h _ (by simp)), if_neg (h _ (by simp)), if_neg (h _ (by simp)), if_neg, if_neg]
  · rintro (e | e | e) <;> exact h _ (by simp) e
  · rintro (e | e | e) <;> exact h _ (by simp) e
theorem other_first {t : List UInt8} (h : t.getD 0 0 = 38 ∨ t.getD 0 0 = 94) : ∀ u ∈ [[45, 124], [62], [42, 45, 124], [46], [33], [63], [44], [59], ([58] : List UInt8)], t ≠ u := by
  intro u hu e
  subst e
  simp only [List.mem_cons, List.not_mem_nil, or_false] at hu
  rcases hu with rfl | rfl | rfl | rfl | rfl | rfl | rfl | rfl | rfl <;> revert h <;> decide
theorem other_last {t : List UInt8} (h : t.getD (t.length - 1) 0 = 94) : ∀ u ∈ [[45, 124], [62], [42, 45, 124], [46], [33], [63], [44], [59], ([58] : List UInt8)], t ≠ u := by
  intro u hu e
  subst e
  simp only [List.mem_cons, List.not_mem_nil, or_false] at hu
  rcases hu with rfl | rfl | rfl | rfl | rfl | rfl | rfl | rfl | rfl <;> revert h <;> decide
/-- READING WHAT WAS WRITTEN. -/
theorem kind_fmt (k : Int) (t : List UInt8) (h : goodA k t = true) : kindA (fmtA k t) = (k, t) := by
  unfold goodA at h
  by_cases h5 : 1 ≤ k ∧ k ≤ 5
  · rw [if_pos h5] at h
    have hw := word_parts h
    have hf := wordC_ne (word_first h)
    have hl := wordC_ne (word_last h)
    have hk : k = 1 ∨ k = 2 ∨ k = 3 ∨ k = 4 ∨ k = 5 := by omega
    rcases hk with rfl | rfl | rfl | rfl | rfl
    · show kindA t = _
      unfold kindA
      rw [if_pos (.inr (.inl hf.1))]
    · show kindA ([123] ++ ([94] ++ t) ++ [125]) = _
      rw [kindA_in _ (by simp), kindI_other (other_first (.inr rfl)), if_neg (by show ¬ ((94 : UInt8) = 38); decide), if_neg, if_pos (show ([94] ++ t : List UInt8).getD 0 0 = 94 from rfl)]
      · rfl
      · rintro ⟨_, e, _⟩
        rw [last_app hw.1] at e
        exact hl.2.2.1 e
    · have ha : [123] ++ t ++ [94, 125] = [123] ++ (t ++ [94]) ++ ([125] : List UInt8) := by simp
      show kindA ([123] ++ t ++ [94, 125]) = _
      rw [ha, kindA_in _ (by simp), kindI_other (other_last (getD_last _ _)), first_app hw.1, if_neg hf.2.2.2.1, if_neg (fun q => hf.2.2.1 q.1), if_neg hf.2.2.1, if_pos (getD_last _ _)]
      simp
    · have ha : [123, 94] ++ t ++ [94, 125] = [123] ++ ([94] ++ t ++ [94]) ++ ([125] : List UInt8) := by simp
      show kindA ([123, 94] ++ t ++ [94, 125]) = _
      rw [ha, kindA_in _ (by simp), kindI_other (other_first (.inr rfl)), if_neg (by show ¬ ((94 : UInt8) = 38); decide), if_pos ⟨rfl, getD_last _ _, by simp; omega⟩, inner]
    · show kindA ([123] ++ ([38] ++ t) ++ [125]) = _
      rw [kindA_in _ (by simp), kindI_other (other_first (.inl rfl)), if_pos (show ([38] ++ t : List UInt8).getD 0 0 = 38 from rfl)]
      rfl
  · rw [if_neg h5] at h
    by_cases h6 : k = 6
    · subst h6
      rw [if_pos rfl, Bool.or_eq_true, Bool.or_eq_true, beq_iff_eq, beq_iff_eq, beq_iff_eq] at h
      rcases h with (rfl | rfl) | rfl <;> decide
    · rw [if_neg h6] at h
      by_cases h7 : k = 7
      · subst h7
        rw [if_pos rfl, Bool.or_eq_true, Bool.or_eq_true, beq_iff_eq, beq_iff_eq, beq_iff_eq] at h
        rcases h with (rfl | rfl) | rfl <;> decide
      · rw [if_neg h7] at h
        by_cases h8 : 8 ≤ k ∧ k ≤ 10
        · rw [if_pos h8, beq_iff_eq] at h
          subst h
          have hk : k = 8 ∨ k = 9 ∨ k = 10 := by omega
          rcases hk with rfl | rfl | rfl <;> decide
        · rw [if_neg h8] at h; cases h
theorem par_fmtA (k : Int) (t : List UInt8) (h : goodA k t = true) : parOk (fmtA k t) = true ∧ parA (fmtA k t) = (k, t) := by
  have e := kind_fmt k t h
  have e2 : parOk (fmtA k t) = true := by
    unfold parOk
    rw [e, h]
    simp
  exact ⟨e2, by unfold parA; rw [if_pos e2, e]⟩
/-- WRITING WHAT WAS READ. -/
theorem fmt_parA (s : List UInt8) (h : parOk s = true) : goodA (parA s).1 (parA s).2 = true ∧ fmtA (parA s).1 (parA s).2 = s := by
  unfold parA
  rw [if_pos h]
  unfold parOk at h
  rw [Bool.and_eq_true, beq_iff_eq] at h
  exact h
theorem kindI_len (t : List UInt8) : (kindI t).2.length ≤ t.length := by
  unfold kindI
  repeat' split
  all_goals simp
  all_goals omega
theorem kindA_len (s : List UInt8) : (kindA s).2.length ≤ s.length := by
  unfold kindA
  split
  · exact Nat.le_refl _
  · refine Nat.le_trans (kindI_len _) ?_
    simp
    omega
end Go.Proofs.YtnpiphkglhcifaaGreat.Pl
