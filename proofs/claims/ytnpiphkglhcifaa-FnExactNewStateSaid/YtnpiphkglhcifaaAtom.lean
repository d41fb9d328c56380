/-
  CONTRACTS of the specification's chapter 5 over single atoms: l5Word, l5Good, l5Format, l5Kind, IsValidAtom, FormatAtom, ParseAtom.
-/
import Derived.Test.YtnpiphkglhcifaaPlainAtom
import Derived.Test.YtnpiphkglhcifaaBits
namespace Go.Proofs.Ytnpiphkglhcifaa
set_option maxRecDepth 100000
open Go.RowKit

/-- A string's bytes. -/
abbrev by8 (t : ByteArray) : List UInt8 := t.data.toList
theorem word_no_at {t : ByteArray} {k : Nat} (hk : k < t.size) (h : Pl.wordC t[k] = false) : Pl.wordL (by8 t) = false := by
  unfold Pl.wordL
  rw [Bool.and_eq_false_iff]
  refine .inl ?_
  rw [← Bool.not_eq_true, List.all_eq_true]
  intro q
  have := q t[k] (by show t.data[k] ∈ t.data.toList; simp)
  rw [h] at this
  cases this
theorem word_next {t : ByteArray} {k : Nat} (hk : k < t.size) (ha : ((by8 t).take k).all Pl.wordC = true) (h : Pl.wordC t[k] = true) : ((by8 t).take (k + 1)).all Pl.wordC = true := by
  rw [List.take_add_one, List.all_append, ha]
  have : (by8 t)[k]? = some t[k] := by
    show t.data.toList[k]? = some t.data[k]
    rw [Array.getElem?_toList, Array.getElem?_eq_getElem hk]
  rw [this]
  simp [h]
/-- An atom. -/
abbrev atV (k : Int) (t : ByteArray) : Value := .agg #[.int .i64 k, .string t]
/-- The notation, as a string. -/
def fmtB (k : Int) (t : ByteArray) : ByteArray := ⟨(Pl.fmtA k (by8 t)).toArray⟩
theorem fmtB_list (k : Int) (t : ByteArray) : by8 (fmtB k t) = Pl.fmtA k (by8 t) := rfl
theorem fmtB_1 (t : ByteArray) : fmtB 1 t = t := by apply ByteArray.ext; simp [fmtB, Pl.fmtA]
theorem fmtB_2 (t : ByteArray) : fmtB 2 t = (⟨#[123, 94]⟩ ++ t) ++ ⟨#[125]⟩ := by apply ByteArray.ext; simp [fmtB, Pl.fmtA, ByteArray.data_append]
theorem fmtB_3 (t : ByteArray) : fmtB 3 t = (⟨#[123]⟩ ++ t) ++ ⟨#[94, 125]⟩ := by apply ByteArray.ext; simp [fmtB, Pl.fmtA, ByteArray.data_append]
theorem fmtB_4 (t : ByteArray) : fmtB 4 t = (⟨#[123, 94]⟩ ++ t) ++ ⟨#[94, 125]⟩ := by apply ByteArray.ext; simp [fmtB, Pl.fmtA, ByteArray.data_append]
theorem fmtB_5 (t : ByteArray) : fmtB 5 t = (⟨#[123, 38]⟩ ++ t) ++ ⟨#[125]⟩ := by apply ByteArray.ext; simp [fmtB, Pl.fmtA, ByteArray.data_append]
theorem fmtB_8 (t : ByteArray) : fmtB 8 t = ⟨#[123, 45, 124, 125]⟩ := rfl
theorem fmtB_9 (t : ByteArray) : fmtB 9 t = ⟨#[123, 62, 125]⟩ := rfl
theorem fmtB_10 (t : ByteArray) : fmtB 10 t = ⟨#[123, 42, 45, 124, 125]⟩ := rfl
theorem fmtB_else (k : Int) (t : ByteArray) (h5 : ¬ (1 ≤ k ∧ k ≤ 5)) (h8 : ¬ (8 ≤ k ∧ k ≤ 10)) : fmtB k t = (⟨#[123]⟩ ++ t) ++ ⟨#[125]⟩ := by
  have e : Pl.fmtA k (by8 t) = [123] ++ by8 t ++ [125] := by
    unfold Pl.fmtA
    rw [if_neg (by omega), if_neg (by omega), if_neg (by omega), if_neg (by omega), if_neg (by omega), if_neg (by omega), if_neg (by omega), if_neg (by omega)]
  unfold fmtB
  rw [e]
  apply ByteArray.ext
  simp [ByteArray.data_append]
theorem fmtB_size (k : Int) (t : ByteArray) : (fmtB k t).size ≤ t.size + 5 := by
  have e : (fmtB k t).size = (Pl.fmtA k (by8 t)).length := by show (Pl.fmtA k (by8 t)).toArray.size = _; simp
  rw [e]
  have : (by8 t).length = t.size := Pl.data_len t
  unfold Pl.fmtA
  repeat' split
  all_goals simp
  all_goals omega
theorem by8_extract (s : ByteArray) (i j : Nat) : by8 (s.extract i j) = ((by8 s).drop i).take (j - i) := by
  show (s.extract i j).data.toList = _
  rw [ByteArray.data_extract, Array.toList_extract, List.extract_eq_take_drop]
theorem by8_at {s : ByteArray} {k : Nat} (h : k < s.size) : (by8 s).getD k 0 = s[k] := by
  rw [List.getD_eq_getElem?_getD]
  show (s.data.toList[k]?).getD 0 = s.data[k]
  rw [Array.getElem?_toList, Array.getElem?_eq_getElem h]
  rfl
theorem by8_inj {s t : ByteArray} (h : by8 s = by8 t) : s = t := by
  apply ByteArray.ext
  exact Array.toList_inj.1 h
theorem by8_mk (l : List UInt8) : by8 ⟨l.toArray⟩ = l := rfl
theorem mk_by8 (l : List UInt8) (t : ByteArray) (h : by8 t = l) : (⟨l.toArray⟩ : ByteArray) = t := by subst h; apply by8_inj; rfl
/-- The atom of a notation, unchecked. -/
def kindV (s : ByteArray) : Value := atV (Pl.kindA (by8 s)).1 ⟨(Pl.kindA (by8 s)).2.toArray⟩
theorem kindV_of {s : ByteArray} {k : Int} {t : ByteArray} (h : Pl.kindA (by8 s) = (k, by8 t)) : kindV s = atV k t := by unfold kindV; rw [h]
theorem kindA_q {s q : ByteArray} (h3 : ¬ s.size < 3) (hx : (s[0].toNat : Int) = 123) (hy : (s[s.size - 1].toNat : Int) = 125) (hq : s.extract 1 (s.size - 1) = q) : Pl.kindA (by8 s) = Pl.kindI (by8 q) := by
  subst hq
  unfold Pl.kindA
  rw [Pl.data_len, by8_extract, if_neg, show s.size - 1 - 1 = s.size - 2 by omega]
  rintro (h | h | h)
  · exact h3 h
  · rw [by8_at (by omega)] at h
    exact h (UInt8.toNat_inj.1 (by show s[0].toNat = 123; omega))
  · rw [by8_at (by omega)] at h
    exact h (UInt8.toNat_inj.1 (by show s[s.size - 1].toNat = 125; omega))
theorem kindV_in {s : ByteArray} {l : List UInt8} (h : Pl.kindA (by8 s) = Pl.kindI l) : kindV s = atV (Pl.kindI l).1 ⟨(Pl.kindI l).2.toArray⟩ := by unfold kindV; rw [h]
theorem kindV_to {s q : ByteArray} {k : Int} {l : List UInt8} (h : Pl.kindA (by8 s) = (k, l)) (e : by8 q = l) : kindV s = atV k q := by unfold kindV; rw [h, mk_by8 _ _ e]
end Go.Proofs.Ytnpiphkglhcifaa
