/-
  CONTRACTS of the specification's chapter 5 over translations, continued: l5Text, FormatTranslation.
-/
import Derived.Test.YtnpiphkglhcifaaGreatDoorTrans
namespace Go.Proofs.YtnpiphkglhcifaaGreatDoor
set_option maxRecDepth 100000
open Go.RowKit

/-- The notations. -/
def partsT (ls : List (Int × ByteArray)) : List ByteArray := ls.map fun e => fmtB e.1 e.2
/-- The string of a translation. -/
def textB (ls : List (Int × ByteArray)) : ByteArray := ⟨(Lib.join (Pl.texts (partsT ls)) [32]).toArray⟩
theorem partsT_take (ls : List (Int × ByteArray)) (k : Nat) : partsT (ls.take k) = (partsT ls).take k := by unfold partsT; rw [List.map_take]
theorem partsT_at {ls : List (Int × ByteArray)} {k : Nat} {e : Int × ByteArray} (h : ls[k]? = some e) : (partsT ls)[k]? = some (fmtB e.1 e.2) := by unfold partsT; rw [List.getElem?_map, h]; rfl
theorem textB_first {ls : List (Int × ByteArray)} {e : Int × ByteArray} (h : ls[0]? = some e) : (⟨#[]⟩ : ByteArray) ++ fmtB e.1 e.2 = textB (ls.take (0 + 1)) := by
  unfold textB
  rw [partsT_take, Pl.join_succ_first _ _ _ (partsT_at h)]
  apply ByteArray.ext
  simp [ByteArray.data_append]
theorem textB_next {ls : List (Int × ByteArray)} {k : Nat} {e : Int × ByteArray} (h0 : 0 < k) (h : ls[k]? = some e) : (textB (ls.take k) ++ (⟨#[32]⟩ : ByteArray)) ++ fmtB e.1 e.2 = textB (ls.take (k + 1)) := by
  unfold textB
  rw [partsT_take, partsT_take, Pl.join_succ _ _ _ _ h0 (partsT_at h)]
  apply ByteArray.ext
  simp [ByteArray.data_append]
theorem lens_parts (ls : List (Int × ByteArray)) : Lib.lens (Pl.texts (partsT ls)) = sumF ls := by
  unfold Lib.lens Pl.texts partsT sumF
  rw [List.map_map, List.map_map]
  congr 1
theorem textB_size {ls : List (Int × ByteArray)} (h : ls ≠ []) : (textB ls).size + 1 = ls.length + sumF ls := by
  have := Pl.join_len (partsT ls) 32 (by unfold partsT; simpa using h)
  rw [lens_parts] at this
  have e : (partsT ls).length = ls.length := by unfold partsT; rw [List.length_map]
  rw [e] at this
  have e2 : (textB ls).size = (Lib.join (Pl.texts (partsT ls)) [32]).length := by unfold textB; show (Lib.join (Pl.texts (partsT ls)) [32]).toArray.size = _; simp
  rw [e2]
  exact this
/-- What FormatTranslation answers. -/
def fmtLS (ls : List (Int × ByteArray)) : ByteArray := if okL ls = true then textB ls else ⟨#[]⟩
def fmtLE (ls : List (Int × ByteArray)) : Ending := .returned (.tuple #[.string (fmtLS ls), .bool (okL ls)])
end Go.Proofs.YtnpiphkglhcifaaGreatDoor
