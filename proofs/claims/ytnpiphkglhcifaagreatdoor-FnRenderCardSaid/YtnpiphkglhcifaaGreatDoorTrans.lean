/-
  CONTRACTS of the specification's chapter 5 over translations: l5List, l5Text, FormatTranslation, l5Parse, PlainWords.
-/
import Derived.Test.YtnpiphkglhcifaaGreatDoorAtoms
namespace Go.Proofs.YtnpiphkglhcifaaGreatDoor
set_option maxRecDepth 100000
open Go.RowKit

/-- Is this an atom? -/
def goodE (e : Int × ByteArray) : Bool := Pl.goodA e.1 (by8 e.2)
/-- The bytes of all notations. -/
def sumF (ls : List (Int × ByteArray)) : Nat := (ls.map fun e => (fmtB e.1 e.2).size).sum
/-- Is this a translation? -/
def okL (ls : List (Int × ByteArray)) : Bool := (decide (1 ≤ ls.length) && decide (ls.length ≤ 10)) && (ls.all goodE && decide (ls.length - 1 + sumF ls ≤ 60))
theorem okL_no_len {ls : List (Int × ByteArray)} (h : ¬ (1 ≤ ls.length ∧ ls.length ≤ 10)) : okL ls = false := by
  unfold okL
  rw [show (decide (1 ≤ ls.length) && decide (ls.length ≤ 10)) = false by simpa using fun h1 => by omega, Bool.false_and]
theorem okL_no_at {ls : List (Int × ByteArray)} {k : Nat} {e : Int × ByteArray} (h : ls[k]? = some e) (he : goodE e = false) : okL ls = false := by
  have : ls.all goodE = false := by
    rw [← Bool.not_eq_true, List.all_eq_true]
    intro q
    have := q e (List.mem_of_getElem? h)
    rw [he] at this
    cases this
  unfold okL
  rw [this, Bool.false_and, Bool.and_false]
theorem okL_all {ls : List (Int × ByteArray)} (h1 : 1 ≤ ls.length) (h2 : ls.length ≤ 10) (ha : ls.all goodE = true) : okL ls = decide (ls.length - 1 + sumF ls ≤ 60) := by
  unfold okL
  rw [ha, Bool.true_and, show (decide (1 ≤ ls.length) && decide (ls.length ≤ 10)) = true by simp; omega, Bool.true_and]
theorem okL_parts {ls : List (Int × ByteArray)} (h : okL ls = true) : 1 ≤ ls.length ∧ ls.length ≤ 10 ∧ (∀ e ∈ ls, goodE e = true) ∧ ls.length - 1 + sumF ls ≤ 60 := by
  unfold okL at h
  rw [Bool.and_eq_true, Bool.and_eq_true, Bool.and_eq_true, decide_eq_true_eq, decide_eq_true_eq, decide_eq_true_eq, List.all_eq_true] at h
  exact ⟨h.1.1, h.1.2, h.2.1, h.2.2⟩
theorem sumF_next {ls : List (Int × ByteArray)} {k : Nat} {e : Int × ByteArray} (h : ls[k]? = some e) : sumF (ls.take (k + 1)) = sumF (ls.take k) + (fmtB e.1 e.2).size := by
  unfold sumF
  rw [List.take_add_one, h, List.map_append, List.sum_append]
  simp
theorem allE_next {ls : List (Int × ByteArray)} {k : Nat} {e : Int × ByteArray} (h : ls[k]? = some e) (ha : (ls.take k).all goodE = true) (he : goodE e = true) : (ls.take (k + 1)).all goodE = true := by
  rw [List.take_add_one, List.all_append, ha, h]
  simp [he]
theorem sumF_le {ls : List (Int × ByteArray)} (hx : ∀ e ∈ ls, e.2.size ≤ 1048600) : sumF ls ≤ 1048605 * ls.length := by
  induction ls with
  | nil => simp [sumF]
  | cons e l ih =>
    have h1 := ih fun e he => hx e (List.mem_cons_of_mem _ he)
    have h2 := hx e List.mem_cons_self
    have h3 := fmtB_size e.1 e.2
    unfold sumF at h1 ⊢
    rw [List.map_cons, List.sum_cons, List.length_cons]
    omega
/-- The cells of a list of atoms that isn't empty. -/
theorem AtomsAt.some {w : World} {v : Value} {ls : List (Int × ByteArray)} (h : AtomsAt w v ls) (h0 : 0 < ls.length) : ∃ bk o cap, v = .slice (some ⟨bk, o, none⟩) ls.length cap ∧ ls.length ≤ cap ∧ bk < w.heap.size ∧
    ∀ w', Below w.heap.size w w' → ∀ (j : Nat) e, ls[j]? = some e → w'.cell? ⟨bk, o + j * 2, none⟩ = some (.int .i64 e.1) ∧ w'.cell? ⟨bk, o + j * 2 + 1, none⟩ = some (.string e.2) := by
  obtain ⟨a, cap, hv, hc, h⟩ := h
  rcases h with h | ⟨bk, o, rfl, hk, h⟩
  · rw [h] at h0; cases h0
  · exact ⟨bk, o, cap, hv, hc, hk, fun w' hb j e he => ⟨(hb.cell (p := ⟨bk, o + j * 2, none⟩) hk).trans (h j e he).1, (hb.cell (p := ⟨bk, o + j * 2 + 1, none⟩) hk).trans (h j e he).2⟩⟩
theorem AtomsAt.len {w : World} {v : Value} {ls : List (Int × ByteArray)} (h : AtomsAt w v ls) : ∃ a cap, v = .slice a ls.length cap ∧ ls.length ≤ cap := by
  obtain ⟨a, cap, hv, hc, _⟩ := h
  exact ⟨a, cap, hv, hc⟩
end Go.Proofs.YtnpiphkglhcifaaGreatDoor
