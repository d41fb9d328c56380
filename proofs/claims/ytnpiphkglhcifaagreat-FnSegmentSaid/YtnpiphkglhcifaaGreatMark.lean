/-
  CONTRACTS of the laws' marks: markText, markStringS, heldStringS.
-/
import Derived.Test.YtnpiphkglhcifaaGreatStrs
import Derived.Lib.ItoaNum
import Derived.Laws.IdiomStrings
import Derived.Lib.BufferOwn
import Derived.Deep.RegionWith
import Derived.Deep.RegionHeld3
namespace Go.Proofs.YtnpiphkglhcifaaGreat
set_option maxRecDepth 100000
open Go.RowKit

/-- The mark of a number. -/
def markB (k : Nat) : ByteArray := ⟨(109 :: Lib.decDigits k).toArray⟩

/-- v is a slice of n cells of its own, from block 'base' on, that hold the strings f. -/
def OwnStrs (w : World) (base : Nat) (v : Value) (n : Nat) (f : Nat → ByteArray) : Prop :=
  (n = 0 ∧ ∃ a cap, v = .slice a 0 cap) ∨ ∃ g cap, v = .slice (some ⟨g, 0, none⟩) n cap ∧ n ≤ cap ∧ base ≤ g ∧ 0 < n ∧ g < w.heap.size ∧ (∀ j, j < n → w.cell? ⟨g, j, none⟩ = some (.string (f j))) ∧ ∀ j, w.frozen? ⟨g, j, none⟩ = false
theorem OwnStrs.below {w w' : World} {base : Nat} {v : Value} {n : Nat} {f : Nat → ByteArray} (h : OwnStrs w base v n f) (hb : Below w.heap.size w w') : OwnStrs w' base v n f := by
  rcases h with h | ⟨g, cap, hv, hn, hg, h0, hlt, hc, hf⟩
  · exact .inl h
  · exact .inr ⟨g, cap, hv, hn, hg, h0, Nat.lt_of_lt_of_le hlt hb.size, fun j hj => (hb.cell (p := ⟨g, j, none⟩) hlt).trans (hc j hj), fun j => (hb.frozen (p := ⟨g, j, none⟩) hlt).trans (hf j)⟩
theorem ownStrs_of {w : World} {base : Nat} {v : Value} {xs : List ByteArray} (h : w.ownsRow base 9 1 v xs.length (xs.map .string)) : OwnStrs w base v xs.length (fun j => xs.getD j ByteArray.empty) := by
  rcases h.2 with ⟨rfl, h0⟩ | ⟨g, cap, cur, rfl, hb, hg, hn, _, hsz, htake⟩
  · exact .inl ⟨h0, none, 0, rfl⟩
  · rcases Nat.eq_zero_or_pos xs.length with h0 | h0
    · exact .inl ⟨h0, _, _, by rw [h0]⟩
    · have hlt : g < w.heap.size := (Array.getElem?_eq_some_iff.1 hg).1
      refine .inr ⟨g, cap, rfl, hn, hb, h0, hlt, fun j hj => ?_, fun j => by simp [World.frozen?, hg]⟩
      have h1 : (cur.toList.take (xs.length * 1))[j]? = some (.string (xs.getD j ByteArray.empty)) := by
        rw [htake, List.getElem?_map, List.getElem?_eq_getElem hj]; simp [List.getD, List.getElem?_eq_getElem hj]
      rw [List.getElem?_take_of_lt (by omega)] at h1
      simp only [Array.getElem?_toList] at h1
      simp [World.cell?, hg, h1]


end Go.Proofs.YtnpiphkglhcifaaGreat
