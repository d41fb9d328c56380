/-
  CONTRACTS of the draws of chapter 2: stroke, anyStroke, spoilt, DrawFormatStroke, DrawParseStroke, DrawParseLooseStroke, DrawNewStroke, DrawHasKey, DrawMergeStrokes.
-/
import Derived.Test.YtnpiphkglhcifaaGreatDoorDraw
import Derived.Test.YtnpiphkglhcifaaGreatDoorKeys
namespace Go.Proofs.YtnpiphkglhcifaaGreatDoor
set_option maxRecDepth 100000
open Go.RowKit
/-- The call gives a text of at most m bytes. -/
def Text (m : Nat) (e : Ending) : Prop := ∃ x : ByteArray, x.size ≤ m ∧ e = .returned (.string x)
theorem ext_size (t : ByteArray) (i j : Nat) (h : j ≤ t.size) : (t.extract i j).size ≤ j - i := by rw [ByteArray.size_extract]; omega


theorem own_keepI {w w' : World} {base B : Nat} {v : Value} {n : Nat} {xs : List Value} (h : w.ownsRow base 3 1 v n xs) (hg : w.grownBy w' (some B)) (hB : B < base) : w'.ownsRow base 3 1 v n xs := by
  refine h.kept hg ?_
  rcases h.2 with ⟨rfl, _⟩ | ⟨g, cap, cur, rfl, hb, _⟩
  · exact .inl rfl
  · refine .inr fun e => ?_
    have : g = B := by simpa [Value.ownBlock] using e
    omega


end Go.Proofs.YtnpiphkglhcifaaGreatDoor
