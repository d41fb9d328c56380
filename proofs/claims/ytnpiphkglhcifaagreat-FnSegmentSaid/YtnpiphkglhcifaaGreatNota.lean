/-
  CONTRACTS of the notation of strokes: the program's labels, notation, FormatStroke; the specification's l2Format, FormatStroke.
-/
import Derived.Test.YtnpiphkglhcifaaGreatKeys
import Derived.Test.YtnpiphkglhcifaaGreatBuild
namespace Go.Proofs.YtnpiphkglhcifaaGreat
set_option maxRecDepth 100000
open Go.RowKit

/-- The labels, as one string. -/
abbrev labB : ByteArray := ⟨#[35, 83, 84, 75, 80, 87, 72, 82, 65, 79, 42, 69, 85, 70, 82, 80, 66, 76, 71, 84, 83, 68, 90]⟩
theorem labB_size : (⟨#[35, 83, 84, 75, 80, 87, 72, 82, 65, 79, 42, 69, 85, 70, 82, 80, 66, 76, 71, 84, 83, 68, 90]⟩ : ByteArray).size = 23 := rfl

theorem labB_fin : ∀ k : Fin 23, (labB[k.1]'(by rw [labB_size]; exact k.2)) = Pl.labK k.1 := by decide
theorem labB_at (k : Nat) (h : k < 23) : (labB[k]'(by rw [labB_size]; exact h)) = Pl.labK k := labB_fin ⟨k, h⟩


theorem str_len (l : List UInt8) : (⟨l.toArray⟩ : ByteArray).size = l.length := by show l.toArray.size = _; rw [List.size_toArray]
/-- The notation, as a string. -/
def notaB (n : Nat) : ByteArray := ⟨(Pl.nota n).toArray⟩

end Go.Proofs.YtnpiphkglhcifaaGreat
