/-
  CONTRACTS of JoinStrings: the program's and the specification's.
-/
import Derived.Test.YtnpiphkglhcifaaGreatProg
import Derived.Test.YtnpiphkglhcifaaGreatAid
import Derived.Test.YtnpiphkglhcifaaGreatShelf
import Derived.Test.YtnpiphkglhcifaaGreatPlainJoin
import Derived.Test.YtnpiphkglhcifaaGreatStrs
import Derived.WalkSmall
import Derived.Deep.QuietTactic
import Derived.BigQuiet
import Derived.WalkSpells
namespace Go.Proofs.YtnpiphkglhcifaaGreat
set_option maxRecDepth 100000
open Go.RowKit

/-- The answer of a join that succeeds. -/
def joined (xs : List ByteArray) (c : UInt8) : Value := .tuple #[.string ⟨(Lib.join (Pl.texts xs) [c]).toArray⟩, .bool true]
/-- The answer of a join that fails. -/
def unjoined : Value := .tuple #[.string ⟨#[]⟩, .bool false]
/-- What a join answers. -/
def Joins (xs : List ByteArray) (c : UInt8) (e : Ending) : Prop := (Pl.JoinOk xs c ∧ e = .returned (joined xs c)) ∨ (¬ Pl.JoinOk xs c ∧ e = .returned unjoined)
theorem Joins.yes {xs : List ByteArray} {c : UInt8} {e : Ending} (h : Joins xs c e) (hk : Pl.JoinOk xs c) : e = .returned (joined xs c) := by
  rcases h with h | h
  · exact h.2
  · exact absurd hk h.1
theorem Joins.no {xs : List ByteArray} {c : UInt8} {e : Ending} (h : Joins xs c e) (hk : ¬ Pl.JoinOk xs c) : e = .returned unjoined := by
  rcases h with h | h
  · exact absurd h.1 hk
  · exact h.2




theorem one_byte {s : ByteArray} (h : s.size = 1) : ∃ c, s = ⟨#[c]⟩ := by
  obtain ⟨⟨l⟩⟩ := s
  match l, h with
  | [c], _ => exact ⟨c, rfl⟩
theorem not_ok_nil (c : UInt8) : ¬ Pl.JoinOk [] c := fun h => h.1 rfl

end Go.Proofs.YtnpiphkglhcifaaGreat
