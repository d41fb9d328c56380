/-
  THE PROGRAM'S CHAPTER 4 KEEPS ITS RECORD OF CONTRACTS.
-/
import Derived.Test.YtkhklidpighmpaaImpl4C
namespace Go.Proofs.Ytkhklidpighmpaa
set_option maxRecDepth 100000
open Go.RowKit
theorem impl4 : Impl4 where
  valid v xs w h hn := (Valid_any v xs w h hn).mono fun _ _ ⟨he, hw⟩ => ⟨he, hw ▸ Below.refl _ _⟩
  format := Format_any
  parse := Parse_any
  compare := Compare_any
  pre := HasPrefix_any
  concat := Concat_any
end Go.Proofs.Ytkhklidpighmpaa
