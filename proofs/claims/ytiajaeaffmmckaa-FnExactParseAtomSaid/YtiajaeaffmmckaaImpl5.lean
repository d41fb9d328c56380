/-
  THE PROGRAM'S CHAPTER 5 KEEPS ITS RECORD OF CONTRACTS.
-/
import Derived.Test.YtiajaeaffmmckaaImpl5E
import Derived.Test.YtiajaeaffmmckaaImpl5F
namespace Go.Proofs.Ytiajaeaffmmckaa
set_option maxRecDepth 100000
open Go.RowKit
theorem impl5 : Impl5 where
  valid k t w _ ht := Valid5_any k t w ht
  format k t w _ ht := Format5_any k t w ht
  parse := Parse5_any
  formatT v ls w h hn hx := FormatT_any v ls w h hn fun e he => (hx e he).2
  parseT t w ht := ParseT_any t w ht
  plain v ls w h hn hx := Plain_any v ls w h hn fun e he => (hx e he).2
end Go.Proofs.Ytiajaeaffmmckaa
