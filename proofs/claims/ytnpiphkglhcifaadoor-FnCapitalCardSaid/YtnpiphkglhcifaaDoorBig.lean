/-
  CONTRACTS of the laws' test of their code's length.
-/
import Derived.Test.YtnpiphkglhcifaaDoorProg
import Derived.Test.YtnpiphkglhcifaaDoorAid
namespace Go.Proofs.YtnpiphkglhcifaaDoor
set_option maxRecDepth 100000
open Go.RowKit
theorem big_no (a : Option Addr) (n cap : Nat) (w : World) (h : n ≤ 65536) :
    Calls Tryd.prog 7 #[.slice a n cap] w fun e w' => e = .returned (.bool false) ∧ w = w' := by
  go_enter Tryd.func7, Tryd.ntmps7
  go_wp2
  go_ret
  exact ⟨ret_bool (by simp; omega), rfl⟩
theorem big_yes (a : Option Addr) (n cap : Nat) (w : World) (h : 65536 < n) (_hn : n ≤ maxLen) :
    Calls Tryd.prog 7 #[.slice a n cap] w fun e w' => e = .returned (.bool true) ∧ w = w' := by
  go_enter Tryd.func7, Tryd.ntmps7
  go_wp2
  go_ret
  exact ⟨ret_bool (by simp; omega), rfl⟩
end Go.Proofs.YtnpiphkglhcifaaDoor
