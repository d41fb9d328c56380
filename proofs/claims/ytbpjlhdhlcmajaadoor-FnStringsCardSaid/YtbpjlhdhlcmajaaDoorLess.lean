/-
  CONTRACTS of LessString and of the laws' test of their code's length.
-/
import Derived.Test.YtbpjlhdhlcmajaaDoorProg
import Derived.Test.YtbpjlhdhlcmajaaDoorAid
import Derived.Test.YtbpjlhdhlcmajaaDoorPlainSJ
namespace Go.Proofs.YtbpjlhdhlcmajaaDoor
open Go.RowKit
theorem vBig_no (a : Option Addr) (n cap : Nat) (w : World) (h : n ≤ 65536) :
    Calls Tryd.prog 8 #[.slice a n cap] w fun e w' => e = .returned (.bool false) ∧ w = w' := by
  go_enter Tryd.func8, Tryd.ntmps8
  go_wp2
  go_ret
  exact ⟨ret_bool (by simp; omega), rfl⟩
theorem vBig_yes (a : Option Addr) (n cap : Nat) (w : World) (h : 65536 < n) (_hn : n ≤ maxLen) :
    Calls Tryd.prog 8 #[.slice a n cap] w fun e w' => e = .returned (.bool true) ∧ w = w' := by
  go_enter Tryd.func8, Tryd.ntmps8
  go_wp2
  go_ret
  exact ⟨ret_bool (by simp; omega), rfl⟩
end Go.Proofs.YtbpjlhdhlcmajaaDoor
