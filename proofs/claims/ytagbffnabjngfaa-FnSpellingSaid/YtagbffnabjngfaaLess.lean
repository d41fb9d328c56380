/-
  CONTRACTS of LessString and of the laws' test of their code's length.
-/
import Derived.Test.YtagbffnabjngfaaProg
import Derived.Test.YtagbffnabjngfaaAid
import Derived.Test.YtagbffnabjngfaaPlainSJ
namespace Go.Proofs.Ytagbffnabjngfaa
set_option maxRecDepth 100000
open Go.RowKit
theorem Less_any (a b : ByteArray) (w : World) :
    Calls Try.prog 17 #[.string a, .string b] w fun e w' => e = .returned (.bool (Pl.less a b)) ∧ w = w' := by
  go_enter Try.func17, Try.ntmps17
  go_wp2
  go_ret
  exact ⟨rfl, rfl⟩
theorem vBig_no (a : Option Addr) (n cap : Nat) (w : World) (h : n ≤ 65536) :
    Calls Try.prog 10 #[.slice a n cap] w fun e w' => e = .returned (.bool false) ∧ w = w' := by
  go_enter Try.func10, Try.ntmps10
  go_wp2
  go_ret
  exact ⟨ret_bool (by simp; omega), rfl⟩
theorem vBig_yes (a : Option Addr) (n cap : Nat) (w : World) (h : 65536 < n) (_hn : n ≤ maxLen) :
    Calls Try.prog 10 #[.slice a n cap] w fun e w' => e = .returned (.bool true) ∧ w = w' := by
  go_enter Try.func10, Try.ntmps10
  go_wp2
  go_ret
  exact ⟨ret_bool (by simp; omega), rfl⟩
end Go.Proofs.Ytagbffnabjngfaa
