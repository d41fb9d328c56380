/-
  CONTRACTS of the decimal texts of the specification: l1Num, l1In.
-/
import Derived.Test.YtnpiphkglhcifaaGreatDoorProg
import Derived.Test.YtnpiphkglhcifaaGreatDoorAid
import Derived.Lib.ItoaNum
import Derived.Deep.QuietTactic
import Derived.BigQuiet
import Derived.WalkSpells
namespace Go.Proofs.YtnpiphkglhcifaaGreatDoor
set_option maxRecDepth 100000
open Go.RowKit

theorem l1In_any (x a b : Int) (w : World) :
    Calls Tryz.prog 40 #[.int .i64 x, .int .i64 a, .int .i64 b] w fun e w' => e = .returned (.bool (decide (a ≤ x) && decide (x ≤ b))) ∧ w = w' := by
  by_cases h : a ≤ x
  · go_enter Tryz.func40, Tryz.ntmps40
    go_wp2
    go_ret
    exact ⟨ret_bool (by simp [h]), rfl⟩
  · have h' : x < a := by omega
    go_enter Tryz.func40, Tryz.ntmps40
    go_wp2
    go_ret
    exact ⟨ret_bool (by rw [decide_eq_false (by omega : ¬ a ≤ x)]; rfl), rfl⟩


end Go.Proofs.YtnpiphkglhcifaaGreatDoor
