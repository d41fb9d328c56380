/-
  BITS of ints that are not negative, and CONTRACTS of the small functions of chapter 2: isKey, has, isStroke, IsValidStroke, HasKey, MergeStrokes, and the specification's.
-/
import Derived.Test.YtnpiphkglhcifaaGreatProg
import Derived.Test.YtnpiphkglhcifaaGreatAid
import Derived.Test.YtnpiphkglhcifaaGreatPlainKeys
import Derived.Test.YtnpiphkglhcifaaGreatNum
import Derived.Laws.BitsAllLaws
import Derived.Deep.QuietTactic
import Derived.BigQuiet
import Derived.WalkSpells
namespace Go.Proofs.YtnpiphkglhcifaaGreat
set_option maxRecDepth 100000
open Go.RowKit

theorem i64_small (n : Nat) (h : n < 9223372036854775808) : IntKind.i64.wrap (n : Int) = (n : Int) := IntWalk.i64_in _ (by omega)
theorem and_i64 (a b : Nat) (ha : a < 9223372036854775808) (hb : b < 9223372036854775808) : bits .and .i64 (a : Int) (b : Int) = ((a &&& b : Nat) : Int) := by
  show IntKind.i64.wrap ((BitVec.ofInt 64 (a : Int) &&& BitVec.ofInt 64 (b : Int)).toNat : Int) = _
  rw [BitVec.toNat_and, ofInt_u64 a (by omega), ofInt_u64 b (by omega)]
  exact i64_small _ (Nat.lt_of_le_of_lt Nat.and_le_left ha)
theorem or_i64 (a b : Nat) (ha : a < 2 ^ 63) (hb : b < 2 ^ 63) : bits .or .i64 (a : Int) (b : Int) = ((a ||| b : Nat) : Int) := by
  show IntKind.i64.wrap ((BitVec.ofInt 64 (a : Int) ||| BitVec.ofInt 64 (b : Int)).toNat : Int) = _
  rw [BitVec.toNat_or, ofInt_u64 a (by omega), ofInt_u64 b (by omega)]
  exact i64_small _ (Nat.or_lt_two_pow ha hb)
/-- The bit k, as the Go text asks for it. -/
theorem bit_i64 (n k : Nat) (h : n < 9223372036854775808) : bits .and .i64 ((n : Int) / 2 ^ k) 1 = if n.testBit k then 1 else 0 := by
  have e : ((n : Int) / 2 ^ k) = ((n / 2 ^ k : Nat) : Int) := by rw [Int.natCast_ediv, Int.natCast_pow]; rfl
  rw [e, show (1 : Int) = ((1 : Nat) : Int) from rfl, and_i64 _ _ (Nat.lt_of_le_of_lt (Nat.div_le_self _ _) h) (by decide), Nat.and_one_is_mod, Nat.testBit_eq_decide_div_mod_eq]
  by_cases hb : n / 2 ^ k % 2 = 1
  · rw [hb]; simp
  · have : n / 2 ^ k % 2 = 0 := by omega
    rw [this]; simp



/-- Is the number a stroke? -/
def okS (s : Int) : Bool := decide (1 ≤ s) && decide (s < 8388608)
theorem okS_yes {s : Int} (h : 1 ≤ s ∧ s < 8388608) : okS s = true := by simp [okS]; omega
theorem okS_no {s : Int} (h : ¬ (1 ≤ s ∧ s < 8388608)) : okS s = false := by simp [okS]; omega
theorem okS_iff {s : Int} : okS s = true ↔ 1 ≤ s ∧ s < 8388608 := by simp [okS]

theorem isStroke_any (s : Int) (w : World) :
    Calls Tryz.prog 60 #[.int .i64 s] w fun e w' => e = .returned (.bool (okS s)) ∧ w = w' := by
  by_cases h : 1 ≤ s
  · go_enter Tryz.func60, Tryz.ntmps60
    go_wp2
    go_ret
    exact ⟨ret_bool (by simp [okS, h]), rfl⟩
  · have h' : s < 1 := by omega
    go_enter Tryz.func60, Tryz.ntmps60
    go_wp2
    go_ret
    exact ⟨ret_bool (okS_no (by omega)).symm, rfl⟩
theorem IsValidStroke_any (s : Int) (w : World) :
    Calls Tryz.prog 48 #[.int .i64 s] w fun e w' => e = .returned (.bool (okS s)) ∧ w = w' := by
  have C := Lib.hid (fun w => isStroke_any s w)
  go_enter Tryz.func48, Tryz.ntmps48
  go_wp2_with fail
  refine (C.out _).mono ?_
  rintro e w1 ⟨rfl, rfl⟩
  go_wp2
  go_ret
  exact ⟨rfl, rfl⟩
theorem l2Good_any (s : Int) (w : World) :
    Calls Tryz.prog 35 #[.int .i64 s] w fun e w' => e = .returned (.bool (okS s)) ∧ w = w' := by
  have c := fun w => l1In_any s 1 8388607 w
  rw [show (decide (1 ≤ s) && decide (s ≤ 8388607)) = okS s by unfold okS; congr 1; rw [decide_eq_decide]; omega] at c
  have C := Lib.hid c
  clear c
  go_enter Tryz.func35, Tryz.ntmps35
  go_wp2_with fail
  refine (C.out _).mono ?_
  rintro e w1 ⟨rfl, rfl⟩
  go_wp2
  go_ret
  exact ⟨rfl, rfl⟩

/-- Is the key pressed? -/
def hasB (s k : Int) : Bool := okS s && (decide (0 ≤ k) && decide (k < 23)) && s.toNat.testBit k.toNat


/-- What a merge answers. -/
def mergeB (a b : Int) : Bool := okS a && okS b && (a.toNat &&& b.toNat == 0)
def mergeI (a b : Int) : Int := if mergeB a b = true then ((a.toNat ||| b.toNat : Nat) : Int) else 0
theorem mergeB_no1 {a b : Int} (h : ¬ (1 ≤ a ∧ a < 8388608)) : mergeB a b = false ∧ mergeI a b = 0 := by
  have : mergeB a b = false := by unfold mergeB; rw [okS_no h]; rfl
  exact ⟨this, by unfold mergeI; rw [this]; rfl⟩
theorem mergeB_no2 {a b : Int} (h : ¬ (1 ≤ b ∧ b < 8388608)) : mergeB a b = false ∧ mergeI a b = 0 := by
  have : mergeB a b = false := by unfold mergeB; rw [okS_no h, Bool.and_false]; rfl
  exact ⟨this, by unfold mergeI; rw [this]; rfl⟩
end Go.Proofs.YtnpiphkglhcifaaGreat
