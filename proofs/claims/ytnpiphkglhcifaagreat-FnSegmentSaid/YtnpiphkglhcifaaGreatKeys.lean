/-
  CONTRACTS of KeysOf and NewStroke: the program's and the specification's.
-/
import Derived.Test.YtnpiphkglhcifaaGreatBits
import Derived.Test.YtnpiphkglhcifaaGreatInts
namespace Go.Proofs.YtnpiphkglhcifaaGreat
set_option maxRecDepth 100000
open Go.RowKit

/-- The pressed keys as ints. -/
def keysI (n : Nat) : List Int := (Pl.keysL n).map Int.ofNat
theorem keysI_len (n : Nat) : (keysI n).length = Pl.card n := by unfold keysI Pl.card; rw [List.length_map]
theorem keys_row {w : World} {base : Nat} {v : Value} {n : Nat} (h : w.ownsRow base 3 1 v (Pl.keysIn n 0 23).length ((Pl.keysIn n 0 23).map fun j : Nat => Value.int .i64 j)) : w.ownsRow base 3 1 v (keysI n).length ((keysI n).map (.int .i64)) := by
  unfold keysI; rw [List.length_map, List.map_map]; exact h
theorem shl_i64 (k : Nat) (h : k < 23) : IntKind.i64.wrap (1 * 2 ^ k) = ((2 ^ k : Nat) : Int) := by
  rw [Int.one_mul]
  have h1 : 2 ^ k < 2 ^ 23 := Nat.pow_lt_pow_right (m := k) (n := 23) (by decide) h
  have e : (2 : Int) ^ k = ((2 ^ k : Nat) : Int) := by rw [Int.natCast_pow]; rfl
  rw [e]
  exact i64_small _ (by omega)
theorem shl_i64' (k : Nat) (h : k < 23) : IntKind.i64.wrap (2 ^ k) = ((2 ^ k : Nat) : Int) := by
  have := shl_i64 k h; rwa [Int.one_mul] at this
theorem pow_lt23 (k : Nat) (h : k < 23) : 2 ^ k < 8388608 := Nat.pow_lt_pow_right (a := 2) (m := k) (n := 23) (by decide) h
theorem or_i64s (a b : Nat) (ha : a < 8388608) (hb : b < 8388608) : bits .or .i64 (a : Int) (b : Int) = ((a ||| b : Nat) : Int) := or_i64 a b (by omega) (by omega)




/-! ### NewStroke -/
theorem newS_drop {xs : List Int} {k : Nat} {x : Int} (h : xs[k]? = some x) (s : Nat) :
    Pl.newS (xs.drop k) s = if 0 ≤ x ∧ x < 23 ∧ s.testBit x.toNat = false then Pl.newS (xs.drop (k + 1)) (s ||| 2 ^ x.toNat) else none := by
  obtain ⟨hk, hx⟩ := List.getElem?_eq_some_iff.1 h
  rw [List.drop_eq_getElem_cons hk, hx]; rfl
theorem okS_ne (s : Nat) (h : s < 8388608) : okS (s : Int) = (((s : Nat) : Int) != 0) := by
  rw [Bool.eq_iff_iff, okS_iff, bne_iff_ne]; omega
/-- What a stroke of keys answers. -/
def newE (xs : List Int) : Ending := .returned (.tuple #[.int .i64 (Pl.newK xs), .bool (((Pl.newK xs : Nat) : Int) != 0)])
theorem newE_none {xs : List Int} (h : Pl.newS xs 0 = none) : newE xs = .returned (.tuple #[.int .i64 0, .bool false]) := by
  have : Pl.newK xs = 0 := by unfold Pl.newK; rw [h]; rfl
  unfold newE; rw [this]; rfl
theorem newE_some {xs : List Int} {s : Nat} (h : Pl.newS xs 0 = some s) : newE xs = .returned (.tuple #[.int .i64 s, .bool ((s : Int) != 0)]) := by
  have : Pl.newK xs = s := by unfold Pl.newK; rw [h]; rfl
  unfold newE; rw [this]

end Go.Proofs.YtnpiphkglhcifaaGreat
