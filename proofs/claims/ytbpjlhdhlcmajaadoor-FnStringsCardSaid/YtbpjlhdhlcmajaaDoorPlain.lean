/-
  PLAIN MATHEMATICS of chapter 1: checksums of lists of bytes, decimal texts. Nothing of the program stands here.
-/
import Derived.Lib.Hide
namespace Go.Proofs.YtbpjlhdhlcmajaaDoor.Pl

/-- One step of the checksum. -/
def step (h : Nat) (c : UInt8) : Nat := (41 * h + c.toNat + 1) % 999979
/-- The checksum of a list of bytes. -/
def sum (l : List UInt8) : Nat := l.foldl step 7
theorem step_lt (h : Nat) (c : UInt8) : step h c < 999979 := Nat.mod_lt _ (by decide)
theorem sum_snoc (l : List UInt8) (c : UInt8) : sum (l ++ [c]) = step (sum l) c := by simp [sum, List.foldl_append]
theorem sum_lt (l : List UInt8) : sum l < 999979 := by
  rcases List.eq_nil_or_concat l with rfl | ⟨l', c, rfl⟩
  · decide
  · rw [List.concat_eq_append, sum_snoc]; exact step_lt _ _
theorem take_snoc (s : ByteArray) (k : Nat) (h : k < s.size) : s.data.toList.take (k + 1) = s.data.toList.take k ++ [s[k]] := by
  rw [List.take_succ_eq_append_getElem (by simpa using h)]; rfl
theorem sum_take (s : ByteArray) (k : Nat) (h : k < s.size) :
    (sum (s.data.toList.take (k + 1)) : Int) = (41 * (sum (s.data.toList.take k) : Int) + (s[k].toNat : Int) + 1) % 999979 := by
  rw [take_snoc s k h, sum_snoc]; unfold step; omega
end Go.Proofs.YtbpjlhdhlcmajaaDoor.Pl
