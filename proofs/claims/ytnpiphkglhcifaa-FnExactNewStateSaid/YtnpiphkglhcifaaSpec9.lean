/-
  CONTRACTS of chapter 9 of the specification: l9Word, l9Vowel, l9Groups, l9Ends, l9ConsonantY, l9Doubles, l9Rule, l9Join.
-/
import Derived.Test.YtnpiphkglhcifaaNum
import Derived.Test.YtnpiphkglhcifaaPlainWord
import Derived.Test.YtnpiphkglhcifaaStrs
namespace Go.Proofs.Ytnpiphkglhcifaa
set_option maxRecDepth 100000
open Go.RowKit

theorem vow_eq (c : UInt8) : Pl.vow c = (decide ((c.toNat : Int) = 97) || (decide ((c.toNat : Int) = 101) || (decide ((c.toNat : Int) = 105) || (decide ((c.toNat : Int) = 111) || decide ((c.toNat : Int) = 117))))) := by
  have key : ∀ (k : UInt8) (n : Int), (k.toNat : Int) = n → (c == k) = decide ((c.toNat : Int) = n) := by
    intro k n h
    rw [Bool.eq_iff_iff, beq_iff_eq, decide_eq_true_eq]
    constructor
    · rintro rfl; exact h
    · intro h'; exact UInt8.toNat_inj.1 (by omega)
  unfold Pl.vow
  rw [key 97 97 rfl, key 101 101 rfl, key 105 105 rfl, key 111 111 rfl, key 117 117 rfl]
  simp [Bool.or_assoc]
theorem getD_at (s : ByteArray) (k : Nat) (h : k < s.size) : s.data.toList.getD k 0 = s[k] := by
  have : k < s.data.toList.length := by simpa using h
  rw [List.getD, List.getElem?_eq_getElem this]; rfl
theorem vowAt_at (s : ByteArray) (k : Nat) (h : k < s.size) : Pl.vowAt s.data.toList k = Pl.vow s[k] := by unfold Pl.vowAt; rw [getD_at s k h]

theorem byte_eq (c k : UInt8) (n : Int) (h : (k.toNat : Int) = n) : (c == k) = ((c.toNat : Int) == n) := by
  rw [Bool.eq_iff_iff, beq_iff_eq, beq_iff_eq]
  constructor
  · rintro rfl; exact h
  · intro h'; exact UInt8.toNat_inj.1 (by omega)
theorem consY_at (s : ByteArray) (m : Nat) (hm : s.size = m + 2) : Pl.consY s.data.toList = (((s[m + 1]'(by omega)).toNat : Int) == 121 && !Pl.vow (s[m]'(by omega))) := by
  have e : s.data.toList.length = m + 2 := by rw [← hm]; simp
  unfold Pl.consY
  rw [e, show m + 2 - 1 = m + 1 by omega, show m + 2 - 2 = m by omega, getD_at s _ (by omega), getD_at s _ (by omega), byte_eq _ 121 121 rfl]
  simp
theorem doubles_at (s : ByteArray) (m : Nat) (hm : s.size = m + 3) : Pl.doubles s.data.toList =
    (!Pl.vow (s[m]'(by omega)) && (Pl.vow (s[m + 1]'(by omega)) && (!Pl.vow (s[m + 2]'(by omega)) && !(((s[m + 2]'(by omega)).toNat : Int) == 119 || ((s[m + 2]'(by omega)).toNat : Int) == 120 || ((s[m + 2]'(by omega)).toNat : Int) == 121)))) := by
  have e : s.data.toList.length = m + 3 := by rw [← hm]; simp
  unfold Pl.doubles
  rw [e, show m + 3 - 1 = m + 2 by omega, show m + 3 - 2 = m + 1 by omega, show m + 3 - 3 = m by omega, getD_at s _ (by omega), getD_at s _ (by omega), getD_at s _ (by omega), byte_eq _ 119 119 rfl, byte_eq _ 120 120 rfl, byte_eq _ 121 121 rfl]
  simp

theorem ext_snoc (s t : ByteArray) : (s ++ t).data.toList = s.data.toList ++ t.data.toList := by simp
/-- The spelling of two words that are joined, as a text. -/
def joinB (s f : ByteArray) : ByteArray := ⟨(Pl.join9 s.data.toList f.data.toList).toArray⟩
theorem ext_take (s : ByteArray) (k : Nat) (_h : k ≤ s.size) : (s.extract 0 k).data.toList = s.data.toList.take k := by
  simp
theorem ext_drop (s : ByteArray) (k : Nat) (_h : k ≤ s.size) : (s.extract k s.size).data.toList = s.data.toList.drop k := by
  simp
  rw [List.take_of_length_le (by simp)]
end Go.Proofs.Ytnpiphkglhcifaa
