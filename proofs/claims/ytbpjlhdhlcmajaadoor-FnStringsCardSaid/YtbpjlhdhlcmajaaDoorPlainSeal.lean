/-
  PLAIN MATHEMATICS of checksummed texts. Nothing of the program stands here.
-/
import Derived.Test.YtbpjlhdhlcmajaaDoorPlain
import Derived.Test.YtbpjlhdhlcmajaaDoorPlainNum
import Derived.Test.YtbpjlhdhlcmajaaDoorPlainJoin
import Derived.Test.YtbpjlhdhlcmajaaDoorPlainSplit
import Derived.Lib.IndexMore
namespace Go.Proofs.YtbpjlhdhlcmajaaDoor.Pl
open Go

/-- The text with its checksum behind it. -/
def sealT (l : List UInt8) : List UInt8 := l ++ 35 :: Lib.itoa (sum l : Int)
/-- May the text be sealed? -/
def SealOk (s : ByteArray) : Prop := has s.data.toList 35 = false ∧ (sealT s.data.toList).length ≤ 4000

theorem SealOk.size {s : ByteArray} (h : SealOk s) : s.size ≤ 4000 := by
  have := h.2; unfold sealT at this; rw [List.length_append, data_len] at this; omega

theorem itoa_sum (l : List UInt8) : Lib.itoa (sum l : Int) = Lib.decDigits (sum l) := by
  unfold Lib.itoa; rw [if_neg (by omega)]; simp
theorem itoa_no (l : List UInt8) : (35 : UInt8) ∉ Lib.itoa (sum l : Int) := by
  rw [itoa_sum]; intro h
  have := dec_digits _ _ h
  exact absurd this (by decide)
theorem itoa_len (l : List UInt8) : (Lib.itoa (sum l : Int)).length ≤ 6 := by
  rw [itoa_sum]; exact (dec_len (by have := sum_lt l; omega)).2

/-- Sealing is joining the text and its checksum. -/
theorem seal_join (s it : ByteArray) (h : it = ⟨(Lib.itoa (sum s.data.toList : Int)).toArray⟩) : Lib.join (texts [s, it]) [35] = sealT s.data.toList := by
  subst h
  simp [texts, Lib.join, List.intercalate, sealT]
theorem seal_ok (s it : ByteArray) (h : it = ⟨(Lib.itoa (sum s.data.toList : Int)).toArray⟩) : JoinOk [s, it] 35 ↔ SealOk s := by
  unfold JoinOk SealOk
  rw [seal_join s it h]
  subst h
  constructor
  · rintro ⟨_, h2, h3⟩
    exact ⟨h2 s (by simp), h3⟩
  · rintro ⟨h2, h3⟩
    refine ⟨by simp, ?_, h3⟩
    intro x hx
    simp only [List.mem_cons, List.not_mem_nil, or_false] at hx
    rcases hx with rfl | rfl
    · exact h2
    · unfold has; simpa using itoa_no _

/-- What stands ahead of the first '#'. -/
def front (l : List UInt8) : List UInt8 := l.takeWhile fun c => c != 35

theorem front_no (l : List UInt8) : (35 : UInt8) ∉ front l := by
  intro h
  have h1 : (front l).all (fun c => c != 35) = true := List.all_takeWhile
  have h2 := List.all_eq_true.1 h1 35 h
  simp at h2
theorem cut_front (l : List UInt8) : (Lib.cut l [35]).1 = front l := by
  have key : ∀ l : List UInt8, (Lib.index l [35] = -1 ∧ front l = l) ∨ (0 ≤ Lib.index l [35] ∧ front l = l.take (Lib.index l [35]).toNat) := by
    intro l
    induction l with
    | nil => exact .inl ⟨by simp [Lib.index], rfl⟩
    | cons c l ih =>
      unfold Lib.index front
      by_cases hc : c = 35
      · subst hc
        right
        rw [if_pos (by simp [List.isPrefixOf])]
        simp
      · rw [if_neg (by simp [List.isPrefixOf]; exact fun e => hc e.symm), List.takeWhile_cons_of_pos (by simpa using hc)]
        rcases ih with ⟨h1, h2⟩ | ⟨h1, h2⟩
        · left
          rw [if_pos (by simp [h1])]
          exact ⟨rfl, by unfold front at h2; rw [h2]⟩
        · right
          have h3 : ¬ (Lib.index l [35] == -1) = true := by simp; omega
          rw [if_neg h3]
          refine ⟨by omega, ?_⟩
          have h4 : (Lib.index l [35] + 1).toNat = (Lib.index l [35]).toNat + 1 := by omega
          rw [h4, List.take_succ_cons]
          unfold front at h2; rw [h2]
  unfold Lib.cut
  rcases key l with ⟨h1, h2⟩ | ⟨h1, h2⟩
  · rw [if_neg (by omega)]; exact h2.symm
  · rw [if_pos h1]; exact h2.symm

theorem split_front (l : List UInt8) : ∃ r, split 35 l = front l :: r := by
  induction l with
  | nil => exact ⟨[], rfl⟩
  | cons c l ih =>
    obtain ⟨r, hr⟩ := ih
    unfold split front
    by_cases hc : c = 35
    · subst hc; exact ⟨split 35 l, by simp⟩
    · rw [if_neg hc, hr, List.takeWhile_cons_of_pos (by simpa using hc)]
      exact ⟨r, rfl⟩

/-- The text opens: it is a sealed text, short enough. -/
def Opens (s : ByteArray) : Prop := sealT (front s.data.toList) = s.data.toList ∧ s.size ≤ 4000
theorem Opens.ok {s t : ByteArray} (h : Opens s) (ht : t = ⟨(front s.data.toList).toArray⟩) : SealOk t := by
  subst ht
  refine ⟨by unfold has; simpa using front_no _, ?_⟩
  show (sealT (front s.data.toList).toArray.toList).length ≤ 4000
  rw [List.toList_toArray, h.1, data_len]; exact h.2
theorem opens_of {s t : ByteArray} (ht : t = ⟨(front s.data.toList).toArray⟩) (h : SealOk t) (he : (⟨(sealT t.data.toList).toArray⟩ : ByteArray) = s) : Opens s := by
  have e : sealT (front s.data.toList) = s.data.toList := by
    have h1 : t.data.toList = front s.data.toList := by rw [ht]
    rw [← h1]
    conv => rhs; rw [← he]
  refine ⟨e, ?_⟩
  rw [← data_len, ← e]
  have h1 : t.data.toList = front s.data.toList := by rw [ht]
  rw [← h1]; exact h.2
end Go.Proofs.YtbpjlhdhlcmajaaDoor.Pl
