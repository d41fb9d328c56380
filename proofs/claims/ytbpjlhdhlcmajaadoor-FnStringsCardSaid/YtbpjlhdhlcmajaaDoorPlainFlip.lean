/-
  PLAIN MATHEMATICS: a sealed text of which one byte has been changed does not open. Nothing of the program stands here.
-/
import Derived.Test.YtbpjlhdhlcmajaaDoorPlainSeal
namespace Go.Proofs.YtbpjlhdhlcmajaaDoor.Pl
open Go

theorem step_inj {h h' : Nat} (c : UInt8) (h0 : h < 999979) (h1 : h' < 999979) (hne : h ≠ h') : step h c ≠ step h' c := by
  unfold step; omega
theorem step_byte (h : Nat) {c c' : UInt8} (hne : c ≠ c') : step h c ≠ step h c' := by
  have h1 : c.toNat ≠ c'.toNat := fun e => hne (UInt8.toNat_inj.1 e)
  have h2 := c.toNat_lt
  have h3 := c'.toNat_lt
  unfold step; omega
theorem fold_inj : ∀ (q : List UInt8) (a b : Nat), a < 999979 → b < 999979 → a ≠ b → q.foldl step a ≠ q.foldl step b
  | [], _, _, _, _, hne => hne
  | c :: q, _, _, h0, h1, hne => fold_inj q _ _ (step_lt _ _) (step_lt _ _) (step_inj c h0 h1 hne)
theorem sum_set (x : List UInt8) (k : Nat) (hk : k < x.length) (c : UInt8) (hc : x[k] ≠ c) : sum (x.set k c) ≠ sum x := by
  have e1 : x = x.take k ++ x[k] :: x.drop (k + 1) := by rw [List.getElem_cons_drop, List.take_append_drop]
  have e2 : x.set k c = x.take k ++ c :: x.drop (k + 1) := by rw [List.set_eq_take_append_cons_drop, if_pos hk]
  rw [e2]
  conv => rhs; rw [e1]
  unfold sum
  rw [List.foldl_append, List.foldl_append, List.foldl_cons, List.foldl_cons]
  exact fold_inj _ _ _ (step_lt _ _) (step_lt _ _) (step_byte _ (fun e => hc e.symm))

theorem front_mid (p q : List UInt8) (h : (35 : UInt8) ∉ p) : front (p ++ 35 :: q) = p := by
  induction p with
  | nil => simp [front]
  | cons c p ih =>
    rw [List.mem_cons, not_or] at h
    unfold front at ih ⊢
    rw [List.cons_append, List.takeWhile_cons_of_pos (by simpa using fun e => h.1 e.symm), ih h.2]
theorem front_all (p : List UInt8) (h : (35 : UInt8) ∉ p) : front p = p := by
  induction p with
  | nil => rfl
  | cons c p ih =>
    rw [List.mem_cons, not_or] at h
    unfold front at ih ⊢
    rw [List.takeWhile_cons_of_pos (by simpa using fun e => h.1 e.symm), ih h.2]

theorem sum_of_itoa {a b : List UInt8} (h : Lib.itoa (sum a : Int) = Lib.itoa (sum b : Int)) : sum a = sum b := by
  rw [itoa_sum, itoa_sum] at h
  rw [← val_dec (sum a), ← val_dec (sum b), h]

/-- ONE BYTE CHANGED: it does not open. -/
theorem flip (x : List UInt8) (hx : (35 : UInt8) ∉ x) (k : Nat) (hk : k < (x ++ 35 :: Lib.itoa (sum x : Int)).length) (c : UInt8) (hc : (x ++ 35 :: Lib.itoa (sum x : Int))[k] ≠ c) :
    sealT (front ((x ++ 35 :: Lib.itoa (sum x : Int)).set k c)) ≠ (x ++ 35 :: Lib.itoa (sum x : Int)).set k c := by
  rcases Nat.lt_trichotomy k x.length with h | h | h
  · have e : (x ++ 35 :: Lib.itoa (sum x : Int)).set k c = x.set k c ++ 35 :: Lib.itoa (sum x : Int) := by rw [List.set_append_left _ _ h]
    have hxk : x[k] ≠ c := by
      intro e2; apply hc; rw [← e2]; rw [List.getElem_append_left h]
    by_cases h35 : c = 35
    · have e2 : x.set k c = x.take k ++ 35 :: x.drop (k + 1) := by rw [List.set_eq_take_append_cons_drop, if_pos h, h35]
      rw [e, e2, List.append_assoc, List.cons_append, front_mid _ _ (fun hm => hx (List.mem_of_mem_take hm))]
      intro he
      unfold sealT at he
      have he2 := List.append_cancel_left he
      rw [List.cons.injEq] at he2
      have : (35 : UInt8) ∈ Lib.itoa (sum (x.take k) : Int) := by rw [he2.2]; simp
      exact itoa_no _ this
    · have hno : (35 : UInt8) ∉ x.set k c := by
        intro hm
        rcases List.mem_or_eq_of_mem_set hm with hm | hm
        · exact hx hm
        · exact h35 hm.symm
      rw [e, front_mid _ _ hno]
      intro he
      unfold sealT at he
      have he2 := List.append_cancel_left he
      rw [List.cons.injEq] at he2
      exact sum_set x k h c hxk (sum_of_itoa he2.2)
  · have e : (x ++ 35 :: Lib.itoa (sum x : Int)).set k c = x ++ c :: Lib.itoa (sum x : Int) := by
      rw [List.set_append_right _ _ (by omega), h, Nat.sub_self, List.set_cons_zero]
    have h35 : c ≠ 35 := by
      intro e2; apply hc; rw [e2]
      rw [List.getElem_append_right (by omega)]; simp [h]
    have hno : (35 : UInt8) ∉ x ++ c :: Lib.itoa (sum x : Int) := by
      intro hm
      rw [List.mem_append, List.mem_cons] at hm
      rcases hm with hm | hm | hm
      · exact hx hm
      · exact h35 hm.symm
      · exact itoa_no _ hm
    rw [e, front_all _ hno]
    intro he
    have := congrArg List.length he
    unfold sealT at this
    simp at this
  · obtain ⟨j, hj⟩ : ∃ j, k - x.length = j + 1 := ⟨k - x.length - 1, by omega⟩
    have e : (x ++ 35 :: Lib.itoa (sum x : Int)).set k c = x ++ 35 :: (Lib.itoa (sum x : Int)).set j c := by
      rw [List.set_append_right _ _ (by omega), hj, List.set_cons_succ]
    rw [e, front_mid _ _ hx]
    intro he
    unfold sealT at he
    have he2 := List.append_cancel_left he
    rw [List.cons.injEq] at he2
    rw [List.length_append, List.length_cons] at hk
    have hjl : j < (Lib.itoa (sum x : Int)).length := by omega
    have h1 : ((Lib.itoa (sum x : Int)).set j c)[j]'(by rw [List.length_set]; exact hjl) = c := List.getElem_set_self _
    apply hc
    rw [List.getElem_append_right (by omega)]
    have h2 : (35 :: Lib.itoa (sum x : Int))[k - x.length]'(by rw [List.length_cons]; omega) = (Lib.itoa (sum x : Int))[j]'hjl := by
      simp only [hj, List.getElem_cons_succ]
    rw [h2]
    have h3 : (Lib.itoa (sum x : Int))[j]'hjl = ((Lib.itoa (sum x : Int)).set j c)[j]'(by rw [List.length_set]; exact hjl) := by
      congr 1; exact he2.2
    rw [h3, h1]

theorem itoa_ne_nil (n : Int) : Lib.itoa n ≠ [] := by
  unfold Lib.itoa
  split
  · simp
  · exact dec_ne_nil _
theorem opens_seal (s y : ByteArray) (h : SealOk s) (hy : y.data.toList = sealT s.data.toList) : Opens y ∧ front y.data.toList = s.data.toList := by
  have hno : (35 : UInt8) ∉ s.data.toList := by have := h.1; unfold has at this; simpa using this
  have hf : front y.data.toList = s.data.toList := by rw [hy]; unfold sealT; exact front_mid _ _ hno
  exact ⟨⟨by rw [hf, hy], by rw [← data_len, hy]; exact h.2⟩, hf⟩
theorem flip_closed (s y z : ByteArray) (h : SealOk s) (hy : y.data.toList = sealT s.data.toList) (k : Nat) (hk : k < y.size) (c : UInt8) (hc : y[k] ≠ c) (hz : z.data.toList = y.data.toList.set k c) : ¬ Opens z := by
  have hno : (35 : UInt8) ∉ s.data.toList := by have := h.1; unfold has at this; simpa using this
  intro ho
  have h1 := ho.1
  rw [hz, hy] at h1
  have hk' : k < (sealT s.data.toList).length := by rw [← hy, data_len]; exact hk
  refine flip s.data.toList hno k hk' c ?_ h1
  intro e
  apply hc
  have e2 : y[k] = y.data.toList[k]'(by rw [data_len]; exact hk) := rfl
  rw [e2, ← e]
  congr 1
theorem xor_ne (a m : UInt8) (h : m ≠ 0) : a ^^^ m ≠ a := by
  intro e
  apply h
  have : a ^^^ (a ^^^ m) = a ^^^ a := by rw [e]
  rw [← UInt8.xor_assoc, UInt8.xor_self, UInt8.zero_xor] at this
  exact this
end Go.Proofs.YtbpjlhdhlcmajaaDoor.Pl
