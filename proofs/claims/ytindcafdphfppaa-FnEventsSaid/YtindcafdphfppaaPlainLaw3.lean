/-
  PLAIN MATHEMATICS of the laws of chapter 3.
-/
import Derived.Test.YtindcafdphfppaaPlainEvents
namespace Go.Proofs.Ytindcafdphfppaa.Pl

theorem sub_lt {a b : Nat} (h : sub a b) (hb : b < 8388608) : a < 8388608 := by
  have h1 := sub_and h
  have h2 : a &&& b ≤ b := Nat.and_le_right
  omega
theorem orAll_bit (S : List Nat) (j : Nat) : ∀ p : Nat, (S.foldl (· ||| ·) p).testBit j = (p.testBit j || S.any (fun s => s.testBit j)) := by
  induction S with
  | nil => intro p; simp
  | cons s S ih => intro p; rw [List.foldl_cons, ih, Nat.testBit_or, List.any_cons, Bool.or_assoc]
theorem allOf_bit (S : List Nat) (j : Nat) : (allOf S).testBit j = S.any (fun s => s.testBit j) := by
  unfold allOf; rw [orAll_bit, Nat.zero_testBit, Bool.false_or]
theorem sub_mem {S : List Nat} {s : Nat} (h : s ∈ S) : sub s (allOf S) := by
  intro j hj
  rw [allOf_bit, List.any_eq_true]
  exact ⟨s, h, hj⟩
theorem sub_take (S : List Nat) (k : Nat) : sub (allOf (S.take k)) (allOf S) := by
  intro j hj
  rw [allOf_bit, List.any_eq_true] at hj ⊢
  obtain ⟨s, hs, hb⟩ := hj
  exact ⟨s, List.mem_of_mem_take hs, hb⟩
theorem allOf_take {S : List Nat} {k s : Nat} (h : S[k]? = some s) : allOf (S.take (k + 1)) = allOf (S.take k) ||| s := by
  rw [List.take_add_one, h]; exact allOf_snoc _ _
theorem pow_lt (k : Nat) (h : k < 23) : 2 ^ k < 8388608 := Nat.pow_lt_pow_right (a := 2) (m := k) (n := 23) (by decide) h
theorem press_lt (l : List Ev) (h : ∀ e ∈ l, e.k.toNat < 23) : ∀ p : Nat, p < 8388608 → l.foldl (fun p e => if e.d then p ||| 2 ^ e.k.toNat else p) p < 8388608 := by
  induction l with
  | nil => intro p hp; exact hp
  | cons e l ih =>
    intro p hp
    rw [List.foldl_cons]
    refine ih (fun x hx => h x (List.mem_cons_of_mem _ hx)) _ ?_
    split
    · exact Nat.or_lt_two_pow (n := 23) hp (pow_lt _ (h e List.mem_cons_self))
    · exact hp
theorem pressed_lt {l : List Ev} (h : chk 0 0 l = true) (k : Nat) : pressed (l.take k) < 8388608 := by
  refine press_lt _ (fun e he => ?_) 0 (by decide)
  obtain ⟨i, hi⟩ := List.mem_iff_getElem?.1 (List.mem_of_mem_take he)
  obtain ⟨_, _, h0, h1, _⟩ := chk_at h hi
  omega
theorem key_at {l : List Ev} (h : chk 0 0 l = true) {k : Nat} {e : Ev} (he : l[k]? = some e) : 0 ≤ e.k ∧ e.k < 23 := by
  obtain ⟨_, _, h0, h1, _⟩ := chk_at h he
  exact ⟨h0, h1⟩
theorem strokes_lt {l : List Ev} (h : chk 0 0 l = true) : allOf (run l).S < 8388608 := by
  have hp := pressed_lt h l.length
  rw [List.take_length] at hp
  exact sub_lt (sub_pressed l h).2.2 hp
theorem strokes_in {l : List Ev} (h : chk 0 0 l = true) : allOf (run l).S &&& pressed l = allOf (run l).S := sub_and (sub_pressed l h).2.2
end Go.Proofs.Ytindcafdphfppaa.Pl
