/-
  PLAIN MATHEMATICS of joining: when a list of texts can be joined by one byte, and what comes out. Nothing of the program stands here.
-/
import Derived.Lib.Join
import Derived.Lib.Bytealg
import Derived.Lib.Hide
namespace Go.Proofs.YtnpiphkglhcifaaGreat.Pl
set_option maxRecDepth 100000
open Go

/-- Does the byte stand in the list? -/
def has (l : List UInt8) (c : UInt8) : Bool := decide (c ∈ l)

theorem index_has (l : List UInt8) (c : UInt8) : decide (0 ≤ Lib.indexByte l c) = has l c := by
  induction l with
  | nil => simp [Lib.indexByte, has]
  | cons b l ih =>
    unfold has at ih ⊢
    have hge := Lib.indexByte_ge l c
    unfold Lib.indexByte
    rw [Bool.eq_iff_iff] at ih ⊢
    simp only [decide_eq_true_eq, List.mem_cons] at ih ⊢
    by_cases h : b = c
    · subst h; simp
    · rw [if_neg (by simpa using h)]
      by_cases h1 : Lib.indexByte l c = -1
      · rw [if_pos (by simp [h1])]
        rw [h1] at ih
        constructor
        · intro h; omega
        · rintro (h2 | h2)
          · exact absurd h2.symm h
          · have := ih.2 h2; omega
      · rw [if_neg (by simpa using h1)]
        constructor
        · intro _; exact .inr (ih.1 (by omega))
        · rintro (h2 | h2)
          · exact absurd h2.symm h
          · have := ih.2 h2; omega

abbrev texts (xs : List ByteArray) : List (List UInt8) := xs.map (·.data.toList)

/-- May the texts be joined by the byte c? -/
def JoinOk (xs : List ByteArray) (c : UInt8) : Prop := xs ≠ [] ∧ (∀ x ∈ xs, has x.data.toList c = false) ∧ (Lib.join (texts xs) [c]).length ≤ 4000

theorem join_len (xs : List ByteArray) (c : UInt8) (h : xs ≠ []) : (Lib.join (texts xs) [c]).length + 1 = xs.length + Lib.lens (texts xs) := by
  match xs, h with
  | x :: r, _ =>
    rw [texts, List.map_cons, Lib.join_cons, List.length_append, Lib.joinTail_length, List.length_singleton, List.length_cons]
    simp [Lib.lens]; omega

theorem lens_take (l : List (List UInt8)) (k : Nat) : Lib.lens (l.take k) ≤ Lib.lens l := by
  have e : Lib.lens l = Lib.lens (l.take k) + Lib.lens (l.drop k) := by
    conv => lhs; rw [← List.take_append_drop k l]
    unfold Lib.lens
    rw [List.map_append, List.sum_append]
  omega

theorem lens_succ (xs : List ByteArray) (k : Nat) (x : ByteArray) (h : xs[k]? = some x) : Lib.lens (texts (xs.take (k + 1))) = Lib.lens (texts (xs.take k)) + x.size := by
  unfold texts
  rw [List.map_take, List.map_take, Lib.lens_take_succ _ _ x.data.toList (by rw [List.getElem?_map, h]; rfl)]
  rw [Array.length_toList]; rfl

theorem not_ok_long {xs : List ByteArray} {c : UInt8} {k : Nat} {x : ByteArray} (h : xs[k]? = some x) (hl : 4001 < xs.length + (Lib.lens (texts (xs.take k)) + x.size)) : ¬ JoinOk xs c := by
  rintro ⟨h1, _, h3⟩
  have e := join_len xs c h1
  have := lens_succ xs k x h
  have := lens_take (texts xs) (k + 1)
  unfold texts at *
  rw [← List.map_take] at this
  omega
theorem not_ok_has {xs : List ByteArray} {c : UInt8} {k : Nat} {x : ByteArray} (h : xs[k]? = some x) (hc : has x.data.toList c = true) : ¬ JoinOk xs c := by
  rintro ⟨_, h2, _⟩
  have := h2 x (List.mem_of_getElem? h)
  rw [hc] at this; cases this
theorem ok_of {xs : List ByteArray} {c : UInt8} (h : xs ≠ []) (hc : ∀ x ∈ xs, has x.data.toList c = false) (hl : xs.length + Lib.lens (texts xs) ≤ 4001) : JoinOk xs c :=
  ⟨h, hc, by have := join_len xs c h; omega⟩
theorem no_has_succ {xs : List ByteArray} {c : UInt8} {k : Nat} {x : ByteArray} (h : xs[k]? = some x) (hc : has x.data.toList c = false) (ha : ∀ x ∈ xs.take k, has x.data.toList c = false) : ∀ x ∈ xs.take (k + 1), has x.data.toList c = false := by
  intro y hy
  rw [List.take_add_one, h, List.mem_append] at hy
  rcases hy with hy | hy
  · exact ha y hy
  · simp at hy; subst hy; exact hc

/-- The specification's loop: one text more. -/
theorem join_succ_first (xs : List ByteArray) (c : UInt8) (x : ByteArray) (h : xs[0]? = some x) : Lib.join (texts (xs.take (0 + 1))) [c] = x.data.toList := by
  rw [List.take_add_one, h]
  simp [texts, Lib.join_one]
theorem join_succ (xs : List ByteArray) (c : UInt8) (k : Nat) (x : ByteArray) (hk : 0 < k) (h : xs[k]? = some x) : Lib.join (texts (xs.take (k + 1))) [c] = Lib.join (texts (xs.take k)) [c] ++ [c] ++ x.data.toList := by
  obtain ⟨j, rfl⟩ : ∃ j, k = j + 1 := ⟨k - 1, by omega⟩
  match xs, h with
  | y :: r, h =>
    rw [List.getElem?_cons_succ] at h
    rw [List.take_succ_cons, List.take_succ_cons]
    unfold texts
    rw [List.map_cons, List.map_cons, Lib.join_cons, Lib.join_cons, List.map_take, List.map_take, Lib.joinTail_take_succ _ _ _ x.data.toList (by rw [List.getElem?_map, h]; rfl)]
    simp [List.append_assoc]
theorem not_ok_prefix {xs : List ByteArray} {c : UInt8} {k : Nat} {x : ByteArray} (h : xs[k]? = some x) (hl : 4000 < (Lib.join (texts (xs.take (k + 1))) [c]).length) : ¬ JoinOk xs c := by
  have hk : k < xs.length := by
    rcases Nat.lt_or_ge k xs.length with h' | h'
    · exact h'
    · rw [List.getElem?_eq_none h'] at h; cases h
  have h1 : xs.take (k + 1) ≠ [] := by
    intro e
    have h2 : (xs.take (k + 1)).length = k + 1 := by rw [List.length_take]; omega
    rw [e] at h2; cases h2
  have e := join_len _ c h1
  rw [List.length_take] at e
  have := lens_succ xs k x h
  exact not_ok_long h (by omega)
theorem ok_of_join {xs : List ByteArray} {c : UInt8} (h : xs ≠ []) (hc : ∀ x ∈ xs, has x.data.toList c = false) (hl : (Lib.join (texts xs) [c]).length ≤ 4000) : JoinOk xs c := ⟨h, hc, hl⟩
end Go.Proofs.YtnpiphkglhcifaaGreat.Pl
