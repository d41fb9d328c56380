/-
  WHAT THE LAWS OF CHAPTER 3 WANT OF THE PROGRAM: a record of contracts, one for each function. Impl3 proves it of the code.
-/
import Derived.Test.YtindcafdphfppaaOpenE
import Derived.Test.YtindcafdphfppaaSpecChord
namespace Go.Proofs.Ytindcafdphfppaa
open Go.RowKit

namespace Pl
theorem step_len (r : Run) (e : Ev) (n : Nat) (h : r.S.length ≤ n ∧ r.T.length ≤ n ∧ r.F.length ≤ n) : (r.step e).S.length ≤ n + 1 ∧ (r.step e).T.length ≤ n + 1 ∧ (r.step e).F.length ≤ n + 1 := by
  obtain ⟨h0, h1, h2⟩ := h
  unfold Run.step
  dsimp only
  refine ⟨?_, ?_, ?_⟩
  · split
    · rw [List.length_append, List.length_singleton]; omega
    · omega
  · split
    · rw [List.length_append, List.length_singleton]; omega
    · omega
  · split
    · rw [List.length_append, List.length_singleton]; omega
    · omega
theorem fold_len (l : List Ev) : ∀ (r : Run) (n : Nat), (r.S.length ≤ n ∧ r.T.length ≤ n ∧ r.F.length ≤ n) → (l.foldl Run.step r).S.length ≤ n + l.length ∧ (l.foldl Run.step r).T.length ≤ n + l.length ∧ (l.foldl Run.step r).F.length ≤ n + l.length := by
  induction l with
  | nil => intro r n h; exact h
  | cons e l ih =>
    intro r n h
    have := ih _ _ (step_len r e n h)
    rw [List.foldl_cons, List.length_cons]
    omega
theorem run_len (l : List Ev) : (run l).S.length ≤ l.length ∧ (run l).T.length ≤ l.length ∧ (run l).F.length ≤ l.length := by
  have := fold_len l Run.zero 0 ⟨Nat.le_refl _, Nat.le_refl _, Nat.le_refl _⟩
  rw [Nat.zero_add] at this
  exact this
end Pl
theorem lastL_len (es : List Pl.Ev) : (lastL es).length ≤ 200 := by
  unfold lastL
  split
  · rename_i h; have := (good_parts h).1; have := (Pl.run_len es).1; rw [natsI_len]; omega
  · exact Nat.zero_le _
theorem timesL_len (es : List Pl.Ev) : (timesL es).length ≤ 200 := by
  unfold timesL
  split
  · rename_i h; have := (good_parts h).1; have := (Pl.run_len es).2.1; omega
  · exact Nat.zero_le _
theorem firstL_len (es : List Pl.Ev) : (firstL es).length ≤ 200 := by
  unfold firstL
  split
  · rename_i h; have := (good_parts h).1; have := (Pl.run_len es).2.2; rw [natsI_len]; omega
  · exact Nat.zero_le _
theorem heldL_len (es : List Pl.Ev) : (heldL es).length ≤ 200 := by
  unfold heldL
  split
  · rw [keysI_len]; have := Pl.card_le (Pl.run es).dn; omega
  · exact Nat.zero_le _
theorem chordL_len (xs : List Int) (iv : Int) : (chordL xs iv).length ≤ 200 := by
  unfold chordL
  split
  · rename_i h
    unfold chordB at h
    simp only [Bool.and_eq_true] at h
    exact of_decide_eq_true h.2.2
  · exact Nat.zero_le _

/-- An answer of ints of its own and a flag. -/
def IntsO (base : Nat) (w' : World) (xs : List Int) (b : Bool) (e : Ending) : Prop := ∃ u, e = .returned (.tuple #[u, .bool b]) ∧ OwnInts w' base u xs.length (fun j => xs.getD j 0)
/-- An answer of events of its own and a flag. -/
def EvsO (base : Nat) (w' : World) (es : List Pl.Ev) (b : Bool) (e : Ending) : Prop := ∃ u, e = .returned (.tuple #[u, .bool b]) ∧ OwnEvs w' base u es.length (fun j => es.getD j default)

structure Impl3 : Prop where
  valid : ∀ (v : Value) (es : List Pl.Ev) (w : World), EvsAt w v es → es.length ≤ 2097152 → Calls Try.prog 25 #[v] w fun e w' => e = .returned (.bool (Pl.good es)) ∧ Below w.heap.size w w'
  last : ∀ (v : Value) (es : List Pl.Ev) (w : World), EvsAt w v es → es.length ≤ 2097152 → Calls Try.prog 15 #[v] w fun e w' => IntsO w.heap.size w' (lastL es) (Pl.good es) e ∧ Below w.heap.size w w'
  first : ∀ (v : Value) (es : List Pl.Ev) (w : World), EvsAt w v es → es.length ≤ 2097152 → Calls Try.prog 16 #[v] w fun e w' => IntsO w.heap.size w' (firstL es) (Pl.good es) e ∧ Below w.heap.size w w'
  times : ∀ (v : Value) (es : List Pl.Ev) (w : World), EvsAt w v es → es.length ≤ 2097152 → Calls Try.prog 18 #[v] w fun e w' => IntsO w.heap.size w' (timesL es) (Pl.good es) e ∧ Below w.heap.size w w'
  held : ∀ (v : Value) (es : List Pl.Ev) (w : World), EvsAt w v es → es.length ≤ 2097152 → Calls Try.prog 17 #[v] w fun e w' => IntsO w.heap.size w' (heldL es) (Pl.good es) e ∧ Below w.heap.size w w'
  chord : ∀ (v : Value) (xs : List Int) (iv : Int) (w : World), IntsAt w v xs → xs.length ≤ 2097152 → Calls Try.prog 13 #[v, .int .i64 iv] w fun e w' => EvsO w.heap.size w' (chordL xs iv) (chordB xs iv) e ∧ Below w.heap.size w w'
end Go.Proofs.Ytindcafdphfppaa
