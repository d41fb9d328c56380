/-
  CONTRACTS of the specification's chapter 5: l5Parse, ParseTranslation.
-/
import Derived.Test.YtnpiphkglhcifaaGreatDoorTransB
import Derived.Test.YtnpiphkglhcifaaGreatDoorAtRow
import Derived.Test.YtnpiphkglhcifaaGreatDoorSplit
import Derived.Test.YtnpiphkglhcifaaGreatDoorMarkI
namespace Go.Proofs.YtnpiphkglhcifaaGreatDoor
set_option maxRecDepth 100000
open Go.RowKit

/-- The atom that a part is read as. -/
def atomOf (p : ByteArray) : Int × ByteArray := ((Pl.parA (by8 p)).1, ⟨(Pl.parA (by8 p)).2.toArray⟩)
theorem parAE_of (p : ByteArray) : parAE p = .returned (.tuple #[atV (atomOf p).1 (atomOf p).2, .bool (Pl.parOk (by8 p))]) := rfl
/-- All parts of a string, read. -/
def readL (s : ByteArray) : List (Int × ByteArray) := (Pl.splitB s 32).map atomOf
def parLB (s : ByteArray) : Bool := decide (s.size ≤ 60) && okL (readL s)
def parL (s : ByteArray) : List (Int × ByteArray) := if parLB s = true then readL s else []
def OutA (w' : World) (ls : List (Int × ByteArray)) (b : Bool) (e : Ending) : Prop := ∃ u, e = .returned (.tuple #[u, .bool b]) ∧ AtomsAt w' u ls
theorem parL_no {s : ByteArray} (h : parLB s = false) : parL s = [] := by unfold parL; rw [h]; rfl
theorem parL_yes {s : ByteArray} (h : parLB s = true) : parL s = readL s := by unfold parL; rw [if_pos h]
theorem outA_no {s : ByteArray} (h : parLB s = false) (w : World) (a : Option Addr) (cap : Nat) : OutA w (parL s) (parLB s) (.returned (.tuple #[.slice a 0 cap, .bool false])) := by
  rw [parL_no h, h]; exact ⟨_, rfl, AtomsAt.nil _ _ _⟩
theorem parA_len (s : List UInt8) : (Pl.parA s).2.length ≤ s.length := by
  unfold Pl.parA
  split
  · exact Pl.kindA_len s
  · exact Nat.zero_le _
theorem atomOf_size (p : ByteArray) : (atomOf p).2.size ≤ p.size := by
  have h := parA_len (by8 p)
  rw [Pl.data_len] at h
  have e : (atomOf p).2.size = (Pl.parA (by8 p)).2.length := by show (Pl.parA (by8 p)).2.toArray.size = _; simp
  omega
theorem atomOf_no {p : ByteArray} (h : Pl.parOk (by8 p) = false) : goodE (atomOf p) = false := by
  have e : Pl.parA (by8 p) = (0, []) := by unfold Pl.parA; rw [h]; rfl
  unfold goodE atomOf
  rw [e]
  decide
theorem atomOf_yes {p : ByteArray} (h : Pl.parOk (by8 p) = true) : goodE (atomOf p) = true ∧ fmtB (atomOf p).1 (atomOf p).2 = p := by
  obtain ⟨h1, h2⟩ := Pl.fmt_parA (by8 p) h
  refine ⟨h1, ?_⟩
  apply by8_inj
  exact h2
/-- The texts of the words. -/
def wordsOf (ls : List (Int × ByteArray)) : List ByteArray := (ls.filter fun e => e.1 == 1).map fun e => e.2
def plainL (ls : List (Int × ByteArray)) : List ByteArray := if okL ls = true then wordsOf ls else []
theorem wordsOf_len (ls : List (Int × ByteArray)) : (wordsOf ls).length ≤ ls.length := by unfold wordsOf; rw [List.length_map]; exact List.length_filter_le _ _
theorem wordsOf_next {ls : List (Int × ByteArray)} {k : Nat} {e : Int × ByteArray} (h : ls[k]? = some e) : wordsOf (ls.take (k + 1)) = wordsOf (ls.take k) ++ (if (e.1 == 1) = true then [e.2] else []) := by
  unfold wordsOf
  rw [List.take_add_one, h, List.filter_append, List.map_append]
  congr 1
  show ([e].filter _).map _ = _
  by_cases q : (e.1 == 1) = true
  · rw [if_pos q]; simp [List.filter, q]
  · rw [if_neg q]; simp [List.filter, q]
/-- One string appended to an own row: 'append(l, s)'. -/
theorem push_str {ops : Array Oper} {rest : List Oper} {o : Oper} {a : Act} {w : World} {Q : Exit → Act → World → Prop}
    (hgd : o.guard = none) (p q : Operand) (ho : o.op = .call { callee := .builtin .append, args := #[p, q], argTypes := #[43, 43] }) (base : Nat) (v : Value) (xs : List ByteArray) (hs : a.eval p = v) (hown : w.ownsRow base 9 1 v xs.length (xs.map .string))
    (x : ByteArray) (hq : a.eval q = .slice (some ⟨w.heap.size, 0, none⟩) 1 1) (hb : base ≤ w.heap.size) (h1 : xs.length ≤ 4194304)
    (h : ∀ v' w', w'.ownsRow base 9 1 v' (xs ++ [x]).length ((xs ++ [x]).map .string) → w.grownBy w' v.ownBlock → (v'.ownBlock = v.ownBlock ∨ v'.ownBlock = some (w.heap.size + 1)) → wpList Tryz.prog ops Q rest (a.put o.dst v') w') : wpList Tryz.prog ops Q (o :: rest) a (w.alloc (.cells #[.string x] 9)) := by
  obtain ⟨i0, hi, hz0, hz1, hz2⟩ := info_parts infoStr'
  refine wpList_append_own_at _ hgd p q 43 ho base 9 i0 (.string ByteArray.empty) 1 16 Tryz.underlying43 hi hz0 hz1 hz2 rfl (by decide) v xs.length _ hs (hown.alloc _) ⟨w.heap.size, 0, none⟩ 1 1 [.string x] hq rfl (cell_one_new _ _ _) ?_ (by unfold maxLen; omega) (by omega) (by simp; omega) ?_
  · intro y hy; simp at hy; subst hy; rfl
  · intro v' w' hown' hg _ hat
    refine h v' w' ?_ ⟨hg.os, hg.tape, hg.output, Nat.le_trans (by simp) hg.size, fun k hk hne => (hg.block k (by rw [World.size_alloc]; omega) hne).trans (Below.heap_alloc w _ k hk)⟩ ?_
    · rw [List.length_append, List.map_append]; exact hown'
    · rcases hat with h2 | h2
      · exact .inl h2
      · exact .inr (by rw [h2, World.size_alloc])
def OutS (w' : World) (xs : List ByteArray) (b : Bool) (e : Ending) : Prop := ∃ u, e = .returned (.tuple #[u, .bool b]) ∧ StrsAt w' u xs
end Go.Proofs.YtnpiphkglhcifaaGreatDoor
