/-
  ATOMS THAT ARE MARKED AND HELD: the laws' helpers on arguments and answers of atoms.
-/
import Derived.Test.YthigdblloddepaaGreatAtomS
import Derived.Test.YthigdblloddepaaGreatMark
namespace Go.Proofs.YthigdblloddepaaGreat
set_option maxRecDepth 100000
open Go.RowKit

/-- Every block from S on that was there is as it was. -/
def Over (S : Nat) (w w' : World) : Prop := w.heap.size ≤ w'.heap.size ∧ ∀ b o, S ≤ b → b < w.heap.size → w'.cell? ⟨b, o, none⟩ = w.cell? ⟨b, o, none⟩ ∧ w'.frozen? ⟨b, o, none⟩ = w.frozen? ⟨b, o, none⟩
theorem Over.refl (S : Nat) (w : World) : Over S w w := ⟨Nat.le_refl _, fun _ _ _ _ => ⟨rfl, rfl⟩⟩
theorem Over.setCell {S : Nat} {w w' : World} (h : Over S w w') {g : Nat} (hg : g < S) (o : Nat) (v : Value) : Over S w (w'.setCell ⟨g, o, none⟩ v) := by
  refine ⟨by rw [World.size_setCell]; exact h.1, fun b o' hb hl => ⟨?_, ?_⟩⟩
  · rw [World.cell?_setCell_other _ _ _ _ (by intro e; injection e; omega)]; exact (h.2 b o' hb hl).1
  · rw [World.frozen?_setCell]; exact (h.2 b o' hb hl).2
theorem Over.below {S : Nat} {w w' w2 : World} (h : Over S w w') (hb : Below w'.heap.size w' w2) : Over S w w2 := by
  refine ⟨Nat.le_trans h.1 hb.size, fun b o hS hl => ?_⟩
  have h1 := h.2 b o hS hl
  have hl2 : b < w'.heap.size := Nat.lt_of_lt_of_le hl h.1
  exact ⟨(hb.cell (p := ⟨b, o, none⟩) hl2).trans h1.1, (hb.frozen (p := ⟨b, o, none⟩) hl2).trans h1.2⟩
/-- The mark of an atom. -/
def markedA (j : Nat) : Atm := (1 + 2 * (j : Int), markB (2 + 2 * j))
theorem OwnStrs.over {w w' : World} {S base : Nat} {v : Value} {n : Nat} {f : Nat → ByteArray} (h : OwnStrs w base v n f) (ha : Over S w w') (hS : S ≤ base) : OwnStrs w' base v n f := by
  rcases h with h | ⟨g, cap, hv, hn, hg, h0, hlt, hc, hf⟩
  · exact .inl h
  · exact .inr ⟨g, cap, hv, hn, hg, h0, Nat.lt_of_lt_of_le hlt ha.1, fun j hj => ((ha.2 g j (by omega) hlt).1).trans (hc j hj), fun j => ((ha.2 g j (by omega) hlt).2).trans (hf j)⟩
theorem OwnStrs.strs {w : World} {base : Nat} {v : Value} {xs : List ByteArray} (h : OwnStrs w base v xs.length (fun j => xs.getD j ByteArray.empty)) : StrsAt w v xs := by
  rcases h with ⟨h0, a, cap, rfl⟩ | ⟨g, cap, rfl, hc, _, _, hlt, hcell, _⟩
  · have : xs = [] := List.length_eq_zero_iff.1 h0
    subst this
    exact ⟨a, cap, rfl, Nat.zero_le _, .inl rfl⟩
  · refine ⟨_, cap, rfl, hc, .inr ⟨g, 0, rfl, hlt, fun j x hx => ?_⟩⟩
    have hj : j < xs.length := by
      rcases Nat.lt_or_ge j xs.length with h' | h'
      · exact h'
      · rw [List.getElem?_eq_none h'] at hx; cases hx
    rw [Nat.zero_add, hcell j hj]
    simp [List.getD, hx]
end Go.Proofs.YthigdblloddepaaGreat
