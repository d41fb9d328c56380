/-
  LISTS OF ATOMS in the laws: their size, a copy of one, the comparison of two.
-/
import Derived.Test.YtnpiphkglhcifaaGreatTrans
import Derived.Test.YtnpiphkglhcifaaGreatAtRow
namespace Go.Proofs.YtnpiphkglhcifaaGreat
set_option maxRecDepth 100000
open Go.RowKit

abbrev Atm := Int × ByteArray
def a00 : Atm := (0, ⟨#[]⟩)
/-- The row at block g holds the n atoms f, and nothing of it is frozen. -/
def RowA (w : World) (g n : Nat) (f : Nat → Atm) : Prop :=
  g < w.heap.size ∧ (∀ j, j < n → w.cell? ⟨g, j * 2, none⟩ = some (.int .i64 (f j).1) ∧ w.cell? ⟨g, j * 2 + 1, none⟩ = some (.string (f j).2)) ∧ ∀ j, w.frozen? ⟨g, j, none⟩ = false
theorem RowA.below {w w' : World} {g n : Nat} {f : Nat → Atm} (h : RowA w g n f) (hb : Below w.heap.size w w') : RowA w' g n f := by
  obtain ⟨h0, h1, h2⟩ := h
  refine ⟨Nat.lt_of_lt_of_le h0 hb.size, fun j hj => ?_, fun j => (hb.frozen (p := ⟨g, j, none⟩) h0).trans (h2 j)⟩
  obtain ⟨a0, a1⟩ := h1 j hj
  exact ⟨(hb.cell (p := ⟨g, j * 2, none⟩) h0).trans a0, (hb.cell (p := ⟨g, j * 2 + 1, none⟩) h0).trans a1⟩
/-- The kind of an atom of the row is written. -/
theorem RowA.set0 {w : World} {g n : Nat} {f : Nat → Atm} (h : RowA w g n f) (k : Nat) (hk : k < n) (z : Int) :
    RowA (w.setCell ⟨g, k * 2, none⟩ (.int .i64 z)) g n (fun j => if j = k then (z, (f k).2) else f j) := by
  obtain ⟨h0, h1, h2⟩ := h
  refine ⟨by rw [World.size_setCell]; exact h0, fun j hj => ?_, fun j => by rw [World.frozen?_setCell]; exact h2 j⟩
  obtain ⟨a0, a1⟩ := h1 j hj
  by_cases hjk : j = k
  · subst hjk
    simp only [if_true]
    refine ⟨World.cell?_setCell_same _ _ _ a0, ?_⟩
    rw [World.cell?_setCell_other _ _ _ _ (by intro e; injection e; omega)]; exact a1
  · simp only [if_neg hjk]
    refine ⟨?_, ?_⟩
    · rw [World.cell?_setCell_other _ _ _ _ (by intro e; injection e; omega)]; exact a0
    · rw [World.cell?_setCell_other _ _ _ _ (by intro e; injection e; omega)]; exact a1
/-- The text of an atom of the row is written. -/
theorem RowA.set1 {w : World} {g n : Nat} {f : Nat → Atm} (h : RowA w g n f) (k : Nat) (hk : k < n) (t : ByteArray) :
    RowA (w.setCell ⟨g, k * 2 + 1, none⟩ (.string t)) g n (fun j => if j = k then ((f k).1, t) else f j) := by
  obtain ⟨h0, h1, h2⟩ := h
  refine ⟨by rw [World.size_setCell]; exact h0, fun j hj => ?_, fun j => by rw [World.frozen?_setCell]; exact h2 j⟩
  obtain ⟨a0, a1⟩ := h1 j hj
  by_cases hjk : j = k
  · subst hjk
    simp only [if_true]
    refine ⟨?_, World.cell?_setCell_same _ _ _ a1⟩
    rw [World.cell?_setCell_other _ _ _ _ (by intro e; injection e; omega)]; exact a0
  · simp only [if_neg hjk]
    refine ⟨?_, ?_⟩
    · rw [World.cell?_setCell_other _ _ _ _ (by intro e; injection e; omega)]; exact a0
    · rw [World.cell?_setCell_other _ _ _ _ (by intro e; injection e; omega)]; exact a1
theorem RowA.congr {w : World} {g n : Nat} {f f' : Nat → Atm} (h : RowA w g n f) (hf : ∀ j, j < n → f j = f' j) : RowA w g n f' := by
  refine ⟨h.1, fun j hj => ?_, h.2.2⟩
  rw [← hf j hj]; exact h.2.1 j hj
/-- An atom is written into the row. -/
theorem RowA.set {w : World} {g n : Nat} {f : Nat → Atm} (h : RowA w g n f) (k : Nat) (hk : k < n) (e : Atm) :
    RowA ((w.setCell ⟨g, k * 2, none⟩ (.int .i64 e.1)).setCell ⟨g, k * 2 + 1, none⟩ (.string e.2)) g n (fun j => if j = k then e else f j) := by
  refine ((h.set0 k hk e.1).set1 k hk e.2).congr fun j hj => ?_
  by_cases hjk : j = k
  · subst hjk; simp
  · simp [hjk]
theorem below_set2 {w w1 : World} {base g : Nat} (h : Below base w w1) (hg : base ≤ g) (a b : Nat) (x y : Value) : Below base w ((w1.setCell ⟨g, a, none⟩ x).setCell ⟨g, b, none⟩ y) :=
  (h.setCell (p := ⟨g, a, none⟩) hg x).setCell (p := ⟨g, b, none⟩) hg y
theorem rowA_at {w : World} {g n : Nat} {f : Nat → Atm} {ls : List Atm} (h : RowA w g n f) (hn : n = ls.length) (hf : ∀ j e, ls[j]? = some e → f j = e) (cap : Nat) (hc : n ≤ cap) : AtomsAt w (.slice (some ⟨g, 0, none⟩) n cap) ls := by
  subst hn
  refine ⟨_, cap, rfl, hc, .inr ⟨g, 0, rfl, h.1, fun j e he => ?_⟩⟩
  have hj : j < ls.length := by
    rcases Nat.lt_or_ge j ls.length with h' | h'
    · exact h'
    · rw [List.getElem?_eq_none h'] at he; cases he
  have := h.2.1 j hj
  rw [hf j e he] at this
  rw [Nat.zero_add]; exact this
/-- v is a slice of n atoms of its own, from block 'base' on. -/
def OwnAs (w : World) (base : Nat) (v : Value) (n : Nat) (f : Nat → Atm) : Prop :=
  (n = 0 ∧ ∃ a cap, v = .slice a 0 cap) ∨ ∃ g cap, v = .slice (some ⟨g, 0, none⟩) n cap ∧ n ≤ cap ∧ base ≤ g ∧ 0 < n ∧ RowA w g n f
theorem OwnAs.below {w w' : World} {base : Nat} {v : Value} {n : Nat} {f : Nat → Atm} (h : OwnAs w base v n f) (hb : Below w.heap.size w w') : OwnAs w' base v n f := by
  rcases h with h | ⟨g, cap, hv, hn, hg, h0, hr⟩
  · exact .inl h
  · exact .inr ⟨g, cap, hv, hn, hg, h0, hr.below hb⟩
theorem OwnAs.at {w : World} {base : Nat} {v : Value} {n : Nat} {f : Nat → Atm} {ls : List Atm} (h : OwnAs w base v n f) (hn : n = ls.length) (hf : ∀ j e, ls[j]? = some e → f j = e) : AtomsAt w v ls := by
  rcases h with ⟨h0, a, cap, rfl⟩ | ⟨g, cap, rfl, hc, _, _, hr⟩
  · have : ls = [] := List.length_eq_zero_iff.1 (by omega)
    subst this
    exact AtomsAt.nil _ _ _
  · exact rowA_at hr hn hf cap hc
theorem OwnAs.atoms {w : World} {base : Nat} {v : Value} {ls : List Atm} (h : OwnAs w base v ls.length (fun j => ls.getD j a00)) : AtomsAt w v ls := h.at rfl fun j e he => by simp [List.getD, he]
theorem OwnAs.lt {w : World} {base : Nat} {v : Value} {n : Nat} {f : Nat → Atm} (h : OwnAs w base v n f) (h0 : 0 < n) : ∀ g, v.ownBlock = some g → g < w.heap.size := by
  rcases h with ⟨hz, _⟩ | ⟨g, cap, rfl, _, _, _, hr⟩
  · omega
  · intro g' hg
    have : g = g' := by simpa [Value.ownBlock] using hg
    have := hr.1
    omega
end Go.Proofs.YtnpiphkglhcifaaGreat
