/-
  INTS THAT ARE MARKED AND HELD: the laws' helpers on arguments and answers of ints.
-/
import Derived.Test.YtnpiphkglhcifaaGreatInts
import Derived.SliceStrings
import Derived.WalkKit
namespace Go.Proofs.YtnpiphkglhcifaaGreat
set_option maxRecDepth 100000
open Go.RowKit

theorem row_below {w w' : World} {base : Nat} {e : TypeId} {size : Nat} {v : Value} {n : Nat} {xs : List Value} (h : w.ownsRow base e size v n xs) (hb : Below w.heap.size w w') : w'.ownsRow base e size v n xs := by
  refine h.kept (row := none) ⟨hb.os, hb.tape, hb.output, hb.size, fun k hk _ => hb.block k hk⟩ ?_
  cases hv : v.ownBlock with
  | none => exact .inl rfl
  | some g => exact .inr (by simp)
theorem row_lt {w : World} {base : Nat} {e : TypeId} {size : Nat} {v : Value} {n : Nat} {xs : List Value} (h : w.ownsRow base e size v n xs) {g : Nat} (hg : v.ownBlock = some g) : g < w.heap.size := by
  rcases h.2 with ⟨rfl, _⟩ | ⟨g', cap, cur, rfl, hb, hgg, _⟩
  · simp [Value.ownBlock] at hg
  · have : g' = g := by simpa [Value.ownBlock] using hg
    rw [← this]; exact (Array.getElem?_eq_some_iff.1 hgg).1
/-- Every block from S on is as it was. -/
def Above (S : Nat) (w w' : World) : Prop := w'.heap.size = w.heap.size ∧ ∀ b o, S ≤ b → w'.cell? ⟨b, o, none⟩ = w.cell? ⟨b, o, none⟩ ∧ w'.frozen? ⟨b, o, none⟩ = w.frozen? ⟨b, o, none⟩
theorem Above.refl (S : Nat) (w : World) : Above S w w := ⟨rfl, fun _ _ _ => ⟨rfl, rfl⟩⟩
theorem Above.setCell {S : Nat} {w w' : World} (h : Above S w w') {g : Nat} (hg : g < S) (o : Nat) (v : Value) : Above S w (w'.setCell ⟨g, o, none⟩ v) := by
  refine ⟨by rw [World.size_setCell]; exact h.1, fun b o' hb => ⟨?_, ?_⟩⟩
  · rw [World.cell?_setCell_other _ _ _ _ (by intro e; injection e; omega)]; exact (h.2 b o' hb).1
  · rw [World.frozen?_setCell]; exact (h.2 b o' hb).2
theorem OwnInts.above {w w' : World} {S base : Nat} {v : Value} {n : Nat} {f : Nat → Int} (h : OwnInts w base v n f) (ha : Above S w w') (hS : S ≤ base) : OwnInts w' base v n f := by
  rcases h with h | ⟨g, cap, hv, hn, hg, h0, hlt, hc, hf⟩
  · exact .inl h
  · exact .inr ⟨g, cap, hv, hn, hg, h0, by rw [ha.1]; exact hlt, fun j hj => ((ha.2 g j (by omega)).1).trans (hc j hj), fun j => ((ha.2 g j (by omega)).2).trans (hf j)⟩
theorem ownInts_at {w : World} {base : Nat} {v : Value} {xs : List Int} {f : Nat → Int} (h : OwnInts w base v xs.length f) (hf : ∀ j x, xs[j]? = some x → f j = x) : IntsAt w v xs := by
  rcases h with ⟨h0, a, cap, rfl⟩ | ⟨g, cap, rfl, hc, _, _, hlt, hcell, _⟩
  · have : xs = [] := List.length_eq_zero_iff.1 h0
    subst this
    exact IntsAt.nil _ _ _
  · refine ⟨_, cap, rfl, hc, .inr ⟨g, 0, rfl, hlt, fun j x hx => ?_⟩⟩
    have hj : j < xs.length := by
      rcases Nat.lt_or_ge j xs.length with h' | h'
      · exact h'
      · rw [List.getElem?_eq_none h'] at hx; cases hx
    rw [Nat.zero_add, hcell j hj, hf j x hx]

theorem OwnInts.ints {w : World} {base : Nat} {v : Value} {xs : List Int} (h : OwnInts w base v xs.length (fun j => xs.getD j 0)) : IntsAt w v xs := ownInts_at h fun j x hx => by simp [List.getD, hx]
theorem OwnInts.lt {w : World} {base : Nat} {v : Value} {n : Nat} {f : Nat → Int} (h : OwnInts w base v n f) (h0 : 0 < n) : ∀ g, v.ownBlock = some g → g < w.heap.size := by
  rcases h with ⟨hz, _⟩ | ⟨g, cap, rfl, _, _, _, hlt, _⟩
  · omega
  · intro g' hg
    have : g = g' := by simpa [Value.ownBlock] using hg
    omega

end Go.Proofs.YtnpiphkglhcifaaGreat
