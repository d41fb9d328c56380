/-
  WHAT A WALK TOUCHES: the cells outside of a set of blocks lie as they lay; ints marked from whatever number on, and held.
-/
import Derived.Test.YtnpiphkglhcifaaGreatMarkI
namespace Go.Proofs.YtnpiphkglhcifaaGreat
set_option maxRecDepth 100000
open Go.RowKit

/-- Outside of the blocks T, all that was there is as it was. -/
def Touch (T : Nat → Prop) (w w' : World) : Prop := w.heap.size ≤ w'.heap.size ∧ ∀ b, b < w.heap.size → ¬ T b → w'.heap[b]? = w.heap[b]?
theorem Touch.cf {T : Nat → Prop} {w w' : World} (h : Touch T w w') {b : Nat} (o : Nat) (hl : b < w.heap.size) (hT : ¬ T b) : w'.cell? ⟨b, o, none⟩ = w.cell? ⟨b, o, none⟩ ∧ w'.frozen? ⟨b, o, none⟩ = w.frozen? ⟨b, o, none⟩ :=
  ⟨World.cell?_of_block (h.2 b hl hT), World.frozen?_of_block (h.2 b hl hT)⟩
theorem Touch.refl (T : Nat → Prop) (w : World) : Touch T w w := ⟨Nat.le_refl _, fun _ _ _ => rfl⟩
theorem Touch.setCell {T : Nat → Prop} {w w' : World} (h : Touch T w w') {g : Nat} (hg : T g) (o : Nat) (v : Value) : Touch T w (w'.setCell ⟨g, o, none⟩ v) :=
  ⟨by rw [World.size_setCell]; exact h.1, fun b hl hb => (Below.heap_setCell _ _ _ _ (fun e => hb (by rw [e]; exact hg))).trans (h.2 b hl hb)⟩
theorem Touch.below {T : Nat → Prop} {w w' w2 : World} (h : Touch T w w') (hb : Below w'.heap.size w' w2) : Touch T w w2 :=
  ⟨Nat.le_trans h.1 hb.size, fun b hl hT => (hb.block b (Nat.lt_of_lt_of_le hl h.1)).trans (h.2 b hl hT)⟩
theorem Touch.trans {T : Nat → Prop} {a b c : World} (h : Touch T a b) (k : Touch T b c) : Touch T a c :=
  ⟨Nat.le_trans h.1 k.1, fun x hl hT => (k.2 x (Nat.lt_of_lt_of_le hl h.1) hT).trans (h.2 x hl hT)⟩
theorem Touch.mono {T T' : Nat → Prop} {w w' : World} (h : Touch T w w') (ht : ∀ b, T b → T' b) : Touch T' w w' := ⟨h.1, fun b hl hT => h.2 b hl (fun q => hT (ht b q))⟩
theorem Touch.of_below {T : Nat → Prop} {w w' : World} (hb : Below w.heap.size w w') : Touch T w w' := (Touch.refl T w).below hb
theorem Touch.grown {T : Nat → Prop} {w w' : World} {row : Option Nat} (hg : w.grownBy w' row) (hT : ∀ k, row = some k → T k) : Touch T w w' :=
  ⟨hg.size, fun b hl hb => hg.block b hl fun e => hb (hT b e.symm)⟩
theorem Touch.alloc {T : Nat → Prop} {w w' : World} (h : Touch T w w') (o : Obj) : Touch T w (w'.alloc o) := h.below ((Below.refl _ _).alloc (Nat.le_refl _) _)
theorem Touch.drew {T : Nat → Prop} {w w' : World} (h : Touch T w w') : Touch T w w'.drew := h.below (below_drewN (Below.refl _ _) 1)
theorem Touch.block {T : Nat → Prop} {w w' : World} (h : Touch T w w') {b : Nat} {o : Obj} (hx : w.heap[b]? = some o) (hT : ¬ T b) : w'.heap[b]? = some o := (h.2 b (Array.getElem?_eq_some_iff.1 hx).1 hT).trans hx
theorem OwnInts.touch {T : Nat → Prop} {w w' : World} {base : Nat} {v : Value} {n : Nat} {f : Nat → Int} (h : OwnInts w base v n f) (ht : Touch T w w') (hT : 0 < n → ∀ g, v.ownBlock = some g → ¬ T g) : OwnInts w' base v n f := by
  rcases h with h | ⟨g, cap, rfl, hn, hg, h0, hlt, hc, hf⟩
  · exact .inl h
  · have hng := hT h0 g rfl
    exact .inr ⟨g, cap, rfl, hn, hg, h0, Nat.lt_of_lt_of_le hlt ht.1, fun j hj => ((ht.cf j hlt hng).1).trans (hc j hj), fun j => ((ht.cf j hlt hng).2).trans (hf j)⟩
theorem OwnInts.mono {w : World} {b b' : Nat} {v : Value} {n : Nat} {f : Nat → Int} (h : OwnInts w b v n f) (hb : b' ≤ b) : OwnInts w b' v n f := by
  rcases h with h | ⟨g, cap, hv, hn, hg, r⟩
  · exact .inl h
  · exact .inr ⟨g, cap, hv, hn, Nat.le_trans hb hg, r⟩
theorem OwnInts.ge {w : World} {base : Nat} {v : Value} {n : Nat} {f : Nat → Int} (h : OwnInts w base v n f) (h0 : 0 < n) {g : Nat} (hg : v.ownBlock = some g) : base ≤ g := by
  rcases h with ⟨hz, _⟩ | ⟨g', cap, rfl, hn, hb, _⟩
  · omega
  · have : g' = g := by simpa [Value.ownBlock] using hg
    rw [← this]; exact hb

end Go.Proofs.YtnpiphkglhcifaaGreat
