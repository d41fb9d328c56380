/-
  WHAT A WALK TOUCHES: the cells outside of a set of blocks lie as they lay; ints marked from whatever number on, and held.
-/
import Derived.Test.YthigdblloddepaaMarkI
namespace Go.Proofs.Ythigdblloddepaa
set_option maxRecDepth 100000
open Go.RowKit

/-- Outside of the blocks T, all that was there is as it was. -/
def Touch (T : Nat → Prop) (w w' : World) : Prop := w.heap.size ≤ w'.heap.size ∧ ∀ b, b < w.heap.size → ¬ T b → w'.heap[b]? = w.heap[b]?
theorem Touch.cf {T : Nat → Prop} {w w' : World} (h : Touch T w w') {b : Nat} (o : Nat) (hl : b < w.heap.size) (hT : ¬ T b) : w'.cell? ⟨b, o, none⟩ = w.cell? ⟨b, o, none⟩ ∧ w'.frozen? ⟨b, o, none⟩ = w.frozen? ⟨b, o, none⟩ :=
  ⟨World.cell?_of_block (h.2 b hl hT), World.frozen?_of_block (h.2 b hl hT)⟩
theorem Touch.refl (T : Nat → Prop) (w : World) : Touch T w w := ⟨Nat.le_refl _, fun _ _ _ => rfl⟩
theorem Touch.setCell {T : Nat → Prop} {w w' : World} (h : Touch T w w') {g : Nat} (hg : T g) (o : Nat) (v : Value) : Touch T w (w'.setCell ⟨g, o, none⟩ v) :=
  ⟨by rw [World.size_setCell]; exact h.1, fun b hl hb => (Below.heap_setCell _ _ _ _ (fun e => hb (by rw [e]; exact hg))).trans (h.2 b hl hb)⟩
theorem Touch.below {T : Nat → Prop} {w w' w2 : World} (h : Touch T w w') (hb : Below w'.heap.size w' w2) : Touch T w w2 :=
  ⟨Nat.le_trans h.1 hb.size, fun b hl hT => (hb.block b (Nat.lt_of_lt_of_le hl h.1)).trans (h.2 b hl hT)⟩
theorem Touch.trans {T : Nat → Prop} {a b c : World} (h : Touch T a b) (k : Touch T b c) : Touch T a c :=
  ⟨Nat.le_trans h.1 k.1, fun x hl hT => (k.2 x (Nat.lt_of_lt_of_le hl h.1) hT).trans (h.2 x hl hT)⟩
theorem Touch.mono {T T' : Nat → Prop} {w w' : World} (h : Touch T w w') (ht : ∀ b, T b → T' b) : Touch T' w w' := ⟨h.1, fun b hl hT => h.2 b hl (fun q => hT (ht b q))⟩
theorem Touch.of_below {T : Nat → Prop} {w w' : World} (hb : Below w.heap.size w w') : Touch T w w' := (Touch.refl T w).below hb
theorem Touch.grown {T : Nat → Prop} {w w' : World} {row : Option Nat} (hg : w.grownBy w' row) (hT : ∀ k, row = some k → T k) : Touch T w w' :=
  ⟨hg.size, fun b hl hb => hg.block b hl fun e => hb (hT b e.symm)⟩
theorem Touch.alloc {T : Nat → Prop} {w w' : World} (h : Touch T w w') (o : Obj) : Touch T w (w'.alloc o) := h.below ((Below.refl _ _).alloc (Nat.le_refl _) _)
theorem Touch.drew {T : Nat → Prop} {w w' : World} (h : Touch T w w') : Touch T w w'.drew := h.below (below_drewN (Below.refl _ _) 1)
theorem Touch.block {T : Nat → Prop} {w w' : World} (h : Touch T w w') {b : Nat} {o : Obj} (hx : w.heap[b]? = some o) (hT : ¬ T b) : w'.heap[b]? = some o := (h.2 b (Array.getElem?_eq_some_iff.1 hx).1 hT).trans hx
theorem OwnInts.touch {T : Nat → Prop} {w w' : World} {base : Nat} {v : Value} {n : Nat} {f : Nat → Int} (h : OwnInts w base v n f) (ht : Touch T w w') (hT : 0 < n → ∀ g, v.ownBlock = some g → ¬ T g) : OwnInts w' base v n f := by
  rcases h with h | ⟨g, cap, rfl, hn, hg, h0, hlt, hc, hf⟩
  · exact .inl h
  · have hng := hT h0 g rfl
    exact .inr ⟨g, cap, rfl, hn, hg, h0, Nat.lt_of_lt_of_le hlt ht.1, fun j hj => ((ht.cf j hlt hng).1).trans (hc j hj), fun j => ((ht.cf j hlt hng).2).trans (hf j)⟩
theorem OwnInts.mono {w : World} {b b' : Nat} {v : Value} {n : Nat} {f : Nat → Int} (h : OwnInts w b v n f) (hb : b' ≤ b) : OwnInts w b' v n f := by
  rcases h with h | ⟨g, cap, hv, hn, hg, r⟩
  · exact .inl h
  · exact .inr ⟨g, cap, hv, hn, Nat.le_trans hb hg, r⟩
theorem OwnInts.ge {w : World} {base : Nat} {v : Value} {n : Nat} {f : Nat → Int} (h : OwnInts w base v n f) (h0 : 0 < n) {g : Nat} (hg : v.ownBlock = some g) : base ≤ g := by
  rcases h with ⟨hz, _⟩ | ⟨g', cap, rfl, hn, hb, _⟩
  · omega
  · have : g' = g := by simpa [Value.ownBlock] using hg
    rw [← this]; exact hb

set_option maxHeartbeats 1000000 in
/-- Marked from m0 on: what the slice holds, and that nothing else was touched. -/
theorem markI_t (base m0 : Nat) (v : Value) (n : Nat) (f : Nat → Int) (w : World) (h : OwnInts w base v n f) (hn : n ≤ 100000000) (hm : m0 ≤ 100000000000) :
    Calls Try.prog 20 #[v, .int .i64 (m0 : Int)] w fun e w' => e = .returned (.int .i64 ((m0 + n : Nat) : Int)) ∧ OwnInts w' base v n (fun j => ((m0 + j : Nat) : Int)) ∧ Touch (fun b => 0 < n ∧ v.ownBlock = some b) w w' ∧ Below base w w' := by
  rcases h with ⟨rfl, a, cap, rfl⟩ | ⟨g, cap, rfl, hcap, hg, h0, hlt, hc, hf⟩
  · go_enter Try.func20, Try.ntmps20
    go_wp2
    refine wp_loop_rounds 1 ?_
    rw [rounds_succ]
    go_wp2
    go_ret
    exact ⟨rfl, .inl ⟨rfl, _, _, rfl⟩, Touch.refl _ _, Below.refl _ _⟩
  · have HC := Lib.hid hc
    have HF := Lib.hid hf
    have HT : Hid (0 < n ∧ (Value.slice (some ⟨g, 0, none⟩) n cap).ownBlock = some g) := ⟨h0, rfl⟩
    obtain ⟨T, hT⟩ : ∃ T : Nat → Prop, T = fun b => 0 < n ∧ (Value.slice (some ⟨g, 0, none⟩) n cap).ownBlock = some b := ⟨_, rfl⟩
    have HTg : Hid (T g) := by show T g; rw [hT]; exact HT.out
    rw [← hT]
    clear hc hf hT
    go_enter Try.func20, Try.ntmps20
    go_wp2
    go_loopw [1, 5] (fun m i wr => ∃ k : Nat, k ≤ n ∧ i = .int .i64 k ∧ m = .int .i64 ((m0 + k : Nat) : Int) ∧ Hid (∀ j, j < n → wr.cell? ⟨g, j, none⟩ = some (.int .i64 (if j < k then ((m0 + j : Nat) : Int) else f j))) ∧ Hid (∀ j, wr.frozen? ⟨g, j, none⟩ = false) ∧ Hid (Touch T w wr) ∧ Below base w wr) (fun _ i _ => n - (intOf i).toNat)
    case atStart => exact ⟨0, Nat.zero_le _, rfl, rfl, fun j hj => by rw [if_neg (by omega)]; exact HC.out j hj, HF.out, Touch.refl _ _, Below.refl _ _⟩
    case round =>
      obtain ⟨k, hk, rfl, rfl, HR, HFr, HA, hbel⟩ := hrel
      have hszr := hbel.size
      by_cases hlt' : k < n
      · have hck := HR.out k hlt'
        have hfk := HFr.out k
        rw [if_neg (Nat.lt_irrefl k)] at hck
        have HR' : Hid (∀ j, j < n → (wr.setCell ⟨g, k, none⟩ (.int .i64 ((m0 + k : Nat) : Int))).cell? ⟨g, j, none⟩ = some (.int .i64 (if j < k + 1 then ((m0 + j : Nat) : Int) else f j))) := by
          intro j hj
          by_cases hjk : j = k
          · subst hjk; rw [if_pos (by omega)]; exact World.cell?_setCell_same _ _ _ hck
          · rw [World.cell?_setCell_other _ _ _ _ (by intro e; injection e; omega), HR.out j hj]
            by_cases hjl : j < k
            · rw [if_pos hjl, if_pos (by omega)]
            · rw [if_neg hjl, if_neg (by omega)]
        have HFr' : Hid (∀ j, (wr.setCell ⟨g, k, none⟩ (.int .i64 ((m0 + k : Nat) : Int))).frozen? ⟨g, j, none⟩ = false) := by
          intro j
          rw [World.frozen?_setCell]
          exact HFr.out j
        have HBl : Hid (Below base w (wr.setCell ⟨g, k, none⟩ (.int .i64 ((m0 + k : Nat) : Int)))) := hbel.setCell (by exact hg) _
        have HA' : Hid (Touch T w (wr.setCell ⟨g, k, none⟩ (.int .i64 ((m0 + k : Nat) : Int)))) := HA.out.setCell HTg.out _ _
        clear HT
        go_wp2
        go_roundw
        case rel => exact ⟨k + 1, by omega, by go_num, by go_num, HR', HFr', HA', HBl.out⟩
        case measure => simp [intOf]; omega
      · obtain rfl : k = n := by omega
        have HO : Hid (OwnInts wr base (.slice (some ⟨g, 0, none⟩) k cap) k (fun j => ((m0 + j : Nat) : Int))) := .inr ⟨g, cap, rfl, hcap, hg, h0, by omega, fun j hj => by rw [HR.out j hj, if_pos hj], HFr.out⟩
        clear HR HFr HT
        go_wp2
        go_ret
        exact ⟨rfl, HO.out, HA.out, hbel⟩
end Go.Proofs.Ythigdblloddepaa
