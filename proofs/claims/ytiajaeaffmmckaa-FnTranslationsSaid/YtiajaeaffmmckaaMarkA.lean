/-
  ATOMS THAT ARE MARKED AND HELD: the laws' helpers on arguments and answers of atoms.
-/
import Derived.Test.YtiajaeaffmmckaaAtomS
import Derived.Test.YtiajaeaffmmckaaMark
namespace Go.Proofs.Ytiajaeaffmmckaa
set_option maxRecDepth 100000
open Go.RowKit

/-- Every block from S on that was there is as it was. -/
def Over (S : Nat) (w w' : World) : Prop := w.heap.size ≤ w'.heap.size ∧ ∀ b o, S ≤ b → b < w.heap.size → w'.cell? ⟨b, o, none⟩ = w.cell? ⟨b, o, none⟩ ∧ w'.frozen? ⟨b, o, none⟩ = w.frozen? ⟨b, o, none⟩
theorem Over.refl (S : Nat) (w : World) : Over S w w := ⟨Nat.le_refl _, fun _ _ _ _ => ⟨rfl, rfl⟩⟩
theorem Over.setCell {S : Nat} {w w' : World} (h : Over S w w') {g : Nat} (hg : g < S) (o : Nat) (v : Value) : Over S w (w'.setCell ⟨g, o, none⟩ v) := by
  refine ⟨by rw [World.size_setCell]; exact h.1, fun b o' hb hl => ⟨?_, ?_⟩⟩
  · rw [World.cell?_setCell_other _ _ _ _ (by intro e; injection e; omega)]; exact (h.2 b o' hb hl).1
  · rw [World.frozen?_setCell]; exact (h.2 b o' hb hl).2
theorem Over.below {S : Nat} {w w' w2 : World} (h : Over S w w') (hb : Below w'.heap.size w' w2) : Over S w w2 := by
  refine ⟨Nat.le_trans h.1 hb.size, fun b o hS hl => ?_⟩
  have h1 := h.2 b o hS hl
  have hl2 : b < w'.heap.size := Nat.lt_of_lt_of_le hl h.1
  exact ⟨(hb.cell (p := ⟨b, o, none⟩) hl2).trans h1.1, (hb.frozen (p := ⟨b, o, none⟩) hl2).trans h1.2⟩
/-- The mark of an atom. -/
def markedA (j : Nat) : Atm := (1 + 2 * (j : Int), markB (2 + 2 * j))
set_option maxHeartbeats 1000000 in
theorem markA_any (base S : Nat) (v : Value) (n : Nat) (f : Nat → Atm) (w : World) (h : OwnAs w base v n f) (hS : 0 < n → ∀ g, v.ownBlock = some g → g < S) (hbase : base ≤ w.heap.size) (hn : n ≤ 100000000) :
    Calls Try.prog 35 #[v, .int .i64 1] w fun e w' => e = .returned (.int .i64 (1 + 2 * (n : Int))) ∧ OwnAs w' base v n markedA ∧ Over S w w' ∧ Below base w w' := by
  rcases h with ⟨rfl, a, cap, rfl⟩ | ⟨g, cap, rfl, hcap, hg, h0, hR⟩
  · go_enter Try.func35, Try.ntmps35
    go_wp2
    refine wp_loop_rounds 1 ?_
    rw [rounds_succ]
    go_wp2
    go_ret
    exact ⟨rfl, .inl ⟨rfl, _, _, rfl⟩, Over.refl _ _, Below.refl _ _⟩
  · have HR0 : Hid (RowA w g n (fun j => if j < 0 then markedA j else f j)) := hR.congr fun j _ => by rw [if_neg (by omega)]
    have hgS := hS h0 g rfl
    have HG := Lib.hid hg
    clear hR hS
    go_enter Try.func35, Try.ntmps35
    go_wp2_with fail
    go_loopw [1, 5] (fun m i wr => ∃ k : Nat, k ≤ n ∧ i = .int .i64 k ∧ m = .int .i64 (1 + 2 * (k : Int)) ∧ Hid (RowA wr g n (fun j => if j < k then markedA j else f j)) ∧ Hid (Over S w wr) ∧ Below base w wr) (fun _ i _ => n - (intOf i).toNat)
    case atStart => exact ⟨0, Nat.zero_le _, rfl, rfl, HR0, Lib.hid (Over.refl _ _), Below.refl _ _⟩
    case round =>
      obtain ⟨k, hk, rfl, rfl, HR, HO, hbel⟩ := hrel
      by_cases hlt : k < n
      · obtain ⟨r0, r1⟩ := HR.out.2.1 k hlt
        simp only [Nat.lt_irrefl, if_false] at r0 r1
        have f0 := HR.out.2.2 (k * 2)
        have hRa := HR.out.set0 k hlt (1 + 2 * (k : Int))
        have hOa := HO.out.setCell hgS (k * 2) (.int .i64 (1 + 2 * (k : Int)))
        have hba := hbel.setCell (p := ⟨g, k * 2, none⟩) (by exact HG.out) (.int .i64 (1 + 2 * (k : Int)))
        have HRa := Lib.hid hRa
        have HOa := Lib.hid hOa
        have HBa := Lib.hid hba
        have c := fun w => markText_any (2 + 2 * k) (by omega) (by omega) w
        have e1 : ((2 + 2 * k : Nat) : Int) = 1 + 2 * (k : Int) + 1 := by omega
        simp only [e1] at c
        have C := Lib.hid c
        have hbs := hbel.size
        clear c e1 hRa hOa hba HR HO hbel
        go_wp2_with fail
        refine (C.out _).mono ?_
        rintro e w1 ⟨rfl, hb1⟩
        have HR1 := Lib.hid (HRa.out.below hb1)
        obtain ⟨_, s1⟩ := HR1.out.2.1 k hlt
        have f1 := HR1.out.2.2 (k * 2 + 1)
        have HO2 := Lib.hid ((HOa.out.below hb1).setCell hgS (k * 2 + 1) (.string (markB (2 + 2 * k))))
        have HB2 : Hid (Below base w (w1.setCell ⟨g, k * 2 + 1, none⟩ (.string (markB (2 + 2 * k))))) := (HBa.out.trans (hb1.mono (by rw [World.size_setCell]; omega))).setCell (p := ⟨g, k * 2 + 1, none⟩) (by exact HG.out) _
        have HR2 : Hid (RowA (w1.setCell ⟨g, k * 2 + 1, none⟩ (.string (markB (2 + 2 * k)))) g n (fun j => if j < k + 1 then markedA j else f j)) := by
          refine (HR1.out.set1 k hlt _).congr fun j hj => ?_
          by_cases hjk : j = k
          · subst hjk
            simp only [if_true]
            rw [if_pos (show j < j + 1 by omega)]
            rfl
          · rw [if_neg hjk, if_neg hjk]
            by_cases hjl : j < k
            · rw [if_pos hjl, if_pos (by omega)]
            · rw [if_neg hjl, if_neg (by omega)]
        clear hb1 r0 r1 f0 HRa HOa HBa HR1
        go_wp2
        go_roundw
        case rel => exact ⟨k + 1, by omega, by go_num, by go_num, HR2, HO2, HB2.out⟩
        case measure => simp [intOf]; omega
      · obtain rfl : k = n := by omega
        go_wp2
        go_ret
        exact ⟨rfl, .inr ⟨g, cap, rfl, hcap, HG.out, h0, HR.out.congr fun j hj => by rw [if_pos hj]⟩, HO.out, hbel⟩
set_option maxHeartbeats 2000000 in
theorem heldA_any (base : Nat) (v : Value) (n : Nat) (w : World) (h : OwnAs w base v n markedA) (hn : n ≤ 100000000) :
    Calls Try.prog 36 #[v, .int .i64 1] w fun e w' => e = .returned (.int .i64 (1 + 2 * (n : Int))) ∧ Below w.heap.size w w' := by
  rcases h with ⟨rfl, a, cap, rfl⟩ | ⟨g, cap, rfl, hcap, hg, h0, hR⟩
  · go_enter Try.func36, Try.ntmps36
    go_wp2
    refine wp_loop_rounds 1 ?_
    rw [rounds_succ]
    go_wp2
    go_ret
    exact ⟨rfl, Below.refl _ _⟩
  · have HR := Lib.hid hR
    clear hR hg
    go_enter Try.func36, Try.ntmps36
    go_wp2_with fail
    go_loopw [1, 5] (fun m i wr => ∃ k : Nat, k ≤ n ∧ i = .int .i64 k ∧ m = .int .i64 (1 + 2 * (k : Int)) ∧ Below w.heap.size w wr) (fun _ i _ => n - (intOf i).toNat)
    case atStart => exact ⟨0, Nat.zero_le _, rfl, rfl, Below.refl _ _⟩
    case round =>
      obtain ⟨k, hk, rfl, rfl, hbel⟩ := hrel
      by_cases hlt : k < n
      · have HRr := Lib.hid (HR.out.below hbel)
        obtain ⟨r0, r1⟩ := HRr.out.2.1 k hlt
        unfold markedA at r0 r1
        dsimp only at r0 r1
        have hgl : g < wr.heap.size := HRr.out.1
        have c := fun w => markText_any (2 + 2 * k) (by omega) (by omega) w
        have e1 : ((2 + 2 * k : Nat) : Int) = 1 + 2 * (k : Int) + 1 := by omega
        simp only [e1] at c
        have C := Lib.hid c
        clear c e1 HRr
        go_wp2_with fail
        go_region_with (go_at_call 57; refine (C.out _).mono ?_; rintro e w1 ⟨rfl, hb1⟩; have hck1 := (hb1.cell (p := ⟨g, k * 2 + 1, none⟩) hgl).trans r1; have hbx : Below w.heap.size w w1 := hbel.trans (Below.trans (by first | exact Below.refl _ _ | exact (Below.refl _ _).drew) (hb1.mono hbel.size)))
        all_goals go_wp2
        all_goals go_roundw
        all_goals first
          | exact ⟨k + 1, by omega, by go_num, by go_num, by repeat (first | exact hbx | apply Below.drew)⟩
          | (simp [intOf]; omega)
      · obtain rfl : k = n := by omega
        go_wp2
        go_ret
        exact ⟨rfl, hbel⟩
theorem OwnStrs.over {w w' : World} {S base : Nat} {v : Value} {n : Nat} {f : Nat → ByteArray} (h : OwnStrs w base v n f) (ha : Over S w w') (hS : S ≤ base) : OwnStrs w' base v n f := by
  rcases h with h | ⟨g, cap, hv, hn, hg, h0, hlt, hc, hf⟩
  · exact .inl h
  · exact .inr ⟨g, cap, hv, hn, hg, h0, Nat.lt_of_lt_of_le hlt ha.1, fun j hj => ((ha.2 g j (by omega) hlt).1).trans (hc j hj), fun j => ((ha.2 g j (by omega) hlt).2).trans (hf j)⟩
theorem OwnStrs.strs {w : World} {base : Nat} {v : Value} {xs : List ByteArray} (h : OwnStrs w base v xs.length (fun j => xs.getD j ByteArray.empty)) : StrsAt w v xs := by
  rcases h with ⟨h0, a, cap, rfl⟩ | ⟨g, cap, rfl, hc, _, _, hlt, hcell, _⟩
  · have : xs = [] := List.length_eq_zero_iff.1 h0
    subst this
    exact ⟨a, cap, rfl, Nat.zero_le _, .inl rfl⟩
  · refine ⟨_, cap, rfl, hc, .inr ⟨g, 0, rfl, hlt, fun j x hx => ?_⟩⟩
    have hj : j < xs.length := by
      rcases Nat.lt_or_ge j xs.length with h' | h'
      · exact h'
      · rw [List.getElem?_eq_none h'] at hx; cases hx
    rw [Nat.zero_add, hcell j hj]
    simp [List.getD, hx]
end Go.Proofs.Ytiajaeaffmmckaa
