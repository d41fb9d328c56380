/-
  INTS THAT ARE MARKED AND HELD: the laws' helpers on arguments and answers of ints.
-/
import Derived.Test.YthigdblloddepaaInts
import Derived.SliceStrings
import Derived.WalkKit
namespace Go.Proofs.Ythigdblloddepaa
set_option maxRecDepth 100000
open Go.RowKit

theorem row_below {w w' : World} {base : Nat} {e : TypeId} {size : Nat} {v : Value} {n : Nat} {xs : List Value} (h : w.ownsRow base e size v n xs) (hb : Below w.heap.size w w') : w'.ownsRow base e size v n xs := by
  refine h.kept (row := none) ⟨hb.os, hb.tape, hb.output, hb.size, fun k hk _ => hb.block k hk⟩ ?_
  cases hv : v.ownBlock with
  | none => exact .inl rfl
  | some g => exact .inr (by simp)
theorem row_lt {w : World} {base : Nat} {e : TypeId} {size : Nat} {v : Value} {n : Nat} {xs : List Value} (h : w.ownsRow base e size v n xs) {g : Nat} (hg : v.ownBlock = some g) : g < w.heap.size := by
  rcases h.2 with ⟨rfl, _⟩ | ⟨g', cap, cur, rfl, hb, hgg, _⟩
  · simp [Value.ownBlock] at hg
  · have : g' = g := by simpa [Value.ownBlock] using hg
    rw [← this]; exact (Array.getElem?_eq_some_iff.1 hgg).1
/-- Every block from S on is as it was. -/
def Above (S : Nat) (w w' : World) : Prop := w'.heap.size = w.heap.size ∧ ∀ b o, S ≤ b → w'.cell? ⟨b, o, none⟩ = w.cell? ⟨b, o, none⟩ ∧ w'.frozen? ⟨b, o, none⟩ = w.frozen? ⟨b, o, none⟩
theorem Above.refl (S : Nat) (w : World) : Above S w w := ⟨rfl, fun _ _ _ => ⟨rfl, rfl⟩⟩
theorem Above.setCell {S : Nat} {w w' : World} (h : Above S w w') {g : Nat} (hg : g < S) (o : Nat) (v : Value) : Above S w (w'.setCell ⟨g, o, none⟩ v) := by
  refine ⟨by rw [World.size_setCell]; exact h.1, fun b o' hb => ⟨?_, ?_⟩⟩
  · rw [World.cell?_setCell_other _ _ _ _ (by intro e; injection e; omega)]; exact (h.2 b o' hb).1
  · rw [World.frozen?_setCell]; exact (h.2 b o' hb).2
theorem OwnInts.above {w w' : World} {S base : Nat} {v : Value} {n : Nat} {f : Nat → Int} (h : OwnInts w base v n f) (ha : Above S w w') (hS : S ≤ base) : OwnInts w' base v n f := by
  rcases h with h | ⟨g, cap, hv, hn, hg, h0, hlt, hc, hf⟩
  · exact .inl h
  · exact .inr ⟨g, cap, hv, hn, hg, h0, by rw [ha.1]; exact hlt, fun j hj => ((ha.2 g j (by omega)).1).trans (hc j hj), fun j => ((ha.2 g j (by omega)).2).trans (hf j)⟩
theorem ownInts_at {w : World} {base : Nat} {v : Value} {xs : List Int} {f : Nat → Int} (h : OwnInts w base v xs.length f) (hf : ∀ j x, xs[j]? = some x → f j = x) : IntsAt w v xs := by
  rcases h with ⟨h0, a, cap, rfl⟩ | ⟨g, cap, rfl, hc, _, _, hlt, hcell, _⟩
  · have : xs = [] := List.length_eq_zero_iff.1 h0
    subst this
    exact IntsAt.nil _ _ _
  · refine ⟨_, cap, rfl, hc, .inr ⟨g, 0, rfl, hlt, fun j x hx => ?_⟩⟩
    have hj : j < xs.length := by
      rcases Nat.lt_or_ge j xs.length with h' | h'
      · exact h'
      · rw [List.getElem?_eq_none h'] at hx; cases hx
    rw [Nat.zero_add, hcell j hj, hf j x hx]

theorem OwnInts.ints {w : World} {base : Nat} {v : Value} {xs : List Int} (h : OwnInts w base v xs.length (fun j => xs.getD j 0)) : IntsAt w v xs := ownInts_at h fun j x hx => by simp [List.getD, hx]
theorem OwnInts.lt {w : World} {base : Nat} {v : Value} {n : Nat} {f : Nat → Int} (h : OwnInts w base v n f) (h0 : 0 < n) : ∀ g, v.ownBlock = some g → g < w.heap.size := by
  rcases h with ⟨hz, _⟩ | ⟨g, cap, rfl, _, _, _, hlt, _⟩
  · omega
  · intro g' hg
    have : g = g' := by simpa [Value.ownBlock] using hg
    omega
set_option maxHeartbeats 1000000 in
/-- The copy of a slice of ints is new memory of its own. -/
theorem toI_own (v : Value) (xs : List Int) (w : World) (h : IntsAt w v xs) (hn : xs.length ≤ 1048576) :
    Calls Try.prog 11 #[v] w fun e w' => (∃ u, e = .returned u ∧ OwnInts w' w.heap.size u xs.length (fun j => xs.getD j 0)) ∧ Below w.heap.size w w' := by
  obtain ⟨a, cap, rfl, hcap, h⟩ := h
  obtain ⟨n, hnn⟩ : ∃ n, n = xs.length := ⟨_, rfl⟩
  rw [← hnn] at hn hcap ⊢
  have HN := Lib.hid hnn
  have HC : Hid (0 < n → ∃ bk o, a = some ⟨bk, o, none⟩ ∧ bk < w.heap.size ∧ ∀ (j : Nat) x, xs[j]? = some x → w.cell? ⟨bk, o + j, none⟩ = some (.int .i64 x)) := by
    intro h0
    rcases h with rfl | ⟨bk, o, ha, hk, h⟩
    · simp at hnn; omega
    · exact ⟨bk, o, ha, hk, h⟩
  clear h hnn
  have hmk := run_make_row' (P := Try.prog) 25 3 (.int .i64 0) 8 Try.underlying25 infoInt rfl .i64 .i64 n (by omega) (by omega)
  have HB : Hid (∀ w1 : World, Below w.heap.size w w1 → ∀ (j : Nat) x, 0 < n → xs[j]? = some x → ∃ bk o, a = some ⟨bk, o, none⟩ ∧ bk < w.heap.size ∧ w1.cell? ⟨bk, o + j, none⟩ = some (.int .i64 x)) := by
    intro w1 hb j x h0 hx
    obtain ⟨bk, o, ha, hk, h⟩ := HC.out h0
    exact ⟨bk, o, ha, hk, (hb.cell (p := ⟨bk, o + j, none⟩) hk).trans (h j x hx)⟩
  go_enter Try.func11, Try.ntmps11
  go_wp2
  clear hmk
  obtain ⟨B, hB⟩ : ∃ B, B = w.heap.size := ⟨_, rfl⟩
  have hrow0 := World.rowIs_made w (.int .i64 0) n 3
  have hbel0 : Below w.heap.size w (w.alloc (.cells (madeCells #[.int .i64 0] n) 3)) := (Below.refl _ _).alloc (Nat.le_refl _) _
  rw [← hB] at hrow0 ⊢
  have HBB := Lib.hid hB
  clear hB
  go_loopw [4] (fun i wr => ∃ k : Nat, k ≤ n ∧ i = .int .i64 k ∧ wr.rowIs B 3 n (fun j => if j < k then .int .i64 (xs.getD j 0) else .int .i64 0) ∧ Below w.heap.size w wr) (fun i _ => n - (intOf i).toNat)
  case atStart => exact ⟨0, Nat.zero_le _, rfl, hrow0.congr (fun i _ => rfl), hbel0⟩
  case round =>
    obtain ⟨k, hk, rfl, hrow, hbel⟩ := hrel
    by_cases hlt : k < n
    · obtain ⟨x, hx⟩ : ∃ x, xs[k]? = some x := ⟨_, List.getElem?_eq_getElem (by rw [← HN.out]; exact hlt)⟩
      obtain ⟨bk, o, rfl, hbk, hck⟩ := HB.out wr hbel k x (by omega) hx
      have hcd := hrow.cell hlt
      have hfd := hrow.frozen k
      rw [if_neg (Nat.lt_irrefl k)] at hcd
      have HR : Hid ((wr.setCell ⟨B, k, none⟩ (.int .i64 x)).rowIs B 3 n (fun j => if j < k + 1 then .int .i64 (xs.getD j 0) else .int .i64 0)) := by
        refine (hrow.set k (.int .i64 x)).congr fun j hj => ?_
        by_cases hjk : j = k
        · subst hjk; simp [List.getD, hx]
        · rw [if_neg hjk]
          by_cases hjl : j < k
          · rw [if_pos hjl, if_pos (by omega)]
          · rw [if_neg hjl, if_neg (by omega)]
      have HBl : Hid (Below w.heap.size w (wr.setCell ⟨B, k, none⟩ (.int .i64 x))) := hbel.setCell (by show w.heap.size ≤ B; rw [HBB.out]; exact Nat.le_refl _) _
      clear hx hrow hbel hbk
      go_wp2
      go_roundw
      case rel => exact ⟨k + 1, by omega, by go_num, HR.out, HBl.out⟩
      case measure => simp [intOf]; omega
    · obtain rfl : k = n := by omega
      have HS : Hid (OwnInts wr w.heap.size (.slice (some ⟨B, 0, none⟩) k k) k (fun j => xs.getD j 0)) := by
        rcases Nat.eq_zero_or_pos k with h0 | h0
        · subst h0; exact .inl ⟨rfl, _, _, rfl⟩
        · refine .inr ⟨B, k, rfl, Nat.le_refl _, by rw [HBB.out]; exact Nat.le_refl _, h0, hrow.lt, fun j hj => ?_, fun j => hrow.frozen j⟩
          have := hrow.cell hj
          rw [if_pos hj] at this
          exact this
      clear hrow
      go_wp2
      go_ret
      exact ⟨⟨_, rfl, HS.out⟩, hbel⟩
set_option maxHeartbeats 1000000 in
theorem markI_row (base S : Nat) (v : Value) (n : Nat) (f : Nat → Int) (w : World) (h : OwnInts w base v n f) (hS : 0 < n → ∀ g, v.ownBlock = some g → g < S) (hn : n ≤ 100000000) :
    Calls Try.prog 20 #[v, .int .i64 1] w fun e w' => e = .returned (.int .i64 (1 + (n : Int))) ∧ Above S w w' ∧ Below base w w' := by
  rcases h with ⟨rfl, a, cap, rfl⟩ | ⟨g, cap, rfl, hcap, hg, h0, hlt, hc, hf⟩
  · go_enter Try.func20, Try.ntmps20
    go_wp2
    refine wp_loop_rounds 1 ?_
    rw [rounds_succ]
    go_wp2
    go_ret
    exact ⟨rfl, Above.refl _ _, Below.refl _ _⟩
  · have HC := Lib.hid hc
    have HF := Lib.hid hf
    have HG := Lib.hid hg
    have hgS := hS h0 g rfl
    clear hc hf hS
    go_enter Try.func20, Try.ntmps20
    go_wp2
    go_loopw [1, 5] (fun m i wr => ∃ k : Nat, k ≤ n ∧ i = .int .i64 k ∧ m = .int .i64 (1 + (k : Int)) ∧ Hid (∀ j, j < k → wr.cell? ⟨g, j, none⟩ = some (.int .i64 (1 + (j : Int)))) ∧ Hid (∀ j, k ≤ j → j < n → wr.cell? ⟨g, j, none⟩ = some (.int .i64 (f j))) ∧ Hid (∀ j, wr.frozen? ⟨g, j, none⟩ = false) ∧ Hid (Above S w wr) ∧ Below base w wr) (fun _ i _ => n - (intOf i).toNat)
    case atStart => exact ⟨0, Nat.zero_le _, rfl, rfl, fun j hj => by omega, fun j _ hj => HC.out j hj, HF.out, Above.refl _ _, Below.refl _ _⟩
    case round =>
      obtain ⟨k, hk, rfl, rfl, HM, HR, HFr, HA, hbel⟩ := hrel
      have hszr := hbel.size
      by_cases hlt' : k < n
      · have hck := HR.out k (Nat.le_refl _) hlt'
        have hfk := HFr.out k
        have HM' : Hid (∀ j, j < k + 1 → (wr.setCell ⟨g, k, none⟩ (.int .i64 (1 + (k : Int)))).cell? ⟨g, j, none⟩ = some (.int .i64 (1 + (j : Int)))) := by
          intro j hj
          by_cases hjk : j = k
          · subst hjk; exact World.cell?_setCell_same _ _ _ hck
          · rw [World.cell?_setCell_other _ _ _ _ (by intro e; injection e; omega)]
            exact HM.out j (by omega)
        have HR' : Hid (∀ j, k + 1 ≤ j → j < n → (wr.setCell ⟨g, k, none⟩ (.int .i64 (1 + (k : Int)))).cell? ⟨g, j, none⟩ = some (.int .i64 (f j))) := by
          intro j hj1 hj2
          rw [World.cell?_setCell_other _ _ _ _ (by intro e; injection e; omega)]
          exact HR.out j (by omega) hj2
        have HFr' : Hid (∀ j, (wr.setCell ⟨g, k, none⟩ (.int .i64 (1 + (k : Int)))).frozen? ⟨g, j, none⟩ = false) := by
          intro j
          rw [World.frozen?_setCell]
          exact HFr.out j
        have HBl : Hid (Below base w (wr.setCell ⟨g, k, none⟩ (.int .i64 (1 + (k : Int))))) := hbel.setCell (by exact hg) _
        have HA' : Hid (Above S w (wr.setCell ⟨g, k, none⟩ (.int .i64 (1 + (k : Int))))) := HA.out.setCell hgS _ _
        go_wp2
        go_roundw
        case rel => exact ⟨k + 1, by omega, by go_num, by go_num, HM', HR', HFr', HA', HBl.out⟩
        case measure => simp [intOf]; omega
      · obtain rfl : k = n := by omega
        go_wp2
        go_ret
        exact ⟨rfl, HA.out, hbel⟩

set_option maxHeartbeats 1000000 in
/-- The marks begin at whatever number. -/
theorem markI_from (base S m0 : Nat) (v : Value) (n : Nat) (f : Nat → Int) (w : World) (h : OwnInts w base v n f) (hS : 0 < n → ∀ g, v.ownBlock = some g → g < S) (hn : n ≤ 100000000) (hm : m0 ≤ 100000000) :
    Calls Try.prog 20 #[v, .int .i64 (m0 : Int)] w fun e w' => e = .returned (.int .i64 ((m0 + n : Nat) : Int)) ∧ Above S w w' ∧ Below base w w' := by
  rcases h with ⟨rfl, a, cap, rfl⟩ | ⟨g, cap, rfl, hcap, hg, h0, hlt, hc, hf⟩
  · go_enter Try.func20, Try.ntmps20
    go_wp2
    refine wp_loop_rounds 1 ?_
    rw [rounds_succ]
    go_wp2
    go_ret
    exact ⟨rfl, Above.refl _ _, Below.refl _ _⟩
  · have HC := Lib.hid hc
    have HF := Lib.hid hf
    have hgS := hS h0 g rfl
    clear hc hf hS
    go_enter Try.func20, Try.ntmps20
    go_wp2
    go_loopw [1, 5] (fun m i wr => ∃ k : Nat, k ≤ n ∧ i = .int .i64 k ∧ m = .int .i64 ((m0 + k : Nat) : Int) ∧ Hid (∀ j, j < n → ∃ x, wr.cell? ⟨g, j, none⟩ = some x) ∧ Hid (∀ j, wr.frozen? ⟨g, j, none⟩ = false) ∧ Hid (Above S w wr) ∧ Below base w wr) (fun _ i _ => n - (intOf i).toNat)
    case atStart => exact ⟨0, Nat.zero_le _, rfl, rfl, fun j hj => ⟨_, HC.out j hj⟩, HF.out, Above.refl _ _, Below.refl _ _⟩
    case round =>
      obtain ⟨k, hk, rfl, rfl, HR, HFr, HA, hbel⟩ := hrel
      have hszr := hbel.size
      by_cases hlt' : k < n
      · obtain ⟨x, hck⟩ := HR.out k hlt'
        have hfk := HFr.out k
        have HR' : Hid (∀ j, j < n → ∃ y, (wr.setCell ⟨g, k, none⟩ (.int .i64 ((m0 + k : Nat) : Int))).cell? ⟨g, j, none⟩ = some y) := by
          intro j hj
          by_cases hjk : j = k
          · subst hjk; exact ⟨_, World.cell?_setCell_same _ _ _ hck⟩
          · rw [World.cell?_setCell_other _ _ _ _ (by intro e; injection e; omega)]
            exact HR.out j hj
        have HFr' : Hid (∀ j, (wr.setCell ⟨g, k, none⟩ (.int .i64 ((m0 + k : Nat) : Int))).frozen? ⟨g, j, none⟩ = false) := by
          intro j
          rw [World.frozen?_setCell]
          exact HFr.out j
        have HBl : Hid (Below base w (wr.setCell ⟨g, k, none⟩ (.int .i64 ((m0 + k : Nat) : Int)))) := hbel.setCell (by exact hg) _
        have HA' : Hid (Above S w (wr.setCell ⟨g, k, none⟩ (.int .i64 ((m0 + k : Nat) : Int)))) := HA.out.setCell hgS _ _
        go_wp2
        go_roundw
        case rel => exact ⟨k + 1, by omega, by go_num, by go_num, HR', HFr', HA', HBl.out⟩
        case measure => simp [intOf]; omega
      · obtain rfl : k = n := by omega
        go_wp2
        go_ret
        exact ⟨rfl, HA.out, hbel⟩
end Go.Proofs.Ythigdblloddepaa
