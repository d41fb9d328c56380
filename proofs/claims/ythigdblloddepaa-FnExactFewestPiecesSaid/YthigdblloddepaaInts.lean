/-
  SLICES OF INTS in memory, and CONTRACTS of the laws' helpers on them.
-/
import Derived.Test.YthigdblloddepaaProg
import Derived.Test.YthigdblloddepaaAid
import Derived.WalkSmall
import Derived.WalkSpells
import Derived.Deep.QuietTactic
import Derived.BigQuiet
import Derived.Deep.OwnRows
import Derived.OwnWalk
import Derived.Lib.BufferOwn
namespace Go.Proofs.Ythigdblloddepaa
set_option maxRecDepth 100000
open Go.RowKit

/-- The value v is a slice whose elements are the ints xs. -/
def IntsAt (w : World) (v : Value) (xs : List Int) : Prop :=
  ∃ (a : Option Addr) (cap : Nat), v = .slice a xs.length cap ∧ xs.length ≤ cap ∧ (xs = [] ∨ ∃ bk o, a = some ⟨bk, o, none⟩ ∧ bk < w.heap.size ∧ ∀ (j : Nat) x, xs[j]? = some x → w.cell? ⟨bk, o + j, none⟩ = some (.int .i64 x))
theorem IntsAt.below {w w' : World} {v : Value} {xs : List Int} (h : IntsAt w v xs) (hb : Below w.heap.size w w') : IntsAt w' v xs := by
  obtain ⟨a, cap, hv, hc, h⟩ := h
  refine ⟨a, cap, hv, hc, ?_⟩
  rcases h with h | ⟨bk, o, ha, hk, h⟩
  · exact .inl h
  · exact .inr ⟨bk, o, ha, Nat.lt_of_lt_of_le hk hb.size, fun j x hx => (hb.cell (p := ⟨bk, o + j, none⟩) hk).trans (h j x hx)⟩
theorem IntsAt.nil (w : World) (a : Option Addr) (cap : Nat) : IntsAt w (.slice a 0 cap) [] := ⟨a, cap, rfl, Nat.zero_le _, .inl rfl⟩
theorem rowInts_at {w : World} {base : Nat} {v : Value} {xs : List Int} (h : w.ownsRow base 3 1 v xs.length (xs.map (.int .i64))) : IntsAt w v xs := by
  rcases h.2 with ⟨rfl, h0⟩ | ⟨g, cap, cur, rfl, _, hg, hn, _, hsz, htake⟩
  · exact ⟨none, 0, by rw [h0], by omega, .inl (List.length_eq_zero_iff.1 h0)⟩
  · have hlt : g < w.heap.size := (Array.getElem?_eq_some_iff.1 hg).1
    refine ⟨_, cap, rfl, hn, .inr ⟨g, 0, rfl, hlt, fun j x hx => ?_⟩⟩
    have hj : j < xs.length := by
      rcases Nat.lt_or_ge j xs.length with h' | h'
      · exact h'
      · rw [List.getElem?_eq_none h'] at hx; cases hx
    have h1 : (cur.toList.take (xs.length * 1))[j]? = some (.int .i64 x) := by rw [htake, List.getElem?_map, hx]; rfl
    rw [List.getElem?_take_of_lt (by omega)] at h1
    simp only [Array.getElem?_toList] at h1
    simp [World.cell?, hg, h1]
theorem row_ge {w : World} {base : Nat} {e : TypeId} {size : Nat} {v : Value} {n : Nat} {xs : List Value} (h : w.ownsRow base e size v n xs) {j : Nat} (hj : v.ownBlock = some j) : base ≤ j := by
  rcases h.2 with ⟨rfl, _⟩ | ⟨g, cap, cur, rfl, hb, _⟩
  · simp [Value.ownBlock] at hj
  · have : g = j := by simpa [Value.ownBlock] using hj
    omega
/-- An empty row of its own, just made. -/
theorem row_new (w : World) (e : TypeId) : (w.alloc (.cells #[] e)).ownsRow w.heap.size e 1 (.slice (some ⟨w.heap.size, 0, none⟩) 0 0) 0 [] :=
  ⟨rfl, .inr ⟨w.heap.size, 0, #[], rfl, Nat.le_refl _, by show (w.heap.push _)[w.heap.size]? = _; simp, Nat.le_refl _, by decide, rfl, rfl⟩⟩
theorem infoInt : (Try.prog.info? 3).map (fun i => (i.zero, i.size, i.bytes)) = some (some (.int .i64 0), 1, 8) := by kernel_rfl

set_option maxHeartbeats 1000000 in
/-- The copy of a slice of ints: new memory with the same ints. -/
theorem toI_any (v : Value) (xs : List Int) (w : World) (h : IntsAt w v xs) (hn : xs.length ≤ 1048576) :
    Calls Try.prog 11 #[v] w fun e w' => ∃ u, e = .returned u ∧ IntsAt w' u xs ∧ Below w.heap.size w w' := by
  obtain ⟨a, cap, rfl, hcap, h⟩ := h
  obtain ⟨n, hnn⟩ : ∃ n, n = xs.length := ⟨_, rfl⟩
  rw [← hnn] at hn hcap ⊢
  have HN := Lib.hid hnn
  have HC : Hid (0 < n → ∃ bk o, a = some ⟨bk, o, none⟩ ∧ bk < w.heap.size ∧ ∀ (j : Nat) x, xs[j]? = some x → w.cell? ⟨bk, o + j, none⟩ = some (.int .i64 x)) := by
    intro h0
    rcases h with rfl | ⟨bk, o, ha, hk, h⟩
    · simp at hnn; omega
    · exact ⟨bk, o, ha, hk, h⟩
  clear h hnn
  have hmk := run_make_row' (P := Try.prog) 25 3 (.int .i64 0) 8 Try.underlying25 infoInt rfl .i64 .i64 n (by omega) (by omega)
  have HB : Hid (∀ w1 : World, Below w.heap.size w w1 → ∀ (j : Nat) x, 0 < n → xs[j]? = some x → ∃ bk o, a = some ⟨bk, o, none⟩ ∧ bk < w.heap.size ∧ w1.cell? ⟨bk, o + j, none⟩ = some (.int .i64 x)) := by
    intro w1 hb j x h0 hx
    obtain ⟨bk, o, ha, hk, h⟩ := HC.out h0
    exact ⟨bk, o, ha, hk, (hb.cell (p := ⟨bk, o + j, none⟩) hk).trans (h j x hx)⟩
  go_enter Try.func11, Try.ntmps11
  go_wp2
  clear hmk
  obtain ⟨B, hB⟩ : ∃ B, B = w.heap.size := ⟨_, rfl⟩
  have hrow0 := World.rowIs_made w (.int .i64 0) n 3
  have hbel0 : Below w.heap.size w (w.alloc (.cells (madeCells #[.int .i64 0] n) 3)) := (Below.refl _ _).alloc (Nat.le_refl _) _
  rw [← hB] at hrow0 ⊢
  have HBB := Lib.hid hB
  clear hB
  go_loopw [4] (fun i wr => ∃ k : Nat, k ≤ n ∧ i = .int .i64 k ∧ wr.rowIs B 3 n (fun j => if j < k then .int .i64 (xs.getD j 0) else .int .i64 0) ∧ Below w.heap.size w wr) (fun i _ => n - (intOf i).toNat)
  case atStart => exact ⟨0, Nat.zero_le _, rfl, hrow0.congr (fun i _ => rfl), hbel0⟩
  case round =>
    obtain ⟨k, hk, rfl, hrow, hbel⟩ := hrel
    by_cases hlt : k < n
    · obtain ⟨x, hx⟩ : ∃ x, xs[k]? = some x := ⟨_, List.getElem?_eq_getElem (by rw [← HN.out]; exact hlt)⟩
      obtain ⟨bk, o, rfl, hbk, hck⟩ := HB.out wr hbel k x (by omega) hx
      have hcd := hrow.cell hlt
      have hfd := hrow.frozen k
      rw [if_neg (Nat.lt_irrefl k)] at hcd
      have HR : Hid ((wr.setCell ⟨B, k, none⟩ (.int .i64 x)).rowIs B 3 n (fun j => if j < k + 1 then .int .i64 (xs.getD j 0) else .int .i64 0)) := by
        refine (hrow.set k (.int .i64 x)).congr fun j hj => ?_
        by_cases hjk : j = k
        · subst hjk; simp [List.getD, hx]
        · rw [if_neg hjk]
          by_cases hjl : j < k
          · rw [if_pos hjl, if_pos (by omega)]
          · rw [if_neg hjl, if_neg (by omega)]
      have HBl : Hid (Below w.heap.size w (wr.setCell ⟨B, k, none⟩ (.int .i64 x))) := hbel.setCell (by show w.heap.size ≤ B; rw [HBB.out]; exact Nat.le_refl _) _
      clear hx hrow hbel hbk
      go_wp2
      go_roundw
      case rel => exact ⟨k + 1, by omega, by go_num, HR.out, HBl.out⟩
      case measure => simp [intOf]; omega
    · obtain rfl : k = n := by omega
      have HS : Hid (IntsAt wr (.slice (some ⟨B, 0, none⟩) k k) xs) := by
        refine ⟨_, k, by rw [← HN.out], by rw [← HN.out]; exact Nat.le_refl _, .inr ⟨B, 0, rfl, hrow.lt, fun j x hx => ?_⟩⟩
        have hj : j < k := by
          rcases Nat.lt_or_ge j k with h' | h'
          · exact h'
          · rw [List.getElem?_eq_none (by rw [← HN.out]; exact h')] at hx; cases hx
        have := hrow.cell hj
        rw [if_pos hj] at this
        rw [Nat.zero_add, this]
        simp [List.getD, hx]
      clear hrow
      go_wp2
      go_ret
      exact ⟨_, rfl, HS.out, hbel⟩

set_option maxHeartbeats 1000000 in
/-- Two slices with the same ints are equal. -/
theorem eqI_same (v u : Value) (xs : List Int) (w : World) (hv : IntsAt w v xs) (hu : IntsAt w u xs) (hn : xs.length ≤ 2097152) :
    Calls Try.prog 15 #[v, u] w fun e w' => e = .returned (.bool true) ∧ Below w.heap.size w w' := by
  obtain ⟨a, cap, rfl, hcap, hv⟩ := hv
  obtain ⟨b, cap', rfl, hcap', hu⟩ := hu
  obtain ⟨n, hnn⟩ : ∃ n, n = xs.length := ⟨_, rfl⟩
  rw [← hnn] at hn hcap hcap' ⊢
  have HN := Lib.hid hnn
  have HV : Hid (∀ w1 : World, Below w.heap.size w w1 → ∀ (j : Nat) x, 0 < n → xs[j]? = some x → ∃ bk o, a = some ⟨bk, o, none⟩ ∧ w1.cell? ⟨bk, o + j, none⟩ = some (.int .i64 x)) := by
    intro w1 hb j x h0 hx
    rcases hv with rfl | ⟨bk, o, ha, hk, h⟩
    · simp at hnn; omega
    · exact ⟨bk, o, ha, (hb.cell (p := ⟨bk, o + j, none⟩) hk).trans (h j x hx)⟩
  have HU : Hid (∀ w1 : World, Below w.heap.size w w1 → ∀ (j : Nat) x, 0 < n → xs[j]? = some x → ∃ bk o, b = some ⟨bk, o, none⟩ ∧ w1.cell? ⟨bk, o + j, none⟩ = some (.int .i64 x)) := by
    intro w1 hb j x h0 hx
    rcases hu with rfl | ⟨bk, o, ha, hk, h⟩
    · simp at hnn; omega
    · exact ⟨bk, o, ha, (hb.cell (p := ⟨bk, o + j, none⟩) hk).trans (h j x hx)⟩
  have hnb : ((n : Int) != (n : Int)) = false := by simp
  clear hv hu hnn
  go_enter Try.func15, Try.ntmps15
  go_wp2
  go_loopw [5] (fun i wr => ∃ k : Nat, k ≤ n ∧ i = .int .i64 k ∧ Below w.heap.size w wr) (fun i _ => n - (intOf i).toNat)
  case atStart => exact ⟨0, Nat.zero_le _, rfl, Below.refl _ _⟩
  case round =>
    obtain ⟨k, hk, rfl, hbel⟩ := hrel
    by_cases hlt : k < n
    · obtain ⟨x, hx⟩ : ∃ x, xs[k]? = some x := ⟨_, List.getElem?_eq_getElem (by rw [← HN.out]; exact hlt)⟩
      obtain ⟨bk, o, rfl, hck⟩ := HV.out wr hbel k x (by omega) hx
      obtain ⟨bk', o', rfl, hck'⟩ := HU.out wr hbel k x (by omega) hx
      clear hx
      go_wp2
      go_quiet (fail)
      go_wp2
      go_roundw
      case rel => exact ⟨k + 1, by omega, by go_num, below_drewN hbel nq⟩
      case measure => simp [intOf]; omega
    · go_wp2
      go_ret
      exact ⟨rfl, hbel⟩


/-- v is a slice of n cells of its own, from block 'base' on, that hold the ints f. -/
def OwnInts (w : World) (base : Nat) (v : Value) (n : Nat) (f : Nat → Int) : Prop :=
  (n = 0 ∧ ∃ a cap, v = .slice a 0 cap) ∨ ∃ g cap, v = .slice (some ⟨g, 0, none⟩) n cap ∧ n ≤ cap ∧ base ≤ g ∧ 0 < n ∧ g < w.heap.size ∧ (∀ j, j < n → w.cell? ⟨g, j, none⟩ = some (.int .i64 (f j))) ∧ ∀ j, w.frozen? ⟨g, j, none⟩ = false
theorem OwnInts.below {w w' : World} {base : Nat} {v : Value} {n : Nat} {f : Nat → Int} (h : OwnInts w base v n f) (hb : Below w.heap.size w w') : OwnInts w' base v n f := by
  rcases h with h | ⟨g, cap, hv, hn, hg, h0, hlt, hc, hf⟩
  · exact .inl h
  · exact .inr ⟨g, cap, hv, hn, hg, h0, Nat.lt_of_lt_of_le hlt hb.size, fun j hj => (hb.cell (p := ⟨g, j, none⟩) hlt).trans (hc j hj), fun j => (hb.frozen (p := ⟨g, j, none⟩) hlt).trans (hf j)⟩
theorem ownInts_of {w : World} {base : Nat} {v : Value} {xs : List Int} (h : w.ownsRow base 3 1 v xs.length (xs.map (.int .i64))) : OwnInts w base v xs.length (fun j => xs.getD j 0) := by
  rcases h.2 with ⟨rfl, h0⟩ | ⟨g, cap, cur, rfl, hb, hg, hn, _, hsz, htake⟩
  · exact .inl ⟨h0, none, 0, rfl⟩
  · rcases Nat.eq_zero_or_pos xs.length with h0 | h0
    · exact .inl ⟨h0, _, _, by rw [h0]⟩
    · have hlt : g < w.heap.size := (Array.getElem?_eq_some_iff.1 hg).1
      refine .inr ⟨g, cap, rfl, hn, hb, h0, hlt, fun j hj => ?_, fun j => by simp [World.frozen?, hg]⟩
      have h1 : (cur.toList.take (xs.length * 1))[j]? = some (.int .i64 (xs.getD j 0)) := by
        rw [htake, List.getElem?_map, List.getElem?_eq_getElem hj]; simp [List.getD, List.getElem?_eq_getElem hj]
      rw [List.getElem?_take_of_lt (by omega)] at h1
      simp only [Array.getElem?_toList] at h1
      simp [World.cell?, hg, h1]

set_option maxHeartbeats 1000000 in
theorem markI_any (base : Nat) (v : Value) (n : Nat) (f : Nat → Int) (w : World) (h : OwnInts w base v n f) (_hbase : base ≤ w.heap.size) (hn : n ≤ 100000000) :
    Calls Try.prog 20 #[v, .int .i64 1] w fun e w' => e = .returned (.int .i64 (1 + (n : Int))) ∧ OwnInts w' base v n (fun j => 1 + (j : Int)) ∧ Below base w w' := by
  rcases h with ⟨rfl, a, cap, rfl⟩ | ⟨g, cap, rfl, hcap, hg, h0, hlt, hc, hf⟩
  · go_enter Try.func20, Try.ntmps20
    go_wp2
    refine wp_loop_rounds 1 ?_
    rw [rounds_succ]
    go_wp2
    go_ret
    exact ⟨rfl, .inl ⟨rfl, _, _, rfl⟩, Below.refl _ _⟩
  · have HC := Lib.hid hc
    have HF := Lib.hid hf
    have HG := Lib.hid hg
    clear hc hf
    go_enter Try.func20, Try.ntmps20
    go_wp2
    go_loopw [1, 5] (fun m i wr => ∃ k : Nat, k ≤ n ∧ i = .int .i64 k ∧ m = .int .i64 (1 + (k : Int)) ∧ Hid (∀ j, j < k → wr.cell? ⟨g, j, none⟩ = some (.int .i64 (1 + (j : Int)))) ∧ Hid (∀ j, k ≤ j → j < n → wr.cell? ⟨g, j, none⟩ = some (.int .i64 (f j))) ∧ Hid (∀ j, wr.frozen? ⟨g, j, none⟩ = false) ∧ Below base w wr) (fun _ i _ => n - (intOf i).toNat)
    case atStart => exact ⟨0, Nat.zero_le _, rfl, rfl, fun j hj => by omega, fun j _ hj => HC.out j hj, HF.out, Below.refl _ _⟩
    case round =>
      obtain ⟨k, hk, rfl, rfl, HM, HR, HFr, hbel⟩ := hrel
      have hszr := hbel.size
      by_cases hlt' : k < n
      · have hck := HR.out k (Nat.le_refl _) hlt'
        have hfk := HFr.out k
        have HM' : Hid (∀ j, j < k + 1 → (wr.setCell ⟨g, k, none⟩ (.int .i64 (1 + (k : Int)))).cell? ⟨g, j, none⟩ = some (.int .i64 (1 + (j : Int)))) := by
          intro j hj
          by_cases hjk : j = k
          · subst hjk; exact World.cell?_setCell_same _ _ _ hck
          · rw [World.cell?_setCell_other _ _ _ _ (by intro e; injection e; omega)]
            exact HM.out j (by omega)
        have HR' : Hid (∀ j, k + 1 ≤ j → j < n → (wr.setCell ⟨g, k, none⟩ (.int .i64 (1 + (k : Int)))).cell? ⟨g, j, none⟩ = some (.int .i64 (f j))) := by
          intro j hj1 hj2
          rw [World.cell?_setCell_other _ _ _ _ (by intro e; injection e; omega)]
          exact HR.out j (by omega) hj2
        have HFr' : Hid (∀ j, (wr.setCell ⟨g, k, none⟩ (.int .i64 (1 + (k : Int)))).frozen? ⟨g, j, none⟩ = false) := by
          intro j
          rw [World.frozen?_setCell]
          exact HFr.out j
        have HBl : Hid (Below base w (wr.setCell ⟨g, k, none⟩ (.int .i64 (1 + (k : Int))))) := hbel.setCell (by exact hg) _
        go_wp2
        go_roundw
        case rel => exact ⟨k + 1, by omega, by go_num, by go_num, HM', HR', HFr', HBl.out⟩
        case measure => simp [intOf]; omega
      · obtain rfl : k = n := by omega
        go_wp2
        go_ret
        exact ⟨rfl, .inr ⟨g, cap, rfl, hcap, hg, h0, by omega, HM.out, HFr.out⟩, hbel⟩

end Go.Proofs.Ythigdblloddepaa
