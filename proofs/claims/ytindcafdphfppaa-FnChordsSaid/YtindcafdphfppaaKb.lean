/-
  KEYBOARDS: arrays of 23 bools, as values and in memory.
-/
import Derived.Test.YtindcafdphfppaaSpecEvs
import Derived.ChangeKeysEq
import Derived.Laws.StructEq
import Derived.Laws.Rows
import Derived.Laws.Tables
namespace Go.Proofs.Ytindcafdphfppaa
open Go.RowKit

/-- The keyboard of the keys n, cell by cell. -/
def kbA (n : Nat) : Array Value := ((List.range 23).map fun j => Value.bool (n.testBit j)).toArray
theorem kbA_size (n : Nat) : (kbA n).size = 23 := by unfold kbA; simp
theorem kbA_at (n j : Nat) (h : j < 23) : (kbA n)[j]? = some (.bool (n.testBit j)) := by unfold kbA; simp [h]
theorem kbA_one (n : Nat) : (kbA n).all (·.oneCell') = true := by
  rw [Array.all_eq_true_iff_forall_mem]
  intro x hx
  unfold kbA at hx
  simp at hx
  obtain ⟨j, _, rfl⟩ := hx
  rfl
theorem kbA_ext {cs : Array Value} {m : Nat} (hs : cs.size = 23) (h : ∀ j, j < 23 → cs[j]? = some (.bool (m.testBit j))) : cs = kbA m := by
  apply Array.ext_getElem?
  intro i
  rcases Nat.lt_or_ge i 23 with hi | hi
  · rw [h i hi, kbA_at m i hi]
  · rw [Array.getElem?_eq_none (by omega), Array.getElem?_eq_none (by rw [kbA_size]; omega)]
theorem kbA_set (n k m : Nat) (b : Bool) (hk : k < 23) (hm : ∀ j, j < 23 → m.testBit j = if j = k then b else n.testBit j) : (kbA n).setIfInBounds k (.bool b) = kbA m := by
  apply kbA_ext
  · rw [Array.size_setIfInBounds, kbA_size]
  · intro j hj
    rw [hm j hj, Array.getElem?_setIfInBounds]
    by_cases hjk : k = j
    · subst hjk; simp [kbA_size, hk]
    · rw [if_neg hjk, if_neg (fun e => hjk e.symm), kbA_at n j hj]
/-- A key's bit becomes the event's. -/
theorem kbA_flip (dn : Nat) (e : Pl.Ev) (hf : Pl.fits dn e) : (kbA dn).setIfInBounds e.k.toNat (.bool e.d) = kbA (Pl.flip dn e) := by
  refine kbA_set _ _ _ _ (by have := hf.1; have := hf.2.1; omega) fun j _ => ?_
  rw [Pl.flip_bit]
  by_cases h : j = e.k.toNat
  · subst h
    have := hf.2.2.2.2
    cases h1 : dn.testBit e.k.toNat <;> cases h2 : e.d <;> simp_all
  · rw [if_neg h]
    have : decide (e.k.toNat = j) = false := by simp; omega
    rw [this, Bool.xor_false]
theorem kbA_or (n k : Nat) (hk : k < 23) : (kbA n).setIfInBounds k (.bool true) = kbA (n ||| 2 ^ k) := by
  refine kbA_set _ _ _ _ hk fun j _ => ?_
  rw [Nat.testBit_or, Pl.testBit_pow]
  by_cases h : j = k
  · subst h; simp
  · rw [if_neg h]
    have : decide (k = j) = false := by simp; omega
    rw [this, Bool.or_false]

/-- Block g is a keyboard with the keys n. -/
def KB (w : World) (g n : Nat) : Prop := w.heap[g]? = some (.cells (kbA n) 65 (0, 0))
theorem KB.lt {w : World} {g n : Nat} (h : KB w g n) : g < w.heap.size := (Array.getElem?_eq_some_iff.1 h).1
theorem KB.cell {w : World} {g n : Nat} (h : KB w g n) (k : Nat) (hk : k < 23) : w.cell? ⟨g, k, none⟩ = some (.bool (n.testBit k)) := by
  rw [cell_of_row w g k _ _ _ h, kbA_at n k hk]
theorem KB.frozen {w : World} {g n : Nat} (h : KB w g n) (k : Nat) : w.frozen? ⟨g, k, none⟩ = false := by
  have h' : w.heap[g]? = some (.cells (kbA n) 65 (0, 0)) := h
  simp [World.frozen?, h']
theorem KB.below {w w' : World} {g n : Nat} (h : KB w g n) (hb : Below w.heap.size w w') : KB w' g n := (hb.block g h.lt).trans h
theorem KB.kept {w w' : World} {g n : Nat} {row : Option Nat} (h : KB w g n) (hg : w.grownBy w' row) (hr : row ≠ some g) : KB w' g n := (hg.block g h.lt (fun e => hr e.symm)).trans h
theorem KB.alloc {w : World} {g n : Nat} (h : KB w g n) (o : Obj) : KB (w.alloc o) g n := (Below.heap_alloc w o g h.lt).trans h
theorem KB.drew {w : World} {g n : Nat} (h : KB w g n) : KB w.drew g n := h
theorem KB.made (w : World) (n : Nat) : KB (w.alloc (.cells (kbA n) 65)) w.heap.size n := heap_alloc_new w _
theorem KB.setCell {w : World} {g n : Nat} (h : KB w g n) (p : Addr) (hp : p.block ≠ g) (u : Value) : KB (w.setCell p u) g n := (Below.heap_setCell w p u g (fun e => hp e.symm)).trans h
theorem KB.bit {w : World} {g n m k : Nat} {b : Bool} (h : KB w g n) (hm : (kbA n).setIfInBounds k (.bool b) = kbA m) : KB (w.setCell ⟨g, k, none⟩ (.bool b)) g m := by
  unfold KB
  rw [setCell_eq_setRow w g k (kbA n) 65 (0, 0) (.bool b) h, hm]
  exact setRow_heap w g (kbA n) (kbA m) _ _ h
theorem KB.row {w : World} {g n : Nat} (h : KB w g n) (m : Nat) : KB (w.setRow g (kbA m)) g m := setRow_heap w g (kbA n) (kbA m) _ _ h
theorem KB.rowOther {w : World} {g n : Nat} (h : KB w g n) (k m : Nat) (hk : k ≠ g) : KB (w.setRow k (kbA m)) g n := (setRow_other w k g (kbA m) (fun e => hk e.symm)).trans h
/-- An event stands in block g. -/
def EvB (w : World) (g : Nat) (e : Pl.Ev) : Prop := w.heap[g]? = some (.cells #[.int .i64 e.t, .int .i64 e.k, .bool e.d] 31 (0, 0))
theorem EvB.lt {w : World} {g : Nat} {e : Pl.Ev} (h : EvB w g e) : g < w.heap.size := (Array.getElem?_eq_some_iff.1 h).1
theorem EvB.made (w : World) (e : Pl.Ev) : EvB (w.alloc (.cells #[.int .i64 e.t, .int .i64 e.k, .bool e.d] 31)) w.heap.size e := heap_alloc_new w _
theorem EvB.below {w w' : World} {g : Nat} {e : Pl.Ev} (h : EvB w g e) (hb : Below w.heap.size w w') : EvB w' g e := (hb.block g h.lt).trans h
theorem EvB.kept {w w' : World} {g : Nat} {e : Pl.Ev} {row : Option Nat} (h : EvB w g e) (hg : w.grownBy w' row) (hr : row ≠ some g) : EvB w' g e := (hg.block g h.lt (fun e => hr e.symm)).trans h
theorem EvB.alloc {w : World} {g : Nat} {e : Pl.Ev} (h : EvB w g e) (o : Obj) : EvB (w.alloc o) g e := (Below.heap_alloc w o g h.lt).trans h
theorem EvB.drew {w : World} {g : Nat} {e : Pl.Ev} (h : EvB w g e) : EvB w.drew g e := h
theorem EvB.cells {w : World} {g : Nat} {e : Pl.Ev} (h : EvB w g e) : w.cell? ⟨g, 0, none⟩ = some (.int .i64 e.t) ∧ w.cell? ⟨g, 1, none⟩ = some (.int .i64 e.k) ∧ w.cell? ⟨g, 2, none⟩ = some (.bool e.d) := by
  refine ⟨?_, ?_, ?_⟩ <;> rw [cell_of_row w g _ _ _ _ h] <;> rfl
/-- A row of ints lies in no keyboard and in no event. -/
theorem KB.apart {w : World} {g n : Nat} (h : KB w g n) {base : Nat} {v : Value} {k : Nat} {xs : List Value} (hr : w.ownsRow base 3 1 v k xs) : v.ownBlock ≠ some g := by
  rcases hr.2 with ⟨rfl, _⟩ | ⟨g', cap, cur, rfl, _, hg, _⟩
  · intro e; cases e
  · intro e
    have : g' = g := by simpa [Value.ownBlock] using e
    subst this
    have h' : w.heap[g']? = some (.cells (kbA n) 65 (0, 0)) := h
    rw [hg] at h'
    have h2 := Option.some.inj h'
    injection h2 with _ h3
    exact absurd h3 (by decide)
theorem EvB.apart {w : World} {g : Nat} {e : Pl.Ev} (h : EvB w g e) {base : Nat} {v : Value} {k : Nat} {xs : List Value} (hr : w.ownsRow base 3 1 v k xs) : v.ownBlock ≠ some g := by
  rcases hr.2 with ⟨rfl, _⟩ | ⟨g', cap, cur, rfl, _, hg, _⟩
  · intro e; cases e
  · intro e'
    have : g' = g := by simpa [Value.ownBlock] using e'
    subst this
    have h' : w.heap[g']? = some (.cells #[.int .i64 e.t, .int .i64 e.k, .bool e.d] 31 (0, 0)) := h
    rw [hg] at h'
    have h2 := Option.some.inj h'
    injection h2 with _ h3
    exact absurd h3 (by decide)
theorem below_row {B g : Nat} {a w : World} (h : Below B a w) (hg : B ≤ g) (cs : Array Value) : Below B a (w.setRow g cs) :=
  h.trans ⟨rfl, rfl, rfl, by rw [setRow_size]; exact Nat.le_refl _, fun k hk => setRow_other w g k cs (by omega)⟩

theorem kb_size (n : Nat) : (Try.prog.info? 65).map (·.size) = some (kbA n).size := by rw [kbA_size]; kernel_rfl
theorem kb_built : Try.prog.built 65 [] = some (kbA 0) := by kernel_rfl
theorem kb_nil : (#[.bool false, .bool false, .bool false, .bool false, .bool false, .bool false, .bool false, .bool false, .bool false, .bool false, .bool false, .bool false, .bool false, .bool false, .bool false, .bool false, .bool false, .bool false, .bool false, .bool false, .bool false, .bool false, .bool false] : Array Value) = kbA 0 := by kernel_rfl

section
variable {ops : Array Oper} {rest : List Oper} {o : Oper} {a : Act} {w : World} {Q : Exit → Act → World → Prop}
/-- A keyboard is loaded. -/
theorem kb_load (g n : Nat) {x : Operand} (hgd : o.guard = none) (ho : o.op = .load 65 x) (hx : a.eval x = .pointer (some ⟨g, 0, none⟩)) (hg : KB w g n)
    (h : wpList Try.prog ops Q rest (a.put o.dst (.agg (kbA n))) w) : wpList Try.prog ops Q (o :: rest) a w :=
  wpList_load_row hgd _ x ho g hx _ (kbA n) (0, 0) _ hg Try.underlying65 rfl (kb_size n) h
/-- A keyboard is stored. -/
theorem kb_store (g n m : Nat) {x y : Operand} (hgd : o.guard = none) (ho : o.op = .store 65 x y) (hx : a.eval x = .pointer (some ⟨g, 0, none⟩)) (hy : a.eval y = .agg (kbA m)) (hg : KB w g n)
    (h : wpList Try.prog ops Q rest (a.put o.dst undef) (w.setRow g (kbA m))) : wpList Try.prog ops Q (o :: rest) a w :=
  wpList_store_row hgd _ x y ho g (kbA m) hx hy _ (kbA n) hg (kb_size m) (by rw [kbA_size, kbA_size]) (kbA_one m) h
/-- The keyboard with no key down. -/
theorem kb_build (hgd : o.guard = none) (ho : o.op = .build 65 #[])
    (h : wpList Try.prog ops Q rest (a.put o.dst (.agg (kbA 0))) w) : wpList Try.prog ops Q (o :: rest) a w := by
  have e : ((#[] : Array (Nat × Operand)).map fun (i, x) => (i, a.eval x)).toList = [] := by simp
  refine wpList_build hgd _ #[] ho (by rw [e, kb_built]; rfl) ?_
  rw [e, kb_built]; exact h
end

/-- THE SIZE OF A KEYBOARD, HIDDEN: a walk's own simp then opens no load or store of a whole keyboard; the facts laid beside it are met. -/
theorem kb_opaque : ∃ (Sz : Sem Nat) (N : Nat), sizeOf 65 = Sz ∧ (∀ w, Sz.run Try.prog w = .ok N w) ∧ (∀ n, (kbA n).size = N) ∧
    (∀ w g n, KB w g n → (loadCellsFrom ⟨g, 0, none⟩ 0 N #[]).run Try.prog w = .ok (kbA n) w) ∧
    (∀ w g n m, KB w g n → (storeCells ⟨g, 0, none⟩ (kbA m).toList 0).run Try.prog w = .ok () (w.setRow g (kbA m))) := by
  refine ⟨_, 23, rfl, fun w => Try.sizeOf65 w, kbA_size, fun w g n h => ?_, fun w g n m h => ?_⟩
  · have := run_loadCells_list (P := Try.prog) w ⟨g, 0, none⟩ (kbA n).toList (fun j v hv => by
      have hadd : (⟨g, 0, none⟩ : Addr).add j = ⟨g, j, none⟩ := by unfold Addr.add; split <;> simp_all
      rw [hadd, cell_of_row w g j _ _ _ h]
      simpa using hv)
    simpa [loadCells, kbA_size] using this
  · have h2 := run_storeCells_from (P := Try.prog) g 65 (kbA m).toList 0 (kbA n) w h (by simp [kbA_size]) (fun v hv => (Array.all_eq_true_iff_forall_mem.1 (kbA_one m)) v (by simpa using hv))
    simpa using h2

/-- Two keyboards compared. -/
theorem kb_items (d : Nat) (n m : Nat) (w : World) : ∀ is : List Nat, (∀ i ∈ is, i < 23) →
    (Op.eqItems (d + 1) 4 1 (kbA n) (kbA m) is).run Try.prog w = .ok (is.all fun i => n.testBit i == m.testBit i) w := by
  intro is
  induction is with
  | nil => intro _; rfl
  | cons i is ih =>
    intro h
    have hi := h i List.mem_cons_self
    have p : ∀ q, (part 4 (kbA q) (i * 1)).run Try.prog w = .ok (.bool (q.testBit i)) w := by
      intro q
      have := kbA_at q i hi
      simp [part, this]
    simp only [Op.eqItems, Sem.run_bind, p, Result.andThen_ok, run_equalIn_bool' _ _ _ _ _ Try.underlying4]
    cases hb : (n.testBit i == m.testBit i)
    · simp [hb]
    · rw [if_neg (by simp), ih (fun j hj => h j (List.mem_cons_of_mem _ hj)), List.all_cons, hb, Bool.true_and]
theorem kb_all (n : Nat) (hn : n < 8388608) : ((List.range 23).all fun i => n.testBit i == (0 : Nat).testBit i) = decide (n = 0) := by
  rw [Bool.eq_iff_iff, List.all_eq_true, decide_eq_true_eq]
  refine ⟨fun h => ?_, fun h => by subst h; simp⟩
  apply Nat.eq_of_testBit_eq
  intro i
  rw [Nat.zero_testBit]
  rcases Nat.lt_or_ge i 23 with hi | hi
  · have := h i (by simpa using hi)
    rw [Nat.zero_testBit, beq_iff_eq] at this; exact this
  · exact Nat.testBit_lt_two_pow (Nat.lt_of_lt_of_le hn (show 8388608 ≤ 2 ^ i from Nat.pow_le_pow_right (n := 2) (i := 23) (by decide) hi))
theorem info_bool : (Try.prog.info? 4).isSome = true := by kernel_rfl
theorem infoBool : ∃ i, Try.prog.info? 4 = some i ∧ Try.prog.cellsOf 4 = 1 := by
  cases h : Try.prog.info? 4 with
  | none => exact absurd h (by intro e; have h2 := info_bool; rw [e] at h2; cases h2)
  | some i => exact ⟨i, rfl, by kernel_rfl⟩
/-- Is any key down? -/
theorem kb_equal (n : Nat) (hn : n < 8388608) (w : World) : (Op.equalIn 10000 65 (.agg (kbA n)) (.agg (kbA 0))).run Try.prog w = .ok (decide (n = 0)) w := by
  obtain ⟨i, hi, hc⟩ := infoBool
  rw [show (10000 : Nat) = 9998 + 1 + 1 from rfl, run_equalIn_array w _ _ _ Try.underlying65 hi, hc, kb_items _ _ _ _ _ (fun i hi => by simpa using hi), kb_all n hn]
/-- A key of a keyboard. -/
theorem kb_index (n k : Nat) (hk : k < 23) (w : World) : (Instr.index 65 (.agg (kbA n)) (.int .i64 (k : Int))).run Try.prog w = .ok (.bool (n.testBit k)) w := by
  have h1 := kbA_at n k hk
  simp [Instr.index, asIntOf, part]
  rw [if_pos (by omega), h1]
  simp
end Go.Proofs.Ytindcafdphfppaa
