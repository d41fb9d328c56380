/-
  OWN ROWS OF ENTRIES, and one entry appended to such a row.
-/
import Derived.Test.YtnpiphkglhcifaaGreatEnts
import Derived.Test.YtnpiphkglhcifaaGreatTouch
import Derived.Deep.AppendLies
namespace Go.Proofs.YtnpiphkglhcifaaGreat
set_option maxRecDepth 100000
open Go.RowKit

theorem infoEn : (Tryz.prog.info? 45).map (fun i => (i.zero, i.size, i.bytes)) = some (some (.agg #[.slice none 0 0, .string ByteArray.empty]), 2, 40) := by kernel_rfl
/-- The cells of entries. -/
def enCells (us : List (Value × Ent)) : List Value := us.flatMap fun p => [p.1, .string p.2.2]
theorem enCells_snoc (us : List (Value × Ent)) (p : Value × Ent) : enCells (us ++ [p]) = enCells us ++ [p.1, .string p.2.2] := by unfold enCells; rw [List.flatMap_append]; rfl
theorem enCells_len (us : List (Value × Ent)) : (enCells us).length = us.length * 2 := by
  induction us with
  | nil => rfl
  | cons e us ih =>
    show ([e.1, .string e.2.2] ++ enCells us : List Value).length = _
    rw [List.length_append, ih, List.length_cons]; simp; omega
theorem enCells_at (us : List (Value × Ent)) : ∀ (j : Nat) (p : Value × Ent), us[j]? = some p → (enCells us)[j * 2]? = some p.1 ∧ (enCells us)[j * 2 + 1]? = some (.string p.2.2) := by
  induction us with
  | nil => intro j e h; simp at h
  | cons x us ih =>
    intro j e h
    have hx : enCells (x :: us) = x.1 :: .string x.2.2 :: enCells us := rfl
    rw [hx]
    cases j with
    | zero => simp at h; subst h; exact ⟨rfl, rfl⟩
    | succ j =>
      obtain ⟨h0, h1⟩ := ih j e (by simpa using h)
      rw [show (j + 1) * 2 = j * 2 + 1 + 1 by omega]
      exact ⟨h0, h1⟩
/-- u is a slice of ints in a block from 'base' on, other than the row's. -/
def Off (w : World) (base : Nat) (row : Option Nat) (u : Value) (xs : List Int) : Prop := IntsM w u xs ∧ ∀ b, u.ownBlock = some b → base ≤ b ∧ row ≠ some b
/-- v is a row of its own that holds entries; their outlines lie from 'base' on, outside of the row. -/
structure Rows (w : World) (base : Nat) (v : Value) (us : List (Value × Ent)) : Prop where
  row : w.ownsRow base 45 2 v us.length (enCells us)
  ints : ∀ p ∈ us, Off w base v.ownBlock p.1 p.2.1
theorem Rows.nil (w : World) (base : Nat) : Rows w base (.slice none 0 0) [] := ⟨World.ownsRow_nil _ _ _ _, fun p hp => by simp at hp⟩
theorem Rows.form {w : World} {base : Nat} {v : Value} {us : List (Value × Ent)} (h : Rows w base v us) : ∃ a c, v = .slice a us.length c := by
  rcases h.row.2 with ⟨rfl, h0⟩ | ⟨g, cap, cur, rfl, _⟩
  · exact ⟨_, _, by rw [h0]⟩
  · exact ⟨_, _, rfl⟩
theorem Rows.form1 {w : World} {base : Nat} {v : Value} {us : List (Value × Ent)} {p : Value × Ent} (h : Rows w base v (us ++ [p])) : ∃ a c, v = .slice a (us.length + 1) c := by
  obtain ⟨a, c, hv⟩ := h.form
  rw [List.length_append] at hv
  exact ⟨a, c, hv⟩
theorem intsM_block {w : World} {u : Value} {xs : List Int} (h : IntsM w u xs) : ∀ b, u.ownBlock = some b → b < w.heap.size := by
  rcases h with ⟨rfl, _⟩ | ⟨bk, off, cap, rfl, hc, hk, _⟩
  · intro b hb; simp [Value.ownBlock] at hb
  · intro b hb; simp [Value.ownBlock] at hb; omega
theorem IntsM.touch {T : Nat → Prop} {w w' : World} {u : Value} {xs : List Int} (h : IntsM w u xs) (ht : Touch T w w') (hT : ∀ b, u.ownBlock = some b → ¬ T b) : IntsM w' u xs := by
  rcases h with h | ⟨bk, off, cap, rfl, hc, hk, hcell⟩
  · exact .inl h
  · exact .inr ⟨bk, off, cap, rfl, hc, Nat.lt_of_lt_of_le hk ht.1, fun j x hx => ((ht.cf _ hk (hT bk rfl)).1).trans (hcell j x hx)⟩
/-- A slice of entries, each outline's block told. -/
def EntsM (w : World) (v : Value) (es : List Ent) : Prop :=
  ∃ (a : Option Addr) (cap : Nat), v = .slice a es.length cap ∧ es.length ≤ cap ∧ (es = [] ∨ ∃ bk o, a = some ⟨bk, o, none⟩ ∧ bk < w.heap.size ∧ ∀ (j : Nat) e, es[j]? = some e →
    ∃ u, w.cell? ⟨bk, o + j * 2, none⟩ = some u ∧ w.cell? ⟨bk, o + j * 2 + 1, none⟩ = some (.string e.2) ∧ IntsM w u e.1)
theorem EntsM.at {w : World} {v : Value} {es : List Ent} (h : EntsM w v es) : EntsAt w v es := by
  obtain ⟨a, cap, hv, hc, h⟩ := h
  refine ⟨a, cap, hv, hc, ?_⟩
  rcases h with h | ⟨bk, o, ha, hk, h⟩
  · exact .inl h
  · refine .inr ⟨bk, o, ha, hk, fun j e he => ?_⟩
    obtain ⟨u, h0, h1, h2⟩ := h j e he
    exact ⟨u, h0, h1, h2.at⟩
theorem EntsM.below {w w' : World} {v : Value} {es : List Ent} (h : EntsM w v es) (hb : Below w.heap.size w w') : EntsM w' v es := by
  obtain ⟨a, cap, hv, hc, h⟩ := h
  refine ⟨a, cap, hv, hc, ?_⟩
  rcases h with h | ⟨bk, o, ha, hk, h⟩
  · exact .inl h
  · refine .inr ⟨bk, o, ha, Nat.lt_of_lt_of_le hk hb.size, fun j e he => ?_⟩
    obtain ⟨u, h0, h1, h2⟩ := h j e he
    exact ⟨u, (hb.cell (p := ⟨bk, o + j * 2, none⟩) hk).trans h0, (hb.cell (p := ⟨bk, o + j * 2 + 1, none⟩) hk).trans h1, h2.below hb⟩
theorem EntsM.nil (w : World) (a : Option Addr) (cap : Nat) : EntsM w (.slice a 0 cap) [] := ⟨a, cap, rfl, Nat.zero_le _, .inl rfl⟩
/-- The cells of a slice of entries, in every later world. -/
def EntCellsM (w : World) (a : Option Addr) (es : List Ent) : Prop :=
  ∀ w1 : World, Below w.heap.size w w1 → ∀ (j : Nat) e, es[j]? = some e → ∃ bk o u, a = some ⟨bk, o, none⟩ ∧ bk < w.heap.size ∧ w1.cell? ⟨bk, o + j * 2, none⟩ = some u ∧ w1.cell? ⟨bk, o + j * 2 + 1, none⟩ = some (.string e.2) ∧ IntsM w1 u e.1
theorem EntsM.cells {w : World} {v : Value} {es : List Ent} (h : EntsM w v es) : ∃ a cap, v = .slice a es.length cap ∧ es.length ≤ cap ∧ EntCellsM w a es := by
  obtain ⟨a, cap, rfl, hc, h⟩ := h
  refine ⟨a, cap, rfl, hc, fun w1 hb j e he => ?_⟩
  rcases h with rfl | ⟨bk, o, ha, hk, h⟩
  · simp at he
  · obtain ⟨u, h0, h1, h2⟩ := h j e he
    exact ⟨bk, o, u, ha, hk, (hb.cell (p := ⟨bk, o + j * 2, none⟩) hk).trans h0, (hb.cell (p := ⟨bk, o + j * 2 + 1, none⟩) hk).trans h1, h2.below hb⟩
/-- A block of one cell. -/
def BoxV (w : World) (b : Nat) (T : TypeId) (v : Value) : Prop := w.heap[b]? = some (.cells #[v] T (0, 0))
theorem BoxV.lt {w : World} {b : Nat} {T : TypeId} {v : Value} (h : BoxV w b T v) : b < w.heap.size := (Array.getElem?_eq_some_iff.1 h).1
theorem BoxV.cell {w : World} {b : Nat} {T : TypeId} {v : Value} (h : BoxV w b T v) : w.cell? ⟨b, 0, none⟩ = some v := by unfold World.cell?; simp only [show w.heap[b]? = _ from h]; rfl
theorem BoxV.frozen {w : World} {b : Nat} {T : TypeId} {v : Value} (h : BoxV w b T v) : w.frozen? ⟨b, 0, none⟩ = false := by unfold World.frozen?; simp only [show w.heap[b]? = _ from h]; rfl
theorem BoxV.touch {T' : Nat → Prop} {w w' : World} {b : Nat} {T : TypeId} {v : Value} (h : BoxV w b T v) (ht : Touch T' w w') (hb : ¬ T' b) : BoxV w' b T v := ht.block h hb
theorem BoxV.below {w w' : World} {b : Nat} {T : TypeId} {v : Value} {N : Nat} (h : BoxV w b T v) (hb : Below N w w') (hN : b < N) : BoxV w' b T v := (hb.block b hN).trans h
theorem BoxV.grown {w w' : World} {b : Nat} {T : TypeId} {v : Value} {row : Option Nat} (h : BoxV w b T v) (hg : w.grownBy w' row) (hne : some b ≠ row) : BoxV w' b T v := (hg.block b h.lt hne).trans h
theorem BoxV.set {w : World} {b : Nat} {T : TypeId} {v : Value} (h : BoxV w b T v) (v' : Value) : BoxV (w.setCell ⟨b, 0, none⟩ v') b T v' := (Go.heap_setCell_same w b 0 _ T v' h)
theorem BoxV.other {w : World} {b g o : Nat} {T : TypeId} {v x : Value} (h : BoxV w b T v) (hne : g ≠ b) : BoxV (w.setCell ⟨g, o, none⟩ x) b T v := (Below.heap_setCell _ _ _ _ (fun e => hne e.symm)).trans h
theorem BoxV.new (w : World) (T : TypeId) (v : Value) : BoxV (w.alloc (.cells #[v] T)) w.heap.size T v := heap_alloc_new w _
theorem Touch.cell {T : Nat → Prop} {w w' : World} (h : Touch T w w') {b o : Nat} {x : Value} (hx : w.cell? ⟨b, o, none⟩ = some x) (hT : ¬ T b) : w'.cell? ⟨b, o, none⟩ = some x := (h.cf o (lt_of_cell hx) hT).1.trans hx
theorem Rows.below {w w' : World} {base : Nat} {v : Value} {us : List (Value × Ent)} (h : Rows w base v us) (hb : Below w.heap.size w w') : Rows w' base v us := by
  refine ⟨h.row.kept (row := none) ⟨hb.os, hb.tape, hb.output, hb.size, fun k hk _ => hb.block k hk⟩ ?_, fun p hp => ⟨(h.ints p hp).1.below hb, (h.ints p hp).2⟩⟩
  cases hv : v.ownBlock <;> simp
theorem ownsRow_mono {w : World} {b b' : Nat} {e : TypeId} {size : Nat} {v : Value} {n : Nat} {xs : List Value} (h : w.ownsRow b e size v n xs) (hb : b' ≤ b) : w.ownsRow b' e size v n xs := by
  refine ⟨h.1, ?_⟩
  rcases h.2 with h | ⟨g, cap, cur, h1, h2, r⟩
  · exact .inl h
  · exact .inr ⟨g, cap, cur, h1, Nat.le_trans hb h2, r⟩
theorem Rows.mono {w : World} {b b' : Nat} {v : Value} {us : List (Value × Ent)} (h : Rows w b v us) (hb : b' ≤ b) : Rows w b' v us :=
  ⟨ownsRow_mono h.row hb, fun p hp => ⟨(h.ints p hp).1, fun x hx => ⟨Nat.le_trans hb ((h.ints p hp).2 x hx).1, ((h.ints p hp).2 x hx).2⟩⟩⟩
theorem grown_setC (w : World) (b i : Nat) (v : Value) : w.grownBy (w.setCell ⟨b, i, none⟩ v) (some b) :=
  ⟨rfl, rfl, rfl, by simp [World.setCell], fun k _ hk => Below.heap_setCell _ _ _ _ (fun e => hk (by simp [e]))⟩
/-- A cell of another block is set. -/
theorem Rows.setCell {w : World} {base : Nat} {v : Value} {us : List (Value × Ent)} (h : Rows w base v us) {B o : Nat} {x : Value} (hB : B < base) : Rows (w.setCell ⟨B, o, none⟩ x) base v us := by
  have hg : w.grownBy (w.setCell ⟨B, o, none⟩ x) (some B) := grown_setC w B o x
  have hrow : v.ownBlock = none ∨ v.ownBlock ≠ some B := by
    cases hv : v.ownBlock with
    | none => exact .inl rfl
    | some k => right; intro e; injection e with e; have := (h.row.lt k hv).1; omega
  refine ⟨h.row.kept hg hrow, fun p hp => ⟨(h.ints p hp).1.touch (T := fun b => b = B) (Touch.grown hg (fun k e => (Option.some.inj e).symm)) fun b hb e => ?_, (h.ints p hp).2⟩⟩
  have := ((h.ints p hp).2 b hb).1
  omega
/-- A cell of a block that is neither the row nor of an outline is set. -/
theorem Rows.setOther {w : World} {base : Nat} {v : Value} {us : List (Value × Ent)} (h : Rows w base v us) {B o : Nat} {x : Value} (hv : v.ownBlock ≠ some B) (hu : ∀ p ∈ us, p.1.ownBlock ≠ some B) : Rows (w.setCell ⟨B, o, none⟩ x) base v us := by
  have hg : w.grownBy (w.setCell ⟨B, o, none⟩ x) (some B) := grown_setC w B o x
  refine ⟨h.row.kept hg (.inr hv), fun p hp => ⟨(h.ints p hp).1.touch (T := fun b => b = B) (Touch.grown hg (fun k e => (Option.some.inj e).symm)) fun b hb e => ?_, (h.ints p hp).2⟩⟩
  subst e
  exact hu p hp hb
theorem Rows.at {w : World} {base : Nat} {v : Value} {us : List (Value × Ent)} (h : Rows w base v us) : EntsM w v (us.map (·.2)) := by
  have hlen : (us.map (·.2)).length = us.length := List.length_map _
  rcases h.row.2 with ⟨rfl, h0⟩ | ⟨g, cap, cur, rfl, hbg, hg, hn, hcm, hsz, htake⟩
  · have : us = [] := List.length_eq_zero_iff.1 h0
    subst this
    exact EntsM.nil _ _ _
  · have hlt : g < w.heap.size := (Array.getElem?_eq_some_iff.1 hg).1
    refine ⟨some ⟨g, 0, none⟩, cap, by rw [hlen], by rw [hlen]; exact hn, .inr ⟨g, 0, rfl, hlt, fun j e hj => ?_⟩⟩
    rw [List.getElem?_map] at hj
    obtain ⟨p, hp, rfl⟩ := Option.map_eq_some_iff.1 hj
    have hpl := (List.getElem?_eq_some_iff.1 hp).1
    obtain ⟨h0, h1⟩ := enCells_at us j p hp
    have hc : ∀ q x, (enCells us)[q]? = some x → w.cell? ⟨g, q, none⟩ = some x := by
      intro q x hq
      have hql : q < us.length * 2 := by
        rcases Nat.lt_or_ge q (us.length * 2) with h' | h'
        · exact h'
        · rw [List.getElem?_eq_none (by rw [enCells_len]; exact h')] at hq; cases hq
      rw [← htake, List.getElem?_take_of_lt hql] at hq
      simp only [Array.getElem?_toList] at hq
      simp [World.cell?, hg, hq]
    rw [Nat.zero_add]
    exact ⟨p.1, hc _ _ h0, hc _ _ h1, (h.ints p (List.mem_of_getElem? hp)).1⟩
theorem boxes3 (w : World) (x y z : Value) (T T' T'' : TypeId) :
    BoxV (((w.alloc (.cells #[x] T)).alloc (.cells #[y] T')).alloc (.cells #[z] T'')) w.heap.size T x ∧ BoxV (((w.alloc (.cells #[x] T)).alloc (.cells #[y] T')).alloc (.cells #[z] T'')) (w.heap.size + 1) T' y ∧
      BoxV (((w.alloc (.cells #[x] T)).alloc (.cells #[y] T')).alloc (.cells #[z] T'')) (w.heap.size + 2) T'' z := by
  have s1 : (w.alloc (.cells #[x] T)).heap.size = w.heap.size + 1 := by simp
  have s2 : ((w.alloc (.cells #[x] T)).alloc (.cells #[y] T')).heap.size = w.heap.size + 2 := by simp
  have h0 := BoxV.new w T x
  have h1 := BoxV.new (w.alloc (.cells #[x] T)) T' y
  have h2 := BoxV.new ((w.alloc (.cells #[x] T)).alloc (.cells #[y] T')) T'' z
  rw [s1] at h1
  rw [s2] at h2
  have b1 : Below (w.alloc (.cells #[x] T)).heap.size (w.alloc (.cells #[x] T)) ((w.alloc (.cells #[x] T)).alloc (.cells #[y] T')) := (Below.refl _ _).alloc (Nat.le_refl _) _
  have b2 : Below ((w.alloc (.cells #[x] T)).alloc (.cells #[y] T')).heap.size ((w.alloc (.cells #[x] T)).alloc (.cells #[y] T')) (((w.alloc (.cells #[x] T)).alloc (.cells #[y] T')).alloc (.cells #[z] T'')) := (Below.refl _ _).alloc (Nat.le_refl _) _
  exact ⟨(h0.below b1 (by omega)).below b2 (by omega), h1.below b2 (by omega), h2⟩
/-- What an append to the row leaves. -/
theorem Rows.push {w w' : World} {base : Nat} {v v' u : Value} {us : List (Value × Ent)} {e : Ent} {o : Obj} (h : Rows w base v us) (hu : Off w base v.ownBlock u e.1)
    (hown : w'.ownsRow base 45 2 v' (us ++ [(u, e)]).length (enCells (us ++ [(u, e)]))) (hg : (w.alloc o).grownBy w' v.ownBlock) (hat : v'.ownBlock = v.ownBlock ∨ v'.ownBlock = some (w.heap.size + 1)) : Rows w' base v' (us ++ [(u, e)]) := by
  have key : ∀ u xs, Off w base v.ownBlock u xs → Off w' base v'.ownBlock u xs := by
    intro u xs ⟨h1, h2⟩
    have ht : Touch (fun b => v.ownBlock = some b) w w' := ((Touch.refl _ w).alloc o).trans (Touch.grown hg fun k e => e)
    refine ⟨h1.touch ht fun b hb' e => (h2 b hb').2 e, fun b hb' => ⟨(h2 b hb').1, ?_⟩⟩
    rcases hat with hat | hat
    · rw [hat]; exact (h2 b hb').2
    · rw [hat]
      intro q
      injection q with q
      have := intsM_block h1 b hb'
      omega
  refine ⟨hown, fun p hp => ?_⟩
  rcases List.mem_append.1 hp with hp | hp
  · exact key _ _ (h.ints p hp)
  · have : p = (u, e) := by simpa using hp
    subst this
    exact key _ _ hu
theorem cell_two (w : World) (x y : Value) (t : TypeId) : ∀ j u, [x, y][j]? = some u → (w.alloc (.cells #[x, y] t)).cell? ((⟨w.heap.size, 0, none⟩ : Addr).add j) = some u := by
  intro j u hj
  match j, hj with
  | 0, hj => simp at hj; subst hj; simp [Addr.add]
  | 1, hj => simp at hj; subst hj; simp [Addr.add]
  | j + 2, hj => simp at hj
/-- A slice's value has one cell. -/
theorem ints_oneV {w : World} {u : Value} {xs : List Int} (h : IntsM w u xs) : u.oneCell' = true := by rcases h with ⟨rfl, _⟩ | ⟨bk, off, cap, rfl, _⟩ <;> rfl
/-- One entry appended, at the operation. -/
theorem wp_ent {o : Oper} {a : Act} {w : World} {K : Act → World → Prop} {Q : Exit → Act → World → Prop}
    (p q : Operand) (ho : o.op = .call { callee := .builtin .append, args := #[p, q], argTypes := #[24, 24] }) (base : Nat) (v : Value) (us : List (Value × Ent)) (hs : a.eval p = v) (R : Rows w base v us)
    (u : Value) (e : Ent) (hu : Off w base v.ownBlock u e.1) (hq : a.eval q = .slice (some ⟨w.heap.size, 0, none⟩) 1 1) (hb : base ≤ w.heap.size) (h1 : us.length ≤ 1048576)
    (h : ∀ v' w', Rows w' base v' (us ++ [(u, e)]) → (w.alloc (.cells #[u, .string e.2] 45)).grownBy w' v.ownBlock → (v'.ownBlock = v.ownBlock ∨ v'.ownBlock = some (w.heap.size + 1)) → K (a.put o.dst v') w') :
    Oper.wp Tryz.prog o a (w.alloc (.cells #[u, .string e.2] 45)) K Q := by
  obtain ⟨i0, hi, hz0, hz1, hz2⟩ := info_parts infoEn
  refine wp_append_lies _ p q 24 ho base 45 i0 (.agg #[.slice none 0 0, .string ByteArray.empty]) 2 40 Tryz.underlying24 hi hz0 hz1 hz2 rfl (by decide) v us.length _ hs (R.row.alloc _) ⟨w.heap.size, 0, none⟩ 1 1 [u, .string e.2] hq rfl (cell_two _ _ _ _) ?_ (by decide) (by unfold maxLen; omega) (by omega) (by simp; omega) (w.heap.size + 1) (by simp) ?_
  · intro y hy; simp at hy; rcases hy with rfl | rfl
    · exact ints_oneV hu.1
    · rfl
  · intro g cap w' hown hg hat _
    have hat' : (Value.slice (some ⟨g, 0, none⟩) (us.length + 1) cap).ownBlock = v.ownBlock ∨ (Value.slice (some ⟨g, 0, none⟩) (us.length + 1) cap).ownBlock = some (w.heap.size + 1) := by
      rcases hat with h2 | h2
      · exact .inl h2.symm
      · exact .inr (by rw [h2]; rfl)
    refine h _ w' (R.push hu ?_ hg hat') hg hat'
    show World.ownsRow _ _ _ _ _ _ _
    rw [enCells_snoc, List.length_append]; exact hown
/-- .. at a step of a region that draws. -/
theorem step_ent {ops : Array Oper} {o : Oper} {a : Act} {w : World} {K : Act → World → Prop} {Q : Exit → Act → World → Prop} {E : Prop} (hgd : o.guard = none)
    (p q : Operand) (ho : o.op = .call { callee := .builtin .append, args := #[p, q], argTypes := #[24, 24] }) (base : Nat) (v : Value) (us : List (Value × Ent)) (hs : a.eval p = v) (R : Rows w base v us)
    (u : Value) (e : Ent) (hu : Off w base v.ownBlock u e.1) (hq : a.eval q = .slice (some ⟨w.heap.size, 0, none⟩) 1 1) (hb : base ≤ w.heap.size) (h1 : us.length ≤ 1048576)
    (h : ∀ v' w', Rows w' base v' (us ++ [(u, e)]) → (w.alloc (.cells #[u, .string e.2] 45)).grownBy w' v.ownBlock → (v'.ownBlock = v.ownBlock ∨ v'.ownBlock = some (w.heap.size + 1)) → K (a.put o.dst v') w') :
    if Region.wanted o (yielded ops a.tmps) = true then Oper.wp Tryz.prog o a (w.alloc (.cells #[u, .string e.2] 45)) K Q else E := by
  have hw : Region.wanted o (yielded ops a.tmps) = true := by simp [Region.wanted, hgd]
  rw [if_pos hw]
  exact wp_ent p q ho base v us hs R u e hu hq hb h1 h
/-- .. at a plain list. -/
theorem push_ent {ops : Array Oper} {rest : List Oper} {o : Oper} {a : Act} {w : World} {Q : Exit → Act → World → Prop} (hgd : o.guard = none)
    (p q : Operand) (ho : o.op = .call { callee := .builtin .append, args := #[p, q], argTypes := #[24, 24] }) (base : Nat) (v : Value) (us : List (Value × Ent)) (hs : a.eval p = v) (R : Rows w base v us)
    (u : Value) (e : Ent) (hu : Off w base v.ownBlock u e.1) (hq : a.eval q = .slice (some ⟨w.heap.size, 0, none⟩) 1 1) (hb : base ≤ w.heap.size) (h1 : us.length ≤ 1048576)
    (h : ∀ v' w', Rows w' base v' (us ++ [(u, e)]) → (w.alloc (.cells #[u, .string e.2] 45)).grownBy w' v.ownBlock → (v'.ownBlock = v.ownBlock ∨ v'.ownBlock = some (w.heap.size + 1)) → wpList Tryz.prog ops Q rest (a.put o.dst v') w') :
    wpList Tryz.prog ops Q (o :: rest) a (w.alloc (.cells #[u, .string e.2] 45)) :=
  wpList_plain hgd fun _ hK => wp_ent p q ho base v us hs R u e hu hq hb h1 fun v' w' a b c => hK _ _ (h v' w' a b c)
end Go.Proofs.YtnpiphkglhcifaaGreat
