/-
  DICTIONARIES AND ENTRIES in the laws: their size, a copy of one, the comparison of two.
-/
import Derived.Test.YtnpiphkglhcifaaGreatEnts
import Derived.Test.YtnpiphkglhcifaaGreatTouch
import Derived.Test.YtnpiphkglhcifaaGreatMark
import Derived.Test.YtnpiphkglhcifaaGreatDictC
import Derived.Test.YtnpiphkglhcifaaGreatRowE
namespace Go.Proofs.YtnpiphkglhcifaaGreat
set_option maxRecDepth 100000
open Go.RowKit

/-- The values U 0, U 1, .. are slices of their own, from block 'base' on and below S, that hold the ints os; no two share a block, and none lies in block g. -/
structure OwnEach (w : World) (base S g : Nat) (U : Nat → Value) (os : List (List Int)) : Prop where
  own : ∀ j xs, os[j]? = some xs → OwnInts w base (U j) xs.length (fun i => xs.getD i 0)
  low : ∀ j xs, os[j]? = some xs → 0 < xs.length → ∀ b, (U j).ownBlock = some b → b < S ∧ b ≠ g
  apart : ∀ i j xs ys, os[i]? = some xs → os[j]? = some ys → i ≠ j → 0 < xs.length → 0 < ys.length → (U i).ownBlock ≠ (U j).ownBlock
theorem OwnEach.touch {T : Nat → Prop} {w w' : World} {base S g : Nat} {U : Nat → Value} {os : List (List Int)} (h : OwnEach w base S g U os) (ht : Touch T w w') (hT : ∀ j xs, os[j]? = some xs → 0 < xs.length → ∀ b, (U j).ownBlock = some b → ¬ T b) : OwnEach w' base S g U os :=
  ⟨fun j xs hj => (h.own j xs hj).touch ht (hT j xs hj), h.low, h.apart⟩
/-- One of them has been written anew. -/
theorem OwnEach.set {T : Nat → Prop} {w w' : World} {base S g : Nat} {U : Nat → Value} {os : List (List Int)} (h : OwnEach w base S g U os) {k : Nat} {xs ys : List Int} (hk : os[k]? = some xs) (hl : ys.length = xs.length)
    (hnew : OwnInts w' base (U k) ys.length (fun i => ys.getD i 0)) (ht : Touch T w w') (hT : ∀ b, T b → b = g ∨ (0 < xs.length ∧ (U k).ownBlock = some b)) : OwnEach w' base S g U (os.set k ys) := by
  have hklt := (List.getElem?_eq_some_iff.1 hk).1
  have hget : ∀ j zs, (os.set k ys)[j]? = some zs → (j = k ∧ zs = ys) ∨ (j ≠ k ∧ os[j]? = some zs) := by
    intro j zs hj
    by_cases e : k = j
    · subst e
      rw [List.getElem?_set_self hklt] at hj
      exact .inl ⟨rfl, (Option.some.inj hj).symm⟩
    · rw [List.getElem?_set_ne e] at hj
      exact .inr ⟨fun q => e q.symm, hj⟩
  refine ⟨fun j zs hj => ?_, fun j zs hj h0 => ?_, fun i j zs ts hi hj hij h0 h1 => ?_⟩
  · rcases hget j zs hj with ⟨rfl, rfl⟩ | ⟨hne, hj⟩
    · exact hnew
    · refine (h.own j zs hj).touch ht fun h0 b hb hTb => ?_
      rcases hT b hTb with rfl | ⟨hx, hb'⟩
      · exact (h.low j zs hj h0 _ hb).2 rfl
      · exact h.apart j k zs xs hj hk hne h0 hx (hb.trans hb'.symm)
  · rcases hget j zs hj with ⟨rfl, rfl⟩ | ⟨hne, hj⟩
    · exact h.low _ xs hk (by omega)
    · exact h.low j zs hj h0
  · rcases hget i zs hi with ⟨ei, ez⟩ | ⟨hne, hi'⟩
    · rcases hget j ts hj with ⟨ej, et⟩ | ⟨hne', hj'⟩
      · exact absurd (ei.trans ej.symm) hij
      · rw [ei]
        rw [ez] at h0
        exact h.apart k j xs ts hk hj' (fun q => hne' q.symm) (by omega) h1
    · rcases hget j ts hj with ⟨ej, et⟩ | ⟨hne', hj'⟩
      · rw [ej]
        rw [et] at h1
        exact h.apart i k zs xs hi' hk hne h0 (by omega)
      · exact h.apart i j zs ts hi' hj' hij h0 h1

/-- v is a slice in block g that holds the entries es; U tells where their outlines lie. -/
structure EntsG (w : World) (base S g : Nat) (U : Nat → Value) (es : List Ent) : Prop where
  low : base ≤ g
  high : g < S
  size : S ≤ w.heap.size
  thaw : ∀ j, w.frozen? ⟨g, j, none⟩ = false
  cell : ∀ j e, es[j]? = some e → w.cell? ⟨g, j * 2, none⟩ = some (U j) ∧ w.cell? ⟨g, j * 2 + 1, none⟩ = some (.string e.2)
  each : OwnEach w base S g U (es.map (·.1))
/-- v is a slice of entries of its own, from block 'base' on and below S. -/
def OwnEs (w : World) (base S : Nat) (v : Value) (es : List Ent) : Prop :=
  (es = [] ∧ ∃ a cap, v = .slice a 0 cap) ∨ ∃ g cap U, v = .slice (some ⟨g, 0, none⟩) es.length cap ∧ es.length ≤ cap ∧ 0 < es.length ∧ EntsG w base S g U es
theorem EntsG.touch {T : Nat → Prop} {w w' : World} {base S g : Nat} {U : Nat → Value} {es : List Ent} (h : EntsG w base S g U es) (ht : Touch T w w') (hT : ∀ b, base ≤ b → b < S → ¬ T b) : EntsG w' base S g U es := by
  have hg : g < w.heap.size := Nat.lt_of_lt_of_le h.high h.size
  have hTg := hT g h.low h.high
  refine ⟨h.low, h.high, Nat.le_trans h.size ht.1, fun j => ((ht.cf j hg hTg).2).trans (h.thaw j), fun j e hj => ?_, h.each.touch ht fun j xs hj h0 b hb => ?_⟩
  · obtain ⟨c0, c1⟩ := h.cell j e hj
    exact ⟨((ht.cf _ hg hTg).1).trans c0, ((ht.cf _ hg hTg).1).trans c1⟩
  · exact hT b ((h.each.own j xs hj).ge h0 hb) (h.each.low j xs hj h0 b hb).1
theorem EntsG.below {w w' : World} {base S g : Nat} {U : Nat → Value} {es : List Ent} (h : EntsG w base S g U es) (hb : Below w.heap.size w w') : EntsG w' base S g U es := h.touch (T := fun _ => False) (Touch.of_below hb) (fun _ _ _ q => q)
theorem EntsG.at {w : World} {base S g : Nat} {U : Nat → Value} {es : List Ent} (h : EntsG w base S g U es) {cap : Nat} (hc : es.length ≤ cap) : EntsAt w (.slice (some ⟨g, 0, none⟩) es.length cap) es := by
  refine ⟨_, cap, rfl, hc, .inr ⟨g, 0, rfl, Nat.lt_of_lt_of_le h.high h.size, fun j e hj => ⟨U j, ?_, ?_, ?_⟩⟩⟩
  · rw [Nat.zero_add]; exact (h.cell j e hj).1
  · rw [Nat.zero_add]; exact (h.cell j e hj).2
  · exact (h.each.own j e.1 (by rw [List.getElem?_map, hj]; rfl)).ints
theorem OwnEs.below {w w' : World} {base S : Nat} {v : Value} {es : List Ent} (h : OwnEs w base S v es) (hb : Below w.heap.size w w') : OwnEs w' base S v es := by
  rcases h with h | ⟨g, cap, U, hv, hc, h0, h⟩
  · exact .inl h
  · exact .inr ⟨g, cap, U, hv, hc, h0, h.below hb⟩
theorem OwnEs.touch {T : Nat → Prop} {w w' : World} {base S : Nat} {v : Value} {es : List Ent} (h : OwnEs w base S v es) (ht : Touch T w w') (hT : ∀ b, base ≤ b → b < S → ¬ T b) : OwnEs w' base S v es := by
  rcases h with h | ⟨g, cap, U, hv, hc, h0, h⟩
  · exact .inl h
  · exact .inr ⟨g, cap, U, hv, hc, h0, h.touch ht hT⟩
theorem OwnEs.at {w : World} {base S : Nat} {v : Value} {es : List Ent} (h : OwnEs w base S v es) : EntsAt w v es := by
  rcases h with ⟨rfl, a, cap, rfl⟩ | ⟨g, cap, U, rfl, hc, h0, h⟩
  · exact EntsAt.nil _ _ _
  · exact h.at hc
/-- Entry k has been written anew. -/
theorem EntsG.set {w w' : World} {base S g : Nat} {U : Nat → Value} {es : List Ent} (h : EntsG w base S g U es) {k : Nat} {e e' : Ent} (hk : es[k]? = some e) (hl : e'.1.length = e.1.length)
    (hnew : OwnInts w' base (U k) e'.1.length (fun i => e'.1.getD i 0)) (ht : Touch (fun b => b = g ∨ (0 < e.1.length ∧ (U k).ownBlock = some b)) w w') (hz : ∀ j, w'.frozen? ⟨g, j, none⟩ = false)
    (hc : ∀ j, j ≠ k * 2 + 1 → w'.cell? ⟨g, j, none⟩ = w.cell? ⟨g, j, none⟩) (hc1 : w'.cell? ⟨g, k * 2 + 1, none⟩ = some (.string e'.2)) : EntsG w' base S g U (es.set k e') := by
  have hklt := (List.getElem?_eq_some_iff.1 hk).1
  refine ⟨h.low, h.high, Nat.le_trans h.size ht.1, hz, fun j x hj => ?_, ?_⟩
  · by_cases ejk : k = j
    · subst ejk
      rw [List.getElem?_set_self hklt] at hj
      injection hj with hj
      subst hj
      exact ⟨(hc _ (by omega)).trans (h.cell k e hk).1, hc1⟩
    · rw [List.getElem?_set_ne ejk] at hj
      obtain ⟨c0, c1⟩ := h.cell j x hj
      exact ⟨(hc _ (by omega)).trans c0, (hc _ (by omega)).trans c1⟩
  · rw [List.map_set]
    exact h.each.set (by rw [List.getElem?_map, hk]; rfl) hl hnew ht fun b hb => hb

/-- What marking from m on leaves of the entries. -/
def mkEnt (m : Nat) (e : Ent) : Ent := ((List.range e.1.length).map fun i => ((m + i : Nat) : Int), markB (m + e.1.length))
def mkE (m : Nat) : List Ent → List Ent
  | [] => []
  | e :: r => mkEnt m e :: mkE (m + e.1.length + 1) r
/-- The number behind the last mark. -/
def endE (m : Nat) : List Ent → Nat
  | [] => m
  | e :: r => endE (m + e.1.length + 1) r
theorem mkEnt_len (m : Nat) (e : Ent) : (mkEnt m e).1.length = e.1.length := by unfold mkEnt; simp
theorem mkE_len (m : Nat) (es : List Ent) : (mkE m es).length = es.length := by
  induction es generalizing m with
  | nil => rfl
  | cons e r ih => unfold mkE; rw [List.length_cons, ih]; rfl
theorem endE_snoc (m : Nat) (l : List Ent) (e : Ent) : endE m (l ++ [e]) = endE m l + e.1.length + 1 := by
  induction l generalizing m with
  | nil => rfl
  | cons x l ih => show endE _ (l ++ [e]) = _; rw [ih]; rfl
theorem mkE_snoc (m : Nat) (l : List Ent) (e : Ent) : mkE m (l ++ [e]) = mkE m l ++ [mkEnt (endE m l) e] := by
  induction l generalizing m with
  | nil => rfl
  | cons x l ih => show _ :: mkE _ (l ++ [e]) = _; rw [ih]; rfl
theorem endE_le (m : Nat) (es : List Ent) (L : Nat) (h : ∀ e ∈ es, e.1.length ≤ L) : endE m es ≤ m + es.length * (L + 1) := by
  induction es generalizing m with
  | nil => exact Nat.le_add_right _ _
  | cons e r ih =>
    have h1 := h e (List.mem_cons_self ..)
    have h2 := ih (m + e.1.length + 1) fun x hx => h x (List.mem_cons_of_mem _ hx)
    show endE (m + e.1.length + 1) r ≤ _
    rw [List.length_cons, Nat.succ_mul]
    omega
/-- Between two rounds of marking: the first k are marked. -/
def midE (m k : Nat) (es : List Ent) : List Ent := mkE m (es.take k) ++ es.drop k
theorem midE_zero (m : Nat) (es : List Ent) : midE m 0 es = es := rfl
theorem midE_all (m : Nat) (es : List Ent) : midE m es.length es = mkE m es := by unfold midE; rw [List.take_length, List.drop_length, List.append_nil]
theorem midE_len (m k : Nat) (es : List Ent) : (midE m k es).length = es.length := by unfold midE; rw [List.length_append, mkE_len, List.length_take, List.length_drop]; omega
theorem midE_at {m k : Nat} {es : List Ent} {e : Ent} (h : es[k]? = some e) : (midE m k es)[k]? = some e := by
  have hk := (List.getElem?_eq_some_iff.1 h).1
  unfold midE
  have hl : (mkE m (es.take k)).length = k := by rw [mkE_len, List.length_take]; omega
  rw [List.getElem?_append_right (by omega), hl, Nat.sub_self, List.getElem?_drop, Nat.add_zero, h]
theorem midE_next {m k : Nat} {es : List Ent} {e : Ent} (h : es[k]? = some e) : midE m (k + 1) es = (midE m k es).set k (mkEnt (endE m (es.take k)) e) := by
  have hk := (List.getElem?_eq_some_iff.1 h).1
  have hl : (mkE m (es.take k)).length = k := by rw [mkE_len, List.length_take]; omega
  unfold midE
  rw [List.take_add_one, h, Option.toList_some, mkE_snoc, List.set_append_right _ _ (by omega), hl, Nat.sub_self, List.append_assoc]
  congr 1
  have e1 : es.drop k = e :: es.drop (k + 1) := by
    rw [List.drop_eq_getElem_cons hk]
    congr 1
    exact (List.getElem?_eq_some_iff.1 h).2
  rw [e1]; rfl
theorem endE_next {m k : Nat} {es : List Ent} {e : Ent} (h : es[k]? = some e) : endE m (es.take (k + 1)) = endE m (es.take k) + e.1.length + 1 := by
  rw [List.take_add_one, h, Option.toList_some, endE_snoc]
end Go.Proofs.YtnpiphkglhcifaaGreat

namespace Go.Proofs.YtnpiphkglhcifaaGreat
set_option maxRecDepth 100000
open Go.RowKit

/-- A block of two cells. -/
def BoxW (w : World) (b : Nat) (T : TypeId) (x y : Value) : Prop := w.heap[b]? = some (.cells #[x, y] T (0, 0))
theorem BoxW.lt {w : World} {b : Nat} {T : TypeId} {x y : Value} (h : BoxW w b T x y) : b < w.heap.size := (Array.getElem?_eq_some_iff.1 h).1
theorem BoxW.cell0 {w : World} {b : Nat} {T : TypeId} {x y : Value} (h : BoxW w b T x y) : w.cell? ⟨b, 0, none⟩ = some x := by unfold World.cell?; simp only [show w.heap[b]? = _ from h]; rfl
theorem BoxW.cell1 {w : World} {b : Nat} {T : TypeId} {x y : Value} (h : BoxW w b T x y) : w.cell? ⟨b, 1, none⟩ = some y := by unfold World.cell?; simp only [show w.heap[b]? = _ from h]; rfl
theorem BoxW.frozen {w : World} {b : Nat} {T : TypeId} {x y : Value} (h : BoxW w b T x y) (i : Nat) : w.frozen? ⟨b, i, none⟩ = false := by unfold World.frozen?; simp [show w.heap[b]? = _ from h]
theorem BoxW.below {w w' : World} {b : Nat} {T : TypeId} {x y : Value} {N : Nat} (h : BoxW w b T x y) (hb : Below N w w') (hN : b < N) : BoxW w' b T x y := (hb.block b hN).trans h
theorem BoxW.set0 {w : World} {b : Nat} {T : TypeId} {x y : Value} (h : BoxW w b T x y) (v' : Value) : BoxW (w.setCell ⟨b, 0, none⟩ v') b T v' y := Go.heap_setCell_same w b 0 _ T v' h
theorem BoxW.set1 {w : World} {b : Nat} {T : TypeId} {x y : Value} (h : BoxW w b T x y) (v' : Value) : BoxW (w.setCell ⟨b, 1, none⟩ v') b T x v' := Go.heap_setCell_same w b 1 _ T v' h
theorem BoxW.other {w : World} {b g o : Nat} {T : TypeId} {x y v : Value} (h : BoxW w b T x y) (hne : g ≠ b) : BoxW (w.setCell ⟨g, o, none⟩ v) b T x y := (Below.heap_setCell _ _ _ _ (fun e => hne e.symm)).trans h
theorem BoxW.new (w : World) (T : TypeId) (x y : Value) : BoxW (w.alloc (.cells #[x, y] T)) w.heap.size T x y := heap_alloc_new w _
theorem below_al2 (w : World) (o o' : Obj) : Below w.heap.size w ((w.alloc o).alloc o') := ((Below.refl _ _).alloc (Nat.le_refl _) _).alloc (by simp) _

/-! ### Sizes -/
/-- What an entry may be that the laws take up. -/
def entIn (e : Ent) : Prop := e.1.length ≤ 1048576 ∧ e.2.size ≤ 1048576
theorem entIn.ok {e : Ent} (h : entIn e) : entOk e := ⟨Nat.le_trans h.1 (by decide), h.2⟩
/-- The weight of entries. -/
def wtE (es : List Ent) : Nat := (es.map fun e => e.1.length + e.2.size).sum
theorem wtE_next {es : List Ent} {k : Nat} {e : Ent} (h : es[k]? = some e) : wtE (es.take (k + 1)) = wtE (es.take k) + (e.1.length + e.2.size) := by
  unfold wtE; rw [List.take_add_one, h, Option.toList_some, List.map_append, List.sum_append]; simp
theorem wtE_ge (es : List Ent) : ∀ e ∈ es, e.1.length + e.2.size ≤ wtE es := by
  intro e he
  unfold wtE
  induction es with
  | nil => simp at he
  | cons x r ih =>
    rw [List.map_cons, List.sum_cons]
    rcases List.mem_cons.1 he with rfl | he
    · omega
    · have := ih he; omega
theorem wtE_in {es : List Ent} (h : wtE es + es.length ≤ 1048576) : es.length ≤ 1048576 ∧ ∀ e ∈ es, entIn e := by
  refine ⟨by omega, fun e he => ?_⟩
  have := wtE_ge es e he
  exact ⟨by omega, by omega⟩
theorem endE_wt (m : Nat) (es : List Ent) : endE m es ≤ m + wtE es + es.length := by
  induction es generalizing m with
  | nil => exact Nat.le_add_right _ _
  | cons e r ih =>
    have h2 := ih (m + e.1.length + 1)
    show endE (m + e.1.length + 1) r ≤ _
    unfold wtE at h2 ⊢
    rw [List.map_cons, List.sum_cons, List.length_cons]
    omega

/-! ### Equal -/

/-! ### Copies -/
theorem OwnEs.mono {w : World} {b b' S : Nat} {v : Value} {es : List Ent} (h : OwnEs w b S v es) (hb : b' ≤ b) : OwnEs w b' S v es := by
  rcases h with h | ⟨g, cap, U, hv, hc, h0, h⟩
  · exact .inl h
  · exact .inr ⟨g, cap, U, hv, hc, h0, Nat.le_trans hb h.low, h.high, h.size, h.thaw, h.cell, fun j xs hj => (h.each.own j xs hj).mono hb, h.each.low, h.each.apart⟩
theorem OwnInts.form {w : World} {base : Nat} {v : Value} {n : Nat} {f : Nat → Int} (h : OwnInts w base v n f) : ∃ a c, v = .slice a n c := by
  rcases h with ⟨rfl, a, cap, rfl⟩ | ⟨g, cap, rfl, _⟩
  · exact ⟨_, _, rfl⟩
  · exact ⟨_, _, rfl⟩
/-- A cell of an older block is set. -/
theorem OwnInts.other {w : World} {base : Nat} {v : Value} {n : Nat} {f : Nat → Int} (h : OwnInts w base v n f) {b o : Nat} {x : Value} (hb : b < base) : OwnInts (w.setCell ⟨b, o, none⟩ x) base v n f := by
  rcases h with h | ⟨g, cap, hv, hn, hg, h0, hlt, hc, hf⟩
  · exact .inl h
  · refine .inr ⟨g, cap, hv, hn, hg, h0, by rw [World.size_setCell]; exact hlt, fun j hj => ?_, fun j => by rw [World.frozen?_setCell]; exact hf j⟩
    rw [World.cell?_setCell_other _ _ _ _ (by intro e; injection e; omega)]; exact hc j hj
end Go.Proofs.YtnpiphkglhcifaaGreat
