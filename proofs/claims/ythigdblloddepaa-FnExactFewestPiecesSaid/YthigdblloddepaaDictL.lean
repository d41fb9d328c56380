/-
  DICTIONARIES AND ENTRIES in the laws: their size, a copy of one, the comparison of two.
-/
import Derived.Test.YthigdblloddepaaEnts
import Derived.Test.YthigdblloddepaaTouch
import Derived.Test.YthigdblloddepaaMark
import Derived.Test.YthigdblloddepaaDictC
import Derived.Test.YthigdblloddepaaRowE
namespace Go.Proofs.Ythigdblloddepaa
set_option maxRecDepth 100000
open Go.RowKit

/-- The values U 0, U 1, .. are slices of their own, from block 'base' on and below S, that hold the ints os; no two share a block, and none lies in block g. -/
structure OwnEach (w : World) (base S g : Nat) (U : Nat → Value) (os : List (List Int)) : Prop where
  own : ∀ j xs, os[j]? = some xs → OwnInts w base (U j) xs.length (fun i => xs.getD i 0)
  low : ∀ j xs, os[j]? = some xs → 0 < xs.length → ∀ b, (U j).ownBlock = some b → b < S ∧ b ≠ g
  apart : ∀ i j xs ys, os[i]? = some xs → os[j]? = some ys → i ≠ j → 0 < xs.length → 0 < ys.length → (U i).ownBlock ≠ (U j).ownBlock
theorem OwnEach.touch {T : Nat → Prop} {w w' : World} {base S g : Nat} {U : Nat → Value} {os : List (List Int)} (h : OwnEach w base S g U os) (ht : Touch T w w') (hT : ∀ j xs, os[j]? = some xs → 0 < xs.length → ∀ b, (U j).ownBlock = some b → ¬ T b) : OwnEach w' base S g U os :=
  ⟨fun j xs hj => (h.own j xs hj).touch ht (hT j xs hj), h.low, h.apart⟩
/-- One of them has been written anew. -/
theorem OwnEach.set {T : Nat → Prop} {w w' : World} {base S g : Nat} {U : Nat → Value} {os : List (List Int)} (h : OwnEach w base S g U os) {k : Nat} {xs ys : List Int} (hk : os[k]? = some xs) (hl : ys.length = xs.length)
    (hnew : OwnInts w' base (U k) ys.length (fun i => ys.getD i 0)) (ht : Touch T w w') (hT : ∀ b, T b → b = g ∨ (0 < xs.length ∧ (U k).ownBlock = some b)) : OwnEach w' base S g U (os.set k ys) := by
  have hklt := (List.getElem?_eq_some_iff.1 hk).1
  have hget : ∀ j zs, (os.set k ys)[j]? = some zs → (j = k ∧ zs = ys) ∨ (j ≠ k ∧ os[j]? = some zs) := by
    intro j zs hj
    by_cases e : k = j
    · subst e
      rw [List.getElem?_set_self hklt] at hj
      exact .inl ⟨rfl, (Option.some.inj hj).symm⟩
    · rw [List.getElem?_set_ne e] at hj
      exact .inr ⟨fun q => e q.symm, hj⟩
  refine ⟨fun j zs hj => ?_, fun j zs hj h0 => ?_, fun i j zs ts hi hj hij h0 h1 => ?_⟩
  · rcases hget j zs hj with ⟨rfl, rfl⟩ | ⟨hne, hj⟩
    · exact hnew
    · refine (h.own j zs hj).touch ht fun h0 b hb hTb => ?_
      rcases hT b hTb with rfl | ⟨hx, hb'⟩
      · exact (h.low j zs hj h0 _ hb).2 rfl
      · exact h.apart j k zs xs hj hk hne h0 hx (hb.trans hb'.symm)
  · rcases hget j zs hj with ⟨rfl, rfl⟩ | ⟨hne, hj⟩
    · exact h.low _ xs hk (by omega)
    · exact h.low j zs hj h0
  · rcases hget i zs hi with ⟨ei, ez⟩ | ⟨hne, hi'⟩
    · rcases hget j ts hj with ⟨ej, et⟩ | ⟨hne', hj'⟩
      · exact absurd (ei.trans ej.symm) hij
      · rw [ei]
        rw [ez] at h0
        exact h.apart k j xs ts hk hj' (fun q => hne' q.symm) (by omega) h1
    · rcases hget j ts hj with ⟨ej, et⟩ | ⟨hne', hj'⟩
      · rw [ej]
        rw [et] at h1
        exact h.apart i k zs xs hi' hk hne h0 (by omega)
      · exact h.apart i j zs ts hi' hj' hij h0 h1

/-- v is a slice in block g that holds the entries es; U tells where their outlines lie. -/
structure EntsG (w : World) (base S g : Nat) (U : Nat → Value) (es : List Ent) : Prop where
  low : base ≤ g
  high : g < S
  size : S ≤ w.heap.size
  thaw : ∀ j, w.frozen? ⟨g, j, none⟩ = false
  cell : ∀ j e, es[j]? = some e → w.cell? ⟨g, j * 2, none⟩ = some (U j) ∧ w.cell? ⟨g, j * 2 + 1, none⟩ = some (.string e.2)
  each : OwnEach w base S g U (es.map (·.1))
/-- v is a slice of entries of its own, from block 'base' on and below S. -/
def OwnEs (w : World) (base S : Nat) (v : Value) (es : List Ent) : Prop :=
  (es = [] ∧ ∃ a cap, v = .slice a 0 cap) ∨ ∃ g cap U, v = .slice (some ⟨g, 0, none⟩) es.length cap ∧ es.length ≤ cap ∧ 0 < es.length ∧ EntsG w base S g U es
theorem EntsG.touch {T : Nat → Prop} {w w' : World} {base S g : Nat} {U : Nat → Value} {es : List Ent} (h : EntsG w base S g U es) (ht : Touch T w w') (hT : ∀ b, base ≤ b → b < S → ¬ T b) : EntsG w' base S g U es := by
  have hg : g < w.heap.size := Nat.lt_of_lt_of_le h.high h.size
  have hTg := hT g h.low h.high
  refine ⟨h.low, h.high, Nat.le_trans h.size ht.1, fun j => ((ht.cf j hg hTg).2).trans (h.thaw j), fun j e hj => ?_, h.each.touch ht fun j xs hj h0 b hb => ?_⟩
  · obtain ⟨c0, c1⟩ := h.cell j e hj
    exact ⟨((ht.cf _ hg hTg).1).trans c0, ((ht.cf _ hg hTg).1).trans c1⟩
  · exact hT b ((h.each.own j xs hj).ge h0 hb) (h.each.low j xs hj h0 b hb).1
theorem EntsG.below {w w' : World} {base S g : Nat} {U : Nat → Value} {es : List Ent} (h : EntsG w base S g U es) (hb : Below w.heap.size w w') : EntsG w' base S g U es := h.touch (T := fun _ => False) (Touch.of_below hb) (fun _ _ _ q => q)
theorem EntsG.at {w : World} {base S g : Nat} {U : Nat → Value} {es : List Ent} (h : EntsG w base S g U es) {cap : Nat} (hc : es.length ≤ cap) : EntsAt w (.slice (some ⟨g, 0, none⟩) es.length cap) es := by
  refine ⟨_, cap, rfl, hc, .inr ⟨g, 0, rfl, Nat.lt_of_lt_of_le h.high h.size, fun j e hj => ⟨U j, ?_, ?_, ?_⟩⟩⟩
  · rw [Nat.zero_add]; exact (h.cell j e hj).1
  · rw [Nat.zero_add]; exact (h.cell j e hj).2
  · exact (h.each.own j e.1 (by rw [List.getElem?_map, hj]; rfl)).ints
theorem OwnEs.below {w w' : World} {base S : Nat} {v : Value} {es : List Ent} (h : OwnEs w base S v es) (hb : Below w.heap.size w w') : OwnEs w' base S v es := by
  rcases h with h | ⟨g, cap, U, hv, hc, h0, h⟩
  · exact .inl h
  · exact .inr ⟨g, cap, U, hv, hc, h0, h.below hb⟩
theorem OwnEs.touch {T : Nat → Prop} {w w' : World} {base S : Nat} {v : Value} {es : List Ent} (h : OwnEs w base S v es) (ht : Touch T w w') (hT : ∀ b, base ≤ b → b < S → ¬ T b) : OwnEs w' base S v es := by
  rcases h with h | ⟨g, cap, U, hv, hc, h0, h⟩
  · exact .inl h
  · exact .inr ⟨g, cap, U, hv, hc, h0, h.touch ht hT⟩
theorem OwnEs.at {w : World} {base S : Nat} {v : Value} {es : List Ent} (h : OwnEs w base S v es) : EntsAt w v es := by
  rcases h with ⟨rfl, a, cap, rfl⟩ | ⟨g, cap, U, rfl, hc, h0, h⟩
  · exact EntsAt.nil _ _ _
  · exact h.at hc
/-- Entry k has been written anew. -/
theorem EntsG.set {w w' : World} {base S g : Nat} {U : Nat → Value} {es : List Ent} (h : EntsG w base S g U es) {k : Nat} {e e' : Ent} (hk : es[k]? = some e) (hl : e'.1.length = e.1.length)
    (hnew : OwnInts w' base (U k) e'.1.length (fun i => e'.1.getD i 0)) (ht : Touch (fun b => b = g ∨ (0 < e.1.length ∧ (U k).ownBlock = some b)) w w') (hz : ∀ j, w'.frozen? ⟨g, j, none⟩ = false)
    (hc : ∀ j, j ≠ k * 2 + 1 → w'.cell? ⟨g, j, none⟩ = w.cell? ⟨g, j, none⟩) (hc1 : w'.cell? ⟨g, k * 2 + 1, none⟩ = some (.string e'.2)) : EntsG w' base S g U (es.set k e') := by
  have hklt := (List.getElem?_eq_some_iff.1 hk).1
  refine ⟨h.low, h.high, Nat.le_trans h.size ht.1, hz, fun j x hj => ?_, ?_⟩
  · by_cases ejk : k = j
    · subst ejk
      rw [List.getElem?_set_self hklt] at hj
      injection hj with hj
      subst hj
      exact ⟨(hc _ (by omega)).trans (h.cell k e hk).1, hc1⟩
    · rw [List.getElem?_set_ne ejk] at hj
      obtain ⟨c0, c1⟩ := h.cell j x hj
      exact ⟨(hc _ (by omega)).trans c0, (hc _ (by omega)).trans c1⟩
  · rw [List.map_set]
    exact h.each.set (by rw [List.getElem?_map, hk]; rfl) hl hnew ht fun b hb => hb

/-- What marking from m on leaves of the entries. -/
def mkEnt (m : Nat) (e : Ent) : Ent := ((List.range e.1.length).map fun i => ((m + i : Nat) : Int), markB (m + e.1.length))
def mkE (m : Nat) : List Ent → List Ent
  | [] => []
  | e :: r => mkEnt m e :: mkE (m + e.1.length + 1) r
/-- The number behind the last mark. -/
def endE (m : Nat) : List Ent → Nat
  | [] => m
  | e :: r => endE (m + e.1.length + 1) r
theorem mkEnt_len (m : Nat) (e : Ent) : (mkEnt m e).1.length = e.1.length := by unfold mkEnt; simp
theorem mkE_len (m : Nat) (es : List Ent) : (mkE m es).length = es.length := by
  induction es generalizing m with
  | nil => rfl
  | cons e r ih => unfold mkE; rw [List.length_cons, ih]; rfl
theorem endE_snoc (m : Nat) (l : List Ent) (e : Ent) : endE m (l ++ [e]) = endE m l + e.1.length + 1 := by
  induction l generalizing m with
  | nil => rfl
  | cons x l ih => show endE _ (l ++ [e]) = _; rw [ih]; rfl
theorem mkE_snoc (m : Nat) (l : List Ent) (e : Ent) : mkE m (l ++ [e]) = mkE m l ++ [mkEnt (endE m l) e] := by
  induction l generalizing m with
  | nil => rfl
  | cons x l ih => show _ :: mkE _ (l ++ [e]) = _; rw [ih]; rfl
theorem endE_le (m : Nat) (es : List Ent) (L : Nat) (h : ∀ e ∈ es, e.1.length ≤ L) : endE m es ≤ m + es.length * (L + 1) := by
  induction es generalizing m with
  | nil => exact Nat.le_add_right _ _
  | cons e r ih =>
    have h1 := h e (List.mem_cons_self ..)
    have h2 := ih (m + e.1.length + 1) fun x hx => h x (List.mem_cons_of_mem _ hx)
    show endE (m + e.1.length + 1) r ≤ _
    rw [List.length_cons, Nat.succ_mul]
    omega
/-- Between two rounds of marking: the first k are marked. -/
def midE (m k : Nat) (es : List Ent) : List Ent := mkE m (es.take k) ++ es.drop k
theorem midE_zero (m : Nat) (es : List Ent) : midE m 0 es = es := rfl
theorem midE_all (m : Nat) (es : List Ent) : midE m es.length es = mkE m es := by unfold midE; rw [List.take_length, List.drop_length, List.append_nil]
theorem midE_len (m k : Nat) (es : List Ent) : (midE m k es).length = es.length := by unfold midE; rw [List.length_append, mkE_len, List.length_take, List.length_drop]; omega
theorem midE_at {m k : Nat} {es : List Ent} {e : Ent} (h : es[k]? = some e) : (midE m k es)[k]? = some e := by
  have hk := (List.getElem?_eq_some_iff.1 h).1
  unfold midE
  have hl : (mkE m (es.take k)).length = k := by rw [mkE_len, List.length_take]; omega
  rw [List.getElem?_append_right (by omega), hl, Nat.sub_self, List.getElem?_drop, Nat.add_zero, h]
theorem midE_next {m k : Nat} {es : List Ent} {e : Ent} (h : es[k]? = some e) : midE m (k + 1) es = (midE m k es).set k (mkEnt (endE m (es.take k)) e) := by
  have hk := (List.getElem?_eq_some_iff.1 h).1
  have hl : (mkE m (es.take k)).length = k := by rw [mkE_len, List.length_take]; omega
  unfold midE
  rw [List.take_add_one, h, Option.toList_some, mkE_snoc, List.set_append_right _ _ (by omega), hl, Nat.sub_self, List.append_assoc]
  congr 1
  have e1 : es.drop k = e :: es.drop (k + 1) := by
    rw [List.drop_eq_getElem_cons hk]
    congr 1
    exact (List.getElem?_eq_some_iff.1 h).2
  rw [e1]; rfl
theorem endE_next {m k : Nat} {es : List Ent} {e : Ent} (h : es[k]? = some e) : endE m (es.take (k + 1)) = endE m (es.take k) + e.1.length + 1 := by
  rw [List.take_add_one, h, Option.toList_some, endE_snoc]
end Go.Proofs.Ythigdblloddepaa

namespace Go.Proofs.Ythigdblloddepaa
set_option maxRecDepth 100000
open Go.RowKit

/-- A block of two cells. -/
def BoxW (w : World) (b : Nat) (T : TypeId) (x y : Value) : Prop := w.heap[b]? = some (.cells #[x, y] T (0, 0))
theorem BoxW.lt {w : World} {b : Nat} {T : TypeId} {x y : Value} (h : BoxW w b T x y) : b < w.heap.size := (Array.getElem?_eq_some_iff.1 h).1
theorem BoxW.cell0 {w : World} {b : Nat} {T : TypeId} {x y : Value} (h : BoxW w b T x y) : w.cell? ⟨b, 0, none⟩ = some x := by unfold World.cell?; simp only [show w.heap[b]? = _ from h]; rfl
theorem BoxW.cell1 {w : World} {b : Nat} {T : TypeId} {x y : Value} (h : BoxW w b T x y) : w.cell? ⟨b, 1, none⟩ = some y := by unfold World.cell?; simp only [show w.heap[b]? = _ from h]; rfl
theorem BoxW.frozen {w : World} {b : Nat} {T : TypeId} {x y : Value} (h : BoxW w b T x y) (i : Nat) : w.frozen? ⟨b, i, none⟩ = false := by unfold World.frozen?; simp [show w.heap[b]? = _ from h]
theorem BoxW.below {w w' : World} {b : Nat} {T : TypeId} {x y : Value} {N : Nat} (h : BoxW w b T x y) (hb : Below N w w') (hN : b < N) : BoxW w' b T x y := (hb.block b hN).trans h
theorem BoxW.set0 {w : World} {b : Nat} {T : TypeId} {x y : Value} (h : BoxW w b T x y) (v' : Value) : BoxW (w.setCell ⟨b, 0, none⟩ v') b T v' y := Go.heap_setCell_same w b 0 _ T v' h
theorem BoxW.set1 {w : World} {b : Nat} {T : TypeId} {x y : Value} (h : BoxW w b T x y) (v' : Value) : BoxW (w.setCell ⟨b, 1, none⟩ v') b T x v' := Go.heap_setCell_same w b 1 _ T v' h
theorem BoxW.other {w : World} {b g o : Nat} {T : TypeId} {x y v : Value} (h : BoxW w b T x y) (hne : g ≠ b) : BoxW (w.setCell ⟨g, o, none⟩ v) b T x y := (Below.heap_setCell _ _ _ _ (fun e => hne e.symm)).trans h
theorem BoxW.new (w : World) (T : TypeId) (x y : Value) : BoxW (w.alloc (.cells #[x, y] T)) w.heap.size T x y := heap_alloc_new w _
theorem below_al2 (w : World) (o o' : Obj) : Below w.heap.size w ((w.alloc o).alloc o') := ((Below.refl _ _).alloc (Nat.le_refl _) _).alloc (by simp) _

/-! ### Sizes -/
/-- What an entry may be that the laws take up. -/
def entIn (e : Ent) : Prop := e.1.length ≤ 1048576 ∧ e.2.size ≤ 1048576
theorem entIn.ok {e : Ent} (h : entIn e) : entOk e := ⟨Nat.le_trans h.1 (by decide), h.2⟩
theorem szI_any (u : Value) (xs : List Int) (left : Int) (w : World) (h : IntsAt w u xs) (hl : 0 ≤ left) (hl2 : left ≤ 1048576) (hx : xs.length ≤ maxLen) :
    Calls Try.prog 64 #[u, .int .i64 left] w fun r w' => r = .returned (.int .i64 (if left < xs.length then -1 else left - xs.length)) ∧ w = w' := by
  unfold maxLen at hx
  obtain ⟨a, cap, rfl, hcap, _⟩ := h
  obtain ⟨n, hnn⟩ : ∃ n, n = xs.length := ⟨_, rfl⟩
  rw [← hnn] at hx hcap ⊢
  clear hnn
  by_cases h : left < n
  · rw [if_pos h]
    go_enter Try.func64, Try.ntmps64
    go_wp2
    go_ret
    exact ⟨rfl, rfl⟩
  · rw [if_neg h]
    go_enter Try.func64, Try.ntmps64
    go_wp2
    go_ret
    exact ⟨ret_int (by go_num), rfl⟩
/-- The weight of entries. -/
def wtE (es : List Ent) : Nat := (es.map fun e => e.1.length + e.2.size).sum
theorem wtE_next {es : List Ent} {k : Nat} {e : Ent} (h : es[k]? = some e) : wtE (es.take (k + 1)) = wtE (es.take k) + (e.1.length + e.2.size) := by
  unfold wtE; rw [List.take_add_one, h, Option.toList_some, List.map_append, List.sum_append]; simp
theorem wtE_ge (es : List Ent) : ∀ e ∈ es, e.1.length + e.2.size ≤ wtE es := by
  intro e he
  unfold wtE
  induction es with
  | nil => simp at he
  | cons x r ih =>
    rw [List.map_cons, List.sum_cons]
    rcases List.mem_cons.1 he with rfl | he
    · omega
    · have := ih he; omega
theorem wtE_in {es : List Ent} (h : wtE es + es.length ≤ 1048576) : es.length ≤ 1048576 ∧ ∀ e ∈ es, entIn e := by
  refine ⟨by omega, fun e he => ?_⟩
  have := wtE_ge es e he
  exact ⟨by omega, by omega⟩
theorem endE_wt (m : Nat) (es : List Ent) : endE m es ≤ m + wtE es + es.length := by
  induction es generalizing m with
  | nil => exact Nat.le_add_right _ _
  | cons e r ih =>
    have h2 := ih (m + e.1.length + 1)
    show endE (m + e.1.length + 1) r ≤ _
    unfold wtE at h2 ⊢
    rw [List.map_cons, List.sum_cons, List.length_cons]
    omega
theorem szE_any (u : Value) (e : Ent) (left : Int) (w : World) (h : IntsAt w u e.1) (hl : 0 ≤ left) (hl2 : left ≤ 1048576) (hx : entFine e) :
    Calls Try.prog 51 #[enV u e.2, .int .i64 left] w fun r w' => (∃ q : Int, r = .returned (.int .i64 q) ∧ (q = -1 ∨ 0 ≤ q ∧ q + ((e.1.length + e.2.size : Nat) : Int) = left)) ∧ Below w.heap.size w w' := by
  obtain ⟨xs, t⟩ := e
  obtain ⟨hx1, hx2⟩ := hx
  simp only at h hx1 hx2
  have C := Lib.hid (fun w' hb => szI_any u xs left w' (h.below (w' := w') hb) hl hl2 hx1)
  obtain ⟨ua, ucap, rfl, _, _⟩ := h.cells
  unfold maxLen at hx1 hx2
  obtain ⟨n, hnn⟩ : ∃ n, n = xs.length := ⟨_, rfl⟩
  obtain ⟨m, hmm⟩ : ∃ m, m = t.size := ⟨_, rfl⟩
  rw [← hnn] at hx1 C
  rw [← hmm] at hx2
  have HM := Lib.hid hmm
  have HGoal : Hid ((((xs, t) : Ent).1.length + ((xs, t) : Ent).2.size) = n + m) := by show xs.length + t.size = _; rw [hnn, hmm]
  obtain ⟨G, hG⟩ : ∃ G, G = (((xs, t) : Ent).1.length + ((xs, t) : Ent).2.size) := ⟨_, rfl⟩
  rw [← hG] at HGoal ⊢
  simp only at ⊢
  rw [← hnn]
  clear h hnn hmm hG
  unfold enV
  by_cases h1 : left < n
  · have C1 : Hid _ := Lib.hid (fun w' hb => by have := C.out w' hb; rw [if_pos h1] at this; exact this)
    clear C
    go_enter Try.func51, Try.ntmps51
    go_wp2_with fail
    refine (C1.out _ (below_al _ _)).mono ?_
    rintro r w1 ⟨rfl, rfl⟩
    go_wp2
    go_ret
    exact ⟨⟨-1, rfl, .inl rfl⟩, below_al _ _⟩
  · obtain ⟨q, hq⟩ : ∃ q : Int, q = left - n := ⟨_, rfl⟩
    have C1 : Hid _ := Lib.hid (fun w' hb => by have := C.out w' hb; rw [if_neg h1, ← hq] at this; exact this)
    have hq0 : 0 ≤ q := by omega
    have hq1 : q ≤ 1048576 := by omega
    have HQ := Lib.hid hq
    clear C hq
    have hm2 : t.size = m := HM.out.symm
    by_cases h2 : q < m
    · go_enter Try.func51, Try.ntmps51
      go_wp2_with fail
      refine (C1.out _ (below_al _ _)).mono ?_
      rintro r w1 ⟨rfl, rfl⟩
      go_wp2
      go_ret
      exact ⟨⟨-1, rfl, .inl rfl⟩, below_al _ _⟩
    · go_enter Try.func51, Try.ntmps51
      go_wp2_with fail
      refine (C1.out _ (below_al _ _)).mono ?_
      rintro r w1 ⟨rfl, rfl⟩
      go_wp2
      go_ret
      exact ⟨⟨q - m, ret_int (by go_num), .inr ⟨by omega, by rw [HGoal.out]; have h1 := HQ.out; have h3 := HM.out; omega⟩⟩, below_al _ _⟩
set_option maxHeartbeats 1000000 in
theorem szEs_any (v : Value) (es : List Ent) (left : Int) (w : World) (h : EntsAt w v es) (hl : 0 ≤ left) (hl2 : left ≤ 1048576) (hn : es.length ≤ maxLen) (hx : ∀ e ∈ es, entFine e) :
    Calls Try.prog 31 #[v, .int .i64 left] w fun r w' => (∃ q : Int, r = .returned (.int .i64 q) ∧ (q = -1 ∨ 0 ≤ q ∧ q + ((wtE es + es.length : Nat) : Int) = left)) ∧ Below w.heap.size w w' := by
  unfold maxLen at hn
  have HX := Lib.hid (fun k e (h : es[k]? = some e) => hx e (List.mem_of_getElem? h))
  obtain ⟨a, cap, rfl, hcap, hC⟩ := h.cells
  have CZ := Lib.hid (fun u e left w h hl hl2 hx => szE_any u e left w h hl hl2 hx)
  have HF : Hid (wtE (es.take es.length) = wtE es) := by show wtE _ = _; rw [List.take_length]
  obtain ⟨n, hnn⟩ : ∃ n, n = es.length := ⟨_, rfl⟩
  rw [← hnn] at hn hcap HF ⊢
  have HN := Lib.hid hnn
  have HC := Lib.hid hC
  clear h hnn hx hC
  by_cases hbig : left < n
  · go_enter Try.func31, Try.ntmps31
    go_wp2
    go_ret
    exact ⟨⟨-1, rfl, .inl rfl⟩, Below.refl _ _⟩
  · go_enter Try.func31, Try.ntmps31
    go_wp2_with fail
    go_loopw [1, 5] (fun l i wr => ∃ (k : Nat) (r : Int), k ≤ n ∧ i = .int .i64 k ∧ l = .int .i64 r ∧ 0 ≤ r ∧ r ≤ 1048576 ∧ Hid (r + ((wtE (es.take k) + n : Nat) : Int) = left) ∧ Below w.heap.size w wr) (fun _ i _ => n - (intOf i).toNat)
    case atStart => exact ⟨0, left - n, Nat.zero_le _, rfl, by first | rfl | go_num, by omega, by omega, by show (left - (n : Int)) + ((0 + n : Nat) : Int) = left; omega, Below.refl _ _⟩
    case round =>
      obtain ⟨k, r, hk, rfl, rfl, hr0, hr1, HS, hbel⟩ := hrel
      by_cases hlt : k < n
      · obtain ⟨e, he⟩ : ∃ e, es[k]? = some e := ⟨_, List.getElem?_eq_getElem (by rw [← HN.out]; exact hlt)⟩
        obtain ⟨bk, o, u, rfl, hbk, g0, g1, gi⟩ := HC.out wr hbel k e he
        have cz := fun w' hb => CZ.out u e r w' (gi.below (w' := w') hb) hr0 hr1 (HX.out k e he)
        have HS2 : Hid (wtE (es.take (k + 1)) = wtE (es.take k) + (e.1.length + e.2.size)) := wtE_next he
        obtain ⟨G, hG⟩ : ∃ G, G = e.1.length + e.2.size := ⟨_, rfl⟩
        rw [← hG] at cz HS2
        obtain ⟨ua, ucap, rfl, _, _⟩ := gi.cells
        obtain ⟨xs, t⟩ := e
        unfold enV at cz
        simp only at cz g0 g1
        have CZ1 := Lib.hid cz
        clear cz he gi hG
        go_wp2_with fail
        refine (CZ1.out _ (by first | exact Below.refl _ _ | exact below_drewN (Below.refl _ _) 1)).mono ?_
        rintro r' w1 ⟨⟨q, rfl, hq⟩, hb1⟩
        have HB1 := Lib.hid (hbel.trans (hb1.mono hbel.size))
        rcases hq with rfl | ⟨hq0, hq2⟩
        · clear hb1
          go_wp2
          go_ret
          exact ⟨⟨-1, rfl, .inl rfl⟩, HB1.out⟩
        · have HS3 : Hid (q + ((wtE (es.take (k + 1)) + n : Nat) : Int) = left) := by
            have h1 := HS.out
            show q + _ = _
            rw [HS2.out]; omega
          have hq1 : q ≤ 1048576 := by omega
          clear hb1 hq2
          go_wp2
          go_roundw
          case rel => exact ⟨k + 1, q, by omega, by go_num, rfl, hq0, hq1, HS3, HB1.out⟩
          case measure => simp [intOf]; omega
      · obtain rfl : k = n := by omega
        have HS2 : Hid (r + ((wtE es + k : Nat) : Int) = left) := by have := HS.out; rw [HF.out] at this; exact this
        clear HS
        go_wp2
        go_ret
        exact ⟨⟨r, rfl, .inr ⟨hr0, HS2.out⟩⟩, hbel⟩
theorem szDg_any (v : Value) (es : List Ent) (left : Int) (w : World) (h : EntsIn w v es) (hl : 0 ≤ left) (hl2 : left ≤ 1048576) :
    Calls Try.prog 8 #[dV v, .int .i64 left] w fun r w' => (∃ q : Int, r = .returned (.int .i64 q) ∧ (q = -1 ∨ 0 ≤ q ∧ q + ((wtE es + es.length : Nat) : Int) = left)) ∧ Below w.heap.size w w' := by
  obtain ⟨hA, hn, hx⟩ := h
  have C := Lib.hid (fun w' hb => szEs_any v es left w' (hA.below (w' := w') hb) hl hl2 hn hx)
  obtain ⟨a, cap, rfl, _, _⟩ := hA.cells
  clear hA hn hx
  obtain ⟨E, hE⟩ : ∃ E, E = wtE es + es.length := ⟨_, rfl⟩
  rw [← hE] at C ⊢
  clear hE
  unfold dV
  go_enter Try.func8, Try.ntmps8
  go_wp2_with fail
  refine (C.out _ (below_al _ _)).mono ?_
  rintro r w1 ⟨⟨q, rfl, hq⟩, hb⟩
  have HB := Lib.hid (below_box hb)
  clear hb
  rcases hq with rfl | ⟨hq0, hq2⟩
  · go_wp2
    go_ret
    exact ⟨⟨-1, rfl, .inl rfl⟩, HB.out⟩
  · have HQ := Lib.hid hq2
    clear hq2
    go_wp2
    go_ret
    exact ⟨⟨q, rfl, .inr ⟨hq0, HQ.out⟩⟩, HB.out⟩
theorem szDw_any (v : Value) (es : List Ent) (w : World) (h : EntsIn w v es) :
    Calls Try.prog 8 #[dV v, .int .i64 1048576] w fun r w' => (∃ q : Int, r = .returned (.int .i64 q) ∧ (q = -1 ∨ 0 ≤ q ∧ q + ((wtE es + es.length : Nat) : Int) = 1048576)) ∧ Below w.heap.size w w' :=
  szDg_any v es 1048576 w h (by omega) (by omega)
theorem szD_any (v : Value) (es : List Ent) (w : World) (h : EntsIn w v es) :
    Calls Try.prog 8 #[dV v, .int .i64 1048576] w fun r w' => (∃ q : Int, r = .returned (.int .i64 q) ∧ (q = -1 ∨ 0 ≤ q ∧ es.length ≤ 1048576 ∧ ∀ e ∈ es, entIn e)) ∧ Below w.heap.size w w' :=
  (szDw_any v es w h).mono fun r w' ⟨⟨q, hr, hq⟩, hb⟩ => ⟨⟨q, hr, hq.imp id fun ⟨h0, h1⟩ => ⟨h0, wtE_in (by omega)⟩⟩, hb⟩

/-! ### Equal -/
theorem eqE_same (u v : Value) (e : Ent) (w : World) (hu : IntsAt w u e.1) (hv : IntsAt w v e.1) (he : e.1.length ≤ 2097152) :
    Calls Try.prog 58 #[enV u e.2, enV v e.2] w fun r w' => r = .returned (.bool true) ∧ Below w.heap.size w w' := by
  obtain ⟨xs, t⟩ := e
  simp only at hu hv he
  have C := Lib.hid (fun w' hb => eqI_same u v xs w' (hu.below (w' := w') hb) (hv.below hb) he)
  obtain ⟨ua, ucap, rfl, _, _⟩ := hu.cells
  obtain ⟨va, vcap, rfl, _, _⟩ := hv.cells
  clear hu hv
  unfold enV
  have hne : (t.toList == t.toList) = true := by simp
  go_enter Try.func58, Try.ntmps58
  go_wp2_with fail
  refine (C.out _ (below_al2 _ _ _)).mono ?_
  rintro r w1 ⟨rfl, hb1⟩
  obtain ⟨B, hB⟩ : ∃ B, B = w.heap.size := ⟨_, rfl⟩
  have d1 := BoxW.below (b := w.heap.size) ((BoxW.new w 87 (.slice ua xs.length ucap) (.string t)).below (below_al _ (.cells #[.slice va xs.length vcap, .string t] 87)) (by simp)) hb1 (by simp; omega)
  have d2 := (BoxW.new (w.alloc (.cells #[.slice ua xs.length ucap, .string t] 87)) 87 (.slice va xs.length vcap) (.string t)).below hb1 (by simp)
  simp only [World.size_alloc] at d2
  have c1 := d1.cell1
  have c2 := d2.cell1
  have HB := Lib.hid ((below_al2 w _ _).trans (hb1.mono (by simp; omega)))
  clear d1 d2 hb1 hB
  go_wp2
  go_ret
  exact ⟨rfl, HB.out⟩
set_option maxHeartbeats 1000000 in
theorem eqEs_same (v u : Value) (es : List Ent) (w : World) (hv : EntsAt w v es) (hu : EntsAt w u es) (hn : es.length ≤ 2097152) (hx : ∀ e ∈ es, entOk e) :
    Calls Try.prog 39 #[v, u] w fun r w' => r = .returned (.bool true) ∧ Below w.heap.size w w' := by
  have HX := Lib.hid (fun k e (h : es[k]? = some e) => (hx e (List.mem_of_getElem? h)).1)
  obtain ⟨a, cap, rfl, hcap, hC⟩ := hv.cells
  obtain ⟨b, cap', rfl, hcap', hD⟩ := hu.cells
  have CE := Lib.hid (fun u v e w hu hv he => eqE_same u v e w hu hv he)
  obtain ⟨n, hnn⟩ : ∃ n, n = es.length := ⟨_, rfl⟩
  rw [← hnn] at hn hcap hcap' ⊢
  have HN := Lib.hid hnn
  have HC := Lib.hid hC
  have HD := Lib.hid hD
  clear hv hu hnn hC hD hx
  go_enter Try.func39, Try.ntmps39
  go_wp2_with fail
  go_loopw [5] (fun i wr => ∃ k : Nat, k ≤ n ∧ i = .int .i64 k ∧ Hid (Below w.heap.size w wr)) (fun i _ => n - (intOf i).toNat)
  case atStart => exact ⟨0, Nat.zero_le _, rfl, Below.refl _ _⟩
  case round =>
    obtain ⟨k, hk, rfl, HB⟩ := hrel
    by_cases hlt : k < n
    · obtain ⟨e, he⟩ : ∃ e, es[k]? = some e := ⟨_, List.getElem?_eq_getElem (by rw [← HN.out]; exact hlt)⟩
      obtain ⟨bk, o, x, rfl, hbk, g0, g1, gx⟩ := HC.out wr HB.out k e he
      obtain ⟨bk', o', y, rfl, hbk', g0', g1', gy⟩ := HD.out wr HB.out k e he
      have hel := HX.out k e he
      have c := fun w' hb => CE.out x y e w' (gx.below (w' := w') hb) (gy.below hb) hel
      obtain ⟨xs, t⟩ := e
      obtain ⟨xa, xc, rfl, _, _⟩ := gx.cells
      obtain ⟨ya, yc, rfl, _, _⟩ := gy.cells
      unfold enV at c
      simp only at c g0 g1 g0' g1'
      have C := Lib.hid c
      clear c he gx gy HC HD HX
      have C2 : Hid (∀ d os, Calls Try.prog 58 #[.agg #[.slice xa xs.length xc, .string t], .agg #[.slice ya xs.length yc, .string t]] (Go.Sort.grow (redrawn wr d) os) fun r w'' => r = .returned (.bool true) ∧ ∃ p : Regrown, w'' = Go.Sort.grow (redrawn wr p.d) p.os) :=
        fun d os => Calls.regrown_of (C.out _ (below_regrown wr d os))
      have k0 := cell_regrown g0
      have k1 := cell_regrown g1
      have k0' := cell_regrown g0'
      have k1' := cell_regrown g1'
      clear C
      go_wp2_with fail
      refine wp_region_quiet_below (by kernel_rfl) (by kernel_rfl) ?_
      repeat (go_big_quiet_step (exact C2.out _ _))
      refine wpQuiet_nil ?_
      rintro _ ⟨⟨dq, osq⟩, rfl⟩
      have HB1 : Hid (Below wr.heap.size wr (Go.Sort.grow (redrawn wr dq) osq)) := below_regrown wr dq osq
      go_wp2
      go_roundw
      case rel => exact ⟨k + 1, by omega, by go_num, below_step HB.out HB1.out⟩
      case measure => simp [intOf]; omega
    · obtain rfl : k = n := by omega
      go_wp2
      go_ret
      exact ⟨rfl, HB.out⟩
theorem eqD_same (u v : Value) (es : List Ent) (w : World) (hu : EntsAt w u es) (hv : EntsAt w v es) (hn : es.length ≤ 2097152) (hx : ∀ e ∈ es, entOk e) :
    Calls Try.prog 14 #[dV u, dV v] w fun r w' => r = .returned (.bool true) ∧ Below w.heap.size w w' := by
  have C := Lib.hid (fun w' hb => eqEs_same u v es w' (hu.below (w' := w') hb) (hv.below hb) hn hx)
  obtain ⟨ua, ucap, rfl, _, _⟩ := hu.cells
  obtain ⟨va, vcap, rfl, _, _⟩ := hv.cells
  clear hu hv hx
  unfold dV
  go_enter Try.func14, Try.ntmps14
  go_wp2_with fail
  refine (C.out _ (below_al2 _ _ _)).mono ?_
  rintro r w1 ⟨rfl, hb1⟩
  have HB := Lib.hid ((below_al2 w _ _).trans (hb1.mono (by simp; omega)))
  clear hb1
  go_wp2
  go_ret
  exact ⟨rfl, HB.out⟩

/-! ### Copies -/
theorem OwnEs.mono {w : World} {b b' S : Nat} {v : Value} {es : List Ent} (h : OwnEs w b S v es) (hb : b' ≤ b) : OwnEs w b' S v es := by
  rcases h with h | ⟨g, cap, U, hv, hc, h0, h⟩
  · exact .inl h
  · exact .inr ⟨g, cap, U, hv, hc, h0, Nat.le_trans hb h.low, h.high, h.size, h.thaw, h.cell, fun j xs hj => (h.each.own j xs hj).mono hb, h.each.low, h.each.apart⟩
theorem OwnInts.form {w : World} {base : Nat} {v : Value} {n : Nat} {f : Nat → Int} (h : OwnInts w base v n f) : ∃ a c, v = .slice a n c := by
  rcases h with ⟨rfl, a, cap, rfl⟩ | ⟨g, cap, rfl, _⟩
  · exact ⟨_, _, rfl⟩
  · exact ⟨_, _, rfl⟩
/-- A cell of an older block is set. -/
theorem OwnInts.other {w : World} {base : Nat} {v : Value} {n : Nat} {f : Nat → Int} (h : OwnInts w base v n f) {b o : Nat} {x : Value} (hb : b < base) : OwnInts (w.setCell ⟨b, o, none⟩ x) base v n f := by
  rcases h with h | ⟨g, cap, hv, hn, hg, h0, hlt, hc, hf⟩
  · exact .inl h
  · refine .inr ⟨g, cap, hv, hn, hg, h0, by rw [World.size_setCell]; exact hlt, fun j hj => ?_, fun j => by rw [World.frozen?_setCell]; exact hf j⟩
    rw [World.cell?_setCell_other _ _ _ _ (by intro e; injection e; omega)]; exact hc j hj
/-- The copy of an entry: its outline is new memory of its own. -/
theorem toE_any (u : Value) (e : Ent) (w : World) (h : IntsAt w u e.1) (he : entIn e) :
    Calls Try.prog 55 #[enV u e.2] w fun r w' => (∃ x, r = .returned (enV x e.2) ∧ OwnInts w' w.heap.size x e.1.length (fun j => e.1.getD j 0)) ∧ Below w.heap.size w w' := by
  obtain ⟨xs, t⟩ := e
  have hl : xs.length ≤ 1048576 := he.1
  simp only at h ⊢
  have C := Lib.hid (fun w' hb => toI_own u xs w' (h.below (w' := w') hb) hl)
  obtain ⟨ua, ucap, rfl, _, _⟩ := h.cells
  clear h he
  unfold enV
  go_enter Try.func55, Try.ntmps55
  go_wp2_with fail
  refine (C.out _ (below_al3 _ _ _ _)).mono ?_
  rintro r w1 ⟨⟨x, rfl, hx⟩, hb1⟩
  have D0 : Hid (BoxW w1 w.heap.size 85 (.slice ua xs.length ucap) (.string t)) := (((BoxW.new w _ _ _).below (below_al _ _) (by simp)).below (below_al _ _) (by simp; omega)).below hb1 (by simp; omega)
  have D1 : Hid (BoxW w1 (w.heap.size + 1) 87 (.slice none 0 0) (.string ⟨#[]⟩)) := by
    have := BoxW.new (w.alloc (.cells #[.slice ua xs.length ucap, .string t] 85)) 87 (.slice none 0 0) (.string ⟨#[]⟩)
    rw [World.size_alloc] at this
    exact (this.below (below_al _ _) (by simp)).below hb1 (by simp)
  have D2 : Hid (BoxW w1 (w.heap.size + 1 + 1) 87 (.slice none 0 0) (.string ⟨#[]⟩)) := by
    have := BoxW.new ((w.alloc (.cells #[.slice ua xs.length ucap, .string t] 85)).alloc (.cells #[.slice none 0 0, .string ⟨#[]⟩] 87)) 87 (.slice none 0 0) (.string ⟨#[]⟩)
    rw [World.size_alloc, World.size_alloc] at this
    exact this.below hb1 (by simp)
  have hs1 : w.heap.size + 3 ≤ w1.heap.size := by have := hb1.size; simp at this; omega
  have hxo : OwnInts w1 (w.heap.size + 3) x xs.length (fun j => xs.getD j 0) := hx.mono (by simp)
  have HX := Lib.hid hxo
  have HB := Lib.hid ((below_al3 w _ _ _).trans (hb1.mono (by simp; omega)))
  have a1 := D0.out.cell1
  have b0 := D2.out.cell0
  have b1 := D2.out.cell1
  have bf0 := D2.out.frozen 0
  have bf1 := D2.out.frozen 1
  have c0 := D1.out.cell0
  have c1 := D1.out.cell1
  have cf0 := D1.out.frozen 0
  have cf1 := D1.out.frozen 1
  obtain ⟨xa, xc, rfl⟩ := hx.form
  clear hb1 hx hxo C
  go_wp2
  refine bodyPost_ret (results_cell_row rfl _ _ (w.heap.size + 1) _ _ _ _ rfl (((D1.out.other (by omega)).other (by omega)).set0 _ |>.set1 _) Try.underlying87 rfl (by kernel_rfl)) rfl ?_
  refine ⟨⟨_, rfl, ?_⟩, ?_⟩
  · exact ((((HX.out.other (by omega)).other (by omega)).other (by omega)).other (by omega)).mono (by omega)
  · exact ((((HB.out.setCell (by simp; omega) _).setCell (by simp; omega) _).setCell (by simp) _).setCell (by simp) _)
theorem mk_ens (n : Nat) (hn : n ≤ 1048576) (w : World) :
    (Instr.makeSlice 31 (.int .i64 (n : Int)) (.int .i64 (n : Int))).run Try.prog w = .ok (.slice (some ⟨w.heap.size, 0, none⟩) n n) (w.alloc (.cells (madeCells #[.slice none 0 0, .string ByteArray.empty] (n * 2)) 87)) := by
  obtain ⟨i, hi, hzz⟩ := Option.map_eq_some_iff.1 infoEn
  simp only [Prod.mk.injEq] at hzz
  obtain ⟨hz, hs, hb⟩ := hzz
  have hr := run_make (P := Try.prog) w 31 87 i _ Try.underlying31 hi hz .i64 .i64 (n : Int) (n : Int) (by omega) (Int.le_refl _) (by rw [hb]; omega) (by omega)
  rw [Int.toNat_natCast, hs] at hr
  exact hr
/-- The row at block g has n entries, written or not. -/
def RowN (w : World) (g n k : Nat) : Prop := g < w.heap.size ∧ (∀ j, k ≤ j → j < n → w.cell? ⟨g, j * 2, none⟩ = some (.slice none 0 0) ∧ w.cell? ⟨g, j * 2 + 1, none⟩ = some (.string ByteArray.empty)) ∧ ∀ j, w.frozen? ⟨g, j, none⟩ = false
theorem RowN.below {w w' : World} {g n k : Nat} (h : RowN w g n k) (hb : Below w.heap.size w w') : RowN w' g n k := by
  obtain ⟨h0, h1, h2⟩ := h
  refine ⟨Nat.lt_of_lt_of_le h0 hb.size, fun j hk hj => ?_, fun j => (hb.frozen (p := ⟨g, j, none⟩) h0).trans (h2 j)⟩
  obtain ⟨a0, a1⟩ := h1 j hk hj
  exact ⟨(hb.cell (p := ⟨g, j * 2, none⟩) h0).trans a0, (hb.cell (p := ⟨g, j * 2 + 1, none⟩) h0).trans a1⟩
theorem RowN.next {w : World} {g n k : Nat} (h : RowN w g n k) (x y : Value) : RowN ((w.setCell ⟨g, k * 2, none⟩ x).setCell ⟨g, k * 2 + 1, none⟩ y) g n (k + 1) := by
  obtain ⟨h0, h1, h2⟩ := h
  refine ⟨by rw [World.size_setCell, World.size_setCell]; exact h0, fun j hk hj => ?_, fun j => by rw [World.frozen?_setCell, World.frozen?_setCell]; exact h2 j⟩
  obtain ⟨a0, a1⟩ := h1 j (by omega) hj
  refine ⟨?_, ?_⟩
  · rw [World.cell?_setCell_other _ _ _ _ (by intro e; injection e; omega), World.cell?_setCell_other _ _ _ _ (by intro e; injection e; omega)]; exact a0
  · rw [World.cell?_setCell_other _ _ _ _ (by intro e; injection e; omega), World.cell?_setCell_other _ _ _ _ (by intro e; injection e; omega)]; exact a1
theorem made_ens (w : World) (n : Nat) : RowN (w.alloc (.cells (madeCells #[.slice none 0 0, .string ByteArray.empty] (n * 2)) 87)) w.heap.size n 0 := by
  have hc : ∀ j, j < n * 2 → (w.alloc (.cells (madeCells #[.slice none 0 0, .string ByteArray.empty] (n * 2)) 87)).cell? ⟨w.heap.size, j, none⟩ = some ((#[.slice none 0 0, .string ByteArray.empty] : Array Value)[j % 2]!) := by
    intro j hj
    rw [World.cell?_alloc_at _ _ _ _ rfl]
    simp [madeCells, hj]
  refine ⟨by rw [World.size_alloc]; omega, fun j _ hj => ⟨?_, ?_⟩, fun j => World.frozen?_alloc_at _ _ _ _ rfl⟩
  · rw [hc _ (by omega), show j * 2 % 2 = 0 by omega]; rfl
  · rw [hc _ (by omega), show (j * 2 + 1) % 2 = 1 by omega]; rfl
theorem EntsG.start {w : World} {g : Nat} (hg : g < w.heap.size) (hz : ∀ j, w.frozen? ⟨g, j, none⟩ = false) (U : Nat → Value) : EntsG w g w.heap.size g U [] :=
  ⟨Nat.le_refl _, hg, Nat.le_refl _, hz, fun j e h => by simp at h, ⟨fun j xs h => by simp at h, fun j xs h => by simp at h, fun i j xs ys h => by simp at h⟩⟩
/-- One more entry, whose outline is newer than all that was there. -/
theorem EntsG.snoc {w w1 : World} {base g : Nat} {U : Nat → Value} {es : List Ent} {e : Ent} {u : Value} (h : EntsG w base w.heap.size g U es) (hb : Below w.heap.size w w1)
    (hu : OwnInts w1 w.heap.size u e.1.length (fun j => e.1.getD j 0)) {x y : Value} (hx : w1.cell? ⟨g, es.length * 2, none⟩ = some x) (hy : w1.cell? ⟨g, es.length * 2 + 1, none⟩ = some y) :
    EntsG ((w1.setCell ⟨g, es.length * 2, none⟩ u).setCell ⟨g, es.length * 2 + 1, none⟩ (.string e.2)) base ((w1.setCell ⟨g, es.length * 2, none⟩ u).setCell ⟨g, es.length * 2 + 1, none⟩ (.string e.2)).heap.size g (fun j => if j = es.length then u else U j) (es ++ [e]) := by
  have hgs : g < w.heap.size := h.high
  have hsz := hb.size
  have hget : ∀ (j : Nat) (x : Ent), (es ++ [e])[j]? = some x → (j = es.length ∧ x = e) ∨ (j < es.length ∧ es[j]? = some x) := by
    intro j x hj
    rcases Nat.lt_or_ge j es.length with hl | hl
    · rw [List.getElem?_append_left hl] at hj; exact .inr ⟨hl, hj⟩
    · rw [List.getElem?_append_right hl] at hj
      have : j - es.length = 0 := by
        rcases Nat.eq_zero_or_pos (j - es.length) with h0 | h0
        · exact h0
        · rw [List.getElem?_eq_none (by simp; omega)] at hj; cases hj
      rw [this] at hj
      exact .inl ⟨by omega, by simpa using hj.symm⟩
  have hgetm : ∀ (j : Nat) (xs : List Int), ((es ++ [e]).map (·.1))[j]? = some xs → (j = es.length ∧ xs = e.1) ∨ (j < es.length ∧ (es.map (·.1))[j]? = some xs) := by
    intro j xs hj
    rw [List.getElem?_map] at hj
    obtain ⟨x, hx, rfl⟩ := Option.map_eq_some_iff.1 hj
    rcases hget j x hx with ⟨h1, h2⟩ | ⟨h1, h2⟩
    · exact .inl ⟨h1, by rw [h2]⟩
    · exact .inr ⟨h1, by rw [List.getElem?_map, h2]; rfl⟩
  have hold := h.below hb
  refine ⟨h.low, by rw [World.size_setCell, World.size_setCell]; omega, Nat.le_refl _, fun j => by rw [World.frozen?_setCell, World.frozen?_setCell]; exact hold.thaw j, fun j z hj => ?_, ?_⟩
  · rcases hget j z hj with ⟨rfl, rfl⟩ | ⟨hl, hj⟩
    · simp only [if_true]
      refine ⟨?_, ?_⟩
      · rw [World.cell?_setCell_other _ _ _ _ (by intro e; injection e; omega)]; exact World.cell?_setCell_same _ _ _ hx
      · exact World.cell?_setCell_same _ _ _ (show _ = some y from by rw [World.cell?_setCell_other _ _ _ _ (by intro e; injection e; omega)]; exact hy)
    · obtain ⟨c0, c1⟩ := hold.cell j z hj
      rw [if_neg (by omega)]
      refine ⟨?_, ?_⟩
      · rw [World.cell?_setCell_other _ _ _ _ (by intro e; injection e; omega), World.cell?_setCell_other _ _ _ _ (by intro e; injection e; omega)]; exact c0
      · rw [World.cell?_setCell_other _ _ _ _ (by intro e; injection e; omega), World.cell?_setCell_other _ _ _ _ (by intro e; injection e; omega)]; exact c1
  · have ht : Touch (fun b => b = g) w1 ((w1.setCell ⟨g, es.length * 2, none⟩ u).setCell ⟨g, es.length * 2 + 1, none⟩ (.string e.2)) := ((Touch.refl (fun b => b = g) _).setCell rfl _ _).setCell rfl _ _
    have hnew : ∀ b, 0 < e.1.length → u.ownBlock = some b → w.heap.size ≤ b ∧ b < w1.heap.size := fun b h0 hb' => ⟨hu.ge h0 hb', hu.lt h0 b hb'⟩
    refine ⟨fun j xs hj => ?_, fun j xs hj h0 b hb' => ?_, fun i j xs ys hi hj hij h0 h1 => ?_⟩
    · rcases hgetm j xs hj with ⟨rfl, rfl⟩ | ⟨hl, hj⟩
      · simp only [if_true]
        refine (hu.touch ht fun h0 b hb' e' => ?_).mono (Nat.le_trans h.low (Nat.le_of_lt hgs))
        have := hnew b h0 hb'
        omega
      · simp only [if_neg (show ¬ j = es.length by omega)]
        exact (hold.each.own j xs hj).touch ht fun h0 b hb' e' => (hold.each.low j xs hj h0 b hb').2 e'
    · rw [World.size_setCell, World.size_setCell]
      rcases hgetm j xs hj with ⟨rfl, rfl⟩ | ⟨hl, hj⟩
      · simp only [if_true] at hb'
        have := hnew b h0 hb'
        omega
      · simp only [if_neg (show ¬ j = es.length by omega)] at hb'
        have := hold.each.low j xs hj h0 b hb'
        omega
    · rcases hgetm i xs hi with ⟨rfl, rfl⟩ | ⟨hl, hi⟩
      · rcases hgetm j ys hj with ⟨rfl, rfl⟩ | ⟨hl', hj⟩
        · exact absurd rfl hij
        · simp only [if_true, if_neg (show ¬ j = es.length by omega)]
          intro q
          cases hu' : u.ownBlock with
          | none =>
            rcases hu with ⟨hz, _⟩ | ⟨g', cap, rfl, _⟩
            · omega
            · simp [Value.ownBlock] at hu'
          | some b =>
            have h2 := hnew b h0 hu'
            have h3 := (hold.each.low j ys hj h1 b (by rw [← q, hu'])).1
            omega
      · rcases hgetm j ys hj with ⟨rfl, rfl⟩ | ⟨hl', hj⟩
        · simp only [if_true, if_neg (show ¬ i = es.length by omega)]
          intro q
          cases hu' : u.ownBlock with
          | none =>
            rcases hu with ⟨hz, _⟩ | ⟨g', cap, rfl, _⟩
            · omega
            · simp [Value.ownBlock] at hu'
          | some b =>
            have h2 := hnew b h1 hu'
            have h3 := (hold.each.low i xs hi h0 b (by rw [q, hu'])).1
            omega
        · simp only [if_neg (show ¬ j = es.length by omega), if_neg (show ¬ i = es.length by omega)]
          exact hold.each.apart i j xs ys hi hj hij h0 h1
set_option maxHeartbeats 1000000 in
/-- The copy of a slice of entries: new memory of its own. -/
theorem toEs_any (v : Value) (es : List Ent) (w : World) (h : EntsAt w v es) (hn : es.length ≤ 1048576) (hx : ∀ e ∈ es, entIn e) :
    Calls Try.prog 36 #[v] w fun r w' => (∃ u, r = .returned u ∧ OwnEs w' w.heap.size w'.heap.size u es) ∧ Below w.heap.size w w' := by
  have HX := Lib.hid (fun k e (h : es[k]? = some e) => hx e (List.mem_of_getElem? h))
  obtain ⟨a, cap, rfl, hcap, hC⟩ := h.cells
  have CT := Lib.hid (fun u e w h he => toE_any u e w h he)
  obtain ⟨n, hnn⟩ : ∃ n, n = es.length := ⟨_, rfl⟩
  rw [← hnn] at hn hcap ⊢
  have HN := Lib.hid hnn
  have HC := Lib.hid hC
  clear h hnn hC hx
  have hmk := fun w => mk_ens n hn w
  go_enter Try.func36, Try.ntmps36
  go_wp2_with fail
  clear hmk
  have hrow0 := made_ens w n
  have hst := EntsG.start (w := w.alloc (.cells (madeCells #[.slice none 0 0, .string ByteArray.empty] (n * 2)) 87)) (g := w.heap.size) hrow0.1 hrow0.2.2 (fun _ => .slice none 0 0)
  have hbel0 : Below w.heap.size w (w.alloc (.cells (madeCells #[.slice none 0 0, .string ByteArray.empty] (n * 2)) 87)) := (Below.refl _ _).alloc (Nat.le_refl _) _
  obtain ⟨B, hB⟩ : ∃ B, B = w.heap.size := ⟨_, rfl⟩
  rw [← hB] at hrow0 hst ⊢
  have HBB := Lib.hid hB
  clear hB
  go_loopw [4] (fun i wr => ∃ k : Nat, k ≤ n ∧ i = .int .i64 k ∧ Hid (∃ U, EntsG wr B wr.heap.size B U (es.take k)) ∧ Hid (RowN wr B n k) ∧ Hid (Below w.heap.size w wr)) (fun i _ => n - (intOf i).toNat)
  case atStart => exact ⟨0, Nat.zero_le _, rfl, ⟨_, hst⟩, hrow0, hbel0⟩
  case round =>
    obtain ⟨k, hk, rfl, HG, HR, HB⟩ := hrel
    by_cases hlt : k < n
    · obtain ⟨e, he⟩ : ∃ e, es[k]? = some e := ⟨_, List.getElem?_eq_getElem (by rw [← HN.out]; exact hlt)⟩
      obtain ⟨bk, o, x, rfl, hbk, g0, g1, gx⟩ := HC.out wr HB.out k e he
      have hxe := HX.out k e he
      have c := fun w' hb => CT.out x e w' (gx.below (w' := w') hb) hxe
      have HE := Lib.hid he
      obtain ⟨xs, t⟩ := e
      obtain ⟨xa, xc, rfl, _, _⟩ := gx.cells
      unfold enV at c
      simp only at c g0 g1
      have C := Lib.hid c
      clear c he gx HC HX hxe
      go_wp2_with fail
      refine (C.out wr (Below.refl _ _)).mono ?_
      rintro r w1 ⟨⟨u, rfl, hu⟩, hb1⟩
      have HR1 := Lib.hid (HR.out.below hb1)
      obtain ⟨r0, r1⟩ := HR1.out.2.1 k (Nat.le_refl _) hlt
      have f0 := HR1.out.2.2 (k * 2)
      have f1 := HR1.out.2.2 (k * 2 + 1)
      have hlk : (es.take k).length = k := by rw [List.length_take, ← HN.out]; omega
      have HG2 : Hid (∃ U, EntsG ((w1.setCell ⟨B, k * 2, none⟩ u).setCell ⟨B, k * 2 + 1, none⟩ (.string t)) B ((w1.setCell ⟨B, k * 2, none⟩ u).setCell ⟨B, k * 2 + 1, none⟩ (.string t)).heap.size B U (es.take (k + 1))) := by
        obtain ⟨U, hU⟩ := HG.out
        have h2 := EntsG.snoc (e := (xs, t)) (u := u) hU hb1 hu (x := .slice none 0 0) (y := .string ByteArray.empty) (by rw [hlk]; exact r0) (by rw [hlk]; exact r1)
        rw [hlk] at h2
        refine ⟨fun j => if j = k then u else U j, ?_⟩
        rw [List.take_add_one, HE.out, Option.toList_some]
        exact h2
      have HR2 := Lib.hid (HR1.out.next u (.string t))
      have HB2 : Hid (Below w.heap.size w ((w1.setCell ⟨B, k * 2, none⟩ u).setCell ⟨B, k * 2 + 1, none⟩ (.string t))) :=
        ((HB.out.trans (hb1.mono HB.out.size)).setCell (p := ⟨B, k * 2, none⟩) (by rw [HBB.out]; exact Nat.le_refl _) _).setCell (p := ⟨B, k * 2 + 1, none⟩) (by rw [HBB.out]; exact Nat.le_refl _) _
      obtain ⟨ua, uc, rfl⟩ := hu.form
      clear hb1 hu HR HR1 HG HB HE hlk
      go_wp2
      go_roundw
      case rel => exact ⟨k + 1, by omega, by go_num, HG2, HR2, HB2⟩
      case measure => simp [intOf]; omega
    · obtain rfl : k = n := by omega
      have HS : Hid (OwnEs wr w.heap.size wr.heap.size (.slice (some ⟨B, 0, none⟩) k k) es) := by
        obtain ⟨U, hU⟩ := HG.out
        have ht : es.take k = es := List.take_of_length_le (by rw [← HN.out]; exact Nat.le_refl _)
        rw [ht] at hU
        rcases Nat.eq_zero_or_pos k with h0 | h0
        · exact .inl ⟨List.length_eq_zero_iff.1 (by rw [← HN.out]; exact h0), _, _, by rw [h0]⟩
        · refine .inr ⟨B, k, U, by rw [← HN.out], by rw [← HN.out]; exact Nat.le_refl _, by rw [← HN.out]; exact h0, ?_⟩
          rw [← HBB.out]; exact hU
      clear HG HR
      go_wp2
      go_ret
      exact ⟨⟨_, rfl, HS.out⟩, HB.out⟩
theorem toD_any (v : Value) (es : List Ent) (w : World) (h : EntsAt w v es) (hn : es.length ≤ 1048576) (hx : ∀ e ∈ es, entIn e) :
    Calls Try.prog 10 #[dV v] w fun r w' => (∃ u, r = .returned (dV u) ∧ OwnEs w' w.heap.size w'.heap.size u es) ∧ Below w.heap.size w w' := by
  have C := Lib.hid (fun w' hb => toEs_any v es w' (h.below (w' := w') hb) hn hx)
  obtain ⟨a, cap, rfl, _, _⟩ := h.cells
  clear h hx
  unfold dV
  go_enter Try.func10, Try.ntmps10
  go_wp2_with fail
  refine (C.out _ (below_al3 _ _ _ _)).mono ?_
  rintro r w1 ⟨⟨x, rfl, hx⟩, hb1⟩
  obtain ⟨q0, q1, q2⟩ := boxes3 w (.slice a es.length cap) (.slice none 0 0) (.slice none 0 0) 24 33 33
  have D1 : Hid (BoxV w1 (w.heap.size + 1) 33 (.slice none 0 0)) := q1.below hb1 (by simp)
  have D2 : Hid (BoxV w1 (w.heap.size + 1 + 1) 33 (.slice none 0 0)) := q2.below hb1 (by simp)
  have hs1 : w.heap.size + 3 ≤ w1.heap.size := by have := hb1.size; simp at this; omega
  have hxo : OwnEs w1 (w.heap.size + 3) w1.heap.size x es := by simpa using hx
  have HX := Lib.hid hxo
  have HB := Lib.hid ((below_al3 w _ _ _).trans (hb1.mono (by simp; omega)))
  have b0 := D2.out.cell
  have bf0 := D2.out.frozen
  have c0 := D1.out.cell
  have cf0 := D1.out.frozen
  obtain ⟨xa, xc, rfl, _, _⟩ := hxo.at.cells
  clear hb1 hx hxo C q0 q1 q2
  go_wp2
  refine bodyPost_ret (results_cell_row rfl _ _ (w.heap.size + 1) _ _ _ _ rfl ((D1.out.other (by omega)).set _) Try.underlying33 rfl (by kernel_rfl)) rfl ?_
  refine ⟨⟨_, rfl, ?_⟩, ?_⟩
  · rw [World.size_setCell, World.size_setCell]
    exact OwnEs.mono ((HX.out.touch (T := fun b => b < w.heap.size + 3) ((Touch.refl _ _).setCell (by show _ < _; omega) _ _) (fun b h1 _ h2 => by omega)).touch (T := fun b => b < w.heap.size + 3) ((Touch.refl _ _).setCell (by show _ < _; omega) _ _) (fun b h1 _ h2 => by omega)) (by omega)
  · exact (HB.out.setCell (by simp; omega) _).setCell (by simp) _
end Go.Proofs.Ythigdblloddepaa
