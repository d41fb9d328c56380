/-
  OWN ROWS OF PIECES, and one piece appended to such a row.
-/
import Derived.Test.YthigdblloddepaaPc
import Derived.Laws.AppendOwn
import Derived.Maps.AppendAt
namespace Go.Proofs.Ythigdblloddepaa
set_option maxRecDepth 100000
open Go.RowKit

/-- The cells of pieces. -/
def pcCells (ls : List Pc) : List Value := ls.flatMap fun e => [.int .i64 e.1, .int .i64 e.2.1, .string e.2.2]
theorem pcCells_app (ls rs : List Pc) : pcCells (ls ++ rs) = pcCells ls ++ pcCells rs := by unfold pcCells; rw [List.flatMap_append]
theorem pcCells_snoc (ls : List Pc) (e : Pc) : pcCells (ls ++ [e]) = pcCells ls ++ [.int .i64 e.1, .int .i64 e.2.1, .string e.2.2] := by unfold pcCells; rw [List.flatMap_append]; rfl
theorem pcCells_len (ls : List Pc) : (pcCells ls).length = ls.length * 3 := by
  induction ls with
  | nil => rfl
  | cons e ls ih =>
    show ([.int .i64 e.1, .int .i64 e.2.1, .string e.2.2] ++ pcCells ls : List Value).length = _
    rw [List.length_append, ih, List.length_cons]; simp; omega
theorem pcCells_at (ls : List Pc) : ∀ (j : Nat) (e : Pc), ls[j]? = some e → (pcCells ls)[j * 3]? = some (.int .i64 e.1) ∧ (pcCells ls)[j * 3 + 1]? = some (.int .i64 e.2.1) ∧ (pcCells ls)[j * 3 + 2]? = some (.string e.2.2) := by
  induction ls with
  | nil => intro j e h; simp at h
  | cons x ls ih =>
    intro j e h
    have hx : pcCells (x :: ls) = .int .i64 x.1 :: .int .i64 x.2.1 :: .string x.2.2 :: pcCells ls := rfl
    rw [hx]
    cases j with
    | zero => simp at h; subst h; exact ⟨rfl, rfl, rfl⟩
    | succ j =>
      obtain ⟨h0, h1, h2⟩ := ih j e (by simpa using h)
      rw [show (j + 1) * 3 = j * 3 + 1 + 1 + 1 by omega]
      exact ⟨h0, h1, h2⟩
theorem pcCells_one (ls : List Pc) : ∀ v ∈ pcCells ls, v.oneCell' = true := by
  intro v hv
  unfold pcCells at hv
  obtain ⟨e, _, he⟩ := List.mem_flatMap.1 hv
  simp at he
  rcases he with rfl | rfl | rfl <;> rfl
/-- An own row of pieces. -/
abbrev OwnP (w : World) (base : Nat) (v : Value) (ls : List Pc) : Prop := w.ownsRow base 28 3 v ls.length (pcCells ls)
theorem ownP_own {w : World} {base : Nat} {v : Value} {ls : List Pc} (h : OwnP w base v ls) : OwnPcs w base v ls.length (fun j => ls.getD j pc0) := by
  rcases h.2 with ⟨rfl, h0⟩ | ⟨g, cap, cur, rfl, hb, hg, hn, _, hsz, htake⟩
  · exact .inl ⟨h0, none, 0, rfl⟩
  · rcases Nat.eq_zero_or_pos ls.length with h0 | h0
    · exact .inl ⟨h0, _, _, by rw [h0]⟩
    · have hlt : g < w.heap.size := (Array.getElem?_eq_some_iff.1 hg).1
      refine .inr ⟨g, cap, rfl, hn, hb, h0, hlt, fun j hj => ?_, fun j => by simp [World.frozen?, hg]⟩
      have he : ls[j]? = some (ls.getD j pc0) := by rw [List.getElem?_eq_getElem hj]; simp [List.getD, List.getElem?_eq_getElem hj]
      obtain ⟨h0, h1, h2⟩ := pcCells_at ls j _ he
      have hc : ∀ q x, (pcCells ls)[q]? = some x → w.cell? ⟨g, q, none⟩ = some x := by
        intro q x hq
        have hql : q < ls.length * 3 := by
          rcases Nat.lt_or_ge q (ls.length * 3) with h' | h'
          · exact h'
          · rw [List.getElem?_eq_none (by rw [pcCells_len]; exact h')] at hq; cases hq
        rw [← htake, List.getElem?_take_of_lt hql] at hq
        simp only [Array.getElem?_toList] at hq
        simp [World.cell?, hg, hq]
      exact ⟨hc _ _ h0, hc _ _ h1, hc _ _ h2⟩
theorem ownP_at {w : World} {base : Nat} {v : Value} {ls : List Pc} (h : OwnP w base v ls) : PcsAt w v ls :=
  (ownP_own h).at rfl fun j e he => by simp [List.getD, he]
theorem ownP_new (w : World) : OwnP (w.alloc (.cells #[] 28)) w.heap.size (.slice (some ⟨w.heap.size, 0, none⟩) 0 0) [] :=
  ⟨rfl, .inr ⟨w.heap.size, 0, #[], rfl, Nat.le_refl _, by show (w.heap.push _)[w.heap.size]? = _; simp, Nat.le_refl _, by decide, rfl, rfl⟩⟩
theorem ownP_nil (w : World) (base : Nat) : OwnP w base (.slice none 0 0) [] := ⟨rfl, .inl ⟨rfl, rfl⟩⟩
theorem OwnP.below' {w w' : World} {base : Nat} {v : Value} {ls : List Pc} (h : OwnP w base v ls) (hb : Below w.heap.size w w') : OwnP w' base v ls :=
  h.kept (row := none) ⟨hb.os, hb.tape, hb.output, hb.size, fun k hk _ => hb.block k hk⟩ (by cases hv : v.ownBlock <;> simp)
theorem cell_three_new (w : World) (x y z : Value) (t : TypeId) : ∀ j u, [x, y, z][j]? = some u → (w.alloc (.cells #[x, y, z] t)).cell? ((⟨w.heap.size, 0, none⟩ : Addr).add j) = some u := by
  intro j u hj
  match j, hj with
  | 0, hj => simp at hj; subst hj; simp [Addr.add]
  | 1, hj => simp at hj; subst hj; simp [Addr.add]
  | 2, hj => simp at hj; subst hj; simp [Addr.add]
  | j + 3, hj => simp at hj
/-- One piece appended to an own row: 'append(l, p)'. -/
theorem push_pc {ops : Array Oper} {rest : List Oper} {o : Oper} {a : Act} {w : World} {Q : Exit → Act → World → Prop}
    (hgd : o.guard = none) (p q : Operand) (ho : o.op = .call { callee := .builtin .append, args := #[p, q], argTypes := #[40, 40] }) (base : Nat) (v : Value) (ls : List Pc) (hs : a.eval p = v) (hown : OwnP w base v ls)
    (e : Pc) (hq : a.eval q = .slice (some ⟨w.heap.size, 0, none⟩) 1 1) (hb : base ≤ w.heap.size) (h1 : ls.length ≤ 4194304)
    (h : ∀ v' w', OwnP w' base v' (ls ++ [e]) → w.grownBy w' v.ownBlock → (v'.ownBlock = v.ownBlock ∨ v'.ownBlock = some (w.heap.size + 1)) → wpList Try.prog ops Q rest (a.put o.dst v') w') : wpList Try.prog ops Q (o :: rest) a (w.alloc (.cells #[.int .i64 e.1, .int .i64 e.2.1, .string e.2.2] 28)) := by
  obtain ⟨i0, hi, hz0, hz1, hz2⟩ := info_parts infoPc
  refine wpList_append_own_at _ hgd p q 40 ho base 28 i0 (.agg #[.int .i64 0, .int .i64 0, .string ByteArray.empty]) 3 32 Try.underlying40 hi hz0 hz1 hz2 rfl (by decide) v ls.length _ hs (hown.alloc _) ⟨w.heap.size, 0, none⟩ 1 1 [.int .i64 e.1, .int .i64 e.2.1, .string e.2.2] hq rfl (cell_three_new _ _ _ _ _) ?_ (by unfold maxLen; omega) (by omega) (by simp; omega) ?_
  · intro y hy; simp at hy; rcases hy with rfl | rfl | rfl <;> rfl
  · intro v' w' hown' hg _ hat
    refine h v' w' ?_ ⟨hg.os, hg.tape, hg.output, Nat.le_trans (by simp) hg.size, fun k hk hne => (hg.block k (by rw [World.size_alloc]; omega) hne).trans (Below.heap_alloc w _ k hk)⟩ ?_
    · show World.ownsRow _ _ _ _ _ _ _
      rw [pcCells_snoc, List.length_append]; exact hown'
    · rcases hat with h2 | h2
      · exact .inl h2
      · exact .inr (by rw [h2, World.size_alloc])
end Go.Proofs.Ythigdblloddepaa
