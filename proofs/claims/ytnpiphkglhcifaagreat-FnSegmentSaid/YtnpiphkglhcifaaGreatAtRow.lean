/-
  OWN ROWS OF ATOMS, and one atom appended to such a row.
-/
import Derived.Test.YtnpiphkglhcifaaGreatTrans
import Derived.Laws.AppendOwn
import Derived.Maps.AppendAt
namespace Go.Proofs.YtnpiphkglhcifaaGreat
set_option maxRecDepth 100000
open Go.RowKit

theorem infoAt : (Tryz.prog.info? 96).map (fun i => (i.zero, i.size, i.bytes)) = some (some (.agg #[.int .i64 0, .string ByteArray.empty]), 2, 24) := by kernel_rfl
/-- The cells of atoms. -/
def atCells (ls : List (Int × ByteArray)) : List Value := ls.flatMap fun e => [.int .i64 e.1, .string e.2]
theorem atCells_snoc (ls : List (Int × ByteArray)) (e : Int × ByteArray) : atCells (ls ++ [e]) = atCells ls ++ [.int .i64 e.1, .string e.2] := by unfold atCells; rw [List.flatMap_append]; rfl
theorem atCells_len (ls : List (Int × ByteArray)) : (atCells ls).length = ls.length * 2 := by
  induction ls with
  | nil => rfl
  | cons e ls ih =>
    show ([.int .i64 e.1, .string e.2] ++ atCells ls : List Value).length = _
    rw [List.length_append, ih, List.length_cons]; simp; omega
theorem atCells_at (ls : List (Int × ByteArray)) : ∀ (j : Nat) (e : Int × ByteArray), ls[j]? = some e → (atCells ls)[j * 2]? = some (.int .i64 e.1) ∧ (atCells ls)[j * 2 + 1]? = some (.string e.2) := by
  induction ls with
  | nil => intro j e h; simp at h
  | cons x ls ih =>
    intro j e h
    have hx : atCells (x :: ls) = .int .i64 x.1 :: .string x.2 :: atCells ls := rfl
    rw [hx]
    cases j with
    | zero => simp at h; subst h; exact ⟨rfl, rfl⟩
    | succ j =>
      obtain ⟨h0, h1⟩ := ih j e (by simpa using h)
      rw [show (j + 1) * 2 = j * 2 + 1 + 1 by omega]
      exact ⟨h0, h1⟩
/-- An own row of atoms. -/
abbrev OwnT (w : World) (base : Nat) (v : Value) (ls : List (Int × ByteArray)) : Prop := w.ownsRow base 96 2 v ls.length (atCells ls)
theorem ownT_at {w : World} {base : Nat} {v : Value} {ls : List (Int × ByteArray)} (h : OwnT w base v ls) : AtomsAt w v ls := by
  rcases h.2 with ⟨rfl, h0⟩ | ⟨g, cap, cur, rfl, _, hg, hn, _, hsz, htake⟩
  · have : ls = [] := List.length_eq_zero_iff.1 h0
    subst this
    exact AtomsAt.nil _ _ _
  · have hlt : g < w.heap.size := (Array.getElem?_eq_some_iff.1 hg).1
    refine ⟨_, cap, rfl, hn, .inr ⟨g, 0, rfl, hlt, fun j e he => ?_⟩⟩
    have hj : j < ls.length := by
      rcases Nat.lt_or_ge j ls.length with h' | h'
      · exact h'
      · rw [List.getElem?_eq_none h'] at he; cases he
    obtain ⟨h0, h1⟩ := atCells_at ls j e he
    have hc : ∀ q x, (atCells ls)[q]? = some x → w.cell? ⟨g, q, none⟩ = some x := by
      intro q x hq
      have hql : q < ls.length * 2 := by
        rcases Nat.lt_or_ge q (ls.length * 2) with h' | h'
        · exact h'
        · rw [List.getElem?_eq_none (by rw [atCells_len]; exact h')] at hq; cases hq
      rw [← htake, List.getElem?_take_of_lt hql] at hq
      simp only [Array.getElem?_toList] at hq
      simp [World.cell?, hg, hq]
    rw [Nat.zero_add]
    exact ⟨hc _ _ h0, hc _ _ h1⟩
theorem ownT_new (w : World) : OwnT (w.alloc (.cells #[] 96)) w.heap.size (.slice (some ⟨w.heap.size, 0, none⟩) 0 0) [] :=
  ⟨rfl, .inr ⟨w.heap.size, 0, #[], rfl, Nat.le_refl _, by show (w.heap.push _)[w.heap.size]? = _; simp, Nat.le_refl _, by decide, rfl, rfl⟩⟩
theorem cell_two_new (w : World) (x y : Value) (t : TypeId) : ∀ j u, [x, y][j]? = some u → (w.alloc (.cells #[x, y] t)).cell? ((⟨w.heap.size, 0, none⟩ : Addr).add j) = some u := by
  intro j u hj
  match j, hj with
  | 0, hj => simp at hj; subst hj; simp [Addr.add]
  | 1, hj => simp at hj; subst hj; simp [Addr.add]
  | j + 2, hj => simp at hj
/-- One atom appended to an own row: 'append(l, a)'. -/
theorem push_atom {ops : Array Oper} {rest : List Oper} {o : Oper} {a : Act} {w : World} {Q : Exit → Act → World → Prop}
    (hgd : o.guard = none) (p q : Operand) (ho : o.op = .call { callee := .builtin .append, args := #[p, q], argTypes := #[83, 83] }) (base : Nat) (v : Value) (ls : List (Int × ByteArray)) (hs : a.eval p = v) (hown : OwnT w base v ls)
    (k : Int) (t : ByteArray) (hq : a.eval q = .slice (some ⟨w.heap.size, 0, none⟩) 1 1) (hb : base ≤ w.heap.size) (h1 : ls.length ≤ 4194304)
    (h : ∀ v' w', OwnT w' base v' (ls ++ [(k, t)]) → w.grownBy w' v.ownBlock → (v'.ownBlock = v.ownBlock ∨ v'.ownBlock = some (w.heap.size + 1)) → wpList Tryz.prog ops Q rest (a.put o.dst v') w') : wpList Tryz.prog ops Q (o :: rest) a (w.alloc (.cells #[.int .i64 k, .string t] 96)) := by
  obtain ⟨i0, hi, hz0, hz1, hz2⟩ := info_parts infoAt
  refine wpList_append_own_at _ hgd p q 83 ho base 96 i0 (.agg #[.int .i64 0, .string ByteArray.empty]) 2 24 Tryz.underlying83 hi hz0 hz1 hz2 rfl (by decide) v ls.length _ hs (hown.alloc _) ⟨w.heap.size, 0, none⟩ 1 1 [.int .i64 k, .string t] hq rfl (cell_two_new _ _ _ _) ?_ (by unfold maxLen; omega) (by omega) (by simp; omega) ?_
  · intro y hy; simp at hy; rcases hy with rfl | rfl <;> rfl
  · intro v' w' hown' hg _ hat
    refine h v' w' ?_ ⟨hg.os, hg.tape, hg.output, Nat.le_trans (by simp) hg.size, fun k hk hne => (hg.block k (by rw [World.size_alloc]; omega) hne).trans (Below.heap_alloc w _ k hk)⟩ ?_
    · show World.ownsRow _ _ _ _ _ _ _
      rw [atCells_snoc, List.length_append]; exact hown'
    · rcases hat with h2 | h2
      · exact .inl h2
      · exact .inr (by rw [h2, World.size_alloc])
end Go.Proofs.YtnpiphkglhcifaaGreat
