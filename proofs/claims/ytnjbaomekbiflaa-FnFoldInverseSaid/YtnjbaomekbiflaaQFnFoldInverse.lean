/-
  laws.FnFoldInverse returns true whatever the code: unfolding an outline into which a fold was added restores it, at all that the code draws. Conditions: none but the row's own.
-/
import Derived.Test.YtnjbaomekbiflaaFd
import Derived.Test.YtnjbaomekbiflaaDrawR
import Derived.Test.YtnjbaomekbiflaaBig
import Derived.Test.YtnjbaomekbiflaaUnfI
import Derived.Laws.AppendOwn
import Derived.Test.YtnjbaomekbiflaaOut
import Derived.Test.YtnjbaomekbiflaaDraw
import Derived.Test.YtnjbaomekbiflaaRows
import Derived.WalkKit
import Derived.ProofKit
import Derived.OpenShut
import Derived.ShutString
import Derived.ChangeOld
import Derived.Below
import Derived.SliceStrings
import Derived.JoinedCond
import Derived.Deep.DeepHandedRow
import Derived.Deep.DeepWitnessRowRef
import Derived.Lib.Hide
namespace Go.Proofs.Ytnjbaomekbiflaa
set_option maxRecDepth 100000
open Go.RowKit

def dfCells : Array Value := #[.int .i64 18, .string ⟨#[105, 110, 103]⟩, .int .i64 21, .string ⟨#[101, 100]⟩, .int .i64 20, .string ⟨#[115]⟩, .int .i64 22, .string ⟨#[115]⟩]
theorem specDefaultFolds_at (w : World) :
    Calls Try.prog 9 #[] w fun e w' => e = .returned (.slice (some ⟨w.heap.size, 0, none⟩) 4 4) ∧ w' = w.alloc (.cells dfCells 39) := by
  unfold dfCells
  go_enter Try.func9, Try.ntmps9
  go_wp2
  go_ret
  exact ⟨rfl, rfl⟩
/-- Folds that lie in a block of the call's own. -/
def AtF (w : World) (base : Nat) (v : Value) (ls : List Atm) : Prop :=
  ∃ g o cap, v = .slice (some ⟨g, o, none⟩) ls.length cap ∧ ls.length ≤ cap ∧ base ≤ g ∧ g < w.heap.size ∧ (∀ j, w.frozen? ⟨g, j, none⟩ = false) ∧ ∀ j e, ls[j]? = some e → w.cell? ⟨g, o + j * 2, none⟩ = some (.int .i64 e.1) ∧ w.cell? ⟨g, o + j * 2 + 1, none⟩ = some (.string e.2)
theorem AtF.at {w : World} {base : Nat} {v : Value} {ls : List Atm} (h : AtF w base v ls) : AtomsAt w v ls := by
  obtain ⟨g, o, cap, rfl, hc, _, hg, _, hcell⟩ := h
  exact ⟨_, cap, rfl, hc, .inr ⟨g, o, rfl, hg, hcell⟩⟩
theorem AtF.keep {w w' : World} {base B : Nat} {v : Value} {ls : List Atm} (h : AtF w base v ls) (hg : w.grownBy w' (some B)) (hB : B < base) : AtF w' base v ls := by
  obtain ⟨g, o, cap, hv, hc, hb, hl, hf, hcell⟩ := h
  have hk := hg.block g hl (by simp; omega)
  exact ⟨g, o, cap, hv, hc, hb, Nat.lt_of_lt_of_le hl hg.size, fun j => (World.frozen?_of_block hk).trans (hf j), fun j e he => ⟨(World.cell?_of_block hk).trans (hcell j e he).1, (World.cell?_of_block hk).trans (hcell j e he).2⟩⟩
theorem AtF.set {w : World} {base : Nat} {v : Value} {ls : List Atm} {g o cap j : Nat} {e : Atm} (hv : v = .slice (some ⟨g, o, none⟩) ls.length cap) (hc : ls.length ≤ cap) (hb : base ≤ g) (hl : g < w.heap.size) (hf : ∀ j, w.frozen? ⟨g, j, none⟩ = false)
    (hcell : ∀ j e, ls[j]? = some e → w.cell? ⟨g, o + j * 2, none⟩ = some (.int .i64 e.1) ∧ w.cell? ⟨g, o + j * 2 + 1, none⟩ = some (.string e.2)) (hj : ls[j]? = some e) (z : Int) (t : ByteArray) :
    AtF (w.setCell ⟨g, o + j * 2, none⟩ (.int .i64 z)) base v (ls.set j (z, e.2)) ∧ AtF (w.setCell ⟨g, o + j * 2 + 1, none⟩ (.string t)) base v (ls.set j (e.1, t)) := by
  obtain ⟨c0, c1⟩ := hcell j e hj
  have hjl := (List.getElem?_eq_some_iff.1 hj).1
  have hget : ∀ (x : Atm) (i : Nat) y, (ls.set j x)[i]? = some y → (i = j ∧ y = x) ∨ (i ≠ j ∧ ls[i]? = some y) := by
    intro x i y hy
    by_cases hij : j = i
    · subst hij
      rw [List.getElem?_set_self hjl] at hy
      exact .inl ⟨rfl, (Option.some.inj hy).symm⟩
    · rw [List.getElem?_set_ne hij] at hy
      exact .inr ⟨fun e => hij e.symm, hy⟩
  refine ⟨⟨g, o, cap, by rw [List.length_set]; exact hv, by rw [List.length_set]; exact hc, hb, by rw [World.size_setCell]; exact hl, fun i => by rw [World.frozen?_setCell]; exact hf i, fun i y hy => ?_⟩, ⟨g, o, cap, by rw [List.length_set]; exact hv, by rw [List.length_set]; exact hc, hb, by rw [World.size_setCell]; exact hl, fun i => by rw [World.frozen?_setCell]; exact hf i, fun i y hy => ?_⟩⟩
  · rcases hget _ i y hy with ⟨rfl, rfl⟩ | ⟨hne, hy⟩
    · exact ⟨World.cell?_setCell_same _ _ _ c0, by rw [World.cell?_setCell_other _ _ _ _ (by intro e; injection e; omega)]; exact c1⟩
    · obtain ⟨d0, d1⟩ := hcell i y hy
      exact ⟨by rw [World.cell?_setCell_other _ _ _ _ (by intro e; injection e; omega)]; exact d0, by rw [World.cell?_setCell_other _ _ _ _ (by intro e; injection e; omega)]; exact d1⟩
  · rcases hget _ i y hy with ⟨rfl, rfl⟩ | ⟨hne, hy⟩
    · exact ⟨by rw [World.cell?_setCell_other _ _ _ _ (by intro e; injection e; omega)]; exact c0, World.cell?_setCell_same _ _ _ c1⟩
    · obtain ⟨d0, d1⟩ := hcell i y hy
      exact ⟨by rw [World.cell?_setCell_other _ _ _ _ (by intro e; injection e; omega)]; exact d0, by rw [World.cell?_setCell_other _ _ _ _ (by intro e; injection e; omega)]; exact d1⟩
abbrev OwnF (w : World) (base : Nat) (v : Value) (ls : List Atm) : Prop := w.ownsRow base 39 2 v ls.length (atCells ls)
theorem OwnF.f {w : World} {base : Nat} {v : Value} {ls : List Atm} (h : OwnF w base v ls) (h1 : 1 ≤ ls.length) : AtF w base v ls := by
  rcases h.2 with ⟨rfl, h0⟩ | ⟨g, cap, cur, rfl, hb, hg, hn, _, hsz, htake⟩
  · omega
  · have hlt : g < w.heap.size := (Array.getElem?_eq_some_iff.1 hg).1
    refine ⟨g, 0, cap, rfl, hn, hb, hlt, fun j => by unfold World.frozen?; simp [hg], fun j e he => ?_⟩
    have hj := (List.getElem?_eq_some_iff.1 he).1
    obtain ⟨h0, h1⟩ := atCells_at ls j e he
    have hc : ∀ q x, (atCells ls)[q]? = some x → w.cell? ⟨g, q, none⟩ = some x := by
      intro q x hq
      have hql : q < ls.length * 2 := by
        rcases Nat.lt_or_ge q (ls.length * 2) with h' | h'
        · exact h'
        · rw [List.getElem?_eq_none (by rw [atCells_len]; exact h')] at hq; cases hq
      rw [← htake, List.getElem?_take_of_lt hql] at hq
      simp only [Array.getElem?_toList] at hq
      simp [World.cell?, hg, hq]
    rw [Nat.zero_add]
    exact ⟨hc _ _ h0, hc _ _ h1⟩
/-- Either an own row, or the end of one, without room behind it. -/
def StF (w : World) (base : Nat) (v : Value) (ls : List Atm) : Prop := OwnF w base v ls ∨ (AtF w base v ls ∧ ∃ a, v = .slice a ls.length ls.length)
theorem StF.f {w : World} {base : Nat} {v : Value} {ls : List Atm} (h : StF w base v ls) (h1 : 1 ≤ ls.length) : AtF w base v ls := by
  rcases h with h | h
  · exact OwnF.f h h1
  · exact h.1
theorem StF.keep {w w' : World} {base B : Nat} {v : Value} {ls : List Atm} (h : StF w base v ls) (hg : w.grownBy w' (some B)) (hB : B < base) : StF w' base v ls := by
  rcases h with h | ⟨h, h2⟩
  · exact .inl (World.ownsRow.kept h hg (.inr (fun e => by have := row_ge h e; omega)))
  · exact .inr ⟨h.keep hg hB, h2⟩
theorem dFs_sub (w : World) (r : Nat) (_hr : r < 4) : StF (w.alloc (.cells dfCells 39)) w.heap.size (.slice (some ⟨w.heap.size, r * 2, none⟩) (4 - r) (4 - r)) (dFs.drop r) := by
  have hlen : (dFs.drop r).length = 4 - r := by rw [List.length_drop]; rfl
  refine .inr ⟨⟨w.heap.size, r * 2, 4 - r, by rw [hlen], by rw [hlen]; exact Nat.le_refl _, Nat.le_refl _, by rw [World.size_alloc]; omega, fun j => World.frozen?_alloc_at _ _ _ _ rfl, fun j e he => ?_⟩, _, by rw [hlen]⟩
  rw [List.getElem?_drop] at he
  have hc : ∀ i x, dfCells[i]? = some x → (w.alloc (.cells dfCells 39)).cell? ⟨w.heap.size, i, none⟩ = some x := fun i x hi => by rw [World.cell?_alloc_at _ _ _ _ rfl]; exact hi
  rw [show r * 2 + j * 2 = (r + j) * 2 by omega]
  have h4 : r + j < 4 := by
    have := (List.getElem?_eq_some_iff.1 he).1
    exact this
  obtain ⟨i, hi⟩ : ∃ i, i = r + j := ⟨_, rfl⟩
  rw [← hi] at he h4 ⊢
  match i, h4 with
  | 0, _ => cases he; exact ⟨hc _ _ rfl, hc _ _ rfl⟩
  | 1, _ => cases he; exact ⟨hc _ _ rfl, hc _ _ rfl⟩
  | 2, _ => cases he; exact ⟨hc _ _ rfl, hc _ _ rfl⟩
  | 3, _ => cases he; exact ⟨hc _ _ rfl, hc _ _ rfl⟩
/-- One fold appended to an own row: 'append(l, a)'. -/
theorem push_fold {ops : Array Oper} {rest : List Oper} {o : Oper} {a : Act} {w : World} {Q : Exit → Act → World → Prop}
    (hgd : o.guard = none) (p q : Operand) (ho : o.op = .call { callee := .builtin .append, args := #[p, q], argTypes := #[22, 22] }) (base : Nat) (v : Value) (ls : List (Int × ByteArray)) (hs : a.eval p = v) (hown : OwnF w base v ls)
    (k : Int) (t : ByteArray) (hq : a.eval q = .slice (some ⟨w.heap.size, 0, none⟩) 1 1) (hb : base ≤ w.heap.size) (h1 : ls.length ≤ 4194304)
    (h : ∀ v' w', OwnF w' base v' (ls ++ [(k, t)]) → w.grownBy w' v.ownBlock → (v'.ownBlock = v.ownBlock ∨ v'.ownBlock = some (w.heap.size + 1)) → wpList Try.prog ops Q rest (a.put o.dst v') w') : wpList Try.prog ops Q (o :: rest) a (w.alloc (.cells #[.int .i64 k, .string t] 39)) := by
  obtain ⟨i0, hi, hz0, hz1, hz2⟩ := info_parts infoFd
  refine wpList_append_own_at _ hgd p q 22 ho base 39 i0 (.agg #[.int .i64 0, .string ByteArray.empty]) 2 24 Try.underlying22 hi hz0 hz1 hz2 rfl (by decide) v ls.length _ hs (hown.alloc _) ⟨w.heap.size, 0, none⟩ 1 1 [.int .i64 k, .string t] hq rfl (cell_two_new _ _ _ _) ?_ (by unfold maxLen; omega) (by omega) (by simp; omega) ?_
  · intro y hy; simp at hy; rcases hy with rfl | rfl <;> rfl
  · intro v' w' hown' hg _ hat
    refine h v' w' ?_ ⟨hg.os, hg.tape, hg.output, Nat.le_trans (by simp) hg.size, fun k hk hne => (hg.block k (by rw [World.size_alloc]; omega) hne).trans (Below.heap_alloc w _ k hk)⟩ ?_
    · show World.ownsRow _ _ _ _ _ _ _
      rw [atCells_snoc, List.length_append]; exact hown'
    · rcases hat with h2 | h2
      · exact .inl h2
      · exact .inr (by rw [h2, World.size_alloc])
theorem atCells_get {ls : List Atm} {q : Nat} {x : Value} (h : (atCells ls)[q]? = some x) : ∃ j e, ls[j]? = some e ∧ ((q = j * 2 ∧ x = .int .i64 e.1) ∨ (q = j * 2 + 1 ∧ x = .string e.2)) := by
  have hq : q < ls.length * 2 := by
    rcases Nat.lt_or_ge q (ls.length * 2) with h' | h'
    · exact h'
    · rw [List.getElem?_eq_none (by rw [atCells_len]; exact h')] at h; cases h
  have hj : q / 2 < ls.length := by omega
  obtain ⟨e, he⟩ : ∃ e, ls[q / 2]? = some e := ⟨_, List.getElem?_eq_getElem hj⟩
  obtain ⟨h0, h1⟩ := atCells_at ls _ e he
  refine ⟨q / 2, e, he, ?_⟩
  rcases Nat.mod_two_eq_zero_or_one q with hm | hm
  · have e1 : q / 2 * 2 = q := by omega
    rw [e1] at h0
    exact .inl ⟨e1.symm, Option.some.inj (h.symm.trans h0)⟩
  · have e1 : q / 2 * 2 + 1 = q := by omega
    rw [e1] at h1
    exact .inr ⟨e1.symm, Option.some.inj (h.symm.trans h1)⟩
theorem atCells_one (ls : List Atm) : ∀ u ∈ atCells ls, u.oneCell' = true := by
  intro u hu
  unfold atCells at hu
  obtain ⟨e, _, he⟩ := List.mem_flatMap.1 hu
  simp at he
  rcases he with rfl | rfl <;> rfl
theorem atCells_app (ls ms : List Atm) : atCells (ls ++ ms) = atCells ls ++ atCells ms := by unfold atCells; rw [List.flatMap_append]
theorem atCells_mem {w : World} {g o : Nat} {ls : List Atm} (h : ∀ j e, ls[j]? = some e → w.cell? ⟨g, o + j * 2, none⟩ = some (.int .i64 e.1) ∧ w.cell? ⟨g, o + j * 2 + 1, none⟩ = some (.string e.2)) : ∀ (j : Nat) x, (atCells ls)[j]? = some x → w.cell? ((⟨g, o, none⟩ : Addr).add j) = some x := by
  intro q x hq
  rw [Addr.add_lit]
  obtain ⟨j, e, he, ⟨rfl, rfl⟩ | ⟨rfl, rfl⟩⟩ := atCells_get hq
  · exact (h j e he).1
  · exact (h j e he).2
/-- Folds that lie anywhere, appended to an own row. -/
theorem append_folds {ops : Array Oper} {rest : List Oper} {o : Oper} {a : Act} {w : World} {Q : Exit → Act → World → Prop}
    (hgd : o.guard = none) (p q : Operand) (ho : o.op = .call { callee := .builtin .append, args := #[p, q], argTypes := #[22, 22] }) (base : Nat) (v : Value) (ls : List Atm) (hs : a.eval p = v) (hown : OwnF w base v ls)
    (g off n cap : Nat) (ms : List Atm) (hn : n = ms.length) (hq : a.eval q = .slice (some ⟨g, off, none⟩) n cap) (hcell : ∀ j e, ms[j]? = some e → w.cell? ⟨g, off + j * 2, none⟩ = some (.int .i64 e.1) ∧ w.cell? ⟨g, off + j * 2 + 1, none⟩ = some (.string e.2)) (hb : base ≤ w.heap.size) (h1 : ls.length ≤ 1000) (h2 : ms.length ≤ 1000)
    (h : ∀ v' w', OwnF w' base v' (ls ++ ms) → w.grownBy w' v.ownBlock → wpList Try.prog ops Q rest (a.put o.dst v') w') : wpList Try.prog ops Q (o :: rest) a w := by
  obtain ⟨i0, hi, hz0, hz1, hz2⟩ := info_parts infoFd
  subst hn
  refine wpList_append_own _ hgd p q 22 ho base 39 i0 (.agg #[.int .i64 0, .string ByteArray.empty]) 2 24 Try.underlying22 hi hz0 hz1 hz2 rfl (by decide) v ls.length _ hs hown ⟨g, off, none⟩ ms.length cap (atCells ms) hq (atCells_len ms) (atCells_mem hcell) (atCells_one ms) (by unfold maxLen; omega) (by omega) hb ?_
  intro v' w' hown' hg _
  refine h v' w' ?_ hg
  show World.ownsRow _ _ _ _ _ _ _
  rw [atCells_app, List.length_append]
  exact hown'
/-- One fold appended to what has no room behind it. -/
theorem push_end {ops : Array Oper} {rest : List Oper} {o : Oper} {a : Act} {w : World} {Q : Exit → Act → World → Prop}
    (hgd : o.guard = none) (p q : Operand) (ho : o.op = .call { callee := .builtin .append, args := #[p, q], argTypes := #[22, 22] }) (base : Nat) (v : Value) (ls : List Atm) (hs : a.eval p = v) (hst : StF w base v ls) (h0 : 1 ≤ ls.length)
    (k : Int) (t : ByteArray) (hq : a.eval q = .slice (some ⟨w.heap.size, 0, none⟩) 1 1) (hb : base ≤ w.heap.size) (h1 : ls.length ≤ 1000)
    (h : ∀ v' w', OwnF w' base v' (ls ++ [(k, t)]) → Below base w w' → (∀ b, b < w.heap.size → some b ≠ v.ownBlock → w'.heap[b]? = w.heap[b]?) → wpList Try.prog ops Q rest (a.put o.dst v') w') : wpList Try.prog ops Q (o :: rest) a (w.alloc (.cells #[.int .i64 k, .string t] 39)) := by
  have hba := below_al w (.cells #[.int .i64 k, .string t] 39)
  rcases hst with hown | ⟨hat, a0, ha0⟩
  · refine push_fold hgd p q ho base v ls hs hown k t hq hb (by omega) ?_
    intro v' w' hown' hg _
    refine h v' w' hown' ⟨hg.os, hg.tape, hg.output, hg.size, fun b hbb => hg.block b (by omega) (fun e => by have := row_ge hown e.symm; omega)⟩ (fun b hbl hne => hg.block b hbl hne)
  · obtain ⟨g, off, cap, hv, hc, hbg, hl, hf, hcell⟩ := hat
    rw [ha0] at hv
    injection hv with e1 e2 e3
    subst e3 e1
    obtain ⟨i0, hi, hz0, hz1, hz2⟩ := info_parts infoFd
    have hcell2 := fun j e he => And.intro ((hba.cell (p := ⟨g, off + j * 2, none⟩) hl).trans (hcell j e he).1) ((hba.cell (p := ⟨g, off + j * 2 + 1, none⟩) hl).trans (hcell j e he).2)
    refine wpList_append_grows _ hgd p q 22 ho 39 i0 (.agg #[.int .i64 0, .string ByteArray.empty]) 2 24 Try.underlying22 hi hz0 hz1 hz2 rfl (by decide) (some ⟨g, off, none⟩) ls.length ls.length (atCells ls) (hs.trans ha0) (fun h => by cases h) (atCells_len ls) ?c0 ⟨w.heap.size, 0, none⟩ 1 1 [.int .i64 k, .string t] hq rfl (cell_two_new _ _ _ _) ?c1 (by omega) (by unfold maxLen; omega) (by omega) ?_
    case c0 => intro b hbe j x hx; injection hbe with hbe; subst hbe; exact atCells_mem hcell2 j x hx
    case c1 => intro y hy; simp at hy; rcases hy with rfl | rfl <;> rfl
    intro v' w' hown' hg
    have hbw : Below w.heap.size w w' := hba.grown hg (by simp) (fun k e => by cases e)
    refine h v' w' ?_ (hbw.mono hb) (fun b hbl _ => hbw.block b hbl)
    show World.ownsRow _ _ _ _ _ _ _
    rw [atCells_snoc, List.length_append]
    exact ownsRow_mono hown' (by simp; omega)
def smF (ls : List Atm) : Prop := 1 ≤ ls.length ∧ ls.length ≤ 11 ∧ ∀ e ∈ ls, e.2.size ≤ 16
theorem smF_drop (r : Nat) (hr : r < 4) : smF (dFs.drop r) := by
  refine ⟨by rw [List.length_drop]; show 1 ≤ 4 - r; omega, by rw [List.length_drop]; show 4 - r ≤ 11; omega, fun e he => ?_⟩
  have := List.mem_of_mem_drop he
  unfold dFs at this
  simp at this
  rcases this with rfl | rfl | rfl | rfl <;> decide
theorem smF_set {ls : List Atm} (h : smF ls) (j : Nat) (e : Atm) (he : e.2.size ≤ 16) : smF (ls.set j e) := by
  obtain ⟨h1, h2, h3⟩ := h
  refine ⟨by rw [List.length_set]; exact h1, by rw [List.length_set]; exact h2, fun x hx => ?_⟩
  rcases List.mem_or_eq_of_mem_set hx with hx | rfl
  · exact h3 x hx
  · exact he
theorem grown_belowF {w w1 w2 : World} {B : Nat} (h : w.grownBy w1 (some B)) (hb : Below w.heap.size w1 w2) : w.grownBy w2 (some B) :=
  ⟨hb.os.trans h.os, hb.tape.trans h.tape, hb.output.trans h.output, Nat.le_trans h.size hb.size, fun k hk hne => (hb.block k hk).trans (h.block k hk hne)⟩
def DFs (base : Nat) (w' : World) (r : Ending) : Prop := ∃ v ls, r = .returned v ∧ AtF w' base v ls ∧ smF ls
set_option maxHeartbeats 4000000 in
theorem drawFolds_any (B N : Nat) (w : World) (h : Cur w B N) (hN : N ≤ 600000) :
    Calls Try.prog 72 #[.pointer (some ⟨B, 0, none⟩)] w fun r w' => DFs w.heap.size w' r ∧ Cur w' B (N + 100) ∧ w.grownBy w' (some B) := by
  have hB := h.lt
  have CP := Lib.hid (fun M n w h hM h0 h1 => pick_any B M n w h hM h0 h1)
  have CO := Lib.hid (fun M n w h hM h0 h1 => one_any B M n w h hM h0 h1)
  have HC := Lib.hid h
  clear h
  go_enter Try.func72, Try.ntmps72
  go_wp2_with fail
  refine (specDefaultFolds_at _).mono ?_
  rintro e w1 ⟨rfl, hw1⟩
  have HC1 : Hid (Cur w1 B N) := Lib.hid (by rw [hw1]; exact HC.out.below (below_al _ _))
  have HG1 : Hid (w.grownBy w1 (some B)) := Lib.hid (by rw [hw1]; exact World.grownBy_alloc w _ _)
  have HS1 : Hid (∀ r, r < 4 → StF w1 w.heap.size (.slice (some ⟨w.heap.size, r * 2, none⟩) (4 - r) (4 - r)) (dFs.drop r)) := Lib.hid (fun r hr => by rw [hw1]; exact dFs_sub w r hr)
  clear hw1 HC
  go_wp2_with fail
  refine (CP.out N 3 _ HC1.out (by omega) (by omega) (by omega)).mono ?_
  rintro e w2 ⟨⟨r, hr0, hr3, rfl⟩, hc, hg⟩
  obtain ⟨r, rfl⟩ := Int.eq_ofNat_of_zero_le hr0
  have HS2 := Lib.hid ((HS1.out r (by omega)).keep hg hB)
  have HC2 := Lib.hid hc
  have HG2 := Lib.hid (Lib.grownBy_trans HG1.out hg)
  clear hc hg HC1 HG1 HS1
  have hr4 : r < 4 := by omega
  have SmD := Lib.hid (smF_drop r hr4)
  have HLn : Hid (4 - r = (dFs.drop r).length) := Lib.hid (by rw [List.length_drop]; rfl)
  go_wp2_with fail
  obtain ⟨n, hn⟩ : ∃ n, n = 4 - r := ⟨_, rfl⟩
  rw [← hn] at HS2 HLn ⊢
  have hn1 : 1 ≤ n := by omega
  have hn4 : n ≤ 4 := by omega
  obtain ⟨l0, hl0⟩ : ∃ l, l = dFs.drop r := ⟨_, rfl⟩
  rw [← hl0] at HS2 HLn SmD
  clear hn hr0 hr3 hl0
  refine (CO.out (N + 2) 4 _ HC2.out (by omega) (by omega) (by omega)).mono ?_
  rintro e w3 ⟨⟨b1, rfl⟩, hc, hg⟩
  have HS3 := Lib.hid (HS2.out.keep hg hB)
  have HC3 := Lib.hid hc
  have HG3 := Lib.hid (Lib.grownBy_trans HG2.out hg)
  clear hc hg HC2 HG2 HS2
  cases b1
  · go_wp2_with fail
    refine (CO.out (N + 2 + 2) 15 _ HC3.out (by omega) (by omega) (by omega)).mono ?_
    rintro e x1 ⟨⟨b2, rfl⟩, hc, hg⟩
    have S1 := Lib.hid (HS3.out.keep hg hB)
    have C1 := Lib.hid hc
    have G1 := Lib.hid (Lib.grownBy_trans HG3.out hg)
    clear hc hg HS3 HC3 HG3
    cases b2
    · go_wp2
      go_ret
      exact ⟨⟨_, _, rfl, S1.out.f SmD.out.1, SmD.out⟩, C1.out.mono (by omega), G1.out⟩
    go_wp2_with fail
    refine (CP.out _ (n : Int) _ C1.out (by omega) (by omega) (by omega)).mono ?_
    rintro e x2 ⟨⟨i, hi0, hi1, rfl⟩, hc, hg⟩
    obtain ⟨i, rfl⟩ := Int.eq_ofNat_of_zero_le hi0
    have S2 := Lib.hid (S1.out.keep hg hB)
    have C2 := Lib.hid hc
    have G2 := Lib.hid (Lib.grownBy_trans G1.out hg)
    clear hc hg S1 C1 G1
    go_wp2_with fail
    refine (CP.out _ 3 _ C2.out (by omega) (by omega) (by omega)).mono ?_
    rintro e x3 ⟨⟨c, hc0, hc1, rfl⟩, hc, hg⟩
    have S3 := Lib.hid (S2.out.keep hg hB)
    have C3 := Lib.hid hc
    have G3 := Lib.hid (Lib.grownBy_trans G2.out hg)
    have hBx : B < x3.heap.size := C3.out.lt
    clear hc hg S2 C2 G2
    have hc3 : c = 0 ∨ c = 1 ∨ c = 2 := by omega
    rcases hc3 with rfl | rfl | rfl
    · go_wp2_with fail
      refine (among_any B _ x3.heap.size 4 4 [12, 23, -1, 20] _ (C3.out.below (below_al _ _)) (by omega) (by omega) (by simp) rfl (by omega) (by omega) (alloc_ints _ _ _ _ rfl)).mono ?_
      rintro e x4 ⟨⟨z, _, rfl⟩, hc, hg⟩
      have hg4 := Lib.grownBy_trans (World.grownBy_alloc x3 _ (some B)) hg
      have S4 := Lib.hid (S3.out.keep hg4 hB)
      have C4 := Lib.hid hc
      have G4 := Lib.hid (Lib.grownBy_trans G3.out hg4)
      clear hc hg hg4 S3 C3 G3
      obtain ⟨g, o, cp, hv, hcp, hbg, hl, hf, hcell⟩ := S4.out.f SmD.out.1
      injection hv with e1 e2 e3
      injection e1 with e1
      injection e1 with e1 e4
      subst e1 e4 e3
      have HE2 := Lib.hid e2
      clear e2
      obtain ⟨x, hx⟩ : ∃ x, l0[i]? = some x := ⟨_, List.getElem?_eq_getElem (by rw [← HLn.out]; omega)⟩
      have HSet := Lib.hid (fun z => (AtF.set (base := w.heap.size) (v := .slice (some ⟨w.heap.size, r * 2, none⟩) n n) (by rw [HE2.out]) hcp hbg hl hf hcell hx z ByteArray.empty).1)
      have HSm := Lib.hid (fun z => smF_set SmD.out i (z, x.2) (SmD.out.2.2 x (List.mem_of_getElem? hx)))
      have HB5 := Lib.hid (fun a v => (Below.refl w.heap.size x4).setCell (p := ⟨_, a, none⟩) hbg v)
      have d0 := (hcell i x hx).1
      have f0 := hf
      have f1 := hf (r * 2 + i * 2)
      clear hcell hf hx f0
      go_wp2
      go_ret
      exact ⟨⟨_, _, rfl, HSet.out _, HSm.out _⟩, (C4.out.keep ((HB5.out _ _).mono hB)).mono (by omega), grown_belowF G4.out (HB5.out _ _)⟩
    · go_wp2_with fail
      refine (of_any B _ x3.heap.size 4 4 [⟨#[]⟩, ⟨#[73, 110, 103]⟩, ⟨#[97, 98, 99, 100, 101, 102, 103, 104, 105]⟩, ⟨#[97, 98, 99, 100, 101, 102, 103, 104]⟩] _ (C3.out.below (below_al _ _)) (by omega) (by omega) (by simp) rfl (by omega) (by omega) (alloc_strs _ _ _ _ rfl)).mono ?_
      rintro e x4 ⟨⟨z, hz, rfl⟩, hc, hg⟩
      have hz16 : z.size ≤ 16 := by simp at hz; rcases hz with rfl | rfl | rfl | rfl <;> decide
      have hg4 := Lib.grownBy_trans (World.grownBy_alloc x3 _ (some B)) hg
      have S4 := Lib.hid (S3.out.keep hg4 hB)
      have C4 := Lib.hid hc
      have G4 := Lib.hid (Lib.grownBy_trans G3.out hg4)
      clear hc hg hg4 S3 C3 G3 hz
      obtain ⟨g, o, cp, hv, hcp, hbg, hl, hf, hcell⟩ := S4.out.f SmD.out.1
      injection hv with e1 e2 e3
      injection e1 with e1
      injection e1 with e1 e4
      subst e1 e4 e3
      have HE2 := Lib.hid e2
      clear e2
      obtain ⟨x, hx⟩ : ∃ x, l0[i]? = some x := ⟨_, List.getElem?_eq_getElem (by rw [← HLn.out]; omega)⟩
      have HSet := Lib.hid (fun z => (AtF.set (base := w.heap.size) (v := .slice (some ⟨w.heap.size, r * 2, none⟩) n n) (by rw [HE2.out]) hcp hbg hl hf hcell hx 0 z).2)
      have HSm := Lib.hid (smF_set SmD.out i (x.1, z) hz16)
      have HB5 := Lib.hid (fun a v => (Below.refl w.heap.size x4).setCell (p := ⟨_, a, none⟩) hbg v)
      have d0 := (hcell i x hx).2
      have f1 := hf (r * 2 + i * 2 + 1)
      clear hcell hf hx
      go_wp2
      go_ret
      exact ⟨⟨_, _, rfl, HSet.out _, HSm.out⟩, (C4.out.keep ((HB5.out _ _).mono hB)).mono (by omega), grown_belowF G4.out (HB5.out _ _)⟩
    · go_wp2_with fail
      go_loopw [3, 5] (fun out kv wr => ∃ (ls : List Atm) (j : Nat), kv = .int .i64 j ∧ 13 ≤ j ∧ j ≤ 18 ∧ Hid (StF wr w.heap.size out ls) ∧ Hid (smF ls) ∧ ls.length ≤ 6 + (j - 13) ∧ Hid (Cur wr B (N + 30 + 2 * (j - 13))) ∧ Hid (w.grownBy wr (some B))) (fun _ kv _ => 18 - (intOf kv).toNat)
      case atStart => exact ⟨_, 13, rfl, Nat.le_refl _, by omega, S3, SmD, by rw [← HLn.out]; omega, Lib.hid (C3.out.mono (by omega)), G3⟩
      case round =>
        obtain ⟨ls, j, rfl, hj0, hj1, HS, Hsm, hlen, HC, HG⟩ := hrel
        obtain ⟨g, o, cp, rfl, hcp, hbg, hl, hf, hcell⟩ := HS.out.f Hsm.out.1
        obtain ⟨nl, hnl⟩ : ∃ n, n = ls.length := ⟨_, rfl⟩
        have HNl := Lib.hid hnl
        rw [← hnl] at hlen hcp HS ⊢
        clear hf hcell hnl hl hbg
        go_wp2_with fail
        refine (CP.out _ 2 _ HC.out (by omega) (by omega) (by omega)).mono ?_
        rintro e y1 ⟨⟨c2, hc0, hc1, rfl⟩, hc, hg⟩
        have S4 := Lib.hid (HS.out.keep hg hB)
        have C4 := Lib.hid hc
        have G4 := Lib.hid (Lib.grownBy_trans HG.out hg)
        clear hc hg HS HC HG
        by_cases hgo : (nl : Int) < 6 + c2 ∧ (j : Int) < 18
        · obtain ⟨hgo1, hgo2⟩ := hgo
          have hsz := G4.out.size
          go_wp2_with (at_builtin; refine push_end rfl (.tmp 68) (.tmp 71) rfl w.heap.size _ ls rfl S4.out Hsm.out.1 (j : Int) ⟨#[120]⟩ rfl hsz (by rw [← HNl.out]; omega) ?_)
          intro v5 y2 hown hb hblk
          have hown' := hown
          have S5 : Hid (StF y2 w.heap.size v5 (ls ++ [((j : Int), ⟨#[120]⟩)])) := Lib.hid (.inl hown)
          have Sm5 : Hid (smF (ls ++ [((j : Int), ⟨#[120]⟩)])) := Lib.hid (by
            obtain ⟨h1, h2, h3⟩ := Hsm.out
            refine ⟨by simp, by rw [List.length_append, ← HNl.out]; simp; omega, fun e he => ?_⟩
            rw [List.mem_append, List.mem_singleton] at he
            rcases he with he | rfl
            · exact h3 e he
            · show (⟨#[120]⟩ : ByteArray).size ≤ 16; decide)
          have C5 := Lib.hid ((C4.out.keep (hb.mono hB)).mono (show N + 30 + 2 * (j - 13) + 2 ≤ N + 30 + 2 * (j + 1 - 13) by omega))
          have G5 := Lib.hid (grown_belowF G4.out hb)
          clear hown hown' hb hblk S4 C4 G4
          go_wp2
          go_roundw
          case rel => exact ⟨_, j + 1, by go_num, by omega, by omega, S5, Sm5, by rw [List.length_append, ← HNl.out]; simp; omega, C5, G5⟩
          case measure => simp [intOf]; omega
        · have HAt : Hid (AtF y1 w.heap.size (.slice (some ⟨g, o, none⟩) nl cp) ls) := Lib.hid (S4.out.f Hsm.out.1)
          by_cases hgo1 : (nl : Int) < 6 + c2
          · have hgo2 : ¬ (j : Int) < 18 := fun h => hgo ⟨hgo1, h⟩
            clear hgo
            go_wp2
            go_ret
            exact ⟨⟨_, _, rfl, HAt.out, Hsm.out⟩, C4.out.mono (by omega), G4.out⟩
          · clear hgo
            go_wp2
            go_ret
            exact ⟨⟨_, _, rfl, HAt.out, Hsm.out⟩, C4.out.mono (by omega), G4.out⟩
  · go_wp2_with fail
    refine (CP.out (N + 2 + 2) 10 _ HC3.out (by omega) (by omega) (by omega)).mono ?_
    rintro e w4 ⟨⟨k, hk0, hk1, rfl⟩, hc, hg⟩
    have HS4 := Lib.hid (HS3.out.keep hg hB)
    have HC4 := Lib.hid hc
    have HG4 := Lib.hid (Lib.grownBy_trans HG3.out hg)
    have hB4 : B < w4.heap.size := HC4.out.lt
    clear hc hg HC3 HG3 HS3
    go_wp2_with fail
    refine (of_any B _ w4.heap.size 3 3 [⟨#[101, 114]⟩, ⟨#[108, 121]⟩, ⟨#[105, 110, 103]⟩] _ (HC4.out.below (below_al _ _)) (by omega) (by omega) (by simp) rfl (by omega) (by omega) (alloc_strs _ _ _ _ rfl)).mono ?_
    rintro e w5 ⟨⟨z, hz, rfl⟩, hc, hg⟩
    have hz16 : z.size ≤ 16 := by simp at hz; rcases hz with rfl | rfl | rfl <;> decide
    have hg5 := Lib.grownBy_trans (World.grownBy_alloc w4 _ (some B)) hg
    have HS5 := Lib.hid (HS4.out.keep hg5 hB)
    have HC5 := Lib.hid hc
    have HG5 := Lib.hid (Lib.grownBy_trans HG4.out hg5)
    clear hc hg hg5 HS4 HC4 HG4 hz
    go_wp2_with fail
    obtain ⟨y5, hy5⟩ : ∃ W, W = w5.alloc (.cells #[.int .i64 (13 + k), .string z] 39) := ⟨_, rfl⟩
    rw [← hy5]
    have hgy : w5.grownBy y5 (some B) := by rw [hy5]; exact World.grownBy_alloc _ _ _
    have HO : Hid (OwnF y5 w.heap.size (.slice (some ⟨w5.heap.size, 0, none⟩) 1 1) [((13 + k : Int), z)]) := Lib.hid (by
      rw [hy5]
      exact ownsRow_mono ⟨rfl, .inr ⟨w5.heap.size, 1, #[.int .i64 (13 + k), .string z], rfl, Nat.le_refl _, heap_alloc_new _ _, Nat.le_refl _, by decide, rfl, rfl⟩⟩ HG5.out.size)
    have HS5' := Lib.hid (HS5.out.keep hgy hB)
    have HC5' : Hid (Cur y5 B (N + 2 + 2 + 2 + 2)) := Lib.hid (by rw [hy5]; exact HC5.out.below (below_al _ _))
    have HG5' := Lib.hid (Lib.grownBy_trans HG5.out hgy)
    clear hgy HS5 HC5 HG5 hy5
    go_wp2_with fail
    refine (CP.out _ ((n : Int) + 1) _ HC5'.out (by omega) (by omega) (by omega)).mono ?_
    rintro e w6 ⟨⟨q, hq0, hq1, rfl⟩, hc, hg⟩
    obtain ⟨q, rfl⟩ := Int.eq_ofNat_of_zero_le hq0
    have HO6 : Hid (OwnF w6 w.heap.size (.slice (some ⟨w5.heap.size, 0, none⟩) 1 1) [((13 + k : Int), z)]) := Lib.hid (World.ownsRow.kept HO.out hg (.inr (fun e => by have := row_ge HO.out e; omega)))
    have HS6 := Lib.hid (HS5'.out.keep hg hB)
    have HC6 := Lib.hid hc
    have HG6 := Lib.hid (Lib.grownBy_trans HG5'.out hg)
    clear hc hg HS5' HC5' HG5' HO
    have hqn : q ≤ n := by omega
    have HCell : Hid (∀ j e, (l0.take q)[j]? = some e → w6.cell? ⟨w.heap.size, r * 2 + j * 2, none⟩ = some (.int .i64 e.1) ∧ w6.cell? ⟨w.heap.size, r * 2 + j * 2 + 1, none⟩ = some (.string e.2)) := Lib.hid (fun j e he => by
      obtain ⟨g, o, cp, hv, _, _, _, _, hcell⟩ := HS6.out.f SmD.out.1
      injection hv with e1 e2 e3
      injection e1 with e1
      injection e1 with e1 e4
      subst e1 e4
      have hj := (List.getElem?_eq_some_iff.1 he).1
      rw [List.length_take] at hj
      rw [List.getElem?_take_of_lt (by omega)] at he
      exact hcell j e he)
    have hsz6 := HG6.out.size
    clear HS6
    go_wp2_with (at_builtin; refine append_folds rfl _ _ rfl w.heap.size _ _ rfl HO6.out w.heap.size (r * 2) q n (l0.take q) (by rw [List.length_take, ← HLn.out]; omega) rfl HCell.out hsz6 (by simp) (by rw [List.length_take, ← HLn.out]; omega) ?_)
    intro v7 w7 hown hg7
    have hb7 : Below w.heap.size w6 w7 := (Below.refl _ _).grown hg7 hsz6 (fun j hj => row_ge HO6.out hj)
    have Sm7 : Hid (smF ([((13 + k : Int), z)] ++ l0.take q)) := Lib.hid (by
      refine ⟨by simp, by rw [List.length_append, List.length_take, ← HLn.out]; simp; omega, fun e he => ?_⟩
      rw [List.mem_append, List.mem_singleton] at he
      rcases he with rfl | he
      · exact hz16
      · exact SmD.out.2.2 e (List.mem_of_mem_take he))
    have HS7 : Hid (StF w7 w.heap.size v7 ([((13 + k : Int), z)] ++ l0.take q)) := Lib.hid (.inl hown)
    have HC7 := Lib.hid (HC6.out.keep (hb7.mono hB))
    have HG7 := Lib.hid (grown_belowF HG6.out hb7)
    have h5 : ([((13 + k : Int), z)] ++ l0.take q).length ≤ 5 := by rw [List.length_append, List.length_take, ← HLn.out]; simp; omega
    obtain ⟨ls7, hls7⟩ : ∃ l, l = [((13 + k : Int), z)] ++ l0.take q := ⟨_, rfl⟩
    rw [← hls7] at Sm7 HS7 h5
    obtain ⟨g7, o7, cp7, rfl, hcp7, _⟩ := HS7.out.f Sm7.out.1
    have hn71 : 1 ≤ ls7.length := Sm7.out.1
    obtain ⟨n7, hn7⟩ : ∃ n, n = ls7.length := ⟨_, rfl⟩
    rw [← hn7] at HS7 hcp7 h5 hn71 ⊢
    have HLn7 := Lib.hid hn7
    clear hown hg7 hb7 HC6 HG6 HO6 HCell hls7 hn7
    go_wp2_with fail
    refine (CO.out (N + 2 + 2 + 2 + 2 + 2) 15 _ HC7.out (by omega) (by omega) (by omega)).mono ?_
    rintro e x1 ⟨⟨b2, rfl⟩, hc, hg⟩
    have S1 := Lib.hid (HS7.out.keep hg hB)
    have C1 := Lib.hid hc
    have G1 := Lib.hid (Lib.grownBy_trans HG7.out hg)
    clear hc hg HS7 HC7 HG7
    cases b2
    · go_wp2
      go_ret
      exact ⟨⟨_, _, rfl, S1.out.f Sm7.out.1, Sm7.out⟩, C1.out.mono (by omega), G1.out⟩
    go_wp2_with fail
    refine (CP.out _ (n7 : Int) _ C1.out (by omega) (by omega) (by omega)).mono ?_
    rintro e x2 ⟨⟨i, hi0, hi1, rfl⟩, hc, hg⟩
    obtain ⟨i, rfl⟩ := Int.eq_ofNat_of_zero_le hi0
    have S2 := Lib.hid (S1.out.keep hg hB)
    have C2 := Lib.hid hc
    have G2 := Lib.hid (Lib.grownBy_trans G1.out hg)
    clear hc hg S1 C1 G1
    go_wp2_with fail
    refine (CP.out _ 3 _ C2.out (by omega) (by omega) (by omega)).mono ?_
    rintro e x3 ⟨⟨c, hc0, hc1, rfl⟩, hc, hg⟩
    have S3 := Lib.hid (S2.out.keep hg hB)
    have C3 := Lib.hid hc
    have G3 := Lib.hid (Lib.grownBy_trans G2.out hg)
    have hBx : B < x3.heap.size := C3.out.lt
    clear hc hg S2 C2 G2
    have hc3 : c = 0 ∨ c = 1 ∨ c = 2 := by omega
    rcases hc3 with rfl | rfl | rfl
    · go_wp2_with fail
      refine (among_any B _ x3.heap.size 4 4 [12, 23, -1, 20] _ (C3.out.below (below_al _ _)) (by omega) (by omega) (by simp) rfl (by omega) (by omega) (alloc_ints _ _ _ _ rfl)).mono ?_
      rintro e x4 ⟨⟨z, _, rfl⟩, hc, hg⟩
      have hg4 := Lib.grownBy_trans (World.grownBy_alloc x3 _ (some B)) hg
      have S4 := Lib.hid (S3.out.keep hg4 hB)
      have C4 := Lib.hid hc
      have G4 := Lib.hid (Lib.grownBy_trans G3.out hg4)
      clear hc hg hg4 S3 C3 G3
      obtain ⟨g, o, cp, hv, hcp, hbg, hl, hf, hcell⟩ := S4.out.f Sm7.out.1
      injection hv with e1 e2 e3
      injection e1 with e1
      injection e1 with e1 e4
      subst e1 e4 e3
      have HE2 := Lib.hid e2
      clear e2
      obtain ⟨x, hx⟩ : ∃ x, (ls7)[i]? = some x := ⟨_, List.getElem?_eq_getElem (by rw [← HLn7.out]; omega)⟩
      have HSet := Lib.hid (fun z => (AtF.set (base := w.heap.size) (v := .slice (some ⟨g7, o7, none⟩) n7 cp7) (by rw [HE2.out]) hcp hbg hl hf hcell hx z ByteArray.empty).1)
      have HSm := Lib.hid (fun z => smF_set Sm7.out i (z, x.2) (Sm7.out.2.2 x (List.mem_of_getElem? hx)))
      have HB5 := Lib.hid (fun a v => (Below.refl w.heap.size x4).setCell (p := ⟨_, a, none⟩) hbg v)
      have d0 := (hcell i x hx).1
      have f0 := hf
      have f1 := hf (o7 + i * 2)
      clear hcell hf hx f0
      go_wp2
      go_ret
      exact ⟨⟨_, _, rfl, HSet.out _, HSm.out _⟩, (C4.out.keep ((HB5.out _ _).mono hB)).mono (by omega), grown_belowF G4.out (HB5.out _ _)⟩
    · go_wp2_with fail
      refine (of_any B _ x3.heap.size 4 4 [⟨#[]⟩, ⟨#[73, 110, 103]⟩, ⟨#[97, 98, 99, 100, 101, 102, 103, 104, 105]⟩, ⟨#[97, 98, 99, 100, 101, 102, 103, 104]⟩] _ (C3.out.below (below_al _ _)) (by omega) (by omega) (by simp) rfl (by omega) (by omega) (alloc_strs _ _ _ _ rfl)).mono ?_
      rintro e x4 ⟨⟨z, hz, rfl⟩, hc, hg⟩
      have hz16 : z.size ≤ 16 := by simp at hz; rcases hz with rfl | rfl | rfl | rfl <;> decide
      have hg4 := Lib.grownBy_trans (World.grownBy_alloc x3 _ (some B)) hg
      have S4 := Lib.hid (S3.out.keep hg4 hB)
      have C4 := Lib.hid hc
      have G4 := Lib.hid (Lib.grownBy_trans G3.out hg4)
      clear hc hg hg4 S3 C3 G3 hz
      obtain ⟨g, o, cp, hv, hcp, hbg, hl, hf, hcell⟩ := S4.out.f Sm7.out.1
      injection hv with e1 e2 e3
      injection e1 with e1
      injection e1 with e1 e4
      subst e1 e4 e3
      have HE2 := Lib.hid e2
      clear e2
      obtain ⟨x, hx⟩ : ∃ x, (ls7)[i]? = some x := ⟨_, List.getElem?_eq_getElem (by rw [← HLn7.out]; omega)⟩
      have HSet := Lib.hid (fun z => (AtF.set (base := w.heap.size) (v := .slice (some ⟨g7, o7, none⟩) n7 cp7) (by rw [HE2.out]) hcp hbg hl hf hcell hx 0 z).2)
      have HSm := Lib.hid (smF_set Sm7.out i (x.1, z) hz16)
      have HB5 := Lib.hid (fun a v => (Below.refl w.heap.size x4).setCell (p := ⟨_, a, none⟩) hbg v)
      have d0 := (hcell i x hx).2
      have f1 := hf (o7 + i * 2 + 1)
      clear hcell hf hx
      go_wp2
      go_ret
      exact ⟨⟨_, _, rfl, HSet.out _, HSm.out⟩, (C4.out.keep ((HB5.out _ _).mono hB)).mono (by omega), grown_belowF G4.out (HB5.out _ _)⟩
    · go_wp2_with fail
      go_loopw [3, 5] (fun out kv wr => ∃ (ls : List Atm) (j : Nat), kv = .int .i64 j ∧ 13 ≤ j ∧ j ≤ 18 ∧ Hid (StF wr w.heap.size out ls) ∧ Hid (smF ls) ∧ ls.length ≤ 6 + (j - 13) ∧ Hid (Cur wr B (N + 30 + 2 * (j - 13))) ∧ Hid (w.grownBy wr (some B))) (fun _ kv _ => 18 - (intOf kv).toNat)
      case atStart => exact ⟨_, 13, rfl, Nat.le_refl _, by omega, S3, Sm7, by rw [← HLn7.out]; omega, Lib.hid (C3.out.mono (by omega)), G3⟩
      case round =>
        obtain ⟨ls, j, rfl, hj0, hj1, HS, Hsm, hlen, HC, HG⟩ := hrel
        obtain ⟨g, o, cp, rfl, hcp, hbg, hl, hf, hcell⟩ := HS.out.f Hsm.out.1
        obtain ⟨nl, hnl⟩ : ∃ n, n = ls.length := ⟨_, rfl⟩
        have HNl := Lib.hid hnl
        rw [← hnl] at hlen hcp HS ⊢
        clear hf hcell hnl hl hbg
        go_wp2_with fail
        refine (CP.out _ 2 _ HC.out (by omega) (by omega) (by omega)).mono ?_
        rintro e y1 ⟨⟨c2, hc0, hc1, rfl⟩, hc, hg⟩
        have S4 := Lib.hid (HS.out.keep hg hB)
        have C4 := Lib.hid hc
        have G4 := Lib.hid (Lib.grownBy_trans HG.out hg)
        clear hc hg HS HC HG
        by_cases hgo : (nl : Int) < 6 + c2 ∧ (j : Int) < 18
        · obtain ⟨hgo1, hgo2⟩ := hgo
          have hsz := G4.out.size
          go_wp2_with (at_builtin; refine push_end rfl (.tmp 68) (.tmp 71) rfl w.heap.size _ ls rfl S4.out Hsm.out.1 (j : Int) ⟨#[120]⟩ rfl hsz (by rw [← HNl.out]; omega) ?_)
          intro v5 y2 hown hb hblk
          have hown' := hown
          have S5 : Hid (StF y2 w.heap.size v5 (ls ++ [((j : Int), ⟨#[120]⟩)])) := Lib.hid (.inl hown)
          have Sm5 : Hid (smF (ls ++ [((j : Int), ⟨#[120]⟩)])) := Lib.hid (by
            obtain ⟨h1, h2, h3⟩ := Hsm.out
            refine ⟨by simp, by rw [List.length_append, ← HNl.out]; simp; omega, fun e he => ?_⟩
            rw [List.mem_append, List.mem_singleton] at he
            rcases he with he | rfl
            · exact h3 e he
            · show (⟨#[120]⟩ : ByteArray).size ≤ 16; decide)
          have C5 := Lib.hid ((C4.out.keep (hb.mono hB)).mono (show N + 30 + 2 * (j - 13) + 2 ≤ N + 30 + 2 * (j + 1 - 13) by omega))
          have G5 := Lib.hid (grown_belowF G4.out hb)
          clear hown hown' hb hblk S4 C4 G4
          go_wp2
          go_roundw
          case rel => exact ⟨_, j + 1, by go_num, by omega, by omega, S5, Sm5, by rw [List.length_append, ← HNl.out]; simp; omega, C5, G5⟩
          case measure => simp [intOf]; omega
        · have HAt : Hid (AtF y1 w.heap.size (.slice (some ⟨g, o, none⟩) nl cp) ls) := Lib.hid (S4.out.f Hsm.out.1)
          by_cases hgo1 : (nl : Int) < 6 + c2
          · have hgo2 : ¬ (j : Int) < 18 := fun h => hgo ⟨hgo1, h⟩
            clear hgo
            go_wp2
            go_ret
            exact ⟨⟨_, _, rfl, HAt.out, Hsm.out⟩, C4.out.mono (by omega), G4.out⟩
          · clear hgo
            go_wp2
            go_ret
            exact ⟨⟨_, _, rfl, HAt.out, Hsm.out⟩, C4.out.mono (by omega), G4.out⟩
end Go.Proofs.Ytnjbaomekbiflaa

namespace Go.Proofs.Ytnjbaomekbiflaa
set_option maxRecDepth 100000
open Go.RowKit

theorem rBig_no (a : Option Addr) (n cap : Nat) (w : World) (h : n ≤ 65536) :
    Calls Try.prog 30 #[.slice a n cap] w fun e w' => e = .returned (.bool false) ∧ w = w' := by
  go_enter Try.func30, Try.ntmps30
  go_wp2
  go_ret
  exact ⟨ret_bool (by simp; omega), rfl⟩
theorem rBig_yes (a : Option Addr) (n cap : Nat) (w : World) (h : 65536 < n) (_hn : n ≤ maxLen) :
    Calls Try.prog 30 #[.slice a n cap] w fun e w' => e = .returned (.bool true) ∧ w = w' := by
  go_enter Try.func30, Try.ntmps30
  go_wp2
  go_ret
  exact ⟨ret_bool (by simp; omega), rfl⟩
theorem rI_any (v u : Value) (xs ys : List Int) (w : World) (h : IntsAt w v xs) (h' : IntsAt w u ys) (hn : xs.length ≤ 2097152) (hm : ys.length ≤ 2097152) :
    Calls Try.prog 32 #[v, u] w fun e w' => e = .returned (.bool (decide (xs = ys))) ∧ Below w.heap.size w w' := by
  obtain ⟨a, cap, rfl, hcap, hC⟩ := h.cells
  obtain ⟨b, cap', rfl, hcap', hD⟩ := h'.cells
  obtain ⟨n, hnn⟩ : ∃ n, n = xs.length := ⟨_, rfl⟩
  obtain ⟨m, hmm⟩ : ∃ m, m = ys.length := ⟨_, rfl⟩
  rw [← hnn] at hn hcap ⊢
  rw [← hmm] at hm hcap' ⊢
  have HN := Lib.hid hnn
  have HM := Lib.hid hmm
  have HC := Lib.hid hC
  have HD := Lib.hid hD
  clear h h' hnn hmm hC hD
  by_cases hnm : n = m
  · have hnb : ((n : Int) != (m : Int)) = false := by rw [bne_eq_false_iff_eq]; omega
    go_enter Try.func32, Try.ntmps32
    go_wp2_with fail
    go_loopw [5] (fun i wr => ∃ k : Nat, i = .int .i64 k ∧ k ≤ n ∧ Hid (xs.take k = ys.take k) ∧ Below w.heap.size w wr) (fun i _ => n - (intOf i).toNat)
    case atStart => exact ⟨0, rfl, Nat.zero_le _, Lib.hid rfl, Below.refl _ _⟩
    case round =>
      obtain ⟨k, rfl, hk, HT, hbel⟩ := hrel
      by_cases hlt : k < n
      · obtain ⟨x, hx⟩ : ∃ x, xs[k]? = some x := ⟨_, List.getElem?_eq_getElem (by rw [← HN.out]; exact hlt)⟩
        obtain ⟨y, hy⟩ : ∃ y, ys[k]? = some y := ⟨_, List.getElem?_eq_getElem (by rw [← HM.out, ← hnm]; exact hlt)⟩
        obtain ⟨bk, o, rfl, _, g0⟩ := HC.out wr hbel k x hx
        obtain ⟨bk', o', rfl, _, g1⟩ := HD.out wr hbel k y hy
        by_cases he : x = y
        · subst he
          have HT2 := Lib.hid (Pl.take_next HT.out hx hy)
          clear hx hy HT
          go_wp2_with fail
          go_quiet (fail)
          go_wp2
          go_roundw
          case rel => exact ⟨k + 1, by go_num, by omega, HT2, below_drewN hbel _⟩
          case measure => simp [intOf]; omega
        · have HF : Hid (decide (xs = ys) = false) := by
            show decide _ = false
            rw [decide_eq_false_iff_not]
            intro e
            rw [e, hy] at hx
            injection hx with hx
            exact he hx.symm
          have hxy : (x != y) = true := by rw [bne_iff_ne]; exact he
          clear hx hy HT he
          go_wp2_with fail
          go_quiet (fail)
          go_wp2
          go_ret
          exact ⟨ret_bool HF.out.symm, below_drewN hbel _⟩
      · obtain rfl : k = n := by omega
        have HF : Hid (decide (xs = ys) = true) := by
          show decide _ = true
          rw [decide_eq_true_iff]
          have h3 := HT.out
          rw [List.take_of_length_le (by rw [← HN.out]; exact Nat.le_refl _), List.take_of_length_le (by rw [← HM.out, ← hnm]; exact Nat.le_refl _)] at h3
          exact h3
        clear HT
        go_wp2
        go_ret
        exact ⟨ret_bool HF.out.symm, hbel⟩
  · have hnb : ((n : Int) != (m : Int)) = true := by rw [bne_iff_ne]; omega
    have HF : Hid (decide (xs = ys) = false) := by
      show decide _ = false
      rw [decide_eq_false_iff_not]
      intro e
      exact hnm (by rw [HN.out, HM.out, e])
    clear hnm
    go_enter Try.func32, Try.ntmps32
    go_wp2_with fail
    go_ret
    exact ⟨ret_bool HF.out.symm, Below.refl _ _⟩
end Go.Proofs.Ytnjbaomekbiflaa

namespace Go.Proofs.Ytnjbaomekbiflaa
set_option maxRecDepth 100000
open Go.RowKit

def DF1 (r : Ending) : Prop := ∃ (k : Int) (t : ByteArray), r = .returned (atV k t) ∧ t.size ≤ 16
theorem fd_box (w : World) (x y : Value) (T : TypeId) : (w.alloc (.cells #[x, y] T)).heap[w.heap.size]? = some (.cells #[x, y] T (0, 0)) := heap_alloc_new w _
set_option maxHeartbeats 1000000 in
theorem drawFold_any (B N : Nat) (w : World) (h : Cur w B N) (hN : N ≤ 500000) :
    Calls Try.prog 59 #[.pointer (some ⟨B, 0, none⟩)] w fun r w' => DF1 r ∧ Cur w' B (N + 110) ∧ w.grownBy w' (some B) := by
  have hB := h.lt
  have CD := Lib.hid (fun w h hN => drawFolds_any B N w h hN)
  have CP := Lib.hid (fun M n w h hM h0 h1 => pick_any B M n w h hM h0 h1)
  obtain ⟨W, hW⟩ : ∃ W, W = w.alloc (.cells #[.int .i64 0, .string ⟨#[]⟩] 39) := ⟨_, rfl⟩
  have HW := Lib.hid hW
  have HC := Lib.hid (show Cur W B N by rw [hW]; exact h.below (below_al _ _))
  have HG := Lib.hid (show w.grownBy W (some B) by rw [hW]; exact World.grownBy_alloc _ _ _)
  have HBox : Hid (W.heap[w.heap.size]? = some (.cells #[.int .i64 0, .string ⟨#[]⟩] 39 (0, 0))) := Lib.hid (by rw [hW]; exact fd_box _ _ _ _)
  have HWs : Hid (W.heap.size = w.heap.size + 1) := Lib.hid (by rw [hW]; simp)
  clear h hW
  go_enter Try.func59, Try.ntmps59
  go_wp2_with fail
  rw [← HW.out]
  refine (CD.out W HC.out (by omega)).mono ?_
  rintro r w1 ⟨⟨v, ls, rfl, hat, hsm⟩, hc, hg⟩
  have HAt1 := Lib.hid hat
  have HSm := Lib.hid hsm
  have HC1 := Lib.hid hc
  have HG1 := Lib.hid (Lib.grownBy_trans HG.out hg)
  have HBox1 := Lib.hid ((hg.block w.heap.size (by have := HWs.out; omega) (by simp; omega)).trans HBox.out)
  obtain ⟨g, o, cp, rfl, hcp, _, _, _, _⟩ := hat
  obtain ⟨n, hnn⟩ : ∃ n, n = ls.length := ⟨_, rfl⟩
  have HN := Lib.hid hnn
  have hn1 : 1 ≤ n := by rw [hnn]; exact hsm.1
  have hn2 : n ≤ 11 := by rw [hnn]; exact hsm.2.1
  rw [← hnn] at HAt1 hcp ⊢
  clear hsm hc hg hnn HC HG HBox HW
  go_wp2_with fail
  refine (CP.out _ (n : Int) _ HC1.out (by omega) (by omega) (by omega)).mono ?_
  rintro r w2 ⟨⟨i, hi0, hi1, rfl⟩, hc, hg⟩
  obtain ⟨i, rfl⟩ := Int.eq_ofNat_of_zero_le hi0
  have hat2 := HAt1.out.keep hg (by have := HWs.out; omega)
  have HC2 := Lib.hid hc
  have HG2 := Lib.hid (Lib.grownBy_trans HG1.out hg)
  have HBox2 := Lib.hid ((hg.block w.heap.size (by have := (Array.getElem?_eq_some_iff.1 HBox1.out).1; exact this) (by simp; omega)).trans HBox1.out)
  obtain ⟨g', o', cp', hv, _, _, _, _, hcell⟩ := hat2
  injection hv with e1 e2 e3
  injection e1 with e1
  injection e1 with e1 e4
  subst e1 e4 e3
  obtain ⟨x, hx⟩ : ∃ x, ls[i]? = some x := ⟨_, List.getElem?_eq_getElem (by rw [← HN.out]; omega)⟩
  obtain ⟨d0, d1⟩ := hcell i x hx
  have hx16 : x.2.size ≤ 16 := HSm.out.2.2 x (List.mem_of_getElem? hx)
  clear hc hg hcell hx e2 HAt1 HC1 HG1 HBox1
  have HBx : Hid (BoxW w2 w.heap.size 39 (.int .i64 0) (.string ⟨#[]⟩)) := Lib.hid HBox2.out
  have b0 := HBx.out.cell0
  have b1 := HBx.out.cell1
  have f0 := HBx.out.frozen 0
  have f1 := HBx.out.frozen 1
  have HB3 := Lib.hid (fun (x y : Value) => ((Below.refl w.heap.size w2).setCell (p := ⟨w.heap.size, 0, none⟩) (Nat.le_refl _) x).setCell (p := ⟨w.heap.size, 1, none⟩) (Nat.le_refl _) y)
  clear HBox2
  go_wp2
  (try simp only [Exit.inBlock, Exit.then])
  refine bodyPost_ret (results_cell_row rfl _ _ w.heap.size _ _ _ _ rfl ((HBx.out.set0 _).set1 _) Try.underlying39 rfl (by kernel_rfl)) rfl ?_
  exact ⟨⟨_, _, rfl, hx16⟩, (HC2.out.keep ((HB3.out _ _).mono hB)).mono (by omega), grown_belowF HG2.out (HB3.out _ _)⟩
/-- A world in which the cell of a row is seen. -/
structure SeenO (g i : Nat) (z : Int) where
  world : World
  cell : world.cell? ⟨g, i, none⟩ = some (.int .i64 z)
theorem grown_row {w w1 w2 : World} {B : Nat} {row : Option Nat} (h : w.grownBy w1 (some B)) (hg : w1.grownBy w2 row) (hr : ∀ k, row = some k → w.heap.size ≤ k) : w.grownBy w2 (some B) :=
  grown_belowF h ((Below.refl w.heap.size w1).grown hg h.size hr)
theorem row_setI {w : World} {base g n : Nat} {oc : Nat} {xs : List Int} (h : w.ownsRow base 3 1 (.slice (some ⟨g, 0, none⟩) n oc) n (xs.map (.int .i64))) (i : Nat) (hi : i < n) (z : Int) (hz : xs[i]? = some z) (X : Int) :
    w.frozen? ⟨g, i, none⟩ = false ∧ w.cell? ⟨g, i, none⟩ = some (.int .i64 z) ∧ (w.setCell ⟨g, i, none⟩ (.int .i64 X)).ownsRow base 3 1 (.slice (some ⟨g, 0, none⟩) n oc) n ((xs.set i X).map (.int .i64)) := by
  obtain ⟨g', cap', hv', _, _, _, hf', hcell', hrow'⟩ := own_setC h (by omega) i (by omega) (.int .i64 X)
  cases hv'
  have hm : (xs.map (Value.int .i64)).set i (.int .i64 X) = (xs.set i X).map (.int .i64) := by rw [List.map_set]
  rw [hm] at hrow'
  exact ⟨hf', hcell' (.int .i64 z) (by rw [List.getElem?_map, hz]; rfl), hrow'⟩
set_option maxHeartbeats 2000000 in
theorem drawFoldOutline_any (B N base : Nat) (v : Value) (us : List (Value × Ent)) (w : World) (h : Cur w B N) (hr : Rows w base v us) (hB : B < base) (hl : us.length ≤ 60) (hs : ∀ p ∈ us, p.2.1.length ≤ 8 ∧ p.2.2.size ≤ 60) (hN : N ≤ 500000) :
    Calls Try.prog 60 #[.pointer (some ⟨B, 0, none⟩), dV v] w fun r w' => Drawn w.heap.size w' r ∧ Cur w' B (N + 400) ∧ w.grownBy w' (some B) := by
  obtain ⟨i0, hi, hz0, hz1, hz2⟩ := info_parts infoInt
  have hBw := h.lt
  have ck := fun w h hr hN => known_any B N base v us w h hr hB hl hs hN
  have CA := Lib.hid (fun M w h hM => anyOutline_any B M w h hM)
  have CP := Lib.hid (fun M n w h hM h0 h1 => pick_any B M n w h hM h0 h1)
  have CO := Lib.hid (fun M n w h hM h0 h1 => one_any B M n w h hM h0 h1)
  unfold Drawn dV at ck
  have CK := Lib.hid ck
  obtain ⟨va, vc, rfl⟩ := hr.form
  obtain ⟨m, hmm⟩ : ∃ m, m = us.length := ⟨_, rfl⟩
  unfold dV
  rw [← hmm] at CK hr ⊢
  obtain ⟨W, hW⟩ : ∃ W, W = (w.alloc (.cells #[.slice va m vc] 87)).alloc (.cells #[] 3) := ⟨_, rfl⟩
  have HW := Lib.hid hW
  have hbW : Below w.heap.size w W := by rw [hW]; exact below_al2 _ _ _
  have HC := Lib.hid (h.below hbW)
  have HR := Lib.hid (hr.below hbW)
  have HG := Lib.hid (grown_belowF (World.grownBy.refl w (some B)) hbW)
  have HRow : Hid (W.ownsRow (w.heap.size + 1) 3 1 (.slice (some ⟨w.heap.size + 1, 0, none⟩) 0 0) 0 []) := Lib.hid (by
    have := row_new (w.alloc (.cells #[.slice va m vc] 87)) 3
    rw [World.size_alloc] at this
    rw [hW]; exact this)
  clear h hr hW hbW ck hmm
  go_enter Try.func60, Try.ntmps60
  go_wp2_with fail
  rw [← HW.out]
  refine (CK.out W HC.out HR.out (by omega)).mono ?_
  rintro r w1 ⟨⟨u, xs, rfl, hu, hxl⟩, hc, hg⟩
  have HU1 := Lib.hid (row_M hu)
  have HC1 := Lib.hid hc
  have HG1 := Lib.hid (Lib.grownBy_trans HG.out hg)
  have HRow1 := Lib.hid (World.ownsRow.kept HRow.out hg (.inr (fun e => by simp [Value.ownBlock] at e; omega)))
  have hs1 : w.heap.size + 1 ≤ w1.heap.size := Nat.le_trans (by have := (HRow.out.lt (k := w.heap.size + 1) rfl).2; omega) hg.size
  clear hu hc hg HC HG HRow HR HW
  go_wp2_with (at_builtin; refine append_ints hi hz0 hz1 hz2 rfl _ _ rfl (w.heap.size + 1) _ [] rfl HRow1.out u xs rfl HU1.out hs1 (by simp) (by omega) ?_)
  intro v2 w2 hown hg2
  have HC2 := Lib.hid (HC1.out.own hg2 (fun k hk => by have := row_ge HRow1.out hk; omega))
  have HG2 := Lib.hid (grown_row HG1.out hg2 (fun k hk => by have := row_ge HRow1.out hk; omega))
  have hown' : w2.ownsRow (w.heap.size + 1) 3 1 v2 xs.length (xs.map (.int .i64)) := hown
  obtain ⟨oa, oc, rfl, _, _⟩ := (rowInts_at hown').cells
  obtain ⟨n, hn⟩ : ∃ n, n = xs.length := ⟨_, rfl⟩
  have HL := Lib.hid hn
  rw [← hn] at hown'
  have HO2 := Lib.hid hown'
  have hz8 : xs.length ≤ 8 := hxl
  have hn8 : n ≤ 8 := by omega
  have hs2 : w.heap.size + 1 ≤ w2.heap.size := Nat.le_trans hs1 hg2.size
  clear hown hown' hg2 HC1 HG1 HRow1 hn hs1
  simp only [← HL.out]
  go_wp2_with fail
  refine (CO.out _ 10 _ HC2.out (by omega) (by omega) (by omega)).mono ?_
  rintro e w3 ⟨⟨b, rfl⟩, hc, hg⟩
  have HO3 := Lib.hid (World.ownsRow.kept HO2.out hg (.inr (fun e => absurd (row_ge (j := B) HO2.out e) (by omega))))
  have HC3 := Lib.hid hc
  have HG3 := Lib.hid (Lib.grownBy_trans HG2.out hg)
  have hs3 : w.heap.size + 1 ≤ w3.heap.size := Nat.le_trans hs2 hg.size
  clear hc hg HO2 HC2 HG2 hs2
  cases b
  · by_cases h0 : n = 0
    · have HN0 := Lib.hid h0
      have hn0 : ¬ (((n : Nat) : Int) > 0) := by omega
      clear h0
      go_wp2
      go_ret
      exact ⟨⟨_, xs, rfl, by rw [← HL.out]; exact ownsRow_mono HO3.out (Nat.le_succ _), hz8⟩, HC3.out.mono (by omega), HG3.out⟩
    · have hn0 : ((n : Nat) : Int) > 0 := by omega
      go_wp2_with fail
      refine (CP.out _ 3 _ HC3.out (by omega) (by omega) (by omega)).mono ?_
      rintro r z1 ⟨⟨c, hc0, hc1, rfl⟩, hc, hg⟩
      have HO1 := Lib.hid (World.ownsRow.kept HO3.out hg (.inr (fun e => absurd (row_ge (j := B) HO3.out e) (by omega))))
      have HC1 := Lib.hid hc
      have HG1 := Lib.hid (Lib.grownBy_trans HG3.out hg)
      clear hc hg HO3 HC3 HG3
      by_cases hcp : c > 0
      · obtain ⟨g, cap, hv, hcap, hbg, hl, hf, hcell, hrow⟩ := own_setC HO1.out (by omega) (n - 1) (by omega) (.int .i64 0)
        injection hv with e1 e2 e3
        subst e1
        obtain ⟨z, hz⟩ : ∃ z, (xs)[n - 1]? = some z := ⟨_, List.getElem?_eq_getElem (by rw [← HL.out]; omega)⟩
        have c0 := hcell (.int .i64 z) (by rw [List.getElem?_map, hz]; rfl)
        have HSet : Hid (∀ W : World, W.ownsRow (w.heap.size + 1) 3 1 (.slice (some ⟨g, 0, none⟩) n oc) n ((xs).map (.int .i64)) → ∀ X : Int, W.frozen? ⟨g, n - 1, none⟩ = false ∧ W.cell? ⟨g, n - 1, none⟩ = some (.int .i64 z) ∧ (W.setCell ⟨g, n - 1, none⟩ (.int .i64 X)).ownsRow (w.heap.size + 1) 3 1 (.slice (some ⟨g, 0, none⟩) n oc) n (((xs).set (n - 1) X).map (.int .i64))) := Lib.hid (fun W h X => row_setI h (n - 1) (by omega) z hz X)
        have hBg : B ≠ g := by omega
        have hi1 : (((n : Nat) : Int) - 1) = (((n - 1 : Nat)) : Int) := by omega
        obtain ⟨li, hli⟩ : ∃ i, i = n - 1 := ⟨_, rfl⟩
        rw [← hli] at c0 HSet hi1
        have kD : ∀ p : SeenO g li z, p.world.cell? ⟨g, li, none⟩ = some (.int .i64 z) := fun p => p.cell
        have hln : li < n := by omega
        have HLi := Lib.hid hli
        have HG1' := HG1
        have hsz1 := HG1.out.size
        clear hcell hrow hf e2 e3 hz hli hcap
        go_wp2_with fail
        refine Mx.wp_region_mix (S := fun w' => ∃ p : SeenO g li z, w' = p.world) (Mx.ofL [(0, 0), (1, 0), (2, 0), (3, 0), (4, 0), (5, 0), (6, 0), (7, 0), (8, 0), (9, 1), (10, 0), (11, 2), (12, 2), (13, 0), (14, 0), (15, 0), (16, 0), (17, 3)] .done) (by kernel_rfl) (by kernel_rfl) ⟨⟨z1.drew, c0⟩, rfl⟩ ?_
        repeat ((first | refine Mx.mix0 rfl ?_ | refine Mx.mix1 rfl ?_); go_big_quiet_step (rfl); refine wpQuiet_nil ?_)
        refine Mx.mix2 rfl ?_
        clear kD
        have HCell2 : ∀ o, Hid ((z1.alloc o).drew.cell? ⟨g, li, none⟩ = some (.int .i64 z)) := fun o => Lib.hid ((show (z1.alloc o).drew.cell? ⟨g, li, none⟩ = _ by rw [(below_drew1 (below_al z1 o)).cell hl]; exact c0))
        go_wp2
        refine Mx.mid_normal (fun _ => ⟨⟨_, (HCell2 _).out⟩, rfl⟩) ?_
        refine Mx.mix2 rfl ?_
        go_wp2_with fail
        refine (among_any B _ z1.heap.size 5 5 [18, 21, 20, 22, 19] _ (HC1.out.below (below_drew1 (below_al _ _))) (by omega) (by omega) (by simp [World.drew]) rfl (by omega) (by omega) (alloc_ints z1 _ _ _ rfl)).mono ?_
        rintro e z4 ⟨⟨q, hq, rfl⟩, hc, hg⟩
        have hg4 := Lib.grownBy_trans (grown_belowF (World.grownBy.refl z1 (some B)) (below_drew1 (below_al z1 _))) hg
        have HO5 := World.ownsRow.kept HO1.out hg4 (.inr (fun e => absurd (row_ge (j := B) HO1.out e) (by omega)))
        have HS4 := Lib.hid (HSet.out z4 HO5)
        obtain ⟨q, rfl, hq23⟩ : ∃ k : Nat, q = (k : Int) ∧ k < 23 := by
          simp only [List.mem_cons, List.not_mem_nil, or_false] at hq
          rcases hq with rfl | rfl | rfl | rfl | rfl
          · exact ⟨18, rfl, by omega⟩
          · exact ⟨21, rfl, by omega⟩
          · exact ⟨20, rfl, by omega⟩
          · exact ⟨22, rfl, by omega⟩
          · exact ⟨19, rfl, by omega⟩
        have hsh := shl_i64' q hq23
        have HC4 := Lib.hid hc
        have HG4 := Lib.hid (Lib.grownBy_trans HG1.out hg4)
        have HCell4 := Lib.hid (HSet.out z4 HO5 0).2.1
        have f0 := (HSet.out z4 HO5 0).1
        clear hg hg4 hc HO5 HSet HCell2 hq c0 HO1 HC1 HG1 HG1'
        go_wp2
        refine Mx.mid_normal (fun _ => ⟨⟨_, HCell4.out⟩, rfl⟩) ?_
        repeat (refine Mx.mix0 rfl ?_; go_big_quiet_step (rfl); refine wpQuiet_nil ?_)
        refine Mx.mix3 rfl ?_
        have c4 := HCell4.out
        go_wp2
        refine Mx.mid_normal (fun h => by cases h) ?_
        refine Mx.mix_nil ?_
        have HB5 := Lib.hid (fun X => (Below.refl w.heap.size z4).setCell (p := ⟨g, li, none⟩) (show w.heap.size ≤ g by omega) X)
        go_wp2
        go_ret
        exact ⟨⟨_, xs.set li _, rfl, by rw [List.length_set, ← HL.out]; exact ownsRow_mono (HS4.out _).2.2 (Nat.le_succ _), by rw [List.length_set]; exact hz8⟩, (HC4.out.keep ((HB5.out _).mono hBw)).mono (by omega), grown_belowF HG4.out (HB5.out _)⟩
      · go_wp2
        go_ret
        exact ⟨⟨_, xs, rfl, by rw [← HL.out]; exact ownsRow_mono HO1.out (Nat.le_succ _), hz8⟩, HC1.out.mono (by omega), HG1.out⟩
  · go_wp2_with fail
    refine (CA.out _ _ HC3.out (by omega)).mono ?_
    rintro e w4 ⟨⟨v4, ys, rfl, hr4, hy8⟩, hc, hg⟩
    have hr4' := ownsRow_mono hr4 (b' := w.heap.size + 1) hs3
    obtain ⟨oa4, oc4, rfl, _, _⟩ := (rowInts_at hr4).cells
    obtain ⟨n4, hn4⟩ : ∃ n, n = ys.length := ⟨_, rfl⟩
    have HL4 := Lib.hid hn4
    rw [← hn4] at hr4' ⊢
    have HO4 := Lib.hid hr4'
    have HC4 := Lib.hid hc
    have HG4 := Lib.hid (Lib.grownBy_trans HG3.out hg)
    have hz8 : ys.length ≤ 8 := hy8
    have hn48 : n4 ≤ 8 := by omega
    clear hc hg HO3 HC3 HG3 hr4 hr4' hn4
    by_cases h0 : n4 = 0
    · have HN0 := Lib.hid h0
      have hn0 : ¬ (((n4 : Nat) : Int) > 0) := by omega
      clear h0
      go_wp2
      go_ret
      exact ⟨⟨_, ys, rfl, by rw [← HL4.out]; exact ownsRow_mono HO4.out (Nat.le_succ _), hz8⟩, HC4.out.mono (by omega), HG4.out⟩
    · have hn0 : ((n4 : Nat) : Int) > 0 := by omega
      go_wp2_with fail
      refine (CP.out _ 3 _ HC4.out (by omega) (by omega) (by omega)).mono ?_
      rintro r z1 ⟨⟨c, hc0, hc1, rfl⟩, hc, hg⟩
      have HO1 := Lib.hid (World.ownsRow.kept HO4.out hg (.inr (fun e => absurd (row_ge (j := B) HO4.out e) (by omega))))
      have HC1 := Lib.hid hc
      have HG1 := Lib.hid (Lib.grownBy_trans HG4.out hg)
      clear hc hg HO4 HC4 HG4
      by_cases hcp : c > 0
      · obtain ⟨g, cap, hv, hcap, hbg, hl, hf, hcell, hrow⟩ := own_setC HO1.out (by omega) (n4 - 1) (by omega) (.int .i64 0)
        injection hv with e1 e2 e3
        subst e1
        obtain ⟨z, hz⟩ : ∃ z, (ys)[n4 - 1]? = some z := ⟨_, List.getElem?_eq_getElem (by rw [← HL4.out]; omega)⟩
        have c0 := hcell (.int .i64 z) (by rw [List.getElem?_map, hz]; rfl)
        have HSet : Hid (∀ W : World, W.ownsRow (w.heap.size + 1) 3 1 (.slice (some ⟨g, 0, none⟩) n4 oc4) n4 ((ys).map (.int .i64)) → ∀ X : Int, W.frozen? ⟨g, n4 - 1, none⟩ = false ∧ W.cell? ⟨g, n4 - 1, none⟩ = some (.int .i64 z) ∧ (W.setCell ⟨g, n4 - 1, none⟩ (.int .i64 X)).ownsRow (w.heap.size + 1) 3 1 (.slice (some ⟨g, 0, none⟩) n4 oc4) n4 (((ys).set (n4 - 1) X).map (.int .i64))) := Lib.hid (fun W h X => row_setI h (n4 - 1) (by omega) z hz X)
        have hBg : B ≠ g := by omega
        have hi1 : (((n4 : Nat) : Int) - 1) = (((n4 - 1 : Nat)) : Int) := by omega
        obtain ⟨li, hli⟩ : ∃ i, i = n4 - 1 := ⟨_, rfl⟩
        rw [← hli] at c0 HSet hi1
        have kD : ∀ p : SeenO g li z, p.world.cell? ⟨g, li, none⟩ = some (.int .i64 z) := fun p => p.cell
        have hln : li < n4 := by omega
        have HLi := Lib.hid hli
        have HG1' := HG1
        have hsz1 := HG1.out.size
        clear hcell hrow hf e2 e3 hz hli hcap
        go_wp2_with fail
        refine Mx.wp_region_mix (S := fun w' => ∃ p : SeenO g li z, w' = p.world) (Mx.ofL [(0, 0), (1, 0), (2, 0), (3, 0), (4, 0), (5, 0), (6, 0), (7, 0), (8, 0), (9, 1), (10, 0), (11, 2), (12, 2), (13, 0), (14, 0), (15, 0), (16, 0), (17, 3)] .done) (by kernel_rfl) (by kernel_rfl) ⟨⟨z1.drew, c0⟩, rfl⟩ ?_
        repeat ((first | refine Mx.mix0 rfl ?_ | refine Mx.mix1 rfl ?_); go_big_quiet_step (rfl); refine wpQuiet_nil ?_)
        refine Mx.mix2 rfl ?_
        clear kD
        have HCell2 : ∀ o, Hid ((z1.alloc o).drew.cell? ⟨g, li, none⟩ = some (.int .i64 z)) := fun o => Lib.hid ((show (z1.alloc o).drew.cell? ⟨g, li, none⟩ = _ by rw [(below_drew1 (below_al z1 o)).cell hl]; exact c0))
        go_wp2
        refine Mx.mid_normal (fun _ => ⟨⟨_, (HCell2 _).out⟩, rfl⟩) ?_
        refine Mx.mix2 rfl ?_
        go_wp2_with fail
        refine (among_any B _ z1.heap.size 5 5 [18, 21, 20, 22, 19] _ (HC1.out.below (below_drew1 (below_al _ _))) (by omega) (by omega) (by simp [World.drew]) rfl (by omega) (by omega) (alloc_ints z1 _ _ _ rfl)).mono ?_
        rintro e z4 ⟨⟨q, hq, rfl⟩, hc, hg⟩
        have hg4 := Lib.grownBy_trans (grown_belowF (World.grownBy.refl z1 (some B)) (below_drew1 (below_al z1 _))) hg
        have HO5 := World.ownsRow.kept HO1.out hg4 (.inr (fun e => absurd (row_ge (j := B) HO1.out e) (by omega)))
        have HS4 := Lib.hid (HSet.out z4 HO5)
        obtain ⟨q, rfl, hq23⟩ : ∃ k : Nat, q = (k : Int) ∧ k < 23 := by
          simp only [List.mem_cons, List.not_mem_nil, or_false] at hq
          rcases hq with rfl | rfl | rfl | rfl | rfl
          · exact ⟨18, rfl, by omega⟩
          · exact ⟨21, rfl, by omega⟩
          · exact ⟨20, rfl, by omega⟩
          · exact ⟨22, rfl, by omega⟩
          · exact ⟨19, rfl, by omega⟩
        have hsh := shl_i64' q hq23
        have HC4 := Lib.hid hc
        have HG4 := Lib.hid (Lib.grownBy_trans HG1.out hg4)
        have HCell4 := Lib.hid (HSet.out z4 HO5 0).2.1
        have f0 := (HSet.out z4 HO5 0).1
        clear hg hg4 hc HO5 HSet HCell2 hq c0 HO1 HC1 HG1 HG1'
        go_wp2
        refine Mx.mid_normal (fun _ => ⟨⟨_, HCell4.out⟩, rfl⟩) ?_
        repeat (refine Mx.mix0 rfl ?_; go_big_quiet_step (rfl); refine wpQuiet_nil ?_)
        refine Mx.mix3 rfl ?_
        have c4 := HCell4.out
        go_wp2
        refine Mx.mid_normal (fun h => by cases h) ?_
        refine Mx.mix_nil ?_
        have HB5 := Lib.hid (fun X => (Below.refl w.heap.size z4).setCell (p := ⟨g, li, none⟩) (show w.heap.size ≤ g by omega) X)
        go_wp2
        go_ret
        exact ⟨⟨_, ys.set li _, rfl, by rw [List.length_set, ← HL4.out]; exact ownsRow_mono (HS4.out _).2.2 (Nat.le_succ _), by rw [List.length_set]; exact hz8⟩, (HC4.out.keep ((HB5.out _).mono hBw)).mono (by omega), grown_belowF HG4.out (HB5.out _)⟩
      · go_wp2
        go_ret
        exact ⟨⟨_, ys, rfl, by rw [← HL4.out]; exact ownsRow_mono HO1.out (Nat.le_succ _), hz8⟩, HC1.out.mono (by omega), HG1.out⟩
end Go.Proofs.Ytnjbaomekbiflaa

namespace Go.Proofs.Ytnjbaomekbiflaa
set_option maxRecDepth 100000
open Go.RowKit

theorem results_tF2 {fn : Func} {p u : Tmp} (h : fn.results = #[.tmp u, .cell p 39]) (tmps : Array Value) (w : World) (g : Nat) (k : Int) (t : ByteArray)
    (hp : tmps.getD p undef = .pointer (some ⟨g, 0, none⟩)) (hg : w.heap[g]? = some (.cells #[.int .i64 k, .string t] 39 (0, 0))) :
    (results fn tmps).run Try.prog w = .ok (.tuple #[tmps.getD u undef, atV k t]) w := by
  have hr := run_loadVar_row (P := Try.prog) w g _ 39 _ _ _ hg Try.underlying39 rfl (by kernel_rfl)
  have hp' : tmps[p]?.getD undef = .pointer (some ⟨g, 0, none⟩) := by simpa using hp
  simp [results, h, hp', asAddr, hr, Result.andThen, atV]
/-- A drawn outline and a drawn fold. -/
def DOF (base : Nat) (w' : World) (r : Ending) : Prop := ∃ (v : Value) (xs : List Int) (k : Int) (t : ByteArray), r = .returned (.tuple #[v, atV k t]) ∧ IntsM w' v xs ∧ xs.length ≤ 8 ∧ t.size ≤ 16 ∧ ∀ b, v.ownBlock = some b → base ≤ b
/-- A world in which a fold's box is seen. -/
structure SeenF (D : Nat) (k : Int) (t : ByteArray) where
  world : World
  c0 : world.cell? ⟨D, 0, none⟩ = some (.int .i64 k)
  c1 : world.cell? ⟨D, 1, none⟩ = some (.string t)
set_option maxHeartbeats 2000000 in
theorem drawUnfold_any (a : Option Addr) (n cap : Nat) (w : World) (h : CodeAt w a n) :
    Calls Try.prog 46 #[.slice a n cap] w fun r w' => DOF w.heap.size w' r ∧ Below w.heap.size w w' := by
  have cf := fun B N w h hN => drawFold_any B N w h hN
  have cd := fun B N w h hN => dictionary_any B N w h hN
  have co := fun B N base v us w h hr hB hl hs hN => drawFoldOutline_any B N base v us w h hr hB hl hs hN
  unfold DF1 at cf
  unfold dV at cd
  unfold dV Drawn at co
  have CF := Lib.hid cf
  have CD := Lib.hid cd
  have CO := Lib.hid co
  clear cf cd co
  obtain ⟨w0, hw0⟩ : ∃ W, W = (w.alloc (.cells #[.int .i64 0, .string ⟨#[]⟩] 39)).alloc (.cells #[.slice a n cap, .int .i64 0, .int .u64 0] 82) := ⟨_, rfl⟩
  have hb0 : Below w.heap.size w w0 := by rw [hw0]; exact below_al2 _ _ _
  have hs0 : w0.heap.size = w.heap.size + 1 + 1 := by rw [hw0]; simp
  have R0 : Hid (BoxW w0 w.heap.size 39 (.int .i64 0) (.string ⟨#[]⟩)) := by rw [hw0]; exact (BoxW.new w _ _ _).below (below_al _ _) (by simp)
  have C0 : Hid (Cur w0 (w.heap.size + 1) 0) := by
    have e := cur_new (w.alloc (.cells #[.int .i64 0, .string ⟨#[]⟩] 39)) a n cap 82 (h.below (below_al _ _))
    rw [World.size_alloc] at e
    rw [hw0]; exact e
  have HB0 := Lib.hid hb0
  have HW0 := Lib.hid hw0
  clear h hb0 hw0
  go_enter Try.func46, Try.ntmps46
  go_wp2_with fail
  rw [← HW0.out]
  refine (CF.out _ _ _ C0.out (by omega)).mono ?_
  rintro r w1 ⟨⟨k, t, rfl, ht⟩, hc1, hg1⟩
  have hs1 : w0.heap.size ≤ w1.heap.size := hg1.size
  have hb1 : Below w.heap.size w w1 := HB0.out.grown hg1 (by omega) (fun b e => by injection e with e; omega)
  have R1 := Lib.hid (R0.out.grown hg1 (by omega))
  have C1 := Lib.hid hc1
  have HB1 := Lib.hid hb1
  obtain ⟨W, hW⟩ : ∃ W, W = w1.alloc (.cells #[.int .i64 k, .string t] 39) := ⟨_, rfl⟩
  have hbA : Below w1.heap.size w1 W := by rw [hW]; exact below_al _ _
  have X2 : Hid (BoxW W w1.heap.size 39 (.int .i64 k) (.string t)) := by rw [hW]; exact BoxW.new _ _ _ _
  have R2 := Lib.hid (R1.out.below hbA R1.out.lt)
  have C2 := Lib.hid (hc1.below hbA)
  have HB2 := Lib.hid (below_step hb1 hbA)
  have hs2 : w1.heap.size ≤ W.heap.size := hbA.size
  have HW := Lib.hid hW
  have d0 := X2.out.cell0
  have d1 := X2.out.cell1
  have kD0 : ∀ p : SeenF w1.heap.size k t, p.world.cell? ⟨w1.heap.size, 0, none⟩ = some (.int .i64 k) := fun p => p.c0
  have kD1 : ∀ p : SeenF w1.heap.size k t, p.world.cell? ⟨w1.heap.size, 1, none⟩ = some (.string t) := fun p => p.c1
  unfold atV
  clear hW hc1 hg1 hb1 hbA R0 C0 HB0 HW0 CF R1 C1 HB1
  go_wp2_with fail
  rw [← HW.out]
  refine Mx.wp_region_mix (S := fun w' => ∃ p : SeenF w1.heap.size k t, w' = p.world) (Mx.ofL [(0, 0), (1, 0), (4, 1), (2, 2), (3, 2), (5, 0), (6, 3)] .done) (by kernel_rfl) (by kernel_rfl) ⟨⟨W.drew, X2.out.cell0, X2.out.cell1⟩, rfl⟩ ?_
  repeat ((first | refine Mx.mix0 rfl ?_ | refine Mx.mix1 rfl ?_); go_big_quiet_step (rfl); refine wpQuiet_nil ?_)
  refine Mx.mix2 rfl ?_
  have hdr : Below W.heap.size W W.drew := below_drew1 (Below.refl _ _)
  clear d0 d1 kD0 kD1
  go_wp2_with fail
  refine (CD.out _ _ W.drew (C2.out.below hdr) (by omega)).mono ?_
  rintro r w3 ⟨⟨v, us, rfl, hr3, _, hl3, hx3⟩, hc3, hg3⟩
  obtain ⟨va, vc, rfl⟩ := hr3.form
  have X3 := Lib.hid ((X2.out.below hdr X2.out.lt).grown hg3 (by omega))
  have R3 := Lib.hid ((R2.out.below hdr R2.out.lt).grown hg3 (by omega))
  have HB3 : Hid (Below w.heap.size w w3) := (below_step HB2.out hdr).grown hg3 (by show w.heap.size ≤ W.heap.size; omega) (fun b e => by injection e with e; omega)
  have C3 := Lib.hid hc3
  have V3 := Lib.hid hr3
  have HX := Lib.hid hx3
  have hs3 : W.heap.size ≤ w3.heap.size := hg3.size
  have hc0 := X3.out.cell0
  have hc1 := X3.out.cell1
  have HC0 := Lib.hid hc0
  have HC1 := Lib.hid hc1
  clear hr3 hx3 hc3 hg3 hdr X2 R2 C2 HB2 HW hc0 hc1
  go_wp2
  refine Mx.mid_normal (fun _ => ⟨⟨_, HC0.out, HC1.out⟩, rfl⟩) ?_
  refine Mx.mix2 rfl ?_
  go_wp2_with fail
  refine (CO.out _ _ W.heap.size _ us w3 C3.out (V3.out.mono (by exact Nat.le_refl _)) (by omega) (by omega) HX.out (by omega)).mono ?_
  rintro r w4 ⟨⟨u, xs, rfl, ho, hxl⟩, hc4, hg4⟩
  have X4 := Lib.hid (X3.out.grown hg4 (by omega))
  have R4 := Lib.hid (R3.out.grown hg4 (by omega))
  have HB4 : Hid (Below w.heap.size w w4) := HB3.out.grown hg4 (by omega) (fun b e => by injection e with e; omega)
  have HI := Lib.hid (row_M ho)
  have HLb : Hid (∀ b, u.ownBlock = some b → w.heap.size ≤ b) := fun b hb => by have := (ho.lt b hb).1; omega
  have HL : Hid (∀ b, u.ownBlock = some b → b ≠ w.heap.size) := fun b hb e => by have := (ho.lt b hb).1; omega
  have hc0 := X4.out.cell0
  have hc1 := X4.out.cell1
  have HC0 := Lib.hid hc0
  have HC1 := Lib.hid hc1
  have cR0 := R4.out.cell0
  have cR1 := R4.out.cell1
  have fR0 := R4.out.frozen 0
  have fR1 := R4.out.frozen 1
  clear ho hc4 hg4 X3 R3 C3 V3 HB3 hc0 hc1
  go_wp2
  refine Mx.mid_normal (fun _ => ⟨⟨_, HC0.out, HC1.out⟩, rfl⟩) ?_
  refine Mx.mix0 rfl ?_
  go_big_quiet_step (rfl)
  refine wpQuiet_nil ?_
  refine Mx.mix3 rfl ?_
  go_wp2
  refine Mx.mid_normal (fun q => by cases q) ?_
  refine Mx.mix_nil ?_
  go_wp2
  refine bodyPost_ret (results_tF2 rfl _ _ w.heap.size k t rfl ((R4.out.set0 _).set1 _)) rfl ?_
  exact ⟨⟨_, xs, k, t, rfl, HI.out.touch (T := fun b => b = w.heap.size) (((Touch.refl (fun b => b = w.heap.size) _).setCell (g := w.heap.size) rfl _ _).setCell (g := w.heap.size) rfl _ _) HL.out, hxl, ht, HLb.out⟩, (HB4.out.setCell (p := ⟨w.heap.size, 0, none⟩) (Nat.le_refl _) _).setCell (p := ⟨w.heap.size, 1, none⟩) (Nat.le_refl _) _⟩
theorem drawFoldInto_any (a : Option Addr) (n cap : Nat) (w : World) (h : CodeAt w a n) :
    Calls Try.prog 31 #[.slice a n cap] w fun r w' => DOF w.heap.size w' r ∧ Below w.heap.size w w' := by
  have cu := fun w h => drawUnfold_any a n cap w h
  unfold DOF at cu
  have CU := Lib.hid cu
  clear cu
  obtain ⟨W, hW⟩ : ∃ W, W = w.alloc (.cells #[.int .i64 0, .string ⟨#[]⟩] 39) := ⟨_, rfl⟩
  have hbW : Below w.heap.size w W := by rw [hW]; exact below_al _ _
  have X0 : Hid (BoxW W w.heap.size 39 (.int .i64 0) (.string ⟨#[]⟩)) := by rw [hW]; exact BoxW.new _ _ _ _
  have HA := Lib.hid (h.below hbW)
  have HB := Lib.hid hbW
  have HW := Lib.hid hW
  have hsW : W.heap.size = w.heap.size + 1 := by rw [hW]; simp
  clear h hW hbW
  go_enter Try.func31, Try.ntmps31
  go_wp2_with fail
  rw [← HW.out]
  refine (CU.out W HA.out).mono ?_
  rintro r w1 ⟨⟨v, xs, k, t, rfl, hi, hxl, ht, hvb⟩, hb⟩
  have X1 := Lib.hid (X0.out.below hb X0.out.lt)
  have c0 := X1.out.cell0
  have c1 := X1.out.cell1
  have f0 := X1.out.frozen 0
  have f1 := X1.out.frozen 1
  have HL := Lib.hid hvb
  have HI := Lib.hid hi
  have HB1 := Lib.hid (below_step HB.out hb)
  unfold atV
  clear hi hb hvb X0
  go_wp2
  refine bodyPost_ret (results_tF2 rfl _ _ w.heap.size k t rfl ((X1.out.set0 _).set1 _)) rfl ?_
  exact ⟨⟨_, xs, k, t, rfl, HI.out.touch (T := fun b => b = w.heap.size) (((Touch.refl (fun b => b = w.heap.size) _).setCell (g := w.heap.size) rfl _ _).setCell (g := w.heap.size) rfl _ _) (fun b hb => by have := HL.out b hb; omega), hxl, ht, fun b hb => by have := HL.out b hb; omega⟩, (HB1.out.setCell (p := ⟨w.heap.size, 0, none⟩) (Nat.le_refl _) _).setCell (p := ⟨w.heap.size, 1, none⟩) (Nat.le_refl _) _⟩
end Go.Proofs.Ytnjbaomekbiflaa

namespace Go.Proofs.Ytnjbaomekbiflaa.fnFoldInverse
open Go.ChangeShapes Go.WideShapes Go.ChangeAt Go.RowKit
open Go.ChangeMaps (open_string shut_string)
set_option linter.unusedVariables false
set_option maxRecDepth 100000

theorem own : ownKnob Try.prog.godebug = none := by kernel_rfl
theorem laidOut : laidOutB Try.prog = true := by kernel_rfl

/-- A slice of integers that came in. -/
def IsRow (k : IntKind) (w : World) (a : Option Addr) (len cap : Nat) (zs : List Int) : Prop :=
  (a = none ∧ len = 0 ∧ cap = 0 ∧ zs = []) ∨
  ∃ x, a = some x ∧ len ≤ cap ∧ cap ≤ maxLen ∧ zs.length = cap ∧ (∀ i, i < zs.length → w.cell? (x.add i) = some (.int k (zs.getD i 0))) ∧ ∀ n ∈ zs, (Lit.int k n).wf = true

theorem code_of {w : World} {a : Option Addr} {n c : Nat} {z : List Int} (h : IsRow .u8 w a n c z) (hn : n ≤ 1000000) : CodeAt w a n := by
  refine ⟨hn, fun h0 => ?_⟩
  rcases h with ⟨rfl, rfl, rfl, rfl⟩ | ⟨x, rfl, hl, hm, hz, hcell, hwz⟩
  · omega
  · obtain ⟨b, o, spot⟩ := x
    have h1 := hcell 0 (by omega)
    have hspot : spot = none := by simpa [Addr.add] using World.cell?_spot h1
    subst hspot
    refine ⟨b, o, rfl, ?_, fun i hi => ?_⟩
    · have : (w.cell? ⟨b, o, none⟩).isSome := by have := h1; simp [Addr.add] at this; rw [this]; rfl
      rcases Nat.lt_or_ge b w.heap.size with h' | h'
      · exact h'
      · simp [World.cell?, Array.getElem?_eq_none h'] at this
    · have h2 := hcell i (by omega)
      have h3 := bounds_u8 (hwz (z.getD i 0) (by rw [List.getD_eq_getElem?_getD, List.getElem?_eq_getElem (by omega)]; exact List.getElem_mem _))
      refine ⟨z.getD i 0, h3.1, h3.2, ?_⟩
      by_cases hi0 : i = 0
      · subst hi0; simpa [Addr.add] using h2
      · simpa [Addr.add, hi0] using h2
theorem row_len {w : World} {a : Option Addr} {n c : Nat} {z : List Int} (h : IsRow .u8 w a n c z) : n ≤ maxLen := by
  rcases h with ⟨_, rfl, _, _⟩ | ⟨x, _, hl, hm, _⟩
  · exact Nat.zero_le _
  · omega
theorem own_m {w : World} {base : Nat} {v : Value} {xs : List Int} (h : OwnInts w base v xs.length (fun j => xs.getD j 0)) (h0 : 0 < xs.length) : IntsM w v xs := by
  obtain ⟨bk, o, cap, rfl, hc, hk, hcell⟩ := h.ints.block h0
  exact .inr ⟨bk, o, cap, rfl, hc, hk, hcell⟩
/-- A fold was added: it can be taken away, and gives the outline back. -/
theorem int_unf {xs : List Int} {k : Int} {t : ByteArray} (h : intB xs k t = true) : unfB (intI xs k t) k t = true ∧ unfI (intI xs k t) k t = xs ∧ unfB xs k t = false ∧ 0 < (intI xs k t).length := by
  have h0 := h
  unfold intB at h
  simp only [Bool.and_eq_true, Bool.not_eq_true'] at h
  obtain ⟨⟨h1, h2⟩, h3⟩ := h
  obtain ⟨⟨q, hq, hq0, hq1⟩, _⟩ := Pl.okF_parts h2
  dsimp only at hq
  subst hq
  obtain ⟨ys, s, rfl, hs0, hs1, hl, hy⟩ := okO_snoc h1
  rw [lastN_snoc, Int.toNat_natCast] at h3
  have e : intI (ys ++ [(s : Int)]) (q : Int) t = ys ++ [((s + 2 ^ q : Nat) : Int)] := by
    unfold intI
    rw [if_pos h0, lastN_snoc, List.dropLast_concat, Int.toNat_natCast]
  have ho := Pl.or_two (s := s) (q := q) (by omega) (by omega) h3
  have hlt : s + 2 ^ q < 8388608 := by rw [← ho]; exact Pl.or_lt s q (by omega) (by omega)
  have ht : (s + 2 ^ q).testBit q = true := by rw [← ho, Nat.testBit_or, Nat.testBit_two_pow]; simp
  have hp : 0 < 2 ^ q := Nat.two_pow_pos q
  have hb : unfB (ys ++ [((s + 2 ^ q : Nat) : Int)]) (q : Int) t = true := by
    unfold unfB un0B
    rw [okO_of hl hy (by omega) hlt, h2, lastN_snoc, Int.toNat_natCast, ht]
    simp; omega
  rw [e]
  refine ⟨hb, ?_, ?_, by simp⟩
  · unfold unfI
    rw [if_pos hb, lastN_snoc, List.dropLast_concat, Int.toNat_natCast, Nat.add_sub_cancel]
  · unfold unfB un0B
    rw [lastN_snoc, Int.toNat_natCast, h3]
    simp
/-- A fold was taken away: added again it gives the outline back. -/
theorem unf_int {xs : List Int} {k : Int} {t : ByteArray} (h : unfB xs k t = true) : intB (unfI xs k t) k t = true ∧ intI (unfI xs k t) k t = xs ∧ intB xs k t = false ∧ 0 < (unfI xs k t).length := by
  have h0 := h
  unfold unfB un0B at h
  simp only [Bool.and_eq_true, Bool.not_eq_true', decide_eq_false_iff_not] at h
  obtain ⟨⟨h1, h2⟩, h3, h4⟩ := h
  obtain ⟨⟨q, hq, hq0, hq1⟩, _⟩ := Pl.okF_parts h2
  dsimp only at hq
  subst hq
  obtain ⟨ys, s, rfl, hs0, hs1, hl, hy⟩ := okO_snoc h1
  rw [lastN_snoc, Int.toNat_natCast] at h3 h4
  have e : unfI (ys ++ [(s : Int)]) (q : Int) t = ys ++ [((s - 2 ^ q : Nat) : Int)] := by
    unfold unfI
    rw [if_pos h0, lastN_snoc, List.dropLast_concat, Int.toNat_natCast]
  obtain ⟨hle, hf, _⟩ := Pl.split_two (s := s) (q := q) (by omega) (by omega) h3
  have hb : intB (ys ++ [((s - 2 ^ q : Nat) : Int)]) (q : Int) t = true := by
    unfold intB
    rw [okO_of hl hy (Nat.sub_pos_of_lt (Nat.lt_of_le_of_ne hle (fun e => h4 e.symm))) (Nat.lt_of_le_of_lt (Nat.sub_le _ _) hs1), h2, lastN_snoc, Int.toNat_natCast, hf]
    rfl
  rw [e]
  refine ⟨hb, ?_, ?_, by simp⟩
  · unfold intI
    rw [if_pos hb, lastN_snoc, List.dropLast_concat, Int.toNat_natCast, Nat.sub_add_cancel hle]
  · unfold intB
    rw [lastN_snoc, Int.toNat_natCast, h3]
    simp
theorem fi_same (v u : Value) (xs : List Int) (w : World) (h : IntsAt w v xs) (h' : IntsAt w u xs) (hn : xs.length ≤ 2097152) :
    Calls Try.prog 32 #[v, u] w fun e w' => e = .returned (.bool true) ∧ Below w.heap.size w w' := by
  refine (rI_any v u xs xs w h h' hn hn).mono ?_
  rintro e w' ⟨rfl, hb⟩
  exact ⟨ret_bool (decide_eq_true rfl), hb⟩
/-! ### THE WALK: the Go text returns true, and writes nothing that was there. -/
set_option maxRecDepth 100000 in
set_option maxHeartbeats 8000000 in
theorem walk (a0 : Option Addr) (n0 c0 : Nat) (z0 : List Int) (w : World) (hS : w.ShapedOpen Try.prog)  (w0 : IsRow .u8 w a0 n0 c0 z0) :
    Calls Try.prog 8 #[.slice a0 n0 c0] w fun e w' => e = .returned (.bool true) ∧ Below w.heap.size w w' := by
  have hnm := row_len w0
  by_cases hbig : 65536 < n0
  · have C := Lib.hid (rBig_yes a0 n0 c0 w hbig hnm)
    clear w0 hS hnm
    go_enter Try.func8, Try.ntmps8
    go_wp2_with fail
    refine C.out.mono ?_
    rintro e w1 ⟨rfl, rfl⟩
    go_wp2
    go_ret
    exact ⟨rfl, Below.refl _ _⟩
  · have C := Lib.hid (rBig_no a0 n0 c0 w (by omega))
    have HC0 := Lib.hid (code_of w0 (by omega))
    have cdr := fun w h => drawFoldInto_any a0 n0 c0 w h
    unfold DOF at cdr
    have CDR := Lib.hid cdr
    clear w0 hS hnm hbig cdr
    go_enter Try.func8, Try.ntmps8
    go_wp2_with fail
    refine C.out.mono ?_
    rintro e w0 ⟨rfl, rfl⟩
    go_wp2_with fail
    refine (CDR.out _ HC0.out).mono ?_
    rintro e w1 ⟨⟨v, xs, k, t, rfl, hi, hxl, ht, _⟩, hb1⟩
    have HB1 := Lib.hid hb1
    obtain ⟨W, hW⟩ : ∃ W, W = w1.alloc (.cells #[.int .i64 k, .string t] 39) := ⟨_, rfl⟩
    have hbA : Below w1.heap.size w1 W := by rw [hW]; exact below_al _ _
    have X0 : Hid (BoxW W w1.heap.size 39 (.int .i64 k) (.string t)) := by rw [hW]; exact BoxW.new _ _ _ _
    have I0 := Lib.hid (hi.below hbA)
    have B0 := Lib.hid (below_step hb1 hbA)
    have HW := Lib.hid hW
    have ci := fun v w h => FoldInto_any v xs k t w h (by omega) (by omega)
    have cs := fun v w h => specFoldInto_any v xs k t w h (by omega) (by omega)
    have di := fun v w h => Unfold_any v xs k t w h (by omega) (by omega)
    have ds := fun v w h => specUnfold_any v xs k t w h (by omega) (by omega)
    have CQ := Lib.hid (fun v u xs w h h' hn => fi_same v u xs w h h' hn)
    have hl1 := intI_len xs k t
    have hl2 := unfI_len xs k t
    unfold OutO at ci di
    unfold OutE at cs ds
    unfold atV at ci di cs ds ⊢
    have d0 := X0.out.cell0
    have d1 := X0.out.cell1
    rw [HW.out] at d0 d1
    clear hb1 hbA hW HB1 hi HC0 C CDR
    have hcase : (intB xs k t = true ∧ unfB xs k t = false) ∨ (intB xs k t = false ∧ unfB xs k t = true) ∨ (intB xs k t = false ∧ unfB xs k t = false) := by
      cases h1 : intB xs k t
      · cases unfB xs k t <;> simp
      · exact .inl ⟨rfl, (int_unf h1).2.2.1⟩
    rcases hcase with ⟨h1, h2⟩ | ⟨h1, h2⟩ | ⟨h1, h2⟩
    · rw [h1] at ci cs
      rw [h2] at di ds
      obtain ⟨e1, e2, _, e4⟩ := int_unf h1
      have ca := fun v w h => Unfold_any v (intI xs k t) k t w h (by omega) (by omega)
      rw [e1, e2] at ca
      unfold OutO atV at ca
      have HCA := Lib.hid ca
      have HL0 := Lib.hid e4
      have CI := Lib.hid ci
      have CS := Lib.hid cs
      have DI := Lib.hid di
      have DS := Lib.hid ds
      clear ci cs di ds h1 h2 e1 e2 e4 ca
      go_wp2_with fail
      rw [← HW.out]
      refine (CI.out _ W I0.out).mono ?_
      rintro e v1 ⟨⟨g, rfl, hg⟩, hb⟩
      have X1 := Lib.hid (X0.out.below hb X0.out.lt)
      have I1 := Lib.hid (I0.out.below hb)
      have B1 := Lib.hid (below_step B0.out hb)
      have G1 := Lib.hid hg
      clear hg hb X0 I0 B0 HW d0 d1
      have d0 := X1.out.cell0
      have d1 := X1.out.cell1
      go_wp2_with fail
      refine (CS.out _ v1 I1.out).mono ?_
      rintro e v2 ⟨⟨u, rfl, hu⟩, hb⟩
      have X2 := Lib.hid (X1.out.below hb X1.out.lt)
      have I2 := Lib.hid (I1.out.below hb)
      have B2 := Lib.hid (below_step B1.out hb)
      have G2 := Lib.hid (G1.out.below hb)
      have U2 := Lib.hid hu
      clear hu hb X1 I1 B1 G1 d0 d1
      have d0 := X2.out.cell0
      have d1 := X2.out.cell1
      go_wp2_with fail
      refine (DI.out _ v2 I2.out).mono ?_
      rintro e v3 ⟨⟨h, rfl, hh⟩, hb⟩
      have X3 := Lib.hid (X2.out.below hb X2.out.lt)
      have I3 := Lib.hid (I2.out.below hb)
      have B3 := Lib.hid (below_step B2.out hb)
      have G3 := Lib.hid (G2.out.below hb)
      have U3 := Lib.hid (U2.out.below hb)
      have H3 := Lib.hid hh
      clear hh hb X2 I2 B2 G2 U2 d0 d1
      have d0 := X3.out.cell0
      have d1 := X3.out.cell1
      go_wp2_with fail
      refine (DS.out _ v3 I3.out).mono ?_
      rintro e v4 ⟨⟨m, rfl, hm⟩, hb⟩
      have X4 := Lib.hid (X3.out.below hb X3.out.lt)
      have I4 := Lib.hid (I3.out.below hb)
      have B4 := Lib.hid (below_step B3.out hb)
      have G4 := Lib.hid (G3.out.below hb)
      have U4 := Lib.hid (U3.out.below hb)
      have H4 := Lib.hid (H3.out.below hb)
      have M4 := Lib.hid hm
      clear hm hb X3 I3 B3 G3 U3 H3 d0 d1
      go_wp2_with fail
      refine (CQ.out g u _ v4 G4.out.ints U4.out (by omega)).mono ?_
      rintro e v5 ⟨rfl, hb⟩
      have X5 := Lib.hid (X4.out.below hb X4.out.lt)
      have I5 := Lib.hid (I4.out.below hb)
      have B5 := Lib.hid (below_step B4.out hb)
      have G5 := Lib.hid (G4.out.below hb)
      have H5 := Lib.hid (H4.out.below hb)
      have M5 := Lib.hid (M4.out.below hb)
      clear hb X4 I4 B4 G4 U4 H4 M4
      go_wp2_with fail
      refine (CQ.out h m _ v5 H5.out.ints M5.out (by omega)).mono ?_
      rintro e v6 ⟨rfl, hb⟩
      have X6 := Lib.hid (X5.out.below hb X5.out.lt)
      have I6 := Lib.hid (I5.out.below hb)
      have B6 := Lib.hid (below_step B5.out hb)
      have G6 := Lib.hid (G5.out.below hb)
      have H6 := Lib.hid (H5.out.below hb)
      clear hb X5 I5 B5 G5 H5 M5
      have d0 := X6.out.cell0
      have d1 := X6.out.cell1
      go_wp2_with fail
      refine (HCA.out _ v6 (own_m G6.out HL0.out)).mono ?_
      rintro e v7 ⟨⟨z, rfl, hz⟩, hb⟩
      have I7 := Lib.hid (I6.out.below hb)
      have B7 := Lib.hid (below_step B6.out hb)
      have Z7 := Lib.hid hz
      clear hz hb X6 I6 B6 G6 H6 d0 d1
      go_wp2_with fail
      refine (CQ.out z v _ v7 Z7.out.ints I7.out.at (by omega)).mono ?_
      rintro e v8 ⟨rfl, hb⟩
      have B8 := Lib.hid (below_step B7.out hb)
      clear hb
      go_wp2
      go_ret
      exact ⟨rfl, B8.out⟩
    · rw [h1] at ci cs
      rw [h2] at di ds
      obtain ⟨e1, e2, _, e4⟩ := unf_int h2
      have ca := fun v w h => FoldInto_any v (unfI xs k t) k t w h (by omega) (by omega)
      rw [e1, e2] at ca
      unfold OutO atV at ca
      have HCA := Lib.hid ca
      have HL0 := Lib.hid e4
      have CI := Lib.hid ci
      have CS := Lib.hid cs
      have DI := Lib.hid di
      have DS := Lib.hid ds
      clear ci cs di ds h1 h2 e1 e2 e4 ca
      go_wp2_with fail
      rw [← HW.out]
      refine (CI.out _ W I0.out).mono ?_
      rintro e v1 ⟨⟨g, rfl, hg⟩, hb⟩
      have X1 := Lib.hid (X0.out.below hb X0.out.lt)
      have I1 := Lib.hid (I0.out.below hb)
      have B1 := Lib.hid (below_step B0.out hb)
      have G1 := Lib.hid hg
      clear hg hb X0 I0 B0 HW d0 d1
      have d0 := X1.out.cell0
      have d1 := X1.out.cell1
      go_wp2_with fail
      refine (CS.out _ v1 I1.out).mono ?_
      rintro e v2 ⟨⟨u, rfl, hu⟩, hb⟩
      have X2 := Lib.hid (X1.out.below hb X1.out.lt)
      have I2 := Lib.hid (I1.out.below hb)
      have B2 := Lib.hid (below_step B1.out hb)
      have G2 := Lib.hid (G1.out.below hb)
      have U2 := Lib.hid hu
      clear hu hb X1 I1 B1 G1 d0 d1
      have d0 := X2.out.cell0
      have d1 := X2.out.cell1
      go_wp2_with fail
      refine (DI.out _ v2 I2.out).mono ?_
      rintro e v3 ⟨⟨h, rfl, hh⟩, hb⟩
      have X3 := Lib.hid (X2.out.below hb X2.out.lt)
      have I3 := Lib.hid (I2.out.below hb)
      have B3 := Lib.hid (below_step B2.out hb)
      have G3 := Lib.hid (G2.out.below hb)
      have U3 := Lib.hid (U2.out.below hb)
      have H3 := Lib.hid hh
      clear hh hb X2 I2 B2 G2 U2 d0 d1
      have d0 := X3.out.cell0
      have d1 := X3.out.cell1
      go_wp2_with fail
      refine (DS.out _ v3 I3.out).mono ?_
      rintro e v4 ⟨⟨m, rfl, hm⟩, hb⟩
      have X4 := Lib.hid (X3.out.below hb X3.out.lt)
      have I4 := Lib.hid (I3.out.below hb)
      have B4 := Lib.hid (below_step B3.out hb)
      have G4 := Lib.hid (G3.out.below hb)
      have U4 := Lib.hid (U3.out.below hb)
      have H4 := Lib.hid (H3.out.below hb)
      have M4 := Lib.hid hm
      clear hm hb X3 I3 B3 G3 U3 H3 d0 d1
      go_wp2_with fail
      refine (CQ.out g u _ v4 G4.out.ints U4.out (by omega)).mono ?_
      rintro e v5 ⟨rfl, hb⟩
      have X5 := Lib.hid (X4.out.below hb X4.out.lt)
      have I5 := Lib.hid (I4.out.below hb)
      have B5 := Lib.hid (below_step B4.out hb)
      have G5 := Lib.hid (G4.out.below hb)
      have H5 := Lib.hid (H4.out.below hb)
      have M5 := Lib.hid (M4.out.below hb)
      clear hb X4 I4 B4 G4 U4 H4 M4
      go_wp2_with fail
      refine (CQ.out h m _ v5 H5.out.ints M5.out (by omega)).mono ?_
      rintro e v6 ⟨rfl, hb⟩
      have X6 := Lib.hid (X5.out.below hb X5.out.lt)
      have I6 := Lib.hid (I5.out.below hb)
      have B6 := Lib.hid (below_step B5.out hb)
      have G6 := Lib.hid (G5.out.below hb)
      have H6 := Lib.hid (H5.out.below hb)
      clear hb X5 I5 B5 G5 H5 M5
      have d0 := X6.out.cell0
      have d1 := X6.out.cell1
      go_wp2_with fail
      refine (HCA.out _ v6 (own_m H6.out HL0.out)).mono ?_
      rintro e v7 ⟨⟨z, rfl, hz⟩, hb⟩
      have I7 := Lib.hid (I6.out.below hb)
      have B7 := Lib.hid (below_step B6.out hb)
      have Z7 := Lib.hid hz
      clear hz hb X6 I6 B6 G6 H6 d0 d1
      go_wp2_with fail
      refine (CQ.out z v _ v7 Z7.out.ints I7.out.at (by omega)).mono ?_
      rintro e v8 ⟨rfl, hb⟩
      have B8 := Lib.hid (below_step B7.out hb)
      clear hb
      go_wp2
      go_ret
      exact ⟨rfl, B8.out⟩
    · rw [h1] at ci cs
      rw [h2] at di ds
      have CI := Lib.hid ci
      have CS := Lib.hid cs
      have DI := Lib.hid di
      have DS := Lib.hid ds
      clear ci cs di ds h1 h2
      go_wp2_with fail
      rw [← HW.out]
      refine (CI.out _ W I0.out).mono ?_
      rintro e v1 ⟨⟨g, rfl, hg⟩, hb⟩
      have X1 := Lib.hid (X0.out.below hb X0.out.lt)
      have I1 := Lib.hid (I0.out.below hb)
      have B1 := Lib.hid (below_step B0.out hb)
      have G1 := Lib.hid hg
      clear hg hb X0 I0 B0 HW d0 d1
      have d0 := X1.out.cell0
      have d1 := X1.out.cell1
      go_wp2_with fail
      refine (CS.out _ v1 I1.out).mono ?_
      rintro e v2 ⟨⟨u, rfl, hu⟩, hb⟩
      have X2 := Lib.hid (X1.out.below hb X1.out.lt)
      have I2 := Lib.hid (I1.out.below hb)
      have B2 := Lib.hid (below_step B1.out hb)
      have G2 := Lib.hid (G1.out.below hb)
      have U2 := Lib.hid hu
      clear hu hb X1 I1 B1 G1 d0 d1
      have d0 := X2.out.cell0
      have d1 := X2.out.cell1
      go_wp2_with fail
      refine (DI.out _ v2 I2.out).mono ?_
      rintro e v3 ⟨⟨h, rfl, hh⟩, hb⟩
      have X3 := Lib.hid (X2.out.below hb X2.out.lt)
      have I3 := Lib.hid (I2.out.below hb)
      have B3 := Lib.hid (below_step B2.out hb)
      have G3 := Lib.hid (G2.out.below hb)
      have U3 := Lib.hid (U2.out.below hb)
      have H3 := Lib.hid hh
      clear hh hb X2 I2 B2 G2 U2 d0 d1
      have d0 := X3.out.cell0
      have d1 := X3.out.cell1
      go_wp2_with fail
      refine (DS.out _ v3 I3.out).mono ?_
      rintro e v4 ⟨⟨m, rfl, hm⟩, hb⟩
      have X4 := Lib.hid (X3.out.below hb X3.out.lt)
      have I4 := Lib.hid (I3.out.below hb)
      have B4 := Lib.hid (below_step B3.out hb)
      have G4 := Lib.hid (G3.out.below hb)
      have U4 := Lib.hid (U3.out.below hb)
      have H4 := Lib.hid (H3.out.below hb)
      have M4 := Lib.hid hm
      clear hm hb X3 I3 B3 G3 U3 H3 d0 d1
      go_wp2_with fail
      refine (CQ.out g u _ v4 G4.out.ints U4.out (by omega)).mono ?_
      rintro e v5 ⟨rfl, hb⟩
      have X5 := Lib.hid (X4.out.below hb X4.out.lt)
      have I5 := Lib.hid (I4.out.below hb)
      have B5 := Lib.hid (below_step B4.out hb)
      have G5 := Lib.hid (G4.out.below hb)
      have H5 := Lib.hid (H4.out.below hb)
      have M5 := Lib.hid (M4.out.below hb)
      clear hb X4 I4 B4 G4 U4 H4 M4
      go_wp2_with fail
      refine (CQ.out h m _ v5 H5.out.ints M5.out (by omega)).mono ?_
      rintro e v6 ⟨rfl, hb⟩
      have X6 := Lib.hid (X5.out.below hb X5.out.lt)
      have I6 := Lib.hid (I5.out.below hb)
      have B6 := Lib.hid (below_step B5.out hb)
      have G6 := Lib.hid (G5.out.below hb)
      have H6 := Lib.hid (H5.out.below hb)
      clear hb X5 I5 B5 G5 H5 M5
      have d0 := X6.out.cell0
      have d1 := X6.out.cell1
      go_wp2
      go_ret
      exact ⟨rfl, B6.out⟩

/-! ### THE ROW's STEP -/
set_option maxRecDepth 100000 in
theorem contract (H : Type) (enc : TypeId × Value → H) (W : World) (base : Nat) (args : Array Value) (ds gs : List (DataW H)) (before : List MemPlace)
    (hval : ∀ (j : Nat) t v, Try.f8.params[j]? = some t → args[j]? = some v → Value.okWide Try.prog W .any base t v)
    (hW : DataW.Whole enc Try.prog Try.f8.params.toList Rows.fnFoldInverseSpec.vars false W args.toList ds gs before) (hL : laidMetH Try.prog Rows.fnFoldInverseRow.laid W) (hS : W.ShapedOpen Try.prog) :
    Calls Try.prog 8 args W fun e W' => ∃ v, e = .returned v ∧ Rows.fnFoldInverseSpec.post enc Try.prog Try.f8 false true false false W args v W' := by
  have hW' := hW
  obtain ⟨p, q, hA0, hV, rfl, hfz, hnd⟩ := hW
  have hA : DataW.TrodAll enc Try.prog W 0 (fun _ => true) true Try.f8.params.toList args.toList ds p := hA0
  rw [Try.params8] at hA hval
  obtain ⟨v0, vs0, d0, ds0, p0, q0, hargs, rfl, rfl, h0, r0⟩ := trodAll_cons hA
  obtain ⟨rfl, rfl, rfl⟩ := trodAll_nil r0
  obtain rfl : args = #[v0] := by cases args; simp_all
  obtain ⟨rfl, rfl⟩ := trodVars_none hV
  have k0 := h0
  have lt0 : ∀ x ∈ p0, x.block < W.heap.size := by obtain ⟨m, hm⟩ := k0; exact DataW.trod_lt m _ _ _ hm
  obtain ⟨a0, n0, c0, rfl⟩ := okWide_slice Try.underlying47 (hval 0 47 v0 rfl rfl)
  obtain ⟨z0, w0⟩ : ∃ zs, IsRow .u8 W a0 n0 c0 zs := by
    obtain ⟨fuel, hf⟩ := h0
    rcases open_ints Try.underlying47 Try.underlying5 (by kernel_rfl) hf with ⟨hcs, _⟩ | ⟨x, l, c, zs, hcs, _, hl, hm, hz, _, hcell, hwz⟩
    · simp [Value.cells] at hcs
      obtain ⟨rfl, rfl, rfl⟩ := hcs
      exact ⟨[], .inl ⟨rfl, rfl, rfl, rfl⟩⟩
    · simp [Value.cells] at hcs
      obtain ⟨rfl, rfl, rfl⟩ := hcs
      exact ⟨zs, .inr ⟨_, rfl, hl, hm, by simpa using hz, hcell, hwz⟩⟩
  clear hA0 hval
  refine (walk a0 n0 c0 z0 W hS  w0).mono fun e W' ⟨he, bel⟩ => ?_
  subst he
  exact ⟨_, rfl, _, _, _, [], _, [], hW', trodAll_mk1 (shut_bool Try.underlying4 _), (trodAll_cons_mk (Below.trod laidOut (by kernel_rfl) (of_decide_eq_true (by kernel_rfl)) k0 bel lt0) trodAll_mk0), rfl, bel.frame _, fun h => by cases h⟩

theorem reads (os : Os) {H : Type} (enc : TypeId × Value → H) : ∃ places, DataW.whole enc Try.prog ((World.holding Try.prog os ⟨#[], #[], []⟩).forCall (fun _ _ => 0) ⟨#[], #[.slice none 0 0], []⟩).memory Try.f8.params.toList Rows.fnFoldInverseSpec.vars false (#[.slice none 0 0] : Array Value).toList 8 = some ([.nil], [], places) :=
  ⟨[], by kernel_rfl⟩

set_option maxRecDepth 100000 in
theorem lifted (os : Os) (started : os.Started) (H : Type) (enc : TypeId × Value → H) (F : Stop.Interp) :
    ReturnsInHanded {} Try.checked os 8 .any ((OpenSpec.ofChange Rows.fnFoldInverseSpec).preRow enc Try.prog Try.f8 Rows.fnFoldInverseRow.domain false Rows.fnFoldInverseRow.laid) (((OpenSpec.ofChange Rows.fnFoldInverseSpec).at F).post enc Try.prog Try.f8 false true false false) := by
  obtain ⟨places, hx⟩ := reads os enc
  refine returnsInHanded_of_row (C := Try.checked) (s := OpenSpec.ofChange Rows.fnFoldInverseSpec) own started (by kernel_rfl) Try.func8
    (witness_row_atRef (enc := enc) (C := Try.checked) false (World.holding Try.prog os ⟨#[], #[], []⟩) #[.slice none 0 0] rfl (by kernel_rfl) (by kernel_rfl) (by kernel_rfl)
      (OpenSpec.preRow_of_cond 8 hx (by kernel_rfl) (fun k hk => by cases hk) (by kernel_rfl) ⟨[], rfl, List.nodup_nil, fun b off h => by cases h⟩)) ?_
  intro W base args ds gs before hval hW _ _ _ hL hS _
  exact contract H enc W base args ds gs before hval hW hL hS

theorem said : Rows.FnFoldInverseSaid :=
  OpenClaim.holds_of_cond 8 Try.f8 rfl rfl rfl rfl rfl rfl rfl ⟨rfl, rfl, rfl, rfl, rfl⟩ rfl rfl rfl rfl rfl (by kernel_rfl) Try.func8 (by kernel_rfl)
    (of_decide_eq_true (by kernel_rfl)) (by unfold Func.isWrapper; first | (rw [if_pos (by decide +kernel)]; kernel_rfl) | (rw [if_neg (by decide +kernel)]; exact ⟨rfl, rfl⟩))
    (fun os started H enc _ F => by rw [OpenClaim.pre_eq_preRow]; exact lifted os started H enc F)

theorem proved : Rows.FnFoldInverseSaid := said
#print axioms proved
end Go.Proofs.Ytnjbaomekbiflaa.fnFoldInverse
