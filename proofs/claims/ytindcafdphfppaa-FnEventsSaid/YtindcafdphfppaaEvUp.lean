/-
  LISTS OF EVENTS that lie above the draws' cursor; the rest of a walked list of ints.
-/
import Derived.Test.YtindcafdphfppaaDrawK
import Derived.Test.YtindcafdphfppaaSpecChord
namespace Go.Proofs.Ytindcafdphfppaa
open Go.RowKit

/-- The ints ys lie at the address, in a block that is not the row's own. -/
def RestAt (w : World) (l : Value) (a : Option Addr) (ys : List Int) : Prop :=
  ys = [] ∨ ∃ kb ko, a = some ⟨kb, ko, none⟩ ∧ kb < w.heap.size ∧ l.ownBlock ≠ some kb ∧ ∀ (j : Nat) y, ys[j]? = some y → w.cell? ⟨kb, ko + j, none⟩ = some (.int .i64 y)
theorem restAt_row {w : World} {base : Nat} {l : Value} {a : Option Addr} {c : Nat} {ys : List Int} (hr : w.ownsRow base 3 1 (.slice a ys.length c) ys.length (ys.map (.int .i64))) (hl : ∀ g, l.ownBlock = some g → g < base) : RestAt w l a ys := by
  rcases hr.2 with ⟨h1, h0⟩ | ⟨g, cap, cur, h1, hb, _⟩
  · exact .inl (List.length_eq_zero_iff.1 h0)
  · injection h1 with h1 h2 h3
    obtain ⟨a', cap', hv, _, h⟩ := rowInts_at hr
    rcases h with h | ⟨bk, o, ha, hk, h⟩
    · exact .inl h
    · injection hv with q1 q2 q3
      refine .inr ⟨bk, o, by rw [q1, ha], hk, ?_, h⟩
      intro e
      have hlt := hl _ e
      have e2 : (some ⟨g, 0, none⟩ : Option Addr) = some ⟨bk, o, none⟩ := by rw [← h1, q1, ha]
      injection e2 with e2
      injection e2 with e2 e3 e4
      omega
theorem restAt_step {w w' : World} {l l' : Value} {kb ko : Nat} {y : Int} {ys : List Int} {b : Obj} (hk : kb < w.heap.size) (hne : l.ownBlock ≠ some kb)
    (hc : ∀ (j : Nat) z, (y :: ys)[j]? = some z → w.cell? ⟨kb, ko + j, none⟩ = some (.int .i64 z)) (hgrow : (w.alloc b).grownBy w' l.ownBlock) (hat : l'.ownBlock = l.ownBlock ∨ l'.ownBlock = some (w.heap.size + 1))
    (c' : Nat) (hc' : ys.length + 1 ≤ c') : RestAt w' l' (if c' = 1 then some ⟨kb, ko, none⟩ else some ⟨kb, ko + 1, none⟩) ys := by
  cases ys with
  | nil => exact .inl rfl
  | cons z zs =>
    have h1 : c' ≠ 1 := by rw [List.length_cons] at hc'; omega
    rw [if_neg h1]
    refine .inr ⟨kb, ko + 1, rfl, ?_, ?_, ?_⟩
    · have := hgrow.size; rw [World.size_alloc] at this; omega
    · rcases hat with h | h
      · rw [h]; exact hne
      · rw [h]; intro e; injection e; omega
    · intro j x hx
      have h1 := hc (j + 1) x (by simpa using hx)
      have h2 : w'.cell? ⟨kb, ko + (j + 1), none⟩ = (w.alloc b).cell? ⟨kb, ko + (j + 1), none⟩ := World.cell?_of_block (hgrow.block kb (by rw [World.size_alloc]; omega) (fun e => hne e.symm))
      have h3 := ((Below.refl w.heap.size w).alloc (Nat.le_refl _) b).cell (p := ⟨kb, ko + (j + 1), none⟩) hk
      have e : ko + 1 + j = ko + (j + 1) := by omega
      rw [e, h2, h3, h1]

/-- The value v is a slice of the events es, in a block from S on. -/
def EvsUp (w : World) (S : Nat) (v : Value) (es : List Pl.Ev) : Prop :=
  ∃ (a : Option Addr) (cap : Nat), v = .slice a es.length cap ∧ es.length ≤ cap ∧ (es = [] ∨ ∃ bk o, a = some ⟨bk, o, none⟩ ∧ S ≤ bk ∧ bk < w.heap.size ∧ ∀ (j : Nat) e, es[j]? = some e →
    w.cell? ⟨bk, o + j * 3, none⟩ = some (.int .i64 e.t) ∧ w.cell? ⟨bk, o + j * 3 + 1, none⟩ = some (.int .i64 e.k) ∧ w.cell? ⟨bk, o + j * 3 + 2, none⟩ = some (.bool e.d))
theorem EvsUp.at {w : World} {S : Nat} {v : Value} {es : List Pl.Ev} (h : EvsUp w S v es) : EvsAt w v es := by
  obtain ⟨a, cap, hv, hc, h⟩ := h
  refine ⟨a, cap, hv, hc, ?_⟩
  rcases h with h | ⟨bk, o, ha, _, hk, h⟩
  · exact .inl h
  · exact .inr ⟨bk, o, ha, hk, h⟩
theorem EvsUp.keep {w w' : World} {S B : Nat} {v : Value} {es : List Pl.Ev} (h : EvsUp w S v es) (hg : w.grownBy w' (some B)) (hB : B < S) : EvsUp w' S v es := by
  obtain ⟨a, cap, hv, hc, h⟩ := h
  refine ⟨a, cap, hv, hc, ?_⟩
  rcases h with h | ⟨bk, o, ha, hS, hk, h⟩
  · exact .inl h
  · refine .inr ⟨bk, o, ha, hS, Nat.lt_of_lt_of_le hk hg.size, fun j e he => ?_⟩
    obtain ⟨h0, h1, h2⟩ := h j e he
    have hne : bk ≠ B := by omega
    exact ⟨(Cur.grown hg hne hk).trans h0, (Cur.grown hg hne hk).trans h1, (Cur.grown hg hne hk).trans h2⟩
theorem RowEv.keepG {w w' : World} {g n B : Nat} {f : Nat → Pl.Ev} (h : RowEv w g n f) (hg : w.grownBy w' (some B)) (hB : B < g) : RowEv w' g n f := by
  obtain ⟨h0, h1, h2⟩ := h
  have hne : g ≠ B := by omega
  refine ⟨Nat.lt_of_lt_of_le h0 hg.size, fun j hj => ?_, fun j => ?_⟩
  · obtain ⟨a0, a1, a2⟩ := h1 j hj
    exact ⟨(Cur.grown hg hne h0).trans a0, (Cur.grown hg hne h0).trans a1, (Cur.grown hg hne h0).trans a2⟩
  · exact (World.frozen?_of_block (w := w) (a := ⟨g, j, none⟩) (hg.block g h0 (by intro e; injection e; omega))).trans (h2 j)
theorem rowEv_up {w : World} {S g n : Nat} {f : Nat → Pl.Ev} {es : List Pl.Ev} (h : RowEv w g n f) (hS : S ≤ g) (hn : n = es.length) (hf : ∀ j e, es[j]? = some e → f j = e) (cap : Nat) (hc : n ≤ cap) : EvsUp w S (.slice (some ⟨g, 0, none⟩) n cap) es := by
  subst hn
  refine ⟨_, cap, rfl, hc, .inr ⟨g, 0, rfl, hS, h.1, fun j e he => ?_⟩⟩
  have hj : j < es.length := by
    rcases Nat.lt_or_ge j es.length with h' | h'
    · exact h'
    · rw [List.getElem?_eq_none h'] at he; cases he
  have := h.2.1 j hj
  rw [hf j e he] at this
  rw [Nat.zero_add]; exact this
theorem ownE_row {w : World} {base : Nat} {v : Value} {E : List Pl.Ev} (h : OwnE w base v E) (h0 : 0 < E.length) : ∃ g cap, v = .slice (some ⟨g, 0, none⟩) E.length cap ∧ E.length ≤ cap ∧ base ≤ g ∧ RowEv w g E.length (fun j => E[j]?.getD ⟨0, 0, false⟩) := by
  obtain ⟨a, c, hv, hc, hcell⟩ := ownE_at h
  rcases h.2 with ⟨_, hz⟩ | ⟨g, cap, cur, h1, hb, hg, hn, _⟩
  · omega
  · have hlt : g < w.heap.size := (Array.getElem?_eq_some_iff.1 hg).1
    refine ⟨g, cap, h1, hn, hb, hlt, fun j hj => ?_, fun j => by simp [World.frozen?, hg]⟩
    rcases hcell with hz | ⟨bk, o, ha, _, hcell⟩
    · rw [hz] at h0; simp at h0
    · rw [h1, ha] at hv
      injection hv with q1 q2 q3
      injection q1 with q1
      injection q1 with q1 q4 q5
      subst q1 q4
      obtain ⟨e, he⟩ : ∃ e, E[j]? = some e := ⟨_, List.getElem?_eq_getElem hj⟩
      have := hcell j e he
      rw [Nat.zero_add] at this
      simp only [he]
      exact this
theorem ownE_up {w : World} {base : Nat} {v : Value} {E : List Pl.Ev} (h : OwnE w base v E) : EvsUp w base v E := by
  rcases Nat.eq_zero_or_pos E.length with h0 | h0
  · obtain ⟨a, c, hv, hc, _⟩ := ownE_at h
    exact ⟨a, c, hv, hc, .inl (List.length_eq_zero_iff.1 h0)⟩
  · obtain ⟨g, cap, rfl, hc, hb, hr⟩ := ownE_row h h0
    exact rowEv_up hr hb rfl (fun j e he => by show E[j]?.getD _ = e; rw [he]; rfl) cap hc
theorem rowEv_setup {w : World} {S g n : Nat} {E : List Pl.Ev} (h : RowEv w g n (fun j => E[j]?.getD ⟨0, 0, false⟩)) (hS : S ≤ g) (hn : n = E.length) (k : Nat) (hk : k < n) (e : Pl.Ev) (cap : Nat) (hc : n ≤ cap) :
    EvsUp (((w.setCell ⟨g, k * 3, none⟩ (.int .i64 e.t)).setCell ⟨g, k * 3 + 1, none⟩ (.int .i64 e.k)).setCell ⟨g, k * 3 + 2, none⟩ (.bool e.d)) S (.slice (some ⟨g, 0, none⟩) n cap) (E.set k e) := by
  refine rowEv_up (h.set k hk e) hS (by rw [List.length_set, hn]) (fun j x hx => ?_) cap hc
  show (if j = k then e else E[j]?.getD _) = x
  rw [List.getElem?_set] at hx
  by_cases hjk : j = k
  · subst hjk
    rw [if_pos rfl, if_pos (by omega)] at hx
    rw [if_pos rfl]
    injection hx
  · rw [if_neg (fun q => hjk q.symm)] at hx
    rw [if_neg hjk, hx]; rfl
theorem ownE_snoc {w : World} {base : Nat} {v : Value} {F : List Pl.Ev} {a b : Int} {c : Bool} (h : w.ownsRow base 31 3 v (F.length + 1) (evCells F ++ [.int .i64 a, .int .i64 b, .bool c])) : OwnE w base v (F ++ [⟨a, b, c⟩]) := by
  show World.ownsRow _ _ _ _ _ _ _
  rw [evCells_snoc, List.length_append]
  exact h
end Go.Proofs.Ytindcafdphfppaa
