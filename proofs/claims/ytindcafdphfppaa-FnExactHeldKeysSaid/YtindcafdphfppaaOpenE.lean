/-
  A LIST OF EVENTS THAT CAME IN: opened.
-/
import Derived.Test.YtindcafdphfppaaEvs
import Derived.Deep.Slices
import Derived.Deep.Strs
namespace Go.Proofs.Ytindcafdphfppaa
open Go.RowKit

/-- The slice that came in holds the events es. -/
def EvsIn (w : World) (a : Option Addr) (n c : Nat) (es : List Pl.Ev) : Prop :=
  n ≤ maxLen ∧ es.length = n ∧ EvsAt w (.slice a n c) es ∧ ∀ e ∈ es, (Lit.int .i64 e.t).wf = true ∧ (Lit.int .i64 e.k).wf = true

theorem cells_three {w : World} {base : Nat} {b o : Nat} {cs : List Value} {x y z : Value} (h : w.cells? base ⟨b, o, none⟩ 3 = some cs) (h0 : (cs.drop 0).take 1 = [x]) (h1 : (cs.drop 1).take 1 = [y]) (h2 : (cs.drop 2).take 1 = [z]) :
    w.cell? ⟨b, o, none⟩ = some x ∧ w.cell? ⟨b, o + 1, none⟩ = some y ∧ w.cell? ⟨b, o + 2, none⟩ = some z := by
  obtain ⟨_, hl, hc⟩ := World.cells?_some h
  match cs, hl with
  | [p, q, r], _ =>
    simp at h0 h1 h2
    subst h0 h1 h2
    have c0 := hc 0 (by omega)
    have c1 := hc 1 (by omega)
    have c2 := hc 2 (by omega)
    simp [Addr.add] at c0 c1 c2
    exact ⟨c0, c1, c2⟩

theorem open_evs {H : Type} {enc : TypeId × Value → H} {P : Program} {w : World} {base : Nat} {spare : Nat → Bool} {held : Bool} {t e ti tb : TypeId} {n0 n1 n2 : Field} {fuel : Nat} {cs : List Value} {x : DataW H × List MemPlace}
    (ht : P.underlying t = some (.slice e)) (he : P.underlying e = some (.struct #[n0, n1, n2])) (hc : P.cellsOf e = 3) (hi1 : P.cellsOf ti = 1) (hb1 : P.cellsOf tb = 1)
    (f0 : n0.type = ti ∧ n0.offset = 0) (f1 : n1.type = ti ∧ n1.offset = 1) (f2 : n2.type = tb ∧ n2.offset = 2)
    (hi : P.underlying ti = some (.int .i64)) (hb : P.underlying tb = some .bool) (h : DataW.trod enc P w base spare held fuel t cs = some x) :
    ∃ (a : Option Addr) (n c : Nat) (es : List Pl.Ev), cs = [.slice a n c] ∧ EvsIn w a n c es := by
  rcases Go.Deep.open_slice ht h with ⟨rfl, _⟩ | ⟨a, len, cap, m, k, D, Pls, rfl, _, hl, hm, hmm, _, hx⟩
  · exact ⟨none, 0, 0, [], rfl, Nat.zero_le _, rfl, EvsAt.nil _ _ _, fun e h => absurd h List.not_mem_nil⟩
  · have hlm : len ≤ m := by rw [hmm]; split <;> omega
    have hex : ∀ i, i < len → ∃ ev : Pl.Ev, ((Lit.int .i64 ev.t).wf = true ∧ (Lit.int .i64 ev.k).wf = true) ∧ a.spot = none ∧
        w.cell? ⟨a.block, a.off + i * 3, none⟩ = some (.int .i64 ev.t) ∧ w.cell? ⟨a.block, a.off + i * 3 + 1, none⟩ = some (.int .i64 ev.k) ∧ w.cell? ⟨a.block, a.off + i * 3 + 2, none⟩ = some (.bool ev.d) := by
      intro i hil
      obtain ⟨cs', hcs, htr⟩ := hx i (by omega)
      obtain ⟨y0, y1, y2, q, _, hlen, g0, g1, g2⟩ := Go.Deep.trod_struct3 he htr
      rw [f0.1, f0.2, hi1] at g0
      rw [f1.1, f1.2, hi1] at g1
      rw [f2.1, f2.2, hb1] at g2
      obtain ⟨u0, p0, _, v0⟩ := DataW.trod_int hi g0
      obtain ⟨u1, p1, _, v1⟩ := DataW.trod_int hi g1
      obtain ⟨u2, p2, _⟩ := DataW.trod_bool hb g2
      rw [hc] at hcs
      have hspot : a.spot = none := by
        obtain ⟨cs0, hcs0, _⟩ := hx 0 (by omega)
        rw [hc] at hcs0
        obtain ⟨_, hl3, hc3⟩ := World.cells?_some hcs0
        have h3 := hc3 0 (by omega)
        match cs0, hl3 with
        | [p, q, r], _ =>
          have h4 : w.cell? a = some p := by simpa [Addr.add] using h3
          exact World.cell?_spot h4
      obtain ⟨bk, o, sp⟩ := a
      simp only at hspot
      subst hspot
      have hadd : (⟨bk, o, none⟩ : Addr).add (i * 3) = ⟨bk, o + i * 3, none⟩ := Go.WideShapes.add_plain ..
      rw [hadd] at hcs
      have := cells_three hcs p0 p1 p2
      exact ⟨⟨u0, u1, u2⟩, ⟨v0, v1⟩, rfl, this⟩
    obtain ⟨F, hF⟩ := Go.Deep.choose_lt hex
    have hget : ∀ (j : Nat) (ev : Pl.Ev), ((List.range len).map F)[j]? = some ev → j < len ∧ ev = F j := by
      intro j ev hj
      rw [List.getElem?_map] at hj
      obtain ⟨i, hi, rfl⟩ := Option.map_eq_some_iff.1 hj
      rw [List.getElem?_eq_some_iff] at hi
      obtain ⟨hlt, hi⟩ := hi
      simp at hlt hi
      subst hi
      exact ⟨hlt, rfl⟩
    refine ⟨some a, len, cap, (List.range len).map F, rfl, by omega, by simp, ?_, ?_⟩
    · refine ⟨some a, cap, by simp, by simpa using hl, ?_⟩
      rcases Nat.eq_zero_or_pos len with h0 | h0
      · exact .inl (by rw [h0]; rfl)
      · obtain ⟨_, hs, hc0, _⟩ := hF 0 h0
        obtain ⟨bk, o, sp⟩ := a
        simp only at hs
        subst hs
        refine .inr ⟨bk, o, rfl, ?_, fun j ev hj => ?_⟩
        · rcases Nat.lt_or_ge bk w.heap.size with h' | h'
          · exact h'
          · simp [World.cell?, Array.getElem?_eq_none h'] at hc0
        · obtain ⟨hlt, rfl⟩ := hget j ev hj
          exact (hF j hlt).2.2
    · intro ev hev
      obtain ⟨i, hi, rfl⟩ := List.mem_map.1 hev
      exact (hF i (by simpa using hi)).1
theorem OwnEvs.lt {w : World} {base : Nat} {v : Value} {n : Nat} {f : Nat → Pl.Ev} (h : OwnEvs w base v n f) (h0 : 0 < n) : ∀ g, v.ownBlock = some g → g < w.heap.size := by
  rcases h with ⟨hz, _⟩ | ⟨g, cap, rfl, _, _, _, hr⟩
  · omega
  · intro g' hg
    have : g = g' := by simpa [Value.ownBlock] using hg
    have := hr.1
    omega
theorem OwnEvs.evs {w : World} {base : Nat} {v : Value} {es : List Pl.Ev} (h : OwnEvs w base v es.length (fun j => es.getD j default)) : EvsAt w v es := h.at rfl fun j e he => by simp [List.getD, he]
theorem OwnInts.ints {w : World} {base : Nat} {v : Value} {xs : List Int} (h : OwnInts w base v xs.length (fun j => xs.getD j 0)) : IntsAt w v xs := ownInts_at h fun j x hx => by simp [List.getD, hx]
theorem markE_row (base S : Nat) (v : Value) (n : Nat) (f : Nat → Pl.Ev) (w : World) (h : OwnEvs w base v n f) (hS : 0 < n → ∀ g, v.ownBlock = some g → g < S) (hn : n ≤ 100000000) :
    Calls Try.prog 31 #[v, .int .i64 1] w fun e w' => e = .returned (.int .i64 (1 + 3 * (n : Int))) ∧ Above S w w' ∧ Below base w w' := by
  rcases Nat.eq_zero_or_pos n with h0 | h0
  · subst h0
    obtain ⟨_, a, cap, rfl⟩ : 0 = 0 ∧ ∃ a cap, v = .slice a 0 cap := by
      rcases h with h | ⟨_, _, _, _, _, h0, _⟩
      · exact h
      · omega
    go_enter Try.func31, Try.ntmps31
    go_wp2
    refine wp_loop_rounds 1 ?_
    rw [rounds_succ]
    go_wp2
    go_ret
    exact ⟨rfl, Above.refl _ _, Below.refl _ _⟩
  · exact markE_any base S v n f w h (hS h0) hn
end Go.Proofs.Ytindcafdphfppaa
