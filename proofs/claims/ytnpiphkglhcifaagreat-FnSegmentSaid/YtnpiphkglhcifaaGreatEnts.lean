/-
  ENTRIES IN MEMORY: lists of entries (an outline and a text), entries, lists and dictionaries that came in.
-/
import Derived.Test.YtnpiphkglhcifaaGreatOut
import Derived.Deep.Slices
import Derived.Deep.Strs
namespace Go.Proofs.YtnpiphkglhcifaaGreat
set_option maxRecDepth 100000
open Go.RowKit

abbrev Ent := List Int × ByteArray
/-- The value of an entry, of a dictionary. -/
def enV (u : Value) (t : ByteArray) : Value := .agg #[u, .string t]
def dV (v : Value) : Value := .agg #[v]
/-- A slice of the entries es. -/
def EntsAt (w : World) (v : Value) (es : List Ent) : Prop :=
  ∃ (a : Option Addr) (cap : Nat), v = .slice a es.length cap ∧ es.length ≤ cap ∧ (es = [] ∨ ∃ bk o, a = some ⟨bk, o, none⟩ ∧ bk < w.heap.size ∧ ∀ (j : Nat) e, es[j]? = some e →
    ∃ u, w.cell? ⟨bk, o + j * 2, none⟩ = some u ∧ w.cell? ⟨bk, o + j * 2 + 1, none⟩ = some (.string e.2) ∧ IntsAt w u e.1)
theorem EntsAt.below {w w' : World} {v : Value} {es : List Ent} (h : EntsAt w v es) (hb : Below w.heap.size w w') : EntsAt w' v es := by
  obtain ⟨a, cap, hv, hc, h⟩ := h
  refine ⟨a, cap, hv, hc, ?_⟩
  rcases h with h | ⟨bk, o, ha, hk, h⟩
  · exact .inl h
  · refine .inr ⟨bk, o, ha, Nat.lt_of_lt_of_le hk hb.size, fun j e he => ?_⟩
    obtain ⟨u, h0, h1, h2⟩ := h j e he
    exact ⟨u, (hb.cell (p := ⟨bk, o + j * 2, none⟩) hk).trans h0, (hb.cell (p := ⟨bk, o + j * 2 + 1, none⟩) hk).trans h1, h2.below hb⟩
theorem EntsAt.nil (w : World) (a : Option Addr) (cap : Nat) : EntsAt w (.slice a 0 cap) [] := ⟨a, cap, rfl, Nat.zero_le _, .inl rfl⟩
theorem EntsAt.len {w : World} {v : Value} {es : List Ent} (h : EntsAt w v es) : ∃ a cap, v = .slice a es.length cap ∧ es.length ≤ cap := by
  obtain ⟨a, cap, hv, hc, _⟩ := h
  exact ⟨a, cap, hv, hc⟩
theorem EntsAt.some {w : World} {v : Value} {es : List Ent} (h : EntsAt w v es) (h0 : 0 < es.length) : ∃ bk o cap, v = .slice (some ⟨bk, o, none⟩) es.length cap ∧ es.length ≤ cap ∧ bk < w.heap.size ∧
    ∀ (j : Nat) e, es[j]? = some e → ∃ u, w.cell? ⟨bk, o + j * 2, none⟩ = some u ∧ w.cell? ⟨bk, o + j * 2 + 1, none⟩ = some (.string e.2) ∧ IntsAt w u e.1 := by
  obtain ⟨a, cap, hv, hc, h⟩ := h
  rcases h with h | ⟨bk, o, rfl, hk, h⟩
  · rw [h] at h0; simp at h0
  · exact ⟨bk, o, cap, hv, hc, hk, h⟩
/-- What an entry that came in may be. -/
def entFine (e : Ent) : Prop := e.1.length ≤ maxLen ∧ e.2.size ≤ maxLen
/-- The slice that came in holds the entries es. -/
def EntsIn (w : World) (v : Value) (es : List Ent) : Prop := EntsAt w v es ∧ es.length ≤ maxLen ∧ ∀ e ∈ es, entFine e

section
variable {H : Type} {enc : TypeId × Value → H} {P : Program} {w : World} {base : Nat} {spare : Nat → Bool} {held : Bool}
theorem lt_of_cell {w : World} {b o : Nat} {u : Value} (h : w.cell? ⟨b, o, none⟩ = some u) : b < w.heap.size := by
  rcases Nat.lt_or_ge b w.heap.size with h' | h'
  · exact h'
  · simp [World.cell?, Array.getElem?_eq_none h'] at h
/-- An outline's cell that came in. -/
theorem open_outline {t e : TypeId} {fuel : Nat} {cs : List Value} {x : DataW H × List MemPlace} (ht : P.underlying t = some (.slice e)) (he : P.underlying e = some (.int .i64)) (hc : P.cellsOf e = 1)
    (h : DataW.trod enc P w base spare held fuel t cs = some x) : ∃ (v : Value) (xs : List Int), cs = [v] ∧ IntsAt w v xs ∧ xs.length ≤ maxLen := by
  rcases Go.ChangeShapes.open_ints ht he hc h with ⟨rfl, _⟩ | ⟨a, len, cap, zs, rfl, _, hl, hm, hz, _, hcell, _⟩
  · exact ⟨_, [], rfl, IntsAt.nil _ _ _, Nat.zero_le _⟩
  · have hlz : len ≤ zs.length := by rw [hz]; split <;> omega
    have htl : (zs.take len).length = len := by rw [List.length_take]; omega
    refine ⟨_, zs.take len, rfl, ⟨some a, cap, by rw [htl], by omega, ?_⟩, by omega⟩
    rcases Nat.eq_zero_or_pos len with h0 | h0
    · exact .inl (by rw [h0]; rfl)
    · right
      have c0 := hcell 0 (by omega)
      have hs : a.spot = none := World.cell?_spot (w := w) (by simpa [Addr.add] using c0)
      obtain ⟨bk, o, sp⟩ := a
      simp only at hs
      subst hs
      refine ⟨bk, o, rfl, ?_, fun j x hx => ?_⟩
      · rw [Go.WideShapes.add_plain] at c0; exact lt_of_cell c0
      · have hj := (List.getElem?_eq_some_iff.1 hx).1
        rw [List.getElem?_take_of_lt (by omega)] at hx
        have := hcell j (by omega)
        rw [Go.WideShapes.add_plain] at this
        rw [this]
        simp [List.getD, hx]
/-- AN ENTRY THAT CAME IN. -/
theorem open_entV {b0 : Nat} {r : Reach} {t ti te ts : TypeId} {n0 n1 : Field} {v : Value} {d : DataW H} {ps : List MemPlace}
    (ht : P.underlying t = some (.struct #[n0, n1])) (hi1 : P.cellsOf ti = 1) (hs1 : P.cellsOf ts = 1) (he1 : P.cellsOf te = 1)
    (f0 : n0.type = ti ∧ n0.offset = 0) (f1 : n1.type = ts ∧ n1.offset = 1)
    (hi : P.underlying ti = some (.slice te)) (he : P.underlying te = some (.int .i64)) (hs : P.underlying ts = some .string) (hC : P.cellsOf t = 2) (hval : Value.okWide P w r b0 t v) (hd : DataW.Trod enc P w base spare held t v d ps) :
    ∃ (u : Value) (e : Ent), v = enV u e.2 ∧ IntsAt w u e.1 ∧ entFine e := by
  obtain ⟨cs, rfl, hsz⟩ := Go.WideShapes.okWide_struct ht hval
  obtain ⟨fuel, hf⟩ := hd
  obtain ⟨y0, y1, q, _, hlen, g0, g1⟩ := Go.ChangeShapes.trod_struct2 ht hf
  rw [f0.1, f0.2, hi1] at g0
  rw [f1.1, f1.2, hs1] at g1
  obtain ⟨u0, xs, p0, v0, l0⟩ := open_outline hi he he1 g0
  obtain ⟨u1, p1, _, v1⟩ := DataW.trod_string hs g1
  have e : cs.toList = [u0, .string u1] := by
    rw [hC] at hsz
    have p0' : (cs.toList.drop 0).take 1 = [u0] := p0
    have p1' : (cs.toList.drop 1).take 1 = [.string u1] := p1
    match hcs : cs.toList, (show cs.toList.length = 2 by simpa using hsz) with
    | [p, q], _ =>
      rw [hcs] at p0' p1'
      simp at p0' p1'
      rw [p0', p1']
  refine ⟨u0, (xs, u1), ?_, v0, l0, v1⟩
  unfold enV
  congr 1
  exact Array.toList_inj.1 e
theorem cells_pair {b o : Nat} {cs : List Value} {x y : Value} (h : w.cells? base ⟨b, o, none⟩ 2 = some cs) (h0 : (cs.drop 0).take 1 = [x]) (h1 : (cs.drop 1).take 1 = [y]) :
    w.cell? ⟨b, o, none⟩ = some x ∧ w.cell? ⟨b, o + 1, none⟩ = some y := by
  obtain ⟨_, hl, hc⟩ := World.cells?_some h
  match cs, hl with
  | [p, q], _ =>
    simp at h0 h1
    subst h0 h1
    have c0 := hc 0 (by omega)
    have c1 := hc 1 (by omega)
    simp [Addr.add] at c0 c1
    exact ⟨c0, c1⟩
/-- A SLICE OF ENTRIES THAT CAME IN. -/
theorem open_ents {t e ti te ts : TypeId} {n0 n1 : Field} {fuel : Nat} {cs : List Value} {x : DataW H × List MemPlace}
    (ht : P.underlying t = some (.slice e)) (he : P.underlying e = some (.struct #[n0, n1])) (hc : P.cellsOf e = 2) (hi1 : P.cellsOf ti = 1) (hs1 : P.cellsOf ts = 1) (he1 : P.cellsOf te = 1)
    (f0 : n0.type = ti ∧ n0.offset = 0) (f1 : n1.type = ts ∧ n1.offset = 1)
    (hi : P.underlying ti = some (.slice te)) (hte : P.underlying te = some (.int .i64)) (hs : P.underlying ts = some .string) (h : DataW.trod enc P w base spare held fuel t cs = some x) :
    ∃ (v : Value) (es : List Ent), cs = [v] ∧ EntsIn w v es := by
  rcases Go.Deep.open_slice ht h with ⟨rfl, _⟩ | ⟨a, len, cap, m, k, D, Pls, rfl, _, hl, hm, hmm, _, hx⟩
  · exact ⟨_, [], rfl, EntsAt.nil _ _ _, Nat.zero_le _, fun e h => absurd h List.not_mem_nil⟩
  · have hlm : len ≤ m := by rw [hmm]; split <;> omega
    have hex : ∀ i, i < len → ∃ ev : Ent, entFine ev ∧ a.spot = none ∧ ∃ u, w.cell? ⟨a.block, a.off + i * 2, none⟩ = some u ∧ w.cell? ⟨a.block, a.off + i * 2 + 1, none⟩ = some (.string ev.2) ∧ IntsAt w u ev.1 := by
      intro i hil
      obtain ⟨cs', hcs, htr⟩ := hx i (by omega)
      obtain ⟨y0, y1, q, _, hlen, g0, g1⟩ := Go.ChangeShapes.trod_struct2 he htr
      rw [f0.1, f0.2, hi1] at g0
      rw [f1.1, f1.2, hs1] at g1
      obtain ⟨u0, xs, p0, v0, l0⟩ := open_outline hi hte he1 g0
      obtain ⟨u1, p1, _, v1⟩ := DataW.trod_string hs g1
      rw [hc] at hcs
      have hspot : a.spot = none := by
        obtain ⟨cs0, hcs0, _⟩ := hx 0 (by omega)
        rw [hc] at hcs0
        obtain ⟨_, hl3, hc3⟩ := World.cells?_some hcs0
        have h3 := hc3 0 (by omega)
        match cs0, hl3 with
        | [p, q], _ =>
          have h4 : w.cell? a = some p := by simpa [Addr.add] using h3
          exact World.cell?_spot h4
      obtain ⟨bk, o, sp⟩ := a
      simp only at hspot
      subst hspot
      have hadd : (⟨bk, o, none⟩ : Addr).add (i * 2) = ⟨bk, o + i * 2, none⟩ := Go.WideShapes.add_plain ..
      rw [hadd] at hcs
      have := cells_pair hcs p0 p1
      exact ⟨(xs, u1), ⟨l0, v1⟩, rfl, u0, this.1, this.2, v0⟩
    obtain ⟨F, hF⟩ := Go.Deep.choose_lt hex
    have hget : ∀ (j : Nat) (ev : Ent), ((List.range len).map F)[j]? = some ev → j < len ∧ ev = F j := by
      intro j ev hj
      rw [List.getElem?_map] at hj
      obtain ⟨i, hi, rfl⟩ := Option.map_eq_some_iff.1 hj
      rw [List.getElem?_eq_some_iff] at hi
      obtain ⟨hlt, hi⟩ := hi
      simp at hlt hi
      subst hi
      exact ⟨hlt, rfl⟩
    refine ⟨.slice (some a) len cap, (List.range len).map F, rfl, ?_, by simp; omega, ?_⟩
    · refine ⟨some a, cap, by simp, by simpa using hl, ?_⟩
      rcases Nat.eq_zero_or_pos len with h0 | h0
      · exact .inl (by rw [h0]; rfl)
      · obtain ⟨_, hs, u, hc0, _⟩ := hF 0 h0
        obtain ⟨bk, o, sp⟩ := a
        simp only at hs
        subst hs
        refine .inr ⟨bk, o, rfl, lt_of_cell hc0, fun j ev hj => ?_⟩
        obtain ⟨hlt, rfl⟩ := hget j ev hj
        exact (hF j hlt).2.2
    · intro ev hev
      obtain ⟨i, hi, rfl⟩ := List.mem_map.1 hev
      exact (hF i (by simpa using hi)).1
/-- A DICTIONARY THAT CAME IN. -/
theorem open_dictV {b0 : Nat} {r : Reach} {td t e ti te ts : TypeId} {fd n0 n1 : Field} {v : Value} {d : DataW H} {ps : List MemPlace}
    (htd : P.underlying td = some (.struct #[fd])) (hC : P.cellsOf td = 1) (ht1 : P.cellsOf t = 1) (fdd : fd.type = t ∧ fd.offset = 0)
    (ht : P.underlying t = some (.slice e)) (he : P.underlying e = some (.struct #[n0, n1])) (hc : P.cellsOf e = 2) (hi1 : P.cellsOf ti = 1) (hs1 : P.cellsOf ts = 1) (he1 : P.cellsOf te = 1)
    (f0 : n0.type = ti ∧ n0.offset = 0) (f1 : n1.type = ts ∧ n1.offset = 1)
    (hi : P.underlying ti = some (.slice te)) (hte : P.underlying te = some (.int .i64)) (hs : P.underlying ts = some .string) (hval : Value.okWide P w r b0 td v) (hd : DataW.Trod enc P w base spare held td v d ps) :
    ∃ (u : Value) (es : List Ent), v = dV u ∧ EntsIn w u es := by
  obtain ⟨cs, rfl, hsz⟩ := Go.WideShapes.okWide_struct htd hval
  obtain ⟨fuel, hf⟩ := hd
  obtain ⟨y0, q, _, hlen, g0⟩ := Go.ChangeShapes.trod_struct1 htd hf
  rw [fdd.1, fdd.2, ht1] at g0
  obtain ⟨u, es, p0, hes⟩ := open_ents ht he hc hi1 hs1 he1 f0 f1 hi hte hs g0
  have e : cs.toList = [u] := by
    rw [hC] at hsz
    have p0' : (cs.toList.drop 0).take 1 = [u] := p0
    match hcs : cs.toList, (show cs.toList.length = 1 by simpa using hsz) with
    | [p], _ =>
      rw [hcs] at p0'
      simp at p0'
      rw [p0']
  refine ⟨u, es, ?_, hes⟩
  unfold dV
  congr 1
  exact Array.toList_inj.1 e
end
end Go.Proofs.YtnpiphkglhcifaaGreat
