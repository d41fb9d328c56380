/-
  ATOMS IN MEMORY: lists of atoms, atoms and lists that came in; the laws' helpers szAtom, toAtom, eqAtom.
-/
import Derived.Test.YtnpiphkglhcifaaGreatAtomB
import Derived.Deep.Slices
import Derived.Deep.Strs
namespace Go.Proofs.YtnpiphkglhcifaaGreat
set_option maxRecDepth 100000
open Go.RowKit

/-- A slice of the atoms ls. -/
def AtomsAt (w : World) (v : Value) (ls : List (Int × ByteArray)) : Prop :=
  ∃ (a : Option Addr) (cap : Nat), v = .slice a ls.length cap ∧ ls.length ≤ cap ∧ (ls = [] ∨ ∃ bk o, a = some ⟨bk, o, none⟩ ∧ bk < w.heap.size ∧ ∀ (j : Nat) e, ls[j]? = some e →
    w.cell? ⟨bk, o + j * 2, none⟩ = some (.int .i64 e.1) ∧ w.cell? ⟨bk, o + j * 2 + 1, none⟩ = some (.string e.2))
theorem AtomsAt.below {w w' : World} {v : Value} {ls : List (Int × ByteArray)} (h : AtomsAt w v ls) (hb : Below w.heap.size w w') : AtomsAt w' v ls := by
  obtain ⟨a, cap, hv, hc, h⟩ := h
  refine ⟨a, cap, hv, hc, ?_⟩
  rcases h with h | ⟨bk, o, ha, hk, h⟩
  · exact .inl h
  · refine .inr ⟨bk, o, ha, Nat.lt_of_lt_of_le hk hb.size, fun j e he => ?_⟩
    obtain ⟨h0, h1⟩ := h j e he
    exact ⟨(hb.cell (p := ⟨bk, o + j * 2, none⟩) hk).trans h0, (hb.cell (p := ⟨bk, o + j * 2 + 1, none⟩) hk).trans h1⟩
theorem AtomsAt.nil (w : World) (a : Option Addr) (cap : Nat) : AtomsAt w (.slice a 0 cap) [] := ⟨a, cap, rfl, Nat.zero_le _, .inl rfl⟩
/-- The slice that came in holds the atoms ls. -/
def AtomsIn (w : World) (a : Option Addr) (n c : Nat) (ls : List (Int × ByteArray)) : Prop :=
  n ≤ maxLen ∧ ls.length = n ∧ AtomsAt w (.slice a n c) ls ∧ ∀ e ∈ ls, (Lit.int .i64 e.1).wf = true ∧ e.2.size ≤ maxLen

theorem cells_two {w : World} {base : Nat} {b o : Nat} {cs : List Value} {x y : Value} (h : w.cells? base ⟨b, o, none⟩ 2 = some cs) (h0 : (cs.drop 0).take 1 = [x]) (h1 : (cs.drop 1).take 1 = [y]) :
    w.cell? ⟨b, o, none⟩ = some x ∧ w.cell? ⟨b, o + 1, none⟩ = some y := by
  obtain ⟨_, hl, hc⟩ := World.cells?_some h
  match cs, hl with
  | [p, q], _ =>
    simp at h0 h1
    subst h0 h1
    have c0 := hc 0 (by omega)
    have c1 := hc 1 (by omega)
    simp [Addr.add] at c0 c1
    exact ⟨c0, c1⟩
/-- AN ATOM THAT CAME IN. -/
theorem open_atomV {H : Type} {enc : TypeId × Value → H} {P : Program} {w : World} {base b0 : Nat} {spare : Nat → Bool} {held : Bool} {r : Reach} {t ti ts : TypeId} {n0 n1 : Field} {v : Value} {d : DataW H} {ps : List MemPlace}
    (ht : P.underlying t = some (.struct #[n0, n1])) (hi1 : P.cellsOf ti = 1) (hs1 : P.cellsOf ts = 1)
    (f0 : n0.type = ti ∧ n0.offset = 0) (f1 : n1.type = ts ∧ n1.offset = 1)
    (hi : P.underlying ti = some (.int .i64)) (hs : P.underlying ts = some .string) (hC : P.cellsOf t = 2) (hval : Value.okWide P w r b0 t v) (hd : DataW.Trod enc P w base spare held t v d ps) :
    ∃ (k : Int) (s : ByteArray), v = .agg #[.int .i64 k, .string s] ∧ (Lit.int .i64 k).wf = true ∧ s.size ≤ maxLen := by
  obtain ⟨cs, rfl, hsz⟩ := Go.WideShapes.okWide_struct ht hval
  obtain ⟨fuel, hf⟩ := hd
  obtain ⟨y0, y1, q, _, hlen, g0, g1⟩ := Go.ChangeShapes.trod_struct2 ht hf
  rw [f0.1, f0.2, hi1] at g0
  rw [f1.1, f1.2, hs1] at g1
  obtain ⟨u0, p0, _, v0⟩ := DataW.trod_int hi g0
  obtain ⟨u1, p1, _, v1⟩ := DataW.trod_string hs g1
  have e : cs.toList = [.int .i64 u0, .string u1] := by
    rw [hC] at hsz
    have p0' : (cs.toList.drop 0).take 1 = [.int .i64 u0] := p0
    have p1' : (cs.toList.drop 1).take 1 = [.string u1] := p1
    match hcs : cs.toList, (show cs.toList.length = 2 by simpa using hsz) with
    | [p, q], _ =>
      rw [hcs] at p0' p1'
      simp at p0' p1'
      rw [p0', p1']
  refine ⟨u0, u1, ?_, v0, v1⟩
  congr 1
  exact Array.toList_inj.1 e
theorem open_atoms {H : Type} {enc : TypeId × Value → H} {P : Program} {w : World} {base : Nat} {spare : Nat → Bool} {held : Bool} {t e ti ts : TypeId} {n0 n1 : Field} {fuel : Nat} {cs : List Value} {x : DataW H × List MemPlace}
    (ht : P.underlying t = some (.slice e)) (he : P.underlying e = some (.struct #[n0, n1])) (hc : P.cellsOf e = 2) (hi1 : P.cellsOf ti = 1) (hs1 : P.cellsOf ts = 1)
    (f0 : n0.type = ti ∧ n0.offset = 0) (f1 : n1.type = ts ∧ n1.offset = 1)
    (hi : P.underlying ti = some (.int .i64)) (hs : P.underlying ts = some .string) (h : DataW.trod enc P w base spare held fuel t cs = some x) :
    ∃ (a : Option Addr) (n c : Nat) (ls : List (Int × ByteArray)), cs = [.slice a n c] ∧ AtomsIn w a n c ls := by
  rcases Go.Deep.open_slice ht h with ⟨rfl, _⟩ | ⟨a, len, cap, m, k, D, Pls, rfl, _, hl, hm, hmm, _, hx⟩
  · exact ⟨none, 0, 0, [], rfl, Nat.zero_le _, rfl, AtomsAt.nil _ _ _, fun e h => absurd h List.not_mem_nil⟩
  · have hlm : len ≤ m := by rw [hmm]; split <;> omega
    have hex : ∀ i, i < len → ∃ ev : Int × ByteArray, ((Lit.int .i64 ev.1).wf = true ∧ ev.2.size ≤ maxLen) ∧ a.spot = none ∧
        w.cell? ⟨a.block, a.off + i * 2, none⟩ = some (.int .i64 ev.1) ∧ w.cell? ⟨a.block, a.off + i * 2 + 1, none⟩ = some (.string ev.2) := by
      intro i hil
      obtain ⟨cs', hcs, htr⟩ := hx i (by omega)
      obtain ⟨y0, y1, q, _, hlen, g0, g1⟩ := Go.ChangeShapes.trod_struct2 he htr
      rw [f0.1, f0.2, hi1] at g0
      rw [f1.1, f1.2, hs1] at g1
      obtain ⟨u0, p0, _, v0⟩ := DataW.trod_int hi g0
      obtain ⟨u1, p1, _, v1⟩ := DataW.trod_string hs g1
      rw [hc] at hcs
      have hspot : a.spot = none := by
        obtain ⟨cs0, hcs0, _⟩ := hx 0 (by omega)
        rw [hc] at hcs0
        obtain ⟨_, hl3, hc3⟩ := World.cells?_some hcs0
        have h3 := hc3 0 (by omega)
        match cs0, hl3 with
        | [p, q], _ =>
          have h4 : w.cell? a = some p := by simpa [Addr.add] using h3
          exact World.cell?_spot h4
      obtain ⟨bk, o, sp⟩ := a
      simp only at hspot
      subst hspot
      have hadd : (⟨bk, o, none⟩ : Addr).add (i * 2) = ⟨bk, o + i * 2, none⟩ := Go.WideShapes.add_plain ..
      rw [hadd] at hcs
      have := cells_two hcs p0 p1
      exact ⟨⟨u0, u1⟩, ⟨v0, v1⟩, rfl, this⟩
    obtain ⟨F, hF⟩ := Go.Deep.choose_lt hex
    have hget : ∀ (j : Nat) (ev : Int × ByteArray), ((List.range len).map F)[j]? = some ev → j < len ∧ ev = F j := by
      intro j ev hj
      rw [List.getElem?_map] at hj
      obtain ⟨i, hi, rfl⟩ := Option.map_eq_some_iff.1 hj
      rw [List.getElem?_eq_some_iff] at hi
      obtain ⟨hlt, hi⟩ := hi
      simp at hlt hi
      subst hi
      exact ⟨hlt, rfl⟩
    refine ⟨some a, len, cap, (List.range len).map F, rfl, by omega, by simp, ?_, ?_⟩
    · refine ⟨some a, cap, by simp, by simpa using hl, ?_⟩
      rcases Nat.eq_zero_or_pos len with h0 | h0
      · exact .inl (by rw [h0]; rfl)
      · obtain ⟨_, hs, hc0, _⟩ := hF 0 h0
        obtain ⟨bk, o, sp⟩ := a
        simp only at hs
        subst hs
        refine .inr ⟨bk, o, rfl, ?_, fun j ev hj => ?_⟩
        · rcases Nat.lt_or_ge bk w.heap.size with h' | h'
          · exact h'
          · simp [World.cell?, Array.getElem?_eq_none h'] at hc0
        · obtain ⟨hlt, rfl⟩ := hget j ev hj
          exact (hF j hlt).2.2
    · intro ev hev
      obtain ⟨i, hi, rfl⟩ := List.mem_map.1 hev
      exact (hF i (by simpa using hi)).1

/-- A boxed atom. -/
def BoxA (w : World) (B : Nat) (k : Int) (t : ByteArray) : Prop := B < w.heap.size ∧ w.cell? ⟨B, 0, none⟩ = some (.int .i64 k) ∧ w.cell? ⟨B, 1, none⟩ = some (.string t)
theorem BoxA.below {w w' : World} {B : Nat} {k : Int} {t : ByteArray} (h : BoxA w B k t) (hb : Below w.heap.size w w') : BoxA w' B k t :=
  ⟨Nat.lt_of_lt_of_le h.1 hb.size, (hb.cell (p := ⟨B, 0, none⟩) h.1).trans h.2.1, (hb.cell (p := ⟨B, 1, none⟩) h.1).trans h.2.2⟩
theorem BoxA.new {w w1 : World} {k : Int} {t : ByteArray} {T : TypeId} (hb : Below (w.alloc (.cells #[.int .i64 k, .string t] T)).heap.size (w.alloc (.cells #[.int .i64 k, .string t] T)) w1) : BoxA w1 w.heap.size k t :=
  ⟨by have := hb.size; rw [World.size_alloc] at this; omega, box_cells hb⟩
theorem below_new {w w1 : World} {o : Obj} (hb : Below (w.alloc o).heap.size (w.alloc o) w1) : Below w.heap.size w w1 :=
  ((Below.refl w.heap.size w).alloc (Nat.le_refl _) _).trans (hb.mono (by rw [World.size_alloc]; omega))
end Go.Proofs.YtnpiphkglhcifaaGreat
