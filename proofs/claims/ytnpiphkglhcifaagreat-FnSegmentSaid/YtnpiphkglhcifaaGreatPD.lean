/-
  CONTRACTS of chapter 6: ParseDictionary of the program.
-/
import Derived.Test.YtnpiphkglhcifaaGreatDictL
import Derived.Deep.AppendLies
import Derived.Test.YtnpiphkglhcifaaGreatDictC
import Derived.Test.YtnpiphkglhcifaaGreatImpl5D
import Derived.Test.YtnpiphkglhcifaaGreatShelf
import Derived.Lib.IndexLaws
import Derived.Test.YtnpiphkglhcifaaGreatMix
import Derived.Test.YtnpiphkglhcifaaGreatImpl6E
namespace Go.Proofs.YtnpiphkglhcifaaGreat
set_option maxRecDepth 100000
open Go.RowKit

theorem OwnInts.congr {w : World} {base : Nat} {v : Value} {n : Nat} {f f' : Nat → Int} (h : OwnInts w base v n f) (hf : ∀ j, j < n → f j = f' j) : OwnInts w base v n f' := by
  rcases h with h | ⟨g, cap, hv, hn, hg, h0, hlt, hc, hz⟩
  · exact .inl h
  · exact .inr ⟨g, cap, hv, hn, hg, h0, hlt, fun j hj => by rw [hc j hj, hf j hj], hz⟩
theorem endE_take (m : Nat) (es : List Ent) : ∀ k, endE m (es.take k) ≤ endE m es := by
  induction es generalizing m with
  | nil => intro k; rw [List.take_nil]; exact Nat.le_refl _
  | cons e r ih =>
    intro k
    cases k with
    | zero =>
      have : ∀ (m : Nat) (l : List Ent), m ≤ endE m l := by
        intro m l
        induction l generalizing m with
        | nil => exact Nat.le_refl _
        | cons x l ih => exact Nat.le_trans (by omega) (ih (m + x.1.length + 1))
      exact this m (e :: r)
    | succ k => exact ih (m + e.1.length + 1) k
theorem mkE_at {m : Nat} {es : List Ent} {k : Nat} {e : Ent} (h : es[k]? = some e) : (mkE m es)[k]? = some (mkEnt (endE m (es.take k)) e) := by
  induction es generalizing m k with
  | nil => simp at h
  | cons x r ih =>
    cases k with
    | zero => simp at h; subst h; rfl
    | succ k => exact ih (m := m + x.1.length + 1) (by simpa using h)
theorem mkEnt_get (m : Nat) (e : Ent) (i : Nat) (h : i < e.1.length) : (mkEnt m e).1.getD i 0 = ((m + i : Nat) : Int) := by
  unfold mkEnt
  simp [List.getD, h]
theorem below_ofTouch {w w' : World} {base : Nat} (h : Below base w w') : Below base w w' := h
end Go.Proofs.YtnpiphkglhcifaaGreat

namespace Go.Proofs.YtnpiphkglhcifaaGreat
set_option maxRecDepth 100000
open Go.RowKit

structure RowX (w : World) (base : Nat) (v : Value) (us : List (Value × Ent)) : Prop where
  row : w.ownsRow base 45 2 v us.length (enCells us)
  own : ∀ (j : Nat) (p : Value × Ent), us[j]? = some p → OwnInts w base p.1 p.2.1.length (fun i => p.2.1.getD i 0)
  off : ∀ (j : Nat) (p : Value × Ent), us[j]? = some p → 0 < p.2.1.length → ∀ b, p.1.ownBlock = some b → v.ownBlock ≠ some b
  apart : ∀ (i j : Nat) (p q : Value × Ent), us[i]? = some p → us[j]? = some q → i ≠ j → 0 < p.2.1.length → 0 < q.2.1.length → p.1.ownBlock ≠ q.1.ownBlock
theorem RowX.nil (w : World) (base : Nat) : RowX w base (.slice none 0 0) [] := ⟨World.ownsRow_nil _ _ _ _, fun j p h => by simp at h, fun j p h => by simp at h, fun i j p q h => by simp at h⟩
theorem RowX.below {w w' : World} {base : Nat} {v : Value} {us : List (Value × Ent)} (h : RowX w base v us) (hb : Below w.heap.size w w') : RowX w' base v us :=
  ⟨row_below h.row hb, fun j p hj => (h.own j p hj).below hb, h.off, h.apart⟩
theorem RowX.mono {w : World} {b b' : Nat} {v : Value} {us : List (Value × Ent)} (h : RowX w b v us) (hb : b' ≤ b) : RowX w b' v us :=
  ⟨ownsRow_mono h.row hb, fun j p hj => (h.own j p hj).mono hb, h.off, h.apart⟩
theorem RowX.form {w : World} {base : Nat} {v : Value} {us : List (Value × Ent)} (h : RowX w base v us) : ∃ a c, v = .slice a us.length c := by
  rcases h.row.2 with ⟨rfl, h0⟩ | ⟨g, cap, cur, rfl, _⟩
  · exact ⟨_, _, by rw [h0]⟩
  · exact ⟨_, _, rfl⟩
/-- A cell of an older block is set. -/
theorem RowX.setCell {w : World} {base : Nat} {v : Value} {us : List (Value × Ent)} (h : RowX w base v us) {B o : Nat} {x : Value} (hB : B < base) : RowX (w.setCell ⟨B, o, none⟩ x) base v us := by
  have hg : w.grownBy (w.setCell ⟨B, o, none⟩ x) (some B) := grown_setC w B o x
  have hrow : v.ownBlock = none ∨ v.ownBlock ≠ some B := by
    cases hv : v.ownBlock with
    | none => exact .inl rfl
    | some k => right; intro e; injection e with e; have := (h.row.lt k hv).1; omega
  exact ⟨h.row.kept hg hrow, fun j p hj => (h.own j p hj).other hB, h.off, h.apart⟩
theorem RowX.own' {w : World} {base : Nat} {v : Value} {us : List (Value × Ent)} (h : RowX w base v us) : OwnEs w base w.heap.size v (us.map (·.2)) := by
  have hlen : (us.map (·.2)).length = us.length := List.length_map _
  rcases h.row.2 with ⟨rfl, h0⟩ | ⟨g, cap, cur, rfl, hbg, hg, hn, hcm, hsz, htake⟩
  · have : us = [] := List.length_eq_zero_iff.1 h0
    subst this
    exact .inl ⟨rfl, _, _, rfl⟩
  · rcases Nat.eq_zero_or_pos us.length with h0 | h0
    · have : us = [] := List.length_eq_zero_iff.1 h0
      subst this
      exact .inl ⟨rfl, _, _, rfl⟩
    · have hlt : g < w.heap.size := (Array.getElem?_eq_some_iff.1 hg).1
      have hU : ∀ (j : Nat) e, (us.map (·.2))[j]? = some e → ∃ p, us[j]? = some p ∧ p.2 = e ∧ (us.map (·.1)).getD j .nilIface = p.1 := by
        intro j xs hj
        rw [List.getElem?_map] at hj
        obtain ⟨p, hp, rfl⟩ := Option.map_eq_some_iff.1 hj
        exact ⟨p, hp, rfl, by simp [List.getD, hp]⟩
      have hU1 : ∀ (j : Nat) xs, ((us.map (·.2)).map (·.1))[j]? = some xs → ∃ p, us[j]? = some p ∧ p.2.1 = xs ∧ (us.map (·.1)).getD j .nilIface = p.1 := by
        intro j xs hj
        rw [List.getElem?_map] at hj
        obtain ⟨e, he, rfl⟩ := Option.map_eq_some_iff.1 hj
        obtain ⟨p, hp, rfl, q⟩ := hU j e he
        exact ⟨p, hp, rfl, q⟩
      have hcell : ∀ (i : Nat) x, (enCells us)[i]? = some x → i < us.length * 2 → w.cell? ⟨g, i, none⟩ = some x := by
        intro i x hx hi
        rw [← htake, List.getElem?_take_of_lt hi] at hx
        simp only [Array.getElem?_toList] at hx
        simp [World.cell?, hg, hx]
      refine .inr ⟨g, cap, fun j => (us.map (·.1)).getD j .nilIface, by rw [hlen], by rw [hlen]; exact hn, by rw [hlen]; exact h0, ⟨hbg, hlt, Nat.le_refl _, fun j => by simp [World.frozen?, hg], fun j e hj => ?_, ⟨fun j xs hj => ?_, fun j xs hj hx b hb => ?_, fun i j xs ys hi hj hij hx hy => ?_⟩⟩⟩
      · obtain ⟨p, hp, rfl, e⟩ := hU j e hj
        have hjl := (List.getElem?_eq_some_iff.1 hp).1
        obtain ⟨q0, q1⟩ := enCells_at us j p hp
        rw [e]
        exact ⟨hcell _ _ q0 (by omega), hcell _ _ q1 (by omega)⟩
      · obtain ⟨p, hp, rfl, e⟩ := hU1 j xs hj
        simp only [e]; exact h.own j p hp
      · obtain ⟨p, hp, rfl, e⟩ := hU1 j xs hj
        simp only [e] at hb
        refine ⟨(h.own j p hp).lt hx b hb, fun q => ?_⟩
        have := h.off j p hp hx b hb
        rw [q] at this
        exact this rfl
      · obtain ⟨p, hp, rfl, e⟩ := hU1 i xs hi
        obtain ⟨p', hp', rfl, e'⟩ := hU1 j ys hj
        simp only [e, e']
        exact h.apart i j p p' hp hp' hij hx hy
/-- One entry appended, at the operation; the row is told in an older world. -/
theorem wp_entX {o : Oper} {a : Act} {w w0 : World} {K : Act → World → Prop} {Q : Exit → Act → World → Prop}
    (p q : Operand) (ho : o.op = .call { callee := .builtin .append, args := #[p, q], argTypes := #[24, 24] }) (base : Nat) (v : Value) (us : List (Value × Ent)) (hs : a.eval p = v) (R : RowX w0 base v us) (hbw : Below w0.heap.size w0 w)
    (u : Value) (e : Ent) (hu : OwnInts w w0.heap.size u e.1.length (fun i => e.1.getD i 0)) (hq : a.eval q = .slice (some ⟨w.heap.size, 0, none⟩) 1 1) (hb : base ≤ w0.heap.size) (h1 : us.length ≤ 1048576)
    (h : ∀ v' w', RowX w' base v' (us ++ [(u, e)]) → (w.alloc (.cells #[u, .string e.2] 45)).grownBy w' v.ownBlock → K (a.put o.dst v') w') :
    Oper.wp Tryz.prog o a (w.alloc (.cells #[u, .string e.2] 45)) K Q := by
  obtain ⟨i0, hi, hz0, hz1, hz2⟩ := info_parts infoEn
  have hsz := hbw.size
  have R1 := R.below hbw
  have hvl : ∀ b, v.ownBlock = some b → b < w0.heap.size := fun b hb' => (R.row.lt b hb').2
  refine wp_append_lies _ p q 24 ho base 45 i0 (.agg #[.slice none 0 0, .string ByteArray.empty]) 2 40 Tryz.underlying24 hi hz0 hz1 hz2 rfl (by decide) v us.length _ hs (R1.row.alloc _) ⟨w.heap.size, 0, none⟩ 1 1 [u, .string e.2] hq rfl (cell_two _ _ _ _) ?_ (by decide) (by unfold maxLen; omega) (by omega) (by simp; omega) (w.heap.size + 1) (by simp) ?_
  · intro y hy; simp at hy; rcases hy with rfl | rfl
    · rcases hu with ⟨_, a', c', rfl⟩ | ⟨g, c', rfl, _⟩ <;> rfl
    · rfl
  · intro g cap w' hown hg hat _
    have ht : Touch (fun b => v.ownBlock = some b) w w' := ((Touch.refl _ w).alloc _).trans (Touch.grown hg fun k e => e)
    have hnew : ∀ b, 0 < e.1.length → u.ownBlock = some b → w0.heap.size ≤ b ∧ b < w.heap.size := fun b h0 hb' => ⟨hu.ge h0 hb', hu.lt h0 b hb'⟩
    have hold : ∀ (j : Nat) (p : Value × Ent), us[j]? = some p → 0 < p.2.1.length → ∀ b, p.1.ownBlock = some b → b < w0.heap.size := fun j p hj h0 b hb' => (R.own j p hj).lt h0 b hb'
    have hat' : (Value.slice (some ⟨g, 0, none⟩) (us.length + 1) cap).ownBlock = v.ownBlock ∨ (Value.slice (some ⟨g, 0, none⟩) (us.length + 1) cap).ownBlock = some (w.heap.size + 1) := by
      rcases hat with h2 | h2
      · exact .inl h2.symm
      · exact .inr (by rw [h2]; rfl)
    have hget : ∀ (j : Nat) (x : Value × Ent), (us ++ [(u, e)])[j]? = some x → (j = us.length ∧ x = (u, e)) ∨ (j < us.length ∧ us[j]? = some x) := by
      intro j x hj
      rcases Nat.lt_or_ge j us.length with hl | hl
      · rw [List.getElem?_append_left hl] at hj; exact .inr ⟨hl, hj⟩
      · rw [List.getElem?_append_right hl] at hj
        have : j - us.length = 0 := by
          rcases Nat.eq_zero_or_pos (j - us.length) with h0 | h0
          · exact h0
          · rw [List.getElem?_eq_none (by simp; omega)] at hj; cases hj
        rw [this] at hj
        exact .inl ⟨by omega, by simpa using hj.symm⟩
    refine h _ w' ⟨?_, fun j p hj => ?_, fun j p hj h0 b hb' => ?_, fun i j p q hi hj hij h0 h1 => ?_⟩ hg
    · show World.ownsRow _ _ _ _ _ _ _
      rw [enCells_snoc, List.length_append]; exact hown
    · rcases hget j p hj with ⟨rfl, rfl⟩ | ⟨hl, hj⟩
      · refine (hu.touch ht fun h0 b hb' e => ?_).mono hb
        have := hnew b h0 hb'
        have := hvl b e
        omega
      · exact (R1.own j p hj).touch ht fun h0 b hb' e => R.off j p hj h0 b hb' e
    · rcases hget j p hj with ⟨rfl, rfl⟩ | ⟨hl, hj⟩
      · have h3 := hnew b h0 hb'
        rcases hat' with h2 | h2
        · rw [h2]; intro e; have := hvl b e; omega
        · rw [h2]; intro e; injection e with e; omega
      · rcases hat' with h2 | h2
        · rw [h2]; exact R.off j p hj h0 b hb'
        · rw [h2]; intro e; injection e with e; have := hold j p hj h0 b hb'; omega
    · have key : ∀ (j : Nat) (q : Value × Ent), us[j]? = some q → 0 < q.2.1.length → 0 < e.1.length → u.ownBlock ≠ q.1.ownBlock := by
        intro j q hj h1 h0 e
        cases hu' : u.ownBlock with
        | none =>
          rcases hu with ⟨hz, _⟩ | ⟨g', cap, rfl, _⟩
          · omega
          · simp [Value.ownBlock] at hu'
        | some b =>
          have h2 := hnew b h0 hu'
          have h3 := hold j q hj h1 b (by rw [← e, hu'])
          omega
      rcases hget i p hi with ⟨rfl, rfl⟩ | ⟨hl, hi⟩
      · rcases hget j q hj with ⟨rfl, rfl⟩ | ⟨hl', hj⟩
        · exact absurd rfl hij
        · exact key j q hj h1 h0
      · rcases hget j q hj with ⟨rfl, rfl⟩ | ⟨hl', hj⟩
        · exact fun e => key i p hi h0 h1 e.symm
        · exact R.apart i j p q hi hj hij h0 h1
/-- .. at a plain list. -/
theorem push_entX {ops : Array Oper} {rest : List Oper} {o : Oper} {a : Act} {w w0 : World} {Q : Exit → Act → World → Prop} (hgd : o.guard = none)
    (p q : Operand) (ho : o.op = .call { callee := .builtin .append, args := #[p, q], argTypes := #[24, 24] }) (base : Nat) (v : Value) (us : List (Value × Ent)) (hs : a.eval p = v) (R : RowX w0 base v us) (hbw : Below w0.heap.size w0 w)
    (u : Value) (e : Ent) (hu : OwnInts w w0.heap.size u e.1.length (fun i => e.1.getD i 0)) (hq : a.eval q = .slice (some ⟨w.heap.size, 0, none⟩) 1 1) (hb : base ≤ w0.heap.size) (h1 : us.length ≤ 1048576)
    (h : ∀ v' w', RowX w' base v' (us ++ [(u, e)]) → (w.alloc (.cells #[u, .string e.2] 45)).grownBy w' v.ownBlock → wpList Tryz.prog ops Q rest (a.put o.dst v') w') :
    wpList Tryz.prog ops Q (o :: rest) a (w.alloc (.cells #[u, .string e.2] 45)) :=
  wpList_plain hgd fun _ hK => wp_entX p q ho base v us hs R hbw u e hu hq hb h1 fun v' w' x y => hK _ _ (h v' w' x y)
end Go.Proofs.YtnpiphkglhcifaaGreat

namespace Go.Proofs.YtnpiphkglhcifaaGreat
set_option maxRecDepth 100000
open Go.RowKit

/-- What FormatDictionary answers. -/
def fmtDB (es : List Ent) : Bool := okD es && decide ((dicT es).size ≤ 4000)
def fmtDS (es : List Ent) : ByteArray := if fmtDB es = true then dicT es else ⟨#[]⟩
def fmtDE (es : List Ent) : Ending := .returned (.tuple #[.string (fmtDS es), .bool (fmtDB es)])
theorem fmtDE_no {es : List Ent} (h : fmtDB es = false) : fmtDE es = .returned (.tuple #[.string ⟨#[]⟩, .bool false]) := by unfold fmtDE fmtDS; rw [h]; rfl
theorem fmtDE_yes {es : List Ent} (h : fmtDB es = true) : fmtDE es = .returned (.tuple #[.string (dicT es), .bool true]) := by unfold fmtDE fmtDS; rw [h]; rfl
theorem fmtDB_bad {es : List Ent} (h : okD es = false) : fmtDB es = false := by unfold fmtDB; rw [h]; rfl
theorem fmtDB_big {es : List Ent} (h : 4000 < (dicT es).size) : fmtDB es = false := by unfold fmtDB; rw [decide_eq_false (by omega), Bool.and_false]
theorem fmtDB_ok {es : List Ent} (h : okD es = true) (h2 : (dicT es).size ≤ 4000) : fmtDB es = true := by unfold fmtDB; rw [h, decide_eq_true h2]; rfl
theorem dicT_size {es : List Ent} (h : ∀ e ∈ es, okE e = true) : (dicT es).size ≤ 212 * es.length := by
  have key : ∀ k, k ≤ es.length → (dicT (es.take k)).size ≤ 212 * k := by
    intro k
    induction k with
    | zero => intro _; exact Nat.le_refl _
    | succ k ih =>
      intro hk
      obtain ⟨e, he⟩ : ∃ e, es[k]? = some e := ⟨_, List.getElem?_eq_getElem (by omega)⟩
      have h1 := ih (by omega)
      have h2 := lineT_size (h e (List.mem_of_getElem? he))
      have h3 := dicT_next he
      rw [← h3]
      unfold lineT at h2
      simp only [ByteArray.size_append] at h2 ⊢
      omega
  have := key es.length (Nat.le_refl _)
  rwa [List.take_length] at this
end Go.Proofs.YtnpiphkglhcifaaGreat

namespace Go.Proofs.YtnpiphkglhcifaaGreat
set_option maxRecDepth 100000
open Go.RowKit

namespace Pl
set_option maxRecDepth 100000
/-- What stands ahead of the first byte c, behind it. -/
def headC (c : UInt8) (l : List UInt8) : List UInt8 := l.takeWhile (fun x => x != c)
def tailC (c : UInt8) (l : List UInt8) : List UInt8 := (l.dropWhile (fun x => x != c)).drop 1
theorem cut_no {c : UInt8} : ∀ {l : List UInt8}, c ∉ l → headC c l = l ∧ tailC c l = []
  | [], _ => ⟨rfl, rfl⟩
  | x :: l, h => by
    rw [List.mem_cons, not_or] at h
    obtain ⟨h1, h2⟩ := cut_no h.2
    have hx : (x != c) = true := by simp; exact fun e => h.1 e.symm
    unfold headC tailC at *
    rw [List.takeWhile_cons, List.dropWhile_cons, hx]
    exact ⟨by rw [if_pos rfl, h1], by rw [if_pos rfl]; exact h2⟩
theorem cut_yes {c : UInt8} : ∀ {l : List UInt8}, c ∈ l → l = headC c l ++ c :: tailC c l ∧ c ∉ headC c l
  | [], h => by simp at h
  | x :: l, h => by
    unfold headC tailC
    rw [List.takeWhile_cons, List.dropWhile_cons]
    by_cases hx : x = c
    · subst hx
      simp
    · have hx' : (x != c) = true := by simp; exact hx
      rw [hx', if_pos rfl, if_pos rfl]
      have hm : c ∈ l := by
        rcases List.mem_cons.1 h with e | h
        · exact absurd e.symm hx
        · exact h
      obtain ⟨h1, h2⟩ := cut_yes hm
      unfold headC tailC at h1
      unfold headC at h2
      refine ⟨by rw [List.cons_append, ← h1], fun q => ?_⟩
      rcases List.mem_cons.1 q with e | q
      · exact hx e.symm
      · exact h2 q
theorem cut_mid {c : UInt8} {a b : List UInt8} (h : c ∉ a) : headC c (a ++ c :: b) = a ∧ tailC c (a ++ c :: b) = b := by
  induction a with
  | nil => unfold headC tailC; simp
  | cons x a ih =>
    rw [List.mem_cons, not_or] at h
    obtain ⟨h1, h2⟩ := ih h.2
    have hx : (x != c) = true := by simp; exact fun e => h.1 e.symm
    unfold headC tailC at *
    rw [List.cons_append, List.takeWhile_cons, List.dropWhile_cons, hx, if_pos rfl, if_pos rfl, h1]
    exact ⟨rfl, h2⟩
theorem split_head (c : UInt8) (l : List UInt8) : ∃ r, split c l = headC c l :: r := by
  by_cases h : c ∈ l
  · obtain ⟨h1, h2⟩ := cut_yes h
    refine ⟨split c (tailC c l), ?_⟩
    have := split_mid c (tailC c l) (headC c l) h2
    rwa [← h1] at this
  · rw [split_end c l h, (cut_no h).1]; exact ⟨[], rfl⟩
/-- The parts put together again, the byte 10 behind each but the last. -/
def flat : List (List UInt8) → List UInt8
  | [] => []
  | [p] => p
  | p :: q :: r => p ++ 10 :: flat (q :: r)
theorem flat_split : ∀ l : List UInt8, flat (split 10 l) = l
  | [] => rfl
  | c :: l => by
    have ih := flat_split l
    unfold split
    by_cases hc : c = 10
    · rw [if_pos hc]
      cases hs : split 10 l with
      | nil => exact absurd hs (split_ne_nil 10 l)
      | cons q r =>
        rw [hs] at ih
        show [] ++ 10 :: flat (q :: r) = c :: l
        rw [ih, hc]; rfl
    · rw [if_neg hc]
      cases hs : split 10 l with
      | nil => exact absurd hs (split_ne_nil 10 l)
      | cons q r =>
        rw [hs] at ih
        cases r with
        | nil => show c :: q = c :: l; rw [show q = l from ih]
        | cons r0 r1 => show (c :: q) ++ 10 :: flat (r0 :: r1) = c :: l; rw [List.cons_append]; rw [show q ++ 10 :: flat (r0 :: r1) = l from ih]
theorem flat_last : ∀ (ps : List (List UInt8)) (q : List UInt8), flat (ps ++ [q]) = (ps.flatMap fun p => p ++ [10]) ++ q
  | [], q => rfl
  | [p], q => by show p ++ 10 :: q = _; simp
  | p :: p' :: ps, q => by
    show p ++ 10 :: flat (p' :: ps ++ [q]) = _
    rw [flat_last (p' :: ps) q, List.flatMap_cons]
    simp
end Pl

/-- The entry that a line writes. -/
def entP (l : List UInt8) : Ent := (parI ⟨(Pl.headC 32 l).toArray⟩, ⟨(Pl.tailC 32 l).toArray⟩)
/-- The lines of a text but for what stands behind the last; and that. -/
def linesP (s : List UInt8) : List (List UInt8) := (Pl.split 10 s).dropLast
def restP (s : List UInt8) : List UInt8 := (Pl.split 10 s).getLast (Pl.split_ne_nil 10 s)
theorem lines_rest (s : List UInt8) : Pl.split 10 s = linesP s ++ [restP s] := (List.dropLast_concat_getLast (Pl.split_ne_nil 10 s)).symm
theorem lines_of {s : List UInt8} {a : List (List UInt8)} {b : List UInt8} (h : Pl.split 10 s = a ++ [b]) : linesP s = a ∧ restP s = b := by
  have h2 := lines_rest s
  rw [h] at h2
  have h3 := List.append_inj' h2 rfl
  exact ⟨h3.1.symm, by have := h3.2; injection this with e _; exact e.symm⟩
theorem text_lines (s : List UInt8) : s = ((linesP s).flatMap fun p => p ++ [10]) ++ restP s := by
  have h := Pl.flat_split s
  rw [lines_rest, Pl.flat_last] at h
  exact h.symm
/-- The entries that a text writes. -/
def candP (s : List UInt8) : List Ent := (linesP s).map entP
theorem parLB_ne {t : ByteArray} (h : parLB t = true) : t.data.toList ≠ [] := by
  intro e
  have ht : t = ByteArray.empty := ByteArray.ext (Array.toList_inj.1 e)
  subst ht
  revert h
  decide +kernel
theorem parB_fmt {t : ByteArray} (h : parB t = true) : fmtT (parI t) = t := by
  unfold parB at h
  have hne : Pl.parse t.data.toList ≠ [] := by intro e; rw [e] at h; simp at h
  have h1 := Pl.fmt_parse t.data.toList hne
  unfold fmtT parI
  have e : outN (outI (Pl.parse t.data.toList)) = Pl.parse t.data.toList := by unfold outN outI; rw [List.map_map]; exact List.map_id _
  rw [e, h1]
theorem parB_of {t : ByteArray} (h : okO (parI t) = true) : parB t = true := by
  cases hb : parB t
  · have : Pl.parse t.data.toList = [] := by unfold parB at hb; simpa using hb
    rw [(par_no this).1] at h
    cases h
  · rfl
theorem entP_ok {l : List UInt8} (h : okE (entP l) = true) : (32 : UInt8) ∈ l ∧ parB ⟨(Pl.headC 32 l).toArray⟩ = true ∧ (lineT (entP l)).data.toList = l ++ [10] := by
  obtain ⟨h1, h2⟩ := okE_O h
  have hb := parB_of h1
  have hm : (32 : UInt8) ∈ l := by
    by_cases hm : (32 : UInt8) ∈ l
    · exact hm
    · have := parLB_ne h2
      exact absurd (show ((entP l).2).data.toList = [] by show (Pl.tailC 32 l).toArray.toList = []; rw [(Pl.cut_no hm).2]) this
  refine ⟨hm, hb, ?_⟩
  have hf := parB_fmt hb
  obtain ⟨hl, _⟩ := Pl.cut_yes hm
  unfold lineT entP
  simp only [ByteArray.data_append, Array.toList_append]
  rw [hf]
  conv => rhs; rw [hl]
  simp
theorem dicT_flat (es : List Ent) : (dicT es).data.toList = es.flatMap fun e => (lineT e).data.toList := by
  have key : ∀ (l : List Ent) (b : ByteArray), (l.foldl (fun b e => b ++ lineT e) b).data.toList = b.data.toList ++ l.flatMap fun e => (lineT e).data.toList := by
    intro l
    induction l with
    | nil => intro b; simp
    | cons x l ih => intro b; rw [List.foldl_cons, ih, List.flatMap_cons]; simp [ByteArray.data_append]
  unfold dicT
  rw [key]; rfl
theorem cand_text {s : List UInt8} (h : ∀ e ∈ candP s, okE e = true) : (dicT (candP s)).data.toList ++ restP s = s := by
  have e1 : (dicT (candP s)).data.toList = (linesP s).flatMap fun p => p ++ [10] := by
    rw [dicT_flat]
    unfold candP at h ⊢
    generalize linesP s = ls at h ⊢
    induction ls with
    | nil => rfl
    | cons x r ih =>
      rw [List.map_cons, List.flatMap_cons, List.flatMap_cons, (entP_ok (h (entP x) (by simp))).2.2, ih (fun e he => h e (by rw [List.map_cons]; exact List.mem_cons_of_mem _ he))]
  rw [e1]; exact (text_lines s).symm
/-- What ParseDictionary answers. -/
def parDB (s : ByteArray) : Bool := decide (s.size ≤ 4000) && ((restP s.data.toList == []) && okD (candP s.data.toList))
def parD (s : ByteArray) : List Ent := if parDB s = true then candP s.data.toList else []
theorem parD_no {s : ByteArray} (h : parDB s = false) : parD s = [] := by unfold parD; rw [h]; rfl
theorem parD_yes {s : ByteArray} (h : parDB s = true) : parD s = candP s.data.toList := by unfold parD; rw [if_pos h]
theorem parDB_big {s : ByteArray} (h : ¬ s.size ≤ 4000) : parDB s = false := by unfold parDB; rw [decide_eq_false h]; rfl
theorem parDB_rest {s : ByteArray} (h : restP s.data.toList ≠ []) : parDB s = false := by unfold parDB; rw [beq_eq_false_iff_ne.2 h]; simp
theorem parDB_bad {s : ByteArray} (h : okD (candP s.data.toList) = false) : parDB s = false := by unfold parDB; rw [h]; simp
theorem parDB_ok {s : ByteArray} (h4 : s.size ≤ 4000) (hr : restP s.data.toList = []) (h : okD (candP s.data.toList) = true) : parDB s = true := by unfold parDB; rw [decide_eq_true h4, hr, h]; rfl
theorem cand_len (s : ByteArray) : (candP s.data.toList).length ≤ s.size := by
  have h := Pl.splitB_len s 10
  unfold Pl.splitB Pl.ofLists at h
  rw [List.length_map, lines_rest, List.length_append] at h
  unfold candP
  rw [List.length_map]
  simp at h
  exact h
end Go.Proofs.YtnpiphkglhcifaaGreat

namespace Go.Proofs.YtnpiphkglhcifaaGreat
set_option maxRecDepth 100000
open Go.RowKit

theorem Pl.headC_take {c : UInt8} : ∀ {l : List UInt8} {k : Nat}, l[k]? = some c → (∀ j, j < k → l[j]? ≠ some c) → Pl.headC c l = l.take k ∧ Pl.tailC c l = l.drop (k + 1) ∧ c ∈ l
  | [], k, h, _ => by simp at h
  | x :: l, 0, h, _ => by
    simp at h; subst h
    unfold Pl.headC Pl.tailC
    simp
  | x :: l, k + 1, h, hn => by
    have hx : x ≠ c := fun e => hn 0 (Nat.zero_lt_succ _) (by simp [e])
    have hx' : (x != c) = true := by simp; exact hx
    obtain ⟨h1, h2, h3⟩ := Pl.headC_take (l := l) (k := k) (by simpa using h) (fun j hj => by have := hn (j + 1) (by omega); simpa using this)
    unfold Pl.headC Pl.tailC at *
    rw [List.takeWhile_cons, List.dropWhile_cons, hx', if_pos rfl, if_pos rfl, h1, h2]
    exact ⟨rfl, rfl, List.mem_cons_of_mem _ h3⟩
/-- What strings.Cut answers. -/
def cutE (s : ByteArray) (c : UInt8) : Ending := .returned (.tuple #[.string ⟨(Pl.headC c s.data.toList).toArray⟩, .string ⟨(Pl.tailC c s.data.toList).toArray⟩, .bool (decide (c ∈ s.data.toList))])
end Go.Proofs.YtnpiphkglhcifaaGreat

namespace Go.Proofs.YtnpiphkglhcifaaGreat
set_option maxRecDepth 100000
open Go.RowKit

/-- A dictionary and a flag handed back. -/
theorem results_dt2 {fn : Func} {p u : Tmp} (h : fn.results = #[.cell p 26, .tmp u]) (tmps : Array Value) (w : World) (g : Nat) (v : Value)
    (hp : tmps.getD p undef = .pointer (some ⟨g, 0, none⟩)) (hg : BoxV w g 26 v) :
    (results fn tmps).run Tryz.prog w = .ok (.tuple #[dV v, tmps.getD u undef]) w := by
  have hr := run_loadVar_row (P := Tryz.prog) w g _ 26 _ _ _ hg Tryz.underlying26 rfl (by kernel_rfl)
  rw [results_cell_tmp h, hp]
  simp [asAddr, hr, Result.andThen, dV]
/-- An answer of a dictionary of its own and a flag. -/
def OutD (base : Nat) (w' : World) (es : List Ent) (b : Bool) (e : Ending) : Prop := ∃ u us, e = .returned (.tuple #[dV u, .bool b]) ∧ RowX w' base u us ∧ us.map (·.2) = es
theorem outD_no (base : Nat) (w : World) : OutD base w [] false (.returned (.tuple #[dV (.slice none 0 0), .bool false])) := ⟨_, [], rfl, RowX.nil _ _, rfl⟩
theorem headC_len (c : UInt8) (l : List UInt8) : (Pl.headC c l).length ≤ l.length := by unfold Pl.headC; exact (List.takeWhile_sublist _).length_le
theorem tailC_len (c : UInt8) (l : List UInt8) : (Pl.tailC c l).length ≤ l.length := by unfold Pl.tailC; rw [List.length_drop]; have := (List.dropWhile_sublist (fun x => x != c) (l := l)).length_le; omega
theorem cand_ok {s : ByteArray} (hs : s.size ≤ 4000) : ∀ e ∈ candP s.data.toList, entOk e := by
  intro e he
  unfold candP at he
  obtain ⟨l, hl, rfl⟩ := List.mem_map.1 he
  have hm : l ∈ Pl.split 10 s.data.toList := by rw [lines_rest]; exact List.mem_append_left _ hl
  have h1 : (⟨l.toArray⟩ : ByteArray) ∈ Pl.splitB s 10 := List.mem_map.2 ⟨l, hm, rfl⟩
  have h2 := Pl.splitB_size s 10 _ h1
  rw [str_len] at h2
  refine ⟨Nat.le_trans (parI_len _) (by decide), ?_⟩
  show (⟨(Pl.tailC 32 l).toArray⟩ : ByteArray).size ≤ _
  rw [str_len]
  have := tailC_len 32 l
  omega
def strLen : Value → Nat | .string t => t.size | _ => 0
end Go.Proofs.YtnpiphkglhcifaaGreat
