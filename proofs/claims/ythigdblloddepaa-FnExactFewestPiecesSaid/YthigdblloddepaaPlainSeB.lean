/-
  PLAIN MATHEMATICS of segmentations, second part: a list of pieces told by its parts. Nothing of the program stands here.
-/
import Derived.Test.YthigdblloddepaaPlainSeg
namespace Go.Proofs.Ythigdblloddepaa.Pl
set_option maxRecDepth 100000
open Go

/-- Is p a piece at i (told by the parts of p)? -/
def spB (es : List En) (xs : List Int) (i : Nat) (p : Pc) : Bool :=
  decide (p.1 = (i : Int)) && (decide (1 ≤ p.2.1) && decide (p.2.1 ≤ (xs.length : Int) - (i : Int))) &&
  (if p.2.2.data.toList = [] then decide (p.2.1 = 1) else match lkP es xs i p.2.1.toNat with
    | some t => decide (t.data.toList = p.2.2.data.toList)
    | none => false)
/-- Is l a segmentation from i on? -/
def segB (es : List En) (xs : List Int) : Nat → List Pc → Bool
  | i, [] => decide ((i : Int) = (xs.length : Int))
  | i, p :: l => spB es xs i p && segB es xs (i + p.2.1.toNat) l
theorem ba_ext {a b : ByteArray} (h : a.data.toList = b.data.toList) : a = b := ByteArray.ext (Array.toList_inj.1 h)
theorem spB_mem {es : List En} {xs : List Int} (hes : ∀ e ∈ es, e.1.length ≤ 6 ∧ e.2.data.toList ≠ []) {i : Nat} {p : Pc} : spB es xs i p = true ↔ i < xs.length ∧ p ∈ allPs es xs i := by
  obtain ⟨f, c, t⟩ := p
  unfold spB
  simp only [Bool.and_eq_true, decide_eq_true_eq]
  rw [allPs_mem]
  have hlk : ∀ (m : Nat) (t' : ByteArray), lkP es xs i m = some t' → ((xs.drop i).take m).length ≤ 6 ∧ t'.data.toList ≠ [] := by
    intro m t' hl
    unfold lkP look at hl
    obtain ⟨e, he, rfl⟩ := Option.map_eq_some_iff.1 hl
    have h1 := List.mem_of_find?_eq_some he
    have h2 := List.find?_some he
    unfold isO at h2
    rw [decide_eq_true_eq] at h2
    rw [← h2]
    exact hes e h1
  constructor
  · rintro ⟨⟨h1, h2, h3⟩, h4⟩
    refine ⟨by omega, ?_⟩
    by_cases ht : t.data.toList = []
    · rw [if_pos ht, decide_eq_true_eq] at h4
      right
      subst h1 h4
      show _ = ((i : Int), (1 : Int), ByteArray.empty)
      rw [show t = ByteArray.empty from ba_ext (by rw [ht]; rfl)]
    · rw [if_neg ht] at h4
      left
      cases hl : lkP es xs i c.toNat with
      | none => rw [hl] at h4; cases h4
      | some t' =>
        rw [hl] at h4
        simp only [decide_eq_true_eq] at h4
        have := ba_ext h4
        subst this
        have h6 := (hlk _ _ hl).1
        rw [List.length_take, List.length_drop] at h6
        refine ⟨c.toNat, t', by omega, by unfold capN; omega, hl, ?_⟩
        rw [h1, show ((c.toNat : Nat) : Int) = c by omega]
  · rintro ⟨hi, ⟨c', t', h1, h2, h3, h4⟩ | h4⟩
    · injection h4 with h4 h5
      injection h5 with h5 h6
      subst h4 h5 h6
      have hne := (hlk _ _ h3).2
      unfold capN at h2
      refine ⟨⟨rfl, by omega, by omega⟩, ?_⟩
      rw [if_neg hne, Int.toNat_natCast, h3]
      simp
    · unfold unP at h4
      injection h4 with h4 h5
      injection h5 with h5 h6
      subst h4 h5 h6
      exact ⟨⟨rfl, by omega, by omega⟩, by rw [if_pos (by rfl)]; rfl⟩
theorem segB_drop {es : List En} {xs : List Int} {ls : List Pc} {k : Nat} {p : Pc} (h : ls[k]? = some p) (i : Nat) : segB es xs i (ls.drop k) = (spB es xs i p && segB es xs (i + p.2.1.toNat) (ls.drop (k + 1))) := by
  obtain ⟨hk, rfl⟩ := List.getElem?_eq_some_iff.1 h
  rw [List.drop_eq_getElem_cons hk]
  rfl
theorem segB_seg {es : List En} {xs : List Int} (hes : ∀ e ∈ es, e.1.length ≤ 6 ∧ e.2.data.toList ≠ []) : ∀ (l : List Pc) (i : Nat), SegAt es xs i l → segB es xs i l = true
  | [], i, h => by
    show decide _ = true
    rw [decide_eq_true_eq]
    show (i : Int) = _
    rw [show i = xs.length from h]
  | p :: l, i, ⟨h1, h2, h3⟩ => by
    show (spB es xs i p && segB es xs (i + p.2.1.toNat) l) = true
    rw [Bool.and_eq_true]
    exact ⟨(spB_mem hes).2 ⟨h1, h2⟩, segB_seg hes l _ h3⟩
end Go.Proofs.Ythigdblloddepaa.Pl
