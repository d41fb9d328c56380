/-
  CONTRACTS of the specification's chapter 11, third part: Segment, CountUntranslated, IsSegmentation.
-/
import Derived.Test.YtnpiphkglhcifaaGreatAtomS
import Derived.Test.YtnpiphkglhcifaaGreatMark
import Derived.Test.YtnpiphkglhcifaaGreatPlainDict
import Derived.Test.YtnpiphkglhcifaaGreatAtRow
import Derived.Test.YtnpiphkglhcifaaGreatTouch
import Derived.Deep.Slices
import Derived.Deep.Strs
import Derived.Laws.AppendOwn
import Derived.Maps.AppendAt
import Derived.Test.YtnpiphkglhcifaaGreatDictC
import Derived.Test.YtnpiphkglhcifaaGreatRowE
import Derived.Test.YtnpiphkglhcifaaGreatDictL
import Derived.Test.YtnpiphkglhcifaaGreatMix
namespace Go.Proofs.YtnpiphkglhcifaaGreat
set_option maxRecDepth 100000
open Go.RowKit

/-- Every block from S on that was there is as it was. -/
def Over (S : Nat) (w w' : World) : Prop := w.heap.size ≤ w'.heap.size ∧ ∀ b o, S ≤ b → b < w.heap.size → w'.cell? ⟨b, o, none⟩ = w.cell? ⟨b, o, none⟩ ∧ w'.frozen? ⟨b, o, none⟩ = w.frozen? ⟨b, o, none⟩
theorem Over.refl (S : Nat) (w : World) : Over S w w := ⟨Nat.le_refl _, fun _ _ _ _ => ⟨rfl, rfl⟩⟩
theorem Over.setCell {S : Nat} {w w' : World} (h : Over S w w') {g : Nat} (hg : g < S) (o : Nat) (v : Value) : Over S w (w'.setCell ⟨g, o, none⟩ v) := by
  refine ⟨by rw [World.size_setCell]; exact h.1, fun b o' hb hl => ⟨?_, ?_⟩⟩
  · rw [World.cell?_setCell_other _ _ _ _ (by intro e; injection e; omega)]; exact (h.2 b o' hb hl).1
  · rw [World.frozen?_setCell]; exact (h.2 b o' hb hl).2
theorem Over.below {S : Nat} {w w' w2 : World} (h : Over S w w') (hb : Below w'.heap.size w' w2) : Over S w w2 := by
  refine ⟨Nat.le_trans h.1 hb.size, fun b o hS hl => ?_⟩
  have h1 := h.2 b o hS hl
  have hl2 : b < w'.heap.size := Nat.lt_of_lt_of_le hl h.1
  exact ⟨(hb.cell (p := ⟨b, o, none⟩) hl2).trans h1.1, (hb.frozen (p := ⟨b, o, none⟩) hl2).trans h1.2⟩
/-- The mark of an atom. -/
def markedA (j : Nat) : Atm := (1 + 2 * (j : Int), markB (2 + 2 * j))
theorem OwnStrs.over {w w' : World} {S base : Nat} {v : Value} {n : Nat} {f : Nat → ByteArray} (h : OwnStrs w base v n f) (ha : Over S w w') (hS : S ≤ base) : OwnStrs w' base v n f := by
  rcases h with h | ⟨g, cap, hv, hn, hg, h0, hlt, hc, hf⟩
  · exact .inl h
  · exact .inr ⟨g, cap, hv, hn, hg, h0, Nat.lt_of_lt_of_le hlt ha.1, fun j hj => ((ha.2 g j (by omega) hlt).1).trans (hc j hj), fun j => ((ha.2 g j (by omega) hlt).2).trans (hf j)⟩
theorem OwnStrs.strs {w : World} {base : Nat} {v : Value} {xs : List ByteArray} (h : OwnStrs w base v xs.length (fun j => xs.getD j ByteArray.empty)) : StrsAt w v xs := by
  rcases h with ⟨h0, a, cap, rfl⟩ | ⟨g, cap, rfl, hc, _, _, hlt, hcell, _⟩
  · have : xs = [] := List.length_eq_zero_iff.1 h0
    subst this
    exact ⟨a, cap, rfl, Nat.zero_le _, .inl rfl⟩
  · refine ⟨_, cap, rfl, hc, .inr ⟨g, 0, rfl, hlt, fun j x hx => ?_⟩⟩
    have hj : j < xs.length := by
      rcases Nat.lt_or_ge j xs.length with h' | h'
      · exact h'
      · rw [List.getElem?_eq_none h'] at hx; cases hx
    rw [Nat.zero_add, hcell j hj]
    simp [List.getD, hx]
end Go.Proofs.YtnpiphkglhcifaaGreat

namespace Go.Proofs.YtnpiphkglhcifaaGreat.Pl
set_option maxRecDepth 100000
open Go

/-- A piece: From, Count, Text. -/
abbrev Pc := Int × Int × ByteArray
/-- The untranslated piece at i. -/
def unP (i : Nat) : Pc := ((i : Int), 1, ByteArray.empty)
/-- The outline of n strokes at i, if the dictionary has it. -/
def lkP (es : List En) (xs : List Int) (i n : Nat) : Option ByteArray := look ((xs.drop i).take n) es
/-- The longest piece of at most n strokes at i. -/
def matN (es : List En) (xs : List Int) (i : Nat) : Nat → Pc
  | 0 => unP i
  | n + 1 => match lkP es xs i (n + 1) with
    | some t => ((i : Int), ((n + 1 : Nat) : Int), t)
    | none => matN es xs i n
/-- How many strokes a piece at i may cover. -/
def capN (xs : List Int) (i : Nat) : Nat := min 6 (xs.length - i)
def matP (es : List En) (xs : List Int) (i : Nat) : Pc := matN es xs i (capN xs i)
/-- All pieces at i, the longest first, without the untranslated one. -/
def fdPs (es : List En) (xs : List Int) (i : Nat) : Nat → List Pc
  | 0 => []
  | n + 1 => match lkP es xs i (n + 1) with
    | some t => ((i : Int), ((n + 1 : Nat) : Int), t) :: fdPs es xs i n
    | none => fdPs es xs i n
def allPs (es : List En) (xs : List Int) (i : Nat) : List Pc := fdPs es xs i (capN xs i) ++ [unP i]
theorem matN_head (es : List En) (xs : List Int) (i : Nat) : ∀ n, (fdPs es xs i n ++ [unP i])[0]? = some (matN es xs i n)
  | 0 => rfl
  | n + 1 => by
    unfold fdPs matN
    cases lkP es xs i (n + 1) with
    | some t => rfl
    | none => exact matN_head es xs i n
theorem allPs_head (es : List En) (xs : List Int) (i : Nat) : (allPs es xs i)[0]? = some (matP es xs i) := matN_head es xs i _
theorem fdPs_mem (es : List En) (xs : List Int) (i : Nat) : ∀ (n : Nat) (p : Pc), p ∈ fdPs es xs i n ↔ ∃ c t, 1 ≤ c ∧ c ≤ n ∧ lkP es xs i c = some t ∧ p = ((i : Int), (c : Int), t)
  | 0, p => by
    constructor
    · intro h; simp [fdPs] at h
    · rintro ⟨c, t, h1, h2, _⟩; omega
  | n + 1, p => by
    have ih := fdPs_mem es xs i n p
    unfold fdPs
    cases hl : lkP es xs i (n + 1) with
    | some t =>
      simp only [List.mem_cons, ih]
      constructor
      · rintro (rfl | ⟨c, t', h1, h2, h3, h4⟩)
        · exact ⟨n + 1, t, by omega, Nat.le_refl _, hl, rfl⟩
        · exact ⟨c, t', h1, by omega, h3, h4⟩
      · rintro ⟨c, t', h1, h2, h3, h4⟩
        by_cases hc : c = n + 1
        · subst hc; rw [hl] at h3; cases h3; exact .inl h4
        · exact .inr ⟨c, t', h1, by omega, h3, h4⟩
    | none =>
      simp only [ih]
      constructor
      · rintro ⟨c, t', h1, h2, h3, h4⟩; exact ⟨c, t', h1, by omega, h3, h4⟩
      · rintro ⟨c, t', h1, h2, h3, h4⟩
        by_cases hc : c = n + 1
        · subst hc; rw [hl] at h3; cases h3
        · exact ⟨c, t', h1, by omega, h3, h4⟩
theorem fdPs_len (es : List En) (xs : List Int) (i : Nat) : ∀ n, (fdPs es xs i n).length ≤ n
  | 0 => Nat.le_refl _
  | n + 1 => by
    have ih := fdPs_len es xs i n
    unfold fdPs
    cases lkP es xs i (n + 1) with
    | some t => simp; omega
    | none => simp; omega
theorem matN_mem (es : List En) (xs : List Int) (i : Nat) (n : Nat) : matN es xs i n ∈ fdPs es xs i n ++ [unP i] := List.mem_of_getElem? (matN_head es xs i n)
/-- What a piece at i is like. -/
theorem allPs_mem (es : List En) (xs : List Int) (i : Nat) (p : Pc) : p ∈ allPs es xs i ↔ (∃ c t, 1 ≤ c ∧ c ≤ capN xs i ∧ lkP es xs i c = some t ∧ p = ((i : Int), (c : Int), t)) ∨ p = unP i := by
  unfold allPs
  rw [List.mem_append, fdPs_mem, List.mem_singleton]
theorem allPs_cnt {es : List En} {xs : List Int} {i : Nat} {p : Pc} (hi : i < xs.length) (h : p ∈ allPs es xs i) : ∃ c : Nat, p.2.1 = (c : Int) ∧ 1 ≤ c ∧ c ≤ 6 ∧ i + c ≤ xs.length ∧ p.1 = (i : Int) := by
  rcases (allPs_mem es xs i p).1 h with ⟨c, t, h1, h2, _, rfl⟩ | rfl
  · unfold capN at h2; exact ⟨c, rfl, h1, by omega, by omega, rfl⟩
  · exact ⟨1, rfl, Nat.le_refl _, by omega, by omega, rfl⟩
/-- How many strokes the longest piece covers. -/
def cntP (es : List En) (xs : List Int) (i : Nat) : Nat := (matP es xs i).2.1.toNat
theorem cntP_ok {es : List En} {xs : List Int} {i : Nat} (hi : i < xs.length) : (matP es xs i).2.1 = (cntP es xs i : Int) ∧ 1 ≤ cntP es xs i ∧ cntP es xs i ≤ 6 ∧ i + cntP es xs i ≤ xs.length ∧ (matP es xs i).1 = (i : Int) := by
  obtain ⟨c, h1, h2, h3, h4, h5⟩ := allPs_cnt hi (List.mem_of_getElem? (allPs_head es xs i))
  have e : cntP es xs i = c := by unfold cntP; rw [h1]; rfl
  rw [e]
  exact ⟨h1, h2, h3, h4, h5⟩
/-- The longest-match segmentation from i on. -/
def segF (es : List En) (xs : List Int) : Nat → Nat → List Pc
  | 0, _ => []
  | f + 1, i => if i < xs.length then matP es xs i :: segF es xs f (i + cntP es xs i) else []
theorem segF_out (es : List En) (xs : List Int) {i : Nat} (h : ¬ i < xs.length) : ∀ f, segF es xs f i = []
  | 0 => rfl
  | f + 1 => by unfold segF; rw [if_neg h]
theorem segF_fuel (es : List En) (xs : List Int) : ∀ f i, xs.length - i ≤ f → segF es xs f i = segF es xs (xs.length - i) i
  | 0, i, h => by rw [show xs.length - i = 0 by omega]
  | f + 1, i, h => by
    by_cases hi : i < xs.length
    · obtain ⟨_, c1, c6, cl, _⟩ := cntP_ok (es := es) hi
      obtain ⟨g, hg⟩ : ∃ g, xs.length - i = g + 1 := ⟨xs.length - i - 1, by omega⟩
      rw [hg]
      unfold segF
      rw [if_pos hi, if_pos hi]
      congr 1
      by_cases hfg : f = g
      · rw [hfg]
      · rw [segF_fuel es xs f _ (by omega)]
        have : ∀ g', xs.length - (i + cntP es xs i) ≤ g' → g' ≤ f → segF es xs g' (i + cntP es xs i) = segF es xs (xs.length - (i + cntP es xs i)) (i + cntP es xs i) := fun g' h1 h2 => by
          rcases Nat.lt_or_ge g' (f + 1) with h3 | h3
          · exact segF_fuel es xs g' _ h1
          · omega
        rw [this g (by omega) (by omega)]
    · rw [segF_out es xs hi, segF_out es xs hi]
termination_by f => f
def segP (es : List En) (xs : List Int) (i : Nat) : List Pc := segF es xs (xs.length - i) i
theorem segP_next {es : List En} {xs : List Int} {i : Nat} (hi : i < xs.length) : segP es xs i = matP es xs i :: segP es xs (i + cntP es xs i) := by
  obtain ⟨_, c1, c6, cl, _⟩ := cntP_ok (es := es) hi
  unfold segP
  obtain ⟨g, hg⟩ : ∃ g, xs.length - i = g + 1 := ⟨xs.length - i - 1, by omega⟩
  rw [hg, segF, if_pos hi, segF_fuel es xs g _ (by omega)]
theorem segP_end {es : List En} {xs : List Int} {i : Nat} (hi : ¬ i < xs.length) : segP es xs i = [] := segF_out es xs hi _
theorem segP_len (es : List En) (xs : List Int) (i : Nat) : (segP es xs i).length ≤ xs.length - i := by
  by_cases hi : i < xs.length
  · obtain ⟨_, c1, c6, cl, _⟩ := cntP_ok (es := es) hi
    rw [segP_next hi, List.length_cons]
    have := segP_len es xs (i + cntP es xs i)
    omega
  · rw [segP_end hi]; exact Nat.zero_le _
termination_by xs.length - i
/-- A segmentation of the strokes from i on. -/
def SegAt (es : List En) (xs : List Int) : Nat → List Pc → Prop
  | i, [] => i = xs.length
  | i, p :: l => i < xs.length ∧ p ∈ allPs es xs i ∧ SegAt es xs (i + p.2.1.toNat) l
theorem segP_seg (es : List En) (xs : List Int) (i : Nat) (hi : i ≤ xs.length) : SegAt es xs i (segP es xs i) := by
  by_cases h : i < xs.length
  · obtain ⟨_, c1, c6, cl, _⟩ := cntP_ok (es := es) h
    rw [segP_next h]
    exact ⟨h, List.mem_of_getElem? (allPs_head es xs i), segP_seg es xs (i + cntP es xs i) cl⟩
  · rw [segP_end h]
    show i = _
    omega
termination_by xs.length - i
theorem segP_mat (es : List En) (xs : List Int) (i : Nat) : ∀ p ∈ segP es xs i, ∃ j, i ≤ j ∧ j < xs.length ∧ p = matP es xs j := by
  by_cases h : i < xs.length
  · obtain ⟨_, c1, c6, cl, _⟩ := cntP_ok (es := es) h
    rw [segP_next h]
    intro p hp
    rw [List.mem_cons] at hp
    rcases hp with rfl | hp
    · exact ⟨i, Nat.le_refl _, h, rfl⟩
    · obtain ⟨j, h1, h2, h3⟩ := segP_mat es xs (i + cntP es xs i) p hp
      exact ⟨j, by omega, h2, h3⟩
  · rw [segP_end h]
    intro p hp; simp at hp
termination_by xs.length - i
/-- The number of untranslated pieces. -/
def untr (l : List Pc) : Nat := l.countP fun p => decide (p.2.2.size = 0)
def costL (l : List Pc) : Nat := 100 * untr l + l.length
theorem untr_le (l : List Pc) : untr l ≤ l.length := List.countP_le_length
theorem untr_cons (p : Pc) (l : List Pc) : untr (p :: l) = untr l + if p.2.2.size = 0 then 1 else 0 := by
  unfold untr; rw [List.countP_cons]; simp
theorem untr_snoc (l : List Pc) (p : Pc) : untr (l ++ [p]) = untr l + if p.2.2.size = 0 then 1 else 0 := by
  unfold untr; rw [List.countP_append, List.countP_cons]; simp
/-- The best of the segmentations from i on that begin with a piece of at most n strokes; T tells the best behind it. -/
def bestN (es : List En) (xs : List Int) (i : Nat) (T : Nat → List Pc) : Nat → List Pc
  | 0 => unP i :: T 1
  | n + 1 => match lkP es xs i (n + 1) with
    | some t => if costL (((i : Int), ((n + 1 : Nat) : Int), t) :: T (n + 1)) ≤ costL (bestN es xs i T n) then ((i : Int), ((n + 1 : Nat) : Int), t) :: T (n + 1) else bestN es xs i T n
    | none => bestN es xs i T n
theorem bestN_congr (es : List En) (xs : List Int) (i : Nat) {T T' : Nat → List Pc} : ∀ n, T 1 = T' 1 → (∀ c, 1 ≤ c → c ≤ n → T c = T' c) → bestN es xs i T n = bestN es xs i T' n
  | 0, h1, _ => by unfold bestN; rw [h1]
  | n + 1, h1, h => by
    have ih := bestN_congr es xs i n h1 (fun c a b => h c a (by omega))
    unfold bestN
    rw [ih, h (n + 1) (by omega) (Nat.le_refl _)]
/-- The best from the last k strokes on, from the last k - 1 on, and so on. -/
def tab (es : List En) (xs : List Int) : Nat → List (List Pc)
  | 0 => [[]]
  | k + 1 => bestN es xs (xs.length - (k + 1)) (fun c => (tab es xs k).getD (c - 1) []) (min 6 (k + 1)) :: tab es xs k
theorem tab_len (es : List En) (xs : List Int) : ∀ k, (tab es xs k).length = k + 1
  | 0 => rfl
  | k + 1 => by unfold tab; rw [List.length_cons, tab_len es xs k]
theorem tab_at (es : List En) (xs : List Int) : ∀ k j, j ≤ k → (tab es xs k).getD j [] = (tab es xs (k - j)).getD 0 []
  | k, 0, _ => rfl
  | 0, j + 1, h => by omega
  | k + 1, j + 1, h => by
    have := tab_at es xs k j (by omega)
    rw [show k + 1 - (j + 1) = k - j by omega, ← this]
    conv => lhs; unfold tab
    rfl
/-- The best segmentation from i on. -/
def opt (es : List En) (xs : List Int) (i : Nat) : List Pc := (tab es xs (xs.length - i)).getD 0 []
theorem opt_end (es : List En) (xs : List Int) : opt es xs xs.length = [] := by unfold opt; rw [Nat.sub_self]; rfl
theorem opt_next {es : List En} {xs : List Int} {i : Nat} (hi : i < xs.length) : opt es xs i = bestN es xs i (fun c => opt es xs (i + c)) (capN xs i) := by
  obtain ⟨k, hk⟩ : ∃ k, xs.length - i = k + 1 := ⟨xs.length - i - 1, by omega⟩
  have e : ∀ c, 1 ≤ c → c ≤ k + 1 → (tab es xs k).getD (c - 1) [] = opt es xs (i + c) := by
    intro c h1 h2
    unfold opt
    rw [tab_at es xs k (c - 1) (by omega), show xs.length - (i + c) = k - (c - 1) by omega]
  conv => lhs; unfold opt
  rw [hk]
  conv => lhs; unfold tab
  show bestN es xs (xs.length - (k + 1)) _ _ = _
  rw [show xs.length - (k + 1) = i by omega]
  unfold capN
  rw [hk]
  exact bestN_congr es xs i _ (e 1 (by omega) (by omega)) (fun c h1 h2 => e c h1 (by omega))
theorem bestN_form (es : List En) (xs : List Int) (i : Nat) (T : Nat → List Pc) : ∀ n, ∃ p, p ∈ fdPs es xs i n ++ [unP i] ∧ bestN es xs i T n = p :: T p.2.1.toNat
  | 0 => ⟨unP i, by simp [fdPs], rfl⟩
  | n + 1 => by
    obtain ⟨p, hp, he⟩ := bestN_form es xs i T n
    unfold bestN fdPs
    cases hl : lkP es xs i (n + 1) with
    | some t =>
      dsimp only
      split
      · exact ⟨((i : Int), ((n + 1 : Nat) : Int), t), by rw [List.cons_append]; exact List.mem_cons_self, rfl⟩
      · exact ⟨p, by rw [List.cons_append]; exact List.mem_cons_of_mem _ hp, he⟩
    | none => exact ⟨p, hp, he⟩
theorem opt_form {es : List En} {xs : List Int} {i : Nat} (hi : i < xs.length) : ∃ p, p ∈ allPs es xs i ∧ opt es xs i = p :: opt es xs (i + p.2.1.toNat) := by
  rw [opt_next hi]
  exact bestN_form es xs i _ _
theorem opt_len (es : List En) (xs : List Int) (i : Nat) : (opt es xs i).length ≤ xs.length - i := by
  by_cases hi : i < xs.length
  · obtain ⟨p, hp, he⟩ := opt_form (es := es) hi
    obtain ⟨c, h1, h2, h3, h4, _⟩ := allPs_cnt hi hp
    rw [he, List.length_cons, h1]
    have := opt_len es xs (i + c)
    simp only [Int.toNat_natCast]
    omega
  · unfold opt; rw [show xs.length - i = 0 by omega]; exact Nat.zero_le _
termination_by xs.length - i
theorem opt_seg (es : List En) (xs : List Int) (i : Nat) (hi : i ≤ xs.length) : SegAt es xs i (opt es xs i) := by
  by_cases h : i < xs.length
  · obtain ⟨p, hp, he⟩ := opt_form (es := es) h
    obtain ⟨c, h1, h2, h3, h4, _⟩ := allPs_cnt h hp
    rw [he]
    refine ⟨h, hp, ?_⟩
    rw [h1]
    simp only [Int.toNat_natCast]
    exact opt_seg es xs (i + c) h4
  · have : i = xs.length := by omega
    subst this
    rw [opt_end]
    rfl
termination_by xs.length - i
/-- The first of the least, from the end on. -/
def minR (m : List Pc) : List (List Pc) → List Pc
  | [] => m
  | c :: cs => if costL c ≤ costL (minR m cs) then c else minR m cs
/-- The first of the least, from the front on. -/
def minL (m : List Pc) : List (List Pc) → List Pc
  | [] => m
  | c :: cs => minL (if costL c < costL m then c else m) cs
theorem minL_app (m : List Pc) : ∀ (l : List (List Pc)) (u : List Pc), minL m (l ++ [u]) = if costL m ≤ costL (minR u l) then m else minR u l := by
  intro l
  induction l generalizing m with
  | nil =>
    intro u
    show (if costL u < costL m then u else m) = _
    show _ = if costL m ≤ costL u then m else u
    by_cases h : costL u < costL m
    · rw [if_pos h, if_neg (by omega)]
    · rw [if_neg h, if_pos (by omega)]
  | cons c l ih =>
    intro u
    show minL (if costL c < costL m then c else m) (l ++ [u]) = _
    rw [ih]
    show _ = if costL m ≤ costL (if costL c ≤ costL (minR u l) then c else minR u l) then m else (if costL c ≤ costL (minR u l) then c else minR u l)
    by_cases h1 : costL c < costL m
    · rw [if_pos h1]
      by_cases h2 : costL c ≤ costL (minR u l)
      · rw [if_pos h2, if_neg (by omega)]
      · rw [if_neg h2, if_neg (by omega)]
    · rw [if_neg h1]
      by_cases h2 : costL c ≤ costL (minR u l)
      · rw [if_pos h2, if_pos (by omega), if_pos (by omega)]
      · rw [if_neg h2]
theorem bestN_min (es : List En) (xs : List Int) (i : Nat) (T : Nat → List Pc) : ∀ n, bestN es xs i T n = minR (unP i :: T 1) ((fdPs es xs i n).map fun p => p :: T p.2.1.toNat)
  | 0 => rfl
  | n + 1 => by
    have ih := bestN_min es xs i T n
    unfold bestN fdPs
    cases lkP es xs i (n + 1) with
    | some t =>
      dsimp only
      rw [ih]
      simp only [List.map_cons, minR, Int.toNat_natCast]
    | none => exact ih
/-- The first of the least of a list that is not empty. -/
def minF : List (List Pc) → List Pc
  | [] => []
  | c :: cs => minL c cs
theorem opt_min {es : List En} {xs : List Int} {i : Nat} (hi : i < xs.length) : opt es xs i = minF ((allPs es xs i).map fun p => p :: opt es xs (i + p.2.1.toNat)) := by
  rw [opt_next hi, bestN_min]
  unfold allPs
  rw [List.map_append]
  show minR _ ((fdPs es xs i (capN xs i)).map fun p => p :: opt es xs (i + p.2.1.toNat)) = minF (_ ++ [unP i :: opt es xs (i + 1)])
  generalize (fdPs es xs i (capN xs i)).map (fun p => p :: opt es xs (i + p.2.1.toNat)) = l
  cases l with
  | nil => rfl
  | cons c l =>
    show (if costL c ≤ costL (minR _ l) then c else minR _ l) = minL c (l ++ [_])
    rw [minL_app]
theorem minL_snoc (m : List Pc) (c : List Pc) : ∀ l : List (List Pc), minL m (l ++ [c]) = if costL c < costL (minL m l) then c else minL m l := by
  intro l
  induction l generalizing m with
  | nil => rfl
  | cons d l ih => exact ih _
theorem minF_snoc (c : List Pc) {l : List (List Pc)} (h : l ≠ []) : minF (l ++ [c]) = if costL c < costL (minF l) then c else minF l := by
  cases l with
  | nil => exact absurd rfl h
  | cons d l => exact minL_snoc d c l
theorem minF_mem : ∀ {l : List (List Pc)}, l ≠ [] → minF l ∈ l := by
  intro l h
  cases l with
  | nil => exact absurd rfl h
  | cons d l =>
    show minL d l ∈ d :: l
    clear h
    induction l generalizing d with
    | nil => exact List.mem_singleton.2 rfl
    | cons c l ih =>
      show minL (if costL c < costL d then c else d) l ∈ _
      have := ih (if costL c < costL d then c else d)
      rw [List.mem_cons] at this
      rcases this with h | h
      · rw [h]; split <;> simp
      · exact List.mem_cons_of_mem _ (List.mem_cons_of_mem _ h)
/-- Two lists of at most 60 pieces are compared by cost as by untranslated pieces and length. -/
theorem cost_lt {a b : List Pc} (ha : a.length ≤ 60) (hb : b.length ≤ 60) : costL a < costL b ↔ untr a < untr b ∨ untr a = untr b ∧ a.length < b.length := by
  unfold costL
  constructor
  · intro h
    omega
  · intro h
    omega
end Go.Proofs.YtnpiphkglhcifaaGreat.Pl

namespace Go.Proofs.YtnpiphkglhcifaaGreat.Pl
set_option maxRecDepth 100000
open Go

/-- Is p a piece at i (told by the parts of p)? -/
def spB (es : List En) (xs : List Int) (i : Nat) (p : Pc) : Bool :=
  decide (p.1 = (i : Int)) && (decide (1 ≤ p.2.1) && decide (p.2.1 ≤ (xs.length : Int) - (i : Int))) &&
  (if p.2.2.data.toList = [] then decide (p.2.1 = 1) else match lkP es xs i p.2.1.toNat with
    | some t => decide (t.data.toList = p.2.2.data.toList)
    | none => false)
/-- Is l a segmentation from i on? -/
def segB (es : List En) (xs : List Int) : Nat → List Pc → Bool
  | i, [] => decide ((i : Int) = (xs.length : Int))
  | i, p :: l => spB es xs i p && segB es xs (i + p.2.1.toNat) l
theorem ba_ext {a b : ByteArray} (h : a.data.toList = b.data.toList) : a = b := ByteArray.ext (Array.toList_inj.1 h)
theorem spB_mem {es : List En} {xs : List Int} (hes : ∀ e ∈ es, e.1.length ≤ 6 ∧ e.2.data.toList ≠ []) {i : Nat} {p : Pc} : spB es xs i p = true ↔ i < xs.length ∧ p ∈ allPs es xs i := by
  obtain ⟨f, c, t⟩ := p
  unfold spB
  simp only [Bool.and_eq_true, decide_eq_true_eq]
  rw [allPs_mem]
  have hlk : ∀ (m : Nat) (t' : ByteArray), lkP es xs i m = some t' → ((xs.drop i).take m).length ≤ 6 ∧ t'.data.toList ≠ [] := by
    intro m t' hl
    unfold lkP look at hl
    obtain ⟨e, he, rfl⟩ := Option.map_eq_some_iff.1 hl
    have h1 := List.mem_of_find?_eq_some he
    have h2 := List.find?_some he
    unfold isO at h2
    rw [decide_eq_true_eq] at h2
    rw [← h2]
    exact hes e h1
  constructor
  · rintro ⟨⟨h1, h2, h3⟩, h4⟩
    refine ⟨by omega, ?_⟩
    by_cases ht : t.data.toList = []
    · rw [if_pos ht, decide_eq_true_eq] at h4
      right
      subst h1 h4
      show _ = ((i : Int), (1 : Int), ByteArray.empty)
      rw [show t = ByteArray.empty from ba_ext (by rw [ht]; rfl)]
    · rw [if_neg ht] at h4
      left
      cases hl : lkP es xs i c.toNat with
      | none => rw [hl] at h4; cases h4
      | some t' =>
        rw [hl] at h4
        simp only [decide_eq_true_eq] at h4
        have := ba_ext h4
        subst this
        have h6 := (hlk _ _ hl).1
        rw [List.length_take, List.length_drop] at h6
        refine ⟨c.toNat, t', by omega, by unfold capN; omega, hl, ?_⟩
        rw [h1, show ((c.toNat : Nat) : Int) = c by omega]
  · rintro ⟨hi, ⟨c', t', h1, h2, h3, h4⟩ | h4⟩
    · injection h4 with h4 h5
      injection h5 with h5 h6
      subst h4 h5 h6
      have hne := (hlk _ _ h3).2
      unfold capN at h2
      refine ⟨⟨rfl, by omega, by omega⟩, ?_⟩
      rw [if_neg hne, Int.toNat_natCast, h3]
      simp
    · unfold unP at h4
      injection h4 with h4 h5
      injection h5 with h5 h6
      subst h4 h5 h6
      exact ⟨⟨rfl, by omega, by omega⟩, by rw [if_pos (by rfl)]; rfl⟩
theorem segB_drop {es : List En} {xs : List Int} {ls : List Pc} {k : Nat} {p : Pc} (h : ls[k]? = some p) (i : Nat) : segB es xs i (ls.drop k) = (spB es xs i p && segB es xs (i + p.2.1.toNat) (ls.drop (k + 1))) := by
  obtain ⟨hk, rfl⟩ := List.getElem?_eq_some_iff.1 h
  rw [List.drop_eq_getElem_cons hk]
  rfl
theorem segB_seg {es : List En} {xs : List Int} (hes : ∀ e ∈ es, e.1.length ≤ 6 ∧ e.2.data.toList ≠ []) : ∀ (l : List Pc) (i : Nat), SegAt es xs i l → segB es xs i l = true
  | [], i, h => by
    show decide _ = true
    rw [decide_eq_true_eq]
    show (i : Int) = _
    rw [show i = xs.length from h]
  | p :: l, i, ⟨h1, h2, h3⟩ => by
    show (spB es xs i p && segB es xs (i + p.2.1.toNat) l) = true
    rw [Bool.and_eq_true]
    exact ⟨(spB_mem hes).2 ⟨h1, h2⟩, segB_seg hes l _ h3⟩
end Go.Proofs.YtnpiphkglhcifaaGreat.Pl

namespace Go.Proofs.YtnpiphkglhcifaaGreat.Pl
set_option maxRecDepth 100000
open Go

theorem costL_cons (p : Pc) (l : List Pc) : costL (p :: l) = costL l + 1 + if p.2.2.size = 0 then 100 else 0 := by
  unfold costL
  rw [untr_cons, List.length_cons]
  split <;> omega
theorem costL_un (i : Nat) (l : List Pc) : costL (unP i :: l) = 101 + costL l := by
  rw [costL_cons, if_pos (by rfl)]; omega
theorem size_zero {t : ByteArray} (h : t.size = 0) : t.data.toList = [] := List.length_eq_zero_iff.1 h
theorem lkP_ne {es : List En} (hes : ∀ e ∈ es, e.1.length ≤ 6 ∧ e.2.data.toList ≠ []) {xs : List Int} {i n : Nat} {t : ByteArray} (h : lkP es xs i n = some t) : t.size ≠ 0 := by
  unfold lkP look at h
  obtain ⟨e, he, rfl⟩ := Option.map_eq_some_iff.1 h
  exact fun h0 => (hes e (List.mem_of_find?_eq_some he)).2 (size_zero h0)
theorem costL_some {es : List En} (hes : ∀ e ∈ es, e.1.length ≤ 6 ∧ e.2.data.toList ≠ []) {xs : List Int} {i n : Nat} {t : ByteArray} (h : lkP es xs i n = some t) (a b : Int) (l : List Pc) : costL ((a, b, t) :: l) = 1 + costL l := by
  rw [costL_cons, if_neg (lkP_ne hes h)]; omega
theorem costL_le (l : List Pc) : costL l ≤ 101 * l.length := by
  unfold costL; have := untr_le l; omega
/-- How many strokes the best one's first piece covers; 0: it is untranslated. -/
def tkN (es : List En) (xs : List Int) (i : Nat) (T : Nat → List Pc) : Nat → Nat
  | 0 => 0
  | n + 1 => match lkP es xs i (n + 1) with
    | some t => if costL (((i : Int), ((n + 1 : Nat) : Int), t) :: T (n + 1)) ≤ costL (bestN es xs i T n) then n + 1 else tkN es xs i T n
    | none => tkN es xs i T n
theorem bestN_succ (es : List En) (xs : List Int) (i : Nat) (T : Nat → List Pc) (n : Nat) : bestN es xs i T (n + 1) = match lkP es xs i (n + 1) with
    | some t => if costL (((i : Int), ((n + 1 : Nat) : Int), t) :: T (n + 1)) ≤ costL (bestN es xs i T n) then ((i : Int), ((n + 1 : Nat) : Int), t) :: T (n + 1) else bestN es xs i T n
    | none => bestN es xs i T n := rfl
theorem tkN_succ (es : List En) (xs : List Int) (i : Nat) (T : Nat → List Pc) (n : Nat) : tkN es xs i T (n + 1) = match lkP es xs i (n + 1) with
    | some t => if costL (((i : Int), ((n + 1 : Nat) : Int), t) :: T (n + 1)) ≤ costL (bestN es xs i T n) then n + 1 else tkN es xs i T n
    | none => tkN es xs i T n := rfl
theorem tkN_form (es : List En) (xs : List Int) (i : Nat) (T : Nat → List Pc) : ∀ n, (tkN es xs i T n = 0 ∧ bestN es xs i T n = unP i :: T 1) ∨ (1 ≤ tkN es xs i T n ∧ tkN es xs i T n ≤ n ∧ ∃ t, lkP es xs i (tkN es xs i T n) = some t ∧ bestN es xs i T n = ((i : Int), (tkN es xs i T n : Int), t) :: T (tkN es xs i T n))
  | 0 => .inl ⟨rfl, rfl⟩
  | n + 1 => by
    have ih := tkN_form es xs i T n
    rw [tkN_succ, bestN_succ]
    cases hl : lkP es xs i (n + 1) with
    | some t =>
      dsimp only
      by_cases hc : costL (((i : Int), ((n + 1 : Nat) : Int), t) :: T (n + 1)) ≤ costL (bestN es xs i T n)
      · rw [if_pos hc, if_pos hc]
        exact .inr ⟨by omega, Nat.le_refl _, t, hl, rfl⟩
      · rw [if_neg hc, if_neg hc]
        rcases ih with ih | ⟨h1, h2, h3⟩
        · exact .inl ih
        · exact .inr ⟨h1, by omega, h3⟩
    | none =>
      dsimp only
      rcases ih with ih | ⟨h1, h2, h3⟩
      · exact .inl ih
      · exact .inr ⟨h1, by omega, h3⟩
def cC (es : List En) (xs : List Int) (j : Nat) : Nat := costL (opt es xs j)
def cN (es : List En) (xs : List Int) (i n : Nat) : Nat := costL (bestN es xs i (fun c => opt es xs (i + c)) n)
def tN (es : List En) (xs : List Int) (i n : Nat) : Nat := tkN es xs i (fun c => opt es xs (i + c)) n
def tk (es : List En) (xs : List Int) (i : Nat) : Nat := tN es xs i (capN xs i)
theorem cC_le (es : List En) (xs : List Int) (j : Nat) (h : xs.length ≤ 60) : cC es xs j ≤ 6060 := by
  unfold cC; have := costL_le (opt es xs j); have := opt_len es xs j; omega
theorem cC_end (es : List En) (xs : List Int) : cC es xs xs.length = 0 := by unfold cC; rw [opt_end]; rfl
theorem cN_zero (es : List En) (xs : List Int) (i : Nat) : cN es xs i 0 = 101 + cC es xs (i + 1) := costL_un i _
theorem tN_zero (es : List En) (xs : List Int) (i : Nat) : tN es xs i 0 = 0 := rfl
theorem cN_none {es : List En} {xs : List Int} {i n : Nat} (h : lkP es xs i (n + 1) = none) : cN es xs i (n + 1) = cN es xs i n ∧ tN es xs i (n + 1) = tN es xs i n := by
  constructor
  · unfold cN; rw [bestN_succ, h]
  · unfold tN; rw [tkN_succ, h]
theorem cN_some {es : List En} (hes : ∀ e ∈ es, e.1.length ≤ 6 ∧ e.2.data.toList ≠ []) {xs : List Int} {i n : Nat} {t : ByteArray} (h : lkP es xs i (n + 1) = some t) :
    cN es xs i (n + 1) = (if 1 + cC es xs (i + (n + 1)) ≤ cN es xs i n then 1 + cC es xs (i + (n + 1)) else cN es xs i n) ∧ tN es xs i (n + 1) = (if 1 + cC es xs (i + (n + 1)) ≤ cN es xs i n then n + 1 else tN es xs i n) := by
  have hc := costL_some hes h (i : Int) ((n + 1 : Nat) : Int) (opt es xs (i + (n + 1)))
  constructor
  · unfold cN cC; rw [bestN_succ, h]
    dsimp only
    rw [hc]
    split
    · rw [hc]
    · rfl
  · unfold tN cN cC; rw [tkN_succ, h]
    dsimp only
    rw [hc]
theorem cN_cap {es : List En} {xs : List Int} {i : Nat} (h : i < xs.length) : cN es xs i (capN xs i) = cC es xs i := by
  unfold cN cC; rw [opt_next h]
theorem tN_le (es : List En) (xs : List Int) (i n : Nat) : tN es xs i n ≤ n := by
  rcases tkN_form es xs i (fun c => opt es xs (i + c)) n with ⟨h, _⟩ | ⟨_, h, _⟩
  · unfold tN; omega
  · exact h
/-- What the best one begins with. -/
theorem opt_tk {es : List En} {xs : List Int} {i : Nat} (h : i < xs.length) : (tk es xs i = 0 ∧ opt es xs i = unP i :: opt es xs (i + 1)) ∨ (1 ≤ tk es xs i ∧ i + tk es xs i ≤ xs.length ∧ tk es xs i ≤ 6 ∧ ∃ t, lkP es xs i (tk es xs i) = some t ∧ opt es xs i = ((i : Int), (tk es xs i : Int), t) :: opt es xs (i + tk es xs i)) := by
  rcases tkN_form es xs i (fun c => opt es xs (i + c)) (capN xs i) with ⟨h1, h2⟩ | ⟨h1, h2, t, h3, h4⟩
  · exact .inl ⟨h1, by rw [opt_next h, h2]⟩
  · refine .inr ⟨h1, ?_, ?_, t, h3, ?_⟩
    · unfold tk tN; unfold capN at h2 ⊢; omega
    · unfold tk tN; unfold capN at h2 ⊢; omega
    · conv => lhs; rw [opt_next h, h4]
      rfl
end Go.Proofs.YtnpiphkglhcifaaGreat.Pl

namespace Go.Proofs.YtnpiphkglhcifaaGreat
set_option maxRecDepth 100000
open Go.RowKit

/-- A piece: From, Count, Text. -/
abbrev Pc := Pl.Pc
/-- The zero piece. -/
def pc0 : Pc := (0, 0, ByteArray.empty)
/-- An event, as a value. -/
abbrev pcV (e : Pc) : Value := .agg #[.int .i64 e.1, .int .i64 e.2.1, .string e.2.2]
/-- The value v is a slice whose elements are the pieces es. -/
def PcsAt (w : World) (v : Value) (es : List Pc) : Prop :=
  ∃ (a : Option Addr) (cap : Nat), v = .slice a es.length cap ∧ es.length ≤ cap ∧ (es = [] ∨ ∃ bk o, a = some ⟨bk, o, none⟩ ∧ bk < w.heap.size ∧ ∀ (j : Nat) e, es[j]? = some e →
    w.cell? ⟨bk, o + j * 3, none⟩ = some (.int .i64 e.1) ∧ w.cell? ⟨bk, o + j * 3 + 1, none⟩ = some (.int .i64 e.2.1) ∧ w.cell? ⟨bk, o + j * 3 + 2, none⟩ = some (.string e.2.2))
theorem PcsAt.below {w w' : World} {v : Value} {es : List Pc} (h : PcsAt w v es) (hb : Below w.heap.size w w') : PcsAt w' v es := by
  obtain ⟨a, cap, hv, hc, h⟩ := h
  refine ⟨a, cap, hv, hc, ?_⟩
  rcases h with h | ⟨bk, o, ha, hk, h⟩
  · exact .inl h
  · refine .inr ⟨bk, o, ha, Nat.lt_of_lt_of_le hk hb.size, fun j e he => ?_⟩
    obtain ⟨h0, h1, h2⟩ := h j e he
    exact ⟨(hb.cell (p := ⟨bk, o + j * 3, none⟩) hk).trans h0, (hb.cell (p := ⟨bk, o + j * 3 + 1, none⟩) hk).trans h1, (hb.cell (p := ⟨bk, o + j * 3 + 2, none⟩) hk).trans h2⟩
theorem PcsAt.nil (w : World) (a : Option Addr) (cap : Nat) : PcsAt w (.slice a 0 cap) [] := ⟨a, cap, rfl, Nat.zero_le _, .inl rfl⟩


/-- Block g holds n pieces, none frozen. -/
def RowPc (w : World) (g n : Nat) (f : Nat → Pc) : Prop :=
  g < w.heap.size ∧ (∀ j, j < n → w.cell? ⟨g, j * 3, none⟩ = some (.int .i64 (f j).1) ∧ w.cell? ⟨g, j * 3 + 1, none⟩ = some (.int .i64 (f j).2.1) ∧ w.cell? ⟨g, j * 3 + 2, none⟩ = some (.string (f j).2.2)) ∧ ∀ j, w.frozen? ⟨g, j, none⟩ = false
theorem RowPc.below {w w' : World} {g n : Nat} {f : Nat → Pc} (h : RowPc w g n f) (hb : Below w.heap.size w w') : RowPc w' g n f := by
  obtain ⟨h0, h1, h2⟩ := h
  refine ⟨Nat.lt_of_lt_of_le h0 hb.size, fun j hj => ?_, fun j => (hb.frozen (p := ⟨g, j, none⟩) h0).trans (h2 j)⟩
  obtain ⟨a0, a1, a2⟩ := h1 j hj
  exact ⟨(hb.cell (p := ⟨g, j * 3, none⟩) h0).trans a0, (hb.cell (p := ⟨g, j * 3 + 1, none⟩) h0).trans a1, (hb.cell (p := ⟨g, j * 3 + 2, none⟩) h0).trans a2⟩
/-- An event is written into the row. -/
theorem RowPc.set {w : World} {g n : Nat} {f : Nat → Pc} (h : RowPc w g n f) (k : Nat) (hk : k < n) (e : Pc) :
    RowPc (((w.setCell ⟨g, k * 3, none⟩ (.int .i64 e.1)).setCell ⟨g, k * 3 + 1, none⟩ (.int .i64 e.2.1)).setCell ⟨g, k * 3 + 2, none⟩ (.string e.2.2)) g n (fun j => if j = k then e else f j) := by
  obtain ⟨h0, h1, h2⟩ := h
  obtain ⟨k0, k1, k2⟩ := h1 k hk
  refine ⟨by rw [World.size_setCell, World.size_setCell, World.size_setCell]; exact h0, fun j hj => ?_, fun j => by rw [World.frozen?_setCell, World.frozen?_setCell, World.frozen?_setCell]; exact h2 j⟩
  obtain ⟨a0, a1, a2⟩ := h1 j hj
  by_cases hjk : j = k
  · subst hjk
    simp only [if_true]
    refine ⟨?_, ?_, ?_⟩
    · rw [World.cell?_setCell_other _ _ _ _ (by intro e; injection e; omega), World.cell?_setCell_other _ _ _ _ (by intro e; injection e; omega)]
      exact World.cell?_setCell_same _ _ _ a0
    · rw [World.cell?_setCell_other _ _ _ _ (by intro e; injection e; omega)]
      refine World.cell?_setCell_same _ _ _ (u := .int .i64 (f j).2.1) ?_
      rw [World.cell?_setCell_other _ _ _ _ (by intro e; injection e; omega)]; exact a1
    · refine World.cell?_setCell_same _ _ _ (u := .string (f j).2.2) ?_
      rw [World.cell?_setCell_other _ _ _ _ (by intro e; injection e; omega), World.cell?_setCell_other _ _ _ _ (by intro e; injection e; omega)]; exact a2
  · simp only [if_neg hjk]
    refine ⟨?_, ?_, ?_⟩
    · rw [World.cell?_setCell_other _ _ _ _ (by intro e; injection e; omega), World.cell?_setCell_other _ _ _ _ (by intro e; injection e; omega), World.cell?_setCell_other _ _ _ _ (by intro e; injection e; omega)]; exact a0
    · rw [World.cell?_setCell_other _ _ _ _ (by intro e; injection e; omega), World.cell?_setCell_other _ _ _ _ (by intro e; injection e; omega), World.cell?_setCell_other _ _ _ _ (by intro e; injection e; omega)]; exact a1
    · rw [World.cell?_setCell_other _ _ _ _ (by intro e; injection e; omega), World.cell?_setCell_other _ _ _ _ (by intro e; injection e; omega), World.cell?_setCell_other _ _ _ _ (by intro e; injection e; omega)]; exact a2
theorem RowPc.congr {w : World} {g n : Nat} {f f' : Nat → Pc} (h : RowPc w g n f) (hf : ∀ j, j < n → f j = f' j) : RowPc w g n f' := by
  refine ⟨h.1, fun j hj => ?_, h.2.2⟩
  rw [← hf j hj]; exact h.2.1 j hj
theorem below_set3 {w w1 : World} {base g : Nat} (h : Below base w w1) (hg : base ≤ g) (a b c : Nat) (x y z : Value) : Below base w (((w1.setCell ⟨g, a, none⟩ x).setCell ⟨g, b, none⟩ y).setCell ⟨g, c, none⟩ z) :=
  ((h.setCell (p := ⟨g, a, none⟩) hg x).setCell (p := ⟨g, b, none⟩) hg y).setCell (p := ⟨g, c, none⟩) hg z
theorem rowPc_at {w : World} {g n : Nat} {f : Nat → Pc} {es : List Pc} (h : RowPc w g n f) (hn : n = es.length) (hf : ∀ j e, es[j]? = some e → f j = e) (cap : Nat) (hc : n ≤ cap) : PcsAt w (.slice (some ⟨g, 0, none⟩) n cap) es := by
  subst hn
  refine ⟨_, cap, rfl, hc, .inr ⟨g, 0, rfl, h.1, fun j e he => ?_⟩⟩
  have hj : j < es.length := by
    rcases Nat.lt_or_ge j es.length with h' | h'
    · exact h'
    · rw [List.getElem?_eq_none h'] at he; cases he
  have := h.2.1 j hj
  rw [hf j e he] at this
  rw [Nat.zero_add]; exact this
/-- v is a slice of n pieces of its own, from block 'base' on. -/
def OwnPcs (w : World) (base : Nat) (v : Value) (n : Nat) (f : Nat → Pc) : Prop :=
  (n = 0 ∧ ∃ a cap, v = .slice a 0 cap) ∨ ∃ g cap, v = .slice (some ⟨g, 0, none⟩) n cap ∧ n ≤ cap ∧ base ≤ g ∧ 0 < n ∧ RowPc w g n f
theorem OwnPcs.below {w w' : World} {base : Nat} {v : Value} {n : Nat} {f : Nat → Pc} (h : OwnPcs w base v n f) (hb : Below w.heap.size w w') : OwnPcs w' base v n f := by
  rcases h with h | ⟨g, cap, hv, hn, hg, h0, hr⟩
  · exact .inl h
  · exact .inr ⟨g, cap, hv, hn, hg, h0, hr.below hb⟩
theorem OwnPcs.at {w : World} {base : Nat} {v : Value} {n : Nat} {f : Nat → Pc} {es : List Pc} (h : OwnPcs w base v n f) (hn : n = es.length) (hf : ∀ j e, es[j]? = some e → f j = e) : PcsAt w v es := by
  rcases h with ⟨h0, a, cap, rfl⟩ | ⟨g, cap, rfl, hc, _, _, hr⟩
  · have : es = [] := List.length_eq_zero_iff.1 (by omega)
    subst this
    exact PcsAt.nil _ _ _
  · exact rowPc_at hr hn hf cap hc
theorem infoPc : (Tryz.prog.info? 37).map (fun i => (i.zero, i.size, i.bytes)) = some (some (.agg #[.int .i64 0, .int .i64 0, .string ByteArray.empty]), 3, 32) := by kernel_rfl





/-- The slice that came in holds the pieces es. -/
def PcsIn (w : World) (a : Option Addr) (n c : Nat) (es : List Pc) : Prop :=
  n ≤ maxLen ∧ es.length = n ∧ PcsAt w (.slice a n c) es ∧ ∀ e ∈ es, (Lit.int .i64 e.1).wf = true ∧ (Lit.int .i64 e.2.1).wf = true ∧ e.2.2.size ≤ maxLen

theorem cells_three {w : World} {base : Nat} {b o : Nat} {cs : List Value} {x y z : Value} (h : w.cells? base ⟨b, o, none⟩ 3 = some cs) (h0 : (cs.drop 0).take 1 = [x]) (h1 : (cs.drop 1).take 1 = [y]) (h2 : (cs.drop 2).take 1 = [z]) :
    w.cell? ⟨b, o, none⟩ = some x ∧ w.cell? ⟨b, o + 1, none⟩ = some y ∧ w.cell? ⟨b, o + 2, none⟩ = some z := by
  obtain ⟨_, hl, hc⟩ := World.cells?_some h
  match cs, hl with
  | [p, q, r], _ =>
    simp at h0 h1 h2
    subst h0 h1 h2
    have c0 := hc 0 (by omega)
    have c1 := hc 1 (by omega)
    have c2 := hc 2 (by omega)
    simp [Addr.add] at c0 c1 c2
    exact ⟨c0, c1, c2⟩

theorem open_pcs {H : Type} {enc : TypeId × Value → H} {P : Program} {w : World} {base : Nat} {spare : Nat → Bool} {held : Bool} {t e ti tb : TypeId} {n0 n1 n2 : Field} {fuel : Nat} {cs : List Value} {x : DataW H × List MemPlace}
    (ht : P.underlying t = some (.slice e)) (he : P.underlying e = some (.struct #[n0, n1, n2])) (hc : P.cellsOf e = 3) (hi1 : P.cellsOf ti = 1) (hb1 : P.cellsOf tb = 1)
    (f0 : n0.type = ti ∧ n0.offset = 0) (f1 : n1.type = ti ∧ n1.offset = 1) (f2 : n2.type = tb ∧ n2.offset = 2)
    (hi : P.underlying ti = some (.int .i64)) (hb : P.underlying tb = some .string) (h : DataW.trod enc P w base spare held fuel t cs = some x) :
    ∃ (a : Option Addr) (n c : Nat) (es : List Pc), cs = [.slice a n c] ∧ PcsIn w a n c es := by
  rcases Go.Deep.open_slice ht h with ⟨rfl, _⟩ | ⟨a, len, cap, m, k, D, Pls, rfl, _, hl, hm, hmm, _, hx⟩
  · exact ⟨none, 0, 0, [], rfl, Nat.zero_le _, rfl, PcsAt.nil _ _ _, fun e h => absurd h List.not_mem_nil⟩
  · have hlm : len ≤ m := by rw [hmm]; split <;> omega
    have hex : ∀ i, i < len → ∃ ev : Pc, ((Lit.int .i64 ev.1).wf = true ∧ (Lit.int .i64 ev.2.1).wf = true ∧ ev.2.2.size ≤ maxLen) ∧ a.spot = none ∧
        w.cell? ⟨a.block, a.off + i * 3, none⟩ = some (.int .i64 ev.1) ∧ w.cell? ⟨a.block, a.off + i * 3 + 1, none⟩ = some (.int .i64 ev.2.1) ∧ w.cell? ⟨a.block, a.off + i * 3 + 2, none⟩ = some (.string ev.2.2) := by
      intro i hil
      obtain ⟨cs', hcs, htr⟩ := hx i (by omega)
      obtain ⟨y0, y1, y2, q, _, hlen, g0, g1, g2⟩ := Go.Deep.trod_struct3 he htr
      rw [f0.1, f0.2, hi1] at g0
      rw [f1.1, f1.2, hi1] at g1
      rw [f2.1, f2.2, hb1] at g2
      obtain ⟨u0, p0, _, v0⟩ := DataW.trod_int hi g0
      obtain ⟨u1, p1, _, v1⟩ := DataW.trod_int hi g1
      obtain ⟨u2, p2, _, v2⟩ := DataW.trod_string hb g2
      rw [hc] at hcs
      have hspot : a.spot = none := by
        obtain ⟨cs0, hcs0, _⟩ := hx 0 (by omega)
        rw [hc] at hcs0
        obtain ⟨_, hl3, hc3⟩ := World.cells?_some hcs0
        have h3 := hc3 0 (by omega)
        match cs0, hl3 with
        | [p, q, r], _ =>
          have h4 : w.cell? a = some p := by simpa [Addr.add] using h3
          exact World.cell?_spot h4
      obtain ⟨bk, o, sp⟩ := a
      simp only at hspot
      subst hspot
      have hadd : (⟨bk, o, none⟩ : Addr).add (i * 3) = ⟨bk, o + i * 3, none⟩ := Go.WideShapes.add_plain ..
      rw [hadd] at hcs
      have := cells_three hcs p0 p1 p2
      exact ⟨⟨u0, u1, u2⟩, ⟨v0, v1, v2⟩, rfl, this⟩
    obtain ⟨F, hF⟩ := Go.Deep.choose_lt hex
    have hget : ∀ (j : Nat) (ev : Pc), ((List.range len).map F)[j]? = some ev → j < len ∧ ev = F j := by
      intro j ev hj
      rw [List.getElem?_map] at hj
      obtain ⟨i, hi, rfl⟩ := Option.map_eq_some_iff.1 hj
      rw [List.getElem?_eq_some_iff] at hi
      obtain ⟨hlt, hi⟩ := hi
      simp at hlt hi
      subst hi
      exact ⟨hlt, rfl⟩
    refine ⟨some a, len, cap, (List.range len).map F, rfl, by omega, by simp, ?_, ?_⟩
    · refine ⟨some a, cap, by simp, by simpa using hl, ?_⟩
      rcases Nat.eq_zero_or_pos len with h0 | h0
      · exact .inl (by rw [h0]; rfl)
      · obtain ⟨_, hs, hc0, _⟩ := hF 0 h0
        obtain ⟨bk, o, sp⟩ := a
        simp only at hs
        subst hs
        refine .inr ⟨bk, o, rfl, ?_, fun j ev hj => ?_⟩
        · rcases Nat.lt_or_ge bk w.heap.size with h' | h'
          · exact h'
          · simp [World.cell?, Array.getElem?_eq_none h'] at hc0
        · obtain ⟨hlt, rfl⟩ := hget j ev hj
          exact (hF j hlt).2.2
    · intro ev hev
      obtain ⟨i, hi, rfl⟩ := List.mem_map.1 hev
      exact (hF i (by simpa using hi)).1

/-- The mark of a piece. -/
def markedPc (j : Nat) : Pc := (1 + 3 * (j : Int), 2 + 3 * (j : Int), markB (3 + 3 * j))
theorem RowPc.set01 {w : World} {g n : Nat} {f : Nat → Pc} (h : RowPc w g n f) (k : Nat) (hk : k < n) (x y : Int) :
    RowPc ((w.setCell ⟨g, k * 3, none⟩ (.int .i64 x)).setCell ⟨g, k * 3 + 1, none⟩ (.int .i64 y)) g n (fun j => if j = k then (x, y, (f k).2.2) else f j) := by
  obtain ⟨h0, h1, h2⟩ := h
  refine ⟨by rw [World.size_setCell, World.size_setCell]; exact h0, fun j hj => ?_, fun j => by rw [World.frozen?_setCell, World.frozen?_setCell]; exact h2 j⟩
  obtain ⟨a0, a1, a2⟩ := h1 j hj
  by_cases hjk : j = k
  · subst hjk
    simp only [if_true]
    refine ⟨?_, ?_, ?_⟩
    · rw [World.cell?_setCell_other _ _ _ _ (by intro e; injection e; omega)]
      exact World.cell?_setCell_same _ _ _ a0
    · refine World.cell?_setCell_same _ _ _ (u := .int .i64 (f j).2.1) ?_
      rw [World.cell?_setCell_other _ _ _ _ (by intro e; injection e; omega)]; exact a1
    · rw [World.cell?_setCell_other _ _ _ _ (by intro e; injection e; omega), World.cell?_setCell_other _ _ _ _ (by intro e; injection e; omega)]; exact a2
  · simp only [if_neg hjk]
    refine ⟨?_, ?_, ?_⟩
    · rw [World.cell?_setCell_other _ _ _ _ (by intro e; injection e; omega), World.cell?_setCell_other _ _ _ _ (by intro e; injection e; omega)]; exact a0
    · rw [World.cell?_setCell_other _ _ _ _ (by intro e; injection e; omega), World.cell?_setCell_other _ _ _ _ (by intro e; injection e; omega)]; exact a1
    · rw [World.cell?_setCell_other _ _ _ _ (by intro e; injection e; omega), World.cell?_setCell_other _ _ _ _ (by intro e; injection e; omega)]; exact a2
theorem RowPc.set2 {w : World} {g n : Nat} {f : Nat → Pc} (h : RowPc w g n f) (k : Nat) (hk : k < n) (t : ByteArray) :
    RowPc (w.setCell ⟨g, k * 3 + 2, none⟩ (.string t)) g n (fun j => if j = k then ((f k).1, (f k).2.1, t) else f j) := by
  obtain ⟨h0, h1, h2⟩ := h
  refine ⟨by rw [World.size_setCell]; exact h0, fun j hj => ?_, fun j => by rw [World.frozen?_setCell]; exact h2 j⟩
  obtain ⟨a0, a1, a2⟩ := h1 j hj
  by_cases hjk : j = k
  · subst hjk
    simp only [if_true]
    refine ⟨?_, ?_, World.cell?_setCell_same _ _ _ a2⟩
    · rw [World.cell?_setCell_other _ _ _ _ (by intro e; injection e; omega)]; exact a0
    · rw [World.cell?_setCell_other _ _ _ _ (by intro e; injection e; omega)]; exact a1
  · simp only [if_neg hjk]
    refine ⟨?_, ?_, ?_⟩
    · rw [World.cell?_setCell_other _ _ _ _ (by intro e; injection e; omega)]; exact a0
    · rw [World.cell?_setCell_other _ _ _ _ (by intro e; injection e; omega)]; exact a1
    · rw [World.cell?_setCell_other _ _ _ _ (by intro e; injection e; omega)]; exact a2
theorem OwnPcs.lt {w : World} {base : Nat} {v : Value} {n : Nat} {f : Nat → Pc} (h : OwnPcs w base v n f) (h0 : 0 < n) : ∀ g, v.ownBlock = some g → g < w.heap.size := by
  rcases h with ⟨hz, _⟩ | ⟨g, cap, rfl, _, _, _, hr⟩
  · omega
  · intro b hb
    have : b = g := by simpa [Value.ownBlock] using hb.symm
    rw [this]; exact hr.1
/-- A row that nothing touched. -/
theorem OwnPcs.touch {T : Nat → Prop} {w w' : World} {base : Nat} {v : Value} {n : Nat} {f : Nat → Pc} (h : OwnPcs w base v n f) (ht : Touch T w w') (hT : 0 < n → ∀ g, v.ownBlock = some g → ¬ T g) : OwnPcs w' base v n f := by
  rcases h with h | ⟨g, cap, rfl, hn, hg, h0, hr⟩
  · exact .inl h
  · have hng := hT h0 g rfl
    refine .inr ⟨g, cap, rfl, hn, hg, h0, Nat.lt_of_lt_of_le hr.1 ht.1, fun j hj => ?_, fun j => ((ht.cf j hr.1 hng).2).trans (hr.2.2 j)⟩
    obtain ⟨a0, a1, a2⟩ := hr.2.1 j hj
    exact ⟨((ht.cf _ hr.1 hng).1).trans a0, ((ht.cf _ hr.1 hng).1).trans a1, ((ht.cf _ hr.1 hng).1).trans a2⟩

end Go.Proofs.YtnpiphkglhcifaaGreat

namespace Go.Proofs.YtnpiphkglhcifaaGreat
set_option maxRecDepth 100000
open Go.RowKit

/-- The cells of pieces. -/
def pcCells (ls : List Pc) : List Value := ls.flatMap fun e => [.int .i64 e.1, .int .i64 e.2.1, .string e.2.2]
theorem pcCells_app (ls rs : List Pc) : pcCells (ls ++ rs) = pcCells ls ++ pcCells rs := by unfold pcCells; rw [List.flatMap_append]
theorem pcCells_snoc (ls : List Pc) (e : Pc) : pcCells (ls ++ [e]) = pcCells ls ++ [.int .i64 e.1, .int .i64 e.2.1, .string e.2.2] := by unfold pcCells; rw [List.flatMap_append]; rfl
theorem pcCells_len (ls : List Pc) : (pcCells ls).length = ls.length * 3 := by
  induction ls with
  | nil => rfl
  | cons e ls ih =>
    show ([.int .i64 e.1, .int .i64 e.2.1, .string e.2.2] ++ pcCells ls : List Value).length = _
    rw [List.length_append, ih, List.length_cons]; simp; omega
theorem pcCells_at (ls : List Pc) : ∀ (j : Nat) (e : Pc), ls[j]? = some e → (pcCells ls)[j * 3]? = some (.int .i64 e.1) ∧ (pcCells ls)[j * 3 + 1]? = some (.int .i64 e.2.1) ∧ (pcCells ls)[j * 3 + 2]? = some (.string e.2.2) := by
  induction ls with
  | nil => intro j e h; simp at h
  | cons x ls ih =>
    intro j e h
    have hx : pcCells (x :: ls) = .int .i64 x.1 :: .int .i64 x.2.1 :: .string x.2.2 :: pcCells ls := rfl
    rw [hx]
    cases j with
    | zero => simp at h; subst h; exact ⟨rfl, rfl, rfl⟩
    | succ j =>
      obtain ⟨h0, h1, h2⟩ := ih j e (by simpa using h)
      rw [show (j + 1) * 3 = j * 3 + 1 + 1 + 1 by omega]
      exact ⟨h0, h1, h2⟩
theorem pcCells_one (ls : List Pc) : ∀ v ∈ pcCells ls, v.oneCell' = true := by
  intro v hv
  unfold pcCells at hv
  obtain ⟨e, _, he⟩ := List.mem_flatMap.1 hv
  simp at he
  rcases he with rfl | rfl | rfl <;> rfl
/-- An own row of pieces. -/
abbrev OwnP (w : World) (base : Nat) (v : Value) (ls : List Pc) : Prop := w.ownsRow base 37 3 v ls.length (pcCells ls)
theorem ownP_own {w : World} {base : Nat} {v : Value} {ls : List Pc} (h : OwnP w base v ls) : OwnPcs w base v ls.length (fun j => ls.getD j pc0) := by
  rcases h.2 with ⟨rfl, h0⟩ | ⟨g, cap, cur, rfl, hb, hg, hn, _, hsz, htake⟩
  · exact .inl ⟨h0, none, 0, rfl⟩
  · rcases Nat.eq_zero_or_pos ls.length with h0 | h0
    · exact .inl ⟨h0, _, _, by rw [h0]⟩
    · have hlt : g < w.heap.size := (Array.getElem?_eq_some_iff.1 hg).1
      refine .inr ⟨g, cap, rfl, hn, hb, h0, hlt, fun j hj => ?_, fun j => by simp [World.frozen?, hg]⟩
      have he : ls[j]? = some (ls.getD j pc0) := by rw [List.getElem?_eq_getElem hj]; simp [List.getD, List.getElem?_eq_getElem hj]
      obtain ⟨h0, h1, h2⟩ := pcCells_at ls j _ he
      have hc : ∀ q x, (pcCells ls)[q]? = some x → w.cell? ⟨g, q, none⟩ = some x := by
        intro q x hq
        have hql : q < ls.length * 3 := by
          rcases Nat.lt_or_ge q (ls.length * 3) with h' | h'
          · exact h'
          · rw [List.getElem?_eq_none (by rw [pcCells_len]; exact h')] at hq; cases hq
        rw [← htake, List.getElem?_take_of_lt hql] at hq
        simp only [Array.getElem?_toList] at hq
        simp [World.cell?, hg, hq]
      exact ⟨hc _ _ h0, hc _ _ h1, hc _ _ h2⟩
theorem ownP_at {w : World} {base : Nat} {v : Value} {ls : List Pc} (h : OwnP w base v ls) : PcsAt w v ls :=
  (ownP_own h).at rfl fun j e he => by simp [List.getD, he]
theorem ownP_new (w : World) : OwnP (w.alloc (.cells #[] 37)) w.heap.size (.slice (some ⟨w.heap.size, 0, none⟩) 0 0) [] :=
  ⟨rfl, .inr ⟨w.heap.size, 0, #[], rfl, Nat.le_refl _, by show (w.heap.push _)[w.heap.size]? = _; simp, Nat.le_refl _, by decide, rfl, rfl⟩⟩
theorem ownP_nil (w : World) (base : Nat) : OwnP w base (.slice none 0 0) [] := ⟨rfl, .inl ⟨rfl, rfl⟩⟩
theorem OwnP.below' {w w' : World} {base : Nat} {v : Value} {ls : List Pc} (h : OwnP w base v ls) (hb : Below w.heap.size w w') : OwnP w' base v ls :=
  h.kept (row := none) ⟨hb.os, hb.tape, hb.output, hb.size, fun k hk _ => hb.block k hk⟩ (by cases hv : v.ownBlock <;> simp)
theorem cell_three_new (w : World) (x y z : Value) (t : TypeId) : ∀ j u, [x, y, z][j]? = some u → (w.alloc (.cells #[x, y, z] t)).cell? ((⟨w.heap.size, 0, none⟩ : Addr).add j) = some u := by
  intro j u hj
  match j, hj with
  | 0, hj => simp at hj; subst hj; simp [Addr.add]
  | 1, hj => simp at hj; subst hj; simp [Addr.add]
  | 2, hj => simp at hj; subst hj; simp [Addr.add]
  | j + 3, hj => simp at hj
/-- One piece appended to an own row: 'append(l, p)'. -/
theorem push_pc {ops : Array Oper} {rest : List Oper} {o : Oper} {a : Act} {w : World} {Q : Exit → Act → World → Prop}
    (hgd : o.guard = none) (p q : Operand) (ho : o.op = .call { callee := .builtin .append, args := #[p, q], argTypes := #[30, 30] }) (base : Nat) (v : Value) (ls : List Pc) (hs : a.eval p = v) (hown : OwnP w base v ls)
    (e : Pc) (hq : a.eval q = .slice (some ⟨w.heap.size, 0, none⟩) 1 1) (hb : base ≤ w.heap.size) (h1 : ls.length ≤ 4194304)
    (h : ∀ v' w', OwnP w' base v' (ls ++ [e]) → w.grownBy w' v.ownBlock → (v'.ownBlock = v.ownBlock ∨ v'.ownBlock = some (w.heap.size + 1)) → wpList Tryz.prog ops Q rest (a.put o.dst v') w') : wpList Tryz.prog ops Q (o :: rest) a (w.alloc (.cells #[.int .i64 e.1, .int .i64 e.2.1, .string e.2.2] 37)) := by
  obtain ⟨i0, hi, hz0, hz1, hz2⟩ := info_parts infoPc
  refine wpList_append_own_at _ hgd p q 30 ho base 37 i0 (.agg #[.int .i64 0, .int .i64 0, .string ByteArray.empty]) 3 32 Tryz.underlying30 hi hz0 hz1 hz2 rfl (by decide) v ls.length _ hs (hown.alloc _) ⟨w.heap.size, 0, none⟩ 1 1 [.int .i64 e.1, .int .i64 e.2.1, .string e.2.2] hq rfl (cell_three_new _ _ _ _ _) ?_ (by unfold maxLen; omega) (by omega) (by simp; omega) ?_
  · intro y hy; simp at hy; rcases hy with rfl | rfl | rfl <;> rfl
  · intro v' w' hown' hg _ hat
    refine h v' w' ?_ ⟨hg.os, hg.tape, hg.output, Nat.le_trans (by simp) hg.size, fun k hk hne => (hg.block k (by rw [World.size_alloc]; omega) hne).trans (Below.heap_alloc w _ k hk)⟩ ?_
    · show World.ownsRow _ _ _ _ _ _ _
      rw [pcCells_snoc, List.length_append]; exact hown'
    · rcases hat with h2 | h2
      · exact .inl h2
      · exact .inr (by rw [h2, World.size_alloc])
end Go.Proofs.YtnpiphkglhcifaaGreat

namespace Go.Proofs.YtnpiphkglhcifaaGreat
set_option maxRecDepth 100000
open Go.RowKit

/-- A box that holds a piece. -/
def PcB (w : World) (g : Nat) (e : Pc) : Prop := w.heap[g]? = some (.cells #[.int .i64 e.1, .int .i64 e.2.1, .string e.2.2] 37 (0, 0))
theorem PcB.lt {w : World} {g : Nat} {e : Pc} (h : PcB w g e) : g < w.heap.size := (Array.getElem?_eq_some_iff.1 h).1
theorem PcB.below {w w' : World} {g : Nat} {e : Pc} {N : Nat} (h : PcB w g e) (hb : Below N w w') (hN : g < N) : PcB w' g e := (hb.block g hN).trans h
theorem PcB.new (w : World) (e : Pc) : PcB (w.alloc (.cells #[.int .i64 e.1, .int .i64 e.2.1, .string e.2.2] 37)) w.heap.size e := heap_alloc_new w _
theorem PcB.cells {w : World} {g : Nat} {e : Pc} (h : PcB w g e) : w.cell? ⟨g, 0, none⟩ = some (.int .i64 e.1) ∧ w.cell? ⟨g, 1, none⟩ = some (.int .i64 e.2.1) ∧ w.cell? ⟨g, 2, none⟩ = some (.string e.2.2) := by
  unfold World.cell?; simp only [show w.heap[g]? = _ from h]; exact ⟨rfl, rfl, rfl⟩
/-- A whole piece stored. -/
theorem pc_store {ops : Array Oper} {rest : List Oper} {o : Oper} {a : Act} {w : World} {Q : Exit → Act → World → Prop} (hgd : o.guard = none) (x y : Operand) (ho : o.op = .store 37 x y)
    (g : Nat) (e e' : Pc) (hx : a.eval x = .pointer (some ⟨g, 0, none⟩)) (hy : a.eval y = pcV e) (hg : PcB w g e')
    (h : wpList Tryz.prog ops Q rest (a.put o.dst undef) (w.setRow g #[.int .i64 e.1, .int .i64 e.2.1, .string e.2.2])) : wpList Tryz.prog ops Q (o :: rest) a w :=
  wpList_store_row hgd _ x y ho g _ hx hy _ _ hg (by kernel_rfl) rfl (by rw [Array.all_eq_true_iff_forall_mem]; intro x hx; simp at hx; rcases hx with rfl | rfl | rfl <;> rfl) h
theorem PcB.row {w : World} {g : Nat} {e : Pc} (h : PcB w g e) (e' : Pc) : PcB (w.setRow g #[.int .i64 e'.1, .int .i64 e'.2.1, .string e'.2.2]) g e' := setRow_heap w g _ #[.int .i64 e'.1, .int .i64 e'.2.1, .string e'.2.2] _ _ h
theorem results_pc2 {fn : Func} {p u : Tmp} (h : fn.results = #[.cell p 37, .tmp u]) (tmps : Array Value) (w : World) (g : Nat) (e : Pc)
    (hp : tmps.getD p undef = .pointer (some ⟨g, 0, none⟩)) (hg : PcB w g e) :
    (results fn tmps).run Tryz.prog w = .ok (.tuple #[pcV e, tmps.getD u undef]) w := by
  have hr := run_loadVar_row (P := Tryz.prog) w g _ 37 _ _ _ hg Tryz.underlying37 rfl (by kernel_rfl)
  rw [results_cell_tmp h, hp]
  simp [asAddr, hr, Result.andThen]
/-- At most 60 valid strokes. -/
def okS60 (xs : List Int) : Bool := decide (xs.length ≤ 60) && xs.all okS
theorem okS60_yes {xs : List Int} (h : okS60 xs = true) : xs.length ≤ 60 ∧ xs.all okS = true := by
  unfold okS60 at h; rw [Bool.and_eq_true, decide_eq_true_eq] at h; exact h
set_option maxHeartbeats 1000000 in
theorem l11Strokes_any (v : Value) (xs : List Int) (w : World) (h : IntsAt w v xs) (hn : xs.length ≤ 2097152) :
    Calls Tryz.prog 19 #[v] w fun e w' => e = .returned (.bool (okS60 xs)) ∧ w = w' := by
  obtain ⟨a, cap, rfl, hcap, hC⟩ := h.cells
  have HNo : Hid (∀ k x, xs[k]? = some x → okS x = false → okS60 xs = false) := fun k x hx ho => by
    unfold okS60
    rw [Bool.and_eq_false_iff]
    exact .inr (by rw [List.all_eq_false]; exact ⟨x, List.mem_of_getElem? hx, by rw [ho]; decide⟩)
  have HL : Hid (∀ k, (xs.take k).all okS = true → (k = xs.length ∨ 60 < k ∧ k ≤ xs.length) → okS60 xs = decide ((xs.length : Int) ≤ 60)) := by
    intro k hk ho
    unfold okS60
    rcases ho with rfl | ho
    · rw [List.take_length] at hk
      rw [hk, Bool.and_true, decide_eq_decide]
      omega
    · rw [decide_eq_false (by omega), Bool.false_and, decide_eq_false (by omega)]
  obtain ⟨n, hnn⟩ : ∃ n, n = xs.length := ⟨_, rfl⟩
  rw [← hnn] at hn hcap HL ⊢
  have HN := Lib.hid hnn
  have HC := Lib.hid hC
  have CG := Lib.hid (fun s w => l2Good_any s w)
  obtain ⟨R, hR⟩ : ∃ R, R = okS60 xs := ⟨_, rfl⟩
  rw [← hR] at HNo HL ⊢
  clear h hnn hC hR
  go_enter Tryz.func19, Tryz.ntmps19
  go_wp2_with fail
  go_loopw [3] (fun i wr => ∃ k : Nat, i = .int .i64 k ∧ k ≤ n ∧ k ≤ 61 ∧ Hid ((xs.take k).all okS = true) ∧ wr = w) (fun i _ => n - (intOf i).toNat)
  case atStart => exact ⟨0, rfl, Nat.zero_le _, Nat.zero_le _, Lib.hid rfl, rfl⟩
  case round =>
    obtain ⟨k, rfl, hk, hk61, HK, rfl⟩ := hrel
    by_cases hlt : k < n
    · by_cases h60 : k ≤ 60
      · obtain ⟨x, hx⟩ : ∃ x, xs[k]? = some x := ⟨_, List.getElem?_eq_getElem (by rw [← HN.out]; exact hlt)⟩
        obtain ⟨bk, o, rfl, _, g0⟩ := HC.out wr (Below.refl _ _) k x hx
        cases hok : okS x
        · have HF := Lib.hid (HNo.out k x hx hok)
          have c := fun w => CG.out x w
          rw [hok] at c
          have C1 := Lib.hid c
          clear c hx hok HL HNo HK
          go_wp2_with fail
          refine (C1.out _).mono ?_
          rintro e w1 ⟨rfl, rfl⟩
          go_wp2
          go_ret
          exact ⟨ret_bool HF.out.symm, rfl⟩
        · have HK2 := Lib.hid (all_next hx HK.out hok)
          have c := fun w => CG.out x w
          rw [hok] at c
          have C1 := Lib.hid c
          clear c hx hok HL HNo HK
          go_wp2_with fail
          refine (C1.out _).mono ?_
          rintro e w1 ⟨rfl, rfl⟩
          go_wp2
          go_roundw
          case rel => exact ⟨k + 1, by go_num, by omega, by omega, HK2, by trivial⟩
          case measure => simp [intOf]; omega
      · have HF := Lib.hid (HL.out k HK.out (.inr ⟨by omega, hk⟩))
        have h60' : ¬ (n : Int) ≤ 60 := by omega
        rw [decide_eq_false h60'] at HF
        clear HL HNo HK
        go_wp2
        go_ret
        exact ⟨ret_bool HF.out.symm, rfl⟩
    · have HF := Lib.hid (HL.out k HK.out (.inl (by omega)))
      clear HL HNo HK
      go_wp2
      go_ret
      exact ⟨ret_bool HF.out.symm, rfl⟩
theorem matN_min (es : List Ent) (xs : List Int) (i m : Nat) (h : xs.length < i + (m + 1)) : Pl.matN es xs i (min (m + 1) (Pl.capN xs i)) = Pl.matN es xs i (min m (Pl.capN xs i)) := by
  rw [show min (m + 1) (Pl.capN xs i) = min m (Pl.capN xs i) by unfold Pl.capN; omega]
theorem ints_block {w : World} {v : Value} {xs : List Int} (h : IntsAt w v xs) (h0 : 0 < xs.length) : ∃ bk o cap, v = .slice (some ⟨bk, o, none⟩) xs.length cap ∧ xs.length ≤ cap ∧ bk < w.heap.size ∧ ∀ (j : Nat) x, xs[j]? = some x → w.cell? ⟨bk, o + j, none⟩ = some (.int .i64 x) := by
  obtain ⟨a, cap, hv, hc, h⟩ := h
  rcases h with rfl | ⟨bk, o, rfl, hk, h⟩
  · simp at h0
  · exact ⟨bk, o, cap, hv, hc, hk, h⟩
set_option maxHeartbeats 2000000 in
theorem l11Match_any (v : Value) (es : List Ent) (u : Value) (xs : List Int) (i : Nat) (w : World) (h : EntsAt w v es) (hu : IntsAt w u xs) (hn : es.length ≤ 2097152) (hx : ∀ e ∈ es, entOk e) (hxn : xs.length ≤ 60) (hi : i < xs.length) :
    Calls Tryz.prog 26 #[dV v, u, .int .i64 (i : Int)] w fun r w' => r = .returned (pcV (Pl.matP es xs i)) ∧ Below w.heap.size w w' := by
  have CF := Lib.hid (fun ys u' w' hb (hu' : IntsAt w' u' ys) (hy : ys.length ≤ 2097152) => l6Find_any v es u' ys w' (h.below (w' := w') hb) hu' hn hx hy)
  obtain ⟨bk, o, cap, rfl, hcap, hbk, hC⟩ := ints_block hu (by omega)
  obtain ⟨a, dcap, rfl, hdcap, _⟩ := h.cells
  obtain ⟨n, hnn⟩ : ∃ n, n = xs.length := ⟨_, rfl⟩
  obtain ⟨dn, hdn⟩ : ∃ n, n = es.length := ⟨_, rfl⟩
  have HS : Hid (∀ m, i + m ≤ n → ∀ w', Below w.heap.size w w' → IntsAt w' (.slice (some ⟨bk, o + i, none⟩) m (cap - i)) ((xs.drop i).take m)) := by
    intro m hm w' hb
    have hl : ((xs.drop i).take m).length = m := by rw [List.length_take, List.length_drop]; omega
    refine ⟨_, cap - i, by rw [hl], by rw [hl]; omega, .inr ⟨bk, o + i, rfl, Nat.lt_of_lt_of_le hbk hb.size, fun j x hx => ?_⟩⟩
    have hj : j < m := by
      rcases Nat.lt_or_ge j m with h' | h'
      · exact h'
      · rw [List.getElem?_eq_none (by rw [hl]; exact h')] at hx; cases hx
    rw [List.getElem?_take_of_lt hj, List.getElem?_drop] at hx
    rw [Nat.add_assoc]
    exact (hb.cell (p := ⟨bk, o + (i + j), none⟩) hbk).trans (hC _ _ hx)
  have HM0 : Hid (∀ m, m < 6 → n < i + (m + 1) → Pl.matN es xs i (min (m + 1) (Pl.capN xs i)) = Pl.matN es xs i (min m (Pl.capN xs i))) := fun m _ hm => matN_min es xs i m (by omega)
  have HM1 : Hid (∀ m, m < 6 → ¬ n < i + (m + 1) → Pl.matN es xs i (min (m + 1) (Pl.capN xs i)) = match Pl.look ((xs.drop i).take (m + 1)) es with | some t => ((i : Int), ((m + 1 : Nat) : Int), t) | none => Pl.matN es xs i (min m (Pl.capN xs i))) := by
    intro m h6 hm
    rw [show min (m + 1) (Pl.capN xs i) = m + 1 by unfold Pl.capN; omega, show min m (Pl.capN xs i) = m by unfold Pl.capN; omega]
    rfl
  have HEnd : Hid (Pl.matN es xs i (min 6 (Pl.capN xs i)) = Pl.matP es xs i) := by
    show _ = _
    unfold Pl.matP
    rw [show min 6 (Pl.capN xs i) = Pl.capN xs i by unfold Pl.capN; omega]
  have HZ : Hid (Pl.matN es xs i (min 0 (Pl.capN xs i)) = ((i : Int), 1, ByteArray.empty)) := by
    show _ = _
    rw [Nat.zero_min]; rfl
  obtain ⟨R, hR⟩ : ∃ R, R = Pl.matP es xs i := ⟨_, rfl⟩
  obtain ⟨M, hM⟩ : ∃ M : Nat → Pc, M = fun m => Pl.matN es xs i (min m (Pl.capN xs i)) := ⟨_, rfl⟩
  have HM0' : Hid (∀ m, m < 6 → n < i + (m + 1) → M (m + 1) = M m) := by rw [hM]; exact HM0.out
  have HM1' : Hid (∀ m, m < 6 → ¬ n < i + (m + 1) → M (m + 1) = match Pl.look ((xs.drop i).take (m + 1)) es with | some t => ((i : Int), ((m + 1 : Nat) : Int), t) | none => M m) := by rw [hM]; exact HM1.out
  have HEnd' : Hid (M 6 = R) := by rw [hM, hR]; exact HEnd.out
  have HZ' : Hid (M 0 = ((i : Int), 1, ByteArray.empty)) := by rw [hM]; exact HZ.out
  rw [← hR]
  unfold dV at CF ⊢
  rw [← hnn] at hcap hi hxn ⊢
  rw [← hdn] at CF hdcap ⊢
  have HH : Hid (∀ m, i + m ≤ n → ((xs.drop i).take m).length ≤ 2097152) := fun m hm => by rw [List.length_take, List.length_drop]; omega
  clear hM hR HM0 HM1 HEnd HZ h hu hx hn hC hnn hdn
  go_enter Tryz.func26, Tryz.ntmps26
  go_wp2_with fail
  go_loopw [7] (fun k wr => ∃ m : Nat, k = .int .i64 m ∧ m ≤ 6 ∧ Hid (M m = R) ∧ Hid (BoxV wr w.heap.size 26 (.slice a dn dcap)) ∧ Hid (PcB wr (w.heap.size + 1) pc0) ∧ Below w.heap.size w wr) (fun k _ => (intOf k).toNat)
  case atStart =>
    refine ⟨6, rfl, Nat.le_refl _, HEnd', (BoxV.new w _ _).below (below_al _ _) (by simp), ?_, below_al2 w _ _⟩
    have := PcB.new (w.alloc (.cells #[.slice a dn dcap] 26)) pc0
    rwa [World.size_alloc] at this
  case round =>
    obtain ⟨m, rfl, hm6, HMm, A1, P1, hbel⟩ := hrel
    cases m with
    | zero =>
      have HF : Hid (R = ((i : Int), 1, ByteArray.empty)) := HMm.out.symm.trans HZ'.out
      clear HMm HM0' HM1' HEnd' HZ' CF HS HH
      have h4 := Lib.hid (P1.out.row ((i : Int), 1, ByteArray.empty))
      have hb4 := Lib.hid (below_setRow hbel (Nat.le_succ _) #[.int .i64 ((i : Int), (1 : Int), ByteArray.empty).1, .int .i64 ((i : Int), (1 : Int), ByteArray.empty).2.1, .string ((i : Int), (1 : Int), ByteArray.empty).2.2])
      go_wp2_with (with_reducible (show wpList _ _ _ (_ :: _) _ _); refine pc_store rfl _ _ rfl (w.heap.size + 1) ((i : Int), 1, ByteArray.empty) pc0 rfl rfl P1.out ?_)
      (try simp only [Exit.inBlock, Exit.then])
      refine bodyPost_ret (results_cell_row rfl _ _ (w.heap.size + 1) _ _ _ _ rfl h4.out Tryz.underlying37 rfl (by kernel_rfl)) rfl ?_
      exact ⟨by rw [HF.out], hb4.out⟩
    | succ m =>
      by_cases hcap2 : n < i + (m + 1)
      · have HN : Hid (M m = R) := (HM0'.out m (by omega) hcap2).symm.trans HMm.out
        clear HMm HM0' HM1' HEnd' HZ' CF HS HH
        go_wp2
        go_roundw
        case rel => exact ⟨m, by go_num, by omega, HN, A1, P1, hbel⟩
        case measure => simp [intOf]
      · have c := HM1'.out m (by omega) hcap2
        have CF1 := Lib.hid (fun w' (hb : Below wr.heap.size wr w') => CF.out _ _ w' (below_step hbel hb) (HS.out (m + 1) (by omega) w' (below_step hbel hb)) (HH.out (m + 1) (by omega)))
        obtain ⟨lk, hlk⟩ : ∃ lk, lk = Pl.look ((xs.drop i).take (m + 1)) es := ⟨_, rfl⟩
        rw [← hlk] at CF1 c
        have HC1 := Lib.hid c
        have k1 := cell_regrown A1.out.cell
        clear hlk c HM0' HM1' HEnd' HZ' CF HS HH
        go_wp2_with fail
        refine Mx.wp_region_mixed (Mx.ofL [(0, 1), (1, 0), (2, 0), (3, 0), (4, 0), (5, 0), (6, 0), (7, 3), (8, 0), (9, 0), (10, 0), (11, 0), (12, 0)] .done) (by kernel_rfl) (by kernel_rfl) ?_
        repeat ((first | refine Mx.mix0 rfl ?_ | refine Mx.mix1 rfl ?_); go_big_quiet_step (fail); refine wpQuiet_nil ?_)
        refine Mx.mix3 rfl ?_
        go_wp2_with fail
        refine (CF1.out _ (below_drewN (Below.refl _ _) 1)).mono ?_
        rintro r w1 ⟨rfl, hb'⟩
        have hb : Below wr.heap.size wr w1 := (below_drewN (Below.refl _ _) 1).trans hb'
        have A2 := Lib.hid (A1.out.below hb A1.out.lt)
        have P2 := Lib.hid (P1.out.below hb P1.out.lt)
        have HB2 := Lib.hid (below_step hbel hb)
        clear hb' k1
        unfold lkE
        go_wp2
        refine Mx.mid_normal (fun q => by cases q) ?_
        repeat ((first | refine Mx.mix0 rfl ?_ | refine Mx.mix1 rfl ?_); go_big_quiet_step (fail); refine wpQuiet_nil ?_)
        refine Mx.mix_nil ?_
        cases lk with
        | none =>
          have HN : Hid (M m = R) := HC1.out.symm.trans HMm.out
          clear hb A1 P1 hbel CF1 HC1 HMm
          go_wp2
          go_roundw
          case rel => exact ⟨m, by go_num, by omega, HN, A2, P2, HB2.out⟩
          case measure => simp [intOf]
        | some t =>
          have HF : Hid (R = ((i : Int), ((m + 1 : Nat) : Int), t)) := HMm.out.symm.trans HC1.out
          have h4 := Lib.hid (P2.out.row ((i : Int), ((m + 1 : Nat) : Int), t))
          have hb4 := Lib.hid (below_setRow HB2.out (Nat.le_succ _) #[.int .i64 ((i : Int), ((m + 1 : Nat) : Int), t).1, .int .i64 ((i : Int), ((m + 1 : Nat) : Int), t).2.1, .string ((i : Int), ((m + 1 : Nat) : Int), t).2.2])
          clear hb A1 P1 hbel CF1 HC1 HMm
          go_wp2_with (with_reducible (show wpList _ _ _ (_ :: _) _ _); refine pc_store rfl _ _ rfl (w.heap.size + 1) ((i : Int), ((m + 1 : Nat) : Int), t) pc0 rfl rfl P2.out ?_)
          (try simp only [Exit.inBlock, Exit.then])
          refine bodyPost_ret (results_cell_row rfl _ _ (w.heap.size + 1) _ _ _ _ rfl h4.out Tryz.underlying37 rfl (by kernel_rfl)) rfl ?_
          exact ⟨by rw [HF.out], hb4.out⟩
end Go.Proofs.YtnpiphkglhcifaaGreat

namespace Go.Proofs.YtnpiphkglhcifaaGreat
set_option maxRecDepth 100000
open Go.RowKit

/-- MatchAt's answer. -/
def mtB (es : List Ent) (xs : List Int) (f : Int) : Bool := okD es && okS60 xs && (decide (0 ≤ f) && decide (f ≤ (xs.length : Int) - 1))
def mtP (es : List Ent) (xs : List Int) (f : Int) : Pc := if mtB es xs f = true then Pl.matP es xs f.toNat else pc0
def mtE (es : List Ent) (xs : List Int) (f : Int) : Ending := .returned (.tuple #[pcV (mtP es xs f), .bool (mtB es xs f)])
theorem mtE_no {es : List Ent} {xs : List Int} {f : Int} (h : mtB es xs f = false) : mtE es xs f = .returned (.tuple #[pcV pc0, .bool false]) := by unfold mtE mtP; rw [h]; rfl
theorem mtE_yes {es : List Ent} {xs : List Int} {f : Int} (h : mtB es xs f = true) : mtE es xs f = .returned (.tuple #[pcV (Pl.matP es xs f.toNat), .bool true]) := by unfold mtE mtP; rw [h]; rfl
set_option maxHeartbeats 2000000 in
theorem specMatchAt_any (v : Value) (es : List Ent) (u : Value) (xs : List Int) (f : Int) (w : World) (h : EntsAt w v es) (hu : IntsAt w u xs) (hn : es.length ≤ 2097152) (hx : ∀ e ∈ es, entOk e) (hxn : xs.length ≤ 2097152) :
    Calls Tryz.prog 12 #[dV v, u, .int .i64 f] w fun r w' => r = mtE es xs f ∧ Below w.heap.size w w' := by
  have cg := fun w' hb => l6Good_any v es w' (h.below (w' := w') hb) hn hx
  have cs := fun w' hb => l11Strokes_any u xs w' (hu.below (w' := w') hb) hxn
  have ci := fun w => l1In_any f 0 ((xs.length : Int) - 1) w
  have CM := Lib.hid (fun i w' hb h60 hi => l11Match_any v es u xs i w' (h.below hb) (hu.below hb) hn hx h60 hi)
  have HNo := Lib.hid (fun h => mtE_no (es := es) (xs := xs) (f := f) h)
  have HYes := Lib.hid (fun h => mtE_yes (es := es) (xs := xs) (f := f) h)
  have HB : Hid (mtB es xs f = (okD es && okS60 xs && (decide (0 ≤ f) && decide (f ≤ (xs.length : Int) - 1)))) := rfl
  have P1 : ∀ v : Value, PcB ((w.alloc (.cells #[v] 26)).alloc (.cells #[.int .i64 0, .int .i64 0, .string ByteArray.empty] 37)) (w.heap.size + 1) pc0 := fun v => by
    have := PcB.new (w.alloc (.cells #[v] 26)) pc0
    rwa [World.size_alloc] at this
  have A1 : ∀ v : Value, BoxV ((w.alloc (.cells #[v] 26)).alloc (.cells #[.int .i64 0, .int .i64 0, .string ByteArray.empty] 37)) w.heap.size 26 v := fun v => (BoxV.new w _ _).below (below_al _ _) (by simp)
  obtain ⟨a, cap, rfl, hcap, _⟩ := h.cells
  obtain ⟨ua, uc, rfl, huc, _⟩ := hu.cells
  obtain ⟨n, hnn⟩ : ∃ n, n = xs.length := ⟨_, rfl⟩
  obtain ⟨dn, hdn⟩ : ∃ n, n = es.length := ⟨_, rfl⟩
  have HX60 := Lib.hid (fun h : okS60 xs = true => (okS60_yes h).1)
  rw [← hnn] at cs ci CM HB huc HX60 hxn ⊢
  unfold dV at cg CM ⊢
  rw [← hdn] at cg CM hcap ⊢
  have A2 := Lib.hid (A1 (.slice a dn cap))
  have P2 := Lib.hid (P1 (.slice a dn cap))
  have BX := Lib.hid (below_al2 w (.cells #[.slice a dn cap] 26) (.cells #[.int .i64 0, .int .i64 0, .string ByteArray.empty] 37))
  clear A1 P1 h hu hnn hdn
  obtain ⟨bD, hbD⟩ : ∃ b, b = okD es := ⟨_, rfl⟩
  obtain ⟨bS, hbS⟩ : ∃ b, b = okS60 xs := ⟨_, rfl⟩
  obtain ⟨bI, hbI⟩ : ∃ b, b = (decide (0 ≤ f) && decide (f ≤ (n : Int) - 1)) := ⟨_, rfl⟩
  rw [← hbD, ← hbS, ← hbI] at HB
  rw [← hbD] at cg
  rw [← hbS] at cs HX60
  rw [← hbI] at ci
  have CG := Lib.hid cg
  have CS := Lib.hid cs
  have CI := Lib.hid ci
  have HbI := Lib.hid hbI
  clear cg cs ci hbD hbS hbI hx hn
  go_enter Tryz.func12, Tryz.ntmps12
  cases bD
  · have HF := Lib.hid (HNo.out (by rw [HB.out]; rfl))
    go_wp2_with fail
    refine (CG.out _ BX.out).mono ?_
    rintro r w1 ⟨rfl, hb⟩
    have P3 := Lib.hid (P2.out.below hb P2.out.lt)
    have B1 := Lib.hid (below_step BX.out hb)
    have h4 := Lib.hid (P3.out.row pc0)
    have hb4 := Lib.hid (below_setRow B1.out (Nat.le_succ _) #[.int .i64 pc0.1, .int .i64 pc0.2.1, .string pc0.2.2])
    clear hb HNo HYes HB CG CS CI CM P2 A2
    go_wp2_with (with_reducible (show wpList _ _ _ (_ :: _) _ _); refine pc_store rfl _ _ rfl (w.heap.size + 1) pc0 pc0 rfl rfl P3.out ?_)
    (try simp only [Exit.inBlock, Exit.then])
    refine bodyPost_ret (results_pc2 rfl _ _ (w.heap.size + 1) pc0 rfl h4.out) rfl ?_
    exact ⟨HF.out.symm, hb4.out⟩
  · cases bS
    · have HF := Lib.hid (HNo.out (by rw [HB.out]; rfl))
      go_wp2_with fail
      refine (CG.out _ BX.out).mono ?_
      rintro r w1 ⟨rfl, hb⟩
      have P3 := Lib.hid (P2.out.below hb P2.out.lt)
      have B1 := Lib.hid (below_step BX.out hb)
      clear hb CG
      go_wp2_with fail
      refine (CS.out _ B1.out).mono ?_
      rintro r w2 ⟨rfl, rfl⟩
      have h4 := Lib.hid (P3.out.row pc0)
      have hb4 := Lib.hid (below_setRow B1.out (Nat.le_succ _) #[.int .i64 pc0.1, .int .i64 pc0.2.1, .string pc0.2.2])
      clear HNo HYes HB CS CI CM P2 A2
      go_wp2_with (with_reducible (show wpList _ _ _ (_ :: _) _ _); refine pc_store rfl _ _ rfl (w.heap.size + 1) pc0 pc0 rfl rfl P3.out ?_)
      (try simp only [Exit.inBlock, Exit.then])
      refine bodyPost_ret (results_pc2 rfl _ _ (w.heap.size + 1) pc0 rfl h4.out) rfl ?_
      exact ⟨HF.out.symm, hb4.out⟩
    · have h60 := HX60.out (by first | rfl | trivial)
      cases bI
      · have HF := Lib.hid (HNo.out (by rw [HB.out]; rfl))
        go_wp2_with fail
        refine (CG.out _ BX.out).mono ?_
        rintro r w1 ⟨rfl, hb⟩
        have P3 := Lib.hid (P2.out.below hb P2.out.lt)
        have B1 := Lib.hid (below_step BX.out hb)
        clear hb CG
        go_wp2_with fail
        refine (CS.out _ B1.out).mono ?_
        rintro r w2 ⟨rfl, rfl⟩
        go_wp2_with fail
        refine (CI.out _).mono ?_
        rintro r w2 ⟨rfl, rfl⟩
        have h4 := Lib.hid (P3.out.row pc0)
        have hb4 := Lib.hid (below_setRow B1.out (Nat.le_succ _) #[.int .i64 pc0.1, .int .i64 pc0.2.1, .string pc0.2.2])
        clear HNo HYes HB CS CI CM P2 A2
        go_wp2_with (with_reducible (show wpList _ _ _ (_ :: _) _ _); refine pc_store rfl _ _ rfl (w.heap.size + 1) pc0 pc0 rfl rfl P3.out ?_)
        (try simp only [Exit.inBlock, Exit.then])
        refine bodyPost_ret (results_pc2 rfl _ _ (w.heap.size + 1) pc0 rfl h4.out) rfl ?_
        exact ⟨HF.out.symm, hb4.out⟩
      · have HF := Lib.hid (HYes.out (by rw [HB.out]; rfl))
        have hI := HbI.out
        symm at hI
        rw [Bool.and_eq_true, decide_eq_true_eq, decide_eq_true_eq] at hI
        obtain ⟨i, hi⟩ : ∃ i : Nat, f = (i : Int) := ⟨f.toNat, by omega⟩
        have hin : i < n := by omega
        subst hi
        rw [Int.toNat_natCast] at HF
        obtain ⟨R, hR⟩ : ∃ R, R = Pl.matP es xs i := ⟨_, rfl⟩
        have cm := fun w' hb => CM.out i w' hb h60 hin
        rw [← hR] at HF cm
        have CM1 := Lib.hid cm
        clear hR cm CM hI
        go_wp2_with fail
        refine (CG.out _ BX.out).mono ?_
        rintro r w1 ⟨rfl, hb⟩
        have A3 := Lib.hid (A2.out.below hb A2.out.lt)
        have P3 := Lib.hid (P2.out.below hb P2.out.lt)
        have B1 := Lib.hid (below_step BX.out hb)
        clear hb CG P2 A2
        go_wp2_with fail
        refine (CS.out _ B1.out).mono ?_
        rintro r w2 ⟨rfl, rfl⟩
        go_wp2_with fail
        refine (CI.out _).mono ?_
        rintro r w2 ⟨rfl, rfl⟩
        have c3 := A3.out.cell
        go_wp2_with fail
        refine (CM1.out _ B1.out).mono ?_
        rintro r w3 ⟨rfl, hb⟩
        have P4 := Lib.hid (P3.out.below hb P3.out.lt)
        have B3 := Lib.hid (below_step B1.out hb)
        have h4 := Lib.hid (P4.out.row R)
        have hb4 := Lib.hid (below_setRow B3.out (Nat.le_succ _) #[.int .i64 R.1, .int .i64 R.2.1, .string R.2.2])
        clear hb HNo HYes HB CS CI CM1 P3 A3 c3 B1
        go_wp2_with (with_reducible (show wpList _ _ _ (_ :: _) _ _); refine pc_store rfl _ _ rfl (w.heap.size + 1) R pc0 rfl rfl P4.out ?_)
        (try simp only [Exit.inBlock, Exit.then])
        refine bodyPost_ret (results_pc2 rfl _ _ (w.heap.size + 1) R rfl h4.out) rfl ?_
        exact ⟨HF.out.symm, hb4.out⟩
/-- The last piece of an own row. -/
theorem ownP_last {w : World} {base : Nat} {v : Value} {ls : List Pc} {e : Pc} (h : OwnP w base v (ls ++ [e])) :
    ∃ g cap, v = .slice (some ⟨g, 0, none⟩) (ls.length + 1) cap ∧ ls.length + 1 ≤ cap ∧ base ≤ g ∧ g < w.heap.size ∧ w.cell? ⟨g, ls.length * 3, none⟩ = some (.int .i64 e.1) ∧ w.cell? ⟨g, ls.length * 3 + 1, none⟩ = some (.int .i64 e.2.1) ∧ w.cell? ⟨g, ls.length * 3 + 2, none⟩ = some (.string e.2.2) := by
  rcases ownP_own h with ⟨h0, _⟩ | ⟨g, cap, rfl, hc, hg, h0, hr⟩
  · rw [List.length_append] at h0; simp at h0
  · rw [List.length_append] at hc ⊢
    have := hr.2.1 ls.length (by rw [List.length_append]; simp)
    have he : (ls ++ [e]).getD ls.length pc0 = e := by simp [List.getD]
    dsimp only at this
    rw [he] at this
    exact ⟨g, cap, rfl, hc, hg, hr.1, this.1, this.2.1, this.2.2⟩
set_option maxHeartbeats 2000000 in
theorem l11Segment_any (v : Value) (es : List Ent) (u : Value) (xs : List Int) (w : World) (h : EntsAt w v es) (hu : IntsAt w u xs) (hn : es.length ≤ 2097152) (hx : ∀ e ∈ es, entOk e) (hxn : xs.length ≤ 60) :
    Calls Tryz.prog 20 #[dV v, u] w fun r w' => (∃ y, r = .returned y ∧ OwnP w' w.heap.size y (Pl.segP es xs 0)) ∧ Below w.heap.size w w' := by
  have CM := Lib.hid (fun i w' hb hi => l11Match_any v es u xs i w' (h.below hb) (hu.below hb) hn hx hxn hi)
  have HNext := Lib.hid (fun i (hi : i < xs.length) => Pl.segP_next (es := es) hi)
  have HEnd := Lib.hid (fun i (hi : ¬ i < xs.length) => Pl.segP_end (es := es) hi)
  have HCnt := Lib.hid (fun i (hi : i < xs.length) => Pl.cntP_ok (es := es) hi)
  obtain ⟨a, cap, rfl, hcap, _⟩ := h.cells
  obtain ⟨ua, uc, rfl, huc, _⟩ := hu.cells
  obtain ⟨n, hnn⟩ : ∃ n, n = xs.length := ⟨_, rfl⟩
  obtain ⟨dn, hdn⟩ : ∃ n, n = es.length := ⟨_, rfl⟩
  rw [← hnn] at CM HNext HEnd HCnt hxn huc ⊢
  unfold dV at CM ⊢
  rw [← hdn] at CM hcap ⊢
  obtain ⟨M, hM⟩ : ∃ M : Nat → Pc, M = fun i => Pl.matP es xs i := ⟨_, rfl⟩
  obtain ⟨C, hC⟩ : ∃ C : Nat → Nat, C = fun i => Pl.cntP es xs i := ⟨_, rfl⟩
  obtain ⟨S, hS⟩ : ∃ S : Nat → List Pc, S = fun i => Pl.segP es xs i := ⟨_, rfl⟩
  have CM1 : Hid (∀ i w', Below w.heap.size w w' → i < n → Calls Tryz.prog 26 #[.agg #[.slice a dn cap], .slice ua n uc, .int .i64 (i : Int)] w' fun r w'' => r = .returned (pcV (M i)) ∧ Below w'.heap.size w' w'') := by rw [hM]; exact CM.out
  have HNx : Hid (∀ i, i < n → S i = M i :: S (i + C i)) := by rw [hM, hC, hS]; exact HNext.out
  have HEn : Hid (∀ i, ¬ i < n → S i = []) := by rw [hS]; exact HEnd.out
  have HCn : Hid (∀ i, i < n → (M i).2.1 = (C i : Int) ∧ 1 ≤ C i ∧ C i ≤ 6 ∧ i + C i ≤ n) := by rw [hM, hC]; exact fun i hi => ⟨(HCnt.out i hi).1, (HCnt.out i hi).2.1, (HCnt.out i hi).2.2.1, (HCnt.out i hi).2.2.2.1⟩
  have HS0 : Hid (Pl.segP es xs 0 = S 0) := by rw [hS]; rfl
  rw [HS0.out]
  have HB0 := Lib.hid (below_al2 w (.cells #[.slice a dn cap] 26) (.cells #[] 37))
  have HO0 : Hid (OwnP ((w.alloc (.cells #[.slice a dn cap] 26)).alloc (.cells #[] 37)) (w.heap.size + 1) (.slice (some ⟨w.heap.size + 1, 0, none⟩) 0 0) []) := by
    have := ownP_new (w.alloc (.cells #[.slice a dn cap] 26))
    rwa [World.size_alloc] at this
  have HA0 : Hid (BoxV ((w.alloc (.cells #[.slice a dn cap] 26)).alloc (.cells #[] 37)) w.heap.size 26 (.slice a dn cap)) := (BoxV.new w _ _).below (below_al _ _) (by simp)
  clear hM hC hS CM HNext HEnd HCnt HS0 h hu hx hn hnn hdn
  go_enter Tryz.func20, Tryz.ntmps20
  go_wp2_with fail
  go_loopw [5, 6] (fun y i wr => ∃ (k : Nat) (ls : List Pc), i = .int .i64 k ∧ k ≤ n ∧ ls.length ≤ k ∧ Hid (ls ++ S k = S 0) ∧ Hid (OwnP wr (w.heap.size + 1) y ls) ∧ Hid (BoxV wr w.heap.size 26 (.slice a dn cap)) ∧ Hid (Below w.heap.size w wr)) (fun _ i _ => n - (intOf i).toNat)
  case atStart => exact ⟨0, [], rfl, Nat.zero_le _, Nat.zero_le _, Lib.hid (List.nil_append _), HO0, HA0, HB0⟩
  case round =>
    obtain ⟨k, ls, rfl, hk, hll, HL, HO, HA, HBr⟩ := hrel
    by_cases hlt : k < n
    · have CM2 := Lib.hid (fun w' hb => CM1.out k w' hb hlt)
      obtain ⟨c1, c2, c3, c4⟩ := HCn.out k hlt
      have HL2 : Hid ((ls ++ [M k]) ++ S (k + C k) = S 0) := by rw [List.append_assoc, List.singleton_append, ← HNx.out k hlt]; exact HL.out
      obtain ⟨e, he⟩ : ∃ e, e = M k := ⟨_, rfl⟩
      obtain ⟨c, hc⟩ : ∃ c, c = C k := ⟨_, rfl⟩
      rw [← he] at CM2 c1 HL2
      rw [← hc] at c1 c2 c3 c4 HL2
      have C1 := Lib.hid c1
      have cx := HA.out.cell
      clear he hc HL CM1 HNx HEn HCn c1
      go_wp2_with fail
      refine (CM2.out _ HBr.out).mono ?_
      rintro r w1 ⟨rfl, hb⟩
      have O1 := Lib.hid (HO.out.below' hb)
      have A1 := Lib.hid (HA.out.below hb HA.out.lt)
      have B1 := Lib.hid (below_step HBr.out hb)
      have hs1 : w.heap.size + 1 ≤ w1.heap.size := by have := A1.out.lt; omega
      clear hb HO HA HBr CM2 cx
      go_wp2_with (at_builtin; refine push_pc rfl _ _ rfl (w.heap.size + 1) _ ls rfl O1.out e rfl hs1 (by omega) ?_)
      intro v' w2 hown hg _
      have A2 := Lib.hid (A1.out.grown hg (fun e => by have := row_ge O1.out e.symm; omega))
      have B2 := Lib.hid (B1.out.grown hg (by omega) (fun j hj => by have := row_ge O1.out hj; omega))
      obtain ⟨g, cp, rfl, hcp, hgb, hgl, _, q1, _⟩ := ownP_last hown
      have O2 := Lib.hid hown
      rw [C1.out] at q1
      have hidx : ((ls.length + 1 : Nat) : Int) - 1 = (ls.length : Int) := by omega
      clear hown hg A1 B1 O1
      go_wp2
      go_roundw
      case rel => exact ⟨k + c, ls ++ [e], by go_num, by omega, by rw [List.length_append, List.length_singleton]; omega, HL2, O2, A2, B2⟩
      case measure => simp [intOf]; omega
    · have HF : Hid (ls = S 0) := by have := HL.out; rw [HEn.out k hlt, List.append_nil] at this; exact this
      have O2 := Lib.hid (ownsRow_mono HO.out (Nat.le_succ _))
      clear HL CM1 HNx HEn HCn
      go_wp2
      go_ret
      exact ⟨⟨_, rfl, by rw [← HF.out]; exact O2.out⟩, HBr.out⟩
end Go.Proofs.YtnpiphkglhcifaaGreat

namespace Go.Proofs.YtnpiphkglhcifaaGreat
set_option maxRecDepth 100000
open Go.RowKit

theorem parLB_ne {t : ByteArray} (h : parLB t = true) : t.data.toList ≠ [] := by
  intro e
  have : t = ⟨#[]⟩ := ByteArray.ext (Array.toList_inj.1 e)
  subst this
  have h2 : parLB ⟨#[]⟩ = false := by kernel_rfl
  rw [h2] at h; cases h
theorem okD_fine {es : List Ent} (h : okD es = true) : ∀ e ∈ es, e.1.length ≤ 6 ∧ e.2.data.toList ≠ [] := fun e he => by
  have := (okD_parts h).2.1 e he
  exact ⟨(okE_size this).2.1, parLB_ne (okE_O this).2⟩
/-- The dictionary and the strokes are valid. -/
def sgB (es : List Ent) (xs : List Int) : Bool := okD es && okS60 xs
def sgL (es : List Ent) (xs : List Int) : List Pc := if sgB es xs = true then Pl.segP es xs 0 else []
def isB (es : List Ent) (xs : List Int) (ls : List Pc) : Bool := sgB es xs && Pl.segB es xs 0 ls
set_option maxHeartbeats 2000000 in
theorem specSegment_any (v : Value) (es : List Ent) (u : Value) (xs : List Int) (w : World) (h : EntsAt w v es) (hu : IntsAt w u xs) (hn : es.length ≤ 2097152) (hx : ∀ e ∈ es, entOk e) (hxn : xs.length ≤ 2097152) :
    Calls Tryz.prog 7 #[dV v, u] w fun r w' => (∃ y, r = .returned (.tuple #[y, .bool (sgB es xs)]) ∧ OwnP w' w.heap.size y (sgL es xs)) ∧ Below w.heap.size w w' := by
  have cg := fun w' hb => l6Good_any v es w' (h.below (w' := w') hb) hn hx
  have cs := fun w' hb => l11Strokes_any u xs w' (hu.below (w' := w') hb) hxn
  have CM := Lib.hid (fun w' hb h60 => l11Segment_any v es u xs w' (h.below hb) (hu.below hb) hn hx h60)
  have HB : Hid (sgB es xs = (okD es && okS60 xs)) := rfl
  have HL : Hid (sgL es xs = if sgB es xs = true then Pl.segP es xs 0 else []) := rfl
  obtain ⟨a, cap, rfl, hcap, _⟩ := h.cells
  obtain ⟨ua, uc, rfl, huc, _⟩ := hu.cells
  obtain ⟨n, hnn⟩ : ∃ n, n = xs.length := ⟨_, rfl⟩
  obtain ⟨dn, hdn⟩ : ∃ n, n = es.length := ⟨_, rfl⟩
  have HX60 := Lib.hid (fun h : okS60 xs = true => (okS60_yes h).1)
  rw [← hnn] at cs CM huc HX60 hxn ⊢
  unfold dV at cg CM ⊢
  rw [← hdn] at cg CM hcap ⊢
  have A2 := Lib.hid (BoxV.new w 26 (.slice a dn cap))
  have BX := Lib.hid (below_al w (.cells #[.slice a dn cap] 26))
  clear h hu hnn hdn
  obtain ⟨bD, hbD⟩ : ∃ b, b = okD es := ⟨_, rfl⟩
  obtain ⟨bS, hbS⟩ : ∃ b, b = okS60 xs := ⟨_, rfl⟩
  obtain ⟨B, hB⟩ : ∃ b, b = sgB es xs := ⟨_, rfl⟩
  obtain ⟨L, hL⟩ : ∃ b, b = sgL es xs := ⟨_, rfl⟩
  obtain ⟨S, hS⟩ : ∃ b, b = Pl.segP es xs 0 := ⟨_, rfl⟩
  rw [← hB] at HB HL ⊢
  rw [← hL] at HL ⊢
  rw [← hS] at HL CM
  rw [← hbD, ← hbS] at HB
  rw [← hbD] at cg
  rw [← hbS] at cs HX60
  have CG := Lib.hid cg
  have CS := Lib.hid cs
  clear cg cs hbD hbS hx hn hB hL hS
  go_enter Tryz.func7, Tryz.ntmps7
  cases bD
  · obtain rfl : B = false := HB.out
    obtain rfl : L = [] := HL.out
    go_wp2_with fail
    refine (CG.out _ BX.out).mono ?_
    rintro r w1 ⟨rfl, hb⟩
    have B1 := Lib.hid (below_step BX.out hb)
    have hs1 : w.heap.size ≤ w1.heap.size := B1.out.size
    have O1 := Lib.hid (ownsRow_mono (ownP_new w1) hs1)
    have B2 := Lib.hid (below_step B1.out (below_al w1 (.cells #[] 37)))
    clear hb CG CS CM HB HL A2 HX60
    go_wp2
    go_ret2
    exact ⟨⟨_, rfl, O1.out⟩, B2.out⟩
  · cases bS
    · obtain rfl : B = false := HB.out
      obtain rfl : L = [] := HL.out
      go_wp2_with fail
      refine (CG.out _ BX.out).mono ?_
      rintro r w1 ⟨rfl, hb⟩
      have B1 := Lib.hid (below_step BX.out hb)
      clear hb
      go_wp2_with fail
      refine (CS.out _ B1.out).mono ?_
      rintro r w2 ⟨rfl, rfl⟩
      have hs1 : w.heap.size ≤ w1.heap.size := B1.out.size
      have O1 := Lib.hid (ownsRow_mono (ownP_new w1) hs1)
      have B2 := Lib.hid (below_step B1.out (below_al w1 (.cells #[] 37)))
      clear CG CS CM HB HL A2 HX60
      go_wp2
      go_ret2
      exact ⟨⟨_, rfl, O1.out⟩, B2.out⟩
    · obtain rfl : B = true := HB.out
      obtain rfl : L = S := HL.out
      have CM1 := Lib.hid (fun w' hb => CM.out w' hb (HX60.out (by first | rfl | trivial)))
      go_wp2_with fail
      refine (CG.out _ BX.out).mono ?_
      rintro r w1 ⟨rfl, hb⟩
      have A3 := Lib.hid (A2.out.below hb (by simp))
      have B1 := Lib.hid (below_step BX.out hb)
      clear hb CM HX60
      go_wp2_with fail
      refine (CS.out _ B1.out).mono ?_
      rintro r w2 ⟨rfl, rfl⟩
      have c3 := A3.out.cell
      have hs1 : w.heap.size ≤ w1.heap.size := B1.out.size
      go_wp2_with fail
      refine (CM1.out _ B1.out).mono ?_
      rintro r w3 ⟨⟨y, rfl, hy⟩, hb⟩
      have O1 := Lib.hid (ownsRow_mono hy hs1)
      have B3 := Lib.hid (below_step B1.out hb)
      clear hb hy CG CS CM1 A2 A3 c3 B1
      go_wp2
      go_ret2
      exact ⟨⟨_, rfl, O1.out⟩, B3.out⟩
theorem size_zero_iff (t : ByteArray) : t.size = 0 ↔ t.data.toList = [] := by
  constructor
  · intro h; exact List.length_eq_zero_iff.1 h
  · intro h; show t.data.toList.length = 0; rw [h]; rfl
theorem untr_take {ls : List Pc} {k : Nat} {e : Pc} (h : ls[k]? = some e) : Pl.untr (ls.take (k + 1)) = Pl.untr (ls.take k) + if e.2.2.data.toList = [] then 1 else 0 := by
  rw [List.take_add_one, h]
  show Pl.untr (ls.take k ++ [e]) = _
  rw [Pl.untr_snoc]
  congr 1
  by_cases hz : e.2.2.size = 0
  · rw [if_pos hz, if_pos ((size_zero_iff _).1 hz)]
  · rw [if_neg hz, if_neg (fun q => hz ((size_zero_iff _).2 q))]
end Go.Proofs.YtnpiphkglhcifaaGreat
