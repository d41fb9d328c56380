/-
  PLAIN MATHEMATICS of segmentations: the pieces at an index, the longest match, what a segmentation is, the best one from the end on. Nothing of the program stands here.
-/
import Derived.Test.YthigdblloddepaaPlainDict
namespace Go.Proofs.Ythigdblloddepaa.Pl
set_option maxRecDepth 100000
open Go

/-- A piece: From, Count, Text. -/
abbrev Pc := Int × Int × ByteArray
/-- The untranslated piece at i. -/
def unP (i : Nat) : Pc := ((i : Int), 1, ByteArray.empty)
/-- The outline of n strokes at i, if the dictionary has it. -/
def lkP (es : List En) (xs : List Int) (i n : Nat) : Option ByteArray := look ((xs.drop i).take n) es
/-- The longest piece of at most n strokes at i. -/
def matN (es : List En) (xs : List Int) (i : Nat) : Nat → Pc
  | 0 => unP i
  | n + 1 => match lkP es xs i (n + 1) with
    | some t => ((i : Int), ((n + 1 : Nat) : Int), t)
    | none => matN es xs i n
/-- How many strokes a piece at i may cover. -/
def capN (xs : List Int) (i : Nat) : Nat := min 6 (xs.length - i)
def matP (es : List En) (xs : List Int) (i : Nat) : Pc := matN es xs i (capN xs i)
/-- All pieces at i, the longest first, without the untranslated one. -/
def fdPs (es : List En) (xs : List Int) (i : Nat) : Nat → List Pc
  | 0 => []
  | n + 1 => match lkP es xs i (n + 1) with
    | some t => ((i : Int), ((n + 1 : Nat) : Int), t) :: fdPs es xs i n
    | none => fdPs es xs i n
def allPs (es : List En) (xs : List Int) (i : Nat) : List Pc := fdPs es xs i (capN xs i) ++ [unP i]
theorem matN_head (es : List En) (xs : List Int) (i : Nat) : ∀ n, (fdPs es xs i n ++ [unP i])[0]? = some (matN es xs i n)
  | 0 => rfl
  | n + 1 => by
    unfold fdPs matN
    cases lkP es xs i (n + 1) with
    | some t => rfl
    | none => exact matN_head es xs i n
theorem allPs_head (es : List En) (xs : List Int) (i : Nat) : (allPs es xs i)[0]? = some (matP es xs i) := matN_head es xs i _
theorem fdPs_mem (es : List En) (xs : List Int) (i : Nat) : ∀ (n : Nat) (p : Pc), p ∈ fdPs es xs i n ↔ ∃ c t, 1 ≤ c ∧ c ≤ n ∧ lkP es xs i c = some t ∧ p = ((i : Int), (c : Int), t)
  | 0, p => by
    constructor
    · intro h; simp [fdPs] at h
    · rintro ⟨c, t, h1, h2, _⟩; omega
  | n + 1, p => by
    have ih := fdPs_mem es xs i n p
    unfold fdPs
    cases hl : lkP es xs i (n + 1) with
    | some t =>
      simp only [List.mem_cons, ih]
      constructor
      · rintro (rfl | ⟨c, t', h1, h2, h3, h4⟩)
        · exact ⟨n + 1, t, by omega, Nat.le_refl _, hl, rfl⟩
        · exact ⟨c, t', h1, by omega, h3, h4⟩
      · rintro ⟨c, t', h1, h2, h3, h4⟩
        by_cases hc : c = n + 1
        · subst hc; rw [hl] at h3; cases h3; exact .inl h4
        · exact .inr ⟨c, t', h1, by omega, h3, h4⟩
    | none =>
      simp only [ih]
      constructor
      · rintro ⟨c, t', h1, h2, h3, h4⟩; exact ⟨c, t', h1, by omega, h3, h4⟩
      · rintro ⟨c, t', h1, h2, h3, h4⟩
        by_cases hc : c = n + 1
        · subst hc; rw [hl] at h3; cases h3
        · exact ⟨c, t', h1, by omega, h3, h4⟩
theorem fdPs_len (es : List En) (xs : List Int) (i : Nat) : ∀ n, (fdPs es xs i n).length ≤ n
  | 0 => Nat.le_refl _
  | n + 1 => by
    have ih := fdPs_len es xs i n
    unfold fdPs
    cases lkP es xs i (n + 1) with
    | some t => simp; omega
    | none => simp; omega
theorem matN_mem (es : List En) (xs : List Int) (i : Nat) (n : Nat) : matN es xs i n ∈ fdPs es xs i n ++ [unP i] := List.mem_of_getElem? (matN_head es xs i n)
/-- What a piece at i is like. -/
theorem allPs_mem (es : List En) (xs : List Int) (i : Nat) (p : Pc) : p ∈ allPs es xs i ↔ (∃ c t, 1 ≤ c ∧ c ≤ capN xs i ∧ lkP es xs i c = some t ∧ p = ((i : Int), (c : Int), t)) ∨ p = unP i := by
  unfold allPs
  rw [List.mem_append, fdPs_mem, List.mem_singleton]
theorem allPs_cnt {es : List En} {xs : List Int} {i : Nat} {p : Pc} (hi : i < xs.length) (h : p ∈ allPs es xs i) : ∃ c : Nat, p.2.1 = (c : Int) ∧ 1 ≤ c ∧ c ≤ 6 ∧ i + c ≤ xs.length ∧ p.1 = (i : Int) := by
  rcases (allPs_mem es xs i p).1 h with ⟨c, t, h1, h2, _, rfl⟩ | rfl
  · unfold capN at h2; exact ⟨c, rfl, h1, by omega, by omega, rfl⟩
  · exact ⟨1, rfl, Nat.le_refl _, by omega, by omega, rfl⟩
/-- How many strokes the longest piece covers. -/
def cntP (es : List En) (xs : List Int) (i : Nat) : Nat := (matP es xs i).2.1.toNat
theorem cntP_ok {es : List En} {xs : List Int} {i : Nat} (hi : i < xs.length) : (matP es xs i).2.1 = (cntP es xs i : Int) ∧ 1 ≤ cntP es xs i ∧ cntP es xs i ≤ 6 ∧ i + cntP es xs i ≤ xs.length ∧ (matP es xs i).1 = (i : Int) := by
  obtain ⟨c, h1, h2, h3, h4, h5⟩ := allPs_cnt hi (List.mem_of_getElem? (allPs_head es xs i))
  have e : cntP es xs i = c := by unfold cntP; rw [h1]; rfl
  rw [e]
  exact ⟨h1, h2, h3, h4, h5⟩
/-- The longest-match segmentation from i on. -/
def segF (es : List En) (xs : List Int) : Nat → Nat → List Pc
  | 0, _ => []
  | f + 1, i => if i < xs.length then matP es xs i :: segF es xs f (i + cntP es xs i) else []
theorem segF_out (es : List En) (xs : List Int) {i : Nat} (h : ¬ i < xs.length) : ∀ f, segF es xs f i = []
  | 0 => rfl
  | f + 1 => by unfold segF; rw [if_neg h]
theorem segF_fuel (es : List En) (xs : List Int) : ∀ f i, xs.length - i ≤ f → segF es xs f i = segF es xs (xs.length - i) i
  | 0, i, h => by rw [show xs.length - i = 0 by omega]
  | f + 1, i, h => by
    by_cases hi : i < xs.length
    · obtain ⟨_, c1, c6, cl, _⟩ := cntP_ok (es := es) hi
      obtain ⟨g, hg⟩ : ∃ g, xs.length - i = g + 1 := ⟨xs.length - i - 1, by omega⟩
      rw [hg]
      unfold segF
      rw [if_pos hi, if_pos hi]
      congr 1
      by_cases hfg : f = g
      · rw [hfg]
      · rw [segF_fuel es xs f _ (by omega)]
        have : ∀ g', xs.length - (i + cntP es xs i) ≤ g' → g' ≤ f → segF es xs g' (i + cntP es xs i) = segF es xs (xs.length - (i + cntP es xs i)) (i + cntP es xs i) := fun g' h1 h2 => by
          rcases Nat.lt_or_ge g' (f + 1) with h3 | h3
          · exact segF_fuel es xs g' _ h1
          · omega
        rw [this g (by omega) (by omega)]
    · rw [segF_out es xs hi, segF_out es xs hi]
termination_by f => f
def segP (es : List En) (xs : List Int) (i : Nat) : List Pc := segF es xs (xs.length - i) i
theorem segP_next {es : List En} {xs : List Int} {i : Nat} (hi : i < xs.length) : segP es xs i = matP es xs i :: segP es xs (i + cntP es xs i) := by
  obtain ⟨_, c1, c6, cl, _⟩ := cntP_ok (es := es) hi
  unfold segP
  obtain ⟨g, hg⟩ : ∃ g, xs.length - i = g + 1 := ⟨xs.length - i - 1, by omega⟩
  rw [hg, segF, if_pos hi, segF_fuel es xs g _ (by omega)]
theorem segP_end {es : List En} {xs : List Int} {i : Nat} (hi : ¬ i < xs.length) : segP es xs i = [] := segF_out es xs hi _
theorem segP_len (es : List En) (xs : List Int) (i : Nat) : (segP es xs i).length ≤ xs.length - i := by
  by_cases hi : i < xs.length
  · obtain ⟨_, c1, c6, cl, _⟩ := cntP_ok (es := es) hi
    rw [segP_next hi, List.length_cons]
    have := segP_len es xs (i + cntP es xs i)
    omega
  · rw [segP_end hi]; exact Nat.zero_le _
termination_by xs.length - i
/-- A segmentation of the strokes from i on. -/
def SegAt (es : List En) (xs : List Int) : Nat → List Pc → Prop
  | i, [] => i = xs.length
  | i, p :: l => i < xs.length ∧ p ∈ allPs es xs i ∧ SegAt es xs (i + p.2.1.toNat) l
theorem segP_seg (es : List En) (xs : List Int) (i : Nat) (hi : i ≤ xs.length) : SegAt es xs i (segP es xs i) := by
  by_cases h : i < xs.length
  · obtain ⟨_, c1, c6, cl, _⟩ := cntP_ok (es := es) h
    rw [segP_next h]
    exact ⟨h, List.mem_of_getElem? (allPs_head es xs i), segP_seg es xs (i + cntP es xs i) cl⟩
  · rw [segP_end h]
    show i = _
    omega
termination_by xs.length - i
theorem segP_mat (es : List En) (xs : List Int) (i : Nat) : ∀ p ∈ segP es xs i, ∃ j, i ≤ j ∧ j < xs.length ∧ p = matP es xs j := by
  by_cases h : i < xs.length
  · obtain ⟨_, c1, c6, cl, _⟩ := cntP_ok (es := es) h
    rw [segP_next h]
    intro p hp
    rw [List.mem_cons] at hp
    rcases hp with rfl | hp
    · exact ⟨i, Nat.le_refl _, h, rfl⟩
    · obtain ⟨j, h1, h2, h3⟩ := segP_mat es xs (i + cntP es xs i) p hp
      exact ⟨j, by omega, h2, h3⟩
  · rw [segP_end h]
    intro p hp; simp at hp
termination_by xs.length - i
/-- The number of untranslated pieces. -/
def untr (l : List Pc) : Nat := l.countP fun p => decide (p.2.2.size = 0)
def costL (l : List Pc) : Nat := 100 * untr l + l.length
theorem untr_le (l : List Pc) : untr l ≤ l.length := List.countP_le_length
theorem untr_cons (p : Pc) (l : List Pc) : untr (p :: l) = untr l + if p.2.2.size = 0 then 1 else 0 := by
  unfold untr; rw [List.countP_cons]; simp
theorem untr_snoc (l : List Pc) (p : Pc) : untr (l ++ [p]) = untr l + if p.2.2.size = 0 then 1 else 0 := by
  unfold untr; rw [List.countP_append, List.countP_cons]; simp
/-- The best of the segmentations from i on that begin with a piece of at most n strokes; T tells the best behind it. -/
def bestN (es : List En) (xs : List Int) (i : Nat) (T : Nat → List Pc) : Nat → List Pc
  | 0 => unP i :: T 1
  | n + 1 => match lkP es xs i (n + 1) with
    | some t => if costL (((i : Int), ((n + 1 : Nat) : Int), t) :: T (n + 1)) ≤ costL (bestN es xs i T n) then ((i : Int), ((n + 1 : Nat) : Int), t) :: T (n + 1) else bestN es xs i T n
    | none => bestN es xs i T n
theorem bestN_congr (es : List En) (xs : List Int) (i : Nat) {T T' : Nat → List Pc} : ∀ n, T 1 = T' 1 → (∀ c, 1 ≤ c → c ≤ n → T c = T' c) → bestN es xs i T n = bestN es xs i T' n
  | 0, h1, _ => by unfold bestN; rw [h1]
  | n + 1, h1, h => by
    have ih := bestN_congr es xs i n h1 (fun c a b => h c a (by omega))
    unfold bestN
    rw [ih, h (n + 1) (by omega) (Nat.le_refl _)]
/-- The best from the last k strokes on, from the last k - 1 on, and so on. -/
def tab (es : List En) (xs : List Int) : Nat → List (List Pc)
  | 0 => [[]]
  | k + 1 => bestN es xs (xs.length - (k + 1)) (fun c => (tab es xs k).getD (c - 1) []) (min 6 (k + 1)) :: tab es xs k
theorem tab_len (es : List En) (xs : List Int) : ∀ k, (tab es xs k).length = k + 1
  | 0 => rfl
  | k + 1 => by unfold tab; rw [List.length_cons, tab_len es xs k]
theorem tab_at (es : List En) (xs : List Int) : ∀ k j, j ≤ k → (tab es xs k).getD j [] = (tab es xs (k - j)).getD 0 []
  | k, 0, _ => rfl
  | 0, j + 1, h => by omega
  | k + 1, j + 1, h => by
    have := tab_at es xs k j (by omega)
    rw [show k + 1 - (j + 1) = k - j by omega, ← this]
    conv => lhs; unfold tab
    rfl
/-- The best segmentation from i on. -/
def opt (es : List En) (xs : List Int) (i : Nat) : List Pc := (tab es xs (xs.length - i)).getD 0 []
theorem opt_end (es : List En) (xs : List Int) : opt es xs xs.length = [] := by unfold opt; rw [Nat.sub_self]; rfl
theorem opt_next {es : List En} {xs : List Int} {i : Nat} (hi : i < xs.length) : opt es xs i = bestN es xs i (fun c => opt es xs (i + c)) (capN xs i) := by
  obtain ⟨k, hk⟩ : ∃ k, xs.length - i = k + 1 := ⟨xs.length - i - 1, by omega⟩
  have e : ∀ c, 1 ≤ c → c ≤ k + 1 → (tab es xs k).getD (c - 1) [] = opt es xs (i + c) := by
    intro c h1 h2
    unfold opt
    rw [tab_at es xs k (c - 1) (by omega), show xs.length - (i + c) = k - (c - 1) by omega]
  conv => lhs; unfold opt
  rw [hk]
  conv => lhs; unfold tab
  show bestN es xs (xs.length - (k + 1)) _ _ = _
  rw [show xs.length - (k + 1) = i by omega]
  unfold capN
  rw [hk]
  exact bestN_congr es xs i _ (e 1 (by omega) (by omega)) (fun c h1 h2 => e c h1 (by omega))
theorem bestN_form (es : List En) (xs : List Int) (i : Nat) (T : Nat → List Pc) : ∀ n, ∃ p, p ∈ fdPs es xs i n ++ [unP i] ∧ bestN es xs i T n = p :: T p.2.1.toNat
  | 0 => ⟨unP i, by simp [fdPs], rfl⟩
  | n + 1 => by
    obtain ⟨p, hp, he⟩ := bestN_form es xs i T n
    unfold bestN fdPs
    cases hl : lkP es xs i (n + 1) with
    | some t =>
      dsimp only
      split
      · exact ⟨((i : Int), ((n + 1 : Nat) : Int), t), by rw [List.cons_append]; exact List.mem_cons_self, rfl⟩
      · exact ⟨p, by rw [List.cons_append]; exact List.mem_cons_of_mem _ hp, he⟩
    | none => exact ⟨p, hp, he⟩
theorem opt_form {es : List En} {xs : List Int} {i : Nat} (hi : i < xs.length) : ∃ p, p ∈ allPs es xs i ∧ opt es xs i = p :: opt es xs (i + p.2.1.toNat) := by
  rw [opt_next hi]
  exact bestN_form es xs i _ _
theorem opt_len (es : List En) (xs : List Int) (i : Nat) : (opt es xs i).length ≤ xs.length - i := by
  by_cases hi : i < xs.length
  · obtain ⟨p, hp, he⟩ := opt_form (es := es) hi
    obtain ⟨c, h1, h2, h3, h4, _⟩ := allPs_cnt hi hp
    rw [he, List.length_cons, h1]
    have := opt_len es xs (i + c)
    simp only [Int.toNat_natCast]
    omega
  · unfold opt; rw [show xs.length - i = 0 by omega]; exact Nat.zero_le _
termination_by xs.length - i
theorem opt_seg (es : List En) (xs : List Int) (i : Nat) (hi : i ≤ xs.length) : SegAt es xs i (opt es xs i) := by
  by_cases h : i < xs.length
  · obtain ⟨p, hp, he⟩ := opt_form (es := es) h
    obtain ⟨c, h1, h2, h3, h4, _⟩ := allPs_cnt h hp
    rw [he]
    refine ⟨h, hp, ?_⟩
    rw [h1]
    simp only [Int.toNat_natCast]
    exact opt_seg es xs (i + c) h4
  · have : i = xs.length := by omega
    subst this
    rw [opt_end]
    rfl
termination_by xs.length - i
/-- The first of the least, from the end on. -/
def minR (m : List Pc) : List (List Pc) → List Pc
  | [] => m
  | c :: cs => if costL c ≤ costL (minR m cs) then c else minR m cs
/-- The first of the least, from the front on. -/
def minL (m : List Pc) : List (List Pc) → List Pc
  | [] => m
  | c :: cs => minL (if costL c < costL m then c else m) cs
theorem minL_app (m : List Pc) : ∀ (l : List (List Pc)) (u : List Pc), minL m (l ++ [u]) = if costL m ≤ costL (minR u l) then m else minR u l := by
  intro l
  induction l generalizing m with
  | nil =>
    intro u
    show (if costL u < costL m then u else m) = _
    show _ = if costL m ≤ costL u then m else u
    by_cases h : costL u < costL m
    · rw [if_pos h, if_neg (by omega)]
    · rw [if_neg h, if_pos (by omega)]
  | cons c l ih =>
    intro u
    show minL (if costL c < costL m then c else m) (l ++ [u]) = _
    rw [ih]
    show _ = if costL m ≤ costL (if costL c ≤ costL (minR u l) then c else minR u l) then m else (if costL c ≤ costL (minR u l) then c else minR u l)
    by_cases h1 : costL c < costL m
    · rw [if_pos h1]
      by_cases h2 : costL c ≤ costL (minR u l)
      · rw [if_pos h2, if_neg (by omega)]
      · rw [if_neg h2, if_neg (by omega)]
    · rw [if_neg h1]
      by_cases h2 : costL c ≤ costL (minR u l)
      · rw [if_pos h2, if_pos (by omega), if_pos (by omega)]
      · rw [if_neg h2]
theorem bestN_min (es : List En) (xs : List Int) (i : Nat) (T : Nat → List Pc) : ∀ n, bestN es xs i T n = minR (unP i :: T 1) ((fdPs es xs i n).map fun p => p :: T p.2.1.toNat)
  | 0 => rfl
  | n + 1 => by
    have ih := bestN_min es xs i T n
    unfold bestN fdPs
    cases lkP es xs i (n + 1) with
    | some t =>
      dsimp only
      rw [ih]
      simp only [List.map_cons, minR, Int.toNat_natCast]
    | none => exact ih
/-- The first of the least of a list that is not empty. -/
def minF : List (List Pc) → List Pc
  | [] => []
  | c :: cs => minL c cs
theorem opt_min {es : List En} {xs : List Int} {i : Nat} (hi : i < xs.length) : opt es xs i = minF ((allPs es xs i).map fun p => p :: opt es xs (i + p.2.1.toNat)) := by
  rw [opt_next hi, bestN_min]
  unfold allPs
  rw [List.map_append]
  show minR _ ((fdPs es xs i (capN xs i)).map fun p => p :: opt es xs (i + p.2.1.toNat)) = minF (_ ++ [unP i :: opt es xs (i + 1)])
  generalize (fdPs es xs i (capN xs i)).map (fun p => p :: opt es xs (i + p.2.1.toNat)) = l
  cases l with
  | nil => rfl
  | cons c l =>
    show (if costL c ≤ costL (minR _ l) then c else minR _ l) = minL c (l ++ [_])
    rw [minL_app]
theorem minL_snoc (m : List Pc) (c : List Pc) : ∀ l : List (List Pc), minL m (l ++ [c]) = if costL c < costL (minL m l) then c else minL m l := by
  intro l
  induction l generalizing m with
  | nil => rfl
  | cons d l ih => exact ih _
theorem minF_snoc (c : List Pc) {l : List (List Pc)} (h : l ≠ []) : minF (l ++ [c]) = if costL c < costL (minF l) then c else minF l := by
  cases l with
  | nil => exact absurd rfl h
  | cons d l => exact minL_snoc d c l
theorem minF_mem : ∀ {l : List (List Pc)}, l ≠ [] → minF l ∈ l := by
  intro l h
  cases l with
  | nil => exact absurd rfl h
  | cons d l =>
    show minL d l ∈ d :: l
    clear h
    induction l generalizing d with
    | nil => exact List.mem_singleton.2 rfl
    | cons c l ih =>
      show minL (if costL c < costL d then c else d) l ∈ _
      have := ih (if costL c < costL d then c else d)
      rw [List.mem_cons] at this
      rcases this with h | h
      · rw [h]; split <;> simp
      · exact List.mem_cons_of_mem _ (List.mem_cons_of_mem _ h)
/-- Two lists of at most 60 pieces are compared by cost as by untranslated pieces and length. -/
theorem cost_lt {a b : List Pc} (ha : a.length ≤ 60) (hb : b.length ≤ 60) : costL a < costL b ↔ untr a < untr b ∨ untr a = untr b ∧ a.length < b.length := by
  unfold costL
  constructor
  · intro h
    omega
  · intro h
    omega
end Go.Proofs.Ythigdblloddepaa.Pl
