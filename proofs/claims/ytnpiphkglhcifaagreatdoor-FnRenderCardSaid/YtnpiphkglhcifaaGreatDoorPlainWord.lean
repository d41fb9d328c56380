/-
  PLAIN MATHEMATICS of chapter 9: words, runs of vowels, the rule, joining and splitting. Nothing of the program stands here.
-/
import Derived.Lib.Hide
import Derived.Lib.Strings
namespace Go.Proofs.YtnpiphkglhcifaaGreatDoor.Pl
set_option maxRecDepth 100000

def vow (c : UInt8) : Bool := c == 97 || c == 101 || c == 105 || c == 111 || c == 117
def letter (c : UInt8) : Bool := decide (97 ≤ c.toNat) && decide (c.toNat ≤ 122)
def wordB (l : List UInt8) : Bool := l.all letter && (decide (1 ≤ l.length) && decide (l.length ≤ 24))
/-- Is the letter one that the byte of a pattern stands for? -/
def matchP (a p : UInt8) : Bool :=
  if p = 86 then vow a else if p = 68 then !(a == 119 || a == 120 || a == 121) && !vow a else if p = 67 then !vow a else a == p
/-- The first k bytes of the pattern match the end of the word. -/
def upTo (l p : List UInt8) (k : Nat) : Bool := (List.range k).all fun i => matchP (l.getD (l.length - p.length + i) 0) (p.getD i 0)
def endsP (l p : List UInt8) : Bool := decide (p.length ≤ l.length) && upTo l p p.length
theorem upTo_succ (l p : List UInt8) (k : Nat) : upTo l p (k + 1) = (upTo l p k && matchP (l.getD (l.length - p.length + k) 0) (p.getD k 0)) := by
  unfold upTo; rw [List.range_succ, List.all_append]; simp
theorem upTo_no {l p : List UInt8} {k : Nat} (h : matchP (l.getD (l.length - p.length + k) 0) (p.getD k 0) = false) (hk : k < p.length) : upTo l p p.length = false := by
  unfold upTo
  rw [List.all_eq_false]
  exact ⟨k, List.mem_range.2 hk, by rw [h]; decide⟩

def consY (l : List UInt8) : Bool := decide (2 ≤ l.length) && (l.getD (l.length - 1) 0 == 121 && !vow (l.getD (l.length - 2) 0))
def doubles (l : List UInt8) : Bool :=
  decide (3 ≤ l.length) && (!vow (l.getD (l.length - 3) 0) && (vow (l.getD (l.length - 2) 0) && (!vow (l.getD (l.length - 1) 0) &&
    !(l.getD (l.length - 1) 0 == 119 || l.getD (l.length - 1) 0 == 120 || l.getD (l.length - 1) 0 == 121))))
theorem ends_Cy (l : List UInt8) : endsP l [67, 121] = consY l := by
  unfold endsP upTo consY
  by_cases h : 2 ≤ l.length
  · have e : l.length - 2 + 1 = l.length - 1 := by omega
    simp [h, matchP, List.range_succ, e, Bool.and_comm]
  · simp [h]
theorem ends_CVD (l : List UInt8) : endsP l [67, 86, 68] = doubles l := by
  unfold endsP upTo doubles
  by_cases h : 3 ≤ l.length
  · have e : l.length - 3 + 1 = l.length - 2 := by omega
    have e' : l.length - 3 + 2 = l.length - 1 := by omega
    simp [h, matchP, List.range_succ, e, e', Bool.and_comm, Bool.and_assoc]
  · simp [h]
/-- A pattern without the three capitals stands for itself. -/
theorem ends_lit (l p : List UInt8) (hp : ∀ c ∈ p, c ≠ 86 ∧ c ≠ 68 ∧ c ≠ 67) : endsP l p = Lib.hasSuffix l p := by
  rw [← Lib.hasSuffix_of_drop]
  unfold endsP
  by_cases h : p.length ≤ l.length
  · simp only [h, decide_true, Bool.true_and]
    rw [Bool.eq_iff_iff, beq_iff_eq]
    unfold upTo
    rw [List.all_eq_true]
    constructor
    · intro hall
      apply List.ext_getElem
      · simp; omega
      · intro i h1 h2
        have hm := hall i (List.mem_range.2 h2)
        have hc := hp _ (List.getElem_mem h2)
        have e1 : p.getD i 0 = p[i] := by simp [List.getD, List.getElem?_eq_getElem h2]
        have hlt : l.length - p.length + i < l.length := by omega
        have e2 : l.getD (l.length - p.length + i) 0 = l[l.length - p.length + i] := by simp [List.getD, List.getElem?_eq_getElem hlt]
        rw [e1, e2] at hm
        unfold matchP at hm
        rw [if_neg hc.1, if_neg hc.2.1, if_neg hc.2.2] at hm
        rw [List.getElem_drop]
        simpa using hm
    · intro he i hi
      have h2 := List.mem_range.1 hi
      have hc := hp _ (List.getElem_mem h2)
      have e1 : p.getD i 0 = p[i] := by simp [List.getD, List.getElem?_eq_getElem h2]
      have hlt : l.length - p.length + i < l.length := by omega
      have e2 : l.getD (l.length - p.length + i) 0 = l[l.length - p.length + i] := by simp [List.getD, List.getElem?_eq_getElem hlt]
      rw [e1, e2]
      unfold matchP
      rw [if_neg hc.1, if_neg hc.2.1, if_neg hc.2.2]
      have : l[l.length - p.length + i] = p[i] := by
        have h3 : (l.drop (l.length - p.length))[i]'(by simp; omega) = p[i] := by simp only [he]
        rw [← h3, List.getElem_drop]
      simp [this]
  · simp [h]

def vowAt (l : List UInt8) (i : Nat) : Bool := vow (l.getD i 0)
/-- The runs of vowels that begin ahead of the place k. -/
def grp (l : List UInt8) : Nat → Nat
  | 0 => 0
  | k + 1 => grp l k + if (vowAt l k && (decide (k = 0) || !vowAt l (k - 1))) = true then 1 else 0
theorem grp_le (l : List UInt8) : ∀ k, grp l k ≤ k
  | 0 => Nat.le_refl _
  | k + 1 => by have := grp_le l k; unfold grp; split <;> omega
def groups (l : List UInt8) : Nat := grp l l.length

/-- THE RULE for two words. -/
def rule (w f : List UInt8) : Nat :=
  if (decide (f = [115]) && consY w) = true then 1
  else if (decide (f = [115]) && (Lib.hasSuffix w [115] || (Lib.hasSuffix w [120] || (Lib.hasSuffix w [122] || (Lib.hasSuffix w [99, 104] || Lib.hasSuffix w [115, 104]))))) = true then 2
  else if (decide (f = [105, 110, 103]) && Lib.hasSuffix w [105, 101]) = true then 3
  else if (!(f.getD 0 0 == 105) && consY w) = true then 4
  else if (vow (f.getD 0 0) && (decide (2 ≤ w.length) && (Lib.hasSuffix w [101] && !(Lib.hasSuffix w [101, 101] || (Lib.hasSuffix w [111, 101] || Lib.hasSuffix w [121, 101]))))) = true then 5
  else if (vow (f.getD 0 0) && (decide (groups w = 1) && doubles w)) = true then 6
  else 0
theorem rule_le (w f : List UInt8) : rule w f ≤ 6 := by unfold rule; repeat' split
                                                        all_goals omega

def lastL (l : List UInt8) : List UInt8 := l.drop (l.length - 1)
def bef (r : Nat) (x : List UInt8) : List UInt8 := if r = 1 then [121] else if r = 3 then [105, 101] else if r = 4 then [121] else if r = 5 then [101] else if r = 6 then x else []
def aft (r : Nat) (x : List UInt8) : List UInt8 := if r = 1 then [105, 101] else if r = 2 then [101] else if r = 3 then [121] else if r = 4 then [105] else if r = 6 then x ++ x else []

theorem suffix_iff (l p : List UInt8) : Lib.hasSuffix l p = true ↔ ∃ x, l = x ++ p := by
  unfold Lib.hasSuffix
  rw [List.isSuffixOf_iff_suffix]
  exact ⟨fun ⟨t, h⟩ => ⟨t, h.symm⟩, fun ⟨t, h⟩ => ⟨t, h.symm⟩⟩
theorem lastL_snoc (x : List UInt8) (c : UInt8) : lastL (x ++ [c]) = [c] := by unfold lastL; simp
theorem lastL_suffix (l : List UInt8) : ∃ x, l = x ++ lastL l := ⟨l.take (l.length - 1), by unfold lastL; rw [List.take_append_drop]⟩
theorem snoc_of {l : List UInt8} (h : 1 ≤ l.length) : ∃ x c, l = x ++ [c] := by
  rcases List.eq_nil_or_concat l with rfl | ⟨x, c, rfl⟩
  · simp at h
  · exact ⟨x, c, by simp⟩
theorem consY_suffix {l : List UInt8} (h : consY l = true) : ∃ x, l = x ++ [121] := by
  unfold consY at h
  simp only [Bool.and_eq_true, decide_eq_true_eq, beq_iff_eq] at h
  obtain ⟨h2, h1, -⟩ := h
  obtain ⟨x, c, rfl⟩ := snoc_of (l := l) (by omega)
  simp [List.getD] at h1
  exact ⟨x, by rw [h1]⟩
theorem doubles_len {l : List UInt8} (h : doubles l = true) : 3 ≤ l.length := by
  unfold doubles at h
  simp only [Bool.and_eq_true, decide_eq_true_eq] at h
  exact h.1

/-- WHAT THE RULE TELLS of the two words. -/
theorem rule_tells (w f : List UInt8) :
    (rule w f = 1 → f = [115] ∧ ∃ x, w = x ++ [121]) ∧ (rule w f = 2 → f = [115]) ∧ (rule w f = 3 → f = [105, 110, 103] ∧ ∃ x, w = x ++ [105, 101]) ∧
    (rule w f = 4 → ∃ x, w = x ++ [121]) ∧ (rule w f = 5 → ∃ x, w = x ++ [101]) ∧ (rule w f = 6 → 3 ≤ w.length) := by
  unfold rule
  split
  · rename_i h; simp only [Bool.and_eq_true, decide_eq_true_eq] at h
    exact ⟨fun _ => ⟨h.1, consY_suffix h.2⟩, by simp, by simp, by simp, by simp, by simp⟩
  split
  · rename_i _ h; simp only [Bool.and_eq_true, decide_eq_true_eq] at h
    exact ⟨by simp, fun _ => h.1, by simp, by simp, by simp, by simp⟩
  split
  · rename_i _ _ h; simp only [Bool.and_eq_true, decide_eq_true_eq] at h
    exact ⟨by simp, by simp, fun _ => ⟨h.1, (suffix_iff _ _).1 h.2⟩, by simp, by simp, by simp⟩
  split
  · rename_i _ _ _ h; simp only [Bool.and_eq_true] at h
    exact ⟨by simp, by simp, by simp, fun _ => consY_suffix h.2, by simp, by simp⟩
  split
  · rename_i _ _ _ _ h; simp only [Bool.and_eq_true] at h
    exact ⟨by simp, by simp, by simp, by simp, fun _ => (suffix_iff _ _).1 h.2.2.1, by simp⟩
  split
  · rename_i _ _ _ _ _ h; simp only [Bool.and_eq_true] at h
    exact ⟨by simp, by simp, by simp, by simp, by simp, fun _ => doubles_len h.2.2⟩
  · exact ⟨by simp, by simp, by simp, by simp, by simp, by simp⟩

theorem rule_cases (w f : List UInt8) : rule w f = 0 ∨ rule w f = 1 ∨ rule w f = 2 ∨ rule w f = 3 ∨ rule w f = 4 ∨ rule w f = 5 ∨ rule w f = 6 := by
  have := rule_le w f; omega
/-- The word ends with what its rule replaces. -/
theorem bef_suffix (w f : List UInt8) : ∃ x, w = x ++ bef (rule w f) (lastL w) := by
  obtain ⟨h1, h2, h3, h4, h5, h6⟩ := rule_tells w f
  rcases rule_cases w f with e | e | e | e | e | e | e <;> rw [e] <;> simp only [bef] <;> simp
  · obtain ⟨_, x, hx⟩ := h1 e; exact ⟨x, hx⟩
  · obtain ⟨_, x, hx⟩ := h3 e; exact ⟨x, hx⟩
  · exact h4 e
  · exact h5 e
  · exact lastL_suffix w

/-- The spelling of two words that are joined. -/
def join9 (w f : List UInt8) : List UInt8 := Lib.trimSuffix w (bef (rule w f) (lastL w)) ++ aft (rule w f) (lastL w) ++ f
theorem trim_app (x p : List UInt8) : Lib.trimSuffix (x ++ p) p = x := by
  unfold Lib.trimSuffix
  rw [if_pos ((suffix_iff _ _).2 ⟨x, rfl⟩)]
  simp
theorem join_eq {w f x : List UInt8} (h : w = x ++ bef (rule w f) (lastL w)) : join9 w f = x ++ aft (rule w f) (lastL w) ++ f := by
  unfold join9
  have e : Lib.trimSuffix w (bef (rule w f) (lastL w)) = x := by
    conv => lhs; arg 1; rw [h]
    exact trim_app _ _
  rw [e]

/-- Which of the undone rules gives which word. -/
def candI (st f : List UInt8) (r : Nat) : Option (List UInt8) :=
  if (Lib.hasSuffix st (aft r (lastL st)) && (wordB (Lib.trimSuffix st (aft r (lastL st)) ++ bef r (lastL st)) && decide (rule (Lib.trimSuffix st (aft r (lastL st)) ++ bef r (lastL st)) f = r))) = true
  then some (Lib.trimSuffix st (aft r (lastL st)) ++ bef r (lastL st)) else none
def candsTo (st f : List UInt8) (k : Nat) : List (List UInt8) := (List.range k).filterMap (candI st f)
theorem candsTo_succ (st f : List UInt8) (k : Nat) : candsTo st f (k + 1) = candsTo st f k ++ (candI st f k).toList := by
  unfold candsTo; rw [List.range_succ, List.filterMap_append]
  cases h : candI st f k <;> simp [List.filterMap, h]
theorem candsTo_len (st f : List UInt8) (k : Nat) : (candsTo st f k).length ≤ k := by
  unfold candsTo; exact Nat.le_trans (List.length_filterMap_le _ _) (by simp)
theorem candI_some {st f w : List UInt8} {r : Nat} (h : candI st f r = some w) : wordB w = true ∧ rule w f = r ∧ ∃ x, st = x ++ aft r (lastL st) ∧ w = x ++ bef r (lastL st) := by
  unfold candI at h
  split at h
  · rename_i hc
    simp only [Bool.and_eq_true, decide_eq_true_eq] at hc
    obtain ⟨h1, h2, h3⟩ := hc
    injection h with h
    rw [h] at h2 h3
    obtain ⟨x, hx⟩ := (suffix_iff _ _).1 h1
    refine ⟨h2, h3, x, hx, ?_⟩
    rw [← h]
    congr 1
    conv => lhs; arg 1; rw [hx]
    exact trim_app _ _
  · cases h
theorem wordB_ne {l : List UInt8} (h : wordB l = true) : 1 ≤ l.length ∧ l.length ≤ 24 ∧ ∀ c ∈ l, letter c = true := by
  unfold wordB at h
  simp only [Bool.and_eq_true, decide_eq_true_eq, List.all_eq_true] at h
  exact ⟨h.2.1, h.2.2, h.1⟩
theorem lastL_one {l : List UInt8} (h : 1 ≤ l.length) : ∃ c, lastL l = [c] := by
  obtain ⟨x, c, rfl⟩ := snoc_of h
  exact ⟨c, lastL_snoc x c⟩
/-- WHAT THE UNDONE RULES GIVE is what joins to the spelling. -/
theorem mem_cands (st f w : List UInt8) : w ∈ candsTo st f 7 ↔ wordB w = true ∧ join9 w f = st ++ f := by
  unfold candsTo
  rw [List.mem_filterMap]
  constructor
  · rintro ⟨r, hr, h⟩
    obtain ⟨hw, hrule, x, hst, hwx⟩ := candI_some h
    refine ⟨hw, ?_⟩
    have hr := List.mem_range.1 hr
    by_cases h6 : r = 6
    · subst h6
      have hst : st = x ++ (lastL st ++ lastL st) := hst
      have hwx : w = x ++ lastL st := hwx
      have hst0 : 1 ≤ st.length := by
        rcases Nat.eq_zero_or_pos st.length with h0 | h0
        · have : st = [] := List.length_eq_zero_iff.1 h0
          have hx : x = [] := by
            have e := congrArg List.length hst
            rw [this] at e; simp [lastL] at e
            exact List.length_eq_zero_iff.1 e.symm
          rw [this, hx] at hwx
          have := (wordB_ne hw).1; rw [hwx] at this; simp [lastL] at this
        · exact h0
      obtain ⟨c, hc⟩ := lastL_one hst0
      rw [hc] at hst hwx
      have hl : lastL w = [c] := by rw [hwx, lastL_snoc]
      have := join_eq (w := w) (f := f) (x := x) (by rw [hrule, hl]; exact hwx)
      rw [this, hrule, hl, hst]
      rfl
    · have hb : ∀ y z, bef r y = bef r z := fun y z => by unfold bef; simp [h6]
      have ha : ∀ y z, aft r y = aft r z := fun y z => by unfold aft; simp [h6]
      have := join_eq (w := w) (f := f) (x := x) (by rw [hrule, hb _ (lastL st)]; exact hwx)
      rw [this, hrule, ha _ (lastL st), ← hst]
  · rintro ⟨hw, hj⟩
    refine ⟨rule w f, List.mem_range.2 (by have := rule_le w f; omega), ?_⟩
    obtain ⟨x, hx⟩ := bef_suffix w f
    have hje := join_eq hx
    rw [hj] at hje
    have hst : st = x ++ aft (rule w f) (lastL w) := List.append_cancel_right hje
    have hlast : bef (rule w f) (lastL st) = bef (rule w f) (lastL w) ∧ aft (rule w f) (lastL st) = aft (rule w f) (lastL w) := by
      by_cases h6 : rule w f = 6
      · obtain ⟨c, hc⟩ := lastL_one (wordB_ne hw).1
        have : lastL st = [c] := by
          rw [hst, h6, hc]; simp only [aft]
          show lastL (x ++ ([c] ++ [c])) = [c]
          rw [← List.append_assoc, lastL_snoc]
        rw [this, hc]; exact ⟨rfl, rfl⟩
      · unfold bef aft; simp [h6]
    unfold candI
    rw [hlast.1, hlast.2]
    have ht : Lib.trimSuffix st (aft (rule w f) (lastL w)) = x := by
      conv => lhs; arg 1; rw [hst]
      exact trim_app _ _
    rw [ht, ← hx]
    have hs : Lib.hasSuffix st (aft (rule w f) (lastL w)) = true := (suffix_iff _ _).2 ⟨x, hst⟩
    simp [hs, hw]
theorem nodup_cands (st f : List UInt8) (k : Nat) : (candsTo st f k).Nodup := by
  unfold candsTo
  refine List.Pairwise.filterMap (R := fun a b => a ≠ b) _ ?_ List.nodup_range
  intro a a' hne b hb b' hb' e
  have h1 := (candI_some hb).2.1
  have h2 := (candI_some hb').2.1
  rw [e] at h1
  exact hne (h1.symm.trans h2)

/-! ### Ascending lists -/
/-- Strictly ascending. -/
def Asc (l : List (List UInt8)) : Prop := l.Pairwise (· < ·)
theorem asc_unique : ∀ {l m : List (List UInt8)}, Asc l → Asc m → (∀ x, x ∈ l ↔ x ∈ m) → l = m
  | [], [], _, _, _ => rfl
  | [], b :: m, _, _, h => by have := (h b).2 (List.mem_cons_self ..); simp at this
  | a :: l, [], _, _, h => by have := (h a).1 (List.mem_cons_self ..); simp at this
  | a :: l, b :: m, hl, hm, h => by
    have hl' := List.pairwise_cons.1 hl
    have hm' := List.pairwise_cons.1 hm
    have hab : a = b := by
      rcases List.mem_cons.1 ((h a).1 (List.mem_cons_self ..)) with e | e
      · exact e
      rcases List.mem_cons.1 ((h b).2 (List.mem_cons_self ..)) with e' | e'
      · exact e'.symm
      · exact absurd (List.lt_trans (hm'.1 a e) (hl'.1 b e')) (List.lt_irrefl _)
    subst hab
    congr 1
    refine asc_unique hl'.2 hm'.2 fun x => ?_
    constructor
    · intro hx
      rcases List.mem_cons.1 ((h x).1 (List.mem_cons_of_mem _ hx)) with e | e
      · subst e; exact absurd (hl'.1 _ hx) (List.lt_irrefl _)
      · exact e
    · intro hx
      rcases List.mem_cons.1 ((h x).2 (List.mem_cons_of_mem _ hx)) with e | e
      · subst e; exact absurd (hm'.1 _ hx) (List.lt_irrefl _)
      · exact e
theorem lt_of_le_ne {a b : List UInt8} (h : a ≤ b) (hn : a ≠ b) : a < b := by
  rcases Decidable.em (a < b) with h' | h'
  · exact h'
  · exact absurd (List.le_antisymm h (List.not_lt.1 h')) hn
/-- A sorted list without repetition ascends. -/
theorem sort_asc {l : List (List UInt8)} (h : l.Nodup) : Asc (l.mergeSort fun x y => decide (x ≤ y)) := by
  have hs : (l.mergeSort fun x y => decide (x ≤ y)).Pairwise (fun x y => decide (x ≤ y) = true) :=
    List.pairwise_mergeSort (fun a b c h1 h2 => by simp only [decide_eq_true_eq] at *; exact List.le_trans h1 h2)
      (fun a b => by simp only [Bool.or_eq_true, decide_eq_true_eq]; exact List.le_total a b) l
  have hn : (l.mergeSort fun x y => decide (x ≤ y)).Nodup := (List.mergeSort_perm l _).nodup_iff.2 h
  refine (hs.and hn).imp ?_
  rintro a b ⟨h1, h2⟩
  exact lt_of_le_ne (by simpa using h1) h2
theorem mem_sort (l : List (List UInt8)) (x : List UInt8) : x ∈ (l.mergeSort fun x y => decide (x ≤ y)) ↔ x ∈ l := (List.mergeSort_perm l _).mem_iff
end Go.Proofs.YtnpiphkglhcifaaGreatDoor.Pl
