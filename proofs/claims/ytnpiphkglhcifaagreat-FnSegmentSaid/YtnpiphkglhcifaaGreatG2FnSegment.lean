/-
  CONTRACTS of the draws of MatchAt's arguments.
-/
import Derived.Lib.Hide
import Derived.Lib.Strings
import Derived.Test.YtnpiphkglhcifaaGreatG1FnSegment
import Derived.Test.YtnpiphkglhcifaaGreatAtRow
import Derived.Test.YtnpiphkglhcifaaGreatTouch
import Derived.Test.YtnpiphkglhcifaaGreatNum
import Derived.Test.YtnpiphkglhcifaaGreatBits
import Derived.Test.YtnpiphkglhcifaaGreatKeys
import Derived.Test.YtnpiphkglhcifaaGreatOut
import Derived.Test.YtnpiphkglhcifaaGreatImpl4C
import Derived.Deep.DeepHandedRow
import Derived.Test.YtnpiphkglhcifaaGreatMix
import Derived.Deep.RegionHeld3
import Derived.Test.YtnpiphkglhcifaaGreatShelf
import Derived.Test.YtnpiphkglhcifaaGreatRowE
import Derived.Test.YtnpiphkglhcifaaGreatDrawR
import Derived.Test.YtnpiphkglhcifaaGreatBig
import Derived.Laws.AppendOwn
import Derived.Test.YtnpiphkglhcifaaGreatDraw
namespace Go.Proofs.YtnpiphkglhcifaaGreat.Pl
set_option maxRecDepth 100000

def vow (c : UInt8) : Bool := c == 97 || c == 101 || c == 105 || c == 111 || c == 117
def letter (c : UInt8) : Bool := decide (97 ≤ c.toNat) && decide (c.toNat ≤ 122)
def wordB (l : List UInt8) : Bool := l.all letter && (decide (1 ≤ l.length) && decide (l.length ≤ 24))
/-- Is the letter one that the byte of a pattern stands for? -/
def matchP (a p : UInt8) : Bool :=
  if p = 86 then vow a else if p = 68 then !(a == 119 || a == 120 || a == 121) && !vow a else if p = 67 then !vow a else a == p
/-- The first k bytes of the pattern match the end of the word. -/
def upTo (l p : List UInt8) (k : Nat) : Bool := (List.range k).all fun i => matchP (l.getD (l.length - p.length + i) 0) (p.getD i 0)
def endsP (l p : List UInt8) : Bool := decide (p.length ≤ l.length) && upTo l p p.length
theorem upTo_succ (l p : List UInt8) (k : Nat) : upTo l p (k + 1) = (upTo l p k && matchP (l.getD (l.length - p.length + k) 0) (p.getD k 0)) := by
  unfold upTo; rw [List.range_succ, List.all_append]; simp
theorem upTo_no {l p : List UInt8} {k : Nat} (h : matchP (l.getD (l.length - p.length + k) 0) (p.getD k 0) = false) (hk : k < p.length) : upTo l p p.length = false := by
  unfold upTo
  rw [List.all_eq_false]
  exact ⟨k, List.mem_range.2 hk, by rw [h]; decide⟩

def consY (l : List UInt8) : Bool := decide (2 ≤ l.length) && (l.getD (l.length - 1) 0 == 121 && !vow (l.getD (l.length - 2) 0))
def doubles (l : List UInt8) : Bool :=
  decide (3 ≤ l.length) && (!vow (l.getD (l.length - 3) 0) && (vow (l.getD (l.length - 2) 0) && (!vow (l.getD (l.length - 1) 0) &&
    !(l.getD (l.length - 1) 0 == 119 || l.getD (l.length - 1) 0 == 120 || l.getD (l.length - 1) 0 == 121))))
theorem ends_Cy (l : List UInt8) : endsP l [67, 121] = consY l := by
  unfold endsP upTo consY
  by_cases h : 2 ≤ l.length
  · have e : l.length - 2 + 1 = l.length - 1 := by omega
    simp [h, matchP, List.range_succ, e, Bool.and_comm]
  · simp [h]
theorem ends_CVD (l : List UInt8) : endsP l [67, 86, 68] = doubles l := by
  unfold endsP upTo doubles
  by_cases h : 3 ≤ l.length
  · have e : l.length - 3 + 1 = l.length - 2 := by omega
    have e' : l.length - 3 + 2 = l.length - 1 := by omega
    simp [h, matchP, List.range_succ, e, e', Bool.and_comm, Bool.and_assoc]
  · simp [h]
/-- A pattern without the three capitals stands for itself. -/
theorem ends_lit (l p : List UInt8) (hp : ∀ c ∈ p, c ≠ 86 ∧ c ≠ 68 ∧ c ≠ 67) : endsP l p = Lib.hasSuffix l p := by
  rw [← Lib.hasSuffix_of_drop]
  unfold endsP
  by_cases h : p.length ≤ l.length
  · simp only [h, decide_true, Bool.true_and]
    rw [Bool.eq_iff_iff, beq_iff_eq]
    unfold upTo
    rw [List.all_eq_true]
    constructor
    · intro hall
      apply List.ext_getElem
      · simp; omega
      · intro i h1 h2
        have hm := hall i (List.mem_range.2 h2)
        have hc := hp _ (List.getElem_mem h2)
        have e1 : p.getD i 0 = p[i] := by simp [List.getD, List.getElem?_eq_getElem h2]
        have hlt : l.length - p.length + i < l.length := by omega
        have e2 : l.getD (l.length - p.length + i) 0 = l[l.length - p.length + i] := by simp [List.getD, List.getElem?_eq_getElem hlt]
        rw [e1, e2] at hm
        unfold matchP at hm
        rw [if_neg hc.1, if_neg hc.2.1, if_neg hc.2.2] at hm
        rw [List.getElem_drop]
        simpa using hm
    · intro he i hi
      have h2 := List.mem_range.1 hi
      have hc := hp _ (List.getElem_mem h2)
      have e1 : p.getD i 0 = p[i] := by simp [List.getD, List.getElem?_eq_getElem h2]
      have hlt : l.length - p.length + i < l.length := by omega
      have e2 : l.getD (l.length - p.length + i) 0 = l[l.length - p.length + i] := by simp [List.getD, List.getElem?_eq_getElem hlt]
      rw [e1, e2]
      unfold matchP
      rw [if_neg hc.1, if_neg hc.2.1, if_neg hc.2.2]
      have : l[l.length - p.length + i] = p[i] := by
        have h3 : (l.drop (l.length - p.length))[i]'(by simp; omega) = p[i] := by simp only [he]
        rw [← h3, List.getElem_drop]
      simp [this]
  · simp [h]

def vowAt (l : List UInt8) (i : Nat) : Bool := vow (l.getD i 0)
/-- The runs of vowels that begin ahead of the place k. -/
def grp (l : List UInt8) : Nat → Nat
  | 0 => 0
  | k + 1 => grp l k + if (vowAt l k && (decide (k = 0) || !vowAt l (k - 1))) = true then 1 else 0
theorem grp_le (l : List UInt8) : ∀ k, grp l k ≤ k
  | 0 => Nat.le_refl _
  | k + 1 => by have := grp_le l k; unfold grp; split <;> omega
def groups (l : List UInt8) : Nat := grp l l.length

/-- THE RULE for two words. -/
def rule (w f : List UInt8) : Nat :=
  if (decide (f = [115]) && consY w) = true then 1
  else if (decide (f = [115]) && (Lib.hasSuffix w [115] || (Lib.hasSuffix w [120] || (Lib.hasSuffix w [122] || (Lib.hasSuffix w [99, 104] || Lib.hasSuffix w [115, 104]))))) = true then 2
  else if (decide (f = [105, 110, 103]) && Lib.hasSuffix w [105, 101]) = true then 3
  else if (!(f.getD 0 0 == 105) && consY w) = true then 4
  else if (vow (f.getD 0 0) && (decide (2 ≤ w.length) && (Lib.hasSuffix w [101] && !(Lib.hasSuffix w [101, 101] || (Lib.hasSuffix w [111, 101] || Lib.hasSuffix w [121, 101]))))) = true then 5
  else if (vow (f.getD 0 0) && (decide (groups w = 1) && doubles w)) = true then 6
  else 0
theorem rule_le (w f : List UInt8) : rule w f ≤ 6 := by unfold rule; repeat' split
                                                        all_goals omega

def lastL (l : List UInt8) : List UInt8 := l.drop (l.length - 1)
def bef (r : Nat) (x : List UInt8) : List UInt8 := if r = 1 then [121] else if r = 3 then [105, 101] else if r = 4 then [121] else if r = 5 then [101] else if r = 6 then x else []
def aft (r : Nat) (x : List UInt8) : List UInt8 := if r = 1 then [105, 101] else if r = 2 then [101] else if r = 3 then [121] else if r = 4 then [105] else if r = 6 then x ++ x else []

theorem suffix_iff (l p : List UInt8) : Lib.hasSuffix l p = true ↔ ∃ x, l = x ++ p := by
  unfold Lib.hasSuffix
  rw [List.isSuffixOf_iff_suffix]
  exact ⟨fun ⟨t, h⟩ => ⟨t, h.symm⟩, fun ⟨t, h⟩ => ⟨t, h.symm⟩⟩
theorem lastL_snoc (x : List UInt8) (c : UInt8) : lastL (x ++ [c]) = [c] := by unfold lastL; simp
theorem lastL_suffix (l : List UInt8) : ∃ x, l = x ++ lastL l := ⟨l.take (l.length - 1), by unfold lastL; rw [List.take_append_drop]⟩
theorem snoc_of {l : List UInt8} (h : 1 ≤ l.length) : ∃ x c, l = x ++ [c] := by
  rcases List.eq_nil_or_concat l with rfl | ⟨x, c, rfl⟩
  · simp at h
  · exact ⟨x, c, by simp⟩
theorem consY_suffix {l : List UInt8} (h : consY l = true) : ∃ x, l = x ++ [121] := by
  unfold consY at h
  simp only [Bool.and_eq_true, decide_eq_true_eq, beq_iff_eq] at h
  obtain ⟨h2, h1, -⟩ := h
  obtain ⟨x, c, rfl⟩ := snoc_of (l := l) (by omega)
  simp [List.getD] at h1
  exact ⟨x, by rw [h1]⟩
theorem doubles_len {l : List UInt8} (h : doubles l = true) : 3 ≤ l.length := by
  unfold doubles at h
  simp only [Bool.and_eq_true, decide_eq_true_eq] at h
  exact h.1

/-- WHAT THE RULE TELLS of the two words. -/
theorem rule_tells (w f : List UInt8) :
    (rule w f = 1 → f = [115] ∧ ∃ x, w = x ++ [121]) ∧ (rule w f = 2 → f = [115]) ∧ (rule w f = 3 → f = [105, 110, 103] ∧ ∃ x, w = x ++ [105, 101]) ∧
    (rule w f = 4 → ∃ x, w = x ++ [121]) ∧ (rule w f = 5 → ∃ x, w = x ++ [101]) ∧ (rule w f = 6 → 3 ≤ w.length) := by
  unfold rule
  split
  · rename_i h; simp only [Bool.and_eq_true, decide_eq_true_eq] at h
    exact ⟨fun _ => ⟨h.1, consY_suffix h.2⟩, by simp, by simp, by simp, by simp, by simp⟩
  split
  · rename_i _ h; simp only [Bool.and_eq_true, decide_eq_true_eq] at h
    exact ⟨by simp, fun _ => h.1, by simp, by simp, by simp, by simp⟩
  split
  · rename_i _ _ h; simp only [Bool.and_eq_true, decide_eq_true_eq] at h
    exact ⟨by simp, by simp, fun _ => ⟨h.1, (suffix_iff _ _).1 h.2⟩, by simp, by simp, by simp⟩
  split
  · rename_i _ _ _ h; simp only [Bool.and_eq_true] at h
    exact ⟨by simp, by simp, by simp, fun _ => consY_suffix h.2, by simp, by simp⟩
  split
  · rename_i _ _ _ _ h; simp only [Bool.and_eq_true] at h
    exact ⟨by simp, by simp, by simp, by simp, fun _ => (suffix_iff _ _).1 h.2.2.1, by simp⟩
  split
  · rename_i _ _ _ _ _ h; simp only [Bool.and_eq_true] at h
    exact ⟨by simp, by simp, by simp, by simp, by simp, fun _ => doubles_len h.2.2⟩
  · exact ⟨by simp, by simp, by simp, by simp, by simp, by simp⟩

theorem rule_cases (w f : List UInt8) : rule w f = 0 ∨ rule w f = 1 ∨ rule w f = 2 ∨ rule w f = 3 ∨ rule w f = 4 ∨ rule w f = 5 ∨ rule w f = 6 := by
  have := rule_le w f; omega
/-- The word ends with what its rule replaces. -/
theorem bef_suffix (w f : List UInt8) : ∃ x, w = x ++ bef (rule w f) (lastL w) := by
  obtain ⟨h1, h2, h3, h4, h5, h6⟩ := rule_tells w f
  rcases rule_cases w f with e | e | e | e | e | e | e <;> rw [e] <;> simp only [bef] <;> simp
  · obtain ⟨_, x, hx⟩ := h1 e; exact ⟨x, hx⟩
  · obtain ⟨_, x, hx⟩ := h3 e; exact ⟨x, hx⟩
  · exact h4 e
  · exact h5 e
  · exact lastL_suffix w

/-- The spelling of two words that are joined. -/
def join9 (w f : List UInt8) : List UInt8 := Lib.trimSuffix w (bef (rule w f) (lastL w)) ++ aft (rule w f) (lastL w) ++ f
theorem trim_app (x p : List UInt8) : Lib.trimSuffix (x ++ p) p = x := by
  unfold Lib.trimSuffix
  rw [if_pos ((suffix_iff _ _).2 ⟨x, rfl⟩)]
  simp
theorem join_eq {w f x : List UInt8} (h : w = x ++ bef (rule w f) (lastL w)) : join9 w f = x ++ aft (rule w f) (lastL w) ++ f := by
  unfold join9
  have e : Lib.trimSuffix w (bef (rule w f) (lastL w)) = x := by
    conv => lhs; arg 1; rw [h]
    exact trim_app _ _
  rw [e]

/-- Which of the undone rules gives which word. -/
def candI (st f : List UInt8) (r : Nat) : Option (List UInt8) :=
  if (Lib.hasSuffix st (aft r (lastL st)) && (wordB (Lib.trimSuffix st (aft r (lastL st)) ++ bef r (lastL st)) && decide (rule (Lib.trimSuffix st (aft r (lastL st)) ++ bef r (lastL st)) f = r))) = true
  then some (Lib.trimSuffix st (aft r (lastL st)) ++ bef r (lastL st)) else none
def candsTo (st f : List UInt8) (k : Nat) : List (List UInt8) := (List.range k).filterMap (candI st f)
theorem candsTo_succ (st f : List UInt8) (k : Nat) : candsTo st f (k + 1) = candsTo st f k ++ (candI st f k).toList := by
  unfold candsTo; rw [List.range_succ, List.filterMap_append]
  cases h : candI st f k <;> simp [List.filterMap, h]
theorem candsTo_len (st f : List UInt8) (k : Nat) : (candsTo st f k).length ≤ k := by
  unfold candsTo; exact Nat.le_trans (List.length_filterMap_le _ _) (by simp)
theorem candI_some {st f w : List UInt8} {r : Nat} (h : candI st f r = some w) : wordB w = true ∧ rule w f = r ∧ ∃ x, st = x ++ aft r (lastL st) ∧ w = x ++ bef r (lastL st) := by
  unfold candI at h
  split at h
  · rename_i hc
    simp only [Bool.and_eq_true, decide_eq_true_eq] at hc
    obtain ⟨h1, h2, h3⟩ := hc
    injection h with h
    rw [h] at h2 h3
    obtain ⟨x, hx⟩ := (suffix_iff _ _).1 h1
    refine ⟨h2, h3, x, hx, ?_⟩
    rw [← h]
    congr 1
    conv => lhs; arg 1; rw [hx]
    exact trim_app _ _
  · cases h
theorem wordB_ne {l : List UInt8} (h : wordB l = true) : 1 ≤ l.length ∧ l.length ≤ 24 ∧ ∀ c ∈ l, letter c = true := by
  unfold wordB at h
  simp only [Bool.and_eq_true, decide_eq_true_eq, List.all_eq_true] at h
  exact ⟨h.2.1, h.2.2, h.1⟩
theorem lastL_one {l : List UInt8} (h : 1 ≤ l.length) : ∃ c, lastL l = [c] := by
  obtain ⟨x, c, rfl⟩ := snoc_of h
  exact ⟨c, lastL_snoc x c⟩
/-- WHAT THE UNDONE RULES GIVE is what joins to the spelling. -/
theorem mem_cands (st f w : List UInt8) : w ∈ candsTo st f 7 ↔ wordB w = true ∧ join9 w f = st ++ f := by
  unfold candsTo
  rw [List.mem_filterMap]
  constructor
  · rintro ⟨r, hr, h⟩
    obtain ⟨hw, hrule, x, hst, hwx⟩ := candI_some h
    refine ⟨hw, ?_⟩
    have hr := List.mem_range.1 hr
    by_cases h6 : r = 6
    · subst h6
      have hst : st = x ++ (lastL st ++ lastL st) := hst
      have hwx : w = x ++ lastL st := hwx
      have hst0 : 1 ≤ st.length := by
        rcases Nat.eq_zero_or_pos st.length with h0 | h0
        · have : st = [] := List.length_eq_zero_iff.1 h0
          have hx : x = [] := by
            have e := congrArg List.length hst
            rw [this] at e; simp [lastL] at e
            exact List.length_eq_zero_iff.1 e.symm
          rw [this, hx] at hwx
          have := (wordB_ne hw).1; rw [hwx] at this; simp [lastL] at this
        · exact h0
      obtain ⟨c, hc⟩ := lastL_one hst0
      rw [hc] at hst hwx
      have hl : lastL w = [c] := by rw [hwx, lastL_snoc]
      have := join_eq (w := w) (f := f) (x := x) (by rw [hrule, hl]; exact hwx)
      rw [this, hrule, hl, hst]
      rfl
    · have hb : ∀ y z, bef r y = bef r z := fun y z => by unfold bef; simp [h6]
      have ha : ∀ y z, aft r y = aft r z := fun y z => by unfold aft; simp [h6]
      have := join_eq (w := w) (f := f) (x := x) (by rw [hrule, hb _ (lastL st)]; exact hwx)
      rw [this, hrule, ha _ (lastL st), ← hst]
  · rintro ⟨hw, hj⟩
    refine ⟨rule w f, List.mem_range.2 (by have := rule_le w f; omega), ?_⟩
    obtain ⟨x, hx⟩ := bef_suffix w f
    have hje := join_eq hx
    rw [hj] at hje
    have hst : st = x ++ aft (rule w f) (lastL w) := List.append_cancel_right hje
    have hlast : bef (rule w f) (lastL st) = bef (rule w f) (lastL w) ∧ aft (rule w f) (lastL st) = aft (rule w f) (lastL w) := by
      by_cases h6 : rule w f = 6
      · obtain ⟨c, hc⟩ := lastL_one (wordB_ne hw).1
        have : lastL st = [c] := by
          rw [hst, h6, hc]; simp only [aft]
          show lastL (x ++ ([c] ++ [c])) = [c]
          rw [← List.append_assoc, lastL_snoc]
        rw [this, hc]; exact ⟨rfl, rfl⟩
      · unfold bef aft; simp [h6]
    unfold candI
    rw [hlast.1, hlast.2]
    have ht : Lib.trimSuffix st (aft (rule w f) (lastL w)) = x := by
      conv => lhs; arg 1; rw [hst]
      exact trim_app _ _
    rw [ht, ← hx]
    have hs : Lib.hasSuffix st (aft (rule w f) (lastL w)) = true := (suffix_iff _ _).2 ⟨x, hst⟩
    simp [hs, hw]
theorem nodup_cands (st f : List UInt8) (k : Nat) : (candsTo st f k).Nodup := by
  unfold candsTo
  refine List.Pairwise.filterMap (R := fun a b => a ≠ b) _ ?_ List.nodup_range
  intro a a' hne b hb b' hb' e
  have h1 := (candI_some hb).2.1
  have h2 := (candI_some hb').2.1
  rw [e] at h1
  exact hne (h1.symm.trans h2)

/-! ### Ascending lists -/
/-- Strictly ascending. -/
def Asc (l : List (List UInt8)) : Prop := l.Pairwise (· < ·)
theorem asc_unique : ∀ {l m : List (List UInt8)}, Asc l → Asc m → (∀ x, x ∈ l ↔ x ∈ m) → l = m
  | [], [], _, _, _ => rfl
  | [], b :: m, _, _, h => by have := (h b).2 (List.mem_cons_self ..); simp at this
  | a :: l, [], _, _, h => by have := (h a).1 (List.mem_cons_self ..); simp at this
  | a :: l, b :: m, hl, hm, h => by
    have hl' := List.pairwise_cons.1 hl
    have hm' := List.pairwise_cons.1 hm
    have hab : a = b := by
      rcases List.mem_cons.1 ((h a).1 (List.mem_cons_self ..)) with e | e
      · exact e
      rcases List.mem_cons.1 ((h b).2 (List.mem_cons_self ..)) with e' | e'
      · exact e'.symm
      · exact absurd (List.lt_trans (hm'.1 a e) (hl'.1 b e')) (List.lt_irrefl _)
    subst hab
    congr 1
    refine asc_unique hl'.2 hm'.2 fun x => ?_
    constructor
    · intro hx
      rcases List.mem_cons.1 ((h x).1 (List.mem_cons_of_mem _ hx)) with e | e
      · subst e; exact absurd (hl'.1 _ hx) (List.lt_irrefl _)
      · exact e
    · intro hx
      rcases List.mem_cons.1 ((h x).2 (List.mem_cons_of_mem _ hx)) with e | e
      · subst e; exact absurd (hm'.1 _ hx) (List.lt_irrefl _)
      · exact e
theorem lt_of_le_ne {a b : List UInt8} (h : a ≤ b) (hn : a ≠ b) : a < b := by
  rcases Decidable.em (a < b) with h' | h'
  · exact h'
  · exact absurd (List.le_antisymm h (List.not_lt.1 h')) hn
/-- A sorted list without repetition ascends. -/
theorem sort_asc {l : List (List UInt8)} (h : l.Nodup) : Asc (l.mergeSort fun x y => decide (x ≤ y)) := by
  have hs : (l.mergeSort fun x y => decide (x ≤ y)).Pairwise (fun x y => decide (x ≤ y) = true) :=
    List.pairwise_mergeSort (fun a b c h1 h2 => by simp only [decide_eq_true_eq] at *; exact List.le_trans h1 h2)
      (fun a b => by simp only [Bool.or_eq_true, decide_eq_true_eq]; exact List.le_total a b) l
  have hn : (l.mergeSort fun x y => decide (x ≤ y)).Nodup := (List.mergeSort_perm l _).nodup_iff.2 h
  refine (hs.and hn).imp ?_
  rintro a b ⟨h1, h2⟩
  exact lt_of_le_ne (by simpa using h1) h2
theorem mem_sort (l : List (List UInt8)) (x : List UInt8) : x ∈ (l.mergeSort fun x y => decide (x ≤ y)) ↔ x ∈ l := (List.mergeSort_perm l _).mem_iff
end Go.Proofs.YtnpiphkglhcifaaGreat.Pl

namespace Go.Proofs.YtnpiphkglhcifaaGreat
set_option maxRecDepth 100000
open Go.RowKit

end Go.Proofs.YtnpiphkglhcifaaGreat

namespace Go.Proofs.YtnpiphkglhcifaaGreat.Pl
set_option maxRecDepth 100000

theorem and_two (s q : Nat) : s &&& 2 ^ q = if s.testBit q then 2 ^ q else 0 := by
  apply Nat.eq_of_testBit_eq
  intro j
  rw [Nat.testBit_and, Nat.testBit_two_pow]
  by_cases h : q = j
  · subst h
    cases hb : s.testBit q
    · simp
    · simp
  · rw [decide_eq_false h]
    cases hb : s.testBit q
    · simp
    · simp [h]
theorem or_two {s q : Nat} (hs : s < 2 ^ 40) (hq : q < 40) (h : s.testBit q = false) : s ||| 2 ^ q = s + 2 ^ q := by
  have hq2 : 2 ^ q < 2 ^ 40 := Nat.pow_lt_pow_right (by decide) hq
  have h0 : s &&& 2 ^ q = 0 := by rw [and_two, h]; rfl
  have e := BitVec.add_eq_or_of_and_eq_zero (w := 64) (BitVec.ofNat 64 s) (BitVec.ofNat 64 (2 ^ q)) (by
    apply BitVec.eq_of_toNat_eq
    rw [BitVec.toNat_and, BitVec.toNat_ofNat, BitVec.toNat_ofNat, Nat.mod_eq_of_lt (by omega), Nat.mod_eq_of_lt (by omega), h0]; rfl)
  have e2 := congrArg BitVec.toNat e
  rw [BitVec.toNat_add, BitVec.toNat_or, BitVec.toNat_ofNat, BitVec.toNat_ofNat, Nat.mod_eq_of_lt (a := s) (by omega), Nat.mod_eq_of_lt (a := 2 ^ q) (by omega), Nat.mod_eq_of_lt (by omega)] at e2
  exact e2.symm
/-- A stroke that has a key is the stroke without it and the key. -/
theorem split_two {s q : Nat} (hs : s < 2 ^ 40) (hq : q < 40) (h : s.testBit q = true) : 2 ^ q ≤ s ∧ (s - 2 ^ q).testBit q = false ∧ ∀ j, j ≠ q → (s - 2 ^ q).testBit j = s.testBit j := by
  have hle : 2 ^ q ≤ s := Nat.ge_two_pow_of_testBit h
  have hx : ∀ j, (s ^^^ 2 ^ q).testBit j = if j = q then false else s.testBit j := by
    intro j
    rw [Nat.testBit_xor, Nat.testBit_two_pow]
    by_cases hj : q = j
    · subst hj; simp [h]
    · rw [decide_eq_false hj, if_neg (by omega)]; simp
  have hf : (s ^^^ 2 ^ q).testBit q = false := by rw [hx]; simp
  have ho : (s ^^^ 2 ^ q) ||| 2 ^ q = s := by
    apply Nat.eq_of_testBit_eq
    intro j
    rw [Nat.testBit_or, hx, Nat.testBit_two_pow]
    by_cases hj : j = q
    · subst hj; simp [h]
    · have : ¬ q = j := fun e => hj e.symm
      rw [if_neg hj, decide_eq_false this]; simp
  have hxs : s ^^^ 2 ^ q < 2 ^ 40 := Nat.xor_lt_two_pow hs (Nat.pow_lt_pow_right (by decide) hq)
  have ha := or_two hxs hq hf
  have hs2 : s - 2 ^ q = s ^^^ 2 ^ q := by omega
  rw [hs2]
  exact ⟨hle, hf, fun j hj => by rw [hx, if_neg hj]⟩
/-- The stroke with its bit q cleared, as the and-not has it. -/
theorem andNot_two {s q : Nat} (hs : s < 2 ^ 40) (hq : q < 40) : (BitVec.ofNat 64 s &&& ~~~ BitVec.ofNat 64 (2 ^ q)).toNat = if s.testBit q then s - 2 ^ q else s := by
  have hq2 : 2 ^ q < 2 ^ 40 := Nat.pow_lt_pow_right (by decide) hq
  apply Nat.eq_of_testBit_eq
  intro j
  rw [BitVec.testBit_toNat, BitVec.getLsbD_and, BitVec.getLsbD_not, BitVec.getLsbD_ofNat, BitVec.getLsbD_ofNat, Nat.testBit_two_pow]
  by_cases hj : j < 64
  · simp only [hj, decide_true, Bool.true_and]
    by_cases hb : s.testBit q = true
    · obtain ⟨_, h1, h2⟩ := split_two hs hq hb
      rw [if_pos hb]
      by_cases hjq : j = q
      · subst hjq; simp [h1]
      · have : ¬ q = j := fun e => hjq e.symm
        rw [h2 j hjq, decide_eq_false this]; simp
    · rw [if_neg hb]
      by_cases hjq : q = j
      · subst hjq; simp; simpa using hb
      · rw [decide_eq_false hjq]; simp
  · have h1 : s.testBit j = false := Nat.testBit_lt_two_pow (Nat.lt_of_lt_of_le hs (Nat.pow_le_pow_right (by decide) (by omega)))
    have h2 : (s - 2 ^ q).testBit j = false := Nat.testBit_lt_two_pow (Nat.lt_of_lt_of_le (Nat.lt_of_le_of_lt (Nat.sub_le _ _) hs) (Nat.pow_le_pow_right (by decide) (by omega)))
    simp only [hj, decide_false, Bool.false_and]
    by_cases hb : s.testBit q = true
    · rw [if_pos hb, h2]
    · rw [if_neg hb, h1]

/-- Is the pair of a key and a suffix a valid fold? -/
def okF (e : Int × ByteArray) : Bool := (decide (13 ≤ e.1) && decide (e.1 ≤ 22)) && ((decide (1 ≤ e.2.size) && decide (e.2.size ≤ 8)) && e.2.data.toList.all letter)
theorem okF_parts {e : Int × ByteArray} (h : okF e = true) : (∃ q : Nat, e.1 = (q : Int) ∧ 13 ≤ q ∧ q ≤ 22) ∧ 1 ≤ e.2.size ∧ e.2.size ≤ 8 ∧ e.2.data.toList.all letter = true := by
  unfold okF at h
  simp only [Bool.and_eq_true, decide_eq_true_eq] at h
  obtain ⟨⟨h1, h2⟩, ⟨h3, h4⟩, h5⟩ := h
  exact ⟨⟨e.1.toNat, by omega, by omega, by omega⟩, h3, h4, h5⟩
theorem okF_word (k : Int) (t : ByteArray) : okF (k, t) = ((decide (13 ≤ k) && decide (k ≤ 22)) && (wordB t.data.toList && decide (t.size ≤ 8))) := by
  unfold okF wordB
  have e : t.data.toList.length = t.size := by simp
  rw [e]
  by_cases h : t.size ≤ 8
  · have h2 : t.size ≤ 24 := by omega
    simp [h, h2, Bool.and_comm]
  · simp [h]
theorem okF_key {k : Int} {t : ByteArray} (h : ¬ (13 ≤ k ∧ k ≤ 22)) : okF (k, t) = false := by
  unfold okF
  by_cases h1 : 13 ≤ k
  · have h2 : ¬ k ≤ 22 := by omega
    simp [h2]
  · simp [h1]
/-- A fold list: at most six valid folds with keys of their own. -/
def GoodFs (ls : List (Int × ByteArray)) : Prop := ls.length ≤ 6 ∧ (∀ e ∈ ls, okF e = true) ∧ (ls.map (·.1)).Nodup
instance (ls : List (Int × ByteArray)) : Decidable (GoodFs ls) := by unfold GoodFs; infer_instance
def okFs (ls : List (Int × ByteArray)) : Bool := decide (GoodFs ls)
theorem okFs_parts {ls : List (Int × ByteArray)} (h : okFs ls = true) : GoodFs ls := of_decide_eq_true h
theorem okFs_no_len {ls : List (Int × ByteArray)} (h : ¬ ls.length ≤ 6) : okFs ls = false := decide_eq_false fun g => h g.1
theorem okFs_no_at {ls : List (Int × ByteArray)} {k : Nat} {e : Int × ByteArray} (h : ls[k]? = some e) (he : okF e = false) : okFs ls = false :=
  decide_eq_false fun g => by have := g.2.1 e (List.mem_of_getElem? h); rw [he] at this; cases this
theorem apart_at {ls : List Int} (h : ls.Nodup) {i k : Nat} {x : Int} (hi : ls[i]? = some x) (hk : ls[k]? = some x) : i = k := by
  obtain ⟨h1, e1⟩ := List.getElem?_eq_some_iff.1 hi
  obtain ⟨h2, e2⟩ := List.getElem?_eq_some_iff.1 hk
  have hp := List.pairwise_iff_getElem.1 h
  rcases Nat.lt_trichotomy i k with hl | hl | hl
  · exact absurd (e1.trans e2.symm) (hp i k h1 h2 hl)
  · exact hl
  · exact absurd (e2.trans e1.symm) (hp k i h2 h1 hl)
theorem okFs_no_pair {ls : List (Int × ByteArray)} {i k : Nat} {e e' : Int × ByteArray} (hi : ls[i]? = some e) (hk : ls[k]? = some e') (hlt : k < i) (he : e'.1 = e.1) : okFs ls = false :=
  decide_eq_false fun g => by
    have := apart_at g.2.2 (i := i) (k := k) (x := e.1) (by rw [List.getElem?_map, hi]; rfl) (by rw [List.getElem?_map, hk, ← he]; rfl)
    omega
theorem okFs_yes {ls : List (Int × ByteArray)} (h1 : ls.length ≤ 6) (h2 : ∀ e ∈ ls, okF e = true) (h3 : (ls.map (·.1)).Nodup) : okFs ls = true := decide_eq_true ⟨h1, h2, h3⟩
/-- The folds that were gone through so far are valid and apart. -/
def UpTo (ls : List (Int × ByteArray)) (i : Nat) : Prop := (∀ e ∈ ls.take i, okF e = true) ∧ ((ls.take i).map (·.1)).Nodup
theorem UpTo.zero (ls : List (Int × ByteArray)) : UpTo ls 0 := ⟨fun e he => by simp at he, by simp⟩
theorem UpTo.next {ls : List (Int × ByteArray)} {i : Nat} (h : UpTo ls i) {e : Int × ByteArray} (he : ls[i]? = some e) (hf : okF e = true) (hk : ∀ k e', k < i → ls[k]? = some e' → e'.1 ≠ e.1) : UpTo ls (i + 1) := by
  have ht : ls.take (i + 1) = ls.take i ++ [e] := by rw [List.take_add_one, he]; rfl
  refine ⟨fun x hx => ?_, ?_⟩
  · rw [ht, List.mem_append, List.mem_singleton] at hx
    rcases hx with hx | rfl
    · exact h.1 x hx
    · exact hf
  · rw [ht, List.map_append, List.nodup_append]
    refine ⟨h.2, by simp, fun a ha b hb => ?_⟩
    simp at hb
    subst hb
    obtain ⟨x, hx, rfl⟩ := List.mem_map.1 ha
    obtain ⟨k, hk1, hk2⟩ := List.mem_take_iff_getElem.1 hx
    exact hk k x (by omega) (by rw [List.getElem?_eq_getElem (by omega), hk2])
theorem UpTo.all {ls : List (Int × ByteArray)} {i : Nat} (h : UpTo ls i) (hi : ls.length ≤ i) (h6 : ls.length ≤ 6) : okFs ls = true := by
  obtain ⟨h1, h2⟩ := h
  rw [List.take_of_length_le hi] at h1 h2
  exact okFs_yes h6 h1 h2
/-- The keys of the first folds, as bits. -/
def KeysUp (ls : List (Int × ByteArray)) (i m : Nat) : Prop := m < 8388608 ∧ ∀ q : Nat, q < 23 → (m.testBit q = true ↔ ∃ k e, k < i ∧ ls[k]? = some e ∧ e.1 = (q : Int))
theorem KeysUp.zero (ls : List (Int × ByteArray)) : KeysUp ls 0 0 := ⟨by omega, fun q _ => ⟨fun h => by simp at h, fun ⟨k, _, h, _⟩ => by omega⟩⟩
theorem KeysUp.next {ls : List (Int × ByteArray)} {i m : Nat} (h : KeysUp ls i m) {e : Int × ByteArray} (he : ls[i]? = some e) {q : Nat} (hq : q < 23) (heq : e.1 = (q : Int)) : KeysUp ls (i + 1) (m ||| 2 ^ q) := by
  have hq2 : 2 ^ q < 2 ^ 23 := Nat.pow_lt_pow_right (by decide) hq
  refine ⟨Nat.or_lt_two_pow (n := 23) h.1 hq2, fun r hr => ?_⟩
  rw [Nat.testBit_or, Nat.testBit_two_pow, Bool.or_eq_true, h.2 r hr, decide_eq_true_eq]
  constructor
  · rintro (⟨k, x, hk, hx, hxr⟩ | rfl)
    · exact ⟨k, x, by omega, hx, hxr⟩
    · exact ⟨i, e, by omega, he, heq⟩
  · rintro ⟨k, x, hk, hx, hxr⟩
    by_cases hki : k = i
    · subst hki
      rw [he] at hx; cases hx
      exact .inr (by omega)
    · exact .inl ⟨k, x, by omega, hx, hxr⟩
end Go.Proofs.YtnpiphkglhcifaaGreat.Pl

namespace Go.Proofs.YtnpiphkglhcifaaGreat
set_option maxRecDepth 100000
open Go.RowKit

end Go.Proofs.YtnpiphkglhcifaaGreat

namespace Go.Proofs.YtnpiphkglhcifaaGreat
set_option maxRecDepth 100000
open Go.RowKit

theorem fd_at {w : World} {v : Value} {ls : List Atm} (h : AtomsAt w v ls) : ∃ a cap, v = .slice a ls.length cap ∧ ls.length ≤ cap ∧ ∀ (w1 : World), Below w.heap.size w w1 → ∀ (j : Nat) e, ls[j]? = some e → ∃ bk o, a = some ⟨bk, o, none⟩ ∧ bk < w.heap.size ∧ w1.cell? ⟨bk, o + j * 2, none⟩ = some (.int .i64 e.1) ∧ w1.cell? ⟨bk, o + j * 2 + 1, none⟩ = some (.string e.2) := by
  obtain ⟨a, cap, hv, hcap, h⟩ := h
  refine ⟨a, cap, hv, hcap, fun w1 hb j e he => ?_⟩
  rcases h with rfl | ⟨bk, o, ha, hk, h⟩
  · simp at he
  · obtain ⟨g0, g1⟩ := h j e he
    exact ⟨bk, o, ha, hk, (hb.cell (p := ⟨bk, o + j * 2, none⟩) hk).trans g0, (hb.cell (p := ⟨bk, o + j * 2 + 1, none⟩) hk).trans g1⟩
theorem below_drewF {B : Nat} {a w : World} (h : Below B a w) (n : Nat) : Below B a (w.drewN n) := h.trans ⟨rfl, rfl, rfl, Nat.le_refl _, fun _ _ => rfl⟩
theorem right_bits : ∀ q, q < 23 → Nat.testBit 8380416 q = decide (13 ≤ q) := by decide
/-- The folds of DefaultFolds. -/
def dFs : List Atm := [(18, ⟨#[105, 110, 103]⟩), (21, ⟨#[101, 100]⟩), (20, ⟨#[115]⟩), (22, ⟨#[115]⟩)]
end Go.Proofs.YtnpiphkglhcifaaGreat

namespace Go.Proofs.YtnpiphkglhcifaaGreat
set_option maxRecDepth 100000
open Go.RowKit

/-! ### Plain -/
def lastN (xs : List Int) : Nat := (xs.getLastD 0).toNat
theorem lastN_snoc (ys : List Int) (s : Nat) : lastN (ys ++ [(s : Int)]) = s := by unfold lastN; rw [List.getLastD_concat]; rfl
theorem okO_snoc {xs : List Int} (h : okO xs = true) : ∃ (ys : List Int) (s : Nat), xs = ys ++ [(s : Int)] ∧ 1 ≤ s ∧ s < 8388608 ∧ ys.length ≤ 5 ∧ ∀ y ∈ ys, okS y = true := by
  obtain ⟨h1, h2, h3⟩ := okO_parts h
  have hne : xs ≠ [] := fun e => by subst e; simp at h1
  have hx := List.dropLast_concat_getLast hne
  have hs := okS_iff.1 (h3 _ (List.getLast_mem hne))
  refine ⟨xs.dropLast, (xs.getLast hne).toNat, ?_, by omega, by omega, by rw [List.length_dropLast]; omega, fun y hy => h3 y ((List.dropLast_sublist xs).subset hy)⟩
  rw [Int.toNat_of_nonneg (by omega)]; exact hx.symm
theorem okO_of {ys : List Int} {s : Nat} (hl : ys.length ≤ 5) (hy : ∀ y ∈ ys, okS y = true) (h1 : 1 ≤ s) (h2 : s < 8388608) : okO (ys ++ [(s : Int)]) = true := by
  refine okO_yes (by simp) (by simp; omega) ?_
  rw [List.all_eq_true]
  intro x hx
  rw [List.mem_append, List.mem_singleton] at hx
  rcases hx with hx | rfl
  · exact hy x hx
  · exact okS_yes ⟨by omega, by omega⟩
/-- Has the last stroke the key, and another one? -/
def un0B (xs : List Int) (q : Nat) : Bool := (lastN xs).testBit q && !decide (lastN xs = 2 ^ q)
def un0I (xs : List Int) (q : Nat) : List Int := if un0B xs q = true then xs.dropLast ++ [((lastN xs - 2 ^ q : Nat) : Int)] else []
def unfB (xs : List Int) (k : Int) (t : ByteArray) : Bool := (okO xs && Pl.okF (k, t)) && un0B xs k.toNat
def unfI (xs : List Int) (k : Int) (t : ByteArray) : List Int := if unfB xs k t = true then xs.dropLast ++ [((lastN xs - 2 ^ k.toNat : Nat) : Int)] else []
def intB (xs : List Int) (k : Int) (t : ByteArray) : Bool := (okO xs && Pl.okF (k, t)) && !(lastN xs).testBit k.toNat
def intI (xs : List Int) (k : Int) (t : ByteArray) : List Int := if intB xs k t = true then xs.dropLast ++ [((lastN xs + 2 ^ k.toNat : Nat) : Int)] else []
theorem last_len {xs : List Int} (h : okO xs = true) (x : Int) : (xs.dropLast ++ [x]).length ≤ 6 := by
  have := (okO_parts h).2.1
  rw [List.length_append, List.length_dropLast]; simp; omega
theorem unfI_len (xs : List Int) (k : Int) (t : ByteArray) : (unfI xs k t).length ≤ 6 := by
  unfold unfI
  split
  · rename_i h
    unfold unfB at h
    simp only [Bool.and_eq_true] at h
    exact last_len h.1.1 _
  · simp
theorem intI_len (xs : List Int) (k : Int) (t : ByteArray) : (intI xs k t).length ≤ 6 := by
  unfold intI
  split
  · rename_i h
    unfold intB at h
    simp only [Bool.and_eq_true] at h
    exact last_len h.1.1 _
  · simp
theorem unf_un0 {xs : List Int} {k : Int} {t : ByteArray} (h : okO xs = true) (h' : Pl.okF (k, t) = true) : unfB xs k t = un0B xs k.toNat ∧ unfI xs k t = un0I xs k.toNat := by
  have : unfB xs k t = un0B xs k.toNat := by unfold unfB; rw [h, h']; rfl
  exact ⟨this, by unfold unfI un0I; rw [this]⟩
theorem un0_pos (xs : List Int) (q : Nat) : decide (0 < (un0I xs q).length) = un0B xs q := by
  unfold un0I
  cases h : un0B xs q
  · simp
  · simp
theorem unf_no {xs : List Int} {k : Int} {t : ByteArray} (h : okO xs = false ∨ Pl.okF (k, t) = false) : unfB xs k t = false ∧ unfI xs k t = [] := by
  have : unfB xs k t = false := by unfold unfB; rcases h with h | h <;> simp [h]
  exact ⟨this, by unfold unfI; rw [this]; rfl⟩
theorem int_no {xs : List Int} {k : Int} {t : ByteArray} (h : okO xs = false ∨ Pl.okF (k, t) = false) : intB xs k t = false ∧ intI xs k t = [] := by
  have : intB xs k t = false := by unfold intB; rcases h with h | h <;> simp [h]
  exact ⟨this, by unfold intI; rw [this]; rfl⟩
theorem pow_22 {q : Nat} (h : q ≤ 22) : 2 ^ q < 8388608 := pow_lt23 q (by omega)
theorem andNot_i64 (s q : Nat) (hs : s < 8388608) (hq : q ≤ 22) : bits .andNot .i64 (s : Int) ((2 ^ q : Nat) : Int) = ((if s.testBit q then s - 2 ^ q else s : Nat) : Int) := by
  have hp := pow_22 hq
  show IntKind.i64.wrap ((BitVec.ofInt 64 (s : Int) &&& ~~~BitVec.ofInt 64 ((2 ^ q : Nat) : Int)).toNat : Int) = _
  rw [show BitVec.ofInt 64 (s : Int) = BitVec.ofNat 64 s from BitVec.ofInt_natCast .., show BitVec.ofInt 64 ((2 ^ q : Nat) : Int) = BitVec.ofNat 64 (2 ^ q) from BitVec.ofInt_natCast .., Pl.andNot_two (by omega) (by omega)]
  refine i64_small _ ?_
  split
  · exact Nat.lt_of_le_of_lt (Nat.sub_le _ _) (by omega)
  · omega
theorem ints_grown {w w' : World} {row : Option Nat} {u : Value} {xs : List Int} (h : IntsM w u xs) (hg : w.grownBy w' row) (hne : ∀ j, u.ownBlock = some j → row ≠ some j) : IntsM w' u xs := by
  rcases h with h | ⟨bk, o, cap, rfl, hc, hk, hcell⟩
  · exact .inl h
  · refine .inr ⟨bk, o, cap, rfl, hc, Nat.lt_of_lt_of_le hk hg.size, fun j x hx => ?_⟩
    have hb := hg.block bk hk (fun e => hne bk rfl e.symm)
    rw [← hcell j x hx]
    simp [World.cell?, hb]
theorem ints_one_new (w : World) (x : Int) : IntsM (w.alloc (.cells #[.int .i64 x] 3)) (.slice (some ⟨w.heap.size, 0, none⟩) 1 1) [x] := by
  refine .inr ⟨w.heap.size, 0, 1, rfl, Nat.le_refl _, by rw [World.size_alloc]; omega, fun j y hy => ?_⟩
  match j, hy with
  | 0, hy => simp at hy; subst hy; rw [World.cell?_alloc_at _ _ _ _ rfl]; rfl
theorem below_x1 (w : World) (o : Obj) : Below w.heap.size w (w.alloc o) := (Below.refl _ _).alloc (Nat.le_refl _) _
theorem below_x2 (w : World) (o o' : Obj) : Below w.heap.size w ((w.alloc o).alloc o') := ((Below.refl _ _).alloc (Nat.le_refl _) _).alloc (by simp) _
theorem outE_nil (w : World) (a : Option Addr) (cap : Nat) : OutE w [] false (.returned (.tuple #[.slice a 0 cap, .bool false])) := ⟨_, rfl, IntsAt.nil _ _ _⟩
theorem outO_nil (base : Nat) (w : World) (a : Option Addr) (cap : Nat) : OutO base w [] false (.returned (.tuple #[.slice a 0 cap, .bool false])) := ⟨_, rfl, .inl ⟨rfl, _, _, rfl⟩⟩
/-- An answer of ints that lie in memory of the call's own, and a flag. -/
def OutEb (base : Nat) (w' : World) (xs : List Int) (b : Bool) (e : Ending) : Prop := ∃ u, e = .returned (.tuple #[u, .bool b]) ∧ IntsAt w' u xs ∧ ∀ g, u.ownBlock = some g → base ≤ g
theorem outEb_nil (base : Nat) (w : World) (cap : Nat) : OutEb base w [] false (.returned (.tuple #[.slice none 0 cap, .bool false])) := ⟨_, rfl, IntsAt.nil _ _ _, fun g hg => by cases hg⟩
end Go.Proofs.YtnpiphkglhcifaaGreat

namespace Go.Proofs.YtnpiphkglhcifaaGreat
set_option maxRecDepth 100000
open Go.RowKit

theorem ownI_mono {w : World} {b b' : Nat} {v : Value} {n : Nat} {f : Nat → Int} (h : OwnInts w b v n f) (hb : b' ≤ b) : OwnInts w b' v n f := by
  rcases h with h | ⟨g, cap, hv, hc, hg, rest⟩
  · exact .inl h
  · exact .inr ⟨g, cap, hv, hc, Nat.le_trans hb hg, rest⟩
end Go.Proofs.YtnpiphkglhcifaaGreat

namespace Go.Proofs.YtnpiphkglhcifaaGreat
set_option maxRecDepth 100000
open Go.RowKit

def dfCells : Array Value := #[.int .i64 18, .string ⟨#[105, 110, 103]⟩, .int .i64 21, .string ⟨#[101, 100]⟩, .int .i64 20, .string ⟨#[115]⟩, .int .i64 22, .string ⟨#[115]⟩]
/-- Folds that lie in a block of the call's own. -/
def AtF (w : World) (base : Nat) (v : Value) (ls : List Atm) : Prop :=
  ∃ g o cap, v = .slice (some ⟨g, o, none⟩) ls.length cap ∧ ls.length ≤ cap ∧ base ≤ g ∧ g < w.heap.size ∧ (∀ j, w.frozen? ⟨g, j, none⟩ = false) ∧ ∀ j e, ls[j]? = some e → w.cell? ⟨g, o + j * 2, none⟩ = some (.int .i64 e.1) ∧ w.cell? ⟨g, o + j * 2 + 1, none⟩ = some (.string e.2)
theorem AtF.at {w : World} {base : Nat} {v : Value} {ls : List Atm} (h : AtF w base v ls) : AtomsAt w v ls := by
  obtain ⟨g, o, cap, rfl, hc, _, hg, _, hcell⟩ := h
  exact ⟨_, cap, rfl, hc, .inr ⟨g, o, rfl, hg, hcell⟩⟩
theorem AtF.keep {w w' : World} {base B : Nat} {v : Value} {ls : List Atm} (h : AtF w base v ls) (hg : w.grownBy w' (some B)) (hB : B < base) : AtF w' base v ls := by
  obtain ⟨g, o, cap, hv, hc, hb, hl, hf, hcell⟩ := h
  have hk := hg.block g hl (by simp; omega)
  exact ⟨g, o, cap, hv, hc, hb, Nat.lt_of_lt_of_le hl hg.size, fun j => (World.frozen?_of_block hk).trans (hf j), fun j e he => ⟨(World.cell?_of_block hk).trans (hcell j e he).1, (World.cell?_of_block hk).trans (hcell j e he).2⟩⟩
theorem AtF.set {w : World} {base : Nat} {v : Value} {ls : List Atm} {g o cap j : Nat} {e : Atm} (hv : v = .slice (some ⟨g, o, none⟩) ls.length cap) (hc : ls.length ≤ cap) (hb : base ≤ g) (hl : g < w.heap.size) (hf : ∀ j, w.frozen? ⟨g, j, none⟩ = false)
    (hcell : ∀ j e, ls[j]? = some e → w.cell? ⟨g, o + j * 2, none⟩ = some (.int .i64 e.1) ∧ w.cell? ⟨g, o + j * 2 + 1, none⟩ = some (.string e.2)) (hj : ls[j]? = some e) (z : Int) (t : ByteArray) :
    AtF (w.setCell ⟨g, o + j * 2, none⟩ (.int .i64 z)) base v (ls.set j (z, e.2)) ∧ AtF (w.setCell ⟨g, o + j * 2 + 1, none⟩ (.string t)) base v (ls.set j (e.1, t)) := by
  obtain ⟨c0, c1⟩ := hcell j e hj
  have hjl := (List.getElem?_eq_some_iff.1 hj).1
  have hget : ∀ (x : Atm) (i : Nat) y, (ls.set j x)[i]? = some y → (i = j ∧ y = x) ∨ (i ≠ j ∧ ls[i]? = some y) := by
    intro x i y hy
    by_cases hij : j = i
    · subst hij
      rw [List.getElem?_set_self hjl] at hy
      exact .inl ⟨rfl, (Option.some.inj hy).symm⟩
    · rw [List.getElem?_set_ne hij] at hy
      exact .inr ⟨fun e => hij e.symm, hy⟩
  refine ⟨⟨g, o, cap, by rw [List.length_set]; exact hv, by rw [List.length_set]; exact hc, hb, by rw [World.size_setCell]; exact hl, fun i => by rw [World.frozen?_setCell]; exact hf i, fun i y hy => ?_⟩, ⟨g, o, cap, by rw [List.length_set]; exact hv, by rw [List.length_set]; exact hc, hb, by rw [World.size_setCell]; exact hl, fun i => by rw [World.frozen?_setCell]; exact hf i, fun i y hy => ?_⟩⟩
  · rcases hget _ i y hy with ⟨rfl, rfl⟩ | ⟨hne, hy⟩
    · exact ⟨World.cell?_setCell_same _ _ _ c0, by rw [World.cell?_setCell_other _ _ _ _ (by intro e; injection e; omega)]; exact c1⟩
    · obtain ⟨d0, d1⟩ := hcell i y hy
      exact ⟨by rw [World.cell?_setCell_other _ _ _ _ (by intro e; injection e; omega)]; exact d0, by rw [World.cell?_setCell_other _ _ _ _ (by intro e; injection e; omega)]; exact d1⟩
  · rcases hget _ i y hy with ⟨rfl, rfl⟩ | ⟨hne, hy⟩
    · exact ⟨by rw [World.cell?_setCell_other _ _ _ _ (by intro e; injection e; omega)]; exact c0, World.cell?_setCell_same _ _ _ c1⟩
    · obtain ⟨d0, d1⟩ := hcell i y hy
      exact ⟨by rw [World.cell?_setCell_other _ _ _ _ (by intro e; injection e; omega)]; exact d0, by rw [World.cell?_setCell_other _ _ _ _ (by intro e; injection e; omega)]; exact d1⟩
theorem atCells_get {ls : List Atm} {q : Nat} {x : Value} (h : (atCells ls)[q]? = some x) : ∃ j e, ls[j]? = some e ∧ ((q = j * 2 ∧ x = .int .i64 e.1) ∨ (q = j * 2 + 1 ∧ x = .string e.2)) := by
  have hq : q < ls.length * 2 := by
    rcases Nat.lt_or_ge q (ls.length * 2) with h' | h'
    · exact h'
    · rw [List.getElem?_eq_none (by rw [atCells_len]; exact h')] at h; cases h
  have hj : q / 2 < ls.length := by omega
  obtain ⟨e, he⟩ : ∃ e, ls[q / 2]? = some e := ⟨_, List.getElem?_eq_getElem hj⟩
  obtain ⟨h0, h1⟩ := atCells_at ls _ e he
  refine ⟨q / 2, e, he, ?_⟩
  rcases Nat.mod_two_eq_zero_or_one q with hm | hm
  · have e1 : q / 2 * 2 = q := by omega
    rw [e1] at h0
    exact .inl ⟨e1.symm, Option.some.inj (h.symm.trans h0)⟩
  · have e1 : q / 2 * 2 + 1 = q := by omega
    rw [e1] at h1
    exact .inr ⟨e1.symm, Option.some.inj (h.symm.trans h1)⟩
theorem atCells_one (ls : List Atm) : ∀ u ∈ atCells ls, u.oneCell' = true := by
  intro u hu
  unfold atCells at hu
  obtain ⟨e, _, he⟩ := List.mem_flatMap.1 hu
  simp at he
  rcases he with rfl | rfl <;> rfl
theorem atCells_app (ls ms : List Atm) : atCells (ls ++ ms) = atCells ls ++ atCells ms := by unfold atCells; rw [List.flatMap_append]
theorem atCells_mem {w : World} {g o : Nat} {ls : List Atm} (h : ∀ j e, ls[j]? = some e → w.cell? ⟨g, o + j * 2, none⟩ = some (.int .i64 e.1) ∧ w.cell? ⟨g, o + j * 2 + 1, none⟩ = some (.string e.2)) : ∀ (j : Nat) x, (atCells ls)[j]? = some x → w.cell? ((⟨g, o, none⟩ : Addr).add j) = some x := by
  intro q x hq
  rw [Addr.add_lit]
  obtain ⟨j, e, he, ⟨rfl, rfl⟩ | ⟨rfl, rfl⟩⟩ := atCells_get hq
  · exact (h j e he).1
  · exact (h j e he).2
def smF (ls : List Atm) : Prop := 1 ≤ ls.length ∧ ls.length ≤ 11 ∧ ∀ e ∈ ls, e.2.size ≤ 16
theorem smF_drop (r : Nat) (hr : r < 4) : smF (dFs.drop r) := by
  refine ⟨by rw [List.length_drop]; show 1 ≤ 4 - r; omega, by rw [List.length_drop]; show 4 - r ≤ 11; omega, fun e he => ?_⟩
  have := List.mem_of_mem_drop he
  unfold dFs at this
  simp at this
  rcases this with rfl | rfl | rfl | rfl <;> decide
theorem smF_set {ls : List Atm} (h : smF ls) (j : Nat) (e : Atm) (he : e.2.size ≤ 16) : smF (ls.set j e) := by
  obtain ⟨h1, h2, h3⟩ := h
  refine ⟨by rw [List.length_set]; exact h1, by rw [List.length_set]; exact h2, fun x hx => ?_⟩
  rcases List.mem_or_eq_of_mem_set hx with hx | rfl
  · exact h3 x hx
  · exact he
theorem grown_belowF {w w1 w2 : World} {B : Nat} (h : w.grownBy w1 (some B)) (hb : Below w.heap.size w1 w2) : w.grownBy w2 (some B) :=
  ⟨hb.os.trans h.os, hb.tape.trans h.tape, hb.output.trans h.output, Nat.le_trans h.size hb.size, fun k hk hne => (hb.block k hk).trans (h.block k hk hne)⟩
def DFs (base : Nat) (w' : World) (r : Ending) : Prop := ∃ v ls, r = .returned v ∧ AtF w' base v ls ∧ smF ls
end Go.Proofs.YtnpiphkglhcifaaGreat

namespace Go.Proofs.YtnpiphkglhcifaaGreat
set_option maxRecDepth 100000
open Go.RowKit

end Go.Proofs.YtnpiphkglhcifaaGreat

namespace Go.Proofs.YtnpiphkglhcifaaGreat
set_option maxRecDepth 100000
open Go.RowKit

def DF1 (r : Ending) : Prop := ∃ (k : Int) (t : ByteArray), r = .returned (atV k t) ∧ t.size ≤ 16
theorem fd_box (w : World) (x y : Value) (T : TypeId) : (w.alloc (.cells #[x, y] T)).heap[w.heap.size]? = some (.cells #[x, y] T (0, 0)) := heap_alloc_new w _
end Go.Proofs.YtnpiphkglhcifaaGreat

namespace Go.Proofs.YtnpiphkglhcifaaGreat
set_option maxRecDepth 100000
open Go.RowKit

/-- A drawn outline and a drawn fold. -/
def DOF (base : Nat) (w' : World) (r : Ending) : Prop := ∃ (v : Value) (xs : List Int) (k : Int) (t : ByteArray), r = .returned (.tuple #[v, atV k t]) ∧ IntsM w' v xs ∧ xs.length ≤ 8 ∧ t.size ≤ 16 ∧ ∀ b, v.ownBlock = some b → base ≤ b
/-- A world in which a fold's box is seen. -/
structure SeenF (D : Nat) (k : Int) (t : ByteArray) where
  world : World
  c0 : world.cell? ⟨D, 0, none⟩ = some (.int .i64 k)
  c1 : world.cell? ⟨D, 1, none⟩ = some (.string t)
end Go.Proofs.YtnpiphkglhcifaaGreat

namespace Go.Proofs.YtnpiphkglhcifaaGreat
set_option maxRecDepth 100000
open Go.RowKit

theorem results_dt3 {fn : Func} {p u x : Tmp} (h : fn.results = #[.cell p 26, .tmp u, .tmp x]) (tmps : Array Value) (w : World) (g : Nat) (v : Value)
    (hp : tmps.getD p undef = .pointer (some ⟨g, 0, none⟩)) (hg : BoxV w g 26 v) :
    (results fn tmps).run Tryz.prog w = .ok (.tuple #[dV v, tmps.getD u undef, tmps.getD x undef]) w := by
  have hr := run_loadVar_row (P := Tryz.prog) w g _ 26 _ _ _ hg Tryz.underlying26 rfl (by kernel_rfl)
  have hp' : tmps[p]?.getD undef = .pointer (some ⟨g, 0, none⟩) := by simpa using hp
  simp [results, h, hp', asAddr, hr, Result.andThen, dV]
/-- A drawn dictionary, drawn folds and a drawn outline. -/
def DLf (base : Nat) (w' : World) (r : Ending) : Prop := ∃ (v : Value) (us : List (Value × Ent)) (fv : Value) (fs : List Atm) (u : Value) (xs : List Int), r = .returned (.tuple #[dV v, fv, u]) ∧
  Rows w' base v us ∧ us.length ≤ 60 ∧ (∀ p ∈ us, p.2.1.length ≤ 8 ∧ p.2.2.size ≤ 60) ∧ AtF w' base fv fs ∧ smF fs ∧ IntsM w' u xs ∧ xs.length ≤ 8
theorem AtF.mono {w : World} {base base' : Nat} {v : Value} {ls : List Atm} (h : AtF w base v ls) (hb : base' ≤ base) : AtF w base' v ls := by
  obtain ⟨g, o, cap, hv, hc, hbg, hr⟩ := h
  exact ⟨g, o, cap, hv, hc, Nat.le_trans hb hbg, hr⟩
/-- What has been drawn, while the outline and perhaps another dictionary are drawn. -/
structure DL (w wx : World) (D : Nat) (v : Value) (us : List (Value × Ent)) (fv : Value) (fs : List Atm) (u : Value) (xs : List Int) (N : Nat) : Prop where
  box : BoxV wx D 26 v
  res : BoxV wx w.heap.size 26 (.slice none 0 0)
  rows : Rows wx (w.heap.size + 2) v us
  folds : AtF wx (D + 1) fv fs
  outl : IntsM wx u xs
  outB : ∀ b, u.ownBlock = some b → D < b
  cur : Cur wx (w.heap.size + 1) N
  low : Below w.heap.size w wx
  hD : w.heap.size + 1 < D
  hDs : D < wx.heap.size
theorem DL.keep {w wx wy : World} {D N N' : Nat} {v fv u : Value} {us : List (Value × Ent)} {fs : List Atm} {xs : List Int} (h : DL w wx D v us fv fs u xs N) (hg : wx.grownBy wy (some (w.heap.size + 1))) (hc : Cur wy (w.heap.size + 1) N') : DL w wy D v us fv fs u xs N' :=
  ⟨h.box.keep hg h.hD, h.res.grown hg (by simp), h.rows.keep hg (by omega), h.folds.keep hg (by have := h.hD; omega), ints_grown h.outl hg (fun j hj e => by have := h.outB j hj; have := h.hD; injection e with e; omega), h.outB, hc, h.low.grown hg h.low.size (fun b e => by injection e with e; omega), h.hD, Nat.lt_of_lt_of_le h.hDs hg.size⟩
/-- Another dictionary in the box. -/
theorem DL.put {w wx : World} {D N base : Nat} {v v' fv u : Value} {us us' : List (Value × Ent)} {fs : List Atm} {xs : List Int} (h : DL w wx D v us fv fs u xs N) (hr : Rows wx base v' us') (hb : D < base) : DL w (wx.setCell ⟨D, 0, none⟩ v') D v' us' fv fs u xs N :=
  ⟨h.box.set v', h.res.other (by have := h.hD; omega), (hr.setCell hb).mono (by have := h.hD; omega), h.folds.keep (grown_setC wx D 0 v') (by omega), ints_grown h.outl (grown_setC wx D 0 v') (fun j hj e => by have := h.outB j hj; injection e with e; omega), h.outB, h.cur.setCellA (by have := h.hD; omega) _ _, h.low.setCell (p := ⟨D, 0, none⟩) (by have := h.hD; show w.heap.size ≤ D; omega) _, h.hD, Nat.lt_of_lt_of_le h.hDs (grown_setC wx D 0 v').size⟩
/-- The dictionary in the result's box. -/
theorem DL.fin {w wx : World} {D N : Nat} {v fv u : Value} {us : List (Value × Ent)} {fs : List Atm} {xs : List Int} (h : DL w wx D v us fv fs u xs N) :
    BoxV (wx.setCell ⟨w.heap.size, 0, none⟩ v) w.heap.size 26 v ∧ Rows (wx.setCell ⟨w.heap.size, 0, none⟩ v) w.heap.size v us ∧ AtF (wx.setCell ⟨w.heap.size, 0, none⟩ v) w.heap.size fv fs ∧ IntsM (wx.setCell ⟨w.heap.size, 0, none⟩ v) u xs ∧ Below w.heap.size w (wx.setCell ⟨w.heap.size, 0, none⟩ v) :=
  ⟨h.res.set v, (h.rows.setCell (by omega)).mono (by omega), (h.folds.keep (grown_setC wx w.heap.size 0 v) (by have := h.hD; omega)).mono (by have := h.hD; omega), ints_grown h.outl (grown_setC wx w.heap.size 0 v) (fun j hj e => by have := h.outB j hj; have := h.hD; injection e with e; omega), h.low.setCell (p := ⟨w.heap.size, 0, none⟩) (Nat.le_refl _) _⟩
end Go.Proofs.YtnpiphkglhcifaaGreat

namespace Go.Proofs.YtnpiphkglhcifaaGreat
set_option maxRecDepth 100000
open Go.RowKit

/-- A drawn list of at most L ints. -/
def DrawnL (base L : Nat) (w' : World) (e : Ending) : Prop := ∃ (v : Value) (xs : List Int), e = .returned v ∧ w'.ownsRow base 3 1 v xs.length (xs.map (.int .i64)) ∧ xs.length ≤ L
set_option maxHeartbeats 4000000 in
theorem strokes_any (B N base : Nat) (v : Value) (us : List (Value × Ent)) (w : World) (h : Cur w B N) (hr : Rows w base v us) (hB : B < base) (hl : us.length ≤ 60) (hs : ∀ p ∈ us, p.2.1.length ≤ 8 ∧ p.2.2.size ≤ 60) (hN : N ≤ 600000) :
    Calls Tryz.prog 40 #[.pointer (some ⟨B, 0, none⟩), dV v] w fun r w' => DrawnL w.heap.size 40 w' r ∧ Cur w' B (N + 300) ∧ w.grownBy w' (some B) := by
  obtain ⟨i0, hi, hz0, hz1, hz2⟩ := info_parts infoInt
  have CP := Lib.hid (fun N n w h hN h0 h1 => pick_any B N n w h hN h0 h1)
  have C1 := Lib.hid (fun N n w h hN h0 h1 => one_any B N n w h hN h0 h1)
  have CF := Lib.hid (fun N w h hN => few_any B N w h hN)
  unfold DrawnL
  have hlt := h.lt
  obtain ⟨va, vc, hvf⟩ := hr.form
  obtain ⟨ul, hul⟩ : ∃ ul, ul = us.length := ⟨_, rfl⟩
  have HUL := Lib.hid hul
  rw [← hul] at hvf hl
  subst hvf
  unfold dV
  obtain ⟨w0, hw0⟩ : ∃ W, W = w.alloc (.cells #[.slice va ul vc] 26) := ⟨_, rfl⟩
  have hb0 : Below w.heap.size w w0 := by rw [hw0]; exact below_al _ _
  have X0 : Hid (BoxV w0 w.heap.size 26 (.slice va ul vc)) := by rw [hw0]; exact BoxV.new _ _ _
  have R0 := Lib.hid (hr.below hb0)
  have HW0 := Lib.hid hw0
  have HG0 : Hid (w.grownBy w0 (some B)) := ⟨hb0.os, hb0.tape, hb0.output, hb0.size, fun k hk _ => hb0.block k hk⟩
  have hs0 : w0.heap.size = w.heap.size + 1 := by rw [hw0]; simp
  have hlt0 : B < w0.heap.size := by omega
  have C0 := Lib.hid ((h.below hb0).below (below_al w0 (.cells #[] 3)))
  have hal := below_al w0 (.cells #[] 3)
  have HGa : Hid (w0.grownBy (w0.alloc (.cells #[] 3)) (some B)) := ⟨hal.os, hal.tape, hal.output, hal.size, fun k hk _ => hal.block k hk⟩
  have HO0 := Lib.hid (row_new w0 3)
  clear h hr hb0 hal hul
  go_enter Tryz.func40, Tryz.ntmps40
  go_wp2_with fail
  rw [← HW0.out, ← hs0]
  have HS0 := Lib.hid hs0
  clear hw0 hs0
  refine (CP.out _ _ _ C0.out (by omega) (by omega) (by omega)).mono ?_
  rintro e w1 ⟨⟨r, r0, r1, rfl⟩, hc1, hg1⟩
  obtain ⟨R, rfl⟩ := Int.eq_ofNat_of_zero_le r0
  have HC1 := Lib.hid hc1
  have HG1 : Hid (w0.grownBy w1 (some B)) := Lib.hid (Lib.grownBy_trans HGa.out hg1)
  have HO1 := Lib.hid (own_keepI HO0.out hg1 hlt0)
  clear hc1 hg1 HO0 HGa C0
  go_wp2_with fail
  go_loopw [5, 6] (fun l i wr => ∃ (k : Nat) (xs : List Int), i = .int .i64 k ∧ k ≤ 5 ∧ xs.length + 8 * k ≤ 40 ∧ Hid (wr.ownsRow w0.heap.size 3 1 l xs.length (xs.map (.int .i64))) ∧ Hid (Cur wr B (N + 300 - 20 * k)) ∧ Hid (w0.grownBy wr (some B))) (fun _ i _ => (intOf i).toNat)
  case atStart => exact ⟨R, [], rfl, by omega, by simp; omega, HO1, HC1.out.mono (by omega), HG1⟩
  case round =>
    obtain ⟨k, xs, rfl, hk, hlen, HO, HC, HG⟩ := hrel
    clear HO1 HC1 HG1
    by_cases hpos : 0 < k
    · have hpos' : (0 : Int) < (k : Int) := by omega
      have XR := Lib.hid (X0.out.keep HG.out hlt)
      have RR := Lib.hid (R0.out.keep HG.out hB)
      have cX := XR.out.cell
      rcases Nat.eq_zero_or_pos ul with hn0 | h0
      · subst hn0
        have HC3 : Hid (Cur wr B (N + 300 - 20 * k + 2)) := Lib.hid (HC.out.mono (by omega))
        have HG3 := HG
        have HO3 := HO
        clear HC HG HO XR RR
        go_wp2_with fail
        refine (CF.out _ _ HC3.out (by omega)).mono ?_
        rintro e w4 ⟨⟨m, hm, rfl⟩, hc4, hg4⟩
        have HC4 := Lib.hid hc4
        have HG4 := Lib.hid (Lib.grownBy_trans HG3.out hg4)
        have HO4 := Lib.hid (own_keepI HO3.out hg4 hlt0)
        have hsz4 := HG4.out.size
        clear hc4 hg4 HC3 HG3 HO3
        go_wp2_with (at_builtin; refine push_int hi hz0 hz1 hz2 rfl _ _ rfl w0.heap.size _ xs rfl HO4.out (m : Int) rfl hsz4 (by omega) ?_)
        intro v' w5 hown hg5 _
        have HO5 : Hid (w5.ownsRow w0.heap.size 3 1 v' (xs ++ [(m : Int)]).length ((xs ++ [(m : Int)]).map (.int .i64))) := by
          show World.ownsRow _ _ _ _ _ _ _
          rw [List.length_append, List.map_append]; exact hown
        have HC5 := Lib.hid (HC4.out.own hg5 (fun j hj => by have := row_ge HO4.out hj; omega))
        have HG5 := Lib.hid (grown_own HG4.out hg5 (fun j hj => row_ge HO4.out hj))
        clear hown hg5 HC4 HG4 HO4
        go_wp2
        go_roundw
        case rel => exact ⟨k - 1, xs ++ [(m : Int)], by first | go_num | (congr 1; omega), by omega, by rw [List.length_append]; simp; omega, HO5, HC5.out.mono (by omega), HG5⟩
        case measure => simp [intOf]; omega
      · have hnp : (0 : Int) < (ul : Int) := by omega
        go_wp2_with fail
        refine (C1.out _ _ _ HC.out (by omega) (by omega) (by omega)).mono ?_
        rintro e w3 ⟨⟨b, rfl⟩, hc3, hg3⟩
        have HC3 := Lib.hid hc3
        have HG3 := Lib.hid (Lib.grownBy_trans HG.out hg3)
        have HO3 := Lib.hid (own_keepI HO.out hg3 hlt0)
        have X3 := Lib.hid (X0.out.keep HG3.out hlt)
        have R3 := Lib.hid (R0.out.keep HG3.out hB)
        clear hc3 hg3 HO HC HG XR RR cX
        cases b
        · obtain ⟨g, cap, hv, hcap, hgl, hcells⟩ := R3.out.cells (by have := HUL.out; omega)
          rw [← HUL.out] at hv hcap
          injection hv with hva hvn hvc
          subst hva hvc
          have cD := X3.out.cell
          have kD : ∀ p : SeenR w.heap.size (.slice (some ⟨g, 0, none⟩) ul vc) g us, p.world.cell? ⟨w.heap.size, 0, none⟩ = some (.slice (some ⟨g, 0, none⟩) ul vc) := fun p => p.cell
          have HS1 : Hid (∃ p : SeenR w.heap.size (.slice (some ⟨g, 0, none⟩) ul vc) g us, w3.drew = p.world) := ⟨⟨w3.drew, X3.out.cell, fun j p hp => (hcells j p hp).1⟩, rfl⟩
          go_wp2_with fail
          refine Mx.wp_region_mix (S := fun w' => ∃ p : SeenR w.heap.size (.slice (some ⟨g, 0, none⟩) ul vc) g us, w' = p.world) (Mx.ofL [(0, 0), (1, 0), (2, 1), (3, 0), (4, 0), (5, 1), (6, 0), (7, 2), (8, 0), (9, 0), (10, 1), (11, 3), (12, 0)] .done) (by kernel_rfl) (by kernel_rfl) HS1.out ?_
          repeat ((first | refine Mx.mix0 rfl ?_ | refine Mx.mix1 rfl ?_); go_big_quiet_step (rfl); refine wpQuiet_nil ?_)
          refine Mx.mix2 rfl ?_
          clear cD kD
          have hdr : Below w3.heap.size w3 w3.drew := below_drew1 (Below.refl _ _)
          go_wp2_with fail
          refine (CP.out _ _ w3.drew (HC3.out.below hdr) (by omega) (by omega) (by omega)).mono ?_
          rintro r w4 ⟨⟨q, q0, q1, rfl⟩, hc4, hg4⟩
          obtain ⟨j, rfl⟩ := Int.eq_ofNat_of_zero_le q0
          have hj : j < us.length := by have := HUL.out; omega
          have hju : j < ul := by omega
          obtain ⟨p, hp⟩ : ∃ p, us[j]? = some p := ⟨_, List.getElem?_eq_getElem hj⟩
          have hgd : w3.grownBy w3.drew (some B) := ⟨hdr.os, hdr.tape, hdr.output, hdr.size, fun k hk _ => hdr.block k hk⟩
          have HG4 := Lib.hid (Lib.grownBy_trans (Lib.grownBy_trans HG3.out hgd) hg4)
          have X4 := Lib.hid (X0.out.keep HG4.out hlt)
          have R4 := Lib.hid (R0.out.keep HG4.out hB)
          have HC4 := Lib.hid hc4
          have HO4 := Lib.hid (own_keepI HO3.out (Lib.grownBy_trans hgd hg4) hlt0)
          obtain ⟨g', cap', hv', _, _, hcells'⟩ := R4.out.cells (by omega)
          injection hv' with hva' hvn' hvc'
          injection hva' with hva'
          injection hva' with hva'
          subst hva' hvc'
          have HS3 : Hid (∃ p : SeenR w.heap.size (.slice (some ⟨g, 0, none⟩) ul vc) g us, w4 = p.world) := ⟨⟨w4, X4.out.cell, fun j p hp => (hcells' j p hp).1⟩, rfl⟩
          have kR : ∀ s : SeenR w.heap.size (.slice (some ⟨g, 0, none⟩) ul vc) g us, s.world.cell? ⟨g, j * 2, none⟩ = some p.1 := fun s => s.row j p hp
          have hi2 : IntsM w4 p.1 p.2.1 := (R4.out.ints p (List.mem_of_getElem? hp)).1
          have hpl := (hs p (List.mem_of_getElem? hp)).1
          have HI := Lib.hid hi2
          have hsz4 := HG4.out.size
          clear hc4 hg4 hdr hgd hcells hcells' hvn hvn' X3 R3 HC3 HG3 HS1 hi2 hp hs HO3
          go_wp2
          refine Mx.mid_normal (fun _ => HS3.out) ?_
          repeat ((first | refine Mx.mix0 rfl ?_ | refine Mx.mix1 rfl ?_); go_big_quiet_step (rfl); refine wpQuiet_nil ?_)
          refine Mx.mix3 rfl ?_
          clear kR
          go_wp2_with (at_builtin; refine append_ints hi hz0 hz1 hz2 rfl _ _ rfl w0.heap.size _ xs rfl HO4.out p.1 p.2.1 rfl HI.out hsz4 (by omega) (by omega) ?_)
          intro v' w5 hown hg5
          have HO5 : Hid (w5.ownsRow w0.heap.size 3 1 v' (xs ++ p.2.1).length ((xs ++ p.2.1).map (.int .i64))) := by
            show World.ownsRow _ _ _ _ _ _ _
            rw [List.length_append, List.map_append]; exact hown
          have HC5 := Lib.hid (HC4.out.own hg5 (fun j hj => by have := row_ge HO4.out hj; omega))
          have HG5 := Lib.hid (grown_own HG4.out hg5 (fun j hj => row_ge HO4.out hj))
          clear hown hg5 HC4 HG4 HO4 X4 R4 HI HS3
          refine Mx.mid_normal (fun q => by cases q) ?_
          repeat ((first | refine Mx.mix0 rfl ?_ | refine Mx.mix1 rfl ?_); go_big_quiet_step (rfl); refine wpQuiet_nil ?_)
          refine Mx.mix_nil ?_
          go_wp2
          go_roundw
          case rel => exact ⟨k - 1, xs ++ p.2.1, by first | go_num | (congr 1; omega), by omega, by rw [List.length_append]; omega, HO5, HC5.out.mono (by omega), HG5⟩
          case measure => simp [intOf]; omega
        · clear X3 R3
          go_wp2_with fail
          refine (CF.out _ _ HC3.out (by omega)).mono ?_
          rintro e w4 ⟨⟨m, hm, rfl⟩, hc4, hg4⟩
          have HC4 := Lib.hid hc4
          have HG4 := Lib.hid (Lib.grownBy_trans HG3.out hg4)
          have HO4 := Lib.hid (own_keepI HO3.out hg4 hlt0)
          have hsz4 := HG4.out.size
          clear hc4 hg4 HC3 HG3 HO3
          go_wp2_with (at_builtin; refine push_int hi hz0 hz1 hz2 rfl _ _ rfl w0.heap.size _ xs rfl HO4.out (m : Int) rfl hsz4 (by omega) ?_)
          intro v' w5 hown hg5 _
          have HO5 : Hid (w5.ownsRow w0.heap.size 3 1 v' (xs ++ [(m : Int)]).length ((xs ++ [(m : Int)]).map (.int .i64))) := by
            show World.ownsRow _ _ _ _ _ _ _
            rw [List.length_append, List.map_append]; exact hown
          have HC5 := Lib.hid (HC4.out.own hg5 (fun j hj => by have := row_ge HO4.out hj; omega))
          have HG5 := Lib.hid (grown_own HG4.out hg5 (fun j hj => row_ge HO4.out hj))
          clear hown hg5 HC4 HG4 HO4
          go_wp2
          go_roundw
          case rel => exact ⟨k - 1, xs ++ [(m : Int)], by first | go_num | (congr 1; omega), by omega, by rw [List.length_append]; simp; omega, HO5, HC5.out.mono (by omega), HG5⟩
          case measure => simp [intOf]; omega
    · obtain rfl : k = 0 := by omega
      have HGf := Lib.hid (Lib.grownBy_trans HG0.out HG.out)
      have HOf := Lib.hid (ownsRow_mono HO.out (by have := HS0.out; omega : w.heap.size ≤ w0.heap.size))
      clear HO HG HG0
      go_wp2
      go_ret
      exact ⟨⟨_, xs, rfl, HOf.out, by omega⟩, HC.out.mono (by omega), HGf.out⟩
set_option maxHeartbeats 4000000 in
theorem anyStrokes_any (B N base : Nat) (v : Value) (us : List (Value × Ent)) (w : World) (h : Cur w B N) (hr : Rows w base v us) (hB : B < base) (hl : us.length ≤ 60) (hs : ∀ p ∈ us, p.2.1.length ≤ 8 ∧ p.2.2.size ≤ 60) (hN : N ≤ 500000) :
    Calls Tryz.prog 23 #[.pointer (some ⟨B, 0, none⟩), dV v] w fun r w' => DrawnL w.heap.size 61 w' r ∧ Cur w' B (N + 2000) ∧ w.grownBy w' (some B) := by
  obtain ⟨i0, hi, hz0, hz1, hz2⟩ := info_parts infoInt
  have CP := Lib.hid (fun N n w h hN h0 h1 => pick_any B N n w h hN h0 h1)
  have CF := Lib.hid (fun N w h hN => few_any B N w h hN)
  have CA := Lib.hid (fun N w h hN => anyStroke_any B N w h hN)
  have cs := fun N w h hr hN => strokes_any B N base v us w h hr hB hl hs hN
  unfold DrawnL at cs ⊢
  have hlt := h.lt
  obtain ⟨va, vc, hvf⟩ := hr.form
  obtain ⟨ul, hul⟩ : ∃ ul, ul = us.length := ⟨_, rfl⟩
  rw [← hul] at hvf
  subst hvf
  unfold dV at cs ⊢
  have CS := Lib.hid cs
  have hb0 := below_al w (.cells #[.slice va ul vc] 26)
  have C0 := Lib.hid (h.below hb0)
  have R0 := Lib.hid (hr.below hb0)
  have HG0 : Hid (w.grownBy (w.alloc (.cells #[.slice va ul vc] 26)) (some B)) := ⟨hb0.os, hb0.tape, hb0.output, hb0.size, fun k hk _ => hb0.block k hk⟩
  clear h hr hb0 hul cs hs
  go_enter Tryz.func23, Tryz.ntmps23
  go_wp2_with fail
  refine (CS.out _ _ C0.out R0.out (by omega)).mono ?_
  rintro r w1 ⟨⟨y, xs, rfl, ho, hxl⟩, hc1, hg1⟩
  have HC1 := Lib.hid hc1
  have HG1 := Lib.hid (Lib.grownBy_trans HG0.out hg1)
  have HO1 := Lib.hid (ownsRow_mono ho (by simp : w.heap.size ≤ (w.alloc (.cells #[.slice va ul vc] 26)).heap.size))
  clear ho hc1 hg1 CS C0 R0 HG0
  go_wp2_with fail
  refine (CP.out _ _ w1 HC1.out (by omega) (by omega) (by omega)).mono ?_
  rintro r w2 ⟨⟨q, q0, q1, rfl⟩, hc2, hg2⟩
  have HCa := Lib.hid hc2
  have HGb := Lib.hid (Lib.grownBy_trans HG1.out hg2)
  have HOb := Lib.hid (own_keepI HO1.out hg2 hlt)
  clear hc2 hg2 HC1 HG1 HO1
  by_cases h0 : q = 0
  · subst h0
    go_wp2_with fail
    refine (CA.out _ w2 HCa.out (by omega)).mono ?_
    rintro r w3 ⟨⟨x, rfl⟩, hc3, hg3⟩
    have HOa := Lib.hid (own_keepI HOb.out hg3 hlt)
    have HGa := Lib.hid (Lib.grownBy_trans HGb.out hg3)
    have HCa := Lib.hid hc3
    have hsza := HGa.out.size
    clear hc3 hg3 HOb HGb
    go_wp2_with (at_builtin; refine push_int hi hz0 hz1 hz2 rfl _ _ rfl w.heap.size _ xs rfl HOa.out x rfl hsza (by omega) ?_)
    intro v' w5 hown hg5 _
    have HO5 : Hid (w5.ownsRow w.heap.size 3 1 v' (xs ++ [x]).length ((xs ++ [x]).map (.int .i64))) := by
      show World.ownsRow _ _ _ _ _ _ _
      rw [List.length_append, List.map_append]; exact hown
    have HC5 := Lib.hid (HCa.out.own hg5 (fun j hj => by have := row_ge HOa.out hj; omega))
    have HG5 := Lib.hid (grown_own HGa.out hg5 (fun j hj => row_ge HOa.out hj))
    clear hown hg5 HCa HGa HOa
    go_wp2
    go_ret
    exact ⟨⟨_, xs ++ [x], rfl, HO5.out, by rw [List.length_append, List.length_singleton]; omega⟩, HC5.out.mono (by omega), HG5.out⟩
  · by_cases h1 : q = 1
    · subst h1
      go_wp2_with fail
      have hxs : xs.length ≤ 61 := by omega
      have HCm : Hid (Cur w2 B (N + 400 + 10 * xs.length)) := Lib.hid (HCa.out.mono (by omega))
      clear HCa hxl
      go_loopw [5] (fun l wr => ∃ xs : List Int, xs.length ≤ 61 ∧ Hid (wr.ownsRow w.heap.size 3 1 l xs.length (xs.map (.int .i64))) ∧ Hid (Cur wr B (N + 400 + 10 * xs.length)) ∧ Hid (w.grownBy wr (some B))) (fun l _ => (match l with | .slice _ n _ => 62 - n | _ => 0))
      case atStart => exact ⟨xs, hxs, HOb, HCm, HGb⟩
      case round =>
        obtain ⟨xs, hxs, HO, HC, HG⟩ := hrel
        obtain ⟨la, lc, hle⟩ : ∃ a c, u5 = .slice a xs.length c := by
          rcases HO.out.2 with ⟨rfl, h0⟩ | ⟨g, cap, cur, rfl, _⟩
          · exact ⟨none, 0, by rw [h0]⟩
          · exact ⟨_, _, rfl⟩
        subst hle
        clear HOb HCm HGb
        go_wp2_with fail
        refine (CP.out _ _ wr HC.out (by omega) (by omega) (by omega)).mono ?_
        rintro r w3 ⟨⟨q2, q20, q21, rfl⟩, hc3, hg3⟩
        have HC3 := Lib.hid hc3
        have HG3 := Lib.hid (Lib.grownBy_trans HG.out hg3)
        have HO3 := Lib.hid (own_keepI HO.out hg3 hlt)
        clear hc3 hg3 HC HG HO
        by_cases hlt2 : (xs.length : Int) < 60 + q2
        · go_wp2_with fail
          refine (CF.out _ w3 HC3.out (by omega)).mono ?_
          rintro r w4 ⟨⟨m, hm, rfl⟩, hc4, hg4⟩
          have HCa := Lib.hid hc4
          have HGa := Lib.hid (Lib.grownBy_trans HG3.out hg4)
          have HOa := Lib.hid (own_keepI HO3.out hg4 hlt)
          have hsza := HGa.out.size
          clear hc4 hg4 HC3 HG3 HO3
          go_wp2_with (at_builtin; refine push_int hi hz0 hz1 hz2 rfl _ _ rfl w.heap.size _ xs rfl HOa.out (m : Int) rfl hsza (by omega) ?_)
          intro v' w5 hown hg5 _
          have HO5 : Hid (w5.ownsRow w.heap.size 3 1 v' (xs ++ [(m : Int)]).length ((xs ++ [(m : Int)]).map (.int .i64))) := by
            show World.ownsRow _ _ _ _ _ _ _
            rw [List.length_append, List.map_append]; exact hown
          have HC5 := Lib.hid (HCa.out.own hg5 (fun j hj => by have := row_ge HOa.out hj; omega))
          have HG5 := Lib.hid (grown_own HGa.out hg5 (fun j hj => row_ge HOa.out hj))
          obtain ⟨va', vc', hve⟩ : ∃ a c, v' = .slice a (xs.length + 1) c := by
            rcases HO5.out.2 with ⟨rfl, h0⟩ | ⟨g, cap, cur, rfl, _⟩
            · rw [List.length_append] at h0; simp at h0
            · exact ⟨_, _, by rw [List.length_append]; rfl⟩
          subst hve
          clear hown hg5 HCa HGa HOa
          go_wp2
          go_roundw
          case rel => exact ⟨xs ++ [(m : Int)], by rw [List.length_append, List.length_singleton]; omega, HO5, HC5.out.mono (by rw [List.length_append, List.length_singleton]; omega), HG5⟩
          case measure => first | omega | (simp; omega)
        · go_wp2
          go_ret
          exact ⟨⟨_, xs, rfl, HO3.out, by omega⟩, HC3.out.mono (by omega), HG3.out⟩
    · go_wp2
      go_ret
      exact ⟨⟨_, xs, rfl, HOb.out, by omega⟩, HCa.out.mono (by omega), HGb.out⟩
/-- A drawn dictionary and a drawn list of at most L ints. -/
def DPairL (base L : Nat) (w' : World) (r : Ending) : Prop := ∃ (v : Value) (us : List (Value × Ent)) (u : Value) (xs : List Int), r = .returned (.tuple #[dV v, u]) ∧ Rows w' base v us ∧ us.length ≤ 60 ∧ (∀ p ∈ us, p.2.1.length ≤ 8 ∧ p.2.2.size ≤ 60) ∧ IntsM w' u xs ∧ xs.length ≤ L
set_option maxHeartbeats 4000000 in
theorem drawSegment_any (a : Option Addr) (n cap : Nat) (w : World) (h : CodeAt w a n) :
    Calls Tryz.prog 15 #[.slice a n cap] w fun r w' => DPairL w.heap.size 61 w' r ∧ Below w.heap.size w w' := by
  have cd := fun B N w h hN => anyDictionary_any B N w h hN
  have ck := fun B N base v us w h hr hB hl hs hN => anyStrokes_any B N base v us w h hr hB hl hs hN
  unfold DDict dV at cd
  unfold dV DrawnL at ck
  have CD := Lib.hid cd
  have CK := Lib.hid ck
  clear cd ck
  obtain ⟨w0, hw0⟩ : ∃ W, W = (w.alloc (.cells #[.slice none 0 0] 26)).alloc (.cells #[.slice a n cap, .int .i64 0, .int .u64 0] 59) := ⟨_, rfl⟩
  have hb0 : Below w.heap.size w w0 := by rw [hw0]; exact below_al2 _ _ _
  have hs0 : w0.heap.size = w.heap.size + 1 + 1 := by rw [hw0]; simp
  have R0 : Hid (BoxV w0 w.heap.size 26 (.slice none 0 0)) := by rw [hw0]; exact (BoxV.new w _ _).below (below_al _ _) (by simp)
  have C0 : Hid (Cur w0 (w.heap.size + 1) 0) := by
    have e := cur_new (w.alloc (.cells #[.slice none 0 0] 26)) a n cap 59 (h.below (below_al _ _))
    rw [World.size_alloc] at e
    rw [hw0]; exact e
  have HB0 := Lib.hid hb0
  have HW0 := Lib.hid hw0
  clear h hb0 hw0
  go_enter Tryz.func15, Tryz.ntmps15
  go_wp2_with fail
  rw [← HW0.out]
  refine (CD.out _ _ _ C0.out (by omega)).mono ?_
  rintro r w1 ⟨⟨v, us, rfl, hr1, hl1, hx1⟩, hc1, hg1⟩
  obtain ⟨va, vc, hvf⟩ := hr1.form
  subst hvf
  have hs1 : w0.heap.size ≤ w1.heap.size := hg1.size
  have hb1 : Below w.heap.size w w1 := HB0.out.grown hg1 (by omega) (fun b e => by injection e with e; omega)
  obtain ⟨w2, hw2⟩ : ∃ W, W = w1.alloc (.cells #[.slice va us.length vc] 26) := ⟨_, rfl⟩
  have hbA : Below w1.heap.size w1 w2 := by rw [hw2]; exact below_al _ _
  have X2 : Hid (BoxV w2 w1.heap.size 26 (.slice va us.length vc)) := by rw [hw2]; exact BoxV.new _ _ _
  have R2 := Lib.hid ((R0.out.grown hg1 (by simp)).below hbA (by have := R0.out.lt; omega)) 
  have V2 := Lib.hid (hr1.below hbA)
  have C2 := Lib.hid (hc1.below hbA)
  have HB2 := Lib.hid (below_step hb1 hbA)
  have hs2 : w1.heap.size ≤ w2.heap.size := hbA.size
  have HW2 := Lib.hid hw2
  have HX := Lib.hid hx1
  have cX := X2.out.cell
  rw [HW2.out] at cX
  obtain ⟨D, hD⟩ : ∃ D, D = w1.heap.size := ⟨_, rfl⟩
  have cD := X2.out.cell
  have kD : ∀ p : Seen w1.heap.size (.slice va us.length vc), p.world.cell? ⟨w1.heap.size, 0, none⟩ = some (.slice va us.length vc) := fun p => p.cell
  clear hr1 hx1 hc1 hg1 hb1 hbA hw2 hD R0 C0 HB0 HW0 CD
  go_wp2_with fail
  rw [← HW2.out]
  clear cX
  refine Mx.wp_region_mix (S := fun w' => ∃ p : Seen w1.heap.size (.slice va us.length vc), w' = p.world) (Mx.ofL [(0, 1), (1, 0), (2, 1), (3, 2), (4, 3), (5, 0)] .done) (by kernel_rfl) (by kernel_rfl) ⟨⟨w2.drew, X2.out.cell⟩, rfl⟩ ?_
  repeat ((first | refine Mx.mix0 rfl ?_ | refine Mx.mix1 rfl ?_); go_big_quiet_step (rfl); refine wpQuiet_nil ?_)
  refine Mx.mix2 rfl ?_
  clear cD kD
  have hdr : Below w2.heap.size w2 w2.drew := below_drew1 (Below.refl _ _)
  go_wp2_with fail
  refine (CK.out _ _ w0.heap.size _ us w2.drew (C2.out.below hdr) (V2.out.below hdr) (by omega) hl1 HX.out (by omega)).mono ?_
  rintro r w3 ⟨⟨u, xs, rfl, ho, hxl⟩, hc3, hg3⟩
  have X3 := Lib.hid ((X2.out.below hdr X2.out.lt).keep hg3 (by omega))
  have R3 := Lib.hid ((R2.out.below hdr R2.out.lt).grown hg3 (by simp))
  have V3 := Lib.hid ((V2.out.below hdr).keep hg3 (by omega))
  have HI := Lib.hid (row_M ho)
  have HL : Hid (∀ b, u.ownBlock = some b → b ≠ w.heap.size) := fun b hb e => by have := (ho.lt b hb).1; have : w2.heap.size ≤ b := this; omega
  have HB3 : Hid (Below w.heap.size w w3) := (below_step HB2.out hdr).grown hg3 (by show w.heap.size ≤ w2.heap.size; omega) (fun b e => by injection e with e; omega)
  have HC3 := Lib.hid hc3
  obtain ⟨ua, uc, huf⟩ := (ownInts_of ho).form
  subst huf
  have HCell := Lib.hid X3.out.cell
  have cR := R3.out.cell
  have fR := R3.out.frozen
  clear hc3 hg3 hdr ho X2 R2 V2 C2 HB2 HW2 X3
  go_wp2
  refine Mx.mid_normal (fun _ => ⟨⟨_, HCell.out⟩, rfl⟩) ?_
  refine Mx.mix3 rfl ?_
  go_wp2
  refine Mx.mid_normal (fun q => by cases q) ?_
  repeat ((first | refine Mx.mix0 rfl ?_ | refine Mx.mix1 rfl ?_); go_big_quiet_step (rfl); refine wpQuiet_nil ?_)
  refine Mx.mix_nil ?_
  go_wp2
  refine bodyPost_ret (results_dt2 rfl _ _ w.heap.size _ rfl (R3.out.set _)) rfl ?_
  exact ⟨⟨_, us, _, xs, rfl, (V3.out.setCell (by omega)).mono (by omega), hl1, HX.out, HI.out.touch (T := fun b => b = w.heap.size) ((Touch.refl (fun b => b = w.heap.size) _).setCell (g := w.heap.size) rfl _ _) HL.out, hxl⟩, HB3.out.setCell (Nat.le_refl _) _⟩
end Go.Proofs.YtnpiphkglhcifaaGreat

namespace Go.Proofs.YtnpiphkglhcifaaGreat
set_option maxRecDepth 100000
open Go.RowKit
/-- A drawn dictionary, a drawn list of strokes, a drawn place. -/
def DMa (base : Nat) (w' : World) (r : Ending) : Prop := ∃ (v : Value) (us : List (Value × Ent)) (u : Value) (xs : List Int) (i : Int), r = .returned (.tuple #[dV v, u, .int .i64 i]) ∧ Rows w' base v us ∧ us.length ≤ 60 ∧ (∀ p ∈ us, p.2.1.length ≤ 8 ∧ p.2.2.size ≤ 60) ∧ IntsM w' u xs ∧ xs.length ≤ 61
theorem intsM_grown {w w' : World} {u : Value} {xs : List Int} {c : Nat} (h : IntsM w u xs) (hg : w.grownBy w' (some c)) (hc : ∀ b, u.ownBlock = some b → b ≠ c) : IntsM w' u xs := by
  rcases h with h | ⟨bk, o, cap, rfl, hcap, hk, h⟩
  · exact .inl h
  · have hne := hc bk rfl
    refine .inr ⟨bk, o, cap, rfl, hcap, Nat.lt_of_lt_of_le hk hg.size, fun j x hx => ?_⟩
    rw [← h j x hx]
    unfold World.cell?
    rw [hg.block bk hk (by intro e; injection e with e; exact hne e)]
set_option maxHeartbeats 4000000 in
theorem drawMatchAt_any (a : Option Addr) (n cap : Nat) (w : World) (h : CodeAt w a n) :
    Calls Tryz.prog 11 #[.slice a n cap] w fun r w' => DMa w.heap.size w' r ∧ Below w.heap.size w w' := by
  have cd := fun B N w h hN => anyDictionary_any B N w h hN
  have ck := fun B N base v us w h hr hB hl hs hN => anyStrokes_any B N base v us w h hr hB hl hs hN
  unfold DDict dV at cd
  unfold dV DrawnL at ck
  have CD := Lib.hid cd
  have CK := Lib.hid ck
  have CP := Lib.hid (fun B N n w h hN h0 h1 => pick_any B N n w h hN h0 h1)
  clear cd ck
  obtain ⟨w0, hw0⟩ : ∃ W, W = (w.alloc (.cells #[.slice none 0 0] 26)).alloc (.cells #[.slice a n cap, .int .i64 0, .int .u64 0] 59) := ⟨_, rfl⟩
  have hb0 : Below w.heap.size w w0 := by rw [hw0]; exact below_al2 _ _ _
  have hs0 : w0.heap.size = w.heap.size + 1 + 1 := by rw [hw0]; simp
  have R0 : Hid (BoxV w0 w.heap.size 26 (.slice none 0 0)) := by rw [hw0]; exact (BoxV.new w _ _).below (below_al _ _) (by simp)
  have C0 : Hid (Cur w0 (w.heap.size + 1) 0) := by
    have e := cur_new (w.alloc (.cells #[.slice none 0 0] 26)) a n cap 59 (h.below (below_al _ _))
    rw [World.size_alloc] at e
    rw [hw0]; exact e
  have HB0 := Lib.hid hb0
  have HW0 := Lib.hid hw0
  clear h hb0 hw0
  go_enter Tryz.func11, Tryz.ntmps11
  go_wp2_with fail
  rw [← HW0.out]
  refine (CD.out _ _ _ C0.out (by omega)).mono ?_
  rintro r w1 ⟨⟨v, us, rfl, hr1, hl1, hx1⟩, hc1, hg1⟩
  obtain ⟨va, vc, hvf⟩ := hr1.form
  subst hvf
  have hs1 : w0.heap.size ≤ w1.heap.size := hg1.size
  have hb1 : Below w.heap.size w w1 := HB0.out.grown hg1 (by omega) (fun b e => by injection e with e; omega)
  obtain ⟨w2, hw2⟩ : ∃ W, W = w1.alloc (.cells #[.slice va us.length vc] 26) := ⟨_, rfl⟩
  have hbA : Below w1.heap.size w1 w2 := by rw [hw2]; exact below_al _ _
  have X2 : Hid (BoxV w2 w1.heap.size 26 (.slice va us.length vc)) := by rw [hw2]; exact BoxV.new _ _ _
  have R2 := Lib.hid ((R0.out.grown hg1 (by simp)).below hbA (by have := R0.out.lt; omega)) 
  have V2 := Lib.hid (hr1.below hbA)
  have C2 := Lib.hid (hc1.below hbA)
  have HB2 := Lib.hid (below_step hb1 hbA)
  have hs2 : w1.heap.size ≤ w2.heap.size := hbA.size
  have HW2 := Lib.hid hw2
  have HX := Lib.hid hx1
  have cX := X2.out.cell
  rw [HW2.out] at cX
  obtain ⟨D, hD⟩ : ∃ D, D = w1.heap.size := ⟨_, rfl⟩
  have cD := X2.out.cell
  have kD : ∀ p : Seen w1.heap.size (.slice va us.length vc), p.world.cell? ⟨w1.heap.size, 0, none⟩ = some (.slice va us.length vc) := fun p => p.cell
  clear hr1 hx1 hc1 hg1 hb1 hbA hw2 hD R0 C0 HB0 HW0 CD
  go_wp2_with fail
  rw [← HW2.out]
  clear cX cD kD
  refine (CK.out _ _ w0.heap.size _ us w2 C2.out V2.out (by omega) hl1 HX.out (by omega)).mono ?_
  rintro r w3 ⟨⟨u, xs, rfl, ho, hxl⟩, hc3, hg3⟩
  have X3 := Lib.hid (X2.out.keep hg3 (by omega))
  have R3 := Lib.hid (R2.out.grown hg3 (by simp))
  have V3 := Lib.hid (V2.out.keep hg3 (by omega))
  have HI3 := Lib.hid (row_M ho)
  have HL : Hid (∀ b, u.ownBlock = some b → b ≠ w.heap.size) := fun b hb e => by have := (ho.lt b hb).1; omega
  have HL1 : Hid (∀ b, u.ownBlock = some b → b ≠ w.heap.size + 1) := fun b hb e => by have := (ho.lt b hb).1; omega
  have HB3 : Hid (Below w.heap.size w w3) := HB2.out.grown hg3 (by omega) (fun b e => by injection e with e; omega)
  have C3 := Lib.hid hc3
  have hs3 : w2.heap.size ≤ w3.heap.size := hg3.size
  obtain ⟨ua, uc, huf⟩ := (ownInts_of ho).form
  subst huf
  have cX := X3.out.cell
  have cD := X3.out.cell
  have kD : ∀ p : Seen w1.heap.size (.slice va us.length vc), p.world.cell? ⟨w1.heap.size, 0, none⟩ = some (.slice va us.length vc) := fun p => p.cell
  clear hc3 hg3 ho X2 R2 V2 C2 HB2 HW2 CK
  go_wp2_with fail
  clear cX
  refine Mx.wp_region_mix (S := fun w' => ∃ p : Seen w1.heap.size (.slice va us.length vc), w' = p.world) (Mx.ofL [(0, 1), (1, 0), (2, 0), (3, 0), (4, 0), (5, 0), (6, 2), (7, 0), (8, 3), (9, 0), (10, 0)] .done) (by kernel_rfl) (by kernel_rfl) ⟨⟨w3.drew, X3.out.cell⟩, rfl⟩ ?_
  repeat ((first | refine Mx.mix0 rfl ?_ | refine Mx.mix1 rfl ?_); go_big_quiet_step (rfl); refine wpQuiet_nil ?_)
  refine Mx.mix2 rfl ?_
  clear cD kD
  have hdr : Below w3.heap.size w3 w3.drew := below_drew1 (Below.refl _ _)
  go_wp2_with fail
  refine (CP.out _ _ _ w3.drew (C3.out.below hdr) (by omega) (by omega) (by omega)).mono ?_
  rintro r w4 ⟨⟨i, hi0, hi1, rfl⟩, hc4, hg4⟩
  have X4 := Lib.hid ((X3.out.below hdr X3.out.lt).keep hg4 (by omega))
  have R4 := Lib.hid ((R3.out.below hdr R3.out.lt).grown hg4 (by simp))
  have V4 := Lib.hid ((V3.out.below hdr).keep hg4 (by omega))
  have HB4 : Hid (Below w.heap.size w w4) := (below_step HB3.out hdr).grown hg4 (by show w.heap.size ≤ w3.heap.size; omega) (fun b e => by injection e with e; omega)
  have HI4 := Lib.hid (intsM_grown (HI3.out.below hdr) hg4 HL1.out)
  have HCell := Lib.hid X4.out.cell
  have cR := R4.out.cell
  have fR := R4.out.frozen
  clear hc4 hg4 hdr X3 R3 V3 HB3 C3 HI3
  go_wp2
  refine Mx.mid_normal (fun _ => ⟨⟨_, HCell.out⟩, rfl⟩) ?_
  repeat ((first | refine Mx.mix0 rfl ?_ | refine Mx.mix1 rfl ?_); go_big_quiet_step (rfl); refine wpQuiet_nil ?_)
  refine Mx.mix3 rfl ?_
  go_wp2
  refine Mx.mid_normal (fun q => by cases q) ?_
  repeat ((first | refine Mx.mix0 rfl ?_ | refine Mx.mix1 rfl ?_); go_big_quiet_step (rfl); refine wpQuiet_nil ?_)
  refine Mx.mix_nil ?_
  go_wp2
  refine bodyPost_ret (results_dt3 rfl _ _ w.heap.size _ rfl (R4.out.set _)) rfl ?_
  exact ⟨⟨_, us, _, xs, _, rfl, (V4.out.setCell (by omega)).mono (by omega), hl1, HX.out, HI4.out.touch (T := fun b => b = w.heap.size) ((Touch.refl (fun b => b = w.heap.size) _).setCell (g := w.heap.size) rfl _ _) HL.out, hxl⟩, HB4.out.setCell (Nat.le_refl _) _⟩
end Go.Proofs.YtnpiphkglhcifaaGreat
