/-
  PLAIN MATHEMATICS of chapter 2: key sets, the notation of a stroke, reading a relaxed notation. Nothing of the program stands here.
-/
import Derived.Lib.Hide
namespace Go.Proofs.YtnpiphkglhcifaaGreat.Pl
set_option maxRecDepth 100000

/-- The labels of the keys in steno order. -/
def lab : List UInt8 := [35, 83, 84, 75, 80, 87, 72, 82, 65, 79, 42, 69, 85, 70, 82, 80, 66, 76, 71, 84, 83, 68, 90]
def labK (k : Nat) : UInt8 := lab.getD k 0
/-- The pressed keys from a to the one before b. -/
def keysIn (n a b : Nat) : List Nat := (List.range' a (b - a)).filter (n.testBit ·)
/-- All pressed keys. -/
def keysL (n : Nat) : List Nat := keysIn n 0 23
def labels (n a b : Nat) : List UInt8 := (keysIn n a b).map labK
/-- Is a hyphen wanted? -/
def hyph (n : Nat) : Bool := (n &&& 7936 == 0) && (n &&& 8380416 != 0)
/-- The notation of a stroke. -/
def nota (n : Nat) : List UInt8 := labels n 0 13 ++ (if hyph n then [45] else []) ++ labels n 13 23

theorem keysIn_succ (n a k : Nat) (h : a ≤ k) : keysIn n a (k + 1) = keysIn n a k ++ (if n.testBit k then [k] else []) := by
  unfold keysIn
  rw [show k + 1 - a = (k - a) + 1 by omega, List.range'_1_concat, List.filter_append, show a + (k - a) = k by omega]
  congr 1
  by_cases hb : n.testBit k <;> simp [hb]
theorem keysIn_self (n a : Nat) : keysIn n a a = [] := by unfold keysIn; rw [Nat.sub_self]; rfl
theorem keysIn_front (n a b : Nat) (h : a < b) : keysIn n a b = (if n.testBit a then [a] else []) ++ keysIn n (a + 1) b := by
  unfold keysIn
  rw [show b - a = (b - (a + 1)) + 1 by omega, List.range'_succ, List.filter_cons]
  by_cases hb : n.testBit a <;> simp [hb]
theorem keysIn_cut (n a b c : Nat) (h1 : a ≤ b) (h2 : b ≤ c) : keysIn n a c = keysIn n a b ++ keysIn n b c := by
  unfold keysIn
  have e := List.range'_append_1 (s := a) (m := b - a) (n := c - b)
  rw [show a + (b - a) = b by omega, show b - a + (c - b) = c - a by omega] at e
  rw [← e, List.filter_append]
theorem mem_keysIn {n a b k : Nat} : k ∈ keysIn n a b ↔ (a ≤ k ∧ k < b) ∧ n.testBit k = true := by
  unfold keysIn
  rw [List.mem_filter, List.mem_range'_1]
  constructor
  · rintro ⟨⟨h1, h2⟩, h3⟩; exact ⟨⟨h1, by omega⟩, h3⟩
  · rintro ⟨⟨h1, h2⟩, h3⟩; exact ⟨⟨h1, by omega⟩, h3⟩
theorem labels_succ (n a k : Nat) (h : a ≤ k) : labels n a (k + 1) = labels n a k ++ (if n.testBit k then [labK k] else []) := by
  unfold labels
  rw [keysIn_succ n a k h, List.map_append]
  by_cases hb : n.testBit k <;> simp [hb]
theorem labels_self (n a : Nat) : labels n a a = [] := by unfold labels; rw [keysIn_self]; rfl
theorem keysIn_len (n a b : Nat) : (keysIn n a b).length ≤ b - a := by
  unfold keysIn
  exact Nat.le_trans (List.length_filter_le _ _) (by rw [List.length_range']; exact Nat.le_refl _)
theorem labels_len (n a b : Nat) : (labels n a b).length ≤ b - a := by unfold labels; rw [List.length_map]; exact keysIn_len n a b
theorem nota_len (n : Nat) : (nota n).length ≤ 24 := by
  unfold nota
  have h1 := labels_len n 0 13
  have h2 := labels_len n 13 23
  rw [List.length_append, List.length_append]
  by_cases h : hyph n <;> simp [h] <;> omega

/-! ### Single bits -/
theorem testBit_pow (k j : Nat) : (2 ^ k).testBit j = decide (k = j) := Nat.testBit_two_pow
theorem or_bit (n k j : Nat) : (n ||| 2 ^ k).testBit j = (n.testBit j || decide (k = j)) := by rw [Nat.testBit_or, testBit_pow]
theorem or_lt (n k : Nat) (h : n < 2 ^ 23) (hk : k < 23) : n ||| 2 ^ k < 2 ^ 23 := Nat.or_lt_two_pow h (Nat.pow_lt_pow_right (by decide) hk)
theorem or_lt' (n k : Nat) (h : n < 2 ^ k) : n ||| 2 ^ k < 2 ^ (k + 1) := by
  refine Nat.or_lt_two_pow ?_ (Nat.pow_lt_pow_right (by decide) (Nat.lt_succ_self k))
  rw [Nat.pow_succ]; omega
theorem or_ne (n k : Nat) : n ||| 2 ^ k ≠ 0 := by
  intro e
  have h := or_bit n k k
  rw [e] at h
  simp at h
theorem mod_succ (n a : Nat) : n % 2 ^ (a + 1) = n % 2 ^ a ||| (if n.testBit a then 2 ^ a else 0) := by
  apply Nat.eq_of_testBit_eq
  intro i
  rw [Nat.testBit_or, Nat.testBit_mod_two_pow, Nat.testBit_mod_two_pow]
  by_cases hb : n.testBit a
  · rw [if_pos hb, testBit_pow]
    by_cases h1 : i = a
    · subst h1; simp [hb]
    · by_cases h2 : i < a
      · have h3 : i < a + 1 := by omega
        have h4 : ¬ a = i := by omega
        simp [h2, h3, h4]
      · have h3 : ¬ i < a + 1 := by omega
        simp [h2, h3]; omega
  · rw [if_neg hb, Nat.zero_testBit, Bool.or_false]
    by_cases h1 : i = a
    · subst h1; simp [hb]
    · by_cases h2 : i < a
      · have h3 : i < a + 1 := by omega
        simp [h2, h3]
      · have h3 : ¬ i < a + 1 := by omega
        simp [h2, h3]

/-! ### The number of keys -/
def card (n : Nat) : Nat := (keysL n).length
theorem card_eq (n : Nat) : card n = (List.range' 0 23).countP (n.testBit ·) := by
  unfold card keysL keysIn; rw [← List.countP_eq_length_filter]
theorem countP_or (p q : Nat → Bool) (l : List Nat) (h : ∀ k, (p k && q k) = false) : l.countP (fun k => p k || q k) = l.countP p + l.countP q := by
  induction l with
  | nil => rfl
  | cons x l ih =>
    rw [List.countP_cons, List.countP_cons, List.countP_cons, ih]
    have hx := h x
    revert hx
    cases p x <;> cases q x <;> simp <;> omega
theorem card_or (a b : Nat) (h : a &&& b = 0) : card (a ||| b) = card a + card b := by
  rw [card_eq, card_eq, card_eq, ← countP_or]
  · congr 1; funext k; rw [Nat.testBit_or]
  · intro k
    have := congrArg (fun x => Nat.testBit x k) h
    simpa [Nat.testBit_and] using this
theorem card_pow : ∀ k, k < 23 → card (2 ^ k) = 1 := by decide +kernel
theorem card_bit (n k : Nat) (h : n.testBit k = false) (hk : k < 23) : card (n ||| 2 ^ k) = card n + 1 := by
  rw [card_or, card_pow k hk]
  apply Nat.eq_of_testBit_eq
  intro j
  rw [Nat.testBit_and, testBit_pow, Nat.zero_testBit]
  by_cases e : k = j
  · subst e; rw [h]; rfl
  · simp [e]
theorem card_zero : card 0 = 0 := by decide
theorem card_le (n : Nat) : card n ≤ 23 := keysIn_len n 0 23

/-! ### Masks -/
theorem mask_mid : ∀ k, k < 23 → (7936 : Nat).testBit k = (decide (8 ≤ k) && decide (k < 13)) := by decide
theorem mask_right : ∀ k, k < 23 → (8380416 : Nat).testBit k = decide (13 ≤ k) := by decide
theorem bit_lt {n k : Nat} (h : n < 2 ^ 23) (hb : n.testBit k = true) : k < 23 := by
  rcases Nat.lt_or_ge k 23 with h' | h'
  · exact h'
  · rw [Nat.testBit_lt_two_pow (Nat.lt_of_lt_of_le h (Nat.pow_le_pow_right (by decide) h'))] at hb; cases hb
theorem mid_zero (n : Nat) : n &&& 7936 = 0 ↔ keysIn n 8 13 = [] := by
  constructor
  · intro h
    rw [List.eq_nil_iff_forall_not_mem]
    intro k hk
    obtain ⟨⟨h1, h2⟩, h3⟩ := mem_keysIn.1 hk
    have := congrArg (fun x => Nat.testBit x k) h
    simp [Nat.testBit_and, h3, mask_mid k (by omega), h1, h2] at this
  · intro h
    apply Nat.eq_of_testBit_eq
    intro k
    rw [Nat.testBit_and, Nat.zero_testBit]
    rcases Nat.lt_or_ge k 23 with hk | hk
    · rw [mask_mid k hk]
      cases hb : n.testBit k
      · rfl
      · by_cases h1 : 8 ≤ k ∧ k < 13
        · exact absurd (mem_keysIn.2 ⟨h1, hb⟩) (by rw [h]; exact List.not_mem_nil)
        · simp; omega
    · rw [Nat.testBit_lt_two_pow (x := 7936) (Nat.lt_of_lt_of_le (by decide : 7936 < 2 ^ 23) (Nat.pow_le_pow_right (by decide) hk)), Bool.and_false]
theorem right_zero (n : Nat) : n &&& 8380416 = 0 ↔ keysIn n 13 23 = [] := by
  constructor
  · intro h
    rw [List.eq_nil_iff_forall_not_mem]
    intro k hk
    obtain ⟨⟨h1, h2⟩, h3⟩ := mem_keysIn.1 hk
    have := congrArg (fun x => Nat.testBit x k) h
    simp [Nat.testBit_and, h3, mask_right k (by omega), h1] at this
  · intro h
    apply Nat.eq_of_testBit_eq
    intro k
    rw [Nat.testBit_and, Nat.zero_testBit]
    rcases Nat.lt_or_ge k 23 with hk | hk
    · rw [mask_right k hk]
      cases hb : n.testBit k
      · rfl
      · by_cases h1 : 13 ≤ k
        · exact absurd (mem_keysIn.2 ⟨⟨h1, hk⟩, hb⟩) (by rw [h]; exact List.not_mem_nil)
        · simp; omega
    · rw [Nat.testBit_lt_two_pow (x := 8380416) (Nat.lt_of_lt_of_le (by decide : 8380416 < 2 ^ 23) (Nat.pow_le_pow_right (by decide) hk)), Bool.and_false]
theorem hyph_eq (n : Nat) : hyph n = ((keysIn n 8 13).isEmpty && !(keysIn n 13 23).isEmpty) := by
  unfold hyph
  congr 1
  · rw [Bool.eq_iff_iff, beq_iff_eq, mid_zero, List.isEmpty_iff]
  · rw [Bool.eq_iff_iff, bne_iff_ne, Bool.not_eq_true', ← Bool.not_eq_true, List.isEmpty_iff, ne_eq, right_zero]

/-! ### The specification's way of writing: key by key -/
def wstep (st : List UInt8 × Bool × Bool) (k : Nat) : List UInt8 × Bool × Bool :=
  let m := st.2.1 || (decide (8 ≤ k) && decide (k ≤ 12))
  if decide (12 < k) && !m && !st.2.2 then (st.1 ++ [45] ++ [labK k], m, true) else (st.1 ++ [labK k], m, st.2.2)
def written (l : List Nat) : List UInt8 × Bool × Bool := l.foldl wstep ([], false, false)
theorem written_snoc (l : List Nat) (k : Nat) : written (l ++ [k]) = wstep (written l) k := by unfold written; rw [List.foldl_append]; rfl
theorem fold_left (l : List Nat) (h : ∀ k ∈ l, k < 13) (o : List UInt8) (m : Bool) : l.foldl wstep (o, m, false) = (o ++ l.map labK, m || l.any (fun k => decide (8 ≤ k)), false) := by
  induction l generalizing o m with
  | nil => simp
  | cons x l ih =>
    have hx := h x (List.mem_cons_self)
    rw [List.foldl_cons]
    have e : wstep (o, m, false) x = (o ++ [labK x], m || decide (8 ≤ x), false) := by
      unfold wstep
      have h1 : ¬ 12 < x := by omega
      have h2 : x ≤ 12 := by omega
      simp [h1, h2]
    rw [e, ih fun k hk => h k (List.mem_cons_of_mem _ hk)]
    simp [List.append_assoc, Bool.or_assoc]
theorem fold_right (l : List Nat) (h : ∀ k ∈ l, 13 ≤ k) (o : List UInt8) (m y : Bool) (hm : m = true ∨ y = true) : (l.foldl wstep (o, m, y)).1 = o ++ l.map labK := by
  induction l generalizing o with
  | nil => simp
  | cons x l ih =>
    have hx := h x (List.mem_cons_self)
    rw [List.foldl_cons]
    have e : wstep (o, m, y) x = (o ++ [labK x], m, y) := by
      unfold wstep
      have h1 : ¬ x ≤ 12 := by omega
      rcases hm with rfl | rfl <;> simp [h1]
    rw [e, ih fun k hk => h k (List.mem_cons_of_mem _ hk)]
    simp [List.append_assoc]
theorem written_nota (n : Nat) : (written (keysL n)).1 = nota n := by
  unfold written keysL nota
  rw [hyph_eq, keysIn_cut n 0 13 23 (by omega) (by omega), List.foldl_append, fold_left _ (fun k hk => (mem_keysIn.1 hk).1.2)]
  have hmid : (keysIn n 0 13).any (fun k => decide (8 ≤ k)) = !(keysIn n 8 13).isEmpty := by
    rw [keysIn_cut n 0 8 13 (by omega) (by omega), List.any_append]
    have e1 : (keysIn n 0 8).any (fun k => decide (8 ≤ k)) = false := by
      rw [List.any_eq_false]
      intro k hk
      have := (mem_keysIn.1 hk).1.2
      simp; omega
    rw [e1, Bool.false_or]
    cases hl : keysIn n 8 13 with
    | nil => rfl
    | cons x l =>
      have : x ∈ keysIn n 8 13 := by rw [hl]; exact List.mem_cons_self
      have := (mem_keysIn.1 this).1.1
      simp [this]
  rw [Bool.false_or, hmid, List.nil_append]
  have hr : ∀ k ∈ keysIn n 13 23, 13 ≤ k := fun k hk => (mem_keysIn.1 hk).1.1
  cases hM : (keysIn n 8 13).isEmpty
  · rw [show (!false) = true from rfl, fold_right _ hr _ _ _ (.inl rfl)]
    simp [labels]
  · cases hl : keysIn n 13 23 with
    | nil => simp [labels, hl]
    | cons x l =>
      rw [hl] at hr
      have hx := hr x List.mem_cons_self
      rw [List.foldl_cons]
      have e : wstep (List.map labK (keysIn n 0 13), !true, false) x = (List.map labK (keysIn n 0 13) ++ [45] ++ [labK x], false, true) := by
        unfold wstep
        have h1 : ¬ x ≤ 12 := by omega
        have h2 : 12 < x := by omega
        simp [h1, h2]
      rw [e, fold_right _ (fun k hk => hr k (List.mem_cons_of_mem _ hk)) _ _ _ (.inr rfl)]
      simp [labels, hl]

/-! ### Reading relaxed notation -/
/-- The smallest key from f on with the label c. -/
def find (f : Nat) (c : UInt8) : Option Nat := (List.range' f (23 - f)).find? (fun k => labK k == c)
theorem find_at (f : Nat) (c : UInt8) (h : f < 23) : find f c = if labK f = c then some f else find (f + 1) c := by
  unfold find
  rw [show 23 - f = (23 - (f + 1)) + 1 by omega, List.range'_succ, List.find?_cons]
  by_cases e : labK f = c
  · simp [e]
  · have : (labK f == c) = false := by simp [e]
    simp [e, this]
theorem find_end (f : Nat) (c : UInt8) (h : 23 ≤ f) : find f c = none := by unfold find; rw [Nat.sub_eq_zero_of_le h]; rfl
theorem find_some {f k : Nat} {c : UInt8} (h : find f c = some k) : f ≤ k ∧ k < 23 ∧ labK k = c := by
  unfold find at h
  have h1 := List.mem_of_find?_eq_some h
  have h2 := List.find?_some h
  rw [List.mem_range'_1] at h1
  exact ⟨h1.1, by omega, by simpa using h2⟩
theorem find_own : ∀ k, k < 23 → ∀ f, f < 23 → f ≤ k → (k < 13 ∨ 8 ≤ f) → find f (labK k) = some k := by decide +kernel

structure St where
  s : Nat
  f : Nat
  h : Bool
/-- One character. -/
def rstep (st : St) (c : UInt8) : Option St :=
  if c = 45 then (if st.h = true ∨ 13 < st.f then none else some ⟨st.s, 13, true⟩)
  else match find st.f c with
    | none => none
    | some k => some ⟨st.s ||| 2 ^ k, k + 1, st.h⟩
def reads : List UInt8 → St → Option St
  | [], st => some st
  | c :: l, st => (rstep st c).bind (reads l)
theorem reads_nil (st : St) : reads [] st = some st := rfl
theorem reads_cons (c : UInt8) (l : List UInt8) (st : St) : reads (c :: l) st = (rstep st c).bind (reads l) := rfl
/-- What stands of a state: the bits lie below the next key. -/
def Fine (st : St) : Prop := st.s < 2 ^ st.f ∧ st.f ≤ 23
theorem rstep_fine {st st' : St} {c : UInt8} (h : Fine st) (e : rstep st c = some st') : Fine st' := by
  unfold rstep at e
  split at e
  · split at e
    · cases e
    · rename_i h1 h2
      cases e
      exact ⟨Nat.lt_of_lt_of_le h.1 (Nat.pow_le_pow_right (by decide) (by show st.f ≤ 13; omega)), (by show 13 ≤ 23; decide)⟩
  · split at e
    · cases e
    · rename_i k hk
      cases e
      obtain ⟨h1, h2, _⟩ := find_some hk
      refine ⟨or_lt' _ _ (Nat.lt_of_lt_of_le h.1 (Nat.pow_le_pow_right (by decide) h1)), by show k + 1 ≤ 23; omega⟩
theorem reads_fine {l : List UInt8} : ∀ {st st' : St}, Fine st → reads l st = some st' → Fine st' := by
  induction l with
  | nil => intro st st' h e; cases e; exact h
  | cons c l ih =>
    intro st st' h e
    rw [reads_cons] at e
    cases hx : rstep st c with
    | none => rw [hx] at e; cases e
    | some x => rw [hx] at e; exact ih (rstep_fine h hx) e
theorem fine_zero : Fine ⟨0, 0, false⟩ := ⟨by decide, by decide⟩
theorem Fine.lt {st : St} (h : Fine st) : st.s < 2 ^ 23 := Nat.lt_of_lt_of_le h.1 (Nat.pow_le_pow_right (by decide) h.2)
/-- The stroke of a relaxed notation; 0 where there is none. -/
def loose (l : List UInt8) : Nat := match reads l ⟨0, 0, false⟩ with
  | none => 0
  | some st => st.s
theorem loose_lt (l : List UInt8) : loose l < 2 ^ 23 := by
  unfold loose
  split
  · decide
  · rename_i st h; exact (reads_fine fine_zero h).lt
/-- The stroke of a notation; 0 where there is none. -/
def strict (l : List UInt8) : Nat := if nota (loose l) = l then loose l else 0
theorem strict_lt (l : List UInt8) : strict l < 2 ^ 23 := by unfold strict; split; exact loose_lt l; decide

/-! #### what is read back -/
theorem reads_append (l l' : List UInt8) (st : St) : reads (l ++ l') st = (reads l st).bind (reads l') := by
  induction l generalizing st with
  | nil => rfl
  | cons c l ih =>
    rw [List.cons_append, reads_cons, reads_cons]
    cases rstep st c with
    | none => rfl
    | some st' => exact ih st'
theorem lab_hyph : ∀ k, k < 23 → labK k ≠ 45 := by decide
theorem reads_labels (n b : Nat) (hb : b ≤ 23) : ∀ (m a : Nat), b - a = m → a ≤ b → ∀ (f : Nat) (y : Bool), f ≤ a → (b ≤ 13 ∨ 8 ≤ f ∨ keysIn n a b = []) →
    ∃ f', reads (labels n a b) ⟨n % 2 ^ a, f, y⟩ = some ⟨n % 2 ^ b, f', y⟩ ∧ f ≤ f' ∧ f' ≤ b ∧ ∀ k ∈ keysIn n a b, k < f' := by
  intro m
  induction m with
  | zero =>
    intro a hm hab f y hf _
    obtain rfl : a = b := by omega
    exact ⟨f, by rw [labels_self]; rfl, Nat.le_refl _, hf, by rw [keysIn_self]; intro k hk; cases hk⟩
  | succ m ih =>
    intro a hm hab f y hf hc
    have hlt : a < b := by omega
    have hfront := keysIn_front n a b hlt
    by_cases hbit : n.testBit a
    · rw [if_pos hbit] at hfront
      have hlab : labels n a b = labK a :: labels n (a + 1) b := by unfold labels; rw [hfront]; rfl
      have hc' : b ≤ 13 ∨ 8 ≤ f := by
        rcases hc with h | h | h
        · exact .inl h
        · exact .inr h
        · rw [hfront] at h; cases h
      have hfind := find_own a (by omega) f (by omega) hf (by omega)
      have hstep : rstep ⟨n % 2 ^ a, f, y⟩ (labK a) = some ⟨n % 2 ^ (a + 1), a + 1, y⟩ := by
        unfold rstep
        rw [if_neg (lab_hyph a (by omega)), hfind, mod_succ, if_pos hbit]
      obtain ⟨f', h1, h2, h3, h4⟩ := ih (a + 1) (by omega) (by omega) (a + 1) y (Nat.le_refl _) (by omega)
      refine ⟨f', ?_, by omega, h3, ?_⟩
      · rw [hlab, reads_cons, hstep]; exact h1
      · intro k hk
        rw [hfront, List.mem_append] at hk
        rcases hk with hk | hk
        · simp at hk; omega
        · exact h4 k hk
    · rw [if_neg hbit, List.nil_append] at hfront
      have hlab : labels n a b = labels n (a + 1) b := by unfold labels; rw [hfront]
      obtain ⟨f', h1, h2, h3, h4⟩ := ih (a + 1) (by omega) (by omega) f y (by omega) (by rw [← hfront]; exact hc)
      refine ⟨f', ?_, h2, h3, ?_⟩
      · rw [hlab]
        have e := mod_succ n a
        rw [if_neg hbit, Nat.or_zero] at e
        rw [← e]; exact h1
      · rw [hfront]; exact h4
theorem loose_nota (n : Nat) (h : n < 2 ^ 23) : loose (nota n) = n := by
  have hmod : n % 2 ^ 23 = n := Nat.mod_eq_of_lt h
  obtain ⟨f, h1, _, h3, h4⟩ := reads_labels n 13 (by decide) 13 0 rfl (by decide) 0 false (Nat.le_refl _) (.inl (Nat.le_refl _))
  rw [Nat.pow_zero, Nat.mod_one] at h1
  have key : ∃ f', reads (nota n) ⟨0, 0, false⟩ = some ⟨n, f', hyph n⟩ := by
    unfold nota
    rw [reads_append, reads_append, h1]
    cases hy : hyph n
    · show ∃ f', reads (labels n 13 23) ⟨n % 2 ^ 13, f, false⟩ = some ⟨n, f', false⟩
      have hcond : (23 ≤ 13 ∨ 8 ≤ f ∨ keysIn n 13 23 = []) := by
        rw [hyph_eq] at hy
        cases hm : keysIn n 8 13 with
        | nil =>
          rw [hm] at hy
          have : (keysIn n 13 23).isEmpty = true := by simpa using hy
          exact .inr (.inr (List.isEmpty_iff.1 this))
        | cons x l =>
          have hx : x ∈ keysIn n 8 13 := by rw [hm]; exact List.mem_cons_self
          have hx1 := (mem_keysIn.1 hx).1
          have hx2 : x ∈ keysIn n 0 13 := mem_keysIn.2 ⟨⟨by omega, hx1.2⟩, (mem_keysIn.1 hx).2⟩
          have := h4 x hx2
          exact .inr (.inl (by omega))
      obtain ⟨f', k1, _, _, _⟩ := reads_labels n 23 (by decide) 10 13 rfl (by decide) f false h3 hcond
      rw [hmod] at k1
      exact ⟨f', k1⟩
    · obtain ⟨f', k1, _, _, _⟩ := reads_labels n 23 (by decide) 10 13 rfl (by decide) 13 true (Nat.le_refl _) (.inr (.inl (by decide)))
      rw [hmod] at k1
      refine ⟨f', ?_⟩
      have e : reads [45] ⟨n % 2 ^ 13, f, false⟩ = some ⟨n % 2 ^ 13, 13, true⟩ := by
        rw [reads_cons]
        unfold rstep
        rw [if_pos rfl, if_neg (by simp; omega)]; rfl
      show ((reads [45] ⟨n % 2 ^ 13, f, false⟩).bind (reads (labels n 13 23))) = _
      rw [e]; exact k1
  obtain ⟨f', key⟩ := key
  unfold loose; rw [key]
theorem strict_nota (n : Nat) (h : n < 2 ^ 23) : strict (nota n) = n := by
  unfold strict; rw [loose_nota n h, if_pos rfl]
theorem nota_strict (l : List UInt8) (h : strict l ≠ 0) : nota (strict l) = l ∧ strict l = loose l := by
  unfold strict at h ⊢
  split
  · rename_i e; exact ⟨e, rfl⟩
  · rename_i e; rw [if_neg e] at h; exact absurd rfl h

/-- The characters that are no hyphen. -/
def plain (l : List UInt8) : Nat := l.countP (· != 45)
theorem reads_card (l : List UInt8) : ∀ {st st' : St}, Fine st → reads l st = some st' → card st'.s = card st.s + plain l := by
  induction l with
  | nil => intro st st' _ e; cases e; rfl
  | cons c l ih =>
    intro st st' hF e
    rw [reads_cons] at e
    cases hx : rstep st c with
    | none => rw [hx] at e; cases e
    | some x =>
      rw [hx] at e
      rw [ih (rstep_fine hF hx) e]
      unfold plain
      rw [List.countP_cons]
      unfold rstep at hx
      split at hx
      · rename_i hc
        split at hx
        · cases hx
        · cases hx; simp [hc]
      · rename_i hc
        split at hx
        · cases hx
        · rename_i k hk
          cases hx
          obtain ⟨h1, h2, _⟩ := find_some hk
          show card (st.s ||| 2 ^ k) + _ = _
          rw [card_bit _ _ (Nat.testBit_lt_two_pow (Nat.lt_of_lt_of_le hF.1 (Nat.pow_le_pow_right (by decide) h1))) h2]
          have : (c != 45) = true := by simp [hc]
          rw [this]; simp; omega
theorem loose_card (l : List UInt8) (h : loose l ≠ 0) : card (loose l) = plain l := by
  unfold loose at h ⊢
  split
  · rename_i e; rw [e] at h; exact absurd rfl h
  · rename_i st e
    have := reads_card l fine_zero e
    rw [this]; show card 0 + _ = _; rw [card_zero]; omega

/-! ### Strokes of keys -/
def newS : List Int → Nat → Option Nat
  | [], s => some s
  | k :: l, s => if 0 ≤ k ∧ k < 23 ∧ s.testBit k.toNat = false then newS l (s ||| 2 ^ k.toNat) else none
def newK (l : List Int) : Nat := (newS l 0).getD 0
theorem newS_lt (l : List Int) : ∀ {s s' : Nat}, s < 2 ^ 23 → newS l s = some s' → s' < 2 ^ 23 := by
  induction l with
  | nil => intro s s' h e; cases e; exact h
  | cons k l ih =>
    intro s s' h e
    unfold newS at e
    split at e
    · rename_i hk; exact ih (or_lt _ _ h (by omega)) e
    · cases e
theorem newK_lt (l : List Int) : newK l < 2 ^ 23 := by
  unfold newK
  cases e : newS l 0 with
  | none => decide
  | some s => exact newS_lt l (by decide) e
theorem newS_card (l : List Int) : ∀ {s s' : Nat}, newS l s = some s' → card s' = card s + l.length := by
  induction l with
  | nil => intro s s' e; cases e; rfl
  | cons k l ih =>
    intro s s' e
    unfold newS at e
    split at e
    · rename_i hk
      rw [ih e, card_bit _ _ hk.2.2 (by omega), List.length_cons]; omega
    · cases e
theorem newK_card (l : List Int) (h : newK l ≠ 0) : card (newK l) = l.length := by
  unfold newK at h ⊢
  cases e : newS l 0 with
  | none => rw [e] at h; exact absurd rfl h
  | some s =>
    have := newS_card l e
    show card s = _
    rw [this, card_zero, Nat.zero_add]
theorem newS_keys (n b : Nat) (hb : b ≤ 23) : ∀ (m a : Nat), b - a = m → a ≤ b → newS ((keysIn n a b).map Int.ofNat) (n % 2 ^ a) = some (n % 2 ^ b) := by
  intro m
  induction m with
  | zero =>
    intro a hm hab
    obtain rfl : a = b := by omega
    rw [keysIn_self]; rfl
  | succ m ih =>
    intro a hm hab
    rw [keysIn_front n a b (by omega)]
    have e := mod_succ n a
    by_cases hbit : n.testBit a
    · rw [if_pos hbit] at e ⊢
      show newS ((a : Int) :: _) _ = _
      unfold newS
      have h0 : (n % 2 ^ a).testBit ((a : Int).toNat) = false := by rw [Int.toNat_natCast, Nat.testBit_mod_two_pow]; simp
      rw [if_pos ⟨by omega, by omega, h0⟩, Int.toNat_natCast, ← e]; exact ih (a + 1) (by omega) (by omega)
    · rw [if_neg hbit] at e ⊢
      rw [List.nil_append]
      rw [Nat.or_zero] at e
      rw [← e]; exact ih (a + 1) (by omega) (by omega)
theorem newK_keys (n : Nat) (h : n < 2 ^ 23) : newK ((keysL n).map Int.ofNat) = n := by
  unfold newK keysL
  have := newS_keys n 23 (by decide) 23 0 rfl (by decide)
  rw [Nat.pow_zero, Nat.mod_one, Nat.mod_eq_of_lt h] at this
  rw [this]; rfl

theorem keysL_zero_iff (n : Nat) (h : n < 2 ^ 23) : keysL n = [] ↔ n = 0 := by
  constructor
  · intro e
    have := newK_keys n h
    rw [e] at this
    exact this.symm
  · rintro rfl; decide
theorem and_zero_or (a b : Nat) (ha : a < 2 ^ 23) (hb : b < 2 ^ 23) : a ||| b < 2 ^ 23 := Nat.or_lt_two_pow ha hb
theorem or_pos (a b : Nat) (ha : a ≠ 0) : a ||| b ≠ 0 := by
  intro e; exact ha (Nat.or_eq_zero_iff.1 e).1

end Go.Proofs.YtnpiphkglhcifaaGreat.Pl
