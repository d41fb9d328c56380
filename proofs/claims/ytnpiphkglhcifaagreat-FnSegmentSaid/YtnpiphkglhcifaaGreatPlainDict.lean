/-
  PLAIN MATHEMATICS of dictionaries: lists of entries in the order of their outlines; finding, putting, deleting. Nothing of the program stands here.
-/
import Derived.Test.YtnpiphkglhcifaaGreatPlainOut
namespace Go.Proofs.YtnpiphkglhcifaaGreat.Pl
set_option maxRecDepth 100000
open Go

abbrev En := List Int × ByteArray
theorem cmp_lt_trans {a b c : List Int} (h : cmp a b < 0) (k : cmp b c < 0) : cmp a c < 0 := by
  have h1 := cmp_trans a b c (by omega) (by omega)
  rcases Int.lt_or_eq_of_le h1 with h2 | h2
  · exact h2
  · have := (cmp_zero a c).1 h2
    subst this
    rw [cmp_neg b a] at h
    omega
theorem cmp_self (a : List Int) : cmp a a = 0 := (cmp_zero a a).2 rfl
theorem cmp_ne {a b : List Int} (h : cmp a b < 0) : a ≠ b := by
  intro e; subst e; rw [cmp_self] at h; omega

/-- Each outline comes before the next. -/
def incB : List En → Bool
  | [] => true
  | x :: r => (match r with | [] => true | y :: _ => decide (cmp x.1 y.1 < 0)) && incB r
abbrev Inc (es : List En) : Prop := es.Pairwise fun x y => cmp x.1 y.1 < 0
theorem inc_of : ∀ es : List En, incB es = true → Inc es
  | [], _ => List.Pairwise.nil
  | x :: r, h => by
    unfold incB at h
    rw [Bool.and_eq_true] at h
    have ih := inc_of r h.2
    refine List.Pairwise.cons ?_ ih
    intro y hy
    cases r with
    | nil => simp at hy
    | cons z r =>
      have h1 : cmp x.1 z.1 < 0 := by simpa using h.1
      rcases List.mem_cons.1 hy with rfl | hy
      · exact h1
      · exact cmp_lt_trans h1 (List.rel_of_pairwise_cons ih hy)
theorem of_inc : ∀ es : List En, Inc es → incB es = true
  | [], _ => rfl
  | x :: r, h => by
    unfold incB
    rw [of_inc r (List.Pairwise.of_cons h), Bool.and_true]
    cases r with
    | nil => rfl
    | cons y r => simpa using List.rel_of_pairwise_cons h (List.mem_cons_self ..)
theorem incB_iff (es : List En) : incB es = true ↔ Inc es := ⟨inc_of es, of_inc es⟩
/-- One more at the end. -/
theorem incB_snoc (l : List En) (x y : En) : incB (l ++ [x, y]) = (incB (l ++ [x]) && decide (cmp x.1 y.1 < 0)) := by
  induction l with
  | nil => simp [incB]
  | cons a l ih =>
    rw [List.cons_append, List.cons_append]
    unfold incB
    rw [ih]
    cases l with
    | nil => simp [incB]
    | cons b l => simp [Bool.and_assoc]
theorem incB_next {es : List En} {k : Nat} {x y : En} (hx : es[k]? = some x) (hy : es[k + 1]? = some y) : incB (es.take (k + 1 + 1)) = (incB (es.take (k + 1)) && decide (cmp x.1 y.1 < 0)) := by
  have e1 : es.take (k + 1 + 1) = es.take k ++ [x, y] := by rw [List.take_add_one, List.take_add_one, hx, hy]; simp
  have e2 : es.take (k + 1) = es.take k ++ [x] := by rw [List.take_add_one, hx]; rfl
  rw [e1, e2, incB_snoc]
theorem incB_take {es : List En} (k : Nat) (h : incB (es.take k) = false) : incB es = false := by
  cases hc : incB es
  · rfl
  · have := inc_of _ hc
    have h2 := of_inc _ (this.sublist (List.take_sublist k es))
    rw [h2] at h; cases h

/-! ### Finding -/
def isO (o : List Int) (x : En) : Bool := decide (x.1 = o)
/-- The index of the first entry with the outline. -/
def idx (o : List Int) (es : List En) : Option Nat := es.findIdx? (isO o)
/-- The text of the first entry with the outline. -/
def look (o : List Int) (es : List En) : Option ByteArray := (es.find? (isO o)).map (·.2)
theorem isO_iff {o : List Int} {x : En} : isO o x = true ↔ x.1 = o := by unfold isO; rw [decide_eq_true_eq]
theorem idx_at {o : List Int} {es : List En} {k : Nat} {x : En} (hn : ∀ y ∈ es.take k, y.1 ≠ o) (hx : es[k]? = some x) (ho : x.1 = o) : idx o es = some k := by
  unfold idx
  rw [List.findIdx?_eq_some_iff_getElem]
  obtain ⟨hk, e⟩ := List.getElem?_eq_some_iff.1 hx
  refine ⟨hk, by rw [e]; exact isO_iff.2 ho, fun j hj => ?_⟩
  intro hc
  have hc := isO_iff.1 hc
  exact hn _ (by rw [List.mem_take_iff_getElem]; exact ⟨j, by omega, rfl⟩) hc
theorem idx_none {o : List Int} {es : List En} (h : ∀ y ∈ es, y.1 ≠ o) : idx o es = none := by
  unfold idx
  rw [List.findIdx?_eq_none_iff]
  intro x hx
  unfold isO
  rw [decide_eq_false_iff_not]
  exact h x hx
theorem idx_some {o : List Int} {es : List En} {k : Nat} (h : idx o es = some k) : ∃ x, es[k]? = some x ∧ x.1 = o := by
  unfold idx at h
  rw [List.findIdx?_eq_some_iff_getElem] at h
  obtain ⟨hk, h1, _⟩ := h
  exact ⟨es[k], List.getElem?_eq_getElem hk, isO_iff.1 h1⟩
theorem look_idx {o : List Int} {es : List En} {k : Nat} {x : En} (h : idx o es = some k) (hx : es[k]? = some x) : look o es = some x.2 := by
  unfold idx at h
  rw [List.findIdx?_eq_some_iff_getElem] at h
  obtain ⟨hk, h1, h2⟩ := h
  unfold look
  have : es.find? (isO o) = some es[k] := by
    rw [List.find?_eq_some_iff_getElem]
    exact ⟨h1, k, hk, rfl, fun j hj => by simpa using h2 j hj⟩
  rw [this]
  obtain ⟨_, e⟩ := List.getElem?_eq_some_iff.1 hx
  rw [e]; rfl
theorem look_none {o : List Int} {es : List En} (h : ∀ y ∈ es, y.1 ≠ o) : look o es = none := by
  unfold look
  rw [Option.map_eq_none_iff, List.find?_eq_none]
  intro x hx hc
  exact h x hx (isO_iff.1 hc)
theorem look_none_idx {o : List Int} {es : List En} (h : idx o es = none) : look o es = none := by
  unfold idx at h
  rw [List.findIdx?_eq_none_iff] at h
  exact look_none fun y hy e => by have := h y hy; unfold isO at this; rw [decide_eq_false_iff_not] at this; exact this e
theorem look_cons (o : List Int) (x : En) (es : List En) : look o (x :: es) = if x.1 = o then some x.2 else look o es := by
  unfold look
  rw [List.find?_cons]
  by_cases h : x.1 = o
  · rw [isO_iff.2 h, if_pos h]; rfl
  · rw [show isO o x = false by unfold isO; exact decide_eq_false h, if_neg h]
theorem look_mem {es : List En} (h : Inc es) {x : En} (hx : x ∈ es) : look x.1 es = some x.2 := by
  induction es with
  | nil => simp at hx
  | cons y r ih =>
    rw [look_cons]
    rcases List.mem_cons.1 hx with rfl | hx
    · rw [if_pos rfl]
    · rw [if_neg (cmp_ne (List.rel_of_pairwise_cons h hx)), ih (List.Pairwise.of_cons h) hx]

/-! ### Putting -/
def put (e : En) : List En → List En
  | [] => [e]
  | x :: r => if cmp x.1 e.1 < 0 then x :: put e r else e :: (x :: r).filter fun y => decide (cmp y.1 e.1 ≠ 0)
theorem put_before {e : En} : ∀ {l : List En}, (∀ x ∈ l, cmp x.1 e.1 < 0) → put e l = l ++ [e]
  | [], _ => rfl
  | x :: r, h => by
    unfold put
    rw [if_pos (h x (List.mem_cons_self ..)), put_before (fun y hy => h y (List.mem_cons_of_mem _ hy))]; rfl
theorem put_here {e x : En} {l : List En} (h : ∀ y ∈ l, cmp y.1 e.1 < 0) (hx : ¬ cmp x.1 e.1 < 0) : put e (l ++ [x]) = (l ++ [e]) ++ (if cmp x.1 e.1 = 0 then [] else [x]) := by
  induction l with
  | nil =>
    show put e [x] = _
    unfold put
    rw [if_neg hx]
    by_cases h0 : cmp x.1 e.1 = 0
    · rw [if_pos h0]; simp [h0]
    · rw [if_neg h0]; simp [h0]
  | cons y l ih =>
    rw [List.cons_append]
    unfold put
    rw [if_pos (h y (List.mem_cons_self ..)), ih (fun z hz => h z (List.mem_cons_of_mem _ hz))]
    rfl
theorem put_after {e x : En} {l : List En} (h : ∃ y ∈ l, ¬ cmp y.1 e.1 < 0) : put e (l ++ [x]) = put e l ++ (if cmp x.1 e.1 = 0 then [] else [x]) := by
  induction l with
  | nil => obtain ⟨y, hy, _⟩ := h; simp at hy
  | cons y l ih =>
    rw [List.cons_append]
    unfold put
    by_cases hy : cmp y.1 e.1 < 0
    · rw [if_pos hy, if_pos hy, ih, List.cons_append]
      obtain ⟨z, hz, hn⟩ := h
      rcases List.mem_cons.1 hz with rfl | hz
      · exact absurd hy hn
      · exact ⟨z, hz, hn⟩
    · rw [if_neg hy, if_neg hy, ← List.cons_append, List.filter_append]
      by_cases h0 : cmp x.1 e.1 = 0
      · rw [if_pos h0]; simp [h0]
      · rw [if_neg h0]; simp [h0]
theorem put_len (e : En) : ∀ es : List En, (put e es).length ≤ es.length + 1
  | [] => by simp [put]
  | x :: r => by
    unfold put
    split
    · simpa using put_len e r
    · rw [List.length_cons]
      exact Nat.succ_le_succ (List.length_filter_le _ _)
theorem put_mem {e x : En} {es : List En} (h : x ∈ put e es) : x = e ∨ x ∈ es := by
  induction es with
  | nil => simpa [put] using h
  | cons y r ih =>
    unfold put at h
    split at h
    · rcases List.mem_cons.1 h with rfl | h
      · exact .inr (List.mem_cons_self ..)
      · exact (ih h).imp id (List.mem_cons_of_mem _)
    · rcases List.mem_cons.1 h with rfl | h
      · exact .inl rfl
      · exact .inr (List.mem_filter.1 h).1
theorem put_inc {e : En} {es : List En} (h : Inc es) : Inc (put e es) := by
  induction es with
  | nil => exact List.Pairwise.cons (fun _ h => by simp at h) List.Pairwise.nil
  | cons x r ih =>
    unfold put
    by_cases hx : cmp x.1 e.1 < 0
    · rw [if_pos hx]
      refine List.Pairwise.cons ?_ (ih (List.Pairwise.of_cons h))
      intro y hy
      rcases put_mem hy with rfl | hy
      · exact hx
      · exact List.rel_of_pairwise_cons h hy
    · rw [if_neg hx]
      refine List.Pairwise.cons ?_ (h.sublist List.filter_sublist)
      intro y hy
      rw [List.mem_filter, decide_eq_true_eq] at hy
      have hge : 0 ≤ cmp y.1 e.1 := by
        rcases List.mem_cons.1 hy.1 with rfl | hm
        · omega
        · have h1 := List.rel_of_pairwise_cons h hm
          rcases Int.lt_or_le (cmp y.1 e.1) 0 with h2 | h2
          · exact absurd (cmp_lt_trans h1 h2) hx
          · exact h2
      rw [cmp_neg y.1 e.1]
      omega
theorem look_put_same (e : En) (es : List En) : look e.1 (put e es) = some e.2 := by
  induction es with
  | nil => show look e.1 [e] = _; rw [look_cons, if_pos rfl]
  | cons x r ih =>
    unfold put
    by_cases hx : cmp x.1 e.1 < 0
    · rw [if_pos hx, look_cons, if_neg (cmp_ne hx), ih]
    · rw [if_neg hx, look_cons, if_pos rfl]
theorem look_filter {e : En} {o : List Int} (ho : o ≠ e.1) : ∀ es : List En, look o (es.filter fun y => decide (cmp y.1 e.1 ≠ 0)) = look o es
  | [] => rfl
  | x :: r => by
    rw [look_cons]
    by_cases h0 : cmp x.1 e.1 = 0
    · rw [List.filter_cons_of_neg (by simp [h0]), look_filter ho r, if_neg (by rw [(cmp_zero _ _).1 h0]; exact fun q => ho q.symm)]
    · rw [List.filter_cons_of_pos (by simp [h0]), look_cons, look_filter ho r]
theorem look_put_other {e : En} {o : List Int} (ho : o ≠ e.1) : ∀ es : List En, look o (put e es) = look o es
  | [] => by show look o [e] = _; rw [look_cons, if_neg (fun q => ho q.symm)]
  | x :: r => by
    unfold put
    by_cases hx : cmp x.1 e.1 < 0
    · rw [if_pos hx, look_cons, look_cons, look_put_other ho r]
    · rw [if_neg hx, look_cons, if_neg (fun q => ho q.symm), look_filter ho]

/-! ### Deleting -/
def del (k : Nat) (es : List En) : List En := es.take k ++ es.drop (k + 1)
theorem del_sub (k : Nat) (es : List En) : (del k es).Sublist es := by
  unfold del
  rw [← List.eraseIdx_eq_take_drop_succ]
  exact List.eraseIdx_sublist es k
theorem put_del {es : List En} (h : Inc es) {k : Nat} {x : En} (hx : es[k]? = some x) : put x (del k es) = es := by
  induction es generalizing k with
  | nil => simp at hx
  | cons y r ih =>
    cases k with
    | zero =>
      simp at hx
      subst hx
      show put y r = _
      cases r with
      | nil => rfl
      | cons z r =>
        have hr := fun w hw => List.rel_of_pairwise_cons h (a' := w) hw
        unfold put
        have hz := hr z (List.mem_cons_self ..)
        rw [if_neg (by rw [cmp_neg y.1 z.1]; omega), List.filter_eq_self.2]
        intro w hw
        have := hr w hw
        rw [decide_eq_true_eq, cmp_neg y.1 w.1]; omega
    | succ k =>
      simp at hx
      have hm := List.mem_of_getElem? hx
      show put x (y :: del k r) = _
      unfold put
      rw [if_pos (List.rel_of_pairwise_cons h hm), ih (List.Pairwise.of_cons h) hx]
theorem del_len {es : List En} {k : Nat} (h : k < es.length) : (del k es).length + 1 = es.length := by
  unfold del; rw [List.length_append, List.length_take, List.length_drop]; omega
end Go.Proofs.YtnpiphkglhcifaaGreat.Pl
