/-
  PLAIN MATHEMATICS of chapter 10: keys in strokes, valid folds, fold lists. Nothing of the program stands here.
-/
import Derived.Test.YtjmiackiikbodaaGreatPlainWord
namespace Go.Proofs.YtjmiackiikbodaaGreat.Pl
set_option maxRecDepth 100000

theorem and_two (s q : Nat) : s &&& 2 ^ q = if s.testBit q then 2 ^ q else 0 := by
  apply Nat.eq_of_testBit_eq
  intro j
  rw [Nat.testBit_and, Nat.testBit_two_pow]
  by_cases h : q = j
  · subst h
    cases hb : s.testBit q
    · simp
    · simp
  · rw [decide_eq_false h]
    cases hb : s.testBit q
    · simp
    · simp [h]
theorem or_two {s q : Nat} (hs : s < 2 ^ 40) (hq : q < 40) (h : s.testBit q = false) : s ||| 2 ^ q = s + 2 ^ q := by
  have hq2 : 2 ^ q < 2 ^ 40 := Nat.pow_lt_pow_right (by decide) hq
  have h0 : s &&& 2 ^ q = 0 := by rw [and_two, h]; rfl
  have e := BitVec.add_eq_or_of_and_eq_zero (w := 64) (BitVec.ofNat 64 s) (BitVec.ofNat 64 (2 ^ q)) (by
    apply BitVec.eq_of_toNat_eq
    rw [BitVec.toNat_and, BitVec.toNat_ofNat, BitVec.toNat_ofNat, Nat.mod_eq_of_lt (by omega), Nat.mod_eq_of_lt (by omega), h0]; rfl)
  have e2 := congrArg BitVec.toNat e
  rw [BitVec.toNat_add, BitVec.toNat_or, BitVec.toNat_ofNat, BitVec.toNat_ofNat, Nat.mod_eq_of_lt (a := s) (by omega), Nat.mod_eq_of_lt (a := 2 ^ q) (by omega), Nat.mod_eq_of_lt (by omega)] at e2
  exact e2.symm
/-- A stroke that has a key is the stroke without it and the key. -/
theorem split_two {s q : Nat} (hs : s < 2 ^ 40) (hq : q < 40) (h : s.testBit q = true) : 2 ^ q ≤ s ∧ (s - 2 ^ q).testBit q = false ∧ ∀ j, j ≠ q → (s - 2 ^ q).testBit j = s.testBit j := by
  have hle : 2 ^ q ≤ s := Nat.ge_two_pow_of_testBit h
  have hx : ∀ j, (s ^^^ 2 ^ q).testBit j = if j = q then false else s.testBit j := by
    intro j
    rw [Nat.testBit_xor, Nat.testBit_two_pow]
    by_cases hj : q = j
    · subst hj; simp [h]
    · rw [decide_eq_false hj, if_neg (by omega)]; simp
  have hf : (s ^^^ 2 ^ q).testBit q = false := by rw [hx]; simp
  have ho : (s ^^^ 2 ^ q) ||| 2 ^ q = s := by
    apply Nat.eq_of_testBit_eq
    intro j
    rw [Nat.testBit_or, hx, Nat.testBit_two_pow]
    by_cases hj : j = q
    · subst hj; simp [h]
    · have : ¬ q = j := fun e => hj e.symm
      rw [if_neg hj, decide_eq_false this]; simp
  have hxs : s ^^^ 2 ^ q < 2 ^ 40 := Nat.xor_lt_two_pow hs (Nat.pow_lt_pow_right (by decide) hq)
  have ha := or_two hxs hq hf
  have hs2 : s - 2 ^ q = s ^^^ 2 ^ q := by omega
  rw [hs2]
  exact ⟨hle, hf, fun j hj => by rw [hx, if_neg hj]⟩
/-- The stroke with its bit q cleared, as the and-not has it. -/
theorem andNot_two {s q : Nat} (hs : s < 2 ^ 40) (hq : q < 40) : (BitVec.ofNat 64 s &&& ~~~ BitVec.ofNat 64 (2 ^ q)).toNat = if s.testBit q then s - 2 ^ q else s := by
  have hq2 : 2 ^ q < 2 ^ 40 := Nat.pow_lt_pow_right (by decide) hq
  apply Nat.eq_of_testBit_eq
  intro j
  rw [BitVec.testBit_toNat, BitVec.getLsbD_and, BitVec.getLsbD_not, BitVec.getLsbD_ofNat, BitVec.getLsbD_ofNat, Nat.testBit_two_pow]
  by_cases hj : j < 64
  · simp only [hj, decide_true, Bool.true_and]
    by_cases hb : s.testBit q = true
    · obtain ⟨_, h1, h2⟩ := split_two hs hq hb
      rw [if_pos hb]
      by_cases hjq : j = q
      · subst hjq; simp [h1]
      · have : ¬ q = j := fun e => hjq e.symm
        rw [h2 j hjq, decide_eq_false this]; simp
    · rw [if_neg hb]
      by_cases hjq : q = j
      · subst hjq; simp; simpa using hb
      · rw [decide_eq_false hjq]; simp
  · have h1 : s.testBit j = false := Nat.testBit_lt_two_pow (Nat.lt_of_lt_of_le hs (Nat.pow_le_pow_right (by decide) (by omega)))
    have h2 : (s - 2 ^ q).testBit j = false := Nat.testBit_lt_two_pow (Nat.lt_of_lt_of_le (Nat.lt_of_le_of_lt (Nat.sub_le _ _) hs) (Nat.pow_le_pow_right (by decide) (by omega)))
    simp only [hj, decide_false, Bool.false_and]
    by_cases hb : s.testBit q = true
    · rw [if_pos hb, h2]
    · rw [if_neg hb, h1]

/-- Is the pair of a key and a suffix a valid fold? -/
def okF (e : Int × ByteArray) : Bool := (decide (13 ≤ e.1) && decide (e.1 ≤ 22)) && ((decide (1 ≤ e.2.size) && decide (e.2.size ≤ 8)) && e.2.data.toList.all letter)
theorem okF_parts {e : Int × ByteArray} (h : okF e = true) : (∃ q : Nat, e.1 = (q : Int) ∧ 13 ≤ q ∧ q ≤ 22) ∧ 1 ≤ e.2.size ∧ e.2.size ≤ 8 ∧ e.2.data.toList.all letter = true := by
  unfold okF at h
  simp only [Bool.and_eq_true, decide_eq_true_eq] at h
  obtain ⟨⟨h1, h2⟩, ⟨h3, h4⟩, h5⟩ := h
  exact ⟨⟨e.1.toNat, by omega, by omega, by omega⟩, h3, h4, h5⟩
theorem okF_word (k : Int) (t : ByteArray) : okF (k, t) = ((decide (13 ≤ k) && decide (k ≤ 22)) && (wordB t.data.toList && decide (t.size ≤ 8))) := by
  unfold okF wordB
  have e : t.data.toList.length = t.size := by simp
  rw [e]
  by_cases h : t.size ≤ 8
  · have h2 : t.size ≤ 24 := by omega
    simp [h, h2, Bool.and_comm]
  · simp [h]
theorem okF_key {k : Int} {t : ByteArray} (h : ¬ (13 ≤ k ∧ k ≤ 22)) : okF (k, t) = false := by
  unfold okF
  by_cases h1 : 13 ≤ k
  · have h2 : ¬ k ≤ 22 := by omega
    simp [h2]
  · simp [h1]
/-- A fold list: at most six valid folds with keys of their own. -/
def GoodFs (ls : List (Int × ByteArray)) : Prop := ls.length ≤ 6 ∧ (∀ e ∈ ls, okF e = true) ∧ (ls.map (·.1)).Nodup
instance (ls : List (Int × ByteArray)) : Decidable (GoodFs ls) := by unfold GoodFs; infer_instance
def okFs (ls : List (Int × ByteArray)) : Bool := decide (GoodFs ls)
theorem okFs_parts {ls : List (Int × ByteArray)} (h : okFs ls = true) : GoodFs ls := of_decide_eq_true h
theorem okFs_no_len {ls : List (Int × ByteArray)} (h : ¬ ls.length ≤ 6) : okFs ls = false := decide_eq_false fun g => h g.1
theorem okFs_no_at {ls : List (Int × ByteArray)} {k : Nat} {e : Int × ByteArray} (h : ls[k]? = some e) (he : okF e = false) : okFs ls = false :=
  decide_eq_false fun g => by have := g.2.1 e (List.mem_of_getElem? h); rw [he] at this; cases this
theorem apart_at {ls : List Int} (h : ls.Nodup) {i k : Nat} {x : Int} (hi : ls[i]? = some x) (hk : ls[k]? = some x) : i = k := by
  obtain ⟨h1, e1⟩ := List.getElem?_eq_some_iff.1 hi
  obtain ⟨h2, e2⟩ := List.getElem?_eq_some_iff.1 hk
  have hp := List.pairwise_iff_getElem.1 h
  rcases Nat.lt_trichotomy i k with hl | hl | hl
  · exact absurd (e1.trans e2.symm) (hp i k h1 h2 hl)
  · exact hl
  · exact absurd (e2.trans e1.symm) (hp k i h2 h1 hl)
theorem okFs_no_pair {ls : List (Int × ByteArray)} {i k : Nat} {e e' : Int × ByteArray} (hi : ls[i]? = some e) (hk : ls[k]? = some e') (hlt : k < i) (he : e'.1 = e.1) : okFs ls = false :=
  decide_eq_false fun g => by
    have := apart_at g.2.2 (i := i) (k := k) (x := e.1) (by rw [List.getElem?_map, hi]; rfl) (by rw [List.getElem?_map, hk, ← he]; rfl)
    omega
theorem okFs_yes {ls : List (Int × ByteArray)} (h1 : ls.length ≤ 6) (h2 : ∀ e ∈ ls, okF e = true) (h3 : (ls.map (·.1)).Nodup) : okFs ls = true := decide_eq_true ⟨h1, h2, h3⟩
/-- The folds that were gone through so far are valid and apart. -/
def UpTo (ls : List (Int × ByteArray)) (i : Nat) : Prop := (∀ e ∈ ls.take i, okF e = true) ∧ ((ls.take i).map (·.1)).Nodup
theorem UpTo.zero (ls : List (Int × ByteArray)) : UpTo ls 0 := ⟨fun e he => by simp at he, by simp⟩
theorem UpTo.next {ls : List (Int × ByteArray)} {i : Nat} (h : UpTo ls i) {e : Int × ByteArray} (he : ls[i]? = some e) (hf : okF e = true) (hk : ∀ k e', k < i → ls[k]? = some e' → e'.1 ≠ e.1) : UpTo ls (i + 1) := by
  have ht : ls.take (i + 1) = ls.take i ++ [e] := by rw [List.take_add_one, he]; rfl
  refine ⟨fun x hx => ?_, ?_⟩
  · rw [ht, List.mem_append, List.mem_singleton] at hx
    rcases hx with hx | rfl
    · exact h.1 x hx
    · exact hf
  · rw [ht, List.map_append, List.nodup_append]
    refine ⟨h.2, by simp, fun a ha b hb => ?_⟩
    simp at hb
    subst hb
    obtain ⟨x, hx, rfl⟩ := List.mem_map.1 ha
    obtain ⟨k, hk1, hk2⟩ := List.mem_take_iff_getElem.1 hx
    exact hk k x (by omega) (by rw [List.getElem?_eq_getElem (by omega), hk2])
theorem UpTo.all {ls : List (Int × ByteArray)} {i : Nat} (h : UpTo ls i) (hi : ls.length ≤ i) (h6 : ls.length ≤ 6) : okFs ls = true := by
  obtain ⟨h1, h2⟩ := h
  rw [List.take_of_length_le hi] at h1 h2
  exact okFs_yes h6 h1 h2
/-- The keys of the first folds, as bits. -/
def KeysUp (ls : List (Int × ByteArray)) (i m : Nat) : Prop := m < 8388608 ∧ ∀ q : Nat, q < 23 → (m.testBit q = true ↔ ∃ k e, k < i ∧ ls[k]? = some e ∧ e.1 = (q : Int))
theorem KeysUp.zero (ls : List (Int × ByteArray)) : KeysUp ls 0 0 := ⟨by omega, fun q _ => ⟨fun h => by simp at h, fun ⟨k, _, h, _⟩ => by omega⟩⟩
theorem KeysUp.next {ls : List (Int × ByteArray)} {i m : Nat} (h : KeysUp ls i m) {e : Int × ByteArray} (he : ls[i]? = some e) {q : Nat} (hq : q < 23) (heq : e.1 = (q : Int)) : KeysUp ls (i + 1) (m ||| 2 ^ q) := by
  have hq2 : 2 ^ q < 2 ^ 23 := Nat.pow_lt_pow_right (by decide) hq
  refine ⟨Nat.or_lt_two_pow (n := 23) h.1 hq2, fun r hr => ?_⟩
  rw [Nat.testBit_or, Nat.testBit_two_pow, Bool.or_eq_true, h.2 r hr, decide_eq_true_eq]
  constructor
  · rintro (⟨k, x, hk, hx, hxr⟩ | rfl)
    · exact ⟨k, x, by omega, hx, hxr⟩
    · exact ⟨i, e, by omega, he, heq⟩
  · rintro ⟨k, x, hk, hx, hxr⟩
    by_cases hki : k = i
    · subst hki
      rw [he] at hx; cases hx
      exact .inr (by omega)
    · exact .inl ⟨k, x, by omega, hx, hxr⟩
end Go.Proofs.YtjmiackiikbodaaGreat.Pl
