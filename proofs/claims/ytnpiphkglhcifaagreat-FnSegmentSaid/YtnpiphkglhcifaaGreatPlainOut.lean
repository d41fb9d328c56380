/-
  PLAIN MATHEMATICS of chapter 4: outlines, their notation, their order. Nothing of the program stands here.
-/
import Derived.Test.YtnpiphkglhcifaaGreatPlainKeys
import Derived.Test.YtnpiphkglhcifaaGreatPlainSJ
namespace Go.Proofs.YtnpiphkglhcifaaGreat.Pl
set_option maxRecDepth 100000
open Go

/-! ### Notation -/
/-- The notation of an outline. -/
def fmt (l : List Nat) : List UInt8 := Lib.join (l.map nota) [47]
theorem join_two (c : UInt8) (x : List UInt8) (l : List (List UInt8)) (h : l ≠ []) : Lib.join (x :: l) [c] = x ++ c :: Lib.join l [c] := by
  cases l with
  | nil => exact absurd rfl h
  | cons y r => rw [Lib.join_cons, Lib.join_cons]; simp [Lib.joinTail]
theorem join_append (c : UInt8) (b : List (List UInt8)) (hb : b ≠ []) : ∀ a : List (List UInt8), a ≠ [] → Lib.join (a ++ b) [c] = Lib.join a [c] ++ c :: Lib.join b [c]
  | [], h => absurd rfl h
  | [x], _ => by rw [List.singleton_append, join_two c x b hb, Lib.join_one]
  | x :: y :: r, _ => by
    rw [List.cons_append, join_two c x _ (by simp), join_append c b hb (y :: r) (by simp), join_two c x (y :: r) (by simp)]
    simp
theorem fmt_one (n : Nat) : fmt [n] = nota n := by unfold fmt; rw [List.map_cons, List.map_nil, Lib.join_one]
theorem fmt_nil : fmt [] = [] := rfl
theorem fmt_append (a b : List Nat) (ha : a ≠ []) (hb : b ≠ []) : fmt (a ++ b) = fmt a ++ 47 :: fmt b := by
  unfold fmt
  rw [List.map_append, join_append 47 _ (by simpa using hb) _ (by simpa using ha)]
theorem fmt_snoc (l : List Nat) (n : Nat) (h : l ≠ []) : fmt (l ++ [n]) = fmt l ++ 47 :: nota n := by rw [fmt_append l [n] h (by simp), fmt_one]
theorem fmt_len (l : List Nat) : (fmt l).length ≤ 25 * l.length := by
  induction l with
  | nil => exact Nat.le_refl _
  | cons n l ih =>
    have hn := nota_len n
    cases l with
    | nil => rw [fmt_one]; simp; omega
    | cons m r =>
      have e := fmt_append [n] (m :: r) (by simp) (by simp)
      rw [List.singleton_append, fmt_one] at e
      rw [e, List.length_append, List.length_cons, List.length_cons (a := n)]
      omega
theorem lab_slash : ∀ k, k < 23 → labK k ≠ 47 := by decide
theorem nota_slash (n : Nat) : (47 : UInt8) ∉ nota n := by
  have hl : ∀ a b, b ≤ 23 → (47 : UInt8) ∉ labels n a b := by
    intro a b hb h
    unfold labels at h
    obtain ⟨k, hk, e⟩ := List.mem_map.1 h
    exact lab_slash k (by have := (mem_keysIn.1 hk).1.2; omega) e
  unfold nota
  intro h
  rw [List.mem_append, List.mem_append] at h
  rcases h with (h | h) | h
  · exact hl 0 13 (by decide) h
  · split at h
    · simp at h
    · cases h
  · exact hl 13 23 (by decide) h
theorem split_join (c : UInt8) : ∀ ls : List (List UInt8), ls ≠ [] → (∀ x ∈ ls, c ∉ x) → split c (Lib.join ls [c]) = ls
  | [], h, _ => absurd rfl h
  | [x], _, hc => by rw [Lib.join_one]; exact split_end c x (hc x (by simp))
  | x :: y :: r, _, hc => by
    rw [join_two c x _ (by simp), split_mid c _ x (hc x (by simp)), split_join c (y :: r) (by simp) (fun z hz => hc z (List.mem_cons_of_mem _ hz))]
theorem split_fmt (l : List Nat) (h : l ≠ []) : split 47 (fmt l) = l.map nota := by
  refine split_join 47 _ (by simpa using h) fun x hx => ?_
  obtain ⟨n, _, rfl⟩ := List.mem_map.1 hx
  exact nota_slash n
/-- The strokes of the parts. -/
def reading (t : List UInt8) : List Nat := (split 47 t).map strict
/-- The outline of a text; nothing if there is none. -/
def parse (t : List UInt8) : List Nat := if (reading t).length ≤ 6 ∧ (reading t).all (· != 0) = true then reading t else []
theorem reading_ne (t : List UInt8) : reading t ≠ [] := by unfold reading; simpa using split_ne_nil 47 t
theorem parse_yes {t : List UInt8} (h1 : (reading t).length ≤ 6) (h2 : ∀ n ∈ reading t, n ≠ 0) : parse t = reading t ∧ parse t ≠ [] := by
  have e : parse t = reading t := by
    unfold parse; rw [if_pos]; exact ⟨h1, by rw [List.all_eq_true]; exact fun n hn => by simpa using h2 n hn⟩
  exact ⟨e, by rw [e]; exact reading_ne t⟩
theorem parse_no_len {t : List UInt8} (h : 6 < (reading t).length) : parse t = [] := by unfold parse; rw [if_neg (fun q => by omega)]
theorem parse_no_at {t : List UInt8} {n : Nat} (h : n ∈ reading t) (h0 : n = 0) : parse t = [] := by
  unfold parse
  rw [if_neg]
  intro q
  have := List.all_eq_true.1 q.2 n h
  rw [h0] at this; simp at this
theorem parse_parts {t : List UInt8} (h : parse t ≠ []) : (reading t).length ≤ 6 ∧ (∀ n ∈ reading t, n ≠ 0) ∧ parse t = reading t := by
  unfold parse at h ⊢
  split at h
  · rename_i q
    rw [if_pos q]
    exact ⟨q.1, fun n hn => by simpa using List.all_eq_true.1 q.2 n hn, rfl⟩
  · exact absurd rfl h
theorem parse_ok (t : List UInt8) : (parse t).length ≤ 6 ∧ ∀ n ∈ parse t, n ≠ 0 ∧ n < 2 ^ 23 := by
  by_cases h : parse t = []
  · rw [h]; exact ⟨Nat.zero_le _, fun n hn => by cases hn⟩
  · obtain ⟨h1, h2, h3⟩ := parse_parts h
    rw [h3]
    refine ⟨h1, fun n hn => ⟨h2 n hn, ?_⟩⟩
    unfold reading at hn
    obtain ⟨p, _, rfl⟩ := List.mem_map.1 hn
    exact strict_lt p
/-- READING WHAT WAS WRITTEN. -/
theorem parse_fmt (l : List Nat) (h0 : l ≠ []) (h6 : l.length ≤ 6) (hv : ∀ n ∈ l, n ≠ 0 ∧ n < 2 ^ 23) : parse (fmt l) = l := by
  have e : reading (fmt l) = l := by
    unfold reading
    rw [split_fmt l h0, List.map_map]
    conv => rhs; rw [← List.map_id l]
    apply List.map_congr_left
    intro n hn
    exact strict_nota n (hv n hn).2
  have := (parse_yes (t := fmt l) (by rw [e]; exact h6) (by rw [e]; exact fun n hn => (hv n hn).1)).1
  rw [this, e]
/-- WRITING WHAT WAS READ. -/
theorem fmt_parse (t : List UInt8) (h : parse t ≠ []) : fmt (parse t) = t := by
  obtain ⟨_, h2, h3⟩ := parse_parts h
  rw [h3]
  unfold fmt
  have e : (reading t).map nota = split 47 t := by
    unfold reading at h2 ⊢
    rw [List.map_map]
    conv => rhs; rw [← List.map_id (split 47 t)]
    apply List.map_congr_left
    intro p hp
    exact (nota_strict p (h2 _ (List.mem_map_of_mem hp))).1
  rw [e, join_split]

/-! ### Order -/
/-- -1, 0 or 1. -/
def cmp : List Int → List Int → Int
  | [], [] => 0
  | [], _ :: _ => -1
  | _ :: _, [] => 1
  | x :: a, y :: b => if x < y then -1 else if y < x then 1 else cmp a b
theorem cmp_range : ∀ a b : List Int, cmp a b = -1 ∨ cmp a b = 0 ∨ cmp a b = 1
  | [], [] => .inr (.inl rfl)
  | [], _ :: _ => .inl rfl
  | _ :: _, [] => .inr (.inr rfl)
  | x :: a, y :: b => by
    unfold cmp
    split
    · exact .inl rfl
    · split
      · exact .inr (.inr rfl)
      · exact cmp_range a b
theorem cmp_neg : ∀ a b : List Int, cmp b a = -cmp a b
  | [], [] => rfl
  | [], _ :: _ => rfl
  | _ :: _, [] => rfl
  | x :: a, y :: b => by
    unfold cmp
    by_cases h1 : x < y
    · rw [if_pos h1, if_neg (by omega), if_pos h1]; rfl
    · by_cases h2 : y < x
      · rw [if_pos h2, if_neg h1, if_pos h2]
      · rw [if_neg h2, if_neg h1, if_neg h1, if_neg h2]; exact cmp_neg a b
theorem cmp_zero : ∀ a b : List Int, cmp a b = 0 ↔ a = b
  | [], [] => ⟨fun _ => rfl, fun _ => rfl⟩
  | [], _ :: _ => ⟨(fun h => by cases h), (fun h => by cases h)⟩
  | _ :: _, [] => ⟨(fun h => by cases h), (fun h => by cases h)⟩
  | x :: a, y :: b => by
    unfold cmp
    by_cases h1 : x < y
    · rw [if_pos h1]; exact ⟨fun h => (by cases h), fun h => by injection h with h; omega⟩
    · by_cases h2 : y < x
      · rw [if_neg h1, if_pos h2]; exact ⟨fun h => (by cases h), fun h => by injection h with h; omega⟩
      · rw [if_neg h1, if_neg h2, cmp_zero a b]
        have : x = y := by omega
        subst this
        simp
theorem cmp_trans : ∀ a b c : List Int, cmp a b ≤ 0 → cmp b c ≤ 0 → cmp a c ≤ 0
  | [], _, [], _, _ => by decide
  | [], _, _ :: _, _, _ => by show (-1 : Int) ≤ 0; decide
  | _ :: _, [], _, h, _ => absurd h (show ¬ ((1 : Int) ≤ 0) by decide)
  | _ :: _, _ :: _, [], _, h => absurd h (show ¬ ((1 : Int) ≤ 0) by decide)
  | x :: a, y :: b, z :: c, h1, h2 => by
    unfold cmp at h1 h2 ⊢
    by_cases a1 : x < y
    · by_cases b1 : y < z
      · rw [if_pos (by omega)]; decide
      · rw [if_neg b1] at h2
        by_cases b2 : z < y
        · rw [if_pos b2] at h2; exact absurd h2 (by decide)
        · rw [if_pos (by omega)]; decide
    · rw [if_neg a1] at h1
      by_cases a2 : y < x
      · rw [if_pos a2] at h1; exact absurd h1 (by decide)
      · rw [if_neg a2] at h1
        by_cases b1 : y < z
        · rw [if_pos (by omega)]; decide
        · rw [if_neg b1] at h2
          by_cases b2 : z < y
          · rw [if_pos b2] at h2; exact absurd h2 (by decide)
          · rw [if_neg b2] at h2
            rw [if_neg (by omega), if_neg (by omega)]
            exact cmp_trans a b c h1 h2
/-- A PREFIX COMES FIRST. -/
theorem cmp_prefix : ∀ p o : List Int, p <+: o → cmp p o ≤ 0
  | [], [], _ => by decide
  | [], _ :: _, _ => by show (-1 : Int) ≤ 0; decide
  | _ :: _, [], h => by cases List.prefix_nil.1 h
  | x :: p, y :: o, h => by
    obtain ⟨h1, h2⟩ := List.cons_prefix_cons.1 h
    subst h1
    unfold cmp
    rw [if_neg (by omega), if_neg (by omega)]
    exact cmp_prefix p o h2
/-- Two lists that agree up to k. -/
theorem cmp_drop {a b : List Int} {k : Nat} (h : a.take k = b.take k) (ha : k ≤ a.length) (hb : k ≤ b.length) : cmp a b = cmp (a.drop k) (b.drop k) := by
  induction k generalizing a b with
  | zero => rfl
  | succ k ih =>
    cases a with
    | nil => simp at ha
    | cons x a =>
      cases b with
      | nil => simp at hb
      | cons y b =>
        rw [List.take_succ_cons, List.take_succ_cons] at h
        injection h with h1 h2
        subst h1
        rw [List.drop_succ_cons, List.drop_succ_cons, ← ih h2 (by simpa using ha) (by simpa using hb)]
        show (if x < x then _ else if x < x then _ else cmp a b) = _
        rw [if_neg (by omega), if_neg (by omega)]
theorem cmp_at {a b : List Int} {k : Nat} {x y : Int} (h : a.take k = b.take k) (hx : a[k]? = some x) (hy : b[k]? = some y) : cmp a b = if x < y then -1 else if y < x then 1 else cmp (a.drop (k + 1)) (b.drop (k + 1)) := by
  obtain ⟨ha, e1⟩ := List.getElem?_eq_some_iff.1 hx
  obtain ⟨hb, e2⟩ := List.getElem?_eq_some_iff.1 hy
  rw [cmp_drop h (by omega) (by omega), List.drop_eq_getElem_cons ha, List.drop_eq_getElem_cons hb, e1, e2]
  rfl
theorem cmp_end {a b : List Int} {k : Nat} (h : a.take k = b.take k) (ha : k ≤ a.length) (hb : k ≤ b.length) (he : k = a.length ∨ k = b.length) : cmp a b = if a.length < b.length then -1 else if b.length < a.length then 1 else 0 := by
  rw [cmp_drop h ha hb]
  rcases he with rfl | rfl
  · rw [List.drop_length]
    cases hd : b.drop a.length with
    | nil =>
      have := List.drop_eq_nil_iff.1 hd
      rw [if_neg (by omega), if_neg (by omega)]; rfl
    | cons y r =>
      have hl : (b.drop a.length).length = r.length + 1 := by rw [hd]; rfl
      rw [List.length_drop] at hl
      rw [if_pos (by omega)]; rfl
  · rw [List.drop_length]
    cases hd : a.drop b.length with
    | nil =>
      have := List.drop_eq_nil_iff.1 hd
      rw [if_neg (by omega), if_neg (by omega)]; rfl
    | cons y r =>
      have hl : (a.drop b.length).length = r.length + 1 := by rw [hd]; rfl
      rw [List.length_drop] at hl
      rw [if_neg (by omega), if_pos (by omega)]; rfl
theorem take_next {a b : List Int} {k : Nat} {x : Int} (h : a.take k = b.take k) (hx : a[k]? = some x) (hy : b[k]? = some x) : a.take (k + 1) = b.take (k + 1) := by
  rw [List.take_add_one, List.take_add_one, h, hx, hy]
end Go.Proofs.YtnpiphkglhcifaaGreat.Pl
