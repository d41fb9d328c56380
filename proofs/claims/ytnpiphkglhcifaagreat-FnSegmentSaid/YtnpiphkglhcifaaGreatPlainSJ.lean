/-
  PLAIN MATHEMATICS: splitting and joining are inverse; the order of texts is strict. Nothing of the program stands here.
-/
import Derived.Test.YtnpiphkglhcifaaGreatPlainJoin
import Derived.Test.YtnpiphkglhcifaaGreatPlainSplit
import Derived.Laws.Strings
namespace Go.Proofs.YtnpiphkglhcifaaGreat.Pl
set_option maxRecDepth 100000
open Go

theorem texts_of (ls : List (List UInt8)) : texts (ofLists ls) = ls := by
  unfold texts ofLists
  rw [List.map_map]
  conv => rhs; rw [← List.map_id ls]
  apply List.map_congr_left
  intro l _
  simp

theorem join_split (c : UInt8) : ∀ l : List UInt8, Lib.join (split c l) [c] = l
  | [] => rfl
  | x :: l => by
    have ih := join_split c l
    unfold split
    by_cases h : x = c
    · rw [if_pos h, Lib.join_cons]
      cases hs : split c l with
      | nil => exact absurd hs (split_ne_nil c l)
      | cons p r =>
        rw [hs, Lib.join_cons] at ih
        rw [← ih, h]
        simp [Lib.joinTail]
    · rw [if_neg h]
      cases hs : split c l with
      | nil => exact absurd hs (split_ne_nil c l)
      | cons p r =>
        rw [hs, Lib.join_cons] at ih
        show Lib.join ((x :: p) :: r) [c] = _
        rw [Lib.join_cons, ← ih]; rfl

theorem split_no (c : UInt8) : ∀ (l : List UInt8), ∀ p ∈ split c l, c ∉ p
  | [], p, hp => by simp [split] at hp; subst hp; simp
  | x :: l, p, hp => by
    have ih := split_no c l
    unfold split at hp
    by_cases h : x = c
    · rw [if_pos h, List.mem_cons] at hp
      rcases hp with rfl | hp
      · simp
      · exact ih p hp
    · rw [if_neg h] at hp
      cases hs : split c l with
      | nil => exact absurd hs (split_ne_nil c l)
      | cons q r =>
        rw [hs] at hp ih
        simp only [List.mem_cons] at hp
        rcases hp with rfl | hp
        · rw [List.mem_cons, not_or]
          exact ⟨fun e => h e.symm, ih q (by simp)⟩
        · exact ih p (by simp [hp])

theorem splitB_join (s : ByteArray) (c : UInt8) : Lib.join (texts (splitB s c)) [c] = s.data.toList := by
  unfold splitB; rw [texts_of, join_split]
theorem splitB_ok (s : ByteArray) (c : UInt8) (hs : s.size ≤ 4000) : JoinOk (splitB s c) c := by
  refine ⟨?_, ?_, ?_⟩
  · unfold splitB ofLists
    intro e
    exact split_ne_nil c _ (List.map_eq_nil_iff.1 e)
  · intro x hx
    unfold splitB ofLists at hx
    rw [List.mem_map] at hx
    obtain ⟨l, hl, rfl⟩ := hx
    unfold has
    simpa using split_no c _ l hl
  · rw [splitB_join, data_len]; exact hs
theorem splitB_len (s : ByteArray) (c : UInt8) : (splitB s c).length ≤ s.size + 1 := by
  have key : ∀ l : List UInt8, (split c l).length ≤ l.length + 1 := by
    intro l
    induction l with
    | nil => simp [split]
    | cons x l ih =>
      unfold split
      split
      · simp; omega
      · split
        · simp
        · rename_i e; rw [e] at ih; simp at ih ⊢; omega
  have := key s.data.toList
  rw [data_len] at this
  show (ofLists _).length ≤ _
  unfold ofLists; rw [List.length_map]; exact this
theorem le_sum {n : Nat} : ∀ l : List Nat, n ∈ l → n ≤ l.sum
  | [], h => by cases h
  | m :: l, h => by
    rw [List.mem_cons] at h
    rw [List.sum_cons]
    rcases h with rfl | h
    · omega
    · have := le_sum l h; omega
theorem splitB_size (s : ByteArray) (c : UInt8) : ∀ x ∈ splitB s c, x.size ≤ s.size := by
  intro x hx
  have h1 : (texts (splitB s c)).map List.length |>.sum |> (· ≤ s.size) := by
    show Lib.lens _ ≤ _
    have hne : splitB s c ≠ [] := by rintro e; rw [e] at hx; cases hx
    have h2 := join_len (splitB s c) c hne
    rw [splitB_join, data_len] at h2
    have : 0 < (splitB s c).length := List.length_pos_iff.2 hne
    omega
  have h3 : x.data.toList.length ≤ ((texts (splitB s c)).map List.length).sum := by
    apply le_sum
    rw [List.mem_map]
    exact ⟨_, List.mem_map_of_mem hx, rfl⟩
  rw [data_len] at h3
  exact Nat.le_trans h3 h1

/-- The order of texts. -/
def less (a b : ByteArray) : Bool := Op.bytesLess a.toList b.toList
theorem less_asym (a b : ByteArray) (h : less a b = true) : less b a = false := by
  have key : ∀ x y : List UInt8, Op.bytesLess x y = true → Op.bytesLess y x = false := by
    intro x
    induction x with
    | nil => intro y h; cases y <;> simp [Op.bytesLess] at h ⊢
    | cons a x ih =>
      intro y h
      cases y with
      | nil => simp [Op.bytesLess] at h
      | cons b y =>
        simp only [Op.bytesLess, Bool.or_eq_true, decide_eq_true_eq, Bool.and_eq_true, beq_iff_eq] at h
        simp only [Op.bytesLess, Bool.or_eq_false_iff, decide_eq_false_iff_not, Bool.and_eq_false_iff, beq_eq_false_iff_ne]
        rw [UInt8.lt_iff_toNat_lt] at h ⊢
        rcases h with h | ⟨rfl, h⟩
        · exact ⟨by omega, .inl fun e => by rw [e] at h; omega⟩
        · exact ⟨by omega, .inr (ih y h)⟩
  exact key _ _ h
end Go.Proofs.YtnpiphkglhcifaaGreat.Pl
