/-
  CONTRACTS of the program's chapter 5, the fourth part: FormatTranslation.
-/
import Derived.Test.YtcpjpjdfddmncaaImpl5C
import Derived.Test.YtcpjpjdfddmncaaTransR
import Derived.Test.YtcpjpjdfddmncaaJoin
namespace Go.Proofs.Ytcpjpjdfddmncaa
set_option maxRecDepth 100000
open Go.RowKit

theorem partsT_len (ls : List Atm) : (partsT ls).length = ls.length := by unfold partsT; rw [List.length_map]
theorem goodE_small {e : Atm} (h : goodE e = true) : e.2.size ≤ 20 := by
  unfold goodE at h
  have hl : (by8 e.2).length = e.2.size := Pl.data_len e.2
  rw [← hl]
  unfold Pl.goodA at h
  split at h
  · exact (Pl.word_parts h).2.1
  · split at h
    · simp only [Bool.or_eq_true, beq_iff_eq] at h
      rcases h with (h | h) | h <;> (rw [h]; decide)
    · split at h
      · simp only [Bool.or_eq_true, beq_iff_eq] at h
        rcases h with (h | h) | h <;> (rw [h]; decide)
      · split at h
        · rw [beq_iff_eq] at h; rw [h]; decide
        · cases h
theorem sumF_small {ls : List Atm} (h : ∀ e ∈ ls, goodE e = true) : sumF ls ≤ 25 * ls.length := by
  induction ls with
  | nil => simp [sumF]
  | cons e l ih =>
    have h1 := ih fun e he => h e (List.mem_cons_of_mem _ he)
    have h2 := goodE_small (h e List.mem_cons_self)
    have h3 := fmtB_size e.1 e.2
    unfold sumF at h1 ⊢
    rw [List.map_cons, List.sum_cons, List.length_cons]
    omega
theorem parts_ok {ls : List Atm} (h0 : 0 < ls.length) (h10 : ls.length ≤ 10) (h : ∀ e ∈ ls, goodE e = true) : Pl.JoinOk (partsT ls) 32 := by
  refine Pl.ok_of (by intro e; have := partsT_len ls; rw [e] at this; simp at this; omega) ?_ ?_
  · intro x hx
    obtain ⟨e, he, rfl⟩ := List.mem_map.1 hx
    have h1 := h e he
    unfold goodE at h1
    have := fmtA_no_space h1
    show Pl.has (by8 (fmtB e.1 e.2)) 32 = false
    rw [fmtB_list]
    unfold Pl.has
    simpa using this
  · rw [partsT_len, lens_parts]
    have := sumF_small h
    omega
theorem parts_size {ls : List Atm} (h : ∀ e ∈ ls, goodE e = true) : ∀ x ∈ partsT ls, x.size ≤ 2097152 := by
  intro x hx
  obtain ⟨e, he, rfl⟩ := List.mem_map.1 hx
  have h1 := goodE_small (h e he)
  have h2 := fmtB_size e.1 e.2
  omega
theorem fmtLE_no {ls : List Atm} (h : okL ls = false) : fmtLE ls = .returned (.tuple #[.string ⟨#[]⟩, .bool false]) := by unfold fmtLE fmtLS; rw [h]; rfl
theorem fmtLE_yes {ls : List Atm} (h : okL ls = true) : fmtLE ls = .returned (.tuple #[.string (textB ls), .bool true]) := by unfold fmtLE fmtLS; rw [h]; rfl
theorem okL_end {ls : List Atm} (h0 : 0 < ls.length) (h10 : ls.length ≤ 10) (h : ls.all goodE = true) : okL ls = decide ((textB ls).size ≤ 60) := by
  rw [okL_all h0 h10 h, decide_eq_decide]
  have := textB_size (ls := ls) (by intro e; rw [e] at h0; cases h0)
  omega

end Go.Proofs.Ytcpjpjdfddmncaa
