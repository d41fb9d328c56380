/-
  TRANSLATIONS: what was written is read as it was, and what was read is written as it stood.
-/
import Derived.Test.YtcpjpjdfddmncaaTransP
namespace Go.Proofs.Ytcpjpjdfddmncaa
set_option maxRecDepth 100000
open Go.RowKit

theorem word_no_space {t : List UInt8} (h : Pl.wordL t = true) : (32 : UInt8) ∉ t := fun hm => (Pl.wordC_ne ((Pl.word_parts h).2.2 _ hm)).2.2.2.2.2 rfl
theorem fmtA_no_space {k : Int} {t : List UInt8} (h : Pl.goodA k t = true) : (32 : UInt8) ∉ Pl.fmtA k t := by
  have key : (32 : UInt8) ∉ t := by
    unfold Pl.goodA at h
    split at h
    · exact word_no_space h
    · split at h
      · rw [Bool.or_eq_true, Bool.or_eq_true, beq_iff_eq, beq_iff_eq, beq_iff_eq] at h
        rcases h with (rfl | rfl) | rfl <;> decide
      · split at h
        · rw [Bool.or_eq_true, Bool.or_eq_true, beq_iff_eq, beq_iff_eq, beq_iff_eq] at h
          rcases h with (rfl | rfl) | rfl <;> decide
        · split at h
          · rw [beq_iff_eq] at h; subst h; decide
          · cases h
  unfold Pl.fmtA
  repeat' split
  all_goals first
    | exact key
    | (simp only [List.mem_append, not_or]; refine ⟨⟨by decide, key⟩, by decide⟩)
    | decide
theorem splitB_textB {ls : List (Int × ByteArray)} (h : okL ls = true) : Pl.splitB (textB ls) 32 = partsT ls := by
  obtain ⟨h1, _, h3, _⟩ := okL_parts h
  unfold Pl.splitB textB
  show Pl.ofLists (Pl.split 32 (Lib.join (Pl.texts (partsT ls)) [32])) = _
  rw [Pl.split_join]
  · unfold Pl.ofLists Pl.texts
    rw [List.map_map]
    conv => rhs; rw [← List.map_id (partsT ls)]
    exact List.map_congr_left fun x _ => rfl
  · intro e
    have : (Pl.texts (partsT ls)).length = ls.length := by unfold Pl.texts partsT; rw [List.length_map, List.length_map]
    rw [e] at this
    simp at this
    omega
  · intro x hx
    unfold Pl.texts partsT at hx
    rw [List.map_map] at hx
    obtain ⟨e, he, rfl⟩ := List.mem_map.1 hx
    exact fmtA_no_space (h3 e he)
theorem atomOf_fmtB {e : Int × ByteArray} (h : goodE e = true) : atomOf (fmtB e.1 e.2) = e := by
  obtain ⟨_, h2⟩ := Pl.par_fmtA e.1 (by8 e.2) h
  unfold atomOf
  rw [fmtB_list, h2]
theorem parL_textB {ls : List (Int × ByteArray)} (h : okL ls = true) : parLB (textB ls) = true ∧ parL (textB ls) = ls := by
  have hr : readL (textB ls) = ls := by
    unfold readL
    rw [splitB_textB h]
    unfold partsT
    rw [List.map_map]
    conv => rhs; rw [← List.map_id ls]
    exact List.map_congr_left fun e he => atomOf_fmtB ((okL_parts h).2.2.1 e he)
  have hs : (textB ls).size ≤ 60 := by
    obtain ⟨h1, _, _, h4⟩ := okL_parts h
    have := textB_size (ls := ls) (by intro e; rw [e] at h1; simp at h1)
    omega
  have hb : parLB (textB ls) = true := by
    unfold parLB
    rw [hr, h, Bool.and_true, decide_eq_true_eq]
    exact hs
  exact ⟨hb, by rw [parL_yes hb, hr]⟩
theorem textB_parL {s : ByteArray} (h : parLB s = true) : okL (parL s) = true ∧ textB (parL s) = s := by
  have hok : okL (readL s) = true := by
    unfold parLB at h
    rw [Bool.and_eq_true] at h
    exact h.2
  have hp : partsT (readL s) = Pl.splitB s 32 := by
    unfold partsT readL
    rw [List.map_map]
    conv => rhs; rw [← List.map_id (Pl.splitB s 32)]
    refine List.map_congr_left fun p hp => ?_
    have hg := (okL_parts hok).2.2.1 (atomOf p) (by unfold readL; exact List.mem_map_of_mem hp)
    have hy : Pl.parOk (by8 p) = true := by
      cases hq : Pl.parOk (by8 p) with
      | true => rfl
      | false => rw [atomOf_no hq] at hg; cases hg
    exact (atomOf_yes hy).2
  rw [parL_yes h]
  refine ⟨hok, ?_⟩
  unfold textB
  rw [hp, Pl.splitB_join]
end Go.Proofs.Ytcpjpjdfddmncaa
