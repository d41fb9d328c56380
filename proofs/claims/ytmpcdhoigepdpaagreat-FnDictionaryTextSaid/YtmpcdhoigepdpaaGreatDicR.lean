/-
  A WRITTEN DICTIONARY IS READ AS IT WAS, and the other way round: plain facts.
-/
import Derived.Test.YtmpcdhoigepdpaaGreatPD
namespace Go.Proofs.YtmpcdhoigepdpaaGreat
set_option maxRecDepth 100000
open Go

theorem Pl.mem_join {c : UInt8} {sep : List UInt8} : ∀ {ls : List (List UInt8)}, c ∈ Lib.join ls sep → (∃ x ∈ ls, c ∈ x) ∨ c ∈ sep
  | [], h => by simp [Lib.join] at h
  | [x], h => by rw [Lib.join_one] at h; exact .inl ⟨x, by simp, h⟩
  | x :: y :: r, h => by
    have e : Lib.join (x :: y :: r) sep = x ++ sep ++ Lib.join (y :: r) sep := by simp [Lib.join]
    rw [e, List.mem_append, List.mem_append] at h
    rcases h with (h | h) | h
    · exact .inl ⟨x, by simp, h⟩
    · exact .inr h
    · rcases Pl.mem_join h with ⟨z, hz, hc⟩ | h
      · exact .inl ⟨z, List.mem_cons_of_mem _ hz, hc⟩
      · exact .inr h
theorem Pl.nota_not (c : UInt8) (hc : ∀ k, k < 23 → Pl.labK k ≠ c) (h45 : c ≠ 45) (n : Nat) : c ∉ Pl.nota n := by
  have hl : ∀ a b, b ≤ 23 → c ∉ Pl.labels n a b := by
    intro a b hb h
    unfold Pl.labels at h
    obtain ⟨k, hk, e⟩ := List.mem_map.1 h
    exact hc k (by have := (Pl.mem_keysIn.1 hk).1.2; omega) e
  unfold Pl.nota
  intro h
  rw [List.mem_append, List.mem_append] at h
  rcases h with (h | h) | h
  · exact hl 0 13 (by decide) h
  · split at h
    · simp at h; exact h45 h
    · cases h
  · exact hl 13 23 (by decide) h
theorem Pl.fmt_not (c : UInt8) (hc : ∀ k, k < 23 → Pl.labK k ≠ c) (h45 : c ≠ 45) (h47 : c ≠ 47) (l : List Nat) : c ∉ Pl.fmt l := by
  unfold Pl.fmt
  intro h
  rcases Pl.mem_join h with ⟨x, hx, hcx⟩ | h
  · obtain ⟨n, _, rfl⟩ := List.mem_map.1 hx
    exact Pl.nota_not c hc h45 n hcx
  · simp at h; exact h47 h
theorem Pl.lab_10 : ∀ k, k < 23 → Pl.labK k ≠ 10 := by decide
theorem Pl.lab_32 : ∀ k, k < 23 → Pl.labK k ≠ 32 := by decide
theorem Pl.wordC_10 : Pl.wordC 10 = false := by decide
theorem Pl.goodA_not {k : Int} {t : List UInt8} (h : Pl.goodA k t = true) : (10 : UInt8) ∉ t := by
  unfold Pl.goodA at h
  intro hm
  split at h
  · have := (Pl.word_parts h).2.2 10 hm
    rw [Pl.wordC_10] at this; cases this
  · split at h
    · simp at h; rcases h with (h | h) | h <;> (subst h; simp at hm)
    · split at h
      · simp at h; rcases h with (h | h) | h <;> (subst h; simp at hm)
      · split at h
        · simp at h; subst h; simp at hm
        · cases h
theorem Pl.fmtA_not {k : Int} {t : List UInt8} (h : Pl.goodA k t = true) : (10 : UInt8) ∉ Pl.fmtA k t := by
  have ht := Pl.goodA_not h
  unfold Pl.fmtA
  repeat' split
  all_goals simp [ht]
theorem text_not {t : ByteArray} (h : parLB t = true) : (10 : UInt8) ∉ t.data.toList := by
  obtain ⟨h1, h2⟩ := textB_parL h
  rw [← h2]
  unfold textB
  intro hm
  rcases Pl.mem_join (by simpa using hm) with ⟨x, hx, hc⟩ | h
  · unfold Pl.texts partsT at hx
    rw [List.map_map] at hx
    obtain ⟨e, he, rfl⟩ := List.mem_map.1 hx
    have hg := (okL_parts h1).2.2.1 e he
    unfold goodE at hg
    have := Pl.fmtA_not hg
    unfold fmtB at hc
    simp only [Function.comp_apply] at hc
    exact this (by simpa using hc)
  · simp at h
/-- The line of an entry, without its end. -/
def lineL (e : Ent) : List UInt8 := Pl.fmt (outN e.1) ++ (32 :: e.2.data.toList)
theorem lineT_L (e : Ent) : (lineT e).data.toList = lineL e ++ [10] := by
  unfold lineT lineL fmtT
  simp [ByteArray.data_append]
theorem lineL_not {e : Ent} (h : okE e = true) : (10 : UInt8) ∉ lineL e := by
  unfold lineL
  intro hm
  rcases List.mem_append.1 hm with h' | h'
  · exact Pl.fmt_not 10 Pl.lab_10 (by decide) (by decide) _ h'
  · rcases List.mem_cons.1 h' with h' | h'
    · exact absurd h' (by decide)
    · exact text_not (okE_O h).2 h'
theorem split_lines : ∀ {es : List Ent}, (∀ e ∈ es, okE e = true) → Pl.split 10 (es.flatMap fun e => (lineT e).data.toList) = es.map lineL ++ [[]]
  | [], _ => rfl
  | e :: r, h => by
    rw [List.flatMap_cons, lineT_L, List.append_assoc]
    show Pl.split 10 (lineL e ++ 10 :: (r.flatMap fun e => (lineT e).data.toList)) = _
    rw [Pl.split_mid 10 _ (lineL e) (lineL_not (h e (by simp))), split_lines (fun x hx => h x (List.mem_cons_of_mem _ hx))]
    rfl
theorem outN_outI' (l : List Nat) : outN (outI l) = l := by
  unfold outN outI
  rw [List.map_map]
  conv => rhs; rw [← List.map_id l]
  exact List.map_congr_left fun n _ => rfl
theorem outI_outN' {xs : List Int} (h : ∀ x ∈ xs, okS x = true) : outI (outN xs) = xs := by
  unfold outN outI
  rw [List.map_map]
  conv => rhs; rw [← List.map_id xs]
  exact List.map_congr_left fun n hn => by
    have := okS_iff.1 (h n hn)
    show ((n.toNat : Nat) : Int) = n
    omega
theorem parI_fmt {xs : List Int} (h : okO xs = true) : parI (fmtT xs) = xs := by
  obtain ⟨h1, h6, hv⟩ := okO_parts h
  have e : Pl.parse (fmtT xs).data.toList = outN xs := by
    unfold fmtT
    refine Pl.parse_fmt (outN xs) ?_ (by rw [outN_len]; exact h6) ?_
    · intro e
      have := outN_len xs
      rw [e] at this
      simp at this
      omega
    · intro n hn
      unfold outN at hn
      obtain ⟨x, hx, rfl⟩ := List.mem_map.1 hn
      have := okS_iff.1 (hv x hx)
      omega
  unfold parI
  rw [e]
  exact outI_outN' hv
theorem entP_line {e : Ent} (h : okE e = true) : entP (lineL e) = e := by
  have hc := Pl.cut_mid (c := 32) (a := Pl.fmt (outN e.1)) (b := e.2.data.toList) (Pl.fmt_not 32 Pl.lab_32 (by decide) (by decide) _)
  unfold entP lineL
  rw [hc.1, hc.2]
  have h1 := parI_fmt (okE_O h).1
  unfold fmtT at h1
  rw [h1]
theorem cand_dic {es : List Ent} (h : ∀ e ∈ es, okE e = true) : candP (dicT es).data.toList = es ∧ restP (dicT es).data.toList = [] := by
  have hs := split_lines h
  rw [← dicT_flat] at hs
  obtain ⟨h1, h2⟩ := lines_of hs
  refine ⟨?_, h2⟩
  unfold candP
  rw [h1, List.map_map]
  conv => rhs; rw [← List.map_id es]
  exact List.map_congr_left fun e he => entP_line (h e he)
/-- What was written is read as it was. -/
theorem parD_fmtD {es : List Ent} (h : fmtDB es = true) : parDB (fmtDS es) = true ∧ parD (fmtDS es) = es := by
  unfold fmtDS
  rw [if_pos h]
  unfold fmtDB at h
  rw [Bool.and_eq_true, decide_eq_true_eq] at h
  obtain ⟨hc, hr⟩ := cand_dic (okD_parts h.1).2.1
  have hb : parDB (dicT es) = true := parDB_ok h.2 hr (by rw [hc]; exact h.1)
  exact ⟨hb, by rw [parD_yes hb, hc]⟩
/-- What was read is written as it stood. -/
theorem fmtD_parD {s : ByteArray} (h : parDB s = true) : fmtDB (parD s) = true ∧ fmtDS (parD s) = s := by
  have hp := parD_yes h
  unfold parDB at h
  rw [Bool.and_eq_true, Bool.and_eq_true, decide_eq_true_eq, beq_iff_eq] at h
  obtain ⟨h4, hr, hd⟩ := h
  have ht := cand_text (okD_parts hd).2.1
  rw [hr, List.append_nil] at ht
  have hs : dicT (candP s.data.toList) = s := ByteArray.ext (Array.toList_inj.1 ht)
  have hb : fmtDB (parD s) = true := by
    rw [hp]
    exact fmtDB_ok hd (by rw [hs]; exact h4)
  refine ⟨hb, ?_⟩
  unfold fmtDS
  rw [if_pos hb, hp, hs]
theorem fmtDS_size (es : List Ent) : (fmtDS es).size ≤ 4000 := by
  unfold fmtDS
  split
  · rename_i h
    unfold fmtDB at h
    rw [Bool.and_eq_true, decide_eq_true_eq] at h
    exact h.2
  · exact Nat.zero_le _
end Go.Proofs.YtmpcdhoigepdpaaGreat
