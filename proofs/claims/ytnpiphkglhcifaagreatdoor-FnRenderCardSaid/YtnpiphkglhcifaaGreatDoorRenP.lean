/-
  PLAIN FACTS of FnRender: a list of words renders us the words with spaces between them; of FnFormat: a list applied in two parts.
-/
import Derived.Test.YtnpiphkglhcifaaGreatDoorFm
import Derived.Test.YtnpiphkglhcifaaGreatDoorPlainJoin
namespace Go.Proofs.YtnpiphkglhcifaaGreatDoor
set_option maxRecDepth 100000
open Go.RowKit

theorem toCase_0 (b : UInt8) : toCase 0 b = b := by unfold toCase; rw [if_neg (by decide), if_neg (by decide)]
theorem caseB_0 (x : ByteArray) : caseB x 0 = x := by
  apply by8_inj
  show caseL 0 (by8 x) = by8 x
  cases by8 x with
  | nil => rfl
  | cons b l => show toCase 0 b :: l = b :: l; rw [toCase_0]
def wAt (ls : List (Int × ByteArray)) : List (Int × ByteArray) := ls.filter fun e => e.1 == 1
def wTx (ls : List (Int × ByteArray)) : List ByteArray := (wAt ls).map (·.2)
theorem wAt_next {ls : List (Int × ByteArray)} {k : Nat} {e : Int × ByteArray} (h : ls[k]? = some e) (he : e.1 = 1) : wAt (ls.take (k + 1)) = wAt (ls.take k) ++ [e] := by
  unfold wAt
  rw [List.take_add_one, h, Option.toList_some, List.filter_append]
  simp [he]
theorem wAt_skip {ls : List (Int × ByteArray)} {k : Nat} {e : Int × ByteArray} (h : ls[k]? = some e) (he : e.1 ≠ 1) : wAt (ls.take (k + 1)) = wAt (ls.take k) := by
  unfold wAt
  rw [List.take_add_one, h, Option.toList_some, List.filter_append]
  simp [he]
theorem wAt_len (ls : List (Int × ByteArray)) : (wAt ls).length ≤ ls.length := List.length_filter_le _ _
theorem wAt_mem {ls : List (Int × ByteArray)} {e : Int × ByteArray} (h : e ∈ wAt ls) : e ∈ ls ∧ e.1 = 1 := by
  unfold wAt at h
  rw [List.mem_filter, beq_iff_eq] at h
  exact h
theorem words_run (p : Int) (hp : 0 ≤ p) : ∀ (us : List (Int × ByteArray)) (T : ByteArray), prB T = true → p ≤ T.size → T.size + 21 * us.length ≤ 2000 → (∀ e ∈ us, e.1 = 1 ∧ goodE e = true) →
    ∃ s, runL ⟨T, false, false, 0, p⟩ us = some s ∧ by8 s.t = by8 T ++ Lib.joinTail [32] (us.map fun e => by8 e.2) := by
  intro us
  induction us generalizing p with
  | nil => exact fun T _ _ _ _ => ⟨_, rfl, by show by8 T = by8 T ++ (List.map _ []).flatten; simp⟩
  | cons e us ih =>
    intro T hT hpT hl hg
    obtain ⟨k, x⟩ := e
    obtain ⟨hk, hge⟩ := hg (k, x) (by simp)
    simp only at hk
    subst hk
    have ha : Pl.goodA 1 (by8 x) = true := hge
    have hx := goodA_len ha
    have hok : okSt ⟨T, false, false, 0, p⟩ = true := okSt_mk (by show T.size ≤ 2000; omega) hT (by show (0 : Int) ≤ 0; omega) (by show (0 : Int) ≤ 2; omega) hp hpT
    have hs := stepS_yes hok ha
    rw [app_1] at hs
    have hb : baseT ⟨T, false, false, 0, p⟩ = T ++ ⟨#[32]⟩ := rfl
    simp only [putS, hb, caseB_0] at hs
    have hbs : (T ++ (⟨#[32]⟩ : ByteArray)).size = T.size + 1 := by rw [ByteArray.size_append]; rfl
    have hsz : ((T ++ (⟨#[32]⟩ : ByteArray)) ++ x).size = T.size + 1 + x.size := by rw [ByteArray.size_append, hbs]
    rw [List.length_cons] at hl
    rw [if_pos (by rw [hsz]; omega)] at hs
    obtain ⟨s, h1, h2⟩ := ih ((T ++ (⟨#[32]⟩ : ByteArray)).size : Int) (Int.natCast_nonneg _) ((T ++ ⟨#[32]⟩) ++ x) (by rw [prB_app, prB_app, hT, goodA_pr ha]; rfl) (by rw [hsz, hbs]; omega) (by rw [hsz]; omega) (fun y hy => hg y (by simp [hy]))
    refine ⟨s, ?_, ?_⟩
    · show (stepS _ _).bind _ = _
      rw [hs]
      exact h1
    · rw [h2, by8_app, by8_app]
      show _ = by8 T ++ (([32] ++ by8 x) :: (us.map fun e => by8 e.2).map ([32] ++ ·)).flatten
      rw [List.flatten_cons]
      show (by8 T ++ [32] ++ by8 x) ++ Lib.joinTail [32] _ = _
      simp [Lib.joinTail, List.append_assoc]
theorem render_words {us : List (Int × ByteArray)} (hl : us.length ≤ 8) (hg : ∀ e ∈ us, e.1 = 1 ∧ goodE e = true) :
    ∃ s, runS (newS ⟨#[]⟩) us = some s ∧ by8 s.t = Lib.join (Pl.texts (us.map (·.2))) [32] := by
  have e0 : runS (newS ⟨#[]⟩) us = runL (newS ⟨#[]⟩) us := by
    unfold runS
    rw [show okSt (newS ⟨#[]⟩) = true from rfl, decide_eq_true (by omega : us.length ≤ 600)]
    rfl
  rw [e0]
  cases us with
  | nil => exact ⟨_, rfl, rfl⟩
  | cons e us =>
    obtain ⟨k, x⟩ := e
    obtain ⟨hk, hge⟩ := hg (k, x) (by simp)
    simp only at hk
    subst hk
    have ha : Pl.goodA 1 (by8 x) = true := hge
    have hx := goodA_len ha
    have hs := stepS_yes (s := newS ⟨#[]⟩) rfl ha
    rw [app_1] at hs
    have hb : baseT (newS ⟨#[]⟩) = ⟨#[]⟩ := rfl
    have hc : (newS ⟨#[]⟩).c = 0 := rfl
    simp only [putS, hb, hc, caseB_0] at hs
    have hsz : ((⟨#[]⟩ : ByteArray) ++ x).size = x.size := by rw [ByteArray.size_append]; exact Nat.zero_add _
    rw [if_pos (by rw [hsz]; omega)] at hs
    rw [List.length_cons] at hl
    obtain ⟨s, h1, h2⟩ := words_run ((⟨#[]⟩ : ByteArray).size : Int) (Int.natCast_nonneg _) us (⟨#[]⟩ ++ x) (by rw [prB_app, goodA_pr ha]; rfl) (by rw [hsz]; show (0 : Int) ≤ _; omega) (by rw [hsz]; omega) (fun y hy => hg y (by simp [hy]))
    refine ⟨s, ?_, ?_⟩
    · show (stepS _ _).bind _ = _
      rw [hs]
      exact h1
    · rw [h2, by8_app]
      show [] ++ by8 x ++ _ = Lib.join (by8 x :: Pl.texts (us.map (·.2))) [32]
      rw [Lib.join_cons, List.nil_append]
      congr 1
      unfold Pl.texts
      rw [List.map_map]
      rfl
theorem words_join {us : List (Int × ByteArray)} (hl : us.length ≤ 8) (hne : us ≠ []) (hg : ∀ e ∈ us, e.1 = 1 ∧ goodE e = true) : Pl.JoinOk (us.map (·.2)) 32 := by
  obtain ⟨s, h1, h2⟩ := render_words hl hg
  refine ⟨by simp [hne], ?_, ?_⟩
  · intro x hx
    obtain ⟨e, he, rfl⟩ := List.mem_map.1 hx
    have h := hg e he
    have ha : Pl.goodA e.1 (by8 e.2) = true := h.2
    rw [h.1] at ha
    unfold Pl.goodA at ha
    rw [if_pos (by omega)] at ha
    unfold Pl.has
    rw [decide_eq_false]
    exact fun hm => (Pl.wordC_ne ((Pl.word_parts ha).2.2 _ hm)).2.2.2.2.2 rfl
  · rw [← h2, by8_len]
    have hr : runS (newS ⟨#[]⟩) us = some s := h1
    unfold runS at hr
    split at hr
    · rename_i hc
      rw [Bool.and_eq_true] at hc
      have := (okSt_parts (runL_ok hc.1 hr)).1
      omega
    · cases hr
/-- A list applied in two parts. -/
theorem run_parts {s t : St} {l : List (Int × ByteArray)} (k : Nat) (h : runS s l = some t) : ∃ u, runS s (l.take k) = some u ∧ u.t.size ≤ 2000 ∧ runS u (l.drop k) = some t ∧ okSt t = true ∧ t.t.size ≤ 2000 := by
  unfold runS at h
  split at h
  · rename_i hc
    rw [Bool.and_eq_true, decide_eq_true_eq] at hc
    have ht := runL_ok hc.1 h
    rw [← List.take_append_drop k l, runL_app] at h
    cases hu : runL s (l.take k) with
    | none => rw [hu] at h; cases h
    | some u =>
      rw [hu] at h
      have hku := runL_ok hc.1 hu
      refine ⟨u, ?_, (okSt_parts hku).1, ?_, ht, (okSt_parts ht).1⟩
      · unfold runS
        rw [hc.1, decide_eq_true (by rw [List.length_take]; omega : (l.take k).length ≤ 600)]
        exact hu
      · unfold runS
        rw [hku, decide_eq_true (by rw [List.length_drop]; omega : (l.drop k).length ≤ 600)]
        exact h
  · cases h
end Go.Proofs.YtnpiphkglhcifaaGreatDoor
