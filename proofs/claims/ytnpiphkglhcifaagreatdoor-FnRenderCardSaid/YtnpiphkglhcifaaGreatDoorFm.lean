/-
  PLAIN FACTS of chapter 12: states of the formatter, and what an atom makes of them. Nothing of the program stands here.
-/
import Derived.Test.YtnpiphkglhcifaaGreatDoorPlainAtom
import Derived.Test.YtnpiphkglhcifaaGreatDoorAtom
import Derived.Test.YtnpiphkglhcifaaGreatDoorSpec9
import Derived.Test.YtnpiphkglhcifaaGreatDoorTrans
import Derived.Lib.Case
namespace Go.Proofs.YtnpiphkglhcifaaGreatDoor
set_option maxRecDepth 100000
open Go.RowKit

/-- A state. -/
structure St where
  t : ByteArray
  j : Bool
  g : Bool
  c : Int
  p : Int
def St.zero : St := ⟨⟨#[]⟩, false, false, 0, 0⟩
abbrev stV (s : St) : Value := .agg #[.string s.t, .bool s.j, .bool s.g, .int .i64 s.c, .int .i64 s.p]
def prC (b : UInt8) : Bool := decide (32 ≤ b.toNat) && decide (b.toNat ≤ 126)
def prB (t : ByteArray) : Bool := (by8 t).all prC
def okSt (s : St) : Bool := decide (s.t.size ≤ 2000) && (prB s.t && ((decide (0 ≤ s.c) && decide (s.c ≤ 2)) && (decide (0 ≤ s.p) && decide (s.p ≤ s.t.size))))
def newS (t : ByteArray) : St := ⟨t, t.size == 0, false, 0, t.size⟩
/-- A letter's case: 1 is upper, 2 is lower. -/
def toCase (how : Int) (b : UInt8) : UInt8 :=
  if how = 1 then Lib.upperB b else if how = 2 then Lib.lowerB b else b
def caseL (how : Int) : List UInt8 → List UInt8
  | [] => []
  | b :: l => toCase how b :: l
def caseB (t : ByteArray) (how : Int) : ByteArray := ⟨(caseL how (by8 t)).toArray⟩
def baseT (s : St) : ByteArray := if s.j = true then s.t else s.t ++ ⟨#[32]⟩
def putS (s : St) (x : ByteArray) : St := ⟨baseT s ++ caseB x s.c, s.j, s.g, 0, (baseT s).size⟩
def lastW (s : St) : ByteArray := s.t.extract s.p.toNat s.t.size
def headT (s : St) : ByteArray := s.t.extract 0 s.p.toNat
def sfxOk (l f : ByteArray) : Bool := Pl.wordB l.data.toList && (Pl.wordB f.data.toList && decide ((joinB l f).size ≤ 24))
def sfx (l f : ByteArray) : ByteArray := if sfxOk l f = true then joinB l f else l ++ f
/-- The state behind an atom, the limits unchecked. -/
def app (s : St) (k : Int) (x : ByteArray) : St :=
  if k = 1 then { putS s x with j := false, g := false }
  else if k = 3 then { putS s x with j := true, g := false }
  else if k = 5 then (if s.g = true then ⟨s.t ++ caseB x s.c, false, true, 0, s.p⟩ else { putS s x with j := false, g := true })
  else if k = 4 then ⟨s.t ++ x, true, false, s.c, s.p⟩
  else if k = 2 then ⟨headT s ++ sfx (lastW s) x, false, false, s.c, s.p⟩
  else if k = 6 then ⟨s.t ++ x, false, false, 1, s.p⟩
  else if k = 7 then ⟨s.t ++ x, false, false, s.c, s.p⟩
  else if k = 8 then { s with c := 1 }
  else if k = 9 then { s with c := 2 }
  else if k = 10 then { s with t := headT s ++ caseB (lastW s) 1 }
  else s
def stepS (s : St) (e : Int × ByteArray) : Option St := if (okSt s && goodE e) = true then (if (app s e.1 e.2).t.size ≤ 2000 then some (app s e.1 e.2) else none) else none
def runL : St → List (Int × ByteArray) → Option St
  | s, [] => some s
  | s, e :: l => (stepS s e).bind fun s' => runL s' l
def runS (s : St) (l : List (Int × ByteArray)) : Option St := if (okSt s && decide (l.length ≤ 600)) = true then runL s l else none
/-- An answer (State, bool). -/
def optE (o : Option St) : Ending := .returned (.tuple #[stV (o.getD St.zero), .bool o.isSome])
def rendE (o : Option St) : Ending := .returned (.tuple #[.string (o.getD St.zero).t, .bool o.isSome])
def newStE (t : ByteArray) : Ending := optE (if okSt (newS t) = true then some (newS t) else none)
def lastE (s : St) : Ending := .returned (.tuple #[.string (if okSt s = true then lastW s else ⟨#[]⟩), .bool (okSt s)])

theorem by8_len (t : ByteArray) : (by8 t).length = t.size := Pl.data_len t
theorem caseL_len (how : Int) (l : List UInt8) : (caseL how l).length = l.length := by cases l <;> rfl
theorem caseB_size (t : ByteArray) (how : Int) : (caseB t how).size = t.size := by
  show (caseL how (by8 t)).toArray.size = _
  rw [List.size_toArray, caseL_len, by8_len]
theorem by8_app (s t : ByteArray) : by8 (s ++ t) = by8 s ++ by8 t := ext_snoc s t
theorem prB_app (s t : ByteArray) : prB (s ++ t) = (prB s && prB t) := by unfold prB; rw [by8_app, List.all_append]
theorem prC_case {b : UInt8} (h : prC b = true) (how : Int) : prC (toCase how b) = true := by
  unfold prC at h ⊢
  simp only [Bool.and_eq_true, decide_eq_true_eq] at h ⊢
  unfold toCase
  split
  · cases hl : Lib.isLowerB b
    · rw [Lib.upperB_of_not b hl]; exact h
    · have h1 := Lib.upperB_int b hl
      rw [Lib.isLowerB_int] at hl
      simp only [Bool.and_eq_true, decide_eq_true_eq] at hl
      omega
  · split
    · cases hl : Lib.isUpperB b
      · rw [Lib.lowerB_of_not b hl]; exact h
      · have h1 := Lib.lowerB_int b hl
        rw [Lib.isUpperB_int] at hl
        simp only [Bool.and_eq_true, decide_eq_true_eq] at hl
        omega
    · exact h
theorem prB_case {t : ByteArray} (h : prB t = true) (how : Int) : prB (caseB t how) = true := by
  unfold prB at h ⊢
  show (caseL how (by8 t)).all prC = true
  cases hl : by8 t with
  | nil => rfl
  | cons b l =>
    rw [hl] at h
    simp only [caseL, List.all_cons, Bool.and_eq_true] at h ⊢
    exact ⟨prC_case h.1 how, h.2⟩
theorem all_sub {p : UInt8 → Bool} {l m : List UInt8} (h : l.all p = true) (hs : ∀ x ∈ m, x ∈ l) : m.all p = true := by
  rw [List.all_eq_true] at h ⊢
  exact fun x hx => h x (hs x hx)
theorem prB_extract {t : ByteArray} (h : prB t = true) (i k : Nat) : prB (t.extract i k) = true := by
  unfold prB at h ⊢
  refine all_sub h fun x hx => ?_
  rw [by8_extract] at hx
  exact List.mem_of_mem_drop (List.mem_of_mem_take hx)
theorem letter_pr {l : List UInt8} (h : l.all Pl.letter = true) : l.all prC = true := by
  rw [List.all_eq_true] at h ⊢
  intro x hx
  have := h x hx
  unfold Pl.letter at this
  unfold prC
  simp only [Bool.and_eq_true, decide_eq_true_eq] at this ⊢
  omega
theorem trim_all {p : UInt8 → Bool} {l m : List UInt8} (h : l.all p = true) : (Lib.trimSuffix l m).all p = true := by
  refine all_sub h fun x hx => ?_
  unfold Lib.trimSuffix at hx
  split at hx
  · exact List.mem_of_mem_take hx
  · exact hx
theorem join9_all {l f : List UInt8} (hl : l.all Pl.letter = true) (hf : f.all Pl.letter = true) : (Pl.join9 l f).all Pl.letter = true := by
  unfold Pl.join9
  rw [List.all_append, List.all_append, trim_all hl, hf, Bool.true_and, Bool.and_true]
  have hx : (Pl.lastL l).all Pl.letter = true := all_sub hl fun x hx => by unfold Pl.lastL at hx; exact List.mem_of_mem_drop hx
  unfold Pl.aft
  repeat' split
  all_goals first | rfl | (rw [List.all_append, hx]; rfl)
theorem prB_sfx {l f : ByteArray} (hl : prB l = true) (hf : prB f = true) : prB (sfx l f) = true := by
  unfold sfx
  split
  · rename_i h
    unfold sfxOk Pl.wordB at h
    simp only [Bool.and_eq_true] at h
    exact letter_pr (join9_all h.1.1 h.2.1.1)
  · rw [prB_app, hl, hf]; rfl
theorem ext_app (t : ByteArray) {n : Nat} (_h : n ≤ t.size) : t.extract 0 n ++ t.extract n t.size = t := by
  apply by8_inj
  rw [by8_app, by8_extract, by8_extract, List.drop_zero, Nat.sub_zero]
  rw [show ((by8 t).drop n).take (t.size - n) = (by8 t).drop n from List.take_of_length_le (by rw [List.length_drop, by8_len]; exact Nat.le_refl _), List.take_append_drop]
theorem wordC_pr {b : UInt8} (h : Pl.wordC b = true) : prC b = true := by
  unfold Pl.wordC at h; unfold prC
  simp only [Bool.and_eq_true, decide_eq_true_eq] at h ⊢
  exact ⟨by omega, h.1.2⟩
theorem goodA_pr {k : Int} {t : ByteArray} (h : Pl.goodA k (by8 t) = true) : prB t = true := by
  unfold Pl.goodA at h
  unfold prB
  split at h
  · rw [List.all_eq_true]
    exact fun b hb => wordC_pr ((Pl.word_parts h).2.2 b hb)
  · split at h
    · simp only [Bool.or_eq_true, beq_iff_eq] at h
      rcases h with (h | h) | h <;> (rw [h]; rfl)
    · split at h
      · simp only [Bool.or_eq_true, beq_iff_eq] at h
        rcases h with (h | h) | h <;> (rw [h]; rfl)
      · split at h
        · simp only [beq_iff_eq] at h
          rw [h]; rfl
        · cases h
theorem goodA_len {k : Int} {t : ByteArray} (h : Pl.goodA k (by8 t) = true) : t.size ≤ 20 := by
  rw [← by8_len]
  unfold Pl.goodA at h
  split at h
  · exact (Pl.word_parts h).2.1
  · split at h
    · simp only [Bool.or_eq_true, beq_iff_eq] at h
      rcases h with (h | h) | h <;> (rw [h]; decide)
    · split at h
      · simp only [Bool.or_eq_true, beq_iff_eq] at h
        rcases h with (h | h) | h <;> (rw [h]; decide)
      · split at h
        · simp only [beq_iff_eq] at h
          rw [h]; decide
        · cases h
theorem okSt_parts {s : St} (h : okSt s = true) : s.t.size ≤ 2000 ∧ prB s.t = true ∧ 0 ≤ s.c ∧ s.c ≤ 2 ∧ ∃ n : Nat, s.p = n ∧ n ≤ s.t.size := by
  unfold okSt at h
  simp only [Bool.and_eq_true, decide_eq_true_eq] at h
  exact ⟨h.1, h.2.1, h.2.2.1.1, h.2.2.1.2, s.p.toNat, by omega, by omega⟩
theorem okSt_mk {s : St} (h1 : s.t.size ≤ 2000) (h2 : prB s.t = true) (h3 : 0 ≤ s.c) (h4 : s.c ≤ 2) (h5 : 0 ≤ s.p) (h6 : s.p ≤ s.t.size) : okSt s = true := by
  unfold okSt
  simp only [Bool.and_eq_true, decide_eq_true_eq]
  exact ⟨h1, h2, ⟨h3, h4⟩, h5, h6⟩
theorem headT_size {s : St} (h : okSt s = true) : ((headT s).size : Int) = s.p := by
  obtain ⟨_, _, _, _, n, hn, hl⟩ := okSt_parts h
  unfold headT
  rw [hn, ByteArray.size_extract]
  show ((min n _ - 0 : Nat) : Int) = n
  rw [Nat.min_eq_left hl]; rfl
theorem baseT_pr {s : St} (h : prB s.t = true) : prB (baseT s) = true := by
  unfold baseT
  split
  · exact h
  · rw [prB_app, h]; rfl
theorem baseT_size (s : St) : (baseT s).size ≤ s.t.size + 1 := by
  unfold baseT
  split
  · omega
  · rw [ByteArray.size_append]; exact Nat.le_refl _
theorem app_1 (s : St) (x : ByteArray) : app s 1 x = { putS s x with j := false, g := false } := rfl
theorem app_2 (s : St) (x : ByteArray) : app s 2 x = ⟨headT s ++ sfx (lastW s) x, false, false, s.c, s.p⟩ := rfl
theorem app_3 (s : St) (x : ByteArray) : app s 3 x = { putS s x with j := true, g := false } := rfl
theorem app_4 (s : St) (x : ByteArray) : app s 4 x = ⟨s.t ++ x, true, false, s.c, s.p⟩ := rfl
theorem app_5y (s : St) (x : ByteArray) (h : s.g = true) : app s 5 x = ⟨s.t ++ caseB x s.c, false, true, 0, s.p⟩ := by
  show (if s.g = true then _ else _) = _
  rw [if_pos h]
theorem app_5n (s : St) (x : ByteArray) (h : s.g = false) : app s 5 x = { putS s x with j := false, g := true } := by
  show (if s.g = true then _ else _) = _
  rw [if_neg (by rw [h]; decide)]
theorem app_6 (s : St) (x : ByteArray) : app s 6 x = ⟨s.t ++ x, false, false, 1, s.p⟩ := rfl
theorem app_7 (s : St) (x : ByteArray) : app s 7 x = ⟨s.t ++ x, false, false, s.c, s.p⟩ := rfl
theorem app_8 (s : St) (x : ByteArray) : app s 8 x = { s with c := 1 } := rfl
theorem app_9 (s : St) (x : ByteArray) : app s 9 x = { s with c := 2 } := rfl
theorem app_10 (s : St) (x : ByteArray) : app s 10 x = { s with t := headT s ++ caseB (lastW s) 1 } := rfl
theorem goodA_cmd {k : Int} {t : ByteArray} (hk : 8 ≤ k ∧ k ≤ 10) (h : Pl.goodA k (by8 t) = true) : t = ⟨#[]⟩ := by
  unfold Pl.goodA at h
  rw [if_neg (by omega), if_neg (by omega), if_neg (by omega), if_pos hk, beq_iff_eq] at h
  exact by8_inj h
theorem goodA_kind {k : Int} {t : List UInt8} (h : Pl.goodA k t = true) : k = 1 ∨ k = 2 ∨ k = 3 ∨ k = 4 ∨ k = 5 ∨ k = 6 ∨ k = 7 ∨ k = 8 ∨ k = 9 ∨ k = 10 := by
  by_cases h' : 1 ≤ k ∧ k ≤ 10
  · omega
  · unfold Pl.goodA at h
    rw [if_neg (by omega), if_neg (by omega), if_neg (by omega), if_neg (by omega)] at h
    cases h
/-- WHAT AN ATOM LEAVES VALID: all but the length. -/
theorem app_ok {s : St} {k : Int} {x : ByteArray} (h : okSt s = true) (ha : Pl.goodA k (by8 x) = true) (hl : (app s k x).t.size ≤ 2000) : okSt (app s k x) = true := by
  obtain ⟨h1, h2, h3, h4, n, hn, hle⟩ := okSt_parts h
  have hx := goodA_pr ha
  have hb := baseT_pr h2
  have hc := prB_case hx s.c
  have hh := headT_size h
  have hhp : prB (headT s) = true := prB_extract h2 _ _
  have hlp : prB (lastW s) = true := prB_extract h2 _ _
  have hsp := prB_sfx hlp hx
  have hcp := prB_case hlp 1
  rcases goodA_kind ha with rfl | rfl | rfl | rfl | rfl | rfl | rfl | rfl | rfl | rfl
  · exact okSt_mk hl (by show prB (_ ++ _) = true; rw [prB_app, hb, hc]; rfl) (by show (0 : Int) ≤ 0; omega) (by show (0 : Int) ≤ 2; omega) (Int.natCast_nonneg _) (by show ((baseT s).size : Int) ≤ ((baseT s ++ caseB x s.c : ByteArray).size : Int); rw [ByteArray.size_append]; omega)
  · exact okSt_mk hl (by show prB (_ ++ _) = true; rw [prB_app, hhp, hsp]; rfl) h3 h4 (by show 0 ≤ s.p; omega) (by show s.p ≤ ((_ ++ _ : ByteArray).size : Int); rw [ByteArray.size_append]; omega)
  · exact okSt_mk hl (by show prB (_ ++ _) = true; rw [prB_app, hb, hc]; rfl) (by show (0 : Int) ≤ 0; omega) (by show (0 : Int) ≤ 2; omega) (Int.natCast_nonneg _) (by show ((baseT s).size : Int) ≤ ((baseT s ++ caseB x s.c : ByteArray).size : Int); rw [ByteArray.size_append]; omega)
  · exact okSt_mk hl (by show prB (_ ++ _) = true; rw [prB_app, h2, hx]; rfl) h3 h4 (by show 0 ≤ s.p; omega) (by show s.p ≤ ((_ ++ _ : ByteArray).size : Int); rw [ByteArray.size_append]; omega)
  · cases hg : s.g
    · rw [app_5n s x hg] at hl ⊢
      exact okSt_mk hl (by show prB (_ ++ _) = true; rw [prB_app, hb, hc]; rfl) (by show (0 : Int) ≤ 0; omega) (by show (0 : Int) ≤ 2; omega) (Int.natCast_nonneg _) (by show ((baseT s).size : Int) ≤ ((baseT s ++ caseB x s.c : ByteArray).size : Int); rw [ByteArray.size_append]; omega)
    · rw [app_5y s x hg] at hl ⊢
      exact okSt_mk hl (by show prB (_ ++ _) = true; rw [prB_app, h2, hc]; rfl) (by show (0 : Int) ≤ 0; omega) (by show (0 : Int) ≤ 2; omega) (by show 0 ≤ s.p; omega) (by show s.p ≤ ((_ ++ _ : ByteArray).size : Int); rw [ByteArray.size_append]; omega)
  · exact okSt_mk hl (by show prB (_ ++ _) = true; rw [prB_app, h2, hx]; rfl) (by show (0 : Int) ≤ 1; omega) (by show (1 : Int) ≤ 2; omega) (by show 0 ≤ s.p; omega) (by show s.p ≤ ((_ ++ _ : ByteArray).size : Int); rw [ByteArray.size_append]; omega)
  · exact okSt_mk hl (by show prB (_ ++ _) = true; rw [prB_app, h2, hx]; rfl) h3 h4 (by show 0 ≤ s.p; omega) (by show s.p ≤ ((_ ++ _ : ByteArray).size : Int); rw [ByteArray.size_append]; omega)
  · exact okSt_mk hl h2 (by show (0 : Int) ≤ 1; omega) (by show (1 : Int) ≤ 2; omega) (by show 0 ≤ s.p; omega) (by show s.p ≤ (s.t.size : Int); omega)
  · exact okSt_mk hl h2 (by show (0 : Int) ≤ 2; omega) (by show (2 : Int) ≤ 2; omega) (by show 0 ≤ s.p; omega) (by show s.p ≤ (s.t.size : Int); omega)
  · exact okSt_mk hl (by show prB (_ ++ _) = true; rw [prB_app, hhp, hcp]; rfl) h3 h4 (by show 0 ≤ s.p; omega) (by show s.p ≤ ((_ ++ _ : ByteArray).size : Int); rw [ByteArray.size_append]; omega)
theorem sfx_size (l f : ByteArray) : (sfx l f).size ≤ l.size + f.size + 24 := by
  unfold sfx
  split
  · rename_i h
    unfold sfxOk at h
    simp only [Bool.and_eq_true, decide_eq_true_eq] at h
    omega
  · rw [ByteArray.size_append]; omega
theorem stepS_ok {s s' : St} {e : Int × ByteArray} (h : stepS s e = some s') : okSt s = true ∧ goodE e = true ∧ s' = app s e.1 e.2 ∧ okSt s' = true := by
  unfold stepS at h
  split at h
  · rename_i hg
    rw [Bool.and_eq_true] at hg
    split at h
    · rename_i hl
      cases h
      exact ⟨hg.1, hg.2, rfl, app_ok hg.1 hg.2 hl⟩
    · cases h
  · cases h
theorem runL_ok {s s' : St} {l : List (Int × ByteArray)} (hs : okSt s = true) (h : runL s l = some s') : okSt s' = true := by
  induction l generalizing s with
  | nil => cases h; exact hs
  | cons e l ih =>
    unfold runL at h
    cases he : stepS s e with
    | none => rw [he] at h; cases h
    | some s2 => rw [he] at h; exact ih (stepS_ok he).2.2.2 h
theorem runL_app (s : St) (l m : List (Int × ByteArray)) : runL s (l ++ m) = (runL s l).bind fun s' => runL s' m := by
  induction l generalizing s with
  | nil => rfl
  | cons e l ih =>
    show (stepS s e).bind _ = ((stepS s e).bind _).bind _
    cases stepS s e with
    | none => rfl
    | some s2 => exact ih s2
theorem stepS_no1 {s : St} {e : Int × ByteArray} (h : okSt s = false) : stepS s e = none := by unfold stepS; rw [h, Bool.false_and, if_neg (by decide)]
theorem stepS_no2 {s : St} {k : Int} {x : ByteArray} (h : Pl.goodA k (by8 x) = false) : stepS s (k, x) = none := by unfold stepS goodE; simp only; rw [h, Bool.and_false, if_neg (by decide)]
theorem stepS_yes {s : St} {k : Int} {x : ByteArray} (h : okSt s = true) (ha : Pl.goodA k (by8 x) = true) : stepS s (k, x) = if (app s k x).t.size ≤ 2000 then some (app s k x) else none := by
  unfold stepS goodE
  simp only
  rw [h, ha]
  rfl
theorem app_val {s : St} {k : Int} {x : ByteArray} (h : okSt s = true) (ha : Pl.goodA k (by8 x) = true) : okSt (app s k x) = decide ((app s k x).t.size ≤ 2000) := by
  by_cases hl : (app s k x).t.size ≤ 2000
  · rw [decide_eq_true hl]; exact app_ok h ha hl
  · rw [decide_eq_false hl]
    unfold okSt
    rw [decide_eq_false hl, Bool.false_and]
theorem ext_le (t : ByteArray) (i k : Nat) : (t.extract i k).size ≤ t.size := by rw [ByteArray.size_extract]; omega
theorem app_size (s : St) (k : Int) (x : ByteArray) : (app s k x).t.size ≤ 2 * s.t.size + x.size + 100 := by
  have h1 := baseT_size s
  have h2 := caseB_size x s.c
  have h3 : (headT s).size ≤ s.t.size := ext_le _ _ _
  have h4 : (lastW s).size ≤ s.t.size := ext_le _ _ _
  have h5 := sfx_size (lastW s) x
  have h6 := caseB_size (lastW s) 1
  unfold app
  repeat' split
  all_goals (try simp only [putS, ByteArray.size_append])
  all_goals omega
theorem runL_no {s s' : St} {l : List (Int × ByteArray)} {k : Nat} {e : Int × ByteArray} (h : runL s (l.take k) = some s') (he : l[k]? = some e) (hn : stepS s' e = none) : runL s l = none := by
  rw [← List.take_append_drop k l, runL_app, h]
  have hk : k < l.length := by
    rcases Nat.lt_or_ge k l.length with h' | h'
    · exact h'
    · rw [List.getElem?_eq_none h'] at he; cases he
  rw [List.drop_eq_getElem_cons hk]
  rw [List.getElem?_eq_getElem hk] at he
  injection he with he
  show (stepS s' l[k]).bind _ = none
  rw [he, hn]
  rfl
theorem runL_next {s s' s2 : St} {l : List (Int × ByteArray)} {k : Nat} {e : Int × ByteArray} (h : runL s (l.take k) = some s') (he : l[k]? = some e) (hn : stepS s' e = some s2) : runL s (l.take (k + 1)) = some s2 := by
  rw [List.take_add_one, runL_app, h, he]
  show (stepS s' e).bind _ = _
  rw [hn]
  rfl
end Go.Proofs.YtnpiphkglhcifaaGreatDoor
