/-
  CONTRACTS of the specification's chapter 5 over single atoms: l5Word, l5Good, l5Format, l5Kind, IsValidAtom, FormatAtom, ParseAtom.
-/
import Derived.Test.YtnpiphkglhcifaaGreatDoorPlainAtom
import Derived.Test.YtnpiphkglhcifaaGreatDoorBits
namespace Go.Proofs.YtnpiphkglhcifaaGreatDoor
set_option maxRecDepth 100000
open Go.RowKit

/-- A string's bytes. -/
abbrev by8 (t : ByteArray) : List UInt8 := t.data.toList
theorem word_no_at {t : ByteArray} {k : Nat} (hk : k < t.size) (h : Pl.wordC t[k] = false) : Pl.wordL (by8 t) = false := by
  unfold Pl.wordL
  rw [Bool.and_eq_false_iff]
  refine .inl ?_
  rw [← Bool.not_eq_true, List.all_eq_true]
  intro q
  have := q t[k] (by show t.data[k] ∈ t.data.toList; simp)
  rw [h] at this
  cases this
theorem word_next {t : ByteArray} {k : Nat} (hk : k < t.size) (ha : ((by8 t).take k).all Pl.wordC = true) (h : Pl.wordC t[k] = true) : ((by8 t).take (k + 1)).all Pl.wordC = true := by
  rw [List.take_add_one, List.all_append, ha]
  have : (by8 t)[k]? = some t[k] := by
    show t.data.toList[k]? = some t.data[k]
    rw [Array.getElem?_toList, Array.getElem?_eq_getElem hk]
  rw [this]
  simp [h]
theorem l5Word_any (t : ByteArray) (w : World) (ht : t.size ≤ 4294967280) :
    Calls Tryz.prog 45 #[.string t] w fun e w' => e = .returned (.bool (Pl.wordL (by8 t))) ∧ w' = w := by
  go_enter Tryz.func45, Tryz.ntmps45
  go_wp2_with fail
  go_loopw [3] (fun i wr => ∃ k : Nat, i = .int .i64 k ∧ k ≤ t.size ∧ Hid (((by8 t).take k).all Pl.wordC = true) ∧ wr = w) (fun i _ => t.size - (intOf i).toNat)
  case atStart => exact ⟨0, rfl, Nat.zero_le _, by show _ = _; rw [List.take_zero]; rfl, rfl⟩
  case round =>
    obtain ⟨k, rfl, hk, HA, rfl⟩ := hrel
    by_cases hlt : k < t.size
    · obtain ⟨x, hx⟩ : ∃ x : Int, (t[k].toNat : Int) = x := ⟨_, rfl⟩
      have hx0 : 0 ≤ x ∧ x ≤ 255 := by have := t[k].toNat_lt; omega
      have hne : ∀ c : UInt8, (t[k] == c) = (x == (c.toNat : Int)) := by
        intro c
        rw [← hx, Bool.eq_iff_iff, beq_iff_eq, beq_iff_eq]
        constructor
        · intro e; rw [e]
        · intro e; exact UInt8.toNat_inj.1 (by omega)
      have hw : Pl.wordC t[k] = ((decide (33 ≤ x) && decide (x ≤ 126)) && !(x == 123 || x == 125 || x == 94 || x == 38 || x == 35 || x == 62)) := by
        unfold Pl.wordC
        simp only [hne]
        congr 1
        rw [← hx]
        congr 1 <;> (rw [decide_eq_decide]; omega)
      obtain ⟨b0, hb0⟩ : ∃ b, (decide (33 ≤ x) && decide (x ≤ 126)) = b := ⟨_, rfl⟩
      obtain ⟨b1, hb1⟩ : ∃ b, (x == 123) = b := ⟨_, rfl⟩
      obtain ⟨b2, hb2⟩ : ∃ b, (x == 125) = b := ⟨_, rfl⟩
      obtain ⟨b3, hb3⟩ : ∃ b, (x == 94) = b := ⟨_, rfl⟩
      obtain ⟨b4, hb4⟩ : ∃ b, (x == 38) = b := ⟨_, rfl⟩
      obtain ⟨b5, hb5⟩ : ∃ b, (x == 35) = b := ⟨_, rfl⟩
      obtain ⟨b6, hb6⟩ : ∃ b, (x == 62) = b := ⟨_, rfl⟩
      have c := fun w => l1In_any x 33 126 w
      rw [hb0] at c
      rw [hb0, hb1, hb2, hb3, hb4, hb5, hb6] at hw
      have C := Lib.hid c
      have HW := Lib.hid hw
      clear c hw hne hb0
      go_wp2_with fail
      refine (C.out _).mono ?_
      rintro e w1 ⟨rfl, rfl⟩
      cases b0 with
      | false => (go_wp2; go_ret; exact ⟨by rw [word_no_at hlt (by rw [HW.out]; rfl)]; rfl, rfl⟩)
      | true =>
        cases b1 with
        | true => (go_wp2; go_ret; exact ⟨by rw [word_no_at hlt (by rw [HW.out]; rfl)]; rfl, rfl⟩)
        | false =>
          cases b2 with
          | true => (go_wp2; go_ret; exact ⟨by rw [word_no_at hlt (by rw [HW.out]; rfl)]; rfl, rfl⟩)
          | false =>
            cases b3 with
            | true => (go_wp2; go_ret; exact ⟨by rw [word_no_at hlt (by rw [HW.out]; rfl)]; rfl, rfl⟩)
            | false =>
              cases b4 with
              | true => (go_wp2; go_ret; exact ⟨by rw [word_no_at hlt (by rw [HW.out]; rfl)]; rfl, rfl⟩)
              | false =>
                cases b5 with
                | true => (go_wp2; go_ret; exact ⟨by rw [word_no_at hlt (by rw [HW.out]; rfl)]; rfl, rfl⟩)
                | false =>
                  cases b6 with
                  | true => (go_wp2; go_ret; exact ⟨by rw [word_no_at hlt (by rw [HW.out]; rfl)]; rfl, rfl⟩)
                  | false =>
                    have HN := Lib.hid (word_next hlt HA.out (by rw [HW.out]; rfl))
                    clear HA
                    go_wp2
                    go_roundw
                    case rel => exact ⟨k + 1, by go_num, by omega, HN, by first | rfl | trivial⟩
                    case measure => simp [intOf]; omega
    · obtain rfl : k = t.size := by omega
      have c := fun w => l1In_any t.size 1 20 w
      have hw : Pl.wordL (by8 t) = (decide ((1 : Int) ≤ t.size) && decide ((t.size : Int) ≤ 20)) := by
        have ha := HA.out
        rw [List.take_of_length_le (by rw [Pl.data_len]; exact Nat.le_refl _)] at ha
        unfold Pl.wordL
        rw [ha, Bool.true_and, Pl.data_len]
        congr 1 <;> (rw [decide_eq_decide]; omega)
      rw [← hw] at c
      have C := Lib.hid c
      clear c hw HA
      go_wp2_with fail
      refine (C.out _).mono ?_
      rintro e w1 ⟨rfl, rfl⟩
      go_wp2
      go_ret
      exact ⟨rfl, rfl⟩
/-- An atom. -/
abbrev atV (k : Int) (t : ByteArray) : Value := .agg #[.int .i64 k, .string t]
set_option maxHeartbeats 1000000 in
theorem l5Good_any (k : Int) (t : ByteArray) (w : World) (ht : t.size ≤ 4294967280) :
    Calls Tryz.prog 31 #[atV k t] w fun e w' => e = .returned (.bool (Pl.goodA k (by8 t))) ∧ Below w.heap.size w w' := by
  have C := Lib.hid (fun w => l5Word_any t w ht)
  by_cases h5 : 1 ≤ k ∧ k ≤ 5
  · have hG : Pl.goodA k (by8 t) = Pl.wordL (by8 t) := by unfold Pl.goodA; rw [if_pos h5]
    rw [hG]
    have hk : k = 1 ∨ k = 2 ∨ k = 3 ∨ k = 4 ∨ k = 5 := by omega
    clear h5 hG
    rcases hk with rfl | rfl | rfl | rfl | rfl
    all_goals
      go_enter Tryz.func31, Tryz.ntmps31
      go_wp2_with fail
      refine (C.out _).mono ?_
      rintro e w1 ⟨rfl, rfl⟩
      go_wp2
      go_ret
      exact ⟨rfl, (Below.refl _ _).alloc (Nat.le_refl _) _⟩
  · by_cases h6 : k = 6
    · clear h5
      subst h6
      have hG : Hid (Pl.goodA 6 (by8 t) = (t.toList == [46] || t.toList == [33] || t.toList == [63])) := by show _ = _; unfold Pl.goodA by8; rw [Lib.toList_data]; rfl
      go_enter Tryz.func31, Tryz.ntmps31
      go_wp2_with fail
      all_goals go_ret
      all_goals refine ⟨?_, (Below.refl _ _).alloc (Nat.le_refl _) _⟩
      all_goals rw [hG.out]
      all_goals simp [*]
    · by_cases h7 : k = 7
      · clear h5 h6
        subst h7
        have hG : Hid (Pl.goodA 7 (by8 t) = (t.toList == [44] || t.toList == [59] || t.toList == [58])) := by show _ = _; unfold Pl.goodA by8; rw [Lib.toList_data]; rfl
        go_enter Tryz.func31, Tryz.ntmps31
        go_wp2_with fail
        all_goals go_ret
        all_goals refine ⟨?_, (Below.refl _ _).alloc (Nat.le_refl _) _⟩
        all_goals rw [hG.out]
        all_goals simp [*]
      · by_cases h8 : 8 ≤ k ∧ k ≤ 10
        · have hk : k = 8 ∨ k = 9 ∨ k = 10 := by omega
          have hG : Hid (Pl.goodA k (by8 t) = (t.toList == [])) := by show _ = _; unfold Pl.goodA by8; rw [Lib.toList_data, if_neg h5, if_neg h6, if_neg h7, if_pos h8]
          clear h5 h6 h7 h8
          rcases hk with rfl | rfl | rfl
          all_goals
            go_enter Tryz.func31, Tryz.ntmps31
            go_wp2_with fail
            all_goals go_ret
            all_goals refine ⟨?_, (Below.refl _ _).alloc (Nat.le_refl _) _⟩
            all_goals rw [hG.out]
            all_goals simp [*]
        · have hG : Hid (Pl.goodA k (by8 t) = false) := by show _ = _; unfold Pl.goodA; rw [if_neg h5, if_neg h6, if_neg h7, if_neg h8]
          have e : ∀ n : Int, 1 ≤ n → n ≤ 10 → (k == n) = false := fun n h1 h2 => by rw [beq_eq_false_iff_ne]; omega
          have e1 := e 1 (by omega) (by omega)
          have e2 := e 2 (by omega) (by omega)
          have e3 := e 3 (by omega) (by omega)
          have e4 := e 4 (by omega) (by omega)
          have e5 := e 5 (by omega) (by omega)
          have e6 := e 6 (by omega) (by omega)
          have e7 := e 7 (by omega) (by omega)
          have e8 := e 8 (by omega) (by omega)
          have e9 := e 9 (by omega) (by omega)
          have e10 := e 10 (by omega) (by omega)
          clear h5 h6 h7 h8 e
          go_enter Tryz.func31, Tryz.ntmps31
          go_wp2
          go_ret
          exact ⟨by rw [hG.out]; rfl, (Below.refl _ _).alloc (Nat.le_refl _) _⟩
/-- The notation, as a string. -/
def fmtB (k : Int) (t : ByteArray) : ByteArray := ⟨(Pl.fmtA k (by8 t)).toArray⟩
theorem fmtB_list (k : Int) (t : ByteArray) : by8 (fmtB k t) = Pl.fmtA k (by8 t) := rfl
theorem fmtB_1 (t : ByteArray) : fmtB 1 t = t := by apply ByteArray.ext; simp [fmtB, Pl.fmtA]
theorem fmtB_2 (t : ByteArray) : fmtB 2 t = (⟨#[123, 94]⟩ ++ t) ++ ⟨#[125]⟩ := by apply ByteArray.ext; simp [fmtB, Pl.fmtA, ByteArray.data_append]
theorem fmtB_3 (t : ByteArray) : fmtB 3 t = (⟨#[123]⟩ ++ t) ++ ⟨#[94, 125]⟩ := by apply ByteArray.ext; simp [fmtB, Pl.fmtA, ByteArray.data_append]
theorem fmtB_4 (t : ByteArray) : fmtB 4 t = (⟨#[123, 94]⟩ ++ t) ++ ⟨#[94, 125]⟩ := by apply ByteArray.ext; simp [fmtB, Pl.fmtA, ByteArray.data_append]
theorem fmtB_5 (t : ByteArray) : fmtB 5 t = (⟨#[123, 38]⟩ ++ t) ++ ⟨#[125]⟩ := by apply ByteArray.ext; simp [fmtB, Pl.fmtA, ByteArray.data_append]
theorem fmtB_8 (t : ByteArray) : fmtB 8 t = ⟨#[123, 45, 124, 125]⟩ := rfl
theorem fmtB_9 (t : ByteArray) : fmtB 9 t = ⟨#[123, 62, 125]⟩ := rfl
theorem fmtB_10 (t : ByteArray) : fmtB 10 t = ⟨#[123, 42, 45, 124, 125]⟩ := rfl
theorem fmtB_else (k : Int) (t : ByteArray) (h5 : ¬ (1 ≤ k ∧ k ≤ 5)) (h8 : ¬ (8 ≤ k ∧ k ≤ 10)) : fmtB k t = (⟨#[123]⟩ ++ t) ++ ⟨#[125]⟩ := by
  have e : Pl.fmtA k (by8 t) = [123] ++ by8 t ++ [125] := by
    unfold Pl.fmtA
    rw [if_neg (by omega), if_neg (by omega), if_neg (by omega), if_neg (by omega), if_neg (by omega), if_neg (by omega), if_neg (by omega), if_neg (by omega)]
  unfold fmtB
  rw [e]
  apply ByteArray.ext
  simp [ByteArray.data_append]
theorem fmtB_size (k : Int) (t : ByteArray) : (fmtB k t).size ≤ t.size + 5 := by
  have e : (fmtB k t).size = (Pl.fmtA k (by8 t)).length := by show (Pl.fmtA k (by8 t)).toArray.size = _; simp
  rw [e]
  have : (by8 t).length = t.size := Pl.data_len t
  unfold Pl.fmtA
  repeat' split
  all_goals simp
  all_goals omega
theorem by8_extract (s : ByteArray) (i j : Nat) : by8 (s.extract i j) = ((by8 s).drop i).take (j - i) := by
  show (s.extract i j).data.toList = _
  rw [ByteArray.data_extract, Array.toList_extract, List.extract_eq_take_drop]
theorem by8_at {s : ByteArray} {k : Nat} (h : k < s.size) : (by8 s).getD k 0 = s[k] := by
  rw [List.getD_eq_getElem?_getD]
  show (s.data.toList[k]?).getD 0 = s.data[k]
  rw [Array.getElem?_toList, Array.getElem?_eq_getElem h]
  rfl
theorem by8_inj {s t : ByteArray} (h : by8 s = by8 t) : s = t := by
  apply ByteArray.ext
  exact Array.toList_inj.1 h
theorem by8_mk (l : List UInt8) : by8 ⟨l.toArray⟩ = l := rfl
theorem mk_by8 (l : List UInt8) (t : ByteArray) (h : by8 t = l) : (⟨l.toArray⟩ : ByteArray) = t := by subst h; apply by8_inj; rfl
/-- The atom of a notation, unchecked. -/
def kindV (s : ByteArray) : Value := atV (Pl.kindA (by8 s)).1 ⟨(Pl.kindA (by8 s)).2.toArray⟩
theorem kindV_of {s : ByteArray} {k : Int} {t : ByteArray} (h : Pl.kindA (by8 s) = (k, by8 t)) : kindV s = atV k t := by unfold kindV; rw [h]
theorem kindA_q {s q : ByteArray} (h3 : ¬ s.size < 3) (hx : (s[0].toNat : Int) = 123) (hy : (s[s.size - 1].toNat : Int) = 125) (hq : s.extract 1 (s.size - 1) = q) : Pl.kindA (by8 s) = Pl.kindI (by8 q) := by
  subst hq
  unfold Pl.kindA
  rw [Pl.data_len, by8_extract, if_neg, show s.size - 1 - 1 = s.size - 2 by omega]
  rintro (h | h | h)
  · exact h3 h
  · rw [by8_at (by omega)] at h
    exact h (UInt8.toNat_inj.1 (by show s[0].toNat = 123; omega))
  · rw [by8_at (by omega)] at h
    exact h (UInt8.toNat_inj.1 (by show s[s.size - 1].toNat = 125; omega))
theorem kindV_in {s : ByteArray} {l : List UInt8} (h : Pl.kindA (by8 s) = Pl.kindI l) : kindV s = atV (Pl.kindI l).1 ⟨(Pl.kindI l).2.toArray⟩ := by unfold kindV; rw [h]
theorem kindV_to {s q : ByteArray} {k : Int} {l : List UInt8} (h : Pl.kindA (by8 s) = (k, l)) (e : by8 q = l) : kindV s = atV k q := by unfold kindV; rw [h, mk_by8 _ _ e]
end Go.Proofs.YtnpiphkglhcifaaGreatDoor
