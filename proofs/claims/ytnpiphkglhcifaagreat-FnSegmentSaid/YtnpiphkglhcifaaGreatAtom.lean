/-
  CONTRACTS of the specification's chapter 5 over single atoms: l5Word, l5Good, l5Format, l5Kind, IsValidAtom, FormatAtom, ParseAtom.
-/
import Derived.Test.YtnpiphkglhcifaaGreatPlainAtom
import Derived.Test.YtnpiphkglhcifaaGreatBits
namespace Go.Proofs.YtnpiphkglhcifaaGreat
set_option maxRecDepth 100000
open Go.RowKit

/-- A string's bytes. -/
abbrev by8 (t : ByteArray) : List UInt8 := t.data.toList
theorem word_no_at {t : ByteArray} {k : Nat} (hk : k < t.size) (h : Pl.wordC t[k] = false) : Pl.wordL (by8 t) = false := by
  unfold Pl.wordL
  rw [Bool.and_eq_false_iff]
  refine .inl ?_
  rw [← Bool.not_eq_true, List.all_eq_true]
  intro q
  have := q t[k] (by show t.data[k] ∈ t.data.toList; simp)
  rw [h] at this
  cases this
theorem word_next {t : ByteArray} {k : Nat} (hk : k < t.size) (ha : ((by8 t).take k).all Pl.wordC = true) (h : Pl.wordC t[k] = true) : ((by8 t).take (k + 1)).all Pl.wordC = true := by
  rw [List.take_add_one, List.all_append, ha]
  have : (by8 t)[k]? = some t[k] := by
    show t.data.toList[k]? = some t.data[k]
    rw [Array.getElem?_toList, Array.getElem?_eq_getElem hk]
  rw [this]
  simp [h]
theorem l5Word_any (t : ByteArray) (w : World) (ht : t.size ≤ 4294967280) :
    Calls Tryz.prog 77 #[.string t] w fun e w' => e = .returned (.bool (Pl.wordL (by8 t))) ∧ w' = w := by
  go_enter Tryz.func77, Tryz.ntmps77
  go_wp2_with fail
  go_loopw [3] (fun i wr => ∃ k : Nat, i = .int .i64 k ∧ k ≤ t.size ∧ Hid (((by8 t).take k).all Pl.wordC = true) ∧ wr = w) (fun i _ => t.size - (intOf i).toNat)
  case atStart => exact ⟨0, rfl, Nat.zero_le _, by show _ = _; rw [List.take_zero]; rfl, rfl⟩
  case round =>
    obtain ⟨k, rfl, hk, HA, rfl⟩ := hrel
    by_cases hlt : k < t.size
    · obtain ⟨x, hx⟩ : ∃ x : Int, (t[k].toNat : Int) = x := ⟨_, rfl⟩
      have hx0 : 0 ≤ x ∧ x ≤ 255 := by have := t[k].toNat_lt; omega
      have hne : ∀ c : UInt8, (t[k] == c) = (x == (c.toNat : Int)) := by
        intro c
        rw [← hx, Bool.eq_iff_iff, beq_iff_eq, beq_iff_eq]
        constructor
        · intro e; rw [e]
        · intro e; exact UInt8.toNat_inj.1 (by omega)
      have hw : Pl.wordC t[k] = ((decide (33 ≤ x) && decide (x ≤ 126)) && !(x == 123 || x == 125 || x == 94 || x == 38 || x == 35 || x == 62)) := by
        unfold Pl.wordC
        simp only [hne]
        congr 1
        rw [← hx]
        congr 1 <;> (rw [decide_eq_decide]; omega)
      obtain ⟨b0, hb0⟩ : ∃ b, (decide (33 ≤ x) && decide (x ≤ 126)) = b := ⟨_, rfl⟩
      obtain ⟨b1, hb1⟩ : ∃ b, (x == 123) = b := ⟨_, rfl⟩
      obtain ⟨b2, hb2⟩ : ∃ b, (x == 125) = b := ⟨_, rfl⟩
      obtain ⟨b3, hb3⟩ : ∃ b, (x == 94) = b := ⟨_, rfl⟩
      obtain ⟨b4, hb4⟩ : ∃ b, (x == 38) = b := ⟨_, rfl⟩
      obtain ⟨b5, hb5⟩ : ∃ b, (x == 35) = b := ⟨_, rfl⟩
      obtain ⟨b6, hb6⟩ : ∃ b, (x == 62) = b := ⟨_, rfl⟩
      have c := fun w => l1In_any x 33 126 w
      rw [hb0] at c
      rw [hb0, hb1, hb2, hb3, hb4, hb5, hb6] at hw
      have C := Lib.hid c
      have HW := Lib.hid hw
      clear c hw hne hb0
      go_wp2_with fail
      refine (C.out _).mono ?_
      rintro e w1 ⟨rfl, rfl⟩
      cases b0 with
      | false => (go_wp2; go_ret; exact ⟨by rw [word_no_at hlt (by rw [HW.out]; rfl)]; rfl, rfl⟩)
      | true =>
        cases b1 with
        | true => (go_wp2; go_ret; exact ⟨by rw [word_no_at hlt (by rw [HW.out]; rfl)]; rfl, rfl⟩)
        | false =>
          cases b2 with
          | true => (go_wp2; go_ret; exact ⟨by rw [word_no_at hlt (by rw [HW.out]; rfl)]; rfl, rfl⟩)
          | false =>
            cases b3 with
            | true => (go_wp2; go_ret; exact ⟨by rw [word_no_at hlt (by rw [HW.out]; rfl)]; rfl, rfl⟩)
            | false =>
              cases b4 with
              | true => (go_wp2; go_ret; exact ⟨by rw [word_no_at hlt (by rw [HW.out]; rfl)]; rfl, rfl⟩)
              | false =>
                cases b5 with
                | true => (go_wp2; go_ret; exact ⟨by rw [word_no_at hlt (by rw [HW.out]; rfl)]; rfl, rfl⟩)
                | false =>
                  cases b6 with
                  | true => (go_wp2; go_ret; exact ⟨by rw [word_no_at hlt (by rw [HW.out]; rfl)]; rfl, rfl⟩)
                  | false =>
                    have HN := Lib.hid (word_next hlt HA.out (by rw [HW.out]; rfl))
                    clear HA
                    go_wp2
                    go_roundw
                    case rel => exact ⟨k + 1, by go_num, by omega, HN, by first | rfl | trivial⟩
                    case measure => simp [intOf]; omega
    · obtain rfl : k = t.size := by omega
      have c := fun w => l1In_any t.size 1 20 w
      have hw : Pl.wordL (by8 t) = (decide ((1 : Int) ≤ t.size) && decide ((t.size : Int) ≤ 20)) := by
        have ha := HA.out
        rw [List.take_of_length_le (by rw [Pl.data_len]; exact Nat.le_refl _)] at ha
        unfold Pl.wordL
        rw [ha, Bool.true_and, Pl.data_len]
        congr 1 <;> (rw [decide_eq_decide]; omega)
      rw [← hw] at c
      have C := Lib.hid c
      clear c hw HA
      go_wp2_with fail
      refine (C.out _).mono ?_
      rintro e w1 ⟨rfl, rfl⟩
      go_wp2
      go_ret
      exact ⟨rfl, rfl⟩
/-- An atom. -/
abbrev atV (k : Int) (t : ByteArray) : Value := .agg #[.int .i64 k, .string t]
set_option maxHeartbeats 1000000 in
theorem l5Good_any (k : Int) (t : ByteArray) (w : World) (ht : t.size ≤ 4294967280) :
    Calls Tryz.prog 71 #[atV k t] w fun e w' => e = .returned (.bool (Pl.goodA k (by8 t))) ∧ Below w.heap.size w w' := by
  have C := Lib.hid (fun w => l5Word_any t w ht)
  by_cases h5 : 1 ≤ k ∧ k ≤ 5
  · have hG : Pl.goodA k (by8 t) = Pl.wordL (by8 t) := by unfold Pl.goodA; rw [if_pos h5]
    rw [hG]
    have hk : k = 1 ∨ k = 2 ∨ k = 3 ∨ k = 4 ∨ k = 5 := by omega
    clear h5 hG
    rcases hk with rfl | rfl | rfl | rfl | rfl
    all_goals
      go_enter Tryz.func71, Tryz.ntmps71
      go_wp2_with fail
      refine (C.out _).mono ?_
      rintro e w1 ⟨rfl, rfl⟩
      go_wp2
      go_ret
      exact ⟨rfl, (Below.refl _ _).alloc (Nat.le_refl _) _⟩
  · by_cases h6 : k = 6
    · clear h5
      subst h6
      have hG : Hid (Pl.goodA 6 (by8 t) = (t.toList == [46] || t.toList == [33] || t.toList == [63])) := by show _ = _; unfold Pl.goodA by8; rw [Lib.toList_data]; rfl
      go_enter Tryz.func71, Tryz.ntmps71
      go_wp2_with fail
      all_goals go_ret
      all_goals refine ⟨?_, (Below.refl _ _).alloc (Nat.le_refl _) _⟩
      all_goals rw [hG.out]
      all_goals simp [*]
    · by_cases h7 : k = 7
      · clear h5 h6
        subst h7
        have hG : Hid (Pl.goodA 7 (by8 t) = (t.toList == [44] || t.toList == [59] || t.toList == [58])) := by show _ = _; unfold Pl.goodA by8; rw [Lib.toList_data]; rfl
        go_enter Tryz.func71, Tryz.ntmps71
        go_wp2_with fail
        all_goals go_ret
        all_goals refine ⟨?_, (Below.refl _ _).alloc (Nat.le_refl _) _⟩
        all_goals rw [hG.out]
        all_goals simp [*]
      · by_cases h8 : 8 ≤ k ∧ k ≤ 10
        · have hk : k = 8 ∨ k = 9 ∨ k = 10 := by omega
          have hG : Hid (Pl.goodA k (by8 t) = (t.toList == [])) := by show _ = _; unfold Pl.goodA by8; rw [Lib.toList_data, if_neg h5, if_neg h6, if_neg h7, if_pos h8]
          clear h5 h6 h7 h8
          rcases hk with rfl | rfl | rfl
          all_goals
            go_enter Tryz.func71, Tryz.ntmps71
            go_wp2_with fail
            all_goals go_ret
            all_goals refine ⟨?_, (Below.refl _ _).alloc (Nat.le_refl _) _⟩
            all_goals rw [hG.out]
            all_goals simp [*]
        · have hG : Hid (Pl.goodA k (by8 t) = false) := by show _ = _; unfold Pl.goodA; rw [if_neg h5, if_neg h6, if_neg h7, if_neg h8]
          have e : ∀ n : Int, 1 ≤ n → n ≤ 10 → (k == n) = false := fun n h1 h2 => by rw [beq_eq_false_iff_ne]; omega
          have e1 := e 1 (by omega) (by omega)
          have e2 := e 2 (by omega) (by omega)
          have e3 := e 3 (by omega) (by omega)
          have e4 := e 4 (by omega) (by omega)
          have e5 := e 5 (by omega) (by omega)
          have e6 := e 6 (by omega) (by omega)
          have e7 := e 7 (by omega) (by omega)
          have e8 := e 8 (by omega) (by omega)
          have e9 := e 9 (by omega) (by omega)
          have e10 := e 10 (by omega) (by omega)
          clear h5 h6 h7 h8 e
          go_enter Tryz.func71, Tryz.ntmps71
          go_wp2
          go_ret
          exact ⟨by rw [hG.out]; rfl, (Below.refl _ _).alloc (Nat.le_refl _) _⟩
/-- The notation, as a string. -/
def fmtB (k : Int) (t : ByteArray) : ByteArray := ⟨(Pl.fmtA k (by8 t)).toArray⟩
theorem fmtB_list (k : Int) (t : ByteArray) : by8 (fmtB k t) = Pl.fmtA k (by8 t) := rfl
theorem fmtB_1 (t : ByteArray) : fmtB 1 t = t := by apply ByteArray.ext; simp [fmtB, Pl.fmtA]
theorem fmtB_2 (t : ByteArray) : fmtB 2 t = (⟨#[123, 94]⟩ ++ t) ++ ⟨#[125]⟩ := by apply ByteArray.ext; simp [fmtB, Pl.fmtA, ByteArray.data_append]
theorem fmtB_3 (t : ByteArray) : fmtB 3 t = (⟨#[123]⟩ ++ t) ++ ⟨#[94, 125]⟩ := by apply ByteArray.ext; simp [fmtB, Pl.fmtA, ByteArray.data_append]
theorem fmtB_4 (t : ByteArray) : fmtB 4 t = (⟨#[123, 94]⟩ ++ t) ++ ⟨#[94, 125]⟩ := by apply ByteArray.ext; simp [fmtB, Pl.fmtA, ByteArray.data_append]
theorem fmtB_5 (t : ByteArray) : fmtB 5 t = (⟨#[123, 38]⟩ ++ t) ++ ⟨#[125]⟩ := by apply ByteArray.ext; simp [fmtB, Pl.fmtA, ByteArray.data_append]
theorem fmtB_8 (t : ByteArray) : fmtB 8 t = ⟨#[123, 45, 124, 125]⟩ := rfl
theorem fmtB_9 (t : ByteArray) : fmtB 9 t = ⟨#[123, 62, 125]⟩ := rfl
theorem fmtB_10 (t : ByteArray) : fmtB 10 t = ⟨#[123, 42, 45, 124, 125]⟩ := rfl
theorem fmtB_else (k : Int) (t : ByteArray) (h5 : ¬ (1 ≤ k ∧ k ≤ 5)) (h8 : ¬ (8 ≤ k ∧ k ≤ 10)) : fmtB k t = (⟨#[123]⟩ ++ t) ++ ⟨#[125]⟩ := by
  have e : Pl.fmtA k (by8 t) = [123] ++ by8 t ++ [125] := by
    unfold Pl.fmtA
    rw [if_neg (by omega), if_neg (by omega), if_neg (by omega), if_neg (by omega), if_neg (by omega), if_neg (by omega), if_neg (by omega), if_neg (by omega)]
  unfold fmtB
  rw [e]
  apply ByteArray.ext
  simp [ByteArray.data_append]
theorem fmtB_size (k : Int) (t : ByteArray) : (fmtB k t).size ≤ t.size + 5 := by
  have e : (fmtB k t).size = (Pl.fmtA k (by8 t)).length := by show (Pl.fmtA k (by8 t)).toArray.size = _; simp
  rw [e]
  have : (by8 t).length = t.size := Pl.data_len t
  unfold Pl.fmtA
  repeat' split
  all_goals simp
  all_goals omega
set_option maxHeartbeats 1000000 in
theorem l5Format_any (k : Int) (t : ByteArray) (w : World) (ht : t.size ≤ 1048600) :
    Calls Tryz.prog 72 #[atV k t] w fun e w' => e = .returned (.string (fmtB k t)) ∧ Below w.heap.size w w' := by
  by_cases h5 : (1 ≤ k ∧ k ≤ 5) ∨ (8 ≤ k ∧ k ≤ 10)
  · have hk : k = 1 ∨ k = 2 ∨ k = 3 ∨ k = 4 ∨ k = 5 ∨ k = 8 ∨ k = 9 ∨ k = 10 := by omega
    have h1 := Lib.hid (fmtB_1 t)
    have h2 := Lib.hid (fmtB_2 t)
    have h3 := Lib.hid (fmtB_3 t)
    have h4 := Lib.hid (fmtB_4 t)
    have h5' := Lib.hid (fmtB_5 t)
    have h8 := Lib.hid (fmtB_8 t)
    have h9 := Lib.hid (fmtB_9 t)
    have h10 := Lib.hid (fmtB_10 t)
    clear h5
    rcases hk with rfl | rfl | rfl | rfl | rfl | rfl | rfl | rfl
    all_goals
      go_enter Tryz.func72, Tryz.ntmps72
      go_wp2
      go_ret
      refine ⟨?_, (Below.refl _ _).alloc (Nat.le_refl _) _⟩
      first | rw [h1.out] | rw [h2.out] | rw [h3.out] | rw [h4.out] | rw [h5'.out] | rw [h8.out] | rw [h9.out] | rw [h10.out]
      rfl
  · have hG := Lib.hid (fmtB_else k t (by omega) (by omega))
    have e : ∀ n : Int, ((1 ≤ n ∧ n ≤ 5) ∨ (8 ≤ n ∧ n ≤ 10)) → (k == n) = false := fun n h => by rw [beq_eq_false_iff_ne]; omega
    have e1 := e 1 (by omega)
    have e2 := e 2 (by omega)
    have e3 := e 3 (by omega)
    have e4 := e 4 (by omega)
    have e5 := e 5 (by omega)
    have e8 := e 8 (by omega)
    have e9 := e 9 (by omega)
    have e10 := e 10 (by omega)
    clear h5 e
    go_enter Tryz.func72, Tryz.ntmps72
    go_wp2
    go_ret
    exact ⟨by rw [hG.out]; rfl, (Below.refl _ _).alloc (Nat.le_refl _) _⟩
theorem by8_extract (s : ByteArray) (i j : Nat) : by8 (s.extract i j) = ((by8 s).drop i).take (j - i) := by
  show (s.extract i j).data.toList = _
  rw [ByteArray.data_extract, Array.toList_extract, List.extract_eq_take_drop]
theorem by8_at {s : ByteArray} {k : Nat} (h : k < s.size) : (by8 s).getD k 0 = s[k] := by
  rw [List.getD_eq_getElem?_getD]
  show (s.data.toList[k]?).getD 0 = s.data[k]
  rw [Array.getElem?_toList, Array.getElem?_eq_getElem h]
  rfl
theorem by8_inj {s t : ByteArray} (h : by8 s = by8 t) : s = t := by
  apply ByteArray.ext
  exact Array.toList_inj.1 h
theorem by8_mk (l : List UInt8) : by8 ⟨l.toArray⟩ = l := rfl
theorem mk_by8 (l : List UInt8) (t : ByteArray) (h : by8 t = l) : (⟨l.toArray⟩ : ByteArray) = t := by subst h; apply by8_inj; rfl
/-- The atom of a notation, unchecked. -/
def kindV (s : ByteArray) : Value := atV (Pl.kindA (by8 s)).1 ⟨(Pl.kindA (by8 s)).2.toArray⟩
theorem kindV_of {s : ByteArray} {k : Int} {t : ByteArray} (h : Pl.kindA (by8 s) = (k, by8 t)) : kindV s = atV k t := by unfold kindV; rw [h]
theorem kindA_q {s q : ByteArray} (h3 : ¬ s.size < 3) (hx : (s[0].toNat : Int) = 123) (hy : (s[s.size - 1].toNat : Int) = 125) (hq : s.extract 1 (s.size - 1) = q) : Pl.kindA (by8 s) = Pl.kindI (by8 q) := by
  subst hq
  unfold Pl.kindA
  rw [Pl.data_len, by8_extract, if_neg, show s.size - 1 - 1 = s.size - 2 by omega]
  rintro (h | h | h)
  · exact h3 h
  · rw [by8_at (by omega)] at h
    exact h (UInt8.toNat_inj.1 (by show s[0].toNat = 123; omega))
  · rw [by8_at (by omega)] at h
    exact h (UInt8.toNat_inj.1 (by show s[s.size - 1].toNat = 125; omega))
theorem kindV_in {s : ByteArray} {l : List UInt8} (h : Pl.kindA (by8 s) = Pl.kindI l) : kindV s = atV (Pl.kindI l).1 ⟨(Pl.kindI l).2.toArray⟩ := by unfold kindV; rw [h]
theorem kindV_to {s q : ByteArray} {k : Int} {l : List UInt8} (h : Pl.kindA (by8 s) = (k, l)) (e : by8 q = l) : kindV s = atV k q := by unfold kindV; rw [h, mk_by8 _ _ e]
set_option maxHeartbeats 1000000 in
theorem l5Kind_any (s : ByteArray) (w : World) (hs : s.size ≤ 1048600) :
    Calls Tryz.prog 70 #[.string s] w fun e w' => e = .returned (kindV s) ∧ Below w.heap.size w w' := by
  by_cases h3 : s.size < 3
  · have hE := Lib.hid (kindV_of (s := s) (k := 1) (t := s) (by unfold Pl.kindA; rw [if_pos (.inl (by rw [Pl.data_len]; exact h3))]))
    go_enter Tryz.func70, Tryz.ntmps70
    go_wp2
    ((try simp only [Exit.inBlock, Exit.then]); refine bodyPost_ret (results_cell_row rfl _ _ _ _ _ _ _ rfl (heap_alloc_new _ _) Tryz.underlying96 rfl (by kernel_rfl)) rfl ?_)
    exact ⟨by rw [hE.out], (Below.refl _ _).alloc (Nat.le_refl _) _⟩
  · obtain ⟨x, hx⟩ : ∃ x : Int, (s[0].toNat : Int) = x := ⟨_, rfl⟩
    obtain ⟨y, hy⟩ : ∃ y : Int, (s[s.size - 1].toNat : Int) = y := ⟨_, rfl⟩
    by_cases hc : x = 123 ∧ y = 125
    · obtain ⟨rfl, rfl⟩ := hc
      obtain ⟨q, hq⟩ : ∃ q, s.extract 1 (s.size - 1) = q := ⟨_, rfl⟩
      have hK := kindA_q h3 hx hy hq
      have hqs : q.size = s.size - 2 := by rw [← hq, ByteArray.size_extract]; omega
      by_cases hL : by8 q ∈ [[45, 124], [62], [42, 45, 124], [46], [33], [63], [44], [59], ([58] : List UInt8)]
      · simp only [List.mem_cons, List.not_mem_nil, or_false] at hL
        clear hqs
        rcases hL with h | h | h | h | h | h | h | h | h
        all_goals
          rw [h] at hK
          obtain rfl := (mk_by8 _ _ h).symm
          have hE := Lib.hid (kindV_in hK)
          clear hK h
          go_enter Tryz.func70, Tryz.ntmps70
          go_wp2
          ((try simp only [Exit.inBlock, Exit.then]); refine bodyPost_ret (results_cell_row rfl _ _ _ _ _ _ _ rfl (heap_alloc_new _ _) Tryz.underlying96 rfl (by kernel_rfl)) rfl ?_)
          exact ⟨by rw [hE.out]; rfl, (Below.refl _ _).alloc (Nat.le_refl _) _⟩
      · rw [Pl.kindI_other (t := by8 q) (fun u hu e => hL (e ▸ hu))] at hK
        have hn : ∀ u ∈ [[45, 124], [62], [42, 45, 124], [46], [33], [63], [44], [59], ([58] : List UInt8)], (q.toList == u) = false := fun u hu => by rw [beq_eq_false_iff_ne]; exact fun e => hL (by rw [← e, Lib.toList_data] at hu; exact hu)
        have n1 := hn [45, 124] (by simp)
        have n2 := hn [62] (by simp)
        have n3 := hn [42, 45, 124] (by simp)
        have n4 := hn [46] (by simp)
        have n5 := hn [33] (by simp)
        have n6 := hn [63] (by simp)
        have n7 := hn [44] (by simp)
        have n8 := hn [59] (by simp)
        have n9 := hn [58] (by simp)
        have hq0 : 0 < q.size := by omega
        have hqm : q.size ≤ 1048600 := by omega
        clear hqs
        rw [Pl.data_len, by8_at (by omega), by8_at (by omega)] at hK
        obtain ⟨a, ha⟩ : ∃ a : Int, (q[0].toNat : Int) = a := ⟨_, rfl⟩
        obtain ⟨b, hb⟩ : ∃ b : Int, (q[q.size - 1].toNat : Int) = b := ⟨_, rfl⟩
        have hA : ∀ c : UInt8, (q[0] = c) = (a = (c.toNat : Int)) := by
          intro c
          rw [← ha, eq_iff_iff]
          exact ⟨fun e => by rw [e], fun e => UInt8.toNat_inj.1 (by omega)⟩
        have hB : ∀ c : UInt8, (q[q.size - 1] = c) = (b = (c.toNat : Int)) := by
          intro c
          rw [← hb, eq_iff_iff]
          exact ⟨fun e => by rw [e], fun e => UInt8.toNat_inj.1 (by omega)⟩
        simp only [hA, hB] at hK
        simp only [show ((UInt8.toNat 38 : Nat) : Int) = 38 from rfl, show ((UInt8.toNat 94 : Nat) : Int) = 94 from rfl] at hK
        have x1 : by8 (q.extract 1 q.size) = (by8 q).drop 1 := by
          rw [by8_extract, List.take_of_length_le]
          rw [List.length_drop, Pl.data_len]; exact Nat.le_refl _
        have x2 : by8 (q.extract 1 (q.size - 1)) = ((by8 q).drop 1).take (q.size - 2) := by rw [by8_extract, show q.size - 1 - 1 = q.size - 2 by omega]
        have x3 : by8 (q.extract 0 (q.size - 1)) = (by8 q).take (q.size - 1) := by rw [by8_extract, List.drop_zero, Nat.sub_zero]
        clear hn hL hA hB
        by_cases c38 : a = 38
        · rw [if_pos (by exact c38)] at hK
          have hE := Lib.hid (kindV_to hK x1)
          clear hK x1 x2 x3
          subst c38
          go_enter Tryz.func70, Tryz.ntmps70
          go_wp2
          ((try simp only [Exit.inBlock, Exit.then]); refine bodyPost_ret (results_cell_row rfl _ _ _ _ _ _ _ rfl (heap_alloc_new _ _) Tryz.underlying96 rfl (by kernel_rfl)) rfl ?_)
          exact ⟨by rw [hE.out], (Below.refl _ _).alloc (Nat.le_refl _) _⟩
        · rw [if_neg (by exact c38)] at hK
          by_cases c94 : a = 94
          · subst c94
            by_cases d94 : b = 94
            · subst d94
              by_cases hz : 2 < q.size
              · rw [if_pos ⟨rfl, rfl, hz⟩] at hK
                have hE := Lib.hid (kindV_to hK x2)
                clear hK x1 x2 x3
                go_enter Tryz.func70, Tryz.ntmps70
                go_wp2
                ((try simp only [Exit.inBlock, Exit.then]); refine bodyPost_ret (results_cell_row rfl _ _ _ _ _ _ _ rfl (heap_alloc_new _ _) Tryz.underlying96 rfl (by kernel_rfl)) rfl ?_)
                exact ⟨by rw [hE.out], (Below.refl _ _).alloc (Nat.le_refl _) _⟩
              · rw [if_neg (fun e => hz e.2.2), if_pos rfl] at hK
                have hE := Lib.hid (kindV_to hK x1)
                clear hK x1 x2 x3
                go_enter Tryz.func70, Tryz.ntmps70
                go_wp2
                ((try simp only [Exit.inBlock, Exit.then]); refine bodyPost_ret (results_cell_row rfl _ _ _ _ _ _ _ rfl (heap_alloc_new _ _) Tryz.underlying96 rfl (by kernel_rfl)) rfl ?_)
                exact ⟨by rw [hE.out], (Below.refl _ _).alloc (Nat.le_refl _) _⟩
            · rw [if_neg (fun e => d94 e.2.1), if_pos rfl] at hK
              have hE := Lib.hid (kindV_to hK x1)
              clear hK x1 x2 x3
              have d941 : (b == 94) = false := by rw [beq_eq_false_iff_ne]; exact d94
              have d942 : (b != 94) = true := by rw [bne_iff_ne]; exact d94
              go_enter Tryz.func70, Tryz.ntmps70
              go_wp2
              ((try simp only [Exit.inBlock, Exit.then]); refine bodyPost_ret (results_cell_row rfl _ _ _ _ _ _ _ rfl (heap_alloc_new _ _) Tryz.underlying96 rfl (by kernel_rfl)) rfl ?_)
              exact ⟨by rw [hE.out], (Below.refl _ _).alloc (Nat.le_refl _) _⟩
          · rw [if_neg (fun e => c94 e.1), if_neg (by exact c94)] at hK
            have c381 : (a == 38) = false := by rw [beq_eq_false_iff_ne]; exact c38
            have c382 : (a != 38) = true := by rw [bne_iff_ne]; exact c38
            have c941 : (a == 94) = false := by rw [beq_eq_false_iff_ne]; exact c94
            have c942 : (a != 94) = true := by rw [bne_iff_ne]; exact c94
            by_cases d94 : b = 94
            · subst d94
              rw [if_pos rfl] at hK
              have hE := Lib.hid (kindV_to hK x3)
              clear hK x1 x2 x3
              go_enter Tryz.func70, Tryz.ntmps70
              go_wp2
              ((try simp only [Exit.inBlock, Exit.then]); refine bodyPost_ret (results_cell_row rfl _ _ _ _ _ _ _ rfl (heap_alloc_new _ _) Tryz.underlying96 rfl (by kernel_rfl)) rfl ?_)
              exact ⟨by rw [hE.out], (Below.refl _ _).alloc (Nat.le_refl _) _⟩
            · rw [if_neg (by exact d94)] at hK
              have hE := Lib.hid (kindV_to (q := ⟨#[]⟩) hK rfl)
              clear hK x1 x2 x3
              have d941 : (b == 94) = false := by rw [beq_eq_false_iff_ne]; exact d94
              have d942 : (b != 94) = true := by rw [bne_iff_ne]; exact d94
              go_enter Tryz.func70, Tryz.ntmps70
              go_wp2
              ((try simp only [Exit.inBlock, Exit.then]); refine bodyPost_ret (results_cell_row rfl _ _ _ _ _ _ _ rfl (heap_alloc_new _ _) Tryz.underlying96 rfl (by kernel_rfl)) rfl ?_)
              exact ⟨by rw [hE.out], (Below.refl _ _).alloc (Nat.le_refl _) _⟩
    · have hE := Lib.hid (kindV_of (s := s) (k := 1) (t := s) (by
        unfold Pl.kindA
        rw [if_pos, ]
        rw [Pl.data_len, by8_at (by omega), by8_at (by omega)]
        by_cases e : x = 123
        · refine .inr (.inr fun e2 => hc ⟨e, ?_⟩)
          rw [← hy, e2]; rfl
        · refine .inr (.inl fun e2 => e ?_)
          rw [← hx, e2]; rfl))
      by_cases e : x = 123
      · have e2 : ¬ y = 125 := fun e2 => hc ⟨e, e2⟩
        have e3 : (y == 125) = false := by rw [beq_eq_false_iff_ne]; exact e2
        have e4 : (y != 125) = true := by rw [bne_iff_ne]; exact e2
        subst e
        clear hc
        go_enter Tryz.func70, Tryz.ntmps70
        go_wp2
        ((try simp only [Exit.inBlock, Exit.then]); refine bodyPost_ret (results_cell_row rfl _ _ _ _ _ _ _ rfl (heap_alloc_new _ _) Tryz.underlying96 rfl (by kernel_rfl)) rfl ?_)
        exact ⟨by rw [hE.out], (Below.refl _ _).alloc (Nat.le_refl _) _⟩
      · have e2 : ¬ x = 123 := e
        have e3 : (x == 123) = false := by rw [beq_eq_false_iff_ne]; exact e2
        have e4 : (x != 123) = true := by rw [bne_iff_ne]; exact e2
        clear hc e
        go_enter Tryz.func70, Tryz.ntmps70
        go_wp2
        ((try simp only [Exit.inBlock, Exit.then]); refine bodyPost_ret (results_cell_row rfl _ _ _ _ _ _ _ rfl (heap_alloc_new _ _) Tryz.underlying96 rfl (by kernel_rfl)) rfl ?_)
        exact ⟨by rw [hE.out], (Below.refl _ _).alloc (Nat.le_refl _) _⟩
end Go.Proofs.YtnpiphkglhcifaaGreat
