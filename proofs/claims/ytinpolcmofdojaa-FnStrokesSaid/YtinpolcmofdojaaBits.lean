/-
  BITS of ints that are not negative, and CONTRACTS of the small functions of chapter 2: isKey, has, isStroke, IsValidStroke, HasKey, MergeStrokes, and the specification's.
-/
import Derived.Test.YtinpolcmofdojaaProg
import Derived.Test.YtinpolcmofdojaaAid
import Derived.Test.YtinpolcmofdojaaPlainKeys
import Derived.Test.YtinpolcmofdojaaNum
import Derived.Laws.BitsAllLaws
import Derived.Deep.QuietTactic
import Derived.BigQuiet
import Derived.WalkSpells
namespace Go.Proofs.Ytinpolcmofdojaa
open Go.RowKit

theorem i64_small (n : Nat) (h : n < 9223372036854775808) : IntKind.i64.wrap (n : Int) = (n : Int) := IntWalk.i64_in _ (by omega)
theorem and_i64 (a b : Nat) (ha : a < 9223372036854775808) (hb : b < 9223372036854775808) : bits .and .i64 (a : Int) (b : Int) = ((a &&& b : Nat) : Int) := by
  show IntKind.i64.wrap ((BitVec.ofInt 64 (a : Int) &&& BitVec.ofInt 64 (b : Int)).toNat : Int) = _
  rw [BitVec.toNat_and, ofInt_u64 a (by omega), ofInt_u64 b (by omega)]
  exact i64_small _ (Nat.lt_of_le_of_lt Nat.and_le_left ha)
theorem or_i64 (a b : Nat) (ha : a < 2 ^ 63) (hb : b < 2 ^ 63) : bits .or .i64 (a : Int) (b : Int) = ((a ||| b : Nat) : Int) := by
  show IntKind.i64.wrap ((BitVec.ofInt 64 (a : Int) ||| BitVec.ofInt 64 (b : Int)).toNat : Int) = _
  rw [BitVec.toNat_or, ofInt_u64 a (by omega), ofInt_u64 b (by omega)]
  exact i64_small _ (Nat.or_lt_two_pow ha hb)
/-- The bit k, as the Go text asks for it. -/
theorem bit_i64 (n k : Nat) (h : n < 9223372036854775808) : bits .and .i64 ((n : Int) / 2 ^ k) 1 = if n.testBit k then 1 else 0 := by
  have e : ((n : Int) / 2 ^ k) = ((n / 2 ^ k : Nat) : Int) := by rw [Int.natCast_ediv, Int.natCast_pow]; rfl
  rw [e, show (1 : Int) = ((1 : Nat) : Int) from rfl, and_i64 _ _ (Nat.lt_of_le_of_lt (Nat.div_le_self _ _) h) (by decide), Nat.and_one_is_mod, Nat.testBit_eq_decide_div_mod_eq]
  by_cases hb : n / 2 ^ k % 2 = 1
  · rw [hb]; simp
  · have : n / 2 ^ k % 2 = 0 := by omega
    rw [this]; simp

theorem isKey_any (k : Int) (w : World) :
    Calls Try.prog 55 #[.int .i64 k] w fun e w' => e = .returned (.bool (decide (0 ≤ k) && decide (k < 23))) ∧ w = w' := by
  by_cases h : 0 ≤ k
  · go_enter Try.func55, Try.ntmps55
    go_wp2
    go_ret
    exact ⟨ret_bool (by simp [h]), rfl⟩
  · have h' : k < 0 := by omega
    go_enter Try.func55, Try.ntmps55
    go_wp2
    go_ret
    exact ⟨ret_bool (by rw [decide_eq_false (by omega : ¬ 0 ≤ k)]; rfl), rfl⟩

theorem has_in (n k : Nat) (hn : n < 8388608) (hk : k < 23) (w : World) :
    Calls Try.prog 52 #[.int .i64 n, .int .i64 k] w fun e w' => e = .returned (.bool (n.testBit k)) ∧ w = w' := by
  have c := fun w => isKey_any (k : Int) w
  rw [show (decide (0 ≤ (k : Int)) && decide ((k : Int) < 23)) = true by simp; omega] at c
  have C := Lib.hid c
  clear c
  have hb := bit_i64 n k (by omega)
  have HB := Lib.hid hb
  clear hb
  go_enter Try.func52, Try.ntmps52
  go_wp2_with fail
  refine (C.out _).mono ?_
  rintro e w1 ⟨rfl, rfl⟩
  go_wp2
  go_ret
  exact ⟨ret_bool (by rw [HB.out]; cases n.testBit k <;> rfl), rfl⟩
theorem has_out (n : Nat) (k : Int) (hk : ¬ (0 ≤ k ∧ k < 23)) (w : World) :
    Calls Try.prog 52 #[.int .i64 n, .int .i64 k] w fun e w' => e = .returned (.bool false) ∧ w = w' := by
  have c := fun w => isKey_any k w
  rw [show (decide (0 ≤ k) && decide (k < 23)) = false by simp; omega] at c
  have C := Lib.hid c
  clear c hk
  go_enter Try.func52, Try.ntmps52
  go_wp2_with fail
  refine (C.out _).mono ?_
  rintro e w1 ⟨rfl, rfl⟩
  go_wp2
  go_ret
  exact ⟨rfl, rfl⟩

/-- Is the number a stroke? -/
def okS (s : Int) : Bool := decide (1 ≤ s) && decide (s < 8388608)
theorem okS_yes {s : Int} (h : 1 ≤ s ∧ s < 8388608) : okS s = true := by simp [okS]; omega
theorem okS_no {s : Int} (h : ¬ (1 ≤ s ∧ s < 8388608)) : okS s = false := by simp [okS]; omega
theorem okS_iff {s : Int} : okS s = true ↔ 1 ≤ s ∧ s < 8388608 := by simp [okS]

theorem isStroke_any (s : Int) (w : World) :
    Calls Try.prog 49 #[.int .i64 s] w fun e w' => e = .returned (.bool (okS s)) ∧ w = w' := by
  by_cases h : 1 ≤ s
  · go_enter Try.func49, Try.ntmps49
    go_wp2
    go_ret
    exact ⟨ret_bool (by simp [okS, h]), rfl⟩
  · have h' : s < 1 := by omega
    go_enter Try.func49, Try.ntmps49
    go_wp2
    go_ret
    exact ⟨ret_bool (okS_no (by omega)).symm, rfl⟩
theorem IsValidStroke_any (s : Int) (w : World) :
    Calls Try.prog 21 #[.int .i64 s] w fun e w' => e = .returned (.bool (okS s)) ∧ w = w' := by
  have C := Lib.hid (fun w => isStroke_any s w)
  go_enter Try.func21, Try.ntmps21
  go_wp2_with fail
  refine (C.out _).mono ?_
  rintro e w1 ⟨rfl, rfl⟩
  go_wp2
  go_ret
  exact ⟨rfl, rfl⟩
theorem l2Good_any (s : Int) (w : World) :
    Calls Try.prog 43 #[.int .i64 s] w fun e w' => e = .returned (.bool (okS s)) ∧ w = w' := by
  have c := fun w => l1In_any s 1 8388607 w
  rw [show (decide (1 ≤ s) && decide (s ≤ 8388607)) = okS s by unfold okS; congr 1; rw [decide_eq_decide]; omega] at c
  have C := Lib.hid c
  clear c
  go_enter Try.func43, Try.ntmps43
  go_wp2_with fail
  refine (C.out _).mono ?_
  rintro e w1 ⟨rfl, rfl⟩
  go_wp2
  go_ret
  exact ⟨rfl, rfl⟩
theorem specIsValidStroke_any (s : Int) (w : World) :
    Calls Try.prog 35 #[.int .i64 s] w fun e w' => e = .returned (.bool (okS s)) ∧ w = w' := by
  have C := Lib.hid (fun w => l2Good_any s w)
  go_enter Try.func35, Try.ntmps35
  go_wp2_with fail
  refine (C.out _).mono ?_
  rintro e w1 ⟨rfl, rfl⟩
  go_wp2
  go_ret
  exact ⟨rfl, rfl⟩

/-- Is the key pressed? -/
def hasB (s k : Int) : Bool := okS s && (decide (0 ≤ k) && decide (k < 23)) && s.toNat.testBit k.toNat

theorem HasKey_any (s k : Int) (w : World) :
    Calls Try.prog 29 #[.int .i64 s, .int .i64 k] w fun e w' => e = .returned (.bool (hasB s k)) ∧ w = w' := by
  have c := fun w => IsValidStroke_any s w
  by_cases h : 1 ≤ s ∧ s < 8388608
  · rw [okS_yes h] at c
    have C := Lib.hid c
    have hB : hasB s k = (decide (0 ≤ k) && decide (k < 23) && s.toNat.testBit k.toNat) := by unfold hasB; rw [okS_yes h]; rfl
    obtain ⟨n, rfl⟩ := Int.eq_ofNat_of_zero_le (show 0 ≤ s by omega)
    have CH : Hid (∀ w, Calls Try.prog 52 #[.int .i64 n, .int .i64 k] w fun e w' => e = .returned (.bool (hasB n k)) ∧ w = w') := by
      intro w
      by_cases hk : 0 ≤ k ∧ k < 23
      · obtain ⟨q, rfl⟩ := Int.eq_ofNat_of_zero_le hk.1
        have := has_in n q (by omega) (by omega) w
        rw [hB, show (decide (0 ≤ (q : Int)) && decide ((q : Int) < 23)) = true by simp; omega]
        exact this
      · have := has_out n k hk w
        rw [hB, show (decide (0 ≤ k) && decide (k < 23)) = false by simp; omega]
        exact this
    clear c h hB
    go_enter Try.func29, Try.ntmps29
    go_wp2_with fail
    refine (C.out _).mono ?_
    rintro e w1 ⟨rfl, rfl⟩
    go_wp2_with fail
    refine (CH.out _).mono ?_
    rintro e w1 ⟨rfl, rfl⟩
    go_wp2
    go_ret
    exact ⟨rfl, rfl⟩
  · rw [okS_no h] at c
    have C := Lib.hid c
    have hB : hasB s k = false := by unfold hasB; rw [okS_no h]; rfl
    rw [hB]
    clear c h hB
    go_enter Try.func29, Try.ntmps29
    go_wp2_with fail
    refine (C.out _).mono ?_
    rintro e w1 ⟨rfl, rfl⟩
    go_wp2
    go_ret
    exact ⟨rfl, rfl⟩
theorem specHasKey_any (s k : Int) (w : World) :
    Calls Try.prog 34 #[.int .i64 s, .int .i64 k] w fun e w' => e = .returned (.bool (hasB s k)) ∧ w = w' := by
  have c := fun w => l2Good_any s w
  have d := fun w => l1In_any k 0 22 w
  have hd : (decide (0 ≤ k) && decide (k ≤ 22)) = (decide (0 ≤ k) && decide (k < 23)) := by congr 1; rw [decide_eq_decide]; omega
  rw [hd] at d
  by_cases h : 1 ≤ s ∧ s < 8388608
  · have hB : hasB s k = (decide (0 ≤ k) && decide (k < 23) && s.toNat.testBit k.toNat) := by unfold hasB; rw [okS_yes h]; rfl
    rw [okS_yes h] at c
    have C := Lib.hid c
    obtain ⟨n, rfl⟩ := Int.eq_ofNat_of_zero_le (show 0 ≤ s by omega)
    by_cases hk : 0 ≤ k ∧ k < 23
    · have e1 : (decide (0 ≤ k) && decide (k < 23)) = true := by simp; omega
      rw [e1] at d hB
      have D := Lib.hid d
      obtain ⟨q, rfl⟩ := Int.eq_ofNat_of_zero_le hk.1
      have HB := Lib.hid (bit_i64 n q (by omega))
      rw [hB]
      obtain ⟨hk0, hk1⟩ := hk
      clear c d hd hB e1 h
      go_enter Try.func34, Try.ntmps34
      go_wp2_with fail
      refine (C.out _).mono ?_
      rintro e w1 ⟨rfl, rfl⟩
      go_wp2_with fail
      refine (D.out _).mono ?_
      rintro e w1 ⟨rfl, rfl⟩
      go_wp2
      go_ret
      exact ⟨ret_bool (by rw [HB.out]; simp only [Int.toNat_natCast, Bool.true_and]; cases n.testBit q <;> rfl), rfl⟩
    · have e1 : (decide (0 ≤ k) && decide (k < 23)) = false := by simp; omega
      rw [e1] at d hB
      have D := Lib.hid d
      rw [hB]
      clear c d hd hB e1 h hk
      go_enter Try.func34, Try.ntmps34
      go_wp2_with fail
      refine (C.out _).mono ?_
      rintro e w1 ⟨rfl, rfl⟩
      go_wp2_with fail
      refine (D.out _).mono ?_
      rintro e w1 ⟨rfl, rfl⟩
      go_wp2
      go_ret
      exact ⟨rfl, rfl⟩
  · rw [okS_no h] at c
    have C := Lib.hid c
    have hB : hasB s k = false := by unfold hasB; rw [okS_no h]; rfl
    rw [hB]
    clear c d hd h hB
    go_enter Try.func34, Try.ntmps34
    go_wp2_with fail
    refine (C.out _).mono ?_
    rintro e w1 ⟨rfl, rfl⟩
    go_wp2
    go_ret
    exact ⟨rfl, rfl⟩

/-- What a merge answers. -/
def mergeB (a b : Int) : Bool := okS a && okS b && (a.toNat &&& b.toNat == 0)
def mergeI (a b : Int) : Int := if mergeB a b = true then ((a.toNat ||| b.toNat : Nat) : Int) else 0
theorem mergeB_no1 {a b : Int} (h : ¬ (1 ≤ a ∧ a < 8388608)) : mergeB a b = false ∧ mergeI a b = 0 := by
  have : mergeB a b = false := by unfold mergeB; rw [okS_no h]; rfl
  exact ⟨this, by unfold mergeI; rw [this]; rfl⟩
theorem mergeB_no2 {a b : Int} (h : ¬ (1 ≤ b ∧ b < 8388608)) : mergeB a b = false ∧ mergeI a b = 0 := by
  have : mergeB a b = false := by unfold mergeB; rw [okS_no h, Bool.and_false]; rfl
  exact ⟨this, by unfold mergeI; rw [this]; rfl⟩
theorem MergeStrokes_any (a b : Int) (w : World) :
    Calls Try.prog 31 #[.int .i64 a, .int .i64 b] w fun e w' => e = .returned (.tuple #[.int .i64 (mergeI a b), .bool (mergeB a b)]) ∧ w = w' := by
  have c := fun w => IsValidStroke_any a w
  have d := fun w => IsValidStroke_any b w
  by_cases ha : 1 ≤ a ∧ a < 8388608
  · rw [okS_yes ha] at c
    have C := Lib.hid c
    by_cases hb : 1 ≤ b ∧ b < 8388608
    · rw [okS_yes hb] at d
      have D := Lib.hid d
      have hM : mergeB a b = (a.toNat &&& b.toNat == 0) := by unfold mergeB; rw [okS_yes ha, okS_yes hb]; rfl
      obtain ⟨m, rfl⟩ := Int.eq_ofNat_of_zero_le (show 0 ≤ a by omega)
      obtain ⟨n, rfl⟩ := Int.eq_ofNat_of_zero_le (show 0 ≤ b by omega)
      simp only [Int.toNat_natCast] at hM
      have ea := and_i64 m n (by omega) (by omega)
      have eo := or_i64 m n (by omega) (by omega)
      by_cases h0 : m &&& n = 0
      · have hM1 : mergeB m n = true := by rw [hM, h0]; rfl
        have hM2 : mergeI m n = ((m ||| n : Nat) : Int) := by unfold mergeI; rw [hM1]; rfl
        rw [h0] at ea
        rw [hM1, hM2]
        have EO := Lib.hid eo
        have e3 : (bits .and .i64 (m : Int) (n : Int) != 0) = false := by rw [ea]; rfl
        clear c d ha hb hM hM1 hM2 h0 ea eo
        go_enter Try.func31, Try.ntmps31
        go_wp2_with fail
        refine (C.out _).mono ?_
        rintro e w1 ⟨rfl, rfl⟩
        go_wp2_with fail
        refine (D.out _).mono ?_
        rintro e w1 ⟨rfl, rfl⟩
        go_wp2
        go_ret2
        exact ⟨ret_int_bool EO.out, rfl⟩
      · have hM1 : mergeB m n = false := by rw [hM, beq_eq_false_iff_ne]; exact h0
        have hM2 : mergeI m n = 0 := by unfold mergeI; rw [hM1]; rfl
        rw [hM1, hM2]
        have e3 : (bits .and .i64 (m : Int) (n : Int) != 0) = true := by rw [ea, bne_iff_ne]; omega
        clear c d ha hb hM hM1 hM2 h0 ea eo
        go_enter Try.func31, Try.ntmps31
        go_wp2_with fail
        refine (C.out _).mono ?_
        rintro e w1 ⟨rfl, rfl⟩
        go_wp2_with fail
        refine (D.out _).mono ?_
        rintro e w1 ⟨rfl, rfl⟩
        go_wp2
        go_ret2
        exact ⟨rfl, rfl⟩
    · rw [okS_no hb] at d
      have D := Lib.hid d
      rw [(mergeB_no2 hb).1, (mergeB_no2 hb).2]
      clear c d ha hb
      go_enter Try.func31, Try.ntmps31
      go_wp2_with fail
      refine (C.out _).mono ?_
      rintro e w1 ⟨rfl, rfl⟩
      go_wp2_with fail
      refine (D.out _).mono ?_
      rintro e w1 ⟨rfl, rfl⟩
      go_wp2
      go_ret2
      exact ⟨rfl, rfl⟩
  · rw [okS_no ha] at c
    have C := Lib.hid c
    rw [(mergeB_no1 ha).1, (mergeB_no1 ha).2]
    clear c d ha
    go_enter Try.func31, Try.ntmps31
    go_wp2_with fail
    refine (C.out _).mono ?_
    rintro e w1 ⟨rfl, rfl⟩
    go_wp2
    go_ret2
    exact ⟨rfl, rfl⟩
theorem specMergeStrokes_any (a b : Int) (w : World) :
    Calls Try.prog 32 #[.int .i64 a, .int .i64 b] w fun e w' => e = .returned (.tuple #[.int .i64 (mergeI a b), .bool (mergeB a b)]) ∧ w = w' := by
  have c := fun w => l2Good_any a w
  have d := fun w => l2Good_any b w
  by_cases ha : 1 ≤ a ∧ a < 8388608
  · rw [okS_yes ha] at c
    have C := Lib.hid c
    by_cases hb : 1 ≤ b ∧ b < 8388608
    · rw [okS_yes hb] at d
      have D := Lib.hid d
      have hM : mergeB a b = (a.toNat &&& b.toNat == 0) := by unfold mergeB; rw [okS_yes ha, okS_yes hb]; rfl
      obtain ⟨m, rfl⟩ := Int.eq_ofNat_of_zero_le (show 0 ≤ a by omega)
      obtain ⟨n, rfl⟩ := Int.eq_ofNat_of_zero_le (show 0 ≤ b by omega)
      simp only [Int.toNat_natCast] at hM
      have ea := and_i64 m n (by omega) (by omega)
      have eo := or_i64 m n (by omega) (by omega)
      by_cases h0 : m &&& n = 0
      · have hM1 : mergeB m n = true := by rw [hM, h0]; rfl
        have hM2 : mergeI m n = ((m ||| n : Nat) : Int) := by unfold mergeI; rw [hM1]; rfl
        rw [h0] at ea
        rw [hM1, hM2]
        have EO := Lib.hid eo
        have e3 : (bits .and .i64 (m : Int) (n : Int) != 0) = false := by rw [ea]; rfl
        clear c d ha hb hM hM1 hM2 h0 ea eo
        go_enter Try.func32, Try.ntmps32
        go_wp2_with fail
        refine (C.out _).mono ?_
        rintro e w1 ⟨rfl, rfl⟩
        go_wp2_with fail
        refine (D.out _).mono ?_
        rintro e w1 ⟨rfl, rfl⟩
        go_wp2
        go_ret2
        exact ⟨ret_int_bool EO.out, rfl⟩
      · have hM1 : mergeB m n = false := by rw [hM, beq_eq_false_iff_ne]; exact h0
        have hM2 : mergeI m n = 0 := by unfold mergeI; rw [hM1]; rfl
        rw [hM1, hM2]
        have e3 : (bits .and .i64 (m : Int) (n : Int) != 0) = true := by rw [ea, bne_iff_ne]; omega
        clear c d ha hb hM hM1 hM2 h0 ea eo
        go_enter Try.func32, Try.ntmps32
        go_wp2_with fail
        refine (C.out _).mono ?_
        rintro e w1 ⟨rfl, rfl⟩
        go_wp2_with fail
        refine (D.out _).mono ?_
        rintro e w1 ⟨rfl, rfl⟩
        go_wp2
        go_ret2
        exact ⟨rfl, rfl⟩
    · rw [okS_no hb] at d
      have D := Lib.hid d
      rw [(mergeB_no2 hb).1, (mergeB_no2 hb).2]
      clear c d ha hb
      go_enter Try.func32, Try.ntmps32
      go_wp2_with fail
      refine (C.out _).mono ?_
      rintro e w1 ⟨rfl, rfl⟩
      go_wp2_with fail
      refine (D.out _).mono ?_
      rintro e w1 ⟨rfl, rfl⟩
      go_wp2
      go_ret2
      exact ⟨rfl, rfl⟩
  · rw [okS_no ha] at c
    have C := Lib.hid c
    rw [(mergeB_no1 ha).1, (mergeB_no1 ha).2]
    clear c d ha
    go_enter Try.func32, Try.ntmps32
    go_wp2_with fail
    refine (C.out _).mono ?_
    rintro e w1 ⟨rfl, rfl⟩
    go_wp2
    go_ret2
    exact ⟨rfl, rfl⟩
end Go.Proofs.Ytinpolcmofdojaa
