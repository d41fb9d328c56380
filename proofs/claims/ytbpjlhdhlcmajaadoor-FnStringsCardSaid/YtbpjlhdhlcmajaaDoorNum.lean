/-
  CONTRACTS of the decimal texts of the specification: l1Num, l1In.
-/
import Derived.Test.YtbpjlhdhlcmajaaDoorProg
import Derived.Test.YtbpjlhdhlcmajaaDoorAid
import Derived.Lib.ItoaNum
import Derived.Deep.QuietTactic
import Derived.BigQuiet
import Derived.WalkSpells
namespace Go.Proofs.YtbpjlhdhlcmajaaDoor
open Go.RowKit

theorem l1In_any (x a b : Int) (w : World) :
    Calls Tryd.prog 24 #[.int .i64 x, .int .i64 a, .int .i64 b] w fun e w' => e = .returned (.bool (decide (a ≤ x) && decide (x ≤ b))) ∧ w = w' := by
  by_cases h : a ≤ x
  · go_enter Tryd.func24, Tryd.ntmps24
    go_wp2
    go_ret
    exact ⟨ret_bool (by simp [h]), rfl⟩
  · have h' : x < a := by omega
    go_enter Tryd.func24, Tryd.ntmps24
    go_wp2
    go_ret
    exact ⟨ret_bool (by rw [decide_eq_false (by omega : ¬ a ≤ x)]; rfl), rfl⟩

/-- A decimal digit's text, cut out of the ten. -/
theorem digit_cut (k : Nat) (h : k < 10) : (⟨#[48, 49, 50, 51, 52, 53, 54, 55, 56, 57]⟩ : ByteArray).extract k (k + 1) = ⟨#[UInt8.ofNat (48 + k)]⟩ := by
  match k, h with
  | 0, _ => decide +kernel
  | 1, _ => decide +kernel
  | 2, _ => decide +kernel
  | 3, _ => decide +kernel
  | 4, _ => decide +kernel
  | 5, _ => decide +kernel
  | 6, _ => decide +kernel
  | 7, _ => decide +kernel
  | 8, _ => decide +kernel
  | 9, _ => decide +kernel
  | k + 10, h => omega

theorem nDigits_le (u : Nat) : Lib.nDigits u ≤ u + 1 := by
  induction u using Nat.strongRecOn with
  | _ u ih =>
    by_cases hu : u < 10
    · rw [Lib.nDigits_small hu]; omega
    · rw [Lib.nDigits_big hu]; have := ih (u / 10) (by omega); omega

theorem digit_run (r : Nat) (h : r < 10) (w : World) : (Instr.slice 9 (.string ⟨#[48, 49, 50, 51, 52, 53, 54, 55, 56, 57]⟩) (some (.int .i64 (r : Int))) (some (.int .i64 ((r : Int) + 1))) none).run Tryd.prog w = .ok (.string ⟨#[UInt8.ofNat (48 + r)]⟩) w := by
  have hs : (⟨#[48, 49, 50, 51, 52, 53, 54, 55, 56, 57]⟩ : ByteArray).size = 10 := rfl
  rw [run_slice_string _ _ _ _ _ _ _ Tryd.underlying9 (by omega) (by omega) (by rw [hs]; omega), Int.toNat_natCast, show ((r : Int) + 1).toNat = r + 1 by omega, digit_cut r h]

set_option maxHeartbeats 400000 in
theorem l1Num_nn : ∀ (N : Nat) (n : Int) (_h0 : 0 ≤ n) (_h1 : n ≤ 1000000000) (_hN : n.toNat < N) (w : World),
    Calls Tryd.prog 25 #[.int .i64 n] w fun e w' => e = .returned (.string ⟨(Lib.decDigits n.toNat).toArray⟩) ∧ ∃ k, w' = w.drewN k
  | 0, _, _, _, hN, _ => absurd hN (by omega)
  | N + 1, n, h0, h1, hN, w => by
    by_cases h : n < 10
    · obtain ⟨k, rfl⟩ := Int.eq_ofNat_of_zero_le h0
      have h' : k < 10 := by omega
      have hd := Lib.hid (digit_cut k h')
      have hsz : (⟨#[48, 49, 50, 51, 52, 53, 54, 55, 56, 57]⟩ : ByteArray).size = 10 := rfl
      go_enter Tryd.func25, Tryd.ntmps25
      go_wp2
      go_ret
      refine ⟨ret_str ?_, 0, rfl⟩
      rw [Int.toNat_natCast, Lib.decDigits_one h']
      exact hd.out
    · obtain ⟨k, rfl⟩ := Int.eq_ofNat_of_zero_le h0
      have hk1 : k ≤ 1000000000 := by omega
      have hk2 : ¬ k < 10 := by omega
      obtain ⟨q, hq⟩ : ∃ q, q = k / 10 := ⟨_, rfl⟩
      obtain ⟨r, hr⟩ : ∃ r, r = k % 10 := ⟨_, rfl⟩
      obtain ⟨sq, hsq⟩ : ∃ sq : ByteArray, sq = ⟨(Lib.decDigits q).toArray⟩ := ⟨_, rfl⟩
      obtain ⟨sc, hsc⟩ : ∃ sc : ByteArray, sc = ⟨#[UInt8.ofNat (48 + r)]⟩ := ⟨_, rfl⟩
      have IH0 := fun w => l1Num_nn N (q : Int) (by omega) (by omega) (by omega) w
      rw [Int.toNat_natCast] at IH0 ⊢
      rw [← hsq] at IH0
      have IH := Lib.hid IH0
      clear IH0
      have hsz0 : sq.size ≤ 1000000001 := by
        rw [hsq]
        show (Lib.decDigits q).toArray.size ≤ _
        rw [List.size_toArray, Lib.decDigits_length]; have := nDigits_le q; omega
      have hsz1 : sc.size ≤ 1 := by rw [hsc]; exact Nat.le_refl _
      have hsl := fun w => digit_run r (by omega) w
      rw [← hsc] at hsl
      have hdec : (sq ++ sc : ByteArray) = ⟨(Lib.decDigits k).toArray⟩ := by
        rw [show Lib.decDigits k = Lib.decDigits q ++ [UInt8.ofNat (48 + r)] by rw [Lib.decDigits, dif_neg hk2, hq, hr], hsq, hsc]
        apply ByteArray.ext
        simp [ByteArray.data_append]
      have HD := Lib.hid hdec
      clear hdec hsq hsc
      have m1 : r < 10 := by omega
      have e1 : IntKind.i64.wrap ((k : Int) / 10) = (q : Int) := by
        rw [IntWalk.i64_in _ (by omega)]; omega
      have e2 : (k : Int).tmod 10 = (r : Int) := by
        rw [Int.tmod_eq_emod_of_nonneg (by omega)]; omega
      have e3 : IntKind.i64.wrap ((r : Int) + 1) = (r : Int) + 1 := by
        rw [IntWalk.i64_in _ (by omega)]
      have e4 : (0 : Int) ≤ (r : Int) + 1 := by omega
      have e5 : ((r : Int) + 1).toNat = r + 1 := by omega
      clear hq hr
      go_enter Tryd.func25, Tryd.ntmps25
      go_wp2
      go_quiet ((go_at_call 25; exact Calls.quiet_of (IH.out _)))
      clear e1 e2 e3 e4 e5 hsl
      go_wp2
      go_ret
      exact ⟨ret_str HD.out, nq, rfl⟩

/-- 'l1Num': the decimal text of a number. -/
theorem l1Num_any (n : Int) (h0 : -1000000000 ≤ n) (h1 : n ≤ 1000000000) (w : World) :
    Calls Tryd.prog 25 #[.int .i64 n] w fun e w' => e = .returned (.string ⟨(Lib.itoa n).toArray⟩) ∧ ∃ k, w' = w.drewN k := by
  by_cases h : n < 0
  · obtain ⟨sq, hsq⟩ : ∃ sq : ByteArray, sq = ⟨(Lib.decDigits (-n).toNat).toArray⟩ := ⟨_, rfl⟩
    have C0 := fun w => l1Num_nn ((-n).toNat + 1) (-n) (by omega) (by omega) (by omega) w
    rw [← hsq] at C0
    have C := Lib.hid C0
    clear C0
    have hsz0 : sq.size ≤ 1000000001 := by
      rw [hsq]
      show (Lib.decDigits (-n).toNat).toArray.size ≤ _
      rw [List.size_toArray, Lib.decDigits_length]; have := nDigits_le (-n).toNat; omega
    have hs1 : (⟨#[45]⟩ : ByteArray).size = 1 := rfl
    have hfin : (⟨#[45]⟩ ++ sq : ByteArray) = ⟨(Lib.itoa n).toArray⟩ := by
      rw [Lib.itoa, if_pos h, hsq, show (-n).toNat = n.natAbs by omega]
      apply ByteArray.ext
      simp [ByteArray.data_append]
    have HF := Lib.hid hfin
    clear hfin hsq
    go_enter Tryd.func25, Tryd.ntmps25
    go_wp2_with (go_at_call 25; refine (C.out _).mono ?_; rintro e w' ⟨rfl, kk, rfl⟩)
    go_ret
    exact ⟨ret_str HF.out, kk, rfl⟩
  · have e : Lib.itoa n = Lib.decDigits n.toNat := by rw [Lib.itoa, if_neg h]
    rw [e]
    exact l1Num_nn (n.toNat + 1) n (by omega) (by omega) (by omega) w

end Go.Proofs.YtbpjlhdhlcmajaaDoor
