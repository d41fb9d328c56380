/-
  CONTRACTS of the program's chapter 4, the first part: isOutlineLength, IsValidOutline, areOutlines, CompareOutlines, HasPrefix.
-/
import Derived.Test.YtfnhehcdbngkgaaWant4
namespace Go.Proofs.Ytfnhehcdbngkgaa
open Go.RowKit

theorem isLen_any (n : Int) (w : World) :
    Calls Try.prog 41 #[.int .i64 n] w fun e w' => e = .returned (.bool (decide (1 ≤ n) && decide (n ≤ 6))) ∧ w = w' := by
  by_cases h : 1 ≤ n
  · go_enter Try.func41, Try.ntmps41
    go_wp2
    go_ret
    exact ⟨ret_bool (by simp [h]), rfl⟩
  · have h' : n < 1 := by omega
    go_enter Try.func41, Try.ntmps41
    go_wp2
    go_ret
    exact ⟨ret_bool (by rw [decide_eq_false (by omega : ¬ 1 ≤ n)]; rfl), rfl⟩

set_option maxHeartbeats 1000000 in
theorem Valid_any (v : Value) (xs : List Int) (w : World) (h : IntsAt w v xs) (hn : xs.length ≤ 2097152) :
    Calls Try.prog 21 #[v] w fun e w' => e = .returned (.bool (okO xs)) ∧ w = w' := by
  obtain ⟨a, cap, rfl, hcap, hC⟩ := h.cells
  obtain ⟨n, hnn⟩ : ∃ n, n = xs.length := ⟨_, rfl⟩
  rw [← hnn] at hn hcap ⊢
  have HN := Lib.hid hnn
  have HC := Lib.hid hC
  have CG := Lib.hid (fun s w => IsValidStroke_any s w)
  clear h hnn hC
  by_cases hlen : 1 ≤ n ∧ n ≤ 6
  · have c := fun w => isLen_any (n : Int) w
    rw [show (decide (1 ≤ (n : Int)) && decide ((n : Int) ≤ 6)) = true by simp; omega] at c
    have C := Lib.hid c
    clear c
    go_enter Try.func21, Try.ntmps21
    go_wp2_with fail
    refine (C.out _).mono ?_
    rintro e w1 ⟨rfl, rfl⟩
    go_wp2_with fail
    go_loopw [11] (fun i wr => ∃ k : Nat, i = .int .i64 k ∧ k ≤ n ∧ Hid ((xs.take k).all okS = true) ∧ wr = w) (fun i _ => n - (intOf i).toNat)
    case atStart => exact ⟨0, rfl, Nat.zero_le _, Lib.hid rfl, rfl⟩
    case round =>
      obtain ⟨k, rfl, hk, HL, rfl⟩ := hrel
      by_cases hlt : k < n
      · obtain ⟨x, hx⟩ : ∃ x, xs[k]? = some x := ⟨_, List.getElem?_eq_getElem (by rw [← HN.out]; exact hlt)⟩
        obtain ⟨bk, o, rfl, _, g0⟩ := HC.out wr (Below.refl _ _) k x hx
        cases hok : okS x
        · have HF := Lib.hid (okO_no_at hx hok)
          have c := fun w => CG.out x w
          rw [hok] at c
          have C1 := Lib.hid c
          clear c hx hok HL
          go_wp2_with fail
          refine (C1.out _).mono ?_
          rintro e w1 ⟨rfl, rfl⟩
          go_wp2
          go_ret
          exact ⟨ret_bool HF.out.symm, rfl⟩
        · have HL2 := Lib.hid (all_next hx HL.out hok)
          have c := fun w => CG.out x w
          rw [hok] at c
          have C1 := Lib.hid c
          clear c hx hok HL
          go_wp2_with fail
          refine (C1.out _).mono ?_
          rintro e w1 ⟨rfl, rfl⟩
          go_wp2
          go_roundw
          case rel => exact ⟨k + 1, by go_num, by omega, HL2, by trivial⟩
          case measure => simp [intOf]; omega
      · obtain rfl : k = n := by omega
        have HF : Hid (okO xs = true) := by
          have h3 := HL.out
          rw [List.take_of_length_le (by rw [← HN.out]; exact Nat.le_refl _)] at h3
          exact okO_yes (by rw [← HN.out]; exact hlen.1) (by rw [← HN.out]; exact hlen.2) h3
        clear HL
        go_wp2
        go_ret
        exact ⟨ret_bool HF.out.symm, rfl⟩
  · have c := fun w => isLen_any (n : Int) w
    rw [show (decide (1 ≤ (n : Int)) && decide ((n : Int) ≤ 6)) = false by simp; omega] at c
    have C := Lib.hid c
    have HF : Hid (okO xs = false) := okO_no_len (by rw [← HN.out]; exact hlen)
    clear c hlen
    go_enter Try.func21, Try.ntmps21
    go_wp2_with fail
    refine (C.out _).mono ?_
    rintro e w1 ⟨rfl, rfl⟩
    go_wp2
    go_ret
    exact ⟨ret_bool HF.out.symm, rfl⟩

set_option maxHeartbeats 1000000 in
theorem areO_any (v u : Value) (xs ys : List Int) (w : World) (h : IntsAt w v xs) (h' : IntsAt w u ys) (hn : xs.length ≤ 2097152) (hm : ys.length ≤ 2097152) :
    Calls Try.prog 46 #[v, u] w fun e w' => e = .returned (.bool (okO xs && okO ys)) ∧ w = w' := by
  have c := Valid_any v xs w h hn
  have d := Valid_any u ys w h' hm
  obtain ⟨a, cap, rfl, hcap, _⟩ := h.cells
  obtain ⟨b, cap', rfl, hcap', _⟩ := h'.cells
  clear h h'
  cases hx : okO xs
  · rw [hx] at c
    have C := Lib.hid c
    clear c d hx
    go_enter Try.func46, Try.ntmps46
    go_wp2_with fail
    refine C.out.mono ?_
    rintro e w1 ⟨rfl, rfl⟩
    go_wp2
    go_ret
    exact ⟨rfl, rfl⟩
  · rw [hx] at c
    obtain ⟨y, hy⟩ : ∃ y, y = okO ys := ⟨_, rfl⟩
    rw [← hy] at d ⊢
    have C := Lib.hid c
    have D := Lib.hid d
    clear c d hx hy
    go_enter Try.func46, Try.ntmps46
    go_wp2_with fail
    refine C.out.mono ?_
    rintro e w1 ⟨rfl, rfl⟩
    go_wp2_with fail
    refine D.out.mono ?_
    rintro e w1 ⟨rfl, rfl⟩
    go_wp2
    go_ret
    exact ⟨rfl, rfl⟩

/-! ### CompareOutlines -/
theorem cmpI_lt {x y : Int} (h : x < y) : Lib.compareInt x y = -1 := by unfold Lib.compareInt; rw [if_pos h]
theorem cmpI_gt {x y : Int} (h : y < x) : Lib.compareInt x y = 1 := by unfold Lib.compareInt; rw [if_neg (by omega), if_pos h]
theorem cmpI_eq (x : Int) : Lib.compareInt x x = 0 := by unfold Lib.compareInt; rw [if_neg (by omega), if_neg (by omega)]
set_option maxHeartbeats 2000000 in
theorem sCompare_any (v u : Value) (xs ys : List Int) (w : World) (h : IntsAt w v xs) (h' : IntsAt w u ys) (hn : xs.length ≤ 2097152) (_hm : ys.length ≤ 2097152) :
    Calls Try.prog 52 #[v, u] w fun e w' => e = .returned (.int .i64 (Pl.cmp xs ys)) ∧ Below w.heap.size w w' := by
  obtain ⟨a, cap, rfl, hcap, hC⟩ := h.cells
  obtain ⟨b, cap', rfl, hcap', hD⟩ := h'.cells
  obtain ⟨n, hnn⟩ : ∃ n, n = xs.length := ⟨_, rfl⟩
  obtain ⟨m, hmm⟩ : ∃ m, m = ys.length := ⟨_, rfl⟩
  rw [← hnn] at hn hcap ⊢
  rw [← hmm] at hcap' ⊢
  have HN := Lib.hid hnn
  have HM := Lib.hid hmm
  have HC := Lib.hid hC
  have HD := Lib.hid hD
  clear h h' hnn hmm hC hD
  go_enter Try.func52, Try.ntmps52
  go_wp2_with fail
  go_loopw [11] (fun i wr => ∃ k : Nat, i = .int .i64 k ∧ k ≤ n ∧ k ≤ m ∧ Hid (xs.take k = ys.take k) ∧ Below w.heap.size w wr) (fun i _ => n - (intOf i).toNat)
  case atStart => exact ⟨0, rfl, Nat.zero_le _, Nat.zero_le _, Lib.hid rfl, Below.refl _ _⟩
  case round =>
    obtain ⟨k, rfl, hk, hk', HT, hbel⟩ := hrel
    by_cases hlt1 : k < n
    · obtain ⟨x, hx⟩ : ∃ x, xs[k]? = some x := ⟨_, List.getElem?_eq_getElem (by rw [← HN.out]; exact hlt1)⟩
      obtain ⟨bk, o, rfl, _, g0⟩ := HC.out wr hbel k x hx
      by_cases hlt2 : k < m
      · obtain ⟨y, hy⟩ : ∃ y, ys[k]? = some y := ⟨_, List.getElem?_eq_getElem (by rw [← HM.out]; exact hlt2)⟩
        obtain ⟨bk', o', rfl, _, g1⟩ := HD.out wr hbel k y hy
        have hcmp := Pl.cmp_at HT.out hx hy
        have c := fun w => Try.cmp_Compare_int x y w
        have hnl : ¬ ((m : Int) ≤ (k : Int)) := by omega
        by_cases h1 : x < y
        · rw [if_pos h1] at hcmp
          rw [cmpI_lt h1] at c
          have HR := Lib.hid hcmp
          have C := Lib.hid c
          clear hcmp hx hy HT c
          go_wp2_with fail
          refine (C.out _).mono ?_
          rintro e w1 ⟨rfl, rfl⟩
          go_wp2
          go_ret
          exact ⟨ret_int HR.out.symm, hbel⟩
        · rw [if_neg h1] at hcmp
          by_cases h2 : y < x
          · rw [if_pos h2] at hcmp
            rw [cmpI_gt h2] at c
            have HR := Lib.hid hcmp
            have C := Lib.hid c
            clear hcmp hx hy HT c
            go_wp2_with fail
            refine (C.out _).mono ?_
            rintro e w1 ⟨rfl, rfl⟩
            go_wp2
            go_ret
            exact ⟨ret_int HR.out.symm, hbel⟩
          · obtain rfl : x = y := by omega
            rw [cmpI_eq] at c
            have HT2 := Lib.hid (Pl.take_next HT.out hx hy)
            have C := Lib.hid c
            clear hcmp hx hy HT c
            go_wp2_with fail
            refine (C.out _).mono ?_
            rintro e w1 ⟨rfl, rfl⟩
            go_wp2
            go_roundw
            case rel => exact ⟨k + 1, by go_num, by omega, by omega, HT2, hbel⟩
            case measure => simp [intOf]; omega
      · have hcmp := Pl.cmp_end HT.out (by rw [← HN.out]; exact hk) (by rw [← HM.out]; exact hk') (by rw [← HN.out, ← HM.out]; omega)
        rw [← HN.out, ← HM.out, if_neg (by omega), if_pos (by omega)] at hcmp
        have HR := Lib.hid hcmp
        have hle : (m : Int) ≤ (k : Int) := by omega
        clear hcmp hx HT
        go_wp2
        go_ret
        exact ⟨ret_int HR.out.symm, hbel⟩
    · have hcmp := Pl.cmp_end HT.out (by rw [← HN.out]; exact hk) (by rw [← HM.out]; exact hk') (by rw [← HN.out, ← HM.out]; omega)
      rw [← HN.out, ← HM.out] at hcmp
      have hkn : ¬ ((k : Int) < (n : Int)) := by omega
      by_cases h1 : n < m
      · rw [if_pos h1] at hcmp
        have HR := Lib.hid hcmp
        have h1' : (n : Int) < (m : Int) := by omega
        clear hcmp HT
        go_wp2
        go_ret
        exact ⟨ret_int HR.out.symm, hbel⟩
      · rw [if_neg h1, if_neg (by omega)] at hcmp
        have HR := Lib.hid hcmp
        have h1' : ¬ (n : Int) < (m : Int) := by omega
        clear hcmp HT
        go_wp2
        go_ret
        exact ⟨ret_int HR.out.symm, hbel⟩

set_option maxHeartbeats 1000000 in
theorem Compare_any (v u : Value) (xs ys : List Int) (w : World) (h : IntsAt w v xs) (h' : IntsAt w u ys) (hn : xs.length ≤ 2097152) (hm : ys.length ≤ 2097152) :
    Calls Try.prog 23 #[v, u] w fun e w' => e = cmpE xs ys ∧ Below w.heap.size w w' := by
  have c := areO_any v u xs ys w h h' hn hm
  have f := sCompare_any v u xs ys w h h' hn hm
  obtain ⟨a, cap, rfl, hcap, _⟩ := h.cells
  obtain ⟨b, cap', rfl, hcap', _⟩ := h'.cells
  obtain ⟨R, hR⟩ : ∃ R, R = Pl.cmp xs ys := ⟨_, rfl⟩
  rw [← hR] at f
  clear h h'
  cases hxy : (okO xs && okO ys)
  · rw [hxy] at c
    have hno : okO xs = false ∨ okO ys = false := by
      rcases hx : okO xs with _ | _
      · exact .inl rfl
      · rw [hx, Bool.true_and] at hxy; exact .inr hxy
    rw [cmpE_no hno]
    have C := Lib.hid c
    clear c f hxy hno
    go_enter Try.func23, Try.ntmps23
    go_wp2_with fail
    refine C.out.mono ?_
    rintro e w1 ⟨rfl, rfl⟩
    go_wp2
    go_ret2
    exact ⟨rfl, Below.refl _ _⟩
  · rw [hxy] at c
    rw [Bool.and_eq_true] at hxy
    rw [cmpE_yes hxy.1 hxy.2, ← hR]
    have C := Lib.hid c
    have F := Lib.hid f
    clear c f hxy hR
    go_enter Try.func23, Try.ntmps23
    go_wp2_with fail
    refine C.out.mono ?_
    rintro e w1 ⟨rfl, rfl⟩
    go_wp2_with fail
    refine F.out.mono ?_
    rintro e w1 ⟨rfl, hb⟩
    go_wp2
    go_ret2
    exact ⟨rfl, hb⟩

/-! ### HasPrefix -/
theorem take_beq {xs ys : List Int} (h : ys.length ≤ xs.length) : (xs.take ys.length == ys.take ys.length) = decide (ys <+: xs) := by
  rw [List.take_of_length_le (Nat.le_refl _), ← pre_take h, Bool.eq_iff_iff, beq_iff_eq, decide_eq_true_eq]
theorem IntsAt.block {w : World} {v : Value} {xs : List Int} (h : IntsAt w v xs) (h0 : 0 < xs.length) : ∃ bk o cap, v = .slice (some ⟨bk, o, none⟩) xs.length cap ∧ xs.length ≤ cap ∧ bk < w.heap.size ∧ ∀ (j : Nat) x, xs[j]? = some x → w.cell? ⟨bk, o + j, none⟩ = some (.int .i64 x) := by
  obtain ⟨a, cap, hv, hc, h⟩ := h
  rcases h with rfl | ⟨bk, o, rfl, hk, h⟩
  · simp at h0
  · exact ⟨bk, o, cap, hv, hc, hk, h⟩
set_option maxHeartbeats 1000000 in
theorem HasPrefix_any (v u : Value) (xs ys : List Int) (w : World) (h : IntsAt w v xs) (h' : IntsAt w u ys) (hn : xs.length ≤ 2097152) (hm : ys.length ≤ 2097152) :
    Calls Try.prog 19 #[v, u] w fun e w' => e = preE xs ys ∧ Below w.heap.size w w' := by
  have c := areO_any v u xs ys w h h' hn hm
  cases hxy : (okO xs && okO ys)
  · obtain ⟨a, cap, rfl, hcap, _⟩ := h.cells
    obtain ⟨b, cap', rfl, hcap', _⟩ := h'.cells
    clear h h'
    rw [hxy] at c
    have hno : okO xs = false ∨ okO ys = false := by
      rcases hx : okO xs with _ | _
      · exact .inl rfl
      · rw [hx, Bool.true_and] at hxy; exact .inr hxy
    rw [preE_no hno]
    have C := Lib.hid c
    clear c hxy hno
    go_enter Try.func19, Try.ntmps19
    go_wp2_with fail
    refine C.out.mono ?_
    rintro e w1 ⟨rfl, rfl⟩
    go_wp2
    go_ret2
    exact ⟨rfl, Below.refl _ _⟩
  · rw [hxy] at c
    rw [Bool.and_eq_true] at hxy
    rw [preE_yes hxy.1 hxy.2]
    have hx1 := (okO_parts hxy.1).1
    have hy1 := (okO_parts hxy.2).1
    obtain ⟨bk, o, cap, rfl, hcap, hk, hcx⟩ := h.block hx1
    obtain ⟨bk', o', cap', rfl, hcap', hk', hcy⟩ := h'.block hy1
    by_cases hle : ys.length ≤ xs.length
    · have f := fun w1 (hc1 : ∀ j, j < xs.length → w1.cell? ⟨bk, o + j, none⟩ = some (.int .i64 (xs.getD j 0))) (hc2 : ∀ j, j < ys.length → w1.cell? ⟨bk', o' + j, none⟩ = some (.int .i64 (ys.getD j 0))) => Try.slices_Equal_int bk o ys.length cap bk' o' ys.length cap' xs ys w1 hle (Nat.le_refl _) (by omega) (by omega) hc1 hc2
      have hcx' : ∀ j, j < xs.length → w.cell? ⟨bk, o + j, none⟩ = some (.int .i64 (xs.getD j 0)) := fun j hj => hcx j _ (by rw [List.getElem?_eq_getElem hj, List.getD, List.getElem?_eq_getElem hj]; rfl)
      have hcy' : ∀ j, j < ys.length → w.cell? ⟨bk', o' + j, none⟩ = some (.int .i64 (ys.getD j 0)) := fun j hj => hcy j _ (by rw [List.getElem?_eq_getElem hj, List.getD, List.getElem?_eq_getElem hj]; rfl)
      rw [take_beq hle] at f
      have F := Lib.hid (f w hcx' hcy')
      obtain ⟨R, hR⟩ : ∃ R, R = decide (ys <+: xs) := ⟨_, rfl⟩
      rw [← hR] at F ⊢
      obtain ⟨n, hnn⟩ : ∃ n, n = xs.length := ⟨_, rfl⟩
      obtain ⟨m, hmm⟩ : ∃ m, m = ys.length := ⟨_, rfl⟩
      have C := Lib.hid c
      rw [← hnn] at hn hcap hle C ⊢
      rw [← hmm] at hm hcap' hle F C ⊢
      have hle' : (m : Int) ≤ (n : Int) := by omega
      have hmc : m ≤ cap := by omega
      clear h h' c f hR hcx hcy hcx' hcy' hnn hmm hxy hx1 hy1
      go_enter Try.func19, Try.ntmps19
      go_wp2_with fail
      refine C.out.mono ?_
      rintro e w1 ⟨rfl, rfl⟩
      go_wp2_with fail
      refine F.out.mono ?_
      rintro e w1 ⟨rfl, q, rfl⟩
      go_wp2
      go_ret2
      exact ⟨rfl, below_drewN (Below.refl _ _) q⟩
    · rw [pre_long hle]
      obtain ⟨n, hnn⟩ : ∃ n, n = xs.length := ⟨_, rfl⟩
      obtain ⟨m, hmm⟩ : ∃ m, m = ys.length := ⟨_, rfl⟩
      have C := Lib.hid c
      rw [← hnn] at hn hcap hle C ⊢
      rw [← hmm] at hm hcap' hle C ⊢
      have hle' : ¬ (m : Int) ≤ (n : Int) := by omega
      clear h h' c hcx hcy hnn hmm hxy hx1 hy1
      go_enter Try.func19, Try.ntmps19
      go_wp2_with fail
      refine C.out.mono ?_
      rintro e w1 ⟨rfl, rfl⟩
      go_wp2
      go_ret2
      exact ⟨rfl, Below.refl _ _⟩
end Go.Proofs.Ytfnhehcdbngkgaa
