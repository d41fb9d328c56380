/-
  CONTRACTS of chapter 12 of the program: isPrintable, IsValidState, NewState, atWord, LastWord.
-/
import Derived.Test.YtnpiphkglhcifaaGreatDoorFmS
namespace Go.Proofs.YtnpiphkglhcifaaGreatDoor
set_option maxRecDepth 100000
open Go.RowKit

theorem isPrintable_any (t : ByteArray) (w : World) (ht : t.size ≤ 4294967280) :
    Calls Tryz.prog 28 #[.string t] w fun e w' => e = .returned (.bool (prB t)) ∧ w' = w := by
  go_enter Tryz.func28, Tryz.ntmps28
  go_wp2_with fail
  go_loopw [6] (fun i wr => ∃ k : Nat, i = .int .i64 k ∧ k ≤ t.size ∧ Hid (((by8 t).take k).all prC = true) ∧ wr = w) (fun i _ => t.size - (intOf i).toNat)
  case atStart => exact ⟨0, rfl, Nat.zero_le _, by show _ = _; rw [List.take_zero]; rfl, rfl⟩
  case round =>
    obtain ⟨k, rfl, hk, HA, rfl⟩ := hrel
    by_cases hlt : k < t.size
    · obtain ⟨x, hx⟩ : ∃ x : Int, (t[k].toNat : Int) = x := ⟨_, rfl⟩
      have hx0 : 0 ≤ x ∧ x ≤ 255 := by have := t[k].toNat_lt; omega
      have hw := prC_int t[k] hx
      by_cases h1 : x < 32
      · have HW : Hid (prC t[k] = false) := by show _ = _; rw [hw, decide_eq_false (by omega), Bool.false_and]
        clear hw
        go_wp2
        go_ret
        exact ⟨by rw [prB_no_at hlt HW.out]; rfl, rfl⟩
      · by_cases h2 : 126 < x
        · have HW : Hid (prC t[k] = false) := by show _ = _; rw [hw, decide_eq_false (p := x ≤ 126) (by omega), Bool.and_false]
          clear hw
          go_wp2
          go_ret
          exact ⟨by rw [prB_no_at hlt HW.out]; rfl, rfl⟩
        · have HW : Hid (prC t[k] = true) := by show _ = _; rw [hw, decide_eq_true (by omega), decide_eq_true (by omega)]; rfl
          have HN := Lib.hid (prB_next hlt HA.out HW.out)
          clear HA hw
          go_wp2
          go_roundw
          case rel => exact ⟨k + 1, by go_num, by omega, HN, by first | rfl | trivial⟩
          case measure => simp [intOf]; omega
    · obtain rfl : k = t.size := by omega
      have HF := Lib.hid (prB_all HA.out)
      clear HA
      go_wp2
      go_ret
      exact ⟨by rw [HF.out]; rfl, rfl⟩
set_option maxHeartbeats 1000000 in
theorem IsValidState_any (s : St) (w : World) (ht : s.t.size ≤ 4294967280) :
    Calls Tryz.prog 9 #[stV s] w fun e w' => e = .returned (.bool (okSt s)) ∧ Below w.heap.size w w' := by
  obtain ⟨t, j, g, c, p⟩ := s
  simp only at ht
  have c1 := fun w => isPrintable_any t w ht
  have hk : okSt ⟨t, j, g, c, p⟩ = (decide (t.size ≤ 2000) && (prB t && ((decide (0 ≤ c) && decide (c ≤ 2)) && (decide (0 ≤ p) && decide (p ≤ t.size))))) := rfl
  rw [hk]
  obtain ⟨q1, h1⟩ : ∃ q, prB t = q := ⟨_, rfl⟩
  rw [h1] at c1 ⊢
  have C1 := Lib.hid c1
  clear c1 h1 hk
  by_cases h0 : t.size ≤ 2000
  · rw [decide_eq_true h0, Bool.true_and]
    cases q1
    · rw [Bool.false_and]
      go_enter Tryz.func9, Tryz.ntmps9
      go_wp2_with fail
      refine (C1.out _).mono ?_
      rintro e w1 ⟨rfl, rfl⟩
      go_wp2
      go_ret
      exact ⟨rfl, (Below.refl _ _).alloc (Nat.le_refl _) _⟩
    · rw [Bool.true_and]
      by_cases k0 : 0 ≤ c
      · rw [decide_eq_true k0, Bool.true_and]
        by_cases k1 : c ≤ 2
        · rw [decide_eq_true k1, Bool.true_and]
          by_cases k2 : 0 ≤ p
          · rw [decide_eq_true k2, Bool.true_and]
            by_cases k3 : p ≤ (t.size : Int)
            · rw [decide_eq_true k3]
              go_enter Tryz.func9, Tryz.ntmps9
              go_wp2_with fail
              refine (C1.out _).mono ?_
              rintro e w1 ⟨rfl, rfl⟩
              go_wp2
              go_ret
              exact ⟨rfl, (Below.refl _ _).alloc (Nat.le_refl _) _⟩
            · rw [decide_eq_false k3]
              go_enter Tryz.func9, Tryz.ntmps9
              go_wp2_with fail
              refine (C1.out _).mono ?_
              rintro e w1 ⟨rfl, rfl⟩
              go_wp2
              go_ret
              exact ⟨ret_bool (decide_eq_false (by omega)), (Below.refl _ _).alloc (Nat.le_refl _) _⟩
          · rw [decide_eq_false k2, Bool.false_and]
            go_enter Tryz.func9, Tryz.ntmps9
            go_wp2_with fail
            refine (C1.out _).mono ?_
            rintro e w1 ⟨rfl, rfl⟩
            go_wp2
            go_ret
            exact ⟨rfl, (Below.refl _ _).alloc (Nat.le_refl _) _⟩
        · rw [decide_eq_false k1, Bool.false_and]
          go_enter Tryz.func9, Tryz.ntmps9
          go_wp2_with fail
          refine (C1.out _).mono ?_
          rintro e w1 ⟨rfl, rfl⟩
          go_wp2
          go_ret
          exact ⟨rfl, (Below.refl _ _).alloc (Nat.le_refl _) _⟩
      · rw [decide_eq_false k0, Bool.false_and, Bool.false_and]
        go_enter Tryz.func9, Tryz.ntmps9
        go_wp2_with fail
        refine (C1.out _).mono ?_
        rintro e w1 ⟨rfl, rfl⟩
        go_wp2
        go_ret
        exact ⟨rfl, (Below.refl _ _).alloc (Nat.le_refl _) _⟩
  · rw [decide_eq_false h0, Bool.false_and]
    go_enter Tryz.func9, Tryz.ntmps9
    go_wp2
    go_ret
    exact ⟨rfl, (Below.refl _ _).alloc (Nat.le_refl _) _⟩
theorem NewState_any (t : ByteArray) (w : World) (ht : t.size ≤ 4294967280) :
    Calls Tryz.prog 18 #[.string t] w fun e w' => e = newStE t ∧ Below w.heap.size w w' := by
  have cg := fun w => IsValidState_any (newS t) w ht
  unfold newStE optE
  have e := empty_eq t
  have hs : newS t = ⟨t, t.size == 0, false, 0, t.size⟩ := rfl
  rw [hs] at cg ⊢
  obtain ⟨b, hb⟩ : ∃ b, (t.size == 0) = b := ⟨_, rfl⟩
  rw [hb] at e cg ⊢
  obtain ⟨q, hq⟩ : ∃ q, okSt ⟨t, b, false, 0, t.size⟩ = q := ⟨_, rfl⟩
  rw [hq] at cg ⊢
  have CG := Lib.hid cg
  clear cg hs hq hb
  go_enter Tryz.func18, Tryz.ntmps18
  go_wp2_with fail
  refine (CG.out _).mono ?_
  rintro e w2 ⟨rfl, hb⟩
  have S2 : Hid (BoxS w2 (w.heap.size + 1) ⟨t, b, false, 0, t.size⟩) := by
    have := BoxS.call (w := w.alloc (.cells (stC St.zero) 25)) (s := ⟨t, b, false, 0, t.size⟩) hb
    rw [World.size_alloc] at this
    exact this
  have R2 : Hid (BoxS w2 w.heap.size St.zero) := (BoxS.new w St.zero).below (below_new hb)
  have HB2 := Lib.hid (below_new (below_new hb))
  obtain ⟨c0, c1, c2, c3, c4⟩ := S2.out.cells
  clear hb
  cases q
  · go_wp2_with (with_reducible (show wpList _ _ _ (_ :: _) _ _); refine at_storeS rfl _ _ rfl w.heap.size St.zero St.zero rfl rfl R2.out ?_)
    (try simp only [Exit.inBlock, Exit.then])
    refine bodyPost_ret (results_S2 rfl _ _ w.heap.size _ rfl (R2.out.set _)) rfl ?_
    exact ⟨rfl, below_setRow HB2.out (Nat.le_refl _) _⟩
  · go_wp2_with (with_reducible (show wpList _ _ _ (_ :: _) _ _); refine at_storeS rfl _ _ rfl w.heap.size ⟨t, b, false, 0, t.size⟩ St.zero rfl rfl R2.out ?_)
    (try simp only [Exit.inBlock, Exit.then])
    refine bodyPost_ret (results_S2 rfl _ _ w.heap.size _ rfl (R2.out.set _)) rfl ?_
    exact ⟨rfl, below_setRow HB2.out (Nat.le_refl _) _⟩
theorem atWord_any (t : ByteArray) (j g : Bool) (c : Int) (n : Nat) (w : World) (_ht : t.size ≤ 4294967280) (hn : n ≤ t.size) :
    Calls Tryz.prog 42 #[stV ⟨t, j, g, c, n⟩] w fun e w' => e = .returned (.tuple #[.string (t.extract 0 n), .string (t.extract n t.size)]) ∧ Below w.heap.size w w' := by
  go_enter Tryz.func42, Tryz.ntmps42
  go_wp2
  go_quiet (fail)
  go_wp2
  go_ret2
  exact ⟨rfl, below_drewN ((Below.refl _ _).alloc (Nat.le_refl _) _) _⟩
end Go.Proofs.YtnpiphkglhcifaaGreatDoor
