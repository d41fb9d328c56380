/-
  CONTRACTS of chapter 12 of the specification: l12Plain, l12Good, IsValidState, l12New, NewState, LastWord.
-/
import Derived.Test.YtnpiphkglhcifaaGreatDoorFmB
namespace Go.Proofs.YtnpiphkglhcifaaGreatDoor
set_option maxRecDepth 100000
open Go.RowKit

theorem prB_no_at {t : ByteArray} {k : Nat} (hk : k < t.size) (h : prC t[k] = false) : prB t = false := by
  unfold prB
  rw [← Bool.not_eq_true, List.all_eq_true]
  intro q
  have := q t[k] (by show t.data[k] ∈ t.data.toList; simp)
  rw [h] at this
  cases this
theorem prB_next {t : ByteArray} {k : Nat} (hk : k < t.size) (ha : ((by8 t).take k).all prC = true) (h : prC t[k] = true) : ((by8 t).take (k + 1)).all prC = true := by
  rw [List.take_add_one, List.all_append, ha]
  have : (by8 t)[k]? = some t[k] := by
    show t.data.toList[k]? = some t.data[k]
    rw [Array.getElem?_toList, Array.getElem?_eq_getElem hk]
  rw [this]
  simp [h]
theorem prB_all {t : ByteArray} (ha : ((by8 t).take t.size).all prC = true) : prB t = true := by
  rw [List.take_of_length_le (by rw [by8_len]; exact Nat.le_refl _)] at ha
  exact ha
theorem prC_int (b : UInt8) {x : Int} (hx : (b.toNat : Int) = x) : prC b = (decide (32 ≤ x) && decide (x ≤ 126)) := by
  unfold prC
  rw [← hx]
  congr 1 <;> (rw [decide_eq_decide]; omega)
theorem l12Plain_any (t : ByteArray) (w : World) (ht : t.size ≤ 4294967280) :
    Calls Tryz.prog 39 #[.string t] w fun e w' => e = .returned (.bool (prB t)) ∧ w' = w := by
  go_enter Tryz.func39, Tryz.ntmps39
  go_wp2_with fail
  go_loopw [3] (fun i wr => ∃ k : Nat, i = .int .i64 k ∧ k ≤ t.size ∧ Hid (((by8 t).take k).all prC = true) ∧ wr = w) (fun i _ => t.size - (intOf i).toNat)
  case atStart => exact ⟨0, rfl, Nat.zero_le _, by show _ = _; rw [List.take_zero]; rfl, rfl⟩
  case round =>
    obtain ⟨k, rfl, hk, HA, rfl⟩ := hrel
    by_cases hlt : k < t.size
    · obtain ⟨x, hx⟩ : ∃ x : Int, (t[k].toNat : Int) = x := ⟨_, rfl⟩
      have hx0 : 0 ≤ x ∧ x ≤ 255 := by have := t[k].toNat_lt; omega
      have hw := prC_int t[k] hx
      have c := fun w => l1In_any x 32 126 w
      obtain ⟨b, hb⟩ : ∃ b, (decide (32 ≤ x) && decide (x ≤ 126)) = b := ⟨_, rfl⟩
      rw [hb] at c hw
      have C := Lib.hid c
      have HW := Lib.hid hw
      clear c hw hb
      go_wp2_with fail
      refine (C.out _).mono ?_
      rintro e w1 ⟨rfl, rfl⟩
      cases b with
      | false => (go_wp2; go_ret; exact ⟨by rw [prB_no_at hlt HW.out]; rfl, rfl⟩)
      | true =>
        have HN := Lib.hid (prB_next hlt HA.out HW.out)
        clear HA
        go_wp2
        go_roundw
        case rel => exact ⟨k + 1, by go_num, by omega, HN, by first | rfl | trivial⟩
        case measure => simp [intOf]; omega
    · obtain rfl : k = t.size := by omega
      have HF := Lib.hid (prB_all HA.out)
      clear HA
      go_wp2
      go_ret
      exact ⟨by rw [HF.out]; rfl, rfl⟩
theorem l12Good_any (s : St) (w : World) (ht : s.t.size ≤ 4294967280) :
    Calls Tryz.prog 27 #[stV s] w fun e w' => e = .returned (.bool (okSt s)) ∧ Below w.heap.size w w' := by
  obtain ⟨t, j, g, c, p⟩ := s
  simp only at ht
  have c1 := fun w => l12Plain_any t w ht
  have c2 := fun w => l1In_any c 0 2 w
  have c3 := fun w => l1In_any p 0 t.size w
  unfold okSt
  simp only
  obtain ⟨q1, h1⟩ : ∃ q, prB t = q := ⟨_, rfl⟩
  obtain ⟨q2, h2⟩ : ∃ q, (decide (0 ≤ c) && decide (c ≤ 2)) = q := ⟨_, rfl⟩
  obtain ⟨q3, h3⟩ : ∃ q, (decide (0 ≤ p) && decide (p ≤ t.size)) = q := ⟨_, rfl⟩
  rw [h1] at c1 ⊢
  rw [h2] at c2 ⊢
  rw [h3] at c3 ⊢
  have C1 := Lib.hid c1
  have C2 := Lib.hid c2
  have C3 := Lib.hid c3
  clear c1 c2 c3 h1 h2 h3
  by_cases h0 : t.size ≤ 2000
  · rw [decide_eq_true h0, Bool.true_and]
    go_enter Tryz.func27, Tryz.ntmps27
    go_wp2_with fail
    refine (C1.out _).mono ?_
    rintro e w1 ⟨rfl, rfl⟩
    cases q1
    · go_wp2
      go_ret
      exact ⟨rfl, (Below.refl _ _).alloc (Nat.le_refl _) _⟩
    · go_wp2_with fail
      refine (C2.out _).mono ?_
      rintro e w1 ⟨rfl, rfl⟩
      cases q2
      · go_wp2
        go_ret
        exact ⟨rfl, (Below.refl _ _).alloc (Nat.le_refl _) _⟩
      · go_wp2_with fail
        refine (C3.out _).mono ?_
        rintro e w1 ⟨rfl, rfl⟩
        go_wp2
        go_ret
        exact ⟨rfl, (Below.refl _ _).alloc (Nat.le_refl _) _⟩
  · rw [decide_eq_false h0, Bool.false_and]
    go_enter Tryz.func27, Tryz.ntmps27
    go_wp2
    go_ret
    exact ⟨rfl, (Below.refl _ _).alloc (Nat.le_refl _) _⟩
theorem specIsValidState_any (s : St) (w : World) (ht : s.t.size ≤ 4294967280) :
    Calls Tryz.prog 10 #[stV s] w fun e w' => e = .returned (.bool (okSt s)) ∧ Below w.heap.size w w' := by
  obtain ⟨t, j, g, c, p⟩ := s
  have C := Lib.hid (fun w => l12Good_any ⟨t, j, g, c, p⟩ w ht)
  obtain ⟨q, hq⟩ : ∃ q, okSt ⟨t, j, g, c, p⟩ = q := ⟨_, rfl⟩
  rw [hq] at C ⊢
  go_enter Tryz.func10, Tryz.ntmps10
  go_wp2_with fail
  refine (C.out _).mono ?_
  rintro e w1 ⟨rfl, hb⟩
  have HB := Lib.hid (below_new hb)
  clear hb
  go_wp2
  go_ret
  exact ⟨rfl, HB.out⟩
theorem empty_eq (t : ByteArray) : t.toList.isEmpty = (t.size == 0) := by
  rw [Lib.toList_data, ← Pl.data_len]
  cases t.data.toList <;> rfl
theorem l12New_any (t : ByteArray) (w : World) (_ht : t.size ≤ 4294967280) :
    Calls Tryz.prog 33 #[.string t] w fun e w' => e = .returned (stV (newS t)) ∧ Below w.heap.size w w' := by
  unfold newS
  have e := empty_eq t
  obtain ⟨q, hq⟩ : ∃ q, (t.size == 0) = q := ⟨_, rfl⟩
  rw [hq] at e ⊢
  clear hq
  go_enter Tryz.func33, Tryz.ntmps33
  go_wp2
  (try simp only [Exit.inBlock, Exit.then])
  refine bodyPost_ret (results_S rfl _ _ w.heap.size ⟨t, q, false, 0, t.size⟩ rfl (heap_alloc_new _ _)) rfl ?_
  exact ⟨rfl, (Below.refl _ _).alloc (Nat.le_refl _) _⟩
theorem specNewState_any (t : ByteArray) (w : World) (ht : t.size ≤ 4294967280) :
    Calls Tryz.prog 20 #[.string t] w fun e w' => e = newStE t ∧ Below w.heap.size w w' := by
  have cn := fun w => l12New_any t w ht
  have cg := fun w => l12Good_any (newS t) w ht
  unfold newStE optE
  obtain ⟨s, hs⟩ : ∃ s, newS t = s := ⟨_, rfl⟩
  rw [hs] at cn cg ⊢
  obtain ⟨q, hq⟩ : ∃ q, okSt s = q := ⟨_, rfl⟩
  rw [hq] at cg ⊢
  have CN := Lib.hid cn
  have CG := Lib.hid cg
  clear cn cg hs hq
  go_enter Tryz.func20, Tryz.ntmps20
  go_wp2_with fail
  refine (CN.out _).mono ?_
  rintro e w1 ⟨rfl, hb⟩
  have R1 : Hid (BoxS w1 w.heap.size St.zero) := (BoxS.new w St.zero).below hb
  have HB1 := Lib.hid (below_new hb)
  have hs1 : w.heap.size < w1.heap.size := R1.out.lt
  clear hb
  obtain ⟨t', j, g, c, p⟩ := s
  go_wp2_with fail
  refine (CG.out _).mono ?_
  rintro e w2 ⟨rfl, hb⟩
  have S2 := Lib.hid (BoxS.call (s := ⟨t', j, g, c, p⟩) hb)
  have R2 := Lib.hid (R1.out.below (below_new hb))
  have HB2 := Lib.hid (HB1.out.trans ((below_new hb).mono HB1.out.size))
  obtain ⟨c0, c1, c2, c3, c4⟩ := S2.out.cells
  clear hb
  cases q
  · go_wp2_with (with_reducible (show wpList _ _ _ (_ :: _) _ _); refine at_storeS rfl _ _ rfl w.heap.size St.zero St.zero rfl rfl R2.out ?_)
    (try simp only [Exit.inBlock, Exit.then])
    refine bodyPost_ret (results_S2 rfl _ _ w.heap.size _ rfl (R2.out.set _)) rfl ?_
    exact ⟨rfl, below_setRow HB2.out (Nat.le_refl _) _⟩
  · go_wp2_with (with_reducible (show wpList _ _ _ (_ :: _) _ _); refine at_storeS rfl _ _ rfl w.heap.size ⟨t', j, g, c, p⟩ St.zero rfl rfl R2.out ?_)
    (try simp only [Exit.inBlock, Exit.then])
    refine bodyPost_ret (results_S2 rfl _ _ w.heap.size _ rfl (R2.out.set _)) rfl ?_
    exact ⟨rfl, below_setRow HB2.out (Nat.le_refl _) _⟩
end Go.Proofs.YtnpiphkglhcifaaGreatDoor
