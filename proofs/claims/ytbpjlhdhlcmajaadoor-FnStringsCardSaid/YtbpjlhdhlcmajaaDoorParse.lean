/-
  CONTRACTS of ParseInt: the program's and the specification's.
-/
import Derived.Test.YtbpjlhdhlcmajaaDoorFmt
import Derived.Test.YtbpjlhdhlcmajaaDoorPlainNum
namespace Go.Proofs.YtbpjlhdhlcmajaaDoor
open Go.RowKit

set_option maxHeartbeats 400000 in
theorem leadingInt_any (s : ByteArray) (w : World) (hs : s.size ≤ maxLen) :
    Calls Tryd.prog 28 #[.string s] w fun e w' => e = .returned (.int .i64 (Pl.lead 0 s.data.toList 0 1)) ∧ w = w' := by
  unfold maxLen at hs
  obtain ⟨R, hR⟩ : ∃ R, R = Pl.lead 0 s.data.toList 0 1 := ⟨_, rfl⟩
  rw [← hR]
  have HR := Lib.hid hR
  clear hR
  go_enter Tryd.func28, Tryd.ntmps28
  go_wp2
  go_step3
  go_wp2
  go_step3
  go_wp2
  go_loop [3, 4, 9] (fun n sg i => ∃ (k : Nat) (nn g : Int), k ≤ s.size ∧ i = .int .i64 k ∧ n = .int .i64 nn ∧ sg = .int .i64 g ∧ 0 ≤ nn ∧ nn ≤ 10000000 ∧ (g = 1 ∨ g = -1) ∧ Hid (R = Pl.lead k (s.data.toList.drop k) nn g)) (fun _ _ i => s.size - (intOf i).toNat)
  case atStart => exact ⟨0, 0, 1, Nat.zero_le _, rfl, rfl, rfl, by omega, by omega, .inl rfl, by rw [List.drop_zero]; exact HR⟩
  case round =>
    obtain ⟨k, nn, g, hk, rfl, rfl, rfl, hn0, hn1, hg, HL⟩ := hrel
    by_cases hlt : k < s.size
    · obtain ⟨b, hb⟩ : ∃ b : Int, (s[k].toNat : Int) = b := ⟨_, rfl⟩
      have hb0 : 0 ≤ b := by omega
      have hb1 : b < 256 := by have := s[k].toNat_lt; omega
      have hdig : Pl.isDig s[k] = (decide (48 ≤ b) && decide (b ≤ 57)) := by
        unfold Pl.isDig; rw [Bool.eq_iff_iff]; simp; omega
      have HS := Lib.hid (Pl.lead_at s k hlt nn g)
      have HD := Lib.hid hdig
      clear hdig
      by_cases hA : b = 45
      · have hA' : (b == 45) = true := by simp [hA]
        by_cases hk0 : k = 0
        · have hk0' : ((k : Int) == 0) = true := by simp [hk0]
          have HN : Hid (R = Pl.lead (k + 1) (s.data.toList.drop (k + 1)) nn (-1)) := by
            have h1 := HL.out; have h2 := HS.out
            rw [h2, if_pos ⟨by omega, hk0⟩] at h1; exact h1
          clear HL HS HD
          have HA := Lib.hid hA
          have HK := Lib.hid hk0
          clear hA hk0
          go_wp2
          go_round
          case rel => exact ⟨k + 1, nn, -1, by omega, by go_num, rfl, rfl, hn0, hn1, .inr rfl, HN⟩
          case measure => simp [intOf]; omega
        · have hk0' : ((k : Int) == 0) = false := by simp; omega
          have HF : Hid (R = g * nn) := by
            have h1 := HL.out; have h2 := HS.out
            rw [h2, if_neg (by omega), if_neg (by rw [HD.out]; simp; omega)] at h1; exact h1
          clear HL HS HD
          rcases hg with rfl | rfl
          all_goals
            go_wp2
            try rw [Exit.noGoto_ret]
            go_ret
            exact ⟨ret_int (by rw [HF.out]; first | rfl | omega | (unfold wrap64; omega)), rfl⟩
      · have hA' : (b == 45) = false := by simp [hA]
        by_cases hB : 48 ≤ b ∧ b ≤ 57 ∧ nn ≤ 999999
        · obtain ⟨hB1, hB2, hB3⟩ := hB
          have HN : Hid (R = Pl.lead (k + 1) (s.data.toList.drop (k + 1)) (10 * nn + (b - 48)) g) := by
            have h1 := HL.out; have h2 := HS.out
            rw [h2, if_neg (by omega), if_pos ⟨by rw [HD.out]; simp; omega, hB3⟩, hb] at h1; exact h1
          clear HL HS HD
          go_wp2
          go_round
          case rel => exact ⟨k + 1, 10 * nn + (b - 48), g, by omega, by go_num, rfl, rfl, by omega, by omega, hg, HN⟩
          case measure => simp [intOf]; omega
        · have HF : Hid (R = g * nn) := by
            have h1 := HL.out; have h2 := HS.out
            rw [h2, if_neg (by omega), if_neg (by rw [HD.out]; simp; omega)] at h1; exact h1
          by_cases hB1 : 48 ≤ b
          · by_cases hB2 : b ≤ 57
            · have hB3 : ¬ nn ≤ 999999 := by omega
              clear hB
              clear HL HS HD
              rcases hg with rfl | rfl
              all_goals
                go_wp2
                try rw [Exit.noGoto_ret]
                go_ret
                exact ⟨ret_int (by rw [HF.out]; first | rfl | omega | (unfold wrap64; omega)), rfl⟩
            · clear hB
              clear HL HS HD
              rcases hg with rfl | rfl
              all_goals
                go_wp2
                try rw [Exit.noGoto_ret]
                go_ret
                exact ⟨ret_int (by rw [HF.out]; first | rfl | omega | (unfold wrap64; omega)), rfl⟩
          · clear hB
            clear HL HS HD
            rcases hg with rfl | rfl
            all_goals
              go_wp2
              try rw [Exit.noGoto_ret]
              go_ret
              exact ⟨ret_int (by rw [HF.out]; first | rfl | omega | (unfold wrap64; omega)), rfl⟩
    · have HF : Hid (R = g * nn) := by
        have h1 := HL.out
        rw [Pl.lead_end s k (by omega)] at h1; exact h1
      clear HL
      rcases hg with rfl | rfl
      all_goals
        go_wp2
        try rw [Exit.noGoto_ret]
        go_ret
        exact ⟨ret_int (by rw [HF.out]; first | rfl | omega | (unfold wrap64; omega)), rfl⟩

theorem ParseInt_yes (s : ByteArray) (n : Int) (h0 : -999999 ≤ n) (h1 : n ≤ 999999) (hn : Lib.itoa n = s.data.toList) (w : World) (hs : s.size ≤ maxLen) (hT : Pow w) :
    Calls Tryd.prog 13 #[.string s] w fun e w' => e = .returned (.tuple #[.int .i64 n, .bool true]) ∧ Below w.heap.size w w' := by
  have c1 := leadingInt_any s w hs
  rw [← hn, Pl.lead_itoa n h0 h1] at c1
  have c2 := FormatInt_yes n h0 h1 w hT
  rw [hn, ← bytes_mk rfl] at c2
  have C1 := Lib.hid c1
  have C2 := Lib.hid c2
  clear c1 c2 hn hT hs h0 h1
  go_enter Tryd.func13, Tryd.ntmps13
  go_wp2_with (first | (go_at_call 28; refine C1.out.mono ?_; rintro e w1 ⟨rfl, rfl⟩) | (go_at_call 10; refine C2.out.mono ?_; rintro e w2 ⟨rfl, hb⟩))
  go_ret2
  exact ⟨rfl, hb⟩

theorem ParseInt_no (s : ByteArray) (hn : ∀ n : Int, -999999 ≤ n → n ≤ 999999 → Lib.itoa n ≠ s.data.toList) (w : World) (hs : s.size ≤ maxLen) (hT : Pow w) :
    Calls Tryd.prog 13 #[.string s] w fun e w' => e = .returned (.tuple #[.int .i64 0, .bool false]) ∧ Below w.heap.size w w' := by
  obtain ⟨m, hm⟩ : ∃ m, m = Pl.lead 0 s.data.toList 0 1 := ⟨_, rfl⟩
  have c1 := leadingInt_any s w hs
  rw [← hm] at c1
  have C1 := Lib.hid c1
  clear c1 hm hs
  by_cases h : -999999 ≤ m ∧ m ≤ 999999
  · obtain ⟨t, ht⟩ : ∃ t : ByteArray, t = ⟨(Lib.itoa m).toArray⟩ := ⟨_, rfl⟩
    have c2 := FormatInt_yes m h.1 h.2 w hT
    rw [← ht] at c2
    have C2 := Lib.hid c2
    have hne := hn m h.1 h.2
    have hts : t ≠ s := by
      intro e
      rw [← e, ht] at hne
      exact hne (by simp)
    have e1 := str_ne hts
    clear c2 hn hT h hne ht
    go_enter Tryd.func13, Tryd.ntmps13
    go_wp2_with (first | (go_at_call 28; refine C1.out.mono ?_; rintro e w1 ⟨rfl, rfl⟩) | (go_at_call 10; refine C2.out.mono ?_; rintro e w2 ⟨rfl, hb⟩))
    go_ret2
    exact ⟨rfl, hb⟩
  · have C2 := Lib.hid (FormatInt_no m (by omega) w)
    clear hn hT h
    go_enter Tryd.func13, Tryd.ntmps13
    go_wp2_with (first | (go_at_call 28; refine C1.out.mono ?_; rintro e w1 ⟨rfl, rfl⟩) | (go_at_call 10; refine C2.out.mono ?_; rintro e w2 ⟨rfl, rfl⟩))
    go_ret2
    exact ⟨rfl, Below.refl _ _⟩

/-- What a reader of numbers answers for the bytes l. -/
def Read (l : List UInt8) (e : Ending) : Prop :=
  (∃ n : Int, -999999 ≤ n ∧ n ≤ 999999 ∧ Lib.itoa n = l ∧ e = .returned (.tuple #[.int .i64 n, .bool true])) ∨ (Pl.NoNum l ∧ e = .returned (.tuple #[.int .i64 0, .bool false]))

set_option maxHeartbeats 2000000 in
/-- 'l1Read' at a text that is no '-' with something behind it. -/
theorem l1Read_pos (s : ByteArray) (hcase : s.size ≤ 1 ∨ (∃ h : 1 < s.size, ((s[0]'(by omega)).toNat : Int) ≠ 45)) (hp : Pl.Plain s.data.toList) (w : World) (hs : s.size ≤ maxLen) :
    Calls Tryd.prog 29 #[.string s] w fun e w' => Read s.data.toList e ∧ Below w.heap.size w w' := by
  unfold maxLen at hs
  have hlen : s.data.toList.length = s.size := by rw [Array.length_toList]; rfl
  obtain ⟨b0, hb0⟩ : ∃ b0 : Int, (∀ h : 0 < s.size, ((s[0]'h).toNat : Int) = b0) ∧ (1 < s.size → (b0 == 45) = false) := by
    by_cases h : 0 < s.size
    · refine ⟨((s[0]'h).toNat : Int), fun _ => rfl, fun h1 => ?_⟩
      rcases hcase with h2 | ⟨h2, h3⟩
      · omega
      · rw [beq_eq_false_iff_ne]; exact h3
    · exact ⟨0, fun h' => absurd h' h, fun h' => absurd h' (by omega)⟩
  obtain ⟨hb0, hb45⟩ := hb0
  have c1 := l1In_any (s.size : Int) 1 6 w
  have HLEN := Lib.hid hlen
  have HP := Lib.hid hp
  clear hcase hp
  by_cases hin : 1 ≤ s.size ∧ s.size ≤ 6
  · rw [show (decide ((1 : Int) ≤ (s.size : Int)) && decide ((s.size : Int) ≤ 6)) = true by simp; omega] at c1
    have C1 := Lib.hid c1
    clear c1 hlen
    obtain ⟨hin1, hin2⟩ := hin
    rcases Nat.lt_or_ge 1 s.size with h1 | h1
    · have hbb := hb45 h1
      have hg := hb0 (by omega)
      clear hb45 hb0
      go_enter Tryd.func29, Tryd.ntmps29
      go_wp2_with (go_at_call 24; refine C1.out.mono ?_; rintro e w1 ⟨rfl, rfl⟩)
      go_loop [5, 6] (fun n i => ∃ k : Nat, k ≤ s.size ∧ i = .int .i64 k ∧ n = .int .i64 (Pl.val (s.data.toList.take k)) ∧ Hid (∀ c ∈ s.data.toList.take k, Pl.isDig c = true)) (fun _ i => s.size - (intOf i).toNat)
      case atStart => exact ⟨0, Nat.zero_le _, rfl, rfl, fun c hc => by simp at hc⟩
      case round =>
        obtain ⟨k, hk, rfl, rfl, HA⟩ := hrel
        have hv : Pl.val (s.data.toList.take k) ≤ 999999 := Pl.val_six HA.out (by rw [List.length_take]; omega)
        by_cases hlt : k < s.size
        · obtain ⟨b, hb⟩ : ∃ b : Int, (s[k].toNat : Int) = b := ⟨_, rfl⟩
          have hb0 : 0 ≤ b := by omega
          have hb1 : b < 256 := by have := s[k].toNat_lt; omega
          have hdig : Pl.isDig s[k] = (decide (48 ≤ b) && decide (b ≤ 57)) := by
            unfold Pl.isDig; rw [Bool.eq_iff_iff]; simp; omega
          by_cases hB : 48 ≤ b ∧ b ≤ 57
          · have hd : Pl.isDig s[k] = true := by rw [hdig]; simp; omega
            have HV := Lib.hid (Pl.val_take s k hlt hd)
            have HD := Lib.hid (Pl.dig_take s k hlt hd HA.out)
            have HB := Lib.hid hb
            obtain ⟨hB1, hB2⟩ := hB
            clear hdig hd HA
            go_wp2
            go_round
            case rel => exact ⟨k + 1, by omega, by go_num, by rw [HV.out, HB.out], HD⟩
            case measure => simp [intOf]; omega
          · have hd : Pl.isDig s[k] = false := by rw [hdig]; simp; omega
            have HNO : Hid (Pl.NoNum s.data.toList) := Pl.no_dig_pos HP.out (Pl.byte_mem s k hlt) hd
            clear hdig hd HA
            by_cases hB1 : b < 48
            · clear hB
              go_wp2
              go_ret2
              exact ⟨.inr ⟨HNO.out, rfl⟩, Below.refl _ _⟩
            · have hB2 : 57 < b := by omega
              clear hB
              go_wp2
              go_ret2
              exact ⟨.inr ⟨HNO.out, rfl⟩, Below.refl _ _⟩
        · obtain rfl : k = s.size := by omega
          have etake : s.data.toList.take s.size = s.data.toList := List.take_of_length_le (by rw [HLEN.out]; exact Nat.le_refl _)
          rw [etake] at hv HA ⊢
          clear etake
          obtain ⟨v, hv'⟩ : ∃ v : Nat, v = Pl.val s.data.toList := ⟨_, rfl⟩
          rw [← hv'] at hv ⊢
          have HV := Lib.hid hv'
          clear hv' HA
          obtain ⟨u, hu⟩ : ∃ u : ByteArray, u = ⟨(Lib.itoa (v : Int)).toArray⟩ := ⟨_, rfl⟩
          have c2 := fun w => l1Num_any (v : Int) (by omega) (by omega) w
          rw [← hu] at c2
          have C2 := Lib.hid c2
          clear c2
          by_cases hus : u = s
          · have HE : Hid (Lib.itoa (v : Int) = s.data.toList) := by rw [← hus, hu]; simp [Hid]
            have hbe : (u.toList == s.toList) = true := by rw [hus]; exact beq_self_eq_true _
            clear hu hus
            go_wp2_with (go_at_call 25; refine (C2.out _).mono ?_; rintro e w2 ⟨rfl, kk, rfl⟩)
            go_ret2
            exact ⟨.inl ⟨_, by omega, by omega, HE.out, rfl⟩, below_drewN (Below.refl _ _) kk⟩
          · have hbe := str_ne hus
            have HNO : Hid (Pl.NoNum s.data.toList) := Pl.fin_pos HP.out (by rw [← HV.out]; intro e; exact hus (by rw [hu, e, ← bytes_mk rfl]))
            clear hu hus
            go_wp2_with (go_at_call 25; refine (C2.out _).mono ?_; rintro e w2 ⟨rfl, kk, rfl⟩)
            go_ret2
            exact ⟨.inr ⟨HNO.out, rfl⟩, below_drewN (Below.refl _ _) kk⟩
    · clear hb45 hb0
      go_enter Tryd.func29, Tryd.ntmps29
      go_wp2_with (go_at_call 24; refine C1.out.mono ?_; rintro e w1 ⟨rfl, rfl⟩)
      go_loop [5, 6] (fun n i => ∃ k : Nat, k ≤ s.size ∧ i = .int .i64 k ∧ n = .int .i64 (Pl.val (s.data.toList.take k)) ∧ Hid (∀ c ∈ s.data.toList.take k, Pl.isDig c = true)) (fun _ i => s.size - (intOf i).toNat)
      case atStart => exact ⟨0, Nat.zero_le _, rfl, rfl, fun c hc => by simp at hc⟩
      case round =>
        obtain ⟨k, hk, rfl, rfl, HA⟩ := hrel
        have hv : Pl.val (s.data.toList.take k) ≤ 999999 := Pl.val_six HA.out (by rw [List.length_take]; omega)
        by_cases hlt : k < s.size
        · obtain ⟨b, hb⟩ : ∃ b : Int, (s[k].toNat : Int) = b := ⟨_, rfl⟩
          have hb0 : 0 ≤ b := by omega
          have hb1 : b < 256 := by have := s[k].toNat_lt; omega
          have hdig : Pl.isDig s[k] = (decide (48 ≤ b) && decide (b ≤ 57)) := by
            unfold Pl.isDig; rw [Bool.eq_iff_iff]; simp; omega
          by_cases hB : 48 ≤ b ∧ b ≤ 57
          · have hd : Pl.isDig s[k] = true := by rw [hdig]; simp; omega
            have HV := Lib.hid (Pl.val_take s k hlt hd)
            have HD := Lib.hid (Pl.dig_take s k hlt hd HA.out)
            have HB := Lib.hid hb
            obtain ⟨hB1, hB2⟩ := hB
            clear hdig hd HA
            go_wp2
            go_round
            case rel => exact ⟨k + 1, by omega, by go_num, by rw [HV.out, HB.out], HD⟩
            case measure => simp [intOf]; omega
          · have hd : Pl.isDig s[k] = false := by rw [hdig]; simp; omega
            have HNO : Hid (Pl.NoNum s.data.toList) := Pl.no_dig_pos HP.out (Pl.byte_mem s k hlt) hd
            clear hdig hd HA
            by_cases hB1 : b < 48
            · clear hB
              go_wp2
              go_ret2
              exact ⟨.inr ⟨HNO.out, rfl⟩, Below.refl _ _⟩
            · have hB2 : 57 < b := by omega
              clear hB
              go_wp2
              go_ret2
              exact ⟨.inr ⟨HNO.out, rfl⟩, Below.refl _ _⟩
        · obtain rfl : k = s.size := by omega
          have etake : s.data.toList.take s.size = s.data.toList := List.take_of_length_le (by rw [HLEN.out]; exact Nat.le_refl _)
          rw [etake] at hv HA ⊢
          clear etake
          obtain ⟨v, hv'⟩ : ∃ v : Nat, v = Pl.val s.data.toList := ⟨_, rfl⟩
          rw [← hv'] at hv ⊢
          have HV := Lib.hid hv'
          clear hv' HA
          obtain ⟨u, hu⟩ : ∃ u : ByteArray, u = ⟨(Lib.itoa (v : Int)).toArray⟩ := ⟨_, rfl⟩
          have c2 := fun w => l1Num_any (v : Int) (by omega) (by omega) w
          rw [← hu] at c2
          have C2 := Lib.hid c2
          clear c2
          by_cases hus : u = s
          · have HE : Hid (Lib.itoa (v : Int) = s.data.toList) := by rw [← hus, hu]; simp [Hid]
            have hbe : (u.toList == s.toList) = true := by rw [hus]; exact beq_self_eq_true _
            clear hu hus
            go_wp2_with (go_at_call 25; refine (C2.out _).mono ?_; rintro e w2 ⟨rfl, kk, rfl⟩)
            go_ret2
            exact ⟨.inl ⟨_, by omega, by omega, HE.out, rfl⟩, below_drewN (Below.refl _ _) kk⟩
          · have hbe := str_ne hus
            have HNO : Hid (Pl.NoNum s.data.toList) := Pl.fin_pos HP.out (by rw [← HV.out]; intro e; exact hus (by rw [hu, e, ← bytes_mk rfl]))
            clear hu hus
            go_wp2_with (go_at_call 25; refine (C2.out _).mono ?_; rintro e w2 ⟨rfl, kk, rfl⟩)
            go_ret2
            exact ⟨.inr ⟨HNO.out, rfl⟩, below_drewN (Below.refl _ _) kk⟩
  · rw [show (decide ((1 : Int) ≤ (s.size : Int)) && decide ((s.size : Int) ≤ 6)) = false by simp; omega] at c1
    have C1 := Lib.hid c1
    have HNO : Hid (Pl.NoNum s.data.toList) := Pl.no_len_pos HP.out (by rw [hlen]; exact hin)
    clear c1 hlen
    rcases Nat.lt_or_ge 1 s.size with h1 | h1
    · have hbb := hb45 h1
      have hg := hb0 (by omega)
      clear hb45 hb0 hin
      go_enter Tryd.func29, Tryd.ntmps29
      go_wp2_with (go_at_call 24; refine C1.out.mono ?_; rintro e w1 ⟨rfl, rfl⟩)
      go_ret2
      exact ⟨.inr ⟨HNO.out, rfl⟩, Below.refl _ _⟩
    · clear hb45 hb0 hin
      go_enter Tryd.func29, Tryd.ntmps29
      go_wp2_with (go_at_call 24; refine C1.out.mono ?_; rintro e w1 ⟨rfl, rfl⟩)
      go_ret2
      exact ⟨.inr ⟨HNO.out, rfl⟩, Below.refl _ _⟩

set_option maxHeartbeats 2000000 in
/-- 'l1Read' at a '-' with something behind it. -/
theorem l1Read_neg (s t : ByteArray) (h1 : 1 < s.size) (h45 : ((s[0]'(by omega)).toNat : Int) = 45) (ht : s.extract 1 s.size = t) (hT : s.data.toList = 45 :: t.data.toList) (w : World) (hs : s.size ≤ maxLen) :
    Calls Tryd.prog 29 #[.string s] w fun e w' => Read s.data.toList e ∧ Below w.heap.size w w' := by
  unfold maxLen at hs
  have hlen : t.data.toList.length = t.size := by rw [Array.length_toList]; rfl
  have hsz : t.size < s.size := by
    have e : s.data.toList.length = s.size := by rw [Array.length_toList]; rfl
    rw [hT, List.length_cons, hlen] at e; omega
  have c1 := l1In_any (t.size : Int) 1 6 w
  have HLEN := Lib.hid hlen
  have HT := Lib.hid hT
  have hbb : ((45 : Int) == 45) = true := rfl
  clear hT
  by_cases hin : 1 ≤ t.size ∧ t.size ≤ 6
  · rw [show (decide ((1 : Int) ≤ (t.size : Int)) && decide ((t.size : Int) ≤ 6)) = true by simp; omega] at c1
    have C1 := Lib.hid c1
    clear c1 hlen
    obtain ⟨hin1, hin2⟩ := hin
    go_enter Tryd.func29, Tryd.ntmps29
    go_wp2_with (go_at_call 24; refine C1.out.mono ?_; rintro e w1 ⟨rfl, rfl⟩)
    go_loop [5, 6] (fun n i => ∃ k : Nat, k ≤ t.size ∧ i = .int .i64 k ∧ n = .int .i64 (Pl.val (t.data.toList.take k)) ∧ Hid (∀ c ∈ t.data.toList.take k, Pl.isDig c = true)) (fun _ i => t.size - (intOf i).toNat)
    case atStart => exact ⟨0, Nat.zero_le _, rfl, rfl, fun c hc => by simp at hc⟩
    case round =>
      obtain ⟨k, hk, rfl, rfl, HA⟩ := hrel
      have hv : Pl.val (t.data.toList.take k) ≤ 999999 := Pl.val_six HA.out (by rw [List.length_take]; omega)
      by_cases hlt : k < t.size
      · obtain ⟨b, hb⟩ : ∃ b : Int, (t[k].toNat : Int) = b := ⟨_, rfl⟩
        have hb0 : 0 ≤ b := by omega
        have hb1 : b < 256 := by have := t[k].toNat_lt; omega
        have hdig : Pl.isDig t[k] = (decide (48 ≤ b) && decide (b ≤ 57)) := by
          unfold Pl.isDig; rw [Bool.eq_iff_iff]; simp; omega
        by_cases hB : 48 ≤ b ∧ b ≤ 57
        · have hd : Pl.isDig t[k] = true := by rw [hdig]; simp; omega
          have HV := Lib.hid (Pl.val_take t k hlt hd)
          have HD := Lib.hid (Pl.dig_take t k hlt hd HA.out)
          have HB := Lib.hid hb
          obtain ⟨hB1, hB2⟩ := hB
          clear hdig hd HA
          go_wp2
          go_round
          case rel => exact ⟨k + 1, by omega, by go_num, by rw [HV.out, HB.out], HD⟩
          case measure => simp [intOf]; omega
        · have hd : Pl.isDig t[k] = false := by rw [hdig]; simp; omega
          have HNO : Hid (Pl.NoNum s.data.toList) := by rw [HT.out]; exact Pl.no_dig_neg (Pl.byte_mem t k hlt) hd
          clear hdig hd HA
          by_cases hB1 : b < 48
          · clear hB
            go_wp2
            go_ret2
            exact ⟨.inr ⟨HNO.out, rfl⟩, Below.refl _ _⟩
          · have hB2 : 57 < b := by omega
            clear hB
            go_wp2
            go_ret2
            exact ⟨.inr ⟨HNO.out, rfl⟩, Below.refl _ _⟩
      · obtain rfl : k = t.size := by omega
        have etake : t.data.toList.take t.size = t.data.toList := List.take_of_length_le (by rw [HLEN.out]; exact Nat.le_refl _)
        rw [etake] at hv HA ⊢
        clear etake
        obtain ⟨v, hv'⟩ : ∃ v : Nat, v = Pl.val t.data.toList := ⟨_, rfl⟩
        rw [← hv'] at hv ⊢
        have HV := Lib.hid hv'
        clear hv' HA
        obtain ⟨u, hu⟩ : ∃ u : ByteArray, u = ⟨(Lib.itoa (-(v : Int))).toArray⟩ := ⟨_, rfl⟩
        have c2 := fun w => l1Num_any (-(v : Int)) (by omega) (by omega) w
        rw [← hu] at c2
        have C2 := Lib.hid c2
        clear c2
        by_cases hus : u = s
        · have HE : Hid (Lib.itoa (-(v : Int)) = s.data.toList) := by rw [← hus, hu]; simp [Hid]
          have hbe : (u.toList == s.toList) = true := by rw [hus]; exact beq_self_eq_true _
          clear hu hus
          go_wp2_with (go_at_call 25; refine (C2.out _).mono ?_; rintro e w2 ⟨rfl, kk, rfl⟩)
          go_ret2
          exact ⟨.inl ⟨_, by omega, by omega, HE.out, rfl⟩, below_drewN (Below.refl _ _) kk⟩
        · have hbe := str_ne hus
          have HNO : Hid (Pl.NoNum s.data.toList) := by rw [HT.out]; exact Pl.fin_neg (by rw [← HV.out, ← HT.out]; intro e; exact hus (by rw [hu, e, ← bytes_mk rfl]))
          clear hu hus
          go_wp2_with (go_at_call 25; refine (C2.out _).mono ?_; rintro e w2 ⟨rfl, kk, rfl⟩)
          go_ret2
          exact ⟨.inr ⟨HNO.out, rfl⟩, below_drewN (Below.refl _ _) kk⟩
  · rw [show (decide ((1 : Int) ≤ (t.size : Int)) && decide ((t.size : Int) ≤ 6)) = false by simp; omega] at c1
    have C1 := Lib.hid c1
    have HNO : Hid (Pl.NoNum s.data.toList) := by rw [HT.out]; exact Pl.no_len_neg (by rw [hlen]; exact hin)
    clear c1 hlen hin
    go_enter Tryd.func29, Tryd.ntmps29
    go_wp2_with (go_at_call 24; refine C1.out.mono ?_; rintro e w1 ⟨rfl, rfl⟩)
    go_ret2
    exact ⟨.inr ⟨HNO.out, rfl⟩, Below.refl _ _⟩

theorem l1Read_any (s : ByteArray) (w : World) (hs : s.size ≤ maxLen) :
    Calls Tryd.prog 29 #[.string s] w fun e w' => Read s.data.toList e ∧ Below w.heap.size w w' := by
  have hlen : s.data.toList.length = s.size := by rw [Array.length_toList]; rfl
  by_cases h : ∃ h1 : 1 < s.size, ((s[0]'(by omega)).toNat : Int) = 45
  · obtain ⟨h1, h45⟩ := h
    refine l1Read_neg s _ h1 h45 rfl ?_ w hs
    rw [Lib.extract_data, List.take_of_length_le (by rw [List.length_drop, hlen]; omega)]
    have e := List.drop_eq_getElem_cons (l := s.data.toList) (i := 0) (by omega)
    rw [List.drop_zero] at e
    rw [e]
    have e2 : s.data.toList[0]'(by omega) = 45 := by
      have : s.data.toList[0]'(by omega) = s[0]'(by omega) := rfl
      rw [this]; exact UInt8.toNat_inj.1 (by have : (45 : UInt8).toNat = 45 := rfl; omega)
    rw [e2]; rfl
  · refine l1Read_pos s ?_ ?_ w hs
    · rcases Nat.lt_or_ge 1 s.size with h1 | h1
      · exact .inr ⟨h1, fun e => h ⟨h1, e⟩⟩
      · exact .inl h1
    · intro r hr hl
      have h1 : 1 < s.size := by
        rw [← hlen, hl, List.length_cons]
        have := List.length_pos_iff.2 hr
        omega
      refine h ⟨h1, ?_⟩
      have : s[0]'(by omega) = s.data.toList[0]'(by omega) := rfl
      rw [this]
      simp [hl]

theorem l1Read_yes (s : ByteArray) (n : Int) (h0 : -999999 ≤ n) (h1 : n ≤ 999999) (hn : Lib.itoa n = s.data.toList) (w : World) (hs : s.size ≤ maxLen) :
    Calls Tryd.prog 29 #[.string s] w fun e w' => e = .returned (.tuple #[.int .i64 n, .bool true]) ∧ Below w.heap.size w w' :=
  (l1Read_any s w hs).mono fun e w' ⟨hR, hb⟩ => ⟨by
    rcases hR with ⟨m, k0, k1, hm, he⟩ | ⟨hno, _⟩
    · rw [he, Pl.itoa_inj k0 k1 h0 h1 (hm.trans hn.symm)]
    · exact absurd hn (hno n h0 h1), hb⟩
theorem l1Read_no (s : ByteArray) (hn : Pl.NoNum s.data.toList) (w : World) (hs : s.size ≤ maxLen) :
    Calls Tryd.prog 29 #[.string s] w fun e w' => e = .returned (.tuple #[.int .i64 0, .bool false]) ∧ Below w.heap.size w w' :=
  (l1Read_any s w hs).mono fun e w' ⟨hR, hb⟩ => ⟨by
    rcases hR with ⟨m, k0, k1, hm, he⟩ | ⟨_, he⟩
    · exact absurd hm (hn m k0 k1)
    · exact he, hb⟩

theorem specParseInt_yes (s : ByteArray) (n : Int) (h0 : -999999 ≤ n) (h1 : n ≤ 999999) (hn : Lib.itoa n = s.data.toList) (w : World) (hs : s.size ≤ maxLen) :
    Calls Tryd.prog 14 #[.string s] w fun e w' => e = .returned (.tuple #[.int .i64 n, .bool true]) ∧ Below w.heap.size w w' := by
  have C := Lib.hid (l1Read_yes s n h0 h1 hn w hs)
  clear h0 h1 hn hs
  go_enter Tryd.func14, Tryd.ntmps14
  go_wp2_with (go_at_call 29; refine C.out.mono ?_; rintro e w1 ⟨rfl, hb⟩)
  go_ret2
  exact ⟨rfl, hb⟩
theorem specParseInt_no (s : ByteArray) (hn : Pl.NoNum s.data.toList) (w : World) (hs : s.size ≤ maxLen) :
    Calls Tryd.prog 14 #[.string s] w fun e w' => e = .returned (.tuple #[.int .i64 0, .bool false]) ∧ Below w.heap.size w w' := by
  have C := Lib.hid (l1Read_no s hn w hs)
  clear hn hs
  go_enter Tryd.func14, Tryd.ntmps14
  go_wp2_with (go_at_call 29; refine C.out.mono ?_; rintro e w1 ⟨rfl, hb⟩)
  go_ret2
  exact ⟨rfl, hb⟩
end Go.Proofs.YtbpjlhdhlcmajaaDoor
