/-
  CONTRACTS of chapter 9 of the program: isVowel, matchesPattern, endsWith, lastLetter, endingsOf, IsWord, VowelGroups, SuffixRule, JoinSuffix.
-/
import Derived.Test.YtnpiphkglhcifaaGreatDoorShelf
import Derived.Test.YtnpiphkglhcifaaGreatDoorSpec9
import Derived.WalkMore
namespace Go.Proofs.YtnpiphkglhcifaaGreatDoor
set_option maxRecDepth 100000
open Go.RowKit

theorem index_vow (c : UInt8) : decide (0 ≤ Lib.indexByte [97, 101, 105, 111, 117] c) = Pl.vow c := by
  by_cases h1 : c = 97
  · subst h1; decide
  by_cases h2 : c = 101
  · subst h2; decide
  by_cases h3 : c = 105
  · subst h3; decide
  by_cases h4 : c = 111
  · subst h4; decide
  by_cases h5 : c = 117
  · subst h5; decide
  have e : ∀ k : UInt8, c ≠ k → (k == c) = false := fun k h => by rw [beq_eq_false_iff_ne]; exact fun h' => h h'.symm
  unfold Pl.vow
  simp [Lib.indexByte, e _ h1, e _ h2, e _ h3, e _ h4, e _ h5, h1, h2, h3, h4, h5]

theorem isVowel_any (c : UInt8) (w : World) :
    Calls Tryz.prog 97 #[.int .u8 (c.toNat : Int)] w fun e w' => e = .returned (.bool (Pl.vow c)) ∧ w' = w := by
  have C := Lib.hid (fun w => Tryz.strings_IndexByte ⟨#[97, 101, 105, 111, 117]⟩ (c.toNat : Int) w)
  have e0 : (((c.toNat : Int)).toNat).toUInt8 = c := by rw [Int.toNat_natCast]; simp
  rw [e0] at C
  have HI := index_vow c
  obtain ⟨z, hz⟩ : ∃ z, z = Lib.indexByte [97, 101, 105, 111, 117] c := ⟨_, rfl⟩
  have C' : Hid (∀ w, Calls Tryz.prog 104 #[.string ⟨#[97, 101, 105, 111, 117]⟩, .int .u8 (c.toNat : Int)] w fun e w' => e = .returned (.int .i64 z) ∧ w' = w) := by
    rw [hz]; exact C.out
  rw [← hz] at HI
  rw [← HI]
  clear C HI e0 hz
  go_enter Tryz.func97, Tryz.ntmps97
  go_wp2_with (go_at_call 104; refine (C'.out _).mono ?_; rintro e w' ⟨rfl, rfl⟩)
  go_ret
  exact ⟨rfl, rfl⟩

set_option maxHeartbeats 1000000 in
theorem matches_any (a p : UInt8) (w : World) :
    Calls Tryz.prog 103 #[.int .u8 (a.toNat : Int), .int .u8 (p.toNat : Int)] w fun e w' => e = .returned (.bool (Pl.matchP a p)) ∧ w' = w := by
  have HV := Lib.hid (fun w => isVowel_any a w)
  have hm : Pl.matchP a p = if ((p.toNat : Int) == 86) = true then Pl.vow a else if ((p.toNat : Int) == 68) = true then !((a.toNat : Int) == 119 || (a.toNat : Int) == 120 || (a.toNat : Int) == 121) && !Pl.vow a else if ((p.toNat : Int) == 67) = true then !Pl.vow a else ((a.toNat : Int) == (p.toNat : Int)) := by
    unfold Pl.matchP
    rw [byte_eq a 119 119 rfl, byte_eq a 120 120 rfl, byte_eq a 121 121 rfl, byte_eq a p _ rfl, ← byte_eq p 86 86 rfl, ← byte_eq p 68 68 rfl, ← byte_eq p 67 67 rfl]
    simp
  obtain ⟨v, hv⟩ : ∃ v, v = Pl.vow a := ⟨_, rfl⟩
  rw [← hv] at HV hm
  obtain ⟨x, hx⟩ : ∃ x : Int, x = a.toNat := ⟨_, rfl⟩
  obtain ⟨y, hy⟩ : ∃ y : Int, y = p.toNat := ⟨_, rfl⟩
  rw [← hx, ← hy] at hm
  rw [← hx] at HV
  rw [← hx, ← hy]
  have HM := Lib.hid hm
  clear hv hx hy hm
  go_enter Tryz.func103, Tryz.ntmps103
  go_wp2_with (go_at_call 97; refine (HV.out _).mono ?_; rintro e w' ⟨rfl, rfl⟩)
  all_goals go_ret
  all_goals refine ⟨ret_bool ?_, rfl⟩
  all_goals rw [HM.out]
  all_goals first | (simp [*]; done) | (simp_all; done)

/-- Does the word end with one of the patterns? -/
def anyE (s : ByteArray) (ps : List ByteArray) : Bool := ps.any fun p => Pl.endsP s.data.toList p.data.toList
theorem endsP_no_len {s p : ByteArray} (h : s.size < p.size) : Pl.endsP s.data.toList p.data.toList = false := by
  unfold Pl.endsP
  rw [decide_eq_false (by simp; omega)]; rfl
set_option maxHeartbeats 4000000 in
theorem endsWith_any (s : ByteArray) (v : Value) (ps : List ByteArray) (w : World) (hs : s.size ≤ 1048600) (h : StrsAt w v ps) (hn : ps.length ≤ 1000) (hp : ∀ p ∈ ps, p.size ≤ 1000) :
    Calls Tryz.prog 96 #[.string s, v] w fun e w' => e = .returned (.bool (anyE s ps)) ∧ Below w.heap.size w w' := by
  obtain ⟨a, cap, rfl, hcap, h⟩ := h
  have HP := Lib.hid hp
  have HM := Lib.hid (fun a p w => matches_any a p w)
  have HN0 : Hid ((∀ p ∈ ps, Pl.endsP s.data.toList p.data.toList = false) → anyE s ps = false) := by
    intro h; unfold anyE; rw [List.any_eq_false]; intro p hp; rw [h p hp]; simp
  have HY : Hid (∀ p ∈ ps, Pl.endsP s.data.toList p.data.toList = true → anyE s ps = true) := by
    intro p hp h; unfold anyE; rw [List.any_eq_true]; exact ⟨p, hp, h⟩
  obtain ⟨R, hR⟩ : ∃ R, R = anyE s ps := ⟨_, rfl⟩
  rw [← hR] at HN0 HY ⊢
  obtain ⟨n, hnn⟩ : ∃ n, n = ps.length := ⟨_, rfl⟩
  rw [← hnn] at hn hcap ⊢
  have HN := Lib.hid hnn
  have HB : Hid (∀ w1 : World, Below w.heap.size w w1 → ∀ (j : Nat) x, 0 < n → ps[j]? = some x → ∃ bk o, a = some ⟨bk, o, none⟩ ∧ w1.cell? ⟨bk, o + j, none⟩ = some (.string x)) := by
    intro w1 hb j x h0 hx
    rcases h with rfl | ⟨bk, o, ha, hk, h⟩
    · simp at hnn; omega
    · exact ⟨bk, o, ha, (hb.cell (p := ⟨bk, o + j, none⟩) hk).trans (h j x hx)⟩
  clear h hnn hR hp
  go_enter Tryz.func96, Tryz.ntmps96
  go_wp2
  go_step3
  go_wp2
  go_step3
  go_wp2
  go_loopw [11] (fun i wr => ∃ k : Nat, k ≤ n ∧ i = .int .i64 k ∧ Below w.heap.size w wr ∧ Hid (∀ p ∈ ps.take k, Pl.endsP s.data.toList p.data.toList = false)) (fun i _ => n - (intOf i).toNat)
  case atStart => exact ⟨0, Nat.zero_le _, rfl, Below.refl _ _, fun p hp => by simp at hp⟩
  case round =>
    obtain ⟨k, hk, rfl, hbel, HA⟩ := hrel
    by_cases hlt : k < n
    · obtain ⟨p, hx⟩ : ∃ p, ps[k]? = some p := ⟨_, List.getElem?_eq_getElem (by rw [← HN.out]; exact hlt)⟩
      obtain ⟨bk, o, rfl, hck⟩ := HB.out wr hbel k p (by omega) hx
      have hps := HP.out p (List.mem_of_getElem? hx)
      have HX := Lib.hid hx
      have HNext : Hid (Pl.endsP s.data.toList p.data.toList = false → ∀ p ∈ ps.take (k + 1), Pl.endsP s.data.toList p.data.toList = false) := by
        intro h q hq
        rw [List.take_add_one, HX.out, List.mem_append] at hq
        rcases hq with hq | hq
        · exact HA.out q hq
        · simp at hq; subst hq; exact h
      have HBel := Lib.hid hbel
      clear hx hbel
      by_cases hsz : p.size ≤ s.size
      · obtain ⟨st, hst⟩ : ∃ st, s.size = st + p.size := ⟨s.size - p.size, by omega⟩
        have HL : Hid (s.data.toList.length - p.data.toList.length = st) := by
          show _ = _
          have e1 : s.data.toList.length = s.size := by simp
          have e2 : p.data.toList.length = p.size := by simp
          rw [e1, e2]; omega
        have HL2 : Hid (p.data.toList.length = p.size) := Lib.hid (by simp)
        have HE : Hid (Pl.endsP s.data.toList p.data.toList = Pl.upTo s.data.toList p.data.toList p.data.toList.length) := by
          show _ = _
          unfold Pl.endsP
          rw [decide_eq_true (by simp; omega), Bool.true_and]
        have HOut : Hid (∀ j, j < p.size → Pl.matchP (s.data.toList.getD (st + j) 0) (p.data.toList.getD j 0) = false → Pl.endsP s.data.toList p.data.toList = false) := by
          intro j hj h
          rw [HE.out]
          refine Pl.upTo_no (k := j) ?_ (by rw [HL2.out]; exact hj)
          rw [HL.out]; exact h
        have HStep : Hid (∀ j, Pl.upTo s.data.toList p.data.toList j = true → Pl.matchP (s.data.toList.getD (st + j) 0) (p.data.toList.getD j 0) = true → Pl.upTo s.data.toList p.data.toList (j + 1) = true) := by
          intro j h1 h2
          rw [Pl.upTo_succ, HL.out, h1, h2]; rfl
        have HEnd : Hid (Pl.upTo s.data.toList p.data.toList p.size = true → R = true) := by
          intro h
          refine HY.out p (List.mem_of_getElem? HX.out) ?_
          rw [HE.out, HL2.out]; exact h
        clear HE HL HL2
        go_wp2
        have HST := Lib.hid hst
        clear hst hsz
        go_loopw [24] (fun i wq => ∃ j : Nat, j ≤ p.size ∧ i = .int .i64 j ∧ Below w.heap.size w wq ∧ Hid (Pl.upTo s.data.toList p.data.toList j = true)) (fun i _ => p.size - (intOf i).toNat)
        case atStart => exact ⟨0, Nat.zero_le _, rfl, HBel.out, rfl⟩
        case round =>
          obtain ⟨j, hj, rfl, hbq, HU⟩ := hrel
          have HBq := Lib.hid hbq
          clear hbq
          by_cases hlt2 : j < p.size
          · obtain ⟨q, hq, hlt3⟩ : ∃ q, q = st + j ∧ q < s.size := ⟨_, rfl, by have := HST.out; omega⟩
            have hwr : IntKind.i64.wrap ((st : Int) + (j : Int)) = (q : Int) := by have := HST.out; rw [IntWalk.i64_in _ (by omega)]; omega
            have hC := fun w => HM.out (s[q]'hlt3) (p[j]'hlt2) w
            have HO := HOut.out j hlt2
            have HS := HStep.out j HU.out
            rw [← hq, getD_at s _ hlt3, getD_at p _ hlt2] at HO HS
            obtain ⟨m, hm⟩ : ∃ m, m = Pl.matchP (s[q]'hlt3) (p[j]'hlt2) := ⟨_, rfl⟩
            rw [← hm] at hC HO HS
            have HC := Lib.hid hC
            clear hm hC hq
            cases m
            · have HF : Hid (∀ p ∈ ps.take (k + 1), Pl.endsP s.data.toList p.data.toList = false) := HNext.out (HO rfl)
              clear HO HS HNext HX HA HOut HStep HEnd HU
              go_wp2
              go_quiet ((go_at_call 103; exact Calls.quiet_of_same (HC.out _)))
              go_wp2
              go_roundw
              case rel => exact ⟨k + 1, by omega, by go_num, below_drewN HBq.out nq, HF⟩
              case measure => simp [intOf]; omega
            · have HU' : Hid (Pl.upTo s.data.toList p.data.toList (j + 1) = true) := HS rfl
              clear HO HS
              go_wp2
              go_quiet ((go_at_call 103; exact Calls.quiet_of_same (HC.out _)))
              go_wp2
              go_roundw
              case rel => exact ⟨j + 1, by omega, by go_num, below_drewN HBq.out nq, HU'⟩
              case measure => simp [intOf]; omega
          · have HT : Hid (R = true) := HEnd.out (by have := HU.out; rwa [show j = p.size by omega] at this)
            go_wp2
            try rw [Exit.noGoto_ret]
            go_ret
            exact ⟨ret_bool HT.out.symm, HBq.out⟩
      · have HF : Hid (∀ p ∈ ps.take (k + 1), Pl.endsP s.data.toList p.data.toList = false) := HNext.out (endsP_no_len (by omega))
        clear HNext HX HA
        go_wp2
        go_roundw
        case rel => exact ⟨k + 1, by omega, by go_num, HBel.out, HF⟩
        case measure => simp [intOf]; omega
    · have HF : Hid (R = false) := HN0.out fun p hp => HA.out p (by rw [List.take_of_length_le (by rw [← HN.out]; omega)]; exact hp)
      go_wp2
      try rw [Exit.noGoto_ret]
      go_ret
      exact ⟨ret_bool HF.out.symm, hbel⟩

set_option maxHeartbeats 1000000 in
theorem IsWord_any (s : ByteArray) (w : World) (hs : s.size ≤ maxLen) :
    Calls Tryz.prog 95 #[.string s] w fun e w' => e = .returned (.bool (Pl.wordB s.data.toList)) ∧ w' = w := by
  unfold maxLen at hs
  have HL : Hid (s.data.toList.length = s.size) := Lib.hid (by simp)
  by_cases h1 : 1 ≤ s.size
  · by_cases h2 : s.size ≤ 24
    · go_enter Tryz.func95, Tryz.ntmps95
      go_wp2
      go_loop [14] (fun i => ∃ k : Nat, k ≤ s.size ∧ i = .int .i64 k ∧ Hid (∀ c ∈ s.data.toList.take k, Pl.letter c = true)) (fun i => s.size - (intOf i).toNat)
      case atStart => exact ⟨0, Nat.zero_le _, rfl, fun c hc => by simp at hc⟩
      case round =>
        obtain ⟨k, hk, rfl, HA⟩ := hrel
        by_cases hlt : k < s.size
        · by_cases hl : Pl.letter s[k] = true
          · have hl2 := hl
            unfold Pl.letter at hl2
            simp only [Bool.and_eq_true, decide_eq_true_eq] at hl2
            obtain ⟨hl2, hl3⟩ := hl2
            have h1 : ¬ ((s[k].toNat : Int) < 97) := by omega
            have h2 : ¬ ((s[k].toNat : Int) > 122) := by omega
            have HA' : Hid (∀ c ∈ s.data.toList.take (k + 1), Pl.letter c = true) := by
              intro c hc
              rw [List.take_succ_eq_append_getElem (by simpa using hlt), List.mem_append, List.mem_singleton] at hc
              rcases hc with hc | rfl
              · exact HA.out c hc
              · exact hl
            clear hl hl2 hl3
            go_wp2
            go_round
            case rel => exact ⟨k + 1, by omega, by go_num, HA'⟩
            case measure => simp [intOf]; omega
          · have HN : Hid (Pl.wordB s.data.toList = false) := by
              have : s.data.toList.all Pl.letter = false := by
                rw [List.all_eq_false]
                exact ⟨s[k], by rw [Array.mem_toList_iff]; exact Array.getElem_mem _, by simpa using hl⟩
              show Pl.wordB _ = _
              unfold Pl.wordB
              rw [this]; rfl
            unfold Pl.letter at hl
            simp only [Bool.and_eq_true, decide_eq_true_eq, not_and, Nat.not_le] at hl
            by_cases h1 : (s[k].toNat : Int) < 97
            · clear hl
              go_wp2
              go_ret
              exact ⟨ret_bool HN.out.symm, rfl⟩
            · have h2 : (s[k].toNat : Int) > 122 := by have := hl (by omega); omega
              clear hl
              go_wp2
              go_ret
              exact ⟨ret_bool HN.out.symm, rfl⟩
        · have HN : Hid (Pl.wordB s.data.toList = true) := by
            have : s.data.toList.all Pl.letter = true := by
              rw [List.all_eq_true]
              intro c hc
              exact HA.out c (by rw [List.take_of_length_le (by simp; omega)]; exact hc)
            show Pl.wordB _ = _
            unfold Pl.wordB
            rw [this, HL.out, decide_eq_true h1, decide_eq_true h2]; rfl
          go_wp2
          go_ret
          exact ⟨ret_bool HN.out.symm, rfl⟩
    · have HN : Hid (Pl.wordB s.data.toList = false) := by
        show Pl.wordB _ = _
        unfold Pl.wordB
        rw [HL.out, decide_eq_false h2, Bool.and_false, Bool.and_false]
      go_enter Tryz.func95, Tryz.ntmps95
      go_wp2
      go_ret
      exact ⟨ret_bool HN.out.symm, rfl⟩
  · have HN : Hid (Pl.wordB s.data.toList = false) := by
      show Pl.wordB _ = _
      unfold Pl.wordB
      rw [HL.out, decide_eq_false h1, Bool.false_and, Bool.and_false]
    go_enter Tryz.func95, Tryz.ntmps95
    go_wp2
    go_ret
    exact ⟨ret_bool HN.out.symm, rfl⟩

def lastB (s : ByteArray) : ByteArray := ⟨(Pl.lastL s.data.toList).toArray⟩
theorem lastB_size (s : ByteArray) : (lastB s).size ≤ 1 := by
  show (Pl.lastL s.data.toList).toArray.size ≤ 1
  rw [List.size_toArray]
  unfold Pl.lastL
  simp; omega
theorem lastLetter_any (s : ByteArray) (w : World) (hs : s.size ≤ 1048600) :
    Calls Tryz.prog 83 #[.string s] w fun e w' => e = .returned (.string (lastB s)) ∧ w' = w := by
  have hl : s.data.toList.length = s.size := by simp
  have HE : Hid (s.extract (s.size - 1) s.size = lastB s) := Lib.hid (bytes_mk (by rw [ext_drop s _ (by omega)]; unfold Pl.lastL; rw [hl]))
  clear hl
  by_cases h : 1 ≤ s.size
  · have s1 := fun w => run_slice_string_l (P := Tryz.prog) w 9 s Tryz.underlying9 .i64 ((s.size : Int) - 1) (by omega) (by omega)
    rw [show ((s.size : Int) - 1).toNat = s.size - 1 by omega] at s1
    have hmx : max ((s.size : Int) - 1) 0 = (s.size : Int) - 1 := by omega
    go_enter Tryz.func83, Tryz.ntmps83
    go_wp2
    go_ret
    exact ⟨ret_str HE.out, rfl⟩
  · have h0 : s.size = 0 := by omega
    rw [h0] at HE
    have s1 := fun w => run_slice_string_l (P := Tryz.prog) w 9 s Tryz.underlying9 .i64 (0 : Int) (by omega) (by omega)
    rw [show ((0 : Int)).toNat = 0 by rfl] at s1
    go_enter Tryz.func83, Tryz.ntmps83
    go_wp2
    go_ret
    exact ⟨ret_str HE.out, rfl⟩

def befB (r : Nat) (x : ByteArray) : ByteArray := ⟨(Pl.bef r x.data.toList).toArray⟩
def aftB (r : Nat) (x : ByteArray) : ByteArray := ⟨(Pl.aft r x.data.toList).toArray⟩
theorem befB_size (r : Nat) (x : ByteArray) (h : x.size ≤ 1) : (befB r x).size ≤ 2 := by
  show (Pl.bef r x.data.toList).toArray.size ≤ 2
  rw [List.size_toArray]
  have e : x.data.toList.length = x.size := by simp
  unfold Pl.bef
  repeat' split
  all_goals simp
  omega
theorem aftB_size (r : Nat) (x : ByteArray) (h : x.size ≤ 1) : (aftB r x).size ≤ 2 := by
  show (Pl.aft r x.data.toList).toArray.size ≤ 2
  rw [List.size_toArray]
  have e : x.data.toList.length = x.size := by simp
  unfold Pl.aft
  repeat' split
  all_goals simp
  omega
set_option maxHeartbeats 1000000 in
theorem endingsOf_any (r : Nat) (x : ByteArray) (w : World) (hr : r ≤ 6) (hx : x.size ≤ 1) :
    Calls Tryz.prog 82 #[.int .i64 r, .string x] w fun e w' => e = .returned (.tuple #[.string (befB r x), .string (aftB r x)]) ∧ w' = w := by
  have hc : r = 0 ∨ r = 1 ∨ r = 2 ∨ r = 3 ∨ r = 4 ∨ r = 5 ∨ r = 6 := by omega
  have H6 : Hid (befB 6 x = x ∧ aftB 6 x = x ++ x) := by
    refine ⟨(bytes_mk rfl).symm, (bytes_mk ?_).symm⟩
    rw [ext_snoc]; rfl
  clear hr
  rcases hc with rfl | rfl | rfl | rfl | rfl | rfl | rfl
  all_goals go_enter Tryz.func82, Tryz.ntmps82
  all_goals go_wp2
  all_goals go_ret2
  all_goals first | exact ⟨rfl, rfl⟩ | (rw [H6.out.1, H6.out.2]; exact ⟨rfl, rfl⟩)

/-- The number of runs of vowels, as an answer. -/
def grpE (s : ByteArray) : Ending := .returned (if Pl.wordB s.data.toList = true then .tuple #[.int .i64 (Pl.groups s.data.toList), .bool true] else .tuple #[.int .i64 0, .bool false])
set_option maxHeartbeats 2000000 in
theorem VowelGroups_any (s : ByteArray) (w : World) (hs : s.size ≤ maxLen) :
    Calls Tryz.prog 94 #[.string s] w fun e w' => e = grpE s ∧ w' = w := by
  have HW := Lib.hid (fun w => IsWord_any s w hs)
  unfold maxLen at hs
  unfold grpE
  cases hw : Pl.wordB s.data.toList
  · rw [hw] at HW
    rw [if_neg (by decide)]
    clear hw
    go_enter Tryz.func94, Tryz.ntmps94
    go_wp2_with fail
    refine (HW.out _).mono ?_
    rintro e w' ⟨rfl, rfl⟩
    go_wp2
    go_ret2
    exact ⟨rfl, rfl⟩
  · rw [hw] at HW
    rw [if_pos rfl]
    clear hw
    go_enter Tryz.func94, Tryz.ntmps94
    go_wp2_with fail
    refine (HW.out _).mono ?_
    rintro e w' ⟨rfl, rfl⟩
    go_wp2
    go_loop [4, 11] (fun n i => ∃ k : Nat, k ≤ s.size ∧ i = .int .i64 k ∧ n = .int .i64 (Pl.grp s.data.toList k)) (fun _ i => s.size - (intOf i).toNat)
    case atStart => exact ⟨0, Nat.zero_le _, rfl, rfl⟩
    case round =>
      obtain ⟨k, hk, rfl, rfl⟩ := hrel
      have hg := Pl.grp_le s.data.toList k
      by_cases hlt : k < s.size
      · have HV := Lib.hid (fun w => isVowel_any s[k] w)
        have HS : Hid (Pl.grp s.data.toList (k + 1) = Pl.grp s.data.toList k + if (Pl.vow s[k] && (decide (k = 0) || !Pl.vowAt s.data.toList (k - 1))) = true then 1 else 0) := by
          show Pl.grp s.data.toList (k + 1) = _
          rw [← vowAt_at s k hlt]; rfl
        cases hv : Pl.vow s[k]
        · rw [hv] at HV HS
          have HS' : Hid (Pl.grp s.data.toList (k + 1) = Pl.grp s.data.toList k) := Lib.hid (by have := HS.out; simpa using this)
          clear hv HS
          go_wp2_with fail
          refine (HV.out _).mono ?_
          rintro e w' ⟨rfl, rfl⟩
          go_wp2
          go_round
          case rel => exact ⟨k + 1, by omega, by go_num, by rw [HS'.out]⟩
          case measure => simp [intOf]; omega
        · rw [hv] at HV HS
          clear hv
          by_cases h0 : k = 0
          · subst h0
            have HS' : Hid (Pl.grp s.data.toList (0 + 1) = Pl.grp s.data.toList 0 + 1) := Lib.hid (by have := HS.out; simpa using this)
            clear HS
            go_wp2_with fail
            refine (HV.out _).mono ?_
            rintro e w' ⟨rfl, rfl⟩
            go_wp2
            go_round
            case rel => exact ⟨0 + 1, by omega, by go_num, by rw [HS'.out]; go_num⟩
            case measure => simp [intOf]; omega
          · obtain ⟨m, rfl⟩ : ∃ m, k = m + 1 := ⟨k - 1, by omega⟩
            have HV2 := Lib.hid (fun w => isVowel_any (s[m]'(by omega)) w)
            rw [Nat.add_sub_cancel, vowAt_at s m (by omega)] at HS
            have hne : (((m + 1 : Nat) : Int) == 0) = false := by simp; omega
            cases hv2 : Pl.vow (s[m]'(by omega))
            · rw [hv2] at HV2 HS
              have HS' : Hid (Pl.grp s.data.toList (m + 1 + 1) = Pl.grp s.data.toList (m + 1) + 1) := Lib.hid (by have := HS.out; simpa using this)
              clear hv2 HS
              go_wp2_with fail
              refine (HV.out _).mono ?_
              rintro e w' ⟨rfl, rfl⟩
              go_wp2_with fail
              refine (HV2.out _).mono ?_
              rintro e w' ⟨rfl, rfl⟩
              go_wp2
              go_round
              case rel => exact ⟨m + 1 + 1, by omega, by go_num, by rw [HS'.out]; go_num⟩
              case measure => simp [intOf]; omega
            · rw [hv2] at HV2 HS
              have HS' : Hid (Pl.grp s.data.toList (m + 1 + 1) = Pl.grp s.data.toList (m + 1)) := Lib.hid (by have := HS.out; simpa using this)
              clear hv2 HS
              go_wp2_with fail
              refine (HV.out _).mono ?_
              rintro e w' ⟨rfl, rfl⟩
              go_wp2_with fail
              refine (HV2.out _).mono ?_
              rintro e w' ⟨rfl, rfl⟩
              go_wp2
              go_round
              case rel => exact ⟨m + 1 + 1, by omega, by go_num, by rw [HS'.out]⟩
              case measure => simp [intOf]; omega
      · obtain rfl : k = s.size := by omega
        go_wp2
        go_ret2
        exact ⟨by unfold Pl.groups; simp, rfl⟩
end Go.Proofs.YtnpiphkglhcifaaGreatDoor
