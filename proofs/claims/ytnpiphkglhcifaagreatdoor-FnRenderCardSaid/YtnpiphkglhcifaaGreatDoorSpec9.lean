/-
  CONTRACTS of chapter 9 of the specification: l9Word, l9Vowel, l9Groups, l9Ends, l9ConsonantY, l9Doubles, l9Rule, l9Join.
-/
import Derived.Test.YtnpiphkglhcifaaGreatDoorNum
import Derived.Test.YtnpiphkglhcifaaGreatDoorPlainWord
import Derived.Test.YtnpiphkglhcifaaGreatDoorStrs
namespace Go.Proofs.YtnpiphkglhcifaaGreatDoor
set_option maxRecDepth 100000
open Go.RowKit

theorem vow_eq (c : UInt8) : Pl.vow c = (decide ((c.toNat : Int) = 97) || (decide ((c.toNat : Int) = 101) || (decide ((c.toNat : Int) = 105) || (decide ((c.toNat : Int) = 111) || decide ((c.toNat : Int) = 117))))) := by
  have key : ∀ (k : UInt8) (n : Int), (k.toNat : Int) = n → (c == k) = decide ((c.toNat : Int) = n) := by
    intro k n h
    rw [Bool.eq_iff_iff, beq_iff_eq, decide_eq_true_eq]
    constructor
    · rintro rfl; exact h
    · intro h'; exact UInt8.toNat_inj.1 (by omega)
  unfold Pl.vow
  rw [key 97 97 rfl, key 101 101 rfl, key 105 105 rfl, key 111 111 rfl, key 117 117 rfl]
  simp [Bool.or_assoc]
theorem l9Vowel_any (c : UInt8) (w : World) :
    Calls Tryz.prog 85 #[.int .u8 (c.toNat : Int)] w fun e w' => e = .returned (.bool (Pl.vow c)) ∧ w' = w := by
  have HV := Lib.hid (vow_eq c)
  obtain ⟨z, hz⟩ : ∃ z : Int, z = (c.toNat : Int) := ⟨_, rfl⟩
  obtain ⟨b, hb⟩ : ∃ b, b = Pl.vow c := ⟨_, rfl⟩
  rw [← hz, ← hb] at HV
  rw [← hz, ← hb]
  clear hz hb
  go_enter Tryz.func85, Tryz.ntmps85
  go_wp2
  all_goals go_ret
  all_goals refine ⟨ret_bool ?_, rfl⟩
  all_goals rw [HV.out]
  all_goals first | (simp [*]; done) | (rw [Bool.eq_iff_iff]; simp only [Bool.or_eq_true, beq_iff_eq, decide_eq_true_eq]; omega)

theorem l9Word_any (s : ByteArray) (w : World) (hs : s.size ≤ maxLen) :
    Calls Tryz.prog 59 #[.string s] w fun e w' => e = .returned (.bool (Pl.wordB s.data.toList)) ∧ w' = w := by
  unfold maxLen at hs
  go_enter Tryz.func59, Tryz.ntmps59
  go_wp2
  go_loop [3] (fun i => ∃ k : Nat, k ≤ s.size ∧ i = .int .i64 k ∧ Hid (∀ c ∈ s.data.toList.take k, Pl.letter c = true)) (fun i => s.size - (intOf i).toNat)
  case atStart => exact ⟨0, Nat.zero_le _, rfl, fun c hc => by simp at hc⟩
  case round =>
    obtain ⟨k, hk, rfl, HA⟩ := hrel
    by_cases hlt : k < s.size
    · by_cases hl : Pl.letter s[k] = true
      · have hl2 := hl
        unfold Pl.letter at hl2
        simp only [Bool.and_eq_true, decide_eq_true_eq] at hl2
        obtain ⟨hl2, hl3⟩ := hl2
        have h1 : ¬ ((s[k].toNat : Int) < 97) := by omega
        have h2 : ¬ ((s[k].toNat : Int) > 122) := by omega
        have HA' : Hid (∀ c ∈ s.data.toList.take (k + 1), Pl.letter c = true) := by
          intro c hc
          rw [List.take_succ_eq_append_getElem (by simpa using hlt), List.mem_append, List.mem_singleton] at hc
          rcases hc with hc | rfl
          · exact HA.out c hc
          · exact hl
        clear hl hl2 hl3
        go_wp2
        go_round
        case rel => exact ⟨k + 1, by omega, by go_num, HA'⟩
        case measure => simp [intOf]; omega
      · have HN : Hid (Pl.wordB s.data.toList = false) := by
          have : s.data.toList.all Pl.letter = false := by
            rw [List.all_eq_false]
            exact ⟨s[k], by rw [Array.mem_toList_iff]; exact Array.getElem_mem _, by simpa using hl⟩
          show Pl.wordB _ = _
          unfold Pl.wordB
          rw [this]; rfl
        unfold Pl.letter at hl
        simp only [Bool.and_eq_true, decide_eq_true_eq, not_and, Nat.not_le] at hl
        by_cases h1 : (s[k].toNat : Int) < 97
        · clear hl
          go_wp2
          go_ret
          exact ⟨ret_bool HN.out.symm, rfl⟩
        · have h2 : (s[k].toNat : Int) > 122 := by have := hl (by omega); omega
          clear hl
          go_wp2
          go_ret
          exact ⟨ret_bool HN.out.symm, rfl⟩
    · have HN : Hid (Pl.wordB s.data.toList = (decide (1 ≤ (s.size : Int)) && decide ((s.size : Int) ≤ 24))) := by
        have : s.data.toList.all Pl.letter = true := by
          rw [List.all_eq_true]
          intro c hc
          exact HA.out c (by rw [List.take_of_length_le (by simp; omega)]; exact hc)
        show Pl.wordB _ = _
        unfold Pl.wordB
        rw [this, Bool.true_and]
        have e : s.data.toList.length = s.size := by simp
        rw [e]
        congr 1
        · rw [Bool.eq_iff_iff]; simp
          omega
        · rw [Bool.eq_iff_iff]; simp
          omega
      go_wp2_with (go_at_call 40; refine (l1In_any _ _ _ _).mono ?_; rintro e w' ⟨rfl, rfl⟩)
      go_ret
      exact ⟨ret_bool HN.out.symm, rfl⟩

theorem getD_at (s : ByteArray) (k : Nat) (h : k < s.size) : s.data.toList.getD k 0 = s[k] := by
  have : k < s.data.toList.length := by simpa using h
  rw [List.getD, List.getElem?_eq_getElem this]; rfl
theorem vowAt_at (s : ByteArray) (k : Nat) (h : k < s.size) : Pl.vowAt s.data.toList k = Pl.vow s[k] := by unfold Pl.vowAt; rw [getD_at s k h]

set_option maxHeartbeats 1000000 in
theorem l9Groups_any (s : ByteArray) (w : World) (hs : s.size ≤ maxLen) :
    Calls Tryz.prog 99 #[.string s] w fun e w' => e = .returned (.int .i64 (Pl.groups s.data.toList)) ∧ w' = w := by
  unfold maxLen at hs
  go_enter Tryz.func99, Tryz.ntmps99
  go_wp2
  go_loop [3, 4] (fun n i => ∃ k : Nat, k ≤ s.size ∧ i = .int .i64 k ∧ n = .int .i64 (Pl.grp s.data.toList k)) (fun _ i => s.size - (intOf i).toNat)
  case atStart => exact ⟨0, Nat.zero_le _, rfl, rfl⟩
  case round =>
    obtain ⟨k, hk, rfl, rfl⟩ := hrel
    have hg := Pl.grp_le s.data.toList k
    by_cases hlt : k < s.size
    · have HV := Lib.hid (fun w => l9Vowel_any s[k] w)
      have HS : Hid (Pl.grp s.data.toList (k + 1) = Pl.grp s.data.toList k + if (Pl.vow s[k] && (decide (k = 0) || !Pl.vowAt s.data.toList (k - 1))) = true then 1 else 0) := by
        show Pl.grp s.data.toList (k + 1) = _
        rw [← vowAt_at s k hlt]; rfl
      cases hv : Pl.vow s[k]
      · rw [hv] at HV HS
        have HS' : Hid (Pl.grp s.data.toList (k + 1) = Pl.grp s.data.toList k) := Lib.hid (by have := HS.out; simpa using this)
        clear hv HS
        go_wp2_with (go_at_call 85; refine (HV.out _).mono ?_; rintro e w' ⟨rfl, rfl⟩)
        go_round
        case rel => exact ⟨k + 1, by omega, by go_num, by rw [HS'.out]⟩
        case measure => simp [intOf]; omega
      · rw [hv] at HV HS
        clear hv
        by_cases h0 : k = 0
        · subst h0
          have HS' : Hid (Pl.grp s.data.toList (0 + 1) = Pl.grp s.data.toList 0 + 1) := Lib.hid (by have := HS.out; simpa using this)
          clear HS
          go_wp2_with (go_at_call 85; refine (HV.out _).mono ?_; rintro e w' ⟨rfl, rfl⟩)
          go_round
          case rel => exact ⟨0 + 1, by omega, by go_num, by rw [HS'.out]; go_num⟩
          case measure => simp [intOf]; omega
        · obtain ⟨m, rfl⟩ : ∃ m, k = m + 1 := ⟨k - 1, by omega⟩
          have HV2 := Lib.hid (fun w => l9Vowel_any (s[m]'(by omega)) w)
          rw [Nat.add_sub_cancel, vowAt_at s m (by omega)] at HS
          have hne : (((m + 1 : Nat) : Int) == 0) = false := by simp; omega
          cases hv2 : Pl.vow (s[m]'(by omega))
          · rw [hv2] at HV2 HS
            have HS' : Hid (Pl.grp s.data.toList (m + 1 + 1) = Pl.grp s.data.toList (m + 1) + 1) := Lib.hid (by have := HS.out; simpa using this)
            clear hv2 HS
            go_wp2_with fail
            refine (HV.out _).mono ?_
            rintro e w' ⟨rfl, rfl⟩
            go_wp2_with fail
            refine (HV2.out _).mono ?_
            rintro e w' ⟨rfl, rfl⟩
            go_wp2
            go_round
            case rel => exact ⟨m + 1 + 1, by omega, by go_num, by rw [HS'.out]; go_num⟩
            case measure => simp [intOf]; omega
          · rw [hv2] at HV2 HS
            have HS' : Hid (Pl.grp s.data.toList (m + 1 + 1) = Pl.grp s.data.toList (m + 1)) := Lib.hid (by have := HS.out; simpa using this)
            clear hv2 HS
            go_wp2_with fail
            refine (HV.out _).mono ?_
            rintro e w' ⟨rfl, rfl⟩
            go_wp2_with fail
            refine (HV2.out _).mono ?_
            rintro e w' ⟨rfl, rfl⟩
            go_wp2
            go_round
            case rel => exact ⟨m + 1 + 1, by omega, by go_num, by rw [HS'.out]⟩
            case measure => simp [intOf]; omega
    · obtain rfl : k = s.size := by omega
      go_wp2
      go_ret
      exact ⟨ret_int (by unfold Pl.groups; simp), rfl⟩

theorem l9Ends_any (s p : ByteArray) (w : World) (hs : s.size ≤ maxLen) (hp : p.size ≤ maxLen) :
    Calls Tryz.prog 87 #[.string s, .string p] w fun e w' => e = .returned (.bool (Lib.hasSuffix s.data.toList p.data.toList)) ∧ w' = w := by
  unfold maxLen at hs hp
  rw [← Lib.hasSuffix_raw]
  by_cases h : p.size ≤ s.size
  · have s1 := fun w => run_slice_string_l (P := Tryz.prog) w 9 s Tryz.underlying9 .i64 ((s.size : Int) - (p.size : Int)) (by omega) (by omega)
    rw [show ((s.size : Int) - (p.size : Int)).toNat = s.size - p.size by omega] at s1
    rw [decide_eq_true h, Bool.true_and]
    go_enter Tryz.func87, Tryz.ntmps87
    go_wp2
    go_ret
    exact ⟨rfl, rfl⟩
  · rw [decide_eq_false h, Bool.false_and]
    go_enter Tryz.func87, Tryz.ntmps87
    go_wp2
    go_ret
    exact ⟨rfl, rfl⟩

theorem byte_eq (c k : UInt8) (n : Int) (h : (k.toNat : Int) = n) : (c == k) = ((c.toNat : Int) == n) := by
  rw [Bool.eq_iff_iff, beq_iff_eq, beq_iff_eq]
  constructor
  · rintro rfl; exact h
  · intro h'; exact UInt8.toNat_inj.1 (by omega)
theorem consY_at (s : ByteArray) (m : Nat) (hm : s.size = m + 2) : Pl.consY s.data.toList = (((s[m + 1]'(by omega)).toNat : Int) == 121 && !Pl.vow (s[m]'(by omega))) := by
  have e : s.data.toList.length = m + 2 := by rw [← hm]; simp
  unfold Pl.consY
  rw [e, show m + 2 - 1 = m + 1 by omega, show m + 2 - 2 = m by omega, getD_at s _ (by omega), getD_at s _ (by omega), byte_eq _ 121 121 rfl]
  simp
theorem doubles_at (s : ByteArray) (m : Nat) (hm : s.size = m + 3) : Pl.doubles s.data.toList =
    (!Pl.vow (s[m]'(by omega)) && (Pl.vow (s[m + 1]'(by omega)) && (!Pl.vow (s[m + 2]'(by omega)) && !(((s[m + 2]'(by omega)).toNat : Int) == 119 || ((s[m + 2]'(by omega)).toNat : Int) == 120 || ((s[m + 2]'(by omega)).toNat : Int) == 121)))) := by
  have e : s.data.toList.length = m + 3 := by rw [← hm]; simp
  unfold Pl.doubles
  rw [e, show m + 3 - 1 = m + 2 by omega, show m + 3 - 2 = m + 1 by omega, show m + 3 - 3 = m by omega, getD_at s _ (by omega), getD_at s _ (by omega), getD_at s _ (by omega), byte_eq _ 119 119 rfl, byte_eq _ 120 120 rfl, byte_eq _ 121 121 rfl]
  simp

theorem l9ConsonantY_any (s : ByteArray) (w : World) (hs : s.size ≤ maxLen) :
    Calls Tryz.prog 86 #[.string s] w fun e w' => e = .returned (.bool (Pl.consY s.data.toList)) ∧ w' = w := by
  unfold maxLen at hs
  by_cases h : 2 ≤ s.size
  · obtain ⟨m, hm⟩ : ∃ m, s.size = m + 2 := ⟨s.size - 2, by omega⟩
    have HV := Lib.hid (fun w => l9Vowel_any (s[m]'(by omega)) w)
    have HE := Lib.hid (consY_at s m hm)
    by_cases hy : ((s[m + 1]'(by omega)).toNat : Int) = 121
    · rw [hy] at HE
      go_enter Tryz.func86, Tryz.ntmps86
      go_wp2_with fail
      refine (HV.out _).mono ?_
      rintro e w' ⟨rfl, rfl⟩
      go_wp2
      go_ret
      exact ⟨ret_bool (by rw [HE.out]; rfl), rfl⟩
    · have hyb : ((((s[m + 1]'(by omega)).toNat : Int) == 121) = false) := by simpa using hy
      rw [hyb] at HE
      go_enter Tryz.func86, Tryz.ntmps86
      go_wp2
      go_ret
      exact ⟨ret_bool (by rw [HE.out]; rfl), rfl⟩
  · have HE : Hid (Pl.consY s.data.toList = false) := by
      show Pl.consY _ = _
      unfold Pl.consY
      rw [decide_eq_false (by simpa using h)]; rfl
    go_enter Tryz.func86, Tryz.ntmps86
    go_wp2
    go_ret
    exact ⟨ret_bool HE.out.symm, rfl⟩

set_option maxHeartbeats 2000000 in
theorem l9Doubles_any (s : ByteArray) (w : World) (hs : s.size ≤ maxLen) :
    Calls Tryz.prog 88 #[.string s] w fun e w' => e = .returned (.bool (decide (Pl.groups s.data.toList = 1) && Pl.doubles s.data.toList)) ∧ w' = w := by
  have HG := Lib.hid (fun w => l9Groups_any s w hs)
  have hgl := Pl.grp_le s.data.toList s.data.toList.length
  have hsl : s.data.toList.length = s.size := by simp
  obtain ⟨g, hg⟩ : ∃ g, g = Pl.groups s.data.toList := ⟨_, rfl⟩
  rw [← hg] at HG ⊢
  have hg2 : g ≤ s.size := by rw [hg, ← hsl]; exact hgl
  unfold maxLen at hs
  clear hg hgl hsl
  by_cases h : 3 ≤ s.size
  · obtain ⟨m, hm⟩ : ∃ m, s.size = m + 3 := ⟨s.size - 3, by omega⟩
    by_cases hg1 : g = 1
    · subst hg1
      have HV := Lib.hid (fun (c : UInt8) w => l9Vowel_any c w)
      have HE := Lib.hid (doubles_at s m hm)
      obtain ⟨V, hV⟩ : ∃ V : UInt8 → Bool, V = Pl.vow := ⟨_, rfl⟩
      rw [← hV] at HV HE
      clear hV
      go_enter Tryz.func88, Tryz.ntmps88
      go_wp2_with (first | (go_at_call 99; refine (HG.out _).mono ?_; rintro e w' ⟨rfl, rfl⟩) | (go_at_call 85; refine (HV.out _ _).mono ?_; rintro e w' ⟨rfl, rfl⟩))
      all_goals go_ret
      all_goals refine ⟨ret_bool ?_, rfl⟩
      all_goals rw [HE.out]
      all_goals first | (simp [*]; done) | (simp [*, bne]; done)
    · have hgb : ((g : Int) != 1) = true := by simp; omega
      rw [decide_eq_false hg1, Bool.false_and]
      go_enter Tryz.func88, Tryz.ntmps88
      go_wp2_with (go_at_call 99; refine (HG.out _).mono ?_; rintro e w' ⟨rfl, rfl⟩)
      go_ret
      exact ⟨rfl, rfl⟩
  · have HE : Hid (Pl.doubles s.data.toList = false) := by
      show Pl.doubles _ = _
      unfold Pl.doubles
      rw [decide_eq_false (by simpa using h)]; rfl
    go_enter Tryz.func88, Tryz.ntmps88
    go_wp2
    go_ret
    exact ⟨ret_bool (by rw [HE.out, Bool.and_false]), rfl⟩

set_option maxHeartbeats 8000000 in
theorem l9Rule_any (s f : ByteArray) (w : World) (hs : s.size ≤ maxLen) (_hf : f.size ≤ maxLen) (hf1 : 1 ≤ f.size) :
    Calls Tryz.prog 69 #[.string s, .string f] w fun e w' => e = .returned (.int .i64 (Pl.rule s.data.toList f.data.toList)) ∧ w' = w := by
  have HE := Lib.hid (fun (p : ByteArray) (hp : p.size ≤ 3) w => l9Ends_any s p w hs (by unfold maxLen; omega))
  have HC := Lib.hid (fun w => l9ConsonantY_any s w hs)
  have HD := Lib.hid (fun w => l9Doubles_any s w hs)
  have HV := Lib.hid (fun w => l9Vowel_any (f[0]'(by omega)) w)
  obtain ⟨R, hR⟩ : ∃ R, R = Pl.rule s.data.toList f.data.toList := ⟨_, rfl⟩
  have hR' := hR
  rw [← hR]
  unfold Pl.rule at hR'
  rw [getD_at f 0 (by omega), byte_eq _ 105 105 rfl] at hR'
  have hl : s.data.toList.length = s.size := by simp
  rw [hl, show decide (2 ≤ s.size) = decide (2 ≤ (s.size : Int)) by rw [Bool.eq_iff_iff]; simp only [decide_eq_true_eq]; omega] at hR'
  have key : ∀ l : List UInt8, decide (f.data.toList = l) = (f.toList == l) := fun l => by
    rw [Lib.toList_data, Bool.eq_iff_iff]; simp
  rw [key [115], key [105, 110, 103]] at hR'
  obtain ⟨en, hen⟩ : ∃ en : ByteArray → Bool, en = fun p => Lib.hasSuffix s.data.toList p.data.toList := ⟨_, rfl⟩
  have HE' : Hid (∀ (p : ByteArray) (hp : p.size ≤ 3) w, Calls Tryz.prog 87 #[.string s, .string p] w fun e w' => e = .returned (.bool (en p)) ∧ w' = w) := by
    rw [hen]; exact HE.out
  have ke : ∀ l : List UInt8, Lib.hasSuffix s.data.toList l = en ⟨l.toArray⟩ := fun l => by rw [hen]
  rw [ke, ke, ke, ke, ke, ke, ke, ke, ke, ke] at hR'
  obtain ⟨cy, hcy⟩ : ∃ b, b = Pl.consY s.data.toList := ⟨_, rfl⟩
  obtain ⟨db, hdb⟩ : ∃ b, b = (decide (Pl.groups s.data.toList = 1) && Pl.doubles s.data.toList) := ⟨_, rfl⟩
  obtain ⟨vo, hvo⟩ : ∃ b, b = Pl.vow (f[0]'(by omega)) := ⟨_, rfl⟩
  obtain ⟨q, hq⟩ : ∃ b, (f.toList == [115]) = b := ⟨_, rfl⟩
  obtain ⟨g, hgg⟩ : ∃ b, (f.toList == [105, 110, 103]) = b := ⟨_, rfl⟩
  obtain ⟨nz, hnz⟩ : ∃ b, (((f[0]'(by omega)).toNat : Int) != 105) = b := ⟨_, rfl⟩
  rw [← hcy, ← hdb, ← hvo, hq, hgg, show (!(((f[0]'(by omega)).toNat : Int) == 105)) = nz from hnz] at hR'
  rw [← hcy] at HC
  rw [← hdb] at HD
  rw [← hvo] at HV
  have HR := Lib.hid hR'
  unfold maxLen at hs _hf
  clear HE hR hR' key ke hen hcy hdb hvo hl
  go_enter Tryz.func69, Tryz.ntmps69
  go_wp2_with (first | (go_at_call 85; refine (HV.out _).mono ?_; rintro e w' ⟨rfl, rfl⟩) | (go_at_call 87; refine (HE'.out _ (by decide) _).mono ?_; rintro e w' ⟨rfl, rfl⟩) | (go_at_call 86; refine (HC.out _).mono ?_; rintro e w' ⟨rfl, rfl⟩) | (go_at_call 88; refine (HD.out _).mono ?_; rintro e w' ⟨rfl, rfl⟩))
  all_goals go_ret
  all_goals refine ⟨ret_int ?_, rfl⟩
  all_goals rw [HR.out]
  all_goals first | (simp [*]; done) | (rw [show decide (2 ≤ (s.size : Int)) = false from decide_eq_false (by omega)]; simp [*]; done)

theorem ext_snoc (s t : ByteArray) : (s ++ t).data.toList = s.data.toList ++ t.data.toList := by simp
/-- The spelling of two words that are joined, as a text. -/
def joinB (s f : ByteArray) : ByteArray := ⟨(Pl.join9 s.data.toList f.data.toList).toArray⟩
theorem ext_take (s : ByteArray) (k : Nat) (_h : k ≤ s.size) : (s.extract 0 k).data.toList = s.data.toList.take k := by
  simp
theorem ext_drop (s : ByteArray) (k : Nat) (_h : k ≤ s.size) : (s.extract k s.size).data.toList = s.data.toList.drop k := by
  simp
  rw [List.take_of_length_le (by simp)]
set_option maxHeartbeats 2000000 in
theorem l9Join_any (s f : ByteArray) (w : World) (hs : s.size ≤ 1048600) (hf : f.size ≤ 1048600) (hs1 : 1 ≤ s.size) (hf1 : 1 ≤ f.size) :
    Calls Tryz.prog 60 #[.string s, .string f] w fun e w' => e = .returned (.string (joinB s f)) ∧ w' = w := by
  have HR := Lib.hid (fun w => l9Rule_any s f w (by unfold maxLen; omega) (by unfold maxLen; omega) hf1)
  obtain ⟨t1, t2, t3, t4, t5, t6⟩ := Pl.rule_tells s.data.toList f.data.toList
  have hle := Pl.rule_cases s.data.toList f.data.toList
  have hl : s.data.toList.length = s.size := by simp
  have hj : ∀ (b : ByteArray), b.data.toList = Pl.join9 s.data.toList f.data.toList → b = joinB s f := fun b hb => bytes_mk hb
  have cut : ∀ k, k ≤ s.size → ∀ p : List UInt8, (∃ x, s.data.toList = x ++ p) → p.length = k → Pl.bef (Pl.rule s.data.toList f.data.toList) (Pl.lastL s.data.toList) = p →
      Pl.join9 s.data.toList f.data.toList = (s.extract 0 (s.size - k)).data.toList ++ Pl.aft (Pl.rule s.data.toList f.data.toList) (Pl.lastL s.data.toList) ++ f.data.toList := by
    intro k hk p hx hp hb
    obtain ⟨x, hx⟩ := hx
    rw [Pl.join_eq (x := x) (by rw [hb]; exact hx), ext_take s _ (by omega)]
    have : s.data.toList.take (s.size - k) = x := by
      rw [hx]
      have e := congrArg List.length hx
      rw [List.length_append, hl, hp] at e
      rw [List.take_append_of_le_length (by omega), List.take_of_length_le (by omega)]
    rw [this]
  obtain ⟨r, hr⟩ : ∃ r, r = Pl.rule s.data.toList f.data.toList := ⟨_, rfl⟩
  rw [← hr] at HR t1 t2 t3 t4 t5 t6 hle cut
  have e0 := ext_snoc
  rcases hle with rfl | rfl | rfl | rfl | rfl | rfl | rfl
  · have HE : Hid (s ++ f = joinB s f) := Lib.hid (hj _ (by
      rw [ext_snoc, Pl.join_eq (x := s.data.toList) (by rw [← hr]; simp [Pl.bef]), ← hr]; simp [Pl.aft]))
    clear t1 t2 t3 t4 t5 t6 hr hl hj cut e0
    go_enter Tryz.func60, Tryz.ntmps60
    go_wp2_with (go_at_call 69; refine (HR.out _).mono ?_; rintro e w' ⟨rfl, rfl⟩)
    go_ret
    exact ⟨ret_str HE.out, rfl⟩
  · obtain ⟨hf', x, hx⟩ := t1 rfl
    have HE : Hid (s.extract 0 (s.size - 1) ++ ⟨#[105, 101, 115]⟩ = joinB s f) := Lib.hid (hj _ (by
      rw [ext_snoc, cut 1 hs1 [121] ⟨x, hx⟩ rfl (by simp [Pl.bef]), hf']; simp [Pl.aft]))
    clear t1 t2 t3 t4 t5 t6 hr hl hj cut e0 hf' hx
    have s1 := fun w => run_slice_string_h (P := Tryz.prog) w 9 s Tryz.underlying9 .i64 ((s.size : Int) - 1) (by omega) (by omega)
    rw [show ((s.size : Int) - 1).toNat = s.size - 1 by omega] at s1
    go_enter Tryz.func60, Tryz.ntmps60
    go_wp2_with (go_at_call 69; refine (HR.out _).mono ?_; rintro e w' ⟨rfl, rfl⟩)
    go_ret
    exact ⟨ret_str HE.out, rfl⟩
  · have hf' := t2 rfl
    have HE : Hid (s ++ ⟨#[101, 115]⟩ = joinB s f) := Lib.hid (hj _ (by
      rw [ext_snoc, Pl.join_eq (x := s.data.toList) (by rw [← hr]; simp [Pl.bef]), ← hr, hf']; simp [Pl.aft]))
    clear t1 t2 t3 t4 t5 t6 hr hl hj cut e0 hf'
    go_enter Tryz.func60, Tryz.ntmps60
    go_wp2_with (go_at_call 69; refine (HR.out _).mono ?_; rintro e w' ⟨rfl, rfl⟩)
    go_ret
    exact ⟨ret_str HE.out, rfl⟩
  · obtain ⟨hf', x, hx⟩ := t3 rfl
    have h2 : 2 ≤ s.size := by rw [← hl, hx]; simp
    have HE : Hid (s.extract 0 (s.size - 2) ++ ⟨#[121, 105, 110, 103]⟩ = joinB s f) := Lib.hid (hj _ (by
      rw [ext_snoc, cut 2 h2 [105, 101] ⟨x, hx⟩ rfl (by simp [Pl.bef]), hf']; simp [Pl.aft]))
    clear t1 t2 t3 t4 t5 t6 hr hl hj cut e0 hf' hx
    have s1 := fun w => run_slice_string_h (P := Tryz.prog) w 9 s Tryz.underlying9 .i64 ((s.size : Int) - 2) (by omega) (by omega)
    rw [show ((s.size : Int) - 2).toNat = s.size - 2 by omega] at s1
    go_enter Tryz.func60, Tryz.ntmps60
    go_wp2_with (go_at_call 69; refine (HR.out _).mono ?_; rintro e w' ⟨rfl, rfl⟩)
    go_ret
    exact ⟨ret_str HE.out, rfl⟩
  · obtain ⟨x, hx⟩ := t4 rfl
    have HE : Hid (s.extract 0 (s.size - 1) ++ ⟨#[105]⟩ ++ f = joinB s f) := Lib.hid (hj _ (by
      rw [ext_snoc, ext_snoc, cut 1 hs1 [121] ⟨x, hx⟩ rfl (by simp [Pl.bef])]; simp [Pl.aft]))
    clear t1 t2 t3 t4 t5 t6 hr hl hj cut e0 hx
    have hz : (s.extract 0 (s.size - 1)).size ≤ 1048600 := by simp only [ByteArray.size_extract]; omega
    have s1 := fun w => run_slice_string_h (P := Tryz.prog) w 9 s Tryz.underlying9 .i64 ((s.size : Int) - 1) (by omega) (by omega)
    rw [show ((s.size : Int) - 1).toNat = s.size - 1 by omega] at s1
    obtain ⟨B, hB⟩ : ∃ B, B = s.extract 0 (s.size - 1) := ⟨_, rfl⟩
    rw [← hB] at HE s1 hz
    clear hB
    go_enter Tryz.func60, Tryz.ntmps60
    go_wp2_with (go_at_call 69; refine (HR.out _).mono ?_; rintro e w' ⟨rfl, rfl⟩)
    go_ret
    exact ⟨ret_str HE.out, rfl⟩
  · obtain ⟨x, hx⟩ := t5 rfl
    have HE : Hid (s.extract 0 (s.size - 1) ++ f = joinB s f) := Lib.hid (hj _ (by
      rw [ext_snoc, cut 1 hs1 [101] ⟨x, hx⟩ rfl (by simp [Pl.bef])]; simp [Pl.aft]))
    clear t1 t2 t3 t4 t5 t6 hr hl hj cut e0 hx
    have hz : (s.extract 0 (s.size - 1)).size ≤ 1048600 := by simp only [ByteArray.size_extract]; omega
    have s1 := fun w => run_slice_string_h (P := Tryz.prog) w 9 s Tryz.underlying9 .i64 ((s.size : Int) - 1) (by omega) (by omega)
    rw [show ((s.size : Int) - 1).toNat = s.size - 1 by omega] at s1
    obtain ⟨B, hB⟩ : ∃ B, B = s.extract 0 (s.size - 1) := ⟨_, rfl⟩
    rw [← hB] at HE s1 hz
    clear hB
    go_enter Tryz.func60, Tryz.ntmps60
    go_wp2_with (go_at_call 69; refine (HR.out _).mono ?_; rintro e w' ⟨rfl, rfl⟩)
    go_ret
    exact ⟨ret_str HE.out, rfl⟩
  · have HE : Hid (s ++ s.extract (s.size - 1) s.size ++ f = joinB s f) := Lib.hid (hj _ (by
      obtain ⟨x, hx⟩ := Pl.lastL_suffix s.data.toList
      rw [ext_snoc, ext_snoc, ext_drop s _ (by omega), Pl.join_eq (x := x) (by rw [← hr]; exact hx), ← hr]
      have e1 : s.data.toList.drop (s.size - 1) = Pl.lastL s.data.toList := by unfold Pl.lastL; rw [hl]
      rw [e1]
      conv => lhs; arg 1; arg 1; rw [hx]
      simp [Pl.aft]))
    clear t1 t2 t3 t4 t5 t6 hr hl hj cut e0
    have hz : (s.extract (s.size - 1) s.size).size ≤ 1048600 := by simp only [ByteArray.size_extract]; omega
    have s1 := fun w => run_slice_string_l (P := Tryz.prog) w 9 s Tryz.underlying9 .i64 ((s.size : Int) - 1) (by omega) (by omega)
    rw [show ((s.size : Int) - 1).toNat = s.size - 1 by omega] at s1
    obtain ⟨B, hB⟩ : ∃ B, B = s.extract (s.size - 1) s.size := ⟨_, rfl⟩
    rw [← hB] at HE s1 hz
    clear hB
    go_enter Tryz.func60, Tryz.ntmps60
    go_wp2_with (go_at_call 69; refine (HR.out _).mono ?_; rintro e w' ⟨rfl, rfl⟩)
    go_ret
    exact ⟨ret_str HE.out, rfl⟩
end Go.Proofs.YtnpiphkglhcifaaGreatDoor
