/-
  WORDS: the program's IsWord.
-/
import Derived.Test.YtjmiackiikbodaaGreatPlainWord
import Derived.Test.YtjmiackiikbodaaGreatNum
namespace Go.Proofs.YtjmiackiikbodaaGreat
set_option maxRecDepth 100000
open Go.RowKit

theorem IsWord_any (s : ByteArray) (w : World) (hs : s.size ≤ maxLen) :
    Calls Tryz.prog 111 #[.string s] w fun e w' => e = .returned (.bool (Pl.wordB s.data.toList)) ∧ w' = w := by
  unfold maxLen at hs
  have HL : Hid (s.data.toList.length = s.size) := Lib.hid (by simp)
  by_cases h1 : 1 ≤ s.size
  · by_cases h2 : s.size ≤ 24
    · go_enter Tryz.func111, Tryz.ntmps111
      go_wp2
      go_loop [14] (fun i => ∃ k : Nat, k ≤ s.size ∧ i = .int .i64 k ∧ Hid (∀ c ∈ s.data.toList.take k, Pl.letter c = true)) (fun i => s.size - (intOf i).toNat)
      case atStart => exact ⟨0, Nat.zero_le _, rfl, fun c hc => by simp at hc⟩
      case round =>
        obtain ⟨k, hk, rfl, HA⟩ := hrel
        by_cases hlt : k < s.size
        · by_cases hl : Pl.letter s[k] = true
          · have hl2 := hl
            unfold Pl.letter at hl2
            simp only [Bool.and_eq_true, decide_eq_true_eq] at hl2
            obtain ⟨hl2, hl3⟩ := hl2
            have h1 : ¬ ((s[k].toNat : Int) < 97) := by omega
            have h2 : ¬ ((s[k].toNat : Int) > 122) := by omega
            have HA' : Hid (∀ c ∈ s.data.toList.take (k + 1), Pl.letter c = true) := by
              intro c hc
              rw [List.take_succ_eq_append_getElem (by simpa using hlt), List.mem_append, List.mem_singleton] at hc
              rcases hc with hc | rfl
              · exact HA.out c hc
              · exact hl
            clear hl hl2 hl3
            go_wp2
            go_round
            case rel => exact ⟨k + 1, by omega, by go_num, HA'⟩
            case measure => simp [intOf]; omega
          · have HN : Hid (Pl.wordB s.data.toList = false) := by
              have : s.data.toList.all Pl.letter = false := by
                rw [List.all_eq_false]
                exact ⟨s[k], by rw [Array.mem_toList_iff]; exact Array.getElem_mem _, by simpa using hl⟩
              show Pl.wordB _ = _
              unfold Pl.wordB
              rw [this]; rfl
            unfold Pl.letter at hl
            simp only [Bool.and_eq_true, decide_eq_true_eq, not_and, Nat.not_le] at hl
            by_cases h1 : (s[k].toNat : Int) < 97
            · clear hl
              go_wp2
              go_ret
              exact ⟨ret_bool HN.out.symm, rfl⟩
            · have h2 : (s[k].toNat : Int) > 122 := by have := hl (by omega); omega
              clear hl
              go_wp2
              go_ret
              exact ⟨ret_bool HN.out.symm, rfl⟩
        · have HN : Hid (Pl.wordB s.data.toList = true) := by
            have : s.data.toList.all Pl.letter = true := by
              rw [List.all_eq_true]
              intro c hc
              exact HA.out c (by rw [List.take_of_length_le (by simp; omega)]; exact hc)
            show Pl.wordB _ = _
            unfold Pl.wordB
            rw [this, HL.out, decide_eq_true h1, decide_eq_true h2]; rfl
          go_wp2
          go_ret
          exact ⟨ret_bool HN.out.symm, rfl⟩
    · have HN : Hid (Pl.wordB s.data.toList = false) := by
        show Pl.wordB _ = _
        unfold Pl.wordB
        rw [HL.out, decide_eq_false h2, Bool.and_false, Bool.and_false]
      go_enter Tryz.func111, Tryz.ntmps111
      go_wp2
      go_ret
      exact ⟨ret_bool HN.out.symm, rfl⟩
  · have HN : Hid (Pl.wordB s.data.toList = false) := by
      show Pl.wordB _ = _
      unfold Pl.wordB
      rw [HL.out, decide_eq_false h1, Bool.false_and, Bool.and_false]
    go_enter Tryz.func111, Tryz.ntmps111
    go_wp2
    go_ret
    exact ⟨ret_bool HN.out.symm, rfl⟩
end Go.Proofs.YtjmiackiikbodaaGreat
