/-
  CONTRACTS of the checksum functions: the program's and the specification's.
-/
import Derived.Test.YtbpjlhdhlcmajaaDoorProg
import Derived.Test.YtbpjlhdhlcmajaaDoorPlain
import Derived.Test.YtbpjlhdhlcmajaaDoorAid
namespace Go.Proofs.YtbpjlhdhlcmajaaDoor
open Go.RowKit

set_option maxHeartbeats 400000 in
theorem l1Sum_any (s : ByteArray) (w : World) (hs : s.size ≤ maxLen) :
    Calls Tryd.prog 41 #[.string s] w fun e w' => e = .returned (.int .i64 (Pl.sum s.data.toList)) ∧ w = w' := by
  unfold maxLen at hs
  go_enter Tryd.func41, Tryd.ntmps41
  go_wp2
  go_loop [3, 4] (fun n i => ∃ k : Nat, k ≤ s.size ∧ i = .int .i64 k ∧ n = .int .i64 (Pl.sum (s.data.toList.take k))) (fun _ i => s.size - (intOf i).toNat)
  case atStart => exact ⟨0, Nat.zero_le _, rfl, rfl⟩
  case round =>
    obtain ⟨k, hk, rfl, rfl⟩ := hrel
    have hd := Pl.sum_lt (s.data.toList.take k)
    by_cases hlt : k < s.size
    · have HS := Lib.hid (Pl.sum_take s k hlt)
      have hb : (s[k].toNat : Int) < 256 := by have := s[k].toNat_lt; omega
      go_wp2
      go_round
      case rel => exact ⟨k + 1, by omega, by go_num, by rw [HS.out]⟩
      case measure => simp [intOf]; omega
    · go_wp2
      go_ret
      exact ⟨ret_int (by rw [List.take_of_length_le (by simp; omega)]), rfl⟩


set_option maxHeartbeats 400000 in
theorem Checksum_any (s : ByteArray) (w : World) (hs : s.size ≤ maxLen) :
    Calls Tryd.prog 31 #[.string s] w fun e w' => e = .returned (.tuple (if s.size ≤ 4000 then #[.int .i64 (Pl.sum s.data.toList), .bool true] else #[.int .i64 0, .bool false])) ∧ w = w' := by
  unfold maxLen at hs
  by_cases h : s.size ≤ 4000
  · rw [if_pos h]
    go_enter Tryd.func31, Tryd.ntmps31
    go_wp2
    go_loop [4, 11] (fun n i => ∃ k : Nat, k ≤ s.size ∧ i = .int .i64 k ∧ n = .int .i64 (Pl.sum (s.data.toList.take k))) (fun _ i => s.size - (intOf i).toNat)
    case atStart => exact ⟨0, Nat.zero_le _, rfl, rfl⟩
    case round =>
      obtain ⟨k, hk, rfl, rfl⟩ := hrel
      have hd := Pl.sum_lt (s.data.toList.take k)
      by_cases hlt : k < s.size
      · have HS := Lib.hid (Pl.sum_take s k hlt)
        have hb : (s[k].toNat : Int) < 256 := by have := s[k].toNat_lt; omega
        go_wp2
        go_round
        case rel => exact ⟨k + 1, by omega, by go_num, by rw [HS.out]⟩
        case measure => simp [intOf]; omega
      · go_wp2
        go_ret2
        exact ⟨ret_int_bool (by rw [List.take_of_length_le (by simp; omega)]), rfl⟩
  · rw [if_neg h]
    go_enter Tryd.func31, Tryd.ntmps31
    go_wp2
    go_ret2
    exact ⟨rfl, rfl⟩

end Go.Proofs.YtbpjlhdhlcmajaaDoor
