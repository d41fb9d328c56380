/-
  SLICES OF STRINGS in memory, and CONTRACTS of the laws' helpers on them.
-/
import Derived.Test.YtagbffnabjngfaaProg
import Derived.Test.YtagbffnabjngfaaAid
import Derived.WalkSmall
import Derived.WalkSpells
import Derived.Deep.QuietTactic
import Derived.BigQuiet
import Derived.Deep.OwnRows
namespace Go.Proofs.Ytagbffnabjngfaa
set_option maxRecDepth 100000
open Go.RowKit

/-- The value v is a slice whose elements are the strings xs. -/
def StrsAt (w : World) (v : Value) (xs : List ByteArray) : Prop :=
  ∃ (a : Option Addr) (cap : Nat), v = .slice a xs.length cap ∧ xs.length ≤ cap ∧ (xs = [] ∨ ∃ bk o, a = some ⟨bk, o, none⟩ ∧ bk < w.heap.size ∧ ∀ (j : Nat) x, xs[j]? = some x → w.cell? ⟨bk, o + j, none⟩ = some (.string x))
theorem StrsAt.below {w w' : World} {v : Value} {xs : List ByteArray} (h : StrsAt w v xs) (hb : Below w.heap.size w w') : StrsAt w' v xs := by
  obtain ⟨a, cap, hv, hc, h⟩ := h
  refine ⟨a, cap, hv, hc, ?_⟩
  rcases h with h | ⟨bk, o, ha, hk, h⟩
  · exact .inl h
  · exact .inr ⟨bk, o, ha, Nat.lt_of_lt_of_le hk hb.size, fun j x hx => (hb.cell (p := ⟨bk, o + j, none⟩) hk).trans (h j x hx)⟩



set_option maxHeartbeats 1000000 in
/-- Two slices with the same strings are equal. -/
theorem eq_same (v u : Value) (xs : List ByteArray) (w : World) (hv : StrsAt w v xs) (hu : StrsAt w u xs) (hn : xs.length ≤ 2097152) :
    Calls Try.prog 26 #[v, u] w fun e w' => e = .returned (.bool true) ∧ Below w.heap.size w w' := by
  obtain ⟨a, cap, rfl, hcap, hv⟩ := hv
  obtain ⟨b, cap', rfl, hcap', hu⟩ := hu
  obtain ⟨n, hnn⟩ : ∃ n, n = xs.length := ⟨_, rfl⟩
  rw [← hnn] at hn hcap hcap' ⊢
  have HN := Lib.hid hnn
  have HV : Hid (∀ w1 : World, Below w.heap.size w w1 → ∀ (j : Nat) x, 0 < n → xs[j]? = some x → ∃ bk o, a = some ⟨bk, o, none⟩ ∧ w1.cell? ⟨bk, o + j, none⟩ = some (.string x)) := by
    intro w1 hb j x h0 hx
    rcases hv with rfl | ⟨bk, o, ha, hk, h⟩
    · simp at hnn; omega
    · exact ⟨bk, o, ha, (hb.cell (p := ⟨bk, o + j, none⟩) hk).trans (h j x hx)⟩
  have HU : Hid (∀ w1 : World, Below w.heap.size w w1 → ∀ (j : Nat) x, 0 < n → xs[j]? = some x → ∃ bk o, b = some ⟨bk, o, none⟩ ∧ w1.cell? ⟨bk, o + j, none⟩ = some (.string x)) := by
    intro w1 hb j x h0 hx
    rcases hu with rfl | ⟨bk, o, ha, hk, h⟩
    · simp at hnn; omega
    · exact ⟨bk, o, ha, (hb.cell (p := ⟨bk, o + j, none⟩) hk).trans (h j x hx)⟩
  have hnb : ((n : Int) != (n : Int)) = false := by simp
  clear hv hu hnn
  go_enter Try.func26, Try.ntmps26
  go_wp2
  go_loopw [5] (fun i wr => ∃ k : Nat, k ≤ n ∧ i = .int .i64 k ∧ Below w.heap.size w wr) (fun i _ => n - (intOf i).toNat)
  case atStart => exact ⟨0, Nat.zero_le _, rfl, Below.refl _ _⟩
  case round =>
    obtain ⟨k, hk, rfl, hbel⟩ := hrel
    by_cases hlt : k < n
    · obtain ⟨x, hx⟩ : ∃ x, xs[k]? = some x := ⟨_, List.getElem?_eq_getElem (by rw [← HN.out]; exact hlt)⟩
      obtain ⟨bk, o, rfl, hck⟩ := HV.out wr hbel k x (by omega) hx
      obtain ⟨bk', o', rfl, hck'⟩ := HU.out wr hbel k x (by omega) hx
      clear hx
      go_wp2
      go_quiet (fail)
      go_wp2
      go_roundw
      case rel => exact ⟨k + 1, by omega, by go_num, below_drewN hbel nq⟩
      case measure => simp [intOf]; omega
    · go_wp2
      go_ret
      exact ⟨rfl, hbel⟩
end Go.Proofs.Ytagbffnabjngfaa
