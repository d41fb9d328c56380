/-
  SLICES OF STRINGS in memory, and CONTRACTS of the laws' helpers on them.
-/
import Derived.Test.YtbpjlhdhlcmajaaProg
import Derived.Test.YtbpjlhdhlcmajaaAid
import Derived.WalkSmall
import Derived.WalkSpells
import Derived.Deep.QuietTactic
import Derived.BigQuiet
import Derived.Deep.OwnRows
namespace Go.Proofs.Ytbpjlhdhlcmajaa
open Go.RowKit

/-- The value v is a slice whose elements are the strings xs. -/
def StrsAt (w : World) (v : Value) (xs : List ByteArray) : Prop :=
  ∃ (a : Option Addr) (cap : Nat), v = .slice a xs.length cap ∧ xs.length ≤ cap ∧ (xs = [] ∨ ∃ bk o, a = some ⟨bk, o, none⟩ ∧ bk < w.heap.size ∧ ∀ (j : Nat) x, xs[j]? = some x → w.cell? ⟨bk, o + j, none⟩ = some (.string x))
theorem StrsAt.below {w w' : World} {v : Value} {xs : List ByteArray} (h : StrsAt w v xs) (hb : Below w.heap.size w w') : StrsAt w' v xs := by
  obtain ⟨a, cap, hv, hc, h⟩ := h
  refine ⟨a, cap, hv, hc, ?_⟩
  rcases h with h | ⟨bk, o, ha, hk, h⟩
  · exact .inl h
  · exact .inr ⟨bk, o, ha, Nat.lt_of_lt_of_le hk hb.size, fun j x hx => (hb.cell (p := ⟨bk, o + j, none⟩) hk).trans (h j x hx)⟩

/-- What the size test tells. -/
def Small (xs : List ByteArray) (r : Int) : Prop := 0 ≤ r → xs.length ≤ 1048576 ∧ ∀ x ∈ xs, x.size ≤ 1048576

set_option maxHeartbeats 1000000 in
theorem sz_any (v : Value) (xs : List ByteArray) (w : World) (h : StrsAt w v xs) (hn : xs.length ≤ maxLen) (hx : ∀ x ∈ xs, x.size ≤ maxLen) :
    Calls Try.prog 21 #[v, .int .i64 1048576] w fun e w' => (∃ r : Int, Small xs r ∧ e = .returned (.int .i64 r)) ∧ w = w' := by
  unfold maxLen at hn hx
  obtain ⟨a, cap, rfl, hcap, h⟩ := h
  have HX := Lib.hid hx
  obtain ⟨n, hnn⟩ : ∃ n, n = xs.length := ⟨_, rfl⟩
  rw [← hnn] at hn hcap ⊢
  have HN := Lib.hid hnn
  clear hnn hx
  by_cases hbig : 1048576 < n
  · clear h
    go_enter Try.func21, Try.ntmps21
    go_wp2
    go_ret
    exact ⟨⟨_, fun h0 => by omega, rfl⟩, rfl⟩
  · have HC : Hid (0 < n → ∃ bk o, a = some ⟨bk, o, none⟩ ∧ ∀ (j : Nat) x, xs[j]? = some x → w.cell? ⟨bk, o + j, none⟩ = some (.string x)) := by
      intro h0
      rcases h with rfl | ⟨bk, o, ha, _, h⟩
      · have := HN.out; simp at this; omega
      · exact ⟨bk, o, ha, h⟩
    clear h
    have hloop : ∀ (a : Option Addr), (0 < n → ∃ bk o, a = some ⟨bk, o, none⟩ ∧ ∀ (j : Nat) x, xs[j]? = some x → w.cell? ⟨bk, o + j, none⟩ = some (.string x)) →
        Calls Try.prog 21 #[.slice a n cap, .int .i64 1048576] w fun e w' => (∃ r : Int, Small xs r ∧ e = .returned (.int .i64 r)) ∧ w = w' := by
      intro a hC
      have HC := Lib.hid hC
      clear hC
      go_enter Try.func21, Try.ntmps21
      go_wp2
      go_loop [1, 5] (fun l i => ∃ (k : Nat) (L : Int), k ≤ n ∧ i = .int .i64 k ∧ l = .int .i64 L ∧ 0 ≤ L ∧ L ≤ 1048576 ∧ Hid (∀ x ∈ xs.take k, x.size ≤ 1048576)) (fun _ i => n - (intOf i).toNat)
      case atStart => exact ⟨0, _, Nat.zero_le _, rfl, rfl, by omega, by omega, fun x hx => by simp at hx⟩
      case round =>
        obtain ⟨k, L, hk, rfl, rfl, hL0, hL1, HA⟩ := hrel
        by_cases hlt : k < n
        · obtain ⟨bk, o, rfl, hc⟩ := HC.out (by omega)
          obtain ⟨x, hx⟩ : ∃ x, xs[k]? = some x := ⟨_, List.getElem?_eq_getElem (by rw [← HN.out]; exact hlt)⟩
          have hsx := HX.out x (List.mem_of_getElem? hx)
          have hck := hc k x hx
          have HXK := Lib.hid hx
          clear hx hc
          by_cases hlong : L - x.size < 0
          · go_wp2
            go_ret
            exact ⟨⟨-1, fun h0 => by omega, rfl⟩, rfl⟩
          · have HA' : Hid (∀ x ∈ xs.take (k + 1), x.size ≤ 1048576) := by
              intro y hy
              rw [List.take_add_one, HXK.out, List.mem_append] at hy
              rcases hy with hy | hy
              · exact HA.out y hy
              · simp at hy; subst hy; omega
            go_wp2
            go_round
            case rel => exact ⟨k + 1, L - x.size, by omega, by go_num, rfl, by omega, by omega, HA'⟩
            case measure => simp [intOf]; omega
        · have HS : Hid (Small xs L) := by
            intro _
            have h1 := HA.out
            rw [List.take_of_length_le (by rw [← HN.out]; omega)] at h1
            exact ⟨by rw [← HN.out]; omega, h1⟩
          go_wp2
          go_ret
          exact ⟨⟨_, HS.out, rfl⟩, rfl⟩
    exact hloop a HC.out

theorem infoStr : (Try.prog.info? 9).map (fun i => (i.zero, i.size, i.bytes)) = some (some (.string ByteArray.empty), 1, 16) := by kernel_rfl
set_option maxHeartbeats 1000000 in
/-- The copy of a slice of strings: new memory with the same strings. -/
theorem to_any (v : Value) (xs : List ByteArray) (w : World) (h : StrsAt w v xs) (hn : xs.length ≤ 1048576) :
    Calls Try.prog 22 #[v] w fun e w' => ∃ u, e = .returned u ∧ StrsAt w' u xs ∧ Below w.heap.size w w' := by
  obtain ⟨a, cap, rfl, hcap, h⟩ := h
  obtain ⟨n, hnn⟩ : ∃ n, n = xs.length := ⟨_, rfl⟩
  rw [← hnn] at hn hcap ⊢
  have HN := Lib.hid hnn
  have HC : Hid (0 < n → ∃ bk o, a = some ⟨bk, o, none⟩ ∧ bk < w.heap.size ∧ ∀ (j : Nat) x, xs[j]? = some x → w.cell? ⟨bk, o + j, none⟩ = some (.string x)) := by
    intro h0
    rcases h with rfl | ⟨bk, o, ha, hk, h⟩
    · simp at hnn; omega
    · exact ⟨bk, o, ha, hk, h⟩
  clear h hnn
  have hmk := run_make_row' (P := Try.prog) 26 9 (.string ByteArray.empty) 16 Try.underlying26 infoStr rfl .i64 .i64 n (by omega) (by omega)
  have HB : Hid (∀ w1 : World, Below w.heap.size w w1 → ∀ (j : Nat) x, 0 < n → xs[j]? = some x → ∃ bk o, a = some ⟨bk, o, none⟩ ∧ bk < w.heap.size ∧ w1.cell? ⟨bk, o + j, none⟩ = some (.string x)) := by
    intro w1 hb j x h0 hx
    obtain ⟨bk, o, ha, hk, h⟩ := HC.out h0
    exact ⟨bk, o, ha, hk, (hb.cell (p := ⟨bk, o + j, none⟩) hk).trans (h j x hx)⟩
  go_enter Try.func22, Try.ntmps22
  go_wp2
  clear hmk
  obtain ⟨B, hB⟩ : ∃ B, B = w.heap.size := ⟨_, rfl⟩
  have hrow0 := World.rowIs_made w (.string ByteArray.empty) n 9
  have hbel0 : Below w.heap.size w (w.alloc (.cells (madeCells #[.string ByteArray.empty] n) 9)) := (Below.refl _ _).alloc (Nat.le_refl _) _
  rw [← hB] at hrow0 ⊢
  have HBB := Lib.hid hB
  clear hB
  go_loopw [4] (fun i wr => ∃ k : Nat, k ≤ n ∧ i = .int .i64 k ∧ wr.rowIs B 9 n (fun j => if j < k then .string (xs.getD j ByteArray.empty) else .string ByteArray.empty) ∧ Below w.heap.size w wr) (fun i _ => n - (intOf i).toNat)
  case atStart => exact ⟨0, Nat.zero_le _, rfl, hrow0.congr (fun i _ => rfl), hbel0⟩
  case round =>
    obtain ⟨k, hk, rfl, hrow, hbel⟩ := hrel
    by_cases hlt : k < n
    · obtain ⟨x, hx⟩ : ∃ x, xs[k]? = some x := ⟨_, List.getElem?_eq_getElem (by rw [← HN.out]; exact hlt)⟩
      obtain ⟨bk, o, rfl, hbk, hck⟩ := HB.out wr hbel k x (by omega) hx
      have hcd := hrow.cell hlt
      have hfd := hrow.frozen k
      rw [if_neg (Nat.lt_irrefl k)] at hcd
      have HR : Hid ((wr.setCell ⟨B, k, none⟩ (.string x)).rowIs B 9 n (fun j => if j < k + 1 then .string (xs.getD j ByteArray.empty) else .string ByteArray.empty)) := by
        refine (hrow.set k (.string x)).congr fun j hj => ?_
        by_cases hjk : j = k
        · subst hjk; simp [List.getD, hx]
        · rw [if_neg hjk]
          by_cases hjl : j < k
          · rw [if_pos hjl, if_pos (by omega)]
          · rw [if_neg hjl, if_neg (by omega)]
      have HBl : Hid (Below w.heap.size w (wr.setCell ⟨B, k, none⟩ (.string x))) := hbel.setCell (by show w.heap.size ≤ B; rw [HBB.out]; exact Nat.le_refl _) _
      clear hx hrow hbel hbk
      go_wp2
      go_roundw
      case rel => exact ⟨k + 1, by omega, by go_num, HR.out, HBl.out⟩
      case measure => simp [intOf]; omega
    · obtain rfl : k = n := by omega
      have HS : Hid (StrsAt wr (.slice (some ⟨B, 0, none⟩) k k) xs) := by
        refine ⟨_, k, by rw [← HN.out], by rw [← HN.out]; exact Nat.le_refl _, .inr ⟨B, 0, rfl, hrow.lt, fun j x hx => ?_⟩⟩
        have hj : j < k := by
          rcases Nat.lt_or_ge j k with h' | h'
          · exact h'
          · rw [List.getElem?_eq_none (by rw [← HN.out]; exact h')] at hx; cases hx
        have := hrow.cell hj
        rw [if_pos hj] at this
        rw [Nat.zero_add, this]
        simp [List.getD, hx]
      clear hrow
      go_wp2
      go_ret
      exact ⟨_, rfl, HS.out, hbel⟩

set_option maxHeartbeats 1000000 in
/-- Two slices with the same strings are equal. -/
theorem eq_same (v u : Value) (xs : List ByteArray) (w : World) (hv : StrsAt w v xs) (hu : StrsAt w u xs) (hn : xs.length ≤ 2097152) :
    Calls Try.prog 18 #[v, u] w fun e w' => e = .returned (.bool true) ∧ Below w.heap.size w w' := by
  obtain ⟨a, cap, rfl, hcap, hv⟩ := hv
  obtain ⟨b, cap', rfl, hcap', hu⟩ := hu
  obtain ⟨n, hnn⟩ : ∃ n, n = xs.length := ⟨_, rfl⟩
  rw [← hnn] at hn hcap hcap' ⊢
  have HN := Lib.hid hnn
  have HV : Hid (∀ w1 : World, Below w.heap.size w w1 → ∀ (j : Nat) x, 0 < n → xs[j]? = some x → ∃ bk o, a = some ⟨bk, o, none⟩ ∧ w1.cell? ⟨bk, o + j, none⟩ = some (.string x)) := by
    intro w1 hb j x h0 hx
    rcases hv with rfl | ⟨bk, o, ha, hk, h⟩
    · simp at hnn; omega
    · exact ⟨bk, o, ha, (hb.cell (p := ⟨bk, o + j, none⟩) hk).trans (h j x hx)⟩
  have HU : Hid (∀ w1 : World, Below w.heap.size w w1 → ∀ (j : Nat) x, 0 < n → xs[j]? = some x → ∃ bk o, b = some ⟨bk, o, none⟩ ∧ w1.cell? ⟨bk, o + j, none⟩ = some (.string x)) := by
    intro w1 hb j x h0 hx
    rcases hu with rfl | ⟨bk, o, ha, hk, h⟩
    · simp at hnn; omega
    · exact ⟨bk, o, ha, (hb.cell (p := ⟨bk, o + j, none⟩) hk).trans (h j x hx)⟩
  have hnb : ((n : Int) != (n : Int)) = false := by simp
  clear hv hu hnn
  go_enter Try.func18, Try.ntmps18
  go_wp2
  go_loopw [5] (fun i wr => ∃ k : Nat, k ≤ n ∧ i = .int .i64 k ∧ Below w.heap.size w wr) (fun i _ => n - (intOf i).toNat)
  case atStart => exact ⟨0, Nat.zero_le _, rfl, Below.refl _ _⟩
  case round =>
    obtain ⟨k, hk, rfl, hbel⟩ := hrel
    by_cases hlt : k < n
    · obtain ⟨x, hx⟩ : ∃ x, xs[k]? = some x := ⟨_, List.getElem?_eq_getElem (by rw [← HN.out]; exact hlt)⟩
      obtain ⟨bk, o, rfl, hck⟩ := HV.out wr hbel k x (by omega) hx
      obtain ⟨bk', o', rfl, hck'⟩ := HU.out wr hbel k x (by omega) hx
      clear hx
      go_wp2
      go_quiet (fail)
      go_wp2
      go_roundw
      case rel => exact ⟨k + 1, by omega, by go_num, below_drewN hbel nq⟩
      case measure => simp [intOf]; omega
    · go_wp2
      go_ret
      exact ⟨rfl, hbel⟩
end Go.Proofs.Ytbpjlhdhlcmajaa
