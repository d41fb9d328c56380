/-
  CONTRACTS of KeysOf and NewStroke: the program's and the specification's.
-/
import Derived.Test.YtkhklidpighmpaaBits
import Derived.Test.YtkhklidpighmpaaInts
namespace Go.Proofs.Ytkhklidpighmpaa
set_option maxRecDepth 100000
open Go.RowKit

/-- The pressed keys as ints. -/
def keysI (n : Nat) : List Int := (Pl.keysL n).map Int.ofNat
theorem keysI_len (n : Nat) : (keysI n).length = Pl.card n := by unfold keysI Pl.card; rw [List.length_map]
theorem keys_row {w : World} {base : Nat} {v : Value} {n : Nat} (h : w.ownsRow base 3 1 v (Pl.keysIn n 0 23).length ((Pl.keysIn n 0 23).map fun j : Nat => Value.int .i64 j)) : w.ownsRow base 3 1 v (keysI n).length ((keysI n).map (.int .i64)) := by
  unfold keysI; rw [List.length_map, List.map_map]; exact h
theorem shl_i64 (k : Nat) (h : k < 23) : IntKind.i64.wrap (1 * 2 ^ k) = ((2 ^ k : Nat) : Int) := by
  rw [Int.one_mul]
  have h1 : 2 ^ k < 2 ^ 23 := Nat.pow_lt_pow_right (m := k) (n := 23) (by decide) h
  have e : (2 : Int) ^ k = ((2 ^ k : Nat) : Int) := by rw [Int.natCast_pow]; rfl
  rw [e]
  exact i64_small _ (by omega)
theorem shl_i64' (k : Nat) (h : k < 23) : IntKind.i64.wrap (2 ^ k) = ((2 ^ k : Nat) : Int) := by
  have := shl_i64 k h; rwa [Int.one_mul] at this
theorem pow_lt23 (k : Nat) (h : k < 23) : 2 ^ k < 8388608 := Nat.pow_lt_pow_right (a := 2) (m := k) (n := 23) (by decide) h
theorem or_i64s (a b : Nat) (ha : a < 8388608) (hb : b < 8388608) : bits .or .i64 (a : Int) (b : Int) = ((a ||| b : Nat) : Int) := or_i64 a b (by omega) (by omega)


set_option maxHeartbeats 1000000 in
theorem l2Keys_any (n : Nat) (h1 : n < 8388608) (w : World) :
    Calls Try.prog 72 #[.int .i64 n] w fun e w' => (∃ v, e = .returned v ∧ w'.ownsRow w.heap.size 3 1 v (keysI n).length ((keysI n).map (.int .i64))) ∧ Below w.heap.size w w' := by
  obtain ⟨i0, hi, hz0, hz1, hz2⟩ := info_parts infoInt
  go_enter Try.func72, Try.ntmps72
  go_wp2_with fail
  go_loopw [3, 4] (fun l i wr => ∃ k : Nat, i = .int .i64 k ∧ k ≤ 23 ∧ wr.ownsRow w.heap.size 3 1 l (Pl.keysIn n 0 k).length ((Pl.keysIn n 0 k).map fun j : Nat => Value.int .i64 j) ∧ Below w.heap.size w wr) (fun _ i _ => 23 - (intOf i).toNat)
  case atStart => exact ⟨0, rfl, by omega, row_new _ _, (Below.refl _ _).alloc (Nat.le_refl _) _⟩
  case round =>
    obtain ⟨k, rfl, hk, hown0, hbel⟩ := hrel
    have hsz := hbel.size
    have hlen := Pl.keysIn_len n 0 k
    have HSU := Lib.hid (Pl.keysIn_succ n 0 k (Nat.zero_le k))
    have HO0 := Lib.hid hown0
    clear hown0
    by_cases hlt : k < 23
    · have hbv := bit_i64 n k (by omega)
      cases hb : n.testBit k
      · have HK : Hid (Pl.keysIn n 0 (k + 1) = Pl.keysIn n 0 k) := by have := HSU.out; rw [hb] at this; simpa [Hid] using this
        have hq : (bits .and .i64 ((n : Int) / 2 ^ k) 1 == 1) = false := by rw [hbv, hb]; rfl
        clear hb HSU hbv
        go_wp2
        go_roundw
        case rel => exact ⟨k + 1, by go_num, by omega, by rw [HK.out]; exact HO0.out, hbel⟩
        case measure => simp [intOf]; omega
      · have HK : Hid (Pl.keysIn n 0 (k + 1) = Pl.keysIn n 0 k ++ [k]) := by have := HSU.out; rw [hb] at this; simpa [Hid] using this
        have hq : (bits .and .i64 ((n : Int) / 2 ^ k) 1 == 1) = true := by rw [hbv, hb]; rfl
        clear hb HSU hbv
        have hown := HO0.out
        go_wp2_with (at_builtin; refine wpList_append_own _ rfl _ _ 25 rfl w.heap.size 3 i0 (.int .i64 0) 1 8 Try.underlying25 hi hz0 hz1 hz2 rfl (by decide) _ _ _ rfl (hown.alloc _) ⟨wr.heap.size, 0, none⟩ 1 1 [.int .i64 k] rfl rfl ?c1 ?c2 ?c3 ?c4 ?c5 ?_)
        case c1 => exact cell_one_new _ _ _
        case c2 => intro y hy; simp at hy; subst hy; rfl
        case c3 => unfold maxLen; omega
        case c4 => omega
        case c5 => simp; omega
        intro v' w3 hown' hgrow _
        have HO : Hid (w3.ownsRow w.heap.size 3 1 v' (Pl.keysIn n 0 (k + 1)).length ((Pl.keysIn n 0 (k + 1)).map fun j : Nat => Value.int .i64 j)) := by
          rw [HK.out, List.length_append, List.map_append]; exact hown'
        have HW : Hid (Below w.heap.size w w3) := (hbel.alloc hsz _).grown hgrow (by simp; omega) fun j hj => row_ge hown hj
        clear hown hown' hgrow hbel
        go_wp2
        go_roundw
        case rel => exact ⟨k + 1, by go_num, by omega, HO.out, HW.out⟩
        case measure => simp [intOf]; omega
    · obtain rfl : k = 23 := by omega
      have HF := Lib.hid (keys_row HO0.out)
      clear HO0 HSU
      go_wp2
      go_ret
      exact ⟨⟨_, rfl, HF.out⟩, hbel⟩


/-! ### NewStroke -/
theorem newS_drop {xs : List Int} {k : Nat} {x : Int} (h : xs[k]? = some x) (s : Nat) :
    Pl.newS (xs.drop k) s = if 0 ≤ x ∧ x < 23 ∧ s.testBit x.toNat = false then Pl.newS (xs.drop (k + 1)) (s ||| 2 ^ x.toNat) else none := by
  obtain ⟨hk, hx⟩ := List.getElem?_eq_some_iff.1 h
  rw [List.drop_eq_getElem_cons hk, hx]; rfl
theorem okS_ne (s : Nat) (h : s < 8388608) : okS (s : Int) = (((s : Nat) : Int) != 0) := by
  rw [Bool.eq_iff_iff, okS_iff, bne_iff_ne]; omega
/-- What a stroke of keys answers. -/
def newE (xs : List Int) : Ending := .returned (.tuple #[.int .i64 (Pl.newK xs), .bool (((Pl.newK xs : Nat) : Int) != 0)])
theorem newE_none {xs : List Int} (h : Pl.newS xs 0 = none) : newE xs = .returned (.tuple #[.int .i64 0, .bool false]) := by
  have : Pl.newK xs = 0 := by unfold Pl.newK; rw [h]; rfl
  unfold newE; rw [this]; rfl
theorem newE_some {xs : List Int} {s : Nat} (h : Pl.newS xs 0 = some s) : newE xs = .returned (.tuple #[.int .i64 s, .bool ((s : Int) != 0)]) := by
  have : Pl.newK xs = s := by unfold Pl.newK; rw [h]; rfl
  unfold newE; rw [this]

end Go.Proofs.Ytkhklidpighmpaa
