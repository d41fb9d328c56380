/-
  CONTRACTS of splitting: the specification's l1Split.
-/
import Derived.Test.YtnpiphkglhcifaaGreatStrs
import Derived.Test.YtnpiphkglhcifaaGreatPlainSplit
import Derived.OwnWalk
namespace Go.Proofs.YtnpiphkglhcifaaGreat
set_option maxRecDepth 100000
open Go.RowKit

theorem ownsRow_at {w : World} {base : Nat} {v : Value} {xs : List ByteArray} (h : w.ownsRow base 9 1 v xs.length (xs.map .string)) : StrsAt w v xs := by
  rcases h.2 with ⟨rfl, h0⟩ | ⟨g, cap, cur, rfl, _, hg, hn, _, hsz, htake⟩
  · exact ⟨none, 0, by rw [h0], by omega, .inl (List.length_eq_zero_iff.1 h0)⟩
  · have hlt : g < w.heap.size := (Array.getElem?_eq_some_iff.1 hg).1
    refine ⟨_, cap, rfl, hn, .inr ⟨g, 0, rfl, hlt, fun j x hx => ?_⟩⟩
    have hj : j < xs.length := by
      rcases Nat.lt_or_ge j xs.length with h' | h'
      · exact h'
      · rw [List.getElem?_eq_none h'] at hx; cases hx
    have h1 : (cur.toList.take (xs.length * 1))[j]? = some (.string x) := by rw [htake, List.getElem?_map, hx]; rfl
    rw [List.getElem?_take_of_lt (by omega)] at h1
    simp only [Array.getElem?_toList] at h1
    simp [World.cell?, hg, h1]

theorem own_ge {w : World} {base : Nat} {e : TypeId} {size : Nat} {v : Value} {n : Nat} {xs : List Value} (h : w.ownsRow base e size v n xs) {j : Nat} (hj : v.ownBlock = some j) : base ≤ j := by
  rcases h.2 with ⟨rfl, _⟩ | ⟨g, cap, cur, rfl, hb, _⟩
  · simp [Value.ownBlock] at hj
  · have : g = j := by simpa [Value.ownBlock] using hj
    omega

theorem infoStr' : (Tryz.prog.info? 9).map (fun i => (i.zero, i.size, i.bytes)) = some (some (.string ByteArray.empty), 1, 16) := by kernel_rfl
set_option maxHeartbeats 1000000 in
theorem l1Split_any (s : ByteArray) (c : UInt8) (b : Int) (hb : (c.toNat : Int) = b) (w : World) (hs : s.size ≤ 4294967280) :
    Calls Tryz.prog 61 #[.string s, .int .u8 b] w fun e w' => ∃ u, e = .returned u ∧ w'.ownsRow w.heap.size 9 1 u (Pl.splitB s c).length ((Pl.splitB s c).map .string) ∧ Below w.heap.size w w' := by
  obtain ⟨i0, hi, hz0, hz1, hz2⟩ := info_parts infoStr'
  have HB := Lib.hid hb
  clear hb
  go_enter Tryz.func61, Tryz.ntmps61
  go_wp2_with fail
  go_loopw [5, 6, 7] (fun out f i wr => ∃ (k fN : Nat) (done : List ByteArray), i = .int .i64 k ∧ f = .int .i64 fN ∧ wr.ownsRow w.heap.size 9 1 out done.length (done.map .string) ∧ Hid (Pl.At s c fN k done) ∧ Below w.heap.size w wr ∧ k ≤ s.size ∧ fN ≤ k ∧ done.length ≤ k) (fun _ _ i _ => s.size - (intOf i).toNat)
  case atStart =>
    refine ⟨0, 0, [], rfl, rfl, ⟨rfl, .inr ⟨w.heap.size, 0, #[], rfl, Nat.le_refl _, by show (w.heap.push _)[w.heap.size]? = _; simp, Nat.le_refl _, by decide, rfl, rfl⟩⟩, Pl.At.start s c, (Below.refl _ _).alloc (Nat.le_refl _) _, Nat.zero_le _, Nat.le_refl _, Nat.le_refl _⟩
  case round =>
    obtain ⟨k, f, done, rfl, rfl, hown, HA, hbel, hk, hf, hd⟩ := hrel
    have hsz := hbel.size
    by_cases hlt : k < s.size
    · obtain ⟨x, hx⟩ : ∃ x : Int, (s[k].toNat : Int) = x := ⟨_, rfl⟩
      by_cases he : s[k] = c
      · have ht : (x == b) = true := by rw [← hx, ← HB.out, he]; exact beq_self_eq_true _
        have HA' := Lib.hid (HA.out.cut hlt he)
        clear he HA
        go_wp2_with (at_builtin; refine wpList_append_own _ rfl _ _ 67 rfl w.heap.size 9 i0 (.string ByteArray.empty) 1 16 Tryz.underlying67 hi hz0 hz1 hz2 rfl (by decide) _ _ _ rfl (hown.alloc _) ⟨wr.heap.size, 0, none⟩ 1 1 [.string (s.extract f k)] rfl rfl ?c1 ?c2 ?c3 ?c4 ?c5 ?_)
        case c1 => exact cell_one_new _ _ _
        case c2 => intro y hy; simp at hy; subst hy; rfl
        case c3 => unfold maxLen; omega
        case c4 => omega
        case c5 => simp; omega
        intro v' w1 hown' hgrow _
        have HO : Hid (w1.ownsRow w.heap.size 9 1 v' (done ++ [s.extract f k]).length ((done ++ [s.extract f k]).map .string)) := by
          rw [List.length_append, List.map_append]; exact hown'
        have HW : Hid (Below w.heap.size w w1) := by
          refine (hbel.alloc hsz _).grown hgrow (by simp; omega) fun j hj => ?_
          exact own_ge hown hj
        clear hown hown' hgrow hbel
        go_wp2
        go_roundw
        case rel => exact ⟨k + 1, k + 1, done ++ [s.extract f k], by go_num, by go_num, HO.out, HA', HW.out, by omega, by omega, by simp; omega⟩
        case measure => simp [intOf]; omega
      · have ht : (x == b) = false := by
          rw [← hx, ← HB.out, beq_eq_false_iff_ne]; intro h
          exact he (UInt8.toNat_inj.1 (by omega))
        have HA' := Lib.hid (HA.out.skip hlt he)
        have HO := Lib.hid hown
        clear he HA hown
        go_wp2
        go_roundw
        case rel => exact ⟨k + 1, f, done, by go_num, rfl, HO.out, HA', hbel, by omega, by omega, by omega⟩
        case measure => simp [intOf]; omega
    · obtain rfl : k = s.size := by omega
      have HF := Lib.hid HA.out.fin
      clear HA
      go_wp2_with (at_builtin; refine wpList_append_own _ rfl _ _ 67 rfl w.heap.size 9 i0 (.string ByteArray.empty) 1 16 Tryz.underlying67 hi hz0 hz1 hz2 rfl (by decide) _ _ _ rfl (hown.alloc _) ⟨wr.heap.size, 0, none⟩ 1 1 [.string (s.extract f s.size)] rfl rfl ?d1 ?d2 ?d3 ?d4 ?d5 ?_)
      case d1 => exact cell_one_new _ _ _
      case d2 => intro y hy; simp at hy; subst hy; rfl
      case d3 => unfold maxLen; omega
      case d4 => omega
      case d5 => simp; omega
      intro v' w1 hown' hgrow _
      have HO : Hid (w1.ownsRow w.heap.size 9 1 v' (done ++ [s.extract f s.size]).length ((done ++ [s.extract f s.size]).map .string)) := by
        rw [List.length_append, List.map_append]; exact hown'
      have HW : Hid (Below w.heap.size w w1) := (hbel.alloc hsz _).grown hgrow (by simp; omega) fun j hj => own_ge hown hj
      rw [← HF.out] at HO
      clear hown hown' hgrow hbel
      go_wp2
      go_ret
      exact ⟨_, rfl, HO.out, HW.out⟩
end Go.Proofs.YtnpiphkglhcifaaGreat
