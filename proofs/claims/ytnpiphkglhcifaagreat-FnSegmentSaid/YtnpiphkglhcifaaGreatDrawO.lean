/-
  CONTRACTS of the draws of chapter 4: few, outline, anyOutline, DrawParseOutline, DrawCompareOutlines, DrawHasPrefix, DrawConcatOutlines.
-/
import Derived.Test.YtnpiphkglhcifaaGreatDrawK
import Derived.Test.YtnpiphkglhcifaaGreatOut
namespace Go.Proofs.YtnpiphkglhcifaaGreat
set_option maxRecDepth 100000
open Go.RowKit

theorem grown_own {w w1 w2 : World} {B : Nat} {row : Option Nat} (h : w.grownBy w1 (some B)) (hg : w1.grownBy w2 row) (hr : ∀ k, row = some k → w.heap.size ≤ k) : w.grownBy w2 (some B) :=
  ⟨hg.os.trans h.os, hg.tape.trans h.tape, hg.output.trans h.output, Nat.le_trans h.size hg.size, fun k hk hne => (hg.block k (Nat.lt_of_lt_of_le hk h.size) (fun e => by have := hr k e.symm; omega)).trans (h.block k hk hne)⟩
theorem Cur.own {w1 w2 : World} {B N : Nat} {row : Option Nat} (h : Cur w1 B N) (hg : w1.grownBy w2 row) (hr : ∀ k, row = some k → B < k) : Cur w2 B N :=
  h.keep ((Below.refl _ _).grown hg h.lt (fun k hk => hr k hk))
theorem grown_alloc_to {w w' : World} {o : Obj} {row : Option Nat} (h : (w.alloc o).grownBy w' row) : w.grownBy w' row := Lib.grownBy_trans (World.grownBy_alloc w o row) h

theorem few_any (B N : Nat) (w : World) (h : Cur w B N) (hN : N ≤ 999000) :
    Calls Tryz.prog 42 #[.pointer (some ⟨B, 0, none⟩)] w fun e w' => Stroke e ∧ Cur w' B (N + 2) ∧ w.grownBy w' (some B) := by
  have hlt := h.lt
  have C : Hid (∀ w1 cs, w1 = w.alloc (.cells cs 3) → cs = ([524552, 260, 1048576, 262144].map (Value.int .i64)).toArray →
      Calls Tryz.prog 54 #[.pointer (some ⟨B, 0, none⟩), .slice (some ⟨w.heap.size, 0, none⟩) 4 4] w1 fun e w' => Stroke e ∧ Cur w' B (N + 2) ∧ w.grownBy w' (some B)) := by
    intro w1 cs hw hcs
    subst hw
    refine (among_any B N w.heap.size 4 4 _ _ (h.below ((Below.refl _ _).alloc (Nat.le_refl _) _)) hN (by omega) (by rw [World.size_alloc]; omega) rfl (by omega) (by omega) (alloc_ints w cs _ _ hcs)).mono ?_
    rintro e w' ⟨⟨x, hx, rfl⟩, hc, hg⟩
    refine ⟨?_, hc, grown_alloc_to hg⟩
    have hx2 : 0 ≤ x ∧ x < 8388608 := by
      simp only [List.mem_cons, List.not_mem_nil, or_false] at hx
      omega
    obtain ⟨n, rfl⟩ := Int.eq_ofNat_of_zero_le hx2.1
    exact ⟨n, by omega, rfl⟩
  clear h hN
  go_enter Tryz.func42, Tryz.ntmps42
  go_wp2_with fail
  refine (C.out _ _ rfl rfl).mono ?_
  rintro e w1 ⟨⟨x, hx, rfl⟩, hc1, hg1⟩
  have HC1 := Lib.hid hc1
  have HG1 := Lib.hid hg1
  clear hc1 hg1
  go_wp2
  go_ret
  exact ⟨⟨_, hx, rfl⟩, HC1.out, HG1.out⟩
set_option maxHeartbeats 2000000 in
theorem outline_any (B N : Nat) (w : World) (h : Cur w B N) (hN : N ≤ 900000) :
    Calls Tryz.prog 52 #[.pointer (some ⟨B, 0, none⟩)] w fun e w' => (∃ (v : Value) (xs : List Int), e = .returned v ∧ w'.ownsRow w.heap.size 3 1 v xs.length (xs.map (.int .i64)) ∧ xs.length ≤ 3 ∧ ∀ x ∈ xs, 0 ≤ x ∧ x < 8388608) ∧ Cur w' B (N + 50) ∧ w.grownBy w' (some B) := by
  obtain ⟨i0, hi, hz0, hz1, hz2⟩ := info_parts infoInt
  have CP := Lib.hid (fun N n w h hN h0 h1 => pick_any B N n w h hN h0 h1)
  have C1 := Lib.hid (fun N n w h hN h0 h1 => one_any B N n w h hN h0 h1)
  have CS := Lib.hid (fun N w h hN => stroke_any B N w h hN)
  have CF := Lib.hid (fun N w h hN => few_any B N w h hN)
  have hlt := h.lt
  have HC0 := Lib.hid (h.below ((Below.refl _ _).alloc (Nat.le_refl _) (.cells #[] 3)))
  have HO0 := Lib.hid (row_new w 3)
  clear h
  go_enter Tryz.func52, Tryz.ntmps52
  go_wp2_with fail
  refine (CP.out _ _ _ HC0.out (by omega) (by omega) (by omega)).mono ?_
  rintro e w1 ⟨⟨r, r0, r1, rfl⟩, hc1, hg1⟩
  obtain ⟨R, rfl⟩ := Int.eq_ofNat_of_zero_le r0
  have HC1 := Lib.hid hc1
  have HG1 := Lib.hid (grown_alloc_to hg1)
  have HO1 := Lib.hid (own_keepI HO0.out hg1 hlt)
  clear hc1 hg1
  go_wp2_with fail
  go_loopw [3, 4] (fun l i wr => ∃ (k : Nat) (xs : List Int), i = .int .i64 k ∧ k ≤ 3 ∧ xs.length + k ≤ 3 ∧ Hid (wr.ownsRow w.heap.size 3 1 l xs.length (xs.map (.int .i64))) ∧ Hid (∀ x ∈ xs, 0 ≤ x ∧ x < 8388608) ∧ Hid (Cur wr B (N + 50 - 15 * k)) ∧ Hid (w.grownBy wr (some B))) (fun _ i _ => (intOf i).toNat)
  case atStart => exact ⟨1 + R, [], by go_num, by omega, by simp; omega, HO1, Lib.hid (fun x hx => by simp at hx), HC1.out.mono (by omega), HG1⟩
  case round =>
    obtain ⟨k, xs, rfl, hk, hlen, HO, HV, HC, HG⟩ := hrel
    by_cases hpos : 0 < k
    · have hpos' : (0 : Int) < (k : Int) := by omega
      go_wp2_with fail
      refine (C1.out _ _ _ HC.out (by omega) (by omega) (by omega)).mono ?_
      rintro e w3 ⟨⟨b, rfl⟩, hc3, hg3⟩
      have HC3 := Lib.hid hc3
      have HG3 := Lib.hid (Lib.grownBy_trans HG.out hg3)
      have HO3 := Lib.hid (own_keepI HO.out hg3 hlt)
      clear hc3 hg3 HO
      cases b
      · go_wp2_with fail
        refine (CF.out _ _ HC3.out (by omega)).mono ?_
        rintro e w4 ⟨⟨m, hm, rfl⟩, hc4, hg4⟩
        have HC4 := Lib.hid hc4
        have HG4 := Lib.hid (Lib.grownBy_trans HG3.out hg4)
        have HO4 := Lib.hid (own_keepI HO3.out hg4 hlt)
        have hsz4 := HG4.out.size
        clear hc4 hg4
        go_wp2_with (at_builtin; refine push_int hi hz0 hz1 hz2 rfl _ _ rfl w.heap.size _ xs rfl HO4.out (m : Int) rfl hsz4 (by omega) ?_)
        intro v' w5 hown hg5 _
        have HO5 : Hid (w5.ownsRow w.heap.size 3 1 v' (xs ++ [(m : Int)]).length ((xs ++ [(m : Int)]).map (.int .i64))) := by
          show World.ownsRow _ _ _ _ _ _ _
          rw [List.length_append, List.map_append]; exact hown
        have HC5 := Lib.hid (HC4.out.own hg5 (fun j hj => by have := row_ge HO4.out hj; omega))
        have HG5 := Lib.hid (grown_own HG4.out hg5 (fun j hj => row_ge HO4.out hj))
        have HV5 : Hid (∀ x ∈ xs ++ [(m : Int)], 0 ≤ x ∧ x < 8388608) := by
          intro x hx
          rw [List.mem_append] at hx
          rcases hx with hx | hx
          · exact HV.out x hx
          · simp at hx; subst hx; omega
        clear hown hg5
        go_wp2
        go_roundw
        case rel => exact ⟨k - 1, xs ++ [(m : Int)], by first | go_num | (congr 1; omega), by omega, by rw [List.length_append]; simp; omega, HO5, HV5, HC5.out.mono (by omega), HG5⟩
        case measure => simp [intOf]; omega
      · go_wp2_with fail
        refine (CS.out _ _ HC3.out (by omega)).mono ?_
        rintro e w4 ⟨⟨m, hm, rfl⟩, hc4, hg4⟩
        have HC4 := Lib.hid hc4
        have HG4 := Lib.hid (Lib.grownBy_trans HG3.out hg4)
        have HO4 := Lib.hid (own_keepI HO3.out hg4 hlt)
        have hsz4 := HG4.out.size
        clear hc4 hg4
        go_wp2_with (at_builtin; refine push_int hi hz0 hz1 hz2 rfl _ _ rfl w.heap.size _ xs rfl HO4.out (m : Int) rfl hsz4 (by omega) ?_)
        intro v' w5 hown hg5 _
        have HO5 : Hid (w5.ownsRow w.heap.size 3 1 v' (xs ++ [(m : Int)]).length ((xs ++ [(m : Int)]).map (.int .i64))) := by
          show World.ownsRow _ _ _ _ _ _ _
          rw [List.length_append, List.map_append]; exact hown
        have HC5 := Lib.hid (HC4.out.own hg5 (fun j hj => by have := row_ge HO4.out hj; omega))
        have HG5 := Lib.hid (grown_own HG4.out hg5 (fun j hj => row_ge HO4.out hj))
        have HV5 : Hid (∀ x ∈ xs ++ [(m : Int)], 0 ≤ x ∧ x < 8388608) := by
          intro x hx
          rw [List.mem_append] at hx
          rcases hx with hx | hx
          · exact HV.out x hx
          · simp at hx; subst hx; omega
        clear hown hg5
        go_wp2
        go_roundw
        case rel => exact ⟨k - 1, xs ++ [(m : Int)], by first | go_num | (congr 1; omega), by omega, by rw [List.length_append]; simp; omega, HO5, HV5, HC5.out.mono (by omega), HG5⟩
        case measure => simp [intOf]; omega
    · obtain rfl : k = 0 := by omega
      go_wp2
      go_ret
      exact ⟨⟨_, xs, rfl, HO.out, by omega, HV.out⟩, HC.out.mono (by omega), HG.out⟩
/-- A drawn list of ints of its own. -/
def Drawn (base : Nat) (w' : World) (e : Ending) : Prop := ∃ (v : Value) (xs : List Int), e = .returned v ∧ w'.ownsRow base 3 1 v xs.length (xs.map (.int .i64)) ∧ xs.length ≤ 8
set_option maxHeartbeats 2000000 in
theorem anyOutline_any (B N : Nat) (w : World) (h : Cur w B N) (hN : N ≤ 800000) :
    Calls Tryz.prog 39 #[.pointer (some ⟨B, 0, none⟩)] w fun e w' => Drawn w.heap.size w' e ∧ Cur w' B (N + 100) ∧ w.grownBy w' (some B) := by
  obtain ⟨i0, hi, hz0, hz1, hz2⟩ := info_parts infoInt
  have CP := Lib.hid (fun N n w h hN h0 h1 => pick_any B N n w h hN h0 h1)
  have CF := Lib.hid (fun N w h hN => few_any B N w h hN)
  have CO := Lib.hid (fun N w h hN => outline_any B N w h hN)
  have CA := Lib.hid (fun N w h hN => anyStroke_any B N w h hN)
  have hlt := h.lt
  have HC0 := Lib.hid h
  clear h
  go_enter Tryz.func39, Tryz.ntmps39
  go_wp2_with fail
  refine (CP.out _ _ _ HC0.out (by omega) (by omega) (by omega)).mono ?_
  rintro e w1 ⟨⟨r, r0, r1, rfl⟩, hc1, hg1⟩
  have HC1 := Lib.hid hc1
  have HG1 := Lib.hid hg1
  have hsz1 := hg1.size
  clear hc1 hg1
  by_cases hr0 : r = 0
  · subst hr0
    go_wp2
    go_ret
    refine ⟨⟨_, [], rfl, ?_, by simp⟩, (HC1.out.below ((Below.refl _ _).alloc (Nat.le_refl _) _)).mono (by omega), grown_own HG1.out (World.grownBy_alloc _ _ none) (by simp)⟩
    have e := row_new w1 3
    exact ⟨e.1, e.2.imp id fun ⟨g, c, cur, hv, hb, rest⟩ => ⟨g, c, cur, hv, by omega, rest⟩⟩
  · have e0 : (r == 0) = false := by rw [beq_eq_false_iff_ne]; exact hr0
    by_cases hr1 : r = 1
    · subst hr1
      have HO1 : Hid ((w1.alloc (.cells #[] 3)).ownsRow w.heap.size 3 1 (.slice (some ⟨w1.heap.size, 0, none⟩) 0 0) 0 []) := by
        have e := row_new w1 3
        exact ⟨e.1, e.2.imp id fun ⟨g, c, cur, hv, hb, rest⟩ => ⟨g, c, cur, hv, by omega, rest⟩⟩
      have HC2 := Lib.hid (HC1.out.below ((Below.refl _ _).alloc (Nat.le_refl _) (.cells #[] 3)))
      have HG2 : Hid (w.grownBy (w1.alloc (.cells #[] 3)) (some B)) := grown_own HG1.out (World.grownBy_alloc _ _ none) (by simp)
      go_wp2_with fail
      refine (CP.out _ _ _ HC2.out (by omega) (by omega) (by omega)).mono ?_
      rintro e w3 ⟨⟨q, q0, q1, rfl⟩, hc3, hg3⟩
      obtain ⟨R, rfl⟩ := Int.eq_ofNat_of_zero_le q0
      have HC3 := Lib.hid hc3
      have HG3 := Lib.hid (Lib.grownBy_trans HG2.out hg3)
      have HO3 := Lib.hid (own_keepI HO1.out hg3 hlt)
      clear hc3 hg3
      go_wp2_with fail
      go_loopw [3, 4] (fun l i wr => ∃ (k : Nat) (xs : List Int), i = .int .i64 k ∧ k ≤ 7 ∧ xs.length + k ≤ 7 ∧ Hid (wr.ownsRow w.heap.size 3 1 l xs.length (xs.map (.int .i64))) ∧ Hid (Cur wr B (N + 100 - 3 * k)) ∧ Hid (w.grownBy wr (some B))) (fun _ i _ => (intOf i).toNat)
      case atStart => exact ⟨6 + R, [], by go_num, by omega, by simp; omega, HO3, HC3.out.mono (by omega), HG3⟩
      case round =>
        obtain ⟨k, xs, rfl, hk, hlen, HO, HC, HG⟩ := hrel
        by_cases hpos : 0 < k
        · have hpos' : (0 : Int) < (k : Int) := by omega
          go_wp2_with fail
          refine (CF.out _ _ HC.out (by omega)).mono ?_
          rintro e w4 ⟨⟨m, hm, rfl⟩, hc4, hg4⟩
          have HC4 := Lib.hid hc4
          have HG4 := Lib.hid (Lib.grownBy_trans HG.out hg4)
          have HO4 := Lib.hid (own_keepI HO.out hg4 hlt)
          have hsz4 := HG4.out.size
          clear hc4 hg4
          go_wp2_with (at_builtin; refine push_int hi hz0 hz1 hz2 rfl _ _ rfl w.heap.size _ xs rfl HO4.out (m : Int) rfl hsz4 (by omega) ?_)
          intro v' w5 hown hg5 _
          have HO5 : Hid (w5.ownsRow w.heap.size 3 1 v' (xs ++ [(m : Int)]).length ((xs ++ [(m : Int)]).map (.int .i64))) := by
            show World.ownsRow _ _ _ _ _ _ _
            rw [List.length_append, List.map_append]; exact hown
          have HC5 := Lib.hid (HC4.out.own hg5 (fun j hj => by have := row_ge HO4.out hj; omega))
          have HG5 := Lib.hid (grown_own HG4.out hg5 (fun j hj => row_ge HO4.out hj))
          clear hown hg5
          go_wp2
          go_roundw
          case rel => exact ⟨k - 1, xs ++ [(m : Int)], by first | go_num | (congr 1; omega), by omega, by rw [List.length_append]; simp; omega, HO5, HC5.out.mono (by omega), HG5⟩
          case measure => simp [intOf]; omega
        · obtain rfl : k = 0 := by omega
          go_wp2
          go_ret
          exact ⟨⟨_, xs, rfl, HO.out, by omega⟩, HC.out.mono (by omega), HG.out⟩
    · have e1 : (r == 1) = false := by rw [beq_eq_false_iff_ne]; exact hr1
      by_cases hr2 : r = 2
      · subst hr2
        go_wp2_with fail
        refine (CO.out _ _ HC1.out (by omega)).mono ?_
        rintro e w3 ⟨⟨v, xs, rfl, ho3, hl3, _⟩, hc3, hg3⟩
        have HC3 := Lib.hid hc3
        have HG3 := Lib.hid (Lib.grownBy_trans HG1.out hg3)
        have HO3 : Hid (w3.ownsRow w.heap.size 3 1 v xs.length (xs.map (.int .i64))) := ⟨ho3.1, ho3.2.imp id fun ⟨g, c, cur, hv, hb, rest⟩ => ⟨g, c, cur, hv, by omega, rest⟩⟩
        clear hc3 hg3 ho3
        go_wp2_with fail
        refine (CA.out _ _ HC3.out (by omega)).mono ?_
        rintro e w4 ⟨⟨x, rfl⟩, hc4, hg4⟩
        have HC4 := Lib.hid hc4
        have HG4 := Lib.hid (Lib.grownBy_trans HG3.out hg4)
        have HO4 := Lib.hid (own_keepI HO3.out hg4 hlt)
        have hsz4 := HG4.out.size
        clear hc4 hg4
        go_wp2_with (at_builtin; refine push_int hi hz0 hz1 hz2 rfl _ _ rfl w.heap.size _ xs rfl HO4.out x rfl hsz4 (by omega) ?_)
        intro v' w5 hown hg5 _
        have HO5 : Hid (w5.ownsRow w.heap.size 3 1 v' (xs ++ [x]).length ((xs ++ [x]).map (.int .i64))) := by
          show World.ownsRow _ _ _ _ _ _ _
          rw [List.length_append, List.map_append]; exact hown
        have HC5 := Lib.hid (HC4.out.own hg5 (fun j hj => by have := row_ge HO4.out hj; omega))
        have HG5 := Lib.hid (grown_own HG4.out hg5 (fun j hj => row_ge HO4.out hj))
        clear hown hg5
        go_wp2
        go_ret
        exact ⟨⟨_, xs ++ [x], rfl, HO5.out, by rw [List.length_append]; simp; omega⟩, HC5.out.mono (by omega), HG5.out⟩
      · have e2 : (r == 2) = false := by rw [beq_eq_false_iff_ne]; exact hr2
        go_wp2_with fail
        refine (CO.out _ _ HC1.out (by omega)).mono ?_
        rintro e w3 ⟨⟨v, xs, rfl, ho3, hl3, _⟩, hc3, hg3⟩
        have HC3 := Lib.hid hc3
        have HG3 := Lib.hid (Lib.grownBy_trans HG1.out hg3)
        have HO3 : Hid (w3.ownsRow w.heap.size 3 1 v xs.length (xs.map (.int .i64))) := ⟨ho3.1, ho3.2.imp id fun ⟨g, c, cur, hv, hb, rest⟩ => ⟨g, c, cur, hv, by omega, rest⟩⟩
        clear hc3 hg3 ho3
        go_wp2
        go_ret
        exact ⟨⟨_, xs, rfl, HO3.out, by omega⟩, HC3.out.mono (by omega), HG3.out⟩
/-- Two drawn lists of ints. -/
def Pair (w' : World) (e : Ending) : Prop := ∃ (v u : Value) (xs ys : List Int), e = .returned (.tuple #[v, u]) ∧ IntsM w' v xs ∧ IntsM w' u ys ∧ xs.length ≤ 8 ∧ ys.length ≤ 8
end Go.Proofs.YtnpiphkglhcifaaGreat
