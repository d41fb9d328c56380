/-
  CONTRACTS of the draws of chapter 9.
-/
import Derived.Test.YtagbffnabjngfaaSplit9
namespace Go.Proofs.Ytagbffnabjngfaa
set_option maxRecDepth 100000
open Go.RowKit

/-- A text of at most 40 bytes, as an answer. -/
def T9 (e : Ending) : Prop := ∃ x : ByteArray, x.size ≤ 40 ∧ e = .returned (.string x)
theorem grown_alloc9 {w w' : World} {o : Obj} {row : Option Nat} (h : (w.alloc o).grownBy w' row) : w.grownBy w' row := Lib.grownBy_trans (World.grownBy_alloc w o row) h
/-- A text drawn from a new list of short texts. -/
theorem of_new9 (B N : Nat) (wx : World) (cs : Array Value) (n : Nat) (hcu : Cur wx B N) (hN : N ≤ 999000) (hall : cs.all sm9 = true) (hn : cs.size = n) (h1 : 1 ≤ n) (h2 : n ≤ 60000) :
    Calls Try.prog 47 #[.pointer (some ⟨B, 0, none⟩), .slice (some ⟨wx.heap.size, 0, none⟩) n n] (wx.alloc (.cells cs 9)) fun e w' => T9 e ∧ Cur w' B (N + 2) ∧ wx.grownBy w' (some B) := by
  have hlt := hcu.lt
  obtain ⟨hcs, hsm⟩ := cells9 hall
  refine (of_any B N wx.heap.size n n (cs.toList.map so9) _ (hcu.below ((Below.refl _ _).alloc (Nat.le_refl _) _)) hN (by omega) (by rw [World.size_alloc]; omega) (by rw [List.length_map, Array.length_toList]; exact hn) h1 h2 (alloc_strs wx cs _ _ hcs)).mono ?_
  rintro e w' ⟨⟨x, hx, rfl⟩, hc, hg⟩
  exact ⟨⟨x, hsm x hx, rfl⟩, hc, grown_alloc9 hg⟩
theorem plainWord_any (B N : Nat) (w : World) (h : Cur w B N) (hN : N ≤ 999000) :
    Calls Try.prog 48 #[.pointer (some ⟨B, 0, none⟩)] w fun e w' => T9 e ∧ Cur w' B (N + 2) ∧ w.grownBy w' (some B) := by
  have HC := Lib.hid h
  clear h
  go_enter Try.func48, Try.ntmps48
  go_wp2_with fail
  refine (of_new9 B N w _ 29 HC.out hN (by kernel_rfl) rfl (by omega) (by omega)).mono ?_
  rintro e w1 ⟨⟨x, hx, rfl⟩, hc1, hg1⟩
  have HC1 := Lib.hid hc1
  have HG1 := Lib.hid hg1
  clear hc1 hg1
  go_wp2
  go_ret
  exact ⟨⟨_, hx, rfl⟩, HC1.out, HG1.out⟩
theorem ending_any (B N : Nat) (w : World) (h : Cur w B N) (hN : N ≤ 999000) :
    Calls Try.prog 30 #[.pointer (some ⟨B, 0, none⟩)] w fun e w' => T9 e ∧ Cur w' B (N + 2) ∧ w.grownBy w' (some B) := by
  have HC := Lib.hid h
  clear h
  go_enter Try.func30, Try.ntmps30
  go_wp2_with fail
  refine (of_new9 B N w _ 11 HC.out hN (by kernel_rfl) rfl (by omega) (by omega)).mono ?_
  rintro e w1 ⟨⟨x, hx, rfl⟩, hc1, hg1⟩
  have HC1 := Lib.hid hc1
  have HG1 := Lib.hid hg1
  clear hc1 hg1
  go_wp2
  go_ret
  exact ⟨⟨_, hx, rfl⟩, HC1.out, HG1.out⟩
theorem anyWord_any (B N : Nat) (w : World) (h : Cur w B N) (hN : N ≤ 990000) :
    Calls Try.prog 29 #[.pointer (some ⟨B, 0, none⟩)] w fun e w' => T9 e ∧ Cur w' B (N + 4) ∧ w.grownBy w' (some B) := by
  have HC := Lib.hid h
  have C1 := Lib.hid (fun w N h hN => one_any B N 12 w h hN (by omega) (by omega))
  have CP := Lib.hid (fun w N h hN => plainWord_any B N w h hN)
  clear h
  go_enter Try.func29, Try.ntmps29
  go_wp2_with fail
  refine (C1.out _ _ HC.out (by omega)).mono ?_
  rintro e w1 ⟨⟨b, rfl⟩, hc1, hg1⟩
  have HC1 := Lib.hid hc1
  have HG1 := Lib.hid hg1
  clear hc1 hg1
  cases b
  · go_wp2_with fail
    refine (CP.out _ _ HC1.out (by omega)).mono ?_
    rintro e w2 ⟨⟨x, hx, rfl⟩, hc2, hg2⟩
    have HC2 := Lib.hid hc2
    have HG2 := Lib.hid (Lib.grownBy_trans HG1.out hg2)
    clear hc2 hg2
    go_wp2
    go_ret
    exact ⟨⟨_, hx, rfl⟩, HC2.out, HG2.out⟩
  · go_wp2_with fail
    refine (of_new9 B (N + 2) w1 _ 7 HC1.out (by omega) (by kernel_rfl) rfl (by omega) (by omega)).mono ?_
    rintro e w2 ⟨⟨x, hx, rfl⟩, hc2, hg2⟩
    have HC2 := Lib.hid hc2
    have HG2 := Lib.hid (Lib.grownBy_trans HG1.out hg2)
    clear hc2 hg2
    go_wp2
    go_ret
    exact ⟨⟨_, hx, rfl⟩, HC2.out, HG2.out⟩
theorem drawIsWord_any (a : Option Addr) (n cap : Nat) (w : World) (h : CodeAt w a n) :
    Calls Try.prog 44 #[.slice a n cap] w fun e w' => T9 e ∧ Below w.heap.size w w' := by
  have CA := Lib.hid (fun B w N h hN => anyWord_any B N w h hN)
  have HC0 := Lib.hid (cur_new w a n cap 42 h)
  have HB0 : Hid (Below w.heap.size w (w.alloc (.cells #[.slice a n cap, .int .i64 0, .int .u64 0] 42))) := (Below.refl _ _).alloc (Nat.le_refl _) _
  clear h
  go_enter Try.func44, Try.ntmps44
  go_wp2_with fail
  refine (CA.out _ _ _ HC0.out (by omega)).mono ?_
  rintro e w1 ⟨⟨x, hx, rfl⟩, hc1, hg1⟩
  have HB1 := Lib.hid (below_cur HB0.out hg1)
  clear hc1 hg1
  go_wp2
  go_ret
  exact ⟨⟨_, hx, rfl⟩, HB1.out⟩
theorem drawVowelGroups_any (a : Option Addr) (n cap : Nat) (w : World) (h : CodeAt w a n) :
    Calls Try.prog 23 #[.slice a n cap] w fun e w' => T9 e ∧ Below w.heap.size w w' := by
  have C := Lib.hid (drawIsWord_any a n cap w h)
  clear h
  go_enter Try.func23, Try.ntmps23
  go_wp2_with fail
  refine C.out.mono ?_
  rintro e w1 ⟨⟨x, hx, rfl⟩, hb1⟩
  go_wp2
  go_ret
  exact ⟨⟨_, hx, rfl⟩, hb1⟩
/-- Two texts of at most 40 bytes, as an answer. -/
def P9 (e : Ending) : Prop := ∃ x y : ByteArray, x.size ≤ 40 ∧ y.size ≤ 40 ∧ e = .returned (.tuple #[.string x, .string y])
set_option maxHeartbeats 1000000 in
theorem drawSuffixRule_any (a : Option Addr) (n cap : Nat) (w : World) (h : CodeAt w a n) :
    Calls Try.prog 20 #[.slice a n cap] w fun e w' => P9 e ∧ Below w.heap.size w w' := by
  have CA := Lib.hid (fun B w N h hN => anyWord_any B N w h hN)
  have CE := Lib.hid (fun B w N h hN => ending_any B N w h hN)
  have C1 := Lib.hid (fun B N w h hN => one_any B N 8 w h hN (by omega) (by omega))
  have HC0 := Lib.hid (cur_new w a n cap 42 h)
  have HB0 : Hid (Below w.heap.size w (w.alloc (.cells #[.slice a n cap, .int .i64 0, .int .u64 0] 42))) := (Below.refl _ _).alloc (Nat.le_refl _) _
  clear h
  go_enter Try.func20, Try.ntmps20
  go_wp2_with fail
  refine (CA.out _ _ _ HC0.out (by omega)).mono ?_
  rintro e w1 ⟨⟨x, hx, rfl⟩, hc1, hg1⟩
  have HC1 := Lib.hid hc1
  have HB1 := Lib.hid (below_cur HB0.out hg1)
  clear hc1 hg1
  go_wp2_with fail
  refine (C1.out _ _ _ HC1.out (by omega)).mono ?_
  rintro e w2 ⟨⟨b, rfl⟩, hc2, hg2⟩
  have HC2 := Lib.hid hc2
  have HB2 := Lib.hid (below_cur HB1.out hg2)
  clear hc2 hg2
  cases b
  · go_wp2_with fail
    refine (CE.out _ _ _ HC2.out (by omega)).mono ?_
    rintro e w3 ⟨⟨y, hy, rfl⟩, hc3, hg3⟩
    have HB3 := Lib.hid (below_cur HB2.out hg3)
    clear hc3 hg3
    go_wp2
    go_ret2
    exact ⟨⟨_, _, hx, hy, rfl⟩, HB3.out⟩
  · go_wp2_with fail
    refine (CA.out _ _ _ HC2.out (by omega)).mono ?_
    rintro e w3 ⟨⟨y, hy, rfl⟩, hc3, hg3⟩
    have HB3 := Lib.hid (below_cur HB2.out hg3)
    clear hc3 hg3
    go_wp2
    go_ret2
    exact ⟨⟨_, _, hx, hy, rfl⟩, HB3.out⟩
theorem drawJoinSuffix_any (a : Option Addr) (n cap : Nat) (w : World) (h : CodeAt w a n) :
    Calls Try.prog 18 #[.slice a n cap] w fun e w' => P9 e ∧ Below w.heap.size w w' := by
  have C := Lib.hid (drawSuffixRule_any a n cap w h)
  clear h
  go_enter Try.func18, Try.ntmps18
  go_wp2_with fail
  refine C.out.mono ?_
  rintro e w1 ⟨⟨x, y, hx, hy, rfl⟩, hb1⟩
  go_wp2
  go_ret2
  exact ⟨⟨_, _, hx, hy, rfl⟩, hb1⟩
set_option maxHeartbeats 1000000 in
theorem drawSplitSuffix_any (a : Option Addr) (n cap : Nat) (w : World) (h : CodeAt w a n) :
    Calls Try.prog 11 #[.slice a n cap] w fun e w' => P9 e ∧ Below w.heap.size w w' := by
  have CA := Lib.hid (fun B w N h hN => anyWord_any B N w h hN)
  have CE := Lib.hid (fun B w N h hN => ending_any B N w h hN)
  have C1 := Lib.hid (fun B N w h hN => one_any B N 5 w h hN (by omega) (by omega))
  have CJ := Lib.hid (fun s f w hs hf => specJoinSuffix_any s f w hs hf)
  have HC0 := Lib.hid (cur_new w a n cap 42 h)
  have HB0 : Hid (Below w.heap.size w (w.alloc (.cells #[.slice a n cap, .int .i64 0, .int .u64 0] 42))) := (Below.refl _ _).alloc (Nat.le_refl _) _
  clear h
  go_enter Try.func11, Try.ntmps11
  go_wp2_with fail
  refine (CA.out _ _ _ HC0.out (by omega)).mono ?_
  rintro e w1 ⟨⟨x, hx, rfl⟩, hc1, hg1⟩
  have HC1 := Lib.hid hc1
  have HB1 := Lib.hid (below_cur HB0.out hg1)
  clear hc1 hg1
  go_wp2_with fail
  refine (CE.out _ _ _ HC1.out (by omega)).mono ?_
  rintro e w2 ⟨⟨y, hy, rfl⟩, hc2, hg2⟩
  have HC2 := Lib.hid hc2
  have HB2 := Lib.hid (below_cur HB1.out hg2)
  clear hc2 hg2
  go_wp2_with fail
  refine (CJ.out _ _ _ (by omega) (by omega)).mono ?_
  rintro e w3 ⟨rfl, rfl⟩
  unfold joinE
  by_cases hj : (Pl.wordB x.data.toList && (Pl.wordB y.data.toList && decide ((joinB x y).size ≤ 24))) = true
  · rw [if_pos hj]
    obtain ⟨J, hJ⟩ : ∃ J, J = joinB x y := ⟨_, rfl⟩
    have hJ2 : J.size ≤ 40 := by
      rw [Bool.and_eq_true, Bool.and_eq_true, decide_eq_true_eq] at hj
      rw [hJ]; omega
    rw [← hJ]
    clear hj hJ
    go_wp2_with fail
    refine (C1.out _ _ _ HC2.out (by omega)).mono ?_
    rintro e w4 ⟨⟨b, rfl⟩, hc4, hg4⟩
    have HC4 := Lib.hid hc4
    have HB4 := Lib.hid (below_cur HB2.out hg4)
    clear hc4 hg4
    cases b
    · go_wp2
      go_ret2
      exact ⟨⟨_, _, hJ2, hy, rfl⟩, HB4.out⟩
    · go_wp2_with fail
      refine (CE.out _ _ _ HC4.out (by omega)).mono ?_
      rintro e w5 ⟨⟨z, hz, rfl⟩, hc5, hg5⟩
      have HB5 := Lib.hid (below_cur HB4.out hg5)
      clear hc5 hg5
      go_wp2
      go_ret2
      exact ⟨⟨_, _, hx, hz, rfl⟩, HB5.out⟩
  · rw [if_neg hj]
    clear hj
    go_wp2_with fail
    refine (CE.out _ _ _ HC2.out (by omega)).mono ?_
    rintro e w5 ⟨⟨z, hz, rfl⟩, hc5, hg5⟩
    have HB5 := Lib.hid (below_cur HB2.out hg5)
    clear hc5 hg5
    go_wp2
    go_ret2
    exact ⟨⟨_, _, hx, hz, rfl⟩, HB5.out⟩
end Go.Proofs.Ytagbffnabjngfaa
