/-
  THE DRAWS OF CHAPTER 10: a dictionary, folds and an outline.
-/
import Derived.Test.YthigdblloddepaaGreatProg
import Derived.Test.YthigdblloddepaaGreatAid
import Derived.Test.YthigdblloddepaaGreatDraw
import Derived.Test.YthigdblloddepaaGreatKeys
import Derived.Test.YthigdblloddepaaGreatOut
import Derived.Test.YthigdblloddepaaGreatAtRow
import Derived.Test.YthigdblloddepaaGreatTransB
import Derived.Test.YthigdblloddepaaGreatDictE
import Derived.Test.YthigdblloddepaaGreatPD
import Derived.Deep.Cut
import Derived.Deep.CutBlock
import Derived.Test.YthigdblloddepaaGreatFd
import Derived.Test.YthigdblloddepaaGreatG1FnFoldExpand
import Derived.Laws.AppendOwn
namespace Go.Proofs.YthigdblloddepaaGreat
set_option maxRecDepth 100000
open Go.RowKit
theorem big_no (a : Option Addr) (n cap : Nat) (w : World) (h : n ≤ 65536) :
    Calls Tryz.prog 6 #[.slice a n cap] w fun e w' => e = .returned (.bool false) ∧ w = w' := by
  go_enter Tryz.func6, Tryz.ntmps6
  go_wp2
  go_ret
  exact ⟨ret_bool (by simp; omega), rfl⟩
theorem big_yes (a : Option Addr) (n cap : Nat) (w : World) (h : 65536 < n) (_hn : n ≤ maxLen) :
    Calls Tryz.prog 6 #[.slice a n cap] w fun e w' => e = .returned (.bool true) ∧ w = w' := by
  go_enter Tryz.func6, Tryz.ntmps6
  go_wp2
  go_ret
  exact ⟨ret_bool (by simp; omega), rfl⟩
end Go.Proofs.YthigdblloddepaaGreat

namespace Go.Proofs.YthigdblloddepaaGreat
set_option maxRecDepth 100000
open Go.RowKit
/-- The call gives a text of at most m bytes. -/
def Text (m : Nat) (e : Ending) : Prop := ∃ x : ByteArray, x.size ≤ m ∧ e = .returned (.string x)
theorem ext_size (t : ByteArray) (i j : Nat) (h : j ≤ t.size) : (t.extract i j).size ≤ j - i := by rw [ByteArray.size_extract]; omega

/-- A stroke, as an answer. -/
def Stroke (e : Ending) : Prop := ∃ n : Nat, n < 8388608 ∧ e = .returned (.int .i64 n)
set_option maxHeartbeats 2000000 in
theorem stroke_any (B N : Nat) (w : World) (h : Cur w B N) (hN : N ≤ 990000) :
    Calls Tryz.prog 106 #[.pointer (some ⟨B, 0, none⟩)] w fun e w' => Stroke e ∧ Cur w' B (N + 12) ∧ w.grownBy w' (some B) := by
  have C1 := Lib.hid (fun N n w h hN h0 h1 => one_any B N n w h hN h0 h1)
  have CP := Lib.hid (fun N n w h hN h0 h1 => pick_any B N n w h hN h0 h1)
  have CA : Hid (∀ (wx w1 : World) N cs, Cur wx B N → N ≤ 999000 → w1 = wx.alloc (.cells cs 3) → cs = ([524552, 260, 1048576, 262144, 4194304, 514, 8, 2064, 2097152].map (Value.int .i64)).toArray →
      Calls Tryz.prog 105 #[.pointer (some ⟨B, 0, none⟩), .slice (some ⟨wx.heap.size, 0, none⟩) 9 9] w1 fun e w' => Stroke e ∧ Cur w' B (N + 2) ∧ wx.grownBy w' (some B)) := by
    intro wx w1 N cs hcu hN hw hcs
    subst hw
    have hlt := hcu.lt
    refine (among_any B N wx.heap.size 9 9 _ _ (hcu.below ((Below.refl _ _).alloc (Nat.le_refl _) _)) hN (by omega) (by rw [World.size_alloc]; omega) rfl (by omega) (by omega) (alloc_ints wx cs _ _ hcs)).mono ?_
    rintro e w' ⟨⟨x, hx, rfl⟩, hc, hg⟩
    refine ⟨?_, hc, Lib.grownBy_trans (World.grownBy_alloc wx _ (some B)) hg⟩
    have hx2 : 0 ≤ x ∧ x < 8388608 := by
      simp only [List.mem_cons, List.not_mem_nil, or_false] at hx
      omega
    obtain ⟨n, rfl⟩ := Int.eq_ofNat_of_zero_le hx2.1
    exact ⟨n, by omega, rfl⟩
  have HC0 := Lib.hid h
  clear h
  go_enter Tryz.func106, Tryz.ntmps106
  go_wp2_with fail
  refine (C1.out _ _ _ HC0.out (by omega) (by omega) (by omega)).mono ?_
  rintro e w1 ⟨⟨b, rfl⟩, hc1, hg1⟩
  have HC1 := Lib.hid hc1
  have HG1 := Lib.hid hg1
  clear hc1 hg1
  cases b
  · go_wp2_with fail
    refine (CP.out _ _ _ HC1.out (by omega) (by omega) (by omega)).mono ?_
    rintro e w2 ⟨⟨r, r0, r1, rfl⟩, hc2, hg2⟩
    obtain ⟨m, rfl⟩ := Int.eq_ofNat_of_zero_le r0
    have HC2 := Lib.hid hc2
    have HG2 := Lib.hid (Lib.grownBy_trans HG1.out hg2)
    clear hc2 hg2
    go_wp2_with fail
    go_loopw [3, 4] (fun s i wr => ∃ (k q : Nat), i = .int .i64 k ∧ s = .int .i64 q ∧ k ≤ 4 ∧ q < 8388608 ∧ Hid (Cur wr B (N + 12 - 2 * k)) ∧ Hid (w.grownBy wr (some B))) (fun _ i _ => (intOf i).toNat)
    case atStart => exact ⟨1 + m, 0, by go_num, rfl, by omega, by omega, HC2.out.mono (by omega), HG2⟩
    case round =>
      obtain ⟨k, q, rfl, rfl, hk, hq, HC, HG⟩ := hrel
      by_cases hpos : 0 < k
      · have hpos' : (0 : Int) < (k : Int) := by omega
        go_wp2_with fail
        refine (CP.out _ _ _ HC.out (by omega) (by omega) (by omega)).mono ?_
        rintro e w3 ⟨⟨r, r0, r1, rfl⟩, hc3, hg3⟩
        obtain ⟨d, rfl⟩ := Int.eq_ofNat_of_zero_le r0
        have hd : d < 23 := by omega
        have HC3 := Lib.hid hc3
        have HG3 := Lib.hid (Lib.grownBy_trans HG.out hg3)
        have hsh := shl_i64' d hd
        have hor := or_i64s q (2 ^ d) hq (pow_lt23 d hd)
        have hlt2 : q ||| 2 ^ d < 8388608 := Pl.or_lt q d hq hd
        obtain ⟨p, hp⟩ : ∃ p, p = 2 ^ d := ⟨_, rfl⟩
        rw [← hp] at hsh hor hlt2
        clear hc3 hg3 hp
        go_wp2
        go_roundw
        case rel => exact ⟨k - 1, q ||| p, by first | go_num | (congr 1; omega), rfl, by omega, hlt2, HC3.out.mono (by omega), HG3⟩
        case measure => simp [intOf]; omega
      · obtain rfl : k = 0 := by omega
        go_wp2
        go_ret
        exact ⟨⟨q, hq, rfl⟩, HC.out.mono (by omega), HG.out⟩
  · go_wp2_with fail
    refine (CA.out _ _ _ _ HC1.out (by omega) rfl rfl).mono ?_
    rintro e w2 ⟨⟨n, hn, rfl⟩, hc2, hg2⟩
    have HC2 := Lib.hid hc2
    have HG2 := Lib.hid (Lib.grownBy_trans HG1.out hg2)
    clear hc2 hg2
    go_wp2
    go_ret
    exact ⟨⟨n, hn, rfl⟩, HC2.out.mono (by omega), HG2.out⟩
theorem anyStroke_any (B N : Nat) (w : World) (h : Cur w B N) (hN : N ≤ 980000) :
    Calls Tryz.prog 77 #[.pointer (some ⟨B, 0, none⟩)] w fun e w' => (∃ x : Int, e = .returned (.int .i64 x)) ∧ Cur w' B (N + 14) ∧ w.grownBy w' (some B) := by
  have C1 := Lib.hid (fun N n w h hN h0 h1 => one_any B N n w h hN h0 h1)
  have CS := Lib.hid (fun N w h hN => stroke_any B N w h hN)
  have CA : Hid (∀ (wx w1 : World) N cs, Cur wx B N → N ≤ 999000 → w1 = wx.alloc (.cells cs 3) → cs = ([0, -1, 8388608, 8388607, 1, 1099511627776].map (Value.int .i64)).toArray →
      Calls Tryz.prog 105 #[.pointer (some ⟨B, 0, none⟩), .slice (some ⟨wx.heap.size, 0, none⟩) 6 6] w1 fun e w' => (∃ x : Int, e = .returned (.int .i64 x)) ∧ Cur w' B (N + 2) ∧ wx.grownBy w' (some B)) := by
    intro wx w1 N cs hcu hN hw hcs
    subst hw
    have hlt := hcu.lt
    refine (among_any B N wx.heap.size 6 6 _ _ (hcu.below ((Below.refl _ _).alloc (Nat.le_refl _) _)) hN (by omega) (by rw [World.size_alloc]; omega) rfl (by omega) (by omega) (alloc_ints wx cs _ _ hcs)).mono ?_
    rintro e w' ⟨⟨x, hx, rfl⟩, hc, hg⟩
    exact ⟨⟨x, rfl⟩, hc, Lib.grownBy_trans (World.grownBy_alloc wx _ (some B)) hg⟩
  have HC0 := Lib.hid h
  clear h
  go_enter Tryz.func77, Tryz.ntmps77
  go_wp2_with fail
  refine (C1.out _ _ _ HC0.out (by omega) (by omega) (by omega)).mono ?_
  rintro e w1 ⟨⟨b, rfl⟩, hc1, hg1⟩
  have HC1 := Lib.hid hc1
  have HG1 := Lib.hid hg1
  clear hc1 hg1
  cases b
  · go_wp2_with fail
    refine (CS.out _ _ HC1.out (by omega)).mono ?_
    rintro e w2 ⟨⟨n, hn, rfl⟩, hc2, hg2⟩
    have HC2 := Lib.hid hc2
    have HG2 := Lib.hid (Lib.grownBy_trans HG1.out hg2)
    clear hc2 hg2
    go_wp2
    go_ret
    exact ⟨⟨_, rfl⟩, HC2.out, HG2.out⟩
  · go_wp2_with fail
    refine (CA.out _ _ _ _ HC1.out (by omega) rfl rfl).mono ?_
    rintro e w2 ⟨⟨x, rfl⟩, hc2, hg2⟩
    have HC2 := Lib.hid hc2
    have HG2 := Lib.hid (Lib.grownBy_trans HG1.out hg2)
    clear hc2 hg2
    go_wp2
    go_ret
    exact ⟨⟨_, rfl⟩, HC2.out.mono (by omega), HG2.out⟩

theorem own_keepI {w w' : World} {base B : Nat} {v : Value} {n : Nat} {xs : List Value} (h : w.ownsRow base 3 1 v n xs) (hg : w.grownBy w' (some B)) (hB : B < base) : w'.ownsRow base 3 1 v n xs := by
  refine h.kept hg ?_
  rcases h.2 with ⟨rfl, _⟩ | ⟨g, cap, cur, rfl, hb, _⟩
  · exact .inl rfl
  · refine .inr fun e => ?_
    have : g = B := by simpa [Value.ownBlock] using e
    omega


end Go.Proofs.YthigdblloddepaaGreat

namespace Go.Proofs.YthigdblloddepaaGreat
set_option maxRecDepth 100000
open Go.RowKit

theorem grown_own {w w1 w2 : World} {B : Nat} {row : Option Nat} (h : w.grownBy w1 (some B)) (hg : w1.grownBy w2 row) (hr : ∀ k, row = some k → w.heap.size ≤ k) : w.grownBy w2 (some B) :=
  ⟨hg.os.trans h.os, hg.tape.trans h.tape, hg.output.trans h.output, Nat.le_trans h.size hg.size, fun k hk hne => (hg.block k (Nat.lt_of_lt_of_le hk h.size) (fun e => by have := hr k e.symm; omega)).trans (h.block k hk hne)⟩
theorem Cur.own {w1 w2 : World} {B N : Nat} {row : Option Nat} (h : Cur w1 B N) (hg : w1.grownBy w2 row) (hr : ∀ k, row = some k → B < k) : Cur w2 B N :=
  h.keep ((Below.refl _ _).grown hg h.lt (fun k hk => hr k hk))
theorem grown_alloc_to {w w' : World} {o : Obj} {row : Option Nat} (h : (w.alloc o).grownBy w' row) : w.grownBy w' row := Lib.grownBy_trans (World.grownBy_alloc w o row) h

theorem few_any (B N : Nat) (w : World) (h : Cur w B N) (hN : N ≤ 999000) :
    Calls Tryz.prog 78 #[.pointer (some ⟨B, 0, none⟩)] w fun e w' => Stroke e ∧ Cur w' B (N + 2) ∧ w.grownBy w' (some B) := by
  have hlt := h.lt
  have C : Hid (∀ w1 cs, w1 = w.alloc (.cells cs 3) → cs = ([524552, 260, 1048576, 262144].map (Value.int .i64)).toArray →
      Calls Tryz.prog 105 #[.pointer (some ⟨B, 0, none⟩), .slice (some ⟨w.heap.size, 0, none⟩) 4 4] w1 fun e w' => Stroke e ∧ Cur w' B (N + 2) ∧ w.grownBy w' (some B)) := by
    intro w1 cs hw hcs
    subst hw
    refine (among_any B N w.heap.size 4 4 _ _ (h.below ((Below.refl _ _).alloc (Nat.le_refl _) _)) hN (by omega) (by rw [World.size_alloc]; omega) rfl (by omega) (by omega) (alloc_ints w cs _ _ hcs)).mono ?_
    rintro e w' ⟨⟨x, hx, rfl⟩, hc, hg⟩
    refine ⟨?_, hc, grown_alloc_to hg⟩
    have hx2 : 0 ≤ x ∧ x < 8388608 := by
      simp only [List.mem_cons, List.not_mem_nil, or_false] at hx
      omega
    obtain ⟨n, rfl⟩ := Int.eq_ofNat_of_zero_le hx2.1
    exact ⟨n, by omega, rfl⟩
  clear h hN
  go_enter Tryz.func78, Tryz.ntmps78
  go_wp2_with fail
  refine (C.out _ _ rfl rfl).mono ?_
  rintro e w1 ⟨⟨x, hx, rfl⟩, hc1, hg1⟩
  have HC1 := Lib.hid hc1
  have HG1 := Lib.hid hg1
  clear hc1 hg1
  go_wp2
  go_ret
  exact ⟨⟨_, hx, rfl⟩, HC1.out, HG1.out⟩
set_option maxHeartbeats 2000000 in
theorem outline_any (B N : Nat) (w : World) (h : Cur w B N) (hN : N ≤ 900000) :
    Calls Tryz.prog 104 #[.pointer (some ⟨B, 0, none⟩)] w fun e w' => (∃ (v : Value) (xs : List Int), e = .returned v ∧ w'.ownsRow w.heap.size 3 1 v xs.length (xs.map (.int .i64)) ∧ xs.length ≤ 3 ∧ ∀ x ∈ xs, 0 ≤ x ∧ x < 8388608) ∧ Cur w' B (N + 50) ∧ w.grownBy w' (some B) := by
  obtain ⟨i0, hi, hz0, hz1, hz2⟩ := info_parts infoInt
  have CP := Lib.hid (fun N n w h hN h0 h1 => pick_any B N n w h hN h0 h1)
  have C1 := Lib.hid (fun N n w h hN h0 h1 => one_any B N n w h hN h0 h1)
  have CS := Lib.hid (fun N w h hN => stroke_any B N w h hN)
  have CF := Lib.hid (fun N w h hN => few_any B N w h hN)
  have hlt := h.lt
  have HC0 := Lib.hid (h.below ((Below.refl _ _).alloc (Nat.le_refl _) (.cells #[] 3)))
  have HO0 := Lib.hid (row_new w 3)
  clear h
  go_enter Tryz.func104, Tryz.ntmps104
  go_wp2_with fail
  refine (CP.out _ _ _ HC0.out (by omega) (by omega) (by omega)).mono ?_
  rintro e w1 ⟨⟨r, r0, r1, rfl⟩, hc1, hg1⟩
  obtain ⟨R, rfl⟩ := Int.eq_ofNat_of_zero_le r0
  have HC1 := Lib.hid hc1
  have HG1 := Lib.hid (grown_alloc_to hg1)
  have HO1 := Lib.hid (own_keepI HO0.out hg1 hlt)
  clear hc1 hg1
  go_wp2_with fail
  go_loopw [3, 4] (fun l i wr => ∃ (k : Nat) (xs : List Int), i = .int .i64 k ∧ k ≤ 3 ∧ xs.length + k ≤ 3 ∧ Hid (wr.ownsRow w.heap.size 3 1 l xs.length (xs.map (.int .i64))) ∧ Hid (∀ x ∈ xs, 0 ≤ x ∧ x < 8388608) ∧ Hid (Cur wr B (N + 50 - 15 * k)) ∧ Hid (w.grownBy wr (some B))) (fun _ i _ => (intOf i).toNat)
  case atStart => exact ⟨1 + R, [], by go_num, by omega, by simp; omega, HO1, Lib.hid (fun x hx => by simp at hx), HC1.out.mono (by omega), HG1⟩
  case round =>
    obtain ⟨k, xs, rfl, hk, hlen, HO, HV, HC, HG⟩ := hrel
    by_cases hpos : 0 < k
    · have hpos' : (0 : Int) < (k : Int) := by omega
      go_wp2_with fail
      refine (C1.out _ _ _ HC.out (by omega) (by omega) (by omega)).mono ?_
      rintro e w3 ⟨⟨b, rfl⟩, hc3, hg3⟩
      have HC3 := Lib.hid hc3
      have HG3 := Lib.hid (Lib.grownBy_trans HG.out hg3)
      have HO3 := Lib.hid (own_keepI HO.out hg3 hlt)
      clear hc3 hg3 HO
      cases b
      · go_wp2_with fail
        refine (CF.out _ _ HC3.out (by omega)).mono ?_
        rintro e w4 ⟨⟨m, hm, rfl⟩, hc4, hg4⟩
        have HC4 := Lib.hid hc4
        have HG4 := Lib.hid (Lib.grownBy_trans HG3.out hg4)
        have HO4 := Lib.hid (own_keepI HO3.out hg4 hlt)
        have hsz4 := HG4.out.size
        clear hc4 hg4
        go_wp2_with (at_builtin; refine push_int hi hz0 hz1 hz2 rfl _ _ rfl w.heap.size _ xs rfl HO4.out (m : Int) rfl hsz4 (by omega) ?_)
        intro v' w5 hown hg5 _
        have HO5 : Hid (w5.ownsRow w.heap.size 3 1 v' (xs ++ [(m : Int)]).length ((xs ++ [(m : Int)]).map (.int .i64))) := by
          show World.ownsRow _ _ _ _ _ _ _
          rw [List.length_append, List.map_append]; exact hown
        have HC5 := Lib.hid (HC4.out.own hg5 (fun j hj => by have := row_ge HO4.out hj; omega))
        have HG5 := Lib.hid (grown_own HG4.out hg5 (fun j hj => row_ge HO4.out hj))
        have HV5 : Hid (∀ x ∈ xs ++ [(m : Int)], 0 ≤ x ∧ x < 8388608) := by
          intro x hx
          rw [List.mem_append] at hx
          rcases hx with hx | hx
          · exact HV.out x hx
          · simp at hx; subst hx; omega
        clear hown hg5
        go_wp2
        go_roundw
        case rel => exact ⟨k - 1, xs ++ [(m : Int)], by first | go_num | (congr 1; omega), by omega, by rw [List.length_append]; simp; omega, HO5, HV5, HC5.out.mono (by omega), HG5⟩
        case measure => simp [intOf]; omega
      · go_wp2_with fail
        refine (CS.out _ _ HC3.out (by omega)).mono ?_
        rintro e w4 ⟨⟨m, hm, rfl⟩, hc4, hg4⟩
        have HC4 := Lib.hid hc4
        have HG4 := Lib.hid (Lib.grownBy_trans HG3.out hg4)
        have HO4 := Lib.hid (own_keepI HO3.out hg4 hlt)
        have hsz4 := HG4.out.size
        clear hc4 hg4
        go_wp2_with (at_builtin; refine push_int hi hz0 hz1 hz2 rfl _ _ rfl w.heap.size _ xs rfl HO4.out (m : Int) rfl hsz4 (by omega) ?_)
        intro v' w5 hown hg5 _
        have HO5 : Hid (w5.ownsRow w.heap.size 3 1 v' (xs ++ [(m : Int)]).length ((xs ++ [(m : Int)]).map (.int .i64))) := by
          show World.ownsRow _ _ _ _ _ _ _
          rw [List.length_append, List.map_append]; exact hown
        have HC5 := Lib.hid (HC4.out.own hg5 (fun j hj => by have := row_ge HO4.out hj; omega))
        have HG5 := Lib.hid (grown_own HG4.out hg5 (fun j hj => row_ge HO4.out hj))
        have HV5 : Hid (∀ x ∈ xs ++ [(m : Int)], 0 ≤ x ∧ x < 8388608) := by
          intro x hx
          rw [List.mem_append] at hx
          rcases hx with hx | hx
          · exact HV.out x hx
          · simp at hx; subst hx; omega
        clear hown hg5
        go_wp2
        go_roundw
        case rel => exact ⟨k - 1, xs ++ [(m : Int)], by first | go_num | (congr 1; omega), by omega, by rw [List.length_append]; simp; omega, HO5, HV5, HC5.out.mono (by omega), HG5⟩
        case measure => simp [intOf]; omega
    · obtain rfl : k = 0 := by omega
      go_wp2
      go_ret
      exact ⟨⟨_, xs, rfl, HO.out, by omega, HV.out⟩, HC.out.mono (by omega), HG.out⟩
/-- A drawn list of ints of its own. -/
def Drawn (base : Nat) (w' : World) (e : Ending) : Prop := ∃ (v : Value) (xs : List Int), e = .returned v ∧ w'.ownsRow base 3 1 v xs.length (xs.map (.int .i64)) ∧ xs.length ≤ 8
set_option maxHeartbeats 2000000 in
theorem anyOutline_any (B N : Nat) (w : World) (h : Cur w B N) (hN : N ≤ 800000) :
    Calls Tryz.prog 75 #[.pointer (some ⟨B, 0, none⟩)] w fun e w' => Drawn w.heap.size w' e ∧ Cur w' B (N + 100) ∧ w.grownBy w' (some B) := by
  obtain ⟨i0, hi, hz0, hz1, hz2⟩ := info_parts infoInt
  have CP := Lib.hid (fun N n w h hN h0 h1 => pick_any B N n w h hN h0 h1)
  have CF := Lib.hid (fun N w h hN => few_any B N w h hN)
  have CO := Lib.hid (fun N w h hN => outline_any B N w h hN)
  have CA := Lib.hid (fun N w h hN => anyStroke_any B N w h hN)
  have hlt := h.lt
  have HC0 := Lib.hid h
  clear h
  go_enter Tryz.func75, Tryz.ntmps75
  go_wp2_with fail
  refine (CP.out _ _ _ HC0.out (by omega) (by omega) (by omega)).mono ?_
  rintro e w1 ⟨⟨r, r0, r1, rfl⟩, hc1, hg1⟩
  have HC1 := Lib.hid hc1
  have HG1 := Lib.hid hg1
  have hsz1 := hg1.size
  clear hc1 hg1
  by_cases hr0 : r = 0
  · subst hr0
    go_wp2
    go_ret
    refine ⟨⟨_, [], rfl, ?_, by simp⟩, (HC1.out.below ((Below.refl _ _).alloc (Nat.le_refl _) _)).mono (by omega), grown_own HG1.out (World.grownBy_alloc _ _ none) (by simp)⟩
    have e := row_new w1 3
    exact ⟨e.1, e.2.imp id fun ⟨g, c, cur, hv, hb, rest⟩ => ⟨g, c, cur, hv, by omega, rest⟩⟩
  · have e0 : (r == 0) = false := by rw [beq_eq_false_iff_ne]; exact hr0
    by_cases hr1 : r = 1
    · subst hr1
      have HO1 : Hid ((w1.alloc (.cells #[] 3)).ownsRow w.heap.size 3 1 (.slice (some ⟨w1.heap.size, 0, none⟩) 0 0) 0 []) := by
        have e := row_new w1 3
        exact ⟨e.1, e.2.imp id fun ⟨g, c, cur, hv, hb, rest⟩ => ⟨g, c, cur, hv, by omega, rest⟩⟩
      have HC2 := Lib.hid (HC1.out.below ((Below.refl _ _).alloc (Nat.le_refl _) (.cells #[] 3)))
      have HG2 : Hid (w.grownBy (w1.alloc (.cells #[] 3)) (some B)) := grown_own HG1.out (World.grownBy_alloc _ _ none) (by simp)
      go_wp2_with fail
      refine (CP.out _ _ _ HC2.out (by omega) (by omega) (by omega)).mono ?_
      rintro e w3 ⟨⟨q, q0, q1, rfl⟩, hc3, hg3⟩
      obtain ⟨R, rfl⟩ := Int.eq_ofNat_of_zero_le q0
      have HC3 := Lib.hid hc3
      have HG3 := Lib.hid (Lib.grownBy_trans HG2.out hg3)
      have HO3 := Lib.hid (own_keepI HO1.out hg3 hlt)
      clear hc3 hg3
      go_wp2_with fail
      go_loopw [3, 4] (fun l i wr => ∃ (k : Nat) (xs : List Int), i = .int .i64 k ∧ k ≤ 7 ∧ xs.length + k ≤ 7 ∧ Hid (wr.ownsRow w.heap.size 3 1 l xs.length (xs.map (.int .i64))) ∧ Hid (Cur wr B (N + 100 - 3 * k)) ∧ Hid (w.grownBy wr (some B))) (fun _ i _ => (intOf i).toNat)
      case atStart => exact ⟨6 + R, [], by go_num, by omega, by simp; omega, HO3, HC3.out.mono (by omega), HG3⟩
      case round =>
        obtain ⟨k, xs, rfl, hk, hlen, HO, HC, HG⟩ := hrel
        by_cases hpos : 0 < k
        · have hpos' : (0 : Int) < (k : Int) := by omega
          go_wp2_with fail
          refine (CF.out _ _ HC.out (by omega)).mono ?_
          rintro e w4 ⟨⟨m, hm, rfl⟩, hc4, hg4⟩
          have HC4 := Lib.hid hc4
          have HG4 := Lib.hid (Lib.grownBy_trans HG.out hg4)
          have HO4 := Lib.hid (own_keepI HO.out hg4 hlt)
          have hsz4 := HG4.out.size
          clear hc4 hg4
          go_wp2_with (at_builtin; refine push_int hi hz0 hz1 hz2 rfl _ _ rfl w.heap.size _ xs rfl HO4.out (m : Int) rfl hsz4 (by omega) ?_)
          intro v' w5 hown hg5 _
          have HO5 : Hid (w5.ownsRow w.heap.size 3 1 v' (xs ++ [(m : Int)]).length ((xs ++ [(m : Int)]).map (.int .i64))) := by
            show World.ownsRow _ _ _ _ _ _ _
            rw [List.length_append, List.map_append]; exact hown
          have HC5 := Lib.hid (HC4.out.own hg5 (fun j hj => by have := row_ge HO4.out hj; omega))
          have HG5 := Lib.hid (grown_own HG4.out hg5 (fun j hj => row_ge HO4.out hj))
          clear hown hg5
          go_wp2
          go_roundw
          case rel => exact ⟨k - 1, xs ++ [(m : Int)], by first | go_num | (congr 1; omega), by omega, by rw [List.length_append]; simp; omega, HO5, HC5.out.mono (by omega), HG5⟩
          case measure => simp [intOf]; omega
        · obtain rfl : k = 0 := by omega
          go_wp2
          go_ret
          exact ⟨⟨_, xs, rfl, HO.out, by omega⟩, HC.out.mono (by omega), HG.out⟩
    · have e1 : (r == 1) = false := by rw [beq_eq_false_iff_ne]; exact hr1
      by_cases hr2 : r = 2
      · subst hr2
        go_wp2_with fail
        refine (CO.out _ _ HC1.out (by omega)).mono ?_
        rintro e w3 ⟨⟨v, xs, rfl, ho3, hl3, _⟩, hc3, hg3⟩
        have HC3 := Lib.hid hc3
        have HG3 := Lib.hid (Lib.grownBy_trans HG1.out hg3)
        have HO3 : Hid (w3.ownsRow w.heap.size 3 1 v xs.length (xs.map (.int .i64))) := ⟨ho3.1, ho3.2.imp id fun ⟨g, c, cur, hv, hb, rest⟩ => ⟨g, c, cur, hv, by omega, rest⟩⟩
        clear hc3 hg3 ho3
        go_wp2_with fail
        refine (CA.out _ _ HC3.out (by omega)).mono ?_
        rintro e w4 ⟨⟨x, rfl⟩, hc4, hg4⟩
        have HC4 := Lib.hid hc4
        have HG4 := Lib.hid (Lib.grownBy_trans HG3.out hg4)
        have HO4 := Lib.hid (own_keepI HO3.out hg4 hlt)
        have hsz4 := HG4.out.size
        clear hc4 hg4
        go_wp2_with (at_builtin; refine push_int hi hz0 hz1 hz2 rfl _ _ rfl w.heap.size _ xs rfl HO4.out x rfl hsz4 (by omega) ?_)
        intro v' w5 hown hg5 _
        have HO5 : Hid (w5.ownsRow w.heap.size 3 1 v' (xs ++ [x]).length ((xs ++ [x]).map (.int .i64))) := by
          show World.ownsRow _ _ _ _ _ _ _
          rw [List.length_append, List.map_append]; exact hown
        have HC5 := Lib.hid (HC4.out.own hg5 (fun j hj => by have := row_ge HO4.out hj; omega))
        have HG5 := Lib.hid (grown_own HG4.out hg5 (fun j hj => row_ge HO4.out hj))
        clear hown hg5
        go_wp2
        go_ret
        exact ⟨⟨_, xs ++ [x], rfl, HO5.out, by rw [List.length_append]; simp; omega⟩, HC5.out.mono (by omega), HG5.out⟩
      · have e2 : (r == 2) = false := by rw [beq_eq_false_iff_ne]; exact hr2
        go_wp2_with fail
        refine (CO.out _ _ HC1.out (by omega)).mono ?_
        rintro e w3 ⟨⟨v, xs, rfl, ho3, hl3, _⟩, hc3, hg3⟩
        have HC3 := Lib.hid hc3
        have HG3 := Lib.hid (Lib.grownBy_trans HG1.out hg3)
        have HO3 : Hid (w3.ownsRow w.heap.size 3 1 v xs.length (xs.map (.int .i64))) := ⟨ho3.1, ho3.2.imp id fun ⟨g, c, cur, hv, hb, rest⟩ => ⟨g, c, cur, hv, by omega, rest⟩⟩
        clear hc3 hg3 ho3
        go_wp2
        go_ret
        exact ⟨⟨_, xs, rfl, HO3.out, by omega⟩, HC3.out.mono (by omega), HG3.out⟩
/-- Two drawn lists of ints. -/
def Pair (w' : World) (e : Ending) : Prop := ∃ (v u : Value) (xs ys : List Int), e = .returned (.tuple #[v, u]) ∧ IntsM w' v xs ∧ IntsM w' u ys ∧ xs.length ≤ 8 ∧ ys.length ≤ 8
end Go.Proofs.YthigdblloddepaaGreat

namespace Go.Proofs.YthigdblloddepaaGreat
set_option maxRecDepth 100000
open Go.RowKit

theorem grown_allocA {w w' : World} {o : Obj} {row : Option Nat} (h : (w.alloc o).grownBy w' row) : w.grownBy w' row := Lib.grownBy_trans (World.grownBy_alloc w o row) h
/-- Is this a text of at most 40 bytes? -/
def smallB : Value → Bool
  | .string x => decide (x.size ≤ 40)
  | _ => false
def strOf : Value → ByteArray
  | .string x => x
  | _ => ByteArray.empty
theorem small_of {v : Value} (h : smallB v = true) : v = .string (strOf v) ∧ (strOf v).size ≤ 40 := by
  unfold smallB at h
  split at h
  · exact ⟨rfl, by simpa [strOf] using h⟩
  · cases h
/-- A text drawn from a new list of short texts. -/
theorem of_new (B N : Nat) (wx : World) (cs : Array Value) (n : Nat) (hcu : Cur wx B N) (hN : N ≤ 999000) (hall : cs.all smallB = true) (hn : cs.size = n) (h1 : 1 ≤ n) (h2 : n ≤ 60000) :
    Calls Tryz.prog 42 #[.pointer (some ⟨B, 0, none⟩), .slice (some ⟨wx.heap.size, 0, none⟩) n n] (wx.alloc (.cells cs 9)) fun e w' => Text 40 e ∧ Cur w' B (N + 2) ∧ wx.grownBy w' (some B) := by
  have hlt := hcu.lt
  rw [Array.all_eq_true_iff_forall_mem] at hall
  have hcs : cs = ((cs.toList.map strOf).map Value.string).toArray := by
    apply Array.toList_inj.1
    show cs.toList = (cs.toList.map strOf).map Value.string
    rw [List.map_map]
    conv => lhs; rw [← List.map_id cs.toList]
    exact List.map_congr_left fun v hv => (small_of (hall v (by simpa using hv))).1
  refine (of_any B N wx.heap.size n n (cs.toList.map strOf) _ (hcu.below ((Below.refl _ _).alloc (Nat.le_refl _) _)) hN (by omega) (by rw [World.size_alloc]; omega) (by rw [List.length_map, Array.length_toList]; exact hn) h1 h2 (alloc_strs wx cs _ _ hcs)).mono ?_
  rintro e w' ⟨⟨x, hx, rfl⟩, hc, hg⟩
  refine ⟨⟨x, ?_, rfl⟩, hc, grown_allocA hg⟩
  obtain ⟨v, hv, rfl⟩ := List.mem_map.1 hx
  exact (small_of (hall v (by simpa using hv))).2
theorem wordText_any (B N : Nat) (w : World) (h : Cur w B N) (hN : N ≤ 999000) :
    Calls Tryz.prog 138 #[.pointer (some ⟨B, 0, none⟩)] w fun e w' => Text 40 e ∧ Cur w' B (N + 2) ∧ w.grownBy w' (some B) := by
  have HC := Lib.hid h
  clear h
  go_enter Tryz.func138, Tryz.ntmps138
  go_wp2_with fail
  refine (of_new B N w _ 16 HC.out hN (by kernel_rfl) rfl (by omega) (by omega)).mono ?_
  rintro e w1 ⟨⟨x, hx, rfl⟩, hc1, hg1⟩
  have HC1 := Lib.hid hc1
  have HG1 := Lib.hid hg1
  clear hc1 hg1
  go_wp2
  go_ret
  exact ⟨⟨_, hx, rfl⟩, HC1.out, HG1.out⟩
/-- A drawn atom. -/
def DAtom (e : Ending) : Prop := ∃ (k : Int) (t : ByteArray), e = .returned (atV k t) ∧ t.size ≤ 40 ∧ -1 ≤ k ∧ k ≤ 20
/-- The block of a result that stands. -/
def ResA (w : World) (R : Nat) : Prop := ∃ k t, w.heap[R]? = some (.cells #[.int .i64 k, .string t] 147 (0, 0))
theorem ResA.grown {w w' : World} {R B : Nat} (h : ResA w R) (hg : w.grownBy w' (some B)) (hB : B ≠ R) : ResA w' R := by
  obtain ⟨k, t, h⟩ := h
  have hl : R < w.heap.size := (Array.getElem?_eq_some_iff.1 h).1
  exact ⟨k, t, (hg.block R hl (by simp; exact fun e => hB e.symm)).trans h⟩
theorem grown_setRow {w w' : World} {B R : Nat} (h : w.grownBy w' (some B)) (hR : w.heap.size ≤ R) (cs : Array Value) : w.grownBy (w'.setRow R cs) (some B) :=
  ⟨h.os, h.tape, h.output, by rw [setRow_size]; exact h.size, fun k hk hne => (setRow_other w' R k cs (by omega)).trans (h.block k hk hne)⟩
theorem Cur.setRow {w : World} {B N R : Nat} (h : Cur w B N) (hB : B < R) (cs : Array Value) : Cur (w.setRow R cs) B N :=
  h.keep ⟨rfl, rfl, rfl, by rw [setRow_size]; exact Nat.le_refl _, fun k hk => setRow_other w R k cs (by omega)⟩
set_option maxHeartbeats 4000000 in
theorem atom_any (B N : Nat) (w : World) (h : Cur w B N) (hN : N ≤ 990000) :
    Calls Tryz.prog 125 #[.pointer (some ⟨B, 0, none⟩)] w fun e w' => DAtom e ∧ Cur w' B (N + 4) ∧ w.grownBy w' (some B) := by
  have CP := Lib.hid (fun N n w h hN h0 h1 => pick_any B N n w h hN h0 h1)
  have CW := Lib.hid (fun N w h hN => wordText_any B N w h hN)
  have hlt := h.lt
  have HC0 := Lib.hid (h.below ((Below.refl _ _).alloc (Nat.le_refl _) (.cells #[.int .i64 0, .string ⟨#[]⟩] 147)))
  have HR0 : Hid (ResA (w.alloc (.cells #[.int .i64 0, .string ⟨#[]⟩] 147)) w.heap.size) := ⟨_, _, heap_alloc_new _ _⟩
  clear h
  go_enter Tryz.func125, Tryz.ntmps125
  go_wp2_with fail
  refine (CP.out _ _ _ HC0.out (by omega) (by omega) (by omega)).mono ?_
  rintro e w1 ⟨⟨r, r0, r1, rfl⟩, hc1, hg1⟩
  have HC1 := Lib.hid hc1
  have HR1 := Lib.hid (HR0.out.grown hg1 (by omega))
  have HG1 := Lib.hid (grown_allocA hg1)
  clear hc1 hg1 HR0 HC0
  have hN2 : N + 2 ≤ 999000 := by omega
  have hr : r = 0 ∨ r = 1 ∨ r = 2 ∨ r = 3 ∨ r = 4 ∨ r = 5 ∨ r = 6 ∨ r = 7 ∨ 8 ≤ r := by omega
  rcases hr with rfl | rfl | rfl | rfl | rfl | rfl | rfl | rfl | hr
  case inr.inr.inr.inr.inr.inr.inr.inl =>
    go_wp2_with fail
    refine (CP.out _ _ _ HC1.out (by omega) (by omega) (by omega)).mono ?_
    rintro e w2 ⟨⟨q, q0, q1, rfl⟩, hc2, hg2⟩
    have HC2 := Lib.hid hc2
    have HG2 := Lib.hid (Lib.grownBy_trans HG1.out hg2)
    obtain ⟨k0, t0, hR2⟩ := HR1.out.grown hg2 (by omega)
    have HR2 := Lib.hid hR2
    clear hc2 hg2 hR2 HR1 HC1 HG1
    go_wp2_with (with_reducible (show wpList _ _ _ (_ :: _) _ _); refine at_store rfl _ _ rfl w.heap.size (8 + q) ⟨#[]⟩ _ _ rfl rfl HR2.out ?_)
    (try simp only [Exit.inBlock, Exit.then])
    refine bodyPost_ret (results_cell_row rfl _ _ w.heap.size _ _ _ _ rfl (setRow_heap _ _ _ _ _ _ HR2.out) Tryz.underlying147 rfl (by kernel_rfl)) rfl ?_
    exact ⟨⟨_, _, rfl, by decide, by omega, by omega⟩, (HC2.out.mono (by omega)).setRow hlt _, grown_setRow HG2.out (Nat.le_refl _) _⟩
  case inr.inr.inr.inr.inr.inr.inr.inr =>
    have hn : ∀ n : Int, n ≤ 7 → (r == n) = false := fun n hn => by rw [beq_eq_false_iff_ne]; omega
    have n0 := hn 0 (by omega)
    have n1 := hn 1 (by omega)
    have n2 := hn 2 (by omega)
    have n3 := hn 3 (by omega)
    have n4 := hn 4 (by omega)
    have n5 := hn 5 (by omega)
    have n6 := hn 6 (by omega)
    have n7 := hn 7 (by omega)
    clear hn
    go_wp2_with fail
    refine (CW.out _ _ HC1.out (by omega)).mono ?_
    rintro e w2 ⟨⟨x, hx, rfl⟩, hc2, hg2⟩
    have HC2 := Lib.hid hc2
    have HG2 := Lib.hid (Lib.grownBy_trans HG1.out hg2)
    obtain ⟨k0, t0, hR2⟩ := HR1.out.grown hg2 (by omega)
    have HR2 := Lib.hid hR2
    clear hc2 hg2 hR2 HR1 HC1 HG1
    go_wp2_with (with_reducible (show wpList _ _ _ (_ :: _) _ _); refine at_store rfl _ _ rfl w.heap.size 1 x _ _ rfl rfl HR2.out ?_)
    (try simp only [Exit.inBlock, Exit.then])
    refine bodyPost_ret (results_cell_row rfl _ _ w.heap.size _ _ _ _ rfl (setRow_heap _ _ _ _ _ _ HR2.out) Tryz.underlying147 rfl (by kernel_rfl)) rfl ?_
    exact ⟨⟨_, _, rfl, hx, by omega, by omega⟩, (HC2.out.mono (by omega)).setRow hlt _, grown_setRow HG2.out (Nat.le_refl _) _⟩
  case inl =>
    go_wp2_with fail
    refine (of_new B (N + 2) w1 _ 6 HC1.out hN2 ?_ rfl (by decide) (by decide)).mono ?_
    · kernel_rfl
    rintro e w2 ⟨⟨x, hx, rfl⟩, hc2, hg2⟩
    have HC2 := Lib.hid hc2
    have HG2 := Lib.hid (Lib.grownBy_trans HG1.out hg2)
    obtain ⟨k0, t0, hR2⟩ := HR1.out.grown hg2 (by omega)
    have HR2 := Lib.hid hR2
    clear hc2 hg2 hR2 HR1 HC1 HG1
    go_wp2_with (with_reducible (show wpList _ _ _ (_ :: _) _ _); refine at_store rfl _ _ rfl w.heap.size 2 x _ _ rfl rfl HR2.out ?_)
    (try simp only [Exit.inBlock, Exit.then])
    refine bodyPost_ret (results_cell_row rfl _ _ w.heap.size _ _ _ _ rfl (setRow_heap _ _ _ _ _ _ HR2.out) Tryz.underlying147 rfl (by kernel_rfl)) rfl ?_
    exact ⟨⟨_, _, rfl, hx, by omega, by omega⟩, (HC2.out.mono (by omega)).setRow hlt _, grown_setRow HG2.out (Nat.le_refl _) _⟩
  case inr.inl =>
    go_wp2_with fail
    refine (of_new B (N + 2) w1 _ 6 HC1.out hN2 ?_ rfl (by decide) (by decide)).mono ?_
    · kernel_rfl
    rintro e w2 ⟨⟨x, hx, rfl⟩, hc2, hg2⟩
    have HC2 := Lib.hid hc2
    have HG2 := Lib.hid (Lib.grownBy_trans HG1.out hg2)
    obtain ⟨k0, t0, hR2⟩ := HR1.out.grown hg2 (by omega)
    have HR2 := Lib.hid hR2
    clear hc2 hg2 hR2 HR1 HC1 HG1
    go_wp2_with (with_reducible (show wpList _ _ _ (_ :: _) _ _); refine at_store rfl _ _ rfl w.heap.size 2 x _ _ rfl rfl HR2.out ?_)
    (try simp only [Exit.inBlock, Exit.then])
    refine bodyPost_ret (results_cell_row rfl _ _ w.heap.size _ _ _ _ rfl (setRow_heap _ _ _ _ _ _ HR2.out) Tryz.underlying147 rfl (by kernel_rfl)) rfl ?_
    exact ⟨⟨_, _, rfl, hx, by omega, by omega⟩, (HC2.out.mono (by omega)).setRow hlt _, grown_setRow HG2.out (Nat.le_refl _) _⟩
  case inr.inr.inl =>
    go_wp2_with fail
    refine (of_new B (N + 2) w1 _ 3 HC1.out hN2 ?_ rfl (by decide) (by decide)).mono ?_
    · kernel_rfl
    rintro e w2 ⟨⟨x, hx, rfl⟩, hc2, hg2⟩
    have HC2 := Lib.hid hc2
    have HG2 := Lib.hid (Lib.grownBy_trans HG1.out hg2)
    obtain ⟨k0, t0, hR2⟩ := HR1.out.grown hg2 (by omega)
    have HR2 := Lib.hid hR2
    clear hc2 hg2 hR2 HR1 HC1 HG1
    go_wp2_with (with_reducible (show wpList _ _ _ (_ :: _) _ _); refine at_store rfl _ _ rfl w.heap.size 3 x _ _ rfl rfl HR2.out ?_)
    (try simp only [Exit.inBlock, Exit.then])
    refine bodyPost_ret (results_cell_row rfl _ _ w.heap.size _ _ _ _ rfl (setRow_heap _ _ _ _ _ _ HR2.out) Tryz.underlying147 rfl (by kernel_rfl)) rfl ?_
    exact ⟨⟨_, _, rfl, hx, by omega, by omega⟩, (HC2.out.mono (by omega)).setRow hlt _, grown_setRow HG2.out (Nat.le_refl _) _⟩
  case inr.inr.inr.inl =>
    go_wp2_with fail
    refine (of_new B (N + 2) w1 _ 3 HC1.out hN2 ?_ rfl (by decide) (by decide)).mono ?_
    · kernel_rfl
    rintro e w2 ⟨⟨x, hx, rfl⟩, hc2, hg2⟩
    have HC2 := Lib.hid hc2
    have HG2 := Lib.hid (Lib.grownBy_trans HG1.out hg2)
    obtain ⟨k0, t0, hR2⟩ := HR1.out.grown hg2 (by omega)
    have HR2 := Lib.hid hR2
    clear hc2 hg2 hR2 HR1 HC1 HG1
    go_wp2_with (with_reducible (show wpList _ _ _ (_ :: _) _ _); refine at_store rfl _ _ rfl w.heap.size 4 x _ _ rfl rfl HR2.out ?_)
    (try simp only [Exit.inBlock, Exit.then])
    refine bodyPost_ret (results_cell_row rfl _ _ w.heap.size _ _ _ _ rfl (setRow_heap _ _ _ _ _ _ HR2.out) Tryz.underlying147 rfl (by kernel_rfl)) rfl ?_
    exact ⟨⟨_, _, rfl, hx, by omega, by omega⟩, (HC2.out.mono (by omega)).setRow hlt _, grown_setRow HG2.out (Nat.le_refl _) _⟩
  case inr.inr.inr.inr.inl =>
    go_wp2_with fail
    refine (of_new B (N + 2) w1 _ 3 HC1.out hN2 ?_ rfl (by decide) (by decide)).mono ?_
    · kernel_rfl
    rintro e w2 ⟨⟨x, hx, rfl⟩, hc2, hg2⟩
    have HC2 := Lib.hid hc2
    have HG2 := Lib.hid (Lib.grownBy_trans HG1.out hg2)
    obtain ⟨k0, t0, hR2⟩ := HR1.out.grown hg2 (by omega)
    have HR2 := Lib.hid hR2
    clear hc2 hg2 hR2 HR1 HC1 HG1
    go_wp2_with (with_reducible (show wpList _ _ _ (_ :: _) _ _); refine at_store rfl _ _ rfl w.heap.size 5 x _ _ rfl rfl HR2.out ?_)
    (try simp only [Exit.inBlock, Exit.then])
    refine bodyPost_ret (results_cell_row rfl _ _ w.heap.size _ _ _ _ rfl (setRow_heap _ _ _ _ _ _ HR2.out) Tryz.underlying147 rfl (by kernel_rfl)) rfl ?_
    exact ⟨⟨_, _, rfl, hx, by omega, by omega⟩, (HC2.out.mono (by omega)).setRow hlt _, grown_setRow HG2.out (Nat.le_refl _) _⟩
  case inr.inr.inr.inr.inr.inl =>
    go_wp2_with fail
    refine (of_new B (N + 2) w1 _ 3 HC1.out hN2 ?_ rfl (by decide) (by decide)).mono ?_
    · kernel_rfl
    rintro e w2 ⟨⟨x, hx, rfl⟩, hc2, hg2⟩
    have HC2 := Lib.hid hc2
    have HG2 := Lib.hid (Lib.grownBy_trans HG1.out hg2)
    obtain ⟨k0, t0, hR2⟩ := HR1.out.grown hg2 (by omega)
    have HR2 := Lib.hid hR2
    clear hc2 hg2 hR2 HR1 HC1 HG1
    go_wp2_with (with_reducible (show wpList _ _ _ (_ :: _) _ _); refine at_store rfl _ _ rfl w.heap.size 6 x _ _ rfl rfl HR2.out ?_)
    (try simp only [Exit.inBlock, Exit.then])
    refine bodyPost_ret (results_cell_row rfl _ _ w.heap.size _ _ _ _ rfl (setRow_heap _ _ _ _ _ _ HR2.out) Tryz.underlying147 rfl (by kernel_rfl)) rfl ?_
    exact ⟨⟨_, _, rfl, hx, by omega, by omega⟩, (HC2.out.mono (by omega)).setRow hlt _, grown_setRow HG2.out (Nat.le_refl _) _⟩
  case inr.inr.inr.inr.inr.inr.inl =>
    go_wp2_with fail
    refine (of_new B (N + 2) w1 _ 3 HC1.out hN2 ?_ rfl (by decide) (by decide)).mono ?_
    · kernel_rfl
    rintro e w2 ⟨⟨x, hx, rfl⟩, hc2, hg2⟩
    have HC2 := Lib.hid hc2
    have HG2 := Lib.hid (Lib.grownBy_trans HG1.out hg2)
    obtain ⟨k0, t0, hR2⟩ := HR1.out.grown hg2 (by omega)
    have HR2 := Lib.hid hR2
    clear hc2 hg2 hR2 HR1 HC1 HG1
    go_wp2_with (with_reducible (show wpList _ _ _ (_ :: _) _ _); refine at_store rfl _ _ rfl w.heap.size 7 x _ _ rfl rfl HR2.out ?_)
    (try simp only [Exit.inBlock, Exit.then])
    refine bodyPost_ret (results_cell_row rfl _ _ w.heap.size _ _ _ _ rfl (setRow_heap _ _ _ _ _ _ HR2.out) Tryz.underlying147 rfl (by kernel_rfl)) rfl ?_
    exact ⟨⟨_, _, rfl, hx, by omega, by omega⟩, (HC2.out.mono (by omega)).setRow hlt _, grown_setRow HG2.out (Nat.le_refl _) _⟩
end Go.Proofs.YthigdblloddepaaGreat

namespace Go.Proofs.YthigdblloddepaaGreat
set_option maxRecDepth 100000
open Go.RowKit

/-- The block A holds this atom, and nothing of it is frozen. -/
def AtB (w : World) (A : Nat) (k : Int) (t : ByteArray) : Prop := w.heap[A]? = some (.cells #[.int .i64 k, .string t] 147 (0, 0))
theorem AtB.grown {w w' : World} {A B : Nat} {k : Int} {t : ByteArray} (h : AtB w A k t) (hg : w.grownBy w' (some B)) (hB : B ≠ A) : AtB w' A k t := by
  have hl : A < w.heap.size := (Array.getElem?_eq_some_iff.1 h).1
  exact (hg.block A hl (by simp; exact fun e => hB e.symm)).trans h
theorem AtB.cells {w : World} {A : Nat} {k : Int} {t : ByteArray} (h : AtB w A k t) : w.cell? ⟨A, 0, none⟩ = some (.int .i64 k) ∧ w.cell? ⟨A, 1, none⟩ = some (.string t) ∧ w.frozen? ⟨A, 0, none⟩ = false ∧ w.frozen? ⟨A, 1, none⟩ = false := by
  refine ⟨?_, ?_, frozen_of_row _ _ _ _ _ h, frozen_of_row _ _ _ _ _ h⟩ <;> (rw [cell_of_row _ _ _ _ _ _ h]; rfl)
theorem grown_setCell {w w' : World} {B R : Nat} (h : w.grownBy w' (some B)) (hR : w.heap.size ≤ R) (o : Nat) (v : Value) : w.grownBy (w'.setCell ⟨R, o, none⟩ v) (some B) :=
  ⟨h.os, h.tape, h.output, by rw [World.size_setCell]; exact h.size, fun k hk hne => (heap_setCell_other w' ⟨R, o, none⟩ k v (by show k ≠ R; omega)).trans (h.block k hk hne)⟩
theorem Cur.setCellA {w : World} {B N R : Nat} (h : Cur w B N) (hB : B < R) (o : Nat) (v : Value) : Cur (w.setCell ⟨R, o, none⟩ v) B N :=
  h.keep ⟨rfl, rfl, rfl, by rw [World.size_setCell]; exact Nat.le_refl _, fun k hk => heap_setCell_other w ⟨R, o, none⟩ k v (by show k ≠ R; omega)⟩
end Go.Proofs.YthigdblloddepaaGreat

namespace Go.Proofs.YthigdblloddepaaGreat
set_option maxRecDepth 100000
open Go.RowKit

end Go.Proofs.YthigdblloddepaaGreat

namespace Go.Proofs.YthigdblloddepaaGreat
set_option maxRecDepth 100000
open Go.RowKit

theorem ownT_keep {w w' : World} {base B : Nat} {v : Value} {ls : List (Int × ByteArray)} (h : OwnT w base v ls) (hg : w.grownBy w' (some B)) (hB : B < base) : OwnT w' base v ls := by
  refine h.kept hg ?_
  rcases h.2 with ⟨rfl, _⟩ | ⟨g, cap, cur, rfl, hb, _⟩
  · exact .inl rfl
  · right
    intro e
    have : g = B := by simpa [Value.ownBlock] using e
    omega
theorem grown_rowA {w w1 w2 : World} {B : Nat} {row : Option Nat} (h : w.grownBy w1 (some B)) (hg : w1.grownBy w2 row) (hr : ∀ k, row = some k → w.heap.size ≤ k) : w.grownBy w2 (some B) :=
  ⟨hg.os.trans h.os, hg.tape.trans h.tape, hg.output.trans h.output, Nat.le_trans h.size hg.size, fun k hk hne => (hg.block k (Nat.lt_of_lt_of_le hk h.size) (fun e => by have := hr k e.symm; omega)).trans (h.block k hk hne)⟩
theorem Cur.rowA {w1 w2 : World} {B N : Nat} {row : Option Nat} (h : Cur w1 B N) (hg : w1.grownBy w2 row) (hr : ∀ k, row = some k → B < k) : Cur w2 B N :=
  h.keep ((Below.refl _ _).grown hg h.lt (fun k hk => hr k hk))
/-- A drawn atom's bounds. -/
def DA (e : Int × ByteArray) : Prop := e.2.size ≤ 40 ∧ -1 ≤ e.1 ∧ e.1 ≤ 20
set_option maxHeartbeats 2000000 in
theorem atoms_any (B N : Nat) (w : World) (h : Cur w B N) (hN : N ≤ 900000) :
    Calls Tryz.prog 109 #[.pointer (some ⟨B, 0, none⟩)] w fun e w' => (∃ (v : Value) (ls : List (Int × ByteArray)), e = .returned v ∧ OwnT w' w.heap.size v ls ∧ ls.length ≤ 4 ∧ ∀ x ∈ ls, DA x) ∧ Cur w' B (N + 50) ∧ w.grownBy w' (some B) := by
  have CP := Lib.hid (fun N n w h hN h0 h1 => pick_any B N n w h hN h0 h1)
  have CA := Lib.hid (fun N w h hN => atom_any B N w h hN)
  have hlt := h.lt
  have HC0 := Lib.hid (h.below ((Below.refl _ _).alloc (Nat.le_refl _) (.cells #[] 147)))
  have HO0 := Lib.hid (ownT_new w)
  clear h
  go_enter Tryz.func109, Tryz.ntmps109
  go_wp2_with fail
  refine (CP.out _ _ _ HC0.out (by omega) (by omega) (by omega)).mono ?_
  rintro e w1 ⟨⟨r, r0, r1, rfl⟩, hc1, hg1⟩
  obtain ⟨R, rfl⟩ := Int.eq_ofNat_of_zero_le r0
  have HC1 := Lib.hid hc1
  have HG1 := Lib.hid (grown_allocA hg1)
  have HO1 := Lib.hid (ownT_keep HO0.out hg1 hlt)
  clear hc1 hg1
  go_wp2_with fail
  go_loopw [3, 4] (fun l i wr => ∃ (k : Nat) (ls : List (Int × ByteArray)), i = .int .i64 k ∧ k ≤ 4 ∧ ls.length + k ≤ 4 ∧ Hid (OwnT wr w.heap.size l ls) ∧ Hid (∀ x ∈ ls, DA x) ∧ Hid (Cur wr B (N + 50 - 10 * k)) ∧ Hid (w.grownBy wr (some B))) (fun _ i _ => (intOf i).toNat)
  case atStart => exact ⟨1 + R, [], by go_num, by omega, by simp; omega, HO1, Lib.hid (fun x hx => by simp at hx), Lib.hid (HC1.out.mono (by omega)), HG1⟩
  case round =>
    obtain ⟨k, ls, rfl, hk, hlen, HO, HV, HC, HG⟩ := hrel
    by_cases hpos : 0 < k
    · have hpos' : (0 : Int) < (k : Int) := by omega
      go_wp2_with fail
      refine (CA.out _ _ HC.out (by omega)).mono ?_
      rintro e w3 ⟨⟨q, t, rfl, ht, hq0, hq1⟩, hc3, hg3⟩
      have HC3 := Lib.hid hc3
      have HG3 := Lib.hid (Lib.grownBy_trans HG.out hg3)
      have HO3 := Lib.hid (ownT_keep HO.out hg3 hlt)
      have hsz3 := HG3.out.size
      clear hc3 hg3 HO HC HG
      go_wp2_with (at_builtin; refine push_atom rfl _ _ rfl w.heap.size _ ls rfl HO3.out q t rfl hsz3 (by omega) ?_)
      intro v' w5 hown hg5 _
      have HO5 : Hid (OwnT w5 w.heap.size v' (ls ++ [(q, t)])) := hown
      have HC5 := Lib.hid (HC3.out.rowA hg5 (fun j hj => by have := row_ge HO3.out hj; omega))
      have HG5 := Lib.hid (grown_rowA HG3.out hg5 (fun j hj => row_ge HO3.out hj))
      have HV5 : Hid (∀ x ∈ ls ++ [(q, t)], DA x) := by
        intro x hx
        rw [List.mem_append] at hx
        rcases hx with hx | hx
        · exact HV.out x hx
        · simp at hx; subst hx; exact ⟨ht, hq0, hq1⟩
      clear hown hg5 HO3 HC3 HG3 HV
      go_wp2
      go_roundw
      case rel => exact ⟨k - 1, ls ++ [(q, t)], by first | go_num | (congr 1; omega), by omega, by rw [List.length_append]; simp; omega, HO5, HV5, Lib.hid (HC5.out.mono (by omega)), HG5⟩
      case measure => simp [intOf]; omega
    · obtain rfl : k = 0 := by omega
      go_wp2
      go_ret
      exact ⟨⟨_, ls, rfl, HO.out, by omega, HV.out⟩, HC.out.mono (by omega), HG.out⟩
theorem textB_ok {ls : List (Int × ByteArray)} (h : okL ls = true) : (textB ls).size ≤ 60 := by
  obtain ⟨h1, _, _, h4⟩ := okL_parts h
  have := textB_size (ls := ls) (by intro e; rw [e] at h1; simp at h1)
  omega
set_option maxHeartbeats 1000000 in
theorem translation_any (B N : Nat) (w : World) (h : Cur w B N) (hN : N ≤ 900000) :
    Calls Tryz.prog 84 #[.pointer (some ⟨B, 0, none⟩)] w fun e w' => Text 60 e ∧ Cur w' B (N + 50) ∧ w.grownBy w' (some B) := by
  have CA := Lib.hid (fun N w h hN => atoms_any B N w h hN)
  have CL := Lib.hid (fun v ls w h hn hx => l5List_any v ls w h hn hx)
  have CT := Lib.hid (fun v ls w h hn hx => l5Text_any v ls w h hn hx)
  have HC := Lib.hid h
  clear h
  go_enter Tryz.func84, Tryz.ntmps84
  go_wp2_with fail
  refine (CA.out N w HC.out hN).mono ?_
  rintro e w1 ⟨⟨v, ls, rfl, ho, hl, hd⟩, hc1, hg1⟩
  have HC1 := Lib.hid hc1
  have HG1 := Lib.hid hg1
  have hA := ownT_at ho
  have HA := Lib.hid hA
  have hx : ∀ e ∈ ls, e.2.size ≤ 1048600 := fun e he => by have := (hd e he).1; omega
  have cl := CL.out v ls w1 hA (by omega) hx
  have ct := fun w h => CT.out v ls w h (by omega) hx
  have htb := fun h => textB_ok (ls := ls) h
  obtain ⟨b, hb⟩ : ∃ b, b = okL ls := ⟨_, rfl⟩
  obtain ⟨x, hxx⟩ : ∃ x, x = textB ls := ⟨_, rfl⟩
  rw [← hb] at cl htb
  rw [← hxx] at ct htb
  have CL1 := Lib.hid cl
  have CT1 := Lib.hid ct
  have HTB := Lib.hid htb
  clear hc1 hg1 ho hA hx cl ct htb hb hxx hd CL CT
  go_wp2_with fail
  refine (CL1.out).mono ?_
  rintro e w2 ⟨rfl, hb2⟩
  have HC2 := Lib.hid (HC1.out.below hb2)
  have HG2 := Lib.hid (Lib.grownBy_below HG1.out hb2)
  have HA2 := Lib.hid (HA.out.below hb2)
  clear hb2 HC1 HG1 HA
  cases b
  · go_wp2
    go_ret
    exact ⟨⟨_, by decide, rfl⟩, HC2.out, HG2.out⟩
  · have hts := HTB.out (by first | rfl | trivial)
    go_wp2_with fail
    refine (CT1.out w2 HA2.out).mono ?_
    rintro e w3 ⟨rfl, hb3⟩
    have HC3 := Lib.hid (HC2.out.below hb3)
    have HG3 := Lib.hid (Lib.grownBy_below HG2.out hb3)
    clear hb3 HC2 HG2
    go_wp2
    go_ret
    exact ⟨⟨x, hts, rfl⟩, HC3.out, HG3.out⟩
end Go.Proofs.YthigdblloddepaaGreat

namespace Go.Proofs.YthigdblloddepaaGreat
set_option maxRecDepth 100000
open Go.RowKit

/-- The cursor's block has changed. -/
theorem Rows.keep {w w' : World} {base B : Nat} {v : Value} {us : List (Value × Ent)} (h : Rows w base v us) (hg : w.grownBy w' (some B)) (hB : B < base) : Rows w' base v us := by
  have hrow : v.ownBlock = none ∨ v.ownBlock ≠ some B := by
    cases hv : v.ownBlock with
    | none => exact .inl rfl
    | some k => right; intro e; injection e with e; have := (h.row.lt k hv).1; omega
  refine ⟨h.row.kept hg hrow, fun p hp => ⟨(h.ints p hp).1.touch (T := fun b => b = B) (Touch.grown hg (fun k e => (Option.some.inj e).symm)) fun b hb e => ?_, (h.ints p hp).2⟩⟩
  have := ((h.ints p hp).2 b hb).1
  omega
theorem BoxV.keep {w w' : World} {b B : Nat} {T : TypeId} {v : Value} (h : BoxV w b T v) (hg : w.grownBy w' (some B)) (hB : B < b) : BoxV w' b T v := h.grown hg (by simp; omega)
/-- A world in which this cell holds this. -/
structure Seen (D : Nat) (v : Value) where
  world : World
  cell : world.cell? ⟨D, 0, none⟩ = some v
theorem enCells_setT : ∀ (us : List (Value × Ent)) (j : Nat) (p : Value × Ent), us[j]? = some p → ∀ t, enCells (us.set j (p.1, (p.2.1, t))) = (enCells us).set (j * 2 + 1) (.string t)
  | [], j, p, h, t => by simp at h
  | x :: us, 0, p, h, t => by simp at h; subst h; rfl
  | x :: us, j + 1, p, h, t => by
    have ih := enCells_setT us j p (by simpa using h) t
    show x.1 :: .string x.2.2 :: enCells (us.set j _) = List.set (x.1 :: .string x.2.2 :: enCells us) ((j + 1) * 2 + 1) _
    rw [ih, show (j + 1) * 2 + 1 = (j * 2 + 1) + 1 + 1 by omega]; rfl
theorem enCells_setU : ∀ (us : List (Value × Ent)) (j : Nat) (p : Value × Ent), us[j]? = some p → ∀ u xs, enCells (us.set j (u, (xs, p.2.2))) = (enCells us).set (j * 2) u
  | [], j, p, h, u, xs => by simp at h
  | x :: us, 0, p, h, u, xs => by simp at h; subst h; rfl
  | x :: us, j + 1, p, h, u, xs => by
    have ih := enCells_setU us j p (by simpa using h) u xs
    show x.1 :: .string x.2.2 :: enCells (us.set j _) = List.set (x.1 :: .string x.2.2 :: enCells us) ((j + 1) * 2) _
    rw [ih, show (j + 1) * 2 = j * 2 + 1 + 1 by omega]; rfl
/-- A cell of an own row is set. -/
theorem own_setC {w : World} {base size n : Nat} {e : TypeId} {v : Value} {xs : List Value} (h : w.ownsRow base e size v n xs) (hn : 0 < n) (i : Nat) (hi : i < n * size) (x : Value) :
    ∃ g cap, v = .slice (some ⟨g, 0, none⟩) n cap ∧ n ≤ cap ∧ base ≤ g ∧ g < w.heap.size ∧ w.frozen? ⟨g, i, none⟩ = false ∧ (∀ y, xs[i]? = some y → w.cell? ⟨g, i, none⟩ = some y) ∧ (w.setCell ⟨g, i, none⟩ x).ownsRow base e size v n (xs.set i x) := by
  obtain ⟨hlen, ⟨_, h0⟩ | ⟨g, cap, cur, rfl, hb, hg, hnc, hcm, hsz, htake⟩⟩ := h
  · omega
  · have hmul : n * size ≤ cap * size := Nat.mul_le_mul_right _ hnc
    refine ⟨g, cap, rfl, hnc, hb, (Array.getElem?_eq_some_iff.1 hg).1, by unfold World.frozen?; simp [hg], fun y hy => ?_, by rw [List.length_set]; exact hlen, .inr ⟨g, cap, cur.setIfInBounds i x, rfl, hb, Go.heap_setCell_same w g i _ _ x hg, hnc, hcm, by rw [Array.size_setIfInBounds]; exact hsz, ?_⟩⟩
    · rw [← htake, List.getElem?_take_of_lt hi, Array.getElem?_toList] at hy
      simp [World.cell?, hg, hy]
    · rw [Array.toList_setIfInBounds, ← htake]
      exact List.take_set ..
/-- A text of the row is set. -/
theorem Rows.setT {w : World} {base : Nat} {v : Value} {us : List (Value × Ent)} (h : Rows w base v us) {j : Nat} {p : Value × Ent} (hj : us[j]? = some p) (t : ByteArray) :
    ∃ g cap, v = .slice (some ⟨g, 0, none⟩) us.length cap ∧ us.length ≤ cap ∧ base ≤ g ∧ g < w.heap.size ∧ w.frozen? ⟨g, j * 2 + 1, none⟩ = false ∧ w.cell? ⟨g, j * 2 + 1, none⟩ = some (.string p.2.2) ∧ Rows (w.setCell ⟨g, j * 2 + 1, none⟩ (.string t)) base v (us.set j (p.1, (p.2.1, t))) := by
  have hl := (List.getElem?_eq_some_iff.1 hj).1
  obtain ⟨g, cap, hv, hc, hb, hlt, hf, hcell, hrow⟩ := own_setC h.row (by omega) (j * 2 + 1) (by omega) (.string t)
  refine ⟨g, cap, hv, hc, hb, hlt, hf, hcell _ (enCells_at us j p hj).2, ?_, fun q hq => ?_⟩
  · rw [List.length_set, enCells_setT us j p hj t]; exact hrow
  · have hq' : ∃ q' ∈ us, q'.1 = q.1 ∧ q'.2.1 = q.2.1 := by
      rcases List.mem_or_eq_of_mem_set hq with hq | rfl
      · exact ⟨q, hq, rfl, rfl⟩
      · exact ⟨p, List.mem_of_getElem? hj, rfl, rfl⟩
    obtain ⟨q', hm, e1, e2⟩ := hq'
    obtain ⟨h1, h2⟩ := h.ints q' hm
    rw [e1, e2] at h1
    rw [e1] at h2
    refine ⟨h1.touch (T := fun b => b = g) (Touch.grown (grown_setC w g _ _) (fun k e => (Option.some.inj e).symm)) fun b hb' e => ?_, h2⟩
    subst e
    exact (h2 b hb').2 (by rw [hv]; rfl)
/-- An outline of the row is set. -/
theorem Rows.setU {w : World} {base : Nat} {v : Value} {us : List (Value × Ent)} (h : Rows w base v us) {j : Nat} {p : Value × Ent} (hj : us[j]? = some p) {u : Value} {xs : List Int} (hu : Off w base v.ownBlock u xs) :
    ∃ g cap, v = .slice (some ⟨g, 0, none⟩) us.length cap ∧ us.length ≤ cap ∧ base ≤ g ∧ g < w.heap.size ∧ w.frozen? ⟨g, j * 2, none⟩ = false ∧ w.cell? ⟨g, j * 2, none⟩ = some p.1 ∧ Rows (w.setCell ⟨g, j * 2, none⟩ u) base v (us.set j (u, (xs, p.2.2))) := by
  have hl := (List.getElem?_eq_some_iff.1 hj).1
  obtain ⟨g, cap, hv, hc, hb, hlt, hf, hcell, hrow⟩ := own_setC h.row (by omega) (j * 2) (by omega) u
  refine ⟨g, cap, hv, hc, hb, hlt, hf, hcell _ (enCells_at us j p hj).1, ?_, fun q hq => ?_⟩
  · rw [List.length_set, enCells_setU us j p hj u xs]; exact hrow
  · have ho : Off w base v.ownBlock q.1 q.2.1 := by
      rcases List.mem_or_eq_of_mem_set hq with hq | rfl
      · exact h.ints q hq
      · exact hu
    refine ⟨ho.1.touch (T := fun b => b = g) (Touch.grown (grown_setC w g _ _) (fun k e => (Option.some.inj e).symm)) fun b hb' e => ?_, ho.2⟩
    subst e
    exact (ho.2 b hb').2 (by rw [hv]; rfl)
/-- A drawn dictionary. -/
def DDict (base : Nat) (w' : World) (r : Ending) : Prop := ∃ (v : Value) (us : List (Value × Ent)), r = .returned (dV v) ∧ Rows w' base v us ∧ us.length ≤ 60 ∧ ∀ p ∈ us, p.2.1.length ≤ 8 ∧ p.2.2.size ≤ 60
/-- A drawn entry. -/
def DEnt (base : Nat) (w' : World) (r : Ending) : Prop := ∃ (u : Value) (e : Ent), r = .returned (enV u e.2) ∧ w'.ownsRow base 3 1 u e.1.length (e.1.map (.int .i64)) ∧ e.1.length ≤ 3 ∧ e.2.size ≤ 60
set_option maxHeartbeats 2000000 in
theorem entry_any (B N : Nat) (w : World) (h : Cur w B N) (hN : N ≤ 800000) :
    Calls Tryz.prog 74 #[.pointer (some ⟨B, 0, none⟩)] w fun r w' => DEnt w.heap.size w' r ∧ Cur w' B (N + 100) ∧ w.grownBy w' (some B) := by
  have CO := Lib.hid (fun N w h hN => outline_any B N w h hN)
  have CT := Lib.hid (fun N w h hN => translation_any B N w h hN)
  have hlt := h.lt
  have HC0 := Lib.hid (h.below (below_al w (.cells #[.slice none 0 0, .string ⟨#[]⟩] 58)))
  have HR0 : Hid ((w.alloc (.cells #[.slice none 0 0, .string ⟨#[]⟩] 58)).heap[w.heap.size]? = some (.cells #[.slice none 0 0, .string ⟨#[]⟩] 58 (0, 0))) := heap_alloc_new _ _
  clear h
  go_enter Tryz.func74, Tryz.ntmps74
  go_wp2_with fail
  refine (CO.out _ _ HC0.out (by omega)).mono ?_
  rintro e w1 ⟨⟨v, xs, rfl, ho1, hl1, _⟩, hc1, hg1⟩
  rw [World.size_alloc] at ho1
  have HO1 := Lib.hid ho1
  have HR1 : Hid (w1.heap[w.heap.size]? = some (.cells #[.slice none 0 0, .string ⟨#[]⟩] 58 (0, 0))) := (hg1.block _ (by simp) (by simp; omega)).trans HR0.out
  have HC1 := Lib.hid hc1
  have HG1 := Lib.hid (grown_allocA hg1)
  clear hc1 hg1 ho1 HR0 HC0
  go_wp2_with fail
  refine (CT.out _ _ HC1.out (by omega)).mono ?_
  rintro e w2 ⟨⟨x, hx, rfl⟩, hc2, hg2⟩
  have HO2 := Lib.hid (own_keepI HO1.out hg2 (by omega))
  have HR2 : Hid (w2.heap[w.heap.size]? = some (.cells #[.slice none 0 0, .string ⟨#[]⟩] 58 (0, 0))) := (hg2.block _ (by have := (Array.getElem?_eq_some_iff.1 HR1.out).1; omega) (by simp; omega)).trans HR1.out
  have HC2 := Lib.hid hc2
  have HG2 := Lib.hid (Lib.grownBy_trans HG1.out hg2)
  obtain ⟨a, c, rfl⟩ := (ownInts_of HO2.out).form
  clear hc2 hg2 HO1 HR1 HC1 HG1
  go_wp2_with (with_reducible (show wpList _ _ _ (_ :: _) _ _); refine en_store rfl _ _ rfl w.heap.size _ x _ _ rfl rfl HR2.out rfl ?_)
  (try simp only [Exit.inBlock, Exit.then])
  refine bodyPost_ret (results_cell_row rfl _ _ w.heap.size _ _ _ _ rfl (setRow_heap _ _ _ _ _ _ HR2.out) Tryz.underlying58 rfl (by kernel_rfl)) rfl ?_
  have hk := (setRow_grown (cs' := #[.slice a xs.length c, .string x]) HR2.out).2
  exact ⟨⟨_, (xs, x), rfl, ownsRow_mono (own_keepI HO2.out hk (Nat.lt_succ_self _)) (Nat.le_succ _), hl1, hx⟩, (HC2.out.mono (by omega)).setRow hlt _, grown_setRow HG2.out (Nat.le_refl _) _⟩
set_option maxHeartbeats 4000000 in
theorem dictionary_any (B N : Nat) (w : World) (h : Cur w B N) (hN : N ≤ 700000) :
    Calls Tryz.prog 73 #[.pointer (some ⟨B, 0, none⟩)] w fun r w' => (∃ (v : Value) (us : List (Value × Ent)), r = .returned (dV v) ∧ Rows w' w.heap.size v us ∧ 1 ≤ us.length ∧ us.length ≤ 10 ∧ ∀ p ∈ us, p.2.1.length ≤ 8 ∧ p.2.2.size ≤ 60) ∧ Cur w' B (N + 2000) ∧ w.grownBy w' (some B) := by
  have CP := Lib.hid (fun N n w h hN h0 h1 => pick_any B N n w h hN h0 h1)
  have CE := Lib.hid (fun N w h hN => entry_any B N w h hN)
  have cu := fun v es u e w h hu hn hx he => l6Put_any v es u e w h hu hn hx he
  unfold dV at cu
  have CU := Lib.hid cu
  clear cu
  unfold dV
  have hlt := h.lt
  obtain ⟨w0, hw0⟩ : ∃ w0, w0 = (w.alloc (.cells #[.slice none 0 0] 26)).alloc (.cells #[.slice none 0 0] 26) := ⟨_, rfl⟩
  have hb0 : Below w.heap.size w w0 := by rw [hw0]; exact below_al2 _ _ _
  have hs0 : w0.heap.size = w.heap.size + 1 + 1 := by rw [hw0]; simp
  have HR0 : Hid (BoxV w0 w.heap.size 26 (.slice none 0 0)) := by rw [hw0]; exact (BoxV.new w _ _).below (below_al _ _) (by simp)
  have HD0 : Hid (BoxV w0 (w.heap.size + 1) 26 (.slice none 0 0)) := by
    have e := BoxV.new (w.alloc (.cells #[.slice none 0 0] 26)) 26 (.slice none 0 0)
    rw [World.size_alloc] at e
    rw [hw0]; exact e
  have HC0 := Lib.hid (h.below hb0)
  have HB0 := Lib.hid hb0
  have HW0 := Lib.hid hw0
  clear h hb0 hw0
  go_enter Tryz.func73, Tryz.ntmps73
  go_wp2_with fail
  rw [← HW0.out]
  refine (CP.out _ _ _ HC0.out (by omega) (by omega) (by omega)).mono ?_
  rintro e w1 ⟨⟨r, r0, r1, rfl⟩, hc1, hg1⟩
  obtain ⟨R, rfl⟩ := Int.eq_ofNat_of_zero_le r0
  have HC1 := Lib.hid hc1
  have HG1 : Hid (w.grownBy w1 (some B)) := Lib.grownBy_trans ⟨HB0.out.os, HB0.out.tape, HB0.out.output, HB0.out.size, fun k hk _ => HB0.out.block k hk⟩ hg1
  have HR1 := Lib.hid (HR0.out.keep hg1 hlt)
  have HD1 := Lib.hid (HD0.out.keep hg1 (by omega))
  clear hc1 hg1 HR0 HD0 HC0 HB0 HW0
  go_wp2_with fail
  go_loopw [4] (fun i wr => ∃ (k : Nat) (v : Value) (us : List (Value × Ent)), i = .int .i64 k ∧ k ≤ 9 ∧ us.length + k ≤ 9 ∧ (us = [] → 3 ≤ k) ∧ Hid (BoxV wr w.heap.size 26 (.slice none 0 0)) ∧ Hid (BoxV wr (w.heap.size + 1) 26 v) ∧ Hid (Rows wr (w.heap.size + 1 + 1) v us) ∧ Hid (∀ p ∈ us, p.2.1.length ≤ 8 ∧ p.2.2.size ≤ 60) ∧ Hid (Cur wr B (N + 2000 - 110 * k)) ∧ Hid (w.grownBy wr (some B))) (fun i _ => (intOf i).toNat)
  case atStart => exact ⟨3 + R, _, [], by go_num, by omega, by simp; omega, by omega, HR1, HD1, Rows.nil _ _, fun p hp => by simp at hp, HC1.out.mono (by omega), HG1⟩
  case round =>
    obtain ⟨k, v, us, rfl, hk, hlen, hne, HR, HD, HE, HX, HC, HG⟩ := hrel
    by_cases hpos : 0 < k
    · have hpos' : (0 : Int) < (k : Int) := by omega
      obtain ⟨va, vc, hvf⟩ := HE.out.form
      subst hvf
      have hsr := HG.out.size
      have cD := HD.out.cell
      have kD : ∀ p : Seen (w.heap.size + 1) (.slice va us.length vc), p.world.cell? ⟨w.heap.size + 1, 0, none⟩ = some (.slice va us.length vc) := fun p => p.cell
      go_wp2_with fail
      refine Mx.wp_region_mix (S := fun w' => ∃ p : Seen (w.heap.size + 1) (.slice va us.length vc), w' = p.world) (Mx.ofL [(0, 1), (1, 0), (2, 2), (3, 3), (4, 3)] .done) (by kernel_rfl) (by kernel_rfl) ⟨⟨wr.drew, HD.out.cell⟩, rfl⟩ ?_
      refine Mx.mix1 rfl ?_
      go_big_quiet_step (rfl)
      refine wpQuiet_nil ?_
      refine Mx.mix0 rfl ?_
      go_big_quiet_step (fail)
      refine wpQuiet_nil ?_
      refine Mx.mix2 rfl ?_
      clear cD kD
      go_wp2_with fail
      refine (CE.out _ wr.drew (HC.out.below (below_drew1 (Below.refl _ _))) (by omega)).mono ?_
      rintro r w4 ⟨⟨u, e, rfl, hu, hel, het⟩, hc4, hg4⟩
      have hl := HD.out.lt
      have hdr : Below wr.heap.size wr wr.drew := below_drew1 (Below.refl _ _)
      have HR4 := Lib.hid ((HR.out.below hdr HR.out.lt).keep hg4 hlt)
      have HD4 := Lib.hid ((HD.out.below hdr HD.out.lt).keep hg4 (by omega))
      have HE4 := Lib.hid ((HE.out.below hdr).keep hg4 (by omega))
      have HC4 := Lib.hid hc4
      have HG4 := Lib.hid (Lib.grownBy_trans (Lib.grownBy_below HG.out hdr) hg4)
      have HU4 := Lib.hid (row_M hu)
      have hs4 : wr.heap.size ≤ w4.heap.size := hg4.size
      have HCell := Lib.hid HD4.out.cell
      clear hc4 hg4 hdr hu HR HD HE HC HG
      go_wp2
      refine Mx.mid_normal (fun _ => ⟨⟨_, HCell.out⟩, rfl⟩) ?_
      refine Mx.mix3 rfl ?_
      go_wp2_with fail
      refine (CU.out _ _ _ e w4 HE4.out.at HU4.out (by rw [List.length_map]; omega) (fun x hx => by
        obtain ⟨p, hp, rfl⟩ := List.mem_map.1 hx
        have := HX.out p hp
        exact ⟨by omega, by omega⟩) ⟨by omega, by omega⟩).mono ?_
      rintro r w5 ⟨⟨v5, us5, rfl, hr5, he5⟩, hb5⟩
      obtain ⟨a5, c5, hf5⟩ := hr5.form
      subst hf5
      have hlen5 : us5.length ≤ us.length + 1 := by
        have := Pl.put_len e (us.map (·.2))
        rw [← he5, List.length_map, List.length_map] at this
        exact this
      have hne5 : us5 ≠ [] := fun hh => by
        have := Pl.look_put_same e (us.map (·.2))
        rw [← he5, hh] at this
        cases this
      have HX5 : Hid (∀ p ∈ us5, p.2.1.length ≤ 8 ∧ p.2.2.size ≤ 60) := by
        intro p hp
        have hm : p.2 ∈ Pl.put e (us.map (·.2)) := by rw [← he5]; exact List.mem_map.2 ⟨p, hp, rfl⟩
        rcases Pl.put_mem hm with h | h
        · rw [h]; exact ⟨by omega, het⟩
        · obtain ⟨p', hp', hh⟩ := List.mem_map.1 h
          have := HX.out p' hp'
          rw [hh] at this
          exact this
      have HD5 := Lib.hid (HD4.out.below hb5 HD4.out.lt)
      have HR5 := Lib.hid ((HR4.out.below hb5 HR4.out.lt).other (x := .slice a5 us5.length c5) (g := w.heap.size + 1) (o := 0) (by omega))
      have HE5 := Lib.hid ((hr5.mono (show w.heap.size + 1 + 1 ≤ w4.heap.size by omega)).setCell (B := w.heap.size + 1) (o := 0) (x := .slice a5 us5.length c5) (by omega))
      have HD6 := Lib.hid (HD5.out.set (.slice a5 us5.length c5))
      have HC5 := Lib.hid ((HC4.out.below hb5).setCellA (R := w.heap.size + 1) (by omega) 0 (.slice a5 us5.length c5))
      have HG5 := Lib.hid (grown_setCell (Lib.grownBy_below HG4.out hb5) (R := w.heap.size + 1) (by omega) 0 (.slice a5 us5.length c5))
      have cX := HD5.out.cell
      have fX := HD5.out.frozen
      clear hb5 hr5 he5 HD4 HR4 HE4 HC4 HG4 HU4 HX HD5 HCell
      go_wp2
      refine Mx.mid_normal (fun q => by cases q) ?_
      refine Mx.mix3 rfl ?_
      go_wp2_with fail
      refine Mx.mid_normal (fun q => by cases q) ?_
      refine Mx.mix_nil ?_
      clear cX fX
      go_wp2
      go_roundw
      case rel => exact ⟨k - 1, _, us5, by first | go_num | (congr 1; omega), by omega, by omega, fun hh => absurd hh hne5, HR5, HD6, HE5, HX5, HC5.out.mono (by omega), HG5⟩
      case measure => simp [intOf]; omega
    · obtain rfl : k = 0 := by omega
      obtain ⟨va, vc, hvf⟩ := HE.out.form
      subst hvf
      have hn1 : 1 ≤ us.length := by
        rcases Nat.eq_zero_or_pos us.length with h0 | h0
        · have := hne (List.length_eq_zero_iff.1 h0); omega
        · exact h0
      have cD := HD.out.cell
      have cR := HR.out.cell
      have fR := HR.out.frozen
      go_wp2
      refine bodyPost_ret (results_cell_row rfl _ _ _ _ _ _ _ rfl (HR.out.set _) Tryz.underlying26 rfl (by kernel_rfl)) rfl ?_
      exact ⟨⟨_, us, rfl, (HE.out.setCell (by omega)).mono (by omega), hn1, by omega, HX.out⟩, (HC.out.mono (by omega)).setCellA (by omega) _ _, grown_setCell HG.out (Nat.le_refl _) _ _⟩
/-- A drawn dictionary on its way: its box D, the result's box, its row, the cursor B. -/
structure DS (w wx : World) (D B N L : Nat) (v : Value) (us : List (Value × Ent)) : Prop where
  box : BoxV wx D 26 v
  res : BoxV wx w.heap.size 26 (.slice none 0 0)
  rows : Rows wx (w.heap.size + 1) v us
  av : v.ownBlock ≠ some D
  au : ∀ p ∈ us, p.1.ownBlock ≠ some D
  len : us.length ≤ L
  small : ∀ p ∈ us, p.2.1.length ≤ 8 ∧ p.2.2.size ≤ 60
  cur : Cur wx B N
  grown : w.grownBy wx (some B)
  hD : w.heap.size < D
  hB : B < w.heap.size
theorem DS.keep {w wx wy : World} {D B N N' L : Nat} {v : Value} {us : List (Value × Ent)} (h : DS w wx D B N L v us) (hg : wx.grownBy wy (some B)) (hc : Cur wy B N') : DS w wy D B N' L v us :=
  ⟨h.box.keep hg (by have := h.hD; have := h.hB; omega), h.res.keep hg h.hB, h.rows.keep hg (by have := h.hB; omega), h.av, h.au, h.len, h.small, hc, Lib.grownBy_trans h.grown hg, h.hD, h.hB⟩
theorem DS.below {w wx wy : World} {D B N L : Nat} {v : Value} {us : List (Value × Ent)} (h : DS w wx D B N L v us) (hb : Below wx.heap.size wx wy) : DS w wy D B N L v us :=
  ⟨h.box.below hb h.box.lt, h.res.below hb h.res.lt, h.rows.below hb, h.av, h.au, h.len, h.small, h.cur.below hb, Lib.grownBy_below h.grown hb, h.hD, h.hB⟩
theorem DS.mono {w wx : World} {D B N N' L L' : Nat} {v : Value} {us : List (Value × Ent)} (h : DS w wx D B N L v us) (hN : N ≤ N') (hL : L ≤ L') : DS w wx D B N' L' v us :=
  ⟨h.box, h.res, h.rows, h.av, h.au, Nat.le_trans h.len hL, h.small, h.cur.mono hN, h.grown, h.hD, h.hB⟩
/-- The box's cell is set. -/
theorem DS.put {w wx : World} {D B N L L' : Nat} {v v' : Value} {us us' : List (Value × Ent)} (h : DS w wx D B N L v us) (hr : Rows wx (w.heap.size + 1) v' us') (av : v'.ownBlock ≠ some D) (au : ∀ p ∈ us', p.1.ownBlock ≠ some D)
    (hl : us'.length ≤ L') (hs : ∀ p ∈ us', p.2.1.length ≤ 8 ∧ p.2.2.size ≤ 60) : DS w (wx.setCell ⟨D, 0, none⟩ v') D B N L' v' us' :=
  ⟨h.box.set _, h.res.other (by have := h.hD; omega), hr.setOther av au, av, au, hl, hs, h.cur.setCellA (by have := h.hD; have := h.hB; omega) _ _, grown_setCell h.grown (by have := h.hD; omega) _ _, h.hD, h.hB⟩
theorem DS.clear {w wx : World} {D B N L : Nat} {v : Value} {us : List (Value × Ent)} (h : DS w wx D B N L v us) : DS w (wx.setCell ⟨D, 0, none⟩ (.slice none 0 0)) D B N 0 (.slice none 0 0) [] :=
  h.put (Rows.nil _ _) (by simp [Value.ownBlock]) (fun p hp => by cases hp) (Nat.le_refl _) (fun p hp => by cases hp)
/-- What an append leaves. -/
theorem DS.push {w w4 w5 : World} {D B N L : Nat} {v v' u : Value} {us : List (Value × Ent)} {e : Ent} {o : Obj} (h : DS w w4 D B N L v us) (hR : Rows w5 (w.heap.size + 1) v' (us ++ [(u, e)])) (hg : (w4.alloc o).grownBy w5 v.ownBlock)
    (hat : v'.ownBlock = v.ownBlock ∨ v'.ownBlock = some (w4.heap.size + 1)) (hu : u.ownBlock ≠ some D) (he : e.1.length ≤ 8 ∧ e.2.size ≤ 60) : DS w (w5.setCell ⟨D, 0, none⟩ v') D B N (L + 1) v' (us ++ [(u, e)]) := by
  have hD := h.hD
  have hB := h.hB
  have hlt := h.box.lt
  have hb := below_al w4 o
  have hr : ∀ k, v.ownBlock = some k → w.heap.size + 1 ≤ k := fun k hk => (h.rows.row.lt k hk).1
  have hav : v'.ownBlock ≠ some D := by
    rcases hat with e | e
    · rw [e]; exact h.av
    · rw [e]; intro q; injection q with q; omega
  have hau : ∀ p ∈ us ++ [(u, e)], p.1.ownBlock ≠ some D := by
    intro p hp
    rcases List.mem_append.1 hp with hp | hp
    · exact h.au p hp
    · have : p = (u, e) := by simpa using hp
      subst this; exact hu
  refine ⟨((h.box.below hb hlt).grown hg (fun e => h.av e.symm)).set _, ((h.res.below hb h.res.lt).grown hg (fun e => by have := hr _ e.symm; omega)).other (by omega), hR.setOther hav hau, hav, hau,
    by rw [List.length_append]; have := h.len; simp; omega, ?_, ((h.cur.below hb).rowA hg (fun k hk => by have := hr k hk; omega)).setCellA (by omega) _ _,
    grown_setCell (grown_rowA (Lib.grownBy_below h.grown hb) hg (fun k hk => by have := hr k hk; omega)) (by omega) _ _, hD, hB⟩
  intro p hp
  rcases List.mem_append.1 hp with hp | hp
  · exact h.small p hp
  · have : p = (u, e) := by simpa using hp
    subst this; exact he
/-- A text is set. -/
theorem DS.setT {w wx : World} {D B N L : Nat} {v : Value} {us : List (Value × Ent)} (h : DS w wx D B N L v us) {j : Nat} {p : Value × Ent} (hj : us[j]? = some p) (t : ByteArray) (ht : t.size ≤ 60) :
    ∃ g cap, v = .slice (some ⟨g, 0, none⟩) us.length cap ∧ us.length ≤ cap ∧ wx.frozen? ⟨g, j * 2 + 1, none⟩ = false ∧ wx.cell? ⟨g, j * 2 + 1, none⟩ = some (.string p.2.2) ∧ DS w (wx.setCell ⟨g, j * 2 + 1, none⟩ (.string t)) D B N L v (us.set j (p.1, (p.2.1, t))) := by
  obtain ⟨g, cap, hv, hc, hb, hlt, hf, hcell, hR⟩ := h.rows.setT hj t
  have hgD : g ≠ D := fun e => h.av (by rw [hv, ← e]; rfl)
  have hB := h.hB
  refine ⟨g, cap, hv, hc, hf, hcell, h.box.other hgD, h.res.other (by omega), hR, h.av, fun q hq => ?_, by rw [List.length_set]; exact h.len, fun q hq => ?_, h.cur.setCellA (by omega) _ _, grown_setCell h.grown (by omega) _ _, h.hD, h.hB⟩
  · rcases List.mem_or_eq_of_mem_set hq with hq | rfl
    · exact h.au q hq
    · exact h.au p (List.mem_of_getElem? hj)
  · rcases List.mem_or_eq_of_mem_set hq with hq | rfl
    · exact h.small q hq
    · exact ⟨(h.small p (List.mem_of_getElem? hj)).1, ht⟩
/-- An outline is set. -/
theorem DS.setU {w wx : World} {D B N L : Nat} {v : Value} {us : List (Value × Ent)} (h : DS w wx D B N L v us) {j : Nat} {p : Value × Ent} (hj : us[j]? = some p) {u : Value} {xs : List Int} (hu : Off wx (w.heap.size + 1) v.ownBlock u xs) (hD : u.ownBlock ≠ some D) (hx : xs.length ≤ 8) :
    ∃ g cap, v = .slice (some ⟨g, 0, none⟩) us.length cap ∧ us.length ≤ cap ∧ wx.frozen? ⟨g, j * 2, none⟩ = false ∧ wx.cell? ⟨g, j * 2, none⟩ = some p.1 ∧ DS w (wx.setCell ⟨g, j * 2, none⟩ u) D B N L v (us.set j (u, (xs, p.2.2))) := by
  obtain ⟨g, cap, hv, hc, hb, hlt, hf, hcell, hR⟩ := h.rows.setU hj hu
  have hgD : g ≠ D := fun e => h.av (by rw [hv, ← e]; rfl)
  have hB := h.hB
  refine ⟨g, cap, hv, hc, hf, hcell, h.box.other hgD, h.res.other (by omega), hR, h.av, fun q hq => ?_, by rw [List.length_set]; exact h.len, fun q hq => ?_, h.cur.setCellA (by omega) _ _, grown_setCell h.grown (by omega) _ _, h.hD, h.hB⟩
  · rcases List.mem_or_eq_of_mem_set hq with hq | rfl
    · exact h.au q hq
    · exact hD
  · rcases List.mem_or_eq_of_mem_set hq with hq | rfl
    · exact h.small q hq
    · exact ⟨hx, (h.small p (List.mem_of_getElem? hj)).2⟩
set_option maxHeartbeats 8000000 in
theorem anyDictionary_any (B N : Nat) (w : World) (h : Cur w B N) (hN : N ≤ 600000) :
    Calls Tryz.prog 36 #[.pointer (some ⟨B, 0, none⟩)] w fun r w' => DDict w.heap.size w' r ∧ Cur w' B (N + 4000) ∧ w.grownBy w' (some B) := by
  have CP := Lib.hid (fun N n w h hN h0 h1 => pick_any B N n w h hN h0 h1)
  have C1 := Lib.hid (fun N n w h hN h0 h1 => one_any B N n w h hN h0 h1)
  have cd := fun N w h hN => dictionary_any B N w h hN
  have ce := fun N w h hN => entry_any B N w h hN
  have ca := fun N w h hN => anyOutline_any B N w h hN
  unfold dV at cd
  unfold DEnt enV at ce
  unfold Drawn at ca
  have CD := Lib.hid cd
  have CE := Lib.hid ce
  have CA := Lib.hid ca
  have hlt := h.lt
  unfold DDict dV
  have HC0 := Lib.hid (h.below (below_al w (.cells #[.slice none 0 0] 26)))
  have HR0 : Hid (BoxV (w.alloc (.cells #[.slice none 0 0] 26)) w.heap.size 26 (.slice none 0 0)) := BoxV.new _ _ _
  clear h cd ce ca
  go_enter Tryz.func36, Tryz.ntmps36
  go_wp2_with fail
  refine (CD.out _ _ HC0.out (by omega)).mono ?_
  rintro r w1 ⟨⟨v, us, rfl, hr1, hu1, hl1, hx1⟩, hc1, hg1⟩
  have hs1 := hg1.size
  rw [World.size_alloc] at hr1 hs1
  obtain ⟨va, vc, hvf⟩ := hr1.form
  subst hvf
  obtain ⟨w2, hw2⟩ : ∃ W, W = w1.alloc (.cells #[.slice va us.length vc] 26) := ⟨_, rfl⟩
  have S2 : Hid (DS w w2 w1.heap.size B (N + 2000) 10 (.slice va us.length vc) us) := by
    rw [hw2]
    exact ⟨BoxV.new _ _ _, (HR0.out.keep hg1 hlt).below (below_al _ _) (by omega), hr1.below (below_al _ _), fun e => by have := (hr1.row.lt _ e).2; omega, fun p hp e => by have := intsM_block (hr1.ints p hp).1 _ e; omega, hl1, hx1,
      hc1.below (below_al _ _), Lib.grownBy_below (grown_allocA hg1) (below_al _ _), by omega, hlt⟩
  have HW2 := Lib.hid hw2
  clear hw2 hr1 hl1 hx1 hc1 hg1 HR0 HC0 CD hlt
  go_wp2_with fail
  rw [← HW2.out]
  obtain ⟨D, hD⟩ : ∃ D, D = w1.heap.size := ⟨_, rfl⟩
  rw [← hD] at S2 ⊢
  refine (CP.out _ _ _ S2.out.cur (by omega) (by omega) (by omega)).mono ?_
  rintro r w3 ⟨⟨q, q0, q1, rfl⟩, hc3, hg3⟩
  have S3 := Lib.hid (S2.out.keep hg3 hc3)
  have hwD := S2.out.hD
  have hBw := S2.out.hB
  have hD3 := S3.out.box.lt
  clear hc3 hg3 S2 HW2 hD hs1
  go_upto_block 0 with fail
  go_cut [] from 5 (fun wx => ∃ (v : Value) (us : List (Value × Ent)), Hid (DS w wx D B (N + 2400) 11 v us))
  case first =>
    have hr : q = 0 ∨ q = 1 ∨ q = 2 ∨ q = 3 ∨ 4 ≤ q := by omega
    rcases hr with rfl | rfl | rfl | rfl | hr
    · have cD := S3.out.box.cell
      have kD : ∀ p : Seen D (.slice va us.length vc), p.world.cell? ⟨D, 0, none⟩ = some (.slice va us.length vc) := fun p => p.cell
      go_wp2_with fail
      refine Mx.wp_region_mix (S := fun w' => ∃ p : Seen D (.slice va us.length vc), w' = p.world) (Mx.ofL [(0, 0), (1, 1), (2, 0), (3, 2), (4, 2), (5, 3), (6, 0), (7, 3)] .done) (by kernel_rfl) (by kernel_rfl) ⟨⟨w3.drew, S3.out.box.cell⟩, rfl⟩ ?_
      repeat ((first | refine Mx.mix0 rfl ?_ | refine Mx.mix1 rfl ?_); go_big_quiet_step (rfl); refine wpQuiet_nil ?_)
      refine Mx.mix2 rfl ?_
      clear cD kD
      have S3d := Lib.hid (S3.out.below (below_drew1 (Below.refl _ _)))
      go_wp2_with fail
      refine (CE.out _ w3.drew S3d.out.cur (by omega)).mono ?_
      rintro r w4 ⟨⟨u, e, rfl, hu, hel, het⟩, hc4, hg4⟩
      have hl4 : w3.heap.size ≤ w4.heap.size := hg4.size
      have S4 := Lib.hid (S3d.out.keep hg4 hc4)
      have U4 := Lib.hid (off_new hu S3d.out.rows (by show w.heap.size + 1 ≤ w3.heap.size; omega))
      have HuD : Hid (u.ownBlock ≠ some D) := fun e' => by have := (hu.lt _ e').1; have : w3.heap.size ≤ D := this; omega
      have HCell := Lib.hid S4.out.box.cell
      have HCell2 : ∀ o, Hid ((w4.alloc o).cell? ⟨D, 0, none⟩ = some (.slice va us.length vc)) := fun o => (S4.out.box.below (below_al w4 o) S4.out.box.lt).cell
      obtain ⟨ua, uc, huf⟩ := (ownInts_of hu).form
      subst huf
      clear hu hc4 hg4 S3d S3
      go_wp2
      refine Mx.mid_normal (fun _ => ⟨⟨_, HCell.out⟩, rfl⟩) ?_
      refine Mx.mix2 rfl ?_
      go_wp2
      refine Mx.mid_normal (fun _ => ⟨⟨_, (HCell2 _).out⟩, rfl⟩) ?_
      refine Mx.mix3 rfl ?_
      refine push_ent rfl (.tmp 12) (.tmp 15) rfl (w.heap.size + 1) _ us rfl S4.out.rows _ e U4.out rfl (by omega) (by have := S4.out.len; omega) ?_
      intro v' w5 R5 hg5 hat5
      have S6 := Lib.hid (S4.out.push R5 hg5 hat5 HuD.out ⟨by omega, het⟩)
      have hX := (S4.out.box.below (below_al w4 (.cells #[.slice ua e.1.length uc, .string e.2] 58)) S4.out.box.lt).grown hg5 (fun e => S4.out.av e.symm)
      have cX := hX.cell
      have fX := hX.frozen
      obtain ⟨va', vc', hvf'⟩ := R5.form1
      subst hvf'
      clear R5 hg5 hat5 hX HCell HCell2 U4 HuD S4
      refine Mx.mid_normal (fun q => by cases q) ?_
      simp only [Act.put, List.setIfInBounds_toArray, List.set_cons_zero, List.set_cons_succ]
      repeat ((first | refine Mx.mix0 rfl ?_ | refine Mx.mix1 rfl ?_); go_big_quiet_step (rfl); refine wpQuiet_nil ?_)
      refine Mx.mix3 rfl ?_
      go_wp2
      refine Mx.mid_normal (fun q => by cases q) (Mx.mix_nil ?_)
      go_wp2_with fail
      go_meet
      case rel => exact ⟨_, _, S6.out.mono (by omega) (by omega)⟩
    · obtain ⟨p0, hp0⟩ : ∃ p0, us[0]? = some p0 := ⟨_, List.getElem?_eq_getElem (by omega)⟩
      obtain ⟨g, cap, hv, hcap, _⟩ := S3.out.setT hp0 ByteArray.empty (by decide)
      injection hv with hva hvn hvc
      subst hva hvc
      have cD := S3.out.box.cell
      have kD : ∀ p : Seen D (.slice (some ⟨g, 0, none⟩) us.length vc), p.world.cell? ⟨D, 0, none⟩ = some (.slice (some ⟨g, 0, none⟩) us.length vc) := fun p => p.cell
      go_wp2_with fail
      refine Mx.wp_region_mix (S := fun w' => ∃ p : Seen D (.slice (some ⟨g, 0, none⟩) us.length vc), w' = p.world) (Mx.ofL [(0, 0), (1, 1), (2, 0), (3, 2), (4, 2), (5, 0), (6, 0), (7, 3)] .done) (by kernel_rfl) (by kernel_rfl) ⟨⟨w3.drew, S3.out.box.cell⟩, rfl⟩ ?_
      repeat ((first | refine Mx.mix0 rfl ?_ | refine Mx.mix1 rfl ?_); go_big_quiet_step (rfl); refine wpQuiet_nil ?_)
      refine Mx.mix2 rfl ?_
      clear cD kD
      have S3d := Lib.hid (S3.out.below (below_drew1 (Below.refl _ _)))
      have HCell2 : ∀ o, Hid ((w3.alloc o).drew.cell? ⟨D, 0, none⟩ = some (.slice (some ⟨g, 0, none⟩) us.length vc)) := fun o => (S3.out.box.below (below_al w3 o) S3.out.box.lt).cell
      go_wp2
      refine Mx.mid_normal (fun _ => ⟨⟨_, (HCell2 _).out⟩, rfl⟩) ?_
      refine Mx.mix2 rfl ?_
      go_wp2_with fail
      refine (of_new B _ w3.drew _ 3 S3d.out.cur (by omega) ?_ rfl (by decide) (by decide)).mono ?_
      · kernel_rfl
      rintro r w4 ⟨⟨x, hx, rfl⟩, hc4, hg4⟩
      have S4 := Lib.hid (S3d.out.keep hg4 hc4)
      have HCell := Lib.hid S4.out.box.cell
      obtain ⟨g', cap', hv', _, hf, hcell, hS⟩ := S4.out.setT hp0 x (by omega)
      injection hv' with hva' hvn' hvc'
      injection hva' with hva'
      injection hva' with hva'
      subst hva' hvc'
      have HF : Hid (w4.frozen? ⟨g, 1, none⟩ = false) := hf
      have HC : Hid (w4.cell? ⟨g, 1, none⟩ = some (.string p0.2.2)) := hcell
      have S6 : Hid (DS w (w4.setCell ⟨g, 1, none⟩ (.string x)) D B (N + 2000 + 2 + 2) 10 (.slice (some ⟨g, 0, none⟩) us.length vc) (us.set 0 (p0.1, (p0.2.1, x)))) := hS
      have h0 : 0 < us.length := by omega
      clear hf hcell hS hc4 hg4 S3d S3 S4 HCell2 hp0 hvn hvn'
      go_wp2
      refine Mx.mid_normal (fun _ => ⟨⟨_, HCell.out⟩, rfl⟩) ?_
      repeat ((first | refine Mx.mix0 rfl ?_ | refine Mx.mix1 rfl ?_); go_big_quiet_step (rfl); refine wpQuiet_nil ?_)
      have hfx := HF.out
      have hcx := HC.out
      refine Mx.mix3 rfl ?_
      go_wp2
      refine Mx.mid_normal (fun q => by cases q) (Mx.mix_nil ?_)
      go_wp2_with fail
      go_meet
      case rel => exact ⟨_, _, S6.out.mono (by omega) (by omega)⟩
    · obtain ⟨p0, hp0⟩ : ∃ p0, us[0]? = some p0 := ⟨_, List.getElem?_eq_getElem (by omega)⟩
      obtain ⟨g, cap, hv, hcap, _⟩ := S3.out.setT hp0 ByteArray.empty (by decide)
      injection hv with hva hvn hvc
      subst hva hvc
      have cD := S3.out.box.cell
      have kD : ∀ p : Seen D (.slice (some ⟨g, 0, none⟩) us.length vc), p.world.cell? ⟨D, 0, none⟩ = some (.slice (some ⟨g, 0, none⟩) us.length vc) := fun p => p.cell
      go_wp2_with fail
      refine Mx.wp_region_mix (S := fun w' => ∃ p : Seen D (.slice (some ⟨g, 0, none⟩) us.length vc), w' = p.world) (Mx.ofL [(0, 0), (1, 1), (2, 0), (3, 2), (4, 0), (5, 0), (6, 3)] .done) (by kernel_rfl) (by kernel_rfl) ⟨⟨w3.drew, S3.out.box.cell⟩, rfl⟩ ?_
      repeat ((first | refine Mx.mix0 rfl ?_ | refine Mx.mix1 rfl ?_); go_big_quiet_step (rfl); refine wpQuiet_nil ?_)
      refine Mx.mix2 rfl ?_
      clear cD kD
      have S3d := Lib.hid (S3.out.below (below_drew1 (Below.refl _ _)))
      go_wp2_with fail
      refine (CA.out _ w3.drew S3d.out.cur (by omega)).mono ?_
      rintro r w4 ⟨⟨u, xs, rfl, hu, hxl⟩, hc4, hg4⟩
      have S4 := Lib.hid (S3d.out.keep hg4 hc4)
      have HCell := Lib.hid S4.out.box.cell
      have hof := off_new hu S3d.out.rows (by show w.heap.size + 1 ≤ w3.heap.size; omega)
      obtain ⟨g', cap', hv', _, hf, hcell, hS⟩ := S4.out.setU hp0 hof (fun e' => by have := (hu.lt _ e').1; have : w3.heap.size ≤ D := this; omega) hxl
      injection hv' with hva' hvn' hvc'
      injection hva' with hva'
      injection hva' with hva'
      subst hva' hvc'
      have HF : Hid (w4.frozen? ⟨g, 0, none⟩ = false) := hf
      have HC : Hid (w4.cell? ⟨g, 0, none⟩ = some p0.1) := hcell
      obtain ⟨ua, uc, huf⟩ := (ownInts_of hu).form
      subst huf
      have S6 : Hid (DS w (w4.setCell ⟨g, 0, none⟩ (.slice ua xs.length uc)) D B (N + 2000 + 2 + 100) 10 (.slice (some ⟨g, 0, none⟩) us.length vc) (us.set 0 (.slice ua xs.length uc, (xs, p0.2.2)))) := hS
      have h0 : 0 < us.length := by omega
      clear hf hcell hS hc4 hg4 S3d S3 S4 hp0 hvn hvn' hof hu
      go_wp2
      refine Mx.mid_normal (fun _ => ⟨⟨_, HCell.out⟩, rfl⟩) ?_
      repeat ((first | refine Mx.mix0 rfl ?_ | refine Mx.mix1 rfl ?_); go_big_quiet_step (rfl); refine wpQuiet_nil ?_)
      have hfx := HF.out
      have hcx := HC.out
      refine Mx.mix3 rfl ?_
      go_wp2
      refine Mx.mid_normal (fun q => by cases q) (Mx.mix_nil ?_)
      go_wp2_with fail
      go_meet
      case rel => exact ⟨_, _, S6.out.mono (by omega) (by omega)⟩
    · have cX := S3.out.box.cell
      have fX := S3.out.box.frozen
      have S6 := Lib.hid S3.out.clear
      clear S3
      go_wp2_with fail
      go_meet
      case rel => exact ⟨_, _, S6.out.mono (by omega) (by omega)⟩
    · have n0 : (q == 0) = false := by rw [beq_eq_false_iff_ne]; omega
      have n1 : (q == 1) = false := by rw [beq_eq_false_iff_ne]; omega
      have n2 : (q == 2) = false := by rw [beq_eq_false_iff_ne]; omega
      have n3 : (q == 3) = false := by rw [beq_eq_false_iff_ne]; omega
      go_wp2_with fail
      go_meet
      case rel => exact ⟨_, _, S3.out.mono (by omega) (by omega)⟩
  case rest =>
    obtain ⟨v, us, S0⟩ := hcut
    obtain ⟨va, vc, hvf⟩ := S0.out.rows.form
    subst hvf
    go_wp2_with fail
    refine (C1.out _ _ wc S0.out.cur (by omega) (by omega) (by omega)).mono ?_
    rintro r w5 ⟨⟨b, rfl⟩, hc5, hg5⟩
    have S5 := Lib.hid (S0.out.keep hg5 hc5)
    clear hc5 hg5 S0
    cases b
    · have cX := S5.out.box.cell
      have cR := S5.out.res.cell
      have fR := S5.out.res.frozen
      go_wp2
      refine bodyPost_ret (results_cell_row rfl _ _ _ _ _ _ _ rfl (S5.out.res.set _) Tryz.underlying26 rfl (by kernel_rfl)) rfl ?_
      exact ⟨⟨_, us, rfl, (S5.out.rows.setCell (by omega)).mono (by omega), by have := S5.out.len; omega, S5.out.small⟩, (S5.out.cur.mono (by omega)).setCellA hBw _ _, grown_setCell S5.out.grown (Nat.le_refl _) _ _⟩
    · have cX := S5.out.box.cell
      have fX := S5.out.box.frozen
      have S6 := Lib.hid S5.out.clear
      clear S5
      go_wp2_with fail
      go_loopw [4] (fun i wr => ∃ (k : Nat) (v : Value) (us : List (Value × Ent)), i = .int .i64 ((k + 1 : Nat) : Int) ∧ k ≤ 41 ∧ Hid (DS w wr D B (N + 2500 + 3 * k) k v us)) (fun i _ => 50 - (intOf i).toNat)
      case atStart => exact ⟨0, _, [], by go_num, by omega, S6.out.mono (by omega) (Nat.le_refl _)⟩
      case round =>
        clear cX fX S6
        obtain ⟨k, v, us, rfl, hk, S⟩ := hrel
        obtain ⟨va, vc, hvf⟩ := S.out.rows.form
        subst hvf
        go_wp2_with fail
        refine (CP.out _ _ _ S.out.cur (by omega) (by omega) (by omega)).mono ?_
        rintro r w7 ⟨⟨q, q0, q1, rfl⟩, hc7, hg7⟩
        have S7 := Lib.hid (S.out.keep hg7 hc7)
        have hl7 := S7.out.box.lt
        clear hc7 hg7 S
        by_cases hcd : ((k + 1 : Nat) : Int) ≤ 40 + q
        · have cX := S7.out.box.cell
          have S8 : Hid (DS w (w7.alloc (.cells #[.int .i64 ((k : Int) + 1)] 3)) D B _ k _ us) := S7.out.below (below_al _ _)
          have hU : Hid (Off (w7.alloc (.cells #[.int .i64 ((k : Int) + 1)] 3)) (w.heap.size + 1) (Value.slice va us.length vc).ownBlock (.slice (some ⟨w7.heap.size, 0, none⟩) 1 1) [((k : Int) + 1)]) :=
            ⟨.inr ⟨w7.heap.size, 0, 1, rfl, Nat.le_refl _, by simp, fun j x hx => by
              cases j with
              | zero => simp at hx; subst hx; exact cell_new _ _ _ _
              | succ j => simp at hx⟩, fun b hb => by
              have : b = w7.heap.size := by simpa [Value.ownBlock] using hb.symm
              subst this
              exact ⟨by omega, fun e => by have := (S7.out.rows.row.lt _ e).2; omega⟩⟩
          have hlen := S7.out.len
          have hlt9 : w.heap.size + 1 ≤ (w7.alloc (.cells #[.int .i64 ((k : Int) + 1)] 3)).heap.size := by simp; omega
          clear S7
          go_wp2_with (at_builtin; refine push_ent rfl (.tmp 49) (.tmp 53) rfl (w.heap.size + 1) _ us rfl S8.out.rows (Value.slice (some ⟨w7.heap.size, 0, none⟩) 1 1) (([((k : Int) + 1)], ⟨#[97]⟩) : Ent) hU.out (congrArg (fun x => Value.slice (some ⟨x, 0, none⟩) 1 1) (World.size_alloc ..).symm) hlt9 (by omega) ?_)
          intro v' w9 R9 hg9 hat9
          have S10 := Lib.hid (S8.out.push R9 hg9 (by rw [World.size_alloc]; exact hat9) (fun e => by injection e with e; have : w7.heap.size = D := e; omega) ⟨Nat.le_of_ble_eq_true rfl, Nat.le_of_ble_eq_true rfl⟩)
          have hX := (S8.out.box.below (below_al _ _) S8.out.box.lt).grown hg9 (fun e => S8.out.av e.symm)
          have cY := hX.cell
          have fY := hX.frozen
          obtain ⟨va', vc', hvf'⟩ := R9.form1
          subst hvf'
          clear R9 hg9 hat9 hX S8 hU cX
          go_wp2
          go_roundw
          case rel => exact ⟨k + 1, _, _, by first | go_num | (congr 1; omega), by omega, S10.out.mono (by omega) (by omega)⟩
          case measure => simp [intOf]; omega
        · have cX := S7.out.box.cell
          have cR := S7.out.res.cell
          have fR := S7.out.res.frozen
          go_wp2
          refine bodyPost_ret (results_cell_row rfl _ _ _ _ _ _ _ rfl (S7.out.res.set _) Tryz.underlying26 rfl (by kernel_rfl)) rfl ?_
          exact ⟨⟨_, us, rfl, (S7.out.rows.setCell (by omega)).mono (by omega), by have := S7.out.len; omega, S7.out.small⟩, (S7.out.cur.mono (by omega)).setCellA hBw _ _, grown_setCell S7.out.grown (Nat.le_refl _) _ _⟩
end Go.Proofs.YthigdblloddepaaGreat

namespace Go.Proofs.YthigdblloddepaaGreat
set_option maxRecDepth 100000
open Go.RowKit

theorem Rows.cells {w : World} {base : Nat} {v : Value} {us : List (Value × Ent)} (h : Rows w base v us) (h0 : 0 < us.length) : ∃ g cap, v = .slice (some ⟨g, 0, none⟩) us.length cap ∧ us.length ≤ cap ∧ g < w.heap.size ∧
    ∀ (j : Nat) (p : Value × Ent), us[j]? = some p → w.cell? ⟨g, j * 2, none⟩ = some p.1 ∧ w.cell? ⟨g, j * 2 + 1, none⟩ = some (.string p.2.2) := by
  rcases h.row.2 with ⟨_, h1⟩ | ⟨g, cap, cur, rfl, hbg, hg, hn, hcm, hsz, htake⟩
  · omega
  · have hc : ∀ q x, (enCells us)[q]? = some x → w.cell? ⟨g, q, none⟩ = some x := by
      intro q x hq
      have hql : q < us.length * 2 := by
        rcases Nat.lt_or_ge q (us.length * 2) with h' | h'
        · exact h'
        · rw [List.getElem?_eq_none (by rw [enCells_len]; exact h')] at hq; cases hq
      rw [← htake, List.getElem?_take_of_lt hql] at hq
      simp only [Array.getElem?_toList] at hq
      simp [World.cell?, hg, hq]
    exact ⟨g, cap, rfl, hn, (Array.getElem?_eq_some_iff.1 hg).1, fun j p hp => ⟨hc _ _ (enCells_at us j p hp).1, hc _ _ (enCells_at us j p hp).2⟩⟩
/-- A world in which this cell holds this, and the row its cells. -/
structure SeenR (D : Nat) (v : Value) (g : Nat) (us : List (Value × Ent)) where
  world : World
  cell : world.cell? ⟨D, 0, none⟩ = some v
  row : ∀ (j : Nat) (p : Value × Ent), us[j]? = some p → world.cell? ⟨g, j * 2, none⟩ = some p.1
/-- A drawn dictionary and a drawn list of ints. -/
def DPair (base : Nat) (w' : World) (r : Ending) : Prop := ∃ (v : Value) (us : List (Value × Ent)) (u : Value) (xs : List Int), r = .returned (.tuple #[dV v, u]) ∧ Rows w' base v us ∧ us.length ≤ 60 ∧ (∀ p ∈ us, p.2.1.length ≤ 8 ∧ p.2.2.size ≤ 60) ∧ IntsM w' u xs ∧ xs.length ≤ 8
theorem results_de {fn : Func} {p u : Tmp} (h : fn.results = #[.cell p 26, .cell u 58]) (tmps : Array Value) (w : World) (g g' : Nat) (v x y : Value)
    (hp : tmps.getD p undef = .pointer (some ⟨g, 0, none⟩)) (hg : BoxV w g 26 v) (hq : tmps.getD u undef = .pointer (some ⟨g', 0, none⟩)) (hg' : BoxW w g' 58 x y) :
    (results fn tmps).run Tryz.prog w = .ok (.tuple #[dV v, .agg #[x, y]]) w := by
  have hr := run_loadVar_row (P := Tryz.prog) w g _ 26 _ _ _ hg Tryz.underlying26 rfl (by kernel_rfl)
  have hr' := run_loadVar_row (P := Tryz.prog) w g' _ 58 _ _ _ hg' Tryz.underlying58 rfl (by kernel_rfl)
  have hp' : tmps[p]?.getD undef = .pointer (some ⟨g, 0, none⟩) := by simpa using hp
  have hq' : tmps[u]?.getD undef = .pointer (some ⟨g', 0, none⟩) := by simpa using hq
  simp [results, h, hp', hq', asAddr, hr, hr', Result.andThen, dV]
structure SeenDE (D : Nat) (v : Value) (E : Nat) (x y : Value) where
  world : World
  c0 : world.cell? ⟨D, 0, none⟩ = some v
  c1 : world.cell? ⟨E, 0, none⟩ = some x
  c2 : world.cell? ⟨E, 1, none⟩ = some y
/-- A drawn dictionary and a drawn entry. -/
def DIns (base : Nat) (w' : World) (r : Ending) : Prop := ∃ (v : Value) (us : List (Value × Ent)) (u : Value) (e : Ent), r = .returned (.tuple #[dV v, enV u e.2]) ∧ Rows w' base v us ∧ us.length ≤ 60 ∧ (∀ p ∈ us, p.2.1.length ≤ 8 ∧ p.2.2.size ≤ 60) ∧ IntsM w' u e.1 ∧ e.1.length ≤ 8 ∧ e.2.size ≤ 60
theorem BoxW.grown {w w' : World} {b B : Nat} {T : TypeId} {x y : Value} (h : BoxW w b T x y) (hg : w.grownBy w' (some B)) (hB : b ≠ B) : BoxW w' b T x y := (hg.block b h.lt (by simp; omega)).trans h
structure DI (w wx : World) (D N : Nat) (v : Value) (us : List (Value × Ent)) : Prop where
  box : BoxV wx D 26 v
  res : BoxV wx w.heap.size 26 (.slice none 0 0)
  ren : BoxW wx (w.heap.size + 1) 58 (.slice none 0 0) (.string ⟨#[]⟩)
  rows : Rows wx (w.heap.size + 3) v us
  cur : Cur wx (w.heap.size + 2) N
  low : Below w.heap.size w wx
  hD : w.heap.size + 2 < D
theorem DI.keep {w wx wy : World} {D N N' : Nat} {v : Value} {us : List (Value × Ent)} (h : DI w wx D N v us) (hg : wx.grownBy wy (some (w.heap.size + 2))) (hc : Cur wy (w.heap.size + 2) N') : DI w wy D N' v us :=
  ⟨h.box.keep hg h.hD, h.res.grown hg (by simp), h.ren.grown hg (by omega), h.rows.keep hg (by omega), hc, h.low.grown hg h.low.size (fun b e => by injection e with e; omega), h.hD⟩
theorem DI.below {w wx wy : World} {D N : Nat} {v : Value} {us : List (Value × Ent)} (h : DI w wx D N v us) (hb : Below wx.heap.size wx wy) : DI w wy D N v us :=
  ⟨h.box.below hb h.box.lt, h.res.below hb h.res.lt, h.ren.below hb h.ren.lt, h.rows.below hb, h.cur.below hb, h.low.trans (hb.mono h.low.size), h.hD⟩
theorem DI.fin {w wx : World} {D N : Nat} {v u : Value} {us : List (Value × Ent)} {xs : List Int} (h : DI w wx D N v us) (hi : IntsM wx u xs) (hu : ∀ b, u.ownBlock = some b → w.heap.size + 2 < b) (t : ByteArray) :
    BoxV ((wx.drew.setCell ⟨w.heap.size, 0, none⟩ v).setRow (w.heap.size + 1) #[u, .string t]) w.heap.size 26 v ∧ BoxW ((wx.drew.setCell ⟨w.heap.size, 0, none⟩ v).setRow (w.heap.size + 1) #[u, .string t]) (w.heap.size + 1) 58 u (.string t) ∧
      Rows ((wx.drew.setCell ⟨w.heap.size, 0, none⟩ v).setRow (w.heap.size + 1) #[u, .string t]) (w.heap.size + 3) v us ∧ IntsM ((wx.drew.setCell ⟨w.heap.size, 0, none⟩ v).setRow (w.heap.size + 1) #[u, .string t]) u xs ∧
      Below w.heap.size w ((wx.drew.setCell ⟨w.heap.size, 0, none⟩ v).setRow (w.heap.size + 1) #[u, .string t]) := by
  have hd := h.below (below_drew1 (Below.refl wx.heap.size wx))
  have hi' := hi.below (below_drew1 (Below.refl wx.heap.size wx))
  have hnew : BoxW (wx.drew.setCell ⟨w.heap.size, 0, none⟩ v) (w.heap.size + 1) 58 (.slice none 0 0) (.string ⟨#[]⟩) := hd.ren.other (by omega)
  obtain ⟨h1, hg⟩ := setRow_grown (cs' := #[u, .string t]) hnew
  refine ⟨(hg.block _ (by have := (hd.res.set v).lt; exact this) (by simp)).trans (hd.res.set v), h1, (hd.rows.setCell (by omega)).keep hg (by omega), ?_, (hd.low.setCell (p := ⟨w.heap.size, 0, none⟩) (Nat.le_refl _) _).grown hg (by have := (hd.res.set v).lt; omega) (fun b e => by injection e with e; omega)⟩
  refine (hi'.touch (T := fun b => b = w.heap.size) ((Touch.refl (fun b => b = w.heap.size) _).setCell (g := w.heap.size) rfl _ _) (fun b hb e => by have := hu b hb; omega)).touch (T := fun b => b = w.heap.size + 1) (Touch.grown hg (fun k e => (Option.some.inj e).symm)) (fun b hb e => by have := hu b hb; omega)
theorem DI.setE {w wx : World} {D N E : Nat} {v x : Value} {us : List (Value × Ent)} (h : DI w wx D N v us) (hE : D < E) (hv : v.ownBlock ≠ some E) (hu : ∀ p ∈ us, p.1.ownBlock ≠ some E) (o : Nat) : DI w (wx.setCell ⟨E, o, none⟩ x) D N v us :=
  ⟨h.box.other (by omega), h.res.other (by have := h.hD; omega), h.ren.other (by have := h.hD; omega), h.rows.setOther hv hu, h.cur.setCellA (by have := h.hD; omega) _ _, h.low.setCell (p := ⟨E, o, none⟩) (by have := h.hD; show w.heap.size ≤ E; omega) _, h.hD⟩
end Go.Proofs.YthigdblloddepaaGreat

namespace Go.Proofs.YthigdblloddepaaGreat
set_option maxRecDepth 100000
open Go.RowKit

/-- A drawn dictionary on its way, in its box D; the result's box, the cursor. -/
structure DQ (w wx : World) (D N : Nat) (v : Value) (us : List (Value × Ent)) : Prop where
  box : BoxV wx D 26 v
  res : BoxV wx w.heap.size 26 (.slice none 0 0)
  rows : Rows wx (w.heap.size + 2) v us
  av : v.ownBlock ≠ some D
  cur : Cur wx (w.heap.size + 1) N
  low : Below w.heap.size w wx
  hD : w.heap.size + 1 < D
theorem DQ.keep {w wx wy : World} {D N N' : Nat} {v : Value} {us : List (Value × Ent)} (h : DQ w wx D N v us) (hg : wx.grownBy wy (some (w.heap.size + 1))) (hc : Cur wy (w.heap.size + 1) N') : DQ w wy D N' v us :=
  ⟨h.box.keep hg h.hD, h.res.grown hg (by simp), h.rows.keep hg (by omega), h.av, hc, h.low.grown hg h.low.size (fun b e => by injection e with e; omega), h.hD⟩
theorem DQ.below {w wx wy : World} {D N : Nat} {v : Value} {us : List (Value × Ent)} (h : DQ w wx D N v us) (hb : Below wx.heap.size wx wy) : DQ w wy D N v us :=
  ⟨h.box.below hb h.box.lt, h.res.below hb h.res.lt, h.rows.below hb, h.av, h.cur.below hb, h.low.trans (hb.mono h.low.size), h.hD⟩
theorem DQ.setT {w wx : World} {D N : Nat} {v : Value} {us : List (Value × Ent)} (h : DQ w wx D N v us) {j : Nat} {p : Value × Ent} (hj : us[j]? = some p) (t : ByteArray) :
    ∃ g cap, v = .slice (some ⟨g, 0, none⟩) us.length cap ∧ wx.frozen? ⟨g, j * 2 + 1, none⟩ = false ∧ wx.cell? ⟨g, j * 2 + 1, none⟩ = some (.string p.2.2) ∧ DQ w (wx.setCell ⟨g, j * 2 + 1, none⟩ (.string t)) D N v (us.set j (p.1, (p.2.1, t))) := by
  obtain ⟨g, cap, hv, hc, hb, hlt, hf, hcell, hR⟩ := h.rows.setT hj t
  have hgD : g ≠ D := fun e => h.av (by rw [hv, ← e]; rfl)
  exact ⟨g, cap, hv, hf, hcell, h.box.other hgD, h.res.other (by omega), hR, h.av, h.cur.setCellA (by omega) _ _, h.low.setCell (p := ⟨g, j * 2 + 1, none⟩) (by show w.heap.size ≤ g; omega) _, h.hD⟩
/-- The row's texts can be read. -/
theorem DQ.text {w wx : World} {D N : Nat} {v : Value} {us : List (Value × Ent)} (h : DQ w wx D N v us) (h0 : 0 < us.length) : ∃ g cap, v = .slice (some ⟨g, 0, none⟩) us.length cap ∧ ∀ (j : Nat) (p : Value × Ent), us[j]? = some p → wx.cell? ⟨g, j * 2 + 1, none⟩ = some (.string p.2.2) := by
  obtain ⟨g, cap, hv, _, _, hc⟩ := h.rows.cells h0
  exact ⟨g, cap, hv, fun j p hp => (hc j p hp).2⟩
/-- A world in which this cell holds this, and the row its texts. -/
structure SeenT (D : Nat) (v : Value) (g : Nat) (us : List (Value × Ent)) where
  world : World
  cell : world.cell? ⟨D, 0, none⟩ = some v
  row : ∀ (j : Nat) (p : Value × Ent), us[j]? = some p → world.cell? ⟨g, j * 2 + 1, none⟩ = some (.string p.2.2)
/-- A drawn dictionary and a drawn text. -/
def DTx (base : Nat) (w' : World) (r : Ending) : Prop := ∃ (v : Value) (us : List (Value × Ent)) (t : ByteArray), r = .returned (.tuple #[dV v, .string t]) ∧ Rows w' base v us ∧ us.length ≤ 60 ∧ (∀ p ∈ us, p.2.1.length ≤ 8 ∧ p.2.2.size ≤ 60) ∧ t.size ≤ 60
end Go.Proofs.YthigdblloddepaaGreat

namespace Go.Proofs.YthigdblloddepaaGreat
set_option maxRecDepth 100000
open Go.RowKit

def dfCells : Array Value := #[.int .i64 18, .string ⟨#[105, 110, 103]⟩, .int .i64 21, .string ⟨#[101, 100]⟩, .int .i64 20, .string ⟨#[115]⟩, .int .i64 22, .string ⟨#[115]⟩]
theorem specDefaultFolds_at (w : World) :
    Calls Tryz.prog 108 #[] w fun e w' => e = .returned (.slice (some ⟨w.heap.size, 0, none⟩) 4 4) ∧ w' = w.alloc (.cells dfCells 96) := by
  unfold dfCells
  go_enter Tryz.func108, Tryz.ntmps108
  go_wp2
  go_ret
  exact ⟨rfl, rfl⟩
/-- Folds that lie in a block of the call's own. -/
def AtF (w : World) (base : Nat) (v : Value) (ls : List Atm) : Prop :=
  ∃ g o cap, v = .slice (some ⟨g, o, none⟩) ls.length cap ∧ ls.length ≤ cap ∧ base ≤ g ∧ g < w.heap.size ∧ (∀ j, w.frozen? ⟨g, j, none⟩ = false) ∧ ∀ j e, ls[j]? = some e → w.cell? ⟨g, o + j * 2, none⟩ = some (.int .i64 e.1) ∧ w.cell? ⟨g, o + j * 2 + 1, none⟩ = some (.string e.2)
theorem AtF.at {w : World} {base : Nat} {v : Value} {ls : List Atm} (h : AtF w base v ls) : AtomsAt w v ls := by
  obtain ⟨g, o, cap, rfl, hc, _, hg, _, hcell⟩ := h
  exact ⟨_, cap, rfl, hc, .inr ⟨g, o, rfl, hg, hcell⟩⟩
theorem AtF.keep {w w' : World} {base B : Nat} {v : Value} {ls : List Atm} (h : AtF w base v ls) (hg : w.grownBy w' (some B)) (hB : B < base) : AtF w' base v ls := by
  obtain ⟨g, o, cap, hv, hc, hb, hl, hf, hcell⟩ := h
  have hk := hg.block g hl (by simp; omega)
  exact ⟨g, o, cap, hv, hc, hb, Nat.lt_of_lt_of_le hl hg.size, fun j => (World.frozen?_of_block hk).trans (hf j), fun j e he => ⟨(World.cell?_of_block hk).trans (hcell j e he).1, (World.cell?_of_block hk).trans (hcell j e he).2⟩⟩
theorem AtF.set {w : World} {base : Nat} {v : Value} {ls : List Atm} {g o cap j : Nat} {e : Atm} (hv : v = .slice (some ⟨g, o, none⟩) ls.length cap) (hc : ls.length ≤ cap) (hb : base ≤ g) (hl : g < w.heap.size) (hf : ∀ j, w.frozen? ⟨g, j, none⟩ = false)
    (hcell : ∀ j e, ls[j]? = some e → w.cell? ⟨g, o + j * 2, none⟩ = some (.int .i64 e.1) ∧ w.cell? ⟨g, o + j * 2 + 1, none⟩ = some (.string e.2)) (hj : ls[j]? = some e) (z : Int) (t : ByteArray) :
    AtF (w.setCell ⟨g, o + j * 2, none⟩ (.int .i64 z)) base v (ls.set j (z, e.2)) ∧ AtF (w.setCell ⟨g, o + j * 2 + 1, none⟩ (.string t)) base v (ls.set j (e.1, t)) := by
  obtain ⟨c0, c1⟩ := hcell j e hj
  have hjl := (List.getElem?_eq_some_iff.1 hj).1
  have hget : ∀ (x : Atm) (i : Nat) y, (ls.set j x)[i]? = some y → (i = j ∧ y = x) ∨ (i ≠ j ∧ ls[i]? = some y) := by
    intro x i y hy
    by_cases hij : j = i
    · subst hij
      rw [List.getElem?_set_self hjl] at hy
      exact .inl ⟨rfl, (Option.some.inj hy).symm⟩
    · rw [List.getElem?_set_ne hij] at hy
      exact .inr ⟨fun e => hij e.symm, hy⟩
  refine ⟨⟨g, o, cap, by rw [List.length_set]; exact hv, by rw [List.length_set]; exact hc, hb, by rw [World.size_setCell]; exact hl, fun i => by rw [World.frozen?_setCell]; exact hf i, fun i y hy => ?_⟩, ⟨g, o, cap, by rw [List.length_set]; exact hv, by rw [List.length_set]; exact hc, hb, by rw [World.size_setCell]; exact hl, fun i => by rw [World.frozen?_setCell]; exact hf i, fun i y hy => ?_⟩⟩
  · rcases hget _ i y hy with ⟨rfl, rfl⟩ | ⟨hne, hy⟩
    · exact ⟨World.cell?_setCell_same _ _ _ c0, by rw [World.cell?_setCell_other _ _ _ _ (by intro e; injection e; omega)]; exact c1⟩
    · obtain ⟨d0, d1⟩ := hcell i y hy
      exact ⟨by rw [World.cell?_setCell_other _ _ _ _ (by intro e; injection e; omega)]; exact d0, by rw [World.cell?_setCell_other _ _ _ _ (by intro e; injection e; omega)]; exact d1⟩
  · rcases hget _ i y hy with ⟨rfl, rfl⟩ | ⟨hne, hy⟩
    · exact ⟨by rw [World.cell?_setCell_other _ _ _ _ (by intro e; injection e; omega)]; exact c0, World.cell?_setCell_same _ _ _ c1⟩
    · obtain ⟨d0, d1⟩ := hcell i y hy
      exact ⟨by rw [World.cell?_setCell_other _ _ _ _ (by intro e; injection e; omega)]; exact d0, by rw [World.cell?_setCell_other _ _ _ _ (by intro e; injection e; omega)]; exact d1⟩
abbrev OwnF (w : World) (base : Nat) (v : Value) (ls : List Atm) : Prop := w.ownsRow base 96 2 v ls.length (atCells ls)
theorem OwnF.f {w : World} {base : Nat} {v : Value} {ls : List Atm} (h : OwnF w base v ls) (h1 : 1 ≤ ls.length) : AtF w base v ls := by
  rcases h.2 with ⟨rfl, h0⟩ | ⟨g, cap, cur, rfl, hb, hg, hn, _, hsz, htake⟩
  · omega
  · have hlt : g < w.heap.size := (Array.getElem?_eq_some_iff.1 hg).1
    refine ⟨g, 0, cap, rfl, hn, hb, hlt, fun j => by unfold World.frozen?; simp [hg], fun j e he => ?_⟩
    have hj := (List.getElem?_eq_some_iff.1 he).1
    obtain ⟨h0, h1⟩ := atCells_at ls j e he
    have hc : ∀ q x, (atCells ls)[q]? = some x → w.cell? ⟨g, q, none⟩ = some x := by
      intro q x hq
      have hql : q < ls.length * 2 := by
        rcases Nat.lt_or_ge q (ls.length * 2) with h' | h'
        · exact h'
        · rw [List.getElem?_eq_none (by rw [atCells_len]; exact h')] at hq; cases hq
      rw [← htake, List.getElem?_take_of_lt hql] at hq
      simp only [Array.getElem?_toList] at hq
      simp [World.cell?, hg, hq]
    rw [Nat.zero_add]
    exact ⟨hc _ _ h0, hc _ _ h1⟩
/-- Either an own row, or the end of one, without room behind it. -/
def StF (w : World) (base : Nat) (v : Value) (ls : List Atm) : Prop := OwnF w base v ls ∨ (AtF w base v ls ∧ ∃ a, v = .slice a ls.length ls.length)
theorem StF.f {w : World} {base : Nat} {v : Value} {ls : List Atm} (h : StF w base v ls) (h1 : 1 ≤ ls.length) : AtF w base v ls := by
  rcases h with h | h
  · exact OwnF.f h h1
  · exact h.1
theorem StF.keep {w w' : World} {base B : Nat} {v : Value} {ls : List Atm} (h : StF w base v ls) (hg : w.grownBy w' (some B)) (hB : B < base) : StF w' base v ls := by
  rcases h with h | ⟨h, h2⟩
  · exact .inl (World.ownsRow.kept h hg (.inr (fun e => by have := row_ge h e; omega)))
  · exact .inr ⟨h.keep hg hB, h2⟩
theorem dFs_sub (w : World) (r : Nat) (_hr : r < 4) : StF (w.alloc (.cells dfCells 96)) w.heap.size (.slice (some ⟨w.heap.size, r * 2, none⟩) (4 - r) (4 - r)) (dFs.drop r) := by
  have hlen : (dFs.drop r).length = 4 - r := by rw [List.length_drop]; rfl
  refine .inr ⟨⟨w.heap.size, r * 2, 4 - r, by rw [hlen], by rw [hlen]; exact Nat.le_refl _, Nat.le_refl _, by rw [World.size_alloc]; omega, fun j => World.frozen?_alloc_at _ _ _ _ rfl, fun j e he => ?_⟩, _, by rw [hlen]⟩
  rw [List.getElem?_drop] at he
  have hc : ∀ i x, dfCells[i]? = some x → (w.alloc (.cells dfCells 96)).cell? ⟨w.heap.size, i, none⟩ = some x := fun i x hi => by rw [World.cell?_alloc_at _ _ _ _ rfl]; exact hi
  rw [show r * 2 + j * 2 = (r + j) * 2 by omega]
  have h4 : r + j < 4 := by
    have := (List.getElem?_eq_some_iff.1 he).1
    exact this
  obtain ⟨i, hi⟩ : ∃ i, i = r + j := ⟨_, rfl⟩
  rw [← hi] at he h4 ⊢
  match i, h4 with
  | 0, _ => cases he; exact ⟨hc _ _ rfl, hc _ _ rfl⟩
  | 1, _ => cases he; exact ⟨hc _ _ rfl, hc _ _ rfl⟩
  | 2, _ => cases he; exact ⟨hc _ _ rfl, hc _ _ rfl⟩
  | 3, _ => cases he; exact ⟨hc _ _ rfl, hc _ _ rfl⟩
/-- One fold appended to an own row: 'append(l, a)'. -/
theorem push_fold {ops : Array Oper} {rest : List Oper} {o : Oper} {a : Act} {w : World} {Q : Exit → Act → World → Prop}
    (hgd : o.guard = none) (p q : Operand) (ho : o.op = .call { callee := .builtin .append, args := #[p, q], argTypes := #[45, 45] }) (base : Nat) (v : Value) (ls : List (Int × ByteArray)) (hs : a.eval p = v) (hown : OwnF w base v ls)
    (k : Int) (t : ByteArray) (hq : a.eval q = .slice (some ⟨w.heap.size, 0, none⟩) 1 1) (hb : base ≤ w.heap.size) (h1 : ls.length ≤ 4194304)
    (h : ∀ v' w', OwnF w' base v' (ls ++ [(k, t)]) → w.grownBy w' v.ownBlock → (v'.ownBlock = v.ownBlock ∨ v'.ownBlock = some (w.heap.size + 1)) → wpList Tryz.prog ops Q rest (a.put o.dst v') w') : wpList Tryz.prog ops Q (o :: rest) a (w.alloc (.cells #[.int .i64 k, .string t] 96)) := by
  obtain ⟨i0, hi, hz0, hz1, hz2⟩ := info_parts infoFd
  refine wpList_append_own_at _ hgd p q 45 ho base 96 i0 (.agg #[.int .i64 0, .string ByteArray.empty]) 2 24 Tryz.underlying45 hi hz0 hz1 hz2 rfl (by decide) v ls.length _ hs (hown.alloc _) ⟨w.heap.size, 0, none⟩ 1 1 [.int .i64 k, .string t] hq rfl (cell_two_new _ _ _ _) ?_ (by unfold maxLen; omega) (by omega) (by simp; omega) ?_
  · intro y hy; simp at hy; rcases hy with rfl | rfl <;> rfl
  · intro v' w' hown' hg _ hat
    refine h v' w' ?_ ⟨hg.os, hg.tape, hg.output, Nat.le_trans (by simp) hg.size, fun k hk hne => (hg.block k (by rw [World.size_alloc]; omega) hne).trans (Below.heap_alloc w _ k hk)⟩ ?_
    · show World.ownsRow _ _ _ _ _ _ _
      rw [atCells_snoc, List.length_append]; exact hown'
    · rcases hat with h2 | h2
      · exact .inl h2
      · exact .inr (by rw [h2, World.size_alloc])
theorem atCells_get {ls : List Atm} {q : Nat} {x : Value} (h : (atCells ls)[q]? = some x) : ∃ j e, ls[j]? = some e ∧ ((q = j * 2 ∧ x = .int .i64 e.1) ∨ (q = j * 2 + 1 ∧ x = .string e.2)) := by
  have hq : q < ls.length * 2 := by
    rcases Nat.lt_or_ge q (ls.length * 2) with h' | h'
    · exact h'
    · rw [List.getElem?_eq_none (by rw [atCells_len]; exact h')] at h; cases h
  have hj : q / 2 < ls.length := by omega
  obtain ⟨e, he⟩ : ∃ e, ls[q / 2]? = some e := ⟨_, List.getElem?_eq_getElem hj⟩
  obtain ⟨h0, h1⟩ := atCells_at ls _ e he
  refine ⟨q / 2, e, he, ?_⟩
  rcases Nat.mod_two_eq_zero_or_one q with hm | hm
  · have e1 : q / 2 * 2 = q := by omega
    rw [e1] at h0
    exact .inl ⟨e1.symm, Option.some.inj (h.symm.trans h0)⟩
  · have e1 : q / 2 * 2 + 1 = q := by omega
    rw [e1] at h1
    exact .inr ⟨e1.symm, Option.some.inj (h.symm.trans h1)⟩
theorem atCells_one (ls : List Atm) : ∀ u ∈ atCells ls, u.oneCell' = true := by
  intro u hu
  unfold atCells at hu
  obtain ⟨e, _, he⟩ := List.mem_flatMap.1 hu
  simp at he
  rcases he with rfl | rfl <;> rfl
theorem atCells_app (ls ms : List Atm) : atCells (ls ++ ms) = atCells ls ++ atCells ms := by unfold atCells; rw [List.flatMap_append]
theorem atCells_mem {w : World} {g o : Nat} {ls : List Atm} (h : ∀ j e, ls[j]? = some e → w.cell? ⟨g, o + j * 2, none⟩ = some (.int .i64 e.1) ∧ w.cell? ⟨g, o + j * 2 + 1, none⟩ = some (.string e.2)) : ∀ (j : Nat) x, (atCells ls)[j]? = some x → w.cell? ((⟨g, o, none⟩ : Addr).add j) = some x := by
  intro q x hq
  rw [Addr.add_lit]
  obtain ⟨j, e, he, ⟨rfl, rfl⟩ | ⟨rfl, rfl⟩⟩ := atCells_get hq
  · exact (h j e he).1
  · exact (h j e he).2
/-- Folds that lie anywhere, appended to an own row. -/
theorem append_folds {ops : Array Oper} {rest : List Oper} {o : Oper} {a : Act} {w : World} {Q : Exit → Act → World → Prop}
    (hgd : o.guard = none) (p q : Operand) (ho : o.op = .call { callee := .builtin .append, args := #[p, q], argTypes := #[45, 45] }) (base : Nat) (v : Value) (ls : List Atm) (hs : a.eval p = v) (hown : OwnF w base v ls)
    (g off n cap : Nat) (ms : List Atm) (hn : n = ms.length) (hq : a.eval q = .slice (some ⟨g, off, none⟩) n cap) (hcell : ∀ j e, ms[j]? = some e → w.cell? ⟨g, off + j * 2, none⟩ = some (.int .i64 e.1) ∧ w.cell? ⟨g, off + j * 2 + 1, none⟩ = some (.string e.2)) (hb : base ≤ w.heap.size) (h1 : ls.length ≤ 1000) (h2 : ms.length ≤ 1000)
    (h : ∀ v' w', OwnF w' base v' (ls ++ ms) → w.grownBy w' v.ownBlock → wpList Tryz.prog ops Q rest (a.put o.dst v') w') : wpList Tryz.prog ops Q (o :: rest) a w := by
  obtain ⟨i0, hi, hz0, hz1, hz2⟩ := info_parts infoFd
  subst hn
  refine wpList_append_own _ hgd p q 45 ho base 96 i0 (.agg #[.int .i64 0, .string ByteArray.empty]) 2 24 Tryz.underlying45 hi hz0 hz1 hz2 rfl (by decide) v ls.length _ hs hown ⟨g, off, none⟩ ms.length cap (atCells ms) hq (atCells_len ms) (atCells_mem hcell) (atCells_one ms) (by unfold maxLen; omega) (by omega) hb ?_
  intro v' w' hown' hg _
  refine h v' w' ?_ hg
  show World.ownsRow _ _ _ _ _ _ _
  rw [atCells_app, List.length_append]
  exact hown'
/-- One fold appended to what has no room behind it. -/
theorem push_end {ops : Array Oper} {rest : List Oper} {o : Oper} {a : Act} {w : World} {Q : Exit → Act → World → Prop}
    (hgd : o.guard = none) (p q : Operand) (ho : o.op = .call { callee := .builtin .append, args := #[p, q], argTypes := #[45, 45] }) (base : Nat) (v : Value) (ls : List Atm) (hs : a.eval p = v) (hst : StF w base v ls) (h0 : 1 ≤ ls.length)
    (k : Int) (t : ByteArray) (hq : a.eval q = .slice (some ⟨w.heap.size, 0, none⟩) 1 1) (hb : base ≤ w.heap.size) (h1 : ls.length ≤ 1000)
    (h : ∀ v' w', OwnF w' base v' (ls ++ [(k, t)]) → Below base w w' → (∀ b, b < w.heap.size → some b ≠ v.ownBlock → w'.heap[b]? = w.heap[b]?) → wpList Tryz.prog ops Q rest (a.put o.dst v') w') : wpList Tryz.prog ops Q (o :: rest) a (w.alloc (.cells #[.int .i64 k, .string t] 96)) := by
  have hba := below_al w (.cells #[.int .i64 k, .string t] 96)
  rcases hst with hown | ⟨hat, a0, ha0⟩
  · refine push_fold hgd p q ho base v ls hs hown k t hq hb (by omega) ?_
    intro v' w' hown' hg _
    refine h v' w' hown' ⟨hg.os, hg.tape, hg.output, hg.size, fun b hbb => hg.block b (by omega) (fun e => by have := row_ge hown e.symm; omega)⟩ (fun b hbl hne => hg.block b hbl hne)
  · obtain ⟨g, off, cap, hv, hc, hbg, hl, hf, hcell⟩ := hat
    rw [ha0] at hv
    injection hv with e1 e2 e3
    subst e3 e1
    obtain ⟨i0, hi, hz0, hz1, hz2⟩ := info_parts infoFd
    have hcell2 := fun j e he => And.intro ((hba.cell (p := ⟨g, off + j * 2, none⟩) hl).trans (hcell j e he).1) ((hba.cell (p := ⟨g, off + j * 2 + 1, none⟩) hl).trans (hcell j e he).2)
    refine wpList_append_grows _ hgd p q 45 ho 96 i0 (.agg #[.int .i64 0, .string ByteArray.empty]) 2 24 Tryz.underlying45 hi hz0 hz1 hz2 rfl (by decide) (some ⟨g, off, none⟩) ls.length ls.length (atCells ls) (hs.trans ha0) (fun h => by cases h) (atCells_len ls) ?c0 ⟨w.heap.size, 0, none⟩ 1 1 [.int .i64 k, .string t] hq rfl (cell_two_new _ _ _ _) ?c1 (by omega) (by unfold maxLen; omega) (by omega) ?_
    case c0 => intro b hbe j x hx; injection hbe with hbe; subst hbe; exact atCells_mem hcell2 j x hx
    case c1 => intro y hy; simp at hy; rcases hy with rfl | rfl <;> rfl
    intro v' w' hown' hg
    have hbw : Below w.heap.size w w' := hba.grown hg (by simp) (fun k e => by cases e)
    refine h v' w' ?_ (hbw.mono hb) (fun b hbl _ => hbw.block b hbl)
    show World.ownsRow _ _ _ _ _ _ _
    rw [atCells_snoc, List.length_append]
    exact ownsRow_mono hown' (by simp; omega)
def smF (ls : List Atm) : Prop := 1 ≤ ls.length ∧ ls.length ≤ 11 ∧ ∀ e ∈ ls, e.2.size ≤ 16
theorem smF_drop (r : Nat) (hr : r < 4) : smF (dFs.drop r) := by
  refine ⟨by rw [List.length_drop]; show 1 ≤ 4 - r; omega, by rw [List.length_drop]; show 4 - r ≤ 11; omega, fun e he => ?_⟩
  have := List.mem_of_mem_drop he
  unfold dFs at this
  simp at this
  rcases this with rfl | rfl | rfl | rfl <;> decide
theorem smF_set {ls : List Atm} (h : smF ls) (j : Nat) (e : Atm) (he : e.2.size ≤ 16) : smF (ls.set j e) := by
  obtain ⟨h1, h2, h3⟩ := h
  refine ⟨by rw [List.length_set]; exact h1, by rw [List.length_set]; exact h2, fun x hx => ?_⟩
  rcases List.mem_or_eq_of_mem_set hx with hx | rfl
  · exact h3 x hx
  · exact he
theorem grown_belowF {w w1 w2 : World} {B : Nat} (h : w.grownBy w1 (some B)) (hb : Below w.heap.size w1 w2) : w.grownBy w2 (some B) :=
  ⟨hb.os.trans h.os, hb.tape.trans h.tape, hb.output.trans h.output, Nat.le_trans h.size hb.size, fun k hk hne => (hb.block k hk).trans (h.block k hk hne)⟩
def DFs (base : Nat) (w' : World) (r : Ending) : Prop := ∃ v ls, r = .returned v ∧ AtF w' base v ls ∧ smF ls
set_option maxHeartbeats 4000000 in
theorem drawFolds_any (B N : Nat) (w : World) (h : Cur w B N) (hN : N ≤ 600000) :
    Calls Tryz.prog 83 #[.pointer (some ⟨B, 0, none⟩)] w fun r w' => DFs w.heap.size w' r ∧ Cur w' B (N + 100) ∧ w.grownBy w' (some B) := by
  have hB := h.lt
  have CP := Lib.hid (fun M n w h hM h0 h1 => pick_any B M n w h hM h0 h1)
  have CO := Lib.hid (fun M n w h hM h0 h1 => one_any B M n w h hM h0 h1)
  have HC := Lib.hid h
  clear h
  go_enter Tryz.func83, Tryz.ntmps83
  go_wp2_with fail
  refine (specDefaultFolds_at _).mono ?_
  rintro e w1 ⟨rfl, hw1⟩
  have HC1 : Hid (Cur w1 B N) := Lib.hid (by rw [hw1]; exact HC.out.below (below_al _ _))
  have HG1 : Hid (w.grownBy w1 (some B)) := Lib.hid (by rw [hw1]; exact World.grownBy_alloc w _ _)
  have HS1 : Hid (∀ r, r < 4 → StF w1 w.heap.size (.slice (some ⟨w.heap.size, r * 2, none⟩) (4 - r) (4 - r)) (dFs.drop r)) := Lib.hid (fun r hr => by rw [hw1]; exact dFs_sub w r hr)
  clear hw1 HC
  go_wp2_with fail
  refine (CP.out N 3 _ HC1.out (by omega) (by omega) (by omega)).mono ?_
  rintro e w2 ⟨⟨r, hr0, hr3, rfl⟩, hc, hg⟩
  obtain ⟨r, rfl⟩ := Int.eq_ofNat_of_zero_le hr0
  have HS2 := Lib.hid ((HS1.out r (by omega)).keep hg hB)
  have HC2 := Lib.hid hc
  have HG2 := Lib.hid (Lib.grownBy_trans HG1.out hg)
  clear hc hg HC1 HG1 HS1
  have hr4 : r < 4 := by omega
  have SmD := Lib.hid (smF_drop r hr4)
  have HLn : Hid (4 - r = (dFs.drop r).length) := Lib.hid (by rw [List.length_drop]; rfl)
  go_wp2_with fail
  obtain ⟨n, hn⟩ : ∃ n, n = 4 - r := ⟨_, rfl⟩
  rw [← hn] at HS2 HLn ⊢
  have hn1 : 1 ≤ n := by omega
  have hn4 : n ≤ 4 := by omega
  obtain ⟨l0, hl0⟩ : ∃ l, l = dFs.drop r := ⟨_, rfl⟩
  rw [← hl0] at HS2 HLn SmD
  clear hn hr0 hr3 hl0
  refine (CO.out (N + 2) 4 _ HC2.out (by omega) (by omega) (by omega)).mono ?_
  rintro e w3 ⟨⟨b1, rfl⟩, hc, hg⟩
  have HS3 := Lib.hid (HS2.out.keep hg hB)
  have HC3 := Lib.hid hc
  have HG3 := Lib.hid (Lib.grownBy_trans HG2.out hg)
  clear hc hg HC2 HG2 HS2
  cases b1
  · go_wp2_with fail
    refine (CO.out (N + 2 + 2) 15 _ HC3.out (by omega) (by omega) (by omega)).mono ?_
    rintro e x1 ⟨⟨b2, rfl⟩, hc, hg⟩
    have S1 := Lib.hid (HS3.out.keep hg hB)
    have C1 := Lib.hid hc
    have G1 := Lib.hid (Lib.grownBy_trans HG3.out hg)
    clear hc hg HS3 HC3 HG3
    cases b2
    · go_wp2
      go_ret
      exact ⟨⟨_, _, rfl, S1.out.f SmD.out.1, SmD.out⟩, C1.out.mono (by omega), G1.out⟩
    go_wp2_with fail
    refine (CP.out _ (n : Int) _ C1.out (by omega) (by omega) (by omega)).mono ?_
    rintro e x2 ⟨⟨i, hi0, hi1, rfl⟩, hc, hg⟩
    obtain ⟨i, rfl⟩ := Int.eq_ofNat_of_zero_le hi0
    have S2 := Lib.hid (S1.out.keep hg hB)
    have C2 := Lib.hid hc
    have G2 := Lib.hid (Lib.grownBy_trans G1.out hg)
    clear hc hg S1 C1 G1
    go_wp2_with fail
    refine (CP.out _ 3 _ C2.out (by omega) (by omega) (by omega)).mono ?_
    rintro e x3 ⟨⟨c, hc0, hc1, rfl⟩, hc, hg⟩
    have S3 := Lib.hid (S2.out.keep hg hB)
    have C3 := Lib.hid hc
    have G3 := Lib.hid (Lib.grownBy_trans G2.out hg)
    have hBx : B < x3.heap.size := C3.out.lt
    clear hc hg S2 C2 G2
    have hc3 : c = 0 ∨ c = 1 ∨ c = 2 := by omega
    rcases hc3 with rfl | rfl | rfl
    · go_wp2_with fail
      refine (among_any B _ x3.heap.size 4 4 [12, 23, -1, 20] _ (C3.out.below (below_al _ _)) (by omega) (by omega) (by simp) rfl (by omega) (by omega) (alloc_ints _ _ _ _ rfl)).mono ?_
      rintro e x4 ⟨⟨z, _, rfl⟩, hc, hg⟩
      have hg4 := Lib.grownBy_trans (World.grownBy_alloc x3 _ (some B)) hg
      have S4 := Lib.hid (S3.out.keep hg4 hB)
      have C4 := Lib.hid hc
      have G4 := Lib.hid (Lib.grownBy_trans G3.out hg4)
      clear hc hg hg4 S3 C3 G3
      obtain ⟨g, o, cp, hv, hcp, hbg, hl, hf, hcell⟩ := S4.out.f SmD.out.1
      injection hv with e1 e2 e3
      injection e1 with e1
      injection e1 with e1 e4
      subst e1 e4 e3
      have HE2 := Lib.hid e2
      clear e2
      obtain ⟨x, hx⟩ : ∃ x, l0[i]? = some x := ⟨_, List.getElem?_eq_getElem (by rw [← HLn.out]; omega)⟩
      have HSet := Lib.hid (fun z => (AtF.set (base := w.heap.size) (v := .slice (some ⟨w.heap.size, r * 2, none⟩) n n) (by rw [HE2.out]) hcp hbg hl hf hcell hx z ByteArray.empty).1)
      have HSm := Lib.hid (fun z => smF_set SmD.out i (z, x.2) (SmD.out.2.2 x (List.mem_of_getElem? hx)))
      have HB5 := Lib.hid (fun a v => (Below.refl w.heap.size x4).setCell (p := ⟨_, a, none⟩) hbg v)
      have d0 := (hcell i x hx).1
      have f0 := hf
      have f1 := hf (r * 2 + i * 2)
      clear hcell hf hx f0
      go_wp2
      go_ret
      exact ⟨⟨_, _, rfl, HSet.out _, HSm.out _⟩, (C4.out.keep ((HB5.out _ _).mono hB)).mono (by omega), grown_belowF G4.out (HB5.out _ _)⟩
    · go_wp2_with fail
      refine (of_any B _ x3.heap.size 4 4 [⟨#[]⟩, ⟨#[73, 110, 103]⟩, ⟨#[97, 98, 99, 100, 101, 102, 103, 104, 105]⟩, ⟨#[97, 98, 99, 100, 101, 102, 103, 104]⟩] _ (C3.out.below (below_al _ _)) (by omega) (by omega) (by simp) rfl (by omega) (by omega) (alloc_strs _ _ _ _ rfl)).mono ?_
      rintro e x4 ⟨⟨z, hz, rfl⟩, hc, hg⟩
      have hz16 : z.size ≤ 16 := by simp at hz; rcases hz with rfl | rfl | rfl | rfl <;> decide
      have hg4 := Lib.grownBy_trans (World.grownBy_alloc x3 _ (some B)) hg
      have S4 := Lib.hid (S3.out.keep hg4 hB)
      have C4 := Lib.hid hc
      have G4 := Lib.hid (Lib.grownBy_trans G3.out hg4)
      clear hc hg hg4 S3 C3 G3 hz
      obtain ⟨g, o, cp, hv, hcp, hbg, hl, hf, hcell⟩ := S4.out.f SmD.out.1
      injection hv with e1 e2 e3
      injection e1 with e1
      injection e1 with e1 e4
      subst e1 e4 e3
      have HE2 := Lib.hid e2
      clear e2
      obtain ⟨x, hx⟩ : ∃ x, l0[i]? = some x := ⟨_, List.getElem?_eq_getElem (by rw [← HLn.out]; omega)⟩
      have HSet := Lib.hid (fun z => (AtF.set (base := w.heap.size) (v := .slice (some ⟨w.heap.size, r * 2, none⟩) n n) (by rw [HE2.out]) hcp hbg hl hf hcell hx 0 z).2)
      have HSm := Lib.hid (smF_set SmD.out i (x.1, z) hz16)
      have HB5 := Lib.hid (fun a v => (Below.refl w.heap.size x4).setCell (p := ⟨_, a, none⟩) hbg v)
      have d0 := (hcell i x hx).2
      have f1 := hf (r * 2 + i * 2 + 1)
      clear hcell hf hx
      go_wp2
      go_ret
      exact ⟨⟨_, _, rfl, HSet.out _, HSm.out⟩, (C4.out.keep ((HB5.out _ _).mono hB)).mono (by omega), grown_belowF G4.out (HB5.out _ _)⟩
    · go_wp2_with fail
      go_loopw [3, 5] (fun out kv wr => ∃ (ls : List Atm) (j : Nat), kv = .int .i64 j ∧ 13 ≤ j ∧ j ≤ 18 ∧ Hid (StF wr w.heap.size out ls) ∧ Hid (smF ls) ∧ ls.length ≤ 6 + (j - 13) ∧ Hid (Cur wr B (N + 30 + 2 * (j - 13))) ∧ Hid (w.grownBy wr (some B))) (fun _ kv _ => 18 - (intOf kv).toNat)
      case atStart => exact ⟨_, 13, rfl, Nat.le_refl _, by omega, S3, SmD, by rw [← HLn.out]; omega, Lib.hid (C3.out.mono (by omega)), G3⟩
      case round =>
        obtain ⟨ls, j, rfl, hj0, hj1, HS, Hsm, hlen, HC, HG⟩ := hrel
        obtain ⟨g, o, cp, rfl, hcp, hbg, hl, hf, hcell⟩ := HS.out.f Hsm.out.1
        obtain ⟨nl, hnl⟩ : ∃ n, n = ls.length := ⟨_, rfl⟩
        have HNl := Lib.hid hnl
        rw [← hnl] at hlen hcp HS ⊢
        clear hf hcell hnl hl hbg
        go_wp2_with fail
        refine (CP.out _ 2 _ HC.out (by omega) (by omega) (by omega)).mono ?_
        rintro e y1 ⟨⟨c2, hc0, hc1, rfl⟩, hc, hg⟩
        have S4 := Lib.hid (HS.out.keep hg hB)
        have C4 := Lib.hid hc
        have G4 := Lib.hid (Lib.grownBy_trans HG.out hg)
        clear hc hg HS HC HG
        by_cases hgo : (nl : Int) < 6 + c2 ∧ (j : Int) < 18
        · obtain ⟨hgo1, hgo2⟩ := hgo
          have hsz := G4.out.size
          go_wp2_with (at_builtin; refine push_end rfl (.tmp 68) (.tmp 71) rfl w.heap.size _ ls rfl S4.out Hsm.out.1 (j : Int) ⟨#[120]⟩ rfl hsz (by rw [← HNl.out]; omega) ?_)
          intro v5 y2 hown hb hblk
          have hown' := hown
          have S5 : Hid (StF y2 w.heap.size v5 (ls ++ [((j : Int), ⟨#[120]⟩)])) := Lib.hid (.inl hown)
          have Sm5 : Hid (smF (ls ++ [((j : Int), ⟨#[120]⟩)])) := Lib.hid (by
            obtain ⟨h1, h2, h3⟩ := Hsm.out
            refine ⟨by simp, by rw [List.length_append, ← HNl.out]; simp; omega, fun e he => ?_⟩
            rw [List.mem_append, List.mem_singleton] at he
            rcases he with he | rfl
            · exact h3 e he
            · show (⟨#[120]⟩ : ByteArray).size ≤ 16; decide)
          have C5 := Lib.hid ((C4.out.keep (hb.mono hB)).mono (show N + 30 + 2 * (j - 13) + 2 ≤ N + 30 + 2 * (j + 1 - 13) by omega))
          have G5 := Lib.hid (grown_belowF G4.out hb)
          clear hown hown' hb hblk S4 C4 G4
          go_wp2
          go_roundw
          case rel => exact ⟨_, j + 1, by go_num, by omega, by omega, S5, Sm5, by rw [List.length_append, ← HNl.out]; simp; omega, C5, G5⟩
          case measure => simp [intOf]; omega
        · have HAt : Hid (AtF y1 w.heap.size (.slice (some ⟨g, o, none⟩) nl cp) ls) := Lib.hid (S4.out.f Hsm.out.1)
          by_cases hgo1 : (nl : Int) < 6 + c2
          · have hgo2 : ¬ (j : Int) < 18 := fun h => hgo ⟨hgo1, h⟩
            clear hgo
            go_wp2
            go_ret
            exact ⟨⟨_, _, rfl, HAt.out, Hsm.out⟩, C4.out.mono (by omega), G4.out⟩
          · clear hgo
            go_wp2
            go_ret
            exact ⟨⟨_, _, rfl, HAt.out, Hsm.out⟩, C4.out.mono (by omega), G4.out⟩
  · go_wp2_with fail
    refine (CP.out (N + 2 + 2) 10 _ HC3.out (by omega) (by omega) (by omega)).mono ?_
    rintro e w4 ⟨⟨k, hk0, hk1, rfl⟩, hc, hg⟩
    have HS4 := Lib.hid (HS3.out.keep hg hB)
    have HC4 := Lib.hid hc
    have HG4 := Lib.hid (Lib.grownBy_trans HG3.out hg)
    have hB4 : B < w4.heap.size := HC4.out.lt
    clear hc hg HC3 HG3 HS3
    go_wp2_with fail
    refine (of_any B _ w4.heap.size 3 3 [⟨#[101, 114]⟩, ⟨#[108, 121]⟩, ⟨#[105, 110, 103]⟩] _ (HC4.out.below (below_al _ _)) (by omega) (by omega) (by simp) rfl (by omega) (by omega) (alloc_strs _ _ _ _ rfl)).mono ?_
    rintro e w5 ⟨⟨z, hz, rfl⟩, hc, hg⟩
    have hz16 : z.size ≤ 16 := by simp at hz; rcases hz with rfl | rfl | rfl <;> decide
    have hg5 := Lib.grownBy_trans (World.grownBy_alloc w4 _ (some B)) hg
    have HS5 := Lib.hid (HS4.out.keep hg5 hB)
    have HC5 := Lib.hid hc
    have HG5 := Lib.hid (Lib.grownBy_trans HG4.out hg5)
    clear hc hg hg5 HS4 HC4 HG4 hz
    go_wp2_with fail
    obtain ⟨y5, hy5⟩ : ∃ W, W = w5.alloc (.cells #[.int .i64 (13 + k), .string z] 96) := ⟨_, rfl⟩
    rw [← hy5]
    have hgy : w5.grownBy y5 (some B) := by rw [hy5]; exact World.grownBy_alloc _ _ _
    have HO : Hid (OwnF y5 w.heap.size (.slice (some ⟨w5.heap.size, 0, none⟩) 1 1) [((13 + k : Int), z)]) := Lib.hid (by
      rw [hy5]
      exact ownsRow_mono ⟨rfl, .inr ⟨w5.heap.size, 1, #[.int .i64 (13 + k), .string z], rfl, Nat.le_refl _, heap_alloc_new _ _, Nat.le_refl _, by decide, rfl, rfl⟩⟩ HG5.out.size)
    have HS5' := Lib.hid (HS5.out.keep hgy hB)
    have HC5' : Hid (Cur y5 B (N + 2 + 2 + 2 + 2)) := Lib.hid (by rw [hy5]; exact HC5.out.below (below_al _ _))
    have HG5' := Lib.hid (Lib.grownBy_trans HG5.out hgy)
    clear hgy HS5 HC5 HG5 hy5
    go_wp2_with fail
    refine (CP.out _ ((n : Int) + 1) _ HC5'.out (by omega) (by omega) (by omega)).mono ?_
    rintro e w6 ⟨⟨q, hq0, hq1, rfl⟩, hc, hg⟩
    obtain ⟨q, rfl⟩ := Int.eq_ofNat_of_zero_le hq0
    have HO6 : Hid (OwnF w6 w.heap.size (.slice (some ⟨w5.heap.size, 0, none⟩) 1 1) [((13 + k : Int), z)]) := Lib.hid (World.ownsRow.kept HO.out hg (.inr (fun e => by have := row_ge HO.out e; omega)))
    have HS6 := Lib.hid (HS5'.out.keep hg hB)
    have HC6 := Lib.hid hc
    have HG6 := Lib.hid (Lib.grownBy_trans HG5'.out hg)
    clear hc hg HS5' HC5' HG5' HO
    have hqn : q ≤ n := by omega
    have HCell : Hid (∀ j e, (l0.take q)[j]? = some e → w6.cell? ⟨w.heap.size, r * 2 + j * 2, none⟩ = some (.int .i64 e.1) ∧ w6.cell? ⟨w.heap.size, r * 2 + j * 2 + 1, none⟩ = some (.string e.2)) := Lib.hid (fun j e he => by
      obtain ⟨g, o, cp, hv, _, _, _, _, hcell⟩ := HS6.out.f SmD.out.1
      injection hv with e1 e2 e3
      injection e1 with e1
      injection e1 with e1 e4
      subst e1 e4
      have hj := (List.getElem?_eq_some_iff.1 he).1
      rw [List.length_take] at hj
      rw [List.getElem?_take_of_lt (by omega)] at he
      exact hcell j e he)
    have hsz6 := HG6.out.size
    clear HS6
    go_wp2_with (at_builtin; refine append_folds rfl _ _ rfl w.heap.size _ _ rfl HO6.out w.heap.size (r * 2) q n (l0.take q) (by rw [List.length_take, ← HLn.out]; omega) rfl HCell.out hsz6 (by simp) (by rw [List.length_take, ← HLn.out]; omega) ?_)
    intro v7 w7 hown hg7
    have hb7 : Below w.heap.size w6 w7 := (Below.refl _ _).grown hg7 hsz6 (fun j hj => row_ge HO6.out hj)
    have Sm7 : Hid (smF ([((13 + k : Int), z)] ++ l0.take q)) := Lib.hid (by
      refine ⟨by simp, by rw [List.length_append, List.length_take, ← HLn.out]; simp; omega, fun e he => ?_⟩
      rw [List.mem_append, List.mem_singleton] at he
      rcases he with rfl | he
      · exact hz16
      · exact SmD.out.2.2 e (List.mem_of_mem_take he))
    have HS7 : Hid (StF w7 w.heap.size v7 ([((13 + k : Int), z)] ++ l0.take q)) := Lib.hid (.inl hown)
    have HC7 := Lib.hid (HC6.out.keep (hb7.mono hB))
    have HG7 := Lib.hid (grown_belowF HG6.out hb7)
    have h5 : ([((13 + k : Int), z)] ++ l0.take q).length ≤ 5 := by rw [List.length_append, List.length_take, ← HLn.out]; simp; omega
    obtain ⟨ls7, hls7⟩ : ∃ l, l = [((13 + k : Int), z)] ++ l0.take q := ⟨_, rfl⟩
    rw [← hls7] at Sm7 HS7 h5
    obtain ⟨g7, o7, cp7, rfl, hcp7, _⟩ := HS7.out.f Sm7.out.1
    have hn71 : 1 ≤ ls7.length := Sm7.out.1
    obtain ⟨n7, hn7⟩ : ∃ n, n = ls7.length := ⟨_, rfl⟩
    rw [← hn7] at HS7 hcp7 h5 hn71 ⊢
    have HLn7 := Lib.hid hn7
    clear hown hg7 hb7 HC6 HG6 HO6 HCell hls7 hn7
    go_wp2_with fail
    refine (CO.out (N + 2 + 2 + 2 + 2 + 2) 15 _ HC7.out (by omega) (by omega) (by omega)).mono ?_
    rintro e x1 ⟨⟨b2, rfl⟩, hc, hg⟩
    have S1 := Lib.hid (HS7.out.keep hg hB)
    have C1 := Lib.hid hc
    have G1 := Lib.hid (Lib.grownBy_trans HG7.out hg)
    clear hc hg HS7 HC7 HG7
    cases b2
    · go_wp2
      go_ret
      exact ⟨⟨_, _, rfl, S1.out.f Sm7.out.1, Sm7.out⟩, C1.out.mono (by omega), G1.out⟩
    go_wp2_with fail
    refine (CP.out _ (n7 : Int) _ C1.out (by omega) (by omega) (by omega)).mono ?_
    rintro e x2 ⟨⟨i, hi0, hi1, rfl⟩, hc, hg⟩
    obtain ⟨i, rfl⟩ := Int.eq_ofNat_of_zero_le hi0
    have S2 := Lib.hid (S1.out.keep hg hB)
    have C2 := Lib.hid hc
    have G2 := Lib.hid (Lib.grownBy_trans G1.out hg)
    clear hc hg S1 C1 G1
    go_wp2_with fail
    refine (CP.out _ 3 _ C2.out (by omega) (by omega) (by omega)).mono ?_
    rintro e x3 ⟨⟨c, hc0, hc1, rfl⟩, hc, hg⟩
    have S3 := Lib.hid (S2.out.keep hg hB)
    have C3 := Lib.hid hc
    have G3 := Lib.hid (Lib.grownBy_trans G2.out hg)
    have hBx : B < x3.heap.size := C3.out.lt
    clear hc hg S2 C2 G2
    have hc3 : c = 0 ∨ c = 1 ∨ c = 2 := by omega
    rcases hc3 with rfl | rfl | rfl
    · go_wp2_with fail
      refine (among_any B _ x3.heap.size 4 4 [12, 23, -1, 20] _ (C3.out.below (below_al _ _)) (by omega) (by omega) (by simp) rfl (by omega) (by omega) (alloc_ints _ _ _ _ rfl)).mono ?_
      rintro e x4 ⟨⟨z, _, rfl⟩, hc, hg⟩
      have hg4 := Lib.grownBy_trans (World.grownBy_alloc x3 _ (some B)) hg
      have S4 := Lib.hid (S3.out.keep hg4 hB)
      have C4 := Lib.hid hc
      have G4 := Lib.hid (Lib.grownBy_trans G3.out hg4)
      clear hc hg hg4 S3 C3 G3
      obtain ⟨g, o, cp, hv, hcp, hbg, hl, hf, hcell⟩ := S4.out.f Sm7.out.1
      injection hv with e1 e2 e3
      injection e1 with e1
      injection e1 with e1 e4
      subst e1 e4 e3
      have HE2 := Lib.hid e2
      clear e2
      obtain ⟨x, hx⟩ : ∃ x, (ls7)[i]? = some x := ⟨_, List.getElem?_eq_getElem (by rw [← HLn7.out]; omega)⟩
      have HSet := Lib.hid (fun z => (AtF.set (base := w.heap.size) (v := .slice (some ⟨g7, o7, none⟩) n7 cp7) (by rw [HE2.out]) hcp hbg hl hf hcell hx z ByteArray.empty).1)
      have HSm := Lib.hid (fun z => smF_set Sm7.out i (z, x.2) (Sm7.out.2.2 x (List.mem_of_getElem? hx)))
      have HB5 := Lib.hid (fun a v => (Below.refl w.heap.size x4).setCell (p := ⟨_, a, none⟩) hbg v)
      have d0 := (hcell i x hx).1
      have f0 := hf
      have f1 := hf (o7 + i * 2)
      clear hcell hf hx f0
      go_wp2
      go_ret
      exact ⟨⟨_, _, rfl, HSet.out _, HSm.out _⟩, (C4.out.keep ((HB5.out _ _).mono hB)).mono (by omega), grown_belowF G4.out (HB5.out _ _)⟩
    · go_wp2_with fail
      refine (of_any B _ x3.heap.size 4 4 [⟨#[]⟩, ⟨#[73, 110, 103]⟩, ⟨#[97, 98, 99, 100, 101, 102, 103, 104, 105]⟩, ⟨#[97, 98, 99, 100, 101, 102, 103, 104]⟩] _ (C3.out.below (below_al _ _)) (by omega) (by omega) (by simp) rfl (by omega) (by omega) (alloc_strs _ _ _ _ rfl)).mono ?_
      rintro e x4 ⟨⟨z, hz, rfl⟩, hc, hg⟩
      have hz16 : z.size ≤ 16 := by simp at hz; rcases hz with rfl | rfl | rfl | rfl <;> decide
      have hg4 := Lib.grownBy_trans (World.grownBy_alloc x3 _ (some B)) hg
      have S4 := Lib.hid (S3.out.keep hg4 hB)
      have C4 := Lib.hid hc
      have G4 := Lib.hid (Lib.grownBy_trans G3.out hg4)
      clear hc hg hg4 S3 C3 G3 hz
      obtain ⟨g, o, cp, hv, hcp, hbg, hl, hf, hcell⟩ := S4.out.f Sm7.out.1
      injection hv with e1 e2 e3
      injection e1 with e1
      injection e1 with e1 e4
      subst e1 e4 e3
      have HE2 := Lib.hid e2
      clear e2
      obtain ⟨x, hx⟩ : ∃ x, (ls7)[i]? = some x := ⟨_, List.getElem?_eq_getElem (by rw [← HLn7.out]; omega)⟩
      have HSet := Lib.hid (fun z => (AtF.set (base := w.heap.size) (v := .slice (some ⟨g7, o7, none⟩) n7 cp7) (by rw [HE2.out]) hcp hbg hl hf hcell hx 0 z).2)
      have HSm := Lib.hid (smF_set Sm7.out i (x.1, z) hz16)
      have HB5 := Lib.hid (fun a v => (Below.refl w.heap.size x4).setCell (p := ⟨_, a, none⟩) hbg v)
      have d0 := (hcell i x hx).2
      have f1 := hf (o7 + i * 2 + 1)
      clear hcell hf hx
      go_wp2
      go_ret
      exact ⟨⟨_, _, rfl, HSet.out _, HSm.out⟩, (C4.out.keep ((HB5.out _ _).mono hB)).mono (by omega), grown_belowF G4.out (HB5.out _ _)⟩
    · go_wp2_with fail
      go_loopw [3, 5] (fun out kv wr => ∃ (ls : List Atm) (j : Nat), kv = .int .i64 j ∧ 13 ≤ j ∧ j ≤ 18 ∧ Hid (StF wr w.heap.size out ls) ∧ Hid (smF ls) ∧ ls.length ≤ 6 + (j - 13) ∧ Hid (Cur wr B (N + 30 + 2 * (j - 13))) ∧ Hid (w.grownBy wr (some B))) (fun _ kv _ => 18 - (intOf kv).toNat)
      case atStart => exact ⟨_, 13, rfl, Nat.le_refl _, by omega, S3, Sm7, by rw [← HLn7.out]; omega, Lib.hid (C3.out.mono (by omega)), G3⟩
      case round =>
        obtain ⟨ls, j, rfl, hj0, hj1, HS, Hsm, hlen, HC, HG⟩ := hrel
        obtain ⟨g, o, cp, rfl, hcp, hbg, hl, hf, hcell⟩ := HS.out.f Hsm.out.1
        obtain ⟨nl, hnl⟩ : ∃ n, n = ls.length := ⟨_, rfl⟩
        have HNl := Lib.hid hnl
        rw [← hnl] at hlen hcp HS ⊢
        clear hf hcell hnl hl hbg
        go_wp2_with fail
        refine (CP.out _ 2 _ HC.out (by omega) (by omega) (by omega)).mono ?_
        rintro e y1 ⟨⟨c2, hc0, hc1, rfl⟩, hc, hg⟩
        have S4 := Lib.hid (HS.out.keep hg hB)
        have C4 := Lib.hid hc
        have G4 := Lib.hid (Lib.grownBy_trans HG.out hg)
        clear hc hg HS HC HG
        by_cases hgo : (nl : Int) < 6 + c2 ∧ (j : Int) < 18
        · obtain ⟨hgo1, hgo2⟩ := hgo
          have hsz := G4.out.size
          go_wp2_with (at_builtin; refine push_end rfl (.tmp 68) (.tmp 71) rfl w.heap.size _ ls rfl S4.out Hsm.out.1 (j : Int) ⟨#[120]⟩ rfl hsz (by rw [← HNl.out]; omega) ?_)
          intro v5 y2 hown hb hblk
          have hown' := hown
          have S5 : Hid (StF y2 w.heap.size v5 (ls ++ [((j : Int), ⟨#[120]⟩)])) := Lib.hid (.inl hown)
          have Sm5 : Hid (smF (ls ++ [((j : Int), ⟨#[120]⟩)])) := Lib.hid (by
            obtain ⟨h1, h2, h3⟩ := Hsm.out
            refine ⟨by simp, by rw [List.length_append, ← HNl.out]; simp; omega, fun e he => ?_⟩
            rw [List.mem_append, List.mem_singleton] at he
            rcases he with he | rfl
            · exact h3 e he
            · show (⟨#[120]⟩ : ByteArray).size ≤ 16; decide)
          have C5 := Lib.hid ((C4.out.keep (hb.mono hB)).mono (show N + 30 + 2 * (j - 13) + 2 ≤ N + 30 + 2 * (j + 1 - 13) by omega))
          have G5 := Lib.hid (grown_belowF G4.out hb)
          clear hown hown' hb hblk S4 C4 G4
          go_wp2
          go_roundw
          case rel => exact ⟨_, j + 1, by go_num, by omega, by omega, S5, Sm5, by rw [List.length_append, ← HNl.out]; simp; omega, C5, G5⟩
          case measure => simp [intOf]; omega
        · have HAt : Hid (AtF y1 w.heap.size (.slice (some ⟨g, o, none⟩) nl cp) ls) := Lib.hid (S4.out.f Hsm.out.1)
          by_cases hgo1 : (nl : Int) < 6 + c2
          · have hgo2 : ¬ (j : Int) < 18 := fun h => hgo ⟨hgo1, h⟩
            clear hgo
            go_wp2
            go_ret
            exact ⟨⟨_, _, rfl, HAt.out, Hsm.out⟩, C4.out.mono (by omega), G4.out⟩
          · clear hgo
            go_wp2
            go_ret
            exact ⟨⟨_, _, rfl, HAt.out, Hsm.out⟩, C4.out.mono (by omega), G4.out⟩
end Go.Proofs.YthigdblloddepaaGreat

namespace Go.Proofs.YthigdblloddepaaGreat
set_option maxRecDepth 100000
open Go.RowKit

theorem rBig_no (a : Option Addr) (n cap : Nat) (w : World) (h : n ≤ 65536) :
    Calls Tryz.prog 20 #[.slice a n cap] w fun e w' => e = .returned (.bool false) ∧ w = w' := by
  go_enter Tryz.func20, Tryz.ntmps20
  go_wp2
  go_ret
  exact ⟨ret_bool (by simp; omega), rfl⟩
theorem rBig_yes (a : Option Addr) (n cap : Nat) (w : World) (h : 65536 < n) (_hn : n ≤ maxLen) :
    Calls Tryz.prog 20 #[.slice a n cap] w fun e w' => e = .returned (.bool true) ∧ w = w' := by
  go_enter Tryz.func20, Tryz.ntmps20
  go_wp2
  go_ret
  exact ⟨ret_bool (by simp; omega), rfl⟩
theorem rI_any (v u : Value) (xs ys : List Int) (w : World) (h : IntsAt w v xs) (h' : IntsAt w u ys) (hn : xs.length ≤ 2097152) (hm : ys.length ≤ 2097152) :
    Calls Tryz.prog 60 #[v, u] w fun e w' => e = .returned (.bool (decide (xs = ys))) ∧ Below w.heap.size w w' := by
  obtain ⟨a, cap, rfl, hcap, hC⟩ := h.cells
  obtain ⟨b, cap', rfl, hcap', hD⟩ := h'.cells
  obtain ⟨n, hnn⟩ : ∃ n, n = xs.length := ⟨_, rfl⟩
  obtain ⟨m, hmm⟩ : ∃ m, m = ys.length := ⟨_, rfl⟩
  rw [← hnn] at hn hcap ⊢
  rw [← hmm] at hm hcap' ⊢
  have HN := Lib.hid hnn
  have HM := Lib.hid hmm
  have HC := Lib.hid hC
  have HD := Lib.hid hD
  clear h h' hnn hmm hC hD
  by_cases hnm : n = m
  · have hnb : ((n : Int) != (m : Int)) = false := by rw [bne_eq_false_iff_eq]; omega
    go_enter Tryz.func60, Tryz.ntmps60
    go_wp2_with fail
    go_loopw [5] (fun i wr => ∃ k : Nat, i = .int .i64 k ∧ k ≤ n ∧ Hid (xs.take k = ys.take k) ∧ Below w.heap.size w wr) (fun i _ => n - (intOf i).toNat)
    case atStart => exact ⟨0, rfl, Nat.zero_le _, Lib.hid rfl, Below.refl _ _⟩
    case round =>
      obtain ⟨k, rfl, hk, HT, hbel⟩ := hrel
      by_cases hlt : k < n
      · obtain ⟨x, hx⟩ : ∃ x, xs[k]? = some x := ⟨_, List.getElem?_eq_getElem (by rw [← HN.out]; exact hlt)⟩
        obtain ⟨y, hy⟩ : ∃ y, ys[k]? = some y := ⟨_, List.getElem?_eq_getElem (by rw [← HM.out, ← hnm]; exact hlt)⟩
        obtain ⟨bk, o, rfl, _, g0⟩ := HC.out wr hbel k x hx
        obtain ⟨bk', o', rfl, _, g1⟩ := HD.out wr hbel k y hy
        by_cases he : x = y
        · subst he
          have HT2 := Lib.hid (Pl.take_next HT.out hx hy)
          clear hx hy HT
          go_wp2_with fail
          go_quiet (fail)
          go_wp2
          go_roundw
          case rel => exact ⟨k + 1, by go_num, by omega, HT2, below_drewN hbel _⟩
          case measure => simp [intOf]; omega
        · have HF : Hid (decide (xs = ys) = false) := by
            show decide _ = false
            rw [decide_eq_false_iff_not]
            intro e
            rw [e, hy] at hx
            injection hx with hx
            exact he hx.symm
          have hxy : (x != y) = true := by rw [bne_iff_ne]; exact he
          clear hx hy HT he
          go_wp2_with fail
          go_quiet (fail)
          go_wp2
          go_ret
          exact ⟨ret_bool HF.out.symm, below_drewN hbel _⟩
      · obtain rfl : k = n := by omega
        have HF : Hid (decide (xs = ys) = true) := by
          show decide _ = true
          rw [decide_eq_true_iff]
          have h3 := HT.out
          rw [List.take_of_length_le (by rw [← HN.out]; exact Nat.le_refl _), List.take_of_length_le (by rw [← HM.out, ← hnm]; exact Nat.le_refl _)] at h3
          exact h3
        clear HT
        go_wp2
        go_ret
        exact ⟨ret_bool HF.out.symm, hbel⟩
  · have hnb : ((n : Int) != (m : Int)) = true := by rw [bne_iff_ne]; omega
    have HF : Hid (decide (xs = ys) = false) := by
      show decide _ = false
      rw [decide_eq_false_iff_not]
      intro e
      exact hnm (by rw [HN.out, HM.out, e])
    clear hnm
    go_enter Tryz.func60, Tryz.ntmps60
    go_wp2_with fail
    go_ret
    exact ⟨ret_bool HF.out.symm, Below.refl _ _⟩
end Go.Proofs.YthigdblloddepaaGreat

namespace Go.Proofs.YthigdblloddepaaGreat
set_option maxRecDepth 100000
open Go.RowKit

def DF1 (r : Ending) : Prop := ∃ (k : Int) (t : ByteArray), r = .returned (atV k t) ∧ t.size ≤ 16
theorem fd_box (w : World) (x y : Value) (T : TypeId) : (w.alloc (.cells #[x, y] T)).heap[w.heap.size]? = some (.cells #[x, y] T (0, 0)) := heap_alloc_new w _
end Go.Proofs.YthigdblloddepaaGreat

namespace Go.Proofs.YthigdblloddepaaGreat
set_option maxRecDepth 100000
open Go.RowKit

theorem results_tF2 {fn : Func} {p u : Tmp} (h : fn.results = #[.tmp u, .cell p 96]) (tmps : Array Value) (w : World) (g : Nat) (k : Int) (t : ByteArray)
    (hp : tmps.getD p undef = .pointer (some ⟨g, 0, none⟩)) (hg : w.heap[g]? = some (.cells #[.int .i64 k, .string t] 96 (0, 0))) :
    (results fn tmps).run Tryz.prog w = .ok (.tuple #[tmps.getD u undef, atV k t]) w := by
  have hr := run_loadVar_row (P := Tryz.prog) w g _ 96 _ _ _ hg Tryz.underlying96 rfl (by kernel_rfl)
  have hp' : tmps[p]?.getD undef = .pointer (some ⟨g, 0, none⟩) := by simpa using hp
  simp [results, h, hp', asAddr, hr, Result.andThen, atV]
/-- A drawn outline and a drawn fold. -/
def DOF (base : Nat) (w' : World) (r : Ending) : Prop := ∃ (v : Value) (xs : List Int) (k : Int) (t : ByteArray), r = .returned (.tuple #[v, atV k t]) ∧ IntsM w' v xs ∧ xs.length ≤ 8 ∧ t.size ≤ 16 ∧ ∀ b, v.ownBlock = some b → base ≤ b
/-- A world in which a fold's box is seen. -/
structure SeenF (D : Nat) (k : Int) (t : ByteArray) where
  world : World
  c0 : world.cell? ⟨D, 0, none⟩ = some (.int .i64 k)
  c1 : world.cell? ⟨D, 1, none⟩ = some (.string t)
end Go.Proofs.YthigdblloddepaaGreat

namespace Go.Proofs.YthigdblloddepaaGreat
set_option maxRecDepth 100000
open Go.RowKit

theorem results_dt3 {fn : Func} {p u x : Tmp} (h : fn.results = #[.cell p 26, .tmp u, .tmp x]) (tmps : Array Value) (w : World) (g : Nat) (v : Value)
    (hp : tmps.getD p undef = .pointer (some ⟨g, 0, none⟩)) (hg : BoxV w g 26 v) :
    (results fn tmps).run Tryz.prog w = .ok (.tuple #[dV v, tmps.getD u undef, tmps.getD x undef]) w := by
  have hr := run_loadVar_row (P := Tryz.prog) w g _ 26 _ _ _ hg Tryz.underlying26 rfl (by kernel_rfl)
  have hp' : tmps[p]?.getD undef = .pointer (some ⟨g, 0, none⟩) := by simpa using hp
  simp [results, h, hp', asAddr, hr, Result.andThen, dV]
/-- A drawn dictionary, drawn folds and a drawn outline. -/
def DLf (base : Nat) (w' : World) (r : Ending) : Prop := ∃ (v : Value) (us : List (Value × Ent)) (fv : Value) (fs : List Atm) (u : Value) (xs : List Int), r = .returned (.tuple #[dV v, fv, u]) ∧
  Rows w' base v us ∧ us.length ≤ 60 ∧ (∀ p ∈ us, p.2.1.length ≤ 8 ∧ p.2.2.size ≤ 60) ∧ AtF w' base fv fs ∧ smF fs ∧ IntsM w' u xs ∧ xs.length ≤ 8
theorem AtF.mono {w : World} {base base' : Nat} {v : Value} {ls : List Atm} (h : AtF w base v ls) (hb : base' ≤ base) : AtF w base' v ls := by
  obtain ⟨g, o, cap, hv, hc, hbg, hr⟩ := h
  exact ⟨g, o, cap, hv, hc, Nat.le_trans hb hbg, hr⟩
/-- What has been drawn, while the outline and perhaps another dictionary are drawn. -/
structure DL (w wx : World) (D : Nat) (v : Value) (us : List (Value × Ent)) (fv : Value) (fs : List Atm) (u : Value) (xs : List Int) (N : Nat) : Prop where
  box : BoxV wx D 26 v
  res : BoxV wx w.heap.size 26 (.slice none 0 0)
  rows : Rows wx (w.heap.size + 2) v us
  folds : AtF wx (D + 1) fv fs
  outl : IntsM wx u xs
  outB : ∀ b, u.ownBlock = some b → D < b
  cur : Cur wx (w.heap.size + 1) N
  low : Below w.heap.size w wx
  hD : w.heap.size + 1 < D
  hDs : D < wx.heap.size
theorem DL.keep {w wx wy : World} {D N N' : Nat} {v fv u : Value} {us : List (Value × Ent)} {fs : List Atm} {xs : List Int} (h : DL w wx D v us fv fs u xs N) (hg : wx.grownBy wy (some (w.heap.size + 1))) (hc : Cur wy (w.heap.size + 1) N') : DL w wy D v us fv fs u xs N' :=
  ⟨h.box.keep hg h.hD, h.res.grown hg (by simp), h.rows.keep hg (by omega), h.folds.keep hg (by have := h.hD; omega), ints_grown h.outl hg (fun j hj e => by have := h.outB j hj; have := h.hD; injection e with e; omega), h.outB, hc, h.low.grown hg h.low.size (fun b e => by injection e with e; omega), h.hD, Nat.lt_of_lt_of_le h.hDs hg.size⟩
/-- Another dictionary in the box. -/
theorem DL.put {w wx : World} {D N base : Nat} {v v' fv u : Value} {us us' : List (Value × Ent)} {fs : List Atm} {xs : List Int} (h : DL w wx D v us fv fs u xs N) (hr : Rows wx base v' us') (hb : D < base) : DL w (wx.setCell ⟨D, 0, none⟩ v') D v' us' fv fs u xs N :=
  ⟨h.box.set v', h.res.other (by have := h.hD; omega), (hr.setCell hb).mono (by have := h.hD; omega), h.folds.keep (grown_setC wx D 0 v') (by omega), ints_grown h.outl (grown_setC wx D 0 v') (fun j hj e => by have := h.outB j hj; injection e with e; omega), h.outB, h.cur.setCellA (by have := h.hD; omega) _ _, h.low.setCell (p := ⟨D, 0, none⟩) (by have := h.hD; show w.heap.size ≤ D; omega) _, h.hD, Nat.lt_of_lt_of_le h.hDs (grown_setC wx D 0 v').size⟩
/-- The dictionary in the result's box. -/
theorem DL.fin {w wx : World} {D N : Nat} {v fv u : Value} {us : List (Value × Ent)} {fs : List Atm} {xs : List Int} (h : DL w wx D v us fv fs u xs N) :
    BoxV (wx.setCell ⟨w.heap.size, 0, none⟩ v) w.heap.size 26 v ∧ Rows (wx.setCell ⟨w.heap.size, 0, none⟩ v) w.heap.size v us ∧ AtF (wx.setCell ⟨w.heap.size, 0, none⟩ v) w.heap.size fv fs ∧ IntsM (wx.setCell ⟨w.heap.size, 0, none⟩ v) u xs ∧ Below w.heap.size w (wx.setCell ⟨w.heap.size, 0, none⟩ v) :=
  ⟨h.res.set v, (h.rows.setCell (by omega)).mono (by omega), (h.folds.keep (grown_setC wx w.heap.size 0 v) (by have := h.hD; omega)).mono (by have := h.hD; omega), ints_grown h.outl (grown_setC wx w.heap.size 0 v) (fun j hj e => by have := h.outB j hj; have := h.hD; injection e with e; omega), h.low.setCell (p := ⟨w.heap.size, 0, none⟩) (Nat.le_refl _) _⟩
end Go.Proofs.YthigdblloddepaaGreat
