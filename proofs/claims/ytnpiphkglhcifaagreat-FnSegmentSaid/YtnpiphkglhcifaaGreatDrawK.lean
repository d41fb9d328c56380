/-
  CONTRACTS of the draws of chapter 2: stroke, anyStroke, spoilt, DrawFormatStroke, DrawParseStroke, DrawParseLooseStroke, DrawNewStroke, DrawHasKey, DrawMergeStrokes.
-/
import Derived.Test.YtnpiphkglhcifaaGreatDraw
import Derived.Test.YtnpiphkglhcifaaGreatKeys
namespace Go.Proofs.YtnpiphkglhcifaaGreat
set_option maxRecDepth 100000
open Go.RowKit
/-- The call gives a text of at most m bytes. -/
def Text (m : Nat) (e : Ending) : Prop := ∃ x : ByteArray, x.size ≤ m ∧ e = .returned (.string x)
theorem ext_size (t : ByteArray) (i j : Nat) (h : j ≤ t.size) : (t.extract i j).size ≤ j - i := by rw [ByteArray.size_extract]; omega

/-- A stroke, as an answer. -/
def Stroke (e : Ending) : Prop := ∃ n : Nat, n < 8388608 ∧ e = .returned (.int .i64 n)
set_option maxHeartbeats 2000000 in
theorem stroke_any (B N : Nat) (w : World) (h : Cur w B N) (hN : N ≤ 990000) :
    Calls Tryz.prog 55 #[.pointer (some ⟨B, 0, none⟩)] w fun e w' => Stroke e ∧ Cur w' B (N + 12) ∧ w.grownBy w' (some B) := by
  have C1 := Lib.hid (fun N n w h hN h0 h1 => one_any B N n w h hN h0 h1)
  have CP := Lib.hid (fun N n w h hN h0 h1 => pick_any B N n w h hN h0 h1)
  have CA : Hid (∀ (wx w1 : World) N cs, Cur wx B N → N ≤ 999000 → w1 = wx.alloc (.cells cs 3) → cs = ([524552, 260, 1048576, 262144, 4194304, 514, 8, 2064, 2097152].map (Value.int .i64)).toArray →
      Calls Tryz.prog 54 #[.pointer (some ⟨B, 0, none⟩), .slice (some ⟨wx.heap.size, 0, none⟩) 9 9] w1 fun e w' => Stroke e ∧ Cur w' B (N + 2) ∧ wx.grownBy w' (some B)) := by
    intro wx w1 N cs hcu hN hw hcs
    subst hw
    have hlt := hcu.lt
    refine (among_any B N wx.heap.size 9 9 _ _ (hcu.below ((Below.refl _ _).alloc (Nat.le_refl _) _)) hN (by omega) (by rw [World.size_alloc]; omega) rfl (by omega) (by omega) (alloc_ints wx cs _ _ hcs)).mono ?_
    rintro e w' ⟨⟨x, hx, rfl⟩, hc, hg⟩
    refine ⟨?_, hc, Lib.grownBy_trans (World.grownBy_alloc wx _ (some B)) hg⟩
    have hx2 : 0 ≤ x ∧ x < 8388608 := by
      simp only [List.mem_cons, List.not_mem_nil, or_false] at hx
      omega
    obtain ⟨n, rfl⟩ := Int.eq_ofNat_of_zero_le hx2.1
    exact ⟨n, by omega, rfl⟩
  have HC0 := Lib.hid h
  clear h
  go_enter Tryz.func55, Tryz.ntmps55
  go_wp2_with fail
  refine (C1.out _ _ _ HC0.out (by omega) (by omega) (by omega)).mono ?_
  rintro e w1 ⟨⟨b, rfl⟩, hc1, hg1⟩
  have HC1 := Lib.hid hc1
  have HG1 := Lib.hid hg1
  clear hc1 hg1
  cases b
  · go_wp2_with fail
    refine (CP.out _ _ _ HC1.out (by omega) (by omega) (by omega)).mono ?_
    rintro e w2 ⟨⟨r, r0, r1, rfl⟩, hc2, hg2⟩
    obtain ⟨m, rfl⟩ := Int.eq_ofNat_of_zero_le r0
    have HC2 := Lib.hid hc2
    have HG2 := Lib.hid (Lib.grownBy_trans HG1.out hg2)
    clear hc2 hg2
    go_wp2_with fail
    go_loopw [3, 4] (fun s i wr => ∃ (k q : Nat), i = .int .i64 k ∧ s = .int .i64 q ∧ k ≤ 4 ∧ q < 8388608 ∧ Hid (Cur wr B (N + 12 - 2 * k)) ∧ Hid (w.grownBy wr (some B))) (fun _ i _ => (intOf i).toNat)
    case atStart => exact ⟨1 + m, 0, by go_num, rfl, by omega, by omega, HC2.out.mono (by omega), HG2⟩
    case round =>
      obtain ⟨k, q, rfl, rfl, hk, hq, HC, HG⟩ := hrel
      by_cases hpos : 0 < k
      · have hpos' : (0 : Int) < (k : Int) := by omega
        go_wp2_with fail
        refine (CP.out _ _ _ HC.out (by omega) (by omega) (by omega)).mono ?_
        rintro e w3 ⟨⟨r, r0, r1, rfl⟩, hc3, hg3⟩
        obtain ⟨d, rfl⟩ := Int.eq_ofNat_of_zero_le r0
        have hd : d < 23 := by omega
        have HC3 := Lib.hid hc3
        have HG3 := Lib.hid (Lib.grownBy_trans HG.out hg3)
        have hsh := shl_i64' d hd
        have hor := or_i64s q (2 ^ d) hq (pow_lt23 d hd)
        have hlt2 : q ||| 2 ^ d < 8388608 := Pl.or_lt q d hq hd
        obtain ⟨p, hp⟩ : ∃ p, p = 2 ^ d := ⟨_, rfl⟩
        rw [← hp] at hsh hor hlt2
        clear hc3 hg3 hp
        go_wp2
        go_roundw
        case rel => exact ⟨k - 1, q ||| p, by first | go_num | (congr 1; omega), rfl, by omega, hlt2, HC3.out.mono (by omega), HG3⟩
        case measure => simp [intOf]; omega
      · obtain rfl : k = 0 := by omega
        go_wp2
        go_ret
        exact ⟨⟨q, hq, rfl⟩, HC.out.mono (by omega), HG.out⟩
  · go_wp2_with fail
    refine (CA.out _ _ _ _ HC1.out (by omega) rfl rfl).mono ?_
    rintro e w2 ⟨⟨n, hn, rfl⟩, hc2, hg2⟩
    have HC2 := Lib.hid hc2
    have HG2 := Lib.hid (Lib.grownBy_trans HG1.out hg2)
    clear hc2 hg2
    go_wp2
    go_ret
    exact ⟨⟨n, hn, rfl⟩, HC2.out.mono (by omega), HG2.out⟩
theorem anyStroke_any (B N : Nat) (w : World) (h : Cur w B N) (hN : N ≤ 980000) :
    Calls Tryz.prog 41 #[.pointer (some ⟨B, 0, none⟩)] w fun e w' => (∃ x : Int, e = .returned (.int .i64 x)) ∧ Cur w' B (N + 14) ∧ w.grownBy w' (some B) := by
  have C1 := Lib.hid (fun N n w h hN h0 h1 => one_any B N n w h hN h0 h1)
  have CS := Lib.hid (fun N w h hN => stroke_any B N w h hN)
  have CA : Hid (∀ (wx w1 : World) N cs, Cur wx B N → N ≤ 999000 → w1 = wx.alloc (.cells cs 3) → cs = ([0, -1, 8388608, 8388607, 1, 1099511627776].map (Value.int .i64)).toArray →
      Calls Tryz.prog 54 #[.pointer (some ⟨B, 0, none⟩), .slice (some ⟨wx.heap.size, 0, none⟩) 6 6] w1 fun e w' => (∃ x : Int, e = .returned (.int .i64 x)) ∧ Cur w' B (N + 2) ∧ wx.grownBy w' (some B)) := by
    intro wx w1 N cs hcu hN hw hcs
    subst hw
    have hlt := hcu.lt
    refine (among_any B N wx.heap.size 6 6 _ _ (hcu.below ((Below.refl _ _).alloc (Nat.le_refl _) _)) hN (by omega) (by rw [World.size_alloc]; omega) rfl (by omega) (by omega) (alloc_ints wx cs _ _ hcs)).mono ?_
    rintro e w' ⟨⟨x, hx, rfl⟩, hc, hg⟩
    exact ⟨⟨x, rfl⟩, hc, Lib.grownBy_trans (World.grownBy_alloc wx _ (some B)) hg⟩
  have HC0 := Lib.hid h
  clear h
  go_enter Tryz.func41, Tryz.ntmps41
  go_wp2_with fail
  refine (C1.out _ _ _ HC0.out (by omega) (by omega) (by omega)).mono ?_
  rintro e w1 ⟨⟨b, rfl⟩, hc1, hg1⟩
  have HC1 := Lib.hid hc1
  have HG1 := Lib.hid hg1
  clear hc1 hg1
  cases b
  · go_wp2_with fail
    refine (CS.out _ _ HC1.out (by omega)).mono ?_
    rintro e w2 ⟨⟨n, hn, rfl⟩, hc2, hg2⟩
    have HC2 := Lib.hid hc2
    have HG2 := Lib.hid (Lib.grownBy_trans HG1.out hg2)
    clear hc2 hg2
    go_wp2
    go_ret
    exact ⟨⟨_, rfl⟩, HC2.out, HG2.out⟩
  · go_wp2_with fail
    refine (CA.out _ _ _ _ HC1.out (by omega) rfl rfl).mono ?_
    rintro e w2 ⟨⟨x, rfl⟩, hc2, hg2⟩
    have HC2 := Lib.hid hc2
    have HG2 := Lib.hid (Lib.grownBy_trans HG1.out hg2)
    clear hc2 hg2
    go_wp2
    go_ret
    exact ⟨⟨_, rfl⟩, HC2.out.mono (by omega), HG2.out⟩

theorem own_keepI {w w' : World} {base B : Nat} {v : Value} {n : Nat} {xs : List Value} (h : w.ownsRow base 3 1 v n xs) (hg : w.grownBy w' (some B)) (hB : B < base) : w'.ownsRow base 3 1 v n xs := by
  refine h.kept hg ?_
  rcases h.2 with ⟨rfl, _⟩ | ⟨g, cap, cur, rfl, hb, _⟩
  · exact .inl rfl
  · refine .inr fun e => ?_
    have : g = B := by simpa [Value.ownBlock] using e
    omega


end Go.Proofs.YtnpiphkglhcifaaGreat
