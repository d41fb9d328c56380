/-
  CONTRACTS of the draws of chapter 3.
-/
import Derived.Test.YtindcafdphfppaaEvUp
namespace Go.Proofs.Ytindcafdphfppaa
open Go.RowKit

theorem own_keepR {w w' : World} {base B : Nat} {e : TypeId} {sz : Nat} {v : Value} {n : Nat} {xs : List Value} (h : w.ownsRow base e sz v n xs) (hg : w.grownBy w' (some B)) (hB : B < base) : w'.ownsRow base e sz v n xs := by
  refine h.kept hg ?_
  rcases h.2 with ⟨rfl, _⟩ | ⟨g, cap, cur, rfl, hb, _⟩
  · exact .inl rfl
  · refine .inr fun e => ?_
    have : g = B := by simpa [Value.ownBlock] using e
    omega

set_option maxHeartbeats 2000000 in
theorem drawChord_any (a : Option Addr) (n cap : Nat) (w : World) (h : CodeAt w a n) :
    Calls Try.prog 12 #[.slice a n cap] w fun e w' => (∃ (v : Value) (xs : List Int) (iv : Int), e = .returned (.tuple #[v, .int .i64 iv]) ∧ IntsAt w' v xs ∧ xs.length ≤ 60) ∧ Below w.heap.size w w' := by
  obtain ⟨i0, hi, hz0, hz1, hz2⟩ := info_parts infoInt
  have CP := Lib.hid (fun B N n w h hN h0 h1 => pick_any B N n w h hN h0 h1)
  have C1 := Lib.hid (fun B N n w h hN h0 h1 => one_any B N n w h hN h0 h1)
  have CY := Lib.hid (fun B N w h hN => anyStroke_any B N w h hN)
  have CS := Lib.hid (fun B N w h hN => stroke_any B N w h hN)
  have CA : Hid (∀ (wx w1 : World) B N cs, Cur wx B N → N ≤ 999000 → w1 = wx.alloc (.cells cs 3) → cs = ([5, 1, 0, 1000, 1001, -1, 20].map (Value.int .i64)).toArray →
      Calls Try.prog 40 #[.pointer (some ⟨B, 0, none⟩), .slice (some ⟨wx.heap.size, 0, none⟩) 7 7] w1 fun e w' => (∃ x : Int, e = .returned (.int .i64 x)) ∧ Cur w' B (N + 2) ∧ wx.grownBy w' (some B)) := by
    intro wx w1 B N cs hcu hN hw hcs
    subst hw
    have hlt := hcu.lt
    refine (among_any B N wx.heap.size 7 7 _ _ (hcu.below ((Below.refl _ _).alloc (Nat.le_refl _) _)) hN (by omega) (by rw [World.size_alloc]; omega) rfl (by omega) (by omega) (alloc_ints wx cs _ _ hcs)).mono ?_
    rintro e w' ⟨⟨x, hx, rfl⟩, hc, hg⟩
    exact ⟨⟨x, rfl⟩, hc, Lib.grownBy_trans (World.grownBy_alloc wx _ (some B)) hg⟩
  have HC0 := Lib.hid (cur_new w a n cap 50 h)
  have HB0 : Hid (Below w.heap.size w (w.alloc (.cells #[.slice a n cap, .int .i64 0, .int .u64 0] 50))) := (Below.refl _ _).alloc (Nat.le_refl _) _
  clear h
  go_enter Try.func12, Try.ntmps12
  go_wp2_with fail
  refine (CP.out _ _ _ _ (HC0.out.below ((Below.refl _ _).alloc (Nat.le_refl _) _)) (by omega) (by omega) (by omega)).mono ?_
  rintro e w1 ⟨⟨r, r0, r1, rfl⟩, hc1, hg1⟩
  have HC1 := Lib.hid hc1
  have HB1 : Hid (Below w.heap.size w w1) := below_cur (HB0.out.alloc HB0.out.size _) hg1
  have HO1 : Hid (w1.ownsRow (w.heap.size + 1) 3 1 (.slice (some ⟨w.heap.size + 1, 0, none⟩) 0 0) 0 []) := by
    refine own_keepI (B := w.heap.size) ?_ hg1 (by omega)
    have e := row_new (w.alloc (.cells #[.slice a n cap, .int .i64 0, .int .u64 0] 50)) 3
    rw [World.size_alloc] at e
    exact e
  clear hc1 hg1
  obtain ⟨R, rfl⟩ := Int.eq_ofNat_of_zero_le r0
  go_wp2_with fail
  go_loopw [5, 6] (fun l i wr => ∃ (k : Nat) (xs : List Int), i = .int .i64 k ∧ k ≤ 5 ∧ xs.length + k ≤ 5 ∧ wr.ownsRow (w.heap.size + 1) 3 1 l xs.length (xs.map (.int .i64)) ∧ Hid (Cur wr w.heap.size (0 + 2 + 70 - 14 * k)) ∧ Below w.heap.size w wr) (fun _ i _ => (intOf i).toNat)
  case atStart => exact ⟨R, [], rfl, by omega, by simp; omega, HO1.out, HC1.out.mono (by omega), HB1.out⟩
  case round =>
    obtain ⟨k, xs, rfl, hk, hlen, hown0, HC, hbel⟩ := hrel
    have HO0 := Lib.hid hown0
    have HBl := Lib.hid hbel
    clear hown0 hbel
    by_cases hpos : 0 < k
    · have hpos' : (0 : Int) < (k : Int) := by omega
      go_wp2_with fail
      refine (CY.out _ _ _ HC.out (by omega)).mono ?_
      rintro e w3 ⟨⟨x, rfl⟩, hc3, hg3⟩
      have hown := own_keepI HO0.out hg3 (by omega)
      have hb3 := below_cur HBl.out hg3
      have hsz := hb3.size
      have hlt3 := hc3.lt
      have HC3 := Lib.hid hc3
      clear hg3 hc3
      go_wp2_with (at_builtin; refine wpList_append_own _ rfl _ _ 24 rfl (w.heap.size + 1) 3 i0 (.int .i64 0) 1 8 Try.underlying24 hi hz0 hz1 hz2 rfl (by decide) _ _ _ rfl (hown.alloc _) ⟨w3.heap.size, 0, none⟩ 1 1 [.int .i64 x] rfl rfl ?c1 ?c2 ?c3 ?c4 ?c5 ?_)
      case c1 => exact cell_one_new _ _ _
      case c2 => intro y hy; simp at hy; subst hy; rfl
      case c3 => unfold maxLen; omega
      case c4 => omega
      case c5 => simp; omega
      intro v' w4 hown' hgrow _
      have hbw : Below (w.heap.size + 1) w3 w4 := ((Below.refl _ _).alloc (by omega) _).grown hgrow (by simp; omega) fun j hj => row_ge hown hj
      have HO : Hid (w4.ownsRow (w.heap.size + 1) 3 1 v' (xs ++ [x]).length ((xs ++ [x]).map (.int .i64))) := by
        rw [List.length_append, List.map_append]; exact hown'
      have HB4 : Hid (Below w.heap.size w w4) := hb3.trans (hbw.mono (by omega))
      have HC4 : Hid (Cur w4 w.heap.size (0 + 2 + 70 - 14 * (k - 1))) := (HC3.out.keep hbw).mono (by omega)
      clear hown hown' hgrow hbw hb3
      go_wp2
      go_roundw
      case rel => exact ⟨k - 1, xs ++ [x], by first | go_num | (congr 1; omega), by omega, by simp; omega, HO.out, HC4, HB4.out⟩
      case measure => simp [intOf]; omega
    · obtain rfl : k = 0 := by omega
      go_wp2_with fail
      refine (C1.out _ _ _ _ HC.out (by omega) (by omega) (by omega)).mono ?_
      rintro e w3 ⟨⟨b, rfl⟩, hc3, hg3⟩
      have hown := own_keepI HO0.out hg3 (by omega)
      have hb3 := below_cur HBl.out hg3
      have HC3 := Lib.hid hc3
      have HO3 := Lib.hid hown
      have HB3 := Lib.hid hb3
      clear hg3 hc3 hown hb3
      cases b
      · go_wp2_with fail
        refine (CA.out w3 _ _ _ _ HC3.out (by omega) rfl rfl).mono ?_
        rintro e w4 ⟨⟨y, rfl⟩, hc4, hg4⟩
        have HB4 := Lib.hid (below_cur HB3.out hg4)
        have HI := Lib.hid (rowInts_at (own_keepI HO3.out hg4 (by omega)))
        clear hc4 hg4
        go_wp2
        go_ret2
        exact ⟨⟨_, xs, _, rfl, HI.out, by omega⟩, HB4.out⟩
      · go_wp2_with fail
        go_loopw [5] (fun l wr => ∃ (xs : List Int), xs.length ≤ 50 ∧ (∃ ga gc, l = .slice ga xs.length gc) ∧ wr.ownsRow (w.heap.size + 1) 3 1 l xs.length (xs.map (.int .i64)) ∧ Hid (Cur wr w.heap.size (100 + 12 * xs.length)) ∧ Below w.heap.size w wr) (fun l _ => match l with | .slice _ m _ => 50 - m | _ => 0)
        case atStart =>
          refine ⟨xs, by omega, ?_, HO3.out, HC3.out.mono (by omega), HB3.out⟩
          rcases HO3.out.2 with ⟨h1, h2⟩ | ⟨g, cp, cur, h1, _⟩
          · exact ⟨none, 0, by rw [h1, h2]⟩
          · exact ⟨_, cp, h1⟩
        case round =>
          obtain ⟨ys, hyl, ⟨ga, gc, rfl⟩, hown0, HC, hbel⟩ := hrel
          have HO0 := Lib.hid hown0
          have HBl := Lib.hid hbel
          clear hown0 hbel
          by_cases hpos : ys.length < 50
          · have hpos' : (ys.length : Int) < 50 := by omega
            go_wp2_with fail
            refine (CS.out _ _ _ HC.out (by omega)).mono ?_
            rintro e w4 ⟨⟨x, hx, rfl⟩, hc4, hg4⟩
            have hown := own_keepI HO0.out hg4 (by omega)
            have hb4 := below_cur HBl.out hg4
            have hsz := hb4.size
            have hlt4 := hc4.lt
            have HC4 := Lib.hid hc4
            clear hg4 hc4
            go_wp2_with (at_builtin; refine wpList_append_own _ rfl _ _ 24 rfl (w.heap.size + 1) 3 i0 (.int .i64 0) 1 8 Try.underlying24 hi hz0 hz1 hz2 rfl (by decide) _ _ _ rfl (hown.alloc _) ⟨w4.heap.size, 0, none⟩ 1 1 [.int .i64 (x : Int)] rfl rfl ?d1 ?d2 ?d3 ?d4 ?d5 ?_)
            case d1 => exact cell_one_new _ _ _
            case d2 => intro y hy; simp at hy; subst hy; rfl
            case d3 => unfold maxLen; omega
            case d4 => omega
            case d5 => simp; omega
            intro v' w5 hown' hgrow _
            have hbw : Below (w.heap.size + 1) w4 w5 := ((Below.refl _ _).alloc (by omega) _).grown hgrow (by simp; omega) fun j hj => row_ge hown hj
            have HO5 : Hid (w5.ownsRow (w.heap.size + 1) 3 1 v' (ys ++ [(x : Int)]).length ((ys ++ [(x : Int)]).map (.int .i64))) := by
              rw [List.length_append, List.map_append]; exact hown'
            have HB5 : Hid (Below w.heap.size w w5) := hb4.trans (hbw.mono (by omega))
            have HC5 : Hid (Cur w5 w.heap.size (100 + 12 * (ys ++ [(x : Int)]).length)) := (HC4.out.keep hbw).mono (by simp; omega)
            obtain ⟨ga', gc', rfl⟩ : ∃ ga gc, v' = .slice ga (ys ++ [(x : Int)]).length gc := by
              rcases HO5.out.2 with ⟨h1, h2⟩ | ⟨g, cp, cur, h1, _⟩
              · exact ⟨none, 0, by rw [h1, h2]⟩
              · exact ⟨_, cp, h1⟩
            clear hown hown' hgrow hbw hb4
            go_wp2
            go_roundw
            case rel => exact ⟨ys ++ [(x : Int)], by simp; omega, ⟨_, _, rfl⟩, HO5.out, HC5, HB5.out⟩
            case measure => simp; omega
          · have hpos' : ¬ (ys.length : Int) < 50 := by omega
            go_wp2_with fail
            refine (CA.out wr _ _ _ _ HC.out (by omega) rfl rfl).mono ?_
            rintro e w4 ⟨⟨y, rfl⟩, hc4, hg4⟩
            have HB4 := Lib.hid (below_cur HBl.out hg4)
            have HI := Lib.hid (rowInts_at (own_keepI HO0.out hg4 (by omega)))
            clear hc4 hg4
            go_wp2
            go_ret2
            exact ⟨⟨_, ys, _, rfl, HI.out, by omega⟩, HB4.out⟩

theorem xor_lt23 (a b : Nat) (ha : a < 8388608) (hb : b < 8388608) : a ^^^ b < 8388608 := Nat.xor_lt_two_pow (n := 23) ha hb
theorem keysI_mem {n j : Nat} {x : Int} (h : (keysI n)[j]? = some x) : ∃ k : Nat, x = (k : Int) ∧ k < 23 := by
  unfold keysI at h
  rw [List.getElem?_map] at h
  obtain ⟨k, hk, rfl⟩ := Option.map_eq_some_iff.1 h
  exact ⟨k, rfl, (Pl.mem_keysIn.1 (List.mem_of_getElem? hk)).1.2⟩
theorem three_one (a b : Int) (c : Bool) : ∀ u ∈ ([.int .i64 a, .int .i64 b, .bool c] : List Value), u.oneCell' = true := by
  intro y hy
  simp only [List.mem_cons, List.not_mem_nil, or_false] at hy
  rcases hy with rfl | rfl | rfl <;> rfl
/-- What lies below the cursor's block stands. -/
theorem below_curB {w w1 w2 : World} {B : Nat} (h : Below B w w1) (hB : B ≤ w1.heap.size) (hg : w1.grownBy w2 (some B)) : Below B w w2 :=
  h.grown hg hB fun k e => by cases e; exact Nat.le_refl _
set_option maxHeartbeats 8000000 in
theorem events_any (B N : Nat) (w : World) (h : Cur w B N) (hN : N ≤ 900000) (hB : B + 1 = w.heap.size) :
    Calls Try.prog 65 #[.pointer (some ⟨B, 0, none⟩)] w fun e w' => (∃ (v : Value) (es : List Pl.Ev), e = .returned v ∧ EvsAt w' v es ∧ es.length ≤ 250) ∧ Below B w w' := by
  obtain ⟨iE, hiE, hE0, hE1, hE2⟩ := info_parts infoEv
  have CP := Lib.hid (fun N n w h hN h0 h1 => pick_any B N n w h hN h0 h1)
  have C1 := Lib.hid (fun N n w h hN h0 h1 => one_any B N n w h hN h0 h1)
  have CK := Lib.hid (fun m hm w => l2Keys_any m hm w)
  have CA : Hid (∀ (xs : List Int) (wx w1 : World) N cs, Cur wx B N → N ≤ 999000 → xs.length = 4 → w1 = wx.alloc (.cells cs 3) → cs = (xs.map (Value.int .i64)).toArray →
      Calls Try.prog 40 #[.pointer (some ⟨B, 0, none⟩), .slice (some ⟨wx.heap.size, 0, none⟩) 4 4] w1 fun e w' => (∃ x : Int, e = .returned (.int .i64 x)) ∧ Cur w' B (N + 2) ∧ wx.grownBy w' (some B)) := by
    intro xs wx w1 N cs hcu hN hxl hw hcs
    subst hw
    have hlt := hcu.lt
    refine (among_any B N wx.heap.size 4 4 _ _ (hcu.below ((Below.refl _ _).alloc (Nat.le_refl _) _)) hN (by omega) (by rw [World.size_alloc]; omega) hxl (by omega) (by omega) (alloc_ints wx cs _ _ hcs)).mono ?_
    rintro e w' ⟨⟨x, hx, rfl⟩, hc, hg⟩
    exact ⟨⟨x, rfl⟩, hc, Lib.grownBy_trans (World.grownBy_alloc wx _ (some B)) hg⟩
  have hal : Below (B + 1) w (w.alloc (.cells #[] 31)) := (Below.refl _ _).alloc (by omega) _
  have HC0 := Lib.hid (h.keep hal)
  have HB0 : Hid (Below B w (w.alloc (.cells #[] 31))) := hal.mono (by omega)
  have HO0 : Hid (OwnE (w.alloc (.cells #[] 31)) (B + 1) (.slice (some ⟨w.heap.size, 0, none⟩) 0 0) []) := by rw [hB]; exact ownE_new w
  have hBle : B ≤ w.heap.size := by omega
  clear h hal hB
  go_enter Try.func65, Try.ntmps65
  go_wp2_with fail
  refine (CP.out _ _ _ HC0.out (by omega) (by omega) (by omega)).mono ?_
  rintro e w1 ⟨⟨r, r0, r1, rfl⟩, hc1, hg1⟩
  obtain ⟨R, rfl⟩ := Int.eq_ofNat_of_zero_le r0
  have HC1 := Lib.hid hc1
  have HB1 : Hid (Below B w w1) := below_curB HB0.out (by rw [World.size_alloc]; omega) hg1
  have HO1 : Hid (OwnE w1 (B + 1) (.slice (some ⟨w.heap.size, 0, none⟩) 0 0) []) := own_keepR HO0.out hg1 (by omega)
  clear hc1 hg1
  go_wp2_with fail
  go_loopw [3, 4, 5, 6] (fun l dn nw i wr => ∃ (k : Nat) (E : List Pl.Ev) (d : Nat) (t : Int), i = .int .i64 k ∧ k ≤ 15 ∧ E.length + k ≤ 15 ∧ dn = .int .i64 d ∧ d < 8388608 ∧ nw = .int .i64 t ∧ 0 ≤ t ∧ t + 2 * k ≤ 30 ∧
    Hid (OwnE wr (B + 1) l E) ∧ Hid (Cur wr B (N + 2 + 180 - 12 * k)) ∧ Below B w wr) (fun _ _ _ i _ => (intOf i).toNat)
  case atStart => exact ⟨R, [], 0, 0, rfl, by omega, by simp; omega, rfl, by omega, rfl, by omega, by omega, HO1, HC1.out.mono (by omega), HB1.out⟩
  case round =>
    obtain ⟨k, E, dn, t, rfl, hk, hEk, rfl, hdn, rfl, ht0, ht1, HO, HC, hbel⟩ := hrel
    have hszr : B + 1 ≤ wr.heap.size := HC.out.lt
    by_cases hpos : 0 < k
    · have hpos' : (0 : Int) < (k : Int) := by omega
      go_wp2_with fail
      refine (CP.out _ _ _ HC.out (by omega) (by omega) (by omega)).mono ?_
      rintro e w2 ⟨⟨r, r0, r1, rfl⟩, hc2, hg2⟩
      obtain ⟨k0, rfl⟩ := Int.eq_ofNat_of_zero_le r0
      have HC2 := Lib.hid hc2
      have HB2 := Lib.hid (below_curB hbel (by omega) hg2)
      have HO2 := Lib.hid (own_keepR HO.out hg2 (by omega))
      clear hc2 hg2
      go_wp2_with fail
      refine (C1.out _ _ _ HC2.out (by omega) (by omega) (by omega)).mono ?_
      rintro e w3 ⟨⟨b, rfl⟩, hc3, hg3⟩
      have hs2 : B ≤ w2.heap.size := by have := HC2.out.lt; omega
      have HC3 := Lib.hid hc3
      have HB3 := Lib.hid (below_curB HB2.out hs2 hg3)
      have HO3 := Lib.hid (own_keepR HO2.out hg3 (by omega))
      clear hc3 hg3 HO HC HC2 HB2 HO2 hs2
      cases b
      case' false =>
        obtain ⟨key, hkey⟩ : ∃ key : Nat, key = k0 := ⟨_, rfl⟩
        subst hkey
        have hkey : key < 23 := by omega
        have HC4 : Hid (Cur w3 B (N + 2 + 180 - 12 * k + 2 + 2 + 2)) := HC3.out.mono (by omega)
        have HB4 := HB3
        have HO4 := HO3
        rename World => w4
      case' true =>
        go_wp2_with fail
        refine (CP.out _ _ _ HC3.out (by omega) (by omega) (by omega)).mono ?_
        rintro e w4 ⟨⟨r, r0, r1, rfl⟩, hc4, hg4⟩
        obtain ⟨key, rfl⟩ := Int.eq_ofNat_of_zero_le r0
        have hkey : key < 23 := by omega
        have hs3 : B ≤ w3.heap.size := by have := HC3.out.lt; omega
        have HC4 := Lib.hid hc4
        have HB4 := Lib.hid (below_curB HB3.out hs3 hg4)
        have HO4 := Lib.hid (own_keepR HO3.out hg4 (by omega))
        clear hc4 hg4 hs3
      all_goals
        clear HC3 HB3 HO3
        go_wp2_with fail
        refine (CK.out dn hdn _).mono ?_
        rintro e w5 ⟨⟨hv, rfl, hrow⟩, hb5⟩
        have hs4 : B + 1 ≤ w4.heap.size := HC4.out.lt
        have HC5 := Lib.hid (HC4.out.keep (hb5.mono hs4))
        have HO5 := Lib.hid (row_below HO4.out hb5)
        have HB5 := Lib.hid (HB4.out.trans (hb5.mono (by omega)))
        have HHr := Lib.hid hrow
        obtain ⟨ha, hcap, rfl, hhc, _⟩ := rowInts_at hrow
        obtain ⟨K, hK⟩ : ∃ K, K = (keysI dn).length := ⟨_, rfl⟩
        have hK23 : K ≤ 23 := by rw [hK, keysI_len]; exact Pl.card_le dn
        rw [← hK] at HHr hhc ⊢
        have HK := Lib.hid hK
        have hs5 : B + 1 ≤ w5.heap.size := HC5.out.lt
        clear hrow hb5 hK HC4 HO4 HB4
        rcases Nat.eq_zero_or_pos K with hz | hz
        case' inl =>
          subst hz
          obtain ⟨key2, hkey2⟩ : ∃ key2 : Nat, key2 = key := ⟨_, rfl⟩
          subst hkey2
          have hk2 : key2 < 23 := hkey
          have HCf : Hid (Cur w5 B (N + 2 + 180 - 12 * k + 10)) := HC5.out.mono (by omega)
          have HBf := HB5
          have HOf := HO5
          rename World => wf
        case' inr =>
          have hzz : (0 : Int) < (K : Int) := by omega
          go_wp2_with fail
          refine (C1.out _ _ _ HC5.out (by omega) (by omega) (by omega)).mono ?_
          rintro e w6 ⟨⟨b2, rfl⟩, hc6, hg6⟩
          have HC6 := Lib.hid hc6
          have HB6 := Lib.hid (below_curB HB5.out (by omega) hg6)
          have HO6 := Lib.hid (own_keepR HO5.out hg6 (by omega))
          have HH6 := Lib.hid (own_keepR HHr.out hg6 (by omega))
          clear hc6 hg6
          cases b2
          case' false =>
            obtain ⟨key2, hkey2⟩ : ∃ key2 : Nat, key2 = key := ⟨_, rfl⟩
            subst hkey2
            have hk2 : key2 < 23 := hkey
            have HCf : Hid (Cur w6 B (N + 2 + 180 - 12 * k + 10)) := HC6.out.mono (by omega)
            have HBf := HB6
            have HOf := HO6
            rename World => wf
          case' true =>
            go_wp2_with fail
            refine (CP.out _ _ _ HC6.out (by omega) (by omega) (by omega)).mono ?_
            rintro e wf ⟨⟨r, r0, r1, rfl⟩, hc7, hg7⟩
            obtain ⟨j, rfl⟩ := Int.eq_ofNat_of_zero_le r0
            have hs6 : B + 1 ≤ w6.heap.size := HC6.out.lt
            have HCf : Hid (Cur wf B (N + 2 + 180 - 12 * k + 10)) := hc7.mono (by omega)
            have HBf := Lib.hid (below_curB HB6.out (by omega) hg7)
            have HOf := Lib.hid (own_keepR HO6.out hg7 (by omega))
            have hh7 := own_keepR HH6.out hg7 (by omega)
            rw [HK.out] at hh7
            obtain ⟨a', cap', hv', _, hc'⟩ := rowInts_at hh7
            obtain ⟨x, hx⟩ : ∃ x, (keysI dn)[j]? = some x := ⟨_, List.getElem?_eq_getElem (by rw [← HK.out]; omega)⟩
            obtain ⟨kb, ko, rfl, hkc⟩ : ∃ kb ko, ha = some ⟨kb, ko, none⟩ ∧ wf.cell? ⟨kb, ko + j, none⟩ = some (.int .i64 x) := by
              rcases hc' with h | ⟨kb, ko, hq, _, h⟩
              · rw [h] at hx; simp at hx
              · injection hv' with h1 h2 h3
                exact ⟨kb, ko, by rw [h1, hq], h j _ hx⟩
            obtain ⟨key2, rfl, hk2⟩ := keysI_mem hx
            clear hc7 hg7 hs6 hh7 hv' hc' hx
        all_goals
          have hsf : B + 1 ≤ wf.heap.size := HCf.out.lt
          go_wp2_with fail
          refine (CP.out _ _ _ HCf.out (by omega) (by omega) (by omega)).mono ?_
          rintro e w8 ⟨⟨dt, dt0, dt1, rfl⟩, hc8, hg8⟩
          have HC8 := Lib.hid hc8
          have hb8 := below_curB HBf.out (by omega) hg8
          have hown := own_keepR HOf.out hg8 (by omega)
          have hs8 : B + 1 ≤ w8.heap.size := HC8.out.lt
          have hEl : E.length ≤ 15 := by omega
          have hsh := shl_i64' key2 hk2
          have hp := pow_lt23 key2 hk2
          have hxor := xor_i64 dn (2 ^ key2) (by omega) (by omega)
          have hxl := xor_lt23 dn (2 ^ key2) hdn hp
          obtain ⟨q, hq⟩ : ∃ q, q = 2 ^ key2 := ⟨_, rfl⟩
          rw [← hq] at hsh hxor hxl
          obtain ⟨d, hd⟩ : ∃ d, (bits .and .i64 ((dn : Int) / 2 ^ key2) 1 == 0) = d := ⟨_, rfl⟩
          clear hc8 hg8 hq hp HCf HBf HOf
          go_wp2_with (at_builtin; refine wpList_append_own _ rfl _ _ 27 rfl (B + 1) 31 iE (.agg #[.int .i64 0, .int .i64 0, .bool false]) 3 24 Try.underlying27 hiE hE0 hE1 hE2 rfl (by decide) _ _ _ rfl (hown.alloc _) ⟨w8.heap.size, 0, none⟩ 1 1 [.int .i64 (t + dt), .int .i64 (key2 : Int), .bool d] rfl rfl (cell_three_new _ _ _ _ _) (three_one _ _ _) (by unfold maxLen; omega) (by omega) (by simp; omega) ?_)
          intro v' w9 hown' hgrow _
          have hbw : Below (B + 1) w8 w9 := ((Below.refl _ _).alloc (by omega) _).grown hgrow (by simp; omega) fun j hj => row_ge hown hj
          have HO9 : Hid (OwnE w9 (B + 1) v' (E ++ [⟨t + dt, (key2 : Int), d⟩])) := by
            show World.ownsRow _ _ _ _ _ _ _
            rw [evCells_snoc, List.length_append]
            exact hown'
          have HB9 : Hid (Below B w w9) := hb8.trans (hbw.mono (by omega))
          have HC9 : Hid (Cur w9 B (N + 2 + 180 - 12 * (k - 1))) := (HC8.out.keep hbw).mono (by omega)
          clear hown hown' hgrow hbw hb8
          go_wp2
          go_roundw
          case rel => exact ⟨k - 1, E ++ [⟨t + dt, (key2 : Int), d⟩], dn ^^^ q, t + dt, by first | go_num | (congr 1; omega), by omega, by simp; omega, rfl, hxl, rfl, by omega, by omega, HO9, HC9, HB9.out⟩
          case measure => simp [intOf]; omega
    · obtain rfl : k = 0 := by omega
      have hEl : E.length ≤ 15 := by omega
      go_wp2_with fail
      refine (C1.out _ _ _ HC.out (by omega) (by omega) (by omega)).mono ?_
      rintro e w2 ⟨⟨b, rfl⟩, hc2, hg2⟩
      have HC2 : Hid (Cur w2 B (N + 400)) := hc2.mono (by omega)
      have HB2 := Lib.hid (below_curB hbel (by omega) hg2)
      have HO2 := Lib.hid (own_keepR HO.out hg2 (by omega))
      have hs2 : B + 1 ≤ w2.heap.size := HC2.out.lt
      clear hc2 hg2 HO HC hbel hszr
      cases b
      case' false =>
        obtain ⟨E2, hE2x⟩ : ∃ E2, E2 = E := ⟨_, rfl⟩
        subst hE2x
        have hE2l : E2.length ≤ 40 := by omega
        obtain ⟨wp, hwp⟩ : ∃ wp, wp = w2 := ⟨_, rfl⟩
        subst hwp
        have HCp := HC2
        have HBp := HB2
        have HOp := HO2
      case' true =>
        go_wp2_with fail
        refine (CK.out dn hdn _).mono ?_
        rintro e w5 ⟨⟨hv, rfl, hrow⟩, hb5⟩
        have HC5 := Lib.hid (HC2.out.keep (hb5.mono hs2))
        have HO5 := Lib.hid (row_below HO2.out hb5)
        have HB5 := Lib.hid (HB2.out.trans (hb5.mono (by omega)))
        have hK23 : (keysI dn).length ≤ 23 := by rw [keysI_len]; exact Pl.card_le dn
        have hlow : ∀ g, Value.ownBlock u3 = some g → g < w2.heap.size := fun g hg => row_lt HO2.out hg
        obtain ⟨ha, hcap, rfl, hhc, _⟩ := rowInts_at hrow
        have HI5 := Lib.hid (restAt_row hrow hlow)
        obtain ⟨ys0, hys0⟩ : ∃ ys0, ys0 = keysI dn := ⟨_, rfl⟩
        rw [← hys0] at hK23 HI5 hhc ⊢
        clear hrow hys0 hlow
        go_wp2_with fail
        go_loopw [3, 9] (fun l hv wr => ∃ (F : List Pl.Ev) (ys : List Int) (a' : Option Addr) (c' : Nat), hv = .slice a' ys.length c' ∧ ys.length ≤ c' ∧ F.length + ys.length ≤ 40 ∧ Hid (RestAt wr l a' ys) ∧ Hid (OwnE wr (B + 1) l F) ∧ Hid (Cur wr B (N + 400)) ∧ Below B w wr) (fun _ hv _ => match hv with | .slice _ m _ => m | _ => 0)
        case atStart => exact ⟨E, ys0, ha, hcap, rfl, hhc, by omega, HI5, HO5, HC5, HB5.out⟩
        case' round =>
          obtain ⟨F, ys, a', c', rfl, hyc, hFl, HI, HOF, HCF, hbelF⟩ := hrel
          cases ys
          case' nil =>
            obtain ⟨E2, hE2x⟩ : ∃ E2, E2 = F := ⟨_, rfl⟩
            subst hE2x
            have hE2l : E2.length ≤ 40 := by omega
            obtain ⟨wp, hwp⟩ : ∃ wp, wp = wr := ⟨_, rfl⟩
            subst hwp
            have HCp := HCF
            have HBp := Lib.hid hbelF
            have HOp := HOF
          case cons =>
            rename_i y ys
            obtain ⟨kb, ko, rfl, hkb, hkne, hcell⟩ : ∃ kb ko, a' = some ⟨kb, ko, none⟩ ∧ kb < wr.heap.size ∧ Value.ownBlock u3 ≠ some kb ∧ ∀ (j : Nat) z, (y :: ys)[j]? = some z → wr.cell? ⟨kb, ko + j, none⟩ = some (.int .i64 z) := by
              rcases HI.out with h | h
              · cases h
              · exact h
            have hkc : wr.cell? ⟨kb, ko, none⟩ = some (.int .i64 y) := by have := hcell 0 y rfl; rwa [Nat.add_zero] at this
            have HCell := Lib.hid hcell
            have HKN := Lib.hid hkne
            have HKB := Lib.hid hkb
            have hl1 : (y :: ys).length = ys.length + 1 := List.length_cons
            rw [hl1] at hyc hFl ⊢
            have hpos : (0 : Int) < ((ys.length + 1 : Nat) : Int) := by omega
            have hown := HOF.out
            have hsF : B + 1 ≤ wr.heap.size := HCF.out.lt
            clear hcell hkne hkb HI
            go_wp2_with (at_builtin; refine wpList_append_own_at _ rfl _ _ 27 rfl (B + 1) 31 iE (.agg #[.int .i64 0, .int .i64 0, .bool false]) 3 24 Try.underlying27 hiE hE0 hE1 hE2 rfl (by decide) _ _ _ rfl (hown.alloc _) ⟨wr.heap.size, 0, none⟩ 1 1 [.int .i64 t, .int .i64 y, .bool false] rfl rfl (cell_three_new _ _ _ _ _) (three_one _ _ _) (by unfold maxLen; omega) (by omega) (by simp; omega) ?_)
            intro v' w6 hown' hgrow _ hat
            have HR6 := Lib.hid (restAt_step HKB.out HKN.out HCell.out hgrow hat c' hyc)
            have hbw : Below (B + 1) wr w6 := ((Below.refl _ _).alloc (by omega) _).grown hgrow (by simp; omega) fun j hj => row_ge hown hj
            have HO6 : Hid (OwnE w6 (B + 1) v' (F ++ [⟨t, y, false⟩])) := by
              show World.ownsRow _ _ _ _ _ _ _
              rw [evCells_snoc, List.length_append]
              exact hown'
            have HB6 : Hid (Below B w w6) := hbelF.trans (hbw.mono (by omega))
            have HC6 : Hid (Cur w6 B (N + 400)) := HCF.out.keep hbw
            clear hown hown' hgrow hbw hbelF hat hkc HCell HKN HKB
            go_wp2
            go_roundw
            case rel => exact ⟨F ++ [⟨t, y, false⟩], ys, _, c' - 1, rfl, by omega, by simp; omega, HR6, HO6, HC6, HB6.out⟩
            case measure => simp
      all_goals
        have hsp : B + 1 ≤ wp.heap.size := HCp.out.lt
        obtain ⟨la, lc, rfl, hlc, _⟩ := ownE_at HOp.out
        have HUp := Lib.hid (ownE_up HOp.out)
        rcases Nat.eq_zero_or_pos E2.length with hz | hz
        case' inl =>
          obtain ⟨E3, hE3⟩ : ∃ E3, E3 = E2 := ⟨_, rfl⟩
          have hE3l : E3.length = E2.length := by rw [hE3]
          obtain ⟨wq, hwq⟩ : ∃ wq, wq = wp := ⟨_, rfl⟩
          subst hwq
          have hz' : ¬ ((0 : Int) < (E2.length : Int)) := by omega
          have HCq : Hid (Cur wq B (N + 450)) := HCp.out.mono (by omega)
          have HBq := HBp
          have HUq : Hid (EvsUp wq (B + 1) (.slice la E2.length lc) E3) := by rw [hE3]; exact HUp.out
          clear hE3 hz
        case' inr =>
          have hz' : (0 : Int) < (E2.length : Int) := by omega
          go_wp2_with fail
          refine (C1.out _ _ _ HCp.out (by omega) (by omega) (by omega)).mono ?_
          rintro e w9 ⟨⟨b3, rfl⟩, hc9, hg9⟩
          have HC9 := Lib.hid hc9
          have HB9 := Lib.hid (below_curB HBp.out (by omega) hg9)
          have HU9 := Lib.hid (HUp.out.keep hg9 (by omega))
          have HO9 := Lib.hid (own_keepR HOp.out hg9 (by omega))
          have hs9 : B + 1 ≤ w9.heap.size := HC9.out.lt
          clear hc9 hg9
          cases b3
          case' false =>
            obtain ⟨E3, hE3⟩ : ∃ E3, E3 = E2 := ⟨_, rfl⟩
            have hE3l : E3.length = E2.length := by rw [hE3]
            obtain ⟨wq, hwq⟩ : ∃ wq, wq = w9 := ⟨_, rfl⟩
            subst hwq
            have HCq : Hid (Cur wq B (N + 450)) := HC9.out.mono (by omega)
            have HBq := HB9
            have HUq : Hid (EvsUp wq (B + 1) (.slice la E2.length lc) E3) := by rw [hE3]; exact HU9.out
            clear hE3
          case' true =>
            go_wp2_with fail
            refine (CP.out _ _ _ HC9.out (by omega) (by omega) (by omega)).mono ?_
            rintro e w10 ⟨⟨r, r0, r1, rfl⟩, hc10, hg10⟩
            obtain ⟨i, rfl⟩ := Int.eq_ofNat_of_zero_le r0
            obtain ⟨g, lc', hv, _, hgb, hrow⟩ := ownE_row (own_keepR HO9.out hg10 (by omega)) hz
            injection hv with hv1 hv2 hv3
            subst hv1 hv3
            have HC10 := Lib.hid hc10
            have HB10 := Lib.hid (below_curB HB9.out (by omega) hg10)
            have HR10 := Lib.hid hrow
            have hs10 : B + 1 ≤ w10.heap.size := HC10.out.lt
            clear hc10 hg10 hrow hv2
            have hi : i < E2.length := by omega
            have HO12 := True.intro
            go_wp2_with fail
            refine (CA.out [0, -1, t, 1000000] w10 _ _ _ HC10.out (by omega) rfl rfl rfl).mono ?_
            rintro e w11 ⟨⟨x, rfl⟩, hc11, hg11⟩
            have HC11 := Lib.hid hc11
            have HB11 := Lib.hid (below_curB HB10.out (by omega) hg11)
            have HR11 := Lib.hid (HR10.out.keepG hg11 (by omega))
            have hs11 : B + 1 ≤ w11.heap.size := HC11.out.lt
            clear hc11 hg11
            go_wp2_with fail
            refine (CA.out [0, 23, -1, 3] w11 _ _ _ HC11.out (by omega) rfl rfl rfl).mono ?_
            rintro e w12 ⟨⟨y, rfl⟩, hc12, hg12⟩
            have HC12 := Lib.hid hc12
            have HB12 := Lib.hid (below_curB HB11.out (by omega) hg12)
            have HR12 := Lib.hid (HR11.out.keepG hg12 (by omega))
            have hs12 : B + 1 ≤ w12.heap.size := HC12.out.lt
            clear hc12 hg12
            go_wp2_with fail
            refine (C1.out _ _ _ HC12.out (by omega) (by omega) (by omega)).mono ?_
            rintro e w13 ⟨⟨b5, rfl⟩, hc13, hg13⟩
            have HC13 := Lib.hid hc13
            have HB13 := Lib.hid (below_curB HB12.out (by omega) hg13)
            have HR13 := Lib.hid (HR12.out.keepG hg13 (by omega))
            clear hc13 hg13 HR10 HR11 HR12 HC10 HC11 HC12 HB10 HB11 HB12
            obtain ⟨c0, c1, c2⟩ := HR13.out.2.1 i hi
            have f0 := HR13.out.2.2 (i * 3)
            have f1 := HR13.out.2.2 (i * 3 + 1)
            have f2 := HR13.out.2.2 (i * 3 + 2)
            have HUs := Lib.hid (rowEv_setup HR13.out hgb rfl i hi ⟨x, y, b5⟩ lc hlc)
            obtain ⟨E3, hE3⟩ : ∃ E3, E3 = E2.set i ⟨x, y, b5⟩ := ⟨_, rfl⟩
            rw [← hE3] at HUs
            have hE3l : E3.length = E2.length := by rw [hE3, List.length_set]
            obtain ⟨wq, hwq⟩ : ∃ wq, wq = ((w13.setCell ⟨g, i * 3, none⟩ (.int .i64 x)).setCell ⟨g, i * 3 + 1, none⟩ (.int .i64 y)).setCell ⟨g, i * 3 + 2, none⟩ (.bool b5) := ⟨_, rfl⟩
            rw [← hwq] at HUs
            have hbs : Below g w13 wq := by rw [hwq]; exact below_set3 (Below.refl _ _) (Nat.le_refl _) _ _ _ _ _ _
            have HCq : Hid (Cur wq B (N + 450)) := (HC13.out.keep (hbs.mono hgb)).mono (by omega)
            have HBq : Hid (Below B w wq) := HB13.out.trans (hbs.mono (by omega))
            have HUq := HUs
            have HWq := Lib.hid hwq
            clear hE3 hbs hwq HR13 HC13 HB13
            go_wp2_with fail
            rw [← HWq.out]
      all_goals
        clear HUp HCp HBp HOp
        have hsq : B + 1 ≤ wq.heap.size := HCq.out.lt
        go_wp2_with fail
        refine (C1.out _ _ _ HCq.out (by omega) (by omega) (by omega)).mono ?_
        rintro e w20 ⟨⟨b4, rfl⟩, hc20, hg20⟩
        have HC20 := Lib.hid hc20
        have HB20 := Lib.hid (below_curB HBq.out (by omega) hg20)
        have HU20 := Lib.hid (HUq.out.keep hg20 (by omega))
        have hs20 : B + 1 ≤ w20.heap.size := HC20.out.lt
        clear hc20 hg20 HCq HBq HUq
        cases b4
        · go_wp2
          go_ret
          exact ⟨⟨_, E3, rfl, HU20.out.at, by omega⟩, HB20.out⟩
        · go_wp2_with fail
          have hal := (Below.refl w20.heap.size w20).alloc (Nat.le_refl _) (.cells #[] 31)
          refine (CP.out _ _ _ (HC20.out.below hal) (by omega) (by omega) (by omega)).mono ?_
          rintro e w21 ⟨⟨r, r0, r1, rfl⟩, hc21, hg21⟩
          obtain ⟨R2, rfl⟩ := Int.eq_ofNat_of_zero_le r0
          have HB21 := Lib.hid (below_curB (HB20.out.trans (hal.mono (by omega))) (by rw [World.size_alloc]; omega) hg21)
          have HO21 : Hid (OwnE w21 w20.heap.size (.slice (some ⟨w20.heap.size, 0, none⟩) 0 0) []) := own_keepR (ownE_new w20) hg21 (by omega)
          obtain ⟨S, hS⟩ : ∃ S, S = w20.heap.size := ⟨_, rfl⟩
          rw [← hS] at HO21 hs20
          have hs21 : Hid (S ≤ w21.heap.size) := by have := hg21.size; rw [World.size_alloc] at this; show S ≤ _; omega
          have HSS := Lib.hid hS
          clear hal hc21 hg21 HU20 HC20 hS
          go_wp2_with fail
          rw [← HSS.out]
          go_loopw [3, 11] (fun l i wr => ∃ (k : Nat) (F : List Pl.Ev), i = .int .i64 k ∧ F.length + k ≤ 201 ∧ Hid (S ≤ wr.heap.size) ∧ Hid (OwnE wr S l F) ∧ Below B w wr) (fun _ i _ => (intOf i).toNat)
          case atStart => exact ⟨200 + R2, [], by first | rfl | go_num, by simp; omega, hs21, HO21, HB21.out⟩
          case round =>
            obtain ⟨k, F, rfl, hFk, hsw, HOF, hbelF⟩ := hrel
            obtain ⟨fa, fc, rfl, hfc, _⟩ := ownE_at HOF.out
            by_cases hpos : 0 < k
            · have hpos' : (0 : Int) < (k : Int) := by omega
              have hFl : F.length ≤ 201 := by omega
              have hown := HOF.out
              have hsr : S ≤ wr.heap.size := hsw.out
              go_wp2_with (at_builtin; refine wpList_append_own _ rfl _ _ 27 rfl S 31 iE (.agg #[.int .i64 0, .int .i64 0, .bool false]) 3 24 Try.underlying27 hiE hE0 hE1 hE2 rfl (by decide) _ _ _ rfl (hown.alloc _) ⟨wr.heap.size, 0, none⟩ 1 1 [.int .i64 0, .int .i64 4, .bool _] rfl rfl (cell_three_new _ _ _ _ _) (three_one _ _ _) (by unfold maxLen; omega) (by omega) (by simp; omega) ?_)
              intro v' w9 hown' hgrow _
              have hbw : Below S wr w9 := ((Below.refl _ _).alloc (by omega) _).grown hgrow (by simp; omega) fun j hj => row_ge hown hj
              have HO9 := Lib.hid (ownE_snoc hown')
              have HB9 : Hid (Below B w w9) := hbelF.trans (hbw.mono (by omega))
              have hs9 : Hid (S ≤ w9.heap.size) := by have := hbw.size; show S ≤ _; omega
              clear hown hown' hgrow hbw
              go_wp2
              go_roundw
              case rel => exact ⟨k - 1, _, by first | go_num | (congr 1; omega), by simp; omega, hs9, HO9, HB9.out⟩
              case measure => simp [intOf]; omega
            · obtain rfl : k = 0 := by omega
              go_wp2
              go_ret
              exact ⟨⟨_, F, rfl, ownE_at HOF.out, by omega⟩, hbelF⟩
/-- What a draw of events gives. -/
def EvsOut (w : World) (e : Ending) (w' : World) : Prop := (∃ (v : Value) (es : List Pl.Ev), e = .returned v ∧ EvsAt w' v es ∧ es.length ≤ 250) ∧ Below w.heap.size w w'
set_option maxHeartbeats 1000000 in
theorem drawValid_any (a : Option Addr) (n cap : Nat) (w : World) (h : CodeAt w a n) :
    Calls Try.prog 51 #[.slice a n cap] w (EvsOut w) := by
  have CE := Lib.hid (fun B N w h hN hB => events_any B N w h hN hB)
  have HC0 := Lib.hid (cur_new w a n cap 50 h)
  have HB0 : Hid (Below w.heap.size w (w.alloc (.cells #[.slice a n cap, .int .i64 0, .int .u64 0] 50))) := (Below.refl _ _).alloc (Nat.le_refl _) _
  clear h
  go_enter Try.func51, Try.ntmps51
  go_wp2_with fail
  refine (CE.out _ _ _ HC0.out (by omega) (by rw [World.size_alloc])).mono ?_
  rintro e w1 ⟨⟨v, es, rfl, hv, hl⟩, hb⟩
  have HB1 := Lib.hid (HB0.out.trans hb)
  clear hb
  go_wp2
  go_ret
  exact ⟨⟨v, es, rfl, hv, hl⟩, HB1.out⟩
set_option maxHeartbeats 1000000 in
theorem drawLastUp_any (a : Option Addr) (n cap : Nat) (w : World) (h : CodeAt w a n) :
    Calls Try.prog 20 #[.slice a n cap] w (EvsOut w) := by
  have CE := Lib.hid (drawValid_any a n cap w h)
  clear h
  go_enter Try.func20, Try.ntmps20
  go_wp2_with fail
  refine CE.out.mono ?_
  rintro e w1 ⟨⟨v, es, rfl, hv, hl⟩, hb⟩
  have HB1 := Lib.hid hb
  clear hb
  go_wp2
  go_ret
  exact ⟨⟨v, es, rfl, hv, hl⟩, HB1.out⟩
end Go.Proofs.Ytindcafdphfppaa
