/-
  CONTRACT of the program's ParseOutline: a range over the parts between the separators, left early where a part is no stroke or the outline is full.
-/
import Derived.Test.YtkhklidpighmpaaOut
import Derived.Test.YtkhklidpighmpaaJoin
import Derived.ArgAppend
import Derived.Test.YtkhklidpighmpaaIter
import Derived.RangeFuncFrom
namespace Go.Proofs.Ytkhklidpighmpaa
set_option maxRecDepth 100000
open Go.RowKit

/-- An answer of ints of its own and a flag. -/
def OutO (base : Nat) (w' : World) (xs : List Int) (b : Bool) (e : Ending) : Prop := ∃ u, e = .returned (.tuple #[u, .bool b]) ∧ OwnInts w' base u xs.length (fun j => xs.getD j 0)
theorem parI_len (t : ByteArray) : (parI t).length ≤ 6 := by unfold parI; rw [outI_len]; exact (Pl.parse_ok _).1
theorem catI_len (xs ys : List Int) : (catI xs ys).length ≤ 6 := by
  unfold catI
  split
  · rename_i h
    unfold catB at h
    rw [Bool.and_eq_true] at h
    exact (okO_parts h.2).2.1
  · exact Nat.zero_le _
structure Impl4 : Prop where
  valid : ∀ (v : Value) (xs : List Int) (w : World), IntsAt w v xs → xs.length ≤ 2097152 → Calls Try.prog 21 #[v] w fun e w' => e = .returned (.bool (okO xs)) ∧ Below w.heap.size w w'
  format : ∀ (v : Value) (xs : List Int) (w : World), IntsAt w v xs → xs.length ≤ 2097152 → Calls Try.prog 20 #[v] w fun e w' => e = fmtE xs ∧ Below w.heap.size w w'
  parse : ∀ (t : ByteArray) (w : World), t.size ≤ 1048576 → Calls Try.prog 13 #[.string t] w fun e w' => OutO w.heap.size w' (parI t) (parB t) e ∧ Below w.heap.size w w'
  compare : ∀ (v u : Value) (xs ys : List Int) (w : World), IntsAt w v xs → IntsAt w u ys → xs.length ≤ 2097152 → ys.length ≤ 2097152 → Calls Try.prog 23 #[v, u] w fun e w' => e = cmpE xs ys ∧ Below w.heap.size w w'
  pre : ∀ (v u : Value) (xs ys : List Int) (w : World), IntsAt w v xs → IntsAt w u ys → xs.length ≤ 2097152 → ys.length ≤ 2097152 → Calls Try.prog 19 #[v, u] w fun e w' => e = preE xs ys ∧ Below w.heap.size w w'
  concat : ∀ (v u : Value) (xs ys : List Int) (w : World), IntsM w v xs → IntsM w u ys → xs.length ≤ 1048576 → ys.length ≤ 1048576 → Calls Try.prog 17 #[v, u] w fun e w' => OutO w.heap.size w' (catI xs ys) (catB xs ys) e ∧ Below w.heap.size w w'
end Go.Proofs.Ytkhklidpighmpaa

namespace Go.Proofs.Ytkhklidpighmpaa
set_option maxRecDepth 100000
open Go.RowKit

theorem isLen_any (n : Int) (w : World) :
    Calls Try.prog 41 #[.int .i64 n] w fun e w' => e = .returned (.bool (decide (1 ≤ n) && decide (n ≤ 6))) ∧ w = w' := by
  by_cases h : 1 ≤ n
  · go_enter Try.func41, Try.ntmps41
    go_wp2
    go_ret
    exact ⟨ret_bool (by simp [h]), rfl⟩
  · have h' : n < 1 := by omega
    go_enter Try.func41, Try.ntmps41
    go_wp2
    go_ret
    exact ⟨ret_bool (by rw [decide_eq_false (by omega : ¬ 1 ≤ n)]; rfl), rfl⟩

set_option maxHeartbeats 1000000 in
theorem areS_any (v : Value) (xs : List Int) (w : World) (h : IntsAt w v xs) (hn : xs.length ≤ 2097152) :
    Calls Try.prog 51 #[v] w fun e w' => e = .returned (.bool (xs.all okS)) ∧ w = w' := by
  obtain ⟨a, cap, rfl, hcap, hC⟩ := h.cells
  have HNo : Hid (∀ k x, xs[k]? = some x → okS x = false → xs.all okS = false) := fun k x hx ho => by
    rw [List.all_eq_false]; exact ⟨x, List.mem_of_getElem? hx, by rw [ho]; decide⟩
  obtain ⟨n, hnn⟩ : ∃ n, n = xs.length := ⟨_, rfl⟩
  rw [← hnn] at hn hcap ⊢
  have HN := Lib.hid hnn
  have HC := Lib.hid hC
  have CG := Lib.hid (fun s w => IsValidStroke_any s w)
  obtain ⟨R, hR⟩ : ∃ R, R = xs.all okS := ⟨_, rfl⟩
  rw [← hR] at HNo ⊢
  have HR := Lib.hid hR
  clear h hnn hC hR
  go_enter Try.func51, Try.ntmps51
  go_wp2_with fail
  go_loopw [7] (fun i wr => ∃ k : Nat, i = .int .i64 k ∧ k ≤ n ∧ Hid ((xs.take k).all okS = true) ∧ wr = w) (fun i _ => n - (intOf i).toNat)
  case atStart => exact ⟨0, rfl, Nat.zero_le _, Lib.hid rfl, rfl⟩
  case round =>
    obtain ⟨k, rfl, hk, HL, rfl⟩ := hrel
    by_cases hlt : k < n
    · obtain ⟨x, hx⟩ : ∃ x, xs[k]? = some x := ⟨_, List.getElem?_eq_getElem (by rw [← HN.out]; exact hlt)⟩
      obtain ⟨bk, o, rfl, _, g0⟩ := HC.out wr (Below.refl _ _) k x hx
      cases hok : okS x
      · have HF := Lib.hid (HNo.out k x hx hok)
        have c := fun w => CG.out x w
        rw [hok] at c
        have C1 := Lib.hid c
        clear c hx hok HL HNo
        go_wp2_with fail
        refine (C1.out _).mono ?_
        rintro e w1 ⟨rfl, rfl⟩
        go_wp2
        go_ret
        exact ⟨ret_bool HF.out.symm, rfl⟩
      · have HL2 := Lib.hid (all_next hx HL.out hok)
        have c := fun w => CG.out x w
        rw [hok] at c
        have C1 := Lib.hid c
        clear c hx hok HL HNo
        go_wp2_with fail
        refine (C1.out _).mono ?_
        rintro e w1 ⟨rfl, rfl⟩
        go_wp2
        go_roundw
        case rel => exact ⟨k + 1, by go_num, by omega, HL2, by trivial⟩
        case measure => simp [intOf]; omega
    · obtain rfl : k = n := by omega
      have HF : Hid (R = true) := by
        have h3 := HL.out
        rw [List.take_of_length_le (by rw [← HN.out]; exact Nat.le_refl _)] at h3
        exact HR.out.trans h3
      clear HL HNo
      go_wp2
      go_ret
      exact ⟨ret_bool HF.out.symm, rfl⟩
set_option maxHeartbeats 1000000 in
theorem Valid_any (v : Value) (xs : List Int) (w : World) (h : IntsAt w v xs) (hn : xs.length ≤ 2097152) :
    Calls Try.prog 21 #[v] w fun e w' => e = .returned (.bool (okO xs)) ∧ w = w' := by
  have CA := Lib.hid (areS_any v xs w h hn)
  have cl := fun w => isLen_any (xs.length : Int) w
  obtain ⟨a, cap, rfl, hcap, hC⟩ := h.cells
  have HE : Hid (okO xs = ((decide (1 ≤ (xs.length : Int)) && decide ((xs.length : Int) ≤ 6)) && xs.all okS)) := by
    show _ = _
    unfold okO
    by_cases h1 : 1 ≤ xs.length <;> by_cases h2 : xs.length ≤ 6 <;> simp [h1, h2] <;> omega
  obtain ⟨n, hnn⟩ : ∃ n, n = xs.length := ⟨_, rfl⟩
  obtain ⟨R, hR⟩ : ∃ R, R = okO xs := ⟨_, rfl⟩
  obtain ⟨A, hA⟩ : ∃ A, A = xs.all okS := ⟨_, rfl⟩
  obtain ⟨L, hL⟩ : ∃ L, L = (decide (1 ≤ (n : Int)) && decide ((n : Int) ≤ 6)) := ⟨_, rfl⟩
  rw [← hnn] at hn hcap HE CA cl ⊢
  rw [← hL] at HE cl
  rw [← hA] at HE CA
  rw [← hR] at HE ⊢
  have CL := Lib.hid cl
  clear h hC hnn hR hA hL cl
  cases L
  · go_enter Try.func21, Try.ntmps21
    go_wp2_with fail
    refine (CL.out _).mono ?_
    rintro e w1 ⟨rfl, rfl⟩
    go_wp2
    go_ret
    exact ⟨ret_bool (by rw [HE.out]; rfl), rfl⟩
  · go_enter Try.func21, Try.ntmps21
    go_wp2_with fail
    refine (CL.out _).mono ?_
    rintro e w1 ⟨rfl, rfl⟩
    go_wp2_with fail
    refine CA.out.mono ?_
    rintro e w2 ⟨rfl, rfl⟩
    go_wp2
    go_ret
    exact ⟨ret_bool (by rw [HE.out]; rfl), rfl⟩
set_option maxHeartbeats 1000000 in
theorem areO_any (v u : Value) (xs ys : List Int) (w : World) (h : IntsAt w v xs) (h' : IntsAt w u ys) (hn : xs.length ≤ 2097152) (hm : ys.length ≤ 2097152) :
    Calls Try.prog 46 #[v, u] w fun e w' => e = .returned (.bool (okO xs && okO ys)) ∧ w = w' := by
  have c := Valid_any v xs w h hn
  have d := Valid_any u ys w h' hm
  obtain ⟨a, cap, rfl, hcap, _⟩ := h.cells
  obtain ⟨b, cap', rfl, hcap', _⟩ := h'.cells
  clear h h'
  cases hx : okO xs
  · rw [hx] at c
    have C := Lib.hid c
    clear c d hx
    go_enter Try.func46, Try.ntmps46
    go_wp2_with fail
    refine C.out.mono ?_
    rintro e w1 ⟨rfl, rfl⟩
    go_wp2
    go_ret
    exact ⟨rfl, rfl⟩
  · rw [hx] at c
    obtain ⟨y, hy⟩ : ∃ y, y = okO ys := ⟨_, rfl⟩
    rw [← hy] at d ⊢
    have C := Lib.hid c
    have D := Lib.hid d
    clear c d hx hy
    go_enter Try.func46, Try.ntmps46
    go_wp2_with fail
    refine C.out.mono ?_
    rintro e w1 ⟨rfl, rfl⟩
    go_wp2_with fail
    refine D.out.mono ?_
    rintro e w1 ⟨rfl, rfl⟩
    go_wp2
    go_ret
    exact ⟨rfl, rfl⟩

/-! ### CompareOutlines -/
theorem cmpI_lt {x y : Int} (h : x < y) : Lib.compareInt x y = -1 := by unfold Lib.compareInt; rw [if_pos h]
theorem cmpI_gt {x y : Int} (h : y < x) : Lib.compareInt x y = 1 := by unfold Lib.compareInt; rw [if_neg (by omega), if_pos h]
theorem cmpI_eq (x : Int) : Lib.compareInt x x = 0 := by unfold Lib.compareInt; rw [if_neg (by omega), if_neg (by omega)]
set_option maxHeartbeats 2000000 in
theorem sCompare_any (v u : Value) (xs ys : List Int) (w : World) (h : IntsAt w v xs) (h' : IntsAt w u ys) (hn : xs.length ≤ 2097152) (_hm : ys.length ≤ 2097152) :
    Calls Try.prog 52 #[v, u] w fun e w' => e = .returned (.int .i64 (Pl.cmp xs ys)) ∧ Below w.heap.size w w' := by
  obtain ⟨a, cap, rfl, hcap, hC⟩ := h.cells
  obtain ⟨b, cap', rfl, hcap', hD⟩ := h'.cells
  obtain ⟨n, hnn⟩ : ∃ n, n = xs.length := ⟨_, rfl⟩
  obtain ⟨m, hmm⟩ : ∃ m, m = ys.length := ⟨_, rfl⟩
  rw [← hnn] at hn hcap ⊢
  rw [← hmm] at hcap' ⊢
  have HN := Lib.hid hnn
  have HM := Lib.hid hmm
  have HC := Lib.hid hC
  have HD := Lib.hid hD
  clear h h' hnn hmm hC hD
  go_enter Try.func52, Try.ntmps52
  go_wp2_with fail
  go_loopw [11] (fun i wr => ∃ k : Nat, i = .int .i64 k ∧ k ≤ n ∧ k ≤ m ∧ Hid (xs.take k = ys.take k) ∧ Below w.heap.size w wr) (fun i _ => n - (intOf i).toNat)
  case atStart => exact ⟨0, rfl, Nat.zero_le _, Nat.zero_le _, Lib.hid rfl, Below.refl _ _⟩
  case round =>
    obtain ⟨k, rfl, hk, hk', HT, hbel⟩ := hrel
    by_cases hlt1 : k < n
    · obtain ⟨x, hx⟩ : ∃ x, xs[k]? = some x := ⟨_, List.getElem?_eq_getElem (by rw [← HN.out]; exact hlt1)⟩
      obtain ⟨bk, o, rfl, _, g0⟩ := HC.out wr hbel k x hx
      by_cases hlt2 : k < m
      · obtain ⟨y, hy⟩ : ∃ y, ys[k]? = some y := ⟨_, List.getElem?_eq_getElem (by rw [← HM.out]; exact hlt2)⟩
        obtain ⟨bk', o', rfl, _, g1⟩ := HD.out wr hbel k y hy
        have hcmp := Pl.cmp_at HT.out hx hy
        have c := fun w => Try.cmp_Compare_int x y w
        have hnl : ¬ ((m : Int) ≤ (k : Int)) := by omega
        by_cases h1 : x < y
        · rw [if_pos h1] at hcmp
          rw [cmpI_lt h1] at c
          have HR := Lib.hid hcmp
          have C := Lib.hid c
          clear hcmp hx hy HT c
          go_wp2_with fail
          refine (C.out _).mono ?_
          rintro e w1 ⟨rfl, rfl⟩
          go_wp2
          go_ret
          exact ⟨ret_int HR.out.symm, hbel⟩
        · rw [if_neg h1] at hcmp
          by_cases h2 : y < x
          · rw [if_pos h2] at hcmp
            rw [cmpI_gt h2] at c
            have HR := Lib.hid hcmp
            have C := Lib.hid c
            clear hcmp hx hy HT c
            go_wp2_with fail
            refine (C.out _).mono ?_
            rintro e w1 ⟨rfl, rfl⟩
            go_wp2
            go_ret
            exact ⟨ret_int HR.out.symm, hbel⟩
          · obtain rfl : x = y := by omega
            rw [cmpI_eq] at c
            have HT2 := Lib.hid (Pl.take_next HT.out hx hy)
            have C := Lib.hid c
            clear hcmp hx hy HT c
            go_wp2_with fail
            refine (C.out _).mono ?_
            rintro e w1 ⟨rfl, rfl⟩
            go_wp2
            go_roundw
            case rel => exact ⟨k + 1, by go_num, by omega, by omega, HT2, hbel⟩
            case measure => simp [intOf]; omega
      · have hcmp := Pl.cmp_end HT.out (by rw [← HN.out]; exact hk) (by rw [← HM.out]; exact hk') (by rw [← HN.out, ← HM.out]; omega)
        rw [← HN.out, ← HM.out, if_neg (by omega), if_pos (by omega)] at hcmp
        have HR := Lib.hid hcmp
        have hle : (m : Int) ≤ (k : Int) := by omega
        clear hcmp hx HT
        go_wp2
        go_ret
        exact ⟨ret_int HR.out.symm, hbel⟩
    · have hcmp := Pl.cmp_end HT.out (by rw [← HN.out]; exact hk) (by rw [← HM.out]; exact hk') (by rw [← HN.out, ← HM.out]; omega)
      rw [← HN.out, ← HM.out] at hcmp
      have hkn : ¬ ((k : Int) < (n : Int)) := by omega
      by_cases h1 : n < m
      · rw [if_pos h1] at hcmp
        have HR := Lib.hid hcmp
        have h1' : (n : Int) < (m : Int) := by omega
        clear hcmp HT
        go_wp2
        go_ret
        exact ⟨ret_int HR.out.symm, hbel⟩
      · rw [if_neg h1, if_neg (by omega)] at hcmp
        have HR := Lib.hid hcmp
        have h1' : ¬ (n : Int) < (m : Int) := by omega
        clear hcmp HT
        go_wp2
        go_ret
        exact ⟨ret_int HR.out.symm, hbel⟩

set_option maxHeartbeats 1000000 in
theorem Compare_any (v u : Value) (xs ys : List Int) (w : World) (h : IntsAt w v xs) (h' : IntsAt w u ys) (hn : xs.length ≤ 2097152) (hm : ys.length ≤ 2097152) :
    Calls Try.prog 23 #[v, u] w fun e w' => e = cmpE xs ys ∧ Below w.heap.size w w' := by
  have c := areO_any v u xs ys w h h' hn hm
  have f := sCompare_any v u xs ys w h h' hn hm
  obtain ⟨a, cap, rfl, hcap, _⟩ := h.cells
  obtain ⟨b, cap', rfl, hcap', _⟩ := h'.cells
  obtain ⟨R, hR⟩ : ∃ R, R = Pl.cmp xs ys := ⟨_, rfl⟩
  rw [← hR] at f
  clear h h'
  cases hxy : (okO xs && okO ys)
  · rw [hxy] at c
    have hno : okO xs = false ∨ okO ys = false := by
      rcases hx : okO xs with _ | _
      · exact .inl rfl
      · rw [hx, Bool.true_and] at hxy; exact .inr hxy
    rw [cmpE_no hno]
    have C := Lib.hid c
    clear c f hxy hno
    go_enter Try.func23, Try.ntmps23
    go_wp2_with fail
    refine C.out.mono ?_
    rintro e w1 ⟨rfl, rfl⟩
    go_wp2
    go_ret2
    exact ⟨rfl, Below.refl _ _⟩
  · rw [hxy] at c
    rw [Bool.and_eq_true] at hxy
    rw [cmpE_yes hxy.1 hxy.2, ← hR]
    have C := Lib.hid c
    have F := Lib.hid f
    clear c f hxy hR
    go_enter Try.func23, Try.ntmps23
    go_wp2_with fail
    refine C.out.mono ?_
    rintro e w1 ⟨rfl, rfl⟩
    go_wp2_with fail
    refine F.out.mono ?_
    rintro e w1 ⟨rfl, hb⟩
    go_wp2
    go_ret2
    exact ⟨rfl, hb⟩

/-! ### HasPrefix -/
theorem take_beq {xs ys : List Int} (h : ys.length ≤ xs.length) : (xs.take ys.length == ys.take ys.length) = decide (ys <+: xs) := by
  rw [List.take_of_length_le (Nat.le_refl _), ← pre_take h, Bool.eq_iff_iff, beq_iff_eq, decide_eq_true_eq]
theorem IntsAt.block {w : World} {v : Value} {xs : List Int} (h : IntsAt w v xs) (h0 : 0 < xs.length) : ∃ bk o cap, v = .slice (some ⟨bk, o, none⟩) xs.length cap ∧ xs.length ≤ cap ∧ bk < w.heap.size ∧ ∀ (j : Nat) x, xs[j]? = some x → w.cell? ⟨bk, o + j, none⟩ = some (.int .i64 x) := by
  obtain ⟨a, cap, hv, hc, h⟩ := h
  rcases h with rfl | ⟨bk, o, rfl, hk, h⟩
  · simp at h0
  · exact ⟨bk, o, cap, hv, hc, hk, h⟩
set_option maxHeartbeats 1000000 in
theorem HasPrefix_any (v u : Value) (xs ys : List Int) (w : World) (h : IntsAt w v xs) (h' : IntsAt w u ys) (hn : xs.length ≤ 2097152) (hm : ys.length ≤ 2097152) :
    Calls Try.prog 19 #[v, u] w fun e w' => e = preE xs ys ∧ Below w.heap.size w w' := by
  have c := areO_any v u xs ys w h h' hn hm
  cases hxy : (okO xs && okO ys)
  · obtain ⟨a, cap, rfl, hcap, _⟩ := h.cells
    obtain ⟨b, cap', rfl, hcap', _⟩ := h'.cells
    clear h h'
    rw [hxy] at c
    have hno : okO xs = false ∨ okO ys = false := by
      rcases hx : okO xs with _ | _
      · exact .inl rfl
      · rw [hx, Bool.true_and] at hxy; exact .inr hxy
    rw [preE_no hno]
    have C := Lib.hid c
    clear c hxy hno
    go_enter Try.func19, Try.ntmps19
    go_wp2_with fail
    refine C.out.mono ?_
    rintro e w1 ⟨rfl, rfl⟩
    go_wp2
    go_ret2
    exact ⟨rfl, Below.refl _ _⟩
  · rw [hxy] at c
    rw [Bool.and_eq_true] at hxy
    rw [preE_yes hxy.1 hxy.2]
    have hx1 := (okO_parts hxy.1).1
    have hy1 := (okO_parts hxy.2).1
    obtain ⟨bk, o, cap, rfl, hcap, hk, hcx⟩ := h.block hx1
    obtain ⟨bk', o', cap', rfl, hcap', hk', hcy⟩ := h'.block hy1
    by_cases hle : ys.length ≤ xs.length
    · have f := fun w1 (hc1 : ∀ j, j < xs.length → w1.cell? ⟨bk, o + j, none⟩ = some (.int .i64 (xs.getD j 0))) (hc2 : ∀ j, j < ys.length → w1.cell? ⟨bk', o' + j, none⟩ = some (.int .i64 (ys.getD j 0))) => Try.slices_Equal_int bk o ys.length cap bk' o' ys.length cap' xs ys w1 hle (Nat.le_refl _) (by omega) (by omega) hc1 hc2
      have hcx' : ∀ j, j < xs.length → w.cell? ⟨bk, o + j, none⟩ = some (.int .i64 (xs.getD j 0)) := fun j hj => hcx j _ (by rw [List.getElem?_eq_getElem hj, List.getD, List.getElem?_eq_getElem hj]; rfl)
      have hcy' : ∀ j, j < ys.length → w.cell? ⟨bk', o' + j, none⟩ = some (.int .i64 (ys.getD j 0)) := fun j hj => hcy j _ (by rw [List.getElem?_eq_getElem hj, List.getD, List.getElem?_eq_getElem hj]; rfl)
      rw [take_beq hle] at f
      have F := Lib.hid (f w hcx' hcy')
      obtain ⟨R, hR⟩ : ∃ R, R = decide (ys <+: xs) := ⟨_, rfl⟩
      rw [← hR] at F ⊢
      obtain ⟨n, hnn⟩ : ∃ n, n = xs.length := ⟨_, rfl⟩
      obtain ⟨m, hmm⟩ : ∃ m, m = ys.length := ⟨_, rfl⟩
      have C := Lib.hid c
      rw [← hnn] at hn hcap hle C ⊢
      rw [← hmm] at hm hcap' hle F C ⊢
      have hle' : (m : Int) ≤ (n : Int) := by omega
      have hmc : m ≤ cap := by omega
      clear h h' c f hR hcx hcy hcx' hcy' hnn hmm hxy hx1 hy1
      go_enter Try.func19, Try.ntmps19
      go_wp2_with fail
      refine C.out.mono ?_
      rintro e w1 ⟨rfl, rfl⟩
      go_wp2_with fail
      refine F.out.mono ?_
      rintro e w1 ⟨rfl, q, rfl⟩
      go_wp2
      go_ret2
      exact ⟨rfl, below_drewN (Below.refl _ _) q⟩
    · rw [pre_long hle]
      obtain ⟨n, hnn⟩ : ∃ n, n = xs.length := ⟨_, rfl⟩
      obtain ⟨m, hmm⟩ : ∃ m, m = ys.length := ⟨_, rfl⟩
      have C := Lib.hid c
      rw [← hnn] at hn hcap hle C ⊢
      rw [← hmm] at hm hcap' hle C ⊢
      have hle' : ¬ (m : Int) ≤ (n : Int) := by omega
      clear h h' c hcx hcy hnn hmm hxy hx1 hy1
      go_enter Try.func19, Try.ntmps19
      go_wp2_with fail
      refine C.out.mono ?_
      rintro e w1 ⟨rfl, rfl⟩
      go_wp2
      go_ret2
      exact ⟨rfl, Below.refl _ _⟩
end Go.Proofs.Ytkhklidpighmpaa

namespace Go.Proofs.Ytkhklidpighmpaa
set_option maxRecDepth 100000
open Go.RowKit

theorem IntsM.block {w : World} {v : Value} {xs : List Int} (h : IntsM w v xs) (h0 : 0 < xs.length) : ∃ bk o cap, v = .slice (some ⟨bk, o, none⟩) xs.length cap ∧ xs.length ≤ cap ∧ bk < w.heap.size ∧ ∀ (j : Nat) x, xs[j]? = some x → w.cell? ⟨bk, o + j, none⟩ = some (.int .i64 x) := h.at.block h0
theorem outO_no {xs ys : List Int} (h : catB xs ys = false) (base : Nat) (w : World) : OutO base w (catI xs ys) (catB xs ys) (.returned (.tuple #[.slice none 0 0, .bool false])) := by
  rw [cat_no h, h]; exact ⟨_, rfl, .inl ⟨rfl, _, _, rfl⟩⟩
theorem ints_cells {w : World} {bk o : Nat} {xs : List Int} (h : ∀ (j : Nat) x, xs[j]? = some x → w.cell? ⟨bk, o + j, none⟩ = some (.int .i64 x)) : ∀ (j : Nat) u, (xs.map (Value.int .i64))[j]? = some u → w.cell? ⟨bk, o + j, none⟩ = some u := by
  intro j u hu
  rw [List.getElem?_map] at hu
  obtain ⟨z, hz, rfl⟩ := Option.map_eq_some_iff.1 hu
  exact h j z hz
theorem ints_one (xs : List Int) : ∀ u ∈ xs.map (Value.int .i64), u.oneCell' = true := by
  intro u hu
  obtain ⟨z, _, rfl⟩ := List.mem_map.1 hu
  rfl
theorem okO_append {xs ys : List Int} (hx : okO xs = true) (hy : okO ys = true) : okO (xs ++ ys) = decide (xs.length + ys.length ≤ 6) := by
  obtain ⟨x1, x2, x3⟩ := okO_parts hx
  obtain ⟨y1, y2, y3⟩ := okO_parts hy
  by_cases h : xs.length + ys.length ≤ 6
  · rw [decide_eq_true h]
    refine okO_yes (by rw [List.length_append]; omega) (by rw [List.length_append]; exact h) ?_
    rw [List.all_eq_true]
    intro x hx
    rcases List.mem_append.1 hx with h | h
    · exact x3 x h
    · exact y3 x h
  · rw [decide_eq_false h]
    exact okO_no_len (by rw [List.length_append]; omega)

set_option maxHeartbeats 2000000 in
theorem Concat_any (v u : Value) (xs ys : List Int) (w : World) (h : IntsM w v xs) (h' : IntsM w u ys) (hn : xs.length ≤ 1048576) (hm : ys.length ≤ 1048576) :
    Calls Try.prog 17 #[v, u] w fun e w' => OutO w.heap.size w' (catI xs ys) (catB xs ys) e ∧ Below w.heap.size w w' := by
  obtain ⟨i0, hi, hz0, hz1, hz2⟩ := info_parts infoInt
  have c := areO_any v u xs ys w h.at h'.at (by omega) (by omega)
  cases hxy : (okO xs && okO ys)
  · obtain ⟨a, cap, rfl, hcap, _⟩ := h.at.cells
    obtain ⟨b, cap', rfl, hcap', _⟩ := h'.at.cells
    have HF : Hid (catB xs ys = false) := by show catB xs ys = false; unfold catB; rw [hxy]; rfl
    rw [hxy] at c
    have C := Lib.hid c
    clear c hxy h h'
    go_enter Try.func17, Try.ntmps17
    go_wp2_with fail
    refine C.out.mono ?_
    rintro e w1 ⟨rfl, rfl⟩
    go_wp2
    go_ret2
    exact ⟨outO_no HF.out _ _, Below.refl _ _⟩
  · have hcb : catB xs ys = okO (xs ++ ys) := by unfold catB; rw [hxy]; rfl
    have hxy' := hxy
    rw [Bool.and_eq_true] at hxy'
    rw [okO_append hxy'.1 hxy'.2] at hcb
    have hx1 := (okO_parts hxy'.1).1
    have hy1 := (okO_parts hxy'.2).1
    obtain ⟨bk, o, cap, rfl, hcap, hk, hcx⟩ := h.block hx1
    obtain ⟨bk', o', cap', rfl, hcap', hk', hcy⟩ := h'.block hy1
    have HCX := Lib.hid (ints_cells hcx)
    have HCY := Lib.hid (ints_cells hcy)
    have HOX := Lib.hid (ints_one xs)
    have HOY := Lib.hid (ints_one ys)
    rw [hxy] at c
    have C := Lib.hid c
    have d := fun w => isLen_any ((xs.length : Int) + (ys.length : Int)) w
    have HLX : Hid ((xs.map (Value.int .i64)).length = xs.length) := List.length_map ..
    have HLY : Hid ((ys.map (Value.int .i64)).length = ys.length) := List.length_map ..
    have HAP : Hid ((xs.map (Value.int .i64)) ++ (ys.map (Value.int .i64)) = (xs ++ ys).map (Value.int .i64)) := (List.map_append ..).symm
    have HLA : Hid ((xs ++ ys).length = xs.length + ys.length) := List.length_append ..
    obtain ⟨n, hnn⟩ : ∃ n, n = xs.length := ⟨_, rfl⟩
    obtain ⟨m, hmm⟩ : ∃ m, m = ys.length := ⟨_, rfl⟩
    rw [← hnn] at hn hcap hx1 C d HLX HLA hcb ⊢
    rw [← hmm] at hm hcap' hy1 C d HLY HLA hcb ⊢
    by_cases h6 : n + m ≤ 6
    · rw [show (decide (1 ≤ (n : Int) + (m : Int)) && decide ((n : Int) + (m : Int) ≤ 6)) = true by simp; omega] at d
      have D := Lib.hid d
      rw [decide_eq_true h6] at hcb
      have HT := Lib.hid hcb
      clear h h' c d hxy hxy' hcx hcy hcb hnn hmm
      go_enter Try.func17, Try.ntmps17
      go_wp2_with fail
      refine C.out.mono ?_
      rintro e w1 ⟨rfl, rfl⟩
      go_wp2_with fail
      refine (D.out _).mono ?_
      rintro e w1 ⟨rfl, rfl⟩
      go_wp2_with (at_builtin; refine wpList_append_grows _ rfl _ _ 25 rfl 3 i0 (.int .i64 0) 1 8 Try.underlying25 hi hz0 hz1 hz2 rfl (by decide) (some ⟨bk, o, none⟩) n n (xs.map (.int .i64)) rfl (fun h => by cases h) (by rw [HLX.out, Nat.mul_one]) ?c0 ⟨bk', o', none⟩ m cap' (ys.map (.int .i64)) rfl (by rw [HLY.out, Nat.mul_one]) ?c1 HOY.out (by omega) (by unfold maxLen; omega) (by omega) ?_)
      case c0 => intro b hb j x hx; injection hb with hb; subst hb; rw [Addr.add_lit]; exact HCX.out j x hx
      case c1 => intro j x hx; rw [Addr.add_lit]; exact HCY.out j x hx
      intro v' w' hown hg
      have hb : Below w.heap.size w w' := (Below.refl _ w).grown hg (Nat.le_refl _) (fun k e => by cases e)
      have HR : Hid (OutO w.heap.size w' (catI xs ys) (catB xs ys) (.returned (.tuple #[v', .bool true]))) := by
        rw [cat_yes HT.out, HT.out]
        refine ⟨v', rfl, ownInts_of ?_⟩
        rw [HLA.out, ← HAP.out]
        exact hown
      clear hown hg
      go_wp2
      go_ret2
      exact ⟨HR.out, hb⟩
    · rw [show (decide (1 ≤ (n : Int) + (m : Int)) && decide ((n : Int) + (m : Int) ≤ 6)) = false by simp; omega] at d
      have D := Lib.hid d
      rw [decide_eq_false h6] at hcb
      have HF := Lib.hid hcb
      clear h h' c d hxy hxy' hcx hcy hcb hnn hmm
      go_enter Try.func17, Try.ntmps17
      go_wp2_with fail
      refine C.out.mono ?_
      rintro e w1 ⟨rfl, rfl⟩
      go_wp2_with fail
      refine (D.out _).mono ?_
      rintro e w1 ⟨rfl, rfl⟩
      go_wp2
      go_ret2
      exact ⟨outO_no HF.out _ _, Below.refl _ _⟩

/-! ### FormatOutline -/
def notas (xs : List Int) : List ByteArray := xs.map fun x => notaB x.toNat
theorem notas_len (xs : List Int) : (notas xs).length = xs.length := List.length_map ..
theorem notas_at {xs : List Int} {k : Nat} {x : Int} (h : xs[k]? = some x) : (notas xs).getD k ByteArray.empty = notaB x.toNat := by
  unfold notas; rw [List.getD, List.getElem?_map, h]; rfl
theorem notas_texts (xs : List Int) : Pl.texts (notas xs) = (outN xs).map Pl.nota := by
  unfold Pl.texts notas outN notaB
  rw [List.map_map, List.map_map]; rfl
theorem notas_join (xs : List Int) : (⟨(Lib.join (Pl.texts (notas xs)) [47]).toArray⟩ : ByteArray) = fmtT xs := by
  rw [notas_texts]; rfl
theorem notas_ok {xs : List Int} (h1 : 1 ≤ xs.length) (h2 : xs.length ≤ 6) : Pl.JoinOk (notas xs) 47 := by
  refine ⟨fun e => by have := notas_len xs; rw [e] at this; simp at this; omega, fun x hx => ?_, ?_⟩
  · unfold notas at hx
    obtain ⟨z, _, rfl⟩ := List.mem_map.1 hx
    unfold Pl.has
    rw [decide_eq_false_iff_not]
    exact Pl.nota_slash _
  · rw [notas_texts]
    have := Pl.fmt_len (outN xs)
    rw [outN_len] at this
    unfold Pl.fmt at this
    omega
theorem notas_size (xs : List Int) : ∀ x ∈ notas xs, x.size ≤ 2097152 := by
  intro x hx
  unfold notas at hx
  obtain ⟨z, _, rfl⟩ := List.mem_map.1 hx
  have := notaB_len z.toNat
  omega

set_option maxHeartbeats 2000000 in
theorem Format_any (v : Value) (xs : List Int) (w : World) (h : IntsAt w v xs) (hn : xs.length ≤ 2097152) :
    Calls Try.prog 20 #[v] w fun e w' => e = fmtE xs ∧ Below w.heap.size w w' := by
  have c := Valid_any v xs w h hn
  cases hg : okO xs
  · rw [hg] at c
    rw [fmtE_no hg]
    have C := Lib.hid c
    obtain ⟨a, cap, rfl, hcap, _⟩ := h.cells
    clear c h hg
    go_enter Try.func20, Try.ntmps20
    go_wp2_with fail
    refine C.out.mono ?_
    rintro e w1 ⟨rfl, rfl⟩
    go_wp2
    go_ret2
    exact ⟨rfl, Below.refl _ _⟩
  · obtain ⟨h1, h6, h3⟩ := okO_parts hg
    rw [hg] at c
    rw [fmtE_yes hg]
    have C := Lib.hid c
    have hJ : ∀ (v : Value) (w : World), StrsAt w v (notas xs) → Calls Try.prog 50 #[v, .string ⟨#[47]⟩] w fun e w' => e = .returned (.tuple #[.string (fmtT xs), .bool true]) ∧ Below w.heap.size w w' := by
      intro v w hs
      refine (Join_any v (notas xs) 47 w hs (by rw [notas_len]; omega) (notas_size xs)).mono ?_
      rintro e w' ⟨he, hb⟩
      refine ⟨?_, hb⟩
      rw [he.yes (notas_ok h1 h6)]
      unfold joined
      rw [notas_join]
    have HJ := Lib.hid hJ
    have HV : Hid (∀ x ∈ xs, 0 ≤ x ∧ x < 8388608) := fun x hx => by have := okS_iff.1 (h3 x hx); omega
    have HNL := Lib.hid (notas_len xs)
    have HNA : Hid (∀ (k : Nat) x, xs[k]? = some x → (notas xs).getD k ByteArray.empty = notaB x.toNat) := fun k x h => notas_at h
    obtain ⟨ns, hns⟩ : ∃ ns, ns = notas xs := ⟨_, rfl⟩
    obtain ⟨T, hT⟩ : ∃ T, T = fmtT xs := ⟨_, rfl⟩
    rw [← hns] at HJ HNL HNA
    rw [← hT] at HJ ⊢
    have CN := Lib.hid (fun m hm w => notation_any m hm w)
    obtain ⟨a, cap, rfl, hcap, hC⟩ := h.cells
    obtain ⟨n, hnn⟩ : ∃ n, n = xs.length := ⟨_, rfl⟩
    rw [← hnn] at h1 h6 hcap C HNL ⊢
    have HN := Lib.hid hnn
    have HC := Lib.hid hC
    have hmk := run_make_row' (P := Try.prog) 52 9 (.string ByteArray.empty) 16 Try.underlying52 infoStr' rfl .i64 .i64 n (by omega) (by omega)
    clear c h hg h3 hJ hns hT hC hnn hn
    go_enter Try.func20, Try.ntmps20
    go_wp2_with fail
    refine C.out.mono ?_
    rintro e w1 ⟨rfl, rfl⟩
    go_wp2_with fail
    clear hmk
    obtain ⟨B, hB⟩ : ∃ B, B = w.heap.size := ⟨_, rfl⟩
    have hrow0 := World.rowIs_made w (.string ByteArray.empty) n 9
    have hbel0 : Below w.heap.size w (w.alloc (.cells (madeCells #[.string ByteArray.empty] n) 9)) := (Below.refl _ _).alloc (Nat.le_refl _) _
    rw [← hB] at hrow0 ⊢
    have HBB := Lib.hid hB
    clear hB
    go_loopw [15] (fun i wr => ∃ k : Nat, k ≤ n ∧ i = .int .i64 k ∧ Hid (wr.rowIs B 9 n (fun j => if j < k then .string (ns.getD j ByteArray.empty) else .string ByteArray.empty)) ∧ Below w.heap.size w wr) (fun i _ => n - (intOf i).toNat)
    case atStart => exact ⟨0, Nat.zero_le _, rfl, Lib.hid (hrow0.congr (fun i _ => rfl)), hbel0⟩
    case round =>
      obtain ⟨k, hk, rfl, HRow, hbel⟩ := hrel
      by_cases hlt : k < n
      · obtain ⟨x, hx⟩ : ∃ x, xs[k]? = some x := ⟨_, List.getElem?_eq_getElem (by rw [← HN.out]; exact hlt)⟩
        obtain ⟨bk, o, rfl, _, g0⟩ := HC.out wr hbel k x hx
        have hxv := HV.out x (List.mem_of_getElem? hx)
        have hna := HNA.out k x hx
        obtain ⟨q, rfl⟩ := Int.eq_ofNat_of_zero_le hxv.1
        have CN1 := Lib.hid (fun w => CN.out q (by omega) w)
        rw [Int.toNat_natCast] at hna
        obtain ⟨t, ht⟩ : ∃ t, t = notaB q := ⟨_, rfl⟩
        rw [← ht] at CN1 hna
        have HA := Lib.hid hna
        clear hx hxv ht hna
        go_wp2_with fail
        refine (CN1.out _).mono ?_
        rintro e w1 ⟨rfl, hb1⟩
        have hBw : B < wr.heap.size := HRow.out.lt
        have hrow1 : w1.rowIs B 9 n (fun j => if j < k then .string (ns.getD j ByteArray.empty) else .string ByteArray.empty) := HRow.out.of_block (hb1.block B hBw)
        have hcd := hrow1.cell hlt
        have hfd := hrow1.frozen k
        rw [if_neg (Nat.lt_irrefl k)] at hcd
        have hb1' : Below w.heap.size w w1 := hbel.trans (hb1.mono hbel.size)
        have HR : Hid ((w1.setCell ⟨B, k, none⟩ (.string t)).rowIs B 9 n (fun j => if j < k + 1 then .string (ns.getD j ByteArray.empty) else .string ByteArray.empty)) := by
          refine (hrow1.set k (.string t)).congr fun j hj => ?_
          by_cases hjk : j = k
          · subst hjk
            rw [if_pos rfl, if_pos (by omega), HA.out]
          · rw [if_neg hjk]
            by_cases hjl : j < k
            · rw [if_pos hjl, if_pos (by omega)]
            · rw [if_neg hjl, if_neg (by omega)]
        have HBl : Hid (Below w.heap.size w (w1.setCell ⟨B, k, none⟩ (.string t))) := hb1'.setCell (by show w.heap.size ≤ B; rw [HBB.out]; exact Nat.le_refl _) _
        clear hrow1 hb1 hb1' hbel HRow
        go_wp2
        go_roundw
        case rel => exact ⟨k + 1, by omega, by go_num, HR, HBl.out⟩
        case measure => simp [intOf]; omega
      · obtain rfl : k = n := by omega
        have HS : Hid (StrsAt wr (.slice (some ⟨B, 0, none⟩) k k) ns) := by
          refine ⟨_, k, by rw [HNL.out], by rw [HNL.out]; exact Nat.le_refl _, .inr ⟨B, 0, rfl, HRow.out.lt, fun j x hx => ?_⟩⟩
          have hj : j < k := by
            rcases Nat.lt_or_ge j k with h' | h'
            · exact h'
            · rw [List.getElem?_eq_none (by rw [HNL.out]; exact h')] at hx; cases hx
          have := HRow.out.cell hj
          rw [if_pos hj] at this
          rw [Nat.zero_add, this]
          simp [List.getD, hx]
        have HJ1 := Lib.hid (HJ.out _ wr HS.out)
        clear HRow HS
        go_wp2_with fail
        refine HJ1.out.mono ?_
        rintro e w2 ⟨rfl, hb2⟩
        have HB2 := Lib.hid (hbel.trans (hb2.mono hbel.size))
        clear hb2
        go_wp2
        go_ret2
        exact ⟨rfl, HB2.out⟩
end Go.Proofs.Ytkhklidpighmpaa

namespace Go.Proofs.Ytkhklidpighmpaa
set_option maxRecDepth 100000
open Go.RowKit Go.Shelf

attribute [local go_sem] Oper.semAt_some

/-- The strokes of the parts that have come. -/
def gotI (pre : List Tx) : List Int := pre.map fun x => ((Pl.strict x.1.data.toList : Nat) : Int)
theorem gotI_len (pre : List Tx) : (gotI pre).length = pre.length := List.length_map ..
theorem gotI_next (pre : List Tx) (x : Tx) : gotI (pre ++ [x]) = gotI pre ++ [((Pl.strict x.1.data.toList : Nat) : Int)] := by unfold gotI; rw [List.map_append]; rfl
theorem reading_split (t : ByteArray) : (Pl.splitB t 47).map (fun b => Pl.strict b.data.toList) = Pl.reading t.data.toList := by
  unfold Pl.splitB Pl.ofLists Pl.reading
  rw [List.map_map]; rfl
theorem gotI_all {t : ByteArray} {ys : List Tx} (h : ys.map (·.1) = Pl.splitB t 47) : gotI ys = outI (Pl.reading t.data.toList) := by
  rw [← reading_split, ← h]
  unfold gotI outI
  rw [List.map_map, List.map_map]; rfl
theorem got_yes {t : ByteArray} {ys : List Tx} (h : ys.map (·.1) = Pl.splitB t 47) (h6 : ys.length ≤ 6) (hz : ∀ x ∈ ys, Pl.strict x.1.data.toList ≠ 0) : parI t = gotI ys ∧ parB t = true := by
  have e := gotI_all h
  have hl : (Pl.reading t.data.toList).length = ys.length := by rw [← reading_split, ← h]; simp
  rw [e]
  refine par_yes (by omega) ?_
  intro n hn
  rw [← reading_split, ← h, List.map_map] at hn
  obtain ⟨x, hx, rfl⟩ := List.mem_map.1 hn
  exact hz x hx
theorem got_no {t : ByteArray} {pre : List Tx} (h : pre.map (·.1) <+: Pl.splitB t 47) (hb : 6 < pre.length ∨ ∃ x ∈ pre, Pl.strict x.1.data.toList = 0) : parI t = [] ∧ parB t = false := by
  refine par_no ?_
  have hp : pre.map (fun x => Pl.strict x.1.data.toList) <+: Pl.reading t.data.toList := by
    rw [← reading_split]
    have := h.map (fun b => Pl.strict b.data.toList)
    rw [List.map_map] at this
    exact this
  rcases hb with hb | ⟨x, hx, h0⟩
  · refine Pl.parse_no_len ?_
    have := hp.length_le
    rw [List.length_map] at this
    omega
  · exact Pl.parse_no_at (hp.subset (List.mem_map.2 ⟨x, hx, h0⟩)) rfl
theorem outO_bad {t : ByteArray} (h : parI t = [] ∧ parB t = false) (base : Nat) (w : World) : OutO base w (parI t) (parB t) (.returned (.tuple #[.slice none 0 0, .bool false])) := by
  rw [h.1, h.2]; exact ⟨_, rfl, .inl ⟨rfl, _, _, rfl⟩⟩
theorem boxed_below {W W' : World} {B : Nat} {t : TypeId} {v : Value} (h : Boxed W B t v) (hb : Below W.heap.size W W') : Boxed W' B t v := (hb.block B h.lt).trans h
theorem keeps_below {W W' : World} (hb : Below W.heap.size W W') : KeepsOthers W W' := ⟨hb.size, fun k _ hk _ => (hb.block k (Array.getElem?_eq_some_iff.1 hk).1).trans hk⟩
theorem boxed_keeps {W W' : World} {row : Option Nat} {B : Nat} {t : TypeId} {v : Value} (h : Boxed W B t v) (hg : W.grownBy W' row) (hr : ∀ r, row = some r → ∃ o : Obj, W.heap[r]? = some o ∧ o.isCells = false) : Boxed W' B t v := boxed_own (β := Unit) B t (fun _ => v) () W W' row h hg hr
theorem boxed_drewN {W : World} {B : Nat} {t : TypeId} {v : Value} (h : Boxed W B t v) (k : Nat) : Boxed (W.drewN k) B t v := h

theorem five_boxes (w : World) (t0 t1 t2 t3 t4 : TypeId) (v0 v1 v2 v3 v4 : Value) (W0 : World) (h : (((((w.alloc (.cells #[v0] t0)).alloc (.cells #[v1] t1)).alloc (.cells #[v2] t2)).alloc (.cells #[v3] t3)).alloc (.cells #[v4] t4)) = W0) :
    W0.heap.size = w.heap.size + 5 ∧ Boxed W0 w.heap.size t0 v0 ∧ Boxed W0 (w.heap.size + 1) t1 v1 ∧ Boxed W0 (w.heap.size + 1 + 1) t2 v2 ∧ Boxed W0 (w.heap.size + 1 + 1 + 1) t3 v3 ∧ Boxed W0 (w.heap.size + 1 + 1 + 1 + 1) t4 v4 ∧ Below w.heap.size w W0 := by
  subst h
  have c0 := Boxed.new w t0 v0
  have c1 := Boxed.new (w.alloc (.cells #[v0] t0)) t1 v1
  have c2 := Boxed.new ((w.alloc (.cells #[v0] t0)).alloc (.cells #[v1] t1)) t2 v2
  have c3 := Boxed.new (((w.alloc (.cells #[v0] t0)).alloc (.cells #[v1] t1)).alloc (.cells #[v2] t2)) t3 v3
  have c4 := Boxed.new ((((w.alloc (.cells #[v0] t0)).alloc (.cells #[v1] t1)).alloc (.cells #[v2] t2)).alloc (.cells #[v3] t3)) t4 v4
  simp only [World.size_alloc] at c1 c2 c3 c4
  refine ⟨by simp only [World.size_alloc], (((c0.alloc _).alloc _).alloc _).alloc _, ((c1.alloc _).alloc _).alloc _, (c2.alloc _).alloc _, c3.alloc _, c4, ?_⟩
  refine (((((Below.refl _ w).alloc (Nat.le_refl _) _).alloc ?_ _).alloc ?_ _).alloc ?_ _).alloc ?_ _ <;> simp only [World.size_alloc] <;> omega

set_option maxRecDepth 100000 in
set_option maxHeartbeats 4000000 in
theorem Parse_in (n : Nat) (hn : 5 ≤ n) (t : ByteArray) (ht : t.size ≤ 1048576) (w : World) :
    CallsIn Fence.wide n Try.prog 13 #[.string t] w fun e w' => OutO w.heap.size w' (parI t) (parB t) e ∧ Below w.heap.size w w' := by
  have h1 : 1 ≤ n := by omega
  obtain ⟨i0, hi, hz0, hz1, hz2⟩ := info_parts infoInt
  refine callsIn_of_wp_marks Try.func13 rfl trivial ?_ rfl
  simp only [Try.ntmps13, List.size_toArray, List.length_cons, List.length_nil, Nat.reduceAdd, Nat.reduceSub, Array.replicate_succ, Array.replicate_zero, List.push_toArray, List.append_toArray, List.nil_append, List.cons_append]
  gi_wp2_with fail
  refine ⟨trivial, (parts_in (n - 1) t ((47 : UInt8).toNat : Int) _).mono ?_⟩
  rintro e W0 ⟨rfl, hW0⟩
  obtain ⟨hs0, x0, x1, x2, x3, x4, hBW⟩ := five_boxes w _ _ _ _ _ _ _ _ _ _ W0 hW0.symm
  clear hW0
  gi_wp2
  refine wpIn_rangeFunc_ownF rfl h1 (gf := 59) (lb := #[.pointer (some ⟨w.heap.size + 1 + 1 + 1, 0, none⟩), .pointer (some ⟨w.heap.size + 1 + 1 + 1 + 1, 0, none⟩)]) rfl trivial (enters_of Try.func59 (by kernel_rfl) rfl)
    (parts_stopsT (n - 1) (by omega) (w.heap.size + 1 + 1 + 1) (w.heap.size + 1 + 1 + 1 + 1) t 47 (by omega) W0 (by omega) (by omega) x3.cell x4.cell)
    (fun h k => ⟨k.1.trans h.1, k.2.trans h.2⟩) (fun W l o o' hl h _ _ => ⟨World.putObj_heap_other (by omega), World.putObj_heap_other (by omega)⟩) (Below.refl _ _) (fun _ => rfl)
    (fun (pre : List Tx) W => ((∃ v, Boxed W (w.heap.size + 1 + 1) 25 v ∧ W.ownsRow w.heap.size 3 1 v (gotI pre).length ((gotI pre).map (.int .i64)) ∧ True) ∧ Boxed W w.heap.size 25 (.slice none 0 0) ∧ Boxed W (w.heap.size + 1) 4 (.bool false) ∧ Boxed W (w.heap.size + 1 + 1 + 1) 9 (.string t) ∧ Boxed W (w.heap.size + 1 + 1 + 1 + 1) 5 (.int .u8 ((47 : UInt8).toNat : Int)) ∧ (pre.length ≤ 6 ∧ ∀ x ∈ pre, Pl.strict x.1.data.toList ≠ 0)) ∧ Below w.heap.size w W)
    (fun c pre W => (c = .ret ∧ Boxed W w.heap.size 25 (.slice none 0 0) ∧ Boxed W (w.heap.size + 1) 4 (.bool false) ∧ (6 < pre.length ∨ ∃ x ∈ pre, Pl.strict x.1.data.toList = 0)) ∧ Below w.heap.size w W)
    (OwnFrom.and (Own.from (fun s A C row hs hg hr => ⟨holdsRow_own w.heap.size (w.heap.size + 1 + 1) 25 3 1 (fun pre : List Tx => (gotI pre).length) (fun pre : List Tx => (gotI pre).map (Value.int .i64)) (fun _ _ => True) s A C row hs.1 hg hr, boxed_keeps hs.2.1 hg hr, boxed_keeps hs.2.2.1 hg hr, boxed_keeps hs.2.2.2.1 hg hr, boxed_keeps hs.2.2.2.2.1 hg hr, hs.2.2.2.2.2⟩) _) (ownFrom_below (Nat.le_refl _) (by omega)))
    (fun c => OwnFrom.and (Own.from (fun s A C row hs hg hr => ⟨hs.1, boxed_keeps hs.2.1 hg hr, boxed_keeps hs.2.2.1 hg hr, hs.2.2.2⟩) _) (ownFrom_below (Nat.le_refl _) (by omega)))
    ⟨⟨⟨_, x2, World.ownsRow_nil _ _ _ _, trivial⟩, x0, x1, x3, x4, Nat.zero_le _, fun x hx => by simp at hx⟩, hBW⟩
    (fun x => { tmps := #[.string t, undef, .pointer (some ⟨w.heap.size, 0, none⟩), .pointer (some ⟨w.heap.size + 1, 0, none⟩), .pointer (some ⟨w.heap.size + 1 + 1, 0, none⟩), .string x.1, undef, undef, .string t, .int .u8 ((47 : UInt8).toNat : Int), .func (.func 59) #[] #[.pointer (some ⟨w.heap.size + 1 + 1 + 1, 0, none⟩), .pointer (some ⟨w.heap.size + 1 + 1 + 1 + 1, 0, none⟩)], .string x.1, undef, undef, undef, undef, undef, undef, undef, undef, undef, undef, undef, undef, undef, undef, undef, undef, undef, undef, undef], defers := [] }) ?assign ?body ?done ?stop
  case assign =>
    intro l x W K hK
    gi_wp2
    exact hK
  case body =>
    rintro l pre ⟨s, hs⟩ W ⟨⟨⟨v, hv, hrow, _⟩, hb0, hb1, hb3, hb4, hlen, hz⟩, hB⟩ hlt
    have cp := fun w => ParseStroke_any s w (by unfold maxLen; omega)
    obtain ⟨m, hm⟩ : ∃ m, Pl.strict s.data.toList = m := ⟨_, rfl⟩
    have hgl := gotI_len pre
    by_cases h0 : m = 0
    · subst h0
      rw [strictE_zero hm] at cp
      have CP := Lib.hid cp
      have HBad : Hid (6 < (pre ++ [(⟨s, hs⟩ : Tx)]).length ∨ ∃ x ∈ pre ++ [(⟨s, hs⟩ : Tx)], Pl.strict x.1.data.toList = 0) := .inr ⟨⟨s, hs⟩, by simp, hm⟩
      clear cp hz hm
      gi_wp2_with fail
      refine ⟨trivial, fun _ => by omega, (CallsIn.inRound l (callsIn_wide.2 (CP.out _))).mono ?_⟩
      rintro e W1 ⟨rfl, hb⟩
      have HY0 := Lib.hid (boxed_below hb0 hb)
      have HY1 := Lib.hid (boxed_below hb1 hb)
      have HB1 := Lib.hid (hB.trans (hb.mono hB.size))
      have HK1 := Lib.hid (keeps_below hb)
      have c0 := HY0.out.cell
      have f0 := HY0.out.frozen
      have HZ0 := Lib.hid (HY1.out.other (show w.heap.size + 1 ≠ w.heap.size by omega) (.slice none 0 0))
      have c1 := HZ0.out.cell
      have f1 := HZ0.out.frozen
      clear hv hrow hb0 hb1 hb3 hb4 hb hB
      gi_wp2_with fail
      refine ⟨trivial, ?_⟩
      gi_wp2
      exact ⟨(HK1.out.trans (KeepsOthers.setCell _ _ _)).trans (KeepsOthers.setCell _ _ _), ⟨rfl, (HY0.out.set _).other (by omega) _, HZ0.out.set _, HBad.out⟩, (HB1.out.setCell (p := ⟨w.heap.size, 0, none⟩) (Nat.le_refl _) _).setCell (p := ⟨w.heap.size + 1, 0, none⟩) (by simp) _⟩
    · rw [strictE_pos hm h0] at cp
      have CP := Lib.hid cp
      obtain ⟨va, vc, rfl, hvc, _⟩ := rowInts_at hrow
      have cl := fun w => isLen_any (((gotI pre).length : Int) + 1) w
      obtain ⟨k, hk⟩ : ∃ k, k = (gotI pre).length := ⟨_, rfl⟩
      have HMM : Hid ((gotI pre).map (Value.int .i64) ++ [.int .i64 (m : Int)] = (gotI (pre ++ [(⟨s, hs⟩ : Tx)])).map (Value.int .i64)) := by
        show _ = _
        rw [gotI_next, List.map_append]
        show _ = _ ++ [Value.int .i64 ((Pl.strict s.data.toList : Nat) : Int)]
        rw [hm]
      have HLL : Hid ((gotI (pre ++ [(⟨s, hs⟩ : Tx)])).length = k + 1) := by show _ = _; rw [gotI_len, List.length_append, hk, gotI_len]; rfl
      have hpl : pre.length = k := by omega
      rw [← hk] at hrow hv cl
      obtain ⟨ks, hks⟩ : ∃ ks, ks = (gotI pre).map (Value.int .i64) := ⟨_, rfl⟩
      rw [← hks] at hrow HMM
      by_cases h6 : k + 1 ≤ 6
      · rw [show (decide (1 ≤ (k : Int) + 1) && decide ((k : Int) + 1 ≤ 6)) = true by simp; omega] at cl
        have CL := Lib.hid cl
        have HZ2 : Hid (∀ x ∈ pre ++ [(⟨s, hs⟩ : Tx)], Pl.strict x.1.data.toList ≠ 0) := by
          intro x hx
          rcases List.mem_append.1 hx with hx | hx
          · exact hz x hx
          · simp at hx; subst hx; rw [hm]; exact h0
        have HL2 : Hid ((pre ++ [(⟨s, hs⟩ : Tx)]).length ≤ 6) := by show _ ≤ _; rw [List.length_append]; simp; omega
        clear cp cl hz hm hk hks hgl
        gi_wp2_with fail
        refine ⟨trivial, fun _ => by omega, (CallsIn.inRound l (callsIn_wide.2 (CP.out _))).mono ?_⟩
        rintro e W1 ⟨rfl, hb⟩
        have HY0 := Lib.hid (boxed_below hb0 hb)
        have HY1 := Lib.hid (boxed_below hb1 hb)
        have HY3 := Lib.hid (boxed_below hb3 hb)
        have HY4 := Lib.hid (boxed_below hb4 hb)
        have HV := Lib.hid (boxed_below hv hb)
        have HR := Lib.hid (row_below hrow hb)
        have HB1 := Lib.hid (hB.trans (hb.mono hB.size))
        have HK1 := Lib.hid (keeps_below hb)
        have HQ : Hid (W1.heap[w.heap.size + 1 + 1 + 1]? = W.heap[w.heap.size + 1 + 1 + 1]? ∧ W1.heap[w.heap.size + 1 + 1 + 1 + 1]? = W.heap[w.heap.size + 1 + 1 + 1 + 1]?) := ⟨hb.block _ hb3.lt, hb.block _ hb4.lt⟩
        have c2 := HV.out.cell
        have hs1 := HB1.out.size
        clear hv hrow hb0 hb1 hb3 hb4 hb hB
        gi_wp2_with fail
        refine ⟨trivial, fun _ => by omega, (CallsIn.inRound l (callsIn_wide.2 (CL.out _))).mono ?_⟩
        rintro e W2 ⟨rfl, rfl⟩
        gi_wp2_with (gi_at_builtin; refine wpListIn_append_own _ rfl _ _ 25 rfl w.heap.size 3 i0 (.int .i64 0) 1 8 Try.underlying25 hi hz0 hz1 hz2 rfl (by decide) _ _ _ rfl (HR.out.alloc _) ⟨W1.heap.size, 0, none⟩ 1 1 [.int .i64 (m : Int)] rfl rfl (cell_one_new _ _ _) (by simp [Value.oneCell']) (by unfold maxLen; omega) (by omega) (by simp; omega) ?_; intro v' w1 hown' hgrow _; obtain ⟨g', cap', rfl⟩ := ownsRow_succ hown'; have HAP := Lib.hid (HV.out.appended (by decide) HR.out hs1 (by omega) hown' hgrow); have HG := Lib.hid hgrow; clear hown' hgrow; have hc1 := HAP.out.1.cell; have hf1 := HAP.out.1.frozen)
        have HX : ∀ {b : Nat} {T : TypeId} {u : Value}, Boxed W1 b T u → T ≠ 3 → b ≠ w.heap.size + 1 + 1 → Boxed (w1.setCell ⟨w.heap.size + 1 + 1, 0, none⟩ (.slice (some ⟨g', 0, none⟩) (k + 1) cap')) b T u := fun hb hT hne => ((hb.alloc _).kept HG.out (hb.not_row hT HR.out)).other hne _
        obtain ⟨_, q2, q3, q4, q5⟩ := HAP.out
        have z0 := HX HY0.out (by decide) (by omega)
        have z1 := HX HY1.out (by decide) (by omega)
        have z3 := HX HY3.out (by decide) (by omega)
        have z4 := HX HY4.out (by decide) (by omega)
        refine ⟨HK1.out.trans q4, ⟨(z3.trans HY3.out.symm).trans HQ.out.1, (z4.trans HY4.out.symm).trans HQ.out.2⟩, ⟨⟨_, q2, ?_, trivial⟩, z0, z1, z3, z4, HL2.out, HZ2.out⟩, HB1.out.trans q5⟩
        rw [HLL.out, ← HMM.out]
        exact q3
      · rw [show (decide (1 ≤ (k : Int) + 1) && decide ((k : Int) + 1 ≤ 6)) = false by simp; omega] at cl
        have CL := Lib.hid cl
        have HBad : Hid (6 < (pre ++ [(⟨s, hs⟩ : Tx)]).length ∨ ∃ x ∈ pre ++ [(⟨s, hs⟩ : Tx)], Pl.strict x.1.data.toList = 0) := .inl (by rw [List.length_append]; simp; omega)
        clear cp cl hz hm hk hks hgl
        gi_wp2_with fail
        refine ⟨trivial, fun _ => by omega, (CallsIn.inRound l (callsIn_wide.2 (CP.out _))).mono ?_⟩
        rintro e W1 ⟨rfl, hb⟩
        have HY0 := Lib.hid (boxed_below hb0 hb)
        have HY1 := Lib.hid (boxed_below hb1 hb)
        have HV := Lib.hid (boxed_below hv hb)
        have HB1 := Lib.hid (hB.trans (hb.mono hB.size))
        have HK1 := Lib.hid (keeps_below hb)
        have c2 := HV.out.cell
        have c0 := HY0.out.cell
        have f0 := HY0.out.frozen
        have HZ0 := Lib.hid (HY1.out.other (show w.heap.size + 1 ≠ w.heap.size by omega) (.slice none 0 0))
        have c1 := HZ0.out.cell
        have f1 := HZ0.out.frozen
        clear hv hrow hb0 hb1 hb3 hb4 hb hB
        gi_wp2_with fail
        refine ⟨trivial, fun _ => by omega, (CallsIn.inRound l (callsIn_wide.2 (CL.out _))).mono ?_⟩
        rintro e W2 ⟨rfl, rfl⟩
        gi_wp2
        exact ⟨(HK1.out.trans (KeepsOthers.setCell _ _ _)).trans (KeepsOthers.setCell _ _ _), ⟨rfl, (HY0.out.set _).other (by omega) _, HZ0.out.set _, HBad.out⟩, (HB1.out.setCell (p := ⟨w.heap.size, 0, none⟩) (Nat.le_refl _) _).setCell (p := ⟨w.heap.size + 1, 0, none⟩) (by simp) _⟩
  case done =>
    rintro D ys W hD hS ⟨⟨⟨v, hv, hrow, _⟩, hb0, hb1, hb3, hb4, hlen, hz⟩, hB⟩ hK
    have hy := got_yes hS hlen hz
    obtain ⟨va, vc, rfl, hvc, _⟩ := rowInts_at hrow
    obtain ⟨k, hk⟩ : ∃ k, k = (gotI ys).length := ⟨_, rfl⟩
    rw [← hk] at hv hrow
    have HK := Lib.hid hk
    have HYes := Lib.hid hy
    have c2 := hv.cell
    have c0 := hb0.cell
    have f0 := hb0.frozen
    have HZ0 := Lib.hid (hb0.set (.slice va k vc))
    have HZ1 := Lib.hid (hb1.other (show w.heap.size + 1 ≠ w.heap.size by omega) (.slice va k vc))
    have c1 := HZ1.out.cell
    have f1 := HZ1.out.frozen
    have HRow : Hid (((W.setCell ⟨w.heap.size, 0, none⟩ (.slice va k vc)).setCell ⟨w.heap.size + 1, 0, none⟩ (.bool true)).ownsRow w.heap.size 3 1 (.slice va k vc) k ((gotI ys).map (.int .i64))) := by
      have r1 := hrow.kept (grownBy_setCell' W w.heap.size (.slice va k vc)) (.inr (hb0.not_row (by decide) hrow).symm)
      exact r1.kept (grownBy_setCell' _ (w.heap.size + 1) (.bool true)) (.inr (HZ1.out.not_row (by decide) r1).symm)
    have HKs : Hid (KeepsOthers W ((W.setCell ⟨w.heap.size, 0, none⟩ (.slice va k vc)).setCell ⟨w.heap.size + 1, 0, none⟩ (.bool true))) := (KeepsOthers.setCell _ _ _).trans (KeepsOthers.setCell _ _ _)
    have HBl : Hid (Below w.heap.size w ((W.setCell ⟨w.heap.size, 0, none⟩ (.slice va k vc)).setCell ⟨w.heap.size + 1, 0, none⟩ (.bool true))) := (hB.setCell (p := ⟨w.heap.size, 0, none⟩) (Nat.le_refl _) _).setCell (p := ⟨w.heap.size + 1, 0, none⟩) (by simp) _
    clear hv hrow hb0 hb1 hb3 hb4 hB hS hy hk hz
    gi_wp2
    have hK' := HKs.out.same D _ hK rfl
    refine ⟨by simp, .inl ⟨_, _, rfl, run_takeDeferred hK', ?_⟩⟩
    have d0 := cell_kept ((HZ0.out.other (show w.heap.size ≠ w.heap.size + 1 by omega) (.bool true)).cell) (grownBy_putObj' _ D (.deferred none)) (fun r e => by cases e; exact ⟨_, hK', rfl⟩)
    have d1 := cell_kept ((HZ1.out.set (.bool true)).cell) (grownBy_putObj' _ D (.deferred none)) (fun r e => by cases e; exact ⟨_, hK', rfl⟩)
    refine ⟨.tuple #[.slice va k vc, .bool true], ?_, ?_, HBl.out.trans (belowK_b (w := w) (Nat.le_refl _) _ D _ _ (by omega) hK' rfl rfl)⟩
    · simp [results, Try.f13, go_sem, d0, d1]
    · rw [HYes.out.1, HYes.out.2]
      refine ⟨_, rfl, ownInts_of ?_⟩
      rw [← HK.out]
      exact ownsRow_putObj HRow.out _ hK' rfl
  case stop =>
    rintro D c pre W hD hS ⟨⟨rfl, hb0, hb1, hbad⟩, hB⟩ hK
    have HF := Lib.hid (fun base w => outO_bad (got_no hS hbad) base w)
    have c0 := cell_kept hb0.cell (grownBy_putObj' _ D (.deferred none)) (fun r e => by cases e; exact ⟨_, hK, rfl⟩)
    have c1 := cell_kept hb1.cell (grownBy_putObj' _ D (.deferred none)) (fun r e => by cases e; exact ⟨_, hK, rfl⟩)
    gi_wp2
    refine ⟨by simp, .inl ⟨_, _, rfl, run_takeDeferred hK, ?_⟩⟩
    refine ⟨.tuple #[.slice none 0 0, .bool false], ?_, HF.out _ _, hB.trans (belowK_b (w := w) (Nat.le_refl _) W D _ _ (by omega) hK rfl rfl)⟩
    simp [results, Try.f13, go_sem, c0, c1]
theorem Parse_any (t : ByteArray) (w : World) (ht : t.size ≤ 1048576) :
    Calls Try.prog 13 #[.string t] w fun e w' => OutO w.heap.size w' (parI t) (parB t) e ∧ Below w.heap.size w w' := (callsIn_wide (n := 9)).1 (Parse_in 9 (by omega) t ht w)
end Go.Proofs.Ytkhklidpighmpaa
