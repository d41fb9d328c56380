/-
  CONTRACTS of chapter 4 of the specification: outlines.
-/
import Derived.Test.YtnpiphkglhcifaaGreatPlainOut
import Derived.Test.YtnpiphkglhcifaaGreatLoose
import Derived.Test.YtnpiphkglhcifaaGreatSplit
import Derived.Test.YtnpiphkglhcifaaGreatMarkI
import Derived.Maps.AppendAt
import Derived.Laws.AppendOwnNone
namespace Go.Proofs.YtnpiphkglhcifaaGreat
set_option maxRecDepth 100000
open Go.RowKit

/-- Is the list an outline? -/
def okO (xs : List Int) : Bool := (decide (1 ≤ xs.length) && decide (xs.length ≤ 6)) && xs.all okS
def outN (xs : List Int) : List Nat := xs.map Int.toNat
def outI (l : List Nat) : List Int := l.map Int.ofNat
theorem outI_len (l : List Nat) : (outI l).length = l.length := by unfold outI; rw [List.length_map]
theorem outN_len (xs : List Int) : (outN xs).length = xs.length := by unfold outN; rw [List.length_map]
theorem okO_parts {xs : List Int} (h : okO xs = true) : 1 ≤ xs.length ∧ xs.length ≤ 6 ∧ ∀ x ∈ xs, okS x = true := by
  unfold okO at h
  simp only [Bool.and_eq_true, decide_eq_true_eq] at h
  exact ⟨h.1.1, h.1.2, List.all_eq_true.1 h.2⟩
theorem okO_no_len {xs : List Int} (h : ¬ (1 ≤ xs.length ∧ xs.length ≤ 6)) : okO xs = false := by
  unfold okO
  rw [show (decide (1 ≤ xs.length) && decide (xs.length ≤ 6)) = false by simp; omega]; rfl
theorem okO_no_at {xs : List Int} {k : Nat} {x : Int} (h : xs[k]? = some x) (hx : okS x = false) : okO xs = false := by
  have : xs.all okS = false := by rw [List.all_eq_false]; exact ⟨x, List.mem_of_getElem? h, by rw [hx]; decide⟩
  unfold okO; rw [this, Bool.and_false]
theorem okO_yes {xs : List Int} (h1 : 1 ≤ xs.length) (h2 : xs.length ≤ 6) (h3 : xs.all okS = true) : okO xs = true := by
  unfold okO; rw [h3]; simp; exact ⟨h1, h2⟩
theorem all_next {xs : List Int} {k : Nat} {x : Int} (h : xs[k]? = some x) (ha : (xs.take k).all okS = true) (hx : okS x = true) : (xs.take (k + 1)).all okS = true := by
  rw [List.take_add_one, h, List.all_append, ha, Bool.true_and]; simp [hx]
/-- The cells of a slice of ints, in every later world. -/
def IntCells (w : World) (a : Option Addr) (xs : List Int) : Prop :=
  ∀ w1 : World, Below w.heap.size w w1 → ∀ (j : Nat) x, xs[j]? = some x → ∃ bk o, a = some ⟨bk, o, none⟩ ∧ bk < w.heap.size ∧ w1.cell? ⟨bk, o + j, none⟩ = some (.int .i64 x)
theorem IntsAt.cells {w : World} {v : Value} {xs : List Int} (h : IntsAt w v xs) : ∃ a cap, v = .slice a xs.length cap ∧ xs.length ≤ cap ∧ IntCells w a xs := by
  obtain ⟨a, cap, rfl, hc, h⟩ := h
  refine ⟨a, cap, rfl, hc, fun w1 hb j x hx => ?_⟩
  rcases h with rfl | ⟨bk, o, ha, hk, h⟩
  · simp at hx
  · exact ⟨bk, o, ha, hk, (hb.cell (p := ⟨bk, o + j, none⟩) hk).trans (h j x hx)⟩

set_option maxHeartbeats 1000000 in
theorem l4Good_any (v : Value) (xs : List Int) (w : World) (h : IntsAt w v xs) (hn : xs.length ≤ 2097152) :
    Calls Tryz.prog 50 #[v] w fun e w' => e = .returned (.bool (okO xs)) ∧ w = w' := by
  obtain ⟨a, cap, rfl, hcap, hC⟩ := h.cells
  obtain ⟨n, hnn⟩ : ∃ n, n = xs.length := ⟨_, rfl⟩
  rw [← hnn] at hn hcap ⊢
  have HN := Lib.hid hnn
  have HC := Lib.hid hC
  have CG := Lib.hid (fun s w => l2Good_any s w)
  clear h hnn hC
  by_cases hlen : 1 ≤ n ∧ n ≤ 6
  · have c := fun w => l1In_any (n : Int) 1 6 w
    rw [show (decide (1 ≤ (n : Int)) && decide ((n : Int) ≤ 6)) = true by simp; omega] at c
    have C := Lib.hid c
    clear c
    go_enter Tryz.func50, Tryz.ntmps50
    go_wp2_with fail
    refine (C.out _).mono ?_
    rintro e w1 ⟨rfl, rfl⟩
    go_wp2_with fail
    go_loopw [3] (fun i wr => ∃ k : Nat, i = .int .i64 k ∧ k ≤ n ∧ Hid ((xs.take k).all okS = true) ∧ wr = w) (fun i _ => n - (intOf i).toNat)
    case atStart => exact ⟨0, rfl, Nat.zero_le _, Lib.hid rfl, rfl⟩
    case round =>
      obtain ⟨k, rfl, hk, HL, rfl⟩ := hrel
      by_cases hlt : k < n
      · obtain ⟨x, hx⟩ : ∃ x, xs[k]? = some x := ⟨_, List.getElem?_eq_getElem (by rw [← HN.out]; exact hlt)⟩
        obtain ⟨bk, o, rfl, _, g0⟩ := HC.out wr (Below.refl _ _) k x hx
        cases hok : okS x
        · have HF := Lib.hid (okO_no_at hx hok)
          have c := fun w => CG.out x w
          rw [hok] at c
          have C1 := Lib.hid c
          clear c hx hok HL
          go_wp2_with fail
          refine (C1.out _).mono ?_
          rintro e w1 ⟨rfl, rfl⟩
          go_wp2
          go_ret
          exact ⟨ret_bool HF.out.symm, rfl⟩
        · have HL2 := Lib.hid (all_next hx HL.out hok)
          have c := fun w => CG.out x w
          rw [hok] at c
          have C1 := Lib.hid c
          clear c hx hok HL
          go_wp2_with fail
          refine (C1.out _).mono ?_
          rintro e w1 ⟨rfl, rfl⟩
          go_wp2
          go_roundw
          case rel => exact ⟨k + 1, by go_num, by omega, HL2, by trivial⟩
          case measure => simp [intOf]; omega
      · obtain rfl : k = n := by omega
        have HF : Hid (okO xs = true) := by
          have h3 := HL.out
          rw [List.take_of_length_le (by rw [← HN.out]; exact Nat.le_refl _)] at h3
          exact okO_yes (by rw [← HN.out]; exact hlen.1) (by rw [← HN.out]; exact hlen.2) h3
        clear HL
        go_wp2
        go_ret
        exact ⟨ret_bool HF.out.symm, rfl⟩
  · have c := fun w => l1In_any (n : Int) 1 6 w
    rw [show (decide (1 ≤ (n : Int)) && decide ((n : Int) ≤ 6)) = false by simp; omega] at c
    have C := Lib.hid c
    have HF : Hid (okO xs = false) := okO_no_len (by rw [← HN.out]; exact hlen)
    clear c hlen
    go_enter Tryz.func50, Tryz.ntmps50
    go_wp2_with fail
    refine (C.out _).mono ?_
    rintro e w1 ⟨rfl, rfl⟩
    go_wp2
    go_ret
    exact ⟨ret_bool HF.out.symm, rfl⟩

/-- The notation of an outline as a text. -/
def fmtT (xs : List Int) : ByteArray := ⟨(Pl.fmt (outN xs)).toArray⟩
theorem fmtT_size (xs : List Int) : (fmtT xs).size ≤ 25 * xs.length := by
  unfold fmtT; rw [str_len]; have := Pl.fmt_len (outN xs); rw [outN_len] at this; exact this
theorem fmtT_nil : fmtT [] = ⟨#[]⟩ := rfl
theorem outN_take (xs : List Int) (k : Nat) (n : Nat) (h : xs[k]? = some (n : Int)) : outN (xs.take (k + 1)) = outN (xs.take k) ++ [n] := by
  unfold outN; rw [List.take_add_one, h, List.map_append]; simp
theorem fmtT_first (xs : List Int) (n : Nat) (h : xs[0]? = some (n : Int)) : (⟨#[]⟩ : ByteArray) ++ notaB n = fmtT (xs.take (0 + 1)) := by
  unfold fmtT
  rw [outN_take xs 0 n h, List.take_zero]
  show _ = (⟨(Pl.fmt ([] ++ [n])).toArray⟩ : ByteArray)
  rw [List.nil_append, Pl.fmt_one]
  apply ByteArray.ext
  rw [ByteArray.data_append]
  unfold notaB
  simp
theorem fmtT_next (xs : List Int) (k n : Nat) (h0 : 0 < k) (h : xs[k]? = some (n : Int)) : (fmtT (xs.take k) ++ (⟨#[47]⟩ : ByteArray)) ++ notaB n = fmtT (xs.take (k + 1)) := by
  have hk := (List.getElem?_eq_some_iff.1 h).1
  unfold fmtT
  have hl : (outN (xs.take k)).length = k := by rw [outN_len, List.length_take]; omega
  rw [outN_take xs k n h, Pl.fmt_snoc _ _ (by intro e; rw [e] at hl; simp at hl; omega)]
  apply ByteArray.ext
  rw [ByteArray.data_append, ByteArray.data_append]
  unfold notaB
  apply Array.toList_inj.1
  simp

/-- What FormatOutline answers. -/
def fmtE (xs : List Int) : Ending := .returned (.tuple #[.string (if okO xs = true then fmtT xs else ⟨#[]⟩), .bool (okO xs)])
theorem fmtE_yes {xs : List Int} (h : okO xs = true) : fmtE xs = .returned (.tuple #[.string (fmtT xs), .bool true]) := by unfold fmtE; rw [h]; rfl
theorem fmtE_no {xs : List Int} (h : okO xs = false) : fmtE xs = .returned (.tuple #[.string ⟨#[]⟩, .bool false]) := by unfold fmtE; rw [h]; rfl

/-! ### ParseOutline -/
/-- An answer of ints and a flag. -/
def OutE (w' : World) (xs : List Int) (b : Bool) (e : Ending) : Prop := ∃ u, e = .returned (.tuple #[u, .bool b]) ∧ IntsAt w' u xs
/-- What ParseOutline answers. -/
def parI (t : ByteArray) : List Int := outI (Pl.parse t.data.toList)
def parB (t : ByteArray) : Bool := !(Pl.parse t.data.toList).isEmpty
theorem par_no {t : ByteArray} (h : Pl.parse t.data.toList = []) : parI t = [] ∧ parB t = false := by unfold parI parB; rw [h]; exact ⟨rfl, rfl⟩
theorem outE_no {t : ByteArray} (h : parI t = [] ∧ parB t = false) (w : World) (a : Option Addr) (cap : Nat) : OutE w (parI t) (parB t) (.returned (.tuple #[.slice a 0 cap, .bool false])) := by
  rw [h.1, h.2]; exact ⟨_, rfl, IntsAt.nil _ _ _⟩
theorem par_yes {t : ByteArray} (h1 : (Pl.reading t.data.toList).length ≤ 6) (h2 : ∀ n ∈ Pl.reading t.data.toList, n ≠ 0) : parI t = outI (Pl.reading t.data.toList) ∧ parB t = true := by
  obtain ⟨h3, h4⟩ := Pl.parse_yes h1 h2
  unfold parI parB
  rw [h3] at h4 ⊢
  refine ⟨rfl, ?_⟩
  cases hr : Pl.reading t.data.toList with
  | nil => exact absurd hr h4
  | cons x l => rfl
theorem reading_at {t s : ByteArray} {k : Nat} (h : (Pl.splitB t 47)[k]? = some s) : (Pl.reading t.data.toList)[k]? = some (Pl.strict s.data.toList) := by
  unfold Pl.splitB Pl.ofLists at h
  rw [List.getElem?_map] at h
  obtain ⟨p, hp, rfl⟩ := Option.map_eq_some_iff.1 h
  unfold Pl.reading
  rw [List.getElem?_map, hp]
  simp
theorem reading_len (t : ByteArray) : (Pl.reading t.data.toList).length = (Pl.splitB t 47).length := by
  unfold Pl.reading Pl.splitB Pl.ofLists; rw [List.length_map, List.length_map]
theorem outI_next {l : List Nat} {k n : Nat} (h : l[k]? = some n) : outI (l.take (k + 1)) = outI (l.take k) ++ [(n : Int)] := by
  unfold outI; rw [List.take_add_one, h, List.map_append]; rfl
theorem okO_outI {l : List Nat} (h1 : l ≠ []) (h2 : l.length ≤ 6) (h3 : ∀ n ∈ l, n ≠ 0 ∧ n < 8388608) : okO (outI l) = true := by
  refine okO_yes ?_ (by rw [outI_len]; exact h2) ?_
  · rw [outI_len]
    cases l with
    | nil => exact absurd rfl h1
    | cons x r => simp
  · rw [List.all_eq_true]
    intro x hx
    unfold outI at hx
    obtain ⟨n, hn, rfl⟩ := List.mem_map.1 hx
    obtain ⟨q1, q2⟩ := h3 n hn
    rw [okS_iff]
    show 1 ≤ (n : Int) ∧ (n : Int) < 8388608
    omega


/-! ### CompareOutlines, HasPrefix -/
set_option maxHeartbeats 2000000 in
theorem l4Compare_any (v u : Value) (xs ys : List Int) (w : World) (h : IntsAt w v xs) (h' : IntsAt w u ys) (hn : xs.length ≤ 2097152) (_hm : ys.length ≤ 2097152) :
    Calls Tryz.prog 34 #[v, u] w fun e w' => e = .returned (.int .i64 (Pl.cmp xs ys)) ∧ Below w.heap.size w w' := by
  obtain ⟨a, cap, rfl, hcap, hC⟩ := h.cells
  obtain ⟨b, cap', rfl, hcap', hD⟩ := h'.cells
  obtain ⟨n, hnn⟩ : ∃ n, n = xs.length := ⟨_, rfl⟩
  obtain ⟨m, hmm⟩ : ∃ m, m = ys.length := ⟨_, rfl⟩
  rw [← hnn] at hn hcap ⊢
  rw [← hmm] at hcap' ⊢
  have HN := Lib.hid hnn
  have HM := Lib.hid hmm
  have HC := Lib.hid hC
  have HD := Lib.hid hD
  clear h h' hnn hmm hC hD
  go_enter Tryz.func34, Tryz.ntmps34
  go_wp2_with fail
  go_loopw [5] (fun i wr => ∃ k : Nat, i = .int .i64 k ∧ k ≤ n ∧ k ≤ m ∧ Hid (xs.take k = ys.take k) ∧ Below w.heap.size w wr) (fun i _ => n - (intOf i).toNat)
  case atStart => exact ⟨0, rfl, Nat.zero_le _, Nat.zero_le _, Lib.hid rfl, Below.refl _ _⟩
  case round =>
    obtain ⟨k, rfl, hk, hk', HT, hbel⟩ := hrel
    by_cases hlt : k < n ∧ k < m
    · obtain ⟨hlt1, hlt2⟩ := hlt
      obtain ⟨x, hx⟩ : ∃ x, xs[k]? = some x := ⟨_, List.getElem?_eq_getElem (by rw [← HN.out]; exact hlt1)⟩
      obtain ⟨y, hy⟩ : ∃ y, ys[k]? = some y := ⟨_, List.getElem?_eq_getElem (by rw [← HM.out]; exact hlt2)⟩
      obtain ⟨bk, o, rfl, _, g0⟩ := HC.out wr hbel k x hx
      obtain ⟨bk', o', rfl, _, g1⟩ := HD.out wr hbel k y hy
      have hcmp := Pl.cmp_at HT.out hx hy
      by_cases h1 : x < y
      · rw [if_pos h1] at hcmp
        have HR := Lib.hid hcmp
        clear hcmp hx hy HT
        go_wp2_with fail
        go_quiet (fail)
        go_wp2
        go_ret
        exact ⟨ret_int HR.out.symm, below_drewN hbel nq⟩
      · rw [if_neg h1] at hcmp
        by_cases h2 : y < x
        · rw [if_pos h2] at hcmp
          have HR := Lib.hid hcmp
          clear hcmp hx hy HT
          go_wp2_with fail
          go_quiet (fail)
          have hb1 := below_drewN hbel nq
          go_wp2_with fail
          go_quiet (fail)
          go_wp2
          go_ret
          exact ⟨ret_int HR.out.symm, below_drewN hb1 nq⟩
        · obtain rfl : x = y := by omega
          have HT2 := Lib.hid (Pl.take_next HT.out hx hy)
          clear hcmp hx hy HT
          go_wp2_with fail
          go_quiet (fail)
          have hb1 := below_drewN hbel nq
          go_wp2_with fail
          go_quiet (fail)
          have hb2 := below_drewN hb1 nq
          go_wp2
          go_roundw
          case rel => exact ⟨k + 1, by go_num, by omega, by omega, HT2, below_drewN hbel _⟩
          case measure => simp [intOf]; omega
    · have he : k = n ∨ k = m := by omega
      have hcmp := Pl.cmp_end HT.out (by rw [← HN.out]; exact hk) (by rw [← HM.out]; exact hk') (by rw [← HN.out, ← HM.out]; exact he)
      rw [← HN.out, ← HM.out] at hcmp
      have hcond : ¬ ((k : Int) < (n : Int)) ∨ ¬ ((k : Int) < (m : Int)) := by omega
      by_cases h1 : n < m
      · rw [if_pos h1] at hcmp
        have HR := Lib.hid hcmp
        have hkn : ¬ ((k : Int) < (n : Int)) := by omega
        clear hcmp HT hcond hlt
        go_wp2
        go_ret
        exact ⟨ret_int HR.out.symm, hbel⟩
      · rw [if_neg h1] at hcmp
        by_cases h2 : m < n
        · rw [if_pos h2] at hcmp
          have HR := Lib.hid hcmp
          have hkm : ¬ ((k : Int) < (m : Int)) := by omega
          clear hcmp HT hcond hlt he
          by_cases h3 : (k : Int) < (n : Int)
          · go_wp2
            go_ret
            exact ⟨ret_int HR.out.symm, hbel⟩
          · exfalso; omega
        · rw [if_neg h2] at hcmp
          have HR := Lib.hid hcmp
          have hkn : ¬ ((k : Int) < (n : Int)) := by omega
          clear hcmp HT hcond hlt
          go_wp2
          go_ret
          exact ⟨ret_int HR.out.symm, hbel⟩
set_option maxHeartbeats 2000000 in
theorem l1Same_any (v u : Value) (xs ys : List Int) (w : World) (h : IntsAt w v xs) (h' : IntsAt w u ys) (hn : xs.length ≤ 2097152) (hm : ys.length ≤ 2097152) :
    Calls Tryz.prog 56 #[v, u] w fun e w' => e = .returned (.bool (decide (xs = ys))) ∧ Below w.heap.size w w' := by
  obtain ⟨a, cap, rfl, hcap, hC⟩ := h.cells
  obtain ⟨b, cap', rfl, hcap', hD⟩ := h'.cells
  obtain ⟨n, hnn⟩ : ∃ n, n = xs.length := ⟨_, rfl⟩
  obtain ⟨m, hmm⟩ : ∃ m, m = ys.length := ⟨_, rfl⟩
  rw [← hnn] at hn hcap ⊢
  rw [← hmm] at hm hcap' ⊢
  have HN := Lib.hid hnn
  have HM := Lib.hid hmm
  have HC := Lib.hid hC
  have HD := Lib.hid hD
  clear h h' hnn hmm hC hD
  by_cases hnm : n = m
  · have hnb : ((n : Int) != (m : Int)) = false := by rw [bne_eq_false_iff_eq]; omega
    go_enter Tryz.func56, Tryz.ntmps56
    go_wp2_with fail
    go_loopw [5] (fun i wr => ∃ k : Nat, i = .int .i64 k ∧ k ≤ n ∧ Hid (xs.take k = ys.take k) ∧ Below w.heap.size w wr) (fun i _ => n - (intOf i).toNat)
    case atStart => exact ⟨0, rfl, Nat.zero_le _, Lib.hid rfl, Below.refl _ _⟩
    case round =>
      obtain ⟨k, rfl, hk, HT, hbel⟩ := hrel
      by_cases hlt : k < n
      · obtain ⟨x, hx⟩ : ∃ x, xs[k]? = some x := ⟨_, List.getElem?_eq_getElem (by rw [← HN.out]; exact hlt)⟩
        obtain ⟨y, hy⟩ : ∃ y, ys[k]? = some y := ⟨_, List.getElem?_eq_getElem (by rw [← HM.out, ← hnm]; exact hlt)⟩
        obtain ⟨bk, o, rfl, _, g0⟩ := HC.out wr hbel k x hx
        obtain ⟨bk', o', rfl, _, g1⟩ := HD.out wr hbel k y hy
        by_cases he : x = y
        · subst he
          have HT2 := Lib.hid (Pl.take_next HT.out hx hy)
          clear hx hy HT
          go_wp2_with fail
          go_quiet (fail)
          go_wp2
          go_roundw
          case rel => exact ⟨k + 1, by go_num, by omega, HT2, below_drewN hbel _⟩
          case measure => simp [intOf]; omega
        · have HF : Hid (decide (xs = ys) = false) := by
            show decide _ = false
            rw [decide_eq_false_iff_not]
            intro e
            rw [e, hy] at hx
            injection hx with hx
            exact he hx.symm
          have hxy : (x != y) = true := by rw [bne_iff_ne]; exact he
          clear hx hy HT he
          go_wp2_with fail
          go_quiet (fail)
          go_wp2
          go_ret
          exact ⟨ret_bool HF.out.symm, below_drewN hbel _⟩
      · obtain rfl : k = n := by omega
        have HF : Hid (decide (xs = ys) = true) := by
          show decide _ = true
          rw [decide_eq_true_iff]
          have h3 := HT.out
          rw [List.take_of_length_le (by rw [← HN.out]; exact Nat.le_refl _), List.take_of_length_le (by rw [← HM.out, ← hnm]; exact Nat.le_refl _)] at h3
          exact h3
        clear HT
        go_wp2
        go_ret
        exact ⟨ret_bool HF.out.symm, hbel⟩
  · have hnb : ((n : Int) != (m : Int)) = true := by rw [bne_iff_ne]; omega
    have HF : Hid (decide (xs = ys) = false) := by
      show decide _ = false
      rw [decide_eq_false_iff_not]
      intro e
      exact hnm (by rw [HN.out, HM.out, e])
    clear hnm
    go_enter Tryz.func56, Tryz.ntmps56
    go_wp2_with fail
    go_ret
    exact ⟨ret_bool HF.out.symm, Below.refl _ _⟩

/-- What CompareOutlines answers. -/
def cmpE (xs ys : List Int) : Ending := .returned (.tuple #[.int .i64 (if okO xs = true ∧ okO ys = true then Pl.cmp xs ys else 0), .bool (okO xs && okO ys)])
theorem cmpE_no {xs ys : List Int} (h : okO xs = false ∨ okO ys = false) : cmpE xs ys = .returned (.tuple #[.int .i64 0, .bool false]) := by
  unfold cmpE
  rcases h with h | h
  · rw [h]; rfl
  · rw [h, Bool.and_false, if_neg (fun q => by cases q.2)]
theorem cmpE_yes {xs ys : List Int} (h : okO xs = true) (h' : okO ys = true) : cmpE xs ys = .returned (.tuple #[.int .i64 (Pl.cmp xs ys), .bool true]) := by
  unfold cmpE; rw [h, h', if_pos ⟨rfl, rfl⟩]; rfl
/-- What HasPrefix answers. -/
def preE (xs ys : List Int) : Ending := .returned (.tuple #[.bool ((okO xs && okO ys) && decide (ys <+: xs)), .bool (okO xs && okO ys)])
theorem preE_no {xs ys : List Int} (h : okO xs = false ∨ okO ys = false) : preE xs ys = .returned (.tuple #[.bool false, .bool false]) := by
  unfold preE
  rcases h with h | h
  · rw [h]; rfl
  · rw [h, Bool.and_false]; rfl
theorem preE_yes {xs ys : List Int} (h : okO xs = true) (h' : okO ys = true) : preE xs ys = .returned (.tuple #[.bool (decide (ys <+: xs)), .bool true]) := by
  unfold preE; rw [h, h']; rfl
theorem pre_take {xs ys : List Int} (_h : ys.length ≤ xs.length) : decide (xs.take ys.length = ys) = decide (ys <+: xs) := by
  rw [Bool.eq_iff_iff, decide_eq_true_eq, decide_eq_true_eq, List.prefix_iff_eq_take]
  exact ⟨fun e => e.symm, fun e => e.symm⟩
theorem pre_long {xs ys : List Int} (h : ¬ ys.length ≤ xs.length) : decide (ys <+: xs) = false := by
  rw [decide_eq_false_iff_not]; exact fun q => h q.length_le
theorem IntsAt.take {w : World} {a : Option Addr} {cap : Nat} {xs : List Int} (h : IntsAt w (.slice a xs.length cap) xs) (k : Nat) (hk : k ≤ xs.length) : IntsAt w (.slice a k cap) (xs.take k) := by
  obtain ⟨a', cap', hv, hc, h⟩ := h
  injection hv with h1 h2 h3
  subst h1 h3
  have hl : (xs.take k).length = k := by rw [List.length_take]; omega
  refine ⟨a, cap, by rw [hl], by rw [hl]; omega, ?_⟩
  rcases h with h | ⟨bk, o, ha, hb, h⟩
  · exact .inl (by rw [h]; exact List.take_nil)
  · exact .inr ⟨bk, o, ha, hb, fun j x hx => h j x (by rw [List.getElem?_take] at hx; split at hx; exact hx; cases hx)⟩

/-! ### ConcatOutlines -/
/-- Ints in memory whose slice is nil or has an address. -/
def IntsM (w : World) (v : Value) (xs : List Int) : Prop :=
  (v = .slice none 0 0 ∧ xs = []) ∨ ∃ bk o cap, v = .slice (some ⟨bk, o, none⟩) xs.length cap ∧ xs.length ≤ cap ∧ bk < w.heap.size ∧ ∀ (j : Nat) x, xs[j]? = some x → w.cell? ⟨bk, o + j, none⟩ = some (.int .i64 x)
theorem IntsM.at {w : World} {v : Value} {xs : List Int} (h : IntsM w v xs) : IntsAt w v xs := by
  rcases h with ⟨rfl, rfl⟩ | ⟨bk, o, cap, hv, hc, hb, h⟩
  · exact IntsAt.nil _ _ _
  · exact ⟨_, cap, hv, hc, .inr ⟨bk, o, rfl, hb, h⟩⟩
theorem IntsM.below {w w' : World} {v : Value} {xs : List Int} (h : IntsM w v xs) (hb : Below w.heap.size w w') : IntsM w' v xs := by
  rcases h with h | ⟨bk, o, cap, hv, hc, hk, h⟩
  · exact .inl h
  · exact .inr ⟨bk, o, cap, hv, hc, Nat.lt_of_lt_of_le hk hb.size, fun j x hx => (hb.cell (p := ⟨bk, o + j, none⟩) hk).trans (h j x hx)⟩
theorem row_M {w : World} {base : Nat} {v : Value} {xs : List Int} (h : w.ownsRow base 3 1 v xs.length (xs.map (.int .i64))) : IntsM w v xs := by
  rcases h.2 with ⟨h1, h2⟩ | ⟨g, cap, cur, h1, _, hg, hn, _⟩
  · exact .inl ⟨h1, List.length_eq_zero_iff.1 h2⟩
  · obtain ⟨a, c, hv, _, h⟩ := rowInts_at h
    rcases h with h | ⟨bk, o, ha, hk, h⟩
    · exact .inr ⟨g, 0, cap, h1, hn, (Array.getElem?_eq_some_iff.1 hg).1, fun j x hx => by rw [h] at hx; simp at hx⟩
    · rw [h1, ha] at hv
      injection hv with q1 q2 q3
      injection q1 with q1
      injection q1 with q1 q4 q5
      subst q1 q4
      exact .inr ⟨g, 0, cap, h1, hn, hk, h⟩
theorem IntsM.take {w : World} {a : Option Addr} {cap : Nat} {xs : List Int} (h : IntsM w (.slice a xs.length cap) xs) (k : Nat) (hk : k ≤ xs.length) : IntsM w (.slice a k cap) (xs.take k) := by
  rcases h with ⟨h1, rfl⟩ | ⟨bk, o, c, hv, hc, hb, h⟩
  · injection h1 with q1 q2 q3
    subst q1 q3
    have : k = 0 := by simpa using hk
    subst this
    exact .inl ⟨rfl, rfl⟩
  · injection hv with q1 q2 q3
    subst q1 q3
    have hl : (xs.take k).length = k := by rw [List.length_take]; omega
    exact .inr ⟨bk, o, cap, by rw [hl], by rw [hl]; omega, hb, fun j x hx => h j x (by rw [List.getElem?_take] at hx; split at hx; exact hx; cases hx)⟩
/-- Ints appended to an own row: 'append(l, m...)'. -/
theorem append_ints {ops : Array Oper} {rest : List Oper} {o : Oper} {a : Act} {w : World} {Q : Exit → Act → World → Prop} {i0 : TypeInfo} (hi : Tryz.prog.info? 3 = some i0) (hz0 : i0.zero = some (.int .i64 0)) (hz1 : i0.size = 1) (hz2 : i0.bytes = 8)
    (hgd : o.guard = none) (p q : Operand) (ho : o.op = .call { callee := .builtin .append, args := #[p, q], argTypes := #[27, 27] }) (base : Nat) (v : Value) (xs : List Int) (hs : a.eval p = v) (hown : w.ownsRow base 3 1 v xs.length (xs.map (.int .i64)))
    (u : Value) (ys : List Int) (hq : a.eval q = u) (hu : IntsM w u ys) (hb : base ≤ w.heap.size) (h1 : xs.length ≤ 4194304) (h2 : ys.length ≤ 4194304)
    (h : ∀ v' w', w'.ownsRow base 3 1 v' (xs ++ ys).length ((xs ++ ys).map (.int .i64)) → w.grownBy w' v.ownBlock → wpList Tryz.prog ops Q rest (a.put o.dst v') w') : wpList Tryz.prog ops Q (o :: rest) a w := by
  rcases hu with ⟨rfl, rfl⟩ | ⟨bk, off, cap, rfl, hc, hk, hcell⟩
  · refine wpList_append_own_none hgd p q 27 ho base 3 i0 1 Tryz.underlying27 hi v xs.length _ hs hown hq (h v w ?_ ⟨rfl, rfl, rfl, Nat.le_refl _, fun _ _ _ => rfl⟩)
    rw [List.append_nil]; exact hown
  · refine wpList_append_own _ hgd p q 27 ho base 3 i0 (.int .i64 0) 1 8 Tryz.underlying27 hi hz0 hz1 hz2 rfl (by decide) v xs.length _ hs hown ⟨bk, off, none⟩ ys.length cap (ys.map (.int .i64)) hq (by rw [List.length_map, Nat.mul_one]) ?_ ?_ (by unfold maxLen; omega) (by omega) hb ?_
    · intro j x hx
      rw [List.getElem?_map] at hx
      obtain ⟨z, hz, rfl⟩ := Option.map_eq_some_iff.1 hx
      rw [Addr.add_lit]; exact hcell j z hz
    · intro x hx
      obtain ⟨z, _, rfl⟩ := List.mem_map.1 hx
      rfl
    · intro v' w' hown' hg _
      refine h v' w' ?_ hg
      rw [List.length_append, List.map_append]; exact hown'
/-- One int appended to an own row: 'append(l, x)'. -/
theorem push_int {ops : Array Oper} {rest : List Oper} {o : Oper} {a : Act} {w : World} {Q : Exit → Act → World → Prop} {i0 : TypeInfo} (hi : Tryz.prog.info? 3 = some i0) (hz0 : i0.zero = some (.int .i64 0)) (hz1 : i0.size = 1) (hz2 : i0.bytes = 8)
    (hgd : o.guard = none) (p q : Operand) (ho : o.op = .call { callee := .builtin .append, args := #[p, q], argTypes := #[27, 27] }) (base : Nat) (v : Value) (xs : List Int) (hs : a.eval p = v) (hown : w.ownsRow base 3 1 v xs.length (xs.map (.int .i64)))
    (x : Int) (hq : a.eval q = .slice (some ⟨w.heap.size, 0, none⟩) 1 1) (hb : base ≤ w.heap.size) (h1 : xs.length ≤ 4194304)
    (h : ∀ v' w', w'.ownsRow base 3 1 v' (xs ++ [x]).length ((xs ++ [x]).map (.int .i64)) → w.grownBy w' v.ownBlock → (v'.ownBlock = v.ownBlock ∨ v'.ownBlock = some (w.heap.size + 1)) → wpList Tryz.prog ops Q rest (a.put o.dst v') w') : wpList Tryz.prog ops Q (o :: rest) a (w.alloc (.cells #[.int .i64 x] 3)) := by
  refine wpList_append_own_at _ hgd p q 27 ho base 3 i0 (.int .i64 0) 1 8 Tryz.underlying27 hi hz0 hz1 hz2 rfl (by decide) v xs.length _ hs (hown.alloc _) ⟨w.heap.size, 0, none⟩ 1 1 [.int .i64 x] hq rfl ?_ ?_ (by unfold maxLen; omega) (by omega) (by simp; omega) ?_
  · exact cell_one_new _ _ _
  · intro y hy; simp at hy; subst hy; rfl
  · intro v' w' hown' hg _ hat
    refine h v' w' ?_ ⟨hg.os, hg.tape, hg.output, Nat.le_trans (by simp) hg.size, fun k hk hne => (hg.block k (by rw [World.size_alloc]; omega) hne).trans (Below.heap_alloc w _ k hk)⟩ ?_
    · rw [List.length_append, List.map_append]; exact hown'
    · rcases hat with h2 | h2
      · exact .inl h2
      · exact .inr (by rw [h2, World.size_alloc])
theorem l1Own_any (v : Value) (xs : List Int) (w : World) (h : IntsM w v xs) (hn : xs.length ≤ 2097152) :
    Calls Tryz.prog 64 #[v] w fun e w' => (∃ u, e = .returned u ∧ w'.ownsRow w.heap.size 3 1 u xs.length (xs.map (.int .i64))) ∧ Below w.heap.size w w' := by
  obtain ⟨i0, hi, hz0, hz1, hz2⟩ := info_parts infoInt
  have hal : Below w.heap.size w (w.alloc (.cells #[] 3)) := (Below.refl _ _).alloc (Nat.le_refl _) _
  have HM := Lib.hid (h.below hal)
  have HO := Lib.hid (row_new w 3)
  clear h
  go_enter Tryz.func64, Tryz.ntmps64
  go_wp2_with (at_builtin; refine append_ints hi hz0 hz1 hz2 rfl _ _ rfl w.heap.size _ [] rfl HO.out _ xs rfl HM.out (by simp) (by simp) (by omega) ?_)
  intro v' w' hown hg
  have HF := Lib.hid hown
  have HB := Lib.hid (hal.grown hg (by simp) (fun j hj => row_ge HO.out hj))
  clear hown hg hal
  go_wp2
  go_ret
  exact ⟨⟨_, rfl, HF.out⟩, HB.out⟩
/-- What ConcatOutlines answers. -/
def catB (xs ys : List Int) : Bool := (okO xs && okO ys) && okO (xs ++ ys)
def catI (xs ys : List Int) : List Int := if catB xs ys = true then xs ++ ys else []
theorem cat_no {xs ys : List Int} (h : catB xs ys = false) : catI xs ys = [] := by unfold catI; rw [h]; rfl
theorem cat_yes {xs ys : List Int} (h : catB xs ys = true) : catI xs ys = xs ++ ys := by unfold catI; rw [h]; rfl
theorem catE_no {xs ys : List Int} (h : catB xs ys = false) (w : World) (a : Option Addr) (cap : Nat) : OutE w (catI xs ys) (catB xs ys) (.returned (.tuple #[.slice a 0 cap, .bool false])) := by
  rw [cat_no h, h]; exact ⟨_, rfl, IntsAt.nil _ _ _⟩
end Go.Proofs.YtnpiphkglhcifaaGreat
