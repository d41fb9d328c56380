/-
  CONTRACTS of chapter 4 of the specification: outlines.
-/
import Derived.Test.YtkhklidpighmpaaPlainOut
import Derived.Test.YtkhklidpighmpaaLoose
import Derived.Test.YtkhklidpighmpaaSplit
import Derived.Test.YtkhklidpighmpaaMarkI
import Derived.Maps.AppendAt
import Derived.Laws.AppendOwnNone
namespace Go.Proofs.Ytkhklidpighmpaa
set_option maxRecDepth 100000
open Go.RowKit

/-- Is the list an outline? -/
def okO (xs : List Int) : Bool := (decide (1 ≤ xs.length) && decide (xs.length ≤ 6)) && xs.all okS
def outN (xs : List Int) : List Nat := xs.map Int.toNat
def outI (l : List Nat) : List Int := l.map Int.ofNat
theorem outI_len (l : List Nat) : (outI l).length = l.length := by unfold outI; rw [List.length_map]
theorem outN_len (xs : List Int) : (outN xs).length = xs.length := by unfold outN; rw [List.length_map]
theorem okO_parts {xs : List Int} (h : okO xs = true) : 1 ≤ xs.length ∧ xs.length ≤ 6 ∧ ∀ x ∈ xs, okS x = true := by
  unfold okO at h
  simp only [Bool.and_eq_true, decide_eq_true_eq] at h
  exact ⟨h.1.1, h.1.2, List.all_eq_true.1 h.2⟩
theorem okO_no_len {xs : List Int} (h : ¬ (1 ≤ xs.length ∧ xs.length ≤ 6)) : okO xs = false := by
  unfold okO
  rw [show (decide (1 ≤ xs.length) && decide (xs.length ≤ 6)) = false by simp; omega]; rfl
theorem okO_no_at {xs : List Int} {k : Nat} {x : Int} (h : xs[k]? = some x) (hx : okS x = false) : okO xs = false := by
  have : xs.all okS = false := by rw [List.all_eq_false]; exact ⟨x, List.mem_of_getElem? h, by rw [hx]; decide⟩
  unfold okO; rw [this, Bool.and_false]
theorem okO_yes {xs : List Int} (h1 : 1 ≤ xs.length) (h2 : xs.length ≤ 6) (h3 : xs.all okS = true) : okO xs = true := by
  unfold okO; rw [h3]; simp; exact ⟨h1, h2⟩
theorem all_next {xs : List Int} {k : Nat} {x : Int} (h : xs[k]? = some x) (ha : (xs.take k).all okS = true) (hx : okS x = true) : (xs.take (k + 1)).all okS = true := by
  rw [List.take_add_one, h, List.all_append, ha, Bool.true_and]; simp [hx]
/-- The cells of a slice of ints, in every later world. -/
def IntCells (w : World) (a : Option Addr) (xs : List Int) : Prop :=
  ∀ w1 : World, Below w.heap.size w w1 → ∀ (j : Nat) x, xs[j]? = some x → ∃ bk o, a = some ⟨bk, o, none⟩ ∧ bk < w.heap.size ∧ w1.cell? ⟨bk, o + j, none⟩ = some (.int .i64 x)
theorem IntsAt.cells {w : World} {v : Value} {xs : List Int} (h : IntsAt w v xs) : ∃ a cap, v = .slice a xs.length cap ∧ xs.length ≤ cap ∧ IntCells w a xs := by
  obtain ⟨a, cap, rfl, hc, h⟩ := h
  refine ⟨a, cap, rfl, hc, fun w1 hb j x hx => ?_⟩
  rcases h with rfl | ⟨bk, o, ha, hk, h⟩
  · simp at hx
  · exact ⟨bk, o, ha, hk, (hb.cell (p := ⟨bk, o + j, none⟩) hk).trans (h j x hx)⟩

set_option maxHeartbeats 1000000 in
theorem l4Good_any (v : Value) (xs : List Int) (w : World) (h : IntsAt w v xs) (hn : xs.length ≤ 2097152) :
    Calls Try.prog 44 #[v] w fun e w' => e = .returned (.bool (okO xs)) ∧ w = w' := by
  obtain ⟨a, cap, rfl, hcap, hC⟩ := h.cells
  obtain ⟨n, hnn⟩ : ∃ n, n = xs.length := ⟨_, rfl⟩
  rw [← hnn] at hn hcap ⊢
  have HN := Lib.hid hnn
  have HC := Lib.hid hC
  have CG := Lib.hid (fun s w => l2Good_any s w)
  clear h hnn hC
  by_cases hlen : 1 ≤ n ∧ n ≤ 6
  · have c := fun w => l1In_any (n : Int) 1 6 w
    rw [show (decide (1 ≤ (n : Int)) && decide ((n : Int) ≤ 6)) = true by simp; omega] at c
    have C := Lib.hid c
    clear c
    go_enter Try.func44, Try.ntmps44
    go_wp2_with fail
    refine (C.out _).mono ?_
    rintro e w1 ⟨rfl, rfl⟩
    go_wp2_with fail
    go_loopw [3] (fun i wr => ∃ k : Nat, i = .int .i64 k ∧ k ≤ n ∧ Hid ((xs.take k).all okS = true) ∧ wr = w) (fun i _ => n - (intOf i).toNat)
    case atStart => exact ⟨0, rfl, Nat.zero_le _, Lib.hid rfl, rfl⟩
    case round =>
      obtain ⟨k, rfl, hk, HL, rfl⟩ := hrel
      by_cases hlt : k < n
      · obtain ⟨x, hx⟩ : ∃ x, xs[k]? = some x := ⟨_, List.getElem?_eq_getElem (by rw [← HN.out]; exact hlt)⟩
        obtain ⟨bk, o, rfl, _, g0⟩ := HC.out wr (Below.refl _ _) k x hx
        cases hok : okS x
        · have HF := Lib.hid (okO_no_at hx hok)
          have c := fun w => CG.out x w
          rw [hok] at c
          have C1 := Lib.hid c
          clear c hx hok HL
          go_wp2_with fail
          refine (C1.out _).mono ?_
          rintro e w1 ⟨rfl, rfl⟩
          go_wp2
          go_ret
          exact ⟨ret_bool HF.out.symm, rfl⟩
        · have HL2 := Lib.hid (all_next hx HL.out hok)
          have c := fun w => CG.out x w
          rw [hok] at c
          have C1 := Lib.hid c
          clear c hx hok HL
          go_wp2_with fail
          refine (C1.out _).mono ?_
          rintro e w1 ⟨rfl, rfl⟩
          go_wp2
          go_roundw
          case rel => exact ⟨k + 1, by go_num, by omega, HL2, by trivial⟩
          case measure => simp [intOf]; omega
      · obtain rfl : k = n := by omega
        have HF : Hid (okO xs = true) := by
          have h3 := HL.out
          rw [List.take_of_length_le (by rw [← HN.out]; exact Nat.le_refl _)] at h3
          exact okO_yes (by rw [← HN.out]; exact hlen.1) (by rw [← HN.out]; exact hlen.2) h3
        clear HL
        go_wp2
        go_ret
        exact ⟨ret_bool HF.out.symm, rfl⟩
  · have c := fun w => l1In_any (n : Int) 1 6 w
    rw [show (decide (1 ≤ (n : Int)) && decide ((n : Int) ≤ 6)) = false by simp; omega] at c
    have C := Lib.hid c
    have HF : Hid (okO xs = false) := okO_no_len (by rw [← HN.out]; exact hlen)
    clear c hlen
    go_enter Try.func44, Try.ntmps44
    go_wp2_with fail
    refine (C.out _).mono ?_
    rintro e w1 ⟨rfl, rfl⟩
    go_wp2
    go_ret
    exact ⟨ret_bool HF.out.symm, rfl⟩
theorem specIsValidOutline_any (v : Value) (xs : List Int) (w : World) (h : IntsAt w v xs) (hn : xs.length ≤ 2097152) :
    Calls Try.prog 28 #[v] w fun e w' => e = .returned (.bool (okO xs)) ∧ w = w' := by
  have C := Lib.hid (l4Good_any v xs w h hn)
  obtain ⟨a, cap, rfl, hcap, _⟩ := h.cells
  clear h
  go_enter Try.func28, Try.ntmps28
  go_wp2_with fail
  refine C.out.mono ?_
  rintro e w1 ⟨rfl, rfl⟩
  go_wp2
  go_ret
  exact ⟨rfl, rfl⟩

/-- The notation of an outline as a text. -/
def fmtT (xs : List Int) : ByteArray := ⟨(Pl.fmt (outN xs)).toArray⟩
theorem fmtT_size (xs : List Int) : (fmtT xs).size ≤ 25 * xs.length := by
  unfold fmtT; rw [str_len]; have := Pl.fmt_len (outN xs); rw [outN_len] at this; exact this
theorem fmtT_nil : fmtT [] = ⟨#[]⟩ := rfl
theorem outN_take (xs : List Int) (k : Nat) (n : Nat) (h : xs[k]? = some (n : Int)) : outN (xs.take (k + 1)) = outN (xs.take k) ++ [n] := by
  unfold outN; rw [List.take_add_one, h, List.map_append]; simp
theorem fmtT_first (xs : List Int) (n : Nat) (h : xs[0]? = some (n : Int)) : (⟨#[]⟩ : ByteArray) ++ notaB n = fmtT (xs.take (0 + 1)) := by
  unfold fmtT
  rw [outN_take xs 0 n h, List.take_zero]
  show _ = (⟨(Pl.fmt ([] ++ [n])).toArray⟩ : ByteArray)
  rw [List.nil_append, Pl.fmt_one]
  apply ByteArray.ext
  rw [ByteArray.data_append]
  unfold notaB
  simp
theorem fmtT_next (xs : List Int) (k n : Nat) (h0 : 0 < k) (h : xs[k]? = some (n : Int)) : (fmtT (xs.take k) ++ (⟨#[47]⟩ : ByteArray)) ++ notaB n = fmtT (xs.take (k + 1)) := by
  have hk := (List.getElem?_eq_some_iff.1 h).1
  unfold fmtT
  have hl : (outN (xs.take k)).length = k := by rw [outN_len, List.length_take]; omega
  rw [outN_take xs k n h, Pl.fmt_snoc _ _ (by intro e; rw [e] at hl; simp at hl; omega)]
  apply ByteArray.ext
  rw [ByteArray.data_append, ByteArray.data_append]
  unfold notaB
  apply Array.toList_inj.1
  simp

set_option maxHeartbeats 2000000 in
theorem l4Format_any (v : Value) (xs : List Int) (w : World) (h : IntsAt w v xs) (hn : xs.length ≤ 1000) (hv : ∀ x ∈ xs, 0 ≤ x ∧ x < 8388608) :
    Calls Try.prog 34 #[v] w fun e w' => e = .returned (.string (fmtT xs)) ∧ Below w.heap.size w w' := by
  obtain ⟨a, cap, rfl, hcap, hC⟩ := h.cells
  obtain ⟨n, hnn⟩ : ∃ n, n = xs.length := ⟨_, rfl⟩
  rw [← hnn] at hn hcap ⊢
  have HN := Lib.hid hnn
  have HC := Lib.hid hC
  have HV := Lib.hid hv
  have CF := Lib.hid (fun m hm w => l2Format_any m hm w)
  have hs1 : (⟨#[47]⟩ : ByteArray).size = 1 := rfl
  clear h hnn hC hv
  go_enter Try.func34, Try.ntmps34
  go_wp2_with fail
  go_loopw [3, 4] (fun s i wr => ∃ (k : Nat) (t : ByteArray), i = .int .i64 k ∧ k ≤ n ∧ s = .string t ∧ Hid (t = fmtT (xs.take k)) ∧ t.size ≤ 25 * k ∧ Below w.heap.size w wr) (fun _ i _ => n - (intOf i).toNat)
  case atStart => exact ⟨0, ⟨#[]⟩, rfl, Nat.zero_le _, rfl, Lib.hid rfl, Nat.le_refl _, Below.refl _ _⟩
  case round =>
    obtain ⟨k, t, rfl, hk, rfl, HT, hts, hbel⟩ := hrel
    by_cases hlt : k < n
    · obtain ⟨x, hx⟩ : ∃ x, xs[k]? = some x := ⟨_, List.getElem?_eq_getElem (by rw [← HN.out]; exact hlt)⟩
      obtain ⟨bk, o, rfl, _, g0⟩ := HC.out wr hbel k x hx
      have hxv := HV.out x (List.mem_of_getElem? hx)
      obtain ⟨m, rfl⟩ := Int.eq_ofNat_of_zero_le hxv.1
      have CF1 := Lib.hid (fun w => CF.out m (by omega) w)
      have hml := notaB_len m
      obtain ⟨u, hu⟩ : ∃ u, u = notaB m := ⟨_, rfl⟩
      rw [← hu] at hml CF1
      rcases Nat.eq_zero_or_pos k with h0 | h0
      · subst h0
        simp only [Nat.add_zero] at g0
        have ht0 : t = ⟨#[]⟩ := by rw [HT.out]; rfl
        have HF : Hid ((⟨#[]⟩ : ByteArray) ++ u = fmtT (xs.take (0 + 1))) := by rw [hu]; exact fmtT_first xs m hx
        have hsz : ((⟨#[]⟩ : ByteArray) ++ u).size = u.size := by rw [ByteArray.size_append]; exact Nat.zero_add _
        subst ht0
        have hs0 : (⟨#[]⟩ : ByteArray).size = 0 := rfl
        clear hx hu HT hxv
        go_wp2_with fail
        refine (CF1.out _).mono ?_
        rintro e w1 ⟨rfl, hb1⟩
        have HB1 := Lib.hid (hbel.trans (hb1.mono hbel.size))
        clear hb1
        go_wp2
        go_roundw
        case rel => exact ⟨0 + 1, _, by go_num, by omega, rfl, HF, by omega, HB1.out⟩
        case measure => simp [intOf]; omega
      · have HF : Hid (t ++ ⟨#[47]⟩ ++ u = fmtT (xs.take (k + 1))) := by rw [hu, HT.out]; exact fmtT_next xs k m h0 hx
        have hsz : (t ++ (⟨#[47]⟩ : ByteArray)).size = t.size + 1 := by rw [ByteArray.size_append]; rfl
        have hsz2 : (t ++ (⟨#[47]⟩ : ByteArray) ++ u).size = t.size + 1 + u.size := by rw [ByteArray.size_append, hsz]
        have h0' : (0 : Int) < (k : Int) := by omega
        clear hx hu HT hxv
        go_wp2_with fail
        refine (CF1.out _).mono ?_
        rintro e w1 ⟨rfl, hb1⟩
        have HB1 := Lib.hid (hbel.trans (hb1.mono hbel.size))
        clear hb1
        go_wp2
        go_roundw
        case rel => exact ⟨k + 1, _, by go_num, by omega, rfl, HF, by omega, HB1.out⟩
        case measure => simp [intOf]; omega
    · obtain rfl : k = n := by omega
      have HF : Hid (t = fmtT xs) := by show t = _; rw [HT.out, List.take_of_length_le (by rw [← HN.out]; exact Nat.le_refl _)]
      clear HT
      go_wp2
      go_ret
      exact ⟨ret_str HF.out, hbel⟩
/-- What FormatOutline answers. -/
def fmtE (xs : List Int) : Ending := .returned (.tuple #[.string (if okO xs = true then fmtT xs else ⟨#[]⟩), .bool (okO xs)])
theorem fmtE_yes {xs : List Int} (h : okO xs = true) : fmtE xs = .returned (.tuple #[.string (fmtT xs), .bool true]) := by unfold fmtE; rw [h]; rfl
theorem fmtE_no {xs : List Int} (h : okO xs = false) : fmtE xs = .returned (.tuple #[.string ⟨#[]⟩, .bool false]) := by unfold fmtE; rw [h]; rfl
theorem specFormatOutline_any (v : Value) (xs : List Int) (w : World) (h : IntsAt w v xs) (hn : xs.length ≤ 2097152) :
    Calls Try.prog 31 #[v] w fun e w' => e = fmtE xs ∧ Below w.heap.size w w' := by
  have c := l4Good_any v xs w h hn
  cases hg : okO xs
  · rw [hg] at c
    rw [fmtE_no hg]
    have C := Lib.hid c
    obtain ⟨a, cap, rfl, hcap, _⟩ := h.cells
    clear c h hg
    go_enter Try.func31, Try.ntmps31
    go_wp2_with fail
    refine C.out.mono ?_
    rintro e w1 ⟨rfl, rfl⟩
    go_wp2
    go_ret2
    exact ⟨rfl, Below.refl _ _⟩
  · obtain ⟨_, h2, h3⟩ := okO_parts hg
    have d := l4Format_any v xs w h (by omega) (fun x hx => by have := okS_iff.1 (h3 x hx); omega)
    rw [hg] at c
    rw [fmtE_yes hg]
    obtain ⟨T, hT⟩ : ∃ T, T = fmtT xs := ⟨_, rfl⟩
    rw [← hT] at d ⊢
    have C := Lib.hid c
    have D := Lib.hid d
    obtain ⟨a, cap, rfl, hcap, _⟩ := h.cells
    clear c d h hg h3 hT
    go_enter Try.func31, Try.ntmps31
    go_wp2_with fail
    refine C.out.mono ?_
    rintro e w1 ⟨rfl, rfl⟩
    go_wp2_with fail
    refine D.out.mono ?_
    rintro e w2 ⟨rfl, hb⟩
    go_wp2
    go_ret2
    exact ⟨rfl, hb⟩

/-! ### ParseOutline -/
/-- An answer of ints and a flag. -/
def OutE (w' : World) (xs : List Int) (b : Bool) (e : Ending) : Prop := ∃ u, e = .returned (.tuple #[u, .bool b]) ∧ IntsAt w' u xs
/-- What ParseOutline answers. -/
def parI (t : ByteArray) : List Int := outI (Pl.parse t.data.toList)
def parB (t : ByteArray) : Bool := !(Pl.parse t.data.toList).isEmpty
theorem par_no {t : ByteArray} (h : Pl.parse t.data.toList = []) : parI t = [] ∧ parB t = false := by unfold parI parB; rw [h]; exact ⟨rfl, rfl⟩
theorem outE_no {t : ByteArray} (h : parI t = [] ∧ parB t = false) (w : World) (a : Option Addr) (cap : Nat) : OutE w (parI t) (parB t) (.returned (.tuple #[.slice a 0 cap, .bool false])) := by
  rw [h.1, h.2]; exact ⟨_, rfl, IntsAt.nil _ _ _⟩
theorem par_yes {t : ByteArray} (h1 : (Pl.reading t.data.toList).length ≤ 6) (h2 : ∀ n ∈ Pl.reading t.data.toList, n ≠ 0) : parI t = outI (Pl.reading t.data.toList) ∧ parB t = true := by
  obtain ⟨h3, h4⟩ := Pl.parse_yes h1 h2
  unfold parI parB
  rw [h3] at h4 ⊢
  refine ⟨rfl, ?_⟩
  cases hr : Pl.reading t.data.toList with
  | nil => exact absurd hr h4
  | cons x l => rfl
theorem reading_at {t s : ByteArray} {k : Nat} (h : (Pl.splitB t 47)[k]? = some s) : (Pl.reading t.data.toList)[k]? = some (Pl.strict s.data.toList) := by
  unfold Pl.splitB Pl.ofLists at h
  rw [List.getElem?_map] at h
  obtain ⟨p, hp, rfl⟩ := Option.map_eq_some_iff.1 h
  unfold Pl.reading
  rw [List.getElem?_map, hp]
  simp
theorem reading_len (t : ByteArray) : (Pl.reading t.data.toList).length = (Pl.splitB t 47).length := by
  unfold Pl.reading Pl.splitB Pl.ofLists; rw [List.length_map, List.length_map]
theorem outI_next {l : List Nat} {k n : Nat} (h : l[k]? = some n) : outI (l.take (k + 1)) = outI (l.take k) ++ [(n : Int)] := by
  unfold outI; rw [List.take_add_one, h, List.map_append]; rfl
theorem okO_outI {l : List Nat} (h1 : l ≠ []) (h2 : l.length ≤ 6) (h3 : ∀ n ∈ l, n ≠ 0 ∧ n < 8388608) : okO (outI l) = true := by
  refine okO_yes ?_ (by rw [outI_len]; exact h2) ?_
  · rw [outI_len]
    cases l with
    | nil => exact absurd rfl h1
    | cons x r => simp
  · rw [List.all_eq_true]
    intro x hx
    unfold outI at hx
    obtain ⟨n, hn, rfl⟩ := List.mem_map.1 hx
    obtain ⟨q1, q2⟩ := h3 n hn
    rw [okS_iff]
    show 1 ≤ (n : Int) ∧ (n : Int) < 8388608
    omega

/-- .. of ints of its own. -/
def OutQ (base : Nat) (w' : World) (xs : List Int) (b : Bool) (e : Ending) : Prop := ∃ u, e = .returned (.tuple #[u, .bool b]) ∧ OwnInts w' base u xs.length (fun j => xs.getD j 0)
theorem outQ_no {t : ByteArray} (h : parI t = [] ∧ parB t = false) (base : Nat) (w : World) (a : Option Addr) (cap : Nat) : OutQ base w (parI t) (parB t) (.returned (.tuple #[.slice a 0 cap, .bool false])) := by
  rw [h.1, h.2]; exact ⟨_, rfl, .inl ⟨rfl, _, _, rfl⟩⟩
set_option maxHeartbeats 2000000 in
theorem specParseOutlineQ_any (t : ByteArray) (w : World) (ht : t.size ≤ 1048576) :
    Calls Try.prog 14 #[.string t] w fun e w' => OutQ w.heap.size w' (parI t) (parB t) e ∧ Below w.heap.size w w' := by
  obtain ⟨i0, hi, hz0, hz1, hz2⟩ := info_parts infoInt
  have CS := Lib.hid (fun w => l1Split_any t 47 47 rfl w (by omega))
  have CP := Lib.hid (fun s w hs => specParseStroke_any s w hs)
  obtain ⟨rd, hrd⟩ : ∃ rd, rd = Pl.reading t.data.toList := ⟨_, rfl⟩
  have hne : rd ≠ [] := by rw [hrd]; exact Pl.reading_ne _
  have hlt8 : ∀ n ∈ rd, n < 8388608 := by
    intro n hn
    rw [hrd] at hn
    unfold Pl.reading at hn
    obtain ⟨p, _, rfl⟩ := List.mem_map.1 hn
    exact Pl.strict_lt p
  have HNE := Lib.hid hne
  have HL8 := Lib.hid hlt8
  have HRD := Lib.hid hrd
  have hrl := reading_len t
  rw [← hrd] at hrl
  have hsz : ∀ s ∈ Pl.splitB t 47, s.size ≤ t.size := Pl.splitB_size t 47
  have hpl := Pl.splitB_len t 47
  obtain ⟨parts, hparts⟩ : ∃ parts, parts = Pl.splitB t 47 := ⟨_, rfl⟩
  rw [← hparts] at CS hrl hsz hpl
  have HSZ := Lib.hid hsz
  have HAt : Hid (∀ (k : Nat) s, parts[k]? = some s → rd[k]? = some (Pl.strict s.data.toList)) := by intro k s h; rw [hrd]; exact reading_at (by rw [← hparts]; exact h)
  have HRL := Lib.hid hrl
  have CG := Lib.hid (fun v xs w h hn => l4Good_any v xs w h hn)
  clear hne hlt8 hrd hsz hparts hrl
  go_enter Try.func14, Try.ntmps14
  go_wp2_with fail
  refine (CS.out _).mono ?_
  rintro e w1 ⟨u, rfl, hu, hb1⟩
  have hb01 : Below w.heap.size w w1 := ((Below.refl _ _).alloc (Nat.le_refl _) _).trans (hb1.mono (by simp))
  have hrow1 : w1.ownsRow w.heap.size 3 1 (.slice (some ⟨w.heap.size, 0, none⟩) 0 0) 0 [] := row_below (row_new w 3) hb1
  have hpart : w1.ownsRow w.heap.size 9 1 u parts.length (parts.map .string) := by
    refine ⟨hu.1, ?_⟩
    rcases hu.2 with h | ⟨g, c, cur, hv, hg, rest⟩
    · exact .inl h
    · exact .inr ⟨g, c, cur, hv, by rw [World.size_alloc] at hg; omega, rest⟩
  have hap : u.ownBlock ≠ some w.heap.size := by
    intro e
    have := own_ge hu e
    rw [World.size_alloc] at this; omega
  obtain ⟨pa, pc, rfl, hpc⟩ : ∃ pa pc, u = .slice pa parts.length pc ∧ parts.length ≤ pc := by
    obtain ⟨a, c, hv, hc, _⟩ := ownsRow_at hu
    exact ⟨a, c, hv, hc⟩
  obtain ⟨n, hnn⟩ : ∃ n, n = parts.length := ⟨_, rfl⟩
  have HR1 := Lib.hid hrow1
  have HP1 := Lib.hid hpart
  have HA1 := Lib.hid hap
  rw [← hnn] at HP1 HA1 hpc HRL hpl ⊢
  have HN := Lib.hid hnn
  clear hu hb1 hrow1 hpart hap hnn
  go_wp2_with fail
  go_loopw [4, 6] (fun o i wr => ∃ k : Nat, i = .int .i64 k ∧ k ≤ n ∧ k ≤ 7 ∧ Hid (∀ m ∈ rd.take k, m ≠ 0) ∧ Hid (wr.ownsRow w.heap.size 3 1 o (outI (rd.take k)).length ((outI (rd.take k)).map (.int .i64))) ∧
    Hid (wr.ownsRow w.heap.size 9 1 (.slice pa n pc) n (parts.map .string)) ∧ Hid ((Value.slice pa n pc).ownBlock = none ∨ (Value.slice pa n pc).ownBlock ≠ o.ownBlock) ∧ Below w.heap.size w wr) (fun _ i _ => n - (intOf i).toNat)
  case atStart => exact ⟨0, rfl, Nat.zero_le _, by omega, Lib.hid (fun m hm => by simp at hm), HR1, HP1, Lib.hid (.inr HA1.out), hb01⟩
  case round =>
    obtain ⟨k, rfl, hk, hk7, HZ, HO, HP, HX, hbel⟩ := hrel
    have hszr := hbel.size
    by_cases hlt : k < n ∧ k ≤ 6
    · obtain ⟨hlt1, hlt2⟩ := hlt
      have hlt2' : (k : Int) ≤ 6 := by omega
      obtain ⟨s, hs⟩ : ∃ s, parts[k]? = some s := ⟨_, List.getElem?_eq_getElem (by rw [← HN.out]; exact hlt1)⟩
      have hrk := HAt.out k s hs
      have hss := HSZ.out s (List.mem_of_getElem? hs)
      obtain ⟨a', cap', hv', _, hc'⟩ := ownsRow_at (xs := parts) (v := .slice pa n pc) (by rw [← HN.out]; exact HP.out)
      obtain ⟨kb, ko, rfl, hkc⟩ : ∃ kb ko, pa = some ⟨kb, ko, none⟩ ∧ wr.cell? ⟨kb, ko + k, none⟩ = some (.string s) := by
        rcases hc' with h | ⟨kb, ko, ha, _, h⟩
        · rw [h] at hs; simp at hs
        · injection hv' with h1 h2 h3
          exact ⟨kb, ko, by rw [h1, ha], h k _ hs⟩
      have cp := fun w => CP.out s w (by unfold maxLen; omega)
      obtain ⟨m, hm⟩ : ∃ m, Pl.strict s.data.toList = m := ⟨_, rfl⟩
      rw [hm] at hrk
      by_cases h0 : m = 0
      · subst h0
        have HF := Lib.hid (par_no (Pl.parse_no_at (t := t.data.toList) (by rw [← HRD.out]; exact List.mem_of_getElem? hrk) rfl))
        rw [strictE_zero hm] at cp
        have CP1 := Lib.hid cp
        clear hs hv' hc' cp hm hrk
        go_wp2_with fail
        refine (CP1.out _).mono ?_
        rintro e w2 ⟨rfl, hb2⟩
        have HB2 := Lib.hid (hbel.trans (hb2.mono hszr))
        clear hb2
        go_wp2
        go_ret2
        exact ⟨outQ_no HF.out _ _ _ _, HB2.out.alloc HB2.out.size _⟩
      · rw [strictE_pos hm h0] at cp
        have CP1 := Lib.hid cp
        have HNext := Lib.hid (outI_next hrk)
        have HZ2 : Hid (∀ q ∈ rd.take (k + 1), q ≠ 0) := by
          intro q hq
          rw [List.take_add_one, hrk, List.mem_append] at hq
          rcases hq with hq | hq
          · exact HZ.out q hq
          · simp at hq; subst hq; exact h0
        have hol : (outI (rd.take k)).length ≤ 7 := by rw [outI_len, List.length_take]; omega
        clear hs hv' hc' cp hm hrk h0 HZ
        go_wp2_with fail
        refine (CP1.out _).mono ?_
        rintro e w2 ⟨rfl, hb2⟩
        have hbel2 := hbel.trans (hb2.mono hszr)
        have hsz2 := hbel2.size
        have hown := row_below HO.out hb2
        have HP2 := Lib.hid (row_below HP.out hb2)
        clear hb2 HO HP
        go_wp2_with (at_builtin; refine wpList_append_own_at _ rfl _ _ 25 rfl w.heap.size 3 i0 (.int .i64 0) 1 8 Try.underlying25 hi hz0 hz1 hz2 rfl (by decide) _ _ _ rfl (hown.alloc _) ⟨w2.heap.size, 0, none⟩ 1 1 [.int .i64 (m : Int)] rfl rfl ?c1 ?c2 ?c3 ?c4 ?c5 ?_)
        case c1 => exact cell_one_new _ _ _
        case c2 => intro y hy; simp at hy; subst hy; rfl
        case c3 => unfold maxLen; omega
        case c4 => omega
        case c5 => simp; omega
        intro v' w3 hown' hgrow _ hat
        have HO3 : Hid (w3.ownsRow w.heap.size 3 1 v' (outI (rd.take (k + 1))).length ((outI (rd.take (k + 1))).map (.int .i64))) := by
          rw [HNext.out, List.length_append, List.map_append]; exact hown'
        have HP3 : Hid (w3.ownsRow w.heap.size 9 1 (.slice (some ⟨kb, ko, none⟩) n pc) n (parts.map .string)) := (HP2.out.alloc _).kept hgrow HX.out
        have HX3 : Hid ((Value.slice (some ⟨kb, ko, none⟩) n pc).ownBlock = none ∨ (Value.slice (some ⟨kb, ko, none⟩) n pc).ownBlock ≠ v'.ownBlock) := by
          rcases hat with h | h
          · rw [h]; exact HX.out
          · right
            rw [h]
            intro e
            have := row_lt HP2.out e
            first | omega | (simp at this; omega)
        have HB3 : Hid (Below w.heap.size w w3) := (hbel2.alloc hsz2 _).grown hgrow (by simp; omega) fun j hj => row_ge hown hj
        clear hown hown' hgrow hat HP2 HX
        go_wp2
        go_roundw
        case rel => exact ⟨k + 1, by go_num, by omega, by omega, HZ2, HO3, HP3, HX3, HB3.out⟩
        case measure => simp [intOf]; omega
    · have hcond : ¬ ((k : Int) < (n : Int)) ∨ ¬ ((k : Int) ≤ 6) := by
        by_cases h2 : k < n
        · exact .inr (by omega)
        · exact .inl (by omega)
      have hol : (outI (rd.take k)).length ≤ 7 := by rw [outI_len, List.length_take]; omega
      have cg := CG.out u4 (outI (rd.take k)) wr (rowInts_at HO.out) (by omega)
      by_cases h6 : n ≤ 6
      · have hkn : k = n := by omega
        have et : rd.take k = rd := List.take_of_length_le (by rw [HRL.out]; omega)
        rw [et] at cg
        have hz2 := HZ.out
        rw [et] at hz2
        have hok := okO_outI HNE.out (by rw [HRL.out]; exact h6) (fun m hm => ⟨hz2 m hm, HL8.out m hm⟩)
        rw [hok] at cg
        have hy := par_yes (t := t) (by rw [← HRD.out, HRL.out]; exact h6) (by rw [← HRD.out]; exact hz2)
        have HY : Hid (OutQ w.heap.size wr (parI t) (parB t) (.returned (.tuple #[u4, .bool true]))) := by
          have h5 := ownInts_of HO.out
          rw [et] at h5
          rw [hy.1, hy.2, ← HRD.out]
          exact ⟨_, rfl, h5⟩
        have CG1 := Lib.hid cg
        have hnl : ¬ ((k : Int) < (n : Int)) := by omega
        clear cg hz2 hok hy et HZ HO HX hcond hlt
        go_wp2_with fail
        refine (CG1.out).mono ?_
        rintro e w2 ⟨rfl, rfl⟩
        go_wp2
        go_ret2
        exact ⟨HY.out, hbel⟩
      · have hk7' : k = 7 := by omega
        have hno : okO (outI (rd.take k)) = false := okO_no_len (by rw [outI_len, List.length_take]; have := HRL.out; omega)
        rw [hno] at cg
        have HF := Lib.hid (par_no (Pl.parse_no_len (t := t.data.toList) (by rw [← HRD.out, HRL.out]; omega)))
        have CG1 := Lib.hid cg
        have hnl : ¬ ((k : Int) ≤ 6) := by omega
        clear cg hno HZ hcond
        by_cases h2 : (k : Int) < (n : Int)
        · go_wp2_with fail
          refine (CG1.out).mono ?_
          rintro e w2 ⟨rfl, rfl⟩
          go_wp2
          go_ret2
          exact ⟨outQ_no HF.out _ _ _ _, hbel.alloc hbel.size _⟩
        · go_wp2_with fail
          refine (CG1.out).mono ?_
          rintro e w2 ⟨rfl, rfl⟩
          go_wp2
          go_ret2
          exact ⟨outQ_no HF.out _ _ _ _, hbel.alloc hbel.size _⟩
theorem ownInts_read {w : World} {base : Nat} {v : Value} {xs : List Int} (h : OwnInts w base v xs.length (fun j => xs.getD j 0)) : IntsAt w v xs := by
  rcases h with ⟨h0, a, cap, rfl⟩ | ⟨g, cap, rfl, hc, _, _, hlt, hcell, _⟩
  · have : xs = [] := List.length_eq_zero_iff.1 h0
    subst this
    exact IntsAt.nil _ _ _
  · refine ⟨_, cap, rfl, hc, .inr ⟨g, 0, rfl, hlt, fun j x hx => ?_⟩⟩
    have hj := (List.getElem?_eq_some_iff.1 hx).1
    rw [Nat.zero_add, hcell j hj]
    simp [List.getD, hx]
theorem specParseOutline_any (t : ByteArray) (w : World) (ht : t.size ≤ 1048576) :
    Calls Try.prog 14 #[.string t] w fun e w' => OutE w' (parI t) (parB t) e ∧ Below w.heap.size w w' :=
  (specParseOutlineQ_any t w ht).mono fun _ _ ⟨⟨u, he, hu⟩, hb⟩ => ⟨⟨u, he, ownInts_read hu⟩, hb⟩

/-! ### CompareOutlines, HasPrefix -/
set_option maxHeartbeats 2000000 in
theorem l4Compare_any (v u : Value) (xs ys : List Int) (w : World) (h : IntsAt w v xs) (h' : IntsAt w u ys) (hn : xs.length ≤ 2097152) (_hm : ys.length ≤ 2097152) :
    Calls Try.prog 53 #[v, u] w fun e w' => e = .returned (.int .i64 (Pl.cmp xs ys)) ∧ Below w.heap.size w w' := by
  obtain ⟨a, cap, rfl, hcap, hC⟩ := h.cells
  obtain ⟨b, cap', rfl, hcap', hD⟩ := h'.cells
  obtain ⟨n, hnn⟩ : ∃ n, n = xs.length := ⟨_, rfl⟩
  obtain ⟨m, hmm⟩ : ∃ m, m = ys.length := ⟨_, rfl⟩
  rw [← hnn] at hn hcap ⊢
  rw [← hmm] at hcap' ⊢
  have HN := Lib.hid hnn
  have HM := Lib.hid hmm
  have HC := Lib.hid hC
  have HD := Lib.hid hD
  clear h h' hnn hmm hC hD
  go_enter Try.func53, Try.ntmps53
  go_wp2_with fail
  go_loopw [5] (fun i wr => ∃ k : Nat, i = .int .i64 k ∧ k ≤ n ∧ k ≤ m ∧ Hid (xs.take k = ys.take k) ∧ Below w.heap.size w wr) (fun i _ => n - (intOf i).toNat)
  case atStart => exact ⟨0, rfl, Nat.zero_le _, Nat.zero_le _, Lib.hid rfl, Below.refl _ _⟩
  case round =>
    obtain ⟨k, rfl, hk, hk', HT, hbel⟩ := hrel
    by_cases hlt : k < n ∧ k < m
    · obtain ⟨hlt1, hlt2⟩ := hlt
      obtain ⟨x, hx⟩ : ∃ x, xs[k]? = some x := ⟨_, List.getElem?_eq_getElem (by rw [← HN.out]; exact hlt1)⟩
      obtain ⟨y, hy⟩ : ∃ y, ys[k]? = some y := ⟨_, List.getElem?_eq_getElem (by rw [← HM.out]; exact hlt2)⟩
      obtain ⟨bk, o, rfl, _, g0⟩ := HC.out wr hbel k x hx
      obtain ⟨bk', o', rfl, _, g1⟩ := HD.out wr hbel k y hy
      have hcmp := Pl.cmp_at HT.out hx hy
      by_cases h1 : x < y
      · rw [if_pos h1] at hcmp
        have HR := Lib.hid hcmp
        clear hcmp hx hy HT
        go_wp2_with fail
        go_quiet (fail)
        go_wp2
        go_ret
        exact ⟨ret_int HR.out.symm, below_drewN hbel nq⟩
      · rw [if_neg h1] at hcmp
        by_cases h2 : y < x
        · rw [if_pos h2] at hcmp
          have HR := Lib.hid hcmp
          clear hcmp hx hy HT
          go_wp2_with fail
          go_quiet (fail)
          have hb1 := below_drewN hbel nq
          go_wp2_with fail
          go_quiet (fail)
          go_wp2
          go_ret
          exact ⟨ret_int HR.out.symm, below_drewN hb1 nq⟩
        · obtain rfl : x = y := by omega
          have HT2 := Lib.hid (Pl.take_next HT.out hx hy)
          clear hcmp hx hy HT
          go_wp2_with fail
          go_quiet (fail)
          have hb1 := below_drewN hbel nq
          go_wp2_with fail
          go_quiet (fail)
          have hb2 := below_drewN hb1 nq
          go_wp2
          go_roundw
          case rel => exact ⟨k + 1, by go_num, by omega, by omega, HT2, below_drewN hbel _⟩
          case measure => simp [intOf]; omega
    · have he : k = n ∨ k = m := by omega
      have hcmp := Pl.cmp_end HT.out (by rw [← HN.out]; exact hk) (by rw [← HM.out]; exact hk') (by rw [← HN.out, ← HM.out]; exact he)
      rw [← HN.out, ← HM.out] at hcmp
      have hcond : ¬ ((k : Int) < (n : Int)) ∨ ¬ ((k : Int) < (m : Int)) := by omega
      by_cases h1 : n < m
      · rw [if_pos h1] at hcmp
        have HR := Lib.hid hcmp
        have hkn : ¬ ((k : Int) < (n : Int)) := by omega
        clear hcmp HT hcond hlt
        go_wp2
        go_ret
        exact ⟨ret_int HR.out.symm, hbel⟩
      · rw [if_neg h1] at hcmp
        by_cases h2 : m < n
        · rw [if_pos h2] at hcmp
          have HR := Lib.hid hcmp
          have hkm : ¬ ((k : Int) < (m : Int)) := by omega
          clear hcmp HT hcond hlt he
          by_cases h3 : (k : Int) < (n : Int)
          · go_wp2
            go_ret
            exact ⟨ret_int HR.out.symm, hbel⟩
          · exfalso; omega
        · rw [if_neg h2] at hcmp
          have HR := Lib.hid hcmp
          have hkn : ¬ ((k : Int) < (n : Int)) := by omega
          clear hcmp HT hcond hlt
          go_wp2
          go_ret
          exact ⟨ret_int HR.out.symm, hbel⟩
set_option maxHeartbeats 2000000 in
theorem l1Same_any (v u : Value) (xs ys : List Int) (w : World) (h : IntsAt w v xs) (h' : IntsAt w u ys) (hn : xs.length ≤ 2097152) (hm : ys.length ≤ 2097152) :
    Calls Try.prog 71 #[v, u] w fun e w' => e = .returned (.bool (decide (xs = ys))) ∧ Below w.heap.size w w' := by
  obtain ⟨a, cap, rfl, hcap, hC⟩ := h.cells
  obtain ⟨b, cap', rfl, hcap', hD⟩ := h'.cells
  obtain ⟨n, hnn⟩ : ∃ n, n = xs.length := ⟨_, rfl⟩
  obtain ⟨m, hmm⟩ : ∃ m, m = ys.length := ⟨_, rfl⟩
  rw [← hnn] at hn hcap ⊢
  rw [← hmm] at hm hcap' ⊢
  have HN := Lib.hid hnn
  have HM := Lib.hid hmm
  have HC := Lib.hid hC
  have HD := Lib.hid hD
  clear h h' hnn hmm hC hD
  by_cases hnm : n = m
  · have hnb : ((n : Int) != (m : Int)) = false := by rw [bne_eq_false_iff_eq]; omega
    go_enter Try.func71, Try.ntmps71
    go_wp2_with fail
    go_loopw [5] (fun i wr => ∃ k : Nat, i = .int .i64 k ∧ k ≤ n ∧ Hid (xs.take k = ys.take k) ∧ Below w.heap.size w wr) (fun i _ => n - (intOf i).toNat)
    case atStart => exact ⟨0, rfl, Nat.zero_le _, Lib.hid rfl, Below.refl _ _⟩
    case round =>
      obtain ⟨k, rfl, hk, HT, hbel⟩ := hrel
      by_cases hlt : k < n
      · obtain ⟨x, hx⟩ : ∃ x, xs[k]? = some x := ⟨_, List.getElem?_eq_getElem (by rw [← HN.out]; exact hlt)⟩
        obtain ⟨y, hy⟩ : ∃ y, ys[k]? = some y := ⟨_, List.getElem?_eq_getElem (by rw [← HM.out, ← hnm]; exact hlt)⟩
        obtain ⟨bk, o, rfl, _, g0⟩ := HC.out wr hbel k x hx
        obtain ⟨bk', o', rfl, _, g1⟩ := HD.out wr hbel k y hy
        by_cases he : x = y
        · subst he
          have HT2 := Lib.hid (Pl.take_next HT.out hx hy)
          clear hx hy HT
          go_wp2_with fail
          go_quiet (fail)
          go_wp2
          go_roundw
          case rel => exact ⟨k + 1, by go_num, by omega, HT2, below_drewN hbel _⟩
          case measure => simp [intOf]; omega
        · have HF : Hid (decide (xs = ys) = false) := by
            show decide _ = false
            rw [decide_eq_false_iff_not]
            intro e
            rw [e, hy] at hx
            injection hx with hx
            exact he hx.symm
          have hxy : (x != y) = true := by rw [bne_iff_ne]; exact he
          clear hx hy HT he
          go_wp2_with fail
          go_quiet (fail)
          go_wp2
          go_ret
          exact ⟨ret_bool HF.out.symm, below_drewN hbel _⟩
      · obtain rfl : k = n := by omega
        have HF : Hid (decide (xs = ys) = true) := by
          show decide _ = true
          rw [decide_eq_true_iff]
          have h3 := HT.out
          rw [List.take_of_length_le (by rw [← HN.out]; exact Nat.le_refl _), List.take_of_length_le (by rw [← HM.out, ← hnm]; exact Nat.le_refl _)] at h3
          exact h3
        clear HT
        go_wp2
        go_ret
        exact ⟨ret_bool HF.out.symm, hbel⟩
  · have hnb : ((n : Int) != (m : Int)) = true := by rw [bne_iff_ne]; omega
    have HF : Hid (decide (xs = ys) = false) := by
      show decide _ = false
      rw [decide_eq_false_iff_not]
      intro e
      exact hnm (by rw [HN.out, HM.out, e])
    clear hnm
    go_enter Try.func71, Try.ntmps71
    go_wp2_with fail
    go_ret
    exact ⟨ret_bool HF.out.symm, Below.refl _ _⟩
set_option maxHeartbeats 2000000 in
theorem vI_any (v u : Value) (xs ys : List Int) (w : World) (h : IntsAt w v xs) (h' : IntsAt w u ys) (hn : xs.length ≤ 2097152) (hm : ys.length ≤ 2097152) :
    Calls Try.prog 15 #[v, u] w fun e w' => e = .returned (.bool (decide (xs = ys))) ∧ Below w.heap.size w w' := by
  obtain ⟨a, cap, rfl, hcap, hC⟩ := h.cells
  obtain ⟨b, cap', rfl, hcap', hD⟩ := h'.cells
  obtain ⟨n, hnn⟩ : ∃ n, n = xs.length := ⟨_, rfl⟩
  obtain ⟨m, hmm⟩ : ∃ m, m = ys.length := ⟨_, rfl⟩
  rw [← hnn] at hn hcap ⊢
  rw [← hmm] at hm hcap' ⊢
  have HN := Lib.hid hnn
  have HM := Lib.hid hmm
  have HC := Lib.hid hC
  have HD := Lib.hid hD
  clear h h' hnn hmm hC hD
  by_cases hnm : n = m
  · have hnb : ((n : Int) != (m : Int)) = false := by rw [bne_eq_false_iff_eq]; omega
    go_enter Try.func15, Try.ntmps15
    go_wp2_with fail
    go_loopw [5] (fun i wr => ∃ k : Nat, i = .int .i64 k ∧ k ≤ n ∧ Hid (xs.take k = ys.take k) ∧ Below w.heap.size w wr) (fun i _ => n - (intOf i).toNat)
    case atStart => exact ⟨0, rfl, Nat.zero_le _, Lib.hid rfl, Below.refl _ _⟩
    case round =>
      obtain ⟨k, rfl, hk, HT, hbel⟩ := hrel
      by_cases hlt : k < n
      · obtain ⟨x, hx⟩ : ∃ x, xs[k]? = some x := ⟨_, List.getElem?_eq_getElem (by rw [← HN.out]; exact hlt)⟩
        obtain ⟨y, hy⟩ : ∃ y, ys[k]? = some y := ⟨_, List.getElem?_eq_getElem (by rw [← HM.out, ← hnm]; exact hlt)⟩
        obtain ⟨bk, o, rfl, _, g0⟩ := HC.out wr hbel k x hx
        obtain ⟨bk', o', rfl, _, g1⟩ := HD.out wr hbel k y hy
        by_cases he : x = y
        · subst he
          have HT2 := Lib.hid (Pl.take_next HT.out hx hy)
          clear hx hy HT
          go_wp2_with fail
          go_quiet (fail)
          go_wp2
          go_roundw
          case rel => exact ⟨k + 1, by go_num, by omega, HT2, below_drewN hbel _⟩
          case measure => simp [intOf]; omega
        · have HF : Hid (decide (xs = ys) = false) := by
            show decide _ = false
            rw [decide_eq_false_iff_not]
            intro e
            rw [e, hy] at hx
            injection hx with hx
            exact he hx.symm
          have hxy : (x != y) = true := by rw [bne_iff_ne]; exact he
          clear hx hy HT he
          go_wp2_with fail
          go_quiet (fail)
          go_wp2
          go_ret
          exact ⟨ret_bool HF.out.symm, below_drewN hbel _⟩
      · obtain rfl : k = n := by omega
        have HF : Hid (decide (xs = ys) = true) := by
          show decide _ = true
          rw [decide_eq_true_iff]
          have h3 := HT.out
          rw [List.take_of_length_le (by rw [← HN.out]; exact Nat.le_refl _), List.take_of_length_le (by rw [← HM.out, ← hnm]; exact Nat.le_refl _)] at h3
          exact h3
        clear HT
        go_wp2
        go_ret
        exact ⟨ret_bool HF.out.symm, hbel⟩
  · have hnb : ((n : Int) != (m : Int)) = true := by rw [bne_iff_ne]; omega
    have HF : Hid (decide (xs = ys) = false) := by
      show decide _ = false
      rw [decide_eq_false_iff_not]
      intro e
      exact hnm (by rw [HN.out, HM.out, e])
    clear hnm
    go_enter Try.func15, Try.ntmps15
    go_wp2_with fail
    go_ret
    exact ⟨ret_bool HF.out.symm, Below.refl _ _⟩

/-- What CompareOutlines answers. -/
def cmpE (xs ys : List Int) : Ending := .returned (.tuple #[.int .i64 (if okO xs = true ∧ okO ys = true then Pl.cmp xs ys else 0), .bool (okO xs && okO ys)])
theorem cmpE_no {xs ys : List Int} (h : okO xs = false ∨ okO ys = false) : cmpE xs ys = .returned (.tuple #[.int .i64 0, .bool false]) := by
  unfold cmpE
  rcases h with h | h
  · rw [h]; rfl
  · rw [h, Bool.and_false, if_neg (fun q => by cases q.2)]
theorem cmpE_yes {xs ys : List Int} (h : okO xs = true) (h' : okO ys = true) : cmpE xs ys = .returned (.tuple #[.int .i64 (Pl.cmp xs ys), .bool true]) := by
  unfold cmpE; rw [h, h', if_pos ⟨rfl, rfl⟩]; rfl
/-- What HasPrefix answers. -/
def preE (xs ys : List Int) : Ending := .returned (.tuple #[.bool ((okO xs && okO ys) && decide (ys <+: xs)), .bool (okO xs && okO ys)])
theorem preE_no {xs ys : List Int} (h : okO xs = false ∨ okO ys = false) : preE xs ys = .returned (.tuple #[.bool false, .bool false]) := by
  unfold preE
  rcases h with h | h
  · rw [h]; rfl
  · rw [h, Bool.and_false]; rfl
theorem preE_yes {xs ys : List Int} (h : okO xs = true) (h' : okO ys = true) : preE xs ys = .returned (.tuple #[.bool (decide (ys <+: xs)), .bool true]) := by
  unfold preE; rw [h, h']; rfl
theorem pre_take {xs ys : List Int} (_h : ys.length ≤ xs.length) : decide (xs.take ys.length = ys) = decide (ys <+: xs) := by
  rw [Bool.eq_iff_iff, decide_eq_true_eq, decide_eq_true_eq, List.prefix_iff_eq_take]
  exact ⟨fun e => e.symm, fun e => e.symm⟩
theorem pre_long {xs ys : List Int} (h : ¬ ys.length ≤ xs.length) : decide (ys <+: xs) = false := by
  rw [decide_eq_false_iff_not]; exact fun q => h q.length_le
theorem IntsAt.take {w : World} {a : Option Addr} {cap : Nat} {xs : List Int} (h : IntsAt w (.slice a xs.length cap) xs) (k : Nat) (hk : k ≤ xs.length) : IntsAt w (.slice a k cap) (xs.take k) := by
  obtain ⟨a', cap', hv, hc, h⟩ := h
  injection hv with h1 h2 h3
  subst h1 h3
  have hl : (xs.take k).length = k := by rw [List.length_take]; omega
  refine ⟨a, cap, by rw [hl], by rw [hl]; omega, ?_⟩
  rcases h with h | ⟨bk, o, ha, hb, h⟩
  · exact .inl (by rw [h]; exact List.take_nil)
  · exact .inr ⟨bk, o, ha, hb, fun j x hx => h j x (by rw [List.getElem?_take] at hx; split at hx; exact hx; cases hx)⟩
set_option maxHeartbeats 1000000 in
theorem l4Begins_any (v u : Value) (xs ys : List Int) (w : World) (h : IntsAt w v xs) (h' : IntsAt w u ys) (_hn : xs.length ≤ 2097152) (hm : ys.length ≤ 2097152) :
    Calls Try.prog 55 #[v, u] w fun e w' => e = .returned (.bool (decide (ys <+: xs))) ∧ Below w.heap.size w w' := by
  by_cases hle : ys.length ≤ xs.length
  · obtain ⟨a, cap, rfl, hcap, _⟩ := h.cells
    have f := l1Same_any _ u _ ys w (h.take ys.length hle) h' (by rw [List.length_take]; omega) hm
    rw [pre_take hle] at f
    obtain ⟨b, cap', rfl, hcap', _⟩ := h'.cells
    obtain ⟨R, hR⟩ : ∃ R, R = decide (ys <+: xs) := ⟨_, rfl⟩
    rw [← hR] at f ⊢
    have F := Lib.hid f
    obtain ⟨n, hnn⟩ : ∃ n, n = xs.length := ⟨_, rfl⟩
    obtain ⟨m, hmm⟩ : ∃ m, m = ys.length := ⟨_, rfl⟩
    rw [← hnn] at hcap hle ⊢
    rw [← hmm] at hm hcap' hle F ⊢
    have hle' : (m : Int) ≤ (n : Int) := by omega
    have hmc : m ≤ cap := by omega
    clear h h' f hR hnn hmm
    go_enter Try.func55, Try.ntmps55
    go_wp2_with fail
    refine F.out.mono ?_
    rintro e w1 ⟨rfl, hb⟩
    go_wp2
    go_ret
    exact ⟨rfl, hb⟩
  · rw [pre_long hle]
    obtain ⟨a, cap, rfl, hcap, _⟩ := h.cells
    obtain ⟨b, cap', rfl, hcap', _⟩ := h'.cells
    obtain ⟨n, hnn⟩ : ∃ n, n = xs.length := ⟨_, rfl⟩
    obtain ⟨m, hmm⟩ : ∃ m, m = ys.length := ⟨_, rfl⟩
    rw [← hnn] at hcap hle ⊢
    rw [← hmm] at hm hcap' hle ⊢
    have hle' : ¬ (m : Int) ≤ (n : Int) := by omega
    clear h h' hnn hmm
    go_enter Try.func55, Try.ntmps55
    go_wp2_with fail
    go_ret
    exact ⟨rfl, Below.refl _ _⟩
set_option maxHeartbeats 1000000 in
theorem specCompare_any (v u : Value) (xs ys : List Int) (w : World) (h : IntsAt w v xs) (h' : IntsAt w u ys) (hn : xs.length ≤ 2097152) (hm : ys.length ≤ 2097152) :
    Calls Try.prog 24 #[v, u] w fun e w' => e = cmpE xs ys ∧ Below w.heap.size w w' := by
  have c := l4Good_any v xs w h hn
  have d := l4Good_any u ys w h' hm
  have f := l4Compare_any v u xs ys w h h' hn hm
  obtain ⟨a, cap, rfl, hcap, _⟩ := h.cells
  obtain ⟨b, cap', rfl, hcap', _⟩ := h'.cells
  obtain ⟨R, hR⟩ : ∃ R, R = Pl.cmp xs ys := ⟨_, rfl⟩
  rw [← hR] at f
  clear h h'
  cases hx : okO xs
  · rw [hx] at c
    rw [cmpE_no (.inl hx)]
    have C := Lib.hid c
    clear c d f hx
    go_enter Try.func24, Try.ntmps24
    go_wp2_with fail
    refine C.out.mono ?_
    rintro e w1 ⟨rfl, rfl⟩
    go_wp2
    go_ret2
    exact ⟨rfl, Below.refl _ _⟩
  · cases hy : okO ys
    · rw [hx] at c
      rw [hy] at d
      rw [cmpE_no (.inr hy)]
      have C := Lib.hid c
      have D := Lib.hid d
      clear c d f hx hy
      go_enter Try.func24, Try.ntmps24
      go_wp2_with fail
      refine C.out.mono ?_
      rintro e w1 ⟨rfl, rfl⟩
      go_wp2_with fail
      refine D.out.mono ?_
      rintro e w1 ⟨rfl, rfl⟩
      go_wp2
      go_ret2
      exact ⟨rfl, Below.refl _ _⟩
    · rw [hx] at c
      rw [hy] at d
      rw [cmpE_yes hx hy, ← hR]
      have C := Lib.hid c
      have D := Lib.hid d
      have F := Lib.hid f
      clear c d f hx hy hR
      go_enter Try.func24, Try.ntmps24
      go_wp2_with fail
      refine C.out.mono ?_
      rintro e w1 ⟨rfl, rfl⟩
      go_wp2_with fail
      refine D.out.mono ?_
      rintro e w1 ⟨rfl, rfl⟩
      go_wp2_with fail
      refine F.out.mono ?_
      rintro e w1 ⟨rfl, hb⟩
      go_wp2
      go_ret2
      exact ⟨rfl, hb⟩
set_option maxHeartbeats 1000000 in
theorem specHasPrefix_any (v u : Value) (xs ys : List Int) (w : World) (h : IntsAt w v xs) (h' : IntsAt w u ys) (hn : xs.length ≤ 2097152) (hm : ys.length ≤ 2097152) :
    Calls Try.prog 26 #[v, u] w fun e w' => e = preE xs ys ∧ Below w.heap.size w w' := by
  have c := l4Good_any v xs w h hn
  have d := l4Good_any u ys w h' hm
  have f := l4Begins_any v u xs ys w h h' hn hm
  obtain ⟨a, cap, rfl, hcap, _⟩ := h.cells
  obtain ⟨b, cap', rfl, hcap', _⟩ := h'.cells
  obtain ⟨R, hR⟩ : ∃ R, R = decide (ys <+: xs) := ⟨_, rfl⟩
  rw [← hR] at f
  clear h h'
  cases hx : okO xs
  · rw [hx] at c
    rw [preE_no (.inl hx)]
    have C := Lib.hid c
    clear c d f hx
    go_enter Try.func26, Try.ntmps26
    go_wp2_with fail
    refine C.out.mono ?_
    rintro e w1 ⟨rfl, rfl⟩
    go_wp2
    go_ret2
    exact ⟨rfl, Below.refl _ _⟩
  · cases hy : okO ys
    · rw [hx] at c
      rw [hy] at d
      rw [preE_no (.inr hy)]
      have C := Lib.hid c
      have D := Lib.hid d
      clear c d f hx hy
      go_enter Try.func26, Try.ntmps26
      go_wp2_with fail
      refine C.out.mono ?_
      rintro e w1 ⟨rfl, rfl⟩
      go_wp2_with fail
      refine D.out.mono ?_
      rintro e w1 ⟨rfl, rfl⟩
      go_wp2
      go_ret2
      exact ⟨rfl, Below.refl _ _⟩
    · rw [hx] at c
      rw [hy] at d
      rw [preE_yes hx hy, ← hR]
      have C := Lib.hid c
      have D := Lib.hid d
      have F := Lib.hid f
      clear c d f hx hy hR
      go_enter Try.func26, Try.ntmps26
      go_wp2_with fail
      refine C.out.mono ?_
      rintro e w1 ⟨rfl, rfl⟩
      go_wp2_with fail
      refine D.out.mono ?_
      rintro e w1 ⟨rfl, rfl⟩
      go_wp2_with fail
      refine F.out.mono ?_
      rintro e w1 ⟨rfl, hb⟩
      go_wp2
      go_ret2
      exact ⟨rfl, hb⟩

/-! ### ConcatOutlines -/
/-- Ints in memory whose slice is nil or has an address. -/
def IntsM (w : World) (v : Value) (xs : List Int) : Prop :=
  (v = .slice none 0 0 ∧ xs = []) ∨ ∃ bk o cap, v = .slice (some ⟨bk, o, none⟩) xs.length cap ∧ xs.length ≤ cap ∧ bk < w.heap.size ∧ ∀ (j : Nat) x, xs[j]? = some x → w.cell? ⟨bk, o + j, none⟩ = some (.int .i64 x)
theorem IntsM.at {w : World} {v : Value} {xs : List Int} (h : IntsM w v xs) : IntsAt w v xs := by
  rcases h with ⟨rfl, rfl⟩ | ⟨bk, o, cap, hv, hc, hb, h⟩
  · exact IntsAt.nil _ _ _
  · exact ⟨_, cap, hv, hc, .inr ⟨bk, o, rfl, hb, h⟩⟩
theorem IntsM.below {w w' : World} {v : Value} {xs : List Int} (h : IntsM w v xs) (hb : Below w.heap.size w w') : IntsM w' v xs := by
  rcases h with h | ⟨bk, o, cap, hv, hc, hk, h⟩
  · exact .inl h
  · exact .inr ⟨bk, o, cap, hv, hc, Nat.lt_of_lt_of_le hk hb.size, fun j x hx => (hb.cell (p := ⟨bk, o + j, none⟩) hk).trans (h j x hx)⟩
theorem row_M {w : World} {base : Nat} {v : Value} {xs : List Int} (h : w.ownsRow base 3 1 v xs.length (xs.map (.int .i64))) : IntsM w v xs := by
  rcases h.2 with ⟨h1, h2⟩ | ⟨g, cap, cur, h1, _, hg, hn, _⟩
  · exact .inl ⟨h1, List.length_eq_zero_iff.1 h2⟩
  · obtain ⟨a, c, hv, _, h⟩ := rowInts_at h
    rcases h with h | ⟨bk, o, ha, hk, h⟩
    · exact .inr ⟨g, 0, cap, h1, hn, (Array.getElem?_eq_some_iff.1 hg).1, fun j x hx => by rw [h] at hx; simp at hx⟩
    · rw [h1, ha] at hv
      injection hv with q1 q2 q3
      injection q1 with q1
      injection q1 with q1 q4 q5
      subst q1 q4
      exact .inr ⟨g, 0, cap, h1, hn, hk, h⟩
theorem IntsM.take {w : World} {a : Option Addr} {cap : Nat} {xs : List Int} (h : IntsM w (.slice a xs.length cap) xs) (k : Nat) (hk : k ≤ xs.length) : IntsM w (.slice a k cap) (xs.take k) := by
  rcases h with ⟨h1, rfl⟩ | ⟨bk, o, c, hv, hc, hb, h⟩
  · injection h1 with q1 q2 q3
    subst q1 q3
    have : k = 0 := by simpa using hk
    subst this
    exact .inl ⟨rfl, rfl⟩
  · injection hv with q1 q2 q3
    subst q1 q3
    have hl : (xs.take k).length = k := by rw [List.length_take]; omega
    exact .inr ⟨bk, o, cap, by rw [hl], by rw [hl]; omega, hb, fun j x hx => h j x (by rw [List.getElem?_take] at hx; split at hx; exact hx; cases hx)⟩
/-- Ints appended to an own row: 'append(l, m...)'. -/
theorem append_ints {ops : Array Oper} {rest : List Oper} {o : Oper} {a : Act} {w : World} {Q : Exit → Act → World → Prop} {i0 : TypeInfo} (hi : Try.prog.info? 3 = some i0) (hz0 : i0.zero = some (.int .i64 0)) (hz1 : i0.size = 1) (hz2 : i0.bytes = 8)
    (hgd : o.guard = none) (p q : Operand) (ho : o.op = .call { callee := .builtin .append, args := #[p, q], argTypes := #[25, 25] }) (base : Nat) (v : Value) (xs : List Int) (hs : a.eval p = v) (hown : w.ownsRow base 3 1 v xs.length (xs.map (.int .i64)))
    (u : Value) (ys : List Int) (hq : a.eval q = u) (hu : IntsM w u ys) (hb : base ≤ w.heap.size) (h1 : xs.length ≤ 4194304) (h2 : ys.length ≤ 4194304)
    (h : ∀ v' w', w'.ownsRow base 3 1 v' (xs ++ ys).length ((xs ++ ys).map (.int .i64)) → w.grownBy w' v.ownBlock → wpList Try.prog ops Q rest (a.put o.dst v') w') : wpList Try.prog ops Q (o :: rest) a w := by
  rcases hu with ⟨rfl, rfl⟩ | ⟨bk, off, cap, rfl, hc, hk, hcell⟩
  · refine wpList_append_own_none hgd p q 25 ho base 3 i0 1 Try.underlying25 hi v xs.length _ hs hown hq (h v w ?_ ⟨rfl, rfl, rfl, Nat.le_refl _, fun _ _ _ => rfl⟩)
    rw [List.append_nil]; exact hown
  · refine wpList_append_own _ hgd p q 25 ho base 3 i0 (.int .i64 0) 1 8 Try.underlying25 hi hz0 hz1 hz2 rfl (by decide) v xs.length _ hs hown ⟨bk, off, none⟩ ys.length cap (ys.map (.int .i64)) hq (by rw [List.length_map, Nat.mul_one]) ?_ ?_ (by unfold maxLen; omega) (by omega) hb ?_
    · intro j x hx
      rw [List.getElem?_map] at hx
      obtain ⟨z, hz, rfl⟩ := Option.map_eq_some_iff.1 hx
      rw [Addr.add_lit]; exact hcell j z hz
    · intro x hx
      obtain ⟨z, _, rfl⟩ := List.mem_map.1 hx
      rfl
    · intro v' w' hown' hg _
      refine h v' w' ?_ hg
      rw [List.length_append, List.map_append]; exact hown'
/-- One int appended to an own row: 'append(l, x)'. -/
theorem push_int {ops : Array Oper} {rest : List Oper} {o : Oper} {a : Act} {w : World} {Q : Exit → Act → World → Prop} {i0 : TypeInfo} (hi : Try.prog.info? 3 = some i0) (hz0 : i0.zero = some (.int .i64 0)) (hz1 : i0.size = 1) (hz2 : i0.bytes = 8)
    (hgd : o.guard = none) (p q : Operand) (ho : o.op = .call { callee := .builtin .append, args := #[p, q], argTypes := #[25, 25] }) (base : Nat) (v : Value) (xs : List Int) (hs : a.eval p = v) (hown : w.ownsRow base 3 1 v xs.length (xs.map (.int .i64)))
    (x : Int) (hq : a.eval q = .slice (some ⟨w.heap.size, 0, none⟩) 1 1) (hb : base ≤ w.heap.size) (h1 : xs.length ≤ 4194304)
    (h : ∀ v' w', w'.ownsRow base 3 1 v' (xs ++ [x]).length ((xs ++ [x]).map (.int .i64)) → w.grownBy w' v.ownBlock → (v'.ownBlock = v.ownBlock ∨ v'.ownBlock = some (w.heap.size + 1)) → wpList Try.prog ops Q rest (a.put o.dst v') w') : wpList Try.prog ops Q (o :: rest) a (w.alloc (.cells #[.int .i64 x] 3)) := by
  refine wpList_append_own_at _ hgd p q 25 ho base 3 i0 (.int .i64 0) 1 8 Try.underlying25 hi hz0 hz1 hz2 rfl (by decide) v xs.length _ hs (hown.alloc _) ⟨w.heap.size, 0, none⟩ 1 1 [.int .i64 x] hq rfl ?_ ?_ (by unfold maxLen; omega) (by omega) (by simp; omega) ?_
  · exact cell_one_new _ _ _
  · intro y hy; simp at hy; subst hy; rfl
  · intro v' w' hown' hg _ hat
    refine h v' w' ?_ ⟨hg.os, hg.tape, hg.output, Nat.le_trans (by simp) hg.size, fun k hk hne => (hg.block k (by rw [World.size_alloc]; omega) hne).trans (Below.heap_alloc w _ k hk)⟩ ?_
    · rw [List.length_append, List.map_append]; exact hown'
    · rcases hat with h2 | h2
      · exact .inl h2
      · exact .inr (by rw [h2, World.size_alloc])
theorem l1Own_any (v : Value) (xs : List Int) (w : World) (h : IntsM w v xs) (hn : xs.length ≤ 2097152) :
    Calls Try.prog 47 #[v] w fun e w' => (∃ u, e = .returned u ∧ w'.ownsRow w.heap.size 3 1 u xs.length (xs.map (.int .i64))) ∧ Below w.heap.size w w' := by
  obtain ⟨i0, hi, hz0, hz1, hz2⟩ := info_parts infoInt
  have hal : Below w.heap.size w (w.alloc (.cells #[] 3)) := (Below.refl _ _).alloc (Nat.le_refl _) _
  have HM := Lib.hid (h.below hal)
  have HO := Lib.hid (row_new w 3)
  clear h
  go_enter Try.func47, Try.ntmps47
  go_wp2_with (at_builtin; refine append_ints hi hz0 hz1 hz2 rfl _ _ rfl w.heap.size _ [] rfl HO.out _ xs rfl HM.out (by simp) (by simp) (by omega) ?_)
  intro v' w' hown hg
  have HF := Lib.hid hown
  have HB := Lib.hid (hal.grown hg (by simp) (fun j hj => row_ge HO.out hj))
  clear hown hg hal
  go_wp2
  go_ret
  exact ⟨⟨_, rfl, HF.out⟩, HB.out⟩
/-- What ConcatOutlines answers. -/
def catB (xs ys : List Int) : Bool := (okO xs && okO ys) && okO (xs ++ ys)
def catI (xs ys : List Int) : List Int := if catB xs ys = true then xs ++ ys else []
theorem cat_no {xs ys : List Int} (h : catB xs ys = false) : catI xs ys = [] := by unfold catI; rw [h]; rfl
theorem cat_yes {xs ys : List Int} (h : catB xs ys = true) : catI xs ys = xs ++ ys := by unfold catI; rw [h]; rfl
theorem catE_no {xs ys : List Int} (h : catB xs ys = false) (w : World) (a : Option Addr) (cap : Nat) : OutE w (catI xs ys) (catB xs ys) (.returned (.tuple #[.slice a 0 cap, .bool false])) := by
  rw [cat_no h, h]; exact ⟨_, rfl, IntsAt.nil _ _ _⟩
set_option maxHeartbeats 2000000 in
theorem specConcat_any (v u : Value) (xs ys : List Int) (w : World) (h : IntsM w v xs) (h' : IntsM w u ys) (hn : xs.length ≤ 1048576) (hm : ys.length ≤ 1048576) :
    Calls Try.prog 18 #[v, u] w fun e w' => OutE w' (catI xs ys) (catB xs ys) e ∧ Below w.heap.size w w' := by
  obtain ⟨i0, hi, hz0, hz1, hz2⟩ := info_parts infoInt
  have HO := Lib.hid (l1Own_any v xs w h (by omega))
  have CX := Lib.hid (fun w h => l4Good_any v xs w h (by omega))
  have CY := Lib.hid (fun w h => l4Good_any u ys w h (by omega))
  have CZ := Lib.hid (fun v' w h => l4Good_any v' (xs ++ ys) w h (by rw [List.length_append]; omega))
  have HX := Lib.hid h
  have HY := Lib.hid h'
  obtain ⟨a, cap, rfl, hcap, _⟩ := h.at.cells
  obtain ⟨b, cap', rfl, hcap', _⟩ := h'.at.cells
  clear h h'
  go_enter Try.func18, Try.ntmps18
  go_wp2_with fail
  refine HO.out.mono ?_
  rintro e w1 ⟨⟨z, rfl, hz⟩, hb1⟩
  have hzr := Lib.hid hz
  have HY1 := Lib.hid (HY.out.below hb1)
  have hsz1 := hb1.size
  clear hz
  go_wp2_with (at_builtin; refine append_ints hi hz0 hz1 hz2 rfl _ _ rfl w.heap.size _ xs rfl hzr.out _ ys rfl HY1.out hsz1 (by omega) (by omega) ?_)
  intro z' w2 hown hg
  have hb2 : Below w.heap.size w w2 := hb1.grown hg hsz1 (fun j hj => row_ge hzr.out hj)
  have HZ : Hid (w2.ownsRow w.heap.size 3 1 z' (xs ++ ys).length ((xs ++ ys).map (.int .i64))) := by
    show World.ownsRow _ _ _ _ _ _ _
    rw [List.length_append, List.map_append]; exact hown
  clear hown hg
  have cx := CX.out w2 (HX.out.below hb2).at
  have cy := CY.out w2 (HY.out.below hb2).at
  have cz := CZ.out z' w2 (rowInts_at HZ.out)
  cases hx : okO xs
  · have hno : catB xs ys = false := by unfold catB; rw [hx]; rfl
    have HN := Lib.hid hno
    rw [hx] at cx
    have C := Lib.hid cx
    clear cx cy cz hx hno
    go_wp2_with fail
    refine C.out.mono ?_
    rintro e w3 ⟨rfl, rfl⟩
    go_wp2
    go_ret2
    exact ⟨catE_no HN.out _ _ _, hb2.alloc hb2.size _⟩
  · cases hy : okO ys
    · have hno : catB xs ys = false := by unfold catB; rw [hy, Bool.and_false]; rfl
      have HN := Lib.hid hno
      rw [hx] at cx
      rw [hy] at cy
      have C := Lib.hid cx
      have D := Lib.hid cy
      clear cx cy cz hx hy hno
      go_wp2_with fail
      refine C.out.mono ?_
      rintro e w3 ⟨rfl, rfl⟩
      go_wp2_with fail
      refine D.out.mono ?_
      rintro e w3 ⟨rfl, rfl⟩
      go_wp2
      go_ret2
      exact ⟨catE_no HN.out _ _ _, hb2.alloc hb2.size _⟩
    · rw [hx] at cx
      rw [hy] at cy
      have C := Lib.hid cx
      have D := Lib.hid cy
      have hcb : catB xs ys = okO (xs ++ ys) := by unfold catB; rw [hx, hy]; rfl
      cases hz : okO (xs ++ ys)
      · have HN := Lib.hid (hcb.trans hz)
        rw [hz] at cz
        have F := Lib.hid cz
        clear cx cy cz hx hy hcb hz
        go_wp2_with fail
        refine C.out.mono ?_
        rintro e w3 ⟨rfl, rfl⟩
        go_wp2_with fail
        refine D.out.mono ?_
        rintro e w3 ⟨rfl, rfl⟩
        go_wp2_with fail
        refine F.out.mono ?_
        rintro e w3 ⟨rfl, rfl⟩
        go_wp2
        go_ret2
        exact ⟨catE_no HN.out _ _ _, hb2.alloc hb2.size _⟩
      · have HN := Lib.hid (hcb.trans hz)
        have HR : Hid (OutE w2 (catI xs ys) (catB xs ys) (.returned (.tuple #[z', .bool true]))) := by
          rw [cat_yes HN.out, HN.out]; exact ⟨_, rfl, rowInts_at HZ.out⟩
        rw [hz] at cz
        have F := Lib.hid cz
        clear cx cy cz hx hy hcb hz
        go_wp2_with fail
        refine C.out.mono ?_
        rintro e w3 ⟨rfl, rfl⟩
        go_wp2_with fail
        refine D.out.mono ?_
        rintro e w3 ⟨rfl, rfl⟩
        go_wp2_with fail
        refine F.out.mono ?_
        rintro e w3 ⟨rfl, rfl⟩
        go_wp2
        go_ret2
        exact ⟨HR.out, hb2⟩
set_option maxHeartbeats 1000000 in
/-- The copy of a slice of ints is new memory of its own. -/
theorem toI_full (v : Value) (xs : List Int) (w : World) (h : IntsAt w v xs) (hn : xs.length ≤ 1048576) :
    Calls Try.prog 29 #[v] w fun e w' => (∃ u, e = .returned u ∧ OwnInts w' w.heap.size u xs.length (fun j => xs.getD j 0) ∧ IntsM w' u xs) ∧ Below w.heap.size w w' := by
  obtain ⟨a, cap, rfl, hcap, h⟩ := h
  obtain ⟨n, hnn⟩ : ∃ n, n = xs.length := ⟨_, rfl⟩
  rw [← hnn] at hn hcap ⊢
  have HN := Lib.hid hnn
  have HC : Hid (0 < n → ∃ bk o, a = some ⟨bk, o, none⟩ ∧ bk < w.heap.size ∧ ∀ (j : Nat) x, xs[j]? = some x → w.cell? ⟨bk, o + j, none⟩ = some (.int .i64 x)) := by
    intro h0
    rcases h with rfl | ⟨bk, o, ha, hk, h⟩
    · simp at hnn; omega
    · exact ⟨bk, o, ha, hk, h⟩
  clear h hnn
  have hmk := run_make_row' (P := Try.prog) 25 3 (.int .i64 0) 8 Try.underlying25 infoInt rfl .i64 .i64 n (by omega) (by omega)
  have HB : Hid (∀ w1 : World, Below w.heap.size w w1 → ∀ (j : Nat) x, 0 < n → xs[j]? = some x → ∃ bk o, a = some ⟨bk, o, none⟩ ∧ bk < w.heap.size ∧ w1.cell? ⟨bk, o + j, none⟩ = some (.int .i64 x)) := by
    intro w1 hb j x h0 hx
    obtain ⟨bk, o, ha, hk, h⟩ := HC.out h0
    exact ⟨bk, o, ha, hk, (hb.cell (p := ⟨bk, o + j, none⟩) hk).trans (h j x hx)⟩
  go_enter Try.func29, Try.ntmps29
  go_wp2
  clear hmk
  obtain ⟨B, hB⟩ : ∃ B, B = w.heap.size := ⟨_, rfl⟩
  have hrow0 := World.rowIs_made w (.int .i64 0) n 3
  have hbel0 : Below w.heap.size w (w.alloc (.cells (madeCells #[.int .i64 0] n) 3)) := (Below.refl _ _).alloc (Nat.le_refl _) _
  rw [← hB] at hrow0 ⊢
  have HBB := Lib.hid hB
  clear hB
  go_loopw [4] (fun i wr => ∃ k : Nat, k ≤ n ∧ i = .int .i64 k ∧ wr.rowIs B 3 n (fun j => if j < k then .int .i64 (xs.getD j 0) else .int .i64 0) ∧ Below w.heap.size w wr) (fun i _ => n - (intOf i).toNat)
  case atStart => exact ⟨0, Nat.zero_le _, rfl, hrow0.congr (fun i _ => rfl), hbel0⟩
  case round =>
    obtain ⟨k, hk, rfl, hrow, hbel⟩ := hrel
    by_cases hlt : k < n
    · obtain ⟨x, hx⟩ : ∃ x, xs[k]? = some x := ⟨_, List.getElem?_eq_getElem (by rw [← HN.out]; exact hlt)⟩
      obtain ⟨bk, o, rfl, hbk, hck⟩ := HB.out wr hbel k x (by omega) hx
      have hcd := hrow.cell hlt
      have hfd := hrow.frozen k
      rw [if_neg (Nat.lt_irrefl k)] at hcd
      have HR : Hid ((wr.setCell ⟨B, k, none⟩ (.int .i64 x)).rowIs B 3 n (fun j => if j < k + 1 then .int .i64 (xs.getD j 0) else .int .i64 0)) := by
        refine (hrow.set k (.int .i64 x)).congr fun j hj => ?_
        by_cases hjk : j = k
        · subst hjk; simp [List.getD, hx]
        · rw [if_neg hjk]
          by_cases hjl : j < k
          · rw [if_pos hjl, if_pos (by omega)]
          · rw [if_neg hjl, if_neg (by omega)]
      have HBl : Hid (Below w.heap.size w (wr.setCell ⟨B, k, none⟩ (.int .i64 x))) := hbel.setCell (by show w.heap.size ≤ B; rw [HBB.out]; exact Nat.le_refl _) _
      clear hx hrow hbel hbk
      go_wp2
      go_roundw
      case rel => exact ⟨k + 1, by omega, by go_num, HR.out, HBl.out⟩
      case measure => simp [intOf]; omega
    · obtain rfl : k = n := by omega
      have HS : Hid (OwnInts wr w.heap.size (.slice (some ⟨B, 0, none⟩) k k) k (fun j => xs.getD j 0)) := by
        rcases Nat.eq_zero_or_pos k with h0 | h0
        · subst h0; exact .inl ⟨rfl, _, _, rfl⟩
        · refine .inr ⟨B, k, rfl, Nat.le_refl _, by rw [HBB.out]; exact Nat.le_refl _, h0, hrow.lt, fun j hj => ?_, fun j => hrow.frozen j⟩
          have := hrow.cell hj
          rw [if_pos hj] at this
          exact this
      have HS2 : Hid (IntsM wr (.slice (some ⟨B, 0, none⟩) k k) xs) := by
        refine .inr ⟨B, 0, k, by rw [← HN.out], by rw [← HN.out]; exact Nat.le_refl _, hrow.lt, fun j x hx => ?_⟩
        have hj : j < k := by
          rcases Nat.lt_or_ge j k with h' | h'
          · exact h'
          · rw [List.getElem?_eq_none (by rw [← HN.out]; exact h')] at hx; cases hx
        have := hrow.cell hj
        rw [if_pos hj] at this
        rw [Nat.zero_add, this]
        simp [List.getD, hx]
      clear hrow
      go_wp2
      go_ret
      exact ⟨⟨_, rfl, HS.out, HS2.out⟩, hbel⟩
end Go.Proofs.Ytkhklidpighmpaa
