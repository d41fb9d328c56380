/-
  CONTRACTS of the program's chapter 4, the second part: ConcatOutlines, FormatOutline.
-/
import Derived.Test.YtfnhehcdbngkgaaImpl4A
import Derived.Test.YtfnhehcdbngkgaaJoin
import Derived.ArgAppend
namespace Go.Proofs.Ytfnhehcdbngkgaa
open Go.RowKit

theorem IntsM.block {w : World} {v : Value} {xs : List Int} (h : IntsM w v xs) (h0 : 0 < xs.length) : ∃ bk o cap, v = .slice (some ⟨bk, o, none⟩) xs.length cap ∧ xs.length ≤ cap ∧ bk < w.heap.size ∧ ∀ (j : Nat) x, xs[j]? = some x → w.cell? ⟨bk, o + j, none⟩ = some (.int .i64 x) := h.at.block h0
theorem outO_no {xs ys : List Int} (h : catB xs ys = false) (base : Nat) (w : World) : OutO base w (catI xs ys) (catB xs ys) (.returned (.tuple #[.slice none 0 0, .bool false])) := by
  rw [cat_no h, h]; exact ⟨_, rfl, .inl ⟨rfl, _, _, rfl⟩⟩
theorem ints_cells {w : World} {bk o : Nat} {xs : List Int} (h : ∀ (j : Nat) x, xs[j]? = some x → w.cell? ⟨bk, o + j, none⟩ = some (.int .i64 x)) : ∀ (j : Nat) u, (xs.map (Value.int .i64))[j]? = some u → w.cell? ⟨bk, o + j, none⟩ = some u := by
  intro j u hu
  rw [List.getElem?_map] at hu
  obtain ⟨z, hz, rfl⟩ := Option.map_eq_some_iff.1 hu
  exact h j z hz
theorem ints_one (xs : List Int) : ∀ u ∈ xs.map (Value.int .i64), u.oneCell' = true := by
  intro u hu
  obtain ⟨z, _, rfl⟩ := List.mem_map.1 hu
  rfl
theorem okO_append {xs ys : List Int} (hx : okO xs = true) (hy : okO ys = true) : okO (xs ++ ys) = decide (xs.length + ys.length ≤ 6) := by
  obtain ⟨x1, x2, x3⟩ := okO_parts hx
  obtain ⟨y1, y2, y3⟩ := okO_parts hy
  by_cases h : xs.length + ys.length ≤ 6
  · rw [decide_eq_true h]
    refine okO_yes (by rw [List.length_append]; omega) (by rw [List.length_append]; exact h) ?_
    rw [List.all_eq_true]
    intro x hx
    rcases List.mem_append.1 hx with h | h
    · exact x3 x h
    · exact y3 x h
  · rw [decide_eq_false h]
    exact okO_no_len (by rw [List.length_append]; omega)

set_option maxHeartbeats 2000000 in
theorem Concat_any (v u : Value) (xs ys : List Int) (w : World) (h : IntsM w v xs) (h' : IntsM w u ys) (hn : xs.length ≤ 1048576) (hm : ys.length ≤ 1048576) :
    Calls Try.prog 17 #[v, u] w fun e w' => OutO w.heap.size w' (catI xs ys) (catB xs ys) e ∧ Below w.heap.size w w' := by
  obtain ⟨i0, hi, hz0, hz1, hz2⟩ := info_parts infoInt
  have c := areO_any v u xs ys w h.at h'.at (by omega) (by omega)
  cases hxy : (okO xs && okO ys)
  · obtain ⟨a, cap, rfl, hcap, _⟩ := h.at.cells
    obtain ⟨b, cap', rfl, hcap', _⟩ := h'.at.cells
    have HF : Hid (catB xs ys = false) := by show catB xs ys = false; unfold catB; rw [hxy]; rfl
    rw [hxy] at c
    have C := Lib.hid c
    clear c hxy h h'
    go_enter Try.func17, Try.ntmps17
    go_wp2_with fail
    refine C.out.mono ?_
    rintro e w1 ⟨rfl, rfl⟩
    go_wp2
    go_ret2
    exact ⟨outO_no HF.out _ _, Below.refl _ _⟩
  · have hcb : catB xs ys = okO (xs ++ ys) := by unfold catB; rw [hxy]; rfl
    have hxy' := hxy
    rw [Bool.and_eq_true] at hxy'
    rw [okO_append hxy'.1 hxy'.2] at hcb
    have hx1 := (okO_parts hxy'.1).1
    have hy1 := (okO_parts hxy'.2).1
    obtain ⟨bk, o, cap, rfl, hcap, hk, hcx⟩ := h.block hx1
    obtain ⟨bk', o', cap', rfl, hcap', hk', hcy⟩ := h'.block hy1
    have HCX := Lib.hid (ints_cells hcx)
    have HCY := Lib.hid (ints_cells hcy)
    have HOX := Lib.hid (ints_one xs)
    have HOY := Lib.hid (ints_one ys)
    rw [hxy] at c
    have C := Lib.hid c
    have d := fun w => isLen_any ((xs.length : Int) + (ys.length : Int)) w
    have HLX : Hid ((xs.map (Value.int .i64)).length = xs.length) := List.length_map ..
    have HLY : Hid ((ys.map (Value.int .i64)).length = ys.length) := List.length_map ..
    have HAP : Hid ((xs.map (Value.int .i64)) ++ (ys.map (Value.int .i64)) = (xs ++ ys).map (Value.int .i64)) := (List.map_append ..).symm
    have HLA : Hid ((xs ++ ys).length = xs.length + ys.length) := List.length_append ..
    obtain ⟨n, hnn⟩ : ∃ n, n = xs.length := ⟨_, rfl⟩
    obtain ⟨m, hmm⟩ : ∃ m, m = ys.length := ⟨_, rfl⟩
    rw [← hnn] at hn hcap hx1 C d HLX HLA hcb ⊢
    rw [← hmm] at hm hcap' hy1 C d HLY HLA hcb ⊢
    by_cases h6 : n + m ≤ 6
    · rw [show (decide (1 ≤ (n : Int) + (m : Int)) && decide ((n : Int) + (m : Int) ≤ 6)) = true by simp; omega] at d
      have D := Lib.hid d
      rw [decide_eq_true h6] at hcb
      have HT := Lib.hid hcb
      clear h h' c d hxy hxy' hcx hcy hcb hnn hmm
      go_enter Try.func17, Try.ntmps17
      go_wp2_with fail
      refine C.out.mono ?_
      rintro e w1 ⟨rfl, rfl⟩
      go_wp2_with fail
      refine (D.out _).mono ?_
      rintro e w1 ⟨rfl, rfl⟩
      go_wp2_with (at_builtin; refine wpList_append_grows _ rfl _ _ 25 rfl 3 i0 (.int .i64 0) 1 8 Try.underlying25 hi hz0 hz1 hz2 rfl (by decide) (some ⟨bk, o, none⟩) n n (xs.map (.int .i64)) rfl (fun h => by cases h) (by rw [HLX.out, Nat.mul_one]) ?c0 ⟨bk', o', none⟩ m cap' (ys.map (.int .i64)) rfl (by rw [HLY.out, Nat.mul_one]) ?c1 HOY.out (by omega) (by unfold maxLen; omega) (by omega) ?_)
      case c0 => intro b hb j x hx; injection hb with hb; subst hb; rw [Addr.add_lit]; exact HCX.out j x hx
      case c1 => intro j x hx; rw [Addr.add_lit]; exact HCY.out j x hx
      intro v' w' hown hg
      have hb : Below w.heap.size w w' := (Below.refl _ w).grown hg (Nat.le_refl _) (fun k e => by cases e)
      have HR : Hid (OutO w.heap.size w' (catI xs ys) (catB xs ys) (.returned (.tuple #[v', .bool true]))) := by
        rw [cat_yes HT.out, HT.out]
        refine ⟨v', rfl, ownInts_of ?_⟩
        rw [HLA.out, ← HAP.out]
        exact hown
      clear hown hg
      go_wp2
      go_ret2
      exact ⟨HR.out, hb⟩
    · rw [show (decide (1 ≤ (n : Int) + (m : Int)) && decide ((n : Int) + (m : Int) ≤ 6)) = false by simp; omega] at d
      have D := Lib.hid d
      rw [decide_eq_false h6] at hcb
      have HF := Lib.hid hcb
      clear h h' c d hxy hxy' hcx hcy hcb hnn hmm
      go_enter Try.func17, Try.ntmps17
      go_wp2_with fail
      refine C.out.mono ?_
      rintro e w1 ⟨rfl, rfl⟩
      go_wp2_with fail
      refine (D.out _).mono ?_
      rintro e w1 ⟨rfl, rfl⟩
      go_wp2
      go_ret2
      exact ⟨outO_no HF.out _ _, Below.refl _ _⟩

/-! ### FormatOutline -/
def notas (xs : List Int) : List ByteArray := xs.map fun x => notaB x.toNat
theorem notas_len (xs : List Int) : (notas xs).length = xs.length := List.length_map ..
theorem notas_at {xs : List Int} {k : Nat} {x : Int} (h : xs[k]? = some x) : (notas xs).getD k ByteArray.empty = notaB x.toNat := by
  unfold notas; rw [List.getD, List.getElem?_map, h]; rfl
theorem notas_texts (xs : List Int) : Pl.texts (notas xs) = (outN xs).map Pl.nota := by
  unfold Pl.texts notas outN notaB
  rw [List.map_map, List.map_map]; rfl
theorem notas_join (xs : List Int) : (⟨(Lib.join (Pl.texts (notas xs)) [47]).toArray⟩ : ByteArray) = fmtT xs := by
  rw [notas_texts]; rfl
theorem notas_ok {xs : List Int} (h1 : 1 ≤ xs.length) (h2 : xs.length ≤ 6) : Pl.JoinOk (notas xs) 47 := by
  refine ⟨fun e => by have := notas_len xs; rw [e] at this; simp at this; omega, fun x hx => ?_, ?_⟩
  · unfold notas at hx
    obtain ⟨z, _, rfl⟩ := List.mem_map.1 hx
    unfold Pl.has
    rw [decide_eq_false_iff_not]
    exact Pl.nota_slash _
  · rw [notas_texts]
    have := Pl.fmt_len (outN xs)
    rw [outN_len] at this
    unfold Pl.fmt at this
    omega
theorem notas_size (xs : List Int) : ∀ x ∈ notas xs, x.size ≤ 2097152 := by
  intro x hx
  unfold notas at hx
  obtain ⟨z, _, rfl⟩ := List.mem_map.1 hx
  have := notaB_len z.toNat
  omega

set_option maxHeartbeats 2000000 in
theorem Format_any (v : Value) (xs : List Int) (w : World) (h : IntsAt w v xs) (hn : xs.length ≤ 2097152) :
    Calls Try.prog 20 #[v] w fun e w' => e = fmtE xs ∧ Below w.heap.size w w' := by
  have c := Valid_any v xs w h hn
  cases hg : okO xs
  · rw [hg] at c
    rw [fmtE_no hg]
    have C := Lib.hid c
    obtain ⟨a, cap, rfl, hcap, _⟩ := h.cells
    clear c h hg
    go_enter Try.func20, Try.ntmps20
    go_wp2_with fail
    refine C.out.mono ?_
    rintro e w1 ⟨rfl, rfl⟩
    go_wp2
    go_ret2
    exact ⟨rfl, Below.refl _ _⟩
  · obtain ⟨h1, h6, h3⟩ := okO_parts hg
    rw [hg] at c
    rw [fmtE_yes hg]
    have C := Lib.hid c
    have hJ : ∀ (v : Value) (w : World), StrsAt w v (notas xs) → Calls Try.prog 50 #[v, .string ⟨#[47]⟩] w fun e w' => e = .returned (.tuple #[.string (fmtT xs), .bool true]) ∧ Below w.heap.size w w' := by
      intro v w hs
      refine (Join_any v (notas xs) 47 w hs (by rw [notas_len]; omega) (notas_size xs)).mono ?_
      rintro e w' ⟨he, hb⟩
      refine ⟨?_, hb⟩
      rw [he.yes (notas_ok h1 h6)]
      unfold joined
      rw [notas_join]
    have HJ := Lib.hid hJ
    have HV : Hid (∀ x ∈ xs, 0 ≤ x ∧ x < 8388608) := fun x hx => by have := okS_iff.1 (h3 x hx); omega
    have HNL := Lib.hid (notas_len xs)
    have HNA : Hid (∀ (k : Nat) x, xs[k]? = some x → (notas xs).getD k ByteArray.empty = notaB x.toNat) := fun k x h => notas_at h
    obtain ⟨ns, hns⟩ : ∃ ns, ns = notas xs := ⟨_, rfl⟩
    obtain ⟨T, hT⟩ : ∃ T, T = fmtT xs := ⟨_, rfl⟩
    rw [← hns] at HJ HNL HNA
    rw [← hT] at HJ ⊢
    have CN := Lib.hid (fun m hm w => notation_any m hm w)
    obtain ⟨a, cap, rfl, hcap, hC⟩ := h.cells
    obtain ⟨n, hnn⟩ : ∃ n, n = xs.length := ⟨_, rfl⟩
    rw [← hnn] at h1 h6 hcap C HNL ⊢
    have HN := Lib.hid hnn
    have HC := Lib.hid hC
    have hmk := run_make_row' (P := Try.prog) 52 9 (.string ByteArray.empty) 16 Try.underlying52 infoStr' rfl .i64 .i64 n (by omega) (by omega)
    clear c h hg h3 hJ hns hT hC hnn hn
    go_enter Try.func20, Try.ntmps20
    go_wp2_with fail
    refine C.out.mono ?_
    rintro e w1 ⟨rfl, rfl⟩
    go_wp2_with fail
    clear hmk
    obtain ⟨B, hB⟩ : ∃ B, B = w.heap.size := ⟨_, rfl⟩
    have hrow0 := World.rowIs_made w (.string ByteArray.empty) n 9
    have hbel0 : Below w.heap.size w (w.alloc (.cells (madeCells #[.string ByteArray.empty] n) 9)) := (Below.refl _ _).alloc (Nat.le_refl _) _
    rw [← hB] at hrow0 ⊢
    have HBB := Lib.hid hB
    clear hB
    go_loopw [15] (fun i wr => ∃ k : Nat, k ≤ n ∧ i = .int .i64 k ∧ Hid (wr.rowIs B 9 n (fun j => if j < k then .string (ns.getD j ByteArray.empty) else .string ByteArray.empty)) ∧ Below w.heap.size w wr) (fun i _ => n - (intOf i).toNat)
    case atStart => exact ⟨0, Nat.zero_le _, rfl, Lib.hid (hrow0.congr (fun i _ => rfl)), hbel0⟩
    case round =>
      obtain ⟨k, hk, rfl, HRow, hbel⟩ := hrel
      by_cases hlt : k < n
      · obtain ⟨x, hx⟩ : ∃ x, xs[k]? = some x := ⟨_, List.getElem?_eq_getElem (by rw [← HN.out]; exact hlt)⟩
        obtain ⟨bk, o, rfl, _, g0⟩ := HC.out wr hbel k x hx
        have hxv := HV.out x (List.mem_of_getElem? hx)
        have hna := HNA.out k x hx
        obtain ⟨q, rfl⟩ := Int.eq_ofNat_of_zero_le hxv.1
        have CN1 := Lib.hid (fun w => CN.out q (by omega) w)
        rw [Int.toNat_natCast] at hna
        obtain ⟨t, ht⟩ : ∃ t, t = notaB q := ⟨_, rfl⟩
        rw [← ht] at CN1 hna
        have HA := Lib.hid hna
        clear hx hxv ht hna
        go_wp2_with fail
        refine (CN1.out _).mono ?_
        rintro e w1 ⟨rfl, hb1⟩
        have hBw : B < wr.heap.size := HRow.out.lt
        have hrow1 : w1.rowIs B 9 n (fun j => if j < k then .string (ns.getD j ByteArray.empty) else .string ByteArray.empty) := HRow.out.of_block (hb1.block B hBw)
        have hcd := hrow1.cell hlt
        have hfd := hrow1.frozen k
        rw [if_neg (Nat.lt_irrefl k)] at hcd
        have hb1' : Below w.heap.size w w1 := hbel.trans (hb1.mono hbel.size)
        have HR : Hid ((w1.setCell ⟨B, k, none⟩ (.string t)).rowIs B 9 n (fun j => if j < k + 1 then .string (ns.getD j ByteArray.empty) else .string ByteArray.empty)) := by
          refine (hrow1.set k (.string t)).congr fun j hj => ?_
          by_cases hjk : j = k
          · subst hjk
            rw [if_pos rfl, if_pos (by omega), HA.out]
          · rw [if_neg hjk]
            by_cases hjl : j < k
            · rw [if_pos hjl, if_pos (by omega)]
            · rw [if_neg hjl, if_neg (by omega)]
        have HBl : Hid (Below w.heap.size w (w1.setCell ⟨B, k, none⟩ (.string t))) := hb1'.setCell (by show w.heap.size ≤ B; rw [HBB.out]; exact Nat.le_refl _) _
        clear hrow1 hb1 hb1' hbel HRow
        go_wp2
        go_roundw
        case rel => exact ⟨k + 1, by omega, by go_num, HR, HBl.out⟩
        case measure => simp [intOf]; omega
      · obtain rfl : k = n := by omega
        have HS : Hid (StrsAt wr (.slice (some ⟨B, 0, none⟩) k k) ns) := by
          refine ⟨_, k, by rw [HNL.out], by rw [HNL.out]; exact Nat.le_refl _, .inr ⟨B, 0, rfl, HRow.out.lt, fun j x hx => ?_⟩⟩
          have hj : j < k := by
            rcases Nat.lt_or_ge j k with h' | h'
            · exact h'
            · rw [List.getElem?_eq_none (by rw [HNL.out]; exact h')] at hx; cases hx
          have := HRow.out.cell hj
          rw [if_pos hj] at this
          rw [Nat.zero_add, this]
          simp [List.getD, hx]
        have HJ1 := Lib.hid (HJ.out _ wr HS.out)
        clear HRow HS
        go_wp2_with fail
        refine HJ1.out.mono ?_
        rintro e w2 ⟨rfl, hb2⟩
        have HB2 := Lib.hid (hbel.trans (hb2.mono hbel.size))
        clear hb2
        go_wp2
        go_ret2
        exact ⟨rfl, HB2.out⟩
end Go.Proofs.Ytfnhehcdbngkgaa
