/-
  CONTRACTS of the program's chapter 4, the second part: ConcatOutlines, FormatOutline.
-/
import Derived.Test.YtcpjpjdfddmncaaImpl4A
import Derived.Test.YtcpjpjdfddmncaaJoin
import Derived.ArgAppend
namespace Go.Proofs.Ytcpjpjdfddmncaa
set_option maxRecDepth 100000
open Go.RowKit

theorem IntsM.block {w : World} {v : Value} {xs : List Int} (h : IntsM w v xs) (h0 : 0 < xs.length) : ∃ bk o cap, v = .slice (some ⟨bk, o, none⟩) xs.length cap ∧ xs.length ≤ cap ∧ bk < w.heap.size ∧ ∀ (j : Nat) x, xs[j]? = some x → w.cell? ⟨bk, o + j, none⟩ = some (.int .i64 x) := h.at.block h0
theorem outO_no {xs ys : List Int} (h : catB xs ys = false) (base : Nat) (w : World) : OutO base w (catI xs ys) (catB xs ys) (.returned (.tuple #[.slice none 0 0, .bool false])) := by
  rw [cat_no h, h]; exact ⟨_, rfl, .inl ⟨rfl, _, _, rfl⟩⟩
theorem ints_cells {w : World} {bk o : Nat} {xs : List Int} (h : ∀ (j : Nat) x, xs[j]? = some x → w.cell? ⟨bk, o + j, none⟩ = some (.int .i64 x)) : ∀ (j : Nat) u, (xs.map (Value.int .i64))[j]? = some u → w.cell? ⟨bk, o + j, none⟩ = some u := by
  intro j u hu
  rw [List.getElem?_map] at hu
  obtain ⟨z, hz, rfl⟩ := Option.map_eq_some_iff.1 hu
  exact h j z hz
theorem ints_one (xs : List Int) : ∀ u ∈ xs.map (Value.int .i64), u.oneCell' = true := by
  intro u hu
  obtain ⟨z, _, rfl⟩ := List.mem_map.1 hu
  rfl
theorem okO_append {xs ys : List Int} (hx : okO xs = true) (hy : okO ys = true) : okO (xs ++ ys) = decide (xs.length + ys.length ≤ 6) := by
  obtain ⟨x1, x2, x3⟩ := okO_parts hx
  obtain ⟨y1, y2, y3⟩ := okO_parts hy
  by_cases h : xs.length + ys.length ≤ 6
  · rw [decide_eq_true h]
    refine okO_yes (by rw [List.length_append]; omega) (by rw [List.length_append]; exact h) ?_
    rw [List.all_eq_true]
    intro x hx
    rcases List.mem_append.1 hx with h | h
    · exact x3 x h
    · exact y3 x h
  · rw [decide_eq_false h]
    exact okO_no_len (by rw [List.length_append]; omega)

/-! ### FormatOutline -/
def notas (xs : List Int) : List ByteArray := xs.map fun x => notaB x.toNat
theorem notas_len (xs : List Int) : (notas xs).length = xs.length := List.length_map ..
theorem notas_at {xs : List Int} {k : Nat} {x : Int} (h : xs[k]? = some x) : (notas xs).getD k ByteArray.empty = notaB x.toNat := by
  unfold notas; rw [List.getD, List.getElem?_map, h]; rfl
theorem notas_texts (xs : List Int) : Pl.texts (notas xs) = (outN xs).map Pl.nota := by
  unfold Pl.texts notas outN notaB
  rw [List.map_map, List.map_map]; rfl
theorem notas_join (xs : List Int) : (⟨(Lib.join (Pl.texts (notas xs)) [47]).toArray⟩ : ByteArray) = fmtT xs := by
  rw [notas_texts]; rfl
theorem notas_ok {xs : List Int} (h1 : 1 ≤ xs.length) (h2 : xs.length ≤ 6) : Pl.JoinOk (notas xs) 47 := by
  refine ⟨fun e => by have := notas_len xs; rw [e] at this; simp at this; omega, fun x hx => ?_, ?_⟩
  · unfold notas at hx
    obtain ⟨z, _, rfl⟩ := List.mem_map.1 hx
    unfold Pl.has
    rw [decide_eq_false_iff_not]
    exact Pl.nota_slash _
  · rw [notas_texts]
    have := Pl.fmt_len (outN xs)
    rw [outN_len] at this
    unfold Pl.fmt at this
    omega
theorem notas_size (xs : List Int) : ∀ x ∈ notas xs, x.size ≤ 2097152 := by
  intro x hx
  unfold notas at hx
  obtain ⟨z, _, rfl⟩ := List.mem_map.1 hx
  have := notaB_len z.toNat
  omega

set_option maxHeartbeats 2000000 in
theorem Format_any (v : Value) (xs : List Int) (w : World) (h : IntsAt w v xs) (hn : xs.length ≤ 2097152) :
    Calls Try.prog 94 #[v] w fun e w' => e = fmtE xs ∧ Below w.heap.size w w' := by
  have c := Valid_any v xs w h hn
  cases hg : okO xs
  · rw [hg] at c
    rw [fmtE_no hg]
    have C := Lib.hid c
    obtain ⟨a, cap, rfl, hcap, _⟩ := h.cells
    clear c h hg
    go_enter Try.func94, Try.ntmps94
    go_wp2_with fail
    refine C.out.mono ?_
    rintro e w1 ⟨rfl, rfl⟩
    go_wp2
    go_ret2
    exact ⟨rfl, Below.refl _ _⟩
  · obtain ⟨h1, h6, h3⟩ := okO_parts hg
    rw [hg] at c
    rw [fmtE_yes hg]
    have C := Lib.hid c
    have hJ : ∀ (v : Value) (w : World), StrsAt w v (notas xs) → Calls Try.prog 116 #[v, .string ⟨#[47]⟩] w fun e w' => e = .returned (.tuple #[.string (fmtT xs), .bool true]) ∧ Below w.heap.size w w' := by
      intro v w hs
      refine (Join_any v (notas xs) 47 w hs (by rw [notas_len]; omega) (notas_size xs)).mono ?_
      rintro e w' ⟨he, hb⟩
      refine ⟨?_, hb⟩
      rw [he.yes (notas_ok h1 h6)]
      unfold joined
      rw [notas_join]
    have HJ := Lib.hid hJ
    have HV : Hid (∀ x ∈ xs, 0 ≤ x ∧ x < 8388608) := fun x hx => by have := okS_iff.1 (h3 x hx); omega
    have HNL := Lib.hid (notas_len xs)
    have HNA : Hid (∀ (k : Nat) x, xs[k]? = some x → (notas xs).getD k ByteArray.empty = notaB x.toNat) := fun k x h => notas_at h
    obtain ⟨ns, hns⟩ : ∃ ns, ns = notas xs := ⟨_, rfl⟩
    obtain ⟨T, hT⟩ : ∃ T, T = fmtT xs := ⟨_, rfl⟩
    rw [← hns] at HJ HNL HNA
    rw [← hT] at HJ ⊢
    have CN := Lib.hid (fun m hm w => notation_any m hm w)
    obtain ⟨a, cap, rfl, hcap, hC⟩ := h.cells
    obtain ⟨n, hnn⟩ : ∃ n, n = xs.length := ⟨_, rfl⟩
    rw [← hnn] at h1 h6 hcap C HNL ⊢
    have HN := Lib.hid hnn
    have HC := Lib.hid hC
    have hmk := run_make_row' (P := Try.prog) 99 9 (.string ByteArray.empty) 16 Try.underlying99 infoStr' rfl .i64 .i64 n (by omega) (by omega)
    clear c h hg h3 hJ hns hT hC hnn hn
    go_enter Try.func94, Try.ntmps94
    go_wp2_with fail
    refine C.out.mono ?_
    rintro e w1 ⟨rfl, rfl⟩
    go_wp2_with fail
    clear hmk
    obtain ⟨B, hB⟩ : ∃ B, B = w.heap.size := ⟨_, rfl⟩
    have hrow0 := World.rowIs_made w (.string ByteArray.empty) n 9
    have hbel0 : Below w.heap.size w (w.alloc (.cells (madeCells #[.string ByteArray.empty] n) 9)) := (Below.refl _ _).alloc (Nat.le_refl _) _
    rw [← hB] at hrow0 ⊢
    have HBB := Lib.hid hB
    clear hB
    go_loopw [15] (fun i wr => ∃ k : Nat, k ≤ n ∧ i = .int .i64 k ∧ Hid (wr.rowIs B 9 n (fun j => if j < k then .string (ns.getD j ByteArray.empty) else .string ByteArray.empty)) ∧ Below w.heap.size w wr) (fun i _ => n - (intOf i).toNat)
    case atStart => exact ⟨0, Nat.zero_le _, rfl, Lib.hid (hrow0.congr (fun i _ => rfl)), hbel0⟩
    case round =>
      obtain ⟨k, hk, rfl, HRow, hbel⟩ := hrel
      by_cases hlt : k < n
      · obtain ⟨x, hx⟩ : ∃ x, xs[k]? = some x := ⟨_, List.getElem?_eq_getElem (by rw [← HN.out]; exact hlt)⟩
        obtain ⟨bk, o, rfl, _, g0⟩ := HC.out wr hbel k x hx
        have hxv := HV.out x (List.mem_of_getElem? hx)
        have hna := HNA.out k x hx
        obtain ⟨q, rfl⟩ := Int.eq_ofNat_of_zero_le hxv.1
        have CN1 := Lib.hid (fun w => CN.out q (by omega) w)
        rw [Int.toNat_natCast] at hna
        obtain ⟨t, ht⟩ : ∃ t, t = notaB q := ⟨_, rfl⟩
        rw [← ht] at CN1 hna
        have HA := Lib.hid hna
        clear hx hxv ht hna
        go_wp2_with fail
        refine (CN1.out _).mono ?_
        rintro e w1 ⟨rfl, hb1⟩
        have hBw : B < wr.heap.size := HRow.out.lt
        have hrow1 : w1.rowIs B 9 n (fun j => if j < k then .string (ns.getD j ByteArray.empty) else .string ByteArray.empty) := HRow.out.of_block (hb1.block B hBw)
        have hcd := hrow1.cell hlt
        have hfd := hrow1.frozen k
        rw [if_neg (Nat.lt_irrefl k)] at hcd
        have hb1' : Below w.heap.size w w1 := hbel.trans (hb1.mono hbel.size)
        have HR : Hid ((w1.setCell ⟨B, k, none⟩ (.string t)).rowIs B 9 n (fun j => if j < k + 1 then .string (ns.getD j ByteArray.empty) else .string ByteArray.empty)) := by
          refine (hrow1.set k (.string t)).congr fun j hj => ?_
          by_cases hjk : j = k
          · subst hjk
            rw [if_pos rfl, if_pos (by omega), HA.out]
          · rw [if_neg hjk]
            by_cases hjl : j < k
            · rw [if_pos hjl, if_pos (by omega)]
            · rw [if_neg hjl, if_neg (by omega)]
        have HBl : Hid (Below w.heap.size w (w1.setCell ⟨B, k, none⟩ (.string t))) := hb1'.setCell (by show w.heap.size ≤ B; rw [HBB.out]; exact Nat.le_refl _) _
        clear hrow1 hb1 hb1' hbel HRow
        go_wp2
        go_roundw
        case rel => exact ⟨k + 1, by omega, by go_num, HR, HBl.out⟩
        case measure => simp [intOf]; omega
      · obtain rfl : k = n := by omega
        have HS : Hid (StrsAt wr (.slice (some ⟨B, 0, none⟩) k k) ns) := by
          refine ⟨_, k, by rw [HNL.out], by rw [HNL.out]; exact Nat.le_refl _, .inr ⟨B, 0, rfl, HRow.out.lt, fun j x hx => ?_⟩⟩
          have hj : j < k := by
            rcases Nat.lt_or_ge j k with h' | h'
            · exact h'
            · rw [List.getElem?_eq_none (by rw [HNL.out]; exact h')] at hx; cases hx
          have := HRow.out.cell hj
          rw [if_pos hj] at this
          rw [Nat.zero_add, this]
          simp [List.getD, hx]
        have HJ1 := Lib.hid (HJ.out _ wr HS.out)
        clear HRow HS
        go_wp2_with fail
        refine HJ1.out.mono ?_
        rintro e w2 ⟨rfl, hb2⟩
        have HB2 := Lib.hid (hbel.trans (hb2.mono hbel.size))
        clear hb2
        go_wp2
        go_ret2
        exact ⟨rfl, HB2.out⟩
end Go.Proofs.Ytcpjpjdfddmncaa
