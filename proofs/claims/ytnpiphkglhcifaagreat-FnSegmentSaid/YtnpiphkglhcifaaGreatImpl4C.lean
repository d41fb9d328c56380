/-
  CONTRACT of the program's ParseOutline: a range over the parts between the separators, left early where a part is no stroke or the outline is full.
-/
import Derived.Test.YtnpiphkglhcifaaGreatOut
import Derived.Test.YtnpiphkglhcifaaGreatJoin
import Derived.ArgAppend
import Derived.Test.YtnpiphkglhcifaaGreatIter
import Derived.RangeFuncFrom
namespace Go.Proofs.YtnpiphkglhcifaaGreat
set_option maxRecDepth 100000
open Go.RowKit

/-- An answer of ints of its own and a flag. -/
def OutO (base : Nat) (w' : World) (xs : List Int) (b : Bool) (e : Ending) : Prop := ∃ u, e = .returned (.tuple #[u, .bool b]) ∧ OwnInts w' base u xs.length (fun j => xs.getD j 0)
theorem parI_len (t : ByteArray) : (parI t).length ≤ 6 := by unfold parI; rw [outI_len]; exact (Pl.parse_ok _).1
theorem catI_len (xs ys : List Int) : (catI xs ys).length ≤ 6 := by
  unfold catI
  split
  · rename_i h
    unfold catB at h
    rw [Bool.and_eq_true] at h
    exact (okO_parts h.2).2.1
  · exact Nat.zero_le _
structure Impl4 : Prop where
  valid : ∀ (v : Value) (xs : List Int) (w : World), IntsAt w v xs → xs.length ≤ 2097152 → Calls Tryz.prog 59 #[v] w fun e w' => e = .returned (.bool (okO xs)) ∧ Below w.heap.size w w'
end Go.Proofs.YtnpiphkglhcifaaGreat

namespace Go.Proofs.YtnpiphkglhcifaaGreat
set_option maxRecDepth 100000
open Go.RowKit

theorem isLen_any (n : Int) (w : World) :
    Calls Tryz.prog 69 #[.int .i64 n] w fun e w' => e = .returned (.bool (decide (1 ≤ n) && decide (n ≤ 6))) ∧ w = w' := by
  by_cases h : 1 ≤ n
  · go_enter Tryz.func69, Tryz.ntmps69
    go_wp2
    go_ret
    exact ⟨ret_bool (by simp [h]), rfl⟩
  · have h' : n < 1 := by omega
    go_enter Tryz.func69, Tryz.ntmps69
    go_wp2
    go_ret
    exact ⟨ret_bool (by rw [decide_eq_false (by omega : ¬ 1 ≤ n)]; rfl), rfl⟩

set_option maxHeartbeats 1000000 in
theorem areS_any (v : Value) (xs : List Int) (w : World) (h : IntsAt w v xs) (hn : xs.length ≤ 2097152) :
    Calls Tryz.prog 32 #[v] w fun e w' => e = .returned (.bool (xs.all okS)) ∧ w = w' := by
  obtain ⟨a, cap, rfl, hcap, hC⟩ := h.cells
  have HNo : Hid (∀ k x, xs[k]? = some x → okS x = false → xs.all okS = false) := fun k x hx ho => by
    rw [List.all_eq_false]; exact ⟨x, List.mem_of_getElem? hx, by rw [ho]; decide⟩
  obtain ⟨n, hnn⟩ : ∃ n, n = xs.length := ⟨_, rfl⟩
  rw [← hnn] at hn hcap ⊢
  have HN := Lib.hid hnn
  have HC := Lib.hid hC
  have CG := Lib.hid (fun s w => IsValidStroke_any s w)
  obtain ⟨R, hR⟩ : ∃ R, R = xs.all okS := ⟨_, rfl⟩
  rw [← hR] at HNo ⊢
  have HR := Lib.hid hR
  clear h hnn hC hR
  go_enter Tryz.func32, Tryz.ntmps32
  go_wp2_with fail
  go_loopw [7] (fun i wr => ∃ k : Nat, i = .int .i64 k ∧ k ≤ n ∧ Hid ((xs.take k).all okS = true) ∧ wr = w) (fun i _ => n - (intOf i).toNat)
  case atStart => exact ⟨0, rfl, Nat.zero_le _, Lib.hid rfl, rfl⟩
  case round =>
    obtain ⟨k, rfl, hk, HL, rfl⟩ := hrel
    by_cases hlt : k < n
    · obtain ⟨x, hx⟩ : ∃ x, xs[k]? = some x := ⟨_, List.getElem?_eq_getElem (by rw [← HN.out]; exact hlt)⟩
      obtain ⟨bk, o, rfl, _, g0⟩ := HC.out wr (Below.refl _ _) k x hx
      cases hok : okS x
      · have HF := Lib.hid (HNo.out k x hx hok)
        have c := fun w => CG.out x w
        rw [hok] at c
        have C1 := Lib.hid c
        clear c hx hok HL HNo
        go_wp2_with fail
        refine (C1.out _).mono ?_
        rintro e w1 ⟨rfl, rfl⟩
        go_wp2
        go_ret
        exact ⟨ret_bool HF.out.symm, rfl⟩
      · have HL2 := Lib.hid (all_next hx HL.out hok)
        have c := fun w => CG.out x w
        rw [hok] at c
        have C1 := Lib.hid c
        clear c hx hok HL HNo
        go_wp2_with fail
        refine (C1.out _).mono ?_
        rintro e w1 ⟨rfl, rfl⟩
        go_wp2
        go_roundw
        case rel => exact ⟨k + 1, by go_num, by omega, HL2, by trivial⟩
        case measure => simp [intOf]; omega
    · obtain rfl : k = n := by omega
      have HF : Hid (R = true) := by
        have h3 := HL.out
        rw [List.take_of_length_le (by rw [← HN.out]; exact Nat.le_refl _)] at h3
        exact HR.out.trans h3
      clear HL HNo
      go_wp2
      go_ret
      exact ⟨ret_bool HF.out.symm, rfl⟩
set_option maxHeartbeats 1000000 in
theorem Valid_any (v : Value) (xs : List Int) (w : World) (h : IntsAt w v xs) (hn : xs.length ≤ 2097152) :
    Calls Tryz.prog 59 #[v] w fun e w' => e = .returned (.bool (okO xs)) ∧ w = w' := by
  have CA := Lib.hid (areS_any v xs w h hn)
  have cl := fun w => isLen_any (xs.length : Int) w
  obtain ⟨a, cap, rfl, hcap, hC⟩ := h.cells
  have HE : Hid (okO xs = ((decide (1 ≤ (xs.length : Int)) && decide ((xs.length : Int) ≤ 6)) && xs.all okS)) := by
    show _ = _
    unfold okO
    by_cases h1 : 1 ≤ xs.length <;> by_cases h2 : xs.length ≤ 6 <;> simp [h1, h2] <;> omega
  obtain ⟨n, hnn⟩ : ∃ n, n = xs.length := ⟨_, rfl⟩
  obtain ⟨R, hR⟩ : ∃ R, R = okO xs := ⟨_, rfl⟩
  obtain ⟨A, hA⟩ : ∃ A, A = xs.all okS := ⟨_, rfl⟩
  obtain ⟨L, hL⟩ : ∃ L, L = (decide (1 ≤ (n : Int)) && decide ((n : Int) ≤ 6)) := ⟨_, rfl⟩
  rw [← hnn] at hn hcap HE CA cl ⊢
  rw [← hL] at HE cl
  rw [← hA] at HE CA
  rw [← hR] at HE ⊢
  have CL := Lib.hid cl
  clear h hC hnn hR hA hL cl
  cases L
  · go_enter Tryz.func59, Tryz.ntmps59
    go_wp2_with fail
    refine (CL.out _).mono ?_
    rintro e w1 ⟨rfl, rfl⟩
    go_wp2
    go_ret
    exact ⟨ret_bool (by rw [HE.out]; rfl), rfl⟩
  · go_enter Tryz.func59, Tryz.ntmps59
    go_wp2_with fail
    refine (CL.out _).mono ?_
    rintro e w1 ⟨rfl, rfl⟩
    go_wp2_with fail
    refine CA.out.mono ?_
    rintro e w2 ⟨rfl, rfl⟩
    go_wp2
    go_ret
    exact ⟨ret_bool (by rw [HE.out]; rfl), rfl⟩
/-! ### CompareOutlines -/
theorem cmpI_lt {x y : Int} (h : x < y) : Lib.compareInt x y = -1 := by unfold Lib.compareInt; rw [if_pos h]
theorem cmpI_gt {x y : Int} (h : y < x) : Lib.compareInt x y = 1 := by unfold Lib.compareInt; rw [if_neg (by omega), if_pos h]
theorem cmpI_eq (x : Int) : Lib.compareInt x x = 0 := by unfold Lib.compareInt; rw [if_neg (by omega), if_neg (by omega)]
set_option maxHeartbeats 2000000 in
theorem sCompare_any (v u : Value) (xs ys : List Int) (w : World) (h : IntsAt w v xs) (h' : IntsAt w u ys) (hn : xs.length ≤ 2097152) (_hm : ys.length ≤ 2097152) :
    Calls Tryz.prog 68 #[v, u] w fun e w' => e = .returned (.int .i64 (Pl.cmp xs ys)) ∧ Below w.heap.size w w' := by
  obtain ⟨a, cap, rfl, hcap, hC⟩ := h.cells
  obtain ⟨b, cap', rfl, hcap', hD⟩ := h'.cells
  obtain ⟨n, hnn⟩ : ∃ n, n = xs.length := ⟨_, rfl⟩
  obtain ⟨m, hmm⟩ : ∃ m, m = ys.length := ⟨_, rfl⟩
  rw [← hnn] at hn hcap ⊢
  rw [← hmm] at hcap' ⊢
  have HN := Lib.hid hnn
  have HM := Lib.hid hmm
  have HC := Lib.hid hC
  have HD := Lib.hid hD
  clear h h' hnn hmm hC hD
  go_enter Tryz.func68, Tryz.ntmps68
  go_wp2_with fail
  go_loopw [11] (fun i wr => ∃ k : Nat, i = .int .i64 k ∧ k ≤ n ∧ k ≤ m ∧ Hid (xs.take k = ys.take k) ∧ Below w.heap.size w wr) (fun i _ => n - (intOf i).toNat)
  case atStart => exact ⟨0, rfl, Nat.zero_le _, Nat.zero_le _, Lib.hid rfl, Below.refl _ _⟩
  case round =>
    obtain ⟨k, rfl, hk, hk', HT, hbel⟩ := hrel
    by_cases hlt1 : k < n
    · obtain ⟨x, hx⟩ : ∃ x, xs[k]? = some x := ⟨_, List.getElem?_eq_getElem (by rw [← HN.out]; exact hlt1)⟩
      obtain ⟨bk, o, rfl, _, g0⟩ := HC.out wr hbel k x hx
      by_cases hlt2 : k < m
      · obtain ⟨y, hy⟩ : ∃ y, ys[k]? = some y := ⟨_, List.getElem?_eq_getElem (by rw [← HM.out]; exact hlt2)⟩
        obtain ⟨bk', o', rfl, _, g1⟩ := HD.out wr hbel k y hy
        have hcmp := Pl.cmp_at HT.out hx hy
        have c := fun w => Tryz.cmp_Compare_int x y w
        have hnl : ¬ ((m : Int) ≤ (k : Int)) := by omega
        by_cases h1 : x < y
        · rw [if_pos h1] at hcmp
          rw [cmpI_lt h1] at c
          have HR := Lib.hid hcmp
          have C := Lib.hid c
          clear hcmp hx hy HT c
          go_wp2_with fail
          refine (C.out _).mono ?_
          rintro e w1 ⟨rfl, rfl⟩
          go_wp2
          go_ret
          exact ⟨ret_int HR.out.symm, hbel⟩
        · rw [if_neg h1] at hcmp
          by_cases h2 : y < x
          · rw [if_pos h2] at hcmp
            rw [cmpI_gt h2] at c
            have HR := Lib.hid hcmp
            have C := Lib.hid c
            clear hcmp hx hy HT c
            go_wp2_with fail
            refine (C.out _).mono ?_
            rintro e w1 ⟨rfl, rfl⟩
            go_wp2
            go_ret
            exact ⟨ret_int HR.out.symm, hbel⟩
          · obtain rfl : x = y := by omega
            rw [cmpI_eq] at c
            have HT2 := Lib.hid (Pl.take_next HT.out hx hy)
            have C := Lib.hid c
            clear hcmp hx hy HT c
            go_wp2_with fail
            refine (C.out _).mono ?_
            rintro e w1 ⟨rfl, rfl⟩
            go_wp2
            go_roundw
            case rel => exact ⟨k + 1, by go_num, by omega, by omega, HT2, hbel⟩
            case measure => simp [intOf]; omega
      · have hcmp := Pl.cmp_end HT.out (by rw [← HN.out]; exact hk) (by rw [← HM.out]; exact hk') (by rw [← HN.out, ← HM.out]; omega)
        rw [← HN.out, ← HM.out, if_neg (by omega), if_pos (by omega)] at hcmp
        have HR := Lib.hid hcmp
        have hle : (m : Int) ≤ (k : Int) := by omega
        clear hcmp hx HT
        go_wp2
        go_ret
        exact ⟨ret_int HR.out.symm, hbel⟩
    · have hcmp := Pl.cmp_end HT.out (by rw [← HN.out]; exact hk) (by rw [← HM.out]; exact hk') (by rw [← HN.out, ← HM.out]; omega)
      rw [← HN.out, ← HM.out] at hcmp
      have hkn : ¬ ((k : Int) < (n : Int)) := by omega
      by_cases h1 : n < m
      · rw [if_pos h1] at hcmp
        have HR := Lib.hid hcmp
        have h1' : (n : Int) < (m : Int) := by omega
        clear hcmp HT
        go_wp2
        go_ret
        exact ⟨ret_int HR.out.symm, hbel⟩
      · rw [if_neg h1, if_neg (by omega)] at hcmp
        have HR := Lib.hid hcmp
        have h1' : ¬ (n : Int) < (m : Int) := by omega
        clear hcmp HT
        go_wp2
        go_ret
        exact ⟨ret_int HR.out.symm, hbel⟩

/-! ### HasPrefix -/
theorem take_beq {xs ys : List Int} (h : ys.length ≤ xs.length) : (xs.take ys.length == ys.take ys.length) = decide (ys <+: xs) := by
  rw [List.take_of_length_le (Nat.le_refl _), ← pre_take h, Bool.eq_iff_iff, beq_iff_eq, decide_eq_true_eq]
theorem IntsAt.block {w : World} {v : Value} {xs : List Int} (h : IntsAt w v xs) (h0 : 0 < xs.length) : ∃ bk o cap, v = .slice (some ⟨bk, o, none⟩) xs.length cap ∧ xs.length ≤ cap ∧ bk < w.heap.size ∧ ∀ (j : Nat) x, xs[j]? = some x → w.cell? ⟨bk, o + j, none⟩ = some (.int .i64 x) := by
  obtain ⟨a, cap, hv, hc, h⟩ := h
  rcases h with rfl | ⟨bk, o, rfl, hk, h⟩
  · simp at h0
  · exact ⟨bk, o, cap, hv, hc, hk, h⟩
end Go.Proofs.YtnpiphkglhcifaaGreat

namespace Go.Proofs.YtnpiphkglhcifaaGreat
set_option maxRecDepth 100000
open Go.RowKit

theorem IntsM.block {w : World} {v : Value} {xs : List Int} (h : IntsM w v xs) (h0 : 0 < xs.length) : ∃ bk o cap, v = .slice (some ⟨bk, o, none⟩) xs.length cap ∧ xs.length ≤ cap ∧ bk < w.heap.size ∧ ∀ (j : Nat) x, xs[j]? = some x → w.cell? ⟨bk, o + j, none⟩ = some (.int .i64 x) := h.at.block h0
theorem outO_no {xs ys : List Int} (h : catB xs ys = false) (base : Nat) (w : World) : OutO base w (catI xs ys) (catB xs ys) (.returned (.tuple #[.slice none 0 0, .bool false])) := by
  rw [cat_no h, h]; exact ⟨_, rfl, .inl ⟨rfl, _, _, rfl⟩⟩
theorem ints_cells {w : World} {bk o : Nat} {xs : List Int} (h : ∀ (j : Nat) x, xs[j]? = some x → w.cell? ⟨bk, o + j, none⟩ = some (.int .i64 x)) : ∀ (j : Nat) u, (xs.map (Value.int .i64))[j]? = some u → w.cell? ⟨bk, o + j, none⟩ = some u := by
  intro j u hu
  rw [List.getElem?_map] at hu
  obtain ⟨z, hz, rfl⟩ := Option.map_eq_some_iff.1 hu
  exact h j z hz
theorem ints_one (xs : List Int) : ∀ u ∈ xs.map (Value.int .i64), u.oneCell' = true := by
  intro u hu
  obtain ⟨z, _, rfl⟩ := List.mem_map.1 hu
  rfl
theorem okO_append {xs ys : List Int} (hx : okO xs = true) (hy : okO ys = true) : okO (xs ++ ys) = decide (xs.length + ys.length ≤ 6) := by
  obtain ⟨x1, x2, x3⟩ := okO_parts hx
  obtain ⟨y1, y2, y3⟩ := okO_parts hy
  by_cases h : xs.length + ys.length ≤ 6
  · rw [decide_eq_true h]
    refine okO_yes (by rw [List.length_append]; omega) (by rw [List.length_append]; exact h) ?_
    rw [List.all_eq_true]
    intro x hx
    rcases List.mem_append.1 hx with h | h
    · exact x3 x h
    · exact y3 x h
  · rw [decide_eq_false h]
    exact okO_no_len (by rw [List.length_append]; omega)

/-! ### FormatOutline -/
def notas (xs : List Int) : List ByteArray := xs.map fun x => notaB x.toNat
theorem notas_len (xs : List Int) : (notas xs).length = xs.length := List.length_map ..
theorem notas_at {xs : List Int} {k : Nat} {x : Int} (h : xs[k]? = some x) : (notas xs).getD k ByteArray.empty = notaB x.toNat := by
  unfold notas; rw [List.getD, List.getElem?_map, h]; rfl
theorem notas_texts (xs : List Int) : Pl.texts (notas xs) = (outN xs).map Pl.nota := by
  unfold Pl.texts notas outN notaB
  rw [List.map_map, List.map_map]; rfl
theorem notas_join (xs : List Int) : (⟨(Lib.join (Pl.texts (notas xs)) [47]).toArray⟩ : ByteArray) = fmtT xs := by
  rw [notas_texts]; rfl
theorem notas_ok {xs : List Int} (h1 : 1 ≤ xs.length) (h2 : xs.length ≤ 6) : Pl.JoinOk (notas xs) 47 := by
  refine ⟨fun e => by have := notas_len xs; rw [e] at this; simp at this; omega, fun x hx => ?_, ?_⟩
  · unfold notas at hx
    obtain ⟨z, _, rfl⟩ := List.mem_map.1 hx
    unfold Pl.has
    rw [decide_eq_false_iff_not]
    exact Pl.nota_slash _
  · rw [notas_texts]
    have := Pl.fmt_len (outN xs)
    rw [outN_len] at this
    unfold Pl.fmt at this
    omega
theorem notas_size (xs : List Int) : ∀ x ∈ notas xs, x.size ≤ 2097152 := by
  intro x hx
  unfold notas at hx
  obtain ⟨z, _, rfl⟩ := List.mem_map.1 hx
  have := notaB_len z.toNat
  omega

end Go.Proofs.YtnpiphkglhcifaaGreat

namespace Go.Proofs.YtnpiphkglhcifaaGreat
set_option maxRecDepth 100000
open Go.RowKit Go.Shelf

attribute [local go_sem] Oper.semAt_some

/-- The strokes of the parts that have come. -/
def gotI (pre : List Tx) : List Int := pre.map fun x => ((Pl.strict x.1.data.toList : Nat) : Int)
theorem gotI_len (pre : List Tx) : (gotI pre).length = pre.length := List.length_map ..
theorem gotI_next (pre : List Tx) (x : Tx) : gotI (pre ++ [x]) = gotI pre ++ [((Pl.strict x.1.data.toList : Nat) : Int)] := by unfold gotI; rw [List.map_append]; rfl
theorem reading_split (t : ByteArray) : (Pl.splitB t 47).map (fun b => Pl.strict b.data.toList) = Pl.reading t.data.toList := by
  unfold Pl.splitB Pl.ofLists Pl.reading
  rw [List.map_map]; rfl
theorem gotI_all {t : ByteArray} {ys : List Tx} (h : ys.map (·.1) = Pl.splitB t 47) : gotI ys = outI (Pl.reading t.data.toList) := by
  rw [← reading_split, ← h]
  unfold gotI outI
  rw [List.map_map, List.map_map]; rfl
theorem got_yes {t : ByteArray} {ys : List Tx} (h : ys.map (·.1) = Pl.splitB t 47) (h6 : ys.length ≤ 6) (hz : ∀ x ∈ ys, Pl.strict x.1.data.toList ≠ 0) : parI t = gotI ys ∧ parB t = true := by
  have e := gotI_all h
  have hl : (Pl.reading t.data.toList).length = ys.length := by rw [← reading_split, ← h]; simp
  rw [e]
  refine par_yes (by omega) ?_
  intro n hn
  rw [← reading_split, ← h, List.map_map] at hn
  obtain ⟨x, hx, rfl⟩ := List.mem_map.1 hn
  exact hz x hx
theorem got_no {t : ByteArray} {pre : List Tx} (h : pre.map (·.1) <+: Pl.splitB t 47) (hb : 6 < pre.length ∨ ∃ x ∈ pre, Pl.strict x.1.data.toList = 0) : parI t = [] ∧ parB t = false := by
  refine par_no ?_
  have hp : pre.map (fun x => Pl.strict x.1.data.toList) <+: Pl.reading t.data.toList := by
    rw [← reading_split]
    have := h.map (fun b => Pl.strict b.data.toList)
    rw [List.map_map] at this
    exact this
  rcases hb with hb | ⟨x, hx, h0⟩
  · refine Pl.parse_no_len ?_
    have := hp.length_le
    rw [List.length_map] at this
    omega
  · exact Pl.parse_no_at (hp.subset (List.mem_map.2 ⟨x, hx, h0⟩)) rfl
theorem outO_bad {t : ByteArray} (h : parI t = [] ∧ parB t = false) (base : Nat) (w : World) : OutO base w (parI t) (parB t) (.returned (.tuple #[.slice none 0 0, .bool false])) := by
  rw [h.1, h.2]; exact ⟨_, rfl, .inl ⟨rfl, _, _, rfl⟩⟩
theorem boxed_below {W W' : World} {B : Nat} {t : TypeId} {v : Value} (h : Boxed W B t v) (hb : Below W.heap.size W W') : Boxed W' B t v := (hb.block B h.lt).trans h
theorem keeps_below {W W' : World} (hb : Below W.heap.size W W') : KeepsOthers W W' := ⟨hb.size, fun k _ hk _ => (hb.block k (Array.getElem?_eq_some_iff.1 hk).1).trans hk⟩
theorem boxed_keeps {W W' : World} {row : Option Nat} {B : Nat} {t : TypeId} {v : Value} (h : Boxed W B t v) (hg : W.grownBy W' row) (hr : ∀ r, row = some r → ∃ o : Obj, W.heap[r]? = some o ∧ o.isCells = false) : Boxed W' B t v := boxed_own (β := Unit) B t (fun _ => v) () W W' row h hg hr
theorem boxed_drewN {W : World} {B : Nat} {t : TypeId} {v : Value} (h : Boxed W B t v) (k : Nat) : Boxed (W.drewN k) B t v := h

theorem five_boxes (w : World) (t0 t1 t2 t3 t4 : TypeId) (v0 v1 v2 v3 v4 : Value) (W0 : World) (h : (((((w.alloc (.cells #[v0] t0)).alloc (.cells #[v1] t1)).alloc (.cells #[v2] t2)).alloc (.cells #[v3] t3)).alloc (.cells #[v4] t4)) = W0) :
    W0.heap.size = w.heap.size + 5 ∧ Boxed W0 w.heap.size t0 v0 ∧ Boxed W0 (w.heap.size + 1) t1 v1 ∧ Boxed W0 (w.heap.size + 1 + 1) t2 v2 ∧ Boxed W0 (w.heap.size + 1 + 1 + 1) t3 v3 ∧ Boxed W0 (w.heap.size + 1 + 1 + 1 + 1) t4 v4 ∧ Below w.heap.size w W0 := by
  subst h
  have c0 := Boxed.new w t0 v0
  have c1 := Boxed.new (w.alloc (.cells #[v0] t0)) t1 v1
  have c2 := Boxed.new ((w.alloc (.cells #[v0] t0)).alloc (.cells #[v1] t1)) t2 v2
  have c3 := Boxed.new (((w.alloc (.cells #[v0] t0)).alloc (.cells #[v1] t1)).alloc (.cells #[v2] t2)) t3 v3
  have c4 := Boxed.new ((((w.alloc (.cells #[v0] t0)).alloc (.cells #[v1] t1)).alloc (.cells #[v2] t2)).alloc (.cells #[v3] t3)) t4 v4
  simp only [World.size_alloc] at c1 c2 c3 c4
  refine ⟨by simp only [World.size_alloc], (((c0.alloc _).alloc _).alloc _).alloc _, ((c1.alloc _).alloc _).alloc _, (c2.alloc _).alloc _, c3.alloc _, c4, ?_⟩
  refine (((((Below.refl _ w).alloc (Nat.le_refl _) _).alloc ?_ _).alloc ?_ _).alloc ?_ _).alloc ?_ _ <;> simp only [World.size_alloc] <;> omega

end Go.Proofs.YtnpiphkglhcifaaGreat
