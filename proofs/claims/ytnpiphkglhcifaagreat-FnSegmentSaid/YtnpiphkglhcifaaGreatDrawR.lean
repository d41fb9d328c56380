/-
  DRAWS of chapter 6: DrawReverseLookup, DrawIsValidDictionary, DrawFormatDictionary, DrawParseDictionary.
-/
import Derived.Test.YtnpiphkglhcifaaGreatDictE
import Derived.Test.YtnpiphkglhcifaaGreatPD
import Derived.Test.YtnpiphkglhcifaaGreatDrawO
import Derived.Test.YtnpiphkglhcifaaGreatDrawD
import Derived.Deep.Cut
import Derived.Deep.CutBlock
namespace Go.Proofs.YtnpiphkglhcifaaGreat
set_option maxRecDepth 100000
open Go.RowKit

/-- The cursor's block has changed. -/
theorem Rows.keep {w w' : World} {base B : Nat} {v : Value} {us : List (Value × Ent)} (h : Rows w base v us) (hg : w.grownBy w' (some B)) (hB : B < base) : Rows w' base v us := by
  have hrow : v.ownBlock = none ∨ v.ownBlock ≠ some B := by
    cases hv : v.ownBlock with
    | none => exact .inl rfl
    | some k => right; intro e; injection e with e; have := (h.row.lt k hv).1; omega
  refine ⟨h.row.kept hg hrow, fun p hp => ⟨(h.ints p hp).1.touch (T := fun b => b = B) (Touch.grown hg (fun k e => (Option.some.inj e).symm)) fun b hb e => ?_, (h.ints p hp).2⟩⟩
  have := ((h.ints p hp).2 b hb).1
  omega
theorem BoxV.keep {w w' : World} {b B : Nat} {T : TypeId} {v : Value} (h : BoxV w b T v) (hg : w.grownBy w' (some B)) (hB : B < b) : BoxV w' b T v := h.grown hg (by simp; omega)
/-- A world in which this cell holds this. -/
structure Seen (D : Nat) (v : Value) where
  world : World
  cell : world.cell? ⟨D, 0, none⟩ = some v
theorem enCells_setT : ∀ (us : List (Value × Ent)) (j : Nat) (p : Value × Ent), us[j]? = some p → ∀ t, enCells (us.set j (p.1, (p.2.1, t))) = (enCells us).set (j * 2 + 1) (.string t)
  | [], j, p, h, t => by simp at h
  | x :: us, 0, p, h, t => by simp at h; subst h; rfl
  | x :: us, j + 1, p, h, t => by
    have ih := enCells_setT us j p (by simpa using h) t
    show x.1 :: .string x.2.2 :: enCells (us.set j _) = List.set (x.1 :: .string x.2.2 :: enCells us) ((j + 1) * 2 + 1) _
    rw [ih, show (j + 1) * 2 + 1 = (j * 2 + 1) + 1 + 1 by omega]; rfl
theorem enCells_setU : ∀ (us : List (Value × Ent)) (j : Nat) (p : Value × Ent), us[j]? = some p → ∀ u xs, enCells (us.set j (u, (xs, p.2.2))) = (enCells us).set (j * 2) u
  | [], j, p, h, u, xs => by simp at h
  | x :: us, 0, p, h, u, xs => by simp at h; subst h; rfl
  | x :: us, j + 1, p, h, u, xs => by
    have ih := enCells_setU us j p (by simpa using h) u xs
    show x.1 :: .string x.2.2 :: enCells (us.set j _) = List.set (x.1 :: .string x.2.2 :: enCells us) ((j + 1) * 2) _
    rw [ih, show (j + 1) * 2 = j * 2 + 1 + 1 by omega]; rfl
/-- A cell of an own row is set. -/
theorem own_setC {w : World} {base size n : Nat} {e : TypeId} {v : Value} {xs : List Value} (h : w.ownsRow base e size v n xs) (hn : 0 < n) (i : Nat) (hi : i < n * size) (x : Value) :
    ∃ g cap, v = .slice (some ⟨g, 0, none⟩) n cap ∧ n ≤ cap ∧ base ≤ g ∧ g < w.heap.size ∧ w.frozen? ⟨g, i, none⟩ = false ∧ (∀ y, xs[i]? = some y → w.cell? ⟨g, i, none⟩ = some y) ∧ (w.setCell ⟨g, i, none⟩ x).ownsRow base e size v n (xs.set i x) := by
  obtain ⟨hlen, ⟨_, h0⟩ | ⟨g, cap, cur, rfl, hb, hg, hnc, hcm, hsz, htake⟩⟩ := h
  · omega
  · have hmul : n * size ≤ cap * size := Nat.mul_le_mul_right _ hnc
    refine ⟨g, cap, rfl, hnc, hb, (Array.getElem?_eq_some_iff.1 hg).1, by unfold World.frozen?; simp [hg], fun y hy => ?_, by rw [List.length_set]; exact hlen, .inr ⟨g, cap, cur.setIfInBounds i x, rfl, hb, Go.heap_setCell_same w g i _ _ x hg, hnc, hcm, by rw [Array.size_setIfInBounds]; exact hsz, ?_⟩⟩
    · rw [← htake, List.getElem?_take_of_lt hi, Array.getElem?_toList] at hy
      simp [World.cell?, hg, hy]
    · rw [Array.toList_setIfInBounds, ← htake]
      exact List.take_set ..
/-- A text of the row is set. -/
theorem Rows.setT {w : World} {base : Nat} {v : Value} {us : List (Value × Ent)} (h : Rows w base v us) {j : Nat} {p : Value × Ent} (hj : us[j]? = some p) (t : ByteArray) :
    ∃ g cap, v = .slice (some ⟨g, 0, none⟩) us.length cap ∧ us.length ≤ cap ∧ base ≤ g ∧ g < w.heap.size ∧ w.frozen? ⟨g, j * 2 + 1, none⟩ = false ∧ w.cell? ⟨g, j * 2 + 1, none⟩ = some (.string p.2.2) ∧ Rows (w.setCell ⟨g, j * 2 + 1, none⟩ (.string t)) base v (us.set j (p.1, (p.2.1, t))) := by
  have hl := (List.getElem?_eq_some_iff.1 hj).1
  obtain ⟨g, cap, hv, hc, hb, hlt, hf, hcell, hrow⟩ := own_setC h.row (by omega) (j * 2 + 1) (by omega) (.string t)
  refine ⟨g, cap, hv, hc, hb, hlt, hf, hcell _ (enCells_at us j p hj).2, ?_, fun q hq => ?_⟩
  · rw [List.length_set, enCells_setT us j p hj t]; exact hrow
  · have hq' : ∃ q' ∈ us, q'.1 = q.1 ∧ q'.2.1 = q.2.1 := by
      rcases List.mem_or_eq_of_mem_set hq with hq | rfl
      · exact ⟨q, hq, rfl, rfl⟩
      · exact ⟨p, List.mem_of_getElem? hj, rfl, rfl⟩
    obtain ⟨q', hm, e1, e2⟩ := hq'
    obtain ⟨h1, h2⟩ := h.ints q' hm
    rw [e1, e2] at h1
    rw [e1] at h2
    refine ⟨h1.touch (T := fun b => b = g) (Touch.grown (grown_setC w g _ _) (fun k e => (Option.some.inj e).symm)) fun b hb' e => ?_, h2⟩
    subst e
    exact (h2 b hb').2 (by rw [hv]; rfl)
/-- An outline of the row is set. -/
theorem Rows.setU {w : World} {base : Nat} {v : Value} {us : List (Value × Ent)} (h : Rows w base v us) {j : Nat} {p : Value × Ent} (hj : us[j]? = some p) {u : Value} {xs : List Int} (hu : Off w base v.ownBlock u xs) :
    ∃ g cap, v = .slice (some ⟨g, 0, none⟩) us.length cap ∧ us.length ≤ cap ∧ base ≤ g ∧ g < w.heap.size ∧ w.frozen? ⟨g, j * 2, none⟩ = false ∧ w.cell? ⟨g, j * 2, none⟩ = some p.1 ∧ Rows (w.setCell ⟨g, j * 2, none⟩ u) base v (us.set j (u, (xs, p.2.2))) := by
  have hl := (List.getElem?_eq_some_iff.1 hj).1
  obtain ⟨g, cap, hv, hc, hb, hlt, hf, hcell, hrow⟩ := own_setC h.row (by omega) (j * 2) (by omega) u
  refine ⟨g, cap, hv, hc, hb, hlt, hf, hcell _ (enCells_at us j p hj).1, ?_, fun q hq => ?_⟩
  · rw [List.length_set, enCells_setU us j p hj u xs]; exact hrow
  · have ho : Off w base v.ownBlock q.1 q.2.1 := by
      rcases List.mem_or_eq_of_mem_set hq with hq | rfl
      · exact h.ints q hq
      · exact hu
    refine ⟨ho.1.touch (T := fun b => b = g) (Touch.grown (grown_setC w g _ _) (fun k e => (Option.some.inj e).symm)) fun b hb' e => ?_, ho.2⟩
    subst e
    exact (ho.2 b hb').2 (by rw [hv]; rfl)
/-- A drawn dictionary. -/
def DDict (base : Nat) (w' : World) (r : Ending) : Prop := ∃ (v : Value) (us : List (Value × Ent)), r = .returned (dV v) ∧ Rows w' base v us ∧ us.length ≤ 60 ∧ ∀ p ∈ us, p.2.1.length ≤ 8 ∧ p.2.2.size ≤ 60
/-- A drawn entry. -/
def DEnt (base : Nat) (w' : World) (r : Ending) : Prop := ∃ (u : Value) (e : Ent), r = .returned (enV u e.2) ∧ w'.ownsRow base 3 1 u e.1.length (e.1.map (.int .i64)) ∧ e.1.length ≤ 3 ∧ e.2.size ≤ 60
set_option maxHeartbeats 2000000 in
theorem entry_any (B N : Nat) (w : World) (h : Cur w B N) (hN : N ≤ 800000) :
    Calls Tryz.prog 38 #[.pointer (some ⟨B, 0, none⟩)] w fun r w' => DEnt w.heap.size w' r ∧ Cur w' B (N + 100) ∧ w.grownBy w' (some B) := by
  have CO := Lib.hid (fun N w h hN => outline_any B N w h hN)
  have CT := Lib.hid (fun N w h hN => translation_any B N w h hN)
  have hlt := h.lt
  have HC0 := Lib.hid (h.below (below_al w (.cells #[.slice none 0 0, .string ⟨#[]⟩] 45)))
  have HR0 : Hid ((w.alloc (.cells #[.slice none 0 0, .string ⟨#[]⟩] 45)).heap[w.heap.size]? = some (.cells #[.slice none 0 0, .string ⟨#[]⟩] 45 (0, 0))) := heap_alloc_new _ _
  clear h
  go_enter Tryz.func38, Tryz.ntmps38
  go_wp2_with fail
  refine (CO.out _ _ HC0.out (by omega)).mono ?_
  rintro e w1 ⟨⟨v, xs, rfl, ho1, hl1, _⟩, hc1, hg1⟩
  rw [World.size_alloc] at ho1
  have HO1 := Lib.hid ho1
  have HR1 : Hid (w1.heap[w.heap.size]? = some (.cells #[.slice none 0 0, .string ⟨#[]⟩] 45 (0, 0))) := (hg1.block _ (by simp) (by simp; omega)).trans HR0.out
  have HC1 := Lib.hid hc1
  have HG1 := Lib.hid (grown_allocA hg1)
  clear hc1 hg1 ho1 HR0 HC0
  go_wp2_with fail
  refine (CT.out _ _ HC1.out (by omega)).mono ?_
  rintro e w2 ⟨⟨x, hx, rfl⟩, hc2, hg2⟩
  have HO2 := Lib.hid (own_keepI HO1.out hg2 (by omega))
  have HR2 : Hid (w2.heap[w.heap.size]? = some (.cells #[.slice none 0 0, .string ⟨#[]⟩] 45 (0, 0))) := (hg2.block _ (by have := (Array.getElem?_eq_some_iff.1 HR1.out).1; omega) (by simp; omega)).trans HR1.out
  have HC2 := Lib.hid hc2
  have HG2 := Lib.hid (Lib.grownBy_trans HG1.out hg2)
  obtain ⟨a, c, rfl⟩ := (ownInts_of HO2.out).form
  clear hc2 hg2 HO1 HR1 HC1 HG1
  go_wp2_with (with_reducible (show wpList _ _ _ (_ :: _) _ _); refine en_store rfl _ _ rfl w.heap.size _ x _ _ rfl rfl HR2.out rfl ?_)
  (try simp only [Exit.inBlock, Exit.then])
  refine bodyPost_ret (results_cell_row rfl _ _ w.heap.size _ _ _ _ rfl (setRow_heap _ _ _ _ _ _ HR2.out) Tryz.underlying45 rfl (by kernel_rfl)) rfl ?_
  have hk := (setRow_grown (cs' := #[.slice a xs.length c, .string x]) HR2.out).2
  exact ⟨⟨_, (xs, x), rfl, ownsRow_mono (own_keepI HO2.out hk (Nat.lt_succ_self _)) (Nat.le_succ _), hl1, hx⟩, (HC2.out.mono (by omega)).setRow hlt _, grown_setRow HG2.out (Nat.le_refl _) _⟩
set_option maxHeartbeats 4000000 in
theorem dictionary_any (B N : Nat) (w : World) (h : Cur w B N) (hN : N ≤ 700000) :
    Calls Tryz.prog 37 #[.pointer (some ⟨B, 0, none⟩)] w fun r w' => (∃ (v : Value) (us : List (Value × Ent)), r = .returned (dV v) ∧ Rows w' w.heap.size v us ∧ 1 ≤ us.length ∧ us.length ≤ 10 ∧ ∀ p ∈ us, p.2.1.length ≤ 8 ∧ p.2.2.size ≤ 60) ∧ Cur w' B (N + 2000) ∧ w.grownBy w' (some B) := by
  have CP := Lib.hid (fun N n w h hN h0 h1 => pick_any B N n w h hN h0 h1)
  have CE := Lib.hid (fun N w h hN => entry_any B N w h hN)
  have cu := fun v es u e w h hu hn hx he => l6Put_any v es u e w h hu hn hx he
  unfold dV at cu
  have CU := Lib.hid cu
  clear cu
  unfold dV
  have hlt := h.lt
  obtain ⟨w0, hw0⟩ : ∃ w0, w0 = (w.alloc (.cells #[.slice none 0 0] 26)).alloc (.cells #[.slice none 0 0] 26) := ⟨_, rfl⟩
  have hb0 : Below w.heap.size w w0 := by rw [hw0]; exact below_al2 _ _ _
  have hs0 : w0.heap.size = w.heap.size + 1 + 1 := by rw [hw0]; simp
  have HR0 : Hid (BoxV w0 w.heap.size 26 (.slice none 0 0)) := by rw [hw0]; exact (BoxV.new w _ _).below (below_al _ _) (by simp)
  have HD0 : Hid (BoxV w0 (w.heap.size + 1) 26 (.slice none 0 0)) := by
    have e := BoxV.new (w.alloc (.cells #[.slice none 0 0] 26)) 26 (.slice none 0 0)
    rw [World.size_alloc] at e
    rw [hw0]; exact e
  have HC0 := Lib.hid (h.below hb0)
  have HB0 := Lib.hid hb0
  have HW0 := Lib.hid hw0
  clear h hb0 hw0
  go_enter Tryz.func37, Tryz.ntmps37
  go_wp2_with fail
  rw [← HW0.out]
  refine (CP.out _ _ _ HC0.out (by omega) (by omega) (by omega)).mono ?_
  rintro e w1 ⟨⟨r, r0, r1, rfl⟩, hc1, hg1⟩
  obtain ⟨R, rfl⟩ := Int.eq_ofNat_of_zero_le r0
  have HC1 := Lib.hid hc1
  have HG1 : Hid (w.grownBy w1 (some B)) := Lib.grownBy_trans ⟨HB0.out.os, HB0.out.tape, HB0.out.output, HB0.out.size, fun k hk _ => HB0.out.block k hk⟩ hg1
  have HR1 := Lib.hid (HR0.out.keep hg1 hlt)
  have HD1 := Lib.hid (HD0.out.keep hg1 (by omega))
  clear hc1 hg1 HR0 HD0 HC0 HB0 HW0
  go_wp2_with fail
  go_loopw [4] (fun i wr => ∃ (k : Nat) (v : Value) (us : List (Value × Ent)), i = .int .i64 k ∧ k ≤ 9 ∧ us.length + k ≤ 9 ∧ (us = [] → 3 ≤ k) ∧ Hid (BoxV wr w.heap.size 26 (.slice none 0 0)) ∧ Hid (BoxV wr (w.heap.size + 1) 26 v) ∧ Hid (Rows wr (w.heap.size + 1 + 1) v us) ∧ Hid (∀ p ∈ us, p.2.1.length ≤ 8 ∧ p.2.2.size ≤ 60) ∧ Hid (Cur wr B (N + 2000 - 110 * k)) ∧ Hid (w.grownBy wr (some B))) (fun i _ => (intOf i).toNat)
  case atStart => exact ⟨3 + R, _, [], by go_num, by omega, by simp; omega, by omega, HR1, HD1, Rows.nil _ _, fun p hp => by simp at hp, HC1.out.mono (by omega), HG1⟩
  case round =>
    obtain ⟨k, v, us, rfl, hk, hlen, hne, HR, HD, HE, HX, HC, HG⟩ := hrel
    by_cases hpos : 0 < k
    · have hpos' : (0 : Int) < (k : Int) := by omega
      obtain ⟨va, vc, hvf⟩ := HE.out.form
      subst hvf
      have hsr := HG.out.size
      have cD := HD.out.cell
      have kD : ∀ p : Seen (w.heap.size + 1) (.slice va us.length vc), p.world.cell? ⟨w.heap.size + 1, 0, none⟩ = some (.slice va us.length vc) := fun p => p.cell
      go_wp2_with fail
      refine Mx.wp_region_mix (S := fun w' => ∃ p : Seen (w.heap.size + 1) (.slice va us.length vc), w' = p.world) (Mx.ofL [(0, 1), (1, 0), (2, 2), (3, 3), (4, 3)] .done) (by kernel_rfl) (by kernel_rfl) ⟨⟨wr.drew, HD.out.cell⟩, rfl⟩ ?_
      refine Mx.mix1 rfl ?_
      go_big_quiet_step (rfl)
      refine wpQuiet_nil ?_
      refine Mx.mix0 rfl ?_
      go_big_quiet_step (fail)
      refine wpQuiet_nil ?_
      refine Mx.mix2 rfl ?_
      clear cD kD
      go_wp2_with fail
      refine (CE.out _ wr.drew (HC.out.below (below_drew1 (Below.refl _ _))) (by omega)).mono ?_
      rintro r w4 ⟨⟨u, e, rfl, hu, hel, het⟩, hc4, hg4⟩
      have hl := HD.out.lt
      have hdr : Below wr.heap.size wr wr.drew := below_drew1 (Below.refl _ _)
      have HR4 := Lib.hid ((HR.out.below hdr HR.out.lt).keep hg4 hlt)
      have HD4 := Lib.hid ((HD.out.below hdr HD.out.lt).keep hg4 (by omega))
      have HE4 := Lib.hid ((HE.out.below hdr).keep hg4 (by omega))
      have HC4 := Lib.hid hc4
      have HG4 := Lib.hid (Lib.grownBy_trans (Lib.grownBy_below HG.out hdr) hg4)
      have HU4 := Lib.hid (row_M hu)
      have hs4 : wr.heap.size ≤ w4.heap.size := hg4.size
      have HCell := Lib.hid HD4.out.cell
      clear hc4 hg4 hdr hu HR HD HE HC HG
      go_wp2
      refine Mx.mid_normal (fun _ => ⟨⟨_, HCell.out⟩, rfl⟩) ?_
      refine Mx.mix3 rfl ?_
      go_wp2_with fail
      refine (CU.out _ _ _ e w4 HE4.out.at HU4.out (by rw [List.length_map]; omega) (fun x hx => by
        obtain ⟨p, hp, rfl⟩ := List.mem_map.1 hx
        have := HX.out p hp
        exact ⟨by omega, by omega⟩) ⟨by omega, by omega⟩).mono ?_
      rintro r w5 ⟨⟨v5, us5, rfl, hr5, he5⟩, hb5⟩
      obtain ⟨a5, c5, hf5⟩ := hr5.form
      subst hf5
      have hlen5 : us5.length ≤ us.length + 1 := by
        have := Pl.put_len e (us.map (·.2))
        rw [← he5, List.length_map, List.length_map] at this
        exact this
      have hne5 : us5 ≠ [] := fun hh => by
        have := Pl.look_put_same e (us.map (·.2))
        rw [← he5, hh] at this
        cases this
      have HX5 : Hid (∀ p ∈ us5, p.2.1.length ≤ 8 ∧ p.2.2.size ≤ 60) := by
        intro p hp
        have hm : p.2 ∈ Pl.put e (us.map (·.2)) := by rw [← he5]; exact List.mem_map.2 ⟨p, hp, rfl⟩
        rcases Pl.put_mem hm with h | h
        · rw [h]; exact ⟨by omega, het⟩
        · obtain ⟨p', hp', hh⟩ := List.mem_map.1 h
          have := HX.out p' hp'
          rw [hh] at this
          exact this
      have HD5 := Lib.hid (HD4.out.below hb5 HD4.out.lt)
      have HR5 := Lib.hid ((HR4.out.below hb5 HR4.out.lt).other (x := .slice a5 us5.length c5) (g := w.heap.size + 1) (o := 0) (by omega))
      have HE5 := Lib.hid ((hr5.mono (show w.heap.size + 1 + 1 ≤ w4.heap.size by omega)).setCell (B := w.heap.size + 1) (o := 0) (x := .slice a5 us5.length c5) (by omega))
      have HD6 := Lib.hid (HD5.out.set (.slice a5 us5.length c5))
      have HC5 := Lib.hid ((HC4.out.below hb5).setCellA (R := w.heap.size + 1) (by omega) 0 (.slice a5 us5.length c5))
      have HG5 := Lib.hid (grown_setCell (Lib.grownBy_below HG4.out hb5) (R := w.heap.size + 1) (by omega) 0 (.slice a5 us5.length c5))
      have cX := HD5.out.cell
      have fX := HD5.out.frozen
      clear hb5 hr5 he5 HD4 HR4 HE4 HC4 HG4 HU4 HX HD5 HCell
      go_wp2
      refine Mx.mid_normal (fun q => by cases q) ?_
      refine Mx.mix3 rfl ?_
      go_wp2_with fail
      refine Mx.mid_normal (fun q => by cases q) ?_
      refine Mx.mix_nil ?_
      clear cX fX
      go_wp2
      go_roundw
      case rel => exact ⟨k - 1, _, us5, by first | go_num | (congr 1; omega), by omega, by omega, fun hh => absurd hh hne5, HR5, HD6, HE5, HX5, HC5.out.mono (by omega), HG5⟩
      case measure => simp [intOf]; omega
    · obtain rfl : k = 0 := by omega
      obtain ⟨va, vc, hvf⟩ := HE.out.form
      subst hvf
      have hn1 : 1 ≤ us.length := by
        rcases Nat.eq_zero_or_pos us.length with h0 | h0
        · have := hne (List.length_eq_zero_iff.1 h0); omega
        · exact h0
      have cD := HD.out.cell
      have cR := HR.out.cell
      have fR := HR.out.frozen
      go_wp2
      refine bodyPost_ret (results_cell_row rfl _ _ _ _ _ _ _ rfl (HR.out.set _) Tryz.underlying26 rfl (by kernel_rfl)) rfl ?_
      exact ⟨⟨_, us, rfl, (HE.out.setCell (by omega)).mono (by omega), hn1, by omega, HX.out⟩, (HC.out.mono (by omega)).setCellA (by omega) _ _, grown_setCell HG.out (Nat.le_refl _) _ _⟩
/-- A drawn dictionary on its way: its box D, the result's box, its row, the cursor B. -/
structure DS (w wx : World) (D B N L : Nat) (v : Value) (us : List (Value × Ent)) : Prop where
  box : BoxV wx D 26 v
  res : BoxV wx w.heap.size 26 (.slice none 0 0)
  rows : Rows wx (w.heap.size + 1) v us
  av : v.ownBlock ≠ some D
  au : ∀ p ∈ us, p.1.ownBlock ≠ some D
  len : us.length ≤ L
  small : ∀ p ∈ us, p.2.1.length ≤ 8 ∧ p.2.2.size ≤ 60
  cur : Cur wx B N
  grown : w.grownBy wx (some B)
  hD : w.heap.size < D
  hB : B < w.heap.size
theorem DS.keep {w wx wy : World} {D B N N' L : Nat} {v : Value} {us : List (Value × Ent)} (h : DS w wx D B N L v us) (hg : wx.grownBy wy (some B)) (hc : Cur wy B N') : DS w wy D B N' L v us :=
  ⟨h.box.keep hg (by have := h.hD; have := h.hB; omega), h.res.keep hg h.hB, h.rows.keep hg (by have := h.hB; omega), h.av, h.au, h.len, h.small, hc, Lib.grownBy_trans h.grown hg, h.hD, h.hB⟩
theorem DS.below {w wx wy : World} {D B N L : Nat} {v : Value} {us : List (Value × Ent)} (h : DS w wx D B N L v us) (hb : Below wx.heap.size wx wy) : DS w wy D B N L v us :=
  ⟨h.box.below hb h.box.lt, h.res.below hb h.res.lt, h.rows.below hb, h.av, h.au, h.len, h.small, h.cur.below hb, Lib.grownBy_below h.grown hb, h.hD, h.hB⟩
theorem DS.mono {w wx : World} {D B N N' L L' : Nat} {v : Value} {us : List (Value × Ent)} (h : DS w wx D B N L v us) (hN : N ≤ N') (hL : L ≤ L') : DS w wx D B N' L' v us :=
  ⟨h.box, h.res, h.rows, h.av, h.au, Nat.le_trans h.len hL, h.small, h.cur.mono hN, h.grown, h.hD, h.hB⟩
/-- The box's cell is set. -/
theorem DS.put {w wx : World} {D B N L L' : Nat} {v v' : Value} {us us' : List (Value × Ent)} (h : DS w wx D B N L v us) (hr : Rows wx (w.heap.size + 1) v' us') (av : v'.ownBlock ≠ some D) (au : ∀ p ∈ us', p.1.ownBlock ≠ some D)
    (hl : us'.length ≤ L') (hs : ∀ p ∈ us', p.2.1.length ≤ 8 ∧ p.2.2.size ≤ 60) : DS w (wx.setCell ⟨D, 0, none⟩ v') D B N L' v' us' :=
  ⟨h.box.set _, h.res.other (by have := h.hD; omega), hr.setOther av au, av, au, hl, hs, h.cur.setCellA (by have := h.hD; have := h.hB; omega) _ _, grown_setCell h.grown (by have := h.hD; omega) _ _, h.hD, h.hB⟩
theorem DS.clear {w wx : World} {D B N L : Nat} {v : Value} {us : List (Value × Ent)} (h : DS w wx D B N L v us) : DS w (wx.setCell ⟨D, 0, none⟩ (.slice none 0 0)) D B N 0 (.slice none 0 0) [] :=
  h.put (Rows.nil _ _) (by simp [Value.ownBlock]) (fun p hp => by cases hp) (Nat.le_refl _) (fun p hp => by cases hp)
/-- What an append leaves. -/
theorem DS.push {w w4 w5 : World} {D B N L : Nat} {v v' u : Value} {us : List (Value × Ent)} {e : Ent} {o : Obj} (h : DS w w4 D B N L v us) (hR : Rows w5 (w.heap.size + 1) v' (us ++ [(u, e)])) (hg : (w4.alloc o).grownBy w5 v.ownBlock)
    (hat : v'.ownBlock = v.ownBlock ∨ v'.ownBlock = some (w4.heap.size + 1)) (hu : u.ownBlock ≠ some D) (he : e.1.length ≤ 8 ∧ e.2.size ≤ 60) : DS w (w5.setCell ⟨D, 0, none⟩ v') D B N (L + 1) v' (us ++ [(u, e)]) := by
  have hD := h.hD
  have hB := h.hB
  have hlt := h.box.lt
  have hb := below_al w4 o
  have hr : ∀ k, v.ownBlock = some k → w.heap.size + 1 ≤ k := fun k hk => (h.rows.row.lt k hk).1
  have hav : v'.ownBlock ≠ some D := by
    rcases hat with e | e
    · rw [e]; exact h.av
    · rw [e]; intro q; injection q with q; omega
  have hau : ∀ p ∈ us ++ [(u, e)], p.1.ownBlock ≠ some D := by
    intro p hp
    rcases List.mem_append.1 hp with hp | hp
    · exact h.au p hp
    · have : p = (u, e) := by simpa using hp
      subst this; exact hu
  refine ⟨((h.box.below hb hlt).grown hg (fun e => h.av e.symm)).set _, ((h.res.below hb h.res.lt).grown hg (fun e => by have := hr _ e.symm; omega)).other (by omega), hR.setOther hav hau, hav, hau,
    by rw [List.length_append]; have := h.len; simp; omega, ?_, ((h.cur.below hb).rowA hg (fun k hk => by have := hr k hk; omega)).setCellA (by omega) _ _,
    grown_setCell (grown_rowA (Lib.grownBy_below h.grown hb) hg (fun k hk => by have := hr k hk; omega)) (by omega) _ _, hD, hB⟩
  intro p hp
  rcases List.mem_append.1 hp with hp | hp
  · exact h.small p hp
  · have : p = (u, e) := by simpa using hp
    subst this; exact he
/-- A text is set. -/
theorem DS.setT {w wx : World} {D B N L : Nat} {v : Value} {us : List (Value × Ent)} (h : DS w wx D B N L v us) {j : Nat} {p : Value × Ent} (hj : us[j]? = some p) (t : ByteArray) (ht : t.size ≤ 60) :
    ∃ g cap, v = .slice (some ⟨g, 0, none⟩) us.length cap ∧ us.length ≤ cap ∧ wx.frozen? ⟨g, j * 2 + 1, none⟩ = false ∧ wx.cell? ⟨g, j * 2 + 1, none⟩ = some (.string p.2.2) ∧ DS w (wx.setCell ⟨g, j * 2 + 1, none⟩ (.string t)) D B N L v (us.set j (p.1, (p.2.1, t))) := by
  obtain ⟨g, cap, hv, hc, hb, hlt, hf, hcell, hR⟩ := h.rows.setT hj t
  have hgD : g ≠ D := fun e => h.av (by rw [hv, ← e]; rfl)
  have hB := h.hB
  refine ⟨g, cap, hv, hc, hf, hcell, h.box.other hgD, h.res.other (by omega), hR, h.av, fun q hq => ?_, by rw [List.length_set]; exact h.len, fun q hq => ?_, h.cur.setCellA (by omega) _ _, grown_setCell h.grown (by omega) _ _, h.hD, h.hB⟩
  · rcases List.mem_or_eq_of_mem_set hq with hq | rfl
    · exact h.au q hq
    · exact h.au p (List.mem_of_getElem? hj)
  · rcases List.mem_or_eq_of_mem_set hq with hq | rfl
    · exact h.small q hq
    · exact ⟨(h.small p (List.mem_of_getElem? hj)).1, ht⟩
/-- An outline is set. -/
theorem DS.setU {w wx : World} {D B N L : Nat} {v : Value} {us : List (Value × Ent)} (h : DS w wx D B N L v us) {j : Nat} {p : Value × Ent} (hj : us[j]? = some p) {u : Value} {xs : List Int} (hu : Off wx (w.heap.size + 1) v.ownBlock u xs) (hD : u.ownBlock ≠ some D) (hx : xs.length ≤ 8) :
    ∃ g cap, v = .slice (some ⟨g, 0, none⟩) us.length cap ∧ us.length ≤ cap ∧ wx.frozen? ⟨g, j * 2, none⟩ = false ∧ wx.cell? ⟨g, j * 2, none⟩ = some p.1 ∧ DS w (wx.setCell ⟨g, j * 2, none⟩ u) D B N L v (us.set j (u, (xs, p.2.2))) := by
  obtain ⟨g, cap, hv, hc, hb, hlt, hf, hcell, hR⟩ := h.rows.setU hj hu
  have hgD : g ≠ D := fun e => h.av (by rw [hv, ← e]; rfl)
  have hB := h.hB
  refine ⟨g, cap, hv, hc, hf, hcell, h.box.other hgD, h.res.other (by omega), hR, h.av, fun q hq => ?_, by rw [List.length_set]; exact h.len, fun q hq => ?_, h.cur.setCellA (by omega) _ _, grown_setCell h.grown (by omega) _ _, h.hD, h.hB⟩
  · rcases List.mem_or_eq_of_mem_set hq with hq | rfl
    · exact h.au q hq
    · exact hD
  · rcases List.mem_or_eq_of_mem_set hq with hq | rfl
    · exact h.small q hq
    · exact ⟨hx, (h.small p (List.mem_of_getElem? hj)).2⟩
set_option maxHeartbeats 8000000 in
theorem anyDictionary_any (B N : Nat) (w : World) (h : Cur w B N) (hN : N ≤ 600000) :
    Calls Tryz.prog 22 #[.pointer (some ⟨B, 0, none⟩)] w fun r w' => DDict w.heap.size w' r ∧ Cur w' B (N + 4000) ∧ w.grownBy w' (some B) := by
  have CP := Lib.hid (fun N n w h hN h0 h1 => pick_any B N n w h hN h0 h1)
  have C1 := Lib.hid (fun N n w h hN h0 h1 => one_any B N n w h hN h0 h1)
  have cd := fun N w h hN => dictionary_any B N w h hN
  have ce := fun N w h hN => entry_any B N w h hN
  have ca := fun N w h hN => anyOutline_any B N w h hN
  unfold dV at cd
  unfold DEnt enV at ce
  unfold Drawn at ca
  have CD := Lib.hid cd
  have CE := Lib.hid ce
  have CA := Lib.hid ca
  have hlt := h.lt
  unfold DDict dV
  have HC0 := Lib.hid (h.below (below_al w (.cells #[.slice none 0 0] 26)))
  have HR0 : Hid (BoxV (w.alloc (.cells #[.slice none 0 0] 26)) w.heap.size 26 (.slice none 0 0)) := BoxV.new _ _ _
  clear h cd ce ca
  go_enter Tryz.func22, Tryz.ntmps22
  go_wp2_with fail
  refine (CD.out _ _ HC0.out (by omega)).mono ?_
  rintro r w1 ⟨⟨v, us, rfl, hr1, hu1, hl1, hx1⟩, hc1, hg1⟩
  have hs1 := hg1.size
  rw [World.size_alloc] at hr1 hs1
  obtain ⟨va, vc, hvf⟩ := hr1.form
  subst hvf
  obtain ⟨w2, hw2⟩ : ∃ W, W = w1.alloc (.cells #[.slice va us.length vc] 26) := ⟨_, rfl⟩
  have S2 : Hid (DS w w2 w1.heap.size B (N + 2000) 10 (.slice va us.length vc) us) := by
    rw [hw2]
    exact ⟨BoxV.new _ _ _, (HR0.out.keep hg1 hlt).below (below_al _ _) (by omega), hr1.below (below_al _ _), fun e => by have := (hr1.row.lt _ e).2; omega, fun p hp e => by have := intsM_block (hr1.ints p hp).1 _ e; omega, hl1, hx1,
      hc1.below (below_al _ _), Lib.grownBy_below (grown_allocA hg1) (below_al _ _), by omega, hlt⟩
  have HW2 := Lib.hid hw2
  clear hw2 hr1 hl1 hx1 hc1 hg1 HR0 HC0 CD hlt
  go_wp2_with fail
  rw [← HW2.out]
  obtain ⟨D, hD⟩ : ∃ D, D = w1.heap.size := ⟨_, rfl⟩
  rw [← hD] at S2 ⊢
  refine (CP.out _ _ _ S2.out.cur (by omega) (by omega) (by omega)).mono ?_
  rintro r w3 ⟨⟨q, q0, q1, rfl⟩, hc3, hg3⟩
  have S3 := Lib.hid (S2.out.keep hg3 hc3)
  have hwD := S2.out.hD
  have hBw := S2.out.hB
  have hD3 := S3.out.box.lt
  clear hc3 hg3 S2 HW2 hD hs1
  go_upto_block 0 with fail
  go_cut [] from 5 (fun wx => ∃ (v : Value) (us : List (Value × Ent)), Hid (DS w wx D B (N + 2400) 11 v us))
  case first =>
    have hr : q = 0 ∨ q = 1 ∨ q = 2 ∨ q = 3 ∨ 4 ≤ q := by omega
    rcases hr with rfl | rfl | rfl | rfl | hr
    · have cD := S3.out.box.cell
      have kD : ∀ p : Seen D (.slice va us.length vc), p.world.cell? ⟨D, 0, none⟩ = some (.slice va us.length vc) := fun p => p.cell
      go_wp2_with fail
      refine Mx.wp_region_mix (S := fun w' => ∃ p : Seen D (.slice va us.length vc), w' = p.world) (Mx.ofL [(0, 0), (1, 1), (2, 0), (3, 2), (4, 2), (5, 3), (6, 0), (7, 3)] .done) (by kernel_rfl) (by kernel_rfl) ⟨⟨w3.drew, S3.out.box.cell⟩, rfl⟩ ?_
      repeat ((first | refine Mx.mix0 rfl ?_ | refine Mx.mix1 rfl ?_); go_big_quiet_step (rfl); refine wpQuiet_nil ?_)
      refine Mx.mix2 rfl ?_
      clear cD kD
      have S3d := Lib.hid (S3.out.below (below_drew1 (Below.refl _ _)))
      go_wp2_with fail
      refine (CE.out _ w3.drew S3d.out.cur (by omega)).mono ?_
      rintro r w4 ⟨⟨u, e, rfl, hu, hel, het⟩, hc4, hg4⟩
      have hl4 : w3.heap.size ≤ w4.heap.size := hg4.size
      have S4 := Lib.hid (S3d.out.keep hg4 hc4)
      have U4 := Lib.hid (off_new hu S3d.out.rows (by show w.heap.size + 1 ≤ w3.heap.size; omega))
      have HuD : Hid (u.ownBlock ≠ some D) := fun e' => by have := (hu.lt _ e').1; have : w3.heap.size ≤ D := this; omega
      have HCell := Lib.hid S4.out.box.cell
      have HCell2 : ∀ o, Hid ((w4.alloc o).cell? ⟨D, 0, none⟩ = some (.slice va us.length vc)) := fun o => (S4.out.box.below (below_al w4 o) S4.out.box.lt).cell
      obtain ⟨ua, uc, huf⟩ := (ownInts_of hu).form
      subst huf
      clear hu hc4 hg4 S3d S3
      go_wp2
      refine Mx.mid_normal (fun _ => ⟨⟨_, HCell.out⟩, rfl⟩) ?_
      refine Mx.mix2 rfl ?_
      go_wp2
      refine Mx.mid_normal (fun _ => ⟨⟨_, (HCell2 _).out⟩, rfl⟩) ?_
      refine Mx.mix3 rfl ?_
      refine push_ent rfl (.tmp 12) (.tmp 15) rfl (w.heap.size + 1) _ us rfl S4.out.rows _ e U4.out rfl (by omega) (by have := S4.out.len; omega) ?_
      intro v' w5 R5 hg5 hat5
      have S6 := Lib.hid (S4.out.push R5 hg5 hat5 HuD.out ⟨by omega, het⟩)
      have hX := (S4.out.box.below (below_al w4 (.cells #[.slice ua e.1.length uc, .string e.2] 45)) S4.out.box.lt).grown hg5 (fun e => S4.out.av e.symm)
      have cX := hX.cell
      have fX := hX.frozen
      obtain ⟨va', vc', hvf'⟩ := R5.form1
      subst hvf'
      clear R5 hg5 hat5 hX HCell HCell2 U4 HuD S4
      refine Mx.mid_normal (fun q => by cases q) ?_
      simp only [Act.put, List.setIfInBounds_toArray, List.set_cons_zero, List.set_cons_succ]
      repeat ((first | refine Mx.mix0 rfl ?_ | refine Mx.mix1 rfl ?_); go_big_quiet_step (rfl); refine wpQuiet_nil ?_)
      refine Mx.mix3 rfl ?_
      go_wp2
      refine Mx.mid_normal (fun q => by cases q) (Mx.mix_nil ?_)
      go_wp2_with fail
      go_meet
      case rel => exact ⟨_, _, S6.out.mono (by omega) (by omega)⟩
    · obtain ⟨p0, hp0⟩ : ∃ p0, us[0]? = some p0 := ⟨_, List.getElem?_eq_getElem (by omega)⟩
      obtain ⟨g, cap, hv, hcap, _⟩ := S3.out.setT hp0 ByteArray.empty (by decide)
      injection hv with hva hvn hvc
      subst hva hvc
      have cD := S3.out.box.cell
      have kD : ∀ p : Seen D (.slice (some ⟨g, 0, none⟩) us.length vc), p.world.cell? ⟨D, 0, none⟩ = some (.slice (some ⟨g, 0, none⟩) us.length vc) := fun p => p.cell
      go_wp2_with fail
      refine Mx.wp_region_mix (S := fun w' => ∃ p : Seen D (.slice (some ⟨g, 0, none⟩) us.length vc), w' = p.world) (Mx.ofL [(0, 0), (1, 1), (2, 0), (3, 2), (4, 2), (5, 0), (6, 0), (7, 3)] .done) (by kernel_rfl) (by kernel_rfl) ⟨⟨w3.drew, S3.out.box.cell⟩, rfl⟩ ?_
      repeat ((first | refine Mx.mix0 rfl ?_ | refine Mx.mix1 rfl ?_); go_big_quiet_step (rfl); refine wpQuiet_nil ?_)
      refine Mx.mix2 rfl ?_
      clear cD kD
      have S3d := Lib.hid (S3.out.below (below_drew1 (Below.refl _ _)))
      have HCell2 : ∀ o, Hid ((w3.alloc o).drew.cell? ⟨D, 0, none⟩ = some (.slice (some ⟨g, 0, none⟩) us.length vc)) := fun o => (S3.out.box.below (below_al w3 o) S3.out.box.lt).cell
      go_wp2
      refine Mx.mid_normal (fun _ => ⟨⟨_, (HCell2 _).out⟩, rfl⟩) ?_
      refine Mx.mix2 rfl ?_
      go_wp2_with fail
      refine (of_new B _ w3.drew _ 3 S3d.out.cur (by omega) ?_ rfl (by decide) (by decide)).mono ?_
      · kernel_rfl
      rintro r w4 ⟨⟨x, hx, rfl⟩, hc4, hg4⟩
      have S4 := Lib.hid (S3d.out.keep hg4 hc4)
      have HCell := Lib.hid S4.out.box.cell
      obtain ⟨g', cap', hv', _, hf, hcell, hS⟩ := S4.out.setT hp0 x (by omega)
      injection hv' with hva' hvn' hvc'
      injection hva' with hva'
      injection hva' with hva'
      subst hva' hvc'
      have HF : Hid (w4.frozen? ⟨g, 1, none⟩ = false) := hf
      have HC : Hid (w4.cell? ⟨g, 1, none⟩ = some (.string p0.2.2)) := hcell
      have S6 : Hid (DS w (w4.setCell ⟨g, 1, none⟩ (.string x)) D B (N + 2000 + 2 + 2) 10 (.slice (some ⟨g, 0, none⟩) us.length vc) (us.set 0 (p0.1, (p0.2.1, x)))) := hS
      have h0 : 0 < us.length := by omega
      clear hf hcell hS hc4 hg4 S3d S3 S4 HCell2 hp0 hvn hvn'
      go_wp2
      refine Mx.mid_normal (fun _ => ⟨⟨_, HCell.out⟩, rfl⟩) ?_
      repeat ((first | refine Mx.mix0 rfl ?_ | refine Mx.mix1 rfl ?_); go_big_quiet_step (rfl); refine wpQuiet_nil ?_)
      have hfx := HF.out
      have hcx := HC.out
      refine Mx.mix3 rfl ?_
      go_wp2
      refine Mx.mid_normal (fun q => by cases q) (Mx.mix_nil ?_)
      go_wp2_with fail
      go_meet
      case rel => exact ⟨_, _, S6.out.mono (by omega) (by omega)⟩
    · obtain ⟨p0, hp0⟩ : ∃ p0, us[0]? = some p0 := ⟨_, List.getElem?_eq_getElem (by omega)⟩
      obtain ⟨g, cap, hv, hcap, _⟩ := S3.out.setT hp0 ByteArray.empty (by decide)
      injection hv with hva hvn hvc
      subst hva hvc
      have cD := S3.out.box.cell
      have kD : ∀ p : Seen D (.slice (some ⟨g, 0, none⟩) us.length vc), p.world.cell? ⟨D, 0, none⟩ = some (.slice (some ⟨g, 0, none⟩) us.length vc) := fun p => p.cell
      go_wp2_with fail
      refine Mx.wp_region_mix (S := fun w' => ∃ p : Seen D (.slice (some ⟨g, 0, none⟩) us.length vc), w' = p.world) (Mx.ofL [(0, 0), (1, 1), (2, 0), (3, 2), (4, 0), (5, 0), (6, 3)] .done) (by kernel_rfl) (by kernel_rfl) ⟨⟨w3.drew, S3.out.box.cell⟩, rfl⟩ ?_
      repeat ((first | refine Mx.mix0 rfl ?_ | refine Mx.mix1 rfl ?_); go_big_quiet_step (rfl); refine wpQuiet_nil ?_)
      refine Mx.mix2 rfl ?_
      clear cD kD
      have S3d := Lib.hid (S3.out.below (below_drew1 (Below.refl _ _)))
      go_wp2_with fail
      refine (CA.out _ w3.drew S3d.out.cur (by omega)).mono ?_
      rintro r w4 ⟨⟨u, xs, rfl, hu, hxl⟩, hc4, hg4⟩
      have S4 := Lib.hid (S3d.out.keep hg4 hc4)
      have HCell := Lib.hid S4.out.box.cell
      have hof := off_new hu S3d.out.rows (by show w.heap.size + 1 ≤ w3.heap.size; omega)
      obtain ⟨g', cap', hv', _, hf, hcell, hS⟩ := S4.out.setU hp0 hof (fun e' => by have := (hu.lt _ e').1; have : w3.heap.size ≤ D := this; omega) hxl
      injection hv' with hva' hvn' hvc'
      injection hva' with hva'
      injection hva' with hva'
      subst hva' hvc'
      have HF : Hid (w4.frozen? ⟨g, 0, none⟩ = false) := hf
      have HC : Hid (w4.cell? ⟨g, 0, none⟩ = some p0.1) := hcell
      obtain ⟨ua, uc, huf⟩ := (ownInts_of hu).form
      subst huf
      have S6 : Hid (DS w (w4.setCell ⟨g, 0, none⟩ (.slice ua xs.length uc)) D B (N + 2000 + 2 + 100) 10 (.slice (some ⟨g, 0, none⟩) us.length vc) (us.set 0 (.slice ua xs.length uc, (xs, p0.2.2)))) := hS
      have h0 : 0 < us.length := by omega
      clear hf hcell hS hc4 hg4 S3d S3 S4 hp0 hvn hvn' hof hu
      go_wp2
      refine Mx.mid_normal (fun _ => ⟨⟨_, HCell.out⟩, rfl⟩) ?_
      repeat ((first | refine Mx.mix0 rfl ?_ | refine Mx.mix1 rfl ?_); go_big_quiet_step (rfl); refine wpQuiet_nil ?_)
      have hfx := HF.out
      have hcx := HC.out
      refine Mx.mix3 rfl ?_
      go_wp2
      refine Mx.mid_normal (fun q => by cases q) (Mx.mix_nil ?_)
      go_wp2_with fail
      go_meet
      case rel => exact ⟨_, _, S6.out.mono (by omega) (by omega)⟩
    · have cX := S3.out.box.cell
      have fX := S3.out.box.frozen
      have S6 := Lib.hid S3.out.clear
      clear S3
      go_wp2_with fail
      go_meet
      case rel => exact ⟨_, _, S6.out.mono (by omega) (by omega)⟩
    · have n0 : (q == 0) = false := by rw [beq_eq_false_iff_ne]; omega
      have n1 : (q == 1) = false := by rw [beq_eq_false_iff_ne]; omega
      have n2 : (q == 2) = false := by rw [beq_eq_false_iff_ne]; omega
      have n3 : (q == 3) = false := by rw [beq_eq_false_iff_ne]; omega
      go_wp2_with fail
      go_meet
      case rel => exact ⟨_, _, S3.out.mono (by omega) (by omega)⟩
  case rest =>
    obtain ⟨v, us, S0⟩ := hcut
    obtain ⟨va, vc, hvf⟩ := S0.out.rows.form
    subst hvf
    go_wp2_with fail
    refine (C1.out _ _ wc S0.out.cur (by omega) (by omega) (by omega)).mono ?_
    rintro r w5 ⟨⟨b, rfl⟩, hc5, hg5⟩
    have S5 := Lib.hid (S0.out.keep hg5 hc5)
    clear hc5 hg5 S0
    cases b
    · have cX := S5.out.box.cell
      have cR := S5.out.res.cell
      have fR := S5.out.res.frozen
      go_wp2
      refine bodyPost_ret (results_cell_row rfl _ _ _ _ _ _ _ rfl (S5.out.res.set _) Tryz.underlying26 rfl (by kernel_rfl)) rfl ?_
      exact ⟨⟨_, us, rfl, (S5.out.rows.setCell (by omega)).mono (by omega), by have := S5.out.len; omega, S5.out.small⟩, (S5.out.cur.mono (by omega)).setCellA hBw _ _, grown_setCell S5.out.grown (Nat.le_refl _) _ _⟩
    · have cX := S5.out.box.cell
      have fX := S5.out.box.frozen
      have S6 := Lib.hid S5.out.clear
      clear S5
      go_wp2_with fail
      go_loopw [4] (fun i wr => ∃ (k : Nat) (v : Value) (us : List (Value × Ent)), i = .int .i64 ((k + 1 : Nat) : Int) ∧ k ≤ 41 ∧ Hid (DS w wr D B (N + 2500 + 3 * k) k v us)) (fun i _ => 50 - (intOf i).toNat)
      case atStart => exact ⟨0, _, [], by go_num, by omega, S6.out.mono (by omega) (Nat.le_refl _)⟩
      case round =>
        clear cX fX S6
        obtain ⟨k, v, us, rfl, hk, S⟩ := hrel
        obtain ⟨va, vc, hvf⟩ := S.out.rows.form
        subst hvf
        go_wp2_with fail
        refine (CP.out _ _ _ S.out.cur (by omega) (by omega) (by omega)).mono ?_
        rintro r w7 ⟨⟨q, q0, q1, rfl⟩, hc7, hg7⟩
        have S7 := Lib.hid (S.out.keep hg7 hc7)
        have hl7 := S7.out.box.lt
        clear hc7 hg7 S
        by_cases hcd : ((k + 1 : Nat) : Int) ≤ 40 + q
        · have cX := S7.out.box.cell
          have S8 : Hid (DS w (w7.alloc (.cells #[.int .i64 ((k : Int) + 1)] 3)) D B _ k _ us) := S7.out.below (below_al _ _)
          have hU : Hid (Off (w7.alloc (.cells #[.int .i64 ((k : Int) + 1)] 3)) (w.heap.size + 1) (Value.slice va us.length vc).ownBlock (.slice (some ⟨w7.heap.size, 0, none⟩) 1 1) [((k : Int) + 1)]) :=
            ⟨.inr ⟨w7.heap.size, 0, 1, rfl, Nat.le_refl _, by simp, fun j x hx => by
              cases j with
              | zero => simp at hx; subst hx; exact cell_new _ _ _ _
              | succ j => simp at hx⟩, fun b hb => by
              have : b = w7.heap.size := by simpa [Value.ownBlock] using hb.symm
              subst this
              exact ⟨by omega, fun e => by have := (S7.out.rows.row.lt _ e).2; omega⟩⟩
          have hlen := S7.out.len
          have hlt9 : w.heap.size + 1 ≤ (w7.alloc (.cells #[.int .i64 ((k : Int) + 1)] 3)).heap.size := by simp; omega
          clear S7
          go_wp2_with (at_builtin; refine push_ent rfl (.tmp 49) (.tmp 53) rfl (w.heap.size + 1) _ us rfl S8.out.rows (Value.slice (some ⟨w7.heap.size, 0, none⟩) 1 1) (([((k : Int) + 1)], ⟨#[97]⟩) : Ent) hU.out (congrArg (fun x => Value.slice (some ⟨x, 0, none⟩) 1 1) (World.size_alloc ..).symm) hlt9 (by omega) ?_)
          intro v' w9 R9 hg9 hat9
          have S10 := Lib.hid (S8.out.push R9 hg9 (by rw [World.size_alloc]; exact hat9) (fun e => by injection e with e; have : w7.heap.size = D := e; omega) ⟨Nat.le_of_ble_eq_true rfl, Nat.le_of_ble_eq_true rfl⟩)
          have hX := (S8.out.box.below (below_al _ _) S8.out.box.lt).grown hg9 (fun e => S8.out.av e.symm)
          have cY := hX.cell
          have fY := hX.frozen
          obtain ⟨va', vc', hvf'⟩ := R9.form1
          subst hvf'
          clear R9 hg9 hat9 hX S8 hU cX
          go_wp2
          go_roundw
          case rel => exact ⟨k + 1, _, _, by first | go_num | (congr 1; omega), by omega, S10.out.mono (by omega) (by omega)⟩
          case measure => simp [intOf]; omega
        · have cX := S7.out.box.cell
          have cR := S7.out.res.cell
          have fR := S7.out.res.frozen
          go_wp2
          refine bodyPost_ret (results_cell_row rfl _ _ _ _ _ _ _ rfl (S7.out.res.set _) Tryz.underlying26 rfl (by kernel_rfl)) rfl ?_
          exact ⟨⟨_, us, rfl, (S7.out.rows.setCell (by omega)).mono (by omega), by have := S7.out.len; omega, S7.out.small⟩, (S7.out.cur.mono (by omega)).setCellA hBw _ _, grown_setCell S7.out.grown (Nat.le_refl _) _ _⟩
end Go.Proofs.YtnpiphkglhcifaaGreat

namespace Go.Proofs.YtnpiphkglhcifaaGreat
set_option maxRecDepth 100000
open Go.RowKit

theorem Rows.cells {w : World} {base : Nat} {v : Value} {us : List (Value × Ent)} (h : Rows w base v us) (h0 : 0 < us.length) : ∃ g cap, v = .slice (some ⟨g, 0, none⟩) us.length cap ∧ us.length ≤ cap ∧ g < w.heap.size ∧
    ∀ (j : Nat) (p : Value × Ent), us[j]? = some p → w.cell? ⟨g, j * 2, none⟩ = some p.1 ∧ w.cell? ⟨g, j * 2 + 1, none⟩ = some (.string p.2.2) := by
  rcases h.row.2 with ⟨_, h1⟩ | ⟨g, cap, cur, rfl, hbg, hg, hn, hcm, hsz, htake⟩
  · omega
  · have hc : ∀ q x, (enCells us)[q]? = some x → w.cell? ⟨g, q, none⟩ = some x := by
      intro q x hq
      have hql : q < us.length * 2 := by
        rcases Nat.lt_or_ge q (us.length * 2) with h' | h'
        · exact h'
        · rw [List.getElem?_eq_none (by rw [enCells_len]; exact h')] at hq; cases hq
      rw [← htake, List.getElem?_take_of_lt hql] at hq
      simp only [Array.getElem?_toList] at hq
      simp [World.cell?, hg, hq]
    exact ⟨g, cap, rfl, hn, (Array.getElem?_eq_some_iff.1 hg).1, fun j p hp => ⟨hc _ _ (enCells_at us j p hp).1, hc _ _ (enCells_at us j p hp).2⟩⟩
/-- A world in which this cell holds this, and the row its cells. -/
structure SeenR (D : Nat) (v : Value) (g : Nat) (us : List (Value × Ent)) where
  world : World
  cell : world.cell? ⟨D, 0, none⟩ = some v
  row : ∀ (j : Nat) (p : Value × Ent), us[j]? = some p → world.cell? ⟨g, j * 2, none⟩ = some p.1
/-- A drawn dictionary and a drawn list of ints. -/
def DPair (base : Nat) (w' : World) (r : Ending) : Prop := ∃ (v : Value) (us : List (Value × Ent)) (u : Value) (xs : List Int), r = .returned (.tuple #[dV v, u]) ∧ Rows w' base v us ∧ us.length ≤ 60 ∧ (∀ p ∈ us, p.2.1.length ≤ 8 ∧ p.2.2.size ≤ 60) ∧ IntsM w' u xs ∧ xs.length ≤ 8
theorem results_de {fn : Func} {p u : Tmp} (h : fn.results = #[.cell p 26, .cell u 45]) (tmps : Array Value) (w : World) (g g' : Nat) (v x y : Value)
    (hp : tmps.getD p undef = .pointer (some ⟨g, 0, none⟩)) (hg : BoxV w g 26 v) (hq : tmps.getD u undef = .pointer (some ⟨g', 0, none⟩)) (hg' : BoxW w g' 45 x y) :
    (results fn tmps).run Tryz.prog w = .ok (.tuple #[dV v, .agg #[x, y]]) w := by
  have hr := run_loadVar_row (P := Tryz.prog) w g _ 26 _ _ _ hg Tryz.underlying26 rfl (by kernel_rfl)
  have hr' := run_loadVar_row (P := Tryz.prog) w g' _ 45 _ _ _ hg' Tryz.underlying45 rfl (by kernel_rfl)
  have hp' : tmps[p]?.getD undef = .pointer (some ⟨g, 0, none⟩) := by simpa using hp
  have hq' : tmps[u]?.getD undef = .pointer (some ⟨g', 0, none⟩) := by simpa using hq
  simp [results, h, hp', hq', asAddr, hr, hr', Result.andThen, dV]
structure SeenDE (D : Nat) (v : Value) (E : Nat) (x y : Value) where
  world : World
  c0 : world.cell? ⟨D, 0, none⟩ = some v
  c1 : world.cell? ⟨E, 0, none⟩ = some x
  c2 : world.cell? ⟨E, 1, none⟩ = some y
/-- A drawn dictionary and a drawn entry. -/
def DIns (base : Nat) (w' : World) (r : Ending) : Prop := ∃ (v : Value) (us : List (Value × Ent)) (u : Value) (e : Ent), r = .returned (.tuple #[dV v, enV u e.2]) ∧ Rows w' base v us ∧ us.length ≤ 60 ∧ (∀ p ∈ us, p.2.1.length ≤ 8 ∧ p.2.2.size ≤ 60) ∧ IntsM w' u e.1 ∧ e.1.length ≤ 8 ∧ e.2.size ≤ 60
theorem BoxW.grown {w w' : World} {b B : Nat} {T : TypeId} {x y : Value} (h : BoxW w b T x y) (hg : w.grownBy w' (some B)) (hB : b ≠ B) : BoxW w' b T x y := (hg.block b h.lt (by simp; omega)).trans h
structure DI (w wx : World) (D N : Nat) (v : Value) (us : List (Value × Ent)) : Prop where
  box : BoxV wx D 26 v
  res : BoxV wx w.heap.size 26 (.slice none 0 0)
  ren : BoxW wx (w.heap.size + 1) 45 (.slice none 0 0) (.string ⟨#[]⟩)
  rows : Rows wx (w.heap.size + 3) v us
  cur : Cur wx (w.heap.size + 2) N
  low : Below w.heap.size w wx
  hD : w.heap.size + 2 < D
theorem DI.keep {w wx wy : World} {D N N' : Nat} {v : Value} {us : List (Value × Ent)} (h : DI w wx D N v us) (hg : wx.grownBy wy (some (w.heap.size + 2))) (hc : Cur wy (w.heap.size + 2) N') : DI w wy D N' v us :=
  ⟨h.box.keep hg h.hD, h.res.grown hg (by simp), h.ren.grown hg (by omega), h.rows.keep hg (by omega), hc, h.low.grown hg h.low.size (fun b e => by injection e with e; omega), h.hD⟩
theorem DI.below {w wx wy : World} {D N : Nat} {v : Value} {us : List (Value × Ent)} (h : DI w wx D N v us) (hb : Below wx.heap.size wx wy) : DI w wy D N v us :=
  ⟨h.box.below hb h.box.lt, h.res.below hb h.res.lt, h.ren.below hb h.ren.lt, h.rows.below hb, h.cur.below hb, h.low.trans (hb.mono h.low.size), h.hD⟩
theorem DI.fin {w wx : World} {D N : Nat} {v u : Value} {us : List (Value × Ent)} {xs : List Int} (h : DI w wx D N v us) (hi : IntsM wx u xs) (hu : ∀ b, u.ownBlock = some b → w.heap.size + 2 < b) (t : ByteArray) :
    BoxV ((wx.drew.setCell ⟨w.heap.size, 0, none⟩ v).setRow (w.heap.size + 1) #[u, .string t]) w.heap.size 26 v ∧ BoxW ((wx.drew.setCell ⟨w.heap.size, 0, none⟩ v).setRow (w.heap.size + 1) #[u, .string t]) (w.heap.size + 1) 45 u (.string t) ∧
      Rows ((wx.drew.setCell ⟨w.heap.size, 0, none⟩ v).setRow (w.heap.size + 1) #[u, .string t]) (w.heap.size + 3) v us ∧ IntsM ((wx.drew.setCell ⟨w.heap.size, 0, none⟩ v).setRow (w.heap.size + 1) #[u, .string t]) u xs ∧
      Below w.heap.size w ((wx.drew.setCell ⟨w.heap.size, 0, none⟩ v).setRow (w.heap.size + 1) #[u, .string t]) := by
  have hd := h.below (below_drew1 (Below.refl wx.heap.size wx))
  have hi' := hi.below (below_drew1 (Below.refl wx.heap.size wx))
  have hnew : BoxW (wx.drew.setCell ⟨w.heap.size, 0, none⟩ v) (w.heap.size + 1) 45 (.slice none 0 0) (.string ⟨#[]⟩) := hd.ren.other (by omega)
  obtain ⟨h1, hg⟩ := setRow_grown (cs' := #[u, .string t]) hnew
  refine ⟨(hg.block _ (by have := (hd.res.set v).lt; exact this) (by simp)).trans (hd.res.set v), h1, (hd.rows.setCell (by omega)).keep hg (by omega), ?_, (hd.low.setCell (p := ⟨w.heap.size, 0, none⟩) (Nat.le_refl _) _).grown hg (by have := (hd.res.set v).lt; omega) (fun b e => by injection e with e; omega)⟩
  refine (hi'.touch (T := fun b => b = w.heap.size) ((Touch.refl (fun b => b = w.heap.size) _).setCell (g := w.heap.size) rfl _ _) (fun b hb e => by have := hu b hb; omega)).touch (T := fun b => b = w.heap.size + 1) (Touch.grown hg (fun k e => (Option.some.inj e).symm)) (fun b hb e => by have := hu b hb; omega)
theorem DI.setE {w wx : World} {D N E : Nat} {v x : Value} {us : List (Value × Ent)} (h : DI w wx D N v us) (hE : D < E) (hv : v.ownBlock ≠ some E) (hu : ∀ p ∈ us, p.1.ownBlock ≠ some E) (o : Nat) : DI w (wx.setCell ⟨E, o, none⟩ x) D N v us :=
  ⟨h.box.other (by omega), h.res.other (by have := h.hD; omega), h.ren.other (by have := h.hD; omega), h.rows.setOther hv hu, h.cur.setCellA (by have := h.hD; omega) _ _, h.low.setCell (p := ⟨E, o, none⟩) (by have := h.hD; show w.heap.size ≤ E; omega) _, h.hD⟩
end Go.Proofs.YtnpiphkglhcifaaGreat

namespace Go.Proofs.YtnpiphkglhcifaaGreat
set_option maxRecDepth 100000
open Go.RowKit

/-- A drawn dictionary on its way, in its box D; the result's box, the cursor. -/
structure DQ (w wx : World) (D N : Nat) (v : Value) (us : List (Value × Ent)) : Prop where
  box : BoxV wx D 26 v
  res : BoxV wx w.heap.size 26 (.slice none 0 0)
  rows : Rows wx (w.heap.size + 2) v us
  av : v.ownBlock ≠ some D
  cur : Cur wx (w.heap.size + 1) N
  low : Below w.heap.size w wx
  hD : w.heap.size + 1 < D
theorem DQ.keep {w wx wy : World} {D N N' : Nat} {v : Value} {us : List (Value × Ent)} (h : DQ w wx D N v us) (hg : wx.grownBy wy (some (w.heap.size + 1))) (hc : Cur wy (w.heap.size + 1) N') : DQ w wy D N' v us :=
  ⟨h.box.keep hg h.hD, h.res.grown hg (by simp), h.rows.keep hg (by omega), h.av, hc, h.low.grown hg h.low.size (fun b e => by injection e with e; omega), h.hD⟩
theorem DQ.below {w wx wy : World} {D N : Nat} {v : Value} {us : List (Value × Ent)} (h : DQ w wx D N v us) (hb : Below wx.heap.size wx wy) : DQ w wy D N v us :=
  ⟨h.box.below hb h.box.lt, h.res.below hb h.res.lt, h.rows.below hb, h.av, h.cur.below hb, h.low.trans (hb.mono h.low.size), h.hD⟩
theorem DQ.setT {w wx : World} {D N : Nat} {v : Value} {us : List (Value × Ent)} (h : DQ w wx D N v us) {j : Nat} {p : Value × Ent} (hj : us[j]? = some p) (t : ByteArray) :
    ∃ g cap, v = .slice (some ⟨g, 0, none⟩) us.length cap ∧ wx.frozen? ⟨g, j * 2 + 1, none⟩ = false ∧ wx.cell? ⟨g, j * 2 + 1, none⟩ = some (.string p.2.2) ∧ DQ w (wx.setCell ⟨g, j * 2 + 1, none⟩ (.string t)) D N v (us.set j (p.1, (p.2.1, t))) := by
  obtain ⟨g, cap, hv, hc, hb, hlt, hf, hcell, hR⟩ := h.rows.setT hj t
  have hgD : g ≠ D := fun e => h.av (by rw [hv, ← e]; rfl)
  exact ⟨g, cap, hv, hf, hcell, h.box.other hgD, h.res.other (by omega), hR, h.av, h.cur.setCellA (by omega) _ _, h.low.setCell (p := ⟨g, j * 2 + 1, none⟩) (by show w.heap.size ≤ g; omega) _, h.hD⟩
/-- The row's texts can be read. -/
theorem DQ.text {w wx : World} {D N : Nat} {v : Value} {us : List (Value × Ent)} (h : DQ w wx D N v us) (h0 : 0 < us.length) : ∃ g cap, v = .slice (some ⟨g, 0, none⟩) us.length cap ∧ ∀ (j : Nat) (p : Value × Ent), us[j]? = some p → wx.cell? ⟨g, j * 2 + 1, none⟩ = some (.string p.2.2) := by
  obtain ⟨g, cap, hv, _, _, hc⟩ := h.rows.cells h0
  exact ⟨g, cap, hv, fun j p hp => (hc j p hp).2⟩
/-- A world in which this cell holds this, and the row its texts. -/
structure SeenT (D : Nat) (v : Value) (g : Nat) (us : List (Value × Ent)) where
  world : World
  cell : world.cell? ⟨D, 0, none⟩ = some v
  row : ∀ (j : Nat) (p : Value × Ent), us[j]? = some p → world.cell? ⟨g, j * 2 + 1, none⟩ = some (.string p.2.2)
/-- A drawn dictionary and a drawn text. -/
def DTx (base : Nat) (w' : World) (r : Ending) : Prop := ∃ (v : Value) (us : List (Value × Ent)) (t : ByteArray), r = .returned (.tuple #[dV v, .string t]) ∧ Rows w' base v us ∧ us.length ≤ 60 ∧ (∀ p ∈ us, p.2.1.length ≤ 8 ∧ p.2.2.size ≤ 60) ∧ t.size ≤ 60
end Go.Proofs.YtnpiphkglhcifaaGreat
