/-
  CONTRACTS of chapter 6 of the specification: Insert, Delete.
-/
import Derived.Test.YtmpcdhoigepdpaaGreatDictE
import Derived.Test.YtmpcdhoigepdpaaGreatInsD
namespace Go.Proofs.YtmpcdhoigepdpaaGreat
set_option maxRecDepth 100000
open Go.RowKit

theorem IntsAt.toM {w : World} {v : Value} {xs : List Int} (h : IntsAt w v xs) (h0 : 0 < xs.length) : IntsM w v xs := by
  obtain ⟨a, cap, rfl, hc, h⟩ := h
  rcases h with rfl | ⟨bk, o, rfl, hb, h⟩
  · simp at h0
  · exact .inr ⟨bk, o, cap, rfl, hc, hb, h⟩
theorem EntsAt.toM {w : World} {v : Value} {es : List Ent} (h : EntsAt w v es) (h0 : ∀ e ∈ es, 0 < e.1.length) : EntsM w v es := by
  obtain ⟨a, cap, hv, hc, h⟩ := h
  refine ⟨a, cap, hv, hc, ?_⟩
  rcases h with h | ⟨bk, o, ha, hk, h⟩
  · exact .inl h
  · refine .inr ⟨bk, o, ha, hk, fun j e he => ?_⟩
    obtain ⟨u, h1, h2, h3⟩ := h j e he
    exact ⟨u, h1, h2, h3.toM (h0 e (List.mem_of_getElem? he))⟩
theorem enCells_append (us vs : List (Value × Ent)) : enCells (us ++ vs) = enCells us ++ enCells vs := by unfold enCells; rw [List.flatMap_append]
theorem enCells_take (us : List (Value × Ent)) (k : Nat) : enCells (us.take k) = (enCells us).take (k * 2) := by
  by_cases hk : k ≤ us.length
  · have h := enCells_append (us.take k) (us.drop k)
    rw [List.take_append_drop] at h
    have hl : (enCells (us.take k)).length = k * 2 := by rw [enCells_len, List.length_take]; omega
    rw [h, ← hl, List.take_left]
  · rw [List.take_of_length_le (by omega), List.take_of_length_le (by rw [enCells_len]; omega)]
theorem enCells_drop (us : List (Value × Ent)) (k : Nat) : enCells (us.drop k) = (enCells us).drop (k * 2) := by
  by_cases hk : k ≤ us.length
  · have h := enCells_append (us.take k) (us.drop k)
    rw [List.take_append_drop] at h
    have hl : (enCells (us.take k)).length = k * 2 := by rw [enCells_len, List.length_take]; omega
    rw [h, ← hl, List.drop_left]
  · rw [List.drop_of_length_le (by omega), List.drop_of_length_le (by rw [enCells_len]; omega)]; rfl
/-- An answer of a dictionary and a flag, told. -/
def OutEn (base : Nat) (w' : World) (es : List Ent) (b : Bool) (e : Ending) : Prop := ∃ u us, e = .returned (.tuple #[dV u, .bool b]) ∧ Rows w' base u us ∧ us.map (·.2) = es
theorem outEn_no (base : Nat) (w : World) : OutEn base w [] false (.returned (.tuple #[dV (.slice none 0 0), .bool false])) := ⟨_, [], rfl, Rows.nil _ _, rfl⟩
set_option maxHeartbeats 4000000 in
theorem specInsert_any (v : Value) (es : List Ent) (u : Value) (e : Ent) (w : World) (h : EntsAt w v es) (hu : IntsAt w u e.1) (hn : es.length ≤ 2097152) (hx : ∀ e ∈ es, entOk e) (he : entOk e) :
    Calls Tryz.prog 13 #[dV v, enV u e.2] w fun r w' => OutEn w.heap.size w' (insR e es) (insB e es) r ∧ Below w.heap.size w w' := by
  have CG := Lib.hid (fun w' hb => l6Good_any v es w' (h.below (w' := w') hb) hn hx)
  have CE := Lib.hid (fun w' hb => l6Entry_any u e w' (hu.below (w' := w') hb) he)
  have hNo : insB e es = false → ∀ base w, OutEn base w (insR e es) (insB e es) (.returned (.tuple #[dV (.slice none 0 0), .bool false])) := fun hh base w => by unfold insR; rw [hh, if_neg (by decide)]; exact outEn_no base w
  have CP : Hid (okD es = true → okE e = true → ∀ w', Below w.heap.size w w' → Calls Tryz.prog 76 #[dV v, enV u e.2] w' fun r w'' => (∃ v' us, r = .returned (dV v') ∧ Rows w'' w'.heap.size v' us ∧ us.map (·.2) = Pl.put e es) ∧ Below w'.heap.size w' w'') := fun hg hk w' hb =>
    l6Put_any v es u e w' ((h.below hb).toM fun x hx' => by have := okE_size ((okD_parts hg).2.1 x hx'); omega) ((hu.below hb).toM (by have := okE_size hk; omega)) (by have := (okD_parts hg).1; omega) hx he
  have HYes := Lib.hid (fun h1 h2 h3 => insB_y (e := e) (es := es) h1 h2 h3)
  have HLen := Lib.hid (fun h => insB_l (e := e) (es := es) h)
  have HD := Lib.hid (fun h => insB_d (e := e) (es := es) h)
  have HEe := Lib.hid (fun h => insB_e (e := e) (es := es) h)
  have HR1 : Hid (insB e es = true → insR e es = Pl.put e es) := fun h => by unfold insR; rw [if_pos h]
  obtain ⟨a, cap, rfl, hcap, _⟩ := h.cells
  obtain ⟨ua, uc, rfl, _, _⟩ := hu.cells
  obtain ⟨w3, hw3⟩ : ∃ w3, w3 = ((w.alloc (.cells #[.slice a es.length cap] 26)).alloc (.cells #[.slice ua e.1.length uc, .string e.2] 29)).alloc (.cells #[.slice none 0 0] 26) := ⟨_, rfl⟩
  obtain ⟨hs3, hb3, q0, qe0, qe1, q2⟩ := boxesI _ _ _ _ _ _ _ _ w3 hw3
  have HW3 := Lib.hid hw3
  have HB3 := Lib.hid hb3
  have Q2 := Lib.hid q2
  have HS3 := Lib.hid hs3
  have HEC : Hid (∀ w', Below w3.heap.size w3 w' → w'.cell? ⟨w.heap.size, 0, none⟩ = some (.slice a es.length cap) ∧ w'.cell? ⟨w.heap.size + 1, 0, none⟩ = some (.slice ua e.1.length uc) ∧ w'.cell? ⟨w.heap.size + 1, 1, none⟩ = some (.string e.2)) :=
    fun w' hb => ⟨(q0.below hb (by omega)).cell, (hb.cell (p := ⟨w.heap.size + 1, 0, none⟩) (by show w.heap.size + 1 < _; omega)).trans qe0, (hb.cell (p := ⟨w.heap.size + 1, 1, none⟩) (by show w.heap.size + 1 < _; omega)).trans qe1⟩
  obtain ⟨R, hR⟩ : ∃ R, R = insR e es := ⟨_, rfl⟩
  obtain ⟨bb, hbb⟩ : ∃ bb, bb = insB e es := ⟨_, rfl⟩
  obtain ⟨g, hg⟩ : ∃ g, g = okD es := ⟨_, rfl⟩
  obtain ⟨k, hk⟩ : ∃ k, k = okE e := ⟨_, rfl⟩
  obtain ⟨ps, hps⟩ : ∃ ps, ps = Pl.put e es := ⟨_, rfl⟩
  have HNo := Lib.hid hNo
  rw [← hR, ← hbb] at HNo HR1 ⊢
  rw [← hbb] at HYes HLen HD HEe
  rw [← hg] at CG HYes HD CP
  rw [← hk] at CE HYes HEe CP
  rw [← hps] at HR1 HYes HLen CP
  have hel := he.1
  obtain ⟨xs, t⟩ := e
  obtain ⟨n, hnn⟩ : ∃ n, n = es.length := ⟨_, rfl⟩
  simp only at CE HEC hel HW3 CP
  rw [← hnn] at CG HEC HW3 CP
  clear hNo h hu hx he hw3 hb3 q0 qe0 qe1 q2 hs3 hR hbb hps hg hk
  unfold dV enV at *
  simp only
  rw [← hnn]
  clear hnn
  cases g
  · have HFin := Lib.hid (fun base w => HNo.out (HD.out (by first | rfl | trivial)) base w)
    clear CE CP HNo HYes HLen HD HEe HR1
    go_enter Tryz.func13, Tryz.ntmps13
    go_wp2_with fail
    rw [← HW3.out]
    refine (CG.out w3 HB3.out).mono ?_
    rintro r w1 ⟨rfl, hb1⟩
    have R1 := Lib.hid (Q2.out.below hb1 Q2.out.lt)
    have B1 := Lib.hid (below_step HB3.out hb1)
    have d1 := R1.out.cell
    have z1 := R1.out.frozen
    clear hb1 CG HEC
    go_wp2
    (try simp only [Exit.inBlock, Exit.then])
    refine bodyPost_ret (results_dt2 rfl _ _ (w.heap.size + 1 + 1) _ rfl (R1.out.set _)) rfl ?_
    exact ⟨HFin.out _ _, B1.out.setCell (by show w.heap.size ≤ w.heap.size + 1 + 1; omega) _⟩
  · go_enter Tryz.func13, Tryz.ntmps13
    go_wp2_with fail
    rw [← HW3.out]
    refine (CG.out w3 HB3.out).mono ?_
    rintro r w1 ⟨rfl, hb1⟩
    have R1 := Lib.hid (Q2.out.below hb1 Q2.out.lt)
    have B1 := Lib.hid (below_step HB3.out hb1)
    have HB31 := Lib.hid hb1
    obtain ⟨_, ec0, ec1⟩ := HEC.out w1 hb1
    clear hb1 CG
    go_wp2_with fail
    refine (CE.out w1 B1.out).mono ?_
    rintro r w2 ⟨rfl, hb2⟩
    have R2 := Lib.hid (R1.out.below hb2 R1.out.lt)
    have B2 := Lib.hid (below_step B1.out hb2)
    obtain ⟨f, f0, f1⟩ := HEC.out w2 (HB31.out.trans (hb2.mono HB31.out.size))
    have d1 := R2.out.cell
    have z1 := R2.out.frozen
    clear hb2 CE R1 B1 ec0 ec1 HEC
    cases k
    · have HFin := Lib.hid (fun base w => HNo.out (HEe.out (by first | rfl | trivial)) base w)
      clear CP HNo HYes HLen HD HEe HR1 f f0 f1
      go_wp2
      (try simp only [Exit.inBlock, Exit.then])
      refine bodyPost_ret (results_dt2 rfl _ _ (w.heap.size + 1 + 1) _ rfl (R2.out.set _)) rfl ?_
      exact ⟨HFin.out _ _, B2.out.setCell (by show w.heap.size ≤ w.heap.size + 1 + 1; omega) _⟩
    · have CP1 := Lib.hid (CP.out (by first | rfl | trivial) (by first | rfl | trivial) w2 B2.out)
      clear CP d1 z1
      go_wp2_with fail
      refine CP1.out.mono ?_
      rintro r w4 ⟨⟨v4, us, rfl, hr4, hus⟩, hb4⟩
      have hbA : Below w4.heap.size w4 (w4.alloc (.cells #[v4] 26)) := below_al _ _
      have hlen : us.length = ps.length := by rw [← hus, List.length_map]
      obtain ⟨va, vc, hvf⟩ := hr4.form
      subst hvf
      rw [hlen] at hr4 hbA
      have R4 : Hid (BoxV (w4.alloc (.cells #[.slice va ps.length vc] 26)) (w.heap.size + 1 + 1) 26 (.slice none 0 0)) := R2.out.below (below_step hb4 hbA) R2.out.lt
      have B4 : Hid (Below w.heap.size w (w4.alloc (.cells #[.slice va ps.length vc] 26))) := below_step B2.out (below_step hb4 hbA)
      have X4 : Hid (BoxV (w4.alloc (.cells #[.slice va ps.length vc] 26)) w4.heap.size 26 (.slice va ps.length vc)) := BoxV.new _ _ _
      have E4 : Hid (Rows (w4.alloc (.cells #[.slice va ps.length vc] 26)) w2.heap.size (.slice va ps.length vc) us) := hr4.below hbA
      have HUs := Lib.hid hus
      have HL2 : Hid (w.heap.size + 1 + 1 < w2.heap.size) := R2.out.lt
      have x4 := X4.out.cell
      have d4 := R4.out.cell
      have z4 := R4.out.frozen
      have HL4 : Hid (w.heap.size + 1 + 1 < w4.heap.size) := by have := R2.out.lt; have := hb4.size; show _ < _; omega
      rw [hlen]
      clear hr4 hus hb4 hbA hlen CP1 R2 B2 f f0 f1
      by_cases hl : ps.length ≤ 40
      · have hbt := HYes.out (by first | rfl | trivial) (by first | rfl | trivial) hl
        have HRr := Lib.hid (HR1.out hbt)
        have HBt := Lib.hid hbt
        have hl' : ¬ (40 < (ps.length : Int)) := by omega
        clear HNo HYes HLen HD HEe HR1 hbt hl
        go_wp2
        (try simp only [Exit.inBlock, Exit.then])
        refine bodyPost_ret (results_dt2 rfl _ _ (w.heap.size + 1 + 1) _ rfl (R4.out.set _)) rfl ?_
        exact ⟨⟨_, us, by rw [HBt.out]; rfl, (E4.out.setCell (B := w.heap.size + 1 + 1) (o := 0) (x := .slice va ps.length vc) HL2.out).mono (by have := HL2.out; omega), HUs.out.trans HRr.out.symm⟩, B4.out.setCell (by show w.heap.size ≤ w.heap.size + 1 + 1; omega) _⟩
      · have HFin := Lib.hid (fun base w => HNo.out (HLen.out hl) base w)
        have hl' : 40 < (ps.length : Int) := by omega
        clear HNo HYes HLen HD HEe HR1 hl
        go_wp2
        (try simp only [Exit.inBlock, Exit.then])
        refine bodyPost_ret (results_dt2 rfl _ _ (w.heap.size + 1 + 1) _ rfl (R4.out.set _)) rfl ?_
        exact ⟨HFin.out _ _, B4.out.setCell (by show w.heap.size ≤ w.heap.size + 1 + 1; omega) _⟩
set_option maxHeartbeats 4000000 in
theorem specDelete_any (v : Value) (es : List Ent) (u : Value) (ys : List Int) (w : World) (h : EntsAt w v es) (hu : IntsAt w u ys) (hn : es.length ≤ 2097152) (hx : ∀ e ∈ es, entOk e) (hy : ys.length ≤ 2097152) :
    Calls Tryz.prog 23 #[dV v, u] w fun r w' => OutEn w.heap.size w' (delR ys es) (delB ys es) r ∧ Below w.heap.size w w' := by
  have CG := Lib.hid (fun w' hb => l6Good_any v es w' (h.below (w' := w') hb) hn hx)
  have CA := Lib.hid (fun w' hb => l6At_any v es u ys w' (h.below (w' := w') hb) (hu.below hb) hn hx hy)
  have CO : Hid (okD es = true → ∀ w', Below w.heap.size w w' → Calls Tryz.prog 82 #[dV v] w' fun r w'' => (∃ v' us, r = .returned (dV v') ∧ Rows w'' w'.heap.size v' us ∧ us.map (·.2) = es) ∧ Below w'.heap.size w' w'') := fun hg w' hb =>
    l6Own_any v es w' ((h.below hb).toM fun x hx' => by have := okE_size ((okD_parts hg).2.1 x hx'); omega) (by have := (okD_parts hg).1; omega) hx
  have HNo : Hid (delB ys es = false → ∀ base w, OutEn base w (delR ys es) (delB ys es) (.returned (.tuple #[dV (.slice none 0 0), .bool false]))) := fun hh base w => by
    have hr : delR ys es = [] := by
      cases hd : okD es
      · unfold delR; rw [hd]; rfl
      · unfold delB at hh; rw [hd, Bool.true_and] at hh; exact delR_none hh
    rw [hh, hr]; exact outEn_no base w
  have HD0 : Hid (okD es = false → delB ys es = false) := fun h => by unfold delB; rw [h]; rfl
  have HI0 : Hid (Pl.idx ys es = none → delB ys es = false) := fun h => by unfold delB; rw [Pl.look_none_idx h]; simp
  have HI1 : Hid (okD es = true → ∀ k, Pl.idx ys es = some k → delB ys es = true ∧ delR ys es = Pl.del k es ∧ k < es.length) := fun h k hk => by
    obtain ⟨x, h1, h2⟩ := Pl.idx_some hk
    refine ⟨?_, ?_, (List.getElem?_eq_some_iff.1 h1).1⟩
    · unfold delB; rw [h, Pl.look_idx hk h1]; rfl
    · unfold delR; rw [if_pos h, hk]
  have HIx : Hid (∀ k, Pl.idx ys es = some k → idxI ys es = (k : Int)) := fun k hk => by unfold idxI; rw [hk]
  have HIn : Hid (Pl.idx ys es = none → idxI ys es = -1) := fun hk => by unfold idxI; rw [hk]
  have h40 : okD es = true → es.length ≤ 40 := fun h => (okD_parts h).1
  obtain ⟨a, cap, rfl, hcap, _⟩ := h.cells
  obtain ⟨ua, uc, rfl, _, _⟩ := hu.cells
  obtain ⟨w3, hw3⟩ : ∃ w3, w3 = (w.alloc (.cells #[.slice a es.length cap] 26)).alloc (.cells #[.slice none 0 0] 26) := ⟨_, rfl⟩
  have hb3 : Below w.heap.size w w3 := by rw [hw3]; exact below_al2 _ _ _
  have q2 : BoxV w3 (w.heap.size + 1) 26 (.slice none 0 0) := by
    have h1 := BoxV.new (w.alloc (.cells #[.slice a es.length cap] 26)) 26 (.slice none 0 0)
    rw [World.size_alloc] at h1
    rw [hw3]; exact h1
  have q0 : BoxV w3 w.heap.size 26 (.slice a es.length cap) := by rw [hw3]; exact (BoxV.new w _ _).below (below_al _ _) (by simp)
  have HW3 := Lib.hid hw3
  have HB3 := Lib.hid hb3
  have Q2 := Lib.hid q2
  have Q0 := Lib.hid q0
  obtain ⟨R, hR⟩ : ∃ R, R = delR ys es := ⟨_, rfl⟩
  obtain ⟨bb, hbb⟩ : ∃ bb, bb = delB ys es := ⟨_, rfl⟩
  rw [← hR, ← hbb] at HNo HI1 ⊢
  rw [← hbb] at HD0 HI0
  obtain ⟨ii, hii⟩ : ∃ ii, ii = idxI ys es := ⟨_, rfl⟩
  rw [← hii] at HIx HIn CA
  obtain ⟨n, hnn⟩ : ∃ n, n = es.length := ⟨_, rfl⟩
  have HN := Lib.hid hnn
  rw [← hnn] at CG CA CO Q0 HW3 h40 HI1 ⊢
  clear h hu hx hw3 hb3 q0 q2 hR hbb hii hnn hn
  unfold dV at *
  cases hg : okD es
  · rw [hg] at CG
    have HFin := Lib.hid (fun base w => HNo.out (HD0.out hg) base w)
    clear CA CO HNo HD0 HI0 HI1 HIx HIn h40 hg
    go_enter Tryz.func23, Tryz.ntmps23
    go_wp2_with fail
    rw [← HW3.out]
    refine (CG.out w3 HB3.out).mono ?_
    rintro r w1 ⟨rfl, hb1⟩
    have R1 := Lib.hid (Q2.out.below hb1 Q2.out.lt)
    have B1 := Lib.hid (below_step HB3.out hb1)
    have d1 := R1.out.cell
    have z1 := R1.out.frozen
    clear hb1 CG
    go_wp2
    (try simp only [Exit.inBlock, Exit.then])
    refine bodyPost_ret (results_dt2 rfl _ _ (w.heap.size + 1) _ rfl (R1.out.set _)) rfl ?_
    exact ⟨HFin.out _ _, B1.out.setCell (by show w.heap.size ≤ w.heap.size + 1; omega) _⟩
  · have CO1 := Lib.hid (CO.out hg)
    have hn40 := h40 hg
    rw [hg] at CG
    cases hk : Pl.idx ys es with
    | none =>
      have hi := HIn.out hk
      subst hi
      have HFin := Lib.hid (fun base w => HNo.out (HI0.out hk) base w)
      clear CO CO1 HNo HD0 HI0 HI1 HIx HIn h40 hg hk hn40
      go_enter Tryz.func23, Tryz.ntmps23
      go_wp2_with fail
      rw [← HW3.out]
      refine (CG.out w3 HB3.out).mono ?_
      rintro r w1 ⟨rfl, hb1⟩
      have R1 := Lib.hid (Q2.out.below hb1 Q2.out.lt)
      have B1 := Lib.hid (below_step HB3.out hb1)
      have P1 := Lib.hid (Q0.out.below hb1 Q0.out.lt)
      have p1 := P1.out.cell
      clear hb1 CG
      go_wp2_with fail
      refine (CA.out w1 B1.out).mono ?_
      rintro r w2 ⟨rfl, hb2⟩
      have R2 := Lib.hid (R1.out.below hb2 R1.out.lt)
      have B2 := Lib.hid (below_step B1.out hb2)
      have d1 := R2.out.cell
      have z1 := R2.out.frozen
      clear hb2 CA R1 B1 P1 p1
      go_wp2
      (try simp only [Exit.inBlock, Exit.then])
      refine bodyPost_ret (results_dt2 rfl _ _ (w.heap.size + 1) _ rfl (R2.out.set _)) rfl ?_
      exact ⟨HFin.out _ _, B2.out.setCell (by show w.heap.size ≤ w.heap.size + 1; omega) _⟩
    | some k =>
      have hi := HIx.out k hk
      subst hi
      obtain ⟨hbt, hrr, hkl⟩ := HI1.out hg k hk
      have HBt := Lib.hid hbt
      have HRr := Lib.hid hrr
      clear CO HNo HD0 HI0 HI1 HIx HIn h40 hg hk hbt hrr
      go_enter Tryz.func23, Tryz.ntmps23
      go_wp2_with fail
      rw [← HW3.out]
      refine (CG.out w3 HB3.out).mono ?_
      rintro r w1 ⟨rfl, hb1⟩
      have R1 := Lib.hid (Q2.out.below hb1 Q2.out.lt)
      have B1 := Lib.hid (below_step HB3.out hb1)
      have P1 := Lib.hid (Q0.out.below hb1 Q0.out.lt)
      have p1 := P1.out.cell
      clear hb1 CG
      go_wp2_with fail
      refine (CA.out w1 B1.out).mono ?_
      rintro r w2 ⟨rfl, hb2⟩
      have R2 := Lib.hid (R1.out.below hb2 R1.out.lt)
      have B2 := Lib.hid (below_step B1.out hb2)
      have P2 := Lib.hid (P1.out.below hb2 P1.out.lt)
      have p2 := P2.out.cell
      clear hb2 CA R1 B1 P1 p1
      go_wp2_with fail
      refine (CO1.out w2 B2.out).mono ?_
      rintro r w4 ⟨⟨v4, us, rfl, hr4, hus⟩, hb4⟩
      have hlen : us.length = n := by rw [HN.out, ← hus, List.length_map]
      rcases hr4.row.2 with ⟨rfl, h0⟩ | ⟨g, c4, cur, rfl, hbg, hg4, hle, hcm, hsz, htake⟩
      · omega
      · have hbA : Below w4.heap.size w4 (w4.alloc (.cells #[.slice (some ⟨g, 0, none⟩) us.length c4] 26)) := below_al _ _
        rw [hlen] at hr4 hbA hle htake
        have R4 : Hid (BoxV (w4.alloc (.cells #[.slice (some ⟨g, 0, none⟩) n c4] 26)) (w.heap.size + 1) 26 (.slice none 0 0)) := R2.out.below (below_step hb4 hbA) R2.out.lt
        have B4 : Hid (Below w.heap.size w (w4.alloc (.cells #[.slice (some ⟨g, 0, none⟩) n c4] 26))) := below_step B2.out (below_step hb4 hbA)
        have X4 : Hid (BoxV (w4.alloc (.cells #[.slice (some ⟨g, 0, none⟩) n c4] 26)) w4.heap.size 26 (.slice (some ⟨g, 0, none⟩) n c4)) := BoxV.new _ _ _
        have E4 : Hid (Rows (w4.alloc (.cells #[.slice (some ⟨g, 0, none⟩) n c4] 26)) w2.heap.size (.slice (some ⟨g, 0, none⟩) n c4) us) := hr4.below hbA
        have HUs := Lib.hid hus
        have HUl := Lib.hid hlen
        have HL2 : Hid (w.heap.size + 1 < w2.heap.size) := R2.out.lt
        have HS4 : Hid (w2.heap.size ≤ w4.heap.size) := hb4.size
        have hgl : g < w4.heap.size := (Array.getElem?_eq_some_iff.1 hg4).1
        have G4 : Hid ((w4.alloc (.cells #[.slice (some ⟨g, 0, none⟩) n c4] 26)).heap[g]? = some (.cells cur 29 (0, 0))) := (hbA.block g hgl).trans hg4
        have x4 := X4.out.cell
        have d4 := R4.out.cell
        have z4 := R4.out.frozen
        have kx := cell_regrown x4
        rw [hlen]
        have hle4 := hle
        have hkc : k ≤ c4 := by omega
        have hkc1 : k + 1 ≤ c4 := by omega
        have HG4 := Lib.hid (And.intro hbg (And.intro hle (And.intro hcm (And.intro hsz htake))))
        have HUB : Hid (∀ p ∈ us.take k ++ us.drop (k + 1), p.1.ownBlock ≠ some w4.heap.size) := fun p hp e => by
          have hp' : p ∈ us := by
            rcases List.mem_append.1 hp with hp | hp
            · exact List.mem_of_mem_take hp
            · exact List.mem_of_mem_drop hp
          have := intsM_block (hr4.ints p hp').1 _ e
          omega
        clear hr4 hus hb4 hbA hlen CO1 R2 B2 P2 p2 hg4 hbg hle hcm hsz htake
        go_wp2_with fail
        refine Mx.wp_region_mixed (Mx.ofL [(0, 0), (1, 1), (2, 0), (3, 0), (4, 0), (5, 1), (6, 0), (7, 0), (8, 0), (9, 3), (10, 0), (11, 3)] .done) (by kernel_rfl) (by kernel_rfl) ?_
        repeat ((first | refine Mx.mix0 rfl ?_ | refine Mx.mix1 rfl ?_); go_big_quiet_step (fail); refine wpQuiet_nil ?_)
        have HLn : Hid (k < n) := hkl
        have HU4 : Hid (∀ p ∈ us.take k ++ us.drop (k + 1), p.1.ownBlock ≠ some w4.heap.size) := HUB.out
        obtain ⟨i0, hi, hz0, hz1, hz2⟩ := info_parts infoEn
        have HOWN : Hid (World.ownsRow (w4.alloc (.cells #[.slice (some ⟨g, 0, none⟩) n c4] 26)).drew w2.heap.size 29 2 (.slice (some ⟨g, 0, none⟩) k c4) k (enCells (us.take k))) := by
          obtain ⟨q1, q2, q3, q4, q5⟩ := HG4.out
          refine ⟨by rw [enCells_len, List.length_take, HUl.out]; omega, .inr ⟨g, c4, cur, rfl, q1, G4.out, hkc, q3, q4, ?_⟩⟩
          rw [enCells_take, ← q5, List.take_take]
          congr 1; omega
        have HCELL : Hid (∀ j y, (enCells (us.drop (k + 1)))[j]? = some y → (w4.alloc (.cells #[.slice (some ⟨g, 0, none⟩) n c4] 26)).drew.cell? ⟨g, (k + 1) * 2 + j, none⟩ = some y) := by
          intro j y hj
          obtain ⟨q1, q2, q3, q4, q5⟩ := HG4.out
          rw [enCells_drop, List.getElem?_drop] at hj
          have hjl : (k + 1) * 2 + j < n * 2 := by
            have := (List.getElem?_eq_some_iff.1 hj).1
            rw [enCells_len, HUl.out] at this
            exact this
          rw [← q5, List.getElem?_take_of_lt hjl] at hj
          simp only [Array.getElem?_toList] at hj
          show World.cell? _ _ = _
          have hG : (w4.alloc (.cells #[.slice (some ⟨g, 0, none⟩) n c4] 26)).drew.heap[g]? = some (.cells cur 29 (0, 0)) := G4.out
          simp only [World.cell?, hG]
          simpa using hj
        have HONE : Hid (∀ y ∈ enCells (us.drop (k + 1)), y.oneCell' = true) := by
          intro y hy
          unfold enCells at hy
          rw [List.mem_flatMap] at hy
          obtain ⟨p, hp, hy⟩ := hy
          simp at hy
          rcases hy with rfl | rfl
          · exact ints_oneV (E4.out.ints p (List.mem_of_mem_drop hp)).1
          · rfl
        refine Mx.mix3 rfl ?_
        refine wpList_append_fits_any _ rfl (.tmp 23) (.tmp 28) 24 rfl w2.heap.size 29 i0 2 Tryz.underlying24 hi hz1 g k c4 (enCells (us.take k)) rfl HOWN.out (if c4 = k + 1 then some ⟨g, 0, none⟩ else some ⟨g, (k + 1) * 2, none⟩) (n - (k + 1)) (c4 - (k + 1)) (enCells (us.drop (k + 1))) rfl (by rw [enCells_len, List.length_drop, HUl.out]) (by intro q; split at q <;> cases q) ?_ HONE.out (by omega) ?_
        · intro ad had j y hj
          split at had
          · have := (List.getElem?_eq_some_iff.1 hj).1
            rw [enCells_len, List.length_drop, HUl.out] at this
            omega
          · injection had with had
            subst had
            rw [show (⟨g, (k + 1) * 2, none⟩ : Addr).add j = ⟨g, (k + 1) * 2 + j, none⟩ from Go.WideShapes.add_plain ..]
            exact HCELL.out j y hj
        intro w6 hown6 hg6
        have hg6' : (w4.alloc (.cells #[.slice (some ⟨g, 0, none⟩) n c4] 26)).grownBy w6 (some g) := ⟨hg6.os, hg6.tape, hg6.output, hg6.size, hg6.block⟩
        have hm : k + (n - (k + 1)) = (us.take k ++ us.drop (k + 1)).length := by
          rw [List.length_append, List.length_take, List.length_drop, HUl.out]; omega
        obtain ⟨m, hmm⟩ : ∃ m, m = k + (n - (k + 1)) := ⟨_, rfl⟩
        have R6 : Hid (Rows w6 w2.heap.size (.slice (some ⟨g, 0, none⟩) m c4) (us.take k ++ us.drop (k + 1))) := by
          refine ⟨?_, fun p hp => ?_⟩
          · rw [← hm, enCells_append, hmm]; exact hown6
          · have hp' : p ∈ us := by
              rcases List.mem_append.1 hp with hp | hp
              · exact List.mem_of_mem_take hp
              · exact List.mem_of_mem_drop hp
            obtain ⟨q1, q2⟩ := E4.out.ints p hp'
            exact ⟨q1.touch (T := fun b => b = g) (Touch.grown hg6' fun x e => (Option.some.inj e).symm) fun b hb e => (q2 b hb).2 (by rw [e]; rfl), fun b hb => ⟨(q2 b hb).1, fun e => (q2 b hb).2 e⟩⟩
        have HD6 : Hid ((us.take k ++ us.drop (k + 1)).map (fun x : Value × Ent => x.2) = Pl.del k es) := by
          show _ = _
          rw [List.map_append, List.map_take, List.map_drop]
          have := HUs.out
          rw [show us.map (fun x : Value × Ent => x.2) = es from this]; rfl
        have hgb := HG4.out.1
        have X6 : Hid (BoxV w6 w4.heap.size 26 (.slice (some ⟨g, 0, none⟩) n c4)) := X4.out.grown hg6' (fun e => by injection e with e; omega)
        have Y6 : Hid (BoxV w6 (w.heap.size + 1) 26 (.slice none 0 0)) := R4.out.grown hg6' (fun e => by injection e with e; have := HL2.out; omega)
        have B6 : Hid (Below w.heap.size w w6) := B4.out.grown hg6' B4.out.size (fun b e => by injection e with e; have := HL2.out; omega)
        rw [← hmm]
        have x6 := X6.out.cell
        have x6f := X6.out.frozen
        have y6 := Y6.out.cell
        have y6f := Y6.out.frozen
        have hne : w.heap.size + 1 < w4.heap.size := by have := HL2.out; have := HS4.out; omega
        clear hown6 hg6 hg6' hm hmm hgb HOWN HCELL HONE X4 R4 E4 G4 B4 x4 d4 z4 kx
        generalize (@ite (Option Addr) (c4 = k + 1) _ _ _) = ao
        refine Mx.mid_normal (fun q => by cases q) ?_
        simp only [Act.put, List.setIfInBounds_toArray, List.set_cons_zero, List.set_cons_succ]
        repeat ((first | refine Mx.mix0 rfl ?_ | refine Mx.mix1 rfl ?_); go_big_quiet_step (fail); refine wpQuiet_nil ?_)
        refine Mx.mix3 rfl ?_
        go_wp2
        refine Mx.mid_normal (fun q => by cases q) (Mx.mix_nil ?_)
        go_wp2
        (try simp only [Exit.inBlock, Exit.then])
        refine bodyPost_ret (results_dt2 rfl _ _ (w.heap.size + 1) _ rfl ((Y6.out.other (by have := HL2.out; have := HS4.out; omega)).set _)) rfl ?_
        have hsub : g ≠ w4.heap.size := by omega
        exact ⟨⟨_, us.take k ++ us.drop (k + 1), by rw [HBt.out]; rfl, ((R6.out.setOther (B := w4.heap.size) (o := 0) (x := .slice (some ⟨g, 0, none⟩) m c4) (fun e => by simp [Value.ownBlock] at e; omega) HU4.out).setCell (B := w.heap.size + 1) (o := 0) (x := .slice (some ⟨g, 0, none⟩) m c4) HL2.out).mono (by have := HL2.out; omega), HD6.out.trans HRr.out.symm⟩, (B6.out.setCell (by show w.heap.size ≤ w4.heap.size; have := HL2.out; have := HS4.out; omega) _).setCell (by show w.heap.size ≤ w.heap.size + 1; omega) _⟩
end Go.Proofs.YtmpcdhoigepdpaaGreat
