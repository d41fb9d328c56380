/-
  DRAWS of chapter 6: DrawIsValidDictionary, DrawFormatDictionary, DrawParseDictionary; the laws' comparison of two dictionaries.
-/
import Derived.Test.YtmpcdhoigepdpaaGreatDrawR
namespace Go.Proofs.YtmpcdhoigepdpaaGreat
set_option maxRecDepth 100000
open Go.RowKit

/-- What a drawn entry is. -/
def drE (e : Ent) : Prop := e.1.length ≤ 8 ∧ e.2.size ≤ 60 ∧ ∀ x ∈ e.1, 0 ≤ x ∧ x < 8388608
def DEntB (base : Nat) (w' : World) (r : Ending) : Prop := ∃ (u : Value) (e : Ent), r = .returned (enV u e.2) ∧ w'.ownsRow base 3 1 u e.1.length (e.1.map (.int .i64)) ∧ e.1.length ≤ 3 ∧ e.2.size ≤ 60 ∧ ∀ x ∈ e.1, 0 ≤ x ∧ x < 8388608
theorem lineT_sizeB {e : Ent} (h : drE e) : (lineT e).size ≤ 262 := by
  obtain ⟨h1, h2, _⟩ := h
  have h3 := fmtT_size e.1
  unfold lineT
  rw [ByteArray.size_append, ByteArray.size_append, ByteArray.size_append]
  have e1 : (⟨#[32]⟩ : ByteArray).size = 1 := rfl
  have e2 : (⟨#[10]⟩ : ByteArray).size = 1 := rfl
  rw [e1, e2]
  omega
theorem dicT_sizeB {es : List Ent} (h : ∀ e ∈ es, drE e) : (dicT es).size ≤ 262 * es.length := by
  suffices ∀ k, k ≤ es.length → (dicT (es.take k)).size ≤ 262 * k by have := this es.length (Nat.le_refl _); rwa [List.take_length] at this
  intro k
  induction k with
  | zero => intro _; exact Nat.le_refl _
  | succ k ih =>
    intro hk
    obtain ⟨e, he⟩ : ∃ e, es[k]? = some e := ⟨_, List.getElem?_eq_getElem (by omega)⟩
    have h1 := ih (by omega)
    have h2 := lineT_sizeB (h e (List.mem_of_getElem? he))
    unfold lineT at h2
    rw [← dicT_next he]
    simp only [ByteArray.size_append] at h2 ⊢
    omega
set_option maxHeartbeats 2000000 in
theorem entryB_any (B N : Nat) (w : World) (h : Cur w B N) (hN : N ≤ 800000) :
    Calls Tryz.prog 125 #[.pointer (some ⟨B, 0, none⟩)] w fun r w' => DEntB w.heap.size w' r ∧ Cur w' B (N + 100) ∧ w.grownBy w' (some B) := by
  have CO := Lib.hid (fun N w h hN => outline_any B N w h hN)
  have CT := Lib.hid (fun N w h hN => translation_any B N w h hN)
  have hlt := h.lt
  have HC0 := Lib.hid (h.below (below_al w (.cells #[.slice none 0 0, .string ⟨#[]⟩] 29)))
  have HR0 : Hid ((w.alloc (.cells #[.slice none 0 0, .string ⟨#[]⟩] 29)).heap[w.heap.size]? = some (.cells #[.slice none 0 0, .string ⟨#[]⟩] 29 (0, 0))) := heap_alloc_new _ _
  clear h
  go_enter Tryz.func125, Tryz.ntmps125
  go_wp2_with fail
  refine (CO.out _ _ HC0.out (by omega)).mono ?_
  rintro e w1 ⟨⟨v, xs, rfl, ho1, hl1, hv1⟩, hc1, hg1⟩
  rw [World.size_alloc] at ho1
  have HO1 := Lib.hid ho1
  have HV1 := Lib.hid hv1
  have HR1 : Hid (w1.heap[w.heap.size]? = some (.cells #[.slice none 0 0, .string ⟨#[]⟩] 29 (0, 0))) := (hg1.block _ (by simp) (by simp; omega)).trans HR0.out
  have HC1 := Lib.hid hc1
  have HG1 := Lib.hid (grown_allocA hg1)
  clear hc1 hg1 ho1 HR0 HC0 hv1
  go_wp2_with fail
  refine (CT.out _ _ HC1.out (by omega)).mono ?_
  rintro e w2 ⟨⟨x, hx, rfl⟩, hc2, hg2⟩
  have HO2 := Lib.hid (own_keepI HO1.out hg2 (by omega))
  have HR2 : Hid (w2.heap[w.heap.size]? = some (.cells #[.slice none 0 0, .string ⟨#[]⟩] 29 (0, 0))) := (hg2.block _ (by have := (Array.getElem?_eq_some_iff.1 HR1.out).1; omega) (by simp; omega)).trans HR1.out
  have HC2 := Lib.hid hc2
  have HG2 := Lib.hid (Lib.grownBy_trans HG1.out hg2)
  obtain ⟨a, c, rfl⟩ := (ownInts_of HO2.out).form
  clear hc2 hg2 HO1 HR1 HC1 HG1
  go_wp2_with (with_reducible (show wpList _ _ _ (_ :: _) _ _); refine en_store rfl _ _ rfl w.heap.size _ x _ _ rfl rfl HR2.out rfl ?_)
  (try simp only [Exit.inBlock, Exit.then])
  refine bodyPost_ret (results_cell_row rfl _ _ w.heap.size _ _ _ _ rfl (setRow_heap _ _ _ _ _ _ HR2.out) Tryz.underlying29 rfl (by kernel_rfl)) rfl ?_
  have hk := (setRow_grown (cs' := #[.slice a xs.length c, .string x]) HR2.out).2
  exact ⟨⟨_, (xs, x), rfl, ownsRow_mono (own_keepI HO2.out hk (Nat.lt_succ_self _)) (Nat.le_succ _), hl1, hx, HV1.out⟩, (HC2.out.mono (by omega)).setRow hlt _, grown_setRow HG2.out (Nat.le_refl _) _⟩
set_option maxHeartbeats 4000000 in
theorem dictionaryB_any (B N : Nat) (w : World) (h : Cur w B N) (hN : N ≤ 700000) :
    Calls Tryz.prog 89 #[.pointer (some ⟨B, 0, none⟩)] w fun r w' => (∃ (v : Value) (us : List (Value × Ent)), r = .returned (dV v) ∧ Rows w' w.heap.size v us ∧ 1 ≤ us.length ∧ us.length ≤ 10 ∧ ∀ p ∈ us, drE p.2) ∧ Cur w' B (N + 2000) ∧ w.grownBy w' (some B) := by
  have CP := Lib.hid (fun N n w h hN h0 h1 => pick_any B N n w h hN h0 h1)
  have CE := Lib.hid (fun N w h hN => entryB_any B N w h hN)
  have cu := fun v es u e w h hu hn hx he => l6Put_any v es u e w h hu hn hx he
  unfold dV at cu
  have CU := Lib.hid cu
  clear cu
  unfold dV
  have hlt := h.lt
  obtain ⟨w0, hw0⟩ : ∃ w0, w0 = (w.alloc (.cells #[.slice none 0 0] 26)).alloc (.cells #[.slice none 0 0] 26) := ⟨_, rfl⟩
  have hb0 : Below w.heap.size w w0 := by rw [hw0]; exact below_al2 _ _ _
  have hs0 : w0.heap.size = w.heap.size + 1 + 1 := by rw [hw0]; simp
  have HR0 : Hid (BoxV w0 w.heap.size 26 (.slice none 0 0)) := by rw [hw0]; exact (BoxV.new w _ _).below (below_al _ _) (by simp)
  have HD0 : Hid (BoxV w0 (w.heap.size + 1) 26 (.slice none 0 0)) := by
    have e := BoxV.new (w.alloc (.cells #[.slice none 0 0] 26)) 26 (.slice none 0 0)
    rw [World.size_alloc] at e
    rw [hw0]; exact e
  have HC0 := Lib.hid (h.below hb0)
  have HB0 := Lib.hid hb0
  have HW0 := Lib.hid hw0
  clear h hb0 hw0
  go_enter Tryz.func89, Tryz.ntmps89
  go_wp2_with fail
  rw [← HW0.out]
  refine (CP.out _ _ _ HC0.out (by omega) (by omega) (by omega)).mono ?_
  rintro e w1 ⟨⟨r, r0, r1, rfl⟩, hc1, hg1⟩
  obtain ⟨R, rfl⟩ := Int.eq_ofNat_of_zero_le r0
  have HC1 := Lib.hid hc1
  have HG1 : Hid (w.grownBy w1 (some B)) := Lib.grownBy_trans ⟨HB0.out.os, HB0.out.tape, HB0.out.output, HB0.out.size, fun k hk _ => HB0.out.block k hk⟩ hg1
  have HR1 := Lib.hid (HR0.out.keep hg1 hlt)
  have HD1 := Lib.hid (HD0.out.keep hg1 (by omega))
  clear hc1 hg1 HR0 HD0 HC0 HB0 HW0
  go_wp2_with fail
  go_loopw [4] (fun i wr => ∃ (k : Nat) (v : Value) (us : List (Value × Ent)), i = .int .i64 k ∧ k ≤ 9 ∧ us.length + k ≤ 9 ∧ (us = [] → 3 ≤ k) ∧ Hid (BoxV wr w.heap.size 26 (.slice none 0 0)) ∧ Hid (BoxV wr (w.heap.size + 1) 26 v) ∧ Hid (Rows wr (w.heap.size + 1 + 1) v us) ∧ Hid (∀ p ∈ us, drE p.2) ∧ Hid (Cur wr B (N + 2000 - 110 * k)) ∧ Hid (w.grownBy wr (some B))) (fun i _ => (intOf i).toNat)
  case atStart => exact ⟨3 + R, _, [], by go_num, by omega, by simp; omega, by omega, HR1, HD1, Rows.nil _ _, fun p hp => by simp at hp, HC1.out.mono (by omega), HG1⟩
  case round =>
    obtain ⟨k, v, us, rfl, hk, hlen, hne, HR, HD, HE, HX, HC, HG⟩ := hrel
    by_cases hpos : 0 < k
    · have hpos' : (0 : Int) < (k : Int) := by omega
      obtain ⟨va, vc, hvf⟩ := HE.out.form
      subst hvf
      have hsr := HG.out.size
      have cD := HD.out.cell
      have kD : ∀ p : Seen (w.heap.size + 1) (.slice va us.length vc), p.world.cell? ⟨w.heap.size + 1, 0, none⟩ = some (.slice va us.length vc) := fun p => p.cell
      go_wp2_with fail
      refine Mx.wp_region_mix (S := fun w' => ∃ p : Seen (w.heap.size + 1) (.slice va us.length vc), w' = p.world) (Mx.ofL [(0, 1), (1, 0), (2, 2), (3, 3), (4, 3)] .done) (by kernel_rfl) (by kernel_rfl) ⟨⟨wr.drew, HD.out.cell⟩, rfl⟩ ?_
      refine Mx.mix1 rfl ?_
      go_big_quiet_step (rfl)
      refine wpQuiet_nil ?_
      refine Mx.mix0 rfl ?_
      go_big_quiet_step (fail)
      refine wpQuiet_nil ?_
      refine Mx.mix2 rfl ?_
      clear cD kD
      go_wp2_with fail
      refine (CE.out _ wr.drew (HC.out.below (below_drew1 (Below.refl _ _))) (by omega)).mono ?_
      rintro r w4 ⟨⟨u, e, rfl, hu, hel, het, hev⟩, hc4, hg4⟩
      have hl := HD.out.lt
      have hdr : Below wr.heap.size wr wr.drew := below_drew1 (Below.refl _ _)
      have HR4 := Lib.hid ((HR.out.below hdr HR.out.lt).keep hg4 hlt)
      have HD4 := Lib.hid ((HD.out.below hdr HD.out.lt).keep hg4 (by omega))
      have HE4 := Lib.hid ((HE.out.below hdr).keep hg4 (by omega))
      have HC4 := Lib.hid hc4
      have HG4 := Lib.hid (Lib.grownBy_trans (Lib.grownBy_below HG.out hdr) hg4)
      have HU4 := Lib.hid (row_M hu)
      have hs4 : wr.heap.size ≤ w4.heap.size := hg4.size
      have HCell := Lib.hid HD4.out.cell
      clear hc4 hg4 hdr hu HR HD HE HC HG
      go_wp2
      refine Mx.mid_normal (fun _ => ⟨⟨_, HCell.out⟩, rfl⟩) ?_
      refine Mx.mix3 rfl ?_
      go_wp2_with fail
      refine (CU.out _ _ _ e w4 HE4.out.at HU4.out (by rw [List.length_map]; omega) (fun x hx => by
        obtain ⟨p, hp, rfl⟩ := List.mem_map.1 hx
        obtain ⟨q1, q2, _⟩ := HX.out p hp
        exact ⟨by omega, by omega⟩) ⟨by omega, by omega⟩).mono ?_
      rintro r w5 ⟨⟨v5, us5, rfl, hr5, he5⟩, hb5⟩
      obtain ⟨a5, c5, hf5⟩ := hr5.form
      subst hf5
      have hlen5 : us5.length ≤ us.length + 1 := by
        have := Pl.put_len e (us.map (·.2))
        rw [← he5, List.length_map, List.length_map] at this
        exact this
      have hne5 : us5 ≠ [] := fun hh => by
        have := Pl.look_put_same e (us.map (·.2))
        rw [← he5, hh] at this
        cases this
      have HX5 : Hid (∀ p ∈ us5, drE p.2) := by
        intro p hp
        have hm : p.2 ∈ Pl.put e (us.map (·.2)) := by rw [← he5]; exact List.mem_map.2 ⟨p, hp, rfl⟩
        rcases Pl.put_mem hm with h | h
        · rw [h]; exact ⟨by omega, het, hev⟩
        · obtain ⟨p', hp', hh⟩ := List.mem_map.1 h
          have := HX.out p' hp'
          rw [hh] at this
          exact this
      have HD5 := Lib.hid (HD4.out.below hb5 HD4.out.lt)
      have HR5 := Lib.hid ((HR4.out.below hb5 HR4.out.lt).other (x := .slice a5 us5.length c5) (g := w.heap.size + 1) (o := 0) (by omega))
      have HE5 := Lib.hid ((hr5.mono (show w.heap.size + 1 + 1 ≤ w4.heap.size by omega)).setCell (B := w.heap.size + 1) (o := 0) (x := .slice a5 us5.length c5) (by omega))
      have HD6 := Lib.hid (HD5.out.set (.slice a5 us5.length c5))
      have HC5 := Lib.hid ((HC4.out.below hb5).setCellA (R := w.heap.size + 1) (by omega) 0 (.slice a5 us5.length c5))
      have HG5 := Lib.hid (grown_setCell (Lib.grownBy_below HG4.out hb5) (R := w.heap.size + 1) (by omega) 0 (.slice a5 us5.length c5))
      have cX := HD5.out.cell
      have fX := HD5.out.frozen
      clear hb5 hr5 he5 HD4 HR4 HE4 HC4 HG4 HU4 HX HD5 HCell
      go_wp2
      refine Mx.mid_normal (fun q => by cases q) ?_
      refine Mx.mix3 rfl ?_
      go_wp2_with fail
      refine Mx.mid_normal (fun q => by cases q) ?_
      refine Mx.mix_nil ?_
      clear cX fX
      go_wp2
      go_roundw
      case rel => exact ⟨k - 1, _, us5, by first | go_num | (congr 1; omega), by omega, by omega, fun hh => absurd hh hne5, HR5, HD6, HE5, HX5, HC5.out.mono (by omega), HG5⟩
      case measure => simp [intOf]; omega
    · obtain rfl : k = 0 := by omega
      obtain ⟨va, vc, hvf⟩ := HE.out.form
      subst hvf
      have hn1 : 1 ≤ us.length := by
        rcases Nat.eq_zero_or_pos us.length with h0 | h0
        · have := hne (List.length_eq_zero_iff.1 h0); omega
        · exact h0
      have cD := HD.out.cell
      have cR := HR.out.cell
      have fR := HR.out.frozen
      go_wp2
      refine bodyPost_ret (results_cell_row rfl _ _ _ _ _ _ _ rfl (HR.out.set _) Tryz.underlying26 rfl (by kernel_rfl)) rfl ?_
      exact ⟨⟨_, us, rfl, (HE.out.setCell (by omega)).mono (by omega), hn1, by omega, HX.out⟩, (HC.out.mono (by omega)).setCellA (by omega) _ _, grown_setCell HG.out (Nat.le_refl _) _ _⟩
set_option maxHeartbeats 2000000 in
theorem l6TextB_any (v : Value) (es : List Ent) (w : World) (h : EntsAt w v es) (hn : es.length ≤ 1000) (hx : ∀ e ∈ es, drE e) :
    Calls Tryz.prog 88 #[dV v] w fun r w' => r = .returned (.string (dicT es)) ∧ Below w.heap.size w w' := by
  obtain ⟨a, cap, rfl, hcap, hC⟩ := h.cells
  have CF := Lib.hid (fun v xs w h hn hv => l4Format_any v xs w h hn hv)
  have HX := Lib.hid (fun k e (h : es[k]? = some e) => hx e (List.mem_of_getElem? h))
  obtain ⟨n, hnn⟩ : ∃ n, n = es.length := ⟨_, rfl⟩
  rw [← hnn] at hn hcap ⊢
  have HN := Lib.hid hnn
  have HC := Lib.hid hC
  have hs1 : (⟨#[32]⟩ : ByteArray).size = 1 := rfl
  have hs2 : (⟨#[10]⟩ : ByteArray).size = 1 := rfl
  clear h hnn hC hx
  unfold dV
  go_enter Tryz.func88, Tryz.ntmps88
  go_wp2_with fail
  go_loopw [3, 4] (fun x i wr => ∃ (k : Nat) (t : ByteArray), i = .int .i64 k ∧ k ≤ n ∧ x = .string t ∧ Hid (t = dicT (es.take k)) ∧ t.size ≤ 262 * k ∧ Below (w.alloc (.cells #[.slice a n cap] 26)).heap.size (w.alloc (.cells #[.slice a n cap] 26)) wr) (fun _ i _ => n - (intOf i).toNat)
  case atStart => exact ⟨0, ⟨#[]⟩, rfl, Nat.zero_le _, rfl, Lib.hid rfl, Nat.le_refl _, Below.refl _ _⟩
  case round =>
    obtain ⟨k, t, rfl, hk, rfl, HT, hts, hbel⟩ := hrel
    have hbox := box1 hbel
    have HB := Lib.hid (below_box hbel)
    have HBel := Lib.hid hbel
    by_cases hlt : k < n
    · obtain ⟨e, he⟩ : ∃ e, es[k]? = some e := ⟨_, List.getElem?_eq_getElem (by rw [← HN.out]; exact hlt)⟩
      obtain ⟨bk, o, uk, rfl, hbk, g0, g1, gi⟩ := HC.out wr HB.out k e he
      have hok := HX.out k e he
      have hnx := dicT_next he
      rw [← HT.out] at hnx
      have hls := lineT_sizeB hok
      obtain ⟨xs, s⟩ := e
      obtain ⟨h2, h3, hv⟩ := hok
      simp only at g0 g1 gi hnx h2 h3 hv
      have HGI := Lib.hid gi
      obtain ⟨ua, ucap, rfl, _, _⟩ := gi.cells
      have c := fun w' hb => CF.out _ xs w' (HGI.out.below (w' := w') hb) (by omega) hv
      have hfs := fmtT_size xs
      obtain ⟨f, hf⟩ : ∃ f, f = fmtT xs := ⟨_, rfl⟩
      rw [← hf] at c hnx hfs
      have C1 : Hid (∀ d os, Calls Tryz.prog 143 #[.slice ua xs.length ucap] (Go.Sort.grow (redrawn wr d) os) fun r w'' => r = .returned (.string f) ∧ ∃ p : Regrown, w'' = Go.Sort.grow (redrawn wr p.d) p.os) := fun d os => Calls.regrown_of (c _ (below_regrown wr d os))
      have HNX := Lib.hid hnx
      have z1 : (t ++ f).size = t.size + f.size := by rw [ByteArray.size_append]
      have z2 : (t ++ f ++ (⟨#[32]⟩ : ByteArray)).size = t.size + f.size + 1 := by rw [ByteArray.size_append, z1]; rfl
      have z3 : (t ++ f ++ (⟨#[32]⟩ : ByteArray) ++ s).size = t.size + f.size + 1 + s.size := by rw [ByteArray.size_append, z2]
      have z4 : (t ++ f ++ (⟨#[32]⟩ : ByteArray) ++ s ++ (⟨#[10]⟩ : ByteArray)).size = t.size + f.size + 1 + s.size + 1 := by rw [ByteArray.size_append, z3]; rfl
      have kb := cell_regrown hbox
      have k0 := cell_regrown g0
      have k1 := cell_regrown g1
      clear he gi HT hf HC c hnx hv hls
      go_wp2_with fail
      refine wp_region_quiet_below (by kernel_rfl) (by kernel_rfl) ?_
      repeat (go_big_quiet_step (exact C1.out _ _))
      refine wpQuiet_nil ?_
      rintro _ ⟨⟨dq, osq⟩, rfl⟩
      have HB1 : Hid (Below wr.heap.size wr (Go.Sort.grow (redrawn wr dq) osq)) := below_regrown wr dq osq
      go_wp2
      go_roundw
      case rel => exact ⟨k + 1, _, by go_num, by omega, rfl, HNX, by omega, HBel.out.trans (HB1.out.mono HBel.out.size)⟩
      case measure => simp [intOf]; omega
    · obtain rfl : k = n := by omega
      have HF : Hid (t = dicT es) := by show t = _; rw [HT.out, List.take_of_length_le (by rw [← HN.out]; exact Nat.le_refl _)]
      clear HT
      go_wp2
      go_ret
      exact ⟨ret_str HF.out, HB.out⟩
/-- A drawn dictionary as the answer of a Draw function. -/
theorem drawValidD_any (a : Option Addr) (n cap : Nat) (w : World) (h : CodeAt w a n) :
    Calls Tryz.prog 83 #[.slice a n cap] w fun r w' => DDict w.heap.size w' r ∧ Below w.heap.size w w' := by
  have cd := fun B N w h hN => anyDictionary_any B N w h hN
  unfold DDict dV at cd
  unfold DDict dV
  have CD := Lib.hid cd
  clear cd
  obtain ⟨w0, hw0⟩ : ∃ W, W = (w.alloc (.cells #[.slice none 0 0] 26)).alloc (.cells #[.slice a n cap, .int .i64 0, .int .u64 0] 94) := ⟨_, rfl⟩
  have hb0 : Below w.heap.size w w0 := by rw [hw0]; exact below_al2 _ _ _
  have hs0 : w0.heap.size = w.heap.size + 1 + 1 := by rw [hw0]; simp
  have R0 : Hid (BoxV w0 w.heap.size 26 (.slice none 0 0)) := by rw [hw0]; exact (BoxV.new w _ _).below (below_al _ _) (by simp)
  have C0 : Hid (Cur w0 (w.heap.size + 1) 0) := by
    have e := cur_new (w.alloc (.cells #[.slice none 0 0] 26)) a n cap 94 (h.below (below_al _ _))
    rw [World.size_alloc] at e
    rw [hw0]; exact e
  have HB0 := Lib.hid hb0
  have HW0 := Lib.hid hw0
  clear h hb0 hw0
  go_enter Tryz.func83, Tryz.ntmps83
  go_wp2_with fail
  rw [← HW0.out]
  refine (CD.out _ _ _ C0.out (by omega)).mono ?_
  rintro r w1 ⟨⟨v, us, rfl, hr1, hl1, hx1⟩, hc1, hg1⟩
  obtain ⟨va, vc, hvf⟩ := hr1.form
  subst hvf
  have hb1 : Below w.heap.size w w1 := HB0.out.grown hg1 (by omega) (fun b e => by injection e with e; omega)
  have R1 := Lib.hid (R0.out.grown hg1 (by simp))
  rw [hs0] at hr1
  have HR := Lib.hid hr1
  have HX := Lib.hid hx1
  have HB1 := Lib.hid hb1
  have cR := R1.out.cell
  have fR := R1.out.frozen
  clear hr1 hx1 hc1 hg1 hb1 R0 C0 HB0 HW0 CD
  go_wp2
  refine bodyPost_ret (results_cell_row rfl _ _ w.heap.size _ _ _ _ rfl (R1.out.set _) Tryz.underlying26 rfl (by kernel_rfl)) rfl ?_
  exact ⟨⟨_, us, rfl, (HR.out.setCell (by omega)).mono (by omega), hl1, HX.out⟩, HB1.out.setCell (Nat.le_refl _) _⟩
theorem drawFormatD_any (a : Option Addr) (n cap : Nat) (w : World) (h : CodeAt w a n) :
    Calls Tryz.prog 25 #[.slice a n cap] w fun r w' => DDict w.heap.size w' r ∧ Below w.heap.size w w' := by
  have cd := fun w' hb => drawValidD_any a n cap w' (h.below (w' := w') hb)
  unfold DDict dV at cd
  unfold DDict dV
  have CD := Lib.hid cd
  clear cd h
  go_enter Tryz.func25, Tryz.ntmps25
  go_wp2_with fail
  refine (CD.out _ (below_al _ _)).mono ?_
  rintro r w1 ⟨⟨v, us, rfl, hr1, hl1, hx1⟩, hb1⟩
  obtain ⟨va, vc, hvf⟩ := hr1.form
  subst hvf
  have R1 : Hid (BoxV w1 w.heap.size 26 (.slice none 0 0)) := (BoxV.new w _ _).below hb1 (by simp)
  rw [World.size_alloc] at hr1
  have HR := Lib.hid hr1
  have HX := Lib.hid hx1
  have HB1 := Lib.hid (below_box hb1)
  have cR := R1.out.cell
  have fR := R1.out.frozen
  clear hr1 hx1 hb1 CD
  go_wp2
  refine bodyPost_ret (results_cell_row rfl _ _ w.heap.size _ _ _ _ rfl (R1.out.set _) Tryz.underlying26 rfl (by kernel_rfl)) rfl ?_
  exact ⟨⟨_, us, rfl, (HR.out.setCell (by omega)).mono (by omega), hl1, HX.out⟩, HB1.out.setCell (Nat.le_refl _) _⟩
set_option maxHeartbeats 4000000 in
theorem drawParseD_any (a : Option Addr) (n cap : Nat) (w : World) (h : CodeAt w a n) :
    Calls Tryz.prog 28 #[.slice a n cap] w fun r w' => (∃ t : ByteArray, t.size ≤ 3000 ∧ r = .returned (.string t)) ∧ Below w.heap.size w w' := by
  have C1 := Lib.hid (fun B N n w h hN h0 h1 => one_any B N n w h hN h0 h1)
  have cd := fun B N w h hN => dictionaryB_any B N w h hN
  have ct := fun v es w h hn hx => l6TextB_any v es w h hn hx
  unfold dV at cd ct
  have CD := Lib.hid cd
  have CT := Lib.hid ct
  have CS := Lib.hid (fun B N t wb w h hN ht h0 h1 => spoilt_any B N t wb w h hN ht h0 h1)
  clear cd ct
  obtain ⟨w0, hw0⟩ : ∃ W, W = w.alloc (.cells #[.slice a n cap, .int .i64 0, .int .u64 0] 94) := ⟨_, rfl⟩
  have hb0 : Below w.heap.size w w0 := by rw [hw0]; exact below_al _ _
  have hs0 : w0.heap.size = w.heap.size + 1 := by rw [hw0]; simp
  have C0 : Hid (Cur w0 w.heap.size 0) := by rw [hw0]; exact cur_new w a n cap 94 h
  have HB0 := Lib.hid hb0
  have HW0 := Lib.hid hw0
  clear h hb0 hw0
  go_enter Tryz.func28, Tryz.ntmps28
  go_wp2_with fail
  rw [← HW0.out]
  refine (CD.out _ _ _ C0.out (by omega)).mono ?_
  rintro r w1 ⟨⟨v, us, rfl, hr1, _, hl1, hx1⟩, hc1, hg1⟩
  obtain ⟨va, vc, hvf⟩ := hr1.form
  subst hvf
  have hb1 : Below w.heap.size w w1 := HB0.out.grown hg1 (by omega) (fun b e => by injection e with e; omega)
  have hat := hr1.at.at
  have hlen : (us.map (·.2)).length = us.length := List.length_map _
  have hdr : ∀ e ∈ us.map (·.2), drE e := by
    intro e he
    obtain ⟨p, hp, rfl⟩ := List.mem_map.1 he
    exact hx1 p hp
  have hsz := dicT_sizeB hdr
  rw [hlen] at hsz
  have HT := Lib.hid (CT.out _ _ w1 hat (by omega) hdr)
  have HB1 := Lib.hid hb1
  have HC1 := Lib.hid hc1
  obtain ⟨s, hs⟩ : ∃ s, s = dicT (us.map (·.2)) := ⟨_, rfl⟩
  rw [← hs] at hsz HT
  have hs3 : s.size ≤ 2620 := by omega
  clear hr1 hx1 hc1 hg1 hb1 C0 HB0 HW0 CD CT hat hdr hs hsz hlen
  go_wp2_with fail
  refine HT.out.mono ?_
  rintro r w2 ⟨rfl, hb2⟩
  have HC2 := Lib.hid (HC1.out.below hb2)
  have HB2 := Lib.hid (below_step HB1.out hb2)
  clear hb2 HT HB1 HC1
  go_wp2_with fail
  refine (C1.out _ _ _ w2 HC2.out (by omega) (by omega) (by omega)).mono ?_
  rintro r w3 ⟨⟨b, rfl⟩, hc3, hg3⟩
  have HC3 := Lib.hid hc3
  have HB3 : Hid (Below w.heap.size w w3) := HB2.out.grown hg3 HB2.out.size (fun b e => by injection e with e; omega)
  clear hc3 hg3 HC2 HB2
  cases b
  · go_wp2_with fail
    refine (C1.out _ _ _ w3 HC3.out (by omega) (by omega) (by omega)).mono ?_
    rintro r w4 ⟨⟨b, rfl⟩, hc4, hg4⟩
    have HC4 := Lib.hid hc4
    have HB4 : Hid (Below w.heap.size w w4) := HB3.out.grown hg4 HB3.out.size (fun b e => by injection e with e; omega)
    clear hc4 hg4 HC3 HB3
    cases b
    · go_wp2
      go_ret
      exact ⟨⟨s, by omega, rfl⟩, HB4.out⟩
    · go_wp2_with fail
      refine (of_new w.heap.size _ w4 _ 5 HC4.out (by omega) ?_ rfl (by decide) (by decide)).mono ?_
      · kernel_rfl
      rintro r w5 ⟨⟨x, hx, rfl⟩, hc5, hg5⟩
      have HB5 : Hid (Below w.heap.size w w5) := HB4.out.grown hg5 HB4.out.size (fun b e => by injection e with e; omega)
      clear hc5 hg5 HC4 HB4
      go_wp2
      go_ret
      exact ⟨⟨x, by omega, rfl⟩, HB5.out⟩
  · have hz : (⟨#[47, 32, 10, 123, 125, 83, 84, 75, 97]⟩ : ByteArray).size = 9 := rfl
    go_wp2_with fail
    refine (CS.out _ _ s _ w3 HC3.out (by omega) (by omega) (by first | decide | (rw [hz]; omega)) (by first | decide | (rw [hz]; omega))).mono ?_
    rintro r w4 ⟨⟨x, hx, rfl⟩, hc4, hg4⟩
    have HB4 : Hid (Below w.heap.size w w4) := HB3.out.grown hg4 HB3.out.size (fun b e => by injection e with e; omega)
    clear hc4 hg4 HC3 HB3
    go_wp2
    go_ret
    exact ⟨⟨x, by omega, rfl⟩, HB4.out⟩
set_option maxHeartbeats 2000000 in
/-- Two dictionaries with the same entries are equal. -/
theorem vD_same (v u : Value) (es : List Ent) (w : World) (hv : EntsAt w v es) (hu : EntsAt w u es) (hn : es.length ≤ 2097152) (hx : ∀ e ∈ es, entOk e) :
    Calls Tryz.prog 14 #[dV v, dV u] w fun r w' => r = .returned (.bool true) ∧ Below w.heap.size w w' := by
  have HX := Lib.hid (fun k e (h : es[k]? = some e) => (hx e (List.mem_of_getElem? h)).1)
  obtain ⟨a, cap, rfl, hcap, hC⟩ := hv.cells
  obtain ⟨b, cap', rfl, hcap', hD⟩ := hu.cells
  have CE := Lib.hid (fun u v xs w hu hv he => vI_same u v xs w hu hv he)
  obtain ⟨n, hnn⟩ : ∃ n, n = es.length := ⟨_, rfl⟩
  rw [← hnn] at hn hcap hcap' ⊢
  have HN := Lib.hid hnn
  have HC := Lib.hid hC
  have HD := Lib.hid hD
  clear hv hu hnn hC hD hx
  unfold dV
  obtain ⟨W, hW⟩ : ∃ W, W = (w.alloc (.cells #[.slice a n cap] 26)).alloc (.cells #[.slice b n cap'] 26) := ⟨_, rfl⟩
  have HW := Lib.hid hW
  have HBW : Hid (Below w.heap.size w W) := by rw [hW]; exact below_al2 _ _ _
  have X1 : Hid (BoxV W w.heap.size 26 (.slice a n cap)) := by rw [hW]; exact (BoxV.new _ _ _).below (below_al _ _) (by simp)
  have X2 : Hid (BoxV W (w.heap.size + 1) 26 (.slice b n cap')) := by
    have := BoxV.new (w.alloc (.cells #[.slice a n cap] 26)) 26 (.slice b n cap')
    rw [World.size_alloc] at this
    rw [hW]; exact this
  clear hW
  go_enter Tryz.func14, Tryz.ntmps14
  go_wp2_with fail
  rw [← HW.out]
  go_loopw [5] (fun i wr => ∃ k : Nat, k ≤ n ∧ i = .int .i64 k ∧ Hid (Below W.heap.size W wr)) (fun i _ => n - (intOf i).toNat)
  case atStart => exact ⟨0, Nat.zero_le _, rfl, Below.refl _ _⟩
  case round =>
    obtain ⟨k, hk, rfl, HB⟩ := hrel
    have cx1 := (X1.out.below HB.out X1.out.lt).cell
    have cx2 := (X2.out.below HB.out X2.out.lt).cell
    by_cases hlt : k < n
    · obtain ⟨e, he⟩ : ∃ e, es[k]? = some e := ⟨_, List.getElem?_eq_getElem (by rw [← HN.out]; exact hlt)⟩
      obtain ⟨bk, o, x, rfl, hbk, g0, g1, gx⟩ := HC.out wr (below_step HBW.out HB.out) k e he
      obtain ⟨bk', o', y, rfl, hbk', g0', g1', gy⟩ := HD.out wr (below_step HBW.out HB.out) k e he
      have hel := HX.out k e he
      have c := fun w' hb => CE.out x y e.1 w' (gx.below (w' := w') hb) (gy.below hb) hel
      obtain ⟨xs, t⟩ := e
      obtain ⟨xa, xc, rfl, _, _⟩ := gx.cells
      obtain ⟨ya, yc, rfl, _, _⟩ := gy.cells
      simp only at c g0 g1 g0' g1'
      obtain ⟨m, hm⟩ : ∃ m, m = xs.length := ⟨_, rfl⟩
      rw [← hm] at c g0 g0'
      have C := Lib.hid c
      have hne : (t.toList == t.toList) = true := by simp
      have C2 : Hid (∀ d os, Calls Tryz.prog 24 #[.slice xa m xc, .slice ya m yc] (Go.Sort.grow (redrawn wr d) os) fun r w'' => r = .returned (.bool true) ∧ ∃ p : Regrown, w'' = Go.Sort.grow (redrawn wr p.d) p.os) :=
        fun d os => Calls.regrown_of (C.out _ (below_regrown wr d os))
      clear c he gx gy HX hm hel C
      have kx1 := cell_regrown cx1
      have kx2 := cell_regrown cx2
      have k0 := cell_regrown g0
      have k1 := cell_regrown g1
      have k0' := cell_regrown g0'
      have k1' := cell_regrown g1'
      go_wp2_with fail
      refine wp_region_quiet_below (by kernel_rfl) (by kernel_rfl) ?_
      repeat (go_big_quiet_step (exact C2.out _ _))
      refine wpQuiet_nil ?_
      rintro _ ⟨⟨dq, osq⟩, rfl⟩
      have HB1 : Hid (Below wr.heap.size wr (Go.Sort.grow (redrawn wr dq) osq)) := below_regrown wr dq osq
      clear kx1 kx2 k0 k1 k0' k1' cx1 cx2
      go_wp2
      go_roundw
      case rel => exact ⟨k + 1, by omega, by go_num, below_step HB.out HB1.out⟩
      case measure => simp [intOf]; omega
    · obtain rfl : k = n := by omega
      go_wp2
      go_ret
      exact ⟨rfl, below_step HBW.out HB.out⟩
end Go.Proofs.YtmpcdhoigepdpaaGreat
