/-
  The visible entries of a stack by the specification: l8Flat.
-/
import Derived.Test.YtpalpbpamcaakaaGreatOwn8
import Derived.Test.YtpalpbpamcaakaaGreatDictE
import Derived.Test.YtpalpbpamcaakaaGreatStk
import Derived.Test.YtpalpbpamcaakaaGreatMix
import Derived.Test.YtpalpbpamcaakaaGreatPD
namespace Go.Proofs.YtpalpbpamcaakaaGreat
set_option maxRecDepth 100000
open Go.RowKit

/-- Entries put into a dictionary one after the other. -/
def putAll (es acc : List Ent) : List Ent := es.foldl (fun a e => Pl.put e a) acc
/-- The visible entries: the layers put in from the last to the first. -/
def flatS : List Lay → List Ent
  | [] => []
  | l :: r => if l.2 = true then putAll l.1 (flatS r) else flatS r
theorem putAll_next {es acc : List Ent} {k : Nat} {e : Ent} (h : es[k]? = some e) : putAll (es.take (k + 1)) acc = Pl.put e (putAll (es.take k) acc) := by
  unfold putAll
  rw [List.take_add_one, h, List.foldl_append]; rfl
theorem putAll_len : ∀ (es acc : List Ent), (putAll es acc).length ≤ acc.length + es.length
  | [], acc => Nat.le_refl _
  | e :: es, acc => by
    have h1 := putAll_len es (Pl.put e acc)
    have h2 := Pl.put_len e acc
    show (putAll es (Pl.put e acc)).length ≤ _
    rw [List.length_cons]; omega
theorem putAll_mem : ∀ (es acc : List Ent) (x : Ent), x ∈ putAll es acc → x ∈ es ∨ x ∈ acc
  | [], acc, x, h => .inr h
  | e :: es, acc, x, h => by
    rcases putAll_mem es (Pl.put e acc) x h with h | h
    · exact .inl (List.mem_cons_of_mem _ h)
    · rcases Pl.put_mem h with rfl | h
      · exact .inl (List.mem_cons_self ..)
      · exact .inr h
theorem flatS_mem : ∀ (ls : List Lay) (x : Ent), x ∈ flatS ls → ∃ l ∈ ls, l.2 = true ∧ x ∈ l.1
  | [], x, h => by cases h
  | l :: r, x, h => by
    unfold flatS at h
    split at h
    · rename_i hl
      rcases putAll_mem _ _ x h with h | h
      · exact ⟨l, List.mem_cons_self .., hl, h⟩
      · obtain ⟨m, hm, h⟩ := flatS_mem r x h
        exact ⟨m, List.mem_cons_of_mem _ hm, h⟩
    · obtain ⟨m, hm, h⟩ := flatS_mem r x h
      exact ⟨m, List.mem_cons_of_mem _ hm, h⟩
theorem flatS_len : ∀ (ls : List Lay), (∀ l ∈ ls, l.1.length ≤ 40) → (flatS ls).length ≤ 40 * ls.length
  | [], _ => Nat.le_refl _
  | l :: r, h => by
    have h1 := flatS_len r fun m hm => h m (List.mem_cons_of_mem _ hm)
    have h2 := h l (List.mem_cons_self ..)
    have h3 := putAll_len l.1 (flatS r)
    unfold flatS
    rw [List.length_cons]
    split <;> omega
theorem flatS_drop {ls : List Lay} {j : Nat} {l : Lay} (h : ls[j]? = some l) : flatS (ls.drop j) = if l.2 = true then putAll l.1 (flatS (ls.drop (j + 1))) else flatS (ls.drop (j + 1)) := by
  obtain ⟨hj, he⟩ := List.getElem?_eq_some_iff.1 h
  rw [List.drop_eq_getElem_cons hj, he]
  conv => lhs; unfold flatS

theorem putAll_inc : ∀ (es : List Ent) {acc : List Ent}, Pl.Inc acc → Pl.Inc (putAll es acc)
  | [], _, h => h
  | e :: es, _, h => putAll_inc es (Pl.put_inc (e := e) h)
theorem flatS_inc : ∀ ls : List Lay, Pl.Inc (flatS ls)
  | [] => Pl.inc_of [] rfl
  | l :: r => by
    unfold flatS
    split
    · exact putAll_inc _ (flatS_inc r)
    · exact flatS_inc r
/-- What one layer shows hides what the later ones show. -/
theorem look_putAll (o : List Int) : ∀ (es : List Ent) (acc : List Ent), (∀ (i j : Nat) x y, es[i]? = some x → es[j]? = some y → x.1 = y.1 → i = j) → Pl.look o (putAll es acc) = match Pl.look o es with | some t => some t | none => Pl.look o acc
  | [], acc, _ => rfl
  | e :: es, acc, h => by
    have ih := look_putAll o es (Pl.put e acc) fun i j x y hx hy hxy => by
      have := h (i + 1) (j + 1) x y (by simpa using hx) (by simpa using hy) hxy
      omega
    show Pl.look o (putAll es (Pl.put e acc)) = _
    rw [ih, Pl.look_cons]
    by_cases ho : e.1 = o
    · rw [if_pos ho]
      have hn : Pl.look o es = none := by
        refine Pl.look_none fun y hy e2 => ?_
        obtain ⟨j, hj⟩ := List.getElem?_of_mem hy
        have := h 0 (j + 1) e y rfl (by simpa using hj) (ho.trans e2.symm)
        omega
      rw [hn, ← ho, Pl.look_put_same]
    · rw [if_neg ho]
      cases hl : Pl.look o es with
      | some t => rfl
      | none => exact Pl.look_put_other (fun h => ho h.symm) acc
theorem okD_flat {ls : List Lay} (hk : okK ls = true) : okD (flatS ls) = decide ((flatS ls).length ≤ 40) := by
  have h1 : (flatS ls).all okE = true := by
    rw [List.all_eq_true]
    intro e he
    obtain ⟨l, hl, _, h⟩ := flatS_mem ls e he
    exact (okD_parts ((okK_parts hk).2 l hl)).2.1 e h
  unfold okD
  rw [h1, Pl.of_inc _ (flatS_inc ls)]
  simp

set_option maxHeartbeats 8000000 in
theorem l8Flat_any (v : Value) (ls : List Lay) (w : World) (h : LaysAt w v ls) (hk : okK ls = true) :
    Calls Tryz.prog 72 #[dV v] w fun r w' => (∃ v' us, r = .returned (dV v') ∧ Rows w' (w.heap.size + 3) v' us ∧ us.map (·.2) = flatS ls) ∧ Below w.heap.size w w' := by
  obtain ⟨hl4, hld⟩ := okK_parts hk
  have HLen := Lib.hid (fun (j k : Nat) (l : Lay) (hl : l ∈ ls) => show (putAll (l.1.take k) (flatS (ls.drop j))).length ≤ 1000 by
    have h1 := putAll_len (l.1.take k) (flatS (ls.drop j))
    have h2 := flatS_len (ls.drop j) fun l hl => (okD_parts (hld l (List.mem_of_mem_drop hl))).1
    have h3 := (okD_parts (hld l hl)).1
    rw [List.length_drop] at h2
    rw [List.length_take] at h1
    omega)
  have HOk := Lib.hid (fun (j k : Nat) (l : Lay) (hl : l ∈ ls) => show ∀ e ∈ putAll (l.1.take k) (flatS (ls.drop j)), entOk e by
    intro e he
    have : ∃ l ∈ ls, e ∈ l.1 := by
      rcases putAll_mem _ _ e he with h | h
      · exact ⟨l, hl, List.mem_of_mem_take h⟩
      · obtain ⟨m, hm, _, h⟩ := flatS_mem _ e h
        exact ⟨m, List.mem_of_mem_drop hm, h⟩
    obtain ⟨m, hm, he⟩ := this
    have := okE_size ((okD_parts (hld m hm)).2.1 e he)
    exact ⟨by omega, by omega⟩)
  have HE := Lib.hid (fun l (hl : l ∈ ls) e (he : e ∈ l.1) => okE_size ((okD_parts (hld l hl)).2.1 e he))
  have H40 := Lib.hid (fun l (hl : l ∈ ls) => (okD_parts (hld l hl)).1)
  obtain ⟨a, cap, rfl, hcap, hC⟩ := h.cells
  have HC := Lib.hid hC
  have hp := fun v es u e w h hu hn hx he => l6Put_any v es u e w h hu hn hx he
  unfold dV enV at hp
  have HP := Lib.hid hp
  obtain ⟨n, hnn⟩ : ∃ n, n = ls.length := ⟨_, rfl⟩
  rw [← hnn] at hl4 hcap ⊢
  have HN := Lib.hid hnn
  obtain ⟨i0, hi0, hz0, hz1, hz2⟩ := info_parts infoInt
  clear h hC hnn hk hld hp
  unfold dV
  go_enter Tryz.func72, Tryz.ntmps72
  go_wp2_with fail
  go_loopw [4] (fun i wr => ∃ (m : Nat) (z : Int) (ov : Value) (us : List (Value × Ent)), i = .int .i64 z ∧ Hid (z = (m : Int) - 1) ∧ m ≤ n ∧ Hid (BoxV wr w.heap.size 26 (.slice a n cap)) ∧ Hid (BoxV wr (w.heap.size + 1) 34 (.slice none 0 0)) ∧ Hid (BoxV wr (w.heap.size + 1 + 1) 34 ov) ∧
      Hid (Rows wr (w.heap.size + 3) ov us) ∧ Hid (us.map (·.2) = flatS (ls.drop m)) ∧ Hid (Below w.heap.size w wr)) (fun i _ => (intOf i + 1).toNat)
  case atStart =>
    obtain ⟨q0, q1, q2⟩ := boxes3 w (.slice a n cap) (.slice none 0 0) (.slice none 0 0) 26 34 34
    exact ⟨n, _, _, [], rfl, Lib.hid rfl, Nat.le_refl _, q0, q1, q2, Rows.nil _ _, Lib.hid (by rw [List.drop_of_length_le (by rw [← HN.out]; exact Nat.le_refl _)]; rfl), below_al3 _ _ _ _⟩
  case round =>
    obtain ⟨m, z, ov, us, rfl, HZ, hm, HB0, HB1, HB2, HR, HM, HB⟩ := hrel
    have hszr : w.heap.size + 1 + 1 < wr.heap.size := HB2.out.lt
    rcases Nat.eq_zero_or_pos m with hm0 | hm0
    · subst hm0
      obtain rfl : z = -1 := by have := HZ.out; omega
      have c2 := HB2.out.cell
      have c1 := HB1.out.cell
      have f1 := HB1.out.frozen
      obtain ⟨oa, oc, rfl⟩ := HR.out.form
      clear hm
      go_wp2
      refine bodyPost_ret (results_cell_row rfl _ _ _ _ _ _ _ rfl (HB1.out.set _) Tryz.underlying34 rfl (by kernel_rfl)) rfl ?_
      exact ⟨⟨_, us, rfl, HR.out.setCell (by omega), HM.out⟩, HB.out.setCell (by show w.heap.size ≤ w.heap.size + 1; omega) _⟩
    · obtain ⟨j, rfl⟩ : ∃ j, m = j + 1 := ⟨m - 1, by omega⟩
      obtain rfl : z = (j : Int) := by have := HZ.out; omega
      obtain ⟨l, hl⟩ : ∃ l, ls[j]? = some l := ⟨_, List.getElem?_eq_getElem (by rw [← HN.out]; omega)⟩
      have hlm := List.mem_of_getElem? hl
      have HFl := Lib.hid (flatS_drop hl)
      have HLen1 := Lib.hid (fun k => HLen.out (j + 1) k l hlm)
      have HOk1 := Lib.hid (fun k => HOk.out (j + 1) k l hlm)
      have HE1 := Lib.hid (HE.out l hlm)
      have h40 := H40.out l hlm
      have HC1 := Lib.hid (fun w1 hb => HC.out w1 hb j l hl)
      obtain ⟨es, fl⟩ := l
      simp only at h40
      obtain ⟨ne, hne⟩ : ∃ ne, ne = es.length := ⟨_, rfl⟩
      rw [← hne] at h40
      have HNE := Lib.hid hne
      clear hl hlm hne
      go_wp2
      go_loopw [5] (fun kk wq => ∃ (k : Nat) (ov : Value) (us : List (Value × Ent)), kk = .int .i64 k ∧ k ≤ ne ∧ Hid (fl = false → k = 0) ∧ Hid (BoxV wq w.heap.size 26 (.slice a n cap)) ∧ Hid (BoxV wq (w.heap.size + 1) 34 (.slice none 0 0)) ∧ Hid (BoxV wq (w.heap.size + 1 + 1) 34 ov) ∧
        Hid (Rows wq (w.heap.size + 3) ov us) ∧ Hid (us.map (·.2) = putAll (es.take k) (flatS (ls.drop (j + 1)))) ∧ Hid (Below w.heap.size w wq)) (fun kk _ => ne - (intOf kk).toNat)
      case atStart => exact ⟨0, ov, us, rfl, Nat.zero_le _, fun _ => rfl, HB0, HB1, HB2, HR, HM, HB⟩
      case round =>
        obtain ⟨k, ov, us, rfl, hk, HK0, HB0, HB1, HB2, HR, HM, HB⟩ := hrel
        have hszr : w.heap.size + 1 + 1 < wr.heap.size := HB2.out.lt
        have hbox := HB0.out.cell
        obtain ⟨bk, o, u, rfl, hbk, g0, g1, gi⟩ := HC1.out _ HB.out
        try simp only at g0 g1 gi
        obtain ⟨ua, ucap, rfl, _, _⟩ := gi.cells
        have GI := Lib.hid gi
        rw [← HNE.out] at g0
        clear gi
        cases fl
        · obtain rfl : k = 0 := HK0.out rfl
          have HM2 : Hid (us.map (·.2) = flatS (ls.drop j)) := Lib.hid (by rw [HFl.out]; exact HM.out)
          go_wp2
          go_roundw
          case rel => exact ⟨j, _, ov, us, rfl, Lib.hid (by omega), by omega, HB0, HB1, HB2, HR, HM2, HB⟩
          case measure => simp [intOf]
        · by_cases hlt : k < ne
          · obtain ⟨e, he⟩ : ∃ e, es[k]? = some e := ⟨_, List.getElem?_eq_getElem (by rw [← HNE.out]; exact hlt)⟩
            have hem := List.mem_of_getElem? he
            have HNx := Lib.hid (putAll_next (acc := flatS (ls.drop (j + 1))) he)
            have hsz := HE1.out e hem
            obtain ⟨_, _, hve, _, hce⟩ := (GI.out.m (fun e he => by have := HE1.out e he; omega)).cells
            injection hve with hve1 hve2 hve3
            subst hve1
            obtain ⟨ebk, eo, ue, rfl, hebk, e0, e1, hue⟩ := hce _ (Below.refl _ _) k e he
            have HLk := HLen1.out k
            have HOk2 := Lib.hid (HOk1.out k)
            obtain ⟨xs, t⟩ := e
            obtain ⟨va, vcap, rfl, _, _⟩ := hue.at.cells
            obtain ⟨mx, hmx⟩ : ∃ mx, mx = xs.length := ⟨_, rfl⟩
            have HMX := Lib.hid hmx
            simp only at e0 e1 hsz
            rw [← hmx] at e0 hsz
            have HUE := Lib.hid hue
            have HUL : Hid (us.length ≤ 1000) := Lib.hid (by have := congrArg List.length HM.out; rw [List.length_map] at this; rw [this]; exact HLk)
            clear he hem hve2 hve3 hce hue hmx HLk
            obtain ⟨oa, oc, rfl⟩ := HR.out.form
            obtain ⟨w9, hW⟩ : ∃ W, W = wr.alloc (.cells #[.slice va mx vcap, .string t] 52) := ⟨_, rfl⟩
            have hb9 : Below wr.heap.size wr w9 := by rw [hW]; exact below_al _ _
            have c60 : w9.cell? ⟨wr.heap.size, 0, none⟩ = some (.slice va mx vcap) := by rw [hW, World.cell?_alloc_at _ _ _ _ rfl]; rfl
            have c61 : w9.cell? ⟨wr.heap.size, 1, none⟩ = some (.string t) := by rw [hW, World.cell?_alloc_at _ _ _ _ rfl]; rfl
            have X0 : Hid (BoxV w9 w.heap.size 26 (.slice (some ⟨bk, o, none⟩) n cap)) := HB0.out.below hb9 HB0.out.lt
            have X1 : Hid (BoxV w9 (w.heap.size + 1) 34 (.slice none 0 0)) := HB1.out.below hb9 HB1.out.lt
            have X2 : Hid (BoxV w9 (w.heap.size + 1 + 1) 34 (.slice oa us.length oc)) := HB2.out.below hb9 HB2.out.lt
            have hu9 := HUE.out.below hb9
            rw [← HMX.out] at hu9
            have HU9 := Lib.hid hu9
            have HR9 := Lib.hid (HR.out.below hb9)
            have HB9 := Lib.hid (HB.out.trans (hb9.mono HB.out.size))
            have hout := X2.out.cell
            have ko := cell_regrown hout
            have k0 := cell_regrown c60
            have k1 := cell_regrown c61
            have HW9 := Lib.hid hW
            have hbA : Below w9.heap.size w9 (w9.drew.alloc (.cells #[] 3)) := (below_drew1 (Below.refl w9.heap.size w9)).alloc (Nat.le_refl _) _
            have HGA : Hid (∃ p : Regrown, w9.drew.alloc (.cells #[] 3) = Go.Sort.grow (redrawn w9 p.d) p.os) := regrown_of_below hbA
            have HBA := Lib.hid hbA
            clear hW hb9 c60 c61 hbA hu9
            go_wp2_with fail
            rw [← HW9.out]
            refine Mx.wp_region_mixed (Mx.ofL [(0, 1), (2, 0), (3, 1), (5, 0), (6, 1), (1, 2), (4, 2), (7, 0), (8, 3), (9, 3)] .done) (by kernel_rfl) (by kernel_rfl) ?_
            repeat ((first | refine Mx.mix0 rfl ?_ | refine Mx.mix1 rfl ?_); go_big_quiet_step (fail); refine wpQuiet_nil ?_)
            refine Mx.mix2 rfl ?_
            go_wp2
            refine Mx.mid_normal (fun _ => HGA.out) ?_
            refine Mx.mix2 rfl ?_
            refine append_ints hi0 hz0 hz1 hz2 rfl (.tmp 47) (.tmp 49) rfl w9.heap.size _ [] rfl (row_new w9.drew _) (.slice va mx vcap) xs rfl (HU9.out.below HBA.out) HBA.out.size (by simp) (by have := HMX.out; omega) ?_
            intro u1 w10 hown hg
            have hb10 : Below w9.heap.size w9 w10 := HBA.out.grown hg HBA.out.size (fun b hb => row_ge (row_new w9.drew 3) hb)
            rw [List.nil_append] at hown
            have hu10 := row_M hown
            obtain ⟨ra, rc, rfl, _, _⟩ := hu10.at.cells
            rw [← HMX.out] at hu10
            have HU10 := Lib.hid hu10
            have HB10 := Lib.hid hb10
            have HG10 := Lib.hid (regrown_of_below hb10)
            have hem := (HR9.out.at).below hb10
            rw [HM.out] at hem
            have HEM := Lib.hid hem
            have hlen : (putAll (es.take k) (flatS (ls.drop (j + 1)))).length = us.length := by rw [← HM.out, List.length_map]
            have hp1 := HP.out (.slice oa us.length oc) _ (.slice ra mx rc) (xs, t) w10 hem hu10 (by rw [hlen]; exact HUL.out) HOk2.out ⟨by have := HMX.out; show xs.length ≤ _; omega, by show t.size ≤ _; omega⟩
            rw [← HNx.out] at hp1
            have HP1 := Lib.hid hp1
            have Y0 : Hid (BoxV w10 w.heap.size 26 (.slice (some ⟨bk, o, none⟩) n cap)) := X0.out.below hb10 X0.out.lt
            have Y1 : Hid (BoxV w10 (w.heap.size + 1) 34 (.slice none 0 0)) := X1.out.below hb10 X1.out.lt
            have Y2 : Hid (BoxV w10 (w.heap.size + 1 + 1) 34 (.slice oa us.length oc)) := X2.out.below hb10 X2.out.lt
            have hszx : w.heap.size + 3 ≤ w10.heap.size := by have := Y2.out.lt; omega
            clear hown hg hb10 hu10 hem hlen hp1 ko k0 k1 hout
            rw [← HMX.out]
            refine Mx.mid_normal (fun _ => HG10.out) ?_
            go_frame
            refine Mx.mix0 rfl ?_
            go_big_quiet_step (fail)
            refine wpQuiet_nil ?_
            refine Mx.mix3 rfl ?_
            go_wp2_with fail
            refine HP1.out.mono ?_
            rintro r w11 ⟨⟨v2, us2, rfl, hR2, hM2⟩, hb11⟩
            obtain ⟨pa, pc, rfl⟩ := hR2.form
            have Z0 : Hid (BoxV w11 w.heap.size 26 (.slice (some ⟨bk, o, none⟩) n cap)) := Y0.out.below hb11 Y0.out.lt
            have Z1 : Hid (BoxV w11 (w.heap.size + 1) 34 (.slice none 0 0)) := Y1.out.below hb11 Y1.out.lt
            have Z2 : Hid (BoxV w11 (w.heap.size + 1 + 1) 34 (.slice oa us.length oc)) := Y2.out.below hb11 Y2.out.lt
            have HR11 : Hid (Rows w11 (w.heap.size + 3) (.slice pa us2.length pc) us2) := hR2.mono hszx
            have HM11 := Lib.hid hM2
            have HB11 : Hid (Below w.heap.size w w11) := by
              have h1 := HB10.out.trans (hb11.mono HB10.out.size)
              exact HB9.out.trans (h1.mono HB9.out.size)
            have z2 := Z2.out.cell
            have zf := Z2.out.frozen
            clear hR2 hM2 hb11
            go_wp2
            refine Mx.mid_normal (fun q => by cases q) ?_
            refine Mx.mix3 rfl ?_
            go_wp2
            refine Mx.mid_normal (fun q => by cases q) (Mx.mix_nil ?_)
            go_wp2
            go_roundw
            case rel => exact ⟨k + 1, _, us2, by go_num, by omega, (fun h => by cases h), Z0.out.other (by omega), Z1.out.other (by omega), Z2.out.set _, HR11.out.setCell (by omega), HM11, HB11.out.setCell (by show w.heap.size ≤ w.heap.size + 1 + 1; omega) _⟩
            case measure => simp [intOf]; omega
          · have HM2 : Hid (us.map (·.2) = flatS (ls.drop j)) := Lib.hid (by
              rw [HFl.out, HM.out, List.take_of_length_le (by rw [← HNE.out]; omega)]; rfl)
            go_wp2
            go_roundw
            case rel => exact ⟨j, _, ov, us, rfl, Lib.hid (by omega), by omega, HB0, HB1, HB2, HR, HM2, HB⟩
            case measure => simp [intOf]

set_option maxHeartbeats 2000000 in
theorem specFlatten_any (v : Value) (ls : List Lay) (w : World) (h : LaysAt w v ls) (hn : ls.length ≤ 2097152) (hx : ∀ l ∈ ls, layOk l) :
    Calls Tryz.prog 25 #[dV v] w fun r w' => (∃ v2, r = .returned (.tuple #[dV v2, .bool (okK ls && okD (flatS ls))]) ∧ ((okK ls && okD (flatS ls)) = true → EntsAt w' v2 (flatS ls)) ∧ ((okK ls && okD (flatS ls)) = false → v2 = .slice none 0 0)) ∧ Below w.heap.size w w' := by
  have cv := fun w' hb => specIsValidStack_any v ls w' (h.below (w' := w') hb) hn hx
  have cf := fun (hk : okK ls = true) w' hb => l8Flat_any v ls w' (h.below (w' := w') hb) hk
  have cg := fun v es w h hn hx => l6Good_any v es w h hn hx
  have hall : okK ls = true → (flatS ls).length ≤ 2097152 ∧ ∀ e ∈ flatS ls, entOk e := fun hk => by
    obtain ⟨h4, hd⟩ := okK_parts hk
    refine ⟨by have := flatS_len ls fun l hl => (okD_parts (hd l hl)).1; omega, fun e he => ?_⟩
    obtain ⟨l, hl, _, h⟩ := flatS_mem ls e he
    have := okE_size ((okD_parts (hd l hl)).2.1 e h)
    exact ⟨by omega, by omega⟩
  obtain ⟨a, cap, rfl, hcap, _⟩ := h.cells
  obtain ⟨n, hnn⟩ : ∃ n, n = ls.length := ⟨_, rfl⟩
  rw [← hnn] at hn hcap cv cf ⊢
  obtain ⟨k, hk⟩ : ∃ k, k = okK ls := ⟨_, rfl⟩
  rw [← hk] at cv cf hall ⊢
  obtain ⟨es, hes⟩ : ∃ es, es = flatS ls := ⟨_, rfl⟩
  rw [← hes] at cf hall ⊢
  obtain ⟨ok, hok⟩ : ∃ ok, ok = okD es := ⟨_, rfl⟩
  rw [← hok]
  have HOK := Lib.hid hok
  unfold dV at cv cf cg ⊢
  have CV := Lib.hid cv
  have CF := Lib.hid cf
  have CG := Lib.hid cg
  have HA := Lib.hid hall
  clear h hnn hx cv cf cg hk hes hall hok
  have q1 := (BoxV.new (w.alloc (.cells #[.slice a n cap] 26)) 34 (.slice none 0 0))
  rw [World.size_alloc] at q1
  have q0 := (BoxV.new w 26 (.slice a n cap)).below (below_al _ (.cells #[.slice none 0 0] 34)) (by simp)
  have Q0 := Lib.hid q0
  have Q1 := Lib.hid q1
  clear q0 q1
  go_enter Tryz.func25, Tryz.ntmps25
  go_wp2_with fail
  refine (CV.out _ (below_al2 _ _ _)).mono ?_
  rintro r w1 ⟨rfl, hb1⟩
  have R1 : Hid (BoxV w1 (w.heap.size + 1) 34 (.slice none 0 0)) := Q1.out.below hb1 Q1.out.lt
  have R0 : Hid (BoxV w1 w.heap.size 26 (.slice a n cap)) := Q0.out.below hb1 Q0.out.lt
  have HB1 := Lib.hid ((below_al2 w _ _).trans (hb1.mono (by simp; omega)))
  clear hb1
  cases k
  · have c1 := R1.out.cell
    have f1 := R1.out.frozen
    go_wp2
    refine bodyPost_ret (results_dt2 rfl _ _ (w.heap.size + 1) _ rfl (R1.out.set _)) rfl ?_
    exact ⟨⟨_, rfl, (fun h => by cases h), fun _ => rfl⟩, HB1.out.setCell (by show w.heap.size ≤ w.heap.size + 1; omega) _⟩
  · have c0 := R0.out.cell
    have ha := HA.out rfl
    go_wp2_with fail
    refine (CF.out trivial _ HB1.out).mono ?_
    rintro r w2 ⟨⟨v2, us, rfl, hR, hmap⟩, hb2⟩
    obtain ⟨oa, oc, rfl⟩ := hR.form
    have hul : us.length = es.length := by rw [← hmap, List.length_map]
    have S1 : Hid (BoxV w2 (w.heap.size + 1) 34 (.slice none 0 0)) := R1.out.below hb2 R1.out.lt
    have HB2 := Lib.hid (HB1.out.trans (hb2.mono HB1.out.size))
    have hem := hR.at
    rw [hmap] at hem
    rw [hul] at hem ⊢
    obtain ⟨ne, hne⟩ : ∃ ne, ne = es.length := ⟨_, rfl⟩
    obtain ⟨w3, hW⟩ : ∃ W, W = w2.alloc (.cells #[.slice oa ne oc] 34) := ⟨_, rfl⟩
    have hb23 : Below w2.heap.size w2 w3 := by rw [hW]; exact below_al _ _
    have c3 : w3.cell? ⟨w2.heap.size, 0, none⟩ = some (.slice oa ne oc) := by rw [hW]; exact (BoxV.new w2 34 _).cell
    have b3 : BoxV w3 w2.heap.size 34 (.slice oa ne oc) := by rw [hW]; exact BoxV.new w2 34 _
    have cg := CG.out (.slice oa es.length oc) es w3 (hem.at.below hb23) ha.1 ha.2
    rw [← HOK.out] at cg
    rw [← hne] at hem cg ⊢
    have HG := Lib.hid cg
    have S3 : Hid (BoxV w3 (w.heap.size + 1) 34 (.slice none 0 0)) := S1.out.below hb23 S1.out.lt
    have HB3 := Lib.hid (HB2.out.trans (hb23.mono HB2.out.size))
    have B3 := Lib.hid b3
    have HW3 := Lib.hid hW
    have HR2 := Lib.hid hR
    have HMap := Lib.hid hmap
    have HUL := Lib.hid hul
    have HNE := Lib.hid hne
    have HBR := Lib.hid hb23
    clear hb2 hR hmap hul hem hW hb23 cg b3 ha c0 hne
    rw [HW3.out] at c3
    go_wp2_with fail
    rw [← HW3.out]
    refine HG.out.mono ?_
    rintro r w4 ⟨rfl, hb4⟩
    have S4 : Hid (BoxV w4 (w.heap.size + 1) 34 (.slice none 0 0)) := S3.out.below hb4 S3.out.lt
    have HB4 := Lib.hid (HB3.out.trans (hb4.mono HB3.out.size))
    have b4 : BoxV w4 w2.heap.size 34 (.slice oa ne oc) := B3.out.below hb4 B3.out.lt
    have HR4 : Hid (Rows w4 (w1.heap.size + 3) (.slice oa ne oc) us) := by
      have h1 := HR2.out
      rw [HUL.out, ← HNE.out] at h1
      exact (h1.below HBR.out).below hb4
    have c4 := b4.cell
    have s4 := S4.out.cell
    have f4 := S4.out.frozen
    have hs1 := HB1.out.size
    have hr1 := R1.out.lt
    clear hb4 c3 b4
    cases ok
    · go_wp2
      refine bodyPost_ret (results_dt2 rfl _ _ (w.heap.size + 1) _ rfl (S4.out.set _)) rfl ?_
      exact ⟨⟨_, rfl, (fun h => by cases h), fun _ => rfl⟩, HB4.out.setCell (by show w.heap.size ≤ w.heap.size + 1; omega) _⟩
    · go_wp2
      refine bodyPost_ret (results_dt2 rfl _ _ (w.heap.size + 1) _ rfl (S4.out.set _)) rfl ?_
      refine ⟨⟨_, rfl, fun _ => ?_, fun h => by cases h⟩, HB4.out.setCell (by show w.heap.size ≤ w.heap.size + 1; omega) _⟩
      have h2 := (HR4.out.setCell (B := w.heap.size + 1) (o := 0) (x := .slice oa ne oc) (by omega)).at.at
      rw [HMap.out] at h2
      exact h2
end Go.Proofs.YtpalpbpamcaakaaGreat
