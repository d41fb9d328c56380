/-
  CONTRACTS of chapter 6: ParseDictionary of the specification.
-/
import Derived.Test.YtmpcdhoigepdpaaGreatPD
namespace Go.Proofs.YtmpcdhoigepdpaaGreat
set_option maxRecDepth 100000
open Go.RowKit

theorem cand_at {s : List UInt8} {k : Nat} {l : List UInt8} (h : (linesP s)[k]? = some l) : (candP s)[k]? = some (entP l) := by unfold candP; rw [List.getElem?_map, h]; rfl
theorem entP_noO {l : List UInt8} (h : parB ⟨(Pl.headC 32 l).toArray⟩ = false) : okE (entP l) = false := by
  cases hk : okE (entP l)
  · rfl
  · have := (entP_ok hk).2.1; rw [h] at this; cases this
theorem entP_noS {l : List UInt8} (h : (Pl.headC 32 l).length = l.length) : okE (entP l) = false := by
  cases hk : okE (entP l)
  · rfl
  · have h2 := congrArg List.length (Pl.cut_yes (entP_ok hk).1).1
    rw [List.length_append, List.length_cons] at h2
    omega
theorem tail_drop {l : List UInt8} (h : (Pl.headC 32 l).length ≠ l.length) : Pl.tailC 32 l = l.drop ((Pl.headC 32 l).length + 1) ∧ (Pl.headC 32 l).length + 1 ≤ l.length := by
  have hm : (32 : UInt8) ∈ l := by
    by_cases hm : (32 : UInt8) ∈ l
    · exact hm
    · rw [(Pl.cut_no hm).1] at h; exact absurd rfl h
  have h1 := (Pl.cut_yes hm).1
  have h2 := congrArg List.length h1
  rw [List.length_append, List.length_cons] at h2
  have key : ∀ a b : List UInt8, l = a ++ 32 :: b → l.drop (a.length + 1) = b := fun a b e => by
    rw [e, show a ++ 32 :: b = (a ++ [32]) ++ b by simp, List.drop_left' (by simp)]
  exact ⟨(key _ _ h1).symm, by omega⟩
theorem okD_take41 {es : List Ent} (h : 40 < es.length) : okD es = false ∧ okD (es.take 41) = false := ⟨okD_no_len (by omega), okD_no_len (by rw [List.length_take]; omega)⟩
theorem Touch.grownHigh {T : Nat → Prop} {a w w' : World} {row : Option Nat} (h : Touch T a w) (hg : w.grownBy w' row) (hr : ∀ j, row = some j → a.heap.size ≤ j) : Touch T a w' :=
  ⟨Nat.le_trans h.1 hg.size, fun b hl hT => (hg.block b (Nat.lt_of_lt_of_le hl h.1) (fun e => by have := hr b e.symm; omega)).trans (h.2 b hl hT)⟩
set_option maxHeartbeats 8000000 in
theorem specParseD_any (s : ByteArray) (w : World) (hs : s.size ≤ 1048576) :
    Calls Tryz.prog 30 #[.string s] w fun r w' => (∃ u, r = .returned (.tuple #[dV u, .bool (parDB s)]) ∧ EntsAt w' u (parD s)) ∧ Below w.heap.size w w' := by
  by_cases h4 : s.size ≤ 4000
  · have CS := Lib.hid (fun t c b hb w h => l1Split_any t c b hb w h)
    have CP := Lib.hid (fun t w h => specParseOutlineQ_any t w h)
    have HBad := Lib.hid (fun h => parDB_bad (s := s) h)
    have HRest := Lib.hid (fun h => parDB_rest (s := s) h)
    have HOk := Lib.hid (fun h h' => parDB_ok (s := s) h4 h h')
    have HNo := Lib.hid (fun h => parD_no (s := s) h)
    have HYes := Lib.hid (fun h => parD_yes (s := s) h)
    have HCo := Lib.hid (cand_ok h4)
    have HCl := Lib.hid (cand_len s)
    have HTx := Lib.hid (fun h => cand_text (s := s.data.toList) h)
    have HAtE := Lib.hid (fun k l (h : (linesP s.data.toList)[k]? = some l) => cand_at h)
    have HNoAt := Lib.hid (fun k e (h : (candP s.data.toList)[k]? = some e) he => okD_no_at h he)
    have CG := Lib.hid (fun v es w h hn hx => l6Good_any v es w h hn hx)
    have CT := Lib.hid (fun v es w h hn hx => l6Text_any v es w h hn hx)
    have hsb := Pl.splitB_size s 10
    have hparts : Pl.splitB s 10 = Pl.ofLists (linesP s.data.toList ++ [restP s.data.toList]) := by unfold Pl.splitB; rw [lines_rest]
    have hnn : (Pl.splitB s 10).length = (linesP s.data.toList).length + 1 := by rw [hparts]; unfold Pl.ofLists; rw [List.length_map, List.length_append]; rfl
    have hcl : (candP s.data.toList).length = (linesP s.data.toList).length := by unfold candP; rw [List.length_map]
    have HLn : Hid (∀ k x, k < (linesP s.data.toList).length → (Pl.splitB s 10)[k]? = some x → (linesP s.data.toList)[k]? = some x.data.toList) := by
      intro k x hk hx
      rw [hparts] at hx
      unfold Pl.ofLists at hx
      rw [List.getElem?_map, List.getElem?_append_left hk] at hx
      obtain ⟨l, hl, rfl⟩ := Option.map_eq_some_iff.1 hx
      exact hl
    have cs := fun w => CS.out s 10 10 rfl w (by omega)
    obtain ⟨L, hL⟩ : ∃ L, L = Pl.splitB s 10 := ⟨_, rfl⟩
    rw [← hL] at cs hsb hnn HLn
    have HSb := Lib.hid hsb
    obtain ⟨C, hC⟩ : ∃ C, C = candP s.data.toList := ⟨_, rfl⟩
    rw [← hC] at HBad HOk HYes HCo HCl HTx HAtE HNoAt hcl
    obtain ⟨N, hN⟩ : ∃ N, N = (linesP s.data.toList).length := ⟨_, rfl⟩
    rw [← hN] at hnn hcl HLn
    have HCs := Lib.hid cs
    have h4' : ¬ (4000 < (s.size : Int)) := by omega
    obtain ⟨R, hR⟩ : ∃ R, R = parD s := ⟨_, rfl⟩
    obtain ⟨b, hb⟩ : ∃ b, b = parDB s := ⟨_, rfl⟩
    rw [← hb] at HBad HRest HOk HNo HYes
    rw [← hR] at HNo HYes
    rw [← hR, ← hb]
    obtain ⟨q0, q1⟩ : BoxV ((w.alloc (.cells #[.slice none 0 0] 26)).alloc (.cells #[.slice none 0 0] 26)) w.heap.size 26 (.slice none 0 0) ∧ BoxV ((w.alloc (.cells #[.slice none 0 0] 26)).alloc (.cells #[.slice none 0 0] 26)) (w.heap.size + 1) 26 (.slice none 0 0) := by
      have h1 := BoxV.new (w.alloc (.cells #[.slice none 0 0] 26)) 26 (.slice none 0 0)
      rw [World.size_alloc] at h1
      exact ⟨(BoxV.new w _ _).below (below_al _ _) (by simp), h1⟩
    have HQ0 := Lib.hid q0
    have HQ1 := Lib.hid q1
    have HNoD : Hid (∀ (wx : World), b = false → ∃ u, (.returned (.tuple #[dV (.slice none 0 0), .bool false]) : Ending) = .returned (.tuple #[dV u, .bool b]) ∧ EntsAt wx u R) := fun wx h => ⟨_, by rw [h], by rw [HNo.out h]; exact EntsAt.nil _ _ _⟩
    clear hR hb q0 q1 cs hL hC hN hsb hparts CS
    have CS2 := Lib.hid (fun t w h => l1Split_any t 32 32 rfl w h)
    go_enter Tryz.func30, Tryz.ntmps30
    go_wp2_with fail
    refine (HCs.out _).mono ?_
    rintro r w1 ⟨lu, rfl, hlu, hb1⟩
    have B0 := Lib.hid (HQ0.out.below hb1 HQ0.out.lt)
    have B1 := Lib.hid (HQ1.out.below hb1 HQ1.out.lt)
    have W1 : Hid (Below w.heap.size w w1) := (below_al2 w _ _).trans (hb1.mono (by simp; omega))
    have hs1 : w.heap.size + 2 ≤ w1.heap.size := by have := hb1.size; simp at this; omega
    obtain ⟨la, lc, rfl, hlc, hcells⟩ := ownsRow_at hlu
    have HLc : Hid (∀ k x, L[k]? = some x → ∃ lb lo, la = some ⟨lb, lo, none⟩ ∧ w.heap.size + 2 ≤ lb ∧ lb < w1.heap.size ∧ w1.cell? ⟨lb, lo + k, none⟩ = some (.string x)) := by
      intro k x hx
      rcases hcells with h | ⟨lb, lo, ha, hlt, h⟩
      · rw [h] at hx; simp at hx
      · refine ⟨lb, lo, ha, ?_, hlt, h k x hx⟩
        have := own_ge hlu (j := lb) (by rw [ha]; rfl)
        simpa using this
    rw [hnn]
    rw [hnn] at hlc
    clear hb1 hlu hcells HQ0 HQ1
    have HT0 : Hid (Touch (fun x => x = w.heap.size + 1) w1 w1) := Touch.refl _ _
    have HR0 : Hid (RowX w1 w1.heap.size (.slice none 0 0) []) := RowX.nil _ _
    go_wp2_with fail
    go_loopw [6] (fun i wr => ∃ (k : Nat) (us : List (Value × Ent)) (v : Value), i = .int .i64 k ∧ k ≤ N ∧ k ≤ 41 ∧ Hid (us.map (·.2) = C.take k) ∧ us.length = k ∧
      Hid (BoxV wr w.heap.size 26 (.slice none 0 0)) ∧ Hid (BoxV wr (w.heap.size + 1) 26 v) ∧ Hid (RowX wr w1.heap.size v us) ∧ Hid (Touch (fun x => x = w.heap.size + 1) w1 wr) ∧ Hid (Below w.heap.size w wr)) (fun i _ => N - (intOf i).toNat)
    case atStart => exact ⟨0, [], _, rfl, Nat.zero_le _, by omega, Lib.hid rfl, rfl, B0, B1, HR0, HT0, W1⟩
    case round =>
      obtain ⟨k, us, v, rfl, hkN, hk41, HM, hul, HB0, HB1, HR, HT, HB⟩ := hrel
      have c0 := HB0.out.cell
      have f0 := HB0.out.frozen
      have c1 := HB1.out.cell
      have f1 := HB1.out.frozen
      obtain ⟨va, vc, rfl⟩ := HR.out.form
      rw [hul] at HB1 c1 HR
      by_cases hgo : k < N ∧ k ≤ 40
      · obtain ⟨hlt, hk40⟩ := hgo
        have hc1 : (k : Int) + 1 < ((N + 1 : Nat) : Int) := by omega
        have hc2 : (k : Int) ≤ 40 := by omega
        obtain ⟨ln, hln⟩ : ∃ x, L[k]? = some x := ⟨_, List.getElem?_eq_getElem (by rw [hnn]; omega)⟩
        have hsz := HSb.out ln (List.mem_of_getElem? hln)
        have hli := HLn.out k ln hlt hln
        obtain ⟨lb, lo, rfl, hlb, hlb2, hlcell⟩ := HLc.out k ln hln
        have hce := HAtE.out k _ hli
        have lcell : wr.cell? ⟨lb, lo + k, none⟩ = some (.string ln) := HT.out.cell hlcell (by omega)
        have hsplit := Pl.split_head 32 ln.data.toList
        have c2 := fun w => CS2.out ln w (by omega)
        have hhl := headC_len 32 ln.data.toList
        rw [Pl.data_len] at hhl
        obtain ⟨hd, hhd⟩ : ∃ hd : ByteArray, hd = ⟨(Pl.headC 32 ln.data.toList).toArray⟩ := ⟨_, rfl⟩
        have shd : hd.size = (Pl.headC 32 ln.data.toList).length := by rw [hhd, str_len]
        obtain ⟨rs, hrs⟩ : ∃ rs, Pl.splitB ln 32 = hd :: rs := by
          obtain ⟨r, hr⟩ := hsplit
          exact ⟨Pl.ofLists r, by unfold Pl.splitB; rw [hr, hhd]; rfl⟩
        rw [hrs] at c2
        have cp := fun w => CP.out hd w (by omega)
        have hbad0 : parB hd = false → okE (entP ln.data.toList) = false := fun h => entP_noO (by rw [← hhd]; exact h)
        have hbad1 : hd.size = ln.size → okE (entP ln.data.toList) = false := fun h => entP_noS (by rw [← shd, Pl.data_len]; exact h)
        have HB0f : Hid (okE (entP ln.data.toList) = false → b = false) := fun h => HBad.out (HNoAt.out k _ hce h)
        have hNx : C.take (k + 1) = C.take k ++ [entP ln.data.toList] := by rw [List.take_add_one, hce]; rfl
        have HCS := Lib.hid c2
        cases hok : parB hd
        · have HFin := Lib.hid (fun wx => HNoD.out wx (HB0f.out (hbad0 hok)))
          rw [hok] at cp
          unfold OutQ at cp
          have HCP := Lib.hid cp
          clear c2 cp hbad0 hbad1 hhd hsplit hNx hce hli hok hrs
          go_wp2_with fail
          refine (HCS.out _).mono ?_
          rintro r w2 ⟨u3, rfl, hu3, hb2⟩
          obtain ⟨ua, uc, rfl, huc, hucell⟩ := ownsRow_at hu3
          obtain ⟨ub, uo, rfl, hu0⟩ : ∃ ub uo, ua = some ⟨ub, uo, none⟩ ∧ w2.cell? ⟨ub, uo, none⟩ = some (.string hd) := by
            rcases hucell with h | ⟨x, y, ha, _, h⟩
            · cases h
            · exact ⟨x, y, ha, by have := h 0 hd rfl; simpa using this⟩
          have lcell2 := (hb2.cell (p := ⟨lb, lo + k, none⟩) (lt_of_cell lcell)).trans lcell
          have B20 := Lib.hid (HB0.out.below hb2 HB0.out.lt)
          have W2 := Lib.hid (below_step HB.out hb2)
          rw [List.length_cons] at *
          clear hb2 hu3 hucell HB0 HB1 HR HB c0 f0 c1 f1 lcell
          go_wp2_with fail
          refine (HCP.out _).mono ?_
          rintro r w3 ⟨⟨u4, rfl, _⟩, hb3⟩
          have lcell3 := (hb3.cell (p := ⟨lb, lo + k, none⟩) (lt_of_cell lcell2)).trans lcell2
          have B30 := Lib.hid (B20.out.below hb3 B20.out.lt)
          have W3 := Lib.hid (below_step W2.out hb3)
          have d0 := B30.out.cell
          have e0 := B30.out.frozen
          clear hb3 B20 W2 lcell2
          go_wp2
          (try simp only [Exit.inBlock, Exit.then])
          refine bodyPost_ret (results_dt2 rfl _ _ w.heap.size _ rfl (B30.out.set _)) rfl ?_
          exact ⟨HFin.out _, W3.out.setCell (by simp) _⟩
        · rw [hok] at cp
          unfold OutQ at cp
          by_cases heqs : hd.size = ln.size
          · have HFin := Lib.hid (fun wx => HNoD.out wx (HB0f.out (hbad1 heqs)))
            have HCP := Lib.hid cp
            have heqi : ((hd.size : Int) == (ln.size : Int)) = true := by rw [heqs]; simp
            clear c2 cp hbad0 hbad1 hhd hsplit hNx hce hli hok hrs heqs
            go_wp2_with fail
            refine (HCS.out _).mono ?_
            rintro r w2 ⟨u3, rfl, hu3, hb2⟩
            obtain ⟨ua, uc, rfl, huc, hucell⟩ := ownsRow_at hu3
            obtain ⟨ub, uo, rfl, hu0⟩ : ∃ ub uo, ua = some ⟨ub, uo, none⟩ ∧ w2.cell? ⟨ub, uo, none⟩ = some (.string hd) := by
              rcases hucell with h | ⟨x, y, ha, _, h⟩
              · cases h
              · exact ⟨x, y, ha, by have := h 0 hd rfl; simpa using this⟩
            have lcell2 := (hb2.cell (p := ⟨lb, lo + k, none⟩) (lt_of_cell lcell)).trans lcell
            have B20 := Lib.hid (HB0.out.below hb2 HB0.out.lt)
            have W2 := Lib.hid (below_step HB.out hb2)
            rw [List.length_cons] at *
            clear hb2 hu3 hucell HB0 HB1 HR HB c0 f0 c1 f1 lcell
            go_wp2_with fail
            refine (HCP.out _).mono ?_
            rintro r w3 ⟨⟨u4, rfl, _⟩, hb3⟩
            have lcell3 := (hb3.cell (p := ⟨lb, lo + k, none⟩) (lt_of_cell lcell2)).trans lcell2
            have B30 := Lib.hid (B20.out.below hb3 B20.out.lt)
            have W3 := Lib.hid (below_step W2.out hb3)
            have d0 := B30.out.cell
            have e0 := B30.out.frozen
            clear hb3 B20 W2 lcell2
            go_wp2
            (try simp only [Exit.inBlock, Exit.then])
            refine bodyPost_ret (results_dt2 rfl _ _ w.heap.size _ rfl (B30.out.set _)) rfl ?_
            exact ⟨HFin.out _, W3.out.setCell (by simp) _⟩
          · obtain ⟨htd, htl⟩ := tail_drop (l := ln.data.toList) (by rw [← shd, Pl.data_len]; exact heqs)
            rw [← shd, Pl.data_len] at htl
            rw [← shd] at htd
            have het : (⟨(Pl.tailC 32 ln.data.toList).toArray⟩ : ByteArray) = ln.extract (hd.size + 1) ln.size := by
              rw [htd]
              apply ByteArray.ext; apply Array.toList_inj.1
              simp only [ByteArray.data_extract, Array.toList_extract, List.extract]
              rw [List.take_of_length_le (by rw [List.length_drop, Pl.data_len]; omega)]
            obtain ⟨xs, hxs⟩ : ∃ xs, xs = parI hd := ⟨_, rfl⟩
            have hent : entP ln.data.toList = (xs, ln.extract (hd.size + 1) ln.size) := by unfold entP; rw [het, ← hhd, hxs]
            rw [hent] at hNx
            rw [← hxs] at cp
            have HM2 : Hid (∀ u : Value, (us ++ [(u, ((xs, ln.extract (hd.size + 1) ln.size) : Ent))]).map (fun x : Value × Ent => x.2) = C.take (k + 1)) := fun u => by rw [List.map_append, HM.out, hNx]; rfl
            have HCP := Lib.hid cp
            have hnei : ((hd.size : Int) == (ln.size : Int)) = false := by rw [beq_eq_false_iff_ne]; omega
            have hle : (hd.size : Int) + 1 ≤ (ln.size : Int) := by omega
            clear c2 cp hbad0 hbad1 hhd hsplit hNx hce hli hok hrs hxs hent het htd HM shd hhl heqs
            go_wp2_with fail
            refine (HCS.out _).mono ?_
            rintro r w2 ⟨u3, rfl, hu3, hb2⟩
            obtain ⟨ua, uc, rfl, huc, hucell⟩ := ownsRow_at hu3
            obtain ⟨ub, uo, rfl, hu0⟩ : ∃ ub uo, ua = some ⟨ub, uo, none⟩ ∧ w2.cell? ⟨ub, uo, none⟩ = some (.string hd) := by
              rcases hucell with h | ⟨x, y, ha, _, h⟩
              · cases h
              · exact ⟨x, y, ha, by have := h 0 hd rfl; simpa using this⟩
            have lcell2 := (hb2.cell (p := ⟨lb, lo + k, none⟩) (lt_of_cell lcell)).trans lcell
            have B20 := Lib.hid (HB0.out.below hb2 HB0.out.lt)
            have B21 := Lib.hid (HB1.out.below hb2 HB1.out.lt)
            have R2 := Lib.hid (HR.out.below hb2)
            have T2 := Lib.hid (HT.out.below hb2)
            have W2 := Lib.hid (below_step HB.out hb2)
            have hs12 : w1.heap.size ≤ w2.heap.size := T2.out.1
            rw [List.length_cons] at *
            clear hb2 hu3 hucell HB0 HB1 HR HB HT c0 f0 c1 f1 lcell
            go_wp2_with fail
            refine (HCP.out _).mono ?_
            rintro r w3 ⟨⟨u4, rfl, hu4⟩, hb3⟩
            have lcell3 := (hb3.cell (p := ⟨lb, lo + k, none⟩) (lt_of_cell lcell2)).trans lcell2
            have B30 := Lib.hid (B20.out.below hb3 B20.out.lt)
            have B31 := Lib.hid (B21.out.below hb3 B21.out.lt)
            have T3 := Lib.hid (T2.out.below hb3)
            have W3 := Lib.hid (below_step W2.out hb3)
            have HU : Hid (OwnInts w3.drew w2.heap.size u4 xs.length (fun j => xs.getD j 0)) := hu4
            have HB23 : Hid (Below w2.heap.size w2 w3.drew) := hb3.drew
            obtain ⟨u4a, u4c, hUf⟩ := hu4.form
            subst hUf
            have kd := cell_regrown B31.out.cell
            have kl := cell_regrown lcell3
            clear hb3 B20 B21 T2 W2 lcell2 hu4
            go_wp2_with fail
            refine Mx.wp_region_mixed (Mx.ofL [(0, 0), (1, 1), (2, 0), (3, 0), (4, 0), (5, 0), (6, 1), (7, 0), (8, 2), (9, 0), (10, 0), (11, 0), (12, 2), (13, 3), (14, 0), (15, 3)] .done) (by kernel_rfl) (by kernel_rfl) ?_
            repeat ((first | refine Mx.mix0 rfl ?_ | refine Mx.mix1 rfl ?_); go_big_quiet_step (fail); refine wpQuiet_nil ?_)
            refine Mx.mix2 rfl ?_
            go_wp2
            have hG0 : ∃ p : Regrown, w3.drew = Go.Sort.grow (redrawn w3 p.d) p.os := regrown_of_below (below_drewN (Below.refl _ _) 1)
            have HG0 := Lib.hid hG0
            have HG2 : ∀ o, Hid (∃ p : Regrown, w3.drew.alloc o = Go.Sort.grow (redrawn w3 p.d) p.os) := fun o => regrown_of_below ((below_drewN (Below.refl _ _) 1).trans ((below_al w3.drew o).mono (Nat.le_refl _)))
            clear hG0
            refine Mx.mid_normal (fun _ => HG0.out) ?_
            repeat ((first | refine Mx.mix0 rfl ?_ | refine Mx.mix1 rfl ?_); go_big_quiet_step (fail); refine wpQuiet_nil ?_)
            refine Mx.mix2 rfl ?_
            go_wp2
            refine Mx.mid_normal (fun _ => (HG2 _).out) ?_
            refine Mx.mix3 rfl ?_
            rw [show ∀ o, (w3.alloc o).drew = w3.drew.alloc o from fun _ => rfl]
            refine push_entX (w := w3.drew) (w0 := w2) rfl (.tmp 54) (.tmp 65) rfl w1.heap.size (.slice va k vc) us rfl R2.out HB23.out (.slice u4a xs.length u4c) (xs, ln.extract (hd.size + 1) ln.size) HU.out rfl hs12 (by omega) ?_
            intro v' w4 R4 hg4
            have AL : ∀ o, Below w3.heap.size w3 (w3.drew.alloc o) := fun o => (below_drewN (Below.refl _ _) 1).trans ((below_al w3.drew o).mono (Nat.le_refl _))
            have hrow : ∀ x, (Value.slice va k vc).ownBlock = some x → w1.heap.size ≤ x := fun x e => (R2.out.row.lt x e).1
            have B40 : Hid (BoxV w4 w.heap.size 26 (.slice none 0 0)) := (B30.out.below (AL _) B30.out.lt).grown hg4 (fun e => by have := hrow _ e.symm; omega)
            have B41 : Hid (BoxV w4 (w.heap.size + 1) 26 (.slice va k vc)) := (B31.out.below (AL _) B31.out.lt).grown hg4 (fun e => by have := hrow _ e.symm; omega)
            have W4 : Hid (Below w.heap.size w w4) := (W3.out.trans ((AL _).mono W3.out.size)).grown hg4 (by first | exact Nat.le_trans W3.out.size (AL _).size | (have := W3.out.size; simp; omega)) (fun x e => by have := hrow x e; omega)
            have T4 : Hid (Touch (fun x => x = w.heap.size + 1) w1 w4) := Touch.grownHigh (T3.out.below (AL _)) hg4 (fun x e => hrow x e)
            have d1 := B41.out.cell
            have e1 := B41.out.frozen
            have HR4 := Lib.hid R4
            obtain ⟨va', vc', hvf⟩ := R4.form
            simp only [List.length_append, List.length_singleton] at hvf
            rw [hul] at hvf
            subst hvf
            clear hg4 R4 hrow AL HB23 B30 B31 T3 W3 HU HG0 HG2 kd kl
            refine Mx.mid_normal (fun q => by cases q) ?_
            simp only [Act.put, List.setIfInBounds_toArray, List.set_cons_zero, List.set_cons_succ]
            repeat ((first | refine Mx.mix0 rfl ?_ | refine Mx.mix1 rfl ?_); go_big_quiet_step (fail); refine wpQuiet_nil ?_)
            refine Mx.mix3 rfl ?_
            go_wp2
            refine Mx.mid_normal (fun q => by cases q) (Mx.mix_nil ?_)
            go_wp2
            go_roundw
            case rel => exact ⟨k + 1, us ++ [(_, (xs, ln.extract (hd.size + 1) ln.size))], _, by go_num, by omega, by omega, HM2.out _, by rw [List.length_append]; simp; omega, B40.out.other (by omega), B41.out.set _, HR4.out.setCell (by omega), T4.out.setCell rfl _ _, W4.out.setCell (by show w.heap.size ≤ w.heap.size + 1; omega) _⟩
            case measure => simp [intOf]; omega
      · have hend : ¬ ((k : Int) + 1 < ((N + 1 : Nat) : Int)) ∨ ((k : Int) + 1 < ((N + 1 : Nat) : Int) ∧ ¬ ((k : Int) ≤ 40)) := by
          by_cases h2 : k < N
          · exact .inr (by omega)
          · exact .inl (by omega)
        have HA0 : EntsAt wr (.slice va k vc) (us.map (·.2)) := HR.out.own'.at
        rw [HM.out] at HA0
        have hCk : (C.take k).length = k := by rw [List.length_take, hcl]; omega
        have hcos : ∀ e ∈ C.take k, entOk e := fun e he => HCo.out e (List.mem_of_mem_take he)
        have CG1 := CG.out (.slice va k vc) (C.take k) wr HA0 (by omega) hcos
        unfold dV at CG1
        cases hok : okD (C.take k)
        · have hbf : b = false := by
            refine HBad.out ?_
            by_cases h41 : k = N
            · rw [List.take_of_length_le (by omega)] at hok; exact hok
            · exact (okD_take41 (by omega)).1
          have HFin := Lib.hid (fun wx => HNoD.out wx hbf)
          rw [hok] at CG1
          have HCG := Lib.hid CG1
          clear CG1 hok hbf hcos hCk HA0
          rcases hend with h1 | ⟨h1, h2⟩
          all_goals
            go_wp2_with fail
            refine HCG.out.mono ?_
            rintro r w2 ⟨rfl, hb2⟩
            have B20 := Lib.hid (HB0.out.below hb2 HB0.out.lt)
            have W2 := Lib.hid (below_step HB.out hb2)
            have d0 := B20.out.cell
            have e0 := B20.out.frozen
            clear hb2 HB0 HB1 HR HB HT c0 f0 c1 f1 HCG
            go_wp2
            (try simp only [Exit.inBlock, Exit.then])
            refine bodyPost_ret (results_dt2 rfl _ _ w.heap.size _ rfl (B20.out.set _)) rfl ?_
            exact ⟨HFin.out _, W2.out.setCell (by simp) _⟩
        · have hk40 : k ≤ 40 := by
            rcases Nat.lt_or_ge 40 k with h | h
            · rw [okD_no_len (by omega)] at hok; cases hok
            · exact h
          have hkN' : k = N := by omega
          have h1 : ¬ ((k : Int) + 1 < ((N + 1 : Nat) : Int)) := by omega
          clear hend
          have hcC : C.take k = C := List.take_of_length_le (by omega)
          rw [hcC] at hok CG1 HA0 HM
          rw [hok] at CG1
          have hall : ∀ e ∈ C, okE e = true := by
            intro e he
            obtain ⟨j, hj, hje⟩ := List.mem_iff_getElem.1 he
            cases h : okE e
            · have h9 := HNoAt.out j e (List.getElem?_eq_some_iff.2 ⟨hj, hje⟩) h
              rw [hok] at h9; cases h9
            · rfl
          have htx := HTx.out hall
          have HCT : Hid (∀ w', Below wr.heap.size wr w' → Calls Tryz.prog 88 #[dV (.slice va k vc)] w' fun r w'' => r = .returned (.string (dicT C)) ∧ Below w'.heap.size w' w'') := fun w' hb => CT.out (.slice va k vc) C w' (HA0.below hb) (by omega) hall
          unfold dV at HCT
          have HCG := Lib.hid CG1
          by_cases hr : restP s.data.toList = []
          · have hts : dicT C = s := by
              rw [hr, List.append_nil] at htx; exact ByteArray.ext (Array.toList_inj.1 htx)
            have hb := HOk.out hr hok
            have HRR := Lib.hid (HYes.out hb)
            have HBB := Lib.hid hb
            rw [hts] at HCT
            have hss : (s.toList == s.toList) = true := beq_self_eq_true _
            clear CG1 hok hcos hCk HA0 hb hr htx hall hts hkN' hcC
            go_wp2_with fail
            refine HCG.out.mono ?_
            rintro r w2 ⟨rfl, hb2⟩
            have BB2 := Lib.hid hb2
            have B20 := Lib.hid (HB0.out.below hb2 HB0.out.lt)
            have B21 := Lib.hid (HB1.out.below hb2 HB1.out.lt)
            have R2 := Lib.hid (HR.out.below hb2)
            have W2 := Lib.hid (below_step HB.out hb2)
            have d1 := B21.out.cell
            clear hb2 HB0 HB1 HR HB HT c0 f0 c1 f1 HCG
            go_wp2_with fail
            refine (HCT.out _ (by exact BB2.out)).mono ?_
            rintro r w3 ⟨rfl, hb3⟩
            have B30 := Lib.hid (B20.out.below hb3 B20.out.lt)
            have B31 := Lib.hid (B21.out.below hb3 B21.out.lt)
            have R3 := Lib.hid (R2.out.below hb3)
            have W3 := Lib.hid (below_step W2.out hb3)
            have e0 := B30.out.cell
            have e1 := B30.out.frozen
            have e2 := B31.out.cell
            clear hb3 B20 B21 R2 W2 HCT BB2 d1
            go_wp2
            (try simp only [Exit.inBlock, Exit.then])
            refine bodyPost_ret (results_dt2 rfl _ _ w.heap.size _ rfl (B30.out.set _)) rfl ?_
            exact ⟨⟨_, by rw [HBB.out]; rfl, by rw [HRR.out, ← HM.out]; exact (R3.out.setCell (by omega)).own'.at⟩, W3.out.setCell (by simp) _⟩
          · have hss : ((dicT C).toList == s.toList) = false := by
              refine str_ne ?_
              intro h
              rw [h] at htx
              exact hr (by simpa using htx)
            have HFin := Lib.hid (fun wx => HNoD.out wx (HRest.out hr))
            clear CG1 hok hcos hCk HA0 hr htx hall hkN' hcC
            go_wp2_with fail
            refine HCG.out.mono ?_
            rintro r w2 ⟨rfl, hb2⟩
            have BB2 := Lib.hid hb2
            have B20 := Lib.hid (HB0.out.below hb2 HB0.out.lt)
            have B21 := Lib.hid (HB1.out.below hb2 HB1.out.lt)
            have W2 := Lib.hid (below_step HB.out hb2)
            have d1 := B21.out.cell
            clear hb2 HB0 HB1 HR HB HT c0 f0 c1 f1 HCG
            go_wp2_with fail
            refine (HCT.out _ (by exact BB2.out)).mono ?_
            rintro r w3 ⟨rfl, hb3⟩
            have B30 := Lib.hid (B20.out.below hb3 B20.out.lt)
            have W3 := Lib.hid (below_step W2.out hb3)
            have e0 := B30.out.cell
            have e1 := B30.out.frozen
            clear hb3 B20 B21 W2 HCT BB2 d1
            go_wp2
            (try simp only [Exit.inBlock, Exit.then])
            refine bodyPost_ret (results_dt2 rfl _ _ w.heap.size _ rfl (B30.out.set _)) rfl ?_
            exact ⟨HFin.out _, W3.out.setCell (by simp) _⟩
  · have hb : parDB s = false := parDB_big h4
    have HFin : Hid (∀ wx, ∃ u, (.returned (.tuple #[dV (.slice none 0 0), .bool false]) : Ending) = .returned (.tuple #[dV u, .bool (parDB s)]) ∧ EntsAt wx u (parD s)) := fun wx => ⟨_, by rw [hb], by rw [parD_no hb]; exact EntsAt.nil _ _ _⟩
    have B0 : Hid (BoxV (w.alloc (.cells #[.slice none 0 0] 26)) w.heap.size 26 (.slice none 0 0)) := BoxV.new _ _ _
    have h4' : 4000 < (s.size : Int) := by omega
    clear hb
    go_enter Tryz.func30, Tryz.ntmps30
    go_wp2
    refine bodyPost_ret (results_dt2 rfl _ _ w.heap.size _ rfl (B0.out)) rfl ?_
    exact ⟨HFin.out _, below_al _ _⟩
end Go.Proofs.YtmpcdhoigepdpaaGreat
