/-
  CONTRACTS of the specification's chapter 11, fourth part: IsSegmentation.
-/
import Derived.Test.YthigdblloddepaaSgC
namespace Go.Proofs.Ythigdblloddepaa
set_option maxRecDepth 100000
open Go.RowKit

theorem isB_no {es : List Ent} {xs : List Int} {ls : List Pc} (h : sgB es xs = false) : isB es xs ls = false := by unfold isB; rw [h]; rfl
theorem isB_yes {es : List Ent} {xs : List Int} {ls : List Pc} (h : sgB es xs = true) : isB es xs ls = Pl.segB es xs 0 ls := by unfold isB; rw [h]; rfl
set_option maxHeartbeats 4000000 in
theorem specIsSegmentation_any (v : Value) (es : List Ent) (u : Value) (xs : List Int) (lv : Value) (ls : List Pc) (w : World) (h : EntsAt w v es) (hu : IntsAt w u xs) (hl : PcsAt w lv ls) (hn : es.length ≤ 2097152) (hx : ∀ e ∈ es, entOk e) (hxn : xs.length ≤ 2097152) (hln : ls.length ≤ 2097152) :
    Calls Try.prog 24 #[dV v, u, lv] w fun r w' => r = .returned (.tuple #[.bool (isB es xs ls), .bool (sgB es xs)]) ∧ Below w.heap.size w w' := by
  have cg := fun w' hb => l6Good_any v es w' (h.below (w' := w') hb) hn hx
  have cs := fun w' hb => l11Strokes_any u xs w' (hu.below (w' := w') hb) hxn
  have CF := Lib.hid (fun ys u' w' hb (hu' : IntsAt w' u' ys) (hy : ys.length ≤ 2097152) => l6Find_any v es u' ys w' (h.below (w' := w') hb) hu' hn hx hy)
  have HB : Hid (sgB es xs = (okD es && okS60 xs)) := rfl
  have HNo := Lib.hid (fun h => isB_no (es := es) (xs := xs) (ls := ls) h)
  have HYes := Lib.hid (fun h => isB_yes (es := es) (xs := xs) (ls := ls) h)
  have HX60 := Lib.hid (fun h : okS60 xs = true => (okS60_yes h).1)
  have HUat := Lib.hid hu
  obtain ⟨a, cap, rfl, hcap, _⟩ := h.cells
  obtain ⟨ua, uc, rfl, huc, _⟩ := hu.cells
  obtain ⟨la, lc, rfl, hlc, hl⟩ := hl
  obtain ⟨n, hnn⟩ : ∃ n, n = xs.length := ⟨_, rfl⟩
  obtain ⟨dn, hdn⟩ : ∃ n, n = es.length := ⟨_, rfl⟩
  obtain ⟨m, hmn⟩ : ∃ n, n = ls.length := ⟨_, rfl⟩
  have HM := Lib.hid hmn
  have HC : Hid (∀ w', Below w.heap.size w w' → ∀ (j : Nat) e, ls[j]? = some e → ∃ bk o, la = some ⟨bk, o, none⟩ ∧ w'.cell? ⟨bk, o + j * 3, none⟩ = some (.int .i64 e.1) ∧ w'.cell? ⟨bk, o + j * 3 + 1, none⟩ = some (.int .i64 e.2.1) ∧ w'.cell? ⟨bk, o + j * 3 + 2, none⟩ = some (.string e.2.2)) := by
    intro w' hb j e he
    rcases hl with rfl | ⟨bk, o, ha, hk, h⟩
    · simp at he
    · obtain ⟨g0, g1, g2⟩ := h j e he
      exact ⟨bk, o, ha, (hb.cell (p := ⟨bk, o + j * 3, none⟩) hk).trans g0, (hb.cell (p := ⟨bk, o + j * 3 + 1, none⟩) hk).trans g1, (hb.cell (p := ⟨bk, o + j * 3 + 2, none⟩) hk).trans g2⟩
  have HS : Hid (∀ i q, i + q ≤ n → 1 ≤ q → ∃ bk o, ua = some ⟨bk, o, none⟩ ∧ ∀ w', Below w.heap.size w w' → IntsAt w' (.slice (some ⟨bk, o + i, none⟩) q (uc - i)) ((xs.drop i).take q)) := by
    intro i q hq h1
    obtain ⟨bk, o, c', hv, _, hbk, hC⟩ := ints_block HUat.out (by omega)
    injection hv with hv1 hv2 hv3
    refine ⟨bk, o, hv1, fun w' hb => ?_⟩
    have hl' : ((xs.drop i).take q).length = q := by rw [List.length_take, List.length_drop]; omega
    refine ⟨_, uc - i, by rw [hl'], by rw [hl']; omega, .inr ⟨bk, o + i, rfl, Nat.lt_of_lt_of_le hbk hb.size, fun j x hx => ?_⟩⟩
    have hj : j < q := by
      rcases Nat.lt_or_ge j q with h' | h'
      · exact h'
      · rw [List.getElem?_eq_none (by rw [hl']; exact h')] at hx; cases hx
    rw [List.getElem?_take_of_lt hj, List.getElem?_drop] at hx
    rw [Nat.add_assoc]
    exact (hb.cell (p := ⟨bk, o + (i + j), none⟩) hbk).trans (hC _ _ hx)
  have HStep := Lib.hid (fun k p (hk : ls[k]? = some p) i => Pl.segB_drop (es := es) (xs := xs) hk i)
  have HEnd : Hid (∀ i, Pl.segB es xs i (ls.drop m) = decide ((i : Int) = (n : Int))) := by
    intro i; rw [hmn, List.drop_length, hnn]; rfl
  have HD0 : Hid (Pl.segB es xs 0 (ls.drop 0) = Pl.segB es xs 0 ls) := rfl
  have HSp : Hid (∀ i p, Pl.spB es xs i p = (decide (p.1 = (i : Int)) && (decide (1 ≤ p.2.1) && decide (p.2.1 ≤ (n : Int) - (i : Int))) && (if p.2.2.data.toList = [] then decide (p.2.1 = 1) else match Pl.lkP es xs i p.2.1.toNat with | some t => decide (t.data.toList = p.2.2.data.toList) | none => false))) := by
    intro i p; rw [hnn]; rfl
  rw [← hnn] at cs huc HX60 hxn ⊢
  unfold dV at cg CF ⊢
  rw [← hdn] at cg CF hcap ⊢
  rw [← hmn] at hlc hln ⊢
  have A2 := Lib.hid (BoxV.new w 33 (.slice a dn cap))
  have BX := Lib.hid (below_al w (.cells #[.slice a dn cap] 33))
  clear h hu hl hnn hdn hmn HUat
  obtain ⟨bD, hbD⟩ : ∃ b, b = okD es := ⟨_, rfl⟩
  obtain ⟨bS, hbS⟩ : ∃ b, b = okS60 xs := ⟨_, rfl⟩
  obtain ⟨B, hB⟩ : ∃ b, b = sgB es xs := ⟨_, rfl⟩
  obtain ⟨I, hI⟩ : ∃ b, b = isB es xs ls := ⟨_, rfl⟩
  rw [← hB] at HB HNo HYes ⊢
  rw [← hI] at HNo HYes ⊢
  rw [← hbD, ← hbS] at HB
  rw [← hbD] at cg
  rw [← hbS] at cs HX60
  have CG := Lib.hid cg
  have CS := Lib.hid cs
  clear cg cs hbD hbS hx hn hB hI
  go_enter Try.func24, Try.ntmps24
  cases bD
  · obtain rfl : B = false := HB.out
    obtain rfl : I = false := HNo.out rfl
    go_wp2_with fail
    refine (CG.out _ BX.out).mono ?_
    rintro r w1 ⟨rfl, hb⟩
    have B1 := Lib.hid (below_step BX.out hb)
    clear hb CG CS CF HC HS HStep HEnd HD0 HSp HYes HNo A2
    go_wp2
    go_ret2
    exact ⟨rfl, B1.out⟩
  · cases bS
    · obtain rfl : B = false := HB.out
      obtain rfl : I = false := HNo.out rfl
      go_wp2_with fail
      refine (CG.out _ BX.out).mono ?_
      rintro r w1 ⟨rfl, hb⟩
      have B1 := Lib.hid (below_step BX.out hb)
      clear hb CG
      go_wp2_with fail
      refine (CS.out _ B1.out).mono ?_
      rintro r w2 ⟨rfl, rfl⟩
      clear CS CF HC HS HStep HEnd HD0 HSp HYes HNo A2
      go_wp2
      go_ret2
      exact ⟨rfl, B1.out⟩
    · obtain rfl : B = true := HB.out
      have hIe := HYes.out (by first | rfl | trivial)
      have h60 := HX60.out (by first | rfl | trivial)
      obtain ⟨D, hD⟩ : ∃ D : Nat → Nat → Bool, D = fun i k => Pl.segB es xs i (ls.drop k) := ⟨_, rfl⟩
      obtain ⟨Sp, hSp⟩ : ∃ Sp : Nat → Pc → Bool, Sp = fun i p => Pl.spB es xs i p := ⟨_, rfl⟩
      have HI : Hid (D 0 0 = I) := by rw [hD, hIe]; rfl
      have HSt : Hid (∀ k p, ls[k]? = some p → ∀ i, D i k = (Sp i p && D (i + p.2.1.toNat) (k + 1))) := by rw [hD, hSp]; exact HStep.out
      have HEn : Hid (∀ i, D i m = decide ((i : Int) = (n : Int))) := by rw [hD]; exact HEnd.out
      have HSpp : Hid (∀ i p, Sp i p = (decide (p.1 = (i : Int)) && (decide (1 ≤ p.2.1) && decide (p.2.1 ≤ (n : Int) - (i : Int))) && (if p.2.2.data.toList = [] then decide (p.2.1 = 1) else match Pl.lkP es xs i p.2.1.toNat with | some t => decide (t.data.toList = p.2.2.data.toList) | none => false))) := by rw [hSp]; exact HSp.out
      clear hD hSp HStep HEnd HSp HD0 hIe HYes HNo HX60
      go_wp2_with fail
      refine (CG.out _ BX.out).mono ?_
      rintro r w1 ⟨rfl, hb⟩
      have A3 := Lib.hid (A2.out.below hb (by simp))
      have B1 := Lib.hid (below_step BX.out hb)
      clear hb CG A2
      go_wp2_with fail
      refine (CS.out _ B1.out).mono ?_
      rintro r w2 ⟨rfl, rfl⟩
      clear CS
      go_wp2_with fail
      go_loopw [8, 9] (fun x i wr => ∃ (k j : Nat), i = .int .i64 k ∧ x = .int .i64 j ∧ k ≤ m ∧ j ≤ n ∧ Hid (D j k = I) ∧ Hid (BoxV wr w.heap.size 33 (.slice a dn cap)) ∧ Hid (Below w.heap.size w wr)) (fun _ i _ => m - (intOf i).toNat)
      case atStart => exact ⟨0, 0, rfl, rfl, Nat.zero_le _, Nat.zero_le _, HI, A3, B1⟩
      case round =>
        obtain ⟨k, j, rfl, rfl, hk, hj, HDk, HA, HBr⟩ := hrel
        by_cases hlt : k < m
        · obtain ⟨e, he⟩ : ∃ e, ls[k]? = some e := ⟨_, List.getElem?_eq_getElem (by rw [← HM.out]; exact hlt)⟩
          obtain ⟨bk, o, rfl, g0, g1, g2⟩ := HC.out wr HBr.out k e he
          have hst := HSt.out k e he j
          have hsp := HSpp.out j e
          rw [HDk.out] at hst
          obtain ⟨f, c, t⟩ := e
          dsimp only at g0 g1 g2 hst hsp
          have PB := PcB.new wr (f, c, t)
          have hal := below_al wr (.cells #[.int .i64 f, .int .i64 c, .string t] 28)
          have HBl := Lib.hid (below_step HBr.out hal)
          have HAl : Hid (BoxV (wr.alloc (.cells #[.int .i64 f, .int .i64 c, .string t] 28)) w.heap.size 33 (.slice a dn cap)) := HA.out.below hal HA.out.lt
          have PBl := Lib.hid PB
          have ci := fun w => l1In_any c 1 ((n : Int) - (j : Int)) w
          obtain ⟨S1, hS1⟩ : ∃ b, b = Sp j (f, c, t) := ⟨_, rfl⟩
          rw [← hS1] at hst hsp
          by_cases hf : f = (j : Int)
          · subst hf
            rw [decide_eq_true rfl, Bool.true_and] at hsp
            obtain ⟨R, hR⟩ : ∃ b, b = (decide (1 ≤ c) && decide (c ≤ (n : Int) - (j : Int))) := ⟨_, rfl⟩
            rw [← hR] at ci hsp
            have CI := Lib.hid ci
            cases R
            · have HF : Hid (I = false) := by rw [hst, hsp]; rfl
              clear hst hsp ci hR hS1 he hal PB HC HS HSt HEn HSpp HDk HI CF HBr HA
              go_wp2_with fail
              refine (CI.out _).mono ?_
              rintro r w2 ⟨rfl, rfl⟩
              go_wp2
              go_ret2
              exact ⟨by first | (rw [HF.out]; done) | (rw [HF.out]; rfl), HBl.out⟩
            · have hR' := hR.symm
              rw [Bool.and_eq_true, decide_eq_true_eq, decide_eq_true_eq] at hR'
              obtain ⟨q, rfl⟩ : ∃ q : Nat, c = (q : Int) := ⟨c.toNat, by omega⟩
              have hq1 : 1 ≤ q := by omega
              have hqn : j + q ≤ n := by omega
              rw [Bool.true_and] at hsp
              rw [Int.toNat_natCast] at hst hsp
              obtain ⟨ub, uo, rfl, hSI⟩ := HS.out j q hqn hq1
              have hyl : ((xs.drop j).take q).length ≤ 2097152 := by rw [List.length_take]; omega
              have CF1 := Lib.hid (fun w' hb => CF.out _ _ w' hb (hSI w' hb) hyl)
              obtain ⟨lk, hlk⟩ : ∃ lk, lk = Pl.lkP es xs j q := ⟨_, rfl⟩
              have hlk2 : Pl.look ((xs.drop j).take q) es = lk := by rw [hlk]; rfl
              rw [hlk2] at CF1
              rw [← hlk] at hsp
              have HSp1 := Lib.hid hsp
              have HSt1 := Lib.hid hst
              have k0 := cell_regrown HAl.out.cell
              have k1 := cell_regrown PBl.out.cells.2.1
              clear hst hsp ci hR hR' hS1 he hal PB HC HS HSt HSpp HDk HI CF HBr HA hlk hlk2 hSI hyl
              go_wp2_with fail
              refine (CI.out _).mono ?_
              rintro r w2 ⟨rfl, rfl⟩
              go_wp2_with fail
              refine Mx.wp_region_mixed (Mx.ofL [(0, 1), (1, 0), (2, 0), (3, 0), (4, 0), (5, 1), (6, 0), (7, 0), (8, 3), (9, 0), (10, 0), (11, 0), (12, 0), (13, 0)] .done) (by kernel_rfl) (by kernel_rfl) ?_
              repeat ((first | refine Mx.mix0 rfl ?_ | refine Mx.mix1 rfl ?_); go_big_quiet_step (fail); refine wpQuiet_nil ?_)
              refine Mx.mix3 rfl ?_
              have hd : Below (wr.alloc (.cells #[.int .i64 (j : Int), .int .i64 (q : Int), .string t] 28)).heap.size (wr.alloc (.cells #[.int .i64 (j : Int), .int .i64 (q : Int), .string t] 28)) (wr.alloc (.cells #[.int .i64 (j : Int), .int .i64 (q : Int), .string t] 28)).drew := below_drewN (Below.refl _ _) 1
              go_wp2_with fail
              refine (CF1.out _ (below_step HBl.out hd)).mono ?_
              rintro r w3 ⟨rfl, hb'⟩
              have hb := below_step hd hb'
              have A4 := Lib.hid (HAl.out.below hb HAl.out.lt)
              have P4 := Lib.hid (PBl.out.below hb PBl.out.lt)
              have B4 := Lib.hid (below_step HBl.out hb)
              clear hb hb' hd k0 k1 HAl PBl HBl CF1
              unfold lkE
              go_wp2
              refine Mx.mid_normal (fun q => by cases q) ?_
              repeat ((first | refine Mx.mix0 rfl ?_ | refine Mx.mix1 rfl ?_); go_big_quiet_step (fail); refine wpQuiet_nil ?_)
              refine Mx.mix_nil ?_
              obtain ⟨p0, p1, p2⟩ := P4.out.cells
              dsimp only at p0 p1 p2
              by_cases hz : t.data.toList = []
              · have htz : t = ⟨#[]⟩ := ByteArray.ext (Array.toList_inj.1 hz)
                subst htz
                by_cases hc1 : q = 1
                · subst hc1
                  have HN : Hid (D (j + 1) (k + 1) = I) := by
                    have h1 := HSp1.out
                    rw [if_pos hz] at h1
                    rw [HSt1.out, h1]; rfl
                  clear HSp1 HSt1 hz HEn
                  cases lk <;>
                  · go_wp2
                    go_roundw
                    case rel => exact ⟨k + 1, j + 1, by go_num, by go_num, by omega, by omega, HN, A4, B4⟩
                    case measure => simp [intOf]; omega
                · have hc1' : ¬ (q : Int) = 1 := by omega
                  have HF : Hid (I = false) := by
                    have h1 := HSp1.out
                    rw [if_pos hz, decide_eq_false hc1'] at h1
                    rw [HSt1.out, h1]; rfl
                  clear HSp1 HSt1 hz HEn
                  cases lk <;>
                  · go_wp2
                    go_ret2
                    exact ⟨by first | (rw [HF.out]; done) | (rw [HF.out]; rfl), B4.out⟩
              · have e1 : t.toList.isEmpty = false := by
                  rw [Lib.toList_data]
                  cases hl : t.data.toList with
                  | nil => exact absurd hl hz
                  | cons _ _ => rfl
                cases lk with
                | none =>
                  have HF : Hid (I = false) := by
                    have h1 := HSp1.out
                    rw [if_neg hz] at h1
                    rw [HSt1.out, h1]; rfl
                  clear HSp1 HSt1 hz HEn
                  go_wp2
                  go_ret2
                  exact ⟨by first | (rw [HF.out]; done) | (rw [HF.out]; rfl), B4.out⟩
                | some t' =>
                  by_cases htt : t'.data.toList = t.data.toList
                  · have htt' : t' = t := ByteArray.ext (Array.toList_inj.1 htt)
                    subst htt'
                    have HN : Hid (D (j + q) (k + 1) = I) := by
                      have h1 := HSp1.out
                      rw [if_neg hz] at h1
                      simp only [decide_true] at h1
                      rw [HSt1.out, h1]; rfl
                    clear HSp1 HSt1 hz HEn htt
                    go_wp2
                    go_roundw
                    case rel => exact ⟨k + 1, j + q, by go_num, by go_num, by omega, by omega, HN, A4, B4⟩
                    case measure => simp [intOf]; omega
                  · have HF : Hid (I = false) := by
                      have h1 := HSp1.out
                      rw [if_neg hz] at h1
                      simp only [decide_eq_false htt] at h1
                      rw [HSt1.out, h1]; rfl
                    have q2 : (t.toList == t'.toList) = false := by rw [Lib.toList_data, Lib.toList_data, beq_eq_false_iff_ne]; exact fun e => htt e.symm
                    have q3 : ¬ t.toList = t'.toList := by rw [Lib.toList_data, Lib.toList_data]; exact fun e => htt e.symm
                    clear HSp1 HSt1 hz HEn htt
                    go_wp2
                    go_ret2
                    exact ⟨by first | (rw [HF.out]; done) | (rw [HF.out]; rfl), B4.out⟩
          · have hfb : (f != (j : Int)) = true := by simp [hf]
            have HF : Hid (I = false) := by
              rw [hst, hsp, decide_eq_false hf]; rfl
            clear hst hsp ci hS1 he hal PB HC HS HSt HEn HSpp HDk HI CF HBr HA
            go_wp2
            go_ret2
            exact ⟨by first | (rw [HF.out]; done) | (rw [HF.out]; rfl), HBl.out⟩
        · obtain rfl : k = m := by omega
          have HF : Hid (I = decide ((j : Int) = (n : Int))) := by rw [← HEn.out j]; exact HDk.out.symm
          clear HC HS HSt HEn HSpp HDk
          go_wp2
          go_ret2
          exact ⟨by first | (rw [HF.out]; done) | (rw [HF.out]; rfl), HBr.out⟩
end Go.Proofs.Ythigdblloddepaa
