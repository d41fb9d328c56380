/-
  CONTRACT of the specification's FewestPieces.
-/
import Derived.Test.YtnpiphkglhcifaaGreatG1FnSegment
namespace Go.Proofs.YtnpiphkglhcifaaGreat
set_option maxRecDepth 100000
open Go.RowKit

theorem isB_no {es : List Ent} {xs : List Int} {ls : List Pc} (h : sgB es xs = false) : isB es xs ls = false := by unfold isB; rw [h]; rfl
theorem isB_yes {es : List Ent} {xs : List Int} {ls : List Pc} (h : sgB es xs = true) : isB es xs ls = Pl.segB es xs 0 ls := by unfold isB; rw [h]; rfl
set_option maxHeartbeats 4000000 in
theorem specIsSegmentation_any (v : Value) (es : List Ent) (u : Value) (xs : List Int) (lv : Value) (ls : List Pc) (w : World) (h : EntsAt w v es) (hu : IntsAt w u xs) (hl : PcsAt w lv ls) (hn : es.length ≤ 2097152) (hx : ∀ e ∈ es, entOk e) (hxn : xs.length ≤ 2097152) (hln : ls.length ≤ 2097152) :
    Calls Tryz.prog 14 #[dV v, u, lv] w fun r w' => r = .returned (.tuple #[.bool (isB es xs ls), .bool (sgB es xs)]) ∧ Below w.heap.size w w' := by
  have cg := fun w' hb => l6Good_any v es w' (h.below (w' := w') hb) hn hx
  have cs := fun w' hb => l11Strokes_any u xs w' (hu.below (w' := w') hb) hxn
  have CF := Lib.hid (fun ys u' w' hb (hu' : IntsAt w' u' ys) (hy : ys.length ≤ 2097152) => l6Find_any v es u' ys w' (h.below (w' := w') hb) hu' hn hx hy)
  have HB : Hid (sgB es xs = (okD es && okS60 xs)) := rfl
  have HNo := Lib.hid (fun h => isB_no (es := es) (xs := xs) (ls := ls) h)
  have HYes := Lib.hid (fun h => isB_yes (es := es) (xs := xs) (ls := ls) h)
  have HX60 := Lib.hid (fun h : okS60 xs = true => (okS60_yes h).1)
  have HUat := Lib.hid hu
  obtain ⟨a, cap, rfl, hcap, _⟩ := h.cells
  obtain ⟨ua, uc, rfl, huc, _⟩ := hu.cells
  obtain ⟨la, lc, rfl, hlc, hl⟩ := hl
  obtain ⟨n, hnn⟩ : ∃ n, n = xs.length := ⟨_, rfl⟩
  obtain ⟨dn, hdn⟩ : ∃ n, n = es.length := ⟨_, rfl⟩
  obtain ⟨m, hmn⟩ : ∃ n, n = ls.length := ⟨_, rfl⟩
  have HM := Lib.hid hmn
  have HC : Hid (∀ w', Below w.heap.size w w' → ∀ (j : Nat) e, ls[j]? = some e → ∃ bk o, la = some ⟨bk, o, none⟩ ∧ w'.cell? ⟨bk, o + j * 3, none⟩ = some (.int .i64 e.1) ∧ w'.cell? ⟨bk, o + j * 3 + 1, none⟩ = some (.int .i64 e.2.1) ∧ w'.cell? ⟨bk, o + j * 3 + 2, none⟩ = some (.string e.2.2)) := by
    intro w' hb j e he
    rcases hl with rfl | ⟨bk, o, ha, hk, h⟩
    · simp at he
    · obtain ⟨g0, g1, g2⟩ := h j e he
      exact ⟨bk, o, ha, (hb.cell (p := ⟨bk, o + j * 3, none⟩) hk).trans g0, (hb.cell (p := ⟨bk, o + j * 3 + 1, none⟩) hk).trans g1, (hb.cell (p := ⟨bk, o + j * 3 + 2, none⟩) hk).trans g2⟩
  have HS : Hid (∀ i q, i + q ≤ n → 1 ≤ q → ∃ bk o, ua = some ⟨bk, o, none⟩ ∧ ∀ w', Below w.heap.size w w' → IntsAt w' (.slice (some ⟨bk, o + i, none⟩) q (uc - i)) ((xs.drop i).take q)) := by
    intro i q hq h1
    obtain ⟨bk, o, c', hv, _, hbk, hC⟩ := ints_block HUat.out (by omega)
    injection hv with hv1 hv2 hv3
    refine ⟨bk, o, hv1, fun w' hb => ?_⟩
    have hl' : ((xs.drop i).take q).length = q := by rw [List.length_take, List.length_drop]; omega
    refine ⟨_, uc - i, by rw [hl'], by rw [hl']; omega, .inr ⟨bk, o + i, rfl, Nat.lt_of_lt_of_le hbk hb.size, fun j x hx => ?_⟩⟩
    have hj : j < q := by
      rcases Nat.lt_or_ge j q with h' | h'
      · exact h'
      · rw [List.getElem?_eq_none (by rw [hl']; exact h')] at hx; cases hx
    rw [List.getElem?_take_of_lt hj, List.getElem?_drop] at hx
    rw [Nat.add_assoc]
    exact (hb.cell (p := ⟨bk, o + (i + j), none⟩) hbk).trans (hC _ _ hx)
  have HStep := Lib.hid (fun k p (hk : ls[k]? = some p) i => Pl.segB_drop (es := es) (xs := xs) hk i)
  have HEnd : Hid (∀ i, Pl.segB es xs i (ls.drop m) = decide ((i : Int) = (n : Int))) := by
    intro i; rw [hmn, List.drop_length, hnn]; rfl
  have HD0 : Hid (Pl.segB es xs 0 (ls.drop 0) = Pl.segB es xs 0 ls) := rfl
  have HSp : Hid (∀ i p, Pl.spB es xs i p = (decide (p.1 = (i : Int)) && (decide (1 ≤ p.2.1) && decide (p.2.1 ≤ (n : Int) - (i : Int))) && (if p.2.2.data.toList = [] then decide (p.2.1 = 1) else match Pl.lkP es xs i p.2.1.toNat with | some t => decide (t.data.toList = p.2.2.data.toList) | none => false))) := by
    intro i p; rw [hnn]; rfl
  rw [← hnn] at cs huc HX60 hxn ⊢
  unfold dV at cg CF ⊢
  rw [← hdn] at cg CF hcap ⊢
  rw [← hmn] at hlc hln ⊢
  have A2 := Lib.hid (BoxV.new w 26 (.slice a dn cap))
  have BX := Lib.hid (below_al w (.cells #[.slice a dn cap] 26))
  clear h hu hl hnn hdn hmn HUat
  obtain ⟨bD, hbD⟩ : ∃ b, b = okD es := ⟨_, rfl⟩
  obtain ⟨bS, hbS⟩ : ∃ b, b = okS60 xs := ⟨_, rfl⟩
  obtain ⟨B, hB⟩ : ∃ b, b = sgB es xs := ⟨_, rfl⟩
  obtain ⟨I, hI⟩ : ∃ b, b = isB es xs ls := ⟨_, rfl⟩
  rw [← hB] at HB HNo HYes ⊢
  rw [← hI] at HNo HYes ⊢
  rw [← hbD, ← hbS] at HB
  rw [← hbD] at cg
  rw [← hbS] at cs HX60
  have CG := Lib.hid cg
  have CS := Lib.hid cs
  clear cg cs hbD hbS hx hn hB hI
  go_enter Tryz.func14, Tryz.ntmps14
  cases bD
  · obtain rfl : B = false := HB.out
    obtain rfl : I = false := HNo.out rfl
    go_wp2_with fail
    refine (CG.out _ BX.out).mono ?_
    rintro r w1 ⟨rfl, hb⟩
    have B1 := Lib.hid (below_step BX.out hb)
    clear hb CG CS CF HC HS HStep HEnd HD0 HSp HYes HNo A2
    go_wp2
    go_ret2
    exact ⟨rfl, B1.out⟩
  · cases bS
    · obtain rfl : B = false := HB.out
      obtain rfl : I = false := HNo.out rfl
      go_wp2_with fail
      refine (CG.out _ BX.out).mono ?_
      rintro r w1 ⟨rfl, hb⟩
      have B1 := Lib.hid (below_step BX.out hb)
      clear hb CG
      go_wp2_with fail
      refine (CS.out _ B1.out).mono ?_
      rintro r w2 ⟨rfl, rfl⟩
      clear CS CF HC HS HStep HEnd HD0 HSp HYes HNo A2
      go_wp2
      go_ret2
      exact ⟨rfl, B1.out⟩
    · obtain rfl : B = true := HB.out
      have hIe := HYes.out (by first | rfl | trivial)
      have h60 := HX60.out (by first | rfl | trivial)
      obtain ⟨D, hD⟩ : ∃ D : Nat → Nat → Bool, D = fun i k => Pl.segB es xs i (ls.drop k) := ⟨_, rfl⟩
      obtain ⟨Sp, hSp⟩ : ∃ Sp : Nat → Pc → Bool, Sp = fun i p => Pl.spB es xs i p := ⟨_, rfl⟩
      have HI : Hid (D 0 0 = I) := by rw [hD, hIe]; rfl
      have HSt : Hid (∀ k p, ls[k]? = some p → ∀ i, D i k = (Sp i p && D (i + p.2.1.toNat) (k + 1))) := by rw [hD, hSp]; exact HStep.out
      have HEn : Hid (∀ i, D i m = decide ((i : Int) = (n : Int))) := by rw [hD]; exact HEnd.out
      have HSpp : Hid (∀ i p, Sp i p = (decide (p.1 = (i : Int)) && (decide (1 ≤ p.2.1) && decide (p.2.1 ≤ (n : Int) - (i : Int))) && (if p.2.2.data.toList = [] then decide (p.2.1 = 1) else match Pl.lkP es xs i p.2.1.toNat with | some t => decide (t.data.toList = p.2.2.data.toList) | none => false))) := by rw [hSp]; exact HSp.out
      clear hD hSp HStep HEnd HSp HD0 hIe HYes HNo HX60
      go_wp2_with fail
      refine (CG.out _ BX.out).mono ?_
      rintro r w1 ⟨rfl, hb⟩
      have A3 := Lib.hid (A2.out.below hb (by simp))
      have B1 := Lib.hid (below_step BX.out hb)
      clear hb CG A2
      go_wp2_with fail
      refine (CS.out _ B1.out).mono ?_
      rintro r w2 ⟨rfl, rfl⟩
      clear CS
      go_wp2_with fail
      go_loopw [8, 9] (fun x i wr => ∃ (k j : Nat), i = .int .i64 k ∧ x = .int .i64 j ∧ k ≤ m ∧ j ≤ n ∧ Hid (D j k = I) ∧ Hid (BoxV wr w.heap.size 26 (.slice a dn cap)) ∧ Hid (Below w.heap.size w wr)) (fun _ i _ => m - (intOf i).toNat)
      case atStart => exact ⟨0, 0, rfl, rfl, Nat.zero_le _, Nat.zero_le _, HI, A3, B1⟩
      case round =>
        obtain ⟨k, j, rfl, rfl, hk, hj, HDk, HA, HBr⟩ := hrel
        by_cases hlt : k < m
        · obtain ⟨e, he⟩ : ∃ e, ls[k]? = some e := ⟨_, List.getElem?_eq_getElem (by rw [← HM.out]; exact hlt)⟩
          obtain ⟨bk, o, rfl, g0, g1, g2⟩ := HC.out wr HBr.out k e he
          have hst := HSt.out k e he j
          have hsp := HSpp.out j e
          rw [HDk.out] at hst
          obtain ⟨f, c, t⟩ := e
          dsimp only at g0 g1 g2 hst hsp
          have PB := PcB.new wr (f, c, t)
          have hal := below_al wr (.cells #[.int .i64 f, .int .i64 c, .string t] 37)
          have HBl := Lib.hid (below_step HBr.out hal)
          have HAl : Hid (BoxV (wr.alloc (.cells #[.int .i64 f, .int .i64 c, .string t] 37)) w.heap.size 26 (.slice a dn cap)) := HA.out.below hal HA.out.lt
          have PBl := Lib.hid PB
          have ci := fun w => l1In_any c 1 ((n : Int) - (j : Int)) w
          obtain ⟨S1, hS1⟩ : ∃ b, b = Sp j (f, c, t) := ⟨_, rfl⟩
          rw [← hS1] at hst hsp
          by_cases hf : f = (j : Int)
          · subst hf
            rw [decide_eq_true rfl, Bool.true_and] at hsp
            obtain ⟨R, hR⟩ : ∃ b, b = (decide (1 ≤ c) && decide (c ≤ (n : Int) - (j : Int))) := ⟨_, rfl⟩
            rw [← hR] at ci hsp
            have CI := Lib.hid ci
            cases R
            · have HF : Hid (I = false) := by rw [hst, hsp]; rfl
              clear hst hsp ci hR hS1 he hal PB HC HS HSt HEn HSpp HDk HI CF HBr HA
              go_wp2_with fail
              refine (CI.out _).mono ?_
              rintro r w2 ⟨rfl, rfl⟩
              go_wp2
              go_ret2
              exact ⟨by first | (rw [HF.out]; done) | (rw [HF.out]; rfl), HBl.out⟩
            · have hR' := hR.symm
              rw [Bool.and_eq_true, decide_eq_true_eq, decide_eq_true_eq] at hR'
              obtain ⟨q, rfl⟩ : ∃ q : Nat, c = (q : Int) := ⟨c.toNat, by omega⟩
              have hq1 : 1 ≤ q := by omega
              have hqn : j + q ≤ n := by omega
              rw [Bool.true_and] at hsp
              rw [Int.toNat_natCast] at hst hsp
              obtain ⟨ub, uo, rfl, hSI⟩ := HS.out j q hqn hq1
              have hyl : ((xs.drop j).take q).length ≤ 2097152 := by rw [List.length_take]; omega
              have CF1 := Lib.hid (fun w' hb => CF.out _ _ w' hb (hSI w' hb) hyl)
              obtain ⟨lk, hlk⟩ : ∃ lk, lk = Pl.lkP es xs j q := ⟨_, rfl⟩
              have hlk2 : Pl.look ((xs.drop j).take q) es = lk := by rw [hlk]; rfl
              rw [hlk2] at CF1
              rw [← hlk] at hsp
              have HSp1 := Lib.hid hsp
              have HSt1 := Lib.hid hst
              have k0 := cell_regrown HAl.out.cell
              have k1 := cell_regrown PBl.out.cells.2.1
              clear hst hsp ci hR hR' hS1 he hal PB HC HS HSt HSpp HDk HI CF HBr HA hlk hlk2 hSI hyl
              go_wp2_with fail
              refine (CI.out _).mono ?_
              rintro r w2 ⟨rfl, rfl⟩
              go_wp2_with fail
              refine Mx.wp_region_mixed (Mx.ofL [(0, 1), (1, 0), (2, 0), (3, 0), (4, 0), (5, 1), (6, 0), (7, 0), (8, 3), (9, 0), (10, 0), (11, 0), (12, 0), (13, 0)] .done) (by kernel_rfl) (by kernel_rfl) ?_
              repeat ((first | refine Mx.mix0 rfl ?_ | refine Mx.mix1 rfl ?_); go_big_quiet_step (fail); refine wpQuiet_nil ?_)
              refine Mx.mix3 rfl ?_
              have hd : Below (wr.alloc (.cells #[.int .i64 (j : Int), .int .i64 (q : Int), .string t] 37)).heap.size (wr.alloc (.cells #[.int .i64 (j : Int), .int .i64 (q : Int), .string t] 37)) (wr.alloc (.cells #[.int .i64 (j : Int), .int .i64 (q : Int), .string t] 37)).drew := below_drewN (Below.refl _ _) 1
              go_wp2_with fail
              refine (CF1.out _ (below_step HBl.out hd)).mono ?_
              rintro r w3 ⟨rfl, hb'⟩
              have hb := below_step hd hb'
              have A4 := Lib.hid (HAl.out.below hb HAl.out.lt)
              have P4 := Lib.hid (PBl.out.below hb PBl.out.lt)
              have B4 := Lib.hid (below_step HBl.out hb)
              clear hb hb' hd k0 k1 HAl PBl HBl CF1
              unfold lkE
              go_wp2
              refine Mx.mid_normal (fun q => by cases q) ?_
              repeat ((first | refine Mx.mix0 rfl ?_ | refine Mx.mix1 rfl ?_); go_big_quiet_step (fail); refine wpQuiet_nil ?_)
              refine Mx.mix_nil ?_
              obtain ⟨p0, p1, p2⟩ := P4.out.cells
              dsimp only at p0 p1 p2
              by_cases hz : t.data.toList = []
              · have htz : t = ⟨#[]⟩ := ByteArray.ext (Array.toList_inj.1 hz)
                subst htz
                by_cases hc1 : q = 1
                · subst hc1
                  have HN : Hid (D (j + 1) (k + 1) = I) := by
                    have h1 := HSp1.out
                    rw [if_pos hz] at h1
                    rw [HSt1.out, h1]; rfl
                  clear HSp1 HSt1 hz HEn
                  cases lk <;>
                  · go_wp2
                    go_roundw
                    case rel => exact ⟨k + 1, j + 1, by go_num, by go_num, by omega, by omega, HN, A4, B4⟩
                    case measure => simp [intOf]; omega
                · have hc1' : ¬ (q : Int) = 1 := by omega
                  have HF : Hid (I = false) := by
                    have h1 := HSp1.out
                    rw [if_pos hz, decide_eq_false hc1'] at h1
                    rw [HSt1.out, h1]; rfl
                  clear HSp1 HSt1 hz HEn
                  cases lk <;>
                  · go_wp2
                    go_ret2
                    exact ⟨by first | (rw [HF.out]; done) | (rw [HF.out]; rfl), B4.out⟩
              · have e1 : t.toList.isEmpty = false := by
                  rw [Lib.toList_data]
                  cases hl : t.data.toList with
                  | nil => exact absurd hl hz
                  | cons _ _ => rfl
                cases lk with
                | none =>
                  have HF : Hid (I = false) := by
                    have h1 := HSp1.out
                    rw [if_neg hz] at h1
                    rw [HSt1.out, h1]; rfl
                  clear HSp1 HSt1 hz HEn
                  go_wp2
                  go_ret2
                  exact ⟨by first | (rw [HF.out]; done) | (rw [HF.out]; rfl), B4.out⟩
                | some t' =>
                  by_cases htt : t'.data.toList = t.data.toList
                  · have htt' : t' = t := ByteArray.ext (Array.toList_inj.1 htt)
                    subst htt'
                    have HN : Hid (D (j + q) (k + 1) = I) := by
                      have h1 := HSp1.out
                      rw [if_neg hz] at h1
                      simp only [decide_true] at h1
                      rw [HSt1.out, h1]; rfl
                    clear HSp1 HSt1 hz HEn htt
                    go_wp2
                    go_roundw
                    case rel => exact ⟨k + 1, j + q, by go_num, by go_num, by omega, by omega, HN, A4, B4⟩
                    case measure => simp [intOf]; omega
                  · have HF : Hid (I = false) := by
                      have h1 := HSp1.out
                      rw [if_neg hz] at h1
                      simp only [decide_eq_false htt] at h1
                      rw [HSt1.out, h1]; rfl
                    have q2 : (t.toList == t'.toList) = false := by rw [Lib.toList_data, Lib.toList_data, beq_eq_false_iff_ne]; exact fun e => htt e.symm
                    have q3 : ¬ t.toList = t'.toList := by rw [Lib.toList_data, Lib.toList_data]; exact fun e => htt e.symm
                    clear HSp1 HSt1 hz HEn htt
                    go_wp2
                    go_ret2
                    exact ⟨by first | (rw [HF.out]; done) | (rw [HF.out]; rfl), B4.out⟩
          · have hfb : (f != (j : Int)) = true := by simp [hf]
            have HF : Hid (I = false) := by
              rw [hst, hsp, decide_eq_false hf]; rfl
            clear hst hsp ci hS1 he hal PB HC HS HSt HEn HSpp HDk HI CF HBr HA
            go_wp2
            go_ret2
            exact ⟨by first | (rw [HF.out]; done) | (rw [HF.out]; rfl), HBl.out⟩
        · obtain rfl : k = m := by omega
          have HF : Hid (I = decide ((j : Int) = (n : Int))) := by rw [← HEn.out j]; exact HDk.out.symm
          clear HC HS HSt HEn HSpp HDk
          go_wp2
          go_ret2
          exact ⟨by first | (rw [HF.out]; done) | (rw [HF.out]; rfl), HBr.out⟩
end Go.Proofs.YtnpiphkglhcifaaGreat

namespace Go.Proofs.YtnpiphkglhcifaaGreat
set_option maxRecDepth 100000
open Go.RowKit

/-- Block g holds N ints, none frozen. -/
def RwI (w : World) (g N : Nat) (f : Nat → Int) : Prop := g < w.heap.size ∧ (∀ j, j < N → w.cell? ⟨g, j, none⟩ = some (.int .i64 (f j))) ∧ ∀ j, w.frozen? ⟨g, j, none⟩ = false
theorem RwI.below {w w' : World} {g N : Nat} {f : Nat → Int} {B : Nat} (h : RwI w g N f) (hb : Below B w w') (hg : g < B) : RwI w' g N f :=
  ⟨Nat.lt_of_lt_of_le h.1 hb.size, fun j hj => (hb.cell (p := ⟨g, j, none⟩) hg).trans (h.2.1 j hj), fun j => (hb.frozen (p := ⟨g, j, none⟩) hg).trans (h.2.2 j)⟩
theorem RwI.set {w : World} {g N : Nat} {f : Nat → Int} (h : RwI w g N f) (k : Nat) (hk : k < N) (x : Int) : RwI (w.setCell ⟨g, k, none⟩ (.int .i64 x)) g N (fun j => if j = k then x else f j) := by
  refine ⟨by rw [World.size_setCell]; exact h.1, fun j hj => ?_, fun j => by rw [World.frozen?_setCell]; exact h.2.2 j⟩
  by_cases hjk : j = k
  · subst hjk; simp only [if_true]; exact World.cell?_setCell_same _ _ _ (h.2.1 j hj)
  · dsimp only
    rw [World.cell?_setCell_other _ _ _ _ (by intro e; injection e; omega), if_neg hjk]; exact h.2.1 j hj
theorem RwI.other {w : World} {g N : Nat} {f : Nat → Int} (h : RwI w g N f) {g' : Nat} (hne : g' ≠ g) (k : Nat) (v : Value) : RwI (w.setCell ⟨g', k, none⟩ v) g N f :=
  ⟨by rw [World.size_setCell]; exact h.1, fun j hj => by rw [World.cell?_setCell_other _ _ _ _ (by intro e; injection e; omega)]; exact h.2.1 j hj, fun j => by rw [World.frozen?_setCell]; exact h.2.2 j⟩
theorem RwI.grown {w w' : World} {g N : Nat} {f : Nat → Int} {row : Option Nat} (h : RwI w g N f) (hg : w.grownBy w' row) (hne : some g ≠ row) : RwI w' g N f :=
  ⟨Nat.lt_of_lt_of_le h.1 hg.size, fun j hj => (World.cell?_of_block (hg.block g h.1 hne)).trans (h.2.1 j hj), fun j => (World.frozen?_of_block (hg.block g h.1 hne)).trans (h.2.2 j)⟩
theorem mk_is (n : Nat) (hn : n ≤ 1000) (w : World) :
    (Instr.makeSlice 27 (.int .i64 ((n : Int) + 1)) (.int .i64 ((n : Int) + 1))).run Tryz.prog w = .ok (.slice (some ⟨w.heap.size, 0, none⟩) (n + 1) (n + 1)) (w.alloc (.cells (madeCells #[.int .i64 0] (n + 1)) 3)) := by
  obtain ⟨i, hi, hzz⟩ := Option.map_eq_some_iff.1 infoInt
  simp only [Prod.mk.injEq] at hzz
  obtain ⟨hz, hs, hb⟩ := hzz
  have hr := run_make (P := Tryz.prog) w 27 3 i _ Tryz.underlying27 hi hz .i64 .i64 ((n : Int) + 1) ((n : Int) + 1) (by omega) (Int.le_refl _) (by rw [hb]; omega) (by omega)
  rw [show ((n : Int) + 1).toNat = n + 1 by omega, hs, Nat.mul_one] at hr
  exact hr
theorem made_is (w : World) (N : Nat) : RwI (w.alloc (.cells (madeCells #[.int .i64 0] N) 3)) w.heap.size N (fun _ => 0) := by
  refine ⟨by rw [World.size_alloc]; omega, fun j hj => ?_, fun j => World.frozen?_alloc_at _ _ _ _ rfl⟩
  rw [World.cell?_alloc_at _ _ _ _ rfl]
  simp [madeCells, hj, Nat.mod_one]
theorem push_pcM {ops : Array Oper} {rest : List Oper} {o : Oper} {a : Act} {w : World} {Q : Exit → Act → World → Prop}
    (hgd : o.guard = none) (p q : Operand) (ho : o.op = .call { callee := .builtin .append, args := #[p, q], argTypes := #[30, 30] }) (base : Nat) (v : Value) (ls : List Pc) (hs : a.eval p = v) (hown : OwnP w base v ls)
    (e : Pc) (N : Nat) (hN : w.heap.size = N) (hq : a.eval q = .slice (some ⟨N, 0, none⟩) 1 1) (hb : base ≤ N) (h1 : ls.length ≤ 4194304)
    (h : ∀ v' w', OwnP w' base v' (ls ++ [e]) → w.grownBy w' v.ownBlock → (v'.ownBlock = v.ownBlock ∨ v'.ownBlock = some (N + 1)) → wpList Tryz.prog ops Q rest (a.put o.dst v') w') : wpList Tryz.prog ops Q (o :: rest) a (w.alloc (.cells #[.int .i64 e.1, .int .i64 e.2.1, .string e.2.2] 37)) := by
  subst hN
  exact push_pc hgd p q ho base v ls hs hown e hq hb h1 h
theorem PcB.set1 {w : World} {g : Nat} {f c : Int} {t : ByteArray} (h : PcB w g (f, c, t)) (x : Int) : PcB (w.setCell ⟨g, 1, none⟩ (.int .i64 x)) g (f, x, t) := Go.heap_setCell_same w g 1 _ 37 (.int .i64 x) h
theorem PcB.set2 {w : World} {g : Nat} {f c : Int} {t : ByteArray} (h : PcB w g (f, c, t)) (x : ByteArray) : PcB (w.setCell ⟨g, 2, none⟩ (.string x)) g (f, c, x) := Go.heap_setCell_same w g 2 _ 37 (.string x) h
theorem PcB.frozen {w : World} {g : Nat} {e : Pc} (h : PcB w g e) (j : Nat) : w.frozen? ⟨g, j, none⟩ = false := by unfold World.frozen?; simp only [show w.heap[g]? = _ from h]; rfl
theorem grown_set (w : World) (g o : Nat) (v : Value) : w.grownBy (w.setCell ⟨g, o, none⟩ v) (some g) := ⟨rfl, rfl, rfl, by rw [World.size_setCell]; exact Nat.le_refl _, fun k _ hk => Below.heap_setCell _ _ _ _ (fun e => hk (by rw [e]))⟩
theorem own_ne {v : Value} {g : Nat} (h : ∀ j, v.ownBlock = some j → j ≠ g) : v.ownBlock = none ∨ v.ownBlock ≠ some g := by
  cases hv : v.ownBlock with
  | none => exact .inl rfl
  | some j => exact .inr (fun e => h j hv (by injection e))
theorem ownP_lt' {w : World} {base : Nat} {v : Value} {ls : List Pc} (h : OwnP w base v ls) {j : Nat} (hj : v.ownBlock = some j) : j < w.heap.size := by
  rcases h.2 with ⟨rfl, _⟩ | ⟨g, cap, cur, rfl, _, hg, _⟩
  · simp [Value.ownBlock] at hj
  · have : g = j := by simpa [Value.ownBlock] using hj
    rw [← this]; exact (Array.getElem?_eq_some_iff.1 hg).1
/-- The best segmentation; none where the arguments are not valid. -/
def fwL (es : List Ent) (xs : List Int) : List Pc := if sgB es xs = true then Pl.opt es xs 0 else []
set_option maxHeartbeats 8000000 in
theorem specFewestPieces_any (v : Value) (es : List Ent) (u : Value) (xs : List Int) (w : World) (h : EntsAt w v es) (hu : IntsAt w u xs) (hn : es.length ≤ 2097152) (hx : ∀ e ∈ es, entOk e) (hxn : xs.length ≤ 2097152) :
    Calls Tryz.prog 28 #[dV v, u] w fun r w' => (∃ y, r = .returned (.tuple #[y, .bool (sgB es xs)]) ∧ OwnP w' w.heap.size y (fwL es xs)) ∧ Below w.heap.size w w' := by
  have cg := fun w' hb => l6Good_any v es w' (h.below (w' := w') hb) hn hx
  have cs := fun w' hb => l11Strokes_any u xs w' (hu.below (w' := w') hb) hxn
  have CF := Lib.hid (fun ys u' w' hb (hu' : IntsAt w' u' ys) (hy : ys.length ≤ 2097152) => l6Find_any v es u' ys w' (h.below (w' := w') hb) hu' hn hx hy)
  have HB : Hid (sgB es xs = (okD es && okS60 xs)) := rfl
  have HL : Hid (fwL es xs = if sgB es xs = true then Pl.opt es xs 0 else []) := rfl
  have HUat := Lib.hid hu
  obtain ⟨a, cap, rfl, hcap, _⟩ := h.cells
  obtain ⟨ua, uc, rfl, huc, _⟩ := hu.cells
  obtain ⟨n, hnn⟩ : ∃ n, n = xs.length := ⟨_, rfl⟩
  obtain ⟨dn, hdn⟩ : ∃ n, n = es.length := ⟨_, rfl⟩
  have HS : Hid (∀ i q, i + q ≤ n → 1 ≤ q → ∃ bk o, ua = some ⟨bk, o, none⟩ ∧ ∀ w', Below w.heap.size w w' → IntsAt w' (.slice (some ⟨bk, o + i, none⟩) q (uc - i)) ((xs.drop i).take q)) := by
    intro i q hq h1
    obtain ⟨bk, o, c', hv, _, hbk, hC⟩ := ints_block HUat.out (by omega)
    injection hv with hv1 hv2 hv3
    refine ⟨bk, o, hv1, fun w' hb => ?_⟩
    have hl' : ((xs.drop i).take q).length = q := by rw [List.length_take, List.length_drop]; omega
    refine ⟨_, uc - i, by rw [hl'], by rw [hl']; omega, .inr ⟨bk, o + i, rfl, Nat.lt_of_lt_of_le hbk hb.size, fun j x hx => ?_⟩⟩
    have hj : j < q := by
      rcases Nat.lt_or_ge j q with h' | h'
      · exact h'
      · rw [List.getElem?_eq_none (by rw [hl']; exact h')] at hx; cases hx
    rw [List.getElem?_take_of_lt hj, List.getElem?_drop] at hx
    rw [Nat.add_assoc]
    exact (hb.cell (p := ⟨bk, o + (i + j), none⟩) hbk).trans (hC _ _ hx)
  have HSl : Hid (∀ i q, ((xs.drop i).take q).length ≤ 2097152) := fun i q => by rw [List.length_take, List.length_drop]; omega
  have HX60 := Lib.hid (fun h : okS60 xs = true => (okS60_yes h).1)
  rw [← hnn] at cs huc HX60 hxn ⊢
  unfold dV at cg CF ⊢
  rw [← hdn] at cg CF hcap ⊢
  have HB0 := Lib.hid (below_al2 w (.cells #[.slice a dn cap] 26) (.cells #[] 37))
  have HO0 : Hid (OwnP ((w.alloc (.cells #[.slice a dn cap] 26)).alloc (.cells #[] 37)) (w.heap.size + 1) (.slice (some ⟨w.heap.size + 1, 0, none⟩) 0 0) []) := by
    have := ownP_new (w.alloc (.cells #[.slice a dn cap] 26))
    rwa [World.size_alloc] at this
  have HA0 : Hid (BoxV ((w.alloc (.cells #[.slice a dn cap] 26)).alloc (.cells #[] 37)) w.heap.size 26 (.slice a dn cap)) := (BoxV.new w _ _).below (below_al _ _) (by simp)
  have HDf := Lib.hid (fun h : okD es = true => okD_fine h)
  have HOEnd : Hid (Pl.opt es xs n = []) := by show _ = _; rw [hnn]; exact Pl.opt_end es xs
  have HCE : Hid (Pl.cC es xs n = 0) := by show _ = _; rw [hnn]; exact Pl.cC_end es xs
  have HCcap : Hid (∀ i, i < n → Pl.cN es xs i (Pl.capN xs i) = Pl.cC es xs i) := by rw [hnn]; exact fun i hi => Pl.cN_cap hi
  have HCap : Hid (∀ i, Pl.capN xs i = min 6 (n - i)) := by rw [hnn]; exact fun i => rfl
  have HTk : Hid (∀ i, i < n → (Pl.tk es xs i = 0 ∧ Pl.opt es xs i = Pl.unP i :: Pl.opt es xs (i + 1)) ∨ (1 ≤ Pl.tk es xs i ∧ i + Pl.tk es xs i ≤ n ∧ Pl.tk es xs i ≤ 6 ∧ ∃ t, Pl.lkP es xs i (Pl.tk es xs i) = some t ∧ Pl.opt es xs i = ((i : Int), (Pl.tk es xs i : Int), t) :: Pl.opt es xs (i + Pl.tk es xs i))) := by rw [hnn]; exact fun i hi => Pl.opt_tk hi
  have HCle := Lib.hid (fun j (h60 : xs.length ≤ 60) => Pl.cC_le es xs j h60)
  rw [← hnn] at HCle
  clear h hu hnn hdn HUat
  obtain ⟨bD, hbD⟩ : ∃ b, b = okD es := ⟨_, rfl⟩
  obtain ⟨bS, hbS⟩ : ∃ b, b = okS60 xs := ⟨_, rfl⟩
  obtain ⟨B, hB⟩ : ∃ b, b = sgB es xs := ⟨_, rfl⟩
  obtain ⟨L, hL⟩ : ∃ b, b = fwL es xs := ⟨_, rfl⟩
  rw [← hB] at HB HL ⊢
  rw [← hL] at HL ⊢
  rw [← hbD, ← hbS] at HB
  rw [← hbD] at cg HDf
  rw [← hbS] at cs HX60
  have CG := Lib.hid cg
  have CS := Lib.hid cs
  clear cg cs hbD hbS hx hn hB hL
  go_enter Tryz.func28, Tryz.ntmps28
  cases bD
  · obtain rfl : B = false := HB.out
    obtain rfl : L = [] := HL.out
    clear CF CS HL HS HSl HX60 HDf HOEnd HCE HCcap HCap HTk HCle
    go_wp2_with fail
    refine (CG.out _ HB0.out).mono ?_
    rintro r w1 ⟨rfl, hb⟩
    have B1 := Lib.hid (below_step HB0.out hb)
    have O1 := Lib.hid (ownsRow_mono (HO0.out.below' hb) (Nat.le_succ _))
    clear hb CG HO0 HA0
    go_wp2
    go_ret2
    exact ⟨⟨_, rfl, O1.out⟩, B1.out⟩
  · cases bS
    · obtain rfl : B = false := HB.out
      obtain rfl : L = [] := HL.out
      clear CF HL HS HSl HX60 HDf HOEnd HCE HCcap HCap HTk HCle
      go_wp2_with fail
      refine (CG.out _ HB0.out).mono ?_
      rintro r w1 ⟨rfl, hb⟩
      have B1 := Lib.hid (below_step HB0.out hb)
      have O1 := Lib.hid (ownsRow_mono (HO0.out.below' hb) (Nat.le_succ _))
      clear hb CG HO0 HA0
      go_wp2_with fail
      refine (CS.out _ B1.out).mono ?_
      rintro r w2 ⟨rfl, rfl⟩
      go_wp2
      go_ret2
      exact ⟨⟨_, rfl, O1.out⟩, B1.out⟩
    · obtain rfl : B = true := HB.out
      have h60 := HX60.out (by first | rfl | trivial)
      have hdf := HDf.out (by first | rfl | trivial)
      obtain rfl : L = Pl.opt es xs 0 := HL.out
      have HCs : Hid (∀ i q t, Pl.lkP es xs i (q + 1) = some t → Pl.cN es xs i (q + 1) = (if 1 + Pl.cC es xs (i + (q + 1)) ≤ Pl.cN es xs i q then 1 + Pl.cC es xs (i + (q + 1)) else Pl.cN es xs i q) ∧ Pl.tN es xs i (q + 1) = (if 1 + Pl.cC es xs (i + (q + 1)) ≤ Pl.cN es xs i q then q + 1 else Pl.tN es xs i q)) := fun i q t ht => Pl.cN_some hdf ht
      have HCl : Hid (∀ j, Pl.cC es xs j ≤ 6060) := fun j => HCle.out j h60
      clear HCle HDf hdf HX60 HL
      go_wp2_with fail
      refine (CG.out _ HB0.out).mono ?_
      rintro r w1 ⟨rfl, hb⟩
      have A1 := Lib.hid (HA0.out.below hb HA0.out.lt)
      have B1 := Lib.hid (below_step HB0.out hb)
      have O1 := Lib.hid (HO0.out.below' hb)
      have hs1 : w.heap.size + 2 ≤ w1.heap.size := by have := hb.size; simp at this; omega
      clear hb CG HO0 HA0 HB0
      go_wp2_with fail
      refine (CS.out _ B1.out).mono ?_
      rintro r w2 ⟨rfl, rfl⟩
      have hmk := fun w => mk_is n (by omega) w
      have hm1 := made_is w1 (n + 1)
      have hm2 := made_is (w1.alloc (.cells (madeCells #[.int .i64 0] (n + 1)) 3)) (n + 1)
      rw [World.size_alloc] at hm2
      have hal2 := below_al2 w1 (.cells (madeCells #[.int .i64 0] (n + 1)) 3) (.cells (madeCells #[.int .i64 0] (n + 1)) 3)
      have RC : Hid (RwI ((w1.alloc (.cells (madeCells #[.int .i64 0] (n + 1)) 3)).alloc (.cells (madeCells #[.int .i64 0] (n + 1)) 3)) w1.heap.size (n + 1) (fun _ => 0)) := hm1.below (below_al _ _) (by simp)
      have RT := Lib.hid hm2
      have BL := Lib.hid hal2
      clear hm1 hm2 hal2 CS
      go_wp2_with fail
      clear hmk
      obtain ⟨W, hW⟩ : ∃ W, W = (w1.alloc (.cells (madeCells #[.int .i64 0] (n + 1)) 3)).alloc (.cells (madeCells #[.int .i64 0] (n + 1)) 3) := ⟨_, rfl⟩
      rw [← hW] at RC RT BL ⊢
      clear hW
      go_loopw [9] (fun i wr => ∃ (m : Nat) (z : Int) (fc ft : Nat → Int), i = .int .i64 z ∧ z = (m : Int) - 1 ∧ m ≤ n ∧ Hid (RwI wr w1.heap.size (n + 1) fc) ∧ Hid (RwI wr (w1.heap.size + 1) (n + 1) ft) ∧ Hid (∀ j, m ≤ j → j ≤ n → fc j = (Pl.cC es xs j : Int)) ∧ Hid (∀ j, m ≤ j → j < n → ft j = (Pl.tk es xs j : Int)) ∧ Hid (Below w1.heap.size w1 wr)) (fun i _ => (intOf i + 1).toNat)
      case atStart =>
        refine ⟨n, _, _, _, rfl, rfl, Nat.le_refl _, RC, RT, Lib.hid (fun j h1 h2 => ?_), Lib.hid (fun j h1 h2 => absurd h2 (by omega)), BL⟩
        obtain rfl : j = n := by omega
        rw [HCE.out]; rfl
      case round =>
        obtain ⟨m, z, fc, ft, rfl, hz, hm, RCr, RTr, HFc, HFt, HBr⟩ := hrel
        cases m with
        | zero =>
          obtain rfl : z = -1 := by omega
          clear hz
          clear HCs HCl HCcap HCap HFc RCr RC RT BL
          have A2 := Lib.hid (A1.out.below HBr.out (by omega))
          have O2 := Lib.hid (O1.out.below' HBr.out)
          have B2 := Lib.hid (B1.out.trans (HBr.out.mono B1.out.size))
          have HFt0 : Hid (∀ j, j < n → ft j = (Pl.tk es xs j : Int)) := fun j hj => HFt.out j (Nat.zero_le _) hj
          have HTl : Hid (∀ j, j < n → Pl.tk es xs j ≤ 6) := fun j hj => by rcases HTk.out j hj with h | h <;> omega
          have hown0 : Hid (∀ j, (Value.slice (some ⟨w.heap.size + 1, 0, none⟩) 0 0).ownBlock = some j → j ≠ w1.heap.size + 1) := fun j hj => by
            have : w.heap.size + 1 = j := by simpa [Value.ownBlock] using hj
            omega
          clear HFt A1 O1 B1 HBr
          go_wp2_with fail
          go_loopw [6, 13] (fun y i wr => ∃ (k : Nat) (ls : List Pc), i = .int .i64 k ∧ k ≤ n ∧ ls.length ≤ k ∧ Hid (ls ++ Pl.opt es xs k = Pl.opt es xs 0) ∧ Hid (OwnP wr (w.heap.size + 1) y ls) ∧ Hid (∀ j, y.ownBlock = some j → j ≠ w1.heap.size + 1) ∧ Hid (RwI wr (w1.heap.size + 1) (n + 1) ft) ∧ Hid (BoxV wr w.heap.size 26 (.slice a dn cap)) ∧ Hid (Below w.heap.size w wr)) (fun _ i _ => n - (intOf i).toNat)
          case atStart => exact ⟨0, [], rfl, Nat.zero_le _, Nat.zero_le _, Lib.hid (List.nil_append _), O2, hown0, RTr, A2, B2⟩
          case round =>
            obtain ⟨k, ls, rfl, hk, hll, HLs, HO, HOn, HR, HA, HB'⟩ := hrel
            clear O2 hown0 RTr A2 B2
            by_cases hlt : k < n
            · have hcell := HR.out.2.1 k (by omega)
              rw [HFt0.out k hlt] at hcell
              have htl := HTl.out k hlt
              have htk := HTk.out k hlt
              have HSk := Lib.hid (HS.out k)
              have hal := below_al wr (.cells #[.int .i64 (k : Int), .int .i64 1, .string ByteArray.empty] 37)
              have R1 : Hid (RwI (wr.alloc (.cells #[.int .i64 (k : Int), .int .i64 1, .string ByteArray.empty] 37)) (w1.heap.size + 1) (n + 1) ft) := HR.out.below hal HR.out.1
              have A3 : Hid (BoxV (wr.alloc (.cells #[.int .i64 (k : Int), .int .i64 1, .string ByteArray.empty] 37)) w.heap.size 26 (.slice a dn cap)) := HA.out.below hal HA.out.lt
              have O3 : Hid (OwnP (wr.alloc (.cells #[.int .i64 (k : Int), .int .i64 1, .string ByteArray.empty] 37)) (w.heap.size + 1) u6 ls) := HO.out.below' hal
              have B3 : Hid (Below w.heap.size w (wr.alloc (.cells #[.int .i64 (k : Int), .int .i64 1, .string ByteArray.empty] 37))) := below_step HB'.out hal
              have P3 : Hid (PcB (wr.alloc (.cells #[.int .i64 (k : Int), .int .i64 1, .string ByteArray.empty] 37)) wr.heap.size ((k : Int), 1, ByteArray.empty)) := PcB.new wr ((k : Int), 1, ByteArray.empty)
              have hcell2 := R1.out.2.1 k (by omega)
              rw [HFt0.out k hlt] at hcell2
              have HOl : Hid (∀ j, Value.ownBlock u6 = some j → j < wr.heap.size) := fun j hj => ownP_lt' HO.out hj
              have hs3 : w.heap.size + 1 ≤ wr.heap.size := by have := HA.out.lt; omega
              have hR1 : w1.heap.size + 1 < wr.heap.size := HR.out.1
              obtain ⟨c, hc⟩ : ∃ c, c = Pl.tk es xs k := ⟨_, rfl⟩
              rw [← hc] at hcell hcell2 htl htk
              have cmx := fun w => l1Most_any c 1 w
              have CMx := Lib.hid cmx
              have HCell : Hid (ft k = (c : Int)) := by rw [HFt0.out k hlt, ← hc]; rfl
              clear cmx hal HTk HS HFt0 HTl hc
              rcases htk with ⟨hc0, hopt⟩ | ⟨hc1, hcn, hc6, t, hlk, hopt⟩
              · have HL2 : Hid ((ls ++ [Pl.unP k]) ++ Pl.opt es xs (k + 1) = Pl.opt es xs 0) := by rw [List.append_assoc, List.singleton_append, ← hopt]; exact HLs.out
                have hc0' : ¬ (0 : Int) < (c : Int) := by omega
                have HMx : Hid (max c 1 = 1) := by show _ = _; omega
                obtain ⟨p0, p1, p2⟩ := P3.out.cells
                dsimp only at p0 p1 p2
                have HN4 := Lib.hid (World.size_alloc wr (.cells #[.int .i64 (k : Int), .int .i64 1, .string ByteArray.empty] 37))
                have hs4 : w.heap.size + 1 ≤ wr.heap.size + 1 := by omega
                clear hc0 hopt HLs CF HSk HSl HR HA HO HB'
                go_wp2_with (at_builtin; refine push_pcM rfl _ _ rfl (w.heap.size + 1) _ ls rfl O3.out (Pl.unP k) (wr.heap.size + 1) HN4.out rfl hs4 (by omega) ?_)
                intro v' w5 hown hg hat
                have R5 := Lib.hid (R1.out.grown hg (fun e => HOn.out _ e.symm rfl))
                have A5 := Lib.hid (A3.out.grown hg (fun e => by have := row_ge O3.out e.symm; omega))
                have B5 := Lib.hid (B3.out.grown hg (by rw [World.size_alloc]; omega) (fun j hj => by have := row_ge O3.out hj; omega))
                have O5 := Lib.hid hown
                have HOn5 : Hid (∀ j, v'.ownBlock = some j → j ≠ w1.heap.size + 1) := fun j hj => by
                  rcases hat with h2 | h2
                  · exact HOn.out j (by rw [← h2]; exact hj)
                  · rw [h2] at hj; injection hj with hj; omega
                have d5 := R5.out.2.1 k (by omega)
                rw [HCell.out] at d5
                clear hown hg hat R1 A3 B3 O3 P3 p0 p1 p2 hcell hcell2 HOn HN4
                go_wp2_with fail
                refine (CMx.out _).mono ?_
                rintro r w6 ⟨rfl, rfl⟩
                rw [HMx.out]
                go_wp2
                go_roundw
                case rel => exact ⟨k + 1, ls ++ [Pl.unP k], by go_num, by omega, by rw [List.length_append, List.length_singleton]; omega, HL2, O5, HOn5, R5, A5, B5⟩
                case measure => simp [intOf]; omega
              · have HL2 : Hid ((ls ++ [((k : Int), (c : Int), t)]) ++ Pl.opt es xs (k + c) = Pl.opt es xs 0) := by rw [List.append_assoc, List.singleton_append, ← hopt]; exact HLs.out
                have hcp : (0 : Int) < (c : Int) := by omega
                have HMx : Hid (max c 1 = c) := by show _ = _; omega
                obtain ⟨ub, uo, rfl, hSI⟩ := HSk.out c hcn hc1
                have hlk2 : Pl.look ((xs.drop k).take c) es = some t := hlk
                have CF1 := Lib.hid (fun w' (hb : Below w.heap.size w w') => hlk2 ▸ CF.out _ _ w' hb (hSI w' hb) (HSl.out k c))
                obtain ⟨p0, p1, p2⟩ := P3.out.cells
                dsimp only at p0 p1 p2
                have f1 := P3.out.frozen 1
                have hal4 := below_al wr (.cells #[.int .i64 (k : Int), .int .i64 (c : Int), .string ⟨#[]⟩] 37)
                have P4 : Hid (PcB (wr.alloc (.cells #[.int .i64 (k : Int), .int .i64 (c : Int), .string ⟨#[]⟩] 37)) wr.heap.size ((k : Int), (c : Int), ⟨#[]⟩)) := PcB.new wr ((k : Int), (c : Int), ⟨#[]⟩)
                have R4 : Hid (RwI (wr.alloc (.cells #[.int .i64 (k : Int), .int .i64 (c : Int), .string ⟨#[]⟩] 37)) (w1.heap.size + 1) (n + 1) ft) := HR.out.below hal4 HR.out.1
                have A4 : Hid (BoxV (wr.alloc (.cells #[.int .i64 (k : Int), .int .i64 (c : Int), .string ⟨#[]⟩] 37)) w.heap.size 26 (.slice a dn cap)) := HA.out.below hal4 HA.out.lt
                have O4 : Hid (OwnP (wr.alloc (.cells #[.int .i64 (k : Int), .int .i64 (c : Int), .string ⟨#[]⟩] 37)) (w.heap.size + 1) u6 ls) := HO.out.below' hal4
                have B4 : Hid (Below w.heap.size w (wr.alloc (.cells #[.int .i64 (k : Int), .int .i64 (c : Int), .string ⟨#[]⟩] 37))) := below_step HB'.out hal4
                have d4 := R4.out.2.1 k (by omega)
                rw [HCell.out] at d4
                have hs4' : (wr.alloc (.cells #[.int .i64 (k : Int), .int .i64 (c : Int), .string ⟨#[]⟩] 37)).heap.size = wr.heap.size + 1 := World.size_alloc _ _
                obtain ⟨W4, hW4⟩ : ∃ W, W = wr.alloc (.cells #[.int .i64 (k : Int), .int .i64 (c : Int), .string ⟨#[]⟩] 37) := ⟨_, rfl⟩
                rw [← hW4] at P4 R4 A4 O4 B4 d4 hs4'
                have HW4 := Lib.hid hW4
                have HS4 := Lib.hid hs4'
                have k1 := cell_regrown A4.out.cell
                have k2 := cell_regrown d4
                clear hlk hlk2 hopt HLs CF HSk HSl hSI hW4 R1 A3 O3 B3 P3 hs4' HR HA HO HB' hal4
                go_wp2_with fail
                rw [← HW4.out]
                clear p0 p1 p2 f1 hcell hcell2
                refine Mx.wp_region_mixed (Mx.ofL [(0, 1), (1, 0), (2, 0), (3, 0), (4, 0), (5, 0), (6, 0), (7, 1), (8, 0), (9, 0), (10, 3), (11, 0), (12, 0), (13, 0), (14, 0), (15, 3)] .done) (by kernel_rfl) (by kernel_rfl) ?_
                repeat ((first | refine Mx.mix0 rfl ?_ | refine Mx.mix1 rfl ?_); go_big_quiet_step (fail); refine wpQuiet_nil ?_)
                refine Mx.mix3 rfl ?_
                go_wp2_with fail
                refine (CF1.out _ (below_step B4.out (below_drewN (Below.refl _ _) 1))).mono ?_
                rintro r w6 ⟨rfl, hb'⟩
                have hb : Below W4.heap.size W4 w6 := (below_drewN (Below.refl _ _) 1).trans hb'
                have hsz := hb.size
                have P6 := Lib.hid (P4.out.below hb P4.out.lt)
                have R6 := Lib.hid (R4.out.below hb R4.out.1)
                have A6 := Lib.hid (A4.out.below hb A4.out.lt)
                have O6 := Lib.hid (O4.out.below' hb)
                have B6 := Lib.hid (below_step B4.out hb)
                have hs6 : wr.heap.size + 1 ≤ w6.heap.size := by have := HS4.out; omega
                obtain ⟨_, _, p2⟩ := P6.out.cells
                dsimp only at p2
                have f2 := P6.out.frozen 2
                clear hb hb' k1 k2 d4 CF1 P4 R4 A4 O4 B4 hsz HW4 HS4
                unfold lkE
                simp only [Option.isSome_some, Option.getD_some]
                go_wp2
                refine Mx.mid_normal (fun q => by cases q) ?_
                repeat ((first | refine Mx.mix0 rfl ?_ | refine Mx.mix1 rfl ?_); go_big_quiet_step (fail); refine wpQuiet_nil ?_)
                refine Mx.mix3 rfl ?_
                have P7 := Lib.hid (P6.out.set2 t)
                have R7 := Lib.hid (R6.out.other (g' := wr.heap.size) (by omega) 2 (.string t))
                have A7 : Hid (BoxV (w6.setCell ⟨wr.heap.size, 2, none⟩ (.string t)) w.heap.size 26 (.slice a dn cap)) := Lib.hid (BoxV.other A6.out (by omega))
                have O7 : Hid (OwnP (w6.setCell ⟨wr.heap.size, 2, none⟩ (.string t)) (w.heap.size + 1) u6 ls) := Lib.hid (O6.out.kept (grown_set _ _ _ _) (own_ne fun j hj => by have := HOl.out j hj; omega))
                have B7 : Hid (Below w.heap.size w (w6.setCell ⟨wr.heap.size, 2, none⟩ (.string t))) := Lib.hid (B6.out.setCell (p := ⟨wr.heap.size, 2, none⟩) (by show _ ≤ wr.heap.size; omega) _)
                go_wp2
                refine Mx.mid_normal (fun q => by cases q) ?_
                refine Mx.mix_nil ?_
                obtain ⟨q0, q1, q2⟩ := P7.out.cells
                dsimp only at q0 q1 q2
                have HN7 := Lib.hid (World.size_setCell w6 ⟨wr.heap.size, 2, none⟩ (.string t))
                have hs7 : w.heap.size + 1 ≤ w6.heap.size := by omega
                clear P6 R6 A6 O6 B6 p2 f2
                go_wp2_with (at_builtin; refine push_pcM rfl _ _ rfl (w.heap.size + 1) _ ls rfl O7.out ((k : Int), (c : Int), t) w6.heap.size HN7.out rfl hs7 (by omega) ?_)
                intro v' w8 hown hg hat
                have R8 := Lib.hid (R7.out.grown hg (fun e => HOn.out _ e.symm rfl))
                have A8 := Lib.hid (A7.out.grown hg (fun e => by have := row_ge O7.out e.symm; omega))
                have B8 := Lib.hid (B7.out.grown hg (by rw [World.size_setCell]; omega) (fun j hj => by have := row_ge O7.out hj; omega))
                have O8 := Lib.hid hown
                have HOn8 : Hid (∀ j, v'.ownBlock = some j → j ≠ w1.heap.size + 1) := fun j hj => by
                  rcases hat with h2 | h2
                  · exact HOn.out j (by rw [← h2]; exact hj)
                  · rw [h2] at hj; injection hj with hj; omega
                have d8 := R8.out.2.1 k (by omega)
                rw [HCell.out] at d8
                clear hown hg hat R7 A7 B7 O7 P7 q0 q1 q2 HOn HN7
                go_wp2_with fail
                refine (CMx.out _).mono ?_
                rintro r w9 ⟨rfl, rfl⟩
                rw [HMx.out]
                go_wp2
                go_roundw
                case rel => exact ⟨k + c, ls ++ [((k : Int), (c : Int), t)], by go_num, by omega, by rw [List.length_append, List.length_singleton]; omega, HL2, O8, HOn8, R8, A8, B8⟩
                case measure => simp [intOf]; omega
            · have HF : Hid (ls = Pl.opt es xs 0) := by have h1 := HLs.out; rw [show k = n by omega, HOEnd.out, List.append_nil] at h1; exact h1
              have OF := Lib.hid (ownsRow_mono HO.out (Nat.le_succ w.heap.size))
              clear HLs CF HS HSl HTk HFt0 HTl
              go_wp2
              go_ret2
              exact ⟨⟨_, rfl, by rw [← HF.out]; exact OF.out⟩, HB'.out⟩
        | succ i =>
          obtain rfl : z = (i : Int) := by omega
          clear hz
          have hin : i < n := by omega
          have hc1 := RCr.out.2.1 (i + 1) (by omega)
          rw [HFc.out (i + 1) (by omega) (by omega)] at hc1
          have hc0 := RCr.out.2.1 i (by omega)
          have hf0 := RCr.out.2.2 i
          have ht0 := RTr.out.2.1 i (by omega)
          have hg0 := RTr.out.2.2 i
          have hcl := HCl.out (i + 1)
          have RC2 := Lib.hid ((RCr.out.set i (by omega) (101 + (Pl.cC es xs (i + 1) : Int))).other (g' := w1.heap.size + 1) (by omega) i (.int .i64 0))
          have RT2 := Lib.hid ((RTr.out.other (g' := w1.heap.size) (by omega) i (.int .i64 (101 + (Pl.cC es xs (i + 1) : Int)))).set i (by omega) 0)
          have B2 : Hid (Below w1.heap.size w1 ((wr.setCell ⟨w1.heap.size, i, none⟩ (.int .i64 (101 + (Pl.cC es xs (i + 1) : Int)))).setCell ⟨w1.heap.size + 1, i, none⟩ (.int .i64 0))) := Lib.hid ((HBr.out.setCell (p := ⟨w1.heap.size, i, none⟩) (Nat.le_refl _) _).setCell (p := ⟨w1.heap.size + 1, i, none⟩) (Nat.le_succ _) _)
          have hcn := Pl.cN_zero es xs i
          have HFc2 : Hid (∀ j, i < j → j ≤ n → (fun j => if j = i then (101 + (Pl.cC es xs (i + 1) : Int)) else fc j) j = (Pl.cC es xs j : Int)) := fun j h1 h2 => by dsimp only; rw [if_neg (by omega)]; exact HFc.out j (by omega) h2
          have HFi2 : Hid ((fun j => if j = i then (101 + (Pl.cC es xs (i + 1) : Int)) else fc j) i = (Pl.cN es xs i 0 : Int)) := by show (if i = i then _ else _) = _; rw [if_pos rfl, hcn]; omega
          have HFt2 : Hid (∀ j, i < j → j < n → (fun j => if j = i then (0 : Int) else ft j) j = (Pl.tk es xs j : Int)) := fun j h1 h2 => by dsimp only; rw [if_neg (by omega)]; exact HFt.out j (by omega) h2
          have HTi2 : Hid ((fun j => if j = i then (0 : Int) else ft j) i = (Pl.tN es xs i 0 : Int)) := by show (if i = i then _ else _) = _; rw [if_pos rfl]; rfl
          obtain ⟨fc2, hfc2⟩ : ∃ f, f = (fun j => if j = i then (101 + (Pl.cC es xs (i + 1) : Int)) else fc j) := ⟨_, rfl⟩
          obtain ⟨ft2, hft2⟩ : ∃ f, f = (fun j => if j = i then (0 : Int) else ft j) := ⟨_, rfl⟩
          rw [← hfc2] at RC2 HFc2 HFi2
          rw [← hft2] at RT2 HFt2 HTi2
          obtain ⟨C1, hC1⟩ : ∃ C1, C1 = Pl.cC es xs (i + 1) := ⟨_, rfl⟩
          rw [← hC1] at hc1 hcl RC2 RT2 B2
          clear hcn hfc2 hft2 RCr RTr HFc HFt HBr hC1 RC RT BL
          go_wp2_with fail
          go_loopw [10] (fun k wq => ∃ (q : Nat) (fc' ft' : Nat → Int), k = .int .i64 ((q : Int) + 1) ∧ q ≤ min 6 (n - i) ∧ Hid (RwI wq w1.heap.size (n + 1) fc') ∧ Hid (RwI wq (w1.heap.size + 1) (n + 1) ft') ∧ Hid (∀ j, i < j → j ≤ n → fc' j = (Pl.cC es xs j : Int)) ∧ Hid (fc' i = (Pl.cN es xs i q : Int)) ∧ Hid (∀ j, i < j → j < n → ft' j = (Pl.tk es xs j : Int)) ∧ Hid (ft' i = (Pl.tN es xs i q : Int)) ∧ Hid (Below w1.heap.size w1 wq)) (fun k _ => (8 - intOf k).toNat)
          case atStart => exact ⟨0, fc2, ft2, rfl, Nat.zero_le _, RC2, RT2, HFc2, HFi2, HFt2, HTi2, B2⟩
          case round =>
            obtain ⟨q, fc', ft', rfl, hq, RCq, RTq, HFq, HFi, HTq, HTi, HBq⟩ := hrel
            clear RC2 RT2 HFc2 HFi2 HFt2 HTi2 B2 hc1 hc0 hf0 ht0 hg0
            by_cases hqc : q < min 6 (n - i)
            · have hq6 : q + 1 ≤ 6 := by omega
              have hqn : i + (q + 1) ≤ n := by omega
              obtain ⟨ub, uo, rfl, hSI⟩ := HS.out i (q + 1) hqn (by omega)
              have hbw := B1.out.trans (HBq.out.mono B1.out.size)
              have CF1 := Lib.hid (fun w' (hb : Below wr.heap.size wr w') => CF.out _ _ w' (below_step hbw hb) (hSI w' (below_step hbw hb)) (HSl.out i (q + 1)))
              have hcs := HCs.out i q
              obtain ⟨lk, hlk⟩ : ∃ lk, lk = Pl.lkP es xs i (q + 1) := ⟨_, rfl⟩
              have hlk2 : Pl.look ((xs.drop i).take (q + 1)) es = lk := by rw [hlk]; rfl
              have hcno := fun (h : Pl.lkP es xs i (q + 1) = none) => Pl.cN_none h
              rw [hlk2] at CF1
              rw [← hlk] at hcs hcno
              have HCs1 := Lib.hid hcs
              have HCno := Lib.hid hcno
              have Aq := Lib.hid (A1.out.below HBq.out (by omega))
              have k1 := cell_regrown Aq.out.cell
              have hC := HFq.out (i + (q + 1)) (by omega) hqn
              have hCl := HCl.out (i + (q + 1))
              obtain ⟨CC, hCC⟩ : ∃ c, c = Pl.cC es xs (i + (q + 1)) := ⟨_, rfl⟩
              rw [← hCC] at HCs1 hC hCl
              obtain ⟨CN, hCN⟩ : ∃ c, c = Pl.cN es xs i q := ⟨_, rfl⟩
              have HFi' := HFi.out
              rw [← hCN] at HCs1 HFi'
              have HCi := Lib.hid HFi'
              have HCj := Lib.hid hC
              clear hcs hcno hlk hlk2 hCC hC HFi' hSI hbw CF HS HSl HCs
              go_wp2_with fail
              refine Mx.wp_region_mixed (Mx.ofL [(0, 1), (1, 0), (2, 0), (3, 0), (4, 0), (5, 0), (6, 0), (7, 3), (8, 0), (9, 0), (10, 0), (11, 0), (12, 0)] .done) (by kernel_rfl) (by kernel_rfl) ?_
              repeat ((first | refine Mx.mix0 rfl ?_ | refine Mx.mix1 rfl ?_); go_big_quiet_step (fail); refine wpQuiet_nil ?_)
              refine Mx.mix3 rfl ?_
              go_wp2_with fail
              refine (CF1.out _ (below_drewN (Below.refl _ _) 1)).mono ?_
              rintro r w3 ⟨rfl, hb'⟩
              have hb : Below wr.heap.size wr w3 := (below_drewN (Below.refl _ _) 1).trans hb'
              have RC3 := Lib.hid (RCq.out.below hb RCq.out.1)
              have RT3 := Lib.hid (RTq.out.below hb RTq.out.1)
              have hw1q : w1.heap.size ≤ wr.heap.size := HBq.out.size
              have B3 := Lib.hid (HBq.out.trans (hb.mono hw1q))
              clear hb' hb k1 RCq RTq HBq Aq CF1
              unfold lkE
              go_wp2
              refine Mx.mid_normal (fun q => by cases q) ?_
              repeat ((first | refine Mx.mix0 rfl ?_ | refine Mx.mix1 rfl ?_); go_big_quiet_step (fail); refine wpQuiet_nil ?_)
              refine Mx.mix_nil ?_
              cases lk with
              | none =>
                simp only [Option.isSome_none, Option.getD_none]
                obtain ⟨e1, e2⟩ := HCno.out rfl
                have HFi3 : Hid (fc' i = (Pl.cN es xs i (q + 1) : Int)) := by rw [e1]; exact HFi.out
                have HTi3 : Hid (ft' i = (Pl.tN es xs i (q + 1) : Int)) := by rw [e2]; exact HTi.out
                have cI := RC3.out.2.1 i (by omega)
                have kI := cell_regrown cI
                clear e1 e2 HCno HCs1 HCi HCj
                go_wp2_with fail
                refine wp_region_quiet_below (by kernel_rfl) (by kernel_rfl) ?_
                repeat (go_big_quiet_step (fail))
                refine wpQuiet_nil ?_
                rintro _ ⟨⟨dq, osq⟩, rfl⟩
                have hd := below_regrown w3 dq osq
                have RC4 := Lib.hid (RC3.out.below hd RC3.out.1)
                have RT4 := Lib.hid (RT3.out.below hd RT3.out.1)
                have B4 := Lib.hid (B3.out.trans (hd.mono B3.out.size))
                obtain ⟨W4, hW4⟩ : ∃ W, W = Go.Sort.grow (redrawn w3 dq) osq := ⟨_, rfl⟩
                dsimp only at RC4 RT4 B4 ⊢
                rw [← hW4] at RC4 RT4 B4 ⊢
                clear hd hW4 cI kI RC3 RT3 B3
                go_wp2
                go_roundw
                case rel => exact ⟨q + 1, fc', ft', by go_num, by omega, RC4, RT4, HFq, HFi3, HTq, HTi3, B4⟩
                case measure => simp [intOf]; omega
              | some t =>
                simp only [Option.isSome_some, Option.getD_some]
                obtain ⟨e1, e2⟩ := HCs1.out t rfl
                have cI := RC3.out.2.1 i (by omega)
                have cJ := RC3.out.2.1 (i + (q + 1)) (by omega)
                rw [HCi.out] at cI
                rw [HCj.out] at cJ
                have kI := cell_regrown cI
                have kJ := cell_regrown cJ
                by_cases hle : 1 + CC ≤ CN
                · rw [if_pos hle] at e1 e2
                  have hle' : 1 + (CC : Int) ≤ (CN : Int) := by omega
                  have E1 := Lib.hid e1
                  have E2 := Lib.hid e2
                  clear e1 e2 HCno HCs1 HCi HCj hle
                  go_wp2_with fail
                  refine Mx.wp_region_mixed (Mx.ofL [(0, 0), (1, 0), (2, 0), (3, 0), (4, 0), (5, 0), (6, 0), (7, 1), (8, 0), (9, 0), (10, 0), (11, 0), (12, 1), (13, 0), (14, 3)] .done) (by kernel_rfl) (by kernel_rfl) ?_
                  repeat ((first | refine Mx.mix0 rfl ?_ | refine Mx.mix1 rfl ?_); go_big_quiet_step (fail); refine wpQuiet_nil ?_)
                  refine Mx.mix3 rfl ?_
                  go_wp2
                  refine Mx.mid_normal (fun q => by cases q) ?_
                  refine Mx.mix_nil ?_
                  have hd : Below w3.heap.size w3 (w3.drew) := below_drewN (Below.refl _ _) 1
                  have RC4 := Lib.hid (RC3.out.below hd RC3.out.1)
                  have RT4 := Lib.hid (RT3.out.below hd RT3.out.1)
                  have B4 : Hid (Below w1.heap.size w1 w3.drew) := Lib.hid (below_drewN B3.out 1)
                  obtain ⟨W4, hW4⟩ : ∃ W, W = w3.drew := ⟨_, rfl⟩
                  rw [← hW4] at RC4 RT4 B4 ⊢
                  have dJ := RC4.out.2.1 (i + (q + 1)) (by omega)
                  have dI := RC4.out.2.1 i (by omega)
                  have fI := RC4.out.2.2 i
                  have tI := RT4.out.2.1 i (by omega)
                  have gI := RT4.out.2.2 i
                  rw [HFq.out _ (by omega) hqn] at dJ
                  have RC5 := Lib.hid ((RC4.out.set i (by omega) (1 + (CC : Int))).other (g' := w1.heap.size + 1) (by omega) i (.int .i64 ((q : Int) + 1)))
                  have RT5 := Lib.hid ((RT4.out.other (g' := w1.heap.size) (by omega) i (.int .i64 (1 + (CC : Int)))).set i (by omega) ((q : Int) + 1))
                  have B5 : Hid (Below w1.heap.size w1 ((W4.setCell ⟨w1.heap.size, i, none⟩ (.int .i64 (1 + (CC : Int)))).setCell ⟨w1.heap.size + 1, i, none⟩ (.int .i64 ((q : Int) + 1)))) := Lib.hid ((B4.out.setCell (p := ⟨w1.heap.size, i, none⟩) (Nat.le_refl _) _).setCell (p := ⟨w1.heap.size + 1, i, none⟩) (Nat.le_succ _) _)
                  have HFq5 : Hid (∀ j, i < j → j ≤ n → (fun j => if j = i then (1 + (CC : Int)) else fc' j) j = (Pl.cC es xs j : Int)) := fun j h1 h2 => by dsimp only; rw [if_neg (by omega)]; exact HFq.out j h1 h2
                  have HFi5 : Hid ((fun j => if j = i then (1 + (CC : Int)) else fc' j) i = (Pl.cN es xs i (q + 1) : Int)) := by show (if i = i then _ else _) = _; rw [if_pos rfl, E1.out]; omega
                  have HTq5 : Hid (∀ j, i < j → j < n → (fun j => if j = i then ((q : Int) + 1) else ft' j) j = (Pl.tk es xs j : Int)) := fun j h1 h2 => by dsimp only; rw [if_neg (by omega)]; exact HTq.out j h1 h2
                  have HTi5 : Hid ((fun j => if j = i then ((q : Int) + 1) else ft' j) i = (Pl.tN es xs i (q + 1) : Int)) := by show (if i = i then _ else _) = _; rw [if_pos rfl, E2.out]; omega
                  have hCC2 : (Pl.cC es xs (i + (q + 1)) : Int) = (CC : Int) := by have h1 := HFq.out (i + (q + 1)) (by omega) hqn; have h2 := RC3.out.2.1 (i + (q + 1)) (by omega); rw [cJ] at h2; injection h2 with h2; injection h2 with _ h2; rw [← h1, ← h2]
                  rw [hCC2] at dJ
                  clear hd hW4 RC3 RT3 B3 RC4 RT4 B4 cI cJ HFq HFi HTq HTi E1 E2 hCC2
                  go_wp2
                  go_roundw
                  case rel => exact ⟨q + 1, _, _, by go_num, by omega, RC5, RT5, HFq5, HFi5, HTq5, HTi5, B5⟩
                  case measure => simp [intOf]; omega
                · rw [if_neg hle] at e1 e2
                  have hle' : ¬ 1 + (CC : Int) ≤ (CN : Int) := by omega
                  have HFi3 : Hid (fc' i = (Pl.cN es xs i (q + 1) : Int)) := by rw [e1]; exact HCi.out
                  have HTi3 : Hid (ft' i = (Pl.tN es xs i (q + 1) : Int)) := by rw [e2]; exact HTi.out
                  clear e1 e2 HCno HCs1 HCi HCj hle
                  go_wp2_with fail
                  refine Mx.wp_region_mixed (Mx.ofL [(0, 0), (1, 0), (2, 0), (3, 0), (4, 0), (5, 0), (6, 0), (7, 1), (8, 0), (9, 0), (10, 0), (11, 0), (12, 1), (13, 0), (14, 3)] .done) (by kernel_rfl) (by kernel_rfl) ?_
                  repeat ((first | refine Mx.mix0 rfl ?_ | refine Mx.mix1 rfl ?_); go_big_quiet_step (fail); refine wpQuiet_nil ?_)
                  refine Mx.mix3 rfl ?_
                  go_wp2
                  refine Mx.mid_normal (fun q => by cases q) ?_
                  refine Mx.mix_nil ?_
                  go_wp2
                  go_roundw
                  case rel => exact ⟨q + 1, fc', ft', by go_num, by omega, RC3.out.below (below_drewN (Below.refl _ _) 1) RC3.out.1, RT3.out.below (below_drewN (Below.refl _ _) 1) RT3.out.1, HFq, HFi3, HTq, HTi3, below_drewN B3.out 1⟩
                  case measure => simp [intOf]; omega
            · have hqe : q = min 6 (n - i) := by omega
              have HFo : Hid (∀ j, i ≤ j → j ≤ n → fc' j = (Pl.cC es xs j : Int)) := fun j h1 h2 => by
                by_cases hj : j = i
                · subst hj; rw [HFi.out, hqe, ← HCap.out, HCcap.out j hin]
                · exact HFq.out j (by omega) h2
              have HTo : Hid (∀ j, i ≤ j → j < n → ft' j = (Pl.tk es xs j : Int)) := fun j h1 h2 => by
                by_cases hj : j = i
                · subst hj; rw [HTi.out, hqe, ← HCap.out]; rfl
                · exact HTq.out j (by omega) h2
              clear HFq HFi HTq HTi HS HSl HCs CF
              by_cases hq6 : q + 1 ≤ 6
              · have hqn : ¬ i + (q + 1) ≤ n := by omega
                clear hqe hqc
                go_wp2
                go_roundw
                case rel => exact ⟨i, (i : Int) - 1, fc', ft', rfl, rfl, by omega, RCq, RTq, HFo, HTo, HBq.out⟩
                case measure => simp [intOf]
              · clear hqe hqc
                go_wp2
                go_roundw
                case rel => exact ⟨i, (i : Int) - 1, fc', ft', rfl, rfl, by omega, RCq, RTq, HFo, HTo, HBq.out⟩
                case measure => simp [intOf]
end Go.Proofs.YtnpiphkglhcifaaGreat
