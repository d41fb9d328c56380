/-
  LookupFolded, of the program and of the specification.
-/
import Derived.Test.YtjmiackiikbodaaGreatLf
namespace Go.Proofs.YtjmiackiikbodaaGreat
set_option maxRecDepth 100000
open Go.RowKit

theorem EntsAt.slice {w : World} {v : Value} {es : List Ent} (h : EntsAt w v es) : ∃ a cap, v = .slice a es.length cap := by obtain ⟨a, cap, hv, _⟩ := h.len; exact ⟨a, cap, hv⟩
set_option maxHeartbeats 1000000 in
theorem LookupFolded_any (v : Value) (es : List Ent) (fv : Value) (fs : List Atm) (u : Value) (xs : List Int) (w : World) (h : EntsAt w v es) (hn : es.length ≤ 2097152) (hx : ∀ e ∈ es, entOk e) (hf : AtomsAt w fv fs) (hfn : fs.length ≤ 2097152) (hfx : ∀ f ∈ fs, f.2.size ≤ 1048576) (hu : IntsM w u xs) (hxn : xs.length ≤ 2097152) :
    Calls Tryz.prog 14 #[dV v, fv, u] w fun r w' => r = lfE (lfR es fs xs) ∧ Below w.heap.size w w' := by
  have HE := Lib.hid h
  have HF := Lib.hid hf
  have HU := Lib.hid hu
  have CB := Lib.hid (fun w' h hf => foldedBy_any v es fv fs w' h hn hx hf hfn hfx)
  have CL := Lib.hid (fun (hok : okD es = true) (hfk : Pl.okFs fs = true) b w' hm hf hu => lookupD_any b es fv fs u xs w' hm hok hf (Pl.okFs_parts hfk).1 hfx hu hxn)
  have BX := Lib.hid (fun o => below_x1 w o)
  obtain ⟨fa, fc, rfl, _⟩ := fd_at hf
  obtain ⟨fl, hfl⟩ : ∃ fl, fl = fs.length := ⟨_, rfl⟩
  obtain ⟨a, cap, rfl⟩ := h.slice
  obtain ⟨n, hnn⟩ : ∃ n, n = es.length := ⟨_, rfl⟩
  unfold dV at CB ⊢
  cases hg : (okD es && Pl.okFs fs)
  · rw [lfR_no hg, lfE_none]
    rw [← hfl, ← hnn]
    simp only [hg, ← hfl, ← hnn] at CB
    rw [← hfl] at HF
    rw [← hnn] at HE
    clear h hf hu hx hfx CL hg hfl hnn hfn hn
    go_enter Tryz.func14, Tryz.ntmps14
    go_wp2_with fail
    refine (CB.out _ (HE.out.below (BX.out _)) (HF.out.below (BX.out _))).mono ?_
    rintro r w1 ⟨⟨m, rfl, _⟩, hb⟩
    have B1 := Lib.hid ((BX.out _).trans (hb.mono (by simp)))
    clear hb
    go_wp2
    go_ret3
    exact ⟨rfl, B1.out.alloc B1.out.size _⟩
  · rw [lfR_yes hg]
    have hg2 := hg
    rw [Bool.and_eq_true] at hg2
    have CL2 := Lib.hid (CL.out hg2.1 hg2.2)
    have HD := Lib.hid hg2.1
    unfold lfE at CL2 ⊢
    rw [← hfl, ← hnn]
    simp only [hg, ← hfl, ← hnn] at CB
    simp only [← hfl] at CL2
    rw [← hfl] at HF
    rw [← hnn] at HE
    clear h hf hu hx hfx CL hg hg2 hfl hnn hfn hn
    go_enter Tryz.func14, Tryz.ntmps14
    go_wp2_with fail
    refine (CB.out _ (HE.out.below (BX.out _)) (HF.out.below (BX.out _))).mono ?_
    rintro r w1 ⟨⟨m, rfl, hm⟩, hb⟩
    have B1 := Lib.hid ((BX.out _).trans (hb.mono (by simp)))
    obtain ⟨b, rfl, _, hmb⟩ := hm HD.out
    have HM := Lib.hid hmb
    clear hb hm hmb
    go_wp2_with fail
    have hb2 := below_x1 w1 (.cells #[.map (some b), .slice fa fl fc] 78)
    have B2 := Lib.hid (B1.out.trans (hb2.mono B1.out.size))
    have HM2 := Lib.hid (HM.out.below hb2)
    clear hb2
    refine (CL2.out b _ HM2.out (HF.out.below B2.out) (HU.out.below B2.out)).mono ?_
    rintro r w3 ⟨rfl, hb⟩
    have B3 := Lib.hid (B2.out.trans (hb.mono B2.out.size))
    clear hb
    go_wp2
    go_ret3
    exact ⟨rfl, B3.out⟩
set_option maxHeartbeats 2000000 in
theorem specLookupFolded_any (v : Value) (es : List Ent) (fv : Value) (fs : List Atm) (u : Value) (xs : List Int) (w : World) (h : EntsAt w v es) (hn : es.length ≤ 2097152) (hx : ∀ e ∈ es, entOk e) (hf : AtomsAt w fv fs) (hfn : fs.length ≤ 2097152) (hfx : ∀ f ∈ fs, f.2.size ≤ 1048576) (hu : IntsM w u xs) (hxn : xs.length ≤ 2097152) :
    Calls Tryz.prog 10 #[dV v, fv, u] w fun r w' => r = lfE (lfR es fs xs) ∧ Below w.heap.size w w' := by
  have HE := Lib.hid h
  have HF := Lib.hid hf
  have HU := Lib.hid hu
  have cg := fun w' hb => l6Good_any v es w' (h.below (w' := w') hb) hn hx
  have cv := fun w' hb => specIsValidFolds_any fv fs w' (hf.below (w' := w') hb) hfn (fun e he => by have := hfx e he; unfold maxLen; omega)
  have co := fun w' hb => l4Good_any u xs w' (hu.below (w' := w') hb).at hxn
  have CFi := Lib.hid (fun y ys w' hb hy hyn => l6Find_any v es y ys w' (h.below (w' := w') hb) hy hn hx hyn)
  have BX := Lib.hid (below_x1 w (.cells #[v] 33))
  obtain ⟨a, cap, rfl⟩ := h.slice
  obtain ⟨ua, uc, rfl, _, _⟩ := hu.at.cells
  obtain ⟨fa, fc, rfl, hfc, hFC⟩ := fd_at hf
  have HFC := Lib.hid hFC
  obtain ⟨n, hnn⟩ : ∃ n, n = es.length := ⟨_, rfl⟩
  obtain ⟨fl, hfl⟩ : ∃ fl, fl = fs.length := ⟨_, rfl⟩
  have HFL := Lib.hid hfl
  unfold dV at cg CFi ⊢
  rw [← hnn] at HE BX
  rw [← hfl] at HF hfc
  simp only [← hnn] at cg CFi
  simp only [← hfl] at cv
  rw [← hnn, ← hfl]
  cases hg : okD es
  · rw [hg] at cg
    have CG := Lib.hid cg
    have HN : Hid (lfR es fs xs = none) := Lib.hid (lfR_no (by rw [hg]; rfl))
    rw [HN.out, lfE_none]
    clear h hf hu hx hfx hg cg cv co hFC hfl hnn hfn hn HN
    go_enter Tryz.func10, Tryz.ntmps10
    go_wp2_with fail
    refine (CG.out _ BX.out).mono ?_
    rintro r w1 ⟨rfl, hb⟩
    have B1 := Lib.hid (BX.out.trans (hb.mono BX.out.size))
    clear hb
    go_wp2
    go_ret3
    exact ⟨rfl, B1.out⟩
  · rw [hg] at cg
    have CG := Lib.hid cg
    cases hfk : Pl.okFs fs
    · rw [hfk] at cv
      have CV := Lib.hid cv
      have HN : Hid (lfR es fs xs = none) := Lib.hid (lfR_no (by rw [hg, hfk]; rfl))
      rw [HN.out, lfE_none]
      clear h hf hu hx hfx hg hfk cg cv co hFC hfl hnn hfn hn HN
      go_enter Tryz.func10, Tryz.ntmps10
      go_wp2_with fail
      refine (CG.out _ BX.out).mono ?_
      rintro r w1 ⟨rfl, hb⟩
      have B1 := Lib.hid (BX.out.trans (hb.mono BX.out.size))
      clear hb
      go_wp2_with fail
      refine (CV.out _ B1.out).mono ?_
      rintro r w2 ⟨rfl, hb⟩
      have B2 := Lib.hid (B1.out.trans (hb.mono B1.out.size))
      clear hb
      go_wp2
      go_ret3
      exact ⟨rfl, B2.out⟩
    · rw [hfk] at cv
      have CV := Lib.hid cv
      cases ho : okO xs
      · rw [ho] at co
        have CO := Lib.hid co
        have HN : Hid (lfR es fs xs = none) := Lib.hid (by rw [lfR_yes (by rw [hg, hfk]; rfl), lfX_bad hg ho])
        rw [HN.out, lfE_none]
        clear h hf hu hx hfx hg hfk ho cg cv co hFC hfl hnn hfn hn HN
        go_enter Tryz.func10, Tryz.ntmps10
        go_wp2_with fail
        refine (CG.out _ BX.out).mono ?_
        rintro r w1 ⟨rfl, hb⟩
        have B1 := Lib.hid (BX.out.trans (hb.mono BX.out.size))
        clear hb
        go_wp2_with fail
        refine (CV.out _ B1.out).mono ?_
        rintro r w2 ⟨rfl, hb⟩
        have B2 := Lib.hid (B1.out.trans (hb.mono B1.out.size))
        clear hb
        go_wp2_with fail
        refine (CO.out _ B2.out).mono ?_
        rintro r w3 ⟨rfl, rfl⟩
        go_wp2
        go_ret3
        exact ⟨rfl, B2.out⟩
      · rw [ho] at co
        have CO := Lib.hid co
        have HR : Hid (lfR es fs xs = lfX es fs xs) := Lib.hid (lfR_yes (by rw [hg, hfk]; rfl))
        rw [HR.out]
        obtain ⟨hf6, hfv, _⟩ := Pl.okFs_parts hfk
        have hfl6 : fl ≤ 6 := by rw [hfl]; exact hf6
        have CUn := Lib.hid (fun k t (hkt : Pl.okF (k, t) = true) w' hm => l10Unfold_any (.slice ua xs.length uc) xs k t w' hm ho hkt)
        have CTx := Lib.hid (fun s k t w' hs ht => l10Text_any s k t w' hs ht)
        have HVal := Lib.hid (fun k f (hkf : fs[k]? = some f) => show Pl.okF f = true from hfv f (List.mem_of_getElem? hkf))
        have HSz := Lib.hid (fun o q (hq : Pl.look o es = some q) => look_size hg hq)
        have HN1 := Lib.hid (fun f (h : fd1 es xs f = none) j (hj : fs[j]? = some f) => show fdFind es xs j (fs.drop j) = fdFind es xs (j + 1) (fs.drop (j + 1)) from by rw [fdFind_next hj, h])
        have HN2 := Lib.hid (fun f t (h : fd1 es xs f = some t) j (hj : fs[j]? = some f) => show fdFind es xs j (fs.drop j) = some (t, (j : Int)) from by rw [fdFind_next hj, h])
        have HUb := Lib.hid (fun (f : Atm) (hf : Pl.okF f = true) => show unfB xs f.1 f.2 = decide (0 < (unfI xs f.1 f.2).length) from by
          rw [(unf_un0 ho hf).1, (unf_un0 ho hf).2, un0_pos])
        obtain ⟨x, hx'⟩ : ∃ x, x = Pl.look xs es := ⟨_, rfl⟩
        obtain ⟨Z, hZ⟩ : ∃ Z, Z = lfX es fs xs := ⟨_, rfl⟩
        have HLs := Lib.hid (fun t (h : x = some t) => hZ.trans (lfX_some (fs := fs) (hx'.symm.trans h)))
        have HLn := Lib.hid (fun (h : x = none) => hZ.trans (lfX_none (fs := fs) (hx'.symm.trans h)))
        rw [← hZ]
        have cf0 := fun w' hb => CFi.out (.slice ua xs.length uc) xs w' hb (HU.out.below hb).at hxn
        rw [← hx'] at cf0
        have CF0 := Lib.hid cf0
        clear h hf hu hx hfx hg hfk ho cg cv co hFC hfl hnn hfn hn hZ hx' cf0 hfv HR
        go_enter Tryz.func10, Tryz.ntmps10
        go_wp2_with fail
        refine (CG.out _ BX.out).mono ?_
        rintro r w1 ⟨rfl, hb⟩
        have B1 := Lib.hid (BX.out.trans (hb.mono BX.out.size))
        have Q1 : Hid (w1.cell? ⟨w.heap.size, 0, none⟩ = some (.slice a n cap)) := Lib.hid (box1 hb)
        clear hb
        go_wp2_with fail
        refine (CV.out _ B1.out).mono ?_
        rintro r w2 ⟨rfl, hb⟩
        have B2 := Lib.hid (B1.out.trans (hb.mono B1.out.size))
        have Q2 : Hid (w2.cell? ⟨w.heap.size, 0, none⟩ = some (.slice a n cap)) := Lib.hid ((hb.cell (p := ⟨w.heap.size, 0, none⟩) (lt_of_cell Q1.out)).trans Q1.out)
        clear hb Q1
        go_wp2_with fail
        refine (CO.out _ B2.out).mono ?_
        rintro r w3 ⟨rfl, rfl⟩
        have q2 := Q2.out
        go_wp2_with fail
        refine (CF0.out _ B2.out).mono ?_
        rintro r w3 ⟨rfl, hb⟩
        have B3 := Lib.hid (B2.out.trans (hb.mono B2.out.size))
        have Q3 : Hid (w3.cell? ⟨w.heap.size, 0, none⟩ = some (.slice a n cap)) := Lib.hid ((hb.cell (p := ⟨w.heap.size, 0, none⟩) (lt_of_cell Q2.out)).trans Q2.out)
        clear hb Q2 q2
        cases x with
        | some t =>
          have HZ := Lib.hid (HLs.out t rfl)
          clear HLs HLn
          unfold lkE
          simp only [Option.getD_some, Option.isSome_some]
          go_wp2
          go_ret3
          rw [HZ.out, lfE_some]
          exact ⟨rfl, B3.out⟩
        | none =>
          have HZ := Lib.hid (HLn.out rfl)
          clear HLs HLn
          unfold lkE
          simp only [Option.getD_none, Option.isSome_none]
          have HB3 : Hid (∀ w', Below w3.heap.size w3 w' → w'.cell? ⟨w.heap.size, 0, none⟩ = some (.slice a n cap)) := Lib.hid (fun w' hb => (hb.cell (p := ⟨w.heap.size, 0, none⟩) (lt_of_cell Q3.out)).trans Q3.out)
          clear Q3
          go_wp2_with fail
          go_loopw [11] (fun i wr => ∃ k : Nat, k ≤ fl ∧ i = .int .i64 k ∧ Hid (Z = fdFind es xs k (fs.drop k)) ∧ Hid (Below w3.heap.size w3 wr)) (fun i _ => fl - (intOf i).toNat)
          case atStart => exact ⟨0, Nat.zero_le _, rfl, HZ, Lib.hid (Below.refl _ _)⟩
          case round =>
            obtain ⟨k, hk, rfl, HK, HB⟩ := hrel
            by_cases hlt : k < fl
            · obtain ⟨f, hf⟩ : ∃ f, fs[k]? = some f := ⟨_, List.getElem?_eq_getElem (by rw [← HFL.out]; exact hlt)⟩
              have hbw := B3.out.trans (HB.out.mono B3.out.size)
              obtain ⟨bk, o, rfl, hbk, g0, g1⟩ := HFC.out wr hbw k f hf
              have hfo := HVal.out k f hf
              have HF1 := Lib.hid hf
              have HUb1 := Lib.hid (HUb.out f hfo)
              have HFo := Lib.hid hfo
              obtain ⟨fk, ft⟩ := f
              dsimp only at g0 g1
              have h8 := (Pl.okF_parts hfo).2.2.1
              dsimp only at h8
              have cu := CUn.out fk ft hfo wr (HU.out.below hbw)
              obtain ⟨zs, hzs⟩ : ∃ zs, zs = unfI xs fk ft := ⟨_, rfl⟩
              have HZs := Lib.hid hzs
              have hzl : zs.length ≤ 6 := by rw [hzs]; exact unfI_len _ _ _
              have HUb2 : Hid (unfB xs fk ft = decide (0 < zs.length)) := Lib.hid (by rw [hzs]; exact HUb1.out)
              rw [← hzs] at cu
              obtain ⟨zl, hzl2⟩ : ∃ zl, zl = zs.length := ⟨_, rfl⟩
              have HZL := Lib.hid hzl2
              rw [← hzl2] at hzl
              have CU := Lib.hid cu
              have HBw := Lib.hid hbw
              clear cu hf hfo hzs hzl2 HUb1 hbw
              by_cases h0 : zl = 0
              · subst h0
                have HZ2 : Hid (Z = fdFind es xs (k + 1) (fs.drop (k + 1))) := Lib.hid (HK.out.trans (HN1.out _ (fd1_un (unL_bad (by show unfB xs fk ft = false; rw [HUb2.out, ← HZL.out]; rfl))) k HF1.out))
                clear HK
                go_wp2_with fail
                refine CU.out.mono ?_
                rintro r w4 ⟨⟨y, rfl, hy⟩, hb⟩
                have HB4 := Lib.hid (HB.out.trans (hb.mono HB.out.size))
                obtain ⟨ya, yc, hye, _, _⟩ := (rowInts_at hy).cells
                rw [← HZL.out] at hye
                subst hye
                clear hb hy g0 g1
                go_wp2
                go_roundw
                case rel => exact ⟨k + 1, by omega, by go_num, HZ2, HB4⟩
                case measure => simp [intOf]; omega
              · have hz0 : ((zl : Int) == 0) = false := by rw [beq_eq_false_iff_ne]; omega
                have hUB : unfB xs fk ft = true := by rw [HUb2.out, ← HZL.out, decide_eq_true (by omega)]
                have hL : unL es xs (fk, ft) = Pl.look zs es := by unfold unL; rw [hUB, HZs.out]; rfl
                go_wp2_with fail
                refine CU.out.mono ?_
                rintro r w4 ⟨⟨y, rfl, hy⟩, hb⟩
                have HB4 := Lib.hid (HB.out.trans (hb.mono HB.out.size))
                have HY4 := Lib.hid (rowInts_at hy)
                have HBw4 := Lib.hid (HBw.out.trans (hb.mono HBw.out.size))
                obtain ⟨ya, yc, hye, _, _⟩ := (rowInts_at hy).cells
                rw [← HZL.out] at hye
                subst hye
                have q4 := HB3.out _ HB4.out
                have cf := CFi.out (.slice ya zl yc) zs w4 HBw4.out HY4.out (by rw [← HZL.out]; omega)
                obtain ⟨g2, g3⟩ : w4.cell? ⟨bk, o + k * 2, none⟩ = some (.int .i64 fk) ∧ w4.cell? ⟨bk, o + k * 2 + 1, none⟩ = some (.string ft) :=
                  ⟨(hb.cell (p := ⟨bk, o + k * 2, none⟩) (lt_of_cell g0)).trans g0, (hb.cell (p := ⟨bk, o + k * 2 + 1, none⟩) (lt_of_cell g0)).trans g1⟩
                have HG := Lib.hid (show ∀ w', Below w4.heap.size w4 w' → w'.cell? ⟨bk, o + k * 2, none⟩ = some (.int .i64 fk) ∧ w'.cell? ⟨bk, o + k * 2 + 1, none⟩ = some (.string ft) from
                  fun w' hb => ⟨(hb.cell (p := ⟨bk, o + k * 2, none⟩) (lt_of_cell g2)).trans g2, (hb.cell (p := ⟨bk, o + k * 2 + 1, none⟩) (lt_of_cell g2)).trans g3⟩)
                clear hb hy g0 g1 g2 g3
                obtain ⟨x, hx⟩ : ∃ x, x = Pl.look zs es := ⟨_, rfl⟩
                rw [← hx] at cf hL
                have HSx := Lib.hid (fun q (hq : x = some q) => HSz.out zs q (hx.symm.trans hq))
                clear hx
                cases x with
                | none =>
                  rw [lkE_none] at cf
                  have CF := Lib.hid cf
                  have HZ2 : Hid (Z = fdFind es xs (k + 1) (fs.drop (k + 1))) := Lib.hid (HK.out.trans (HN1.out _ (fd1_un hL) k HF1.out))
                  clear cf HK hL
                  go_wp2_with fail
                  refine CF.out.mono ?_
                  rintro r w5 ⟨rfl, hb⟩
                  have HB5 := Lib.hid (HB4.out.trans (hb.mono HB4.out.size))
                  clear hb q4
                  go_wp2
                  go_roundw
                  case rel => exact ⟨k + 1, by omega, by go_num, HZ2, HB5⟩
                  case measure => simp [intOf]; omega
                | some s =>
                  rw [lkE_some] at cf
                  have CF := Lib.hid cf
                  have hs := HSx.out s rfl
                  have ct := fun w' => CTx.out s fk ft w' (by omega) (by omega)
                  have hfdB : fdB s fk ft = fd0B s ft := by unfold fdB; rw [show Pl.okF (fk, ft) = true from HFo.out]; rfl
                  have hfdT : fdT s fk ft = fd0T s ft := by unfold fdT fd0T; rw [hfdB]
                  have HN3 : Hid (fd0B s ft = false → Z = fdFind es xs (k + 1) (fs.drop (k + 1))) := Lib.hid (fun h => HK.out.trans (HN1.out _ (fd1_no hL (hfdB.trans h)) k HF1.out))
                  have HN4 : Hid (fd0B s ft = true → Z = some (fd0T s ft, (k : Int))) := Lib.hid (fun h => HK.out.trans (by rw [← hfdT]; exact HN2.out _ _ (fd1_yes hL (hfdB.trans h)) k HF1.out))
                  unfold fd0E at ct
                  obtain ⟨X, hX⟩ : ∃ X, X = fd0T s ft := ⟨_, rfl⟩
                  obtain ⟨c, hc⟩ : ∃ c, c = fd0B s ft := ⟨_, rfl⟩
                  rw [← hX, ← hc] at ct
                  rw [← hc] at HN3
                  rw [← hX, ← hc] at HN4
                  have CT := Lib.hid ct
                  clear cf ct HK hL hfdB hfdT hX hc
                  cases c with
                  | false =>
                    have HZ2 := Lib.hid (HN3.out rfl)
                    clear HN3 HN4
                    go_wp2_with fail
                    refine CF.out.mono ?_
                    rintro r w5 ⟨rfl, hb⟩
                    have HB5 := Lib.hid (HB4.out.trans (hb.mono HB4.out.size))
                    obtain ⟨g0, g1⟩ := HG.out _ hb
                    clear hb q4
                    go_wp2_with fail
                    refine (CT.out _).mono ?_
                    rintro r w6 ⟨rfl, hb⟩
                    have HB6 := Lib.hid (HB5.out.trans (hb.mono HB5.out.size))
                    clear hb g0 g1
                    go_wp2
                    go_roundw
                    case rel => exact ⟨k + 1, by omega, by go_num, HZ2, HB6⟩
                    case measure => simp [intOf]; omega
                  | true =>
                    have HZ2 := Lib.hid (HN4.out rfl)
                    clear HN3 HN4
                    go_wp2_with fail
                    refine CF.out.mono ?_
                    rintro r w5 ⟨rfl, hb⟩
                    have HB5 := Lib.hid (HB4.out.trans (hb.mono HB4.out.size))
                    obtain ⟨g0, g1⟩ := HG.out _ hb
                    clear hb q4
                    go_wp2_with fail
                    refine (CT.out _).mono ?_
                    rintro r w6 ⟨rfl, hb⟩
                    have HB6 := Lib.hid (HB5.out.trans (hb.mono HB5.out.size))
                    clear hb g0 g1
                    go_wp2
                    go_ret3
                    rw [HZ2.out, lfE_some]
                    exact ⟨rfl, B3.out.trans (HB6.out.mono B3.out.size)⟩
            · have HZ2 : Hid (Z = none) := Lib.hid (by rw [HK.out, List.drop_of_length_le (by rw [← HFL.out]; omega)]; rfl)
              clear HK
              go_wp2
              go_ret3
              rw [HZ2.out, lfE_none]
              exact ⟨rfl, B3.out.trans (HB.out.mono B3.out.size)⟩
end Go.Proofs.YtjmiackiikbodaaGreat
