/-
  A KEY TAKEN OUT OF, OR PUT INTO, THE LAST STROKE OF AN OUTLINE: by the program.
-/
import Derived.Test.YtjmiackiikbodaaGreatUnf
import Derived.Test.YtjmiackiikbodaaGreatShelf
namespace Go.Proofs.YtjmiackiikbodaaGreat
set_option maxRecDepth 100000
open Go.RowKit

theorem ownI_mono {w : World} {b b' : Nat} {v : Value} {n : Nat} {f : Nat → Int} (h : OwnInts w b v n f) (hb : b' ≤ b) : OwnInts w b' v n f := by
  rcases h with h | ⟨g, cap, hv, hc, hg, rest⟩
  · exact .inl h
  · exact .inr ⟨g, cap, hv, hc, Nat.le_trans hb hg, rest⟩
/-- The library's copy of a slice of ints. -/
theorem cloneI_any (u : Value) (xs : List Int) (w : World) (h : IntsAt w u xs) (h0 : 0 < xs.length) (hn : xs.length ≤ 2097152) :
    Calls Tryz.prog 54 #[u] w fun e w' => (∃ v, e = .returned v ∧ OwnInts w' w.heap.size v xs.length (fun j => xs.getD j 0)) ∧ Below w.heap.size w w' := by
  obtain ⟨bk, o, cap, rfl, hc, hk, hcell⟩ := h.block h0
  refine (Tryz.slices_Clone_int bk o xs.length cap xs w (Nat.le_refl _) (by omega) (fun j hj => ?_)).mono ?_
  · rw [hcell j _ (List.getElem?_eq_getElem hj)]; simp [List.getD, List.getElem?_eq_getElem hj]
  · rintro e w' ⟨v, rfl, hown, _, hb⟩
    rw [List.take_length] at hown
    exact ⟨⟨v, rfl, ownInts_of hown⟩, hb⟩
theorem withoutKey_any (s q : Nat) (hs0 : 1 ≤ s) (hs : s < 8388608) (hq : q ≤ 22) (w : World) :
    Calls Tryz.prog 74 #[.int .i64 s, .int .i64 ((2 ^ q : Nat) : Int)] w fun e w' => e = .returned (.tuple #[.int .i64 ((if s.testBit q then s - 2 ^ q else s : Nat) : Int), .bool (s.testBit q && !decide (s = 2 ^ q))]) ∧ w = w' := by
  have hp0 := pow_22 hq
  have hp1 : 0 < 2 ^ q := Nat.two_pow_pos q
  have hand := andNot_i64 s q hs hq
  have hle : s.testBit q = true → 2 ^ q ≤ s := fun h => Nat.ge_two_pow_of_testBit h
  have CS := Lib.hid (fun s w => isStroke_any s w)
  obtain ⟨p, hp⟩ : ∃ p, p = 2 ^ q := ⟨_, rfl⟩
  rw [← hp] at hp0 hp1 hand hle ⊢
  clear hp
  cases hb : s.testBit q
  · rw [hb] at hand
    simp only [Bool.false_eq_true, if_false] at hand ⊢
    clear hle hb
    go_enter Tryz.func74, Tryz.ntmps74
    go_wp2
    go_ret2
    exact ⟨rfl, rfl⟩
  · rw [hb] at hand
    simp only [if_true] at hand ⊢
    have hle2 := hle hb
    have cs := fun w => CS.out ((s - p : Nat) : Int) w
    have ho : okS ((s - p : Nat) : Int) = !decide (s = p) := by
      by_cases e : s = p
      · rw [okS_no (by omega), decide_eq_true e]; rfl
      · rw [okS_yes ⟨by omega, by omega⟩, decide_eq_false e]; rfl
    rw [ho] at cs
    have CS2 := Lib.hid cs
    have hne : (((s - p : Nat) : Int) != (s : Int)) = true := by rw [bne_iff_ne]; omega
    clear cs ho hle hb CS
    go_enter Tryz.func74, Tryz.ntmps74
    go_wp2_with fail
    refine (CS2.out _).mono ?_
    rintro e w1 ⟨rfl, rfl⟩
    go_wp2
    go_ret2
    exact ⟨rfl, rfl⟩
theorem withKey_any (s q : Nat) (_hs0 : 1 ≤ s) (hs : s < 8388608) (hq : q ≤ 22) (w : World) :
    Calls Tryz.prog 94 #[.int .i64 s, .int .i64 ((2 ^ q : Nat) : Int)] w fun e w' => e = .returned (.tuple #[.int .i64 ((s ||| 2 ^ q : Nat) : Int), .bool (!s.testBit q)]) ∧ w = w' := by
  have hp0 := pow_22 hq
  have hp1 : 0 < 2 ^ q := Nat.two_pow_pos q
  have hand := and_i64 s (2 ^ q) (by omega) (by omega)
  have hor := or_i64s s (2 ^ q) hs hp0
  rw [Pl.and_two] at hand
  obtain ⟨p, hp⟩ : ∃ p, p = 2 ^ q := ⟨_, rfl⟩
  rw [← hp] at hp0 hp1 hand hor ⊢
  clear hp
  cases hb : s.testBit q
  · rw [hb] at hand
    simp only [Bool.false_eq_true, if_false] at hand
    clear hb
    go_enter Tryz.func94, Tryz.ntmps94
    go_wp2
    go_ret2
    exact ⟨rfl, rfl⟩
  · rw [hb] at hand
    simp only [if_true] at hand
    have hne : ((p : Int) == 0) = false := by rw [beq_eq_false_iff_ne]; omega
    clear hb
    go_enter Tryz.func94, Tryz.ntmps94
    go_wp2
    go_ret2
    exact ⟨rfl, rfl⟩
def chB (cb : Nat → Nat → Bool) (xs : List Int) (k : Int) (t : ByteArray) : Bool := (okO xs && Pl.okF (k, t)) && cb (lastN xs) k.toNat
def chI (c : Nat → Nat → Nat) (cb : Nat → Nat → Bool) (xs : List Int) (k : Int) (t : ByteArray) : List Int := if chB cb xs k t = true then xs.dropLast ++ [((c (lastN xs) k.toNat : Nat) : Int)] else []
theorem ch_no {c : Nat → Nat → Nat} {cb : Nat → Nat → Bool} {xs : List Int} {k : Int} {t : ByteArray} (h : okO xs = false ∨ Pl.okF (k, t) = false) : chB cb xs k t = false ∧ chI c cb xs k t = [] := by
  have : chB cb xs k t = false := by unfold chB; rcases h with h | h <;> simp [h]
  exact ⟨this, by unfold chI; rw [this]; rfl⟩
theorem OwnInts.last {w : World} {base : Nat} {g cap : Nat} {ys : List Int} {x : Int} (hc : ys.length + 1 ≤ cap) (hg : base ≤ g) (hlt : g < w.heap.size) (hcell : ∀ j, j < ys.length + 1 → w.cell? ⟨g, j, none⟩ = some (.int .i64 ((ys ++ [x]).getD j 0))) (hf : ∀ j, w.frozen? ⟨g, j, none⟩ = false) (y : Int) :
    OwnInts (w.setCell ⟨g, ys.length, none⟩ (.int .i64 y)) base (.slice (some ⟨g, 0, none⟩) (ys.length + 1) cap) (ys ++ [y]).length (fun j => (ys ++ [y]).getD j 0) := by
  have hl : (ys ++ [y]).length = ys.length + 1 := by simp
  rw [hl]
  refine .inr ⟨g, cap, rfl, hc, hg, by omega, by rw [World.size_setCell]; exact hlt, fun j hj => ?_, fun j => by rw [World.frozen?_setCell]; exact hf j⟩
  by_cases hjl : j = ys.length
  · subst hjl
    rw [World.cell?_setCell_same _ _ _ (hcell _ (by omega))]
    simp [List.getD]
  · rw [World.cell?_setCell_other _ _ _ _ (by intro e; injection e; omega), hcell j hj]
    have hj2 : j < ys.length := by omega
    simp [List.getD, List.getElem?_append_left hj2]
set_option maxHeartbeats 1000000 in
theorem changeLast_any (fn : FuncId) (hcall : ∀ args w, (callFunc fn args).run Tryz.prog w = .ok (.enter fn args) w) (c : Nat → Nat → Nat) (cb : Nat → Nat → Bool)
    (hC : ∀ s q : Nat, 1 ≤ s → s < 8388608 → q ≤ 22 → ∀ w, Calls Tryz.prog fn #[.int .i64 s, .int .i64 ((2 ^ q : Nat) : Int)] w fun e w' => e = .returned (.tuple #[.int .i64 ((c s q : Nat) : Int), .bool (cb s q)]) ∧ w = w')
    (v : Value) (xs : List Int) (k : Int) (t : ByteArray) (w : World) (h : IntsAt w v xs) (hn : xs.length ≤ 2097152) (ht : t.size ≤ 1048576) :
    Calls Tryz.prog 73 #[v, atV k t, .func (.func fn) #[] #[]] w fun e w' => OutO w.heap.size w' (chI c cb xs k t) (chB cb xs k t) e ∧ Below w.heap.size w w' := by
  have CX := fun w' h => Valid_any v xs w' h hn
  have CF := fun w => isValidF_any k t w (by unfold maxLen; omega)
  have HI := Lib.hid h
  cases hx : okO xs
  · obtain ⟨a, cap, rfl, hcap, _⟩ := h.cells
    rw [(ch_no (c := c) (.inl hx)).1, (ch_no (.inl hx)).2]
    rw [hx] at CX
    have C1 := Lib.hid CX
    clear h CX CF hx
    go_enter Tryz.func73, Tryz.ntmps73
    go_wp2_with fail
    refine (C1.out _ (HI.out.below (below_x1 _ _))).mono ?_
    rintro e w1 ⟨rfl, rfl⟩
    go_wp2
    go_ret2
    exact ⟨outO_nil _ _ _ _, below_x1 _ _⟩
  · rw [hx] at CX
    have C1 := Lib.hid CX
    cases hf : Pl.okF (k, t)
    · obtain ⟨a, cap, rfl, hcap, _⟩ := h.cells
      rw [(ch_no (c := c) (.inr hf)).1, (ch_no (.inr hf)).2]
      rw [hf] at CF
      have C2 := Lib.hid CF
      clear h CX CF hx hf
      go_enter Tryz.func73, Tryz.ntmps73
      go_wp2_with fail
      refine (C1.out _ (HI.out.below (below_x1 _ _))).mono ?_
      rintro e w1 ⟨rfl, rfl⟩
      go_wp2_with fail
      refine (C2.out _).mono ?_
      rintro e w2 ⟨rfl, hb⟩
      have B2 := Lib.hid (below_new hb)
      clear hb
      go_wp2
      go_ret2
      exact ⟨outO_nil _ _ _ _, B2.out⟩
    · rw [hf] at CF
      have C2 := Lib.hid CF
      have hB0 : chB cb xs k t = cb (lastN xs) k.toNat := by unfold chB; rw [hx, hf]; rfl
      obtain ⟨⟨q, hq, hq0, hq1⟩, _⟩ := Pl.okF_parts hf
      dsimp only at hq
      subst hq
      rw [Int.toNat_natCast] at hB0
      obtain ⟨ys, s, rfl, hs0, hs1, hyl, _⟩ := okO_snoc hx
      rw [lastN_snoc] at hB0
      have CC := Lib.hid (fun w => hC s q hs0 hs1 hq1 w)
      have HK := Lib.hid (fun u w' h => cloneI_any u (ys ++ [(s : Int)]) w' h (by simp) hn)
      have HV : Hid (chI c cb (ys ++ [(s : Int)]) (q : Int) t = if chB cb (ys ++ [(s : Int)]) (q : Int) t = true then ys ++ [((c s q : Nat) : Int)] else []) := by
        show _ = _
        unfold chI
        rw [lastN_snoc, List.dropLast_concat, Int.toNat_natCast]
      obtain ⟨zs, hzs⟩ : ∃ zs, zs = chI c cb (ys ++ [(s : Int)]) (q : Int) t := ⟨_, rfl⟩
      obtain ⟨b, hbe⟩ : ∃ b, b = chB cb (ys ++ [(s : Int)]) (q : Int) t := ⟨_, rfl⟩
      rw [← hzs, ← hbe] at HV ⊢
      rw [← hbe] at hB0
      rw [← hB0] at CC
      obtain ⟨r, hr⟩ : ∃ r, r = c s q := ⟨_, rfl⟩
      rw [← hr] at CC HV
      obtain ⟨bk, o, cap, rfl, hcap, hbk, hcell⟩ := h.block (by simp)
      have c0 := hcell ys.length (s : Int) (by simp)
      have hlen : (ys ++ [(s : Int)]).length = ys.length + 1 := by simp
      have HI2 : Hid (IntsAt w (.slice (some ⟨bk, o, none⟩) (ys.length + 1) cap) (ys ++ [(s : Int)])) := Lib.hid (by have := HI.out; rw [hlen] at this; exact this)
      rw [hlen] at hcap
      simp only [hlen] at C1 HK
      rw [hlen]
      have hsh := shl_i64' q (by omega)
      have hyl5 : ys.length ≤ 5 := hyl
      have BX := Lib.hid (below_x1 w (.cells #[.int .i64 (q : Int), .string t] 61))
      obtain ⟨p, hp⟩ : ∃ p, p = 2 ^ q := ⟨_, rfl⟩
      rw [← hp] at hsh CC
      obtain ⟨m, hmm⟩ : ∃ m, m = ys.length := ⟨_, rfl⟩
      have HMm := Lib.hid hmm
      rw [← hmm] at c0 hcap hyl HI2 C1 HK ⊢
      clear h HI CX CF hx hf hcell hlen hmm hp hzs hbe hB0 hr hC hn
      go_enter Tryz.func73, Tryz.ntmps73
      go_wp2_with fail
      refine (C1.out _ (HI2.out.below BX.out)).mono ?_
      rintro e w1 ⟨rfl, rfl⟩
      go_wp2_with fail
      refine (C2.out _).mono ?_
      rintro e W ⟨rfl, hb⟩
      have HBW := Lib.hid (below_new hb)
      have X2 := Lib.hid (BoxA.new hb)
      clear hb
      obtain ⟨_, q0, q1⟩ := X2.out
      have c1 : W.cell? ⟨bk, o + m, none⟩ = some (.int .i64 s) := (HBW.out.cell (p := ⟨bk, o + m, none⟩) hbk).trans c0
      have kc := cell_regrown c1
      have kq := cell_regrown q0
      clear c0
      go_wp2_with fail
      refine Mx.wp_region_mixed (Mx.ofL [(0, 0), (1, 0), (2, 0), (3, 0), (4, 1), (5, 0), (6, 1), (7, 0), (8, 3), (9, 0), (10, 0), (11, 0), (12, 0), (13, 0)] .done) (by kernel_rfl) (by kernel_rfl) ?_
      repeat ((first | refine Mx.mix0 rfl ?_ | refine Mx.mix1 rfl ?_); go_big_quiet_step (fail); refine wpQuiet_nil ?_)
      refine Mx.mix3 rfl ?_
      go_wp2_with fail
      refine (show Calls _ fn #[.int .i64 s, .int .i64 (p : Int)] _ _ from CC.out _).mono ?_
      rintro e w3 ⟨rfl, rfl⟩
      go_wp2
      refine Mx.mid_normal (fun q => by cases q) ?_
      repeat ((first | refine Mx.mix0 rfl ?_ | refine Mx.mix1 rfl ?_); go_big_quiet_step (fail); refine wpQuiet_nil ?_)
      refine Mx.mix_nil ?_
      have HBD : Hid (Below w.heap.size w W.drew) := Lib.hid (below_drewF HBW.out 1)
      cases b
      · rw [if_neg (by simp)] at HV
        go_wp2
        go_ret2
        rw [HV.out]
        exact ⟨outO_nil _ _ _ _, HBD.out⟩
      · rw [if_pos rfl] at HV
        clear kc kq q0 q1 c1 X2
        go_wp2_with fail
        refine (HK.out _ _ (HI2.out.below HBD.out)).mono ?_
        rintro e w4 ⟨⟨u, rfl, hu⟩, hb⟩
        have HB4 := Lib.hid (HBD.out.trans (hb.mono HBD.out.size))
        rcases hu with ⟨h0, _⟩ | ⟨g, gc, rfl, hgc, hgb, _, hgl, hgcell, hgf⟩
        · omega
        have HL4 := Lib.hid (fun y => OwnInts.last (base := w.heap.size) (w := w4) (g := g) (cap := gc) (ys := ys) (x := (s : Int)) (by rw [← HMm.out]; exact hgc) (Nat.le_trans HBD.out.size hgb) hgl (by rw [← HMm.out]; exact hgcell) hgf y)
        have HB5 := Lib.hid (fun y => HB4.out.setCell (p := ⟨g, m, none⟩) (Nat.le_trans HBD.out.size hgb) (.int .i64 y))
        have hg1 := hgcell m (by omega)
        have hg2 := hgf m
        rw [← HMm.out] at HL4
        clear hb hgcell hgf
        go_wp2
        go_ret2
        rw [HV.out]
        exact ⟨⟨_, rfl, HL4.out _⟩, HB5.out _⟩
theorem Unfold_any (v : Value) (xs : List Int) (k : Int) (t : ByteArray) (w : World) (h : IntsM w v xs) (hn : xs.length ≤ 2097152) (ht : t.size ≤ 1048576) :
    Calls Tryz.prog 31 #[v, atV k t] w fun e w' => OutO w.heap.size w' (unfI xs k t) (unfB xs k t) e ∧ Below w.heap.size w w' := by
  have cc := fun w' h => changeLast_any 74 (fun args w => by first | rfl | kernel_rfl) (fun s q => if s.testBit q then s - 2 ^ q else s) (fun s q => s.testBit q && !decide (s = 2 ^ q)) (fun s q h0 h1 h2 w => withoutKey_any s q h0 h1 h2 w) v xs k t w' h hn ht
  have hB : chB (fun s q => s.testBit q && !decide (s = 2 ^ q)) xs k t = unfB xs k t := rfl
  have hI : chI (fun s q => if s.testBit q then s - 2 ^ q else s) (fun s q => s.testBit q && !decide (s = 2 ^ q)) xs k t = unfI xs k t := by
    unfold chI unfI
    rw [hB]
    by_cases hb : unfB xs k t = true
    · rw [if_pos hb, if_pos hb]
      have : (lastN xs).testBit k.toNat = true := by
        unfold unfB un0B at hb
        simp only [Bool.and_eq_true] at hb
        exact hb.2.1
      simp only [this, if_true]
    · rw [if_neg hb, if_neg hb]
  rw [hB, hI] at cc
  have C := Lib.hid cc
  unfold OutO at C ⊢
  obtain ⟨a, cap, rfl, hcap, _⟩ := h.at.cells
  have HI := Lib.hid h.at
  clear cc hB hI h
  go_enter Tryz.func31, Tryz.ntmps31
  go_wp2_with fail
  refine (C.out _ (HI.out.below (below_x1 _ _))).mono ?_
  rintro e w1 ⟨⟨u, rfl, hu⟩, hb⟩
  have HB := Lib.hid (below_new hb)
  have HU : Hid (OwnInts w1 w.heap.size u (unfI xs k t).length (fun j => (unfI xs k t).getD j 0)) := Lib.hid (ownI_mono hu (by simp))
  clear hb hu
  go_wp2
  go_ret2
  exact ⟨⟨_, rfl, HU.out⟩, HB.out⟩
theorem FoldInto_any (v : Value) (xs : List Int) (k : Int) (t : ByteArray) (w : World) (h : IntsM w v xs) (hn : xs.length ≤ 2097152) (ht : t.size ≤ 1048576) :
    Calls Tryz.prog 63 #[v, atV k t] w fun e w' => OutO w.heap.size w' (intI xs k t) (intB xs k t) e ∧ Below w.heap.size w w' := by
  have cc := fun w' h => changeLast_any 94 (fun args w => by first | rfl | kernel_rfl) (fun s q => s ||| 2 ^ q) (fun s q => !s.testBit q) (fun s q h0 h1 h2 w => withKey_any s q h0 h1 h2 w) v xs k t w' h hn ht
  have hB : chB (fun s q => !s.testBit q) xs k t = intB xs k t := rfl
  have hI : chI (fun s q => s ||| 2 ^ q) (fun s q => !s.testBit q) xs k t = intI xs k t := by
    unfold chI intI
    rw [hB]
    by_cases hb : intB xs k t = true
    · rw [if_pos hb, if_pos hb]
      unfold intB at hb
      simp only [Bool.and_eq_true, Bool.not_eq_true'] at hb
      obtain ⟨⟨h1, h2⟩, h3⟩ := hb
      obtain ⟨⟨q, hq, hq0, hq1⟩, _⟩ := Pl.okF_parts h2
      dsimp only at hq
      subst hq
      obtain ⟨ys, s, rfl, hs0, hs1, _⟩ := okO_snoc h1
      rw [lastN_snoc, Int.toNat_natCast] at *
      dsimp only
      rw [Pl.or_two (by omega) (by omega) h3]
    · rw [if_neg hb, if_neg hb]
  rw [hB, hI] at cc
  have C := Lib.hid cc
  unfold OutO at C ⊢
  obtain ⟨a, cap, rfl, hcap, _⟩ := h.at.cells
  have HI := Lib.hid h.at
  clear cc hB hI h
  go_enter Tryz.func63, Tryz.ntmps63
  go_wp2_with fail
  refine (C.out _ (HI.out.below (below_x1 _ _))).mono ?_
  rintro e w1 ⟨⟨u, rfl, hu⟩, hb⟩
  have HB := Lib.hid (below_new hb)
  have HU : Hid (OwnInts w1 w.heap.size u (intI xs k t).length (fun j => (intI xs k t).getD j 0)) := Lib.hid (ownI_mono hu (by simp))
  clear hb hu
  go_wp2
  go_ret2
  exact ⟨⟨_, rfl, HU.out⟩, HB.out⟩
end Go.Proofs.YtjmiackiikbodaaGreat
