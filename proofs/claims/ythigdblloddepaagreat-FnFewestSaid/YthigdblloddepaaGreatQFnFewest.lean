/-
  laws.FnFewest returns true whatever the code: FewestPieces is a segmentation with no more untranslated pieces than longest match, and with no more pieces if it has equally many of them, at all that the code draws. Conditions: none but the row's own.
-/
import Derived.Test.YthigdblloddepaaGreatG2FnFewest
import Derived.Test.YthigdblloddepaaGreatG1FnFewest
import Derived.Test.YthigdblloddepaaGreatShelf
import Derived.Lib.AppendZeros
import Derived.Test.YthigdblloddepaaGreatDrawR
import Derived.Test.YthigdblloddepaaGreatMix
import Derived.Test.YthigdblloddepaaGreatRows
import Derived.WalkKit
import Derived.ProofKit
import Derived.OpenShut
import Derived.ShutString
import Derived.ChangeOld
import Derived.Below
import Derived.SliceStrings
import Derived.JoinedCond
import Derived.Deep.DeepHandedRow
import Derived.Deep.DeepWitnessRowRef
import Derived.Lib.Hide
import Derived.Test.YthigdblloddepaaGreatBig
namespace Go.Proofs.YthigdblloddepaaGreat
set_option maxRecDepth 100000
open Go.RowKit

/-- A slice of pieces: nil, or in a block. -/
def PcsM (w : World) (v : Value) (es : List Pc) : Prop :=
  (v = .slice none 0 0 ∧ es = []) ∨ ∃ bk o cap, v = .slice (some ⟨bk, o, none⟩) es.length cap ∧ es.length ≤ cap ∧ bk < w.heap.size ∧ ∀ (j : Nat) e, es[j]? = some e →
    w.cell? ⟨bk, o + j * 3, none⟩ = some (.int .i64 e.1) ∧ w.cell? ⟨bk, o + j * 3 + 1, none⟩ = some (.int .i64 e.2.1) ∧ w.cell? ⟨bk, o + j * 3 + 2, none⟩ = some (.string e.2.2)
theorem PcsM.below {w w' : World} {v : Value} {es : List Pc} (h : PcsM w v es) (hb : Below w.heap.size w w') : PcsM w' v es := by
  rcases h with h | ⟨bk, o, cap, hv, hc, hk, h⟩
  · exact .inl h
  · refine .inr ⟨bk, o, cap, hv, hc, Nat.lt_of_lt_of_le hk hb.size, fun j e he => ?_⟩
    obtain ⟨h0, h1, h2⟩ := h j e he
    exact ⟨(hb.cell (p := ⟨bk, o + j * 3, none⟩) hk).trans h0, (hb.cell (p := ⟨bk, o + j * 3 + 1, none⟩) hk).trans h1, (hb.cell (p := ⟨bk, o + j * 3 + 2, none⟩) hk).trans h2⟩
theorem PcsM.at {w : World} {v : Value} {es : List Pc} (h : PcsM w v es) : PcsAt w v es := by
  rcases h with ⟨rfl, rfl⟩ | ⟨bk, o, cap, hv, hc, hk, h⟩
  · exact PcsAt.nil _ _ _
  · exact ⟨_, cap, hv, hc, .inr ⟨bk, o, rfl, hk, h⟩⟩
theorem PcsM.slice {w : World} {v : Value} {es : List Pc} (h : PcsM w v es) : ∃ a cap, v = .slice a es.length cap ∧ es.length ≤ cap := by
  rcases h with ⟨rfl, rfl⟩ | ⟨bk, o, cap, hv, hc, _⟩
  · exact ⟨none, 0, rfl, Nat.le_refl _⟩
  · exact ⟨_, cap, hv, hc⟩
theorem ownP_m {w : World} {base : Nat} {v : Value} {ls : List Pc} (h : OwnP w base v ls) : PcsM w v ls := by
  rcases h.2 with ⟨rfl, h0⟩ | ⟨g, cap, cur, rfl, hb, hg, hn, _, hsz, htake⟩
  · exact .inl ⟨rfl, List.length_eq_zero_iff.1 h0⟩
  · have hlt : g < w.heap.size := (Array.getElem?_eq_some_iff.1 hg).1
    refine .inr ⟨g, 0, cap, rfl, hn, hlt, fun j e he => ?_⟩
    obtain ⟨h0, h1, h2⟩ := pcCells_at ls j e he
    have hc : ∀ q x, (pcCells ls)[q]? = some x → w.cell? ⟨g, q, none⟩ = some x := by
      intro q x hq
      have hql : q < ls.length * 3 := by
        rcases Nat.lt_or_ge q (ls.length * 3) with h' | h'
        · exact h'
        · rw [List.getElem?_eq_none (by rw [pcCells_len]; exact h')] at hq; cases hq
      rw [← htake, List.getElem?_take_of_lt hql] at hq
      simp only [Array.getElem?_toList] at hq
      simp [World.cell?, hg, hq]
    rw [Nat.zero_add]
    exact ⟨hc _ _ h0, hc _ _ h1, hc _ _ h2⟩
/-- Pieces appended to an own row: 'append(l, s...)'. -/
theorem app_pcs {ops : Array Oper} {rest : List Oper} {o : Oper} {a : Act} {w : World} {Q : Exit → Act → World → Prop}
    (hgd : o.guard = none) (p q : Operand) (ho : o.op = .call { callee := .builtin .append, args := #[p, q], argTypes := #[30, 30] }) (base : Nat) (v : Value) (ls : List Pc) (hs : a.eval p = v) (hown : OwnP w base v ls)
    (u : Value) (es : List Pc) (hq : a.eval q = u) (hu : PcsM w u es) (hb : base ≤ w.heap.size) (h1 : ls.length ≤ 4194304) (h2 : es.length ≤ 4194304)
    (h : ∀ v' w', OwnP w' base v' (ls ++ es) → w.grownBy w' v.ownBlock → wpList Tryz.prog ops Q rest (a.put o.dst v') w') : wpList Tryz.prog ops Q (o :: rest) a w := by
  obtain ⟨i0, hi, hz0, hz1, hz2⟩ := info_parts infoPc
  rcases hu with ⟨rfl, rfl⟩ | ⟨bk, off, cap, rfl, hc, hk, hcell⟩
  · refine wpList_append_own_none hgd p q 30 ho base 37 i0 3 Tryz.underlying30 hi v ls.length _ hs hown hq (h v w ?_ ⟨rfl, rfl, rfl, Nat.le_refl _, fun _ _ _ => rfl⟩)
    rw [List.append_nil]; exact hown
  · refine wpList_append_own _ hgd p q 30 ho base 37 i0 (.agg #[.int .i64 0, .int .i64 0, .string ByteArray.empty]) 3 32 Tryz.underlying30 hi hz0 hz1 hz2 rfl (by decide) v ls.length _ hs hown ⟨bk, off, none⟩ es.length cap (pcCells es) hq (pcCells_len es) ?_ (pcCells_one es) (by unfold maxLen; omega) (by omega) hb ?_
    · intro j x hx
      rw [Addr.add_lit]
      have hjl : j < es.length * 3 := by
        rcases Nat.lt_or_ge j (es.length * 3) with h' | h'
        · exact h'
        · rw [List.getElem?_eq_none (by rw [pcCells_len]; exact h')] at hx; cases hx
      obtain ⟨e, he⟩ : ∃ e, es[j / 3]? = some e := ⟨_, List.getElem?_eq_getElem (by omega)⟩
      obtain ⟨c0, c1, c2⟩ := hcell (j / 3) e he
      obtain ⟨d0, d1, d2⟩ := pcCells_at es (j / 3) e he
      have h3 : j % 3 = 0 ∨ j % 3 = 1 ∨ j % 3 = 2 := by omega
      rcases h3 with h3 | h3 | h3
      · have e1 : j = j / 3 * 3 := by omega
        rw [e1] at hx ⊢; rw [d0] at hx; rw [← Option.some.inj hx]; exact c0
      · have e1 : j = j / 3 * 3 + 1 := by omega
        rw [e1] at hx ⊢; rw [d1] at hx; rw [← Option.some.inj hx]; exact c1
      · have e1 : j = j / 3 * 3 + 2 := by omega
        rw [e1] at hx ⊢; rw [d2] at hx; rw [← Option.some.inj hx]; exact c2
    · intro v' w' hown' hg _
      refine h v' w' ?_ hg
      show World.ownsRow _ _ _ _ _ _ _
      rw [pcCells_app, List.length_append]; exact hown'
set_option maxHeartbeats 1000000 in
theorem GrowPc_any (N : Nat) (w : World) (hN : N ≤ 1000) :
    Calls Tryz.prog 80 #[.slice none 0 0, .int .i64 (N : Int)] w fun r w' => (∃ y, r = .returned y ∧ OwnP w' w.heap.size y []) ∧ Below w.heap.size w w' := by
  rcases Nat.eq_zero_or_pos N with rfl | h0
  · go_enter Tryz.func80, Tryz.ntmps80
    go_wp2
    go_ret
    exact ⟨⟨_, rfl, ownP_nil _ _⟩, Below.refl _ _⟩
  · obtain ⟨i0, hi, hz0, hz1, hz2⟩ := info_parts infoPc
    have hr := fun ty => Lib.run_append_nil_zeros (P := Tryz.prog) w 30 3 ty 37 i0 _ .i64 .i64 Tryz.underlying30 Tryz.underlying3 hi hz0 N h0 (by rw [hz1]; decide) (by omega) (by rw [hz2]; omega)
    have hge := grownCap_ge w N 0 37
    have hle := grownCap_le_maxLen w N 0 37 (by unfold maxLen; omega)
    obtain ⟨G, hG⟩ : ∃ G, G = grownCap w N 0 37 := ⟨_, rfl⟩
    rw [← hG] at hr hge hle
    obtain ⟨C, hC⟩ : ∃ C : Array Value, C = Builtin.zeroCells (Value.agg #[.int .i64 0, .int .i64 0, .string ByteArray.empty]).cells N ++ Builtin.zeroCells (Value.agg #[.int .i64 0, .int .i64 0, .string ByteArray.empty]).cells (G - N) := ⟨_, rfl⟩
    rw [← hC] at hr
    have hCs : C.size = G * 3 := by
      rw [hC]
      simp only [Array.size_append, size_zeroCells]
      show N * 3 + (G - N) * 3 = G * 3
      omega
    have HO : Hid (OwnP (w.drew.alloc (.cells C 37)) w.heap.size (.slice (some ⟨w.heap.size, 0, none⟩) 0 G) []) := by
      refine ⟨rfl, .inr ⟨w.heap.size, G, C, rfl, Nat.le_refl _, ?_, Nat.zero_le _, hle, hCs, rfl⟩⟩
      have := heap_alloc_new w.drew (.cells C 37)
      exact this
    have HB : Hid (Below w.heap.size w (w.drew.alloc (.cells C 37))) := below_step (below_drewN (Below.refl _ _) 1) (below_al _ _)
    have hNp : (0 : Int) < (N : Int) := by omega
    have hGz : (0 : Int) ≤ (G : Int) := by omega
    unfold maxLen at hle
    clear hG hC hCs
    go_enter Tryz.func80, Tryz.ntmps80
    go_wp2_with (at_builtin; refine Lib.wpList_append_run _ rfl _ _ _ _ rfl _ _ rfl rfl _ _ (hr _) ?_)
    go_ret
    exact ⟨⟨_, rfl, HO.out⟩, HB.out⟩
theorem OrI_any (v : Value) (x y : Int) (w : World) (h : IntsAt w v [x, y]) :
    Calls Tryz.prog 81 #[v] w fun r w' => r = .returned (.int .i64 (if x = 0 then y else x)) ∧ w = w' := by
  obtain ⟨bk, o, cap, rfl, hcap, hbk, hC⟩ := ints_block h (by simp)
  have c0 := hC 0 x rfl
  have c1 := hC 1 y rfl
  have hlen : ([x, y] : List Int).length = 2 := rfl
  rw [hlen] at hcap ⊢
  clear hC h hlen
  rw [Nat.add_zero] at c0
  by_cases hx : x = 0
  · rw [if_pos hx]
    subst hx
    by_cases hy : y = 0
    · subst hy
      go_enter Tryz.func81, Tryz.ntmps81
      go_wp2_with fail
      refine wp_loop_rounds 3 ?_
      rw [rounds_succ]
      go_wp2
      rw [rounds_succ]
      go_wp2
      rw [rounds_succ]
      go_wp2
      go_ret
      exact ⟨rfl, rfl⟩
    · go_enter Tryz.func81, Tryz.ntmps81
      go_wp2_with fail
      refine wp_loop_rounds 2 ?_
      rw [rounds_succ]
      go_wp2
      rw [rounds_succ]
      go_wp2
      go_ret
      exact ⟨rfl, rfl⟩
  · rw [if_neg hx]
    go_enter Tryz.func81, Tryz.ntmps81
    go_wp2_with fail
    refine wp_loop_rounds 1 ?_
    rw [rounds_succ]
    go_wp2
    go_ret
    exact ⟨rfl, rfl⟩
theorem or_lt {a b : List Pc} (ha : a.length ≤ 60) (hb : b.length ≤ 60) : ((if Lib.compareInt (Pl.untr a : Int) (Pl.untr b : Int) = 0 then Lib.compareInt (a.length : Int) (b.length : Int) else Lib.compareInt (Pl.untr a : Int) (Pl.untr b : Int)) < 0 ↔ Pl.costL a < Pl.costL b) := by
  rw [Pl.cost_lt ha hb]
  unfold Lib.compareInt
  by_cases h1 : (Pl.untr a : Int) < (Pl.untr b : Int)
  · simp only [if_pos h1]; constructor
    · intro _; left; omega
    · intro _; rw [if_neg (by decide)]; decide
  · by_cases h2 : (Pl.untr a : Int) > (Pl.untr b : Int)
    · simp only [if_neg h1, if_pos h2]; constructor
      · intro h; simp at h
      · intro h; omega
    · simp only [if_neg h1, if_neg h2, if_true]
      by_cases h3 : (a.length : Int) < (b.length : Int)
      · rw [if_pos h3]; constructor
        · intro _; right; omega
        · intro _; decide
      · rw [if_neg h3]; constructor
        · intro h; split at h <;> simp at h
        · intro h; omega
set_option maxHeartbeats 1000000 in
theorem compareCosts_any (v u : Value) (a b : List Pc) (w : World) (hv : PcsAt w v a) (hu : PcsAt w u b) (ha : a.length ≤ 60) (hb : b.length ≤ 60) :
    Calls Tryz.prog 46 #[v, u] w fun r w' => (∃ c : Int, r = .returned (.int .i64 c) ∧ (c < 0 ↔ Pl.costL a < Pl.costL b)) ∧ Below w.heap.size w w' := by
  have C1 := Lib.hid (fun w' hb => CountUntranslated_any v a w' (hv.below (w' := w') hb) (by omega))
  have C2 := Lib.hid (fun w' hb' => CountUntranslated_any u b w' (hu.below (w' := w') hb') (by omega))
  have CC := Lib.hid (fun x y w => Tryz.cmp_Compare_int x y w)
  have HO := Lib.hid (or_lt ha hb)
  obtain ⟨va, vc, rfl, hvc, _⟩ := pc_cells hv
  obtain ⟨ub, uc, rfl, huc, _⟩ := pc_cells hu
  obtain ⟨n, hnn⟩ : ∃ n, n = a.length := ⟨_, rfl⟩
  obtain ⟨m, hmm⟩ : ∃ n, n = b.length := ⟨_, rfl⟩
  obtain ⟨x, hx⟩ : ∃ n, n = Pl.untr a := ⟨_, rfl⟩
  obtain ⟨y, hy⟩ : ∃ n, n = Pl.untr b := ⟨_, rfl⟩
  rw [← hx, ← hy, ← hnn, ← hmm] at HO
  rw [← hnn] at C1 ha hvc ⊢
  rw [← hmm] at C2 hb huc ⊢
  rw [← hx] at C1
  rw [← hy] at C2
  obtain ⟨Q, hQ⟩ : ∃ Q : Prop, Q = (Pl.costL a < Pl.costL b) := ⟨_, rfl⟩
  rw [← hQ] at HO ⊢
  obtain ⟨p, hp⟩ : ∃ p : Int, p = Lib.compareInt (x : Int) (y : Int) := ⟨_, rfl⟩
  obtain ⟨q, hq⟩ : ∃ p : Int, p = Lib.compareInt (n : Int) (m : Int) := ⟨_, rfl⟩
  have CP := Lib.hid (fun w => CC.out (x : Int) (y : Int) w)
  have CQ := Lib.hid (fun w => CC.out (n : Int) (m : Int) w)
  rw [← hp] at CP HO
  rw [← hq] at CQ HO
  obtain ⟨Z, hZ⟩ : ∃ Z : Int, Z = (if p = 0 then q else p) := ⟨_, rfl⟩
  have co := fun w v h => OrI_any v p q w h
  simp only [← hZ] at co
  rw [← hZ] at HO
  have CO := Lib.hid co
  clear hv hu hnn hmm hx hy hQ hp hq CC co hZ
  go_enter Tryz.func46, Tryz.ntmps46
  go_wp2_with fail
  refine (C1.out w (Below.refl _ _)).mono ?_
  rintro r w1 ⟨rfl, hb1⟩
  have B1 := Lib.hid hb1
  clear hb1
  go_wp2_with fail
  refine (C2.out w1 B1.out).mono ?_
  rintro r w2 ⟨rfl, hb2⟩
  have B2 := Lib.hid (below_step B1.out hb2)
  clear hb2
  go_wp2_with fail
  refine (CP.out _).mono ?_
  rintro r w3 ⟨rfl, rfl⟩
  go_wp2_with fail
  refine (CQ.out _).mono ?_
  rintro r w4 ⟨rfl, rfl⟩
  have HI : Hid (IntsAt (w4.alloc (.cells #[.int .i64 p, .int .i64 q] 3)) (.slice (some ⟨w4.heap.size, 0, none⟩) 2 2) [p, q]) := by
    refine ⟨_, 2, rfl, Nat.le_refl _, .inr ⟨w4.heap.size, 0, rfl, by simp, fun j z hz => ?_⟩⟩
    match j, hz with
    | 0, hz => simp at hz; subst hz; rw [World.cell?_alloc_at _ _ _ _ rfl]; rfl
    | 1, hz => simp at hz; subst hz; rw [World.cell?_alloc_at _ _ _ _ rfl]; rfl
    | j + 2, hz => simp at hz
  have B4 := Lib.hid (below_step B2.out (below_al w4 (.cells #[.int .i64 p, .int .i64 q] 3)))
  go_wp2_with fail
  refine (CO.out _ _ HI.out).mono ?_
  rintro r w5 ⟨rfl, rfl⟩
  go_wp2
  go_ret
  exact ⟨⟨_, rfl, HO.out⟩, B4.out⟩
/-- A slice of slices of pieces: each with its value and its pieces. -/
def SlAt (w : World) (v : Value) (us : List (Value × List Pc)) : Prop :=
  (∃ (a : Option Addr) (cap : Nat), v = .slice a us.length cap ∧ us.length ≤ cap ∧ (us = [] ∨ ∃ bk o, a = some ⟨bk, o, none⟩ ∧ bk < w.heap.size ∧ ∀ (j : Nat) p, us[j]? = some p → w.cell? ⟨bk, o + j, none⟩ = some p.1)) ∧ ∀ p ∈ us, PcsM w p.1 p.2
theorem SlAt.cells {w : World} {v : Value} {us : List (Value × List Pc)} (h : SlAt w v us) : ∃ a cap, v = .slice a us.length cap ∧ us.length ≤ cap ∧ ∀ w', Below w.heap.size w w' → ∀ (j : Nat) p, us[j]? = some p → ∃ bk o, a = some ⟨bk, o, none⟩ ∧ w'.cell? ⟨bk, o + j, none⟩ = some p.1 ∧ PcsM w' p.1 p.2 := by
  obtain ⟨⟨a, cap, rfl, hc, hl⟩, hp⟩ := h
  refine ⟨a, cap, rfl, hc, fun w' hb j p hj => ?_⟩
  have hm := (hp p (List.mem_of_getElem? hj)).below hb
  rcases hl with rfl | ⟨bk, o, ha, hk, h⟩
  · simp at hj
  · exact ⟨bk, o, ha, (hb.cell (p := ⟨bk, o + j, none⟩) hk).trans (h j p hj), hm⟩
def flatU (us : List (Value × List Pc)) : List Pc := us.flatMap (·.2)
theorem flatU_next {us : List (Value × List Pc)} {k : Nat} {p : Value × List Pc} (h : us[k]? = some p) : flatU (us.take (k + 1)) = flatU (us.take k) ++ p.2 := by
  unfold flatU; rw [List.take_add_one, h]; simp
theorem flatU_take (us : List (Value × List Pc)) (k : Nat) : (flatU (us.take k)).length ≤ (flatU us).length := by
  unfold flatU
  conv => rhs; rw [← List.take_append_drop k us]
  rw [List.flatMap_append, List.length_append]; omega
set_option maxHeartbeats 2000000 in
theorem ConcatPc_any (v : Value) (us : List (Value × List Pc)) (w : World) (h : SlAt w v us) (hn : us.length ≤ 10) (hl : (flatU us).length ≤ 1000) :
    Calls Tryz.prog 44 #[v] w fun r w' => (∃ y, r = .returned y ∧ OwnP w' w.heap.size y (flatU us)) ∧ Below w.heap.size w w' := by
  obtain ⟨a, cap, rfl, hcap, hC⟩ := h.cells
  have HC := Lib.hid hC
  have HNx := Lib.hid (fun k p (h : us[k]? = some p) => flatU_next h)
  have HLe := Lib.hid (fun k => Nat.le_trans (flatU_take us k) hl)
  obtain ⟨n, hnn⟩ : ∃ n, n = us.length := ⟨_, rfl⟩
  have HE : Hid (flatU (us.take n) = flatU us) := by show _ = _; rw [hnn, List.take_length]
  have HN := Lib.hid hnn
  rw [← hnn] at hn hcap ⊢
  obtain ⟨F, hF⟩ : ∃ F : Nat → List Pc, F = fun k => flatU (us.take k) := ⟨_, rfl⟩
  have HNx' : Hid (∀ k p, us[k]? = some p → F (k + 1) = F k ++ p.2) := by rw [hF]; exact HNx.out
  have HLe' : Hid (∀ k, (F k).length ≤ 1000) := by rw [hF]; exact HLe.out
  have HE' : Hid (F n = flatU us) := by rw [hF]; exact HE.out
  have HF0 : Hid (F 0 = []) := by rw [hF]; rfl
  rw [← HE'.out]
  clear h hC hnn hl HNx HLe HE hF
  have CG := Lib.hid (fun N w hN => GrowPc_any N w hN)
  go_enter Tryz.func44, Tryz.ntmps44
  go_wp2_with fail
  go_loopw [3, 11] (fun z i wr => ∃ k : Nat, i = .int .i64 k ∧ k ≤ n ∧ z = .int .i64 ((F k).length : Int) ∧ w = wr) (fun _ i _ => n - (intOf i).toNat)
  case atStart => exact ⟨0, rfl, Nat.zero_le _, by rw [HF0.out]; rfl, rfl⟩
  case round =>
    obtain ⟨k, rfl, hk, rfl, rfl⟩ := hrel
    by_cases hlt : k < n
    · obtain ⟨p, hp⟩ : ∃ p, us[k]? = some p := ⟨_, List.getElem?_eq_getElem (by rw [← HN.out]; exact hlt)⟩
      obtain ⟨bk, o, rfl, g0, hm⟩ := HC.out w (Below.refl _ _) k p hp
      have hnx := HNx'.out k p hp
      have hle := HLe'.out k
      have hle1 := HLe'.out (k + 1)
      obtain ⟨x, es⟩ := p
      obtain ⟨xa, xc, hxe, hxc⟩ := hm.slice
      dsimp only at hxe
      subst hxe
      have hlen := congrArg List.length hnx
      rw [List.length_append] at hlen
      dsimp only at g0 hlen
      have HLn := Lib.hid hlen
      obtain ⟨A, hA⟩ : ∃ A, A = (F k).length := ⟨_, rfl⟩
      obtain ⟨B, hB⟩ : ∃ B, B = es.length := ⟨_, rfl⟩
      have HLn2 : Hid ((F (k + 1)).length = A + B) := by rw [hA, hB]; exact hlen
      have hAB : A + B ≤ 1000 := by have := HLn2.out; omega
      rw [← hA] at hle ⊢
      rw [← hB] at g0
      have hneg : ¬ (A : Int) + (B : Int) < 0 := by omega
      clear hp hnx hlen HLn hA hB hm HC HNx' HE' hle1 hxc
      go_wp2
      go_roundw
      case rel => exact ⟨k + 1, by go_num, by omega, by rw [HLn2.out]; go_num, by trivial⟩
      case measure => simp [intOf]; omega
    · obtain rfl : k = n := by omega
      have hle := HLe'.out k
      obtain ⟨A, hA⟩ : ∃ A, A = (F k).length := ⟨_, rfl⟩
      rw [← hA] at hle ⊢
      have CG1 := Lib.hid (CG.out A w hle)
      clear hA CG
      go_wp2_with fail
      refine CG1.out.mono ?_
      rintro r w1 ⟨⟨y, rfl, hy⟩, hb⟩
      have O1 : Hid (OwnP w1 w.heap.size y (F 0)) := by rw [HF0.out]; exact hy
      have B1 := Lib.hid hb
      clear hy hb CG1 HF0
      go_wp2_with fail
      go_loopw [6, 27] (fun y i wq => ∃ q : Nat, i = .int .i64 q ∧ q ≤ k ∧ Hid (OwnP wq w.heap.size y (F q)) ∧ Hid (Below w.heap.size w wq)) (fun _ i _ => k - (intOf i).toNat)
      case atStart => exact ⟨0, rfl, Nat.zero_le _, O1, B1⟩
      case round =>
        obtain ⟨q, rfl, hq, HO, HB⟩ := hrel
        by_cases hqk : q < k
        · obtain ⟨p, hp⟩ : ∃ p, us[q]? = some p := ⟨_, List.getElem?_eq_getElem (by rw [← HN.out]; exact hqk)⟩
          obtain ⟨bk, o, rfl, g0, hm⟩ := HC.out wr HB.out q p hp
          have hnx := HNx'.out q p hp
          have hle1 := HLe'.out (q + 1)
          have hle0 := HLe'.out q
          obtain ⟨x, es⟩ := p
          dsimp only at g0 hm hnx
          rw [hnx, List.length_append] at hle1
          have HM := Lib.hid hm
          have HX := Lib.hid hnx
          have hs : w.heap.size ≤ wr.heap.size := HB.out.size
          clear hp hnx hm HC HNx' HE' O1 B1
          go_wp2_with (at_builtin; refine app_pcs rfl _ _ rfl w.heap.size _ (F q) rfl HO.out x es rfl HM.out hs (by omega) (by omega) ?_)
          intro v' w3 hown hg
          have O3 : Hid (OwnP w3 w.heap.size v' (F (q + 1))) := by rw [HX.out]; exact hown
          have B3 := Lib.hid (HB.out.grown hg hs (fun j hj => row_ge HO.out hj))
          clear hown hg HO HB HM HX
          go_wp2
          go_roundw
          case rel => exact ⟨q + 1, by go_num, by omega, O3, B3⟩
          case measure => simp [intOf]; omega
        · obtain rfl : q = k := by omega
          clear HC HNx' HE' O1 B1
          go_wp2
          go_ret
          exact ⟨⟨_, rfl, HO.out⟩, HB.out⟩
theorem callCC (args : Array Value) (w : World) : (callFunc 46 args).run Tryz.prog w = .ok (.enter 46 args) w := by kernel_rfl
set_option maxHeartbeats 2000000 in
theorem MinPc_any (v : Value) (us : List (Value × List Pc)) (w : World) (h : SlAt w v us) (h0 : 0 < us.length) (hn : us.length ≤ 10) (hl : ∀ p ∈ us, p.2.length ≤ 60) :
    Calls Tryz.prog 45 #[v, .func (.func 46) #[] #[]] w fun r w' => (∃ p : Value × List Pc, r = .returned p.1 ∧ p ∈ us ∧ p.2 = Pl.minF (us.map (·.2))) ∧ Below w.heap.size w w' := by
  obtain ⟨a, cap, rfl, hcap, hC⟩ := h.cells
  have HC := Lib.hid hC
  have HL := Lib.hid hl
  obtain ⟨n, hnn⟩ : ∃ n, n = us.length := ⟨_, rfl⟩
  have HN := Lib.hid hnn
  rw [← hnn] at hn h0 hcap ⊢
  have HNx : Hid (∀ k p, 1 ≤ k → us[k]? = some p → Pl.minF ((us.map (·.2)).take (k + 1)) = if Pl.costL p.2 < Pl.costL (Pl.minF ((us.map (·.2)).take k)) then p.2 else Pl.minF ((us.map (·.2)).take k)) := by
    intro k p hk hp
    have hlt := (List.getElem?_eq_some_iff.1 hp).1
    rw [List.take_add_one, List.getElem?_map, hp]
    show Pl.minF (_ ++ [p.2]) = _
    rw [Pl.minF_snoc]
    intro e
    have := congrArg List.length e
    rw [List.length_take, List.length_map] at this
    have h2 : ([] : List (List Pc)).length = 0 := rfl
    omega
  have HEnd : Hid (Pl.minF ((us.map (·.2)).take n) = Pl.minF (us.map (·.2))) := by show _ = _; rw [hnn, List.take_of_length_le (by rw [List.length_map]; exact Nat.le_refl _)]
  have H1 : Hid (∀ p, us[0]? = some p → Pl.minF ((us.map (·.2)).take 1) = p.2) := by
    intro p hp
    rw [show (1 : Nat) = 0 + 1 from rfl, List.take_add_one, List.getElem?_map, hp]; rfl
  obtain ⟨M, hM⟩ : ∃ M : Nat → List Pc, M = fun k => Pl.minF ((us.map (·.2)).take k) := ⟨_, rfl⟩
  have HNx' : Hid (∀ k p, 1 ≤ k → us[k]? = some p → M (k + 1) = if Pl.costL p.2 < Pl.costL (M k) then p.2 else M k) := by rw [hM]; exact HNx.out
  have H1' : Hid (∀ p, us[0]? = some p → M 1 = p.2) := by rw [hM]; exact H1.out
  have HEnd' : Hid (M n = Pl.minF (us.map (·.2))) := by rw [hM]; exact HEnd.out
  rw [← HEnd'.out]
  clear h hC hnn hl HNx HEnd H1 hM
  have hcall := callCC
  obtain ⟨p0, hp0⟩ : ∃ p, us[0]? = some p := ⟨_, List.getElem?_eq_getElem (by rw [← HN.out]; exact h0)⟩
  obtain ⟨gk, go, rfl, g0, hm0⟩ := HC.out w (Below.refl _ _) 0 p0 hp0
  have HP0 := Lib.hid hp0
  have HM1 := Lib.hid (H1'.out p0 hp0)
  rw [Nat.add_zero] at g0
  have hn1 : ¬ (n : Int) < 1 := by omega
  clear hp0 hm0
  go_enter Tryz.func45, Tryz.ntmps45
  go_wp2_with fail
  go_loopw [5, 6] (fun m i wr => ∃ (k : Nat) (p : Value × List Pc) (j : Nat), i = .int .i64 k ∧ m = p.1 ∧ 1 ≤ k ∧ k ≤ n ∧ Hid (us[j]? = some p) ∧ Hid (p.2 = M k) ∧ Hid (Below w.heap.size w wr)) (fun _ i _ => n - (intOf i).toNat)
  case atStart => exact ⟨1, p0, 0, rfl, rfl, Nat.le_refl _, h0, HP0, HM1.out.symm, Below.refl _ _⟩
  case round =>
    obtain ⟨k, p, j, rfl, hpm, hk1, hk, HPj, HMk, HB⟩ := hrel
    by_cases hlt : k < n
    · obtain ⟨e, he⟩ : ∃ e, us[k]? = some e := ⟨_, List.getElem?_eq_getElem (by rw [← HN.out]; exact hlt)⟩
      obtain ⟨bk', o', hbo, g1, hm1⟩ := HC.out wr HB.out k e he
      have hm2 : PcsM wr p.1 p.2 := by
        obtain ⟨_, _, _, _, h⟩ := HC.out wr HB.out j p HPj.out
        exact h
      injection hbo with hbo
      injection hbo with hb1 hb2
      rw [← hb1, ← hb2] at g1
      clear hb1 hb2
      have hnx := HNx'.out k e hk1 he
      have hle := HL.out e (List.mem_of_getElem? he)
      have hlp := HL.out p (List.mem_of_getElem? HPj.out)
      have CCo := Lib.hid (compareCosts_any e.1 p.1 e.2 p.2 wr hm1.at hm2.at hle hlp)
      have HE := Lib.hid he
      rw [← HMk.out] at hnx
      have HX := Lib.hid hnx
      obtain ⟨ex, ees⟩ := e
      obtain ⟨px, pes⟩ := p
      dsimp only at g1 hpm CCo HX
      subst hpm
      clear he hnx hm1 hm2 HC HNx' H1' HEnd' HP0 HM1 g0 hle hlp
      go_wp2_with fail
      refine CCo.out.mono ?_
      rintro r w3 ⟨⟨c, rfl, hc⟩, hb⟩
      have B3 := Lib.hid (below_step HB.out hb)
      have g3 := (hb.cell (p := ⟨gk, go + k, none⟩) (lt_of_cell g1)).trans g1
      by_cases hc0 : c < 0
      · have HM2 : Hid (ees = M (k + 1)) := by show _ = _; rw [HX.out, if_pos (hc.1 hc0)]
        clear hb hc HX CCo HB g1
        go_wp2
        go_roundw
        case rel => exact ⟨k + 1, (ex, ees), k, by go_num, rfl, by omega, by omega, HE, HM2, B3⟩
        case measure => simp [intOf]; omega
      · have HM2 : Hid (pes = M (k + 1)) := by show _ = _; rw [HX.out, if_neg (fun h => hc0 (hc.2 h))]
        clear hb hc HX CCo HB g1
        go_wp2
        go_roundw
        case rel => exact ⟨k + 1, (_, pes), j, by go_num, rfl, by omega, by omega, HPj, HM2, B3⟩
        case measure => simp [intOf]; omega
    · obtain rfl : k = n := by omega
      obtain ⟨px, pes⟩ := p
      dsimp only at hpm HMk
      subst hpm
      have HPm := Lib.hid (List.mem_of_getElem? HPj.out)
      clear HC HNx' H1' HEnd' HP0 HM1 g0
      go_wp2
      go_ret
      exact ⟨⟨(_, pes), rfl, HPm.out, HMk.out⟩, HB.out⟩
end Go.Proofs.YthigdblloddepaaGreat

namespace Go.Proofs.YthigdblloddepaaGreat
set_option maxRecDepth 100000
open Go.RowKit

theorem infoSl : (Tryz.prog.info? 30).map (fun i => (i.zero, i.size, i.bytes)) = some (some (.slice none 0 0), 1, 24) := by kernel_rfl
/-- An own row of slices of pieces. -/
abbrev OwnSl (w : World) (base : Nat) (v : Value) (us : List (Value × List Pc)) : Prop := w.ownsRow base 30 1 v us.length (us.map (·.1))
theorem ownSl_at {w : World} {base : Nat} {v : Value} {us : List (Value × List Pc)} (h : OwnSl w base v us) (hp : ∀ p ∈ us, PcsM w p.1 p.2) : SlAt w v us := by
  refine ⟨?_, hp⟩
  rcases h.2 with ⟨rfl, h0⟩ | ⟨g, cap, cur, rfl, hb, hg, hn, _, hsz, htake⟩
  · exact ⟨none, 0, by rw [h0], by rw [h0]; exact Nat.le_refl _, .inl (List.length_eq_zero_iff.1 h0)⟩
  · have hlt : g < w.heap.size := (Array.getElem?_eq_some_iff.1 hg).1
    refine ⟨_, cap, rfl, hn, .inr ⟨g, 0, rfl, hlt, fun j p hj => ?_⟩⟩
    have hjl := (List.getElem?_eq_some_iff.1 hj).1
    have h1 : (cur.toList.take (us.length * 1))[j]? = some p.1 := by rw [htake, List.getElem?_map, hj]; rfl
    rw [List.getElem?_take_of_lt (by omega)] at h1
    simp only [Array.getElem?_toList] at h1
    rw [Nat.zero_add]
    simp [World.cell?, hg, h1]
theorem ownSl_lt {w : World} {base : Nat} {v : Value} {us : List (Value × List Pc)} (h : OwnSl w base v us) {j : Nat} (hj : v.ownBlock = some j) : j < w.heap.size := by
  rcases h.2 with ⟨rfl, _⟩ | ⟨g, cap, cur, rfl, _, hg, _⟩
  · simp [Value.ownBlock] at hj
  · have : g = j := by simpa [Value.ownBlock] using hj
    rw [← this]; exact (Array.getElem?_eq_some_iff.1 hg).1
/-- One slice appended to an own row of slices. -/
theorem push_sl {ops : Array Oper} {rest : List Oper} {o : Oper} {a : Act} {w : World} {Q : Exit → Act → World → Prop}
    (hgd : o.guard = none) (p q : Operand) (ho : o.op = .call { callee := .builtin .append, args := #[p, q], argTypes := #[83, 83] }) (base : Nat) (v : Value) (us : List (Value × List Pc)) (hs : a.eval p = v) (hown : OwnSl w base v us)
    (x : Value × List Pc) (h1c : x.1.oneCell' = true) (hq : a.eval q = .slice (some ⟨w.heap.size, 0, none⟩) 1 1) (hb : base ≤ w.heap.size) (h1 : us.length ≤ 4194304)
    (h : ∀ v' w', OwnSl w' base v' (us ++ [x]) → w.grownBy w' v.ownBlock → (v'.ownBlock = v.ownBlock ∨ v'.ownBlock = some (w.heap.size + 1)) → wpList Tryz.prog ops Q rest (a.put o.dst v') w') : wpList Tryz.prog ops Q (o :: rest) a (w.alloc (.cells #[x.1] 30)) := by
  obtain ⟨i0, hi, hz0, hz1, hz2⟩ := info_parts infoSl
  refine wpList_append_own_at _ hgd p q 83 ho base 30 i0 (.slice none 0 0) 1 24 Tryz.underlying83 hi hz0 hz1 hz2 rfl (by decide) v us.length _ hs (hown.alloc _) ⟨w.heap.size, 0, none⟩ 1 1 [x.1] hq rfl (cell_one_new _ _ _) ?_ (by unfold maxLen; omega) (by omega) (by simp; omega) ?_
  · intro y hy; simp at hy; subst hy; exact h1c
  · intro v' w' hown' hg _ hat
    refine h v' w' ?_ ⟨hg.os, hg.tape, hg.output, Nat.le_trans (by simp) hg.size, fun k hk hne => (hg.block k (by rw [World.size_alloc]; omega) hne).trans (Below.heap_alloc w _ k hk)⟩ ?_
    · show World.ownsRow _ _ _ _ _ _ _
      rw [List.length_append, List.map_append]; exact hown'
    · rcases hat with h2 | h2
      · exact .inl h2
      · exact .inr (by rw [h2, World.size_alloc])
/-- Block g holds N values, none frozen. -/
def RwV (w : World) (g N : Nat) (f : Nat → Value) : Prop := g < w.heap.size ∧ (∀ j, j < N → w.cell? ⟨g, j, none⟩ = some (f j)) ∧ ∀ j, w.frozen? ⟨g, j, none⟩ = false
theorem RwV.below {w w' : World} {g N : Nat} {f : Nat → Value} {B : Nat} (h : RwV w g N f) (hb : Below B w w') (hg : g < B) : RwV w' g N f :=
  ⟨Nat.lt_of_lt_of_le h.1 hb.size, fun j hj => (hb.cell (p := ⟨g, j, none⟩) hg).trans (h.2.1 j hj), fun j => (hb.frozen (p := ⟨g, j, none⟩) hg).trans (h.2.2 j)⟩
theorem RwV.set {w : World} {g N : Nat} {f : Nat → Value} (h : RwV w g N f) (k : Nat) (hk : k < N) (x : Value) : RwV (w.setCell ⟨g, k, none⟩ x) g N (fun j => if j = k then x else f j) := by
  refine ⟨by rw [World.size_setCell]; exact h.1, fun j hj => ?_, fun j => by rw [World.frozen?_setCell]; exact h.2.2 j⟩
  by_cases hjk : j = k
  · subst hjk; simp only [if_true]; exact World.cell?_setCell_same _ _ _ (h.2.1 j hj)
  · dsimp only
    rw [World.cell?_setCell_other _ _ _ _ (by intro e; injection e; omega), if_neg hjk]; exact h.2.1 j hj
theorem mk_sls (n : Nat) (hn : n ≤ 1000) (w : World) :
    (Instr.makeSlice 83 (.int .i64 ((n : Int) + 1)) (.int .i64 ((n : Int) + 1))).run Tryz.prog w = .ok (.slice (some ⟨w.heap.size, 0, none⟩) (n + 1) (n + 1)) (w.alloc (.cells (madeCells #[.slice none 0 0] (n + 1)) 30)) := by
  obtain ⟨i, hi, hzz⟩ := Option.map_eq_some_iff.1 infoSl
  simp only [Prod.mk.injEq] at hzz
  obtain ⟨hz, hs, hb⟩ := hzz
  have hr := run_make (P := Tryz.prog) w 83 30 i _ Tryz.underlying83 hi hz .i64 .i64 ((n : Int) + 1) ((n : Int) + 1) (by omega) (Int.le_refl _) (by rw [hb]; omega) (by omega)
  rw [show ((n : Int) + 1).toNat = n + 1 by omega, hs, Nat.mul_one] at hr
  exact hr
theorem made_sls (w : World) (N : Nat) : RwV (w.alloc (.cells (madeCells #[.slice none 0 0] N) 30)) w.heap.size N (fun _ => .slice none 0 0) := by
  refine ⟨by rw [World.size_alloc]; omega, fun j hj => ?_, fun j => World.frozen?_alloc_at _ _ _ _ rfl⟩
  rw [World.cell?_alloc_at _ _ _ _ rfl]
  simp [madeCells, hj, Nat.mod_one]
theorem grown_setV (w : World) (g o : Nat) (v : Value) : w.grownBy (w.setCell ⟨g, o, none⟩ v) (some g) := ⟨rfl, rfl, rfl, by rw [World.size_setCell]; exact Nat.le_refl _, fun k _ hk => Below.heap_setCell _ _ _ _ (fun e => hk (by rw [e]))⟩
theorem ownP_setV {w : World} {base g o : Nat} {v x : Value} {ls : List Pc} (h : OwnP w base v ls) (hg : g < base) : OwnP (w.setCell ⟨g, o, none⟩ x) base v ls :=
  h.kept (grown_setV w g o x) (by
    cases hv : v.ownBlock with
    | none => exact .inl rfl
    | some j => right; intro e; injection e with e; have := row_ge h hv; omega)
theorem pair_at (W : World) (e : Pc) (s2 : Value) (es : List Pc) (h : PcsM W s2 es) :
    SlAt ((W.alloc (.cells #[.int .i64 e.1, .int .i64 e.2.1, .string e.2.2] 37)).alloc (.cells #[.slice (some ⟨W.heap.size, 0, none⟩) 1 1, s2] 30)).drew (.slice (some ⟨W.heap.size + 1, 0, none⟩) 2 2) [(.slice (some ⟨W.heap.size, 0, none⟩) 1 1, [e]), (s2, es)] := by
  have hb1 := below_al W (.cells #[.int .i64 e.1, .int .i64 e.2.1, .string e.2.2] 37)
  obtain ⟨X, hX⟩ : ∃ X, X = W.alloc (.cells #[.int .i64 e.1, .int .i64 e.2.1, .string e.2.2] 37) := ⟨_, rfl⟩
  have hXs : X.heap.size = W.heap.size + 1 := by rw [hX, World.size_alloc]
  have hPB : PcB X W.heap.size e := by rw [hX]; exact PcB.new W e
  rw [← hX] at hb1 ⊢
  have hb2 := below_al X (.cells #[.slice (some ⟨W.heap.size, 0, none⟩) 1 1, s2] 30)
  have hb3 : Below X.heap.size X (X.alloc (.cells #[.slice (some ⟨W.heap.size, 0, none⟩) 1 1, s2] 30)).drew := below_drewN hb2 1
  have hnew := heap_alloc_new X (.cells #[.slice (some ⟨W.heap.size, 0, none⟩) 1 1, s2] 30)
  have hlt : W.heap.size + 1 < (X.alloc (.cells #[.slice (some ⟨W.heap.size, 0, none⟩) 1 1, s2] 30)).drew.heap.size := by
    show _ < (X.alloc _).heap.size
    rw [World.size_alloc, hXs]; omega
  refine ⟨⟨_, 2, rfl, Nat.le_refl _, .inr ⟨W.heap.size + 1, 0, rfl, hlt, fun j p hj => ?_⟩⟩, fun p hp => ?_⟩
  · have hc : ∀ q x, (#[.slice (some ⟨W.heap.size, 0, none⟩) 1 1, s2] : Array Value)[q]? = some x → (X.alloc (.cells #[.slice (some ⟨W.heap.size, 0, none⟩) 1 1, s2] 30)).drew.cell? ⟨W.heap.size + 1, 0 + q, none⟩ = some x := by
      intro q x hq
      show (X.alloc _).cell? _ = _
      rw [← hXs, World.cell?_alloc_at _ _ _ _ rfl, Nat.zero_add]
      exact hq
    match j, hj with
    | 0, hj => simp at hj; subst hj; exact hc 0 _ rfl
    | 1, hj => simp at hj; subst hj; exact hc 1 _ rfl
    | j + 2, hj => simp at hj
  · simp at hp
    rcases hp with rfl | rfl
    · refine .inr ⟨W.heap.size, 0, 1, rfl, Nat.le_refl _, by omega, fun j x hx => ?_⟩
      match j, hx with
      | 0, hx =>
        simp at hx; subst hx
        obtain ⟨c0, c1, c2⟩ := hPB.cells
        exact ⟨(hb3.cell (p := ⟨W.heap.size, 0, none⟩) (by show W.heap.size < X.heap.size; omega)).trans c0, (hb3.cell (p := ⟨W.heap.size, 1, none⟩) (by show W.heap.size < X.heap.size; omega)).trans c1, (hb3.cell (p := ⟨W.heap.size, 2, none⟩) (by show W.heap.size < X.heap.size; omega)).trans c2⟩
      | j + 1, hx => simp at hx
    · exact h.below (below_step hb1 hb3)
theorem fw_len (es : List Ent) (xs : List Int) : (if sgB es xs = true then Pl.opt es xs 0 else []).length ≤ 60 := by
  split
  · rename_i h
    have h1 := (sgB_parts h).2.1
    have h2 := Pl.opt_len es xs 0
    omega
  · exact Nat.zero_le _
/-- The pieces at i, each with the best behind it. -/
def cands (es : List Ent) (xs : List Int) (i : Nat) : List (List Pc) := (Pl.allPs es xs i).map fun p => p :: Pl.opt es xs (i + p.2.1.toNat)
set_option maxHeartbeats 8000000 in
theorem FewestPieces_any (v : Value) (es : List Ent) (u : Value) (xs : List Int) (w : World) (h : EntsAt w v es) (hu : IntsAt w u xs) (hn : es.length ≤ 2097152) (hx : ∀ e ∈ es, entOk e) (hxn : xs.length ≤ 2097152) :
    Calls Tryz.prog 17 #[dV v, u] w fun r w' => (∃ y, r = .returned (.tuple #[y, .bool (sgB es xs)]) ∧ OwnP w' w.heap.size y (if sgB es xs = true then Pl.opt es xs 0 else [])) ∧ Below w.heap.size w w' := by
  have cm := fun w' hb => matcherOf_any v es u xs w' (h.below (w' := w') hb) (hu.below hb) hn hx hxn
  have HP := Lib.hid (fun (h : sgB es xs = true) => sgB_parts h)
  have CP := Lib.hid (fun b (i : Nat) w' hb hm hok hs h60 (hi : i < xs.length) => (allX_in (es := es) hi) ▸ piecesAt_any b es u xs (i : Int) w' hm hok (hu.below (w := w) hb) hs h60)
  have CC := Lib.hid (fun v us w h hn hl => ConcatPc_any v us w h hn hl)
  have CMin := Lib.hid (fun v us w h h0 hn hl => MinPc_any v us w h h0 hn hl)
  obtain ⟨a, cap, rfl, hcap, _⟩ := h.cells
  obtain ⟨ua, uc, rfl, huc, _⟩ := hu.cells
  obtain ⟨n, hnn⟩ : ∃ n, n = xs.length := ⟨_, rfl⟩
  obtain ⟨dn, hdn⟩ : ∃ n, n = es.length := ⟨_, rfl⟩
  have HMinO := Lib.hid (fun i (hi : i < xs.length) => Pl.opt_min (es := es) hi)
  have HCnt := Lib.hid (fun i (hi : i < xs.length) p (hp : p ∈ Pl.allPs es xs i) => Pl.allPs_cnt hi hp)
  have HOl := Lib.hid (fun i => Pl.opt_len es xs i)
  have HOe : Hid (Pl.opt es xs n = []) := by show _ = _; rw [hnn]; exact Pl.opt_end es xs
  have HAl := Lib.hid (fun i => show 0 < (Pl.allPs es xs i).length ∧ (Pl.allPs es xs i).length ≤ 7 from by
    unfold Pl.allPs
    rw [List.length_append, List.length_singleton]
    have := Pl.fdPs_len es xs i (Pl.capN xs i)
    unfold Pl.capN at this ⊢
    omega)
  rw [← hnn] at cm huc HP CP HMinO HCnt HOl hxn ⊢
  unfold dV at cm ⊢
  rw [← hdn] at cm hcap ⊢
  have BX := Lib.hid (below_al w (.cells #[.slice a dn cap] 26))
  clear h hu hnn hdn hx hn
  obtain ⟨bS, hbS⟩ : ∃ b, b = sgB es xs := ⟨_, rfl⟩
  rw [← hbS] at HP ⊢
  simp only [← hbS] at cm
  have CM := Lib.hid cm
  clear cm hbS
  go_enter Tryz.func17, Tryz.ntmps17
  cases bS
  · clear HP CP CC CMin HMinO HCnt HOl HOe HAl
    go_wp2_with fail
    refine (CM.out _ BX.out).mono ?_
    rintro r w1 ⟨⟨mv, rfl, h1, _⟩, hb⟩
    have B1 := Lib.hid (below_step BX.out hb)
    obtain ⟨hm1, _, hm3⟩ := mt_box w1 mv (.slice ua n uc)
    have B2 := Lib.hid (below_step B1.out hm1)
    have HM3 := Lib.hid hm3
    have HNil := Lib.hid (fun W => ownP_nil W w.heap.size)
    clear hb CM hm1 hm3
    go_wp2_with (with_reducible (show wpList _ _ _ (_ :: _) _ _); refine mt_store rfl _ _ rfl w1.heap.size mv (.slice ua n uc) _ _ h1 rfl rfl rfl HM3.out ?_)
    go_ret2
    exact ⟨⟨_, rfl, HNil.out _⟩, B2.out⟩
  · obtain ⟨hok, h60, hst⟩ := HP.out (by first | rfl | trivial)
    simp only [if_true]
    obtain ⟨A, hA⟩ : ∃ A : Nat → List Pc, A = fun i => Pl.allPs es xs i := ⟨_, rfl⟩
    obtain ⟨O, hO⟩ : ∃ O : Nat → List Pc, O = fun i => Pl.opt es xs i := ⟨_, rfl⟩
    have CP1 : Hid (∀ b i w', Below w.heap.size w w' → MapB w' b es → i < n → Calls Tryz.prog 31 #[mtV b (.slice ua n uc), .int .i64 (i : Int)] w' fun r w'' => (∃ y, r = .returned y ∧ OwnP w'' w'.heap.size y (A i)) ∧ Below w'.heap.size w' w'') := by rw [hA]; exact fun b i w' hb hm hi => CP.out b i w' hb hm hok hst h60 hi
    have HMin1 : Hid (∀ i, i < n → O i = Pl.minF ((A i).map fun p => p :: O (i + p.2.1.toNat))) := by rw [hA, hO]; exact HMinO.out
    have HCnt1 : Hid (∀ i, i < n → ∀ p ∈ A i, ∃ c : Nat, p.2.1 = (c : Int) ∧ 1 ≤ c ∧ c ≤ 6 ∧ i + c ≤ n ∧ p.1 = (i : Int)) := by rw [hA]; exact HCnt.out
    have HOl1 : Hid (∀ i, (O i).length ≤ n - i) := by rw [hO]; exact HOl.out
    have HOe1 : Hid (O n = []) := by rw [hO]; exact HOe.out
    have HAl1 : Hid (∀ i, 0 < (A i).length ∧ (A i).length ≤ 7) := by rw [hA]; exact HAl.out
    have HO0 : Hid (Pl.opt es xs 0 = O 0) := by rw [hO]; rfl
    rw [HO0.out]
    clear hA hO CP HMinO HCnt HOl HOe HAl HO0 HP hok hst
    go_wp2_with fail
    refine (CM.out _ BX.out).mono ?_
    rintro r w1 ⟨⟨mv, rfl, h1, hm⟩, hb⟩
    obtain ⟨b, rfl, hbb, hMb⟩ := hm (by first | rfl | trivial)
    have B1 := Lib.hid (below_step BX.out hb)
    obtain ⟨hm1, hm2, hm3⟩ := mt_box w1 (.map (some b)) (.slice ua n uc)
    have hmk := fun w => mk_sls n (by omega) w
    have hmd := made_sls ((w1.alloc (.cells #[.map none, .slice none 0 0] 61)).setRow w1.heap.size #[.map (some b), .slice ua n uc]) (n + 1)
    have hsz : ((w1.alloc (.cells #[.map none, .slice none 0 0] 61)).setRow w1.heap.size #[.map (some b), .slice ua n uc]).heap.size = w1.heap.size + 1 := by rw [setRow_size, World.size_alloc]
    have hal := below_al ((w1.alloc (.cells #[.map none, .slice none 0 0] 61)).setRow w1.heap.size #[.map (some b), .slice ua n uc]) (.cells (madeCells #[.slice none 0 0] (n + 1)) 30)
    rw [hsz] at hmd
    have hBm : Below w1.heap.size w1 (((w1.alloc (.cells #[.map none, .slice none 0 0] 61)).setRow w1.heap.size #[.map (some b), .slice ua n uc]).alloc (.cells (madeCells #[.slice none 0 0] (n + 1)) 30)) := below_step hm1 hal
    have B2 := Lib.hid (below_step B1.out hBm)
    have M2 := Lib.hid (show MapB (((w1.alloc (.cells #[.map none, .slice none 0 0] 61)).setRow w1.heap.size #[.map (some b), .slice ua n uc]).alloc (.cells (madeCells #[.slice none 0 0] (n + 1)) 30)) b es from MapB.below hMb hBm)
    have T2 : Hid (MtB (((w1.alloc (.cells #[.map none, .slice none 0 0] 61)).setRow w1.heap.size #[.map (some b), .slice ua n uc]).alloc (.cells (madeCells #[.slice none 0 0] (n + 1)) 30)) w1.heap.size b (.slice ua n uc)) := MtB.below (show MtB ((w1.alloc (.cells #[.map none, .slice none 0 0] 61)).setRow w1.heap.size #[.map (some b), .slice ua n uc]) w1.heap.size b (.slice ua n uc) from hm2) hal (by rw [hsz]; omega)
    have R2 := Lib.hid hmd
    have HM3 := Lib.hid hm3
    have hw1 : w.heap.size + 1 ≤ w1.heap.size := by have := hb.size; simp at this; omega
    obtain ⟨W2, hW2⟩ : ∃ W, W = ((w1.alloc (.cells #[.map none, .slice none 0 0] 61)).setRow w1.heap.size #[.map (some b), .slice ua n uc]).alloc (.cells (madeCells #[.slice none 0 0] (n + 1)) 30) := ⟨_, rfl⟩
    have HW2 := Lib.hid hW2
    rw [← hW2] at B2 M2 T2 R2
    have HSz := Lib.hid hsz
    have HBb : Hid (b < w1.heap.size) := hMb.lt
    clear hb CM hm1 hm2 hm3 hm hMb hbb hmd hal hBm hW2 hsz
    go_wp2_with (with_reducible (show wpList _ _ _ (_ :: _) _ _); refine mt_store rfl _ _ rfl w1.heap.size (.map (some b)) (.slice ua n uc) _ _ rfl rfl rfl rfl HM3.out ?_)
    clear hmk
    rw [← HW2.out]
    go_loopw [9] (fun i wr => ∃ (m : Nat) (z : Int) (vs : Nat → Value), i = .int .i64 z ∧ z = (m : Int) - 1 ∧ m ≤ n ∧ Hid (RwV wr (w1.heap.size + 1) (n + 1) vs) ∧ Hid (∀ j, m ≤ j → j ≤ n → OwnP wr (w1.heap.size + 2) (vs j) (O j)) ∧ Hid (MtB wr w1.heap.size b (.slice ua n uc)) ∧ Hid (MapB wr b es) ∧ Hid (Below w.heap.size w wr)) (fun i _ => (intOf i + 1).toNat)
    case atStart =>
      refine ⟨n, _, _, rfl, rfl, Nat.le_refl _, R2, Lib.hid (fun j h1 h2 => ?_), T2, M2, B2⟩
      obtain rfl : j = n := by omega
      rw [HOe1.out]; exact ownP_nil _ _
    case round =>
      obtain ⟨m, z, vs, rfl, hz, hm, HR, HV, HT, HMp, HBr⟩ := hrel
      clear R2 T2 M2 B2 HW2 HM3 HSz B1 BX
      cases m with
      | zero =>
        obtain rfl : z = -1 := by omega
        clear hz
        have g0 := HR.out.2.1 0 (by omega)
        have OF := Lib.hid (ownsRow_mono (HV.out 0 (Nat.le_refl _) (Nat.zero_le _)) (by omega : w.heap.size ≤ w1.heap.size + 2))
        clear CC CMin CP1 HMin1 HCnt1 HOl1 HOe1 HAl1 HV
        go_wp2
        go_ret2
        exact ⟨⟨_, rfl, OF.out⟩, HBr.out⟩
      | succ i =>
        obtain rfl : z = (i : Int) := by omega
        clear hz
        have hin : i < n := by omega
        have CP2 := Lib.hid (CP1.out b i wr HBr.out HMp.out hin)
        obtain ⟨t0, t1⟩ := HT.out.cells
        clear CP1
        go_wp2_with fail
        refine CP2.out.mono ?_
        rintro r w3 ⟨⟨y, rfl, hy⟩, hb⟩
        have Y3 := Lib.hid (ownP_at hy)
        have R3 := Lib.hid (HR.out.below hb HR.out.1)
        have V3 := Lib.hid (fun j h1 h2 => (HV.out j h1 h2).below' hb)
        have T3 := Lib.hid (HT.out.below hb HT.out.lt)
        have M3 := Lib.hid (show MapB w3 b es from MapB.below HMp.out hb)
        have B3 := Lib.hid (below_step HBr.out hb)
        have hRl := R3.out.1
        have hAl := HAl1.out i
        obtain ⟨al, hal⟩ : ∃ al, al = (A i).length := ⟨_, rfl⟩
        have HAL := Lib.hid hal
        obtain ⟨ya, yc, rfl, hyc, hYC⟩ := pc_cells Y3.out
        have HYC := Lib.hid hYC
        rw [← hal] at hAl hyc ⊢
        clear hb hy HR HV HT HMp HBr CP2 t0 t1 hal hYC
        go_wp2_with fail
        go_loopw [10, 36] (fun x k wq => ∃ (q : Nat) (us : List (Value × List Pc)), k = .int .i64 q ∧ q ≤ al ∧ Hid (OwnSl wq w3.heap.size x us) ∧ Hid (∀ p ∈ us, OwnP wq w3.heap.size p.1 p.2 ∧ ∀ g, p.1.ownBlock = some g → x.ownBlock ≠ some g) ∧ Hid (us.map (·.2) = ((A i).take q).map fun p => p :: O (i + p.2.1.toNat)) ∧ Hid (Below w3.heap.size w3 wq)) (fun _ k _ => al - (intOf k).toNat)
        case atStart => exact ⟨0, [], rfl, Nat.zero_le _, ⟨rfl, .inl ⟨rfl, rfl⟩⟩, Lib.hid (fun p hp => by cases hp), Lib.hid rfl, Below.refl _ _⟩
        case round =>
          obtain ⟨q, us, rfl, hq, HS, HU, HE, HB⟩ := hrel
          have husl : us.length ≤ 7 := by
            have h1 := congrArg List.length HE.out
            rw [List.length_map, List.length_map, List.length_take] at h1
            omega
          by_cases hqa : q < al
          · obtain ⟨e, he⟩ : ∃ e, (A i)[q]? = some e := ⟨_, List.getElem?_eq_getElem (by rw [← HAL.out]; exact hqa)⟩
            obtain ⟨bk, o, rfl, g0, g1, g2⟩ := HYC.out wr HB.out q e he
            obtain ⟨c, hc, hc1, hc6, hcn, hfi⟩ := HCnt1.out i hin e (List.mem_of_getElem? he)
            have HEn : Hid (((A i).take (q + 1)).map (fun p => p :: O (i + p.2.1.toNat)) = us.map (·.2) ++ [e :: O (i + c)]) := by
              show _ = _
              rw [List.take_add_one, he, List.map_append, HE.out]
              simp [hc]
            obtain ⟨f, c', t⟩ := e
            dsimp only at hc hfi g0 g1 g2
            subst hc
            subst hfi
            have hol := HOl1.out (i + c)
            have hal := below_al wr (.cells #[.int .i64 (i : Int), .int .i64 (c : Int), .string t] 37)
            have hw3 : w3.heap.size ≤ wr.heap.size := HB.out.size
            have HBW := Lib.hid (HB.out.trans (hal.mono hw3))
            have PW := Lib.hid (show PcB (wr.alloc (.cells #[.int .i64 (i : Int), .int .i64 (c : Int), .string t] 37)) wr.heap.size ((i : Int), (c : Int), t) from PcB.new wr ((i : Int), (c : Int), t))
            have RW := Lib.hid (R3.out.below HBW.out hRl)
            have VW := Lib.hid (ownP_m ((V3.out (i + c) (by omega) hcn).below' HBW.out))
            have SW : Hid (OwnSl (wr.alloc (.cells #[.int .i64 (i : Int), .int .i64 (c : Int), .string t] 37)) w3.heap.size u10 us) := HS.out.kept (row := none) ⟨hal.os, hal.tape, hal.output, hal.size, fun k hk _ => hal.block k hk⟩ (by cases hv : Value.ownBlock u10 <;> simp)
            have UW : Hid (∀ p ∈ us, OwnP (wr.alloc (.cells #[.int .i64 (i : Int), .int .i64 (c : Int), .string t] 37)) w3.heap.size p.1 p.2 ∧ ∀ g, p.1.ownBlock = some g → Value.ownBlock u10 ≠ some g) := fun p hp => ⟨(HU.out p hp).1.below' hal, (HU.out p hp).2⟩
            have HOld : Hid (∀ g, Value.ownBlock u10 = some g → g < wr.heap.size) := fun g hg => ownSl_lt HS.out hg
            obtain ⟨W, hW⟩ : ∃ W, W = wr.alloc (.cells #[.int .i64 (i : Int), .int .i64 (c : Int), .string t] 37) := ⟨_, rfl⟩
            have hWs : W.heap.size = wr.heap.size + 1 := by rw [hW, World.size_alloc]
            rw [← hW] at HBW PW RW VW SW UW
            have HWr := Lib.hid hW
            have HWs := Lib.hid hWs
            obtain ⟨va, vc, hve, hvc⟩ := VW.out.slice
            have d0 := RW.out.2.1 (i + c) (by omega)
            rw [hve] at d0 VW
            obtain ⟨ol, hole⟩ : ∃ ol, ol = (O (i + c)).length := ⟨_, rfl⟩
            rw [← hole] at d0 hvc hol
            have HVe : Hid (PcsM W (.slice va ol vc) (O (i + c))) := by rw [hole]; exact VW.out
            have HOle := Lib.hid hole
            obtain ⟨p0, p1, p2⟩ := PW.out.cells
            dsimp only at p0 p1 p2
            have k0 := cell_regrown p0
            have k1 := cell_regrown p1
            have k2 := cell_regrown p2
            have k3 := cell_regrown d0
            clear he hal HS HU HB hW hWs hve VW hole
            go_wp2_with fail
            rw [← HWr.out]
            clear g0 g1 g2 p0 p1 p2 d0
            refine Mx.wp_region_mixed (Mx.ofL [(0, 0), (1, 1), (3, 0), (4, 0), (5, 0), (6, 1), (7, 0), (8, 0), (9, 1), (2, 2), (10, 3), (11, 3), (12, 3), (13, 3), (14, 0)] .done) (by kernel_rfl) (by kernel_rfl) ?_
            repeat ((first | refine Mx.mix0 rfl ?_ | refine Mx.mix1 rfl ?_); go_big_quiet_step (fail); refine wpQuiet_nil ?_)
            have hd : Below W.heap.size W W.drew := below_drewN (Below.refl _ _) 1
            have hX1 : Below W.heap.size W (W.drew.alloc (.cells #[.int .i64 (i : Int), .int .i64 (c : Int), .string t] 37)) := below_step hd (below_al _ _)
            have HG := Lib.hid (regrown_of_below hX1)
            refine Mx.mix2 rfl ?_
            go_wp2
            refine Mx.mid_normal (fun _ => HG.out) ?_
            refine Mx.mix3 rfl ?_
            go_wp2
            refine Mx.mid_normal (fun q => by cases q) ?_
            refine Mx.mix3 rfl ?_
            have HSl := Lib.hid (pair_at W ((i : Int), (c : Int), t) (.slice va ol vc) (O (i + c)) HVe.out)
            have hX2 : Below W.heap.size W ((W.alloc (.cells #[.int .i64 (i : Int), .int .i64 (c : Int), .string t] 37)).alloc (.cells #[.slice (some ⟨W.heap.size, 0, none⟩) 1 1, .slice va ol vc] 30)).drew := below_drewN (below_al2 W (.cells #[.int .i64 (i : Int), .int .i64 (c : Int), .string t] 37) (.cells #[.slice (some ⟨W.heap.size, 0, none⟩) 1 1, .slice va ol vc] 30)) 1
            have hX2s : ((W.alloc (.cells #[.int .i64 (i : Int), .int .i64 (c : Int), .string t] 37)).alloc (.cells #[.slice (some ⟨W.heap.size, 0, none⟩) 1 1, .slice va ol vc] 30)).drew.heap.size = W.heap.size + 2 := by show ((W.alloc (.cells #[.int .i64 (i : Int), .int .i64 (c : Int), .string t] 37)).alloc (.cells #[.slice (some ⟨W.heap.size, 0, none⟩) 1 1, .slice va ol vc] 30)).heap.size = _; rw [World.size_alloc, World.size_alloc]
            have hfl : (flatU [(.slice (some ⟨W.heap.size, 0, none⟩) 1 1, [((i : Int), (c : Int), t)]), (.slice va ol vc, O (i + c))]).length ≤ 1000 := by
              show ([((i : Int), (c : Int), t)] ++ (O (i + c) ++ [])).length ≤ 1000
              rw [List.append_nil, List.length_append, List.length_singleton, ← HOle.out]; omega
            have HCC := Lib.hid (CC.out _ _ _ HSl.out (by show 2 ≤ 10; omega) hfl)
            have HX2 := Lib.hid hX2
            have HX2s := Lib.hid hX2s
            clear hd hX1 HG k0 k1 k2 k3 hX2 hX2s hfl HSl
            go_wp2_with fail
            refine HCC.out.mono ?_
            rintro r w5 ⟨⟨y', rfl, hy'⟩, hb5⟩
            rw [HX2s.out] at hy'
            have hyo : OwnP w5 (W.heap.size + 2) y' (((i : Int), (c : Int), t) :: O (i + c)) := by
              have e : flatU [(.slice (some ⟨W.heap.size, 0, none⟩) 1 1, [((i : Int), (c : Int), t)]), (.slice va ol vc, O (i + c))] = ((i : Int), (c : Int), t) :: O (i + c) := by
                show [((i : Int), (c : Int), t)] ++ (O (i + c) ++ []) = _
                rw [List.append_nil]; rfl
              rw [← e]; exact hy'
            have hbW := below_step HX2.out hb5
            have hw5 : W.heap.size + 2 ≤ w5.heap.size := by have := hb5.size; have := HX2s.out; omega
            obtain ⟨ya', yc', hye, _⟩ := (ownP_m hyo).slice
            obtain ⟨yl, hyl⟩ : ∃ yl, yl = (((i : Int), (c : Int), t) :: O (i + c)).length := ⟨_, rfl⟩
            rw [← hyl] at hye
            subst hye
            clear hyl
            have HYo := Lib.hid hyo
            have S5 : Hid (OwnSl w5 w3.heap.size u10 us) := Lib.hid (SW.out.kept (row := none) ⟨hbW.os, hbW.tape, hbW.output, hbW.size, fun k hk _ => hbW.block k hk⟩ (by cases hv : Value.ownBlock u10 <;> simp))
            have U5 : Hid (∀ p ∈ us, OwnP w5 w3.heap.size p.1 p.2 ∧ ∀ g, p.1.ownBlock = some g → Value.ownBlock u10 ≠ some g) := Lib.hid (fun p hp => ⟨(UW.out p hp).1.below' hbW, (UW.out p hp).2⟩)
            have HBW5 := Lib.hid (HBW.out.trans (hbW.mono (by have := HWs.out; omega)))
            have hw35 : w3.heap.size ≤ w5.heap.size := by have := HWs.out; omega
            have hwr5 : wr.heap.size + 3 ≤ w5.heap.size := by have := HWs.out; omega
            clear hy' hyo hb5 hbW HCC SW UW HBW PW RW HVe HX2
            go_wp2
            refine Mx.mid_normal (fun q => by cases q) ?_
            refine Mx.mix3 rfl ?_
            go_wp2
            refine Mx.mid_normal (fun q => by cases q) ?_
            refine Mx.mix3 rfl ?_
            go_wp2_with (at_builtin; refine push_sl rfl _ _ rfl w3.heap.size _ us rfl S5.out (.slice ya' yl yc', ((i : Int), (c : Int), t) :: O (i + c)) rfl rfl hw35 (by omega) ?_)
            intro v' w6 hown hg hat
            have S6 := Lib.hid hown
            have HBW6 : Hid (Below w3.heap.size w3 w6) := Lib.hid (HBW5.out.grown hg hw35 (fun j hj => row_ge S5.out hj))
            have U6 : Hid (∀ p ∈ us ++ [(Value.slice ya' yl yc', ((i : Int), (c : Int), t) :: O (i + c))], OwnP w6 w3.heap.size p.1 p.2 ∧ ∀ g, p.1.ownBlock = some g → v'.ownBlock ≠ some g) := by
              intro p hp
              rw [List.mem_append, List.mem_singleton] at hp
              have key : ∀ (x : Value) (l : List Pc) (B : Nat), OwnP w5 B x l → w3.heap.size ≤ B → (∀ g, x.ownBlock = some g → Value.ownBlock u10 ≠ some g) → OwnP w6 w3.heap.size x l ∧ ∀ g, x.ownBlock = some g → v'.ownBlock ≠ some g := by
                intro x l B hx hB hap
                refine ⟨ownsRow_mono (World.ownsRow.kept hx hg ?_) hB, fun g hgx => ?_⟩
                · cases hv : x.ownBlock with
                  | none => exact .inl rfl
                  | some g => right; exact fun e => hap g hv e.symm
                · rcases hat with h2 | h2
                  · rw [h2]; exact hap g hgx
                  · rw [h2]; intro e; injection e with e; have := ownP_lt hx hgx; omega
              rcases hp with hp | rfl
              · exact key p.1 p.2 w3.heap.size (U5.out p hp).1 (Nat.le_refl _) (U5.out p hp).2
              · refine key _ _ _ HYo.out (by have := HWs.out; omega) (fun g hg e => ?_)
                have h1 := row_ge HYo.out hg
                have h2 := HOld.out g e
                have := HWs.out
                omega
            have HE6 : Hid ((us ++ [(Value.slice ya' yl yc', ((i : Int), (c : Int), t) :: O (i + c))]).map (·.2) = ((A i).take (q + 1)).map fun p => p :: O (i + p.2.1.toNat)) := by
              show _ = _
              rw [HEn.out, List.map_append]; rfl
            clear hown hg hat S5 U5 HYo HBW5 HEn
            refine Mx.mid_normal (fun q => by cases q) ?_
            repeat ((first | refine Mx.mix0 rfl ?_ | refine Mx.mix1 rfl ?_); go_big_quiet_step (fail); refine wpQuiet_nil ?_)
            refine Mx.mix_nil ?_
            go_wp2
            go_roundw
            case rel => exact ⟨q + 1, _, by go_num, by omega, S6, U6, HE6, HBW6⟩
            case measure => simp [intOf]; omega
          · obtain rfl : q = al := by omega
            have hne : 0 < us.length := by
              have h1 := congrArg List.length HE.out
              rw [List.length_map, List.length_map, List.length_take] at h1
              have := HAL.out
              omega
            have hMn : Hid (Pl.minF (us.map (·.2)) = O i) := by
              show _ = _
              rw [HE.out, List.take_of_length_le (by rw [← HAL.out]; exact Nat.le_refl _)]
              exact (HMin1.out i hin).symm
            have hl60 : ∀ p ∈ us, p.2.length ≤ 60 := by
              intro p hp
              have h1 : p.2 ∈ us.map (·.2) := List.mem_map_of_mem hp
              rw [HE.out] at h1
              obtain ⟨e, he, h2⟩ := List.mem_map.1 h1
              rw [← h2, List.length_cons]
              have h3 := List.mem_of_mem_take he
              obtain ⟨c, h4, h5, _⟩ := HCnt1.out i hin e h3
              have h6 := HOl1.out (i + e.2.1.toNat)
              rw [h4] at h6 ⊢
              simp only [Int.toNat_natCast] at h6 ⊢
              omega
            have HSl := Lib.hid (ownSl_at HS.out (fun p hp => ownP_m (HU.out p hp).1))
            have HMi := Lib.hid (CMin.out _ us wr HSl.out hne (by omega) hl60)
            have hw3 : w3.heap.size ≤ wr.heap.size := HB.out.size
            have Rq := Lib.hid (R3.out.below HB.out hRl)
            clear HSl hl60 hne HS HE CC
            go_wp2_with fail
            refine HMi.out.mono ?_
            rintro r w5 ⟨⟨p, rfl, hp, hpe⟩, hb5⟩
            have hbq : Below w3.heap.size w3 w5 := HB.out.trans (hb5.mono hw3)
            have hP5 : OwnP w5 w3.heap.size p.1 (O i) := by rw [← hMn.out, ← hpe]; exact (HU.out p hp).1.below' hb5
            have P5 := Lib.hid (ownsRow_mono hP5 (by omega : w1.heap.size + 2 ≤ w3.heap.size))
            have R5 := Lib.hid (R3.out.below hbq hRl)
            have r0 := R5.out.2.1 i (by omega)
            have fr := R5.out.2.2 i
            have R6 := Lib.hid (R5.out.set i (by omega) p.1)
            have V6 : Hid (∀ j, i ≤ j → j ≤ n → OwnP (w5.setCell ⟨w1.heap.size + 1, i, none⟩ p.1) (w1.heap.size + 2) ((fun j => if j = i then p.1 else vs j) j) (O j)) := by
              intro j h1 h2
              by_cases hj : j = i
              · subst hj
                dsimp only
                rw [if_pos rfl]
                exact ownP_setV P5.out (by omega)
              · dsimp only
                rw [if_neg hj]
                exact ownP_setV ((V3.out j (by omega) h2).below' hbq) (by omega)
            have hT5 := T3.out.below hbq T3.out.lt
            have T6 : Hid (MtB (w5.setCell ⟨w1.heap.size + 1, i, none⟩ p.1) w1.heap.size b (.slice ua n uc)) := (Below.heap_setCell _ _ _ _ (by show w1.heap.size ≠ w1.heap.size + 1; omega)).trans hT5
            have M6 : Hid (MapB (w5.setCell ⟨w1.heap.size + 1, i, none⟩ p.1) b es) := World.ownsMap.kept (show MapB w5 b es from MapB.below M3.out hbq) (grown_setV _ _ _ _) (by intro e; injection e with e; have := HBb.out; omega)
            have hBw5 : Below w.heap.size w w5 := B3.out.trans (hbq.mono B3.out.size)
            have B6 : Hid (Below w.heap.size w (w5.setCell ⟨w1.heap.size + 1, i, none⟩ p.1)) := hBw5.setCell (p := ⟨w1.heap.size + 1, i, none⟩) (by show w.heap.size ≤ w1.heap.size + 1; omega) _
            obtain ⟨px, pl⟩ := p
            dsimp only at R6 V6 T6 M6 B6
            obtain ⟨pa, pc, hpx, _⟩ := (ownP_m hP5).slice
            dsimp only at hpx
            obtain ⟨pn, hpn⟩ : ∃ pn, pn = (O i).length := ⟨_, rfl⟩
            rw [← hpn] at hpx
            subst hpx
            clear hpn hP5 hbq hb5 hp hpe HMi hMn HU HB Rq P5 R5 hT5 hBw5 R3 V3 T3 M3 B3
            go_wp2
            go_roundw
            case rel => exact ⟨i, (i : Int) - 1, _, rfl, rfl, by omega, R6, V6, T6, M6, B6⟩
            case measure => simp [intOf]
end Go.Proofs.YthigdblloddepaaGreat

namespace Go.Proofs.YthigdblloddepaaGreat
set_option maxRecDepth 100000
open Go.RowKit

/-- A drawn list of at most L ints. -/
def DrawnL (base L : Nat) (w' : World) (e : Ending) : Prop := ∃ (v : Value) (xs : List Int), e = .returned v ∧ w'.ownsRow base 3 1 v xs.length (xs.map (.int .i64)) ∧ xs.length ≤ L
set_option maxHeartbeats 4000000 in
theorem strokes_any (B N base : Nat) (v : Value) (us : List (Value × Ent)) (w : World) (h : Cur w B N) (hr : Rows w base v us) (hB : B < base) (hl : us.length ≤ 60) (hs : ∀ p ∈ us, p.2.1.length ≤ 8 ∧ p.2.2.size ≤ 60) (hN : N ≤ 600000) :
    Calls Tryz.prog 76 #[.pointer (some ⟨B, 0, none⟩), dV v] w fun r w' => DrawnL w.heap.size 40 w' r ∧ Cur w' B (N + 300) ∧ w.grownBy w' (some B) := by
  obtain ⟨i0, hi, hz0, hz1, hz2⟩ := info_parts infoInt
  have CP := Lib.hid (fun N n w h hN h0 h1 => pick_any B N n w h hN h0 h1)
  have C1 := Lib.hid (fun N n w h hN h0 h1 => one_any B N n w h hN h0 h1)
  have CF := Lib.hid (fun N w h hN => few_any B N w h hN)
  unfold DrawnL
  have hlt := h.lt
  obtain ⟨va, vc, hvf⟩ := hr.form
  obtain ⟨ul, hul⟩ : ∃ ul, ul = us.length := ⟨_, rfl⟩
  have HUL := Lib.hid hul
  rw [← hul] at hvf hl
  subst hvf
  unfold dV
  obtain ⟨w0, hw0⟩ : ∃ W, W = w.alloc (.cells #[.slice va ul vc] 26) := ⟨_, rfl⟩
  have hb0 : Below w.heap.size w w0 := by rw [hw0]; exact below_al _ _
  have X0 : Hid (BoxV w0 w.heap.size 26 (.slice va ul vc)) := by rw [hw0]; exact BoxV.new _ _ _
  have R0 := Lib.hid (hr.below hb0)
  have HW0 := Lib.hid hw0
  have HG0 : Hid (w.grownBy w0 (some B)) := ⟨hb0.os, hb0.tape, hb0.output, hb0.size, fun k hk _ => hb0.block k hk⟩
  have hs0 : w0.heap.size = w.heap.size + 1 := by rw [hw0]; simp
  have hlt0 : B < w0.heap.size := by omega
  have C0 := Lib.hid ((h.below hb0).below (below_al w0 (.cells #[] 3)))
  have hal := below_al w0 (.cells #[] 3)
  have HGa : Hid (w0.grownBy (w0.alloc (.cells #[] 3)) (some B)) := ⟨hal.os, hal.tape, hal.output, hal.size, fun k hk _ => hal.block k hk⟩
  have HO0 := Lib.hid (row_new w0 3)
  clear h hr hb0 hal hul
  go_enter Tryz.func76, Tryz.ntmps76
  go_wp2_with fail
  rw [← HW0.out, ← hs0]
  have HS0 := Lib.hid hs0
  clear hw0 hs0
  refine (CP.out _ _ _ C0.out (by omega) (by omega) (by omega)).mono ?_
  rintro e w1 ⟨⟨r, r0, r1, rfl⟩, hc1, hg1⟩
  obtain ⟨R, rfl⟩ := Int.eq_ofNat_of_zero_le r0
  have HC1 := Lib.hid hc1
  have HG1 : Hid (w0.grownBy w1 (some B)) := Lib.hid (Lib.grownBy_trans HGa.out hg1)
  have HO1 := Lib.hid (own_keepI HO0.out hg1 hlt0)
  clear hc1 hg1 HO0 HGa C0
  go_wp2_with fail
  go_loopw [5, 6] (fun l i wr => ∃ (k : Nat) (xs : List Int), i = .int .i64 k ∧ k ≤ 5 ∧ xs.length + 8 * k ≤ 40 ∧ Hid (wr.ownsRow w0.heap.size 3 1 l xs.length (xs.map (.int .i64))) ∧ Hid (Cur wr B (N + 300 - 20 * k)) ∧ Hid (w0.grownBy wr (some B))) (fun _ i _ => (intOf i).toNat)
  case atStart => exact ⟨R, [], rfl, by omega, by simp; omega, HO1, HC1.out.mono (by omega), HG1⟩
  case round =>
    obtain ⟨k, xs, rfl, hk, hlen, HO, HC, HG⟩ := hrel
    clear HO1 HC1 HG1
    by_cases hpos : 0 < k
    · have hpos' : (0 : Int) < (k : Int) := by omega
      have XR := Lib.hid (X0.out.keep HG.out hlt)
      have RR := Lib.hid (R0.out.keep HG.out hB)
      have cX := XR.out.cell
      rcases Nat.eq_zero_or_pos ul with hn0 | h0
      · subst hn0
        have HC3 : Hid (Cur wr B (N + 300 - 20 * k + 2)) := Lib.hid (HC.out.mono (by omega))
        have HG3 := HG
        have HO3 := HO
        clear HC HG HO XR RR
        go_wp2_with fail
        refine (CF.out _ _ HC3.out (by omega)).mono ?_
        rintro e w4 ⟨⟨m, hm, rfl⟩, hc4, hg4⟩
        have HC4 := Lib.hid hc4
        have HG4 := Lib.hid (Lib.grownBy_trans HG3.out hg4)
        have HO4 := Lib.hid (own_keepI HO3.out hg4 hlt0)
        have hsz4 := HG4.out.size
        clear hc4 hg4 HC3 HG3 HO3
        go_wp2_with (at_builtin; refine push_int hi hz0 hz1 hz2 rfl _ _ rfl w0.heap.size _ xs rfl HO4.out (m : Int) rfl hsz4 (by omega) ?_)
        intro v' w5 hown hg5 _
        have HO5 : Hid (w5.ownsRow w0.heap.size 3 1 v' (xs ++ [(m : Int)]).length ((xs ++ [(m : Int)]).map (.int .i64))) := by
          show World.ownsRow _ _ _ _ _ _ _
          rw [List.length_append, List.map_append]; exact hown
        have HC5 := Lib.hid (HC4.out.own hg5 (fun j hj => by have := row_ge HO4.out hj; omega))
        have HG5 := Lib.hid (grown_own HG4.out hg5 (fun j hj => row_ge HO4.out hj))
        clear hown hg5 HC4 HG4 HO4
        go_wp2
        go_roundw
        case rel => exact ⟨k - 1, xs ++ [(m : Int)], by first | go_num | (congr 1; omega), by omega, by rw [List.length_append]; simp; omega, HO5, HC5.out.mono (by omega), HG5⟩
        case measure => simp [intOf]; omega
      · have hnp : (0 : Int) < (ul : Int) := by omega
        go_wp2_with fail
        refine (C1.out _ _ _ HC.out (by omega) (by omega) (by omega)).mono ?_
        rintro e w3 ⟨⟨b, rfl⟩, hc3, hg3⟩
        have HC3 := Lib.hid hc3
        have HG3 := Lib.hid (Lib.grownBy_trans HG.out hg3)
        have HO3 := Lib.hid (own_keepI HO.out hg3 hlt0)
        have X3 := Lib.hid (X0.out.keep HG3.out hlt)
        have R3 := Lib.hid (R0.out.keep HG3.out hB)
        clear hc3 hg3 HO HC HG XR RR cX
        cases b
        · obtain ⟨g, cap, hv, hcap, hgl, hcells⟩ := R3.out.cells (by have := HUL.out; omega)
          rw [← HUL.out] at hv hcap
          injection hv with hva hvn hvc
          subst hva hvc
          have cD := X3.out.cell
          have kD : ∀ p : SeenR w.heap.size (.slice (some ⟨g, 0, none⟩) ul vc) g us, p.world.cell? ⟨w.heap.size, 0, none⟩ = some (.slice (some ⟨g, 0, none⟩) ul vc) := fun p => p.cell
          have HS1 : Hid (∃ p : SeenR w.heap.size (.slice (some ⟨g, 0, none⟩) ul vc) g us, w3.drew = p.world) := ⟨⟨w3.drew, X3.out.cell, fun j p hp => (hcells j p hp).1⟩, rfl⟩
          go_wp2_with fail
          refine Mx.wp_region_mix (S := fun w' => ∃ p : SeenR w.heap.size (.slice (some ⟨g, 0, none⟩) ul vc) g us, w' = p.world) (Mx.ofL [(0, 0), (1, 0), (2, 1), (3, 0), (4, 0), (5, 1), (6, 0), (7, 2), (8, 0), (9, 0), (10, 1), (11, 3), (12, 0)] .done) (by kernel_rfl) (by kernel_rfl) HS1.out ?_
          repeat ((first | refine Mx.mix0 rfl ?_ | refine Mx.mix1 rfl ?_); go_big_quiet_step (rfl); refine wpQuiet_nil ?_)
          refine Mx.mix2 rfl ?_
          clear cD kD
          have hdr : Below w3.heap.size w3 w3.drew := below_drew1 (Below.refl _ _)
          go_wp2_with fail
          refine (CP.out _ _ w3.drew (HC3.out.below hdr) (by omega) (by omega) (by omega)).mono ?_
          rintro r w4 ⟨⟨q, q0, q1, rfl⟩, hc4, hg4⟩
          obtain ⟨j, rfl⟩ := Int.eq_ofNat_of_zero_le q0
          have hj : j < us.length := by have := HUL.out; omega
          have hju : j < ul := by omega
          obtain ⟨p, hp⟩ : ∃ p, us[j]? = some p := ⟨_, List.getElem?_eq_getElem hj⟩
          have hgd : w3.grownBy w3.drew (some B) := ⟨hdr.os, hdr.tape, hdr.output, hdr.size, fun k hk _ => hdr.block k hk⟩
          have HG4 := Lib.hid (Lib.grownBy_trans (Lib.grownBy_trans HG3.out hgd) hg4)
          have X4 := Lib.hid (X0.out.keep HG4.out hlt)
          have R4 := Lib.hid (R0.out.keep HG4.out hB)
          have HC4 := Lib.hid hc4
          have HO4 := Lib.hid (own_keepI HO3.out (Lib.grownBy_trans hgd hg4) hlt0)
          obtain ⟨g', cap', hv', _, _, hcells'⟩ := R4.out.cells (by omega)
          injection hv' with hva' hvn' hvc'
          injection hva' with hva'
          injection hva' with hva'
          subst hva' hvc'
          have HS3 : Hid (∃ p : SeenR w.heap.size (.slice (some ⟨g, 0, none⟩) ul vc) g us, w4 = p.world) := ⟨⟨w4, X4.out.cell, fun j p hp => (hcells' j p hp).1⟩, rfl⟩
          have kR : ∀ s : SeenR w.heap.size (.slice (some ⟨g, 0, none⟩) ul vc) g us, s.world.cell? ⟨g, j * 2, none⟩ = some p.1 := fun s => s.row j p hp
          have hi2 : IntsM w4 p.1 p.2.1 := (R4.out.ints p (List.mem_of_getElem? hp)).1
          have hpl := (hs p (List.mem_of_getElem? hp)).1
          have HI := Lib.hid hi2
          have hsz4 := HG4.out.size
          clear hc4 hg4 hdr hgd hcells hcells' hvn hvn' X3 R3 HC3 HG3 HS1 hi2 hp hs HO3
          go_wp2
          refine Mx.mid_normal (fun _ => HS3.out) ?_
          repeat ((first | refine Mx.mix0 rfl ?_ | refine Mx.mix1 rfl ?_); go_big_quiet_step (rfl); refine wpQuiet_nil ?_)
          refine Mx.mix3 rfl ?_
          clear kR
          go_wp2_with (at_builtin; refine append_ints hi hz0 hz1 hz2 rfl _ _ rfl w0.heap.size _ xs rfl HO4.out p.1 p.2.1 rfl HI.out hsz4 (by omega) (by omega) ?_)
          intro v' w5 hown hg5
          have HO5 : Hid (w5.ownsRow w0.heap.size 3 1 v' (xs ++ p.2.1).length ((xs ++ p.2.1).map (.int .i64))) := by
            show World.ownsRow _ _ _ _ _ _ _
            rw [List.length_append, List.map_append]; exact hown
          have HC5 := Lib.hid (HC4.out.own hg5 (fun j hj => by have := row_ge HO4.out hj; omega))
          have HG5 := Lib.hid (grown_own HG4.out hg5 (fun j hj => row_ge HO4.out hj))
          clear hown hg5 HC4 HG4 HO4 X4 R4 HI HS3
          refine Mx.mid_normal (fun q => by cases q) ?_
          repeat ((first | refine Mx.mix0 rfl ?_ | refine Mx.mix1 rfl ?_); go_big_quiet_step (rfl); refine wpQuiet_nil ?_)
          refine Mx.mix_nil ?_
          go_wp2
          go_roundw
          case rel => exact ⟨k - 1, xs ++ p.2.1, by first | go_num | (congr 1; omega), by omega, by rw [List.length_append]; omega, HO5, HC5.out.mono (by omega), HG5⟩
          case measure => simp [intOf]; omega
        · clear X3 R3
          go_wp2_with fail
          refine (CF.out _ _ HC3.out (by omega)).mono ?_
          rintro e w4 ⟨⟨m, hm, rfl⟩, hc4, hg4⟩
          have HC4 := Lib.hid hc4
          have HG4 := Lib.hid (Lib.grownBy_trans HG3.out hg4)
          have HO4 := Lib.hid (own_keepI HO3.out hg4 hlt0)
          have hsz4 := HG4.out.size
          clear hc4 hg4 HC3 HG3 HO3
          go_wp2_with (at_builtin; refine push_int hi hz0 hz1 hz2 rfl _ _ rfl w0.heap.size _ xs rfl HO4.out (m : Int) rfl hsz4 (by omega) ?_)
          intro v' w5 hown hg5 _
          have HO5 : Hid (w5.ownsRow w0.heap.size 3 1 v' (xs ++ [(m : Int)]).length ((xs ++ [(m : Int)]).map (.int .i64))) := by
            show World.ownsRow _ _ _ _ _ _ _
            rw [List.length_append, List.map_append]; exact hown
          have HC5 := Lib.hid (HC4.out.own hg5 (fun j hj => by have := row_ge HO4.out hj; omega))
          have HG5 := Lib.hid (grown_own HG4.out hg5 (fun j hj => row_ge HO4.out hj))
          clear hown hg5 HC4 HG4 HO4
          go_wp2
          go_roundw
          case rel => exact ⟨k - 1, xs ++ [(m : Int)], by first | go_num | (congr 1; omega), by omega, by rw [List.length_append]; simp; omega, HO5, HC5.out.mono (by omega), HG5⟩
          case measure => simp [intOf]; omega
    · obtain rfl : k = 0 := by omega
      have HGf := Lib.hid (Lib.grownBy_trans HG0.out HG.out)
      have HOf := Lib.hid (ownsRow_mono HO.out (by have := HS0.out; omega : w.heap.size ≤ w0.heap.size))
      clear HO HG HG0
      go_wp2
      go_ret
      exact ⟨⟨_, xs, rfl, HOf.out, by omega⟩, HC.out.mono (by omega), HGf.out⟩
set_option maxHeartbeats 4000000 in
theorem anyStrokes_any (B N base : Nat) (v : Value) (us : List (Value × Ent)) (w : World) (h : Cur w B N) (hr : Rows w base v us) (hB : B < base) (hl : us.length ≤ 60) (hs : ∀ p ∈ us, p.2.1.length ≤ 8 ∧ p.2.2.size ≤ 60) (hN : N ≤ 500000) :
    Calls Tryz.prog 37 #[.pointer (some ⟨B, 0, none⟩), dV v] w fun r w' => DrawnL w.heap.size 61 w' r ∧ Cur w' B (N + 2000) ∧ w.grownBy w' (some B) := by
  obtain ⟨i0, hi, hz0, hz1, hz2⟩ := info_parts infoInt
  have CP := Lib.hid (fun N n w h hN h0 h1 => pick_any B N n w h hN h0 h1)
  have CF := Lib.hid (fun N w h hN => few_any B N w h hN)
  have CA := Lib.hid (fun N w h hN => anyStroke_any B N w h hN)
  have cs := fun N w h hr hN => strokes_any B N base v us w h hr hB hl hs hN
  unfold DrawnL at cs ⊢
  have hlt := h.lt
  obtain ⟨va, vc, hvf⟩ := hr.form
  obtain ⟨ul, hul⟩ : ∃ ul, ul = us.length := ⟨_, rfl⟩
  rw [← hul] at hvf
  subst hvf
  unfold dV at cs ⊢
  have CS := Lib.hid cs
  have hb0 := below_al w (.cells #[.slice va ul vc] 26)
  have C0 := Lib.hid (h.below hb0)
  have R0 := Lib.hid (hr.below hb0)
  have HG0 : Hid (w.grownBy (w.alloc (.cells #[.slice va ul vc] 26)) (some B)) := ⟨hb0.os, hb0.tape, hb0.output, hb0.size, fun k hk _ => hb0.block k hk⟩
  clear h hr hb0 hul cs hs
  go_enter Tryz.func37, Tryz.ntmps37
  go_wp2_with fail
  refine (CS.out _ _ C0.out R0.out (by omega)).mono ?_
  rintro r w1 ⟨⟨y, xs, rfl, ho, hxl⟩, hc1, hg1⟩
  have HC1 := Lib.hid hc1
  have HG1 := Lib.hid (Lib.grownBy_trans HG0.out hg1)
  have HO1 := Lib.hid (ownsRow_mono ho (by simp : w.heap.size ≤ (w.alloc (.cells #[.slice va ul vc] 26)).heap.size))
  clear ho hc1 hg1 CS C0 R0 HG0
  go_wp2_with fail
  refine (CP.out _ _ w1 HC1.out (by omega) (by omega) (by omega)).mono ?_
  rintro r w2 ⟨⟨q, q0, q1, rfl⟩, hc2, hg2⟩
  have HCa := Lib.hid hc2
  have HGb := Lib.hid (Lib.grownBy_trans HG1.out hg2)
  have HOb := Lib.hid (own_keepI HO1.out hg2 hlt)
  clear hc2 hg2 HC1 HG1 HO1
  by_cases h0 : q = 0
  · subst h0
    go_wp2_with fail
    refine (CA.out _ w2 HCa.out (by omega)).mono ?_
    rintro r w3 ⟨⟨x, rfl⟩, hc3, hg3⟩
    have HOa := Lib.hid (own_keepI HOb.out hg3 hlt)
    have HGa := Lib.hid (Lib.grownBy_trans HGb.out hg3)
    have HCa := Lib.hid hc3
    have hsza := HGa.out.size
    clear hc3 hg3 HOb HGb
    go_wp2_with (at_builtin; refine push_int hi hz0 hz1 hz2 rfl _ _ rfl w.heap.size _ xs rfl HOa.out x rfl hsza (by omega) ?_)
    intro v' w5 hown hg5 _
    have HO5 : Hid (w5.ownsRow w.heap.size 3 1 v' (xs ++ [x]).length ((xs ++ [x]).map (.int .i64))) := by
      show World.ownsRow _ _ _ _ _ _ _
      rw [List.length_append, List.map_append]; exact hown
    have HC5 := Lib.hid (HCa.out.own hg5 (fun j hj => by have := row_ge HOa.out hj; omega))
    have HG5 := Lib.hid (grown_own HGa.out hg5 (fun j hj => row_ge HOa.out hj))
    clear hown hg5 HCa HGa HOa
    go_wp2
    go_ret
    exact ⟨⟨_, xs ++ [x], rfl, HO5.out, by rw [List.length_append, List.length_singleton]; omega⟩, HC5.out.mono (by omega), HG5.out⟩
  · by_cases h1 : q = 1
    · subst h1
      go_wp2_with fail
      have hxs : xs.length ≤ 61 := by omega
      have HCm : Hid (Cur w2 B (N + 400 + 10 * xs.length)) := Lib.hid (HCa.out.mono (by omega))
      clear HCa hxl
      go_loopw [5] (fun l wr => ∃ xs : List Int, xs.length ≤ 61 ∧ Hid (wr.ownsRow w.heap.size 3 1 l xs.length (xs.map (.int .i64))) ∧ Hid (Cur wr B (N + 400 + 10 * xs.length)) ∧ Hid (w.grownBy wr (some B))) (fun l _ => (match l with | .slice _ n _ => 62 - n | _ => 0))
      case atStart => exact ⟨xs, hxs, HOb, HCm, HGb⟩
      case round =>
        obtain ⟨xs, hxs, HO, HC, HG⟩ := hrel
        obtain ⟨la, lc, hle⟩ : ∃ a c, u5 = .slice a xs.length c := by
          rcases HO.out.2 with ⟨rfl, h0⟩ | ⟨g, cap, cur, rfl, _⟩
          · exact ⟨none, 0, by rw [h0]⟩
          · exact ⟨_, _, rfl⟩
        subst hle
        clear HOb HCm HGb
        go_wp2_with fail
        refine (CP.out _ _ wr HC.out (by omega) (by omega) (by omega)).mono ?_
        rintro r w3 ⟨⟨q2, q20, q21, rfl⟩, hc3, hg3⟩
        have HC3 := Lib.hid hc3
        have HG3 := Lib.hid (Lib.grownBy_trans HG.out hg3)
        have HO3 := Lib.hid (own_keepI HO.out hg3 hlt)
        clear hc3 hg3 HC HG HO
        by_cases hlt2 : (xs.length : Int) < 60 + q2
        · go_wp2_with fail
          refine (CF.out _ w3 HC3.out (by omega)).mono ?_
          rintro r w4 ⟨⟨m, hm, rfl⟩, hc4, hg4⟩
          have HCa := Lib.hid hc4
          have HGa := Lib.hid (Lib.grownBy_trans HG3.out hg4)
          have HOa := Lib.hid (own_keepI HO3.out hg4 hlt)
          have hsza := HGa.out.size
          clear hc4 hg4 HC3 HG3 HO3
          go_wp2_with (at_builtin; refine push_int hi hz0 hz1 hz2 rfl _ _ rfl w.heap.size _ xs rfl HOa.out (m : Int) rfl hsza (by omega) ?_)
          intro v' w5 hown hg5 _
          have HO5 : Hid (w5.ownsRow w.heap.size 3 1 v' (xs ++ [(m : Int)]).length ((xs ++ [(m : Int)]).map (.int .i64))) := by
            show World.ownsRow _ _ _ _ _ _ _
            rw [List.length_append, List.map_append]; exact hown
          have HC5 := Lib.hid (HCa.out.own hg5 (fun j hj => by have := row_ge HOa.out hj; omega))
          have HG5 := Lib.hid (grown_own HGa.out hg5 (fun j hj => row_ge HOa.out hj))
          obtain ⟨va', vc', hve⟩ : ∃ a c, v' = .slice a (xs.length + 1) c := by
            rcases HO5.out.2 with ⟨rfl, h0⟩ | ⟨g, cap, cur, rfl, _⟩
            · rw [List.length_append] at h0; simp at h0
            · exact ⟨_, _, by rw [List.length_append]; rfl⟩
          subst hve
          clear hown hg5 HCa HGa HOa
          go_wp2
          go_roundw
          case rel => exact ⟨xs ++ [(m : Int)], by rw [List.length_append, List.length_singleton]; omega, HO5, HC5.out.mono (by rw [List.length_append, List.length_singleton]; omega), HG5⟩
          case measure => first | omega | (simp; omega)
        · go_wp2
          go_ret
          exact ⟨⟨_, xs, rfl, HO3.out, by omega⟩, HC3.out.mono (by omega), HG3.out⟩
    · go_wp2
      go_ret
      exact ⟨⟨_, xs, rfl, HOb.out, by omega⟩, HCa.out.mono (by omega), HGb.out⟩
/-- A drawn dictionary and a drawn list of at most L ints. -/
def DPairL (base L : Nat) (w' : World) (r : Ending) : Prop := ∃ (v : Value) (us : List (Value × Ent)) (u : Value) (xs : List Int), r = .returned (.tuple #[dV v, u]) ∧ Rows w' base v us ∧ us.length ≤ 60 ∧ (∀ p ∈ us, p.2.1.length ≤ 8 ∧ p.2.2.size ≤ 60) ∧ IntsM w' u xs ∧ xs.length ≤ L
set_option maxHeartbeats 4000000 in
theorem drawSegment_any (a : Option Addr) (n cap : Nat) (w : World) (h : CodeAt w a n) :
    Calls Tryz.prog 29 #[.slice a n cap] w fun r w' => DPairL w.heap.size 61 w' r ∧ Below w.heap.size w w' := by
  have cd := fun B N w h hN => anyDictionary_any B N w h hN
  have ck := fun B N base v us w h hr hB hl hs hN => anyStrokes_any B N base v us w h hr hB hl hs hN
  unfold DDict dV at cd
  unfold dV DrawnL at ck
  have CD := Lib.hid cd
  have CK := Lib.hid ck
  clear cd ck
  obtain ⟨w0, hw0⟩ : ∃ W, W = (w.alloc (.cells #[.slice none 0 0] 26)).alloc (.cells #[.slice a n cap, .int .i64 0, .int .u64 0] 72) := ⟨_, rfl⟩
  have hb0 : Below w.heap.size w w0 := by rw [hw0]; exact below_al2 _ _ _
  have hs0 : w0.heap.size = w.heap.size + 1 + 1 := by rw [hw0]; simp
  have R0 : Hid (BoxV w0 w.heap.size 26 (.slice none 0 0)) := by rw [hw0]; exact (BoxV.new w _ _).below (below_al _ _) (by simp)
  have C0 : Hid (Cur w0 (w.heap.size + 1) 0) := by
    have e := cur_new (w.alloc (.cells #[.slice none 0 0] 26)) a n cap 72 (h.below (below_al _ _))
    rw [World.size_alloc] at e
    rw [hw0]; exact e
  have HB0 := Lib.hid hb0
  have HW0 := Lib.hid hw0
  clear h hb0 hw0
  go_enter Tryz.func29, Tryz.ntmps29
  go_wp2_with fail
  rw [← HW0.out]
  refine (CD.out _ _ _ C0.out (by omega)).mono ?_
  rintro r w1 ⟨⟨v, us, rfl, hr1, hl1, hx1⟩, hc1, hg1⟩
  obtain ⟨va, vc, hvf⟩ := hr1.form
  subst hvf
  have hs1 : w0.heap.size ≤ w1.heap.size := hg1.size
  have hb1 : Below w.heap.size w w1 := HB0.out.grown hg1 (by omega) (fun b e => by injection e with e; omega)
  obtain ⟨w2, hw2⟩ : ∃ W, W = w1.alloc (.cells #[.slice va us.length vc] 26) := ⟨_, rfl⟩
  have hbA : Below w1.heap.size w1 w2 := by rw [hw2]; exact below_al _ _
  have X2 : Hid (BoxV w2 w1.heap.size 26 (.slice va us.length vc)) := by rw [hw2]; exact BoxV.new _ _ _
  have R2 := Lib.hid ((R0.out.grown hg1 (by simp)).below hbA (by have := R0.out.lt; omega)) 
  have V2 := Lib.hid (hr1.below hbA)
  have C2 := Lib.hid (hc1.below hbA)
  have HB2 := Lib.hid (below_step hb1 hbA)
  have hs2 : w1.heap.size ≤ w2.heap.size := hbA.size
  have HW2 := Lib.hid hw2
  have HX := Lib.hid hx1
  have cX := X2.out.cell
  rw [HW2.out] at cX
  obtain ⟨D, hD⟩ : ∃ D, D = w1.heap.size := ⟨_, rfl⟩
  have cD := X2.out.cell
  have kD : ∀ p : Seen w1.heap.size (.slice va us.length vc), p.world.cell? ⟨w1.heap.size, 0, none⟩ = some (.slice va us.length vc) := fun p => p.cell
  clear hr1 hx1 hc1 hg1 hb1 hbA hw2 hD R0 C0 HB0 HW0 CD
  go_wp2_with fail
  rw [← HW2.out]
  clear cX
  refine Mx.wp_region_mix (S := fun w' => ∃ p : Seen w1.heap.size (.slice va us.length vc), w' = p.world) (Mx.ofL [(0, 1), (1, 0), (2, 1), (3, 2), (4, 3), (5, 0)] .done) (by kernel_rfl) (by kernel_rfl) ⟨⟨w2.drew, X2.out.cell⟩, rfl⟩ ?_
  repeat ((first | refine Mx.mix0 rfl ?_ | refine Mx.mix1 rfl ?_); go_big_quiet_step (rfl); refine wpQuiet_nil ?_)
  refine Mx.mix2 rfl ?_
  clear cD kD
  have hdr : Below w2.heap.size w2 w2.drew := below_drew1 (Below.refl _ _)
  go_wp2_with fail
  refine (CK.out _ _ w0.heap.size _ us w2.drew (C2.out.below hdr) (V2.out.below hdr) (by omega) hl1 HX.out (by omega)).mono ?_
  rintro r w3 ⟨⟨u, xs, rfl, ho, hxl⟩, hc3, hg3⟩
  have X3 := Lib.hid ((X2.out.below hdr X2.out.lt).keep hg3 (by omega))
  have R3 := Lib.hid ((R2.out.below hdr R2.out.lt).grown hg3 (by simp))
  have V3 := Lib.hid ((V2.out.below hdr).keep hg3 (by omega))
  have HI := Lib.hid (row_M ho)
  have HL : Hid (∀ b, u.ownBlock = some b → b ≠ w.heap.size) := fun b hb e => by have := (ho.lt b hb).1; have : w2.heap.size ≤ b := this; omega
  have HB3 : Hid (Below w.heap.size w w3) := (below_step HB2.out hdr).grown hg3 (by show w.heap.size ≤ w2.heap.size; omega) (fun b e => by injection e with e; omega)
  have HC3 := Lib.hid hc3
  obtain ⟨ua, uc, huf⟩ := (ownInts_of ho).form
  subst huf
  have HCell := Lib.hid X3.out.cell
  have cR := R3.out.cell
  have fR := R3.out.frozen
  clear hc3 hg3 hdr ho X2 R2 V2 C2 HB2 HW2 X3
  go_wp2
  refine Mx.mid_normal (fun _ => ⟨⟨_, HCell.out⟩, rfl⟩) ?_
  refine Mx.mix3 rfl ?_
  go_wp2
  refine Mx.mid_normal (fun q => by cases q) ?_
  repeat ((first | refine Mx.mix0 rfl ?_ | refine Mx.mix1 rfl ?_); go_big_quiet_step (rfl); refine wpQuiet_nil ?_)
  refine Mx.mix_nil ?_
  go_wp2
  refine bodyPost_ret (results_dt2 rfl _ _ w.heap.size _ rfl (R3.out.set _)) rfl ?_
  exact ⟨⟨_, us, _, xs, rfl, (V3.out.setCell (by omega)).mono (by omega), hl1, HX.out, HI.out.touch (T := fun b => b = w.heap.size) ((Touch.refl (fun b => b = w.heap.size) _).setCell (g := w.heap.size) rfl _ _) HL.out, hxl⟩, HB3.out.setCell (Nat.le_refl _) _⟩
end Go.Proofs.YthigdblloddepaaGreat

namespace Go.Proofs.YthigdblloddepaaGreat
set_option maxRecDepth 100000
open Go.RowKit

theorem neqPc_same (e : Pc) (w : World) : (binOp .neq 37 (pcV e) (pcV e)).run Tryz.prog w = .ok (.bool false) w := by
  obtain ⟨f, c, t⟩ := e
  have h := fields_pc
  obtain ⟨fs, hfs⟩ : ∃ fs, fs = (Tryz.prog.fieldsOf 37).toList := ⟨_, rfl⟩
  rw [← hfs] at h
  match fs, h with
  | [f0, f1, f2], h =>
    simp at h
    obtain ⟨⟨a0, a1, a2⟩, ⟨b0, b1, b2⟩, c0, c1, c2⟩ := h
    rw [run_neq_struct, run_equalIn_agg _ _ _ _ _ (by kernel_rfl) (by kernel_rfl), ← hfs]
    have p0 : ∀ w, (part 3 #[.int .i64 f, .int .i64 c, .string t] 0).run Tryz.prog w = .ok (.int .i64 f) w := fun w => by rfl
    have p1 : ∀ w, (part 3 #[.int .i64 f, .int .i64 c, .string t] 1).run Tryz.prog w = .ok (.int .i64 c) w := fun w => by rfl
    have p2 : ∀ w, (part 9 #[.int .i64 f, .int .i64 c, .string t] 2).run Tryz.prog w = .ok (.string t) w := fun w => by rfl
    simp [Op.eqFields, a0, a1, a2, b0, b1, b2, c0, c1, c2, p0, p1, p2, run_equalIn_int _ _ _ _ _ _ _ Tryz.underlying3, run_equalIn_string _ _ _ _ _ Tryz.underlying9]
set_option maxHeartbeats 1000000 in
theorem vPcs_same (v u : Value) (ls : List Pc) (w : World) (hv : PcsAt w v ls) (hu : PcsAt w u ls) (hn : ls.length ≤ 2097152) :
    Calls Tryz.prog 11 #[v, u] w fun e w' => e = .returned (.bool true) ∧ Below w.heap.size w w' := by
  obtain ⟨a, cap, rfl, hcap, hC⟩ := pc_cells hv
  obtain ⟨a', cap', rfl, hcap', hD⟩ := pc_cells hu
  obtain ⟨n, hnn⟩ : ∃ n, n = ls.length := ⟨_, rfl⟩
  rw [← hnn] at hn hcap hcap' ⊢
  have HN := Lib.hid hnn
  have HC := Lib.hid hC
  have HD := Lib.hid hD
  have hnnn : ((n : Int) != (n : Int)) = false := by simp
  clear hv hu hnn hC hD
  go_enter Tryz.func11, Tryz.ntmps11
  go_wp2_with fail
  go_loopw [5] (fun i wr => ∃ k : Nat, k ≤ n ∧ i = .int .i64 k ∧ Below w.heap.size w wr) (fun i _ => n - (intOf i).toNat)
  case atStart => exact ⟨0, Nat.zero_le _, rfl, Below.refl _ _⟩
  case round =>
    obtain ⟨k, hk, rfl, hbel⟩ := hrel
    by_cases hlt : k < n
    · obtain ⟨e, he⟩ : ∃ e, ls[k]? = some e := ⟨_, List.getElem?_eq_getElem (by rw [← HN.out]; exact hlt)⟩
      obtain ⟨bk, o, rfl, g0, g1, g2⟩ := HC.out wr hbel k e he
      obtain ⟨bk', o', rfl, d0, d1, d2⟩ := HD.out wr hbel k e he
      have hcmp := fun w => neqPc_same e w
      obtain ⟨f, c, t⟩ := e
      dsimp only [pcV] at hcmp g0 g1 g2 d0 d1 d2
      clear he HC HD
      go_wp2_with fail
      go_quiet (fail)
      go_wp2
      go_roundw
      case rel => exact ⟨k + 1, by omega, by go_num, below_drewP hbel nq⟩
      case measure => simp [intOf]; omega
    · go_wp2
      go_ret
      exact ⟨rfl, hbel⟩
/-- The plain book: one entry, two strokes. -/
def bookE : List Ent := [([1048576], ⟨#[123, 94, 115, 125]⟩)]
def bookX : List Int := [1048576, 262144]
theorem book_ok : sgB bookE bookX = true := by kernel_rfl
theorem intsAt_set {w : World} {b T : Nat} {u y x : Value} {xs : List Int} (h : IntsAt w u xs) (hb : BoxV w b T y) (hy : ∀ i, y ≠ .int .i64 i) : IntsAt (w.setCell ⟨b, 0, none⟩ x) u xs := by
  obtain ⟨a, cap, hv, hc, h⟩ := h
  refine ⟨a, cap, hv, hc, ?_⟩
  rcases h with h | ⟨bk, o, ha, hk, h⟩
  · exact .inl h
  · refine .inr ⟨bk, o, ha, by rw [World.size_setCell]; exact hk, fun j z hz => ?_⟩
    have hq := h j z hz
    rw [World.cell?_setCell_other _ _ _ _ ?_]
    · exact hq
    · intro e
      rw [← e, hb.cell] at hq
      injection hq with hq
      exact hy _ hq
theorem book_new (w : World) (b : Nat) (x : Value) (hb : b < w.heap.size) (W : World)
    (hW : W = (((w.alloc (.cells #[.int .i64 1048576] 3)).alloc (.cells #[.slice (some ⟨w.heap.size, 0, none⟩) 1 1, .string ⟨#[123, 94, 115, 125]⟩] 58)).alloc (.cells #[.int .i64 1048576, .int .i64 262144] 3)).setCell ⟨b, 0, none⟩ x) :
    EntsAt W (.slice (some ⟨w.heap.size + 1, 0, none⟩) 1 1) bookE ∧ IntsAt W (.slice (some ⟨w.heap.size + 1 + 1, 0, none⟩) 2 2) bookX := by
  obtain ⟨W1, h1⟩ : ∃ W1, W1 = w.alloc (.cells #[.int .i64 1048576] 3) := ⟨_, rfl⟩
  obtain ⟨W2, h2⟩ : ∃ W2, W2 = W1.alloc (.cells #[.slice (some ⟨w.heap.size, 0, none⟩) 1 1, .string ⟨#[123, 94, 115, 125]⟩] 58) := ⟨_, rfl⟩
  obtain ⟨W3, h3⟩ : ∃ W3, W3 = W2.alloc (.cells #[.int .i64 1048576, .int .i64 262144] 3) := ⟨_, rfl⟩
  have s1 : W1.heap.size = w.heap.size + 1 := by rw [h1, World.size_alloc]
  have s2 : W2.heap.size = w.heap.size + 1 + 1 := by rw [h2, World.size_alloc, s1]
  have s3 : W3.heap.size = w.heap.size + 1 + 1 + 1 := by rw [h3, World.size_alloc, s2]
  have b2 : Below W1.heap.size W1 W2 := by rw [h2]; exact below_al _ _
  have b3 : Below W2.heap.size W2 W3 := by rw [h3]; exact below_al _ _
  have c0 : W3.cell? ⟨w.heap.size, 0, none⟩ = some (.int .i64 1048576) := by
    rw [b3.cell (p := ⟨w.heap.size, 0, none⟩) (by show w.heap.size < _; omega), b2.cell (p := ⟨w.heap.size, 0, none⟩) (by show w.heap.size < _; omega), h1, cell_new]; rfl
  have c1 : ∀ i, W3.cell? ⟨w.heap.size + 1, i, none⟩ = (#[.slice (some ⟨w.heap.size, 0, none⟩) 1 1, .string ⟨#[123, 94, 115, 125]⟩] : Array Value)[i]? := fun i => by
    rw [b3.cell (p := ⟨w.heap.size + 1, i, none⟩) (by show w.heap.size + 1 < _; omega), h2, ← s1, cell_new]
  have c2 : ∀ i, W3.cell? ⟨w.heap.size + 1 + 1, i, none⟩ = (#[.int .i64 1048576, .int .i64 262144] : Array Value)[i]? := fun i => by rw [h3, ← s2, cell_new]
  rw [← h1, ← h2, ← h3] at hW
  have hc : ∀ k i, b < k → W.cell? ⟨k, i, none⟩ = W3.cell? ⟨k, i, none⟩ := fun k i hk => by rw [hW, World.cell?_setCell_other _ _ _ _ (by intro e; injection e; omega)]
  have hs : W.heap.size = w.heap.size + 1 + 1 + 1 := by rw [hW, World.size_setCell, s3]
  constructor
  · refine ⟨_, _, rfl, Nat.le_refl _, .inr ⟨_, _, rfl, by omega, fun j e he => ?_⟩⟩
    have hj : j = 0 := by
      have := (List.getElem?_eq_some_iff.1 he).1
      simp [bookE] at this; exact this
    subst hj
    simp only [bookE, List.getElem?_cons_zero, Option.some.injEq] at he
    subst he
    refine ⟨.slice (some ⟨w.heap.size, 0, none⟩) 1 1, (hc _ _ (by omega)).trans ((c1 _).trans rfl), (hc _ _ (by omega)).trans ((c1 _).trans rfl), ⟨_, _, rfl, Nat.le_refl _, .inr ⟨_, _, rfl, by omega, fun j z hz => ?_⟩⟩⟩
    have hj : j = 0 := by
      have := (List.getElem?_eq_some_iff.1 hz).1
      simp at this; exact this
    subst hj
    simp only [List.getElem?_cons_zero, Option.some.injEq] at hz
    subst hz
    exact (hc _ _ (by omega)).trans c0
  · refine ⟨_, _, rfl, Nat.le_refl _, .inr ⟨_, _, rfl, by omega, fun j z hz => ?_⟩⟩
    have hj : j < 2 := by
      have := (List.getElem?_eq_some_iff.1 hz).1
      simp [bookX] at this; exact this
    refine (hc _ _ (by omega)).trans ((c2 _).trans ?_)
    rcases (show j = 0 ∨ j = 1 by omega) with rfl | rfl
    · simp [bookX] at hz; subst hz; rfl
    · simp [bookX] at hz; subst hz; rfl
set_option maxHeartbeats 4000000 in
theorem vBook_any (a : Option Addr) (n cap : Nat) (w : World) (h : CodeAt w a n) :
    Calls Tryz.prog 7 #[.slice a n cap] w fun r w' => (∃ (v : Value) (es : List Ent) (u : Value) (xs : List Int), r = .returned (.tuple #[dV v, u]) ∧ EntsAt w' v es ∧ IntsAt w' u xs ∧ sgB es xs = true ∧ es.length ≤ 60 ∧ (∀ e ∈ es, entOk e) ∧ xs.length ≤ 61) ∧ Below w.heap.size w w' := by
  have cd := fun w h => drawSegment_any a n cap w h
  unfold DPairL dV at cd
  have CD := Lib.hid cd
  have CS := Lib.hid (fun v es u xs w h hu hn hx hxn => specSegment_any v es u xs w h hu hn hx hxn)
  unfold dV at CS ⊢
  have hb0 := below_al w (.cells #[.slice none 0 0] 26)
  have H0 := Lib.hid (h.below hb0)
  have B0 := Lib.hid hb0
  have X0 := Lib.hid (BoxV.new w 26 (.slice none 0 0))
  clear h cd hb0
  go_enter Tryz.func7, Tryz.ntmps7
  go_wp2_with fail
  refine (CD.out _ H0.out).mono ?_
  rintro r w1 ⟨⟨v, us, u, xs, rfl, hr, hl, hs, hi, hxl⟩, hb⟩
  obtain ⟨va, vc, hvf⟩ := hr.form
  subst hvf
  obtain ⟨ua, uc, huf, _⟩ := hi.at
  subst huf
  obtain ⟨w2, hw2⟩ : ∃ W, W = w1.alloc (.cells #[.slice va us.length vc] 26) := ⟨_, rfl⟩
  have hbA : Below w1.heap.size w1 w2 := by rw [hw2]; exact below_al _ _
  have D2 : Hid (BoxV w2 w1.heap.size 26 (.slice va us.length vc)) := by rw [hw2]; exact BoxV.new _ _ _
  have X1 := Lib.hid (X0.out.below hb X0.out.lt)
  have X2 := Lib.hid (X1.out.below hbA X1.out.lt)
  have B2 := Lib.hid (below_step (below_step B0.out hb) hbA)
  have E2 := Lib.hid ((hr.at.below hbA).at)
  have I2 := Lib.hid ((hi.below hbA).at)
  have hw2l : w1.heap.size < w2.heap.size := D2.out.lt
  have R2 := Lib.hid (hr.below hbA)
  have HW2 := Lib.hid hw2
  have HS := Lib.hid hs
  have cD := D2.out.cell
  rw [HW2.out] at cD
  clear hr hi hb hbA hw2 hs X0 X1 B0 H0 CD
  go_wp2_with fail
  rw [← HW2.out]
  refine (CS.out _ _ _ _ _ E2.out I2.out (by rw [List.length_map]; omega) (fun e he => by obtain ⟨p, hp, rfl⟩ := List.mem_map.1 he; have := HS.out p hp; exact ⟨by omega, by omega⟩) (by omega)).mono ?_
  rintro r w3 ⟨⟨y, rfl, _⟩, hb3⟩
  have D3 := Lib.hid (D2.out.below hb3 D2.out.lt)
  have X3 := Lib.hid (X2.out.below hb3 X2.out.lt)
  have B3 := Lib.hid (below_step B2.out hb3)
  have I3 := Lib.hid (I2.out.below hb3)
  have R3 := Lib.hid (R2.out.below hb3)
  have cR := X3.out.cell
  have fR := X3.out.frozen
  have cE := D3.out.cell
  clear cD HW2 D2 X2 B2 I2 R2 E2 CS
  cases hsg : sgB (us.map (·.2)) xs with
  | true =>
    have HG := Lib.hid hsg
    clear hsg
    go_wp2
    refine bodyPost_ret (results_dt2 rfl _ _ w.heap.size _ rfl (X3.out.set _)) rfl ?_
    exact ⟨⟨_, us.map (·.2), _, xs, rfl, (R3.out.setCell (by simp)).at.at, intsAt_set I3.out X3.out (by simp), HG.out, by rw [List.length_map]; exact hl, fun e he => by obtain ⟨p, hp, rfl⟩ := List.mem_map.1 he; have := HS.out p hp; exact ⟨by omega, by omega⟩, hxl⟩, B3.out.setCell (p := ⟨w.heap.size, 0, none⟩) (Nat.le_refl _) _⟩
  | false =>
    clear hsg
    obtain ⟨w4, h4⟩ : ∃ W, W = ((w3.alloc (.cells #[.int .i64 1048576] 3)).alloc (.cells #[.slice (some ⟨w3.heap.size, 0, none⟩) 1 1, .string ⟨#[123, 94, 115, 125]⟩] 58)).alloc (.cells #[.int .i64 1048576, .int .i64 262144] 3) := ⟨_, rfl⟩
    have hb4 : Below w3.heap.size w3 w4 := by rw [h4]; exact below_step (below_al2 _ _ _) (below_al _ _)
    have X4 := Lib.hid (X3.out.below hb4 X3.out.lt)
    have B4 := Lib.hid (below_step B3.out hb4)
    have N4 := Lib.hid (book_new w3 w.heap.size (.slice (some ⟨w3.heap.size + 1, 0, none⟩) 1 1) X3.out.lt _ rfl)
    rw [← h4] at N4
    have cR := X4.out.cell
    have fR := X4.out.frozen
    have H4 := Lib.hid h4
    rw [H4.out] at cR fR
    clear hb4 h4
    go_wp2
    rw [← H4.out]
    refine bodyPost_ret (results_dt2 rfl _ _ w.heap.size _ rfl (X4.out.set _)) rfl ?_
    exact ⟨⟨_, bookE, _, bookX, rfl, N4.out.1, N4.out.2, book_ok, by decide, fun e he => by simp [bookE] at he; subst he; exact ⟨by decide, by decide⟩, by decide⟩, B4.out.setCell (p := ⟨w.heap.size, 0, none⟩) (Nat.le_refl _) _⟩
end Go.Proofs.YthigdblloddepaaGreat

namespace Go.Proofs.YthigdblloddepaaGreat.fnFewest
open Go.ChangeShapes Go.WideShapes Go.ChangeAt Go.RowKit
open Go.ChangeMaps (open_string shut_string)
set_option linter.unusedVariables false
set_option maxRecDepth 100000

theorem own : ownKnob Tryz.prog.godebug = none := by kernel_rfl
theorem laidOut : laidOutB Tryz.prog = true := by kernel_rfl

/-- A slice of integers that came in. -/
def IsRow (k : IntKind) (w : World) (a : Option Addr) (len cap : Nat) (zs : List Int) : Prop :=
  (a = none ∧ len = 0 ∧ cap = 0 ∧ zs = []) ∨
  ∃ x, a = some x ∧ len ≤ cap ∧ cap ≤ maxLen ∧ zs.length = cap ∧ (∀ i, i < zs.length → w.cell? (x.add i) = some (.int k (zs.getD i 0))) ∧ ∀ n ∈ zs, (Lit.int k n).wf = true

theorem code_of {w : World} {a : Option Addr} {n c : Nat} {z : List Int} (h : IsRow .u8 w a n c z) (hn : n ≤ 1000000) : CodeAt w a n := by
  refine ⟨hn, fun h0 => ?_⟩
  rcases h with ⟨rfl, rfl, rfl, rfl⟩ | ⟨x, rfl, hl, hm, hz, hcell, hwz⟩
  · omega
  · obtain ⟨b, o, spot⟩ := x
    have h1 := hcell 0 (by omega)
    have hspot : spot = none := by simpa [Addr.add] using World.cell?_spot h1
    subst hspot
    refine ⟨b, o, rfl, ?_, fun i hi => ?_⟩
    · have : (w.cell? ⟨b, o, none⟩).isSome := by have := h1; simp [Addr.add] at this; rw [this]; rfl
      rcases Nat.lt_or_ge b w.heap.size with h' | h'
      · exact h'
      · simp [World.cell?, Array.getElem?_eq_none h'] at this
    · have h2 := hcell i (by omega)
      have h3 := bounds_u8 (hwz (z.getD i 0) (by rw [List.getD_eq_getElem?_getD, List.getElem?_eq_getElem (by omega)]; exact List.getElem_mem _))
      refine ⟨z.getD i 0, h3.1, h3.2, ?_⟩
      by_cases hi0 : i = 0
      · subst hi0; simpa [Addr.add] using h2
      · simpa [Addr.add, hi0] using h2
theorem row_len {w : World} {a : Option Addr} {n c : Nat} {z : List Int} (h : IsRow .u8 w a n c z) : n ≤ maxLen := by
  rcases h with ⟨_, rfl, _, _⟩ | ⟨x, _, hl, hm, _⟩
  · exact Nat.zero_le _
  · omega
/-! ### THE WALK: the Go text returns true, and writes nothing that was there. -/
set_option maxRecDepth 100000 in
set_option maxHeartbeats 8000000 in
theorem walk (a0 : Option Addr) (n0 c0 : Nat) (z0 : List Int) (w : World) (hS : w.ShapedOpen Tryz.prog)  (w0 : IsRow .u8 w a0 n0 c0 z0) :
    Calls Tryz.prog 4 #[.slice a0 n0 c0] w fun e w' => e = .returned (.bool true) ∧ Below w.heap.size w w' := by
  have hnm := row_len w0
  by_cases hbig : 65536 < n0
  · have C := Lib.hid (big_yes a0 n0 c0 w hbig hnm)
    clear w0 hS hnm
    go_enter Tryz.func4, Tryz.ntmps4
    go_wp2_with fail
    refine C.out.mono ?_
    rintro e w1 ⟨rfl, rfl⟩
    go_wp2
    go_ret
    exact ⟨rfl, Below.refl _ _⟩
  · have C := Lib.hid (big_no a0 n0 c0 w (by omega))
    have HC0 := Lib.hid (code_of w0 (by omega))
    have cdr := fun w h => vBook_any a0 n0 c0 w h
    unfold dV at cdr
    have CDR := Lib.hid cdr
    clear w0 hS hnm hbig cdr
    go_enter Tryz.func4, Tryz.ntmps4
    go_wp2_with fail
    refine C.out.mono ?_
    rintro e w0 ⟨rfl, rfl⟩
    go_wp2_with fail
    refine (CDR.out _ HC0.out).mono ?_
    rintro e w1 ⟨⟨v, es, u, xs, rfl, hv, hu, hsg, hen, hex, hxl⟩, hb1⟩
    have hn2 : es.length ≤ 2097152 := by omega
    have hxn : xs.length ≤ 2097152 := by omega
    obtain ⟨va, vc, rfl, hvc⟩ := hv.len
    obtain ⟨ua, uc, huf, _⟩ := id hu
    subst huf
    have ci := fun w h hu => FewestPieces_any (.slice va es.length vc) es (.slice ua xs.length uc) xs w h hu hn2 hex hxn
    have cs := fun w h hu => specFewestPieces_any (.slice va es.length vc) es (.slice ua xs.length uc) xs w h hu hn2 hex hxn
    have ck := fun lv ls w h hu hl hln => IsSegmentation_any (.slice va es.length vc) es (.slice ua xs.length uc) xs lv ls w h hu hl hn2 hex hxn hln
    have cg := fun w h hu => Segment_any (.slice va es.length vc) es (.slice ua xs.length uc) xs w h hu hn2 hex hxn
    unfold dV at ci cs ck cg
    unfold fwL at cs
    unfold sgL at cg
    simp only [hsg, if_true] at ci cs ck cg
    have hlp := Pl.opt_len es xs 0
    have hlq := Pl.segP_len es xs 0
    have hcost := Pl.opt_best es xs _ 0 (Pl.segP_seg es xs 0 (Nat.zero_le _))
    have hseg : isB es xs (Pl.opt es xs 0) = true := by
      unfold isB
      rw [hsg, Pl.segB_seg (okD_fine (by unfold sgB at hsg; rw [Bool.and_eq_true] at hsg; exact hsg.1)) _ 0 (Pl.opt_seg es xs 0 (Nat.zero_le _))]
      rfl
    have h60 : xs.length ≤ 60 := by
      unfold sgB okS60 at hsg
      simp at hsg
      omega
    obtain ⟨ps, hps⟩ : ∃ ps, ps = Pl.opt es xs 0 := ⟨_, rfl⟩
    obtain ⟨qs, hqs⟩ : ∃ qs, qs = Pl.segP es xs 0 := ⟨_, rfl⟩
    rw [← hps] at ci cs hlp hcost hseg
    rw [← hqs] at cg hlq hcost
    have hcl := Pl.cost_le (by omega) (by omega) hcost
    have ckk := fun lv w h hu hl => ck lv ps w h hu hl (by omega)
    rw [hseg] at ckk
    have cv := fun v u w hv hu => vPcs_same v u ps w hv hu (by omega)
    have ca := fun v w h => CountUntranslated_any v ps w h (by omega)
    have cb := fun v w h => CountUntranslated_any v qs w h (by omega)
    obtain ⟨W, hW⟩ : ∃ W, W = w1.alloc (.cells #[.slice va es.length vc] 26) := ⟨_, rfl⟩
    have hbA : Below w1.heap.size w1 W := by rw [hW]; exact below_al _ _
    have E0 := Lib.hid (hv.below hbA)
    have X0 : Hid (BoxV W w1.heap.size 26 (.slice va es.length vc)) := by rw [hW]; exact BoxV.new _ _ _
    have I0 := Lib.hid (hu.below hbA)
    have B0 := Lib.hid (below_step hb1 hbA)
    have HW := Lib.hid hW
    have cX := X0.out.cell
    rw [HW.out] at cX
    have CI := Lib.hid ci
    have CS := Lib.hid cs
    have CK := Lib.hid ckk
    have CG := Lib.hid cg
    have CV := Lib.hid cv
    have CA := Lib.hid ca
    have CB := Lib.hid cb
    have HL := Lib.hid hcl
    clear ci cs ck ckk cg cv ca cb hb1 hbA hW hu hv hsg hcl hcost hseg hps hqs hlp hlq hn2 hxn h60 hen hex hxl HC0 C CDR
    go_wp2_with fail
    rw [← HW.out]
    refine (CI.out W E0.out I0.out).mono ?_
    rintro e v1 ⟨⟨y, rfl, hy⟩, hb⟩
    have X1 := Lib.hid (X0.out.below hb X0.out.lt)
    have E1 := Lib.hid (E0.out.below hb)
    have I1 := Lib.hid (I0.out.below hb)
    have D1 := Lib.hid hb
    have P1 := Lib.hid (ownP_at hy)
    have cX := X1.out.cell
    obtain ⟨ya, yc, rfl, _, _⟩ := pc_cells P1.out
    clear hb hy X0 E0 I0 HW CI
    go_wp2_with fail
    refine (CS.out v1 E1.out I1.out).mono ?_
    rintro e v2 ⟨⟨z, rfl, hz⟩, hb⟩
    have X2 := Lib.hid (X1.out.below hb X1.out.lt)
    have E2 := Lib.hid (E1.out.below hb)
    have I2 := Lib.hid (I1.out.below hb)
    have P2 := Lib.hid (P1.out.below hb)
    have D2 := Lib.hid (D1.out.trans (hb.mono D1.out.size))
    have Z2 := Lib.hid (ownP_at hz)
    have cX := X2.out.cell
    clear hb hz X1 E1 I1 D1 P1 CS
    go_wp2_with fail
    refine (CK.out _ v2 E2.out I2.out P2.out).mono ?_
    rintro e v3 ⟨rfl, hb⟩
    have X3 := Lib.hid (X2.out.below hb X2.out.lt)
    have E3 := Lib.hid (E2.out.below hb)
    have I3 := Lib.hid (I2.out.below hb)
    have P3 := Lib.hid (P2.out.below hb)
    have Z3 := Lib.hid (Z2.out.below hb)
    have D3 := Lib.hid (D2.out.trans (hb.mono D2.out.size))
    have cX := X3.out.cell
    clear hb X2 E2 I2 D2 P2 Z2 CK
    go_wp2_with fail
    refine (CG.out v3 E3.out I3.out).mono ?_
    rintro e v4 ⟨⟨q, rfl, hq⟩, hb⟩
    have P4 := Lib.hid (P3.out.below hb)
    have Z4 := Lib.hid (Z3.out.below hb)
    have Q4 := Lib.hid (ownP_at hq)
    have D4 := Lib.hid (D3.out.trans (hb.mono D3.out.size))
    obtain ⟨qa, qc, rfl, _, _⟩ := pc_cells Q4.out
    clear hb hq X3 E3 I3 D3 P3 Z3 CG
    go_wp2_with fail
    refine (CV.out _ _ v4 P4.out Z4.out).mono ?_
    rintro e v5 ⟨rfl, hb⟩
    have P5 := Lib.hid (P4.out.below hb)
    have Q5 := Lib.hid (Q4.out.below hb)
    have D5 := Lib.hid (D4.out.trans (hb.mono D4.out.size))
    clear hb P4 Z4 Q4 D4 CV
    go_wp2_with fail
    refine (CA.out _ v5 P5.out).mono ?_
    rintro e v6 ⟨rfl, hb⟩
    have Q6 := Lib.hid (Q5.out.below hb)
    have D6 := Lib.hid (D5.out.trans (hb.mono D5.out.size))
    clear hb P5 Q5 D5 CA
    go_wp2_with fail
    refine (CB.out _ v6 Q6.out).mono ?_
    rintro e v7 ⟨rfl, hb⟩
    have hfin := below_step B0.out (D6.out.trans (hb.mono D6.out.size))
    have hl := HL.out
    obtain ⟨a, ha⟩ : ∃ a, a = Pl.untr ps := ⟨_, rfl⟩
    obtain ⟨b, hb'⟩ : ∃ b, b = Pl.untr qs := ⟨_, rfl⟩
    obtain ⟨m, hm⟩ : ∃ m, m = ps.length := ⟨_, rfl⟩
    obtain ⟨k, hk⟩ : ∃ k, k = qs.length := ⟨_, rfl⟩
    rw [← ha, ← hb', ← hm, ← hk] at hl
    rw [← ha, ← hb', ← hm, ← hk]
    clear hb ha hb' hm hk HL Q6 D6 CB cX
    rcases hl with h1 | ⟨rfl, h2⟩
    · have h1' : (a : Int) < (b : Int) := by omega
      go_wp2
      go_ret
      exact ⟨rfl, hfin⟩
    · have h2' : (m : Int) ≤ (k : Int) := by omega
      have h1' : ¬ (a : Int) < (a : Int) := by omega
      go_wp2
      go_ret
      exact ⟨rfl, hfin⟩

/-! ### THE ROW's STEP -/
set_option maxRecDepth 100000 in
theorem contract (H : Type) (enc : TypeId × Value → H) (W : World) (base : Nat) (args : Array Value) (ds gs : List (DataW H)) (before : List MemPlace)
    (hval : ∀ (j : Nat) t v, Tryz.f4.params[j]? = some t → args[j]? = some v → Value.okWide Tryz.prog W .any base t v)
    (hW : DataW.Whole enc Tryz.prog Tryz.f4.params.toList Rows.fnFewestSpec.vars false W args.toList ds gs before) (hL : laidMetH Tryz.prog Rows.fnFewestRow.laid W) (hS : W.ShapedOpen Tryz.prog) :
    Calls Tryz.prog 4 args W fun e W' => ∃ v, e = .returned v ∧ Rows.fnFewestSpec.post enc Tryz.prog Tryz.f4 false true false false W args v W' := by
  have hW' := hW
  obtain ⟨p, q, hA0, hV, rfl, hfz, hnd⟩ := hW
  have hA : DataW.TrodAll enc Tryz.prog W 0 (fun _ => true) true Tryz.f4.params.toList args.toList ds p := hA0
  rw [Tryz.params4] at hA hval
  obtain ⟨v0, vs0, d0, ds0, p0, q0, hargs, rfl, rfl, h0, r0⟩ := trodAll_cons hA
  obtain ⟨rfl, rfl, rfl⟩ := trodAll_nil r0
  obtain rfl : args = #[v0] := by cases args; simp_all
  obtain ⟨rfl, rfl⟩ := trodVars_none hV
  have k0 := h0
  have lt0 : ∀ x ∈ p0, x.block < W.heap.size := by obtain ⟨m, hm⟩ := k0; exact DataW.trod_lt m _ _ _ hm
  obtain ⟨a0, n0, c0, rfl⟩ := okWide_slice Tryz.underlying22 (hval 0 22 v0 rfl rfl)
  obtain ⟨z0, w0⟩ : ∃ zs, IsRow .u8 W a0 n0 c0 zs := by
    obtain ⟨fuel, hf⟩ := h0
    rcases open_ints Tryz.underlying22 Tryz.underlying5 (by kernel_rfl) hf with ⟨hcs, _⟩ | ⟨x, l, c, zs, hcs, _, hl, hm, hz, _, hcell, hwz⟩
    · simp [Value.cells] at hcs
      obtain ⟨rfl, rfl, rfl⟩ := hcs
      exact ⟨[], .inl ⟨rfl, rfl, rfl, rfl⟩⟩
    · simp [Value.cells] at hcs
      obtain ⟨rfl, rfl, rfl⟩ := hcs
      exact ⟨zs, .inr ⟨_, rfl, hl, hm, by simpa using hz, hcell, hwz⟩⟩
  clear hA0 hval
  refine (walk a0 n0 c0 z0 W hS  w0).mono fun e W' ⟨he, bel⟩ => ?_
  subst he
  exact ⟨_, rfl, _, _, _, [], _, [], hW', trodAll_mk1 (shut_bool Tryz.underlying4 _), (trodAll_cons_mk (Below.trod laidOut (by kernel_rfl) (of_decide_eq_true (by kernel_rfl)) k0 bel lt0) trodAll_mk0), rfl, bel.frame _, fun h => by cases h⟩

theorem reads (os : Os) {H : Type} (enc : TypeId × Value → H) : ∃ places, DataW.whole enc Tryz.prog ((World.holding Tryz.prog os ⟨#[], #[], []⟩).forCall (fun _ _ => 0) ⟨#[], #[.slice none 0 0], []⟩).memory Tryz.f4.params.toList Rows.fnFewestSpec.vars false (#[.slice none 0 0] : Array Value).toList 8 = some ([.nil], [], places) :=
  ⟨[], by kernel_rfl⟩

set_option maxRecDepth 100000 in
theorem lifted (os : Os) (started : os.Started) (H : Type) (enc : TypeId × Value → H) (F : Stop.Interp) :
    ReturnsInHanded {} Tryz.checked os 4 .any ((OpenSpec.ofChange Rows.fnFewestSpec).preRow enc Tryz.prog Tryz.f4 Rows.fnFewestRow.domain false Rows.fnFewestRow.laid) (((OpenSpec.ofChange Rows.fnFewestSpec).at F).post enc Tryz.prog Tryz.f4 false true false false) := by
  obtain ⟨places, hx⟩ := reads os enc
  refine returnsInHanded_of_row (C := Tryz.checked) (s := OpenSpec.ofChange Rows.fnFewestSpec) own started (by kernel_rfl) Tryz.func4
    (witness_row_atRef (enc := enc) (C := Tryz.checked) false (World.holding Tryz.prog os ⟨#[], #[], []⟩) #[.slice none 0 0] rfl (by kernel_rfl) (by kernel_rfl) (by kernel_rfl)
      (OpenSpec.preRow_of_cond 8 hx (by kernel_rfl) (fun k hk => by cases hk) (by kernel_rfl) ⟨[], rfl, List.nodup_nil, fun b off h => by cases h⟩)) ?_
  intro W base args ds gs before hval hW _ _ _ hL hS _
  exact contract H enc W base args ds gs before hval hW hL hS

theorem said : Rows.FnFewestSaid :=
  OpenClaim.holds_of_cond 4 Tryz.f4 rfl rfl rfl rfl rfl rfl rfl ⟨rfl, rfl, rfl, rfl, rfl⟩ rfl rfl rfl rfl rfl (by kernel_rfl) Tryz.func4 (by kernel_rfl)
    (of_decide_eq_true (by kernel_rfl)) (by unfold Func.isWrapper; first | (rw [if_pos (by decide +kernel)]; kernel_rfl) | (rw [if_neg (by decide +kernel)]; exact ⟨rfl, rfl⟩))
    (fun os started H enc _ F => by rw [OpenClaim.pre_eq_preRow]; exact lifted os started H enc F)

theorem proved : Rows.FnFewestSaid := said
#print axioms proved
end Go.Proofs.YthigdblloddepaaGreat.fnFewest
