/-
  CONTRACTS of the specification's chapter 11, second part: MatchAt, Segment, CountUntranslated.
-/
import Derived.Test.YthigdblloddepaaSg
namespace Go.Proofs.Ythigdblloddepaa
set_option maxRecDepth 100000
open Go.RowKit

/-- MatchAt's answer. -/
def mtB (es : List Ent) (xs : List Int) (f : Int) : Bool := okD es && okS60 xs && (decide (0 ≤ f) && decide (f ≤ (xs.length : Int) - 1))
def mtP (es : List Ent) (xs : List Int) (f : Int) : Pc := if mtB es xs f = true then Pl.matP es xs f.toNat else pc0
def mtE (es : List Ent) (xs : List Int) (f : Int) : Ending := .returned (.tuple #[pcV (mtP es xs f), .bool (mtB es xs f)])
theorem mtE_no {es : List Ent} {xs : List Int} {f : Int} (h : mtB es xs f = false) : mtE es xs f = .returned (.tuple #[pcV pc0, .bool false]) := by unfold mtE mtP; rw [h]; rfl
theorem mtE_yes {es : List Ent} {xs : List Int} {f : Int} (h : mtB es xs f = true) : mtE es xs f = .returned (.tuple #[pcV (Pl.matP es xs f.toNat), .bool true]) := by unfold mtE mtP; rw [h]; rfl
set_option maxHeartbeats 2000000 in
theorem specMatchAt_any (v : Value) (es : List Ent) (u : Value) (xs : List Int) (f : Int) (w : World) (h : EntsAt w v es) (hu : IntsAt w u xs) (hn : es.length ≤ 2097152) (hx : ∀ e ∈ es, entOk e) (hxn : xs.length ≤ 2097152) :
    Calls Try.prog 9 #[dV v, u, .int .i64 f] w fun r w' => r = mtE es xs f ∧ Below w.heap.size w w' := by
  have cg := fun w' hb => l6Good_any v es w' (h.below (w' := w') hb) hn hx
  have cs := fun w' hb => l11Strokes_any u xs w' (hu.below (w' := w') hb) hxn
  have ci := fun w => l1In_any f 0 ((xs.length : Int) - 1) w
  have CM := Lib.hid (fun i w' hb h60 hi => l11Match_any v es u xs i w' (h.below hb) (hu.below hb) hn hx h60 hi)
  have HNo := Lib.hid (fun h => mtE_no (es := es) (xs := xs) (f := f) h)
  have HYes := Lib.hid (fun h => mtE_yes (es := es) (xs := xs) (f := f) h)
  have HB : Hid (mtB es xs f = (okD es && okS60 xs && (decide (0 ≤ f) && decide (f ≤ (xs.length : Int) - 1)))) := rfl
  have P1 : ∀ v : Value, PcB ((w.alloc (.cells #[v] 33)).alloc (.cells #[.int .i64 0, .int .i64 0, .string ByteArray.empty] 28)) (w.heap.size + 1) pc0 := fun v => by
    have := PcB.new (w.alloc (.cells #[v] 33)) pc0
    rwa [World.size_alloc] at this
  have A1 : ∀ v : Value, BoxV ((w.alloc (.cells #[v] 33)).alloc (.cells #[.int .i64 0, .int .i64 0, .string ByteArray.empty] 28)) w.heap.size 33 v := fun v => (BoxV.new w _ _).below (below_al _ _) (by simp)
  obtain ⟨a, cap, rfl, hcap, _⟩ := h.cells
  obtain ⟨ua, uc, rfl, huc, _⟩ := hu.cells
  obtain ⟨n, hnn⟩ : ∃ n, n = xs.length := ⟨_, rfl⟩
  obtain ⟨dn, hdn⟩ : ∃ n, n = es.length := ⟨_, rfl⟩
  have HX60 := Lib.hid (fun h : okS60 xs = true => (okS60_yes h).1)
  rw [← hnn] at cs ci CM HB huc HX60 hxn ⊢
  unfold dV at cg CM ⊢
  rw [← hdn] at cg CM hcap ⊢
  have A2 := Lib.hid (A1 (.slice a dn cap))
  have P2 := Lib.hid (P1 (.slice a dn cap))
  have BX := Lib.hid (below_al2 w (.cells #[.slice a dn cap] 33) (.cells #[.int .i64 0, .int .i64 0, .string ByteArray.empty] 28))
  clear A1 P1 h hu hnn hdn
  obtain ⟨bD, hbD⟩ : ∃ b, b = okD es := ⟨_, rfl⟩
  obtain ⟨bS, hbS⟩ : ∃ b, b = okS60 xs := ⟨_, rfl⟩
  obtain ⟨bI, hbI⟩ : ∃ b, b = (decide (0 ≤ f) && decide (f ≤ (n : Int) - 1)) := ⟨_, rfl⟩
  rw [← hbD, ← hbS, ← hbI] at HB
  rw [← hbD] at cg
  rw [← hbS] at cs HX60
  rw [← hbI] at ci
  have CG := Lib.hid cg
  have CS := Lib.hid cs
  have CI := Lib.hid ci
  have HbI := Lib.hid hbI
  clear cg cs ci hbD hbS hbI hx hn
  go_enter Try.func9, Try.ntmps9
  cases bD
  · have HF := Lib.hid (HNo.out (by rw [HB.out]; rfl))
    go_wp2_with fail
    refine (CG.out _ BX.out).mono ?_
    rintro r w1 ⟨rfl, hb⟩
    have P3 := Lib.hid (P2.out.below hb P2.out.lt)
    have B1 := Lib.hid (below_step BX.out hb)
    have h4 := Lib.hid (P3.out.row pc0)
    have hb4 := Lib.hid (below_setRow B1.out (Nat.le_succ _) #[.int .i64 pc0.1, .int .i64 pc0.2.1, .string pc0.2.2])
    clear hb HNo HYes HB CG CS CI CM P2 A2
    go_wp2_with (with_reducible (show wpList _ _ _ (_ :: _) _ _); refine pc_store rfl _ _ rfl (w.heap.size + 1) pc0 pc0 rfl rfl P3.out ?_)
    (try simp only [Exit.inBlock, Exit.then])
    refine bodyPost_ret (results_pc2 rfl _ _ (w.heap.size + 1) pc0 rfl h4.out) rfl ?_
    exact ⟨HF.out.symm, hb4.out⟩
  · cases bS
    · have HF := Lib.hid (HNo.out (by rw [HB.out]; rfl))
      go_wp2_with fail
      refine (CG.out _ BX.out).mono ?_
      rintro r w1 ⟨rfl, hb⟩
      have P3 := Lib.hid (P2.out.below hb P2.out.lt)
      have B1 := Lib.hid (below_step BX.out hb)
      clear hb CG
      go_wp2_with fail
      refine (CS.out _ B1.out).mono ?_
      rintro r w2 ⟨rfl, rfl⟩
      have h4 := Lib.hid (P3.out.row pc0)
      have hb4 := Lib.hid (below_setRow B1.out (Nat.le_succ _) #[.int .i64 pc0.1, .int .i64 pc0.2.1, .string pc0.2.2])
      clear HNo HYes HB CS CI CM P2 A2
      go_wp2_with (with_reducible (show wpList _ _ _ (_ :: _) _ _); refine pc_store rfl _ _ rfl (w.heap.size + 1) pc0 pc0 rfl rfl P3.out ?_)
      (try simp only [Exit.inBlock, Exit.then])
      refine bodyPost_ret (results_pc2 rfl _ _ (w.heap.size + 1) pc0 rfl h4.out) rfl ?_
      exact ⟨HF.out.symm, hb4.out⟩
    · have h60 := HX60.out (by first | rfl | trivial)
      cases bI
      · have HF := Lib.hid (HNo.out (by rw [HB.out]; rfl))
        go_wp2_with fail
        refine (CG.out _ BX.out).mono ?_
        rintro r w1 ⟨rfl, hb⟩
        have P3 := Lib.hid (P2.out.below hb P2.out.lt)
        have B1 := Lib.hid (below_step BX.out hb)
        clear hb CG
        go_wp2_with fail
        refine (CS.out _ B1.out).mono ?_
        rintro r w2 ⟨rfl, rfl⟩
        go_wp2_with fail
        refine (CI.out _).mono ?_
        rintro r w2 ⟨rfl, rfl⟩
        have h4 := Lib.hid (P3.out.row pc0)
        have hb4 := Lib.hid (below_setRow B1.out (Nat.le_succ _) #[.int .i64 pc0.1, .int .i64 pc0.2.1, .string pc0.2.2])
        clear HNo HYes HB CS CI CM P2 A2
        go_wp2_with (with_reducible (show wpList _ _ _ (_ :: _) _ _); refine pc_store rfl _ _ rfl (w.heap.size + 1) pc0 pc0 rfl rfl P3.out ?_)
        (try simp only [Exit.inBlock, Exit.then])
        refine bodyPost_ret (results_pc2 rfl _ _ (w.heap.size + 1) pc0 rfl h4.out) rfl ?_
        exact ⟨HF.out.symm, hb4.out⟩
      · have HF := Lib.hid (HYes.out (by rw [HB.out]; rfl))
        have hI := HbI.out
        symm at hI
        rw [Bool.and_eq_true, decide_eq_true_eq, decide_eq_true_eq] at hI
        obtain ⟨i, hi⟩ : ∃ i : Nat, f = (i : Int) := ⟨f.toNat, by omega⟩
        have hin : i < n := by omega
        subst hi
        rw [Int.toNat_natCast] at HF
        obtain ⟨R, hR⟩ : ∃ R, R = Pl.matP es xs i := ⟨_, rfl⟩
        have cm := fun w' hb => CM.out i w' hb h60 hin
        rw [← hR] at HF cm
        have CM1 := Lib.hid cm
        clear hR cm CM hI
        go_wp2_with fail
        refine (CG.out _ BX.out).mono ?_
        rintro r w1 ⟨rfl, hb⟩
        have A3 := Lib.hid (A2.out.below hb A2.out.lt)
        have P3 := Lib.hid (P2.out.below hb P2.out.lt)
        have B1 := Lib.hid (below_step BX.out hb)
        clear hb CG P2 A2
        go_wp2_with fail
        refine (CS.out _ B1.out).mono ?_
        rintro r w2 ⟨rfl, rfl⟩
        go_wp2_with fail
        refine (CI.out _).mono ?_
        rintro r w2 ⟨rfl, rfl⟩
        have c3 := A3.out.cell
        go_wp2_with fail
        refine (CM1.out _ B1.out).mono ?_
        rintro r w3 ⟨rfl, hb⟩
        have P4 := Lib.hid (P3.out.below hb P3.out.lt)
        have B3 := Lib.hid (below_step B1.out hb)
        have h4 := Lib.hid (P4.out.row R)
        have hb4 := Lib.hid (below_setRow B3.out (Nat.le_succ _) #[.int .i64 R.1, .int .i64 R.2.1, .string R.2.2])
        clear hb HNo HYes HB CS CI CM1 P3 A3 c3 B1
        go_wp2_with (with_reducible (show wpList _ _ _ (_ :: _) _ _); refine pc_store rfl _ _ rfl (w.heap.size + 1) R pc0 rfl rfl P4.out ?_)
        (try simp only [Exit.inBlock, Exit.then])
        refine bodyPost_ret (results_pc2 rfl _ _ (w.heap.size + 1) R rfl h4.out) rfl ?_
        exact ⟨HF.out.symm, hb4.out⟩
/-- The last piece of an own row. -/
theorem ownP_last {w : World} {base : Nat} {v : Value} {ls : List Pc} {e : Pc} (h : OwnP w base v (ls ++ [e])) :
    ∃ g cap, v = .slice (some ⟨g, 0, none⟩) (ls.length + 1) cap ∧ ls.length + 1 ≤ cap ∧ base ≤ g ∧ g < w.heap.size ∧ w.cell? ⟨g, ls.length * 3, none⟩ = some (.int .i64 e.1) ∧ w.cell? ⟨g, ls.length * 3 + 1, none⟩ = some (.int .i64 e.2.1) ∧ w.cell? ⟨g, ls.length * 3 + 2, none⟩ = some (.string e.2.2) := by
  rcases ownP_own h with ⟨h0, _⟩ | ⟨g, cap, rfl, hc, hg, h0, hr⟩
  · rw [List.length_append] at h0; simp at h0
  · rw [List.length_append] at hc ⊢
    have := hr.2.1 ls.length (by rw [List.length_append]; simp)
    have he : (ls ++ [e]).getD ls.length pc0 = e := by simp [List.getD]
    dsimp only at this
    rw [he] at this
    exact ⟨g, cap, rfl, hc, hg, hr.1, this.1, this.2.1, this.2.2⟩
set_option maxHeartbeats 2000000 in
theorem l11Segment_any (v : Value) (es : List Ent) (u : Value) (xs : List Int) (w : World) (h : EntsAt w v es) (hu : IntsAt w u xs) (hn : es.length ≤ 2097152) (hx : ∀ e ∈ es, entOk e) (hxn : xs.length ≤ 60) :
    Calls Try.prog 40 #[dV v, u] w fun r w' => (∃ y, r = .returned y ∧ OwnP w' w.heap.size y (Pl.segP es xs 0)) ∧ Below w.heap.size w w' := by
  have CM := Lib.hid (fun i w' hb hi => l11Match_any v es u xs i w' (h.below hb) (hu.below hb) hn hx hxn hi)
  have HNext := Lib.hid (fun i (hi : i < xs.length) => Pl.segP_next (es := es) hi)
  have HEnd := Lib.hid (fun i (hi : ¬ i < xs.length) => Pl.segP_end (es := es) hi)
  have HCnt := Lib.hid (fun i (hi : i < xs.length) => Pl.cntP_ok (es := es) hi)
  obtain ⟨a, cap, rfl, hcap, _⟩ := h.cells
  obtain ⟨ua, uc, rfl, huc, _⟩ := hu.cells
  obtain ⟨n, hnn⟩ : ∃ n, n = xs.length := ⟨_, rfl⟩
  obtain ⟨dn, hdn⟩ : ∃ n, n = es.length := ⟨_, rfl⟩
  rw [← hnn] at CM HNext HEnd HCnt hxn huc ⊢
  unfold dV at CM ⊢
  rw [← hdn] at CM hcap ⊢
  obtain ⟨M, hM⟩ : ∃ M : Nat → Pc, M = fun i => Pl.matP es xs i := ⟨_, rfl⟩
  obtain ⟨C, hC⟩ : ∃ C : Nat → Nat, C = fun i => Pl.cntP es xs i := ⟨_, rfl⟩
  obtain ⟨S, hS⟩ : ∃ S : Nat → List Pc, S = fun i => Pl.segP es xs i := ⟨_, rfl⟩
  have CM1 : Hid (∀ i w', Below w.heap.size w w' → i < n → Calls Try.prog 35 #[.agg #[.slice a dn cap], .slice ua n uc, .int .i64 (i : Int)] w' fun r w'' => r = .returned (pcV (M i)) ∧ Below w'.heap.size w' w'') := by rw [hM]; exact CM.out
  have HNx : Hid (∀ i, i < n → S i = M i :: S (i + C i)) := by rw [hM, hC, hS]; exact HNext.out
  have HEn : Hid (∀ i, ¬ i < n → S i = []) := by rw [hS]; exact HEnd.out
  have HCn : Hid (∀ i, i < n → (M i).2.1 = (C i : Int) ∧ 1 ≤ C i ∧ C i ≤ 6 ∧ i + C i ≤ n) := by rw [hM, hC]; exact fun i hi => ⟨(HCnt.out i hi).1, (HCnt.out i hi).2.1, (HCnt.out i hi).2.2.1, (HCnt.out i hi).2.2.2.1⟩
  have HS0 : Hid (Pl.segP es xs 0 = S 0) := by rw [hS]; rfl
  rw [HS0.out]
  have HB0 := Lib.hid (below_al2 w (.cells #[.slice a dn cap] 33) (.cells #[] 28))
  have HO0 : Hid (OwnP ((w.alloc (.cells #[.slice a dn cap] 33)).alloc (.cells #[] 28)) (w.heap.size + 1) (.slice (some ⟨w.heap.size + 1, 0, none⟩) 0 0) []) := by
    have := ownP_new (w.alloc (.cells #[.slice a dn cap] 33))
    rwa [World.size_alloc] at this
  have HA0 : Hid (BoxV ((w.alloc (.cells #[.slice a dn cap] 33)).alloc (.cells #[] 28)) w.heap.size 33 (.slice a dn cap)) := (BoxV.new w _ _).below (below_al _ _) (by simp)
  clear hM hC hS CM HNext HEnd HCnt HS0 h hu hx hn hnn hdn
  go_enter Try.func40, Try.ntmps40
  go_wp2_with fail
  go_loopw [5, 6] (fun y i wr => ∃ (k : Nat) (ls : List Pc), i = .int .i64 k ∧ k ≤ n ∧ ls.length ≤ k ∧ Hid (ls ++ S k = S 0) ∧ Hid (OwnP wr (w.heap.size + 1) y ls) ∧ Hid (BoxV wr w.heap.size 33 (.slice a dn cap)) ∧ Hid (Below w.heap.size w wr)) (fun _ i _ => n - (intOf i).toNat)
  case atStart => exact ⟨0, [], rfl, Nat.zero_le _, Nat.zero_le _, Lib.hid (List.nil_append _), HO0, HA0, HB0⟩
  case round =>
    obtain ⟨k, ls, rfl, hk, hll, HL, HO, HA, HBr⟩ := hrel
    by_cases hlt : k < n
    · have CM2 := Lib.hid (fun w' hb => CM1.out k w' hb hlt)
      obtain ⟨c1, c2, c3, c4⟩ := HCn.out k hlt
      have HL2 : Hid ((ls ++ [M k]) ++ S (k + C k) = S 0) := by rw [List.append_assoc, List.singleton_append, ← HNx.out k hlt]; exact HL.out
      obtain ⟨e, he⟩ : ∃ e, e = M k := ⟨_, rfl⟩
      obtain ⟨c, hc⟩ : ∃ c, c = C k := ⟨_, rfl⟩
      rw [← he] at CM2 c1 HL2
      rw [← hc] at c1 c2 c3 c4 HL2
      have C1 := Lib.hid c1
      have cx := HA.out.cell
      clear he hc HL CM1 HNx HEn HCn c1
      go_wp2_with fail
      refine (CM2.out _ HBr.out).mono ?_
      rintro r w1 ⟨rfl, hb⟩
      have O1 := Lib.hid (HO.out.below' hb)
      have A1 := Lib.hid (HA.out.below hb HA.out.lt)
      have B1 := Lib.hid (below_step HBr.out hb)
      have hs1 : w.heap.size + 1 ≤ w1.heap.size := by have := A1.out.lt; omega
      clear hb HO HA HBr CM2 cx
      go_wp2_with (at_builtin; refine push_pc rfl _ _ rfl (w.heap.size + 1) _ ls rfl O1.out e rfl hs1 (by omega) ?_)
      intro v' w2 hown hg _
      have A2 := Lib.hid (A1.out.grown hg (fun e => by have := row_ge O1.out e.symm; omega))
      have B2 := Lib.hid (B1.out.grown hg (by omega) (fun j hj => by have := row_ge O1.out hj; omega))
      obtain ⟨g, cp, rfl, hcp, hgb, hgl, _, q1, _⟩ := ownP_last hown
      have O2 := Lib.hid hown
      rw [C1.out] at q1
      have hidx : ((ls.length + 1 : Nat) : Int) - 1 = (ls.length : Int) := by omega
      clear hown hg A1 B1 O1
      go_wp2
      go_roundw
      case rel => exact ⟨k + c, ls ++ [e], by go_num, by omega, by rw [List.length_append, List.length_singleton]; omega, HL2, O2, A2, B2⟩
      case measure => simp [intOf]; omega
    · have HF : Hid (ls = S 0) := by have := HL.out; rw [HEn.out k hlt, List.append_nil] at this; exact this
      have O2 := Lib.hid (ownsRow_mono HO.out (Nat.le_succ _))
      clear HL CM1 HNx HEn HCn
      go_wp2
      go_ret
      exact ⟨⟨_, rfl, by rw [← HF.out]; exact O2.out⟩, HBr.out⟩
end Go.Proofs.Ythigdblloddepaa
