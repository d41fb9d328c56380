/-
  CONTRACTS of the program's chapter 11, second part: MatchAt, Segment, CountUntranslated.
-/
import Derived.Test.YthigdblloddepaaImB
namespace Go.Proofs.Ythigdblloddepaa
set_option maxRecDepth 100000
open Go.RowKit

/-- The first piece of an own row. -/
theorem ownP_first {w : World} {base : Nat} {v : Value} {ls : List Pc} {e : Pc} (h : OwnP w base v ls) (he : ls[0]? = some e) :
    ∃ g cap n, v = .slice (some ⟨g, 0, none⟩) (n + 1) cap ∧ n + 1 ≤ cap ∧ g < w.heap.size ∧ w.cell? ⟨g, 0, none⟩ = some (.int .i64 e.1) ∧ w.cell? ⟨g, 1, none⟩ = some (.int .i64 e.2.1) ∧ w.cell? ⟨g, 2, none⟩ = some (.string e.2.2) := by
  have hl : 0 < ls.length := (List.getElem?_eq_some_iff.1 he).1
  rcases ownP_own h with ⟨h0, _⟩ | ⟨g, cap, rfl, hc, hg, h0, hr⟩
  · omega
  · have := hr.2.1 0 hl
    have he2 : ls.getD 0 pc0 = e := by simp [List.getD, he]
    dsimp only at this
    rw [he2] at this
    obtain ⟨n, hn⟩ : ∃ n, ls.length = n + 1 := ⟨ls.length - 1, by omega⟩
    exact ⟨g, cap, n, by rw [hn], by omega, hr.1, this.1, this.2.1, this.2.2⟩
/-- A matcher in a box. -/
def MtB (w : World) (g b : Nat) (u : Value) : Prop := w.heap[g]? = some (.cells #[.map (some b), u] 64 (0, 0))
theorem MtB.lt {w : World} {g b : Nat} {u : Value} (h : MtB w g b u) : g < w.heap.size := (Array.getElem?_eq_some_iff.1 h).1
theorem MtB.below {w w' : World} {g b : Nat} {u : Value} {N : Nat} (h : MtB w g b u) (hb : Below N w w') (hN : g < N) : MtB w' g b u := (hb.block g hN).trans h
theorem MtB.new (w : World) (b : Nat) (u : Value) : MtB (w.alloc (.cells #[.map (some b), u] 64)) w.heap.size b u := heap_alloc_new w _
theorem MtB.cells {w : World} {g b : Nat} {u : Value} (h : MtB w g b u) : w.cell? ⟨g, 0, none⟩ = some (.map (some b)) ∧ w.cell? ⟨g, 1, none⟩ = some u := by
  unfold World.cell?; simp only [show w.heap[g]? = _ from h]; exact ⟨rfl, rfl⟩
theorem mt_box (w1 : World) (mv u : Value) : Below w1.heap.size w1 ((w1.alloc (.cells #[.map none, .slice none 0 0] 64)).setRow w1.heap.size #[mv, u]) ∧
    ((w1.alloc (.cells #[.map none, .slice none 0 0] 64)).setRow w1.heap.size #[mv, u]).heap[w1.heap.size]? = some (.cells #[mv, u] 64 (0, 0)) ∧
    (w1.alloc (.cells #[.map none, .slice none 0 0] 64)).heap[w1.heap.size]? = some (.cells #[.map none, .slice none 0 0] 64 (0, 0)) :=
  ⟨below_setRow (below_al w1 _) (Nat.le_refl _) _, setRow_heap _ _ _ #[mv, u] _ _ (heap_alloc_new w1 _), heap_alloc_new w1 _⟩
theorem allX_in {es : List Ent} {xs : List Int} {i : Nat} (h : i < xs.length) : allX es xs (i : Int) = Pl.allPs es xs i := by unfold allX; rw [if_pos (by omega), Int.toNat_natCast]
theorem allX_out {es : List Ent} {xs : List Int} {f : Int} (h : ¬ (0 ≤ f ∧ f < (xs.length : Int))) : allX es xs f = [] := by unfold allX; rw [if_neg h]
theorem sgB_parts {es : List Ent} {xs : List Int} (h : sgB es xs = true) : okD es = true ∧ xs.length ≤ 60 ∧ xs.all okS = true := by
  unfold sgB at h
  rw [Bool.and_eq_true] at h
  exact ⟨h.1, okS60_yes h.2⟩
set_option maxHeartbeats 2000000 in
theorem MatchAt_any (v : Value) (es : List Ent) (u : Value) (xs : List Int) (f : Int) (w : World) (h : EntsAt w v es) (hu : IntsAt w u xs) (hn : es.length ≤ 2097152) (hx : ∀ e ∈ es, entOk e) (hxn : xs.length ≤ 2097152) :
    Calls Try.prog 12 #[dV v, u, .int .i64 f] w fun r w' => r = mtE es xs f ∧ Below w.heap.size w w' := by
  have cm := fun w' hb => matcherOf_any v es u xs w' (h.below (w' := w') hb) (hu.below hb) hn hx hxn
  have CP := Lib.hid (fun b w' hb hm hok hs h60 => piecesAt_any b es u xs f w' hm hok (hu.below (w := w) hb) hs h60)
  have HNo := Lib.hid (fun h => mtE_no (es := es) (xs := xs) (f := f) h)
  have HYes := Lib.hid (fun h => mtE_yes (es := es) (xs := xs) (f := f) h)
  have HB : Hid (mtB es xs f = (sgB es xs && (decide (0 ≤ f) && decide (f ≤ (xs.length : Int) - 1)))) := rfl
  have HP := Lib.hid (fun (h : sgB es xs = true) => sgB_parts h)
  have P1 : ∀ v : Value, PcB ((w.alloc (.cells #[v] 33)).alloc (.cells #[.int .i64 0, .int .i64 0, .string ByteArray.empty] 28)) (w.heap.size + 1) pc0 := fun v => by
    have := PcB.new (w.alloc (.cells #[v] 33)) pc0
    rwa [World.size_alloc] at this
  obtain ⟨a, cap, rfl, hcap, _⟩ := h.cells
  obtain ⟨ua, uc, rfl, huc, _⟩ := hu.cells
  obtain ⟨n, hnn⟩ : ∃ n, n = xs.length := ⟨_, rfl⟩
  obtain ⟨dn, hdn⟩ : ∃ n, n = es.length := ⟨_, rfl⟩
  have HIn := Lib.hid (fun (i : Nat) (hi : i < xs.length) => allX_in (es := es) hi)
  have HOut := Lib.hid (fun (hi : ¬ (0 ≤ f ∧ f < (xs.length : Int))) => allX_out (es := es) hi)
  have HHd := Lib.hid (fun (i : Nat) => Pl.allPs_head es xs i)
  rw [← hnn] at cm CP HB huc HP HIn HOut ⊢
  unfold dV at cm ⊢
  rw [← hdn] at cm hcap ⊢
  have P2 := Lib.hid (P1 (.slice a dn cap))
  have BX := Lib.hid (below_al2 w (.cells #[.slice a dn cap] 33) (.cells #[.int .i64 0, .int .i64 0, .string ByteArray.empty] 28))
  clear P1 h hu hnn hdn hx hn
  obtain ⟨bS, hbS⟩ : ∃ b, b = sgB es xs := ⟨_, rfl⟩
  rw [← hbS] at HB HP
  simp only [← hbS] at cm
  have CM := Lib.hid cm
  clear cm hbS
  go_enter Try.func12, Try.ntmps12
  cases bS
  · have HF := Lib.hid (HNo.out (by rw [HB.out]; rfl))
    clear HYes HNo HB HP CP HIn HOut HHd
    go_wp2_with fail
    refine (CM.out _ BX.out).mono ?_
    rintro r w1 ⟨⟨mv, rfl, h1, _⟩, hb⟩
    have P3 := Lib.hid (P2.out.below hb P2.out.lt)
    have B1 := Lib.hid (below_step BX.out hb)
    obtain ⟨hm1, hm2, hm3⟩ := mt_box w1 mv (.slice ua n uc)
    have P4 : Hid (PcB ((w1.alloc (.cells #[.map none, .slice none 0 0] 64)).setRow w1.heap.size #[mv, .slice ua n uc]) (w.heap.size + 1) pc0) := P3.out.below hm1 P3.out.lt
    have B2 := Lib.hid (below_step B1.out hm1)
    have h4 := Lib.hid (P4.out.row pc0)
    have hb4 := Lib.hid (below_setRow B2.out (Nat.le_succ _) #[.int .i64 pc0.1, .int .i64 pc0.2.1, .string pc0.2.2])
    have HM3 := Lib.hid hm3
    clear hb CM P2 P3 hm1 hm2 hm3
    go_wp2_with (with_reducible (show wpList _ _ _ (_ :: _) _ _); first | refine mt_store rfl _ _ rfl w1.heap.size mv (.slice ua n uc) _ _ h1 rfl rfl rfl HM3.out ?_ | refine pc_store rfl _ _ rfl (w.heap.size + 1) pc0 pc0 rfl rfl P4.out ?_)
    (try simp only [Exit.inBlock, Exit.then])
    refine bodyPost_ret (results_pc2 rfl _ _ (w.heap.size + 1) pc0 rfl h4.out) rfl ?_
    exact ⟨HF.out.symm, hb4.out⟩
  · obtain ⟨hok, h60, hst⟩ := HP.out (by first | rfl | trivial)
    have CP1 := Lib.hid (fun b w' hb hm => CP.out b w' hb hm hok hst h60)
    clear CP HP
    by_cases hin : 0 ≤ f ∧ f < (n : Int)
    · have HF := Lib.hid (HYes.out (by rw [HB.out, decide_eq_true hin.1, decide_eq_true (by omega)]; rfl))
      obtain ⟨i, rfl⟩ : ∃ i : Nat, f = (i : Int) := ⟨f.toNat, by omega⟩
      have hA := HIn.out i (by omega)
      have hHd := HHd.out i
      rw [Int.toNat_natCast] at HF
      rw [← hA] at hHd
      obtain ⟨R, hR⟩ : ∃ R, R = Pl.matP es xs i := ⟨_, rfl⟩
      rw [← hR] at HF hHd
      have HHd1 := Lib.hid hHd
      clear hR hA hHd HIn HOut HHd HNo HYes HB
      go_wp2_with fail
      refine (CM.out _ BX.out).mono ?_
      rintro r w1 ⟨⟨mv, rfl, h1, hm⟩, hb⟩
      obtain ⟨b, rfl, hbb, hMb⟩ := hm (by first | rfl | trivial)
      have P3 := Lib.hid (P2.out.below hb P2.out.lt)
      have B1 := Lib.hid (below_step BX.out hb)
      obtain ⟨hm1, hm2, hm3⟩ := mt_box w1 (.map (some b)) (.slice ua n uc)
      have P4 : Hid (PcB ((w1.alloc (.cells #[.map none, .slice none 0 0] 64)).setRow w1.heap.size #[.map (some b), .slice ua n uc]) (w.heap.size + 1) pc0) := P3.out.below hm1 P3.out.lt
      have B2 := Lib.hid (below_step B1.out hm1)
      have M2 := Lib.hid (show MapB ((w1.alloc (.cells #[.map none, .slice none 0 0] 64)).setRow w1.heap.size #[.map (some b), .slice ua n uc]) b es from MapB.below hMb hm1)
      have T2 : Hid (MtB ((w1.alloc (.cells #[.map none, .slice none 0 0] 64)).setRow w1.heap.size #[.map (some b), .slice ua n uc]) w1.heap.size b (.slice ua n uc)) := hm2
      have HM3 := Lib.hid hm3
      clear hb CM P2 P3 hm1 hm2 hm3 hm hMb hbb
      obtain ⟨t0, t1⟩ := T2.out.cells
      go_wp2_with (with_reducible (show wpList _ _ _ (_ :: _) _ _); refine mt_store rfl _ _ rfl w1.heap.size (.map (some b)) (.slice ua n uc) _ _ rfl rfl rfl rfl HM3.out ?_)
      refine (CP1.out b _ B2.out M2.out).mono ?_
      rintro r w3 ⟨⟨y, rfl, hy⟩, hb⟩
      obtain ⟨g, cp, k, rfl, hcp, hgl, g0, g1, g2⟩ := ownP_first hy HHd1.out
      have P5 := Lib.hid (P4.out.below hb P4.out.lt)
      have B3 := Lib.hid (below_step B2.out hb)
      have h4 := Lib.hid (P5.out.row R)
      have hb4 := Lib.hid (below_setRow B3.out (Nat.le_succ _) #[.int .i64 R.1, .int .i64 R.2.1, .string R.2.2])
      clear hb hy P4 B2 M2 T2 HM3 t0 t1 CP1
      go_wp2_with (with_reducible (show wpList _ _ _ (_ :: _) _ _); refine pc_store rfl _ _ rfl (w.heap.size + 1) R pc0 rfl rfl P5.out ?_)
      (try simp only [Exit.inBlock, Exit.then])
      refine bodyPost_ret (results_pc2 rfl _ _ (w.heap.size + 1) R rfl h4.out) rfl ?_
      exact ⟨HF.out.symm, hb4.out⟩
    · have HF := Lib.hid (HNo.out (by rw [HB.out, Bool.and_eq_false_iff]; right; rw [Bool.and_eq_false_iff, decide_eq_false_iff_not, decide_eq_false_iff_not]; omega))
      have hA := HOut.out hin
      have CP2 : Hid (∀ b w', Below w.heap.size w w' → MapB w' b es → Calls Try.prog 38 #[mtV b (.slice ua n uc), .int .i64 f] w' fun r w'' => (∃ y, r = .returned y ∧ OwnP w'' w'.heap.size y []) ∧ Below w'.heap.size w' w'') := by rw [← hA]; exact CP1.out
      clear hA HIn HOut HHd HNo HYes HB CP1
      go_wp2_with fail
      refine (CM.out _ BX.out).mono ?_
      rintro r w1 ⟨⟨mv, rfl, h1, hm⟩, hb⟩
      obtain ⟨b, rfl, hbb, hMb⟩ := hm (by first | rfl | trivial)
      have P3 := Lib.hid (P2.out.below hb P2.out.lt)
      have B1 := Lib.hid (below_step BX.out hb)
      obtain ⟨hm1, hm2, hm3⟩ := mt_box w1 (.map (some b)) (.slice ua n uc)
      have P4 : Hid (PcB ((w1.alloc (.cells #[.map none, .slice none 0 0] 64)).setRow w1.heap.size #[.map (some b), .slice ua n uc]) (w.heap.size + 1) pc0) := P3.out.below hm1 P3.out.lt
      have B2 := Lib.hid (below_step B1.out hm1)
      have M2 := Lib.hid (show MapB ((w1.alloc (.cells #[.map none, .slice none 0 0] 64)).setRow w1.heap.size #[.map (some b), .slice ua n uc]) b es from MapB.below hMb hm1)
      have T2 : Hid (MtB ((w1.alloc (.cells #[.map none, .slice none 0 0] 64)).setRow w1.heap.size #[.map (some b), .slice ua n uc]) w1.heap.size b (.slice ua n uc)) := hm2
      have HM3 := Lib.hid hm3
      clear hb CM P2 P3 hm1 hm2 hm3 hm hMb hbb
      obtain ⟨t0, t1⟩ := T2.out.cells
      go_wp2_with (with_reducible (show wpList _ _ _ (_ :: _) _ _); refine mt_store rfl _ _ rfl w1.heap.size (.map (some b)) (.slice ua n uc) _ _ rfl rfl rfl rfl HM3.out ?_)
      refine (CP2.out b _ B2.out M2.out).mono ?_
      rintro r w3 ⟨⟨y, rfl, hy⟩, hb⟩
      obtain ⟨ya, yc, rfl⟩ : ∃ a c, y = .slice a 0 c := by
        rcases ownP_own hy with ⟨_, a, c, hh⟩ | ⟨_, _, _, _, _, h0, _⟩
        · exact ⟨a, c, hh⟩
        · exact absurd h0 (Nat.lt_irrefl _)
      have P5 := Lib.hid (P4.out.below hb P4.out.lt)
      have B3 := Lib.hid (below_step B2.out hb)
      have h4 := Lib.hid (P5.out.row pc0)
      have hb4 := Lib.hid (below_setRow B3.out (Nat.le_succ _) #[.int .i64 pc0.1, .int .i64 pc0.2.1, .string pc0.2.2])
      clear hb hy P4 B2 M2 T2 HM3 t0 t1 CP2
      go_wp2_with (with_reducible (show wpList _ _ _ (_ :: _) _ _); refine pc_store rfl _ _ rfl (w.heap.size + 1) pc0 pc0 rfl rfl P5.out ?_)
      (try simp only [Exit.inBlock, Exit.then])
      refine bodyPost_ret (results_pc2 rfl _ _ (w.heap.size + 1) pc0 rfl h4.out) rfl ?_
      exact ⟨HF.out.symm, hb4.out⟩
theorem push_pcN {ops : Array Oper} {rest : List Oper} {o : Oper} {a : Act} {w : World} {Q : Exit → Act → World → Prop}
    (hgd : o.guard = none) (p q : Operand) (ho : o.op = .call { callee := .builtin .append, args := #[p, q], argTypes := #[40, 40] }) (base : Nat) (v : Value) (ls : List Pc) (hs : a.eval p = v) (hown : OwnP w base v ls)
    (e : Pc) (N : Nat) (hN : w.heap.size = N) (hq : a.eval q = .slice (some ⟨N, 0, none⟩) 1 1) (hb : base ≤ N) (h1 : ls.length ≤ 4194304)
    (h : ∀ v' w', OwnP w' base v' (ls ++ [e]) → w.grownBy w' v.ownBlock → wpList Try.prog ops Q rest (a.put o.dst v') w') : wpList Try.prog ops Q (o :: rest) a (w.alloc (.cells #[.int .i64 e.1, .int .i64 e.2.1, .string e.2.2] 28)) := by
  subst hN
  exact push_pc hgd p q ho base v ls hs hown e hq hb h1 fun v' w' h2 h3 _ => h v' w' h2 h3
theorem ownP_lt {w : World} {base : Nat} {v : Value} {ls : List Pc} (h : OwnP w base v ls) {j : Nat} (hj : v.ownBlock = some j) : j < w.heap.size := by
  rcases h.2 with ⟨rfl, _⟩ | ⟨g, cap, cur, rfl, _, hg, _⟩
  · simp [Value.ownBlock] at hj
  · have : g = j := by simpa [Value.ownBlock] using hj
    rw [← this]; exact (Array.getElem?_eq_some_iff.1 hg).1
set_option maxHeartbeats 2000000 in
theorem Segment_any (v : Value) (es : List Ent) (u : Value) (xs : List Int) (w : World) (h : EntsAt w v es) (hu : IntsAt w u xs) (hn : es.length ≤ 2097152) (hx : ∀ e ∈ es, entOk e) (hxn : xs.length ≤ 2097152) :
    Calls Try.prog 17 #[dV v, u] w fun r w' => (∃ y, r = .returned (.tuple #[y, .bool (sgB es xs)]) ∧ OwnP w' w.heap.size y (sgL es xs)) ∧ Below w.heap.size w w' := by
  have cm := fun w' hb => matcherOf_any v es u xs w' (h.below (w' := w') hb) (hu.below hb) hn hx hxn
  have HL : Hid (sgL es xs = if sgB es xs = true then Pl.segP es xs 0 else []) := rfl
  have HP := Lib.hid (fun (h : sgB es xs = true) => sgB_parts h)
  have CP := Lib.hid (fun b (i : Nat) w' hb hm hok hs h60 (hi : i < xs.length) => (allX_in (es := es) hi) ▸ piecesAt_any b es u xs (i : Int) w' hm hok (hu.below (w := w) hb) hs h60)
  obtain ⟨a, cap, rfl, hcap, _⟩ := h.cells
  obtain ⟨ua, uc, rfl, huc, _⟩ := hu.cells
  obtain ⟨n, hnn⟩ : ∃ n, n = xs.length := ⟨_, rfl⟩
  obtain ⟨dn, hdn⟩ : ∃ n, n = es.length := ⟨_, rfl⟩
  have HNext := Lib.hid (fun i (hi : i < xs.length) => Pl.segP_next (es := es) hi)
  have HEnd := Lib.hid (fun i (hi : ¬ i < xs.length) => Pl.segP_end (es := es) hi)
  have HCnt := Lib.hid (fun i (hi : i < xs.length) => Pl.cntP_ok (es := es) hi)
  have HHd := Lib.hid (fun (i : Nat) => Pl.allPs_head es xs i)
  rw [← hnn] at cm huc HP CP HNext HEnd HCnt hxn ⊢
  unfold dV at cm ⊢
  rw [← hdn] at cm hcap ⊢
  have BX := Lib.hid (below_al w (.cells #[.slice a dn cap] 33))
  clear h hu hnn hdn hx hn
  obtain ⟨bS, hbS⟩ : ∃ b, b = sgB es xs := ⟨_, rfl⟩
  obtain ⟨L, hL⟩ : ∃ b, b = sgL es xs := ⟨_, rfl⟩
  rw [← hbS] at HP HL ⊢
  rw [← hL] at HL ⊢
  simp only [← hbS] at cm
  have CM := Lib.hid cm
  clear cm hbS hL
  go_enter Try.func17, Try.ntmps17
  cases bS
  · obtain rfl : L = [] := HL.out
    clear HP CP HNext HEnd HCnt HHd HL
    go_wp2_with fail
    refine (CM.out _ BX.out).mono ?_
    rintro r w1 ⟨⟨mv, rfl, h1, _⟩, hb⟩
    have B1 := Lib.hid (below_step BX.out hb)
    obtain ⟨hm1, _, hm3⟩ := mt_box w1 mv (.slice ua n uc)
    have B2 := Lib.hid (below_step B1.out hm1)
    have HM3 := Lib.hid hm3
    have HNil := fun W => ownP_nil W w.heap.size
    have HNil := Lib.hid HNil
    clear hb CM hm1 hm3
    go_wp2_with (with_reducible (show wpList _ _ _ (_ :: _) _ _); refine mt_store rfl _ _ rfl w1.heap.size mv (.slice ua n uc) _ _ h1 rfl rfl rfl HM3.out ?_)
    go_ret2
    exact ⟨⟨_, rfl, HNil.out _⟩, B2.out⟩
  · obtain ⟨hok, h60, hst⟩ := HP.out (by first | rfl | trivial)
    obtain rfl : L = Pl.segP es xs 0 := HL.out
    obtain ⟨M, hM⟩ : ∃ M : Nat → Pc, M = fun i => Pl.matP es xs i := ⟨_, rfl⟩
    obtain ⟨C, hC⟩ : ∃ C : Nat → Nat, C = fun i => Pl.cntP es xs i := ⟨_, rfl⟩
    obtain ⟨S, hS⟩ : ∃ S : Nat → List Pc, S = fun i => Pl.segP es xs i := ⟨_, rfl⟩
    obtain ⟨A, hA⟩ : ∃ A : Nat → List Pc, A = fun i => Pl.allPs es xs i := ⟨_, rfl⟩
    have CP1 : Hid (∀ b i w', Below w.heap.size w w' → MapB w' b es → i < n → Calls Try.prog 38 #[mtV b (.slice ua n uc), .int .i64 (i : Int)] w' fun r w'' => (∃ y, r = .returned y ∧ OwnP w'' w'.heap.size y (A i)) ∧ Below w'.heap.size w' w'') := by rw [hA]; exact fun b i w' hb hm hi => CP.out b i w' hb hm hok hst h60 hi
    have HNx : Hid (∀ i, i < n → S i = M i :: S (i + C i)) := by rw [hM, hC, hS]; exact HNext.out
    have HEn : Hid (∀ i, ¬ i < n → S i = []) := by rw [hS]; exact HEnd.out
    have HCn : Hid (∀ i, i < n → (M i).2.1 = (C i : Int) ∧ 1 ≤ C i ∧ C i ≤ 6 ∧ i + C i ≤ n) := by rw [hM, hC]; exact fun i hi => ⟨(HCnt.out i hi).1, (HCnt.out i hi).2.1, (HCnt.out i hi).2.2.1, (HCnt.out i hi).2.2.2.1⟩
    have HAh : Hid (∀ i, (A i)[0]? = some (M i)) := by rw [hA, hM]; exact HHd.out
    have HS0 : Hid (Pl.segP es xs 0 = S 0) := by rw [hS]; rfl
    rw [HS0.out]
    clear hM hC hS hA CP HNext HEnd HCnt HHd HS0 HP HL hok hst
    go_wp2_with fail
    refine (CM.out _ BX.out).mono ?_
    rintro r w1 ⟨⟨mv, rfl, h1, hm⟩, hb⟩
    obtain ⟨b, rfl, hbb, hMb⟩ := hm (by first | rfl | trivial)
    have B1 := Lib.hid (below_step BX.out hb)
    obtain ⟨hm1, hm2, hm3⟩ := mt_box w1 (.map (some b)) (.slice ua n uc)
    have B2 := Lib.hid (below_step B1.out hm1)
    have M2 := Lib.hid (show MapB ((w1.alloc (.cells #[.map none, .slice none 0 0] 64)).setRow w1.heap.size #[.map (some b), .slice ua n uc]) b es from MapB.below hMb hm1)
    have T2 : Hid (MtB ((w1.alloc (.cells #[.map none, .slice none 0 0] 64)).setRow w1.heap.size #[.map (some b), .slice ua n uc]) w1.heap.size b (.slice ua n uc)) := hm2
    have HM3 := Lib.hid hm3
    have hw1 : w.heap.size + 1 ≤ w1.heap.size := by have := hb.size; simp at this; omega
    have hbl : b < w1.heap.size := hMb.lt
    clear hb CM hm1 hm2 hm3 hm hMb hbb
    go_wp2_with (with_reducible (show wpList _ _ _ (_ :: _) _ _); refine mt_store rfl _ _ rfl w1.heap.size (.map (some b)) (.slice ua n uc) _ _ rfl rfl rfl rfl HM3.out ?_)
    go_loopw [8, 9] (fun y i wr => ∃ (k : Nat) (ls : List Pc), i = .int .i64 k ∧ k ≤ n ∧ ls.length ≤ k ∧ Hid (ls ++ S k = S 0) ∧ Hid (OwnP wr (w1.heap.size + 1) y ls) ∧ Hid (MtB wr w1.heap.size b (.slice ua n uc)) ∧ Hid (MapB wr b es) ∧ Hid (Below w.heap.size w wr)) (fun _ i _ => n - (intOf i).toNat)
    case atStart => exact ⟨0, [], rfl, Nat.zero_le _, Nat.zero_le _, Lib.hid (List.nil_append _), Lib.hid (ownP_nil _ _), T2, M2, B2⟩
    case round =>
      obtain ⟨k, ls, rfl, hk, hll, HLs, HO, HT, HMp, HBr⟩ := hrel
      by_cases hlt : k < n
      · have CP2 := Lib.hid (CP1.out b k wr HBr.out HMp.out hlt)
        obtain ⟨c1, c2, c3, c4⟩ := HCn.out k hlt
        have hhd := HAh.out k
        have HL2 : Hid ((ls ++ [M k]) ++ S (k + C k) = S 0) := by rw [List.append_assoc, List.singleton_append, ← HNx.out k hlt]; exact HLs.out
        obtain ⟨e, he⟩ : ∃ e, e = M k := ⟨_, rfl⟩
        obtain ⟨c, hc⟩ : ∃ c, c = C k := ⟨_, rfl⟩
        rw [← he] at c1 HL2 hhd
        rw [← hc] at c1 c2 c3 c4 HL2
        have C1 := Lib.hid c1
        have HHd1 := Lib.hid hhd
        obtain ⟨t0, t1⟩ := HT.out.cells
        clear he hc HLs CP1 HNx HEn HCn c1 hhd HAh T2 M2 B2 B1 BX HM3
        go_wp2_with fail
        refine CP2.out.mono ?_
        rintro r w3 ⟨⟨y, rfl, hy⟩, hb⟩
        obtain ⟨g, cp, q, rfl, hcp, hgl, g0, g1, g2⟩ := ownP_first hy HHd1.out
        have ho := below_al w3 (.cells #[.int .i64 e.1, .int .i64 e.2.1, .string e.2.2] 28)
        have hb4 : Below wr.heap.size wr (w3.alloc (.cells #[.int .i64 e.1, .int .i64 e.2.1, .string e.2.2] 28)) := below_step hb ho
        have O4 := Lib.hid (HO.out.below' hb4)
        have T4 := Lib.hid (HT.out.below hb4 HT.out.lt)
        have P4 := Lib.hid (PcB.new w3 e)
        have B4 := Lib.hid (below_step HBr.out hb4)
        have M4 := Lib.hid (show MapB (w3.alloc (.cells #[.int .i64 e.1, .int .i64 e.2.1, .string e.2.2] 28)) b es from MapB.below HMp.out hb4)
        have hol : ∀ j, Value.ownBlock u8 = some j → j < w3.heap.size := fun j hj => Nat.lt_of_lt_of_le (ownP_lt HO.out hj) hb.size
        have HOl := Lib.hid hol
        have hs3 : w1.heap.size + 1 ≤ w3.heap.size := by have := HT.out.lt; have := hb.size; omega
        have HN4 := Lib.hid (World.size_alloc w3 (.cells #[.int .i64 e.1, .int .i64 e.2.1, .string e.2.2] 28))
        have hs4 : w1.heap.size + 1 ≤ w3.heap.size + 1 := by omega
        clear hb hb4 ho hy HO HT HMp HBr CP2 t0 t1 hol
        go_wp2_with (at_builtin; refine push_pcN rfl _ _ rfl (w1.heap.size + 1) _ ls rfl O4.out e (w3.heap.size + 1) HN4.out rfl hs4 (by omega) ?_)
        intro v' w5 hown hg
        have P5 : Hid (PcB w5 w3.heap.size e) := Lib.hid ((hg.block _ (by rw [World.size_alloc]; omega) (fun e => by have := HOl.out _ e.symm; omega)).trans P4.out)
        have T5 : Hid (MtB w5 w1.heap.size b (.slice ua n uc)) := Lib.hid ((hg.block _ T4.out.lt (fun e => by have := row_ge O4.out e.symm; omega)).trans T4.out)
        have M5 : Hid (MapB w5 b es) := Lib.hid (World.ownsMap.kept M4.out hg (fun e => by have := row_ge O4.out e.symm; omega))
        have B5 := Lib.hid (B4.out.grown hg (by rw [World.size_alloc]; omega) (fun j hj => by have := row_ge O4.out hj; omega))
        have O5 := Lib.hid hown
        obtain ⟨_, p1, _⟩ := P5.out.cells
        rw [C1.out] at p1
        clear hown hg B4 O4 T4 M4 P4 P5 HOl
        go_wp2
        go_roundw
        case rel => exact ⟨k + c, ls ++ [e], by go_num, by omega, by rw [List.length_append, List.length_singleton]; omega, HL2, O5, T5, M5, B5⟩
        case measure => simp [intOf]; omega
      · have HF : Hid (ls = S 0) := by have := HLs.out; rw [HEn.out k hlt, List.append_nil] at this; exact this
        have O2 := Lib.hid (ownsRow_mono HO.out (by omega : w.heap.size ≤ w1.heap.size + 1))
        clear HLs CP1 HNx HEn HCn HAh T2 M2 B2 B1 BX HM3
        go_wp2
        go_ret2
        exact ⟨⟨_, rfl, by rw [← HF.out]; exact O2.out⟩, HBr.out⟩
set_option maxHeartbeats 1000000 in
theorem CountUntranslated_any (v : Value) (ls : List Pc) (w : World) (h : PcsAt w v ls) (hn : ls.length ≤ 2097152) :
    Calls Try.prog 28 #[v] w fun r w' => r = .returned (.int .i64 (Pl.untr ls : Int)) ∧ Below w.heap.size w w' := by
  obtain ⟨a, cap, rfl, hcap, h⟩ := h
  obtain ⟨n, hnn⟩ : ∃ n, n = ls.length := ⟨_, rfl⟩
  rw [← hnn] at hn hcap ⊢
  have HN := Lib.hid hnn
  have HC : Hid (∀ w', Below w.heap.size w w' → ∀ (j : Nat) e, ls[j]? = some e → ∃ bk o, a = some ⟨bk, o, none⟩ ∧ w'.cell? ⟨bk, o + j * 3, none⟩ = some (.int .i64 e.1) ∧ w'.cell? ⟨bk, o + j * 3 + 1, none⟩ = some (.int .i64 e.2.1) ∧ w'.cell? ⟨bk, o + j * 3 + 2, none⟩ = some (.string e.2.2)) := by
    intro w' hb j e he
    rcases h with rfl | ⟨bk, o, ha, hk, h⟩
    · simp at he
    · obtain ⟨g0, g1, g2⟩ := h j e he
      exact ⟨bk, o, ha, (hb.cell (p := ⟨bk, o + j * 3, none⟩) hk).trans g0, (hb.cell (p := ⟨bk, o + j * 3 + 1, none⟩) hk).trans g1, (hb.cell (p := ⟨bk, o + j * 3 + 2, none⟩) hk).trans g2⟩
  have HT := Lib.hid (fun k e (he : ls[k]? = some e) => untr_take he)
  have HL := Lib.hid (fun k => show Pl.untr (ls.take k) ≤ k from by have := Pl.untr_le (ls.take k); rw [List.length_take] at this; omega)
  have HE : Hid (Pl.untr (ls.take n) = Pl.untr ls) := by show _ = _; rw [hnn, List.take_length]
  obtain ⟨R, hR⟩ : ∃ R, R = Pl.untr ls := ⟨_, rfl⟩
  obtain ⟨U, hU⟩ : ∃ U : Nat → Nat, U = fun k => Pl.untr (ls.take k) := ⟨_, rfl⟩
  have HT1 : Hid (∀ k e, ls[k]? = some e → U (k + 1) = U k + if e.2.2.data.toList = [] then 1 else 0) := by rw [hU]; exact HT.out
  have HL1 : Hid (∀ k, U k ≤ k) := by rw [hU]; exact HL.out
  have HE1 : Hid (U n = R) := by rw [hU, hR]; exact HE.out
  have HU0 : Hid (U 0 = 0) := by rw [hU]; rfl
  rw [← hR]
  clear h hnn HT HL HE hU hR
  go_enter Try.func28, Try.ntmps28
  go_wp2_with fail
  go_loopw [3, 8] (fun c i wr => ∃ k q : Nat, i = .int .i64 k ∧ c = .int .i64 q ∧ q ≤ k ∧ k ≤ n ∧ Hid (U k = q) ∧ Below w.heap.size w wr) (fun _ i _ => n - (intOf i).toNat)
  case atStart => exact ⟨0, 0, rfl, rfl, Nat.le_refl _, Nat.zero_le _, HU0, Below.refl _ _⟩
  case round =>
    obtain ⟨k, q, rfl, rfl, hq, hk, HUk, hbel⟩ := hrel
    by_cases hlt : k < n
    · obtain ⟨e, he⟩ : ∃ e, ls[k]? = some e := ⟨_, List.getElem?_eq_getElem (by rw [← HN.out]; exact hlt)⟩
      obtain ⟨bk, o, rfl, g0, g1, g2⟩ := HC.out wr hbel k e he
      have ht := HT1.out k e he
      rw [HUk.out] at ht
      obtain ⟨f, c, t⟩ := e
      dsimp only at g0 g1 g2 ht
      have HBl := Lib.hid (below_step hbel (below_al wr (.cells #[.int .i64 f, .int .i64 c, .string t] 28)))
      by_cases hz : t.data.toList = []
      · rw [if_pos hz] at ht
        have HUn := Lib.hid ht
        have htz : t = ⟨#[]⟩ := ByteArray.ext (Array.toList_inj.1 hz)
        subst htz
        clear he ht HUk HT1 hz hbel
        go_wp2
        go_roundw
        case rel => exact ⟨k + 1, q + 1, by go_num, by go_num, by omega, by omega, HUn, HBl.out⟩
        case measure => simp [intOf]; omega
      · rw [if_neg hz] at ht
        have HUn := Lib.hid ht
        have hz2 : t.toList.isEmpty = false := by
          rw [Lib.toList_data]
          cases hl : t.data.toList with
          | nil => exact absurd hl hz
          | cons _ _ => rfl
        clear he ht HUk HT1 hbel
        go_wp2
        go_roundw
        case rel => exact ⟨k + 1, q, by go_num, rfl, by omega, by omega, HUn, HBl.out⟩
        case measure => simp [intOf]; omega
    · obtain rfl : k = n := by omega
      have HF : Hid (q = R) := HUk.out.symm.trans HE1.out
      clear HUk HT1 HE1
      go_wp2
      go_ret
      exact ⟨by rw [HF.out]; rfl, hbel⟩
theorem sgL_len (es : List Ent) (xs : List Int) : (sgL es xs).length ≤ 60 := by
  unfold sgL
  split
  · rename_i h
    have h1 := (sgB_parts h).2.1
    have h2 := Pl.segP_len es xs 0
    omega
  · exact Nat.zero_le _
end Go.Proofs.Ythigdblloddepaa
