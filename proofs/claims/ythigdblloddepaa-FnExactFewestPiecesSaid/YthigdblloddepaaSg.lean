/-
  CONTRACTS of the specification's chapter 11, first part: the strokes, the longest piece at an index.
-/
import Derived.Test.YthigdblloddepaaPcR
import Derived.Test.YthigdblloddepaaDictC
import Derived.Test.YthigdblloddepaaRowE
import Derived.Test.YthigdblloddepaaDictL
import Derived.Test.YthigdblloddepaaMix
namespace Go.Proofs.Ythigdblloddepaa
set_option maxRecDepth 100000
open Go.RowKit

/-- A box that holds a piece. -/
def PcB (w : World) (g : Nat) (e : Pc) : Prop := w.heap[g]? = some (.cells #[.int .i64 e.1, .int .i64 e.2.1, .string e.2.2] 28 (0, 0))
theorem PcB.lt {w : World} {g : Nat} {e : Pc} (h : PcB w g e) : g < w.heap.size := (Array.getElem?_eq_some_iff.1 h).1
theorem PcB.below {w w' : World} {g : Nat} {e : Pc} {N : Nat} (h : PcB w g e) (hb : Below N w w') (hN : g < N) : PcB w' g e := (hb.block g hN).trans h
theorem PcB.new (w : World) (e : Pc) : PcB (w.alloc (.cells #[.int .i64 e.1, .int .i64 e.2.1, .string e.2.2] 28)) w.heap.size e := heap_alloc_new w _
theorem PcB.cells {w : World} {g : Nat} {e : Pc} (h : PcB w g e) : w.cell? ⟨g, 0, none⟩ = some (.int .i64 e.1) ∧ w.cell? ⟨g, 1, none⟩ = some (.int .i64 e.2.1) ∧ w.cell? ⟨g, 2, none⟩ = some (.string e.2.2) := by
  unfold World.cell?; simp only [show w.heap[g]? = _ from h]; exact ⟨rfl, rfl, rfl⟩
/-- A whole piece stored. -/
theorem pc_store {ops : Array Oper} {rest : List Oper} {o : Oper} {a : Act} {w : World} {Q : Exit → Act → World → Prop} (hgd : o.guard = none) (x y : Operand) (ho : o.op = .store 28 x y)
    (g : Nat) (e e' : Pc) (hx : a.eval x = .pointer (some ⟨g, 0, none⟩)) (hy : a.eval y = pcV e) (hg : PcB w g e')
    (h : wpList Try.prog ops Q rest (a.put o.dst undef) (w.setRow g #[.int .i64 e.1, .int .i64 e.2.1, .string e.2.2])) : wpList Try.prog ops Q (o :: rest) a w :=
  wpList_store_row hgd _ x y ho g _ hx hy _ _ hg (by kernel_rfl) rfl (by rw [Array.all_eq_true_iff_forall_mem]; intro x hx; simp at hx; rcases hx with rfl | rfl | rfl <;> rfl) h
theorem PcB.row {w : World} {g : Nat} {e : Pc} (h : PcB w g e) (e' : Pc) : PcB (w.setRow g #[.int .i64 e'.1, .int .i64 e'.2.1, .string e'.2.2]) g e' := setRow_heap w g _ #[.int .i64 e'.1, .int .i64 e'.2.1, .string e'.2.2] _ _ h
theorem results_pc2 {fn : Func} {p u : Tmp} (h : fn.results = #[.cell p 28, .tmp u]) (tmps : Array Value) (w : World) (g : Nat) (e : Pc)
    (hp : tmps.getD p undef = .pointer (some ⟨g, 0, none⟩)) (hg : PcB w g e) :
    (results fn tmps).run Try.prog w = .ok (.tuple #[pcV e, tmps.getD u undef]) w := by
  have hr := run_loadVar_row (P := Try.prog) w g _ 28 _ _ _ hg Try.underlying28 rfl (by kernel_rfl)
  rw [results_cell_tmp h, hp]
  simp [asAddr, hr, Result.andThen]
/-- At most 60 valid strokes. -/
def okS60 (xs : List Int) : Bool := decide (xs.length ≤ 60) && xs.all okS
theorem okS60_yes {xs : List Int} (h : okS60 xs = true) : xs.length ≤ 60 ∧ xs.all okS = true := by
  unfold okS60 at h; rw [Bool.and_eq_true, decide_eq_true_eq] at h; exact h
set_option maxHeartbeats 1000000 in
theorem l11Strokes_any (v : Value) (xs : List Int) (w : World) (h : IntsAt w v xs) (hn : xs.length ≤ 2097152) :
    Calls Try.prog 33 #[v] w fun e w' => e = .returned (.bool (okS60 xs)) ∧ w = w' := by
  obtain ⟨a, cap, rfl, hcap, hC⟩ := h.cells
  have HNo : Hid (∀ k x, xs[k]? = some x → okS x = false → okS60 xs = false) := fun k x hx ho => by
    unfold okS60
    rw [Bool.and_eq_false_iff]
    exact .inr (by rw [List.all_eq_false]; exact ⟨x, List.mem_of_getElem? hx, by rw [ho]; decide⟩)
  have HL : Hid (∀ k, (xs.take k).all okS = true → (k = xs.length ∨ 60 < k ∧ k ≤ xs.length) → okS60 xs = decide ((xs.length : Int) ≤ 60)) := by
    intro k hk ho
    unfold okS60
    rcases ho with rfl | ho
    · rw [List.take_length] at hk
      rw [hk, Bool.and_true, decide_eq_decide]
      omega
    · rw [decide_eq_false (by omega), Bool.false_and, decide_eq_false (by omega)]
  obtain ⟨n, hnn⟩ : ∃ n, n = xs.length := ⟨_, rfl⟩
  rw [← hnn] at hn hcap HL ⊢
  have HN := Lib.hid hnn
  have HC := Lib.hid hC
  have CG := Lib.hid (fun s w => l2Good_any s w)
  obtain ⟨R, hR⟩ : ∃ R, R = okS60 xs := ⟨_, rfl⟩
  rw [← hR] at HNo HL ⊢
  clear h hnn hC hR
  go_enter Try.func33, Try.ntmps33
  go_wp2_with fail
  go_loopw [3] (fun i wr => ∃ k : Nat, i = .int .i64 k ∧ k ≤ n ∧ k ≤ 61 ∧ Hid ((xs.take k).all okS = true) ∧ wr = w) (fun i _ => n - (intOf i).toNat)
  case atStart => exact ⟨0, rfl, Nat.zero_le _, Nat.zero_le _, Lib.hid rfl, rfl⟩
  case round =>
    obtain ⟨k, rfl, hk, hk61, HK, rfl⟩ := hrel
    by_cases hlt : k < n
    · by_cases h60 : k ≤ 60
      · obtain ⟨x, hx⟩ : ∃ x, xs[k]? = some x := ⟨_, List.getElem?_eq_getElem (by rw [← HN.out]; exact hlt)⟩
        obtain ⟨bk, o, rfl, _, g0⟩ := HC.out wr (Below.refl _ _) k x hx
        cases hok : okS x
        · have HF := Lib.hid (HNo.out k x hx hok)
          have c := fun w => CG.out x w
          rw [hok] at c
          have C1 := Lib.hid c
          clear c hx hok HL HNo HK
          go_wp2_with fail
          refine (C1.out _).mono ?_
          rintro e w1 ⟨rfl, rfl⟩
          go_wp2
          go_ret
          exact ⟨ret_bool HF.out.symm, rfl⟩
        · have HK2 := Lib.hid (all_next hx HK.out hok)
          have c := fun w => CG.out x w
          rw [hok] at c
          have C1 := Lib.hid c
          clear c hx hok HL HNo HK
          go_wp2_with fail
          refine (C1.out _).mono ?_
          rintro e w1 ⟨rfl, rfl⟩
          go_wp2
          go_roundw
          case rel => exact ⟨k + 1, by go_num, by omega, by omega, HK2, by trivial⟩
          case measure => simp [intOf]; omega
      · have HF := Lib.hid (HL.out k HK.out (.inr ⟨by omega, hk⟩))
        have h60' : ¬ (n : Int) ≤ 60 := by omega
        rw [decide_eq_false h60'] at HF
        clear HL HNo HK
        go_wp2
        go_ret
        exact ⟨ret_bool HF.out.symm, rfl⟩
    · have HF := Lib.hid (HL.out k HK.out (.inl (by omega)))
      clear HL HNo HK
      go_wp2
      go_ret
      exact ⟨ret_bool HF.out.symm, rfl⟩
theorem matN_min (es : List Ent) (xs : List Int) (i m : Nat) (h : xs.length < i + (m + 1)) : Pl.matN es xs i (min (m + 1) (Pl.capN xs i)) = Pl.matN es xs i (min m (Pl.capN xs i)) := by
  rw [show min (m + 1) (Pl.capN xs i) = min m (Pl.capN xs i) by unfold Pl.capN; omega]
theorem ints_block {w : World} {v : Value} {xs : List Int} (h : IntsAt w v xs) (h0 : 0 < xs.length) : ∃ bk o cap, v = .slice (some ⟨bk, o, none⟩) xs.length cap ∧ xs.length ≤ cap ∧ bk < w.heap.size ∧ ∀ (j : Nat) x, xs[j]? = some x → w.cell? ⟨bk, o + j, none⟩ = some (.int .i64 x) := by
  obtain ⟨a, cap, hv, hc, h⟩ := h
  rcases h with rfl | ⟨bk, o, rfl, hk, h⟩
  · simp at h0
  · exact ⟨bk, o, cap, hv, hc, hk, h⟩
set_option maxHeartbeats 2000000 in
theorem l11Match_any (v : Value) (es : List Ent) (u : Value) (xs : List Int) (i : Nat) (w : World) (h : EntsAt w v es) (hu : IntsAt w u xs) (hn : es.length ≤ 2097152) (hx : ∀ e ∈ es, entOk e) (hxn : xs.length ≤ 60) (hi : i < xs.length) :
    Calls Try.prog 35 #[dV v, u, .int .i64 (i : Int)] w fun r w' => r = .returned (pcV (Pl.matP es xs i)) ∧ Below w.heap.size w w' := by
  have CF := Lib.hid (fun ys u' w' hb (hu' : IntsAt w' u' ys) (hy : ys.length ≤ 2097152) => l6Find_any v es u' ys w' (h.below (w' := w') hb) hu' hn hx hy)
  obtain ⟨bk, o, cap, rfl, hcap, hbk, hC⟩ := ints_block hu (by omega)
  obtain ⟨a, dcap, rfl, hdcap, _⟩ := h.cells
  obtain ⟨n, hnn⟩ : ∃ n, n = xs.length := ⟨_, rfl⟩
  obtain ⟨dn, hdn⟩ : ∃ n, n = es.length := ⟨_, rfl⟩
  have HS : Hid (∀ m, i + m ≤ n → ∀ w', Below w.heap.size w w' → IntsAt w' (.slice (some ⟨bk, o + i, none⟩) m (cap - i)) ((xs.drop i).take m)) := by
    intro m hm w' hb
    have hl : ((xs.drop i).take m).length = m := by rw [List.length_take, List.length_drop]; omega
    refine ⟨_, cap - i, by rw [hl], by rw [hl]; omega, .inr ⟨bk, o + i, rfl, Nat.lt_of_lt_of_le hbk hb.size, fun j x hx => ?_⟩⟩
    have hj : j < m := by
      rcases Nat.lt_or_ge j m with h' | h'
      · exact h'
      · rw [List.getElem?_eq_none (by rw [hl]; exact h')] at hx; cases hx
    rw [List.getElem?_take_of_lt hj, List.getElem?_drop] at hx
    rw [Nat.add_assoc]
    exact (hb.cell (p := ⟨bk, o + (i + j), none⟩) hbk).trans (hC _ _ hx)
  have HM0 : Hid (∀ m, m < 6 → n < i + (m + 1) → Pl.matN es xs i (min (m + 1) (Pl.capN xs i)) = Pl.matN es xs i (min m (Pl.capN xs i))) := fun m _ hm => matN_min es xs i m (by omega)
  have HM1 : Hid (∀ m, m < 6 → ¬ n < i + (m + 1) → Pl.matN es xs i (min (m + 1) (Pl.capN xs i)) = match Pl.look ((xs.drop i).take (m + 1)) es with | some t => ((i : Int), ((m + 1 : Nat) : Int), t) | none => Pl.matN es xs i (min m (Pl.capN xs i))) := by
    intro m h6 hm
    rw [show min (m + 1) (Pl.capN xs i) = m + 1 by unfold Pl.capN; omega, show min m (Pl.capN xs i) = m by unfold Pl.capN; omega]
    rfl
  have HEnd : Hid (Pl.matN es xs i (min 6 (Pl.capN xs i)) = Pl.matP es xs i) := by
    show _ = _
    unfold Pl.matP
    rw [show min 6 (Pl.capN xs i) = Pl.capN xs i by unfold Pl.capN; omega]
  have HZ : Hid (Pl.matN es xs i (min 0 (Pl.capN xs i)) = ((i : Int), 1, ByteArray.empty)) := by
    show _ = _
    rw [Nat.zero_min]; rfl
  obtain ⟨R, hR⟩ : ∃ R, R = Pl.matP es xs i := ⟨_, rfl⟩
  obtain ⟨M, hM⟩ : ∃ M : Nat → Pc, M = fun m => Pl.matN es xs i (min m (Pl.capN xs i)) := ⟨_, rfl⟩
  have HM0' : Hid (∀ m, m < 6 → n < i + (m + 1) → M (m + 1) = M m) := by rw [hM]; exact HM0.out
  have HM1' : Hid (∀ m, m < 6 → ¬ n < i + (m + 1) → M (m + 1) = match Pl.look ((xs.drop i).take (m + 1)) es with | some t => ((i : Int), ((m + 1 : Nat) : Int), t) | none => M m) := by rw [hM]; exact HM1.out
  have HEnd' : Hid (M 6 = R) := by rw [hM, hR]; exact HEnd.out
  have HZ' : Hid (M 0 = ((i : Int), 1, ByteArray.empty)) := by rw [hM]; exact HZ.out
  rw [← hR]
  unfold dV at CF ⊢
  rw [← hnn] at hcap hi hxn ⊢
  rw [← hdn] at CF hdcap ⊢
  have HH : Hid (∀ m, i + m ≤ n → ((xs.drop i).take m).length ≤ 2097152) := fun m hm => by rw [List.length_take, List.length_drop]; omega
  clear hM hR HM0 HM1 HEnd HZ h hu hx hn hC hnn hdn
  go_enter Try.func35, Try.ntmps35
  go_wp2_with fail
  go_loopw [7] (fun k wr => ∃ m : Nat, k = .int .i64 m ∧ m ≤ 6 ∧ Hid (M m = R) ∧ Hid (BoxV wr w.heap.size 33 (.slice a dn dcap)) ∧ Hid (PcB wr (w.heap.size + 1) pc0) ∧ Below w.heap.size w wr) (fun k _ => (intOf k).toNat)
  case atStart =>
    refine ⟨6, rfl, Nat.le_refl _, HEnd', (BoxV.new w _ _).below (below_al _ _) (by simp), ?_, below_al2 w _ _⟩
    have := PcB.new (w.alloc (.cells #[.slice a dn dcap] 33)) pc0
    rwa [World.size_alloc] at this
  case round =>
    obtain ⟨m, rfl, hm6, HMm, A1, P1, hbel⟩ := hrel
    cases m with
    | zero =>
      have HF : Hid (R = ((i : Int), 1, ByteArray.empty)) := HMm.out.symm.trans HZ'.out
      clear HMm HM0' HM1' HEnd' HZ' CF HS HH
      have h4 := Lib.hid (P1.out.row ((i : Int), 1, ByteArray.empty))
      have hb4 := Lib.hid (below_setRow hbel (Nat.le_succ _) #[.int .i64 ((i : Int), (1 : Int), ByteArray.empty).1, .int .i64 ((i : Int), (1 : Int), ByteArray.empty).2.1, .string ((i : Int), (1 : Int), ByteArray.empty).2.2])
      go_wp2_with (with_reducible (show wpList _ _ _ (_ :: _) _ _); refine pc_store rfl _ _ rfl (w.heap.size + 1) ((i : Int), 1, ByteArray.empty) pc0 rfl rfl P1.out ?_)
      (try simp only [Exit.inBlock, Exit.then])
      refine bodyPost_ret (results_cell_row rfl _ _ (w.heap.size + 1) _ _ _ _ rfl h4.out Try.underlying28 rfl (by kernel_rfl)) rfl ?_
      exact ⟨by rw [HF.out], hb4.out⟩
    | succ m =>
      by_cases hcap2 : n < i + (m + 1)
      · have HN : Hid (M m = R) := (HM0'.out m (by omega) hcap2).symm.trans HMm.out
        clear HMm HM0' HM1' HEnd' HZ' CF HS HH
        go_wp2
        go_roundw
        case rel => exact ⟨m, by go_num, by omega, HN, A1, P1, hbel⟩
        case measure => simp [intOf]
      · have c := HM1'.out m (by omega) hcap2
        have CF1 := Lib.hid (fun w' (hb : Below wr.heap.size wr w') => CF.out _ _ w' (below_step hbel hb) (HS.out (m + 1) (by omega) w' (below_step hbel hb)) (HH.out (m + 1) (by omega)))
        obtain ⟨lk, hlk⟩ : ∃ lk, lk = Pl.look ((xs.drop i).take (m + 1)) es := ⟨_, rfl⟩
        rw [← hlk] at CF1 c
        have HC1 := Lib.hid c
        have k1 := cell_regrown A1.out.cell
        clear hlk c HM0' HM1' HEnd' HZ' CF HS HH
        go_wp2_with fail
        refine Mx.wp_region_mixed (Mx.ofL [(0, 1), (1, 0), (2, 0), (3, 0), (4, 0), (5, 0), (6, 0), (7, 3), (8, 0), (9, 0), (10, 0), (11, 0), (12, 0)] .done) (by kernel_rfl) (by kernel_rfl) ?_
        repeat ((first | refine Mx.mix0 rfl ?_ | refine Mx.mix1 rfl ?_); go_big_quiet_step (fail); refine wpQuiet_nil ?_)
        refine Mx.mix3 rfl ?_
        go_wp2_with fail
        refine (CF1.out _ (below_drewN (Below.refl _ _) 1)).mono ?_
        rintro r w1 ⟨rfl, hb'⟩
        have hb : Below wr.heap.size wr w1 := (below_drewN (Below.refl _ _) 1).trans hb'
        have A2 := Lib.hid (A1.out.below hb A1.out.lt)
        have P2 := Lib.hid (P1.out.below hb P1.out.lt)
        have HB2 := Lib.hid (below_step hbel hb)
        clear hb' k1
        unfold lkE
        go_wp2
        refine Mx.mid_normal (fun q => by cases q) ?_
        repeat ((first | refine Mx.mix0 rfl ?_ | refine Mx.mix1 rfl ?_); go_big_quiet_step (fail); refine wpQuiet_nil ?_)
        refine Mx.mix_nil ?_
        cases lk with
        | none =>
          have HN : Hid (M m = R) := HC1.out.symm.trans HMm.out
          clear hb A1 P1 hbel CF1 HC1 HMm
          go_wp2
          go_roundw
          case rel => exact ⟨m, by go_num, by omega, HN, A2, P2, HB2.out⟩
          case measure => simp [intOf]
        | some t =>
          have HF : Hid (R = ((i : Int), ((m + 1 : Nat) : Int), t)) := HMm.out.symm.trans HC1.out
          have h4 := Lib.hid (P2.out.row ((i : Int), ((m + 1 : Nat) : Int), t))
          have hb4 := Lib.hid (below_setRow HB2.out (Nat.le_succ _) #[.int .i64 ((i : Int), ((m + 1 : Nat) : Int), t).1, .int .i64 ((i : Int), ((m + 1 : Nat) : Int), t).2.1, .string ((i : Int), ((m + 1 : Nat) : Int), t).2.2])
          clear hb A1 P1 hbel CF1 HC1 HMm
          go_wp2_with (with_reducible (show wpList _ _ _ (_ :: _) _ _); refine pc_store rfl _ _ rfl (w.heap.size + 1) ((i : Int), ((m + 1 : Nat) : Int), t) pc0 rfl rfl P2.out ?_)
          (try simp only [Exit.inBlock, Exit.then])
          refine bodyPost_ret (results_cell_row rfl _ _ (w.heap.size + 1) _ _ _ _ rfl h4.out Try.underlying28 rfl (by kernel_rfl)) rfl ?_
          exact ⟨by rw [HF.out], hb4.out⟩
end Go.Proofs.Ythigdblloddepaa
