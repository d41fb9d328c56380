/-
  CONTRACT of keyboardAfter: the keyboard behind a list of events, and whether the list is valid.
-/
import Derived.Test.YtindcafdphfppaaKeyb
namespace Go.Proofs.Ytindcafdphfppaa
open Go.RowKit

/-- A keyboard and a flag are handed back. -/
theorem kb_results2 {fn : Func} {p q : Tmp} (h : fn.results = #[.cell p 65, .tmp q]) (tmps : Array Value) (w : World) (g n : Nat) (hp : tmps.getD p undef = .pointer (some ⟨g, 0, none⟩)) (hg : KB w g n) :
    (results fn tmps).run Try.prog w = .ok (.tuple #[.agg (kbA n), tmps.getD q undef]) w := by
  have hp' : tmps[p]?.getD undef = .pointer (some ⟨g, 0, none⟩) := by simpa using hp
  simp [results, h, hp', asAddr, run_loadVar_row w g _ _ _ _ _ hg Try.underlying65 rfl (kb_size n)]
/-- What keyboardAfter answers. -/
def kbE (es : List Pl.Ev) : Ending := .returned (.tuple #[.agg (kbA (if Pl.good es = true then (Pl.run es).dn else 0)), .bool (Pl.good es)])
theorem kbE_no {es : List Pl.Ev} (h : Pl.good es = false) : kbE es = .returned (.tuple #[.agg (kbA 0), .bool false]) := by unfold kbE; rw [h]; rfl
theorem kbE_yes {es : List Pl.Ev} (h : Pl.good es = true) : kbE es = .returned (.tuple #[.agg (kbA (Pl.run es).dn), .bool true]) := by unfold kbE; rw [h]; rfl

theorem isKey_quiet (k : Int) (b : Bool) (h : (decide (0 ≤ k) && decide (k < 23)) = b) (w : World) :
    Calls Try.prog 64 #[.int .i64 k] w fun e w' => e = .returned (.bool b) ∧ w' = w := by
  subst h
  exact (isKey_any k w).mono fun e w' h => ⟨h.1, h.2.symm⟩
theorem lastT_ge (l : List Pl.Ev) : ∀ (last : Int) (dn : Nat), Pl.chk last dn l = true → last ≤ Pl.lastT last l := by
  induction l with
  | nil => intro last dn _; exact Int.le_refl _
  | cons e l ih =>
    intro last dn h
    rw [Pl.chk_cons] at h
    split at h
    · rename_i hc
      have := ih e.t _ h
      show last ≤ Pl.lastT e.t l
      omega
    · cases h

set_option maxHeartbeats 4000000 in
theorem keyboardAfter_any (v : Value) (es : List Pl.Ev) (w : World) (h : EvsAt w v es) (hn : es.length ≤ 2097152) :
    Calls Try.prog 49 #[v] w fun e w' => e = kbE es ∧ Below w.heap.size w w' := by
  obtain ⟨a, cap, rfl, hcap, hC⟩ := h.cells
  obtain ⟨n, hnn⟩ : ∃ n, n = es.length := ⟨_, rfl⟩
  rw [← hnn] at hn hcap ⊢
  have HN := Lib.hid hnn
  have HC := Lib.hid hC
  have hz := kb_nil
  have HK1 := Lib.hid (KB.made w 0)
  have hb1 : Below w.heap.size w (w.alloc (.cells (kbA 0) 65)) := (Below.refl _ _).alloc (Nat.le_refl _) _
  clear h hnn hC
  by_cases hlen : n ≤ 200
  · have hlen' : ¬ (200 : Int) < (n : Int) := by omega
    have CA := Lib.hid (fun dn e hf w => after_any dn e hf w)
    have HK2 := Lib.hid (KB.made (w.alloc (.cells (kbA 0) 65)) 0)
    have HK1' := Lib.hid (HK1.out.alloc (.cells (kbA 0) 65))
    have HB2 := Lib.hid (hb1.alloc (by simp) (.cells (kbA 0) 65))
    rw [World.size_alloc] at HK2
    clear hb1 HK1
    go_enter Try.func49, Try.ntmps49
    go_wp2_with fail
    go_loopw [5, 14] (fun tm i wr => ∃ k : Nat, i = .int .i64 k ∧ k ≤ n ∧ tm = .int .i64 (Pl.lastT 0 (es.take k)) ∧ Hid (Pl.chk 0 0 (es.take k) = true) ∧ Hid (KB wr w.heap.size 0) ∧ Hid (KB wr (w.heap.size + 1) (Pl.run (es.take k)).dn) ∧ Below w.heap.size w wr) (fun _ i _ => n - (intOf i).toNat)
    case atStart => exact ⟨0, rfl, Nat.zero_le _, rfl, Lib.hid rfl, HK1', HK2, HB2.out⟩
    case round =>
      obtain ⟨k, rfl, hk, rfl, HL, HB, HBd, hbel⟩ := hrel
      by_cases hlt : k < n
      · obtain ⟨e, he⟩ : ∃ e, es[k]? = some e := ⟨_, List.getElem?_eq_getElem (by rw [← HN.out]; exact hlt)⟩
        obtain ⟨bk, o, rfl, hbk, g0, g1, g2⟩ := HC.out wr hbel k e he
        have HE := Lib.hid he
        obtain ⟨L, hLt⟩ : ∃ L, L = Pl.lastT 0 (es.take k) := ⟨_, rfl⟩
        have hL0 : 0 ≤ L := by rw [hLt]; exact lastT_ge _ _ _ HL.out
        obtain ⟨dn, hdn⟩ : ∃ dn, dn = (Pl.run (es.take k)).dn := ⟨_, rfl⟩
        rw [← hdn] at HBd
        rw [← hLt]
        have HLT := Lib.hid hLt
        have HDN := Lib.hid hdn
        obtain ⟨t, q, d⟩ := e
        have hbe : Below w.heap.size w (wr.alloc (.cells #[.int .i64 t, .int .i64 q, .bool d] 31)) := hbel.alloc hbel.size _
        have HBe := Lib.hid hbe
        have HB1 := Lib.hid (HB.out.alloc (.cells #[.int .i64 t, .int .i64 q, .bool d] 31))
        have HBd1 := Lib.hid (HBd.out.alloc (.cells #[.int .i64 t, .int .i64 q, .bool d] 31))
        have HBR := Lib.hid (below_row hbe (Nat.le_refl _) (kbA 0))
        clear he hLt hdn hbe hbk
        by_cases htt : t < L
        · have HG := Lib.hid (good_no HE.out (fun h => by have := h.1; rw [← HLT.out] at this; simp only at this; omega))
          go_wp2_with (with_reducible (show wpList _ _ _ (_ :: _) _ _); first | refine kb_build rfl rfl ?_ | refine kb_store w.heap.size 0 0 rfl rfl rfl rfl HB1.out ?_)
          refine bodyPost_ret (kb_results2 rfl _ _ w.heap.size 0 rfl (HB1.out.row 0)) rfl ?_
          exact ⟨(kbE_no HG.out).symm, HBR.out⟩
        · by_cases ht6 : 999999 < t
          · have HG := Lib.hid (good_no HE.out (fun h => by have := h.2.2.2.2.1; simp only at this; omega))
            go_wp2_with (with_reducible (show wpList _ _ _ (_ :: _) _ _); first | refine kb_build rfl rfl ?_ | refine kb_store w.heap.size 0 0 rfl rfl rfl rfl HB1.out ?_)
            refine bodyPost_ret (kb_results2 rfl _ _ w.heap.size 0 rfl (HB1.out.row 0)) rfl ?_
            exact ⟨(kbE_no HG.out).symm, HBR.out⟩
          · by_cases hq : 0 ≤ q ∧ q < 23
            · obtain ⟨p, rfl⟩ := Int.eq_ofNat_of_zero_le hq.1
              have CK1 := Lib.hid (isKey_quiet (p : Int) true (by simp; omega))
              have hp : p < 23 := by omega
              have hcd := HBd1.out.cell p hp
              by_cases hbd : dn.testBit p = d
              · have HG := Lib.hid (good_no HE.out (fun h => h.2.2.2.2.2 (by rw [← HDN.out]; exact hbd)))
                rw [hbd] at hcd
                clear hbd hq
                go_wp2_with fail
                go_quiet ((go_at_call 64; exact Calls.quiet_of_same (CK1.out _)))
                have HB2 := Lib.hid (HB1.out.below ((below_drewN (Below.refl _ _) nq)))
                go_wp2_with (with_reducible (show wpList _ _ _ (_ :: _) _ _); first | refine kb_build rfl rfl ?_ | refine kb_store w.heap.size 0 0 rfl rfl rfl rfl HB2.out ?_)
                refine bodyPost_ret (kb_results2 rfl _ _ w.heap.size 0 rfl (HB2.out.row 0)) rfl ?_
                exact ⟨(kbE_no HG.out).symm, below_row (below_drewN HBe.out nq) (Nat.le_refl _) _⟩
              · have hft : Pl.fits (Pl.run (es.take k)).dn ⟨t, (p : Int), d⟩ := ⟨hq.1, hq.2, by show (0 : Int) ≤ t; omega, by show t ≤ 999999; omega, by rw [← HDN.out]; exact hbd⟩
                have HL2 := Lib.hid (chk_next HE.out HL.out (by rw [← HLT.out]; show L ≤ t; omega) hft)
                rw [← HDN.out] at hft
                have hrun : Pl.flip dn ⟨t, (p : Int), d⟩ = (Pl.run (es.take (k + 1))).dn := by rw [Pl.run_take HE.out, HDN.out]; rfl
                have hlt2 : Pl.lastT 0 (es.take (k + 1)) = t := lastT_take HE.out
                have ca := fun w => CA.out dn _ hft w
                rw [hrun] at ca
                have CA1 := Lib.hid ca
                have hbd' : (dn.testBit p == d) = false := by rw [beq_eq_false_iff_ne]; exact hbd
                have HLT2 := Lib.hid hlt2
                clear ca hrun hlt2 hft hbd hq
                go_wp2_with fail
                go_quiet ((go_at_call 64; exact Calls.quiet_of_same (CK1.out _)))
                go_wp2_with fail
                obtain ⟨Sz, N, hS, hSr, hSn, hSl, hSs⟩ := kb_opaque
                obtain ⟨wq, hwq⟩ : ∃ wq, wq = (wr.alloc (.cells #[.int .i64 t, .int .i64 (p : Int), .bool d] 31)).drewN nq := ⟨_, rfl⟩
                have hq0 : Below (wr.alloc (.cells #[.int .i64 t, .int .i64 (p : Int), .bool d] 31)).heap.size (wr.alloc (.cells #[.int .i64 t, .int .i64 (p : Int), .bool d] 31)) wq := by rw [hwq]; exact below_drewN (Below.refl _ _) nq
                have KQ := Lib.hid (HBd1.out.below hq0)
                have KQ0 := Lib.hid (HB1.out.below hq0)
                have EQ := Lib.hid ((EvB.made wr ⟨t, (p : Int), d⟩).below hq0)
                have BQ := Lib.hid (HBe.out.trans (hq0.mono HBe.out.size))
                have hszq := BQ.out.size
                obtain ⟨E, hE⟩ : ∃ E, E = wr.heap.size := ⟨_, rfl⟩
                rw [← hwq, ← hE]
                rw [← hE] at EQ
                have hEn : E ≠ w.heap.size + 1 := by have := HBd.out.lt; omega
                obtain ⟨e0, e1, e2⟩ := EQ.out.cells
                have hld := hSl _ _ _ KQ.out.drew
                have EQd := Lib.hid (EQ.out.below (Below.refl _ _).drew)
                clear hcd hwq hq0 hE HBe HB1 HBd1 HB HBd hbel
                go_region_with (go_at_call 60; refine (CA1.out _).mono ?_; rintro r w1 ⟨rfl, hb1⟩; have K1 := Lib.hid (KQ.out.drew.below hb1); have f0 := (EQd.out.below hb1).cells.1; have hst := hSs w1 _ _ (Pl.run (es.take (k + 1))).dn K1.out; have f1 := (cell_setRow_other w1 (w.heap.size + 1) (kbA (Pl.run (es.take (k + 1))).dn) ⟨E, 0, none⟩ hEn).trans f0; have B1 := Lib.hid hb1; clear hb1)
                all_goals (go_wp2_with fail)
                all_goals exact ⟨⟨k + 1, by go_num, by omega, by rw [HLT2.out], HL2, KB.rowOther (KQ0.out.drew.below B1.out) _ _ (by omega), K1.out.row _, below_row (BQ.out.drew.trans (B1.out.mono hszq)) (by omega) _⟩, by simp [intOf]; omega⟩
            · have CK1 := Lib.hid (isKey_quiet q false (by simp; omega))
              have HG := Lib.hid (good_no HE.out (fun h => hq ⟨h.2.1, h.2.2.1⟩))
              clear hq
              go_wp2_with fail
              go_quiet ((go_at_call 64; exact Calls.quiet_of_same (CK1.out _)))
              have HB2 := Lib.hid (HB1.out.below ((below_drewN (Below.refl _ _) nq)))
              go_wp2_with (with_reducible (show wpList _ _ _ (_ :: _) _ _); first | refine kb_build rfl rfl ?_ | refine kb_store w.heap.size 0 0 rfl rfl rfl rfl HB2.out ?_)
              refine bodyPost_ret (kb_results2 rfl _ _ w.heap.size 0 rfl (HB2.out.row 0)) rfl ?_
              exact ⟨(kbE_no HG.out).symm, below_row (below_drewN HBe.out nq) (Nat.le_refl _) _⟩
      · obtain rfl : k = n := by omega
        go_wp2_with (with_reducible (show wpList _ _ _ (_ :: _) _ _); first | refine kb_load (w.heap.size + 1) _ rfl rfl rfl HBd.out ?_ | refine kb_store w.heap.size 0 (Pl.run (es.take k)).dn rfl rfl rfl rfl HB.out ?_)
        have et : es.take k = es := List.take_of_length_le (by rw [← HN.out]; exact Nat.le_refl _)
        have hg : Pl.good es = true := by
          unfold Pl.good
          have h3 := HL.out
          rw [et] at h3
          rw [h3, Bool.and_true, ← HN.out, decide_eq_true_eq]; exact hlen
        refine bodyPost_ret (kb_results2 rfl _ _ w.heap.size _ rfl (HB.out.row _)) rfl ?_
        refine ⟨?_, below_row hbel (Nat.le_refl _) _⟩
        rw [kbE_yes hg]
        show Ending.returned (.tuple #[.agg (kbA (Pl.run (es.take k)).dn), .bool true]) = _
        rw [et]
  · have hlen' : (200 : Int) < (n : Int) := by omega
    have HG : Hid (Pl.good es = false) := by
      show Pl.good es = false
      unfold Pl.good
      rw [show decide (es.length ≤ 200) = false by have := HN.out; simp; omega]; rfl
    go_enter Try.func49, Try.ntmps49
    go_wp2_with (with_reducible (show wpList _ _ _ (_ :: _) _ _); first | refine kb_build rfl rfl ?_ | refine kb_store w.heap.size 0 0 rfl rfl rfl rfl HK1.out ?_)
    refine bodyPost_ret (kb_results2 rfl _ _ w.heap.size 0 rfl (HK1.out.row 0)) rfl ?_
    exact ⟨(kbE_no HG.out).symm, below_row hb1 (Nat.le_refl _) _⟩
end Go.Proofs.Ytindcafdphfppaa
