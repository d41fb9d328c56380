/-
  CONTRACTS of chapter 12 of the specification: ApplyAtom, ApplyAtoms, Render. Written by gen_fmt.py.
-/
import Derived.Test.YtnpiphkglhcifaaGreatDoorFmT
namespace Go.Proofs.YtnpiphkglhcifaaGreatDoor
set_option maxRecDepth 100000
open Go.RowKit
set_option linter.unusedVariables false

set_option maxHeartbeats 2000000 in
theorem specApplyAtom_any (s : St) (k : Int) (x : ByteArray) (w : World) (hs : s.t.size ≤ 1048600) (hx : x.size ≤ 1048576) :
    Calls Tryz.prog 13 #[stV s, atV k x] w fun e w' => e = optE (stepS s (k, x)) ∧ Below w.heap.size w w' := by
  obtain ⟨t, j, g, c, p⟩ := s
  simp only at hs
  have cg := fun w => l12Good_any ⟨t, j, g, c, p⟩ w (by show t.size ≤ _; omega)
  have ca := fun w => l5Good_any k x w (by omega)
  obtain ⟨q1, h1⟩ : ∃ q, q = okSt ⟨t, j, g, c, p⟩ := ⟨_, rfl⟩
  obtain ⟨q2, h2⟩ : ∃ q, q = Pl.goodA k (by8 x) := ⟨_, rfl⟩
  rw [← h1] at cg
  rw [← h2] at ca
  have CG := Lib.hid cg
  have CA := Lib.hid ca
  clear cg ca
  cases q1
  · rw [stepS_no1 h1.symm]
    clear h1 h2 CA
    obtain ⟨W, hW⟩ : ∃ W, W = ((w.alloc (.cells #[.string (t), .bool j, .bool g, .int .i64 c, .int .i64 p] 25)).alloc (.cells #[.int .i64 k, .string x] 33)).alloc (.cells #[.string ⟨#[]⟩, .bool false, .bool false, .int .i64 0, .int .i64 0] 25) := ⟨_, rfl⟩
    have hsz : W.heap.size = w.heap.size + 3 := by rw [hW]; simp
    have S0 : Hid (BoxS W w.heap.size ⟨t, j, g, c, p⟩) := by rw [hW]; exact ((BoxS.new w ⟨t, j, g, c, p⟩).below (below_alS _ _)).below (below_alS _ _)
    have A0 : Hid (BoxT W (w.heap.size + 1) k x) := by rw [hW]; have := BoxT.new (w.alloc (.cells (stC ⟨t, j, g, c, p⟩) 25)) k x; rw [World.size_alloc] at this; exact this.below (below_alS _ _)
    have R0 : Hid (BoxS W (w.heap.size + 2) St.zero) := by rw [hW]; have := BoxS.new ((w.alloc (.cells (stC ⟨t, j, g, c, p⟩) 25)).alloc (.cells #[.int .i64 k, .string x] 33)) St.zero; rw [World.size_alloc, World.size_alloc] at this; exact this
    have B0 : Hid (Below w.heap.size w W) := by rw [hW]; exact below_al3S _ _ _ _
    have HW := Lib.hid hW
    clear hW
    go_enter Tryz.func13, Tryz.ntmps13
    go_wp2_with fail
    rw [← HW.out]
    refine (CG.out _).mono ?_
    rintro e w1 ⟨rfl, hb⟩
    have S1 := Lib.hid (S0.out.below hb)
    have A1 := Lib.hid (A0.out.below hb)
    have R1 := Lib.hid (R0.out.below hb)
    have B1 := Lib.hid (below_stepS B0.out hb)
    obtain ⟨c0, c1, c2, c3, c4⟩ := S1.out.cells
    obtain ⟨d0, d1⟩ := A1.out.cells
    clear hb S0 A0 R0 B0 HW CG
    go_wp2_with (with_reducible (show wpList _ _ _ (_ :: _) _ _); first | refine at_storeS rfl _ _ rfl (w.heap.size + 2) St.zero St.zero rfl rfl R1.out ?_)
    (try simp only [Exit.inBlock, Exit.then])
    refine bodyPost_ret (results_S2 rfl _ _ (w.heap.size + 2) _ rfl (R1.out.set _)) rfl ?_
    exact ⟨rfl, below_setRow B1.out (by omega) _⟩
  cases q2
  · rw [stepS_no2 h2.symm]
    clear h1 h2
    obtain ⟨W, hW⟩ : ∃ W, W = ((w.alloc (.cells #[.string (t), .bool j, .bool g, .int .i64 c, .int .i64 p] 25)).alloc (.cells #[.int .i64 k, .string x] 33)).alloc (.cells #[.string ⟨#[]⟩, .bool false, .bool false, .int .i64 0, .int .i64 0] 25) := ⟨_, rfl⟩
    have hsz : W.heap.size = w.heap.size + 3 := by rw [hW]; simp
    have S0 : Hid (BoxS W w.heap.size ⟨t, j, g, c, p⟩) := by rw [hW]; exact ((BoxS.new w ⟨t, j, g, c, p⟩).below (below_alS _ _)).below (below_alS _ _)
    have A0 : Hid (BoxT W (w.heap.size + 1) k x) := by rw [hW]; have := BoxT.new (w.alloc (.cells (stC ⟨t, j, g, c, p⟩) 25)) k x; rw [World.size_alloc] at this; exact this.below (below_alS _ _)
    have R0 : Hid (BoxS W (w.heap.size + 2) St.zero) := by rw [hW]; have := BoxS.new ((w.alloc (.cells (stC ⟨t, j, g, c, p⟩) 25)).alloc (.cells #[.int .i64 k, .string x] 33)) St.zero; rw [World.size_alloc, World.size_alloc] at this; exact this
    have B0 : Hid (Below w.heap.size w W) := by rw [hW]; exact below_al3S _ _ _ _
    have HW := Lib.hid hW
    clear hW
    go_enter Tryz.func13, Tryz.ntmps13
    go_wp2_with fail
    rw [← HW.out]
    refine (CG.out _).mono ?_
    rintro e w1 ⟨rfl, hb⟩
    have S1 := Lib.hid (S0.out.below hb)
    have A1 := Lib.hid (A0.out.below hb)
    have R1 := Lib.hid (R0.out.below hb)
    have B1 := Lib.hid (below_stepS B0.out hb)
    obtain ⟨c0, c1, c2, c3, c4⟩ := S1.out.cells
    obtain ⟨d0, d1⟩ := A1.out.cells
    clear hb S0 A0 R0 B0 HW CG
    go_wp2_with fail
    refine (CA.out _).mono ?_
    rintro e w2 ⟨rfl, hb⟩
    have S2 := Lib.hid (S1.out.below hb)
    have A2 := Lib.hid (A1.out.below hb)
    have R2 := Lib.hid (R1.out.below hb)
    have B2 := Lib.hid (below_stepS B1.out hb)
    clear hb c0 c1 c2 c3 c4 d0 d1 S1 A1 R1 B1 CA
    obtain ⟨c0, c1, c2, c3, c4⟩ := S2.out.cells
    obtain ⟨d0, d1⟩ := A2.out.cells
    go_wp2_with (with_reducible (show wpList _ _ _ (_ :: _) _ _); first | refine at_storeS rfl _ _ rfl (w.heap.size + 2) St.zero St.zero rfl rfl R2.out ?_)
    (try simp only [Exit.inBlock, Exit.then])
    refine bodyPost_ret (results_S2 rfl _ _ (w.heap.size + 2) _ rfl (R2.out.set _)) rfl ?_
    exact ⟨rfl, below_setRow B2.out (by omega) _⟩
  · obtain ⟨ht, _, _, _, n, rfl, hn⟩ := okSt_parts h1.symm
    have hx20 := goodA_len h2.symm
    have hk := goodA_kind h2.symm
    simp only at ht hn
    have hval := app_val h1.symm h2.symm
    have cl := fun w => l12Apply_any t j g c n k x w ht hn hx20 hk
    rw [stepS_yes h1.symm h2.symm]
    obtain ⟨q, hq⟩ : ∃ q, q = app ⟨t, j, g, c, n⟩ k x := ⟨_, rfl⟩
    have hqs := app_size ⟨t, j, g, c, n⟩ k x
    simp only at hqs
    rw [← hq] at cl hval hqs ⊢
    obtain ⟨tq, jq, gq, cq, pq⟩ := q
    simp only at hval hqs ⊢
    have CL := Lib.hid cl
    have co := fun w => l12Good_any ⟨tq, jq, gq, cq, pq⟩ w (by show tq.size ≤ _; omega)
    rw [hval] at co
    by_cases hz : tq.size ≤ 2000
    · rw [decide_eq_true hz] at co
      rw [if_pos hz]
      have CO := Lib.hid co
      clear co
      clear cl hq h1 h2 hk hval
      obtain ⟨W, hW⟩ : ∃ W, W = ((w.alloc (.cells #[.string (t), .bool j, .bool g, .int .i64 c, .int .i64 (n : Int)] 25)).alloc (.cells #[.int .i64 k, .string x] 33)).alloc (.cells #[.string ⟨#[]⟩, .bool false, .bool false, .int .i64 0, .int .i64 0] 25) := ⟨_, rfl⟩
      have hsz : W.heap.size = w.heap.size + 3 := by rw [hW]; simp
      have S0 : Hid (BoxS W w.heap.size ⟨t, j, g, c, (n : Int)⟩) := by rw [hW]; exact ((BoxS.new w ⟨t, j, g, c, (n : Int)⟩).below (below_alS _ _)).below (below_alS _ _)
      have A0 : Hid (BoxT W (w.heap.size + 1) k x) := by rw [hW]; have := BoxT.new (w.alloc (.cells (stC ⟨t, j, g, c, (n : Int)⟩) 25)) k x; rw [World.size_alloc] at this; exact this.below (below_alS _ _)
      have R0 : Hid (BoxS W (w.heap.size + 2) St.zero) := by rw [hW]; have := BoxS.new ((w.alloc (.cells (stC ⟨t, j, g, c, (n : Int)⟩) 25)).alloc (.cells #[.int .i64 k, .string x] 33)) St.zero; rw [World.size_alloc, World.size_alloc] at this; exact this
      have B0 : Hid (Below w.heap.size w W) := by rw [hW]; exact below_al3S _ _ _ _
      have HW := Lib.hid hW
      clear hW
      go_enter Tryz.func13, Tryz.ntmps13
      go_wp2_with fail
      rw [← HW.out]
      refine (CG.out _).mono ?_
      rintro e w1 ⟨rfl, hb⟩
      have S1 := Lib.hid (S0.out.below hb)
      have A1 := Lib.hid (A0.out.below hb)
      have R1 := Lib.hid (R0.out.below hb)
      have B1 := Lib.hid (below_stepS B0.out hb)
      obtain ⟨c0, c1, c2, c3, c4⟩ := S1.out.cells
      obtain ⟨d0, d1⟩ := A1.out.cells
      clear hb S0 A0 R0 B0 HW CG
      go_wp2_with fail
      refine (CA.out _).mono ?_
      rintro e w2 ⟨rfl, hb⟩
      have S2 := Lib.hid (S1.out.below hb)
      have A2 := Lib.hid (A1.out.below hb)
      have R2 := Lib.hid (R1.out.below hb)
      have B2 := Lib.hid (below_stepS B1.out hb)
      clear hb c0 c1 c2 c3 c4 d0 d1 S1 A1 R1 B1 CA
      obtain ⟨c0, c1, c2, c3, c4⟩ := S2.out.cells
      obtain ⟨d0, d1⟩ := A2.out.cells
      go_wp2_with fail
      refine (CL.out _).mono ?_
      rintro e w3 ⟨rfl, hb⟩
      have R3 := Lib.hid (R2.out.below hb)
      have B3 := Lib.hid (below_stepS B2.out hb)
      clear hb c0 c1 c2 c3 c4 d0 d1 S2 A2 R2 B2 CL
      go_wp2_with fail
      refine (CO.out _).mono ?_
      rintro e w4 ⟨rfl, hb⟩
      have O4 := Lib.hid (BoxS.call (s := ⟨tq, jq, gq, cq, pq⟩) hb)
      have R4 := Lib.hid (R3.out.below (below_new hb))
      have B4 := Lib.hid (below_stepS B3.out (below_new hb))
      obtain ⟨c0, c1, c2, c3, c4⟩ := O4.out.cells
      clear hb R3 B3 CO
      go_wp2_with (with_reducible (show wpList _ _ _ (_ :: _) _ _); first | refine at_storeS rfl _ _ rfl (w.heap.size + 2) ⟨tq, jq, gq, cq, pq⟩ St.zero rfl rfl R4.out ?_)
      (try simp only [Exit.inBlock, Exit.then])
      refine bodyPost_ret (results_S2 rfl _ _ (w.heap.size + 2) _ rfl (R4.out.set _)) rfl ?_
      exact ⟨rfl, below_setRow B4.out (by omega) _⟩
    · rw [decide_eq_false hz] at co
      rw [if_neg hz]
      have CO := Lib.hid co
      clear co
      clear cl hq h1 h2 hk hval
      obtain ⟨W, hW⟩ : ∃ W, W = ((w.alloc (.cells #[.string (t), .bool j, .bool g, .int .i64 c, .int .i64 (n : Int)] 25)).alloc (.cells #[.int .i64 k, .string x] 33)).alloc (.cells #[.string ⟨#[]⟩, .bool false, .bool false, .int .i64 0, .int .i64 0] 25) := ⟨_, rfl⟩
      have hsz : W.heap.size = w.heap.size + 3 := by rw [hW]; simp
      have S0 : Hid (BoxS W w.heap.size ⟨t, j, g, c, (n : Int)⟩) := by rw [hW]; exact ((BoxS.new w ⟨t, j, g, c, (n : Int)⟩).below (below_alS _ _)).below (below_alS _ _)
      have A0 : Hid (BoxT W (w.heap.size + 1) k x) := by rw [hW]; have := BoxT.new (w.alloc (.cells (stC ⟨t, j, g, c, (n : Int)⟩) 25)) k x; rw [World.size_alloc] at this; exact this.below (below_alS _ _)
      have R0 : Hid (BoxS W (w.heap.size + 2) St.zero) := by rw [hW]; have := BoxS.new ((w.alloc (.cells (stC ⟨t, j, g, c, (n : Int)⟩) 25)).alloc (.cells #[.int .i64 k, .string x] 33)) St.zero; rw [World.size_alloc, World.size_alloc] at this; exact this
      have B0 : Hid (Below w.heap.size w W) := by rw [hW]; exact below_al3S _ _ _ _
      have HW := Lib.hid hW
      clear hW
      go_enter Tryz.func13, Tryz.ntmps13
      go_wp2_with fail
      rw [← HW.out]
      refine (CG.out _).mono ?_
      rintro e w1 ⟨rfl, hb⟩
      have S1 := Lib.hid (S0.out.below hb)
      have A1 := Lib.hid (A0.out.below hb)
      have R1 := Lib.hid (R0.out.below hb)
      have B1 := Lib.hid (below_stepS B0.out hb)
      obtain ⟨c0, c1, c2, c3, c4⟩ := S1.out.cells
      obtain ⟨d0, d1⟩ := A1.out.cells
      clear hb S0 A0 R0 B0 HW CG
      go_wp2_with fail
      refine (CA.out _).mono ?_
      rintro e w2 ⟨rfl, hb⟩
      have S2 := Lib.hid (S1.out.below hb)
      have A2 := Lib.hid (A1.out.below hb)
      have R2 := Lib.hid (R1.out.below hb)
      have B2 := Lib.hid (below_stepS B1.out hb)
      clear hb c0 c1 c2 c3 c4 d0 d1 S1 A1 R1 B1 CA
      obtain ⟨c0, c1, c2, c3, c4⟩ := S2.out.cells
      obtain ⟨d0, d1⟩ := A2.out.cells
      go_wp2_with fail
      refine (CL.out _).mono ?_
      rintro e w3 ⟨rfl, hb⟩
      have R3 := Lib.hid (R2.out.below hb)
      have B3 := Lib.hid (below_stepS B2.out hb)
      clear hb c0 c1 c2 c3 c4 d0 d1 S2 A2 R2 B2 CL
      go_wp2_with fail
      refine (CO.out _).mono ?_
      rintro e w4 ⟨rfl, hb⟩
      have O4 := Lib.hid (BoxS.call (s := ⟨tq, jq, gq, cq, pq⟩) hb)
      have R4 := Lib.hid (R3.out.below (below_new hb))
      have B4 := Lib.hid (below_stepS B3.out (below_new hb))
      obtain ⟨c0, c1, c2, c3, c4⟩ := O4.out.cells
      clear hb R3 B3 CO
      go_wp2_with (with_reducible (show wpList _ _ _ (_ :: _) _ _); first | refine at_storeS rfl _ _ rfl (w.heap.size + 2) St.zero St.zero rfl rfl R4.out ?_)
      (try simp only [Exit.inBlock, Exit.then])
      refine bodyPost_ret (results_S2 rfl _ _ (w.heap.size + 2) _ rfl (R4.out.set _)) rfl ?_
      exact ⟨rfl, below_setRow B4.out (by omega) _⟩
set_option maxHeartbeats 4000000 in
theorem specApplyAtoms_any (s : St) (v : Value) (ls : List (Int × ByteArray)) (w : World) (hs : s.t.size ≤ 1048600) (h : AtomsAt w v ls) (hn : ls.length ≤ 2097152) (hx : ∀ e ∈ ls, e.2.size ≤ 1048576) :
    Calls Tryz.prog 8 #[stV s, v] w fun e w' => e = optE (runS s ls) ∧ Below w.heap.size w w' := by
  obtain ⟨a, cap, rfl, hcap, _⟩ := id h
  obtain ⟨t, j, g, c, p⟩ := s
  simp only at hs
  have cg := fun w => l12Good_any ⟨t, j, g, c, p⟩ w (by show t.size ≤ _; omega)
  have hr : runS ⟨t, j, g, c, p⟩ ls = if (okSt ⟨t, j, g, c, p⟩ && decide (ls.length ≤ 600)) = true then runL ⟨t, j, g, c, p⟩ ls else none := rfl
  rw [hr]
  obtain ⟨q1, h1⟩ : ∃ q, q = okSt ⟨t, j, g, c, p⟩ := ⟨_, rfl⟩
  rw [← h1] at cg ⊢
  have CG := Lib.hid cg
  have HX := Lib.hid (fun k e (h : ls[k]? = some e) => hx e (List.mem_of_getElem? h))
  have HAt := Lib.hid h
  clear cg hr h hx
  obtain ⟨n, hnn⟩ : ∃ n, n = ls.length := ⟨_, rfl⟩
  have HN := Lib.hid hnn
  rw [← hnn] at hn hcap ⊢
  clear hnn
  cases q1
  · rw [Bool.false_and, if_neg (by decide)]
    clear h1
    obtain ⟨W, hW⟩ : ∃ W, W = (w.alloc (.cells #[.string (t), .bool j, .bool g, .int .i64 c, .int .i64 p] 25)).alloc (.cells #[.string ⟨#[]⟩, .bool false, .bool false, .int .i64 0, .int .i64 0] 25) := ⟨_, rfl⟩
    have S0 : Hid (BoxS W w.heap.size ⟨t, j, g, c, p⟩) := by rw [hW]; exact (BoxS.new w ⟨t, j, g, c, p⟩).below (below_alS _ _)
    have R0 : Hid (BoxS W (w.heap.size + 1) St.zero) := by rw [hW]; have := BoxS.new (w.alloc (.cells (stC ⟨t, j, g, c, p⟩) 25)) St.zero; rw [World.size_alloc] at this; exact this
    have B0 : Hid (Below w.heap.size w W) := by rw [hW]; exact below_al2S _ _ _
    have HW := Lib.hid hW
    clear hW
    go_enter Tryz.func8, Tryz.ntmps8
    go_wp2_with fail
    rw [← HW.out]
    refine (CG.out _).mono ?_
    rintro e w1 ⟨rfl, hb⟩
    have S1 := Lib.hid (S0.out.below hb)
    have R1 := Lib.hid (R0.out.below hb)
    have B1 := Lib.hid (below_stepS B0.out hb)
    clear hb S0 R0 B0 HW CG
    go_wp2_with (with_reducible (show wpList _ _ _ (_ :: _) _ _); first | refine at_storeS rfl _ _ rfl (w.heap.size + 1) St.zero St.zero rfl rfl R1.out ?_)
    (try simp only [Exit.inBlock, Exit.then])
    refine bodyPost_ret (results_S2 rfl _ _ (w.heap.size + 1) _ rfl (R1.out.set _)) rfl ?_
    exact ⟨rfl, below_setRow B1.out (by omega) _⟩
  rw [Bool.true_and]
  by_cases h6 : n ≤ 600
  · rw [decide_eq_true h6, if_pos rfl]
    obtain ⟨W, hW⟩ : ∃ W, W = (w.alloc (.cells #[.string (t), .bool j, .bool g, .int .i64 c, .int .i64 p] 25)).alloc (.cells #[.string ⟨#[]⟩, .bool false, .bool false, .int .i64 0, .int .i64 0] 25) := ⟨_, rfl⟩
    have S0 : Hid (BoxS W w.heap.size ⟨t, j, g, c, p⟩) := by rw [hW]; exact (BoxS.new w ⟨t, j, g, c, p⟩).below (below_alS _ _)
    have R0 : Hid (BoxS W (w.heap.size + 1) St.zero) := by rw [hW]; have := BoxS.new (w.alloc (.cells (stC ⟨t, j, g, c, p⟩) 25)) St.zero; rw [World.size_alloc] at this; exact this
    have B0 : Hid (Below w.heap.size w W) := by rw [hW]; exact below_al2S _ _ _
    have HW := Lib.hid hW
    clear hW
    go_enter Tryz.func8, Tryz.ntmps8
    go_wp2_with fail
    rw [← HW.out]
    refine (CG.out _).mono ?_
    rintro e w1 ⟨rfl, hb⟩
    have S1 := Lib.hid (S0.out.below hb)
    have R1 := Lib.hid (R0.out.below hb)
    have B1 := Lib.hid (below_stepS B0.out hb)
    clear hb S0 R0 B0 HW CG
    go_wp2_with fail
    go_loopw [6, 7] (fun o i wr => ∃ (k : Nat) (s' : St), i = .int .i64 k ∧ k ≤ n ∧ o = .bool true ∧ Hid (runL ⟨t, j, g, c, p⟩ (ls.take k) = some s') ∧ Hid (okSt s' = true) ∧ Hid (BoxS wr w.heap.size s') ∧ Hid (BoxS wr (w.heap.size + 1) St.zero) ∧ Hid (Below w.heap.size w wr)) (fun _ i _ => n - (intOf i).toNat)
    case atStart => exact ⟨0, ⟨t, j, g, c, p⟩, rfl, Nat.zero_le _, rfl, by rw [List.take_zero]; exact Lib.hid rfl, Lib.hid h1.symm, S1, R1, B1⟩
    case round =>
      obtain ⟨k, s', rfl, hk, rfl, HR, HK, SW, RW, BW⟩ := hrel
      obtain ⟨t', j', g', c', p'⟩ := s'
      obtain ⟨ht', _⟩ := okSt_parts HK.out
      simp only at ht'
      clear S1 R1 B1 h1
      by_cases hlt : k < n
      · have hkl : k < ls.length := by rw [← HN.out]; exact hlt
        obtain ⟨e, he⟩ : ∃ e, ls[k]? = some e := ⟨_, List.getElem?_eq_getElem hkl⟩
        obtain ⟨bk, o, cap', hv, hcap', hbk, hcell⟩ := HAt.out.some (by omega)
        cases hv
        obtain ⟨g0, g1⟩ := hcell wr BW.out k e he
        have hes := HX.out k e he
        have hno := fun q => runL_no HR.out he q
        have hyes := fun s2 q => runL_next (s2 := s2) HR.out he q
        obtain ⟨ek, et⟩ := e
        simp only at g0 g1 hes
        have cl := fun w => specApplyAtom_any ⟨t', j', g', c', p'⟩ ek et w (by show t'.size ≤ _; omega) hes
        unfold optE at cl
        have hok := fun s2 (q : stepS ⟨t', j', g', c', p'⟩ (ek, et) = some s2) => (stepS_ok q).2.2.2
        obtain ⟨r, hr⟩ : ∃ r, r = stepS ⟨t', j', g', c', p'⟩ (ek, et) := ⟨_, rfl⟩
        rw [← hr] at cl hno hyes hok
        have HNo := Lib.hid hno
        have HYes := Lib.hid hyes
        have HOk := Lib.hid hok
        have hbw := SW.out.lt
        clear hno hyes hok hr he hcell hes
        have CL := Lib.hid cl
        clear cl
        obtain ⟨c0, c1, c2, c3, c4⟩ := SW.out.cells
        have k0 := cell_regrown c0
        have k1 := cell_regrown c1
        have k2 := cell_regrown c2
        have k3 := cell_regrown c3
        have k4 := cell_regrown c4
        have k5 := cell_regrown g0
        have k6 := cell_regrown g1
        go_wp2_with fail
        refine Mx.wp_region_mixed (Mx.ofL [(0, 1), (1, 0), (2, 0), (3, 0), (4, 1), (5, 3), (6, 0), (7, 0), (8, 0), (9, 3), (10, 0)] .done) (by kernel_rfl) (by kernel_rfl) ?_
        repeat ((first | refine Mx.mix0 rfl ?_ | refine Mx.mix1 rfl ?_); go_big_quiet_step (fail); refine wpQuiet_nil ?_)
        refine Mx.mix3 rfl ?_
        clear c0 c1 c2 c3 c4 k0 k1 k2 k3 k4 k5 k6 g0 g1
        go_wp2_with fail
        refine (CL.out _).mono ?_
        rintro e w2 ⟨rfl, hb⟩
        have hbd : Below wr.heap.size wr w2 := below_stepS (below_drewS (Below.refl _ wr)) hb
        have S2 := Lib.hid (SW.out.below hbd)
        have R2 := Lib.hid (RW.out.below hbd)
        have B2 := Lib.hid (below_stepS BW.out hbd)
        clear hb hbd SW RW BW CL
        go_wp2
        refine Mx.mid_normal (fun q => by cases q) ?_
        repeat ((first | refine Mx.mix0 rfl ?_ | refine Mx.mix1 rfl ?_); go_big_quiet_step (fail); refine wpQuiet_nil ?_)
        refine Mx.mix3 rfl ?_
        cases r with
        | none =>
          have hE := Lib.hid (HNo.out rfl)
          clear HNo HYes HOk
          go_wp2_with (with_reducible (show wpList _ _ _ (_ :: _) _ _); first | refine at_storeS rfl _ _ rfl (w.heap.size) St.zero ⟨t', j', g', c', p'⟩ rfl rfl S2.out ?_)
          refine Mx.mid_normal (fun q => by cases q) ?_
          repeat ((first | refine Mx.mix0 rfl ?_ | refine Mx.mix1 rfl ?_); go_big_quiet_step (fail); refine wpQuiet_nil ?_)
          refine Mx.mix_nil ?_
          have R3 := Lib.hid (R2.out.row (g := w.heap.size) (stC St.zero) (by omega))
          have B3 := Lib.hid (below_setRow B2.out (Nat.le_refl _) (stC St.zero))
          go_wp2_with (with_reducible (show wpList _ _ _ (_ :: _) _ _); first | refine at_storeS rfl _ _ rfl (w.heap.size + 1) St.zero St.zero rfl rfl R3.out ?_)
          (try simp only [Exit.inBlock, Exit.then])
          refine bodyPost_ret (results_S2 rfl _ _ (w.heap.size + 1) _ rfl (R3.out.set _)) rfl ?_
          exact ⟨by rw [hE.out]; rfl, below_setRow B3.out (by omega) _⟩
        | some s2 =>
          have H2 := Lib.hid (HYes.out s2 rfl)
          have K2 := Lib.hid (HOk.out s2 rfl)
          obtain ⟨tz, jz, gz, cz, pz⟩ := s2
          clear HNo HYes HOk HR HK
          go_wp2_with (with_reducible (show wpList _ _ _ (_ :: _) _ _); first | refine at_storeS rfl _ _ rfl (w.heap.size) ⟨tz, jz, gz, cz, pz⟩ ⟨t', j', g', c', p'⟩ rfl rfl S2.out ?_)
          refine Mx.mid_normal (fun q => by cases q) ?_
          repeat ((first | refine Mx.mix0 rfl ?_ | refine Mx.mix1 rfl ?_); go_big_quiet_step (fail); refine wpQuiet_nil ?_)
          refine Mx.mix_nil ?_
          have S3 := Lib.hid (S2.out.set ⟨tz, jz, gz, cz, pz⟩)
          have R3 := Lib.hid (R2.out.row (g := w.heap.size) (stC ⟨tz, jz, gz, cz, pz⟩) (by omega))
          have B3 := Lib.hid (below_setRow B2.out (Nat.le_refl _) (stC ⟨tz, jz, gz, cz, pz⟩))
          go_wp2
          go_roundw
          case rel => exact ⟨k + 1, ⟨tz, jz, gz, cz, pz⟩, by go_num, by omega, by first | rfl | trivial, H2, K2, S3, R3, B3⟩
          case measure => simp [intOf]; omega
      · obtain rfl : k = n := by omega
        have hE := HR.out
        rw [List.take_of_length_le (by rw [← HN.out]; exact Nat.le_refl _)] at hE
        have HE := Lib.hid hE
        clear hE HR
        go_wp2_with (with_reducible (show wpList _ _ _ (_ :: _) _ _); first | refine at_storeS rfl _ _ rfl (w.heap.size + 1) ⟨t', j', g', c', p'⟩ St.zero rfl rfl RW.out ?_ | refine at_loadS rfl _ rfl (w.heap.size) ⟨t', j', g', c', p'⟩ rfl SW.out ?_)
        (try simp only [Exit.inBlock, Exit.then])
        refine bodyPost_ret (results_S2 rfl _ _ (w.heap.size + 1) _ rfl (RW.out.set _)) rfl ?_
        exact ⟨by rw [HE.out]; rfl, below_setRow BW.out (by omega) _⟩
  · rw [decide_eq_false h6, if_neg (by decide)]
    clear h1
    obtain ⟨W, hW⟩ : ∃ W, W = (w.alloc (.cells #[.string (t), .bool j, .bool g, .int .i64 c, .int .i64 p] 25)).alloc (.cells #[.string ⟨#[]⟩, .bool false, .bool false, .int .i64 0, .int .i64 0] 25) := ⟨_, rfl⟩
    have S0 : Hid (BoxS W w.heap.size ⟨t, j, g, c, p⟩) := by rw [hW]; exact (BoxS.new w ⟨t, j, g, c, p⟩).below (below_alS _ _)
    have R0 : Hid (BoxS W (w.heap.size + 1) St.zero) := by rw [hW]; have := BoxS.new (w.alloc (.cells (stC ⟨t, j, g, c, p⟩) 25)) St.zero; rw [World.size_alloc] at this; exact this
    have B0 : Hid (Below w.heap.size w W) := by rw [hW]; exact below_al2S _ _ _
    have HW := Lib.hid hW
    clear hW
    go_enter Tryz.func8, Tryz.ntmps8
    go_wp2_with fail
    rw [← HW.out]
    refine (CG.out _).mono ?_
    rintro e w1 ⟨rfl, hb⟩
    have S1 := Lib.hid (S0.out.below hb)
    have R1 := Lib.hid (R0.out.below hb)
    have B1 := Lib.hid (below_stepS B0.out hb)
    clear hb S0 R0 B0 HW CG
    go_wp2_with (with_reducible (show wpList _ _ _ (_ :: _) _ _); first | refine at_storeS rfl _ _ rfl (w.heap.size + 1) St.zero St.zero rfl rfl R1.out ?_)
    (try simp only [Exit.inBlock, Exit.then])
    refine bodyPost_ret (results_S2 rfl _ _ (w.heap.size + 1) _ rfl (R1.out.set _)) rfl ?_
    exact ⟨rfl, below_setRow B1.out (by omega) _⟩
theorem specRender_any (v : Value) (ls : List (Int × ByteArray)) (w : World) (h : AtomsAt w v ls) (hn : ls.length ≤ 2097152) (hx : ∀ e ∈ ls, e.2.size ≤ 1048576) :
    Calls Tryz.prog 17 #[v] w fun e w' => e = rendE (runS (newS ⟨#[]⟩) ls) ∧ Below w.heap.size w w' := by
  obtain ⟨a, cap, rfl, hcap, _⟩ := id h
  have CN := Lib.hid (fun w => l12New_any ⟨#[]⟩ w (by decide))
  have ca := fun w h => specApplyAtoms_any (newS ⟨#[]⟩) (.slice a ls.length cap) ls w (by decide) h hn hx
  have HA := Lib.hid h
  unfold optE at ca
  unfold rendE
  obtain ⟨o, ho⟩ : ∃ o, o = runS (newS ⟨#[]⟩) ls := ⟨_, rfl⟩
  rw [← ho] at ca ⊢
  obtain ⟨s, hs⟩ : ∃ s, s = o.getD St.zero := ⟨_, rfl⟩
  obtain ⟨q, hq⟩ : ∃ q, q = o.isSome := ⟨_, rfl⟩
  have hz : q = false → s.t = ⟨#[]⟩ := fun h => by
    rw [hq] at h
    cases o with
    | none => rw [hs]; rfl
    | some _ => cases h
  rw [← hs, ← hq] at ca ⊢
  obtain ⟨t, j, g, c, p⟩ := s
  simp only at hz ⊢
  have CA := Lib.hid ca
  have HZ := Lib.hid hz
  clear ca h ho hs hq hz hx
  go_enter Tryz.func17, Tryz.ntmps17
  go_wp2_with fail
  refine (CN.out _).mono ?_
  rintro e w1 ⟨rfl, hb1⟩
  have HA1 := Lib.hid (HA.out.below hb1)
  go_wp2_with fail
  refine (CA.out _ HA1.out).mono ?_
  rintro e w2 ⟨rfl, hb2⟩
  have HB2 := Lib.hid (below_stepS hb1 hb2)
  clear hb1 hb2 HA HA1
  cases q
  · have hE := HZ.out rfl
    subst hE
    go_wp2
    go_ret2
    exact ⟨rfl, below_stepS HB2.out (below_alS _ _)⟩
  · go_wp2
    go_ret2
    exact ⟨rfl, below_stepS HB2.out (below_alS _ _)⟩
end Go.Proofs.YtnpiphkglhcifaaGreatDoor
