/-
  CONTRACTS of chapter 12 of the program: ApplyAtom, ApplyAtoms, Render. Written by gen_fmt.py.
-/
import Derived.Test.YtnpiphkglhcifaaGreatDoorFmK
import Derived.Test.YtnpiphkglhcifaaGreatDoorImpl5D
namespace Go.Proofs.YtnpiphkglhcifaaGreatDoor
set_option maxRecDepth 100000
open Go.RowKit
set_option linter.unusedVariables false

set_option maxHeartbeats 2000000 in
theorem ApplyAtom_any (s : St) (k : Int) (x : ByteArray) (w : World) (hs : s.t.size ≤ 1048600) (hx : x.size ≤ 1048576) :
    Calls Tryz.prog 12 #[stV s, atV k x] w fun e w' => e = optE (stepS s (k, x)) ∧ Below w.heap.size w w' := by
  obtain ⟨t, j, g, c, p⟩ := s
  simp only at hs
  have cg := fun w => IsValidState_any ⟨t, j, g, c, p⟩ w (by show t.size ≤ _; omega)
  have ca := fun w => Valid5_any k x w (by omega)
  obtain ⟨q1, h1⟩ : ∃ q, q = okSt ⟨t, j, g, c, p⟩ := ⟨_, rfl⟩
  obtain ⟨q2, h2⟩ : ∃ q, q = Pl.goodA k (by8 x) := ⟨_, rfl⟩
  rw [← h1] at cg
  rw [← h2] at ca
  have CG := Lib.hid cg
  have CA := Lib.hid ca
  clear cg ca
  cases q1
  · rw [stepS_no1 h1.symm]
    clear h1 h2 CA
    obtain ⟨W, hW⟩ : ∃ W, W = ((w.alloc (.cells #[.string (t), .bool j, .bool g, .int .i64 c, .int .i64 p] 25)).alloc (.cells #[.int .i64 k, .string x] 33)).alloc (.cells #[.string ⟨#[]⟩, .bool false, .bool false, .int .i64 0, .int .i64 0] 25) := ⟨_, rfl⟩
    have hsz : W.heap.size = w.heap.size + 3 := by rw [hW]; simp
    have S0 : Hid (BoxS W w.heap.size ⟨t, j, g, c, p⟩) := by rw [hW]; exact ((BoxS.new w ⟨t, j, g, c, p⟩).below (below_alS _ _)).below (below_alS _ _)
    have A0 : Hid (BoxT W (w.heap.size + 1) k x) := by rw [hW]; have := BoxT.new (w.alloc (.cells (stC ⟨t, j, g, c, p⟩) 25)) k x; rw [World.size_alloc] at this; exact this.below (below_alS _ _)
    have R0 : Hid (BoxS W (w.heap.size + 2) St.zero) := by rw [hW]; have := BoxS.new ((w.alloc (.cells (stC ⟨t, j, g, c, p⟩) 25)).alloc (.cells #[.int .i64 k, .string x] 33)) St.zero; rw [World.size_alloc, World.size_alloc] at this; exact this
    have B0 : Hid (Below w.heap.size w W) := by rw [hW]; exact below_al3S _ _ _ _
    have HW := Lib.hid hW
    clear hW
    go_enter Tryz.func12, Tryz.ntmps12
    go_wp2_with fail
    rw [← HW.out]
    refine (CG.out _).mono ?_
    rintro e w1 ⟨rfl, hb⟩
    have S1 := Lib.hid (S0.out.below hb)
    have A1 := Lib.hid (A0.out.below hb)
    have R1 := Lib.hid (R0.out.below hb)
    have B1 := Lib.hid (below_stepS B0.out hb)
    obtain ⟨c0, c1, c2, c3, c4⟩ := S1.out.cells
    obtain ⟨d0, d1⟩ := A1.out.cells
    clear hb S0 A0 R0 B0 HW CG
    go_wp2_with (with_reducible (show wpList _ _ _ (_ :: _) _ _); first | refine at_storeS rfl _ _ rfl (w.heap.size + 2) St.zero St.zero rfl rfl R1.out ?_)
    (try simp only [Exit.inBlock, Exit.then])
    refine bodyPost_ret (results_S2 rfl _ _ (w.heap.size + 2) _ rfl (R1.out.set _)) rfl ?_
    exact ⟨rfl, below_setRow B1.out (by omega) _⟩
  cases q2
  · rw [stepS_no2 h2.symm]
    clear h1 h2
    obtain ⟨W, hW⟩ : ∃ W, W = ((w.alloc (.cells #[.string (t), .bool j, .bool g, .int .i64 c, .int .i64 p] 25)).alloc (.cells #[.int .i64 k, .string x] 33)).alloc (.cells #[.string ⟨#[]⟩, .bool false, .bool false, .int .i64 0, .int .i64 0] 25) := ⟨_, rfl⟩
    have hsz : W.heap.size = w.heap.size + 3 := by rw [hW]; simp
    have S0 : Hid (BoxS W w.heap.size ⟨t, j, g, c, p⟩) := by rw [hW]; exact ((BoxS.new w ⟨t, j, g, c, p⟩).below (below_alS _ _)).below (below_alS _ _)
    have A0 : Hid (BoxT W (w.heap.size + 1) k x) := by rw [hW]; have := BoxT.new (w.alloc (.cells (stC ⟨t, j, g, c, p⟩) 25)) k x; rw [World.size_alloc] at this; exact this.below (below_alS _ _)
    have R0 : Hid (BoxS W (w.heap.size + 2) St.zero) := by rw [hW]; have := BoxS.new ((w.alloc (.cells (stC ⟨t, j, g, c, p⟩) 25)).alloc (.cells #[.int .i64 k, .string x] 33)) St.zero; rw [World.size_alloc, World.size_alloc] at this; exact this
    have B0 : Hid (Below w.heap.size w W) := by rw [hW]; exact below_al3S _ _ _ _
    have HW := Lib.hid hW
    clear hW
    go_enter Tryz.func12, Tryz.ntmps12
    go_wp2_with fail
    rw [← HW.out]
    refine (CG.out _).mono ?_
    rintro e w1 ⟨rfl, hb⟩
    have S1 := Lib.hid (S0.out.below hb)
    have A1 := Lib.hid (A0.out.below hb)
    have R1 := Lib.hid (R0.out.below hb)
    have B1 := Lib.hid (below_stepS B0.out hb)
    obtain ⟨c0, c1, c2, c3, c4⟩ := S1.out.cells
    obtain ⟨d0, d1⟩ := A1.out.cells
    clear hb S0 A0 R0 B0 HW CG
    go_wp2_with fail
    refine (CA.out _).mono ?_
    rintro e w2 ⟨rfl, hb⟩
    have S2 := Lib.hid (S1.out.below hb)
    have A2 := Lib.hid (A1.out.below hb)
    have R2 := Lib.hid (R1.out.below hb)
    have B2 := Lib.hid (below_stepS B1.out hb)
    clear hb c0 c1 c2 c3 c4 d0 d1 S1 A1 R1 B1 CA
    obtain ⟨c0, c1, c2, c3, c4⟩ := S2.out.cells
    obtain ⟨d0, d1⟩ := A2.out.cells
    go_wp2_with (with_reducible (show wpList _ _ _ (_ :: _) _ _); first | refine at_storeS rfl _ _ rfl (w.heap.size + 2) St.zero St.zero rfl rfl R2.out ?_)
    (try simp only [Exit.inBlock, Exit.then])
    refine bodyPost_ret (results_S2 rfl _ _ (w.heap.size + 2) _ rfl (R2.out.set _)) rfl ?_
    exact ⟨rfl, below_setRow B2.out (by omega) _⟩
  · obtain ⟨ht, hpt, _, _, n, rfl, hn⟩ := okSt_parts h1.symm
    have hx20 := goodA_len h2.symm
    have hk := goodA_kind h2.symm
    simp only at ht hn
    have hval := app_val h1.symm h2.symm
    have cl := fun w => afterA_any t j g c n k x w ht hn hx20 hk h2.symm hpt
    rw [stepS_yes h1.symm h2.symm]
    obtain ⟨q, hq⟩ : ∃ q, q = app ⟨t, j, g, c, n⟩ k x := ⟨_, rfl⟩
    have hqs := app_size ⟨t, j, g, c, n⟩ k x
    simp only at hqs
    rw [← hq] at cl hval hqs ⊢
    obtain ⟨tq, jq, gq, cq, pq⟩ := q
    simp only at hval hqs ⊢
    by_cases hz : tq.size ≤ 2000
    · rw [if_pos hz]
      have CL := Lib.hid cl
      clear cl hq h1 h2 hk hval
      obtain ⟨W, hW⟩ : ∃ W, W = ((w.alloc (.cells #[.string (t), .bool j, .bool g, .int .i64 c, .int .i64 (n : Int)] 25)).alloc (.cells #[.int .i64 k, .string x] 33)).alloc (.cells #[.string ⟨#[]⟩, .bool false, .bool false, .int .i64 0, .int .i64 0] 25) := ⟨_, rfl⟩
      have hsz : W.heap.size = w.heap.size + 3 := by rw [hW]; simp
      have S0 : Hid (BoxS W w.heap.size ⟨t, j, g, c, (n : Int)⟩) := by rw [hW]; exact ((BoxS.new w ⟨t, j, g, c, (n : Int)⟩).below (below_alS _ _)).below (below_alS _ _)
      have A0 : Hid (BoxT W (w.heap.size + 1) k x) := by rw [hW]; have := BoxT.new (w.alloc (.cells (stC ⟨t, j, g, c, (n : Int)⟩) 25)) k x; rw [World.size_alloc] at this; exact this.below (below_alS _ _)
      have R0 : Hid (BoxS W (w.heap.size + 2) St.zero) := by rw [hW]; have := BoxS.new ((w.alloc (.cells (stC ⟨t, j, g, c, (n : Int)⟩) 25)).alloc (.cells #[.int .i64 k, .string x] 33)) St.zero; rw [World.size_alloc, World.size_alloc] at this; exact this
      have B0 : Hid (Below w.heap.size w W) := by rw [hW]; exact below_al3S _ _ _ _
      have HW := Lib.hid hW
      clear hW
      go_enter Tryz.func12, Tryz.ntmps12
      go_wp2_with fail
      rw [← HW.out]
      refine (CG.out _).mono ?_
      rintro e w1 ⟨rfl, hb⟩
      have S1 := Lib.hid (S0.out.below hb)
      have A1 := Lib.hid (A0.out.below hb)
      have R1 := Lib.hid (R0.out.below hb)
      have B1 := Lib.hid (below_stepS B0.out hb)
      obtain ⟨c0, c1, c2, c3, c4⟩ := S1.out.cells
      obtain ⟨d0, d1⟩ := A1.out.cells
      clear hb S0 A0 R0 B0 HW CG
      go_wp2_with fail
      refine (CA.out _).mono ?_
      rintro e w2 ⟨rfl, hb⟩
      have S2 := Lib.hid (S1.out.below hb)
      have A2 := Lib.hid (A1.out.below hb)
      have R2 := Lib.hid (R1.out.below hb)
      have B2 := Lib.hid (below_stepS B1.out hb)
      clear hb c0 c1 c2 c3 c4 d0 d1 S1 A1 R1 B1 CA
      obtain ⟨c0, c1, c2, c3, c4⟩ := S2.out.cells
      obtain ⟨d0, d1⟩ := A2.out.cells
      go_wp2_with fail
      refine (CL.out _).mono ?_
      rintro e w3 ⟨rfl, hb⟩
      have R3 := Lib.hid (R2.out.below hb)
      have B3 := Lib.hid (below_stepS B2.out hb)
      clear hb c0 c1 c2 c3 c4 d0 d1 S2 A2 R2 B2 CL
      have R4 : Hid (BoxS (w3.alloc (.cells #[.string tq, .bool jq, .bool gq, .int .i64 cq, .int .i64 pq] 25)) (w.heap.size + 2) St.zero) := R3.out.below (below_alS _ _)
      have B4 : Hid (Below w.heap.size w (w3.alloc (.cells #[.string tq, .bool jq, .bool gq, .int .i64 cq, .int .i64 pq] 25))) := below_stepS B3.out (below_alS _ _)
      go_wp2_with (with_reducible (show wpList _ _ _ (_ :: _) _ _); first | refine at_storeS rfl _ _ rfl (w.heap.size + 2) ⟨tq, jq, gq, cq, pq⟩ St.zero rfl rfl R4.out ?_)
      (try simp only [Exit.inBlock, Exit.then])
      refine bodyPost_ret (results_S2 rfl _ _ (w.heap.size + 2) _ rfl (R4.out.set _)) rfl ?_
      exact ⟨rfl, below_setRow B4.out (by omega) _⟩
    · rw [if_neg hz]
      have CL := Lib.hid cl
      clear cl hq h1 h2 hk hval
      obtain ⟨W, hW⟩ : ∃ W, W = ((w.alloc (.cells #[.string (t), .bool j, .bool g, .int .i64 c, .int .i64 (n : Int)] 25)).alloc (.cells #[.int .i64 k, .string x] 33)).alloc (.cells #[.string ⟨#[]⟩, .bool false, .bool false, .int .i64 0, .int .i64 0] 25) := ⟨_, rfl⟩
      have hsz : W.heap.size = w.heap.size + 3 := by rw [hW]; simp
      have S0 : Hid (BoxS W w.heap.size ⟨t, j, g, c, (n : Int)⟩) := by rw [hW]; exact ((BoxS.new w ⟨t, j, g, c, (n : Int)⟩).below (below_alS _ _)).below (below_alS _ _)
      have A0 : Hid (BoxT W (w.heap.size + 1) k x) := by rw [hW]; have := BoxT.new (w.alloc (.cells (stC ⟨t, j, g, c, (n : Int)⟩) 25)) k x; rw [World.size_alloc] at this; exact this.below (below_alS _ _)
      have R0 : Hid (BoxS W (w.heap.size + 2) St.zero) := by rw [hW]; have := BoxS.new ((w.alloc (.cells (stC ⟨t, j, g, c, (n : Int)⟩) 25)).alloc (.cells #[.int .i64 k, .string x] 33)) St.zero; rw [World.size_alloc, World.size_alloc] at this; exact this
      have B0 : Hid (Below w.heap.size w W) := by rw [hW]; exact below_al3S _ _ _ _
      have HW := Lib.hid hW
      clear hW
      go_enter Tryz.func12, Tryz.ntmps12
      go_wp2_with fail
      rw [← HW.out]
      refine (CG.out _).mono ?_
      rintro e w1 ⟨rfl, hb⟩
      have S1 := Lib.hid (S0.out.below hb)
      have A1 := Lib.hid (A0.out.below hb)
      have R1 := Lib.hid (R0.out.below hb)
      have B1 := Lib.hid (below_stepS B0.out hb)
      obtain ⟨c0, c1, c2, c3, c4⟩ := S1.out.cells
      obtain ⟨d0, d1⟩ := A1.out.cells
      clear hb S0 A0 R0 B0 HW CG
      go_wp2_with fail
      refine (CA.out _).mono ?_
      rintro e w2 ⟨rfl, hb⟩
      have S2 := Lib.hid (S1.out.below hb)
      have A2 := Lib.hid (A1.out.below hb)
      have R2 := Lib.hid (R1.out.below hb)
      have B2 := Lib.hid (below_stepS B1.out hb)
      clear hb c0 c1 c2 c3 c4 d0 d1 S1 A1 R1 B1 CA
      obtain ⟨c0, c1, c2, c3, c4⟩ := S2.out.cells
      obtain ⟨d0, d1⟩ := A2.out.cells
      go_wp2_with fail
      refine (CL.out _).mono ?_
      rintro e w3 ⟨rfl, hb⟩
      have R3 := Lib.hid (R2.out.below hb)
      have B3 := Lib.hid (below_stepS B2.out hb)
      clear hb c0 c1 c2 c3 c4 d0 d1 S2 A2 R2 B2 CL
      have R4 : Hid (BoxS (w3.alloc (.cells #[.string tq, .bool jq, .bool gq, .int .i64 cq, .int .i64 pq] 25)) (w.heap.size + 2) St.zero) := R3.out.below (below_alS _ _)
      have B4 : Hid (Below w.heap.size w (w3.alloc (.cells #[.string tq, .bool jq, .bool gq, .int .i64 cq, .int .i64 pq] 25))) := below_stepS B3.out (below_alS _ _)
      go_wp2_with (with_reducible (show wpList _ _ _ (_ :: _) _ _); first | refine at_storeS rfl _ _ rfl (w.heap.size + 2) St.zero St.zero rfl rfl R4.out ?_)
      (try simp only [Exit.inBlock, Exit.then])
      refine bodyPost_ret (results_S2 rfl _ _ (w.heap.size + 2) _ rfl (R4.out.set _)) rfl ?_
      exact ⟨rfl, below_setRow B4.out (by omega) _⟩
set_option maxHeartbeats 4000000 in
theorem ApplyAtoms_any (s : St) (v : Value) (ls : List (Int × ByteArray)) (w : World) (hs : s.t.size ≤ 1048600) (h : AtomsAt w v ls) (hn : ls.length ≤ 2097152) (hx : ∀ e ∈ ls, e.2.size ≤ 1048576) :
    Calls Tryz.prog 7 #[stV s, v] w fun e w' => e = optE (runS s ls) ∧ Below w.heap.size w w' := by
  obtain ⟨a, cap, rfl, hcap, _⟩ := id h
  obtain ⟨t, j, g, c, p⟩ := s
  simp only at hs
  have cg := fun w => IsValidState_any ⟨t, j, g, c, p⟩ w (by show t.size ≤ _; omega)
  have hr : runS ⟨t, j, g, c, p⟩ ls = if (okSt ⟨t, j, g, c, p⟩ && decide (ls.length ≤ 600)) = true then runL ⟨t, j, g, c, p⟩ ls else none := rfl
  rw [hr]
  obtain ⟨q1, h1⟩ : ∃ q, q = okSt ⟨t, j, g, c, p⟩ := ⟨_, rfl⟩
  rw [← h1] at cg ⊢
  have CG := Lib.hid cg
  have HX := Lib.hid (fun k e (h : ls[k]? = some e) => hx e (List.mem_of_getElem? h))
  have HAt := Lib.hid h
  clear cg hr h hx
  obtain ⟨n, hnn⟩ : ∃ n, n = ls.length := ⟨_, rfl⟩
  have HN := Lib.hid hnn
  rw [← hnn] at hn hcap ⊢
  clear hnn
  cases q1
  · rw [Bool.false_and, if_neg (by decide)]
    clear h1
    obtain ⟨W, hW⟩ : ∃ W, W = (w.alloc (.cells #[.string (t), .bool j, .bool g, .int .i64 c, .int .i64 p] 25)).alloc (.cells #[.string ⟨#[]⟩, .bool false, .bool false, .int .i64 0, .int .i64 0] 25) := ⟨_, rfl⟩
    have S0 : Hid (BoxS W w.heap.size ⟨t, j, g, c, p⟩) := by rw [hW]; exact (BoxS.new w ⟨t, j, g, c, p⟩).below (below_alS _ _)
    have R0 : Hid (BoxS W (w.heap.size + 1) St.zero) := by rw [hW]; have := BoxS.new (w.alloc (.cells (stC ⟨t, j, g, c, p⟩) 25)) St.zero; rw [World.size_alloc] at this; exact this
    have B0 : Hid (Below w.heap.size w W) := by rw [hW]; exact below_al2S _ _ _
    have HW := Lib.hid hW
    clear hW
    go_enter Tryz.func7, Tryz.ntmps7
    go_wp2_with fail
    rw [← HW.out]
    refine (CG.out _).mono ?_
    rintro e w1 ⟨rfl, hb⟩
    have S1 := Lib.hid (S0.out.below hb)
    have R1 := Lib.hid (R0.out.below hb)
    have B1 := Lib.hid (below_stepS B0.out hb)
    clear hb S0 R0 B0 HW CG
    go_wp2_with (with_reducible (show wpList _ _ _ (_ :: _) _ _); first | refine at_storeS rfl _ _ rfl (w.heap.size + 1) St.zero St.zero rfl rfl R1.out ?_)
    (try simp only [Exit.inBlock, Exit.then])
    refine bodyPost_ret (results_S2 rfl _ _ (w.heap.size + 1) _ rfl (R1.out.set _)) rfl ?_
    exact ⟨rfl, below_setRow B1.out (by omega) _⟩
  rw [Bool.true_and]
  by_cases h6 : n ≤ 600
  · rw [decide_eq_true h6, if_pos rfl]
    obtain ⟨W, hW⟩ : ∃ W, W = (w.alloc (.cells #[.string (t), .bool j, .bool g, .int .i64 c, .int .i64 p] 25)).alloc (.cells #[.string ⟨#[]⟩, .bool false, .bool false, .int .i64 0, .int .i64 0] 25) := ⟨_, rfl⟩
    have S0 : Hid (BoxS W w.heap.size ⟨t, j, g, c, p⟩) := by rw [hW]; exact (BoxS.new w ⟨t, j, g, c, p⟩).below (below_alS _ _)
    have R0 : Hid (BoxS W (w.heap.size + 1) St.zero) := by rw [hW]; have := BoxS.new (w.alloc (.cells (stC ⟨t, j, g, c, p⟩) 25)) St.zero; rw [World.size_alloc] at this; exact this
    have B0 : Hid (Below w.heap.size w W) := by rw [hW]; exact below_al2S _ _ _
    have HW := Lib.hid hW
    clear hW
    go_enter Tryz.func7, Tryz.ntmps7
    go_wp2_with fail
    rw [← HW.out]
    refine (CG.out _).mono ?_
    rintro e w1 ⟨rfl, hb⟩
    have S1 := Lib.hid (S0.out.below hb)
    have R1 := Lib.hid (R0.out.below hb)
    have B1 := Lib.hid (below_stepS B0.out hb)
    clear hb S0 R0 B0 HW CG
    go_wp2_with fail
    go_loopw [21] (fun i wr => ∃ (k : Nat) (s' : St), i = .int .i64 k ∧ k ≤ n ∧ Hid (runL ⟨t, j, g, c, p⟩ (ls.take k) = some s') ∧ Hid (okSt s' = true) ∧ Hid (BoxS wr w.heap.size s') ∧ Hid (BoxS wr (w.heap.size + 1) St.zero) ∧ Hid (Below w.heap.size w wr)) (fun i _ => n - (intOf i).toNat)
    case atStart => exact ⟨0, ⟨t, j, g, c, p⟩, rfl, Nat.zero_le _, by rw [List.take_zero]; exact Lib.hid rfl, Lib.hid h1.symm, S1, R1, B1⟩
    case round =>
      obtain ⟨k, s', rfl, hk, HR, HK, SW, RW, BW⟩ := hrel
      obtain ⟨t', j', g', c', p'⟩ := s'
      obtain ⟨ht', _⟩ := okSt_parts HK.out
      simp only at ht'
      clear S1 R1 B1 h1
      by_cases hlt : k < n
      · have hkl : k < ls.length := by rw [← HN.out]; exact hlt
        obtain ⟨e, he⟩ : ∃ e, ls[k]? = some e := ⟨_, List.getElem?_eq_getElem hkl⟩
        obtain ⟨bk, o, cap', hv, hcap', hbk, hcell⟩ := HAt.out.some (by omega)
        cases hv
        obtain ⟨g0, g1⟩ := hcell wr BW.out k e he
        have hes := HX.out k e he
        have hno := fun q => runL_no HR.out he q
        have hyes := fun s2 q => runL_next (s2 := s2) HR.out he q
        obtain ⟨ek, et⟩ := e
        simp only at g0 g1 hes
        have cl := fun w => ApplyAtom_any ⟨t', j', g', c', p'⟩ ek et w (by show t'.size ≤ _; omega) hes
        unfold optE at cl
        have hok := fun s2 (q : stepS ⟨t', j', g', c', p'⟩ (ek, et) = some s2) => (stepS_ok q).2.2.2
        obtain ⟨r, hr⟩ : ∃ r, r = stepS ⟨t', j', g', c', p'⟩ (ek, et) := ⟨_, rfl⟩
        rw [← hr] at cl hno hyes hok
        have HNo := Lib.hid hno
        have HYes := Lib.hid hyes
        have HOk := Lib.hid hok
        have hbw := SW.out.lt
        clear hno hyes hok hr he hcell hes
        have CL := Lib.hid cl
        clear cl
        obtain ⟨WA, hWA⟩ : ∃ W, W = wr.alloc (.cells #[.int .i64 ek, .string et] 33) := ⟨_, rfl⟩
        have SA : Hid (BoxS WA w.heap.size ⟨t', j', g', c', p'⟩) := by rw [hWA]; exact SW.out.below (below_alS _ _)
        have RA : Hid (BoxS WA (w.heap.size + 1) St.zero) := by rw [hWA]; exact RW.out.below (below_alS _ _)
        have BA : Hid (Below w.heap.size w WA) := by rw [hWA]; exact below_stepS BW.out (below_alS _ _)
        have HWA := Lib.hid hWA
        obtain ⟨c0, c1, c2, c3, c4⟩ := SW.out.cells
        have hsw := SW.out.lt
        clear hWA
        go_wp2_with fail
        rw [← HWA.out]
        refine (CL.out _).mono ?_
        rintro e w2 ⟨rfl, hb⟩
        have S2 := Lib.hid (SA.out.below hb)
        have R2 := Lib.hid (RA.out.below hb)
        have B2 := Lib.hid (below_stepS BA.out hb)
        clear hb SW RW BW CL SA RA BA HWA c0 c1 c2 c3 c4 g0 g1 hsw
        cases r with
        | none =>
          dsimp only [Option.getD, Option.isSome, St.zero]
          have hE := Lib.hid (HNo.out rfl)
          clear HNo HYes HOk
          have R3 : Hid (BoxS (w2.alloc (.cells #[.string ⟨#[]⟩, .bool false, .bool false, .int .i64 0, .int .i64 0] 25)) (w.heap.size + 1) St.zero) := R2.out.below (below_alS _ _)
          have B3 : Hid (Below w.heap.size w (w2.alloc (.cells #[.string ⟨#[]⟩, .bool false, .bool false, .int .i64 0, .int .i64 0] 25))) := below_stepS B2.out (below_alS _ _)
          go_wp2_with (with_reducible (show wpList _ _ _ (_ :: _) _ _); first | refine at_storeS rfl _ _ rfl (w.heap.size + 1) St.zero St.zero rfl rfl R3.out ?_)
          (try simp only [Exit.inBlock, Exit.then])
          refine bodyPost_ret (results_S2 rfl _ _ (w.heap.size + 1) _ rfl (R3.out.set _)) rfl ?_
          exact ⟨by rw [hE.out]; rfl, below_setRow B3.out (by omega) _⟩
        | some s2 =>
          have H2 := Lib.hid (HYes.out s2 rfl)
          have K2 := Lib.hid (HOk.out s2 rfl)
          obtain ⟨tz, jz, gz, cz, pz⟩ := s2
          dsimp only [Option.getD, Option.isSome]
          have S3 : Hid (BoxS (w2.alloc (.cells #[.string tz, .bool jz, .bool gz, .int .i64 cz, .int .i64 pz] 25)) w.heap.size ⟨t', j', g', c', p'⟩) := S2.out.below (below_alS _ _)
          have R3 : Hid (BoxS (w2.alloc (.cells #[.string tz, .bool jz, .bool gz, .int .i64 cz, .int .i64 pz] 25)) (w.heap.size + 1) St.zero) := R2.out.below (below_alS _ _)
          have B3 : Hid (Below w.heap.size w (w2.alloc (.cells #[.string tz, .bool jz, .bool gz, .int .i64 cz, .int .i64 pz] 25))) := below_stepS B2.out (below_alS _ _)
          clear HNo HYes HOk HR HK
          go_wp2_with (with_reducible (show wpList _ _ _ (_ :: _) _ _); first | refine at_storeS rfl _ _ rfl (w.heap.size) ⟨tz, jz, gz, cz, pz⟩ ⟨t', j', g', c', p'⟩ rfl rfl S3.out ?_)
          have S4 := Lib.hid (S3.out.set ⟨tz, jz, gz, cz, pz⟩)
          have R4 := Lib.hid (R3.out.row (g := w.heap.size) (stC ⟨tz, jz, gz, cz, pz⟩) (by omega))
          have B4 := Lib.hid (below_setRow B3.out (Nat.le_refl _) (stC ⟨tz, jz, gz, cz, pz⟩))
          go_roundw
          case rel => exact ⟨k + 1, ⟨tz, jz, gz, cz, pz⟩, by go_num, by omega, H2, K2, S4, R4, B4⟩
          case measure => simp [intOf]; omega
      · obtain rfl : k = n := by omega
        have hE := HR.out
        rw [List.take_of_length_le (by rw [← HN.out]; exact Nat.le_refl _)] at hE
        have HE := Lib.hid hE
        clear hE HR
        go_wp2_with (with_reducible (show wpList _ _ _ (_ :: _) _ _); first | refine at_storeS rfl _ _ rfl (w.heap.size + 1) ⟨t', j', g', c', p'⟩ St.zero rfl rfl RW.out ?_ | refine at_loadS rfl _ rfl (w.heap.size) ⟨t', j', g', c', p'⟩ rfl SW.out ?_)
        (try simp only [Exit.inBlock, Exit.then])
        refine bodyPost_ret (results_S2 rfl _ _ (w.heap.size + 1) _ rfl (RW.out.set _)) rfl ?_
        exact ⟨by rw [HE.out]; rfl, below_setRow BW.out (by omega) _⟩
  · rw [decide_eq_false h6, if_neg (by decide)]
    clear h1
    obtain ⟨W, hW⟩ : ∃ W, W = (w.alloc (.cells #[.string (t), .bool j, .bool g, .int .i64 c, .int .i64 p] 25)).alloc (.cells #[.string ⟨#[]⟩, .bool false, .bool false, .int .i64 0, .int .i64 0] 25) := ⟨_, rfl⟩
    have S0 : Hid (BoxS W w.heap.size ⟨t, j, g, c, p⟩) := by rw [hW]; exact (BoxS.new w ⟨t, j, g, c, p⟩).below (below_alS _ _)
    have R0 : Hid (BoxS W (w.heap.size + 1) St.zero) := by rw [hW]; have := BoxS.new (w.alloc (.cells (stC ⟨t, j, g, c, p⟩) 25)) St.zero; rw [World.size_alloc] at this; exact this
    have B0 : Hid (Below w.heap.size w W) := by rw [hW]; exact below_al2S _ _ _
    have HW := Lib.hid hW
    clear hW
    go_enter Tryz.func7, Tryz.ntmps7
    go_wp2_with fail
    rw [← HW.out]
    refine (CG.out _).mono ?_
    rintro e w1 ⟨rfl, hb⟩
    have S1 := Lib.hid (S0.out.below hb)
    have R1 := Lib.hid (R0.out.below hb)
    have B1 := Lib.hid (below_stepS B0.out hb)
    clear hb S0 R0 B0 HW CG
    go_wp2_with (with_reducible (show wpList _ _ _ (_ :: _) _ _); first | refine at_storeS rfl _ _ rfl (w.heap.size + 1) St.zero St.zero rfl rfl R1.out ?_)
    (try simp only [Exit.inBlock, Exit.then])
    refine bodyPost_ret (results_S2 rfl _ _ (w.heap.size + 1) _ rfl (R1.out.set _)) rfl ?_
    exact ⟨rfl, below_setRow B1.out (by omega) _⟩
theorem Render_any (v : Value) (ls : List (Int × ByteArray)) (w : World) (h : AtomsAt w v ls) (hn : ls.length ≤ 2097152) (hx : ∀ e ∈ ls, e.2.size ≤ 1048576) :
    Calls Tryz.prog 16 #[v] w fun e w' => e = rendE (runS (newS ⟨#[]⟩) ls) ∧ Below w.heap.size w w' := by
  obtain ⟨a, cap, rfl, hcap, _⟩ := id h
  have cn := fun w => NewState_any ⟨#[]⟩ w (by decide)
  rw [show newStE ⟨#[]⟩ = .returned (.tuple #[stV ⟨⟨#[]⟩, true, false, 0, 0⟩, .bool true]) from rfl] at cn
  have CN := Lib.hid cn
  have ca := fun w h => ApplyAtoms_any ⟨⟨#[]⟩, true, false, 0, 0⟩ (.slice a ls.length cap) ls w (by decide) h hn hx
  have HA := Lib.hid h
  unfold optE at ca
  unfold rendE
  rw [show newS ⟨#[]⟩ = ⟨⟨#[]⟩, true, false, 0, 0⟩ from rfl]
  obtain ⟨o, ho⟩ : ∃ o, o = runS ⟨⟨#[]⟩, true, false, 0, 0⟩ ls := ⟨_, rfl⟩
  rw [← ho] at ca ⊢
  obtain ⟨s, hs⟩ : ∃ s, s = o.getD St.zero := ⟨_, rfl⟩
  obtain ⟨q, hq⟩ : ∃ q, q = o.isSome := ⟨_, rfl⟩
  rw [← hs, ← hq] at ca ⊢
  obtain ⟨t, j, g, c, p⟩ := s
  simp only
  have CA := Lib.hid ca
  clear ca cn h ho hs hq hx
  go_enter Tryz.func16, Tryz.ntmps16
  go_wp2_with fail
  refine (CN.out _).mono ?_
  rintro e w1 ⟨rfl, hb1⟩
  have HA1 := Lib.hid ((HA.out.below hb1).below (below_alS w1 (.cells #[.string ⟨#[]⟩, .bool true, .bool false, .int .i64 0, .int .i64 0] 25)))
  go_wp2_with fail
  refine (CA.out _ HA1.out).mono ?_
  rintro e w2 ⟨rfl, hb2⟩
  have HB2 := Lib.hid (below_stepS hb1 (below_new hb2))
  have X2 := Lib.hid (BoxS.call (s := ⟨⟨#[]⟩, true, false, 0, 0⟩) hb2)
  have X3 := Lib.hid (X2.out.set ⟨t, j, g, c, p⟩)
  obtain ⟨d0, d1, d2, d3, d4⟩ := X3.out.cells
  have hlw := hb1.size
  have HB3 := Lib.hid (below_setRow HB2.out hlw (stC ⟨t, j, g, c, p⟩))
  clear hb1 hb2 HA HA1 HB2
  go_wp2_with (with_reducible (show wpList _ _ _ (_ :: _) _ _); refine at_storeS rfl _ _ rfl w1.heap.size ⟨t, j, g, c, p⟩ ⟨⟨#[]⟩, true, false, 0, 0⟩ rfl rfl X2.out ?_)
  go_ret2
  exact ⟨rfl, HB3.out⟩
end Go.Proofs.YtnpiphkglhcifaaGreatDoor
