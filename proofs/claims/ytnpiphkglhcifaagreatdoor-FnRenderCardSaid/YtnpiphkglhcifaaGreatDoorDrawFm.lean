/-
  CONTRACTS of the draws of states: state, DrawIsValidState, DrawLastWord.
-/
import Derived.Test.YtnpiphkglhcifaaGreatDoorDrawG
import Derived.Test.YtnpiphkglhcifaaGreatDoorFmU
namespace Go.Proofs.YtnpiphkglhcifaaGreatDoor
set_option maxRecDepth 100000
open Go.RowKit

theorem BoxS.grown {w w' : World} {B R : Nat} {s : St} (h : BoxS w R s) (hg : w.grownBy w' (some B)) (hB : B ≠ R) : BoxS w' R s :=
  (hg.block R h.lt (by simp; exact fun e => hB e.symm)).trans h
theorem runS_size (s : St) (l : List (Int × ByteArray)) : ((runS s l).getD St.zero).t.size ≤ 2000 := by
  cases h : runS s l with
  | none => exact Nat.zero_le _
  | some s' =>
    unfold runS at h
    split at h
    · rename_i hc
      rw [Bool.and_eq_true] at hc
      exact (okSt_parts (runL_ok hc.1 h)).1
    · cases h
/-- A drawn state. -/
def DSt (e : Ending) : Prop := ∃ s : St, e = .returned (stV s) ∧ s.t.size ≤ 2100
/-- The box's text is seen. -/
structure SeenS (X : Nat) (t : ByteArray) where
  world : World
  cell : world.cell? ⟨X, 0, none⟩ = some (.string t)
def leftS (w : World) (X : Nat) : Nat := match w.cell? ⟨X, 0, none⟩ with
  | some (.string t) => 3000 - t.size
  | _ => 0
theorem leftS_eq {w : World} {X : Nat} {s : St} (h : BoxS w X s) : leftS w X = 3000 - s.t.size := by
  unfold leftS
  rw [h.cells.1]
theorem goodE_small20 {e : Int × ByteArray} (h : goodE e = true) : e.2.size ≤ 20 := goodA_len h
set_option maxHeartbeats 8000000 in
theorem state_any (B N : Nat) (w : World) (h : Cur w B N) (hN : N ≤ 700000) :
    Calls Tryz.prog 22 #[.pointer (some ⟨B, 0, none⟩)] w fun e w' => DSt e ∧ Cur w' B (N + 6000) ∧ w.grownBy w' (some B) := by
  have hlt := h.lt
  have CP := Lib.hid (fun N n w h hN h0 h1 => pick_any B N n w h hN h0 h1)
  have CQ := Lib.hid (fun N w h hN => sequence_any B N 5 w h hN (by omega))
  have CN := Lib.hid (fun t w ht => l12New_any t w ht)
  have CA := Lib.hid (fun s v ls w hs h hn hx => specApplyAtoms_any s v ls w hs h hn hx)
  obtain ⟨W, hW⟩ : ∃ W, W = w.alloc (.cells #[.string ⟨#[]⟩, .bool false, .bool false, .int .i64 0, .int .i64 0] 25) := ⟨_, rfl⟩
  have hWs : W.heap.size = w.heap.size + 1 := by rw [hW, World.size_alloc]
  have R0 : Hid (BoxS W w.heap.size St.zero) := by rw [hW]; exact BoxS.new w St.zero
  have G0 : Hid (w.grownBy W (some B)) := by rw [hW]; exact World.grownBy_alloc w _ _
  have C0 : Hid (Cur W B N) := by rw [hW]; exact h.below (below_alS _ _)
  have c1 := of_new B N W #[.string ⟨#[]⟩, .string ⟨#[]⟩, .string ⟨#[115, 111]⟩, .string ⟨#[84, 104, 101, 32, 101, 110, 100, 46]⟩] 4 C0.out (by omega) (by kernel_rfl) rfl (by omega) (by omega)
  rw [hWs] at c1
  have C1 := Lib.hid c1
  have HW := Lib.hid hW
  clear h c1 hW
  go_enter Tryz.func22, Tryz.ntmps22
  go_wp2_with fail
  rw [← HW.out]
  refine C1.out.mono ?_
  rintro e w1 ⟨⟨x, hx, rfl⟩, hc, hg⟩
  have K1 := Lib.hid hc
  have R1 := Lib.hid (R0.out.grown hg (by omega))
  have G1 := Lib.hid (Lib.grownBy_trans G0.out hg)
  clear hc hg R0 G0 C0 C1 HW
  go_wp2_with fail
  refine (CN.out x w1 (by omega)).mono ?_
  rintro e w2 ⟨rfl, hb⟩
  have K2 := Lib.hid (K1.out.below hb)
  have R2 := Lib.hid (R1.out.below hb)
  have G2 := Lib.hid (Lib.grownBy_below G1.out hb)
  clear hb K1 R1 G1 CN
  go_wp2_with fail
  refine (CQ.out _ w2 K2.out (by omega)).mono ?_
  rintro e w3 ⟨⟨v, ls, rfl, ho, hl, hgd⟩, hc, hg⟩
  have K3 := Lib.hid hc
  have R3 := Lib.hid (R2.out.grown hg (by omega))
  have G3 := Lib.hid (Lib.grownBy_trans G2.out hg)
  have hA := ownT_at ho
  have hsz := runS_size (newS x) ls
  have ca := CA.out (newS x) v ls w3 (by show x.size ≤ _; omega) hA (by omega) (fun e he => by have := goodE_small20 (hgd e he); omega)
  unfold optE at ca
  obtain ⟨o, ho'⟩ : ∃ o, o = runS (newS x) ls := ⟨_, rfl⟩
  rw [← ho'] at ca hsz
  obtain ⟨s, hs⟩ : ∃ s, s = o.getD St.zero := ⟨_, rfl⟩
  obtain ⟨q, hq⟩ : ∃ q, q = o.isSome := ⟨_, rfl⟩
  rw [← hs] at ca hsz
  rw [← hq] at ca
  obtain ⟨t, j, g, c, p⟩ := s
  simp only at hsz
  have C4 := Lib.hid ca
  clear hc hg ho hl hgd hA ca ho' hs hq K2 R2 G2 CQ CA
  go_wp2_with fail
  refine C4.out.mono ?_
  rintro e w4 ⟨rfl, hb⟩
  have hs4 : w.heap.size < w4.heap.size := (R3.out.below hb).lt
  obtain ⟨V, hV⟩ : ∃ V, V = w4.alloc (.cells #[.string t, .bool j, .bool g, .int .i64 c, .int .i64 p] 25) := ⟨_, rfl⟩
  have hVs : V.heap.size = w4.heap.size + 1 := by rw [hV, World.size_alloc]
  have X4 : Hid (BoxS V w4.heap.size ⟨t, j, g, c, p⟩) := by rw [hV]; exact BoxS.new w4 ⟨t, j, g, c, p⟩
  have R4 : Hid (BoxS V w.heap.size St.zero) := by rw [hV]; exact (R3.out.below hb).below (below_alS _ _)
  have K4 : Hid (Cur V B (N + 2 + 60)) := by rw [hV]; exact (K3.out.below hb).below (below_alS _ _)
  have G4 : Hid (w.grownBy V (some B)) := by rw [hV]; exact Lib.grownBy_trans (Lib.grownBy_below G3.out hb) (World.grownBy_alloc _ _ _)
  have HV := Lib.hid hV
  clear hb hV K3 R3 G3 C4
  go_wp2_with fail
  rw [← HV.out]
  refine (CP.out _ _ V K4.out (by omega) (by omega) (by omega)).mono ?_
  rintro e w5 ⟨⟨r, r0, r1, rfl⟩, hc, hg⟩
  obtain ⟨X, hX⟩ : ∃ X, X = w4.heap.size := ⟨_, rfl⟩
  rw [← hX] at X4 hVs hs4 ⊢
  have hBX : B < X := by have := G4.out.size; omega
  have K5 := Lib.hid hc
  have X5 := Lib.hid (X4.out.grown hg (by omega))
  have R5 := Lib.hid (R4.out.grown hg (by omega))
  have G5 := Lib.hid (Lib.grownBy_trans G4.out hg)
  clear hc hg hX K4 X4 R4 G4 HV
  have hXw : w.heap.size ≤ X := by omega
  have hr : r = 0 ∨ r = 1 ∨ r = 2 ∨ r = 3 ∨ 4 ≤ r := by omega
  rcases hr with rfl | rfl | rfl | rfl | hr
  · clear r0 r1
    obtain ⟨c0, c1, c2, c3, c4⟩ := X5.out.cells
    go_wp2_with fail
    refine (CP.out _ ((t.size : Int) + 3) w5 K5.out (by omega) (by omega) (by omega)).mono ?_
    rintro e w6 ⟨⟨i, i0, i1, rfl⟩, hc, hg⟩
    have X6 := Lib.hid (X5.out.grown hg (by omega))
    have R6 := Lib.hid (R5.out.grown hg (by omega))
    have K6 := Lib.hid hc
    have G6 := Lib.hid (Lib.grownBy_trans G5.out hg)
    clear hc hg X5 R5 K5 G5 CP
    clear c0 c1 c2 c3 c4
    obtain ⟨c0, c1, c2, c3, c4⟩ := X6.out.cells
    obtain ⟨f0, f1, f2, f3, f4⟩ := X6.out.frozen
    have XF := Lib.hid (X6.out.set4 (i - 1))
    have RF := Lib.hid (R6.out.other (g := X) (o := 4) (v := .int .i64 (i - 1)) (by omega))
    have KF := Lib.hid (K6.out.setCellA hBX 4 (.int .i64 (i - 1)))
    have GF := Lib.hid (grown_setCell G6.out hXw 4 (.int .i64 (i - 1)))
    go_wp2_with (with_reducible (show wpList _ _ _ (_ :: _) _ _); first | refine at_storeS rfl _ _ rfl w.heap.size ⟨t, j, g, c, i - 1⟩ St.zero rfl rfl RF.out ?_ | refine at_loadS rfl _ rfl X ⟨t, j, g, c, i - 1⟩ rfl XF.out ?_)
    (try simp only [Exit.inBlock, Exit.then])
    refine bodyPost_ret (results_S rfl _ _ w.heap.size _ rfl (RF.out.set _)) rfl ?_
    exact ⟨⟨_, rfl, by show t.size ≤ _; omega⟩, (KF.out.mono (by omega)).setRow hlt _, grown_setRow GF.out (Nat.le_refl _) _⟩
  · clear r0 r1
    go_wp2_with fail
    refine (CP.out _ 5 w5 K5.out (by omega) (by omega) (by omega)).mono ?_
    rintro e w6 ⟨⟨i, i0, i1, rfl⟩, hc, hg⟩
    have X6 := Lib.hid (X5.out.grown hg (by omega))
    have R6 := Lib.hid (R5.out.grown hg (by omega))
    have K6 := Lib.hid hc
    have G6 := Lib.hid (Lib.grownBy_trans G5.out hg)
    clear hc hg X5 R5 K5 G5 CP
    obtain ⟨c0, c1, c2, c3, c4⟩ := X6.out.cells
    obtain ⟨f0, f1, f2, f3, f4⟩ := X6.out.frozen
    have XF := Lib.hid (X6.out.set3 (i - 1))
    have RF := Lib.hid (R6.out.other (g := X) (o := 3) (v := .int .i64 (i - 1)) (by omega))
    have KF := Lib.hid (K6.out.setCellA hBX 3 (.int .i64 (i - 1)))
    have GF := Lib.hid (grown_setCell G6.out hXw 3 (.int .i64 (i - 1)))
    go_wp2_with (with_reducible (show wpList _ _ _ (_ :: _) _ _); first | refine at_storeS rfl _ _ rfl w.heap.size ⟨t, j, g, i - 1, p⟩ St.zero rfl rfl RF.out ?_ | refine at_loadS rfl _ rfl X ⟨t, j, g, i - 1, p⟩ rfl XF.out ?_)
    (try simp only [Exit.inBlock, Exit.then])
    refine bodyPost_ret (results_S rfl _ _ w.heap.size _ rfl (RF.out.set _)) rfl ?_
    exact ⟨⟨_, rfl, by show t.size ≤ _; omega⟩, (KF.out.mono (by omega)).setRow hlt _, grown_setRow GF.out (Nat.le_refl _) _⟩
  · clear r0 r1 CP
    have c6 := of_new B (N + 2 + 60 + 2) w5.drew #[.string ⟨#[10]⟩, .string ⟨#[126]⟩, .string ⟨#[127]⟩, .string ⟨#[32]⟩] 4 (K5.out.below (below_drewS (Below.refl _ w5))) (by omega) (by kernel_rfl) rfl (by omega) (by omega)
    have C6 := Lib.hid c6
    have GD := Lib.hid (Lib.grownBy_below G5.out (below_drewS (Below.refl _ w5)))
    have kX : ∀ q : SeenS X t, q.world.cell? ⟨X, 0, none⟩ = some (.string t) := fun q => q.cell
    clear c6
    go_wp2_with fail
    refine Mx.wp_region_mix (S := fun w' => ∃ q : SeenS X t, w' = q.world) (Mx.ofL [(0, 0), (1, 1), (2, 0), (3, 2), (4, 2), (5, 0), (6, 0), (7, 3)] .done) (by kernel_rfl) (by kernel_rfl) ⟨⟨w5.drew, X5.out.cells.1⟩, rfl⟩ ?_
    repeat ((first | refine Mx.mix0 rfl ?_ | refine Mx.mix1 rfl ?_); go_big_quiet_step (rfl); refine wpQuiet_nil ?_)
    refine Mx.mix2 rfl ?_
    clear kX
    go_wp2_with fail
    refine Mx.mid_normal (fun _ => ⟨⟨_, ((show BoxS w5.drew X ⟨t, j, g, c, p⟩ from X5.out).below (below_alS _ _)).cells.1⟩, rfl⟩) ?_
    refine Mx.mix2 rfl ?_
    go_wp2_with fail
    refine C6.out.mono ?_
    rintro e w6 ⟨⟨y, hy, rfl⟩, hc, hg⟩
    have X6 := Lib.hid ((show BoxS w5.drew X ⟨t, j, g, c, p⟩ from X5.out).grown hg (by omega))
    have R6 := Lib.hid ((show BoxS w5.drew w.heap.size St.zero from R5.out).grown hg (by omega))
    have K6 := Lib.hid hc
    have G6 := Lib.hid (Lib.grownBy_trans GD.out hg)
    have HCell := Lib.hid X6.out.cells.1
    clear hc hg X5 R5 K5 G5 GD C6
    go_wp2
    refine Mx.mid_normal (fun _ => ⟨⟨_, HCell.out⟩, rfl⟩) ?_
    repeat ((first | refine Mx.mix0 rfl ?_ | refine Mx.mix1 rfl ?_); go_big_quiet_step (rfl); refine wpQuiet_nil ?_)
    refine Mx.mix3 rfl ?_
    obtain ⟨c0, c1, c2, c3, c4⟩ := X6.out.cells
    obtain ⟨f0, f1, f2, f3, f4⟩ := X6.out.frozen
    go_wp2
    refine Mx.mid_normal (fun q => by cases q) (Mx.mix_nil ?_)
    have XF := Lib.hid (X6.out.set0 (t ++ y))
    have RF := Lib.hid (R6.out.other (g := X) (o := 0) (v := .string (t ++ y)) (by omega))
    have KF := Lib.hid (K6.out.setCellA hBX 0 (.string (t ++ y)))
    have GF := Lib.hid (grown_setCell G6.out hXw 0 (.string (t ++ y)))
    go_wp2_with (with_reducible (show wpList _ _ _ (_ :: _) _ _); first | refine at_storeS rfl _ _ rfl w.heap.size ⟨t ++ y, j, g, c, p⟩ St.zero rfl rfl RF.out ?_ | refine at_loadS rfl _ rfl X ⟨t ++ y, j, g, c, p⟩ rfl XF.out ?_)
    (try simp only [Exit.inBlock, Exit.then])
    refine bodyPost_ret (results_S rfl _ _ w.heap.size _ rfl (RF.out.set _)) rfl ?_
    exact ⟨⟨_, rfl, by show (t ++ y).size ≤ _; rw [ByteArray.size_append]; omega⟩, (KF.out.mono (by omega)).setRow hlt _, grown_setRow GF.out (Nat.le_refl _) _⟩
  · clear r0 r1
    go_wp2_with fail
    go_loopw [] (fun wr => ∃ t' : ByteArray, t'.size ≤ 2003 ∧ Hid (BoxS wr X ⟨t', j, g, c, p⟩) ∧ Hid (BoxS wr w.heap.size St.zero) ∧ Hid (Cur wr B (N + 70 + 2 * t'.size)) ∧ Hid (w.grownBy wr (some B))) (fun wr => leftS wr X)
    case atStart => exact ⟨t, by omega, X5, R5, Lib.hid (K5.out.mono (by omega)), G5⟩
    case round =>
      obtain ⟨t', ht', XW, RW, KW, GW⟩ := hrel
      clear X5 R5 K5 G5
      have hXr := XW.out.lt
      have kX : ∀ q : SeenS X t', q.world.cell? ⟨X, 0, none⟩ = some (.string t') := fun q => q.cell
      have HM := Lib.hid (leftS_eq XW.out)
      go_wp2_with fail
      refine Mx.wp_region_mix (S := fun w' => ∃ q : SeenS X t', w' = q.world) (Mx.ofL [(0, 0), (1, 1), (2, 0), (3, 0), (4, 2), (5, 0), (6, 0)] .done) (by kernel_rfl) (by kernel_rfl) ⟨⟨wr.drew, XW.out.cells.1⟩, rfl⟩ ?_
      repeat ((first | refine Mx.mix0 rfl ?_ | refine Mx.mix1 rfl ?_); go_big_quiet_step (rfl); refine wpQuiet_nil ?_)
      refine Mx.mix2 rfl ?_
      clear kX
      go_wp2_with fail
      refine (CP.out _ _ wr.drew (KW.out.below (below_drewS (Below.refl _ wr))) (by omega) (by omega) (by omega)).mono ?_
      rintro e w6 ⟨⟨i, i0, i1, rfl⟩, hc, hg⟩
      have X6 := Lib.hid ((show BoxS wr.drew X ⟨t', j, g, c, p⟩ from XW.out).grown hg (by omega))
      have R6 := Lib.hid ((show BoxS wr.drew w.heap.size St.zero from RW.out).grown hg (by omega))
      have K6 := Lib.hid hc
      have G6 := Lib.hid (Lib.grownBy_trans (Lib.grownBy_below GW.out (below_drewS (Below.refl _ wr))) hg)
      have HCell := Lib.hid X6.out.cells.1
      clear hc hg XW RW KW GW
      go_wp2
      refine Mx.mid_normal (fun _ => ⟨⟨_, HCell.out⟩, rfl⟩) ?_
      repeat ((first | refine Mx.mix0 rfl ?_ | refine Mx.mix1 rfl ?_); go_big_quiet_step (rfl); refine wpQuiet_nil ?_)
      refine Mx.mix_nil ?_
      obtain ⟨c0, c1, c2, c3, c4⟩ := X6.out.cells
      obtain ⟨f0, f1, f2, f3, f4⟩ := X6.out.frozen
      by_cases hlt2 : (t'.size : Int) < 1995 + i
      · have hs2 : (t' ++ (⟨#[120]⟩ : ByteArray)).size = t'.size + 1 := by rw [ByteArray.size_append]; rfl
        have XF := Lib.hid (X6.out.set0 (t' ++ ⟨#[120]⟩))
        have RF := Lib.hid (R6.out.other (g := X) (o := 0) (v := .string (t' ++ ⟨#[120]⟩)) (by omega))
        have KF := Lib.hid (K6.out.setCellA hBX 0 (.string (t' ++ ⟨#[120]⟩)))
        have GF := Lib.hid (grown_setCell G6.out hXw 0 (.string (t' ++ ⟨#[120]⟩)))
        have HM2 := Lib.hid (leftS_eq XF.out)
        have HS2 := Lib.hid hs2
        clear hs2
        go_wp2
        go_roundw
        case rel => exact ⟨t' ++ ⟨#[120]⟩, by rw [HS2.out]; omega, XF, RF, Lib.hid (KF.out.mono (by rw [HS2.out]; omega)), GF⟩
        case measure =>
          rw [HM.out, HM2.out]
          show 3000 - (t' ++ (⟨#[120]⟩ : ByteArray)).size < 3000 - t'.size
          rw [HS2.out]; omega
      · clear HM
        go_wp2_with (with_reducible (show wpList _ _ _ (_ :: _) _ _); first | refine at_storeS rfl _ _ rfl w.heap.size ⟨t', j, g, c, p⟩ St.zero rfl rfl R6.out ?_ | refine at_loadS rfl _ rfl X ⟨t', j, g, c, p⟩ rfl X6.out ?_)
        (try simp only [Exit.inBlock, Exit.then])
        refine bodyPost_ret (results_S rfl _ _ w.heap.size _ rfl (R6.out.set _)) rfl ?_
        exact ⟨⟨_, rfl, by show t'.size ≤ _; omega⟩, (K6.out.mono (by omega)).setRow hlt _, grown_setRow G6.out (Nat.le_refl _) _⟩
  · have n0 : (r == 0) = false := by rw [beq_eq_false_iff_ne]; omega
    have n1 : (r == 1) = false := by rw [beq_eq_false_iff_ne]; omega
    have n2 : (r == 2) = false := by rw [beq_eq_false_iff_ne]; omega
    have n3 : (r == 3) = false := by rw [beq_eq_false_iff_ne]; omega
    clear r0 r1 hr CP
    go_wp2_with (with_reducible (show wpList _ _ _ (_ :: _) _ _); first | refine at_storeS rfl _ _ rfl w.heap.size ⟨t, j, g, c, p⟩ St.zero rfl rfl R5.out ?_ | refine at_loadS rfl _ rfl X ⟨t, j, g, c, p⟩ rfl X5.out ?_)
    (try simp only [Exit.inBlock, Exit.then])
    refine bodyPost_ret (results_S rfl _ _ w.heap.size _ rfl (R5.out.set _)) rfl ?_
    exact ⟨⟨_, rfl, by show t.size ≤ _; omega⟩, (K5.out.mono (by omega)).setRow hlt _, grown_setRow G5.out (Nat.le_refl _) _⟩
end Go.Proofs.YtnpiphkglhcifaaGreatDoor
