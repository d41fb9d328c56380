/-
  laws.FnExactApplyAtom returns true whatever the state and the atom: impl.ApplyAtom answers as the specification. Conditions: none but the row's own (the tables of unicode that it lists are Go's own).
-/
import Derived.Test.YtnpiphkglhcifaaDoorRows
import Derived.Test.YtnpiphkglhcifaaDoorCards
import Derived.Test.YtnpiphkglhcifaaDoorTie
import Derived.WalkKit
import Derived.ProofKit
import Derived.OpenShut
import Derived.ShutString
import Derived.ChangeOld
import Derived.Below
import Derived.SliceStrings
import Derived.JoinedCond
import Derived.Deep.DeepHandedRow
import Derived.Deep.DeepWitnessRowRef
import Derived.Lib.Hide
import Derived.Lay
import Derived.LaidOnce
import Derived.PinnedBridge
import Derived.LaidMore
import Derived.Lib.LaidTab
import Derived.Stop.LaidErr
import Derived.Test.YtnpiphkglhcifaaDoorFmU
import Derived.Test.YtnpiphkglhcifaaDoorFmV
import Derived.Deep.Cut
namespace Go.Proofs.YtnpiphkglhcifaaDoor.fnExactApplyAtom
open Go.ChangeShapes Go.WideShapes Go.ChangeAt Go.RowKit
open Go.ChangeMaps (open_string shut_string)
set_option linter.unusedVariables false
set_option maxRecDepth 100000

theorem own : ownKnob Tryd.prog.godebug = none := by kernel_rfl
theorem laidOut : laidOutB Tryd.prog = true := by kernel_rfl

/-! ### THE WALK: the Go text returns true, and writes nothing that was there. -/
set_option maxRecDepth 100000 in
set_option maxHeartbeats 8000000 in
theorem walk (s0 : St) (a1 : Int) (s1 : ByteArray) (w : World) (hS : w.ShapedOpen Tryd.prog)  (w0 : StFine s0) (w1 : (Lit.int .i64 a1).wf = true ∧ s1.size ≤ maxLen) :
    Calls Tryd.prog 4 #[stV s0, .agg #[.int .i64 a1, .string s1]] w fun e w' => e = .returned (.bool true) ∧ Below w.heap.size w w' := by
  obtain ⟨t, j, g, c, p⟩ := s0
  have hsz : t.size ≤ maxLen := w0.2.2
  have hsx : s1.size ≤ maxLen := w1.2
  have CZ := Lib.hid (fun w => szState_any ⟨t, j, g, c, p⟩ 1048576 w (by omega) (by omega) hsz)
  have CT := Lib.hid (fun w => toState_any ⟨t, j, g, c, p⟩ w)
  have CA := Lib.hid (fun w => toAtom_any a1 s1 w)
  dsimp only at CZ CT
  obtain ⟨W, hW⟩ : ∃ W, W = (w.alloc (.cells #[.string t, .bool j, .bool g, .int .i64 c, .int .i64 p] 33)).alloc (.cells #[.int .i64 a1, .string s1] 34) := ⟨_, rfl⟩
  have hWs : W.heap.size = w.heap.size + 2 := by rw [hW]; simp
  have X0 : Hid (BoxL W w.heap.size ⟨t, j, g, c, p⟩) := by rw [hW]; exact (BoxL.new (s := ⟨t, j, g, c, p⟩) (Below.refl _ _)).below (below_alS _ _)
  have Y0 : Hid (BoxA W (w.heap.size + 1) a1 s1) := by rw [hW]; have := BoxA.new (w := w.alloc (.cells #[.string t, .bool j, .bool g, .int .i64 c, .int .i64 p] 33)) (k := a1) (t := s1) (T := 34) (Below.refl _ _); rw [World.size_alloc] at this; exact this
  have B0 : Hid (Below w.heap.size w W) := by rw [hW]; exact below_al2S _ _ _
  have HW := Lib.hid hW
  clear hW w0 w1 hS
  by_cases hbig : (1048576 : Int) < t.size
  · rw [if_pos hbig] at CZ
    go_enter Tryd.func4, Tryd.ntmps4
    go_wp2_with fail
    rw [← HW.out]
    refine (CZ.out _).mono ?_
    rintro e w1 ⟨rfl, hb⟩
    have B1 := Lib.hid (below_stepS B0.out hb)
    clear hb
    go_wp2
    go_ret
    exact ⟨rfl, B1.out⟩
  rw [if_neg hbig] at CZ
  have CY := Lib.hid (fun w => szAtom_any a1 s1 (1048576 - t.size) w (by omega) (by omega) hsx)
  by_cases hbig2 : (1048576 : Int) - t.size < s1.size
  · rw [if_pos hbig2] at CY
    go_enter Tryd.func4, Tryd.ntmps4
    go_wp2_with fail
    rw [← HW.out]
    refine (CZ.out _).mono ?_
    rintro e w1 ⟨rfl, hb⟩
    have X1 := Lib.hid (X0.out.below hb)
    have Y1 := Lib.hid (Y0.out.below hb)
    have B1 := Lib.hid (below_stepS B0.out hb)
    clear hb X0 Y0 B0 HW
    obtain ⟨_, c0, c1, c2, c3, c4⟩ := X1.out
    obtain ⟨_, d0, d1⟩ := Y1.out
    go_wp2_with fail
    refine (CY.out _).mono ?_
    rintro e w2 ⟨rfl, hb⟩
    have B2 := Lib.hid (below_stepS B1.out hb)
    clear hb
    go_wp2
    go_ret
    exact ⟨rfl, B2.out⟩
  rw [if_neg hbig2] at CY
  have cs := fun w => specApplyAtom_any ⟨t, j, g, c, p⟩ a1 s1 w (by show t.size ≤ _; omega) (by omega)
  have ci := fun w => ApplyAtom_any ⟨t, j, g, c, p⟩ a1 s1 w (by show t.size ≤ _; omega) (by omega)
  unfold optE at cs ci
  obtain ⟨o, ho⟩ : ∃ o, o = stepS ⟨t, j, g, c, p⟩ (a1, s1) := ⟨_, rfl⟩
  rw [← ho] at cs ci
  obtain ⟨s, hs⟩ : ∃ s, s = o.getD St.zero := ⟨_, rfl⟩
  obtain ⟨q, hq⟩ : ∃ q, q = o.isSome := ⟨_, rfl⟩
  rw [← hs, ← hq] at cs ci
  have CE := Lib.hid (fun w => eqState_same s w)
  obtain ⟨tq, jq, gq, cq, pq⟩ := s
  try dsimp only at CE cs ci
  have CS := Lib.hid cs
  have CI := Lib.hid ci
  clear cs ci ho hs hq
  go_enter Tryd.func4, Tryd.ntmps4
  go_wp2_with fail
  rw [← HW.out]
  refine (CZ.out _).mono ?_
  rintro e w1 ⟨rfl, hb⟩
  have X1 := Lib.hid (X0.out.below hb)
  have Y1 := Lib.hid (Y0.out.below hb)
  have B1 := Lib.hid (below_stepS B0.out hb)
  clear hb X0 Y0 B0 HW
  obtain ⟨_, c0, c1, c2, c3, c4⟩ := X1.out
  obtain ⟨_, d0, d1⟩ := Y1.out
  go_wp2_with fail
  refine (CY.out _).mono ?_
  rintro e w2 ⟨rfl, hb⟩
  have X2 := Lib.hid (X1.out.below hb)
  have Y2 := Lib.hid (Y1.out.below hb)
  have B2 := Lib.hid (below_stepS B1.out hb)
  clear hb X1 Y1 B1 c0 c1 c2 c3 c4 d0 d1
  obtain ⟨_, c0, c1, c2, c3, c4⟩ := X2.out
  obtain ⟨_, d0, d1⟩ := Y2.out
  --AA
  go_upto_region 8 with fail
  go_cut [6, 7] from 10 (fun v6 v7 wx => ∃ B0, v6 = .pointer (some ⟨B0, 0, none⟩) ∧ v7 = .bool q ∧ Hid (w2.heap.size ≤ B0) ∧ Hid (BoxS wx B0 ⟨tq, jq, gq, cq, pq⟩) ∧ Hid (Below w2.heap.size w2 wx))
  case first =>
    have kc0 := cell_regrown c0
    have kc1 := cell_regrown c1
    have kc2 := cell_regrown c2
    have kc3 := cell_regrown c3
    have kc4 := cell_regrown c4
    have kd0 := cell_regrown d0
    have kd1 := cell_regrown d1
    have D_w2 : Hid (Below w2.heap.size w2 w2.drew) := below_drewS (Below.refl _ _)
    refine Mx.wp_region_mixed (Mx.ofL [(0, 1), (2, 1)] (.fork 1 2 ((.fork 3 3 ((.fork 4 3 (Mx.ofL [(5, 0), (6, 0), (7, 0), (8, 2), (9, 3), (10, 0)] .done) 8 2 (Mx.ofL [(4, 3), (5, 0), (6, 0), (7, 0), (9, 3), (10, 0)] .done))) 8 2 (Mx.ofL [(3, 3), (4, 3), (5, 0), (6, 0), (7, 0), (9, 3), (10, 0)] .done))) 8 2 (Mx.ofL [(1, 2), (3, 3), (4, 3), (5, 0), (6, 0), (7, 0), (9, 3), (10, 0)] .done))) (by kernel_rfl) (by kernel_rfl) ?_
    repeat ((first | refine Mx.mix0 rfl ?_ | refine Mx.mix1 rfl ?_); go_big_quiet_step (fail); refine wpQuiet_nil ?_)
    clear c0 c1 c2 c3 c4 d0 d1 kc0 kc1 kc2 kc3 kc4 kd0 kd1
    refine Mx.mixF rfl rfl ?Fxa ?Fxd
    case' Fxa =>
      go_wp2_with fail
      refine (CT.out _).mono ?_
      rintro e wa1 ⟨rfl, hb⟩
      have D_wa1 : Hid (Below w2.heap.size w2 wa1) := D_w2.out.trans (hb.mono D_w2.out.size)
      have G_wa1 := Lib.hid (regrown_of_below D_wa1.out)
      clear hb
      go_wp2
      refine Mx.mid_normal (fun q => (by first | exact G_wa1.out | cases q | exact absurd q (by decide))) ?_
      refine Mx.mixF rfl rfl ?Fxaa ?Fxad
      case' Fxaa =>
        go_wp2_with fail
        refine (CA.out _).mono ?_
        rintro e wa2 ⟨rfl, hb⟩
        have D_wa2 : Hid (Below w2.heap.size w2 wa2) := D_wa1.out.trans (hb.mono D_wa1.out.size)
        have G_wa2 := Lib.hid (regrown_of_below D_wa2.out)
        clear hb
        go_wp2
        refine Mx.mid_normal (fun q => (by first | exact G_wa2.out | cases q | exact absurd q (by decide))) ?_
        refine Mx.mixF rfl rfl ?Fxaaa ?Fxaad
        case' Fxaaa =>
          go_wp2_with fail
          refine (CS.out _).mono ?_
          rintro e wa3 ⟨rfl, hb⟩
          have D_wa3 : Hid (Below w2.heap.size w2 wa3) := D_wa2.out.trans (hb.mono D_wa2.out.size)
          have G_wa3 := Lib.hid (regrown_of_below D_wa3.out)
          clear hb
          go_wp2
          refine Mx.mid_normal (fun q => (by first | exact G_wa3.out | cases q | exact absurd q (by decide))) ?_
          repeat ((first | refine Mx.mix0 rfl ?_ | refine Mx.mix1 rfl ?_); go_big_quiet_step (fail); refine wpQuiet_nil ?_)
          refine Mx.mix2 rfl ?_
          go_wp2_with fail
          obtain ⟨wa4, hW⟩ : ∃ W, W = World.alloc wa3 (.cells #[.string ⟨#[]⟩, .bool false, .bool false, .int .i64 0, .int .i64 0] 25) := ⟨_, rfl⟩
          have hbA : Below wa3.heap.size wa3 wa4 := by rw [hW]; exact below_alS _ _
          have D_wa4 : Hid (Below w2.heap.size w2 wa4) := D_wa3.out.trans (hbA.mono D_wa3.out.size)
          have Q_wa4 : Hid (BoxS wa4 wa3.heap.size St.zero) := by rw [hW]; exact BoxS.new wa3 St.zero
          have L_wa4 : Hid (w2.heap.size ≤ wa3.heap.size) := D_wa3.out.size
          have G_wa4 := Lib.hid (regrown_of_below D_wa4.out)
          rw [← hW]
          refine Mx.mid_normal (fun q => (by first | exact G_wa4.out | cases q | exact absurd q (by decide))) ?_
          clear hW hbA
          repeat ((first | refine Mx.mix0 rfl ?_ | refine Mx.mix1 rfl ?_); go_big_quiet_step (fail); refine wpQuiet_nil ?_)
          refine Mx.mix3 rfl ?_
          go_wp2_with (with_reducible (show wpList _ _ _ (_ :: _) _ _); refine at_storeS rfl _ _ rfl wa3.heap.size ⟨tq, jq, gq, cq, pq⟩ St.zero rfl rfl Q_wa4.out ?_)
          refine Mx.mid_normal (fun q => by cases q) ?_
          repeat ((first | refine Mx.mix0 rfl ?_ | refine Mx.mix1 rfl ?_); go_big_quiet_step (fail); refine wpQuiet_nil ?_)
          refine Mx.mix_nil ?_
          have Q9 := Lib.hid (Q_wa4.out.set ⟨tq, jq, gq, cq, pq⟩)
          have D9 := Lib.hid (below_setRow D_wa4.out L_wa4.out (stC ⟨tq, jq, gq, cq, pq⟩))
          have L9 := L_wa4
          go_wp2_with fail
          go_meet
          case rel => exact ⟨_, rfl, rfl, L9, Q9, D9⟩
        case' Fxaad =>
          go_wp2_with fail
          obtain ⟨wa5, hW⟩ : ∃ W, W = World.alloc wa2 (.cells #[.string ⟨#[]⟩, .bool false, .bool false, .int .i64 0, .int .i64 0] 25) := ⟨_, rfl⟩
          have hbA : Below wa2.heap.size wa2 wa5 := by rw [hW]; exact below_alS _ _
          have D_wa5 : Hid (Below w2.heap.size w2 wa5) := D_wa2.out.trans (hbA.mono D_wa2.out.size)
          have Q_wa5 : Hid (BoxS wa5 wa2.heap.size St.zero) := by rw [hW]; exact BoxS.new wa2 St.zero
          have L_wa5 : Hid (w2.heap.size ≤ wa2.heap.size) := D_wa2.out.size
          have G_wa5 := Lib.hid (regrown_of_below D_wa5.out)
          rw [← hW]
          refine Mx.mid_normal (fun q => (by first | exact G_wa5.out | cases q | exact absurd q (by decide))) ?_
          clear hW hbA
          refine Mx.mix3 rfl ?_
          go_wp2_with fail
          refine (CS.out _).mono ?_
          rintro e wa6 ⟨rfl, hb⟩
          have D_wa6 : Hid (Below w2.heap.size w2 wa6) := D_wa5.out.trans (hb.mono D_wa5.out.size)
          have Q_wa6 := Lib.hid (Q_wa5.out.below hb)
          have L_wa6 := L_wa5
          have G_wa6 := Lib.hid (regrown_of_below D_wa6.out)
          clear hb
          go_wp2
          refine Mx.mid_normal (fun q => (by first | exact G_wa6.out | cases q | exact absurd q (by decide))) ?_
          repeat ((first | refine Mx.mix0 rfl ?_ | refine Mx.mix1 rfl ?_); go_big_quiet_step (fail); refine wpQuiet_nil ?_)
          refine Mx.mix3 rfl ?_
          go_wp2_with (with_reducible (show wpList _ _ _ (_ :: _) _ _); refine at_storeS rfl _ _ rfl wa2.heap.size ⟨tq, jq, gq, cq, pq⟩ St.zero rfl rfl Q_wa6.out ?_)
          refine Mx.mid_normal (fun q => by cases q) ?_
          repeat ((first | refine Mx.mix0 rfl ?_ | refine Mx.mix1 rfl ?_); go_big_quiet_step (fail); refine wpQuiet_nil ?_)
          refine Mx.mix_nil ?_
          have Q9 := Lib.hid (Q_wa6.out.set ⟨tq, jq, gq, cq, pq⟩)
          have D9 := Lib.hid (below_setRow D_wa6.out L_wa6.out (stC ⟨tq, jq, gq, cq, pq⟩))
          have L9 := L_wa6
          go_wp2_with fail
          go_meet
          case rel => exact ⟨_, rfl, rfl, L9, Q9, D9⟩
      case' Fxad =>
        go_wp2_with fail
        obtain ⟨wa7, hW⟩ : ∃ W, W = World.alloc wa1 (.cells #[.string ⟨#[]⟩, .bool false, .bool false, .int .i64 0, .int .i64 0] 25) := ⟨_, rfl⟩
        have hbA : Below wa1.heap.size wa1 wa7 := by rw [hW]; exact below_alS _ _
        have D_wa7 : Hid (Below w2.heap.size w2 wa7) := D_wa1.out.trans (hbA.mono D_wa1.out.size)
        have Q_wa7 : Hid (BoxS wa7 wa1.heap.size St.zero) := by rw [hW]; exact BoxS.new wa1 St.zero
        have L_wa7 : Hid (w2.heap.size ≤ wa1.heap.size) := D_wa1.out.size
        have G_wa7 := Lib.hid (regrown_of_below D_wa7.out)
        rw [← hW]
        refine Mx.mid_normal (fun q => (by first | exact G_wa7.out | cases q | exact absurd q (by decide))) ?_
        clear hW hbA
        refine Mx.mix3 rfl ?_
        go_wp2_with fail
        refine (CA.out _).mono ?_
        rintro e wa8 ⟨rfl, hb⟩
        have D_wa8 : Hid (Below w2.heap.size w2 wa8) := D_wa7.out.trans (hb.mono D_wa7.out.size)
        have Q_wa8 := Lib.hid (Q_wa7.out.below hb)
        have L_wa8 := L_wa7
        have G_wa8 := Lib.hid (regrown_of_below D_wa8.out)
        clear hb
        go_wp2
        refine Mx.mid_normal (fun q => (by first | exact G_wa8.out | cases q | exact absurd q (by decide))) ?_
        refine Mx.mix3 rfl ?_
        go_wp2_with fail
        refine (CS.out _).mono ?_
        rintro e wa9 ⟨rfl, hb⟩
        have D_wa9 : Hid (Below w2.heap.size w2 wa9) := D_wa8.out.trans (hb.mono D_wa8.out.size)
        have Q_wa9 := Lib.hid (Q_wa8.out.below hb)
        have L_wa9 := L_wa8
        have G_wa9 := Lib.hid (regrown_of_below D_wa9.out)
        clear hb
        go_wp2
        refine Mx.mid_normal (fun q => (by first | exact G_wa9.out | cases q | exact absurd q (by decide))) ?_
        repeat ((first | refine Mx.mix0 rfl ?_ | refine Mx.mix1 rfl ?_); go_big_quiet_step (fail); refine wpQuiet_nil ?_)
        refine Mx.mix3 rfl ?_
        go_wp2_with (with_reducible (show wpList _ _ _ (_ :: _) _ _); refine at_storeS rfl _ _ rfl wa1.heap.size ⟨tq, jq, gq, cq, pq⟩ St.zero rfl rfl Q_wa9.out ?_)
        refine Mx.mid_normal (fun q => by cases q) ?_
        repeat ((first | refine Mx.mix0 rfl ?_ | refine Mx.mix1 rfl ?_); go_big_quiet_step (fail); refine wpQuiet_nil ?_)
        refine Mx.mix_nil ?_
        have Q9 := Lib.hid (Q_wa9.out.set ⟨tq, jq, gq, cq, pq⟩)
        have D9 := Lib.hid (below_setRow D_wa9.out L_wa9.out (stC ⟨tq, jq, gq, cq, pq⟩))
        have L9 := L_wa9
        go_wp2_with fail
        go_meet
        case rel => exact ⟨_, rfl, rfl, L9, Q9, D9⟩
    case' Fxd =>
      go_wp2_with fail
      obtain ⟨wa10, hW⟩ : ∃ W, W = (World.alloc w2 (.cells #[.string ⟨#[]⟩, .bool false, .bool false, .int .i64 0, .int .i64 0] 25)).drew := ⟨_, rfl⟩
      have D_wa10 : Hid (Below w2.heap.size w2 wa10) := by rw [hW]; exact below_drewS (below_alS _ _)
      have Q_wa10 : Hid (BoxS wa10 w2.heap.size St.zero) := by rw [hW]; exact BoxS.new w2 St.zero
      have L_wa10 : Hid (w2.heap.size ≤ w2.heap.size) := Nat.le_refl _
      have G_wa10 := Lib.hid (regrown_of_below D_wa10.out)
      rw [← hW]
      refine Mx.mid_normal (fun q => (by first | exact G_wa10.out | cases q | exact absurd q (by decide))) ?_
      clear hW
      refine Mx.mix2 rfl ?_
      go_wp2_with fail
      refine (CT.out _).mono ?_
      rintro e wa11 ⟨rfl, hb⟩
      have D_wa11 : Hid (Below w2.heap.size w2 wa11) := D_wa10.out.trans (hb.mono D_wa10.out.size)
      have Q_wa11 := Lib.hid (Q_wa10.out.below hb)
      have L_wa11 := L_wa10
      have G_wa11 := Lib.hid (regrown_of_below D_wa11.out)
      clear hb
      go_wp2
      refine Mx.mid_normal (fun q => (by first | exact G_wa11.out | cases q | exact absurd q (by decide))) ?_
      refine Mx.mix3 rfl ?_
      go_wp2_with fail
      refine (CA.out _).mono ?_
      rintro e wa12 ⟨rfl, hb⟩
      have D_wa12 : Hid (Below w2.heap.size w2 wa12) := D_wa11.out.trans (hb.mono D_wa11.out.size)
      have Q_wa12 := Lib.hid (Q_wa11.out.below hb)
      have L_wa12 := L_wa11
      have G_wa12 := Lib.hid (regrown_of_below D_wa12.out)
      clear hb
      go_wp2
      refine Mx.mid_normal (fun q => (by first | exact G_wa12.out | cases q | exact absurd q (by decide))) ?_
      refine Mx.mix3 rfl ?_
      go_wp2_with fail
      refine (CS.out _).mono ?_
      rintro e wa13 ⟨rfl, hb⟩
      have D_wa13 : Hid (Below w2.heap.size w2 wa13) := D_wa12.out.trans (hb.mono D_wa12.out.size)
      have Q_wa13 := Lib.hid (Q_wa12.out.below hb)
      have L_wa13 := L_wa12
      have G_wa13 := Lib.hid (regrown_of_below D_wa13.out)
      clear hb
      go_wp2
      refine Mx.mid_normal (fun q => (by first | exact G_wa13.out | cases q | exact absurd q (by decide))) ?_
      repeat ((first | refine Mx.mix0 rfl ?_ | refine Mx.mix1 rfl ?_); go_big_quiet_step (fail); refine wpQuiet_nil ?_)
      refine Mx.mix3 rfl ?_
      go_wp2_with (with_reducible (show wpList _ _ _ (_ :: _) _ _); refine at_storeS rfl _ _ rfl w2.heap.size ⟨tq, jq, gq, cq, pq⟩ St.zero rfl rfl Q_wa13.out ?_)
      refine Mx.mid_normal (fun q => by cases q) ?_
      repeat ((first | refine Mx.mix0 rfl ?_ | refine Mx.mix1 rfl ?_); go_big_quiet_step (fail); refine wpQuiet_nil ?_)
      refine Mx.mix_nil ?_
      have Q9 := Lib.hid (Q_wa13.out.set ⟨tq, jq, gq, cq, pq⟩)
      have D9 := Lib.hid (below_setRow D_wa13.out L_wa13.out (stC ⟨tq, jq, gq, cq, pq⟩))
      have L9 := L_wa13
      go_wp2_with fail
      go_meet
      case rel => exact ⟨_, rfl, rfl, L9, Q9, D9⟩
  case rest =>
    obtain ⟨B0, rfl, rfl, L3, P3, D3⟩ := hcut
    obtain ⟨w5, hw5⟩ : ∃ w5, w5 = wc := ⟨_, rfl⟩
    rw [← hw5] at P3 D3 ⊢
    clear hw5
    have X3 := Lib.hid (X2.out.below D3.out)
    have Y3 := Lib.hid (Y2.out.below D3.out)
    have B3 := Lib.hid (below_stepS B2.out D3.out)
    clear c0 c1 c2 c3 c4 d0 d1 X2 Y2 B2
    obtain ⟨_, c0, c1, c2, c3, c4⟩ := X3.out
    obtain ⟨_, d0, d1⟩ := Y3.out
    go_upto_region 9 with fail
    go_cut [8, 9] from 10 (fun v6 v7 wx => ∃ B0, v6 = .pointer (some ⟨B0, 0, none⟩) ∧ v7 = .bool q ∧ Hid (w5.heap.size ≤ B0) ∧ Hid (BoxS wx B0 ⟨tq, jq, gq, cq, pq⟩) ∧ Hid (Below w5.heap.size w5 wx))
    case first =>
      have kc0 := cell_regrown c0
      have kc1 := cell_regrown c1
      have kc2 := cell_regrown c2
      have kc3 := cell_regrown c3
      have kc4 := cell_regrown c4
      have kd0 := cell_regrown d0
      have kd1 := cell_regrown d1
      have D_w5 : Hid (Below w5.heap.size w5 w5.drew) := below_drewS (Below.refl _ _)
      refine Mx.wp_region_mixed (Mx.ofL [(0, 1), (2, 1)] (.fork 1 2 ((.fork 3 3 ((.fork 4 3 (Mx.ofL [(5, 0), (6, 0), (7, 0), (8, 2), (9, 3), (10, 0)] .done) 8 2 (Mx.ofL [(4, 3), (5, 0), (6, 0), (7, 0), (9, 3), (10, 0)] .done))) 8 2 (Mx.ofL [(3, 3), (4, 3), (5, 0), (6, 0), (7, 0), (9, 3), (10, 0)] .done))) 8 2 (Mx.ofL [(1, 2), (3, 3), (4, 3), (5, 0), (6, 0), (7, 0), (9, 3), (10, 0)] .done))) (by kernel_rfl) (by kernel_rfl) ?_
      repeat ((first | refine Mx.mix0 rfl ?_ | refine Mx.mix1 rfl ?_); go_big_quiet_step (fail); refine wpQuiet_nil ?_)
      clear c0 c1 c2 c3 c4 d0 d1 kc0 kc1 kc2 kc3 kc4 kd0 kd1
      refine Mx.mixF rfl rfl ?Fya ?Fyd
      case' Fya =>
        go_wp2_with fail
        refine (CT.out _).mono ?_
        rintro e wa14 ⟨rfl, hb⟩
        have D_wa14 : Hid (Below w5.heap.size w5 wa14) := D_w5.out.trans (hb.mono D_w5.out.size)
        have G_wa14 := Lib.hid (regrown_of_below D_wa14.out)
        clear hb
        go_wp2
        refine Mx.mid_normal (fun q => (by first | exact G_wa14.out | cases q | exact absurd q (by decide))) ?_
        refine Mx.mixF rfl rfl ?Fyaa ?Fyad
        case' Fyaa =>
          go_wp2_with fail
          refine (CA.out _).mono ?_
          rintro e wa15 ⟨rfl, hb⟩
          have D_wa15 : Hid (Below w5.heap.size w5 wa15) := D_wa14.out.trans (hb.mono D_wa14.out.size)
          have G_wa15 := Lib.hid (regrown_of_below D_wa15.out)
          clear hb
          go_wp2
          refine Mx.mid_normal (fun q => (by first | exact G_wa15.out | cases q | exact absurd q (by decide))) ?_
          refine Mx.mixF rfl rfl ?Fyaaa ?Fyaad
          case' Fyaaa =>
            go_wp2_with fail
            refine (CI.out _).mono ?_
            rintro e wa16 ⟨rfl, hb⟩
            have D_wa16 : Hid (Below w5.heap.size w5 wa16) := D_wa15.out.trans (hb.mono D_wa15.out.size)
            have G_wa16 := Lib.hid (regrown_of_below D_wa16.out)
            clear hb
            go_wp2
            refine Mx.mid_normal (fun q => (by first | exact G_wa16.out | cases q | exact absurd q (by decide))) ?_
            repeat ((first | refine Mx.mix0 rfl ?_ | refine Mx.mix1 rfl ?_); go_big_quiet_step (fail); refine wpQuiet_nil ?_)
            refine Mx.mix2 rfl ?_
            go_wp2_with fail
            obtain ⟨wa17, hW⟩ : ∃ W, W = World.alloc wa16 (.cells #[.string ⟨#[]⟩, .bool false, .bool false, .int .i64 0, .int .i64 0] 25) := ⟨_, rfl⟩
            have hbA : Below wa16.heap.size wa16 wa17 := by rw [hW]; exact below_alS _ _
            have D_wa17 : Hid (Below w5.heap.size w5 wa17) := D_wa16.out.trans (hbA.mono D_wa16.out.size)
            have Q_wa17 : Hid (BoxS wa17 wa16.heap.size St.zero) := by rw [hW]; exact BoxS.new wa16 St.zero
            have L_wa17 : Hid (w5.heap.size ≤ wa16.heap.size) := D_wa16.out.size
            have G_wa17 := Lib.hid (regrown_of_below D_wa17.out)
            rw [← hW]
            refine Mx.mid_normal (fun q => (by first | exact G_wa17.out | cases q | exact absurd q (by decide))) ?_
            clear hW hbA
            repeat ((first | refine Mx.mix0 rfl ?_ | refine Mx.mix1 rfl ?_); go_big_quiet_step (fail); refine wpQuiet_nil ?_)
            refine Mx.mix3 rfl ?_
            go_wp2_with (with_reducible (show wpList _ _ _ (_ :: _) _ _); refine at_storeS rfl _ _ rfl wa16.heap.size ⟨tq, jq, gq, cq, pq⟩ St.zero rfl rfl Q_wa17.out ?_)
            refine Mx.mid_normal (fun q => by cases q) ?_
            repeat ((first | refine Mx.mix0 rfl ?_ | refine Mx.mix1 rfl ?_); go_big_quiet_step (fail); refine wpQuiet_nil ?_)
            refine Mx.mix_nil ?_
            have Q9 := Lib.hid (Q_wa17.out.set ⟨tq, jq, gq, cq, pq⟩)
            have D9 := Lib.hid (below_setRow D_wa17.out L_wa17.out (stC ⟨tq, jq, gq, cq, pq⟩))
            have L9 := L_wa17
            go_wp2_with fail
            go_meet
            case rel => exact ⟨_, rfl, rfl, L9, Q9, D9⟩
          case' Fyaad =>
            go_wp2_with fail
            obtain ⟨wa18, hW⟩ : ∃ W, W = World.alloc wa15 (.cells #[.string ⟨#[]⟩, .bool false, .bool false, .int .i64 0, .int .i64 0] 25) := ⟨_, rfl⟩
            have hbA : Below wa15.heap.size wa15 wa18 := by rw [hW]; exact below_alS _ _
            have D_wa18 : Hid (Below w5.heap.size w5 wa18) := D_wa15.out.trans (hbA.mono D_wa15.out.size)
            have Q_wa18 : Hid (BoxS wa18 wa15.heap.size St.zero) := by rw [hW]; exact BoxS.new wa15 St.zero
            have L_wa18 : Hid (w5.heap.size ≤ wa15.heap.size) := D_wa15.out.size
            have G_wa18 := Lib.hid (regrown_of_below D_wa18.out)
            rw [← hW]
            refine Mx.mid_normal (fun q => (by first | exact G_wa18.out | cases q | exact absurd q (by decide))) ?_
            clear hW hbA
            refine Mx.mix3 rfl ?_
            go_wp2_with fail
            refine (CI.out _).mono ?_
            rintro e wa19 ⟨rfl, hb⟩
            have D_wa19 : Hid (Below w5.heap.size w5 wa19) := D_wa18.out.trans (hb.mono D_wa18.out.size)
            have Q_wa19 := Lib.hid (Q_wa18.out.below hb)
            have L_wa19 := L_wa18
            have G_wa19 := Lib.hid (regrown_of_below D_wa19.out)
            clear hb
            go_wp2
            refine Mx.mid_normal (fun q => (by first | exact G_wa19.out | cases q | exact absurd q (by decide))) ?_
            repeat ((first | refine Mx.mix0 rfl ?_ | refine Mx.mix1 rfl ?_); go_big_quiet_step (fail); refine wpQuiet_nil ?_)
            refine Mx.mix3 rfl ?_
            go_wp2_with (with_reducible (show wpList _ _ _ (_ :: _) _ _); refine at_storeS rfl _ _ rfl wa15.heap.size ⟨tq, jq, gq, cq, pq⟩ St.zero rfl rfl Q_wa19.out ?_)
            refine Mx.mid_normal (fun q => by cases q) ?_
            repeat ((first | refine Mx.mix0 rfl ?_ | refine Mx.mix1 rfl ?_); go_big_quiet_step (fail); refine wpQuiet_nil ?_)
            refine Mx.mix_nil ?_
            have Q9 := Lib.hid (Q_wa19.out.set ⟨tq, jq, gq, cq, pq⟩)
            have D9 := Lib.hid (below_setRow D_wa19.out L_wa19.out (stC ⟨tq, jq, gq, cq, pq⟩))
            have L9 := L_wa19
            go_wp2_with fail
            go_meet
            case rel => exact ⟨_, rfl, rfl, L9, Q9, D9⟩
        case' Fyad =>
          go_wp2_with fail
          obtain ⟨wa20, hW⟩ : ∃ W, W = World.alloc wa14 (.cells #[.string ⟨#[]⟩, .bool false, .bool false, .int .i64 0, .int .i64 0] 25) := ⟨_, rfl⟩
          have hbA : Below wa14.heap.size wa14 wa20 := by rw [hW]; exact below_alS _ _
          have D_wa20 : Hid (Below w5.heap.size w5 wa20) := D_wa14.out.trans (hbA.mono D_wa14.out.size)
          have Q_wa20 : Hid (BoxS wa20 wa14.heap.size St.zero) := by rw [hW]; exact BoxS.new wa14 St.zero
          have L_wa20 : Hid (w5.heap.size ≤ wa14.heap.size) := D_wa14.out.size
          have G_wa20 := Lib.hid (regrown_of_below D_wa20.out)
          rw [← hW]
          refine Mx.mid_normal (fun q => (by first | exact G_wa20.out | cases q | exact absurd q (by decide))) ?_
          clear hW hbA
          refine Mx.mix3 rfl ?_
          go_wp2_with fail
          refine (CA.out _).mono ?_
          rintro e wa21 ⟨rfl, hb⟩
          have D_wa21 : Hid (Below w5.heap.size w5 wa21) := D_wa20.out.trans (hb.mono D_wa20.out.size)
          have Q_wa21 := Lib.hid (Q_wa20.out.below hb)
          have L_wa21 := L_wa20
          have G_wa21 := Lib.hid (regrown_of_below D_wa21.out)
          clear hb
          go_wp2
          refine Mx.mid_normal (fun q => (by first | exact G_wa21.out | cases q | exact absurd q (by decide))) ?_
          refine Mx.mix3 rfl ?_
          go_wp2_with fail
          refine (CI.out _).mono ?_
          rintro e wa22 ⟨rfl, hb⟩
          have D_wa22 : Hid (Below w5.heap.size w5 wa22) := D_wa21.out.trans (hb.mono D_wa21.out.size)
          have Q_wa22 := Lib.hid (Q_wa21.out.below hb)
          have L_wa22 := L_wa21
          have G_wa22 := Lib.hid (regrown_of_below D_wa22.out)
          clear hb
          go_wp2
          refine Mx.mid_normal (fun q => (by first | exact G_wa22.out | cases q | exact absurd q (by decide))) ?_
          repeat ((first | refine Mx.mix0 rfl ?_ | refine Mx.mix1 rfl ?_); go_big_quiet_step (fail); refine wpQuiet_nil ?_)
          refine Mx.mix3 rfl ?_
          go_wp2_with (with_reducible (show wpList _ _ _ (_ :: _) _ _); refine at_storeS rfl _ _ rfl wa14.heap.size ⟨tq, jq, gq, cq, pq⟩ St.zero rfl rfl Q_wa22.out ?_)
          refine Mx.mid_normal (fun q => by cases q) ?_
          repeat ((first | refine Mx.mix0 rfl ?_ | refine Mx.mix1 rfl ?_); go_big_quiet_step (fail); refine wpQuiet_nil ?_)
          refine Mx.mix_nil ?_
          have Q9 := Lib.hid (Q_wa22.out.set ⟨tq, jq, gq, cq, pq⟩)
          have D9 := Lib.hid (below_setRow D_wa22.out L_wa22.out (stC ⟨tq, jq, gq, cq, pq⟩))
          have L9 := L_wa22
          go_wp2_with fail
          go_meet
          case rel => exact ⟨_, rfl, rfl, L9, Q9, D9⟩
      case' Fyd =>
        go_wp2_with fail
        obtain ⟨wa23, hW⟩ : ∃ W, W = (World.alloc w5 (.cells #[.string ⟨#[]⟩, .bool false, .bool false, .int .i64 0, .int .i64 0] 25)).drew := ⟨_, rfl⟩
        have D_wa23 : Hid (Below w5.heap.size w5 wa23) := by rw [hW]; exact below_drewS (below_alS _ _)
        have Q_wa23 : Hid (BoxS wa23 w5.heap.size St.zero) := by rw [hW]; exact BoxS.new w5 St.zero
        have L_wa23 : Hid (w5.heap.size ≤ w5.heap.size) := Nat.le_refl _
        have G_wa23 := Lib.hid (regrown_of_below D_wa23.out)
        rw [← hW]
        refine Mx.mid_normal (fun q => (by first | exact G_wa23.out | cases q | exact absurd q (by decide))) ?_
        clear hW
        refine Mx.mix2 rfl ?_
        go_wp2_with fail
        refine (CT.out _).mono ?_
        rintro e wa24 ⟨rfl, hb⟩
        have D_wa24 : Hid (Below w5.heap.size w5 wa24) := D_wa23.out.trans (hb.mono D_wa23.out.size)
        have Q_wa24 := Lib.hid (Q_wa23.out.below hb)
        have L_wa24 := L_wa23
        have G_wa24 := Lib.hid (regrown_of_below D_wa24.out)
        clear hb
        go_wp2
        refine Mx.mid_normal (fun q => (by first | exact G_wa24.out | cases q | exact absurd q (by decide))) ?_
        refine Mx.mix3 rfl ?_
        go_wp2_with fail
        refine (CA.out _).mono ?_
        rintro e wa25 ⟨rfl, hb⟩
        have D_wa25 : Hid (Below w5.heap.size w5 wa25) := D_wa24.out.trans (hb.mono D_wa24.out.size)
        have Q_wa25 := Lib.hid (Q_wa24.out.below hb)
        have L_wa25 := L_wa24
        have G_wa25 := Lib.hid (regrown_of_below D_wa25.out)
        clear hb
        go_wp2
        refine Mx.mid_normal (fun q => (by first | exact G_wa25.out | cases q | exact absurd q (by decide))) ?_
        refine Mx.mix3 rfl ?_
        go_wp2_with fail
        refine (CI.out _).mono ?_
        rintro e wa26 ⟨rfl, hb⟩
        have D_wa26 : Hid (Below w5.heap.size w5 wa26) := D_wa25.out.trans (hb.mono D_wa25.out.size)
        have Q_wa26 := Lib.hid (Q_wa25.out.below hb)
        have L_wa26 := L_wa25
        have G_wa26 := Lib.hid (regrown_of_below D_wa26.out)
        clear hb
        go_wp2
        refine Mx.mid_normal (fun q => (by first | exact G_wa26.out | cases q | exact absurd q (by decide))) ?_
        repeat ((first | refine Mx.mix0 rfl ?_ | refine Mx.mix1 rfl ?_); go_big_quiet_step (fail); refine wpQuiet_nil ?_)
        refine Mx.mix3 rfl ?_
        go_wp2_with (with_reducible (show wpList _ _ _ (_ :: _) _ _); refine at_storeS rfl _ _ rfl w5.heap.size ⟨tq, jq, gq, cq, pq⟩ St.zero rfl rfl Q_wa26.out ?_)
        refine Mx.mid_normal (fun q => by cases q) ?_
        repeat ((first | refine Mx.mix0 rfl ?_ | refine Mx.mix1 rfl ?_); go_big_quiet_step (fail); refine wpQuiet_nil ?_)
        refine Mx.mix_nil ?_
        have Q9 := Lib.hid (Q_wa26.out.set ⟨tq, jq, gq, cq, pq⟩)
        have D9 := Lib.hid (below_setRow D_wa26.out L_wa26.out (stC ⟨tq, jq, gq, cq, pq⟩))
        have L9 := L_wa26
        go_wp2_with fail
        go_meet
        case rel => exact ⟨_, rfl, rfl, L9, Q9, D9⟩
    case rest =>
      obtain ⟨B1, rfl, rfl, L4, P4, D4⟩ := hcut
      have P5 := Lib.hid (P3.out.below D4.out)
      have B4 := Lib.hid (below_stepS B3.out D4.out)
      obtain ⟨e0, e1, e2, e3, e4⟩ := P5.out.cells
      obtain ⟨g0, g1, g2, g3, g4⟩ := P4.out.cells
      clear c0 c1 c2 c3 c4 d0 d1
      go_wp2_with fail
      refine (CE.out _).mono ?_
      rintro e wz ⟨rfl, hb⟩
      have BZ := Lib.hid (below_stepS B4.out hb)
      clear hb
      go_wp2
      go_ret
      exact ⟨rfl, BZ.out⟩

/-! ### THE ROW's STEP -/
set_option maxRecDepth 100000 in
theorem contract (H : Type) (enc : TypeId × Value → H) (W : World) (base : Nat) (args : Array Value) (ds gs : List (DataW H)) (before : List MemPlace)
    (hval : ∀ (j : Nat) t v, Tryd.f4.params[j]? = some t → args[j]? = some v → Value.okWide Tryd.prog W .any base t v)
    (hW : DataW.Whole enc Tryd.prog Tryd.f4.params.toList Rows.fnExactApplyAtomSpec.vars false W args.toList ds gs before) (hL : laidMetH Tryd.prog Rows.fnExactApplyAtomRow.laid W) (hS : W.ShapedOpen Tryd.prog) :
    Calls Tryd.prog 4 args W fun e W' => ∃ v, e = .returned v ∧ Rows.fnExactApplyAtomSpec.post enc Tryd.prog Tryd.f4 false true false false W args v W' := by
  have hW' := hW
  obtain ⟨p, q, hA0, hV, rfl, hfz, hnd⟩ := hW
  have hA : DataW.TrodAll enc Tryd.prog W 0 (fun _ => true) true Tryd.f4.params.toList args.toList ds p := hA0
  rw [Tryd.params4] at hA hval
  obtain ⟨v0, vs0, d0, ds0, p0, q0, hargs, rfl, rfl, h0, r0⟩ := trodAll_cons hA
  obtain ⟨v1, vs1, d1, ds1, p1, q1, rfl, rfl, rfl, h1, r1⟩ := trodAll_cons r0
  obtain ⟨rfl, rfl, rfl⟩ := trodAll_nil r1
  obtain rfl : args = #[v0, v1] := by cases args; simp_all
  obtain ⟨rfl, rfl⟩ := trodVars_none hV
  have k0 := h0
  have lt0 : ∀ x ∈ p0, x.block < W.heap.size := by obtain ⟨m, hm⟩ := k0; exact DataW.trod_lt m _ _ _ hm
  obtain ⟨s0, rfl, w0⟩ := open_stV Tryd.underlying33 (by kernel_rfl) (by kernel_rfl) (by kernel_rfl) ⟨rfl, rfl⟩ ⟨rfl, rfl⟩ ⟨rfl, rfl⟩ ⟨rfl, rfl⟩ ⟨rfl, rfl⟩ Tryd.underlying3 Tryd.underlying9 Tryd.underlying4 (by kernel_rfl) (hval 0 33 v0 rfl rfl) h0
  have k1 := h1
  have lt1 : ∀ x ∈ p1, x.block < W.heap.size := by obtain ⟨m, hm⟩ := k1; exact DataW.trod_lt m _ _ _ hm
  obtain ⟨a1, s1, rfl, w1⟩ := open_atomV Tryd.underlying34 (by kernel_rfl) (by kernel_rfl) ⟨rfl, rfl⟩ ⟨rfl, rfl⟩ Tryd.underlying3 Tryd.underlying9 (by kernel_rfl) (hval 1 34 v1 rfl rfl) h1
  clear hA0 hval
  refine (walk s0 a1 s1 W hS  w0 w1).mono fun e W' ⟨he, bel⟩ => ?_
  subst he
  exact ⟨_, rfl, _, _, _, [], _, [], hW', trodAll_mk1 (shut_bool Tryd.underlying4 _), (trodAll_cons_mk (Below.trod laidOut (by kernel_rfl) (of_decide_eq_true (by kernel_rfl)) k0 bel lt0) (trodAll_cons_mk (Below.trod laidOut (by kernel_rfl) (of_decide_eq_true (by kernel_rfl)) k1 bel lt1) trodAll_mk0)), rfl, bel.frame _, fun h => by cases h⟩

/-- There is an input that fits, at a world that is shown to be shaped. -/
theorem witness_row_shaped {H : Type} {enc : TypeId × Value → H} {C : Checked} {os : Os} {f : FuncId} {fn : Func} {s : OpenSpec} {conds : List PathCond} {apart : Bool} {laid : List (String × DataW Unit)} (modest : Bool) (w0 : World) (args : Array Value) (hos : w0.os = os)
    (hsh : (w0.forCall (fun _ _ => 0) ⟨#[], args, []⟩).Shaped C.prog)
    (hok : Input.okWideB C.prog (w0.forCall (fun _ _ => 0) ⟨#[], args, []⟩) f ⟨#[], args, []⟩ = true)
    (hrow : s.preRow enc C.prog fn conds apart laid (w0.forCall (fun _ _ => 0) ⟨#[], args, []⟩).memory args) :
    ∃ (w : World) (tape : Tape) (i : Input), w.os = os ∧ (w.forCall tape i).Shaped C.prog ∧ i.vars = [] ∧ Input.okWide C.prog (w.forCall tape i) .any w.heap.size f i ∧
      s.preRow enc C.prog fn conds apart laid (w.forCall tape i).memory i.args ∧ ({ modest := modest } : Assume).holds C.prog (lone (Frame.enter C.prog f i.args .normal) [] (w.forCall tape i)) :=
  ⟨w0, fun _ _ => 0, ⟨#[], args, []⟩, hos, hsh, (Input.okWide_of_okWideB (base := 0) hok).1, (Input.okWide_of_okWideB hok).2, hrow, by
    simp only [Assume.holds]
    exact ⟨by simp, by simp, fun _ => Modest.zero, by simp, by simp⟩⟩
theorem reads (os : Os) {H : Type} (enc : TypeId × Value → H) : ∃ places, DataW.whole enc Tryd.prog ((World.laidAll Tryd.prog os Rows.fnExactApplyAtomRow.laid).forCall (fun _ _ => 0) ⟨#[], #[.agg #[.string ByteArray.empty, .bool false, .bool false, .int .i64 0, .int .i64 0], .agg #[.int .i64 0, .string ByteArray.empty]], []⟩).memory Tryd.f4.params.toList Rows.fnExactApplyAtomSpec.vars false (#[.agg #[.string ByteArray.empty, .bool false, .bool false, .int .i64 0, .int .i64 0], .agg #[.int .i64 0, .string ByteArray.empty]] : Array Value).toList 8 = some ([.agg [.lit (.string []), .lit (.bool false), .lit (.bool false), .lit (.int .i64 0), .lit (.int .i64 0)], .agg [.lit (.int .i64 0), .lit (.string [])]], [], places) :=
  ⟨[], by kernel_rfl⟩

set_option maxRecDepth 100000 in
theorem lifted (os : Os) (started : os.Started) (H : Type) (enc : TypeId × Value → H) (F : Stop.Interp) :
    ReturnsInHanded {} Tryd.checked os 4 .any ((OpenSpec.ofChange Rows.fnExactApplyAtomSpec).preRow enc Tryd.prog Tryd.f4 Rows.fnExactApplyAtomRow.domain false Rows.fnExactApplyAtomRow.laid) (((OpenSpec.ofChange Rows.fnExactApplyAtomSpec).at F).post enc Tryd.prog Tryd.f4 false true false false) := by
  obtain ⟨places, hx⟩ := reads os enc
  refine returnsInHanded_of_row (C := Tryd.checked) (s := OpenSpec.ofChange Rows.fnExactApplyAtomSpec) own started (by kernel_rfl) Tryd.func4
    (witness_row_shaped (enc := enc) (C := Tryd.checked) false (World.laidAll Tryd.prog os Rows.fnExactApplyAtomRow.laid) #[.agg #[.string ByteArray.empty, .bool false, .bool false, .int .i64 0, .int .i64 0], .agg #[.int .i64 0, .string ByteArray.empty]] (World.laidAll_os _ _ _) (World.shaped_of_ZipB (by kernel_rfl) (by kernel_rfl)) (by kernel_rfl)
      (OpenSpec.preRow_of_cond 8 hx (by kernel_rfl) (fun k hk => by cases hk) (by kernel_rfl) (by rw [MakeChecks.laidMetH_plain _ _ _ (by kernel_rfl)]; exact laidMet_laidAll _ (by kernel_rfl) (by kernel_rfl)))) ?_
  intro W base args ds gs before hval hW _ _ _ hL hS _
  exact contract H enc W base args ds gs before hval hW hL hS

theorem said : Rows.FnExactApplyAtomSaid :=
  OpenClaim.holds_of_cond 4 Tryd.f4 rfl rfl rfl rfl rfl rfl rfl ⟨rfl, rfl, rfl, rfl, rfl⟩ rfl rfl rfl rfl rfl (by kernel_rfl) Tryd.func4 (by kernel_rfl)
    (of_decide_eq_true (by kernel_rfl)) (by unfold Func.isWrapper; first | (rw [if_pos (by decide +kernel)]; kernel_rfl) | (rw [if_neg (by decide +kernel)]; exact ⟨rfl, rfl⟩))
    (fun os started H enc _ F => by rw [OpenClaim.pre_eq_preRow]; exact lifted os started H enc F)

theorem plain (f : FuncId) (fn : Func) (hf : Tryd.pinned.checked.prog.funcNamed "loop.example/g00882/laws.FnExactApplyAtom" = some f) (hfn : Tryd.pinned.checked.prog.funcs[f]? = some fn) :
    false = Tryd.pinned.checked.prog.looks [] ∧ ∀ (j : Nat) t, fn.params[j]? = some t → Tryd.pinned.checked.prog.wantsStandIn t = false := by
  obtain rfl : f = 4 := Option.some.inj ((show Tryd.prog.funcNamed "loop.example/g00882/laws.FnExactApplyAtom" = some 4 by kernel_rfl).symm.trans hf) |>.symm
  obtain rfl : fn = Tryd.f4 := (Option.some.inj (Tryd.func4.symm.trans hfn)).symm
  refine ⟨by kernel_rfl, fun j t ht => ?_⟩
  rw [Tryd.params4] at ht
  have hm : t ∈ [33, 34] := by have := Array.mem_of_getElem? ht; simpa using this
  have hall : ([33, 34].all fun u => !Tryd.prog.wantsStandIn u) = true := by kernel_rfl
  exact (show Tryd.prog.wantsStandIn t = false by simpa using List.all_eq_true.1 hall t hm)

/-- THE TIED CARD. -/
theorem proved : Rows.FnExactApplyAtomCardSaid :=
  Claim7.holds_tied_plain_at .later [] _ _ _ _ said (fun _ h => by cases h) (by kernel_rfl) (fun _ h => by cases h) fnExactApplyAtom_row_tie rfl ⟨rfl, rfl⟩ (by kernel_rfl) rfl plain (by kernel_rfl)
#print axioms proved
end Go.Proofs.YtnpiphkglhcifaaDoor.fnExactApplyAtom
