/-
  CONTRACTS of chapter 12 of the specification: l12Case, l12Put, l12Apply, ApplyAtom, ApplyAtoms, Render.
-/
import Derived.Test.YtnpiphkglhcifaaGreatDoorFmS
import Derived.Test.YtnpiphkglhcifaaGreatDoorAtomS
import Derived.Test.YtnpiphkglhcifaaGreatDoorJoin9
import Derived.Test.YtnpiphkglhcifaaGreatDoorMix
import Derived.Laws.IdiomStrings
namespace Go.Proofs.YtnpiphkglhcifaaGreatDoor
set_option maxRecDepth 100000
open Go.RowKit
set_option linter.unusedVariables false

theorem caseB_nil {t : ByteArray} (h : t.size = 0) (how : Int) : caseB t how = t := by
  have e : by8 t = [] := List.length_eq_zero_iff.1 (by rw [by8_len]; exact h)
  apply by8_inj
  show caseL how (by8 t) = _
  rw [e]; rfl
theorem caseB_eq {t : ByteArray} (h : 0 < t.size) (how : Int) : caseB t how = ⟨#[toCase how t[0]]⟩ ++ t.extract 1 t.size := by
  apply by8_inj
  rw [by8_app, by8_extract]
  have e : by8 t = t[0] :: (by8 t).drop 1 := by
    have h0 : 0 < (by8 t).length := by rw [by8_len]; exact h
    have : (by8 t)[0]'h0 = t[0] := by show t.data.toList[0] = t.data[0]; rw [Array.getElem_toList]
    rw [← this, ← List.drop_eq_getElem_cons h0, List.drop_zero]
  show caseL how (by8 t) = toCase how t[0] :: _
  have e2 : ((by8 t).drop 1).take (t.size - 1) = (by8 t).drop 1 := List.take_of_length_le (by rw [List.length_drop, by8_len]; exact Nat.le_refl _)
  rw [e2]
  conv => lhs; rw [e]
  rfl
theorem conv1 (w : World) (d : UInt8) (y : Int) (hy : (d.toNat : Int) = y) (T : TypeId) :
    (convert 22 9 (.slice (some ⟨w.heap.size, 0, none⟩) 1 1)).run Tryz.prog (w.alloc (.cells #[.int .u8 y] T)) = .ok (.string ⟨#[d]⟩) (w.alloc (.cells #[.int .u8 y] T)) := by
  have hc := run_convert_bytes_back (P := Tryz.prog) (w.alloc (.cells #[.int .u8 y] T)) 22 9 5 ⟨w.heap.size, 0, none⟩ 1 [d] Tryz.underlying22 Tryz.underlying5 Tryz.underlying9 (fun j hj => by
    have hj0 : j = 0 := by simp at hj; exact hj
    subst hj0
    have e : (w.alloc (.cells #[.int .u8 y] T)).heap[w.heap.size]? = some (.cells #[.int .u8 y] T) := heap_alloc_new _ _
    show (w.alloc (.cells #[.int .u8 y] T)).cell? ⟨w.heap.size, 0, none⟩ = some (.int .u8 (d.toNat : Int))
    rw [hy]
    unfold World.cell?
    simp only [e]
    rfl)
  exact hc
theorem conv1d (w : World) (d : UInt8) (y : Int) (hy : (d.toNat : Int) = y) (T : TypeId) :
    (convert 22 9 (.slice (some ⟨w.heap.size, 0, none⟩) 1 1)).run Tryz.prog (w.alloc (.cells #[.int .u8 y] T)).drew = .ok (.string ⟨#[d]⟩) (w.alloc (.cells #[.int .u8 y] T)).drew := conv1 w.drew d y hy T
set_option maxHeartbeats 2000000 in
theorem l12Case_any (s : ByteArray) (how : Int) (w : World) (hs : s.size ≤ 1048600) :
    Calls Tryz.prog 48 #[.string s, .int .i64 how] w fun e w' => e = .returned (.string (caseB s how)) ∧ Below w.heap.size w w' := by
  have he := empty_eq s
  by_cases h0 : s.size = 0
  · rw [caseB_nil h0]
    rw [h0] at he
    have he' : s.toList.isEmpty = true := he
    clear he h0
    go_enter Tryz.func48, Tryz.ntmps48
    go_wp2
    go_ret
    exact ⟨rfl, Below.refl _ _⟩
  · have hpos : 0 < s.size := by omega
    have he' : s.toList.isEmpty = false := by rw [he, beq_eq_false_iff_ne]; exact h0
    rw [caseB_eq hpos]
    obtain ⟨x, hx⟩ : ∃ x : Int, (s[0].toNat : Int) = x := ⟨_, rfl⟩
    obtain ⟨d, hd⟩ : ∃ d, d = toCase how s[0] := ⟨_, rfl⟩
    rw [← hd]
    have hx1 : 0 ≤ x ∧ x ≤ 255 := by have := s[0].toNat_lt; omega
    have hL := Lib.isLowerB_int s[0]
    have hU := Lib.isUpperB_int s[0]
    have hl := Lib.upperB_int s[0]
    have hu := Lib.lowerB_int s[0]
    rw [hx] at hL hU hl hu
    have HX := Lib.hid hx
    unfold toCase at hd
    clear he h0
    by_cases h1 : how = 1
    · rw [if_pos h1] at hd
      subst h1
      cases hb : Lib.isLowerB s[0]
      · rw [Lib.upperB_of_not _ hb] at hd
        rw [hb] at hL
        have hdx : (d.toNat : Int) = x := by rw [hd]; exact hx
        have hcv := conv1d w d x hdx
        clear hd hdx hl hu hU hb
        by_cases q1 : 97 ≤ x
        · have q2 : ¬ x ≤ 122 := fun q2 => by rw [decide_eq_true q1, decide_eq_true q2] at hL; cases hL
          clear hL
          go_enter Tryz.func48, Tryz.ntmps48
          go_wp2_with fail
          refine Mx.wp_region_mixed (Mx.ofL [(0, 0), (3, 0), (4, 0), (1, 3), (2, 3), (5, 0), (6, 0)] .done) (by kernel_rfl) (by kernel_rfl) ?_
          repeat ((first | refine Mx.mix0 rfl ?_ | refine Mx.mix1 rfl ?_); go_big_quiet_step (fail); refine wpQuiet_nil ?_)
          refine Mx.mix3 rfl ?_
          go_wp2
          refine Mx.mid_normal (fun q => by cases q) ?_
          refine Mx.mix3 rfl ?_
          go_wp2
          refine Mx.mid_normal (fun q => by cases q) ?_
          repeat ((first | refine Mx.mix0 rfl ?_ | refine Mx.mix1 rfl ?_); go_big_quiet_step (fail); refine wpQuiet_nil ?_)
          refine Mx.mix_nil ?_
          go_wp2
          go_ret
          exact ⟨rfl, (below_drewS (Below.refl _ w)).alloc (Nat.le_refl _) _⟩
        · clear hL
          go_enter Tryz.func48, Tryz.ntmps48
          go_wp2_with fail
          refine Mx.wp_region_mixed (Mx.ofL [(0, 0), (3, 0), (4, 0), (1, 3), (2, 3), (5, 0), (6, 0)] .done) (by kernel_rfl) (by kernel_rfl) ?_
          repeat ((first | refine Mx.mix0 rfl ?_ | refine Mx.mix1 rfl ?_); go_big_quiet_step (fail); refine wpQuiet_nil ?_)
          refine Mx.mix3 rfl ?_
          go_wp2
          refine Mx.mid_normal (fun q => by cases q) ?_
          refine Mx.mix3 rfl ?_
          go_wp2
          refine Mx.mid_normal (fun q => by cases q) ?_
          repeat ((first | refine Mx.mix0 rfl ?_ | refine Mx.mix1 rfl ?_); go_big_quiet_step (fail); refine wpQuiet_nil ?_)
          refine Mx.mix_nil ?_
          go_wp2
          go_ret
          exact ⟨rfl, (below_drewS (Below.refl _ w)).alloc (Nat.le_refl _) _⟩
      · have hv := hl hb
        rw [hb] at hL
        simp only [Bool.true_eq, Bool.and_eq_true, decide_eq_true_eq] at hL
        obtain ⟨q1, q2⟩ := hL
        have hdx : (d.toNat : Int) = x - 32 := by rw [hd]; exact hv
        have hcv := conv1d w d (x - 32) hdx
        clear hd hdx hl hu hU hb hv
        go_enter Tryz.func48, Tryz.ntmps48
        go_wp2_with fail
        refine Mx.wp_region_mixed (Mx.ofL [(0, 0), (3, 0), (4, 0), (1, 3), (2, 3), (5, 0), (6, 0)] .done) (by kernel_rfl) (by kernel_rfl) ?_
        repeat ((first | refine Mx.mix0 rfl ?_ | refine Mx.mix1 rfl ?_); go_big_quiet_step (fail); refine wpQuiet_nil ?_)
        refine Mx.mix3 rfl ?_
        go_wp2
        refine Mx.mid_normal (fun q => by cases q) ?_
        refine Mx.mix3 rfl ?_
        go_wp2
        refine Mx.mid_normal (fun q => by cases q) ?_
        repeat ((first | refine Mx.mix0 rfl ?_ | refine Mx.mix1 rfl ?_); go_big_quiet_step (fail); refine wpQuiet_nil ?_)
        refine Mx.mix_nil ?_
        go_wp2
        go_ret
        exact ⟨rfl, (below_drewS (Below.refl _ w)).alloc (Nat.le_refl _) _⟩
    · rw [if_neg h1] at hd
      have h1' : (how == 1) = false := by rw [beq_eq_false_iff_ne]; exact h1
      by_cases h2 : how = 2
      · rw [if_pos h2] at hd
        subst h2
        cases hb : Lib.isUpperB s[0]
        · rw [Lib.lowerB_of_not _ hb] at hd
          rw [hb] at hU
          have hdx : (d.toNat : Int) = x := by rw [hd]; exact hx
          have hcv := conv1d w d x hdx
          clear hd hdx hl hu hL hb h1 h1'
          by_cases q1 : 65 ≤ x
          · have q2 : ¬ x ≤ 90 := fun q2 => by rw [decide_eq_true q1, decide_eq_true q2] at hU; cases hU
            clear hU
            go_enter Tryz.func48, Tryz.ntmps48
            go_wp2_with fail
            refine Mx.wp_region_mixed (Mx.ofL [(0, 0), (3, 0), (4, 0), (1, 3), (2, 3), (5, 0), (6, 0)] .done) (by kernel_rfl) (by kernel_rfl) ?_
            repeat ((first | refine Mx.mix0 rfl ?_ | refine Mx.mix1 rfl ?_); go_big_quiet_step (fail); refine wpQuiet_nil ?_)
            refine Mx.mix3 rfl ?_
            go_wp2
            refine Mx.mid_normal (fun q => by cases q) ?_
            refine Mx.mix3 rfl ?_
            go_wp2
            refine Mx.mid_normal (fun q => by cases q) ?_
            repeat ((first | refine Mx.mix0 rfl ?_ | refine Mx.mix1 rfl ?_); go_big_quiet_step (fail); refine wpQuiet_nil ?_)
            refine Mx.mix_nil ?_
            go_wp2
            go_ret
            exact ⟨rfl, (below_drewS (Below.refl _ w)).alloc (Nat.le_refl _) _⟩
          · clear hU
            go_enter Tryz.func48, Tryz.ntmps48
            go_wp2_with fail
            refine Mx.wp_region_mixed (Mx.ofL [(0, 0), (3, 0), (4, 0), (1, 3), (2, 3), (5, 0), (6, 0)] .done) (by kernel_rfl) (by kernel_rfl) ?_
            repeat ((first | refine Mx.mix0 rfl ?_ | refine Mx.mix1 rfl ?_); go_big_quiet_step (fail); refine wpQuiet_nil ?_)
            refine Mx.mix3 rfl ?_
            go_wp2
            refine Mx.mid_normal (fun q => by cases q) ?_
            refine Mx.mix3 rfl ?_
            go_wp2
            refine Mx.mid_normal (fun q => by cases q) ?_
            repeat ((first | refine Mx.mix0 rfl ?_ | refine Mx.mix1 rfl ?_); go_big_quiet_step (fail); refine wpQuiet_nil ?_)
            refine Mx.mix_nil ?_
            go_wp2
            go_ret
            exact ⟨rfl, (below_drewS (Below.refl _ w)).alloc (Nat.le_refl _) _⟩
        · have hv := hu hb
          rw [hb] at hU
          simp only [Bool.true_eq, Bool.and_eq_true, decide_eq_true_eq] at hU
          obtain ⟨q1, q2⟩ := hU
          have hdx : (d.toNat : Int) = x + 32 := by rw [hd]; exact hv
          have hcv := conv1d w d (x + 32) hdx
          clear hd hdx hl hu hL hb hv h1 h1'
          go_enter Tryz.func48, Tryz.ntmps48
          go_wp2_with fail
          refine Mx.wp_region_mixed (Mx.ofL [(0, 0), (3, 0), (4, 0), (1, 3), (2, 3), (5, 0), (6, 0)] .done) (by kernel_rfl) (by kernel_rfl) ?_
          repeat ((first | refine Mx.mix0 rfl ?_ | refine Mx.mix1 rfl ?_); go_big_quiet_step (fail); refine wpQuiet_nil ?_)
          refine Mx.mix3 rfl ?_
          go_wp2
          refine Mx.mid_normal (fun q => by cases q) ?_
          refine Mx.mix3 rfl ?_
          go_wp2
          refine Mx.mid_normal (fun q => by cases q) ?_
          repeat ((first | refine Mx.mix0 rfl ?_ | refine Mx.mix1 rfl ?_); go_big_quiet_step (fail); refine wpQuiet_nil ?_)
          refine Mx.mix_nil ?_
          go_wp2
          go_ret
          exact ⟨rfl, (below_drewS (Below.refl _ w)).alloc (Nat.le_refl _) _⟩
      · rw [if_neg h2] at hd
        have h2' : (how == 2) = false := by rw [beq_eq_false_iff_ne]; exact h2
        have hdx : (d.toNat : Int) = x := by rw [hd]; exact hx
        have hcv := conv1d w d x hdx
        clear hd hdx hl hu hL hU h1 h2
        go_enter Tryz.func48, Tryz.ntmps48
        go_wp2_with fail
        refine Mx.wp_region_mixed (Mx.ofL [(0, 0), (3, 0), (4, 0), (1, 3), (2, 3), (5, 0), (6, 0)] .done) (by kernel_rfl) (by kernel_rfl) ?_
        repeat ((first | refine Mx.mix0 rfl ?_ | refine Mx.mix1 rfl ?_); go_big_quiet_step (fail); refine wpQuiet_nil ?_)
        refine Mx.mix3 rfl ?_
        go_wp2
        refine Mx.mid_normal (fun q => by cases q) ?_
        refine Mx.mix3 rfl ?_
        go_wp2
        refine Mx.mid_normal (fun q => by cases q) ?_
        repeat ((first | refine Mx.mix0 rfl ?_ | refine Mx.mix1 rfl ?_); go_big_quiet_step (fail); refine wpQuiet_nil ?_)
        refine Mx.mix_nil ?_
        go_wp2
        go_ret
        exact ⟨rfl, (below_drewS (Below.refl _ w)).alloc (Nat.le_refl _) _⟩
set_option maxHeartbeats 1000000 in
theorem l12Put_any (t : ByteArray) (j g : Bool) (c p : Int) (x : ByteArray) (w : World) (ht : t.size ≤ 1048600) (hx : x.size ≤ 1048600) :
    Calls Tryz.prog 46 #[stV ⟨t, j, g, c, p⟩, .string x] w fun e w' => e = .returned (stV (putS ⟨t, j, g, c, p⟩ x)) ∧ Below w.heap.size w w' := by
  have cc := fun w => l12Case_any x c w hx
  have hy := caseB_size x c
  have hput : putS ⟨t, j, g, c, p⟩ x = ⟨baseT ⟨t, j, g, c, p⟩ ++ caseB x c, j, g, 0, (baseT ⟨t, j, g, c, p⟩).size⟩ := rfl
  rw [hput]
  obtain ⟨y, hyy⟩ : ∃ y, y = caseB x c := ⟨_, rfl⟩
  rw [← hyy] at cc hy ⊢
  have CC := Lib.hid cc
  clear cc hyy hput
  cases j
  · obtain ⟨b, hb⟩ : ∃ b, t ++ (⟨#[32]⟩ : ByteArray) = b := ⟨_, rfl⟩
    have hbs : b.size = t.size + 1 := by rw [← hb, ByteArray.size_append]; rfl
    have hbi : (b.size : Int) = (t.size : Int) + 1 := by omega
    rw [show baseT ⟨t, false, g, c, p⟩ = b from hb, hbi]
    obtain ⟨W, hW⟩ : ∃ W, W = (w.alloc (.cells #[.string (b), .bool false, .bool g, .int .i64 c, .int .i64 ((t.size : Int) + 1)] 25)).alloc (.cells #[.string ⟨#[]⟩, .bool false, .bool false, .int .i64 0, .int .i64 0] 25) := ⟨_, rfl⟩
    have S0 : Hid (BoxS W w.heap.size ⟨b, false, g, c, ((t.size : Int) + 1)⟩) := by rw [hW]; exact (BoxS.new w ⟨b, false, g, c, ((t.size : Int) + 1)⟩).below (below_alS _ _)
    have R0 : Hid (BoxS W (w.heap.size + 1) St.zero) := by rw [hW]; have := BoxS.new (w.alloc (.cells (stC ⟨b, false, g, c, ((t.size : Int) + 1)⟩) 25)) St.zero; rw [World.size_alloc] at this; exact this
    have B0 : Hid (Below w.heap.size w W) := by rw [hW]; exact below_al2S _ _ _
    have HW := Lib.hid hW
    clear hW
    go_enter Tryz.func46, Tryz.ntmps46
    go_wp2_with fail
    rw [← HW.out]
    obtain ⟨c0, c1, c2, c3, c4⟩ := S0.out.cells
    have k0 := cell_regrown c0
    have k3 := cell_regrown c3
    refine Mx.wp_region_mixed (Mx.ofL [(0, 0), (1, 1), (2, 0), (3, 0), (4, 1), (5, 2), (6, 0), (7, 0), (8, 3)] .done) (by kernel_rfl) (by kernel_rfl) ?_
    repeat ((first | refine Mx.mix0 rfl ?_ | refine Mx.mix1 rfl ?_); go_big_quiet_step (fail); refine wpQuiet_nil ?_)
    refine Mx.mix2 rfl ?_
    clear c0 c1 c2 c3 c4 k0 k3
    go_wp2_with fail
    refine (CC.out _).mono ?_
    rintro e w1 ⟨rfl, hb⟩
    have hbd : Below W.heap.size W w1 := below_stepS (below_drewS (Below.refl _ W)) hb
    have S1 := Lib.hid (S0.out.below hbd)
    have R1 := Lib.hid (R0.out.below hbd)
    have B1 := Lib.hid (below_stepS B0.out hbd)
    have HG := Lib.hid (regrown_of_below hbd)
    clear hb hbd S0 R0 B0 HW CC
    go_wp2
    refine Mx.mid_normal (fun _ => HG.out) ?_
    repeat ((first | refine Mx.mix0 rfl ?_ | refine Mx.mix1 rfl ?_); go_big_quiet_step (fail); refine wpQuiet_nil ?_)
    refine Mx.mix3 rfl ?_
    obtain ⟨c0, c1, c2, c3, c4⟩ := S1.out.cells
    obtain ⟨f0, f1, f2, f3, f4⟩ := S1.out.frozen
    go_wp2
    refine Mx.mid_normal (fun q => by cases q) (Mx.mix_nil ?_)
    have S2 := Lib.hid ((S1.out.set0 (b ++ y)).set3 0)
    have R2 := Lib.hid ((R1.out.other (g := w.heap.size) (o := 0) (v := .string (b ++ y)) (by omega)).other (g := w.heap.size) (o := 3) (v := .int .i64 0) (by omega))
    go_wp2_with (with_reducible (show wpList _ _ _ (_ :: _) _ _); first | refine at_storeS rfl _ _ rfl (w.heap.size + 1) ⟨b ++ y, false, g, 0, ((t.size : Int) + 1)⟩ St.zero rfl rfl R2.out ?_ | refine at_loadS rfl _ rfl w.heap.size ⟨b ++ y, false, g, 0, ((t.size : Int) + 1)⟩ rfl S2.out ?_)
    (try simp only [Exit.inBlock, Exit.then])
    refine bodyPost_ret (results_S rfl _ _ (w.heap.size + 1) _ rfl (R2.out.set _)) rfl ?_
    exact ⟨rfl, below_setRow ((B1.out.setCell (Nat.le_refl _) _).setCell (Nat.le_refl _) _) (by omega) _⟩
  · rw [show baseT ⟨t, true, g, c, p⟩ = t from rfl]
    obtain ⟨W, hW⟩ : ∃ W, W = (w.alloc (.cells #[.string (t), .bool true, .bool g, .int .i64 c, .int .i64 (t.size : Int)] 25)).alloc (.cells #[.string ⟨#[]⟩, .bool false, .bool false, .int .i64 0, .int .i64 0] 25) := ⟨_, rfl⟩
    have S0 : Hid (BoxS W w.heap.size ⟨t, true, g, c, (t.size : Int)⟩) := by rw [hW]; exact (BoxS.new w ⟨t, true, g, c, (t.size : Int)⟩).below (below_alS _ _)
    have R0 : Hid (BoxS W (w.heap.size + 1) St.zero) := by rw [hW]; have := BoxS.new (w.alloc (.cells (stC ⟨t, true, g, c, (t.size : Int)⟩) 25)) St.zero; rw [World.size_alloc] at this; exact this
    have B0 : Hid (Below w.heap.size w W) := by rw [hW]; exact below_al2S _ _ _
    have HW := Lib.hid hW
    clear hW
    go_enter Tryz.func46, Tryz.ntmps46
    go_wp2_with fail
    rw [← HW.out]
    obtain ⟨c0, c1, c2, c3, c4⟩ := S0.out.cells
    have k0 := cell_regrown c0
    have k3 := cell_regrown c3
    refine Mx.wp_region_mixed (Mx.ofL [(0, 0), (1, 1), (2, 0), (3, 0), (4, 1), (5, 2), (6, 0), (7, 0), (8, 3)] .done) (by kernel_rfl) (by kernel_rfl) ?_
    repeat ((first | refine Mx.mix0 rfl ?_ | refine Mx.mix1 rfl ?_); go_big_quiet_step (fail); refine wpQuiet_nil ?_)
    refine Mx.mix2 rfl ?_
    clear c0 c1 c2 c3 c4 k0 k3
    go_wp2_with fail
    refine (CC.out _).mono ?_
    rintro e w1 ⟨rfl, hb⟩
    have hbd : Below W.heap.size W w1 := below_stepS (below_drewS (Below.refl _ W)) hb
    have S1 := Lib.hid (S0.out.below hbd)
    have R1 := Lib.hid (R0.out.below hbd)
    have B1 := Lib.hid (below_stepS B0.out hbd)
    have HG := Lib.hid (regrown_of_below hbd)
    clear hb hbd S0 R0 B0 HW CC
    go_wp2
    refine Mx.mid_normal (fun _ => HG.out) ?_
    repeat ((first | refine Mx.mix0 rfl ?_ | refine Mx.mix1 rfl ?_); go_big_quiet_step (fail); refine wpQuiet_nil ?_)
    refine Mx.mix3 rfl ?_
    obtain ⟨c0, c1, c2, c3, c4⟩ := S1.out.cells
    obtain ⟨f0, f1, f2, f3, f4⟩ := S1.out.frozen
    go_wp2
    refine Mx.mid_normal (fun q => by cases q) (Mx.mix_nil ?_)
    have S2 := Lib.hid ((S1.out.set0 (t ++ y)).set3 0)
    have R2 := Lib.hid ((R1.out.other (g := w.heap.size) (o := 0) (v := .string (t ++ y)) (by omega)).other (g := w.heap.size) (o := 3) (v := .int .i64 0) (by omega))
    go_wp2_with (with_reducible (show wpList _ _ _ (_ :: _) _ _); first | refine at_storeS rfl _ _ rfl (w.heap.size + 1) ⟨t ++ y, true, g, 0, (t.size : Int)⟩ St.zero rfl rfl R2.out ?_ | refine at_loadS rfl _ rfl w.heap.size ⟨t ++ y, true, g, 0, (t.size : Int)⟩ rfl S2.out ?_)
    (try simp only [Exit.inBlock, Exit.then])
    refine bodyPost_ret (results_S rfl _ _ (w.heap.size + 1) _ rfl (R2.out.set _)) rfl ?_
    exact ⟨rfl, below_setRow ((B1.out.setCell (Nat.le_refl _) _).setCell (Nat.le_refl _) _) (by omega) _⟩
set_option maxHeartbeats 2000000 in
theorem l12Apply_1 (t : ByteArray) (j g : Bool) (c : Int) (n : Nat) (x : ByteArray) (w : World) (ht : t.size ≤ 2000) (hn : n ≤ t.size) (hx : x.size ≤ 20) :
    Calls Tryz.prog 32 #[stV ⟨t, j, g, c, n⟩, atV 1 x] w fun e w' => e = .returned (stV (app ⟨t, j, g, c, n⟩ 1 x)) ∧ Below w.heap.size w w' := by
  rw [app_1]
  obtain ⟨W, hW⟩ : ∃ W, W = ((w.alloc (.cells #[.string (t), .bool j, .bool g, .int .i64 c, .int .i64 (n : Int)] 25)).alloc (.cells #[.int .i64 1, .string x] 33)).alloc (.cells #[.string ⟨#[]⟩, .bool false, .bool false, .int .i64 0, .int .i64 0] 25) := ⟨_, rfl⟩
  have hsz : W.heap.size = w.heap.size + 3 := by rw [hW]; simp
  have S0 : Hid (BoxS W w.heap.size ⟨t, j, g, c, (n : Int)⟩) := by rw [hW]; exact ((BoxS.new w ⟨t, j, g, c, (n : Int)⟩).below (below_alS _ _)).below (below_alS _ _)
  have A0 : Hid (BoxT W (w.heap.size + 1) 1 x) := by rw [hW]; have := BoxT.new (w.alloc (.cells (stC ⟨t, j, g, c, (n : Int)⟩) 25)) 1 x; rw [World.size_alloc] at this; exact this.below (below_alS _ _)
  have R0 : Hid (BoxS W (w.heap.size + 2) St.zero) := by rw [hW]; have := BoxS.new ((w.alloc (.cells (stC ⟨t, j, g, c, (n : Int)⟩) 25)).alloc (.cells #[.int .i64 1, .string x] 33)) St.zero; rw [World.size_alloc, World.size_alloc] at this; exact this
  have B0 : Hid (Below w.heap.size w W) := by rw [hW]; exact below_al3S _ _ _ _
  have HW := Lib.hid hW
  clear hW
  have cp := fun w => l12Put_any t j g c (n : Int) x w (by omega) (by omega)
  obtain ⟨q, hq⟩ : ∃ q, q = putS ⟨t, j, g, c, (n : Int)⟩ x := ⟨_, rfl⟩
  rw [← hq] at cp
  rw [← hq]
  obtain ⟨tq, jq, gq, cq, pq⟩ := q
  have CP := Lib.hid cp
  clear cp hq
  go_enter Tryz.func32, Tryz.ntmps32
  go_wp2_with fail
  rw [← HW.out]
  refine (CP.out _).mono ?_
  rintro e w1 ⟨rfl, hb⟩
  have S1 := Lib.hid (S0.out.below hb)
  have S2 := Lib.hid (S1.out.set ⟨tq, jq, gq, cq, pq⟩)
  have A2 := Lib.hid ((A0.out.below hb).row (g := w.heap.size) (stC ⟨tq, jq, gq, cq, pq⟩) (by omega))
  have R2 := Lib.hid ((R0.out.below hb).row (g := w.heap.size) (stC ⟨tq, jq, gq, cq, pq⟩) (by omega))
  have B2 := Lib.hid (below_setRow (below_stepS B0.out hb) (Nat.le_refl _) (stC ⟨tq, jq, gq, cq, pq⟩))
  obtain ⟨x0, x1, x2, x3, x4⟩ := S2.out.cells
  obtain ⟨f0, f1, f2, f3, f4⟩ := S2.out.frozen
  obtain ⟨d0, d1⟩ := A2.out.cells
  have SF := Lib.hid ((S2.out.set1 (false)).set2 (false))
  have RF := Lib.hid ((R2.out.other (g := w.heap.size) (o := 1) (v := .bool false) (by omega)).other (g := w.heap.size) (o := 2) (v := .bool false) (by omega))
  clear hb S0 A0 R0 B0 HW CP hsz
  go_wp2_with (with_reducible (show wpList _ _ _ (_ :: _) _ _); first | refine at_storeS rfl _ _ rfl (w.heap.size) ⟨tq, jq, gq, cq, pq⟩ ⟨t, j, g, c, (n : Int)⟩ rfl rfl S1.out ?_ | refine at_storeS rfl _ _ rfl (w.heap.size + 2) ⟨tq, false, false, cq, pq⟩ St.zero rfl rfl RF.out ?_ | refine at_loadS rfl _ rfl (w.heap.size) ⟨tq, false, false, cq, pq⟩ rfl SF.out ?_)
  (try simp only [Exit.inBlock, Exit.then])
  refine bodyPost_ret (results_S rfl _ _ (w.heap.size + 2) _ rfl (RF.out.set _)) rfl ?_
  exact ⟨rfl, below_setRow ((B2.out.setCell (Nat.le_refl _) _).setCell (Nat.le_refl _) _) (by omega) _⟩
set_option maxHeartbeats 2000000 in
theorem l12Apply_2 (t : ByteArray) (j g : Bool) (c : Int) (n : Nat) (x : ByteArray) (w : World) (ht : t.size ≤ 2000) (hn : n ≤ t.size) (hx : x.size ≤ 20) :
    Calls Tryz.prog 32 #[stV ⟨t, j, g, c, n⟩, atV 2 x] w fun e w' => e = .returned (stV (app ⟨t, j, g, c, n⟩ 2 x)) ∧ Below w.heap.size w w' := by
  rw [app_2]
  show Calls _ _ _ _ fun e w' => e = .returned (stV ⟨t.extract 0 n ++ sfx (t.extract n t.size) x, false, false, c, n⟩) ∧ _
  have cj := fun w => specJoinSuffix_any (t.extract n t.size) x w (by rw [ByteArray.size_extract]; omega) (by omega)
  have hE := ext_app t hn
  unfold joinE at cj
  unfold sfx sfxOk
  obtain ⟨o, ho⟩ : ∃ o, o = (Pl.wordB (t.extract n t.size).data.toList && (Pl.wordB x.data.toList && decide ((joinB (t.extract n t.size) x).size ≤ 24))) := ⟨_, rfl⟩
  obtain ⟨J, hJ⟩ : ∃ J, J = joinB (t.extract n t.size) x := ⟨_, rfl⟩
  have hJs : o = true → J.size ≤ 24 := fun h => by
    rw [h] at ho
    simp only [Bool.true_eq, Bool.and_eq_true, decide_eq_true_eq] at ho
    rw [hJ]; exact ho.2.2
  rw [← ho, ← hJ] at cj ⊢
  clear ho hJ
  obtain ⟨W, hW⟩ : ∃ W, W = ((w.alloc (.cells #[.string (t), .bool j, .bool g, .int .i64 c, .int .i64 (n : Int)] 25)).alloc (.cells #[.int .i64 2, .string x] 33)).alloc (.cells #[.string ⟨#[]⟩, .bool false, .bool false, .int .i64 0, .int .i64 0] 25) := ⟨_, rfl⟩
  have hsz : W.heap.size = w.heap.size + 3 := by rw [hW]; simp
  have S0 : Hid (BoxS W w.heap.size ⟨t, j, g, c, (n : Int)⟩) := by rw [hW]; exact ((BoxS.new w ⟨t, j, g, c, (n : Int)⟩).below (below_alS _ _)).below (below_alS _ _)
  have A0 : Hid (BoxT W (w.heap.size + 1) 2 x) := by rw [hW]; have := BoxT.new (w.alloc (.cells (stC ⟨t, j, g, c, (n : Int)⟩) 25)) 2 x; rw [World.size_alloc] at this; exact this.below (below_alS _ _)
  have R0 : Hid (BoxS W (w.heap.size + 2) St.zero) := by rw [hW]; have := BoxS.new ((w.alloc (.cells (stC ⟨t, j, g, c, (n : Int)⟩) 25)).alloc (.cells #[.int .i64 2, .string x] 33)) St.zero; rw [World.size_alloc, World.size_alloc] at this; exact this
  have B0 : Hid (Below w.heap.size w W) := by rw [hW]; exact below_al3S _ _ _ _
  have HW := Lib.hid hW
  clear hW
  cases o
  · rw [if_neg (by decide)] at cj
    rw [if_neg (by decide)]
    rw [show t.extract 0 n ++ (t.extract n t.size ++ x) = t ++ x by rw [← ByteArray.append_assoc, hE]]
    have CJ := Lib.hid cj
    have HE := Lib.hid hE
    clear cj hE hJs
    go_enter Tryz.func32, Tryz.ntmps32
    go_wp2_with fail
    rw [← HW.out]
    obtain ⟨c0, c1, c2, c3, c4⟩ := S0.out.cells
    obtain ⟨d0, d1⟩ := A0.out.cells
    have k0 := cell_regrown c0
    have k4 := cell_regrown c4
    have k5 := cell_regrown d1
    refine Mx.wp_region_mixed (Mx.ofL [(0, 0), (1, 1), (2, 0), (3, 1), (4, 0), (5, 0), (6, 1), (7, 3), (8, 0), (9, 0), (10, 0), (11, 0), (12, 0)] .done) (by kernel_rfl) (by kernel_rfl) ?_
    repeat ((first | refine Mx.mix0 rfl ?_ | refine Mx.mix1 rfl ?_); go_big_quiet_step (fail); refine wpQuiet_nil ?_)
    refine Mx.mix3 rfl ?_
    go_wp2_with fail
    refine (CJ.out _).mono ?_
    rintro e w1 ⟨rfl, rfl⟩
    go_wp2
    refine Mx.mid_normal (fun q => by cases q) ?_
    repeat ((first | refine Mx.mix0 rfl ?_ | refine Mx.mix1 rfl ?_); go_big_quiet_step (fail); refine wpQuiet_nil ?_)
    refine Mx.mix_nil ?_
    obtain ⟨V, hV⟩ : ∃ V, V = W.drew := ⟨_, rfl⟩
    rw [← hV]
    have S1 : Hid (BoxS V w.heap.size ⟨t, j, g, c, (n : Int)⟩) := by rw [hV]; exact S0.out
    have A1 : Hid (BoxT V (w.heap.size + 1) 2 x) := by rw [hV]; exact A0.out
    have R1 : Hid (BoxS V (w.heap.size + 2) St.zero) := by rw [hV]; exact R0.out
    have B1 : Hid (Below w.heap.size w V) := by rw [hV]; exact below_drewS B0.out
    clear hV
    clear c0 c1 c2 c3 c4 d0 d1 k0 k4 k5 S0 A0 R0 B0 HW
    obtain ⟨x0, x1, x2, x3, x4⟩ := S1.out.cells
    obtain ⟨f0, f1, f2, f3, f4⟩ := S1.out.frozen
    obtain ⟨d0, d1⟩ := A1.out.cells
    have SF := Lib.hid (((S1.out.set0 (t ++ x)).set1 (false)).set2 (false))
    have RF := Lib.hid (((R1.out.other (g := w.heap.size) (o := 0) (v := .string (t ++ x)) (by omega)).other (g := w.heap.size) (o := 1) (v := .bool false) (by omega)).other (g := w.heap.size) (o := 2) (v := .bool false) (by omega))
    go_wp2_with (with_reducible (show wpList _ _ _ (_ :: _) _ _); first | refine at_storeS rfl _ _ rfl (w.heap.size + 2) ⟨t ++ x, false, false, c, (n : Int)⟩ St.zero rfl rfl RF.out ?_ | refine at_loadS rfl _ rfl (w.heap.size) ⟨t ++ x, false, false, c, (n : Int)⟩ rfl SF.out ?_)
    (try simp only [Exit.inBlock, Exit.then])
    refine bodyPost_ret (results_S rfl _ _ (w.heap.size + 2) _ rfl (RF.out.set _)) rfl ?_
    exact ⟨rfl, below_setRow (((B1.out.setCell (Nat.le_refl _) _).setCell (Nat.le_refl _) _).setCell (Nat.le_refl _) _) (by omega) _⟩
  · have hJ := hJs rfl
    rw [if_pos rfl] at cj
    rw [if_pos rfl]
    have CJ := Lib.hid cj
    have HE := Lib.hid hE
    clear cj hE hJs
    go_enter Tryz.func32, Tryz.ntmps32
    go_wp2_with fail
    rw [← HW.out]
    obtain ⟨c0, c1, c2, c3, c4⟩ := S0.out.cells
    obtain ⟨d0, d1⟩ := A0.out.cells
    have k0 := cell_regrown c0
    have k4 := cell_regrown c4
    have k5 := cell_regrown d1
    refine Mx.wp_region_mixed (Mx.ofL [(0, 0), (1, 1), (2, 0), (3, 1), (4, 0), (5, 0), (6, 1), (7, 3), (8, 0), (9, 0), (10, 0), (11, 0), (12, 0)] .done) (by kernel_rfl) (by kernel_rfl) ?_
    repeat ((first | refine Mx.mix0 rfl ?_ | refine Mx.mix1 rfl ?_); go_big_quiet_step (fail); refine wpQuiet_nil ?_)
    refine Mx.mix3 rfl ?_
    go_wp2_with fail
    refine (CJ.out _).mono ?_
    rintro e w1 ⟨rfl, rfl⟩
    go_wp2
    refine Mx.mid_normal (fun q => by cases q) ?_
    repeat ((first | refine Mx.mix0 rfl ?_ | refine Mx.mix1 rfl ?_); go_big_quiet_step (fail); refine wpQuiet_nil ?_)
    refine Mx.mix_nil ?_
    obtain ⟨V, hV⟩ : ∃ V, V = W.drew := ⟨_, rfl⟩
    rw [← hV]
    have S1 : Hid (BoxS V w.heap.size ⟨t, j, g, c, (n : Int)⟩) := by rw [hV]; exact S0.out
    have A1 : Hid (BoxT V (w.heap.size + 1) 2 x) := by rw [hV]; exact A0.out
    have R1 : Hid (BoxS V (w.heap.size + 2) St.zero) := by rw [hV]; exact R0.out
    have B1 : Hid (Below w.heap.size w V) := by rw [hV]; exact below_drewS B0.out
    clear hV
    clear c0 c1 c2 c3 c4 d0 d1 k0 k4 k5 S0 A0 R0 B0 HW
    obtain ⟨x0, x1, x2, x3, x4⟩ := S1.out.cells
    obtain ⟨f0, f1, f2, f3, f4⟩ := S1.out.frozen
    obtain ⟨d0, d1⟩ := A1.out.cells
    have SF := Lib.hid (((S1.out.set0 (t.extract 0 n ++ J)).set1 (false)).set2 (false))
    have RF := Lib.hid (((R1.out.other (g := w.heap.size) (o := 0) (v := .string (t.extract 0 n ++ J)) (by omega)).other (g := w.heap.size) (o := 1) (v := .bool false) (by omega)).other (g := w.heap.size) (o := 2) (v := .bool false) (by omega))
    go_wp2_with (with_reducible (show wpList _ _ _ (_ :: _) _ _); first | refine at_storeS rfl _ _ rfl (w.heap.size + 2) ⟨t.extract 0 n ++ J, false, false, c, (n : Int)⟩ St.zero rfl rfl RF.out ?_ | refine at_loadS rfl _ rfl (w.heap.size) ⟨t.extract 0 n ++ J, false, false, c, (n : Int)⟩ rfl SF.out ?_)
    (try simp only [Exit.inBlock, Exit.then])
    refine bodyPost_ret (results_S rfl _ _ (w.heap.size + 2) _ rfl (RF.out.set _)) rfl ?_
    exact ⟨rfl, below_setRow (((B1.out.setCell (Nat.le_refl _) _).setCell (Nat.le_refl _) _).setCell (Nat.le_refl _) _) (by omega) _⟩
set_option maxHeartbeats 2000000 in
theorem l12Apply_3 (t : ByteArray) (j g : Bool) (c : Int) (n : Nat) (x : ByteArray) (w : World) (ht : t.size ≤ 2000) (hn : n ≤ t.size) (hx : x.size ≤ 20) :
    Calls Tryz.prog 32 #[stV ⟨t, j, g, c, n⟩, atV 3 x] w fun e w' => e = .returned (stV (app ⟨t, j, g, c, n⟩ 3 x)) ∧ Below w.heap.size w w' := by
  rw [app_3]
  obtain ⟨W, hW⟩ : ∃ W, W = ((w.alloc (.cells #[.string (t), .bool j, .bool g, .int .i64 c, .int .i64 (n : Int)] 25)).alloc (.cells #[.int .i64 3, .string x] 33)).alloc (.cells #[.string ⟨#[]⟩, .bool false, .bool false, .int .i64 0, .int .i64 0] 25) := ⟨_, rfl⟩
  have hsz : W.heap.size = w.heap.size + 3 := by rw [hW]; simp
  have S0 : Hid (BoxS W w.heap.size ⟨t, j, g, c, (n : Int)⟩) := by rw [hW]; exact ((BoxS.new w ⟨t, j, g, c, (n : Int)⟩).below (below_alS _ _)).below (below_alS _ _)
  have A0 : Hid (BoxT W (w.heap.size + 1) 3 x) := by rw [hW]; have := BoxT.new (w.alloc (.cells (stC ⟨t, j, g, c, (n : Int)⟩) 25)) 3 x; rw [World.size_alloc] at this; exact this.below (below_alS _ _)
  have R0 : Hid (BoxS W (w.heap.size + 2) St.zero) := by rw [hW]; have := BoxS.new ((w.alloc (.cells (stC ⟨t, j, g, c, (n : Int)⟩) 25)).alloc (.cells #[.int .i64 3, .string x] 33)) St.zero; rw [World.size_alloc, World.size_alloc] at this; exact this
  have B0 : Hid (Below w.heap.size w W) := by rw [hW]; exact below_al3S _ _ _ _
  have HW := Lib.hid hW
  clear hW
  have cp := fun w => l12Put_any t j g c (n : Int) x w (by omega) (by omega)
  obtain ⟨q, hq⟩ : ∃ q, q = putS ⟨t, j, g, c, (n : Int)⟩ x := ⟨_, rfl⟩
  rw [← hq] at cp
  rw [← hq]
  obtain ⟨tq, jq, gq, cq, pq⟩ := q
  have CP := Lib.hid cp
  clear cp hq
  go_enter Tryz.func32, Tryz.ntmps32
  go_wp2_with fail
  rw [← HW.out]
  refine (CP.out _).mono ?_
  rintro e w1 ⟨rfl, hb⟩
  have S1 := Lib.hid (S0.out.below hb)
  have S2 := Lib.hid (S1.out.set ⟨tq, jq, gq, cq, pq⟩)
  have A2 := Lib.hid ((A0.out.below hb).row (g := w.heap.size) (stC ⟨tq, jq, gq, cq, pq⟩) (by omega))
  have R2 := Lib.hid ((R0.out.below hb).row (g := w.heap.size) (stC ⟨tq, jq, gq, cq, pq⟩) (by omega))
  have B2 := Lib.hid (below_setRow (below_stepS B0.out hb) (Nat.le_refl _) (stC ⟨tq, jq, gq, cq, pq⟩))
  obtain ⟨x0, x1, x2, x3, x4⟩ := S2.out.cells
  obtain ⟨f0, f1, f2, f3, f4⟩ := S2.out.frozen
  obtain ⟨d0, d1⟩ := A2.out.cells
  have SF := Lib.hid ((S2.out.set1 (true)).set2 (false))
  have RF := Lib.hid ((R2.out.other (g := w.heap.size) (o := 1) (v := .bool true) (by omega)).other (g := w.heap.size) (o := 2) (v := .bool false) (by omega))
  clear hb S0 A0 R0 B0 HW CP hsz
  go_wp2_with (with_reducible (show wpList _ _ _ (_ :: _) _ _); first | refine at_storeS rfl _ _ rfl (w.heap.size) ⟨tq, jq, gq, cq, pq⟩ ⟨t, j, g, c, (n : Int)⟩ rfl rfl S1.out ?_ | refine at_storeS rfl _ _ rfl (w.heap.size + 2) ⟨tq, true, false, cq, pq⟩ St.zero rfl rfl RF.out ?_ | refine at_loadS rfl _ rfl (w.heap.size) ⟨tq, true, false, cq, pq⟩ rfl SF.out ?_)
  (try simp only [Exit.inBlock, Exit.then])
  refine bodyPost_ret (results_S rfl _ _ (w.heap.size + 2) _ rfl (RF.out.set _)) rfl ?_
  exact ⟨rfl, below_setRow ((B2.out.setCell (Nat.le_refl _) _).setCell (Nat.le_refl _) _) (by omega) _⟩
set_option maxHeartbeats 2000000 in
theorem l12Apply_4 (t : ByteArray) (j g : Bool) (c : Int) (n : Nat) (x : ByteArray) (w : World) (ht : t.size ≤ 2000) (hn : n ≤ t.size) (hx : x.size ≤ 20) :
    Calls Tryz.prog 32 #[stV ⟨t, j, g, c, n⟩, atV 4 x] w fun e w' => e = .returned (stV (app ⟨t, j, g, c, n⟩ 4 x)) ∧ Below w.heap.size w w' := by
  rw [app_4]
  have hg : BoxS (((w.alloc (.cells #[.string (t ++ x), .bool true, .bool false, .int .i64 c, .int .i64 (n : Int)] 25)).alloc (.cells #[.int .i64 4, .string x] 33)).alloc (.cells #[.string (t ++ x), .bool true, .bool false, .int .i64 c, .int .i64 (n : Int)] 25)) (w.heap.size + 2) ⟨t ++ x, true, false, c, (n : Int)⟩ := by
    have := BoxS.new ((w.alloc (.cells (stC ⟨t ++ x, true, false, c, (n : Int)⟩) 25)).alloc (.cells #[.int .i64 4, .string x] 33)) ⟨t ++ x, true, false, c, (n : Int)⟩
    rw [World.size_alloc, World.size_alloc] at this
    exact this
  go_enter Tryz.func32, Tryz.ntmps32
  go_wp2
  (try simp only [Exit.inBlock, Exit.then])
  refine bodyPost_ret (results_S rfl _ _ (w.heap.size + 2) _ rfl hg) rfl ?_
  exact ⟨rfl, below_al3S _ _ _ _⟩
set_option maxHeartbeats 2000000 in
theorem l12Apply_5 (t : ByteArray) (j g : Bool) (c : Int) (n : Nat) (x : ByteArray) (w : World) (ht : t.size ≤ 2000) (hn : n ≤ t.size) (hx : x.size ≤ 20) :
    Calls Tryz.prog 32 #[stV ⟨t, j, g, c, n⟩, atV 5 x] w fun e w' => e = .returned (stV (app ⟨t, j, g, c, n⟩ 5 x)) ∧ Below w.heap.size w w' := by
  cases g
  · rw [app_5n _ _ rfl]
    obtain ⟨W, hW⟩ : ∃ W, W = ((w.alloc (.cells #[.string (t), .bool j, .bool false, .int .i64 c, .int .i64 (n : Int)] 25)).alloc (.cells #[.int .i64 5, .string x] 33)).alloc (.cells #[.string ⟨#[]⟩, .bool false, .bool false, .int .i64 0, .int .i64 0] 25) := ⟨_, rfl⟩
    have hsz : W.heap.size = w.heap.size + 3 := by rw [hW]; simp
    have S0 : Hid (BoxS W w.heap.size ⟨t, j, false, c, (n : Int)⟩) := by rw [hW]; exact ((BoxS.new w ⟨t, j, false, c, (n : Int)⟩).below (below_alS _ _)).below (below_alS _ _)
    have A0 : Hid (BoxT W (w.heap.size + 1) 5 x) := by rw [hW]; have := BoxT.new (w.alloc (.cells (stC ⟨t, j, false, c, (n : Int)⟩) 25)) 5 x; rw [World.size_alloc] at this; exact this.below (below_alS _ _)
    have R0 : Hid (BoxS W (w.heap.size + 2) St.zero) := by rw [hW]; have := BoxS.new ((w.alloc (.cells (stC ⟨t, j, false, c, (n : Int)⟩) 25)).alloc (.cells #[.int .i64 5, .string x] 33)) St.zero; rw [World.size_alloc, World.size_alloc] at this; exact this
    have B0 : Hid (Below w.heap.size w W) := by rw [hW]; exact below_al3S _ _ _ _
    have HW := Lib.hid hW
    clear hW
    have cp := fun w => l12Put_any t j false c (n : Int) x w (by omega) (by omega)
    obtain ⟨q, hq⟩ : ∃ q, q = putS ⟨t, j, false, c, (n : Int)⟩ x := ⟨_, rfl⟩
    rw [← hq] at cp
    rw [← hq]
    obtain ⟨tq, jq, gq, cq, pq⟩ := q
    have CP := Lib.hid cp
    clear cp hq
    go_enter Tryz.func32, Tryz.ntmps32
    go_wp2_with fail
    rw [← HW.out]
    refine (CP.out _).mono ?_
    rintro e w1 ⟨rfl, hb⟩
    have S1 := Lib.hid (S0.out.below hb)
    have S2 := Lib.hid (S1.out.set ⟨tq, jq, gq, cq, pq⟩)
    have A2 := Lib.hid ((A0.out.below hb).row (g := w.heap.size) (stC ⟨tq, jq, gq, cq, pq⟩) (by omega))
    have R2 := Lib.hid ((R0.out.below hb).row (g := w.heap.size) (stC ⟨tq, jq, gq, cq, pq⟩) (by omega))
    have B2 := Lib.hid (below_setRow (below_stepS B0.out hb) (Nat.le_refl _) (stC ⟨tq, jq, gq, cq, pq⟩))
    obtain ⟨x0, x1, x2, x3, x4⟩ := S2.out.cells
    obtain ⟨f0, f1, f2, f3, f4⟩ := S2.out.frozen
    obtain ⟨d0, d1⟩ := A2.out.cells
    have SF := Lib.hid ((S2.out.set1 (false)).set2 (true))
    have RF := Lib.hid ((R2.out.other (g := w.heap.size) (o := 1) (v := .bool false) (by omega)).other (g := w.heap.size) (o := 2) (v := .bool true) (by omega))
    clear hb S0 A0 R0 B0 HW CP hsz
    go_wp2_with (with_reducible (show wpList _ _ _ (_ :: _) _ _); first | refine at_storeS rfl _ _ rfl (w.heap.size) ⟨tq, jq, gq, cq, pq⟩ ⟨t, j, false, c, (n : Int)⟩ rfl rfl S1.out ?_ | refine at_storeS rfl _ _ rfl (w.heap.size + 2) ⟨tq, false, true, cq, pq⟩ St.zero rfl rfl RF.out ?_ | refine at_loadS rfl _ rfl (w.heap.size) ⟨tq, false, true, cq, pq⟩ rfl SF.out ?_)
    (try simp only [Exit.inBlock, Exit.then])
    refine bodyPost_ret (results_S rfl _ _ (w.heap.size + 2) _ rfl (RF.out.set _)) rfl ?_
    exact ⟨rfl, below_setRow ((B2.out.setCell (Nat.le_refl _) _).setCell (Nat.le_refl _) _) (by omega) _⟩
  · rw [app_5y _ _ rfl]
    obtain ⟨W, hW⟩ : ∃ W, W = ((w.alloc (.cells #[.string (t), .bool true, .bool true, .int .i64 c, .int .i64 (n : Int)] 25)).alloc (.cells #[.int .i64 5, .string x] 33)).alloc (.cells #[.string ⟨#[]⟩, .bool false, .bool false, .int .i64 0, .int .i64 0] 25) := ⟨_, rfl⟩
    have hsz : W.heap.size = w.heap.size + 3 := by rw [hW]; simp
    have S0 : Hid (BoxS W w.heap.size ⟨t, true, true, c, (n : Int)⟩) := by rw [hW]; exact ((BoxS.new w ⟨t, true, true, c, (n : Int)⟩).below (below_alS _ _)).below (below_alS _ _)
    have A0 : Hid (BoxT W (w.heap.size + 1) 5 x) := by rw [hW]; have := BoxT.new (w.alloc (.cells (stC ⟨t, true, true, c, (n : Int)⟩) 25)) 5 x; rw [World.size_alloc] at this; exact this.below (below_alS _ _)
    have R0 : Hid (BoxS W (w.heap.size + 2) St.zero) := by rw [hW]; have := BoxS.new ((w.alloc (.cells (stC ⟨t, true, true, c, (n : Int)⟩) 25)).alloc (.cells #[.int .i64 5, .string x] 33)) St.zero; rw [World.size_alloc, World.size_alloc] at this; exact this
    have B0 : Hid (Below w.heap.size w W) := by rw [hW]; exact below_al3S _ _ _ _
    have HW := Lib.hid hW
    clear hW
    have cp := fun w => l12Put_any t true true c (n : Int) x w (by omega) (by omega)
    obtain ⟨q, hq⟩ : ∃ q, q = putS ⟨t, true, true, c, (n : Int)⟩ x := ⟨_, rfl⟩
    rw [← hq] at cp
    have e1 : q.t = t ++ caseB x c := by rw [hq]; rfl
    have e2 : q.c = 0 := by rw [hq]; rfl
    show Calls _ _ _ _ fun e w' => e = .returned (stV ⟨t ++ caseB x c, false, true, 0, n⟩) ∧ _
    rw [← e1, ← e2]
    clear e1 e2
    obtain ⟨tq, jq, gq, cq, pq⟩ := q
    have CP := Lib.hid cp
    clear cp hq
    go_enter Tryz.func32, Tryz.ntmps32
    go_wp2_with fail
    rw [← HW.out]
    refine (CP.out _).mono ?_
    rintro e w1 ⟨rfl, hb⟩
    have S1 := Lib.hid (S0.out.below hb)
    have S2 := Lib.hid (S1.out.set ⟨tq, jq, gq, cq, pq⟩)
    have A2 := Lib.hid ((A0.out.below hb).row (g := w.heap.size) (stC ⟨tq, jq, gq, cq, pq⟩) (by omega))
    have R2 := Lib.hid ((R0.out.below hb).row (g := w.heap.size) (stC ⟨tq, jq, gq, cq, pq⟩) (by omega))
    have B2 := Lib.hid (below_setRow (below_stepS B0.out hb) (Nat.le_refl _) (stC ⟨tq, jq, gq, cq, pq⟩))
    obtain ⟨x0, x1, x2, x3, x4⟩ := S2.out.cells
    obtain ⟨f0, f1, f2, f3, f4⟩ := S2.out.frozen
    obtain ⟨d0, d1⟩ := A2.out.cells
    have SF := Lib.hid (((S2.out.set4 ((n : Int))).set1 (false)).set2 (true))
    have RF := Lib.hid (((R2.out.other (g := w.heap.size) (o := 4) (v := .int .i64 ((n : Int))) (by omega)).other (g := w.heap.size) (o := 1) (v := .bool false) (by omega)).other (g := w.heap.size) (o := 2) (v := .bool true) (by omega))
    clear hb S0 A0 R0 B0 HW CP hsz
    go_wp2_with (with_reducible (show wpList _ _ _ (_ :: _) _ _); first | refine at_storeS rfl _ _ rfl (w.heap.size) ⟨tq, jq, gq, cq, pq⟩ ⟨t, true, true, c, (n : Int)⟩ rfl rfl S1.out ?_ | refine at_storeS rfl _ _ rfl (w.heap.size + 2) ⟨tq, false, true, cq, (n : Int)⟩ St.zero rfl rfl RF.out ?_ | refine at_loadS rfl _ rfl (w.heap.size) ⟨tq, false, true, cq, (n : Int)⟩ rfl SF.out ?_)
    (try simp only [Exit.inBlock, Exit.then])
    refine bodyPost_ret (results_S rfl _ _ (w.heap.size + 2) _ rfl (RF.out.set _)) rfl ?_
    exact ⟨rfl, below_setRow (((B2.out.setCell (Nat.le_refl _) _).setCell (Nat.le_refl _) _).setCell (Nat.le_refl _) _) (by omega) _⟩
set_option maxHeartbeats 2000000 in
theorem l12Apply_6 (t : ByteArray) (j g : Bool) (c : Int) (n : Nat) (x : ByteArray) (w : World) (ht : t.size ≤ 2000) (hn : n ≤ t.size) (hx : x.size ≤ 20) :
    Calls Tryz.prog 32 #[stV ⟨t, j, g, c, n⟩, atV 6 x] w fun e w' => e = .returned (stV (app ⟨t, j, g, c, n⟩ 6 x)) ∧ Below w.heap.size w w' := by
  rw [app_6]
  have hg : BoxS (((w.alloc (.cells #[.string (t ++ x), .bool false, .bool false, .int .i64 1, .int .i64 (n : Int)] 25)).alloc (.cells #[.int .i64 6, .string x] 33)).alloc (.cells #[.string (t ++ x), .bool false, .bool false, .int .i64 1, .int .i64 (n : Int)] 25)) (w.heap.size + 2) ⟨t ++ x, false, false, 1, (n : Int)⟩ := by
    have := BoxS.new ((w.alloc (.cells (stC ⟨t ++ x, false, false, 1, (n : Int)⟩) 25)).alloc (.cells #[.int .i64 6, .string x] 33)) ⟨t ++ x, false, false, 1, (n : Int)⟩
    rw [World.size_alloc, World.size_alloc] at this
    exact this
  go_enter Tryz.func32, Tryz.ntmps32
  go_wp2
  (try simp only [Exit.inBlock, Exit.then])
  refine bodyPost_ret (results_S rfl _ _ (w.heap.size + 2) _ rfl hg) rfl ?_
  exact ⟨rfl, below_al3S _ _ _ _⟩
set_option maxHeartbeats 2000000 in
theorem l12Apply_7 (t : ByteArray) (j g : Bool) (c : Int) (n : Nat) (x : ByteArray) (w : World) (ht : t.size ≤ 2000) (hn : n ≤ t.size) (hx : x.size ≤ 20) :
    Calls Tryz.prog 32 #[stV ⟨t, j, g, c, n⟩, atV 7 x] w fun e w' => e = .returned (stV (app ⟨t, j, g, c, n⟩ 7 x)) ∧ Below w.heap.size w w' := by
  rw [app_7]
  have hg : BoxS (((w.alloc (.cells #[.string (t ++ x), .bool false, .bool false, .int .i64 c, .int .i64 (n : Int)] 25)).alloc (.cells #[.int .i64 7, .string x] 33)).alloc (.cells #[.string (t ++ x), .bool false, .bool false, .int .i64 c, .int .i64 (n : Int)] 25)) (w.heap.size + 2) ⟨t ++ x, false, false, c, (n : Int)⟩ := by
    have := BoxS.new ((w.alloc (.cells (stC ⟨t ++ x, false, false, c, (n : Int)⟩) 25)).alloc (.cells #[.int .i64 7, .string x] 33)) ⟨t ++ x, false, false, c, (n : Int)⟩
    rw [World.size_alloc, World.size_alloc] at this
    exact this
  go_enter Tryz.func32, Tryz.ntmps32
  go_wp2
  (try simp only [Exit.inBlock, Exit.then])
  refine bodyPost_ret (results_S rfl _ _ (w.heap.size + 2) _ rfl hg) rfl ?_
  exact ⟨rfl, below_al3S _ _ _ _⟩
set_option maxHeartbeats 2000000 in
theorem l12Apply_8 (t : ByteArray) (j g : Bool) (c : Int) (n : Nat) (x : ByteArray) (w : World) (ht : t.size ≤ 2000) (hn : n ≤ t.size) (hx : x.size ≤ 20) :
    Calls Tryz.prog 32 #[stV ⟨t, j, g, c, n⟩, atV 8 x] w fun e w' => e = .returned (stV (app ⟨t, j, g, c, n⟩ 8 x)) ∧ Below w.heap.size w w' := by
  rw [app_8]
  have hg : BoxS (((w.alloc (.cells #[.string (t), .bool j, .bool g, .int .i64 1, .int .i64 (n : Int)] 25)).alloc (.cells #[.int .i64 8, .string x] 33)).alloc (.cells #[.string (t), .bool j, .bool g, .int .i64 1, .int .i64 (n : Int)] 25)) (w.heap.size + 2) ⟨t, j, g, 1, (n : Int)⟩ := by
    have := BoxS.new ((w.alloc (.cells (stC ⟨t, j, g, 1, (n : Int)⟩) 25)).alloc (.cells #[.int .i64 8, .string x] 33)) ⟨t, j, g, 1, (n : Int)⟩
    rw [World.size_alloc, World.size_alloc] at this
    exact this
  go_enter Tryz.func32, Tryz.ntmps32
  go_wp2
  (try simp only [Exit.inBlock, Exit.then])
  refine bodyPost_ret (results_S rfl _ _ (w.heap.size + 2) _ rfl hg) rfl ?_
  exact ⟨rfl, below_al3S _ _ _ _⟩
set_option maxHeartbeats 2000000 in
theorem l12Apply_9 (t : ByteArray) (j g : Bool) (c : Int) (n : Nat) (x : ByteArray) (w : World) (ht : t.size ≤ 2000) (hn : n ≤ t.size) (hx : x.size ≤ 20) :
    Calls Tryz.prog 32 #[stV ⟨t, j, g, c, n⟩, atV 9 x] w fun e w' => e = .returned (stV (app ⟨t, j, g, c, n⟩ 9 x)) ∧ Below w.heap.size w w' := by
  rw [app_9]
  have hg : BoxS (((w.alloc (.cells #[.string (t), .bool j, .bool g, .int .i64 2, .int .i64 (n : Int)] 25)).alloc (.cells #[.int .i64 9, .string x] 33)).alloc (.cells #[.string (t), .bool j, .bool g, .int .i64 2, .int .i64 (n : Int)] 25)) (w.heap.size + 2) ⟨t, j, g, 2, (n : Int)⟩ := by
    have := BoxS.new ((w.alloc (.cells (stC ⟨t, j, g, 2, (n : Int)⟩) 25)).alloc (.cells #[.int .i64 9, .string x] 33)) ⟨t, j, g, 2, (n : Int)⟩
    rw [World.size_alloc, World.size_alloc] at this
    exact this
  go_enter Tryz.func32, Tryz.ntmps32
  go_wp2
  (try simp only [Exit.inBlock, Exit.then])
  refine bodyPost_ret (results_S rfl _ _ (w.heap.size + 2) _ rfl hg) rfl ?_
  exact ⟨rfl, below_al3S _ _ _ _⟩
set_option maxHeartbeats 2000000 in
theorem l12Apply_10 (t : ByteArray) (j g : Bool) (c : Int) (n : Nat) (x : ByteArray) (w : World) (ht : t.size ≤ 2000) (hn : n ≤ t.size) (hx : x.size ≤ 20) :
    Calls Tryz.prog 32 #[stV ⟨t, j, g, c, n⟩, atV 10 x] w fun e w' => e = .returned (stV (app ⟨t, j, g, c, n⟩ 10 x)) ∧ Below w.heap.size w w' := by
  rw [app_10]
  show Calls _ _ _ _ fun e w' => e = .returned (stV ⟨t.extract 0 n ++ caseB (t.extract n t.size) 1, j, g, c, n⟩) ∧ _
  have hls : (t.extract n t.size).size ≤ 2000 := by rw [ByteArray.size_extract]; omega
  have cc := fun w => l12Case_any (t.extract n t.size) 1 w (by omega)
  have hy := caseB_size (t.extract n t.size) 1
  obtain ⟨y, hyy⟩ : ∃ y, y = caseB (t.extract n t.size) 1 := ⟨_, rfl⟩
  rw [← hyy] at cc hy ⊢
  have hys : y.size ≤ 2000 := by omega
  have CC := Lib.hid cc
  clear cc hyy hy hls
  obtain ⟨W, hW⟩ : ∃ W, W = ((w.alloc (.cells #[.string (t), .bool j, .bool g, .int .i64 c, .int .i64 (n : Int)] 25)).alloc (.cells #[.int .i64 10, .string x] 33)).alloc (.cells #[.string ⟨#[]⟩, .bool false, .bool false, .int .i64 0, .int .i64 0] 25) := ⟨_, rfl⟩
  have hsz : W.heap.size = w.heap.size + 3 := by rw [hW]; simp
  have S0 : Hid (BoxS W w.heap.size ⟨t, j, g, c, (n : Int)⟩) := by rw [hW]; exact ((BoxS.new w ⟨t, j, g, c, (n : Int)⟩).below (below_alS _ _)).below (below_alS _ _)
  have A0 : Hid (BoxT W (w.heap.size + 1) 10 x) := by rw [hW]; have := BoxT.new (w.alloc (.cells (stC ⟨t, j, g, c, (n : Int)⟩) 25)) 10 x; rw [World.size_alloc] at this; exact this.below (below_alS _ _)
  have R0 : Hid (BoxS W (w.heap.size + 2) St.zero) := by rw [hW]; have := BoxS.new ((w.alloc (.cells (stC ⟨t, j, g, c, (n : Int)⟩) 25)).alloc (.cells #[.int .i64 10, .string x] 33)) St.zero; rw [World.size_alloc, World.size_alloc] at this; exact this
  have B0 : Hid (Below w.heap.size w W) := by rw [hW]; exact below_al3S _ _ _ _
  have HW := Lib.hid hW
  clear hW
  go_enter Tryz.func32, Tryz.ntmps32
  go_wp2_with fail
  rw [← HW.out]
  obtain ⟨c0, c1, c2, c3, c4⟩ := S0.out.cells
  have k0 := cell_regrown c0
  have k4 := cell_regrown c4
  refine Mx.wp_region_mixed (Mx.ofL [(0, 0), (1, 1), (2, 0), (3, 1), (4, 0), (5, 0), (6, 1), (7, 0), (8, 1), (9, 0), (10, 2), (11, 0), (12, 0), (13, 3)] .done) (by kernel_rfl) (by kernel_rfl) ?_
  repeat ((first | refine Mx.mix0 rfl ?_ | refine Mx.mix1 rfl ?_); go_big_quiet_step (fail); refine wpQuiet_nil ?_)
  refine Mx.mix2 rfl ?_
  clear c0 c1 c2 c3 c4 k0 k4
  go_wp2_with fail
  refine (CC.out _).mono ?_
  rintro e w1 ⟨rfl, hb⟩
  have hbd : Below W.heap.size W w1 := below_stepS (below_drewS (Below.refl _ W)) hb
  have S1 := Lib.hid (S0.out.below hbd)
  have R1 := Lib.hid (R0.out.below hbd)
  have B1 := Lib.hid (below_stepS B0.out hbd)
  have HG := Lib.hid (regrown_of_below hbd)
  clear hb hbd S0 A0 R0 B0 HW CC
  go_wp2
  refine Mx.mid_normal (fun _ => HG.out) ?_
  repeat ((first | refine Mx.mix0 rfl ?_ | refine Mx.mix1 rfl ?_); go_big_quiet_step (fail); refine wpQuiet_nil ?_)
  refine Mx.mix3 rfl ?_
  obtain ⟨c0, c1, c2, c3, c4⟩ := S1.out.cells
  obtain ⟨f0, f1, f2, f3, f4⟩ := S1.out.frozen
  go_wp2
  refine Mx.mid_normal (fun q => by cases q) (Mx.mix_nil ?_)
  have SF := Lib.hid (S1.out.set0 (t.extract 0 n ++ y))
  have RF := Lib.hid (R1.out.other (g := w.heap.size) (o := 0) (v := .string (t.extract 0 n ++ y)) (by omega))
  go_wp2_with (with_reducible (show wpList _ _ _ (_ :: _) _ _); first | refine at_storeS rfl _ _ rfl (w.heap.size + 2) ⟨t.extract 0 n ++ y, j, g, c, (n : Int)⟩ St.zero rfl rfl RF.out ?_ | refine at_loadS rfl _ rfl (w.heap.size) ⟨t.extract 0 n ++ y, j, g, c, (n : Int)⟩ rfl SF.out ?_)
  (try simp only [Exit.inBlock, Exit.then])
  refine bodyPost_ret (results_S rfl _ _ (w.heap.size + 2) _ rfl (RF.out.set _)) rfl ?_
  exact ⟨rfl, below_setRow (B1.out.setCell (Nat.le_refl _) _) (by omega) _⟩
set_option maxHeartbeats 4000000 in
theorem l12Apply_any (t : ByteArray) (j g : Bool) (c : Int) (n : Nat) (k : Int) (x : ByteArray) (w : World) (ht : t.size ≤ 2000) (hn : n ≤ t.size) (hx : x.size ≤ 20) (hk : k = 1 ∨ k = 2 ∨ k = 3 ∨ k = 4 ∨ k = 5 ∨ k = 6 ∨ k = 7 ∨ k = 8 ∨ k = 9 ∨ k = 10) :
    Calls Tryz.prog 32 #[stV ⟨t, j, g, c, n⟩, atV k x] w fun e w' => e = .returned (stV (app ⟨t, j, g, c, n⟩ k x)) ∧ Below w.heap.size w w' := by
  rcases hk with rfl | rfl | rfl | rfl | rfl | rfl | rfl | rfl | rfl | rfl
  · exact l12Apply_1 t j g c n x w ht hn hx
  · exact l12Apply_2 t j g c n x w ht hn hx
  · exact l12Apply_3 t j g c n x w ht hn hx
  · exact l12Apply_4 t j g c n x w ht hn hx
  · exact l12Apply_5 t j g c n x w ht hn hx
  · exact l12Apply_6 t j g c n x w ht hn hx
  · exact l12Apply_7 t j g c n x w ht hn hx
  · exact l12Apply_8 t j g c n x w ht hn hx
  · exact l12Apply_9 t j g c n x w ht hn hx
  · exact l12Apply_10 t j g c n x w ht hn hx
end Go.Proofs.YtnpiphkglhcifaaGreatDoor
