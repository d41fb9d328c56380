/-
  CONTRACTS of chapter 12 of the program: inCase, spell, put, addSuffix, write, after, ApplyAtom, ApplyAtoms, Render.
-/
import Derived.Test.YtnpiphkglhcifaaGreatDoorFmI
import Derived.Test.YtnpiphkglhcifaaGreatDoorFmT
import Derived.Test.YtnpiphkglhcifaaGreatDoorShelf
namespace Go.Proofs.YtnpiphkglhcifaaGreatDoor
set_option maxRecDepth 100000
open Go.RowKit

theorem pr_ascii {t : ByteArray} (h : prB t = true) (i k : Nat) : ∀ (j : Nat) (b : UInt8), (t.extract i k).data.toList[j]? = some b → b.toNat < 128 := by
  intro j b hb
  have h2 := prB_extract h i k
  unfold prB at h2
  rw [List.all_eq_true] at h2
  have := h2 b (List.mem_of_getElem? hb)
  unfold prC at this
  simp only [Bool.and_eq_true, decide_eq_true_eq] at this
  omega
theorem case_up {t : ByteArray} (h : 0 < t.size) (how : Int) (f : UInt8 → UInt8) (hf : ∀ b, toCase how b = f b) : (⟨(((t.extract 0 1).data.toList).map f).toArray⟩ : ByteArray) ++ t.extract 1 t.size = caseB t how := by
  rw [caseB_eq h how, hf]
  congr 1
  apply by8_inj
  show ((t.extract 0 1).data.toList).map f = [f t[0]]
  have e : (t.extract 0 1).data.toList = [t[0]] := by
    have e1 : by8 (t.extract 0 1) = ((by8 t).drop 0).take (1 - 0) := by8_extract t 0 1
    have h0 : 0 < (by8 t).length := by rw [by8_len]; exact h
    have e2 : (by8 t)[0]'h0 = t[0] := by show t.data.toList[0] = t.data[0]; rw [Array.getElem_toList]
    show by8 (t.extract 0 1) = _
    rw [e1, List.drop_zero, List.take_one, List.head?_eq_getElem?, List.getElem?_eq_getElem h0, e2]
    rfl
  rw [e]
  rfl
theorem inCase_any (t : ByteArray) (how : Int) (w : World) (ht : t.size ≤ 1048600) (hp : prB t = true) :
    Calls Tryz.prog 43 #[.string t, .int .i64 how] w fun e w' => e = .returned (.string (caseB t how)) ∧ Below w.heap.size w w' := by
  by_cases h0 : t.size = 0
  · rw [caseB_nil h0]
    obtain rfl : t = ⟨#[]⟩ := by
      apply by8_inj
      exact List.length_eq_zero_iff.1 (by rw [by8_len]; exact h0)
    have CU := Lib.hid (fun w => Tryz.strings_ToUpper_ascii ⟨#[]⟩ w (by decide) (fun j b h => by simp at h))
    have CL := Lib.hid (fun w => Tryz.strings_ToLower_ascii ⟨#[]⟩ w (by decide) (fun j b h => by simp at h))
    have hmin0 : min (1 : Int) 0 = 0 := by decide
    by_cases h1 : how = 1
    · subst h1
      go_enter Tryz.func43, Tryz.ntmps43
      go_wp2
      go_quiet (fail)
      go_wp2_with fail
      refine (CU.out _).mono ?_
      rintro e w1 ⟨rfl, hb⟩
      go_wp2
      go_ret
      exact ⟨rfl, below_stepS (below_drewN (Below.refl _ w) _) hb⟩
    · by_cases h2 : how = 2
      · subst h2
        go_enter Tryz.func43, Tryz.ntmps43
        go_wp2
        go_quiet (fail)
        go_wp2_with fail
        refine (CL.out _).mono ?_
        rintro e w1 ⟨rfl, hb⟩
        go_wp2
        go_ret
        exact ⟨rfl, below_stepS (below_drewN (Below.refl _ w) _) hb⟩
      · have h1' : (how == 1) = false := by rw [beq_eq_false_iff_ne]; exact h1
        have h2' : (how == 2) = false := by rw [beq_eq_false_iff_ne]; exact h2
        go_enter Tryz.func43, Tryz.ntmps43
        go_wp2
        go_quiet (fail)
        go_wp2
        go_ret
        exact ⟨rfl, below_drewN (Below.refl _ w) _⟩
  · have hpos : 0 < t.size := by omega
    have CU := Lib.hid (fun w => Tryz.strings_ToUpper_ascii (t.extract 0 1) w (by rw [ByteArray.size_extract]; omega) (pr_ascii hp 0 1))
    have CL := Lib.hid (fun w => Tryz.strings_ToLower_ascii (t.extract 0 1) w (by rw [ByteArray.size_extract]; omega) (pr_ascii hp 0 1))
    have hmin : min (1 : Int) t.size = 1 := by omega
    by_cases h1 : how = 1
    · subst h1
      have hU := case_up hpos 1 Lib.upperB (fun b => by unfold toCase; rw [if_pos rfl])
      have cu := fun w => Tryz.strings_ToUpper_ascii (t.extract 0 1) w (by rw [ByteArray.size_extract]; omega) (pr_ascii hp 0 1)
      have hF : (⟨(Lib.toUpperA (t.extract 0 1).data.toList).toArray⟩ : ByteArray).size ≤ 1 := by
        show (List.toArray _).size ≤ 1
        rw [List.size_toArray]
        unfold Lib.toUpperA
        rw [List.length_map]
        show (by8 (t.extract 0 1)).length ≤ 1
        rw [by8_len, ByteArray.size_extract]; omega
      change (⟨(Lib.toUpperA (t.extract 0 1).data.toList).toArray⟩ : ByteArray) ++ t.extract 1 t.size = caseB t 1 at hU
      obtain ⟨F, hFF⟩ : ∃ F : ByteArray, F = ⟨(Lib.toUpperA (t.extract 0 1).data.toList).toArray⟩ := ⟨_, rfl⟩
      rw [← hFF] at hU cu hF
      have HU := Lib.hid hU
      clear CL hp CU hU hFF
      have CU := Lib.hid cu
      clear cu
      go_enter Tryz.func43, Tryz.ntmps43
      go_wp2
      go_quiet (fail)
      go_wp2_with fail
      refine (CU.out _).mono ?_
      rintro e w1 ⟨rfl, hb⟩
      go_wp2
      go_ret
      exact ⟨ret_str HU.out, below_stepS (below_drewN (Below.refl _ w) _) hb⟩
    · by_cases h2 : how = 2
      · subst h2
        have hU := case_up hpos 2 Lib.lowerB (fun b => by unfold toCase; rw [if_neg (by decide), if_pos rfl])
        have cu := fun w => Tryz.strings_ToLower_ascii (t.extract 0 1) w (by rw [ByteArray.size_extract]; omega) (pr_ascii hp 0 1)
        have hF : (⟨(Lib.toLowerA (t.extract 0 1).data.toList).toArray⟩ : ByteArray).size ≤ 1 := by
          show (List.toArray _).size ≤ 1
          rw [List.size_toArray]
          unfold Lib.toLowerA
          rw [List.length_map]
          show (by8 (t.extract 0 1)).length ≤ 1
          rw [by8_len, ByteArray.size_extract]; omega
        change (⟨(Lib.toLowerA (t.extract 0 1).data.toList).toArray⟩ : ByteArray) ++ t.extract 1 t.size = caseB t 2 at hU
        obtain ⟨F, hFF⟩ : ∃ F : ByteArray, F = ⟨(Lib.toLowerA (t.extract 0 1).data.toList).toArray⟩ := ⟨_, rfl⟩
        rw [← hFF] at hU cu hF
        have HU := Lib.hid hU
        clear CU hp CL hU hFF
        have CL := Lib.hid cu
        clear cu
        go_enter Tryz.func43, Tryz.ntmps43
        go_wp2
        go_quiet (fail)
        go_wp2_with fail
        refine (CL.out _).mono ?_
        rintro e w1 ⟨rfl, hb⟩
        go_wp2
        go_ret
        exact ⟨ret_str HU.out, below_stepS (below_drewN (Below.refl _ w) _) hb⟩
      · have h1' : (how == 1) = false := by rw [beq_eq_false_iff_ne]; exact h1
        have h2' : (how == 2) = false := by rw [beq_eq_false_iff_ne]; exact h2
        have HU := Lib.hid (case_up hpos how id (fun b => by unfold toCase; rw [if_neg h1, if_neg h2]; rfl))
        have HE := Lib.hid (ext_app t (n := 1) (by omega))
        clear CU CL hp h1 h2
        go_enter Tryz.func43, Tryz.ntmps43
        go_wp2
        go_quiet (fail)
        go_wp2
        go_ret
        refine ⟨ret_str ?_, below_drewN (Below.refl _ w) _⟩
        show t = _
        rw [← HU.out, List.map_id]
        exact HE.out.symm
theorem spell_any (t : ByteArray) (j g : Bool) (c p : Int) (x : ByteArray) (w : World) (ht : t.size ≤ 1048600) (hx : x.size ≤ 1048600) (hp : prB x = true) :
    Calls Tryz.prog 57 #[stV ⟨t, j, g, c, p⟩, .string x] w fun e w' => e = .returned (stV ⟨t ++ caseB x c, j, g, 0, p⟩) ∧ Below w.heap.size w w' := by
  have cc := fun w => inCase_any x c w hx hp
  have hy := caseB_size x c
  obtain ⟨y, hyy⟩ : ∃ y, y = caseB x c := ⟨_, rfl⟩
  rw [← hyy] at cc hy ⊢
  obtain ⟨W, hW⟩ : ∃ W, W = (w.alloc (.cells #[.string t, .bool j, .bool g, .int .i64 c, .int .i64 p] 25)).alloc (.cells #[.string ⟨#[]⟩, .bool false, .bool false, .int .i64 0, .int .i64 0] 25) := ⟨_, rfl⟩
  have S0 : Hid (BoxS W w.heap.size ⟨t, j, g, c, p⟩) := by rw [hW]; exact (BoxS.new w ⟨t, j, g, c, p⟩).below (below_alS _ _)
  have R0 : Hid (BoxS W (w.heap.size + 1) St.zero) := by rw [hW]; have := BoxS.new (w.alloc (.cells (stC ⟨t, j, g, c, p⟩) 25)) St.zero; rw [World.size_alloc] at this; exact this
  have B0 : Hid (Below w.heap.size w W) := by rw [hW]; exact below_al2S _ _ _
  have CC := Lib.hid cc
  have HW := Lib.hid hW
  clear cc hyy hW
  go_enter Tryz.func57, Tryz.ntmps57
  go_wp2_with fail
  rw [← HW.out]
  obtain ⟨c0, c1, c2, c3, c4⟩ := S0.out.cells
  have k0 := cell_regrown c0
  have k3 := cell_regrown c3
  refine Mx.wp_region_mixed (Mx.ofL [(0, 0), (1, 1), (2, 0), (3, 0), (4, 1), (5, 2), (6, 0), (7, 0), (8, 3)] .done) (by kernel_rfl) (by kernel_rfl) ?_
  repeat ((first | refine Mx.mix0 rfl ?_ | refine Mx.mix1 rfl ?_); go_big_quiet_step (fail); refine wpQuiet_nil ?_)
  refine Mx.mix2 rfl ?_
  clear c0 c1 c2 c3 c4 k0 k3
  go_wp2_with fail
  refine (CC.out _).mono ?_
  rintro e w1 ⟨rfl, hb⟩
  have hbd : Below W.heap.size W w1 := below_stepS (below_drewS (Below.refl _ W)) hb
  have S1 := Lib.hid (S0.out.below hbd)
  have R1 := Lib.hid (R0.out.below hbd)
  have B1 := Lib.hid (below_stepS B0.out hbd)
  have HG := Lib.hid (regrown_of_below hbd)
  clear hb hbd S0 R0 B0 HW CC
  go_wp2
  refine Mx.mid_normal (fun _ => HG.out) ?_
  repeat ((first | refine Mx.mix0 rfl ?_ | refine Mx.mix1 rfl ?_); go_big_quiet_step (fail); refine wpQuiet_nil ?_)
  refine Mx.mix3 rfl ?_
  obtain ⟨c0, c1, c2, c3, c4⟩ := S1.out.cells
  obtain ⟨f0, f1, f2, f3, f4⟩ := S1.out.frozen
  go_wp2
  refine Mx.mid_normal (fun q => by cases q) (Mx.mix_nil ?_)
  have S2 := Lib.hid ((S1.out.set0 (t ++ y)).set3 0)
  have R2 := Lib.hid ((R1.out.other (g := w.heap.size) (o := 0) (v := .string (t ++ y)) (by omega)).other (g := w.heap.size) (o := 3) (v := .int .i64 0) (by omega))
  go_wp2_with (with_reducible (show wpList _ _ _ (_ :: _) _ _); first | refine at_storeS rfl _ _ rfl (w.heap.size + 1) ⟨t ++ y, j, g, 0, p⟩ St.zero rfl rfl R2.out ?_ | refine at_loadS rfl _ rfl w.heap.size ⟨t ++ y, j, g, 0, p⟩ rfl S2.out ?_)
  (try simp only [Exit.inBlock, Exit.then])
  refine bodyPost_ret (results_S rfl _ _ (w.heap.size + 1) _ rfl (R2.out.set _)) rfl ?_
  exact ⟨rfl, below_setRow ((B1.out.setCell (Nat.le_refl _) _).setCell (Nat.le_refl _) _) (by omega) _⟩
end Go.Proofs.YtnpiphkglhcifaaGreatDoor
