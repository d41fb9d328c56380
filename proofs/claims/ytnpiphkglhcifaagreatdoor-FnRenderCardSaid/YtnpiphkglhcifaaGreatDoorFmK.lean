/-
  CONTRACTS of chapter 12 of the program: put, addSuffix, write, after. Written by gen_fmt.py.
-/
import Derived.Test.YtnpiphkglhcifaaGreatDoorFmJ
namespace Go.Proofs.YtnpiphkglhcifaaGreatDoor
set_option maxRecDepth 100000
open Go.RowKit
set_option linter.unusedVariables false

set_option maxHeartbeats 1000000 in
theorem put_any (t : ByteArray) (j g : Bool) (c p : Int) (x : ByteArray) (w : World) (ht : t.size ≤ 1048500) (hx : x.size ≤ 1048600) (hp : prB x = true) :
    Calls Tryz.prog 56 #[stV ⟨t, j, g, c, p⟩, .string x] w fun e w' => e = .returned (stV (putS ⟨t, j, g, c, p⟩ x)) ∧ Below w.heap.size w w' := by
  have hput : putS ⟨t, j, g, c, p⟩ x = ⟨baseT ⟨t, j, g, c, p⟩ ++ caseB x c, j, g, 0, (baseT ⟨t, j, g, c, p⟩).size⟩ := rfl
  rw [hput]
  cases j
  · obtain ⟨b, hb⟩ : ∃ b, t ++ (⟨#[32]⟩ : ByteArray) = b := ⟨_, rfl⟩
    have hbs : b.size = t.size + 1 := by rw [← hb, ByteArray.size_append]; rfl
    have hbi : (b.size : Int) = (t.size : Int) + 1 := by omega
    rw [show baseT ⟨t, false, g, c, p⟩ = b from hb, hbi]
    have cs := fun w => spell_any b false g c ((t.size : Int) + 1) x w (by omega) hx hp
    obtain ⟨y, hyy⟩ : ∃ y, y = b ++ caseB x c := ⟨_, rfl⟩
    rw [← hyy] at cs ⊢
    have CS := Lib.hid cs
    clear cs hyy
    obtain ⟨W, hW⟩ : ∃ W, W = (w.alloc (.cells #[.string (b), .bool false, .bool g, .int .i64 c, .int .i64 ((t.size : Int) + 1)] 25)).alloc (.cells #[.string ⟨#[]⟩, .bool false, .bool false, .int .i64 0, .int .i64 0] 25) := ⟨_, rfl⟩
    have S0 : Hid (BoxS W w.heap.size ⟨b, false, g, c, ((t.size : Int) + 1)⟩) := by rw [hW]; exact (BoxS.new w ⟨b, false, g, c, ((t.size : Int) + 1)⟩).below (below_alS _ _)
    have R0 : Hid (BoxS W (w.heap.size + 1) St.zero) := by rw [hW]; have := BoxS.new (w.alloc (.cells (stC ⟨b, false, g, c, ((t.size : Int) + 1)⟩) 25)) St.zero; rw [World.size_alloc] at this; exact this
    have B0 : Hid (Below w.heap.size w W) := by rw [hW]; exact below_al2S _ _ _
    have HW := Lib.hid hW
    clear hW
    go_enter Tryz.func56, Tryz.ntmps56
    go_wp2_with fail
    rw [← HW.out]
    refine (CS.out _).mono ?_
    rintro e w1 ⟨rfl, hb⟩
    have R1 := Lib.hid (R0.out.below hb)
    have B1 := Lib.hid (below_stepS B0.out hb)
    clear hb
    go_wp2_with (with_reducible (show wpList _ _ _ (_ :: _) _ _); first | refine at_storeS rfl _ _ rfl (w.heap.size + 1) ⟨y, false, g, 0, ((t.size : Int) + 1)⟩ St.zero rfl rfl R1.out ?_)
    (try simp only [Exit.inBlock, Exit.then])
    refine bodyPost_ret (results_S rfl _ _ (w.heap.size + 1) _ rfl (R1.out.set _)) rfl ?_
    exact ⟨rfl, below_setRow B1.out (by omega) _⟩
  · rw [show baseT ⟨t, true, g, c, p⟩ = t from rfl]
    have cs := fun w => spell_any t true g c (t.size : Int) x w (by omega) hx hp
    obtain ⟨y, hyy⟩ : ∃ y, y = t ++ caseB x c := ⟨_, rfl⟩
    rw [← hyy] at cs ⊢
    have CS := Lib.hid cs
    clear cs hyy
    obtain ⟨W, hW⟩ : ∃ W, W = (w.alloc (.cells #[.string (t), .bool true, .bool g, .int .i64 c, .int .i64 (t.size : Int)] 25)).alloc (.cells #[.string ⟨#[]⟩, .bool false, .bool false, .int .i64 0, .int .i64 0] 25) := ⟨_, rfl⟩
    have S0 : Hid (BoxS W w.heap.size ⟨t, true, g, c, (t.size : Int)⟩) := by rw [hW]; exact (BoxS.new w ⟨t, true, g, c, (t.size : Int)⟩).below (below_alS _ _)
    have R0 : Hid (BoxS W (w.heap.size + 1) St.zero) := by rw [hW]; have := BoxS.new (w.alloc (.cells (stC ⟨t, true, g, c, (t.size : Int)⟩) 25)) St.zero; rw [World.size_alloc] at this; exact this
    have B0 : Hid (Below w.heap.size w W) := by rw [hW]; exact below_al2S _ _ _
    have HW := Lib.hid hW
    clear hW
    go_enter Tryz.func56, Tryz.ntmps56
    go_wp2_with fail
    rw [← HW.out]
    refine (CS.out _).mono ?_
    rintro e w1 ⟨rfl, hb⟩
    have R1 := Lib.hid (R0.out.below hb)
    have B1 := Lib.hid (below_stepS B0.out hb)
    clear hb
    go_wp2_with (with_reducible (show wpList _ _ _ (_ :: _) _ _); first | refine at_storeS rfl _ _ rfl (w.heap.size + 1) ⟨y, true, g, 0, (t.size : Int)⟩ St.zero rfl rfl R1.out ?_)
    (try simp only [Exit.inBlock, Exit.then])
    refine bodyPost_ret (results_S rfl _ _ (w.heap.size + 1) _ rfl (R1.out.set _)) rfl ?_
    exact ⟨rfl, below_setRow B1.out (by omega) _⟩
set_option maxHeartbeats 1000000 in
theorem addSuffix_any (t : ByteArray) (j g : Bool) (c : Int) (n : Nat) (x : ByteArray) (w : World) (ht : t.size ≤ 2000) (hn : n ≤ t.size) (hx : x.size ≤ 1048600) :
    Calls Tryz.prog 58 #[stV ⟨t, j, g, c, n⟩, .string x] w fun e w' => e = .returned (stV ⟨t.extract 0 n ++ sfx (t.extract n t.size) x, j, g, c, n⟩) ∧ Below w.heap.size w w' := by
  have CA := Lib.hid (fun w => atWord_any t j g c n w (by omega) hn)
  have cj := fun w => JoinSuffix_any (t.extract n t.size) x w (by rw [ByteArray.size_extract]; omega) (by omega)
  have hls : (t.extract n t.size).size ≤ 2000 := by rw [ByteArray.size_extract]; omega
  unfold joinE at cj
  unfold sfx sfxOk
  obtain ⟨o, ho⟩ : ∃ o, o = (Pl.wordB (t.extract n t.size).data.toList && (Pl.wordB x.data.toList && decide ((joinB (t.extract n t.size) x).size ≤ 24))) := ⟨_, rfl⟩
  obtain ⟨J, hJ⟩ : ∃ J, J = joinB (t.extract n t.size) x := ⟨_, rfl⟩
  have hJs : o = true → J.size ≤ 24 := fun h => by
    rw [h] at ho
    simp only [Bool.true_eq, Bool.and_eq_true, decide_eq_true_eq] at ho
    rw [hJ]; exact ho.2.2
  rw [← ho, ← hJ] at cj ⊢
  clear ho hJ
  obtain ⟨W, hW⟩ : ∃ W, W = (w.alloc (.cells #[.string (t), .bool j, .bool g, .int .i64 c, .int .i64 (n : Int)] 25)).alloc (.cells #[.string ⟨#[]⟩, .bool false, .bool false, .int .i64 0, .int .i64 0] 25) := ⟨_, rfl⟩
  have S0 : Hid (BoxS W w.heap.size ⟨t, j, g, c, (n : Int)⟩) := by rw [hW]; exact (BoxS.new w ⟨t, j, g, c, (n : Int)⟩).below (below_alS _ _)
  have R0 : Hid (BoxS W (w.heap.size + 1) St.zero) := by rw [hW]; have := BoxS.new (w.alloc (.cells (stC ⟨t, j, g, c, (n : Int)⟩) 25)) St.zero; rw [World.size_alloc] at this; exact this
  have B0 : Hid (Below w.heap.size w W) := by rw [hW]; exact below_al2S _ _ _
  have HW := Lib.hid hW
  clear hW
  cases o
  · rw [if_neg (by decide)] at cj
    rw [if_neg (by decide)]
    have CJ := Lib.hid cj
    clear cj hJs
    go_enter Tryz.func58, Tryz.ntmps58
    go_wp2_with fail
    rw [← HW.out]
    refine (CA.out _).mono ?_
    rintro e w1 ⟨rfl, hb⟩
    have S1 := Lib.hid (S0.out.below hb)
    have R1 := Lib.hid (R0.out.below hb)
    have B1 := Lib.hid (below_stepS B0.out hb)
    clear hb S0 R0 B0 HW CA
    go_wp2_with fail
    refine (CJ.out _).mono ?_
    rintro e w2 ⟨rfl, hb⟩
    have S2 := Lib.hid (S1.out.below hb)
    have R2 := Lib.hid (R1.out.below hb)
    have B2 := Lib.hid (below_stepS B1.out hb)
    clear hb S1 R1 B1 CJ
    obtain ⟨x0, x1, x2, x3, x4⟩ := S2.out.cells
    obtain ⟨f0, f1, f2, f3, f4⟩ := S2.out.frozen
    have SF := Lib.hid (S2.out.set0 (t.extract 0 n ++ (t.extract n t.size ++ x)))
    have RF := Lib.hid (R2.out.other (g := w.heap.size) (o := 0) (v := .string (t.extract 0 n ++ (t.extract n t.size ++ x))) (by omega))
    go_wp2_with (with_reducible (show wpList _ _ _ (_ :: _) _ _); first | refine at_storeS rfl _ _ rfl (w.heap.size + 1) ⟨t.extract 0 n ++ (t.extract n t.size ++ x), j, g, c, (n : Int)⟩ St.zero rfl rfl RF.out ?_ | refine at_loadS rfl _ rfl (w.heap.size) ⟨t.extract 0 n ++ (t.extract n t.size ++ x), j, g, c, (n : Int)⟩ rfl SF.out ?_)
    (try simp only [Exit.inBlock, Exit.then])
    refine bodyPost_ret (results_S rfl _ _ (w.heap.size + 1) _ rfl (RF.out.set _)) rfl ?_
    exact ⟨rfl, below_setRow (B2.out.setCell (Nat.le_refl _) _) (by omega) _⟩
  · have hJ := hJs rfl
    rw [if_pos rfl] at cj
    rw [if_pos rfl]
    have CJ := Lib.hid cj
    clear cj hJs
    go_enter Tryz.func58, Tryz.ntmps58
    go_wp2_with fail
    rw [← HW.out]
    refine (CA.out _).mono ?_
    rintro e w1 ⟨rfl, hb⟩
    have S1 := Lib.hid (S0.out.below hb)
    have R1 := Lib.hid (R0.out.below hb)
    have B1 := Lib.hid (below_stepS B0.out hb)
    clear hb S0 R0 B0 HW CA
    go_wp2_with fail
    refine (CJ.out _).mono ?_
    rintro e w2 ⟨rfl, hb⟩
    have S2 := Lib.hid (S1.out.below hb)
    have R2 := Lib.hid (R1.out.below hb)
    have B2 := Lib.hid (below_stepS B1.out hb)
    clear hb S1 R1 B1 CJ
    obtain ⟨x0, x1, x2, x3, x4⟩ := S2.out.cells
    obtain ⟨f0, f1, f2, f3, f4⟩ := S2.out.frozen
    have SF := Lib.hid (S2.out.set0 (t.extract 0 n ++ J))
    have RF := Lib.hid (R2.out.other (g := w.heap.size) (o := 0) (v := .string (t.extract 0 n ++ J)) (by omega))
    go_wp2_with (with_reducible (show wpList _ _ _ (_ :: _) _ _); first | refine at_storeS rfl _ _ rfl (w.heap.size + 1) ⟨t.extract 0 n ++ J, j, g, c, (n : Int)⟩ St.zero rfl rfl RF.out ?_ | refine at_loadS rfl _ rfl (w.heap.size) ⟨t.extract 0 n ++ J, j, g, c, (n : Int)⟩ rfl SF.out ?_)
    (try simp only [Exit.inBlock, Exit.then])
    refine bodyPost_ret (results_S rfl _ _ (w.heap.size + 1) _ rfl (RF.out.set _)) rfl ?_
    exact ⟨rfl, below_setRow (B2.out.setCell (Nat.le_refl _) _) (by omega) _⟩
/-- What write makes of a state: what app does, but for Joined and Glued. -/
def wrS (s : St) (k : Int) (x : ByteArray) : St :=
  if k = 1 ∨ k = 3 then putS s x
  else if k = 5 then (if s.g = true then ⟨s.t ++ caseB x s.c, s.j, s.g, 0, s.p⟩ else putS s x)
  else if k = 2 then ⟨headT s ++ sfx (lastW s) x, s.j, s.g, s.c, s.p⟩
  else if k = 6 then ⟨s.t ++ x, s.j, s.g, 1, s.p⟩
  else ⟨s.t ++ x, s.j, s.g, s.c, s.p⟩
set_option maxHeartbeats 4000000 in
theorem write_any (t : ByteArray) (j g : Bool) (c : Int) (n : Nat) (k : Int) (x : ByteArray) (w : World) (ht : t.size ≤ 2000) (hn : n ≤ t.size) (hx : x.size ≤ 20) (hp : prB x = true) (hk : k = 1 ∨ k = 2 ∨ k = 3 ∨ k = 4 ∨ k = 5 ∨ k = 6 ∨ k = 7) :
    Calls Tryz.prog 44 #[stV ⟨t, j, g, c, n⟩, atV k x] w fun e w' => e = .returned (stV (wrS ⟨t, j, g, c, n⟩ k x)) ∧ Below w.heap.size w w' := by
  rcases hk with rfl | rfl | rfl | rfl | rfl | rfl | rfl
  · show Calls _ _ _ _ fun e w' => e = .returned (stV (putS ⟨t, j, g, c, n⟩ x)) ∧ _
    have cp := fun w => put_any t j g c n x w (by omega) (by omega) hp
    obtain ⟨q, hq⟩ : ∃ q : St, q = putS ⟨t, j, g, c, n⟩ x := ⟨_, rfl⟩
    rw [← hq] at cp ⊢
    obtain ⟨tq, jq, gq, cq, pq⟩ := q
    have CP := Lib.hid cp
    clear cp hq
    obtain ⟨W, hW⟩ : ∃ W, W = ((w.alloc (.cells #[.string (t), .bool j, .bool g, .int .i64 c, .int .i64 (n : Int)] 25)).alloc (.cells #[.int .i64 1, .string x] 33)).alloc (.cells #[.string ⟨#[]⟩, .bool false, .bool false, .int .i64 0, .int .i64 0] 25) := ⟨_, rfl⟩
    have hsz : W.heap.size = w.heap.size + 3 := by rw [hW]; simp
    have S0 : Hid (BoxS W w.heap.size ⟨t, j, g, c, (n : Int)⟩) := by rw [hW]; exact ((BoxS.new w ⟨t, j, g, c, (n : Int)⟩).below (below_alS _ _)).below (below_alS _ _)
    have A0 : Hid (BoxT W (w.heap.size + 1) 1 x) := by rw [hW]; have := BoxT.new (w.alloc (.cells (stC ⟨t, j, g, c, (n : Int)⟩) 25)) 1 x; rw [World.size_alloc] at this; exact this.below (below_alS _ _)
    have R0 : Hid (BoxS W (w.heap.size + 2) St.zero) := by rw [hW]; have := BoxS.new ((w.alloc (.cells (stC ⟨t, j, g, c, (n : Int)⟩) 25)).alloc (.cells #[.int .i64 1, .string x] 33)) St.zero; rw [World.size_alloc, World.size_alloc] at this; exact this
    have B0 : Hid (Below w.heap.size w W) := by rw [hW]; exact below_al3S _ _ _ _
    have HW := Lib.hid hW
    clear hW
    go_enter Tryz.func44, Tryz.ntmps44
    go_wp2_with fail
    rw [← HW.out]
    refine (CP.out _).mono ?_
    rintro e w1 ⟨rfl, hb⟩
    have R1 := Lib.hid (R0.out.below hb)
    have B1 := Lib.hid (below_stepS B0.out hb)
    clear hb S0 A0 R0 B0 HW CP
    go_wp2_with (with_reducible (show wpList _ _ _ (_ :: _) _ _); first | refine at_storeS rfl _ _ rfl (w.heap.size + 2) ⟨tq, jq, gq, cq, pq⟩ St.zero rfl rfl R1.out ?_)
    (try simp only [Exit.inBlock, Exit.then])
    refine bodyPost_ret (results_S rfl _ _ (w.heap.size + 2) _ rfl (R1.out.set _)) rfl ?_
    exact ⟨rfl, below_setRow B1.out (by omega) _⟩
  · show Calls _ _ _ _ fun e w' => e = .returned (stV (⟨t.extract 0 n ++ sfx (t.extract n t.size) x, j, g, c, n⟩)) ∧ _
    have cp := fun w => addSuffix_any t j g c n x w ht hn (by omega)
    obtain ⟨q, hq⟩ : ∃ q : St, q = ⟨t.extract 0 n ++ sfx (t.extract n t.size) x, j, g, c, n⟩ := ⟨_, rfl⟩
    rw [← hq] at cp ⊢
    obtain ⟨tq, jq, gq, cq, pq⟩ := q
    have CP := Lib.hid cp
    clear cp hq
    obtain ⟨W, hW⟩ : ∃ W, W = ((w.alloc (.cells #[.string (t), .bool j, .bool g, .int .i64 c, .int .i64 (n : Int)] 25)).alloc (.cells #[.int .i64 2, .string x] 33)).alloc (.cells #[.string ⟨#[]⟩, .bool false, .bool false, .int .i64 0, .int .i64 0] 25) := ⟨_, rfl⟩
    have hsz : W.heap.size = w.heap.size + 3 := by rw [hW]; simp
    have S0 : Hid (BoxS W w.heap.size ⟨t, j, g, c, (n : Int)⟩) := by rw [hW]; exact ((BoxS.new w ⟨t, j, g, c, (n : Int)⟩).below (below_alS _ _)).below (below_alS _ _)
    have A0 : Hid (BoxT W (w.heap.size + 1) 2 x) := by rw [hW]; have := BoxT.new (w.alloc (.cells (stC ⟨t, j, g, c, (n : Int)⟩) 25)) 2 x; rw [World.size_alloc] at this; exact this.below (below_alS _ _)
    have R0 : Hid (BoxS W (w.heap.size + 2) St.zero) := by rw [hW]; have := BoxS.new ((w.alloc (.cells (stC ⟨t, j, g, c, (n : Int)⟩) 25)).alloc (.cells #[.int .i64 2, .string x] 33)) St.zero; rw [World.size_alloc, World.size_alloc] at this; exact this
    have B0 : Hid (Below w.heap.size w W) := by rw [hW]; exact below_al3S _ _ _ _
    have HW := Lib.hid hW
    clear hW
    go_enter Tryz.func44, Tryz.ntmps44
    go_wp2_with fail
    rw [← HW.out]
    refine (CP.out _).mono ?_
    rintro e w1 ⟨rfl, hb⟩
    have R1 := Lib.hid (R0.out.below hb)
    have B1 := Lib.hid (below_stepS B0.out hb)
    clear hb S0 A0 R0 B0 HW CP
    go_wp2_with (with_reducible (show wpList _ _ _ (_ :: _) _ _); first | refine at_storeS rfl _ _ rfl (w.heap.size + 2) ⟨tq, jq, gq, cq, pq⟩ St.zero rfl rfl R1.out ?_)
    (try simp only [Exit.inBlock, Exit.then])
    refine bodyPost_ret (results_S rfl _ _ (w.heap.size + 2) _ rfl (R1.out.set _)) rfl ?_
    exact ⟨rfl, below_setRow B1.out (by omega) _⟩
  · show Calls _ _ _ _ fun e w' => e = .returned (stV (putS ⟨t, j, g, c, n⟩ x)) ∧ _
    have cp := fun w => put_any t j g c n x w (by omega) (by omega) hp
    obtain ⟨q, hq⟩ : ∃ q : St, q = putS ⟨t, j, g, c, n⟩ x := ⟨_, rfl⟩
    rw [← hq] at cp ⊢
    obtain ⟨tq, jq, gq, cq, pq⟩ := q
    have CP := Lib.hid cp
    clear cp hq
    obtain ⟨W, hW⟩ : ∃ W, W = ((w.alloc (.cells #[.string (t), .bool j, .bool g, .int .i64 c, .int .i64 (n : Int)] 25)).alloc (.cells #[.int .i64 3, .string x] 33)).alloc (.cells #[.string ⟨#[]⟩, .bool false, .bool false, .int .i64 0, .int .i64 0] 25) := ⟨_, rfl⟩
    have hsz : W.heap.size = w.heap.size + 3 := by rw [hW]; simp
    have S0 : Hid (BoxS W w.heap.size ⟨t, j, g, c, (n : Int)⟩) := by rw [hW]; exact ((BoxS.new w ⟨t, j, g, c, (n : Int)⟩).below (below_alS _ _)).below (below_alS _ _)
    have A0 : Hid (BoxT W (w.heap.size + 1) 3 x) := by rw [hW]; have := BoxT.new (w.alloc (.cells (stC ⟨t, j, g, c, (n : Int)⟩) 25)) 3 x; rw [World.size_alloc] at this; exact this.below (below_alS _ _)
    have R0 : Hid (BoxS W (w.heap.size + 2) St.zero) := by rw [hW]; have := BoxS.new ((w.alloc (.cells (stC ⟨t, j, g, c, (n : Int)⟩) 25)).alloc (.cells #[.int .i64 3, .string x] 33)) St.zero; rw [World.size_alloc, World.size_alloc] at this; exact this
    have B0 : Hid (Below w.heap.size w W) := by rw [hW]; exact below_al3S _ _ _ _
    have HW := Lib.hid hW
    clear hW
    go_enter Tryz.func44, Tryz.ntmps44
    go_wp2_with fail
    rw [← HW.out]
    refine (CP.out _).mono ?_
    rintro e w1 ⟨rfl, hb⟩
    have R1 := Lib.hid (R0.out.below hb)
    have B1 := Lib.hid (below_stepS B0.out hb)
    clear hb S0 A0 R0 B0 HW CP
    go_wp2_with (with_reducible (show wpList _ _ _ (_ :: _) _ _); first | refine at_storeS rfl _ _ rfl (w.heap.size + 2) ⟨tq, jq, gq, cq, pq⟩ St.zero rfl rfl R1.out ?_)
    (try simp only [Exit.inBlock, Exit.then])
    refine bodyPost_ret (results_S rfl _ _ (w.heap.size + 2) _ rfl (R1.out.set _)) rfl ?_
    exact ⟨rfl, below_setRow B1.out (by omega) _⟩
  · show Calls _ _ _ _ fun e w' => e = .returned (stV ⟨t ++ x, j, g, c, n⟩) ∧ _
    have hg : BoxS (((w.alloc (.cells #[.string (t ++ x), .bool j, .bool g, .int .i64 c, .int .i64 (n : Int)] 25)).alloc (.cells #[.int .i64 4, .string x] 33)).alloc (.cells #[.string (t ++ x), .bool j, .bool g, .int .i64 c, .int .i64 (n : Int)] 25)) (w.heap.size + 2) ⟨t ++ x, j, g, c, (n : Int)⟩ := by
      have := BoxS.new ((w.alloc (.cells (stC ⟨t ++ x, j, g, c, (n : Int)⟩) 25)).alloc (.cells #[.int .i64 4, .string x] 33)) ⟨t ++ x, j, g, c, (n : Int)⟩
      rw [World.size_alloc, World.size_alloc] at this
      exact this
    go_enter Tryz.func44, Tryz.ntmps44
    go_wp2
    (try simp only [Exit.inBlock, Exit.then])
    refine bodyPost_ret (results_S rfl _ _ (w.heap.size + 2) _ rfl hg) rfl ?_
    exact ⟨rfl, below_al3S _ _ _ _⟩
  · cases g
    · show Calls _ _ _ _ fun e w' => e = .returned (stV (putS ⟨t, j, false, c, n⟩ x)) ∧ _
      have cp := fun w => put_any t j false c n x w (by omega) (by omega) hp
      obtain ⟨q, hq⟩ : ∃ q : St, q = putS ⟨t, j, false, c, n⟩ x := ⟨_, rfl⟩
      rw [← hq] at cp ⊢
      obtain ⟨tq, jq, gq, cq, pq⟩ := q
      have CP := Lib.hid cp
      clear cp hq
      obtain ⟨W, hW⟩ : ∃ W, W = ((w.alloc (.cells #[.string (t), .bool j, .bool false, .int .i64 c, .int .i64 (n : Int)] 25)).alloc (.cells #[.int .i64 5, .string x] 33)).alloc (.cells #[.string ⟨#[]⟩, .bool false, .bool false, .int .i64 0, .int .i64 0] 25) := ⟨_, rfl⟩
      have hsz : W.heap.size = w.heap.size + 3 := by rw [hW]; simp
      have S0 : Hid (BoxS W w.heap.size ⟨t, j, false, c, (n : Int)⟩) := by rw [hW]; exact ((BoxS.new w ⟨t, j, false, c, (n : Int)⟩).below (below_alS _ _)).below (below_alS _ _)
      have A0 : Hid (BoxT W (w.heap.size + 1) 5 x) := by rw [hW]; have := BoxT.new (w.alloc (.cells (stC ⟨t, j, false, c, (n : Int)⟩) 25)) 5 x; rw [World.size_alloc] at this; exact this.below (below_alS _ _)
      have R0 : Hid (BoxS W (w.heap.size + 2) St.zero) := by rw [hW]; have := BoxS.new ((w.alloc (.cells (stC ⟨t, j, false, c, (n : Int)⟩) 25)).alloc (.cells #[.int .i64 5, .string x] 33)) St.zero; rw [World.size_alloc, World.size_alloc] at this; exact this
      have B0 : Hid (Below w.heap.size w W) := by rw [hW]; exact below_al3S _ _ _ _
      have HW := Lib.hid hW
      clear hW
      go_enter Tryz.func44, Tryz.ntmps44
      go_wp2_with fail
      rw [← HW.out]
      refine (CP.out _).mono ?_
      rintro e w1 ⟨rfl, hb⟩
      have R1 := Lib.hid (R0.out.below hb)
      have B1 := Lib.hid (below_stepS B0.out hb)
      clear hb S0 A0 R0 B0 HW CP
      go_wp2_with (with_reducible (show wpList _ _ _ (_ :: _) _ _); first | refine at_storeS rfl _ _ rfl (w.heap.size + 2) ⟨tq, jq, gq, cq, pq⟩ St.zero rfl rfl R1.out ?_)
      (try simp only [Exit.inBlock, Exit.then])
      refine bodyPost_ret (results_S rfl _ _ (w.heap.size + 2) _ rfl (R1.out.set _)) rfl ?_
      exact ⟨rfl, below_setRow B1.out (by omega) _⟩
    · show Calls _ _ _ _ fun e w' => e = .returned (stV (⟨t ++ caseB x c, j, true, 0, n⟩)) ∧ _
      have cp := fun w => spell_any t j true c n x w (by omega) (by omega) hp
      obtain ⟨q, hq⟩ : ∃ q : St, q = ⟨t ++ caseB x c, j, true, 0, n⟩ := ⟨_, rfl⟩
      rw [← hq] at cp ⊢
      obtain ⟨tq, jq, gq, cq, pq⟩ := q
      have CP := Lib.hid cp
      clear cp hq
      obtain ⟨W, hW⟩ : ∃ W, W = ((w.alloc (.cells #[.string (t), .bool j, .bool true, .int .i64 c, .int .i64 (n : Int)] 25)).alloc (.cells #[.int .i64 5, .string x] 33)).alloc (.cells #[.string ⟨#[]⟩, .bool false, .bool false, .int .i64 0, .int .i64 0] 25) := ⟨_, rfl⟩
      have hsz : W.heap.size = w.heap.size + 3 := by rw [hW]; simp
      have S0 : Hid (BoxS W w.heap.size ⟨t, j, true, c, (n : Int)⟩) := by rw [hW]; exact ((BoxS.new w ⟨t, j, true, c, (n : Int)⟩).below (below_alS _ _)).below (below_alS _ _)
      have A0 : Hid (BoxT W (w.heap.size + 1) 5 x) := by rw [hW]; have := BoxT.new (w.alloc (.cells (stC ⟨t, j, true, c, (n : Int)⟩) 25)) 5 x; rw [World.size_alloc] at this; exact this.below (below_alS _ _)
      have R0 : Hid (BoxS W (w.heap.size + 2) St.zero) := by rw [hW]; have := BoxS.new ((w.alloc (.cells (stC ⟨t, j, true, c, (n : Int)⟩) 25)).alloc (.cells #[.int .i64 5, .string x] 33)) St.zero; rw [World.size_alloc, World.size_alloc] at this; exact this
      have B0 : Hid (Below w.heap.size w W) := by rw [hW]; exact below_al3S _ _ _ _
      have HW := Lib.hid hW
      clear hW
      go_enter Tryz.func44, Tryz.ntmps44
      go_wp2_with fail
      rw [← HW.out]
      refine (CP.out _).mono ?_
      rintro e w1 ⟨rfl, hb⟩
      have R1 := Lib.hid (R0.out.below hb)
      have B1 := Lib.hid (below_stepS B0.out hb)
      clear hb S0 A0 R0 B0 HW CP
      go_wp2_with (with_reducible (show wpList _ _ _ (_ :: _) _ _); first | refine at_storeS rfl _ _ rfl (w.heap.size + 2) ⟨tq, jq, gq, cq, pq⟩ St.zero rfl rfl R1.out ?_)
      (try simp only [Exit.inBlock, Exit.then])
      refine bodyPost_ret (results_S rfl _ _ (w.heap.size + 2) _ rfl (R1.out.set _)) rfl ?_
      exact ⟨rfl, below_setRow B1.out (by omega) _⟩
  · show Calls _ _ _ _ fun e w' => e = .returned (stV ⟨t ++ x, j, g, 1, n⟩) ∧ _
    have hg : BoxS (((w.alloc (.cells #[.string (t ++ x), .bool j, .bool g, .int .i64 1, .int .i64 (n : Int)] 25)).alloc (.cells #[.int .i64 6, .string x] 33)).alloc (.cells #[.string (t ++ x), .bool j, .bool g, .int .i64 1, .int .i64 (n : Int)] 25)) (w.heap.size + 2) ⟨t ++ x, j, g, 1, (n : Int)⟩ := by
      have := BoxS.new ((w.alloc (.cells (stC ⟨t ++ x, j, g, 1, (n : Int)⟩) 25)).alloc (.cells #[.int .i64 6, .string x] 33)) ⟨t ++ x, j, g, 1, (n : Int)⟩
      rw [World.size_alloc, World.size_alloc] at this
      exact this
    go_enter Tryz.func44, Tryz.ntmps44
    go_wp2
    (try simp only [Exit.inBlock, Exit.then])
    refine bodyPost_ret (results_S rfl _ _ (w.heap.size + 2) _ rfl hg) rfl ?_
    exact ⟨rfl, below_al3S _ _ _ _⟩
  · show Calls _ _ _ _ fun e w' => e = .returned (stV ⟨t ++ x, j, g, c, n⟩) ∧ _
    have hg : BoxS (((w.alloc (.cells #[.string (t ++ x), .bool j, .bool g, .int .i64 c, .int .i64 (n : Int)] 25)).alloc (.cells #[.int .i64 7, .string x] 33)).alloc (.cells #[.string (t ++ x), .bool j, .bool g, .int .i64 c, .int .i64 (n : Int)] 25)) (w.heap.size + 2) ⟨t ++ x, j, g, c, (n : Int)⟩ := by
      have := BoxS.new ((w.alloc (.cells (stC ⟨t ++ x, j, g, c, (n : Int)⟩) 25)).alloc (.cells #[.int .i64 7, .string x] 33)) ⟨t ++ x, j, g, c, (n : Int)⟩
      rw [World.size_alloc, World.size_alloc] at this
      exact this
    go_enter Tryz.func44, Tryz.ntmps44
    go_wp2
    (try simp only [Exit.inBlock, Exit.then])
    refine bodyPost_ret (results_S rfl _ _ (w.heap.size + 2) _ rfl hg) rfl ?_
    exact ⟨rfl, below_al3S _ _ _ _⟩
theorem eqlAt_val (k k' : Int) (t t' : ByteArray) (w : World) : (binOp .eql 33 (atV k t) (atV k' t')).run Tryz.prog w = .ok (.bool ((k == k') && (t.toList == t'.toList))) w := by
  have h := fields_atm
  obtain ⟨fs, hfs⟩ : ∃ fs, fs = (Tryz.prog.fieldsOf 33).toList := ⟨_, rfl⟩
  rw [← hfs] at h
  match fs, h with
  | [f0, f1], h =>
    simp at h
    obtain ⟨⟨a0, a1, a2⟩, b0, b1, b2⟩ := h
    rw [run_eql_struct, run_equalIn_agg _ _ _ _ _ (by kernel_rfl) (by kernel_rfl), ← hfs]
    have p0 : ∀ (k : Int) (t : ByteArray) w, (part 3 #[.int .i64 k, .string t] 0).run Tryz.prog w = .ok (.int .i64 k) w := fun k t w => by rfl
    have p1 : ∀ (k : Int) (t : ByteArray) w, (part 9 #[.int .i64 k, .string t] 1).run Tryz.prog w = .ok (.string t) w := fun k t w => by rfl
    cases hk : (k == k')
    · simp [Op.eqFields, a0, a1, a2, b0, b1, b2, p0, p1, run_equalIn_int _ _ _ _ _ _ _ Tryz.underlying3, run_equalIn_string _ _ _ _ _ Tryz.underlying9, hk]
    · simp [Op.eqFields, a0, a1, a2, b0, b1, b2, p0, p1, run_equalIn_int _ _ _ _ _ _ _ Tryz.underlying3, run_equalIn_string _ _ _ _ _ Tryz.underlying9, hk]
      by_cases q : t.toList = t'.toList <;> simp [q]
set_option maxHeartbeats 4000000 in
theorem afterA_any (t : ByteArray) (j g : Bool) (c : Int) (n : Nat) (k : Int) (x : ByteArray) (w : World) (ht : t.size ≤ 2000) (hn : n ≤ t.size) (hx : x.size ≤ 20) (hk : k = 1 ∨ k = 2 ∨ k = 3 ∨ k = 4 ∨ k = 5 ∨ k = 6 ∨ k = 7 ∨ k = 8 ∨ k = 9 ∨ k = 10) (ha : Pl.goodA k (by8 x) = true) (htp : prB t = true) :
    Calls Tryz.prog 30 #[stV ⟨t, j, g, c, n⟩, atV k x] w fun e w' => e = .returned (stV (app ⟨t, j, g, c, n⟩ k x)) ∧ Below w.heap.size w w' := by
  have hp := goodA_pr ha
  rcases hk with rfl | rfl | rfl | rfl | rfl | rfl | rfl | rfl | rfl | rfl
  · have hans : app ⟨t, j, g, c, n⟩ 1 x = { wrS ⟨t, j, g, c, n⟩ 1 x with j := false, g := false } := rfl
    rw [hans]
    have cw := fun w => write_any t j g c n 1 x w ht hn hx hp (by omega)
    obtain ⟨q, hq⟩ : ∃ q, q = wrS ⟨t, j, g, c, n⟩ 1 x := ⟨_, rfl⟩
    rw [← hq] at cw ⊢
    obtain ⟨tq, jq, gq, cq, pq⟩ := q
    have CP := Lib.hid cw
    clear cw hq ha hans hp
    have e8 : ∀ w, (binOp .eql 33 (atV 1 x) (atV 8 ⟨#[]⟩)).run Tryz.prog w = .ok (.bool false) w := fun w => eqlAt_val 1 8 x ⟨#[]⟩ w
    have e9 : ∀ w, (binOp .eql 33 (atV 1 x) (atV 9 ⟨#[]⟩)).run Tryz.prog w = .ok (.bool false) w := fun w => eqlAt_val 1 9 x ⟨#[]⟩ w
    have e10 : ∀ w, (binOp .eql 33 (atV 1 x) (atV 10 ⟨#[]⟩)).run Tryz.prog w = .ok (.bool false) w := fun w => eqlAt_val 1 10 x ⟨#[]⟩ w
    obtain ⟨W, hW⟩ : ∃ W, W = ((w.alloc (.cells #[.string (t), .bool j, .bool g, .int .i64 c, .int .i64 (n : Int)] 25)).alloc (.cells #[.int .i64 1, .string x] 33)).alloc (.cells #[.string ⟨#[]⟩, .bool false, .bool false, .int .i64 0, .int .i64 0] 25) := ⟨_, rfl⟩
    have hsz : W.heap.size = w.heap.size + 3 := by rw [hW]; simp
    have S0 : Hid (BoxS W w.heap.size ⟨t, j, g, c, (n : Int)⟩) := by rw [hW]; exact ((BoxS.new w ⟨t, j, g, c, (n : Int)⟩).below (below_alS _ _)).below (below_alS _ _)
    have A0 : Hid (BoxT W (w.heap.size + 1) 1 x) := by rw [hW]; have := BoxT.new (w.alloc (.cells (stC ⟨t, j, g, c, (n : Int)⟩) 25)) 1 x; rw [World.size_alloc] at this; exact this.below (below_alS _ _)
    have R0 : Hid (BoxS W (w.heap.size + 2) St.zero) := by rw [hW]; have := BoxS.new ((w.alloc (.cells (stC ⟨t, j, g, c, (n : Int)⟩) 25)).alloc (.cells #[.int .i64 1, .string x] 33)) St.zero; rw [World.size_alloc, World.size_alloc] at this; exact this
    have B0 : Hid (Below w.heap.size w W) := by rw [hW]; exact below_al3S _ _ _ _
    have HW := Lib.hid hW
    clear hW
    go_enter Tryz.func30, Tryz.ntmps30
    go_wp2_with fail
    rw [← HW.out]
    refine (CP.out _).mono ?_
    rintro e w1 ⟨rfl, hb⟩
    have S1 := Lib.hid (S0.out.below hb)
    have S2 := Lib.hid (S1.out.set ⟨tq, jq, gq, cq, pq⟩)
    have A2 := Lib.hid ((A0.out.below hb).row (g := w.heap.size) (stC ⟨tq, jq, gq, cq, pq⟩) (by omega))
    have R2 := Lib.hid ((R0.out.below hb).row (g := w.heap.size) (stC ⟨tq, jq, gq, cq, pq⟩) (by omega))
    have B2 := Lib.hid (below_setRow (below_stepS B0.out hb) (Nat.le_refl _) (stC ⟨tq, jq, gq, cq, pq⟩))
    obtain ⟨x0, x1, x2, x3, x4⟩ := S2.out.cells
    obtain ⟨f0, f1, f2, f3, f4⟩ := S2.out.frozen
    obtain ⟨d0, d1⟩ := A2.out.cells
    have SF := Lib.hid ((S2.out.set1 (false)).set2 (false))
    have RF := Lib.hid ((R2.out.other (g := w.heap.size) (o := 1) (v := .bool false) (by omega)).other (g := w.heap.size) (o := 2) (v := .bool false) (by omega))
    clear hb S0 A0 R0 B0 HW CP hsz e8 e9 e10
    go_wp2_with (with_reducible (show wpList _ _ _ (_ :: _) _ _); first | refine at_storeS rfl _ _ rfl (w.heap.size) ⟨tq, jq, gq, cq, pq⟩ ⟨t, j, g, c, (n : Int)⟩ rfl rfl S1.out ?_ | refine at_storeS rfl _ _ rfl (w.heap.size + 2) ⟨tq, false, false, cq, pq⟩ St.zero rfl rfl RF.out ?_ | refine at_loadS rfl _ rfl (w.heap.size) ⟨tq, false, false, cq, pq⟩ rfl SF.out ?_)
    (try simp only [Exit.inBlock, Exit.then])
    refine bodyPost_ret (results_S rfl _ _ (w.heap.size + 2) _ rfl (RF.out.set _)) rfl ?_
    exact ⟨rfl, below_setRow ((B2.out.setCell (Nat.le_refl _) _).setCell (Nat.le_refl _) _) (by omega) _⟩
  · have hans : app ⟨t, j, g, c, n⟩ 2 x = { wrS ⟨t, j, g, c, n⟩ 2 x with j := false, g := false } := rfl
    rw [hans]
    have cw := fun w => write_any t j g c n 2 x w ht hn hx hp (by omega)
    obtain ⟨q, hq⟩ : ∃ q, q = wrS ⟨t, j, g, c, n⟩ 2 x := ⟨_, rfl⟩
    rw [← hq] at cw ⊢
    obtain ⟨tq, jq, gq, cq, pq⟩ := q
    have CP := Lib.hid cw
    clear cw hq ha hans hp
    have e8 : ∀ w, (binOp .eql 33 (atV 2 x) (atV 8 ⟨#[]⟩)).run Tryz.prog w = .ok (.bool false) w := fun w => eqlAt_val 2 8 x ⟨#[]⟩ w
    have e9 : ∀ w, (binOp .eql 33 (atV 2 x) (atV 9 ⟨#[]⟩)).run Tryz.prog w = .ok (.bool false) w := fun w => eqlAt_val 2 9 x ⟨#[]⟩ w
    have e10 : ∀ w, (binOp .eql 33 (atV 2 x) (atV 10 ⟨#[]⟩)).run Tryz.prog w = .ok (.bool false) w := fun w => eqlAt_val 2 10 x ⟨#[]⟩ w
    obtain ⟨W, hW⟩ : ∃ W, W = ((w.alloc (.cells #[.string (t), .bool j, .bool g, .int .i64 c, .int .i64 (n : Int)] 25)).alloc (.cells #[.int .i64 2, .string x] 33)).alloc (.cells #[.string ⟨#[]⟩, .bool false, .bool false, .int .i64 0, .int .i64 0] 25) := ⟨_, rfl⟩
    have hsz : W.heap.size = w.heap.size + 3 := by rw [hW]; simp
    have S0 : Hid (BoxS W w.heap.size ⟨t, j, g, c, (n : Int)⟩) := by rw [hW]; exact ((BoxS.new w ⟨t, j, g, c, (n : Int)⟩).below (below_alS _ _)).below (below_alS _ _)
    have A0 : Hid (BoxT W (w.heap.size + 1) 2 x) := by rw [hW]; have := BoxT.new (w.alloc (.cells (stC ⟨t, j, g, c, (n : Int)⟩) 25)) 2 x; rw [World.size_alloc] at this; exact this.below (below_alS _ _)
    have R0 : Hid (BoxS W (w.heap.size + 2) St.zero) := by rw [hW]; have := BoxS.new ((w.alloc (.cells (stC ⟨t, j, g, c, (n : Int)⟩) 25)).alloc (.cells #[.int .i64 2, .string x] 33)) St.zero; rw [World.size_alloc, World.size_alloc] at this; exact this
    have B0 : Hid (Below w.heap.size w W) := by rw [hW]; exact below_al3S _ _ _ _
    have HW := Lib.hid hW
    clear hW
    go_enter Tryz.func30, Tryz.ntmps30
    go_wp2_with fail
    rw [← HW.out]
    refine (CP.out _).mono ?_
    rintro e w1 ⟨rfl, hb⟩
    have S1 := Lib.hid (S0.out.below hb)
    have S2 := Lib.hid (S1.out.set ⟨tq, jq, gq, cq, pq⟩)
    have A2 := Lib.hid ((A0.out.below hb).row (g := w.heap.size) (stC ⟨tq, jq, gq, cq, pq⟩) (by omega))
    have R2 := Lib.hid ((R0.out.below hb).row (g := w.heap.size) (stC ⟨tq, jq, gq, cq, pq⟩) (by omega))
    have B2 := Lib.hid (below_setRow (below_stepS B0.out hb) (Nat.le_refl _) (stC ⟨tq, jq, gq, cq, pq⟩))
    obtain ⟨x0, x1, x2, x3, x4⟩ := S2.out.cells
    obtain ⟨f0, f1, f2, f3, f4⟩ := S2.out.frozen
    obtain ⟨d0, d1⟩ := A2.out.cells
    have SF := Lib.hid ((S2.out.set1 (false)).set2 (false))
    have RF := Lib.hid ((R2.out.other (g := w.heap.size) (o := 1) (v := .bool false) (by omega)).other (g := w.heap.size) (o := 2) (v := .bool false) (by omega))
    clear hb S0 A0 R0 B0 HW CP hsz e8 e9 e10
    go_wp2_with (with_reducible (show wpList _ _ _ (_ :: _) _ _); first | refine at_storeS rfl _ _ rfl (w.heap.size) ⟨tq, jq, gq, cq, pq⟩ ⟨t, j, g, c, (n : Int)⟩ rfl rfl S1.out ?_ | refine at_storeS rfl _ _ rfl (w.heap.size + 2) ⟨tq, false, false, cq, pq⟩ St.zero rfl rfl RF.out ?_ | refine at_loadS rfl _ rfl (w.heap.size) ⟨tq, false, false, cq, pq⟩ rfl SF.out ?_)
    (try simp only [Exit.inBlock, Exit.then])
    refine bodyPost_ret (results_S rfl _ _ (w.heap.size + 2) _ rfl (RF.out.set _)) rfl ?_
    exact ⟨rfl, below_setRow ((B2.out.setCell (Nat.le_refl _) _).setCell (Nat.le_refl _) _) (by omega) _⟩
  · have hans : app ⟨t, j, g, c, n⟩ 3 x = { wrS ⟨t, j, g, c, n⟩ 3 x with j := true, g := false } := rfl
    rw [hans]
    have cw := fun w => write_any t j g c n 3 x w ht hn hx hp (by omega)
    obtain ⟨q, hq⟩ : ∃ q, q = wrS ⟨t, j, g, c, n⟩ 3 x := ⟨_, rfl⟩
    rw [← hq] at cw ⊢
    obtain ⟨tq, jq, gq, cq, pq⟩ := q
    have CP := Lib.hid cw
    clear cw hq ha hans hp
    have e8 : ∀ w, (binOp .eql 33 (atV 3 x) (atV 8 ⟨#[]⟩)).run Tryz.prog w = .ok (.bool false) w := fun w => eqlAt_val 3 8 x ⟨#[]⟩ w
    have e9 : ∀ w, (binOp .eql 33 (atV 3 x) (atV 9 ⟨#[]⟩)).run Tryz.prog w = .ok (.bool false) w := fun w => eqlAt_val 3 9 x ⟨#[]⟩ w
    have e10 : ∀ w, (binOp .eql 33 (atV 3 x) (atV 10 ⟨#[]⟩)).run Tryz.prog w = .ok (.bool false) w := fun w => eqlAt_val 3 10 x ⟨#[]⟩ w
    obtain ⟨W, hW⟩ : ∃ W, W = ((w.alloc (.cells #[.string (t), .bool j, .bool g, .int .i64 c, .int .i64 (n : Int)] 25)).alloc (.cells #[.int .i64 3, .string x] 33)).alloc (.cells #[.string ⟨#[]⟩, .bool false, .bool false, .int .i64 0, .int .i64 0] 25) := ⟨_, rfl⟩
    have hsz : W.heap.size = w.heap.size + 3 := by rw [hW]; simp
    have S0 : Hid (BoxS W w.heap.size ⟨t, j, g, c, (n : Int)⟩) := by rw [hW]; exact ((BoxS.new w ⟨t, j, g, c, (n : Int)⟩).below (below_alS _ _)).below (below_alS _ _)
    have A0 : Hid (BoxT W (w.heap.size + 1) 3 x) := by rw [hW]; have := BoxT.new (w.alloc (.cells (stC ⟨t, j, g, c, (n : Int)⟩) 25)) 3 x; rw [World.size_alloc] at this; exact this.below (below_alS _ _)
    have R0 : Hid (BoxS W (w.heap.size + 2) St.zero) := by rw [hW]; have := BoxS.new ((w.alloc (.cells (stC ⟨t, j, g, c, (n : Int)⟩) 25)).alloc (.cells #[.int .i64 3, .string x] 33)) St.zero; rw [World.size_alloc, World.size_alloc] at this; exact this
    have B0 : Hid (Below w.heap.size w W) := by rw [hW]; exact below_al3S _ _ _ _
    have HW := Lib.hid hW
    clear hW
    go_enter Tryz.func30, Tryz.ntmps30
    go_wp2_with fail
    rw [← HW.out]
    refine (CP.out _).mono ?_
    rintro e w1 ⟨rfl, hb⟩
    have S1 := Lib.hid (S0.out.below hb)
    have S2 := Lib.hid (S1.out.set ⟨tq, jq, gq, cq, pq⟩)
    have A2 := Lib.hid ((A0.out.below hb).row (g := w.heap.size) (stC ⟨tq, jq, gq, cq, pq⟩) (by omega))
    have R2 := Lib.hid ((R0.out.below hb).row (g := w.heap.size) (stC ⟨tq, jq, gq, cq, pq⟩) (by omega))
    have B2 := Lib.hid (below_setRow (below_stepS B0.out hb) (Nat.le_refl _) (stC ⟨tq, jq, gq, cq, pq⟩))
    obtain ⟨x0, x1, x2, x3, x4⟩ := S2.out.cells
    obtain ⟨f0, f1, f2, f3, f4⟩ := S2.out.frozen
    obtain ⟨d0, d1⟩ := A2.out.cells
    have SF := Lib.hid ((S2.out.set1 (true)).set2 (false))
    have RF := Lib.hid ((R2.out.other (g := w.heap.size) (o := 1) (v := .bool true) (by omega)).other (g := w.heap.size) (o := 2) (v := .bool false) (by omega))
    clear hb S0 A0 R0 B0 HW CP hsz e8 e9 e10
    go_wp2_with (with_reducible (show wpList _ _ _ (_ :: _) _ _); first | refine at_storeS rfl _ _ rfl (w.heap.size) ⟨tq, jq, gq, cq, pq⟩ ⟨t, j, g, c, (n : Int)⟩ rfl rfl S1.out ?_ | refine at_storeS rfl _ _ rfl (w.heap.size + 2) ⟨tq, true, false, cq, pq⟩ St.zero rfl rfl RF.out ?_ | refine at_loadS rfl _ rfl (w.heap.size) ⟨tq, true, false, cq, pq⟩ rfl SF.out ?_)
    (try simp only [Exit.inBlock, Exit.then])
    refine bodyPost_ret (results_S rfl _ _ (w.heap.size + 2) _ rfl (RF.out.set _)) rfl ?_
    exact ⟨rfl, below_setRow ((B2.out.setCell (Nat.le_refl _) _).setCell (Nat.le_refl _) _) (by omega) _⟩
  · have hans : app ⟨t, j, g, c, n⟩ 4 x = { wrS ⟨t, j, g, c, n⟩ 4 x with j := true, g := false } := rfl
    rw [hans]
    have cw := fun w => write_any t j g c n 4 x w ht hn hx hp (by omega)
    obtain ⟨q, hq⟩ : ∃ q, q = wrS ⟨t, j, g, c, n⟩ 4 x := ⟨_, rfl⟩
    rw [← hq] at cw ⊢
    obtain ⟨tq, jq, gq, cq, pq⟩ := q
    have CP := Lib.hid cw
    clear cw hq ha hans hp
    have e8 : ∀ w, (binOp .eql 33 (atV 4 x) (atV 8 ⟨#[]⟩)).run Tryz.prog w = .ok (.bool false) w := fun w => eqlAt_val 4 8 x ⟨#[]⟩ w
    have e9 : ∀ w, (binOp .eql 33 (atV 4 x) (atV 9 ⟨#[]⟩)).run Tryz.prog w = .ok (.bool false) w := fun w => eqlAt_val 4 9 x ⟨#[]⟩ w
    have e10 : ∀ w, (binOp .eql 33 (atV 4 x) (atV 10 ⟨#[]⟩)).run Tryz.prog w = .ok (.bool false) w := fun w => eqlAt_val 4 10 x ⟨#[]⟩ w
    obtain ⟨W, hW⟩ : ∃ W, W = ((w.alloc (.cells #[.string (t), .bool j, .bool g, .int .i64 c, .int .i64 (n : Int)] 25)).alloc (.cells #[.int .i64 4, .string x] 33)).alloc (.cells #[.string ⟨#[]⟩, .bool false, .bool false, .int .i64 0, .int .i64 0] 25) := ⟨_, rfl⟩
    have hsz : W.heap.size = w.heap.size + 3 := by rw [hW]; simp
    have S0 : Hid (BoxS W w.heap.size ⟨t, j, g, c, (n : Int)⟩) := by rw [hW]; exact ((BoxS.new w ⟨t, j, g, c, (n : Int)⟩).below (below_alS _ _)).below (below_alS _ _)
    have A0 : Hid (BoxT W (w.heap.size + 1) 4 x) := by rw [hW]; have := BoxT.new (w.alloc (.cells (stC ⟨t, j, g, c, (n : Int)⟩) 25)) 4 x; rw [World.size_alloc] at this; exact this.below (below_alS _ _)
    have R0 : Hid (BoxS W (w.heap.size + 2) St.zero) := by rw [hW]; have := BoxS.new ((w.alloc (.cells (stC ⟨t, j, g, c, (n : Int)⟩) 25)).alloc (.cells #[.int .i64 4, .string x] 33)) St.zero; rw [World.size_alloc, World.size_alloc] at this; exact this
    have B0 : Hid (Below w.heap.size w W) := by rw [hW]; exact below_al3S _ _ _ _
    have HW := Lib.hid hW
    clear hW
    go_enter Tryz.func30, Tryz.ntmps30
    go_wp2_with fail
    rw [← HW.out]
    refine (CP.out _).mono ?_
    rintro e w1 ⟨rfl, hb⟩
    have S1 := Lib.hid (S0.out.below hb)
    have S2 := Lib.hid (S1.out.set ⟨tq, jq, gq, cq, pq⟩)
    have A2 := Lib.hid ((A0.out.below hb).row (g := w.heap.size) (stC ⟨tq, jq, gq, cq, pq⟩) (by omega))
    have R2 := Lib.hid ((R0.out.below hb).row (g := w.heap.size) (stC ⟨tq, jq, gq, cq, pq⟩) (by omega))
    have B2 := Lib.hid (below_setRow (below_stepS B0.out hb) (Nat.le_refl _) (stC ⟨tq, jq, gq, cq, pq⟩))
    obtain ⟨x0, x1, x2, x3, x4⟩ := S2.out.cells
    obtain ⟨f0, f1, f2, f3, f4⟩ := S2.out.frozen
    obtain ⟨d0, d1⟩ := A2.out.cells
    have SF := Lib.hid ((S2.out.set1 (true)).set2 (false))
    have RF := Lib.hid ((R2.out.other (g := w.heap.size) (o := 1) (v := .bool true) (by omega)).other (g := w.heap.size) (o := 2) (v := .bool false) (by omega))
    clear hb S0 A0 R0 B0 HW CP hsz e8 e9 e10
    go_wp2_with (with_reducible (show wpList _ _ _ (_ :: _) _ _); first | refine at_storeS rfl _ _ rfl (w.heap.size) ⟨tq, jq, gq, cq, pq⟩ ⟨t, j, g, c, (n : Int)⟩ rfl rfl S1.out ?_ | refine at_storeS rfl _ _ rfl (w.heap.size + 2) ⟨tq, true, false, cq, pq⟩ St.zero rfl rfl RF.out ?_ | refine at_loadS rfl _ rfl (w.heap.size) ⟨tq, true, false, cq, pq⟩ rfl SF.out ?_)
    (try simp only [Exit.inBlock, Exit.then])
    refine bodyPost_ret (results_S rfl _ _ (w.heap.size + 2) _ rfl (RF.out.set _)) rfl ?_
    exact ⟨rfl, below_setRow ((B2.out.setCell (Nat.le_refl _) _).setCell (Nat.le_refl _) _) (by omega) _⟩
  · have hans : app ⟨t, j, g, c, n⟩ 5 x = { wrS ⟨t, j, g, c, n⟩ 5 x with j := false, g := true } := by cases g <;> rfl
    rw [hans]
    have cw := fun w => write_any t j g c n 5 x w ht hn hx hp (by omega)
    obtain ⟨q, hq⟩ : ∃ q, q = wrS ⟨t, j, g, c, n⟩ 5 x := ⟨_, rfl⟩
    rw [← hq] at cw ⊢
    obtain ⟨tq, jq, gq, cq, pq⟩ := q
    have CP := Lib.hid cw
    clear cw hq ha hans hp
    have e8 : ∀ w, (binOp .eql 33 (atV 5 x) (atV 8 ⟨#[]⟩)).run Tryz.prog w = .ok (.bool false) w := fun w => eqlAt_val 5 8 x ⟨#[]⟩ w
    have e9 : ∀ w, (binOp .eql 33 (atV 5 x) (atV 9 ⟨#[]⟩)).run Tryz.prog w = .ok (.bool false) w := fun w => eqlAt_val 5 9 x ⟨#[]⟩ w
    have e10 : ∀ w, (binOp .eql 33 (atV 5 x) (atV 10 ⟨#[]⟩)).run Tryz.prog w = .ok (.bool false) w := fun w => eqlAt_val 5 10 x ⟨#[]⟩ w
    obtain ⟨W, hW⟩ : ∃ W, W = ((w.alloc (.cells #[.string (t), .bool j, .bool g, .int .i64 c, .int .i64 (n : Int)] 25)).alloc (.cells #[.int .i64 5, .string x] 33)).alloc (.cells #[.string ⟨#[]⟩, .bool false, .bool false, .int .i64 0, .int .i64 0] 25) := ⟨_, rfl⟩
    have hsz : W.heap.size = w.heap.size + 3 := by rw [hW]; simp
    have S0 : Hid (BoxS W w.heap.size ⟨t, j, g, c, (n : Int)⟩) := by rw [hW]; exact ((BoxS.new w ⟨t, j, g, c, (n : Int)⟩).below (below_alS _ _)).below (below_alS _ _)
    have A0 : Hid (BoxT W (w.heap.size + 1) 5 x) := by rw [hW]; have := BoxT.new (w.alloc (.cells (stC ⟨t, j, g, c, (n : Int)⟩) 25)) 5 x; rw [World.size_alloc] at this; exact this.below (below_alS _ _)
    have R0 : Hid (BoxS W (w.heap.size + 2) St.zero) := by rw [hW]; have := BoxS.new ((w.alloc (.cells (stC ⟨t, j, g, c, (n : Int)⟩) 25)).alloc (.cells #[.int .i64 5, .string x] 33)) St.zero; rw [World.size_alloc, World.size_alloc] at this; exact this
    have B0 : Hid (Below w.heap.size w W) := by rw [hW]; exact below_al3S _ _ _ _
    have HW := Lib.hid hW
    clear hW
    go_enter Tryz.func30, Tryz.ntmps30
    go_wp2_with fail
    rw [← HW.out]
    refine (CP.out _).mono ?_
    rintro e w1 ⟨rfl, hb⟩
    have S1 := Lib.hid (S0.out.below hb)
    have S2 := Lib.hid (S1.out.set ⟨tq, jq, gq, cq, pq⟩)
    have A2 := Lib.hid ((A0.out.below hb).row (g := w.heap.size) (stC ⟨tq, jq, gq, cq, pq⟩) (by omega))
    have R2 := Lib.hid ((R0.out.below hb).row (g := w.heap.size) (stC ⟨tq, jq, gq, cq, pq⟩) (by omega))
    have B2 := Lib.hid (below_setRow (below_stepS B0.out hb) (Nat.le_refl _) (stC ⟨tq, jq, gq, cq, pq⟩))
    obtain ⟨x0, x1, x2, x3, x4⟩ := S2.out.cells
    obtain ⟨f0, f1, f2, f3, f4⟩ := S2.out.frozen
    obtain ⟨d0, d1⟩ := A2.out.cells
    have SF := Lib.hid ((S2.out.set1 (false)).set2 (true))
    have RF := Lib.hid ((R2.out.other (g := w.heap.size) (o := 1) (v := .bool false) (by omega)).other (g := w.heap.size) (o := 2) (v := .bool true) (by omega))
    clear hb S0 A0 R0 B0 HW CP hsz e8 e9 e10
    go_wp2_with (with_reducible (show wpList _ _ _ (_ :: _) _ _); first | refine at_storeS rfl _ _ rfl (w.heap.size) ⟨tq, jq, gq, cq, pq⟩ ⟨t, j, g, c, (n : Int)⟩ rfl rfl S1.out ?_ | refine at_storeS rfl _ _ rfl (w.heap.size + 2) ⟨tq, false, true, cq, pq⟩ St.zero rfl rfl RF.out ?_ | refine at_loadS rfl _ rfl (w.heap.size) ⟨tq, false, true, cq, pq⟩ rfl SF.out ?_)
    (try simp only [Exit.inBlock, Exit.then])
    refine bodyPost_ret (results_S rfl _ _ (w.heap.size + 2) _ rfl (RF.out.set _)) rfl ?_
    exact ⟨rfl, below_setRow ((B2.out.setCell (Nat.le_refl _) _).setCell (Nat.le_refl _) _) (by omega) _⟩
  · have hans : app ⟨t, j, g, c, n⟩ 6 x = { wrS ⟨t, j, g, c, n⟩ 6 x with j := false, g := false } := rfl
    rw [hans]
    have cw := fun w => write_any t j g c n 6 x w ht hn hx hp (by omega)
    obtain ⟨q, hq⟩ : ∃ q, q = wrS ⟨t, j, g, c, n⟩ 6 x := ⟨_, rfl⟩
    rw [← hq] at cw ⊢
    obtain ⟨tq, jq, gq, cq, pq⟩ := q
    have CP := Lib.hid cw
    clear cw hq ha hans hp
    have e8 : ∀ w, (binOp .eql 33 (atV 6 x) (atV 8 ⟨#[]⟩)).run Tryz.prog w = .ok (.bool false) w := fun w => eqlAt_val 6 8 x ⟨#[]⟩ w
    have e9 : ∀ w, (binOp .eql 33 (atV 6 x) (atV 9 ⟨#[]⟩)).run Tryz.prog w = .ok (.bool false) w := fun w => eqlAt_val 6 9 x ⟨#[]⟩ w
    have e10 : ∀ w, (binOp .eql 33 (atV 6 x) (atV 10 ⟨#[]⟩)).run Tryz.prog w = .ok (.bool false) w := fun w => eqlAt_val 6 10 x ⟨#[]⟩ w
    obtain ⟨W, hW⟩ : ∃ W, W = ((w.alloc (.cells #[.string (t), .bool j, .bool g, .int .i64 c, .int .i64 (n : Int)] 25)).alloc (.cells #[.int .i64 6, .string x] 33)).alloc (.cells #[.string ⟨#[]⟩, .bool false, .bool false, .int .i64 0, .int .i64 0] 25) := ⟨_, rfl⟩
    have hsz : W.heap.size = w.heap.size + 3 := by rw [hW]; simp
    have S0 : Hid (BoxS W w.heap.size ⟨t, j, g, c, (n : Int)⟩) := by rw [hW]; exact ((BoxS.new w ⟨t, j, g, c, (n : Int)⟩).below (below_alS _ _)).below (below_alS _ _)
    have A0 : Hid (BoxT W (w.heap.size + 1) 6 x) := by rw [hW]; have := BoxT.new (w.alloc (.cells (stC ⟨t, j, g, c, (n : Int)⟩) 25)) 6 x; rw [World.size_alloc] at this; exact this.below (below_alS _ _)
    have R0 : Hid (BoxS W (w.heap.size + 2) St.zero) := by rw [hW]; have := BoxS.new ((w.alloc (.cells (stC ⟨t, j, g, c, (n : Int)⟩) 25)).alloc (.cells #[.int .i64 6, .string x] 33)) St.zero; rw [World.size_alloc, World.size_alloc] at this; exact this
    have B0 : Hid (Below w.heap.size w W) := by rw [hW]; exact below_al3S _ _ _ _
    have HW := Lib.hid hW
    clear hW
    go_enter Tryz.func30, Tryz.ntmps30
    go_wp2_with fail
    rw [← HW.out]
    refine (CP.out _).mono ?_
    rintro e w1 ⟨rfl, hb⟩
    have S1 := Lib.hid (S0.out.below hb)
    have S2 := Lib.hid (S1.out.set ⟨tq, jq, gq, cq, pq⟩)
    have A2 := Lib.hid ((A0.out.below hb).row (g := w.heap.size) (stC ⟨tq, jq, gq, cq, pq⟩) (by omega))
    have R2 := Lib.hid ((R0.out.below hb).row (g := w.heap.size) (stC ⟨tq, jq, gq, cq, pq⟩) (by omega))
    have B2 := Lib.hid (below_setRow (below_stepS B0.out hb) (Nat.le_refl _) (stC ⟨tq, jq, gq, cq, pq⟩))
    obtain ⟨x0, x1, x2, x3, x4⟩ := S2.out.cells
    obtain ⟨f0, f1, f2, f3, f4⟩ := S2.out.frozen
    obtain ⟨d0, d1⟩ := A2.out.cells
    have SF := Lib.hid ((S2.out.set1 (false)).set2 (false))
    have RF := Lib.hid ((R2.out.other (g := w.heap.size) (o := 1) (v := .bool false) (by omega)).other (g := w.heap.size) (o := 2) (v := .bool false) (by omega))
    clear hb S0 A0 R0 B0 HW CP hsz e8 e9 e10
    go_wp2_with (with_reducible (show wpList _ _ _ (_ :: _) _ _); first | refine at_storeS rfl _ _ rfl (w.heap.size) ⟨tq, jq, gq, cq, pq⟩ ⟨t, j, g, c, (n : Int)⟩ rfl rfl S1.out ?_ | refine at_storeS rfl _ _ rfl (w.heap.size + 2) ⟨tq, false, false, cq, pq⟩ St.zero rfl rfl RF.out ?_ | refine at_loadS rfl _ rfl (w.heap.size) ⟨tq, false, false, cq, pq⟩ rfl SF.out ?_)
    (try simp only [Exit.inBlock, Exit.then])
    refine bodyPost_ret (results_S rfl _ _ (w.heap.size + 2) _ rfl (RF.out.set _)) rfl ?_
    exact ⟨rfl, below_setRow ((B2.out.setCell (Nat.le_refl _) _).setCell (Nat.le_refl _) _) (by omega) _⟩
  · have hans : app ⟨t, j, g, c, n⟩ 7 x = { wrS ⟨t, j, g, c, n⟩ 7 x with j := false, g := false } := rfl
    rw [hans]
    have cw := fun w => write_any t j g c n 7 x w ht hn hx hp (by omega)
    obtain ⟨q, hq⟩ : ∃ q, q = wrS ⟨t, j, g, c, n⟩ 7 x := ⟨_, rfl⟩
    rw [← hq] at cw ⊢
    obtain ⟨tq, jq, gq, cq, pq⟩ := q
    have CP := Lib.hid cw
    clear cw hq ha hans hp
    have e8 : ∀ w, (binOp .eql 33 (atV 7 x) (atV 8 ⟨#[]⟩)).run Tryz.prog w = .ok (.bool false) w := fun w => eqlAt_val 7 8 x ⟨#[]⟩ w
    have e9 : ∀ w, (binOp .eql 33 (atV 7 x) (atV 9 ⟨#[]⟩)).run Tryz.prog w = .ok (.bool false) w := fun w => eqlAt_val 7 9 x ⟨#[]⟩ w
    have e10 : ∀ w, (binOp .eql 33 (atV 7 x) (atV 10 ⟨#[]⟩)).run Tryz.prog w = .ok (.bool false) w := fun w => eqlAt_val 7 10 x ⟨#[]⟩ w
    obtain ⟨W, hW⟩ : ∃ W, W = ((w.alloc (.cells #[.string (t), .bool j, .bool g, .int .i64 c, .int .i64 (n : Int)] 25)).alloc (.cells #[.int .i64 7, .string x] 33)).alloc (.cells #[.string ⟨#[]⟩, .bool false, .bool false, .int .i64 0, .int .i64 0] 25) := ⟨_, rfl⟩
    have hsz : W.heap.size = w.heap.size + 3 := by rw [hW]; simp
    have S0 : Hid (BoxS W w.heap.size ⟨t, j, g, c, (n : Int)⟩) := by rw [hW]; exact ((BoxS.new w ⟨t, j, g, c, (n : Int)⟩).below (below_alS _ _)).below (below_alS _ _)
    have A0 : Hid (BoxT W (w.heap.size + 1) 7 x) := by rw [hW]; have := BoxT.new (w.alloc (.cells (stC ⟨t, j, g, c, (n : Int)⟩) 25)) 7 x; rw [World.size_alloc] at this; exact this.below (below_alS _ _)
    have R0 : Hid (BoxS W (w.heap.size + 2) St.zero) := by rw [hW]; have := BoxS.new ((w.alloc (.cells (stC ⟨t, j, g, c, (n : Int)⟩) 25)).alloc (.cells #[.int .i64 7, .string x] 33)) St.zero; rw [World.size_alloc, World.size_alloc] at this; exact this
    have B0 : Hid (Below w.heap.size w W) := by rw [hW]; exact below_al3S _ _ _ _
    have HW := Lib.hid hW
    clear hW
    go_enter Tryz.func30, Tryz.ntmps30
    go_wp2_with fail
    rw [← HW.out]
    refine (CP.out _).mono ?_
    rintro e w1 ⟨rfl, hb⟩
    have S1 := Lib.hid (S0.out.below hb)
    have S2 := Lib.hid (S1.out.set ⟨tq, jq, gq, cq, pq⟩)
    have A2 := Lib.hid ((A0.out.below hb).row (g := w.heap.size) (stC ⟨tq, jq, gq, cq, pq⟩) (by omega))
    have R2 := Lib.hid ((R0.out.below hb).row (g := w.heap.size) (stC ⟨tq, jq, gq, cq, pq⟩) (by omega))
    have B2 := Lib.hid (below_setRow (below_stepS B0.out hb) (Nat.le_refl _) (stC ⟨tq, jq, gq, cq, pq⟩))
    obtain ⟨x0, x1, x2, x3, x4⟩ := S2.out.cells
    obtain ⟨f0, f1, f2, f3, f4⟩ := S2.out.frozen
    obtain ⟨d0, d1⟩ := A2.out.cells
    have SF := Lib.hid ((S2.out.set1 (false)).set2 (false))
    have RF := Lib.hid ((R2.out.other (g := w.heap.size) (o := 1) (v := .bool false) (by omega)).other (g := w.heap.size) (o := 2) (v := .bool false) (by omega))
    clear hb S0 A0 R0 B0 HW CP hsz e8 e9 e10
    go_wp2_with (with_reducible (show wpList _ _ _ (_ :: _) _ _); first | refine at_storeS rfl _ _ rfl (w.heap.size) ⟨tq, jq, gq, cq, pq⟩ ⟨t, j, g, c, (n : Int)⟩ rfl rfl S1.out ?_ | refine at_storeS rfl _ _ rfl (w.heap.size + 2) ⟨tq, false, false, cq, pq⟩ St.zero rfl rfl RF.out ?_ | refine at_loadS rfl _ rfl (w.heap.size) ⟨tq, false, false, cq, pq⟩ rfl SF.out ?_)
    (try simp only [Exit.inBlock, Exit.then])
    refine bodyPost_ret (results_S rfl _ _ (w.heap.size + 2) _ rfl (RF.out.set _)) rfl ?_
    exact ⟨rfl, below_setRow ((B2.out.setCell (Nat.le_refl _) _).setCell (Nat.le_refl _) _) (by omega) _⟩
  · rw [app_8]
    obtain rfl : x = ⟨#[]⟩ := goodA_cmd (k := 8) (by decide) ha
    have e8 : ∀ w, (binOp .eql 33 (atV 8 ⟨#[]⟩) (atV 8 ⟨#[]⟩)).run Tryz.prog w = .ok (.bool true) w := fun w => by rw [eqlAt_val]; simp
    have hg : BoxS (((w.alloc (.cells #[.string (t), .bool j, .bool g, .int .i64 1, .int .i64 (n : Int)] 25)).alloc (.cells #[.int .i64 8, .string ⟨#[]⟩] 33)).alloc (.cells #[.string (t), .bool j, .bool g, .int .i64 1, .int .i64 (n : Int)] 25)) (w.heap.size + 2) ⟨t, j, g, 1, (n : Int)⟩ := by
      have := BoxS.new ((w.alloc (.cells (stC ⟨t, j, g, 1, (n : Int)⟩) 25)).alloc (.cells #[.int .i64 8, .string ⟨#[]⟩] 33)) ⟨t, j, g, 1, (n : Int)⟩
      rw [World.size_alloc, World.size_alloc] at this
      exact this
    go_enter Tryz.func30, Tryz.ntmps30
    go_wp2
    (try simp only [Exit.inBlock, Exit.then])
    refine bodyPost_ret (results_S rfl _ _ (w.heap.size + 2) _ rfl hg) rfl ?_
    exact ⟨rfl, below_al3S _ _ _ _⟩
  · rw [app_9]
    obtain rfl : x = ⟨#[]⟩ := goodA_cmd (k := 9) (by decide) ha
    have e8 : ∀ w, (binOp .eql 33 (atV 9 ⟨#[]⟩) (atV 8 ⟨#[]⟩)).run Tryz.prog w = .ok (.bool false) w := fun w => by rw [eqlAt_val]; simp
    have e9 : ∀ w, (binOp .eql 33 (atV 9 ⟨#[]⟩) (atV 9 ⟨#[]⟩)).run Tryz.prog w = .ok (.bool true) w := fun w => by rw [eqlAt_val]; simp
    have hg : BoxS (((w.alloc (.cells #[.string (t), .bool j, .bool g, .int .i64 2, .int .i64 (n : Int)] 25)).alloc (.cells #[.int .i64 9, .string ⟨#[]⟩] 33)).alloc (.cells #[.string (t), .bool j, .bool g, .int .i64 2, .int .i64 (n : Int)] 25)) (w.heap.size + 2) ⟨t, j, g, 2, (n : Int)⟩ := by
      have := BoxS.new ((w.alloc (.cells (stC ⟨t, j, g, 2, (n : Int)⟩) 25)).alloc (.cells #[.int .i64 9, .string ⟨#[]⟩] 33)) ⟨t, j, g, 2, (n : Int)⟩
      rw [World.size_alloc, World.size_alloc] at this
      exact this
    go_enter Tryz.func30, Tryz.ntmps30
    go_wp2
    (try simp only [Exit.inBlock, Exit.then])
    refine bodyPost_ret (results_S rfl _ _ (w.heap.size + 2) _ rfl hg) rfl ?_
    exact ⟨rfl, below_al3S _ _ _ _⟩
  · rw [app_10]
    show Calls _ _ _ _ fun e w' => e = .returned (stV ⟨t.extract 0 n ++ caseB (t.extract n t.size) 1, j, g, c, n⟩) ∧ _
    obtain rfl : x = ⟨#[]⟩ := goodA_cmd (k := 10) (by decide) ha
    have e8 : ∀ w, (binOp .eql 33 (atV 10 ⟨#[]⟩) (atV 8 ⟨#[]⟩)).run Tryz.prog w = .ok (.bool false) w := fun w => by rw [eqlAt_val]; simp
    have e9 : ∀ w, (binOp .eql 33 (atV 10 ⟨#[]⟩) (atV 9 ⟨#[]⟩)).run Tryz.prog w = .ok (.bool false) w := fun w => by rw [eqlAt_val]; simp
    have e10 : ∀ w, (binOp .eql 33 (atV 10 ⟨#[]⟩) (atV 10 ⟨#[]⟩)).run Tryz.prog w = .ok (.bool true) w := fun w => by rw [eqlAt_val]; simp
    have hls : (t.extract n t.size).size ≤ 2000 := by rw [ByteArray.size_extract]; omega
    have cc := fun w => inCase_any (t.extract n t.size) 1 w (by omega) (prB_extract htp _ _)
    have CA := Lib.hid (fun w => atWord_any t j g c n w (by omega) hn)
    have hy := caseB_size (t.extract n t.size) 1
    obtain ⟨y, hyy⟩ : ∃ y, y = caseB (t.extract n t.size) 1 := ⟨_, rfl⟩
    rw [← hyy] at cc hy ⊢
    have hys : y.size ≤ 2000 := by omega
    have CC := Lib.hid cc
    clear cc hyy hy hls
    obtain ⟨W, hW⟩ : ∃ W, W = ((w.alloc (.cells #[.string (t), .bool j, .bool g, .int .i64 c, .int .i64 (n : Int)] 25)).alloc (.cells #[.int .i64 10, .string ⟨#[]⟩] 33)).alloc (.cells #[.string ⟨#[]⟩, .bool false, .bool false, .int .i64 0, .int .i64 0] 25) := ⟨_, rfl⟩
    have hsz : W.heap.size = w.heap.size + 3 := by rw [hW]; simp
    have S0 : Hid (BoxS W w.heap.size ⟨t, j, g, c, (n : Int)⟩) := by rw [hW]; exact ((BoxS.new w ⟨t, j, g, c, (n : Int)⟩).below (below_alS _ _)).below (below_alS _ _)
    have A0 : Hid (BoxT W (w.heap.size + 1) 10 ⟨#[]⟩) := by rw [hW]; have := BoxT.new (w.alloc (.cells (stC ⟨t, j, g, c, (n : Int)⟩) 25)) 10 ⟨#[]⟩; rw [World.size_alloc] at this; exact this.below (below_alS _ _)
    have R0 : Hid (BoxS W (w.heap.size + 2) St.zero) := by rw [hW]; have := BoxS.new ((w.alloc (.cells (stC ⟨t, j, g, c, (n : Int)⟩) 25)).alloc (.cells #[.int .i64 10, .string ⟨#[]⟩] 33)) St.zero; rw [World.size_alloc, World.size_alloc] at this; exact this
    have B0 : Hid (Below w.heap.size w W) := by rw [hW]; exact below_al3S _ _ _ _
    have HW := Lib.hid hW
    clear hW
    go_enter Tryz.func30, Tryz.ntmps30
    go_wp2_with fail
    rw [← HW.out]
    refine (CA.out _).mono ?_
    rintro e w1 ⟨rfl, hb⟩
    have S1 := Lib.hid (S0.out.below hb)
    have R1 := Lib.hid (R0.out.below hb)
    have B1 := Lib.hid (below_stepS B0.out hb)
    clear hb S0 A0 R0 B0 HW CA e8 e9 e10
    go_wp2_with fail
    refine (CC.out _).mono ?_
    rintro e w2 ⟨rfl, hb⟩
    have S2 := Lib.hid (S1.out.below hb)
    have R2 := Lib.hid (R1.out.below hb)
    have B2 := Lib.hid (below_stepS B1.out hb)
    clear hb S1 R1 B1 CC
    obtain ⟨x0, x1, x2, x3, x4⟩ := S2.out.cells
    obtain ⟨f0, f1, f2, f3, f4⟩ := S2.out.frozen
    have SF := Lib.hid (S2.out.set0 (t.extract 0 n ++ y))
    have RF := Lib.hid (R2.out.other (g := w.heap.size) (o := 0) (v := .string (t.extract 0 n ++ y)) (by omega))
    go_wp2_with (with_reducible (show wpList _ _ _ (_ :: _) _ _); first | refine at_storeS rfl _ _ rfl (w.heap.size + 2) ⟨t.extract 0 n ++ y, j, g, c, (n : Int)⟩ St.zero rfl rfl RF.out ?_ | refine at_loadS rfl _ rfl (w.heap.size) ⟨t.extract 0 n ++ y, j, g, c, (n : Int)⟩ rfl SF.out ?_)
    (try simp only [Exit.inBlock, Exit.then])
    refine bodyPost_ret (results_S rfl _ _ (w.heap.size + 2) _ rfl (RF.out.set _)) rfl ?_
    exact ⟨rfl, below_setRow (B2.out.setCell (Nat.le_refl _) _) (by omega) _⟩
end Go.Proofs.YtnpiphkglhcifaaGreatDoor
