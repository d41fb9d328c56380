/-
  laws.FnFormat returns true whatever the code: applying two lists of atoms one after the other is applying their concatenation, at all that the code draws. Conditions: none but the row's own (the tables of unicode that it lists are Go's own).
-/
import Derived.Test.YtnpiphkglhcifaaGreatDoorRows
import Derived.Test.YtnpiphkglhcifaaGreatDoorCards
import Derived.Test.YtnpiphkglhcifaaGreatDoorTie
import Derived.WalkKit
import Derived.ProofKit
import Derived.OpenShut
import Derived.ShutString
import Derived.ChangeOld
import Derived.Below
import Derived.SliceStrings
import Derived.JoinedCond
import Derived.Deep.DeepHandedRow
import Derived.Deep.DeepWitnessRowRef
import Derived.Lib.Hide
import Derived.Lay
import Derived.LaidOnce
import Derived.PinnedBridge
import Derived.LaidMore
import Derived.Lib.LaidTab
import Derived.Stop.LaidErr
import Derived.Test.YtnpiphkglhcifaaGreatDoorBig
import Derived.Test.YtnpiphkglhcifaaGreatDoorDrawFo
import Derived.Test.YtnpiphkglhcifaaGreatDoorFmV
import Derived.Test.YtnpiphkglhcifaaGreatDoorRenP
import Derived.Deep.Cut
namespace Go.Proofs.YtnpiphkglhcifaaGreatDoor.fnFormat
open Go.ChangeShapes Go.WideShapes Go.ChangeAt Go.RowKit
open Go.ChangeMaps (open_string shut_string)
set_option linter.unusedVariables false
set_option maxRecDepth 100000

theorem own : ownKnob Tryz.prog.godebug = none := by kernel_rfl
theorem laidOut : laidOutB Tryz.prog = true := by kernel_rfl

/-- A slice of integers that came in. -/
def IsRow (k : IntKind) (w : World) (a : Option Addr) (len cap : Nat) (zs : List Int) : Prop :=
  (a = none ∧ len = 0 ∧ cap = 0 ∧ zs = []) ∨
  ∃ x, a = some x ∧ len ≤ cap ∧ cap ≤ maxLen ∧ zs.length = cap ∧ (∀ i, i < zs.length → w.cell? (x.add i) = some (.int k (zs.getD i 0))) ∧ ∀ n ∈ zs, (Lit.int k n).wf = true

theorem code_of {w : World} {a : Option Addr} {n c : Nat} {z : List Int} (h : IsRow .u8 w a n c z) (hn : n ≤ 1000000) : CodeAt w a n := by
  refine ⟨hn, fun h0 => ?_⟩
  rcases h with ⟨rfl, rfl, rfl, rfl⟩ | ⟨x, rfl, hl, hm, hz, hcell, hwz⟩
  · omega
  · obtain ⟨b, o, spot⟩ := x
    have h1 := hcell 0 (by omega)
    have hspot : spot = none := by simpa [Addr.add] using World.cell?_spot h1
    subst hspot
    refine ⟨b, o, rfl, ?_, fun i hi => ?_⟩
    · have : (w.cell? ⟨b, o, none⟩).isSome := by have := h1; simp [Addr.add] at this; rw [this]; rfl
      rcases Nat.lt_or_ge b w.heap.size with h' | h'
      · exact h'
      · simp [World.cell?, Array.getElem?_eq_none h'] at this
    · have h2 := hcell i (by omega)
      have h3 := bounds_u8 (hwz (z.getD i 0) (by rw [List.getD_eq_getElem?_getD, List.getElem?_eq_getElem (by omega)]; exact List.getElem_mem _))
      refine ⟨z.getD i 0, h3.1, h3.2, ?_⟩
      by_cases hi0 : i = 0
      · subst hi0; simpa [Addr.add] using h2
      · simpa [Addr.add, hi0] using h2
theorem row_len {w : World} {a : Option Addr} {n c : Nat} {z : List Int} (h : IsRow .u8 w a n c z) : n ≤ maxLen := by
  rcases h with ⟨_, rfl, _, _⟩ | ⟨x, _, hl, hm, _⟩
  · exact Nat.zero_le _
  · omega
theorem atoms_take {w : World} {bk o n c : Nat} {ls : List (Int × ByteArray)} (h : AtomsAt w (.slice (some ⟨bk, o, none⟩) n c) ls) (k : Nat) (hk : k ≤ n) (hn : n = ls.length) : AtomsAt w (.slice (some ⟨bk, o, none⟩) k c) (ls.take k) := by
  obtain ⟨a, cap, hv, hc, h⟩ := h
  cases hv
  refine ⟨_, c, by rw [List.length_take, Nat.min_eq_left (by omega)], by rw [List.length_take]; omega, ?_⟩
  rcases h with h | ⟨b, o', ha, hb, h⟩
  · exact .inl (by rw [h]; simp)
  · refine .inr ⟨b, o', ha, hb, fun j e he => h j e ?_⟩
    rw [List.getElem?_take] at he
    split at he
    · exact he
    · cases he
theorem atoms_drop {w : World} {bk o n c c' : Nat} {ls : List (Int × ByteArray)} (h : AtomsAt w (.slice (some ⟨bk, o, none⟩) n c) ls) (k : Nat) (hk : k < n) (hn : n = ls.length) (hc' : n - k ≤ c') : AtomsAt w (.slice (some ⟨bk, o + k * 2, none⟩) (n - k) c') (ls.drop k) := by
  obtain ⟨a, cap, hv, hc, h⟩ := h
  cases hv
  refine ⟨_, c', by rw [List.length_drop, hn], by rw [List.length_drop]; omega, ?_⟩
  rcases h with h | ⟨b, o', ha, hb, h⟩
  · subst h; simp at hk
  · injection ha with ha
    injection ha with e1 e2
    subst e1 e2
    refine .inr ⟨_, _, rfl, hb, fun j e he => ?_⟩
    rw [List.getElem?_drop] at he
    have := h (k + j) e he
    rw [show o + k * 2 + j * 2 = o + (k + j) * 2 by omega]
    exact this
/-! ### THE WALK: the Go text returns true, and writes nothing that was there. -/
set_option maxRecDepth 100000 in
set_option maxHeartbeats 8000000 in
theorem walk (a0 : Option Addr) (n0 c0 : Nat) (z0 : List Int) (w : World) (hS : w.ShapedOpen Tryz.prog)  (w0 : IsRow .u8 w a0 n0 c0 z0) :
    Calls Tryz.prog 3 #[.slice a0 n0 c0] w fun e w' => e = .returned (.bool true) ∧ Below w.heap.size w w' := by
  have hnm := row_len w0
  by_cases hbig : 65536 < n0
  · have C := Lib.hid (big_yes a0 n0 c0 w hbig hnm)
    clear w0 hS hnm
    go_enter Tryz.func3, Tryz.ntmps3
    go_wp2_with fail
    refine C.out.mono ?_
    rintro e w1 ⟨rfl, rfl⟩
    go_wp2
    go_ret
    exact ⟨rfl, Below.refl _ _⟩
  have C := Lib.hid (big_no a0 n0 c0 w (by omega))
  have HC0 := Lib.hid (code_of w0 (by omega))
  have CD := Lib.hid (fun w h => drawApplyAtoms_any a0 n0 c0 w h)
  have CT := Lib.hid (fun w h => drawApplyAtom_any a0 n0 c0 w h)
  have CV := Lib.hid (fun w h => vAt_any a0 n0 c0 12 w h (by omega) (by omega))
  clear w0 hS hnm hbig
  go_enter Tryz.func3, Tryz.ntmps3
  go_wp2_with fail
  refine C.out.mono ?_
  rintro e w0 ⟨rfl, rfl⟩
  go_wp2_with fail
  refine (CD.out _ HC0.out).mono ?_
  rintro e w1 ⟨⟨s, v, ls, rfl, hss, ho, hl6, hx40⟩, hb⟩
  have hA := ownT_at ho
  obtain ⟨va, vc, rfl, hvc, hnz⟩ := id hA
  have hx : ∀ e ∈ ls, e.2.size ≤ 1048576 := fun e he => by have := hx40 e he; omega
  have ci := fun w h => ApplyAtoms_any s (.slice va ls.length vc) ls w (by omega) h (by omega) hx
  have cs := fun w h => specApplyAtoms_any s (.slice va ls.length vc) ls w (by omega) h (by omega) hx
  have civ := fun w => IsValidState_any s w (by omega)
  have csv := fun w => specIsValidState_any s w (by omega)
  unfold optE at ci cs
  obtain ⟨iv, hiv⟩ : ∃ iv, iv = okSt s := ⟨_, rfl⟩
  rw [← hiv] at civ csv
  obtain ⟨o, ho2⟩ : ∃ o, o = runS s ls := ⟨_, rfl⟩
  rw [← ho2] at ci cs
  obtain ⟨s1, hs1⟩ : ∃ s1, s1 = o.getD St.zero := ⟨_, rfl⟩
  obtain ⟨q, hq⟩ : ∃ q, q = o.isSome := ⟨_, rfl⟩
  rw [← hs1, ← hq] at ci cs
  -- what the law asks of the parts
  have hno : q = false → s1 = St.zero := fun h => by
    rw [hq] at h
    cases o with
    | none => rw [hs1]; rfl
    | some _ => cases h
  have hnil : q = true → ls = [] → s1 = s := fun h hz => by
    rw [hs1, ho2]
    have h2 : (runS s ls).isSome = true := by rw [← ho2, ← hq]; exact h
    subst hz
    unfold runS at h2 ⊢
    split at h2
    · rename_i hc; rw [if_pos hc]; rfl
    · cases h2
  have hpart : q = true → ∀ k, ∃ u, runS s (ls.take k) = some u ∧ u.t.size ≤ 2000 ∧ runS u (ls.drop k) = some s1 ∧ okSt s1 = true ∧ s1.t.size ≤ 2000 := fun h k => by
    have h2 : runS s ls = some s1 := by
      rw [hs1, ← ho2]
      rw [hq] at h
      cases o with
      | none => cases h
      | some x => rfl
    exact run_parts k h2
  have HNo := Lib.hid hno
  have HNil := Lib.hid hnil
  have HPart := Lib.hid hpart
  have hneq := fun w => neqS_same s1 w
  have heql := fun w => eqlS_same s1 w
  obtain ⟨n, hnn⟩ : ∃ n, n = ls.length := ⟨_, rfl⟩
  have HN := Lib.hid hnn
  have HX := Lib.hid hx
  have hpl : ∀ k, (ls.take k).length ≤ 601 ∧ (ls.drop k).length ≤ 601 := fun k => by rw [List.length_take, List.length_drop]; omega
  have HPL := Lib.hid hpl
  rw [← hnn] at ci cs hl6 hvc ⊢
  have A1 : Hid (AtomsAt w1 (.slice va n vc) ls) := by rw [hnn]; exact hA
  have B1 := Lib.hid hb
  have HZ : Hid (ls = [] ∨ ∃ bk o, va = some ⟨bk, o, none⟩) := by
    rcases hnz with h | ⟨bk, o, h, _⟩
    · exact .inl h
    · exact .inr ⟨bk, o, h⟩
  clear hb ho hA hx hx40 hno hnil hpart ho2 hs1 hq hnn hiv hnz hpl C CD
  obtain ⟨t, j, g, c, p⟩ := s
  obtain ⟨t1, j1, g1, k1, p1⟩ := s1
  dsimp only [stV] at hneq heql
  simp only at hss
  have CI := Lib.hid ci
  have CS := Lib.hid cs
  have CIV := Lib.hid civ
  have CSV := Lib.hid csv
  clear ci cs civ csv
  obtain ⟨V, hV⟩ : ∃ V, V = w1.alloc (.cells #[.string t, .bool j, .bool g, .int .i64 c, .int .i64 p] 25) := ⟨_, rfl⟩
  have X1 : Hid (BoxS V w1.heap.size ⟨t, j, g, c, p⟩) := by rw [hV]; exact BoxS.new w1 ⟨t, j, g, c, p⟩
  have A1' : Hid (AtomsAt V (.slice va n vc) ls) := by rw [hV]; exact A1.out.below (below_alS _ _)
  have B1' : Hid (Below w.heap.size w V) := by rw [hV]; exact below_stepS B1.out (below_alS _ _)
  have HV := Lib.hid hV
  clear hV A1 B1
  go_wp2_with fail
  rw [← HV.out]
  refine (CI.out _ A1'.out).mono ?_
  rintro e w2 ⟨rfl, hb⟩
  have X2 := Lib.hid ((X1.out.below hb).below (below_alS w2 (.cells #[.string t1, .bool j1, .bool g1, .int .i64 k1, .int .i64 p1] 25)))
  have A2 := Lib.hid ((A1'.out.below hb).below (below_alS w2 (.cells #[.string t1, .bool j1, .bool g1, .int .i64 k1, .int .i64 p1] 25)))
  have B2 := Lib.hid (below_stepS (below_stepS B1'.out hb) (below_alS w2 (.cells #[.string t1, .bool j1, .bool g1, .int .i64 k1, .int .i64 p1] 25)))
  obtain ⟨c0', c1, c2, c3, c4⟩ := X2.out.cells
  clear hb X1 A1' B1' HV CI
  go_wp2_with fail
  refine (CS.out _ A2.out).mono ?_
  rintro e w3 ⟨rfl, hb⟩
  have T3 := Lib.hid (BoxS.call (s := ⟨t1, j1, g1, k1, p1⟩) hb)
  obtain ⟨W, hW⟩ : ∃ W, W = w3.alloc (.cells #[.string t1, .bool j1, .bool g1, .int .i64 k1, .int .i64 p1] 25) := ⟨_, rfl⟩
  have N3 : Hid (BoxS W w3.heap.size ⟨t1, j1, g1, k1, p1⟩) := by rw [hW]; exact BoxS.new w3 ⟨t1, j1, g1, k1, p1⟩
  have T3' : Hid (BoxS W w2.heap.size ⟨t1, j1, g1, k1, p1⟩) := by rw [hW]; exact T3.out.below (below_alS _ _)
  have X3 : Hid (BoxS W w1.heap.size ⟨t, j, g, c, p⟩) := by rw [hW]; exact (X2.out.below hb).below (below_alS _ _)
  have A3 : Hid (AtomsAt W (.slice va n vc) ls) := by rw [hW]; exact (A2.out.below hb).below (below_alS _ _)
  have B3 : Hid (Below w.heap.size w W) := by rw [hW]; exact below_stepS (below_stepS B2.out hb) (below_alS _ _)
  have HW := Lib.hid hW
  clear hb hW T3 X2 A2 B2 CS c0' c1 c2 c3 c4
  go_wp2_with fail
  rw [← HW.out]
  obtain ⟨X, hX⟩ : ∃ X, X = w1.heap.size := ⟨_, rfl⟩
  obtain ⟨Y, hY⟩ : ∃ Y, Y = w2.heap.size := ⟨_, rfl⟩
  obtain ⟨Z, hZ⟩ : ∃ Z, Z = w3.heap.size := ⟨_, rfl⟩
  rw [← hX] at X3
  rw [← hY] at T3'
  rw [← hZ] at N3
  rw [← hX, ← hY, ← hZ]
  clear HW hX hY hZ
  obtain ⟨c0', c1, c2, c3, c4⟩ := X3.out.cells
  obtain ⟨d0, d1, d2, d3, d4⟩ := T3'.out.cells
  obtain ⟨e0, e1, e2, e3, e4⟩ := N3.out.cells
  have kc0 := cell_regrown c0'
  have kc1 := cell_regrown c1
  have kc2 := cell_regrown c2
  have kc3 := cell_regrown c3
  have kc4 := cell_regrown c4
  have kd0 := cell_regrown d0
  have kd1 := cell_regrown d1
  have kd2 := cell_regrown d2
  have kd3 := cell_regrown d3
  have kd4 := cell_regrown d4
  have ke0 := cell_regrown e0
  have ke1 := cell_regrown e1
  have ke2 := cell_regrown e2
  have ke3 := cell_regrown e3
  have ke4 := cell_regrown e4
  have CIV2 := Lib.hid (fun d os => Calls.regrown_of (CIV.out (Go.Sort.grow (redrawn W d) os)))
  have CSV2 := Lib.hid (fun d os => Calls.regrown_of (CSV.out (Go.Sort.grow (redrawn W d) os)))
  clear CIV CSV
  refine wp_region_quiet_below (by kernel_rfl) (by kernel_rfl) ?_
  repeat (go_big_quiet_step (first | exact CIV2.out _ _ | exact CSV2.out _ _))
  refine wpQuiet_nil ?_
  rintro _ ⟨⟨dq, osq⟩, rfl⟩
  obtain ⟨w4, hw4⟩ : ∃ w4, w4 = Go.Sort.grow (redrawn W dq) osq := ⟨_, rfl⟩
  have hb4 : Below W.heap.size W w4 := by rw [hw4]; exact below_regrown W dq osq
  have X4 := Lib.hid (X3.out.below hb4)
  have T4 := Lib.hid (T3'.out.below hb4)
  have A4 := Lib.hid (A3.out.below hb4)
  have B4 := Lib.hid (below_stepS B3.out hb4)
  rw [← hw4]
  have HCx := Lib.hid (HC0.out.below B4.out)
  clear hb4 hw4 X3 T3' N3 A3 B3 CIV2 CSV2 c0' c1 c2 c3 c4 d0 d1 d2 d3 d4 e0 e1 e2 e3 e4 kc0 kc1 kc2 kc3 kc4 kd0 kd1 kd2 kd3 kd4 ke0 ke1 ke2 ke3 ke4
  go_wp2_with fail
  refine (CT.out _ HCx.out).mono ?_
  rintro e w5 ⟨⟨s5, k5, a5, rfl, hs5, ha5⟩, hb⟩
  have X5 := Lib.hid (X4.out.below hb)
  have T5 := Lib.hid (T4.out.below hb)
  have A5 := Lib.hid (A4.out.below hb)
  have B5 := Lib.hid (below_stepS B4.out hb)
  clear hb X4 T4 A4 B4 HCx CT
  have ci := fun w => ApplyAtom_any s5 k5 a5 w (by omega) (by omega)
  have cs := fun w => specApplyAtom_any s5 k5 a5 w (by omega) (by omega)
  unfold optE at ci cs
  obtain ⟨o5, ho5⟩ : ∃ o5, o5 = stepS s5 (k5, a5) := ⟨_, rfl⟩
  rw [← ho5] at ci cs
  obtain ⟨s6, hs6⟩ : ∃ s6, s6 = o5.getD St.zero := ⟨_, rfl⟩
  obtain ⟨q6, hq6⟩ : ∃ q6, q6 = o5.isSome := ⟨_, rfl⟩
  rw [← hs6, ← hq6] at ci cs
  have hneq6 := fun w => neqS_same s6 w
  obtain ⟨t5, j5, g5, m5, p5⟩ := s5
  obtain ⟨t6, j6, g6, k6, p6⟩ := s6
  dsimp only [stV] at hneq6
  have CI := Lib.hid ci
  have CS := Lib.hid cs
  clear ci cs ho5 hs6 hq6
  obtain ⟨W5, hW5⟩ : ∃ W5, W5 = (w5.alloc (.cells #[.string t5, .bool j5, .bool g5, .int .i64 m5, .int .i64 p5] 25)).alloc (.cells #[.int .i64 k5, .string a5] 33) := ⟨_, rfl⟩
  have U5 : Hid (BoxS W5 w5.heap.size ⟨t5, j5, g5, m5, p5⟩) := by rw [hW5]; exact (BoxS.new w5 ⟨t5, j5, g5, m5, p5⟩).below (below_alS _ _)
  have V5 : Hid (BoxT W5 (w5.heap.size + 1) k5 a5) := by rw [hW5]; have := BoxT.new (w5.alloc (.cells #[.string t5, .bool j5, .bool g5, .int .i64 m5, .int .i64 p5] 25)) k5 a5; rw [World.size_alloc] at this; exact this
  have X6 : Hid (BoxS W5 X ⟨t, j, g, c, p⟩) := by rw [hW5]; exact X5.out.below (below_al2S _ _ _)
  have T6 : Hid (BoxS W5 Y ⟨t1, j1, g1, k1, p1⟩) := by rw [hW5]; exact T5.out.below (below_al2S _ _ _)
  have A6 : Hid (AtomsAt W5 (.slice va n vc) ls) := by rw [hW5]; exact A5.out.below (below_al2S _ _ _)
  have B6 : Hid (Below w.heap.size w W5) := by rw [hW5]; exact below_stepS B5.out (below_al2S _ _ _)
  have HW5 := Lib.hid hW5
  clear hW5 X5 T5 A5 B5
  go_wp2_with fail
  rw [← HW5.out]
  refine (CI.out _).mono ?_
  rintro e w7 ⟨rfl, hb⟩
  have U7 := Lib.hid ((U5.out.below hb).below (below_alS w7 (.cells #[.string t6, .bool j6, .bool g6, .int .i64 k6, .int .i64 p6] 25)))
  have V7 := Lib.hid ((V5.out.below hb).below (below_alS w7 (.cells #[.string t6, .bool j6, .bool g6, .int .i64 k6, .int .i64 p6] 25)))
  have X7 := Lib.hid ((X6.out.below hb).below (below_alS w7 (.cells #[.string t6, .bool j6, .bool g6, .int .i64 k6, .int .i64 p6] 25)))
  have T7 := Lib.hid ((T6.out.below hb).below (below_alS w7 (.cells #[.string t6, .bool j6, .bool g6, .int .i64 k6, .int .i64 p6] 25)))
  have A7 := Lib.hid ((A6.out.below hb).below (below_alS w7 (.cells #[.string t6, .bool j6, .bool g6, .int .i64 k6, .int .i64 p6] 25)))
  have B7 := Lib.hid (below_stepS (below_stepS B6.out hb) (below_alS w7 (.cells #[.string t6, .bool j6, .bool g6, .int .i64 k6, .int .i64 p6] 25)))
  obtain ⟨c0', c1, c2, c3, c4⟩ := U7.out.cells
  obtain ⟨d0, d1⟩ := V7.out.cells
  clear hb U5 V5 X6 T6 A6 B6 HW5 CI
  go_wp2_with fail
  refine (CS.out _).mono ?_
  rintro e w8 ⟨rfl, hb⟩
  have M8 := Lib.hid (BoxS.call (s := ⟨t6, j6, g6, k6, p6⟩) hb)
  obtain ⟨m0, m1, m2, m3, m4⟩ := M8.out.cells
  have hml := M8.out.lt
  have X8 := Lib.hid ((X7.out.below hb).below (below_alS w8 (.cells #[.string t6, .bool j6, .bool g6, .int .i64 k6, .int .i64 p6] 25)))
  have T8 := Lib.hid ((T7.out.below hb).below (below_alS w8 (.cells #[.string t6, .bool j6, .bool g6, .int .i64 k6, .int .i64 p6] 25)))
  have A8 := Lib.hid ((A7.out.below hb).below (below_alS w8 (.cells #[.string t6, .bool j6, .bool g6, .int .i64 k6, .int .i64 p6] 25)))
  have B8 := Lib.hid (below_stepS (below_stepS B7.out hb) (below_alS w8 (.cells #[.string t6, .bool j6, .bool g6, .int .i64 k6, .int .i64 p6] 25)))
  clear hb U7 V7 X7 T7 A7 B7 CS c0' c1 c2 c3 c4 d0 d1
  obtain ⟨c0', c1, c2, c3, c4⟩ := X8.out.cells
  obtain ⟨d0, d1, d2, d3, d4⟩ := T8.out.cells
  cases q
  · have hz := HNo.out rfl
    injection hz with z1 z2 z3 z4 z5
    subst z1 z2 z3 z4 z5
    clear HNo HNil HPart
    go_wp2
    go_ret
    exact ⟨rfl, B8.out⟩
  by_cases hz : ls = []
  · have he := HNil.out rfl hz
    injection he with z1 z2 z3 z4 z5
    subst z1 z2 z3 z4 z5
    have hn0 : n = 0 := by rw [HN.out, hz]; rfl
    subst hn0
    clear HNo HNil HPart hz
    go_wp2
    go_ret
    exact ⟨rfl, B8.out⟩
  have hpos : 0 < n := by rw [HN.out]; exact List.length_pos_iff.2 hz
  have hne0 : ((n : Int) == 0) = false := by rw [beq_eq_false_iff_ne]; omega
  have hne1 : (n : Int) ≠ 0 := by omega
  obtain ⟨bk, oo, rfl⟩ := HZ.out.resolve_left hz
  have HCy := Lib.hid (HC0.out.below B8.out)
  clear HNo HNil HZ hz hneq
  go_wp2_with fail
  refine (CV.out _ HCy.out).mono ?_
  rintro e w9 ⟨⟨r, hr, rfl⟩, hw9⟩
  obtain ⟨W9, hW9⟩ : ∃ W9, W9 = w8.alloc (.cells #[.string t6, .bool j6, .bool g6, .int .i64 k6, .int .i64 p6] 25) := ⟨_, rfl⟩
  rw [← hW9] at hw9 X8 T8 A8 B8 c0' c1 c2 c3 c4 d0 d1 d2 d3 d4
  subst hw9
  clear hneq6 m0 m1 m2 m3 m4 hml M8
  obtain ⟨k, hk, hkn⟩ : ∃ k : Nat, (r : Int) % (n : Int) = (k : Int) ∧ k < n := ⟨r % n, by rw [Int.natCast_emod], Nat.mod_lt _ hpos⟩
  obtain ⟨⟨tu, ju, gu, ku, pu⟩, hu1, hu2, hu3, hu4, hu5⟩ := HPart.out (by first | rfl | trivial) k
  simp only at hu2 hu5
  have cu := fun w h => ApplyAtoms_any ⟨t, j, g, c, p⟩ (.slice (some ⟨bk, oo, none⟩) k vc) (ls.take k) w (by show t.size ≤ _; omega) h (by have := (HPL.out k).1; omega) (fun e he => HX.out e (List.mem_of_mem_take he))
  have cv := fun c' w h => ApplyAtoms_any ⟨tu, ju, gu, ku, pu⟩ (.slice (some ⟨bk, oo + k * 2, none⟩) (n - k) c') (ls.drop k) w (by show tu.size ≤ _; omega) h (by have := (HPL.out k).2; omega) (fun e he => HX.out e (List.mem_of_mem_drop he))
  unfold optE at cu cv
  rw [hu1] at cu
  rw [hu3] at cv
  dsimp only [Option.getD, Option.isSome] at cu cv
  have cw := fun w => IsValidState_any ⟨t1, j1, g1, k1, p1⟩ w (by show t1.size ≤ _; omega)
  rw [hu4] at cw
  have CU := Lib.hid cu
  have CVV := Lib.hid cv
  have CW := Lib.hid cw
  have HTk := Lib.hid (fun wr (h : AtomsAt wr (.slice (some ⟨bk, oo, none⟩) n vc) ls) => atoms_take h k (by omega) HN.out)
  have HDk := Lib.hid (fun wr c' hc (h : AtomsAt wr (.slice (some ⟨bk, oo, none⟩) n vc) ls) => atoms_drop (c' := c') h k hkn HN.out hc)
  clear cu cv cw hu1 hu2 hu3 hu4 hu5 HPart HPL HX HCy CV hW9
  -- the first part
  have kc0 := cell_regrown c0'
  have kc1 := cell_regrown c1
  have kc2 := cell_regrown c2
  have kc3 := cell_regrown c3
  have kc4 := cell_regrown c4
  go_upto_region 16 with fail
  rw [hk]
  clear hk
  go_cut [16, 17] from 20 (fun va1 vb1 wx => ∃ B0, va1 = .pointer (some ⟨B0, 0, none⟩) ∧ vb1 = .bool true ∧ Hid (W9.heap.size ≤ B0) ∧ Hid (BoxS wx B0 ⟨tu, ju, gu, ku, pu⟩) ∧ Hid (Below W9.heap.size W9 wx))
  case first =>
    have D_W9 : Hid (Below W9.heap.size W9 W9.drew) := below_drewS (Below.refl _ _)
    refine Mx.wp_region_mixed (Mx.ofL [(0, 1), (1, 0), (2, 0), (3, 0)] (.fork 4 3 (Mx.ofL [(5, 0), (6, 0), (7, 0), (8, 2), (9, 3), (10, 0)] .done) 8 2 (Mx.ofL [(4, 3), (5, 0), (6, 0), (7, 0), (9, 3), (10, 0)] .done))) (by kernel_rfl) (by kernel_rfl) ?_
    repeat ((first | refine Mx.mix0 rfl ?_ | refine Mx.mix1 rfl ?_); go_big_quiet_step (fail); refine wpQuiet_nil ?_)
    clear kc0 kc1 kc2 kc3 kc4
    refine Mx.mixF rfl rfl ?Fxa ?Fxd
    case' Fxa =>
      go_wp2_with fail
      refine (CU.out W9.drew (HTk.out _ (A8.out.below D_W9.out))).mono ?_
      rintro e wa1 ⟨rfl, hb⟩
      have D_wa1 : Hid (Below W9.heap.size W9 wa1) := D_W9.out.trans (hb.mono D_W9.out.size)
      have G_wa1 := Lib.hid (regrown_of_below D_wa1.out)
      clear hb
      go_wp2
      refine Mx.mid_normal (fun q => (by first | exact G_wa1.out | cases q | exact absurd q (by decide))) ?_
      repeat ((first | refine Mx.mix0 rfl ?_ | refine Mx.mix1 rfl ?_); go_big_quiet_step (fail); refine wpQuiet_nil ?_)
      refine Mx.mix2 rfl ?_
      go_wp2_with fail
      obtain ⟨wa2, hW⟩ : ∃ W, W = World.alloc wa1 (.cells #[.string ⟨#[]⟩, .bool false, .bool false, .int .i64 0, .int .i64 0] 25) := ⟨_, rfl⟩
      have hbA : Below wa1.heap.size wa1 wa2 := by rw [hW]; exact below_alS _ _
      have D_wa2 : Hid (Below W9.heap.size W9 wa2) := D_wa1.out.trans (hbA.mono D_wa1.out.size)
      have Q_wa2 : Hid (BoxS wa2 wa1.heap.size St.zero) := by rw [hW]; exact BoxS.new wa1 St.zero
      have L_wa2 : Hid (W9.heap.size ≤ wa1.heap.size) := D_wa1.out.size
      have G_wa2 := Lib.hid (regrown_of_below D_wa2.out)
      rw [← hW]
      refine Mx.mid_normal (fun q => (by first | exact G_wa2.out | cases q | exact absurd q (by decide))) ?_
      clear hW hbA
      repeat ((first | refine Mx.mix0 rfl ?_ | refine Mx.mix1 rfl ?_); go_big_quiet_step (fail); refine wpQuiet_nil ?_)
      refine Mx.mix3 rfl ?_
      go_wp2_with (with_reducible (show wpList _ _ _ (_ :: _) _ _); refine at_storeS rfl _ _ rfl wa1.heap.size ⟨tu, ju, gu, ku, pu⟩ St.zero rfl rfl Q_wa2.out ?_)
      refine Mx.mid_normal (fun q => by cases q) ?_
      repeat ((first | refine Mx.mix0 rfl ?_ | refine Mx.mix1 rfl ?_); go_big_quiet_step (fail); refine wpQuiet_nil ?_)
      refine Mx.mix_nil ?_
      have Q9 := Lib.hid (Q_wa2.out.set ⟨tu, ju, gu, ku, pu⟩)
      have D9 := Lib.hid (below_setRow D_wa2.out L_wa2.out (stC ⟨tu, ju, gu, ku, pu⟩))
      have L9 := L_wa2
      go_wp2_with fail
      go_meet
      case rel => exact ⟨_, rfl, rfl, L9, Q9, D9⟩
    case' Fxd =>
      go_wp2_with fail
      obtain ⟨wa3, hW⟩ : ∃ W, W = (World.alloc W9 (.cells #[.string ⟨#[]⟩, .bool false, .bool false, .int .i64 0, .int .i64 0] 25)).drew := ⟨_, rfl⟩
      have D_wa3 : Hid (Below W9.heap.size W9 wa3) := by rw [hW]; exact below_drewS (below_alS _ _)
      have Q_wa3 : Hid (BoxS wa3 W9.heap.size St.zero) := by rw [hW]; exact BoxS.new W9 St.zero
      have L_wa3 : Hid (W9.heap.size ≤ W9.heap.size) := Nat.le_refl _
      have G_wa3 := Lib.hid (regrown_of_below D_wa3.out)
      rw [← hW]
      refine Mx.mid_normal (fun q => (by first | exact G_wa3.out | cases q | exact absurd q (by decide))) ?_
      clear hW
      refine Mx.mix3 rfl ?_
      go_wp2_with fail
      refine (CU.out wa3 (HTk.out _ (A8.out.below D_wa3.out))).mono ?_
      rintro e wa4 ⟨rfl, hb⟩
      have D_wa4 : Hid (Below W9.heap.size W9 wa4) := D_wa3.out.trans (hb.mono D_wa3.out.size)
      have Q_wa4 := Lib.hid (Q_wa3.out.below hb)
      have L_wa4 := L_wa3
      have G_wa4 := Lib.hid (regrown_of_below D_wa4.out)
      clear hb
      go_wp2
      refine Mx.mid_normal (fun q => (by first | exact G_wa4.out | cases q | exact absurd q (by decide))) ?_
      repeat ((first | refine Mx.mix0 rfl ?_ | refine Mx.mix1 rfl ?_); go_big_quiet_step (fail); refine wpQuiet_nil ?_)
      refine Mx.mix3 rfl ?_
      go_wp2_with (with_reducible (show wpList _ _ _ (_ :: _) _ _); refine at_storeS rfl _ _ rfl W9.heap.size ⟨tu, ju, gu, ku, pu⟩ St.zero rfl rfl Q_wa4.out ?_)
      refine Mx.mid_normal (fun q => by cases q) ?_
      repeat ((first | refine Mx.mix0 rfl ?_ | refine Mx.mix1 rfl ?_); go_big_quiet_step (fail); refine wpQuiet_nil ?_)
      refine Mx.mix_nil ?_
      have Q9 := Lib.hid (Q_wa4.out.set ⟨tu, ju, gu, ku, pu⟩)
      have D9 := Lib.hid (below_setRow D_wa4.out L_wa4.out (stC ⟨tu, ju, gu, ku, pu⟩))
      have L9 := L_wa4
      go_wp2_with fail
      go_meet
      case rel => exact ⟨_, rfl, rfl, L9, Q9, D9⟩
  case rest =>
    obtain ⟨B0, rfl, rfl, L3, P3, D3⟩ := hcut
    obtain ⟨w10, hw10⟩ : ∃ w10, w10 = wc := ⟨_, rfl⟩
    rw [← hw10] at P3 D3 ⊢
    clear hw10
    have T10 := Lib.hid (T8.out.below D3.out)
    have A10 := Lib.hid (A8.out.below D3.out)
    have B10 := Lib.hid (below_stepS B8.out D3.out)
    clear c0' c1 c2 c3 c4 kc0 kc1 kc2 kc3 kc4 d0 d1 d2 d3 d4 X8 T8 A8 B8
    obtain ⟨c0', c1, c2, c3, c4⟩ := P3.out.cells
    have kc0 := cell_regrown c0'
    have kc1 := cell_regrown c1
    have kc2 := cell_regrown c2
    have kc3 := cell_regrown c3
    have kc4 := cell_regrown c4
    go_upto_region 17 with fail
    go_cut [18, 19] from 20 (fun va1 vb1 wx => ∃ B0, va1 = .pointer (some ⟨B0, 0, none⟩) ∧ vb1 = .bool true ∧ Hid (w10.heap.size ≤ B0) ∧ Hid (BoxS wx B0 ⟨t1, j1, g1, k1, p1⟩) ∧ Hid (Below w10.heap.size w10 wx))
    case first =>
      have D_w10 : Hid (Below w10.heap.size w10 w10.drew) := below_drewS (Below.refl _ _)
      refine Mx.wp_region_mixed (Mx.ofL [(0, 1), (1, 0), (2, 0), (3, 0)] (.fork 4 3 (Mx.ofL [(5, 0), (6, 0), (7, 0), (8, 2), (9, 3), (10, 0)] .done) 8 2 (Mx.ofL [(4, 3), (5, 0), (6, 0), (7, 0), (9, 3), (10, 0)] .done))) (by kernel_rfl) (by kernel_rfl) ?_
      repeat ((first | refine Mx.mix0 rfl ?_ | refine Mx.mix1 rfl ?_); go_big_quiet_step (fail); refine wpQuiet_nil ?_)
      clear kc0 kc1 kc2 kc3 kc4
      refine Mx.mixF rfl rfl ?Fya ?Fyd
      case' Fya =>
        go_wp2_with fail
        refine (CVV.out _ w10.drew (HDk.out _ _ (by omega) (A10.out.below D_w10.out))).mono ?_
        rintro e wa1 ⟨rfl, hb⟩
        have D_wa1 : Hid (Below w10.heap.size w10 wa1) := D_w10.out.trans (hb.mono D_w10.out.size)
        have G_wa1 := Lib.hid (regrown_of_below D_wa1.out)
        clear hb
        go_wp2
        refine Mx.mid_normal (fun q => (by first | exact G_wa1.out | cases q | exact absurd q (by decide))) ?_
        repeat ((first | refine Mx.mix0 rfl ?_ | refine Mx.mix1 rfl ?_); go_big_quiet_step (fail); refine wpQuiet_nil ?_)
        refine Mx.mix2 rfl ?_
        go_wp2_with fail
        obtain ⟨wa2, hW⟩ : ∃ W, W = World.alloc wa1 (.cells #[.string ⟨#[]⟩, .bool false, .bool false, .int .i64 0, .int .i64 0] 25) := ⟨_, rfl⟩
        have hbA : Below wa1.heap.size wa1 wa2 := by rw [hW]; exact below_alS _ _
        have D_wa2 : Hid (Below w10.heap.size w10 wa2) := D_wa1.out.trans (hbA.mono D_wa1.out.size)
        have Q_wa2 : Hid (BoxS wa2 wa1.heap.size St.zero) := by rw [hW]; exact BoxS.new wa1 St.zero
        have L_wa2 : Hid (w10.heap.size ≤ wa1.heap.size) := D_wa1.out.size
        have G_wa2 := Lib.hid (regrown_of_below D_wa2.out)
        rw [← hW]
        refine Mx.mid_normal (fun q => (by first | exact G_wa2.out | cases q | exact absurd q (by decide))) ?_
        clear hW hbA
        repeat ((first | refine Mx.mix0 rfl ?_ | refine Mx.mix1 rfl ?_); go_big_quiet_step (fail); refine wpQuiet_nil ?_)
        refine Mx.mix3 rfl ?_
        go_wp2_with (with_reducible (show wpList _ _ _ (_ :: _) _ _); refine at_storeS rfl _ _ rfl wa1.heap.size ⟨t1, j1, g1, k1, p1⟩ St.zero rfl rfl Q_wa2.out ?_)
        refine Mx.mid_normal (fun q => by cases q) ?_
        repeat ((first | refine Mx.mix0 rfl ?_ | refine Mx.mix1 rfl ?_); go_big_quiet_step (fail); refine wpQuiet_nil ?_)
        refine Mx.mix_nil ?_
        have Q9 := Lib.hid (Q_wa2.out.set ⟨t1, j1, g1, k1, p1⟩)
        have D9 := Lib.hid (below_setRow D_wa2.out L_wa2.out (stC ⟨t1, j1, g1, k1, p1⟩))
        have L9 := L_wa2
        go_wp2_with fail
        go_meet
        case rel => exact ⟨_, rfl, rfl, L9, Q9, D9⟩
      case' Fyd =>
        go_wp2_with fail
        obtain ⟨wa3, hW⟩ : ∃ W, W = (World.alloc w10 (.cells #[.string ⟨#[]⟩, .bool false, .bool false, .int .i64 0, .int .i64 0] 25)).drew := ⟨_, rfl⟩
        have D_wa3 : Hid (Below w10.heap.size w10 wa3) := by rw [hW]; exact below_drewS (below_alS _ _)
        have Q_wa3 : Hid (BoxS wa3 w10.heap.size St.zero) := by rw [hW]; exact BoxS.new w10 St.zero
        have L_wa3 : Hid (w10.heap.size ≤ w10.heap.size) := Nat.le_refl _
        have G_wa3 := Lib.hid (regrown_of_below D_wa3.out)
        rw [← hW]
        refine Mx.mid_normal (fun q => (by first | exact G_wa3.out | cases q | exact absurd q (by decide))) ?_
        clear hW
        refine Mx.mix3 rfl ?_
        go_wp2_with fail
        refine (CVV.out _ wa3 (HDk.out _ _ (by omega) (A10.out.below D_wa3.out))).mono ?_
        rintro e wa4 ⟨rfl, hb⟩
        have D_wa4 : Hid (Below w10.heap.size w10 wa4) := D_wa3.out.trans (hb.mono D_wa3.out.size)
        have Q_wa4 := Lib.hid (Q_wa3.out.below hb)
        have L_wa4 := L_wa3
        have G_wa4 := Lib.hid (regrown_of_below D_wa4.out)
        clear hb
        go_wp2
        refine Mx.mid_normal (fun q => (by first | exact G_wa4.out | cases q | exact absurd q (by decide))) ?_
        repeat ((first | refine Mx.mix0 rfl ?_ | refine Mx.mix1 rfl ?_); go_big_quiet_step (fail); refine wpQuiet_nil ?_)
        refine Mx.mix3 rfl ?_
        go_wp2_with (with_reducible (show wpList _ _ _ (_ :: _) _ _); refine at_storeS rfl _ _ rfl w10.heap.size ⟨t1, j1, g1, k1, p1⟩ St.zero rfl rfl Q_wa4.out ?_)
        refine Mx.mid_normal (fun q => by cases q) ?_
        repeat ((first | refine Mx.mix0 rfl ?_ | refine Mx.mix1 rfl ?_); go_big_quiet_step (fail); refine wpQuiet_nil ?_)
        refine Mx.mix_nil ?_
        have Q9 := Lib.hid (Q_wa4.out.set ⟨t1, j1, g1, k1, p1⟩)
        have D9 := Lib.hid (below_setRow D_wa4.out L_wa4.out (stC ⟨t1, j1, g1, k1, p1⟩))
        have L9 := L_wa4
        go_wp2_with fail
        go_meet
        case rel => exact ⟨_, rfl, rfl, L9, Q9, D9⟩
    case rest =>
      obtain ⟨B1, rfl, rfl, L4, P4, D4⟩ := hcut
      have T11 := Lib.hid (T10.out.below D4.out)
      have B11 := Lib.hid (below_stepS B10.out D4.out)
      clear c0' c1 c2 c3 c4 kc0 kc1 kc2 kc3 kc4 T10 A10 B10 P3
      obtain ⟨d0, d1, d2, d3, d4⟩ := T11.out.cells
      obtain ⟨e0, e1, e2, e3, e4⟩ := P4.out.cells
      have CW2 := Lib.hid (fun d os => Calls.regrown_of (CW.out (Go.Sort.grow (redrawn wc d) os)))
      go_wp2_with fail
      refine (CW.out _).mono ?_
      rintro e wz ⟨rfl, hb⟩
      have BZ := Lib.hid (below_stepS B11.out hb)
      clear hb
      go_wp2
      go_ret
      exact ⟨rfl, BZ.out⟩

/-! ### THE ROW's STEP -/
set_option maxRecDepth 100000 in
theorem contract (H : Type) (enc : TypeId × Value → H) (W : World) (base : Nat) (args : Array Value) (ds gs : List (DataW H)) (before : List MemPlace)
    (hval : ∀ (j : Nat) t v, Tryz.f3.params[j]? = some t → args[j]? = some v → Value.okWide Tryz.prog W .any base t v)
    (hW : DataW.Whole enc Tryz.prog Tryz.f3.params.toList Rows.fnFormatSpec.vars false W args.toList ds gs before) (hL : laidMetH Tryz.prog Rows.fnFormatRow.laid W) (hS : W.ShapedOpen Tryz.prog) :
    Calls Tryz.prog 3 args W fun e W' => ∃ v, e = .returned v ∧ Rows.fnFormatSpec.post enc Tryz.prog Tryz.f3 false true false false W args v W' := by
  have hW' := hW
  obtain ⟨p, q, hA0, hV, rfl, hfz, hnd⟩ := hW
  have hA : DataW.TrodAll enc Tryz.prog W 0 (fun _ => true) true Tryz.f3.params.toList args.toList ds p := hA0
  rw [Tryz.params3] at hA hval
  obtain ⟨v0, vs0, d0, ds0, p0, q0, hargs, rfl, rfl, h0, r0⟩ := trodAll_cons hA
  obtain ⟨rfl, rfl, rfl⟩ := trodAll_nil r0
  obtain rfl : args = #[v0] := by cases args; simp_all
  obtain ⟨rfl, rfl⟩ := trodVars_none hV
  have k0 := h0
  have lt0 : ∀ x ∈ p0, x.block < W.heap.size := by obtain ⟨m, hm⟩ := k0; exact DataW.trod_lt m _ _ _ hm
  obtain ⟨a0, n0, c0, rfl⟩ := okWide_slice Tryz.underlying22 (hval 0 22 v0 rfl rfl)
  obtain ⟨z0, w0⟩ : ∃ zs, IsRow .u8 W a0 n0 c0 zs := by
    obtain ⟨fuel, hf⟩ := h0
    rcases open_ints Tryz.underlying22 Tryz.underlying5 (by kernel_rfl) hf with ⟨hcs, _⟩ | ⟨x, l, c, zs, hcs, _, hl, hm, hz, _, hcell, hwz⟩
    · simp [Value.cells] at hcs
      obtain ⟨rfl, rfl, rfl⟩ := hcs
      exact ⟨[], .inl ⟨rfl, rfl, rfl, rfl⟩⟩
    · simp [Value.cells] at hcs
      obtain ⟨rfl, rfl, rfl⟩ := hcs
      exact ⟨zs, .inr ⟨_, rfl, hl, hm, by simpa using hz, hcell, hwz⟩⟩
  clear hA0 hval
  refine (walk a0 n0 c0 z0 W hS  w0).mono fun e W' ⟨he, bel⟩ => ?_
  subst he
  exact ⟨_, rfl, _, _, _, [], _, [], hW', trodAll_mk1 (shut_bool Tryz.underlying4 _), (trodAll_cons_mk (Below.trod laidOut (by kernel_rfl) (of_decide_eq_true (by kernel_rfl)) k0 bel lt0) trodAll_mk0), rfl, bel.frame _, fun h => by cases h⟩

/-- There is an input that fits, at a world that is shown to be shaped. -/
theorem witness_row_shaped {H : Type} {enc : TypeId × Value → H} {C : Checked} {os : Os} {f : FuncId} {fn : Func} {s : OpenSpec} {conds : List PathCond} {apart : Bool} {laid : List (String × DataW Unit)} (modest : Bool) (w0 : World) (args : Array Value) (hos : w0.os = os)
    (hsh : (w0.forCall (fun _ _ => 0) ⟨#[], args, []⟩).Shaped C.prog)
    (hok : Input.okWideB C.prog (w0.forCall (fun _ _ => 0) ⟨#[], args, []⟩) f ⟨#[], args, []⟩ = true)
    (hrow : s.preRow enc C.prog fn conds apart laid (w0.forCall (fun _ _ => 0) ⟨#[], args, []⟩).memory args) :
    ∃ (w : World) (tape : Tape) (i : Input), w.os = os ∧ (w.forCall tape i).Shaped C.prog ∧ i.vars = [] ∧ Input.okWide C.prog (w.forCall tape i) .any w.heap.size f i ∧
      s.preRow enc C.prog fn conds apart laid (w.forCall tape i).memory i.args ∧ ({ modest := modest } : Assume).holds C.prog (lone (Frame.enter C.prog f i.args .normal) [] (w.forCall tape i)) :=
  ⟨w0, fun _ _ => 0, ⟨#[], args, []⟩, hos, hsh, (Input.okWide_of_okWideB (base := 0) hok).1, (Input.okWide_of_okWideB hok).2, hrow, by
    simp only [Assume.holds]
    exact ⟨by simp, by simp, fun _ => Modest.zero, by simp, by simp⟩⟩
theorem reads (os : Os) {H : Type} (enc : TypeId × Value → H) : ∃ places, DataW.whole enc Tryz.prog ((World.laidAll Tryz.prog os Rows.fnFormatRow.laid).forCall (fun _ _ => 0) ⟨#[], #[.slice none 0 0], []⟩).memory Tryz.f3.params.toList Rows.fnFormatSpec.vars false (#[.slice none 0 0] : Array Value).toList 8 = some ([.nil], [], places) :=
  ⟨[], by kernel_rfl⟩

set_option maxRecDepth 100000 in
theorem lifted (os : Os) (started : os.Started) (H : Type) (enc : TypeId × Value → H) (F : Stop.Interp) :
    ReturnsInHanded {} Tryz.checked os 3 .any ((OpenSpec.ofChange Rows.fnFormatSpec).preRow enc Tryz.prog Tryz.f3 Rows.fnFormatRow.domain false Rows.fnFormatRow.laid) (((OpenSpec.ofChange Rows.fnFormatSpec).at F).post enc Tryz.prog Tryz.f3 false true false false) := by
  obtain ⟨places, hx⟩ := reads os enc
  refine returnsInHanded_of_row (C := Tryz.checked) (s := OpenSpec.ofChange Rows.fnFormatSpec) own started (by kernel_rfl) Tryz.func3
    (witness_row_shaped (enc := enc) (C := Tryz.checked) false (World.laidAll Tryz.prog os Rows.fnFormatRow.laid) #[.slice none 0 0] (World.laidAll_os _ _ _) (World.shaped_of_ZipB (by kernel_rfl) (by kernel_rfl)) (by kernel_rfl)
      (OpenSpec.preRow_of_cond 8 hx (by kernel_rfl) (fun k hk => by cases hk) (by kernel_rfl) (by rw [MakeChecks.laidMetH_plain _ _ _ (by kernel_rfl)]; exact laidMet_laidAll _ (by kernel_rfl) (by kernel_rfl)))) ?_
  intro W base args ds gs before hval hW _ _ _ hL hS _
  exact contract H enc W base args ds gs before hval hW hL hS

theorem said : Rows.FnFormatSaid :=
  OpenClaim.holds_of_cond 3 Tryz.f3 rfl rfl rfl rfl rfl rfl rfl ⟨rfl, rfl, rfl, rfl, rfl⟩ rfl rfl rfl rfl rfl (by kernel_rfl) Tryz.func3 (by kernel_rfl)
    (of_decide_eq_true (by kernel_rfl)) (by unfold Func.isWrapper; first | (rw [if_pos (by decide +kernel)]; kernel_rfl) | (rw [if_neg (by decide +kernel)]; exact ⟨rfl, rfl⟩))
    (fun os started H enc _ F => by rw [OpenClaim.pre_eq_preRow]; exact lifted os started H enc F)

theorem plain (f : FuncId) (fn : Func) (hf : Tryz.pinned.checked.prog.funcNamed "loop.example/g00882/laws.FnFormat" = some f) (hfn : Tryz.pinned.checked.prog.funcs[f]? = some fn) :
    false = Tryz.pinned.checked.prog.looks [] ∧ ∀ (j : Nat) t, fn.params[j]? = some t → Tryz.pinned.checked.prog.wantsStandIn t = false := by
  obtain rfl : f = 3 := Option.some.inj ((show Tryz.prog.funcNamed "loop.example/g00882/laws.FnFormat" = some 3 by kernel_rfl).symm.trans hf) |>.symm
  obtain rfl : fn = Tryz.f3 := (Option.some.inj (Tryz.func3.symm.trans hfn)).symm
  refine ⟨by kernel_rfl, fun j t ht => ?_⟩
  rw [Tryz.params3] at ht
  have hm : t ∈ [22] := by have := Array.mem_of_getElem? ht; simpa using this
  have hall : ([22].all fun u => !Tryz.prog.wantsStandIn u) = true := by kernel_rfl
  exact (show Tryz.prog.wantsStandIn t = false by simpa using List.all_eq_true.1 hall t hm)

/-- THE TIED CARD. -/
theorem proved : Rows.FnFormatCardSaid :=
  Claim7.holds_tied_plain_at .later [] _ _ _ _ said (fun _ h => by cases h) (by kernel_rfl) (fun _ h => by cases h) fnFormat_row_tie rfl ⟨rfl, rfl⟩ (by kernel_rfl) rfl plain (by kernel_rfl)
#print axioms proved
end Go.Proofs.YtnpiphkglhcifaaGreatDoor.fnFormat
