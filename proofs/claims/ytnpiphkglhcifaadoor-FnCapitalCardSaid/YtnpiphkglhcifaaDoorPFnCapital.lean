/-
  laws.FnCapital returns true whatever the code: the word after a full stop begins with a capital, and the last word of a state is the end of its text, at all that the code draws. Conditions: none but the row's own (the tables of unicode that it lists are Go's own).
-/
import Derived.Test.YtnpiphkglhcifaaDoorRows
import Derived.Test.YtnpiphkglhcifaaDoorCards
import Derived.Test.YtnpiphkglhcifaaDoorTie
import Derived.WalkKit
import Derived.ProofKit
import Derived.OpenShut
import Derived.ShutString
import Derived.ChangeOld
import Derived.Below
import Derived.SliceStrings
import Derived.JoinedCond
import Derived.Deep.DeepHandedRow
import Derived.Deep.DeepWitnessRowRef
import Derived.Lib.Hide
import Derived.Lay
import Derived.LaidOnce
import Derived.PinnedBridge
import Derived.LaidMore
import Derived.Lib.LaidTab
import Derived.Stop.LaidErr
import Derived.Test.YtnpiphkglhcifaaDoorBig
import Derived.Test.YtnpiphkglhcifaaDoorDrawFm
import Derived.Test.YtnpiphkglhcifaaDoorFmV
namespace Go.Proofs.YtnpiphkglhcifaaDoor.fnCapital
open Go.ChangeShapes Go.WideShapes Go.ChangeAt Go.RowKit
open Go.ChangeMaps (open_string shut_string)
set_option linter.unusedVariables false
set_option maxRecDepth 100000

theorem own : ownKnob Tryd.prog.godebug = none := by kernel_rfl
theorem laidOut : laidOutB Tryd.prog = true := by kernel_rfl

/-- A slice of integers that came in. -/
def IsRow (k : IntKind) (w : World) (a : Option Addr) (len cap : Nat) (zs : List Int) : Prop :=
  (a = none ∧ len = 0 ∧ cap = 0 ∧ zs = []) ∨
  ∃ x, a = some x ∧ len ≤ cap ∧ cap ≤ maxLen ∧ zs.length = cap ∧ (∀ i, i < zs.length → w.cell? (x.add i) = some (.int k (zs.getD i 0))) ∧ ∀ n ∈ zs, (Lit.int k n).wf = true

theorem code_of {w : World} {a : Option Addr} {n c : Nat} {z : List Int} (h : IsRow .u8 w a n c z) (hn : n ≤ 1000000) : CodeAt w a n := by
  refine ⟨hn, fun h0 => ?_⟩
  rcases h with ⟨rfl, rfl, rfl, rfl⟩ | ⟨x, rfl, hl, hm, hz, hcell, hwz⟩
  · omega
  · obtain ⟨b, o, spot⟩ := x
    have h1 := hcell 0 (by omega)
    have hspot : spot = none := by simpa [Addr.add] using World.cell?_spot h1
    subst hspot
    refine ⟨b, o, rfl, ?_, fun i hi => ?_⟩
    · have : (w.cell? ⟨b, o, none⟩).isSome := by have := h1; simp [Addr.add] at this; rw [this]; rfl
      rcases Nat.lt_or_ge b w.heap.size with h' | h'
      · exact h'
      · simp [World.cell?, Array.getElem?_eq_none h'] at this
    · have h2 := hcell i (by omega)
      have h3 := bounds_u8 (hwz (z.getD i 0) (by rw [List.getD_eq_getElem?_getD, List.getElem?_eq_getElem (by omega)]; exact List.getElem_mem _))
      refine ⟨z.getD i 0, h3.1, h3.2, ?_⟩
      by_cases hi0 : i = 0
      · subst hi0; simpa [Addr.add] using h2
      · simpa [Addr.add, hi0] using h2
theorem row_len {w : World} {a : Option Addr} {n c : Nat} {z : List Int} (h : IsRow .u8 w a n c z) : n ≤ maxLen := by
  rcases h with ⟨_, rfl, _, _⟩ | ⟨x, _, hl, hm, _⟩
  · exact Nat.zero_le _
  · omega
theorem ext_back (b y : ByteArray) : (b ++ y).extract b.size (b ++ y).size = y := by
  apply by8_inj
  rw [by8_extract, by8_app, List.drop_append_of_le_length (by rw [by8_len]; exact Nat.le_refl _), ← by8_len b, List.drop_length, List.nil_append]
  refine List.take_of_length_le ?_
  rw [ByteArray.size_append, by8_len, by8_len]; omega
theorem last_of (b y : ByteArray) (j g : Bool) (c : Int) (h : okSt ⟨b ++ y, j, g, c, (b.size : Int)⟩ = true) : lastE ⟨b ++ y, j, g, c, (b.size : Int)⟩ = .returned (.tuple #[.string y, .bool true]) := by
  unfold lastE
  rw [h, if_pos rfl]
  have e : lastW ⟨b ++ y, j, g, c, (b.size : Int)⟩ = y := ext_back b y
  rw [e]
/-- A full stop, then a word: all that the law asks. -/
theorem cap_facts {s : St} (h : okSt s = true) :
    (stepS s (6, ⟨#[46]⟩) = none ∧ 1900 < s.t.size) ∨ ∃ s1, stepS s (6, ⟨#[46]⟩) = some s1 ∧ s1.t.size ≤ 2000 ∧
      ((stepS s1 (1, ⟨#[99, 97, 116]⟩) = none ∧ 1900 < s.t.size) ∨ ∃ n1 lo sm, stepS s1 (1, ⟨#[99, 97, 116]⟩) = some n1 ∧ n1.t.size ≤ 2000 ∧ lastE n1 = .returned (.tuple #[.string ⟨#[67, 97, 116]⟩, .bool true]) ∧ n1.c = 0 ∧
        stepS s1 (9, ⟨#[]⟩) = some lo ∧ lo.t.size ≤ 2000 ∧ stepS lo (1, ⟨#[67, 97, 116]⟩) = some sm ∧ sm.t.size ≤ 2000 ∧ lastE sm = .returned (.tuple #[.string ⟨#[99, 97, 116]⟩, .bool true])) := by
  obtain ⟨t, j, g, c, p⟩ := s
  have hd := stepS_yes (k := 6) (x := ⟨#[46]⟩) h (by decide)
  rw [app_6] at hd
  simp only at hd ⊢
  have hs1 : (t ++ (⟨#[46]⟩ : ByteArray)).size = t.size + 1 := by rw [ByteArray.size_append]; rfl
  rw [hs1] at hd
  by_cases h1 : t.size + 1 ≤ 2000
  · rw [if_pos h1] at hd
    refine .inr ⟨_, hd, by show (t ++ (⟨#[46]⟩ : ByteArray)).size ≤ 2000; omega, ?_⟩
    have hk := (stepS_ok hd).2.2.2
    have hn := stepS_yes (k := 1) (x := ⟨#[99, 97, 116]⟩) hk (by decide)
    have hl := stepS_yes (k := 9) (x := ⟨#[]⟩) hk (by decide)
    rw [app_1] at hn
    rw [app_9] at hl
    have hb : baseT ⟨t ++ ⟨#[46]⟩, false, false, 1, p⟩ = (t ++ ⟨#[46]⟩) ++ ⟨#[32]⟩ := rfl
    simp only [putS, hb] at hn
    simp only at hl
    rw [hs1, if_pos h1] at hl
    have hc1 : caseB ⟨#[99, 97, 116]⟩ 1 = ⟨#[67, 97, 116]⟩ := by decide
    have hc2 : caseB ⟨#[67, 97, 116]⟩ 2 = ⟨#[99, 97, 116]⟩ := by decide
    rw [hc1] at hn
    have hs2 : ((t ++ (⟨#[46]⟩ : ByteArray)) ++ (⟨#[32]⟩ : ByteArray)).size = t.size + 2 := by rw [ByteArray.size_append, hs1]; rfl
    have hs3 : (((t ++ (⟨#[46]⟩ : ByteArray)) ++ (⟨#[32]⟩ : ByteArray)) ++ (⟨#[67, 97, 116]⟩ : ByteArray)).size = t.size + 5 := by rw [ByteArray.size_append, hs2]; rfl
    have hs4 : (((t ++ (⟨#[46]⟩ : ByteArray)) ++ (⟨#[32]⟩ : ByteArray)) ++ (⟨#[99, 97, 116]⟩ : ByteArray)).size = t.size + 5 := by rw [ByteArray.size_append, hs2]; rfl
    rw [hs3] at hn
    by_cases h5 : t.size + 5 ≤ 2000
    · rw [if_pos h5] at hn
      have hkl := (stepS_ok hl).2.2.2
      have hm := stepS_yes (k := 1) (x := ⟨#[67, 97, 116]⟩) hkl (by decide)
      rw [app_1] at hm
      have hb2 : baseT ⟨t ++ ⟨#[46]⟩, false, false, 2, p⟩ = (t ++ ⟨#[46]⟩) ++ ⟨#[32]⟩ := rfl
      simp only [putS, hb2] at hm
      rw [hc2, hs4, if_pos h5] at hm
      refine .inr ⟨_, _, _, hn, ?_, last_of _ _ _ _ _ (stepS_ok hn).2.2.2, rfl, hl, ?_, hm, ?_, last_of _ _ _ _ _ (stepS_ok hm).2.2.2⟩
      · show (((t ++ (⟨#[46]⟩ : ByteArray)) ++ (⟨#[32]⟩ : ByteArray)) ++ (⟨#[67, 97, 116]⟩ : ByteArray)).size ≤ 2000; omega
      · show (t ++ (⟨#[46]⟩ : ByteArray)).size ≤ 2000; omega
      · show (((t ++ (⟨#[46]⟩ : ByteArray)) ++ (⟨#[32]⟩ : ByteArray)) ++ (⟨#[99, 97, 116]⟩ : ByteArray)).size ≤ 2000; omega
    · rw [if_neg h5] at hn
      exact .inl ⟨hn, by omega⟩
  · rw [if_neg h1] at hd
    exact .inl ⟨hd, by omega⟩
/-! ### THE WALK: the Go text returns true, and writes nothing that was there. -/
set_option maxRecDepth 100000 in
set_option maxHeartbeats 8000000 in
theorem walk (a0 : Option Addr) (n0 c0 : Nat) (z0 : List Int) (w : World) (hS : w.ShapedOpen Tryd.prog)  (w0 : IsRow .u8 w a0 n0 c0 z0) :
    Calls Tryd.prog 3 #[.slice a0 n0 c0] w fun e w' => e = .returned (.bool true) ∧ Below w.heap.size w w' := by
  have hnm := row_len w0
  by_cases hbig : 65536 < n0
  · have C := Lib.hid (big_yes a0 n0 c0 w hbig hnm)
    clear w0 hS hnm
    go_enter Tryd.func3, Tryd.ntmps3
    go_wp2_with fail
    refine C.out.mono ?_
    rintro e w1 ⟨rfl, rfl⟩
    go_wp2
    go_ret
    exact ⟨rfl, Below.refl _ _⟩
  have C := Lib.hid (big_no a0 n0 c0 w (by omega))
  have HC0 := Lib.hid (code_of w0 (by omega))
  have CD := Lib.hid (fun w h => drawLastWord_any a0 n0 c0 w h)
  clear w0 hS hnm hbig
  go_enter Tryd.func3, Tryd.ntmps3
  go_wp2_with fail
  refine C.out.mono ?_
  rintro e w0 ⟨rfl, rfl⟩
  go_wp2_with fail
  refine (CD.out _ HC0.out).mono ?_
  rintro e w1 ⟨⟨s, rfl, hss⟩, hb⟩
  have B1 := Lib.hid hb
  have ci := fun w => LastWord_any s w (by omega)
  have cs := fun w => specLastWord_any s w (by omega)
  have hcap := fun h : okSt s = true => cap_facts h
  have cd := fun w => ApplyAtom_any s 6 ⟨#[46]⟩ w (by omega) (by decide)
  have hlast : okSt s = false → lastE s = .returned (.tuple #[.string ⟨#[]⟩, .bool false]) := fun h => by unfold lastE; rw [h]; rfl
  have hlast2 : okSt s = true → lastE s = .returned (.tuple #[.string (lastW s), .bool true]) := fun h => by unfold lastE; rw [h]; rfl
  obtain ⟨q, hq⟩ : ∃ q, q = okSt s := ⟨_, rfl⟩
  rw [← hq] at hcap hlast hlast2
  obtain ⟨f, hf⟩ : ∃ f, f = lastW s := ⟨_, rfl⟩
  rw [← hf] at hlast2
  have HCap := Lib.hid hcap
  unfold optE at cd
  clear hb hq hf hcap C CD HC0
  obtain ⟨W, hW⟩ : ∃ W, W = w1.alloc (.cells (stC s) 25) := ⟨_, rfl⟩
  have X1 : Hid (BoxS W w1.heap.size s) := by rw [hW]; exact BoxS.new w1 s
  have B1' : Hid (Below w.heap.size w W) := by rw [hW]; exact below_stepS B1.out (below_alS _ _)
  obtain ⟨t, j, g, c, p⟩ := s
  dsimp only at cs ci cd hss
  have HW := Lib.hid hW
  dsimp only [stC] at HW
  clear hW
  cases q
  · rw [hlast rfl] at ci cs
    have CI := Lib.hid ci
    have CS := Lib.hid cs
    clear ci cs cd hlast hlast2 HCap
    go_wp2_with fail
    rw [← HW.out]
    refine (CI.out _).mono ?_
    rintro e w2 ⟨rfl, hb⟩
    have X2 := Lib.hid (X1.out.below hb)
    have B2 := Lib.hid (below_stepS B1'.out hb)
    obtain ⟨d0, d1, d2, d3, d4⟩ := X2.out.cells
    clear hb
    go_wp2_with fail
    refine (CS.out _).mono ?_
    rintro e w3 ⟨rfl, hb⟩
    have B3 := Lib.hid (below_stepS B2.out hb)
    clear hb
    go_wp2
    go_ret
    exact ⟨rfl, B3.out⟩
  rw [hlast2 rfl] at ci cs
  have CI := Lib.hid ci
  have CS := Lib.hid cs
  have hcap := HCap.out rfl
  clear ci cs hlast hlast2 HCap
  go_wp2_with fail
  rw [← HW.out]
  refine (CI.out _).mono ?_
  rintro e w2 ⟨rfl, hb⟩
  have X2 := Lib.hid (X1.out.below hb)
  have B2 := Lib.hid (below_stepS B1'.out hb)
  obtain ⟨d0, d1, d2, d3, d4⟩ := X2.out.cells
  clear hb HW X1
  go_wp2_with fail
  refine (CS.out _).mono ?_
  rintro e w3 ⟨rfl, hb⟩
  have X3 := Lib.hid (X2.out.below hb)
  have B3 := Lib.hid (below_stepS B2.out hb)
  clear hb d0 d1 d2 d3 d4 X2 CI CS
  obtain ⟨d0, d1, d2, d3, d4⟩ := X3.out.cells
  rcases hcap with ⟨h1, hbig⟩ | ⟨⟨t1, j1, g1, k1, p1⟩, h1, hz1, h2⟩
  · have cn := fun w => ApplyAtom_any St.zero 1 ⟨#[99, 97, 116]⟩ w (by decide) (by decide)
    unfold optE at cn
    obtain ⟨o, ho⟩ : ∃ o, o = stepS St.zero (1, ⟨#[99, 97, 116]⟩) := ⟨_, rfl⟩
    rw [← ho] at cn
    obtain ⟨s2, hs2⟩ : ∃ s2, s2 = o.getD St.zero := ⟨_, rfl⟩
    obtain ⟨q2, hq2⟩ : ∃ q2, q2 = o.isSome := ⟨_, rfl⟩
    rw [← hs2, ← hq2] at cn
    obtain ⟨t2, j2, g2, k2, p2⟩ := s2
    dsimp only [St.zero] at cn
    have CN := Lib.hid cn
    clear cn ho hs2 hq2
    rw [h1] at cd
    dsimp only [Option.getD, Option.isSome, St.zero] at cd
    have CD := Lib.hid cd
    clear cd h1
    go_wp2_with fail
    refine (CD.out _).mono ?_
    rintro e w4 ⟨rfl, hb⟩
    have X4 := Lib.hid ((X3.out.below hb).below (below_alS w4 (.cells #[.string ⟨#[]⟩, .bool false, .bool false, .int .i64 0, .int .i64 0] 25)))
    have B4 := Lib.hid (below_stepS (below_stepS B3.out hb) (below_alS w4 (.cells #[.string ⟨#[]⟩, .bool false, .bool false, .int .i64 0, .int .i64 0] 25)))
    clear hb d0 d1 d2 d3 d4 X3 CD
    go_wp2_with fail
    refine (CN.out _).mono ?_
    rintro e w5 ⟨rfl, hb⟩
    have X5 := Lib.hid ((X4.out.below hb).below (below_alS w5 (.cells #[.string t2, .bool j2, .bool g2, .int .i64 k2, .int .i64 p2] 25)))
    have B5 := Lib.hid (below_stepS (below_stepS B4.out hb) (below_alS w5 (.cells #[.string t2, .bool j2, .bool g2, .int .i64 k2, .int .i64 p2] 25)))
    clear hb X4 CN
    obtain ⟨d0, d1, d2, d3, d4⟩ := X5.out.cells
    try simp only at hbig
    go_wp2
    go_ret
    exact ⟨ret_bool (decide_eq_true (by show (1900 : Int) < (t.size : Int); have h : 1900 < t.size := hbig; omega)), B5.out⟩
  · rw [h1] at cd
    dsimp only [Option.getD, Option.isSome] at cd
    have CD := Lib.hid cd
    clear cd h1
    have cn := fun w => ApplyAtom_any ⟨t1, j1, g1, k1, p1⟩ 1 ⟨#[99, 97, 116]⟩ w (by omega) (by decide)
    have cl := fun w => ApplyAtom_any ⟨t1, j1, g1, k1, p1⟩ 9 ⟨#[]⟩ w (by omega) (by decide)
    unfold optE at cn cl
    go_wp2_with fail
    refine (CD.out _).mono ?_
    rintro e w4 ⟨rfl, hb⟩
    obtain ⟨V, hV⟩ : ∃ V, V = w4.alloc (.cells #[.string t1, .bool j1, .bool g1, .int .i64 k1, .int .i64 p1] 25) := ⟨_, rfl⟩
    have X4 : Hid (BoxS V w1.heap.size ⟨t, j, g, c, p⟩) := by rw [hV]; exact (X3.out.below hb).below (below_alS _ _)
    have P4 : Hid (BoxS V w4.heap.size ⟨t1, j1, g1, k1, p1⟩) := by rw [hV]; exact BoxS.new w4 ⟨t1, j1, g1, k1, p1⟩
    have B4 : Hid (Below w.heap.size w V) := by rw [hV]; exact below_stepS (below_stepS B3.out hb) (below_alS _ _)
    have HV := Lib.hid hV
    clear hb hV d0 d1 d2 d3 d4 X3 CD
    rcases h2 with ⟨h3, hbig⟩ | ⟨⟨t2, j2, g2, k2, p2⟩, ⟨t3, j3, g3, k3, p3⟩, ⟨t4, j4, g4, k4, p4⟩, h3, hz2, hl2, hk2, h4, hz3, h5, hz4, hl4⟩
    · rw [h3] at cn
      dsimp only [Option.getD, Option.isSome, St.zero] at cn
      have CN := Lib.hid cn
      clear cn cl h3
      go_wp2_with fail
      rw [← HV.out]
      refine (CN.out _).mono ?_
      rintro e w5 ⟨rfl, hb⟩
      have X5 := Lib.hid ((X4.out.below hb).below (below_alS w5 (.cells #[.string ⟨#[]⟩, .bool false, .bool false, .int .i64 0, .int .i64 0] 25)))
      have B5 := Lib.hid (below_stepS (below_stepS B4.out hb) (below_alS w5 (.cells #[.string ⟨#[]⟩, .bool false, .bool false, .int .i64 0, .int .i64 0] 25)))
      clear hb X4 P4 HV CN
      obtain ⟨d0, d1, d2, d3, d4⟩ := X5.out.cells
      try simp only at hbig
      go_wp2
      go_ret
      exact ⟨ret_bool (decide_eq_true (by show (1900 : Int) < (t.size : Int); have h : 1900 < t.size := hbig; omega)), B5.out⟩
    · rw [h3] at cn
      rw [h4] at cl
      have cm := fun w => ApplyAtom_any ⟨t3, j3, g3, k3, p3⟩ 1 ⟨#[67, 97, 116]⟩ w (by omega) (by decide)
      unfold optE at cm
      rw [h5] at cm
      dsimp only [Option.getD, Option.isSome] at cn cl cm
      have ce2 := fun w => LastWord_any ⟨t2, j2, g2, k2, p2⟩ w (by omega)
      have ce4 := fun w => LastWord_any ⟨t4, j4, g4, k4, p4⟩ w (by omega)
      rw [hl2] at ce2
      rw [hl4] at ce4
      simp only at hk2
      subst hk2
      have CN := Lib.hid cn
      have CL := Lib.hid cl
      have CM := Lib.hid cm
      have CE2 := Lib.hid ce2
      have CE4 := Lib.hid ce4
      clear cn cl cm ce2 ce4 h3 h4 h5 hl2 hl4 X4
      go_wp2_with fail
      rw [← HV.out]
      refine (CN.out _).mono ?_
      rintro e w5 ⟨rfl, hb⟩
      obtain ⟨V2, hV2⟩ : ∃ V2, V2 = w5.alloc (.cells #[.string t2, .bool j2, .bool g2, .int .i64 0, .int .i64 p2] 25) := ⟨_, rfl⟩
      have P5 : Hid (BoxS V2 w4.heap.size ⟨t1, j1, g1, k1, p1⟩) := by rw [hV2]; exact (P4.out.below hb).below (below_alS _ _)
      have Q5 : Hid (BoxS V2 w5.heap.size ⟨t2, j2, g2, 0, p2⟩) := by rw [hV2]; exact BoxS.new w5 ⟨t2, j2, g2, 0, p2⟩
      have B5 : Hid (Below w.heap.size w V2) := by rw [hV2]; exact below_stepS (below_stepS B4.out hb) (below_alS _ _)
      have HV2 := Lib.hid hV2
      clear hb hV2 P4 HV CN
      go_wp2_with fail
      rw [← HV2.out]
      refine (CE2.out _).mono ?_
      rintro e w6 ⟨rfl, hb⟩
      have P6 := Lib.hid (P5.out.below hb)
      have Q6 := Lib.hid (Q5.out.below hb)
      have B6 := Lib.hid (below_stepS B5.out hb)
      obtain ⟨d0, d1, d2, d3, d4⟩ := P6.out.cells
      clear hb P5 Q5 HV2 CE2
      go_wp2_with fail
      refine (CL.out _).mono ?_
      rintro e w7 ⟨rfl, hb⟩
      have Q7 := Lib.hid ((Q6.out.below hb).below (below_alS w7 (.cells #[.string t3, .bool j3, .bool g3, .int .i64 k3, .int .i64 p3] 25)))
      have B7 := Lib.hid (below_stepS (below_stepS B6.out hb) (below_alS w7 (.cells #[.string t3, .bool j3, .bool g3, .int .i64 k3, .int .i64 p3] 25)))
      clear hb Q6 P6 CL d0 d1 d2 d3 d4
      go_wp2_with fail
      refine (CM.out _).mono ?_
      rintro e w8 ⟨rfl, hb⟩
      have Q8 := Lib.hid ((Q7.out.below hb).below (below_alS w8 (.cells #[.string t4, .bool j4, .bool g4, .int .i64 k4, .int .i64 p4] 25)))
      have B8 := Lib.hid (below_stepS (below_stepS B7.out hb) (below_alS w8 (.cells #[.string t4, .bool j4, .bool g4, .int .i64 k4, .int .i64 p4] 25)))
      clear hb Q7 CM
      go_wp2_with fail
      refine (CE4.out _).mono ?_
      rintro e w9 ⟨rfl, hb⟩
      have Q9 := Lib.hid (Q8.out.below hb)
      have B9 := Lib.hid (below_stepS B8.out hb)
      obtain ⟨d0, d1, d2, d3, d4⟩ := Q9.out.cells
      clear hb Q8 CE4
      go_wp2
      go_ret
      exact ⟨rfl, B9.out⟩

/-! ### THE ROW's STEP -/
set_option maxRecDepth 100000 in
theorem contract (H : Type) (enc : TypeId × Value → H) (W : World) (base : Nat) (args : Array Value) (ds gs : List (DataW H)) (before : List MemPlace)
    (hval : ∀ (j : Nat) t v, Tryd.f3.params[j]? = some t → args[j]? = some v → Value.okWide Tryd.prog W .any base t v)
    (hW : DataW.Whole enc Tryd.prog Tryd.f3.params.toList Rows.fnCapitalSpec.vars false W args.toList ds gs before) (hL : laidMetH Tryd.prog Rows.fnCapitalRow.laid W) (hS : W.ShapedOpen Tryd.prog) :
    Calls Tryd.prog 3 args W fun e W' => ∃ v, e = .returned v ∧ Rows.fnCapitalSpec.post enc Tryd.prog Tryd.f3 false true false false W args v W' := by
  have hW' := hW
  obtain ⟨p, q, hA0, hV, rfl, hfz, hnd⟩ := hW
  have hA : DataW.TrodAll enc Tryd.prog W 0 (fun _ => true) true Tryd.f3.params.toList args.toList ds p := hA0
  rw [Tryd.params3] at hA hval
  obtain ⟨v0, vs0, d0, ds0, p0, q0, hargs, rfl, rfl, h0, r0⟩ := trodAll_cons hA
  obtain ⟨rfl, rfl, rfl⟩ := trodAll_nil r0
  obtain rfl : args = #[v0] := by cases args; simp_all
  obtain ⟨rfl, rfl⟩ := trodVars_none hV
  have k0 := h0
  have lt0 : ∀ x ∈ p0, x.block < W.heap.size := by obtain ⟨m, hm⟩ := k0; exact DataW.trod_lt m _ _ _ hm
  obtain ⟨a0, n0, c0, rfl⟩ := okWide_slice Tryd.underlying22 (hval 0 22 v0 rfl rfl)
  obtain ⟨z0, w0⟩ : ∃ zs, IsRow .u8 W a0 n0 c0 zs := by
    obtain ⟨fuel, hf⟩ := h0
    rcases open_ints Tryd.underlying22 Tryd.underlying5 (by kernel_rfl) hf with ⟨hcs, _⟩ | ⟨x, l, c, zs, hcs, _, hl, hm, hz, _, hcell, hwz⟩
    · simp [Value.cells] at hcs
      obtain ⟨rfl, rfl, rfl⟩ := hcs
      exact ⟨[], .inl ⟨rfl, rfl, rfl, rfl⟩⟩
    · simp [Value.cells] at hcs
      obtain ⟨rfl, rfl, rfl⟩ := hcs
      exact ⟨zs, .inr ⟨_, rfl, hl, hm, by simpa using hz, hcell, hwz⟩⟩
  clear hA0 hval
  refine (walk a0 n0 c0 z0 W hS  w0).mono fun e W' ⟨he, bel⟩ => ?_
  subst he
  exact ⟨_, rfl, _, _, _, [], _, [], hW', trodAll_mk1 (shut_bool Tryd.underlying4 _), (trodAll_cons_mk (Below.trod laidOut (by kernel_rfl) (of_decide_eq_true (by kernel_rfl)) k0 bel lt0) trodAll_mk0), rfl, bel.frame _, fun h => by cases h⟩

/-- There is an input that fits, at a world that is shown to be shaped. -/
theorem witness_row_shaped {H : Type} {enc : TypeId × Value → H} {C : Checked} {os : Os} {f : FuncId} {fn : Func} {s : OpenSpec} {conds : List PathCond} {apart : Bool} {laid : List (String × DataW Unit)} (modest : Bool) (w0 : World) (args : Array Value) (hos : w0.os = os)
    (hsh : (w0.forCall (fun _ _ => 0) ⟨#[], args, []⟩).Shaped C.prog)
    (hok : Input.okWideB C.prog (w0.forCall (fun _ _ => 0) ⟨#[], args, []⟩) f ⟨#[], args, []⟩ = true)
    (hrow : s.preRow enc C.prog fn conds apart laid (w0.forCall (fun _ _ => 0) ⟨#[], args, []⟩).memory args) :
    ∃ (w : World) (tape : Tape) (i : Input), w.os = os ∧ (w.forCall tape i).Shaped C.prog ∧ i.vars = [] ∧ Input.okWide C.prog (w.forCall tape i) .any w.heap.size f i ∧
      s.preRow enc C.prog fn conds apart laid (w.forCall tape i).memory i.args ∧ ({ modest := modest } : Assume).holds C.prog (lone (Frame.enter C.prog f i.args .normal) [] (w.forCall tape i)) :=
  ⟨w0, fun _ _ => 0, ⟨#[], args, []⟩, hos, hsh, (Input.okWide_of_okWideB (base := 0) hok).1, (Input.okWide_of_okWideB hok).2, hrow, by
    simp only [Assume.holds]
    exact ⟨by simp, by simp, fun _ => Modest.zero, by simp, by simp⟩⟩
theorem reads (os : Os) {H : Type} (enc : TypeId × Value → H) : ∃ places, DataW.whole enc Tryd.prog ((World.laidAll Tryd.prog os Rows.fnCapitalRow.laid).forCall (fun _ _ => 0) ⟨#[], #[.slice none 0 0], []⟩).memory Tryd.f3.params.toList Rows.fnCapitalSpec.vars false (#[.slice none 0 0] : Array Value).toList 8 = some ([.nil], [], places) :=
  ⟨[], by kernel_rfl⟩

set_option maxRecDepth 100000 in
theorem lifted (os : Os) (started : os.Started) (H : Type) (enc : TypeId × Value → H) (F : Stop.Interp) :
    ReturnsInHanded {} Tryd.checked os 3 .any ((OpenSpec.ofChange Rows.fnCapitalSpec).preRow enc Tryd.prog Tryd.f3 Rows.fnCapitalRow.domain false Rows.fnCapitalRow.laid) (((OpenSpec.ofChange Rows.fnCapitalSpec).at F).post enc Tryd.prog Tryd.f3 false true false false) := by
  obtain ⟨places, hx⟩ := reads os enc
  refine returnsInHanded_of_row (C := Tryd.checked) (s := OpenSpec.ofChange Rows.fnCapitalSpec) own started (by kernel_rfl) Tryd.func3
    (witness_row_shaped (enc := enc) (C := Tryd.checked) false (World.laidAll Tryd.prog os Rows.fnCapitalRow.laid) #[.slice none 0 0] (World.laidAll_os _ _ _) (World.shaped_of_ZipB (by kernel_rfl) (by kernel_rfl)) (by kernel_rfl)
      (OpenSpec.preRow_of_cond 8 hx (by kernel_rfl) (fun k hk => by cases hk) (by kernel_rfl) (by rw [MakeChecks.laidMetH_plain _ _ _ (by kernel_rfl)]; exact laidMet_laidAll _ (by kernel_rfl) (by kernel_rfl)))) ?_
  intro W base args ds gs before hval hW _ _ _ hL hS _
  exact contract H enc W base args ds gs before hval hW hL hS

theorem said : Rows.FnCapitalSaid :=
  OpenClaim.holds_of_cond 3 Tryd.f3 rfl rfl rfl rfl rfl rfl rfl ⟨rfl, rfl, rfl, rfl, rfl⟩ rfl rfl rfl rfl rfl (by kernel_rfl) Tryd.func3 (by kernel_rfl)
    (of_decide_eq_true (by kernel_rfl)) (by unfold Func.isWrapper; first | (rw [if_pos (by decide +kernel)]; kernel_rfl) | (rw [if_neg (by decide +kernel)]; exact ⟨rfl, rfl⟩))
    (fun os started H enc _ F => by rw [OpenClaim.pre_eq_preRow]; exact lifted os started H enc F)

theorem plain (f : FuncId) (fn : Func) (hf : Tryd.pinned.checked.prog.funcNamed "loop.example/g00882/laws.FnCapital" = some f) (hfn : Tryd.pinned.checked.prog.funcs[f]? = some fn) :
    false = Tryd.pinned.checked.prog.looks [] ∧ ∀ (j : Nat) t, fn.params[j]? = some t → Tryd.pinned.checked.prog.wantsStandIn t = false := by
  obtain rfl : f = 3 := Option.some.inj ((show Tryd.prog.funcNamed "loop.example/g00882/laws.FnCapital" = some 3 by kernel_rfl).symm.trans hf) |>.symm
  obtain rfl : fn = Tryd.f3 := (Option.some.inj (Tryd.func3.symm.trans hfn)).symm
  refine ⟨by kernel_rfl, fun j t ht => ?_⟩
  rw [Tryd.params3] at ht
  have hm : t ∈ [22] := by have := Array.mem_of_getElem? ht; simpa using this
  have hall : ([22].all fun u => !Tryd.prog.wantsStandIn u) = true := by kernel_rfl
  exact (show Tryd.prog.wantsStandIn t = false by simpa using List.all_eq_true.1 hall t hm)

/-- THE TIED CARD. -/
theorem proved : Rows.FnCapitalCardSaid :=
  Claim7.holds_tied_plain_at .later [] _ _ _ _ said (fun _ h => by cases h) (by kernel_rfl) (fun _ h => by cases h) fnCapital_row_tie rfl ⟨rfl, rfl⟩ (by kernel_rfl) rfl plain (by kernel_rfl)
#print axioms proved
end Go.Proofs.YtnpiphkglhcifaaDoor.fnCapital
