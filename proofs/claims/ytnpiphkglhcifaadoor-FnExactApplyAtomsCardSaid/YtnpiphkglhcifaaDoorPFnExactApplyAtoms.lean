/-
  laws.FnExactApplyAtoms returns true whatever the state and the list of atoms: impl.ApplyAtoms answers as the specification and leaves its argument. Conditions: none but the row's own (the tables of unicode that it lists are Go's own).
-/
import Derived.Test.YtnpiphkglhcifaaDoorRows
import Derived.Test.YtnpiphkglhcifaaDoorCards
import Derived.Test.YtnpiphkglhcifaaDoorTie
import Derived.WalkKit
import Derived.ProofKit
import Derived.OpenShut
import Derived.ShutString
import Derived.ChangeOld
import Derived.Below
import Derived.SliceStrings
import Derived.JoinedCond
import Derived.Deep.DeepHandedRow
import Derived.Deep.DeepWitnessRowRef
import Derived.Lib.Hide
import Derived.Lay
import Derived.LaidOnce
import Derived.PinnedBridge
import Derived.LaidMore
import Derived.Lib.LaidTab
import Derived.Stop.LaidErr
import Derived.Test.YtnpiphkglhcifaaDoorFmU
import Derived.Test.YtnpiphkglhcifaaDoorFmV
import Derived.Test.YtnpiphkglhcifaaDoorSzL
namespace Go.Proofs.YtnpiphkglhcifaaDoor.fnExactApplyAtoms
open Go.ChangeShapes Go.WideShapes Go.ChangeAt Go.RowKit
open Go.ChangeMaps (open_string shut_string)
set_option linter.unusedVariables false
set_option maxRecDepth 100000

theorem own : ownKnob Tryd.prog.godebug = none := by kernel_rfl
theorem laidOut : laidOutB Tryd.prog = true := by kernel_rfl

/-! ### THE WALK: the Go text returns true, and writes nothing that was there. -/
set_option maxRecDepth 100000 in
set_option maxHeartbeats 8000000 in
theorem walk (s0 : St) (a1 : Option Addr) (n1 c1 : Nat) (e1 : List (Int × ByteArray)) (w : World) (hS : w.ShapedOpen Tryd.prog)  (w0 : StFine s0) (w1 : AtomsIn w a1 n1 c1 e1) :
    Calls Tryd.prog 5 #[stV s0, .slice a1 n1 c1] w fun e w' => e = .returned (.bool true) ∧ Below w.heap.size w w' := by
  obtain ⟨t, j, g, c, p⟩ := s0
  have hsz : t.size ≤ maxLen := w0.2.2
  obtain ⟨hnm, hlen, hrow, hval⟩ := w1
  have CZ := Lib.hid (fun w => szState_any ⟨t, j, g, c, p⟩ 1048576 w (by omega) (by omega) hsz)
  have CT := Lib.hid (fun w => toState_any ⟨t, j, g, c, p⟩ w)
  dsimp only at CZ CT
  have hx1 : ∀ e ∈ e1, e.2.size ≤ maxLen := fun e he => (hval e he).2
  obtain ⟨W, hW⟩ : ∃ W, W = w.alloc (.cells #[.string t, .bool j, .bool g, .int .i64 c, .int .i64 p] 33) := ⟨_, rfl⟩
  have X0 : Hid (BoxL W w.heap.size ⟨t, j, g, c, p⟩) := by rw [hW]; exact BoxL.new (s := ⟨t, j, g, c, p⟩) (Below.refl _ _)
  have B0 : Hid (Below w.heap.size w W) := by rw [hW]; exact below_alS _ _
  have R0 : Hid (AtomsAt W (.slice a1 n1 c1) e1) := by rw [hW]; exact hrow.below (below_alS _ _)
  have HW := Lib.hid hW
  have hnm' : e1.length ≤ maxLen := by rw [hlen]; exact hnm
  unfold maxLen at hnm
  clear hW w0 hS hrow
  by_cases hbig : (1048576 : Int) < t.size
  · rw [if_pos hbig] at CZ
    clear hnm' hx1 hval hlen
    go_enter Tryd.func5, Tryd.ntmps5
    go_wp2_with fail
    rw [← HW.out]
    refine (CZ.out _).mono ?_
    rintro e w1 ⟨rfl, hb⟩
    have B1 := Lib.hid (below_stepS B0.out hb)
    clear hb
    go_wp2
    go_ret
    exact ⟨rfl, B1.out⟩
  rw [if_neg hbig] at CZ
  have CY := Lib.hid (fun w h => szAs_left (.slice a1 n1 c1) e1 (1048576 - t.size) w (by omega) (by omega) h hnm' hx1)
  have HL := Lib.hid hlen
  clear hnm' hx1 hval hlen
  go_enter Tryd.func5, Tryd.ntmps5
  go_wp2_with fail
  rw [← HW.out]
  refine (CZ.out _).mono ?_
  rintro e w1 ⟨rfl, hb⟩
  have X1 := Lib.hid (X0.out.below hb)
  have R1 := Lib.hid (R0.out.below hb)
  have B1 := Lib.hid (below_stepS B0.out hb)
  clear hb X0 R0 B0 HW CZ
  obtain ⟨_, c0, c1', c2, c3, c4⟩ := X1.out
  go_wp2_with fail
  refine (CY.out _ R1.out).mono ?_
  rintro e w2 ⟨⟨r, rfl, hr⟩, hb⟩
  have X2 := Lib.hid (X1.out.below hb)
  have R2 := Lib.hid (R1.out.below hb)
  have B2 := Lib.hid (below_stepS B1.out hb)
  have HRr := Lib.hid hr
  clear hb X1 R1 B1 CY hr c0 c1' c2 c3 c4
  obtain ⟨_, c0, c1', c2, c3, c4⟩ := X2.out
  by_cases hneg : r < 0
  · go_wp2
    go_ret
    exact ⟨rfl, B2.out⟩
  obtain ⟨hl, hsx⟩ := HRr.out (by omega)
  have CX := Lib.hid (fun v w h => toAs_any v e1 w h hl)
  have cs := fun v w h => specApplyAtoms_any ⟨t, j, g, c, p⟩ v e1 w (by show t.size ≤ _; omega) h (by omega) hsx
  have ci := fun v w h => ApplyAtoms_any ⟨t, j, g, c, p⟩ v e1 w (by show t.size ≤ _; omega) h (by omega) hsx
  unfold optE at cs ci
  obtain ⟨o, ho⟩ : ∃ o, o = runS ⟨t, j, g, c, p⟩ e1 := ⟨_, rfl⟩
  rw [← ho] at cs ci
  obtain ⟨s, hs⟩ : ∃ s, s = o.getD St.zero := ⟨_, rfl⟩
  obtain ⟨q, hq⟩ : ∃ q, q = o.isSome := ⟨_, rfl⟩
  rw [← hs, ← hq] at cs ci
  have CE := Lib.hid (fun w => eqState_same s w)
  have CEA := Lib.hid (fun v u w h h' => eqAs_same v u e1 w h h' (by omega))
  obtain ⟨tq, jq, gq, cq, pq⟩ := s
  try dsimp only at CE cs ci
  have CS := Lib.hid cs
  have CI := Lib.hid ci
  clear cs ci ho hs hq hl hsx HRr
  go_wp2_with fail
  refine (CT.out _).mono ?_
  rintro e w3 ⟨rfl, hb⟩
  have X3 := Lib.hid (X2.out.below hb)
  have R3 := Lib.hid (R2.out.below hb)
  have B3 := Lib.hid (below_stepS B2.out hb)
  clear hb B2 c0 c1' c2 c3 c4 X2 R2
  obtain ⟨_, c0, c1', c2, c3, c4⟩ := X3.out
  go_wp2_with fail
  refine (CX.out _ _ R3.out).mono ?_
  rintro e w4 ⟨⟨x, rfl, hx⟩, hb⟩
  have X4 := Lib.hid (X3.out.below hb)
  have R4 := Lib.hid (R3.out.below hb)
  have B4 := Lib.hid (below_stepS B3.out hb)
  have Z4 := Lib.hid hx.atoms
  clear hx
  clear hb B3 c0 c1' c2 c3 c4 X3 R3
  obtain ⟨_, c0, c1', c2, c3, c4⟩ := X4.out
  go_wp2_with fail
  refine (CS.out _ _ Z4.out).mono ?_
  rintro e w5 ⟨rfl, hb⟩
  have X5 := Lib.hid (X4.out.below hb)
  have R5 := Lib.hid (R4.out.below hb)
  have B5 := Lib.hid (below_stepS B4.out hb)
  clear hb B4 c0 c1' c2 c3 c4 X4 R4
  clear Z4
  obtain ⟨_, c0, c1', c2, c3, c4⟩ := X5.out
  go_wp2_with fail
  refine (CX.out _ _ (R5.out.below (below_alS _ _))).mono ?_
  rintro e w6 ⟨⟨y, rfl, hy⟩, hb⟩
  have P6 := Lib.hid (BoxS.call (s := ⟨tq, jq, gq, cq, pq⟩) hb)
  have X6 := Lib.hid (X5.out.below (below_new hb))
  have R6 := Lib.hid (R5.out.below (below_new hb))
  have B6 := Lib.hid (below_stepS B5.out (below_new hb))
  have Y6 := Lib.hid hy.atoms
  clear hy
  clear hb B5 c0 c1' c2 c3 c4 X5 R5
  obtain ⟨_, c0, c1', c2, c3, c4⟩ := X6.out
  go_wp2_with fail
  refine (CT.out _).mono ?_
  rintro e w7 ⟨rfl, hb⟩
  have X7 := Lib.hid (X6.out.below hb)
  have R7 := Lib.hid (R6.out.below hb)
  have P7 := Lib.hid (P6.out.below hb)
  have Y7 := Lib.hid (Y6.out.below hb)
  have B7 := Lib.hid (below_stepS B6.out hb)
  clear hb B6 c0 c1' c2 c3 c4 X6 R6 P6 Y6
  obtain ⟨_, c0, c1', c2, c3, c4⟩ := X7.out
  go_wp2_with fail
  refine (CI.out _ _ Y7.out).mono ?_
  rintro e w8 ⟨rfl, hb⟩
  have R8 := Lib.hid (R7.out.below hb)
  have P8 := Lib.hid (P7.out.below hb)
  have Y8 := Lib.hid (Y7.out.below hb)
  have B8 := Lib.hid (below_stepS B7.out hb)
  clear hb B7 c0 c1' c2 c3 c4 X7 R7 P7 Y7
  obtain ⟨e0, e1', e2, e3, e4⟩ := P8.out.cells
  have hpl := P8.out.lt
  go_wp2_with fail
  refine (CE.out _).mono ?_
  rintro e w9 ⟨rfl, hb⟩
  have R9 := Lib.hid (R8.out.below (below_new hb))
  have Y9 := Lib.hid (Y8.out.below (below_new hb))
  have B9 := Lib.hid (below_stepS B8.out (below_new hb))
  clear hb B8 R8 P8 Y8 e0 e1' e2 e3 e4 hpl
  go_wp2_with fail
  refine (CX.out _ _ R9.out).mono ?_
  rintro e w10 ⟨⟨z, rfl, hz⟩, hb⟩
  have Y10 := Lib.hid (Y9.out.below hb)
  have B10 := Lib.hid (below_stepS B9.out hb)
  have Z10 := Lib.hid hz.atoms
  clear hz
  clear hb B9 R9 Y9
  go_wp2_with fail
  refine (CEA.out _ _ _ Y10.out Z10.out).mono ?_
  rintro e wz ⟨rfl, hb⟩
  have BZ := Lib.hid (below_stepS B10.out hb)
  clear hb
  go_wp2
  go_ret
  exact ⟨rfl, BZ.out⟩

/-! ### THE ROW's STEP -/
set_option maxRecDepth 100000 in
theorem contract (H : Type) (enc : TypeId × Value → H) (W : World) (base : Nat) (args : Array Value) (ds gs : List (DataW H)) (before : List MemPlace)
    (hval : ∀ (j : Nat) t v, Tryd.f5.params[j]? = some t → args[j]? = some v → Value.okWide Tryd.prog W .any base t v)
    (hW : DataW.Whole enc Tryd.prog Tryd.f5.params.toList Rows.fnExactApplyAtomsSpec.vars false W args.toList ds gs before) (hL : laidMetH Tryd.prog Rows.fnExactApplyAtomsRow.laid W) (hS : W.ShapedOpen Tryd.prog) :
    Calls Tryd.prog 5 args W fun e W' => ∃ v, e = .returned v ∧ Rows.fnExactApplyAtomsSpec.post enc Tryd.prog Tryd.f5 false true false false W args v W' := by
  have hW' := hW
  obtain ⟨p, q, hA0, hV, rfl, hfz, hnd⟩ := hW
  have hA : DataW.TrodAll enc Tryd.prog W 0 (fun _ => true) true Tryd.f5.params.toList args.toList ds p := hA0
  rw [Tryd.params5] at hA hval
  obtain ⟨v0, vs0, d0, ds0, p0, q0, hargs, rfl, rfl, h0, r0⟩ := trodAll_cons hA
  obtain ⟨v1, vs1, d1, ds1, p1, q1, rfl, rfl, rfl, h1, r1⟩ := trodAll_cons r0
  obtain ⟨rfl, rfl, rfl⟩ := trodAll_nil r1
  obtain rfl : args = #[v0, v1] := by cases args; simp_all
  obtain ⟨rfl, rfl⟩ := trodVars_none hV
  have k0 := h0
  have lt0 : ∀ x ∈ p0, x.block < W.heap.size := by obtain ⟨m, hm⟩ := k0; exact DataW.trod_lt m _ _ _ hm
  obtain ⟨s0, rfl, w0⟩ := open_stV Tryd.underlying33 (by kernel_rfl) (by kernel_rfl) (by kernel_rfl) ⟨rfl, rfl⟩ ⟨rfl, rfl⟩ ⟨rfl, rfl⟩ ⟨rfl, rfl⟩ ⟨rfl, rfl⟩ Tryd.underlying3 Tryd.underlying9 Tryd.underlying4 (by kernel_rfl) (hval 0 33 v0 rfl rfl) h0
  have k1 := h1
  have lt1 : ∀ x ∈ p1, x.block < W.heap.size := by obtain ⟨m, hm⟩ := k1; exact DataW.trod_lt m _ _ _ hm
  obtain ⟨a1, n1, c1, rfl⟩ := okWide_slice Tryd.underlying41 (hval 1 41 v1 rfl rfl)
  obtain ⟨e1, w1⟩ : ∃ es, AtomsIn W a1 n1 c1 es := by
    obtain ⟨fuel, hf⟩ := h1
    obtain ⟨a, n, c, es, hcs, hin⟩ := open_atoms Tryd.underlying41 Tryd.underlying34 (by kernel_rfl) (by kernel_rfl) (by kernel_rfl) ⟨rfl, rfl⟩ ⟨rfl, rfl⟩ Tryd.underlying3 Tryd.underlying9 hf
    simp [Value.cells] at hcs
    obtain ⟨rfl, rfl, rfl⟩ := hcs
    exact ⟨es, hin⟩
  clear hA0 hval
  refine (walk s0 a1 n1 c1 e1 W hS  w0 w1).mono fun e W' ⟨he, bel⟩ => ?_
  subst he
  exact ⟨_, rfl, _, _, _, [], _, [], hW', trodAll_mk1 (shut_bool Tryd.underlying4 _), (trodAll_cons_mk (Below.trod laidOut (by kernel_rfl) (of_decide_eq_true (by kernel_rfl)) k0 bel lt0) (trodAll_cons_mk (Below.trod laidOut (by kernel_rfl) (of_decide_eq_true (by kernel_rfl)) k1 bel lt1) trodAll_mk0)), rfl, bel.frame _, fun h => by cases h⟩

/-- There is an input that fits, at a world that is shown to be shaped. -/
theorem witness_row_shaped {H : Type} {enc : TypeId × Value → H} {C : Checked} {os : Os} {f : FuncId} {fn : Func} {s : OpenSpec} {conds : List PathCond} {apart : Bool} {laid : List (String × DataW Unit)} (modest : Bool) (w0 : World) (args : Array Value) (hos : w0.os = os)
    (hsh : (w0.forCall (fun _ _ => 0) ⟨#[], args, []⟩).Shaped C.prog)
    (hok : Input.okWideB C.prog (w0.forCall (fun _ _ => 0) ⟨#[], args, []⟩) f ⟨#[], args, []⟩ = true)
    (hrow : s.preRow enc C.prog fn conds apart laid (w0.forCall (fun _ _ => 0) ⟨#[], args, []⟩).memory args) :
    ∃ (w : World) (tape : Tape) (i : Input), w.os = os ∧ (w.forCall tape i).Shaped C.prog ∧ i.vars = [] ∧ Input.okWide C.prog (w.forCall tape i) .any w.heap.size f i ∧
      s.preRow enc C.prog fn conds apart laid (w.forCall tape i).memory i.args ∧ ({ modest := modest } : Assume).holds C.prog (lone (Frame.enter C.prog f i.args .normal) [] (w.forCall tape i)) :=
  ⟨w0, fun _ _ => 0, ⟨#[], args, []⟩, hos, hsh, (Input.okWide_of_okWideB (base := 0) hok).1, (Input.okWide_of_okWideB hok).2, hrow, by
    simp only [Assume.holds]
    exact ⟨by simp, by simp, fun _ => Modest.zero, by simp, by simp⟩⟩
theorem reads (os : Os) {H : Type} (enc : TypeId × Value → H) : ∃ places, DataW.whole enc Tryd.prog ((World.laidAll Tryd.prog os Rows.fnExactApplyAtomsRow.laid).forCall (fun _ _ => 0) ⟨#[], #[.agg #[.string ByteArray.empty, .bool false, .bool false, .int .i64 0, .int .i64 0], .slice none 0 0], []⟩).memory Tryd.f5.params.toList Rows.fnExactApplyAtomsSpec.vars false (#[.agg #[.string ByteArray.empty, .bool false, .bool false, .int .i64 0, .int .i64 0], .slice none 0 0] : Array Value).toList 8 = some ([.agg [.lit (.string []), .lit (.bool false), .lit (.bool false), .lit (.int .i64 0), .lit (.int .i64 0)], .nil], [], places) :=
  ⟨[], by kernel_rfl⟩

set_option maxRecDepth 100000 in
theorem lifted (os : Os) (started : os.Started) (H : Type) (enc : TypeId × Value → H) (F : Stop.Interp) :
    ReturnsInHanded {} Tryd.checked os 5 .any ((OpenSpec.ofChange Rows.fnExactApplyAtomsSpec).preRow enc Tryd.prog Tryd.f5 Rows.fnExactApplyAtomsRow.domain false Rows.fnExactApplyAtomsRow.laid) (((OpenSpec.ofChange Rows.fnExactApplyAtomsSpec).at F).post enc Tryd.prog Tryd.f5 false true false false) := by
  obtain ⟨places, hx⟩ := reads os enc
  refine returnsInHanded_of_row (C := Tryd.checked) (s := OpenSpec.ofChange Rows.fnExactApplyAtomsSpec) own started (by kernel_rfl) Tryd.func5
    (witness_row_shaped (enc := enc) (C := Tryd.checked) false (World.laidAll Tryd.prog os Rows.fnExactApplyAtomsRow.laid) #[.agg #[.string ByteArray.empty, .bool false, .bool false, .int .i64 0, .int .i64 0], .slice none 0 0] (World.laidAll_os _ _ _) (World.shaped_of_ZipB (by kernel_rfl) (by kernel_rfl)) (by kernel_rfl)
      (OpenSpec.preRow_of_cond 8 hx (by kernel_rfl) (fun k hk => by cases hk) (by kernel_rfl) (by rw [MakeChecks.laidMetH_plain _ _ _ (by kernel_rfl)]; exact laidMet_laidAll _ (by kernel_rfl) (by kernel_rfl)))) ?_
  intro W base args ds gs before hval hW _ _ _ hL hS _
  exact contract H enc W base args ds gs before hval hW hL hS

theorem said : Rows.FnExactApplyAtomsSaid :=
  OpenClaim.holds_of_cond 5 Tryd.f5 rfl rfl rfl rfl rfl rfl rfl ⟨rfl, rfl, rfl, rfl, rfl⟩ rfl rfl rfl rfl rfl (by kernel_rfl) Tryd.func5 (by kernel_rfl)
    (of_decide_eq_true (by kernel_rfl)) (by unfold Func.isWrapper; first | (rw [if_pos (by decide +kernel)]; kernel_rfl) | (rw [if_neg (by decide +kernel)]; exact ⟨rfl, rfl⟩))
    (fun os started H enc _ F => by rw [OpenClaim.pre_eq_preRow]; exact lifted os started H enc F)

theorem plain (f : FuncId) (fn : Func) (hf : Tryd.pinned.checked.prog.funcNamed "loop.example/g00882/laws.FnExactApplyAtoms" = some f) (hfn : Tryd.pinned.checked.prog.funcs[f]? = some fn) :
    false = Tryd.pinned.checked.prog.looks [] ∧ ∀ (j : Nat) t, fn.params[j]? = some t → Tryd.pinned.checked.prog.wantsStandIn t = false := by
  obtain rfl : f = 5 := Option.some.inj ((show Tryd.prog.funcNamed "loop.example/g00882/laws.FnExactApplyAtoms" = some 5 by kernel_rfl).symm.trans hf) |>.symm
  obtain rfl : fn = Tryd.f5 := (Option.some.inj (Tryd.func5.symm.trans hfn)).symm
  refine ⟨by kernel_rfl, fun j t ht => ?_⟩
  rw [Tryd.params5] at ht
  have hm : t ∈ [33, 41] := by have := Array.mem_of_getElem? ht; simpa using this
  have hall : ([33, 41].all fun u => !Tryd.prog.wantsStandIn u) = true := by kernel_rfl
  exact (show Tryd.prog.wantsStandIn t = false by simpa using List.all_eq_true.1 hall t hm)

/-- THE TIED CARD. -/
theorem proved : Rows.FnExactApplyAtomsCardSaid :=
  Claim7.holds_tied_plain_at .later [] _ _ _ _ said (fun _ h => by cases h) (by kernel_rfl) (fun _ h => by cases h) fnExactApplyAtoms_row_tie rfl ⟨rfl, rfl⟩ (by kernel_rfl) rfl plain (by kernel_rfl)
#print axioms proved
end Go.Proofs.YtnpiphkglhcifaaDoor.fnExactApplyAtoms
