/-
  laws.FnSplitJoin returns true whatever the code: SplitString and JoinStrings are inverse and LessString is a strict order, at all that the code draws. Conditions: none but the row's own.
-/
import Derived.Test.YtbpjlhdhlcmajaaRows
import Derived.WalkKit
import Derived.ProofKit
import Derived.OpenShut
import Derived.ShutString
import Derived.ChangeOld
import Derived.Below
import Derived.SliceStrings
import Derived.JoinedCond
import Derived.Deep.DeepHandedRow
import Derived.Deep.DeepWitnessRowRef
import Derived.Lib.Hide
import Derived.Test.YtbpjlhdhlcmajaaIter
import Derived.Test.YtbpjlhdhlcmajaaJoin
import Derived.Test.YtbpjlhdhlcmajaaDraw
import Derived.Test.YtbpjlhdhlcmajaaLess
namespace Go.Proofs.Ytbpjlhdhlcmajaa.fnSplitJoin
open Go.ChangeShapes Go.WideShapes Go.ChangeAt Go.RowKit
open Go.ChangeMaps (open_string shut_string)
set_option linter.unusedVariables false

theorem own : ownKnob Try.prog.godebug = none := by kernel_rfl
theorem laidOut : laidOutB Try.prog = true := by kernel_rfl

/-- A slice of integers that came in. -/
def IsRow (k : IntKind) (w : World) (a : Option Addr) (len cap : Nat) (zs : List Int) : Prop :=
  (a = none ∧ len = 0 ∧ cap = 0 ∧ zs = []) ∨
  ∃ x, a = some x ∧ len ≤ cap ∧ cap ≤ maxLen ∧ zs.length = cap ∧ (∀ i, i < zs.length → w.cell? (x.add i) = some (.int k (zs.getD i 0))) ∧ ∀ n ∈ zs, (Lit.int k n).wf = true

theorem code_of {w : World} {a : Option Addr} {n c : Nat} {z : List Int} (h : IsRow .u8 w a n c z) (hn : n ≤ 1000000) : CodeAt w a n := by
  refine ⟨hn, fun h0 => ?_⟩
  rcases h with ⟨rfl, rfl, rfl, rfl⟩ | ⟨x, rfl, hl, hm, hz, hcell, hwz⟩
  · omega
  · obtain ⟨b, o, spot⟩ := x
    have h1 := hcell 0 (by omega)
    have hspot : spot = none := by simpa [Addr.add] using World.cell?_spot h1
    subst hspot
    refine ⟨b, o, rfl, ?_, fun i hi => ?_⟩
    · have : (w.cell? ⟨b, o, none⟩).isSome := by have := h1; simp [Addr.add] at this; rw [this]; rfl
      rcases Nat.lt_or_ge b w.heap.size with h' | h'
      · exact h'
      · simp [World.cell?, Array.getElem?_eq_none h'] at this
    · have h2 := hcell i (by omega)
      have h3 := bounds_u8 (hwz (z.getD i 0) (by rw [List.getD_eq_getElem?_getD, List.getElem?_eq_getElem (by omega)]; exact List.getElem_mem _))
      refine ⟨z.getD i 0, h3.1, h3.2, ?_⟩
      by_cases hi0 : i = 0
      · subst hi0; simpa [Addr.add] using h2
      · simpa [Addr.add, hi0] using h2
theorem row_len {w : World} {a : Option Addr} {n c : Nat} {z : List Int} (h : IsRow .u8 w a n c z) : n ≤ maxLen := by
  rcases h with ⟨_, rfl, _, _⟩ | ⟨x, _, hl, hm, _⟩
  · exact Nat.zero_le _
  · omega
/-- What the law asks of the split. -/
theorem split_facts (s sep : ByteArray) (hs : s.size ≤ 16) :
    (sep.size ≠ 1 ∧ (∀ w, Calls Try.prog 10 #[.string s, .string sep] w fun e w' => e = .returned (.tuple #[.slice none 0 0, .bool false]) ∧ Below w.heap.size w w')) ∨
    (sep.size = 1 ∧ ∃ xs : List ByteArray,
      (∀ w, Calls Try.prog 10 #[.string s, .string sep] w fun e w' => (∃ v, e = .returned (.tuple #[v, .bool true]) ∧ StrsAt w' v xs) ∧ Below w.heap.size w w') ∧
      (∀ v w, StrsAt w v xs → Calls Try.prog 12 #[v, .string sep] w fun e w' => e = .returned (.tuple #[.string s, .bool true]) ∧ Below w.heap.size w w')) := by
  by_cases h : sep.size = 1
  · obtain ⟨c, rfl⟩ := one_byte h
    refine .inr ⟨h, Pl.splitB s c, fun w => ?_, fun v w hv => ?_⟩
    · refine (Split_ok s c w (by omega)).mono ?_
      rintro e w' ⟨⟨v, he, hown⟩, hb⟩
      exact ⟨⟨v, he, ownsRow_at hown⟩, hb⟩
    · refine (Join_any v _ c w hv (by have := Pl.splitB_len s c; omega) (fun x hx => by have := Pl.splitB_size s c x hx; omega)).mono ?_
      rintro e w' ⟨he, hb⟩
      refine ⟨?_, hb⟩
      rw [he.yes (Pl.splitB_ok s c (by omega))]
      unfold joined
      rw [Pl.splitB_join, ← bytes_mk rfl]
  · exact .inl ⟨h, fun w => Split_bad s sep w (by unfold maxLen; omega) (.inr h)⟩
/-! ### THE WALK: the Go text returns true, and writes nothing that was there. -/
set_option maxRecDepth 100000 in
set_option maxHeartbeats 1000000 in
theorem walk (a0 : Option Addr) (n0 c0 : Nat) (z0 : List Int) (w : World) (hS : w.ShapedOpen Try.prog)  (w0 : IsRow .u8 w a0 n0 c0 z0) :
    Calls Try.prog 3 #[.slice a0 n0 c0] w fun e w' => e = .returned (.bool true) ∧ Below w.heap.size w w' := by
  have hnm := row_len w0
  by_cases hbig : 65536 < n0
  · have C := Lib.hid (vBig_yes a0 n0 c0 w hbig hnm)
    clear w0 hS hnm
    go_enter Try.func3, Try.ntmps3
    go_wp2_with fail
    refine C.out.mono ?_
    rintro e w1 ⟨rfl, rfl⟩
    go_wp2
    go_ret
    exact ⟨rfl, Below.refl _ _⟩
  · have C := Lib.hid (vBig_no a0 n0 c0 w (by omega))
    have HCode := Lib.hid (code_of w0 (by omega))
    have CS := Lib.hid (fun w h => drawSplit_any a0 n0 c0 w h)
    have CJ := Lib.hid (fun w h => drawJoin_any a0 n0 c0 w h)
    have CL := Lib.hid (fun w h => drawLess_any a0 n0 c0 w h)
    have L1 := Lib.hid (fun a b w => Less_any a b w)
    have L2 := Lib.hid (fun a b w => specLess_any a b w)
    clear w0 hS hnm hbig
    go_enter Try.func3, Try.ntmps3
    go_wp2_with fail
    refine C.out.mono ?_
    rintro e w0 ⟨rfl, rfl⟩
    go_wp2_with fail
    refine (CS.out _ HCode.out).mono ?_
    rintro e w1 ⟨⟨s, sep, hs, hsep, rfl⟩, hb1⟩
    have HB1 := Lib.hid hb1
    clear hb1
    rcases split_facts s sep hs with ⟨hne, hsp⟩ | ⟨heq, xs, hsp, hjn⟩
    · have HSp := Lib.hid hsp
      have hne' : ((sep.size : Int) != 1) = true := by simp; omega
      clear hsp hne
      go_wp2_with fail
      refine (HSp.out _).mono ?_
      rintro e w2 ⟨rfl, hb2⟩
      have HB2 := Lib.hid (HB1.out.trans (hb2.mono HB1.out.size))
      clear hb2
      go_wp2_with fail
      refine (CJ.out _ (HCode.out.below HB2.out)).mono ?_
      rintro e w3 ⟨⟨u, ks, y, hy, rfl, hu, hkl, hkx⟩, hb3⟩
      obtain ⟨J, b, hI, hSpec⟩ := join_both ks y (by omega) (fun x h => by have := hkx x h; omega)
      have HI := Lib.hid hI
      have HSpec := Lib.hid hSpec
      have HU := Lib.hid hu
      have HB23 := Lib.hid hb3
      have HB3 := Lib.hid (HB2.out.trans (hb3.mono HB2.out.size))
      clear hI hSpec hu hkl hkx hb3 hy
      go_wp2_with fail
      refine (HI.out _ _ HU.out).mono ?_
      rintro e w4 ⟨rfl, hb4⟩
      have HU4 := Lib.hid (HU.out.below hb4)
      have HB34 := Lib.hid hb4
      have HB4 := Lib.hid (HB3.out.trans (hb4.mono HB3.out.size))
      clear hb4
      go_wp2_with fail
      refine (HSpec.out _ _ HU4.out).mono ?_
      rintro e w5 ⟨rfl, hb5⟩
      have HB45 := Lib.hid hb5
      have HB5 := Lib.hid (HB4.out.trans (hb5.mono HB4.out.size))
      clear hb5
      go_wp2_with fail
      refine (CL.out _ (HCode.out.below HB5.out)).mono ?_
      rintro e w6 ⟨⟨p, q, hp, hq, rfl⟩, hb6⟩
      have HB56 := Lib.hid hb6
      have HB6 := Lib.hid (HB5.out.trans (hb6.mono HB5.out.size))
      clear hb6
      cases hl : Pl.less p q with
      | false =>
        have l1 := fun w => L1.out p q w
        have l2 := fun w => L2.out p q w
        simp only [hl] at l1 l2
        have HL1 := Lib.hid l1
        have HL2 := Lib.hid l2
        clear l1 l2 hl
        go_wp2_with fail
        refine (HL1.out _).mono ?_
        rintro e w7 ⟨rfl, rfl⟩
        go_wp2_with fail
        refine (HL2.out _).mono ?_
        rintro e w7 ⟨rfl, rfl⟩
        go_wp2_with fail
        refine (HL1.out _).mono ?_
        rintro e w7 ⟨rfl, rfl⟩
        go_wp2
        go_ret
        exact ⟨rfl, HB6.out⟩
      | true =>
        have l1 := fun w => L1.out p q w
        have l2 := fun w => L2.out p q w
        have l3 := fun w => L1.out q p w
        simp only [hl, Pl.less_asym p q hl] at l1 l2 l3
        have HL1 := Lib.hid l1
        have HL2 := Lib.hid l2
        have HL3 := Lib.hid l3
        clear l1 l2 l3 hl
        go_wp2_with fail
        refine (HL1.out _).mono ?_
        rintro e w7 ⟨rfl, rfl⟩
        go_wp2_with fail
        refine (HL2.out _).mono ?_
        rintro e w7 ⟨rfl, rfl⟩
        go_wp2_with fail
        refine (HL1.out _).mono ?_
        rintro e w7 ⟨rfl, rfl⟩
        go_wp2_with fail
        refine (HL3.out _).mono ?_
        rintro e w7 ⟨rfl, rfl⟩
        go_wp2
        go_ret
        exact ⟨rfl, HB6.out⟩
    · have HSp := Lib.hid hsp
      have HJn := Lib.hid hjn
      have hne' : ((sep.size : Int) != 1) = false := by simp; omega
      have HEq := Lib.hid heq
      clear hsp hjn heq
      go_wp2_with fail
      refine (HSp.out _).mono ?_
      rintro e w2 ⟨⟨l, rfl, hv⟩, hb2⟩
      have HV := Lib.hid hv
      have HB2 := Lib.hid (HB1.out.trans (hb2.mono HB1.out.size))
      clear hb2 hv
      go_wp2_with fail
      refine (CJ.out _ (HCode.out.below HB2.out)).mono ?_
      rintro e w3 ⟨⟨u, ks, y, hy, rfl, hu, hkl, hkx⟩, hb3⟩
      obtain ⟨J, b, hI, hSpec⟩ := join_both ks y (by omega) (fun x h => by have := hkx x h; omega)
      have HI := Lib.hid hI
      have HSpec := Lib.hid hSpec
      have HU := Lib.hid hu
      have HB23 := Lib.hid hb3
      have HB3 := Lib.hid (HB2.out.trans (hb3.mono HB2.out.size))
      clear hI hSpec hu hkl hkx hb3 hy
      go_wp2_with fail
      refine (HI.out _ _ HU.out).mono ?_
      rintro e w4 ⟨rfl, hb4⟩
      have HU4 := Lib.hid (HU.out.below hb4)
      have HB34 := Lib.hid hb4
      have HB4 := Lib.hid (HB3.out.trans (hb4.mono HB3.out.size))
      clear hb4
      go_wp2_with fail
      refine (HSpec.out _ _ HU4.out).mono ?_
      rintro e w5 ⟨rfl, hb5⟩
      have HB45 := Lib.hid hb5
      have HB5 := Lib.hid (HB4.out.trans (hb5.mono HB4.out.size))
      clear hb5
      go_wp2_with fail
      refine (CL.out _ (HCode.out.below HB5.out)).mono ?_
      rintro e w6 ⟨⟨p, q, hp, hq, rfl⟩, hb6⟩
      have HB56 := Lib.hid hb6
      have HB6 := Lib.hid (HB5.out.trans (hb6.mono HB5.out.size))
      clear hb6
      cases hl : Pl.less p q with
      | false =>
        have l1 := fun w => L1.out p q w
        have l2 := fun w => L2.out p q w
        simp only [hl] at l1 l2
        have HL1 := Lib.hid l1
        have HL2 := Lib.hid l2
        clear l1 l2 hl
        go_wp2_with fail
        refine (HL1.out _).mono ?_
        rintro e w7 ⟨rfl, rfl⟩
        go_wp2_with fail
        refine (HL2.out _).mono ?_
        rintro e w7 ⟨rfl, rfl⟩
        go_wp2_with fail
        refine (HL1.out _).mono ?_
        rintro e w7 ⟨rfl, rfl⟩
        go_wp2_with fail
        refine (HJn.out _ _ ((((HV.out.below HB23.out).below HB34.out).below HB45.out).below HB56.out)).mono ?_
        rintro e w8 ⟨rfl, hb8⟩
        have HB8 := Lib.hid (HB6.out.trans (hb8.mono HB6.out.size))
        clear hb8
        go_wp2
        go_ret
        exact ⟨rfl, HB8.out⟩
      | true =>
        have l1 := fun w => L1.out p q w
        have l2 := fun w => L2.out p q w
        have l3 := fun w => L1.out q p w
        simp only [hl, Pl.less_asym p q hl] at l1 l2 l3
        have HL1 := Lib.hid l1
        have HL2 := Lib.hid l2
        have HL3 := Lib.hid l3
        clear l1 l2 l3 hl
        go_wp2_with fail
        refine (HL1.out _).mono ?_
        rintro e w7 ⟨rfl, rfl⟩
        go_wp2_with fail
        refine (HL2.out _).mono ?_
        rintro e w7 ⟨rfl, rfl⟩
        go_wp2_with fail
        refine (HL1.out _).mono ?_
        rintro e w7 ⟨rfl, rfl⟩
        go_wp2_with fail
        refine (HL3.out _).mono ?_
        rintro e w7 ⟨rfl, rfl⟩
        go_wp2_with fail
        refine (HJn.out _ _ ((((HV.out.below HB23.out).below HB34.out).below HB45.out).below HB56.out)).mono ?_
        rintro e w8 ⟨rfl, hb8⟩
        have HB8 := Lib.hid (HB6.out.trans (hb8.mono HB6.out.size))
        clear hb8
        go_wp2
        go_ret
        exact ⟨rfl, HB8.out⟩

/-! ### THE ROW's STEP -/
theorem contract (H : Type) (enc : TypeId × Value → H) (W : World) (base : Nat) (args : Array Value) (ds gs : List (DataW H)) (before : List MemPlace)
    (hval : ∀ (j : Nat) t v, Try.f3.params[j]? = some t → args[j]? = some v → Value.okWide Try.prog W .any base t v)
    (hW : DataW.Whole enc Try.prog Try.f3.params.toList Rows.fnSplitJoinSpec.vars false W args.toList ds gs before) (hL : laidMetH Try.prog Rows.fnSplitJoinRow.laid W) (hS : W.ShapedOpen Try.prog) :
    Calls Try.prog 3 args W fun e W' => ∃ v, e = .returned v ∧ Rows.fnSplitJoinSpec.post enc Try.prog Try.f3 false true false false W args v W' := by
  have hW' := hW
  obtain ⟨p, q, hA0, hV, rfl, hfz, hnd⟩ := hW
  have hA : DataW.TrodAll enc Try.prog W 0 (fun _ => true) true Try.f3.params.toList args.toList ds p := hA0
  rw [Try.params3] at hA hval
  obtain ⟨v0, vs0, d0, ds0, p0, q0, hargs, rfl, rfl, h0, r0⟩ := trodAll_cons hA
  obtain ⟨rfl, rfl, rfl⟩ := trodAll_nil r0
  obtain rfl : args = #[v0] := by cases args; simp_all
  obtain ⟨rfl, rfl⟩ := trodVars_none hV
  have k0 := h0
  have lt0 : ∀ x ∈ p0, x.block < W.heap.size := by obtain ⟨m, hm⟩ := k0; exact DataW.trod_lt m _ _ _ hm
  obtain ⟨a0, n0, c0, rfl⟩ := okWide_slice Try.underlying22 (hval 0 22 v0 rfl rfl)
  obtain ⟨z0, w0⟩ : ∃ zs, IsRow .u8 W a0 n0 c0 zs := by
    obtain ⟨fuel, hf⟩ := h0
    rcases open_ints Try.underlying22 Try.underlying5 (by kernel_rfl) hf with ⟨hcs, _⟩ | ⟨x, l, c, zs, hcs, _, hl, hm, hz, _, hcell, hwz⟩
    · simp [Value.cells] at hcs
      obtain ⟨rfl, rfl, rfl⟩ := hcs
      exact ⟨[], .inl ⟨rfl, rfl, rfl, rfl⟩⟩
    · simp [Value.cells] at hcs
      obtain ⟨rfl, rfl, rfl⟩ := hcs
      exact ⟨zs, .inr ⟨_, rfl, hl, hm, by simpa using hz, hcell, hwz⟩⟩
  clear hA0 hval
  refine (walk a0 n0 c0 z0 W hS  w0).mono fun e W' ⟨he, bel⟩ => ?_
  subst he
  exact ⟨_, rfl, _, _, _, [], _, [], hW', trodAll_mk1 (shut_bool Try.underlying4 _), (trodAll_cons_mk (Below.trod laidOut (by kernel_rfl) (of_decide_eq_true (by kernel_rfl)) k0 bel lt0) trodAll_mk0), rfl, bel.frame _, fun h => by cases h⟩

theorem reads (os : Os) {H : Type} (enc : TypeId × Value → H) : ∃ places, DataW.whole enc Try.prog ((World.holding Try.prog os ⟨#[], #[], []⟩).forCall (fun _ _ => 0) ⟨#[], #[.slice none 0 0], []⟩).memory Try.f3.params.toList Rows.fnSplitJoinSpec.vars false (#[.slice none 0 0] : Array Value).toList 8 = some ([.nil], [], places) :=
  ⟨[], by kernel_rfl⟩

set_option maxRecDepth 100000 in
theorem lifted (os : Os) (started : os.Started) (H : Type) (enc : TypeId × Value → H) (F : Stop.Interp) :
    ReturnsInHanded {} Try.checked os 3 .any ((OpenSpec.ofChange Rows.fnSplitJoinSpec).preRow enc Try.prog Try.f3 Rows.fnSplitJoinRow.domain false Rows.fnSplitJoinRow.laid) (((OpenSpec.ofChange Rows.fnSplitJoinSpec).at F).post enc Try.prog Try.f3 false true false false) := by
  obtain ⟨places, hx⟩ := reads os enc
  refine returnsInHanded_of_row (C := Try.checked) (s := OpenSpec.ofChange Rows.fnSplitJoinSpec) own started (by kernel_rfl) Try.func3
    (witness_row_atRef (enc := enc) (C := Try.checked) false (World.holding Try.prog os ⟨#[], #[], []⟩) #[.slice none 0 0] rfl (by kernel_rfl) (by kernel_rfl) (by kernel_rfl)
      (OpenSpec.preRow_of_cond 8 hx (by kernel_rfl) (fun k hk => by cases hk) (by kernel_rfl) ⟨[], rfl, List.nodup_nil, fun b off h => by cases h⟩)) ?_
  intro W base args ds gs before hval hW _ _ _ hL hS _
  exact contract H enc W base args ds gs before hval hW hL hS

theorem said : Rows.FnSplitJoinSaid :=
  OpenClaim.holds_of_cond 3 Try.f3 rfl rfl rfl rfl rfl rfl rfl ⟨rfl, rfl, rfl, rfl, rfl⟩ rfl rfl rfl rfl rfl (by kernel_rfl) Try.func3 (by kernel_rfl)
    (of_decide_eq_true (by kernel_rfl)) (by unfold Func.isWrapper; first | (rw [if_pos (by decide +kernel)]; kernel_rfl) | (rw [if_neg (by decide +kernel)]; exact ⟨rfl, rfl⟩))
    (fun os started H enc _ F => by rw [OpenClaim.pre_eq_preRow]; exact lifted os started H enc F)

theorem proved : Rows.FnSplitJoinSaid := said
#print axioms proved
end Go.Proofs.Ytbpjlhdhlcmajaa.fnSplitJoin
