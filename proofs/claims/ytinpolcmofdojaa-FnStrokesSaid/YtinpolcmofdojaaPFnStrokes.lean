/-
  laws.FnStrokes returns true whatever the code: FormatStroke and ParseStroke are inverse, at all that the code draws. Conditions: none but the row's own.
-/
import Derived.Test.YtinpolcmofdojaaRows
import Derived.WalkKit
import Derived.ProofKit
import Derived.OpenShut
import Derived.ShutString
import Derived.ChangeOld
import Derived.Below
import Derived.SliceStrings
import Derived.JoinedCond
import Derived.Deep.DeepHandedRow
import Derived.Deep.DeepWitnessRowRef
import Derived.Lib.Hide
import Derived.Test.YtinpolcmofdojaaLoose
import Derived.Test.YtinpolcmofdojaaDrawK
import Derived.Test.YtinpolcmofdojaaBig
namespace Go.Proofs.Ytinpolcmofdojaa.fnStrokes
open Go.ChangeShapes Go.WideShapes Go.ChangeAt Go.RowKit
open Go.ChangeMaps (open_string shut_string)
set_option linter.unusedVariables false

theorem own : ownKnob Try.prog.godebug = none := by kernel_rfl
theorem laidOut : laidOutB Try.prog = true := by kernel_rfl

/-- A slice of integers that came in. -/
def IsRow (k : IntKind) (w : World) (a : Option Addr) (len cap : Nat) (zs : List Int) : Prop :=
  (a = none ∧ len = 0 ∧ cap = 0 ∧ zs = []) ∨
  ∃ x, a = some x ∧ len ≤ cap ∧ cap ≤ maxLen ∧ zs.length = cap ∧ (∀ i, i < zs.length → w.cell? (x.add i) = some (.int k (zs.getD i 0))) ∧ ∀ n ∈ zs, (Lit.int k n).wf = true

theorem code_of {w : World} {a : Option Addr} {n c : Nat} {z : List Int} (h : IsRow .u8 w a n c z) (hn : n ≤ 1000000) : CodeAt w a n := by
  refine ⟨hn, fun h0 => ?_⟩
  rcases h with ⟨rfl, rfl, rfl, rfl⟩ | ⟨x, rfl, hl, hm, hz, hcell, hwz⟩
  · omega
  · obtain ⟨b, o, spot⟩ := x
    have h1 := hcell 0 (by omega)
    have hspot : spot = none := by simpa [Addr.add] using World.cell?_spot h1
    subst hspot
    refine ⟨b, o, rfl, ?_, fun i hi => ?_⟩
    · have : (w.cell? ⟨b, o, none⟩).isSome := by have := h1; simp [Addr.add] at this; rw [this]; rfl
      rcases Nat.lt_or_ge b w.heap.size with h' | h'
      · exact h'
      · simp [World.cell?, Array.getElem?_eq_none h'] at this
    · have h2 := hcell i (by omega)
      have h3 := bounds_u8 (hwz (z.getD i 0) (by rw [List.getD_eq_getElem?_getD, List.getElem?_eq_getElem (by omega)]; exact List.getElem_mem _))
      refine ⟨z.getD i 0, h3.1, h3.2, ?_⟩
      by_cases hi0 : i = 0
      · subst hi0; simpa [Addr.add] using h2
      · simpa [Addr.add, hi0] using h2
theorem row_len {w : World} {a : Option Addr} {n c : Nat} {z : List Int} (h : IsRow .u8 w a n c z) : n ≤ maxLen := by
  rcases h with ⟨_, rfl, _, _⟩ | ⟨x, _, hl, hm, _⟩
  · exact Nat.zero_le _
  · omega
/-- What the law asks of a stroke's text. -/
theorem fmt_facts (s : Int) : ∃ (t : ByteArray) (b : Bool) (q : Int) (b2 : Bool), okS s = b ∧ (b = true → q = s ∧ b2 = true) ∧
      (∀ w, Calls Try.prog 17 #[.int .i64 s] w fun e w' => e = .returned (.tuple #[.string t, .bool b]) ∧ Below w.heap.size w w') ∧
      (∀ w, Calls Try.prog 16 #[.int .i64 s] w fun e w' => e = .returned (.tuple #[.string t, .bool b]) ∧ Below w.heap.size w w') ∧
      (∀ w, Calls Try.prog 19 #[.string t] w fun e w' => e = .returned (.tuple #[.int .i64 q, .bool b2]) ∧ Below w.heap.size w w') := by
  obtain ⟨t, b, ht, hb, hy, _, h1, h2⟩ := format_both s
  refine ⟨t, b, (Pl.strict t.data.toList : Nat), _, hb.symm, fun e => ?_, h1, h2, fun w => ParseStroke_any t w (by unfold maxLen; omega)⟩
  subst e
  have hs := okS_iff.1 hb.symm
  obtain ⟨n, rfl⟩ := Int.eq_ofNat_of_zero_le (show 0 ≤ s by omega)
  have e1 : Pl.strict t.data.toList = n := by
    rw [hy rfl, Int.toNat_natCast]
    have := Pl.strict_nota n (by omega)
    simpa [notaB] using this
  rw [e1]
  exact ⟨rfl, by rw [bne_iff_ne]; omega⟩
/-- What the law asks of a text that is read. -/
theorem read_facts (u : ByteArray) (hu : u.size ≤ 100) : ∃ (x : Int) (f : Bool) (v : ByteArray) (f2 : Bool), (f = true → v = u ∧ f2 = true) ∧
      (∀ w, Calls Try.prog 20 #[.string u] w fun e w' => e = .returned (.tuple #[.int .i64 x, .bool f]) ∧ Below w.heap.size w w') ∧
      (∀ w, Calls Try.prog 19 #[.string u] w fun e w' => e = .returned (.tuple #[.int .i64 x, .bool f]) ∧ Below w.heap.size w w') ∧
      (∀ w, Calls Try.prog 16 #[.int .i64 x] w fun e w' => e = .returned (.tuple #[.string v, .bool f2]) ∧ Below w.heap.size w w') := by
  obtain ⟨v, f2, _, hb, hy, _, _, h2⟩ := format_both (Pl.strict u.data.toList : Nat)
  refine ⟨(Pl.strict u.data.toList : Nat), _, v, f2, fun e => ?_, fun w => specParseStroke_any u w (by unfold maxLen; omega), fun w => ParseStroke_any u w (by unfold maxLen; omega), h2⟩
  have h0 : Pl.strict u.data.toList ≠ 0 := by
    have := bne_iff_ne.1 e
    omega
  have hlt := Pl.strict_lt u.data.toList
  have hok : f2 = true := by rw [hb]; exact okS_yes ⟨by omega, by omega⟩
  refine ⟨?_, hok⟩
  rw [hy hok, Int.toNat_natCast]
  unfold notaB
  rw [(Pl.nota_strict u.data.toList h0).1]
/-! ### THE WALK: the Go text returns true, and writes nothing that was there. -/
set_option maxRecDepth 100000 in
set_option maxHeartbeats 1000000 in
theorem walk (a0 : Option Addr) (n0 c0 : Nat) (z0 : List Int) (w : World) (hS : w.ShapedOpen Try.prog)  (w0 : IsRow .u8 w a0 n0 c0 z0) :
    Calls Try.prog 3 #[.slice a0 n0 c0] w fun e w' => e = .returned (.bool true) ∧ Below w.heap.size w w' := by
  have hnm := row_len w0
  by_cases hbig : 65536 < n0
  · have C := Lib.hid (big_yes a0 n0 c0 w hbig hnm)
    clear w0 hS hnm
    go_enter Try.func3, Try.ntmps3
    go_wp2_with fail
    refine C.out.mono ?_
    rintro e w1 ⟨rfl, rfl⟩
    go_wp2
    go_ret
    exact ⟨rfl, Below.refl _ _⟩
  · have C := Lib.hid (big_no a0 n0 c0 w (by omega))
    have HCode := Lib.hid (code_of w0 (by omega))
    have CDF := Lib.hid (fun w h => drawFormatStroke_any a0 n0 c0 w h)
    have CDP := Lib.hid (fun w h => drawParseStroke_any a0 n0 c0 w h)
    have CV := Lib.hid (fun s w => IsValidStroke_any s w)
    clear w0 hS hnm hbig
    go_enter Try.func3, Try.ntmps3
    go_wp2_with fail
    refine C.out.mono ?_
    rintro e w0 ⟨rfl, rfl⟩
    go_wp2_with fail
    refine (CDF.out _ HCode.out).mono ?_
    rintro e w1 ⟨⟨s, rfl⟩, hb⟩
    have HB1 := Lib.hid hb
    obtain ⟨t, b, q, b2, hok, hqb, hf1, hf2, hp⟩ := fmt_facts s
    have CF1 := Lib.hid hf1
    have CF2 := Lib.hid hf2
    have CPt := Lib.hid hp
    have HOK := Lib.hid hok
    have HQ := Lib.hid hqb
    clear hf1 hf2 hp hok hqb
    clear hb
    go_wp2_with fail
    refine (CF2.out _).mono ?_
    rintro e w2 ⟨rfl, hb⟩
    have HB2 := Lib.hid (HB1.out.trans (hb.mono HB1.out.size))
    clear hb
    go_wp2_with fail
    refine (CF1.out _).mono ?_
    rintro e w3 ⟨rfl, hb⟩
    have HB3 := Lib.hid (HB2.out.trans (hb.mono HB2.out.size))
    clear hb
    go_wp2_with fail
    refine (CDP.out _ (HCode.out.below HB3.out)).mono ?_
    rintro e w4 ⟨⟨u, hu, rfl⟩, hb⟩
    have HB4 := Lib.hid (HB3.out.trans (hb.mono HB3.out.size))
    obtain ⟨x, f, v, f2, hvf, hr1, hr2, hr3⟩ := read_facts u (by omega)
    have CR1 := Lib.hid hr1
    have CR2 := Lib.hid hr2
    have CR3 := Lib.hid hr3
    have HV := Lib.hid hvf
    clear hr1 hr2 hr3 hvf
    clear hb
    go_wp2_with fail
    refine (CR2.out _).mono ?_
    rintro e w5 ⟨rfl, hb⟩
    have HB5 := Lib.hid (HB4.out.trans (hb.mono HB4.out.size))
    clear hb
    go_wp2_with fail
    refine (CR1.out _).mono ?_
    rintro e w6 ⟨rfl, hb⟩
    have HB6 := Lib.hid (HB5.out.trans (hb.mono HB5.out.size))
    clear hb
    go_wp2_with fail
    refine (CV.out s _).mono ?_
    rintro e wz ⟨rfl, rfl⟩
    rw [HOK.out]
    go_wp2_with fail
    refine (CPt.out _).mono ?_
    rintro e w7 ⟨rfl, hb⟩
    have HB7 := Lib.hid (HB6.out.trans (hb.mono HB6.out.size))
    clear hb
    go_wp2_with fail
    refine (CR3.out _).mono ?_
    rintro e w8 ⟨rfl, hb⟩
    have HB8 := Lib.hid (HB7.out.trans (hb.mono HB7.out.size))
    clear hb
    cases b
    · cases f
      · clear HQ HV HOK
        go_wp2
        go_ret
        exact ⟨rfl, HB8.out⟩
      · obtain ⟨rfl, rfl⟩ := HV.out rfl
        clear HQ HV HOK
        go_wp2
        go_ret
        exact ⟨ret_bool (by simp), HB8.out⟩
    · obtain ⟨rfl, rfl⟩ := HQ.out rfl
      cases f
      · clear HQ HV HOK
        go_wp2
        go_ret
        exact ⟨ret_bool (by simp), HB8.out⟩
      · obtain ⟨rfl, rfl⟩ := HV.out rfl
        clear HQ HV HOK
        go_wp2
        go_ret
        exact ⟨ret_bool (by simp), HB8.out⟩

/-! ### THE ROW's STEP -/
theorem contract (H : Type) (enc : TypeId × Value → H) (W : World) (base : Nat) (args : Array Value) (ds gs : List (DataW H)) (before : List MemPlace)
    (hval : ∀ (j : Nat) t v, Try.f3.params[j]? = some t → args[j]? = some v → Value.okWide Try.prog W .any base t v)
    (hW : DataW.Whole enc Try.prog Try.f3.params.toList Rows.fnStrokesSpec.vars false W args.toList ds gs before) (hL : laidMetH Try.prog Rows.fnStrokesRow.laid W) (hS : W.ShapedOpen Try.prog) :
    Calls Try.prog 3 args W fun e W' => ∃ v, e = .returned v ∧ Rows.fnStrokesSpec.post enc Try.prog Try.f3 false true false false W args v W' := by
  have hW' := hW
  obtain ⟨p, q, hA0, hV, rfl, hfz, hnd⟩ := hW
  have hA : DataW.TrodAll enc Try.prog W 0 (fun _ => true) true Try.f3.params.toList args.toList ds p := hA0
  rw [Try.params3] at hA hval
  obtain ⟨v0, vs0, d0, ds0, p0, q0, hargs, rfl, rfl, h0, r0⟩ := trodAll_cons hA
  obtain ⟨rfl, rfl, rfl⟩ := trodAll_nil r0
  obtain rfl : args = #[v0] := by cases args; simp_all
  obtain ⟨rfl, rfl⟩ := trodVars_none hV
  have k0 := h0
  have lt0 : ∀ x ∈ p0, x.block < W.heap.size := by obtain ⟨m, hm⟩ := k0; exact DataW.trod_lt m _ _ _ hm
  obtain ⟨a0, n0, c0, rfl⟩ := okWide_slice Try.underlying22 (hval 0 22 v0 rfl rfl)
  obtain ⟨z0, w0⟩ : ∃ zs, IsRow .u8 W a0 n0 c0 zs := by
    obtain ⟨fuel, hf⟩ := h0
    rcases open_ints Try.underlying22 Try.underlying5 (by kernel_rfl) hf with ⟨hcs, _⟩ | ⟨x, l, c, zs, hcs, _, hl, hm, hz, _, hcell, hwz⟩
    · simp [Value.cells] at hcs
      obtain ⟨rfl, rfl, rfl⟩ := hcs
      exact ⟨[], .inl ⟨rfl, rfl, rfl, rfl⟩⟩
    · simp [Value.cells] at hcs
      obtain ⟨rfl, rfl, rfl⟩ := hcs
      exact ⟨zs, .inr ⟨_, rfl, hl, hm, by simpa using hz, hcell, hwz⟩⟩
  clear hA0 hval
  refine (walk a0 n0 c0 z0 W hS  w0).mono fun e W' ⟨he, bel⟩ => ?_
  subst he
  exact ⟨_, rfl, _, _, _, [], _, [], hW', trodAll_mk1 (shut_bool Try.underlying4 _), (trodAll_cons_mk (Below.trod laidOut (by kernel_rfl) (of_decide_eq_true (by kernel_rfl)) k0 bel lt0) trodAll_mk0), rfl, bel.frame _, fun h => by cases h⟩

theorem reads (os : Os) {H : Type} (enc : TypeId × Value → H) : ∃ places, DataW.whole enc Try.prog ((World.holding Try.prog os ⟨#[], #[], []⟩).forCall (fun _ _ => 0) ⟨#[], #[.slice none 0 0], []⟩).memory Try.f3.params.toList Rows.fnStrokesSpec.vars false (#[.slice none 0 0] : Array Value).toList 8 = some ([.nil], [], places) :=
  ⟨[], by kernel_rfl⟩

set_option maxRecDepth 100000 in
theorem lifted (os : Os) (started : os.Started) (H : Type) (enc : TypeId × Value → H) (F : Stop.Interp) :
    ReturnsInHanded {} Try.checked os 3 .any ((OpenSpec.ofChange Rows.fnStrokesSpec).preRow enc Try.prog Try.f3 Rows.fnStrokesRow.domain false Rows.fnStrokesRow.laid) (((OpenSpec.ofChange Rows.fnStrokesSpec).at F).post enc Try.prog Try.f3 false true false false) := by
  obtain ⟨places, hx⟩ := reads os enc
  refine returnsInHanded_of_row (C := Try.checked) (s := OpenSpec.ofChange Rows.fnStrokesSpec) own started (by kernel_rfl) Try.func3
    (witness_row_atRef (enc := enc) (C := Try.checked) false (World.holding Try.prog os ⟨#[], #[], []⟩) #[.slice none 0 0] rfl (by kernel_rfl) (by kernel_rfl) (by kernel_rfl)
      (OpenSpec.preRow_of_cond 8 hx (by kernel_rfl) (fun k hk => by cases hk) (by kernel_rfl) ⟨[], rfl, List.nodup_nil, fun b off h => by cases h⟩)) ?_
  intro W base args ds gs before hval hW _ _ _ hL hS _
  exact contract H enc W base args ds gs before hval hW hL hS

theorem said : Rows.FnStrokesSaid :=
  OpenClaim.holds_of_cond 3 Try.f3 rfl rfl rfl rfl rfl rfl rfl ⟨rfl, rfl, rfl, rfl, rfl⟩ rfl rfl rfl rfl rfl (by kernel_rfl) Try.func3 (by kernel_rfl)
    (of_decide_eq_true (by kernel_rfl)) (by unfold Func.isWrapper; first | (rw [if_pos (by decide +kernel)]; kernel_rfl) | (rw [if_neg (by decide +kernel)]; exact ⟨rfl, rfl⟩))
    (fun os started H enc _ F => by rw [OpenClaim.pre_eq_preRow]; exact lifted os started H enc F)

theorem proved : Rows.FnStrokesSaid := said
#print axioms proved
end Go.Proofs.Ytinpolcmofdojaa.fnStrokes
