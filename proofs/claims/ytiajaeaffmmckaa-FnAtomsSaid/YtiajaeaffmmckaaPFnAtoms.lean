/-
  laws.FnAtoms returns true whatever the code: FormatAtom and ParseAtom are inverse at all that the code draws. Conditions: none but the row's own.
-/
import Derived.Test.YtiajaeaffmmckaaRows
import Derived.WalkKit
import Derived.ProofKit
import Derived.OpenShut
import Derived.ShutString
import Derived.ChangeOld
import Derived.Below
import Derived.SliceStrings
import Derived.JoinedCond
import Derived.Deep.DeepHandedRow
import Derived.Deep.DeepWitnessRowRef
import Derived.Lib.Hide
import Derived.Test.YtiajaeaffmmckaaWant5
import Derived.Test.YtiajaeaffmmckaaImpl5
import Derived.Test.YtiajaeaffmmckaaDrawC
import Derived.Test.YtiajaeaffmmckaaNeqAt
import Derived.Test.YtiajaeaffmmckaaBig
namespace Go.Proofs.Ytiajaeaffmmckaa.fnAtoms
open Go.ChangeShapes Go.WideShapes Go.ChangeAt Go.RowKit
open Go.ChangeMaps (open_string shut_string)
set_option linter.unusedVariables false
set_option maxRecDepth 100000

theorem own : ownKnob Try.prog.godebug = none := by kernel_rfl
theorem laidOut : laidOutB Try.prog = true := by kernel_rfl

/-- A slice of integers that came in. -/
def IsRow (k : IntKind) (w : World) (a : Option Addr) (len cap : Nat) (zs : List Int) : Prop :=
  (a = none ∧ len = 0 ∧ cap = 0 ∧ zs = []) ∨
  ∃ x, a = some x ∧ len ≤ cap ∧ cap ≤ maxLen ∧ zs.length = cap ∧ (∀ i, i < zs.length → w.cell? (x.add i) = some (.int k (zs.getD i 0))) ∧ ∀ n ∈ zs, (Lit.int k n).wf = true

theorem code_of {w : World} {a : Option Addr} {n c : Nat} {z : List Int} (h : IsRow .u8 w a n c z) (hn : n ≤ 1000000) : CodeAt w a n := by
  refine ⟨hn, fun h0 => ?_⟩
  rcases h with ⟨rfl, rfl, rfl, rfl⟩ | ⟨x, rfl, hl, hm, hz, hcell, hwz⟩
  · omega
  · obtain ⟨b, o, spot⟩ := x
    have h1 := hcell 0 (by omega)
    have hspot : spot = none := by simpa [Addr.add] using World.cell?_spot h1
    subst hspot
    refine ⟨b, o, rfl, ?_, fun i hi => ?_⟩
    · have : (w.cell? ⟨b, o, none⟩).isSome := by have := h1; simp [Addr.add] at this; rw [this]; rfl
      rcases Nat.lt_or_ge b w.heap.size with h' | h'
      · exact h'
      · simp [World.cell?, Array.getElem?_eq_none h'] at this
    · have h2 := hcell i (by omega)
      have h3 := bounds_u8 (hwz (z.getD i 0) (by rw [List.getD_eq_getElem?_getD, List.getElem?_eq_getElem (by omega)]; exact List.getElem_mem _))
      refine ⟨z.getD i 0, h3.1, h3.2, ?_⟩
      by_cases hi0 : i = 0
      · subst hi0; simpa [Addr.add] using h2
      · simpa [Addr.add, hi0] using h2
theorem row_len {w : World} {a : Option Addr} {n c : Nat} {z : List Int} (h : IsRow .u8 w a n c z) : n ≤ maxLen := by
  rcases h with ⟨_, rfl, _, _⟩ | ⟨x, _, hl, hm, _⟩
  · exact Nat.zero_le _
  · omega
theorem wf_small {k : Int} (h0 : -1 ≤ k) (h1 : k ≤ 20) : (Lit.int .i64 k).wf = true := by
  have : k = -1 ∨ ∃ n : Nat, n ≤ 20 ∧ k = (n : Int) := by
    by_cases h : k = -1
    · exact .inl h
    · exact .inr ⟨k.toNat, by omega, by omega⟩
  rcases this with rfl | ⟨n, hn, rfl⟩
  · decide
  · have key : ∀ m : Fin 21, (Lit.int .i64 ((m.1 : Nat) : Int)).wf = true := by decide
    exact key ⟨n, by omega⟩
theorem kindI_range (t : List UInt8) : 0 ≤ (Pl.kindI t).1 ∧ (Pl.kindI t).1 ≤ 10 := by
  unfold Pl.kindI
  repeat' split
  all_goals (constructor <;> (dsimp only; omega))
theorem parA_range (s : List UInt8) : 0 ≤ (Pl.parA s).1 ∧ (Pl.parA s).1 ≤ 10 := by
  unfold Pl.parA
  split
  · unfold Pl.kindA
    split
    · constructor <;> (dsimp only; omega)
    · exact kindI_range _
  · decide
theorem back_facts (k : Int) (t : ByteArray) : ∃ ks ts th, parAE (fmtAS k t) = .returned (.tuple #[atV ks ts, .bool th]) ∧ (Pl.goodA k (by8 t) = true → th = true ∧ ks = k ∧ ts = t) := by
  refine ⟨_, _, _, rfl, fun h => ?_⟩
  have e : fmtAS k t = fmtB k t := by unfold fmtAS; rw [if_pos h]
  obtain ⟨h1, h2⟩ := Pl.par_fmtA k (by8 t) h
  rw [e, fmtB_list]
  exact ⟨h1, by rw [h2], by rw [h2]⟩
theorem again_facts (s : ByteArray) (hs : s.size ≤ 200) : ∃ kb tb fi ag told, parAE s = .returned (.tuple #[atV kb tb, .bool fi]) ∧ fmtAE kb tb = .returned (.tuple #[.string ag, .bool told]) ∧ (fi = true → told = true ∧ ag = s) ∧ (Lit.int .i64 kb).wf = true ∧ tb.size ≤ 200 := by
  refine ⟨_, _, _, _, _, rfl, rfl, fun h => ?_, wf_small (by have := parA_range (by8 s); omega) (by have := parA_range (by8 s); omega), ?_⟩
  · obtain ⟨h1, h2⟩ := Pl.fmt_parA (by8 s) h
    refine ⟨h1, ?_⟩
    unfold fmtAS
    rw [if_pos h1]
    exact by8_inj h2
  · exact Nat.le_trans (atomOf_size s) hs
theorem fmtAS_size (k : Int) (t : ByteArray) (ht : t.size ≤ 40) : (fmtAS k t).size ≤ 200 := by
  have := fmtB_size k t
  unfold fmtAS
  split
  · omega
  · exact Nat.zero_le _
/-! ### THE WALK: the Go text returns true, and writes nothing that was there. -/
set_option maxRecDepth 100000 in
set_option maxHeartbeats 1000000 in
theorem walk (a0 : Option Addr) (n0 c0 : Nat) (z0 : List Int) (w : World) (hS : w.ShapedOpen Try.prog)  (w0 : IsRow .u8 w a0 n0 c0 z0) :
    Calls Try.prog 3 #[.slice a0 n0 c0] w fun e w' => e = .returned (.bool true) ∧ Below w.heap.size w w' := by
  have hnm := row_len w0
  by_cases hbig : 65536 < n0
  · have C := Lib.hid (big_yes a0 n0 c0 w hbig hnm)
    clear w0 hS hnm
    go_enter Try.func3, Try.ntmps3
    go_wp2_with fail
    refine C.out.mono ?_
    rintro e w1 ⟨rfl, rfl⟩
    go_wp2
    go_ret
    exact ⟨rfl, Below.refl _ _⟩
  · have C := Lib.hid (big_no a0 n0 c0 w (by omega))
    have HC0 := Lib.hid (code_of w0 (by omega))
    have CDF := Lib.hid (fun w h => drawFormatAtom_any a0 n0 c0 w h)
    have CDP := Lib.hid (fun w h => drawParseAtom_any a0 n0 c0 w h)
    have FI := Lib.hid (fun k t w hk ht => impl5.format k t w hk ht)
    have FS := Lib.hid (fun k t w ht => specFormatAtom_any k t w ht)
    have VI := Lib.hid (fun k t w hk ht => impl5.valid k t w hk ht)
    have PI := Lib.hid (fun s w hs => impl5.parse s w hs)
    have PS := Lib.hid (fun s w hs => specParseAtom_any s w hs)
    clear w0 hS hnm hbig
    go_enter Try.func3, Try.ntmps3
    go_wp2_with fail
    refine C.out.mono ?_
    rintro e w0 ⟨rfl, rfl⟩
    go_wp2_with fail
    refine (CDF.out _ HC0.out).mono ?_
    rintro e w1 ⟨⟨k, t, rfl, ht, hk0, hk1⟩, hb⟩
    have HB1 := Lib.hid hb
    have HC1 := Lib.hid (HC0.out.below hb)
    have f1 := fun w => FI.out k t w (wf_small hk0 hk1) (by omega)
    have f2 := fun w => FS.out k t w (by omega)
    have f3 := fun w => VI.out k t w (wf_small hk0 hk1) (by omega)
    unfold fmtAE at f1 f2
    obtain ⟨ks, ts, th, hp, hbk⟩ := back_facts k t
    have hss := fmtAS_size k t ht
    have p1 := fun w => PI.out (fmtAS k t) w (by omega)
    simp only [hp] at p1
    obtain ⟨g, hg⟩ : ∃ g, g = Pl.goodA k (by8 t) := ⟨_, rfl⟩
    obtain ⟨s, hs⟩ : ∃ s, s = fmtAS k t := ⟨_, rfl⟩
    rw [← hg, ← hs] at f1 f2
    rw [← hg] at f3 hbk
    rw [← hs] at p1
    have F1 := Lib.hid f1
    have F2 := Lib.hid f2
    have F3 := Lib.hid f3
    have P1 := Lib.hid p1
    have HBk := Lib.hid hbk
    clear hb f1 f2 f3 p1 hp hbk hss hg hs ht hk0 hk1 HC0 FS VI
    go_wp2_with fail
    refine (F1.out _).mono ?_
    rintro e w2 ⟨rfl, hb⟩
    have HX2 := Lib.hid (BoxA.new hb)
    have HB2 := Lib.hid (HB1.out.trans ((below_new hb).mono HB1.out.size))
    have HC2 := Lib.hid (HC1.out.below (below_new hb))
    clear hb HB1 HC1
    obtain ⟨_, c0', c1'⟩ := HX2.out
    go_wp2_with fail
    refine (F2.out _).mono ?_
    rintro e w3 ⟨rfl, hb⟩
    have HX3 := Lib.hid (HX2.out.below hb)
    have HB3 := Lib.hid (HB2.out.trans (hb.mono HB2.out.size))
    have HC3 := Lib.hid (HC2.out.below hb)
    clear hb HB2 HC2 c0' c1' HX2
    obtain ⟨_, c0', c1'⟩ := HX3.out
    go_wp2_with fail
    refine (F3.out _).mono ?_
    rintro e w4 ⟨rfl, hb⟩
    have HX4 := Lib.hid (HX3.out.below hb)
    have HB4 := Lib.hid (HB3.out.trans (hb.mono HB3.out.size))
    have HC4 := Lib.hid (HC3.out.below hb)
    clear hb HB3 HC3 c0' c1' HX3 F2 F3
    go_wp2_with fail
    refine (CDP.out _ HC4.out).mono ?_
    rintro e w5 ⟨⟨t', ht', rfl⟩, hb⟩
    have HX5 := Lib.hid (HX4.out.below hb)
    have HB5 := Lib.hid (HB4.out.trans (hb.mono HB4.out.size))
    obtain ⟨kb, tb, fi, ag, told, hq1, hq2, hag, hwf, htb⟩ := again_facts t' ht'
    have q1 := fun w => PI.out t' w (by omega)
    have q2 := fun w => PS.out t' w (by omega)
    have q3 := fun w => FI.out kb tb w hwf (by omega)
    simp only [hq1] at q1 q2
    simp only [hq2] at q3
    have Q1 := Lib.hid q1
    have Q2 := Lib.hid q2
    have Q3 := Lib.hid q3
    have HAg := Lib.hid hag
    have HN : Hid (∀ w, (binOp .neq 25 (atV kb tb) (atV kb tb)).run Try.prog w = .ok (.bool false) w) := fun w => neqAt_same kb tb w
    clear hb HB4 HC4 HX4 q1 q2 q3 hq1 hq2 hag hwf htb ht' PI PS FI CDF CDP
    go_wp2_with fail
    refine (Q1.out _).mono ?_
    rintro e w6 ⟨rfl, hb⟩
    have HX6 := Lib.hid (HX5.out.below hb)
    have HB6 := Lib.hid (HB5.out.trans (hb.mono HB5.out.size))
    clear hb HB5 HX5
    go_wp2_with fail
    refine (Q2.out _).mono ?_
    rintro e w7 ⟨rfl, hb⟩
    have HY7 := Lib.hid (BoxA.new hb)
    have HX7 := Lib.hid (HX6.out.below (below_new hb))
    have HB7 := Lib.hid (HB6.out.trans ((below_new hb).mono HB6.out.size))
    clear hb HB6 HX6
    have h1 := heap_alloc_old w7 (.cells #[.int .i64 kb, .string tb] 25) HY7.out.1
    have c0' : (w7.alloc (.cells #[.int .i64 kb, .string tb] 25)).cell? ⟨w6.heap.size, 0, none⟩ = some (.int .i64 kb) := by
      rw [← HY7.out.2.1]; unfold World.cell?; simp only [h1]
    have c1' : (w7.alloc (.cells #[.int .i64 kb, .string tb] 25)).cell? ⟨w6.heap.size, 1, none⟩ = some (.string tb) := by
      rw [← HY7.out.2.2]; unfold World.cell?; simp only [h1]
    have hcmp := HN.out
    clear h1
    go_wp2_with fail
    refine (P1.out _).mono ?_
    rintro e w8 ⟨rfl, hb⟩
    have HY8 := Lib.hid (HY7.out.below (below_new hb))
    have HX8 := Lib.hid (HX7.out.below (below_new hb))
    have HB8 := Lib.hid (HB7.out.trans ((below_new hb).mono HB7.out.size))
    clear hb HB7 HX7 HY7 c0' c1' hcmp HN
    have h1 := heap_alloc_old w8 (.cells #[.int .i64 ks, .string ts] 25) HY8.out.1
    have c0' : (w8.alloc (.cells #[.int .i64 ks, .string ts] 25)).cell? ⟨w6.heap.size, 0, none⟩ = some (.int .i64 kb) := by
      rw [← HY8.out.2.1]; unfold World.cell?; simp only [h1]
    have c1' : (w8.alloc (.cells #[.int .i64 ks, .string ts] 25)).cell? ⟨w6.heap.size, 1, none⟩ = some (.string tb) := by
      rw [← HY8.out.2.2]; unfold World.cell?; simp only [h1]
    clear h1
    go_wp2_with fail
    refine (Q3.out _).mono ?_
    rintro e w9 ⟨rfl, hb⟩
    have HZ9 := Lib.hid (BoxA.new hb)
    have HX9 := Lib.hid (HX8.out.below (below_new hb))
    have HB9 := Lib.hid (HB8.out.trans ((below_new hb).mono HB8.out.size))
    clear hb HB8 HX8 HY8 c0' c1'
    cases g
    case' true =>
      obtain ⟨rfl, rfl, rfl⟩ := HBk.out (by first | rfl | trivial)
      obtain ⟨_, c0', c1'⟩ := HX9.out
      obtain ⟨_, d0', d1'⟩ := HZ9.out
      have hcmp := fun w => eqlAt_same ks ts w
    all_goals
      cases fi
      · go_wp2
        go_ret
        exact ⟨rfl, HB9.out⟩
      · obtain ⟨rfl, rfl⟩ := HAg.out (by first | rfl | trivial)
        go_wp2
        go_ret
        exact ⟨rfl, HB9.out⟩

/-! ### THE ROW's STEP -/
set_option maxRecDepth 100000 in
theorem contract (H : Type) (enc : TypeId × Value → H) (W : World) (base : Nat) (args : Array Value) (ds gs : List (DataW H)) (before : List MemPlace)
    (hval : ∀ (j : Nat) t v, Try.f3.params[j]? = some t → args[j]? = some v → Value.okWide Try.prog W .any base t v)
    (hW : DataW.Whole enc Try.prog Try.f3.params.toList Rows.fnAtomsSpec.vars false W args.toList ds gs before) (hL : laidMetH Try.prog Rows.fnAtomsRow.laid W) (hS : W.ShapedOpen Try.prog) :
    Calls Try.prog 3 args W fun e W' => ∃ v, e = .returned v ∧ Rows.fnAtomsSpec.post enc Try.prog Try.f3 false true false false W args v W' := by
  have hW' := hW
  obtain ⟨p, q, hA0, hV, rfl, hfz, hnd⟩ := hW
  have hA : DataW.TrodAll enc Try.prog W 0 (fun _ => true) true Try.f3.params.toList args.toList ds p := hA0
  rw [Try.params3] at hA hval
  obtain ⟨v0, vs0, d0, ds0, p0, q0, hargs, rfl, rfl, h0, r0⟩ := trodAll_cons hA
  obtain ⟨rfl, rfl, rfl⟩ := trodAll_nil r0
  obtain rfl : args = #[v0] := by cases args; simp_all
  obtain ⟨rfl, rfl⟩ := trodVars_none hV
  have k0 := h0
  have lt0 : ∀ x ∈ p0, x.block < W.heap.size := by obtain ⟨m, hm⟩ := k0; exact DataW.trod_lt m _ _ _ hm
  obtain ⟨a0, n0, c0, rfl⟩ := okWide_slice Try.underlying22 (hval 0 22 v0 rfl rfl)
  obtain ⟨z0, w0⟩ : ∃ zs, IsRow .u8 W a0 n0 c0 zs := by
    obtain ⟨fuel, hf⟩ := h0
    rcases open_ints Try.underlying22 Try.underlying5 (by kernel_rfl) hf with ⟨hcs, _⟩ | ⟨x, l, c, zs, hcs, _, hl, hm, hz, _, hcell, hwz⟩
    · simp [Value.cells] at hcs
      obtain ⟨rfl, rfl, rfl⟩ := hcs
      exact ⟨[], .inl ⟨rfl, rfl, rfl, rfl⟩⟩
    · simp [Value.cells] at hcs
      obtain ⟨rfl, rfl, rfl⟩ := hcs
      exact ⟨zs, .inr ⟨_, rfl, hl, hm, by simpa using hz, hcell, hwz⟩⟩
  clear hA0 hval
  refine (walk a0 n0 c0 z0 W hS  w0).mono fun e W' ⟨he, bel⟩ => ?_
  subst he
  exact ⟨_, rfl, _, _, _, [], _, [], hW', trodAll_mk1 (shut_bool Try.underlying4 _), (trodAll_cons_mk (Below.trod laidOut (by kernel_rfl) (of_decide_eq_true (by kernel_rfl)) k0 bel lt0) trodAll_mk0), rfl, bel.frame _, fun h => by cases h⟩

theorem reads (os : Os) {H : Type} (enc : TypeId × Value → H) : ∃ places, DataW.whole enc Try.prog ((World.holding Try.prog os ⟨#[], #[], []⟩).forCall (fun _ _ => 0) ⟨#[], #[.slice none 0 0], []⟩).memory Try.f3.params.toList Rows.fnAtomsSpec.vars false (#[.slice none 0 0] : Array Value).toList 8 = some ([.nil], [], places) :=
  ⟨[], by kernel_rfl⟩

set_option maxRecDepth 100000 in
theorem lifted (os : Os) (started : os.Started) (H : Type) (enc : TypeId × Value → H) (F : Stop.Interp) :
    ReturnsInHanded {} Try.checked os 3 .any ((OpenSpec.ofChange Rows.fnAtomsSpec).preRow enc Try.prog Try.f3 Rows.fnAtomsRow.domain false Rows.fnAtomsRow.laid) (((OpenSpec.ofChange Rows.fnAtomsSpec).at F).post enc Try.prog Try.f3 false true false false) := by
  obtain ⟨places, hx⟩ := reads os enc
  refine returnsInHanded_of_row (C := Try.checked) (s := OpenSpec.ofChange Rows.fnAtomsSpec) own started (by kernel_rfl) Try.func3
    (witness_row_atRef (enc := enc) (C := Try.checked) false (World.holding Try.prog os ⟨#[], #[], []⟩) #[.slice none 0 0] rfl (by kernel_rfl) (by kernel_rfl) (by kernel_rfl)
      (OpenSpec.preRow_of_cond 8 hx (by kernel_rfl) (fun k hk => by cases hk) (by kernel_rfl) ⟨[], rfl, List.nodup_nil, fun b off h => by cases h⟩)) ?_
  intro W base args ds gs before hval hW _ _ _ hL hS _
  exact contract H enc W base args ds gs before hval hW hL hS

theorem said : Rows.FnAtomsSaid :=
  OpenClaim.holds_of_cond 3 Try.f3 rfl rfl rfl rfl rfl rfl rfl ⟨rfl, rfl, rfl, rfl, rfl⟩ rfl rfl rfl rfl rfl (by kernel_rfl) Try.func3 (by kernel_rfl)
    (of_decide_eq_true (by kernel_rfl)) (by unfold Func.isWrapper; first | (rw [if_pos (by decide +kernel)]; kernel_rfl) | (rw [if_neg (by decide +kernel)]; exact ⟨rfl, rfl⟩))
    (fun os started H enc _ F => by rw [OpenClaim.pre_eq_preRow]; exact lifted os started H enc F)

theorem proved : Rows.FnAtomsSaid := said
#print axioms proved
end Go.Proofs.Ytiajaeaffmmckaa.fnAtoms
