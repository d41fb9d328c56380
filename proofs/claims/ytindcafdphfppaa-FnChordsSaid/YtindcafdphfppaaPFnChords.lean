/-
  laws.FnChords returns true whatever the code: chords give events whose strokes, in both modes, are those that went in, at the times that are asked; no key is held behind. Conditions: none but the row's own.
-/
import Derived.Test.YtindcafdphfppaaRows
import Derived.WalkKit
import Derived.ProofKit
import Derived.OpenShut
import Derived.ShutString
import Derived.ChangeOld
import Derived.Below
import Derived.SliceStrings
import Derived.JoinedCond
import Derived.Deep.DeepHandedRow
import Derived.Deep.DeepWitnessRowRef
import Derived.Lib.Hide
import Derived.Test.YtindcafdphfppaaDrawE
import Derived.Test.YtindcafdphfppaaSpecEvs
import Derived.Test.YtindcafdphfppaaPlainLaw3
import Derived.Test.YtindcafdphfppaaNeqEv
import Derived.Test.YtindcafdphfppaaImpl3
import Derived.Test.YtindcafdphfppaaBig
namespace Go.Proofs.Ytindcafdphfppaa.fnChords
open Go.ChangeShapes Go.WideShapes Go.ChangeAt Go.RowKit
open Go.ChangeMaps (open_string shut_string)
set_option linter.unusedVariables false

theorem own : ownKnob Try.prog.godebug = none := by kernel_rfl
theorem laidOut : laidOutB Try.prog = true := by kernel_rfl

/-- A slice of integers that came in. -/
def IsRow (k : IntKind) (w : World) (a : Option Addr) (len cap : Nat) (zs : List Int) : Prop :=
  (a = none ∧ len = 0 ∧ cap = 0 ∧ zs = []) ∨
  ∃ x, a = some x ∧ len ≤ cap ∧ cap ≤ maxLen ∧ zs.length = cap ∧ (∀ i, i < zs.length → w.cell? (x.add i) = some (.int k (zs.getD i 0))) ∧ ∀ n ∈ zs, (Lit.int k n).wf = true

theorem code_of {w : World} {a : Option Addr} {n c : Nat} {z : List Int} (h : IsRow .u8 w a n c z) (hn : n ≤ 1000000) : CodeAt w a n := by
  refine ⟨hn, fun h0 => ?_⟩
  rcases h with ⟨rfl, rfl, rfl, rfl⟩ | ⟨x, rfl, hl, hm, hz, hcell, hwz⟩
  · omega
  · obtain ⟨b, o, spot⟩ := x
    have h1 := hcell 0 (by omega)
    have hspot : spot = none := by simpa [Addr.add] using World.cell?_spot h1
    subst hspot
    refine ⟨b, o, rfl, ?_, fun i hi => ?_⟩
    · have : (w.cell? ⟨b, o, none⟩).isSome := by have := h1; simp [Addr.add] at this; rw [this]; rfl
      rcases Nat.lt_or_ge b w.heap.size with h' | h'
      · exact h'
      · simp [World.cell?, Array.getElem?_eq_none h'] at this
    · have h2 := hcell i (by omega)
      have h3 := bounds_u8 (hwz (z.getD i 0) (by rw [List.getD_eq_getElem?_getD, List.getElem?_eq_getElem (by omega)]; exact List.getElem_mem _))
      refine ⟨z.getD i 0, h3.1, h3.2, ?_⟩
      by_cases hi0 : i = 0
      · subst hi0; simpa [Addr.add] using h2
      · simpa [Addr.add, hi0] using h2
theorem row_len {w : World} {a : Option Addr} {n c : Nat} {z : List Int} (h : IsRow .u8 w a n c z) : n ≤ maxLen := by
  rcases h with ⟨_, rfl, _, _⟩ | ⟨x, _, hl, hm, _⟩
  · exact Nat.zero_le _
  · omega
theorem nats_ints (xs : List Int) (h : ∀ x ∈ xs, okS x = true) : natsI (toNats xs) = xs := by
  induction xs with
  | nil => rfl
  | cons x xs ih =>
    have hx := okS_iff.1 (h x List.mem_cons_self)
    show Int.ofNat x.toNat :: natsI (toNats xs) = _
    rw [ih fun y hy => h y (List.mem_cons_of_mem _ hy)]
    congr 1
    show ((x.toNat : Nat) : Int) = x
    omega
theorem keysI_zero : keysI 0 = [] := List.length_eq_zero_iff.1 (by rw [keysI_len]; decide)
/-- What the law asks of chords. -/
theorem chord_facts (xs : List Int) (iv : Int) (hl : xs.length ≤ 60) (h : chordB xs iv = true) :
    0 ≤ iv ∧ iv ≤ 1000 ∧ Pl.good (chordL xs iv) = true ∧ lastL (chordL xs iv) = xs ∧ firstL (chordL xs iv) = xs ∧ heldL (chordL xs iv) = [] ∧ timesL (chordL xs iv) = (List.range' 0 xs.length).map (fun j : Nat => (2 * (j : Int) + 1) * iv) := by
  have hL : chordL xs iv = Pl.chordsFrom iv 0 (toNats xs) := by unfold chordL; rw [h]; rfl
  unfold chordB at h
  simp only [Bool.and_eq_true, decide_eq_true_eq] at h
  obtain ⟨⟨h0, h1⟩, h2, h3⟩ := h
  have hok : ∀ x ∈ xs, okS x = true := List.all_eq_true.1 h2
  have hlen : (toNats xs).length = xs.length := by unfold toNats; rw [List.length_map]
  have hss : ∀ s ∈ toNats xs, s ≠ 0 ∧ s < 2 ^ 23 := by
    intro s hs
    unfold toNats at hs
    obtain ⟨x, hx, rfl⟩ := List.mem_map.1 hs
    have := okS_iff.1 (hok x hx)
    omega
  have hb : (2 * (((0 : Nat) : Int) + ((toNats xs).length : Nat)) + 1) * iv ≤ 999999 := by
    rw [hlen]
    have h4 : (2 * (((0 : Nat) : Int) + (xs.length : Nat)) + 1) * iv ≤ 121 * 1000 := Int.mul_le_mul (by omega) h1 h0 (by omega)
    omega
  obtain ⟨c1, p, c2⟩ := Pl.run_chords iv h0 (toNats xs) 0 Pl.Run.zero 0 hss hb ⟨rfl, rfl⟩ (by simp)
  have hrun : Pl.run (chordL xs iv) = ⟨0, 0, p, toNats xs, (List.range' 0 xs.length).map (fun j : Nat => (2 * (j : Int) + 1) * iv), toNats xs⟩ := by
    rw [hL]; unfold Pl.run; rw [c2, hlen]; simp [Pl.Run.zero]
  have hg : Pl.good (chordL xs iv) = true := by
    unfold Pl.good
    rw [hL, c1, Bool.and_true, decide_eq_true_eq]
    exact h3
  refine ⟨h0, h1, hg, ?_, ?_, ?_, ?_⟩
  · unfold lastL; rw [if_pos hg, hrun]; exact nats_ints xs hok
  · unfold firstL; rw [if_pos hg, hrun]; exact nats_ints xs hok
  · unfold heldL; rw [if_pos hg, hrun]; exact keysI_zero
  · unfold timesL; rw [if_pos hg, hrun]
/-! ### THE WALK: the Go text returns true, and writes nothing that was there. -/
set_option maxRecDepth 100000 in
set_option maxHeartbeats 1000000 in
theorem walk (a0 : Option Addr) (n0 c0 : Nat) (z0 : List Int) (w : World) (hS : w.ShapedOpen Try.prog)  (w0 : IsRow .u8 w a0 n0 c0 z0) :
    Calls Try.prog 3 #[.slice a0 n0 c0] w fun e w' => e = .returned (.bool true) ∧ Below w.heap.size w w' := by
  have hnm := row_len w0
  by_cases hbig : 65536 < n0
  · have C := Lib.hid (big_yes a0 n0 c0 w hbig hnm)
    clear w0 hS hnm
    go_enter Try.func3, Try.ntmps3
    go_wp2_with fail
    refine C.out.mono ?_
    rintro e w1 ⟨rfl, rfl⟩
    go_wp2
    go_ret
    exact ⟨rfl, Below.refl _ _⟩
  · have C := Lib.hid (big_no a0 n0 c0 w (by omega))
    have CD := Lib.hid (drawChord_any a0 n0 c0 w (code_of w0 (by omega)))
    clear w0 hS hnm hbig
    go_enter Try.func3, Try.ntmps3
    go_wp2_with fail
    refine C.out.mono ?_
    rintro e w0 ⟨rfl, rfl⟩
    go_wp2_with fail
    refine CD.out.mono ?_
    rintro e w1 ⟨⟨v, xs, iv, rfl, hv, hl⟩, b1⟩
    obtain ⟨es, hes⟩ : ∃ es, es = chordL xs iv := ⟨_, rfl⟩
    have hel : es.length ≤ 200 := by rw [hes]; exact chordL_len xs iv
    obtain ⟨ok, hok⟩ : ∃ b, b = chordB xs iv := ⟨_, rfl⟩
    have HE := Lib.hid hv
    have I0 := Lib.hid (fun v w h => impl3.chord v xs iv w h (by omega))
    have S0 := Lib.hid (fun v w h => specChord_any v xs iv w h (by omega))
    unfold ChordE at S0
    rw [← hes, ← hok] at I0 S0
    have I1 := Lib.hid (fun v w h => impl3.last v es w h (by omega))
    have I2 := Lib.hid (fun v w h => impl3.first v es w h (by omega))
    have I3 := Lib.hid (fun v w h => impl3.held v es w h (by omega))
    have I4 := Lib.hid (fun v w h => impl3.times v es w h (by omega))
    have Q := Lib.hid (fun v u w hv hu => vI_same v u xs w hv hu (by omega))
    have HES := Lib.hid hes
    have HOK := Lib.hid hok
    clear hv hes hok
    go_wp2_with fail
    refine (I0.out _ _ HE.out).mono ?_
    rintro e w2 ⟨⟨ev, rfl, hev⟩, b2⟩
    have HV := Lib.hid hev.evs
    clear hev
    go_wp2_with fail
    refine (S0.out _ _ (HE.out.below b2)).mono ?_
    rintro e w3 ⟨⟨want, rfl, hwant⟩, c3⟩
    have HV3 := Lib.hid (HV.out.below c3)
    have HW3 := Lib.hid hwant
    have b3 := b2.trans (c3.mono b2.size)
    have HE3 := Lib.hid (HE.out.below b3)
    have HB3 := Lib.hid (b1.trans (b3.mono b1.size))
    clear hwant c3 b2 b3 b1 HV HE I0 S0
    obtain ⟨va, vc, rfl, hvc, hEC⟩ := EvsAt.cells HV3.out
    obtain ⟨ua, uc, rfl, huc, hWC⟩ := EvsAt.cells HW3.out
    have HEC := Lib.hid hEC
    have HWC := Lib.hid hWC
    clear hEC hWC
    go_wp2_with fail
    go_loopw [9] (fun i wr => ∃ k : Nat, k ≤ es.length ∧ i = .int .i64 k ∧ Below w3.heap.size w3 wr) (fun i _ => es.length - (intOf i).toNat)
    case atStart => exact ⟨0, Nat.zero_le _, rfl, Below.refl _ _⟩
    case round =>
      obtain ⟨k, hk, rfl, hbel⟩ := hrel
      by_cases hlt : k < es.length
      · have hlt' : (k : Int) < (es.length : Int) := by omega
        obtain ⟨e, he⟩ : ∃ e, es[k]? = some e := ⟨_, List.getElem?_eq_getElem hlt⟩
        obtain ⟨bk, o, rfl, hbk, g0, g1, g2⟩ := HEC.out wr hbel k e he
        obtain ⟨bk', o', rfl, hbk', g0', g1', g2'⟩ := HWC.out wr hbel k e he
        have hcmp := fun w => neqEv_same e w
        clear he
        go_wp2_with fail
        go_quiet (fail)
        go_wp2
        go_roundw
        case rel => exact ⟨k + 1, by omega, by go_num, below_drewN hbel nq⟩
        case measure => simp [intOf]; omega
      · obtain rfl : k = es.length := by omega
        have HV4 := Lib.hid (HV3.out.below hbel)
        have HE4 := Lib.hid (HE3.out.below hbel)
        have HB4 := Lib.hid (HB3.out.trans (hbel.mono HB3.out.size))
        clear HV3 HE3 HB3 HEC HWC HW3 hbel
        cases ok
        · have hz : es = [] := by rw [HES.out]; unfold chordL; rw [← HOK.out]; rfl
          subst hz
          go_wp2
          go_ret
          exact ⟨rfl, HB4.out⟩
        · obtain ⟨hiv0, hiv1, hgood, hla, hfi, hhe, hti⟩ := chord_facts xs iv hl HOK.out.symm
          rw [← HES.out] at hgood hla hfi hhe hti
          obtain ⟨xt, hxt⟩ : ∃ xt, xt = timesL es := ⟨_, rfl⟩
          have htl : xt.length = xs.length := by rw [hxt, hti]; simp
          have HTI : Hid (∀ (j : Nat), j < xs.length → xt[j]? = some ((2 * (j : Int) + 1) * iv)) := by
            intro j hj
            rw [hxt, hti]
            simp [hj]
          rw [hla, hgood] at I1
          rw [hfi, hgood] at I2
          rw [hhe, hgood] at I3
          rw [← hxt, hgood] at I4
          clear hgood hla hfi hhe hti hxt
          go_wp2_with fail
          refine (I1.out _ _ HV4.out).mono ?_
          rintro e w5 ⟨⟨a, rfl, ha⟩, b5⟩
          have HA5 := Lib.hid ha.ints
          clear ha
          go_wp2_with fail
          refine (I2.out _ _ (HV4.out.below b5)).mono ?_
          rintro e w6 ⟨⟨b, rfl, hb⟩, c6⟩
          have HB6 := Lib.hid hb.ints
          have b6 := b5.trans (c6.mono b5.size)
          clear hb
          go_wp2_with fail
          refine (I3.out _ _ (HV4.out.below b6)).mono ?_
          rintro e w7 ⟨⟨h, rfl, hh⟩, c7⟩
          have HH7 := Lib.hid hh.ints
          have b7 := b6.trans (c7.mono b6.size)
          clear hh
          go_wp2_with fail
          refine (I4.out _ _ (HV4.out.below b7)).mono ?_
          rintro e w8 ⟨⟨t, rfl, ht⟩, c8⟩
          have HT8 := Lib.hid ht.ints
          have b8 := b7.trans (c8.mono b7.size)
          have HA8 := Lib.hid (((HA5.out.below c6).below c7).below c8)
          have HB8 := Lib.hid ((HB6.out.below c7).below c8)
          have HE8 := Lib.hid (HE4.out.below b8)
          have HBel8 := Lib.hid (HB4.out.trans (b8.mono HB4.out.size))
          obtain ⟨ha', hc', rfl, _, _⟩ := HH7.out
          obtain ⟨ta, tc, rfl, htc, hT⟩ := HT8.out
          obtain ⟨la, lc, rfl, hlc, _⟩ := HE8.out
          have HTC := Lib.hid hT
          rw [htl]
          clear ht c6 c7 c8 b5 b6 b7 b8 HA5 HB6 HB4 HE4 HV4 I1 I2 I3 I4 hT htc hlc
          go_wp2_with fail
          go_loopw [18] (fun i wr2 => ∃ k : Nat, k ≤ xs.length ∧ i = .int .i64 k ∧ Below w8.heap.size w8 wr2) (fun i _ => xs.length - (intOf i).toNat)
          case atStart => exact ⟨0, Nat.zero_le _, rfl, Below.refl _ _⟩
          case round =>
            obtain ⟨k, hk, rfl, hbel⟩ := hrel
            by_cases hlt : k < xs.length
            · have hlt' : (k : Int) < (xs.length : Int) := by omega
              have hxk := HTI.out k hlt
              obtain ⟨bk, o, rfl, hbk, hcell⟩ : ∃ bk o, ta = some ⟨bk, o, none⟩ ∧ bk < w8.heap.size ∧ ∀ (j : Nat) x, xt[j]? = some x → w8.cell? ⟨bk, o + j, none⟩ = some (.int .i64 x) := by
                rcases HTC.out with h | h
                · rw [h] at hxk; simp at hxk
                · exact h
              have hc := (hbel.cell (p := ⟨bk, o + k, none⟩) hbk).trans (hcell k _ hxk)
              have hm0 : 0 ≤ (2 * (k : Int) + 1) * iv := Int.mul_nonneg (by omega) hiv0
              have hm1 : (2 * (k : Int) + 1) * iv ≤ 121 * 1000 := Int.mul_le_mul (by omega) hiv1 hiv0 (by omega)
              clear hxk hcell
              go_wp2
              go_roundw
              case rel => exact ⟨k + 1, by omega, by go_num, hbel⟩
              case measure => simp [intOf]; omega
            · obtain rfl : k = xs.length := by omega
              have HA9 := Lib.hid (HA8.out.below hbel)
              have HB9 := Lib.hid (HB8.out.below hbel)
              have HE9 := Lib.hid (HE8.out.below hbel)
              have HBel9 := Lib.hid (HBel8.out.trans (hbel.mono HBel8.out.size))
              clear hbel
              go_wp2_with fail
              refine (Q.out _ _ _ HA9.out HE9.out).mono ?_
              rintro e w10 ⟨rfl, b10⟩
              go_wp2_with fail
              refine (Q.out _ _ _ (HB9.out.below b10) (HE9.out.below b10)).mono ?_
              rintro e w11 ⟨rfl, c11⟩
              have HFin := Lib.hid (HBel9.out.trans ((b10.trans (c11.mono b10.size)).mono HBel9.out.size))
              go_wp2
              go_ret
              exact ⟨rfl, HFin.out⟩

/-! ### THE ROW's STEP -/
theorem contract (H : Type) (enc : TypeId × Value → H) (W : World) (base : Nat) (args : Array Value) (ds gs : List (DataW H)) (before : List MemPlace)
    (hval : ∀ (j : Nat) t v, Try.f3.params[j]? = some t → args[j]? = some v → Value.okWide Try.prog W .any base t v)
    (hW : DataW.Whole enc Try.prog Try.f3.params.toList Rows.fnChordsSpec.vars false W args.toList ds gs before) (hL : laidMetH Try.prog Rows.fnChordsRow.laid W) (hS : W.ShapedOpen Try.prog) :
    Calls Try.prog 3 args W fun e W' => ∃ v, e = .returned v ∧ Rows.fnChordsSpec.post enc Try.prog Try.f3 false true false false W args v W' := by
  have hW' := hW
  obtain ⟨p, q, hA0, hV, rfl, hfz, hnd⟩ := hW
  have hA : DataW.TrodAll enc Try.prog W 0 (fun _ => true) true Try.f3.params.toList args.toList ds p := hA0
  rw [Try.params3] at hA hval
  obtain ⟨v0, vs0, d0, ds0, p0, q0, hargs, rfl, rfl, h0, r0⟩ := trodAll_cons hA
  obtain ⟨rfl, rfl, rfl⟩ := trodAll_nil r0
  obtain rfl : args = #[v0] := by cases args; simp_all
  obtain ⟨rfl, rfl⟩ := trodVars_none hV
  have k0 := h0
  have lt0 : ∀ x ∈ p0, x.block < W.heap.size := by obtain ⟨m, hm⟩ := k0; exact DataW.trod_lt m _ _ _ hm
  obtain ⟨a0, n0, c0, rfl⟩ := okWide_slice Try.underlying22 (hval 0 22 v0 rfl rfl)
  obtain ⟨z0, w0⟩ : ∃ zs, IsRow .u8 W a0 n0 c0 zs := by
    obtain ⟨fuel, hf⟩ := h0
    rcases open_ints Try.underlying22 Try.underlying5 (by kernel_rfl) hf with ⟨hcs, _⟩ | ⟨x, l, c, zs, hcs, _, hl, hm, hz, _, hcell, hwz⟩
    · simp [Value.cells] at hcs
      obtain ⟨rfl, rfl, rfl⟩ := hcs
      exact ⟨[], .inl ⟨rfl, rfl, rfl, rfl⟩⟩
    · simp [Value.cells] at hcs
      obtain ⟨rfl, rfl, rfl⟩ := hcs
      exact ⟨zs, .inr ⟨_, rfl, hl, hm, by simpa using hz, hcell, hwz⟩⟩
  clear hA0 hval
  refine (walk a0 n0 c0 z0 W hS  w0).mono fun e W' ⟨he, bel⟩ => ?_
  subst he
  exact ⟨_, rfl, _, _, _, [], _, [], hW', trodAll_mk1 (shut_bool Try.underlying4 _), (trodAll_cons_mk (Below.trod laidOut (by kernel_rfl) (of_decide_eq_true (by kernel_rfl)) k0 bel lt0) trodAll_mk0), rfl, bel.frame _, fun h => by cases h⟩

theorem reads (os : Os) {H : Type} (enc : TypeId × Value → H) : ∃ places, DataW.whole enc Try.prog ((World.holding Try.prog os ⟨#[], #[], []⟩).forCall (fun _ _ => 0) ⟨#[], #[.slice none 0 0], []⟩).memory Try.f3.params.toList Rows.fnChordsSpec.vars false (#[.slice none 0 0] : Array Value).toList 8 = some ([.nil], [], places) :=
  ⟨[], by kernel_rfl⟩

set_option maxRecDepth 100000 in
theorem lifted (os : Os) (started : os.Started) (H : Type) (enc : TypeId × Value → H) (F : Stop.Interp) :
    ReturnsInHanded {} Try.checked os 3 .any ((OpenSpec.ofChange Rows.fnChordsSpec).preRow enc Try.prog Try.f3 Rows.fnChordsRow.domain false Rows.fnChordsRow.laid) (((OpenSpec.ofChange Rows.fnChordsSpec).at F).post enc Try.prog Try.f3 false true false false) := by
  obtain ⟨places, hx⟩ := reads os enc
  refine returnsInHanded_of_row (C := Try.checked) (s := OpenSpec.ofChange Rows.fnChordsSpec) own started (by kernel_rfl) Try.func3
    (witness_row_atRef (enc := enc) (C := Try.checked) false (World.holding Try.prog os ⟨#[], #[], []⟩) #[.slice none 0 0] rfl (by kernel_rfl) (by kernel_rfl) (by kernel_rfl)
      (OpenSpec.preRow_of_cond 8 hx (by kernel_rfl) (fun k hk => by cases hk) (by kernel_rfl) ⟨[], rfl, List.nodup_nil, fun b off h => by cases h⟩)) ?_
  intro W base args ds gs before hval hW _ _ _ hL hS _
  exact contract H enc W base args ds gs before hval hW hL hS

theorem said : Rows.FnChordsSaid :=
  OpenClaim.holds_of_cond 3 Try.f3 rfl rfl rfl rfl rfl rfl rfl ⟨rfl, rfl, rfl, rfl, rfl⟩ rfl rfl rfl rfl rfl (by kernel_rfl) Try.func3 (by kernel_rfl)
    (of_decide_eq_true (by kernel_rfl)) (by unfold Func.isWrapper; first | (rw [if_pos (by decide +kernel)]; kernel_rfl) | (rw [if_neg (by decide +kernel)]; exact ⟨rfl, rfl⟩))
    (fun os started H enc _ F => by rw [OpenClaim.pre_eq_preRow]; exact lifted os started H enc F)

theorem proved : Rows.FnChordsSaid := said
#print axioms proved
end Go.Proofs.Ytindcafdphfppaa.fnChords
