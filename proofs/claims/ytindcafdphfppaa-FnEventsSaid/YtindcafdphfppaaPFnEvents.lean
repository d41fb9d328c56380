/-
  laws.FnEvents returns true whatever the code: both modes, the times and the held keys answer as the specification at all that the code draws; first-up mode emits at least as many strokes, and every key of a stroke was pressed. Conditions: none but the row's own.
-/
import Derived.Test.YtindcafdphfppaaRows
import Derived.WalkKit
import Derived.ProofKit
import Derived.OpenShut
import Derived.ShutString
import Derived.ChangeOld
import Derived.Below
import Derived.SliceStrings
import Derived.JoinedCond
import Derived.Deep.DeepHandedRow
import Derived.Deep.DeepWitnessRowRef
import Derived.Lib.Hide
import Derived.Test.YtindcafdphfppaaDrawE
import Derived.Test.YtindcafdphfppaaSpecEvs
import Derived.Test.YtindcafdphfppaaPlainLaw3
import Derived.Test.YtindcafdphfppaaImpl3
import Derived.Test.YtindcafdphfppaaBig
namespace Go.Proofs.Ytindcafdphfppaa.fnEvents
open Go.ChangeShapes Go.WideShapes Go.ChangeAt Go.RowKit
open Go.ChangeMaps (open_string shut_string)
set_option linter.unusedVariables false

theorem own : ownKnob Try.prog.godebug = none := by kernel_rfl
theorem laidOut : laidOutB Try.prog = true := by kernel_rfl

/-- A slice of integers that came in. -/
def IsRow (k : IntKind) (w : World) (a : Option Addr) (len cap : Nat) (zs : List Int) : Prop :=
  (a = none ∧ len = 0 ∧ cap = 0 ∧ zs = []) ∨
  ∃ x, a = some x ∧ len ≤ cap ∧ cap ≤ maxLen ∧ zs.length = cap ∧ (∀ i, i < zs.length → w.cell? (x.add i) = some (.int k (zs.getD i 0))) ∧ ∀ n ∈ zs, (Lit.int k n).wf = true

theorem code_of {w : World} {a : Option Addr} {n c : Nat} {z : List Int} (h : IsRow .u8 w a n c z) (hn : n ≤ 1000000) : CodeAt w a n := by
  refine ⟨hn, fun h0 => ?_⟩
  rcases h with ⟨rfl, rfl, rfl, rfl⟩ | ⟨x, rfl, hl, hm, hz, hcell, hwz⟩
  · omega
  · obtain ⟨b, o, spot⟩ := x
    have h1 := hcell 0 (by omega)
    have hspot : spot = none := by simpa [Addr.add] using World.cell?_spot h1
    subst hspot
    refine ⟨b, o, rfl, ?_, fun i hi => ?_⟩
    · have : (w.cell? ⟨b, o, none⟩).isSome := by have := h1; simp [Addr.add] at this; rw [this]; rfl
      rcases Nat.lt_or_ge b w.heap.size with h' | h'
      · exact h'
      · simp [World.cell?, Array.getElem?_eq_none h'] at this
    · have h2 := hcell i (by omega)
      have h3 := bounds_u8 (hwz (z.getD i 0) (by rw [List.getD_eq_getElem?_getD, List.getElem?_eq_getElem (by omega)]; exact List.getElem_mem _))
      refine ⟨z.getD i 0, h3.1, h3.2, ?_⟩
      by_cases hi0 : i = 0
      · subst hi0; simpa [Addr.add] using h2
      · simpa [Addr.add, hi0] using h2
theorem row_len {w : World} {a : Option Addr} {n c : Nat} {z : List Int} (h : IsRow .u8 w a n c z) : n ≤ maxLen := by
  rcases h with ⟨_, rfl, _, _⟩ | ⟨x, _, hl, hm, _⟩
  · exact Nat.zero_le _
  · omega
theorem down_next {es : List Pl.Ev} (h : Pl.chk 0 0 es = true) {k : Nat} {e : Pl.Ev} (he : es[k]? = some e) (hd : e.d = true) :
    bits .or .i64 ((Pl.pressed (es.take k) : Nat) : Int) ((2 ^ e.k.toNat : Nat) : Int) = ((Pl.pressed (es.take (k + 1)) : Nat) : Int) := by
  have hk := Pl.key_at h he
  rw [Pl.pressed_take he, hd, if_pos rfl]
  exact or_i64s _ _ (Pl.pressed_lt h k) (Pl.pow_lt _ (by omega))
theorem down_same {es : List Pl.Ev} {k : Nat} {e : Pl.Ev} (he : es[k]? = some e) (hd : e.d = false) : Pl.pressed (es.take (k + 1)) = Pl.pressed (es.take k) := by
  rw [Pl.pressed_take he, hd]; rfl
theorem all_next {S : List Nat} (hS : Pl.allOf S < 8388608) {k s : Nat} (h : S[k]? = some s) :
    bits .or .i64 ((Pl.allOf (S.take k) : Nat) : Int) (s : Int) = ((Pl.allOf (S.take (k + 1)) : Nat) : Int) := by
  rw [Pl.allOf_take h]
  exact or_i64s _ _ (Pl.sub_lt (Pl.sub_take S k) hS) (Pl.sub_lt (Pl.sub_mem (List.mem_of_getElem? h)) hS)
/-! ### THE WALK: the Go text returns true, and writes nothing that was there. -/
set_option maxRecDepth 100000 in
set_option maxHeartbeats 1000000 in
theorem walk (a0 : Option Addr) (n0 c0 : Nat) (z0 : List Int) (w : World) (hS : w.ShapedOpen Try.prog)  (w0 : IsRow .u8 w a0 n0 c0 z0) :
    Calls Try.prog 4 #[.slice a0 n0 c0] w fun e w' => e = .returned (.bool true) ∧ Below w.heap.size w w' := by
  have hnm := row_len w0
  by_cases hbig : 65536 < n0
  · have C := Lib.hid (big_yes a0 n0 c0 w hbig hnm)
    clear w0 hS hnm
    go_enter Try.func4, Try.ntmps4
    go_wp2_with fail
    refine C.out.mono ?_
    rintro e w1 ⟨rfl, rfl⟩
    go_wp2
    go_ret
    exact ⟨rfl, Below.refl _ _⟩
  · have C := Lib.hid (big_no a0 n0 c0 w (by omega))
    have CD := Lib.hid (drawLastUp_any a0 n0 c0 w (code_of w0 (by omega)))
    clear w0 hS hnm hbig
    go_enter Try.func4, Try.ntmps4
    go_wp2_with fail
    refine C.out.mono ?_
    rintro e w0 ⟨rfl, rfl⟩
    go_wp2_with fail
    refine CD.out.mono ?_
    rintro e w1 ⟨⟨v, es, rfl, hv, hl⟩, b1⟩
    have HE := Lib.hid hv
    have I1 := Lib.hid (fun v w h => impl3.last v es w h (by omega))
    have I2 := Lib.hid (fun v w h => impl3.first v es w h (by omega))
    have I3 := Lib.hid (fun v w h => impl3.held v es w h (by omega))
    have I4 := Lib.hid (fun v w h => impl3.times v es w h (by omega))
    have I5 := Lib.hid (fun v w h => impl3.valid v es w h (by omega))
    have S1 := Lib.hid (fun v w h => specLastUp_any v es w h (by omega))
    have S2 := Lib.hid (fun v w h => specFirst_any v es w h (by omega))
    have S3 := Lib.hid (fun v w h => specHeld_any v es w h (by omega))
    have S4 := Lib.hid (fun v w h => specTimes_any v es w h (by omega))
    obtain ⟨good, hgood⟩ : ∃ g, g = Pl.good es := ⟨_, rfl⟩
    obtain ⟨xa, hxa⟩ : ∃ x, x = lastL es := ⟨_, rfl⟩
    obtain ⟨xb, hxb⟩ : ∃ x, x = firstL es := ⟨_, rfl⟩
    obtain ⟨xh, hxh⟩ : ∃ x, x = heldL es := ⟨_, rfl⟩
    obtain ⟨xt, hxt⟩ : ∃ x, x = timesL es := ⟨_, rfl⟩
    rw [← hgood] at I1 I2 I3 I4 I5 S1 S2 S3 S4
    rw [← hxa] at I1 S1
    rw [← hxb] at I2 S2
    rw [← hxh] at I3 S3
    rw [← hxt] at I4 S4
    have la : xa.length ≤ 200 := by rw [hxa]; exact lastL_len es
    have lb : xb.length ≤ 200 := by rw [hxb]; exact firstL_len es
    have lh : xh.length ≤ 200 := by rw [hxh]; exact heldL_len es
    have lt : xt.length ≤ 200 := by rw [hxt]; exact timesL_len es
    have QA := Lib.hid (fun v u w hv hu => vI_same v u xa w hv hu (by omega))
    have QB := Lib.hid (fun v u w hv hu => vI_same v u xb w hv hu (by omega))
    have QH := Lib.hid (fun v u w hv hu => vI_same v u xh w hv hu (by omega))
    have QT := Lib.hid (fun v u w hv hu => vI_same v u xt w hv hu (by omega))
    have HGood := Lib.hid hgood
    have HXA := Lib.hid hxa
    have HXB := Lib.hid hxb
    have HXT := Lib.hid hxt
    clear hv hgood hxa hxb hxh hxt
    go_wp2_with fail
    refine (I1.out _ _ HE.out).mono ?_
    rintro e w2 ⟨⟨a, rfl, ha⟩, c2⟩
    have HA2 := Lib.hid ha.ints
    have b2 := c2
    clear ha
    go_wp2_with fail
    refine (I2.out _ _ (HE.out.below b2)).mono ?_
    rintro e w3 ⟨⟨b, rfl, hb⟩, c3⟩
    have HBv := Lib.hid hb.ints
    have b3 := b2.trans (c3.mono b2.size)
    clear hb
    go_wp2_with fail
    refine (I3.out _ _ (HE.out.below b3)).mono ?_
    rintro e w4 ⟨⟨h, rfl, hh⟩, c4⟩
    have HHv := Lib.hid hh.ints
    have b4 := b3.trans (c4.mono b3.size)
    clear hh
    go_wp2_with fail
    refine (I4.out _ _ (HE.out.below b4)).mono ?_
    rintro e w5 ⟨⟨t, rfl, ht⟩, c5⟩
    have HTv := Lib.hid ht.ints
    have b5 := b4.trans (c5.mono b4.size)
    clear ht
    go_wp2_with fail
    refine (S1.out _ _ (HE.out.below b5)).mono ?_
    rintro e w6 ⟨⟨ua, rfl, hua⟩, c6⟩
    have HUA := Lib.hid hua
    have b6 := b5.trans (c6.mono b5.size)
    clear hua
    go_wp2_with fail
    refine (S2.out _ _ (HE.out.below b6)).mono ?_
    rintro e w7 ⟨⟨ub, rfl, hub⟩, c7⟩
    have HUB := Lib.hid hub
    have b7 := b6.trans (c7.mono b6.size)
    clear hub
    go_wp2_with fail
    refine (S3.out _ _ (HE.out.below b7)).mono ?_
    rintro e w8 ⟨⟨uh, rfl, huh⟩, c8⟩
    have HUH := Lib.hid huh
    have b8 := b7.trans (c8.mono b7.size)
    clear huh
    go_wp2_with fail
    refine (S4.out _ _ (HE.out.below b8)).mono ?_
    rintro e w9 ⟨⟨ut, rfl, hut⟩, c9⟩
    have HUT := Lib.hid hut
    have b9 := b8.trans (c9.mono b8.size)
    clear hut
    go_wp2_with fail
    refine (I5.out _ _ (HE.out.below b9)).mono ?_
    rintro e w10 ⟨rfl, c10⟩
    have b10 := b9.trans (c10.mono b9.size)
    -- the answers, at w10
    have HA10 := Lib.hid ((((((((HA2.out.below c3).below c4).below c5).below c6).below c7).below c8).below c9).below c10)
    have HB10 := Lib.hid (((((((HBv.out.below c4).below c5).below c6).below c7).below c8).below c9).below c10)
    have HH10 := Lib.hid ((((((HHv.out.below c5).below c6).below c7).below c8).below c9).below c10)
    have HT10 := Lib.hid (((((HTv.out.below c6).below c7).below c8).below c9).below c10)
    have UA10 := Lib.hid ((((HUA.out.below c7).below c8).below c9).below c10)
    have UB10 := Lib.hid (((HUB.out.below c8).below c9).below c10)
    have UH10 := Lib.hid ((HUH.out.below c9).below c10)
    have UT10 := Lib.hid (HUT.out.below c10)
    clear c2 c3 c4 c5 c6 c7 c8 c9 c10 HA2 HBv HHv HTv HUA HUB HUH HUT I1 I2 I3 I4 I5 S1 S2 S3 S4 b2 b3 b4 b5 b6 b7 b8 b9
    go_wp2_with fail
    refine (QA.out _ _ _ HA10.out UA10.out).mono ?_
    rintro e w11 ⟨rfl, d11⟩
    go_wp2_with fail
    refine (QB.out _ _ _ (HB10.out.below d11) (UB10.out.below d11)).mono ?_
    rintro e w12 ⟨rfl, c12⟩
    have d12 := d11.trans (c12.mono d11.size)
    go_wp2_with fail
    refine (QH.out _ _ _ (HH10.out.below d12) (UH10.out.below d12)).mono ?_
    rintro e w13 ⟨rfl, c13⟩
    have d13 := d12.trans (c13.mono d12.size)
    go_wp2_with fail
    refine (QT.out _ _ _ (HT10.out.below d13) (UT10.out.below d13)).mono ?_
    rintro e w14 ⟨rfl, c14⟩
    have d14 := d13.trans (c14.mono d13.size)
    have HBel := Lib.hid (b1.trans ((b10.trans (d14.mono b10.size)).mono b1.size))
    have HEE := Lib.hid (HE.out.below (b10.trans (d14.mono b10.size)))
    obtain ⟨va, ca, rfl, hca, hA⟩ := HA10.out.below d14
    obtain ⟨vb, cb, rfl, hcb, _⟩ := HB10.out
    obtain ⟨vt, ct, rfl, hct, _⟩ := HT10.out
    obtain ⟨ve, ce, rfl, hce, hEC⟩ := EvsAt.cells HEE.out
    have HAC := Lib.hid hA
    have HEC := Lib.hid hEC
    clear hA hEC c12 c13 c14 d11 d12 d13 d14 b1 b10 QA QB QH QT HA10 HB10 HH10 HT10 UA10 UB10 UH10 UT10 HE HEE
    cases good
    · have za : xa = [] := by rw [HXA.out]; unfold lastL; rw [← HGood.out]; rfl
      have zb : xb = [] := by rw [HXB.out]; unfold firstL; rw [← HGood.out]; rfl
      have zt : xt = [] := by rw [HXT.out]; unfold timesL; rw [← HGood.out]; rfl
      subst za zb zt
      go_wp2_with fail
      refine wp_loop_rounds 1 ?_
      rw [rounds_succ]
      by_cases h0 : 0 < es.length
      · have h0' : (0 : Int) < (es.length : Int) := by omega
        go_wp2_with fail
        refine wp_loop_rounds 1 ?_
        rw [rounds_succ]
        go_wp2
        go_ret
        exact ⟨rfl, HBel.out⟩
      · have h0' : ¬ (0 : Int) < (es.length : Int) := by omega
        go_wp2_with fail
        refine wp_loop_rounds 1 ?_
        rw [rounds_succ]
        go_wp2
        go_ret
        exact ⟨rfl, HBel.out⟩
    · have hgp := (good_parts HGood.out.symm).2
      obtain ⟨S, hSS⟩ : ∃ S, S = (Pl.run es).S := ⟨_, rfl⟩
      have hxa : xa = natsI S := by rw [HXA.out, hSS]; unfold lastL; rw [← HGood.out]; rfl
      have hxb : xb.length = (Pl.run es).F.length := by rw [HXB.out]; unfold firstL; rw [← HGood.out, if_pos rfl, natsI_len]
      have hxt : xt.length = xa.length := by rw [hxa, natsI_len, HXT.out, hSS, ← (Pl.first_more es hgp).2.2]; unfold timesL; rw [← HGood.out, if_pos rfl]
      have hab : xa.length ≤ xb.length := by rw [hxa, natsI_len, hxb, hSS]; exact (Pl.first_more es hgp).1
      have hAll : Pl.allOf S < 8388608 := by rw [hSS]; exact Pl.strokes_lt hgp
      have hin : bits .and .i64 ((Pl.allOf S : Nat) : Int) ((Pl.pressed es : Nat) : Int) = ((Pl.allOf S : Nat) : Int) := by
        have hp := Pl.pressed_lt hgp es.length
        rw [List.take_length] at hp
        rw [and_i64 _ _ (by omega) (by omega), hSS, Pl.strokes_in hgp]
      have HIn := Lib.hid hin
      have HAll := Lib.hid hAll
      have HX := Lib.hid hxa
      have HAB := Lib.hid hab
      have HG := Lib.hid hgp
      have HSl : Hid (xa.length = S.length) := by show xa.length = _; rw [hxa, natsI_len]
      rw [hxt]
      clear hgp hSS hxa hxb hxt hab hAll hin HXA HXB HXT HGood hct
      go_wp2_with fail
      go_loopw [20, 22] (fun d i wr => ∃ k : Nat, k ≤ es.length ∧ i = .int .i64 k ∧ d = .int .i64 ((Pl.pressed (es.take k) : Nat) : Int) ∧ Below w14.heap.size w14 wr) (fun _ i _ => es.length - (intOf i).toNat)
      case atStart => exact ⟨0, Nat.zero_le _, rfl, rfl, Below.refl _ _⟩
      case round =>
        obtain ⟨k, hk, rfl, rfl, hbel⟩ := hrel
        by_cases hlt : k < es.length
        · have hlt' : (k : Int) < (es.length : Int) := by omega
          obtain ⟨e, he⟩ : ∃ e, es[k]? = some e := ⟨_, List.getElem?_eq_getElem hlt⟩
          obtain ⟨bk, o, rfl, hbk, g0, g1, g2⟩ := HEC.out wr hbel k e he
          have hgl : bk < wr.heap.size := by have := hbel.size; omega
          obtain ⟨key, hkey⟩ := Int.eq_ofNat_of_zero_le (Pl.key_at HG.out he).1
          have hk23 : key < 23 := by have := (Pl.key_at HG.out he).2; omega
          have hkt : e.k.toNat = key := by omega
          cases hd : e.d
          · rw [hd] at g2
            have HSame := Lib.hid (down_same he hd)
            clear he hd hkey hkt g0 g1
            go_wp2
            go_roundw
            case rel => exact ⟨k + 1, by omega, by go_num, by rw [HSame.out], hbel⟩
            case measure => simp [intOf]; omega
          · rw [hd] at g2
            have hnext := down_next HG.out he hd
            rw [hkt] at hnext
            rw [hkey] at g1
            have hsh := shl_i64' key hk23
            obtain ⟨q, hq⟩ : ∃ q, q = 2 ^ key := ⟨_, rfl⟩
            rw [← hq] at hsh hnext
            obtain ⟨D2, hD2⟩ : ∃ D2, D2 = Pl.pressed (es.take (k + 1)) := ⟨_, rfl⟩
            rw [← hD2] at hnext
            have HD2 := Lib.hid hD2
            clear he hd hkey hkt g0 hq hD2
            go_wp2
            go_roundw
            case rel => exact ⟨k + 1, by omega, by go_num, by rw [← HD2.out], hbel⟩
            case measure => simp [intOf]; omega
        · obtain rfl : k = es.length := by omega
          rw [List.take_length]
          have HW := Lib.hid hbel
          clear hbel
          go_wp2_with fail
          go_loopw [21, 23] (fun d i wr2 => ∃ k : Nat, k ≤ xa.length ∧ i = .int .i64 k ∧ d = .int .i64 ((Pl.allOf (S.take k) : Nat) : Int) ∧ Below w14.heap.size w14 wr2) (fun _ i _ => xa.length - (intOf i).toNat)
          case atStart => exact ⟨0, Nat.zero_le _, rfl, rfl, HW.out⟩
          case round =>
            obtain ⟨k, hk, rfl, rfl, hbel2⟩ := hrel
            by_cases hlt : k < xa.length
            · have hlt' : (k : Int) < (xa.length : Int) := by omega
              obtain ⟨s, hs⟩ : ∃ s, S[k]? = some s := ⟨_, List.getElem?_eq_getElem (by rw [← HSl.out]; exact hlt)⟩
              have hxs : xa[k]? = some (s : Int) := by rw [HX.out]; unfold natsI; rw [List.getElem?_map, hs]; rfl
              obtain ⟨bk, o, rfl, hbk, hcell⟩ : ∃ bk o, va = some ⟨bk, o, none⟩ ∧ bk < w14.heap.size ∧ ∀ (j : Nat) x, xa[j]? = some x → w14.cell? ⟨bk, o + j, none⟩ = some (.int .i64 x) := by
                rcases HAC.out with h | h
                · rw [h] at hlt; simp at hlt
                · exact h
              have hc := (hbel2.cell (p := ⟨bk, o + k, none⟩) hbk).trans (hcell k _ hxs)
              rename_i wr2 _
              have hgl : True := trivial
              have hnext := all_next HAll.out hs
              obtain ⟨D2, hD2⟩ : ∃ D2, D2 = Pl.allOf (S.take (k + 1)) := ⟨_, rfl⟩
              rw [← hD2] at hnext
              have HD2 := Lib.hid hD2
              clear hs hxs hcell hD2
              go_wp2
              go_roundw
              case rel => exact ⟨k + 1, by omega, by go_num, by rw [← HD2.out], hbel2⟩
              case measure => simp [intOf]; omega
            · obtain rfl : k = xa.length := by omega
              have ht : S.take xa.length = S := by rw [HSl.out, List.take_length]
              rw [ht]
              have hin := HIn.out
              have hab := HAB.out
              have hab' : (xa.length : Int) ≤ (xb.length : Int) := by omega
              have HFin := Lib.hid (HBel.out.trans (hbel2.mono HBel.out.size))
              go_wp2
              go_ret
              exact ⟨rfl, HFin.out⟩

/-! ### THE ROW's STEP -/
theorem contract (H : Type) (enc : TypeId × Value → H) (W : World) (base : Nat) (args : Array Value) (ds gs : List (DataW H)) (before : List MemPlace)
    (hval : ∀ (j : Nat) t v, Try.f4.params[j]? = some t → args[j]? = some v → Value.okWide Try.prog W .any base t v)
    (hW : DataW.Whole enc Try.prog Try.f4.params.toList Rows.fnEventsSpec.vars false W args.toList ds gs before) (hL : laidMetH Try.prog Rows.fnEventsRow.laid W) (hS : W.ShapedOpen Try.prog) :
    Calls Try.prog 4 args W fun e W' => ∃ v, e = .returned v ∧ Rows.fnEventsSpec.post enc Try.prog Try.f4 false true false false W args v W' := by
  have hW' := hW
  obtain ⟨p, q, hA0, hV, rfl, hfz, hnd⟩ := hW
  have hA : DataW.TrodAll enc Try.prog W 0 (fun _ => true) true Try.f4.params.toList args.toList ds p := hA0
  rw [Try.params4] at hA hval
  obtain ⟨v0, vs0, d0, ds0, p0, q0, hargs, rfl, rfl, h0, r0⟩ := trodAll_cons hA
  obtain ⟨rfl, rfl, rfl⟩ := trodAll_nil r0
  obtain rfl : args = #[v0] := by cases args; simp_all
  obtain ⟨rfl, rfl⟩ := trodVars_none hV
  have k0 := h0
  have lt0 : ∀ x ∈ p0, x.block < W.heap.size := by obtain ⟨m, hm⟩ := k0; exact DataW.trod_lt m _ _ _ hm
  obtain ⟨a0, n0, c0, rfl⟩ := okWide_slice Try.underlying22 (hval 0 22 v0 rfl rfl)
  obtain ⟨z0, w0⟩ : ∃ zs, IsRow .u8 W a0 n0 c0 zs := by
    obtain ⟨fuel, hf⟩ := h0
    rcases open_ints Try.underlying22 Try.underlying5 (by kernel_rfl) hf with ⟨hcs, _⟩ | ⟨x, l, c, zs, hcs, _, hl, hm, hz, _, hcell, hwz⟩
    · simp [Value.cells] at hcs
      obtain ⟨rfl, rfl, rfl⟩ := hcs
      exact ⟨[], .inl ⟨rfl, rfl, rfl, rfl⟩⟩
    · simp [Value.cells] at hcs
      obtain ⟨rfl, rfl, rfl⟩ := hcs
      exact ⟨zs, .inr ⟨_, rfl, hl, hm, by simpa using hz, hcell, hwz⟩⟩
  clear hA0 hval
  refine (walk a0 n0 c0 z0 W hS  w0).mono fun e W' ⟨he, bel⟩ => ?_
  subst he
  exact ⟨_, rfl, _, _, _, [], _, [], hW', trodAll_mk1 (shut_bool Try.underlying4 _), (trodAll_cons_mk (Below.trod laidOut (by kernel_rfl) (of_decide_eq_true (by kernel_rfl)) k0 bel lt0) trodAll_mk0), rfl, bel.frame _, fun h => by cases h⟩

theorem reads (os : Os) {H : Type} (enc : TypeId × Value → H) : ∃ places, DataW.whole enc Try.prog ((World.holding Try.prog os ⟨#[], #[], []⟩).forCall (fun _ _ => 0) ⟨#[], #[.slice none 0 0], []⟩).memory Try.f4.params.toList Rows.fnEventsSpec.vars false (#[.slice none 0 0] : Array Value).toList 8 = some ([.nil], [], places) :=
  ⟨[], by kernel_rfl⟩

set_option maxRecDepth 100000 in
theorem lifted (os : Os) (started : os.Started) (H : Type) (enc : TypeId × Value → H) (F : Stop.Interp) :
    ReturnsInHanded {} Try.checked os 4 .any ((OpenSpec.ofChange Rows.fnEventsSpec).preRow enc Try.prog Try.f4 Rows.fnEventsRow.domain false Rows.fnEventsRow.laid) (((OpenSpec.ofChange Rows.fnEventsSpec).at F).post enc Try.prog Try.f4 false true false false) := by
  obtain ⟨places, hx⟩ := reads os enc
  refine returnsInHanded_of_row (C := Try.checked) (s := OpenSpec.ofChange Rows.fnEventsSpec) own started (by kernel_rfl) Try.func4
    (witness_row_atRef (enc := enc) (C := Try.checked) false (World.holding Try.prog os ⟨#[], #[], []⟩) #[.slice none 0 0] rfl (by kernel_rfl) (by kernel_rfl) (by kernel_rfl)
      (OpenSpec.preRow_of_cond 8 hx (by kernel_rfl) (fun k hk => by cases hk) (by kernel_rfl) ⟨[], rfl, List.nodup_nil, fun b off h => by cases h⟩)) ?_
  intro W base args ds gs before hval hW _ _ _ hL hS _
  exact contract H enc W base args ds gs before hval hW hL hS

theorem said : Rows.FnEventsSaid :=
  OpenClaim.holds_of_cond 4 Try.f4 rfl rfl rfl rfl rfl rfl rfl ⟨rfl, rfl, rfl, rfl, rfl⟩ rfl rfl rfl rfl rfl (by kernel_rfl) Try.func4 (by kernel_rfl)
    (of_decide_eq_true (by kernel_rfl)) (by unfold Func.isWrapper; first | (rw [if_pos (by decide +kernel)]; kernel_rfl) | (rw [if_neg (by decide +kernel)]; exact ⟨rfl, rfl⟩))
    (fun os started H enc _ F => by rw [OpenClaim.pre_eq_preRow]; exact lifted os started H enc F)

theorem proved : Rows.FnEventsSaid := said
#print axioms proved
end Go.Proofs.Ytindcafdphfppaa.fnEvents
