/-
  laws.FnTranslations returns true whatever the code: ParseTranslation and FormatTranslation are inverse, and every atom of a translation is valid, at all that the code draws. Conditions: none but the row's own.
-/
import Derived.Test.YtiajaeaffmmckaaRows
import Derived.WalkKit
import Derived.ProofKit
import Derived.OpenShut
import Derived.ShutString
import Derived.ChangeOld
import Derived.Below
import Derived.SliceStrings
import Derived.JoinedCond
import Derived.Deep.DeepHandedRow
import Derived.Deep.DeepWitnessRowRef
import Derived.Lib.Hide
import Derived.Test.YtiajaeaffmmckaaWant5
import Derived.Test.YtiajaeaffmmckaaImpl5
import Derived.Test.YtiajaeaffmmckaaDrawD
import Derived.Test.YtiajaeaffmmckaaDrawF
import Derived.Test.YtiajaeaffmmckaaTransR
import Derived.Test.YtiajaeaffmmckaaMarkA
import Derived.Test.YtiajaeaffmmckaaNeqAt
import Derived.Test.YtiajaeaffmmckaaBig
namespace Go.Proofs.Ytiajaeaffmmckaa.fnTranslations
open Go.ChangeShapes Go.WideShapes Go.ChangeAt Go.RowKit
open Go.ChangeMaps (open_string shut_string)
set_option linter.unusedVariables false
set_option maxRecDepth 100000

theorem own : ownKnob Try.prog.godebug = none := by kernel_rfl
theorem laidOut : laidOutB Try.prog = true := by kernel_rfl

/-- A slice of integers that came in. -/
def IsRow (k : IntKind) (w : World) (a : Option Addr) (len cap : Nat) (zs : List Int) : Prop :=
  (a = none ∧ len = 0 ∧ cap = 0 ∧ zs = []) ∨
  ∃ x, a = some x ∧ len ≤ cap ∧ cap ≤ maxLen ∧ zs.length = cap ∧ (∀ i, i < zs.length → w.cell? (x.add i) = some (.int k (zs.getD i 0))) ∧ ∀ n ∈ zs, (Lit.int k n).wf = true

theorem code_of {w : World} {a : Option Addr} {n c : Nat} {z : List Int} (h : IsRow .u8 w a n c z) (hn : n ≤ 1000000) : CodeAt w a n := by
  refine ⟨hn, fun h0 => ?_⟩
  rcases h with ⟨rfl, rfl, rfl, rfl⟩ | ⟨x, rfl, hl, hm, hz, hcell, hwz⟩
  · omega
  · obtain ⟨b, o, spot⟩ := x
    have h1 := hcell 0 (by omega)
    have hspot : spot = none := by simpa [Addr.add] using World.cell?_spot h1
    subst hspot
    refine ⟨b, o, rfl, ?_, fun i hi => ?_⟩
    · have : (w.cell? ⟨b, o, none⟩).isSome := by have := h1; simp [Addr.add] at this; rw [this]; rfl
      rcases Nat.lt_or_ge b w.heap.size with h' | h'
      · exact h'
      · simp [World.cell?, Array.getElem?_eq_none h'] at this
    · have h2 := hcell i (by omega)
      have h3 := bounds_u8 (hwz (z.getD i 0) (by rw [List.getD_eq_getElem?_getD, List.getElem?_eq_getElem (by omega)]; exact List.getElem_mem _))
      refine ⟨z.getD i 0, h3.1, h3.2, ?_⟩
      by_cases hi0 : i = 0
      · subst hi0; simpa [Addr.add] using h2
      · simpa [Addr.add, hi0] using h2
theorem row_len {w : World} {a : Option Addr} {n c : Nat} {z : List Int} (h : IsRow .u8 w a n c z) : n ≤ maxLen := by
  rcases h with ⟨_, rfl, _, _⟩ | ⟨x, _, hl, hm, _⟩
  · exact Nat.zero_le _
  · omega
theorem wf_small {k : Int} (h0 : -1 ≤ k) (h1 : k ≤ 20) : (Lit.int .i64 k).wf = true := by
  have : k = -1 ∨ ∃ n : Nat, n ≤ 20 ∧ k = (n : Int) := by
    by_cases h : k = -1
    · exact .inl h
    · exact .inr ⟨k.toNat, by omega, by omega⟩
  rcases this with rfl | ⟨n, hn, rfl⟩
  · decide
  · have key : ∀ m : Fin 21, (Lit.int .i64 ((m.1 : Nat) : Int)).wf = true := by decide
    exact key ⟨n, by omega⟩
theorem goodA_kind {k : Int} {t : List UInt8} (h : Pl.goodA k t = true) : 1 ≤ k ∧ k ≤ 10 := by
  unfold Pl.goodA at h
  split at h
  · rename_i h1; omega
  · split at h
    · omega
    · split at h
      · omega
      · split at h
        · omega
        · cases h
theorem parL_fine (s : ByteArray) (hs : s.size ≤ 200) : (parL s).length ≤ 10 ∧ ∀ e ∈ parL s, (Lit.int .i64 e.1).wf = true ∧ e.2.size ≤ 200 := by
  cases h : parLB s
  · rw [parL_no h]; exact ⟨by simp, fun e he => by simp at he⟩
  · have h1 := (textB_parL h).1
    obtain ⟨_, h3, h4, _⟩ := okL_parts h1
    refine ⟨h3, fun e he => ?_⟩
    have h5 := goodA_kind (h4 e he)
    refine ⟨wf_small (by omega) (by omega), ?_⟩
    rw [parL_yes h] at he
    obtain ⟨p, hp, rfl⟩ := List.mem_map.1 he
    have := atomOf_size p
    have := Pl.splitB_size s 32 p hp
    omega
theorem again5 (t : ByteArray) : ∃ (L : List Atm) (fi : Bool) (ag : ByteArray) (told : Bool), parL t = L ∧ parLB t = fi ∧ fmtLS L = ag ∧ okL L = told ∧ (fi = true → told = true ∧ ag = t) := by
  refine ⟨_, _, _, _, rfl, rfl, rfl, rfl, fun h => ?_⟩
  obtain ⟨h1, h2⟩ := textB_parL h
  exact ⟨h1, by unfold fmtLS; rw [if_pos h1, h2]⟩
theorem back5 (ls : List Atm) : ∃ (L : List Atm) (th : Bool), parL (fmtLS ls) = L ∧ parLB (fmtLS ls) = th ∧ (okL ls = true → th = true ∧ L = ls) := by
  refine ⟨_, _, rfl, rfl, fun h => ?_⟩
  have e : fmtLS ls = textB ls := by unfold fmtLS; rw [if_pos h]
  rw [e]
  exact parL_textB h
theorem fmtLS_size (ls : List Atm) : (fmtLS ls).size ≤ 200 := by
  unfold fmtLS
  split
  · rename_i h
    obtain ⟨h1, _, _, h4⟩ := okL_parts h
    have := textB_size (ls := ls) (fun e => by rw [e] at h1; simp at h1)
    omega
  · exact Nat.zero_le _
theorem wordsOf_append (a b : List Atm) : wordsOf (a ++ b) = wordsOf a ++ wordsOf b := by unfold wordsOf; rw [List.filter_append, List.map_append]
theorem word_at {ls : List Atm} {k : Nat} {e : Atm} (h : ls[k]? = some e) (h1 : e.1 = 1) : (wordsOf ls)[(wordsOf (ls.take k)).length]? = some e.2 ∧ (wordsOf (ls.take (k + 1))).length = (wordsOf (ls.take k)).length + 1 := by
  have h2 := wordsOf_next h
  rw [if_pos (by rw [h1]; rfl)] at h2
  have e1 : wordsOf ls = wordsOf (ls.take (k + 1)) ++ wordsOf (ls.drop (k + 1)) := by rw [← wordsOf_append, List.take_append_drop]
  refine ⟨?_, by rw [h2, List.length_append]; rfl⟩
  rw [e1, h2, List.append_assoc, List.getElem?_append_right (Nat.le_refl _), Nat.sub_self]; rfl
theorem word_not {ls : List Atm} {k : Nat} {e : Atm} (h : ls[k]? = some e) (h1 : ¬ e.1 = 1) : (wordsOf (ls.take (k + 1))).length = (wordsOf (ls.take k)).length := by
  have h2 := wordsOf_next h
  rw [if_neg (by rw [beq_iff_eq]; exact h1), List.append_nil] at h2
  rw [h2]
theorem plainL_len (ls : List Atm) : (plainL ls).length ≤ 10 := by
  unfold plainL
  split
  · rename_i h
    have h1 := wordsOf_len ls
    have h2 := (okL_parts h).2.1
    omega
  · exact Nat.zero_le _
theorem strs_slice {w : World} {v : Value} {xs : List ByteArray} (h : StrsAt w v xs) : ∃ a cap, v = .slice a xs.length cap ∧ (0 < xs.length → ∃ bk o, a = some ⟨bk, o, none⟩ ∧ bk < w.heap.size ∧ ∀ (j : Nat) x, xs[j]? = some x → w.cell? ⟨bk, o + j, none⟩ = some (.string x)) := by
  obtain ⟨a, cap, hv, _, h⟩ := h
  refine ⟨a, cap, hv, fun h0 => ?_⟩
  rcases h with h | h
  · rw [h] at h0; simp at h0
  · exact h
/-! ### THE WALK: the Go text returns true, and writes nothing that was there. -/
set_option maxRecDepth 100000 in
set_option maxHeartbeats 1000000 in
theorem walk (a0 : Option Addr) (n0 c0 : Nat) (z0 : List Int) (w : World) (hS : w.ShapedOpen Try.prog)  (w0 : IsRow .u8 w a0 n0 c0 z0) :
    Calls Try.prog 4 #[.slice a0 n0 c0] w fun e w' => e = .returned (.bool true) ∧ Below w.heap.size w w' := by
  have hnm := row_len w0
  by_cases hbig : 65536 < n0
  · have C := Lib.hid (big_yes a0 n0 c0 w hbig hnm)
    clear w0 hS hnm
    go_enter Try.func4, Try.ntmps4
    go_wp2_with fail
    refine C.out.mono ?_
    rintro e w1 ⟨rfl, rfl⟩
    go_wp2
    go_ret
    exact ⟨rfl, Below.refl _ _⟩
  · have C := Lib.hid (big_no a0 n0 c0 w (by omega))
    have HC0 := Lib.hid (code_of w0 (by omega))
    have CDF := Lib.hid (fun w h => drawFormatTranslation_any a0 n0 c0 w h)
    have CDP := Lib.hid (fun w h => drawParseTranslation_any a0 n0 c0 w h)
    have FI := Lib.hid (fun v ls w h hn hx => impl5.formatT v ls w h hn hx)
    have FS := Lib.hid (fun v ls w h hn hx => specFormatTranslation_any v ls w h hn hx)
    have WI := Lib.hid (fun v ls w h hn hx => impl5.plain v ls w h hn hx)
    have WS := Lib.hid (fun v ls w h hn hx => specPlainWords_any v ls w h hn hx)
    have VI := Lib.hid (fun k t w hk ht => impl5.valid k t w hk ht)
    have PI := Lib.hid (fun s w hs => impl5.parseT s w hs)
    have PS := Lib.hid (fun s w hs => specParseTranslation_any s w hs)
    have VA := Lib.hid (fun v u ls w hv hu hn => vAs_same v u ls w hv hu hn)
    clear w0 hS hnm hbig
    go_enter Try.func4, Try.ntmps4
    go_wp2_with fail
    refine C.out.mono ?_
    rintro e w0 ⟨rfl, rfl⟩
    go_wp2_with fail
    refine (CDF.out _ HC0.out).mono ?_
    rintro e w1 ⟨⟨v, ls, rfl, hl, hl11, hda⟩, hb⟩
    have HB1 := Lib.hid hb
    have HC1 := Lib.hid (HC0.out.below hb)
    have HL1 := Lib.hid hl
    have HD := Lib.hid hda
    have hn2 : ls.length ≤ 2097152 := by omega
    have hx1 : ∀ e ∈ ls, e.2.size ≤ 1048600 := fun e he => by have := (hda e he).1; omega
    have hx2 : ∀ e ∈ ls, (Lit.int .i64 e.1).wf = true ∧ e.2.size ≤ 1048576 := fun e he => ⟨wf_small (hda e he).2.1 (hda e he).2.2, by have := (hda e he).1; omega⟩
    have f1 := fun w h => FI.out v ls w h hn2 hx2
    have f2 := fun w h => FS.out v ls w h hn2 hx1
    have f3 := fun w h => WI.out v ls w h hn2 hx2
    have f4 := fun w h => WS.out v ls w h hn2 hx1
    unfold fmtLE at f1 f2
    obtain ⟨LB, th, hp1, hp2, hbk⟩ := back5 ls
    have r1 := fun w => PI.out (fmtLS ls) w (by have := fmtLS_size ls; omega)
    simp only [hp1, hp2] at r1
    obtain ⟨g, hg⟩ : ∃ g, g = okL ls := ⟨_, rfl⟩
    obtain ⟨s, hs⟩ : ∃ s, s = fmtLS ls := ⟨_, rfl⟩
    obtain ⟨ws, hws⟩ : ∃ ws, ws = plainL ls := ⟨_, rfl⟩
    have hwl := plainL_len ls
    rw [← hg, ← hs] at f1 f2
    rw [← hg, ← hws] at f3 f4
    rw [← hg] at hbk
    rw [← hs] at r1
    rw [← hws] at hwl
    have F1 := Lib.hid f1
    have F2 := Lib.hid f2
    have F3 := Lib.hid f3
    have F4 := Lib.hid f4
    have R1 := Lib.hid r1
    have HBk := Lib.hid hbk
    have HG := Lib.hid hg
    have HWS := Lib.hid hws
    clear hb f1 f2 f3 f4 r1 hp1 hp2 hbk hg hs hws hda hl HC0 FS WI WS hx1 hx2
    obtain ⟨la, lc, rfl, hlc⟩ := HL1.out.len
    obtain ⟨n, hnn⟩ : ∃ n, n = ls.length := ⟨_, rfl⟩
    have HN := Lib.hid hnn
    rw [← hnn] at HL1 F1 F2 F3 F4 hlc hl11 hn2 ⊢
    clear hnn
    go_wp2_with fail
    refine (F1.out _ HL1.out).mono ?_
    rintro e w2 ⟨rfl, hb⟩
    have HL2 := Lib.hid (HL1.out.below hb)
    have HB2 := Lib.hid (HB1.out.trans (hb.mono HB1.out.size))
    have HC2 := Lib.hid (HC1.out.below hb)
    clear hb HB1 HC1 HL1
    go_wp2_with fail
    refine (F2.out _ HL2.out).mono ?_
    rintro e w3 ⟨rfl, hb⟩
    have HL3 := Lib.hid (HL2.out.below hb)
    have HB3 := Lib.hid (HB2.out.trans (hb.mono HB2.out.size))
    have HC3 := Lib.hid (HC2.out.below hb)
    clear hb HB2 HC2 HL2
    go_wp2_with fail
    refine (F3.out _ HL3.out).mono ?_
    rintro e w4 ⟨⟨u, rfl, hu⟩, hb⟩
    have HU4 := Lib.hid hu.strs
    have HL4 := Lib.hid (HL3.out.below hb)
    have HB4 := Lib.hid (HB3.out.trans (hb.mono HB3.out.size))
    have HC4 := Lib.hid (HC3.out.below hb)
    obtain ⟨ua, uc, rfl, _⟩ := strs_slice hu.strs
    clear hb HB3 HC3 HL3 hu
    go_wp2_with fail
    refine (F4.out _ HL4.out).mono ?_
    rintro e w5 ⟨⟨u2, rfl, hu⟩, hb⟩
    have HU5 := Lib.hid (HU4.out.below hb)
    have HL5 := Lib.hid (HL4.out.below hb)
    have HB5 := Lib.hid (HB4.out.trans (hb.mono HB4.out.size))
    have HC5 := Lib.hid (HC4.out.below hb)
    obtain ⟨ua2, uc2, rfl, _⟩ := strs_slice hu
    clear hb HB4 HC4 HL4 HU4 hu F1 F2 F3 F4
    obtain ⟨m, hmm⟩ : ∃ m, m = ws.length := ⟨_, rfl⟩
    have HM := Lib.hid hmm
    rw [← hmm] at HU5 hwl ⊢
    clear hmm
    cases g
    case false =>
      have hm0 : m = 0 := by rw [HM.out, HWS.out]; unfold plainL; rw [← HG.out]; rfl
      subst hm0
      clear hlc hn2 HM HWS
      by_cases hn0 : (0 : Int) < (n : Int)
      · go_wp2_with fail
        refine wp_loop_rounds 1 ?_
        rw [rounds_succ]
        have HL6 := HL5
        have HB6 := HB5
        have HC6 := HC5
        clear HL5 HB5 HC5 HU5
        go_wp2_with fail
        refine (CDP.out _ HC6.out).mono ?_
        rintro e w7 ⟨⟨t', ht', rfl⟩, hb⟩
        have HL7 := Lib.hid (HL6.out.below hb)
        have HB7 := Lib.hid (HB6.out.trans (hb.mono HB6.out.size))
        obtain ⟨L, fi, ag, told, hq1, hq2, hq3, hq4, hag⟩ := again5 t'
        have hfine := parL_fine t' ht'
        have q1 := fun w => PI.out t' w (by omega)
        have q2 := fun w => PS.out t' w (by omega)
        simp only [hq1, hq2] at q1 q2
        rw [hq1] at hfine
        have q3 := fun v w h => FI.out v L w h (by omega) (fun e he => ⟨(hfine.2 e he).1, by have := (hfine.2 e he).2; omega⟩)
        unfold fmtLE at q3
        rw [hq3, hq4] at q3
        have hLl := hfine.1
        have Q1 := Lib.hid q1
        have Q2 := Lib.hid q2
        have Q3 := Lib.hid q3
        have HAg := Lib.hid hag
        clear hb HB6 HL6 HC6 q1 q2 q3 hq1 hq2 hq3 hq4 hag hfine ht' PI PS FI CDF CDP
        go_wp2_with fail
        refine (Q1.out _).mono ?_
        rintro e w8 ⟨⟨mv, rfl, hm⟩, hb⟩
        have HM8 := Lib.hid hm.atoms
        have HL8 := Lib.hid (HL7.out.below hb)
        have HB8 := Lib.hid (HB7.out.trans (hb.mono HB7.out.size))
        clear hb HB7 HL7 hm
        go_wp2_with fail
        refine (Q2.out _).mono ?_
        rintro e w9 ⟨⟨mv2, rfl, hm⟩, hb⟩
        have HV9 := Lib.hid hm
        have HM9 := Lib.hid (HM8.out.below hb)
        have HL9 := Lib.hid (HL8.out.below hb)
        have HB9 := Lib.hid (HB8.out.trans (hb.mono HB8.out.size))
        clear hb HB8 HL8 HM8 hm
        go_wp2_with fail
        refine (VA.out _ _ L _ HM9.out HV9.out (by omega)).mono ?_
        rintro e wa ⟨rfl, hb⟩
        have HMa := Lib.hid (HM9.out.below hb)
        have HLa := Lib.hid (HL9.out.below hb)
        have HBa := Lib.hid (HB9.out.trans (hb.mono HB9.out.size))
        clear hb HB9 HL9 HM9 HV9
        go_wp2_with fail
        refine (R1.out _).mono ?_
        rintro e wb ⟨⟨bv, rfl, hm⟩, hb⟩
        have HVb := Lib.hid hm.atoms
        have HMb := Lib.hid (HMa.out.below hb)
        have HLb := Lib.hid (HLa.out.below hb)
        have HBb := Lib.hid (HBa.out.trans (hb.mono HBa.out.size))
        clear hb HBa HLa HMa hm
        go_wp2_with fail
        refine (Q3.out _ _ HMb.out).mono ?_
        rintro e wc ⟨rfl, hb⟩
        have HVc := Lib.hid (HVb.out.below hb)
        have HLc := Lib.hid (HLb.out.below hb)
        have HBc := Lib.hid (HBb.out.trans (hb.mono HBb.out.size))
        clear hb HBb HLb HMb HVb
        cases fi
        · go_wp2
          go_ret
          exact ⟨rfl, HBc.out⟩
        · obtain ⟨rfl, rfl⟩ := HAg.out (by first | rfl | trivial)
          go_wp2
          go_ret
          exact ⟨rfl, HBc.out⟩
      · go_wp2_with fail
        refine wp_loop_rounds 1 ?_
        rw [rounds_succ]
        have HL6 := HL5
        have HB6 := HB5
        have HC6 := HC5
        clear HL5 HB5 HC5 HU5
        go_wp2_with fail
        refine (CDP.out _ HC6.out).mono ?_
        rintro e w7 ⟨⟨t', ht', rfl⟩, hb⟩
        have HL7 := Lib.hid (HL6.out.below hb)
        have HB7 := Lib.hid (HB6.out.trans (hb.mono HB6.out.size))
        obtain ⟨L, fi, ag, told, hq1, hq2, hq3, hq4, hag⟩ := again5 t'
        have hfine := parL_fine t' ht'
        have q1 := fun w => PI.out t' w (by omega)
        have q2 := fun w => PS.out t' w (by omega)
        simp only [hq1, hq2] at q1 q2
        rw [hq1] at hfine
        have q3 := fun v w h => FI.out v L w h (by omega) (fun e he => ⟨(hfine.2 e he).1, by have := (hfine.2 e he).2; omega⟩)
        unfold fmtLE at q3
        rw [hq3, hq4] at q3
        have hLl := hfine.1
        have Q1 := Lib.hid q1
        have Q2 := Lib.hid q2
        have Q3 := Lib.hid q3
        have HAg := Lib.hid hag
        clear hb HB6 HL6 HC6 q1 q2 q3 hq1 hq2 hq3 hq4 hag hfine ht' PI PS FI CDF CDP
        go_wp2_with fail
        refine (Q1.out _).mono ?_
        rintro e w8 ⟨⟨mv, rfl, hm⟩, hb⟩
        have HM8 := Lib.hid hm.atoms
        have HL8 := Lib.hid (HL7.out.below hb)
        have HB8 := Lib.hid (HB7.out.trans (hb.mono HB7.out.size))
        clear hb HB7 HL7 hm
        go_wp2_with fail
        refine (Q2.out _).mono ?_
        rintro e w9 ⟨⟨mv2, rfl, hm⟩, hb⟩
        have HV9 := Lib.hid hm
        have HM9 := Lib.hid (HM8.out.below hb)
        have HL9 := Lib.hid (HL8.out.below hb)
        have HB9 := Lib.hid (HB8.out.trans (hb.mono HB8.out.size))
        clear hb HB8 HL8 HM8 hm
        go_wp2_with fail
        refine (VA.out _ _ L _ HM9.out HV9.out (by omega)).mono ?_
        rintro e wa ⟨rfl, hb⟩
        have HMa := Lib.hid (HM9.out.below hb)
        have HLa := Lib.hid (HL9.out.below hb)
        have HBa := Lib.hid (HB9.out.trans (hb.mono HB9.out.size))
        clear hb HB9 HL9 HM9 HV9
        go_wp2_with fail
        refine (R1.out _).mono ?_
        rintro e wb ⟨⟨bv, rfl, hm⟩, hb⟩
        have HVb := Lib.hid hm.atoms
        have HMb := Lib.hid (HMa.out.below hb)
        have HLb := Lib.hid (HLa.out.below hb)
        have HBb := Lib.hid (HBa.out.trans (hb.mono HBa.out.size))
        clear hb HBa HLa HMa hm
        go_wp2_with fail
        refine (Q3.out _ _ HMb.out).mono ?_
        rintro e wc ⟨rfl, hb⟩
        have HVc := Lib.hid (HVb.out.below hb)
        have HLc := Lib.hid (HLb.out.below hb)
        have HBc := Lib.hid (HBb.out.trans (hb.mono HBb.out.size))
        clear hb HBb HLb HMb HVb
        cases fi
        · go_wp2
          go_ret
          exact ⟨rfl, HBc.out⟩
        · obtain ⟨rfl, rfl⟩ := HAg.out (by first | rfl | trivial)
          go_wp2
          go_ret
          exact ⟨rfl, HBc.out⟩
    case true =>
      have hmw : Hid (ws = wordsOf ls) := by show ws = _; rw [HWS.out]; unfold plainL; rw [← HG.out]; rfl
      have hok := HG.out.symm
      have hpts := (okL_parts hok).2.2.1
      have HPT := Lib.hid hpts
      clear hok hpts
      go_wp2_with fail
      go_loopw [12, 13] (fun c i wr => ∃ k q : Nat, i = .int .i64 k ∧ c = .int .i64 q ∧ k ≤ n ∧ q ≤ k ∧ Hid (q = (wordsOf (ls.take k)).length) ∧ Hid (AtomsAt wr (.slice la n lc) ls) ∧ Hid (StrsAt wr (.slice ua m uc) ws) ∧ Hid (CodeAt wr a0 n0) ∧ Hid (Below w.heap.size w wr)) (fun _ i _ => n - (intOf i).toNat)
      case atStart => exact ⟨0, 0, rfl, rfl, Nat.zero_le _, Nat.le_refl _, Lib.hid rfl, HL5, HU5, HC5, HB5⟩
      case round =>
        obtain ⟨k, q, rfl, rfl, hk, hqk, HQ, HL6, HU6, HC6, HB6⟩ := hrel
        clear HL5 HU5 HC5 HB5
        by_cases hlt : k < n
        · obtain ⟨e, he⟩ : ∃ e, ls[k]? = some e := ⟨_, List.getElem?_eq_getElem (by rw [← HN.out]; exact hlt)⟩
          have hlen0 : 0 < ls.length := by rw [← HN.out]; omega
          obtain ⟨bk, o, cap, hv, _, hbk, hcl⟩ := AtomsAt.some HL6.out hlen0
          injection hv with hv1 hv2 hv3
          subst hv1
          obtain ⟨g0, g1⟩ := hcl wr (Below.refl _ _) k e he
          have hd := HD.out e (List.mem_of_getElem? he)
          have hgd : Pl.goodA e.1 (by8 e.2) = true := HPT.out e (List.mem_of_getElem? he)
          have cv := fun w => VI.out e.1 e.2 w (wf_small hd.2.1 hd.2.2) (by have := hd.1; omega)
          rw [hgd] at cv
          have CV := Lib.hid cv
          have HWA := Lib.hid (fun h1 => word_at he h1)
          have HWN := Lib.hid (fun h1 => word_not he h1)
          obtain ⟨ek, et⟩ := e
          have HCL := Lib.hid (fun wr hb => hcl wr hb k _ he)
          clear hcl he hd hgd cv hv2 hv3
          go_wp2_with fail
          refine (CV.out _).mono ?_
          rintro r w7 ⟨rfl, hb⟩
          obtain ⟨d0, d1⟩ := HCL.out w7 hb
          have HL7 := Lib.hid (HL6.out.below hb)
          have HU7 := Lib.hid (HU6.out.below hb)
          have HC7 := Lib.hid (HC6.out.below hb)
          have HB7 := Lib.hid (HB6.out.trans (hb.mono HB6.out.size))
          clear hb g0 g1 HCL HL6 HU6 HC6 HB6 CV
          by_cases h1 : ek = 1
          · obtain ⟨h2, h3⟩ := HWA.out h1
            rw [← HQ.out, ← hmw.out] at h2
            rw [← HQ.out] at h3
            have HQ2 : Hid (q + 1 = (wordsOf (ls.take (k + 1))).length) := h3.symm
            have hqm : q < ws.length := (List.getElem?_eq_some_iff.1 h2).1
            obtain ⟨ua', uc', hv, hcw⟩ := strs_slice HU7.out
            injection hv with hv1 hv2 hv3
            subst hv1
            obtain ⟨bk', o', rfl, _, hcw⟩ := hcw (by omega)
            have d2 := hcw q et h2
            have hqm' : q < m := by omega
            subst h1
            have hgd : decide ((m : Int) ≤ (q : Int)) = false := by simp; omega
            clear hcw h2 h3 hv2 hv3 HWA HWN HQ hqm
            go_wp2_with fail
            go_quiet (fail)
            have HL8 := Lib.hid (HL7.out.below (below_drewN (Below.refl _ _) nq))
            have HU8 := Lib.hid (HU7.out.below (below_drewN (Below.refl _ _) nq))
            have HC8 := Lib.hid (HC7.out.below (below_drewN (Below.refl _ _) nq))
            have HB8 := Lib.hid (below_drewN HB7.out nq)
            clear HL7 HU7 HC7 HB7
            go_wp2
            go_roundw
            case rel => exact ⟨k + 1, q + 1, by go_num, by go_num, by omega, by omega, HQ2, HL8, HU8, HC8, HB8⟩
            case measure => simp [intOf]; omega
          · have HQ2 : Hid (q = (wordsOf (ls.take (k + 1))).length) := by show q = _; rw [HWN.out h1]; exact HQ.out
            have hne : (ek == 1) = false := by rw [beq_eq_false_iff_ne]; exact h1
            clear HWA HWN HQ h1
            go_wp2
            go_roundw
            case rel => exact ⟨k + 1, q, by go_num, rfl, by omega, by omega, HQ2, HL7, HU7, HC7, HB7⟩
            case measure => simp [intOf]; omega
        · obtain rfl : k = n := by omega
          have hqm : q = m := by rw [HQ.out, HM.out, hmw.out, List.take_of_length_le (by rw [← HN.out]; exact Nat.le_refl _)]
          subst hqm
          clear HQ HU6
          go_wp2_with fail
          refine (CDP.out _ HC6.out).mono ?_
          rintro e w7 ⟨⟨t', ht', rfl⟩, hb⟩
          have HL7 := Lib.hid (HL6.out.below hb)
          have HB7 := Lib.hid (HB6.out.trans (hb.mono HB6.out.size))
          obtain ⟨L, fi, ag, told, hq1, hq2, hq3, hq4, hag⟩ := again5 t'
          have hfine := parL_fine t' ht'
          have q1 := fun w => PI.out t' w (by omega)
          have q2 := fun w => PS.out t' w (by omega)
          simp only [hq1, hq2] at q1 q2
          rw [hq1] at hfine
          have q3 := fun v w h => FI.out v L w h (by omega) (fun e he => ⟨(hfine.2 e he).1, by have := (hfine.2 e he).2; omega⟩)
          unfold fmtLE at q3
          rw [hq3, hq4] at q3
          have hLl := hfine.1
          have Q1 := Lib.hid q1
          have Q2 := Lib.hid q2
          have Q3 := Lib.hid q3
          have HAg := Lib.hid hag
          clear hb HB6 HL6 HC6 q1 q2 q3 hq1 hq2 hq3 hq4 hag hfine ht' PI PS FI CDF CDP
          go_wp2_with fail
          refine (Q1.out _).mono ?_
          rintro e w8 ⟨⟨mv, rfl, hm⟩, hb⟩
          have HM8 := Lib.hid hm.atoms
          have HL8 := Lib.hid (HL7.out.below hb)
          have HB8 := Lib.hid (HB7.out.trans (hb.mono HB7.out.size))
          clear hb HB7 HL7 hm
          go_wp2_with fail
          refine (Q2.out _).mono ?_
          rintro e w9 ⟨⟨mv2, rfl, hm⟩, hb⟩
          have HV9 := Lib.hid hm
          have HM9 := Lib.hid (HM8.out.below hb)
          have HL9 := Lib.hid (HL8.out.below hb)
          have HB9 := Lib.hid (HB8.out.trans (hb.mono HB8.out.size))
          clear hb HB8 HL8 HM8 hm
          go_wp2_with fail
          refine (VA.out _ _ L _ HM9.out HV9.out (by omega)).mono ?_
          rintro e wa ⟨rfl, hb⟩
          have HMa := Lib.hid (HM9.out.below hb)
          have HLa := Lib.hid (HL9.out.below hb)
          have HBa := Lib.hid (HB9.out.trans (hb.mono HB9.out.size))
          clear hb HB9 HL9 HM9 HV9
          go_wp2_with fail
          refine (R1.out _).mono ?_
          rintro e wb ⟨⟨bv, rfl, hm⟩, hb⟩
          have HVb := Lib.hid hm.atoms
          have HMb := Lib.hid (HMa.out.below hb)
          have HLb := Lib.hid (HLa.out.below hb)
          have HBb := Lib.hid (HBa.out.trans (hb.mono HBa.out.size))
          clear hb HBa HLa HMa hm
          go_wp2_with fail
          refine (Q3.out _ _ HMb.out).mono ?_
          rintro e wc ⟨rfl, hb⟩
          have HVc := Lib.hid (HVb.out.below hb)
          have HLc := Lib.hid (HLb.out.below hb)
          have HBc := Lib.hid (HBb.out.trans (hb.mono HBb.out.size))
          clear hb HBb HLb HMb HVb
          obtain ⟨rfl, rfl⟩ := HBk.out (by first | rfl | trivial)
          have HVA := Lib.hid (VA.out _ _ _ wc HVc.out HLc.out (by rw [← HN.out]; omega))
          cases fi
          · go_wp2_with fail
            refine HVA.out.mono ?_
            rintro e wd ⟨rfl, hb⟩
            have HBd := Lib.hid (HBc.out.trans (hb.mono HBc.out.size))
            clear hb
            go_wp2
            go_ret
            exact ⟨rfl, HBd.out⟩
          · obtain ⟨rfl, rfl⟩ := HAg.out (by first | rfl | trivial)
            go_wp2_with fail
            refine HVA.out.mono ?_
            rintro e wd ⟨rfl, hb⟩
            have HBd := Lib.hid (HBc.out.trans (hb.mono HBc.out.size))
            clear hb
            go_wp2
            go_ret
            exact ⟨rfl, HBd.out⟩

/-! ### THE ROW's STEP -/
set_option maxRecDepth 100000 in
theorem contract (H : Type) (enc : TypeId × Value → H) (W : World) (base : Nat) (args : Array Value) (ds gs : List (DataW H)) (before : List MemPlace)
    (hval : ∀ (j : Nat) t v, Try.f4.params[j]? = some t → args[j]? = some v → Value.okWide Try.prog W .any base t v)
    (hW : DataW.Whole enc Try.prog Try.f4.params.toList Rows.fnTranslationsSpec.vars false W args.toList ds gs before) (hL : laidMetH Try.prog Rows.fnTranslationsRow.laid W) (hS : W.ShapedOpen Try.prog) :
    Calls Try.prog 4 args W fun e W' => ∃ v, e = .returned v ∧ Rows.fnTranslationsSpec.post enc Try.prog Try.f4 false true false false W args v W' := by
  have hW' := hW
  obtain ⟨p, q, hA0, hV, rfl, hfz, hnd⟩ := hW
  have hA : DataW.TrodAll enc Try.prog W 0 (fun _ => true) true Try.f4.params.toList args.toList ds p := hA0
  rw [Try.params4] at hA hval
  obtain ⟨v0, vs0, d0, ds0, p0, q0, hargs, rfl, rfl, h0, r0⟩ := trodAll_cons hA
  obtain ⟨rfl, rfl, rfl⟩ := trodAll_nil r0
  obtain rfl : args = #[v0] := by cases args; simp_all
  obtain ⟨rfl, rfl⟩ := trodVars_none hV
  have k0 := h0
  have lt0 : ∀ x ∈ p0, x.block < W.heap.size := by obtain ⟨m, hm⟩ := k0; exact DataW.trod_lt m _ _ _ hm
  obtain ⟨a0, n0, c0, rfl⟩ := okWide_slice Try.underlying22 (hval 0 22 v0 rfl rfl)
  obtain ⟨z0, w0⟩ : ∃ zs, IsRow .u8 W a0 n0 c0 zs := by
    obtain ⟨fuel, hf⟩ := h0
    rcases open_ints Try.underlying22 Try.underlying5 (by kernel_rfl) hf with ⟨hcs, _⟩ | ⟨x, l, c, zs, hcs, _, hl, hm, hz, _, hcell, hwz⟩
    · simp [Value.cells] at hcs
      obtain ⟨rfl, rfl, rfl⟩ := hcs
      exact ⟨[], .inl ⟨rfl, rfl, rfl, rfl⟩⟩
    · simp [Value.cells] at hcs
      obtain ⟨rfl, rfl, rfl⟩ := hcs
      exact ⟨zs, .inr ⟨_, rfl, hl, hm, by simpa using hz, hcell, hwz⟩⟩
  clear hA0 hval
  refine (walk a0 n0 c0 z0 W hS  w0).mono fun e W' ⟨he, bel⟩ => ?_
  subst he
  exact ⟨_, rfl, _, _, _, [], _, [], hW', trodAll_mk1 (shut_bool Try.underlying4 _), (trodAll_cons_mk (Below.trod laidOut (by kernel_rfl) (of_decide_eq_true (by kernel_rfl)) k0 bel lt0) trodAll_mk0), rfl, bel.frame _, fun h => by cases h⟩

theorem reads (os : Os) {H : Type} (enc : TypeId × Value → H) : ∃ places, DataW.whole enc Try.prog ((World.holding Try.prog os ⟨#[], #[], []⟩).forCall (fun _ _ => 0) ⟨#[], #[.slice none 0 0], []⟩).memory Try.f4.params.toList Rows.fnTranslationsSpec.vars false (#[.slice none 0 0] : Array Value).toList 8 = some ([.nil], [], places) :=
  ⟨[], by kernel_rfl⟩

set_option maxRecDepth 100000 in
theorem lifted (os : Os) (started : os.Started) (H : Type) (enc : TypeId × Value → H) (F : Stop.Interp) :
    ReturnsInHanded {} Try.checked os 4 .any ((OpenSpec.ofChange Rows.fnTranslationsSpec).preRow enc Try.prog Try.f4 Rows.fnTranslationsRow.domain false Rows.fnTranslationsRow.laid) (((OpenSpec.ofChange Rows.fnTranslationsSpec).at F).post enc Try.prog Try.f4 false true false false) := by
  obtain ⟨places, hx⟩ := reads os enc
  refine returnsInHanded_of_row (C := Try.checked) (s := OpenSpec.ofChange Rows.fnTranslationsSpec) own started (by kernel_rfl) Try.func4
    (witness_row_atRef (enc := enc) (C := Try.checked) false (World.holding Try.prog os ⟨#[], #[], []⟩) #[.slice none 0 0] rfl (by kernel_rfl) (by kernel_rfl) (by kernel_rfl)
      (OpenSpec.preRow_of_cond 8 hx (by kernel_rfl) (fun k hk => by cases hk) (by kernel_rfl) ⟨[], rfl, List.nodup_nil, fun b off h => by cases h⟩)) ?_
  intro W base args ds gs before hval hW _ _ _ hL hS _
  exact contract H enc W base args ds gs before hval hW hL hS

theorem said : Rows.FnTranslationsSaid :=
  OpenClaim.holds_of_cond 4 Try.f4 rfl rfl rfl rfl rfl rfl rfl ⟨rfl, rfl, rfl, rfl, rfl⟩ rfl rfl rfl rfl rfl (by kernel_rfl) Try.func4 (by kernel_rfl)
    (of_decide_eq_true (by kernel_rfl)) (by unfold Func.isWrapper; first | (rw [if_pos (by decide +kernel)]; kernel_rfl) | (rw [if_neg (by decide +kernel)]; exact ⟨rfl, rfl⟩))
    (fun os started H enc _ F => by rw [OpenClaim.pre_eq_preRow]; exact lifted os started H enc F)

theorem proved : Rows.FnTranslationsSaid := said
#print axioms proved
end Go.Proofs.Ytiajaeaffmmckaa.fnTranslations
