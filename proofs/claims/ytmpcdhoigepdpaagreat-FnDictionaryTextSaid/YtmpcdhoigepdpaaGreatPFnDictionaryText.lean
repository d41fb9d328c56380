/-
  laws.FnDictionaryText returns true whatever the code: FormatDictionary and ParseDictionary are inverse, at all that the code draws. Conditions: none but the row's own.
-/
import Derived.Test.YtmpcdhoigepdpaaGreatRows
import Derived.WalkKit
import Derived.ProofKit
import Derived.OpenShut
import Derived.ShutString
import Derived.ChangeOld
import Derived.Below
import Derived.SliceStrings
import Derived.JoinedCond
import Derived.Deep.DeepHandedRow
import Derived.Deep.DeepWitnessRowRef
import Derived.Lib.Hide
import Derived.Test.YtmpcdhoigepdpaaGreatDrawP
import Derived.Test.YtmpcdhoigepdpaaGreatDicR
import Derived.Test.YtmpcdhoigepdpaaGreatPDS
import Derived.Test.YtmpcdhoigepdpaaGreatImpl6D
import Derived.Test.YtmpcdhoigepdpaaGreatBig
namespace Go.Proofs.YtmpcdhoigepdpaaGreat.fnDictionaryText
open Go.ChangeShapes Go.WideShapes Go.ChangeAt Go.RowKit
open Go.ChangeMaps (open_string shut_string)
set_option linter.unusedVariables false
set_option maxRecDepth 100000

theorem own : ownKnob Tryz.prog.godebug = none := by kernel_rfl
theorem laidOut : laidOutB Tryz.prog = true := by kernel_rfl

/-- A slice of integers that came in. -/
def IsRow (k : IntKind) (w : World) (a : Option Addr) (len cap : Nat) (zs : List Int) : Prop :=
  (a = none ∧ len = 0 ∧ cap = 0 ∧ zs = []) ∨
  ∃ x, a = some x ∧ len ≤ cap ∧ cap ≤ maxLen ∧ zs.length = cap ∧ (∀ i, i < zs.length → w.cell? (x.add i) = some (.int k (zs.getD i 0))) ∧ ∀ n ∈ zs, (Lit.int k n).wf = true

theorem code_of {w : World} {a : Option Addr} {n c : Nat} {z : List Int} (h : IsRow .u8 w a n c z) (hn : n ≤ 1000000) : CodeAt w a n := by
  refine ⟨hn, fun h0 => ?_⟩
  rcases h with ⟨rfl, rfl, rfl, rfl⟩ | ⟨x, rfl, hl, hm, hz, hcell, hwz⟩
  · omega
  · obtain ⟨b, o, spot⟩ := x
    have h1 := hcell 0 (by omega)
    have hspot : spot = none := by simpa [Addr.add] using World.cell?_spot h1
    subst hspot
    refine ⟨b, o, rfl, ?_, fun i hi => ?_⟩
    · have : (w.cell? ⟨b, o, none⟩).isSome := by have := h1; simp [Addr.add] at this; rw [this]; rfl
      rcases Nat.lt_or_ge b w.heap.size with h' | h'
      · exact h'
      · simp [World.cell?, Array.getElem?_eq_none h'] at this
    · have h2 := hcell i (by omega)
      have h3 := bounds_u8 (hwz (z.getD i 0) (by rw [List.getD_eq_getElem?_getD, List.getElem?_eq_getElem (by omega)]; exact List.getElem_mem _))
      refine ⟨z.getD i 0, h3.1, h3.2, ?_⟩
      by_cases hi0 : i = 0
      · subst hi0; simpa [Addr.add] using h2
      · simpa [Addr.add, hi0] using h2
theorem row_len {w : World} {a : Option Addr} {n c : Nat} {z : List Int} (h : IsRow .u8 w a n c z) : n ≤ maxLen := by
  rcases h with ⟨_, rfl, _, _⟩ | ⟨x, _, hl, hm, _⟩
  · exact Nat.zero_le _
  · omega
/-- What the law asks of the dictionary that was drawn. -/
theorem back_facts (es : List Ent) : ∃ (s : ByteArray) (ok : Bool) (B : List Ent) (th : Bool), fmtDS es = s ∧ fmtDB es = ok ∧ parD s = B ∧ parDB s = th ∧ (ok = true → th = true ∧ B = es) ∧ s.size ≤ 4000 := by
  refine ⟨_, _, _, _, rfl, rfl, rfl, rfl, fun h => parD_fmtD h, fmtDS_size es⟩
/-- What the law asks of the text that was drawn. -/
theorem again_facts (t : ByteArray) : ∃ (B : List Ent) (fi : Bool) (ag : ByteArray) (told : Bool), parD t = B ∧ parDB t = fi ∧ fmtDS B = ag ∧ fmtDB B = told ∧ (fi = true → told = true ∧ ag = t) := by
  refine ⟨_, _, _, _, rfl, rfl, rfl, rfl, fun h => fmtD_parD h⟩
theorem parD_fine (t : ByteArray) : (parD t).length ≤ 40 ∧ ∀ e ∈ parD t, entOk e := by
  cases h : parDB t
  · rw [parD_no h]; exact ⟨Nat.zero_le _, fun e he => by simp at he⟩
  · have h1 := (fmtD_parD h).1
    unfold fmtDB at h1
    rw [Bool.and_eq_true] at h1
    obtain ⟨h2, h3, _⟩ := okD_parts h1.1
    refine ⟨h2, fun e he => ?_⟩
    obtain ⟨_, p, q⟩ := okE_size (h3 e he)
    exact ⟨by omega, by omega⟩
/-! ### THE WALK: the Go text returns true, and writes nothing that was there. -/
set_option maxRecDepth 100000 in
set_option maxHeartbeats 8000000 in
theorem walk (a0 : Option Addr) (n0 c0 : Nat) (z0 : List Int) (w : World) (hS : w.ShapedOpen Tryz.prog)  (w0 : IsRow .u8 w a0 n0 c0 z0) :
    Calls Tryz.prog 4 #[.slice a0 n0 c0] w fun e w' => e = .returned (.bool true) ∧ Below w.heap.size w w' := by
  have hnm := row_len w0
  by_cases hbig : 65536 < n0
  · have C := Lib.hid (big_yes a0 n0 c0 w hbig hnm)
    clear w0 hS hnm
    go_enter Tryz.func4, Tryz.ntmps4
    go_wp2_with fail
    refine C.out.mono ?_
    rintro e w1 ⟨rfl, rfl⟩
    go_wp2
    go_ret
    exact ⟨rfl, Below.refl _ _⟩
  · have C := Lib.hid (big_no a0 n0 c0 w (by omega))
    have HC0 := Lib.hid (code_of w0 (by omega))
    have cdf := fun w h => drawFormatD_any a0 n0 c0 w h
    have cdp := fun w h => drawParseD_any a0 n0 c0 w h
    have cfi := fun v es w h hn hx => FormatD_any v es w h hn hx
    have cfs := fun v es w h hn hx => specFormatDictionary_any v es w h hn hx
    have cpi := fun s w hs => ParseD_any s w hs
    have cps := fun s w hs => specParseD_any s w hs
    have cvd := fun v u es w hv hu hn hx => vD_same v u es w hv hu hn hx
    unfold DDict dV at cdf
    unfold fmtDE dV at cfi cfs
    unfold OutD dV at cpi
    unfold dV at cps cvd
    have CDF := Lib.hid cdf
    have CDP := Lib.hid cdp
    have CFI := Lib.hid cfi
    have CFS := Lib.hid cfs
    have CPI := Lib.hid cpi
    have CPS := Lib.hid cps
    have CVD := Lib.hid cvd
    clear w0 hS hnm hbig cdf cdp cfi cfs cpi cps cvd
    go_enter Tryz.func4, Tryz.ntmps4
    go_wp2_with fail
    refine C.out.mono ?_
    rintro e w0 ⟨rfl, rfl⟩
    go_wp2_with fail
    refine (CDF.out _ HC0.out).mono ?_
    rintro e w1 ⟨⟨v, us, rfl, hr, hl, hx⟩, hb1⟩
    have hat := hr.at.at
    have hlen : (us.map (·.2)).length ≤ 60 := by rw [List.length_map]; exact hl
    have hsm : ∀ e ∈ us.map (·.2), e.1.length ≤ 8 ∧ e.2.size ≤ 60 := by
      intro e he
      obtain ⟨p, hp, rfl⟩ := List.mem_map.1 he
      exact hx p hp
    obtain ⟨es, hes⟩ : ∃ es, es = us.map (·.2) := ⟨_, rfl⟩
    rw [← hes] at hat hlen hsm
    clear hr hl hx hes us
    have hn2 : es.length ≤ 2097152 := by omega
    have hx2 : ∀ e ∈ es, entOk e := fun e he => by obtain ⟨p, q⟩ := hsm e he; exact ⟨by omega, by omega⟩
    obtain ⟨va, vc, rfl, hvc, hC⟩ := hat.cells
    have cfi := fun w h => CFI.out (.slice va es.length vc) es w h hn2 hx2
    have cfs := fun w h => CFS.out (.slice va es.length vc) es w h hn2 hx2
    have CVE := Lib.hid (fun v u w hv hu => CVD.out v u es w hv hu hn2 hx2)
    obtain ⟨s, ok, B1, th, hs, hok, hB1, hth, hback, hs4⟩ := back_facts es
    rw [hs, hok] at cfi cfs
    have HBack := Lib.hid hback
    have CFI1 := Lib.hid cfi
    have CFS1 := Lib.hid cfs
    have cpb := fun w => CPI.out s w (by omega)
    rw [hB1, hth] at cpb
    have CPB := Lib.hid cpb
    have HF1 : Hid (B1.length ≤ 40 ∧ ∀ e ∈ B1, entOk e) := by rw [← hB1]; exact parD_fine s
    obtain ⟨m, hm⟩ : ∃ m, m = es.length := ⟨_, rfl⟩
    rw [← hm] at CFI1 CFS1 ⊢
    obtain ⟨W, hW⟩ : ∃ W, W = w1.alloc (.cells #[.slice va m vc] 26) := ⟨_, rfl⟩
    have HE : Hid (EntsAt W (.slice va m vc) es) := by rw [hW, hm]; exact hat.below (below_al _ _)
    have X1 : Hid (BoxV W w1.heap.size 26 (.slice va m vc)) := by rw [hW]; exact BoxV.new _ _ _
    have HB1 : Hid (Below w.heap.size w W) := by rw [hW]; exact below_step hb1 (below_al _ _)
    have HW := Lib.hid hW
    obtain ⟨D, hD⟩ : ∃ D, D = w1.heap.size := ⟨_, rfl⟩
    have HDD := Lib.hid hD
    rw [← hD] at X1
    have cX := X1.out.cell
    rw [HW.out, HDD.out] at cX
    clear hat hm hW hb1 hC hn2 hx2 CFI CFS C CDF hD hsm hs hok hB1 hth hback cfi cfs cpb
    have HOld := HB1
    go_wp2_with fail
    rw [← HW.out, ← HDD.out]
    refine (CFI1.out W HE.out).mono ?_
    rintro r w2 ⟨rfl, hb⟩
    have X2 := Lib.hid (X1.out.below hb X1.out.lt)
    have HE2 := Lib.hid (HE.out.below hb)
    have HB2 := Lib.hid (below_step HB1.out hb)
    clear hb cX X1 HE HB1 HW HDD HOld
    have cX := X2.out.cell
    go_wp2_with fail
    refine (CFS1.out w2 HE2.out).mono ?_
    rintro r w3 ⟨rfl, hb⟩
    have X3 := Lib.hid (X2.out.below hb X2.out.lt)
    have HE3 := Lib.hid (HE2.out.below hb)
    have HB3 := Lib.hid (below_step HB2.out hb)
    clear hb cX X2 HE2 HB2 CFI1 CFS1
    have hne : (s.toList == s.toList) = true := by simp
    go_wp2_with fail
    refine (CDP.out w3 (HC0.out.below HB3.out)).mono ?_
    rintro r w4 ⟨⟨t, ht, rfl⟩, hb⟩
    have X4 := Lib.hid (X3.out.below hb X3.out.lt)
    have HE4 := Lib.hid (HE3.out.below hb)
    have HB4 := Lib.hid (below_step HB3.out hb)
    obtain ⟨B2, fi, ag, told, hB2, hfi, hag, htold, hagain⟩ := again_facts t
    obtain ⟨hf2, hf2'⟩ := parD_fine t
    rw [hB2] at hf2 hf2'
    have cpi := fun w => CPI.out t w (by omega)
    have cps := fun w => CPS.out t w (by omega)
    rw [hB2, hfi] at cpi cps
    have CPI1 := Lib.hid cpi
    have CPS1 := Lib.hid cps
    have HAgain := Lib.hid hagain
    have CVB := Lib.hid (fun v u w hv hu => CVD.out v u B2 w hv hu (by omega) hf2')
    have cfb := fun v w h => FormatD_any v B2 w h (by omega) hf2'
    unfold fmtDE dV at cfb
    rw [hag, htold] at cfb
    have CFB := Lib.hid cfb
    clear hb X3 HE3 HB3 CDP HC0 hne cpi cps cfb hB2 hfi hag htold hagain hf2' CPI CPS CVD ht
    go_wp2_with fail
    refine (CPI1.out w4).mono ?_
    rintro r w5 ⟨⟨u5, us5, rfl, hro, hmap⟩, hb⟩
    have ho5 : EntsAt w5 u5 B2 := by have := hro.own'.at; rw [hmap] at this; exact this
    obtain ⟨ua5, uc5, rfl, _, _⟩ := ho5.cells
    obtain ⟨W5, hW5⟩ : ∃ W, W = w5.alloc (.cells #[.slice ua5 B2.length uc5] 26) := ⟨_, rfl⟩
    have hbW : Below w5.heap.size w5 W5 := by rw [hW5]; exact below_al _ _
    have HO5 := Lib.hid (ho5.below hbW)
    have Y5 : Hid (BoxV W5 w5.heap.size 26 (.slice ua5 B2.length uc5)) := by rw [hW5]; exact BoxV.new _ _ _
    have X5 := Lib.hid ((X4.out.below hb X4.out.lt).below hbW (by have := X4.out.lt; have := hb.size; omega))
    have HE5 := Lib.hid ((HE4.out.below hb).below hbW)
    have HB5 := Lib.hid (below_step (below_step HB4.out hb) hbW)
    have HW5 := Lib.hid hW5
    obtain ⟨n2, hn2⟩ : ∃ n, n = B2.length := ⟨_, rfl⟩
    rw [← hn2] at HO5 Y5 HW5 ⊢
    have HN2 := Lib.hid hn2
    clear hb X4 HE4 HB4 hro hmap ho5 hbW hW5 CPI1 hn2
    go_wp2_with fail
    rw [← HW5.out]
    refine (CPS1.out W5).mono ?_
    rintro r w6 ⟨⟨u6, rfl, ho6⟩, hb⟩
    obtain ⟨ua6, uc6, rfl, _, _⟩ := ho6.cells
    rw [← HN2.out] at ho6 ⊢
    obtain ⟨W6, hW6⟩ : ∃ W, W = w6.alloc (.cells #[.slice ua6 n2 uc6] 26) := ⟨_, rfl⟩
    have hbW : Below w6.heap.size w6 W6 := by rw [hW6]; exact below_al _ _
    have HO6 := Lib.hid (ho6.below hbW)
    have Z6 : Hid (BoxV W6 w6.heap.size 26 (.slice ua6 n2 uc6)) := by rw [hW6]; exact BoxV.new _ _ _
    have hb6 : Below W5.heap.size W5 W6 := below_step hb hbW
    have X6 := Lib.hid (X5.out.below hb6 X5.out.lt)
    have Y6 := Lib.hid (Y5.out.below hb6 Y5.out.lt)
    have HP6 := Lib.hid (HO5.out.below hb6)
    have HE6 := Lib.hid (HE5.out.below hb6)
    have HB6 := Lib.hid (below_step HB5.out hb6)
    have HW6 := Lib.hid hW6
    have cY := Y6.out.cell
    have cZ := Z6.out.cell
    rw [HW6.out] at cY cZ
    clear hb X5 Y5 HE5 HO5 HB5 ho6 hbW hW6 hb6 CPS1 HW5
    go_wp2_with fail
    rw [← HW6.out]
    refine (CVB.out _ _ W6 HP6.out HO6.out).mono ?_
    rintro r w7 ⟨rfl, hb⟩
    have X7 := Lib.hid (X6.out.below hb X6.out.lt)
    have Y7 := Lib.hid (Y6.out.below hb Y6.out.lt)
    have HP7 := Lib.hid (HP6.out.below hb)
    have HE7 := Lib.hid (HE6.out.below hb)
    have HB7 := Lib.hid (below_step HB6.out hb)
    clear hb X6 Y6 HP6 HE6 HB6 HO6 Z6 cY cZ HW6 CVB
    go_wp2_with fail
    refine (CPB.out w7).mono ?_
    rintro r w8 ⟨⟨u8, us8, rfl, hro, hmap⟩, hb⟩
    have ho8 : EntsAt w8 u8 B1 := by have := hro.own'.at; rw [hmap] at this; exact this
    obtain ⟨ua8, uc8, rfl, _, _⟩ := ho8.cells
    obtain ⟨n8, hn8⟩ : ∃ n, n = B1.length := ⟨_, rfl⟩
    rw [← hn8] at ho8 ⊢
    obtain ⟨W8, hW8⟩ : ∃ W, W = w8.alloc (.cells #[.slice ua8 n8 uc8] 26) := ⟨_, rfl⟩
    have hbW : Below w8.heap.size w8 W8 := by rw [hW8]; exact below_al _ _
    have HQ8 := Lib.hid (ho8.below hbW)
    have K8 : Hid (BoxV W8 w8.heap.size 26 (.slice ua8 n8 uc8)) := by rw [hW8]; exact BoxV.new _ _ _
    have hb8 : Below w7.heap.size w7 W8 := below_step hb hbW
    have X8 := Lib.hid (X7.out.below hb8 X7.out.lt)
    have Y8 := Lib.hid (Y7.out.below hb8 Y7.out.lt)
    have HP8 := Lib.hid (HP7.out.below hb8)
    have HE8 := Lib.hid (HE7.out.below hb8)
    have HB8 := Lib.hid (below_step HB7.out hb8)
    have HW8 := Lib.hid hW8
    have cY := Y8.out.cell
    rw [HW8.out] at cY
    clear hb X7 Y7 HE7 HP7 HB7 ho8 hbW hW8 hb8 CPB hro hmap hn8
    go_wp2_with fail
    rw [← HW8.out]
    refine (CFB.out _ W8 HP8.out).mono ?_
    rintro r w9 ⟨rfl, hb⟩
    have X9 := Lib.hid (X8.out.below hb X8.out.lt)
    have K9 := Lib.hid (K8.out.below hb K8.out.lt)
    have HE9 := Lib.hid (HE8.out.below hb)
    have HQ9 := Lib.hid (HQ8.out.below hb)
    have HB9 := Lib.hid (below_step HB8.out hb)
    clear hb X8 K8 Y8 HE8 HQ8 HP8 HB8 cY HW8 CFB
    have cX := X9.out.cell
    have cK := K9.out.cell
    cases ok
    · cases fi
      · clear HBack HAgain
        go_wp2
        go_ret
        exact ⟨rfl, HB9.out⟩
      · obtain ⟨rfl, rfl⟩ := HAgain.out rfl
        have hne : (ag.toList == ag.toList) = true := by simp
        clear HBack HAgain
        go_wp2
        go_ret
        exact ⟨rfl, HB9.out⟩
    · obtain ⟨rfl, rfl⟩ := HBack.out rfl
      clear HBack
      cases fi
      · clear HAgain
        go_wp2_with fail
        first
          | (refine (CVE.out _ _ w9 HQ9.out HE9.out).mono ?_
             rintro r w10 ⟨rfl, hb⟩
             go_wp2
             go_ret
             exact ⟨rfl, below_step HB9.out hb⟩)
          | (trace_state; sorry)
      · obtain ⟨rfl, rfl⟩ := HAgain.out rfl
        have hne : (ag.toList == ag.toList) = true := by simp
        clear HAgain
        go_wp2_with fail
        first
          | (refine (CVE.out _ _ w9 HQ9.out HE9.out).mono ?_
             rintro r w10 ⟨rfl, hb⟩
             go_wp2
             go_ret
             exact ⟨rfl, below_step HB9.out hb⟩)
          | (trace_state; sorry)

/-! ### THE ROW's STEP -/
set_option maxRecDepth 100000 in
theorem contract (H : Type) (enc : TypeId × Value → H) (W : World) (base : Nat) (args : Array Value) (ds gs : List (DataW H)) (before : List MemPlace)
    (hval : ∀ (j : Nat) t v, Tryz.f4.params[j]? = some t → args[j]? = some v → Value.okWide Tryz.prog W .any base t v)
    (hW : DataW.Whole enc Tryz.prog Tryz.f4.params.toList Rows.fnDictionaryTextSpec.vars false W args.toList ds gs before) (hL : laidMetH Tryz.prog Rows.fnDictionaryTextRow.laid W) (hS : W.ShapedOpen Tryz.prog) :
    Calls Tryz.prog 4 args W fun e W' => ∃ v, e = .returned v ∧ Rows.fnDictionaryTextSpec.post enc Tryz.prog Tryz.f4 false true false false W args v W' := by
  have hW' := hW
  obtain ⟨p, q, hA0, hV, rfl, hfz, hnd⟩ := hW
  have hA : DataW.TrodAll enc Tryz.prog W 0 (fun _ => true) true Tryz.f4.params.toList args.toList ds p := hA0
  rw [Tryz.params4] at hA hval
  obtain ⟨v0, vs0, d0, ds0, p0, q0, hargs, rfl, rfl, h0, r0⟩ := trodAll_cons hA
  obtain ⟨rfl, rfl, rfl⟩ := trodAll_nil r0
  obtain rfl : args = #[v0] := by cases args; simp_all
  obtain ⟨rfl, rfl⟩ := trodVars_none hV
  have k0 := h0
  have lt0 : ∀ x ∈ p0, x.block < W.heap.size := by obtain ⟨m, hm⟩ := k0; exact DataW.trod_lt m _ _ _ hm
  obtain ⟨a0, n0, c0, rfl⟩ := okWide_slice Tryz.underlying22 (hval 0 22 v0 rfl rfl)
  obtain ⟨z0, w0⟩ : ∃ zs, IsRow .u8 W a0 n0 c0 zs := by
    obtain ⟨fuel, hf⟩ := h0
    rcases open_ints Tryz.underlying22 Tryz.underlying5 (by kernel_rfl) hf with ⟨hcs, _⟩ | ⟨x, l, c, zs, hcs, _, hl, hm, hz, _, hcell, hwz⟩
    · simp [Value.cells] at hcs
      obtain ⟨rfl, rfl, rfl⟩ := hcs
      exact ⟨[], .inl ⟨rfl, rfl, rfl, rfl⟩⟩
    · simp [Value.cells] at hcs
      obtain ⟨rfl, rfl, rfl⟩ := hcs
      exact ⟨zs, .inr ⟨_, rfl, hl, hm, by simpa using hz, hcell, hwz⟩⟩
  clear hA0 hval
  refine (walk a0 n0 c0 z0 W hS  w0).mono fun e W' ⟨he, bel⟩ => ?_
  subst he
  exact ⟨_, rfl, _, _, _, [], _, [], hW', trodAll_mk1 (shut_bool Tryz.underlying4 _), (trodAll_cons_mk (Below.trod laidOut (by kernel_rfl) (of_decide_eq_true (by kernel_rfl)) k0 bel lt0) trodAll_mk0), rfl, bel.frame _, fun h => by cases h⟩

theorem reads (os : Os) {H : Type} (enc : TypeId × Value → H) : ∃ places, DataW.whole enc Tryz.prog ((World.holding Tryz.prog os ⟨#[], #[], []⟩).forCall (fun _ _ => 0) ⟨#[], #[.slice none 0 0], []⟩).memory Tryz.f4.params.toList Rows.fnDictionaryTextSpec.vars false (#[.slice none 0 0] : Array Value).toList 8 = some ([.nil], [], places) :=
  ⟨[], by kernel_rfl⟩

set_option maxRecDepth 100000 in
theorem lifted (os : Os) (started : os.Started) (H : Type) (enc : TypeId × Value → H) (F : Stop.Interp) :
    ReturnsInHanded {} Tryz.checked os 4 .any ((OpenSpec.ofChange Rows.fnDictionaryTextSpec).preRow enc Tryz.prog Tryz.f4 Rows.fnDictionaryTextRow.domain false Rows.fnDictionaryTextRow.laid) (((OpenSpec.ofChange Rows.fnDictionaryTextSpec).at F).post enc Tryz.prog Tryz.f4 false true false false) := by
  obtain ⟨places, hx⟩ := reads os enc
  refine returnsInHanded_of_row (C := Tryz.checked) (s := OpenSpec.ofChange Rows.fnDictionaryTextSpec) own started (by kernel_rfl) Tryz.func4
    (witness_row_atRef (enc := enc) (C := Tryz.checked) false (World.holding Tryz.prog os ⟨#[], #[], []⟩) #[.slice none 0 0] rfl (by kernel_rfl) (by kernel_rfl) (by kernel_rfl)
      (OpenSpec.preRow_of_cond 8 hx (by kernel_rfl) (fun k hk => by cases hk) (by kernel_rfl) ⟨[], rfl, List.nodup_nil, fun b off h => by cases h⟩)) ?_
  intro W base args ds gs before hval hW _ _ _ hL hS _
  exact contract H enc W base args ds gs before hval hW hL hS

theorem said : Rows.FnDictionaryTextSaid :=
  OpenClaim.holds_of_cond 4 Tryz.f4 rfl rfl rfl rfl rfl rfl rfl ⟨rfl, rfl, rfl, rfl, rfl⟩ rfl rfl rfl rfl rfl (by kernel_rfl) Tryz.func4 (by kernel_rfl)
    (of_decide_eq_true (by kernel_rfl)) (by unfold Func.isWrapper; first | (rw [if_pos (by decide +kernel)]; kernel_rfl) | (rw [if_neg (by decide +kernel)]; exact ⟨rfl, rfl⟩))
    (fun os started H enc _ F => by rw [OpenClaim.pre_eq_preRow]; exact lifted os started H enc F)

theorem proved : Rows.FnDictionaryTextSaid := said
#print axioms proved
end Go.Proofs.YtmpcdhoigepdpaaGreat.fnDictionaryText
