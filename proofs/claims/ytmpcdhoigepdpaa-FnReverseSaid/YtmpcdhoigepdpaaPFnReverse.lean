/-
  laws.FnReverse returns true whatever the code: ReverseLookup returns exactly the outlines whose translation is the given string, and no outline is longer than LongestOutline, at all that the code draws. Conditions: none but the row's own.
-/
import Derived.Test.YtmpcdhoigepdpaaRows
import Derived.WalkKit
import Derived.ProofKit
import Derived.OpenShut
import Derived.ShutString
import Derived.ChangeOld
import Derived.Below
import Derived.SliceStrings
import Derived.JoinedCond
import Derived.Deep.DeepHandedRow
import Derived.Deep.DeepWitnessRowRef
import Derived.Lib.Hide
import Derived.Test.YtmpcdhoigepdpaaDrawR
import Derived.Test.YtmpcdhoigepdpaaRev
import Derived.Test.YtmpcdhoigepdpaaBig
namespace Go.Proofs.Ytmpcdhoigepdpaa.fnReverse
open Go.ChangeShapes Go.WideShapes Go.ChangeAt Go.RowKit
open Go.ChangeMaps (open_string shut_string)
set_option linter.unusedVariables false
set_option maxRecDepth 100000

theorem own : ownKnob Try.prog.godebug = none := by kernel_rfl
theorem laidOut : laidOutB Try.prog = true := by kernel_rfl

/-- A slice of integers that came in. -/
def IsRow (k : IntKind) (w : World) (a : Option Addr) (len cap : Nat) (zs : List Int) : Prop :=
  (a = none ∧ len = 0 ∧ cap = 0 ∧ zs = []) ∨
  ∃ x, a = some x ∧ len ≤ cap ∧ cap ≤ maxLen ∧ zs.length = cap ∧ (∀ i, i < zs.length → w.cell? (x.add i) = some (.int k (zs.getD i 0))) ∧ ∀ n ∈ zs, (Lit.int k n).wf = true

theorem code_of {w : World} {a : Option Addr} {n c : Nat} {z : List Int} (h : IsRow .u8 w a n c z) (hn : n ≤ 1000000) : CodeAt w a n := by
  refine ⟨hn, fun h0 => ?_⟩
  rcases h with ⟨rfl, rfl, rfl, rfl⟩ | ⟨x, rfl, hl, hm, hz, hcell, hwz⟩
  · omega
  · obtain ⟨b, o, spot⟩ := x
    have h1 := hcell 0 (by omega)
    have hspot : spot = none := by simpa [Addr.add] using World.cell?_spot h1
    subst hspot
    refine ⟨b, o, rfl, ?_, fun i hi => ?_⟩
    · have : (w.cell? ⟨b, o, none⟩).isSome := by have := h1; simp [Addr.add] at this; rw [this]; rfl
      rcases Nat.lt_or_ge b w.heap.size with h' | h'
      · exact h'
      · simp [World.cell?, Array.getElem?_eq_none h'] at this
    · have h2 := hcell i (by omega)
      have h3 := bounds_u8 (hwz (z.getD i 0) (by rw [List.getD_eq_getElem?_getD, List.getElem?_eq_getElem (by omega)]; exact List.getElem_mem _))
      refine ⟨z.getD i 0, h3.1, h3.2, ?_⟩
      by_cases hi0 : i = 0
      · subst hi0; simpa [Addr.add] using h2
      · simpa [Addr.add, hi0] using h2
theorem row_len {w : World} {a : Option Addr} {n c : Nat} {z : List Int} (h : IsRow .u8 w a n c z) : n ≤ maxLen := by
  rcases h with ⟨_, rfl, _, _⟩ | ⟨x, _, hl, hm, _⟩
  · exact Nat.zero_le _
  · omega
/-- What was found is found again. -/
theorem rev_look {t : ByteArray} {es : List Ent} {xs : List Int} (h : xs ∈ revO t es) : lupO xs es = some t := by
  cases hd : okD es
  · rw [revO_no hd] at h; simp at h
  · rw [revO_yes hd] at h
    rw [lupO_yes hd]
    unfold revL at h
    obtain ⟨e, he, rfl⟩ := List.mem_map.1 h
    obtain ⟨hm, ht⟩ := List.mem_filter.1 he
    have hi := (okD_parts hd).2.2
    rw [Pl.look_mem hi hm]
    have h2 : e.2.toList = t.toList := by simpa using ht
    rw [Lib.toList_data, Lib.toList_data] at h2
    congr 1
    exact ByteArray.ext (Array.toList_inj.1 h2)
/-- The length that LongestOutline answers. -/
def lngN (es : List Ent) : Nat := if okD es = true then lng es else 0
theorem lngE_N (es : List Ent) : lngE es = .returned (.tuple #[.int .i64 (lngN es : Int), .bool (okD es)]) := by
  unfold lngE lngN
  cases okD es <;> rfl
theorem lngN_ge {es : List Ent} (h : okD es = true) : ∀ e ∈ es, e.1.length ≤ lngN es := by
  unfold lngN
  rw [if_pos h]
  exact lng_ge es
theorem lngN_le (es : List Ent) : lngN es ≤ 6 := by
  unfold lngN
  split
  · rename_i h
    exact lng_le es 6 fun e he => (okO_parts (okE_O ((okD_parts h).2.1 e he)).1).2.1
  · exact Nat.zero_le _
/-! ### THE WALK: the Go text returns true, and writes nothing that was there. -/
set_option maxRecDepth 100000 in
set_option maxHeartbeats 8000000 in
theorem walk (a0 : Option Addr) (n0 c0 : Nat) (z0 : List Int) (w : World) (hS : w.ShapedOpen Try.prog)  (w0 : IsRow .u8 w a0 n0 c0 z0) :
    Calls Try.prog 3 #[.slice a0 n0 c0] w fun e w' => e = .returned (.bool true) ∧ Below w.heap.size w w' := by
  have hnm := row_len w0
  by_cases hbig : 65536 < n0
  · have C := Lib.hid (big_yes a0 n0 c0 w hbig hnm)
    clear w0 hS hnm
    go_enter Try.func3, Try.ntmps3
    go_wp2_with fail
    refine C.out.mono ?_
    rintro e w1 ⟨rfl, rfl⟩
    go_wp2
    go_ret
    exact ⟨rfl, Below.refl _ _⟩
  · have C := Lib.hid (big_no a0 n0 c0 w (by omega))
    have HC0 := Lib.hid (code_of w0 (by omega))
    have cdr := fun w h => drawReverse_any a0 n0 c0 w h
    have cri := fun v es t w h hn hx => Rev_any v es t w h hn hx
    have crs := fun v es t w h hn hx => specRev_any v es t w h hn hx
    have cli := fun v es w h hn hx => LongestD_any v es w h hn hx
    have cls := fun v es w h hn hx => specLongestOutline_any v es w h hn hx
    have clk := fun v es u ys w h hu hn hx hy => LookupD_any v es u ys w h hu hn hx hy
    simp only [lngE_N] at cli cls
    unfold DTx at cdr
    unfold OutR at cri
    unfold dV at cdr cri crs cli cls clk
    have CDR := Lib.hid cdr
    have CRI := Lib.hid cri
    have CRS := Lib.hid crs
    have CLI := Lib.hid cli
    have CLS := Lib.hid cls
    have CLK := Lib.hid clk
    have CV := Lib.hid (fun v u xs w hv hu hn => vI_same v u xs w hv hu hn)
    clear w0 hS hnm hbig cdr cri crs cli cls clk
    go_enter Try.func3, Try.ntmps3
    go_wp2_with fail
    refine C.out.mono ?_
    rintro e w0 ⟨rfl, rfl⟩
    go_wp2_with fail
    refine (CDR.out _ HC0.out).mono ?_
    rintro e w1 ⟨⟨v, us, t, rfl, hr, hl, hx, ht⟩, hb1⟩
    have hat := hr.at.at
    have hlen : (us.map (·.2)).length ≤ 60 := by rw [List.length_map]; exact hl
    have hsm : ∀ e ∈ us.map (·.2), e.1.length ≤ 8 ∧ e.2.size ≤ 60 := by
      intro e he
      obtain ⟨p, hp, rfl⟩ := List.mem_map.1 he
      exact hx p hp
    obtain ⟨es, hes⟩ : ∃ es, es = us.map (·.2) := ⟨_, rfl⟩
    rw [← hes] at hat hlen hsm
    clear hr hl hx hes us
    have hn2 : es.length ≤ 2097152 := by omega
    have hx2 : ∀ e ∈ es, entOk e := fun e he => by obtain ⟨p, q⟩ := hsm e he; exact ⟨by omega, by omega⟩
    obtain ⟨va, vc, rfl, hvc, hC⟩ := hat.cells
    have CRI1 := Lib.hid (fun w h => CRI.out (.slice va es.length vc) es t w h hn2 hx2)
    have CRS1 := Lib.hid (fun w h => CRS.out (.slice va es.length vc) es t w h hn2 hx2)
    have CLI1 := Lib.hid (fun w h => CLI.out (.slice va es.length vc) es w h hn2 hx2)
    have CLS1 := Lib.hid (fun w h => CLS.out (.slice va es.length vc) es w h hn2 hx2)
    have CLK1 := Lib.hid (fun u ys w h hu hy => CLK.out (.slice va es.length vc) es u ys w h hu hn2 hx2 hy)
    have HRL : Hid (∀ xs ∈ revO t es, lkE (lupO xs es) = .returned (.tuple #[.string t, .bool true])) := fun xs hxs => by rw [rev_look hxs]; rfl
    have hLl := revO_len t es
    have HLs := Lib.hid (revO_small t es)
    have HGe := Lib.hid (fun h => lngN_ge (es := es) h)
    have hNl := lngN_le es
    have HCnt : Hid (okD es = true → revO t es = revL t (es.take es.length)) := fun h => by rw [revO_yes h, List.take_length]
    obtain ⟨L, hL⟩ : ∃ L, L = revO t es := ⟨_, rfl⟩
    obtain ⟨b, hbb⟩ : ∃ b, b = okD es := ⟨_, rfl⟩
    obtain ⟨N, hN⟩ : ∃ N, N = lngN es := ⟨_, rfl⟩
    rw [← hL] at CRI1 CRS1 HRL hLl HLs HCnt
    rw [← hbb] at CRI1 CRS1 CLI1 CLS1 HGe HCnt
    rw [← hN] at CLI1 CLS1 HGe hNl
    obtain ⟨m, hm⟩ : ∃ m, m = es.length := ⟨_, rfl⟩
    rw [← hm] at CRI1 CRS1 CLI1 CLS1 CLK1 HCnt hvc hlen ⊢
    obtain ⟨W, hW⟩ : ∃ W, W = w1.alloc (.cells #[.slice va m vc] 26) := ⟨_, rfl⟩
    have HE : Hid (EntsAt W (.slice va m vc) es) := by rw [hW, hm]; exact hat.below (below_al _ _)
    have X1 : Hid (BoxV W w1.heap.size 26 (.slice va m vc)) := by rw [hW]; exact BoxV.new _ _ _
    have HB1 : Hid (Below w.heap.size w W) := by rw [hW]; exact below_step hb1 (below_al _ _)
    have HW := Lib.hid hW
    have HM := Lib.hid hm
    obtain ⟨D, hD⟩ : ∃ D, D = w1.heap.size := ⟨_, rfl⟩
    have HDD := Lib.hid hD
    rw [← hD] at X1
    have cX := X1.out.cell
    rw [HW.out, HDD.out] at cX
    clear hat hL hbb hN hm hW hb1 hC hn2 hx2 CRI CRS CLI CLS CLK C HC0 CDR hD hsm
    go_wp2_with fail
    rw [← HW.out, ← HDD.out]
    refine (CRI1.out W HE.out).mono ?_
    rintro r w2 ⟨⟨u2, us2, rfl, hro, hmap⟩, hb⟩
    have ho2 : OutsAt w2 u2 L := by have := hro.at; rw [hmap] at this; exact this
    have HO2 := Lib.hid ho2
    obtain ⟨ua2, uc2, rfl, _, _⟩ := ho2.cells
    have X2 := Lib.hid (X1.out.below hb X1.out.lt)
    have HE2 := Lib.hid (HE.out.below hb)
    have HB2 := Lib.hid (below_step HB1.out hb)
    clear hb hro hmap ho2 cX X1 HE HB1 HW HDD
    have cX := X2.out.cell
    go_wp2_with fail
    refine (CRS1.out w2 HE2.out).mono ?_
    rintro r w3 ⟨⟨u3, rfl, ho3⟩, hb⟩
    have HO3 := Lib.hid ho3
    obtain ⟨ua3, uc3, rfl, _, _⟩ := ho3.cells
    have HO2' := Lib.hid (HO2.out.below hb)
    have X3 := Lib.hid (X2.out.below hb X2.out.lt)
    have HE3 := Lib.hid (HE2.out.below hb)
    have HB3 := Lib.hid (below_step HB2.out hb)
    clear hb ho3 cX X2 HE2 HB2 HO2
    have cX := X3.out.cell
    go_wp2_with fail
    refine (CLI1.out w3 HE3.out).mono ?_
    rintro r w4 ⟨rfl, hb⟩
    have X4 := Lib.hid (X3.out.below hb X3.out.lt)
    have HE4 := Lib.hid (HE3.out.below hb)
    have HB4 := Lib.hid (below_step HB3.out hb)
    have HP4 := Lib.hid (HO2'.out.below hb)
    have HQ4 := Lib.hid (HO3.out.below hb)
    clear hb cX X3 HE3 HB3 HO2' HO3
    have cX := X4.out.cell
    go_wp2_with fail
    refine (CLS1.out w4 HE4.out).mono ?_
    rintro r w5 ⟨rfl, hb⟩
    have X5 := Lib.hid (X4.out.below hb X4.out.lt)
    have HE5 := Lib.hid (HE4.out.below hb)
    have HB5 := Lib.hid (below_step HB4.out hb)
    have HP5 := Lib.hid (HP4.out.below hb)
    have HQ5 := Lib.hid (HQ4.out.below hb)
    clear hb cX X4 HE4 HB4 HP4 HQ4 CRI1 CRS1 CLI1 CLS1
    obtain ⟨n, hn⟩ : ∃ n, n = L.length := ⟨_, rfl⟩
    rw [← hn] at hLl ⊢
    have HN := Lib.hid hn
    obtain ⟨pa, pc, hpf, _, hPC⟩ := HP5.out.cells
    obtain ⟨qa, qc, hqf, _, hQC⟩ := HQ5.out.cells
    rw [← hn] at hpf hqf
    injection hpf with e1 e2 e3
    injection hqf with e4 e5 e6
    subst e1 e3 e4 e6
    have HPC := Lib.hid hPC
    have HQC := Lib.hid hQC
    clear hn hPC hQC e2 e5
    go_wp2_with fail
    go_loopw [13] (fun i wr => ∃ k : Nat, i = .int .i64 k ∧ k ≤ n ∧ Hid (Below w5.heap.size w5 wr)) (fun i _ => n - (intOf i).toNat)
    case atStart => exact ⟨0, rfl, Nat.zero_le _, Lib.hid (Below.refl _ _)⟩
    case round =>
      obtain ⟨k, rfl, hk, HBr⟩ := hrel
      have hXr := X5.out.below HBr.out X5.out.lt
      have cX := hXr.cell
      by_cases hlt : k < n
      · obtain ⟨o, ho⟩ : ∃ o, L[k]? = some o := ⟨_, List.getElem?_eq_getElem (by rw [← HN.out]; exact hlt)⟩
        have hmem := List.mem_of_getElem? ho
        obtain ⟨bk, of, x, rfl, hbk, g0, gx⟩ := HPC.out wr HBr.out k o ho
        obtain ⟨bk', of', y, rfl, hbk', g0', gy⟩ := HQC.out wr HBr.out k o ho
        have hol := HLs.out o hmem
        have ck := fun w' hb => CLK1.out x o w' ((HE5.out.below HBr.out).below (w' := w') hb) (gx.below hb) (by omega)
        rw [HRL.out o hmem] at ck
        have cv := fun w' hb => CV.out x y o w' (gx.below (w' := w') hb) (gy.below hb) (by omega)
        obtain ⟨xa, xc, rfl, _, _⟩ := gx.cells
        obtain ⟨ya, yc, rfl, _, _⟩ := gy.cells
        have C1 : Hid (∀ d os, Calls Try.prog 14 #[.agg #[.slice va m vc], .slice xa o.length xc] (Go.Sort.grow (redrawn wr d) os) fun r w'' => r = .returned (.tuple #[.string t, .bool true]) ∧ ∃ p : Regrown, w'' = Go.Sort.grow (redrawn wr p.d) p.os) :=
          fun d os => Calls.regrown_of (ck _ (below_regrown wr d os))
        have C2 := Lib.hid cv
        obtain ⟨ol, hole⟩ : ∃ ol, ol = o.length := ⟨_, rfl⟩
        rw [← hole] at C1 C2 g0 g0'
        have kX := cell_regrown cX
        have k0 := cell_regrown g0
        clear ho hmem gx gy ck cv hole hol
        go_wp2_with fail
        refine wp_region_quiet_below (by kernel_rfl) (by kernel_rfl) ?_
        repeat (go_big_quiet_step (exact C1.out _ _))
        refine wpQuiet_nil ?_
        rintro _ ⟨⟨dq, osq⟩, rfl⟩
        obtain ⟨W6, hW6⟩ : ∃ W, W = Go.Sort.grow (redrawn wr dq) osq := ⟨_, rfl⟩
        have HB6 : Hid (Below wr.heap.size wr W6) := by rw [hW6]; exact below_regrown wr dq osq
        have hw5r := HBr.out.size
        have g1 := (HB6.out.cell (p := ⟨bk, of + k, none⟩) (by show bk < wr.heap.size; omega)).trans g0
        have g1' := (HB6.out.cell (p := ⟨bk', of' + k, none⟩) (by show bk' < wr.heap.size; omega)).trans g0'
        rw [← hW6]
        have hne : (t.toList == t.toList) = true := by simp
        have C3 : Hid (∀ d os, Calls Try.prog 15 #[.slice xa ol xc, .slice ya ol yc] (Go.Sort.grow (redrawn W6 d) os) fun r w'' => r = .returned (.bool true) ∧ ∃ p : Regrown, w'' = Go.Sort.grow (redrawn W6 p.d) p.os) :=
          fun d os => Calls.regrown_of (C2.out _ (below_step HB6.out (below_regrown W6 d os)))
        have k1 := cell_regrown g1
        have k1' := cell_regrown g1'
        clear hW6 kX k0 g0 g0' cX hXr C2 C1
        go_wp2_with fail
        refine wp_region_quiet_below (by kernel_rfl) (by kernel_rfl) ?_
        repeat (go_big_quiet_step (exact C3.out _ _))
        refine wpQuiet_nil ?_
        rintro _ ⟨⟨dq, osq⟩, rfl⟩
        have HB7 : Hid (Below w5.heap.size w5 (Go.Sort.grow (redrawn W6 dq) osq)) := below_step HBr.out (below_step HB6.out (below_regrown W6 dq osq))
        go_wp2
        go_roundw
        case rel => exact ⟨k + 1, by go_num, by omega, HB7⟩
        case measure => simp [intOf]; omega
      · obtain rfl : k = n := by omega
        have HX : Hid (BoxV wr D 26 (.slice va m vc)) := hXr
        have HE6 := Lib.hid (HE5.out.below HBr.out)
        obtain ⟨ea, ec, hef, _, hEC⟩ := HE6.out.cells
        rw [← HM.out] at hef
        injection hef with e1 e2 e3
        subst e1 e3
        have HEC := Lib.hid hEC
        clear hXr cX hEC e2
        cases b
        · by_cases hm0 : 0 < m
          all_goals have cX := HX.out.cell
          all_goals go_wp2_with fail
          all_goals refine wp_loop_rounds 1 ?_
          all_goals rw [rounds_succ]
          all_goals go_wp2
          all_goals go_ret
          all_goals exact ⟨rfl, below_step HB5.out HBr.out⟩
        · have HGe1 := Lib.hid (HGe.out rfl)
          have HC1 := Lib.hid (HCnt.out rfl)
          clear HGe HCnt
          go_wp2_with fail
          go_loopw [16, 17] (fun c i wq => ∃ k q : Nat, i = .int .i64 k ∧ c = .int .i64 q ∧ k ≤ m ∧ q ≤ k ∧ Hid (q = (revL t (es.take k)).length) ∧ Hid (Below wr.heap.size wr wq)) (fun _ i _ => m - (intOf i).toNat)
          case atStart => exact ⟨0, 0, rfl, rfl, Nat.zero_le _, Nat.le_refl _, Lib.hid rfl, Lib.hid (Below.refl _ _)⟩
          case round =>
            obtain ⟨j, q, rfl, rfl, hj, hqj, HQ, HBq⟩ := hrel
            rename_i wq
            have cX := (HX.out.below HBq.out HX.out.lt).cell
            by_cases hjm : j < m
            · obtain ⟨e, he⟩ : ∃ e, es[j]? = some e := ⟨_, List.getElem?_eq_getElem (by rw [← HM.out]; exact hjm)⟩
              obtain ⟨bk2, o2, u, rfl, hbk2, g0, g1, gi⟩ := HEC.out _ HBq.out j e he
              have hge := HGe1.out e (List.mem_of_getElem? he)
              have HY : Hid ((e.2.toList == t.toList) = true → (revL t (es.take (j + 1))).length = (revL t (es.take j)).length + 1) := fun h => by rw [revL_yes he h, List.length_append]; rfl
              have HZ : Hid ((e.2.toList == t.toList) = false → (revL t (es.take (j + 1))).length = (revL t (es.take j)).length) := fun h => by rw [revL_no he h]
              obtain ⟨xs, s⟩ := e
              simp only at g0 g1 gi hge HY HZ
              obtain ⟨xa, xc, rfl, _, _⟩ := gi.cells
              obtain ⟨xl, hxl⟩ : ∃ xl, xl = xs.length := ⟨_, rfl⟩
              rw [← hxl] at g0 hge
              have hge' : ¬ (N : Int) < (xl : Int) := by omega
              clear he gi hxl
              by_cases hst : (s.toList == t.toList) = true
              · have HQ2 : Hid (q + 1 = (revL t (es.take (j + 1))).length) := by show _ = _; rw [HY.out hst, HQ.out]
                clear HY HZ HQ
                go_wp2
                go_roundw
                case rel => exact ⟨j + 1, q + 1, by go_num, by go_num, by omega, by omega, HQ2, HBq⟩
                case measure => simp [intOf]; omega
              · rw [Bool.not_eq_true] at hst
                have HQ2 : Hid (q = (revL t (es.take (j + 1))).length) := by show _ = _; rw [HZ.out hst, HQ.out]
                clear HY HZ HQ
                go_wp2
                go_roundw
                case rel => exact ⟨j + 1, q, by go_num, rfl, by omega, by omega, HQ2, HBq⟩
                case measure => simp [intOf]; omega
            · obtain rfl : j = m := by omega
              have HF : Hid (q = k) := by show q = k; rw [HN.out, HC1.out]; exact HQ.out
              obtain rfl : q = k := HF.out
              clear HQ HF
              go_wp2
              go_ret
              exact ⟨rfl, below_step HB5.out (below_step HBr.out HBq.out)⟩

/-! ### THE ROW's STEP -/
set_option maxRecDepth 100000 in
theorem contract (H : Type) (enc : TypeId × Value → H) (W : World) (base : Nat) (args : Array Value) (ds gs : List (DataW H)) (before : List MemPlace)
    (hval : ∀ (j : Nat) t v, Try.f3.params[j]? = some t → args[j]? = some v → Value.okWide Try.prog W .any base t v)
    (hW : DataW.Whole enc Try.prog Try.f3.params.toList Rows.fnReverseSpec.vars false W args.toList ds gs before) (hL : laidMetH Try.prog Rows.fnReverseRow.laid W) (hS : W.ShapedOpen Try.prog) :
    Calls Try.prog 3 args W fun e W' => ∃ v, e = .returned v ∧ Rows.fnReverseSpec.post enc Try.prog Try.f3 false true false false W args v W' := by
  have hW' := hW
  obtain ⟨p, q, hA0, hV, rfl, hfz, hnd⟩ := hW
  have hA : DataW.TrodAll enc Try.prog W 0 (fun _ => true) true Try.f3.params.toList args.toList ds p := hA0
  rw [Try.params3] at hA hval
  obtain ⟨v0, vs0, d0, ds0, p0, q0, hargs, rfl, rfl, h0, r0⟩ := trodAll_cons hA
  obtain ⟨rfl, rfl, rfl⟩ := trodAll_nil r0
  obtain rfl : args = #[v0] := by cases args; simp_all
  obtain ⟨rfl, rfl⟩ := trodVars_none hV
  have k0 := h0
  have lt0 : ∀ x ∈ p0, x.block < W.heap.size := by obtain ⟨m, hm⟩ := k0; exact DataW.trod_lt m _ _ _ hm
  obtain ⟨a0, n0, c0, rfl⟩ := okWide_slice Try.underlying22 (hval 0 22 v0 rfl rfl)
  obtain ⟨z0, w0⟩ : ∃ zs, IsRow .u8 W a0 n0 c0 zs := by
    obtain ⟨fuel, hf⟩ := h0
    rcases open_ints Try.underlying22 Try.underlying5 (by kernel_rfl) hf with ⟨hcs, _⟩ | ⟨x, l, c, zs, hcs, _, hl, hm, hz, _, hcell, hwz⟩
    · simp [Value.cells] at hcs
      obtain ⟨rfl, rfl, rfl⟩ := hcs
      exact ⟨[], .inl ⟨rfl, rfl, rfl, rfl⟩⟩
    · simp [Value.cells] at hcs
      obtain ⟨rfl, rfl, rfl⟩ := hcs
      exact ⟨zs, .inr ⟨_, rfl, hl, hm, by simpa using hz, hcell, hwz⟩⟩
  clear hA0 hval
  refine (walk a0 n0 c0 z0 W hS  w0).mono fun e W' ⟨he, bel⟩ => ?_
  subst he
  exact ⟨_, rfl, _, _, _, [], _, [], hW', trodAll_mk1 (shut_bool Try.underlying4 _), (trodAll_cons_mk (Below.trod laidOut (by kernel_rfl) (of_decide_eq_true (by kernel_rfl)) k0 bel lt0) trodAll_mk0), rfl, bel.frame _, fun h => by cases h⟩

theorem reads (os : Os) {H : Type} (enc : TypeId × Value → H) : ∃ places, DataW.whole enc Try.prog ((World.holding Try.prog os ⟨#[], #[], []⟩).forCall (fun _ _ => 0) ⟨#[], #[.slice none 0 0], []⟩).memory Try.f3.params.toList Rows.fnReverseSpec.vars false (#[.slice none 0 0] : Array Value).toList 8 = some ([.nil], [], places) :=
  ⟨[], by kernel_rfl⟩

set_option maxRecDepth 100000 in
theorem lifted (os : Os) (started : os.Started) (H : Type) (enc : TypeId × Value → H) (F : Stop.Interp) :
    ReturnsInHanded {} Try.checked os 3 .any ((OpenSpec.ofChange Rows.fnReverseSpec).preRow enc Try.prog Try.f3 Rows.fnReverseRow.domain false Rows.fnReverseRow.laid) (((OpenSpec.ofChange Rows.fnReverseSpec).at F).post enc Try.prog Try.f3 false true false false) := by
  obtain ⟨places, hx⟩ := reads os enc
  refine returnsInHanded_of_row (C := Try.checked) (s := OpenSpec.ofChange Rows.fnReverseSpec) own started (by kernel_rfl) Try.func3
    (witness_row_atRef (enc := enc) (C := Try.checked) false (World.holding Try.prog os ⟨#[], #[], []⟩) #[.slice none 0 0] rfl (by kernel_rfl) (by kernel_rfl) (by kernel_rfl)
      (OpenSpec.preRow_of_cond 8 hx (by kernel_rfl) (fun k hk => by cases hk) (by kernel_rfl) ⟨[], rfl, List.nodup_nil, fun b off h => by cases h⟩)) ?_
  intro W base args ds gs before hval hW _ _ _ hL hS _
  exact contract H enc W base args ds gs before hval hW hL hS

theorem said : Rows.FnReverseSaid :=
  OpenClaim.holds_of_cond 3 Try.f3 rfl rfl rfl rfl rfl rfl rfl ⟨rfl, rfl, rfl, rfl, rfl⟩ rfl rfl rfl rfl rfl (by kernel_rfl) Try.func3 (by kernel_rfl)
    (of_decide_eq_true (by kernel_rfl)) (by unfold Func.isWrapper; first | (rw [if_pos (by decide +kernel)]; kernel_rfl) | (rw [if_neg (by decide +kernel)]; exact ⟨rfl, rfl⟩))
    (fun os started H enc _ F => by rw [OpenClaim.pre_eq_preRow]; exact lifted os started H enc F)

theorem proved : Rows.FnReverseSaid := said
#print axioms proved
end Go.Proofs.Ytmpcdhoigepdpaa.fnReverse
