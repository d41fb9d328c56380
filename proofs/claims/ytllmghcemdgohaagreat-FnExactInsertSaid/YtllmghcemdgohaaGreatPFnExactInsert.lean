/-
  laws.FnExactInsert returns true whatever the dictionary and the entry: impl.Insert answers as the specification, leaves its arguments, and its answer owns its memory. Conditions: none but the row's own.
-/
import Derived.Test.YtllmghcemdgohaaGreatRows
import Derived.WalkKit
import Derived.ProofKit
import Derived.OpenShut
import Derived.ShutString
import Derived.ChangeOld
import Derived.Below
import Derived.SliceStrings
import Derived.JoinedCond
import Derived.Deep.DeepHandedRow
import Derived.Deep.DeepWitnessRowRef
import Derived.Lib.Hide
import Derived.Test.YtllmghcemdgohaaGreatSpecI
import Derived.Test.YtllmghcemdgohaaGreatPD
import Derived.Deep.Cut
namespace Go.Proofs.YtllmghcemdgohaaGreat.fnExactInsert
open Go.ChangeShapes Go.WideShapes Go.ChangeAt Go.RowKit
open Go.ChangeMaps (open_string shut_string)
set_option linter.unusedVariables false
set_option maxRecDepth 100000

theorem own : ownKnob Tryz.prog.godebug = none := by kernel_rfl
theorem laidOut : laidOutB Tryz.prog = true := by kernel_rfl

theorem insR_small (e : Ent) (es : List Ent) : (insR e es).length ≤ 40 ∧ ∀ x ∈ insR e es, okE x = true := by
  unfold insR
  cases h : insB e es
  · rw [if_neg (by decide)]; exact ⟨Nat.zero_le _, fun e he => by cases he⟩
  · rw [if_pos rfl]
    unfold insB at h
    rw [Bool.and_eq_true, Bool.and_eq_true, decide_eq_true_eq] at h
    obtain ⟨h1, h2, h3⟩ := h
    refine ⟨h3, fun x hx => ?_⟩
    rcases Pl.put_mem hx with rfl | hx
    · exact h2
    · exact (okD_parts h1).2.1 x hx
set_option maxHeartbeats 1000000 in
theorem markEn_any (base m0 : Nat) (v : Value) (n : Nat) (f : Nat → Int) (t : ByteArray) (w : World) (h : OwnInts w base v n f) (hb0 : base ≤ w.heap.size) (hn : n ≤ 100000000) (hm : m0 ≤ 100000000000) :
    Calls Tryz.prog 35 #[.agg #[v, .string t], .int .i64 (m0 : Int)] w fun r w' => r = .returned (.int .i64 ((m0 + n : Nat) : Int)) ∧ Touch (fun b => 0 < n ∧ v.ownBlock = some b) w w' ∧ Below base w w' := by
  have C := Lib.hid (fun w' hb => markI_t base m0 v n f w' (h.below (w' := w') hb) hn hm)
  obtain ⟨a, c, rfl⟩ := h.form
  clear h
  go_enter Tryz.func35, Tryz.ntmps35
  go_wp2_with fail
  refine (C.out _ (below_al _ _)).mono ?_
  rintro r w1 ⟨rfl, _, hT, hb⟩
  have HT : Hid (Touch (fun b => 0 < n ∧ (Value.slice a n c).ownBlock = some b) w w1) := ((Touch.refl _ w).alloc _).trans hT
  have HB : Hid (Below base w w1) := ((below_al w _).mono hb0).trans hb
  clear hT hb C
  go_wp2
  go_ret
  exact ⟨rfl, HT.out, HB.out⟩
/-! ### THE WALK: the Go text returns true, and writes nothing that was there. -/
set_option maxRecDepth 100000 in
set_option maxHeartbeats 8000000 in
theorem walk (u0 : Value) (d0 : List Ent) (u1 : Value) (e1 : Ent) (w : World) (hS : w.ShapedOpen Tryz.prog)  (w0 : EntsIn w u0 d0) (w1 : IntsAt w u1 e1.1 ∧ entFine e1) :
    Calls Tryz.prog 5 #[dV u0, enV u1 e1.2] w fun e w' => e = .returned (.bool true) ∧ Below w.heap.size w w' := by
  obtain ⟨hat, hlen, hfine⟩ := w0
  obtain ⟨hu1, hf1⟩ := w1
  clear hS
  have CZ := Lib.hid (fun w' hb => szDw_any u0 d0 w' ⟨hat.below (w' := w') hb, hlen, hfine⟩)
  have CZE := Lib.hid (fun left w' hb hl hl2 => szE_any u1 e1 left w' (hu1.below (w' := w') hb) hl hl2 hf1)
  have CT := Lib.hid (fun hn hx w' hb => toD_any u0 d0 w' (hat.below (w' := w') hb) hn hx)
  have CE := Lib.hid (fun u v w h h' hn hx => eqD_same u v d0 w h h' hn hx)
  have cs := fun he v u w h h' hn hx => specInsert_any v d0 u e1 w h h' hn hx he
  have ci := fun he v u w h h' hn hx => Insert_any v d0 u e1 w h h' hn hx he
  have CY := Lib.hid (fun he w' hb => toE_any u1 e1 w' (hu1.below (w' := w') hb) he)
  have CYE := Lib.hid (fun u v w h h' he => eqE_same u v e1 w h h' he)
  have CMI := Lib.hid (fun base m0 v f w h hb hn hm => markEn_any base m0 v e1.1.length f e1.2 w h hb hn hm)
  obtain ⟨hrl, hre⟩ := insR_small e1 d0
  obtain ⟨rs, hrs⟩ : ∃ rs, rs = insR e1 d0 := ⟨_, rfl⟩
  obtain ⟨b, hb⟩ : ∃ b, b = insB e1 d0 := ⟨_, rfl⟩
  rw [← hrs, ← hb] at cs ci
  rw [← hrs] at hrl hre
  have hsm : ∀ e ∈ rs, e.1.length ≤ 6 := fun e he => (okE_size (hre e he)).2.1
  have hend : endE 1 rs ≤ 1100000 := by have := endE_le 1 rs 6 hsm; omega
  have hok : ∀ e ∈ rs, entOk e := fun e he => by have := okE_size (hre e he); exact ⟨by omega, by omega⟩
  have hsm2 : ∀ e ∈ rs, e.1.length ≤ 1100000 := fun e he => by have := hsm e he; omega
  unfold OutEn at cs
  unfold OutD at ci
  have CS := Lib.hid cs
  have CI := Lib.hid ci
  have CQ := Lib.hid (fun v u w hv hu => eqD_same v u rs w hv hu (by omega) hok)
  have CM := Lib.hid (fun base S v w h hS hb => markD_any base S v rs w h hend (by omega) hS hb hsm2)
  have CH := Lib.hid (fun base S v w h => heldD_any base S v rs w h hend (by omega) hsm2)
  have CMD := Lib.hid (fun base S v w h hm hn hS hb hx => markD_any base S v d0 w h hm hn hS hb hx)
  obtain ⟨a, cap, rfl, hcap, _⟩ := hat.cells
  obtain ⟨a1, cap1, rfl, hcap1, _⟩ := hu1.cells
  clear hrs hb
  obtain ⟨ys, t⟩ := e1
  have HWt := Lib.hid (endE_wt 1 d0)
  have HWi := Lib.hid (fun h => wtE_in (es := d0) h)
  obtain ⟨n, hnn⟩ : ∃ n, n = d0.length := ⟨_, rfl⟩
  have HN := Lib.hid hnn
  obtain ⟨m, hmm⟩ : ∃ m, m = ys.length := ⟨_, rfl⟩
  have HNY := Lib.hid hmm
  unfold dV at CZ CT CS CI CE CMD CQ CM CH ⊢
  unfold enV at CZE CS CI CY CYE ⊢
  simp only at CZE CS CI CY CYE CMI hcap1 ⊢
  rw [← hnn] at CZ CT CS CI CE CMD hcap HWt HWi ⊢
  rw [← hmm] at CZE CY CMI hcap1 ⊢
  obtain ⟨E, hE⟩ : ∃ E, E = endE 1 d0 := ⟨_, rfl⟩
  rw [← hE] at CMD HWt
  obtain ⟨WT, hWT⟩ : ∃ WT, WT = wtE d0 := ⟨_, rfl⟩
  rw [← hWT] at CZ HWt HWi
  obtain ⟨M, hM⟩ : ∃ M, M = endE 1 rs := ⟨_, rfl⟩
  rw [← hM] at CM CH hend
  obtain ⟨rn, hrn⟩ : ∃ rn, rn = rs.length := ⟨_, rfl⟩
  have HRN := Lib.hid hrn
  clear hat hlen hfine hu1 hf1 hend hok hsm hsm2 hre cs ci hnn hmm hE hWT hM hrn
  go_enter Tryz.func5, Tryz.ntmps5
  go_wp2_with fail
  refine (CZ.out _ (below_al2 _ _ _)).mono ?_
  rintro r w1 ⟨⟨q, rfl, hq⟩, hb⟩
  have A1 : Hid (BoxV w1 w.heap.size 49 (.slice a n cap)) := ((BoxV.new w _ _).below (below_al _ _) (by simp)).below hb (by simp; omega)
  have E1 : Hid (BoxW w1 (w.heap.size + 1) 50 (.slice a1 m cap1) (.string t)) := by
    have h := BoxW.new (w.alloc (.cells #[.slice a n cap] 49)) 50 (.slice a1 m cap1) (.string t)
    rw [show (w.alloc (.cells #[.slice a n cap] 49)).heap.size = w.heap.size + 1 by simp] at h
    exact h.below hb (by simp)
  have HB1 : Hid (Below w.heap.size w w1) := (below_al2 w _ _).trans (hb.mono (by simp; omega))
  clear hb
  rcases hq with rfl | ⟨hq0, hq1⟩
  · go_wp2
    go_ret
    exact ⟨rfl, HB1.out⟩
  · have hnq : ¬ q < 0 := by omega
    have cE0 := E1.out.cell0
    have cE1 := E1.out.cell1
    go_wp2_with fail
    refine (CZE.out q w1 HB1.out hq0 (by omega)).mono ?_
    rintro r w2 ⟨⟨q2, rfl, hq'⟩, hb⟩
    have A2 := Lib.hid (A1.out.below hb A1.out.lt)
    have E2 := Lib.hid (E1.out.below hb E1.out.lt)
    have HB2 := Lib.hid (below_step HB1.out hb)
    clear hb A1 E1 HB1 cE0 cE1 CZE CZ
    rcases hq' with rfl | ⟨hq2, hq3⟩
    · go_wp2
      go_ret
      exact ⟨rfl, HB2.out⟩
    · have hnq2 : ¬ q2 < 0 := by omega
      have hwt : WT + n ≤ 1048576 := by omega
      have hei : entIn (ys, t) := ⟨by have hN := HNY.out; show ys.length ≤ 1048576; omega, by show t.size ≤ 1048576; omega⟩
      have hm : m ≤ 1048576 := by omega
      have hE1 : E ≤ 1100000 := by have := HWt.out; omega
      obtain ⟨hn, hx⟩ := HWi.out hwt
      have CT1 := Lib.hid (CT.out hn hx)
      have CY1 := Lib.hid (CY.out hei)
      have CYE1 := Lib.hid (fun u v w h h' => CYE.out u v w h h' hei.ok.1)
      have CS1 := Lib.hid (fun v u w h h' => CS.out hei.ok v u w h h' (by omega) (fun e he => (hx e he).ok))
      have CI1 := Lib.hid (fun v u w h h' => CI.out hei.ok v u w h h' (by omega) (fun e he => (hx e he).ok))
      have CE1 := Lib.hid (fun u v w h h' => CE.out u v w h h' (by omega) (fun e he => (hx e he).ok))
      have CMD1 := Lib.hid (fun base S v w h hS hb => CMD.out base S v w h hE1 (by omega) hS hb (fun e he => by have := (hx e he).1; omega))
      have CMI1 := Lib.hid (fun base m0 v f w h hb hm0 => CMI.out base m0 v f w h hb (by omega) hm0)
      clear CT CS CI CE CMD CY CYE CMI hx hn hei hq0 hq1 hq2 hq3 HWi HWt hwt
      have cA := A2.out.cell
      have cE0 := E2.out.cell0
      have cE1 := E2.out.cell1
      go_upto_region 8 with fail
      go_cut [6, 7] from 17 (fun v6 v7 wx => ∃ B0 sa sc, v6 = .pointer (some ⟨B0, 0, none⟩) ∧ v7 = .bool b ∧ Hid (w2.heap.size ≤ B0) ∧ Hid (BoxV wx B0 26 (.slice sa rn sc)) ∧ Hid (EntsAt wx (.slice sa rn sc) rs) ∧ Hid (Below w2.heap.size w2 wx))
      case first =>
        have kA := cell_regrown cA
        have kE0 := cell_regrown cE0
        have kE1 := cell_regrown cE1
        have hb0 : Below w2.heap.size w2 w2.drew := below_drew1 (Below.refl _ _)
        have HB0 := Lib.hid hb0
        clear hb0
        refine Mx.wp_region_mixed (Mx.ofL [(0, 1), (2, 1)] (.fork 1 2 ((.fork 3 3 ((.fork 4 3 (Mx.ofL [(5, 0), (6, 0), (7, 0), (8, 2), (9, 3), (10, 0)] .done) 8 2 (Mx.ofL [(4, 3), (5, 0), (6, 0), (7, 0), (9, 3), (10, 0)] .done))) 8 2 (Mx.ofL [(3, 3), (4, 3), (5, 0), (6, 0), (7, 0), (9, 3), (10, 0)] .done))) 8 2 (Mx.ofL [(1, 2), (3, 3), (4, 3), (5, 0), (6, 0), (7, 0), (9, 3), (10, 0)] .done))) (by kernel_rfl) (by kernel_rfl) ?_
        repeat ((first | refine Mx.mix0 rfl ?_ | refine Mx.mix1 rfl ?_); go_big_quiet_step (fail); refine wpQuiet_nil ?_)
        clear cA cE0 cE1 kA kE0 kE1
        refine Mx.mixF rfl rfl ?F8a ?F8d
        case' F8a =>
          go_wp2_with fail
          refine (CT1.out _ (below_step HB2.out HB0.out)).mono ?_
          rintro r wa1 ⟨⟨u, rfl, hu⟩, hb⟩
          obtain ⟨ua, uc, uf, _, _⟩ := hu.at.cells
          rw [← HN.out] at uf
          subst uf
          have U_wa1 := Lib.hid hu.at
          clear hu
          have HB_wa1 : Hid (Below w2.heap.size w2 wa1) := HB0.out.trans (hb.mono HB0.out.size)
          have HG_wa1 := Lib.hid (regrown_of_below HB_wa1.out)
          clear hb
          go_wp2
          refine Mx.mid_normal (fun _ => HG_wa1.out) ?_
          refine Mx.mixF rfl rfl ?F8e ?F8c
          case' F8e =>
            go_wp2_with fail
            refine (CY1.out _ (below_step HB2.out HB_wa1.out)).mono ?_
            rintro r wa2 ⟨⟨y, rfl, hy⟩, hb⟩
            obtain ⟨ya, yc, yf⟩ := hy.form
            subst yf
            have E_wa2 : Hid (IntsAt wa2 (.slice ya m yc) ys) := by have := hy; rw [HNY.out] at this ⊢; exact this.ints
            clear hy
            have U_wa2 := Lib.hid (U_wa1.out.below hb)
            have HB_wa2 : Hid (Below w2.heap.size w2 wa2) := HB_wa1.out.trans (hb.mono HB_wa1.out.size)
            have HG_wa2 := Lib.hid (regrown_of_below HB_wa2.out)
            clear hb
            go_wp2
            refine Mx.mid_normal (fun q => (by first | cases q | exact absurd q (by decide))) ?_
            refine Mx.mixF rfl rfl ?F8f ?F8b
            case' F8f =>
              go_wp2_with fail
              refine (CS1.out _ _ _ U_wa2.out E_wa2.out).mono ?_
              rintro r wa3 ⟨⟨s, ss, rfl, hsr, hss⟩, hb⟩
              have hs : EntsAt wa3 s rs := by have := hsr.at.at; rw [hss] at this; exact this
              obtain ⟨sa, sc, sf, _, _⟩ := hs.cells
              rw [← HRN.out] at sf
              subst sf
              have R_wa3 := Lib.hid hsr
              have S_wa3 := Lib.hid hss
              have V_wa3 := Lib.hid hs
              clear hs hsr hss
              have HB_wa3 : Hid (Below w2.heap.size w2 wa3) := HB_wa2.out.trans (hb.mono HB_wa2.out.size)
              have HG_wa3 := Lib.hid (regrown_of_below HB_wa3.out)
              clear hb
              go_wp2
              refine Mx.mid_normal (fun q => (by first | cases q | exact absurd q (by decide))) ?_
              repeat ((first | refine Mx.mix0 rfl ?_ | refine Mx.mix1 rfl ?_); go_big_quiet_step (fail); refine wpQuiet_nil ?_)
              refine Mx.mix2 rfl ?_
              go_wp2_with fail
              obtain ⟨wa4, hW⟩ : ∃ W, W = World.alloc wa3 (.cells #[.slice none 0 0] 26) := ⟨_, rfl⟩
              have hbA : Below wa3.heap.size wa3 wa4 := by rw [hW]; exact below_al _ _
              have LB_wa4 := Lib.hid hbA
              have X_wa4 : Hid (BoxV wa4 wa3.heap.size 26 (.slice none 0 0)) := by rw [hW]; exact BoxV.new _ _ _
              have L_wa4 : Hid (w2.heap.size ≤ wa3.heap.size) := HB_wa3.out.size
              have V_wa4 := Lib.hid (V_wa3.out.below hbA)
              have HB_wa4 : Hid (Below w2.heap.size w2 wa4) := HB_wa3.out.trans (hbA.mono HB_wa3.out.size)
              have HG_wa4 := Lib.hid (regrown_of_below HB_wa4.out)
              rw [← hW]
              refine Mx.mid_normal (fun _ => HG_wa4.out) ?_
              clear hW hbA
              repeat ((first | refine Mx.mix0 rfl ?_ | refine Mx.mix1 rfl ?_); go_big_quiet_step (fail); refine wpQuiet_nil ?_)
              refine Mx.mix3 rfl ?_
              have cX := X_wa4.out.cell
              have fX := X_wa4.out.frozen
              go_wp2_with fail
              refine Mx.mid_normal (fun q => (by cases q)) ?_
              repeat ((first | refine Mx.mix0 rfl ?_ | refine Mx.mix1 rfl ?_); go_big_quiet_step (fail); refine wpQuiet_nil ?_)
              refine Mx.mix_nil ?_
              have V9 : Hid (EntsAt (World.setCell wa4 ⟨wa3.heap.size, 0, none⟩ (.slice sa rn sc)) (.slice sa rn sc) rs) := (V_wa3.out.below (Below.setCell (p := ⟨wa3.heap.size, 0, none⟩) (LB_wa4.out) (Nat.le_refl _) _))
              have X9 := Lib.hid (X_wa4.out.set (.slice sa rn sc))
              have HB9 := Lib.hid (HB_wa4.out.setCell (p := ⟨wa3.heap.size, 0, none⟩) L_wa4.out (.slice sa rn sc))
              have L9 := L_wa4
              clear cX fX
              go_wp2_with fail
              go_meet
              case rel => exact ⟨_, _, _, rfl, rfl, L9, X9, V9, HB9⟩
            case' F8b =>
              go_wp2_with fail
              obtain ⟨wa5, hW⟩ : ∃ W, W = World.alloc wa2 (.cells #[.slice none 0 0] 26) := ⟨_, rfl⟩
              have hbA : Below wa2.heap.size wa2 wa5 := by rw [hW]; exact below_al _ _
              have LB_wa5 := Lib.hid hbA
              have X_wa5 : Hid (BoxV wa5 wa2.heap.size 26 (.slice none 0 0)) := by rw [hW]; exact BoxV.new _ _ _
              have L_wa5 : Hid (w2.heap.size ≤ wa2.heap.size) := HB_wa2.out.size
              have U_wa5 := Lib.hid (U_wa2.out.below hbA)
              have E_wa5 := Lib.hid (E_wa2.out.below hbA)
              have HB_wa5 : Hid (Below w2.heap.size w2 wa5) := HB_wa2.out.trans (hbA.mono HB_wa2.out.size)
              have HG_wa5 := Lib.hid (regrown_of_below HB_wa5.out)
              rw [← hW]
              refine Mx.mid_normal (fun _ => HG_wa5.out) ?_
              clear hW hbA
              repeat ((first | refine Mx.mix0 rfl ?_ | refine Mx.mix1 rfl ?_); go_big_quiet_step (fail); refine wpQuiet_nil ?_)
              refine Mx.mix3 rfl ?_
              go_wp2_with fail
              refine (CS1.out _ _ _ U_wa5.out E_wa5.out).mono ?_
              rintro r wa6 ⟨⟨s, ss, rfl, hsr, hss⟩, hb⟩
              have hs : EntsAt wa6 s rs := by have := hsr.at.at; rw [hss] at this; exact this
              obtain ⟨sa, sc, sf, _, _⟩ := hs.cells
              rw [← HRN.out] at sf
              subst sf
              have R_wa6 := Lib.hid hsr
              have S_wa6 := Lib.hid hss
              have V_wa6 := Lib.hid hs
              have XL_wa6 : Hid (wa2.heap.size < wa5.heap.size) := X_wa5.out.lt
              clear hs hsr hss
              have X_wa6 := Lib.hid (X_wa5.out.below hb X_wa5.out.lt)
              have HB_wa6 : Hid (Below w2.heap.size w2 wa6) := HB_wa5.out.trans (hb.mono HB_wa5.out.size)
              have HG_wa6 := Lib.hid (regrown_of_below HB_wa6.out)
              clear hb
              go_wp2
              refine Mx.mid_normal (fun q => (by first | cases q | exact absurd q (by decide))) ?_
              repeat ((first | refine Mx.mix0 rfl ?_ | refine Mx.mix1 rfl ?_); go_big_quiet_step (fail); refine wpQuiet_nil ?_)
              refine Mx.mix3 rfl ?_
              have cX := X_wa6.out.cell
              have fX := X_wa6.out.frozen
              go_wp2_with fail
              refine Mx.mid_normal (fun q => (by cases q)) ?_
              repeat ((first | refine Mx.mix0 rfl ?_ | refine Mx.mix1 rfl ?_); go_big_quiet_step (fail); refine wpQuiet_nil ?_)
              refine Mx.mix_nil ?_
              have V9 : Hid (EntsAt (World.setCell wa6 ⟨wa2.heap.size, 0, none⟩ (.slice sa rn sc)) (.slice sa rn sc) rs) := (by have := (R_wa6.out.setCell (o := 0) (x := .slice sa rn sc) XL_wa6.out).at.at; rw [S_wa6.out] at this; exact this)
              have X9 := Lib.hid (X_wa6.out.set (.slice sa rn sc))
              have HB9 := Lib.hid (HB_wa6.out.setCell (p := ⟨wa2.heap.size, 0, none⟩) L_wa5.out (.slice sa rn sc))
              have L9 := L_wa5
              clear cX fX
              go_wp2_with fail
              go_meet
              case rel => exact ⟨_, _, _, rfl, rfl, L9, X9, V9, HB9⟩
          case' F8c =>
            go_wp2_with fail
            obtain ⟨wa7, hW⟩ : ∃ W, W = World.alloc wa1 (.cells #[.slice none 0 0] 26) := ⟨_, rfl⟩
            have hbA : Below wa1.heap.size wa1 wa7 := by rw [hW]; exact below_al _ _
            have LB_wa7 := Lib.hid hbA
            have X_wa7 : Hid (BoxV wa7 wa1.heap.size 26 (.slice none 0 0)) := by rw [hW]; exact BoxV.new _ _ _
            have L_wa7 : Hid (w2.heap.size ≤ wa1.heap.size) := HB_wa1.out.size
            have U_wa7 := Lib.hid (U_wa1.out.below hbA)
            have HB_wa7 : Hid (Below w2.heap.size w2 wa7) := HB_wa1.out.trans (hbA.mono HB_wa1.out.size)
            have HG_wa7 := Lib.hid (regrown_of_below HB_wa7.out)
            rw [← hW]
            refine Mx.mid_normal (fun _ => HG_wa7.out) ?_
            clear hW hbA
            repeat ((first | refine Mx.mix0 rfl ?_ | refine Mx.mix1 rfl ?_); go_big_quiet_step (fail); refine wpQuiet_nil ?_)
            refine Mx.mix3 rfl ?_
            go_wp2_with fail
            refine (CY1.out _ (below_step HB2.out HB_wa7.out)).mono ?_
            rintro r wa8 ⟨⟨y, rfl, hy⟩, hb⟩
            obtain ⟨ya, yc, yf⟩ := hy.form
            subst yf
            have E_wa8 : Hid (IntsAt wa8 (.slice ya m yc) ys) := by have := hy; rw [HNY.out] at this ⊢; exact this.ints
            clear hy
            have U_wa8 := Lib.hid (U_wa7.out.below hb)
            have X_wa8 := Lib.hid (X_wa7.out.below hb X_wa7.out.lt)
            have HB_wa8 : Hid (Below w2.heap.size w2 wa8) := HB_wa7.out.trans (hb.mono HB_wa7.out.size)
            have HG_wa8 := Lib.hid (regrown_of_below HB_wa8.out)
            clear hb
            go_wp2
            refine Mx.mid_normal (fun q => (by first | cases q | exact absurd q (by decide))) ?_
            repeat ((first | refine Mx.mix0 rfl ?_ | refine Mx.mix1 rfl ?_); go_big_quiet_step (fail); refine wpQuiet_nil ?_)
            refine Mx.mix3 rfl ?_
            go_wp2_with fail
            refine (CS1.out _ _ _ U_wa8.out E_wa8.out).mono ?_
            rintro r wa9 ⟨⟨s, ss, rfl, hsr, hss⟩, hb⟩
            have hs : EntsAt wa9 s rs := by have := hsr.at.at; rw [hss] at this; exact this
            obtain ⟨sa, sc, sf, _, _⟩ := hs.cells
            rw [← HRN.out] at sf
            subst sf
            have R_wa9 := Lib.hid hsr
            have S_wa9 := Lib.hid hss
            have V_wa9 := Lib.hid hs
            have XL_wa9 : Hid (wa1.heap.size < wa8.heap.size) := X_wa8.out.lt
            clear hs hsr hss
            have X_wa9 := Lib.hid (X_wa8.out.below hb X_wa8.out.lt)
            have HB_wa9 : Hid (Below w2.heap.size w2 wa9) := HB_wa8.out.trans (hb.mono HB_wa8.out.size)
            have HG_wa9 := Lib.hid (regrown_of_below HB_wa9.out)
            clear hb
            go_wp2
            refine Mx.mid_normal (fun q => (by first | cases q | exact absurd q (by decide))) ?_
            repeat ((first | refine Mx.mix0 rfl ?_ | refine Mx.mix1 rfl ?_); go_big_quiet_step (fail); refine wpQuiet_nil ?_)
            refine Mx.mix3 rfl ?_
            have cX := X_wa9.out.cell
            have fX := X_wa9.out.frozen
            go_wp2_with fail
            refine Mx.mid_normal (fun q => (by cases q)) ?_
            repeat ((first | refine Mx.mix0 rfl ?_ | refine Mx.mix1 rfl ?_); go_big_quiet_step (fail); refine wpQuiet_nil ?_)
            refine Mx.mix_nil ?_
            have V9 : Hid (EntsAt (World.setCell wa9 ⟨wa1.heap.size, 0, none⟩ (.slice sa rn sc)) (.slice sa rn sc) rs) := (by have := (R_wa9.out.setCell (o := 0) (x := .slice sa rn sc) XL_wa9.out).at.at; rw [S_wa9.out] at this; exact this)
            have X9 := Lib.hid (X_wa9.out.set (.slice sa rn sc))
            have HB9 := Lib.hid (HB_wa9.out.setCell (p := ⟨wa1.heap.size, 0, none⟩) L_wa7.out (.slice sa rn sc))
            have L9 := L_wa7
            clear cX fX
            go_wp2_with fail
            go_meet
            case rel => exact ⟨_, _, _, rfl, rfl, L9, X9, V9, HB9⟩
        case' F8d =>
          go_wp2_with fail
          obtain ⟨wa10, hW⟩ : ∃ W, W = (World.alloc w2 (.cells #[.slice none 0 0] 26)).drew := ⟨_, rfl⟩
          have X_wa10 : Hid (BoxV wa10 w2.heap.size 26 (.slice none 0 0)) := by rw [hW]; exact BoxV.new _ _ _
          have L_wa10 : Hid (w2.heap.size ≤ w2.heap.size) := Nat.le_refl _
          have HB_wa10 : Hid (Below w2.heap.size w2 wa10) := by rw [hW]; exact (below_al _ _).drew
          have hbA := True.intro
          have HG_wa10 := Lib.hid (regrown_of_below HB_wa10.out)
          rw [← hW]
          refine Mx.mid_normal (fun _ => HG_wa10.out) ?_
          clear hW hbA
          repeat ((first | refine Mx.mix0 rfl ?_ | refine Mx.mix1 rfl ?_); go_big_quiet_step (fail); refine wpQuiet_nil ?_)
          refine Mx.mix2 rfl ?_
          go_wp2_with fail
          refine (CT1.out _ (below_step HB2.out HB_wa10.out)).mono ?_
          rintro r wa11 ⟨⟨u, rfl, hu⟩, hb⟩
          obtain ⟨ua, uc, uf, _, _⟩ := hu.at.cells
          rw [← HN.out] at uf
          subst uf
          have U_wa11 := Lib.hid hu.at
          clear hu
          have X_wa11 := Lib.hid (X_wa10.out.below hb X_wa10.out.lt)
          have HB_wa11 : Hid (Below w2.heap.size w2 wa11) := HB_wa10.out.trans (hb.mono HB_wa10.out.size)
          have HG_wa11 := Lib.hid (regrown_of_below HB_wa11.out)
          clear hb
          go_wp2
          refine Mx.mid_normal (fun _ => HG_wa11.out) ?_
          repeat ((first | refine Mx.mix0 rfl ?_ | refine Mx.mix1 rfl ?_); go_big_quiet_step (fail); refine wpQuiet_nil ?_)
          refine Mx.mix3 rfl ?_
          go_wp2_with fail
          refine (CY1.out _ (below_step HB2.out HB_wa11.out)).mono ?_
          rintro r wa12 ⟨⟨y, rfl, hy⟩, hb⟩
          obtain ⟨ya, yc, yf⟩ := hy.form
          subst yf
          have E_wa12 : Hid (IntsAt wa12 (.slice ya m yc) ys) := by have := hy; rw [HNY.out] at this ⊢; exact this.ints
          clear hy
          have X_wa12 := Lib.hid (X_wa11.out.below hb X_wa11.out.lt)
          have U_wa12 := Lib.hid (U_wa11.out.below hb)
          have HB_wa12 : Hid (Below w2.heap.size w2 wa12) := HB_wa11.out.trans (hb.mono HB_wa11.out.size)
          have HG_wa12 := Lib.hid (regrown_of_below HB_wa12.out)
          clear hb
          go_wp2
          refine Mx.mid_normal (fun q => (by first | cases q | exact absurd q (by decide))) ?_
          repeat ((first | refine Mx.mix0 rfl ?_ | refine Mx.mix1 rfl ?_); go_big_quiet_step (fail); refine wpQuiet_nil ?_)
          refine Mx.mix3 rfl ?_
          go_wp2_with fail
          refine (CS1.out _ _ _ U_wa12.out E_wa12.out).mono ?_
          rintro r wa13 ⟨⟨s, ss, rfl, hsr, hss⟩, hb⟩
          have hs : EntsAt wa13 s rs := by have := hsr.at.at; rw [hss] at this; exact this
          obtain ⟨sa, sc, sf, _, _⟩ := hs.cells
          rw [← HRN.out] at sf
          subst sf
          have R_wa13 := Lib.hid hsr
          have S_wa13 := Lib.hid hss
          have V_wa13 := Lib.hid hs
          have XL_wa13 : Hid (w2.heap.size < wa12.heap.size) := X_wa12.out.lt
          clear hs hsr hss
          have X_wa13 := Lib.hid (X_wa12.out.below hb X_wa12.out.lt)
          have HB_wa13 : Hid (Below w2.heap.size w2 wa13) := HB_wa12.out.trans (hb.mono HB_wa12.out.size)
          have HG_wa13 := Lib.hid (regrown_of_below HB_wa13.out)
          clear hb
          go_wp2
          refine Mx.mid_normal (fun q => (by first | cases q | exact absurd q (by decide))) ?_
          repeat ((first | refine Mx.mix0 rfl ?_ | refine Mx.mix1 rfl ?_); go_big_quiet_step (fail); refine wpQuiet_nil ?_)
          refine Mx.mix3 rfl ?_
          have cX := X_wa13.out.cell
          have fX := X_wa13.out.frozen
          go_wp2_with fail
          refine Mx.mid_normal (fun q => (by cases q)) ?_
          repeat ((first | refine Mx.mix0 rfl ?_ | refine Mx.mix1 rfl ?_); go_big_quiet_step (fail); refine wpQuiet_nil ?_)
          refine Mx.mix_nil ?_
          have V9 : Hid (EntsAt (World.setCell wa13 ⟨w2.heap.size, 0, none⟩ (.slice sa rn sc)) (.slice sa rn sc) rs) := (by have := (R_wa13.out.setCell (o := 0) (x := .slice sa rn sc) XL_wa13.out).at.at; rw [S_wa13.out] at this; exact this)
          have X9 := Lib.hid (X_wa13.out.set (.slice sa rn sc))
          have HB9 := Lib.hid (HB_wa13.out.setCell (p := ⟨w2.heap.size, 0, none⟩) L_wa10.out (.slice sa rn sc))
          have L9 := L_wa10
          clear cX fX
          go_wp2_with fail
          go_meet
          case rel => exact ⟨_, _, _, rfl, rfl, L9, X9, V9, HB9⟩
      case rest =>
        obtain ⟨B8, s8a, s8c, rfl, rfl, hcL, hcX, hcV, hcB⟩ := hcut
        obtain ⟨w5, hw5⟩ : ∃ w5, w5 = wc := ⟨_, rfl⟩
        rw [← hw5] at hcX hcV hcB ⊢
        clear hw5
        have V5 := hcV
        have VX5 := hcX
        have VL := hcL
        have A5 := Lib.hid (A2.out.below hcB.out A2.out.lt)
        have E5 := Lib.hid (E2.out.below hcB.out E2.out.lt)
        have HB5 := Lib.hid (below_step HB2.out hcB.out)
        clear hcL hcX hcV hcB A2 E2 HB2 cA cE0 cE1
        have cA := A5.out.cell
        go_wp2_with fail
        refine (CT1.out w5 HB5.out).mono ?_
        rintro r w6 ⟨⟨x, rfl, hx⟩, hb⟩
        obtain ⟨xa, xc, xf, _, _⟩ := hx.at.cells
        rw [← HN.out] at xf
        subst xf
        have S56 : Hid (w5.heap.size ≤ w6.heap.size) := hb.size
        obtain ⟨w7, hW⟩ : ∃ W, W = w6.alloc (.cells #[.slice xa n xc] 26) := ⟨_, rfl⟩
        have hbA : Below w6.heap.size w6 w7 := by rw [hW]; exact below_al _ _
        have hSA : w6.heap.size < w7.heap.size := by rw [hW]; simp
        have XB7 : Hid (BoxV w7 w6.heap.size 26 (.slice xa n xc)) := by rw [hW]; exact BoxV.new _ _ _
        have HW_w7 := Lib.hid hW
        have SA_w7 := Lib.hid hSA
        have X7 := Lib.hid (hx.below hbA)
        have HC7 := Lib.hid (below_step hb hbA)
        have E7 := Lib.hid ((E5.out.below hb E5.out.lt).below hbA (by have := E5.out.lt; have := hb.size; omega))
        clear hb hx hbA hW hSA cA
        have cE0 := E7.out.cell0
        rw [HW_w7.out] at cE0
        have cE1 := E7.out.cell1
        rw [HW_w7.out] at cE1
        go_wp2_with fail
        rw [← HW_w7.out]
        refine (CY1.out w7 (below_step HB5.out HC7.out)).mono ?_
        rintro r w8 ⟨⟨z, rfl, hz⟩, hb⟩
        obtain ⟨za, zc, zf⟩ := hz.form
        subst zf
        have S78 : Hid (w7.heap.size ≤ w8.heap.size) := hb.size
        have ZL : Hid (∀ g, 0 < m → (Value.slice za m zc).ownBlock = some g → w7.heap.size ≤ g ∧ g < w8.heap.size) := fun g h0 hg => ⟨hz.ge h0 hg, hz.lt h0 g hg⟩
        obtain ⟨w9, hW⟩ : ∃ W, W = w8.alloc (.cells #[.slice za m zc, .string t] 29) := ⟨_, rfl⟩
        have hbA : Below w8.heap.size w8 w9 := by rw [hW]; exact below_al _ _
        have hSA : w8.heap.size < w9.heap.size := by rw [hW]; simp
        have ZB9 : Hid (BoxW w9 w8.heap.size 29 (.slice za m zc) (.string t)) := by rw [hW]; exact BoxW.new _ _ _ _
        have HW_w9 := Lib.hid hW
        have SA_w9 := Lib.hid hSA
        have hb9 := below_step hb hbA
        have Z9 := Lib.hid (hz.below hbA)
        have X9 := Lib.hid (X7.out.below hb9)
        have XB9 := Lib.hid (XB7.out.below hb9 XB7.out.lt)
        have HC9 := Lib.hid (below_step HC7.out hb9)
        clear hb hz hb9 hbA hW hSA X7 XB7 HC7 E7 HW_w7 cE0 cE1
        have cX := XB9.out.cell
        rw [HW_w9.out] at cX
        have cZ0 := ZB9.out.cell0
        rw [HW_w9.out] at cZ0
        have cZ1 := ZB9.out.cell1
        rw [HW_w9.out] at cZ1
        have ZI : Hid (IntsAt w9 (.slice za m zc) ys) := by have := Z9.out; rw [HNY.out] at this ⊢; exact this.ints
        go_wp2_with fail
        rw [← HW_w9.out]
        refine (CI1.out _ _ w9 X9.out.at ZI.out).mono ?_
        rintro r w10 ⟨⟨gv, us, rfl, hg, hus⟩, hb⟩
        have hG : OwnEs w10 w9.heap.size w10.heap.size gv rs := by rw [← hus]; exact hg.own'
        obtain ⟨ga, gc, gf, _, _⟩ := hG.at.cells
        rw [← HRN.out] at gf
        subst gf
        have S910 : Hid (w9.heap.size ≤ w10.heap.size) := hb.size
        obtain ⟨w11, hW⟩ : ∃ W, W = w10.alloc (.cells #[.slice ga rn gc] 26) := ⟨_, rfl⟩
        have hbA : Below w10.heap.size w10 w11 := by rw [hW]; exact below_al _ _
        have hSA : w10.heap.size < w11.heap.size := by rw [hW]; simp
        have GB11 : Hid (BoxV w11 w10.heap.size 26 (.slice ga rn gc)) := by rw [hW]; exact BoxV.new _ _ _
        have HW_w11 := Lib.hid hW
        have SA_w11 := Lib.hid hSA
        have hb11 := below_step hb hbA
        have G11 := Lib.hid (hG.below hbA)
        have X11 := Lib.hid (X9.out.below hb11)
        have XB11 := Lib.hid (XB9.out.below hb11 XB9.out.lt)
        have Z11 := Lib.hid (Z9.out.below hb11)
        have ZB11 := Lib.hid (ZB9.out.below hb11 ZB9.out.lt)
        have HC11 := Lib.hid (below_step HC9.out hb11)
        clear hb hg hus hG hb11 hbA hW hSA X9 XB9 Z9 ZB9 HC9 ZI cX cZ0 cZ1 HW_w9
        have VXc := Lib.hid (VX5.out.below HC11.out VX5.out.lt)
        have cG := GB11.out.cell
        rw [HW_w11.out] at cG
        have cV := VXc.out.cell
        rw [HW_w11.out] at cV
        go_wp2_with fail
        rw [← HW_w11.out]
        refine (CQ.out _ _ w11 G11.out.at (V5.out.below HC11.out)).mono ?_
        rintro r w12 ⟨rfl, hb⟩
        have G12 := Lib.hid (G11.out.below hb)
        have X12 := Lib.hid (X11.out.below hb)
        have Z12 := Lib.hid (Z11.out.below hb)
        have XB12 := Lib.hid (XB11.out.below hb XB11.out.lt)
        have ZB12 := Lib.hid (ZB11.out.below hb ZB11.out.lt)
        have GB12 := Lib.hid (GB11.out.below hb GB11.out.lt)
        have HC12 := Lib.hid (below_step HC11.out hb)
        have S11_12 : Hid (w11.heap.size ≤ w12.heap.size) := hb.size
        clear G11 X11 Z11 XB11 ZB11 GB11 HC11 hb VXc cG cV HW_w11
        have Ac := Lib.hid (A5.out.below HC12.out A5.out.lt)
        have HBc := Lib.hid (below_step HB5.out HC12.out)
        have k0 := cell_regrown XB12.out.cell
        have k1 := cell_regrown Ac.out.cell
        go_wp2_with fail
        refine Mx.wp_region_mixed (Mx.ofL [(0, 1), (1, 1), (2, 2), (3, 3), (4, 0)] .done) (by kernel_rfl) (by kernel_rfl) ?_
        repeat ((first | refine Mx.mix0 rfl ?_ | refine Mx.mix1 rfl ?_); go_big_quiet_step (fail); refine wpQuiet_nil ?_)
        refine Mx.mix2 rfl ?_
        go_wp2_with fail
        refine (CT1.out w12.drew HBc.out.drew).mono ?_
        rintro r w13 ⟨⟨p, rfl, hp⟩, hb⟩
        obtain ⟨pa, pc, pf, _, _⟩ := hp.at.cells
        rw [← HN.out] at pf
        subst pf
        have hb13 : Below w12.heap.size w12 w13 := (below_drewN (Below.refl _ _) 1).trans hb
        have P13 := Lib.hid (hp.at)
        have HG := Lib.hid (regrown_of_below hb13)
        have HB13 := Lib.hid (hb13)
        have Xr := Lib.hid (X12.out.below hb13)
        clear hb hb13 hp k0 k1
        go_wp2
        refine Mx.mid_normal (fun _ => HG.out) ?_
        refine Mx.mix3 rfl ?_
        go_wp2_with fail
        refine (CE1.out _ _ w13 Xr.out.at P13.out).mono ?_
        rintro r w14 ⟨rfl, hb⟩
        have hb14 : Below w12.heap.size w12 w14 := below_step HB13.out hb
        have G14 := Lib.hid (G12.out.below hb14)
        have X14 := Lib.hid (X12.out.below hb14)
        have Z14 := Lib.hid (Z12.out.below hb14)
        have XB14 := Lib.hid (XB12.out.below hb14 XB12.out.lt)
        have ZB14 := Lib.hid (ZB12.out.below hb14 ZB12.out.lt)
        have GB14 := Lib.hid (GB12.out.below hb14 GB12.out.lt)
        have HC14 := Lib.hid (below_step HC12.out hb14)
        have S12_14 : Hid (w12.heap.size ≤ w14.heap.size) := hb14.size
        clear G12 X12 Z12 XB12 ZB12 GB12 HC12 hb hb14 Ac HBc HB13 P13 Xr HG
        go_wp2
        refine Mx.mid_normal (fun q => by cases q) ?_
        repeat ((first | refine Mx.mix0 rfl ?_ | refine Mx.mix1 rfl ?_); go_big_quiet_step (fail); refine wpQuiet_nil ?_)
        refine Mx.mix_nil ?_
        have Ec := Lib.hid (E5.out.below HC14.out E5.out.lt)
        have HBc := Lib.hid (below_step HB5.out HC14.out)
        have k0 := cell_regrown ZB14.out.cell0
        have k1 := cell_regrown ZB14.out.cell1
        have k2 := cell_regrown Ec.out.cell0
        have k3 := cell_regrown Ec.out.cell1
        go_wp2_with fail
        refine Mx.wp_region_mixed (Mx.ofL [(0, 1), (1, 1), (2, 2), (3, 3), (4, 0)] .done) (by kernel_rfl) (by kernel_rfl) ?_
        repeat ((first | refine Mx.mix0 rfl ?_ | refine Mx.mix1 rfl ?_); go_big_quiet_step (fail); refine wpQuiet_nil ?_)
        refine Mx.mix2 rfl ?_
        go_wp2_with fail
        refine (CY1.out w14.drew HBc.out.drew).mono ?_
        rintro r w15 ⟨⟨p, rfl, hp⟩, hb⟩
        obtain ⟨pa2, pc2, pf2⟩ := hp.form
        subst pf2
        have hb15 : Below w14.heap.size w14 w15 := (below_drewN (Below.refl _ _) 1).trans hb
        have P15 : Hid (IntsAt w15 (.slice pa2 m pc2) ys) := by have := hp; rw [HNY.out] at this ⊢; exact this.ints
        have Zr : Hid (IntsAt w15 (.slice za m zc) ys) := by have := Z14.out.below hb15; rw [HNY.out] at this ⊢; exact this.ints
        have HG := Lib.hid (regrown_of_below hb15)
        have HB15 := Lib.hid (hb15)
        clear hb hb15 hp k0 k1 k2 k3
        go_wp2
        refine Mx.mid_normal (fun _ => HG.out) ?_
        refine Mx.mix3 rfl ?_
        go_wp2_with fail
        refine (CYE1.out _ _ w15 Zr.out P15.out).mono ?_
        rintro r w16 ⟨rfl, hb⟩
        have hb16 : Below w14.heap.size w14 w16 := below_step HB15.out hb
        have G16 := Lib.hid (G14.out.below hb16)
        have X16 := Lib.hid (X14.out.below hb16)
        have Z16 := Lib.hid (Z14.out.below hb16)
        have XB16 := Lib.hid (XB14.out.below hb16 XB14.out.lt)
        have ZB16 := Lib.hid (ZB14.out.below hb16 ZB14.out.lt)
        have GB16 := Lib.hid (GB14.out.below hb16 GB14.out.lt)
        have HC16 := Lib.hid (below_step HC14.out hb16)
        have S14_16 : Hid (w14.heap.size ≤ w16.heap.size) := hb16.size
        clear G14 X14 Z14 XB14 ZB14 GB14 HC14 hb hb16 Ec HBc HB15 P15 Zr HG
        go_wp2
        refine Mx.mid_normal (fun q => by cases q) ?_
        repeat ((first | refine Mx.mix0 rfl ?_ | refine Mx.mix1 rfl ?_); go_big_quiet_step (fail); refine wpQuiet_nil ?_)
        refine Mx.mix_nil ?_
        have cX := XB16.out.cell
        go_wp2_with fail
        refine (CMD1.out w5.heap.size w6.heap.size _ w16 X16.out (by have := S56.out; have := SA_w7.out; have := S78.out; have := SA_w9.out; have := S910.out; have := SA_w11.out; have := S11_12.out; have := S12_14.out; have := S14_16.out; omega) (by have := S56.out; have := SA_w7.out; have := S78.out; have := SA_w9.out; have := S910.out; have := SA_w11.out; have := S11_12.out; have := S12_14.out; have := S14_16.out; omega)).mono ?_
        rintro r w17 ⟨rfl, _, hT, hb⟩
        have HC17 : Hid (Below w5.heap.size w5 w17) := HC16.out.trans hb
        have Z17 := Lib.hid (Z16.out.touch hT (fun h0 g hg q => by have := Z16.out.ge h0 hg; have := q.2; have := SA_w7.out; omega))
        have G17 := Lib.hid (G16.out.touch hT (fun b h1 h2 q => by have := q.2; have := S56.out; have := SA_w7.out; have := S78.out; have := SA_w9.out; have := S910.out; have := SA_w11.out; have := S11_12.out; have := S12_14.out; have := S14_16.out; omega))
        have GB17 := Lib.hid (GB16.out.touch hT (fun q => by have := q.2; have := S56.out; have := SA_w7.out; have := S78.out; have := SA_w9.out; have := S910.out; have := SA_w11.out; have := S11_12.out; have := S12_14.out; have := S14_16.out; omega))
        have ZB17 : Hid (BoxW w17 w8.heap.size 29 (.slice za m zc) (.string t)) := hT.block ZB16.out (fun q => by have := q.2; have := S56.out; have := SA_w7.out; have := S78.out; have := SA_w9.out; have := S910.out; have := SA_w11.out; have := S11_12.out; have := S12_14.out; have := S14_16.out; omega)
        have S16_17 : Hid (w16.heap.size ≤ w17.heap.size) := hb.size
        have hEp : ¬ ((E : Int)) < 0 := by omega
        clear hb hT X16 XB16 Z16 G16 GB16 ZB16 HC16 cX
        have cZ0 := ZB17.out.cell0
        have cZ1 := ZB17.out.cell1
        go_wp2_with fail
        refine (CMI1.out w7.heap.size E _ _ w17 Z17.out (by have := S56.out; have := SA_w7.out; have := S78.out; have := SA_w9.out; have := S910.out; have := SA_w11.out; have := S11_12.out; have := S12_14.out; have := S14_16.out; have := S16_17.out; omega) (by omega)).mono ?_
        rintro r w18 ⟨rfl, hT, hb⟩
        have HC18 : Hid (Below w5.heap.size w5 w18) := HC17.out.trans (hb.mono (by have := S56.out; have := SA_w7.out; omega))
        have G18 := Lib.hid (G17.out.touch hT (fun b h1 h2 q => by have := (ZL.out _ q.1 q.2).2; have := SA_w9.out; omega))
        have GB18 := Lib.hid (GB17.out.touch hT (fun q => by have := (ZL.out _ q.1 q.2).2; have := SA_w9.out; have := S910.out; omega))
        have S17_18 : Hid (w17.heap.size ≤ w18.heap.size) := hT.1
        have hKp : ¬ (((E + m : Nat) : Int)) < 0 := by omega
        have hKp2 : ¬ ((E : Int) + (m : Int)) < 0 := by omega
        clear hb hT Z17 ZB17 G17 GB17 HC17 cZ0 cZ1
        have VXc := Lib.hid (VX5.out.below HC18.out VX5.out.lt)
        have cG := GB18.out.cell
        have cV := VXc.out.cell
        go_wp2_with fail
        refine (CQ.out _ _ w18 G18.out.at (V5.out.below HC18.out)).mono ?_
        rintro r w19 ⟨rfl, hb⟩
        have G19 := Lib.hid (G18.out.below hb)
        have GB19 := Lib.hid (GB18.out.below hb GB18.out.lt)
        have HC19 := Lib.hid (below_step HC18.out hb)
        have S18_19 : Hid (w18.heap.size ≤ w19.heap.size) := hb.size
        clear G18 GB18 HC18 hb VXc cG cV hKp hKp2 hEp
        have cG := GB19.out.cell
        go_wp2_with fail
        refine (CM.out w9.heap.size w10.heap.size _ w19 G19.out (by have := S56.out; have := SA_w7.out; have := S78.out; have := SA_w9.out; have := S910.out; have := SA_w11.out; have := S11_12.out; have := S12_14.out; have := S14_16.out; have := S16_17.out; have := S17_18.out; have := S18_19.out; omega) (by have := S56.out; have := SA_w7.out; have := S78.out; have := SA_w9.out; have := S910.out; have := SA_w11.out; have := S11_12.out; have := S12_14.out; have := S14_16.out; have := S16_17.out; have := S17_18.out; have := S18_19.out; omega)).mono ?_
        rintro r w20 ⟨rfl, hO, hT, hb⟩
        have G20 := Lib.hid (hO)
        have HC20 : Hid (Below w5.heap.size w5 w20) := HC19.out.trans (hb.mono (by have := S56.out; have := SA_w7.out; have := S78.out; have := SA_w9.out; have := S910.out; have := SA_w11.out; have := S11_12.out; have := S12_14.out; have := S14_16.out; have := S16_17.out; have := S17_18.out; have := S18_19.out; omega))
        have GB20 := Lib.hid (GB19.out.touch hT (fun q => by have := q.2; omega))
        have hMp : ¬ ((M : Int)) < 0 := by omega
        have hMM : ((M : Int) != (M : Int)) = false := by simp
        clear hb hT hO G19 GB19 HC19 cG
        have cG := GB20.out.cell
        go_wp2_with fail
        refine (CH.out _ _ _ w20 G20.out).mono ?_
        rintro r w21 ⟨rfl, hb⟩
        have G21 := Lib.hid (G20.out.below hb)
        have GB21 := Lib.hid (GB20.out.below hb GB20.out.lt)
        have HC21 := Lib.hid (below_step HC20.out hb)
        clear hb G20 GB20 HC20 cG
        have A21 := Lib.hid (A5.out.below HC21.out A5.out.lt)
        have E21 := Lib.hid (E5.out.below HC21.out E5.out.lt)
        have HB21 := Lib.hid (below_step HB5.out HC21.out)
        have cA := A21.out.cell
        have cE0 := E21.out.cell0
        have cE1 := E21.out.cell1
        go_upto_region 31 with fail
        go_cut [15, 16] from 17 (fun v6 v7 wx => ∃ B0 sa sc, v6 = .pointer (some ⟨B0, 0, none⟩) ∧ v7 = .bool b ∧ Hid (w21.heap.size ≤ B0) ∧ Hid (BoxV wx B0 26 (.slice sa rn sc)) ∧ Hid (EntsAt wx (.slice sa rn sc) rs) ∧ Hid (Below w21.heap.size w21 wx))
        case first =>
          have kA := cell_regrown cA
          have kE0 := cell_regrown cE0
          have kE1 := cell_regrown cE1
          have hb0 : Below w21.heap.size w21 w21.drew := below_drew1 (Below.refl _ _)
          have HB0 := Lib.hid hb0
          clear hb0
          refine Mx.wp_region_mixed (Mx.ofL [(0, 1), (2, 1)] (.fork 1 2 ((.fork 3 3 ((.fork 4 3 (Mx.ofL [(5, 0), (6, 0), (7, 0), (8, 2), (9, 3), (10, 0)] .done) 8 2 (Mx.ofL [(4, 3), (5, 0), (6, 0), (7, 0), (9, 3), (10, 0)] .done))) 8 2 (Mx.ofL [(3, 3), (4, 3), (5, 0), (6, 0), (7, 0), (9, 3), (10, 0)] .done))) 8 2 (Mx.ofL [(1, 2), (3, 3), (4, 3), (5, 0), (6, 0), (7, 0), (9, 3), (10, 0)] .done))) (by kernel_rfl) (by kernel_rfl) ?_
          repeat ((first | refine Mx.mix0 rfl ?_ | refine Mx.mix1 rfl ?_); go_big_quiet_step (fail); refine wpQuiet_nil ?_)
          clear cA cE0 cE1 kA kE0 kE1
          refine Mx.mixF rfl rfl ?F31a ?F31d
          case' F31a =>
            go_wp2_with fail
            refine (CT1.out _ (below_step HB21.out HB0.out)).mono ?_
            rintro r wa1 ⟨⟨u, rfl, hu⟩, hb⟩
            obtain ⟨ua, uc, uf, _, _⟩ := hu.at.cells
            rw [← HN.out] at uf
            subst uf
            have U_wa1 := Lib.hid hu.at
            clear hu
            have HB_wa1 : Hid (Below w21.heap.size w21 wa1) := HB0.out.trans (hb.mono HB0.out.size)
            have HG_wa1 := Lib.hid (regrown_of_below HB_wa1.out)
            clear hb
            go_wp2
            refine Mx.mid_normal (fun _ => HG_wa1.out) ?_
            refine Mx.mixF rfl rfl ?F31e ?F31c
            case' F31e =>
              go_wp2_with fail
              refine (CY1.out _ (below_step HB21.out HB_wa1.out)).mono ?_
              rintro r wa2 ⟨⟨y, rfl, hy⟩, hb⟩
              obtain ⟨ya, yc, yf⟩ := hy.form
              subst yf
              have E_wa2 : Hid (IntsAt wa2 (.slice ya m yc) ys) := by have := hy; rw [HNY.out] at this ⊢; exact this.ints
              clear hy
              have U_wa2 := Lib.hid (U_wa1.out.below hb)
              have HB_wa2 : Hid (Below w21.heap.size w21 wa2) := HB_wa1.out.trans (hb.mono HB_wa1.out.size)
              have HG_wa2 := Lib.hid (regrown_of_below HB_wa2.out)
              clear hb
              go_wp2
              refine Mx.mid_normal (fun q => (by first | cases q | exact absurd q (by decide))) ?_
              refine Mx.mixF rfl rfl ?F31f ?F31b
              case' F31f =>
                go_wp2_with fail
                refine (CI1.out _ _ _ U_wa2.out E_wa2.out).mono ?_
                rintro r wa3 ⟨⟨s, ss, rfl, hsr, hss⟩, hb⟩
                have hs : EntsAt wa3 s rs := by have := hsr.own'.at; rw [hss] at this; exact this
                obtain ⟨sa, sc, sf, _, _⟩ := hs.cells
                rw [← HRN.out] at sf
                subst sf
                have R_wa3 := Lib.hid hsr
                have S_wa3 := Lib.hid hss
                have V_wa3 := Lib.hid hs
                clear hs hsr hss
                have HB_wa3 : Hid (Below w21.heap.size w21 wa3) := HB_wa2.out.trans (hb.mono HB_wa2.out.size)
                have HG_wa3 := Lib.hid (regrown_of_below HB_wa3.out)
                clear hb
                go_wp2
                refine Mx.mid_normal (fun q => (by first | cases q | exact absurd q (by decide))) ?_
                repeat ((first | refine Mx.mix0 rfl ?_ | refine Mx.mix1 rfl ?_); go_big_quiet_step (fail); refine wpQuiet_nil ?_)
                refine Mx.mix2 rfl ?_
                go_wp2_with fail
                obtain ⟨wa4, hW⟩ : ∃ W, W = World.alloc wa3 (.cells #[.slice none 0 0] 26) := ⟨_, rfl⟩
                have hbA : Below wa3.heap.size wa3 wa4 := by rw [hW]; exact below_al _ _
                have LB_wa4 := Lib.hid hbA
                have X_wa4 : Hid (BoxV wa4 wa3.heap.size 26 (.slice none 0 0)) := by rw [hW]; exact BoxV.new _ _ _
                have L_wa4 : Hid (w21.heap.size ≤ wa3.heap.size) := HB_wa3.out.size
                have V_wa4 := Lib.hid (V_wa3.out.below hbA)
                have HB_wa4 : Hid (Below w21.heap.size w21 wa4) := HB_wa3.out.trans (hbA.mono HB_wa3.out.size)
                have HG_wa4 := Lib.hid (regrown_of_below HB_wa4.out)
                rw [← hW]
                refine Mx.mid_normal (fun _ => HG_wa4.out) ?_
                clear hW hbA
                repeat ((first | refine Mx.mix0 rfl ?_ | refine Mx.mix1 rfl ?_); go_big_quiet_step (fail); refine wpQuiet_nil ?_)
                refine Mx.mix3 rfl ?_
                have cX := X_wa4.out.cell
                have fX := X_wa4.out.frozen
                go_wp2_with fail
                refine Mx.mid_normal (fun q => (by cases q)) ?_
                repeat ((first | refine Mx.mix0 rfl ?_ | refine Mx.mix1 rfl ?_); go_big_quiet_step (fail); refine wpQuiet_nil ?_)
                refine Mx.mix_nil ?_
                have V9 : Hid (EntsAt (World.setCell wa4 ⟨wa3.heap.size, 0, none⟩ (.slice sa rn sc)) (.slice sa rn sc) rs) := (V_wa3.out.below (Below.setCell (p := ⟨wa3.heap.size, 0, none⟩) (LB_wa4.out) (Nat.le_refl _) _))
                have X9 := Lib.hid (X_wa4.out.set (.slice sa rn sc))
                have HB9 := Lib.hid (HB_wa4.out.setCell (p := ⟨wa3.heap.size, 0, none⟩) L_wa4.out (.slice sa rn sc))
                have L9 := L_wa4
                clear cX fX
                go_wp2_with fail
                go_meet
                case rel => exact ⟨_, _, _, rfl, rfl, L9, X9, V9, HB9⟩
              case' F31b =>
                go_wp2_with fail
                obtain ⟨wa5, hW⟩ : ∃ W, W = World.alloc wa2 (.cells #[.slice none 0 0] 26) := ⟨_, rfl⟩
                have hbA : Below wa2.heap.size wa2 wa5 := by rw [hW]; exact below_al _ _
                have LB_wa5 := Lib.hid hbA
                have X_wa5 : Hid (BoxV wa5 wa2.heap.size 26 (.slice none 0 0)) := by rw [hW]; exact BoxV.new _ _ _
                have L_wa5 : Hid (w21.heap.size ≤ wa2.heap.size) := HB_wa2.out.size
                have U_wa5 := Lib.hid (U_wa2.out.below hbA)
                have E_wa5 := Lib.hid (E_wa2.out.below hbA)
                have HB_wa5 : Hid (Below w21.heap.size w21 wa5) := HB_wa2.out.trans (hbA.mono HB_wa2.out.size)
                have HG_wa5 := Lib.hid (regrown_of_below HB_wa5.out)
                rw [← hW]
                refine Mx.mid_normal (fun _ => HG_wa5.out) ?_
                clear hW hbA
                repeat ((first | refine Mx.mix0 rfl ?_ | refine Mx.mix1 rfl ?_); go_big_quiet_step (fail); refine wpQuiet_nil ?_)
                refine Mx.mix3 rfl ?_
                go_wp2_with fail
                refine (CI1.out _ _ _ U_wa5.out E_wa5.out).mono ?_
                rintro r wa6 ⟨⟨s, ss, rfl, hsr, hss⟩, hb⟩
                have hs : EntsAt wa6 s rs := by have := hsr.own'.at; rw [hss] at this; exact this
                obtain ⟨sa, sc, sf, _, _⟩ := hs.cells
                rw [← HRN.out] at sf
                subst sf
                have R_wa6 := Lib.hid hsr
                have S_wa6 := Lib.hid hss
                have V_wa6 := Lib.hid hs
                have XL_wa6 : Hid (wa2.heap.size < wa5.heap.size) := X_wa5.out.lt
                clear hs hsr hss
                have X_wa6 := Lib.hid (X_wa5.out.below hb X_wa5.out.lt)
                have HB_wa6 : Hid (Below w21.heap.size w21 wa6) := HB_wa5.out.trans (hb.mono HB_wa5.out.size)
                have HG_wa6 := Lib.hid (regrown_of_below HB_wa6.out)
                clear hb
                go_wp2
                refine Mx.mid_normal (fun q => (by first | cases q | exact absurd q (by decide))) ?_
                repeat ((first | refine Mx.mix0 rfl ?_ | refine Mx.mix1 rfl ?_); go_big_quiet_step (fail); refine wpQuiet_nil ?_)
                refine Mx.mix3 rfl ?_
                have cX := X_wa6.out.cell
                have fX := X_wa6.out.frozen
                go_wp2_with fail
                refine Mx.mid_normal (fun q => (by cases q)) ?_
                repeat ((first | refine Mx.mix0 rfl ?_ | refine Mx.mix1 rfl ?_); go_big_quiet_step (fail); refine wpQuiet_nil ?_)
                refine Mx.mix_nil ?_
                have V9 : Hid (EntsAt (World.setCell wa6 ⟨wa2.heap.size, 0, none⟩ (.slice sa rn sc)) (.slice sa rn sc) rs) := (by have := (R_wa6.out.setCell (o := 0) (x := .slice sa rn sc) XL_wa6.out).own'.at; rw [S_wa6.out] at this; exact this)
                have X9 := Lib.hid (X_wa6.out.set (.slice sa rn sc))
                have HB9 := Lib.hid (HB_wa6.out.setCell (p := ⟨wa2.heap.size, 0, none⟩) L_wa5.out (.slice sa rn sc))
                have L9 := L_wa5
                clear cX fX
                go_wp2_with fail
                go_meet
                case rel => exact ⟨_, _, _, rfl, rfl, L9, X9, V9, HB9⟩
            case' F31c =>
              go_wp2_with fail
              obtain ⟨wa7, hW⟩ : ∃ W, W = World.alloc wa1 (.cells #[.slice none 0 0] 26) := ⟨_, rfl⟩
              have hbA : Below wa1.heap.size wa1 wa7 := by rw [hW]; exact below_al _ _
              have LB_wa7 := Lib.hid hbA
              have X_wa7 : Hid (BoxV wa7 wa1.heap.size 26 (.slice none 0 0)) := by rw [hW]; exact BoxV.new _ _ _
              have L_wa7 : Hid (w21.heap.size ≤ wa1.heap.size) := HB_wa1.out.size
              have U_wa7 := Lib.hid (U_wa1.out.below hbA)
              have HB_wa7 : Hid (Below w21.heap.size w21 wa7) := HB_wa1.out.trans (hbA.mono HB_wa1.out.size)
              have HG_wa7 := Lib.hid (regrown_of_below HB_wa7.out)
              rw [← hW]
              refine Mx.mid_normal (fun _ => HG_wa7.out) ?_
              clear hW hbA
              repeat ((first | refine Mx.mix0 rfl ?_ | refine Mx.mix1 rfl ?_); go_big_quiet_step (fail); refine wpQuiet_nil ?_)
              refine Mx.mix3 rfl ?_
              go_wp2_with fail
              refine (CY1.out _ (below_step HB21.out HB_wa7.out)).mono ?_
              rintro r wa8 ⟨⟨y, rfl, hy⟩, hb⟩
              obtain ⟨ya, yc, yf⟩ := hy.form
              subst yf
              have E_wa8 : Hid (IntsAt wa8 (.slice ya m yc) ys) := by have := hy; rw [HNY.out] at this ⊢; exact this.ints
              clear hy
              have U_wa8 := Lib.hid (U_wa7.out.below hb)
              have X_wa8 := Lib.hid (X_wa7.out.below hb X_wa7.out.lt)
              have HB_wa8 : Hid (Below w21.heap.size w21 wa8) := HB_wa7.out.trans (hb.mono HB_wa7.out.size)
              have HG_wa8 := Lib.hid (regrown_of_below HB_wa8.out)
              clear hb
              go_wp2
              refine Mx.mid_normal (fun q => (by first | cases q | exact absurd q (by decide))) ?_
              repeat ((first | refine Mx.mix0 rfl ?_ | refine Mx.mix1 rfl ?_); go_big_quiet_step (fail); refine wpQuiet_nil ?_)
              refine Mx.mix3 rfl ?_
              go_wp2_with fail
              refine (CI1.out _ _ _ U_wa8.out E_wa8.out).mono ?_
              rintro r wa9 ⟨⟨s, ss, rfl, hsr, hss⟩, hb⟩
              have hs : EntsAt wa9 s rs := by have := hsr.own'.at; rw [hss] at this; exact this
              obtain ⟨sa, sc, sf, _, _⟩ := hs.cells
              rw [← HRN.out] at sf
              subst sf
              have R_wa9 := Lib.hid hsr
              have S_wa9 := Lib.hid hss
              have V_wa9 := Lib.hid hs
              have XL_wa9 : Hid (wa1.heap.size < wa8.heap.size) := X_wa8.out.lt
              clear hs hsr hss
              have X_wa9 := Lib.hid (X_wa8.out.below hb X_wa8.out.lt)
              have HB_wa9 : Hid (Below w21.heap.size w21 wa9) := HB_wa8.out.trans (hb.mono HB_wa8.out.size)
              have HG_wa9 := Lib.hid (regrown_of_below HB_wa9.out)
              clear hb
              go_wp2
              refine Mx.mid_normal (fun q => (by first | cases q | exact absurd q (by decide))) ?_
              repeat ((first | refine Mx.mix0 rfl ?_ | refine Mx.mix1 rfl ?_); go_big_quiet_step (fail); refine wpQuiet_nil ?_)
              refine Mx.mix3 rfl ?_
              have cX := X_wa9.out.cell
              have fX := X_wa9.out.frozen
              go_wp2_with fail
              refine Mx.mid_normal (fun q => (by cases q)) ?_
              repeat ((first | refine Mx.mix0 rfl ?_ | refine Mx.mix1 rfl ?_); go_big_quiet_step (fail); refine wpQuiet_nil ?_)
              refine Mx.mix_nil ?_
              have V9 : Hid (EntsAt (World.setCell wa9 ⟨wa1.heap.size, 0, none⟩ (.slice sa rn sc)) (.slice sa rn sc) rs) := (by have := (R_wa9.out.setCell (o := 0) (x := .slice sa rn sc) XL_wa9.out).own'.at; rw [S_wa9.out] at this; exact this)
              have X9 := Lib.hid (X_wa9.out.set (.slice sa rn sc))
              have HB9 := Lib.hid (HB_wa9.out.setCell (p := ⟨wa1.heap.size, 0, none⟩) L_wa7.out (.slice sa rn sc))
              have L9 := L_wa7
              clear cX fX
              go_wp2_with fail
              go_meet
              case rel => exact ⟨_, _, _, rfl, rfl, L9, X9, V9, HB9⟩
          case' F31d =>
            go_wp2_with fail
            obtain ⟨wa10, hW⟩ : ∃ W, W = (World.alloc w21 (.cells #[.slice none 0 0] 26)).drew := ⟨_, rfl⟩
            have X_wa10 : Hid (BoxV wa10 w21.heap.size 26 (.slice none 0 0)) := by rw [hW]; exact BoxV.new _ _ _
            have L_wa10 : Hid (w21.heap.size ≤ w21.heap.size) := Nat.le_refl _
            have HB_wa10 : Hid (Below w21.heap.size w21 wa10) := by rw [hW]; exact (below_al _ _).drew
            have hbA := True.intro
            have HG_wa10 := Lib.hid (regrown_of_below HB_wa10.out)
            rw [← hW]
            refine Mx.mid_normal (fun _ => HG_wa10.out) ?_
            clear hW hbA
            repeat ((first | refine Mx.mix0 rfl ?_ | refine Mx.mix1 rfl ?_); go_big_quiet_step (fail); refine wpQuiet_nil ?_)
            refine Mx.mix2 rfl ?_
            go_wp2_with fail
            refine (CT1.out _ (below_step HB21.out HB_wa10.out)).mono ?_
            rintro r wa11 ⟨⟨u, rfl, hu⟩, hb⟩
            obtain ⟨ua, uc, uf, _, _⟩ := hu.at.cells
            rw [← HN.out] at uf
            subst uf
            have U_wa11 := Lib.hid hu.at
            clear hu
            have X_wa11 := Lib.hid (X_wa10.out.below hb X_wa10.out.lt)
            have HB_wa11 : Hid (Below w21.heap.size w21 wa11) := HB_wa10.out.trans (hb.mono HB_wa10.out.size)
            have HG_wa11 := Lib.hid (regrown_of_below HB_wa11.out)
            clear hb
            go_wp2
            refine Mx.mid_normal (fun _ => HG_wa11.out) ?_
            repeat ((first | refine Mx.mix0 rfl ?_ | refine Mx.mix1 rfl ?_); go_big_quiet_step (fail); refine wpQuiet_nil ?_)
            refine Mx.mix3 rfl ?_
            go_wp2_with fail
            refine (CY1.out _ (below_step HB21.out HB_wa11.out)).mono ?_
            rintro r wa12 ⟨⟨y, rfl, hy⟩, hb⟩
            obtain ⟨ya, yc, yf⟩ := hy.form
            subst yf
            have E_wa12 : Hid (IntsAt wa12 (.slice ya m yc) ys) := by have := hy; rw [HNY.out] at this ⊢; exact this.ints
            clear hy
            have X_wa12 := Lib.hid (X_wa11.out.below hb X_wa11.out.lt)
            have U_wa12 := Lib.hid (U_wa11.out.below hb)
            have HB_wa12 : Hid (Below w21.heap.size w21 wa12) := HB_wa11.out.trans (hb.mono HB_wa11.out.size)
            have HG_wa12 := Lib.hid (regrown_of_below HB_wa12.out)
            clear hb
            go_wp2
            refine Mx.mid_normal (fun q => (by first | cases q | exact absurd q (by decide))) ?_
            repeat ((first | refine Mx.mix0 rfl ?_ | refine Mx.mix1 rfl ?_); go_big_quiet_step (fail); refine wpQuiet_nil ?_)
            refine Mx.mix3 rfl ?_
            go_wp2_with fail
            refine (CI1.out _ _ _ U_wa12.out E_wa12.out).mono ?_
            rintro r wa13 ⟨⟨s, ss, rfl, hsr, hss⟩, hb⟩
            have hs : EntsAt wa13 s rs := by have := hsr.own'.at; rw [hss] at this; exact this
            obtain ⟨sa, sc, sf, _, _⟩ := hs.cells
            rw [← HRN.out] at sf
            subst sf
            have R_wa13 := Lib.hid hsr
            have S_wa13 := Lib.hid hss
            have V_wa13 := Lib.hid hs
            have XL_wa13 : Hid (w21.heap.size < wa12.heap.size) := X_wa12.out.lt
            clear hs hsr hss
            have X_wa13 := Lib.hid (X_wa12.out.below hb X_wa12.out.lt)
            have HB_wa13 : Hid (Below w21.heap.size w21 wa13) := HB_wa12.out.trans (hb.mono HB_wa12.out.size)
            have HG_wa13 := Lib.hid (regrown_of_below HB_wa13.out)
            clear hb
            go_wp2
            refine Mx.mid_normal (fun q => (by first | cases q | exact absurd q (by decide))) ?_
            repeat ((first | refine Mx.mix0 rfl ?_ | refine Mx.mix1 rfl ?_); go_big_quiet_step (fail); refine wpQuiet_nil ?_)
            refine Mx.mix3 rfl ?_
            have cX := X_wa13.out.cell
            have fX := X_wa13.out.frozen
            go_wp2_with fail
            refine Mx.mid_normal (fun q => (by cases q)) ?_
            repeat ((first | refine Mx.mix0 rfl ?_ | refine Mx.mix1 rfl ?_); go_big_quiet_step (fail); refine wpQuiet_nil ?_)
            refine Mx.mix_nil ?_
            have V9 : Hid (EntsAt (World.setCell wa13 ⟨w21.heap.size, 0, none⟩ (.slice sa rn sc)) (.slice sa rn sc) rs) := (by have := (R_wa13.out.setCell (o := 0) (x := .slice sa rn sc) XL_wa13.out).own'.at; rw [S_wa13.out] at this; exact this)
            have X9 := Lib.hid (X_wa13.out.set (.slice sa rn sc))
            have HB9 := Lib.hid (HB_wa13.out.setCell (p := ⟨w21.heap.size, 0, none⟩) L_wa10.out (.slice sa rn sc))
            have L9 := L_wa10
            clear cX fX
            go_wp2_with fail
            go_meet
            case rel => exact ⟨_, _, _, rfl, rfl, L9, X9, V9, HB9⟩
        case rest =>
          obtain ⟨B31, s31a, s31c, rfl, rfl, hcL, hcX, hcV, hcB⟩ := hcut
          obtain ⟨w24, hw24⟩ : ∃ w24, w24 = wc := ⟨_, rfl⟩
          rw [← hw24] at hcX hcV hcB ⊢
          clear hw24
          have HC24 := Lib.hid (below_step HC21.out hcB.out)
          have G24 := Lib.hid (G21.out.below hcB.out)
          have GB24 := Lib.hid (GB21.out.below hcB.out GB21.out.lt)
          have H24 := hcV
          have HX24 := hcX
          clear hcL hcX hcV hcB A21 E21 HB21 HC21 G21 GB21 cA cE0 cE1
          have VXc := Lib.hid (VX5.out.below HC24.out VX5.out.lt)
          have cH := HX24.out.cell
          have cV := VXc.out.cell
          go_wp2_with fail
          refine (CQ.out _ _ w24 H24.out (V5.out.below HC24.out)).mono ?_
          rintro r w25 ⟨rfl, hb⟩
          have G25 := Lib.hid (G24.out.below hb)
          have GB25 := Lib.hid (GB24.out.below hb GB24.out.lt)
          have HC25 := Lib.hid (below_step HC24.out hb)
          clear hb H24 HX24 G24 GB24 HC24 VXc cH cV
          have cG := GB25.out.cell
          go_wp2_with fail
          refine (CH.out _ _ _ w25 G25.out).mono ?_
          rintro r w26 ⟨rfl, hb⟩
          have HB26 := Lib.hid (below_step HB5.out (below_step HC25.out hb))
          clear hb G25 GB25 HC25 cG
          go_wp2
          go_ret
          exact ⟨rfl, HB26.out⟩

/-! ### THE ROW's STEP -/
set_option maxRecDepth 100000 in
theorem contract (H : Type) (enc : TypeId × Value → H) (W : World) (base : Nat) (args : Array Value) (ds gs : List (DataW H)) (before : List MemPlace)
    (hval : ∀ (j : Nat) t v, Tryz.f5.params[j]? = some t → args[j]? = some v → Value.okWide Tryz.prog W .any base t v)
    (hW : DataW.Whole enc Tryz.prog Tryz.f5.params.toList Rows.fnExactInsertSpec.vars false W args.toList ds gs before) (hL : laidMetH Tryz.prog Rows.fnExactInsertRow.laid W) (hS : W.ShapedOpen Tryz.prog) :
    Calls Tryz.prog 5 args W fun e W' => ∃ v, e = .returned v ∧ Rows.fnExactInsertSpec.post enc Tryz.prog Tryz.f5 false true false false W args v W' := by
  have hW' := hW
  obtain ⟨p, q, hA0, hV, rfl, hfz, hnd⟩ := hW
  have hA : DataW.TrodAll enc Tryz.prog W 0 (fun _ => true) true Tryz.f5.params.toList args.toList ds p := hA0
  rw [Tryz.params5] at hA hval
  obtain ⟨v0, vs0, d0, ds0, p0, q0, hargs, rfl, rfl, h0, r0⟩ := trodAll_cons hA
  obtain ⟨v1, vs1, d1, ds1, p1, q1, rfl, rfl, rfl, h1, r1⟩ := trodAll_cons r0
  obtain ⟨rfl, rfl, rfl⟩ := trodAll_nil r1
  obtain rfl : args = #[v0, v1] := by cases args; simp_all
  obtain ⟨rfl, rfl⟩ := trodVars_none hV
  have k0 := h0
  have lt0 : ∀ x ∈ p0, x.block < W.heap.size := by obtain ⟨m, hm⟩ := k0; exact DataW.trod_lt m _ _ _ hm
  obtain ⟨u0, d0, rfl, w0⟩ := open_dictV Tryz.underlying49 (by kernel_rfl) (by kernel_rfl) ⟨rfl, rfl⟩ Tryz.underlying47 Tryz.underlying50 (by kernel_rfl) (by kernel_rfl) (by kernel_rfl) (by kernel_rfl) ⟨rfl, rfl⟩ ⟨rfl, rfl⟩ Tryz.underlying27 Tryz.underlying3 Tryz.underlying9 (hval 0 49 v0 rfl rfl) h0
  have k1 := h1
  have lt1 : ∀ x ∈ p1, x.block < W.heap.size := by obtain ⟨m, hm⟩ := k1; exact DataW.trod_lt m _ _ _ hm
  obtain ⟨u1, e1, rfl, w1⟩ := open_entV Tryz.underlying50 (by kernel_rfl) (by kernel_rfl) (by kernel_rfl) ⟨rfl, rfl⟩ ⟨rfl, rfl⟩ Tryz.underlying27 Tryz.underlying3 Tryz.underlying9 (by kernel_rfl) (hval 1 50 v1 rfl rfl) h1
  clear hA0 hval
  refine (walk u0 d0 u1 e1 W hS  w0 w1).mono fun e W' ⟨he, bel⟩ => ?_
  subst he
  exact ⟨_, rfl, _, _, _, [], _, [], hW', trodAll_mk1 (shut_bool Tryz.underlying4 _), (trodAll_cons_mk (Below.trod laidOut (by kernel_rfl) (of_decide_eq_true (by kernel_rfl)) k0 bel lt0) (trodAll_cons_mk (Below.trod laidOut (by kernel_rfl) (of_decide_eq_true (by kernel_rfl)) k1 bel lt1) trodAll_mk0)), rfl, bel.frame _, fun h => by cases h⟩

theorem reads (os : Os) {H : Type} (enc : TypeId × Value → H) : ∃ places, DataW.whole enc Tryz.prog ((World.holding Tryz.prog os ⟨#[], #[], []⟩).forCall (fun _ _ => 0) ⟨#[], #[.agg #[.slice none 0 0], .agg #[.slice none 0 0, .string ByteArray.empty]], []⟩).memory Tryz.f5.params.toList Rows.fnExactInsertSpec.vars false (#[.agg #[.slice none 0 0], .agg #[.slice none 0 0, .string ByteArray.empty]] : Array Value).toList 8 = some ([.agg [.nil], .agg [.nil, .lit (.string [])]], [], places) :=
  ⟨[], by kernel_rfl⟩

set_option maxRecDepth 100000 in
theorem lifted (os : Os) (started : os.Started) (H : Type) (enc : TypeId × Value → H) (F : Stop.Interp) :
    ReturnsInHanded {} Tryz.checked os 5 .any ((OpenSpec.ofChange Rows.fnExactInsertSpec).preRow enc Tryz.prog Tryz.f5 Rows.fnExactInsertRow.domain false Rows.fnExactInsertRow.laid) (((OpenSpec.ofChange Rows.fnExactInsertSpec).at F).post enc Tryz.prog Tryz.f5 false true false false) := by
  obtain ⟨places, hx⟩ := reads os enc
  refine returnsInHanded_of_row (C := Tryz.checked) (s := OpenSpec.ofChange Rows.fnExactInsertSpec) own started (by kernel_rfl) Tryz.func5
    (witness_row_atRef (enc := enc) (C := Tryz.checked) false (World.holding Tryz.prog os ⟨#[], #[], []⟩) #[.agg #[.slice none 0 0], .agg #[.slice none 0 0, .string ByteArray.empty]] rfl (by kernel_rfl) (by kernel_rfl) (by kernel_rfl)
      (OpenSpec.preRow_of_cond 8 hx (by kernel_rfl) (fun k hk => by cases hk) (by kernel_rfl) ⟨[], rfl, List.nodup_nil, fun b off h => by cases h⟩)) ?_
  intro W base args ds gs before hval hW _ _ _ hL hS _
  exact contract H enc W base args ds gs before hval hW hL hS

theorem said : Rows.FnExactInsertSaid :=
  OpenClaim.holds_of_cond 5 Tryz.f5 rfl rfl rfl rfl rfl rfl rfl ⟨rfl, rfl, rfl, rfl, rfl⟩ rfl rfl rfl rfl rfl (by kernel_rfl) Tryz.func5 (by kernel_rfl)
    (of_decide_eq_true (by kernel_rfl)) (by unfold Func.isWrapper; first | (rw [if_pos (by decide +kernel)]; kernel_rfl) | (rw [if_neg (by decide +kernel)]; exact ⟨rfl, rfl⟩))
    (fun os started H enc _ F => by rw [OpenClaim.pre_eq_preRow]; exact lifted os started H enc F)

theorem proved : Rows.FnExactInsertSaid := said
#print axioms proved
end Go.Proofs.YtllmghcemdgohaaGreat.fnExactInsert
