/-
  laws.FnExactDelete returns true whatever the dictionary and the list of ints: impl.Delete answers as the specification, leaves its arguments, and its answer owns its memory. Conditions: none but the row's own.
-/
import Derived.Test.YtllmghcemdgohaaGreatRows
import Derived.WalkKit
import Derived.ProofKit
import Derived.OpenShut
import Derived.ShutString
import Derived.ChangeOld
import Derived.Below
import Derived.SliceStrings
import Derived.JoinedCond
import Derived.Deep.DeepHandedRow
import Derived.Deep.DeepWitnessRowRef
import Derived.Lib.Hide
import Derived.Test.YtllmghcemdgohaaGreatSpecI
import Derived.Test.YtllmghcemdgohaaGreatPD
namespace Go.Proofs.YtllmghcemdgohaaGreat.fnExactDelete
open Go.ChangeShapes Go.WideShapes Go.ChangeAt Go.RowKit
open Go.ChangeMaps (open_string shut_string)
set_option linter.unusedVariables false
set_option maxRecDepth 100000

theorem own : ownKnob Tryz.prog.godebug = none := by kernel_rfl
theorem laidOut : laidOutB Tryz.prog = true := by kernel_rfl

/-- A slice of integers that came in. -/
def IsRow (k : IntKind) (w : World) (a : Option Addr) (len cap : Nat) (zs : List Int) : Prop :=
  (a = none ∧ len = 0 ∧ cap = 0 ∧ zs = []) ∨
  ∃ x, a = some x ∧ len ≤ cap ∧ cap ≤ maxLen ∧ zs.length = cap ∧ (∀ i, i < zs.length → w.cell? (x.add i) = some (.int k (zs.getD i 0))) ∧ ∀ n ∈ zs, (Lit.int k n).wf = true

theorem ints_of {w : World} {a : Option Addr} {n c : Nat} {z : List Int} (h : IsRow .i64 w a n c z) : (z.take n).length = n ∧ n ≤ maxLen ∧ IntsAt w (.slice a n c) (z.take n) := by
  rcases h with ⟨rfl, rfl, rfl, rfl⟩ | ⟨x, rfl, hl, hm, hs, hcell, hz⟩
  · exact ⟨rfl, by decide, IntsAt.nil _ _ _⟩
  · have hlen : (z.take n).length = n := by rw [List.length_take]; omega
    refine ⟨hlen, by omega, ?_⟩
    by_cases h0 : n = 0
    · subst h0; exact IntsAt.nil _ _ _
    · obtain ⟨b, o, spot⟩ := x
      have h1 := hcell 0 (by omega)
      have hspot : spot = none := by simpa [Addr.add] using World.cell?_spot h1
      subst hspot
      refine ⟨_, c, by rw [hlen], by rw [hlen]; exact hl, .inr ⟨b, o, rfl, ?_, fun j y hy => ?_⟩⟩
      · have : (w.cell? ⟨b, o, none⟩).isSome := by have := h1; simp [Addr.add] at this; rw [this]; rfl
        rcases Nat.lt_or_ge b w.heap.size with h' | h'
        · exact h'
        · simp [World.cell?, Array.getElem?_eq_none h'] at this
      · have hj : j < n := by
          rcases Nat.lt_or_ge j n with h' | h'
          · exact h'
          · rw [List.getElem?_eq_none (by rw [hlen]; exact h')] at hy; cases hy
        have h2 := hcell j (by omega)
        rw [List.getElem?_take_of_lt hj] at hy
        by_cases hj0 : j = 0
        · subst hj0; simpa [Addr.add, List.getD, hy] using h2
        · simpa [Addr.add, List.getD, hy, hj0] using h2
theorem delR_small (ys : List Int) (es : List Ent) : (delR ys es).length ≤ 40 ∧ ∀ e ∈ delR ys es, okE e = true := by
  unfold delR
  cases h : okD es
  · exact ⟨Nat.zero_le _, fun e he => by cases he⟩
  · obtain ⟨h1, h2, _⟩ := okD_parts h
    cases Pl.idx ys es with
    | none => exact ⟨Nat.zero_le _, fun e he => by cases he⟩
    | some k => exact ⟨Nat.le_trans (Pl.del_sub k es).length_le h1, fun e he => h2 e ((Pl.del_sub k es).subset he)⟩
/-! ### THE WALK: the Go text returns true, and writes nothing that was there. -/
set_option maxRecDepth 100000 in
set_option maxHeartbeats 1000000 in
theorem walk (u0 : Value) (d0 : List Ent) (a1 : Option Addr) (n1 c1 : Nat) (z1 : List Int) (w : World) (hS : w.ShapedOpen Tryz.prog)  (w0 : EntsIn w u0 d0) (w1 : IsRow .i64 w a1 n1 c1 z1) :
    Calls Tryz.prog 6 #[dV u0, .slice a1 n1 c1] w fun e w' => e = .returned (.bool true) ∧ Below w.heap.size w w' := by
  obtain ⟨hat, hlen, hfine⟩ := w0
  obtain ⟨hlen1, hnm1, hrow1⟩ := ints_of w1
  obtain ⟨ys, hzs1⟩ : ∃ ys, ys = z1.take n1 := ⟨_, rfl⟩
  rw [← hzs1] at hlen1 hrow1
  unfold maxLen at hnm1
  clear w1 hzs1 hS
  have CZ := Lib.hid (fun w' hb => szDw_any u0 d0 w' ⟨hat.below (w' := w') hb, hlen, hfine⟩)
  have CT := Lib.hid (fun hn hx w' hb => toD_any u0 d0 w' (hat.below (w' := w') hb) hn hx)
  by_cases hbig : 1048576 < n1
  · obtain ⟨a, cap, rfl, hcap, _⟩ := hat.cells
    clear hat hlen hfine CZ CT hlen1 hrow1
    unfold dV
    go_enter Tryz.func6, Tryz.ntmps6
    go_wp2
    go_ret
    exact ⟨rfl, below_al _ _⟩
  · have CE := Lib.hid (fun u v w h h' hn hx => eqD_same u v d0 w h h' hn hx)
    have cs := fun v u w h h' hn hx => specDelete_any v d0 u ys w h h' hn hx (by omega)
    have ci := fun v u w h h' hn hx => Delete_any v d0 u ys w h h' hn hx (by omega)
    have CY := Lib.hid (fun w' hb => toI_own _ ys w' (hrow1.below (w' := w') hb) (by omega))
    have CYE := Lib.hid (fun v u w h h' => eqI_same v u ys w h h' (by omega))
    have CMI := Lib.hid (fun base m0 v f w h hm => markI_t base m0 v ys.length f w h (by omega) hm)
    obtain ⟨hrl, hre⟩ := delR_small ys d0
    obtain ⟨rs, hrs⟩ : ∃ rs, rs = delR ys d0 := ⟨_, rfl⟩
    obtain ⟨b, hb⟩ : ∃ b, b = delB ys d0 := ⟨_, rfl⟩
    rw [← hrs, ← hb] at cs ci
    rw [← hrs] at hrl hre
    have hsm : ∀ e ∈ rs, e.1.length ≤ 6 := fun e he => (okE_size (hre e he)).2.1
    have hend : endE 1 rs ≤ 1100000 := by have := endE_le 1 rs 6 hsm; omega
    have hok : ∀ e ∈ rs, entOk e := fun e he => by have := okE_size (hre e he); exact ⟨by omega, by omega⟩
    have hsm2 : ∀ e ∈ rs, e.1.length ≤ 1100000 := fun e he => by have := hsm e he; omega
    unfold OutEn at cs
    unfold OutD at ci
    have CS := Lib.hid cs
    have CI := Lib.hid ci
    have CQ := Lib.hid (fun v u w hv hu => eqD_same v u rs w hv hu (by omega) hok)
    have CM := Lib.hid (fun base S v w h hS hb => markD_any base S v rs w h hend (by omega) hS hb hsm2)
    have CH := Lib.hid (fun base S v w h => heldD_any base S v rs w h hend (by omega) hsm2)
    have CMD := Lib.hid (fun base S v w h hm hn hS hb hx => markD_any base S v d0 w h hm hn hS hb hx)
    obtain ⟨a, cap, rfl, hcap, _⟩ := hat.cells
    have HWt := Lib.hid (endE_wt 1 d0)
    have HWi := Lib.hid (fun h => wtE_in (es := d0) h)
    obtain ⟨n, hnn⟩ : ∃ n, n = d0.length := ⟨_, rfl⟩
    have HN := Lib.hid hnn
    unfold dV at CZ CT CS CI CE CMD CQ CM CH ⊢
    rw [← hnn] at CZ CT CS CI CE CMD hcap HWt HWi ⊢
    obtain ⟨E, hE⟩ : ∃ E, E = endE 1 d0 := ⟨_, rfl⟩
    rw [← hE] at CMD HWt
    obtain ⟨WT, hWT⟩ : ∃ WT, WT = wtE d0 := ⟨_, rfl⟩
    rw [← hWT] at CZ HWt HWi
    obtain ⟨M, hM⟩ : ∃ M, M = endE 1 rs := ⟨_, rfl⟩
    rw [← hM] at CM CH hend
    obtain ⟨rn, hrn⟩ : ∃ rn, rn = rs.length := ⟨_, rfl⟩
    have HRN := Lib.hid hrn
    clear hat hlen hfine hlen1 hrow1 hend hok hsm hsm2 hre hrs hb cs ci hnn hE hWT hM hrn
    go_enter Tryz.func6, Tryz.ntmps6
    go_wp2_with fail
    refine (CZ.out _ (below_al _ _)).mono ?_
    rintro r w1 ⟨⟨q, rfl, hq⟩, hb⟩
    have A1 : Hid (BoxV w1 w.heap.size 49 (.slice a n cap)) := (BoxV.new w _ _).below hb (by simp)
    have HB1 := Lib.hid (below_box hb)
    clear hb
    rcases hq with rfl | ⟨hq0, hq1⟩
    · go_wp2
      go_ret
      exact ⟨rfl, HB1.out⟩
    · have hnq : ¬ q < 0 := by omega
      have hwt : WT + n ≤ 1048576 := by omega
      have hE1 : E ≤ 1100000 := by have := HWt.out; omega
      obtain ⟨hn, hx⟩ := HWi.out hwt
      have CT1 := Lib.hid (CT.out hn hx)
      have CS1 := Lib.hid (fun v u w h h' => CS.out v u w h h' (by omega) (fun e he => (hx e he).ok))
      have CI1 := Lib.hid (fun v u w h h' => CI.out v u w h h' (by omega) (fun e he => (hx e he).ok))
      have CE1 := Lib.hid (fun u v w h h' => CE.out u v w h h' (by omega) (fun e he => (hx e he).ok))
      have CMD1 := Lib.hid (fun base S v w h hS hb => CMD.out base S v w h hE1 (by omega) hS hb (fun e he => by have := (hx e he).1; omega))
      clear CT CS CI CE CZ CMD hx hn hq0 hq1 HWi HWt hwt
      have cA := A1.out.cell
      go_wp2_with fail
      refine (CT1.out w1 HB1.out).mono ?_
      rintro r w2 ⟨⟨u, rfl, hu⟩, hb⟩
      obtain ⟨ua, uc, uf, _, _⟩ := hu.at.cells
      rw [← HN.out] at uf
      subst uf
      have U2 := Lib.hid hu
      have A2 := Lib.hid (A1.out.below hb A1.out.lt)
      have HB2 := Lib.hid (below_step HB1.out hb)
      clear hb hu A1 HB1 cA
      go_wp2_with fail
      refine (CY.out w2 HB2.out).mono ?_
      rintro r w3 ⟨⟨y, rfl, hy⟩, hb⟩
      have Y3 := Lib.hid hy
      have U3 := Lib.hid (U2.out.below hb)
      have A3 := Lib.hid (A2.out.below hb A2.out.lt)
      have HB3 := Lib.hid (below_step HB2.out hb)
      clear hb hy U2 A2 HB2
      go_wp2_with fail
      refine (CS1.out _ _ w3 U3.out.at Y3.out.ints).mono ?_
      rintro r w4 ⟨⟨s, ss, rfl, hsr, hss⟩, hb⟩
      have hs : EntsAt w4 s rs := by have := hsr.at.at; rw [hss] at this; exact this
      clear hsr hss
      obtain ⟨sa, sc, sf, _, _⟩ := hs.cells
      rw [← HRN.out] at sf
      subst sf
      obtain ⟨w5, hW⟩ : ∃ W, W = w4.alloc (.cells #[.slice sa rn sc] 26) := ⟨_, rfl⟩
      have hbA : Below w4.heap.size w4 w5 := by rw [hW]; exact below_al _ _
      have hSA : w4.heap.size < w5.heap.size := by rw [hW]; simp
      have VX5 : Hid (BoxV w5 w4.heap.size 26 (.slice sa rn sc)) := by rw [hW]; exact BoxV.new _ _ _
      have HW_w5 := Lib.hid hW
      have SA_w5 := Lib.hid hSA
      have V5 := Lib.hid (hs.below hbA)
      have A5 := Lib.hid ((A3.out.below hb A3.out.lt).below hbA (by have := A3.out.lt; have := hb.size; omega))
      have HB5 := Lib.hid (below_step (below_step HB3.out hb) hbA)
      clear hb hs hbA hW hSA U3 Y3 A3 HB3
      have cA := A5.out.cell
      rw [HW_w5.out] at cA
      go_wp2_with fail
      rw [← HW_w5.out]
      refine (CT1.out w5 HB5.out).mono ?_
      rintro r w6 ⟨⟨x, rfl, hx⟩, hb⟩
      obtain ⟨xa, xc, xf, _, _⟩ := hx.at.cells
      rw [← HN.out] at xf
      subst xf
      have S56 : Hid (w5.heap.size ≤ w6.heap.size) := hb.size
      obtain ⟨w7, hW⟩ : ∃ W, W = w6.alloc (.cells #[.slice xa n xc] 26) := ⟨_, rfl⟩
      have hbA : Below w6.heap.size w6 w7 := by rw [hW]; exact below_al _ _
      have hSA : w6.heap.size < w7.heap.size := by rw [hW]; simp
      have XB7 : Hid (BoxV w7 w6.heap.size 26 (.slice xa n xc)) := by rw [hW]; exact BoxV.new _ _ _
      have HW_w7 := Lib.hid hW
      have SA_w7 := Lib.hid hSA
      have X7 := Lib.hid (hx.below hbA)
      have HC7 := Lib.hid (below_step hb hbA)
      clear hb hx hbA hW hSA cA HW_w5
      go_wp2_with fail
      rw [← HW_w7.out]
      refine (CY.out w7 (below_step HB5.out HC7.out)).mono ?_
      rintro r w8 ⟨⟨z, rfl, hz⟩, hb⟩
      have Z8 := Lib.hid hz
      have X8 := Lib.hid (X7.out.below hb)
      have XB8 := Lib.hid (XB7.out.below hb XB7.out.lt)
      have HC8 := Lib.hid (below_step HC7.out hb)
      have S78 : Hid (w7.heap.size ≤ w8.heap.size) := hb.size
      clear hb hz X7 XB7 HC7 HW_w7
      have cX := XB8.out.cell
      go_wp2_with fail
      refine (CI1.out _ _ w8 X8.out.at Z8.out.ints).mono ?_
      rintro r w9 ⟨⟨gv, us, rfl, hg, hus⟩, hb⟩
      have hG : OwnEs w9 w8.heap.size w9.heap.size gv rs := by rw [← hus]; exact hg.own'
      obtain ⟨ga, gc, gf, _, _⟩ := hG.at.cells
      rw [← HRN.out] at gf
      subst gf
      have S89 : Hid (w8.heap.size ≤ w9.heap.size) := hb.size
      obtain ⟨w10, hW⟩ : ∃ W, W = w9.alloc (.cells #[.slice ga rn gc] 26) := ⟨_, rfl⟩
      have hbA : Below w9.heap.size w9 w10 := by rw [hW]; exact below_al _ _
      have hSA : w9.heap.size < w10.heap.size := by rw [hW]; simp
      have GB10 : Hid (BoxV w10 w9.heap.size 26 (.slice ga rn gc)) := by rw [hW]; exact BoxV.new _ _ _
      have HW_w10 := Lib.hid hW
      have SA_w10 := Lib.hid hSA
      have hb10 := below_step hb hbA
      have G10 := Lib.hid (hG.below hbA)
      have X10 := Lib.hid (X8.out.below hb10)
      have XB10 := Lib.hid (XB8.out.below hb10 XB8.out.lt)
      have Z10 := Lib.hid (Z8.out.below hb10)
      have HC10 := Lib.hid (below_step HC8.out hb10)
      clear hb hg hus hG hb10 hbA hW hSA X8 XB8 HC8 cX
      have VXc := Lib.hid (VX5.out.below HC10.out VX5.out.lt)
      have cG := GB10.out.cell
      rw [HW_w10.out] at cG
      have cV := VXc.out.cell
      rw [HW_w10.out] at cV
      go_wp2_with fail
      rw [← HW_w10.out]
      refine (CQ.out _ _ w10 G10.out.at (V5.out.below HC10.out)).mono ?_
      rintro r w11 ⟨rfl, hb⟩
      have G11 := Lib.hid (G10.out.below hb)
      have X11 := Lib.hid (X10.out.below hb)
      have Z11 := Lib.hid (Z10.out.below hb)
      have XB11 := Lib.hid (XB10.out.below hb XB10.out.lt)
      have GB11 := Lib.hid (GB10.out.below hb GB10.out.lt)
      have HC11 := Lib.hid (below_step HC10.out hb)
      have S1011 : Hid (w10.heap.size ≤ w11.heap.size) := hb.size
      clear hb G10 X10 Z10 XB10 GB10 HC10 VXc cG cV HW_w10
      have Ac := Lib.hid (A5.out.below HC11.out A5.out.lt)
      have HBc := Lib.hid (below_step HB5.out HC11.out)
      have k0 := cell_regrown XB11.out.cell
      have k1 := cell_regrown Ac.out.cell
      go_wp2_with fail
      refine Mx.wp_region_mixed (Mx.ofL [(0, 1), (1, 1), (2, 2), (3, 3), (4, 0)] .done) (by kernel_rfl) (by kernel_rfl) ?_
      repeat ((first | refine Mx.mix0 rfl ?_ | refine Mx.mix1 rfl ?_); go_big_quiet_step (fail); refine wpQuiet_nil ?_)
      refine Mx.mix2 rfl ?_
      go_wp2_with fail
      refine (CT1.out w11.drew HBc.out.drew).mono ?_
      rintro r w12 ⟨⟨t, rfl, ht⟩, hb⟩
      obtain ⟨ta, tc, tf, _, _⟩ := ht.at.cells
      rw [← HN.out] at tf
      subst tf
      have hb12 : Below w11.heap.size w11 w12 := (below_drewN (Below.refl _ _) 1).trans hb
      have T12 := Lib.hid ht.at
      have HG := Lib.hid (regrown_of_below hb12)
      have HB12 := Lib.hid hb12
      have X12 := Lib.hid (X11.out.below hb12)
      clear hb hb12 ht k0 k1
      go_wp2
      refine Mx.mid_normal (fun _ => HG.out) ?_
      refine Mx.mix3 rfl ?_
      go_wp2_with fail
      refine (CE1.out _ _ w12 X12.out.at T12.out).mono ?_
      rintro r w13 ⟨rfl, hb⟩
      have hb13 : Below w11.heap.size w11 w13 := below_step HB12.out hb
      have G13 := Lib.hid (G11.out.below hb13)
      have X13 := Lib.hid (X11.out.below hb13)
      have Z13 := Lib.hid (Z11.out.below hb13)
      have XB13 := Lib.hid (XB11.out.below hb13 XB11.out.lt)
      have GB13 := Lib.hid (GB11.out.below hb13 GB11.out.lt)
      have HC13 := Lib.hid (below_step HC11.out hb13)
      have S1113 : Hid (w11.heap.size ≤ w13.heap.size) := hb13.size
      clear hb hb13 G11 X11 Z11 XB11 GB11 HC11 Ac HBc HB12 T12 X12 HG
      go_wp2
      refine Mx.mid_normal (fun q => by cases q) ?_
      repeat ((first | refine Mx.mix0 rfl ?_ | refine Mx.mix1 rfl ?_); go_big_quiet_step (fail); refine wpQuiet_nil ?_)
      refine Mx.mix_nil ?_
      go_wp2_with fail
      refine (CY.out w13 (below_step HB5.out HC13.out)).mono ?_
      rintro r w14 ⟨⟨t2, rfl, ht2⟩, hb⟩
      have T14 := Lib.hid ht2.ints
      have G14 := Lib.hid (G13.out.below hb)
      have X14 := Lib.hid (X13.out.below hb)
      have Z14 := Lib.hid (Z13.out.below hb)
      have XB14 := Lib.hid (XB13.out.below hb XB13.out.lt)
      have GB14 := Lib.hid (GB13.out.below hb GB13.out.lt)
      have HC14 := Lib.hid (below_step HC13.out hb)
      have S1314 : Hid (w13.heap.size ≤ w14.heap.size) := hb.size
      clear hb ht2 G13 X13 Z13 XB13 GB13 HC13
      go_wp2_with fail
      refine (CYE.out _ _ w14 Z14.out.ints T14.out).mono ?_
      rintro r w15 ⟨rfl, hb⟩
      have G15 := Lib.hid (G14.out.below hb)
      have X15 := Lib.hid (X14.out.below hb)
      have Z15 := Lib.hid (Z14.out.below hb)
      have XB15 := Lib.hid (XB14.out.below hb XB14.out.lt)
      have GB15 := Lib.hid (GB14.out.below hb GB14.out.lt)
      have HC15 := Lib.hid (below_step HC14.out hb)
      have S1415 : Hid (w14.heap.size ≤ w15.heap.size) := hb.size
      clear hb G14 X14 Z14 XB14 GB14 HC14 T14
      have cX := XB15.out.cell
      go_wp2_with fail
      refine (CMD1.out w5.heap.size w6.heap.size _ w15 X15.out (by have := S56.out; have := SA_w7.out; have := S78.out; have := S89.out; have := SA_w10.out; have := S1011.out; have := S1113.out; have := S1314.out; have := S1415.out; omega) (by have := S56.out; have := SA_w7.out; have := S78.out; have := S89.out; have := SA_w10.out; have := S1011.out; have := S1113.out; have := S1314.out; have := S1415.out; omega)).mono ?_
      rintro r w16 ⟨rfl, _, hT, hb⟩
      have HC16 : Hid (Below w5.heap.size w5 w16) := HC15.out.trans hb
      have Z16 := Lib.hid (Z15.out.touch hT (fun h0 g hg q => by have := Z15.out.ge h0 hg; have := q.2; have := SA_w7.out; omega))
      have G16 := Lib.hid (G15.out.touch hT (fun b h1 h2 q => by have := q.2; have := S56.out; have := SA_w7.out; have := S78.out; have := S89.out; have := SA_w10.out; have := S1011.out; have := S1113.out; have := S1314.out; have := S1415.out; omega))
      have GB16 := Lib.hid (GB15.out.touch hT (fun q => by have := q.2; have := S56.out; have := SA_w7.out; have := S78.out; have := S89.out; have := SA_w10.out; have := S1011.out; have := S1113.out; have := S1314.out; have := S1415.out; omega))
      have S1516 : Hid (w15.heap.size ≤ w16.heap.size) := hb.size
      have hEp : ¬ ((E : Int)) < 0 := by omega
      clear hb hT X15 XB15 Z15 G15 GB15 HC15 cX
      go_wp2_with fail
      refine (CMI.out w7.heap.size E _ _ w16 Z16.out (by omega)).mono ?_
      rintro r w17 ⟨rfl, _, hT, hb⟩
      have HC17 : Hid (Below w5.heap.size w5 w17) := HC16.out.trans (hb.mono (by have := S56.out; have := SA_w7.out; omega))
      have G17 := Lib.hid (G16.out.touch hT (fun b h1 h2 q => by have := Z8.out.lt q.1 _ q.2; omega))
      have GB17 := Lib.hid (GB16.out.touch hT (fun q => by have := Z8.out.lt q.1 _ q.2; have := S89.out; omega))
      have S1617 : Hid (w16.heap.size ≤ w17.heap.size) := hb.size
      have hKp : ¬ (((E + ys.length : Nat) : Int)) < 0 := by omega
      have hKp2 : ¬ ((E : Int) + (ys.length : Int)) < 0 := by omega
      clear hb hT Z16 G16 GB16 HC16
      have VXc := Lib.hid (VX5.out.below HC17.out VX5.out.lt)
      have cG := GB17.out.cell
      have cV := VXc.out.cell
      go_wp2_with fail
      refine (CQ.out _ _ w17 G17.out.at (V5.out.below HC17.out)).mono ?_
      rintro r w18 ⟨rfl, hb⟩
      have G18 := Lib.hid (G17.out.below hb)
      have GB18 := Lib.hid (GB17.out.below hb GB17.out.lt)
      have HC18 := Lib.hid (below_step HC17.out hb)
      have S1718 : Hid (w17.heap.size ≤ w18.heap.size) := hb.size
      clear hb G17 GB17 HC17 VXc cG cV hKp hKp2 hEp
      have cG := GB18.out.cell
      go_wp2_with fail
      refine (CM.out w8.heap.size w9.heap.size _ w18 G18.out (by have := S56.out; have := SA_w7.out; have := S78.out; have := S89.out; have := SA_w10.out; have := S1011.out; have := S1113.out; have := S1314.out; have := S1415.out; have := S1516.out; have := S1617.out; have := S1718.out; omega) (by have := S56.out; have := SA_w7.out; have := S78.out; have := S89.out; have := SA_w10.out; have := S1011.out; have := S1113.out; have := S1314.out; have := S1415.out; have := S1516.out; have := S1617.out; have := S1718.out; omega)).mono ?_
      rintro r w19 ⟨rfl, hO, hT, hb⟩
      have G19 := Lib.hid hO
      have HC19 : Hid (Below w5.heap.size w5 w19) := HC18.out.trans (hb.mono (by have := S56.out; have := SA_w7.out; have := S78.out; have := S89.out; have := SA_w10.out; have := S1011.out; have := S1113.out; have := S1314.out; have := S1415.out; have := S1516.out; have := S1617.out; have := S1718.out; omega))
      have GB19 := Lib.hid (GB18.out.touch hT (fun q => by have := q.2; omega))
      have hMp : ¬ ((M : Int)) < 0 := by omega
      have hMM : ((M : Int) != (M : Int)) = false := by simp
      clear hb hT hO G18 GB18 HC18 cG
      have cG := GB19.out.cell
      go_wp2_with fail
      refine (CH.out _ _ _ w19 G19.out).mono ?_
      rintro r w20 ⟨rfl, hb⟩
      have G20 := Lib.hid (G19.out.below hb)
      have GB20 := Lib.hid (GB19.out.below hb GB19.out.lt)
      have HC20 := Lib.hid (below_step HC19.out hb)
      clear hb G19 GB19 HC19 cG
      have Ac := Lib.hid (A5.out.below HC20.out A5.out.lt)
      have cA := Ac.out.cell
      go_wp2_with fail
      refine (CT1.out w20 (below_step HB5.out HC20.out)).mono ?_
      rintro r w21 ⟨⟨p, rfl, hp⟩, hb⟩
      obtain ⟨pa, pc, pf, _, _⟩ := hp.at.cells
      rw [← HN.out] at pf
      subst pf
      have P21 := Lib.hid hp.at
      have G21 := Lib.hid (G20.out.below hb)
      have GB21 := Lib.hid (GB20.out.below hb GB20.out.lt)
      have HC21 := Lib.hid (below_step HC20.out hb)
      clear hb hp G20 GB20 HC20 Ac cA
      go_wp2_with fail
      refine (CY.out w21 (below_step HB5.out HC21.out)).mono ?_
      rintro r w22 ⟨⟨t3, rfl, ht3⟩, hb⟩
      have T22 := Lib.hid ht3.ints
      have P22 := Lib.hid (P21.out.below hb)
      have G22 := Lib.hid (G21.out.below hb)
      have GB22 := Lib.hid (GB21.out.below hb GB21.out.lt)
      have HC22 := Lib.hid (below_step HC21.out hb)
      clear hb ht3 P21 G21 GB21 HC21
      go_wp2_with fail
      refine (CI1.out _ _ w22 P22.out T22.out).mono ?_
      rintro r w23 ⟨⟨hv, us, rfl, hg, hus⟩, hb⟩
      have hH : EntsAt w23 hv rs := by rw [← hus]; exact hg.own'.at
      obtain ⟨ha, hc, hf, _, _⟩ := hH.cells
      rw [← HRN.out] at hf
      subst hf
      obtain ⟨w24, hW⟩ : ∃ W, W = w23.alloc (.cells #[.slice ha rn hc] 26) := ⟨_, rfl⟩
      have hbA : Below w23.heap.size w23 w24 := by rw [hW]; exact below_al _ _
      have hSA : w23.heap.size < w24.heap.size := by rw [hW]; simp
      have HX24 : Hid (BoxV w24 w23.heap.size 26 (.slice ha rn hc)) := by rw [hW]; exact BoxV.new _ _ _
      have HW_w24 := Lib.hid hW
      have SA_w24 := Lib.hid hSA
      have hb24 := below_step hb hbA
      have H24 := Lib.hid (hH.below hbA)
      have G24 := Lib.hid (G22.out.below hb24)
      have GB24 := Lib.hid (GB22.out.below hb24 GB22.out.lt)
      have HC24 := Lib.hid (below_step HC22.out hb24)
      have VXc := Lib.hid (VX5.out.below HC24.out VX5.out.lt)
      clear hb hg hus hH hb24 hbA hW hSA P22 T22 G22 GB22 HC22
      have cH := HX24.out.cell
      rw [HW_w24.out] at cH
      have cV := VXc.out.cell
      rw [HW_w24.out] at cV
      go_wp2_with fail
      rw [← HW_w24.out]
      refine (CQ.out _ _ w24 H24.out (V5.out.below HC24.out)).mono ?_
      rintro r w25 ⟨rfl, hb⟩
      have G25 := Lib.hid (G24.out.below hb)
      have GB25 := Lib.hid (GB24.out.below hb GB24.out.lt)
      have HC25 := Lib.hid (below_step HC24.out hb)
      clear hb H24 HX24 G24 GB24 HC24 VXc cH cV HW_w24
      have cG := GB25.out.cell
      go_wp2_with fail
      refine (CH.out _ _ _ w25 G25.out).mono ?_
      rintro r w26 ⟨rfl, hb⟩
      have HB26 := Lib.hid (below_step HB5.out (below_step HC25.out hb))
      clear hb G25 GB25 HC25 cG
      go_wp2
      go_ret
      exact ⟨rfl, HB26.out⟩

/-! ### THE ROW's STEP -/
set_option maxRecDepth 100000 in
theorem contract (H : Type) (enc : TypeId × Value → H) (W : World) (base : Nat) (args : Array Value) (ds gs : List (DataW H)) (before : List MemPlace)
    (hval : ∀ (j : Nat) t v, Tryz.f6.params[j]? = some t → args[j]? = some v → Value.okWide Tryz.prog W .any base t v)
    (hW : DataW.Whole enc Tryz.prog Tryz.f6.params.toList Rows.fnExactDeleteSpec.vars false W args.toList ds gs before) (hL : laidMetH Tryz.prog Rows.fnExactDeleteRow.laid W) (hS : W.ShapedOpen Tryz.prog) :
    Calls Tryz.prog 6 args W fun e W' => ∃ v, e = .returned v ∧ Rows.fnExactDeleteSpec.post enc Tryz.prog Tryz.f6 false true false false W args v W' := by
  have hW' := hW
  obtain ⟨p, q, hA0, hV, rfl, hfz, hnd⟩ := hW
  have hA : DataW.TrodAll enc Tryz.prog W 0 (fun _ => true) true Tryz.f6.params.toList args.toList ds p := hA0
  rw [Tryz.params6] at hA hval
  obtain ⟨v0, vs0, d0, ds0, p0, q0, hargs, rfl, rfl, h0, r0⟩ := trodAll_cons hA
  obtain ⟨v1, vs1, d1, ds1, p1, q1, rfl, rfl, rfl, h1, r1⟩ := trodAll_cons r0
  obtain ⟨rfl, rfl, rfl⟩ := trodAll_nil r1
  obtain rfl : args = #[v0, v1] := by cases args; simp_all
  obtain ⟨rfl, rfl⟩ := trodVars_none hV
  have k0 := h0
  have lt0 : ∀ x ∈ p0, x.block < W.heap.size := by obtain ⟨m, hm⟩ := k0; exact DataW.trod_lt m _ _ _ hm
  obtain ⟨u0, d0, rfl, w0⟩ := open_dictV Tryz.underlying49 (by kernel_rfl) (by kernel_rfl) ⟨rfl, rfl⟩ Tryz.underlying47 Tryz.underlying50 (by kernel_rfl) (by kernel_rfl) (by kernel_rfl) (by kernel_rfl) ⟨rfl, rfl⟩ ⟨rfl, rfl⟩ Tryz.underlying27 Tryz.underlying3 Tryz.underlying9 (hval 0 49 v0 rfl rfl) h0
  have k1 := h1
  have lt1 : ∀ x ∈ p1, x.block < W.heap.size := by obtain ⟨m, hm⟩ := k1; exact DataW.trod_lt m _ _ _ hm
  obtain ⟨a1, n1, c1, rfl⟩ := okWide_slice Tryz.underlying27 (hval 1 27 v1 rfl rfl)
  obtain ⟨z1, w1⟩ : ∃ zs, IsRow .i64 W a1 n1 c1 zs := by
    obtain ⟨fuel, hf⟩ := h1
    rcases open_ints Tryz.underlying27 Tryz.underlying3 (by kernel_rfl) hf with ⟨hcs, _⟩ | ⟨x, l, c, zs, hcs, _, hl, hm, hz, _, hcell, hwz⟩
    · simp [Value.cells] at hcs
      obtain ⟨rfl, rfl, rfl⟩ := hcs
      exact ⟨[], .inl ⟨rfl, rfl, rfl, rfl⟩⟩
    · simp [Value.cells] at hcs
      obtain ⟨rfl, rfl, rfl⟩ := hcs
      exact ⟨zs, .inr ⟨_, rfl, hl, hm, by simpa using hz, hcell, hwz⟩⟩
  clear hA0 hval
  refine (walk u0 d0 a1 n1 c1 z1 W hS  w0 w1).mono fun e W' ⟨he, bel⟩ => ?_
  subst he
  exact ⟨_, rfl, _, _, _, [], _, [], hW', trodAll_mk1 (shut_bool Tryz.underlying4 _), (trodAll_cons_mk (Below.trod laidOut (by kernel_rfl) (of_decide_eq_true (by kernel_rfl)) k0 bel lt0) (trodAll_cons_mk (Below.trod laidOut (by kernel_rfl) (of_decide_eq_true (by kernel_rfl)) k1 bel lt1) trodAll_mk0)), rfl, bel.frame _, fun h => by cases h⟩

theorem reads (os : Os) {H : Type} (enc : TypeId × Value → H) : ∃ places, DataW.whole enc Tryz.prog ((World.holding Tryz.prog os ⟨#[], #[], []⟩).forCall (fun _ _ => 0) ⟨#[], #[.agg #[.slice none 0 0], .slice none 0 0], []⟩).memory Tryz.f6.params.toList Rows.fnExactDeleteSpec.vars false (#[.agg #[.slice none 0 0], .slice none 0 0] : Array Value).toList 8 = some ([.agg [.nil], .nil], [], places) :=
  ⟨[], by kernel_rfl⟩

set_option maxRecDepth 100000 in
theorem lifted (os : Os) (started : os.Started) (H : Type) (enc : TypeId × Value → H) (F : Stop.Interp) :
    ReturnsInHanded {} Tryz.checked os 6 .any ((OpenSpec.ofChange Rows.fnExactDeleteSpec).preRow enc Tryz.prog Tryz.f6 Rows.fnExactDeleteRow.domain false Rows.fnExactDeleteRow.laid) (((OpenSpec.ofChange Rows.fnExactDeleteSpec).at F).post enc Tryz.prog Tryz.f6 false true false false) := by
  obtain ⟨places, hx⟩ := reads os enc
  refine returnsInHanded_of_row (C := Tryz.checked) (s := OpenSpec.ofChange Rows.fnExactDeleteSpec) own started (by kernel_rfl) Tryz.func6
    (witness_row_atRef (enc := enc) (C := Tryz.checked) false (World.holding Tryz.prog os ⟨#[], #[], []⟩) #[.agg #[.slice none 0 0], .slice none 0 0] rfl (by kernel_rfl) (by kernel_rfl) (by kernel_rfl)
      (OpenSpec.preRow_of_cond 8 hx (by kernel_rfl) (fun k hk => by cases hk) (by kernel_rfl) ⟨[], rfl, List.nodup_nil, fun b off h => by cases h⟩)) ?_
  intro W base args ds gs before hval hW _ _ _ hL hS _
  exact contract H enc W base args ds gs before hval hW hL hS

theorem said : Rows.FnExactDeleteSaid :=
  OpenClaim.holds_of_cond 6 Tryz.f6 rfl rfl rfl rfl rfl rfl rfl ⟨rfl, rfl, rfl, rfl, rfl⟩ rfl rfl rfl rfl rfl (by kernel_rfl) Tryz.func6 (by kernel_rfl)
    (of_decide_eq_true (by kernel_rfl)) (by unfold Func.isWrapper; first | (rw [if_pos (by decide +kernel)]; kernel_rfl) | (rw [if_neg (by decide +kernel)]; exact ⟨rfl, rfl⟩))
    (fun os started H enc _ F => by rw [OpenClaim.pre_eq_preRow]; exact lifted os started H enc F)

theorem proved : Rows.FnExactDeleteSaid := said
#print axioms proved
end Go.Proofs.YtllmghcemdgohaaGreat.fnExactDelete
