/-
  FoldOverrides, of the program and of the specification.
-/
import Derived.Test.YtjmiackiikbodaaGreatLfS
import Derived.Test.YtjmiackiikbodaaGreatRev
namespace Go.Proofs.YtjmiackiikbodaaGreat
set_option maxRecDepth 100000
open Go.RowKit

/-! ### Plain -/
def ovB (es : List Ent) (fs : List Atm) (xs : List Int) : Bool := fs.any fun f => (unL es xs f).isSome
def ovL (es : List Ent) (fs : List Atm) (l : List Ent) : List (List Int) := (l.filter fun e => ovB es fs e.1).map (·.1)
def ovO (es : List Ent) (fs : List Atm) : List (List Int) := if (okD es && Pl.okFs fs) = true then ovL es fs es else []
theorem ovO_no {es : List Ent} {fs : List Atm} (h : (okD es && Pl.okFs fs) = false) : ovO es fs = [] := by unfold ovO; rw [h]; rfl
theorem ovO_yes {es : List Ent} {fs : List Atm} (h : (okD es && Pl.okFs fs) = true) : ovO es fs = ovL es fs es := by unfold ovO; rw [if_pos h]
theorem ovL_len (es : List Ent) (fs : List Atm) (l : List Ent) : (ovL es fs l).length ≤ l.length := by unfold ovL; rw [List.length_map]; exact List.length_filter_le _ _
theorem ovL_yes {es : List Ent} {fs : List Atm} {l : List Ent} {k : Nat} {e : Ent} (he : l[k]? = some e) (h : ovB es fs e.1 = true) : ovL es fs (l.take (k + 1)) = ovL es fs (l.take k) ++ [e.1] := by
  unfold ovL
  rw [List.take_add_one, he, List.filter_append, List.map_append]
  simp [h]
theorem ovL_no {es : List Ent} {fs : List Atm} {l : List Ent} {k : Nat} {e : Ent} (he : l[k]? = some e) (h : ovB es fs e.1 = false) : ovL es fs (l.take (k + 1)) = ovL es fs (l.take k) := by
  unfold ovL
  rw [List.take_add_one, he, List.filter_append, List.map_append]
  simp [h]
theorem ovL_mem {es : List Ent} {fs : List Atm} {l : List Ent} {x : List Int} (h : x ∈ ovL es fs l) : ∃ e ∈ l, e.1 = x := by
  unfold ovL at h
  obtain ⟨e, he, rfl⟩ := List.mem_map.1 h
  exact ⟨e, (List.mem_filter.1 he).1, rfl⟩
theorem any_next {α : Type} {P : α → Bool} {l : List α} {k : Nat} {x : α} (h : l[k]? = some x) : (l.take (k + 1)).any P = ((l.take k).any P || P x) := by
  rw [List.take_add_one, h, List.any_append]; simp
theorem idxI_look (o : List Int) (es : List Ent) : decide (idxI o es ≥ 0) = (Pl.look o es).isSome := by
  unfold idxI
  cases h : Pl.idx o es with
  | none => rw [Pl.look_none_idx h]; rfl
  | some k =>
    obtain ⟨x, hx, _⟩ := Pl.idx_some h
    rw [Pl.look_idx h hx]
    simp

/-! ### The program's -/
set_option maxHeartbeats 1000000 in
theorem ovc_any (gF gE b : Nat) (es : List Ent) (fv u : Value) (s : ByteArray) (xs : List Int) (k : Int) (t : ByteArray) (w : World) (hF : BoxW w gF 78 (.map (some b)) fv) (hE : BoxW w gE 66 u (.string s)) (hm : MapB w b es) (hok : okD es = true) (hu : IntsM w u xs) (hn : xs.length ≤ 2097152) (ht : t.size ≤ 1048576) :
    Calls Tryz.prog 51 #[atV k t, .pointer (some ⟨gF, 0, none⟩), .pointer (some ⟨gE, 0, none⟩)] w fun r w' => r = .returned (.bool (unL es xs (k, t)).isSome) ∧ Below w.heap.size w w' := by
  have hb := below_x1 w (.cells #[.int .i64 k, .string t] 61)
  have cu := unfoldD_any b es fv u xs k t _ (hm.below hb) hok (hu.below hb) hn ht
  have HB := Lib.hid hb
  have c0 := (hF.below hb hF.lt).cell0
  have c1 := (hF.below hb hF.lt).cell1
  have d0 := (hE.below hb hE.lt).cell0
  obtain ⟨y, hy⟩ : ∃ y, y = unL es xs (k, t) := ⟨_, rfl⟩
  rw [← hy] at cu ⊢
  unfold lkE at cu
  have CU := Lib.hid cu
  clear cu hy hb hF hE hm hu
  go_enter Tryz.func51, Tryz.ntmps51
  go_wp2_with fail
  refine CU.out.mono ?_
  rintro r w1 ⟨rfl, hb⟩
  have B1 := Lib.hid (HB.out.trans (hb.mono HB.out.size))
  clear hb c0 c1 d0
  go_wp2
  go_ret
  exact ⟨rfl, B1.out⟩
set_option maxHeartbeats 1000000 in
theorem indexF_any (fn : FuncId) (hcall : ∀ args w, (callFunc fn args).run Tryz.prog w = .ok (.enter fn args) w) (p q : Value) (P : Atm → Bool) (fv : Value) (fs : List Atm) (w : World) (hf : AtomsAt w fv fs) (hfn : fs.length ≤ 1000)
    (hC : ∀ f ∈ fs, ∀ w', Below w.heap.size w w' → Calls Tryz.prog fn #[atV f.1 f.2, p, q] w' fun r w'' => r = .returned (.bool (P f)) ∧ Below w'.heap.size w' w'') :
    Calls Tryz.prog 91 #[fv, .func (.func fn) #[] #[p, q]] w fun r w' => (∃ i : Int, r = .returned (.int .i64 i) ∧ decide (i ≥ 0) = fs.any P) ∧ Below w.heap.size w w' := by
  obtain ⟨a, cap, rfl, hcap, hA⟩ := fd_at hf
  have HA := Lib.hid hA
  have HC := Lib.hid (fun j f (h : fs[j]? = some f) => hC f (List.mem_of_getElem? h))
  obtain ⟨n, hnn⟩ : ∃ n, n = fs.length := ⟨_, rfl⟩
  have HN := Lib.hid hnn
  rw [← hnn] at hcap hfn ⊢
  clear hf hA hC hnn
  go_enter Tryz.func91, Tryz.ntmps91
  go_wp2_with fail
  go_loopw [8] (fun i wr => ∃ k : Nat, k ≤ n ∧ i = .int .i64 k ∧ Hid ((fs.take k).any P = false) ∧ Hid (Below w.heap.size w wr)) (fun i _ => n - (intOf i).toNat)
  case atStart => exact ⟨0, Nat.zero_le _, rfl, Lib.hid rfl, Lib.hid (Below.refl _ _)⟩
  case round =>
    obtain ⟨k, hk, rfl, HF, HB⟩ := hrel
    by_cases hlt : k < n
    · obtain ⟨f, hf⟩ : ∃ f, fs[k]? = some f := ⟨_, List.getElem?_eq_getElem (by rw [← HN.out]; exact hlt)⟩
      obtain ⟨bk, o, rfl, hbk, g0, g1⟩ := HA.out wr HB.out k f hf
      have cc := HC.out k f hf wr HB.out
      have HNx := Lib.hid (any_next (P := P) hf)
      have HAll : Hid (P f = true → fs.any P = true) := Lib.hid (fun h => List.any_eq_true.2 ⟨f, List.mem_of_getElem? hf, h⟩)
      obtain ⟨c, hc⟩ : ∃ c, c = P f := ⟨_, rfl⟩
      have HPc := Lib.hid hc
      rw [← hc] at cc
      have CC := Lib.hid cc
      clear cc hf hc
      cases c
      · have HF2 : Hid ((fs.take (k + 1)).any P = false) := Lib.hid (by rw [HNx.out, HF.out, ← HPc.out]; rfl)
        go_wp2_with fail
        refine (show Calls _ fn #[.agg #[.int .i64 f.1, .string f.2], p, q] _ _ from CC.out).mono ?_
        rintro r w1 ⟨rfl, hb⟩
        have HB1 := Lib.hid (HB.out.trans (hb.mono HB.out.size))
        clear hb g0 g1
        go_wp2
        go_roundw
        case rel => exact ⟨k + 1, by omega, by go_num, HF2, HB1⟩
        case measure => simp [intOf]; omega
      · have HF2 := Lib.hid (HAll.out HPc.out.symm)
        go_wp2_with fail
        refine (show Calls _ fn #[.agg #[.int .i64 f.1, .string f.2], p, q] _ _ from CC.out).mono ?_
        rintro r w1 ⟨rfl, hb⟩
        have HB1 := Lib.hid (HB.out.trans (hb.mono HB.out.size))
        clear hb g0 g1
        go_wp2
        go_ret
        exact ⟨⟨_, rfl, by rw [HF2.out]; simp⟩, HB1.out⟩
    · have HF2 : Hid (fs.any P = false) := Lib.hid (by have := HF.out; rwa [List.take_of_length_le (by rw [← HN.out]; omega)] at this)
      go_wp2
      go_ret
      exact ⟨⟨_, rfl, by rw [HF2.out]; rfl⟩, HB.out⟩
theorem containsF_any (fn : FuncId) (hcall : ∀ args w, (callFunc fn args).run Tryz.prog w = .ok (.enter fn args) w) (p q : Value) (P : Atm → Bool) (fv : Value) (fs : List Atm) (w : World) (hf : AtomsAt w fv fs) (hfn : fs.length ≤ 1000)
    (hC : ∀ f ∈ fs, ∀ w', Below w.heap.size w w' → Calls Tryz.prog fn #[atV f.1 f.2, p, q] w' fun r w'' => r = .returned (.bool (P f)) ∧ Below w'.heap.size w' w'') :
    Calls Tryz.prog 53 #[fv, .func (.func fn) #[] #[p, q]] w fun r w' => r = .returned (.bool (fs.any P)) ∧ Below w.heap.size w w' := by
  have C := Lib.hid (indexF_any fn hcall p q P fv fs w hf hfn hC)
  obtain ⟨a, cap, rfl, hcap, hA⟩ := fd_at hf
  clear hf hA hC
  go_enter Tryz.func53, Tryz.ntmps53
  go_wp2_with fail
  refine C.out.mono ?_
  rintro r w1 ⟨⟨i, rfl, hi⟩, hb⟩
  have HI := Lib.hid hi
  have HB := Lib.hid hb
  clear hi hb
  go_wp2
  go_ret
  exact ⟨by rw [← HI.out]; rfl, HB.out⟩
set_option maxHeartbeats 2000000 in
theorem FoldOverrides_any (v : Value) (es : List Ent) (fv : Value) (fs : List Atm) (w : World) (h : EntsAt w v es) (hn : es.length ≤ 2097152) (hx : ∀ e ∈ es, entOk e) (hf : AtomsAt w fv fs) (hfn : fs.length ≤ 2097152) (hfx : ∀ f ∈ fs, f.2.size ≤ 1048576) :
    Calls Tryz.prog 19 #[dV v, fv] w fun r w' => OutR w.heap.size w' (ovO es fs) (okD es && Pl.okFs fs) r ∧ Below w.heap.size w w' := by
  have HE := Lib.hid h
  have HF := Lib.hid hf
  have CB := Lib.hid (fun w' h hf => foldedBy_any v es fv fs w' h hn hx hf hfn hfx)
  have BX := Lib.hid (fun o => below_x1 w o)
  obtain ⟨fa, fc, rfl, _⟩ := fd_at hf
  obtain ⟨fl, hfl⟩ : ∃ fl, fl = fs.length := ⟨_, rfl⟩
  obtain ⟨a, cap, rfl, hcap, hC⟩ := h.cells
  obtain ⟨n, hnn⟩ : ∃ n, n = es.length := ⟨_, rfl⟩
  unfold dV at CB ⊢
  cases hg : (okD es && Pl.okFs fs)
  · rw [ovO_no hg]
    rw [← hfl, ← hnn]
    simp only [hg, ← hfl, ← hnn] at CB
    rw [← hfl] at HF
    rw [← hnn] at HE
    have HNil : Hid (∀ w', OutR w.heap.size w' [] false (.returned (.tuple #[.slice none 0 0, .bool false]))) := fun w' => ⟨_, [], rfl, RowO.nil _ _, rfl⟩
    clear h hf hx hfx hg hfl hnn hfn hn hC
    go_enter Tryz.func19, Tryz.ntmps19
    go_wp2_with fail
    refine (CB.out _ (HE.out.below (BX.out _)) (HF.out.below (BX.out _))).mono ?_
    rintro r w1 ⟨⟨m, rfl, _⟩, hb⟩
    have B1 := Lib.hid ((BX.out _).trans (hb.mono (by simp)))
    clear hb
    go_wp2
    go_ret2
    exact ⟨HNil.out _, B1.out.alloc B1.out.size _⟩
  · rw [ovO_yes hg]
    have hg2 := hg
    rw [Bool.and_eq_true] at hg2
    obtain ⟨h40, hoks, _⟩ := okD_parts hg2.1
    obtain ⟨hf6, hfv, _⟩ := Pl.okFs_parts hg2.2
    have HX := Lib.hid (fun k e (h : es[k]? = some e) => okE_size (hoks e (List.mem_of_getElem? h)))
    have CC := Lib.hid (fun u xs w h h0 hn => clone_any u xs w h h0 hn)
    have HCt := Lib.hid (fun gF gE b u s xs w' hF hE hm hu (hxn : xs.length ≤ 2097152) hf' => containsF_any 51 (fun args w => by first | rfl | kernel_rfl) (.pointer (some ⟨gF, 0, none⟩)) (.pointer (some ⟨gE, 0, none⟩)) (fun f => (unL es xs f).isSome) (.slice fa fs.length fc) fs w' hf' (by omega)
      (fun f hff w'' hb => ovc_any gF gE b es (.slice fa fs.length fc) u s xs f.1 f.2 w'' (BoxW.below hF hb (BoxW.lt hF)) (BoxW.below hE hb (BoxW.lt hE)) (MapB.below hm hb) hg2.1 (IntsM.below hu hb) hxn (hfx f hff)))
    have HD := Lib.hid hg2.1
    have hnn40 : n ≤ 40 := by rw [hnn]; exact h40
    simp only [hg, ← hfl, ← hnn] at CB
    simp only [← hfl] at HCt
    rw [← hfl] at HF
    rw [← hnn] at HE hcap
    rw [← hfl, ← hnn]
    have HN := Lib.hid hnn
    have HC := Lib.hid hC
    clear h hf hx hfx hg hg2 hfl hnn hfn hn hC hoks hfv
    go_enter Tryz.func19, Tryz.ntmps19
    go_wp2_with fail
    refine (CB.out _ (HE.out.below (BX.out _)) (HF.out.below (BX.out _))).mono ?_
    rintro r w1 ⟨⟨m, rfl, hm⟩, hb⟩
    have B1 := Lib.hid ((BX.out _).trans (hb.mono (by simp)))
    obtain ⟨b, rfl, _, hmb⟩ := hm HD.out
    have q1 : w1.cell? ⟨w.heap.size, 0, none⟩ = some (.slice a n cap) := box1 hb
    obtain ⟨W, hW⟩ : ∃ W, W = w1.alloc (.cells #[.map (some b), .slice fa fl fc] 78) := ⟨_, rfl⟩
    have hbW : Below w1.heap.size w1 W := by rw [hW]; exact below_x1 _ _
    have HMW := Lib.hid (hmb.below hbW)
    have BW := Lib.hid (B1.out.trans (hbW.mono B1.out.size))
    have HFW : Hid (BoxW W w1.heap.size 78 (.map (some b)) (.slice fa fl fc)) := Lib.hid (by rw [hW]; exact BoxW.new _ _ _ _)
    have hqW : W.cell? ⟨w.heap.size, 0, none⟩ = some (.slice a n cap) := (hbW.cell (p := ⟨w.heap.size, 0, none⟩) (lt_of_cell q1)).trans q1
    have hqa := hqW
    rw [hW] at hqa
    have HW := Lib.hid hW
    have HWs : Hid (W.heap.size = w1.heap.size + 1) := Lib.hid (by rw [hW]; simp)
    clear hb hm hmb hbW hW q1
    go_wp2_with fail
    rw [← HW.out]
    clear hqW hqa
    go_loopw [8, 23] (fun x i wr => ∃ (k : Nat) (us : List (Value × List Int)), i = .int .i64 k ∧ k ≤ n ∧ Hid (RowO wr W.heap.size x us) ∧ Hid (us.map (·.2) = ovL es fs (es.take k)) ∧ Hid (Below W.heap.size W wr)) (fun _ i _ => n - (intOf i).toNat)
    case atStart => exact ⟨0, [], rfl, Nat.zero_le _, RowO.nil _ _, Lib.hid rfl, Lib.hid (Below.refl _ _)⟩
    case round =>
      obtain ⟨k, us, rfl, hk, HR, HM, HBr⟩ := hrel
      by_cases hlt : k < n
      · obtain ⟨e, he⟩ : ∃ e, es[k]? = some e := ⟨_, List.getElem?_eq_getElem (by rw [← HN.out]; exact hlt)⟩
        have hbw := BW.out.trans (HBr.out.mono BW.out.size)
        obtain ⟨bk, o, uk, rfl, hbk, g0, g1, gi⟩ := HC.out wr hbw k e he
        obtain ⟨hx1, hx2, _⟩ := HX.out k e he
        obtain ⟨W0, hW0⟩ : ∃ W0, W0 = wr.alloc (.cells #[uk, .string e.2] 66) := ⟨_, rfl⟩
        have hb0 : Below wr.heap.size wr W0 := by rw [hW0]; exact below_x1 wr _
        have E0 : BoxW W0 wr.heap.size 66 uk (.string e.2) := by rw [hW0]; exact BoxW.new wr _ _ _
        have HBW0 := Lib.hid (HBr.out.trans (hb0.mono HBr.out.size))
        have cct := HCt.out w1.heap.size wr.heap.size b uk e.2 e.1 W0 (HFW.out.below HBW0.out HFW.out.lt) E0 (HMW.out.below HBW0.out) ((gi.m (by omega)).below hb0) (by omega) (HF.out.below (BW.out.trans (HBW0.out.mono BW.out.size)))
        have HE0 := Lib.hid E0
        have HU0 := Lib.hid (gi.below hb0)
        have HR0 := Lib.hid (HR.out.below hb0)
        have hul : us.length ≤ 1000 := by
          have h1 := congrArg List.length HM.out
          have h2 := ovL_len es fs (es.take k)
          rw [List.length_map] at h1
          rw [List.length_take] at h2
          omega
        obtain ⟨ua, ucap, rfl⟩ := HR.out.form
        obtain ⟨ea, ecap, rfl, _, _⟩ := gi.cells
        have HY : Hid (ovB es fs e.1 = true → ovL es fs (es.take (k + 1)) = ovL es fs (es.take k) ++ [e.1]) := fun h => ovL_yes he h
        have HZ : Hid (ovB es fs e.1 = false → ovL es fs (es.take (k + 1)) = ovL es fs (es.take k)) := fun h => ovL_no he h
        obtain ⟨xs, ts⟩ := e
        simp only at HY HZ g0 g1 hW0 HE0 HU0 cct hx1 hx2
        have hovb : (fs.any fun f => (unL es xs f).isSome) = ovB es fs xs := rfl
        rw [hovb] at cct
        rw [hW0] at cct
        have CT := Lib.hid cct
        have HW0 := Lib.hid hW0
        clear he gi hW0 hb0 E0 cct hovb hbw HR
        obtain ⟨c, hc⟩ : ∃ c, c = ovB es fs xs := ⟨_, rfl⟩
        rw [← hc] at CT HY HZ
        clear hc
        cases c
        · have HZ1 := Lib.hid (HZ.out rfl)
          have HM1 : Hid (us.map (·.2) = ovL es fs (es.take (k + 1))) := by show us.map (·.2) = _; rw [HZ1.out]; exact HM.out
          clear HY HZ HZ1 HM
          go_wp2_with fail
          refine CT.out.mono ?_
          rintro r w2 ⟨rfl, hb⟩
          rw [← HW0.out] at hb
          have HB2 := Lib.hid (HBW0.out.trans (hb.mono HBW0.out.size))
          have HR2 := Lib.hid (HR0.out.below hb)
          clear hb g0 g1 HR0
          go_wp2
          go_roundw
          case rel => exact ⟨k + 1, us, by go_num, by omega, HR2, HM1, HB2⟩
          case measure => simp [intOf]; omega
        · have HY1 := Lib.hid (HY.out rfl)
          clear HY HZ
          go_wp2_with fail
          refine CT.out.mono ?_
          rintro r w2 ⟨rfl, hb⟩
          rw [← HW0.out] at hb
          have HB2 := Lib.hid (HBW0.out.trans (hb.mono HBW0.out.size))
          have HR2 := Lib.hid (HR0.out.below hb)
          have hE2 := HE0.out.below hb HE0.out.lt
          have e0 := hE2.cell0
          have HCl := Lib.hid (CC.out (.slice ea xs.length ecap) xs w2 (HU0.out.below hb) (by omega) (by omega))
          clear hb g0 g1 HR0 hE2
          go_wp2_with fail
          refine HCl.out.mono ?_
          rintro r w3 ⟨⟨v3, rfl, hv3⟩, hb3⟩
          obtain ⟨va, vc, hvf⟩ := hv3.form
          have HV3 := Lib.hid hv3
          have HBB3 := Lib.hid hb3
          subst hvf
          have HB3 : Hid (Below W.heap.size W w3) := Lib.hid (HB2.out.trans (hb3.mono HB2.out.size))
          have hs2 : W.heap.size ≤ w2.heap.size := HB2.out.size
          clear hv3 hb3 HCl e0
          go_wp2_with (at_builtin; refine push_out rfl (.tmp 31) (.tmp 35) rfl W.heap.size _ us rfl HR2.out HBB3.out _ xs HV3.out rfl hs2 (by omega) ?_)
          intro v' w4 R4 hg4
          have HR4 := Lib.hid R4
          have HB4 : Hid (Below W.heap.size W w4) := (HB3.out.trans ((below_x1 w3 _).mono HB3.out.size)).grown hg4 (by simp; have := HB3.out.size; omega) (fun b e => (HR2.out.row.lt b e).1)
          have HM4 : Hid ((us ++ [(Value.slice va xs.length vc, xs)]).map (fun x : Value × List Int => x.2) = ovL es fs (es.take (k + 1))) := by
            show List.map _ _ = _
            rw [HY1.out, List.map_append, HM.out]; rfl
          obtain ⟨v'a, v'c, rfl⟩ := R4.form
          clear R4 hg4 HR2 HBB3 HV3 HM HY1
          go_wp2
          go_roundw
          case rel => exact ⟨k + 1, _, by go_num, by omega, HR4, HM4, HB4⟩
          case measure => simp [intOf]; omega
      · have HM1 : Hid (us.map (·.2) = ovL es fs es) := by
          show us.map (·.2) = _
          rw [HM.out, List.take_of_length_le (by rw [← HN.out]; omega)]
        obtain ⟨ua, ucap, rfl⟩ := HR.out.form
        have HRb : Hid (RowO wr w.heap.size (.slice ua us.length ucap) us) := Lib.hid ⟨ownsRow_mono HR.out.row BW.out.size, fun j p hj => ownI_mono (HR.out.own j p hj) BW.out.size, HR.out.off, HR.out.apart⟩
        clear HM HR
        go_wp2
        go_ret2
        exact ⟨⟨_, us, rfl, HRb.out, HM1.out⟩, BW.out.trans (HBr.out.mono BW.out.size)⟩

/-! ### The specification's -/
set_option maxHeartbeats 4000000 in
theorem specFoldOverrides_any (v : Value) (es : List Ent) (fv : Value) (fs : List Atm) (w : World) (h : EntsAt w v es) (hn : es.length ≤ 2097152) (hx : ∀ e ∈ es, entOk e) (hf : AtomsAt w fv fs) (hfn : fs.length ≤ 2097152) (hfx : ∀ f ∈ fs, f.2.size ≤ 1048576) :
    Calls Tryz.prog 18 #[dV v, fv] w fun r w' => (∃ u, r = .returned (.tuple #[u, .bool (okD es && Pl.okFs fs)]) ∧ OutsAt w' u (ovO es fs)) ∧ Below w.heap.size w w' := by
  obtain ⟨i0, hi, hz0, hz1, hz2⟩ := info_parts infoInt
  have HE := Lib.hid h
  have HF := Lib.hid hf
  have cg := fun w' hb => l6Good_any v es w' (h.below (w' := w') hb) hn hx
  have cv := fun w' hb => specIsValidFolds_any fv fs w' (hf.below (w' := w') hb) hfn (fun e he => by have := hfx e he; unfold maxLen; omega)
  have CAt := Lib.hid (fun y ys w' hb hy hyn => l6At_any v es y ys w' (h.below (w' := w') hb) hy hn hx hyn)
  have BX := Lib.hid (below_x1 w (.cells #[v] 33))
  obtain ⟨a, cap, rfl, hcap, hC⟩ := h.cells
  obtain ⟨fa, fc, rfl, hfc, hFC⟩ := fd_at hf
  have HFC := Lib.hid hFC
  have HC := Lib.hid hC
  obtain ⟨n, hnn⟩ : ∃ n, n = es.length := ⟨_, rfl⟩
  obtain ⟨fl, hfl⟩ : ∃ fl, fl = fs.length := ⟨_, rfl⟩
  have HFL := Lib.hid hfl
  have HN := Lib.hid hnn
  unfold dV at cg CAt ⊢
  rw [← hnn] at HE BX hcap
  rw [← hfl] at HF hfc
  simp only [← hnn] at cg CAt
  simp only [← hfl] at cv
  rw [← hnn, ← hfl]
  have HNil : Hid (∀ w' a cap, OutsAt w' (.slice a 0 cap) []) := fun w' a cap => OutsAt.nil _ _ _
  cases hg : okD es
  · rw [hg] at cg
    have CG := Lib.hid cg
    rw [ovO_no (by rw [hg]; rfl)]
    clear h hf hx hfx hg cg cv hFC hC hfl hnn hfn hn
    go_enter Tryz.func18, Tryz.ntmps18
    go_wp2_with fail
    refine (CG.out _ BX.out).mono ?_
    rintro r w1 ⟨rfl, hb⟩
    have B1 := Lib.hid (BX.out.trans (hb.mono BX.out.size))
    clear hb
    go_wp2
    go_ret2
    exact ⟨⟨_, rfl, HNil.out _ _ _⟩, B1.out⟩
  · rw [hg] at cg
    have CG := Lib.hid cg
    cases hfk : Pl.okFs fs
    · rw [hfk] at cv
      have CV := Lib.hid cv
      rw [ovO_no (by rw [hg, hfk]; rfl)]
      clear h hf hx hfx hg hfk cg cv hFC hC hfl hnn hfn hn
      go_enter Tryz.func18, Tryz.ntmps18
      go_wp2_with fail
      refine (CG.out _ BX.out).mono ?_
      rintro r w1 ⟨rfl, hb⟩
      have B1 := Lib.hid (BX.out.trans (hb.mono BX.out.size))
      clear hb
      go_wp2_with fail
      refine (CV.out _ B1.out).mono ?_
      rintro r w2 ⟨rfl, hb⟩
      have B2 := Lib.hid (B1.out.trans (hb.mono B1.out.size))
      clear hb
      go_wp2
      go_ret2
      exact ⟨⟨_, rfl, HNil.out _ _ _⟩, B2.out⟩
    · rw [hfk] at cv
      have CV := Lib.hid cv
      rw [ovO_yes (by rw [hg, hfk]; rfl)]
      obtain ⟨h40, hoks, _⟩ := okD_parts hg
      obtain ⟨hf6, hfv, _⟩ := Pl.okFs_parts hfk
      have hfl6 : fl ≤ 6 := by rw [hfl]; exact hf6
      have hnn40 : n ≤ 40 := by rw [hnn]; exact h40
      have HX := Lib.hid (fun k e (h : es[k]? = some e) => show okO e.1 = true ∧ 1 ≤ e.1.length ∧ e.1.length ≤ 6 from ⟨(okE_O (hoks e (List.mem_of_getElem? h))).1, (okE_size (hoks e (List.mem_of_getElem? h))).1, (okE_size (hoks e (List.mem_of_getElem? h))).2.1⟩)
      have HVal := Lib.hid (fun k f (hkf : fs[k]? = some f) => show Pl.okF f = true from hfv f (List.mem_of_getElem? hkf))
      have CUn := Lib.hid (fun u xs k t (ho : okO xs = true) (hkt : Pl.okF (k, t) = true) w' hm => l10Unfold_any u xs k t w' hm ho hkt)
      have HUb := Lib.hid (fun (xs : List Int) (f : Atm) (ho : okO xs = true) (hf : Pl.okF f = true) => show unfB xs f.1 f.2 = decide (0 < (unfI xs f.1 f.2).length) from by
        rw [(unf_un0 ho hf).1, (unf_un0 ho hf).2, un0_pos])
      clear h hf hx hfx hg hfk cg cv hFC hC hfl hnn hfn hn hoks hfv
      go_enter Tryz.func18, Tryz.ntmps18
      go_wp2_with fail
      refine (CG.out _ BX.out).mono ?_
      rintro r w1 ⟨rfl, hb⟩
      have B1 := Lib.hid (BX.out.trans (hb.mono BX.out.size))
      have Q1 : Hid (BoxV w1 w.heap.size 33 (.slice a n cap)) := Lib.hid ((BoxV.new w _ _).below hb (by simp))
      clear hb
      go_wp2_with fail
      refine (CV.out _ B1.out).mono ?_
      rintro r w2 ⟨rfl, hb⟩
      have B2 := Lib.hid (B1.out.trans (hb.mono B1.out.size))
      have Q2 := Lib.hid (Q1.out.below hb Q1.out.lt)
      have q2 := Q2.out.cell
      clear hb Q1
      have hW : ∃ W, W = w2.alloc (.cells #[] 26) ∧ RowO W w2.heap.size (.slice (some ⟨w2.heap.size, 0, none⟩) 0 0) [] ∧ Below w2.heap.size w2 W := ⟨_, rfl, RowO.empty w2, below_x1 _ _⟩
      obtain ⟨W, hW, hrow, hbW⟩ := hW
      have HW := Lib.hid hW
      have HRow := Lib.hid (show RowO W (w.heap.size + 1) (.slice (some ⟨w2.heap.size, 0, none⟩) 0 0) [] from ⟨ownsRow_mono hrow.row Q2.out.lt, fun j p h => by simp at h, fun j p h => by simp at h, fun i j p q h => by simp at h⟩)
      have BW := Lib.hid (B2.out.trans (hbW.mono B2.out.size))
      have QW := Lib.hid (Q2.out.below hbW Q2.out.lt)
      clear hW hrow hbW q2
      go_wp2_with fail
      rw [← HW.out]
      go_loopw [6, 7] (fun x i wr => ∃ (k : Nat) (us : List (Value × List Int)), i = .int .i64 k ∧ k ≤ n ∧ Hid (RowO wr (w.heap.size + 1) x us) ∧ Hid (us.map (·.2) = ovL es fs (es.take k)) ∧ Hid (BoxV wr w.heap.size 33 (.slice a n cap)) ∧ Hid (Below w.heap.size w wr)) (fun _ i _ => n - (intOf i).toNat)
      case atStart => exact ⟨0, [], rfl, Nat.zero_le _, HRow, Lib.hid rfl, QW, BW⟩
      case round =>
        obtain ⟨k, us, rfl, hk, HR, HM, HQr, HBr⟩ := hrel
        have cx := HQr.out.cell
        by_cases hlt : k < n
        · obtain ⟨e, he⟩ : ∃ e, es[k]? = some e := ⟨_, List.getElem?_eq_getElem (by rw [← HN.out]; exact hlt)⟩
          obtain ⟨bk, o, uk, rfl, hbk, g0, _, gi⟩ := HC.out wr HBr.out k e he
          obtain ⟨hxo, hx1, hx2⟩ := HX.out k e he
          have hul : us.length ≤ 1000 := by
            have h1 := congrArg List.length HM.out
            have h2 := ovL_len es fs (es.take k)
            rw [List.length_map] at h1
            rw [List.length_take] at h2
            omega
          have HY : Hid (ovB es fs e.1 = true → ovL es fs (es.take (k + 1)) = ovL es fs (es.take k) ++ [e.1]) := fun h => ovL_yes he h
          have HZ : Hid (ovB es fs e.1 = false → ovL es fs (es.take (k + 1)) = ovL es fs (es.take k)) := fun h => ovL_no he h
          obtain ⟨xs, ts⟩ := e
          simp only at hxo hx1 hx2 HY HZ g0 gi
          have HIx := Lib.hid (gi.m (by omega))
          obtain ⟨ea, ecap, rfl, _, _⟩ := gi.cells
          have HW1 : Hid (∀ W', Below wr.heap.size wr W' → W'.cell? ⟨bk, o + k * 2, none⟩ = some (.slice ea xs.length ecap) ∧ W'.cell? ⟨w.heap.size, 0, none⟩ = some (.slice (some ⟨bk, o, none⟩) n cap) ∧ IntsM W' (.slice ea xs.length ecap) xs ∧ Below w.heap.size w W') :=
            fun W' hb => ⟨(hb.cell (p := ⟨bk, o + k * 2, none⟩) (lt_of_cell g0)).trans g0, (hb.cell (p := ⟨w.heap.size, 0, none⟩) HQr.out.lt).trans cx, HIx.out.below hb, HBr.out.trans (hb.mono HBr.out.size)⟩
          have HXo := Lib.hid hxo
          clear he gi g0 hbk
          go_wp2_with fail
          clear cx
          obtain ⟨wo, hwo⟩ : ∃ x, x = wr := ⟨_, rfl⟩
          subst hwo
          go_loopw [8, 9] (fun x i wr => ∃ (j : Nat), i = .int .i64 j ∧ j ≤ fl ∧ x = .bool ((fs.take j).any fun f => (unL es xs f).isSome) ∧ Hid (Below wo.heap.size wo wr)) (fun _ i _ => fl - (intOf i).toNat)
          case atStart => exact ⟨0, rfl, Nat.zero_le _, rfl, Lib.hid (Below.refl _ _)⟩
          case round =>
            obtain ⟨j, rfl, hj, rfl, HBq⟩ := hrel
            obtain ⟨g0, cx, hIq, hBw⟩ := HW1.out wr HBq.out
            by_cases hjl : j < fl
            · obtain ⟨f, hf⟩ : ∃ f, fs[j]? = some f := ⟨_, List.getElem?_eq_getElem (by rw [← HFL.out]; exact hjl)⟩
              obtain ⟨fb, fo, hfa, hfb, f0, f1⟩ := HFC.out wr hBw j f hf
              subst hfa
              have hfo := HVal.out j f hf
              have HNx := Lib.hid (any_next (P := fun f => (unL es xs f).isSome) hf)
              have HUb1 := Lib.hid (HUb.out xs f HXo.out hfo)
              obtain ⟨fk, ft⟩ := f
              dsimp only at f0 f1
              have cu := CUn.out (.slice ea xs.length ecap) xs fk ft HXo.out hfo wr.drew (hIq.below (below_drewF (Below.refl _ _) 1))
              obtain ⟨zs, hzs⟩ : ∃ zs, zs = unfI xs fk ft := ⟨_, rfl⟩
              have HZs := Lib.hid hzs
              have hzl : zs.length ≤ 6 := by rw [hzs]; exact unfI_len _ _ _
              have HUb2 : Hid (unfB xs fk ft = decide (0 < zs.length)) := Lib.hid (by rw [hzs]; exact HUb1.out)
              rw [← hzs] at cu
              obtain ⟨zl, hzl2⟩ : ∃ zl, zl = zs.length := ⟨_, rfl⟩
              have HZL := Lib.hid hzl2
              rw [← hzl2] at hzl
              have CU := Lib.hid cu
              have HBw := Lib.hid hBw
              have k0 := cell_regrown g0
              have k1 := cell_regrown cx
              have k2 := cell_regrown f0
              have k3 := cell_regrown f1
              clear cu hf hfo hzs hzl2 HUb1 hBw hIq hfb
              go_wp2_with fail
              refine Mx.wp_region_mixed (Mx.ofL [(0, 0), (1, 1), (2, 0), (3, 0), (4, 0), (5, 1), (6, 0), (7, 0), (8, 0), (9, 1), (10, 3), (11, 0)] .done) (by kernel_rfl) (by kernel_rfl) ?_
              repeat ((first | refine Mx.mix0 rfl ?_ | refine Mx.mix1 rfl ?_); go_big_quiet_step (fail); refine wpQuiet_nil ?_)
              refine Mx.mix3 rfl ?_
              go_wp2_with fail
              refine CU.out.mono ?_
              rintro r w4 ⟨⟨y, rfl, hy⟩, hb⟩
              have G4 : Hid (Below wr.heap.size wr w4) := Lib.hid ((below_drewF (Below.refl _ _) 1).trans hb)
              have HY4 := Lib.hid (rowInts_at hy)
              have HB4 := Lib.hid (HBq.out.trans (G4.out.mono HBq.out.size))
              obtain ⟨ya, yc, hye, _, _⟩ := (rowInts_at hy).cells
              rw [← HZL.out] at hye
              subst hye
              obtain ⟨_, cx4, _, hBw4⟩ := HW1.out w4 HB4.out
              have CA := Lib.hid (CAt.out (.slice ya zl yc) zs w4 hBw4 HY4.out (by rw [← HZL.out]; omega))
              clear hb hy k0 k1 k2 k3 g0 cx f0 f1 hBw4
              go_wp2
              refine Mx.mid_normal (fun q => by cases q) ?_
              repeat ((first | refine Mx.mix0 rfl ?_ | refine Mx.mix1 rfl ?_); go_big_quiet_step (fail); refine wpQuiet_nil ?_)
              refine Mx.mix_nil ?_
              by_cases h0 : zl = 0
              · subst h0
                have hL : unL es xs (fk, ft) = none := unL_bad (by show unfB xs fk ft = false; rw [HUb2.out, ← HZL.out]; rfl)
                have HNy : Hid ((fs.take (j + 1)).any (fun f => (unL es xs f).isSome) = (fs.take j).any (fun f => (unL es xs f).isSome)) := Lib.hid (by rw [HNx.out]; show (_ || (unL es xs (fk, ft)).isSome) = _; rw [hL]; simp)
                clear HNx hL
                go_wp2
                go_roundw
                case rel => exact ⟨j + 1, by go_num, by omega, by rw [HNy.out], HB4⟩
                case measure => simp [intOf]; omega
              · have hz0 : (zl : Int) > 0 := by omega
                have hUB : unfB xs fk ft = true := by rw [HUb2.out, ← HZL.out, decide_eq_true (by omega)]
                have hL : unL es xs (fk, ft) = Pl.look zs es := by unfold unL; rw [hUB, HZs.out]; rfl
                have hI := idxI_look zs es
                rw [← hL] at hI
                obtain ⟨I, hIe⟩ : ∃ I, I = idxI zs es := ⟨_, rfl⟩
                rw [← hIe] at hI CA
                clear hIe hUB hL
                cases hs : (unL es xs (fk, ft)).isSome
                · rw [hs] at hI
                  have hI2 : ¬ I ≥ 0 := of_decide_eq_false hI
                  have HNy : Hid ((fs.take (j + 1)).any (fun f => (unL es xs f).isSome) = (fs.take j).any (fun f => (unL es xs f).isSome)) := Lib.hid (by rw [HNx.out]; show (_ || (unL es xs (fk, ft)).isSome) = _; rw [hs]; simp)
                  clear HNx hI hs
                  go_wp2_with fail
                  refine CA.out.mono ?_
                  rintro r w5 ⟨rfl, hb⟩
                  have HB5 := Lib.hid (HB4.out.trans (hb.mono HB4.out.size))
                  clear hb cx4
                  go_wp2
                  go_roundw
                  case rel => exact ⟨j + 1, by go_num, by omega, by rw [HNy.out], HB5⟩
                  case measure => simp [intOf]; omega
                · rw [hs] at hI
                  have hI2 : I ≥ 0 := of_decide_eq_true hI
                  have HNy : Hid ((fs.take (j + 1)).any (fun f => (unL es xs f).isSome) = true) := Lib.hid (by rw [HNx.out]; show (_ || (unL es xs (fk, ft)).isSome) = _; rw [hs]; simp)
                  clear HNx hI hs
                  go_wp2_with fail
                  refine CA.out.mono ?_
                  rintro r w5 ⟨rfl, hb⟩
                  have HB5 := Lib.hid (HB4.out.trans (hb.mono HB4.out.size))
                  clear hb cx4
                  go_wp2
                  go_roundw
                  case rel => exact ⟨j + 1, by go_num, by omega, by rw [HNy.out], HB5⟩
                  case measure => simp [intOf]; omega
            · have hov : ((fs.take j).any fun f => (unL es xs f).isSome) = ovB es fs xs := by rw [List.take_of_length_le (by rw [← HFL.out]; omega)]; rfl
              rw [hov]
              obtain ⟨c, hc⟩ : ∃ c, c = ovB es fs xs := ⟨_, rfl⟩
              rw [← hc]
              rw [← hc] at HY HZ
              have HRq := Lib.hid (HR.out.below HBq.out)
              have HBw := Lib.hid hBw
              have HQq := Lib.hid (HQr.out.below HBq.out HQr.out.lt)
              clear hc hov HR
              cases c
              · have HZ1 := Lib.hid (HZ.out rfl)
                have HM1 : Hid (us.map (·.2) = ovL es fs (es.take (k + 1))) := by show us.map (·.2) = _; rw [HZ1.out]; exact HM.out
                clear HY HZ HZ1 HM g0 cx
                go_wp2
                go_roundw
                case rel => exact ⟨k + 1, us, by go_num, by omega, HRq, HM1, HQq, HBw⟩
                case measure => simp [intOf]; omega
              · have HY1 := Lib.hid (HY.out rfl)
                clear HY HZ
                obtain ⟨ua, ucap, rfl⟩ := HRq.out.form
                have R0 := Lib.hid (row_new wr 3)
                have N0 := Lib.hid (below_x1 wr (.cells #[] 3))
                have hIq2 := Lib.hid (hIq.below N0.out)
                obtain ⟨g2, cx2, _, _⟩ := HW1.out _ (HBq.out.trans (N0.out.mono HBq.out.size))
                clear g0 cx
                go_wp2_with (at_builtin; refine append_ints hi hz0 hz1 hz2 rfl _ _ rfl wr.heap.size _ [] rfl R0.out _ xs rfl hIq2.out (by simp) (by simp) (by omega) ?_)
                intro v5 w5 hown hg5
                have N5 : Hid (Below wr.heap.size wr w5) := Lib.hid (N0.out.grown hg5 (by simp) (fun j hj => row_ge R0.out hj))
                have HO5' := ownInts_of hown
                obtain ⟨va, vc, rfl⟩ := HO5'.form
                have HO5 := Lib.hid HO5'
                clear HO5'
                have hb0 : w.heap.size + 1 ≤ wr.heap.size := HQq.out.lt
                clear hown hg5 R0 N0 hIq2 g2 cx2
                go_wp2_with (at_builtin; refine push_out rfl (.tmp 54) (.tmp 63) rfl (w.heap.size + 1) _ us rfl HRq.out N5.out _ xs HO5.out rfl hb0 (by omega) ?_)
                intro v' w6 R6 hg6
                have HR6 := Lib.hid R6
                have HB5 := HBw.out.trans (N5.out.mono HBw.out.size)
                have HB6 : Hid (Below w.heap.size w w6) := (HB5.trans ((below_x1 w5 _).mono HB5.size)).grown hg6 (by simp; have := HB5.size; omega) (fun b e => by have := (HRq.out.row.lt b e).1; omega)
                have HQ6 : Hid (BoxV w6 w.heap.size 33 (.slice (some ⟨bk, o, none⟩) n cap)) := Lib.hid (((HQq.out.below N5.out HQq.out.lt).below (below_x1 w5 _) (by have := HQq.out.lt; have := N5.out.size; omega)).grown hg6 (fun e => by have := (HRq.out.row.lt _ e.symm).1; omega))
                have HM6 : Hid ((us ++ [(Value.slice va xs.length vc, xs)]).map (fun x : Value × List Int => x.2) = ovL es fs (es.take (k + 1))) := by
                  show List.map _ _ = _
                  rw [HY1.out, List.map_append, HM.out]; rfl
                clear R6 hg6 HRq N5 HO5 HM HY1 HB5
                go_wp2
                go_roundw
                case rel => exact ⟨k + 1, _, by go_num, by omega, HR6, HM6, HQ6, HB6⟩
                case measure => simp [intOf]; omega
        · have HM1 : Hid (us.map (·.2) = ovL es fs es) := by
            show us.map (·.2) = _
            rw [HM.out, List.take_of_length_le (by rw [← HN.out]; omega)]
          obtain ⟨ua, ucap, rfl⟩ := HR.out.form
          have HO : Hid (OutsAt wr (.slice ua us.length ucap) (ovL es fs es)) := by rw [← HM1.out]; exact HR.out.at
          clear HM
          go_wp2
          go_ret2
          exact ⟨⟨_, rfl, HO.out⟩, HBr.out⟩
end Go.Proofs.YtjmiackiikbodaaGreat
