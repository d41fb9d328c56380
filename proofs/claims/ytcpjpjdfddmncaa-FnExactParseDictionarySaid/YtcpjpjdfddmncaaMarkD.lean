/-
  DICTIONARIES THAT ARE MARKED AND HELD: the laws' helpers on arguments and answers of dictionaries.
-/
import Derived.Test.YtcpjpjdfddmncaaDictL
namespace Go.Proofs.Ytcpjpjdfddmncaa
set_option maxRecDepth 100000
open Go.RowKit

theorem OwnInts.congr {w : World} {base : Nat} {v : Value} {n : Nat} {f f' : Nat → Int} (h : OwnInts w base v n f) (hf : ∀ j, j < n → f j = f' j) : OwnInts w base v n f' := by
  rcases h with h | ⟨g, cap, hv, hn, hg, h0, hlt, hc, hz⟩
  · exact .inl h
  · exact .inr ⟨g, cap, hv, hn, hg, h0, hlt, fun j hj => by rw [hc j hj, hf j hj], hz⟩
theorem endE_take (m : Nat) (es : List Ent) : ∀ k, endE m (es.take k) ≤ endE m es := by
  induction es generalizing m with
  | nil => intro k; rw [List.take_nil]; exact Nat.le_refl _
  | cons e r ih =>
    intro k
    cases k with
    | zero =>
      have : ∀ (m : Nat) (l : List Ent), m ≤ endE m l := by
        intro m l
        induction l generalizing m with
        | nil => exact Nat.le_refl _
        | cons x l ih => exact Nat.le_trans (by omega) (ih (m + x.1.length + 1))
      exact this m (e :: r)
    | succ k => exact ih (m + e.1.length + 1) k
theorem mkE_at {m : Nat} {es : List Ent} {k : Nat} {e : Ent} (h : es[k]? = some e) : (mkE m es)[k]? = some (mkEnt (endE m (es.take k)) e) := by
  induction es generalizing m k with
  | nil => simp at h
  | cons x r ih =>
    cases k with
    | zero => simp at h; subst h; rfl
    | succ k => exact ih (m := m + x.1.length + 1) (by simpa using h)
theorem mkEnt_get (m : Nat) (e : Ent) (i : Nat) (h : i < e.1.length) : (mkEnt m e).1.getD i 0 = ((m + i : Nat) : Int) := by
  unfold mkEnt
  simp [List.getD, h]
theorem below_ofTouch {w w' : World} {base : Nat} (h : Below base w w') : Below base w w' := h
set_option maxHeartbeats 2000000 in
theorem markEs_any (base S : Nat) (v : Value) (es : List Ent) (w : World) (h : OwnEs w base S v es) (hm : endE 1 es ≤ 1100000) (hn : es.length ≤ 1100000) (_hS : S ≤ w.heap.size) (hx : ∀ e ∈ es, e.1.length ≤ 1100000) :
    Calls Try.prog 60 #[v, .int .i64 1] w fun r w' => r = .returned (.int .i64 (endE 1 es : Int)) ∧ OwnEs w' base S v (mkE 1 es) ∧ Touch (fun b => base ≤ b ∧ b < S) w w' ∧ Below base w w' := by
  rcases h with ⟨rfl, a, cap, rfl⟩ | ⟨g, cap, U, rfl, hcap, h0, hG⟩
  · go_enter Try.func60, Try.ntmps60
    go_wp2
    refine wp_loop_rounds 1 ?_
    rw [rounds_succ]
    go_wp2
    go_ret
    exact ⟨rfl, .inl ⟨rfl, _, _, rfl⟩, Touch.refl _ _, Below.refl _ _⟩
  · have HE := Lib.hid (fun k => Nat.le_trans (endE_take 1 es k) hm)
    have HX := Lib.hid (fun k e (h : es[k]? = some e) => hx e (List.mem_of_getElem? h))
    have CM := Lib.hid (fun m0 u n f w h hn hm => markI_t base m0 u n f w h hn hm)
    have CT := Lib.hid (fun k h0 h1 w => markText_any k h0 h1 w)
    have HG0 : Hid (EntsG w base S g U (midE 1 0 es)) := by rw [midE_zero]; exact hG
    have HAll : Hid (midE 1 es.length es = mkE 1 es) := midE_all 1 es
    have HEnd : Hid (endE 1 (es.take es.length) = endE 1 es) := by show endE 1 _ = _; rw [List.take_length]
    have HLen : Hid ((mkE 1 es).length = es.length) := mkE_len 1 es
    have hbg := hG.low
    have hgS := hG.high
    obtain ⟨n, hnn⟩ : ∃ n, n = es.length := ⟨_, rfl⟩
    rw [← hnn] at hcap h0 hn HAll HEnd HLen ⊢
    have HN := Lib.hid hnn
    have hge : ∀ k, 1 ≤ endE 1 (es.take k) := fun k => endE_take 1 (es.take k) 0
    have HGe := Lib.hid hge
    clear hG hnn hm hx hge
    go_enter Try.func60, Try.ntmps60
    go_wp2_with fail
    go_loopw [1, 5] (fun m i wr => ∃ k M : Nat, k ≤ n ∧ i = .int .i64 k ∧ m = .int .i64 (M : Int) ∧ Hid (M = endE 1 (es.take k)) ∧ Hid (EntsG wr base S g U (midE 1 k es)) ∧ Hid (Touch (fun b => base ≤ b ∧ b < S) w wr) ∧ Hid (Below base w wr)) (fun _ i _ => n - (intOf i).toNat)
    case atStart => exact ⟨0, 1, Nat.zero_le _, rfl, rfl, Lib.hid rfl, HG0, Touch.refl _ _, Below.refl _ _⟩
    case round =>
      obtain ⟨k, M, hk, rfl, rfl, HM, HG, HT, HB⟩ := hrel
      by_cases hlt : k < n
      · obtain ⟨e, he⟩ : ∃ e, es[k]? = some e := ⟨_, List.getElem?_eq_getElem (by rw [← HN.out]; exact hlt)⟩
        have hmid := midE_at (m := 1) he
        obtain ⟨g0, g1⟩ := HG.out.cell k e hmid
        have hou : OwnInts wr base (U k) e.1.length (fun i => e.1.getD i 0) := HG.out.each.own k e.1 (by rw [List.getElem?_map, hmid]; rfl)
        have hbe := HX.out k e he
        have hnx := endE_next (m := 1) he
        rw [← HM.out] at hnx
        have hM1 : 1 ≤ M := by rw [HM.out]; exact HGe.out k
        have hM2 : M + e.1.length + 1 ≤ 1100000 := by rw [← hnx]; exact HE.out (k + 1)
        have HNx := Lib.hid hnx
        have HMid : Hid (midE 1 (k + 1) es = (midE 1 k es).set k (mkEnt M e)) := by show midE _ _ _ = _; rw [midE_next he, HM.out]
        have hlow : 0 < e.1.length → ∀ b, (U k).ownBlock = some b → base ≤ b ∧ b < S := fun h0 b hb' => ⟨hou.ge h0 hb', (HG.out.each.low k e.1 (by rw [List.getElem?_map, hmid]; rfl) h0 b hb').1⟩
        have hng : 0 < e.1.length → ∀ b, (U k).ownBlock = some b → b ≠ g := fun h0 b hb' => (HG.out.each.low k e.1 (by rw [List.getElem?_map, hmid]; rfl) h0 b hb').2
        have C1 := Lib.hid (CM.out M (U k) e.1.length _ wr hou (by omega) (by omega))
        have C2 := Lib.hid (fun w => CT.out (M + e.1.length) (by omega) (by omega) w)
        obtain ⟨ua, uc, hUf⟩ := hou.form
        have HUf := Lib.hid hUf
        have HHe := Lib.hid hmid
        have HLo := Lib.hid hlow
        have HNg := Lib.hid hng
        have hgl : g < wr.heap.size := Nat.lt_of_lt_of_le hgS HG.out.size
        obtain ⟨L, hL⟩ : ∃ L, L = e.1.length := ⟨_, rfl⟩
        rw [← hL] at hM2
        have C1' := C1.out
        have C2' := C2.out
        rw [hUf, ← hL] at C1'
        rw [← hL] at C2' hUf
        rw [hUf] at g0
        have D1 := Lib.hid C1'
        have D2 := Lib.hid C2'
        have HL := Lib.hid hL
        clear C1 C2 C1' C2' hou he hmid hnx hlow hng hUf hL hbe
        rw [← HL.out] at HUf HLo HNg HNx
        go_wp2_with fail
        refine D1.out.mono ?_
        rintro r w1 ⟨rfl, hO1, hT1, hb1⟩
        have HO1 : Hid (OwnInts w1 base (U k) L (fun j => ((M + j : Nat) : Int))) := by rw [HUf.out]; exact hO1
        have HT1 : Hid (Touch (fun b => 0 < L ∧ (U k).ownBlock = some b) wr w1) := by rw [HUf.out]; exact hT1
        have HB1 := Lib.hid hb1
        clear hO1 hT1 hb1 D1
        go_wp2_with fail
        refine (D2.out w1).mono ?_
        rintro r w2 ⟨rfl, hb2⟩
        have hgT : ¬ (0 < L ∧ (U k).ownBlock = some g) := fun ⟨h0, h1⟩ => HNg.out h0 g h1 rfl
        have hcf : ∀ j, w2.cell? ⟨g, j, none⟩ = wr.cell? ⟨g, j, none⟩ ∧ w2.frozen? ⟨g, j, none⟩ = wr.frozen? ⟨g, j, none⟩ := by
          intro j
          have hg1 : g < w1.heap.size := Nat.lt_of_lt_of_le hgl HT1.out.1
          exact ⟨(hb2.cell (p := ⟨g, j, none⟩) hg1).trans ((HT1.out.cf j hgl hgT).1), (hb2.frozen (p := ⟨g, j, none⟩) hg1).trans ((HT1.out.cf j hgl hgT).2)⟩
        have s1 : w2.cell? ⟨g, k * 2 + 1, none⟩ = some (.string e.2) := (hcf _).1.trans g1
        have sf : w2.frozen? ⟨g, k * 2 + 1, none⟩ = false := (hcf _).2.trans (HG.out.thaw _)
        have hT2 : Touch (fun b => b = g ∨ (0 < L ∧ (U k).ownBlock = some b)) wr (w2.setCell ⟨g, k * 2 + 1, none⟩ (.string (markB (M + L)))) :=
          ((HT1.out.mono (fun b h => .inr h)).below hb2).setCell (.inl rfl) _ _
        have HG2 : Hid (EntsG (w2.setCell ⟨g, k * 2 + 1, none⟩ (.string (markB (M + L)))) base S g U (midE 1 (k + 1) es)) := by
          rw [HMid.out]
          refine HG.out.set HHe.out (mkEnt_len M e) ?_ (by rw [← HL.out]; exact hT2) (fun j => by rw [World.frozen?_setCell]; exact (hcf j).2.trans (HG.out.thaw j)) (fun j hj => ?_) ?_
          · rw [mkEnt_len, ← HL.out]
            refine OwnInts.congr ((HO1.out.below hb2).touch (T := fun b => b = g) ((Touch.refl (fun b => b = g) _).setCell rfl _ _) (fun h0 b hb' e => HNg.out h0 b hb' e)) fun j hj => ?_
            rw [mkEnt_get M e j (by rw [← HL.out]; exact hj)]
          · rw [World.cell?_setCell_other _ _ _ _ (by intro e; injection e; omega)]; exact (hcf j).1
          · show _ = some (Value.string (markB (M + e.1.length)))
            rw [← HL.out]; exact World.cell?_setCell_same _ _ _ s1
        have HT2 : Hid (Touch (fun b => base ≤ b ∧ b < S) w (w2.setCell ⟨g, k * 2 + 1, none⟩ (.string (markB (M + L))))) :=
          HT.out.trans (hT2.mono (fun b hb' => hb'.elim (fun e => by subst e; exact ⟨hbg, hgS⟩) (fun h => HLo.out h.1 b h.2)))
        have hsz := HB.out.size
        have HB2 : Hid (Below base w (w2.setCell ⟨g, k * 2 + 1, none⟩ (.string (markB (M + L))))) := by
          have hb02 : Below base wr w2 := HB1.out.trans (hb2.mono (Nat.le_trans (Nat.le_trans hbg (Nat.le_of_lt hgl)) HB1.out.size))
          exact (HB.out.trans hb02).setCell (p := ⟨g, k * 2 + 1, none⟩) hbg _
        clear hb2 hcf hT2 hgT HO1 HT1 HB1 HT HB HG D2
        go_wp2
        go_roundw
        case rel => exact ⟨k + 1, M + L + 1, by omega, by go_num, by go_num, HNx.out.symm, HG2, HT2, HB2⟩
        case measure => simp [intOf]; omega
      · obtain rfl : k = n := by omega
        have hM : M = endE 1 es := by rw [HM.out, HEnd.out]
        have HGf : Hid (EntsG wr base S g U (mkE 1 es)) := by rw [← HAll.out]; exact HG.out
        have HO : Hid (OwnEs wr base S (.slice (some ⟨g, 0, none⟩) k cap) (mkE 1 es)) := .inr ⟨g, cap, U, by rw [HLen.out], by rw [HLen.out]; exact hcap, by rw [HLen.out]; exact h0, HGf.out⟩
        have HMM := Lib.hid hM
        clear HG HGf HM hM
        go_wp2
        go_ret
        exact ⟨ret_int (by rw [HMM.out]), HO.out, HT.out, HB.out⟩
theorem markD_any (base S : Nat) (v : Value) (es : List Ent) (w : World) (h : OwnEs w base S v es) (hm : endE 1 es ≤ 1100000) (hn : es.length ≤ 1100000) (hS : S ≤ w.heap.size) (hbase : base ≤ w.heap.size) (hx : ∀ e ∈ es, e.1.length ≤ 1100000) :
    Calls Try.prog 33 #[dV v, .int .i64 1] w fun r w' => r = .returned (.int .i64 (endE 1 es : Int)) ∧ OwnEs w' base S v (mkE 1 es) ∧ Touch (fun b => base ≤ b ∧ b < S) w w' ∧ Below base w w' := by
  have C := Lib.hid (fun w' hb hS' => markEs_any base S v es w' (h.below (w' := w') hb) hm hn hS' hx)
  obtain ⟨a, cap, rfl, _, _⟩ := h.at.cells
  clear h hm hn hx
  unfold dV
  go_enter Try.func33, Try.ntmps33
  go_wp2_with fail
  refine (C.out _ (below_al _ _) (by simp; omega)).mono ?_
  rintro r w1 ⟨rfl, hO, hT, hb⟩
  have HO := Lib.hid hO
  have HT : Hid (Touch (fun b => base ≤ b ∧ b < S) w w1) := ((Touch.refl _ w).alloc _).trans hT
  have HB : Hid (Below base w w1) := ((below_al w _).mono hbase).trans hb
  clear hO hT hb C
  go_wp2
  go_ret
  exact ⟨rfl, HO.out, HT.out, HB.out⟩
set_option maxHeartbeats 2000000 in
theorem heldEs_any (base S : Nat) (v : Value) (es : List Ent) (w : World) (h : OwnEs w base S v (mkE 1 es)) (hm : endE 1 es ≤ 1100000) (hn : es.length ≤ 1100000) (hx : ∀ e ∈ es, e.1.length ≤ 1100000) :
    Calls Try.prog 72 #[v, .int .i64 1] w fun r w' => r = .returned (.int .i64 (endE 1 es : Int)) ∧ Below w.heap.size w w' := by
  rcases h with ⟨he0, a, cap, rfl⟩ | ⟨g, cap, U, rfl, hcap, h0, hG⟩
  · have : es = [] := List.length_eq_zero_iff.1 (by rw [← mkE_len 1 es, he0]; rfl)
    subst this
    go_enter Try.func72, Try.ntmps72
    go_wp2
    refine wp_loop_rounds 1 ?_
    rw [rounds_succ]
    go_wp2
    go_ret
    exact ⟨rfl, Below.refl _ _⟩
  · have HE := Lib.hid (fun k => Nat.le_trans (endE_take 1 es k) hm)
    have HX := Lib.hid (fun k e (h : es[k]? = some e) => hx e (List.mem_of_getElem? h))
    have CM := Lib.hid (fun m0 u n w h hn hm => heldI_t base m0 u n w h hn hm)
    have CT := Lib.hid (fun k h0 h1 w => markText_any k h0 h1 w)
    have HEnd : Hid (endE 1 (es.take es.length) = endE 1 es) := by show endE 1 _ = _; rw [List.take_length]
    rw [mkE_len] at hcap h0
    rw [mkE_len]
    obtain ⟨n, hnn⟩ : ∃ n, n = es.length := ⟨_, rfl⟩
    rw [← hnn] at hcap h0 hn HEnd ⊢
    have HN := Lib.hid hnn
    have HG := Lib.hid hG
    have hgs : g < w.heap.size := Nat.lt_of_lt_of_le hG.high hG.size
    have hge : ∀ k, 1 ≤ endE 1 (es.take k) := fun k => endE_take 1 (es.take k) 0
    have HGe := Lib.hid hge
    clear hG hnn hm hx hge
    go_enter Try.func72, Try.ntmps72
    go_wp2_with fail
    go_loopw [1, 5] (fun m i wr => ∃ k M : Nat, k ≤ n ∧ i = .int .i64 k ∧ m = .int .i64 (M : Int) ∧ Hid (M = endE 1 (es.take k)) ∧ Hid (Below w.heap.size w wr)) (fun _ i _ => n - (intOf i).toNat)
    case atStart => exact ⟨0, 1, Nat.zero_le _, rfl, rfl, Lib.hid rfl, Below.refl _ _⟩
    case round =>
      obtain ⟨k, M, hk, rfl, rfl, HM, HB⟩ := hrel
      by_cases hlt : k < n
      · obtain ⟨e, he⟩ : ∃ e, es[k]? = some e := ⟨_, List.getElem?_eq_getElem (by rw [← HN.out]; exact hlt)⟩
        have hmk := mkE_at (m := 1) he
        rw [← HM.out] at hmk
        have HGr := HG.out.below HB.out
        obtain ⟨g0, g1⟩ := HGr.cell k _ hmk
        have hou : OwnInts wr base (U k) (mkEnt M e).1.length (fun i => (mkEnt M e).1.getD i 0) := HGr.each.own k _ (by rw [List.getElem?_map, hmk]; rfl)
        rw [mkEnt_len] at hou
        have hou2 := hou.congr fun j hj => mkEnt_get M e j hj
        have hnx := endE_next (m := 1) he
        rw [← HM.out] at hnx
        have hM1 : 1 ≤ M := by rw [HM.out]; exact HGe.out k
        have hM2 : M + e.1.length + 1 ≤ 1100000 := by rw [← hnx]; exact HE.out (k + 1)
        have HNx := Lib.hid hnx
        have g1' : wr.cell? ⟨g, k * 2 + 1, none⟩ = some (.string (markB (M + e.1.length))) := g1
        have D1 := CM.out M (U k) e.1.length wr hou2 (by omega) (by omega)
        have C2 := fun w => CT.out (M + e.1.length) (by omega) (by omega) w
        obtain ⟨ua, uc, hUf⟩ := hou.form
        rw [hUf] at D1 g0
        have hgl : g < wr.heap.size := Nat.lt_of_lt_of_le hgs HB.out.size
        obtain ⟨L, hL⟩ : ∃ L, L = e.1.length := ⟨_, rfl⟩
        rw [← hL] at hM2 D1 C2 g1' HNx g0
        obtain ⟨T, hT⟩ : ∃ T, T = markB (M + L) := ⟨_, rfl⟩
        rw [← hT] at C2 g1'
        have HD1 := Lib.hid D1
        have HC2 := Lib.hid C2
        have hne : (T.toList == T.toList) = true := by simp
        clear D1 C2 hou hou2 hmk hnx he HGr g1 hUf hL hT
        go_wp2_with fail
        refine HD1.out.mono ?_
        rintro r w1 ⟨rfl, hb1⟩
        have t1 : w1.cell? ⟨g, k * 2 + 1, none⟩ = some (.string T) := (hb1.cell (p := ⟨g, k * 2 + 1, none⟩) hgl).trans g1'
        have HB1 : Hid (Below w.heap.size w w1) := below_step HB.out hb1
        have hpos : ¬ ((M + L : Nat) : Int) < 0 := by omega
        have C3 : Hid (∀ d os, Calls Try.prog 91 #[.int .i64 ((M + L : Nat) : Int)] (Go.Sort.grow (redrawn w1 d) os) fun r w'' => r = .returned (.string T) ∧ ∃ p : Regrown, w'' = Go.Sort.grow (redrawn w1 p.d) p.os) :=
          fun d os => Calls.regrown_of ((HC2.out _).mono fun r w' ⟨h1, h2⟩ => ⟨h1, h2⟩)
        have kt := cell_regrown t1
        clear hb1 HD1 HC2 t1 g1'
        go_wp2_with fail
        refine wp_region_quiet_below (by kernel_rfl) (by kernel_rfl) ?_
        repeat (go_big_quiet_step (exact C3.out _ _))
        refine wpQuiet_nil ?_
        rintro _ ⟨⟨dq, osq⟩, rfl⟩
        have HB2 : Hid (Below w1.heap.size w1 (Go.Sort.grow (redrawn w1 dq) osq)) := below_regrown w1 dq osq
        go_wp2
        go_roundw
        case rel => exact ⟨k + 1, M + L + 1, by omega, by go_num, by go_num, HNx.out.symm, below_step HB1.out HB2.out⟩
        case measure => simp [intOf]; omega
      · obtain rfl : k = n := by omega
        have hM : M = endE 1 es := by rw [HM.out, HEnd.out]
        have HMM := Lib.hid hM
        clear HM hM
        go_wp2
        go_ret
        exact ⟨ret_int (by rw [HMM.out]), HB.out⟩
theorem heldD_any (base S : Nat) (v : Value) (es : List Ent) (w : World) (h : OwnEs w base S v (mkE 1 es)) (hm : endE 1 es ≤ 1100000) (hn : es.length ≤ 1100000) (hx : ∀ e ∈ es, e.1.length ≤ 1100000) :
    Calls Try.prog 40 #[dV v, .int .i64 1] w fun r w' => r = .returned (.int .i64 (endE 1 es : Int)) ∧ Below w.heap.size w w' := by
  have C := Lib.hid (fun w' hb => heldEs_any base S v es w' (h.below (w' := w') hb) hm hn hx)
  obtain ⟨a, cap, rfl, _, _⟩ := h.at.cells
  obtain ⟨E, hE⟩ : ∃ E, E = endE 1 es := ⟨_, rfl⟩
  rw [← hE] at C ⊢
  clear h hm hn hx hE
  unfold dV
  go_enter Try.func40, Try.ntmps40
  go_wp2_with fail
  refine (C.out _ (below_al _ _)).mono ?_
  rintro r w1 ⟨rfl, hb⟩
  have HB := Lib.hid (below_box hb)
  have hpos : ¬ (E : Int) < 0 := by omega
  clear hb C
  go_wp2
  go_ret
  exact ⟨rfl, HB.out⟩
end Go.Proofs.Ytcpjpjdfddmncaa
