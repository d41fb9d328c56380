/-
  MARKS on stacks: the entries' marks from any number on, the layers', the stack's.
-/
import Derived.Test.YtpalpbpamcaakaaGreatLay
import Derived.Test.YtpalpbpamcaakaaGreatPD
namespace Go.Proofs.YtpalpbpamcaakaaGreat
set_option maxRecDepth 100000
open Go.RowKit

set_option maxHeartbeats 2000000 in
theorem markEg_any (N0 : Nat) (hN0 : 1 ≤ N0) (base S : Nat) (v : Value) (es : List Ent) (w : World) (h : OwnEs w base S v es) (hm : endE N0 es ≤ 1100000) (hn : es.length ≤ 1100000) (_hS : S ≤ w.heap.size) (hx : ∀ e ∈ es, e.1.length ≤ 1100000) :
    Calls Tryz.prog 95 #[v, .int .i64 (N0 : Int)] w fun r w' => r = .returned (.int .i64 (endE N0 es : Int)) ∧ OwnEs w' base S v (mkE N0 es) ∧ Touch (fun b => base ≤ b ∧ b < S) w w' ∧ Below base w w' := by
  rcases h with ⟨rfl, a, cap, rfl⟩ | ⟨g, cap, U, rfl, hcap, h0, hG⟩
  · go_enter Tryz.func95, Tryz.ntmps95
    go_wp2
    refine wp_loop_rounds 1 ?_
    rw [rounds_succ]
    go_wp2
    go_ret
    exact ⟨rfl, .inl ⟨rfl, _, _, rfl⟩, Touch.refl _ _, Below.refl _ _⟩
  · have HE := Lib.hid (fun k => Nat.le_trans (endE_take N0 es k) hm)
    have HX := Lib.hid (fun k e (h : es[k]? = some e) => hx e (List.mem_of_getElem? h))
    have CM := Lib.hid (fun m0 u n f w h hn hm => markI_t base m0 u n f w h hn hm)
    have CT := Lib.hid (fun k h0 h1 w => markText_any k h0 h1 w)
    have HG0 : Hid (EntsG w base S g U (midE N0 0 es)) := by rw [midE_zero]; exact hG
    have HAll : Hid (midE N0 es.length es = mkE N0 es) := midE_all N0 es
    have HEnd : Hid (endE N0 (es.take es.length) = endE N0 es) := by show endE N0 _ = _; rw [List.take_length]
    have HLen : Hid ((mkE N0 es).length = es.length) := mkE_len N0 es
    have hbg := hG.low
    have hgS := hG.high
    obtain ⟨n, hnn⟩ : ∃ n, n = es.length := ⟨_, rfl⟩
    rw [← hnn] at hcap h0 hn HAll HEnd HLen ⊢
    have HN := Lib.hid hnn
    have hge : ∀ k, 1 ≤ endE N0 (es.take k) := fun k => Nat.le_trans hN0 (endE_take N0 (es.take k) 0)
    have HGe := Lib.hid hge
    clear hG hnn hm hx hge hN0
    go_enter Tryz.func95, Tryz.ntmps95
    go_wp2_with fail
    go_loopw [1, 5] (fun m i wr => ∃ k M : Nat, k ≤ n ∧ i = .int .i64 k ∧ m = .int .i64 (M : Int) ∧ Hid (M = endE N0 (es.take k)) ∧ Hid (EntsG wr base S g U (midE N0 k es)) ∧ Hid (Touch (fun b => base ≤ b ∧ b < S) w wr) ∧ Hid (Below base w wr)) (fun _ i _ => n - (intOf i).toNat)
    case atStart => exact ⟨0, N0, Nat.zero_le _, rfl, rfl, Lib.hid rfl, HG0, Touch.refl _ _, Below.refl _ _⟩
    case round =>
      obtain ⟨k, M, hk, rfl, rfl, HM, HG, HT, HB⟩ := hrel
      by_cases hlt : k < n
      · obtain ⟨e, he⟩ : ∃ e, es[k]? = some e := ⟨_, List.getElem?_eq_getElem (by rw [← HN.out]; exact hlt)⟩
        have hmid := midE_at (m := N0) he
        obtain ⟨g0, g1⟩ := HG.out.cell k e hmid
        have hou : OwnInts wr base (U k) e.1.length (fun i => e.1.getD i 0) := HG.out.each.own k e.1 (by rw [List.getElem?_map, hmid]; rfl)
        have hbe := HX.out k e he
        have hnx := endE_next (m := N0) he
        rw [← HM.out] at hnx
        have hM1 : 1 ≤ M := by rw [HM.out]; exact HGe.out k
        have hM2 : M + e.1.length + 1 ≤ 1100000 := by rw [← hnx]; exact HE.out (k + 1)
        have HNx := Lib.hid hnx
        have HMid : Hid (midE N0 (k + 1) es = (midE N0 k es).set k (mkEnt M e)) := by show midE _ _ _ = _; rw [midE_next he, HM.out]
        have hlow : 0 < e.1.length → ∀ b, (U k).ownBlock = some b → base ≤ b ∧ b < S := fun h0 b hb' => ⟨hou.ge h0 hb', (HG.out.each.low k e.1 (by rw [List.getElem?_map, hmid]; rfl) h0 b hb').1⟩
        have hng : 0 < e.1.length → ∀ b, (U k).ownBlock = some b → b ≠ g := fun h0 b hb' => (HG.out.each.low k e.1 (by rw [List.getElem?_map, hmid]; rfl) h0 b hb').2
        have C1 := Lib.hid (CM.out M (U k) e.1.length _ wr hou (by omega) (by omega))
        have C2 := Lib.hid (fun w => CT.out (M + e.1.length) (by omega) (by omega) w)
        obtain ⟨ua, uc, hUf⟩ := hou.form
        have HUf := Lib.hid hUf
        have HHe := Lib.hid hmid
        have HLo := Lib.hid hlow
        have HNg := Lib.hid hng
        have hgl : g < wr.heap.size := Nat.lt_of_lt_of_le hgS HG.out.size
        obtain ⟨L, hL⟩ : ∃ L, L = e.1.length := ⟨_, rfl⟩
        rw [← hL] at hM2
        have C1' := C1.out
        have C2' := C2.out
        rw [hUf, ← hL] at C1'
        rw [← hL] at C2' hUf
        rw [hUf] at g0
        have D1 := Lib.hid C1'
        have D2 := Lib.hid C2'
        have HL := Lib.hid hL
        clear C1 C2 C1' C2' hou he hmid hnx hlow hng hUf hL hbe
        rw [← HL.out] at HUf HLo HNg HNx
        go_wp2_with fail
        refine D1.out.mono ?_
        rintro r w1 ⟨rfl, hO1, hT1, hb1⟩
        have HO1 : Hid (OwnInts w1 base (U k) L (fun j => ((M + j : Nat) : Int))) := by rw [HUf.out]; exact hO1
        have HT1 : Hid (Touch (fun b => 0 < L ∧ (U k).ownBlock = some b) wr w1) := by rw [HUf.out]; exact hT1
        have HB1 := Lib.hid hb1
        clear hO1 hT1 hb1 D1
        go_wp2_with fail
        refine (D2.out w1).mono ?_
        rintro r w2 ⟨rfl, hb2⟩
        have hgT : ¬ (0 < L ∧ (U k).ownBlock = some g) := fun ⟨h0, h1⟩ => HNg.out h0 g h1 rfl
        have hcf : ∀ j, w2.cell? ⟨g, j, none⟩ = wr.cell? ⟨g, j, none⟩ ∧ w2.frozen? ⟨g, j, none⟩ = wr.frozen? ⟨g, j, none⟩ := by
          intro j
          have hg1 : g < w1.heap.size := Nat.lt_of_lt_of_le hgl HT1.out.1
          exact ⟨(hb2.cell (p := ⟨g, j, none⟩) hg1).trans ((HT1.out.cf j hgl hgT).1), (hb2.frozen (p := ⟨g, j, none⟩) hg1).trans ((HT1.out.cf j hgl hgT).2)⟩
        have s1 : w2.cell? ⟨g, k * 2 + 1, none⟩ = some (.string e.2) := (hcf _).1.trans g1
        have sf : w2.frozen? ⟨g, k * 2 + 1, none⟩ = false := (hcf _).2.trans (HG.out.thaw _)
        have hT2 : Touch (fun b => b = g ∨ (0 < L ∧ (U k).ownBlock = some b)) wr (w2.setCell ⟨g, k * 2 + 1, none⟩ (.string (markB (M + L)))) :=
          ((HT1.out.mono (fun b h => .inr h)).below hb2).setCell (.inl rfl) _ _
        have HG2 : Hid (EntsG (w2.setCell ⟨g, k * 2 + 1, none⟩ (.string (markB (M + L)))) base S g U (midE N0 (k + 1) es)) := by
          rw [HMid.out]
          refine HG.out.set HHe.out (mkEnt_len M e) ?_ (by rw [← HL.out]; exact hT2) (fun j => by rw [World.frozen?_setCell]; exact (hcf j).2.trans (HG.out.thaw j)) (fun j hj => ?_) ?_
          · rw [mkEnt_len, ← HL.out]
            refine OwnInts.congr ((HO1.out.below hb2).touch (T := fun b => b = g) ((Touch.refl (fun b => b = g) _).setCell rfl _ _) (fun h0 b hb' e => HNg.out h0 b hb' e)) fun j hj => ?_
            rw [mkEnt_get M e j (by rw [← HL.out]; exact hj)]
          · rw [World.cell?_setCell_other _ _ _ _ (by intro e; injection e; omega)]; exact (hcf j).1
          · show _ = some (Value.string (markB (M + e.1.length)))
            rw [← HL.out]; exact World.cell?_setCell_same _ _ _ s1
        have HT2 : Hid (Touch (fun b => base ≤ b ∧ b < S) w (w2.setCell ⟨g, k * 2 + 1, none⟩ (.string (markB (M + L))))) :=
          HT.out.trans (hT2.mono (fun b hb' => hb'.elim (fun e => by subst e; exact ⟨hbg, hgS⟩) (fun h => HLo.out h.1 b h.2)))
        have hsz := HB.out.size
        have HB2 : Hid (Below base w (w2.setCell ⟨g, k * 2 + 1, none⟩ (.string (markB (M + L))))) := by
          have hb02 : Below base wr w2 := HB1.out.trans (hb2.mono (Nat.le_trans (Nat.le_trans hbg (Nat.le_of_lt hgl)) HB1.out.size))
          exact (HB.out.trans hb02).setCell (p := ⟨g, k * 2 + 1, none⟩) hbg _
        clear hb2 hcf hT2 hgT HO1 HT1 HB1 HT HB HG D2
        go_wp2
        go_roundw
        case rel => exact ⟨k + 1, M + L + 1, by omega, by go_num, by go_num, HNx.out.symm, HG2, HT2, HB2⟩
        case measure => simp [intOf]; omega
      · obtain rfl : k = n := by omega
        have hM : M = endE N0 es := by rw [HM.out, HEnd.out]
        have HGf : Hid (EntsG wr base S g U (mkE N0 es)) := by rw [← HAll.out]; exact HG.out
        have HO : Hid (OwnEs wr base S (.slice (some ⟨g, 0, none⟩) k cap) (mkE N0 es)) := .inr ⟨g, cap, U, by rw [HLen.out], by rw [HLen.out]; exact hcap, by rw [HLen.out]; exact h0, HGf.out⟩
        have HMM := Lib.hid hM
        clear HG HGf HM hM
        go_wp2
        go_ret
        exact ⟨ret_int (by rw [HMM.out]), HO.out, HT.out, HB.out⟩
set_option maxHeartbeats 2000000 in
theorem heldEg_any (N0 : Nat) (hN0 : 1 ≤ N0) (base S : Nat) (v : Value) (es : List Ent) (w : World) (h : OwnEs w base S v (mkE N0 es)) (hm : endE N0 es ≤ 1100000) (hn : es.length ≤ 1100000) (hx : ∀ e ∈ es, e.1.length ≤ 1100000) :
    Calls Tryz.prog 96 #[v, .int .i64 (N0 : Int)] w fun r w' => r = .returned (.int .i64 (endE N0 es : Int)) ∧ Below w.heap.size w w' := by
  rcases h with ⟨he0, a, cap, rfl⟩ | ⟨g, cap, U, rfl, hcap, h0, hG⟩
  · have : es = [] := List.length_eq_zero_iff.1 (by rw [← mkE_len N0 es, he0]; rfl)
    subst this
    go_enter Tryz.func96, Tryz.ntmps96
    go_wp2
    refine wp_loop_rounds 1 ?_
    rw [rounds_succ]
    go_wp2
    go_ret
    exact ⟨rfl, Below.refl _ _⟩
  · have HE := Lib.hid (fun k => Nat.le_trans (endE_take N0 es k) hm)
    have HX := Lib.hid (fun k e (h : es[k]? = some e) => hx e (List.mem_of_getElem? h))
    have CM := Lib.hid (fun m0 u n w h hn hm => heldI_t base m0 u n w h hn hm)
    have CT := Lib.hid (fun k h0 h1 w => markText_any k h0 h1 w)
    have HEnd : Hid (endE N0 (es.take es.length) = endE N0 es) := by show endE N0 _ = _; rw [List.take_length]
    rw [mkE_len] at hcap h0
    rw [mkE_len]
    obtain ⟨n, hnn⟩ : ∃ n, n = es.length := ⟨_, rfl⟩
    rw [← hnn] at hcap h0 hn HEnd ⊢
    have HN := Lib.hid hnn
    have HG := Lib.hid hG
    have hgs : g < w.heap.size := Nat.lt_of_lt_of_le hG.high hG.size
    have hge : ∀ k, 1 ≤ endE N0 (es.take k) := fun k => Nat.le_trans hN0 (endE_take N0 (es.take k) 0)
    have HGe := Lib.hid hge
    clear hG hnn hm hx hge hN0
    go_enter Tryz.func96, Tryz.ntmps96
    go_wp2_with fail
    go_loopw [1, 5] (fun m i wr => ∃ k M : Nat, k ≤ n ∧ i = .int .i64 k ∧ m = .int .i64 (M : Int) ∧ Hid (M = endE N0 (es.take k)) ∧ Hid (Below w.heap.size w wr)) (fun _ i _ => n - (intOf i).toNat)
    case atStart => exact ⟨0, N0, Nat.zero_le _, rfl, rfl, Lib.hid rfl, Below.refl _ _⟩
    case round =>
      obtain ⟨k, M, hk, rfl, rfl, HM, HB⟩ := hrel
      by_cases hlt : k < n
      · obtain ⟨e, he⟩ : ∃ e, es[k]? = some e := ⟨_, List.getElem?_eq_getElem (by rw [← HN.out]; exact hlt)⟩
        have hmk := mkE_at (m := N0) he
        rw [← HM.out] at hmk
        have HGr := HG.out.below HB.out
        obtain ⟨g0, g1⟩ := HGr.cell k _ hmk
        have hou : OwnInts wr base (U k) (mkEnt M e).1.length (fun i => (mkEnt M e).1.getD i 0) := HGr.each.own k _ (by rw [List.getElem?_map, hmk]; rfl)
        rw [mkEnt_len] at hou
        have hou2 := hou.congr fun j hj => mkEnt_get M e j hj
        have hnx := endE_next (m := N0) he
        rw [← HM.out] at hnx
        have hM1 : 1 ≤ M := by rw [HM.out]; exact HGe.out k
        have hM2 : M + e.1.length + 1 ≤ 1100000 := by rw [← hnx]; exact HE.out (k + 1)
        have HNx := Lib.hid hnx
        have g1' : wr.cell? ⟨g, k * 2 + 1, none⟩ = some (.string (markB (M + e.1.length))) := g1
        have D1 := CM.out M (U k) e.1.length wr hou2 (by omega) (by omega)
        have C2 := fun w => CT.out (M + e.1.length) (by omega) (by omega) w
        obtain ⟨ua, uc, hUf⟩ := hou.form
        rw [hUf] at D1 g0
        have hgl : g < wr.heap.size := Nat.lt_of_lt_of_le hgs HB.out.size
        obtain ⟨L, hL⟩ : ∃ L, L = e.1.length := ⟨_, rfl⟩
        rw [← hL] at hM2 D1 C2 g1' HNx g0
        obtain ⟨T, hT⟩ : ∃ T, T = markB (M + L) := ⟨_, rfl⟩
        rw [← hT] at C2 g1'
        have HD1 := Lib.hid D1
        have HC2 := Lib.hid C2
        have hne : (T.toList == T.toList) = true := by simp
        clear D1 C2 hou hou2 hmk hnx he HGr g1 hUf hL hT
        go_wp2_with fail
        refine HD1.out.mono ?_
        rintro r w1 ⟨rfl, hb1⟩
        have t1 : w1.cell? ⟨g, k * 2 + 1, none⟩ = some (.string T) := (hb1.cell (p := ⟨g, k * 2 + 1, none⟩) hgl).trans g1'
        have HB1 : Hid (Below w.heap.size w w1) := below_step HB.out hb1
        have hpos : ¬ ((M + L : Nat) : Int) < 0 := by omega
        have C3 : Hid (∀ d os, Calls Tryz.prog 132 #[.int .i64 ((M + L : Nat) : Int)] (Go.Sort.grow (redrawn w1 d) os) fun r w'' => r = .returned (.string T) ∧ ∃ p : Regrown, w'' = Go.Sort.grow (redrawn w1 p.d) p.os) :=
          fun d os => Calls.regrown_of ((HC2.out _).mono fun r w' ⟨h1, h2⟩ => ⟨h1, h2⟩)
        have kt := cell_regrown t1
        clear hb1 HD1 HC2 t1 g1'
        go_wp2_with fail
        refine wp_region_quiet_below (by kernel_rfl) (by kernel_rfl) ?_
        repeat (go_big_quiet_step (exact C3.out _ _))
        refine wpQuiet_nil ?_
        rintro _ ⟨⟨dq, osq⟩, rfl⟩
        have HB2 : Hid (Below w1.heap.size w1 (Go.Sort.grow (redrawn w1 dq) osq)) := below_regrown w1 dq osq
        go_wp2
        go_roundw
        case rel => exact ⟨k + 1, M + L + 1, by omega, by go_num, by go_num, HNx.out.symm, below_step HB1.out HB2.out⟩
        case measure => simp [intOf]; omega
      · obtain rfl : k = n := by omega
        have hM : M = endE N0 es := by rw [HM.out, HEnd.out]
        have HMM := Lib.hid hM
        clear HM hM
        go_wp2
        go_ret
        exact ⟨ret_int (by rw [HMM.out]), HB.out⟩

/-! ### Layers -/
/-- The mark of a flag. -/
def markF (m : Nat) : Bool := ((m : Int) % 3 == 0)
def mkL (m : Nat) : List Lay → List Lay
  | [] => []
  | l :: r => (mkE m l.1, markF (endE m l.1)) :: mkL (endE m l.1 + 1) r
def endL (m : Nat) : List Lay → Nat
  | [] => m
  | l :: r => endL (endE m l.1 + 1) r
theorem mkL_len (m : Nat) (ls : List Lay) : (mkL m ls).length = ls.length := by
  induction ls generalizing m with
  | nil => rfl
  | cons e r ih => unfold mkL; rw [List.length_cons, ih]; rfl
theorem endL_snoc (m : Nat) (ls : List Lay) (l : Lay) : endL m (ls ++ [l]) = endE (endL m ls) l.1 + 1 := by
  induction ls generalizing m with
  | nil => rfl
  | cons x r ih => show endL _ (r ++ [l]) = _; rw [ih]; rfl
theorem mkL_snoc (m : Nat) (ls : List Lay) (l : Lay) : mkL m (ls ++ [l]) = mkL m ls ++ [(mkE (endL m ls) l.1, markF (endE (endL m ls) l.1))] := by
  induction ls generalizing m with
  | nil => rfl
  | cons x r ih => show _ :: mkL _ (r ++ [l]) = _; rw [ih]; rfl
theorem endE_ge (m : Nat) (es : List Ent) : m ≤ endE m es := endE_take m es 0
theorem endL_ge (m : Nat) (ls : List Lay) : m ≤ endL m ls := by
  induction ls generalizing m with
  | nil => exact Nat.le_refl _
  | cons x r ih => exact Nat.le_trans (Nat.le_trans (endE_ge m x.1) (Nat.le_succ _)) (ih _)
theorem endL_take (m : Nat) (ls : List Lay) (k : Nat) : endL m (ls.take k) ≤ endL m ls := by
  induction ls generalizing m k with
  | nil => rw [List.take_nil]; exact Nat.le_refl _
  | cons x r ih =>
    cases k with
    | zero => exact endL_ge m (x :: r)
    | succ k => exact ih (endE m x.1 + 1) k
theorem endL_wt (m : Nat) (ls : List Lay) : endL m ls ≤ m + wtL ls + ls.length := by
  induction ls generalizing m with
  | nil => exact Nat.le_refl _
  | cons x r ih =>
    have h1 := endE_wt m x.1
    have h2 := ih (endE m x.1 + 1)
    have h3 : wtL (x :: r) = (wtE x.1 + x.1.length) + wtL r := by unfold wtL; rw [List.map_cons, List.sum_cons]
    show endL (endE m x.1 + 1) r ≤ _
    rw [h3, List.length_cons]
    omega
def midL (m k : Nat) (ls : List Lay) : List Lay := mkL m (ls.take k) ++ ls.drop k
theorem midL_zero (m : Nat) (ls : List Lay) : midL m 0 ls = ls := rfl
theorem midL_all (m : Nat) (ls : List Lay) : midL m ls.length ls = mkL m ls := by unfold midL; rw [List.take_length, List.drop_length, List.append_nil]
theorem midL_len (m k : Nat) (ls : List Lay) : (midL m k ls).length = ls.length := by unfold midL; rw [List.length_append, mkL_len, List.length_take, List.length_drop]; omega
theorem midL_at {m k : Nat} {ls : List Lay} {l : Lay} (h : ls[k]? = some l) : (midL m k ls)[k]? = some l := by
  have hk := (List.getElem?_eq_some_iff.1 h).1
  unfold midL
  have hl : (mkL m (ls.take k)).length = k := by rw [mkL_len, List.length_take]; omega
  rw [List.getElem?_append_right (by omega), hl, Nat.sub_self, List.getElem?_drop, Nat.add_zero, h]
theorem midL_next {m k : Nat} {ls : List Lay} {l : Lay} (h : ls[k]? = some l) : midL m (k + 1) ls = (midL m k ls).set k (mkE (endL m (ls.take k)) l.1, markF (endE (endL m (ls.take k)) l.1)) := by
  have hk := (List.getElem?_eq_some_iff.1 h).1
  have hl : (mkL m (ls.take k)).length = k := by rw [mkL_len, List.length_take]; omega
  unfold midL
  rw [List.take_add_one, h, Option.toList_some, mkL_snoc, List.set_append_right _ _ (by omega), hl, Nat.sub_self, List.append_assoc]
  congr 1
  have e1 : ls.drop k = l :: ls.drop (k + 1) := by
    rw [List.drop_eq_getElem_cons hk]
    congr 1
    exact (List.getElem?_eq_some_iff.1 h).2
  rw [e1]; rfl
theorem endL_next {m k : Nat} {ls : List Lay} {l : Lay} (h : ls[k]? = some l) : endL m (ls.take (k + 1)) = endE (endL m (ls.take k)) l.1 + 1 := by
  rw [List.take_add_one, h, Option.toList_some, endL_snoc]
theorem mkL_at {m : Nat} {ls : List Lay} {k : Nat} {l : Lay} (h : ls[k]? = some l) : (mkL m ls)[k]? = some (mkE (endL m (ls.take k)) l.1, markF (endE (endL m (ls.take k)) l.1)) := by
  induction ls generalizing m k with
  | nil => simp at h
  | cons x r ih =>
    cases k with
    | zero => simp at h; subst h; rfl
    | succ k => exact ih (m := endE m x.1 + 1) (by simpa using h)
/-- Layer k has been written anew. -/
theorem LaysG.set {w w' : World} {base S g : Nat} {U : Nat → Value} {L R : Nat → Nat} {ls : List Lay} (h : LaysG w base S g U L R ls) {k : Nat} {l l' : Lay} (hk : ls[k]? = some l)
    (hnew : OwnEs w' (L k) (R k) (U k) l'.1) (ht : Touch (fun b => b = g ∨ (L k ≤ b ∧ b < R k)) w w') (hz : ∀ j, w'.frozen? ⟨g, j, none⟩ = false)
    (hc : ∀ j, j ≠ k * 2 + 1 → w'.cell? ⟨g, j, none⟩ = w.cell? ⟨g, j, none⟩) (hc1 : w'.cell? ⟨g, k * 2 + 1, none⟩ = some (.bool l'.2)) : LaysG w' base S g U L R (ls.set k l') := by
  have hklt := (List.getElem?_eq_some_iff.1 hk).1
  have hget : ∀ (j : Nat) (z : Lay), (ls.set k l')[j]? = some z → (j = k ∧ z = l') ∨ (j ≠ k ∧ ls[j]? = some z) := by
    intro j z hj
    by_cases e : k = j
    · subst e
      rw [List.getElem?_set_self hklt] at hj
      exact .inl ⟨rfl, (Option.some.inj hj).symm⟩
    · rw [List.getElem?_set_ne e] at hj
      exact .inr ⟨fun q => e q.symm, hj⟩
  obtain ⟨_, k1, k2, k3, k4⟩ := h.each k l hk
  refine ⟨h.low, h.high, Nat.le_trans h.size ht.1, hz, fun j z hj => ?_, fun j z hj => ?_, fun i j hij hj => ?_⟩
  · rcases hget j z hj with ⟨rfl, rfl⟩ | ⟨hne, hj⟩
    · exact ⟨(hc _ (by omega)).trans (h.cell _ l hk).1, hc1⟩
    · obtain ⟨c0, c1⟩ := h.cell j z hj
      exact ⟨(hc _ (by omega)).trans c0, (hc _ (by omega)).trans c1⟩
  · rcases hget j z hj with ⟨rfl, rfl⟩ | ⟨hne, hj⟩
    · exact ⟨hnew, k1, k2, k3, k4⟩
    · obtain ⟨e0, e1, e2, e3, e4⟩ := h.each j z hj
      have hjl := (List.getElem?_eq_some_iff.1 hj).1
      have hap : R j ≤ L k ∨ R k ≤ L j := by
        rcases Nat.lt_or_gt_of_ne hne with hl | hl
        · exact h.apart j k hl hklt
        · exact (h.apart k j hl hjl).symm
      exact ⟨e0.touch ht fun b hb1 hb2 hT => by rcases hT with rfl | ⟨h1, h2⟩ <;> omega, e1, e2, e3, e4⟩
  · rw [List.length_set] at hj
    exact h.apart i j hij hj

set_option maxHeartbeats 2000000 in
theorem markLs_any (base S : Nat) (v : Value) (ls : List Lay) (w : World) (h : OwnLs w base S v ls) (hm : endL 1 ls ≤ 1100000) (hn : ls.length ≤ 1100000) (hx : ∀ l ∈ ls, l.1.length ≤ 1100000 ∧ ∀ e ∈ l.1, e.1.length ≤ 1100000) :
    Calls Tryz.prog 94 #[v, .int .i64 1] w fun r w' => r = .returned (.int .i64 (endL 1 ls : Int)) ∧ OwnLs w' base S v (mkL 1 ls) ∧ Touch (fun b => base ≤ b ∧ b < S) w w' ∧ Below base w w' := by
  rcases h with ⟨rfl, a, cap, rfl⟩ | ⟨g, cap, U, L, R, rfl, hcap, h0, hG⟩
  · go_enter Tryz.func94, Tryz.ntmps94
    go_wp2
    refine wp_loop_rounds 1 ?_
    rw [rounds_succ]
    go_wp2
    go_ret
    exact ⟨rfl, .inl ⟨rfl, _, _, rfl⟩, Touch.refl _ _, Below.refl _ _⟩
  · have HE := Lib.hid (fun k => Nat.le_trans (endL_take 1 ls k) hm)
    have HX := Lib.hid (fun k e (h : ls[k]? = some e) => hx e (List.mem_of_getElem? h))
    have CM := Lib.hid (fun N0 hN0 b S u es w h hm hn hS hx => markEg_any N0 hN0 b S u es w h hm hn hS hx)
    have HG0 : Hid (LaysG w base S g U L R (midL 1 0 ls)) := by rw [midL_zero]; exact hG
    have HAll : Hid (midL 1 ls.length ls = mkL 1 ls) := midL_all 1 ls
    have HEnd : Hid (endL 1 (ls.take ls.length) = endL 1 ls) := by show endL 1 _ = _; rw [List.take_length]
    have HLen : Hid ((mkL 1 ls).length = ls.length) := mkL_len 1 ls
    have hbg := hG.low
    have hgS := hG.high
    obtain ⟨n, hnn⟩ : ∃ n, n = ls.length := ⟨_, rfl⟩
    rw [← hnn] at hcap h0 hn HAll HEnd HLen ⊢
    have HN := Lib.hid hnn
    have HGe := Lib.hid (fun k => endL_ge 1 (ls.take k))
    clear hG hnn hm hx
    go_enter Tryz.func94, Tryz.ntmps94
    go_wp2_with fail
    go_loopw [1, 5] (fun m i wr => ∃ k M : Nat, k ≤ n ∧ i = .int .i64 k ∧ m = .int .i64 (M : Int) ∧ Hid (M = endL 1 (ls.take k)) ∧ Hid (LaysG wr base S g U L R (midL 1 k ls)) ∧ Hid (Touch (fun b => base ≤ b ∧ b < S) w wr) ∧ Hid (Below base w wr)) (fun _ i _ => n - (intOf i).toNat)
    case atStart => exact ⟨0, 1, Nat.zero_le _, rfl, rfl, Lib.hid rfl, HG0, Touch.refl _ _, Below.refl _ _⟩
    case round =>
      obtain ⟨k, M, hk, rfl, rfl, HM, HG, HT, HB⟩ := hrel
      by_cases hlt : k < n
      · obtain ⟨e, he⟩ : ∃ e, ls[k]? = some e := ⟨_, List.getElem?_eq_getElem (by rw [← HN.out]; exact hlt)⟩
        have hmid := midL_at (m := 1) he
        obtain ⟨g0, g1⟩ := HG.out.cell k e hmid
        obtain ⟨hou, hb1, hb2, hb3, hb4⟩ := HG.out.each k e hmid
        have hbe := HX.out k e he
        have hnx := endL_next (m := 1) he
        rw [← HM.out] at hnx
        have hM1 : 1 ≤ M := by rw [HM.out]; exact HGe.out k
        obtain ⟨E, hE⟩ : ∃ E, E = endE M e.1 := ⟨_, rfl⟩
        have hM2 : E + 1 ≤ 1100000 := by rw [hE, ← hnx]; exact HE.out (k + 1)
        have HMid : Hid (midL 1 (k + 1) ls = (midL 1 k ls).set k (mkE M e.1, markF E)) := by show midL _ _ _ = _; rw [midL_next he, hE, HM.out]
        have C1 := CM.out M hM1 (L k) (R k) (U k) e.1 wr hou (by rw [← hE]; omega) hbe.1 (Nat.le_trans hb3 HG.out.size) hbe.2
        rw [← hE] at C1 hnx
        have HNx := Lib.hid hnx
        obtain ⟨ua, uc, hUf, _, _⟩ := hou.at.cells
        have HUf := Lib.hid hUf
        have HHe := Lib.hid hmid
        have HI := Lib.hid (⟨hb1, hb2, hb3, hb4⟩ : base ≤ L k ∧ L k ≤ R k ∧ R k ≤ S ∧ (g < L k ∨ R k ≤ g))
        have hgl : g < wr.heap.size := Nat.lt_of_lt_of_le hgS HG.out.size
        obtain ⟨Z, hZ⟩ : ∃ Z, Z = e.1.length := ⟨_, rfl⟩
        rw [← hZ] at hUf
        rw [hUf] at C1 g0
        have D1 := Lib.hid C1
        have HZ := Lib.hid hZ
        have HEE := Lib.hid hE
        clear C1 hou he hmid hnx hb1 hb2 hb3 hb4 hUf hZ hbe hE
        go_wp2_with fail
        refine D1.out.mono ?_
        rintro r w1 ⟨rfl, hO1, hT1, hb1⟩
        have HO1 : Hid (OwnEs w1 (L k) (R k) (U k) (mkE M e.1)) := by rw [HUf.out, ← HZ.out]; exact hO1
        have HT1 := Lib.hid hT1
        have HB1 := Lib.hid hb1
        have hgT : ¬ (L k ≤ g ∧ g < R k) := fun ⟨h0, h1⟩ => by obtain ⟨_, _, _, h4⟩ := HI.out; omega
        have hcf : ∀ j, w1.cell? ⟨g, j, none⟩ = wr.cell? ⟨g, j, none⟩ ∧ w1.frozen? ⟨g, j, none⟩ = wr.frozen? ⟨g, j, none⟩ := fun j => ⟨(HT1.out.cf j hgl hgT).1, (HT1.out.cf j hgl hgT).2⟩
        have s1 : w1.cell? ⟨g, k * 2 + 1, none⟩ = some (.bool e.2) := (hcf _).1.trans g1
        have sf : w1.frozen? ⟨g, k * 2 + 1, none⟩ = false := (hcf _).2.trans (HG.out.thaw _)
        have hT2 : Touch (fun b => b = g ∨ (L k ≤ b ∧ b < R k)) wr (w1.setCell ⟨g, k * 2 + 1, none⟩ (.bool (markF E))) := (HT1.out.mono (fun b h => .inr h)).setCell (.inl rfl) _ _
        have HG2 : Hid (LaysG (w1.setCell ⟨g, k * 2 + 1, none⟩ (.bool (markF E))) base S g U L R (midL 1 (k + 1) ls)) := by
          rw [HMid.out]
          refine HG.out.set HHe.out ?_ hT2 (fun j => by rw [World.frozen?_setCell]; exact (hcf j).2.trans (HG.out.thaw j)) (fun j hj => ?_) ?_
          · exact HO1.out.touch (T := fun b => b = g) ((Touch.refl (fun b => b = g) _).setCell rfl _ _) (fun b h0 h1 e => hgT ⟨by subst e; exact h0, by subst e; exact h1⟩)
          · rw [World.cell?_setCell_other _ _ _ _ (by intro e; injection e; omega)]; exact (hcf j).1
          · exact World.cell?_setCell_same _ _ _ s1
        have HT2 : Hid (Touch (fun b => base ≤ b ∧ b < S) w (w1.setCell ⟨g, k * 2 + 1, none⟩ (.bool (markF E)))) :=
          HT.out.trans (hT2.mono (fun b hb' => hb'.elim (fun e => by subst e; exact ⟨hbg, hgS⟩) (fun h => by obtain ⟨h1, h2, h3, h4⟩ := HI.out; exact ⟨by omega, by omega⟩)))
        have HB2 : Hid (Below base w (w1.setCell ⟨g, k * 2 + 1, none⟩ (.bool (markF E)))) :=
          (HB.out.trans (HB1.out.mono HI.out.1)).setCell (p := ⟨g, k * 2 + 1, none⟩) hbg _
        clear hb1 hcf hT2 hgT hO1 hT1 HO1 HT1 HB1 HT HB HG D1
        go_wp2
        go_roundw
        case rel => exact ⟨k + 1, E + 1, by omega, by go_num, by go_num, HNx.out.symm, HG2, HT2, HB2⟩
        case measure => simp [intOf]; omega
      · obtain rfl : k = n := by omega
        have hM : M = endL 1 ls := by rw [HM.out, HEnd.out]
        have HGf : Hid (LaysG wr base S g U L R (mkL 1 ls)) := by rw [← HAll.out]; exact HG.out
        have HO : Hid (OwnLs wr base S (.slice (some ⟨g, 0, none⟩) k cap) (mkL 1 ls)) := .inr ⟨g, cap, U, L, R, by rw [HLen.out], by rw [HLen.out]; exact hcap, by rw [HLen.out]; exact h0, HGf.out⟩
        have HMM := Lib.hid hM
        clear HG HGf HM hM
        go_wp2
        go_ret
        exact ⟨ret_int (by rw [HMM.out]), HO.out, HT.out, HB.out⟩
set_option maxHeartbeats 2000000 in
theorem heldLs_any (base S : Nat) (v : Value) (ls : List Lay) (w : World) (h : OwnLs w base S v (mkL 1 ls)) (hm : endL 1 ls ≤ 1100000) (hn : ls.length ≤ 1100000) (hx : ∀ l ∈ ls, l.1.length ≤ 1100000 ∧ ∀ e ∈ l.1, e.1.length ≤ 1100000) :
    Calls Tryz.prog 97 #[v, .int .i64 1] w fun r w' => r = .returned (.int .i64 (endL 1 ls : Int)) ∧ Below w.heap.size w w' := by
  rcases h with ⟨he0, a, cap, rfl⟩ | ⟨g, cap, U, L, R, rfl, hcap, h0, hG⟩
  · have : ls = [] := List.length_eq_zero_iff.1 (by rw [← mkL_len 1 ls, he0]; rfl)
    subst this
    go_enter Tryz.func97, Tryz.ntmps97
    go_wp2
    refine wp_loop_rounds 1 ?_
    rw [rounds_succ]
    go_wp2
    go_ret
    exact ⟨rfl, Below.refl _ _⟩
  · have HE := Lib.hid (fun k => Nat.le_trans (endL_take 1 ls k) hm)
    have HX := Lib.hid (fun k e (h : ls[k]? = some e) => hx e (List.mem_of_getElem? h))
    have CM := Lib.hid (fun N0 hN0 b S u es w h hm hn hx => heldEg_any N0 hN0 b S u es w h hm hn hx)
    have HEnd : Hid (endL 1 (ls.take ls.length) = endL 1 ls) := by show endL 1 _ = _; rw [List.take_length]
    rw [mkL_len] at hcap h0
    rw [mkL_len]
    obtain ⟨n, hnn⟩ : ∃ n, n = ls.length := ⟨_, rfl⟩
    rw [← hnn] at hcap h0 hn HEnd ⊢
    have HN := Lib.hid hnn
    have HG := Lib.hid hG
    have hgs : g < w.heap.size := Nat.lt_of_lt_of_le hG.high hG.size
    have HGe := Lib.hid (fun k => endL_ge 1 (ls.take k))
    clear hG hnn hm hx
    go_enter Tryz.func97, Tryz.ntmps97
    go_wp2_with fail
    go_loopw [1, 5] (fun m i wr => ∃ k M : Nat, k ≤ n ∧ i = .int .i64 k ∧ m = .int .i64 (M : Int) ∧ Hid (M = endL 1 (ls.take k)) ∧ Hid (Below w.heap.size w wr)) (fun _ i _ => n - (intOf i).toNat)
    case atStart => exact ⟨0, 1, Nat.zero_le _, rfl, rfl, Lib.hid rfl, Below.refl _ _⟩
    case round =>
      obtain ⟨k, M, hk, rfl, rfl, HM, HB⟩ := hrel
      by_cases hlt : k < n
      · obtain ⟨e, he⟩ : ∃ e, ls[k]? = some e := ⟨_, List.getElem?_eq_getElem (by rw [← HN.out]; exact hlt)⟩
        have hmk := mkL_at (m := 1) he
        rw [← HM.out] at hmk
        have HGr := HG.out.touch (T := fun _ => False) (Touch.of_below HB.out) (fun _ _ _ q => q)
        obtain ⟨g0, g1⟩ := HGr.cell k _ hmk
        obtain ⟨hou, _, _, _, _⟩ := HGr.each k _ hmk
        simp only at hou g1
        have hbe := HX.out k e he
        have hnx := endL_next (m := 1) he
        rw [← HM.out] at hnx
        have hM1 : 1 ≤ M := by rw [HM.out]; exact HGe.out k
        obtain ⟨E, hE⟩ : ∃ E, E = endE M e.1 := ⟨_, rfl⟩
        have hM2 : E + 1 ≤ 1100000 := by rw [hE, ← hnx]; exact HE.out (k + 1)
        have C1 := CM.out M hM1 (L k) (R k) (U k) e.1 wr hou (by rw [← hE]; omega) hbe.1 hbe.2
        rw [← hE] at C1 hnx g1
        have HNx := Lib.hid hnx
        obtain ⟨ua, uc, hUf, _, _⟩ := hou.at.cells
        have hgl : g < wr.heap.size := Nat.lt_of_lt_of_le hgs HB.out.size
        obtain ⟨Z, hZ⟩ : ∃ Z, Z = (mkE M e.1).length := ⟨_, rfl⟩
        rw [← hZ] at hUf
        rw [hUf] at C1 g0
        have D1 := Lib.hid C1
        obtain ⟨F, hF⟩ : ∃ F, F = markF E := ⟨_, rfl⟩
        have hF2 : ((E : Int) % 3 == 0) = F := hF.symm
        have hne : (!F == ((E : Int) % 3 == 0)) = false := by rw [hF2]; cases F <;> rfl
        rw [← hF] at g1
        clear C1 hou he hmk hnx hUf hZ hbe hE hF hF2 HGr
        go_wp2_with fail
        refine D1.out.mono ?_
        rintro r w1 ⟨rfl, hb1⟩
        have t1 : w1.cell? ⟨g, k * 2 + 1, none⟩ = some (.bool F) := (hb1.cell (p := ⟨g, k * 2 + 1, none⟩) hgl).trans g1
        have HB1 : Hid (Below w.heap.size w w1) := below_step HB.out hb1
        have hpos : ¬ (E : Int) < 0 := by omega
        clear hb1 D1 g1
        go_wp2
        go_roundw
        case rel => exact ⟨k + 1, E + 1, by omega, by go_num, by go_num, HNx.out.symm, HB1.out⟩
        case measure => simp [intOf]; omega
      · obtain rfl : k = n := by omega
        have hM : M = endL 1 ls := by rw [HM.out, HEnd.out]
        have HMM := Lib.hid hM
        clear HM hM
        go_wp2
        go_ret
        exact ⟨ret_int (by rw [HMM.out]), HB.out⟩
theorem markS_any (base S : Nat) (v : Value) (ls : List Lay) (w : World) (h : OwnLs w base S v ls) (hm : endL 1 ls ≤ 1100000) (hn : ls.length ≤ 1100000) (_hS : S ≤ w.heap.size) (hbase : base ≤ w.heap.size) (hx : ∀ l ∈ ls, l.1.length ≤ 1100000 ∧ ∀ e ∈ l.1, e.1.length ≤ 1100000) :
    Calls Tryz.prog 46 #[dV v, .int .i64 1] w fun r w' => r = .returned (.int .i64 (endL 1 ls : Int)) ∧ OwnLs w' base S v (mkL 1 ls) ∧ Touch (fun b => base ≤ b ∧ b < S) w w' ∧ Below base w w' := by
  have C := Lib.hid (fun w' hb => markLs_any base S v ls w' (h.below (w' := w') hb) hm hn hx)
  obtain ⟨a, cap, rfl, _, _⟩ := h.at.cells
  clear h hm hn hx
  unfold dV
  go_enter Tryz.func46, Tryz.ntmps46
  go_wp2_with fail
  refine (C.out _ (below_al _ _)).mono ?_
  rintro r w1 ⟨rfl, hO, hT, hb⟩
  have HO := Lib.hid hO
  have HT : Hid (Touch (fun b => base ≤ b ∧ b < S) w w1) := ((Touch.refl _ w).alloc _).trans hT
  have HB : Hid (Below base w w1) := ((below_al w _).mono hbase).trans hb
  clear hO hT hb C
  go_wp2
  go_ret
  exact ⟨rfl, HO.out, HT.out, HB.out⟩
theorem heldS_any (base S : Nat) (v : Value) (ls : List Lay) (w : World) (h : OwnLs w base S v (mkL 1 ls)) (hm : endL 1 ls ≤ 1100000) (hn : ls.length ≤ 1100000) (hx : ∀ l ∈ ls, l.1.length ≤ 1100000 ∧ ∀ e ∈ l.1, e.1.length ≤ 1100000) :
    Calls Tryz.prog 49 #[dV v, .int .i64 1] w fun r w' => r = .returned (.int .i64 (endL 1 ls : Int)) ∧ Below w.heap.size w w' := by
  have C := Lib.hid (fun w' hb => heldLs_any base S v ls w' (h.below (w' := w') hb) hm hn hx)
  obtain ⟨a, cap, rfl, _, _⟩ := h.at.cells
  obtain ⟨E, hE⟩ : ∃ E, E = endL 1 ls := ⟨_, rfl⟩
  rw [← hE] at C ⊢
  clear h hm hn hx hE
  unfold dV
  go_enter Tryz.func49, Tryz.ntmps49
  go_wp2_with fail
  refine (C.out _ (below_al _ _)).mono ?_
  rintro r w1 ⟨rfl, hb⟩
  have HB := Lib.hid (below_box hb)
  have hpos : ¬ (E : Int) < 0 := by omega
  clear hb C
  go_wp2
  go_ret
  exact ⟨rfl, HB.out⟩
end Go.Proofs.YtpalpbpamcaakaaGreat
