/-
  CONTRACTS of the draws of IsSegmentation's arguments.
-/
import Derived.Test.YtnpiphkglhcifaaGreatG2FnSegment
import Derived.Test.YtnpiphkglhcifaaGreatG3FnSegment
namespace Go.Proofs.YtnpiphkglhcifaaGreat
set_option maxRecDepth 100000
open Go.RowKit
/-- A drawn dictionary, a drawn list of strokes, drawn pieces. -/
def DIs (base : Nat) (w' : World) (r : Ending) : Prop := ∃ (v : Value) (us : List (Value × Ent)) (u : Value) (xs : List Int) (y : Value) (ls : List Pc), r = .returned (.tuple #[dV v, u, y]) ∧ Rows w' base v us ∧ us.length ≤ 60 ∧ (∀ p ∈ us, p.2.1.length ≤ 8 ∧ p.2.2.size ≤ 60) ∧ IntsM w' u xs ∧ xs.length ≤ 61 ∧ PcsAt w' y ls ∧ ls.length ≤ 61
/-- While the pieces are drawn and changed: what stood at w3 stands, the pieces lie behind it. -/
structure IsS (w w3 wx : World) (y : Value) (n : Nat) (f : Nat → Pc) (N : Nat) : Prop where
  t : Touch (fun b => b = w.heap.size + 1 ∨ w3.heap.size ≤ b) w3 wx
  own : OwnPcs wx w3.heap.size y n f
  cur : Cur wx (w.heap.size + 1) N
  low : Below w.heap.size w wx
  hD : w.heap.size + 1 < w3.heap.size
theorem IsS.grown {w w3 wx w' : World} {y : Value} {n : Nat} {f : Nat → Pc} {N N' : Nat} (h : IsS w w3 wx y n f N) (hg : wx.grownBy w' (some (w.heap.size + 1))) (hc : Cur w' (w.heap.size + 1) N') : IsS w w3 w' y n f N' := by
  have ht : Touch (fun b => b = w.heap.size + 1) wx w' := Touch.grown hg (fun k e => by injection e with e; exact e.symm)
  refine ⟨h.t.trans (ht.mono fun b hb => .inl hb), h.own.touch ht (fun h0 g hgb e => ?_), hc, h.low.grown hg h.low.size (fun b e => by injection e with e; omega), h.hD⟩
  rcases h.own with ⟨hz, _⟩ | ⟨g', cap, rfl, _, hb, _, _⟩
  · omega
  · have : g = g' := by simpa [Value.ownBlock] using hgb.symm
    have := h.hD
    omega
theorem IsS.box {w w3 wx : World} {y : Value} {n : Nat} {f : Nat → Pc} {N : Nat} (h : IsS w w3 wx y n f N) {b : Nat} {T : TypeId} {v : Value} (hb : BoxV w3 b T v) (hne : b ≠ w.heap.size + 1) : BoxV wx b T v :=
  hb.touch h.t (fun q => by have := hb.lt; omega)
theorem IsS.rows {w w3 wx : World} {y : Value} {n : Nat} {f : Nat → Pc} {N base : Nat} (h : IsS w w3 wx y n f N) {v : Value} {us : List (Value × Ent)} (hr : Rows w3 base v us) (hb : w.heap.size + 1 < base) : Rows wx base v us := by
  have hT : ∀ b, base ≤ b → b < w3.heap.size → ¬ (b = w.heap.size + 1 ∨ w3.heap.size ≤ b) := fun b h1 h2 q => by omega
  refine ⟨⟨hr.row.1, ?_⟩, fun p hp => ⟨(hr.ints p hp).1.touch h.t fun b hb => hT b ((hr.ints p hp).2 b hb).1 (intsM_block (hr.ints p hp).1 b hb), (hr.ints p hp).2⟩⟩
  rcases hr.row.2 with h1 | ⟨g, cap, cur, hv, hbg, hg, r⟩
  · exact .inl h1
  · exact .inr ⟨g, cap, cur, hv, hbg, h.t.block hg (hT g hbg (Array.getElem?_eq_some_iff.1 hg).1), r⟩
theorem IsS.outl {w w3 wx : World} {y : Value} {n : Nat} {f : Nat → Pc} {N : Nat} (h : IsS w w3 wx y n f N) {u : Value} {xs : List Int} (hi : IntsM w3 u xs) (hu : ∀ b, u.ownBlock = some b → b ≠ w.heap.size + 1) : IntsM wx u xs :=
  hi.touch h.t (fun b hb q => by have := intsM_block hi b hb; have := hu b hb; omega)
theorem ownPcs_mono {w : World} {base base' : Nat} {v : Value} {n : Nat} {f : Nat → Pc} (h : OwnPcs w base v n f) (hb : base' ≤ base) : OwnPcs w base' v n f := by
  rcases h with h | ⟨g, cap, hv, hn, hg, h0, hr⟩
  · exact .inl h
  · exact .inr ⟨g, cap, hv, hn, Nat.le_trans hb hg, h0, hr⟩
theorem sgL_lenD (es : List Ent) (xs : List Int) : (sgL es xs).length ≤ xs.length := by
  unfold sgL
  split
  · have := Pl.segP_len es xs 0; omega
  · exact Nat.zero_le _
theorem fwL_lenD (es : List Ent) (xs : List Int) : (fwL es xs).length ≤ xs.length := by
  unfold fwL
  split
  · have := Pl.opt_len es xs 0; omega
  · exact Nat.zero_le _
theorem RowPc.set0 {w : World} {g n : Nat} {f : Nat → Pc} (h : RowPc w g n f) (k : Nat) (hk : k < n) (x : Int) :
    RowPc (w.setCell ⟨g, k * 3, none⟩ (.int .i64 x)) g n (fun j => if j = k then (x, (f k).2.1, (f k).2.2) else f j) := by
  obtain ⟨h0, h1, h2⟩ := h
  refine ⟨by rw [World.size_setCell]; exact h0, fun j hj => ?_, fun j => by rw [World.frozen?_setCell]; exact h2 j⟩
  obtain ⟨a0, a1, a2⟩ := h1 j hj
  by_cases hjk : j = k
  · subst hjk
    simp only [if_true]
    refine ⟨World.cell?_setCell_same _ _ _ a0, ?_, ?_⟩
    · rw [World.cell?_setCell_other _ _ _ _ (by intro e; injection e; omega)]; exact a1
    · rw [World.cell?_setCell_other _ _ _ _ (by intro e; injection e; omega)]; exact a2
  · simp only [if_neg hjk]
    refine ⟨?_, ?_, ?_⟩
    · rw [World.cell?_setCell_other _ _ _ _ (by intro e; injection e; omega)]; exact a0
    · rw [World.cell?_setCell_other _ _ _ _ (by intro e; injection e; omega)]; exact a1
    · rw [World.cell?_setCell_other _ _ _ _ (by intro e; injection e; omega)]; exact a2
theorem RowPc.set1 {w : World} {g n : Nat} {f : Nat → Pc} (h : RowPc w g n f) (k : Nat) (hk : k < n) (x : Int) :
    RowPc (w.setCell ⟨g, k * 3 + 1, none⟩ (.int .i64 x)) g n (fun j => if j = k then ((f k).1, x, (f k).2.2) else f j) := by
  obtain ⟨h0, h1, h2⟩ := h
  refine ⟨by rw [World.size_setCell]; exact h0, fun j hj => ?_, fun j => by rw [World.frozen?_setCell]; exact h2 j⟩
  obtain ⟨a0, a1, a2⟩ := h1 j hj
  by_cases hjk : j = k
  · subst hjk
    simp only [if_true]
    refine ⟨?_, World.cell?_setCell_same _ _ _ a1, ?_⟩
    · rw [World.cell?_setCell_other _ _ _ _ (by intro e; injection e; omega)]; exact a0
    · rw [World.cell?_setCell_other _ _ _ _ (by intro e; injection e; omega)]; exact a2
  · simp only [if_neg hjk]
    refine ⟨?_, ?_, ?_⟩
    · rw [World.cell?_setCell_other _ _ _ _ (by intro e; injection e; omega)]; exact a0
    · rw [World.cell?_setCell_other _ _ _ _ (by intro e; injection e; omega)]; exact a1
    · rw [World.cell?_setCell_other _ _ _ _ (by intro e; injection e; omega)]; exact a2
theorem RowPc.take {w : World} {g n i : Nat} {f : Nat → Pc} (h : RowPc w g n f) (hi : i ≤ n) : RowPc w g i f := ⟨h.1, fun j hj => h.2.1 j (by omega), h.2.2⟩
/-- The pieces have a block of their own. -/
theorem IsS.row {w w3 wx : World} {y : Value} {n : Nat} {f : Nat → Pc} {N : Nat} (h : IsS w w3 wx y n f N) (h0 : 0 < n) : ∃ g cap, y = .slice (some ⟨g, 0, none⟩) n cap ∧ n ≤ cap ∧ w3.heap.size ≤ g ∧ RowPc wx g n f := by
  rcases h.own with ⟨hz, _⟩ | ⟨g, cap, hy, hc, hg, _, hr⟩
  · omega
  · exact ⟨g, cap, hy, hc, hg, hr⟩
theorem IsS.rowAt {w w3 wx : World} {g cap n : Nat} {f : Nat → Pc} {N : Nat} (h : IsS w w3 wx (.slice (some ⟨g, 0, none⟩) n cap) n f N) (h0 : 0 < n) : RowPc wx g n f := by
  obtain ⟨g', cap', e, _, _, hr⟩ := h.row h0
  injection e with e1 e2 e3
  injection e1 with e1
  injection e1 with e1
  subst e1
  exact hr
theorem IsS.store {w w3 wx : World} {g cap n o : Nat} {v : Value} {f f' : Nat → Pc} {N : Nat} (h : IsS w w3 wx (.slice (some ⟨g, 0, none⟩) n cap) n f N) (hc : n ≤ cap) (h0 : 0 < n) (hg : w3.heap.size ≤ g) (hr : RowPc (wx.setCell ⟨g, o, none⟩ v) g n f') : IsS w w3 (wx.setCell ⟨g, o, none⟩ v) (.slice (some ⟨g, 0, none⟩) n cap) n f' N :=
  ⟨h.t.setCell (.inr hg) o v, .inr ⟨g, cap, rfl, hc, hg, h0, hr⟩, h.cur.setCellA (by have := h.hD; omega) o v, h.low.setCell (p := ⟨g, o, none⟩) (by have := h.hD; show w.heap.size ≤ g; omega) v, h.hD⟩
theorem IsS.take {w w3 wx : World} {g cap n i : Nat} {f : Nat → Pc} {N : Nat} (h : IsS w w3 wx (.slice (some ⟨g, 0, none⟩) n cap) n f N) (hc : n ≤ cap) (hg : w3.heap.size ≤ g) (hr : RowPc wx g n f) (hi : i ≤ n) : IsS w w3 wx (.slice (some ⟨g, 0, none⟩) i cap) i f N := by
  refine ⟨h.t, ?_, h.cur, h.low, h.hD⟩
  rcases Nat.eq_zero_or_pos i with rfl | hp
  · exact .inl ⟨rfl, _, _, rfl⟩
  · exact .inr ⟨g, cap, rfl, by omega, hg, hp, hr.take hi⟩
theorem IsS.below {w w3 wx w' : World} {y : Value} {n : Nat} {f : Nat → Pc} {N : Nat} (h : IsS w w3 wx y n f N) (hb : Below wx.heap.size wx w') : IsS w w3 w' y n f N :=
  ⟨h.t.below hb, h.own.below hb, h.cur.below hb, below_step h.low hb, h.hD⟩
/-- The end: the dictionary is put into the box of the answer. -/
theorem IsS.fin {w w3 wx : World} {y : Value} {n : Nat} {f : Nat → Pc} {N base : Nat} {v u : Value} {us : List (Value × Ent)} {xs : List Int} (h : IsS w w3 wx y n f N) (hn : n ≤ 61)
    (hr : Rows w3 base v us) (hb : w.heap.size + 1 < base) (hl : us.length ≤ 60) (hx : ∀ p ∈ us, p.2.1.length ≤ 8 ∧ p.2.2.size ≤ 60) (hi : IntsM w3 u xs) (hu : ∀ b, u.ownBlock = some b → w.heap.size + 1 < b) (hxl : xs.length ≤ 61) (x : Value) :
    DIs w.heap.size (wx.setCell ⟨w.heap.size, 0, none⟩ x) (.returned (.tuple #[dV v, u, y])) ∧ Below w.heap.size w (wx.setCell ⟨w.heap.size, 0, none⟩ x) := by
  have ht : Touch (fun b => b = w.heap.size) wx (wx.setCell ⟨w.heap.size, 0, none⟩ x) := (Touch.refl (fun b => b = w.heap.size) _).setCell (g := w.heap.size) rfl _ _
  have hD := h.hD
  refine ⟨⟨v, us, u, xs, y, (List.range n).map f, rfl, ((h.rows hr hb).setCell (by omega)).mono (by omega), hl, hx, ?_, hxl, ?_, by simpa using hn⟩, h.low.setCell (p := ⟨w.heap.size, 0, none⟩) (Nat.le_refl _) _⟩
  · exact (h.outl hi (fun b hb => by have := hu b hb; omega)).touch ht (fun b hb q => by have := hu b hb; omega)
  · have ho : OwnPcs (wx.setCell ⟨w.heap.size, 0, none⟩ x) w3.heap.size y n f := by
      refine h.own.touch ht (fun h0 g hgb e => ?_)
      rcases h.own with ⟨hz, _⟩ | ⟨g', cap, rfl, _, hb', _, _⟩
      · omega
      · have : g = g' := by simpa [Value.ownBlock] using hgb.symm
        omega
    refine ho.at (by simp) (fun j e he => ?_)
    rcases Nat.lt_or_ge j n with hj | hj
    · rw [List.getElem?_map, List.getElem?_range hj] at he
      exact (Option.some.inj he)
    · rw [List.getElem?_eq_none (by simpa using hj)] at he; cases he
set_option maxHeartbeats 8000000 in
theorem drawIsSegmentation_any (a : Option Addr) (n cap : Nat) (w : World) (h : CodeAt w a n) :
    Calls Tryz.prog 13 #[.slice a n cap] w fun r w' => DIs w.heap.size w' r ∧ Below w.heap.size w w' := by
  have cd := fun B N w h hN => anyDictionary_any B N w h hN
  have ck := fun B N base v us w h hr hB hl hs hN => anyStrokes_any B N base v us w h hr hB hl hs hN
  unfold DDict dV at cd
  unfold dV DrawnL at ck
  have CD := Lib.hid cd
  have CK := Lib.hid ck
  have CS := Lib.hid (fun v es u xs w h hu hn hx hxn => specSegment_any v es u xs w h hu hn hx hxn)
  have CF := Lib.hid (fun v es u xs w h hu hn hx hxn => specFewestPieces_any v es u xs w h hu hn hx hxn)
  unfold dV at CS CF
  have CO := Lib.hid (fun B N n w h hN h0 h1 => one_any B N n w h hN h0 h1)
  have CP := Lib.hid (fun B N n w h hN h0 h1 => pick_any B N n w h hN h0 h1)
  clear cd ck
  obtain ⟨w0, hw0⟩ : ∃ W, W = (w.alloc (.cells #[.slice none 0 0] 26)).alloc (.cells #[.slice a n cap, .int .i64 0, .int .u64 0] 59) := ⟨_, rfl⟩
  have hb0 : Below w.heap.size w w0 := by rw [hw0]; exact below_al2 _ _ _
  have hs0 : w0.heap.size = w.heap.size + 1 + 1 := by rw [hw0]; simp
  have R0 : Hid (BoxV w0 w.heap.size 26 (.slice none 0 0)) := by rw [hw0]; exact (BoxV.new w _ _).below (below_al _ _) (by simp)
  have C0 : Hid (Cur w0 (w.heap.size + 1) 0) := by
    have e := cur_new (w.alloc (.cells #[.slice none 0 0] 26)) a n cap 59 (h.below (below_al _ _))
    rw [World.size_alloc] at e
    rw [hw0]; exact e
  have HB0 := Lib.hid hb0
  have HW0 := Lib.hid hw0
  clear h hb0 hw0
  go_enter Tryz.func13, Tryz.ntmps13
  go_wp2_with fail
  rw [← HW0.out]
  refine (CD.out _ _ _ C0.out (by omega)).mono ?_
  rintro r w1 ⟨⟨v, us, rfl, hr1, hl1, hx1⟩, hc1, hg1⟩
  obtain ⟨va, vc, hvf⟩ := hr1.form
  subst hvf
  have hs1 : w0.heap.size ≤ w1.heap.size := hg1.size
  have hb1 : Below w.heap.size w w1 := HB0.out.grown hg1 (by omega) (fun b e => by injection e with e; omega)
  obtain ⟨w2, hw2⟩ : ∃ W, W = w1.alloc (.cells #[.slice va us.length vc] 26) := ⟨_, rfl⟩
  have hbA : Below w1.heap.size w1 w2 := by rw [hw2]; exact below_al _ _
  have X2 : Hid (BoxV w2 w1.heap.size 26 (.slice va us.length vc)) := by rw [hw2]; exact BoxV.new _ _ _
  have R2 := Lib.hid ((R0.out.grown hg1 (by simp)).below hbA (by have := R0.out.lt; omega)) 
  have V2 := Lib.hid (hr1.below hbA)
  have C2 := Lib.hid (hc1.below hbA)
  have HB2 := Lib.hid (below_step hb1 hbA)
  have hs2 : w1.heap.size ≤ w2.heap.size := hbA.size
  have HW2 := Lib.hid hw2
  have HX := Lib.hid hx1
  have cX := X2.out.cell
  rw [HW2.out] at cX
  obtain ⟨D, hD⟩ : ∃ D, D = w1.heap.size := ⟨_, rfl⟩
  have cD := X2.out.cell
  have kD : ∀ p : Seen w1.heap.size (.slice va us.length vc), p.world.cell? ⟨w1.heap.size, 0, none⟩ = some (.slice va us.length vc) := fun p => p.cell
  clear hr1 hx1 hc1 hg1 hb1 hbA hw2 hD R0 C0 HB0 HW0 CD
  go_wp2_with fail
  rw [← HW2.out]
  clear cX cD kD
  refine (CK.out _ _ w0.heap.size _ us w2 C2.out V2.out (by omega) hl1 HX.out (by omega)).mono ?_
  rintro r w3 ⟨⟨u, xs, rfl, ho, hxl⟩, hc3, hg3⟩
  have X3 := Lib.hid (X2.out.keep hg3 (by omega))
  have R3 := Lib.hid (R2.out.grown hg3 (by simp))
  have V3 := Lib.hid (V2.out.keep hg3 (by omega))
  have HI3 := Lib.hid (row_M ho)
  have HL : Hid (∀ b, u.ownBlock = some b → w2.heap.size ≤ b) := fun b hb => (ho.lt b hb).1
  have HB3 : Hid (Below w.heap.size w w3) := HB2.out.grown hg3 (by omega) (fun b e => by injection e with e; omega)
  have C3 := Lib.hid hc3
  have hs3 : w2.heap.size ≤ w3.heap.size := hg3.size
  obtain ⟨ua, uc, huf⟩ := (ownInts_of ho).form
  subst huf
  have cX := X3.out.cell
  have E3 := Lib.hid (V3.out.at.at)
  clear hc3 hg3 ho X2 R2 V2 C2 HB2 HW2 CK
  go_wp2_with fail
  have hok : ∀ e ∈ us.map (·.2), entOk e := fun e he => by obtain ⟨p, hp, rfl⟩ := List.mem_map.1 he; have := HX.out p hp; exact ⟨by omega, by omega⟩
  refine (CS.out _ _ _ _ w3 E3.out HI3.out.at (by rw [List.length_map]; omega) hok (by omega)).mono ?_
  rintro r w4 ⟨⟨y, rfl, hy⟩, hb4⟩
  have S4 : Hid (IsS w w3 w4 y (sgL (us.map (·.2)) xs).length (fun j => (sgL (us.map (·.2)) xs).getD j pc0) 6000) := ⟨Touch.of_below hb4, ownP_own hy, (C3.out.below hb4).mono (by omega), below_step HB3.out hb4, by omega⟩
  have HO := Lib.hid hok
  clear hy hb4 CS HB3 E3 C3 cX hok
  go_wp2_with fail
  refine (CO.out _ _ _ _ S4.out.cur (by omega) (by omega) (by omega)).mono ?_
  rintro r w5 ⟨⟨b, rfl⟩, hc5, hg5⟩
  have S5 := Lib.hid (S4.out.grown hg5 hc5)
  have cX := (S5.out.box X3.out (by omega)).cell
  clear hc5 hg5 S4
  cases b with
  | true =>
    go_wp2_with fail
    refine (CF.out _ _ _ _ w5 (S5.out.rows V3.out (by omega)).at.at (S5.out.outl HI3.out (fun b hb => by have := HL.out b hb; omega)).at (by rw [List.length_map]; omega) HO.out (by omega)).mono ?_
    rintro r w6 ⟨⟨y', rfl, hy⟩, hb6⟩
    have hs5 : w3.heap.size ≤ w5.heap.size := S5.out.t.1
    have S6 : Hid (IsS w w3 w6 y' (fwL (us.map (·.2)) xs).length (fun j => (fwL (us.map (·.2)) xs).getD j pc0) 6002) := ⟨S5.out.t.below hb6, ownPcs_mono (ownP_own hy) hs5, S5.out.cur.below hb6, below_step S5.out.low hb6, S5.out.hD⟩
    have hlen : (fwL (us.map (·.2)) xs).length ≤ 61 := by have := fwL_lenD (us.map (·.2)) xs; omega
    obtain ⟨f, hf⟩ : ∃ f : Nat → Pc, f = fun j => (fwL (us.map (·.2)) xs).getD j pc0 := ⟨_, rfl⟩
    obtain ⟨m, hm⟩ : ∃ m, m = (fwL (us.map (·.2)) xs).length := ⟨_, rfl⟩
    rw [← hf, ← hm] at S6
    rw [← hm] at hlen
    clear hf hm hy hb6 S5 cX hs5
    --<
    rcases Nat.eq_zero_or_pos m with rfl | hm0
    · obtain ⟨a', cap', rfl⟩ : ∃ a' cap', y' = .slice a' 0 cap' := by
        rcases S6.out.own with ⟨_, a', cap', e⟩ | ⟨_, _, _, _, _, h0, _⟩
        · exact ⟨a', cap', e⟩
        · omega
      have cD := (S6.out.box X3.out (by omega)).cell
      have R := Lib.hid (S6.out.box R3.out (by omega))
      have cR := R.out.cell
      have fR := R.out.frozen
      go_wp2
      refine bodyPost_ret (results_dt3 rfl _ _ w.heap.size _ rfl (R.out.set _)) rfl ?_
      exact S6.out.fin hlen V3.out (by omega) hl1 HX.out HI3.out (fun b hb => by have := HL.out b hb; omega) hxl _
    · obtain ⟨g, cap, rfl, hcap, hg, _⟩ := S6.out.row hm0
      go_wp2_with fail
      refine (CO.out _ _ _ w6 S6.out.cur (by omega) (by omega) (by omega)).mono ?_
      rintro r w7 ⟨⟨b2, rfl⟩, hc, hgr⟩
      have S7 := Lib.hid (S6.out.grown hgr hc)
      clear hc hgr S6
      cases b2 with
      | false =>
        have cD := (S7.out.box X3.out (by omega)).cell
        have R := Lib.hid (S7.out.box R3.out (by omega))
        have cR := R.out.cell
        have fR := R.out.frozen
        go_wp2
        refine bodyPost_ret (results_dt3 rfl _ _ w.heap.size _ rfl (R.out.set _)) rfl ?_
        exact S7.out.fin hlen V3.out (by omega) hl1 HX.out HI3.out (fun b hb => by have := HL.out b hb; omega) hxl _
      | true =>
        go_wp2_with fail
        refine (CP.out _ _ _ w7 S7.out.cur (by omega) (by omega) (by omega)).mono ?_
        rintro r w8 ⟨⟨i, hi0, hi1, rfl⟩, hc, hgr⟩
        have S8 := Lib.hid (S7.out.grown hgr hc)
        obtain ⟨k, rfl⟩ := Int.eq_ofNat_of_zero_le hi0
        have hk : k < m := by omega
        clear hc hgr S7 hi0 hi1
        go_wp2_with fail
        refine (CP.out _ _ _ w8 S8.out.cur (by omega) (by omega) (by omega)).mono ?_
        rintro r w9 ⟨⟨q, hq0, hq1, rfl⟩, hc, hgr⟩
        have S9 := Lib.hid (S8.out.grown hgr hc)
        have h9 := S9.out.t.1
        have hR9 := S9.out.rowAt hm0
        have HR9 := Lib.hid hR9
        obtain ⟨a0, a1, a2⟩ := hR9.2.1 k hk
        have f0 := hR9.2.2 (k * 3)
        have f1 := hR9.2.2 (k * 3 + 1)
        clear hc hgr S8 hR9
        rcases (by omega : q = 0 ∨ q = 1 ∨ q = 2 ∨ q = 3) with rfl | rfl | rfl | rfl
        · have cD := (S9.out.box X3.out (by omega)).cell
          have R := Lib.hid (S9.out.box R3.out (by omega))
          have cR := R.out.cell
          have fR := R.out.frozen
          go_wp2
          have hbx := (R.out.other (g := g) (o := k * 3 + 1) (x := .int .i64 (wrap64 ((f k).2.1 + 1))) (by omega)).set (.slice va us.length vc)
          refine bodyPost_ret (results_dt3 rfl _ _ w.heap.size _ rfl hbx) rfl ?_
          exact (S9.out.store hcap hm0 hg (HR9.out.set1 k hk _)).fin hlen V3.out (by omega) hl1 HX.out HI3.out (fun b hb => by have := HL.out b hb; omega) hxl _
        · go_wp2_with fail
          refine (of_any (w.heap.size + 1) _ w9.heap.size 2 2 [⟨#[]⟩, ⟨#[99, 97, 116]⟩] _ (S9.out.cur.below (below_al _ _)) (by omega) (by omega) (by simp) rfl (by omega) (by omega) (alloc_strs _ _ _ _ rfl)).mono ?_
          rintro r w10 ⟨⟨z, _, rfl⟩, hc, hgr⟩
          have S10 := Lib.hid ((S9.out.below (below_al _ _)).grown hgr hc)
          have hR10 := S10.out.rowAt hm0
          have HR10 := Lib.hid hR10
          obtain ⟨_, _, b2⟩ := hR10.2.1 k hk
          have g2 := hR10.2.2 (k * 3 + 2)
          clear a0 a1 a2 f0 f1 hc hgr hR10
          have cD := (S10.out.box X3.out (by omega)).cell
          have R := Lib.hid (S10.out.box R3.out (by omega))
          have cR := R.out.cell
          have fR := R.out.frozen
          go_wp2
          refine bodyPost_ret (results_dt3 rfl _ _ w.heap.size _ rfl ((R.out.other (g := g) (by omega)).set _)) rfl ?_
          exact (S10.out.store hcap hm0 hg (HR10.out.set2 k hk z)).fin hlen V3.out (by omega) hl1 HX.out HI3.out (fun b hb => by have := HL.out b hb; omega) hxl _
        · have T9 := Lib.hid (S9.out.take hcap hg HR9.out (Nat.le_of_lt hk))
          clear a0 a1 a2 f0 f1
          have hkc : k ≤ cap := by omega
          have cD := (S9.out.box X3.out (by omega)).cell
          have R := Lib.hid (S9.out.box R3.out (by omega))
          have cR := R.out.cell
          have fR := R.out.frozen
          go_wp2
          refine bodyPost_ret (results_dt3 rfl _ _ w.heap.size _ rfl (R.out.set _)) rfl ?_
          exact T9.out.fin (by omega) V3.out (by omega) hl1 HX.out HI3.out (fun b hb => by have := HL.out b hb; omega) hxl _
        · have cD := (S9.out.box X3.out (by omega)).cell
          have R := Lib.hid (S9.out.box R3.out (by omega))
          have cR := R.out.cell
          have fR := R.out.frozen
          have cD9 := ((S9.out.box X3.out (by omega)).other (g := g) (o := k * 3) (x := .int .i64 (wrap64 ((f k).1 - 1))) (by have := X3.out.lt; omega)).cell
          have cR9 := (R.out.other (g := g) (o := k * 3) (x := .int .i64 (wrap64 ((f k).1 - 1))) (by omega)).cell
          have fR9 := (R.out.other (g := g) (o := k * 3) (x := .int .i64 (wrap64 ((f k).1 - 1))) (by omega)).frozen
          go_wp2
          have hbx := (R.out.other (g := g) (o := k * 3) (x := .int .i64 (wrap64 ((f k).1 - 1))) (by omega)).set (.slice va us.length vc)
          refine bodyPost_ret (results_dt3 rfl _ _ w.heap.size _ rfl hbx) rfl ?_
          exact (S9.out.store hcap hm0 hg (HR9.out.set0 k hk _)).fin hlen V3.out (by omega) hl1 HX.out HI3.out (fun b hb => by have := HL.out b hb; omega) hxl _
    -->
  | false =>
    have hlen : (sgL (us.map (·.2)) xs).length ≤ 61 := by have := sgL_lenD (us.map (·.2)) xs; omega
    obtain ⟨f, hf⟩ : ∃ f : Nat → Pc, f = fun j => (sgL (us.map (·.2)) xs).getD j pc0 := ⟨_, rfl⟩
    obtain ⟨m, hm⟩ : ∃ m, m = (sgL (us.map (·.2)) xs).length := ⟨_, rfl⟩
    rw [← hf, ← hm] at S5
    rw [← hm] at hlen
    clear hf hm cX
    --<
    rcases Nat.eq_zero_or_pos m with rfl | hm0
    · obtain ⟨a', cap', rfl⟩ : ∃ a' cap', y = .slice a' 0 cap' := by
        rcases S5.out.own with ⟨_, a', cap', e⟩ | ⟨_, _, _, _, _, h0, _⟩
        · exact ⟨a', cap', e⟩
        · omega
      have cD := (S5.out.box X3.out (by omega)).cell
      have R := Lib.hid (S5.out.box R3.out (by omega))
      have cR := R.out.cell
      have fR := R.out.frozen
      go_wp2
      refine bodyPost_ret (results_dt3 rfl _ _ w.heap.size _ rfl (R.out.set _)) rfl ?_
      exact S5.out.fin hlen V3.out (by omega) hl1 HX.out HI3.out (fun b hb => by have := HL.out b hb; omega) hxl _
    · obtain ⟨g, cap, rfl, hcap, hg, _⟩ := S5.out.row hm0
      go_wp2_with fail
      refine (CO.out _ _ _ w5 S5.out.cur (by omega) (by omega) (by omega)).mono ?_
      rintro r w7 ⟨⟨b2, rfl⟩, hc, hgr⟩
      have S7 := Lib.hid (S5.out.grown hgr hc)
      clear hc hgr S5
      cases b2 with
      | false =>
        have cD := (S7.out.box X3.out (by omega)).cell
        have R := Lib.hid (S7.out.box R3.out (by omega))
        have cR := R.out.cell
        have fR := R.out.frozen
        go_wp2
        refine bodyPost_ret (results_dt3 rfl _ _ w.heap.size _ rfl (R.out.set _)) rfl ?_
        exact S7.out.fin hlen V3.out (by omega) hl1 HX.out HI3.out (fun b hb => by have := HL.out b hb; omega) hxl _
      | true =>
        go_wp2_with fail
        refine (CP.out _ _ _ w7 S7.out.cur (by omega) (by omega) (by omega)).mono ?_
        rintro r w8 ⟨⟨i, hi0, hi1, rfl⟩, hc, hgr⟩
        have S8 := Lib.hid (S7.out.grown hgr hc)
        obtain ⟨k, rfl⟩ := Int.eq_ofNat_of_zero_le hi0
        have hk : k < m := by omega
        clear hc hgr S7 hi0 hi1
        go_wp2_with fail
        refine (CP.out _ _ _ w8 S8.out.cur (by omega) (by omega) (by omega)).mono ?_
        rintro r w9 ⟨⟨q, hq0, hq1, rfl⟩, hc, hgr⟩
        have S9 := Lib.hid (S8.out.grown hgr hc)
        have h9 := S9.out.t.1
        have hR9 := S9.out.rowAt hm0
        have HR9 := Lib.hid hR9
        obtain ⟨a0, a1, a2⟩ := hR9.2.1 k hk
        have f0 := hR9.2.2 (k * 3)
        have f1 := hR9.2.2 (k * 3 + 1)
        clear hc hgr S8 hR9
        rcases (by omega : q = 0 ∨ q = 1 ∨ q = 2 ∨ q = 3) with rfl | rfl | rfl | rfl
        · have cD := (S9.out.box X3.out (by omega)).cell
          have R := Lib.hid (S9.out.box R3.out (by omega))
          have cR := R.out.cell
          have fR := R.out.frozen
          go_wp2
          have hbx := (R.out.other (g := g) (o := k * 3 + 1) (x := .int .i64 (wrap64 ((f k).2.1 + 1))) (by omega)).set (.slice va us.length vc)
          refine bodyPost_ret (results_dt3 rfl _ _ w.heap.size _ rfl hbx) rfl ?_
          exact (S9.out.store hcap hm0 hg (HR9.out.set1 k hk _)).fin hlen V3.out (by omega) hl1 HX.out HI3.out (fun b hb => by have := HL.out b hb; omega) hxl _
        · go_wp2_with fail
          refine (of_any (w.heap.size + 1) _ w9.heap.size 2 2 [⟨#[]⟩, ⟨#[99, 97, 116]⟩] _ (S9.out.cur.below (below_al _ _)) (by omega) (by omega) (by simp) rfl (by omega) (by omega) (alloc_strs _ _ _ _ rfl)).mono ?_
          rintro r w10 ⟨⟨z, _, rfl⟩, hc, hgr⟩
          have S10 := Lib.hid ((S9.out.below (below_al _ _)).grown hgr hc)
          have hR10 := S10.out.rowAt hm0
          have HR10 := Lib.hid hR10
          obtain ⟨_, _, b2⟩ := hR10.2.1 k hk
          have g2 := hR10.2.2 (k * 3 + 2)
          clear a0 a1 a2 f0 f1 hc hgr hR10
          have cD := (S10.out.box X3.out (by omega)).cell
          have R := Lib.hid (S10.out.box R3.out (by omega))
          have cR := R.out.cell
          have fR := R.out.frozen
          go_wp2
          refine bodyPost_ret (results_dt3 rfl _ _ w.heap.size _ rfl ((R.out.other (g := g) (by omega)).set _)) rfl ?_
          exact (S10.out.store hcap hm0 hg (HR10.out.set2 k hk z)).fin hlen V3.out (by omega) hl1 HX.out HI3.out (fun b hb => by have := HL.out b hb; omega) hxl _
        · have T9 := Lib.hid (S9.out.take hcap hg HR9.out (Nat.le_of_lt hk))
          clear a0 a1 a2 f0 f1
          have hkc : k ≤ cap := by omega
          have cD := (S9.out.box X3.out (by omega)).cell
          have R := Lib.hid (S9.out.box R3.out (by omega))
          have cR := R.out.cell
          have fR := R.out.frozen
          go_wp2
          refine bodyPost_ret (results_dt3 rfl _ _ w.heap.size _ rfl (R.out.set _)) rfl ?_
          exact T9.out.fin (by omega) V3.out (by omega) hl1 HX.out HI3.out (fun b hb => by have := HL.out b hb; omega) hxl _
        · have cD := (S9.out.box X3.out (by omega)).cell
          have R := Lib.hid (S9.out.box R3.out (by omega))
          have cR := R.out.cell
          have fR := R.out.frozen
          have cD9 := ((S9.out.box X3.out (by omega)).other (g := g) (o := k * 3) (x := .int .i64 (wrap64 ((f k).1 - 1))) (by have := X3.out.lt; omega)).cell
          have cR9 := (R.out.other (g := g) (o := k * 3) (x := .int .i64 (wrap64 ((f k).1 - 1))) (by omega)).cell
          have fR9 := (R.out.other (g := g) (o := k * 3) (x := .int .i64 (wrap64 ((f k).1 - 1))) (by omega)).frozen
          go_wp2
          have hbx := (R.out.other (g := g) (o := k * 3) (x := .int .i64 (wrap64 ((f k).1 - 1))) (by omega)).set (.slice va us.length vc)
          refine bodyPost_ret (results_dt3 rfl _ _ w.heap.size _ rfl hbx) rfl ?_
          exact (S9.out.store hcap hm0 hg (HR9.out.set0 k hk _)).fin hlen V3.out (by omega) hl1 HX.out HI3.out (fun b hb => by have := HL.out b hb; omega) hxl _
    -->
end Go.Proofs.YtnpiphkglhcifaaGreat
