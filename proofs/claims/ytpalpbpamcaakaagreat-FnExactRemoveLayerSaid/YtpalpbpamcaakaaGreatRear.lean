/-
  CHANGES OF A STACK by the program: hasLayer, rearrange, the closures.
-/
import Derived.Test.YtpalpbpamcaakaaGreatStk
import Derived.Test.YtpalpbpamcaakaaGreatClone
import Derived.Test.YtpalpbpamcaakaaGreatPD
namespace Go.Proofs.YtpalpbpamcaakaaGreat
set_option maxRecDepth 100000
open Go.RowKit

/-- A stack and a flag handed back. -/
theorem results_st2 {fn : Func} {p u : Tmp} (h : fn.results = #[.cell p 26, .tmp u]) (tmps : Array Value) (w : World) (g : Nat) (v : Value)
    (hp : tmps.getD p undef = .pointer (some ⟨g, 0, none⟩)) (hg : BoxV w g 26 v) :
    (results fn tmps).run Tryz.prog w = .ok (.tuple #[dV v, tmps.getD u undef]) w := by
  have hr := run_loadVar_row (P := Tryz.prog) w g _ 26 _ _ _ hg Tryz.underlying26 rfl (by kernel_rfl)
  rw [results_cell_tmp h, hp]
  simp [asAddr, hr, Result.andThen, dV]
/-- Whether there is a layer i. -/
def inK (n : Nat) (i : Int) : Bool := decide (0 ≤ i) && decide (i < n)
theorem inK_no {n : Nat} {xs : List Int} {k : Nat} {x : Int} (h : xs[k]? = some x) (hd : inK n x = false) : (xs.all fun i => inK n i) = false := by
  rw [List.all_eq_false]
  exact ⟨x, List.mem_of_getElem? h, by simp [hd]⟩
theorem inK_next {n : Nat} {xs : List Int} {k : Nat} {x : Int} (h : xs[k]? = some x) (ha : ((xs.take k).all fun i => inK n i) = true) (hl : inK n x = true) : ((xs.take (k + 1)).all fun i => inK n i) = true := by
  rw [List.take_add_one, h, Option.toList_some, List.all_append, ha]
  simp [hl]
theorem hasLayer_any (v : Value) (ls : List Lay) (i : Int) (w : World) (h : LaysAt w v ls) (_hn : ls.length ≤ 2097152) :
    Calls Tryz.prog 117 #[dV v, .int .i64 i] w fun r w' => r = .returned (.bool (inK ls.length i)) ∧ Below w.heap.size w w' := by
  obtain ⟨a, cap, rfl, hcap, _⟩ := h.cells
  obtain ⟨n, hnn⟩ : ∃ n, n = ls.length := ⟨_, rfl⟩
  rw [← hnn] at hcap ⊢
  clear h hnn
  unfold dV inK
  by_cases h0 : 0 ≤ i
  · go_enter Tryz.func117, Tryz.ntmps117
    go_wp2
    go_ret
    exact ⟨by simp [h0], below_al _ _⟩
  · go_enter Tryz.func117, Tryz.ntmps117
    go_wp2
    go_ret
    exact ⟨by simp; omega, below_al _ _⟩
/-- What the callee makes of the layers. -/
def Makes (w : World) (N : Nat) (fn : FuncId) (lb : List Value) (ls ls2 : List Lay) : Prop :=
  ∀ (W : World) (v : Value) (lo : Nat), Below w.heap.size w W → N ≤ lo → N ≤ W.heap.size → OwnLs W lo W.heap.size v ls →
    Calls Tryz.prog fn (v :: lb).toArray W fun r W' => (∃ v2, r = .returned v2 ∧ OwnLs W' N W'.heap.size v2 ls2) ∧ Below N W W'
set_option maxHeartbeats 4000000 in
theorem rear2_any (fn : FuncId) (hcall : ∀ args w, (callFunc fn args).run Tryz.prog w = .ok (.enter fn args) w) (p q : Value) (v : Value) (ls ls2 : List Lay) (u : Value) (xs : List Int) (w : World) (h : LaysAt w v ls) (hu : IntsAt w u xs) (hn : ls.length ≤ 2097152) (hx : ∀ l ∈ ls, layOk l) (hxl : xs.length ≤ 1000)
    (hM : okK ls = true → (xs.all fun i => inK ls.length i) = true → Makes w (w.heap.size + 2) fn [p, q] ls ls2) :
    Calls Tryz.prog 75 #[dV v, .func (.func fn) #[] #[p, q], u] w fun r w' => (∃ v2, r = .returned (.tuple #[dV v2, .bool (okK ls && xs.all fun i => inK ls.length i)]) ∧ ((okK ls && xs.all fun i => inK ls.length i) = true → OwnLs w' w.heap.size w'.heap.size v2 ls2) ∧ ((okK ls && xs.all fun i => inK ls.length i) = false → v2 = .slice none 0 0)) ∧ Below w.heap.size w w' := by
  have HV := Lib.hid (fun w' hb => ValidK_any v ls w' (h.below (w' := w') hb) hn hx)
  have HL := Lib.hid (fun i w' hb => hasLayer_any v ls i w' (h.below (w' := w') hb) hn)
  have HCl := Lib.hid (fun (hk : okK ls = true) w' hb => cloneL_any v ls w' (h.below (w' := w') hb) (by have := (okK_parts hk).1; omega) (fun l hl => by
    have h2 := (okK_parts hk).2 l hl
    exact ⟨by have := (okD_parts h2).1; omega, fun e he => by have := okE_size ((okD_parts h2).2.1 e he); exact ⟨by omega, by omega⟩⟩))
  obtain ⟨a, cap, rfl, hcap, _⟩ := h.cells
  obtain ⟨ua, ucap, rfl, hucap, hUC⟩ := hu.cells
  obtain ⟨n, hnn⟩ : ∃ n, n = ls.length := ⟨_, rfl⟩
  obtain ⟨m, hmm⟩ : ∃ m, m = xs.length := ⟨_, rfl⟩
  rw [← hnn] at hn hcap HV HL HCl hM ⊢
  rw [← hmm] at hxl hucap ⊢
  have HMm := Lib.hid hmm
  have HUC := Lib.hid hUC
  have HMk := Lib.hid hM
  have q0 := BoxV.new w 26 (.slice a n cap)
  have HXs := Lib.hid (fun k x (hd : inK n x = false) (hk : xs[k]? = some x) => inK_no hk hd)
  obtain ⟨bk, hbk⟩ : ∃ b, b = okK ls := ⟨_, rfl⟩
  obtain ⟨bx, hbx⟩ : ∃ b, b = xs.all fun i => inK n i := ⟨_, rfl⟩
  rw [← hbk] at HV HCl HMk ⊢
  rw [← hbx] at HMk HXs ⊢
  have HBx := Lib.hid hbx
  unfold dV at HV HL ⊢
  clear h hu hx hnn hmm hUC hM hbk hbx
  have q1 := (BoxV.new (w.alloc (.cells #[.slice a n cap] 26)) 26 (.slice none 0 0))
  rw [World.size_alloc] at q1
  have q0' := q0.below (below_al _ (.cells #[.slice none 0 0] 26)) (by simp)
  have Q0 := Lib.hid q0'
  have Q1 := Lib.hid q1
  clear q0 q1 q0'
  cases bk
  · clear HCl HL HUC HXs HMk HBx
    go_enter Tryz.func75, Tryz.ntmps75
    go_wp2_with fail
    refine (HV.out _ (below_al2 _ _ _)).mono ?_
    rintro r w1 ⟨rfl, hb1⟩
    have R1 : Hid (BoxV w1 (w.heap.size + 1) 26 (.slice none 0 0)) := Q1.out.below hb1 Q1.out.lt
    have HB1 := Lib.hid ((below_al2 w _ _).trans (hb1.mono (by simp; omega)))
    have c1 := R1.out.cell
    have f1 := R1.out.frozen
    clear hb1
    go_wp2
    refine bodyPost_ret (results_st2 rfl _ _ (w.heap.size + 1) _ rfl (R1.out.set _)) rfl ?_
    exact ⟨⟨_, rfl, (fun h => by cases h), fun _ => rfl⟩, HB1.out.setCell (by show w.heap.size ≤ w.heap.size + 1; omega) _⟩
  · go_enter Tryz.func75, Tryz.ntmps75
    go_wp2_with fail
    refine (HV.out _ (below_al2 _ _ _)).mono ?_
    rintro r w1 ⟨rfl, hb1⟩
    have R1 : Hid (BoxV w1 (w.heap.size + 1) 26 (.slice none 0 0)) := Q1.out.below hb1 Q1.out.lt
    have R0 : Hid (BoxV w1 w.heap.size 26 (.slice a n cap)) := Q0.out.below hb1 Q0.out.lt
    have HB1 := Lib.hid ((below_al2 w _ _).trans (hb1.mono (by simp; omega)))
    clear hb1 Q0 Q1
    go_wp2_with fail
    go_loopw [16] (fun i wr => ∃ k : Nat, i = .int .i64 k ∧ k ≤ m ∧ Hid (((xs.take k).all fun i => inK n i) = true) ∧ Hid (BoxV wr w.heap.size 26 (.slice a n cap)) ∧ Hid (BoxV wr (w.heap.size + 1) 26 (.slice none 0 0)) ∧ Hid (Below w.heap.size w wr)) (fun i _ => m - (intOf i).toNat)
    case atStart => exact ⟨0, rfl, Nat.zero_le _, Lib.hid rfl, R0, R1, HB1⟩
    case round =>
      obtain ⟨k, rfl, hk, HA, HR0, HR1, HB⟩ := hrel
      have c0 := HR0.out.cell
      have c1 := HR1.out.cell
      have f1 := HR1.out.frozen
      by_cases hlt : k < m
      · obtain ⟨x, hx⟩ : ∃ x, xs[k]? = some x := ⟨_, List.getElem?_eq_getElem (by rw [← HMm.out]; exact hlt)⟩
        obtain ⟨kb, ko, rfl, hkb, g0⟩ := HUC.out wr HB.out k x hx
        have HN0 := Lib.hid (fun hd => HXs.out k x hd hx)
        have HA1 : Hid (inK n x = true → ((xs.take (k + 1)).all fun i => inK n i) = true) := fun h => inK_next hx HA.out h
        have cl := HL.out x wr HB.out
        obtain ⟨b, hb⟩ : ∃ b, b = inK n x := ⟨_, rfl⟩
        rw [← hb] at HN0 HA1 cl
        have CL := Lib.hid cl
        clear hx HUC HXs HL HA cl hb
        cases b
        · have HF := Lib.hid (HN0.out rfl)
          go_wp2_with fail
          refine CL.out.mono ?_
          rintro r w2 ⟨rfl, hb2⟩
          have S1 : Hid (BoxV w2 (w.heap.size + 1) 26 (.slice none 0 0)) := HR1.out.below hb2 HR1.out.lt
          have HB2 := Lib.hid (HB.out.trans (hb2.mono HB.out.size))
          have d1 := S1.out.cell
          have e1 := S1.out.frozen
          clear hb2 c1 f1 c0
          go_wp2
          (try simp only [Exit.inBlock, Exit.then])
          refine bodyPost_ret (results_st2 rfl _ _ (w.heap.size + 1) _ rfl (S1.out.set _)) rfl ?_
          have hbx : bx = false := HF.out
          rw [hbx]
          exact ⟨⟨_, rfl, (fun h => by cases h), fun _ => rfl⟩, HB2.out.setCell (by show w.heap.size ≤ w.heap.size + 1; omega) _⟩
        · have HA2 := Lib.hid (HA1.out rfl)
          go_wp2_with fail
          refine CL.out.mono ?_
          rintro r w2 ⟨rfl, hb2⟩
          have S1 : Hid (BoxV w2 (w.heap.size + 1) 26 (.slice none 0 0)) := HR1.out.below hb2 HR1.out.lt
          have S0 : Hid (BoxV w2 w.heap.size 26 (.slice a n cap)) := HR0.out.below hb2 HR0.out.lt
          have HB2 := Lib.hid (HB.out.trans (hb2.mono HB.out.size))
          clear hb2 c1 f1 c0
          go_wp2
          go_roundw
          case rel => exact ⟨k + 1, by go_num, by omega, HA2, S0, S1, HB2⟩
          case measure => simp [intOf]; omega
      · obtain rfl : k = m := by omega
        have hbx : bx = true := by
          have h2 := HA.out
          rw [List.take_of_length_le (by rw [← HMm.out]; exact Nat.le_refl _)] at h2
          rw [HBx.out]; exact h2
        subst hbx
        have HMK := Lib.hid (HMk.out (by first | rfl | trivial) (by first | rfl | trivial))
        clear HA HMk
        go_wp2_with fail
        refine (HCl.out (by first | rfl | trivial) wr HB.out).mono ?_
        rintro r w2 ⟨⟨v1, rfl, hv1⟩, hb2⟩
        have S1 : Hid (BoxV w2 (w.heap.size + 1) 26 (.slice none 0 0)) := HR1.out.below hb2 HR1.out.lt
        have HB2 := Lib.hid (HB.out.trans (hb2.mono HB.out.size))
        have HMC := Lib.hid (HMK.out w2 v1 wr.heap.size HB2.out (by have := HR1.out.lt; omega) (by have := S1.out.lt; omega) hv1)
        clear hb2 c1 f1 c0 hv1
        go_wp2_with fail
        refine (show Calls _ fn #[v1, p, q] w2 _ from HMC.out).mono ?_
        rintro r w3 ⟨⟨v2, rfl, hv2⟩, hb3⟩
        have T1 : Hid (BoxV w3 (w.heap.size + 1) 26 (.slice none 0 0)) := S1.out.below hb3 (by omega)
        have HB3 := Lib.hid (HB2.out.trans (hb3.mono (by omega)))
        have HV2 := Lib.hid hv2
        have c3 := T1.out.cell
        have f3 := T1.out.frozen
        obtain ⟨va, vc, hvs, _, _⟩ := hv2.at.cells
        obtain ⟨z, hz⟩ : ∃ z, z = ls2.length := ⟨_, rfl⟩
        rw [← hz] at hvs
        subst hvs
        clear hb3 hv2 hz
        go_wp2
        (try simp only [Exit.inBlock, Exit.then])
        refine bodyPost_ret (results_st2 rfl _ _ (w.heap.size + 1) _ rfl (T1.out.set _)) rfl ?_
        refine ⟨⟨_, rfl, fun _ => ?_, (fun h => by cases h)⟩, HB3.out.setCell (by show w.heap.size ≤ w.heap.size + 1; omega) _⟩
        rw [World.size_setCell]
        exact OwnLs.mono (HV2.out.touch (T := fun b => b < w.heap.size + 2) ((Touch.refl _ _).setCell (by show _ < _; omega) _ _) (fun b h1 _ h2 => by omega)) (by omega)
theorem LaysG.flag {w : World} {base S g : Nat} {U : Nat → Value} {L R : Nat → Nat} {ls : List Lay} (h : LaysG w base S g U L R ls) {k : Nat} {l : Lay} (hk : ls[k]? = some l) (b : Bool) :
    LaysG (w.setCell ⟨g, k * 2 + 1, none⟩ (.bool b)) base S g U L R (ls.set k (l.1, b)) := by
  have hc := (h.cell k l hk).2
  have hklt := (List.getElem?_eq_some_iff.1 hk).1
  obtain ⟨e0, k1, k2, k3, k4⟩ := h.each k l hk
  have ht : Touch (fun b => b = g) w (w.setCell ⟨g, k * 2 + 1, none⟩ (.bool b)) := (Touch.refl (fun b => b = g) _).setCell rfl _ _
  have hget : ∀ (j : Nat) (z : Lay), (ls.set k (l.1, b))[j]? = some z → (j = k ∧ z = (l.1, b)) ∨ (j ≠ k ∧ ls[j]? = some z) := by
    intro j z hj
    by_cases e : k = j
    · subst e
      rw [List.getElem?_set_self hklt] at hj
      exact .inl ⟨rfl, (Option.some.inj hj).symm⟩
    · rw [List.getElem?_set_ne e] at hj
      exact .inr ⟨fun q => e q.symm, hj⟩
  refine ⟨h.low, h.high, by rw [World.size_setCell]; exact h.size, fun j => by rw [World.frozen?_setCell]; exact h.thaw j, fun j z hj => ?_, fun j z hj => ?_, fun i j hij hj => ?_⟩
  · rcases hget j z hj with ⟨rfl, rfl⟩ | ⟨hne, hj⟩
    · exact ⟨by rw [World.cell?_setCell_other _ _ _ _ (by intro e; injection e; omega)]; exact (h.cell _ l hk).1, World.cell?_setCell_same _ _ _ hc⟩
    · obtain ⟨c0, c1⟩ := h.cell j z hj
      exact ⟨by rw [World.cell?_setCell_other _ _ _ _ (by intro e; injection e; omega)]; exact c0, by rw [World.cell?_setCell_other _ _ _ _ (by intro e; injection e; omega)]; exact c1⟩
  · rcases hget j z hj with ⟨rfl, rfl⟩ | ⟨hne, hj⟩
    · exact ⟨e0.touch ht fun b h1 h2 h3 => by omega, k1, k2, k3, k4⟩
    · obtain ⟨d0, d1, d2, d3, d4⟩ := h.each j z hj
      exact ⟨d0.touch ht fun b h1 h2 h3 => by omega, d1, d2, d3, d4⟩
  · rw [List.length_set] at hj
    exact h.apart i j hij hj
/-- The closure of SetEnabled. -/
theorem setE1_makes (w : World) (N : Nat) (bE bI k : Nat) (b : Bool) (ls : List Lay) (l : Lay) (hk : ls[k]? = some l) (hn : ls.length ≤ 1000) (hE : BoxV w bE 4 (.bool b)) (hI : BoxV w bI 3 (.int .i64 k)) :
    Makes w N 85 [.pointer (some ⟨bE, 0, none⟩), .pointer (some ⟨bI, 0, none⟩)] ls (ls.set k (l.1, b)) := by
  intro W v lo hB hlo hNW hO
  have e1 := (hE.below hB hE.lt).cell
  have i1 := (hI.below hB hI.lt).cell
  have hklt := (List.getElem?_eq_some_iff.1 hk).1
  rcases hO with ⟨rfl, _⟩ | ⟨g, cap, U, L, R, rfl, hcap, h0, hG⟩
  · simp at hk
  · have hc := (hG.cell k l hk).2
    have hz := hG.thaw (k * 2 + 1)
    have HG := Lib.hid (hG.flag hk b)
    have hlow := hG.low
    obtain ⟨n, hnn⟩ : ∃ n, n = ls.length := ⟨_, rfl⟩
    rw [← hnn] at hklt hcap h0 hn ⊢
    have HN := Lib.hid hnn
    clear hG hnn hk hB
    show Calls _ _ #[_, _, _] _ _
    go_enter Tryz.func85, Tryz.ntmps85
    go_wp2
    go_ret
    refine ⟨⟨_, rfl, .inr ⟨g, cap, U, L, R, by rw [List.length_set, ← HN.out]; rfl, by rw [List.length_set, ← HN.out]; exact hcap, by rw [List.length_set, ← HN.out]; exact h0, ?_⟩⟩, (Below.refl _ _).setCell (p := ⟨g, k * 2 + 1, none⟩) (by show N ≤ g; omega) _⟩
    rw [World.size_setCell]
    have := HG.out
    exact ⟨by omega, this.2, this.3, this.4, this.5, fun j l hj => by obtain ⟨d0, d1, d2⟩ := this.6 j l hj; exact ⟨d0, by omega, d2⟩, this.7⟩
/-- The layers with layer i switched. -/
def setF (ls : List Lay) (i : Int) (b : Bool) : List Lay := match ls[i.toNat]? with | some l => ls.set i.toNat (l.1, b) | none => ls
theorem setF_at {ls : List Lay} {k : Nat} {l : Lay} (h : ls[k]? = some l) (b : Bool) : setF ls (k : Int) b = ls.set k (l.1, b) := by unfold setF; rw [Int.toNat_natCast, h]
theorem inK_nat {n : Nat} {i : Int} (h : inK n i = true) : ∃ k : Nat, i = (k : Int) ∧ k < n := by
  unfold inK at h
  rw [Bool.and_eq_true, decide_eq_true_eq, decide_eq_true_eq] at h
  exact ⟨i.toNat, by omega, by omega⟩
theorem setF_len (ls : List Lay) (i : Int) (b : Bool) : (setF ls i b).length = ls.length := by
  unfold setF
  split
  · rw [List.length_set]
  · rfl
/-- An answer of a stack of its own and a flag. -/
def OutStk (base : Nat) (w' : World) (ls2 : List Lay) (c : Bool) (e : Ending) : Prop := ∃ v2, e = .returned (.tuple #[dV v2, .bool c]) ∧ (c = true → OwnLs w' base w'.heap.size v2 ls2) ∧ (c = false → v2 = .slice none 0 0)
set_option maxHeartbeats 2000000 in
theorem SetEnabled_any (v : Value) (ls : List Lay) (i : Int) (b : Bool) (w : World) (h : LaysAt w v ls) (hn : ls.length ≤ 2097152) (hx : ∀ l ∈ ls, layOk l) :
    Calls Tryz.prog 36 #[dV v, .int .i64 i, .bool b] w fun r w' => OutStk w.heap.size w' (setF ls i b) (okK ls && inK ls.length i) r ∧ Below w.heap.size w w' := by
  obtain ⟨w5, hw5⟩ : ∃ w5, w5 = ((((w.alloc (.cells #[v] 26)).alloc (.cells #[.int .i64 i] 3)).alloc (.cells #[.bool b] 4)).alloc (.cells #[.slice none 0 0] 26)).alloc (.cells #[.int .i64 i] 3) := ⟨_, rfl⟩
  have hs5 : w5.heap.size = w.heap.size + 5 := by rw [hw5]; simp
  have hb5 : Below w.heap.size w w5 := by
    rw [hw5]
    exact (((below_al3 w _ _ _).alloc (by simp <;> omega) _).alloc (by simp <;> omega) _)
  have hE : BoxV w5 (w.heap.size + 1 + 1) 4 (.bool b) := by
    rw [hw5]
    have := ((BoxV.new ((w.alloc (.cells #[v] 26)).alloc (.cells #[.int .i64 i] 3)) 4 (.bool b)).below (below_al _ (.cells #[.slice none 0 0] 26)) (by simp)).below (below_al _ (.cells #[.int .i64 i] 3)) (by simp <;> omega)
    simpa using this
  have hI : BoxV w5 (w.heap.size + 1) 3 (.int .i64 i) := by
    rw [hw5]
    have := (((BoxV.new (w.alloc (.cells #[v] 26)) 3 (.int .i64 i)).below (below_al _ (.cells #[.bool b] 4)) (by simp)).below (below_al _ (.cells #[.slice none 0 0] 26)) (by simp <;> omega)).below (below_al _ (.cells #[.int .i64 i] 3)) (by simp <;> omega)
    simpa using this
  have hR : BoxV w5 (w.heap.size + 1 + 1 + 1) 26 (.slice none 0 0) := by
    rw [hw5]
    have := (BoxV.new (((w.alloc (.cells #[v] 26)).alloc (.cells #[.int .i64 i] 3)).alloc (.cells #[.bool b] 4)) 26 (.slice none 0 0)).below (below_al _ (.cells #[.int .i64 i] 3)) (by simp)
    simpa using this
  have hu : IntsAt w5 (.slice (some ⟨w.heap.size + 1 + 1 + 1 + 1, 0, none⟩) 1 1) [i] := by
    have h4 : BoxV w5 (w.heap.size + 1 + 1 + 1 + 1) 3 (.int .i64 i) := by
      rw [hw5]
      have := BoxV.new ((((w.alloc (.cells #[v] 26)).alloc (.cells #[.int .i64 i] 3)).alloc (.cells #[.bool b] 4)).alloc (.cells #[.slice none 0 0] 26)) 3 (.int .i64 i)
      simpa using this
    refine IntsM.at (.inr ⟨_, 0, 1, rfl, by simp, h4.lt, fun j x hj => ?_⟩)
    match j, hj with
    | 0, hj => simp at hj; subst hj; simpa using h4.cell
    | j + 1, hj => simp at hj
  have hM : okK ls = true → ([i].all fun i => inK ls.length i) = true → Makes w5 (w5.heap.size + 2) 85 [.pointer (some ⟨w.heap.size + 1 + 1, 0, none⟩), .pointer (some ⟨w.heap.size + 1, 0, none⟩)] ls (setF ls i b) := by
    intro hk hi
    have hi2 : inK ls.length i = true := by simpa using hi
    obtain ⟨k, rfl, hkn⟩ := inK_nat hi2
    have hl : ls[k]? = some ls[k] := List.getElem?_eq_getElem hkn
    rw [setF_at hl]
    exact setE1_makes w5 _ _ _ k b ls _ hl (by have := (okK_parts hk).1; omega) hE hI
  have C := rear2_any 85 (fun args w => Tryz.call85 args w) (.pointer (some ⟨w.heap.size + 1 + 1, 0, none⟩)) (.pointer (some ⟨w.heap.size + 1, 0, none⟩)) v ls (setF ls i b) _ [i] w5 (h.below hb5) hu hn hx (by simp) hM
  rw [show ([i].all fun i => inK ls.length i) = inK ls.length i by simp] at C
  obtain ⟨c, hc⟩ : ∃ c, c = (okK ls && inK ls.length i) := ⟨_, rfl⟩
  rw [← hc] at C ⊢
  obtain ⟨a, cap, rfl, _, _⟩ := h.cells
  obtain ⟨n, hnn⟩ : ∃ n, n = ls.length := ⟨_, rfl⟩
  rw [← hnn] at C hw5
  unfold dV at C
  rw [hw5] at C
  rw [← hnn]
  have CC := Lib.hid C
  have HB5 : Hid (Below w.heap.size w (((((w.alloc (.cells #[.slice a n cap] 26)).alloc (.cells #[.int .i64 i] 3)).alloc (.cells #[.bool b] 4)).alloc (.cells #[.slice none 0 0] 26)).alloc (.cells #[.int .i64 i] 3))) := by rw [← hw5]; exact hb5
  have HR : Hid (BoxV (((((w.alloc (.cells #[.slice a n cap] 26)).alloc (.cells #[.int .i64 i] 3)).alloc (.cells #[.bool b] 4)).alloc (.cells #[.slice none 0 0] 26)).alloc (.cells #[.int .i64 i] 3)) (w.heap.size + 1 + 1 + 1) 26 (.slice none 0 0)) := by rw [← hw5]; exact hR
  clear C hM hu hR hI hE hb5 hs5 hw5 h hx hnn hc hn
  unfold dV
  go_enter Tryz.func36, Tryz.ntmps36
  go_wp2_with fail
  refine CC.out.mono ?_
  rintro r w6 ⟨⟨v2, rfl, h1, h2⟩, hb6⟩
  have T1 : Hid (BoxV w6 (w.heap.size + 1 + 1 + 1) 26 (.slice none 0 0)) := HR.out.below hb6 HR.out.lt
  have HB6 := Lib.hid (HB5.out.trans (hb6.mono (by simp <;> omega)))
  have h1' : c = true → OwnLs w6 (w.heap.size + 5) w6.heap.size v2 (setF ls i b) := fun h => by simpa using h1 h
  have H1 := Lib.hid h1'
  have H2 := Lib.hid h2
  have c6 := T1.out.cell
  have f6 := T1.out.frozen
  have hvs : ∃ x y z, v2 = .slice x y z := by
    cases c
    · exact ⟨_, _, _, h2 rfl⟩
    · obtain ⟨x, z, e, _⟩ := (h1 rfl).at.cells; exact ⟨_, _, _, e⟩
  obtain ⟨x, y, z, rfl⟩ := hvs
  clear hb6 h1 h2 h1' CC
  go_wp2
  refine bodyPost_ret (results_st2 rfl _ _ (w.heap.size + 1 + 1 + 1) _ rfl (T1.out.set _)) rfl ?_
  refine ⟨⟨_, rfl, fun hc => ?_, H2.out⟩, HB6.out.setCell (by show w.heap.size ≤ w.heap.size + 1 + 1 + 1; omega) _⟩
  rw [World.size_setCell]
  exact OwnLs.mono ((H1.out hc).touch (T := fun b => b < w.heap.size + 5) ((Touch.refl _ _).setCell (by show _ < _; omega) _ _) (fun b h1 _ h2 => by omega)) (by omega)
end Go.Proofs.YtpalpbpamcaakaaGreat
