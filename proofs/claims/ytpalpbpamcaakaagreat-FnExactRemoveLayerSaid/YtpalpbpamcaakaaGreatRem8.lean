/-
  RemoveLayer of the program.
-/
import Derived.Test.YtpalpbpamcaakaaGreatRear
import Derived.Test.YtpalpbpamcaakaaGreatClone
import Derived.Lib.SliceRun
import Derived.Deep.RegionLaw
namespace Go.Proofs.YtpalpbpamcaakaaGreat
set_option maxRecDepth 100000
open Go.RowKit

set_option maxHeartbeats 4000000 in
theorem rear1_any (fn : FuncId) (hcall : ∀ args w, (callFunc fn args).run Tryz.prog w = .ok (.enter fn args) w) (p : Value) (v : Value) (ls ls2 : List Lay) (u : Value) (xs : List Int) (w : World) (h : LaysAt w v ls) (hu : IntsAt w u xs) (hn : ls.length ≤ 2097152) (hx : ∀ l ∈ ls, layOk l) (hxl : xs.length ≤ 1000)
    (hM : okK ls = true → (xs.all fun i => inK ls.length i) = true → Makes w (w.heap.size + 2) fn [p] ls ls2) :
    Calls Tryz.prog 75 #[dV v, .func (.func fn) #[] #[p], u] w fun r w' => (∃ v2, r = .returned (.tuple #[dV v2, .bool (okK ls && xs.all fun i => inK ls.length i)]) ∧ ((okK ls && xs.all fun i => inK ls.length i) = true → OwnLs w' w.heap.size w'.heap.size v2 ls2) ∧ ((okK ls && xs.all fun i => inK ls.length i) = false → v2 = .slice none 0 0)) ∧ Below w.heap.size w w' := by
  have HV := Lib.hid (fun w' hb => ValidK_any v ls w' (h.below (w' := w') hb) hn hx)
  have HL := Lib.hid (fun i w' hb => hasLayer_any v ls i w' (h.below (w' := w') hb) hn)
  have HCl := Lib.hid (fun (hk : okK ls = true) w' hb => cloneL_any v ls w' (h.below (w' := w') hb) (by have := (okK_parts hk).1; omega) (fun l hl => by
    have h2 := (okK_parts hk).2 l hl
    exact ⟨by have := (okD_parts h2).1; omega, fun e he => by have := okE_size ((okD_parts h2).2.1 e he); exact ⟨by omega, by omega⟩⟩))
  obtain ⟨a, cap, rfl, hcap, _⟩ := h.cells
  obtain ⟨ua, ucap, rfl, hucap, hUC⟩ := hu.cells
  obtain ⟨n, hnn⟩ : ∃ n, n = ls.length := ⟨_, rfl⟩
  obtain ⟨m, hmm⟩ : ∃ m, m = xs.length := ⟨_, rfl⟩
  rw [← hnn] at hn hcap HV HL HCl hM ⊢
  rw [← hmm] at hxl hucap ⊢
  have HMm := Lib.hid hmm
  have HUC := Lib.hid hUC
  have HMk := Lib.hid hM
  have q0 := BoxV.new w 26 (.slice a n cap)
  have HXs := Lib.hid (fun k x (hd : inK n x = false) (hk : xs[k]? = some x) => inK_no hk hd)
  obtain ⟨bk, hbk⟩ : ∃ b, b = okK ls := ⟨_, rfl⟩
  obtain ⟨bx, hbx⟩ : ∃ b, b = xs.all fun i => inK n i := ⟨_, rfl⟩
  rw [← hbk] at HV HCl HMk ⊢
  rw [← hbx] at HMk HXs ⊢
  have HBx := Lib.hid hbx
  unfold dV at HV HL ⊢
  clear h hu hx hnn hmm hUC hM hbk hbx
  have q1 := (BoxV.new (w.alloc (.cells #[.slice a n cap] 26)) 26 (.slice none 0 0))
  rw [World.size_alloc] at q1
  have q0' := q0.below (below_al _ (.cells #[.slice none 0 0] 26)) (by simp)
  have Q0 := Lib.hid q0'
  have Q1 := Lib.hid q1
  clear q0 q1 q0'
  cases bk
  · clear HCl HL HUC HXs HMk HBx
    go_enter Tryz.func75, Tryz.ntmps75
    go_wp2_with fail
    refine (HV.out _ (below_al2 _ _ _)).mono ?_
    rintro r w1 ⟨rfl, hb1⟩
    have R1 : Hid (BoxV w1 (w.heap.size + 1) 26 (.slice none 0 0)) := Q1.out.below hb1 Q1.out.lt
    have HB1 := Lib.hid ((below_al2 w _ _).trans (hb1.mono (by simp; omega)))
    have c1 := R1.out.cell
    have f1 := R1.out.frozen
    clear hb1
    go_wp2
    refine bodyPost_ret (results_st2 rfl _ _ (w.heap.size + 1) _ rfl (R1.out.set _)) rfl ?_
    exact ⟨⟨_, rfl, (fun h => by cases h), fun _ => rfl⟩, HB1.out.setCell (by show w.heap.size ≤ w.heap.size + 1; omega) _⟩
  · go_enter Tryz.func75, Tryz.ntmps75
    go_wp2_with fail
    refine (HV.out _ (below_al2 _ _ _)).mono ?_
    rintro r w1 ⟨rfl, hb1⟩
    have R1 : Hid (BoxV w1 (w.heap.size + 1) 26 (.slice none 0 0)) := Q1.out.below hb1 Q1.out.lt
    have R0 : Hid (BoxV w1 w.heap.size 26 (.slice a n cap)) := Q0.out.below hb1 Q0.out.lt
    have HB1 := Lib.hid ((below_al2 w _ _).trans (hb1.mono (by simp; omega)))
    clear hb1 Q0 Q1
    go_wp2_with fail
    go_loopw [16] (fun i wr => ∃ k : Nat, i = .int .i64 k ∧ k ≤ m ∧ Hid (((xs.take k).all fun i => inK n i) = true) ∧ Hid (BoxV wr w.heap.size 26 (.slice a n cap)) ∧ Hid (BoxV wr (w.heap.size + 1) 26 (.slice none 0 0)) ∧ Hid (Below w.heap.size w wr)) (fun i _ => m - (intOf i).toNat)
    case atStart => exact ⟨0, rfl, Nat.zero_le _, Lib.hid rfl, R0, R1, HB1⟩
    case round =>
      obtain ⟨k, rfl, hk, HA, HR0, HR1, HB⟩ := hrel
      have c0 := HR0.out.cell
      have c1 := HR1.out.cell
      have f1 := HR1.out.frozen
      by_cases hlt : k < m
      · obtain ⟨x, hx⟩ : ∃ x, xs[k]? = some x := ⟨_, List.getElem?_eq_getElem (by rw [← HMm.out]; exact hlt)⟩
        obtain ⟨kb, ko, rfl, hkb, g0⟩ := HUC.out wr HB.out k x hx
        have HN0 := Lib.hid (fun hd => HXs.out k x hd hx)
        have HA1 : Hid (inK n x = true → ((xs.take (k + 1)).all fun i => inK n i) = true) := fun h => inK_next hx HA.out h
        have cl := HL.out x wr HB.out
        obtain ⟨b, hb⟩ : ∃ b, b = inK n x := ⟨_, rfl⟩
        rw [← hb] at HN0 HA1 cl
        have CL := Lib.hid cl
        clear hx HUC HXs HL HA cl hb
        cases b
        · have HF := Lib.hid (HN0.out rfl)
          go_wp2_with fail
          refine CL.out.mono ?_
          rintro r w2 ⟨rfl, hb2⟩
          have S1 : Hid (BoxV w2 (w.heap.size + 1) 26 (.slice none 0 0)) := HR1.out.below hb2 HR1.out.lt
          have HB2 := Lib.hid (HB.out.trans (hb2.mono HB.out.size))
          have d1 := S1.out.cell
          have e1 := S1.out.frozen
          clear hb2 c1 f1 c0
          go_wp2
          (try simp only [Exit.inBlock, Exit.then])
          refine bodyPost_ret (results_st2 rfl _ _ (w.heap.size + 1) _ rfl (S1.out.set _)) rfl ?_
          have hbx : bx = false := HF.out
          rw [hbx]
          exact ⟨⟨_, rfl, (fun h => by cases h), fun _ => rfl⟩, HB2.out.setCell (by show w.heap.size ≤ w.heap.size + 1; omega) _⟩
        · have HA2 := Lib.hid (HA1.out rfl)
          go_wp2_with fail
          refine CL.out.mono ?_
          rintro r w2 ⟨rfl, hb2⟩
          have S1 : Hid (BoxV w2 (w.heap.size + 1) 26 (.slice none 0 0)) := HR1.out.below hb2 HR1.out.lt
          have S0 : Hid (BoxV w2 w.heap.size 26 (.slice a n cap)) := HR0.out.below hb2 HR0.out.lt
          have HB2 := Lib.hid (HB.out.trans (hb2.mono HB.out.size))
          clear hb2 c1 f1 c0
          go_wp2
          go_roundw
          case rel => exact ⟨k + 1, by go_num, by omega, HA2, S0, S1, HB2⟩
          case measure => simp [intOf]; omega
      · obtain rfl : k = m := by omega
        have hbx : bx = true := by
          have h2 := HA.out
          rw [List.take_of_length_le (by rw [← HMm.out]; exact Nat.le_refl _)] at h2
          rw [HBx.out]; exact h2
        subst hbx
        have HMK := Lib.hid (HMk.out (by first | rfl | trivial) (by first | rfl | trivial))
        clear HA HMk
        go_wp2_with fail
        refine (HCl.out (by first | rfl | trivial) wr HB.out).mono ?_
        rintro r w2 ⟨⟨v1, rfl, hv1⟩, hb2⟩
        have S1 : Hid (BoxV w2 (w.heap.size + 1) 26 (.slice none 0 0)) := HR1.out.below hb2 HR1.out.lt
        have HB2 := Lib.hid (HB.out.trans (hb2.mono HB.out.size))
        have HMC := Lib.hid (HMK.out w2 v1 wr.heap.size HB2.out (by have := HR1.out.lt; omega) (by have := S1.out.lt; omega) hv1)
        clear hb2 c1 f1 c0 hv1
        go_wp2_with fail
        refine (show Calls _ fn #[v1, p] w2 _ from HMC.out).mono ?_
        rintro r w3 ⟨⟨v2, rfl, hv2⟩, hb3⟩
        have T1 : Hid (BoxV w3 (w.heap.size + 1) 26 (.slice none 0 0)) := S1.out.below hb3 (by omega)
        have HB3 := Lib.hid (HB2.out.trans (hb3.mono (by omega)))
        have HV2 := Lib.hid hv2
        have c3 := T1.out.cell
        have f3 := T1.out.frozen
        obtain ⟨va, vc, hvs, _, _⟩ := hv2.at.cells
        obtain ⟨z, hz⟩ : ∃ z, z = ls2.length := ⟨_, rfl⟩
        rw [← hz] at hvs
        subst hvs
        clear hb3 hv2 hz
        go_wp2
        (try simp only [Exit.inBlock, Exit.then])
        refine bodyPost_ret (results_st2 rfl _ _ (w.heap.size + 1) _ rfl (T1.out.set _)) rfl ?_
        refine ⟨⟨_, rfl, fun _ => ?_, (fun h => by cases h)⟩, HB3.out.setCell (by show w.heap.size ≤ w.heap.size + 1; omega) _⟩
        rw [World.size_setCell]
        exact OwnLs.mono (HV2.out.touch (T := fun b => b < w.heap.size + 2) ((Touch.refl _ _).setCell (by show _ < _; omega) _ _) (fun b h1 _ h2 => by omega)) (by omega)
end Go.Proofs.YtpalpbpamcaakaaGreat

namespace Go.Proofs.YtpalpbpamcaakaaGreat
set_option maxRecDepth 100000
open Go.RowKit

theorem run_clear_two {P : Program} (w : World) (t e ty : TypeId) (z x y : Value) (ht : P.underlying t = some (.slice e)) (hv : ∀ w, (zeroValue e).run P w = .ok z w) (hz : z.cells = #[x, y]) (h1 : x.oneCell' = true) (h2 : y.oneCell' = true) (b o c : Nat)
    (hc : ∀ j, j < 2 → (w.cell? ⟨b, o + j, none⟩).isSome = true) (hf : ∀ j, j < 2 → w.frozen? ⟨b, o + j, none⟩ = false) :
    (Builtin.clear_ #[t] ty #[.slice (some ⟨b, o, none⟩) 1 c]).run P w = .ok (.tuple #[]) (w.setCells b o [x, y]) := by
  have hzc : (Builtin.zeroCells z.cells 1).toList = [x, y] := by
    rw [hz]
    have h2 : Array.range (1 * (#[x, y] : Array Value).size) = #[0, 1] := by show Array.range 2 = #[0, 1]; decide
    unfold Builtin.zeroCells
    rw [h2]
    simp
  have hst := run_storeCells_cells (P := P) b o [x, y] 0 w (by simpa using hc) (by simpa using hf) (by intro v hv'; simp at hv'; rcases hv' with rfl | rfl <;> assumption)
  simp only [Nat.add_zero] at hst
  simp [Builtin.clear_, run_underlying ht, hv, hzc, hst]
/-- One taken out. -/
def dlF (F : Nat → Value) (i : Nat) : Nat → Value := fun j => if j < i then F j else F (j + 1)
theorem dl_get {ls : List Lay} {i j : Nat} {l : Lay} (h : (ls.eraseIdx i)[j]? = some l) : ls[if j < i then j else j + 1]? = some l := by
  rw [List.getElem?_eraseIdx] at h
  split at h
  · rename_i hlt; rw [if_pos hlt]; exact h
  · rename_i hlt; rw [if_neg hlt]; exact h
/-- A layer taken out of the row. -/
theorem LaysG.del {w w' : World} {base S g : Nat} {U : Nat → Value} {L R : Nat → Nat} {ls : List Lay} (h : LaysG w base S g U L R ls) {i : Nat} (hi : i < ls.length) {G : Nat → Value} (hG : ∀ j l, ls[j]? = some l → G j = .bool l.2)
    (hS : RowS w' g (dlF U i) (dlF G i) (ls.length - 1) 0) (ht : Touch (fun b => b = g) w w') :
    LaysG w' base S g (dlF U i) (fun j => L (if j < i then j else j + 1)) (fun j => R (if j < i then j else j + 1)) (ls.eraseIdx i) := by
  have hlen : (ls.eraseIdx i).length = ls.length - 1 := List.length_eraseIdx_of_lt hi
  refine ⟨h.low, h.high, Nat.le_trans h.size ht.1, hS.2.2, fun j l hj => ?_, fun j l hj => ?_, fun a b hab hb => ?_⟩
  · have hj2 := dl_get hj
    have hlt := (List.getElem?_eq_some_iff.1 hj).1
    obtain ⟨c0, c1⟩ := hS.2.1 j (Nat.zero_le _) (by omega)
    have e : dlF G i j = .bool l.2 := by
      have h3 := hG _ l hj2
      have e2 : dlF G i j = G (if j < i then j else j + 1) := by unfold dlF; split <;> rfl
      rw [e2]; exact h3
    exact ⟨c0, by rw [← e]; exact c1⟩
  · have hj2 := dl_get hj
    obtain ⟨e0, e1, e2, e3, e4⟩ := h.each _ l hj2
    have eU : dlF U i j = U (if j < i then j else j + 1) := by unfold dlF; split <;> rfl
    rw [eU]
    exact ⟨e0.touch ht fun b h1 h2 h3 => by omega, e1, e2, e3, e4⟩
  · rw [hlen] at hb
    exact h.apart _ _ (by split <;> split <;> omega) (by split <;> omega)
set_option maxHeartbeats 2000000 in
theorem delL_any (g m cap i : Nat) (F G : Nat → Value) (w : World) (hS : RowS w g F G (i + 1 + m) 0) (hcap : i + 1 + m ≤ cap) (hF : ∀ j, j < i + 1 + m → (F j).oneCell' = true) (hG : ∀ j, j < i + 1 + m → (G j).oneCell' = true) :
    Calls Tryz.prog 82 #[.slice (some ⟨g, 0, none⟩) (i + 1 + m) cap, .int .i64 i, .int .i64 ((i : Int) + 1)] w fun e w' => e = .returned (.slice (some ⟨g, 0, none⟩) (i + m) cap) ∧ RowS w' g (dlF F i) (dlF G i) (i + m) 0 ∧ Below g w w' ∧ Touch (fun b => b = g) w w' := by
  obtain ⟨i0, hi0, hz0, hz1, hz2⟩ := info_parts infoLy
  obtain ⟨C, hC⟩ : ∃ C : Nat → Value, C = fun q => if q % 2 = 0 then F (q / 2) else G (q / 2) := ⟨_, rfl⟩
  have hcell : ∀ q, q < (i + 1 + m) * 2 → w.cell? ⟨g, q, none⟩ = some (C q) := by
    intro q hq
    obtain ⟨h0, h1⟩ := hS.2.1 (q / 2) (Nat.zero_le _) (by omega)
    rw [hC]
    rcases Nat.mod_two_eq_zero_or_one q with e | e
    · have e2 : q / 2 * 2 = q := by omega
      rw [e2] at h0
      simp only [e, if_true]; exact h0
    · have e2 : q / 2 * 2 + 1 = q := by omega
      rw [e2] at h1
      simp [e]; exact h1
  have hone : ∀ q, q < (i + 1 + m) * 2 → (C q).oneCell' = true := by
    intro q hq
    rw [hC]
    show (if q % 2 = 0 then F (q / 2) else G (q / 2)).oneCell' = true
    split
    · exact hF _ (by omega)
    · exact hG _ (by omega)
  obtain ⟨news, hnews⟩ : ∃ news, news = (List.range (m * 2)).map fun t => C ((i + 1) * 2 + t) := ⟨_, rfl⟩
  have hlen : news.length = m * 2 := by rw [hnews]; simp
  have hget : ∀ t u, news[t]? = some u → t < m * 2 ∧ u = C ((i + 1) * 2 + t) := by
    intro t u hu
    have ht := (List.getElem?_eq_some_iff.1 hu).1
    rw [hlen] at ht
    rw [hnews, List.getElem?_map, List.getElem?_range ht] at hu
    exact ⟨ht, (Option.some.inj hu).symm⟩
  obtain ⟨A, hA, hsrc⟩ : ∃ A : Addr, (if cap = i + 1 then some (⟨g, 0, none⟩ : Addr) else some ⟨g, (i + 1) * 2, none⟩) = some A ∧ Hid (∀ t u, news[t]? = some u → w.drew.cell? (A.add t) = some u) := by
    by_cases h : cap = i + 1
    · refine ⟨⟨g, 0, none⟩, by simp [h], fun t u hu => ?_⟩
      have := (hget t u hu).1
      omega
    · refine ⟨⟨g, (i + 1) * 2, none⟩, by simp [h], fun t u hu => ?_⟩
      obtain ⟨h1, h2⟩ := hget t u hu
      rw [Go.WideShapes.add_plain, h2]
      exact hcell _ (by omega)
  have s1 : Hid (news.length = m * 2) := hlen
  have s2 : Hid (∀ u ∈ news, u.oneCell' = true) := by
    intro u hu
    obtain ⟨t, ht⟩ := List.getElem?_of_mem hu
    obtain ⟨h1, h2⟩ := hget t u ht
    rw [h2]; exact hone _ (by omega)
  have s3 : Hid (∀ t, t < news.length → (w.drew.cell? ⟨g, 0 + i * 2 + t, none⟩).isSome = true ∧ w.drew.frozen? ⟨g, 0 + i * 2 + t, none⟩ = false) := by
    intro t ht
    rw [hlen] at ht
    exact ⟨by show (w.cell? _).isSome = true; rw [hcell _ (by omega)]; rfl, hS.2.2 _⟩
  obtain ⟨W1, hW1⟩ : ∃ W1, W1 = w.drew.setCells g (0 + i * 2) news := ⟨_, rfl⟩
  have hin : ∀ q, (i + m) * 2 ≤ q → q < (i + 1 + m) * 2 → W1.cell? ⟨g, q, none⟩ = some (C q) := by
    intro q h1 h2
    rw [hW1, World.cell?_setCells_out g news _ _ ⟨g, q, none⟩ (fun _ _ => .inr (by rw [hlen]; show 0 + i * 2 + m * 2 ≤ q; omega))]
    exact hcell q h2
  have hcl : ∀ ty, (Builtin.clear_ #[24] ty #[.slice (some ⟨g, (i + m) * 2, none⟩) (i + 1 + m - (i + m)) (cap - (i + m))]).run Tryz.prog W1 = .ok (.tuple #[]) (W1.setCells g ((i + m) * 2) [.slice none 0 0, .bool false]) := by
    intro ty
    rw [show i + 1 + m - (i + m) = 1 by omega]
    exact run_clear_two W1 _ _ ty (.agg #[.slice none 0 0, .bool false]) _ _ Tryz.underlying24 (fun w => by simp [zeroValue, typeInfo, hi0, hz0]) rfl rfl rfl g _ _ (fun j hj => by rw [hin _ (by omega) (by omega)]; rfl) (fun j hj => by rw [hW1, World.frozen?_setCells]; exact hS.2.2 _)
  have hW : Hid (W1 = w.drew.setCells g (0 + i * 2) news) := hW1
  have hb1 : 0 ≤ (i : Int) + 1 := by omega
  have hb2 : (i : Int) + 1 ≤ (i : Int) + 1 + (m : Int) := by omega
  have hic : i ≤ cap := by omega
  have hjc : i + 1 ≤ cap := by omega
  have hfin : ∀ q, q < (i + m) * 2 → (W1.setCells g ((i + m) * 2) [.slice none 0 0, .bool false]).cell? ⟨g, q, none⟩ = some (if q < i * 2 then C q else C (q + 2)) := by
    intro q hq
    rw [World.cell?_setCells_out g _ _ _ ⟨g, q, none⟩ (fun _ _ => .inl hq), hW1]
    by_cases h : q < i * 2
    · rw [if_pos h, World.cell?_setCells_out g _ _ _ ⟨g, q, none⟩ (fun _ _ => .inl (by show q < 0 + i * 2; omega))]
      exact hcell q (by omega)
    · rw [if_neg h]
      have h2 := World.cell?_setCells_in g news (0 + i * 2) w.drew (fun t ht => (s3.out t ht).1) (q - i * 2) (by rw [hlen]; omega)
      rw [show 0 + i * 2 + (q - i * 2) = q by omega] at h2
      rw [h2]
      have h3 := (hget (q - i * 2) _ (List.getElem?_eq_getElem (by rw [hlen]; omega))).2
      rw [h3, show (i + 1) * 2 + (q - i * 2) = q + 2 by omega]
  have hbw : ∀ (vs : List Value) (o : Nat) (w0 : World), Below g w0 (w0.setCells g o vs) := by
    intro vs
    induction vs with
    | nil => intro o w0; exact Below.refl _ _
    | cons v r ih => intro o w0; exact ((Below.refl g w0).setCell (p := ⟨g, o, none⟩) (Nat.le_refl _) v).trans (ih (o + 1) _)
  have hbel : Below g w (W1.setCells g ((i + m) * 2) [.slice none 0 0, .bool false]) := by
    refine Below.trans ?_ (hbw _ _ _)
    rw [hW1]
    exact (below_drew1 (Below.refl g w)).trans (hbw _ _ _)
  have htc : ∀ (vs : List Value) (o : Nat) (w0 : World), Touch (fun b => b = g) w0 (w0.setCells g o vs) := by
    intro vs
    induction vs with
    | nil => intro o w0; exact Touch.refl _ _
    | cons v r ih => intro o w0; exact ((Touch.refl (fun b => b = g) w0).setCell (g := g) rfl o v).trans (ih (o + 1) _)
  have htw : Touch (fun b => b = g) w (W1.setCells g ((i + m) * 2) [.slice none 0 0, .bool false]) := by
    refine Touch.trans ?_ (htc _ _ _)
    rw [hW1]
    exact ((Touch.of_below (below_drew1 (Below.refl w.heap.size w))).mono (fun _ (q : False) => q.elim)).trans (htc _ _ _)
  have hszs : ∀ (vs : List Value) (o : Nat) (w0 : World), (w0.setCells g o vs).heap.size = w0.heap.size := by
    intro vs
    induction vs with
    | nil => intro o w0; rfl
    | cons v r ih => intro o w0; rw [World.setCells, ih, World.size_setCell]
  have HFin : Hid (RowS (W1.setCells g ((i + m) * 2) [.slice none 0 0, .bool false]) g (dlF F i) (dlF G i) (i + m) 0 ∧ Below g w (W1.setCells g ((i + m) * 2) [.slice none 0 0, .bool false]) ∧ Touch (fun b => b = g) w (W1.setCells g ((i + m) * 2) [.slice none 0 0, .bool false])) := by
    refine ⟨⟨by rw [hszs, hW1, hszs]; exact hS.1, fun j _ hj => ⟨?_, ?_⟩, fun j => by rw [World.frozen?_setCells, hW1, World.frozen?_setCells]; exact hS.2.2 j⟩, hbel, htw⟩
    · rw [hfin _ (by omega), hC]
      unfold dlF
      by_cases h : j < i
      · simp [h, show j * 2 < i * 2 by omega]
      · have e1 : (j * 2 + 2) % 2 = 0 := by omega
        have e2 : (j * 2 + 2) / 2 = j + 1 := by omega
        simp [h, show ¬ j * 2 < i * 2 by omega, e1, e2]
    · rw [hfin _ (by omega), hC]
      unfold dlF
      by_cases h : j < i
      · have e1 : (j * 2 + 1) % 2 = 1 := by omega
        have e2 : (j * 2 + 1) / 2 = j := by omega
        simp [h, show j * 2 + 1 < i * 2 by omega, e1, e2]
      · have e1 : (j * 2 + 1 + 2) % 2 = 1 := by omega
        have e2 : (j * 2 + 1 + 2) / 2 = j + 1 := by omega
        simp [h, show ¬ j * 2 + 1 < i * 2 by omega, e1, e2]
  clear hW1 hS hcell hone hget hnews hlen hF hG hin hfin hbw hbel hszs hC htc htw
  go_enter Tryz.func82, Tryz.ntmps82
  go_wp2_with fail
  go_region_law (refine step_append_room rfl (.tmp 22) (.tmp 25) 24 rfl 36 i0 2 Tryz.underlying24 hi0 hz1 g 0 i cap (by simp [Act.eval, Act.put]) A m (cap - (i + 1)) news (by simp [Act.eval, Act.put]) s1.out hsrc.out s2.out (by omega) s3.out ?_; rw [← hW.out])
  go_wp2
  go_ret
  exact ⟨rfl, HFin.out⟩
end Go.Proofs.YtpalpbpamcaakaaGreat

namespace Go.Proofs.YtpalpbpamcaakaaGreat
set_option maxRecDepth 100000
open Go.RowKit

set_option maxHeartbeats 1000000 in
/-- The closure of RemoveLayer. -/
theorem remE1_makes (w : World) (N : Nat) (bI i : Nat) (ls : List Lay) (hk : i < ls.length) (hn : ls.length ≤ 1000) (hI : BoxV w bI 3 (.int .i64 i)) :
    Makes w N 81 [.pointer (some ⟨bI, 0, none⟩)] ls (ls.eraseIdx i) := by
  intro W v lo hB hlo hNW hO
  have i1 := (hI.below hB hI.lt).cell
  have hlen : (ls.eraseIdx i).length = ls.length - 1 := List.length_eraseIdx_of_lt hk
  rcases hO with ⟨rfl, _⟩ | ⟨g, cap, U, L, R, rfl, hcap, h0, hG⟩
  · simp at hk
  · obtain ⟨G, hGd⟩ : ∃ G : Nat → Value, G = fun j => .bool (ls.getD j ([], false)).2 := ⟨_, rfl⟩
    have hGl : ∀ j l, ls[j]? = some l → G j = .bool l.2 := fun j l hj => by rw [hGd]; simp [List.getD, hj]
    have hlow := hG.low
    have hget : ∀ j, j < ls.length → ∃ l, ls[j]? = some l := fun j hj => ⟨_, List.getElem?_eq_getElem hj⟩
    obtain ⟨m, hm⟩ : ∃ m, ls.length = i + 1 + m := ⟨ls.length - (i + 1), by omega⟩
    have hS : RowS W g U G (i + 1 + m) 0 := ⟨Nat.lt_of_lt_of_le hG.high hG.size, fun j _ hj => by
      obtain ⟨l, hl⟩ := hget j (by omega)
      have := hG.cell j l hl
      exact ⟨this.1, by rw [hGl j l hl]; exact this.2⟩, hG.thaw⟩
    have hU1 : ∀ j, j < i + 1 + m → (U j).oneCell' = true := fun j hj => by
      obtain ⟨l, hl⟩ := hget j (by omega)
      obtain ⟨a, c, e, _⟩ := (hG.each j l hl).1.at.cells
      rw [e]; rfl
    have hG1 : ∀ j, j < i + 1 + m → (G j).oneCell' = true := fun j hj => by
      obtain ⟨l, hl⟩ := hget j (by omega)
      rw [hGl j l hl]; rfl
    have C := Lib.hid (delL_any g m cap i U G W hS (by omega) hU1 hG1)
    have HG := Lib.hid hG
    have HL := Lib.hid hm
    have HLen := Lib.hid hlen
    have HGl := Lib.hid hGl
    have hi1 : i + 1 + m ≤ 1000 := by omega
    rw [hm]
    clear hS hU1 hG1 hG hGd hget hGl hlen hn h0 hm
    show Calls _ _ #[_, _] _ _
    go_enter Tryz.func81, Tryz.ntmps81
    go_wp2_with fail
    refine C.out.mono ?_
    rintro r W2 ⟨rfl, hS2, hb2, ht2⟩
    have HT2 := Lib.hid ht2
    have HS2 := Lib.hid hS2
    have HB2 := Lib.hid hb2
    clear hS2 hb2 ht2
    go_wp2
    go_ret
    refine ⟨⟨_, rfl, ?_⟩, HB2.out.mono (by omega)⟩
    have ht := HT2.out
    have h3 := HG.out.del hk HGl.out (by rw [HL.out, show i + 1 + m - 1 = i + m by omega]; exact HS2.out) ht
    rcases Nat.eq_zero_or_pos (i + m) with hz | hz
    · exact .inl ⟨List.length_eq_zero_iff.1 (by have := HL.out; rw [HLen.out]; omega), some ⟨g, 0, none⟩, cap, by show Value.slice _ (i + m) cap = _; rw [hz]⟩
    · refine .inr ⟨g, cap, dlF U i, (fun j => L (if j < i then j else j + 1)), (fun j => R (if j < i then j else j + 1)), by rw [HLen.out, HL.out, show i + 1 + m - 1 = i + m by omega]; rfl, by have := HL.out; rw [HLen.out]; omega, by have := HL.out; rw [HLen.out]; omega, ?_⟩
      exact ⟨by omega, Nat.lt_of_lt_of_le h3.high (by have := h3.size; omega), Nat.le_refl _, h3.thaw, h3.cell, fun j l hj => by obtain ⟨d0, d1, d2, d3, d4⟩ := h3.each j l hj; exact ⟨d0, by omega, d2, by have := h3.size; omega, d4⟩, h3.apart⟩
theorem inK_nat2 {n : Nat} {i : Int} (h : inK n i = true) : ∃ k : Nat, i = (k : Int) ∧ k < n := by
  unfold inK at h
  rw [Bool.and_eq_true, decide_eq_true_eq, decide_eq_true_eq] at h
  exact ⟨i.toNat, by omega, by omega⟩
/-- An answer of a stack of its own and a flag. -/
def OutRem (base : Nat) (w' : World) (ls2 : List Lay) (c : Bool) (e : Ending) : Prop := ∃ v2, e = .returned (.tuple #[dV v2, .bool c]) ∧ (c = true → OwnLs w' base w'.heap.size v2 ls2) ∧ (c = false → v2 = .slice none 0 0)
set_option maxHeartbeats 2000000 in
theorem RemoveLayer_any (v : Value) (ls : List Lay) (i : Int) (w : World) (h : LaysAt w v ls) (hn : ls.length ≤ 2097152) (hx : ∀ l ∈ ls, layOk l) :
    Calls Tryz.prog 31 #[dV v, .int .i64 i] w fun r w' => OutRem w.heap.size w' (ls.eraseIdx i.toNat) (okK ls && inK ls.length i) r ∧ Below w.heap.size w w' := by
  obtain ⟨w5, hw5⟩ : ∃ w5, w5 = (((w.alloc (.cells #[v] 26)).alloc (.cells #[.int .i64 i] 3)).alloc (.cells #[.slice none 0 0] 26)).alloc (.cells #[.int .i64 i] 3) := ⟨_, rfl⟩
  have hs5 : w5.heap.size = w.heap.size + 4 := by rw [hw5]; simp
  have hb5 : Below w.heap.size w w5 := by
    rw [hw5]
    exact (below_al3 w _ _ _).alloc (by simp <;> omega) _
  have hI : BoxV w5 (w.heap.size + 1) 3 (.int .i64 i) := by
    rw [hw5]
    have := ((BoxV.new (w.alloc (.cells #[v] 26)) 3 (.int .i64 i)).below (below_al _ (.cells #[.slice none 0 0] 26)) (by simp)).below (below_al _ (.cells #[.int .i64 i] 3)) (by simp <;> omega)
    simpa using this
  have hR : BoxV w5 (w.heap.size + 1 + 1) 26 (.slice none 0 0) := by
    rw [hw5]
    have := (BoxV.new ((w.alloc (.cells #[v] 26)).alloc (.cells #[.int .i64 i] 3)) 26 (.slice none 0 0)).below (below_al _ (.cells #[.int .i64 i] 3)) (by simp)
    simpa using this
  have hu : IntsAt w5 (.slice (some ⟨w.heap.size + 1 + 1 + 1, 0, none⟩) 1 1) [i] := by
    have h4 : BoxV w5 (w.heap.size + 1 + 1 + 1) 3 (.int .i64 i) := by
      rw [hw5]
      have := BoxV.new (((w.alloc (.cells #[v] 26)).alloc (.cells #[.int .i64 i] 3)).alloc (.cells #[.slice none 0 0] 26)) 3 (.int .i64 i)
      simpa using this
    refine IntsM.at (.inr ⟨_, 0, 1, rfl, by simp, h4.lt, fun j x hj => ?_⟩)
    match j, hj with
    | 0, hj => simp at hj; subst hj; simpa using h4.cell
    | j + 1, hj => simp at hj
  have hM : okK ls = true → ([i].all fun i => inK ls.length i) = true → Makes w5 (w5.heap.size + 2) 81 [.pointer (some ⟨w.heap.size + 1, 0, none⟩)] ls (ls.eraseIdx i.toNat) := by
    intro hk hi
    have hi2 : inK ls.length i = true := by simpa using hi
    obtain ⟨k, rfl, hkn⟩ := inK_nat2 hi2
    rw [Int.toNat_natCast]
    exact remE1_makes w5 _ _ k ls hkn (by have := (okK_parts hk).1; omega) hI
  have C := rear1_any 81 (fun args w => Tryz.call81 args w) (.pointer (some ⟨w.heap.size + 1, 0, none⟩)) v ls (ls.eraseIdx i.toNat) _ [i] w5 (h.below hb5) hu hn hx (by simp) hM
  rw [show ([i].all fun i => inK ls.length i) = inK ls.length i by simp] at C
  obtain ⟨c, hc⟩ : ∃ c, c = (okK ls && inK ls.length i) := ⟨_, rfl⟩
  rw [← hc] at C ⊢
  obtain ⟨ls2, hl2⟩ : ∃ ls2, ls2 = ls.eraseIdx i.toNat := ⟨_, rfl⟩
  rw [← hl2] at C ⊢
  obtain ⟨a, cap, rfl, _, _⟩ := h.cells
  obtain ⟨n, hnn⟩ : ∃ n, n = ls.length := ⟨_, rfl⟩
  rw [← hnn] at C hw5
  unfold dV at C
  rw [hw5] at C
  rw [← hnn]
  have CC := Lib.hid C
  have HB5 : Hid (Below w.heap.size w ((((w.alloc (.cells #[.slice a n cap] 26)).alloc (.cells #[.int .i64 i] 3)).alloc (.cells #[.slice none 0 0] 26)).alloc (.cells #[.int .i64 i] 3))) := by rw [← hw5]; exact hb5
  have HR : Hid (BoxV ((((w.alloc (.cells #[.slice a n cap] 26)).alloc (.cells #[.int .i64 i] 3)).alloc (.cells #[.slice none 0 0] 26)).alloc (.cells #[.int .i64 i] 3)) (w.heap.size + 1 + 1) 26 (.slice none 0 0)) := by rw [← hw5]; exact hR
  clear C hM hu hR hI hb5 hs5 hw5 h hx hnn hc hn hl2
  unfold dV
  go_enter Tryz.func31, Tryz.ntmps31
  go_wp2_with fail
  refine CC.out.mono ?_
  rintro r w6 ⟨⟨v2, rfl, h1, h2⟩, hb6⟩
  have T1 : Hid (BoxV w6 (w.heap.size + 1 + 1) 26 (.slice none 0 0)) := HR.out.below hb6 HR.out.lt
  have HB6 := Lib.hid (HB5.out.trans (hb6.mono (by simp <;> omega)))
  have h1' : c = true → OwnLs w6 (w.heap.size + 4) w6.heap.size v2 ls2 := fun h => by simpa using h1 h
  have H1 := Lib.hid h1'
  have H2 := Lib.hid h2
  have c6 := T1.out.cell
  have f6 := T1.out.frozen
  have hvs : ∃ x y z, v2 = .slice x y z := by
    cases c
    · exact ⟨_, _, _, h2 rfl⟩
    · obtain ⟨x, z, e, _⟩ := (h1 rfl).at.cells; exact ⟨_, _, _, e⟩
  obtain ⟨x, y, z, rfl⟩ := hvs
  clear hb6 h1 h2 h1' CC
  go_wp2
  refine bodyPost_ret (results_st2 rfl _ _ (w.heap.size + 1 + 1) _ rfl (T1.out.set _)) rfl ?_
  refine ⟨⟨_, rfl, fun hc => ?_, H2.out⟩, HB6.out.setCell (by show w.heap.size ≤ w.heap.size + 1 + 1; omega) _⟩
  rw [World.size_setCell]
  exact OwnLs.mono ((H1.out hc).touch (T := fun b => b < w.heap.size + 4) ((Touch.refl _ _).setCell (by show _ < _; omega) _ _) (fun b h1 _ h2 => by omega)) (by omega)
end Go.Proofs.YtpalpbpamcaakaaGreat
