/-
  SetEnabled of the specification.
-/
import Derived.Test.YtpalpbpamcaakaaGreatOwn8
import Derived.Test.YtpalpbpamcaakaaGreatRear
namespace Go.Proofs.YtpalpbpamcaakaaGreat
set_option maxRecDepth 100000
open Go.RowKit

/-- The row with the flag of layer k written, later blocks below 'base' written too. -/
theorem LRows.flag {w : World} {base : Nat} {v : Value} {us : List (Value × Lay)} (h : LRows w base v us) {k : Nat} {p : Value × Lay} (hk : us[k]? = some p) (b : Bool) : ∃ g cap, v = .slice (some ⟨g, 0, none⟩) us.length cap ∧ us.length ≤ cap ∧ base ≤ g ∧ g < w.heap.size ∧
    w.cell? ⟨g, k * 2 + 1, none⟩ = some (.bool p.2.2) ∧ w.frozen? ⟨g, k * 2 + 1, none⟩ = false ∧ ∀ (T : Nat → Prop) (w1 w' : World), Below w.heap.size w w1 → Touch T (w1.setCell ⟨g, k * 2 + 1, none⟩ (.bool b)) w' → (∀ b, T b → b < base) → LaysAt w' v ((us.map (·.2)).set k (p.2.1, b)) := by
  rcases h.parts with ⟨rfl, _⟩ | ⟨g, cap, rfl, hn, hbg, hlt, hz, hc⟩
  · simp at hk
  · have hkl := (List.getElem?_eq_some_iff.1 hk).1
    refine ⟨g, cap, rfl, hn, hbg, hlt, (hc k p hk).2, hz _, fun T w1 w' hb ht hT => ?_⟩
    have hlen : ((us.map (·.2)).set k (p.2.1, b)).length = us.length := by rw [List.length_set, List.length_map]
    have hg1 : g < w1.heap.size := Nat.lt_of_lt_of_le hlt hb.size
    have ht2 : Touch (fun x => T x ∨ x = g) w w' := ((Touch.of_below hb).mono (fun _ (q : False) => q.elim)).trans (((Touch.refl (fun x => T x ∨ x = g) w1).setCell (.inr rfl) _ _).trans (ht.mono fun _ q => .inl q))
    have hgT : ¬ T g := fun q => by have := hT g q; omega
    have hg2 : g < (w1.setCell ⟨g, k * 2 + 1, none⟩ (.bool b)).heap.size := by rw [World.size_setCell]; exact hg1
    have hcell : ∀ j x, w.cell? ⟨g, j, none⟩ = some x → j ≠ k * 2 + 1 → w'.cell? ⟨g, j, none⟩ = some x := fun j x hx hj => by
      refine ((ht.cf j hg2 hgT).1).trans ?_
      rw [World.cell?_setCell_other _ _ _ _ (by intro e; injection e; omega)]
      exact (hb.cell (p := ⟨g, j, none⟩) hlt).trans hx
    refine ⟨some ⟨g, 0, none⟩, cap, by rw [hlen], by rw [hlen]; exact hn, .inr ⟨g, 0, rfl, Nat.lt_of_lt_of_le hlt ht2.1, fun j z hj => ?_⟩⟩
    rw [Nat.zero_add]
    have hd : ∀ q ∈ us, EntsAt w' q.1 q.2.1 := fun q hq => by
      obtain ⟨lo, hi, h1, h2, h3, h4⟩ := h.dic q hq
      exact h1 w' (ht2.mono fun x hx => by
        rcases hx with hx | rfl
        · have := hT x hx; omega
        · exact h4 _ rfl)
    by_cases e : k = j
    · subst e
      rw [List.getElem?_set_self (by rw [List.length_map]; exact hkl)] at hj
      injection hj with hj
      subst hj
      refine ⟨p.1, hcell _ _ (hc k p hk).1 (by omega), ?_, hd p (List.mem_of_getElem? hk)⟩
      exact ((ht.cf _ hg2 hgT).1).trans (World.cell?_setCell_same _ _ _ ((hb.cell (p := ⟨g, k * 2 + 1, none⟩) hlt).trans (hc k p hk).2))
    · rw [List.getElem?_set_ne e, List.getElem?_map] at hj
      obtain ⟨q, hq, rfl⟩ := Option.map_eq_some_iff.1 hj
      exact ⟨q.1, hcell _ _ (hc j q hq).1 (by omega), hcell _ _ (hc j q hq).2 (by omega), hd q (List.mem_of_getElem? hq)⟩
theorem l8At_any (v : Value) (ls : List Lay) (i : Int) (w : World) (h : LaysAt w v ls) (hn : ls.length ≤ 2097152) (hx : ∀ l ∈ ls, layOk l) :
    Calls Tryz.prog 84 #[dV v, .int .i64 i] w fun r w' => r = .returned (.bool (okK ls && inK ls.length i)) ∧ Below w.heap.size w w' := by
  have cv := fun w' hb => specIsValidStack_any v ls w' (h.below (w' := w') hb) hn hx
  obtain ⟨a, cap, rfl, hcap, _⟩ := h.cells
  obtain ⟨n, hnn⟩ : ∃ n, n = ls.length := ⟨_, rfl⟩
  rw [← hnn] at hn hcap cv ⊢
  obtain ⟨k, hk⟩ : ∃ k, k = okK ls := ⟨_, rfl⟩
  rw [← hk] at cv ⊢
  have ci := fun w => l1In_any i 0 ((n : Int) - 1) w
  have hin : (decide (0 ≤ i) && decide (i ≤ (n : Int) - 1)) = inK n i := by
    unfold inK
    congr 1
    exact decide_eq_decide.2 (by omega)
  simp only [hin] at ci
  obtain ⟨b, hb⟩ : ∃ b, b = inK n i := ⟨_, rfl⟩
  rw [← hb] at ci ⊢
  unfold dV at cv ⊢
  have CV := Lib.hid cv
  have CI := Lib.hid ci
  clear h hnn hk hb hin cv ci hx
  have q0 := BoxV.new w 26 (.slice a n cap)
  cases k
  · go_enter Tryz.func84, Tryz.ntmps84
    go_wp2_with fail
    refine (CV.out _ (below_al _ _)).mono ?_
    rintro r w1 ⟨rfl, hb1⟩
    have HB := Lib.hid (below_box hb1)
    clear hb1
    go_wp2
    go_ret
    exact ⟨rfl, HB.out⟩
  · go_enter Tryz.func84, Tryz.ntmps84
    go_wp2_with fail
    refine (CV.out _ (below_al _ _)).mono ?_
    rintro r w1 ⟨rfl, hb1⟩
    have c0 := (q0.below hb1 q0.lt).cell
    have HB := Lib.hid (below_box hb1)
    clear hb1
    go_wp2_with fail
    refine (CI.out _).mono ?_
    rintro r w2 ⟨rfl, rfl⟩
    go_wp2
    go_ret
    exact ⟨by simp, HB.out⟩
set_option maxHeartbeats 2000000 in
theorem specSetEnabled_any (v : Value) (ls : List Lay) (i : Int) (b : Bool) (w : World) (h : LaysAt w v ls) (hn : ls.length ≤ 2097152) (hx : ∀ l ∈ ls, layOk l) :
    Calls Tryz.prog 37 #[dV v, .int .i64 i, .bool b] w fun r w' => (∃ v2, r = .returned (.tuple #[dV v2, .bool (okK ls && inK ls.length i)]) ∧ ((okK ls && inK ls.length i) = true → LaysAt w' v2 (setF ls i b)) ∧ ((okK ls && inK ls.length i) = false → v2 = .slice none 0 0)) ∧ Below w.heap.size w w' := by
  have ca := fun w' hb => l8At_any v ls i w' (h.below (w' := w') hb) hn hx
  have co := fun (hk : okK ls = true) w' hb => l8Own_any v ls w' (h.below (w' := w') hb) (by have := (okK_parts hk).1; omega) (fun l hl => by
    have h2 := (okK_parts hk).2 l hl
    exact ⟨by have := (okD_parts h2).1; omega, fun e he => by have h3 := okE_size ((okD_parts h2).2.1 e he); exact ⟨by omega, ⟨by omega, by omega⟩⟩⟩)
  obtain ⟨a, cap, rfl, hcap, _⟩ := h.cells
  obtain ⟨n, hnn⟩ : ∃ n, n = ls.length := ⟨_, rfl⟩
  rw [← hnn] at hn hcap ca co ⊢
  obtain ⟨c, hc⟩ : ∃ c, c = (okK ls && inK n i) := ⟨_, rfl⟩
  rw [← hc] at ca ⊢
  unfold dV at ca co ⊢
  have CA := Lib.hid ca
  have CO := Lib.hid co
  have HC := Lib.hid hc
  have HN := Lib.hid hnn
  clear h hnn hx ca co hc
  have q1 := (BoxV.new (w.alloc (.cells #[.slice a n cap] 26)) 26 (.slice none 0 0))
  rw [World.size_alloc] at q1
  have q0 := (BoxV.new w 26 (.slice a n cap)).below (below_al _ (.cells #[.slice none 0 0] 26)) (by simp)
  have Q0 := Lib.hid q0
  have Q1 := Lib.hid q1
  clear q0 q1
  cases c
  · clear CO
    go_enter Tryz.func37, Tryz.ntmps37
    go_wp2_with fail
    refine (CA.out _ (below_al2 _ _ _)).mono ?_
    rintro r w1 ⟨rfl, hb1⟩
    have R1 : Hid (BoxV w1 (w.heap.size + 1) 26 (.slice none 0 0)) := Q1.out.below hb1 Q1.out.lt
    have HB1 := Lib.hid ((below_al2 w _ _).trans (hb1.mono (by simp; omega)))
    have c1 := R1.out.cell
    have f1 := R1.out.frozen
    clear hb1
    go_wp2
    refine bodyPost_ret (results_st2 rfl _ _ (w.heap.size + 1) _ rfl (R1.out.set _)) rfl ?_
    exact ⟨⟨_, rfl, (fun h => by cases h), fun _ => rfl⟩, HB1.out.setCell (by show w.heap.size ≤ w.heap.size + 1; omega) _⟩
  · have hok : okK ls = true ∧ inK n i = true := by
      have := HC.out.symm
      rwa [Bool.and_eq_true] at this
    obtain ⟨k, rfl, hkn⟩ := inK_nat hok.2
    have CO1 := Lib.hid (CO.out hok.1)
    obtain ⟨l0, hl⟩ : ∃ l0, ls[k]? = some l0 := ⟨_, List.getElem?_eq_getElem (by rw [← HN.out]; exact hkn)⟩
    have HSet : Hid (setF ls (k : Int) b = ls.set k (l0.1, b)) := setF_at hl b
    have HL := Lib.hid hl
    clear CO HC hok
    go_enter Tryz.func37, Tryz.ntmps37
    go_wp2_with fail
    refine (CA.out _ (below_al2 _ _ _)).mono ?_
    rintro r w1 ⟨rfl, hb1⟩
    have R1 : Hid (BoxV w1 (w.heap.size + 1) 26 (.slice none 0 0)) := Q1.out.below hb1 Q1.out.lt
    have R0 : Hid (BoxV w1 w.heap.size 26 (.slice a n cap)) := Q0.out.below hb1 Q0.out.lt
    have HB1 := Lib.hid ((below_al2 w _ _).trans (hb1.mono (by simp; omega)))
    have c0 := R0.out.cell
    clear hb1
    go_wp2_with fail
    refine (CO1.out _ HB1.out).mono ?_
    rintro r w2 ⟨⟨v2, us, rfl, hR, hmap⟩, hb2⟩
    have S1 : Hid (BoxV w2 (w.heap.size + 1) 26 (.slice none 0 0)) := R1.out.below hb2 R1.out.lt
    have HB2 := Lib.hid (HB1.out.trans (hb2.mono HB1.out.size))
    have hp : ∃ p, us[k]? = some p ∧ p.2 = l0 := by
      have : (us.map (·.2))[k]? = some l0 := by rw [hmap]; exact HL.out
      rw [List.getElem?_map] at this
      exact Option.map_eq_some_iff.1 this
    obtain ⟨p, hp1, hp2⟩ := hp
    obtain ⟨g, gcap, rfl, hgc, hgb, hgl, gc1, gf1, hflag⟩ := hR.flag hp1 b
    have hul : us.length = n := by rw [HN.out, ← hmap, List.length_map]
    rw [hul, hmap, hp2, ← HSet.out] at hflag
    rw [hul] at hgc ⊢
    have HFlag := Lib.hid hflag
    have a1 : (w2.alloc (.cells #[.slice (some ⟨g, 0, none⟩) n gcap] 26)).cell? ⟨g, k * 2 + 1, none⟩ = some (.bool p.2.2) := ((below_al w2 _).cell (p := ⟨g, k * 2 + 1, none⟩) hgl).trans gc1
    have a2 : (w2.alloc (.cells #[.slice (some ⟨g, 0, none⟩) n gcap] 26)).frozen? ⟨g, k * 2 + 1, none⟩ = false := ((below_al w2 _).frozen (p := ⟨g, k * 2 + 1, none⟩) hgl).trans gf1
    have a3 : ((w2.alloc (.cells #[.slice (some ⟨g, 0, none⟩) n gcap] 26)).setCell ⟨g, k * 2 + 1, none⟩ (.bool b)).cell? ⟨w2.heap.size, 0, none⟩ = some (.slice (some ⟨g, 0, none⟩) n gcap) := by
      rw [World.cell?_setCell_other _ _ _ _ (by intro e; injection e; omega)]; exact (BoxV.new w2 26 _).cell
    have T2 : Hid (BoxV ((w2.setCell ⟨g, k * 2 + 1, none⟩ (.bool b)).alloc (.cells #[.slice (some ⟨g, 0, none⟩) n gcap] 26)) (w.heap.size + 1) 26 (.slice none 0 0)) := by
      have h1 := S1.out.other (o := k * 2 + 1) (x := .bool b) (show g ≠ w.heap.size + 1 by have := R1.out.lt; have := HB1.out.size; omega)
      exact h1.below (below_al _ _) h1.lt
    have t1 := T2.out.cell
    have t2 := T2.out.frozen
    have hne : ¬ g = w2.heap.size := by omega
    have hne2 : ¬ w2.heap.size = g := by omega
    have hr1 := R1.out.lt
    have hsz2 := HB2.out.size
    clear hb2 hR hmap hflag gc1 gf1 c0 hp1 hp2
    go_wp2
    refine bodyPost_ret (results_st2 rfl _ _ (w.heap.size + 1) _ rfl (T2.out.set _)) rfl ?_
    refine ⟨⟨_, rfl, fun _ => HFlag.out (fun x => x = w.heap.size + 1) w2 _ (Below.refl _ _) (((Touch.refl (fun x => x = w.heap.size + 1) _).alloc _).setCell (show w.heap.size + 1 = w.heap.size + 1 from rfl) _ _) (fun x h => by omega), fun h => by cases h⟩, ?_⟩
    exact ((HB2.out.setCell (p := ⟨g, k * 2 + 1, none⟩) (by show w.heap.size ≤ g; omega) _).alloc (by rw [World.size_setCell]; exact HB2.out.size) _).setCell (p := ⟨w.heap.size + 1, 0, none⟩) (by show w.heap.size ≤ w.heap.size + 1; omega) _
end Go.Proofs.YtpalpbpamcaakaaGreat
