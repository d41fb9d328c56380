/-
  RemoveLayer of the specification.
-/
import Derived.Test.YtpalpbpamcaakaaGreatOwn8
import Derived.Deep.AppendLies
import Derived.Deep.RegionLaw
import Derived.Deep.Onto
import Derived.Test.YtpalpbpamcaakaaGreatSpecS
import Derived.Test.YtpalpbpamcaakaaGreatMix
namespace Go.Proofs.YtpalpbpamcaakaaGreat
set_option maxRecDepth 100000
open Go.RowKit

theorem lyCells_app (us vs : List (Value × Lay)) : lyCells (us ++ vs) = lyCells us ++ lyCells vs := by unfold lyCells; rw [List.flatMap_append]
/-- What may be appended to the row at v. -/
def LayOff (w : World) (base : Nat) (v : Value) (p : Value × Lay) : Prop := ∃ lo hi, DicP w lo hi p.1 p.2.1 ∧ base ≤ lo ∧ hi ≤ w.heap.size ∧ ∀ b, v.ownBlock = some b → b < lo ∨ hi ≤ b
theorem LRows.pushes {w w' : World} {base : Nat} {v v' : Value} {us vs : List (Value × Lay)} (h : LRows w base v us) (hv : ∀ p ∈ vs, LayOff w base v p)
    (hown : w'.ownsRow base 36 2 v' (us ++ vs).length (lyCells (us ++ vs))) (hg : w.grownBy w' v.ownBlock) (hat : v'.ownBlock = v.ownBlock ∨ v'.ownBlock = some w.heap.size) : LRows w' base v' (us ++ vs) := by
  have ht : Touch (fun b => v.ownBlock = some b) w w' := Touch.grown hg fun k e => e
  refine ⟨hown, fun p hp => ?_⟩
  have hp2 : LayOff w base v p := by
    rcases List.mem_append.1 hp with hp | hp
    · exact h.dic p hp
    · exact hv p hp
  obtain ⟨lo, hi, h1, h2, h3, h4⟩ := hp2
  refine ⟨lo, hi, h1.touch ht h4, h2, Nat.le_trans h3 ht.1, fun b hb => ?_⟩
  rcases hat with hat | hat
  · exact h4 b (hat ▸ hb)
  · rw [hat] at hb
    injection hb with hb
    omega
/-- Several layers appended. -/
theorem push_lays {ops : Array Oper} {rest : List Oper} {o : Oper} {a : Act} {w : World} {Q : Exit → Act → World → Prop} (hgd : o.guard = none)
    (p q : Operand) (ho : o.op = .call { callee := .builtin .append, args := #[p, q], argTypes := #[24, 24] }) (base : Nat) (v : Value) (us vs : List (Value × Lay)) (hs : a.eval p = v) (R : LRows w base v us)
    (hv : ∀ p ∈ vs, LayOff w base v p) (h0 : 0 < vs.length) (g f c : Nat) (hq : a.eval q = .slice (some ⟨g, f, none⟩) vs.length c)
    (hc : ∀ j p, vs[j]? = some p → w.cell? ⟨g, f + j * 2, none⟩ = some p.1 ∧ w.cell? ⟨g, f + j * 2 + 1, none⟩ = some (.bool p.2.2)) (hb : base ≤ w.heap.size) (h1 : us.length ≤ 1048576) (h2 : vs.length ≤ 1048576)
    (h : ∀ v' w', LRows w' base v' (us ++ vs) → w.grownBy w' v.ownBlock → (v'.ownBlock = v.ownBlock ∨ v'.ownBlock = some w.heap.size) → wpList Tryz.prog ops Q rest (a.put o.dst v') w') :
    wpList Tryz.prog ops Q (o :: rest) a w := by
  refine wpList_plain hgd fun _ hK => ?_
  obtain ⟨i0, hi0, hz0, hz1, hz2⟩ := info_parts infoLy
  have hnews : ∀ j u, (lyCells vs)[j]? = some u → w.cell? ((⟨g, f, none⟩ : Addr).add j) = some u ∧ u.oneCell' = true := by
    intro j u hj
    have hjl := (List.getElem?_eq_some_iff.1 hj).1
    rw [lyCells_len] at hjl
    obtain ⟨x, hx⟩ : ∃ x, vs[j / 2]? = some x := ⟨_, List.getElem?_eq_getElem (by omega)⟩
    obtain ⟨e0, e1⟩ := lyCells_at vs (j / 2) x hx
    obtain ⟨c0, c1⟩ := hc (j / 2) x hx
    rw [Go.WideShapes.add_plain]
    rcases Nat.mod_two_eq_zero_or_one j with e | e
    · rw [show j / 2 * 2 = j by omega] at e0 c0
      rw [e0] at hj
      injection hj with hj
      subst hj
      obtain ⟨lo, hi, d, _⟩ := hv x (List.mem_of_getElem? hx)
      exact ⟨c0, d.one⟩
    · rw [show j / 2 * 2 + 1 = j by omega] at e1
      rw [e1] at hj
      injection hj with hj
      subst hj
      exact ⟨by rw [show f + j = f + j / 2 * 2 + 1 by omega]; exact c1, rfl⟩
  refine wp_append_lies _ p q 24 ho base 36 i0 (.agg #[.slice none 0 0, .bool false]) 2 32 Tryz.underlying24 hi0 hz0 hz1 hz2 rfl (by decide) v us.length _ hs R.row ⟨g, f, none⟩ vs.length c (lyCells vs) hq (lyCells_len vs) (fun j u hj => (hnews j u hj).1) ?_ h0 (by unfold maxLen; omega) (by omega) hb w.heap.size rfl ?_
  · intro y hy
    obtain ⟨j, hj⟩ := List.getElem?_of_mem hy
    exact (hnews j y hj).2
  · intro g2 cap w' hown hg hat _
    have hat' : (Value.slice (some ⟨g2, 0, none⟩) (us.length + vs.length) cap).ownBlock = v.ownBlock ∨ (Value.slice (some ⟨g2, 0, none⟩) (us.length + vs.length) cap).ownBlock = some w.heap.size := by
      rcases hat with h2 | h2
      · exact .inl h2.symm
      · exact .inr (by rw [h2]; rfl)
    refine hK _ _ (h _ w' (R.pushes hv ?_ hg hat') hg hat')
    show World.ownsRow _ _ _ _ _ _ _
    rw [lyCells_app, List.length_append]; exact hown
end Go.Proofs.YtpalpbpamcaakaaGreat

namespace Go.Proofs.YtpalpbpamcaakaaGreat
set_option maxRecDepth 100000
open Go.RowKit

/-- Old layers appended, as a step. -/
theorem step_layO {ops : Array Oper} {o : Oper} {a : Act} {w0 w : World} {K : Act → World → Prop} {Q : Exit → Act → World → Prop} {E : Prop} (p q : Operand)
    (hgd : o.guard = none) (ho : o.op = .call { callee := .builtin .append, args := #[p, q], argTypes := #[24, 24] }) (g0 n0 cap0 : Nat) (us : List (Value × Lay)) (hs : a.eval p = .slice (some ⟨g0, 0, none⟩) n0 cap0)
    (bk off m : Nat) (vs : List (Value × Lay)) (c : Nat) (hq : a.eval q = .slice (some ⟨bk, off, none⟩) m c) (hm : m = vs.length)
    (hcell : ∀ W, Below w0.heap.size w0 W → ∀ j x, vs[j]? = some x → W.cell? ⟨bk, off + j * 2, none⟩ = some x.1 ∧ W.cell? ⟨bk, off + j * 2 + 1, none⟩ = some (.bool x.2.2)) (hone : ∀ x ∈ vs, x.1.oneCell' = true) (h1 : n0 ≤ 1000) (h2 : m ≤ 1000)
    (hown : w.ownsRow w0.heap.size 36 2 (.slice (some ⟨g0, 0, none⟩) n0 cap0) n0 (lyCells us)) (hbel : Below w0.heap.size w0 w)
    (h : ∀ g cap w', w'.ownsRow w0.heap.size 36 2 (.slice (some ⟨g, 0, none⟩) (n0 + m) cap) (n0 + m) (lyCells (us ++ vs)) → Below w0.heap.size w0 w' → (∀ N o, N ≠ g0 → w.heap[N]? = some o → w'.heap[N]? = some o) → K (a.put o.dst (.slice (some ⟨g, 0, none⟩) (n0 + m) cap)) w') :
    if Region.wanted o (yielded ops a.tmps) = true then Oper.wp Tryz.prog o a w K Q else E := by
  have hw : Region.wanted o (yielded ops a.tmps) = true := by simp [Region.wanted, hgd]
  rw [if_pos hw]
  obtain ⟨i0, hi, hz0, hz1, hz2⟩ := info_parts infoLy
  have hnews : ∀ j u, (lyCells vs)[j]? = some u → w.cell? ((⟨bk, off, none⟩ : Addr).add j) = some u ∧ u.oneCell' = true := by
    intro j u hj
    have hjl := (List.getElem?_eq_some_iff.1 hj).1
    rw [lyCells_len] at hjl
    obtain ⟨x, hx⟩ : ∃ x, vs[j / 2]? = some x := ⟨_, List.getElem?_eq_getElem (by omega)⟩
    obtain ⟨e0, e1⟩ := lyCells_at vs (j / 2) x hx
    obtain ⟨c0, c1⟩ := hcell w hbel (j / 2) x hx
    rw [Go.WideShapes.add_plain]
    rcases Nat.mod_two_eq_zero_or_one j with e | e
    · rw [show j / 2 * 2 = j by omega] at e0 c0
      rw [e0] at hj
      injection hj with hj
      subst hj
      exact ⟨c0, hone x (List.mem_of_getElem? hx)⟩
    · rw [show j / 2 * 2 + 1 = j by omega] at e1
      rw [e1] at hj
      injection hj with hj
      subst hj
      exact ⟨by rw [show off + j = off + j / 2 * 2 + 1 by omega]; exact c1, rfl⟩
  refine wp_append_own w p q 24 ho w0.heap.size 36 i0 (.agg #[.slice none 0 0, .bool false]) 2 32 Tryz.underlying24 hi hz0 hz1 hz2 rfl (by decide) _ n0 _ hs hown ⟨bk, off, none⟩ m c (lyCells vs) hq (by rw [lyCells_len, hm]) (fun j u hj => (hnews j u hj).1) ?_ (by unfold maxLen; omega) (by omega) hbel.size ?_
  · intro y hy
    obtain ⟨j, hj⟩ := List.getElem?_of_mem hy
    exact (hnews j y hj).2
  · intro v' w' hown' hg hnil
    rcases hown'.2 with ⟨hv, _⟩ | ⟨g, cap, cur, rfl, _⟩
    · have := (hnil.1 hv).1
      cases this
    · refine h g cap w' ?_ ?_ ?_
      · rw [lyCells_app]; exact hown'
      · refine hbel.grown hg hbel.size fun k hk => ?_
        cases hk
        have := hown.lt g0 rfl
        show w0.heap.size ≤ g0
        omega
      · intro N o hN ho2
        exact (hg.block N (Array.getElem?_eq_some_iff.1 ho2).1 (by simpa [Value.ownBlock] using fun e => hN e)).trans ho2
/-- Old layers appended, in a list of operations. -/
theorem app_layO {ops : Array Oper} {rest : List Oper} {o : Oper} {a : Act} {w0 w : World} {Q : Exit → Act → World → Prop} (p q : Operand)
    (hgd : o.guard = none) (ho : o.op = .call { callee := .builtin .append, args := #[p, q], argTypes := #[24, 24] }) (g0 n0 cap0 : Nat) (us : List (Value × Lay)) (hs : a.eval p = .slice (some ⟨g0, 0, none⟩) n0 cap0)
    (bk off m : Nat) (vs : List (Value × Lay)) (c : Nat) (hq : a.eval q = .slice (some ⟨bk, off, none⟩) m c) (hm : m = vs.length)
    (hcell : ∀ W, Below w0.heap.size w0 W → ∀ j x, vs[j]? = some x → W.cell? ⟨bk, off + j * 2, none⟩ = some x.1 ∧ W.cell? ⟨bk, off + j * 2 + 1, none⟩ = some (.bool x.2.2)) (hone : ∀ x ∈ vs, x.1.oneCell' = true) (h1 : n0 ≤ 1000) (h2 : m ≤ 1000)
    (hown : w.ownsRow w0.heap.size 36 2 (.slice (some ⟨g0, 0, none⟩) n0 cap0) n0 (lyCells us)) (hbel : Below w0.heap.size w0 w)
    (h : ∀ g cap w', w'.ownsRow w0.heap.size 36 2 (.slice (some ⟨g, 0, none⟩) (n0 + m) cap) (n0 + m) (lyCells (us ++ vs)) → Below w0.heap.size w0 w' → (∀ N o, N ≠ g0 → w.heap[N]? = some o → w'.heap[N]? = some o) → wpList Tryz.prog ops Q rest (a.put o.dst (.slice (some ⟨g, 0, none⟩) (n0 + m) cap)) w') :
    wpList Tryz.prog ops Q (o :: rest) a w := by
  refine wpList_plain hgd fun K hK => ?_
  have hs1 := step_layO (ops := ops) (K := K) (Q := Q) (E := False) p q hgd ho g0 n0 cap0 us hs bk off m vs c hq hm hcell hone h1 h2 hown hbel fun g cap w' r1 r2 r3 => hK _ _ (h g cap w' r1 r2 r3)
  have hw : Region.wanted o (yielded ops a.tmps) = true := by simp [Region.wanted, hgd]
  rw [if_pos hw] at hs1
  exact hs1
theorem rowL_new (w : World) (e : TypeId) : (w.alloc (.cells #[] e)).ownsRow w.heap.size e 2 (.slice (some ⟨w.heap.size, 0, none⟩) 0 0) 0 [] :=
  ⟨rfl, .inr ⟨w.heap.size, 0, #[], rfl, Nat.le_refl _, by show (w.heap.push _)[w.heap.size]? = _; simp, Nat.le_refl _, by decide, rfl, rfl⟩⟩
/-- A row of layers whose dictionaries lie anywhere. -/
theorem laysAt_row {w : World} {base : Nat} {v : Value} {us : List (Value × Lay)} (h : w.ownsRow base 36 2 v us.length (lyCells us)) (hd : ∀ p ∈ us, EntsAt w p.1 p.2.1) : LaysAt w v (us.map (·.2)) := by
  have hlen : (us.map (·.2)).length = us.length := List.length_map _
  rcases h.2 with ⟨rfl, h0⟩ | ⟨g, cap, cur, rfl, hbg, hg, hn, hcm, hsz, htake⟩
  · rw [List.length_eq_zero_iff.1 h0]; exact LaysAt.nil _ _ _
  · have hlt : g < w.heap.size := (Array.getElem?_eq_some_iff.1 hg).1
    refine ⟨some ⟨g, 0, none⟩, cap, by rw [hlen], by rw [hlen]; exact hn, .inr ⟨g, 0, rfl, hlt, fun j e hj => ?_⟩⟩
    rw [List.getElem?_map] at hj
    obtain ⟨p, hp, rfl⟩ := Option.map_eq_some_iff.1 hj
    have hpl := (List.getElem?_eq_some_iff.1 hp).1
    obtain ⟨h0, h1⟩ := lyCells_at us j p hp
    have hc : ∀ q x, (lyCells us)[q]? = some x → w.cell? ⟨g, q, none⟩ = some x := by
      intro q x hq
      have hql : q < us.length * 2 := by
        rcases Nat.lt_or_ge q (us.length * 2) with h' | h'
        · exact h'
        · rw [List.getElem?_eq_none (by rw [lyCells_len]; exact h')] at hq; cases hq
      rw [← htake, List.getElem?_take_of_lt hql] at hq
      simp only [Array.getElem?_toList] at hq
      simp [World.cell?, hg, hq]
    rw [Nat.zero_add]
    exact ⟨p.1, hc _ _ h0, hc _ _ h1, hd p (List.mem_of_getElem? hp)⟩
end Go.Proofs.YtpalpbpamcaakaaGreat

namespace Go.Proofs.YtpalpbpamcaakaaGreat
set_option maxRecDepth 100000
open Go.RowKit

theorem laysAt_rowN {w : World} {base n : Nat} {v : Value} {us : List (Value × Lay)} (h : w.ownsRow base 36 2 v n (lyCells us)) (hn : n = us.length) (hd : ∀ p ∈ us, EntsAt w p.1 p.2.1) : LaysAt w v (us.map (fun p : Value × Lay => p.2)) := by
  subst hn
  exact laysAt_row h hd
set_option maxHeartbeats 4000000 in
theorem specRemoveLayer_any (v : Value) (ls : List Lay) (i : Int) (w : World) (h : LaysAt w v ls) (hn : ls.length ≤ 2097152) (hx : ∀ l ∈ ls, layOk l) :
    Calls Tryz.prog 52 #[dV v, .int .i64 i] w fun r w' => (∃ v2, r = .returned (.tuple #[dV v2, .bool (okK ls && inK ls.length i)]) ∧ ((okK ls && inK ls.length i) = true → LaysAt w' v2 (ls.eraseIdx i.toNat)) ∧ ((okK ls && inK ls.length i) = false → v2 = .slice none 0 0)) ∧ Below w.heap.size w w' := by
  have ca := fun w' hb => l8At_any v ls i w' (h.below (w' := w') hb) hn hx
  have co := fun (hk : okK ls = true) w' hb => l8Own_any v ls w' (h.below (w' := w') hb) (by have := (okK_parts hk).1; omega) (fun l hl => by
    have h2 := (okK_parts hk).2 l hl
    exact ⟨by have := (okD_parts h2).1; omega, fun e he => by have h3 := okE_size ((okD_parts h2).2.1 e he); exact ⟨by omega, ⟨by omega, by omega⟩⟩⟩)
  have h4 := fun (hk : okK ls = true) => (okK_parts hk).1
  obtain ⟨a, cap, rfl, hcap, _⟩ := h.cells
  obtain ⟨n, hnn⟩ : ∃ n, n = ls.length := ⟨_, rfl⟩
  rw [← hnn] at hn hcap ca co h4 ⊢
  obtain ⟨c, hc⟩ : ∃ c, c = (okK ls && inK n i) := ⟨_, rfl⟩
  rw [← hc] at ca ⊢
  unfold dV at ca co ⊢
  have CA := Lib.hid ca
  have CO := Lib.hid co
  have HC := Lib.hid hc
  have HN := Lib.hid hnn
  have H4 := Lib.hid h4
  clear h hnn hx ca co hc h4
  have q1 := (BoxV.new (w.alloc (.cells #[.slice a n cap] 26)) 26 (.slice none 0 0))
  rw [World.size_alloc] at q1
  have q0 := (BoxV.new w 26 (.slice a n cap)).below (below_al _ (.cells #[.slice none 0 0] 26)) (by simp)
  have Q0 := Lib.hid q0
  have Q1 := Lib.hid q1
  clear q0 q1
  cases c
  · clear CO
    go_enter Tryz.func52, Tryz.ntmps52
    go_wp2_with fail
    refine (CA.out _ (below_al2 _ _ _)).mono ?_
    rintro r w1 ⟨rfl, hb1⟩
    have R1 : Hid (BoxV w1 (w.heap.size + 1) 26 (.slice none 0 0)) := Q1.out.below hb1 Q1.out.lt
    have HB1 := Lib.hid ((below_al2 w _ _).trans (hb1.mono (by simp; omega)))
    have c1 := R1.out.cell
    have f1 := R1.out.frozen
    clear hb1
    go_wp2
    refine bodyPost_ret (results_st2 rfl _ _ (w.heap.size + 1) _ rfl (R1.out.set _)) rfl ?_
    exact ⟨⟨_, rfl, (fun h => by cases h), fun _ => rfl⟩, HB1.out.setCell (by show w.heap.size ≤ w.heap.size + 1; omega) _⟩
  · have hok : okK ls = true ∧ inK n i = true := by
      have := HC.out.symm
      rwa [Bool.and_eq_true] at this
    obtain ⟨k, rfl, hkn⟩ := inK_nat hok.2
    have CO1 := Lib.hid (CO.out hok.1)
    have hn4 := H4.out hok.1
    rw [Int.toNat_natCast]
    clear CO HC hok H4
    go_enter Tryz.func52, Tryz.ntmps52
    go_wp2_with fail
    refine (CA.out _ (below_al2 _ _ _)).mono ?_
    rintro r w1 ⟨rfl, hb1⟩
    have R1 : Hid (BoxV w1 (w.heap.size + 1) 26 (.slice none 0 0)) := Q1.out.below hb1 Q1.out.lt
    have R0 : Hid (BoxV w1 w.heap.size 26 (.slice a n cap)) := Q0.out.below hb1 Q0.out.lt
    have HB1 := Lib.hid ((below_al2 w _ _).trans (hb1.mono (by simp; omega)))
    have c0 := R0.out.cell
    clear hb1
    go_wp2_with fail
    refine (CO1.out _ HB1.out).mono ?_
    rintro r w2 ⟨⟨v2, us, rfl, hR, hmap⟩, hb2⟩
    have S1 : Hid (BoxV w2 (w.heap.size + 1) 26 (.slice none 0 0)) := R1.out.below hb2 R1.out.lt
    have HB2 := Lib.hid (HB1.out.trans (hb2.mono HB1.out.size))
    have hul : us.length = n := by rw [HN.out, ← hmap, List.length_map]
    rcases hR.parts with ⟨he, _⟩ | ⟨g, gcap, rfl, hgc, hgb, hgl, hgz, hgcell⟩
    · rw [he] at hul; simp at hul; omega
    have HD : Hid (∀ p ∈ us, (∀ W, Touch (fun b => b < w1.heap.size) w2 W → EntsAt W p.1 p.2.1) ∧ p.1.oneCell' = true) := fun p hp => by
      obtain ⟨lo, hi, h2, h3, _⟩ := hR.dic p hp
      exact ⟨fun W ht => h2 W (ht.mono fun b hb => .inl (by omega)), h2.one⟩
    obtain ⟨w3, hW⟩ : ∃ W, W = w2.alloc (.cells #[.slice (some ⟨g, 0, none⟩) n gcap] 26) := ⟨_, rfl⟩
    have hb23 : Below w2.heap.size w2 w3 := by rw [hW]; exact below_al _ _
    have c3 : w3.cell? ⟨w2.heap.size, 0, none⟩ = some (.slice (some ⟨g, 0, none⟩) n gcap) := by rw [hW]; exact (BoxV.new w2 26 _).cell
    have HCell : Hid (∀ W, Below w3.heap.size w3 W → ∀ j x, us[j]? = some x → W.cell? ⟨g, j * 2, none⟩ = some x.1 ∧ W.cell? ⟨g, j * 2 + 1, none⟩ = some (.bool x.2.2)) := by
      intro W hW j x hx
      obtain ⟨e0, e1⟩ := hgcell j x hx
      have hg3 : g < w3.heap.size := Nat.lt_of_lt_of_le hgl hb23.size
      exact ⟨(hW.cell (p := ⟨g, j * 2, none⟩) hg3).trans ((hb23.cell (p := ⟨g, j * 2, none⟩) hgl).trans e0), (hW.cell (p := ⟨g, j * 2 + 1, none⟩) hg3).trans ((hb23.cell (p := ⟨g, j * 2 + 1, none⟩) hgl).trans e1)⟩
    have S3 : Hid (BoxV w3 (w.heap.size + 1) 26 (.slice none 0 0)) := S1.out.below hb23 S1.out.lt
    have HB3 := Lib.hid (HB2.out.trans (hb23.mono HB2.out.size))
    have HB23 := Lib.hid hb23
    have HW3 := Lib.hid hW
    have HMap := Lib.hid hmap
    have HUL := Lib.hid hul
    rw [hul] at hgc ⊢
    have kc := cell_regrown c3
    clear hb2 hR hmap hW c0 hgz hgcell hb23 hul c3
    go_wp2_with fail
    rw [← HW3.out]
    have hkg : k ≤ gcap := by omega
    have hkn1 : (k : Int) + 1 ≤ (n : Int) := by omega
    have htn : ((k : Int) + 1).toNat = k + 1 := by omega
    by_cases hg1 : gcap = k + 1
    · have hnk : n = k + 1 := by omega
      subst hg1
      subst hnk
      have hbA : Below w3.heap.size w3 (w3.drew.alloc (.cells #[] 36)) := (below_drew1 (Below.refl w3.heap.size w3)).alloc (Nat.le_refl _) _
      have HGA : Hid (∃ p : Regrown, w3.drew.alloc (.cells #[] 36) = Go.Sort.grow (redrawn w3 p.d) p.os) := regrown_of_below hbA
      have HBA := Lib.hid hbA
      have HLt : Hid (k = (us.take k).length) := Lib.hid (by rw [List.length_take, HUL.out]; omega)
      have HCt : Hid (∀ W, Below w3.heap.size w3 W → ∀ j x, (us.take k)[j]? = some x → W.cell? ⟨g, 0 + j * 2, none⟩ = some x.1 ∧ W.cell? ⟨g, 0 + j * 2 + 1, none⟩ = some (.bool x.2.2)) := by
        intro W hW j x hx
        rw [Nat.zero_add]
        exact HCell.out W hW j x (by rw [List.getElem?_take] at hx; split at hx; exact hx; cases hx)
      have HOt : Hid (∀ x ∈ us.take k, x.1.oneCell' = true) := fun x hx => (HD.out x (List.mem_of_mem_take hx)).2
      clear hbA
      refine Mx.wp_region_mixed (Mx.ofL [(1, 0), (2, 1), (3, 0), (4, 0), (6, 0), (7, 1), (8, 0), (9, 0), (10, 0), (0, 2), (5, 2), (11, 3), (12, 0), (13, 3), (14, 0)] .done) (by kernel_rfl) (by kernel_rfl) ?_
      repeat ((first | refine Mx.mix0 rfl ?_ | refine Mx.mix1 rfl ?_); go_big_quiet_step (fail); refine wpQuiet_nil ?_)
      refine Mx.mix2 rfl ?_
      go_wp2
      refine Mx.mid_normal (fun _ => HGA.out) ?_
      refine Mx.mix2 rfl ?_
      refine app_layO (w0 := w3) (.tmp 14) (.tmp 18) rfl rfl _ 0 0 [] rfl g 0 k (us.take k) (k + 1) rfl HLt.out HCt.out HOt.out (by omega) (by omega) (rowL_new w3.drew _) HBA.out ?_
      intro g1 cap1 w5 hown1 hb5 _
      rw [Nat.zero_add] at hown1 ⊢
      rw [List.nil_append] at hown1
      have HO5 := Lib.hid hown1
      have HB5 := Lib.hid hb5
      have HG5 := Lib.hid (regrown_of_below hb5)
      clear hown1 hb5
      refine Mx.mid_normal (fun _ => HG5.out) ?_
      refine Mx.mix3 rfl ?_
      refine app_layO (w0 := w3) (.tmp 19) (.tmp 24) rfl rfl g1 k cap1 (us.take k) rfl g 0 0 [] _ rfl rfl (fun W _ j x hj => by simp at hj) (fun x hx => by cases hx) (by omega) (by omega) HO5.out HB5.out ?_
      intro g2 cap2 w6 hown2 hb6 _
      have HO6 := Lib.hid hown2
      have HB6 := Lib.hid hb6
      have S6 : Hid (BoxV w6 (w.heap.size + 1) 26 (.slice none 0 0)) := S3.out.below hb6 S3.out.lt
      have s6 := S6.out.cell
      have f6 := S6.out.frozen
      clear hown2 hb6
      refine Mx.mid_normal (fun q => by cases q) ?_
      go_frame
      refine Mx.mix0 rfl ?_
      go_big_quiet_step (fail)
      refine wpQuiet_nil ?_
      refine Mx.mix3 rfl ?_
      go_wp2
      refine Mx.mid_normal (fun q => by cases q) ?_
      refine Mx.mix0 rfl ?_
      go_big_quiet_step (fail)
      refine wpQuiet_nil ?_
      refine Mx.mix_nil ?_
      go_wp2
      have hlen2 : k + 0 = (us.take k ++ []).length := by rw [List.append_nil, ← HLt.out]; rfl
      refine bodyPost_ret (results_st2 rfl _ _ (w.heap.size + 1) _ rfl (S6.out.set _)) rfl ?_
      refine ⟨⟨_, rfl, fun _ => ?_, fun h => by cases h⟩, (HB3.out.trans (HB6.out.mono HB3.out.size)).setCell (by show w.heap.size ≤ w.heap.size + 1; omega) _⟩
      have hB1 := HB1.out.size
      have hR1 := R1.out.lt
      have hb36 := HB23.out.trans (HB6.out.mono HB23.out.size)
      have hs36 := HB3.out.size
      have hs23 := HB23.out.size
      have hs2 := HB2.out.size
      have hgr : w6.grownBy (w6.setCell ⟨w.heap.size + 1, 0, none⟩ (.slice (some ⟨g2, 0, none⟩) (k + 0) cap2)) (some (w.heap.size + 1)) := Lib.grownBy_setB (⟨rfl, rfl, rfl, Nat.le_refl _, fun _ _ _ => rfl⟩ : w6.grownBy w6 (some (w.heap.size + 1))) 0 _
      have ht : Touch (fun b => b < w1.heap.size) w2 (w6.setCell ⟨w.heap.size + 1, 0, none⟩ (.slice (some ⟨g2, 0, none⟩) (k + 0) cap2)) := ((Touch.of_below hb36).mono (fun _ (q : False) => q.elim)).setCell (by show w.heap.size + 1 < w1.heap.size; exact hR1) _ _
      have hlt6 := HO6.out.lt g2 rfl
      have hown := HO6.out.kept hgr (.inr fun e => by have : w.heap.size + 1 = g2 ∨ g2 = w.heap.size + 1 := by simpa [Value.ownBlock, eq_comm] using e
                                                      omega)
      have hat := laysAt_rowN (us := us.take k ++ []) (base := w3.heap.size) hown hlen2 (fun p hp => (HD.out p (by
        rcases List.mem_append.1 hp with hp | hp
        · exact List.mem_of_mem_take hp
        · cases hp)).1 _ ht)
      have hle : (us.take k ++ []).map (fun p : Value × Lay => p.2) = ls.eraseIdx k := by
        rw [← HMap.out, List.eraseIdx_eq_take_drop_succ, ← List.map_take, ← List.map_drop, ← List.map_append, List.drop_of_length_le (by rw [HUL.out]; omega)]
      rw [hle] at hat
      exact hat
    · have hg2 : ¬ gcap = k + 1 := hg1
      have hbA : Below w3.heap.size w3 (w3.drew.alloc (.cells #[] 36)) := (below_drew1 (Below.refl w3.heap.size w3)).alloc (Nat.le_refl _) _
      have HGA : Hid (∃ p : Regrown, w3.drew.alloc (.cells #[] 36) = Go.Sort.grow (redrawn w3 p.d) p.os) := regrown_of_below hbA
      have HBA := Lib.hid hbA
      have HLt : Hid (k = (us.take k).length) := Lib.hid (by rw [List.length_take, HUL.out]; omega)
      have HCt : Hid (∀ W, Below w3.heap.size w3 W → ∀ j x, (us.take k)[j]? = some x → W.cell? ⟨g, 0 + j * 2, none⟩ = some x.1 ∧ W.cell? ⟨g, 0 + j * 2 + 1, none⟩ = some (.bool x.2.2)) := by
        intro W hW j x hx
        rw [Nat.zero_add]
        exact HCell.out W hW j x (by rw [List.getElem?_take] at hx; split at hx; exact hx; cases hx)
      have HOt : Hid (∀ x ∈ us.take k, x.1.oneCell' = true) := fun x hx => (HD.out x (List.mem_of_mem_take hx)).2
      have HLd : Hid (n - (k + 1) = (us.drop (k + 1)).length) := Lib.hid (by rw [List.length_drop, HUL.out])
      have HCd : Hid (∀ W, Below w3.heap.size w3 W → ∀ j x, (us.drop (k + 1))[j]? = some x → W.cell? ⟨g, (k + 1) * 2 + j * 2, none⟩ = some x.1 ∧ W.cell? ⟨g, (k + 1) * 2 + j * 2 + 1, none⟩ = some (.bool x.2.2)) := by
        intro W hW j x hx
        rw [show (k + 1) * 2 + j * 2 = (k + 1 + j) * 2 by omega]
        exact HCell.out W hW (k + 1 + j) x (by rw [List.getElem?_drop] at hx; exact hx)
      have HOd : Hid (∀ x ∈ us.drop (k + 1), x.1.oneCell' = true) := fun x hx => (HD.out x (List.mem_of_mem_drop hx)).2
      clear hbA
      refine Mx.wp_region_mixed (Mx.ofL [(1, 0), (2, 1), (3, 0), (4, 0), (6, 0), (7, 1), (8, 0), (9, 0), (10, 0), (0, 2), (5, 2), (11, 3), (12, 0), (13, 3), (14, 0)] .done) (by kernel_rfl) (by kernel_rfl) ?_
      repeat ((first | refine Mx.mix0 rfl ?_ | refine Mx.mix1 rfl ?_); go_big_quiet_step (fail); refine wpQuiet_nil ?_)
      refine Mx.mix2 rfl ?_
      go_wp2
      refine Mx.mid_normal (fun _ => HGA.out) ?_
      refine Mx.mix2 rfl ?_
      refine app_layO (w0 := w3) (.tmp 14) (.tmp 18) rfl rfl _ 0 0 [] rfl g 0 k (us.take k) gcap rfl HLt.out HCt.out HOt.out (by omega) (by omega) (rowL_new w3.drew _) HBA.out ?_
      intro g1 cap1 w5 hown1 hb5 _
      rw [Nat.zero_add] at hown1 ⊢
      rw [List.nil_append] at hown1
      have HO5 := Lib.hid hown1
      have HB5 := Lib.hid hb5
      have HG5 := Lib.hid (regrown_of_below hb5)
      clear hown1 hb5
      refine Mx.mid_normal (fun _ => HG5.out) ?_
      refine Mx.mix3 rfl ?_
      refine app_layO (w0 := w3) (.tmp 19) (.tmp 24) rfl rfl g1 k cap1 (us.take k) rfl g ((k + 1) * 2) (n - (k + 1)) (us.drop (k + 1)) (gcap - (k + 1)) rfl HLd.out HCd.out HOd.out (by omega) (by omega) HO5.out HB5.out ?_
      intro g2 cap2 w6 hown2 hb6 _
      have HO6 := Lib.hid hown2
      have HB6 := Lib.hid hb6
      have S6 : Hid (BoxV w6 (w.heap.size + 1) 26 (.slice none 0 0)) := S3.out.below hb6 S3.out.lt
      have s6 := S6.out.cell
      have f6 := S6.out.frozen
      clear hown2 hb6
      refine Mx.mid_normal (fun q => by cases q) ?_
      go_frame
      refine Mx.mix0 rfl ?_
      go_big_quiet_step (fail)
      refine wpQuiet_nil ?_
      refine Mx.mix3 rfl ?_
      go_wp2
      refine Mx.mid_normal (fun q => by cases q) ?_
      refine Mx.mix0 rfl ?_
      go_big_quiet_step (fail)
      refine wpQuiet_nil ?_
      refine Mx.mix_nil ?_
      go_wp2
      have hlen2 : k + (n - (k + 1)) = (us.take k ++ (us.drop (k + 1))).length := by rw [List.length_append, ← HLt.out, ← HLd.out]
      refine bodyPost_ret (results_st2 rfl _ _ (w.heap.size + 1) _ rfl (S6.out.set _)) rfl ?_
      refine ⟨⟨_, rfl, fun _ => ?_, fun h => by cases h⟩, (HB3.out.trans (HB6.out.mono HB3.out.size)).setCell (by show w.heap.size ≤ w.heap.size + 1; omega) _⟩
      have hB1 := HB1.out.size
      have hR1 := R1.out.lt
      have hb36 := HB23.out.trans (HB6.out.mono HB23.out.size)
      have hs36 := HB3.out.size
      have hs23 := HB23.out.size
      have hs2 := HB2.out.size
      have hgr : w6.grownBy (w6.setCell ⟨w.heap.size + 1, 0, none⟩ (.slice (some ⟨g2, 0, none⟩) (k + (n - (k + 1))) cap2)) (some (w.heap.size + 1)) := Lib.grownBy_setB (⟨rfl, rfl, rfl, Nat.le_refl _, fun _ _ _ => rfl⟩ : w6.grownBy w6 (some (w.heap.size + 1))) 0 _
      have ht : Touch (fun b => b < w1.heap.size) w2 (w6.setCell ⟨w.heap.size + 1, 0, none⟩ (.slice (some ⟨g2, 0, none⟩) (k + (n - (k + 1))) cap2)) := ((Touch.of_below hb36).mono (fun _ (q : False) => q.elim)).setCell (by show w.heap.size + 1 < w1.heap.size; exact hR1) _ _
      have hlt6 := HO6.out.lt g2 rfl
      have hown := HO6.out.kept hgr (.inr fun e => by have : w.heap.size + 1 = g2 ∨ g2 = w.heap.size + 1 := by simpa [Value.ownBlock, eq_comm] using e
                                                      omega)
      have hat := laysAt_rowN (us := us.take k ++ (us.drop (k + 1))) (base := w3.heap.size) hown hlen2 (fun p hp => (HD.out p (by
        rcases List.mem_append.1 hp with hp | hp
        · exact List.mem_of_mem_take hp
        · exact List.mem_of_mem_drop hp)).1 _ ht)
      have hle : (us.take k ++ (us.drop (k + 1))).map (fun p : Value × Lay => p.2) = ls.eraseIdx k := by
        rw [← HMap.out, List.eraseIdx_eq_take_drop_succ, ← List.map_take, ← List.map_drop, ← List.map_append]
      rw [hle] at hat
      exact hat
end Go.Proofs.YtpalpbpamcaakaaGreat
