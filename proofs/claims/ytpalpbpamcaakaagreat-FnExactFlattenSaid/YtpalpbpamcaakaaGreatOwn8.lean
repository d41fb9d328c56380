/-
  A STACK's own copy by the specification (l8Own), l8At, SetEnabled of the specification.
-/
import Derived.Test.YtpalpbpamcaakaaGreatStk
import Derived.Test.YtpalpbpamcaakaaGreatDictE
import Derived.Test.YtpalpbpamcaakaaGreatRev
namespace Go.Proofs.YtpalpbpamcaakaaGreat
set_option maxRecDepth 100000
open Go.RowKit

theorem EntsAt.m {w : World} {v : Value} {es : List Ent} (h : EntsAt w v es) (h0 : ∀ e ∈ es, 0 < e.1.length) : EntsM w v es := by
  obtain ⟨a, cap, hv, hc, h⟩ := h
  refine ⟨a, cap, hv, hc, ?_⟩
  rcases h with h | ⟨bk, o, ha, hk, h⟩
  · exact .inl h
  · refine .inr ⟨bk, o, ha, hk, fun j e he => ?_⟩
    obtain ⟨u, c0, c1, c2⟩ := h j e he
    exact ⟨u, c0, c1, c2.m (h0 e (List.mem_of_getElem? he))⟩
theorem Rows.touch {T : Nat → Prop} {w w' : World} {base : Nat} {v : Value} {us : List (Value × Ent)} (h : Rows w base v us) (ht : Touch T w w') (hT : ∀ b, base ≤ b → b < w.heap.size → ¬ T b) : Rows w' base v us := by
  refine ⟨⟨h.row.1, ?_⟩, fun p hp => ⟨(h.ints p hp).1.touch ht fun b hb => hT b ((h.ints p hp).2 b hb).1 (intsM_block (h.ints p hp).1 b hb), (h.ints p hp).2⟩⟩
  rcases h.row.2 with h1 | ⟨g, cap, cur, hv, hbg, hg, r⟩
  · exact .inl h1
  · exact .inr ⟨g, cap, cur, hv, hbg, ht.block hg (hT g hbg (Array.getElem?_eq_some_iff.1 hg).1), r⟩
/-- A dictionary that lies in the blocks from lo on and below hi. -/
def DicP (w : World) (lo hi : Nat) (u : Value) (es : List Ent) : Prop := ∀ w', Touch (fun b => b < lo ∨ hi ≤ b) w w' → EntsAt w' u es
theorem DicP.touch {T : Nat → Prop} {w w1 : World} {lo hi : Nat} {u : Value} {es : List Ent} (h : DicP w lo hi u es) (ht : Touch T w w1) (hT : ∀ b, T b → b < lo ∨ hi ≤ b) : DicP w1 lo hi u es :=
  fun w' h' => h w' ((ht.mono hT).trans h')
theorem DicP.at {w : World} {lo hi : Nat} {u : Value} {es : List Ent} (h : DicP w lo hi u es) : EntsAt w u es := h w (Touch.refl _ w)
theorem Rows.dicP {w : World} {lo : Nat} {u : Value} {us : List (Value × Ent)} {es : List Ent} (h : Rows w lo u us) (he : us.map (·.2) = es) : DicP w lo w.heap.size u es := by
  intro w' ht
  have := (h.touch ht (fun b h1 h2 h3 => by omega)).at.at
  rwa [he] at this
/-- The cells of layers. -/
def lyCells (us : List (Value × Lay)) : List Value := us.flatMap fun p => [p.1, .bool p.2.2]
theorem lyCells_snoc (us : List (Value × Lay)) (p : Value × Lay) : lyCells (us ++ [p]) = lyCells us ++ [p.1, .bool p.2.2] := by unfold lyCells; rw [List.flatMap_append]; rfl
theorem lyCells_len (us : List (Value × Lay)) : (lyCells us).length = us.length * 2 := by
  induction us with
  | nil => rfl
  | cons e us ih =>
    show ([e.1, .bool e.2.2] ++ lyCells us : List Value).length = _
    rw [List.length_append, ih, List.length_cons]; simp; omega
theorem lyCells_at (us : List (Value × Lay)) : ∀ (j : Nat) (p : Value × Lay), us[j]? = some p → (lyCells us)[j * 2]? = some p.1 ∧ (lyCells us)[j * 2 + 1]? = some (.bool p.2.2) := by
  induction us with
  | nil => intro j e h; simp at h
  | cons x us ih =>
    intro j e h
    have hx : lyCells (x :: us) = x.1 :: .bool x.2.2 :: lyCells us := rfl
    rw [hx]
    cases j with
    | zero => simp at h; subst h; exact ⟨rfl, rfl⟩
    | succ j =>
      obtain ⟨h0, h1⟩ := ih j e (by simpa using h)
      rw [show (j + 1) * 2 = j * 2 + 1 + 1 by omega]
      exact ⟨h0, h1⟩
/-- v is a row of its own that holds layers; their dictionaries lie from 'base' on, outside of the row. -/
structure LRows (w : World) (base : Nat) (v : Value) (us : List (Value × Lay)) : Prop where
  row : w.ownsRow base 36 2 v us.length (lyCells us)
  dic : ∀ p ∈ us, ∃ lo hi, DicP w lo hi p.1 p.2.1 ∧ base ≤ lo ∧ hi ≤ w.heap.size ∧ ∀ b, v.ownBlock = some b → b < lo ∨ hi ≤ b
theorem LRows.nil (w : World) (base : Nat) : LRows w base (.slice none 0 0) [] := ⟨World.ownsRow_nil _ _ _ _, fun p hp => by simp at hp⟩
theorem LRows.form {w : World} {base : Nat} {v : Value} {us : List (Value × Lay)} (h : LRows w base v us) : ∃ a c, v = .slice a us.length c := by
  rcases h.row.2 with ⟨rfl, h0⟩ | ⟨g, cap, cur, rfl, _⟩
  · exact ⟨_, _, by rw [h0]⟩
  · exact ⟨_, _, rfl⟩
theorem LRows.form1 {w : World} {base : Nat} {v : Value} {us : List (Value × Lay)} {p : Value × Lay} (h : LRows w base v (us ++ [p])) : ∃ a c, v = .slice a (us.length + 1) c := by
  obtain ⟨a, c, hv⟩ := h.form
  rw [List.length_append] at hv
  exact ⟨a, c, hv⟩
theorem LRows.below {w w' : World} {base : Nat} {v : Value} {us : List (Value × Lay)} (h : LRows w base v us) (hb : Below w.heap.size w w') : LRows w' base v us := by
  refine ⟨h.row.kept (row := none) ⟨hb.os, hb.tape, hb.output, hb.size, fun k hk _ => hb.block k hk⟩ ?_, fun p hp => ?_⟩
  · cases hv : v.ownBlock <;> simp
  · obtain ⟨lo, hi, h1, h2, h3, h4⟩ := h.dic p hp
    exact ⟨lo, hi, h1.touch (T := fun _ => False) (Touch.of_below hb) (fun _ q => q.elim), h2, Nat.le_trans h3 hb.size, h4⟩
theorem LRows.mono {w : World} {b b' : Nat} {v : Value} {us : List (Value × Lay)} (h : LRows w b v us) (hb : b' ≤ b) : LRows w b' v us :=
  ⟨ownsRow_mono h.row hb, fun p hp => by obtain ⟨lo, hi, h1, h2, h3⟩ := h.dic p hp; exact ⟨lo, hi, h1, Nat.le_trans hb h2, h3⟩⟩
theorem LRows.setCell {w : World} {base : Nat} {v : Value} {us : List (Value × Lay)} (h : LRows w base v us) {B o : Nat} {x : Value} (hB : B < base) : LRows (w.setCell ⟨B, o, none⟩ x) base v us := by
  have hg : w.grownBy (w.setCell ⟨B, o, none⟩ x) (some B) := grown_setC w B o x
  have hrow : v.ownBlock = none ∨ v.ownBlock ≠ some B := by
    cases hv : v.ownBlock with
    | none => exact .inl rfl
    | some k => right; intro e; injection e with e; have := (h.row.lt k hv).1; omega
  refine ⟨h.row.kept hg hrow, fun p hp => ?_⟩
  obtain ⟨lo, hi, h1, h2, h3, h4⟩ := h.dic p hp
  exact ⟨lo, hi, h1.touch (T := fun b => b = B) (Touch.grown hg (fun k e => (Option.some.inj e).symm)) (fun b e => by omega), h2, by rw [World.size_setCell]; exact h3, h4⟩
/-- Where the row lies, and what it holds. -/
theorem LRows.parts {w : World} {base : Nat} {v : Value} {us : List (Value × Lay)} (h : LRows w base v us) : (us = [] ∧ v = .slice none 0 0) ∨ ∃ g cap, v = .slice (some ⟨g, 0, none⟩) us.length cap ∧ us.length ≤ cap ∧ base ≤ g ∧ g < w.heap.size ∧ (∀ j, w.frozen? ⟨g, j, none⟩ = false) ∧
    ∀ j p, us[j]? = some p → w.cell? ⟨g, j * 2, none⟩ = some p.1 ∧ w.cell? ⟨g, j * 2 + 1, none⟩ = some (.bool p.2.2) := by
  rcases h.row.2 with ⟨rfl, h0⟩ | ⟨g, cap, cur, rfl, hbg, hg, hn, hcm, hsz, htake⟩
  · exact .inl ⟨List.length_eq_zero_iff.1 h0, rfl⟩
  · have hlt : g < w.heap.size := (Array.getElem?_eq_some_iff.1 hg).1
    refine .inr ⟨g, cap, rfl, hn, hbg, hlt, fun j => by unfold World.frozen?; simp only [hg]; simp, fun j p hp => ?_⟩
    have hpl := (List.getElem?_eq_some_iff.1 hp).1
    obtain ⟨h0, h1⟩ := lyCells_at us j p hp
    have hc : ∀ q x, (lyCells us)[q]? = some x → w.cell? ⟨g, q, none⟩ = some x := by
      intro q x hq
      have hql : q < us.length * 2 := by
        rcases Nat.lt_or_ge q (us.length * 2) with h' | h'
        · exact h'
        · rw [List.getElem?_eq_none (by rw [lyCells_len]; exact h')] at hq; cases hq
      rw [← htake, List.getElem?_take_of_lt hql] at hq
      simp only [Array.getElem?_toList] at hq
      simp [World.cell?, hg, hq]
    exact ⟨hc _ _ h0, hc _ _ h1⟩
theorem LRows.at {w : World} {base : Nat} {v : Value} {us : List (Value × Lay)} (h : LRows w base v us) : LaysAt w v (us.map (·.2)) := by
  have hlen : (us.map (·.2)).length = us.length := List.length_map _
  rcases h.parts with ⟨rfl, rfl⟩ | ⟨g, cap, rfl, hn, _, hlt, _, hc⟩
  · exact LaysAt.nil _ _ _
  · refine ⟨some ⟨g, 0, none⟩, cap, by rw [hlen], by rw [hlen]; exact hn, .inr ⟨g, 0, rfl, hlt, fun j e hj => ?_⟩⟩
    rw [List.getElem?_map] at hj
    obtain ⟨p, hp, rfl⟩ := Option.map_eq_some_iff.1 hj
    obtain ⟨h0, h1⟩ := hc j p hp
    obtain ⟨lo, hi, h2, _⟩ := h.dic p (List.mem_of_getElem? hp)
    rw [Nat.zero_add]
    exact ⟨p.1, h0, h1, h2.at⟩
/-- What an append to the row leaves. -/
theorem LRows.push {w w' : World} {base : Nat} {v v' u : Value} {us : List (Value × Lay)} {l : Lay} {o : Obj} (h : LRows w base v us) {lo hi : Nat} (hu : DicP w lo hi u l.1) (hlo : base ≤ lo) (hhi : hi ≤ w.heap.size) (hout : ∀ b, v.ownBlock = some b → b < lo ∨ hi ≤ b)
    (hown : w'.ownsRow base 36 2 v' (us ++ [(u, l)]).length (lyCells (us ++ [(u, l)]))) (hg : (w.alloc o).grownBy w' v.ownBlock) (hat : v'.ownBlock = v.ownBlock ∨ v'.ownBlock = some (w.heap.size + 1)) : LRows w' base v' (us ++ [(u, l)]) := by
  have ht : Touch (fun b => v.ownBlock = some b) w w' := ((Touch.refl _ w).alloc o).trans (Touch.grown hg fun k e => e)
  have key : ∀ (u : Value) (es : List Ent), (∃ lo hi, DicP w lo hi u es ∧ base ≤ lo ∧ hi ≤ w.heap.size ∧ ∀ b, v.ownBlock = some b → b < lo ∨ hi ≤ b) → ∃ lo hi, DicP w' lo hi u es ∧ base ≤ lo ∧ hi ≤ w'.heap.size ∧ ∀ b, v'.ownBlock = some b → b < lo ∨ hi ≤ b := by
    intro u es ⟨lo, hi, h1, h2, h3, h4⟩
    refine ⟨lo, hi, h1.touch ht h4, h2, Nat.le_trans h3 ht.1, fun b hb => ?_⟩
    rcases hat with hat | hat
    · exact h4 b (hat ▸ hb)
    · rw [hat] at hb
      injection hb with hb
      omega
  refine ⟨hown, fun p hp => ?_⟩
  rcases List.mem_append.1 hp with hp | hp
  · exact key _ _ (h.dic p hp)
  · have : p = (u, l) := by simpa using hp
    subst this
    exact key _ _ ⟨lo, hi, hu, hlo, hhi, hout⟩
theorem DicP.one {w : World} {lo hi : Nat} {u : Value} {es : List Ent} (h : DicP w lo hi u es) : u.oneCell' = true := by obtain ⟨c, d, e, _⟩ := h.at.cells; rw [e]; rfl
/-- One layer appended. -/
theorem push_lay {ops : Array Oper} {rest : List Oper} {o : Oper} {a : Act} {w : World} {Q : Exit → Act → World → Prop} (hgd : o.guard = none)
    (p q : Operand) (ho : o.op = .call { callee := .builtin .append, args := #[p, q], argTypes := #[24, 24] }) (base : Nat) (v : Value) (us : List (Value × Lay)) (hs : a.eval p = v) (R : LRows w base v us)
    (u : Value) (l : Lay) {lo hi : Nat} (hu : DicP w lo hi u l.1) (hlo : base ≤ lo) (hhi : hi ≤ w.heap.size) (hout : ∀ b, v.ownBlock = some b → b < lo ∨ hi ≤ b) (hq : a.eval q = .slice (some ⟨w.heap.size, 0, none⟩) 1 1) (hb : base ≤ w.heap.size) (h1 : us.length ≤ 1048576)
    (h : ∀ v' w', LRows w' base v' (us ++ [(u, l)]) → (w.alloc (.cells #[u, .bool l.2] 36)).grownBy w' v.ownBlock → (v'.ownBlock = v.ownBlock ∨ v'.ownBlock = some (w.heap.size + 1)) → wpList Tryz.prog ops Q rest (a.put o.dst v') w') :
    wpList Tryz.prog ops Q (o :: rest) a (w.alloc (.cells #[u, .bool l.2] 36)) := by
  refine wpList_plain hgd fun _ hK => ?_
  obtain ⟨i0, hi0, hz0, hz1, hz2⟩ := info_parts infoLy
  refine wp_append_lies _ p q 24 ho base 36 i0 (.agg #[.slice none 0 0, .bool false]) 2 32 Tryz.underlying24 hi0 hz0 hz1 hz2 rfl (by decide) v us.length _ hs (R.row.alloc _) ⟨w.heap.size, 0, none⟩ 1 1 [u, .bool l.2] hq rfl (cell_two _ _ _ _) ?_ (by decide) (by unfold maxLen; omega) (by omega) (by simp; omega) (w.heap.size + 1) (by simp) ?_
  · intro y hy; simp at hy; rcases hy with rfl | rfl
    · exact hu.one
    · rfl
  · intro g cap w' hown hg hat _
    have hat' : (Value.slice (some ⟨g, 0, none⟩) (us.length + 1) cap).ownBlock = v.ownBlock ∨ (Value.slice (some ⟨g, 0, none⟩) (us.length + 1) cap).ownBlock = some (w.heap.size + 1) := by
      rcases hat with h2 | h2
      · exact .inl h2.symm
      · exact .inr (by rw [h2]; rfl)
    refine hK _ _ (h _ w' (R.push hu hlo hhi hout ?_ hg hat') hg hat')
    show World.ownsRow _ _ _ _ _ _ _
    rw [lyCells_snoc, List.length_append]; exact hown

set_option maxHeartbeats 4000000 in
theorem l8Own_any (v : Value) (ls : List Lay) (w : World) (h : LaysAt w v ls) (hn : ls.length ≤ 1000) (hx : ∀ l ∈ ls, l.1.length ≤ 1000 ∧ ∀ e ∈ l.1, 0 < e.1.length ∧ entOk e) :
    Calls Tryz.prog 80 #[dV v] w fun r w' => (∃ v' us, r = .returned (dV v') ∧ LRows w' w.heap.size v' us ∧ us.map (·.2) = ls) ∧ Below w.heap.size w w' := by
  obtain ⟨a, cap, rfl, hcap, hC⟩ := h.cells
  have co := fun v es w (h : EntsAt w v es) hn hx (h0 : ∀ e ∈ es, 0 < e.1.length) => l6Own_any v es w (h.m h0) hn hx
  unfold dV at co
  have CO := Lib.hid co
  have HX := Lib.hid (fun k e (h : ls[k]? = some e) => hx e (List.mem_of_getElem? h))
  obtain ⟨n, hnn⟩ : ∃ n, n = ls.length := ⟨_, rfl⟩
  rw [← hnn] at hn hcap ⊢
  have HN := Lib.hid hnn
  have HC := Lib.hid hC
  clear h hnn hC hx co
  unfold dV
  go_enter Tryz.func80, Tryz.ntmps80
  go_wp2_with fail
  go_loopw [4] (fun i wr => ∃ (k : Nat) (v : Value) (us : List (Value × Lay)), i = .int .i64 k ∧ k ≤ n ∧ Hid (BoxV wr w.heap.size 26 (.slice a n cap)) ∧ Hid (BoxV wr (w.heap.size + 1) 26 (.slice none 0 0)) ∧ Hid (BoxV wr (w.heap.size + 1 + 1) 26 v) ∧
      Hid (LRows wr (w.heap.size + 3) v us) ∧ Hid (us.map (·.2) = ls.take k) ∧ Hid (Below w.heap.size w wr)) (fun i _ => n - (intOf i).toNat)
  case atStart =>
    obtain ⟨q0, q1, q2⟩ := boxes3 w (.slice a n cap) (.slice none 0 0) (.slice none 0 0) 26 26 26
    exact ⟨0, _, [], rfl, Nat.zero_le _, q0, q1, q2, LRows.nil _ _, Lib.hid rfl, below_al3 _ _ _ _⟩
  case round =>
    obtain ⟨k, v, us, rfl, hk, HB0, HB1, HB2, HR, HM, HB⟩ := hrel
    have hbox := HB0.out.cell
    have hout := HB2.out.cell
    have hfz := HB2.out.frozen
    have hszr : w.heap.size + 1 + 1 < wr.heap.size := HB2.out.lt
    by_cases hlt : k < n
    · obtain ⟨e, he⟩ : ∃ e, ls[k]? = some e := ⟨_, List.getElem?_eq_getElem (by rw [← HN.out]; exact hlt)⟩
      obtain ⟨bk, o, u, rfl, hbk, g0, g1, gi⟩ := HC.out wr HB.out k e he
      have hxe := HX.out k e he
      obtain ⟨xs, t⟩ := e
      obtain ⟨hxe1, hxe2⟩ := hxe
      simp only at g0 g1 gi hxe1 hxe2
      have co1 := CO.out u xs wr.drew (gi.below (below_drewN (Below.refl _ _) 1)) hxe1 (fun e he => (hxe2 e he).2) (fun e he => (hxe2 e he).1)
      have HM1 : Hid (∀ u1, (us ++ [(u1, ((xs, t) : Lay))]).map (fun x : Value × Lay => x.2) = ls.take (k + 1)) := by
        intro u1
        rw [List.map_append, HM.out, List.take_add_one, he]; rfl
      have hul : us.length ≤ 1000 := by
        have := congrArg List.length HM.out
        rw [List.length_map, List.length_take] at this
        omega
      have HSw := Lib.hid hszr
      obtain ⟨ua, ucap, rfl, _, _⟩ := gi.cells
      obtain ⟨m, hm⟩ : ∃ m, m = xs.length := ⟨_, rfl⟩
      rw [← hm] at g0 co1
      have CO1 := Lib.hid co1
      clear he gi HC HM CO HX co1 hm hxe1 hxe2
      go_wp2_with fail
      have kb := cell_regrown hbox
      have ko := cell_regrown hout
      have k0 := cell_regrown g0
      have k1 := cell_regrown g1
      refine Mx.wp_region_mixed (Mx.ofL [(0, 0), (1, 1), (2, 0), (3, 1), (4, 0), (5, 0), (6, 0), (7, 1), (9, 0), (10, 1), (11, 0), (12, 0), (13, 0), (14, 1), (8, 2), (15, 0), (16, 2), (17, 3), (18, 0), (19, 3)] .done) (by kernel_rfl) (by kernel_rfl) ?_
      repeat ((first | refine Mx.mix0 rfl ?_ | refine Mx.mix1 rfl ?_); go_big_quiet_step (fail); refine wpQuiet_nil ?_)
      refine Mx.mix2 rfl ?_
      go_wp2_with fail
      refine CO1.out.mono ?_
      rintro r w1 ⟨⟨u1, us1, rfl, hown, hmap⟩, hb1⟩
      have Bw : Below wr.heap.size wr w1 := (below_drewN (Below.refl _ _) 1).trans hb1
      have X0 : Hid (BoxV w1 w.heap.size 26 (.slice (some ⟨bk, o, none⟩) n cap)) := HB0.out.below Bw HB0.out.lt
      have X1 : Hid (BoxV w1 (w.heap.size + 1) 26 (.slice none 0 0)) := HB1.out.below Bw HB1.out.lt
      have X2 : Hid (BoxV w1 (w.heap.size + 1 + 1) 26 v) := HB2.out.below Bw HSw.out
      have XB : Hid (Below w.heap.size w w1) := HB.out.trans (Bw.mono HB.out.size)
      have U1 : Hid (DicP w1 wr.heap.size w1.heap.size u1 xs) := hown.dicP hmap
      have R1 : Hid (LRows w1 (w.heap.size + 3) v us) := HR.out.below Bw
      have VB : Hid (∀ b, v.ownBlock = some b → b < wr.heap.size ∨ w1.heap.size ≤ b) := fun b hb => .inl (HR.out.row.lt b hb).2
      have hs1 : w.heap.size + 3 ≤ w1.heap.size := by have := Bw.size; omega
      have HG := Lib.hid (regrown_of_below Bw)
      have HG2 : ∀ o, Hid (∃ p : Regrown, w1.alloc o = Go.Sort.grow (redrawn wr p.d) p.os) := fun o => regrown_of_below (Bw.trans ((below_al w1 o).mono Bw.size))
      obtain ⟨ub1, uc1, hu1, _, _⟩ := U1.out.at.cells
      obtain ⟨m1, hm1⟩ : ∃ m1, m1 = xs.length := ⟨_, rfl⟩
      rw [← hm1] at hu1
      subst hu1
      clear hown hb1 Bw hmap hm1
      go_wp2
      refine Mx.mid_normal (fun _ => HG.out) ?_
      repeat ((first | refine Mx.mix0 rfl ?_ | refine Mx.mix1 rfl ?_); go_big_quiet_step (fail); refine wpQuiet_nil ?_)
      refine Mx.mix2 rfl ?_
      go_wp2
      refine Mx.mid_normal (fun _ => (HG2 _).out) ?_
      refine Mx.mix3 rfl ?_
      refine push_lay rfl (.tmp 14) (.tmp 29) rfl (w.heap.size + 3) v us rfl R1.out _ (xs, t) U1.out (by omega) (Nat.le_refl _) VB.out rfl hs1 (by omega) ?_
      intro v' w2 R2 hg2 hat2
      have Y0 : Hid (BoxV w2 w.heap.size 26 (.slice (some ⟨bk, o, none⟩) n cap)) := (X0.out.below (below_al _ _) X0.out.lt).grown hg2 (fun e => by have := (R1.out.row.lt _ e.symm).1; omega)
      have Y1 : Hid (BoxV w2 (w.heap.size + 1) 26 (.slice none 0 0)) := (X1.out.below (below_al _ _) X1.out.lt).grown hg2 (fun e => by have := (R1.out.row.lt _ e.symm).1; omega)
      have Y2 : Hid (BoxV w2 (w.heap.size + 1 + 1) 26 v) := (X2.out.below (below_al _ _) X2.out.lt).grown hg2 (fun e => by have := (R1.out.row.lt _ e.symm).1; omega)
      have YB : Hid (Below w.heap.size w w2) := (XB.out.trans ((below_al w1 _).mono XB.out.size)).grown hg2 (by have := XB.out.size; simp; omega) (fun b e => by have := (R1.out.row.lt b e).1; omega)
      have c2 := Y2.out.cell
      have z2 := Y2.out.frozen
      obtain ⟨va', vc', rfl⟩ := R2.form1
      clear hat2 hg2
      refine Mx.mid_normal (fun q => by cases q) ?_
      simp only [Act.put, List.setIfInBounds_toArray, List.set_cons_zero, List.set_cons_succ]
      repeat ((first | refine Mx.mix0 rfl ?_ | refine Mx.mix1 rfl ?_); go_big_quiet_step (fail); refine wpQuiet_nil ?_)
      refine Mx.mix3 rfl ?_
      go_wp2
      refine Mx.mid_normal (fun q => by cases q) (Mx.mix_nil ?_)
      go_wp2
      go_roundw
      case rel => exact ⟨k + 1, _, us ++ [(_, (xs, t))], by go_num, by omega, Y0.out.other (by omega), Y1.out.other (by omega), Y2.out.set _, R2.setCell (by omega), HM1.out _, YB.out.setCell (by show w.heap.size ≤ w.heap.size + 1 + 1; omega) _⟩
      case measure => simp [intOf]; omega
    · obtain rfl : k = n := by omega
      have HF : Hid (us.map (·.2) = ls) := by show us.map (·.2) = ls; rw [HM.out, List.take_of_length_le (by rw [← HN.out]; exact Nat.le_refl _)]
      have hres := HB1.out.cell
      have hrfz := HB1.out.frozen
      clear HM
      obtain ⟨va, vc, rfl⟩ := HR.out.form
      go_wp2
      refine bodyPost_ret (results_cell_row rfl _ _ _ _ _ _ _ rfl (HB1.out.set _) Tryz.underlying26 rfl (by kernel_rfl)) rfl ?_
      exact ⟨⟨_, us, rfl, (HR.out.setCell (by omega)).mono (by omega), HF.out⟩, HB.out.setCell (by show w.heap.size ≤ w.heap.size + 1; omega) _⟩
end Go.Proofs.YtpalpbpamcaakaaGreat
