/-
  CONTRACTS of chapter 6: ReverseLookup, of the specification and of the program.
-/
import Derived.Test.YtmpcdhoigepdpaaImpl6E
import Derived.Test.YtmpcdhoigepdpaaDictL
namespace Go.Proofs.Ytmpcdhoigepdpaa
set_option maxRecDepth 100000
open Go.RowKit

set_option maxHeartbeats 1000000 in
theorem LongestD_any (v : Value) (es : List Ent) (w : World) (h : EntsAt w v es) (hn : es.length ≤ 2097152) (hx : ∀ e ∈ es, entOk e) :
    Calls Try.prog 12 #[dV v] w fun r w' => r = lngE es ∧ Below w.heap.size w w' := by
  have c := fun w' hb => ValidD_any v es w' (h.below (w' := w') hb) hn hx
  obtain ⟨a, cap, rfl, hcap, hC⟩ := h.cells
  cases hg : okD es
  · rw [hg] at c
    rw [lngE_no hg]
    have C := Lib.hid c
    clear c h hx hg hC
    unfold dV at C ⊢
    go_enter Try.func12, Try.ntmps12
    go_wp2_with fail
    refine (C.out _ (below_al _ _)).mono ?_
    rintro r w1 ⟨rfl, hb⟩
    have HB := Lib.hid (below_box hb)
    clear hb
    go_wp2
    go_ret2
    exact ⟨rfl, HB.out⟩
  · rw [hg] at c
    rw [lngE_yes hg]
    have C := Lib.hid c
    obtain ⟨n, hnn⟩ : ∃ n, n = es.length := ⟨_, rfl⟩
    unfold dV at C ⊢
    rw [← hnn] at hn hcap C ⊢
    have HN := Lib.hid hnn
    have HC := Lib.hid hC
    clear c h hx hg hC hnn
    go_enter Try.func12, Try.ntmps12
    go_wp2_with fail
    refine (C.out _ (below_al _ _)).mono ?_
    rintro r w1 ⟨rfl, hb⟩
    have hbox := box1 hb
    have HB := Lib.hid (below_box hb)
    clear hb C
    go_wp2_with fail
    go_loopw [4, 13] (fun x i wr => ∃ k m : Nat, i = .int .i64 k ∧ k ≤ n ∧ x = .int .i64 m ∧ Hid (m = lng (es.take k)) ∧ Hid (Below w.heap.size w wr)) (fun _ i _ => n - (intOf i).toNat)
    case atStart => exact ⟨0, 0, rfl, Nat.zero_le _, rfl, Lib.hid rfl, HB⟩
    case round =>
      obtain ⟨k, m, rfl, hk, rfl, HM, HBr⟩ := hrel
      by_cases hlt : k < n
      · obtain ⟨e, he⟩ : ∃ e, es[k]? = some e := ⟨_, List.getElem?_eq_getElem (by rw [← HN.out]; exact hlt)⟩
        obtain ⟨bk, o, uk, rfl, hbk, g0, g1, gi⟩ := HC.out wr HBr.out k e he
        obtain ⟨xs, t⟩ := e
        simp only at g0 g1 gi
        obtain ⟨ua, ucap, rfl, _, _⟩ := gi.cells
        have HM2 : Hid (max m xs.length = lng (es.take (k + 1))) := by
          have := lng_next he
          show max m xs.length = _
          rw [this, HM.out]
        have HB2 : Hid (Below w.heap.size w (wr.alloc (.cells #[.slice ua xs.length ucap, .string t] 39))) := HBr.out.trans ((below_al wr _).mono HBr.out.size)
        clear he gi HM HC
        go_wp2
        go_roundw
        case rel => exact ⟨k + 1, max m xs.length, by go_num, by omega, by rw [show ((max m xs.length : Nat) : Int) = max (m : Int) (xs.length : Int) by omega], HM2, HB2⟩
        case measure => simp [intOf]; omega
      · obtain rfl : k = n := by omega
        have HF : Hid ((m : Int) = (lng es : Int)) := by
          show (m : Int) = _
          rw [HM.out, List.take_of_length_le (by rw [← HN.out]; exact Nat.le_refl _)]
        clear HM
        go_wp2
        go_ret2
        exact ⟨by rw [HF.out]; rfl, HBr.out⟩
end Go.Proofs.Ytmpcdhoigepdpaa

namespace Go.Proofs.Ytmpcdhoigepdpaa
set_option maxRecDepth 100000
open Go.RowKit

/-- A slice of the outlines os. -/
def OutsAt (w : World) (v : Value) (os : List (List Int)) : Prop :=
  ∃ (a : Option Addr) (cap : Nat), v = .slice a os.length cap ∧ os.length ≤ cap ∧ (os = [] ∨ ∃ bk o, a = some ⟨bk, o, none⟩ ∧ bk < w.heap.size ∧ ∀ (j : Nat) xs, os[j]? = some xs →
    ∃ u, w.cell? ⟨bk, o + j, none⟩ = some u ∧ IntsAt w u xs)
theorem OutsAt.below {w w' : World} {v : Value} {os : List (List Int)} (h : OutsAt w v os) (hb : Below w.heap.size w w') : OutsAt w' v os := by
  obtain ⟨a, cap, hv, hc, h⟩ := h
  refine ⟨a, cap, hv, hc, ?_⟩
  rcases h with h | ⟨bk, o, ha, hk, h⟩
  · exact .inl h
  · refine .inr ⟨bk, o, ha, Nat.lt_of_lt_of_le hk hb.size, fun j e he => ?_⟩
    obtain ⟨u, h0, h2⟩ := h j e he
    exact ⟨u, (hb.cell (p := ⟨bk, o + j, none⟩) hk).trans h0, h2.below hb⟩
theorem OutsAt.nil (w : World) (a : Option Addr) (cap : Nat) : OutsAt w (.slice a 0 cap) [] := ⟨a, cap, rfl, Nat.zero_le _, .inl rfl⟩
/-- The cells of a slice of outlines, in every later world. -/
def OutCells (w : World) (a : Option Addr) (os : List (List Int)) : Prop :=
  ∀ w1 : World, Below w.heap.size w w1 → ∀ (j : Nat) xs, os[j]? = some xs → ∃ bk o u, a = some ⟨bk, o, none⟩ ∧ bk < w.heap.size ∧ w1.cell? ⟨bk, o + j, none⟩ = some u ∧ IntsAt w1 u xs
theorem OutsAt.cells {w : World} {v : Value} {os : List (List Int)} (h : OutsAt w v os) : ∃ a cap, v = .slice a os.length cap ∧ os.length ≤ cap ∧ OutCells w a os := by
  obtain ⟨a, cap, rfl, hc, h⟩ := h
  refine ⟨a, cap, rfl, hc, fun w1 hb j e he => ?_⟩
  rcases h with rfl | ⟨bk, o, ha, hk, h⟩
  · simp at he
  · obtain ⟨u, h0, h2⟩ := h j e he
    exact ⟨bk, o, u, ha, hk, (hb.cell (p := ⟨bk, o + j, none⟩) hk).trans h0, h2.below hb⟩

/-! ### Rows of outlines of one's own, appended to -/
theorem infoOut : (Try.prog.info? 36).map (fun i => (i.zero, i.size, i.bytes)) = some (some (.slice none 0 0), 1, 24) := by kernel_rfl
/-- v is a row of its own of outlines that are own memory each, apart from one another. -/
structure RowO (w : World) (base : Nat) (v : Value) (us : List (Value × List Int)) : Prop where
  row : w.ownsRow base 36 1 v us.length (us.map (·.1))
  own : ∀ (j : Nat) (p : Value × List Int), us[j]? = some p → OwnInts w base p.1 p.2.length (fun i => p.2.getD i 0)
  off : ∀ (j : Nat) (p : Value × List Int), us[j]? = some p → 0 < p.2.length → ∀ b, p.1.ownBlock = some b → v.ownBlock ≠ some b
  apart : ∀ (i j : Nat) (p q : Value × List Int), us[i]? = some p → us[j]? = some q → i ≠ j → 0 < p.2.length → 0 < q.2.length → p.1.ownBlock ≠ q.1.ownBlock
theorem RowO.nil (w : World) (base : Nat) : RowO w base (.slice none 0 0) [] := ⟨World.ownsRow_nil _ _ _ _, fun j p h => by simp at h, fun j p h => by simp at h, fun i j p q h => by simp at h⟩
theorem RowO.empty (w : World) : RowO (w.alloc (.cells #[] 36)) w.heap.size (.slice (some ⟨w.heap.size, 0, none⟩) 0 0) [] := ⟨row_new w _, fun j p h => by simp at h, fun j p h => by simp at h, fun i j p q h => by simp at h⟩
theorem RowO.below {w w' : World} {base : Nat} {v : Value} {us : List (Value × List Int)} (h : RowO w base v us) (hb : Below w.heap.size w w') : RowO w' base v us :=
  ⟨row_below h.row hb, fun j p hj => (h.own j p hj).below hb, h.off, h.apart⟩
theorem RowO.form {w : World} {base : Nat} {v : Value} {us : List (Value × List Int)} (h : RowO w base v us) : ∃ a c, v = .slice a us.length c := by
  rcases h.row.2 with ⟨rfl, h0⟩ | ⟨g, cap, cur, rfl, _⟩
  · exact ⟨_, _, by rw [h0]⟩
  · exact ⟨_, _, rfl⟩
theorem RowO.at {w : World} {base : Nat} {v : Value} {us : List (Value × List Int)} (h : RowO w base v us) : OutsAt w v (us.map (·.2)) := by
  have hlen : (us.map (·.2)).length = us.length := List.length_map _
  rcases h.row.2 with ⟨rfl, h0⟩ | ⟨g, cap, cur, rfl, hbg, hg, hn, hcm, hsz, htake⟩
  · have : us = [] := List.length_eq_zero_iff.1 h0
    subst this
    exact OutsAt.nil _ _ _
  · have hlt : g < w.heap.size := (Array.getElem?_eq_some_iff.1 hg).1
    refine ⟨some ⟨g, 0, none⟩, cap, by rw [hlen], by rw [hlen]; exact hn, .inr ⟨g, 0, rfl, hlt, fun j e hj => ?_⟩⟩
    rw [List.getElem?_map] at hj
    obtain ⟨p, hp, rfl⟩ := Option.map_eq_some_iff.1 hj
    have hjl := (List.getElem?_eq_some_iff.1 hp).1
    refine ⟨p.1, ?_, (h.own j p hp).ints⟩
    have h1 : (cur.toList.take (us.length * 1))[j]? = some p.1 := by rw [htake, List.getElem?_map, hp]; rfl
    rw [List.getElem?_take_of_lt (by omega)] at h1
    simp only [Array.getElem?_toList] at h1
    simp [World.cell?, hg, h1]
/-- One outline appended to an own row, at a plain list. -/
theorem push_out {ops : Array Oper} {rest : List Oper} {o : Oper} {a : Act} {w w0 : World} {Q : Exit → Act → World → Prop} (hgd : o.guard = none)
    (p q : Operand) (ho : o.op = .call { callee := .builtin .append, args := #[p, q], argTypes := #[29, 29] }) (base : Nat) (v : Value) (us : List (Value × List Int)) (hs : a.eval p = v) (R : RowO w0 base v us) (hbw : Below w0.heap.size w0 w)
    (u : Value) (xs : List Int) (hu : OwnInts w w0.heap.size u xs.length (fun i => xs.getD i 0)) (hq : a.eval q = .slice (some ⟨w.heap.size, 0, none⟩) 1 1) (hb : base ≤ w0.heap.size) (h1 : us.length ≤ 1048576)
    (h : ∀ v' w', RowO w' base v' (us ++ [(u, xs)]) → (w.alloc (.cells #[u] 36)).grownBy w' v.ownBlock → wpList Try.prog ops Q rest (a.put o.dst v') w') :
    wpList Try.prog ops Q (o :: rest) a (w.alloc (.cells #[u] 36)) := by
  obtain ⟨i0, hi, hz0, hz1, hz2⟩ := info_parts infoOut
  have hsz := hbw.size
  have R1 := R.below hbw
  have hvl : ∀ b, v.ownBlock = some b → b < w0.heap.size := fun b hb' => (R.row.lt b hb').2
  refine wpList_append_own_at _ hgd p q 29 ho base 36 i0 (.slice none 0 0) 1 24 Try.underlying29 hi hz0 hz1 hz2 rfl (by decide) v us.length _ hs (R1.row.alloc _) ⟨w.heap.size, 0, none⟩ 1 1 [u] hq rfl (cell_one_new _ _ _) ?_ (by unfold maxLen; omega) (by omega) (by simp; omega) ?_
  · intro y hy; simp at hy; subst hy
    rcases hu with ⟨_, a', c', rfl⟩ | ⟨g, c', rfl, _⟩ <;> rfl
  · intro v' w' hown' hg _ hat
    have ht : Touch (fun b => v.ownBlock = some b) w w' := ((Touch.refl _ w).alloc _).trans (Touch.grown hg fun k e => e)
    have hnew : ∀ b, 0 < xs.length → u.ownBlock = some b → w0.heap.size ≤ b ∧ b < w.heap.size := fun b h0 hb' => ⟨hu.ge h0 hb', hu.lt h0 b hb'⟩
    have hold : ∀ (j : Nat) (p : Value × List Int), us[j]? = some p → 0 < p.2.length → ∀ b, p.1.ownBlock = some b → b < w0.heap.size := fun j p hj h0 b hb' => (R.own j p hj).lt h0 b hb'
    have hat' : v'.ownBlock = v.ownBlock ∨ v'.ownBlock = some (w.heap.size + 1) := by
      rcases hat with h2 | h2
      · exact .inl h2
      · exact .inr (by rw [h2, World.size_alloc])
    have hget : ∀ (j : Nat) (x : Value × List Int), (us ++ [(u, xs)])[j]? = some x → (j = us.length ∧ x = (u, xs)) ∨ (j < us.length ∧ us[j]? = some x) := by
      intro j x hj
      rcases Nat.lt_or_ge j us.length with hl | hl
      · rw [List.getElem?_append_left hl] at hj; exact .inr ⟨hl, hj⟩
      · rw [List.getElem?_append_right hl] at hj
        have : j - us.length = 0 := by
          rcases Nat.eq_zero_or_pos (j - us.length) with h0 | h0
          · exact h0
          · rw [List.getElem?_eq_none (by simp; omega)] at hj; cases hj
        rw [this] at hj
        exact .inl ⟨by omega, by simpa using hj.symm⟩
    refine h v' w' ⟨?_, fun j p hj => ?_, fun j p hj h0 b hb' => ?_, fun i j p q hi hj hij h0 h1 => ?_⟩ hg
    · rw [List.length_append, List.map_append]; exact hown'
    · rcases hget j p hj with ⟨rfl, rfl⟩ | ⟨hl, hj⟩
      · refine (hu.touch ht fun h0 b hb' e => ?_).mono hb
        have := hnew b h0 hb'
        have := hvl b e
        omega
      · exact (R1.own j p hj).touch ht fun h0 b hb' e => R.off j p hj h0 b hb' e
    · rcases hget j p hj with ⟨rfl, rfl⟩ | ⟨hl, hj⟩
      · have h3 := hnew b h0 hb'
        rcases hat' with h2 | h2
        · rw [h2]; intro e; have := hvl b e; omega
        · rw [h2]; intro e; injection e with e; omega
      · rcases hat' with h2 | h2
        · rw [h2]; exact R.off j p hj h0 b hb'
        · rw [h2]; intro e; injection e with e; have := hold j p hj h0 b hb'; omega
    · have key : ∀ (j : Nat) (q : Value × List Int), us[j]? = some q → 0 < q.2.length → 0 < xs.length → u.ownBlock ≠ q.1.ownBlock := by
        intro j q hj h1 h0 e
        cases hu' : u.ownBlock with
        | none =>
          rcases hu with ⟨hz, _⟩ | ⟨g', cap, rfl, _⟩
          · omega
          · simp [Value.ownBlock] at hu'
        | some b =>
          have h2 := hnew b h0 hu'
          have h3 := hold j q hj h1 b (by rw [← e, hu'])
          omega
      rcases hget i p hi with ⟨rfl, rfl⟩ | ⟨hl, hi⟩
      · rcases hget j q hj with ⟨rfl, rfl⟩ | ⟨hl', hj⟩
        · exact absurd rfl hij
        · exact key j q hj h1 h0
      · rcases hget j q hj with ⟨rfl, rfl⟩ | ⟨hl', hj⟩
        · exact fun e => key i p hi h0 h1 e.symm
        · exact R.apart i j p q hi hj hij h0 h1
end Go.Proofs.Ytmpcdhoigepdpaa

namespace Go.Proofs.Ytmpcdhoigepdpaa
set_option maxRecDepth 100000
open Go.RowKit

/-- The outlines whose text is t. -/
def revL (t : ByteArray) (es : List Ent) : List (List Int) := (es.filter fun e => e.2.toList == t.toList).map (·.1)
theorem revL_yes {t : ByteArray} {es : List Ent} {k : Nat} {e : Ent} (h : es[k]? = some e) (ht : (e.2.toList == t.toList) = true) : revL t (es.take (k + 1)) = revL t (es.take k) ++ [e.1] := by
  unfold revL; rw [List.take_add_one, h, Option.toList_some, List.filter_append, List.map_append]; simp [List.filter, ht]
theorem revL_no {t : ByteArray} {es : List Ent} {k : Nat} {e : Ent} (h : es[k]? = some e) (ht : (e.2.toList == t.toList) = false) : revL t (es.take (k + 1)) = revL t (es.take k) := by
  unfold revL; rw [List.take_add_one, h, Option.toList_some, List.filter_append, List.map_append]; simp [List.filter, ht]
theorem revL_len (t : ByteArray) (es : List Ent) : (revL t es).length ≤ es.length := by unfold revL; rw [List.length_map]; exact List.length_filter_le _ _
theorem revL_mem {t : ByteArray} {es : List Ent} {xs : List Int} (h : xs ∈ revL t es) : ∃ e ∈ es, e.1 = xs := by
  unfold revL at h
  obtain ⟨e, he, rfl⟩ := List.mem_map.1 h
  exact ⟨e, (List.mem_filter.1 he).1, rfl⟩
/-- What ReverseLookup answers. -/
def revO (t : ByteArray) (es : List Ent) : List (List Int) := if okD es = true then revL t es else []
theorem revO_no {t : ByteArray} {es : List Ent} (h : okD es = false) : revO t es = [] := by unfold revO; rw [h]; rfl
theorem revO_yes {t : ByteArray} {es : List Ent} (h : okD es = true) : revO t es = revL t es := by unfold revO; rw [h]; rfl
theorem revO_len (t : ByteArray) (es : List Ent) : (revO t es).length ≤ 40 := by
  cases h : okD es
  · rw [revO_no h]; exact Nat.zero_le _
  · rw [revO_yes h]; exact Nat.le_trans (revL_len t es) (okD_parts h).1
theorem revO_small (t : ByteArray) (es : List Ent) : ∀ xs ∈ revO t es, xs.length ≤ 6 := by
  cases h : okD es
  · rw [revO_no h]; intro xs hx; simp at hx
  · rw [revO_yes h]; intro xs hx
    obtain ⟨e, he, rfl⟩ := revL_mem hx
    exact (okE_size ((okD_parts h).2.1 e he)).2.1
/-- An answer of outlines of its own and a flag. -/
def OutR (base : Nat) (w' : World) (os : List (List Int)) (b : Bool) (e : Ending) : Prop := ∃ u us, e = .returned (.tuple #[u, .bool b]) ∧ RowO w' base u us ∧ us.map (·.2) = os
theorem IntsAt.m {w : World} {u : Value} {xs : List Int} (h : IntsAt w u xs) (h0 : 0 < xs.length) : IntsM w u xs := by
  obtain ⟨bk, o, cap, rfl, hc, hk, hcell⟩ := h.block h0
  exact .inr ⟨bk, o, cap, rfl, hc, hk, hcell⟩
theorem OwnInts.ofRow {w : World} {base : Nat} {v : Value} {xs : List Int} (h : w.ownsRow base 3 1 v xs.length (xs.map (.int .i64))) : OwnInts w base v xs.length (fun j => xs.getD j 0) := ownInts_of h
/-- The library's copy of a slice of ints. -/
theorem clone_any (u : Value) (xs : List Int) (w : World) (h : IntsAt w u xs) (h0 : 0 < xs.length) (hn : xs.length ≤ 2097152) :
    Calls Try.prog 39 #[u] w fun e w' => (∃ v, e = .returned v ∧ OwnInts w' w.heap.size v xs.length (fun j => xs.getD j 0)) ∧ Below w.heap.size w w' := by
  obtain ⟨bk, o, cap, rfl, hc, hk, hcell⟩ := h.block h0
  refine (Try.slices_Clone_int bk o xs.length cap xs w (Nat.le_refl _) (by omega) (fun j hj => ?_)).mono ?_
  · rw [hcell j _ (List.getElem?_eq_getElem hj)]; simp [List.getD, List.getElem?_eq_getElem hj]
  · rintro e w' ⟨v, rfl, hown, _, hb⟩
    rw [List.take_length] at hown
    exact ⟨⟨v, rfl, ownInts_of hown⟩, hb⟩
set_option maxHeartbeats 2000000 in
theorem Rev_any (v : Value) (es : List Ent) (t : ByteArray) (w : World) (h : EntsAt w v es) (hn : es.length ≤ 2097152) (hx : ∀ e ∈ es, entOk e) :
    Calls Try.prog 10 #[dV v, .string t] w fun r w' => OutR w.heap.size w' (revO t es) (okD es) r ∧ Below w.heap.size w w' := by
  have c := fun w' hb => ValidD_any v es w' (h.below (w' := w') hb) hn hx
  obtain ⟨a, cap, rfl, hcap, hC⟩ := h.cells
  cases hg : okD es
  · rw [hg] at c
    rw [revO_no hg]
    have C := Lib.hid c
    have HN : Hid (∀ w', OutR w.heap.size w' [] false (.returned (.tuple #[.slice none 0 0, .bool false]))) := fun w' => ⟨_, [], rfl, RowO.nil _ _, rfl⟩
    clear c h hx hg hC
    unfold dV at C ⊢
    go_enter Try.func10, Try.ntmps10
    go_wp2_with fail
    refine (C.out _ (below_al _ _)).mono ?_
    rintro r w1 ⟨rfl, hb⟩
    have HB := Lib.hid (below_box hb)
    clear hb
    go_wp2
    go_ret2
    exact ⟨HN.out _, HB.out⟩
  · rw [hg] at c
    rw [revO_yes hg]
    obtain ⟨h40, hoks, _⟩ := okD_parts hg
    have HX := Lib.hid (fun k e (h : es[k]? = some e) => okE_size (hoks e (List.mem_of_getElem? h)))
    have C := Lib.hid c
    have CC := Lib.hid (fun u xs w h h0 hn => clone_any u xs w h h0 hn)
    obtain ⟨n, hnn⟩ : ∃ n, n = es.length := ⟨_, rfl⟩
    unfold dV at C ⊢
    rw [← hnn] at hn hcap h40 C ⊢
    have HN := Lib.hid hnn
    have HC := Lib.hid hC
    clear c h hx hg hC hoks hnn
    go_enter Try.func10, Try.ntmps10
    go_wp2_with fail
    refine (C.out _ (below_al _ _)).mono ?_
    rintro r w1 ⟨rfl, hb⟩
    have hbox := box1 hb
    have HB := Lib.hid (below_box hb)
    clear hb C
    go_wp2_with fail
    go_loopw [6, 15] (fun x i wr => ∃ (k : Nat) (us : List (Value × List Int)), i = .int .i64 k ∧ k ≤ n ∧ Hid (RowO wr w.heap.size x us) ∧ Hid (us.map (·.2) = revL t (es.take k)) ∧ Hid (Below w.heap.size w wr)) (fun _ i _ => n - (intOf i).toNat)
    case atStart => exact ⟨0, [], rfl, Nat.zero_le _, RowO.nil _ _, Lib.hid rfl, HB⟩
    case round =>
      obtain ⟨k, us, rfl, hk, HR, HM, HBr⟩ := hrel
      by_cases hlt : k < n
      · obtain ⟨e, he⟩ : ∃ e, es[k]? = some e := ⟨_, List.getElem?_eq_getElem (by rw [← HN.out]; exact hlt)⟩
        obtain ⟨bk, o, uk, rfl, hbk, g0, g1, gi⟩ := HC.out wr HBr.out k e he
        obtain ⟨hx1, hx2, _⟩ := HX.out k e he
        obtain ⟨W0, hW0⟩ : ∃ W0, W0 = wr.alloc (.cells #[uk, .string e.2] 39) := ⟨_, rfl⟩
        have hbW : Below wr.heap.size wr W0 := by rw [hW0]; exact below_al wr _
        have E0 : BoxW W0 wr.heap.size 39 uk (.string e.2) := by rw [hW0]; exact BoxW.new wr _ _ _
        have HR0 := Lib.hid (HR.out.below hbW)
        have HB0 := Lib.hid (below_step HBr.out hbW)
        have HCl := Lib.hid (CC.out uk e.1 W0 (gi.below hbW) (by omega) (by omega))
        have hul : us.length ≤ 1000 := by
          have h1 := congrArg List.length HM.out
          have h2 := revL_len t (es.take k)
          rw [List.length_map] at h1
          rw [List.length_take] at h2
          omega
        obtain ⟨ua, ucap, rfl⟩ := HR.out.form
        obtain ⟨ea, ecap, rfl, _, _⟩ := gi.cells
        have HY : Hid ((e.2.toList == t.toList) = true → revL t (es.take (k + 1)) = revL t (es.take k) ++ [e.1]) := fun h => revL_yes he h
        have HZ : Hid ((e.2.toList == t.toList) = false → revL t (es.take (k + 1)) = revL t (es.take k)) := fun h => revL_no he h
        obtain ⟨xs, ts⟩ := e
        simp only at HCl HY HZ g0 g1 hW0 E0
        have e0 := E0.cell0
        have e1 := E0.cell1
        have HW0 := Lib.hid hW0
        clear he gi hW0 E0 hbW
        cases hq : (ts.toList == t.toList)
        · have HZ1 := Lib.hid (HZ.out hq)
          have HM1 : Hid (us.map (·.2) = revL t (es.take (k + 1))) := by show us.map (·.2) = _; rw [HZ1.out]; exact HM.out
          have HBa : Hid (Below w.heap.size w (wr.alloc (.cells #[.slice ea xs.length ecap, .string ts] 39))) := by rw [← HW0.out]; exact HB0.out
          have HRa : Hid (RowO (wr.alloc (.cells #[.slice ea xs.length ecap, .string ts] 39)) w.heap.size (.slice ua us.length ucap) us) := by rw [← HW0.out]; exact HR0.out
          clear HY HZ HZ1 HM HCl HB0 HR0 e0 e1 HW0
          go_wp2
          go_roundw
          case rel => exact ⟨k + 1, us, by go_num, by omega, HRa, HM1, HBa⟩
          case measure => simp [intOf]; omega
        · have HY1 := Lib.hid (HY.out hq)
          have HCa : Hid (Calls Try.prog 39 #[.slice ea xs.length ecap] (wr.alloc (.cells #[.slice ea xs.length ecap, .string ts] 39)) fun e w' => (∃ v, e = .returned v ∧ OwnInts w' W0.heap.size v xs.length (fun j => xs.getD j 0)) ∧ Below W0.heap.size W0 w') := by rw [← HW0.out]; exact HCl.out
          clear HY HZ HCl e0 e1
          go_wp2_with fail
          refine HCa.out.mono ?_
          rintro r w2 ⟨⟨v2, rfl, hv2⟩, hb2⟩
          obtain ⟨va, vc, hvf⟩ := hv2.form
          have HV2 := Lib.hid hv2
          have HB2 := Lib.hid hb2
          have HVf := Lib.hid hvf
          subst hvf
          have HBx : Hid (Below w.heap.size w w2) := below_step HB0.out hb2
          have hb0 : w.heap.size ≤ W0.heap.size := HB0.out.size
          clear hv2 hb2 HCa HW0
          go_wp2_with (at_builtin; refine push_out rfl (.tmp 23) (.tmp 27) rfl w.heap.size _ us rfl HR0.out HB2.out _ xs HV2.out rfl hb0 (by omega) ?_)
          intro v' w3 R3 hg3
          have HR3 := Lib.hid R3
          have HB3 : Hid (Below w.heap.size w w3) := (HBx.out.trans ((below_al w2 _).mono HBx.out.size)).grown hg3 (by simp; have := HBx.out.size; omega) (fun b e => (HR0.out.row.lt b e).1)
          have HM3 : Hid ((us ++ [(Value.slice va xs.length vc, xs)]).map (fun x : Value × List Int => x.2) = revL t (es.take (k + 1))) := by
            show List.map _ _ = _
            rw [HY1.out, List.map_append, HM.out]; rfl
          obtain ⟨v'a, v'c, rfl⟩ := R3.form
          clear R3 hg3 HR0 HB2 HV2 HBx HM HY1
          go_wp2
          go_roundw
          case rel => exact ⟨k + 1, _, by go_num, by omega, HR3, HM3, HB3⟩
          case measure => simp [intOf]; omega
      · obtain rfl : k = n := by omega
        have HM1 : Hid (us.map (·.2) = revL t es) := by
          show us.map (·.2) = _
          rw [HM.out, List.take_of_length_le (by rw [← HN.out]; exact Nat.le_refl _)]
        clear HM
        go_wp2
        go_ret2
        exact ⟨⟨_, us, rfl, HR.out, HM1.out⟩, HBr.out⟩
set_option maxHeartbeats 2000000 in
theorem specRev_any (v : Value) (es : List Ent) (t : ByteArray) (w : World) (h : EntsAt w v es) (hn : es.length ≤ 2097152) (hx : ∀ e ∈ es, entOk e) :
    Calls Try.prog 11 #[dV v, .string t] w fun r w' => (∃ u, r = .returned (.tuple #[u, .bool (okD es)]) ∧ OutsAt w' u (revO t es)) ∧ Below w.heap.size w w' := by
  have c := fun w' hb => l6Good_any v es w' (h.below (w' := w') hb) hn hx
  obtain ⟨a, cap, rfl, hcap, hC⟩ := h.cells
  cases hg : okD es
  · rw [hg] at c
    rw [revO_no hg]
    have C := Lib.hid c
    have HN : Hid (∀ w' b cap, OutsAt w' (.slice b 0 cap) []) := fun w' b cap => OutsAt.nil _ _ _
    clear c h hx hg hC
    unfold dV at C ⊢
    go_enter Try.func11, Try.ntmps11
    go_wp2_with fail
    refine (C.out _ (below_al2 _ _ _)).mono ?_
    rintro r w1 ⟨rfl, hb⟩
    have HB := Lib.hid ((below_al2 w _ _).trans (hb.mono (by simp; omega)))
    clear hb
    go_wp2
    go_ret2
    exact ⟨⟨_, rfl, HN.out _ _ _⟩, HB.out⟩
  · rw [hg] at c
    rw [revO_yes hg]
    obtain ⟨h40, hoks, _⟩ := okD_parts hg
    have HX := Lib.hid (fun k e (h : es[k]? = some e) => okE_size (hoks e (List.mem_of_getElem? h)))
    have C := Lib.hid c
    have CO := Lib.hid (fun u xs w h hn => l1Own_any u xs w h hn)
    obtain ⟨n, hnn⟩ : ∃ n, n = es.length := ⟨_, rfl⟩
    unfold dV at C ⊢
    rw [← hnn] at hn hcap h40 C ⊢
    have HN := Lib.hid hnn
    have HC := Lib.hid hC
    clear c h hx hg hC hoks hnn
    go_enter Try.func11, Try.ntmps11
    go_wp2_with fail
    refine (C.out _ (below_al2 _ _ _)).mono ?_
    rintro r w1 ⟨rfl, hb⟩
    have hbx : BoxV w1 w.heap.size 26 (.slice a n cap) := ((BoxV.new w _ _).below (below_al _ _) (by simp)).below hb (by simp; omega)
    have HX1 := Lib.hid hbx
    have hbox := hbx.cell
    have HB := Lib.hid ((below_al2 w _ _).trans (hb.mono (by simp; omega)))
    have HR1 : Hid (RowO w1 (w.heap.size + 1) (.slice (some ⟨w.heap.size + 1, 0, none⟩) 0 0) []) := by
      have h1 := RowO.empty (w.alloc (.cells #[.slice a n cap] 26))
      rw [World.size_alloc] at h1
      have h2 := h1.below hb
      exact ⟨h2.row, fun j p h => by simp at h, fun j p h => by simp at h, fun i j p q h => by simp at h⟩
    clear hb C hbx
    go_wp2_with fail
    go_loopw [6, 7] (fun x i wr => ∃ (k : Nat) (us : List (Value × List Int)), i = .int .i64 k ∧ k ≤ n ∧ Hid (RowO wr (w.heap.size + 1) x us) ∧ Hid (us.map (·.2) = revL t (es.take k)) ∧ Hid (BoxV wr w.heap.size 26 (.slice a n cap)) ∧ Hid (Below w.heap.size w wr)) (fun _ i _ => n - (intOf i).toNat)
    case atStart => exact ⟨0, [], rfl, Nat.zero_le _, HR1, Lib.hid rfl, HX1, HB⟩
    case round =>
      obtain ⟨k, us, rfl, hk, HR, HM, HXr, HBr⟩ := hrel
      have cx := HXr.out.cell
      by_cases hlt : k < n
      · obtain ⟨e, he⟩ : ∃ e, es[k]? = some e := ⟨_, List.getElem?_eq_getElem (by rw [← HN.out]; exact hlt)⟩
        obtain ⟨bk, o, uk, rfl, hbk, g0, g1, gi⟩ := HC.out wr HBr.out k e he
        obtain ⟨hx1, hx2, _⟩ := HX.out k e he
        have HCl := Lib.hid (CO.out uk e.1 wr (gi.m (by omega)) (by omega))
        have hul : us.length ≤ 1000 := by
          have h1 := congrArg List.length HM.out
          have h2 := revL_len t (es.take k)
          rw [List.length_map] at h1
          rw [List.length_take] at h2
          omega
        obtain ⟨ua, ucap, rfl⟩ := HR.out.form
        obtain ⟨ea, ecap, rfl, _, _⟩ := gi.cells
        have HY : Hid ((e.2.toList == t.toList) = true → revL t (es.take (k + 1)) = revL t (es.take k) ++ [e.1]) := fun h => revL_yes he h
        have HZ : Hid ((e.2.toList == t.toList) = false → revL t (es.take (k + 1)) = revL t (es.take k)) := fun h => revL_no he h
        obtain ⟨xs, ts⟩ := e
        simp only at HCl HY HZ g0 g1
        clear he gi
        cases hq : (ts.toList == t.toList)
        · have HZ1 := Lib.hid (HZ.out hq)
          have HM1 : Hid (us.map (·.2) = revL t (es.take (k + 1))) := by show us.map (·.2) = _; rw [HZ1.out]; exact HM.out
          clear HY HZ HZ1 HM HCl
          go_wp2
          go_roundw
          case rel => exact ⟨k + 1, us, by go_num, by omega, HR, HM1, HXr, HBr⟩
          case measure => simp [intOf]; omega
        · have HY1 := Lib.hid (HY.out hq)
          clear HY HZ
          go_wp2_with fail
          refine HCl.out.mono ?_
          rintro r w2 ⟨⟨v2, rfl, hv2⟩, hb2⟩
          have HV2 := Lib.hid (ownInts_of hv2)
          obtain ⟨va, vc, hvf⟩ := HV2.out.form
          have HB2 := Lib.hid hb2
          subst hvf
          have HBx : Hid (Below w.heap.size w w2) := below_step HBr.out hb2
          have HX2 := Lib.hid (HXr.out.below hb2 HXr.out.lt)
          have hb0 : w.heap.size + 1 ≤ wr.heap.size := HXr.out.lt
          clear hv2 hb2 HCl
          go_wp2_with (at_builtin; refine push_out rfl (.tmp 28) (.tmp 36) rfl (w.heap.size + 1) _ us rfl HR.out HB2.out _ xs HV2.out rfl hb0 (by omega) ?_)
          intro v' w3 R3 hg3
          have HR3 := Lib.hid R3
          have HB3 : Hid (Below w.heap.size w w3) := (HBx.out.trans ((below_al w2 _).mono HBx.out.size)).grown hg3 (by simp; have := HBx.out.size; omega) (fun b e => by have := (HR.out.row.lt b e).1; omega)
          have HX3 := Lib.hid ((HX2.out.below (below_al w2 _) HX2.out.lt).grown hg3 (fun e => by have := (HR.out.row.lt _ e.symm).1; omega))
          have HM3 : Hid ((us ++ [(Value.slice va xs.length vc, xs)]).map (fun x : Value × List Int => x.2) = revL t (es.take (k + 1))) := by
            show List.map _ _ = _
            rw [HY1.out, List.map_append, HM.out]; rfl
          obtain ⟨v'a, v'c, rfl⟩ := R3.form
          clear R3 hg3 HB2 HV2 HBx HM HY1
          go_wp2
          go_roundw
          case rel => exact ⟨k + 1, _, by go_num, by omega, HR3, HM3, HX3, HB3⟩
          case measure => simp [intOf]; omega
      · obtain rfl : k = n := by omega
        have HM1 : Hid (us.map (·.2) = revL t es) := by
          show us.map (·.2) = _
          rw [HM.out, List.take_of_length_le (by rw [← HN.out]; exact Nat.le_refl _)]
        obtain ⟨ua, ucap, rfl⟩ := HR.out.form
        have HO : Hid (OutsAt wr (.slice ua us.length ucap) (revL t es)) := by rw [← HM1.out]; exact HR.out.at
        clear HM
        go_wp2
        go_ret2
        exact ⟨⟨_, rfl, HO.out⟩, HBr.out⟩
end Go.Proofs.Ytmpcdhoigepdpaa
