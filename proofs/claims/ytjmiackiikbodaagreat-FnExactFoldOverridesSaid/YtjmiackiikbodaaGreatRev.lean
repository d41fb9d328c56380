/-
  CONTRACTS of chapter 6: ReverseLookup, of the specification and of the program.
-/
import Derived.Test.YtjmiackiikbodaaGreatImpl6E
import Derived.Test.YtjmiackiikbodaaGreatDictL
namespace Go.Proofs.YtjmiackiikbodaaGreat
set_option maxRecDepth 100000
open Go.RowKit

end Go.Proofs.YtjmiackiikbodaaGreat

namespace Go.Proofs.YtjmiackiikbodaaGreat
set_option maxRecDepth 100000
open Go.RowKit

/-- A slice of the outlines os. -/
def OutsAt (w : World) (v : Value) (os : List (List Int)) : Prop :=
  ∃ (a : Option Addr) (cap : Nat), v = .slice a os.length cap ∧ os.length ≤ cap ∧ (os = [] ∨ ∃ bk o, a = some ⟨bk, o, none⟩ ∧ bk < w.heap.size ∧ ∀ (j : Nat) xs, os[j]? = some xs →
    ∃ u, w.cell? ⟨bk, o + j, none⟩ = some u ∧ IntsAt w u xs)
theorem OutsAt.below {w w' : World} {v : Value} {os : List (List Int)} (h : OutsAt w v os) (hb : Below w.heap.size w w') : OutsAt w' v os := by
  obtain ⟨a, cap, hv, hc, h⟩ := h
  refine ⟨a, cap, hv, hc, ?_⟩
  rcases h with h | ⟨bk, o, ha, hk, h⟩
  · exact .inl h
  · refine .inr ⟨bk, o, ha, Nat.lt_of_lt_of_le hk hb.size, fun j e he => ?_⟩
    obtain ⟨u, h0, h2⟩ := h j e he
    exact ⟨u, (hb.cell (p := ⟨bk, o + j, none⟩) hk).trans h0, h2.below hb⟩
theorem OutsAt.nil (w : World) (a : Option Addr) (cap : Nat) : OutsAt w (.slice a 0 cap) [] := ⟨a, cap, rfl, Nat.zero_le _, .inl rfl⟩
/-- The cells of a slice of outlines, in every later world. -/
def OutCells (w : World) (a : Option Addr) (os : List (List Int)) : Prop :=
  ∀ w1 : World, Below w.heap.size w w1 → ∀ (j : Nat) xs, os[j]? = some xs → ∃ bk o u, a = some ⟨bk, o, none⟩ ∧ bk < w.heap.size ∧ w1.cell? ⟨bk, o + j, none⟩ = some u ∧ IntsAt w1 u xs
theorem OutsAt.cells {w : World} {v : Value} {os : List (List Int)} (h : OutsAt w v os) : ∃ a cap, v = .slice a os.length cap ∧ os.length ≤ cap ∧ OutCells w a os := by
  obtain ⟨a, cap, rfl, hc, h⟩ := h
  refine ⟨a, cap, rfl, hc, fun w1 hb j e he => ?_⟩
  rcases h with rfl | ⟨bk, o, ha, hk, h⟩
  · simp at he
  · obtain ⟨u, h0, h2⟩ := h j e he
    exact ⟨bk, o, u, ha, hk, (hb.cell (p := ⟨bk, o + j, none⟩) hk).trans h0, h2.below hb⟩
set_option maxHeartbeats 1000000 in
theorem eqOs_same (v u : Value) (os : List (List Int)) (w : World) (hv : OutsAt w v os) (hu : OutsAt w u os) (hn : os.length ≤ 2097152) (hx : ∀ xs ∈ os, xs.length ≤ 2097152) :
    Calls Tryz.prog 20 #[v, u] w fun r w' => r = .returned (.bool true) ∧ Below w.heap.size w w' := by
  have HX := Lib.hid (fun k e (h : os[k]? = some e) => hx e (List.mem_of_getElem? h))
  obtain ⟨a, cap, rfl, hcap, hC⟩ := hv.cells
  obtain ⟨b, cap', rfl, hcap', hD⟩ := hu.cells
  have CE := Lib.hid (fun u v xs w hu hv he => eqI_same u v xs w hu hv he)
  obtain ⟨n, hnn⟩ : ∃ n, n = os.length := ⟨_, rfl⟩
  rw [← hnn] at hn hcap hcap' ⊢
  have HN := Lib.hid hnn
  have HC := Lib.hid hC
  have HD := Lib.hid hD
  clear hv hu hnn hC hD hx
  go_enter Tryz.func20, Tryz.ntmps20
  go_wp2_with fail
  go_loopw [5] (fun i wr => ∃ k : Nat, k ≤ n ∧ i = .int .i64 k ∧ Hid (Below w.heap.size w wr)) (fun i _ => n - (intOf i).toNat)
  case atStart => exact ⟨0, Nat.zero_le _, rfl, Below.refl _ _⟩
  case round =>
    obtain ⟨k, hk, rfl, HB⟩ := hrel
    by_cases hlt : k < n
    · obtain ⟨xs, he⟩ : ∃ e, os[k]? = some e := ⟨_, List.getElem?_eq_getElem (by rw [← HN.out]; exact hlt)⟩
      obtain ⟨bk, o, x, rfl, hbk, g0, gx⟩ := HC.out wr HB.out k xs he
      obtain ⟨bk', o', y, rfl, hbk', g0', gy⟩ := HD.out wr HB.out k xs he
      have c := fun w' hb => CE.out x y xs w' (gx.below (w' := w') hb) (gy.below hb) (HX.out k xs he)
      obtain ⟨xa, xc, rfl, _, _⟩ := gx.cells
      obtain ⟨ya, yc, rfl, _, _⟩ := gy.cells
      have C := Lib.hid c
      clear c he gx gy HC HD HX
      have C2 : Hid (∀ d os, Calls Tryz.prog 17 #[.slice xa xs.length xc, .slice ya xs.length yc] (Go.Sort.grow (redrawn wr d) os) fun r w'' => r = .returned (.bool true) ∧ ∃ p : Regrown, w'' = Go.Sort.grow (redrawn wr p.d) p.os) :=
        fun d os => Calls.regrown_of (C.out _ (below_regrown wr d os))
      have k0 := cell_regrown g0
      have k0' := cell_regrown g0'
      clear C
      go_wp2_with fail
      refine wp_region_quiet_below (by kernel_rfl) (by kernel_rfl) ?_
      repeat (go_big_quiet_step (exact C2.out _ _))
      refine wpQuiet_nil ?_
      rintro _ ⟨⟨dq, osq⟩, rfl⟩
      have HB1 : Hid (Below wr.heap.size wr (Go.Sort.grow (redrawn wr dq) osq)) := below_regrown wr dq osq
      go_wp2
      go_roundw
      case rel => exact ⟨k + 1, by omega, by go_num, below_step HB.out HB1.out⟩
      case measure => simp [intOf]; omega
    · obtain rfl : k = n := by omega
      go_wp2
      go_ret
      exact ⟨rfl, HB.out⟩

/-! ### Rows of outlines of one's own, appended to -/
theorem infoOut : (Tryz.prog.info? 26).map (fun i => (i.zero, i.size, i.bytes)) = some (some (.slice none 0 0), 1, 24) := by kernel_rfl
/-- v is a row of its own of outlines that are own memory each, apart from one another. -/
structure RowO (w : World) (base : Nat) (v : Value) (us : List (Value × List Int)) : Prop where
  row : w.ownsRow base 26 1 v us.length (us.map (·.1))
  own : ∀ (j : Nat) (p : Value × List Int), us[j]? = some p → OwnInts w base p.1 p.2.length (fun i => p.2.getD i 0)
  off : ∀ (j : Nat) (p : Value × List Int), us[j]? = some p → 0 < p.2.length → ∀ b, p.1.ownBlock = some b → v.ownBlock ≠ some b
  apart : ∀ (i j : Nat) (p q : Value × List Int), us[i]? = some p → us[j]? = some q → i ≠ j → 0 < p.2.length → 0 < q.2.length → p.1.ownBlock ≠ q.1.ownBlock
theorem RowO.nil (w : World) (base : Nat) : RowO w base (.slice none 0 0) [] := ⟨World.ownsRow_nil _ _ _ _, fun j p h => by simp at h, fun j p h => by simp at h, fun i j p q h => by simp at h⟩
theorem RowO.empty (w : World) : RowO (w.alloc (.cells #[] 26)) w.heap.size (.slice (some ⟨w.heap.size, 0, none⟩) 0 0) [] := ⟨row_new w _, fun j p h => by simp at h, fun j p h => by simp at h, fun i j p q h => by simp at h⟩
theorem RowO.below {w w' : World} {base : Nat} {v : Value} {us : List (Value × List Int)} (h : RowO w base v us) (hb : Below w.heap.size w w') : RowO w' base v us :=
  ⟨row_below h.row hb, fun j p hj => (h.own j p hj).below hb, h.off, h.apart⟩
theorem RowO.form {w : World} {base : Nat} {v : Value} {us : List (Value × List Int)} (h : RowO w base v us) : ∃ a c, v = .slice a us.length c := by
  rcases h.row.2 with ⟨rfl, h0⟩ | ⟨g, cap, cur, rfl, _⟩
  · exact ⟨_, _, by rw [h0]⟩
  · exact ⟨_, _, rfl⟩
theorem RowO.at {w : World} {base : Nat} {v : Value} {us : List (Value × List Int)} (h : RowO w base v us) : OutsAt w v (us.map (·.2)) := by
  have hlen : (us.map (·.2)).length = us.length := List.length_map _
  rcases h.row.2 with ⟨rfl, h0⟩ | ⟨g, cap, cur, rfl, hbg, hg, hn, hcm, hsz, htake⟩
  · have : us = [] := List.length_eq_zero_iff.1 h0
    subst this
    exact OutsAt.nil _ _ _
  · have hlt : g < w.heap.size := (Array.getElem?_eq_some_iff.1 hg).1
    refine ⟨some ⟨g, 0, none⟩, cap, by rw [hlen], by rw [hlen]; exact hn, .inr ⟨g, 0, rfl, hlt, fun j e hj => ?_⟩⟩
    rw [List.getElem?_map] at hj
    obtain ⟨p, hp, rfl⟩ := Option.map_eq_some_iff.1 hj
    have hjl := (List.getElem?_eq_some_iff.1 hp).1
    refine ⟨p.1, ?_, (h.own j p hp).ints⟩
    have h1 : (cur.toList.take (us.length * 1))[j]? = some p.1 := by rw [htake, List.getElem?_map, hp]; rfl
    rw [List.getElem?_take_of_lt (by omega)] at h1
    simp only [Array.getElem?_toList] at h1
    simp [World.cell?, hg, h1]
/-- One outline appended to an own row, at a plain list. -/
theorem push_out {ops : Array Oper} {rest : List Oper} {o : Oper} {a : Act} {w w0 : World} {Q : Exit → Act → World → Prop} (hgd : o.guard = none)
    (p q : Operand) (ho : o.op = .call { callee := .builtin .append, args := #[p, q], argTypes := #[42, 42] }) (base : Nat) (v : Value) (us : List (Value × List Int)) (hs : a.eval p = v) (R : RowO w0 base v us) (hbw : Below w0.heap.size w0 w)
    (u : Value) (xs : List Int) (hu : OwnInts w w0.heap.size u xs.length (fun i => xs.getD i 0)) (hq : a.eval q = .slice (some ⟨w.heap.size, 0, none⟩) 1 1) (hb : base ≤ w0.heap.size) (h1 : us.length ≤ 1048576)
    (h : ∀ v' w', RowO w' base v' (us ++ [(u, xs)]) → (w.alloc (.cells #[u] 26)).grownBy w' v.ownBlock → wpList Tryz.prog ops Q rest (a.put o.dst v') w') :
    wpList Tryz.prog ops Q (o :: rest) a (w.alloc (.cells #[u] 26)) := by
  obtain ⟨i0, hi, hz0, hz1, hz2⟩ := info_parts infoOut
  have hsz := hbw.size
  have R1 := R.below hbw
  have hvl : ∀ b, v.ownBlock = some b → b < w0.heap.size := fun b hb' => (R.row.lt b hb').2
  refine wpList_append_own_at _ hgd p q 42 ho base 26 i0 (.slice none 0 0) 1 24 Tryz.underlying42 hi hz0 hz1 hz2 rfl (by decide) v us.length _ hs (R1.row.alloc _) ⟨w.heap.size, 0, none⟩ 1 1 [u] hq rfl (cell_one_new _ _ _) ?_ (by unfold maxLen; omega) (by omega) (by simp; omega) ?_
  · intro y hy; simp at hy; subst hy
    rcases hu with ⟨_, a', c', rfl⟩ | ⟨g, c', rfl, _⟩ <;> rfl
  · intro v' w' hown' hg _ hat
    have ht : Touch (fun b => v.ownBlock = some b) w w' := ((Touch.refl _ w).alloc _).trans (Touch.grown hg fun k e => e)
    have hnew : ∀ b, 0 < xs.length → u.ownBlock = some b → w0.heap.size ≤ b ∧ b < w.heap.size := fun b h0 hb' => ⟨hu.ge h0 hb', hu.lt h0 b hb'⟩
    have hold : ∀ (j : Nat) (p : Value × List Int), us[j]? = some p → 0 < p.2.length → ∀ b, p.1.ownBlock = some b → b < w0.heap.size := fun j p hj h0 b hb' => (R.own j p hj).lt h0 b hb'
    have hat' : v'.ownBlock = v.ownBlock ∨ v'.ownBlock = some (w.heap.size + 1) := by
      rcases hat with h2 | h2
      · exact .inl h2
      · exact .inr (by rw [h2, World.size_alloc])
    have hget : ∀ (j : Nat) (x : Value × List Int), (us ++ [(u, xs)])[j]? = some x → (j = us.length ∧ x = (u, xs)) ∨ (j < us.length ∧ us[j]? = some x) := by
      intro j x hj
      rcases Nat.lt_or_ge j us.length with hl | hl
      · rw [List.getElem?_append_left hl] at hj; exact .inr ⟨hl, hj⟩
      · rw [List.getElem?_append_right hl] at hj
        have : j - us.length = 0 := by
          rcases Nat.eq_zero_or_pos (j - us.length) with h0 | h0
          · exact h0
          · rw [List.getElem?_eq_none (by simp; omega)] at hj; cases hj
        rw [this] at hj
        exact .inl ⟨by omega, by simpa using hj.symm⟩
    refine h v' w' ⟨?_, fun j p hj => ?_, fun j p hj h0 b hb' => ?_, fun i j p q hi hj hij h0 h1 => ?_⟩ hg
    · rw [List.length_append, List.map_append]; exact hown'
    · rcases hget j p hj with ⟨rfl, rfl⟩ | ⟨hl, hj⟩
      · refine (hu.touch ht fun h0 b hb' e => ?_).mono hb
        have := hnew b h0 hb'
        have := hvl b e
        omega
      · exact (R1.own j p hj).touch ht fun h0 b hb' e => R.off j p hj h0 b hb' e
    · rcases hget j p hj with ⟨rfl, rfl⟩ | ⟨hl, hj⟩
      · have h3 := hnew b h0 hb'
        rcases hat' with h2 | h2
        · rw [h2]; intro e; have := hvl b e; omega
        · rw [h2]; intro e; injection e with e; omega
      · rcases hat' with h2 | h2
        · rw [h2]; exact R.off j p hj h0 b hb'
        · rw [h2]; intro e; injection e with e; have := hold j p hj h0 b hb'; omega
    · have key : ∀ (j : Nat) (q : Value × List Int), us[j]? = some q → 0 < q.2.length → 0 < xs.length → u.ownBlock ≠ q.1.ownBlock := by
        intro j q hj h1 h0 e
        cases hu' : u.ownBlock with
        | none =>
          rcases hu with ⟨hz, _⟩ | ⟨g', cap, rfl, _⟩
          · omega
          · simp [Value.ownBlock] at hu'
        | some b =>
          have h2 := hnew b h0 hu'
          have h3 := hold j q hj h1 b (by rw [← e, hu'])
          omega
      rcases hget i p hi with ⟨rfl, rfl⟩ | ⟨hl, hi⟩
      · rcases hget j q hj with ⟨rfl, rfl⟩ | ⟨hl', hj⟩
        · exact absurd rfl hij
        · exact key j q hj h1 h0
      · rcases hget j q hj with ⟨rfl, rfl⟩ | ⟨hl', hj⟩
        · exact fun e => key i p hi h0 h1 e.symm
        · exact R.apart i j p q hi hj hij h0 h1
end Go.Proofs.YtjmiackiikbodaaGreat

namespace Go.Proofs.YtjmiackiikbodaaGreat
set_option maxRecDepth 100000
open Go.RowKit

/-- The outlines whose text is t. -/
def revL (t : ByteArray) (es : List Ent) : List (List Int) := (es.filter fun e => e.2.toList == t.toList).map (·.1)
theorem revL_yes {t : ByteArray} {es : List Ent} {k : Nat} {e : Ent} (h : es[k]? = some e) (ht : (e.2.toList == t.toList) = true) : revL t (es.take (k + 1)) = revL t (es.take k) ++ [e.1] := by
  unfold revL; rw [List.take_add_one, h, Option.toList_some, List.filter_append, List.map_append]; simp [List.filter, ht]
theorem revL_no {t : ByteArray} {es : List Ent} {k : Nat} {e : Ent} (h : es[k]? = some e) (ht : (e.2.toList == t.toList) = false) : revL t (es.take (k + 1)) = revL t (es.take k) := by
  unfold revL; rw [List.take_add_one, h, Option.toList_some, List.filter_append, List.map_append]; simp [List.filter, ht]
theorem revL_len (t : ByteArray) (es : List Ent) : (revL t es).length ≤ es.length := by unfold revL; rw [List.length_map]; exact List.length_filter_le _ _
theorem revL_mem {t : ByteArray} {es : List Ent} {xs : List Int} (h : xs ∈ revL t es) : ∃ e ∈ es, e.1 = xs := by
  unfold revL at h
  obtain ⟨e, he, rfl⟩ := List.mem_map.1 h
  exact ⟨e, (List.mem_filter.1 he).1, rfl⟩
/-- What ReverseLookup answers. -/
def revO (t : ByteArray) (es : List Ent) : List (List Int) := if okD es = true then revL t es else []
theorem revO_no {t : ByteArray} {es : List Ent} (h : okD es = false) : revO t es = [] := by unfold revO; rw [h]; rfl
theorem revO_yes {t : ByteArray} {es : List Ent} (h : okD es = true) : revO t es = revL t es := by unfold revO; rw [h]; rfl
theorem revO_len (t : ByteArray) (es : List Ent) : (revO t es).length ≤ 40 := by
  cases h : okD es
  · rw [revO_no h]; exact Nat.zero_le _
  · rw [revO_yes h]; exact Nat.le_trans (revL_len t es) (okD_parts h).1
theorem revO_small (t : ByteArray) (es : List Ent) : ∀ xs ∈ revO t es, xs.length ≤ 6 := by
  cases h : okD es
  · rw [revO_no h]; intro xs hx; simp at hx
  · rw [revO_yes h]; intro xs hx
    obtain ⟨e, he, rfl⟩ := revL_mem hx
    exact (okE_size ((okD_parts h).2.1 e he)).2.1
/-- An answer of outlines of its own and a flag. -/
def OutR (base : Nat) (w' : World) (os : List (List Int)) (b : Bool) (e : Ending) : Prop := ∃ u us, e = .returned (.tuple #[u, .bool b]) ∧ RowO w' base u us ∧ us.map (·.2) = os
theorem IntsAt.m {w : World} {u : Value} {xs : List Int} (h : IntsAt w u xs) (h0 : 0 < xs.length) : IntsM w u xs := by
  obtain ⟨bk, o, cap, rfl, hc, hk, hcell⟩ := h.block h0
  exact .inr ⟨bk, o, cap, rfl, hc, hk, hcell⟩
theorem OwnInts.ofRow {w : World} {base : Nat} {v : Value} {xs : List Int} (h : w.ownsRow base 3 1 v xs.length (xs.map (.int .i64))) : OwnInts w base v xs.length (fun j => xs.getD j 0) := ownInts_of h
/-- The library's copy of a slice of ints. -/
theorem clone_any (u : Value) (xs : List Int) (w : World) (h : IntsAt w u xs) (h0 : 0 < xs.length) (hn : xs.length ≤ 2097152) :
    Calls Tryz.prog 54 #[u] w fun e w' => (∃ v, e = .returned v ∧ OwnInts w' w.heap.size v xs.length (fun j => xs.getD j 0)) ∧ Below w.heap.size w w' := by
  obtain ⟨bk, o, cap, rfl, hc, hk, hcell⟩ := h.block h0
  refine (Tryz.slices_Clone_int bk o xs.length cap xs w (Nat.le_refl _) (by omega) (fun j hj => ?_)).mono ?_
  · rw [hcell j _ (List.getElem?_eq_getElem hj)]; simp [List.getD, List.getElem?_eq_getElem hj]
  · rintro e w' ⟨v, rfl, hown, _, hb⟩
    rw [List.take_length] at hown
    exact ⟨⟨v, rfl, ownInts_of hown⟩, hb⟩
end Go.Proofs.YtjmiackiikbodaaGreat
