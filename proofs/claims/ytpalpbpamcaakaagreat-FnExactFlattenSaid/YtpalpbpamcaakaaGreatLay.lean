/-
  LAYERS AND STACKS IN MEMORY: slices of layers that came in; own ones; their sizes, copies and comparisons in the laws.
-/
import Derived.Test.YtpalpbpamcaakaaGreatDictL
namespace Go.Proofs.YtpalpbpamcaakaaGreat
set_option maxRecDepth 100000
open Go.RowKit

abbrev Lay := List Ent × Bool
/-- The value of a layer. -/
def lyV (u : Value) (b : Bool) : Value := .agg #[u, .bool b]
/-- A slice of the layers ls. -/
def LaysAt (w : World) (v : Value) (ls : List Lay) : Prop :=
  ∃ (a : Option Addr) (cap : Nat), v = .slice a ls.length cap ∧ ls.length ≤ cap ∧ (ls = [] ∨ ∃ bk o, a = some ⟨bk, o, none⟩ ∧ bk < w.heap.size ∧ ∀ (j : Nat) l, ls[j]? = some l →
    ∃ u, w.cell? ⟨bk, o + j * 2, none⟩ = some u ∧ w.cell? ⟨bk, o + j * 2 + 1, none⟩ = some (.bool l.2) ∧ EntsAt w u l.1)
theorem LaysAt.below {w w' : World} {v : Value} {ls : List Lay} (h : LaysAt w v ls) (hb : Below w.heap.size w w') : LaysAt w' v ls := by
  obtain ⟨a, cap, hv, hc, h⟩ := h
  refine ⟨a, cap, hv, hc, ?_⟩
  rcases h with h | ⟨bk, o, ha, hk, h⟩
  · exact .inl h
  · refine .inr ⟨bk, o, ha, Nat.lt_of_lt_of_le hk hb.size, fun j e he => ?_⟩
    obtain ⟨u, h0, h1, h2⟩ := h j e he
    exact ⟨u, (hb.cell (p := ⟨bk, o + j * 2, none⟩) hk).trans h0, (hb.cell (p := ⟨bk, o + j * 2 + 1, none⟩) hk).trans h1, h2.below hb⟩
theorem LaysAt.nil (w : World) (a : Option Addr) (cap : Nat) : LaysAt w (.slice a 0 cap) [] := ⟨a, cap, rfl, Nat.zero_le _, .inl rfl⟩
def LayCells (w : World) (a : Option Addr) (ls : List Lay) : Prop :=
  ∀ w1 : World, Below w.heap.size w w1 → ∀ (j : Nat) l, ls[j]? = some l → ∃ bk o u, a = some ⟨bk, o, none⟩ ∧ bk < w.heap.size ∧ w1.cell? ⟨bk, o + j * 2, none⟩ = some u ∧ w1.cell? ⟨bk, o + j * 2 + 1, none⟩ = some (.bool l.2) ∧ EntsAt w1 u l.1
theorem LaysAt.cells {w : World} {v : Value} {ls : List Lay} (h : LaysAt w v ls) : ∃ a cap, v = .slice a ls.length cap ∧ ls.length ≤ cap ∧ LayCells w a ls := by
  obtain ⟨a, cap, rfl, hc, h⟩ := h
  refine ⟨a, cap, rfl, hc, fun w1 hb j e he => ?_⟩
  rcases h with rfl | ⟨bk, o, ha, hk, h⟩
  · simp at he
  · obtain ⟨u, h0, h1, h2⟩ := h j e he
    exact ⟨bk, o, u, ha, hk, (hb.cell (p := ⟨bk, o + j * 2, none⟩) hk).trans h0, (hb.cell (p := ⟨bk, o + j * 2 + 1, none⟩) hk).trans h1, h2.below hb⟩
/-- What a layer that came in may be. -/
def layFine (l : Lay) : Prop := l.1.length ≤ maxLen ∧ ∀ e ∈ l.1, entFine e
def LaysIn (w : World) (v : Value) (ls : List Lay) : Prop := LaysAt w v ls ∧ ls.length ≤ maxLen ∧ ∀ l ∈ ls, layFine l

section
variable {H : Type} {enc : TypeId × Value → H} {P : Program} {w : World} {base : Nat} {spare : Nat → Bool} {held : Bool}
/-- A SLICE OF LAYERS THAT CAME IN. -/
theorem open_lays {tl tL td tb t e ti te ts : TypeId} {g0 g1 fd n0 n1 : Field} {fuel : Nat} {cs : List Value} {x : DataW H × List MemPlace}
    (htl : P.underlying tl = some (.slice tL)) (htL : P.underlying tL = some (.struct #[g0, g1])) (hcL : P.cellsOf tL = 2) (hd1 : P.cellsOf td = 1) (hb1 : P.cellsOf tb = 1)
    (fg0 : g0.type = td ∧ g0.offset = 0) (fg1 : g1.type = tb ∧ g1.offset = 1)
    (htd : P.underlying td = some (.struct #[fd])) (ht1 : P.cellsOf t = 1) (fdd : fd.type = t ∧ fd.offset = 0) (htb : P.underlying tb = some .bool)
    (ht : P.underlying t = some (.slice e)) (he : P.underlying e = some (.struct #[n0, n1])) (hc : P.cellsOf e = 2) (hi1 : P.cellsOf ti = 1) (hs1 : P.cellsOf ts = 1) (he1 : P.cellsOf te = 1)
    (f0 : n0.type = ti ∧ n0.offset = 0) (f1 : n1.type = ts ∧ n1.offset = 1)
    (hi : P.underlying ti = some (.slice te)) (hte : P.underlying te = some (.int .i64)) (hs : P.underlying ts = some .string) (h : DataW.trod enc P w base spare held fuel tl cs = some x) :
    ∃ (v : Value) (ls : List Lay), cs = [v] ∧ LaysIn w v ls := by
  rcases Go.Deep.open_slice htl h with ⟨rfl, _⟩ | ⟨a, len, cap, m, k, D, Pls, rfl, _, hl, hm, hmm, _, hx⟩
  · exact ⟨_, [], rfl, LaysAt.nil _ _ _, Nat.zero_le _, fun e h => absurd h List.not_mem_nil⟩
  · have hlm : len ≤ m := by rw [hmm]; split <;> omega
    have hex : ∀ i, i < len → ∃ lv : Lay, layFine lv ∧ a.spot = none ∧ ∃ u, w.cell? ⟨a.block, a.off + i * 2, none⟩ = some u ∧ w.cell? ⟨a.block, a.off + i * 2 + 1, none⟩ = some (.bool lv.2) ∧ EntsAt w u lv.1 := by
      intro i hil
      obtain ⟨cs', hcs, htr⟩ := hx i (by omega)
      obtain ⟨y0, y1, q, _, hlen, k0, k1⟩ := Go.ChangeShapes.trod_struct2 htL htr
      rw [fg0.1, fg0.2, hd1] at k0
      rw [fg1.1, fg1.2, hb1] at k1
      obtain ⟨z0, q', _, hlen', kd⟩ := Go.ChangeShapes.trod_struct1 htd k0
      rw [fdd.1, fdd.2, ht1] at kd
      obtain ⟨u0, es, p0', hin⟩ := open_ents ht he hc hi1 hs1 he1 f0 f1 hi hte hs kd
      have p0 : (cs'.drop 0).take 1 = [u0] := by
        have e0 : (((cs'.drop 0).take 1).drop 0).take 1 = (cs'.drop 0).take 1 := by simp [List.take_take]
        rw [← e0]; exact p0'
      obtain ⟨u1, p1, _⟩ := DataW.trod_bool htb k1
      rw [hcL] at hcs
      have hspot : a.spot = none := by
        obtain ⟨cs0, hcs0, _⟩ := hx 0 (by omega)
        rw [hcL] at hcs0
        obtain ⟨_, hl3, hc3⟩ := World.cells?_some hcs0
        have h3 := hc3 0 (by omega)
        match cs0, hl3 with
        | [p, q], _ =>
          have h4 : w.cell? a = some p := by simpa [Addr.add] using h3
          exact World.cell?_spot h4
      obtain ⟨bk, o, sp⟩ := a
      simp only at hspot
      subst hspot
      have hadd : (⟨bk, o, none⟩ : Addr).add (i * 2) = ⟨bk, o + i * 2, none⟩ := Go.WideShapes.add_plain ..
      rw [hadd] at hcs
      have := cells_pair hcs p0 p1
      exact ⟨(es, u1), ⟨hin.2.1, hin.2.2⟩, rfl, u0, this.1, this.2, hin.1⟩
    obtain ⟨F, hF⟩ := Go.Deep.choose_lt hex
    have hget : ∀ (j : Nat) (lv : Lay), ((List.range len).map F)[j]? = some lv → j < len ∧ lv = F j := by
      intro j ev hj
      rw [List.getElem?_map] at hj
      obtain ⟨i, hi, rfl⟩ := Option.map_eq_some_iff.1 hj
      rw [List.getElem?_eq_some_iff] at hi
      obtain ⟨hlt, hi⟩ := hi
      simp at hlt hi
      subst hi
      exact ⟨hlt, rfl⟩
    refine ⟨.slice (some a) len cap, (List.range len).map F, rfl, ?_, by simp; omega, ?_⟩
    · refine ⟨some a, cap, by simp, by simpa using hl, ?_⟩
      rcases Nat.eq_zero_or_pos len with h0 | h0
      · exact .inl (by rw [h0]; rfl)
      · obtain ⟨_, hs, u, hc0, _⟩ := hF 0 h0
        obtain ⟨bk, o, sp⟩ := a
        simp only at hs
        subst hs
        refine .inr ⟨bk, o, rfl, lt_of_cell hc0, fun j ev hj => ?_⟩
        obtain ⟨hlt, rfl⟩ := hget j ev hj
        exact (hF j hlt).2.2
    · intro ev hev
      obtain ⟨i, hi, rfl⟩ := List.mem_map.1 hev
      exact (hF i (by simpa using hi)).1
/-- A STACK THAT CAME IN. -/
theorem open_stackV {b0 : Nat} {r : Reach} {tS tl tL td tb t e ti te ts : TypeId} {fs g0 g1 fd n0 n1 : Field} {v : Value} {d : DataW H} {ps : List MemPlace}
    (htS : P.underlying tS = some (.struct #[fs])) (hC : P.cellsOf tS = 1) (hl1 : P.cellsOf tl = 1) (fss : fs.type = tl ∧ fs.offset = 0)
    (htl : P.underlying tl = some (.slice tL)) (htL : P.underlying tL = some (.struct #[g0, g1])) (hcL : P.cellsOf tL = 2) (hd1 : P.cellsOf td = 1) (hb1 : P.cellsOf tb = 1)
    (fg0 : g0.type = td ∧ g0.offset = 0) (fg1 : g1.type = tb ∧ g1.offset = 1)
    (htd : P.underlying td = some (.struct #[fd])) (ht1 : P.cellsOf t = 1) (fdd : fd.type = t ∧ fd.offset = 0) (htb : P.underlying tb = some .bool)
    (ht : P.underlying t = some (.slice e)) (he : P.underlying e = some (.struct #[n0, n1])) (hc : P.cellsOf e = 2) (hi1 : P.cellsOf ti = 1) (hs1 : P.cellsOf ts = 1) (he1 : P.cellsOf te = 1)
    (f0 : n0.type = ti ∧ n0.offset = 0) (f1 : n1.type = ts ∧ n1.offset = 1)
    (hi : P.underlying ti = some (.slice te)) (hte : P.underlying te = some (.int .i64)) (hs : P.underlying ts = some .string) (hval : Value.okWide P w r b0 tS v) (hd : DataW.Trod enc P w base spare held tS v d ps) :
    ∃ (u : Value) (ls : List Lay), v = dV u ∧ LaysIn w u ls := by
  obtain ⟨cs, rfl, hsz⟩ := Go.WideShapes.okWide_struct htS hval
  obtain ⟨fuel, hf⟩ := hd
  obtain ⟨y0, q, _, hlen, k0⟩ := Go.ChangeShapes.trod_struct1 htS hf
  rw [fss.1, fss.2, hl1] at k0
  obtain ⟨u, ls, p0, hls⟩ := open_lays htl htL hcL hd1 hb1 fg0 fg1 htd ht1 fdd htb ht he hc hi1 hs1 he1 f0 f1 hi hte hs k0
  have e : cs.toList = [u] := by
    rw [hC] at hsz
    have p0' : (cs.toList.drop 0).take 1 = [u] := p0
    match hcs : cs.toList, (show cs.toList.length = 1 by simpa using hsz) with
    | [p], _ =>
      rw [hcs] at p0'
      simp at p0'
      rw [p0']
  refine ⟨u, ls, ?_, hls⟩
  unfold dV
  congr 1
  exact Array.toList_inj.1 e
end

/-! ### Sizes -/
/-- The weight of layers. -/
def wtL (ls : List Lay) : Nat := (ls.map fun l => wtE l.1 + l.1.length).sum
theorem wtL_next {ls : List Lay} {k : Nat} {l : Lay} (h : ls[k]? = some l) : wtL (ls.take (k + 1)) = wtL (ls.take k) + (wtE l.1 + l.1.length) := by
  unfold wtL; rw [List.take_add_one, h, Option.toList_some, List.map_append, List.sum_append]; simp
theorem wtL_ge (ls : List Lay) : ∀ l ∈ ls, wtE l.1 + l.1.length ≤ wtL ls := by
  intro l hl
  unfold wtL
  induction ls with
  | nil => simp at hl
  | cons x r ih =>
    rw [List.map_cons, List.sum_cons]
    rcases List.mem_cons.1 hl with rfl | hl
    · omega
    · have := ih hl; omega
/-- What a layer may be that the laws take up. -/
def layIn (l : Lay) : Prop := l.1.length ≤ 1048576 ∧ ∀ e ∈ l.1, entIn e
theorem wtL_in {ls : List Lay} (h : wtL ls + ls.length ≤ 1048576) : ls.length ≤ 1048576 ∧ ∀ l ∈ ls, layIn l := by
  refine ⟨by omega, fun l hl => ?_⟩
  have := wtL_ge ls l hl
  exact wtE_in (by omega)
theorem szLy_any (v : Value) (l : Lay) (left : Int) (w : World) (h : EntsAt w v l.1) (hl : 0 ≤ left) (hl2 : left ≤ 1048576) (hx : layFine l) :
    Calls Tryz.prog 128 #[lyV v l.2, .int .i64 left] w fun r w' => (∃ q : Int, r = .returned (.int .i64 q) ∧ (q = -1 ∨ 0 ≤ q ∧ q + ((wtE l.1 + l.1.length : Nat) : Int) = left)) ∧ Below w.heap.size w w' := by
  obtain ⟨es, b⟩ := l
  simp only at h ⊢
  have c := fun w' hb => szDg_any v es left w' ⟨h.below (w' := w') hb, hx.1, hx.2⟩ hl hl2
  obtain ⟨a, cap, rfl, _, _⟩ := h.cells
  obtain ⟨E, hE⟩ : ∃ E, E = wtE es + es.length := ⟨_, rfl⟩
  rw [← hE] at c ⊢
  unfold dV at c
  have C := Lib.hid c
  clear h hx hE c
  unfold lyV
  go_enter Tryz.func128, Tryz.ntmps128
  go_wp2_with fail
  refine (C.out _ (below_al _ _)).mono ?_
  rintro r w1 ⟨⟨q, rfl, hq⟩, hb⟩
  have HB := Lib.hid (below_box hb)
  clear hb
  rcases hq with rfl | ⟨hq0, hq2⟩
  · go_wp2
    go_ret
    exact ⟨⟨-1, rfl, .inl rfl⟩, HB.out⟩
  · have HQ := Lib.hid hq2
    clear hq2
    go_wp2
    go_ret
    exact ⟨⟨q, rfl, .inr ⟨hq0, HQ.out⟩⟩, HB.out⟩
set_option maxHeartbeats 1000000 in
theorem szLs_any (v : Value) (ls : List Lay) (left : Int) (w : World) (h : LaysAt w v ls) (hl : 0 ≤ left) (hl2 : left ≤ 1048576) (hn : ls.length ≤ maxLen) (hx : ∀ l ∈ ls, layFine l) :
    Calls Tryz.prog 90 #[v, .int .i64 left] w fun r w' => (∃ q : Int, r = .returned (.int .i64 q) ∧ (q = -1 ∨ 0 ≤ q ∧ q + ((wtL ls + ls.length : Nat) : Int) = left)) ∧ Below w.heap.size w w' := by
  unfold maxLen at hn
  have HX := Lib.hid (fun k l (h : ls[k]? = some l) => hx l (List.mem_of_getElem? h))
  obtain ⟨a, cap, rfl, hcap, hC⟩ := h.cells
  have CZ := Lib.hid (fun u l left w h hl hl2 hx => szLy_any u l left w h hl hl2 hx)
  have HF : Hid (wtL (ls.take ls.length) = wtL ls) := by show wtL _ = _; rw [List.take_length]
  obtain ⟨n, hnn⟩ : ∃ n, n = ls.length := ⟨_, rfl⟩
  rw [← hnn] at hn hcap HF ⊢
  have HN := Lib.hid hnn
  have HC := Lib.hid hC
  clear h hnn hx hC
  by_cases hbig : left < n
  · go_enter Tryz.func90, Tryz.ntmps90
    go_wp2
    go_ret
    exact ⟨⟨-1, rfl, .inl rfl⟩, Below.refl _ _⟩
  · go_enter Tryz.func90, Tryz.ntmps90
    go_wp2_with fail
    go_loopw [1, 5] (fun l i wr => ∃ (k : Nat) (r : Int), k ≤ n ∧ i = .int .i64 k ∧ l = .int .i64 r ∧ 0 ≤ r ∧ r ≤ 1048576 ∧ Hid (r + ((wtL (ls.take k) + n : Nat) : Int) = left) ∧ Below w.heap.size w wr) (fun _ i _ => n - (intOf i).toNat)
    case atStart => exact ⟨0, left - n, Nat.zero_le _, rfl, by first | rfl | go_num, by omega, by omega, by show (left - (n : Int)) + ((0 + n : Nat) : Int) = left; omega, Below.refl _ _⟩
    case round =>
      obtain ⟨k, r, hk, rfl, rfl, hr0, hr1, HS, hbel⟩ := hrel
      by_cases hlt : k < n
      · obtain ⟨e, he⟩ : ∃ e, ls[k]? = some e := ⟨_, List.getElem?_eq_getElem (by rw [← HN.out]; exact hlt)⟩
        obtain ⟨bk, o, u, rfl, hbk, g0, g1, gi⟩ := HC.out wr hbel k e he
        have cz := fun w' hb => CZ.out u e r w' (gi.below (w' := w') hb) hr0 hr1 (HX.out k e he)
        have HS2 : Hid (wtL (ls.take (k + 1)) = wtL (ls.take k) + (wtE e.1 + e.1.length)) := wtL_next he
        obtain ⟨G, hG⟩ : ∃ G, G = wtE e.1 + e.1.length := ⟨_, rfl⟩
        rw [← hG] at cz HS2
        obtain ⟨ua, ucap, rfl, _, _⟩ := gi.cells
        obtain ⟨xs, t⟩ := e
        unfold lyV at cz
        simp only at cz g0 g1
        have CZ1 := Lib.hid cz
        clear cz he gi hG
        go_wp2_with fail
        refine (CZ1.out _ (by first | exact Below.refl _ _ | exact below_drewN (Below.refl _ _) 1)).mono ?_
        rintro r' w1 ⟨⟨q, rfl, hq⟩, hb1⟩
        have HB1 := Lib.hid (hbel.trans (hb1.mono hbel.size))
        rcases hq with rfl | ⟨hq0, hq2⟩
        · clear hb1
          go_wp2
          go_ret
          exact ⟨⟨-1, rfl, .inl rfl⟩, HB1.out⟩
        · have HS3 : Hid (q + ((wtL (ls.take (k + 1)) + n : Nat) : Int) = left) := by
            have h1 := HS.out
            show q + _ = _
            rw [HS2.out]; omega
          have hq1 : q ≤ 1048576 := by omega
          clear hb1 hq2
          go_wp2
          go_roundw
          case rel => exact ⟨k + 1, q, by omega, by go_num, rfl, hq0, hq1, HS3, HB1.out⟩
          case measure => simp [intOf]; omega
      · obtain rfl : k = n := by omega
        have HS2 : Hid (r + ((wtL ls + k : Nat) : Int) = left) := by have := HS.out; rw [HF.out] at this; exact this
        clear HS
        go_wp2
        go_ret
        exact ⟨⟨r, rfl, .inr ⟨hr0, HS2.out⟩⟩, hbel⟩
theorem szSk_any (v : Value) (ls : List Lay) (left : Int) (w : World) (h : LaysIn w v ls) (hl : 0 ≤ left) (hl2 : left ≤ 1048576) :
    Calls Tryz.prog 42 #[dV v, .int .i64 left] w fun r w' => (∃ q : Int, r = .returned (.int .i64 q) ∧ (q = -1 ∨ 0 ≤ q ∧ q + ((wtL ls + ls.length : Nat) : Int) = left)) ∧ Below w.heap.size w w' := by
  obtain ⟨hA, hn, hx⟩ := h
  have C := Lib.hid (fun w' hb => szLs_any v ls left w' (hA.below (w' := w') hb) hl hl2 hn hx)
  obtain ⟨a, cap, rfl, _, _⟩ := hA.cells
  clear hA hn hx
  obtain ⟨E, hE⟩ : ∃ E, E = wtL ls + ls.length := ⟨_, rfl⟩
  rw [← hE] at C ⊢
  clear hE
  unfold dV
  go_enter Tryz.func42, Tryz.ntmps42
  go_wp2_with fail
  refine (C.out _ (below_al _ _)).mono ?_
  rintro r w1 ⟨⟨q, rfl, hq⟩, hb⟩
  have HB := Lib.hid (below_box hb)
  clear hb
  rcases hq with rfl | ⟨hq0, hq2⟩
  · go_wp2
    go_ret
    exact ⟨⟨-1, rfl, .inl rfl⟩, HB.out⟩
  · have HQ := Lib.hid hq2
    clear hq2
    go_wp2
    go_ret
    exact ⟨⟨q, rfl, .inr ⟨hq0, HQ.out⟩⟩, HB.out⟩
theorem szS_any (v : Value) (ls : List Lay) (w : World) (h : LaysIn w v ls) :
    Calls Tryz.prog 42 #[dV v, .int .i64 1048576] w fun r w' => (∃ q : Int, r = .returned (.int .i64 q) ∧ (q = -1 ∨ 0 ≤ q ∧ ls.length ≤ 1048576 ∧ ∀ l ∈ ls, layIn l)) ∧ Below w.heap.size w w' :=
  (szSk_any v ls 1048576 w h (by omega) (by omega)).mono fun r w' ⟨⟨q, hr, hq⟩, hb⟩ => ⟨⟨q, hr, hq.imp id fun ⟨h0, h1⟩ => ⟨h0, wtL_in (by omega)⟩⟩, hb⟩

/-! ### Equal -/
/-- What a layer may be, roughly. -/
def layOk (l : Lay) : Prop := l.1.length ≤ 2097152 ∧ ∀ e ∈ l.1, entOk e
theorem layIn.ok {l : Lay} (h : layIn l) : layOk l := ⟨Nat.le_trans h.1 (by decide), fun e he => (h.2 e he).ok⟩
theorem eqLy_same (u v : Value) (l : Lay) (w : World) (hu : EntsAt w u l.1) (hv : EntsAt w v l.1) (hl : layOk l) :
    Calls Tryz.prog 131 #[lyV u l.2, lyV v l.2] w fun r w' => r = .returned (.bool true) ∧ Below w.heap.size w w' := by
  obtain ⟨es, b⟩ := l
  simp only at hu hv ⊢
  have c := fun w' hb => eqD_same u v es w' (hu.below (w' := w') hb) (hv.below hb) hl.1 hl.2
  obtain ⟨ua, ucap, rfl, _, _⟩ := hu.cells
  obtain ⟨va, vcap, rfl, _, _⟩ := hv.cells
  unfold dV at c
  have C := Lib.hid c
  obtain ⟨n, hn⟩ : ∃ n, n = es.length := ⟨_, rfl⟩
  rw [← hn] at C ⊢
  clear hu hv hl c hn
  unfold lyV
  go_enter Tryz.func131, Tryz.ntmps131
  go_wp2_with fail
  refine (C.out _ (below_al2 _ _ _)).mono ?_
  rintro r w1 ⟨rfl, hb1⟩
  obtain ⟨B, hB⟩ : ∃ B, B = w.heap.size := ⟨_, rfl⟩
  have d1 := BoxW.below (b := w.heap.size) ((BoxW.new w 36 (.slice ua n ucap) (.bool b)).below (below_al _ (.cells #[.slice va n vcap, .bool b] 36)) (by simp)) hb1 (by simp; omega)
  have d2 := (BoxW.new (w.alloc (.cells #[.slice ua n ucap, .bool b] 36)) 36 (.slice va n vcap) (.bool b)).below hb1 (by simp)
  simp only [World.size_alloc] at d2
  have c1 := d1.cell1
  have c2 := d2.cell1
  have HB := Lib.hid ((below_al2 w _ _).trans (hb1.mono (by simp; omega)))
  clear d1 d2 hb1 hB
  cases b
  all_goals go_wp2
  all_goals go_ret
  all_goals exact ⟨rfl, HB.out⟩
set_option maxHeartbeats 1000000 in
theorem eqLs_same (v u : Value) (ls : List Lay) (w : World) (hv : LaysAt w v ls) (hu : LaysAt w u ls) (hn : ls.length ≤ 2097152) (hx : ∀ l ∈ ls, layOk l) :
    Calls Tryz.prog 93 #[v, u] w fun r w' => r = .returned (.bool true) ∧ Below w.heap.size w w' := by
  have HX := Lib.hid (fun k e (h : ls[k]? = some e) => hx e (List.mem_of_getElem? h))
  obtain ⟨a, cap, rfl, hcap, hC⟩ := hv.cells
  obtain ⟨b, cap', rfl, hcap', hD⟩ := hu.cells
  have CE := Lib.hid (fun u v l w hu hv he => eqLy_same u v l w hu hv he)
  obtain ⟨n, hnn⟩ : ∃ n, n = ls.length := ⟨_, rfl⟩
  rw [← hnn] at hn hcap hcap' ⊢
  have HN := Lib.hid hnn
  have HC := Lib.hid hC
  have HD := Lib.hid hD
  clear hv hu hnn hC hD hx
  go_enter Tryz.func93, Tryz.ntmps93
  go_wp2_with fail
  go_loopw [5] (fun i wr => ∃ k : Nat, k ≤ n ∧ i = .int .i64 k ∧ Hid (Below w.heap.size w wr)) (fun i _ => n - (intOf i).toNat)
  case atStart => exact ⟨0, Nat.zero_le _, rfl, Below.refl _ _⟩
  case round =>
    obtain ⟨k, hk, rfl, HB⟩ := hrel
    by_cases hlt : k < n
    · obtain ⟨e, he⟩ : ∃ e, ls[k]? = some e := ⟨_, List.getElem?_eq_getElem (by rw [← HN.out]; exact hlt)⟩
      obtain ⟨bk, o, x, rfl, hbk, g0, g1, gx⟩ := HC.out wr HB.out k e he
      obtain ⟨bk', o', y, rfl, hbk', g0', g1', gy⟩ := HD.out wr HB.out k e he
      have hel := HX.out k e he
      have c := fun w' hb => CE.out x y e w' (gx.below (w' := w') hb) (gy.below hb) hel
      obtain ⟨xs, t⟩ := e
      obtain ⟨xa, xc, rfl, _, _⟩ := gx.cells
      obtain ⟨ya, yc, rfl, _, _⟩ := gy.cells
      unfold lyV at c
      simp only at c g0 g1 g0' g1'
      obtain ⟨m, hm⟩ : ∃ m, m = xs.length := ⟨_, rfl⟩
      rw [← hm] at c g0 g0'
      have C := Lib.hid c
      clear c he gx gy HC HD HX hm hel
      have C2 : Hid (∀ d os, Calls Tryz.prog 131 #[.agg #[.slice xa m xc, .bool t], .agg #[.slice ya m yc, .bool t]] (Go.Sort.grow (redrawn wr d) os) fun r w'' => r = .returned (.bool true) ∧ ∃ p : Regrown, w'' = Go.Sort.grow (redrawn wr p.d) p.os) :=
        fun d os => Calls.regrown_of (C.out _ (below_regrown wr d os))
      have k0 := cell_regrown g0
      have k1 := cell_regrown g1
      have k0' := cell_regrown g0'
      have k1' := cell_regrown g1'
      clear C
      go_wp2_with fail
      refine wp_region_quiet_below (by kernel_rfl) (by kernel_rfl) ?_
      repeat (go_big_quiet_step (exact C2.out _ _))
      refine wpQuiet_nil ?_
      rintro _ ⟨⟨dq, osq⟩, rfl⟩
      have HB1 : Hid (Below wr.heap.size wr (Go.Sort.grow (redrawn wr dq) osq)) := below_regrown wr dq osq
      go_wp2
      go_roundw
      case rel => exact ⟨k + 1, by omega, by go_num, below_step HB.out HB1.out⟩
      case measure => simp [intOf]; omega
    · obtain rfl : k = n := by omega
      go_wp2
      go_ret
      exact ⟨rfl, HB.out⟩
theorem eqS_same (u v : Value) (ls : List Lay) (w : World) (hu : LaysAt w u ls) (hv : LaysAt w v ls) (hn : ls.length ≤ 2097152) (hx : ∀ l ∈ ls, layOk l) :
    Calls Tryz.prog 45 #[dV u, dV v] w fun r w' => r = .returned (.bool true) ∧ Below w.heap.size w w' := by
  have C := Lib.hid (fun w' hb => eqLs_same u v ls w' (hu.below (w' := w') hb) (hv.below hb) hn hx)
  obtain ⟨ua, ucap, rfl, _, _⟩ := hu.cells
  obtain ⟨va, vcap, rfl, _, _⟩ := hv.cells
  clear hu hv hx
  unfold dV
  go_enter Tryz.func45, Tryz.ntmps45
  go_wp2_with fail
  refine (C.out _ (below_al2 _ _ _)).mono ?_
  rintro r w1 ⟨rfl, hb1⟩
  have HB := Lib.hid ((below_al2 w _ _).trans (hb1.mono (by simp; omega)))
  clear hb1
  go_wp2
  go_ret
  exact ⟨rfl, HB.out⟩

/-! ### Own layers, copies -/
/-- The layers ls lie in block g; the dictionary of layer j lies in memory of its own, from L j on and below R j. -/
structure LaysG (w : World) (base S g : Nat) (U : Nat → Value) (L R : Nat → Nat) (ls : List Lay) : Prop where
  low : base ≤ g
  high : g < S
  size : S ≤ w.heap.size
  thaw : ∀ j, w.frozen? ⟨g, j, none⟩ = false
  cell : ∀ j l, ls[j]? = some l → w.cell? ⟨g, j * 2, none⟩ = some (U j) ∧ w.cell? ⟨g, j * 2 + 1, none⟩ = some (.bool l.2)
  each : ∀ j l, ls[j]? = some l → OwnEs w (L j) (R j) (U j) l.1 ∧ base ≤ L j ∧ L j ≤ R j ∧ R j ≤ S ∧ (g < L j ∨ R j ≤ g)
  apart : ∀ i j, i < j → j < ls.length → R i ≤ L j ∨ R j ≤ L i
theorem LaysG.touch {T : Nat → Prop} {w w' : World} {base S g : Nat} {U : Nat → Value} {L R : Nat → Nat} {ls : List Lay} (h : LaysG w base S g U L R ls) (ht : Touch T w w') (hT : ∀ b, base ≤ b → b < S → ¬ T b) : LaysG w' base S g U L R ls := by
  have hg : g < w.heap.size := Nat.lt_of_lt_of_le h.high h.size
  have hTg := hT g h.low h.high
  refine ⟨h.low, h.high, Nat.le_trans h.size ht.1, fun j => ((ht.cf j hg hTg).2).trans (h.thaw j), fun j l hj => ?_, fun j l hj => ?_, h.apart⟩
  · obtain ⟨c0, c1⟩ := h.cell j l hj
    exact ⟨((ht.cf _ hg hTg).1).trans c0, ((ht.cf _ hg hTg).1).trans c1⟩
  · obtain ⟨e0, e1, e2, e3, e4⟩ := h.each j l hj
    exact ⟨e0.touch ht fun b hb1 hb2 => hT b (by omega) (by omega), e1, e2, e3, e4⟩
/-- v is a slice of layers of its own, from block 'base' on and below S. -/
def OwnLs (w : World) (base S : Nat) (v : Value) (ls : List Lay) : Prop :=
  (ls = [] ∧ ∃ a cap, v = .slice a 0 cap) ∨ ∃ g cap U L R, v = .slice (some ⟨g, 0, none⟩) ls.length cap ∧ ls.length ≤ cap ∧ 0 < ls.length ∧ LaysG w base S g U L R ls
theorem OwnLs.touch {T : Nat → Prop} {w w' : World} {base S : Nat} {v : Value} {ls : List Lay} (h : OwnLs w base S v ls) (ht : Touch T w w') (hT : ∀ b, base ≤ b → b < S → ¬ T b) : OwnLs w' base S v ls := by
  rcases h with h | ⟨g, cap, U, L, R, hv, hc, h0, h⟩
  · exact .inl h
  · exact .inr ⟨g, cap, U, L, R, hv, hc, h0, h.touch ht hT⟩
theorem OwnLs.below {w w' : World} {base S : Nat} {v : Value} {ls : List Lay} (h : OwnLs w base S v ls) (hb : Below w.heap.size w w') : OwnLs w' base S v ls := h.touch (T := fun _ => False) (Touch.of_below hb) (fun _ _ _ q => q)
theorem OwnLs.mono {w : World} {b b' S : Nat} {v : Value} {ls : List Lay} (h : OwnLs w b S v ls) (hb : b' ≤ b) : OwnLs w b' S v ls := by
  rcases h with h | ⟨g, cap, U, L, R, hv, hc, h0, h⟩
  · exact .inl h
  · exact .inr ⟨g, cap, U, L, R, hv, hc, h0, Nat.le_trans hb h.low, h.high, h.size, h.thaw, h.cell, fun j l hj => by obtain ⟨e0, e1, e2⟩ := h.each j l hj; exact ⟨e0, Nat.le_trans hb e1, e2⟩, h.apart⟩
theorem LaysG.at {w : World} {base S g : Nat} {U : Nat → Value} {L R : Nat → Nat} {ls : List Lay} {n cap : Nat} (h : LaysG w base S g U L R ls) (hn : ls.length = n) (hc : n ≤ cap) : LaysAt w (.slice (some ⟨g, 0, none⟩) n cap) ls := by
  refine ⟨_, cap, by rw [hn], by rw [hn]; exact hc, .inr ⟨g, 0, rfl, Nat.lt_of_lt_of_le h.high h.size, fun j l hj => ⟨U j, ?_, ?_, (h.each j l hj).1.at⟩⟩⟩
  · rw [Nat.zero_add]; exact (h.cell j l hj).1
  · rw [Nat.zero_add]; exact (h.cell j l hj).2
theorem OwnLs.at {w : World} {base S : Nat} {v : Value} {ls : List Lay} (h : OwnLs w base S v ls) : LaysAt w v ls := by
  rcases h with ⟨rfl, a, cap, rfl⟩ | ⟨g, cap, U, L, R, rfl, hc, h0, h⟩
  · exact LaysAt.nil _ _ _
  · exact h.at rfl hc
theorem LaysG.start {w : World} {g : Nat} (hg : g < w.heap.size) (hz : ∀ j, w.frozen? ⟨g, j, none⟩ = false) : LaysG w g w.heap.size g (fun _ => .slice none 0 0) (fun _ => 0) (fun _ => 0) [] :=
  ⟨Nat.le_refl _, hg, Nat.le_refl _, hz, fun j e h => by simp at h, fun j l h => by simp at h, fun i j hij h => by simp at h⟩
/-- One more layer, whose dictionary is newer than all that was there. -/
theorem LaysG.snoc {w w1 : World} {base g : Nat} {U : Nat → Value} {L R : Nat → Nat} {ls : List Lay} {l : Lay} {u : Value} (h : LaysG w base w.heap.size g U L R ls) (hb : Below w.heap.size w w1)
    (hu : OwnEs w1 w.heap.size w1.heap.size u l.1) {x y : Value} (hx : w1.cell? ⟨g, ls.length * 2, none⟩ = some x) (hy : w1.cell? ⟨g, ls.length * 2 + 1, none⟩ = some y) :
    LaysG ((w1.setCell ⟨g, ls.length * 2, none⟩ u).setCell ⟨g, ls.length * 2 + 1, none⟩ (.bool l.2)) base ((w1.setCell ⟨g, ls.length * 2, none⟩ u).setCell ⟨g, ls.length * 2 + 1, none⟩ (.bool l.2)).heap.size g (fun j => if j = ls.length then u else U j)
      (fun j => if j = ls.length then w.heap.size else L j) (fun j => if j = ls.length then w1.heap.size else R j) (ls ++ [l]) := by
  have hgs : g < w.heap.size := h.high
  have hsz := hb.size
  have hget : ∀ (j : Nat) (x : Lay), (ls ++ [l])[j]? = some x → (j = ls.length ∧ x = l) ∨ (j < ls.length ∧ ls[j]? = some x) := by
    intro j x hj
    rcases Nat.lt_or_ge j ls.length with hl | hl
    · rw [List.getElem?_append_left hl] at hj; exact .inr ⟨hl, hj⟩
    · rw [List.getElem?_append_right hl] at hj
      have : j - ls.length = 0 := by
        rcases Nat.eq_zero_or_pos (j - ls.length) with h0 | h0
        · exact h0
        · rw [List.getElem?_eq_none (by simp; omega)] at hj; cases hj
      rw [this] at hj
      exact .inl ⟨by omega, by simpa using hj.symm⟩
  have hold := h.touch (T := fun _ => False) (Touch.of_below hb) (fun _ _ _ q => q)
  have ht : Touch (fun b => b = g) w1 ((w1.setCell ⟨g, ls.length * 2, none⟩ u).setCell ⟨g, ls.length * 2 + 1, none⟩ (.bool l.2)) := ((Touch.refl (fun b => b = g) _).setCell rfl _ _).setCell rfl _ _
  refine ⟨h.low, by rw [World.size_setCell, World.size_setCell]; omega, Nat.le_refl _, fun j => by rw [World.frozen?_setCell, World.frozen?_setCell]; exact hold.thaw j, fun j z hj => ?_, fun j z hj => ?_, fun i j hij hj => ?_⟩
  · rcases hget j z hj with ⟨rfl, rfl⟩ | ⟨hl, hj⟩
    · simp only [if_true]
      refine ⟨?_, ?_⟩
      · rw [World.cell?_setCell_other _ _ _ _ (by intro e; injection e; omega)]; exact World.cell?_setCell_same _ _ _ hx
      · exact World.cell?_setCell_same _ _ _ (show _ = some y from by rw [World.cell?_setCell_other _ _ _ _ (by intro e; injection e; omega)]; exact hy)
    · obtain ⟨c0, c1⟩ := hold.cell j z hj
      rw [if_neg (by omega)]
      refine ⟨?_, ?_⟩
      · rw [World.cell?_setCell_other _ _ _ _ (by intro e; injection e; omega), World.cell?_setCell_other _ _ _ _ (by intro e; injection e; omega)]; exact c0
      · rw [World.cell?_setCell_other _ _ _ _ (by intro e; injection e; omega), World.cell?_setCell_other _ _ _ _ (by intro e; injection e; omega)]; exact c1
  · rw [World.size_setCell, World.size_setCell]
    rcases hget j z hj with ⟨rfl, rfl⟩ | ⟨hl, hj⟩
    · simp only [if_true]
      exact ⟨hu.touch ht fun b hb1 hb2 e => by omega, by have := h.low; omega, hsz, Nat.le_refl _, .inl hgs⟩
    · simp only [if_neg (show ¬ j = ls.length by omega)]
      obtain ⟨e0, e1, e2, e3, e4⟩ := hold.each j z hj
      exact ⟨e0.touch ht fun b hb1 hb2 e => by omega, e1, e2, by omega, e4⟩
  · rw [List.length_append, List.length_singleton] at hj
    simp only [if_neg (show ¬ i = ls.length by omega)]
    by_cases ej : j = ls.length
    · simp only [if_pos ej]
      obtain ⟨z, hz⟩ : ∃ z, ls[i]? = some z := ⟨_, List.getElem?_eq_getElem (by omega)⟩
      obtain ⟨_, _, _, e3, _⟩ := h.each i z hz
      exact .inl e3
    · simp only [if_neg ej]
      exact h.apart i j hij (by omega)
/-- The row at block g has n layers, written or not. -/
def RowL (w : World) (g n k : Nat) : Prop := g < w.heap.size ∧ (∀ j, k ≤ j → j < n → w.cell? ⟨g, j * 2, none⟩ = some (.slice none 0 0) ∧ w.cell? ⟨g, j * 2 + 1, none⟩ = some (.bool false)) ∧ ∀ j, w.frozen? ⟨g, j, none⟩ = false
theorem RowL.below {w w' : World} {g n k : Nat} (h : RowL w g n k) (hb : Below w.heap.size w w') : RowL w' g n k := by
  obtain ⟨h0, h1, h2⟩ := h
  refine ⟨Nat.lt_of_lt_of_le h0 hb.size, fun j hk hj => ?_, fun j => (hb.frozen (p := ⟨g, j, none⟩) h0).trans (h2 j)⟩
  obtain ⟨a0, a1⟩ := h1 j hk hj
  exact ⟨(hb.cell (p := ⟨g, j * 2, none⟩) h0).trans a0, (hb.cell (p := ⟨g, j * 2 + 1, none⟩) h0).trans a1⟩
theorem RowL.next {w : World} {g n k : Nat} (h : RowL w g n k) (x y : Value) : RowL ((w.setCell ⟨g, k * 2, none⟩ x).setCell ⟨g, k * 2 + 1, none⟩ y) g n (k + 1) := by
  obtain ⟨h0, h1, h2⟩ := h
  refine ⟨by rw [World.size_setCell, World.size_setCell]; exact h0, fun j hk hj => ?_, fun j => by rw [World.frozen?_setCell, World.frozen?_setCell]; exact h2 j⟩
  obtain ⟨a0, a1⟩ := h1 j (by omega) hj
  refine ⟨?_, ?_⟩
  · rw [World.cell?_setCell_other _ _ _ _ (by intro e; injection e; omega), World.cell?_setCell_other _ _ _ _ (by intro e; injection e; omega)]; exact a0
  · rw [World.cell?_setCell_other _ _ _ _ (by intro e; injection e; omega), World.cell?_setCell_other _ _ _ _ (by intro e; injection e; omega)]; exact a1
theorem infoLy : (Tryz.prog.info? 36).map (fun i => (i.zero, i.size, i.bytes)) = some (some (.agg #[.slice none 0 0, .bool false]), 2, 32) := by kernel_rfl
theorem mk_lays (n : Nat) (hn : n ≤ 1048576) (w : World) :
    (Instr.makeSlice 24 (.int .i64 (n : Int)) (.int .i64 (n : Int))).run Tryz.prog w = .ok (.slice (some ⟨w.heap.size, 0, none⟩) n n) (w.alloc (.cells (madeCells #[.slice none 0 0, .bool false] (n * 2)) 36)) := by
  obtain ⟨i, hi, hzz⟩ := Option.map_eq_some_iff.1 infoLy
  simp only [Prod.mk.injEq] at hzz
  obtain ⟨hz, hs, hb⟩ := hzz
  have hr := run_make (P := Tryz.prog) w 24 36 i _ Tryz.underlying24 hi hz .i64 .i64 (n : Int) (n : Int) (by omega) (Int.le_refl _) (by rw [hb]; omega) (by omega)
  rw [Int.toNat_natCast, hs] at hr
  exact hr
theorem made_lays (w : World) (n : Nat) : RowL (w.alloc (.cells (madeCells #[.slice none 0 0, .bool false] (n * 2)) 36)) w.heap.size n 0 := by
  have hc : ∀ j, j < n * 2 → (w.alloc (.cells (madeCells #[.slice none 0 0, .bool false] (n * 2)) 36)).cell? ⟨w.heap.size, j, none⟩ = some ((#[.slice none 0 0, .bool false] : Array Value)[j % 2]!) := by
    intro j hj
    rw [World.cell?_alloc_at _ _ _ _ rfl]
    simp [madeCells, hj]
  refine ⟨by rw [World.size_alloc]; omega, fun j _ hj => ⟨?_, ?_⟩, fun j => World.frozen?_alloc_at _ _ _ _ rfl⟩
  · rw [hc _ (by omega), show j * 2 % 2 = 0 by omega]; rfl
  · rw [hc _ (by omega), show (j * 2 + 1) % 2 = 1 by omega]; rfl
/-- The copy of a layer: its dictionary is new memory of its own. -/
theorem toLy_any (u : Value) (l : Lay) (w : World) (h : EntsAt w u l.1) (hl : layIn l) :
    Calls Tryz.prog 129 #[lyV u l.2] w fun r w' => (∃ x, r = .returned (lyV x l.2) ∧ OwnEs w' w.heap.size w'.heap.size x l.1) ∧ Below w.heap.size w w' := by
  obtain ⟨es, t⟩ := l
  simp only at h ⊢
  have c := fun w' hb => toD_any u es w' (h.below (w' := w') hb) hl.1 hl.2
  obtain ⟨ua, ucap, rfl, _, _⟩ := h.cells
  unfold dV at c
  obtain ⟨m, hm⟩ : ∃ m, m = es.length := ⟨_, rfl⟩
  rw [← hm] at c ⊢
  have C := Lib.hid c
  have HM := Lib.hid hm
  clear h hl c hm
  unfold lyV
  go_enter Tryz.func129, Tryz.ntmps129
  go_wp2_with fail
  refine (C.out _ (below_al3 _ _ _ _)).mono ?_
  rintro r w1 ⟨⟨x, rfl, hx⟩, hb1⟩
  have D0 : Hid (BoxW w1 w.heap.size 163 (.slice ua m ucap) (.bool t)) := (((BoxW.new w _ _ _).below (below_al _ _) (by simp)).below (below_al _ _) (by simp; omega)).below hb1 (by simp; omega)
  have D1 : Hid (BoxW w1 (w.heap.size + 1) 36 (.slice none 0 0) (.bool false)) := by
    have := BoxW.new (w.alloc (.cells #[.slice ua m ucap, .bool t] 163)) 36 (.slice none 0 0) (.bool false)
    rw [World.size_alloc] at this
    exact (this.below (below_al _ _) (by simp)).below hb1 (by simp)
  have D2 : Hid (BoxW w1 (w.heap.size + 1 + 1) 36 (.slice none 0 0) (.bool false)) := by
    have := BoxW.new ((w.alloc (.cells #[.slice ua m ucap, .bool t] 163)).alloc (.cells #[.slice none 0 0, .bool false] 36)) 36 (.slice none 0 0) (.bool false)
    rw [World.size_alloc, World.size_alloc] at this
    exact this.below hb1 (by simp)
  have hs1 : w.heap.size + 3 ≤ w1.heap.size := by have := hb1.size; simp at this; omega
  have hxo : OwnEs w1 (w.heap.size + 3) w1.heap.size x es := hx.mono (by simp)
  have HX := Lib.hid hxo
  have HB := Lib.hid ((below_al3 w _ _ _).trans (hb1.mono (by simp; omega)))
  have a1 := D0.out.cell1
  have b0 := D2.out.cell0
  have b1 := D2.out.cell1
  have bf0 := D2.out.frozen 0
  have bf1 := D2.out.frozen 1
  have c0 := D1.out.cell0
  have c1 := D1.out.cell1
  have cf0 := D1.out.frozen 0
  have cf1 := D1.out.frozen 1
  obtain ⟨xa, xc, rfl, _, _⟩ := hxo.at.cells
  rw [← HM.out] at HX ⊢
  clear hb1 hx hxo C
  go_wp2
  refine bodyPost_ret (results_cell_row rfl _ _ (w.heap.size + 1) _ _ _ _ rfl (((D1.out.other (by omega)).other (by omega)).set0 _ |>.set1 _) Tryz.underlying36 rfl (by kernel_rfl)) rfl ?_
  refine ⟨⟨_, rfl, ?_⟩, ?_⟩
  · simp only [World.size_setCell]
    have ht : ∀ b o v, b < w.heap.size + 3 → ∀ wz, Touch (fun b => b < w.heap.size + 3) wz (wz.setCell ⟨b, o, none⟩ v) := fun b o v hb wz => (Touch.refl (fun b => b < w.heap.size + 3) wz).setCell (g := b) hb o v
    refine OwnEs.mono (HX.out.touch (T := fun b => b < w.heap.size + 3) ((((ht _ _ _ (by omega) _).trans (ht _ _ _ (by omega) _)).trans (ht _ _ _ (by omega) _)).trans (ht _ _ _ (by omega) _)) (fun b h1 _ h2 => by omega)) (by omega)
  · exact ((((HB.out.setCell (by simp; omega) _).setCell (by simp; omega) _).setCell (by simp) _).setCell (by simp) _)
set_option maxHeartbeats 1000000 in
/-- The copy of a slice of layers: new memory of its own. -/
theorem toLs_any (v : Value) (ls : List Lay) (w : World) (h : LaysAt w v ls) (hn : ls.length ≤ 1048576) (hx : ∀ l ∈ ls, layIn l) :
    Calls Tryz.prog 91 #[v] w fun r w' => (∃ u, r = .returned u ∧ OwnLs w' w.heap.size w'.heap.size u ls) ∧ Below w.heap.size w w' := by
  have HX := Lib.hid (fun k e (h : ls[k]? = some e) => hx e (List.mem_of_getElem? h))
  obtain ⟨a, cap, rfl, hcap, hC⟩ := h.cells
  have CT := Lib.hid (fun u e w h he => toLy_any u e w h he)
  obtain ⟨n, hnn⟩ : ∃ n, n = ls.length := ⟨_, rfl⟩
  rw [← hnn] at hn hcap ⊢
  have HN := Lib.hid hnn
  have HC := Lib.hid hC
  clear h hnn hC hx
  have hmk := fun w => mk_lays n hn w
  go_enter Tryz.func91, Tryz.ntmps91
  go_wp2_with fail
  clear hmk
  have hrow0 := made_lays w n
  have hst := LaysG.start (w := w.alloc (.cells (madeCells #[.slice none 0 0, .bool false] (n * 2)) 36)) (g := w.heap.size) hrow0.1 hrow0.2.2
  have hbel0 : Below w.heap.size w (w.alloc (.cells (madeCells #[.slice none 0 0, .bool false] (n * 2)) 36)) := (Below.refl _ _).alloc (Nat.le_refl _) _
  obtain ⟨B, hB⟩ : ∃ B, B = w.heap.size := ⟨_, rfl⟩
  rw [← hB] at hrow0 hst ⊢
  have HBB := Lib.hid hB
  clear hB
  go_loopw [4] (fun i wr => ∃ k : Nat, k ≤ n ∧ i = .int .i64 k ∧ Hid (∃ U L R, LaysG wr B wr.heap.size B U L R (ls.take k)) ∧ Hid (RowL wr B n k) ∧ Hid (Below w.heap.size w wr)) (fun i _ => n - (intOf i).toNat)
  case atStart => exact ⟨0, Nat.zero_le _, rfl, ⟨_, _, _, hst⟩, hrow0, hbel0⟩
  case round =>
    obtain ⟨k, hk, rfl, HG, HR, HB⟩ := hrel
    by_cases hlt : k < n
    · obtain ⟨e, he⟩ : ∃ e, ls[k]? = some e := ⟨_, List.getElem?_eq_getElem (by rw [← HN.out]; exact hlt)⟩
      obtain ⟨bk, o, x, rfl, hbk, g0, g1, gx⟩ := HC.out wr HB.out k e he
      have hxe := HX.out k e he
      have c := fun w' hb => CT.out x e w' (gx.below (w' := w') hb) hxe
      have HE := Lib.hid he
      obtain ⟨xs, t⟩ := e
      obtain ⟨xa, xc, rfl, _, _⟩ := gx.cells
      unfold lyV at c
      simp only at c g0 g1
      obtain ⟨m, hm⟩ : ∃ m, m = xs.length := ⟨_, rfl⟩
      rw [← hm] at c g0
      have C := Lib.hid c
      clear c he gx HC HX hxe hm
      go_wp2_with fail
      refine (C.out wr (Below.refl _ _)).mono ?_
      rintro r w1 ⟨⟨u, rfl, hu⟩, hb1⟩
      have HR1 := Lib.hid (HR.out.below hb1)
      obtain ⟨r0, r1⟩ := HR1.out.2.1 k (Nat.le_refl _) hlt
      have f0 := HR1.out.2.2 (k * 2)
      have f1 := HR1.out.2.2 (k * 2 + 1)
      have hlk : (ls.take k).length = k := by rw [List.length_take, ← HN.out]; omega
      have HG2 : Hid (∃ U L R, LaysG ((w1.setCell ⟨B, k * 2, none⟩ u).setCell ⟨B, k * 2 + 1, none⟩ (.bool t)) B ((w1.setCell ⟨B, k * 2, none⟩ u).setCell ⟨B, k * 2 + 1, none⟩ (.bool t)).heap.size B U L R (ls.take (k + 1))) := by
        obtain ⟨U, L, R, hU⟩ := HG.out
        have h2 := LaysG.snoc (l := (xs, t)) (u := u) hU hb1 hu (x := .slice none 0 0) (y := .bool false) (by rw [hlk]; exact r0) (by rw [hlk]; exact r1)
        rw [hlk] at h2
        rw [List.take_add_one, HE.out, Option.toList_some]
        exact ⟨_, _, _, h2⟩
      have HR2 := Lib.hid (HR1.out.next u (.bool t))
      have HB2 : Hid (Below w.heap.size w ((w1.setCell ⟨B, k * 2, none⟩ u).setCell ⟨B, k * 2 + 1, none⟩ (.bool t))) :=
        ((HB.out.trans (hb1.mono HB.out.size)).setCell (p := ⟨B, k * 2, none⟩) (by rw [HBB.out]; exact Nat.le_refl _) _).setCell (p := ⟨B, k * 2 + 1, none⟩) (by rw [HBB.out]; exact Nat.le_refl _) _
      obtain ⟨ua, uc, rfl, _, _⟩ := hu.at.cells
      clear hb1 hu HR HR1 HG HB HE hlk
      go_wp2
      go_roundw
      case rel => exact ⟨k + 1, by omega, by go_num, HG2, HR2, HB2⟩
      case measure => simp [intOf]; omega
    · obtain rfl : k = n := by omega
      have HS : Hid (OwnLs wr w.heap.size wr.heap.size (.slice (some ⟨B, 0, none⟩) k k) ls) := by
        obtain ⟨U, L, R, hU⟩ := HG.out
        have ht : ls.take k = ls := List.take_of_length_le (by rw [← HN.out]; exact Nat.le_refl _)
        rw [ht] at hU
        rcases Nat.eq_zero_or_pos k with h0 | h0
        · exact .inl ⟨List.length_eq_zero_iff.1 (by rw [← HN.out]; exact h0), _, _, by rw [h0]⟩
        · refine .inr ⟨B, k, U, L, R, by rw [← HN.out], by rw [← HN.out]; exact Nat.le_refl _, by rw [← HN.out]; exact h0, ?_⟩
          rw [← HBB.out]; exact hU
      clear HG HR
      go_wp2
      go_ret
      exact ⟨⟨_, rfl, HS.out⟩, HB.out⟩
theorem toS_any (v : Value) (ls : List Lay) (w : World) (h : LaysAt w v ls) (hn : ls.length ≤ 1048576) (hx : ∀ l ∈ ls, layIn l) :
    Calls Tryz.prog 43 #[dV v] w fun r w' => (∃ u, r = .returned (dV u) ∧ OwnLs w' w.heap.size w'.heap.size u ls) ∧ Below w.heap.size w w' := by
  have C := Lib.hid (fun w' hb => toLs_any v ls w' (h.below (w' := w') hb) hn hx)
  obtain ⟨a, cap, rfl, _, _⟩ := h.cells
  clear h hx
  unfold dV
  go_enter Tryz.func43, Tryz.ntmps43
  go_wp2_with fail
  refine (C.out _ (below_al3 _ _ _ _)).mono ?_
  rintro r w1 ⟨⟨x, rfl, hx⟩, hb1⟩
  obtain ⟨q0, q1, q2⟩ := boxes3 w (.slice a ls.length cap) (.slice none 0 0) (.slice none 0 0) 73 26 26
  have D1 : Hid (BoxV w1 (w.heap.size + 1) 26 (.slice none 0 0)) := q1.below hb1 (by simp)
  have D2 : Hid (BoxV w1 (w.heap.size + 1 + 1) 26 (.slice none 0 0)) := q2.below hb1 (by simp)
  have hs1 : w.heap.size + 3 ≤ w1.heap.size := by have := hb1.size; simp at this; omega
  have hxo : OwnLs w1 (w.heap.size + 3) w1.heap.size x ls := by simpa using hx
  have HX := Lib.hid hxo
  have HB := Lib.hid ((below_al3 w _ _ _).trans (hb1.mono (by simp; omega)))
  have b0 := D2.out.cell
  have bf0 := D2.out.frozen
  have c0 := D1.out.cell
  have cf0 := D1.out.frozen
  obtain ⟨xa, xc, rfl, _, _⟩ := hxo.at.cells
  clear hb1 hx hxo C q0 q1 q2
  go_wp2
  refine bodyPost_ret (results_cell_row rfl _ _ (w.heap.size + 1) _ _ _ _ rfl ((D1.out.other (by omega)).set _) Tryz.underlying26 rfl (by kernel_rfl)) rfl ?_
  refine ⟨⟨_, rfl, ?_⟩, ?_⟩
  · rw [World.size_setCell, World.size_setCell]
    exact OwnLs.mono ((HX.out.touch (T := fun b => b < w.heap.size + 3) ((Touch.refl _ _).setCell (by show _ < _; omega) _ _) (fun b h1 _ h2 => by omega)).touch (T := fun b => b < w.heap.size + 3) ((Touch.refl _ _).setCell (by show _ < _; omega) _ _) (fun b h1 _ h2 => by omega)) (by omega)
  · exact (HB.out.setCell (by simp; omega) _).setCell (by simp) _
end Go.Proofs.YtpalpbpamcaakaaGreat
