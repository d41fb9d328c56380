/-
  PIECES IN MEMORY: slices of pieces, and the laws' helpers on them (a piece is an int, an int and a string).
-/
import Derived.Test.YthigdblloddepaaMarkA
import Derived.Test.YthigdblloddepaaAtRow
import Derived.Test.YthigdblloddepaaTouch
import Derived.Test.YthigdblloddepaaPlainSeg
import Derived.Deep.Slices
import Derived.Deep.Strs
namespace Go.Proofs.Ythigdblloddepaa
set_option maxRecDepth 100000
open Go.RowKit

/-- A piece: From, Count, Text. -/
abbrev Pc := Pl.Pc
/-- The zero piece. -/
def pc0 : Pc := (0, 0, ByteArray.empty)
/-- An event, as a value. -/
abbrev pcV (e : Pc) : Value := .agg #[.int .i64 e.1, .int .i64 e.2.1, .string e.2.2]
/-- The value v is a slice whose elements are the pieces es. -/
def PcsAt (w : World) (v : Value) (es : List Pc) : Prop :=
  ∃ (a : Option Addr) (cap : Nat), v = .slice a es.length cap ∧ es.length ≤ cap ∧ (es = [] ∨ ∃ bk o, a = some ⟨bk, o, none⟩ ∧ bk < w.heap.size ∧ ∀ (j : Nat) e, es[j]? = some e →
    w.cell? ⟨bk, o + j * 3, none⟩ = some (.int .i64 e.1) ∧ w.cell? ⟨bk, o + j * 3 + 1, none⟩ = some (.int .i64 e.2.1) ∧ w.cell? ⟨bk, o + j * 3 + 2, none⟩ = some (.string e.2.2))
theorem PcsAt.below {w w' : World} {v : Value} {es : List Pc} (h : PcsAt w v es) (hb : Below w.heap.size w w') : PcsAt w' v es := by
  obtain ⟨a, cap, hv, hc, h⟩ := h
  refine ⟨a, cap, hv, hc, ?_⟩
  rcases h with h | ⟨bk, o, ha, hk, h⟩
  · exact .inl h
  · refine .inr ⟨bk, o, ha, Nat.lt_of_lt_of_le hk hb.size, fun j e he => ?_⟩
    obtain ⟨h0, h1, h2⟩ := h j e he
    exact ⟨(hb.cell (p := ⟨bk, o + j * 3, none⟩) hk).trans h0, (hb.cell (p := ⟨bk, o + j * 3 + 1, none⟩) hk).trans h1, (hb.cell (p := ⟨bk, o + j * 3 + 2, none⟩) hk).trans h2⟩
theorem PcsAt.nil (w : World) (a : Option Addr) (cap : Nat) : PcsAt w (.slice a 0 cap) [] := ⟨a, cap, rfl, Nat.zero_le _, .inl rfl⟩

theorem toPc_any (e : Pc) (w : World) :
    Calls Try.prog 45 #[pcV e] w fun r w' => r = .returned (pcV e) ∧ Below w.heap.size w w' := by
  obtain ⟨t, k, d⟩ := e
  go_enter Try.func45, Try.ntmps45
  have hg : (((w.alloc (.cells #[.int .i64 t, .int .i64 k, .string d] 73)).alloc (.cells #[.int .i64 t, .int .i64 k, .string d] 28)).alloc (.cells #[.int .i64 t, .int .i64 k, .string d] 28)).heap[w.heap.size + 1]? = some (.cells #[.int .i64 t, .int .i64 k, .string d] 28 (0, 0)) := by
    have e : ∀ (W : World) (o : Obj), (W.alloc o).heap[W.heap.size]? = some o := fun W o => by show (W.heap.push o)[W.heap.size]? = _; simp
    rw [Lib.alloc_old _ _ _ (by simp)]
    have e1 := e (w.alloc (.cells #[.int .i64 t, .int .i64 k, .string d] 73)) (.cells #[.int .i64 t, .int .i64 k, .string d] 28)
    rw [World.size_alloc] at e1
    exact e1
  go_wp2
  (try simp only [Exit.inBlock, Exit.then])
  refine bodyPost_ret (results_cell_row rfl _ _ (w.heap.size + 1) _ _ _ _ rfl hg Try.underlying28 rfl (by kernel_rfl)) rfl ?_
  exact ⟨rfl, (((Below.refl _ _).alloc (Nat.le_refl _) _).alloc (by simp) _).alloc (by simp; omega) _⟩
theorem eqPc_same (e : Pc) (w : World) :
    Calls Try.prog 13 #[pcV e, pcV e] w fun r w' => r = .returned (.bool true) ∧ Below w.heap.size w w' := by
  obtain ⟨t, k, d⟩ := e
  go_enter Try.func13, Try.ntmps13
  go_wp2
  go_ret
  exact ⟨rfl, ((Below.refl _ _).alloc (Nat.le_refl _) _).alloc (by simp) _⟩

/-- Block g holds n pieces, none frozen. -/
def RowPc (w : World) (g n : Nat) (f : Nat → Pc) : Prop :=
  g < w.heap.size ∧ (∀ j, j < n → w.cell? ⟨g, j * 3, none⟩ = some (.int .i64 (f j).1) ∧ w.cell? ⟨g, j * 3 + 1, none⟩ = some (.int .i64 (f j).2.1) ∧ w.cell? ⟨g, j * 3 + 2, none⟩ = some (.string (f j).2.2)) ∧ ∀ j, w.frozen? ⟨g, j, none⟩ = false
theorem RowPc.below {w w' : World} {g n : Nat} {f : Nat → Pc} (h : RowPc w g n f) (hb : Below w.heap.size w w') : RowPc w' g n f := by
  obtain ⟨h0, h1, h2⟩ := h
  refine ⟨Nat.lt_of_lt_of_le h0 hb.size, fun j hj => ?_, fun j => (hb.frozen (p := ⟨g, j, none⟩) h0).trans (h2 j)⟩
  obtain ⟨a0, a1, a2⟩ := h1 j hj
  exact ⟨(hb.cell (p := ⟨g, j * 3, none⟩) h0).trans a0, (hb.cell (p := ⟨g, j * 3 + 1, none⟩) h0).trans a1, (hb.cell (p := ⟨g, j * 3 + 2, none⟩) h0).trans a2⟩
/-- An event is written into the row. -/
theorem RowPc.set {w : World} {g n : Nat} {f : Nat → Pc} (h : RowPc w g n f) (k : Nat) (hk : k < n) (e : Pc) :
    RowPc (((w.setCell ⟨g, k * 3, none⟩ (.int .i64 e.1)).setCell ⟨g, k * 3 + 1, none⟩ (.int .i64 e.2.1)).setCell ⟨g, k * 3 + 2, none⟩ (.string e.2.2)) g n (fun j => if j = k then e else f j) := by
  obtain ⟨h0, h1, h2⟩ := h
  obtain ⟨k0, k1, k2⟩ := h1 k hk
  refine ⟨by rw [World.size_setCell, World.size_setCell, World.size_setCell]; exact h0, fun j hj => ?_, fun j => by rw [World.frozen?_setCell, World.frozen?_setCell, World.frozen?_setCell]; exact h2 j⟩
  obtain ⟨a0, a1, a2⟩ := h1 j hj
  by_cases hjk : j = k
  · subst hjk
    simp only [if_true]
    refine ⟨?_, ?_, ?_⟩
    · rw [World.cell?_setCell_other _ _ _ _ (by intro e; injection e; omega), World.cell?_setCell_other _ _ _ _ (by intro e; injection e; omega)]
      exact World.cell?_setCell_same _ _ _ a0
    · rw [World.cell?_setCell_other _ _ _ _ (by intro e; injection e; omega)]
      refine World.cell?_setCell_same _ _ _ (u := .int .i64 (f j).2.1) ?_
      rw [World.cell?_setCell_other _ _ _ _ (by intro e; injection e; omega)]; exact a1
    · refine World.cell?_setCell_same _ _ _ (u := .string (f j).2.2) ?_
      rw [World.cell?_setCell_other _ _ _ _ (by intro e; injection e; omega), World.cell?_setCell_other _ _ _ _ (by intro e; injection e; omega)]; exact a2
  · simp only [if_neg hjk]
    refine ⟨?_, ?_, ?_⟩
    · rw [World.cell?_setCell_other _ _ _ _ (by intro e; injection e; omega), World.cell?_setCell_other _ _ _ _ (by intro e; injection e; omega), World.cell?_setCell_other _ _ _ _ (by intro e; injection e; omega)]; exact a0
    · rw [World.cell?_setCell_other _ _ _ _ (by intro e; injection e; omega), World.cell?_setCell_other _ _ _ _ (by intro e; injection e; omega), World.cell?_setCell_other _ _ _ _ (by intro e; injection e; omega)]; exact a1
    · rw [World.cell?_setCell_other _ _ _ _ (by intro e; injection e; omega), World.cell?_setCell_other _ _ _ _ (by intro e; injection e; omega), World.cell?_setCell_other _ _ _ _ (by intro e; injection e; omega)]; exact a2
theorem RowPc.congr {w : World} {g n : Nat} {f f' : Nat → Pc} (h : RowPc w g n f) (hf : ∀ j, j < n → f j = f' j) : RowPc w g n f' := by
  refine ⟨h.1, fun j hj => ?_, h.2.2⟩
  rw [← hf j hj]; exact h.2.1 j hj
theorem below_set3 {w w1 : World} {base g : Nat} (h : Below base w w1) (hg : base ≤ g) (a b c : Nat) (x y z : Value) : Below base w (((w1.setCell ⟨g, a, none⟩ x).setCell ⟨g, b, none⟩ y).setCell ⟨g, c, none⟩ z) :=
  ((h.setCell (p := ⟨g, a, none⟩) hg x).setCell (p := ⟨g, b, none⟩) hg y).setCell (p := ⟨g, c, none⟩) hg z
theorem rowPc_at {w : World} {g n : Nat} {f : Nat → Pc} {es : List Pc} (h : RowPc w g n f) (hn : n = es.length) (hf : ∀ j e, es[j]? = some e → f j = e) (cap : Nat) (hc : n ≤ cap) : PcsAt w (.slice (some ⟨g, 0, none⟩) n cap) es := by
  subst hn
  refine ⟨_, cap, rfl, hc, .inr ⟨g, 0, rfl, h.1, fun j e he => ?_⟩⟩
  have hj : j < es.length := by
    rcases Nat.lt_or_ge j es.length with h' | h'
    · exact h'
    · rw [List.getElem?_eq_none h'] at he; cases he
  have := h.2.1 j hj
  rw [hf j e he] at this
  rw [Nat.zero_add]; exact this
/-- v is a slice of n pieces of its own, from block 'base' on. -/
def OwnPcs (w : World) (base : Nat) (v : Value) (n : Nat) (f : Nat → Pc) : Prop :=
  (n = 0 ∧ ∃ a cap, v = .slice a 0 cap) ∨ ∃ g cap, v = .slice (some ⟨g, 0, none⟩) n cap ∧ n ≤ cap ∧ base ≤ g ∧ 0 < n ∧ RowPc w g n f
theorem OwnPcs.below {w w' : World} {base : Nat} {v : Value} {n : Nat} {f : Nat → Pc} (h : OwnPcs w base v n f) (hb : Below w.heap.size w w') : OwnPcs w' base v n f := by
  rcases h with h | ⟨g, cap, hv, hn, hg, h0, hr⟩
  · exact .inl h
  · exact .inr ⟨g, cap, hv, hn, hg, h0, hr.below hb⟩
theorem OwnPcs.at {w : World} {base : Nat} {v : Value} {n : Nat} {f : Nat → Pc} {es : List Pc} (h : OwnPcs w base v n f) (hn : n = es.length) (hf : ∀ j e, es[j]? = some e → f j = e) : PcsAt w v es := by
  rcases h with ⟨h0, a, cap, rfl⟩ | ⟨g, cap, rfl, hc, _, _, hr⟩
  · have : es = [] := List.length_eq_zero_iff.1 (by omega)
    subst this
    exact PcsAt.nil _ _ _
  · exact rowPc_at hr hn hf cap hc
theorem infoPc : (Try.prog.info? 28).map (fun i => (i.zero, i.size, i.bytes)) = some (some (.agg #[.int .i64 0, .int .i64 0, .string ByteArray.empty]), 3, 32) := by kernel_rfl

theorem mk_pcs (n : Nat) (hn : n ≤ 1048576) (w : World) :
    (Instr.makeSlice 40 (.int .i64 (n : Int)) (.int .i64 (n : Int))).run Try.prog w = .ok (.slice (some ⟨w.heap.size, 0, none⟩) n n) (w.alloc (.cells (madeCells #[.int .i64 0, .int .i64 0, .string ByteArray.empty] (n * 3)) 28)) := by
  obtain ⟨i, hi, hzz⟩ := Option.map_eq_some_iff.1 infoPc
  simp only [Prod.mk.injEq] at hzz
  obtain ⟨hz, hs, hb⟩ := hzz
  have hr := run_make (P := Try.prog) w 40 28 i _ Try.underlying40 hi hz .i64 .i64 (n : Int) (n : Int) (by omega) (Int.le_refl _) (by rw [hb]; omega) (by omega)
  rw [Int.toNat_natCast, hs] at hr
  exact hr
theorem made_pcs (w : World) (n : Nat) : RowPc (w.alloc (.cells (madeCells #[.int .i64 0, .int .i64 0, .string ByteArray.empty] (n * 3)) 28)) w.heap.size n (fun _ => pc0) := by
  have hc : ∀ j, j < n * 3 → (w.alloc (.cells (madeCells #[.int .i64 0, .int .i64 0, .string ByteArray.empty] (n * 3)) 28)).cell? ⟨w.heap.size, j, none⟩ = some ((#[.int .i64 0, .int .i64 0, .string ByteArray.empty] : Array Value)[j % 3]!) := by
    intro j hj
    rw [World.cell?_alloc_at _ _ _ _ rfl]
    simp [madeCells, hj]
  refine ⟨by rw [World.size_alloc]; omega, fun j hj => ⟨?_, ?_, ?_⟩, fun j => World.frozen?_alloc_at _ _ _ _ rfl⟩
  · rw [hc _ (by omega), show j * 3 % 3 = 0 by omega]; rfl
  · rw [hc _ (by omega), show (j * 3 + 1) % 3 = 1 by omega]; rfl
  · rw [hc _ (by omega), show (j * 3 + 2) % 3 = 2 by omega]; rfl

set_option maxHeartbeats 1000000 in
/-- The copy of a slice of pieces: new memory with the same pieces. -/
theorem toPcs_any (v : Value) (es : List Pc) (w : World) (h : PcsAt w v es) (hn : es.length ≤ 1048576) :
    Calls Try.prog 25 #[v] w fun e w' => (∃ u, e = .returned u ∧ OwnPcs w' w.heap.size u es.length (fun j => es.getD j pc0)) ∧ Below w.heap.size w w' := by
  obtain ⟨a, cap, rfl, hcap, h⟩ := h
  obtain ⟨n, hnn⟩ : ∃ n, n = es.length := ⟨_, rfl⟩
  rw [← hnn] at hn hcap ⊢
  have HN := Lib.hid hnn
  have HB : Hid (∀ w1 : World, Below w.heap.size w w1 → ∀ (j : Nat) e, 0 < n → es[j]? = some e → ∃ bk o, a = some ⟨bk, o, none⟩ ∧ bk < w.heap.size ∧ w1.cell? ⟨bk, o + j * 3, none⟩ = some (.int .i64 e.1) ∧ w1.cell? ⟨bk, o + j * 3 + 1, none⟩ = some (.int .i64 e.2.1) ∧ w1.cell? ⟨bk, o + j * 3 + 2, none⟩ = some (.string e.2.2)) := by
    intro w1 hb j e h0 he
    rcases h with rfl | ⟨bk, o, ha, hk, h⟩
    · simp at hnn; omega
    · obtain ⟨g0, g1, g2⟩ := h j e he
      exact ⟨bk, o, ha, hk, (hb.cell (p := ⟨bk, o + j * 3, none⟩) hk).trans g0, (hb.cell (p := ⟨bk, o + j * 3 + 1, none⟩) hk).trans g1, (hb.cell (p := ⟨bk, o + j * 3 + 2, none⟩) hk).trans g2⟩
  have CT := Lib.hid (fun e w => toPc_any e w)
  clear h hnn
  have hmk := fun w => mk_pcs n hn w
  go_enter Try.func25, Try.ntmps25
  go_wp2_with fail
  clear hmk
  have hrow0 := made_pcs w n
  have hbel0 : Below w.heap.size w (w.alloc (.cells (madeCells #[.int .i64 0, .int .i64 0, .string ByteArray.empty] (n * 3)) 28)) := (Below.refl _ _).alloc (Nat.le_refl _) _
  obtain ⟨B, hB⟩ : ∃ B, B = w.heap.size := ⟨_, rfl⟩
  rw [← hB] at hrow0 ⊢
  have HBB := Lib.hid hB
  clear hB
  go_loopw [4] (fun i wr => ∃ k : Nat, k ≤ n ∧ i = .int .i64 k ∧ Hid (RowPc wr B n (fun j => if j < k then es.getD j pc0 else pc0)) ∧ Below w.heap.size w wr) (fun i _ => n - (intOf i).toNat)
  case atStart => exact ⟨0, Nat.zero_le _, rfl, hrow0, hbel0⟩
  case round =>
    obtain ⟨k, hk, rfl, HR, hbel⟩ := hrel
    by_cases hlt : k < n
    · obtain ⟨e, he⟩ : ∃ e, es[k]? = some e := ⟨_, List.getElem?_eq_getElem (by rw [← HN.out]; exact hlt)⟩
      obtain ⟨bk, o, rfl, hbk, g0, g1, g2⟩ := HB.out wr hbel k e (by omega) he
      go_wp2_with fail
      refine (CT.out e _).mono ?_
      rintro r w1 ⟨rfl, hb1⟩
      have HR1 := Lib.hid (HR.out.below hb1)
      obtain ⟨r0, r1, r2⟩ := HR1.out.2.1 k hlt
      simp only [Nat.lt_irrefl, if_false] at r0 r1 r2
      have f0 := HR1.out.2.2 (k * 3)
      have f1 := HR1.out.2.2 (k * 3 + 1)
      have f2 := HR1.out.2.2 (k * 3 + 2)
      have HR2 : Hid (RowPc (((w1.setCell ⟨B, k * 3, none⟩ (.int .i64 e.1)).setCell ⟨B, k * 3 + 1, none⟩ (.int .i64 e.2.1)).setCell ⟨B, k * 3 + 2, none⟩ (.string e.2.2)) B n (fun j => if j < k + 1 then es.getD j pc0 else pc0)) := by
        refine (HR1.out.set k hlt e).congr fun j hj => ?_
        by_cases hjk : j = k
        · subst hjk; simp [List.getD, he]
        · rw [if_neg hjk]
          by_cases hjl : j < k
          · rw [if_pos hjl, if_pos (by omega)]
          · rw [if_neg hjl, if_neg (by omega)]
      have HBl : Hid (Below w.heap.size w (((w1.setCell ⟨B, k * 3, none⟩ (.int .i64 e.1)).setCell ⟨B, k * 3 + 1, none⟩ (.int .i64 e.2.1)).setCell ⟨B, k * 3 + 2, none⟩ (.string e.2.2))) :=
        below_set3 (hbel.trans (hb1.mono hbel.size)) (by rw [HBB.out]; exact Nat.le_refl _) _ _ _ _ _ _
      clear HR HR1 hbel hb1 he
      go_wp2
      go_roundw
      case rel => exact ⟨k + 1, by omega, by go_num, HR2, HBl.out⟩
      case measure => simp [intOf]; omega
    · obtain rfl : k = n := by omega
      have HS : Hid (OwnPcs wr w.heap.size (.slice (some ⟨B, 0, none⟩) k k) k (fun j => es.getD j pc0)) := by
        rcases Nat.eq_zero_or_pos k with h0 | h0
        · subst h0; exact .inl ⟨rfl, _, _, rfl⟩
        · exact .inr ⟨B, k, rfl, Nat.le_refl _, by rw [HBB.out]; exact Nat.le_refl _, h0, HR.out.congr fun j hj => by rw [if_pos hj]⟩
      clear HR
      go_wp2
      go_ret
      exact ⟨⟨_, rfl, HS.out⟩, hbel⟩


theorem szPc_any (e : Pc) (left : Int) (w : World) (hl : 0 ≤ left) (hl2 : left ≤ 1048576) (ht : e.2.2.size ≤ maxLen) :
    Calls Try.prog 43 #[pcV e, .int .i64 left] w fun r w' => r = .returned (.int .i64 (if left < e.2.2.size then -1 else left - e.2.2.size)) ∧ Below w.heap.size w w' := by
  obtain ⟨f, c, t⟩ := e
  unfold maxLen at ht
  dsimp only at ht ⊢
  by_cases h : left < t.size
  · rw [if_pos h]
    go_enter Try.func43, Try.ntmps43
    go_wp2
    go_ret
    exact ⟨rfl, (Below.refl _ _).alloc (Nat.le_refl _) _⟩
  · rw [if_neg h]
    go_enter Try.func43, Try.ntmps43
    go_wp2
    go_ret
    exact ⟨rfl, (Below.refl _ _).alloc (Nat.le_refl _) _⟩
set_option maxHeartbeats 1000000 in
theorem szPcs_any (L : Int) (hL0 : 0 ≤ L) (hL : L ≤ 1048576) (v : Value) (ls : List Pc) (w : World) (h : PcsAt w v ls) (hn : ls.length ≤ maxLen) (hx : ∀ e ∈ ls, e.2.2.size ≤ maxLen) :
    Calls Try.prog 23 #[v, .int .i64 L] w fun e w' => (∃ r : Int, e = .returned (.int .i64 r) ∧ (0 ≤ r → ls.length ≤ 1048576 ∧ ∀ e ∈ ls, e.2.2.size ≤ 1048576)) ∧ Below w.heap.size w w' := by
  unfold maxLen at hn
  have HX := Lib.hid (fun k e (h : ls[k]? = some e) => hx e (List.mem_of_getElem? h))
  obtain ⟨a, cap, rfl, hcap, h⟩ := h
  obtain ⟨n, hnn⟩ : ∃ n, n = ls.length := ⟨_, rfl⟩
  rw [← hnn] at hn hcap ⊢
  have HN := Lib.hid hnn
  have HB : Hid (∀ w1 : World, Below w.heap.size w w1 → ∀ (j : Nat) e, 0 < n → ls[j]? = some e → ∃ bk o, a = some ⟨bk, o, none⟩ ∧ bk < w.heap.size ∧ w1.cell? ⟨bk, o + j * 3, none⟩ = some (.int .i64 e.1) ∧ w1.cell? ⟨bk, o + j * 3 + 1, none⟩ = some (.int .i64 e.2.1) ∧ w1.cell? ⟨bk, o + j * 3 + 2, none⟩ = some (.string e.2.2)) := by
    intro w1 hb j e h0 he
    rcases h with rfl | ⟨bk, o, ha, hk, h⟩
    · simp at hnn; omega
    · obtain ⟨g0, g1, g2⟩ := h j e he
      exact ⟨bk, o, ha, hk, (hb.cell (p := ⟨bk, o + j * 3, none⟩) hk).trans g0, (hb.cell (p := ⟨bk, o + j * 3 + 1, none⟩) hk).trans g1, (hb.cell (p := ⟨bk, o + j * 3 + 2, none⟩) hk).trans g2⟩
  have CZ := Lib.hid (fun e left w hl hl2 ht => szPc_any e left w hl hl2 ht)
  clear h hnn hx
  by_cases hbig : L < (n : Int)
  · go_enter Try.func23, Try.ntmps23
    go_wp2
    go_ret
    exact ⟨⟨-1, rfl, fun h => absurd h (by decide)⟩, Below.refl _ _⟩
  · go_enter Try.func23, Try.ntmps23
    go_wp2_with fail
    go_loopw [1, 5] (fun l i wr => ∃ (k : Nat) (r : Int), k ≤ n ∧ i = .int .i64 k ∧ l = .int .i64 r ∧ 0 ≤ r ∧ r ≤ 1048576 ∧ Hid (∀ e ∈ ls.take k, e.2.2.size ≤ 1048576) ∧ Below w.heap.size w wr) (fun _ i _ => n - (intOf i).toNat)
    case atStart => exact ⟨0, L - n, Nat.zero_le _, rfl, by first | rfl | go_num, by omega, by omega, by exact Lib.hid (fun e he => by simp at he), Below.refl _ _⟩
    case round =>
      obtain ⟨k, r, hk, rfl, rfl, hr0, hr1, HS, hbel⟩ := hrel
      by_cases hlt : k < n
      · obtain ⟨e, he⟩ : ∃ e, ls[k]? = some e := ⟨_, List.getElem?_eq_getElem (by rw [← HN.out]; exact hlt)⟩
        have hsz := HX.out k e he
        obtain ⟨bk, o, rfl, hbk, g0, g1, g2⟩ := HB.out wr hbel k e (by omega) he
        have cz := fun w => CZ.out e r w hr0 hr1 hsz
        have hnext : e.2.2.size ≤ r → ∀ x ∈ ls.take (k + 1), x.2.2.size ≤ 1048576 := by
          intro hq x hxm
          rw [List.take_add_one, he, List.mem_append] at hxm
          rcases hxm with hxm | hxm
          · exact HS.out x hxm
          · simp at hxm; subst hxm; omega
        obtain ⟨m, hm⟩ : ∃ m, m = e.2.2.size := ⟨_, rfl⟩
        rw [← hm] at cz hnext
        have HNext := Lib.hid hnext
        by_cases hq : r < (m : Int)
        · have C : Hid _ := Lib.hid (fun w => by have := cz w; rw [if_pos hq] at this; exact this)
          clear cz hnext hm he HS
          go_wp2_with fail
          refine (C.out _).mono ?_
          rintro r' w1 ⟨rfl, hb1⟩
          have HB1 := Lib.hid (hbel.trans (hb1.mono hbel.size))
          clear hb1
          go_wp2
          go_ret
          exact ⟨⟨-1, rfl, fun h => absurd h (by decide)⟩, HB1.out⟩
        · have C : Hid _ := Lib.hid (fun w => by have := cz w; rw [if_neg hq] at this; exact this)
          have HS2 := Lib.hid (HNext.out (by omega))
          obtain ⟨q, hqq⟩ : ∃ q : Int, q = r - m := ⟨_, rfl⟩
          rw [← hqq] at C
          have hq0 : 0 ≤ q := by omega
          have hq1 : q ≤ 1048576 := by omega
          clear cz hnext hm he HS HNext hqq hq
          go_wp2_with fail
          refine (C.out _).mono ?_
          rintro r' w1 ⟨rfl, hb1⟩
          have HB1 := Lib.hid (hbel.trans (hb1.mono hbel.size))
          clear hb1
          go_wp2
          go_roundw
          case rel => exact ⟨k + 1, q, by omega, by go_num, rfl, hq0, hq1, HS2, HB1.out⟩
          case measure => simp [intOf]; omega
      · obtain rfl : k = n := by omega
        have hs := HS.out
        rw [List.take_of_length_le (by rw [← HN.out]; exact Nat.le_refl _)] at hs
        have HS2 := Lib.hid hs
        clear hs HS
        go_wp2
        go_ret
        exact ⟨⟨r, rfl, fun _ => ⟨by omega, HS2.out⟩⟩, hbel⟩
set_option maxHeartbeats 1000000 in
/-- Two slices with the same pieces are equal. -/
theorem eqPcs_same (v u : Value) (es : List Pc) (w : World) (hv : PcsAt w v es) (hu : PcsAt w u es) (hn : es.length ≤ 2097152) :
    Calls Try.prog 18 #[v, u] w fun e w' => e = .returned (.bool true) ∧ Below w.heap.size w w' := by
  obtain ⟨a, cap, rfl, hcap, hv⟩ := hv
  obtain ⟨b, cap', rfl, hcap', hu⟩ := hu
  obtain ⟨n, hnn⟩ : ∃ n, n = es.length := ⟨_, rfl⟩
  rw [← hnn] at hn hcap hcap' ⊢
  have HN := Lib.hid hnn
  have key : ∀ (a : Option Addr), (es = [] ∨ ∃ bk o, a = some ⟨bk, o, none⟩ ∧ bk < w.heap.size ∧ ∀ (j : Nat) e, es[j]? = some e →
    w.cell? ⟨bk, o + j * 3, none⟩ = some (.int .i64 e.1) ∧ w.cell? ⟨bk, o + j * 3 + 1, none⟩ = some (.int .i64 e.2.1) ∧ w.cell? ⟨bk, o + j * 3 + 2, none⟩ = some (.string e.2.2)) → Hid (∀ w1 : World, Below w.heap.size w w1 → ∀ (j : Nat) e, 0 < n → es[j]? = some e → ∃ bk o, a = some ⟨bk, o, none⟩ ∧ w1.cell? ⟨bk, o + j * 3, none⟩ = some (.int .i64 e.1) ∧ w1.cell? ⟨bk, o + j * 3 + 1, none⟩ = some (.int .i64 e.2.1) ∧ w1.cell? ⟨bk, o + j * 3 + 2, none⟩ = some (.string e.2.2)) := by
    intro a h w1 hb j e h0 he
    rcases h with h | ⟨bk, o, ha, hk, h⟩
    · rw [h] at hnn; simp at hnn; omega
    · obtain ⟨g0, g1, g2⟩ := h j e he
      exact ⟨bk, o, ha, (hb.cell (p := ⟨bk, o + j * 3, none⟩) hk).trans g0, (hb.cell (p := ⟨bk, o + j * 3 + 1, none⟩) hk).trans g1, (hb.cell (p := ⟨bk, o + j * 3 + 2, none⟩) hk).trans g2⟩
  have HV := key a hv
  have HU := key b hu
  have CE := Lib.hid (fun e w => eqPc_same e w)
  clear hv hu hnn key
  go_enter Try.func18, Try.ntmps18
  go_wp2_with fail
  go_loopw [5] (fun i wr => ∃ k : Nat, k ≤ n ∧ i = .int .i64 k ∧ Below w.heap.size w wr) (fun i _ => n - (intOf i).toNat)
  case atStart => exact ⟨0, Nat.zero_le _, rfl, Below.refl _ _⟩
  case round =>
    obtain ⟨k, hk, rfl, hbel⟩ := hrel
    by_cases hlt : k < n
    · obtain ⟨e, he⟩ : ∃ e, es[k]? = some e := ⟨_, List.getElem?_eq_getElem (by rw [← HN.out]; exact hlt)⟩
      obtain ⟨bk, o, rfl, g0, g1, g2⟩ := HV.out wr hbel k e (by omega) he
      obtain ⟨bk', o', rfl, g0', g1', g2'⟩ := HU.out wr hbel k e (by omega) he
      clear he
      go_wp2_with fail
      go_region_with (go_at_call 13; refine (CE.out e _).mono ?_; rintro r w1 ⟨rfl, hb1⟩; have hbx : Below w.heap.size w w1 := hbel.trans (Below.trans (by first | exact Below.refl _ _ | exact (Below.refl _ _).drew) (hb1.mono hbel.size)))
      all_goals go_wp2
      all_goals go_roundw
      all_goals first
        | exact ⟨k + 1, by omega, by go_num, by repeat (first | exact hbx | apply Below.drew)⟩
        | (simp [intOf]; omega)
    · go_wp2
      go_ret
      exact ⟨rfl, hbel⟩


/-- The slice that came in holds the pieces es. -/
def PcsIn (w : World) (a : Option Addr) (n c : Nat) (es : List Pc) : Prop :=
  n ≤ maxLen ∧ es.length = n ∧ PcsAt w (.slice a n c) es ∧ ∀ e ∈ es, (Lit.int .i64 e.1).wf = true ∧ (Lit.int .i64 e.2.1).wf = true ∧ e.2.2.size ≤ maxLen

theorem cells_three {w : World} {base : Nat} {b o : Nat} {cs : List Value} {x y z : Value} (h : w.cells? base ⟨b, o, none⟩ 3 = some cs) (h0 : (cs.drop 0).take 1 = [x]) (h1 : (cs.drop 1).take 1 = [y]) (h2 : (cs.drop 2).take 1 = [z]) :
    w.cell? ⟨b, o, none⟩ = some x ∧ w.cell? ⟨b, o + 1, none⟩ = some y ∧ w.cell? ⟨b, o + 2, none⟩ = some z := by
  obtain ⟨_, hl, hc⟩ := World.cells?_some h
  match cs, hl with
  | [p, q, r], _ =>
    simp at h0 h1 h2
    subst h0 h1 h2
    have c0 := hc 0 (by omega)
    have c1 := hc 1 (by omega)
    have c2 := hc 2 (by omega)
    simp [Addr.add] at c0 c1 c2
    exact ⟨c0, c1, c2⟩

theorem open_pcs {H : Type} {enc : TypeId × Value → H} {P : Program} {w : World} {base : Nat} {spare : Nat → Bool} {held : Bool} {t e ti tb : TypeId} {n0 n1 n2 : Field} {fuel : Nat} {cs : List Value} {x : DataW H × List MemPlace}
    (ht : P.underlying t = some (.slice e)) (he : P.underlying e = some (.struct #[n0, n1, n2])) (hc : P.cellsOf e = 3) (hi1 : P.cellsOf ti = 1) (hb1 : P.cellsOf tb = 1)
    (f0 : n0.type = ti ∧ n0.offset = 0) (f1 : n1.type = ti ∧ n1.offset = 1) (f2 : n2.type = tb ∧ n2.offset = 2)
    (hi : P.underlying ti = some (.int .i64)) (hb : P.underlying tb = some .string) (h : DataW.trod enc P w base spare held fuel t cs = some x) :
    ∃ (a : Option Addr) (n c : Nat) (es : List Pc), cs = [.slice a n c] ∧ PcsIn w a n c es := by
  rcases Go.Deep.open_slice ht h with ⟨rfl, _⟩ | ⟨a, len, cap, m, k, D, Pls, rfl, _, hl, hm, hmm, _, hx⟩
  · exact ⟨none, 0, 0, [], rfl, Nat.zero_le _, rfl, PcsAt.nil _ _ _, fun e h => absurd h List.not_mem_nil⟩
  · have hlm : len ≤ m := by rw [hmm]; split <;> omega
    have hex : ∀ i, i < len → ∃ ev : Pc, ((Lit.int .i64 ev.1).wf = true ∧ (Lit.int .i64 ev.2.1).wf = true ∧ ev.2.2.size ≤ maxLen) ∧ a.spot = none ∧
        w.cell? ⟨a.block, a.off + i * 3, none⟩ = some (.int .i64 ev.1) ∧ w.cell? ⟨a.block, a.off + i * 3 + 1, none⟩ = some (.int .i64 ev.2.1) ∧ w.cell? ⟨a.block, a.off + i * 3 + 2, none⟩ = some (.string ev.2.2) := by
      intro i hil
      obtain ⟨cs', hcs, htr⟩ := hx i (by omega)
      obtain ⟨y0, y1, y2, q, _, hlen, g0, g1, g2⟩ := Go.Deep.trod_struct3 he htr
      rw [f0.1, f0.2, hi1] at g0
      rw [f1.1, f1.2, hi1] at g1
      rw [f2.1, f2.2, hb1] at g2
      obtain ⟨u0, p0, _, v0⟩ := DataW.trod_int hi g0
      obtain ⟨u1, p1, _, v1⟩ := DataW.trod_int hi g1
      obtain ⟨u2, p2, _, v2⟩ := DataW.trod_string hb g2
      rw [hc] at hcs
      have hspot : a.spot = none := by
        obtain ⟨cs0, hcs0, _⟩ := hx 0 (by omega)
        rw [hc] at hcs0
        obtain ⟨_, hl3, hc3⟩ := World.cells?_some hcs0
        have h3 := hc3 0 (by omega)
        match cs0, hl3 with
        | [p, q, r], _ =>
          have h4 : w.cell? a = some p := by simpa [Addr.add] using h3
          exact World.cell?_spot h4
      obtain ⟨bk, o, sp⟩ := a
      simp only at hspot
      subst hspot
      have hadd : (⟨bk, o, none⟩ : Addr).add (i * 3) = ⟨bk, o + i * 3, none⟩ := Go.WideShapes.add_plain ..
      rw [hadd] at hcs
      have := cells_three hcs p0 p1 p2
      exact ⟨⟨u0, u1, u2⟩, ⟨v0, v1, v2⟩, rfl, this⟩
    obtain ⟨F, hF⟩ := Go.Deep.choose_lt hex
    have hget : ∀ (j : Nat) (ev : Pc), ((List.range len).map F)[j]? = some ev → j < len ∧ ev = F j := by
      intro j ev hj
      rw [List.getElem?_map] at hj
      obtain ⟨i, hi, rfl⟩ := Option.map_eq_some_iff.1 hj
      rw [List.getElem?_eq_some_iff] at hi
      obtain ⟨hlt, hi⟩ := hi
      simp at hlt hi
      subst hi
      exact ⟨hlt, rfl⟩
    refine ⟨some a, len, cap, (List.range len).map F, rfl, by omega, by simp, ?_, ?_⟩
    · refine ⟨some a, cap, by simp, by simpa using hl, ?_⟩
      rcases Nat.eq_zero_or_pos len with h0 | h0
      · exact .inl (by rw [h0]; rfl)
      · obtain ⟨_, hs, hc0, _⟩ := hF 0 h0
        obtain ⟨bk, o, sp⟩ := a
        simp only at hs
        subst hs
        refine .inr ⟨bk, o, rfl, ?_, fun j ev hj => ?_⟩
        · rcases Nat.lt_or_ge bk w.heap.size with h' | h'
          · exact h'
          · simp [World.cell?, Array.getElem?_eq_none h'] at hc0
        · obtain ⟨hlt, rfl⟩ := hget j ev hj
          exact (hF j hlt).2.2
    · intro ev hev
      obtain ⟨i, hi, rfl⟩ := List.mem_map.1 hev
      exact (hF i (by simpa using hi)).1

/-- The mark of a piece. -/
def markedPc (j : Nat) : Pc := (1 + 3 * (j : Int), 2 + 3 * (j : Int), markB (3 + 3 * j))
theorem RowPc.set01 {w : World} {g n : Nat} {f : Nat → Pc} (h : RowPc w g n f) (k : Nat) (hk : k < n) (x y : Int) :
    RowPc ((w.setCell ⟨g, k * 3, none⟩ (.int .i64 x)).setCell ⟨g, k * 3 + 1, none⟩ (.int .i64 y)) g n (fun j => if j = k then (x, y, (f k).2.2) else f j) := by
  obtain ⟨h0, h1, h2⟩ := h
  refine ⟨by rw [World.size_setCell, World.size_setCell]; exact h0, fun j hj => ?_, fun j => by rw [World.frozen?_setCell, World.frozen?_setCell]; exact h2 j⟩
  obtain ⟨a0, a1, a2⟩ := h1 j hj
  by_cases hjk : j = k
  · subst hjk
    simp only [if_true]
    refine ⟨?_, ?_, ?_⟩
    · rw [World.cell?_setCell_other _ _ _ _ (by intro e; injection e; omega)]
      exact World.cell?_setCell_same _ _ _ a0
    · refine World.cell?_setCell_same _ _ _ (u := .int .i64 (f j).2.1) ?_
      rw [World.cell?_setCell_other _ _ _ _ (by intro e; injection e; omega)]; exact a1
    · rw [World.cell?_setCell_other _ _ _ _ (by intro e; injection e; omega), World.cell?_setCell_other _ _ _ _ (by intro e; injection e; omega)]; exact a2
  · simp only [if_neg hjk]
    refine ⟨?_, ?_, ?_⟩
    · rw [World.cell?_setCell_other _ _ _ _ (by intro e; injection e; omega), World.cell?_setCell_other _ _ _ _ (by intro e; injection e; omega)]; exact a0
    · rw [World.cell?_setCell_other _ _ _ _ (by intro e; injection e; omega), World.cell?_setCell_other _ _ _ _ (by intro e; injection e; omega)]; exact a1
    · rw [World.cell?_setCell_other _ _ _ _ (by intro e; injection e; omega), World.cell?_setCell_other _ _ _ _ (by intro e; injection e; omega)]; exact a2
theorem RowPc.set2 {w : World} {g n : Nat} {f : Nat → Pc} (h : RowPc w g n f) (k : Nat) (hk : k < n) (t : ByteArray) :
    RowPc (w.setCell ⟨g, k * 3 + 2, none⟩ (.string t)) g n (fun j => if j = k then ((f k).1, (f k).2.1, t) else f j) := by
  obtain ⟨h0, h1, h2⟩ := h
  refine ⟨by rw [World.size_setCell]; exact h0, fun j hj => ?_, fun j => by rw [World.frozen?_setCell]; exact h2 j⟩
  obtain ⟨a0, a1, a2⟩ := h1 j hj
  by_cases hjk : j = k
  · subst hjk
    simp only [if_true]
    refine ⟨?_, ?_, World.cell?_setCell_same _ _ _ a2⟩
    · rw [World.cell?_setCell_other _ _ _ _ (by intro e; injection e; omega)]; exact a0
    · rw [World.cell?_setCell_other _ _ _ _ (by intro e; injection e; omega)]; exact a1
  · simp only [if_neg hjk]
    refine ⟨?_, ?_, ?_⟩
    · rw [World.cell?_setCell_other _ _ _ _ (by intro e; injection e; omega)]; exact a0
    · rw [World.cell?_setCell_other _ _ _ _ (by intro e; injection e; omega)]; exact a1
    · rw [World.cell?_setCell_other _ _ _ _ (by intro e; injection e; omega)]; exact a2
theorem OwnPcs.lt {w : World} {base : Nat} {v : Value} {n : Nat} {f : Nat → Pc} (h : OwnPcs w base v n f) (h0 : 0 < n) : ∀ g, v.ownBlock = some g → g < w.heap.size := by
  rcases h with ⟨hz, _⟩ | ⟨g, cap, rfl, _, _, _, hr⟩
  · omega
  · intro b hb
    have : b = g := by simpa [Value.ownBlock] using hb.symm
    rw [this]; exact hr.1
/-- A row that nothing touched. -/
theorem OwnPcs.touch {T : Nat → Prop} {w w' : World} {base : Nat} {v : Value} {n : Nat} {f : Nat → Pc} (h : OwnPcs w base v n f) (ht : Touch T w w') (hT : 0 < n → ∀ g, v.ownBlock = some g → ¬ T g) : OwnPcs w' base v n f := by
  rcases h with h | ⟨g, cap, rfl, hn, hg, h0, hr⟩
  · exact .inl h
  · have hng := hT h0 g rfl
    refine .inr ⟨g, cap, rfl, hn, hg, h0, Nat.lt_of_lt_of_le hr.1 ht.1, fun j hj => ?_, fun j => ((ht.cf j hr.1 hng).2).trans (hr.2.2 j)⟩
    obtain ⟨a0, a1, a2⟩ := hr.2.1 j hj
    exact ⟨((ht.cf _ hr.1 hng).1).trans a0, ((ht.cf _ hr.1 hng).1).trans a1, ((ht.cf _ hr.1 hng).1).trans a2⟩

set_option maxHeartbeats 1000000 in
theorem markPcs_any (base : Nat) (v : Value) (n : Nat) (f : Nat → Pc) (w : World) (h : OwnPcs w base v n f) (hbase : base ≤ w.heap.size) (hn : n ≤ 100000000) :
    Calls Try.prog 21 #[v, .int .i64 1] w fun e w' => e = .returned (.int .i64 (1 + 3 * (n : Int))) ∧ OwnPcs w' base v n markedPc ∧ Touch (fun b => 0 < n ∧ v.ownBlock = some b) w w' ∧ Below base w w' := by
  rcases h with ⟨rfl, a, cap, rfl⟩ | ⟨g, cap, rfl, hcap, hg, h0, hR⟩
  · go_enter Try.func21, Try.ntmps21
    go_wp2
    refine wp_loop_rounds 1 ?_
    rw [rounds_succ]
    go_wp2
    go_ret
    exact ⟨rfl, .inl ⟨rfl, _, _, rfl⟩, Touch.refl _ _, Below.refl _ _⟩
  · have HR0 : Hid (RowPc w g n (fun j => if j < 0 then markedPc j else f j)) := hR.congr fun j _ => by rw [if_neg (by omega)]
    have HG := Lib.hid hg
    have HT : Hid (0 < n ∧ (Value.slice (some ⟨g, 0, none⟩) n cap).ownBlock = some g) := ⟨h0, rfl⟩
    obtain ⟨T, hT⟩ : ∃ T : Nat → Prop, T = fun b => 0 < n ∧ (Value.slice (some ⟨g, 0, none⟩) n cap).ownBlock = some b := ⟨_, rfl⟩
    have HTg : Hid (T g) := by show T g; rw [hT]; exact HT.out
    rw [← hT]
    clear hR hT
    go_enter Try.func21, Try.ntmps21
    go_wp2_with fail
    go_loopw [1, 5] (fun m i wr => ∃ k : Nat, k ≤ n ∧ i = .int .i64 k ∧ m = .int .i64 (1 + 3 * (k : Int)) ∧ Hid (RowPc wr g n (fun j => if j < k then markedPc j else f j)) ∧ Hid (Touch T w wr) ∧ Below base w wr) (fun _ i _ => n - (intOf i).toNat)
    case atStart => exact ⟨0, Nat.zero_le _, rfl, rfl, HR0, Lib.hid (Touch.refl _ _), Below.refl _ _⟩
    case round =>
      obtain ⟨k, hk, rfl, rfl, HR, HO, hbel⟩ := hrel
      by_cases hlt : k < n
      · obtain ⟨r0, r1, r2⟩ := HR.out.2.1 k hlt
        simp only [Nat.lt_irrefl, if_false] at r0 r1 r2
        have f0 := HR.out.2.2 (k * 3)
        have f1 := HR.out.2.2 (k * 3 + 1)
        have hRa := HR.out.set01 k hlt (1 + 3 * (k : Int)) (1 + 3 * (k : Int) + 1)
        have hOa := (HO.out.setCell HTg.out (k * 3) (.int .i64 (1 + 3 * (k : Int)))).setCell HTg.out (k * 3 + 1) (.int .i64 (1 + 3 * (k : Int) + 1))
        have hba := (hbel.setCell (p := ⟨g, k * 3, none⟩) (by exact HG.out) (.int .i64 (1 + 3 * (k : Int)))).setCell (p := ⟨g, k * 3 + 1, none⟩) (by exact HG.out) (.int .i64 (1 + 3 * (k : Int) + 1))
        have HRa := Lib.hid hRa
        have HOa := Lib.hid hOa
        have HBa := Lib.hid hba
        have c := fun w => markText_any (3 + 3 * k) (by omega) (by omega) w
        have e1 : ((3 + 3 * k : Nat) : Int) = 1 + 3 * (k : Int) + 1 + 1 := by omega
        simp only [e1] at c
        have C := Lib.hid c
        have hbs := hbel.size
        clear c e1 hRa hOa hba HR HO hbel
        go_wp2_with fail
        refine (C.out _).mono ?_
        rintro e w1 ⟨rfl, hb1⟩
        have HR1 := Lib.hid (HRa.out.below hb1)
        obtain ⟨_, _, s2⟩ := HR1.out.2.1 k hlt
        have f2 := HR1.out.2.2 (k * 3 + 2)
        have HO2 := Lib.hid ((HOa.out.below hb1).setCell HTg.out (k * 3 + 2) (.string (markB (3 + 3 * k))))
        have HB2 : Hid (Below base w (w1.setCell ⟨g, k * 3 + 2, none⟩ (.string (markB (3 + 3 * k))))) := (HBa.out.trans (hb1.mono (by rw [World.size_setCell, World.size_setCell]; omega))).setCell (p := ⟨g, k * 3 + 2, none⟩) (by exact HG.out) _
        have HR2 : Hid (RowPc (w1.setCell ⟨g, k * 3 + 2, none⟩ (.string (markB (3 + 3 * k)))) g n (fun j => if j < k + 1 then markedPc j else f j)) := by
          refine (HR1.out.set2 k hlt _).congr fun j hj => ?_
          by_cases hjk : j = k
          · subst hjk
            simp only [if_true]
            rw [if_pos (show j < j + 1 by omega)]
            show (1 + 3 * (j : Int), 1 + 3 * (j : Int) + 1, _) = (_, _, _)
            rw [show (1 + 3 * (j : Int) + 1) = 2 + 3 * (j : Int) by omega]
          · rw [if_neg hjk, if_neg hjk]
            by_cases hjl : j < k
            · rw [if_pos hjl, if_pos (by omega)]
            · rw [if_neg hjl, if_neg (by omega)]
        clear hb1 r0 r1 r2 f0 f1 HRa HOa HBa HR1
        go_wp2
        go_roundw
        case rel => exact ⟨k + 1, by omega, by go_num, by go_num, HR2, HO2, HB2.out⟩
        case measure => simp [intOf]; omega
      · obtain rfl : k = n := by omega
        go_wp2
        go_ret
        exact ⟨rfl, .inr ⟨g, cap, rfl, hcap, HG.out, h0, HR.out.congr fun j hj => by rw [if_pos hj]⟩, HO.out, hbel⟩
set_option maxHeartbeats 2000000 in
theorem heldPcs_any (base : Nat) (v : Value) (n : Nat) (w : World) (h : OwnPcs w base v n markedPc) (hn : n ≤ 100000000) :
    Calls Try.prog 22 #[v, .int .i64 1] w fun e w' => e = .returned (.int .i64 (1 + 3 * (n : Int))) ∧ Below w.heap.size w w' := by
  rcases h with ⟨rfl, a, cap, rfl⟩ | ⟨g, cap, rfl, hcap, hg, h0, hR⟩
  · go_enter Try.func22, Try.ntmps22
    go_wp2
    refine wp_loop_rounds 1 ?_
    rw [rounds_succ]
    go_wp2
    go_ret
    exact ⟨rfl, Below.refl _ _⟩
  · have HR := Lib.hid hR
    clear hR hg
    go_enter Try.func22, Try.ntmps22
    go_wp2_with fail
    go_loopw [1, 5] (fun m i wr => ∃ k : Nat, k ≤ n ∧ i = .int .i64 k ∧ m = .int .i64 (1 + 3 * (k : Int)) ∧ Below w.heap.size w wr) (fun _ i _ => n - (intOf i).toNat)
    case atStart => exact ⟨0, Nat.zero_le _, rfl, rfl, Below.refl _ _⟩
    case round =>
      obtain ⟨k, hk, rfl, rfl, hbel⟩ := hrel
      by_cases hlt : k < n
      · have HRr := Lib.hid (HR.out.below hbel)
        obtain ⟨r0, r1, r2⟩ := HRr.out.2.1 k hlt
        unfold markedPc at r0 r1 r2
        dsimp only at r0 r1 r2
        rw [show (2 + 3 * (k : Int)) = 1 + 3 * (k : Int) + 1 by omega] at r1
        have hgl : g < wr.heap.size := HRr.out.1
        have c := fun w => markText_any (3 + 3 * k) (by omega) (by omega) w
        have e1 : ((3 + 3 * k : Nat) : Int) = 1 + 3 * (k : Int) + 1 + 1 := by omega
        simp only [e1] at c
        have C := Lib.hid c
        clear c e1 HRr
        go_wp2_with fail
        go_region_with (go_at_call 42; refine (C.out _).mono ?_; rintro e w1 ⟨rfl, hb1⟩; have hck1 := (hb1.cell (p := ⟨g, k * 3 + 2, none⟩) hgl).trans r2; have hbx : Below w.heap.size w w1 := hbel.trans (Below.trans (by first | exact Below.refl _ _ | exact (Below.refl _ _).drew) (hb1.mono hbel.size)))
        all_goals go_wp2
        all_goals go_roundw
        all_goals first
          | exact ⟨k + 1, by omega, by go_num, by go_num, by repeat (first | exact hbx | apply Below.drew)⟩
          | (simp [intOf]; omega)
      · obtain rfl : k = n := by omega
        go_wp2
        go_ret
        exact ⟨rfl, hbel⟩
end Go.Proofs.Ythigdblloddepaa
