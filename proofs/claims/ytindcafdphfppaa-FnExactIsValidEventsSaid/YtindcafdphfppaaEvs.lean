/-
  SLICES OF KEY EVENTS in memory, and CONTRACTS of the laws' helpers on them.
-/
import Derived.Test.YtindcafdphfppaaProg
import Derived.Test.YtindcafdphfppaaAid
import Derived.Test.YtindcafdphfppaaPlainEvents
import Derived.Test.YtindcafdphfppaaInts
import Derived.WalkSmall
import Derived.WalkSpells
import Derived.Deep.QuietTactic
import Derived.BigQuiet
import Derived.Deep.OwnRows
import Derived.OwnWalk
import Derived.Lib.BufferOwn
import Derived.Deep.RegionWith
import Derived.Deep.RegionHeld3
namespace Go.Proofs.Ytindcafdphfppaa
open Go.RowKit

/-- An event, as a value. -/
abbrev evV (e : Pl.Ev) : Value := .agg #[.int .i64 e.t, .int .i64 e.k, .bool e.d]
/-- The value v is a slice whose elements are the events es. -/
def EvsAt (w : World) (v : Value) (es : List Pl.Ev) : Prop :=
  ∃ (a : Option Addr) (cap : Nat), v = .slice a es.length cap ∧ es.length ≤ cap ∧ (es = [] ∨ ∃ bk o, a = some ⟨bk, o, none⟩ ∧ bk < w.heap.size ∧ ∀ (j : Nat) e, es[j]? = some e →
    w.cell? ⟨bk, o + j * 3, none⟩ = some (.int .i64 e.t) ∧ w.cell? ⟨bk, o + j * 3 + 1, none⟩ = some (.int .i64 e.k) ∧ w.cell? ⟨bk, o + j * 3 + 2, none⟩ = some (.bool e.d))
theorem EvsAt.below {w w' : World} {v : Value} {es : List Pl.Ev} (h : EvsAt w v es) (hb : Below w.heap.size w w') : EvsAt w' v es := by
  obtain ⟨a, cap, hv, hc, h⟩ := h
  refine ⟨a, cap, hv, hc, ?_⟩
  rcases h with h | ⟨bk, o, ha, hk, h⟩
  · exact .inl h
  · refine .inr ⟨bk, o, ha, Nat.lt_of_lt_of_le hk hb.size, fun j e he => ?_⟩
    obtain ⟨h0, h1, h2⟩ := h j e he
    exact ⟨(hb.cell (p := ⟨bk, o + j * 3, none⟩) hk).trans h0, (hb.cell (p := ⟨bk, o + j * 3 + 1, none⟩) hk).trans h1, (hb.cell (p := ⟨bk, o + j * 3 + 2, none⟩) hk).trans h2⟩
theorem EvsAt.nil (w : World) (a : Option Addr) (cap : Nat) : EvsAt w (.slice a 0 cap) [] := ⟨a, cap, rfl, Nat.zero_le _, .inl rfl⟩

theorem toEv_any (e : Pl.Ev) (w : World) :
    Calls Try.prog 55 #[evV e] w fun r w' => r = .returned (evV e) ∧ Below w.heap.size w w' := by
  obtain ⟨t, k, d⟩ := e
  go_enter Try.func55, Try.ntmps55
  have hg : (((w.alloc (.cells #[.int .i64 t, .int .i64 k, .bool d] 74)).alloc (.cells #[.int .i64 t, .int .i64 k, .bool d] 31)).alloc (.cells #[.int .i64 t, .int .i64 k, .bool d] 31)).heap[w.heap.size + 1]? = some (.cells #[.int .i64 t, .int .i64 k, .bool d] 31 (0, 0)) := by
    have e : ∀ (W : World) (o : Obj), (W.alloc o).heap[W.heap.size]? = some o := fun W o => by show (W.heap.push o)[W.heap.size]? = _; simp
    rw [Lib.alloc_old _ _ _ (by simp)]
    have e1 := e (w.alloc (.cells #[.int .i64 t, .int .i64 k, .bool d] 74)) (.cells #[.int .i64 t, .int .i64 k, .bool d] 31)
    rw [World.size_alloc] at e1
    exact e1
  go_wp2
  (try simp only [Exit.inBlock, Exit.then])
  refine bodyPost_ret (results_cell_row rfl _ _ (w.heap.size + 1) _ _ _ _ rfl hg Try.underlying31 rfl (by kernel_rfl)) rfl ?_
  exact ⟨rfl, (((Below.refl _ _).alloc (Nat.le_refl _) _).alloc (by simp) _).alloc (by simp; omega) _⟩
theorem eqEv_same (e : Pl.Ev) (w : World) :
    Calls Try.prog 56 #[evV e, evV e] w fun r w' => r = .returned (.bool true) ∧ Below w.heap.size w w' := by
  obtain ⟨t, k, d⟩ := e
  go_enter Try.func56, Try.ntmps56
  go_wp2
  go_ret
  exact ⟨rfl, ((Below.refl _ _).alloc (Nat.le_refl _) _).alloc (by simp) _⟩

/-- Block g holds n events, none frozen. -/
def RowEv (w : World) (g n : Nat) (f : Nat → Pl.Ev) : Prop :=
  g < w.heap.size ∧ (∀ j, j < n → w.cell? ⟨g, j * 3, none⟩ = some (.int .i64 (f j).t) ∧ w.cell? ⟨g, j * 3 + 1, none⟩ = some (.int .i64 (f j).k) ∧ w.cell? ⟨g, j * 3 + 2, none⟩ = some (.bool (f j).d)) ∧ ∀ j, w.frozen? ⟨g, j, none⟩ = false
theorem RowEv.below {w w' : World} {g n : Nat} {f : Nat → Pl.Ev} (h : RowEv w g n f) (hb : Below w.heap.size w w') : RowEv w' g n f := by
  obtain ⟨h0, h1, h2⟩ := h
  refine ⟨Nat.lt_of_lt_of_le h0 hb.size, fun j hj => ?_, fun j => (hb.frozen (p := ⟨g, j, none⟩) h0).trans (h2 j)⟩
  obtain ⟨a0, a1, a2⟩ := h1 j hj
  exact ⟨(hb.cell (p := ⟨g, j * 3, none⟩) h0).trans a0, (hb.cell (p := ⟨g, j * 3 + 1, none⟩) h0).trans a1, (hb.cell (p := ⟨g, j * 3 + 2, none⟩) h0).trans a2⟩
/-- An event is written into the row. -/
theorem RowEv.set {w : World} {g n : Nat} {f : Nat → Pl.Ev} (h : RowEv w g n f) (k : Nat) (hk : k < n) (e : Pl.Ev) :
    RowEv (((w.setCell ⟨g, k * 3, none⟩ (.int .i64 e.t)).setCell ⟨g, k * 3 + 1, none⟩ (.int .i64 e.k)).setCell ⟨g, k * 3 + 2, none⟩ (.bool e.d)) g n (fun j => if j = k then e else f j) := by
  obtain ⟨h0, h1, h2⟩ := h
  obtain ⟨k0, k1, k2⟩ := h1 k hk
  refine ⟨by rw [World.size_setCell, World.size_setCell, World.size_setCell]; exact h0, fun j hj => ?_, fun j => by rw [World.frozen?_setCell, World.frozen?_setCell, World.frozen?_setCell]; exact h2 j⟩
  obtain ⟨a0, a1, a2⟩ := h1 j hj
  by_cases hjk : j = k
  · subst hjk
    simp only [if_true]
    refine ⟨?_, ?_, ?_⟩
    · rw [World.cell?_setCell_other _ _ _ _ (by intro e; injection e; omega), World.cell?_setCell_other _ _ _ _ (by intro e; injection e; omega)]
      exact World.cell?_setCell_same _ _ _ a0
    · rw [World.cell?_setCell_other _ _ _ _ (by intro e; injection e; omega)]
      refine World.cell?_setCell_same _ _ _ (u := .int .i64 (f j).k) ?_
      rw [World.cell?_setCell_other _ _ _ _ (by intro e; injection e; omega)]; exact a1
    · refine World.cell?_setCell_same _ _ _ (u := .bool (f j).d) ?_
      rw [World.cell?_setCell_other _ _ _ _ (by intro e; injection e; omega), World.cell?_setCell_other _ _ _ _ (by intro e; injection e; omega)]; exact a2
  · simp only [if_neg hjk]
    refine ⟨?_, ?_, ?_⟩
    · rw [World.cell?_setCell_other _ _ _ _ (by intro e; injection e; omega), World.cell?_setCell_other _ _ _ _ (by intro e; injection e; omega), World.cell?_setCell_other _ _ _ _ (by intro e; injection e; omega)]; exact a0
    · rw [World.cell?_setCell_other _ _ _ _ (by intro e; injection e; omega), World.cell?_setCell_other _ _ _ _ (by intro e; injection e; omega), World.cell?_setCell_other _ _ _ _ (by intro e; injection e; omega)]; exact a1
    · rw [World.cell?_setCell_other _ _ _ _ (by intro e; injection e; omega), World.cell?_setCell_other _ _ _ _ (by intro e; injection e; omega), World.cell?_setCell_other _ _ _ _ (by intro e; injection e; omega)]; exact a2
theorem RowEv.congr {w : World} {g n : Nat} {f f' : Nat → Pl.Ev} (h : RowEv w g n f) (hf : ∀ j, j < n → f j = f' j) : RowEv w g n f' := by
  refine ⟨h.1, fun j hj => ?_, h.2.2⟩
  rw [← hf j hj]; exact h.2.1 j hj
theorem below_set3 {w w1 : World} {base g : Nat} (h : Below base w w1) (hg : base ≤ g) (a b c : Nat) (x y z : Value) : Below base w (((w1.setCell ⟨g, a, none⟩ x).setCell ⟨g, b, none⟩ y).setCell ⟨g, c, none⟩ z) :=
  ((h.setCell (p := ⟨g, a, none⟩) hg x).setCell (p := ⟨g, b, none⟩) hg y).setCell (p := ⟨g, c, none⟩) hg z
theorem rowEv_at {w : World} {g n : Nat} {f : Nat → Pl.Ev} {es : List Pl.Ev} (h : RowEv w g n f) (hn : n = es.length) (hf : ∀ j e, es[j]? = some e → f j = e) (cap : Nat) (hc : n ≤ cap) : EvsAt w (.slice (some ⟨g, 0, none⟩) n cap) es := by
  subst hn
  refine ⟨_, cap, rfl, hc, .inr ⟨g, 0, rfl, h.1, fun j e he => ?_⟩⟩
  have hj : j < es.length := by
    rcases Nat.lt_or_ge j es.length with h' | h'
    · exact h'
    · rw [List.getElem?_eq_none h'] at he; cases he
  have := h.2.1 j hj
  rw [hf j e he] at this
  rw [Nat.zero_add]; exact this
/-- v is a slice of n events of its own, from block 'base' on. -/
def OwnEvs (w : World) (base : Nat) (v : Value) (n : Nat) (f : Nat → Pl.Ev) : Prop :=
  (n = 0 ∧ ∃ a cap, v = .slice a 0 cap) ∨ ∃ g cap, v = .slice (some ⟨g, 0, none⟩) n cap ∧ n ≤ cap ∧ base ≤ g ∧ 0 < n ∧ RowEv w g n f
theorem OwnEvs.below {w w' : World} {base : Nat} {v : Value} {n : Nat} {f : Nat → Pl.Ev} (h : OwnEvs w base v n f) (hb : Below w.heap.size w w') : OwnEvs w' base v n f := by
  rcases h with h | ⟨g, cap, hv, hn, hg, h0, hr⟩
  · exact .inl h
  · exact .inr ⟨g, cap, hv, hn, hg, h0, hr.below hb⟩
theorem OwnEvs.at {w : World} {base : Nat} {v : Value} {n : Nat} {f : Nat → Pl.Ev} {es : List Pl.Ev} (h : OwnEvs w base v n f) (hn : n = es.length) (hf : ∀ j e, es[j]? = some e → f j = e) : EvsAt w v es := by
  rcases h with ⟨h0, a, cap, rfl⟩ | ⟨g, cap, rfl, hc, _, _, hr⟩
  · have : es = [] := List.length_eq_zero_iff.1 (by omega)
    subst this
    exact EvsAt.nil _ _ _
  · exact rowEv_at hr hn hf cap hc
theorem infoEv : (Try.prog.info? 31).map (fun i => (i.zero, i.size, i.bytes)) = some (some (.agg #[.int .i64 0, .int .i64 0, .bool false]), 3, 24) := by kernel_rfl

theorem mk_evs (n : Nat) (hn : n ≤ 1048576) (w : World) :
    (Instr.makeSlice 27 (.int .i64 (n : Int)) (.int .i64 (n : Int))).run Try.prog w = .ok (.slice (some ⟨w.heap.size, 0, none⟩) n n) (w.alloc (.cells (madeCells #[.int .i64 0, .int .i64 0, .bool false] (n * 3)) 31)) := by
  obtain ⟨i, hi, hzz⟩ := Option.map_eq_some_iff.1 infoEv
  simp only [Prod.mk.injEq] at hzz
  obtain ⟨hz, hs, hb⟩ := hzz
  have hr := run_make (P := Try.prog) w 27 31 i _ Try.underlying27 hi hz .i64 .i64 (n : Int) (n : Int) (by omega) (Int.le_refl _) (by rw [hb]; omega) (by omega)
  rw [Int.toNat_natCast, hs] at hr
  exact hr
theorem made_evs (w : World) (n : Nat) : RowEv (w.alloc (.cells (madeCells #[.int .i64 0, .int .i64 0, .bool false] (n * 3)) 31)) w.heap.size n (fun _ => ⟨0, 0, false⟩) := by
  have hc : ∀ j, j < n * 3 → (w.alloc (.cells (madeCells #[.int .i64 0, .int .i64 0, .bool false] (n * 3)) 31)).cell? ⟨w.heap.size, j, none⟩ = some ((#[.int .i64 0, .int .i64 0, .bool false] : Array Value)[j % 3]!) := by
    intro j hj
    rw [World.cell?_alloc_at _ _ _ _ rfl]
    simp [madeCells, hj]
  refine ⟨by rw [World.size_alloc]; omega, fun j hj => ⟨?_, ?_, ?_⟩, fun j => World.frozen?_alloc_at _ _ _ _ rfl⟩
  · rw [hc _ (by omega), show j * 3 % 3 = 0 by omega]; rfl
  · rw [hc _ (by omega), show (j * 3 + 1) % 3 = 1 by omega]; rfl
  · rw [hc _ (by omega), show (j * 3 + 2) % 3 = 2 by omega]; rfl

set_option maxHeartbeats 1000000 in
/-- The copy of a slice of events: new memory with the same events. -/
theorem toE_any (v : Value) (es : List Pl.Ev) (w : World) (h : EvsAt w v es) (hn : es.length ≤ 1048576) :
    Calls Try.prog 28 #[v] w fun e w' => (∃ u, e = .returned u ∧ OwnEvs w' w.heap.size u es.length (fun j => es.getD j default)) ∧ Below w.heap.size w w' := by
  obtain ⟨a, cap, rfl, hcap, h⟩ := h
  obtain ⟨n, hnn⟩ : ∃ n, n = es.length := ⟨_, rfl⟩
  rw [← hnn] at hn hcap ⊢
  have HN := Lib.hid hnn
  have HB : Hid (∀ w1 : World, Below w.heap.size w w1 → ∀ (j : Nat) e, 0 < n → es[j]? = some e → ∃ bk o, a = some ⟨bk, o, none⟩ ∧ bk < w.heap.size ∧ w1.cell? ⟨bk, o + j * 3, none⟩ = some (.int .i64 e.t) ∧ w1.cell? ⟨bk, o + j * 3 + 1, none⟩ = some (.int .i64 e.k) ∧ w1.cell? ⟨bk, o + j * 3 + 2, none⟩ = some (.bool e.d)) := by
    intro w1 hb j e h0 he
    rcases h with rfl | ⟨bk, o, ha, hk, h⟩
    · simp at hnn; omega
    · obtain ⟨g0, g1, g2⟩ := h j e he
      exact ⟨bk, o, ha, hk, (hb.cell (p := ⟨bk, o + j * 3, none⟩) hk).trans g0, (hb.cell (p := ⟨bk, o + j * 3 + 1, none⟩) hk).trans g1, (hb.cell (p := ⟨bk, o + j * 3 + 2, none⟩) hk).trans g2⟩
  have CT := Lib.hid (fun e w => toEv_any e w)
  clear h hnn
  have hmk := fun w => mk_evs n hn w
  go_enter Try.func28, Try.ntmps28
  go_wp2_with fail
  clear hmk
  have hrow0 := made_evs w n
  have hbel0 : Below w.heap.size w (w.alloc (.cells (madeCells #[.int .i64 0, .int .i64 0, .bool false] (n * 3)) 31)) := (Below.refl _ _).alloc (Nat.le_refl _) _
  obtain ⟨B, hB⟩ : ∃ B, B = w.heap.size := ⟨_, rfl⟩
  rw [← hB] at hrow0 ⊢
  have HBB := Lib.hid hB
  clear hB
  go_loopw [4] (fun i wr => ∃ k : Nat, k ≤ n ∧ i = .int .i64 k ∧ Hid (RowEv wr B n (fun j => if j < k then es.getD j default else ⟨0, 0, false⟩)) ∧ Below w.heap.size w wr) (fun i _ => n - (intOf i).toNat)
  case atStart => exact ⟨0, Nat.zero_le _, rfl, hrow0, hbel0⟩
  case round =>
    obtain ⟨k, hk, rfl, HR, hbel⟩ := hrel
    by_cases hlt : k < n
    · obtain ⟨e, he⟩ : ∃ e, es[k]? = some e := ⟨_, List.getElem?_eq_getElem (by rw [← HN.out]; exact hlt)⟩
      obtain ⟨bk, o, rfl, hbk, g0, g1, g2⟩ := HB.out wr hbel k e (by omega) he
      go_wp2_with fail
      refine (CT.out e _).mono ?_
      rintro r w1 ⟨rfl, hb1⟩
      have HR1 := Lib.hid (HR.out.below hb1)
      obtain ⟨r0, r1, r2⟩ := HR1.out.2.1 k hlt
      simp only [Nat.lt_irrefl, if_false] at r0 r1 r2
      have f0 := HR1.out.2.2 (k * 3)
      have f1 := HR1.out.2.2 (k * 3 + 1)
      have f2 := HR1.out.2.2 (k * 3 + 2)
      have HR2 : Hid (RowEv (((w1.setCell ⟨B, k * 3, none⟩ (.int .i64 e.t)).setCell ⟨B, k * 3 + 1, none⟩ (.int .i64 e.k)).setCell ⟨B, k * 3 + 2, none⟩ (.bool e.d)) B n (fun j => if j < k + 1 then es.getD j default else ⟨0, 0, false⟩)) := by
        refine (HR1.out.set k hlt e).congr fun j hj => ?_
        by_cases hjk : j = k
        · subst hjk; simp [List.getD, he]
        · rw [if_neg hjk]
          by_cases hjl : j < k
          · rw [if_pos hjl, if_pos (by omega)]
          · rw [if_neg hjl, if_neg (by omega)]
      have HBl : Hid (Below w.heap.size w (((w1.setCell ⟨B, k * 3, none⟩ (.int .i64 e.t)).setCell ⟨B, k * 3 + 1, none⟩ (.int .i64 e.k)).setCell ⟨B, k * 3 + 2, none⟩ (.bool e.d))) :=
        below_set3 (hbel.trans (hb1.mono hbel.size)) (by rw [HBB.out]; exact Nat.le_refl _) _ _ _ _ _ _
      clear HR HR1 hbel hb1 he
      go_wp2
      go_roundw
      case rel => exact ⟨k + 1, by omega, by go_num, HR2, HBl.out⟩
      case measure => simp [intOf]; omega
    · obtain rfl : k = n := by omega
      have HS : Hid (OwnEvs wr w.heap.size (.slice (some ⟨B, 0, none⟩) k k) k (fun j => es.getD j default)) := by
        rcases Nat.eq_zero_or_pos k with h0 | h0
        · subst h0; exact .inl ⟨rfl, _, _, rfl⟩
        · exact .inr ⟨B, k, rfl, Nat.le_refl _, by rw [HBB.out]; exact Nat.le_refl _, h0, HR.out.congr fun j hj => by rw [if_pos hj]⟩
      clear HR
      go_wp2
      go_ret
      exact ⟨⟨_, rfl, HS.out⟩, hbel⟩

theorem szE_any (a : Option Addr) (n cap : Nat) (w : World) (hn : n ≤ maxLen) :
    Calls Try.prog 26 #[.slice a n cap, .int .i64 1048576] w fun e w' => e = .returned (.int .i64 (if n ≤ 1048576 then 1048576 - (n : Int) else -1)) ∧ w = w' := by
  unfold maxLen at hn
  by_cases h : n ≤ 1048576
  · go_enter Try.func26, Try.ntmps26
    go_wp2
    go_ret
    exact ⟨rfl, rfl⟩
  · go_enter Try.func26, Try.ntmps26
    go_wp2
    go_ret
    exact ⟨rfl, rfl⟩

set_option maxHeartbeats 1000000 in
/-- Two slices with the same events are equal. -/
theorem eqE_same (v u : Value) (es : List Pl.Ev) (w : World) (hv : EvsAt w v es) (hu : EvsAt w u es) (hn : es.length ≤ 2097152) :
    Calls Try.prog 29 #[v, u] w fun e w' => e = .returned (.bool true) ∧ Below w.heap.size w w' := by
  obtain ⟨a, cap, rfl, hcap, hv⟩ := hv
  obtain ⟨b, cap', rfl, hcap', hu⟩ := hu
  obtain ⟨n, hnn⟩ : ∃ n, n = es.length := ⟨_, rfl⟩
  rw [← hnn] at hn hcap hcap' ⊢
  have HN := Lib.hid hnn
  have key : ∀ (a : Option Addr), (es = [] ∨ ∃ bk o, a = some ⟨bk, o, none⟩ ∧ bk < w.heap.size ∧ ∀ (j : Nat) e, es[j]? = some e →
    w.cell? ⟨bk, o + j * 3, none⟩ = some (.int .i64 e.t) ∧ w.cell? ⟨bk, o + j * 3 + 1, none⟩ = some (.int .i64 e.k) ∧ w.cell? ⟨bk, o + j * 3 + 2, none⟩ = some (.bool e.d)) → Hid (∀ w1 : World, Below w.heap.size w w1 → ∀ (j : Nat) e, 0 < n → es[j]? = some e → ∃ bk o, a = some ⟨bk, o, none⟩ ∧ w1.cell? ⟨bk, o + j * 3, none⟩ = some (.int .i64 e.t) ∧ w1.cell? ⟨bk, o + j * 3 + 1, none⟩ = some (.int .i64 e.k) ∧ w1.cell? ⟨bk, o + j * 3 + 2, none⟩ = some (.bool e.d)) := by
    intro a h w1 hb j e h0 he
    rcases h with h | ⟨bk, o, ha, hk, h⟩
    · rw [h] at hnn; simp at hnn; omega
    · obtain ⟨g0, g1, g2⟩ := h j e he
      exact ⟨bk, o, ha, (hb.cell (p := ⟨bk, o + j * 3, none⟩) hk).trans g0, (hb.cell (p := ⟨bk, o + j * 3 + 1, none⟩) hk).trans g1, (hb.cell (p := ⟨bk, o + j * 3 + 2, none⟩) hk).trans g2⟩
  have HV := key a hv
  have HU := key b hu
  have CE := Lib.hid (fun e w => eqEv_same e w)
  clear hv hu hnn key
  go_enter Try.func29, Try.ntmps29
  go_wp2_with fail
  go_loopw [5] (fun i wr => ∃ k : Nat, k ≤ n ∧ i = .int .i64 k ∧ Below w.heap.size w wr) (fun i _ => n - (intOf i).toNat)
  case atStart => exact ⟨0, Nat.zero_le _, rfl, Below.refl _ _⟩
  case round =>
    obtain ⟨k, hk, rfl, hbel⟩ := hrel
    by_cases hlt : k < n
    · obtain ⟨e, he⟩ : ∃ e, es[k]? = some e := ⟨_, List.getElem?_eq_getElem (by rw [← HN.out]; exact hlt)⟩
      obtain ⟨bk, o, rfl, g0, g1, g2⟩ := HV.out wr hbel k e (by omega) he
      obtain ⟨bk', o', rfl, g0', g1', g2'⟩ := HU.out wr hbel k e (by omega) he
      clear he
      go_wp2_with fail
      go_region_with (go_at_call 56; refine (CE.out e _).mono ?_; rintro r w1 ⟨rfl, hb1⟩; have hbx : Below w.heap.size w w1 := hbel.trans (Below.trans (by first | exact Below.refl _ _ | exact (Below.refl _ _).drew) (hb1.mono hbel.size)))
      all_goals go_wp2
      all_goals go_roundw
      all_goals first
        | exact ⟨k + 1, by omega, by go_num, by repeat (first | exact hbx | apply Below.drew)⟩
        | (simp [intOf]; omega)
    · go_wp2
      go_ret
      exact ⟨rfl, hbel⟩


/-- Every block from S on is as it was. -/
def Above (S : Nat) (w w' : World) : Prop := w'.heap.size = w.heap.size ∧ ∀ b o, S ≤ b → w'.cell? ⟨b, o, none⟩ = w.cell? ⟨b, o, none⟩ ∧ w'.frozen? ⟨b, o, none⟩ = w.frozen? ⟨b, o, none⟩
theorem Above.refl (S : Nat) (w : World) : Above S w w := ⟨rfl, fun _ _ _ => ⟨rfl, rfl⟩⟩
theorem Above.setCell {S : Nat} {w w' : World} (h : Above S w w') {g : Nat} (hg : g < S) (o : Nat) (v : Value) : Above S w (w'.setCell ⟨g, o, none⟩ v) := by
  refine ⟨by rw [World.size_setCell]; exact h.1, fun b o' hb => ⟨?_, ?_⟩⟩
  · rw [World.cell?_setCell_other _ _ _ _ (by intro e; injection e; omega)]; exact (h.2 b o' hb).1
  · rw [World.frozen?_setCell]; exact (h.2 b o' hb).2
theorem OwnInts.above {w w' : World} {S base : Nat} {v : Value} {n : Nat} {f : Nat → Int} (h : OwnInts w base v n f) (ha : Above S w w') (hS : S ≤ base) : OwnInts w' base v n f := by
  rcases h with h | ⟨g, cap, hv, hn, hg, h0, hlt, hc, hf⟩
  · exact .inl h
  · exact .inr ⟨g, cap, hv, hn, hg, h0, by rw [ha.1]; exact hlt, fun j hj => ((ha.2 g j (by omega)).1).trans (hc j hj), fun j => ((ha.2 g j (by omega)).2).trans (hf j)⟩
theorem ownInts_at {w : World} {base : Nat} {v : Value} {xs : List Int} {f : Nat → Int} (h : OwnInts w base v xs.length f) (hf : ∀ j x, xs[j]? = some x → f j = x) : IntsAt w v xs := by
  rcases h with ⟨h0, a, cap, rfl⟩ | ⟨g, cap, rfl, hc, _, _, hlt, hcell, _⟩
  · have : xs = [] := List.length_eq_zero_iff.1 h0
    subst this
    exact IntsAt.nil _ _ _
  · refine ⟨_, cap, rfl, hc, .inr ⟨g, 0, rfl, hlt, fun j x hx => ?_⟩⟩
    have hj : j < xs.length := by
      rcases Nat.lt_or_ge j xs.length with h' | h'
      · exact h'
      · rw [List.getElem?_eq_none h'] at hx; cases hx
    rw [Nat.zero_add, hcell j hj, hf j x hx]

set_option maxHeartbeats 2000000 in
theorem markE_any (base S : Nat) (v : Value) (n : Nat) (f : Nat → Pl.Ev) (w : World) (h : OwnEvs w base v n f) (hS : ∀ g, v.ownBlock = some g → g < S) (hn : n ≤ 100000000) :
    Calls Try.prog 31 #[v, .int .i64 1] w fun e w' => e = .returned (.int .i64 (1 + 3 * (n : Int))) ∧ Above S w w' ∧ Below base w w' := by
  rcases h with ⟨rfl, a, cap, rfl⟩ | ⟨g, cap, rfl, hcap, hg, h0, hR⟩
  · go_enter Try.func31, Try.ntmps31
    go_wp2
    refine wp_loop_rounds 1 ?_
    rw [rounds_succ]
    go_wp2
    go_ret
    exact ⟨rfl, Above.refl _ _, Below.refl _ _⟩
  · have hgS := hS g rfl
    have HR0 := Lib.hid hR
    clear hR hS
    go_enter Try.func31, Try.ntmps31
    go_wp2
    go_loopw [1, 5] (fun m i wr => ∃ k : Nat, k ≤ n ∧ i = .int .i64 k ∧ m = .int .i64 (1 + 3 * (k : Int)) ∧ Hid (RowEv wr g n (fun j => if j < k then ⟨1 + 3 * (j : Int), 2 + 3 * (j : Int), true⟩ else f j)) ∧ Hid (Above S w wr) ∧ Below base w wr) (fun _ i _ => n - (intOf i).toNat)
    case atStart => exact ⟨0, Nat.zero_le _, rfl, rfl, HR0, Above.refl _ _, Below.refl _ _⟩
    case round =>
      obtain ⟨k, hk, rfl, rfl, HR, HA, hbel⟩ := hrel
      by_cases hlt : k < n
      · obtain ⟨r0, r1, r2⟩ := HR.out.2.1 k hlt
        simp only [Nat.lt_irrefl, if_false] at r0 r1 r2
        have f0 := HR.out.2.2 (k * 3)
        have f1 := HR.out.2.2 (k * 3 + 1)
        have f2 := HR.out.2.2 (k * 3 + 2)
        have HR2 : Hid (RowEv (((wr.setCell ⟨g, k * 3, none⟩ (.int .i64 (1 + 3 * (k : Int)))).setCell ⟨g, k * 3 + 1, none⟩ (.int .i64 (1 + 3 * (k : Int) + 1))).setCell ⟨g, k * 3 + 2, none⟩ (.bool true)) g n (fun j => if j < k + 1 then ⟨1 + 3 * (j : Int), 2 + 3 * (j : Int), true⟩ else f j)) := by
          refine (HR.out.set k hlt ⟨1 + 3 * (k : Int), 1 + 3 * (k : Int) + 1, true⟩).congr fun j hj => ?_
          by_cases hjk : j = k
          · subst hjk
            rw [if_pos rfl, if_pos (by omega), show 1 + 3 * (j : Int) + 1 = 2 + 3 * (j : Int) by omega]
          · rw [if_neg hjk]
            by_cases hjl : j < k
            · rw [if_pos hjl, if_pos (by omega)]
            · rw [if_neg hjl, if_neg (by omega)]
        have HA2 : Hid (Above S w (((wr.setCell ⟨g, k * 3, none⟩ (.int .i64 (1 + 3 * (k : Int)))).setCell ⟨g, k * 3 + 1, none⟩ (.int .i64 (1 + 3 * (k : Int) + 1))).setCell ⟨g, k * 3 + 2, none⟩ (.bool true))) :=
          ((HA.out.setCell hgS _ _).setCell hgS _ _).setCell hgS _ _
        have HB2 : Hid (Below base w (((wr.setCell ⟨g, k * 3, none⟩ (.int .i64 (1 + 3 * (k : Int)))).setCell ⟨g, k * 3 + 1, none⟩ (.int .i64 (1 + 3 * (k : Int) + 1))).setCell ⟨g, k * 3 + 2, none⟩ (.bool true))) :=
          below_set3 hbel hg _ _ _ _ _ _
        clear HR HA hbel
        have hmod : (1 + 3 * (k : Int) + 1 + 1).tmod 3 = 0 := by rw [Int.tmod_eq_emod_of_nonneg (by omega)]; omega
        go_wp2
        go_roundw
        case rel => exact ⟨k + 1, by omega, by go_num, by go_num, HR2, HA2, HB2.out⟩
        case measure => simp [intOf]; omega
      · obtain rfl : k = n := by omega
        go_wp2
        go_ret
        exact ⟨rfl, HA.out, hbel⟩
end Go.Proofs.Ytindcafdphfppaa
