/-
  STATES OF THE FORMATTER IN MEMORY: a state that came in, a boxed state; the laws' helpers szState, toState, eqState.
-/
import Derived.Test.YtnpiphkglhcifaaGreatDoorFm
import Derived.Test.YtnpiphkglhcifaaGreatDoorAtoms
import Derived.Laws.Tables
import Derived.Laws.ResultCell
import Derived.Laws.StructEq
namespace Go.Proofs.YtnpiphkglhcifaaGreatDoor
set_option maxRecDepth 100000
open Go.RowKit

theorem trod_struct5 {H : Type} {enc : TypeId × Value → H} {P : Program} {w : World} {base : Nat} {spare : Nat → Bool} {held : Bool} {t : TypeId} {f0 f1 f2 f3 f4 : Field} {fuel : Nat} {cs : List Value} {x : DataW H × List MemPlace}
    (ht : P.underlying t = some (.struct #[f0, f1, f2, f3, f4])) (h : DataW.trod enc P w base spare held fuel t cs = some x) :
    ∃ y0 y1 y2 y3 y4 n, cs.length = P.cellsOf t ∧ DataW.trod enc P w base spare held n f0.type ((cs.drop f0.offset).take (P.cellsOf f0.type)) = some y0 ∧
      DataW.trod enc P w base spare held n f1.type ((cs.drop f1.offset).take (P.cellsOf f1.type)) = some y1 ∧ DataW.trod enc P w base spare held n f2.type ((cs.drop f2.offset).take (P.cellsOf f2.type)) = some y2 ∧
      DataW.trod enc P w base spare held n f3.type ((cs.drop f3.offset).take (P.cellsOf f3.type)) = some y3 ∧ DataW.trod enc P w base spare held n f4.type ((cs.drop f4.offset).take (P.cellsOf f4.type)) = some y4 := by
  obtain ⟨xs, n, _, rfl, hl, hlen, hf⟩ := DataW.trod_struct ht h
  match xs, hlen with
  | [y0, y1, y2, y3, y4], _ => exact ⟨y0, y1, y2, y3, y4, n, hl, by simpa using hf 0 f0 rfl, by simpa using hf 1 f1 rfl, by simpa using hf 2 f2 rfl, by simpa using hf 3 f3 rfl, by simpa using hf 4 f4 rfl⟩
/-- A STATE THAT CAME IN. -/
def StFine (s : St) : Prop := (Lit.int .i64 s.c).wf = true ∧ (Lit.int .i64 s.p).wf = true ∧ s.t.size ≤ maxLen
theorem open_stV {H : Type} {enc : TypeId × Value → H} {P : Program} {w : World} {base b0 : Nat} {spare : Nat → Bool} {held : Bool} {r : Reach} {t ti ts tb : TypeId} {n0 n1 n2 n3 n4 : Field} {v : Value} {d : DataW H} {ps : List MemPlace}
    (ht : P.underlying t = some (.struct #[n0, n1, n2, n3, n4])) (hi1 : P.cellsOf ti = 1) (hs1 : P.cellsOf ts = 1) (hb1 : P.cellsOf tb = 1)
    (f0 : n0.type = ts ∧ n0.offset = 0) (f1 : n1.type = tb ∧ n1.offset = 1) (f2 : n2.type = tb ∧ n2.offset = 2) (f3 : n3.type = ti ∧ n3.offset = 3) (f4 : n4.type = ti ∧ n4.offset = 4)
    (hi : P.underlying ti = some (.int .i64)) (hs : P.underlying ts = some .string) (hb : P.underlying tb = some .bool) (hC : P.cellsOf t = 5) (hval : Value.okWide P w r b0 t v) (hd : DataW.Trod enc P w base spare held t v d ps) :
    ∃ s : St, v = stV s ∧ StFine s := by
  obtain ⟨cs, rfl, hsz⟩ := Go.WideShapes.okWide_struct ht hval
  obtain ⟨fuel, hf⟩ := hd
  obtain ⟨y0, y1, y2, y3, y4, q, hlen, g0, g1, g2, g3, g4⟩ := trod_struct5 ht hf
  rw [f0.1, f0.2, hs1] at g0
  rw [f1.1, f1.2, hb1] at g1
  rw [f2.1, f2.2, hb1] at g2
  rw [f3.1, f3.2, hi1] at g3
  rw [f4.1, f4.2, hi1] at g4
  obtain ⟨u0, p0, _, v0⟩ := DataW.trod_string hs g0
  obtain ⟨u1, p1, _⟩ := DataW.trod_bool hb g1
  obtain ⟨u2, p2, _⟩ := DataW.trod_bool hb g2
  obtain ⟨u3, p3, _, v3⟩ := DataW.trod_int hi g3
  obtain ⟨u4, p4, _, v4⟩ := DataW.trod_int hi g4
  have e : cs.toList = [.string u0, .bool u1, .bool u2, .int .i64 u3, .int .i64 u4] := by
    rw [hC] at hsz
    have p0' : (cs.toList.drop 0).take 1 = [.string u0] := p0
    have p1' : (cs.toList.drop 1).take 1 = [.bool u1] := p1
    have p2' : (cs.toList.drop 2).take 1 = [.bool u2] := p2
    have p3' : (cs.toList.drop 3).take 1 = [.int .i64 u3] := p3
    have p4' : (cs.toList.drop 4).take 1 = [.int .i64 u4] := p4
    match hcs : cs.toList, (show cs.toList.length = 5 by simpa using hsz) with
    | [a, b, c, d, e], _ =>
      rw [hcs] at p0' p1' p2' p3' p4'
      simp at p0' p1' p2' p3' p4'
      rw [p0', p1', p2', p3', p4']
  refine ⟨⟨u0, u1, u2, u3, u4⟩, ?_, v3, v4, v0⟩
  congr 1
  exact Array.toList_inj.1 e

/-- A boxed state. -/
abbrev stC (s : St) : Array Value := #[.string s.t, .bool s.j, .bool s.g, .int .i64 s.c, .int .i64 s.p]
def BoxS (w : World) (B : Nat) (s : St) : Prop := w.heap[B]? = some (.cells (stC s) 25 (0, 0))
theorem BoxS.lt {w : World} {B : Nat} {s : St} (h : BoxS w B s) : B < w.heap.size := (Array.getElem?_eq_some_iff.1 h).1
theorem BoxS.below {w w' : World} {B : Nat} {s : St} (h : BoxS w B s) (hb : Below w.heap.size w w') : BoxS w' B s := (hb.block _ h.lt).trans h
theorem BoxS.new (w : World) (s : St) : BoxS (w.alloc (.cells (stC s) 25)) w.heap.size s := heap_alloc_new _ _
theorem BoxS.call {w w1 : World} {s : St} (hb : Below (w.alloc (.cells (stC s) 25)).heap.size (w.alloc (.cells (stC s) 25)) w1) : BoxS w1 w.heap.size s :=
  (BoxS.new w s).below hb
theorem BoxS.cells {w : World} {B : Nat} {s : St} (h : BoxS w B s) : w.cell? ⟨B, 0, none⟩ = some (.string s.t) ∧ w.cell? ⟨B, 1, none⟩ = some (.bool s.j) ∧ w.cell? ⟨B, 2, none⟩ = some (.bool s.g) ∧
    w.cell? ⟨B, 3, none⟩ = some (.int .i64 s.c) ∧ w.cell? ⟨B, 4, none⟩ = some (.int .i64 s.p) := by
  unfold BoxS at h
  refine ⟨?_, ?_, ?_, ?_, ?_⟩ <;> (unfold World.cell?; simp only [h]; rfl)
theorem BoxS.frozen {w : World} {B : Nat} {s : St} (h : BoxS w B s) : w.frozen? ⟨B, 0, none⟩ = false ∧ w.frozen? ⟨B, 1, none⟩ = false ∧ w.frozen? ⟨B, 2, none⟩ = false ∧ w.frozen? ⟨B, 3, none⟩ = false ∧ w.frozen? ⟨B, 4, none⟩ = false := by
  unfold BoxS at h
  refine ⟨?_, ?_, ?_, ?_, ?_⟩ <;> (unfold World.frozen?; simp only [h]; rfl)
theorem BoxS.set0 {w : World} {B : Nat} {s : St} (h : BoxS w B s) (t : ByteArray) : BoxS (w.setCell ⟨B, 0, none⟩ (.string t)) B { s with t := t } := Go.heap_setCell_same w B 0 _ _ _ h
theorem BoxS.set1 {w : World} {B : Nat} {s : St} (h : BoxS w B s) (j : Bool) : BoxS (w.setCell ⟨B, 1, none⟩ (.bool j)) B { s with j := j } := Go.heap_setCell_same w B 1 _ _ _ h
theorem BoxS.set2 {w : World} {B : Nat} {s : St} (h : BoxS w B s) (g : Bool) : BoxS (w.setCell ⟨B, 2, none⟩ (.bool g)) B { s with g := g } := Go.heap_setCell_same w B 2 _ _ _ h
theorem BoxS.set3 {w : World} {B : Nat} {s : St} (h : BoxS w B s) (c : Int) : BoxS (w.setCell ⟨B, 3, none⟩ (.int .i64 c)) B { s with c := c } := Go.heap_setCell_same w B 3 _ _ _ h
theorem BoxS.set4 {w : World} {B : Nat} {s : St} (h : BoxS w B s) (p : Int) : BoxS (w.setCell ⟨B, 4, none⟩ (.int .i64 p)) B { s with p := p } := Go.heap_setCell_same w B 4 _ _ _ h
theorem BoxS.other {w : World} {B g o : Nat} {s : St} {v : Value} (h : BoxS w B s) (hne : g ≠ B) : BoxS (w.setCell ⟨g, o, none⟩ v) B s := (Below.heap_setCell _ _ _ _ (fun e => hne e.symm)).trans h
theorem BoxS.drew {w : World} {B : Nat} {s : St} (h : BoxS w B s) : BoxS w.drew B s := h
theorem BoxS.row {w : World} {B g : Nat} {s : St} (h : BoxS w B s) (cs : Array Value) (hne : B ≠ g) : BoxS (w.setRow g cs) B s := (setRow_other w g B cs hne).trans h
/-- A boxed atom. -/
def BoxT (w : World) (A : Nat) (k : Int) (t : ByteArray) : Prop := w.heap[A]? = some (.cells #[.int .i64 k, .string t] 33 (0, 0))
theorem BoxT.lt {w : World} {A : Nat} {k : Int} {t : ByteArray} (h : BoxT w A k t) : A < w.heap.size := (Array.getElem?_eq_some_iff.1 h).1
theorem BoxT.below {w w' : World} {A : Nat} {k : Int} {t : ByteArray} (h : BoxT w A k t) (hb : Below w.heap.size w w') : BoxT w' A k t := (hb.block _ h.lt).trans h
theorem BoxT.new (w : World) (k : Int) (t : ByteArray) : BoxT (w.alloc (.cells #[.int .i64 k, .string t] 33)) w.heap.size k t := heap_alloc_new _ _
theorem BoxT.cells {w : World} {A : Nat} {k : Int} {t : ByteArray} (h : BoxT w A k t) : w.cell? ⟨A, 0, none⟩ = some (.int .i64 k) ∧ w.cell? ⟨A, 1, none⟩ = some (.string t) := by
  unfold BoxT at h
  refine ⟨?_, ?_⟩ <;> (unfold World.cell?; simp only [h]; rfl)
theorem BoxT.row {w : World} {A g : Nat} {k : Int} {t : ByteArray} (h : BoxT w A k t) (cs : Array Value) (hne : A ≠ g) : BoxT (w.setRow g cs) A k t := (setRow_other w g A cs hne).trans h
theorem BoxT.other {w : World} {A g o : Nat} {k : Int} {t : ByteArray} {v : Value} (h : BoxT w A k t) (hne : g ≠ A) : BoxT (w.setCell ⟨g, o, none⟩ v) A k t := (Below.heap_setCell _ _ _ _ (fun e => hne e.symm)).trans h
theorem below_alS (w : World) (o : Obj) : Below w.heap.size w (w.alloc o) := (Below.refl _ _).alloc (Nat.le_refl _) _
theorem below_al2S (w : World) (o o' : Obj) : Below w.heap.size w ((w.alloc o).alloc o') := ((Below.refl _ _).alloc (Nat.le_refl _) _).alloc (by simp) _
theorem below_al3S (w : World) (o o' o2 : Obj) : Below w.heap.size w (((w.alloc o).alloc o').alloc o2) := (((Below.refl _ _).alloc (Nat.le_refl _) _).alloc (by simp) _).alloc (by simp; omega) _
theorem below_stepS {a b c : World} (h : Below a.heap.size a b) (k : Below b.heap.size b c) : Below a.heap.size a c := h.trans (k.mono h.size)
theorem below_drewS {B : Nat} {a w : World} (h : Below B a w) : Below B a w.drew := h.trans ⟨rfl, rfl, rfl, Nat.le_refl _, fun _ _ => rfl⟩
/-- A boxed state of the laws' own type. -/
theorem boxL_cells {w w1 : World} {s : St} {T : TypeId} (hb : Below (w.alloc (.cells (stC s) T)).heap.size (w.alloc (.cells (stC s) T)) w1) :
    w1.cell? ⟨w.heap.size, 0, none⟩ = some (.string s.t) ∧ w1.cell? ⟨w.heap.size, 1, none⟩ = some (.bool s.j) ∧ w1.cell? ⟨w.heap.size, 2, none⟩ = some (.bool s.g) ∧
    w1.cell? ⟨w.heap.size, 3, none⟩ = some (.int .i64 s.c) ∧ w1.cell? ⟨w.heap.size, 4, none⟩ = some (.int .i64 s.p) := by
  have e : (w.alloc (.cells (stC s) T)).heap[w.heap.size]? = some (.cells (stC s) T) := heap_alloc_new _ _
  have hl : w.heap.size < (w.alloc (.cells (stC s) T)).heap.size := by rw [World.size_alloc]; omega
  refine ⟨(hb.cell (p := ⟨w.heap.size, 0, none⟩) hl).trans ?_, (hb.cell (p := ⟨w.heap.size, 1, none⟩) hl).trans ?_, (hb.cell (p := ⟨w.heap.size, 2, none⟩) hl).trans ?_, (hb.cell (p := ⟨w.heap.size, 3, none⟩) hl).trans ?_, (hb.cell (p := ⟨w.heap.size, 4, none⟩) hl).trans ?_⟩ <;> (unfold World.cell?; simp only [e]; rfl)
def BoxL (w : World) (B : Nat) (s : St) : Prop := B < w.heap.size ∧ w.cell? ⟨B, 0, none⟩ = some (.string s.t) ∧ w.cell? ⟨B, 1, none⟩ = some (.bool s.j) ∧ w.cell? ⟨B, 2, none⟩ = some (.bool s.g) ∧ w.cell? ⟨B, 3, none⟩ = some (.int .i64 s.c) ∧ w.cell? ⟨B, 4, none⟩ = some (.int .i64 s.p)
theorem BoxL.below {w w' : World} {B : Nat} {s : St} (h : BoxL w B s) (hb : Below w.heap.size w w') : BoxL w' B s :=
  ⟨Nat.lt_of_lt_of_le h.1 hb.size, (hb.cell (p := ⟨B, 0, none⟩) h.1).trans h.2.1, (hb.cell (p := ⟨B, 1, none⟩) h.1).trans h.2.2.1, (hb.cell (p := ⟨B, 2, none⟩) h.1).trans h.2.2.2.1, (hb.cell (p := ⟨B, 3, none⟩) h.1).trans h.2.2.2.2.1, (hb.cell (p := ⟨B, 4, none⟩) h.1).trans h.2.2.2.2.2⟩
theorem BoxL.new {w w1 : World} {s : St} {T : TypeId} (hb : Below (w.alloc (.cells (stC s) T)).heap.size (w.alloc (.cells (stC s) T)) w1) : BoxL w1 w.heap.size s :=
  ⟨by have := hb.size; rw [World.size_alloc] at this; omega, boxL_cells hb⟩
/-- A whole state stored. -/
theorem at_storeS {ops : Array Oper} {rest : List Oper} {o : Oper} {a : Act} {w : World} {Q : Exit → Act → World → Prop} (hgd : o.guard = none) (x y : Operand) (ho : o.op = .store 25 x y)
    (g : Nat) (s s' : St) (hx : a.eval x = .pointer (some ⟨g, 0, none⟩)) (hy : a.eval y = stV s) (hg : BoxS w g s')
    (h : wpList Tryz.prog ops Q rest (a.put o.dst undef) (w.setRow g (stC s))) : wpList Tryz.prog ops Q (o :: rest) a w :=
  wpList_store_row hgd _ x y ho g _ hx hy _ _ hg (by kernel_rfl) rfl (by rw [Array.all_eq_true_iff_forall_mem]; intro x hx; simp at hx; rcases hx with rfl | rfl | rfl | rfl | rfl <;> rfl) h
theorem BoxS.set {w : World} {B : Nat} {s : St} (h : BoxS w B s) (s' : St) : BoxS (w.setRow B (stC s')) B s' := setRow_heap _ _ _ _ _ _ h
/-- A whole state loaded. -/
theorem at_loadS {ops : Array Oper} {rest : List Oper} {o : Oper} {a : Act} {w : World} {Q : Exit → Act → World → Prop} (hgd : o.guard = none) (x : Operand) (ho : o.op = .load 25 x)
    (g : Nat) (s : St) (hx : a.eval x = .pointer (some ⟨g, 0, none⟩)) (hg : BoxS w g s)
    (h : wpList Tryz.prog ops Q rest (a.put o.dst (stV s)) w) : wpList Tryz.prog ops Q (o :: rest) a w :=
  wpList_load_row hgd _ x ho g hx _ _ _ _ hg Tryz.underlying25 rfl (by kernel_rfl) h
/-- Results in cells: a state alone, a state and a bool. -/
theorem results_S {fn : Func} {p : Tmp} (h : fn.results = #[.cell p 25]) (tmps : Array Value) (w : World) (g : Nat) (s : St)
    (hp : tmps.getD p undef = .pointer (some ⟨g, 0, none⟩)) (hg : BoxS w g s) : (results fn tmps).run Tryz.prog w = .ok (stV s) w :=
  results_cell_row h _ _ _ _ _ _ _ hp hg Tryz.underlying25 rfl (by kernel_rfl)
theorem results_S2 {fn : Func} {p u : Tmp} (h : fn.results = #[.cell p 25, .tmp u]) (tmps : Array Value) (w : World) (g : Nat) (s : St)
    (hp : tmps.getD p undef = .pointer (some ⟨g, 0, none⟩)) (hg : BoxS w g s) :
    (results fn tmps).run Tryz.prog w = .ok (.tuple #[stV s, tmps.getD u undef]) w := by
  have hr := run_loadVar_row (P := Tryz.prog) w g _ 25 _ _ _ hg Tryz.underlying25 rfl (by kernel_rfl)
  rw [results_cell_tmp h, hp]
  simp [asAddr, hr, Result.andThen]
theorem fields_atm : (Tryz.prog.fieldsOf 33).toList.map (fun f => (f.name, f.type, f.offset)) = [("Kind", 3, 0), ("Text", 9, 1)] := by kernel_rfl
theorem fields_st : (Tryz.prog.fieldsOf 25).toList.map (fun f => (f.name, f.type, f.offset)) = [("Text", 9, 0), ("Joined", 4, 1), ("Glued", 4, 2), ("CapNext", 3, 3), ("Word", 3, 4)] := by kernel_rfl
set_option maxRecDepth 100000 in
/-- A state is itself. -/
theorem neqS_same (s : St) (w : World) : (binOp .neq 25 (stV s) (stV s)).run Tryz.prog w = .ok (.bool false) w := by
  obtain ⟨t, j, g, c, q⟩ := s
  have h := fields_st
  obtain ⟨fs, hfs⟩ : ∃ fs, fs = (Tryz.prog.fieldsOf 25).toList := ⟨_, rfl⟩
  rw [← hfs] at h
  match fs, h with
  | [f0, f1, f2, f3, f4], h =>
    simp at h
    obtain ⟨⟨a0, a1, a2⟩, ⟨b0, b1, b2⟩, ⟨c0, c1, c2⟩, ⟨d0, d1, d2⟩, e0, e1, e2⟩ := h
    rw [run_neq_struct, run_equalIn_agg _ _ _ _ _ (by kernel_rfl) (by kernel_rfl), ← hfs]
    have p0 : ∀ w, (part 9 #[.string t, .bool j, .bool g, .int .i64 c, .int .i64 q] 0).run Tryz.prog w = .ok (.string t) w := fun w => by rfl
    have p1 : ∀ w, (part 4 #[.string t, .bool j, .bool g, .int .i64 c, .int .i64 q] 1).run Tryz.prog w = .ok (.bool j) w := fun w => by rfl
    have p2 : ∀ w, (part 4 #[.string t, .bool j, .bool g, .int .i64 c, .int .i64 q] 2).run Tryz.prog w = .ok (.bool g) w := fun w => by rfl
    have p3 : ∀ w, (part 3 #[.string t, .bool j, .bool g, .int .i64 c, .int .i64 q] 3).run Tryz.prog w = .ok (.int .i64 c) w := fun w => by rfl
    have p4 : ∀ w, (part 3 #[.string t, .bool j, .bool g, .int .i64 c, .int .i64 q] 4).run Tryz.prog w = .ok (.int .i64 q) w := fun w => by rfl
    simp [Op.eqFields, a0, a1, a2, b0, b1, b2, c0, c1, c2, d0, d1, d2, e0, e1, e2, p0, p1, p2, p3, p4, run_equalIn_int _ _ _ _ _ _ _ Tryz.underlying3, run_equalIn_string _ _ _ _ _ Tryz.underlying9, run_equalIn_bool' _ _ _ _ _ Tryz.underlying4]
set_option maxRecDepth 100000 in
/-- A state is itself. -/
theorem eqlS_same (s : St) (w : World) : (binOp .eql 25 (stV s) (stV s)).run Tryz.prog w = .ok (.bool true) w := by
  obtain ⟨t, j, g, c, q⟩ := s
  have h := fields_st
  obtain ⟨fs, hfs⟩ : ∃ fs, fs = (Tryz.prog.fieldsOf 25).toList := ⟨_, rfl⟩
  rw [← hfs] at h
  match fs, h with
  | [f0, f1, f2, f3, f4], h =>
    simp at h
    obtain ⟨⟨a0, a1, a2⟩, ⟨b0, b1, b2⟩, ⟨c0, c1, c2⟩, ⟨d0, d1, d2⟩, e0, e1, e2⟩ := h
    rw [run_eql_struct, run_equalIn_agg _ _ _ _ _ (by kernel_rfl) (by kernel_rfl), ← hfs]
    have p0 : ∀ w, (part 9 #[.string t, .bool j, .bool g, .int .i64 c, .int .i64 q] 0).run Tryz.prog w = .ok (.string t) w := fun w => by rfl
    have p1 : ∀ w, (part 4 #[.string t, .bool j, .bool g, .int .i64 c, .int .i64 q] 1).run Tryz.prog w = .ok (.bool j) w := fun w => by rfl
    have p2 : ∀ w, (part 4 #[.string t, .bool j, .bool g, .int .i64 c, .int .i64 q] 2).run Tryz.prog w = .ok (.bool g) w := fun w => by rfl
    have p3 : ∀ w, (part 3 #[.string t, .bool j, .bool g, .int .i64 c, .int .i64 q] 3).run Tryz.prog w = .ok (.int .i64 c) w := fun w => by rfl
    have p4 : ∀ w, (part 3 #[.string t, .bool j, .bool g, .int .i64 c, .int .i64 q] 4).run Tryz.prog w = .ok (.int .i64 q) w := fun w => by rfl
    simp [Op.eqFields, a0, a1, a2, b0, b1, b2, c0, c1, c2, d0, d1, d2, e0, e1, e2, p0, p1, p2, p3, p4, run_equalIn_int _ _ _ _ _ _ _ Tryz.underlying3, run_equalIn_string _ _ _ _ _ Tryz.underlying9, run_equalIn_bool' _ _ _ _ _ Tryz.underlying4]
end Go.Proofs.YtnpiphkglhcifaaGreatDoor
