/-
  laws.FnSegment returns true whatever the code: longest-match segmentation is a segmentation, each of its pieces is the longest match at its index, and the program and the document's own text answer alike at all that the code draws. Conditions: none but the row's own.
-/
import Derived.Test.YtnpiphkglhcifaaGreatG2FnSegment
import Derived.Test.YtnpiphkglhcifaaGreatG1FnSegment
import Derived.Test.YtnpiphkglhcifaaGreatG4FnSegment
import Derived.Test.YtnpiphkglhcifaaGreatRows
import Derived.WalkKit
import Derived.ProofKit
import Derived.OpenShut
import Derived.ShutString
import Derived.ChangeOld
import Derived.Below
import Derived.SliceStrings
import Derived.JoinedCond
import Derived.Deep.DeepHandedRow
import Derived.Deep.DeepWitnessRowRef
import Derived.Lib.Hide
import Derived.Test.YtnpiphkglhcifaaGreatBig
import Derived.Test.YtnpiphkglhcifaaGreatG3FnSegment
import Derived.Test.YtnpiphkglhcifaaGreatG5FnSegment
import Derived.Deep.Cut
namespace Go.Proofs.YtnpiphkglhcifaaGreat
set_option maxRecDepth 100000
open Go.RowKit

theorem neqPc_same (e : Pc) (w : World) : (binOp .neq 37 (pcV e) (pcV e)).run Tryz.prog w = .ok (.bool false) w := by
  obtain ⟨f, c, t⟩ := e
  have h := fields_pc
  obtain ⟨fs, hfs⟩ : ∃ fs, fs = (Tryz.prog.fieldsOf 37).toList := ⟨_, rfl⟩
  rw [← hfs] at h
  match fs, h with
  | [f0, f1, f2], h =>
    simp at h
    obtain ⟨⟨a0, a1, a2⟩, ⟨b0, b1, b2⟩, c0, c1, c2⟩ := h
    rw [run_neq_struct, run_equalIn_agg _ _ _ _ _ (by kernel_rfl) (by kernel_rfl), ← hfs]
    have p0 : ∀ w, (part 3 #[.int .i64 f, .int .i64 c, .string t] 0).run Tryz.prog w = .ok (.int .i64 f) w := fun w => by rfl
    have p1 : ∀ w, (part 3 #[.int .i64 f, .int .i64 c, .string t] 1).run Tryz.prog w = .ok (.int .i64 c) w := fun w => by rfl
    have p2 : ∀ w, (part 9 #[.int .i64 f, .int .i64 c, .string t] 2).run Tryz.prog w = .ok (.string t) w := fun w => by rfl
    simp [Op.eqFields, a0, a1, a2, b0, b1, b2, c0, c1, c2, p0, p1, p2, run_equalIn_int _ _ _ _ _ _ _ Tryz.underlying3, run_equalIn_string _ _ _ _ _ Tryz.underlying9]
set_option maxHeartbeats 1000000 in
theorem vPcs_same (v u : Value) (ls : List Pc) (w : World) (hv : PcsAt w v ls) (hu : PcsAt w u ls) (hn : ls.length ≤ 2097152) :
    Calls Tryz.prog 9 #[v, u] w fun e w' => e = .returned (.bool true) ∧ Below w.heap.size w w' := by
  obtain ⟨a, cap, rfl, hcap, hC⟩ := pc_cells hv
  obtain ⟨a', cap', rfl, hcap', hD⟩ := pc_cells hu
  obtain ⟨n, hnn⟩ : ∃ n, n = ls.length := ⟨_, rfl⟩
  rw [← hnn] at hn hcap hcap' ⊢
  have HN := Lib.hid hnn
  have HC := Lib.hid hC
  have HD := Lib.hid hD
  have hnnn : ((n : Int) != (n : Int)) = false := by simp
  clear hv hu hnn hC hD
  go_enter Tryz.func9, Tryz.ntmps9
  go_wp2_with fail
  go_loopw [5] (fun i wr => ∃ k : Nat, k ≤ n ∧ i = .int .i64 k ∧ Below w.heap.size w wr) (fun i _ => n - (intOf i).toNat)
  case atStart => exact ⟨0, Nat.zero_le _, rfl, Below.refl _ _⟩
  case round =>
    obtain ⟨k, hk, rfl, hbel⟩ := hrel
    by_cases hlt : k < n
    · obtain ⟨e, he⟩ : ∃ e, ls[k]? = some e := ⟨_, List.getElem?_eq_getElem (by rw [← HN.out]; exact hlt)⟩
      obtain ⟨bk, o, rfl, g0, g1, g2⟩ := HC.out wr hbel k e he
      obtain ⟨bk', o', rfl, d0, d1, d2⟩ := HD.out wr hbel k e he
      have hcmp := fun w => neqPc_same e w
      obtain ⟨f, c, t⟩ := e
      dsimp only [pcV] at hcmp g0 g1 g2 d0 d1 d2
      clear he HC HD
      go_wp2_with fail
      go_quiet (fail)
      go_wp2
      go_roundw
      case rel => exact ⟨k + 1, by omega, by go_num, below_drewP hbel nq⟩
      case measure => simp [intOf]; omega
    · go_wp2
      go_ret
      exact ⟨rfl, hbel⟩
/-- The plain book: one entry, two strokes. -/
def bookE : List Ent := [([1048576], ⟨#[123, 94, 115, 125]⟩)]
def bookX : List Int := [1048576, 262144]
theorem book_ok : sgB bookE bookX = true := by kernel_rfl
theorem intsAt_set {w : World} {b T : Nat} {u y x : Value} {xs : List Int} (h : IntsAt w u xs) (hb : BoxV w b T y) (hy : ∀ i, y ≠ .int .i64 i) : IntsAt (w.setCell ⟨b, 0, none⟩ x) u xs := by
  obtain ⟨a, cap, hv, hc, h⟩ := h
  refine ⟨a, cap, hv, hc, ?_⟩
  rcases h with h | ⟨bk, o, ha, hk, h⟩
  · exact .inl h
  · refine .inr ⟨bk, o, ha, by rw [World.size_setCell]; exact hk, fun j z hz => ?_⟩
    have hq := h j z hz
    rw [World.cell?_setCell_other _ _ _ _ ?_]
    · exact hq
    · intro e
      rw [← e, hb.cell] at hq
      injection hq with hq
      exact hy _ hq
theorem book_new (w : World) (b : Nat) (x : Value) (hb : b < w.heap.size) (W : World)
    (hW : W = (((w.alloc (.cells #[.int .i64 1048576] 3)).alloc (.cells #[.slice (some ⟨w.heap.size, 0, none⟩) 1 1, .string ⟨#[123, 94, 115, 125]⟩] 45)).alloc (.cells #[.int .i64 1048576, .int .i64 262144] 3)).setCell ⟨b, 0, none⟩ x) :
    EntsAt W (.slice (some ⟨w.heap.size + 1, 0, none⟩) 1 1) bookE ∧ IntsAt W (.slice (some ⟨w.heap.size + 1 + 1, 0, none⟩) 2 2) bookX := by
  obtain ⟨W1, h1⟩ : ∃ W1, W1 = w.alloc (.cells #[.int .i64 1048576] 3) := ⟨_, rfl⟩
  obtain ⟨W2, h2⟩ : ∃ W2, W2 = W1.alloc (.cells #[.slice (some ⟨w.heap.size, 0, none⟩) 1 1, .string ⟨#[123, 94, 115, 125]⟩] 45) := ⟨_, rfl⟩
  obtain ⟨W3, h3⟩ : ∃ W3, W3 = W2.alloc (.cells #[.int .i64 1048576, .int .i64 262144] 3) := ⟨_, rfl⟩
  have s1 : W1.heap.size = w.heap.size + 1 := by rw [h1, World.size_alloc]
  have s2 : W2.heap.size = w.heap.size + 1 + 1 := by rw [h2, World.size_alloc, s1]
  have s3 : W3.heap.size = w.heap.size + 1 + 1 + 1 := by rw [h3, World.size_alloc, s2]
  have b2 : Below W1.heap.size W1 W2 := by rw [h2]; exact below_al _ _
  have b3 : Below W2.heap.size W2 W3 := by rw [h3]; exact below_al _ _
  have c0 : W3.cell? ⟨w.heap.size, 0, none⟩ = some (.int .i64 1048576) := by
    rw [b3.cell (p := ⟨w.heap.size, 0, none⟩) (by show w.heap.size < _; omega), b2.cell (p := ⟨w.heap.size, 0, none⟩) (by show w.heap.size < _; omega), h1, cell_new]; rfl
  have c1 : ∀ i, W3.cell? ⟨w.heap.size + 1, i, none⟩ = (#[.slice (some ⟨w.heap.size, 0, none⟩) 1 1, .string ⟨#[123, 94, 115, 125]⟩] : Array Value)[i]? := fun i => by
    rw [b3.cell (p := ⟨w.heap.size + 1, i, none⟩) (by show w.heap.size + 1 < _; omega), h2, ← s1, cell_new]
  have c2 : ∀ i, W3.cell? ⟨w.heap.size + 1 + 1, i, none⟩ = (#[.int .i64 1048576, .int .i64 262144] : Array Value)[i]? := fun i => by rw [h3, ← s2, cell_new]
  rw [← h1, ← h2, ← h3] at hW
  have hc : ∀ k i, b < k → W.cell? ⟨k, i, none⟩ = W3.cell? ⟨k, i, none⟩ := fun k i hk => by rw [hW, World.cell?_setCell_other _ _ _ _ (by intro e; injection e; omega)]
  have hs : W.heap.size = w.heap.size + 1 + 1 + 1 := by rw [hW, World.size_setCell, s3]
  constructor
  · refine ⟨_, _, rfl, Nat.le_refl _, .inr ⟨_, _, rfl, by omega, fun j e he => ?_⟩⟩
    have hj : j = 0 := by
      have := (List.getElem?_eq_some_iff.1 he).1
      simp [bookE] at this; exact this
    subst hj
    simp only [bookE, List.getElem?_cons_zero, Option.some.injEq] at he
    subst he
    refine ⟨.slice (some ⟨w.heap.size, 0, none⟩) 1 1, (hc _ _ (by omega)).trans ((c1 _).trans rfl), (hc _ _ (by omega)).trans ((c1 _).trans rfl), ⟨_, _, rfl, Nat.le_refl _, .inr ⟨_, _, rfl, by omega, fun j z hz => ?_⟩⟩⟩
    have hj : j = 0 := by
      have := (List.getElem?_eq_some_iff.1 hz).1
      simp at this; exact this
    subst hj
    simp only [List.getElem?_cons_zero, Option.some.injEq] at hz
    subst hz
    exact (hc _ _ (by omega)).trans c0
  · refine ⟨_, _, rfl, Nat.le_refl _, .inr ⟨_, _, rfl, by omega, fun j z hz => ?_⟩⟩
    have hj : j < 2 := by
      have := (List.getElem?_eq_some_iff.1 hz).1
      simp [bookX] at this; exact this
    refine (hc _ _ (by omega)).trans ((c2 _).trans ?_)
    rcases (show j = 0 ∨ j = 1 by omega) with rfl | rfl
    · simp [bookX] at hz; subst hz; rfl
    · simp [bookX] at hz; subst hz; rfl
set_option maxHeartbeats 4000000 in
theorem vBook_any (a : Option Addr) (n cap : Nat) (w : World) (h : CodeAt w a n) :
    Calls Tryz.prog 5 #[.slice a n cap] w fun r w' => (∃ (v : Value) (es : List Ent) (u : Value) (xs : List Int), r = .returned (.tuple #[dV v, u]) ∧ EntsAt w' v es ∧ IntsAt w' u xs ∧ sgB es xs = true ∧ es.length ≤ 60 ∧ (∀ e ∈ es, entOk e) ∧ xs.length ≤ 61) ∧ Below w.heap.size w w' := by
  have cd := fun w h => drawSegment_any a n cap w h
  unfold DPairL dV at cd
  have CD := Lib.hid cd
  have CS := Lib.hid (fun v es u xs w h hu hn hx hxn => specSegment_any v es u xs w h hu hn hx hxn)
  unfold dV at CS ⊢
  have hb0 := below_al w (.cells #[.slice none 0 0] 26)
  have H0 := Lib.hid (h.below hb0)
  have B0 := Lib.hid hb0
  have X0 := Lib.hid (BoxV.new w 26 (.slice none 0 0))
  clear h cd hb0
  go_enter Tryz.func5, Tryz.ntmps5
  go_wp2_with fail
  refine (CD.out _ H0.out).mono ?_
  rintro r w1 ⟨⟨v, us, u, xs, rfl, hr, hl, hs, hi, hxl⟩, hb⟩
  obtain ⟨va, vc, hvf⟩ := hr.form
  subst hvf
  obtain ⟨ua, uc, huf, _⟩ := hi.at
  subst huf
  obtain ⟨w2, hw2⟩ : ∃ W, W = w1.alloc (.cells #[.slice va us.length vc] 26) := ⟨_, rfl⟩
  have hbA : Below w1.heap.size w1 w2 := by rw [hw2]; exact below_al _ _
  have D2 : Hid (BoxV w2 w1.heap.size 26 (.slice va us.length vc)) := by rw [hw2]; exact BoxV.new _ _ _
  have X1 := Lib.hid (X0.out.below hb X0.out.lt)
  have X2 := Lib.hid (X1.out.below hbA X1.out.lt)
  have B2 := Lib.hid (below_step (below_step B0.out hb) hbA)
  have E2 := Lib.hid ((hr.at.below hbA).at)
  have I2 := Lib.hid ((hi.below hbA).at)
  have hw2l : w1.heap.size < w2.heap.size := D2.out.lt
  have R2 := Lib.hid (hr.below hbA)
  have HW2 := Lib.hid hw2
  have HS := Lib.hid hs
  have cD := D2.out.cell
  rw [HW2.out] at cD
  clear hr hi hb hbA hw2 hs X0 X1 B0 H0 CD
  go_wp2_with fail
  rw [← HW2.out]
  refine (CS.out _ _ _ _ _ E2.out I2.out (by rw [List.length_map]; omega) (fun e he => by obtain ⟨p, hp, rfl⟩ := List.mem_map.1 he; have := HS.out p hp; exact ⟨by omega, by omega⟩) (by omega)).mono ?_
  rintro r w3 ⟨⟨y, rfl, _⟩, hb3⟩
  have D3 := Lib.hid (D2.out.below hb3 D2.out.lt)
  have X3 := Lib.hid (X2.out.below hb3 X2.out.lt)
  have B3 := Lib.hid (below_step B2.out hb3)
  have I3 := Lib.hid (I2.out.below hb3)
  have R3 := Lib.hid (R2.out.below hb3)
  have cR := X3.out.cell
  have fR := X3.out.frozen
  have cE := D3.out.cell
  clear cD HW2 D2 X2 B2 I2 R2 E2 CS
  cases hsg : sgB (us.map (·.2)) xs with
  | true =>
    have HG := Lib.hid hsg
    clear hsg
    go_wp2
    refine bodyPost_ret (results_dt2 rfl _ _ w.heap.size _ rfl (X3.out.set _)) rfl ?_
    exact ⟨⟨_, us.map (·.2), _, xs, rfl, (R3.out.setCell (by simp)).at.at, intsAt_set I3.out X3.out (by simp), HG.out, by rw [List.length_map]; exact hl, fun e he => by obtain ⟨p, hp, rfl⟩ := List.mem_map.1 he; have := HS.out p hp; exact ⟨by omega, by omega⟩, hxl⟩, B3.out.setCell (p := ⟨w.heap.size, 0, none⟩) (Nat.le_refl _) _⟩
  | false =>
    clear hsg
    obtain ⟨w4, h4⟩ : ∃ W, W = ((w3.alloc (.cells #[.int .i64 1048576] 3)).alloc (.cells #[.slice (some ⟨w3.heap.size, 0, none⟩) 1 1, .string ⟨#[123, 94, 115, 125]⟩] 45)).alloc (.cells #[.int .i64 1048576, .int .i64 262144] 3) := ⟨_, rfl⟩
    have hb4 : Below w3.heap.size w3 w4 := by rw [h4]; exact below_step (below_al2 _ _ _) (below_al _ _)
    have X4 := Lib.hid (X3.out.below hb4 X3.out.lt)
    have B4 := Lib.hid (below_step B3.out hb4)
    have N4 := Lib.hid (book_new w3 w.heap.size (.slice (some ⟨w3.heap.size + 1, 0, none⟩) 1 1) X3.out.lt _ rfl)
    rw [← h4] at N4
    have cR := X4.out.cell
    have fR := X4.out.frozen
    have H4 := Lib.hid h4
    rw [H4.out] at cR fR
    clear hb4 h4
    go_wp2
    rw [← H4.out]
    refine bodyPost_ret (results_dt2 rfl _ _ w.heap.size _ rfl (X4.out.set _)) rfl ?_
    exact ⟨⟨_, bookE, _, bookX, rfl, N4.out.1, N4.out.2, book_ok, by decide, fun e he => by simp [bookE] at he; subst he; exact ⟨by decide, by decide⟩, by decide⟩, B4.out.setCell (p := ⟨w.heap.size, 0, none⟩) (Nat.le_refl _) _⟩
end Go.Proofs.YtnpiphkglhcifaaGreat

namespace Go.Proofs.YtnpiphkglhcifaaGreat.fnSegment
open Go.ChangeShapes Go.WideShapes Go.ChangeAt Go.RowKit
open Go.ChangeMaps (open_string shut_string)
set_option linter.unusedVariables false
set_option maxRecDepth 100000

theorem own : ownKnob Tryz.prog.godebug = none := by kernel_rfl
theorem laidOut : laidOutB Tryz.prog = true := by kernel_rfl

/-- A slice of integers that came in. -/
def IsRow (k : IntKind) (w : World) (a : Option Addr) (len cap : Nat) (zs : List Int) : Prop :=
  (a = none ∧ len = 0 ∧ cap = 0 ∧ zs = []) ∨
  ∃ x, a = some x ∧ len ≤ cap ∧ cap ≤ maxLen ∧ zs.length = cap ∧ (∀ i, i < zs.length → w.cell? (x.add i) = some (.int k (zs.getD i 0))) ∧ ∀ n ∈ zs, (Lit.int k n).wf = true

theorem code_of {w : World} {a : Option Addr} {n c : Nat} {z : List Int} (h : IsRow .u8 w a n c z) (hn : n ≤ 1000000) : CodeAt w a n := by
  refine ⟨hn, fun h0 => ?_⟩
  rcases h with ⟨rfl, rfl, rfl, rfl⟩ | ⟨x, rfl, hl, hm, hz, hcell, hwz⟩
  · omega
  · obtain ⟨b, o, spot⟩ := x
    have h1 := hcell 0 (by omega)
    have hspot : spot = none := by simpa [Addr.add] using World.cell?_spot h1
    subst hspot
    refine ⟨b, o, rfl, ?_, fun i hi => ?_⟩
    · have : (w.cell? ⟨b, o, none⟩).isSome := by have := h1; simp [Addr.add] at this; rw [this]; rfl
      rcases Nat.lt_or_ge b w.heap.size with h' | h'
      · exact h'
      · simp [World.cell?, Array.getElem?_eq_none h'] at this
    · have h2 := hcell i (by omega)
      have h3 := bounds_u8 (hwz (z.getD i 0) (by rw [List.getD_eq_getElem?_getD, List.getElem?_eq_getElem (by omega)]; exact List.getElem_mem _))
      refine ⟨z.getD i 0, h3.1, h3.2, ?_⟩
      by_cases hi0 : i = 0
      · subst hi0; simpa [Addr.add] using h2
      · simpa [Addr.add, hi0] using h2
theorem row_len {w : World} {a : Option Addr} {n c : Nat} {z : List Int} (h : IsRow .u8 w a n c z) : n ≤ maxLen := by
  rcases h with ⟨_, rfl, _, _⟩ | ⟨x, _, hl, hm, _⟩
  · exact Nat.zero_le _
  · omega
theorem pc_store3 {ops : Array Oper} {rest : List Oper} {o : Oper} {a : Act} {w : World} {Q : Exit → Act → World → Prop} (hgd : o.guard = none) (x y : Operand) (ho : o.op = .store 37 x y)
    (g : Nat) (f c : Int) (t : ByteArray) (e' : Pc) (hx : a.eval x = .pointer (some ⟨g, 0, none⟩)) (hy : a.eval y = .agg #[.int .i64 f, .int .i64 c, .string t]) (hg : PcB w g e')
    (h : wpList Tryz.prog ops Q rest (a.put o.dst undef) (w.setRow g #[.int .i64 f, .int .i64 c, .string t])) : wpList Tryz.prog ops Q (o :: rest) a w :=
  pc_store hgd x y ho g (f, c, t) e' hx hy hg h
theorem cell_lt {w : World} {b o : Nat} {v : Value} (h : w.cell? ⟨b, o, none⟩ = some v) : b < w.heap.size := by
  rcases Nat.lt_or_ge b w.heap.size with h' | h'
  · exact h'
  · simp [World.cell?, Array.getElem?_eq_none h'] at h
theorem seg_piece {es : List Ent} {xs : List Int} (hsg : sgB es xs = true) {k : Nat} {e : Pc} (he : (Pl.segP es xs 0)[k]? = some e) : mtE es xs e.1 = .returned (.tuple #[pcV e, .bool true]) := by
  obtain ⟨j, _, hj, rfl⟩ := Pl.segP_mat es xs 0 e (List.mem_of_getElem? he)
  obtain ⟨_, _, _, _, h1⟩ := Pl.cntP_ok (es := es) hj
  have hb : mtB es xs (Pl.matP es xs j).1 = true := by
    rw [h1]
    unfold mtB
    unfold sgB at hsg
    rw [hsg]
    simp
    omega
  rw [mtE_yes hb, h1, Int.toNat_natCast]
/-! ### THE WALK: the Go text returns true, and writes nothing that was there. -/
set_option maxRecDepth 100000 in
set_option maxHeartbeats 8000000 in
theorem walk (a0 : Option Addr) (n0 c0 : Nat) (z0 : List Int) (w : World) (hS : w.ShapedOpen Tryz.prog)  (w0 : IsRow .u8 w a0 n0 c0 z0) :
    Calls Tryz.prog 3 #[.slice a0 n0 c0] w fun e w' => e = .returned (.bool true) ∧ Below w.heap.size w w' := by
  have hnm := row_len w0
  by_cases hbig : 65536 < n0
  · have C := Lib.hid (big_yes a0 n0 c0 w hbig hnm)
    clear w0 hS hnm
    go_enter Tryz.func3, Tryz.ntmps3
    go_wp2_with fail
    refine C.out.mono ?_
    rintro e w1 ⟨rfl, rfl⟩
    go_wp2
    go_ret
    exact ⟨rfl, Below.refl _ _⟩
  have C := Lib.hid (big_no a0 n0 c0 w (by omega))
  have HC0 := Lib.hid (code_of w0 (by omega))
  have cdr := fun w h => vBook_any a0 n0 c0 w h
  unfold dV at cdr
  have CDR := Lib.hid cdr
  have cdm := fun w h => drawMatchAt_any a0 n0 c0 w h
  unfold DMa dV at cdm
  have CDM := Lib.hid cdm
  have cdi := fun w h => drawIsSegmentation_any a0 n0 c0 w h
  unfold DIs dV at cdi
  have CDI := Lib.hid cdi
  clear w0 hS hnm hbig cdr cdm cdi
  go_enter Tryz.func3, Tryz.ntmps3
  go_wp2_with fail
  refine C.out.mono ?_
  rintro e w0 ⟨rfl, rfl⟩
  go_wp2_with fail
  refine (CDR.out _ HC0.out).mono ?_
  rintro e w1 ⟨⟨v, es, u, xs, rfl, hv, hu, hsg, hen, hex, hxl⟩, hb1⟩
  have hn2 : es.length ≤ 2097152 := by omega
  have hxn : xs.length ≤ 2097152 := by omega
  obtain ⟨va, vc, rfl, hvc⟩ := hv.len
  obtain ⟨ua, uc, huf, _⟩ := id hu
  subst huf
  have ci := fun w h hu => Segment_any (.slice va es.length vc) es (.slice ua xs.length uc) xs w h hu hn2 hex hxn
  have cs := fun w h hu => specSegment_any (.slice va es.length vc) es (.slice ua xs.length uc) xs w h hu hn2 hex hxn
  have ck := fun lv ls w h hu hl hln => IsSegmentation_any (.slice va es.length vc) es (.slice ua xs.length uc) xs lv ls w h hu hl hn2 hex hxn hln
  have cm := fun i w h hu => MatchAt_any (.slice va es.length vc) es (.slice ua xs.length uc) xs i w h hu hn2 hex hxn
  unfold dV at ci cs ck cm
  unfold sgL at ci cs
  simp only [hsg, if_true] at ci cs ck
  have hlp := Pl.segP_len es xs 0
  have hpm := fun k e he => seg_piece hsg (k := k) (e := e) he
  have hseg : isB es xs (Pl.segP es xs 0) = true := by
    unfold isB
    rw [hsg, Pl.segB_seg (okD_fine (by unfold sgB at hsg; rw [Bool.and_eq_true] at hsg; exact hsg.1)) _ 0 (Pl.segP_seg es xs 0 (Nat.zero_le _))]
    rfl
  obtain ⟨ps, hps⟩ : ∃ ps, ps = Pl.segP es xs 0 := ⟨_, rfl⟩
  rw [← hps] at ci cs hlp hseg hpm
  have ckk := fun lv w h hu hl => ck lv ps w h hu hl (by omega)
  rw [hseg] at ckk
  have cv := fun v u w hv hu => vPcs_same v u ps w hv hu (by omega)
  obtain ⟨W, hW⟩ : ∃ W, W = w1.alloc (.cells #[.slice va es.length vc] 26) := ⟨_, rfl⟩
  have hbA : Below w1.heap.size w1 W := by rw [hW]; exact below_al _ _
  have E0 := Lib.hid (hv.below hbA)
  have X0 : Hid (BoxV W w1.heap.size 26 (.slice va es.length vc)) := by rw [hW]; exact BoxV.new _ _ _
  have I0 := Lib.hid (hu.below hbA)
  have B0 := Lib.hid (below_step hb1 hbA)
  have HW := Lib.hid hW
  have cX := X0.out.cell
  rw [HW.out] at cX
  have CI := Lib.hid ci
  have CS := Lib.hid cs
  have CK := Lib.hid ckk
  have CM := Lib.hid cm
  have CV := Lib.hid cv
  have HPM := Lib.hid hpm
  clear ci cs ck ckk cm cv hb1 hbA hW hu hv hsg hseg hps hn2 hxn hen hex C CDR hpm
  go_wp2_with fail
  rw [← HW.out]
  refine (CI.out W E0.out I0.out).mono ?_
  rintro e v1 ⟨⟨y, rfl, hy⟩, hb⟩
  have X1 := Lib.hid (X0.out.below hb X0.out.lt)
  have E1 := Lib.hid (E0.out.below hb)
  have I1 := Lib.hid (I0.out.below hb)
  have D1 := Lib.hid hb
  have P1 := Lib.hid (ownP_at hy)
  have cX := X1.out.cell
  obtain ⟨ya, yc, rfl, _, _⟩ := pc_cells P1.out
  clear hb hy X0 E0 I0 HW CI
  go_wp2_with fail
  refine (CS.out v1 E1.out I1.out).mono ?_
  rintro e v2 ⟨⟨z, rfl, hz⟩, hb⟩
  have X2 := Lib.hid (X1.out.below hb X1.out.lt)
  have E2 := Lib.hid (E1.out.below hb)
  have I2 := Lib.hid (I1.out.below hb)
  have P2 := Lib.hid (P1.out.below hb)
  have D2 := Lib.hid (D1.out.trans (hb.mono D1.out.size))
  have Z2 := Lib.hid (ownP_at hz)
  have cX := X2.out.cell
  clear hb hz X1 E1 I1 D1 P1 CS
  go_wp2_with fail
  refine (CK.out _ v2 E2.out I2.out P2.out).mono ?_
  rintro e v3 ⟨rfl, hb⟩
  have X3 := Lib.hid (X2.out.below hb X2.out.lt)
  have E3 := Lib.hid (E2.out.below hb)
  have I3 := Lib.hid (I2.out.below hb)
  have P3 := Lib.hid (P2.out.below hb)
  have Z3 := Lib.hid (Z2.out.below hb)
  have D3 := Lib.hid (D2.out.trans (hb.mono D2.out.size))
  clear hb X2 E2 I2 D2 P2 Z2 CK cX
  go_wp2_with fail
  refine (CV.out _ _ v3 P3.out Z3.out).mono ?_
  rintro e v4 ⟨rfl, hb⟩
  have X4 := Lib.hid (X3.out.below hb X3.out.lt)
  have E4 := Lib.hid (E3.out.below hb)
  have I4 := Lib.hid (I3.out.below hb)
  have P4 := Lib.hid (P3.out.below hb)
  have B4 : Hid (Below w.heap.size w v4) := below_step B0.out (D3.out.trans (hb.mono D3.out.size))
  obtain ⟨_, _, e4, _, hC⟩ := pc_cells P4.out
  injection e4 with ea _ _
  subst ea
  have HC := Lib.hid hC
  obtain ⟨n, hnn⟩ : ∃ n, n = ps.length := ⟨_, rfl⟩
  have HN := Lib.hid hnn
  obtain ⟨X, hX⟩ : ∃ X, X = w1.heap.size := ⟨_, rfl⟩
  rw [← hX] at X4
  rw [← hnn, ← hX]
  have hn61 : n ≤ 61 := by omega
  clear hb hC X3 E3 I3 P3 Z3 D3 B0 CV hnn hX hlp P4
  go_wp2_with fail
  go_loopw [11] (fun i wr => ∃ k : Nat, k ≤ n ∧ i = .int .i64 k ∧ Hid (Below v4.heap.size v4 wr)) (fun i _ => n - (intOf i).toNat)
  case atStart => exact ⟨0, Nat.zero_le _, rfl, Lib.hid (Below.refl _ _)⟩
  case round =>
    obtain ⟨k, hk, rfl, HB⟩ := hrel
    by_cases hlt : k < n
    · obtain ⟨e, he⟩ : ∃ e, ps[k]? = some e := ⟨_, List.getElem?_eq_getElem (by rw [← HN.out]; exact hlt)⟩
      obtain ⟨bk, o, rfl, g0, g1, g2⟩ := HC.out wr HB.out k e he
      have hm := HPM.out k e he
      have cm := fun w' hb => CM.out e.1 w' ((E4.out.below HB.out).below (w' := w') hb) ((I4.out.below HB.out).below hb)
      rw [hm] at cm
      have hcmp := fun w => neqPc_same e w
      obtain ⟨f, c, t⟩ := e
      dsimp only [pcV] at hcmp g0 g1 g2 cm
      have CM2 := Lib.hid cm
      have cX := (X4.out.below HB.out X4.out.lt).cell
      have kX := cell_regrown cX
      have kg0 := cell_regrown g0
      clear he HC HPM hm cm HN CDM CDI HC0
      go_wp2_with fail
      have D_wr : Hid (Below wr.heap.size wr wr.drew) := below_drew1 (Below.refl _ _)
      refine Mx.wp_region_mixed (Mx.ofL [(0, 1), (1, 0), (2, 0), (3, 0), (4, 0), (5, 0), (6, 1)] (.fork 7 3 (Mx.ofL [(8, 0), (9, 0), (10, 0), (11, 2), (12, 3), (13, 0)] .done) 11 2 (Mx.ofL [(7, 3), (8, 0), (9, 0), (10, 0), (12, 3), (13, 0)] .done))) (by kernel_rfl) (by kernel_rfl) ?_
      repeat ((first | refine Mx.mix0 rfl ?_ | refine Mx.mix1 rfl ?_); go_big_quiet_step (fail); refine wpQuiet_nil ?_)
      clear kX kg0
      refine Mx.mixF rfl rfl ?Fxa ?Fxd
      case' Fxa =>
        go_wp2_with fail
        refine (CM2.out wr.drew D_wr.out).mono ?_
        rintro e wa1 ⟨rfl, hb⟩
        have D_wa1 : Hid (Below wr.heap.size wr wa1) := D_wr.out.trans (hb.mono D_wr.out.size)
        have G_wa1 := Lib.hid (regrown_of_below D_wa1.out)
        clear hb
        go_wp2
        refine Mx.mid_normal (fun q => (by first | exact G_wa1.out | cases q | exact absurd q (by decide))) ?_
        repeat ((first | refine Mx.mix0 rfl ?_ | refine Mx.mix1 rfl ?_); go_big_quiet_step (fail); refine wpQuiet_nil ?_)
        refine Mx.mix2 rfl ?_
        go_wp2_with fail
        obtain ⟨wa2, hW⟩ : ∃ W, W = World.alloc wa1 (.cells #[.int .i64 0, .int .i64 0, .string ⟨#[]⟩] 37) := ⟨_, rfl⟩
        have hbA : Below wa1.heap.size wa1 wa2 := by rw [hW]; exact below_al _ _
        have D_wa2 : Hid (Below wr.heap.size wr wa2) := D_wa1.out.trans (hbA.mono D_wa1.out.size)
        have Q_wa2 : Hid (PcB wa2 wa1.heap.size pc0) := by rw [hW]; exact PcB.new wa1 pc0
        have L_wa2 : Hid (wr.heap.size ≤ wa1.heap.size) := D_wa1.out.size
        have G_wa2 := Lib.hid (regrown_of_below D_wa2.out)
        rw [← hW]
        refine Mx.mid_normal (fun q => (by first | exact G_wa2.out | cases q | exact absurd q (by decide))) ?_
        clear hW hbA
        repeat ((first | refine Mx.mix0 rfl ?_ | refine Mx.mix1 rfl ?_); go_big_quiet_step (fail); refine wpQuiet_nil ?_)
        refine Mx.mix3 rfl ?_
        go_wp2_with (with_reducible (show wpList _ _ _ (_ :: _) _ _); refine pc_store3 rfl _ _ rfl wa1.heap.size f c t pc0 rfl rfl Q_wa2.out ?_)
        obtain ⟨wz, hwz⟩ : ∃ W, W = World.setRow wa2 wa1.heap.size #[.int .i64 f, .int .i64 c, .string t] := ⟨_, rfl⟩
        have Q9 : Hid (PcB wz wa1.heap.size (f, c, t)) := by rw [hwz]; exact Q_wa2.out.row (f, c, t)
        have D9 : Hid (Below wr.heap.size wr wz) := by rw [hwz]; exact below_setRow D_wa2.out L_wa2.out _
        rw [← hwz]
        refine Mx.mid_normal (fun q => by cases q) ?_
        clear hwz
        repeat ((first | refine Mx.mix0 rfl ?_ | refine Mx.mix1 rfl ?_); go_big_quiet_step (fail); refine wpQuiet_nil ?_)
        refine Mx.mix_nil ?_
        obtain ⟨q0, q1, q2⟩ := Q9.out.cells
        have g0' := (D9.out.cell (p := ⟨bk, o + k * 3, none⟩) (cell_lt g0)).trans g0
        have g1' := (D9.out.cell (p := ⟨bk, o + k * 3 + 1, none⟩) (cell_lt g1)).trans g1
        have g2' := (D9.out.cell (p := ⟨bk, o + k * 3 + 2, none⟩) (cell_lt g2)).trans g2
        dsimp only at q0 q1 q2
        clear g0 g1 g2 cX
        go_wp2_with fail
        go_quiet (fail)
        go_wp2
        go_roundw
        case rel => exact ⟨k + 1, by omega, by go_num, Lib.hid (below_drewP (below_step HB.out D9.out) nq)⟩
        case measure => simp [intOf]; omega
      case' Fxd =>
        go_wp2_with fail
        obtain ⟨wa3, hW⟩ : ∃ W, W = (World.alloc wr (.cells #[.int .i64 0, .int .i64 0, .string ⟨#[]⟩] 37)).drew := ⟨_, rfl⟩
        have D_wa3 : Hid (Below wr.heap.size wr wa3) := by rw [hW]; exact below_drew1 (below_al _ _)
        have Q_wa3 : Hid (PcB wa3 wr.heap.size pc0) := by rw [hW]; exact PcB.new wr pc0
        have L_wa3 : Hid (wr.heap.size ≤ wr.heap.size) := Nat.le_refl _
        have G_wa3 := Lib.hid (regrown_of_below D_wa3.out)
        rw [← hW]
        refine Mx.mid_normal (fun q => (by first | exact G_wa3.out | cases q | exact absurd q (by decide))) ?_
        clear hW
        refine Mx.mix3 rfl ?_
        go_wp2_with fail
        refine (CM2.out wa3 D_wa3.out).mono ?_
        rintro e wa4 ⟨rfl, hb⟩
        have D_wa4 : Hid (Below wr.heap.size wr wa4) := D_wa3.out.trans (hb.mono D_wa3.out.size)
        have Q_wa4 := Lib.hid (Q_wa3.out.below hb Q_wa3.out.lt)
        have L_wa4 := L_wa3
        have G_wa4 := Lib.hid (regrown_of_below D_wa4.out)
        clear hb
        go_wp2
        refine Mx.mid_normal (fun q => (by first | exact G_wa4.out | cases q | exact absurd q (by decide))) ?_
        repeat ((first | refine Mx.mix0 rfl ?_ | refine Mx.mix1 rfl ?_); go_big_quiet_step (fail); refine wpQuiet_nil ?_)
        refine Mx.mix3 rfl ?_
        go_wp2_with (with_reducible (show wpList _ _ _ (_ :: _) _ _); refine pc_store3 rfl _ _ rfl wr.heap.size f c t pc0 rfl rfl Q_wa4.out ?_)
        obtain ⟨wz, hwz⟩ : ∃ W, W = World.setRow wa4 wr.heap.size #[.int .i64 f, .int .i64 c, .string t] := ⟨_, rfl⟩
        have Q9 : Hid (PcB wz wr.heap.size (f, c, t)) := by rw [hwz]; exact Q_wa4.out.row (f, c, t)
        have D9 : Hid (Below wr.heap.size wr wz) := by rw [hwz]; exact below_setRow D_wa4.out L_wa4.out _
        rw [← hwz]
        refine Mx.mid_normal (fun q => by cases q) ?_
        clear hwz
        repeat ((first | refine Mx.mix0 rfl ?_ | refine Mx.mix1 rfl ?_); go_big_quiet_step (fail); refine wpQuiet_nil ?_)
        refine Mx.mix_nil ?_
        obtain ⟨q0, q1, q2⟩ := Q9.out.cells
        have g0' := (D9.out.cell (p := ⟨bk, o + k * 3, none⟩) (cell_lt g0)).trans g0
        have g1' := (D9.out.cell (p := ⟨bk, o + k * 3 + 1, none⟩) (cell_lt g1)).trans g1
        have g2' := (D9.out.cell (p := ⟨bk, o + k * 3 + 2, none⟩) (cell_lt g2)).trans g2
        dsimp only at q0 q1 q2
        clear g0 g1 g2 cX
        go_wp2_with fail
        go_quiet (fail)
        go_wp2
        go_roundw
        case rel => exact ⟨k + 1, by omega, by go_num, Lib.hid (below_drewP (below_step HB.out D9.out) nq)⟩
        case measure => simp [intOf]; omega
    · obtain rfl : k = n := by omega
      have B5 := Lib.hid (below_step B4.out HB.out)
      clear E4 I4 X4 B4 HB HC HPM HN CM hlt hk
      go_wp2_with fail
      refine (CDM.out wr (HC0.out.below B5.out)).mono ?_
      rintro e x1 ⟨⟨v2, us, u2, zs, i, rfl, hr, hl, hx, hi, hzl⟩, hb⟩
      obtain ⟨va2, vc2, hvf⟩ := hr.form
      subst hvf
      obtain ⟨ua2, uc2, huf, _⟩ := id hi.at
      subst huf
      have hok : ∀ e ∈ us.map (·.2), entOk e := fun e he => by obtain ⟨p, hp, rfl⟩ := List.mem_map.1 he; have := hx p hp; exact ⟨by omega, by omega⟩
      have ci := fun w h hu => MatchAt_any (.slice va2 us.length vc2) (us.map (·.2)) (.slice ua2 zs.length uc2) zs i w h hu (by rw [List.length_map]; omega) hok (by omega)
      have cs := fun w h hu => specMatchAt_any (.slice va2 us.length vc2) (us.map (·.2)) (.slice ua2 zs.length uc2) zs i w h hu (by rw [List.length_map]; omega) hok (by omega)
      obtain ⟨P, b, hX⟩ : ∃ (P : Pc) (b : Bool), mtE (us.map (·.2)) zs i = .returned (.tuple #[pcV P, .bool b]) := ⟨_, _, rfl⟩
      rw [hX] at ci cs
      have hcmp := fun w => neqPc_same P w
      obtain ⟨f, c, t⟩ := P
      dsimp only [pcV] at ci cs hcmp
      unfold dV at ci cs
      have CI := Lib.hid ci
      have CS := Lib.hid cs
      obtain ⟨W, hW⟩ : ∃ W, W = x1.alloc (.cells #[.slice va2 us.length vc2] 26) := ⟨_, rfl⟩
      have hbA : Below x1.heap.size x1 W := by rw [hW]; exact below_al _ _
      have X0 : Hid (BoxV W x1.heap.size 26 (.slice va2 us.length vc2)) := by rw [hW]; exact BoxV.new _ _ _
      have E0 := Lib.hid (hr.at.at.below hbA)
      have I0 := Lib.hid (hi.at.below hbA)
      have B6 : Hid (Below w.heap.size w W) := below_step (below_step B5.out hb) hbA
      have HW := Lib.hid hW
      have cX := X0.out.cell
      rw [HW.out] at cX
      clear hb hbA hW hr hl hx hi hzl hok ci cs hX B5 CDM
      go_wp2_with fail
      rw [← HW.out]
      clear cX
      refine (CI.out W E0.out I0.out).mono ?_
      rintro e x2 ⟨rfl, hb⟩
      obtain ⟨W2, hW⟩ : ∃ W2, W2 = x2.alloc (.cells #[.int .i64 f, .int .i64 c, .string t] 37) := ⟨_, rfl⟩
      have hbA : Below W.heap.size W W2 := by rw [hW]; exact below_step hb (below_al _ _)
      have Q2 : Hid (PcB W2 x2.heap.size (f, c, t)) := by rw [hW]; exact PcB.new x2 (f, c, t)
      have X2 := Lib.hid (X0.out.below hbA X0.out.lt)
      have E2 := Lib.hid (E0.out.below hbA)
      have I2 := Lib.hid (I0.out.below hbA)
      have B7 := Lib.hid (below_step B6.out hbA)
      have HW2 := Lib.hid hW
      have cX := X2.out.cell
      rw [HW2.out] at cX
      clear hb hbA hW X0 E0 I0 B6 HW CI
      go_wp2_with fail
      rw [← HW2.out]
      clear cX
      refine (CS.out W2 E2.out I2.out).mono ?_
      rintro e x3 ⟨rfl, hb⟩
      obtain ⟨W3, hW⟩ : ∃ W3, W3 = x3.alloc (.cells #[.int .i64 f, .int .i64 c, .string t] 37) := ⟨_, rfl⟩
      have hbA : Below W2.heap.size W2 W3 := by rw [hW]; exact below_step hb (below_al _ _)
      have Q3 : Hid (PcB W3 x3.heap.size (f, c, t)) := by rw [hW]; exact PcB.new x3 (f, c, t)
      have Q2' := Lib.hid (Q2.out.below hbA Q2.out.lt)
      have B8 := Lib.hid (below_step B7.out hbA)
      obtain ⟨q0, q1, q2⟩ := Q2'.out.cells
      obtain ⟨r0, r1, r2⟩ := Q3.out.cells
      dsimp only at q0 q1 q2 r0 r1 r2
      have HW3 := Lib.hid hW
      rw [hW] at q0 q1 q2 r0 r1 r2
      have hbb : (b != b) = false := by simp
      clear hb hbA hW Q2 X2 E2 I2 B7 HW2 CS
      go_wp2_with fail
      rw [← HW3.out]
      clear q0 q1 q2 r0 r1 r2 hcmp hbb
      refine (CDI.out W3 (HC0.out.below B8.out)).mono ?_
      rintro e y1 ⟨⟨v3, us3, u3, xs3, y, ls, rfl, hr, hl, hx, hi, hzl, hy, hyl⟩, hb⟩
      obtain ⟨va3, vc3, hvf⟩ := hr.form
      subst hvf
      obtain ⟨ua3, uc3, huf, _⟩ := id hi.at
      subst huf
      obtain ⟨ya3, yc3, hyf, _, _⟩ := pc_cells hy
      subst hyf
      have hok : ∀ e ∈ us3.map (·.2), entOk e := fun e he => by obtain ⟨p, hp, rfl⟩ := List.mem_map.1 he; have := hx p hp; exact ⟨by omega, by omega⟩
      have ci := fun w h hu hl => IsSegmentation_any (.slice va3 us3.length vc3) (us3.map (·.2)) (.slice ua3 xs3.length uc3) xs3 (.slice ya3 ls.length yc3) ls w h hu hl (by rw [List.length_map]; omega) hok (by omega) (by omega)
      have cs := fun w h hu hl => specIsSegmentation_any (.slice va3 us3.length vc3) (us3.map (·.2)) (.slice ua3 xs3.length uc3) xs3 (.slice ya3 ls.length yc3) ls w h hu hl (by rw [List.length_map]; omega) hok (by omega) (by omega)
      obtain ⟨bI, hbI⟩ : ∃ bI, bI = isB (us3.map (·.2)) xs3 ls := ⟨_, rfl⟩
      obtain ⟨bS, hbS⟩ : ∃ bS, bS = sgB (us3.map (·.2)) xs3 := ⟨_, rfl⟩
      rw [← hbI, ← hbS] at ci cs
      unfold dV at ci cs
      have CI := Lib.hid ci
      have CS := Lib.hid cs
      obtain ⟨W4, hW⟩ : ∃ W4, W4 = y1.alloc (.cells #[.slice va3 us3.length vc3] 26) := ⟨_, rfl⟩
      have hbA : Below y1.heap.size y1 W4 := by rw [hW]; exact below_al _ _
      have X0 : Hid (BoxV W4 y1.heap.size 26 (.slice va3 us3.length vc3)) := by rw [hW]; exact BoxV.new _ _ _
      have E0 := Lib.hid (hr.at.at.below hbA)
      have I0 := Lib.hid (hi.at.below hbA)
      have P0 := Lib.hid (hy.below hbA)
      have B9 : Hid (Below w.heap.size w W4) := below_step (below_step B8.out hb) hbA
      have HW := Lib.hid hW
      have cX := X0.out.cell
      rw [HW.out] at cX
      clear hb hbA hW hr hl hx hi hzl hy hyl hok ci cs hbI hbS B8 CDI HC0 HW3 Q2' Q3
      go_wp2_with fail
      rw [← HW.out]
      clear cX
      refine (CI.out W4 E0.out I0.out P0.out).mono ?_
      rintro e y2 ⟨rfl, hb⟩
      have cX := (X0.out.below hb X0.out.lt).cell
      have E2 := Lib.hid (E0.out.below hb)
      have I2 := Lib.hid (I0.out.below hb)
      have P2 := Lib.hid (P0.out.below hb)
      have BA := Lib.hid (below_step B9.out hb)
      clear hb X0 E0 I0 P0 B9 HW CI
      go_wp2_with fail
      refine (CS.out y2 E2.out I2.out P2.out).mono ?_
      rintro e y3 ⟨rfl, hb⟩
      have BZ := Lib.hid (below_step BA.out hb)
      clear hb cX E2 I2 P2 BA CS
      have hb1 : (bI == bI) = true := by simp
      have hb2 : (bS == bS) = true := by simp
      go_wp2
      go_ret
      exact ⟨rfl, BZ.out⟩

/-! ### THE ROW's STEP -/
set_option maxRecDepth 100000 in
theorem contract (H : Type) (enc : TypeId × Value → H) (W : World) (base : Nat) (args : Array Value) (ds gs : List (DataW H)) (before : List MemPlace)
    (hval : ∀ (j : Nat) t v, Tryz.f3.params[j]? = some t → args[j]? = some v → Value.okWide Tryz.prog W .any base t v)
    (hW : DataW.Whole enc Tryz.prog Tryz.f3.params.toList Rows.fnSegmentSpec.vars false W args.toList ds gs before) (hL : laidMetH Tryz.prog Rows.fnSegmentRow.laid W) (hS : W.ShapedOpen Tryz.prog) :
    Calls Tryz.prog 3 args W fun e W' => ∃ v, e = .returned v ∧ Rows.fnSegmentSpec.post enc Tryz.prog Tryz.f3 false true false false W args v W' := by
  have hW' := hW
  obtain ⟨p, q, hA0, hV, rfl, hfz, hnd⟩ := hW
  have hA : DataW.TrodAll enc Tryz.prog W 0 (fun _ => true) true Tryz.f3.params.toList args.toList ds p := hA0
  rw [Tryz.params3] at hA hval
  obtain ⟨v0, vs0, d0, ds0, p0, q0, hargs, rfl, rfl, h0, r0⟩ := trodAll_cons hA
  obtain ⟨rfl, rfl, rfl⟩ := trodAll_nil r0
  obtain rfl : args = #[v0] := by cases args; simp_all
  obtain ⟨rfl, rfl⟩ := trodVars_none hV
  have k0 := h0
  have lt0 : ∀ x ∈ p0, x.block < W.heap.size := by obtain ⟨m, hm⟩ := k0; exact DataW.trod_lt m _ _ _ hm
  obtain ⟨a0, n0, c0, rfl⟩ := okWide_slice Tryz.underlying22 (hval 0 22 v0 rfl rfl)
  obtain ⟨z0, w0⟩ : ∃ zs, IsRow .u8 W a0 n0 c0 zs := by
    obtain ⟨fuel, hf⟩ := h0
    rcases open_ints Tryz.underlying22 Tryz.underlying5 (by kernel_rfl) hf with ⟨hcs, _⟩ | ⟨x, l, c, zs, hcs, _, hl, hm, hz, _, hcell, hwz⟩
    · simp [Value.cells] at hcs
      obtain ⟨rfl, rfl, rfl⟩ := hcs
      exact ⟨[], .inl ⟨rfl, rfl, rfl, rfl⟩⟩
    · simp [Value.cells] at hcs
      obtain ⟨rfl, rfl, rfl⟩ := hcs
      exact ⟨zs, .inr ⟨_, rfl, hl, hm, by simpa using hz, hcell, hwz⟩⟩
  clear hA0 hval
  refine (walk a0 n0 c0 z0 W hS  w0).mono fun e W' ⟨he, bel⟩ => ?_
  subst he
  exact ⟨_, rfl, _, _, _, [], _, [], hW', trodAll_mk1 (shut_bool Tryz.underlying4 _), (trodAll_cons_mk (Below.trod laidOut (by kernel_rfl) (of_decide_eq_true (by kernel_rfl)) k0 bel lt0) trodAll_mk0), rfl, bel.frame _, fun h => by cases h⟩

theorem reads (os : Os) {H : Type} (enc : TypeId × Value → H) : ∃ places, DataW.whole enc Tryz.prog ((World.holding Tryz.prog os ⟨#[], #[], []⟩).forCall (fun _ _ => 0) ⟨#[], #[.slice none 0 0], []⟩).memory Tryz.f3.params.toList Rows.fnSegmentSpec.vars false (#[.slice none 0 0] : Array Value).toList 8 = some ([.nil], [], places) :=
  ⟨[], by kernel_rfl⟩

set_option maxRecDepth 100000 in
theorem lifted (os : Os) (started : os.Started) (H : Type) (enc : TypeId × Value → H) (F : Stop.Interp) :
    ReturnsInHanded {} Tryz.checked os 3 .any ((OpenSpec.ofChange Rows.fnSegmentSpec).preRow enc Tryz.prog Tryz.f3 Rows.fnSegmentRow.domain false Rows.fnSegmentRow.laid) (((OpenSpec.ofChange Rows.fnSegmentSpec).at F).post enc Tryz.prog Tryz.f3 false true false false) := by
  obtain ⟨places, hx⟩ := reads os enc
  refine returnsInHanded_of_row (C := Tryz.checked) (s := OpenSpec.ofChange Rows.fnSegmentSpec) own started (by kernel_rfl) Tryz.func3
    (witness_row_atRef (enc := enc) (C := Tryz.checked) false (World.holding Tryz.prog os ⟨#[], #[], []⟩) #[.slice none 0 0] rfl (by kernel_rfl) (by kernel_rfl) (by kernel_rfl)
      (OpenSpec.preRow_of_cond 8 hx (by kernel_rfl) (fun k hk => by cases hk) (by kernel_rfl) ⟨[], rfl, List.nodup_nil, fun b off h => by cases h⟩)) ?_
  intro W base args ds gs before hval hW _ _ _ hL hS _
  exact contract H enc W base args ds gs before hval hW hL hS

theorem said : Rows.FnSegmentSaid :=
  OpenClaim.holds_of_cond 3 Tryz.f3 rfl rfl rfl rfl rfl rfl rfl ⟨rfl, rfl, rfl, rfl, rfl⟩ rfl rfl rfl rfl rfl (by kernel_rfl) Tryz.func3 (by kernel_rfl)
    (of_decide_eq_true (by kernel_rfl)) (by unfold Func.isWrapper; first | (rw [if_pos (by decide +kernel)]; kernel_rfl) | (rw [if_neg (by decide +kernel)]; exact ⟨rfl, rfl⟩))
    (fun os started H enc _ F => by rw [OpenClaim.pre_eq_preRow]; exact lifted os started H enc F)

theorem proved : Rows.FnSegmentSaid := said
#print axioms proved
end Go.Proofs.YtnpiphkglhcifaaGreat.fnSegment
