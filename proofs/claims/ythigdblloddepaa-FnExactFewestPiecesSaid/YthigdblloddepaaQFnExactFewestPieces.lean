/-
  laws.FnExactFewestPieces returns true whatever the dictionary and the strokes: impl.FewestPieces answers as the specification, leaves its arguments, and its answer owns its memory. Conditions: none but the row's own.
-/
import Derived.Test.YthigdblloddepaaPlainSeB
import Derived.Test.YthigdblloddepaaSgD
import Derived.Test.YthigdblloddepaaImD
import Derived.Test.YthigdblloddepaaShelf
import Derived.Lib.AppendZeros
import Derived.Test.YthigdblloddepaaRows
import Derived.WalkKit
import Derived.ProofKit
import Derived.OpenShut
import Derived.ShutString
import Derived.ChangeOld
import Derived.Below
import Derived.SliceStrings
import Derived.JoinedCond
import Derived.Deep.DeepHandedRow
import Derived.Deep.DeepWitnessRowRef
import Derived.Lib.Hide
import Derived.Test.YthigdblloddepaaPD
namespace Go.Proofs.Ythigdblloddepaa.Pl
set_option maxRecDepth 100000
open Go

theorem costL_cons (p : Pc) (l : List Pc) : costL (p :: l) = costL l + 1 + if p.2.2.size = 0 then 100 else 0 := by
  unfold costL
  rw [untr_cons, List.length_cons]
  split <;> omega
theorem costL_un (i : Nat) (l : List Pc) : costL (unP i :: l) = 101 + costL l := by
  rw [costL_cons, if_pos (by rfl)]; omega
theorem size_zero {t : ByteArray} (h : t.size = 0) : t.data.toList = [] := List.length_eq_zero_iff.1 h
theorem lkP_ne {es : List En} (hes : ∀ e ∈ es, e.1.length ≤ 6 ∧ e.2.data.toList ≠ []) {xs : List Int} {i n : Nat} {t : ByteArray} (h : lkP es xs i n = some t) : t.size ≠ 0 := by
  unfold lkP look at h
  obtain ⟨e, he, rfl⟩ := Option.map_eq_some_iff.1 h
  exact fun h0 => (hes e (List.mem_of_find?_eq_some he)).2 (size_zero h0)
theorem costL_some {es : List En} (hes : ∀ e ∈ es, e.1.length ≤ 6 ∧ e.2.data.toList ≠ []) {xs : List Int} {i n : Nat} {t : ByteArray} (h : lkP es xs i n = some t) (a b : Int) (l : List Pc) : costL ((a, b, t) :: l) = 1 + costL l := by
  rw [costL_cons, if_neg (lkP_ne hes h)]; omega
theorem costL_le (l : List Pc) : costL l ≤ 101 * l.length := by
  unfold costL; have := untr_le l; omega
/-- How many strokes the best one's first piece covers; 0: it is untranslated. -/
def tkN (es : List En) (xs : List Int) (i : Nat) (T : Nat → List Pc) : Nat → Nat
  | 0 => 0
  | n + 1 => match lkP es xs i (n + 1) with
    | some t => if costL (((i : Int), ((n + 1 : Nat) : Int), t) :: T (n + 1)) ≤ costL (bestN es xs i T n) then n + 1 else tkN es xs i T n
    | none => tkN es xs i T n
theorem bestN_succ (es : List En) (xs : List Int) (i : Nat) (T : Nat → List Pc) (n : Nat) : bestN es xs i T (n + 1) = match lkP es xs i (n + 1) with
    | some t => if costL (((i : Int), ((n + 1 : Nat) : Int), t) :: T (n + 1)) ≤ costL (bestN es xs i T n) then ((i : Int), ((n + 1 : Nat) : Int), t) :: T (n + 1) else bestN es xs i T n
    | none => bestN es xs i T n := rfl
theorem tkN_succ (es : List En) (xs : List Int) (i : Nat) (T : Nat → List Pc) (n : Nat) : tkN es xs i T (n + 1) = match lkP es xs i (n + 1) with
    | some t => if costL (((i : Int), ((n + 1 : Nat) : Int), t) :: T (n + 1)) ≤ costL (bestN es xs i T n) then n + 1 else tkN es xs i T n
    | none => tkN es xs i T n := rfl
theorem tkN_form (es : List En) (xs : List Int) (i : Nat) (T : Nat → List Pc) : ∀ n, (tkN es xs i T n = 0 ∧ bestN es xs i T n = unP i :: T 1) ∨ (1 ≤ tkN es xs i T n ∧ tkN es xs i T n ≤ n ∧ ∃ t, lkP es xs i (tkN es xs i T n) = some t ∧ bestN es xs i T n = ((i : Int), (tkN es xs i T n : Int), t) :: T (tkN es xs i T n))
  | 0 => .inl ⟨rfl, rfl⟩
  | n + 1 => by
    have ih := tkN_form es xs i T n
    rw [tkN_succ, bestN_succ]
    cases hl : lkP es xs i (n + 1) with
    | some t =>
      dsimp only
      by_cases hc : costL (((i : Int), ((n + 1 : Nat) : Int), t) :: T (n + 1)) ≤ costL (bestN es xs i T n)
      · rw [if_pos hc, if_pos hc]
        exact .inr ⟨by omega, Nat.le_refl _, t, hl, rfl⟩
      · rw [if_neg hc, if_neg hc]
        rcases ih with ih | ⟨h1, h2, h3⟩
        · exact .inl ih
        · exact .inr ⟨h1, by omega, h3⟩
    | none =>
      dsimp only
      rcases ih with ih | ⟨h1, h2, h3⟩
      · exact .inl ih
      · exact .inr ⟨h1, by omega, h3⟩
def cC (es : List En) (xs : List Int) (j : Nat) : Nat := costL (opt es xs j)
def cN (es : List En) (xs : List Int) (i n : Nat) : Nat := costL (bestN es xs i (fun c => opt es xs (i + c)) n)
def tN (es : List En) (xs : List Int) (i n : Nat) : Nat := tkN es xs i (fun c => opt es xs (i + c)) n
def tk (es : List En) (xs : List Int) (i : Nat) : Nat := tN es xs i (capN xs i)
theorem cC_le (es : List En) (xs : List Int) (j : Nat) (h : xs.length ≤ 60) : cC es xs j ≤ 6060 := by
  unfold cC; have := costL_le (opt es xs j); have := opt_len es xs j; omega
theorem cC_end (es : List En) (xs : List Int) : cC es xs xs.length = 0 := by unfold cC; rw [opt_end]; rfl
theorem cN_zero (es : List En) (xs : List Int) (i : Nat) : cN es xs i 0 = 101 + cC es xs (i + 1) := costL_un i _
theorem tN_zero (es : List En) (xs : List Int) (i : Nat) : tN es xs i 0 = 0 := rfl
theorem cN_none {es : List En} {xs : List Int} {i n : Nat} (h : lkP es xs i (n + 1) = none) : cN es xs i (n + 1) = cN es xs i n ∧ tN es xs i (n + 1) = tN es xs i n := by
  constructor
  · unfold cN; rw [bestN_succ, h]
  · unfold tN; rw [tkN_succ, h]
theorem cN_some {es : List En} (hes : ∀ e ∈ es, e.1.length ≤ 6 ∧ e.2.data.toList ≠ []) {xs : List Int} {i n : Nat} {t : ByteArray} (h : lkP es xs i (n + 1) = some t) :
    cN es xs i (n + 1) = (if 1 + cC es xs (i + (n + 1)) ≤ cN es xs i n then 1 + cC es xs (i + (n + 1)) else cN es xs i n) ∧ tN es xs i (n + 1) = (if 1 + cC es xs (i + (n + 1)) ≤ cN es xs i n then n + 1 else tN es xs i n) := by
  have hc := costL_some hes h (i : Int) ((n + 1 : Nat) : Int) (opt es xs (i + (n + 1)))
  constructor
  · unfold cN cC; rw [bestN_succ, h]
    dsimp only
    rw [hc]
    split
    · rw [hc]
    · rfl
  · unfold tN cN cC; rw [tkN_succ, h]
    dsimp only
    rw [hc]
theorem cN_cap {es : List En} {xs : List Int} {i : Nat} (h : i < xs.length) : cN es xs i (capN xs i) = cC es xs i := by
  unfold cN cC; rw [opt_next h]
theorem tN_le (es : List En) (xs : List Int) (i n : Nat) : tN es xs i n ≤ n := by
  rcases tkN_form es xs i (fun c => opt es xs (i + c)) n with ⟨h, _⟩ | ⟨_, h, _⟩
  · unfold tN; omega
  · exact h
/-- What the best one begins with. -/
theorem opt_tk {es : List En} {xs : List Int} {i : Nat} (h : i < xs.length) : (tk es xs i = 0 ∧ opt es xs i = unP i :: opt es xs (i + 1)) ∨ (1 ≤ tk es xs i ∧ i + tk es xs i ≤ xs.length ∧ tk es xs i ≤ 6 ∧ ∃ t, lkP es xs i (tk es xs i) = some t ∧ opt es xs i = ((i : Int), (tk es xs i : Int), t) :: opt es xs (i + tk es xs i)) := by
  rcases tkN_form es xs i (fun c => opt es xs (i + c)) (capN xs i) with ⟨h1, h2⟩ | ⟨h1, h2, t, h3, h4⟩
  · exact .inl ⟨h1, by rw [opt_next h, h2]⟩
  · refine .inr ⟨h1, ?_, ?_, t, h3, ?_⟩
    · unfold tk tN; unfold capN at h2 ⊢; omega
    · unfold tk tN; unfold capN at h2 ⊢; omega
    · conv => lhs; rw [opt_next h, h4]
      rfl
end Go.Proofs.Ythigdblloddepaa.Pl

namespace Go.Proofs.Ythigdblloddepaa
set_option maxRecDepth 100000
open Go.RowKit

/-- Block g holds N ints, none frozen. -/
def RwI (w : World) (g N : Nat) (f : Nat → Int) : Prop := g < w.heap.size ∧ (∀ j, j < N → w.cell? ⟨g, j, none⟩ = some (.int .i64 (f j))) ∧ ∀ j, w.frozen? ⟨g, j, none⟩ = false
theorem RwI.below {w w' : World} {g N : Nat} {f : Nat → Int} {B : Nat} (h : RwI w g N f) (hb : Below B w w') (hg : g < B) : RwI w' g N f :=
  ⟨Nat.lt_of_lt_of_le h.1 hb.size, fun j hj => (hb.cell (p := ⟨g, j, none⟩) hg).trans (h.2.1 j hj), fun j => (hb.frozen (p := ⟨g, j, none⟩) hg).trans (h.2.2 j)⟩
theorem RwI.set {w : World} {g N : Nat} {f : Nat → Int} (h : RwI w g N f) (k : Nat) (hk : k < N) (x : Int) : RwI (w.setCell ⟨g, k, none⟩ (.int .i64 x)) g N (fun j => if j = k then x else f j) := by
  refine ⟨by rw [World.size_setCell]; exact h.1, fun j hj => ?_, fun j => by rw [World.frozen?_setCell]; exact h.2.2 j⟩
  by_cases hjk : j = k
  · subst hjk; simp only [if_true]; exact World.cell?_setCell_same _ _ _ (h.2.1 j hj)
  · dsimp only
    rw [World.cell?_setCell_other _ _ _ _ (by intro e; injection e; omega), if_neg hjk]; exact h.2.1 j hj
theorem RwI.other {w : World} {g N : Nat} {f : Nat → Int} (h : RwI w g N f) {g' : Nat} (hne : g' ≠ g) (k : Nat) (v : Value) : RwI (w.setCell ⟨g', k, none⟩ v) g N f :=
  ⟨by rw [World.size_setCell]; exact h.1, fun j hj => by rw [World.cell?_setCell_other _ _ _ _ (by intro e; injection e; omega)]; exact h.2.1 j hj, fun j => by rw [World.frozen?_setCell]; exact h.2.2 j⟩
theorem RwI.grown {w w' : World} {g N : Nat} {f : Nat → Int} {row : Option Nat} (h : RwI w g N f) (hg : w.grownBy w' row) (hne : some g ≠ row) : RwI w' g N f :=
  ⟨Nat.lt_of_lt_of_le h.1 hg.size, fun j hj => (World.cell?_of_block (hg.block g h.1 hne)).trans (h.2.1 j hj), fun j => (World.frozen?_of_block (hg.block g h.1 hne)).trans (h.2.2 j)⟩
theorem mk_is (n : Nat) (hn : n ≤ 1000) (w : World) :
    (Instr.makeSlice 25 (.int .i64 ((n : Int) + 1)) (.int .i64 ((n : Int) + 1))).run Try.prog w = .ok (.slice (some ⟨w.heap.size, 0, none⟩) (n + 1) (n + 1)) (w.alloc (.cells (madeCells #[.int .i64 0] (n + 1)) 3)) := by
  obtain ⟨i, hi, hzz⟩ := Option.map_eq_some_iff.1 infoInt
  simp only [Prod.mk.injEq] at hzz
  obtain ⟨hz, hs, hb⟩ := hzz
  have hr := run_make (P := Try.prog) w 25 3 i _ Try.underlying25 hi hz .i64 .i64 ((n : Int) + 1) ((n : Int) + 1) (by omega) (Int.le_refl _) (by rw [hb]; omega) (by omega)
  rw [show ((n : Int) + 1).toNat = n + 1 by omega, hs, Nat.mul_one] at hr
  exact hr
theorem made_is (w : World) (N : Nat) : RwI (w.alloc (.cells (madeCells #[.int .i64 0] N) 3)) w.heap.size N (fun _ => 0) := by
  refine ⟨by rw [World.size_alloc]; omega, fun j hj => ?_, fun j => World.frozen?_alloc_at _ _ _ _ rfl⟩
  rw [World.cell?_alloc_at _ _ _ _ rfl]
  simp [madeCells, hj, Nat.mod_one]
theorem push_pcM {ops : Array Oper} {rest : List Oper} {o : Oper} {a : Act} {w : World} {Q : Exit → Act → World → Prop}
    (hgd : o.guard = none) (p q : Operand) (ho : o.op = .call { callee := .builtin .append, args := #[p, q], argTypes := #[40, 40] }) (base : Nat) (v : Value) (ls : List Pc) (hs : a.eval p = v) (hown : OwnP w base v ls)
    (e : Pc) (N : Nat) (hN : w.heap.size = N) (hq : a.eval q = .slice (some ⟨N, 0, none⟩) 1 1) (hb : base ≤ N) (h1 : ls.length ≤ 4194304)
    (h : ∀ v' w', OwnP w' base v' (ls ++ [e]) → w.grownBy w' v.ownBlock → (v'.ownBlock = v.ownBlock ∨ v'.ownBlock = some (N + 1)) → wpList Try.prog ops Q rest (a.put o.dst v') w') : wpList Try.prog ops Q (o :: rest) a (w.alloc (.cells #[.int .i64 e.1, .int .i64 e.2.1, .string e.2.2] 28)) := by
  subst hN
  exact push_pc hgd p q ho base v ls hs hown e hq hb h1 h
theorem PcB.set1 {w : World} {g : Nat} {f c : Int} {t : ByteArray} (h : PcB w g (f, c, t)) (x : Int) : PcB (w.setCell ⟨g, 1, none⟩ (.int .i64 x)) g (f, x, t) := Go.heap_setCell_same w g 1 _ 28 (.int .i64 x) h
theorem PcB.set2 {w : World} {g : Nat} {f c : Int} {t : ByteArray} (h : PcB w g (f, c, t)) (x : ByteArray) : PcB (w.setCell ⟨g, 2, none⟩ (.string x)) g (f, c, x) := Go.heap_setCell_same w g 2 _ 28 (.string x) h
theorem PcB.frozen {w : World} {g : Nat} {e : Pc} (h : PcB w g e) (j : Nat) : w.frozen? ⟨g, j, none⟩ = false := by unfold World.frozen?; simp only [show w.heap[g]? = _ from h]; rfl
theorem grown_set (w : World) (g o : Nat) (v : Value) : w.grownBy (w.setCell ⟨g, o, none⟩ v) (some g) := ⟨rfl, rfl, rfl, by rw [World.size_setCell]; exact Nat.le_refl _, fun k _ hk => Below.heap_setCell _ _ _ _ (fun e => hk (by rw [e]))⟩
theorem own_ne {v : Value} {g : Nat} (h : ∀ j, v.ownBlock = some j → j ≠ g) : v.ownBlock = none ∨ v.ownBlock ≠ some g := by
  cases hv : v.ownBlock with
  | none => exact .inl rfl
  | some j => exact .inr (fun e => h j hv (by injection e))
theorem ownP_lt' {w : World} {base : Nat} {v : Value} {ls : List Pc} (h : OwnP w base v ls) {j : Nat} (hj : v.ownBlock = some j) : j < w.heap.size := by
  rcases h.2 with ⟨rfl, _⟩ | ⟨g, cap, cur, rfl, _, hg, _⟩
  · simp [Value.ownBlock] at hj
  · have : g = j := by simpa [Value.ownBlock] using hj
    rw [← this]; exact (Array.getElem?_eq_some_iff.1 hg).1
/-- The best segmentation; none where the arguments are not valid. -/
def fwL (es : List Ent) (xs : List Int) : List Pc := if sgB es xs = true then Pl.opt es xs 0 else []
set_option maxHeartbeats 8000000 in
theorem specFewestPieces_any (v : Value) (es : List Ent) (u : Value) (xs : List Int) (w : World) (h : EntsAt w v es) (hu : IntsAt w u xs) (hn : es.length ≤ 2097152) (hx : ∀ e ∈ es, entOk e) (hxn : xs.length ≤ 2097152) :
    Calls Try.prog 29 #[dV v, u] w fun r w' => (∃ y, r = .returned (.tuple #[y, .bool (sgB es xs)]) ∧ OwnP w' w.heap.size y (fwL es xs)) ∧ Below w.heap.size w w' := by
  have cg := fun w' hb => l6Good_any v es w' (h.below (w' := w') hb) hn hx
  have cs := fun w' hb => l11Strokes_any u xs w' (hu.below (w' := w') hb) hxn
  have CF := Lib.hid (fun ys u' w' hb (hu' : IntsAt w' u' ys) (hy : ys.length ≤ 2097152) => l6Find_any v es u' ys w' (h.below (w' := w') hb) hu' hn hx hy)
  have HB : Hid (sgB es xs = (okD es && okS60 xs)) := rfl
  have HL : Hid (fwL es xs = if sgB es xs = true then Pl.opt es xs 0 else []) := rfl
  have HUat := Lib.hid hu
  obtain ⟨a, cap, rfl, hcap, _⟩ := h.cells
  obtain ⟨ua, uc, rfl, huc, _⟩ := hu.cells
  obtain ⟨n, hnn⟩ : ∃ n, n = xs.length := ⟨_, rfl⟩
  obtain ⟨dn, hdn⟩ : ∃ n, n = es.length := ⟨_, rfl⟩
  have HS : Hid (∀ i q, i + q ≤ n → 1 ≤ q → ∃ bk o, ua = some ⟨bk, o, none⟩ ∧ ∀ w', Below w.heap.size w w' → IntsAt w' (.slice (some ⟨bk, o + i, none⟩) q (uc - i)) ((xs.drop i).take q)) := by
    intro i q hq h1
    obtain ⟨bk, o, c', hv, _, hbk, hC⟩ := ints_block HUat.out (by omega)
    injection hv with hv1 hv2 hv3
    refine ⟨bk, o, hv1, fun w' hb => ?_⟩
    have hl' : ((xs.drop i).take q).length = q := by rw [List.length_take, List.length_drop]; omega
    refine ⟨_, uc - i, by rw [hl'], by rw [hl']; omega, .inr ⟨bk, o + i, rfl, Nat.lt_of_lt_of_le hbk hb.size, fun j x hx => ?_⟩⟩
    have hj : j < q := by
      rcases Nat.lt_or_ge j q with h' | h'
      · exact h'
      · rw [List.getElem?_eq_none (by rw [hl']; exact h')] at hx; cases hx
    rw [List.getElem?_take_of_lt hj, List.getElem?_drop] at hx
    rw [Nat.add_assoc]
    exact (hb.cell (p := ⟨bk, o + (i + j), none⟩) hbk).trans (hC _ _ hx)
  have HSl : Hid (∀ i q, ((xs.drop i).take q).length ≤ 2097152) := fun i q => by rw [List.length_take, List.length_drop]; omega
  have HX60 := Lib.hid (fun h : okS60 xs = true => (okS60_yes h).1)
  rw [← hnn] at cs huc HX60 hxn ⊢
  unfold dV at cg CF ⊢
  rw [← hdn] at cg CF hcap ⊢
  have HB0 := Lib.hid (below_al2 w (.cells #[.slice a dn cap] 33) (.cells #[] 28))
  have HO0 : Hid (OwnP ((w.alloc (.cells #[.slice a dn cap] 33)).alloc (.cells #[] 28)) (w.heap.size + 1) (.slice (some ⟨w.heap.size + 1, 0, none⟩) 0 0) []) := by
    have := ownP_new (w.alloc (.cells #[.slice a dn cap] 33))
    rwa [World.size_alloc] at this
  have HA0 : Hid (BoxV ((w.alloc (.cells #[.slice a dn cap] 33)).alloc (.cells #[] 28)) w.heap.size 33 (.slice a dn cap)) := (BoxV.new w _ _).below (below_al _ _) (by simp)
  have HDf := Lib.hid (fun h : okD es = true => okD_fine h)
  have HOEnd : Hid (Pl.opt es xs n = []) := by show _ = _; rw [hnn]; exact Pl.opt_end es xs
  have HCE : Hid (Pl.cC es xs n = 0) := by show _ = _; rw [hnn]; exact Pl.cC_end es xs
  have HCcap : Hid (∀ i, i < n → Pl.cN es xs i (Pl.capN xs i) = Pl.cC es xs i) := by rw [hnn]; exact fun i hi => Pl.cN_cap hi
  have HCap : Hid (∀ i, Pl.capN xs i = min 6 (n - i)) := by rw [hnn]; exact fun i => rfl
  have HTk : Hid (∀ i, i < n → (Pl.tk es xs i = 0 ∧ Pl.opt es xs i = Pl.unP i :: Pl.opt es xs (i + 1)) ∨ (1 ≤ Pl.tk es xs i ∧ i + Pl.tk es xs i ≤ n ∧ Pl.tk es xs i ≤ 6 ∧ ∃ t, Pl.lkP es xs i (Pl.tk es xs i) = some t ∧ Pl.opt es xs i = ((i : Int), (Pl.tk es xs i : Int), t) :: Pl.opt es xs (i + Pl.tk es xs i))) := by rw [hnn]; exact fun i hi => Pl.opt_tk hi
  have HCle := Lib.hid (fun j (h60 : xs.length ≤ 60) => Pl.cC_le es xs j h60)
  rw [← hnn] at HCle
  clear h hu hnn hdn HUat
  obtain ⟨bD, hbD⟩ : ∃ b, b = okD es := ⟨_, rfl⟩
  obtain ⟨bS, hbS⟩ : ∃ b, b = okS60 xs := ⟨_, rfl⟩
  obtain ⟨B, hB⟩ : ∃ b, b = sgB es xs := ⟨_, rfl⟩
  obtain ⟨L, hL⟩ : ∃ b, b = fwL es xs := ⟨_, rfl⟩
  rw [← hB] at HB HL ⊢
  rw [← hL] at HL ⊢
  rw [← hbD, ← hbS] at HB
  rw [← hbD] at cg HDf
  rw [← hbS] at cs HX60
  have CG := Lib.hid cg
  have CS := Lib.hid cs
  clear cg cs hbD hbS hx hn hB hL
  go_enter Try.func29, Try.ntmps29
  cases bD
  · obtain rfl : B = false := HB.out
    obtain rfl : L = [] := HL.out
    clear CF CS HL HS HSl HX60 HDf HOEnd HCE HCcap HCap HTk HCle
    go_wp2_with fail
    refine (CG.out _ HB0.out).mono ?_
    rintro r w1 ⟨rfl, hb⟩
    have B1 := Lib.hid (below_step HB0.out hb)
    have O1 := Lib.hid (ownsRow_mono (HO0.out.below' hb) (Nat.le_succ _))
    clear hb CG HO0 HA0
    go_wp2
    go_ret2
    exact ⟨⟨_, rfl, O1.out⟩, B1.out⟩
  · cases bS
    · obtain rfl : B = false := HB.out
      obtain rfl : L = [] := HL.out
      clear CF HL HS HSl HX60 HDf HOEnd HCE HCcap HCap HTk HCle
      go_wp2_with fail
      refine (CG.out _ HB0.out).mono ?_
      rintro r w1 ⟨rfl, hb⟩
      have B1 := Lib.hid (below_step HB0.out hb)
      have O1 := Lib.hid (ownsRow_mono (HO0.out.below' hb) (Nat.le_succ _))
      clear hb CG HO0 HA0
      go_wp2_with fail
      refine (CS.out _ B1.out).mono ?_
      rintro r w2 ⟨rfl, rfl⟩
      go_wp2
      go_ret2
      exact ⟨⟨_, rfl, O1.out⟩, B1.out⟩
    · obtain rfl : B = true := HB.out
      have h60 := HX60.out (by first | rfl | trivial)
      have hdf := HDf.out (by first | rfl | trivial)
      obtain rfl : L = Pl.opt es xs 0 := HL.out
      have HCs : Hid (∀ i q t, Pl.lkP es xs i (q + 1) = some t → Pl.cN es xs i (q + 1) = (if 1 + Pl.cC es xs (i + (q + 1)) ≤ Pl.cN es xs i q then 1 + Pl.cC es xs (i + (q + 1)) else Pl.cN es xs i q) ∧ Pl.tN es xs i (q + 1) = (if 1 + Pl.cC es xs (i + (q + 1)) ≤ Pl.cN es xs i q then q + 1 else Pl.tN es xs i q)) := fun i q t ht => Pl.cN_some hdf ht
      have HCl : Hid (∀ j, Pl.cC es xs j ≤ 6060) := fun j => HCle.out j h60
      clear HCle HDf hdf HX60 HL
      go_wp2_with fail
      refine (CG.out _ HB0.out).mono ?_
      rintro r w1 ⟨rfl, hb⟩
      have A1 := Lib.hid (HA0.out.below hb HA0.out.lt)
      have B1 := Lib.hid (below_step HB0.out hb)
      have O1 := Lib.hid (HO0.out.below' hb)
      have hs1 : w.heap.size + 2 ≤ w1.heap.size := by have := hb.size; simp at this; omega
      clear hb CG HO0 HA0 HB0
      go_wp2_with fail
      refine (CS.out _ B1.out).mono ?_
      rintro r w2 ⟨rfl, rfl⟩
      have hmk := fun w => mk_is n (by omega) w
      have hm1 := made_is w1 (n + 1)
      have hm2 := made_is (w1.alloc (.cells (madeCells #[.int .i64 0] (n + 1)) 3)) (n + 1)
      rw [World.size_alloc] at hm2
      have hal2 := below_al2 w1 (.cells (madeCells #[.int .i64 0] (n + 1)) 3) (.cells (madeCells #[.int .i64 0] (n + 1)) 3)
      have RC : Hid (RwI ((w1.alloc (.cells (madeCells #[.int .i64 0] (n + 1)) 3)).alloc (.cells (madeCells #[.int .i64 0] (n + 1)) 3)) w1.heap.size (n + 1) (fun _ => 0)) := hm1.below (below_al _ _) (by simp)
      have RT := Lib.hid hm2
      have BL := Lib.hid hal2
      clear hm1 hm2 hal2 CS
      go_wp2_with fail
      clear hmk
      obtain ⟨W, hW⟩ : ∃ W, W = (w1.alloc (.cells (madeCells #[.int .i64 0] (n + 1)) 3)).alloc (.cells (madeCells #[.int .i64 0] (n + 1)) 3) := ⟨_, rfl⟩
      rw [← hW] at RC RT BL ⊢
      clear hW
      go_loopw [9] (fun i wr => ∃ (m : Nat) (z : Int) (fc ft : Nat → Int), i = .int .i64 z ∧ z = (m : Int) - 1 ∧ m ≤ n ∧ Hid (RwI wr w1.heap.size (n + 1) fc) ∧ Hid (RwI wr (w1.heap.size + 1) (n + 1) ft) ∧ Hid (∀ j, m ≤ j → j ≤ n → fc j = (Pl.cC es xs j : Int)) ∧ Hid (∀ j, m ≤ j → j < n → ft j = (Pl.tk es xs j : Int)) ∧ Hid (Below w1.heap.size w1 wr)) (fun i _ => (intOf i + 1).toNat)
      case atStart =>
        refine ⟨n, _, _, _, rfl, rfl, Nat.le_refl _, RC, RT, Lib.hid (fun j h1 h2 => ?_), Lib.hid (fun j h1 h2 => absurd h2 (by omega)), BL⟩
        obtain rfl : j = n := by omega
        rw [HCE.out]; rfl
      case round =>
        obtain ⟨m, z, fc, ft, rfl, hz, hm, RCr, RTr, HFc, HFt, HBr⟩ := hrel
        cases m with
        | zero =>
          obtain rfl : z = -1 := by omega
          clear hz
          clear HCs HCl HCcap HCap HFc RCr RC RT BL
          have A2 := Lib.hid (A1.out.below HBr.out (by omega))
          have O2 := Lib.hid (O1.out.below' HBr.out)
          have B2 := Lib.hid (B1.out.trans (HBr.out.mono B1.out.size))
          have HFt0 : Hid (∀ j, j < n → ft j = (Pl.tk es xs j : Int)) := fun j hj => HFt.out j (Nat.zero_le _) hj
          have HTl : Hid (∀ j, j < n → Pl.tk es xs j ≤ 6) := fun j hj => by rcases HTk.out j hj with h | h <;> omega
          have hown0 : Hid (∀ j, (Value.slice (some ⟨w.heap.size + 1, 0, none⟩) 0 0).ownBlock = some j → j ≠ w1.heap.size + 1) := fun j hj => by
            have : w.heap.size + 1 = j := by simpa [Value.ownBlock] using hj
            omega
          clear HFt A1 O1 B1 HBr
          go_wp2_with fail
          go_loopw [6, 13] (fun y i wr => ∃ (k : Nat) (ls : List Pc), i = .int .i64 k ∧ k ≤ n ∧ ls.length ≤ k ∧ Hid (ls ++ Pl.opt es xs k = Pl.opt es xs 0) ∧ Hid (OwnP wr (w.heap.size + 1) y ls) ∧ Hid (∀ j, y.ownBlock = some j → j ≠ w1.heap.size + 1) ∧ Hid (RwI wr (w1.heap.size + 1) (n + 1) ft) ∧ Hid (BoxV wr w.heap.size 33 (.slice a dn cap)) ∧ Hid (Below w.heap.size w wr)) (fun _ i _ => n - (intOf i).toNat)
          case atStart => exact ⟨0, [], rfl, Nat.zero_le _, Nat.zero_le _, Lib.hid (List.nil_append _), O2, hown0, RTr, A2, B2⟩
          case round =>
            obtain ⟨k, ls, rfl, hk, hll, HLs, HO, HOn, HR, HA, HB'⟩ := hrel
            clear O2 hown0 RTr A2 B2
            by_cases hlt : k < n
            · have hcell := HR.out.2.1 k (by omega)
              rw [HFt0.out k hlt] at hcell
              have htl := HTl.out k hlt
              have htk := HTk.out k hlt
              have HSk := Lib.hid (HS.out k)
              have hal := below_al wr (.cells #[.int .i64 (k : Int), .int .i64 1, .string ByteArray.empty] 28)
              have R1 : Hid (RwI (wr.alloc (.cells #[.int .i64 (k : Int), .int .i64 1, .string ByteArray.empty] 28)) (w1.heap.size + 1) (n + 1) ft) := HR.out.below hal HR.out.1
              have A3 : Hid (BoxV (wr.alloc (.cells #[.int .i64 (k : Int), .int .i64 1, .string ByteArray.empty] 28)) w.heap.size 33 (.slice a dn cap)) := HA.out.below hal HA.out.lt
              have O3 : Hid (OwnP (wr.alloc (.cells #[.int .i64 (k : Int), .int .i64 1, .string ByteArray.empty] 28)) (w.heap.size + 1) u6 ls) := HO.out.below' hal
              have B3 : Hid (Below w.heap.size w (wr.alloc (.cells #[.int .i64 (k : Int), .int .i64 1, .string ByteArray.empty] 28))) := below_step HB'.out hal
              have P3 : Hid (PcB (wr.alloc (.cells #[.int .i64 (k : Int), .int .i64 1, .string ByteArray.empty] 28)) wr.heap.size ((k : Int), 1, ByteArray.empty)) := PcB.new wr ((k : Int), 1, ByteArray.empty)
              have hcell2 := R1.out.2.1 k (by omega)
              rw [HFt0.out k hlt] at hcell2
              have HOl : Hid (∀ j, Value.ownBlock u6 = some j → j < wr.heap.size) := fun j hj => ownP_lt' HO.out hj
              have hs3 : w.heap.size + 1 ≤ wr.heap.size := by have := HA.out.lt; omega
              have hR1 : w1.heap.size + 1 < wr.heap.size := HR.out.1
              obtain ⟨c, hc⟩ : ∃ c, c = Pl.tk es xs k := ⟨_, rfl⟩
              rw [← hc] at hcell hcell2 htl htk
              have cmx := fun w => l1Most_any c 1 w
              have CMx := Lib.hid cmx
              have HCell : Hid (ft k = (c : Int)) := by rw [HFt0.out k hlt, ← hc]; rfl
              clear cmx hal HTk HS HFt0 HTl hc
              rcases htk with ⟨hc0, hopt⟩ | ⟨hc1, hcn, hc6, t, hlk, hopt⟩
              · have HL2 : Hid ((ls ++ [Pl.unP k]) ++ Pl.opt es xs (k + 1) = Pl.opt es xs 0) := by rw [List.append_assoc, List.singleton_append, ← hopt]; exact HLs.out
                have hc0' : ¬ (0 : Int) < (c : Int) := by omega
                have HMx : Hid (max c 1 = 1) := by show _ = _; omega
                obtain ⟨p0, p1, p2⟩ := P3.out.cells
                dsimp only at p0 p1 p2
                have HN4 := Lib.hid (World.size_alloc wr (.cells #[.int .i64 (k : Int), .int .i64 1, .string ByteArray.empty] 28))
                have hs4 : w.heap.size + 1 ≤ wr.heap.size + 1 := by omega
                clear hc0 hopt HLs CF HSk HSl HR HA HO HB'
                go_wp2_with (at_builtin; refine push_pcM rfl _ _ rfl (w.heap.size + 1) _ ls rfl O3.out (Pl.unP k) (wr.heap.size + 1) HN4.out rfl hs4 (by omega) ?_)
                intro v' w5 hown hg hat
                have R5 := Lib.hid (R1.out.grown hg (fun e => HOn.out _ e.symm rfl))
                have A5 := Lib.hid (A3.out.grown hg (fun e => by have := row_ge O3.out e.symm; omega))
                have B5 := Lib.hid (B3.out.grown hg (by rw [World.size_alloc]; omega) (fun j hj => by have := row_ge O3.out hj; omega))
                have O5 := Lib.hid hown
                have HOn5 : Hid (∀ j, v'.ownBlock = some j → j ≠ w1.heap.size + 1) := fun j hj => by
                  rcases hat with h2 | h2
                  · exact HOn.out j (by rw [← h2]; exact hj)
                  · rw [h2] at hj; injection hj with hj; omega
                have d5 := R5.out.2.1 k (by omega)
                rw [HCell.out] at d5
                clear hown hg hat R1 A3 B3 O3 P3 p0 p1 p2 hcell hcell2 HOn HN4
                go_wp2_with fail
                refine (CMx.out _).mono ?_
                rintro r w6 ⟨rfl, rfl⟩
                rw [HMx.out]
                go_wp2
                go_roundw
                case rel => exact ⟨k + 1, ls ++ [Pl.unP k], by go_num, by omega, by rw [List.length_append, List.length_singleton]; omega, HL2, O5, HOn5, R5, A5, B5⟩
                case measure => simp [intOf]; omega
              · have HL2 : Hid ((ls ++ [((k : Int), (c : Int), t)]) ++ Pl.opt es xs (k + c) = Pl.opt es xs 0) := by rw [List.append_assoc, List.singleton_append, ← hopt]; exact HLs.out
                have hcp : (0 : Int) < (c : Int) := by omega
                have HMx : Hid (max c 1 = c) := by show _ = _; omega
                obtain ⟨ub, uo, rfl, hSI⟩ := HSk.out c hcn hc1
                have hlk2 : Pl.look ((xs.drop k).take c) es = some t := hlk
                have CF1 := Lib.hid (fun w' (hb : Below w.heap.size w w') => hlk2 ▸ CF.out _ _ w' hb (hSI w' hb) (HSl.out k c))
                obtain ⟨p0, p1, p2⟩ := P3.out.cells
                dsimp only at p0 p1 p2
                have f1 := P3.out.frozen 1
                have hal4 := below_al wr (.cells #[.int .i64 (k : Int), .int .i64 (c : Int), .string ⟨#[]⟩] 28)
                have P4 : Hid (PcB (wr.alloc (.cells #[.int .i64 (k : Int), .int .i64 (c : Int), .string ⟨#[]⟩] 28)) wr.heap.size ((k : Int), (c : Int), ⟨#[]⟩)) := PcB.new wr ((k : Int), (c : Int), ⟨#[]⟩)
                have R4 : Hid (RwI (wr.alloc (.cells #[.int .i64 (k : Int), .int .i64 (c : Int), .string ⟨#[]⟩] 28)) (w1.heap.size + 1) (n + 1) ft) := HR.out.below hal4 HR.out.1
                have A4 : Hid (BoxV (wr.alloc (.cells #[.int .i64 (k : Int), .int .i64 (c : Int), .string ⟨#[]⟩] 28)) w.heap.size 33 (.slice a dn cap)) := HA.out.below hal4 HA.out.lt
                have O4 : Hid (OwnP (wr.alloc (.cells #[.int .i64 (k : Int), .int .i64 (c : Int), .string ⟨#[]⟩] 28)) (w.heap.size + 1) u6 ls) := HO.out.below' hal4
                have B4 : Hid (Below w.heap.size w (wr.alloc (.cells #[.int .i64 (k : Int), .int .i64 (c : Int), .string ⟨#[]⟩] 28))) := below_step HB'.out hal4
                have d4 := R4.out.2.1 k (by omega)
                rw [HCell.out] at d4
                have hs4' : (wr.alloc (.cells #[.int .i64 (k : Int), .int .i64 (c : Int), .string ⟨#[]⟩] 28)).heap.size = wr.heap.size + 1 := World.size_alloc _ _
                obtain ⟨W4, hW4⟩ : ∃ W, W = wr.alloc (.cells #[.int .i64 (k : Int), .int .i64 (c : Int), .string ⟨#[]⟩] 28) := ⟨_, rfl⟩
                rw [← hW4] at P4 R4 A4 O4 B4 d4 hs4'
                have HW4 := Lib.hid hW4
                have HS4 := Lib.hid hs4'
                have k1 := cell_regrown A4.out.cell
                have k2 := cell_regrown d4
                clear hlk hlk2 hopt HLs CF HSk HSl hSI hW4 R1 A3 O3 B3 P3 hs4' HR HA HO HB' hal4
                go_wp2_with fail
                rw [← HW4.out]
                clear p0 p1 p2 f1 hcell hcell2
                refine Mx.wp_region_mixed (Mx.ofL [(0, 1), (1, 0), (2, 0), (3, 0), (4, 0), (5, 0), (6, 0), (7, 1), (8, 0), (9, 0), (10, 3), (11, 0), (12, 0), (13, 0), (14, 0), (15, 3)] .done) (by kernel_rfl) (by kernel_rfl) ?_
                repeat ((first | refine Mx.mix0 rfl ?_ | refine Mx.mix1 rfl ?_); go_big_quiet_step (fail); refine wpQuiet_nil ?_)
                refine Mx.mix3 rfl ?_
                go_wp2_with fail
                refine (CF1.out _ (below_step B4.out (below_drewN (Below.refl _ _) 1))).mono ?_
                rintro r w6 ⟨rfl, hb'⟩
                have hb : Below W4.heap.size W4 w6 := (below_drewN (Below.refl _ _) 1).trans hb'
                have hsz := hb.size
                have P6 := Lib.hid (P4.out.below hb P4.out.lt)
                have R6 := Lib.hid (R4.out.below hb R4.out.1)
                have A6 := Lib.hid (A4.out.below hb A4.out.lt)
                have O6 := Lib.hid (O4.out.below' hb)
                have B6 := Lib.hid (below_step B4.out hb)
                have hs6 : wr.heap.size + 1 ≤ w6.heap.size := by have := HS4.out; omega
                obtain ⟨_, _, p2⟩ := P6.out.cells
                dsimp only at p2
                have f2 := P6.out.frozen 2
                clear hb hb' k1 k2 d4 CF1 P4 R4 A4 O4 B4 hsz HW4 HS4
                unfold lkE
                simp only [Option.isSome_some, Option.getD_some]
                go_wp2
                refine Mx.mid_normal (fun q => by cases q) ?_
                repeat ((first | refine Mx.mix0 rfl ?_ | refine Mx.mix1 rfl ?_); go_big_quiet_step (fail); refine wpQuiet_nil ?_)
                refine Mx.mix3 rfl ?_
                have P7 := Lib.hid (P6.out.set2 t)
                have R7 := Lib.hid (R6.out.other (g' := wr.heap.size) (by omega) 2 (.string t))
                have A7 : Hid (BoxV (w6.setCell ⟨wr.heap.size, 2, none⟩ (.string t)) w.heap.size 33 (.slice a dn cap)) := Lib.hid (BoxV.other A6.out (by omega))
                have O7 : Hid (OwnP (w6.setCell ⟨wr.heap.size, 2, none⟩ (.string t)) (w.heap.size + 1) u6 ls) := Lib.hid (O6.out.kept (grown_set _ _ _ _) (own_ne fun j hj => by have := HOl.out j hj; omega))
                have B7 : Hid (Below w.heap.size w (w6.setCell ⟨wr.heap.size, 2, none⟩ (.string t))) := Lib.hid (B6.out.setCell (p := ⟨wr.heap.size, 2, none⟩) (by show _ ≤ wr.heap.size; omega) _)
                go_wp2
                refine Mx.mid_normal (fun q => by cases q) ?_
                refine Mx.mix_nil ?_
                obtain ⟨q0, q1, q2⟩ := P7.out.cells
                dsimp only at q0 q1 q2
                have HN7 := Lib.hid (World.size_setCell w6 ⟨wr.heap.size, 2, none⟩ (.string t))
                have hs7 : w.heap.size + 1 ≤ w6.heap.size := by omega
                clear P6 R6 A6 O6 B6 p2 f2
                go_wp2_with (at_builtin; refine push_pcM rfl _ _ rfl (w.heap.size + 1) _ ls rfl O7.out ((k : Int), (c : Int), t) w6.heap.size HN7.out rfl hs7 (by omega) ?_)
                intro v' w8 hown hg hat
                have R8 := Lib.hid (R7.out.grown hg (fun e => HOn.out _ e.symm rfl))
                have A8 := Lib.hid (A7.out.grown hg (fun e => by have := row_ge O7.out e.symm; omega))
                have B8 := Lib.hid (B7.out.grown hg (by rw [World.size_setCell]; omega) (fun j hj => by have := row_ge O7.out hj; omega))
                have O8 := Lib.hid hown
                have HOn8 : Hid (∀ j, v'.ownBlock = some j → j ≠ w1.heap.size + 1) := fun j hj => by
                  rcases hat with h2 | h2
                  · exact HOn.out j (by rw [← h2]; exact hj)
                  · rw [h2] at hj; injection hj with hj; omega
                have d8 := R8.out.2.1 k (by omega)
                rw [HCell.out] at d8
                clear hown hg hat R7 A7 B7 O7 P7 q0 q1 q2 HOn HN7
                go_wp2_with fail
                refine (CMx.out _).mono ?_
                rintro r w9 ⟨rfl, rfl⟩
                rw [HMx.out]
                go_wp2
                go_roundw
                case rel => exact ⟨k + c, ls ++ [((k : Int), (c : Int), t)], by go_num, by omega, by rw [List.length_append, List.length_singleton]; omega, HL2, O8, HOn8, R8, A8, B8⟩
                case measure => simp [intOf]; omega
            · have HF : Hid (ls = Pl.opt es xs 0) := by have h1 := HLs.out; rw [show k = n by omega, HOEnd.out, List.append_nil] at h1; exact h1
              have OF := Lib.hid (ownsRow_mono HO.out (Nat.le_succ w.heap.size))
              clear HLs CF HS HSl HTk HFt0 HTl
              go_wp2
              go_ret2
              exact ⟨⟨_, rfl, by rw [← HF.out]; exact OF.out⟩, HB'.out⟩
        | succ i =>
          obtain rfl : z = (i : Int) := by omega
          clear hz
          have hin : i < n := by omega
          have hc1 := RCr.out.2.1 (i + 1) (by omega)
          rw [HFc.out (i + 1) (by omega) (by omega)] at hc1
          have hc0 := RCr.out.2.1 i (by omega)
          have hf0 := RCr.out.2.2 i
          have ht0 := RTr.out.2.1 i (by omega)
          have hg0 := RTr.out.2.2 i
          have hcl := HCl.out (i + 1)
          have RC2 := Lib.hid ((RCr.out.set i (by omega) (101 + (Pl.cC es xs (i + 1) : Int))).other (g' := w1.heap.size + 1) (by omega) i (.int .i64 0))
          have RT2 := Lib.hid ((RTr.out.other (g' := w1.heap.size) (by omega) i (.int .i64 (101 + (Pl.cC es xs (i + 1) : Int)))).set i (by omega) 0)
          have B2 : Hid (Below w1.heap.size w1 ((wr.setCell ⟨w1.heap.size, i, none⟩ (.int .i64 (101 + (Pl.cC es xs (i + 1) : Int)))).setCell ⟨w1.heap.size + 1, i, none⟩ (.int .i64 0))) := Lib.hid ((HBr.out.setCell (p := ⟨w1.heap.size, i, none⟩) (Nat.le_refl _) _).setCell (p := ⟨w1.heap.size + 1, i, none⟩) (Nat.le_succ _) _)
          have hcn := Pl.cN_zero es xs i
          have HFc2 : Hid (∀ j, i < j → j ≤ n → (fun j => if j = i then (101 + (Pl.cC es xs (i + 1) : Int)) else fc j) j = (Pl.cC es xs j : Int)) := fun j h1 h2 => by dsimp only; rw [if_neg (by omega)]; exact HFc.out j (by omega) h2
          have HFi2 : Hid ((fun j => if j = i then (101 + (Pl.cC es xs (i + 1) : Int)) else fc j) i = (Pl.cN es xs i 0 : Int)) := by show (if i = i then _ else _) = _; rw [if_pos rfl, hcn]; omega
          have HFt2 : Hid (∀ j, i < j → j < n → (fun j => if j = i then (0 : Int) else ft j) j = (Pl.tk es xs j : Int)) := fun j h1 h2 => by dsimp only; rw [if_neg (by omega)]; exact HFt.out j (by omega) h2
          have HTi2 : Hid ((fun j => if j = i then (0 : Int) else ft j) i = (Pl.tN es xs i 0 : Int)) := by show (if i = i then _ else _) = _; rw [if_pos rfl]; rfl
          obtain ⟨fc2, hfc2⟩ : ∃ f, f = (fun j => if j = i then (101 + (Pl.cC es xs (i + 1) : Int)) else fc j) := ⟨_, rfl⟩
          obtain ⟨ft2, hft2⟩ : ∃ f, f = (fun j => if j = i then (0 : Int) else ft j) := ⟨_, rfl⟩
          rw [← hfc2] at RC2 HFc2 HFi2
          rw [← hft2] at RT2 HFt2 HTi2
          obtain ⟨C1, hC1⟩ : ∃ C1, C1 = Pl.cC es xs (i + 1) := ⟨_, rfl⟩
          rw [← hC1] at hc1 hcl RC2 RT2 B2
          clear hcn hfc2 hft2 RCr RTr HFc HFt HBr hC1 RC RT BL
          go_wp2_with fail
          go_loopw [10] (fun k wq => ∃ (q : Nat) (fc' ft' : Nat → Int), k = .int .i64 ((q : Int) + 1) ∧ q ≤ min 6 (n - i) ∧ Hid (RwI wq w1.heap.size (n + 1) fc') ∧ Hid (RwI wq (w1.heap.size + 1) (n + 1) ft') ∧ Hid (∀ j, i < j → j ≤ n → fc' j = (Pl.cC es xs j : Int)) ∧ Hid (fc' i = (Pl.cN es xs i q : Int)) ∧ Hid (∀ j, i < j → j < n → ft' j = (Pl.tk es xs j : Int)) ∧ Hid (ft' i = (Pl.tN es xs i q : Int)) ∧ Hid (Below w1.heap.size w1 wq)) (fun k _ => (8 - intOf k).toNat)
          case atStart => exact ⟨0, fc2, ft2, rfl, Nat.zero_le _, RC2, RT2, HFc2, HFi2, HFt2, HTi2, B2⟩
          case round =>
            obtain ⟨q, fc', ft', rfl, hq, RCq, RTq, HFq, HFi, HTq, HTi, HBq⟩ := hrel
            clear RC2 RT2 HFc2 HFi2 HFt2 HTi2 B2 hc1 hc0 hf0 ht0 hg0
            by_cases hqc : q < min 6 (n - i)
            · have hq6 : q + 1 ≤ 6 := by omega
              have hqn : i + (q + 1) ≤ n := by omega
              obtain ⟨ub, uo, rfl, hSI⟩ := HS.out i (q + 1) hqn (by omega)
              have hbw := B1.out.trans (HBq.out.mono B1.out.size)
              have CF1 := Lib.hid (fun w' (hb : Below wr.heap.size wr w') => CF.out _ _ w' (below_step hbw hb) (hSI w' (below_step hbw hb)) (HSl.out i (q + 1)))
              have hcs := HCs.out i q
              obtain ⟨lk, hlk⟩ : ∃ lk, lk = Pl.lkP es xs i (q + 1) := ⟨_, rfl⟩
              have hlk2 : Pl.look ((xs.drop i).take (q + 1)) es = lk := by rw [hlk]; rfl
              have hcno := fun (h : Pl.lkP es xs i (q + 1) = none) => Pl.cN_none h
              rw [hlk2] at CF1
              rw [← hlk] at hcs hcno
              have HCs1 := Lib.hid hcs
              have HCno := Lib.hid hcno
              have Aq := Lib.hid (A1.out.below HBq.out (by omega))
              have k1 := cell_regrown Aq.out.cell
              have hC := HFq.out (i + (q + 1)) (by omega) hqn
              have hCl := HCl.out (i + (q + 1))
              obtain ⟨CC, hCC⟩ : ∃ c, c = Pl.cC es xs (i + (q + 1)) := ⟨_, rfl⟩
              rw [← hCC] at HCs1 hC hCl
              obtain ⟨CN, hCN⟩ : ∃ c, c = Pl.cN es xs i q := ⟨_, rfl⟩
              have HFi' := HFi.out
              rw [← hCN] at HCs1 HFi'
              have HCi := Lib.hid HFi'
              have HCj := Lib.hid hC
              clear hcs hcno hlk hlk2 hCC hC HFi' hSI hbw CF HS HSl HCs
              go_wp2_with fail
              refine Mx.wp_region_mixed (Mx.ofL [(0, 1), (1, 0), (2, 0), (3, 0), (4, 0), (5, 0), (6, 0), (7, 3), (8, 0), (9, 0), (10, 0), (11, 0), (12, 0)] .done) (by kernel_rfl) (by kernel_rfl) ?_
              repeat ((first | refine Mx.mix0 rfl ?_ | refine Mx.mix1 rfl ?_); go_big_quiet_step (fail); refine wpQuiet_nil ?_)
              refine Mx.mix3 rfl ?_
              go_wp2_with fail
              refine (CF1.out _ (below_drewN (Below.refl _ _) 1)).mono ?_
              rintro r w3 ⟨rfl, hb'⟩
              have hb : Below wr.heap.size wr w3 := (below_drewN (Below.refl _ _) 1).trans hb'
              have RC3 := Lib.hid (RCq.out.below hb RCq.out.1)
              have RT3 := Lib.hid (RTq.out.below hb RTq.out.1)
              have hw1q : w1.heap.size ≤ wr.heap.size := HBq.out.size
              have B3 := Lib.hid (HBq.out.trans (hb.mono hw1q))
              clear hb' hb k1 RCq RTq HBq Aq CF1
              unfold lkE
              go_wp2
              refine Mx.mid_normal (fun q => by cases q) ?_
              repeat ((first | refine Mx.mix0 rfl ?_ | refine Mx.mix1 rfl ?_); go_big_quiet_step (fail); refine wpQuiet_nil ?_)
              refine Mx.mix_nil ?_
              cases lk with
              | none =>
                simp only [Option.isSome_none, Option.getD_none]
                obtain ⟨e1, e2⟩ := HCno.out rfl
                have HFi3 : Hid (fc' i = (Pl.cN es xs i (q + 1) : Int)) := by rw [e1]; exact HFi.out
                have HTi3 : Hid (ft' i = (Pl.tN es xs i (q + 1) : Int)) := by rw [e2]; exact HTi.out
                have cI := RC3.out.2.1 i (by omega)
                have kI := cell_regrown cI
                clear e1 e2 HCno HCs1 HCi HCj
                go_wp2_with fail
                refine wp_region_quiet_below (by kernel_rfl) (by kernel_rfl) ?_
                repeat (go_big_quiet_step (fail))
                refine wpQuiet_nil ?_
                rintro _ ⟨⟨dq, osq⟩, rfl⟩
                have hd := below_regrown w3 dq osq
                have RC4 := Lib.hid (RC3.out.below hd RC3.out.1)
                have RT4 := Lib.hid (RT3.out.below hd RT3.out.1)
                have B4 := Lib.hid (B3.out.trans (hd.mono B3.out.size))
                obtain ⟨W4, hW4⟩ : ∃ W, W = Go.Sort.grow (redrawn w3 dq) osq := ⟨_, rfl⟩
                dsimp only at RC4 RT4 B4 ⊢
                rw [← hW4] at RC4 RT4 B4 ⊢
                clear hd hW4 cI kI RC3 RT3 B3
                go_wp2
                go_roundw
                case rel => exact ⟨q + 1, fc', ft', by go_num, by omega, RC4, RT4, HFq, HFi3, HTq, HTi3, B4⟩
                case measure => simp [intOf]; omega
              | some t =>
                simp only [Option.isSome_some, Option.getD_some]
                obtain ⟨e1, e2⟩ := HCs1.out t rfl
                have cI := RC3.out.2.1 i (by omega)
                have cJ := RC3.out.2.1 (i + (q + 1)) (by omega)
                rw [HCi.out] at cI
                rw [HCj.out] at cJ
                have kI := cell_regrown cI
                have kJ := cell_regrown cJ
                by_cases hle : 1 + CC ≤ CN
                · rw [if_pos hle] at e1 e2
                  have hle' : 1 + (CC : Int) ≤ (CN : Int) := by omega
                  have E1 := Lib.hid e1
                  have E2 := Lib.hid e2
                  clear e1 e2 HCno HCs1 HCi HCj hle
                  go_wp2_with fail
                  refine Mx.wp_region_mixed (Mx.ofL [(0, 0), (1, 0), (2, 0), (3, 0), (4, 0), (5, 0), (6, 0), (7, 1), (8, 0), (9, 0), (10, 0), (11, 0), (12, 1), (13, 0), (14, 3)] .done) (by kernel_rfl) (by kernel_rfl) ?_
                  repeat ((first | refine Mx.mix0 rfl ?_ | refine Mx.mix1 rfl ?_); go_big_quiet_step (fail); refine wpQuiet_nil ?_)
                  refine Mx.mix3 rfl ?_
                  go_wp2
                  refine Mx.mid_normal (fun q => by cases q) ?_
                  refine Mx.mix_nil ?_
                  have hd : Below w3.heap.size w3 (w3.drew) := below_drewN (Below.refl _ _) 1
                  have RC4 := Lib.hid (RC3.out.below hd RC3.out.1)
                  have RT4 := Lib.hid (RT3.out.below hd RT3.out.1)
                  have B4 : Hid (Below w1.heap.size w1 w3.drew) := Lib.hid (below_drewN B3.out 1)
                  obtain ⟨W4, hW4⟩ : ∃ W, W = w3.drew := ⟨_, rfl⟩
                  rw [← hW4] at RC4 RT4 B4 ⊢
                  have dJ := RC4.out.2.1 (i + (q + 1)) (by omega)
                  have dI := RC4.out.2.1 i (by omega)
                  have fI := RC4.out.2.2 i
                  have tI := RT4.out.2.1 i (by omega)
                  have gI := RT4.out.2.2 i
                  rw [HFq.out _ (by omega) hqn] at dJ
                  have RC5 := Lib.hid ((RC4.out.set i (by omega) (1 + (CC : Int))).other (g' := w1.heap.size + 1) (by omega) i (.int .i64 ((q : Int) + 1)))
                  have RT5 := Lib.hid ((RT4.out.other (g' := w1.heap.size) (by omega) i (.int .i64 (1 + (CC : Int)))).set i (by omega) ((q : Int) + 1))
                  have B5 : Hid (Below w1.heap.size w1 ((W4.setCell ⟨w1.heap.size, i, none⟩ (.int .i64 (1 + (CC : Int)))).setCell ⟨w1.heap.size + 1, i, none⟩ (.int .i64 ((q : Int) + 1)))) := Lib.hid ((B4.out.setCell (p := ⟨w1.heap.size, i, none⟩) (Nat.le_refl _) _).setCell (p := ⟨w1.heap.size + 1, i, none⟩) (Nat.le_succ _) _)
                  have HFq5 : Hid (∀ j, i < j → j ≤ n → (fun j => if j = i then (1 + (CC : Int)) else fc' j) j = (Pl.cC es xs j : Int)) := fun j h1 h2 => by dsimp only; rw [if_neg (by omega)]; exact HFq.out j h1 h2
                  have HFi5 : Hid ((fun j => if j = i then (1 + (CC : Int)) else fc' j) i = (Pl.cN es xs i (q + 1) : Int)) := by show (if i = i then _ else _) = _; rw [if_pos rfl, E1.out]; omega
                  have HTq5 : Hid (∀ j, i < j → j < n → (fun j => if j = i then ((q : Int) + 1) else ft' j) j = (Pl.tk es xs j : Int)) := fun j h1 h2 => by dsimp only; rw [if_neg (by omega)]; exact HTq.out j h1 h2
                  have HTi5 : Hid ((fun j => if j = i then ((q : Int) + 1) else ft' j) i = (Pl.tN es xs i (q + 1) : Int)) := by show (if i = i then _ else _) = _; rw [if_pos rfl, E2.out]; omega
                  have hCC2 : (Pl.cC es xs (i + (q + 1)) : Int) = (CC : Int) := by have h1 := HFq.out (i + (q + 1)) (by omega) hqn; have h2 := RC3.out.2.1 (i + (q + 1)) (by omega); rw [cJ] at h2; injection h2 with h2; injection h2 with _ h2; rw [← h1, ← h2]
                  rw [hCC2] at dJ
                  clear hd hW4 RC3 RT3 B3 RC4 RT4 B4 cI cJ HFq HFi HTq HTi E1 E2 hCC2
                  go_wp2
                  go_roundw
                  case rel => exact ⟨q + 1, _, _, by go_num, by omega, RC5, RT5, HFq5, HFi5, HTq5, HTi5, B5⟩
                  case measure => simp [intOf]; omega
                · rw [if_neg hle] at e1 e2
                  have hle' : ¬ 1 + (CC : Int) ≤ (CN : Int) := by omega
                  have HFi3 : Hid (fc' i = (Pl.cN es xs i (q + 1) : Int)) := by rw [e1]; exact HCi.out
                  have HTi3 : Hid (ft' i = (Pl.tN es xs i (q + 1) : Int)) := by rw [e2]; exact HTi.out
                  clear e1 e2 HCno HCs1 HCi HCj hle
                  go_wp2_with fail
                  refine Mx.wp_region_mixed (Mx.ofL [(0, 0), (1, 0), (2, 0), (3, 0), (4, 0), (5, 0), (6, 0), (7, 1), (8, 0), (9, 0), (10, 0), (11, 0), (12, 1), (13, 0), (14, 3)] .done) (by kernel_rfl) (by kernel_rfl) ?_
                  repeat ((first | refine Mx.mix0 rfl ?_ | refine Mx.mix1 rfl ?_); go_big_quiet_step (fail); refine wpQuiet_nil ?_)
                  refine Mx.mix3 rfl ?_
                  go_wp2
                  refine Mx.mid_normal (fun q => by cases q) ?_
                  refine Mx.mix_nil ?_
                  go_wp2
                  go_roundw
                  case rel => exact ⟨q + 1, fc', ft', by go_num, by omega, RC3.out.below (below_drewN (Below.refl _ _) 1) RC3.out.1, RT3.out.below (below_drewN (Below.refl _ _) 1) RT3.out.1, HFq, HFi3, HTq, HTi3, below_drewN B3.out 1⟩
                  case measure => simp [intOf]; omega
            · have hqe : q = min 6 (n - i) := by omega
              have HFo : Hid (∀ j, i ≤ j → j ≤ n → fc' j = (Pl.cC es xs j : Int)) := fun j h1 h2 => by
                by_cases hj : j = i
                · subst hj; rw [HFi.out, hqe, ← HCap.out, HCcap.out j hin]
                · exact HFq.out j (by omega) h2
              have HTo : Hid (∀ j, i ≤ j → j < n → ft' j = (Pl.tk es xs j : Int)) := fun j h1 h2 => by
                by_cases hj : j = i
                · subst hj; rw [HTi.out, hqe, ← HCap.out]; rfl
                · exact HTq.out j (by omega) h2
              clear HFq HFi HTq HTi HS HSl HCs CF
              by_cases hq6 : q + 1 ≤ 6
              · have hqn : ¬ i + (q + 1) ≤ n := by omega
                clear hqe hqc
                go_wp2
                go_roundw
                case rel => exact ⟨i, (i : Int) - 1, fc', ft', rfl, rfl, by omega, RCq, RTq, HFo, HTo, HBq.out⟩
                case measure => simp [intOf]
              · clear hqe hqc
                go_wp2
                go_roundw
                case rel => exact ⟨i, (i : Int) - 1, fc', ft', rfl, rfl, by omega, RCq, RTq, HFo, HTo, HBq.out⟩
                case measure => simp [intOf]
end Go.Proofs.Ythigdblloddepaa

namespace Go.Proofs.Ythigdblloddepaa
set_option maxRecDepth 100000
open Go.RowKit

/-- A slice of pieces: nil, or in a block. -/
def PcsM (w : World) (v : Value) (es : List Pc) : Prop :=
  (v = .slice none 0 0 ∧ es = []) ∨ ∃ bk o cap, v = .slice (some ⟨bk, o, none⟩) es.length cap ∧ es.length ≤ cap ∧ bk < w.heap.size ∧ ∀ (j : Nat) e, es[j]? = some e →
    w.cell? ⟨bk, o + j * 3, none⟩ = some (.int .i64 e.1) ∧ w.cell? ⟨bk, o + j * 3 + 1, none⟩ = some (.int .i64 e.2.1) ∧ w.cell? ⟨bk, o + j * 3 + 2, none⟩ = some (.string e.2.2)
theorem PcsM.below {w w' : World} {v : Value} {es : List Pc} (h : PcsM w v es) (hb : Below w.heap.size w w') : PcsM w' v es := by
  rcases h with h | ⟨bk, o, cap, hv, hc, hk, h⟩
  · exact .inl h
  · refine .inr ⟨bk, o, cap, hv, hc, Nat.lt_of_lt_of_le hk hb.size, fun j e he => ?_⟩
    obtain ⟨h0, h1, h2⟩ := h j e he
    exact ⟨(hb.cell (p := ⟨bk, o + j * 3, none⟩) hk).trans h0, (hb.cell (p := ⟨bk, o + j * 3 + 1, none⟩) hk).trans h1, (hb.cell (p := ⟨bk, o + j * 3 + 2, none⟩) hk).trans h2⟩
theorem PcsM.at {w : World} {v : Value} {es : List Pc} (h : PcsM w v es) : PcsAt w v es := by
  rcases h with ⟨rfl, rfl⟩ | ⟨bk, o, cap, hv, hc, hk, h⟩
  · exact PcsAt.nil _ _ _
  · exact ⟨_, cap, hv, hc, .inr ⟨bk, o, rfl, hk, h⟩⟩
theorem PcsM.slice {w : World} {v : Value} {es : List Pc} (h : PcsM w v es) : ∃ a cap, v = .slice a es.length cap ∧ es.length ≤ cap := by
  rcases h with ⟨rfl, rfl⟩ | ⟨bk, o, cap, hv, hc, _⟩
  · exact ⟨none, 0, rfl, Nat.le_refl _⟩
  · exact ⟨_, cap, hv, hc⟩
theorem ownP_m {w : World} {base : Nat} {v : Value} {ls : List Pc} (h : OwnP w base v ls) : PcsM w v ls := by
  rcases h.2 with ⟨rfl, h0⟩ | ⟨g, cap, cur, rfl, hb, hg, hn, _, hsz, htake⟩
  · exact .inl ⟨rfl, List.length_eq_zero_iff.1 h0⟩
  · have hlt : g < w.heap.size := (Array.getElem?_eq_some_iff.1 hg).1
    refine .inr ⟨g, 0, cap, rfl, hn, hlt, fun j e he => ?_⟩
    obtain ⟨h0, h1, h2⟩ := pcCells_at ls j e he
    have hc : ∀ q x, (pcCells ls)[q]? = some x → w.cell? ⟨g, q, none⟩ = some x := by
      intro q x hq
      have hql : q < ls.length * 3 := by
        rcases Nat.lt_or_ge q (ls.length * 3) with h' | h'
        · exact h'
        · rw [List.getElem?_eq_none (by rw [pcCells_len]; exact h')] at hq; cases hq
      rw [← htake, List.getElem?_take_of_lt hql] at hq
      simp only [Array.getElem?_toList] at hq
      simp [World.cell?, hg, hq]
    rw [Nat.zero_add]
    exact ⟨hc _ _ h0, hc _ _ h1, hc _ _ h2⟩
/-- Pieces appended to an own row: 'append(l, s...)'. -/
theorem app_pcs {ops : Array Oper} {rest : List Oper} {o : Oper} {a : Act} {w : World} {Q : Exit → Act → World → Prop}
    (hgd : o.guard = none) (p q : Operand) (ho : o.op = .call { callee := .builtin .append, args := #[p, q], argTypes := #[40, 40] }) (base : Nat) (v : Value) (ls : List Pc) (hs : a.eval p = v) (hown : OwnP w base v ls)
    (u : Value) (es : List Pc) (hq : a.eval q = u) (hu : PcsM w u es) (hb : base ≤ w.heap.size) (h1 : ls.length ≤ 4194304) (h2 : es.length ≤ 4194304)
    (h : ∀ v' w', OwnP w' base v' (ls ++ es) → w.grownBy w' v.ownBlock → wpList Try.prog ops Q rest (a.put o.dst v') w') : wpList Try.prog ops Q (o :: rest) a w := by
  obtain ⟨i0, hi, hz0, hz1, hz2⟩ := info_parts infoPc
  rcases hu with ⟨rfl, rfl⟩ | ⟨bk, off, cap, rfl, hc, hk, hcell⟩
  · refine wpList_append_own_none hgd p q 40 ho base 28 i0 3 Try.underlying40 hi v ls.length _ hs hown hq (h v w ?_ ⟨rfl, rfl, rfl, Nat.le_refl _, fun _ _ _ => rfl⟩)
    rw [List.append_nil]; exact hown
  · refine wpList_append_own _ hgd p q 40 ho base 28 i0 (.agg #[.int .i64 0, .int .i64 0, .string ByteArray.empty]) 3 32 Try.underlying40 hi hz0 hz1 hz2 rfl (by decide) v ls.length _ hs hown ⟨bk, off, none⟩ es.length cap (pcCells es) hq (pcCells_len es) ?_ (pcCells_one es) (by unfold maxLen; omega) (by omega) hb ?_
    · intro j x hx
      rw [Addr.add_lit]
      have hjl : j < es.length * 3 := by
        rcases Nat.lt_or_ge j (es.length * 3) with h' | h'
        · exact h'
        · rw [List.getElem?_eq_none (by rw [pcCells_len]; exact h')] at hx; cases hx
      obtain ⟨e, he⟩ : ∃ e, es[j / 3]? = some e := ⟨_, List.getElem?_eq_getElem (by omega)⟩
      obtain ⟨c0, c1, c2⟩ := hcell (j / 3) e he
      obtain ⟨d0, d1, d2⟩ := pcCells_at es (j / 3) e he
      have h3 : j % 3 = 0 ∨ j % 3 = 1 ∨ j % 3 = 2 := by omega
      rcases h3 with h3 | h3 | h3
      · have e1 : j = j / 3 * 3 := by omega
        rw [e1] at hx ⊢; rw [d0] at hx; rw [← Option.some.inj hx]; exact c0
      · have e1 : j = j / 3 * 3 + 1 := by omega
        rw [e1] at hx ⊢; rw [d1] at hx; rw [← Option.some.inj hx]; exact c1
      · have e1 : j = j / 3 * 3 + 2 := by omega
        rw [e1] at hx ⊢; rw [d2] at hx; rw [← Option.some.inj hx]; exact c2
    · intro v' w' hown' hg _
      refine h v' w' ?_ hg
      show World.ownsRow _ _ _ _ _ _ _
      rw [pcCells_app, List.length_append]; exact hown'
set_option maxHeartbeats 1000000 in
theorem GrowPc_any (N : Nat) (w : World) (hN : N ≤ 1000) :
    Calls Try.prog 61 #[.slice none 0 0, .int .i64 (N : Int)] w fun r w' => (∃ y, r = .returned y ∧ OwnP w' w.heap.size y []) ∧ Below w.heap.size w w' := by
  rcases Nat.eq_zero_or_pos N with rfl | h0
  · go_enter Try.func61, Try.ntmps61
    go_wp2
    go_ret
    exact ⟨⟨_, rfl, ownP_nil _ _⟩, Below.refl _ _⟩
  · obtain ⟨i0, hi, hz0, hz1, hz2⟩ := info_parts infoPc
    have hr := fun ty => Lib.run_append_nil_zeros (P := Try.prog) w 40 3 ty 28 i0 _ .i64 .i64 Try.underlying40 Try.underlying3 hi hz0 N h0 (by rw [hz1]; decide) (by omega) (by rw [hz2]; omega)
    have hge := grownCap_ge w N 0 28
    have hle := grownCap_le_maxLen w N 0 28 (by unfold maxLen; omega)
    obtain ⟨G, hG⟩ : ∃ G, G = grownCap w N 0 28 := ⟨_, rfl⟩
    rw [← hG] at hr hge hle
    obtain ⟨C, hC⟩ : ∃ C : Array Value, C = Builtin.zeroCells (Value.agg #[.int .i64 0, .int .i64 0, .string ByteArray.empty]).cells N ++ Builtin.zeroCells (Value.agg #[.int .i64 0, .int .i64 0, .string ByteArray.empty]).cells (G - N) := ⟨_, rfl⟩
    rw [← hC] at hr
    have hCs : C.size = G * 3 := by
      rw [hC]
      simp only [Array.size_append, size_zeroCells]
      show N * 3 + (G - N) * 3 = G * 3
      omega
    have HO : Hid (OwnP (w.drew.alloc (.cells C 28)) w.heap.size (.slice (some ⟨w.heap.size, 0, none⟩) 0 G) []) := by
      refine ⟨rfl, .inr ⟨w.heap.size, G, C, rfl, Nat.le_refl _, ?_, Nat.zero_le _, hle, hCs, rfl⟩⟩
      have := heap_alloc_new w.drew (.cells C 28)
      exact this
    have HB : Hid (Below w.heap.size w (w.drew.alloc (.cells C 28))) := below_step (below_drewN (Below.refl _ _) 1) (below_al _ _)
    have hNp : (0 : Int) < (N : Int) := by omega
    have hGz : (0 : Int) ≤ (G : Int) := by omega
    unfold maxLen at hle
    clear hG hC hCs
    go_enter Try.func61, Try.ntmps61
    go_wp2_with (at_builtin; refine Lib.wpList_append_run _ rfl _ _ _ _ rfl _ _ rfl rfl _ _ (hr _) ?_)
    go_ret
    exact ⟨⟨_, rfl, HO.out⟩, HB.out⟩
theorem OrI_any (v : Value) (x y : Int) (w : World) (h : IntsAt w v [x, y]) :
    Calls Try.prog 62 #[v] w fun r w' => r = .returned (.int .i64 (if x = 0 then y else x)) ∧ w = w' := by
  obtain ⟨bk, o, cap, rfl, hcap, hbk, hC⟩ := ints_block h (by simp)
  have c0 := hC 0 x rfl
  have c1 := hC 1 y rfl
  have hlen : ([x, y] : List Int).length = 2 := rfl
  rw [hlen] at hcap ⊢
  clear hC h hlen
  rw [Nat.add_zero] at c0
  by_cases hx : x = 0
  · rw [if_pos hx]
    subst hx
    by_cases hy : y = 0
    · subst hy
      go_enter Try.func62, Try.ntmps62
      go_wp2_with fail
      refine wp_loop_rounds 3 ?_
      rw [rounds_succ]
      go_wp2
      rw [rounds_succ]
      go_wp2
      rw [rounds_succ]
      go_wp2
      go_ret
      exact ⟨rfl, rfl⟩
    · go_enter Try.func62, Try.ntmps62
      go_wp2_with fail
      refine wp_loop_rounds 2 ?_
      rw [rounds_succ]
      go_wp2
      rw [rounds_succ]
      go_wp2
      go_ret
      exact ⟨rfl, rfl⟩
  · rw [if_neg hx]
    go_enter Try.func62, Try.ntmps62
    go_wp2_with fail
    refine wp_loop_rounds 1 ?_
    rw [rounds_succ]
    go_wp2
    go_ret
    exact ⟨rfl, rfl⟩
theorem or_lt {a b : List Pc} (ha : a.length ≤ 60) (hb : b.length ≤ 60) : ((if Lib.compareInt (Pl.untr a : Int) (Pl.untr b : Int) = 0 then Lib.compareInt (a.length : Int) (b.length : Int) else Lib.compareInt (Pl.untr a : Int) (Pl.untr b : Int)) < 0 ↔ Pl.costL a < Pl.costL b) := by
  rw [Pl.cost_lt ha hb]
  unfold Lib.compareInt
  by_cases h1 : (Pl.untr a : Int) < (Pl.untr b : Int)
  · simp only [if_pos h1]; constructor
    · intro _; left; omega
    · intro _; rw [if_neg (by decide)]; decide
  · by_cases h2 : (Pl.untr a : Int) > (Pl.untr b : Int)
    · simp only [if_neg h1, if_pos h2]; constructor
      · intro h; simp at h
      · intro h; omega
    · simp only [if_neg h1, if_neg h2, if_true]
      by_cases h3 : (a.length : Int) < (b.length : Int)
      · rw [if_pos h3]; constructor
        · intro _; right; omega
        · intro _; decide
      · rw [if_neg h3]; constructor
        · intro h; split at h <;> simp at h
        · intro h; omega
set_option maxHeartbeats 1000000 in
theorem compareCosts_any (v u : Value) (a b : List Pc) (w : World) (hv : PcsAt w v a) (hu : PcsAt w u b) (ha : a.length ≤ 60) (hb : b.length ≤ 60) :
    Calls Try.prog 50 #[v, u] w fun r w' => (∃ c : Int, r = .returned (.int .i64 c) ∧ (c < 0 ↔ Pl.costL a < Pl.costL b)) ∧ Below w.heap.size w w' := by
  have C1 := Lib.hid (fun w' hb => CountUntranslated_any v a w' (hv.below (w' := w') hb) (by omega))
  have C2 := Lib.hid (fun w' hb' => CountUntranslated_any u b w' (hu.below (w' := w') hb') (by omega))
  have CC := Lib.hid (fun x y w => Try.cmp_Compare_int x y w)
  have HO := Lib.hid (or_lt ha hb)
  obtain ⟨va, vc, rfl, hvc, _⟩ := pc_cells hv
  obtain ⟨ub, uc, rfl, huc, _⟩ := pc_cells hu
  obtain ⟨n, hnn⟩ : ∃ n, n = a.length := ⟨_, rfl⟩
  obtain ⟨m, hmm⟩ : ∃ n, n = b.length := ⟨_, rfl⟩
  obtain ⟨x, hx⟩ : ∃ n, n = Pl.untr a := ⟨_, rfl⟩
  obtain ⟨y, hy⟩ : ∃ n, n = Pl.untr b := ⟨_, rfl⟩
  rw [← hx, ← hy, ← hnn, ← hmm] at HO
  rw [← hnn] at C1 ha hvc ⊢
  rw [← hmm] at C2 hb huc ⊢
  rw [← hx] at C1
  rw [← hy] at C2
  obtain ⟨Q, hQ⟩ : ∃ Q : Prop, Q = (Pl.costL a < Pl.costL b) := ⟨_, rfl⟩
  rw [← hQ] at HO ⊢
  obtain ⟨p, hp⟩ : ∃ p : Int, p = Lib.compareInt (x : Int) (y : Int) := ⟨_, rfl⟩
  obtain ⟨q, hq⟩ : ∃ p : Int, p = Lib.compareInt (n : Int) (m : Int) := ⟨_, rfl⟩
  have CP := Lib.hid (fun w => CC.out (x : Int) (y : Int) w)
  have CQ := Lib.hid (fun w => CC.out (n : Int) (m : Int) w)
  rw [← hp] at CP HO
  rw [← hq] at CQ HO
  obtain ⟨Z, hZ⟩ : ∃ Z : Int, Z = (if p = 0 then q else p) := ⟨_, rfl⟩
  have co := fun w v h => OrI_any v p q w h
  simp only [← hZ] at co
  rw [← hZ] at HO
  have CO := Lib.hid co
  clear hv hu hnn hmm hx hy hQ hp hq CC co hZ
  go_enter Try.func50, Try.ntmps50
  go_wp2_with fail
  refine (C1.out w (Below.refl _ _)).mono ?_
  rintro r w1 ⟨rfl, hb1⟩
  have B1 := Lib.hid hb1
  clear hb1
  go_wp2_with fail
  refine (C2.out w1 B1.out).mono ?_
  rintro r w2 ⟨rfl, hb2⟩
  have B2 := Lib.hid (below_step B1.out hb2)
  clear hb2
  go_wp2_with fail
  refine (CP.out _).mono ?_
  rintro r w3 ⟨rfl, rfl⟩
  go_wp2_with fail
  refine (CQ.out _).mono ?_
  rintro r w4 ⟨rfl, rfl⟩
  have HI : Hid (IntsAt (w4.alloc (.cells #[.int .i64 p, .int .i64 q] 3)) (.slice (some ⟨w4.heap.size, 0, none⟩) 2 2) [p, q]) := by
    refine ⟨_, 2, rfl, Nat.le_refl _, .inr ⟨w4.heap.size, 0, rfl, by simp, fun j z hz => ?_⟩⟩
    match j, hz with
    | 0, hz => simp at hz; subst hz; rw [World.cell?_alloc_at _ _ _ _ rfl]; rfl
    | 1, hz => simp at hz; subst hz; rw [World.cell?_alloc_at _ _ _ _ rfl]; rfl
    | j + 2, hz => simp at hz
  have B4 := Lib.hid (below_step B2.out (below_al w4 (.cells #[.int .i64 p, .int .i64 q] 3)))
  go_wp2_with fail
  refine (CO.out _ _ HI.out).mono ?_
  rintro r w5 ⟨rfl, rfl⟩
  go_wp2
  go_ret
  exact ⟨⟨_, rfl, HO.out⟩, B4.out⟩
/-- A slice of slices of pieces: each with its value and its pieces. -/
def SlAt (w : World) (v : Value) (us : List (Value × List Pc)) : Prop :=
  (∃ (a : Option Addr) (cap : Nat), v = .slice a us.length cap ∧ us.length ≤ cap ∧ (us = [] ∨ ∃ bk o, a = some ⟨bk, o, none⟩ ∧ bk < w.heap.size ∧ ∀ (j : Nat) p, us[j]? = some p → w.cell? ⟨bk, o + j, none⟩ = some p.1)) ∧ ∀ p ∈ us, PcsM w p.1 p.2
theorem SlAt.cells {w : World} {v : Value} {us : List (Value × List Pc)} (h : SlAt w v us) : ∃ a cap, v = .slice a us.length cap ∧ us.length ≤ cap ∧ ∀ w', Below w.heap.size w w' → ∀ (j : Nat) p, us[j]? = some p → ∃ bk o, a = some ⟨bk, o, none⟩ ∧ w'.cell? ⟨bk, o + j, none⟩ = some p.1 ∧ PcsM w' p.1 p.2 := by
  obtain ⟨⟨a, cap, rfl, hc, hl⟩, hp⟩ := h
  refine ⟨a, cap, rfl, hc, fun w' hb j p hj => ?_⟩
  have hm := (hp p (List.mem_of_getElem? hj)).below hb
  rcases hl with rfl | ⟨bk, o, ha, hk, h⟩
  · simp at hj
  · exact ⟨bk, o, ha, (hb.cell (p := ⟨bk, o + j, none⟩) hk).trans (h j p hj), hm⟩
def flatU (us : List (Value × List Pc)) : List Pc := us.flatMap (·.2)
theorem flatU_next {us : List (Value × List Pc)} {k : Nat} {p : Value × List Pc} (h : us[k]? = some p) : flatU (us.take (k + 1)) = flatU (us.take k) ++ p.2 := by
  unfold flatU; rw [List.take_add_one, h]; simp
theorem flatU_take (us : List (Value × List Pc)) (k : Nat) : (flatU (us.take k)).length ≤ (flatU us).length := by
  unfold flatU
  conv => rhs; rw [← List.take_append_drop k us]
  rw [List.flatMap_append, List.length_append]; omega
set_option maxHeartbeats 2000000 in
theorem ConcatPc_any (v : Value) (us : List (Value × List Pc)) (w : World) (h : SlAt w v us) (hn : us.length ≤ 10) (hl : (flatU us).length ≤ 1000) :
    Calls Try.prog 48 #[v] w fun r w' => (∃ y, r = .returned y ∧ OwnP w' w.heap.size y (flatU us)) ∧ Below w.heap.size w w' := by
  obtain ⟨a, cap, rfl, hcap, hC⟩ := h.cells
  have HC := Lib.hid hC
  have HNx := Lib.hid (fun k p (h : us[k]? = some p) => flatU_next h)
  have HLe := Lib.hid (fun k => Nat.le_trans (flatU_take us k) hl)
  obtain ⟨n, hnn⟩ : ∃ n, n = us.length := ⟨_, rfl⟩
  have HE : Hid (flatU (us.take n) = flatU us) := by show _ = _; rw [hnn, List.take_length]
  have HN := Lib.hid hnn
  rw [← hnn] at hn hcap ⊢
  obtain ⟨F, hF⟩ : ∃ F : Nat → List Pc, F = fun k => flatU (us.take k) := ⟨_, rfl⟩
  have HNx' : Hid (∀ k p, us[k]? = some p → F (k + 1) = F k ++ p.2) := by rw [hF]; exact HNx.out
  have HLe' : Hid (∀ k, (F k).length ≤ 1000) := by rw [hF]; exact HLe.out
  have HE' : Hid (F n = flatU us) := by rw [hF]; exact HE.out
  have HF0 : Hid (F 0 = []) := by rw [hF]; rfl
  rw [← HE'.out]
  clear h hC hnn hl HNx HLe HE hF
  have CG := Lib.hid (fun N w hN => GrowPc_any N w hN)
  go_enter Try.func48, Try.ntmps48
  go_wp2_with fail
  go_loopw [3, 11] (fun z i wr => ∃ k : Nat, i = .int .i64 k ∧ k ≤ n ∧ z = .int .i64 ((F k).length : Int) ∧ w = wr) (fun _ i _ => n - (intOf i).toNat)
  case atStart => exact ⟨0, rfl, Nat.zero_le _, by rw [HF0.out]; rfl, rfl⟩
  case round =>
    obtain ⟨k, rfl, hk, rfl, rfl⟩ := hrel
    by_cases hlt : k < n
    · obtain ⟨p, hp⟩ : ∃ p, us[k]? = some p := ⟨_, List.getElem?_eq_getElem (by rw [← HN.out]; exact hlt)⟩
      obtain ⟨bk, o, rfl, g0, hm⟩ := HC.out w (Below.refl _ _) k p hp
      have hnx := HNx'.out k p hp
      have hle := HLe'.out k
      have hle1 := HLe'.out (k + 1)
      obtain ⟨x, es⟩ := p
      obtain ⟨xa, xc, hxe, hxc⟩ := hm.slice
      dsimp only at hxe
      subst hxe
      have hlen := congrArg List.length hnx
      rw [List.length_append] at hlen
      dsimp only at g0 hlen
      have HLn := Lib.hid hlen
      obtain ⟨A, hA⟩ : ∃ A, A = (F k).length := ⟨_, rfl⟩
      obtain ⟨B, hB⟩ : ∃ B, B = es.length := ⟨_, rfl⟩
      have HLn2 : Hid ((F (k + 1)).length = A + B) := by rw [hA, hB]; exact hlen
      have hAB : A + B ≤ 1000 := by have := HLn2.out; omega
      rw [← hA] at hle ⊢
      rw [← hB] at g0
      have hneg : ¬ (A : Int) + (B : Int) < 0 := by omega
      clear hp hnx hlen HLn hA hB hm HC HNx' HE' hle1 hxc
      go_wp2
      go_roundw
      case rel => exact ⟨k + 1, by go_num, by omega, by rw [HLn2.out]; go_num, by trivial⟩
      case measure => simp [intOf]; omega
    · obtain rfl : k = n := by omega
      have hle := HLe'.out k
      obtain ⟨A, hA⟩ : ∃ A, A = (F k).length := ⟨_, rfl⟩
      rw [← hA] at hle ⊢
      have CG1 := Lib.hid (CG.out A w hle)
      clear hA CG
      go_wp2_with fail
      refine CG1.out.mono ?_
      rintro r w1 ⟨⟨y, rfl, hy⟩, hb⟩
      have O1 : Hid (OwnP w1 w.heap.size y (F 0)) := by rw [HF0.out]; exact hy
      have B1 := Lib.hid hb
      clear hy hb CG1 HF0
      go_wp2_with fail
      go_loopw [6, 27] (fun y i wq => ∃ q : Nat, i = .int .i64 q ∧ q ≤ k ∧ Hid (OwnP wq w.heap.size y (F q)) ∧ Hid (Below w.heap.size w wq)) (fun _ i _ => k - (intOf i).toNat)
      case atStart => exact ⟨0, rfl, Nat.zero_le _, O1, B1⟩
      case round =>
        obtain ⟨q, rfl, hq, HO, HB⟩ := hrel
        by_cases hqk : q < k
        · obtain ⟨p, hp⟩ : ∃ p, us[q]? = some p := ⟨_, List.getElem?_eq_getElem (by rw [← HN.out]; exact hqk)⟩
          obtain ⟨bk, o, rfl, g0, hm⟩ := HC.out wr HB.out q p hp
          have hnx := HNx'.out q p hp
          have hle1 := HLe'.out (q + 1)
          have hle0 := HLe'.out q
          obtain ⟨x, es⟩ := p
          dsimp only at g0 hm hnx
          rw [hnx, List.length_append] at hle1
          have HM := Lib.hid hm
          have HX := Lib.hid hnx
          have hs : w.heap.size ≤ wr.heap.size := HB.out.size
          clear hp hnx hm HC HNx' HE' O1 B1
          go_wp2_with (at_builtin; refine app_pcs rfl _ _ rfl w.heap.size _ (F q) rfl HO.out x es rfl HM.out hs (by omega) (by omega) ?_)
          intro v' w3 hown hg
          have O3 : Hid (OwnP w3 w.heap.size v' (F (q + 1))) := by rw [HX.out]; exact hown
          have B3 := Lib.hid (HB.out.grown hg hs (fun j hj => row_ge HO.out hj))
          clear hown hg HO HB HM HX
          go_wp2
          go_roundw
          case rel => exact ⟨q + 1, by go_num, by omega, O3, B3⟩
          case measure => simp [intOf]; omega
        · obtain rfl : q = k := by omega
          clear HC HNx' HE' O1 B1
          go_wp2
          go_ret
          exact ⟨⟨_, rfl, HO.out⟩, HB.out⟩
theorem callCC (args : Array Value) (w : World) : (callFunc 50 args).run Try.prog w = .ok (.enter 50 args) w := by kernel_rfl
set_option maxHeartbeats 2000000 in
theorem MinPc_any (v : Value) (us : List (Value × List Pc)) (w : World) (h : SlAt w v us) (h0 : 0 < us.length) (hn : us.length ≤ 10) (hl : ∀ p ∈ us, p.2.length ≤ 60) :
    Calls Try.prog 49 #[v, .func (.func 50) #[] #[]] w fun r w' => (∃ p : Value × List Pc, r = .returned p.1 ∧ p ∈ us ∧ p.2 = Pl.minF (us.map (·.2))) ∧ Below w.heap.size w w' := by
  obtain ⟨a, cap, rfl, hcap, hC⟩ := h.cells
  have HC := Lib.hid hC
  have HL := Lib.hid hl
  obtain ⟨n, hnn⟩ : ∃ n, n = us.length := ⟨_, rfl⟩
  have HN := Lib.hid hnn
  rw [← hnn] at hn h0 hcap ⊢
  have HNx : Hid (∀ k p, 1 ≤ k → us[k]? = some p → Pl.minF ((us.map (·.2)).take (k + 1)) = if Pl.costL p.2 < Pl.costL (Pl.minF ((us.map (·.2)).take k)) then p.2 else Pl.minF ((us.map (·.2)).take k)) := by
    intro k p hk hp
    have hlt := (List.getElem?_eq_some_iff.1 hp).1
    rw [List.take_add_one, List.getElem?_map, hp]
    show Pl.minF (_ ++ [p.2]) = _
    rw [Pl.minF_snoc]
    intro e
    have := congrArg List.length e
    rw [List.length_take, List.length_map] at this
    have h2 : ([] : List (List Pc)).length = 0 := rfl
    omega
  have HEnd : Hid (Pl.minF ((us.map (·.2)).take n) = Pl.minF (us.map (·.2))) := by show _ = _; rw [hnn, List.take_of_length_le (by rw [List.length_map]; exact Nat.le_refl _)]
  have H1 : Hid (∀ p, us[0]? = some p → Pl.minF ((us.map (·.2)).take 1) = p.2) := by
    intro p hp
    rw [show (1 : Nat) = 0 + 1 from rfl, List.take_add_one, List.getElem?_map, hp]; rfl
  obtain ⟨M, hM⟩ : ∃ M : Nat → List Pc, M = fun k => Pl.minF ((us.map (·.2)).take k) := ⟨_, rfl⟩
  have HNx' : Hid (∀ k p, 1 ≤ k → us[k]? = some p → M (k + 1) = if Pl.costL p.2 < Pl.costL (M k) then p.2 else M k) := by rw [hM]; exact HNx.out
  have H1' : Hid (∀ p, us[0]? = some p → M 1 = p.2) := by rw [hM]; exact H1.out
  have HEnd' : Hid (M n = Pl.minF (us.map (·.2))) := by rw [hM]; exact HEnd.out
  rw [← HEnd'.out]
  clear h hC hnn hl HNx HEnd H1 hM
  have hcall := callCC
  obtain ⟨p0, hp0⟩ : ∃ p, us[0]? = some p := ⟨_, List.getElem?_eq_getElem (by rw [← HN.out]; exact h0)⟩
  obtain ⟨gk, go, rfl, g0, hm0⟩ := HC.out w (Below.refl _ _) 0 p0 hp0
  have HP0 := Lib.hid hp0
  have HM1 := Lib.hid (H1'.out p0 hp0)
  rw [Nat.add_zero] at g0
  have hn1 : ¬ (n : Int) < 1 := by omega
  clear hp0 hm0
  go_enter Try.func49, Try.ntmps49
  go_wp2_with fail
  go_loopw [5, 6] (fun m i wr => ∃ (k : Nat) (p : Value × List Pc) (j : Nat), i = .int .i64 k ∧ m = p.1 ∧ 1 ≤ k ∧ k ≤ n ∧ Hid (us[j]? = some p) ∧ Hid (p.2 = M k) ∧ Hid (Below w.heap.size w wr)) (fun _ i _ => n - (intOf i).toNat)
  case atStart => exact ⟨1, p0, 0, rfl, rfl, Nat.le_refl _, h0, HP0, HM1.out.symm, Below.refl _ _⟩
  case round =>
    obtain ⟨k, p, j, rfl, hpm, hk1, hk, HPj, HMk, HB⟩ := hrel
    by_cases hlt : k < n
    · obtain ⟨e, he⟩ : ∃ e, us[k]? = some e := ⟨_, List.getElem?_eq_getElem (by rw [← HN.out]; exact hlt)⟩
      obtain ⟨bk', o', hbo, g1, hm1⟩ := HC.out wr HB.out k e he
      have hm2 : PcsM wr p.1 p.2 := by
        obtain ⟨_, _, _, _, h⟩ := HC.out wr HB.out j p HPj.out
        exact h
      injection hbo with hbo
      injection hbo with hb1 hb2
      rw [← hb1, ← hb2] at g1
      clear hb1 hb2
      have hnx := HNx'.out k e hk1 he
      have hle := HL.out e (List.mem_of_getElem? he)
      have hlp := HL.out p (List.mem_of_getElem? HPj.out)
      have CCo := Lib.hid (compareCosts_any e.1 p.1 e.2 p.2 wr hm1.at hm2.at hle hlp)
      have HE := Lib.hid he
      rw [← HMk.out] at hnx
      have HX := Lib.hid hnx
      obtain ⟨ex, ees⟩ := e
      obtain ⟨px, pes⟩ := p
      dsimp only at g1 hpm CCo HX
      subst hpm
      clear he hnx hm1 hm2 HC HNx' H1' HEnd' HP0 HM1 g0 hle hlp
      go_wp2_with fail
      refine CCo.out.mono ?_
      rintro r w3 ⟨⟨c, rfl, hc⟩, hb⟩
      have B3 := Lib.hid (below_step HB.out hb)
      have g3 := (hb.cell (p := ⟨gk, go + k, none⟩) (lt_of_cell g1)).trans g1
      by_cases hc0 : c < 0
      · have HM2 : Hid (ees = M (k + 1)) := by show _ = _; rw [HX.out, if_pos (hc.1 hc0)]
        clear hb hc HX CCo HB g1
        go_wp2
        go_roundw
        case rel => exact ⟨k + 1, (ex, ees), k, by go_num, rfl, by omega, by omega, HE, HM2, B3⟩
        case measure => simp [intOf]; omega
      · have HM2 : Hid (pes = M (k + 1)) := by show _ = _; rw [HX.out, if_neg (fun h => hc0 (hc.2 h))]
        clear hb hc HX CCo HB g1
        go_wp2
        go_roundw
        case rel => exact ⟨k + 1, (_, pes), j, by go_num, rfl, by omega, by omega, HPj, HM2, B3⟩
        case measure => simp [intOf]; omega
    · obtain rfl : k = n := by omega
      obtain ⟨px, pes⟩ := p
      dsimp only at hpm HMk
      subst hpm
      have HPm := Lib.hid (List.mem_of_getElem? HPj.out)
      clear HC HNx' H1' HEnd' HP0 HM1 g0
      go_wp2
      go_ret
      exact ⟨⟨(_, pes), rfl, HPm.out, HMk.out⟩, HB.out⟩
end Go.Proofs.Ythigdblloddepaa

namespace Go.Proofs.Ythigdblloddepaa
set_option maxRecDepth 100000
open Go.RowKit

theorem infoSl : (Try.prog.info? 40).map (fun i => (i.zero, i.size, i.bytes)) = some (some (.slice none 0 0), 1, 24) := by kernel_rfl
/-- An own row of slices of pieces. -/
abbrev OwnSl (w : World) (base : Nat) (v : Value) (us : List (Value × List Pc)) : Prop := w.ownsRow base 40 1 v us.length (us.map (·.1))
theorem ownSl_at {w : World} {base : Nat} {v : Value} {us : List (Value × List Pc)} (h : OwnSl w base v us) (hp : ∀ p ∈ us, PcsM w p.1 p.2) : SlAt w v us := by
  refine ⟨?_, hp⟩
  rcases h.2 with ⟨rfl, h0⟩ | ⟨g, cap, cur, rfl, hb, hg, hn, _, hsz, htake⟩
  · exact ⟨none, 0, by rw [h0], by rw [h0]; exact Nat.le_refl _, .inl (List.length_eq_zero_iff.1 h0)⟩
  · have hlt : g < w.heap.size := (Array.getElem?_eq_some_iff.1 hg).1
    refine ⟨_, cap, rfl, hn, .inr ⟨g, 0, rfl, hlt, fun j p hj => ?_⟩⟩
    have hjl := (List.getElem?_eq_some_iff.1 hj).1
    have h1 : (cur.toList.take (us.length * 1))[j]? = some p.1 := by rw [htake, List.getElem?_map, hj]; rfl
    rw [List.getElem?_take_of_lt (by omega)] at h1
    simp only [Array.getElem?_toList] at h1
    rw [Nat.zero_add]
    simp [World.cell?, hg, h1]
theorem ownSl_lt {w : World} {base : Nat} {v : Value} {us : List (Value × List Pc)} (h : OwnSl w base v us) {j : Nat} (hj : v.ownBlock = some j) : j < w.heap.size := by
  rcases h.2 with ⟨rfl, _⟩ | ⟨g, cap, cur, rfl, _, hg, _⟩
  · simp [Value.ownBlock] at hj
  · have : g = j := by simpa [Value.ownBlock] using hj
    rw [← this]; exact (Array.getElem?_eq_some_iff.1 hg).1
/-- One slice appended to an own row of slices. -/
theorem push_sl {ops : Array Oper} {rest : List Oper} {o : Oper} {a : Act} {w : World} {Q : Exit → Act → World → Prop}
    (hgd : o.guard = none) (p q : Operand) (ho : o.op = .call { callee := .builtin .append, args := #[p, q], argTypes := #[79, 79] }) (base : Nat) (v : Value) (us : List (Value × List Pc)) (hs : a.eval p = v) (hown : OwnSl w base v us)
    (x : Value × List Pc) (h1c : x.1.oneCell' = true) (hq : a.eval q = .slice (some ⟨w.heap.size, 0, none⟩) 1 1) (hb : base ≤ w.heap.size) (h1 : us.length ≤ 4194304)
    (h : ∀ v' w', OwnSl w' base v' (us ++ [x]) → w.grownBy w' v.ownBlock → (v'.ownBlock = v.ownBlock ∨ v'.ownBlock = some (w.heap.size + 1)) → wpList Try.prog ops Q rest (a.put o.dst v') w') : wpList Try.prog ops Q (o :: rest) a (w.alloc (.cells #[x.1] 40)) := by
  obtain ⟨i0, hi, hz0, hz1, hz2⟩ := info_parts infoSl
  refine wpList_append_own_at _ hgd p q 79 ho base 40 i0 (.slice none 0 0) 1 24 Try.underlying79 hi hz0 hz1 hz2 rfl (by decide) v us.length _ hs (hown.alloc _) ⟨w.heap.size, 0, none⟩ 1 1 [x.1] hq rfl (cell_one_new _ _ _) ?_ (by unfold maxLen; omega) (by omega) (by simp; omega) ?_
  · intro y hy; simp at hy; subst hy; exact h1c
  · intro v' w' hown' hg _ hat
    refine h v' w' ?_ ⟨hg.os, hg.tape, hg.output, Nat.le_trans (by simp) hg.size, fun k hk hne => (hg.block k (by rw [World.size_alloc]; omega) hne).trans (Below.heap_alloc w _ k hk)⟩ ?_
    · show World.ownsRow _ _ _ _ _ _ _
      rw [List.length_append, List.map_append]; exact hown'
    · rcases hat with h2 | h2
      · exact .inl h2
      · exact .inr (by rw [h2, World.size_alloc])
/-- Block g holds N values, none frozen. -/
def RwV (w : World) (g N : Nat) (f : Nat → Value) : Prop := g < w.heap.size ∧ (∀ j, j < N → w.cell? ⟨g, j, none⟩ = some (f j)) ∧ ∀ j, w.frozen? ⟨g, j, none⟩ = false
theorem RwV.below {w w' : World} {g N : Nat} {f : Nat → Value} {B : Nat} (h : RwV w g N f) (hb : Below B w w') (hg : g < B) : RwV w' g N f :=
  ⟨Nat.lt_of_lt_of_le h.1 hb.size, fun j hj => (hb.cell (p := ⟨g, j, none⟩) hg).trans (h.2.1 j hj), fun j => (hb.frozen (p := ⟨g, j, none⟩) hg).trans (h.2.2 j)⟩
theorem RwV.set {w : World} {g N : Nat} {f : Nat → Value} (h : RwV w g N f) (k : Nat) (hk : k < N) (x : Value) : RwV (w.setCell ⟨g, k, none⟩ x) g N (fun j => if j = k then x else f j) := by
  refine ⟨by rw [World.size_setCell]; exact h.1, fun j hj => ?_, fun j => by rw [World.frozen?_setCell]; exact h.2.2 j⟩
  by_cases hjk : j = k
  · subst hjk; simp only [if_true]; exact World.cell?_setCell_same _ _ _ (h.2.1 j hj)
  · dsimp only
    rw [World.cell?_setCell_other _ _ _ _ (by intro e; injection e; omega), if_neg hjk]; exact h.2.1 j hj
theorem mk_sls (n : Nat) (hn : n ≤ 1000) (w : World) :
    (Instr.makeSlice 79 (.int .i64 ((n : Int) + 1)) (.int .i64 ((n : Int) + 1))).run Try.prog w = .ok (.slice (some ⟨w.heap.size, 0, none⟩) (n + 1) (n + 1)) (w.alloc (.cells (madeCells #[.slice none 0 0] (n + 1)) 40)) := by
  obtain ⟨i, hi, hzz⟩ := Option.map_eq_some_iff.1 infoSl
  simp only [Prod.mk.injEq] at hzz
  obtain ⟨hz, hs, hb⟩ := hzz
  have hr := run_make (P := Try.prog) w 79 40 i _ Try.underlying79 hi hz .i64 .i64 ((n : Int) + 1) ((n : Int) + 1) (by omega) (Int.le_refl _) (by rw [hb]; omega) (by omega)
  rw [show ((n : Int) + 1).toNat = n + 1 by omega, hs, Nat.mul_one] at hr
  exact hr
theorem made_sls (w : World) (N : Nat) : RwV (w.alloc (.cells (madeCells #[.slice none 0 0] N) 40)) w.heap.size N (fun _ => .slice none 0 0) := by
  refine ⟨by rw [World.size_alloc]; omega, fun j hj => ?_, fun j => World.frozen?_alloc_at _ _ _ _ rfl⟩
  rw [World.cell?_alloc_at _ _ _ _ rfl]
  simp [madeCells, hj, Nat.mod_one]
theorem grown_setV (w : World) (g o : Nat) (v : Value) : w.grownBy (w.setCell ⟨g, o, none⟩ v) (some g) := ⟨rfl, rfl, rfl, by rw [World.size_setCell]; exact Nat.le_refl _, fun k _ hk => Below.heap_setCell _ _ _ _ (fun e => hk (by rw [e]))⟩
theorem ownP_setV {w : World} {base g o : Nat} {v x : Value} {ls : List Pc} (h : OwnP w base v ls) (hg : g < base) : OwnP (w.setCell ⟨g, o, none⟩ x) base v ls :=
  h.kept (grown_setV w g o x) (by
    cases hv : v.ownBlock with
    | none => exact .inl rfl
    | some j => right; intro e; injection e with e; have := row_ge h hv; omega)
theorem pair_at (W : World) (e : Pc) (s2 : Value) (es : List Pc) (h : PcsM W s2 es) :
    SlAt ((W.alloc (.cells #[.int .i64 e.1, .int .i64 e.2.1, .string e.2.2] 28)).alloc (.cells #[.slice (some ⟨W.heap.size, 0, none⟩) 1 1, s2] 40)).drew (.slice (some ⟨W.heap.size + 1, 0, none⟩) 2 2) [(.slice (some ⟨W.heap.size, 0, none⟩) 1 1, [e]), (s2, es)] := by
  have hb1 := below_al W (.cells #[.int .i64 e.1, .int .i64 e.2.1, .string e.2.2] 28)
  obtain ⟨X, hX⟩ : ∃ X, X = W.alloc (.cells #[.int .i64 e.1, .int .i64 e.2.1, .string e.2.2] 28) := ⟨_, rfl⟩
  have hXs : X.heap.size = W.heap.size + 1 := by rw [hX, World.size_alloc]
  have hPB : PcB X W.heap.size e := by rw [hX]; exact PcB.new W e
  rw [← hX] at hb1 ⊢
  have hb2 := below_al X (.cells #[.slice (some ⟨W.heap.size, 0, none⟩) 1 1, s2] 40)
  have hb3 : Below X.heap.size X (X.alloc (.cells #[.slice (some ⟨W.heap.size, 0, none⟩) 1 1, s2] 40)).drew := below_drewN hb2 1
  have hnew := heap_alloc_new X (.cells #[.slice (some ⟨W.heap.size, 0, none⟩) 1 1, s2] 40)
  have hlt : W.heap.size + 1 < (X.alloc (.cells #[.slice (some ⟨W.heap.size, 0, none⟩) 1 1, s2] 40)).drew.heap.size := by
    show _ < (X.alloc _).heap.size
    rw [World.size_alloc, hXs]; omega
  refine ⟨⟨_, 2, rfl, Nat.le_refl _, .inr ⟨W.heap.size + 1, 0, rfl, hlt, fun j p hj => ?_⟩⟩, fun p hp => ?_⟩
  · have hc : ∀ q x, (#[.slice (some ⟨W.heap.size, 0, none⟩) 1 1, s2] : Array Value)[q]? = some x → (X.alloc (.cells #[.slice (some ⟨W.heap.size, 0, none⟩) 1 1, s2] 40)).drew.cell? ⟨W.heap.size + 1, 0 + q, none⟩ = some x := by
      intro q x hq
      show (X.alloc _).cell? _ = _
      rw [← hXs, World.cell?_alloc_at _ _ _ _ rfl, Nat.zero_add]
      exact hq
    match j, hj with
    | 0, hj => simp at hj; subst hj; exact hc 0 _ rfl
    | 1, hj => simp at hj; subst hj; exact hc 1 _ rfl
    | j + 2, hj => simp at hj
  · simp at hp
    rcases hp with rfl | rfl
    · refine .inr ⟨W.heap.size, 0, 1, rfl, Nat.le_refl _, by omega, fun j x hx => ?_⟩
      match j, hx with
      | 0, hx =>
        simp at hx; subst hx
        obtain ⟨c0, c1, c2⟩ := hPB.cells
        exact ⟨(hb3.cell (p := ⟨W.heap.size, 0, none⟩) (by show W.heap.size < X.heap.size; omega)).trans c0, (hb3.cell (p := ⟨W.heap.size, 1, none⟩) (by show W.heap.size < X.heap.size; omega)).trans c1, (hb3.cell (p := ⟨W.heap.size, 2, none⟩) (by show W.heap.size < X.heap.size; omega)).trans c2⟩
      | j + 1, hx => simp at hx
    · exact h.below (below_step hb1 hb3)
theorem fw_len (es : List Ent) (xs : List Int) : (if sgB es xs = true then Pl.opt es xs 0 else []).length ≤ 60 := by
  split
  · rename_i h
    have h1 := (sgB_parts h).2.1
    have h2 := Pl.opt_len es xs 0
    omega
  · exact Nat.zero_le _
/-- The pieces at i, each with the best behind it. -/
def cands (es : List Ent) (xs : List Int) (i : Nat) : List (List Pc) := (Pl.allPs es xs i).map fun p => p :: Pl.opt es xs (i + p.2.1.toNat)
set_option maxHeartbeats 8000000 in
theorem FewestPieces_any (v : Value) (es : List Ent) (u : Value) (xs : List Int) (w : World) (h : EntsAt w v es) (hu : IntsAt w u xs) (hn : es.length ≤ 2097152) (hx : ∀ e ∈ es, entOk e) (hxn : xs.length ≤ 2097152) :
    Calls Try.prog 30 #[dV v, u] w fun r w' => (∃ y, r = .returned (.tuple #[y, .bool (sgB es xs)]) ∧ OwnP w' w.heap.size y (if sgB es xs = true then Pl.opt es xs 0 else [])) ∧ Below w.heap.size w w' := by
  have cm := fun w' hb => matcherOf_any v es u xs w' (h.below (w' := w') hb) (hu.below hb) hn hx hxn
  have HP := Lib.hid (fun (h : sgB es xs = true) => sgB_parts h)
  have CP := Lib.hid (fun b (i : Nat) w' hb hm hok hs h60 (hi : i < xs.length) => (allX_in (es := es) hi) ▸ piecesAt_any b es u xs (i : Int) w' hm hok (hu.below (w := w) hb) hs h60)
  have CC := Lib.hid (fun v us w h hn hl => ConcatPc_any v us w h hn hl)
  have CMin := Lib.hid (fun v us w h h0 hn hl => MinPc_any v us w h h0 hn hl)
  obtain ⟨a, cap, rfl, hcap, _⟩ := h.cells
  obtain ⟨ua, uc, rfl, huc, _⟩ := hu.cells
  obtain ⟨n, hnn⟩ : ∃ n, n = xs.length := ⟨_, rfl⟩
  obtain ⟨dn, hdn⟩ : ∃ n, n = es.length := ⟨_, rfl⟩
  have HMinO := Lib.hid (fun i (hi : i < xs.length) => Pl.opt_min (es := es) hi)
  have HCnt := Lib.hid (fun i (hi : i < xs.length) p (hp : p ∈ Pl.allPs es xs i) => Pl.allPs_cnt hi hp)
  have HOl := Lib.hid (fun i => Pl.opt_len es xs i)
  have HOe : Hid (Pl.opt es xs n = []) := by show _ = _; rw [hnn]; exact Pl.opt_end es xs
  have HAl := Lib.hid (fun i => show 0 < (Pl.allPs es xs i).length ∧ (Pl.allPs es xs i).length ≤ 7 from by
    unfold Pl.allPs
    rw [List.length_append, List.length_singleton]
    have := Pl.fdPs_len es xs i (Pl.capN xs i)
    unfold Pl.capN at this ⊢
    omega)
  rw [← hnn] at cm huc HP CP HMinO HCnt HOl hxn ⊢
  unfold dV at cm ⊢
  rw [← hdn] at cm hcap ⊢
  have BX := Lib.hid (below_al w (.cells #[.slice a dn cap] 33))
  clear h hu hnn hdn hx hn
  obtain ⟨bS, hbS⟩ : ∃ b, b = sgB es xs := ⟨_, rfl⟩
  rw [← hbS] at HP ⊢
  simp only [← hbS] at cm
  have CM := Lib.hid cm
  clear cm hbS
  go_enter Try.func30, Try.ntmps30
  cases bS
  · clear HP CP CC CMin HMinO HCnt HOl HOe HAl
    go_wp2_with fail
    refine (CM.out _ BX.out).mono ?_
    rintro r w1 ⟨⟨mv, rfl, h1, _⟩, hb⟩
    have B1 := Lib.hid (below_step BX.out hb)
    obtain ⟨hm1, _, hm3⟩ := mt_box w1 mv (.slice ua n uc)
    have B2 := Lib.hid (below_step B1.out hm1)
    have HM3 := Lib.hid hm3
    have HNil := Lib.hid (fun W => ownP_nil W w.heap.size)
    clear hb CM hm1 hm3
    go_wp2_with (with_reducible (show wpList _ _ _ (_ :: _) _ _); refine mt_store rfl _ _ rfl w1.heap.size mv (.slice ua n uc) _ _ h1 rfl rfl rfl HM3.out ?_)
    go_ret2
    exact ⟨⟨_, rfl, HNil.out _⟩, B2.out⟩
  · obtain ⟨hok, h60, hst⟩ := HP.out (by first | rfl | trivial)
    simp only [if_true]
    obtain ⟨A, hA⟩ : ∃ A : Nat → List Pc, A = fun i => Pl.allPs es xs i := ⟨_, rfl⟩
    obtain ⟨O, hO⟩ : ∃ O : Nat → List Pc, O = fun i => Pl.opt es xs i := ⟨_, rfl⟩
    have CP1 : Hid (∀ b i w', Below w.heap.size w w' → MapB w' b es → i < n → Calls Try.prog 38 #[mtV b (.slice ua n uc), .int .i64 (i : Int)] w' fun r w'' => (∃ y, r = .returned y ∧ OwnP w'' w'.heap.size y (A i)) ∧ Below w'.heap.size w' w'') := by rw [hA]; exact fun b i w' hb hm hi => CP.out b i w' hb hm hok hst h60 hi
    have HMin1 : Hid (∀ i, i < n → O i = Pl.minF ((A i).map fun p => p :: O (i + p.2.1.toNat))) := by rw [hA, hO]; exact HMinO.out
    have HCnt1 : Hid (∀ i, i < n → ∀ p ∈ A i, ∃ c : Nat, p.2.1 = (c : Int) ∧ 1 ≤ c ∧ c ≤ 6 ∧ i + c ≤ n ∧ p.1 = (i : Int)) := by rw [hA]; exact HCnt.out
    have HOl1 : Hid (∀ i, (O i).length ≤ n - i) := by rw [hO]; exact HOl.out
    have HOe1 : Hid (O n = []) := by rw [hO]; exact HOe.out
    have HAl1 : Hid (∀ i, 0 < (A i).length ∧ (A i).length ≤ 7) := by rw [hA]; exact HAl.out
    have HO0 : Hid (Pl.opt es xs 0 = O 0) := by rw [hO]; rfl
    rw [HO0.out]
    clear hA hO CP HMinO HCnt HOl HOe HAl HO0 HP hok hst
    go_wp2_with fail
    refine (CM.out _ BX.out).mono ?_
    rintro r w1 ⟨⟨mv, rfl, h1, hm⟩, hb⟩
    obtain ⟨b, rfl, hbb, hMb⟩ := hm (by first | rfl | trivial)
    have B1 := Lib.hid (below_step BX.out hb)
    obtain ⟨hm1, hm2, hm3⟩ := mt_box w1 (.map (some b)) (.slice ua n uc)
    have hmk := fun w => mk_sls n (by omega) w
    have hmd := made_sls ((w1.alloc (.cells #[.map none, .slice none 0 0] 64)).setRow w1.heap.size #[.map (some b), .slice ua n uc]) (n + 1)
    have hsz : ((w1.alloc (.cells #[.map none, .slice none 0 0] 64)).setRow w1.heap.size #[.map (some b), .slice ua n uc]).heap.size = w1.heap.size + 1 := by rw [setRow_size, World.size_alloc]
    have hal := below_al ((w1.alloc (.cells #[.map none, .slice none 0 0] 64)).setRow w1.heap.size #[.map (some b), .slice ua n uc]) (.cells (madeCells #[.slice none 0 0] (n + 1)) 40)
    rw [hsz] at hmd
    have hBm : Below w1.heap.size w1 (((w1.alloc (.cells #[.map none, .slice none 0 0] 64)).setRow w1.heap.size #[.map (some b), .slice ua n uc]).alloc (.cells (madeCells #[.slice none 0 0] (n + 1)) 40)) := below_step hm1 hal
    have B2 := Lib.hid (below_step B1.out hBm)
    have M2 := Lib.hid (show MapB (((w1.alloc (.cells #[.map none, .slice none 0 0] 64)).setRow w1.heap.size #[.map (some b), .slice ua n uc]).alloc (.cells (madeCells #[.slice none 0 0] (n + 1)) 40)) b es from MapB.below hMb hBm)
    have T2 : Hid (MtB (((w1.alloc (.cells #[.map none, .slice none 0 0] 64)).setRow w1.heap.size #[.map (some b), .slice ua n uc]).alloc (.cells (madeCells #[.slice none 0 0] (n + 1)) 40)) w1.heap.size b (.slice ua n uc)) := MtB.below (show MtB ((w1.alloc (.cells #[.map none, .slice none 0 0] 64)).setRow w1.heap.size #[.map (some b), .slice ua n uc]) w1.heap.size b (.slice ua n uc) from hm2) hal (by rw [hsz]; omega)
    have R2 := Lib.hid hmd
    have HM3 := Lib.hid hm3
    have hw1 : w.heap.size + 1 ≤ w1.heap.size := by have := hb.size; simp at this; omega
    obtain ⟨W2, hW2⟩ : ∃ W, W = ((w1.alloc (.cells #[.map none, .slice none 0 0] 64)).setRow w1.heap.size #[.map (some b), .slice ua n uc]).alloc (.cells (madeCells #[.slice none 0 0] (n + 1)) 40) := ⟨_, rfl⟩
    have HW2 := Lib.hid hW2
    rw [← hW2] at B2 M2 T2 R2
    have HSz := Lib.hid hsz
    have HBb : Hid (b < w1.heap.size) := hMb.lt
    clear hb CM hm1 hm2 hm3 hm hMb hbb hmd hal hBm hW2 hsz
    go_wp2_with (with_reducible (show wpList _ _ _ (_ :: _) _ _); refine mt_store rfl _ _ rfl w1.heap.size (.map (some b)) (.slice ua n uc) _ _ rfl rfl rfl rfl HM3.out ?_)
    clear hmk
    rw [← HW2.out]
    go_loopw [9] (fun i wr => ∃ (m : Nat) (z : Int) (vs : Nat → Value), i = .int .i64 z ∧ z = (m : Int) - 1 ∧ m ≤ n ∧ Hid (RwV wr (w1.heap.size + 1) (n + 1) vs) ∧ Hid (∀ j, m ≤ j → j ≤ n → OwnP wr (w1.heap.size + 2) (vs j) (O j)) ∧ Hid (MtB wr w1.heap.size b (.slice ua n uc)) ∧ Hid (MapB wr b es) ∧ Hid (Below w.heap.size w wr)) (fun i _ => (intOf i + 1).toNat)
    case atStart =>
      refine ⟨n, _, _, rfl, rfl, Nat.le_refl _, R2, Lib.hid (fun j h1 h2 => ?_), T2, M2, B2⟩
      obtain rfl : j = n := by omega
      rw [HOe1.out]; exact ownP_nil _ _
    case round =>
      obtain ⟨m, z, vs, rfl, hz, hm, HR, HV, HT, HMp, HBr⟩ := hrel
      clear R2 T2 M2 B2 HW2 HM3 HSz B1 BX
      cases m with
      | zero =>
        obtain rfl : z = -1 := by omega
        clear hz
        have g0 := HR.out.2.1 0 (by omega)
        have OF := Lib.hid (ownsRow_mono (HV.out 0 (Nat.le_refl _) (Nat.zero_le _)) (by omega : w.heap.size ≤ w1.heap.size + 2))
        clear CC CMin CP1 HMin1 HCnt1 HOl1 HOe1 HAl1 HV
        go_wp2
        go_ret2
        exact ⟨⟨_, rfl, OF.out⟩, HBr.out⟩
      | succ i =>
        obtain rfl : z = (i : Int) := by omega
        clear hz
        have hin : i < n := by omega
        have CP2 := Lib.hid (CP1.out b i wr HBr.out HMp.out hin)
        obtain ⟨t0, t1⟩ := HT.out.cells
        clear CP1
        go_wp2_with fail
        refine CP2.out.mono ?_
        rintro r w3 ⟨⟨y, rfl, hy⟩, hb⟩
        have Y3 := Lib.hid (ownP_at hy)
        have R3 := Lib.hid (HR.out.below hb HR.out.1)
        have V3 := Lib.hid (fun j h1 h2 => (HV.out j h1 h2).below' hb)
        have T3 := Lib.hid (HT.out.below hb HT.out.lt)
        have M3 := Lib.hid (show MapB w3 b es from MapB.below HMp.out hb)
        have B3 := Lib.hid (below_step HBr.out hb)
        have hRl := R3.out.1
        have hAl := HAl1.out i
        obtain ⟨al, hal⟩ : ∃ al, al = (A i).length := ⟨_, rfl⟩
        have HAL := Lib.hid hal
        obtain ⟨ya, yc, rfl, hyc, hYC⟩ := pc_cells Y3.out
        have HYC := Lib.hid hYC
        rw [← hal] at hAl hyc ⊢
        clear hb hy HR HV HT HMp HBr CP2 t0 t1 hal hYC
        go_wp2_with fail
        go_loopw [10, 36] (fun x k wq => ∃ (q : Nat) (us : List (Value × List Pc)), k = .int .i64 q ∧ q ≤ al ∧ Hid (OwnSl wq w3.heap.size x us) ∧ Hid (∀ p ∈ us, OwnP wq w3.heap.size p.1 p.2 ∧ ∀ g, p.1.ownBlock = some g → x.ownBlock ≠ some g) ∧ Hid (us.map (·.2) = ((A i).take q).map fun p => p :: O (i + p.2.1.toNat)) ∧ Hid (Below w3.heap.size w3 wq)) (fun _ k _ => al - (intOf k).toNat)
        case atStart => exact ⟨0, [], rfl, Nat.zero_le _, ⟨rfl, .inl ⟨rfl, rfl⟩⟩, Lib.hid (fun p hp => by cases hp), Lib.hid rfl, Below.refl _ _⟩
        case round =>
          obtain ⟨q, us, rfl, hq, HS, HU, HE, HB⟩ := hrel
          have husl : us.length ≤ 7 := by
            have h1 := congrArg List.length HE.out
            rw [List.length_map, List.length_map, List.length_take] at h1
            omega
          by_cases hqa : q < al
          · obtain ⟨e, he⟩ : ∃ e, (A i)[q]? = some e := ⟨_, List.getElem?_eq_getElem (by rw [← HAL.out]; exact hqa)⟩
            obtain ⟨bk, o, rfl, g0, g1, g2⟩ := HYC.out wr HB.out q e he
            obtain ⟨c, hc, hc1, hc6, hcn, hfi⟩ := HCnt1.out i hin e (List.mem_of_getElem? he)
            have HEn : Hid (((A i).take (q + 1)).map (fun p => p :: O (i + p.2.1.toNat)) = us.map (·.2) ++ [e :: O (i + c)]) := by
              show _ = _
              rw [List.take_add_one, he, List.map_append, HE.out]
              simp [hc]
            obtain ⟨f, c', t⟩ := e
            dsimp only at hc hfi g0 g1 g2
            subst hc
            subst hfi
            have hol := HOl1.out (i + c)
            have hal := below_al wr (.cells #[.int .i64 (i : Int), .int .i64 (c : Int), .string t] 28)
            have hw3 : w3.heap.size ≤ wr.heap.size := HB.out.size
            have HBW := Lib.hid (HB.out.trans (hal.mono hw3))
            have PW := Lib.hid (show PcB (wr.alloc (.cells #[.int .i64 (i : Int), .int .i64 (c : Int), .string t] 28)) wr.heap.size ((i : Int), (c : Int), t) from PcB.new wr ((i : Int), (c : Int), t))
            have RW := Lib.hid (R3.out.below HBW.out hRl)
            have VW := Lib.hid (ownP_m ((V3.out (i + c) (by omega) hcn).below' HBW.out))
            have SW : Hid (OwnSl (wr.alloc (.cells #[.int .i64 (i : Int), .int .i64 (c : Int), .string t] 28)) w3.heap.size u10 us) := HS.out.kept (row := none) ⟨hal.os, hal.tape, hal.output, hal.size, fun k hk _ => hal.block k hk⟩ (by cases hv : Value.ownBlock u10 <;> simp)
            have UW : Hid (∀ p ∈ us, OwnP (wr.alloc (.cells #[.int .i64 (i : Int), .int .i64 (c : Int), .string t] 28)) w3.heap.size p.1 p.2 ∧ ∀ g, p.1.ownBlock = some g → Value.ownBlock u10 ≠ some g) := fun p hp => ⟨(HU.out p hp).1.below' hal, (HU.out p hp).2⟩
            have HOld : Hid (∀ g, Value.ownBlock u10 = some g → g < wr.heap.size) := fun g hg => ownSl_lt HS.out hg
            obtain ⟨W, hW⟩ : ∃ W, W = wr.alloc (.cells #[.int .i64 (i : Int), .int .i64 (c : Int), .string t] 28) := ⟨_, rfl⟩
            have hWs : W.heap.size = wr.heap.size + 1 := by rw [hW, World.size_alloc]
            rw [← hW] at HBW PW RW VW SW UW
            have HWr := Lib.hid hW
            have HWs := Lib.hid hWs
            obtain ⟨va, vc, hve, hvc⟩ := VW.out.slice
            have d0 := RW.out.2.1 (i + c) (by omega)
            rw [hve] at d0 VW
            obtain ⟨ol, hole⟩ : ∃ ol, ol = (O (i + c)).length := ⟨_, rfl⟩
            rw [← hole] at d0 hvc hol
            have HVe : Hid (PcsM W (.slice va ol vc) (O (i + c))) := by rw [hole]; exact VW.out
            have HOle := Lib.hid hole
            obtain ⟨p0, p1, p2⟩ := PW.out.cells
            dsimp only at p0 p1 p2
            have k0 := cell_regrown p0
            have k1 := cell_regrown p1
            have k2 := cell_regrown p2
            have k3 := cell_regrown d0
            clear he hal HS HU HB hW hWs hve VW hole
            go_wp2_with fail
            rw [← HWr.out]
            clear g0 g1 g2 p0 p1 p2 d0
            refine Mx.wp_region_mixed (Mx.ofL [(0, 0), (1, 1), (3, 0), (4, 0), (5, 0), (6, 1), (7, 0), (8, 0), (9, 1), (2, 2), (10, 3), (11, 3), (12, 3), (13, 3), (14, 0)] .done) (by kernel_rfl) (by kernel_rfl) ?_
            repeat ((first | refine Mx.mix0 rfl ?_ | refine Mx.mix1 rfl ?_); go_big_quiet_step (fail); refine wpQuiet_nil ?_)
            have hd : Below W.heap.size W W.drew := below_drewN (Below.refl _ _) 1
            have hX1 : Below W.heap.size W (W.drew.alloc (.cells #[.int .i64 (i : Int), .int .i64 (c : Int), .string t] 28)) := below_step hd (below_al _ _)
            have HG := Lib.hid (regrown_of_below hX1)
            refine Mx.mix2 rfl ?_
            go_wp2
            refine Mx.mid_normal (fun _ => HG.out) ?_
            refine Mx.mix3 rfl ?_
            go_wp2
            refine Mx.mid_normal (fun q => by cases q) ?_
            refine Mx.mix3 rfl ?_
            have HSl := Lib.hid (pair_at W ((i : Int), (c : Int), t) (.slice va ol vc) (O (i + c)) HVe.out)
            have hX2 : Below W.heap.size W ((W.alloc (.cells #[.int .i64 (i : Int), .int .i64 (c : Int), .string t] 28)).alloc (.cells #[.slice (some ⟨W.heap.size, 0, none⟩) 1 1, .slice va ol vc] 40)).drew := below_drewN (below_al2 W (.cells #[.int .i64 (i : Int), .int .i64 (c : Int), .string t] 28) (.cells #[.slice (some ⟨W.heap.size, 0, none⟩) 1 1, .slice va ol vc] 40)) 1
            have hX2s : ((W.alloc (.cells #[.int .i64 (i : Int), .int .i64 (c : Int), .string t] 28)).alloc (.cells #[.slice (some ⟨W.heap.size, 0, none⟩) 1 1, .slice va ol vc] 40)).drew.heap.size = W.heap.size + 2 := by show ((W.alloc (.cells #[.int .i64 (i : Int), .int .i64 (c : Int), .string t] 28)).alloc (.cells #[.slice (some ⟨W.heap.size, 0, none⟩) 1 1, .slice va ol vc] 40)).heap.size = _; rw [World.size_alloc, World.size_alloc]
            have hfl : (flatU [(.slice (some ⟨W.heap.size, 0, none⟩) 1 1, [((i : Int), (c : Int), t)]), (.slice va ol vc, O (i + c))]).length ≤ 1000 := by
              show ([((i : Int), (c : Int), t)] ++ (O (i + c) ++ [])).length ≤ 1000
              rw [List.append_nil, List.length_append, List.length_singleton, ← HOle.out]; omega
            have HCC := Lib.hid (CC.out _ _ _ HSl.out (by show 2 ≤ 10; omega) hfl)
            have HX2 := Lib.hid hX2
            have HX2s := Lib.hid hX2s
            clear hd hX1 HG k0 k1 k2 k3 hX2 hX2s hfl HSl
            go_wp2_with fail
            refine HCC.out.mono ?_
            rintro r w5 ⟨⟨y', rfl, hy'⟩, hb5⟩
            rw [HX2s.out] at hy'
            have hyo : OwnP w5 (W.heap.size + 2) y' (((i : Int), (c : Int), t) :: O (i + c)) := by
              have e : flatU [(.slice (some ⟨W.heap.size, 0, none⟩) 1 1, [((i : Int), (c : Int), t)]), (.slice va ol vc, O (i + c))] = ((i : Int), (c : Int), t) :: O (i + c) := by
                show [((i : Int), (c : Int), t)] ++ (O (i + c) ++ []) = _
                rw [List.append_nil]; rfl
              rw [← e]; exact hy'
            have hbW := below_step HX2.out hb5
            have hw5 : W.heap.size + 2 ≤ w5.heap.size := by have := hb5.size; have := HX2s.out; omega
            obtain ⟨ya', yc', hye, _⟩ := (ownP_m hyo).slice
            obtain ⟨yl, hyl⟩ : ∃ yl, yl = (((i : Int), (c : Int), t) :: O (i + c)).length := ⟨_, rfl⟩
            rw [← hyl] at hye
            subst hye
            clear hyl
            have HYo := Lib.hid hyo
            have S5 : Hid (OwnSl w5 w3.heap.size u10 us) := Lib.hid (SW.out.kept (row := none) ⟨hbW.os, hbW.tape, hbW.output, hbW.size, fun k hk _ => hbW.block k hk⟩ (by cases hv : Value.ownBlock u10 <;> simp))
            have U5 : Hid (∀ p ∈ us, OwnP w5 w3.heap.size p.1 p.2 ∧ ∀ g, p.1.ownBlock = some g → Value.ownBlock u10 ≠ some g) := Lib.hid (fun p hp => ⟨(UW.out p hp).1.below' hbW, (UW.out p hp).2⟩)
            have HBW5 := Lib.hid (HBW.out.trans (hbW.mono (by have := HWs.out; omega)))
            have hw35 : w3.heap.size ≤ w5.heap.size := by have := HWs.out; omega
            have hwr5 : wr.heap.size + 3 ≤ w5.heap.size := by have := HWs.out; omega
            clear hy' hyo hb5 hbW HCC SW UW HBW PW RW HVe HX2
            go_wp2
            refine Mx.mid_normal (fun q => by cases q) ?_
            refine Mx.mix3 rfl ?_
            go_wp2
            refine Mx.mid_normal (fun q => by cases q) ?_
            refine Mx.mix3 rfl ?_
            go_wp2_with (at_builtin; refine push_sl rfl _ _ rfl w3.heap.size _ us rfl S5.out (.slice ya' yl yc', ((i : Int), (c : Int), t) :: O (i + c)) rfl rfl hw35 (by omega) ?_)
            intro v' w6 hown hg hat
            have S6 := Lib.hid hown
            have HBW6 : Hid (Below w3.heap.size w3 w6) := Lib.hid (HBW5.out.grown hg hw35 (fun j hj => row_ge S5.out hj))
            have U6 : Hid (∀ p ∈ us ++ [(Value.slice ya' yl yc', ((i : Int), (c : Int), t) :: O (i + c))], OwnP w6 w3.heap.size p.1 p.2 ∧ ∀ g, p.1.ownBlock = some g → v'.ownBlock ≠ some g) := by
              intro p hp
              rw [List.mem_append, List.mem_singleton] at hp
              have key : ∀ (x : Value) (l : List Pc) (B : Nat), OwnP w5 B x l → w3.heap.size ≤ B → (∀ g, x.ownBlock = some g → Value.ownBlock u10 ≠ some g) → OwnP w6 w3.heap.size x l ∧ ∀ g, x.ownBlock = some g → v'.ownBlock ≠ some g := by
                intro x l B hx hB hap
                refine ⟨ownsRow_mono (World.ownsRow.kept hx hg ?_) hB, fun g hgx => ?_⟩
                · cases hv : x.ownBlock with
                  | none => exact .inl rfl
                  | some g => right; exact fun e => hap g hv e.symm
                · rcases hat with h2 | h2
                  · rw [h2]; exact hap g hgx
                  · rw [h2]; intro e; injection e with e; have := ownP_lt hx hgx; omega
              rcases hp with hp | rfl
              · exact key p.1 p.2 w3.heap.size (U5.out p hp).1 (Nat.le_refl _) (U5.out p hp).2
              · refine key _ _ _ HYo.out (by have := HWs.out; omega) (fun g hg e => ?_)
                have h1 := row_ge HYo.out hg
                have h2 := HOld.out g e
                have := HWs.out
                omega
            have HE6 : Hid ((us ++ [(Value.slice ya' yl yc', ((i : Int), (c : Int), t) :: O (i + c))]).map (·.2) = ((A i).take (q + 1)).map fun p => p :: O (i + p.2.1.toNat)) := by
              show _ = _
              rw [HEn.out, List.map_append]; rfl
            clear hown hg hat S5 U5 HYo HBW5 HEn
            refine Mx.mid_normal (fun q => by cases q) ?_
            repeat ((first | refine Mx.mix0 rfl ?_ | refine Mx.mix1 rfl ?_); go_big_quiet_step (fail); refine wpQuiet_nil ?_)
            refine Mx.mix_nil ?_
            go_wp2
            go_roundw
            case rel => exact ⟨q + 1, _, by go_num, by omega, S6, U6, HE6, HBW6⟩
            case measure => simp [intOf]; omega
          · obtain rfl : q = al := by omega
            have hne : 0 < us.length := by
              have h1 := congrArg List.length HE.out
              rw [List.length_map, List.length_map, List.length_take] at h1
              have := HAL.out
              omega
            have hMn : Hid (Pl.minF (us.map (·.2)) = O i) := by
              show _ = _
              rw [HE.out, List.take_of_length_le (by rw [← HAL.out]; exact Nat.le_refl _)]
              exact (HMin1.out i hin).symm
            have hl60 : ∀ p ∈ us, p.2.length ≤ 60 := by
              intro p hp
              have h1 : p.2 ∈ us.map (·.2) := List.mem_map_of_mem hp
              rw [HE.out] at h1
              obtain ⟨e, he, h2⟩ := List.mem_map.1 h1
              rw [← h2, List.length_cons]
              have h3 := List.mem_of_mem_take he
              obtain ⟨c, h4, h5, _⟩ := HCnt1.out i hin e h3
              have h6 := HOl1.out (i + e.2.1.toNat)
              rw [h4] at h6 ⊢
              simp only [Int.toNat_natCast] at h6 ⊢
              omega
            have HSl := Lib.hid (ownSl_at HS.out (fun p hp => ownP_m (HU.out p hp).1))
            have HMi := Lib.hid (CMin.out _ us wr HSl.out hne (by omega) hl60)
            have hw3 : w3.heap.size ≤ wr.heap.size := HB.out.size
            have Rq := Lib.hid (R3.out.below HB.out hRl)
            clear HSl hl60 hne HS HE CC
            go_wp2_with fail
            refine HMi.out.mono ?_
            rintro r w5 ⟨⟨p, rfl, hp, hpe⟩, hb5⟩
            have hbq : Below w3.heap.size w3 w5 := HB.out.trans (hb5.mono hw3)
            have hP5 : OwnP w5 w3.heap.size p.1 (O i) := by rw [← hMn.out, ← hpe]; exact (HU.out p hp).1.below' hb5
            have P5 := Lib.hid (ownsRow_mono hP5 (by omega : w1.heap.size + 2 ≤ w3.heap.size))
            have R5 := Lib.hid (R3.out.below hbq hRl)
            have r0 := R5.out.2.1 i (by omega)
            have fr := R5.out.2.2 i
            have R6 := Lib.hid (R5.out.set i (by omega) p.1)
            have V6 : Hid (∀ j, i ≤ j → j ≤ n → OwnP (w5.setCell ⟨w1.heap.size + 1, i, none⟩ p.1) (w1.heap.size + 2) ((fun j => if j = i then p.1 else vs j) j) (O j)) := by
              intro j h1 h2
              by_cases hj : j = i
              · subst hj
                dsimp only
                rw [if_pos rfl]
                exact ownP_setV P5.out (by omega)
              · dsimp only
                rw [if_neg hj]
                exact ownP_setV ((V3.out j (by omega) h2).below' hbq) (by omega)
            have hT5 := T3.out.below hbq T3.out.lt
            have T6 : Hid (MtB (w5.setCell ⟨w1.heap.size + 1, i, none⟩ p.1) w1.heap.size b (.slice ua n uc)) := (Below.heap_setCell _ _ _ _ (by show w1.heap.size ≠ w1.heap.size + 1; omega)).trans hT5
            have M6 : Hid (MapB (w5.setCell ⟨w1.heap.size + 1, i, none⟩ p.1) b es) := World.ownsMap.kept (show MapB w5 b es from MapB.below M3.out hbq) (grown_setV _ _ _ _) (by intro e; injection e with e; have := HBb.out; omega)
            have hBw5 : Below w.heap.size w w5 := B3.out.trans (hbq.mono B3.out.size)
            have B6 : Hid (Below w.heap.size w (w5.setCell ⟨w1.heap.size + 1, i, none⟩ p.1)) := hBw5.setCell (p := ⟨w1.heap.size + 1, i, none⟩) (by show w.heap.size ≤ w1.heap.size + 1; omega) _
            obtain ⟨px, pl⟩ := p
            dsimp only at R6 V6 T6 M6 B6
            obtain ⟨pa, pc, hpx, _⟩ := (ownP_m hP5).slice
            dsimp only at hpx
            obtain ⟨pn, hpn⟩ : ∃ pn, pn = (O i).length := ⟨_, rfl⟩
            rw [← hpn] at hpx
            subst hpx
            clear hpn hP5 hbq hb5 hp hpe HMi hMn HU HB Rq P5 R5 hT5 hBw5 R3 V3 T3 M3 B3
            go_wp2
            go_roundw
            case rel => exact ⟨i, (i : Int) - 1, _, rfl, rfl, by omega, R6, V6, T6, M6, B6⟩
            case measure => simp [intOf]
end Go.Proofs.Ythigdblloddepaa

namespace Go.Proofs.Ythigdblloddepaa.fnExactFewestPieces
open Go.ChangeShapes Go.WideShapes Go.ChangeAt Go.RowKit
open Go.ChangeMaps (open_string shut_string)
set_option linter.unusedVariables false
set_option maxRecDepth 100000

theorem own : ownKnob Try.prog.godebug = none := by kernel_rfl
theorem laidOut : laidOutB Try.prog = true := by kernel_rfl

/-- A slice of integers that came in. -/
def IsRow (k : IntKind) (w : World) (a : Option Addr) (len cap : Nat) (zs : List Int) : Prop :=
  (a = none ∧ len = 0 ∧ cap = 0 ∧ zs = []) ∨
  ∃ x, a = some x ∧ len ≤ cap ∧ cap ≤ maxLen ∧ zs.length = cap ∧ (∀ i, i < zs.length → w.cell? (x.add i) = some (.int k (zs.getD i 0))) ∧ ∀ n ∈ zs, (Lit.int k n).wf = true

theorem ints_of {w : World} {a : Option Addr} {n c : Nat} {z : List Int} (h : IsRow .i64 w a n c z) : (z.take n).length = n ∧ n ≤ maxLen ∧ IntsAt w (.slice a n c) (z.take n) := by
  rcases h with ⟨rfl, rfl, rfl, rfl⟩ | ⟨x, rfl, hl, hm, hs, hcell, hz⟩
  · exact ⟨rfl, by decide, IntsAt.nil _ _ _⟩
  · have hlen : (z.take n).length = n := by rw [List.length_take]; omega
    refine ⟨hlen, by omega, ?_⟩
    by_cases h0 : n = 0
    · subst h0; exact IntsAt.nil _ _ _
    · obtain ⟨b, o, spot⟩ := x
      have h1 := hcell 0 (by omega)
      have hspot : spot = none := by simpa [Addr.add] using World.cell?_spot h1
      subst hspot
      refine ⟨_, c, by rw [hlen], by rw [hlen]; exact hl, .inr ⟨b, o, rfl, ?_, fun j y hy => ?_⟩⟩
      · have : (w.cell? ⟨b, o, none⟩).isSome := by have := h1; simp [Addr.add] at this; rw [this]; rfl
        rcases Nat.lt_or_ge b w.heap.size with h' | h'
        · exact h'
        · simp [World.cell?, Array.getElem?_eq_none h'] at this
      · have hj : j < n := by
          rcases Nat.lt_or_ge j n with h' | h'
          · exact h'
          · rw [List.getElem?_eq_none (by rw [hlen]; exact h')] at hy; cases hy
        have h2 := hcell j (by omega)
        rw [List.getElem?_take_of_lt hj] at hy
        by_cases hj0 : j = 0
        · subst hj0; simpa [Addr.add, List.getD, hy] using h2
        · simpa [Addr.add, List.getD, hy, hj0] using h2
theorem ownPcs_ge {w : World} {base : Nat} {v : Value} {n : Nat} {f : Nat → Pc} (h : OwnPcs w base v n f) (h0 : 0 < n) {g : Nat} (hg : v.ownBlock = some g) : base ≤ g := by
  rcases h with ⟨hz, _⟩ | ⟨g', cap, rfl, _, hb, _, _⟩
  · omega
  · have : g' = g := by simpa [Value.ownBlock] using hg
    rw [← this]; exact hb
theorem ownInts_lt {w : World} {base : Nat} {v : Value} {n : Nat} {f : Nat → Int} (h : OwnInts w base v n f) (h0 : 0 < n) {g : Nat} (hg : v.ownBlock = some g) : g < w.heap.size := by
  rcases h with ⟨hz, _⟩ | ⟨g', cap, rfl, _, _, _, hl, _⟩
  · omega
  · have : g' = g := by simpa [Value.ownBlock] using hg
    rw [← this]; exact hl
/-! ### THE WALK: the Go text returns true, and writes nothing that was there. -/
set_option maxRecDepth 100000 in
set_option maxHeartbeats 8000000 in
theorem walk (u0 : Value) (d0 : List Ent) (a1 : Option Addr) (n1 c1 : Nat) (z1 : List Int) (w : World) (hS : w.ShapedOpen Try.prog)  (w0 : EntsIn w u0 d0) (w1 : IsRow .i64 w a1 n1 c1 z1) :
    Calls Try.prog 7 #[dV u0, .slice a1 n1 c1] w fun e w' => e = .returned (.bool true) ∧ Below w.heap.size w w' := by
  obtain ⟨hat, hlen, hfine⟩ := w0
  obtain ⟨hlen1, hnm1, hrow1⟩ := ints_of w1
  obtain ⟨ys, hzs1⟩ : ∃ ys, ys = z1.take n1 := ⟨_, rfl⟩
  rw [← hzs1] at hlen1 hrow1
  unfold maxLen at hnm1
  clear w1 hzs1 hS
  have CZ := Lib.hid (fun w' hb => szDw_any u0 d0 w' ⟨hat.below (w' := w') hb, hlen, hfine⟩)
  by_cases hbig : 1048576 < n1
  · obtain ⟨a, cap, rfl, hcap, _⟩ := hat.cells
    clear hat hlen hfine CZ hlen1 hrow1
    unfold dV
    go_enter Try.func7, Try.ntmps7
    go_wp2
    go_ret
    exact ⟨rfl, below_al _ _⟩
  · have CT := Lib.hid (fun hn hx w' hb => toD_any u0 d0 w' (hat.below (w' := w') hb) hn hx)
    have CE := Lib.hid (fun u v w h h' hn hx => eqD_same u v d0 w h h' hn hx)
    have CS := Lib.hid (fun v u w h h' hn hx => specFewestPieces_any v d0 u ys w h h' hn hx (by omega))
    unfold fwL at CS
    have CI := Lib.hid (fun v u w h h' hn hx => FewestPieces_any v d0 u ys w h h' hn hx (by omega))
    have CMD := Lib.hid (fun base S v w h hm hn hS hb hx => markD_any base S v d0 w h hm hn hS hb hx)
    have CY := Lib.hid (fun w' hb => toI_full _ ys w' (hrow1.below (w' := w') hb) (by omega))
    have CYE := Lib.hid (fun v u w h h' => eqI_same v u ys w h h' (by omega))
    have CMI := Lib.hid (fun base m0 v f w h hm => markI_t base m0 v ys.length f w h (by omega) hm)
    have hps := fw_len d0 ys
    obtain ⟨ps, hpsd⟩ : ∃ ps, ps = (if sgB d0 ys = true then Pl.opt d0 ys 0 else []) := ⟨_, rfl⟩
    obtain ⟨b, hbb⟩ : ∃ b, b = sgB d0 ys := ⟨_, rfl⟩
    rw [← hpsd, ← hbb] at CS CI
    rw [← hpsd] at hps
    have COE := Lib.hid (fun u v w h h' => eqPcs_same u v ps w h h' (by omega))
    obtain ⟨L, hL⟩ : ∃ L, L = ps.length := ⟨_, rfl⟩
    have HPn := Lib.hid (fun w base v (h : OwnP w base v ps) => show OwnPcs w base v L (fun j => ps.getD j pc0) from by rw [hL]; exact ownP_own h)
    have HPa := Lib.hid (fun w base v (h : OwnPcs w base v L (fun j => ps.getD j pc0)) => show PcsAt w v ps from h.at hL (fun j e he => by simp [List.getD, he]))
    rw [← hL] at hps
    have CMO := Lib.hid (fun base v f w h hb => markPcs_any base v L f w h hb (by omega))
    have CHO := Lib.hid (fun base v w h => heldPcs_any base v L w h (by omega))
    obtain ⟨a, cap, rfl, hcap, _⟩ := hat.cells
    obtain ⟨M, hM⟩ : ∃ M : Int, M = 1 + 3 * (L : Int) := ⟨_, rfl⟩
    have hM0 : 0 ≤ M := by omega
    rw [← hM] at CMO CHO
    have HWt := Lib.hid (endE_wt 1 d0)
    have HWi := Lib.hid (fun h => wtE_in (es := d0) h)
    obtain ⟨n, hnn⟩ : ∃ n, n = d0.length := ⟨_, rfl⟩
    have HN := Lib.hid hnn
    unfold dV at CZ CT CS CI CE CMD ⊢
    rw [← hnn] at CZ CT CS CI CE CMD hcap HWt HWi ⊢
    obtain ⟨E, hE⟩ : ∃ E, E = endE 1 d0 := ⟨_, rfl⟩
    rw [← hE] at CMD HWt
    obtain ⟨WT, hWT⟩ : ∃ WT, WT = wtE d0 := ⟨_, rfl⟩
    rw [← hWT] at CZ HWt HWi
    obtain ⟨yn, hyn⟩ : ∃ yn, yn = ys.length := ⟨_, rfl⟩
    have HYn := Lib.hid hyn
    rw [← hyn] at CMI CY hlen1
    subst hlen1
    have HY1 := Lib.hid (fun w v (h : IntsM w v ys) => show ∃ ya yc, v = .slice ya yn yc ∧ IntsAt w v ys from by obtain ⟨ya, yc, hv, _⟩ := h.at.cells; exact ⟨ya, yc, by rw [hyn]; exact hv, h.at⟩)
    clear hat hlen hfine hpsd hbb hnn hE hWT hM hL hyn hrow1 hcap hnm1
    go_enter Try.func7, Try.ntmps7
    go_wp2_with fail
    refine (CZ.out _ (below_al _ _)).mono ?_
    rintro r w1' ⟨⟨q, rfl, hq⟩, hb⟩
    have A1 : Hid (BoxV w1' w.heap.size 24 (.slice a n cap)) := (BoxV.new w _ _).below hb (by simp)
    have HB1 := Lib.hid (below_box hb)
    clear hb
    rcases hq with rfl | ⟨hq0, hq1⟩
    · go_wp2
      go_ret
      exact ⟨rfl, HB1.out⟩
    · have hnq : ¬ q < 0 := by omega
      have hwt : WT + n ≤ 1048576 := by omega
      have hE1 : E ≤ 1100000 := by have := HWt.out; omega
      obtain ⟨hn, hx⟩ := HWi.out hwt
      have CT1 := Lib.hid (CT.out hn hx)
      have CS1 := Lib.hid (fun v u w h h' => CS.out v u w h h' (by omega) (fun e he => (hx e he).ok))
      have CI1 := Lib.hid (fun v u w h h' => CI.out v u w h h' (by omega) (fun e he => (hx e he).ok))
      have CE1 := Lib.hid (fun u v w h h' => CE.out u v w h h' (by omega) (fun e he => (hx e he).ok))
      have CMD1 := Lib.hid (fun base S v w h hS hb => CMD.out base S v w h hE1 (by omega) hS hb (fun e he => by have := (hx e he).1; omega))
      have c1 := A1.out.cell
      clear CT CS CI CE CZ CMD hx hn hq0 hq1 HWi HWt hwt
      go_wp2_with fail
      refine (CT1.out w1' HB1.out).mono ?_
      rintro r w2 ⟨⟨u2, rfl, hu2⟩, hb⟩
      have U2 := Lib.hid hu2.at
      have A2 := Lib.hid (A1.out.below hb A1.out.lt)
      have HB2 := Lib.hid (below_step HB1.out hb)
      obtain ⟨ua2, uc2, rfl, _, _⟩ := hu2.at.cells
      rw [← HN.out] at U2
      rw [← HN.out]
      clear hb hu2 A1 HB1 c1
      go_wp2_with fail
      refine (CY.out w2 HB2.out).mono ?_
      rintro r wa ⟨⟨y2, rfl, _, hy2⟩, hb⟩
      obtain ⟨ya2, yc2, rfl, hy2'⟩ := HY1.out _ _ hy2
      have Y2 := Lib.hid hy2'
      have Ua := Lib.hid (U2.out.below hb)
      have Aa := Lib.hid (A2.out.below hb A2.out.lt)
      have HBa := Lib.hid (below_step HB2.out hb)
      clear hb hy2 hy2' U2 A2 HB2
      go_wp2_with fail
      refine (CS1.out _ _ wa Ua.out Y2.out).mono ?_
      rintro r w3 ⟨⟨wv, rfl, hwv⟩, hb⟩
      have W3 := Lib.hid (HPa.out _ _ _ (HPn.out _ _ _ hwv))
      have A3 := Lib.hid (Aa.out.below hb Aa.out.lt)
      have HB3 := Lib.hid (below_step HBa.out hb)
      have c3 := A3.out.cell
      clear hb hwv Aa HBa Ua Y2
      go_wp2_with fail
      refine (CT1.out w3 HB3.out).mono ?_
      rintro r w4 ⟨⟨u4, rfl, hu4⟩, hb⟩
      obtain ⟨ua4, uc4, hu4f, _, _⟩ := hu4.at.cells
      rw [← HN.out] at hu4f
      subst hu4f
      obtain ⟨W4, hW4⟩ : ∃ W4, W4 = w4.alloc (.cells #[.slice ua4 n uc4] 33) := ⟨_, rfl⟩
      have hb44 : Below w4.heap.size w4 W4 := by rw [hW4]; exact below_al _ _
      have hs44 : w4.heap.size < W4.heap.size := by rw [hW4]; simp
      have O4 : Hid (OwnEs W4 w3.heap.size w4.heap.size (.slice ua4 n uc4) d0) := hu4.below hb44
      have A4 : Hid (BoxV W4 w.heap.size 24 (.slice a n cap)) := (A3.out.below hb A3.out.lt).below hb44 (by have := A3.out.lt; have := hb.size; omega)
      have X4 : Hid (BoxV W4 w4.heap.size 33 (.slice ua4 n uc4)) := by rw [hW4]; exact BoxV.new _ _ _
      have hb34 : Below w3.heap.size w3 W4 := hb.trans (hb44.mono hb.size)
      have V4 := Lib.hid (W3.out.below hb34)
      have HB34 := Lib.hid hb34
      have HB4 : Hid (Below w.heap.size w W4) := below_step HB3.out hb34
      have HS4 : Hid (w3.heap.size ≤ w4.heap.size) := hb.size
      have HS44 := Lib.hid hs44
      have HCY := Lib.hid (CY.out W4 HB4.out)
      rw [hW4] at HCY
      have HW4 := Lib.hid hW4
      have HA3 : Hid (w.heap.size < w3.heap.size) := A3.out.lt
      clear hb hu4 A3 HB3 c3 hb44 hb34 hs44 hW4
      go_wp2_with fail
      refine HCY.out.mono ?_
      rintro r wb ⟨⟨y4, rfl, hyo, hym⟩, hb⟩
      rw [← HW4.out] at hyo hb
      obtain ⟨ya4, yc4, rfl, hy4'⟩ := HY1.out _ _ hym
      have Yo := Lib.hid hyo
      have Y4 := Lib.hid hy4'
      have Ab := Lib.hid (A4.out.below hb A4.out.lt)
      have Xb := Lib.hid (X4.out.below hb X4.out.lt)
      have Ob := Lib.hid (O4.out.below hb)
      have Vb := Lib.hid (V4.out.below hb)
      have HBb := Lib.hid (below_step HB4.out hb)
      have HB3b := Lib.hid (below_step HB34.out hb)
      have HS4b : Hid (W4.heap.size ≤ wb.heap.size) := hb.size
      have xb := Xb.out.cell
      clear hb hyo hym hy4' A4 X4 O4 V4 HB4 HB34 HCY
      go_wp2_with fail
      refine (CI1.out _ _ wb Ob.out.at Y4.out).mono ?_
      rintro r w5 ⟨⟨gv, rfl, hg⟩, hb⟩
      have G5 : Hid (OwnPcs w5 wb.heap.size gv L (fun j => ps.getD j pc0)) := HPn.out _ _ _ hg
      have A5 := Lib.hid (Ab.out.below hb Ab.out.lt)
      have X5 := Lib.hid (Xb.out.below hb Xb.out.lt)
      have O5 := Lib.hid (Ob.out.below hb)
      have V5 := Lib.hid (Vb.out.below hb)
      have Y5 := Lib.hid (Yo.out.below hb)
      have YA5 := Lib.hid (Y4.out.below hb)
      have HB5 := Lib.hid (below_step HBb.out hb)
      have HB35 := Lib.hid (below_step HB3b.out hb)
      have HS5 : Hid (wb.heap.size ≤ w5.heap.size) := hb.size
      have HYlt : Hid (0 < yn → ∀ g, (Value.slice ya4 yn yc4).ownBlock = some g → g < wb.heap.size) := fun h0 g hg => ownInts_lt Yo.out h0 hg
      clear hb hg Ab Xb Ob Vb Yo Y4 HBb HB3b xb
      go_wp2_with fail
      refine (COE.out _ _ w5 (HPa.out _ _ _ G5.out) V5.out).mono ?_
      rintro r w6 ⟨rfl, hb⟩
      have A6 := Lib.hid (A5.out.below hb A5.out.lt)
      have X6 := Lib.hid (X5.out.below hb X5.out.lt)
      have O6 := Lib.hid (O5.out.below hb)
      have V6 := Lib.hid (V5.out.below hb)
      have G6 := Lib.hid (G5.out.below hb)
      have Y6 := Lib.hid (Y5.out.below hb)
      have YA6 := Lib.hid (YA5.out.below hb)
      have HB6 := Lib.hid (below_step HB5.out hb)
      have HB36 := Lib.hid (below_step HB35.out hb)
      have HS6 : Hid (w5.heap.size ≤ w6.heap.size) := hb.size
      have k0 := cell_regrown X6.out.cell
      have k1 := cell_regrown A6.out.cell
      clear hb A5 X5 O5 V5 G5 Y5 YA5 HB5 HB35
      go_wp2_with fail
      refine Mx.wp_region_mixed (Mx.ofL [(0, 1), (1, 1), (2, 2), (3, 3), (4, 0)] .done) (by kernel_rfl) (by kernel_rfl) ?_
      repeat ((first | refine Mx.mix0 rfl ?_ | refine Mx.mix1 rfl ?_); go_big_quiet_step (fail); refine wpQuiet_nil ?_)
      refine Mx.mix2 rfl ?_
      go_wp2_with fail
      refine (CT1.out w6.drew HB6.out.drew).mono ?_
      rintro r w7 ⟨⟨u7, rfl, hu7⟩, hb⟩
      have hb67 : Below w6.heap.size w6 w7 := (below_drewN (Below.refl _ _) 1).trans hb
      obtain ⟨ua7, uc7, hu7f, _, _⟩ := hu7.at.cells
      rw [← HN.out] at hu7f
      have U7 : Hid (EntsAt w7 (.slice ua7 n uc7) d0) := by rw [← hu7f]; exact hu7.at
      have HG := Lib.hid (regrown_of_below hb67)
      have HB67 := Lib.hid hb67
      have O7 := Lib.hid (O6.out.below hb67)
      subst hu7f
      clear hb hb67 hu7 k0 k1
      go_wp2
      refine Mx.mid_normal (fun _ => HG.out) ?_
      refine Mx.mix3 rfl ?_
      go_wp2_with fail
      refine (CE1.out _ _ w7 O7.out.at U7.out).mono ?_
      rintro r w8 ⟨rfl, hb⟩
      have hb68 : Below w6.heap.size w6 w8 := below_step HB67.out hb
      have A8 := Lib.hid (A6.out.below hb68 A6.out.lt)
      have X8 := Lib.hid (X6.out.below hb68 X6.out.lt)
      have O8 := Lib.hid (O6.out.below hb68)
      have V8 := Lib.hid (V6.out.below hb68)
      have G8 := Lib.hid (G6.out.below hb68)
      have Y8 := Lib.hid (Y6.out.below hb68)
      have YA8 := Lib.hid (YA6.out.below hb68)
      have HB8 := Lib.hid (below_step HB6.out hb68)
      have HB38 := Lib.hid (below_step HB36.out hb68)
      have HS8 : Hid (w6.heap.size ≤ w8.heap.size) := hb68.size
      clear hb hb68 A6 X6 O6 V6 G6 Y6 YA6 HB6 HB36 HB67 O7 U7 HG
      go_wp2
      refine Mx.mid_normal (fun q => by cases q) ?_
      repeat ((first | refine Mx.mix0 rfl ?_ | refine Mx.mix1 rfl ?_); go_big_quiet_step (fail); refine wpQuiet_nil ?_)
      refine Mx.mix_nil ?_
      go_wp2_with fail
      refine (CY.out w8 HB8.out).mono ?_
      rintro r w8a ⟨⟨y8, rfl, _, hym⟩, hb⟩
      obtain ⟨ya8, yc8, rfl, hy8'⟩ := HY1.out _ _ hym
      have YB := Lib.hid hy8'
      have A8a := Lib.hid (A8.out.below hb A8.out.lt)
      have X8a := Lib.hid (X8.out.below hb X8.out.lt)
      have O8a := Lib.hid (O8.out.below hb)
      have V8a := Lib.hid (V8.out.below hb)
      have G8a := Lib.hid (G8.out.below hb)
      have Y8a := Lib.hid (Y8.out.below hb)
      have YA8a := Lib.hid (YA8.out.below hb)
      have HB8a := Lib.hid (below_step HB8.out hb)
      have HB38a := Lib.hid (below_step HB38.out hb)
      have HS8a : Hid (w8.heap.size ≤ w8a.heap.size) := hb.size
      clear hb hym hy8' A8 X8 O8 V8 G8 Y8 YA8 HB8 HB38
      go_wp2_with fail
      refine (CYE.out _ _ w8a YA8a.out YB.out).mono ?_
      rintro r w8b ⟨rfl, hb⟩
      have A8b := Lib.hid (A8a.out.below hb A8a.out.lt)
      have X8b := Lib.hid (X8a.out.below hb X8a.out.lt)
      have O8b := Lib.hid (O8a.out.below hb)
      have V8b := Lib.hid (V8a.out.below hb)
      have G8b := Lib.hid (G8a.out.below hb)
      have Y8b := Lib.hid (Y8a.out.below hb)
      have HB8b := Lib.hid (below_step HB8a.out hb)
      have HB38b := Lib.hid (below_step HB38a.out hb)
      have HS8b : Hid (w8a.heap.size ≤ w8b.heap.size) := hb.size
      have HSz : Hid (wb.heap.size ≤ w8b.heap.size) := by have := HS5.out; have := HS6.out; have := HS8.out; have := HS8a.out; have := HS8b.out; show _ ≤ _; omega
      have x8 := X8b.out.cell
      clear hb A8a X8a O8a V8a G8a Y8a YA8a YB HB8a HB38a HS5 HS6 HS8 HS8a HS8b
      go_wp2_with fail
      refine (CMD1.out _ _ _ w8b O8b.out (by have := HS44.out; have := HS4b.out; have := HSz.out; omega) (by have := HS4.out; have := HS44.out; have := HS4b.out; have := HSz.out; omega)).mono ?_
      rintro r w9 ⟨rfl, _, hT, hb⟩
      have hb39 : Below w3.heap.size w3 w9 := HB38b.out.trans hb
      have V9 := Lib.hid (W3.out.below hb39)
      have G9 : Hid (OwnPcs w9 wb.heap.size gv L (fun j => ps.getD j pc0)) := G8b.out.touch hT (fun h0 g hg => by have := ownPcs_ge G8b.out h0 hg; have := HS44.out; have := HS4b.out; omega)
      have Y9 : Hid (OwnInts w9 W4.heap.size (.slice ya4 yn yc4) yn (fun j => ys.getD j 0)) := Y8b.out.touch hT (fun h0 g hg => by have := Y8b.out.ge h0 hg; have := HS44.out; omega)
      have A9 := Lib.hid (A8b.out.below hb HA3.out)
      have HB9 : Hid (Below w.heap.size w w9) := HB8b.out.trans (hb.mono (Nat.le_of_lt HA3.out))
      have HB39 := Lib.hid hb39
      have HS9 : Hid (w8b.heap.size ≤ w9.heap.size) := hb.size
      clear hb hT hb39 A8b X8b O8b V8b G8b Y8b HB8b HB38b x8
      go_wp2_with fail
      refine (CMI.out _ E _ _ w9 Y9.out (by omega)).mono ?_
      rintro r w9b ⟨rfl, _, hT, hb⟩
      have hW43 : w3.heap.size ≤ W4.heap.size := by have := HS4.out; have := HS44.out; omega
      have hb39 : Below w3.heap.size w3 w9b := HB39.out.trans (hb.mono hW43)
      have V9b := Lib.hid (W3.out.below hb39)
      have G9b : Hid (OwnPcs w9b wb.heap.size gv L (fun j => ps.getD j pc0)) := G9.out.touch hT (fun h0 g hg hq => by have := ownPcs_ge G9.out h0 hg; have := HYlt.out hq.1 g hq.2; omega)
      have hA43 : w.heap.size < W4.heap.size := by have := HA3.out; omega
      have A9b := Lib.hid (A9.out.below hb hA43)
      have HB9b : Hid (Below w.heap.size w w9b) := HB9.out.trans (hb.mono (Nat.le_of_lt hA43))
      have HB39b := Lib.hid hb39
      have HS9b : Hid (w9.heap.size ≤ w9b.heap.size) := hb.size
      obtain ⟨K, hK⟩ : ∃ K : Int, K = ((E + yn : Nat) : Int) := ⟨_, rfl⟩
      have hKp : ¬ K < 0 := by omega
      rw [← hK]
      clear hb hT hb39 A9 V9 G9 Y9 HB9 HB39 hK hW43 hA43
      go_wp2_with fail
      refine (COE.out _ _ w9b (HPa.out _ _ _ G9b.out) V9b.out).mono ?_
      rintro r w10 ⟨rfl, hb⟩
      have A10 := Lib.hid (A9b.out.below hb A9b.out.lt)
      have G10 := Lib.hid (G9b.out.below hb)
      have HB10 := Lib.hid (below_step HB9b.out hb)
      have HB310 := Lib.hid (below_step HB39b.out hb)
      have HS10 : Hid (w9b.heap.size ≤ w10.heap.size) := hb.size
      clear hb A9b V9b G9b HB9b HB39b
      go_wp2_with fail
      refine (CMO.out _ _ _ w10 G10.out (by have := HSz.out; have := HS9.out; have := HS9b.out; have := HS10.out; omega)).mono ?_
      rintro r w11 ⟨rfl, hG, _, hb⟩
      have G11 := Lib.hid hG
      have hA4 : w.heap.size < wb.heap.size := by have := HA3.out; have := HS4.out; have := HS44.out; have := HS4b.out; omega
      have A11 := Lib.hid (A10.out.below hb hA4)
      have HB11 : Hid (Below w.heap.size w w11) := HB10.out.trans (hb.mono (Nat.le_of_lt hA4))
      have HB311 : Hid (Below w3.heap.size w3 w11) := HB310.out.trans (hb.mono (by have := HS4.out; have := HS44.out; have := HS4b.out; omega))
      have hMp : ¬ M < 0 := by omega
      have hMM : (M != M) = false := by simp
      clear hb hG A10 G10 HB10 HB310 hA4
      go_wp2_with fail
      refine (CHO.out _ _ w11 G11.out).mono ?_
      rintro r w12 ⟨rfl, hb⟩
      have A12 := Lib.hid (A11.out.below hb A11.out.lt)
      have G12 := Lib.hid (G11.out.below hb)
      have HB12 := Lib.hid (below_step HB11.out hb)
      have HB312 := Lib.hid (below_step HB311.out hb)
      have c12 := A12.out.cell
      clear hb A11 G11 HB11 HB311
      go_wp2_with fail
      refine (CT1.out w12 HB12.out).mono ?_
      rintro r w13 ⟨⟨u13, rfl, hu13⟩, hb⟩
      obtain ⟨ua13, uc13, hu13f, _, _⟩ := hu13.at.cells
      rw [← HN.out] at hu13f
      have U13 : Hid (EntsAt w13 (.slice ua13 n uc13) d0) := by rw [← hu13f]; exact hu13.at
      subst hu13f
      have G13 := Lib.hid (G12.out.below hb)
      have HB13 := Lib.hid (below_step HB12.out hb)
      have HB313 := Lib.hid (below_step HB312.out hb)
      clear hb hu13 A12 G12 HB12 HB312 c12
      go_wp2_with fail
      refine (CY.out w13 HB13.out).mono ?_
      rintro r w13b ⟨⟨y13, rfl, _, hym⟩, hb⟩
      obtain ⟨ya13, yc13, rfl, hy13'⟩ := HY1.out _ _ hym
      have Y13 := Lib.hid hy13'
      have U13b := Lib.hid (U13.out.below hb)
      have G13b := Lib.hid (G13.out.below hb)
      have HB13b := Lib.hid (below_step HB13.out hb)
      have HB313b := Lib.hid (below_step HB313.out hb)
      clear hb hym hy13' G13 HB13 HB313 U13
      go_wp2_with fail
      refine (CI1.out _ _ w13b U13b.out Y13.out).mono ?_
      rintro r w14 ⟨⟨hv, rfl, hg⟩, hb⟩
      have H14 : Hid (PcsAt w14 hv ps) := HPa.out _ _ _ (HPn.out _ _ _ hg)
      have G14 := Lib.hid (G13b.out.below hb)
      have HB14 := Lib.hid (below_step HB13b.out hb)
      have V14 := Lib.hid (W3.out.below (below_step HB313b.out hb))
      clear hb hg G13b HB13b HB313b U13b Y13
      go_wp2_with fail
      refine (COE.out _ _ w14 H14.out V14.out).mono ?_
      rintro r w15 ⟨rfl, hb⟩
      have G15 := Lib.hid (G14.out.below hb)
      have HB15 := Lib.hid (below_step HB14.out hb)
      clear hb H14 G14 HB14 V14
      go_wp2_with fail
      refine (CHO.out _ _ w15 G15.out).mono ?_
      rintro r w16 ⟨rfl, hb⟩
      have HB16 := Lib.hid (below_step HB15.out hb)
      clear hb G15 HB15
      go_wp2
      go_ret
      exact ⟨rfl, HB16.out⟩

/-! ### THE ROW's STEP -/
set_option maxRecDepth 100000 in
theorem contract (H : Type) (enc : TypeId × Value → H) (W : World) (base : Nat) (args : Array Value) (ds gs : List (DataW H)) (before : List MemPlace)
    (hval : ∀ (j : Nat) t v, Try.f7.params[j]? = some t → args[j]? = some v → Value.okWide Try.prog W .any base t v)
    (hW : DataW.Whole enc Try.prog Try.f7.params.toList Rows.fnExactFewestPiecesSpec.vars false W args.toList ds gs before) (hL : laidMetH Try.prog Rows.fnExactFewestPiecesRow.laid W) (hS : W.ShapedOpen Try.prog) :
    Calls Try.prog 7 args W fun e W' => ∃ v, e = .returned v ∧ Rows.fnExactFewestPiecesSpec.post enc Try.prog Try.f7 false true false false W args v W' := by
  have hW' := hW
  obtain ⟨p, q, hA0, hV, rfl, hfz, hnd⟩ := hW
  have hA : DataW.TrodAll enc Try.prog W 0 (fun _ => true) true Try.f7.params.toList args.toList ds p := hA0
  rw [Try.params7] at hA hval
  obtain ⟨v0, vs0, d0, ds0, p0, q0, hargs, rfl, rfl, h0, r0⟩ := trodAll_cons hA
  obtain ⟨v1, vs1, d1, ds1, p1, q1, rfl, rfl, rfl, h1, r1⟩ := trodAll_cons r0
  obtain ⟨rfl, rfl, rfl⟩ := trodAll_nil r1
  obtain rfl : args = #[v0, v1] := by cases args; simp_all
  obtain ⟨rfl, rfl⟩ := trodVars_none hV
  have k0 := h0
  have lt0 : ∀ x ∈ p0, x.block < W.heap.size := by obtain ⟨m, hm⟩ := k0; exact DataW.trod_lt m _ _ _ hm
  obtain ⟨u0, d0, rfl, w0⟩ := open_dictV Try.underlying24 (by kernel_rfl) (by kernel_rfl) ⟨rfl, rfl⟩ Try.underlying22 Try.underlying85 (by kernel_rfl) (by kernel_rfl) (by kernel_rfl) (by kernel_rfl) ⟨rfl, rfl⟩ ⟨rfl, rfl⟩ Try.underlying25 Try.underlying3 Try.underlying9 (hval 0 24 v0 rfl rfl) h0
  have k1 := h1
  have lt1 : ∀ x ∈ p1, x.block < W.heap.size := by obtain ⟨m, hm⟩ := k1; exact DataW.trod_lt m _ _ _ hm
  obtain ⟨a1, n1, c1, rfl⟩ := okWide_slice Try.underlying25 (hval 1 25 v1 rfl rfl)
  obtain ⟨z1, w1⟩ : ∃ zs, IsRow .i64 W a1 n1 c1 zs := by
    obtain ⟨fuel, hf⟩ := h1
    rcases open_ints Try.underlying25 Try.underlying3 (by kernel_rfl) hf with ⟨hcs, _⟩ | ⟨x, l, c, zs, hcs, _, hl, hm, hz, _, hcell, hwz⟩
    · simp [Value.cells] at hcs
      obtain ⟨rfl, rfl, rfl⟩ := hcs
      exact ⟨[], .inl ⟨rfl, rfl, rfl, rfl⟩⟩
    · simp [Value.cells] at hcs
      obtain ⟨rfl, rfl, rfl⟩ := hcs
      exact ⟨zs, .inr ⟨_, rfl, hl, hm, by simpa using hz, hcell, hwz⟩⟩
  clear hA0 hval
  refine (walk u0 d0 a1 n1 c1 z1 W hS  w0 w1).mono fun e W' ⟨he, bel⟩ => ?_
  subst he
  exact ⟨_, rfl, _, _, _, [], _, [], hW', trodAll_mk1 (shut_bool Try.underlying4 _), (trodAll_cons_mk (Below.trod laidOut (by kernel_rfl) (of_decide_eq_true (by kernel_rfl)) k0 bel lt0) (trodAll_cons_mk (Below.trod laidOut (by kernel_rfl) (of_decide_eq_true (by kernel_rfl)) k1 bel lt1) trodAll_mk0)), rfl, bel.frame _, fun h => by cases h⟩

theorem reads (os : Os) {H : Type} (enc : TypeId × Value → H) : ∃ places, DataW.whole enc Try.prog ((World.holding Try.prog os ⟨#[], #[], []⟩).forCall (fun _ _ => 0) ⟨#[], #[.agg #[.slice none 0 0], .slice none 0 0], []⟩).memory Try.f7.params.toList Rows.fnExactFewestPiecesSpec.vars false (#[.agg #[.slice none 0 0], .slice none 0 0] : Array Value).toList 8 = some ([.agg [.nil], .nil], [], places) :=
  ⟨[], by kernel_rfl⟩

set_option maxRecDepth 100000 in
theorem lifted (os : Os) (started : os.Started) (H : Type) (enc : TypeId × Value → H) (F : Stop.Interp) :
    ReturnsInHanded {} Try.checked os 7 .any ((OpenSpec.ofChange Rows.fnExactFewestPiecesSpec).preRow enc Try.prog Try.f7 Rows.fnExactFewestPiecesRow.domain false Rows.fnExactFewestPiecesRow.laid) (((OpenSpec.ofChange Rows.fnExactFewestPiecesSpec).at F).post enc Try.prog Try.f7 false true false false) := by
  obtain ⟨places, hx⟩ := reads os enc
  refine returnsInHanded_of_row (C := Try.checked) (s := OpenSpec.ofChange Rows.fnExactFewestPiecesSpec) own started (by kernel_rfl) Try.func7
    (witness_row_atRef (enc := enc) (C := Try.checked) false (World.holding Try.prog os ⟨#[], #[], []⟩) #[.agg #[.slice none 0 0], .slice none 0 0] rfl (by kernel_rfl) (by kernel_rfl) (by kernel_rfl)
      (OpenSpec.preRow_of_cond 8 hx (by kernel_rfl) (fun k hk => by cases hk) (by kernel_rfl) ⟨[], rfl, List.nodup_nil, fun b off h => by cases h⟩)) ?_
  intro W base args ds gs before hval hW _ _ _ hL hS _
  exact contract H enc W base args ds gs before hval hW hL hS

theorem said : Rows.FnExactFewestPiecesSaid :=
  OpenClaim.holds_of_cond 7 Try.f7 rfl rfl rfl rfl rfl rfl rfl ⟨rfl, rfl, rfl, rfl, rfl⟩ rfl rfl rfl rfl rfl (by kernel_rfl) Try.func7 (by kernel_rfl)
    (of_decide_eq_true (by kernel_rfl)) (by unfold Func.isWrapper; first | (rw [if_pos (by decide +kernel)]; kernel_rfl) | (rw [if_neg (by decide +kernel)]; exact ⟨rfl, rfl⟩))
    (fun os started H enc _ F => by rw [OpenClaim.pre_eq_preRow]; exact lifted os started H enc F)

theorem proved : Rows.FnExactFewestPiecesSaid := said
#print axioms proved
end Go.Proofs.Ythigdblloddepaa.fnExactFewestPieces
