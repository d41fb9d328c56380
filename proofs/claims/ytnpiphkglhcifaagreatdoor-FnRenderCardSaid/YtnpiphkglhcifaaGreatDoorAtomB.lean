/-
  CONTRACTS of the specification's chapter 5 over single atoms, the public ones: IsValidAtom, FormatAtom, ParseAtom.
-/
import Derived.Test.YtnpiphkglhcifaaGreatDoorAtom
import Derived.Laws.Tables
import Derived.Laws.CopyOwn
import Derived.Laws.ResultCell
namespace Go.Proofs.YtnpiphkglhcifaaGreatDoor
set_option maxRecDepth 100000
open Go.RowKit

/-- A boxed atom, after a call. -/
theorem box_cells {w w1 : World} {k : Int} {t : ByteArray} {T : TypeId} (hb : Below (w.alloc (.cells #[.int .i64 k, .string t] T)).heap.size (w.alloc (.cells #[.int .i64 k, .string t] T)) w1) :
    w1.cell? ⟨w.heap.size, 0, none⟩ = some (.int .i64 k) ∧ w1.cell? ⟨w.heap.size, 1, none⟩ = some (.string t) := by
  have e : (w.alloc (.cells #[.int .i64 k, .string t] T)).heap[w.heap.size]? = some (.cells #[.int .i64 k, .string t] T) := heap_alloc_new _ _
  have hl : w.heap.size < (w.alloc (.cells #[.int .i64 k, .string t] T)).heap.size := by rw [World.size_alloc]; omega
  refine ⟨(hb.cell (p := ⟨w.heap.size, 0, none⟩) hl).trans ?_, (hb.cell (p := ⟨w.heap.size, 1, none⟩) hl).trans ?_⟩ <;> (unfold World.cell?; simp only [e]; rfl)
/-- What FormatAtom answers. -/
def fmtAS (k : Int) (t : ByteArray) : ByteArray := if Pl.goodA k (by8 t) = true then fmtB k t else ⟨#[]⟩
def fmtAE (k : Int) (t : ByteArray) : Ending := .returned (.tuple #[.string (fmtAS k t), .bool (Pl.goodA k (by8 t))])
/-- What ParseAtom answers. -/
def parV (s : ByteArray) : Value := atV (Pl.parA (by8 s)).1 ⟨(Pl.parA (by8 s)).2.toArray⟩
def parAE (s : ByteArray) : Ending := .returned (.tuple #[parV s, .bool (Pl.parOk (by8 s))])
theorem parAE_yes {s : ByteArray} {k : Int} {t : ByteArray} (hk : k = (Pl.kindA (by8 s)).1) (ht : t = ⟨(Pl.kindA (by8 s)).2.toArray⟩) (hg : Pl.goodA k (by8 t) = true) (hf : by8 (fmtB k t) = by8 s) : parAE s = .returned (.tuple #[atV k t, .bool true]) := by
  have e : by8 t = (Pl.kindA (by8 s)).2 := by rw [ht]
  have ho : Pl.parOk (by8 s) = true := by
    unfold Pl.parOk
    rw [← hk, ← e, hg, Bool.true_and, beq_iff_eq]
    exact hf
  unfold parAE parV Pl.parA
  rw [ho, if_pos rfl, ← hk, ← ht]
theorem parAE_no {s : ByteArray} {k : Int} {t : ByteArray} (hk : k = (Pl.kindA (by8 s)).1) (ht : t = ⟨(Pl.kindA (by8 s)).2.toArray⟩) (h : Pl.goodA k (by8 t) = false ∨ by8 (fmtB k t) ≠ by8 s) : parAE s = .returned (.tuple #[atV 0 ⟨#[]⟩, .bool false]) := by
  have e : by8 t = (Pl.kindA (by8 s)).2 := by rw [ht]
  have ho : Pl.parOk (by8 s) = false := by
    unfold Pl.parOk
    rw [← hk, ← e, Bool.and_eq_false_iff, beq_eq_false_iff_ne]
    exact h
  unfold parAE parV Pl.parA
  rw [ho]
  rfl
/-- A whole atom stored. -/
theorem at_store {ops : Array Oper} {rest : List Oper} {o : Oper} {a : Act} {w : World} {Q : Exit → Act → World → Prop} (hgd : o.guard = none) (x y : Operand) (ho : o.op = .store 33 x y)
    (g : Nat) (k : Int) (t : ByteArray) (k' : Int) (t' : ByteArray) (hx : a.eval x = .pointer (some ⟨g, 0, none⟩)) (hy : a.eval y = atV k t) (hg : w.heap[g]? = some (.cells #[.int .i64 k', .string t'] 33 (0, 0)))
    (h : wpList Tryz.prog ops Q rest (a.put o.dst undef) (w.setRow g #[.int .i64 k, .string t])) : wpList Tryz.prog ops Q (o :: rest) a w :=
  wpList_store_row hgd _ x y ho g _ hx hy _ _ hg (by kernel_rfl) rfl (by rw [Array.all_eq_true_iff_forall_mem]; intro x hx; simp at hx; rcases hx with rfl | rfl <;> rfl) h
theorem results_at2 {fn : Func} {p u : Tmp} (h : fn.results = #[.cell p 33, .tmp u]) (tmps : Array Value) (w : World) (g : Nat) (k : Int) (t : ByteArray)
    (hp : tmps.getD p undef = .pointer (some ⟨g, 0, none⟩)) (hg : w.heap[g]? = some (.cells #[.int .i64 k, .string t] 33 (0, 0))) :
    (results fn tmps).run Tryz.prog w = .ok (.tuple #[atV k t, tmps.getD u undef]) w := by
  have hr := run_loadVar_row (P := Tryz.prog) w g _ 33 _ _ _ hg Tryz.underlying33 rfl (by kernel_rfl)
  rw [results_cell_tmp h, hp]
  simp [asAddr, hr, Result.andThen]
end Go.Proofs.YtnpiphkglhcifaaGreatDoor
