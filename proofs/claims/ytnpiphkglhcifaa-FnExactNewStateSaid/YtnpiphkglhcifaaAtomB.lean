/-
  CONTRACTS of the specification's chapter 5 over single atoms, the public ones: IsValidAtom, FormatAtom, ParseAtom.
-/
import Derived.Test.YtnpiphkglhcifaaAtom
import Derived.Laws.Tables
import Derived.Laws.CopyOwn
import Derived.Laws.ResultCell
namespace Go.Proofs.Ytnpiphkglhcifaa
set_option maxRecDepth 100000
open Go.RowKit

/-- A boxed atom, after a call. -/
theorem box_cells {w w1 : World} {k : Int} {t : ByteArray} {T : TypeId} (hb : Below (w.alloc (.cells #[.int .i64 k, .string t] T)).heap.size (w.alloc (.cells #[.int .i64 k, .string t] T)) w1) :
    w1.cell? ⟨w.heap.size, 0, none⟩ = some (.int .i64 k) ∧ w1.cell? ⟨w.heap.size, 1, none⟩ = some (.string t) := by
  have e : (w.alloc (.cells #[.int .i64 k, .string t] T)).heap[w.heap.size]? = some (.cells #[.int .i64 k, .string t] T) := heap_alloc_new _ _
  have hl : w.heap.size < (w.alloc (.cells #[.int .i64 k, .string t] T)).heap.size := by rw [World.size_alloc]; omega
  refine ⟨(hb.cell (p := ⟨w.heap.size, 0, none⟩) hl).trans ?_, (hb.cell (p := ⟨w.heap.size, 1, none⟩) hl).trans ?_⟩ <;> (unfold World.cell?; simp only [e]; rfl)
/-- What FormatAtom answers. -/
def fmtAS (k : Int) (t : ByteArray) : ByteArray := if Pl.goodA k (by8 t) = true then fmtB k t else ⟨#[]⟩
def fmtAE (k : Int) (t : ByteArray) : Ending := .returned (.tuple #[.string (fmtAS k t), .bool (Pl.goodA k (by8 t))])
/-- What ParseAtom answers. -/
def parV (s : ByteArray) : Value := atV (Pl.parA (by8 s)).1 ⟨(Pl.parA (by8 s)).2.toArray⟩
def parAE (s : ByteArray) : Ending := .returned (.tuple #[parV s, .bool (Pl.parOk (by8 s))])
theorem parAE_yes {s : ByteArray} {k : Int} {t : ByteArray} (hk : k = (Pl.kindA (by8 s)).1) (ht : t = ⟨(Pl.kindA (by8 s)).2.toArray⟩) (hg : Pl.goodA k (by8 t) = true) (hf : by8 (fmtB k t) = by8 s) : parAE s = .returned (.tuple #[atV k t, .bool true]) := by
  have e : by8 t = (Pl.kindA (by8 s)).2 := by rw [ht]
  have ho : Pl.parOk (by8 s) = true := by
    unfold Pl.parOk
    rw [← hk, ← e, hg, Bool.true_and, beq_iff_eq]
    exact hf
  unfold parAE parV Pl.parA
  rw [ho, if_pos rfl, ← hk, ← ht]
theorem parAE_no {s : ByteArray} {k : Int} {t : ByteArray} (hk : k = (Pl.kindA (by8 s)).1) (ht : t = ⟨(Pl.kindA (by8 s)).2.toArray⟩) (h : Pl.goodA k (by8 t) = false ∨ by8 (fmtB k t) ≠ by8 s) : parAE s = .returned (.tuple #[atV 0 ⟨#[]⟩, .bool false]) := by
  have e : by8 t = (Pl.kindA (by8 s)).2 := by rw [ht]
  have ho : Pl.parOk (by8 s) = false := by
    unfold Pl.parOk
    rw [← hk, ← e, Bool.and_eq_false_iff, beq_eq_false_iff_ne]
    exact h
  unfold parAE parV Pl.parA
  rw [ho]
  rfl
end Go.Proofs.Ytnpiphkglhcifaa
