/-
  FOLDS IN MEMORY: the laws' helpers on folds (a fold is an int and a string, as an atom is).
-/
import Derived.Test.YthigdblloddepaaGreatMarkA
import Derived.Test.YthigdblloddepaaGreatAtRow
import Derived.Test.YthigdblloddepaaGreatTouch
namespace Go.Proofs.YthigdblloddepaaGreat
set_option maxRecDepth 100000
open Go.RowKit

theorem infoFd : (Tryz.prog.info? 96).map (fun i => (i.zero, i.size, i.bytes)) = some (some (.agg #[.int .i64 0, .string ByteArray.empty]), 2, 24) := by kernel_rfl
theorem mk_fds (n : Nat) (hn : n ≤ 1048576) (w : World) :
    (Instr.makeSlice 45 (.int .i64 (n : Int)) (.int .i64 (n : Int))).run Tryz.prog w = .ok (.slice (some ⟨w.heap.size, 0, none⟩) n n) (w.alloc (.cells (madeCells #[.int .i64 0, .string ByteArray.empty] (n * 2)) 96)) := by
  obtain ⟨i, hi, hzz⟩ := Option.map_eq_some_iff.1 infoFd
  simp only [Prod.mk.injEq] at hzz
  obtain ⟨hz, hs, hb⟩ := hzz
  have hr := run_make (P := Tryz.prog) w 45 96 i _ Tryz.underlying45 hi hz .i64 .i64 (n : Int) (n : Int) (by omega) (Int.le_refl _) (by rw [hb]; omega) (by omega)
  rw [Int.toNat_natCast, hs] at hr
  exact hr
theorem made_fds (w : World) (n : Nat) : RowA (w.alloc (.cells (madeCells #[.int .i64 0, .string ByteArray.empty] (n * 2)) 96)) w.heap.size n (fun _ => a00) := by
  have hc : ∀ j, j < n * 2 → (w.alloc (.cells (madeCells #[.int .i64 0, .string ByteArray.empty] (n * 2)) 96)).cell? ⟨w.heap.size, j, none⟩ = some ((#[.int .i64 0, .string ByteArray.empty] : Array Value)[j % 2]!) := by
    intro j hj
    rw [World.cell?_alloc_at _ _ _ _ rfl]
    simp [madeCells, hj]
  refine ⟨by rw [World.size_alloc]; omega, fun j hj => ⟨?_, ?_⟩, fun j => World.frozen?_alloc_at _ _ _ _ rfl⟩
  · rw [hc _ (by omega), show j * 2 % 2 = 0 by omega]; rfl
  · rw [hc _ (by omega), show (j * 2 + 1) % 2 = 1 by omega]; rfl
end Go.Proofs.YthigdblloddepaaGreat
