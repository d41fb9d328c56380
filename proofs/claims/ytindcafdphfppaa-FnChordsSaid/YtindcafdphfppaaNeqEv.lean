/-
  TWO EVENTS COMPARED as structs.
-/
import Derived.Test.YtindcafdphfppaaEvs
import Derived.Laws.StructEq
namespace Go.Proofs.Ytindcafdphfppaa
open Go.RowKit

theorem fields_ev : (Try.prog.fieldsOf 31).toList.map (fun f => (f.name, f.type, f.offset)) = [("Time", 3, 0), ("Key", 3, 1), ("Down", 4, 2)] := by kernel_rfl
/-- An event is itself. -/
theorem neqEv_same (e : Pl.Ev) (w : World) : (binOp .neq 31 (evV e) (evV e)).run Try.prog w = .ok (.bool false) w := by
  have h := fields_ev
  obtain ⟨fs, hfs⟩ : ∃ fs, fs = (Try.prog.fieldsOf 31).toList := ⟨_, rfl⟩
  rw [← hfs] at h
  match fs, h with
  | [f0, f1, f2], h =>
    simp at h
    obtain ⟨⟨a0, a1, a2⟩, ⟨b0, b1, b2⟩, c0, c1, c2⟩ := h
    rw [run_neq_struct, run_equalIn_agg _ _ _ _ _ (by kernel_rfl) (by kernel_rfl), ← hfs]
    have p0 : ∀ w, (part 3 #[.int .i64 e.t, .int .i64 e.k, .bool e.d] 0).run Try.prog w = .ok (.int .i64 e.t) w := fun w => by rfl
    have p1 : ∀ w, (part 3 #[.int .i64 e.t, .int .i64 e.k, .bool e.d] 1).run Try.prog w = .ok (.int .i64 e.k) w := fun w => by rfl
    have p2 : ∀ w, (part 4 #[.int .i64 e.t, .int .i64 e.k, .bool e.d] 2).run Try.prog w = .ok (.bool e.d) w := fun w => by rfl
    simp [Op.eqFields, a0, a1, a2, b0, b1, b2, c0, c1, c2, p0, p1, p2, run_equalIn_int _ _ _ _ _ _ _ Try.underlying3, run_equalIn_bool' _ _ _ _ _ Try.underlying4]
end Go.Proofs.Ytindcafdphfppaa
