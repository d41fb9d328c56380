/-
  TWO ATOMS COMPARED as structs.
-/
import Derived.Test.YtiajaeaffmmckaaAtoms
import Derived.Test.YtiajaeaffmmckaaAtomS
import Derived.Laws.StructEq
namespace Go.Proofs.Ytiajaeaffmmckaa
set_option maxRecDepth 100000
open Go.RowKit

theorem below_drewA {B : Nat} {a w : World} (h : Below B a w) (n : Nat) : Below B a (w.drewN n) := h.trans ⟨rfl, rfl, rfl, Nat.le_refl _, fun _ _ => rfl⟩
theorem fields_at : (Try.prog.fieldsOf 25).toList.map (fun f => (f.name, f.type, f.offset)) = [("Kind", 3, 0), ("Text", 9, 1)] := by kernel_rfl
set_option maxRecDepth 100000 in
/-- An atom is itself. -/
theorem neqAt_same (k : Int) (t : ByteArray) (w : World) : (binOp .neq 25 (atV k t) (atV k t)).run Try.prog w = .ok (.bool false) w := by
  have h := fields_at
  obtain ⟨fs, hfs⟩ : ∃ fs, fs = (Try.prog.fieldsOf 25).toList := ⟨_, rfl⟩
  rw [← hfs] at h
  match fs, h with
  | [f0, f1], h =>
    simp at h
    obtain ⟨⟨a0, a1, a2⟩, b0, b1, b2⟩ := h
    rw [run_neq_struct, run_equalIn_agg _ _ _ _ _ (by kernel_rfl) (by kernel_rfl), ← hfs]
    have p0 : ∀ w, (part 3 #[.int .i64 k, .string t] 0).run Try.prog w = .ok (.int .i64 k) w := fun w => by rfl
    have p1 : ∀ w, (part 9 #[.int .i64 k, .string t] 1).run Try.prog w = .ok (.string t) w := fun w => by rfl
    simp [Op.eqFields, a0, a1, a2, b0, b1, b2, p0, p1, run_equalIn_int _ _ _ _ _ _ _ Try.underlying3, run_equalIn_string _ _ _ _ _ Try.underlying9]
set_option maxRecDepth 100000 in
/-- An atom is itself. -/
theorem eqlAt_same (k : Int) (t : ByteArray) (w : World) : (binOp .eql 25 (atV k t) (atV k t)).run Try.prog w = .ok (.bool true) w := by
  have h := fields_at
  obtain ⟨fs, hfs⟩ : ∃ fs, fs = (Try.prog.fieldsOf 25).toList := ⟨_, rfl⟩
  rw [← hfs] at h
  match fs, h with
  | [f0, f1], h =>
    simp at h
    obtain ⟨⟨a0, a1, a2⟩, b0, b1, b2⟩ := h
    rw [run_eql_struct, run_equalIn_agg _ _ _ _ _ (by kernel_rfl) (by kernel_rfl), ← hfs]
    have p0 : ∀ w, (part 3 #[.int .i64 k, .string t] 0).run Try.prog w = .ok (.int .i64 k) w := fun w => by rfl
    have p1 : ∀ w, (part 9 #[.int .i64 k, .string t] 1).run Try.prog w = .ok (.string t) w := fun w => by rfl
    simp [Op.eqFields, a0, a1, a2, b0, b1, b2, p0, p1, run_equalIn_int _ _ _ _ _ _ _ Try.underlying3, run_equalIn_string _ _ _ _ _ Try.underlying9]
set_option maxHeartbeats 1000000 in
theorem vAs_same (v u : Value) (ls : List Atm) (w : World) (hv : AtomsAt w v ls) (hu : AtomsAt w u ls) (hn : ls.length ≤ 2097152) :
    Calls Try.prog 27 #[v, u] w fun e w' => e = .returned (.bool true) ∧ Below w.heap.size w w' := by
  rcases Nat.eq_zero_or_pos ls.length with h0 | h0
  · obtain ⟨a, cap, rfl, _⟩ := hv.len
    obtain ⟨a', cap', rfl, _⟩ := hu.len
    rw [h0]
    clear hv hu h0
    go_enter Try.func27, Try.ntmps27
    go_wp2
    refine wp_loop_rounds 1 ?_
    rw [rounds_succ]
    go_wp2
    go_ret
    exact ⟨rfl, Below.refl _ _⟩
  · obtain ⟨bk, o, cap, rfl, hcap, _, hC⟩ := hv.some h0
    obtain ⟨bk', o', cap', rfl, hcap', _, hD⟩ := hu.some h0
    obtain ⟨n, hnn⟩ : ∃ n, n = ls.length := ⟨_, rfl⟩
    rw [← hnn] at hn hcap hcap' h0 ⊢
    have HN := Lib.hid hnn
    have HC := Lib.hid hC
    have HD := Lib.hid hD
    clear hv hu hnn hC hD
    go_enter Try.func27, Try.ntmps27
    go_wp2_with fail
    go_loopw [5] (fun i wr => ∃ k : Nat, k ≤ n ∧ i = .int .i64 k ∧ Below w.heap.size w wr) (fun i _ => n - (intOf i).toNat)
    case atStart => exact ⟨0, Nat.zero_le _, rfl, Below.refl _ _⟩
    case round =>
      obtain ⟨k, hk, rfl, hbel⟩ := hrel
      by_cases hlt : k < n
      · obtain ⟨e, he⟩ : ∃ e, ls[k]? = some e := ⟨_, List.getElem?_eq_getElem (by rw [← HN.out]; exact hlt)⟩
        obtain ⟨g0, g1⟩ := HC.out wr hbel k e he
        obtain ⟨d0, d1⟩ := HD.out wr hbel k e he
        have hcmp := fun w => neqAt_same e.1 e.2 w
        clear he
        go_wp2_with fail
        go_quiet (fail)
        go_wp2
        go_roundw
        case rel => exact ⟨k + 1, by omega, by go_num, below_drewA hbel nq⟩
        case measure => simp [intOf]; omega
      · obtain rfl : k = n := by omega
        go_wp2
        go_ret
        exact ⟨rfl, hbel⟩
end Go.Proofs.Ytiajaeaffmmckaa
