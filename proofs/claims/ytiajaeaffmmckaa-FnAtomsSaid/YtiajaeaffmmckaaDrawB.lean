/-
  CONTRACTS of the draws of chapter 5, continued: anyAtom, DrawIsValidAtom, DrawFormatAtom.
-/
import Derived.Test.YtiajaeaffmmckaaDrawA
namespace Go.Proofs.Ytiajaeaffmmckaa
set_option maxRecDepth 100000
open Go.RowKit

/-- The block A holds this atom, and nothing of it is frozen. -/
def AtB (w : World) (A : Nat) (k : Int) (t : ByteArray) : Prop := w.heap[A]? = some (.cells #[.int .i64 k, .string t] 25 (0, 0))
theorem AtB.grown {w w' : World} {A B : Nat} {k : Int} {t : ByteArray} (h : AtB w A k t) (hg : w.grownBy w' (some B)) (hB : B ≠ A) : AtB w' A k t := by
  have hl : A < w.heap.size := (Array.getElem?_eq_some_iff.1 h).1
  exact (hg.block A hl (by simp; exact fun e => hB e.symm)).trans h
theorem AtB.cells {w : World} {A : Nat} {k : Int} {t : ByteArray} (h : AtB w A k t) : w.cell? ⟨A, 0, none⟩ = some (.int .i64 k) ∧ w.cell? ⟨A, 1, none⟩ = some (.string t) ∧ w.frozen? ⟨A, 0, none⟩ = false ∧ w.frozen? ⟨A, 1, none⟩ = false := by
  refine ⟨?_, ?_, frozen_of_row _ _ _ _ _ h, frozen_of_row _ _ _ _ _ h⟩ <;> (rw [cell_of_row _ _ _ _ _ _ h]; rfl)
theorem grown_setCell {w w' : World} {B R : Nat} (h : w.grownBy w' (some B)) (hR : w.heap.size ≤ R) (o : Nat) (v : Value) : w.grownBy (w'.setCell ⟨R, o, none⟩ v) (some B) :=
  ⟨h.os, h.tape, h.output, by rw [World.size_setCell]; exact h.size, fun k hk hne => (heap_setCell_other w' ⟨R, o, none⟩ k v (by show k ≠ R; omega)).trans (h.block k hk hne)⟩
theorem Cur.setCellA {w : World} {B N R : Nat} (h : Cur w B N) (hB : B < R) (o : Nat) (v : Value) : Cur (w.setCell ⟨R, o, none⟩ v) B N :=
  h.keep ⟨rfl, rfl, rfl, by rw [World.size_setCell]; exact Nat.le_refl _, fun k hk => heap_setCell_other w ⟨R, o, none⟩ k v (by show k ≠ R; omega)⟩
set_option maxHeartbeats 4000000 in
theorem anyAtom_any (B N : Nat) (w : World) (h : Cur w B N) (hN : N ≤ 980000) :
    Calls Try.prog 58 #[.pointer (some ⟨B, 0, none⟩)] w fun e w' => DAtom e ∧ Cur w' B (N + 8) ∧ w.grownBy w' (some B) := by
  have CP := Lib.hid (fun N n w h hN h0 h1 => pick_any B N n w h hN h0 h1)
  have CA := Lib.hid (fun N w h hN => atom_any B N w h hN)
  have hlt := h.lt
  have HC0 := Lib.hid (h.below ((Below.refl _ _).alloc (Nat.le_refl _) (.cells #[.int .i64 0, .string ⟨#[]⟩] 25)))
  have HR0 : Hid (AtB (w.alloc (.cells #[.int .i64 0, .string ⟨#[]⟩] 25)) w.heap.size 0 ⟨#[]⟩) := heap_alloc_new _ _
  clear h
  go_enter Try.func58, Try.ntmps58
  go_wp2_with fail
  refine (CA.out _ _ HC0.out (by omega)).mono ?_
  rintro e w1 ⟨⟨k, t, rfl, ht, hk0, hk1⟩, hc1, hg1⟩
  have hl1 : w.heap.size < w1.heap.size := by have := hg1.size; rw [World.size_alloc] at this; omega
  have HR1 : Hid (AtB (w1.alloc (.cells #[.int .i64 k, .string t] 25)) w.heap.size 0 ⟨#[]⟩) := (heap_alloc_old _ _ hl1).trans (HR0.out.grown hg1 (by omega))
  have HA1 : Hid (AtB (w1.alloc (.cells #[.int .i64 k, .string t] 25)) w1.heap.size k t) := heap_alloc_new _ _
  have HG1 := Lib.hid (Lib.grownBy_trans (grown_allocA hg1) (World.grownBy_alloc w1 (.cells #[.int .i64 k, .string t] 25) (some B)))
  have HC1 := Lib.hid (hc1.below ((Below.refl _ _).alloc (Nat.le_refl _) (.cells #[.int .i64 k, .string t] 25)))
  clear hc1 hg1 HR0 HC0
  go_wp2_with fail
  refine (CP.out _ _ _ HC1.out (by omega) (by omega) (by omega)).mono ?_
  rintro e w2 ⟨⟨r, r0, r1, rfl⟩, hc2, hg2⟩
  have HC2 := Lib.hid hc2
  have HR2 := Lib.hid (HR1.out.grown hg2 (by omega))
  have HA2 := Lib.hid (HA1.out.grown hg2 (by omega))
  have HG2 := Lib.hid (Lib.grownBy_trans HG1.out hg2)
  clear hc2 hg2 HR1 HA1 HC1 HG1
  have hN2 : N + 4 + 2 ≤ 999000 := by omega
  have hr : r = 0 ∨ r = 1 ∨ 2 ≤ r := by omega
  rcases hr with rfl | rfl | hr
  · go_wp2_with fail
    refine (CP.out _ _ _ HC2.out (by omega) (by omega) (by omega)).mono ?_
    rintro e w3 ⟨⟨q, q0, q1, rfl⟩, hc3, hg3⟩
    have HA3 := HA2.out.grown hg3 (by omega)
    obtain ⟨c0, c1, f0, f1⟩ := HA3.cells
    have HR3 := HR2.out.grown hg3 (by omega)
    have HR4 : Hid (AtB (w3.setCell ⟨w1.heap.size, 0, none⟩ (.int .i64 (q - 1))) w.heap.size 0 ⟨#[]⟩) := (heap_setCell_other _ _ _ _ (by show w.heap.size ≠ w1.heap.size; omega)).trans HR3
    have HC4 := Lib.hid (hc3.setCellA (R := w1.heap.size) (by omega) 0 (.int .i64 (q - 1)))
    have HG4 := Lib.hid (grown_setCell (Lib.grownBy_trans HG2.out hg3) (R := w1.heap.size) (by omega) 0 (.int .i64 (q - 1)))
    have HR4' : Hid ((w3.setCell ⟨w1.heap.size, 0, none⟩ (.int .i64 (q - 1))).heap[w.heap.size]? = some (.cells #[.int .i64 0, .string ⟨#[]⟩] 25 (0, 0))) := HR4
    clear hc3 hg3 HA3 HR3 HR2 HA2 HC2 HG2 HR4
    go_wp2_with (with_reducible (show wpList _ _ _ (_ :: _) _ _); refine at_store rfl _ _ rfl w.heap.size (q - 1) t 0 ⟨#[]⟩ rfl rfl HR4'.out ?_)
    (try simp only [Exit.inBlock, Exit.then])
    refine bodyPost_ret (results_cell_row rfl _ _ w.heap.size _ _ _ _ rfl (setRow_heap _ _ _ _ _ _ HR4'.out) Try.underlying25 rfl (by kernel_rfl)) rfl ?_
    exact ⟨⟨_, _, rfl, ht, by omega, by omega⟩, (HC4.out.mono (by omega)).setRow hlt _, grown_setRow HG4.out (Nat.le_refl _) _⟩
  · go_wp2_with fail
    refine (of_new B (N + 4 + 2) w2 _ 9 HC2.out hN2 ?_ rfl (by decide) (by decide)).mono ?_
    · kernel_rfl
    rintro e w3 ⟨⟨x, hx, rfl⟩, hc3, hg3⟩
    have HA3 := HA2.out.grown hg3 (by omega)
    obtain ⟨c0, c1, f0, f1⟩ := HA3.cells
    have HR3 := HR2.out.grown hg3 (by omega)
    have HR4 : Hid (AtB (w3.setCell ⟨w1.heap.size, 1, none⟩ (.string x)) w.heap.size 0 ⟨#[]⟩) := (heap_setCell_other _ _ _ _ (by show w.heap.size ≠ w1.heap.size; omega)).trans HR3
    have HC4 := Lib.hid (hc3.setCellA (R := w1.heap.size) (by omega) 1 (.string x))
    have HG4 := Lib.hid (grown_setCell (Lib.grownBy_trans HG2.out hg3) (R := w1.heap.size) (by omega) 1 (.string x))
    have HR4' : Hid ((w3.setCell ⟨w1.heap.size, 1, none⟩ (.string x)).heap[w.heap.size]? = some (.cells #[.int .i64 0, .string ⟨#[]⟩] 25 (0, 0))) := HR4
    clear hc3 hg3 HA3 HR3 HR2 HA2 HC2 HG2 HR4
    go_wp2_with (with_reducible (show wpList _ _ _ (_ :: _) _ _); refine at_store rfl _ _ rfl w.heap.size k x 0 ⟨#[]⟩ rfl rfl HR4'.out ?_)
    (try simp only [Exit.inBlock, Exit.then])
    refine bodyPost_ret (results_cell_row rfl _ _ w.heap.size _ _ _ _ rfl (setRow_heap _ _ _ _ _ _ HR4'.out) Try.underlying25 rfl (by kernel_rfl)) rfl ?_
    exact ⟨⟨_, _, rfl, hx, by omega, by omega⟩, (HC4.out.mono (by omega)).setRow hlt _, grown_setRow HG4.out (Nat.le_refl _) _⟩
  · have hR2 : w2.heap[w.heap.size]? = some (.cells #[.int .i64 0, .string ⟨#[]⟩] 25 (0, 0)) := HR2.out
    have HR2' := Lib.hid hR2
    clear hR2
    have n0 : (r == 0) = false := by rw [beq_eq_false_iff_ne]; omega
    have n1 : (r == 1) = false := by rw [beq_eq_false_iff_ne]; omega
    obtain ⟨c0, c1, f0, f1⟩ := HA2.out.cells
    go_wp2_with (with_reducible (show wpList _ _ _ (_ :: _) _ _); refine at_store rfl (.tmp 2) (.tmp 20) rfl w.heap.size k t 0 ⟨#[]⟩ rfl rfl HR2'.out ?_)
    (try simp only [Exit.inBlock, Exit.then])
    refine bodyPost_ret (results_cell_row rfl _ _ w.heap.size _ _ _ _ rfl (setRow_heap _ _ _ _ _ _ HR2'.out) Try.underlying25 rfl (by kernel_rfl)) rfl ?_
    exact ⟨⟨_, _, rfl, ht, by omega, by omega⟩, (HC2.out.mono (by omega)).setRow hlt _, grown_setRow HG2.out (Nat.le_refl _) _⟩
set_option maxHeartbeats 1000000 in
theorem drawValidAtom_any (a : Option Addr) (n cap : Nat) (w : World) (h : CodeAt w a n) :
    Calls Try.prog 40 #[.slice a n cap] w fun e w' => DAtom e ∧ Below w.heap.size w w' := by
  have CA := Lib.hid (fun B N w h hN => anyAtom_any B N w h hN)
  have HK0 := Lib.hid (h.below ((Below.refl _ _).alloc (Nat.le_refl _) (.cells #[.int .i64 0, .string ⟨#[]⟩] 25)))
  have hc0 := cur_new _ a n cap 64 HK0.out
  rw [World.size_alloc] at hc0
  have HC0 := Lib.hid hc0
  have HR0 : Hid (AtB ((w.alloc (.cells #[.int .i64 0, .string ⟨#[]⟩] 25)).alloc (.cells #[.slice a n cap, .int .i64 0, .int .u64 0] 64)) w.heap.size 0 ⟨#[]⟩) := (heap_alloc_old _ _ (by rw [World.size_alloc]; omega)).trans (heap_alloc_new _ _)
  have HB0 : Hid (Below w.heap.size w ((w.alloc (.cells #[.int .i64 0, .string ⟨#[]⟩] 25)).alloc (.cells #[.slice a n cap, .int .i64 0, .int .u64 0] 64))) := ((Below.refl _ _).alloc (Nat.le_refl _) _).alloc (by rw [World.size_alloc]; omega) _
  clear h hc0 HK0
  go_enter Try.func40, Try.ntmps40
  go_wp2_with fail
  refine (CA.out (w.heap.size + 1) 0 _ HC0.out (by decide)).mono ?_
  rintro e w1 ⟨⟨k, t, rfl, ht, hk0, hk1⟩, _, hg⟩
  have hR := HR0.out.grown hg (by omega)
  have HR1' : Hid (w1.heap[w.heap.size]? = some (.cells #[.int .i64 0, .string ⟨#[]⟩] 25 (0, 0))) := hR
  have HB1 : Hid (Below w.heap.size w w1) := HB0.out.grown hg (by simp; omega) (fun j hj => by injection hj with hj; omega)
  clear hg hR HR0 HB0 HC0
  go_wp2_with (with_reducible (show wpList _ _ _ (_ :: _) _ _); refine at_store rfl _ _ rfl w.heap.size k t 0 ⟨#[]⟩ rfl rfl HR1'.out ?_)
  (try simp only [Exit.inBlock, Exit.then])
  refine bodyPost_ret (results_cell_row rfl _ _ w.heap.size _ _ _ _ rfl (setRow_heap _ _ _ _ _ _ HR1'.out) Try.underlying25 rfl (by kernel_rfl)) rfl ?_
  exact ⟨⟨_, _, rfl, ht, hk0, hk1⟩, below_setRow HB1.out (Nat.le_refl _) _⟩
theorem drawFormatAtom_any (a : Option Addr) (n cap : Nat) (w : World) (h : CodeAt w a n) :
    Calls Try.prog 12 #[.slice a n cap] w fun e w' => DAtom e ∧ Below w.heap.size w w' := by
  have CA := Lib.hid (fun w h => drawValidAtom_any a n cap w h)
  have HK0 := Lib.hid (h.below ((Below.refl _ _).alloc (Nat.le_refl _) (.cells #[.int .i64 0, .string ⟨#[]⟩] 25)))
  clear h
  go_enter Try.func12, Try.ntmps12
  go_wp2_with fail
  refine (CA.out _ HK0.out).mono ?_
  rintro e w1 ⟨⟨k, t, rfl, ht, hk0, hk1⟩, hb⟩
  have HR1' : Hid (w1.heap[w.heap.size]? = some (.cells #[.int .i64 0, .string ⟨#[]⟩] 25 (0, 0))) := (hb.block _ (by rw [World.size_alloc]; omega)).trans (heap_alloc_new _ _)
  have HB1 : Hid (Below w.heap.size w w1) := ((Below.refl _ _).alloc (Nat.le_refl _) _).trans (hb.mono (by rw [World.size_alloc]; omega))
  clear hb HK0
  go_wp2_with (with_reducible (show wpList _ _ _ (_ :: _) _ _); refine at_store rfl _ _ rfl w.heap.size k t 0 ⟨#[]⟩ rfl rfl HR1'.out ?_)
  (try simp only [Exit.inBlock, Exit.then])
  refine bodyPost_ret (results_cell_row rfl _ _ w.heap.size _ _ _ _ rfl (setRow_heap _ _ _ _ _ _ HR1'.out) Try.underlying25 rfl (by kernel_rfl)) rfl ?_
  exact ⟨⟨_, _, rfl, ht, hk0, hk1⟩, below_setRow HB1.out (Nat.le_refl _) _⟩
end Go.Proofs.Ytiajaeaffmmckaa
