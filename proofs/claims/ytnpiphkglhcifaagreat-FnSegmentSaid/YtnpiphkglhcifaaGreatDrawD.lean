/-
  CONTRACTS of the draws of chapter 5, continued: atoms.
-/
import Derived.Test.YtnpiphkglhcifaaGreatDrawK
import Derived.Test.YtnpiphkglhcifaaGreatAtRow
import Derived.Test.YtnpiphkglhcifaaGreatTransB
namespace Go.Proofs.YtnpiphkglhcifaaGreat
set_option maxRecDepth 100000
open Go.RowKit

theorem grown_allocA {w w' : World} {o : Obj} {row : Option Nat} (h : (w.alloc o).grownBy w' row) : w.grownBy w' row := Lib.grownBy_trans (World.grownBy_alloc w o row) h
/-- Is this a text of at most 40 bytes? -/
def smallB : Value → Bool
  | .string x => decide (x.size ≤ 40)
  | _ => false
def strOf : Value → ByteArray
  | .string x => x
  | _ => ByteArray.empty
theorem small_of {v : Value} (h : smallB v = true) : v = .string (strOf v) ∧ (strOf v).size ≤ 40 := by
  unfold smallB at h
  split at h
  · exact ⟨rfl, by simpa [strOf] using h⟩
  · cases h
/-- A text drawn from a new list of short texts. -/
theorem of_new (B N : Nat) (wx : World) (cs : Array Value) (n : Nat) (hcu : Cur wx B N) (hN : N ≤ 999000) (hall : cs.all smallB = true) (hn : cs.size = n) (h1 : 1 ≤ n) (h2 : n ≤ 60000) :
    Calls Tryz.prog 29 #[.pointer (some ⟨B, 0, none⟩), .slice (some ⟨wx.heap.size, 0, none⟩) n n] (wx.alloc (.cells cs 9)) fun e w' => Text 40 e ∧ Cur w' B (N + 2) ∧ wx.grownBy w' (some B) := by
  have hlt := hcu.lt
  rw [Array.all_eq_true_iff_forall_mem] at hall
  have hcs : cs = ((cs.toList.map strOf).map Value.string).toArray := by
    apply Array.toList_inj.1
    show cs.toList = (cs.toList.map strOf).map Value.string
    rw [List.map_map]
    conv => lhs; rw [← List.map_id cs.toList]
    exact List.map_congr_left fun v hv => (small_of (hall v (by simpa using hv))).1
  refine (of_any B N wx.heap.size n n (cs.toList.map strOf) _ (hcu.below ((Below.refl _ _).alloc (Nat.le_refl _) _)) hN (by omega) (by rw [World.size_alloc]; omega) (by rw [List.length_map, Array.length_toList]; exact hn) h1 h2 (alloc_strs wx cs _ _ hcs)).mono ?_
  rintro e w' ⟨⟨x, hx, rfl⟩, hc, hg⟩
  refine ⟨⟨x, ?_, rfl⟩, hc, grown_allocA hg⟩
  obtain ⟨v, hv, rfl⟩ := List.mem_map.1 hx
  exact (small_of (hall v (by simpa using hv))).2
theorem wordText_any (B N : Nat) (w : World) (h : Cur w B N) (hN : N ≤ 999000) :
    Calls Tryz.prog 78 #[.pointer (some ⟨B, 0, none⟩)] w fun e w' => Text 40 e ∧ Cur w' B (N + 2) ∧ w.grownBy w' (some B) := by
  have HC := Lib.hid h
  clear h
  go_enter Tryz.func78, Tryz.ntmps78
  go_wp2_with fail
  refine (of_new B N w _ 16 HC.out hN (by kernel_rfl) rfl (by omega) (by omega)).mono ?_
  rintro e w1 ⟨⟨x, hx, rfl⟩, hc1, hg1⟩
  have HC1 := Lib.hid hc1
  have HG1 := Lib.hid hg1
  clear hc1 hg1
  go_wp2
  go_ret
  exact ⟨⟨_, hx, rfl⟩, HC1.out, HG1.out⟩
/-- A drawn atom. -/
def DAtom (e : Ending) : Prop := ∃ (k : Int) (t : ByteArray), e = .returned (atV k t) ∧ t.size ≤ 40 ∧ -1 ≤ k ∧ k ≤ 20
/-- The block of a result that stands. -/
def ResA (w : World) (R : Nat) : Prop := ∃ k t, w.heap[R]? = some (.cells #[.int .i64 k, .string t] 96 (0, 0))
theorem ResA.grown {w w' : World} {R B : Nat} (h : ResA w R) (hg : w.grownBy w' (some B)) (hB : B ≠ R) : ResA w' R := by
  obtain ⟨k, t, h⟩ := h
  have hl : R < w.heap.size := (Array.getElem?_eq_some_iff.1 h).1
  exact ⟨k, t, (hg.block R hl (by simp; exact fun e => hB e.symm)).trans h⟩
theorem grown_setRow {w w' : World} {B R : Nat} (h : w.grownBy w' (some B)) (hR : w.heap.size ≤ R) (cs : Array Value) : w.grownBy (w'.setRow R cs) (some B) :=
  ⟨h.os, h.tape, h.output, by rw [setRow_size]; exact h.size, fun k hk hne => (setRow_other w' R k cs (by omega)).trans (h.block k hk hne)⟩
theorem Cur.setRow {w : World} {B N R : Nat} (h : Cur w B N) (hB : B < R) (cs : Array Value) : Cur (w.setRow R cs) B N :=
  h.keep ⟨rfl, rfl, rfl, by rw [setRow_size]; exact Nat.le_refl _, fun k hk => setRow_other w R k cs (by omega)⟩
set_option maxHeartbeats 4000000 in
theorem atom_any (B N : Nat) (w : World) (h : Cur w B N) (hN : N ≤ 990000) :
    Calls Tryz.prog 73 #[.pointer (some ⟨B, 0, none⟩)] w fun e w' => DAtom e ∧ Cur w' B (N + 4) ∧ w.grownBy w' (some B) := by
  have CP := Lib.hid (fun N n w h hN h0 h1 => pick_any B N n w h hN h0 h1)
  have CW := Lib.hid (fun N w h hN => wordText_any B N w h hN)
  have hlt := h.lt
  have HC0 := Lib.hid (h.below ((Below.refl _ _).alloc (Nat.le_refl _) (.cells #[.int .i64 0, .string ⟨#[]⟩] 96)))
  have HR0 : Hid (ResA (w.alloc (.cells #[.int .i64 0, .string ⟨#[]⟩] 96)) w.heap.size) := ⟨_, _, heap_alloc_new _ _⟩
  clear h
  go_enter Tryz.func73, Tryz.ntmps73
  go_wp2_with fail
  refine (CP.out _ _ _ HC0.out (by omega) (by omega) (by omega)).mono ?_
  rintro e w1 ⟨⟨r, r0, r1, rfl⟩, hc1, hg1⟩
  have HC1 := Lib.hid hc1
  have HR1 := Lib.hid (HR0.out.grown hg1 (by omega))
  have HG1 := Lib.hid (grown_allocA hg1)
  clear hc1 hg1 HR0 HC0
  have hN2 : N + 2 ≤ 999000 := by omega
  have hr : r = 0 ∨ r = 1 ∨ r = 2 ∨ r = 3 ∨ r = 4 ∨ r = 5 ∨ r = 6 ∨ r = 7 ∨ 8 ≤ r := by omega
  rcases hr with rfl | rfl | rfl | rfl | rfl | rfl | rfl | rfl | hr
  case inr.inr.inr.inr.inr.inr.inr.inl =>
    go_wp2_with fail
    refine (CP.out _ _ _ HC1.out (by omega) (by omega) (by omega)).mono ?_
    rintro e w2 ⟨⟨q, q0, q1, rfl⟩, hc2, hg2⟩
    have HC2 := Lib.hid hc2
    have HG2 := Lib.hid (Lib.grownBy_trans HG1.out hg2)
    obtain ⟨k0, t0, hR2⟩ := HR1.out.grown hg2 (by omega)
    have HR2 := Lib.hid hR2
    clear hc2 hg2 hR2 HR1 HC1 HG1
    go_wp2_with (with_reducible (show wpList _ _ _ (_ :: _) _ _); refine at_store rfl _ _ rfl w.heap.size (8 + q) ⟨#[]⟩ _ _ rfl rfl HR2.out ?_)
    (try simp only [Exit.inBlock, Exit.then])
    refine bodyPost_ret (results_cell_row rfl _ _ w.heap.size _ _ _ _ rfl (setRow_heap _ _ _ _ _ _ HR2.out) Tryz.underlying96 rfl (by kernel_rfl)) rfl ?_
    exact ⟨⟨_, _, rfl, by decide, by omega, by omega⟩, (HC2.out.mono (by omega)).setRow hlt _, grown_setRow HG2.out (Nat.le_refl _) _⟩
  case inr.inr.inr.inr.inr.inr.inr.inr =>
    have hn : ∀ n : Int, n ≤ 7 → (r == n) = false := fun n hn => by rw [beq_eq_false_iff_ne]; omega
    have n0 := hn 0 (by omega)
    have n1 := hn 1 (by omega)
    have n2 := hn 2 (by omega)
    have n3 := hn 3 (by omega)
    have n4 := hn 4 (by omega)
    have n5 := hn 5 (by omega)
    have n6 := hn 6 (by omega)
    have n7 := hn 7 (by omega)
    clear hn
    go_wp2_with fail
    refine (CW.out _ _ HC1.out (by omega)).mono ?_
    rintro e w2 ⟨⟨x, hx, rfl⟩, hc2, hg2⟩
    have HC2 := Lib.hid hc2
    have HG2 := Lib.hid (Lib.grownBy_trans HG1.out hg2)
    obtain ⟨k0, t0, hR2⟩ := HR1.out.grown hg2 (by omega)
    have HR2 := Lib.hid hR2
    clear hc2 hg2 hR2 HR1 HC1 HG1
    go_wp2_with (with_reducible (show wpList _ _ _ (_ :: _) _ _); refine at_store rfl _ _ rfl w.heap.size 1 x _ _ rfl rfl HR2.out ?_)
    (try simp only [Exit.inBlock, Exit.then])
    refine bodyPost_ret (results_cell_row rfl _ _ w.heap.size _ _ _ _ rfl (setRow_heap _ _ _ _ _ _ HR2.out) Tryz.underlying96 rfl (by kernel_rfl)) rfl ?_
    exact ⟨⟨_, _, rfl, hx, by omega, by omega⟩, (HC2.out.mono (by omega)).setRow hlt _, grown_setRow HG2.out (Nat.le_refl _) _⟩
  case inl =>
    go_wp2_with fail
    refine (of_new B (N + 2) w1 _ 6 HC1.out hN2 ?_ rfl (by decide) (by decide)).mono ?_
    · kernel_rfl
    rintro e w2 ⟨⟨x, hx, rfl⟩, hc2, hg2⟩
    have HC2 := Lib.hid hc2
    have HG2 := Lib.hid (Lib.grownBy_trans HG1.out hg2)
    obtain ⟨k0, t0, hR2⟩ := HR1.out.grown hg2 (by omega)
    have HR2 := Lib.hid hR2
    clear hc2 hg2 hR2 HR1 HC1 HG1
    go_wp2_with (with_reducible (show wpList _ _ _ (_ :: _) _ _); refine at_store rfl _ _ rfl w.heap.size 2 x _ _ rfl rfl HR2.out ?_)
    (try simp only [Exit.inBlock, Exit.then])
    refine bodyPost_ret (results_cell_row rfl _ _ w.heap.size _ _ _ _ rfl (setRow_heap _ _ _ _ _ _ HR2.out) Tryz.underlying96 rfl (by kernel_rfl)) rfl ?_
    exact ⟨⟨_, _, rfl, hx, by omega, by omega⟩, (HC2.out.mono (by omega)).setRow hlt _, grown_setRow HG2.out (Nat.le_refl _) _⟩
  case inr.inl =>
    go_wp2_with fail
    refine (of_new B (N + 2) w1 _ 6 HC1.out hN2 ?_ rfl (by decide) (by decide)).mono ?_
    · kernel_rfl
    rintro e w2 ⟨⟨x, hx, rfl⟩, hc2, hg2⟩
    have HC2 := Lib.hid hc2
    have HG2 := Lib.hid (Lib.grownBy_trans HG1.out hg2)
    obtain ⟨k0, t0, hR2⟩ := HR1.out.grown hg2 (by omega)
    have HR2 := Lib.hid hR2
    clear hc2 hg2 hR2 HR1 HC1 HG1
    go_wp2_with (with_reducible (show wpList _ _ _ (_ :: _) _ _); refine at_store rfl _ _ rfl w.heap.size 2 x _ _ rfl rfl HR2.out ?_)
    (try simp only [Exit.inBlock, Exit.then])
    refine bodyPost_ret (results_cell_row rfl _ _ w.heap.size _ _ _ _ rfl (setRow_heap _ _ _ _ _ _ HR2.out) Tryz.underlying96 rfl (by kernel_rfl)) rfl ?_
    exact ⟨⟨_, _, rfl, hx, by omega, by omega⟩, (HC2.out.mono (by omega)).setRow hlt _, grown_setRow HG2.out (Nat.le_refl _) _⟩
  case inr.inr.inl =>
    go_wp2_with fail
    refine (of_new B (N + 2) w1 _ 3 HC1.out hN2 ?_ rfl (by decide) (by decide)).mono ?_
    · kernel_rfl
    rintro e w2 ⟨⟨x, hx, rfl⟩, hc2, hg2⟩
    have HC2 := Lib.hid hc2
    have HG2 := Lib.hid (Lib.grownBy_trans HG1.out hg2)
    obtain ⟨k0, t0, hR2⟩ := HR1.out.grown hg2 (by omega)
    have HR2 := Lib.hid hR2
    clear hc2 hg2 hR2 HR1 HC1 HG1
    go_wp2_with (with_reducible (show wpList _ _ _ (_ :: _) _ _); refine at_store rfl _ _ rfl w.heap.size 3 x _ _ rfl rfl HR2.out ?_)
    (try simp only [Exit.inBlock, Exit.then])
    refine bodyPost_ret (results_cell_row rfl _ _ w.heap.size _ _ _ _ rfl (setRow_heap _ _ _ _ _ _ HR2.out) Tryz.underlying96 rfl (by kernel_rfl)) rfl ?_
    exact ⟨⟨_, _, rfl, hx, by omega, by omega⟩, (HC2.out.mono (by omega)).setRow hlt _, grown_setRow HG2.out (Nat.le_refl _) _⟩
  case inr.inr.inr.inl =>
    go_wp2_with fail
    refine (of_new B (N + 2) w1 _ 3 HC1.out hN2 ?_ rfl (by decide) (by decide)).mono ?_
    · kernel_rfl
    rintro e w2 ⟨⟨x, hx, rfl⟩, hc2, hg2⟩
    have HC2 := Lib.hid hc2
    have HG2 := Lib.hid (Lib.grownBy_trans HG1.out hg2)
    obtain ⟨k0, t0, hR2⟩ := HR1.out.grown hg2 (by omega)
    have HR2 := Lib.hid hR2
    clear hc2 hg2 hR2 HR1 HC1 HG1
    go_wp2_with (with_reducible (show wpList _ _ _ (_ :: _) _ _); refine at_store rfl _ _ rfl w.heap.size 4 x _ _ rfl rfl HR2.out ?_)
    (try simp only [Exit.inBlock, Exit.then])
    refine bodyPost_ret (results_cell_row rfl _ _ w.heap.size _ _ _ _ rfl (setRow_heap _ _ _ _ _ _ HR2.out) Tryz.underlying96 rfl (by kernel_rfl)) rfl ?_
    exact ⟨⟨_, _, rfl, hx, by omega, by omega⟩, (HC2.out.mono (by omega)).setRow hlt _, grown_setRow HG2.out (Nat.le_refl _) _⟩
  case inr.inr.inr.inr.inl =>
    go_wp2_with fail
    refine (of_new B (N + 2) w1 _ 3 HC1.out hN2 ?_ rfl (by decide) (by decide)).mono ?_
    · kernel_rfl
    rintro e w2 ⟨⟨x, hx, rfl⟩, hc2, hg2⟩
    have HC2 := Lib.hid hc2
    have HG2 := Lib.hid (Lib.grownBy_trans HG1.out hg2)
    obtain ⟨k0, t0, hR2⟩ := HR1.out.grown hg2 (by omega)
    have HR2 := Lib.hid hR2
    clear hc2 hg2 hR2 HR1 HC1 HG1
    go_wp2_with (with_reducible (show wpList _ _ _ (_ :: _) _ _); refine at_store rfl _ _ rfl w.heap.size 5 x _ _ rfl rfl HR2.out ?_)
    (try simp only [Exit.inBlock, Exit.then])
    refine bodyPost_ret (results_cell_row rfl _ _ w.heap.size _ _ _ _ rfl (setRow_heap _ _ _ _ _ _ HR2.out) Tryz.underlying96 rfl (by kernel_rfl)) rfl ?_
    exact ⟨⟨_, _, rfl, hx, by omega, by omega⟩, (HC2.out.mono (by omega)).setRow hlt _, grown_setRow HG2.out (Nat.le_refl _) _⟩
  case inr.inr.inr.inr.inr.inl =>
    go_wp2_with fail
    refine (of_new B (N + 2) w1 _ 3 HC1.out hN2 ?_ rfl (by decide) (by decide)).mono ?_
    · kernel_rfl
    rintro e w2 ⟨⟨x, hx, rfl⟩, hc2, hg2⟩
    have HC2 := Lib.hid hc2
    have HG2 := Lib.hid (Lib.grownBy_trans HG1.out hg2)
    obtain ⟨k0, t0, hR2⟩ := HR1.out.grown hg2 (by omega)
    have HR2 := Lib.hid hR2
    clear hc2 hg2 hR2 HR1 HC1 HG1
    go_wp2_with (with_reducible (show wpList _ _ _ (_ :: _) _ _); refine at_store rfl _ _ rfl w.heap.size 6 x _ _ rfl rfl HR2.out ?_)
    (try simp only [Exit.inBlock, Exit.then])
    refine bodyPost_ret (results_cell_row rfl _ _ w.heap.size _ _ _ _ rfl (setRow_heap _ _ _ _ _ _ HR2.out) Tryz.underlying96 rfl (by kernel_rfl)) rfl ?_
    exact ⟨⟨_, _, rfl, hx, by omega, by omega⟩, (HC2.out.mono (by omega)).setRow hlt _, grown_setRow HG2.out (Nat.le_refl _) _⟩
  case inr.inr.inr.inr.inr.inr.inl =>
    go_wp2_with fail
    refine (of_new B (N + 2) w1 _ 3 HC1.out hN2 ?_ rfl (by decide) (by decide)).mono ?_
    · kernel_rfl
    rintro e w2 ⟨⟨x, hx, rfl⟩, hc2, hg2⟩
    have HC2 := Lib.hid hc2
    have HG2 := Lib.hid (Lib.grownBy_trans HG1.out hg2)
    obtain ⟨k0, t0, hR2⟩ := HR1.out.grown hg2 (by omega)
    have HR2 := Lib.hid hR2
    clear hc2 hg2 hR2 HR1 HC1 HG1
    go_wp2_with (with_reducible (show wpList _ _ _ (_ :: _) _ _); refine at_store rfl _ _ rfl w.heap.size 7 x _ _ rfl rfl HR2.out ?_)
    (try simp only [Exit.inBlock, Exit.then])
    refine bodyPost_ret (results_cell_row rfl _ _ w.heap.size _ _ _ _ rfl (setRow_heap _ _ _ _ _ _ HR2.out) Tryz.underlying96 rfl (by kernel_rfl)) rfl ?_
    exact ⟨⟨_, _, rfl, hx, by omega, by omega⟩, (HC2.out.mono (by omega)).setRow hlt _, grown_setRow HG2.out (Nat.le_refl _) _⟩
end Go.Proofs.YtnpiphkglhcifaaGreat

namespace Go.Proofs.YtnpiphkglhcifaaGreat
set_option maxRecDepth 100000
open Go.RowKit

/-- The block A holds this atom, and nothing of it is frozen. -/
def AtB (w : World) (A : Nat) (k : Int) (t : ByteArray) : Prop := w.heap[A]? = some (.cells #[.int .i64 k, .string t] 96 (0, 0))
theorem AtB.grown {w w' : World} {A B : Nat} {k : Int} {t : ByteArray} (h : AtB w A k t) (hg : w.grownBy w' (some B)) (hB : B ≠ A) : AtB w' A k t := by
  have hl : A < w.heap.size := (Array.getElem?_eq_some_iff.1 h).1
  exact (hg.block A hl (by simp; exact fun e => hB e.symm)).trans h
theorem AtB.cells {w : World} {A : Nat} {k : Int} {t : ByteArray} (h : AtB w A k t) : w.cell? ⟨A, 0, none⟩ = some (.int .i64 k) ∧ w.cell? ⟨A, 1, none⟩ = some (.string t) ∧ w.frozen? ⟨A, 0, none⟩ = false ∧ w.frozen? ⟨A, 1, none⟩ = false := by
  refine ⟨?_, ?_, frozen_of_row _ _ _ _ _ h, frozen_of_row _ _ _ _ _ h⟩ <;> (rw [cell_of_row _ _ _ _ _ _ h]; rfl)
theorem grown_setCell {w w' : World} {B R : Nat} (h : w.grownBy w' (some B)) (hR : w.heap.size ≤ R) (o : Nat) (v : Value) : w.grownBy (w'.setCell ⟨R, o, none⟩ v) (some B) :=
  ⟨h.os, h.tape, h.output, by rw [World.size_setCell]; exact h.size, fun k hk hne => (heap_setCell_other w' ⟨R, o, none⟩ k v (by show k ≠ R; omega)).trans (h.block k hk hne)⟩
theorem Cur.setCellA {w : World} {B N R : Nat} (h : Cur w B N) (hB : B < R) (o : Nat) (v : Value) : Cur (w.setCell ⟨R, o, none⟩ v) B N :=
  h.keep ⟨rfl, rfl, rfl, by rw [World.size_setCell]; exact Nat.le_refl _, fun k hk => heap_setCell_other w ⟨R, o, none⟩ k v (by show k ≠ R; omega)⟩
end Go.Proofs.YtnpiphkglhcifaaGreat

namespace Go.Proofs.YtnpiphkglhcifaaGreat
set_option maxRecDepth 100000
open Go.RowKit

end Go.Proofs.YtnpiphkglhcifaaGreat

namespace Go.Proofs.YtnpiphkglhcifaaGreat
set_option maxRecDepth 100000
open Go.RowKit

theorem ownT_keep {w w' : World} {base B : Nat} {v : Value} {ls : List (Int × ByteArray)} (h : OwnT w base v ls) (hg : w.grownBy w' (some B)) (hB : B < base) : OwnT w' base v ls := by
  refine h.kept hg ?_
  rcases h.2 with ⟨rfl, _⟩ | ⟨g, cap, cur, rfl, hb, _⟩
  · exact .inl rfl
  · right
    intro e
    have : g = B := by simpa [Value.ownBlock] using e
    omega
theorem grown_rowA {w w1 w2 : World} {B : Nat} {row : Option Nat} (h : w.grownBy w1 (some B)) (hg : w1.grownBy w2 row) (hr : ∀ k, row = some k → w.heap.size ≤ k) : w.grownBy w2 (some B) :=
  ⟨hg.os.trans h.os, hg.tape.trans h.tape, hg.output.trans h.output, Nat.le_trans h.size hg.size, fun k hk hne => (hg.block k (Nat.lt_of_lt_of_le hk h.size) (fun e => by have := hr k e.symm; omega)).trans (h.block k hk hne)⟩
theorem Cur.rowA {w1 w2 : World} {B N : Nat} {row : Option Nat} (h : Cur w1 B N) (hg : w1.grownBy w2 row) (hr : ∀ k, row = some k → B < k) : Cur w2 B N :=
  h.keep ((Below.refl _ _).grown hg h.lt (fun k hk => hr k hk))
/-- A drawn atom's bounds. -/
def DA (e : Int × ByteArray) : Prop := e.2.size ≤ 40 ∧ -1 ≤ e.1 ∧ e.1 ≤ 20
set_option maxHeartbeats 2000000 in
theorem atoms_any (B N : Nat) (w : World) (h : Cur w B N) (hN : N ≤ 900000) :
    Calls Tryz.prog 65 #[.pointer (some ⟨B, 0, none⟩)] w fun e w' => (∃ (v : Value) (ls : List (Int × ByteArray)), e = .returned v ∧ OwnT w' w.heap.size v ls ∧ ls.length ≤ 4 ∧ ∀ x ∈ ls, DA x) ∧ Cur w' B (N + 50) ∧ w.grownBy w' (some B) := by
  have CP := Lib.hid (fun N n w h hN h0 h1 => pick_any B N n w h hN h0 h1)
  have CA := Lib.hid (fun N w h hN => atom_any B N w h hN)
  have hlt := h.lt
  have HC0 := Lib.hid (h.below ((Below.refl _ _).alloc (Nat.le_refl _) (.cells #[] 96)))
  have HO0 := Lib.hid (ownT_new w)
  clear h
  go_enter Tryz.func65, Tryz.ntmps65
  go_wp2_with fail
  refine (CP.out _ _ _ HC0.out (by omega) (by omega) (by omega)).mono ?_
  rintro e w1 ⟨⟨r, r0, r1, rfl⟩, hc1, hg1⟩
  obtain ⟨R, rfl⟩ := Int.eq_ofNat_of_zero_le r0
  have HC1 := Lib.hid hc1
  have HG1 := Lib.hid (grown_allocA hg1)
  have HO1 := Lib.hid (ownT_keep HO0.out hg1 hlt)
  clear hc1 hg1
  go_wp2_with fail
  go_loopw [3, 4] (fun l i wr => ∃ (k : Nat) (ls : List (Int × ByteArray)), i = .int .i64 k ∧ k ≤ 4 ∧ ls.length + k ≤ 4 ∧ Hid (OwnT wr w.heap.size l ls) ∧ Hid (∀ x ∈ ls, DA x) ∧ Hid (Cur wr B (N + 50 - 10 * k)) ∧ Hid (w.grownBy wr (some B))) (fun _ i _ => (intOf i).toNat)
  case atStart => exact ⟨1 + R, [], by go_num, by omega, by simp; omega, HO1, Lib.hid (fun x hx => by simp at hx), Lib.hid (HC1.out.mono (by omega)), HG1⟩
  case round =>
    obtain ⟨k, ls, rfl, hk, hlen, HO, HV, HC, HG⟩ := hrel
    by_cases hpos : 0 < k
    · have hpos' : (0 : Int) < (k : Int) := by omega
      go_wp2_with fail
      refine (CA.out _ _ HC.out (by omega)).mono ?_
      rintro e w3 ⟨⟨q, t, rfl, ht, hq0, hq1⟩, hc3, hg3⟩
      have HC3 := Lib.hid hc3
      have HG3 := Lib.hid (Lib.grownBy_trans HG.out hg3)
      have HO3 := Lib.hid (ownT_keep HO.out hg3 hlt)
      have hsz3 := HG3.out.size
      clear hc3 hg3 HO HC HG
      go_wp2_with (at_builtin; refine push_atom rfl _ _ rfl w.heap.size _ ls rfl HO3.out q t rfl hsz3 (by omega) ?_)
      intro v' w5 hown hg5 _
      have HO5 : Hid (OwnT w5 w.heap.size v' (ls ++ [(q, t)])) := hown
      have HC5 := Lib.hid (HC3.out.rowA hg5 (fun j hj => by have := row_ge HO3.out hj; omega))
      have HG5 := Lib.hid (grown_rowA HG3.out hg5 (fun j hj => row_ge HO3.out hj))
      have HV5 : Hid (∀ x ∈ ls ++ [(q, t)], DA x) := by
        intro x hx
        rw [List.mem_append] at hx
        rcases hx with hx | hx
        · exact HV.out x hx
        · simp at hx; subst hx; exact ⟨ht, hq0, hq1⟩
      clear hown hg5 HO3 HC3 HG3 HV
      go_wp2
      go_roundw
      case rel => exact ⟨k - 1, ls ++ [(q, t)], by first | go_num | (congr 1; omega), by omega, by rw [List.length_append]; simp; omega, HO5, HV5, Lib.hid (HC5.out.mono (by omega)), HG5⟩
      case measure => simp [intOf]; omega
    · obtain rfl : k = 0 := by omega
      go_wp2
      go_ret
      exact ⟨⟨_, ls, rfl, HO.out, by omega, HV.out⟩, HC.out.mono (by omega), HG.out⟩
theorem textB_ok {ls : List (Int × ByteArray)} (h : okL ls = true) : (textB ls).size ≤ 60 := by
  obtain ⟨h1, _, _, h4⟩ := okL_parts h
  have := textB_size (ls := ls) (by intro e; rw [e] at h1; simp at h1)
  omega
set_option maxHeartbeats 1000000 in
theorem translation_any (B N : Nat) (w : World) (h : Cur w B N) (hN : N ≤ 900000) :
    Calls Tryz.prog 53 #[.pointer (some ⟨B, 0, none⟩)] w fun e w' => Text 60 e ∧ Cur w' B (N + 50) ∧ w.grownBy w' (some B) := by
  have CA := Lib.hid (fun N w h hN => atoms_any B N w h hN)
  have CL := Lib.hid (fun v ls w h hn hx => l5List_any v ls w h hn hx)
  have CT := Lib.hid (fun v ls w h hn hx => l5Text_any v ls w h hn hx)
  have HC := Lib.hid h
  clear h
  go_enter Tryz.func53, Tryz.ntmps53
  go_wp2_with fail
  refine (CA.out N w HC.out hN).mono ?_
  rintro e w1 ⟨⟨v, ls, rfl, ho, hl, hd⟩, hc1, hg1⟩
  have HC1 := Lib.hid hc1
  have HG1 := Lib.hid hg1
  have hA := ownT_at ho
  have HA := Lib.hid hA
  have hx : ∀ e ∈ ls, e.2.size ≤ 1048600 := fun e he => by have := (hd e he).1; omega
  have cl := CL.out v ls w1 hA (by omega) hx
  have ct := fun w h => CT.out v ls w h (by omega) hx
  have htb := fun h => textB_ok (ls := ls) h
  obtain ⟨b, hb⟩ : ∃ b, b = okL ls := ⟨_, rfl⟩
  obtain ⟨x, hxx⟩ : ∃ x, x = textB ls := ⟨_, rfl⟩
  rw [← hb] at cl htb
  rw [← hxx] at ct htb
  have CL1 := Lib.hid cl
  have CT1 := Lib.hid ct
  have HTB := Lib.hid htb
  clear hc1 hg1 ho hA hx cl ct htb hb hxx hd CL CT
  go_wp2_with fail
  refine (CL1.out).mono ?_
  rintro e w2 ⟨rfl, hb2⟩
  have HC2 := Lib.hid (HC1.out.below hb2)
  have HG2 := Lib.hid (Lib.grownBy_below HG1.out hb2)
  have HA2 := Lib.hid (HA.out.below hb2)
  clear hb2 HC1 HG1 HA
  cases b
  · go_wp2
    go_ret
    exact ⟨⟨_, by decide, rfl⟩, HC2.out, HG2.out⟩
  · have hts := HTB.out (by first | rfl | trivial)
    go_wp2_with fail
    refine (CT1.out w2 HA2.out).mono ?_
    rintro e w3 ⟨rfl, hb3⟩
    have HC3 := Lib.hid (HC2.out.below hb3)
    have HG3 := Lib.hid (Lib.grownBy_below HG2.out hb3)
    clear hb3 HC2 HG2
    go_wp2
    go_ret
    exact ⟨⟨x, hts, rfl⟩, HC3.out, HG3.out⟩
end Go.Proofs.YtnpiphkglhcifaaGreat
