/-
  CONTRACTS of the draws of chapter 12: valid atoms, sequences of them. Written by gen_drawg.py out of XDrawD.
-/
import Derived.Test.YtnpiphkglhcifaaGreatDoorDrawD
import Derived.Test.YtnpiphkglhcifaaGreatDoorFm
namespace Go.Proofs.YtnpiphkglhcifaaGreatDoor
set_option maxRecDepth 100000
open Go.RowKit

def okV (p : ByteArray → Bool) : Value → Bool
  | .string x => p x
  | _ => false
theorem okV_of {p : ByteArray → Bool} {v : Value} (h : okV p v = true) : v = .string (strOf v) ∧ p (strOf v) = true := by
  unfold okV at h
  split at h
  · exact ⟨rfl, h⟩
  · cases h
def goodK (k : Int) (t : ByteArray) : Bool := Pl.goodA k (by8 t)
def TextG (p : ByteArray → Bool) (e : Ending) : Prop := ∃ x : ByteArray, p x = true ∧ e = .returned (.string x)
/-- A text drawn from a new list of texts of which p holds. -/
theorem of_newG (p : ByteArray → Bool) (B N : Nat) (wx : World) (cs : Array Value) (n : Nat) (hcu : Cur wx B N) (hN : N ≤ 999000) (hall : cs.all (okV p) = true) (hn : cs.size = n) (h1 : 1 ≤ n) (h2 : n ≤ 60000) :
    Calls Tryz.prog 34 #[.pointer (some ⟨B, 0, none⟩), .slice (some ⟨wx.heap.size, 0, none⟩) n n] (wx.alloc (.cells cs 9)) fun e w' => TextG p e ∧ Cur w' B (N + 2) ∧ wx.grownBy w' (some B) := by
  have hlt := hcu.lt
  rw [Array.all_eq_true_iff_forall_mem] at hall
  have hcs : cs = ((cs.toList.map strOf).map Value.string).toArray := by
    apply Array.toList_inj.1
    show cs.toList = (cs.toList.map strOf).map Value.string
    rw [List.map_map]
    conv => lhs; rw [← List.map_id cs.toList]
    exact List.map_congr_left fun v hv => (okV_of (hall v (by simpa using hv))).1
  refine (of_any B N wx.heap.size n n (cs.toList.map strOf) _ (hcu.below ((Below.refl _ _).alloc (Nat.le_refl _) _)) hN (by omega) (by rw [World.size_alloc]; omega) (by rw [List.length_map, Array.length_toList]; exact hn) h1 h2 (alloc_strs wx cs _ _ hcs)).mono ?_
  rintro e w' ⟨⟨x, hx, rfl⟩, hc, hg⟩
  refine ⟨⟨x, ?_, rfl⟩, hc, grown_allocA hg⟩
  obtain ⟨v, hv, rfl⟩ := List.mem_map.1 hx
  exact (okV_of (hall v (by simpa using hv))).2
theorem wordTextG_any (B N : Nat) (w : World) (h : Cur w B N) (hN : N ≤ 999000) :
    Calls Tryz.prog 53 #[.pointer (some ⟨B, 0, none⟩)] w fun e w' => TextG (goodK 1) e ∧ Cur w' B (N + 2) ∧ w.grownBy w' (some B) := by
  have HC := Lib.hid h
  clear h
  go_enter Tryz.func53, Tryz.ntmps53
  go_wp2_with fail
  refine (of_newG (goodK 1) B N w _ 16 HC.out hN (by kernel_rfl) rfl (by omega) (by omega)).mono ?_
  rintro e w1 ⟨⟨x, hx, rfl⟩, hc1, hg1⟩
  have HC1 := Lib.hid hc1
  have HG1 := Lib.hid hg1
  clear hc1 hg1
  go_wp2
  go_ret
  exact ⟨⟨_, hx, rfl⟩, HC1.out, HG1.out⟩
/-- A drawn valid atom. -/
def DAtomG (e : Ending) : Prop := ∃ (k : Int) (t : ByteArray), e = .returned (atV k t) ∧ goodE (k, t) = true
theorem good_cmd (q : Int) (h0 : 0 ≤ q) (h1 : q < 3) : goodE (8 + q, ⟨#[]⟩) = true := by
  have : q = 0 ∨ q = 1 ∨ q = 2 := by omega
  rcases this with rfl | rfl | rfl <;> rfl
set_option maxHeartbeats 4000000 in
theorem atomG_any (B N : Nat) (w : World) (h : Cur w B N) (hN : N ≤ 990000) :
    Calls Tryz.prog 37 #[.pointer (some ⟨B, 0, none⟩)] w fun e w' => DAtomG e ∧ Cur w' B (N + 4) ∧ w.grownBy w' (some B) := by
  have CP := Lib.hid (fun N n w h hN h0 h1 => pick_any B N n w h hN h0 h1)
  have CW := Lib.hid (fun N w h hN => wordTextG_any B N w h hN)
  have hlt := h.lt
  have HC0 := Lib.hid (h.below ((Below.refl _ _).alloc (Nat.le_refl _) (.cells #[.int .i64 0, .string ⟨#[]⟩] 33)))
  have HR0 : Hid (ResA (w.alloc (.cells #[.int .i64 0, .string ⟨#[]⟩] 33)) w.heap.size) := ⟨_, _, heap_alloc_new _ _⟩
  clear h
  go_enter Tryz.func37, Tryz.ntmps37
  go_wp2_with fail
  refine (CP.out _ _ _ HC0.out (by omega) (by omega) (by omega)).mono ?_
  rintro e w1 ⟨⟨r, r0, r1, rfl⟩, hc1, hg1⟩
  have HC1 := Lib.hid hc1
  have HR1 := Lib.hid (HR0.out.grown hg1 (by omega))
  have HG1 := Lib.hid (grown_allocA hg1)
  clear hc1 hg1 HR0 HC0
  have hN2 : N + 2 ≤ 999000 := by omega
  have hr : r = 0 ∨ r = 1 ∨ r = 2 ∨ r = 3 ∨ r = 4 ∨ r = 5 ∨ r = 6 ∨ r = 7 ∨ 8 ≤ r := by omega
  rcases hr with rfl | rfl | rfl | rfl | rfl | rfl | rfl | rfl | hr
  case inr.inr.inr.inr.inr.inr.inr.inl =>
    go_wp2_with fail
    refine (CP.out _ _ _ HC1.out (by omega) (by omega) (by omega)).mono ?_
    rintro e w2 ⟨⟨q, q0, q1, rfl⟩, hc2, hg2⟩
    have HC2 := Lib.hid hc2
    have HG2 := Lib.hid (Lib.grownBy_trans HG1.out hg2)
    obtain ⟨k0, t0, hR2⟩ := HR1.out.grown hg2 (by omega)
    have HR2 := Lib.hid hR2
    clear hc2 hg2 hR2 HR1 HC1 HG1
    go_wp2_with (with_reducible (show wpList _ _ _ (_ :: _) _ _); refine at_store rfl _ _ rfl w.heap.size (8 + q) ⟨#[]⟩ _ _ rfl rfl HR2.out ?_)
    (try simp only [Exit.inBlock, Exit.then])
    refine bodyPost_ret (results_cell_row rfl _ _ w.heap.size _ _ _ _ rfl (setRow_heap _ _ _ _ _ _ HR2.out) Tryz.underlying33 rfl (by kernel_rfl)) rfl ?_
    exact ⟨⟨_, _, rfl, good_cmd q q0 q1⟩, (HC2.out.mono (by omega)).setRow hlt _, grown_setRow HG2.out (Nat.le_refl _) _⟩
  case inr.inr.inr.inr.inr.inr.inr.inr =>
    have hn : ∀ n : Int, n ≤ 7 → (r == n) = false := fun n hn => by rw [beq_eq_false_iff_ne]; omega
    have n0 := hn 0 (by omega)
    have n1 := hn 1 (by omega)
    have n2 := hn 2 (by omega)
    have n3 := hn 3 (by omega)
    have n4 := hn 4 (by omega)
    have n5 := hn 5 (by omega)
    have n6 := hn 6 (by omega)
    have n7 := hn 7 (by omega)
    clear hn
    go_wp2_with fail
    refine (CW.out _ _ HC1.out (by omega)).mono ?_
    rintro e w2 ⟨⟨x, hx, rfl⟩, hc2, hg2⟩
    have HC2 := Lib.hid hc2
    have HG2 := Lib.hid (Lib.grownBy_trans HG1.out hg2)
    obtain ⟨k0, t0, hR2⟩ := HR1.out.grown hg2 (by omega)
    have HR2 := Lib.hid hR2
    clear hc2 hg2 hR2 HR1 HC1 HG1
    go_wp2_with (with_reducible (show wpList _ _ _ (_ :: _) _ _); refine at_store rfl _ _ rfl w.heap.size 1 x _ _ rfl rfl HR2.out ?_)
    (try simp only [Exit.inBlock, Exit.then])
    refine bodyPost_ret (results_cell_row rfl _ _ w.heap.size _ _ _ _ rfl (setRow_heap _ _ _ _ _ _ HR2.out) Tryz.underlying33 rfl (by kernel_rfl)) rfl ?_
    exact ⟨⟨_, _, rfl, hx⟩, (HC2.out.mono (by omega)).setRow hlt _, grown_setRow HG2.out (Nat.le_refl _) _⟩
  case inl =>
    go_wp2_with fail
    refine (of_newG (goodK 2) B (N + 2) w1 _ 6 HC1.out hN2 ?_ rfl (by decide) (by decide)).mono ?_
    · kernel_rfl
    rintro e w2 ⟨⟨x, hx, rfl⟩, hc2, hg2⟩
    have HC2 := Lib.hid hc2
    have HG2 := Lib.hid (Lib.grownBy_trans HG1.out hg2)
    obtain ⟨k0, t0, hR2⟩ := HR1.out.grown hg2 (by omega)
    have HR2 := Lib.hid hR2
    clear hc2 hg2 hR2 HR1 HC1 HG1
    go_wp2_with (with_reducible (show wpList _ _ _ (_ :: _) _ _); refine at_store rfl _ _ rfl w.heap.size 2 x _ _ rfl rfl HR2.out ?_)
    (try simp only [Exit.inBlock, Exit.then])
    refine bodyPost_ret (results_cell_row rfl _ _ w.heap.size _ _ _ _ rfl (setRow_heap _ _ _ _ _ _ HR2.out) Tryz.underlying33 rfl (by kernel_rfl)) rfl ?_
    exact ⟨⟨_, _, rfl, hx⟩, (HC2.out.mono (by omega)).setRow hlt _, grown_setRow HG2.out (Nat.le_refl _) _⟩
  case inr.inl =>
    go_wp2_with fail
    refine (of_newG (goodK 2) B (N + 2) w1 _ 6 HC1.out hN2 ?_ rfl (by decide) (by decide)).mono ?_
    · kernel_rfl
    rintro e w2 ⟨⟨x, hx, rfl⟩, hc2, hg2⟩
    have HC2 := Lib.hid hc2
    have HG2 := Lib.hid (Lib.grownBy_trans HG1.out hg2)
    obtain ⟨k0, t0, hR2⟩ := HR1.out.grown hg2 (by omega)
    have HR2 := Lib.hid hR2
    clear hc2 hg2 hR2 HR1 HC1 HG1
    go_wp2_with (with_reducible (show wpList _ _ _ (_ :: _) _ _); refine at_store rfl _ _ rfl w.heap.size 2 x _ _ rfl rfl HR2.out ?_)
    (try simp only [Exit.inBlock, Exit.then])
    refine bodyPost_ret (results_cell_row rfl _ _ w.heap.size _ _ _ _ rfl (setRow_heap _ _ _ _ _ _ HR2.out) Tryz.underlying33 rfl (by kernel_rfl)) rfl ?_
    exact ⟨⟨_, _, rfl, hx⟩, (HC2.out.mono (by omega)).setRow hlt _, grown_setRow HG2.out (Nat.le_refl _) _⟩
  case inr.inr.inl =>
    go_wp2_with fail
    refine (of_newG (goodK 3) B (N + 2) w1 _ 3 HC1.out hN2 ?_ rfl (by decide) (by decide)).mono ?_
    · kernel_rfl
    rintro e w2 ⟨⟨x, hx, rfl⟩, hc2, hg2⟩
    have HC2 := Lib.hid hc2
    have HG2 := Lib.hid (Lib.grownBy_trans HG1.out hg2)
    obtain ⟨k0, t0, hR2⟩ := HR1.out.grown hg2 (by omega)
    have HR2 := Lib.hid hR2
    clear hc2 hg2 hR2 HR1 HC1 HG1
    go_wp2_with (with_reducible (show wpList _ _ _ (_ :: _) _ _); refine at_store rfl _ _ rfl w.heap.size 3 x _ _ rfl rfl HR2.out ?_)
    (try simp only [Exit.inBlock, Exit.then])
    refine bodyPost_ret (results_cell_row rfl _ _ w.heap.size _ _ _ _ rfl (setRow_heap _ _ _ _ _ _ HR2.out) Tryz.underlying33 rfl (by kernel_rfl)) rfl ?_
    exact ⟨⟨_, _, rfl, hx⟩, (HC2.out.mono (by omega)).setRow hlt _, grown_setRow HG2.out (Nat.le_refl _) _⟩
  case inr.inr.inr.inl =>
    go_wp2_with fail
    refine (of_newG (goodK 4) B (N + 2) w1 _ 3 HC1.out hN2 ?_ rfl (by decide) (by decide)).mono ?_
    · kernel_rfl
    rintro e w2 ⟨⟨x, hx, rfl⟩, hc2, hg2⟩
    have HC2 := Lib.hid hc2
    have HG2 := Lib.hid (Lib.grownBy_trans HG1.out hg2)
    obtain ⟨k0, t0, hR2⟩ := HR1.out.grown hg2 (by omega)
    have HR2 := Lib.hid hR2
    clear hc2 hg2 hR2 HR1 HC1 HG1
    go_wp2_with (with_reducible (show wpList _ _ _ (_ :: _) _ _); refine at_store rfl _ _ rfl w.heap.size 4 x _ _ rfl rfl HR2.out ?_)
    (try simp only [Exit.inBlock, Exit.then])
    refine bodyPost_ret (results_cell_row rfl _ _ w.heap.size _ _ _ _ rfl (setRow_heap _ _ _ _ _ _ HR2.out) Tryz.underlying33 rfl (by kernel_rfl)) rfl ?_
    exact ⟨⟨_, _, rfl, hx⟩, (HC2.out.mono (by omega)).setRow hlt _, grown_setRow HG2.out (Nat.le_refl _) _⟩
  case inr.inr.inr.inr.inl =>
    go_wp2_with fail
    refine (of_newG (goodK 5) B (N + 2) w1 _ 3 HC1.out hN2 ?_ rfl (by decide) (by decide)).mono ?_
    · kernel_rfl
    rintro e w2 ⟨⟨x, hx, rfl⟩, hc2, hg2⟩
    have HC2 := Lib.hid hc2
    have HG2 := Lib.hid (Lib.grownBy_trans HG1.out hg2)
    obtain ⟨k0, t0, hR2⟩ := HR1.out.grown hg2 (by omega)
    have HR2 := Lib.hid hR2
    clear hc2 hg2 hR2 HR1 HC1 HG1
    go_wp2_with (with_reducible (show wpList _ _ _ (_ :: _) _ _); refine at_store rfl _ _ rfl w.heap.size 5 x _ _ rfl rfl HR2.out ?_)
    (try simp only [Exit.inBlock, Exit.then])
    refine bodyPost_ret (results_cell_row rfl _ _ w.heap.size _ _ _ _ rfl (setRow_heap _ _ _ _ _ _ HR2.out) Tryz.underlying33 rfl (by kernel_rfl)) rfl ?_
    exact ⟨⟨_, _, rfl, hx⟩, (HC2.out.mono (by omega)).setRow hlt _, grown_setRow HG2.out (Nat.le_refl _) _⟩
  case inr.inr.inr.inr.inr.inl =>
    go_wp2_with fail
    refine (of_newG (goodK 6) B (N + 2) w1 _ 3 HC1.out hN2 ?_ rfl (by decide) (by decide)).mono ?_
    · kernel_rfl
    rintro e w2 ⟨⟨x, hx, rfl⟩, hc2, hg2⟩
    have HC2 := Lib.hid hc2
    have HG2 := Lib.hid (Lib.grownBy_trans HG1.out hg2)
    obtain ⟨k0, t0, hR2⟩ := HR1.out.grown hg2 (by omega)
    have HR2 := Lib.hid hR2
    clear hc2 hg2 hR2 HR1 HC1 HG1
    go_wp2_with (with_reducible (show wpList _ _ _ (_ :: _) _ _); refine at_store rfl _ _ rfl w.heap.size 6 x _ _ rfl rfl HR2.out ?_)
    (try simp only [Exit.inBlock, Exit.then])
    refine bodyPost_ret (results_cell_row rfl _ _ w.heap.size _ _ _ _ rfl (setRow_heap _ _ _ _ _ _ HR2.out) Tryz.underlying33 rfl (by kernel_rfl)) rfl ?_
    exact ⟨⟨_, _, rfl, hx⟩, (HC2.out.mono (by omega)).setRow hlt _, grown_setRow HG2.out (Nat.le_refl _) _⟩
  case inr.inr.inr.inr.inr.inr.inl =>
    go_wp2_with fail
    refine (of_newG (goodK 7) B (N + 2) w1 _ 3 HC1.out hN2 ?_ rfl (by decide) (by decide)).mono ?_
    · kernel_rfl
    rintro e w2 ⟨⟨x, hx, rfl⟩, hc2, hg2⟩
    have HC2 := Lib.hid hc2
    have HG2 := Lib.hid (Lib.grownBy_trans HG1.out hg2)
    obtain ⟨k0, t0, hR2⟩ := HR1.out.grown hg2 (by omega)
    have HR2 := Lib.hid hR2
    clear hc2 hg2 hR2 HR1 HC1 HG1
    go_wp2_with (with_reducible (show wpList _ _ _ (_ :: _) _ _); refine at_store rfl _ _ rfl w.heap.size 7 x _ _ rfl rfl HR2.out ?_)
    (try simp only [Exit.inBlock, Exit.then])
    refine bodyPost_ret (results_cell_row rfl _ _ w.heap.size _ _ _ _ rfl (setRow_heap _ _ _ _ _ _ HR2.out) Tryz.underlying33 rfl (by kernel_rfl)) rfl ?_
    exact ⟨⟨_, _, rfl, hx⟩, (HC2.out.mono (by omega)).setRow hlt _, grown_setRow HG2.out (Nat.le_refl _) _⟩
set_option maxHeartbeats 2000000 in
theorem sequence_any (B N m : Nat) (w : World) (h : Cur w B N) (hN : N ≤ 800000) (hm : m ≤ 100) :
    Calls Tryz.prog 23 #[.pointer (some ⟨B, 0, none⟩), .int .i64 m] w fun e w' => (∃ (v : Value) (ls : List (Int × ByteArray)), e = .returned v ∧ OwnT w' w.heap.size v ls ∧ ls.length ≤ m ∧ ∀ x ∈ ls, goodE x = true) ∧ Cur w' B (N + 10 * m + 10) ∧ w.grownBy w' (some B) := by
  have CP := Lib.hid (fun N n w h hN h0 h1 => pick_any B N n w h hN h0 h1)
  have CA := Lib.hid (fun N w h hN => atomG_any B N w h hN)
  have hlt := h.lt
  have HC0 := Lib.hid (h.below ((Below.refl _ _).alloc (Nat.le_refl _) (.cells #[] 33)))
  have HO0 := Lib.hid (ownT_new w)
  clear h
  go_enter Tryz.func23, Tryz.ntmps23
  go_wp2_with fail
  refine (CP.out _ _ _ HC0.out (by omega) (by omega) (by omega)).mono ?_
  rintro e w1 ⟨⟨r, r0, r1, rfl⟩, hc1, hg1⟩
  obtain ⟨R, rfl⟩ := Int.eq_ofNat_of_zero_le r0
  have HC1 := Lib.hid hc1
  have HG1 := Lib.hid (grown_allocA hg1)
  have HO1 := Lib.hid (ownT_keep HO0.out hg1 hlt)
  have hR : R ≤ m := by omega
  clear hc1 hg1 r0 r1
  go_wp2_with fail
  go_loopw [5, 6] (fun l i wr => ∃ (k : Nat) (ls : List (Int × ByteArray)), i = .int .i64 k ∧ ls.length + k ≤ m ∧ Hid (OwnT wr w.heap.size l ls) ∧ Hid (∀ x ∈ ls, goodE x = true) ∧ Hid (Cur wr B (N + 10 * m + 10 - 10 * k)) ∧ Hid (w.grownBy wr (some B))) (fun _ i _ => (intOf i).toNat)
  case atStart => exact ⟨R, [], rfl, by simp; omega, HO1, Lib.hid (fun x hx => by simp at hx), Lib.hid (HC1.out.mono (by omega)), HG1⟩
  case round =>
    obtain ⟨k, ls, rfl, hlen, HO, HV, HC, HG⟩ := hrel
    by_cases hpos : 0 < k
    · have hpos' : (0 : Int) < (k : Int) := by omega
      go_wp2_with fail
      refine (CA.out _ _ HC.out (by omega)).mono ?_
      rintro e w3 ⟨⟨q, t, rfl, hq⟩, hc3, hg3⟩
      have HC3 := Lib.hid hc3
      have HG3 := Lib.hid (Lib.grownBy_trans HG.out hg3)
      have HO3 := Lib.hid (ownT_keep HO.out hg3 hlt)
      have hsz3 := HG3.out.size
      clear hc3 hg3 HO HC HG
      go_wp2_with (at_builtin; refine push_atom rfl _ _ rfl w.heap.size _ ls rfl HO3.out q t rfl hsz3 (by omega) ?_)
      intro v' w5 hown hg5 _
      have HO5 : Hid (OwnT w5 w.heap.size v' (ls ++ [(q, t)])) := hown
      have HC5 := Lib.hid (HC3.out.rowA hg5 (fun j hj => by have := row_ge HO3.out hj; omega))
      have HG5 := Lib.hid (grown_rowA HG3.out hg5 (fun j hj => row_ge HO3.out hj))
      have HV5 : Hid (∀ x ∈ ls ++ [(q, t)], goodE x = true) := by
        intro x hx
        rw [List.mem_append] at hx
        rcases hx with hx | hx
        · exact HV.out x hx
        · simp at hx; subst hx; exact hq
      clear hown hg5 HO3 HC3 HG3 HV
      go_wp2
      go_roundw
      case rel => exact ⟨k - 1, ls ++ [(q, t)], by first | go_num | (congr 1; omega), by rw [List.length_append]; simp; omega, HO5, HV5, Lib.hid (HC5.out.mono (by omega)), HG5⟩
      case measure => simp [intOf]; omega
    · obtain rfl : k = 0 := by omega
      go_wp2
      go_ret
      exact ⟨⟨_, ls, rfl, HO.out, by omega, HV.out⟩, HC.out.mono (by omega), HG.out⟩
end Go.Proofs.YtnpiphkglhcifaaGreatDoor
