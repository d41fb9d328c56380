/-
  CONTRACTS of the draws' cursor (spec.l1Cur): next, pick, one, of, among, any1.
-/
import Derived.Test.YtnpiphkglhcifaaGreatStrs
import Derived.Lib.BufferOwn
import Derived.OpenShut
import Derived.Deep.RegionWith
import Derived.Laws.BitsAllLaws
import Derived.Laws.IdiomStrings
import Derived.OwnWalk
import Derived.Test.YtnpiphkglhcifaaGreatSplit
namespace Go.Proofs.YtnpiphkglhcifaaGreat
set_option maxRecDepth 100000
open Go.RowKit

/-- The cursor lies in block B: its code (a slice of bytes that lies elsewhere), its place (at most N), its seed. -/
def Cur (w : World) (B N : Nat) : Prop :=
  ∃ (a : Option Addr) (n cap at_ : Nat) (seed : Int), B < w.heap.size ∧ w.cell? ⟨B, 0, none⟩ = some (.slice a n cap) ∧ w.cell? ⟨B, 1, none⟩ = some (.int .i64 at_) ∧ at_ ≤ N ∧ w.cell? ⟨B, 2, none⟩ = some (.int .u64 seed) ∧ (Lit.int .u64 seed).wf = true ∧
    (∀ j, w.frozen? ⟨B, j, none⟩ = false) ∧ n ≤ 1000000 ∧ (0 < n → ∃ b off, a = some ⟨b, off, none⟩ ∧ b < B ∧ ∀ i, i < n → ∃ z : Int, 0 ≤ z ∧ z ≤ 255 ∧ w.cell? ⟨b, off + i, none⟩ = some (.int .u8 z))
theorem Cur.keep {w w' : World} {B N : Nat} (h : Cur w B N) (hb : Below (B + 1) w w') : Cur w' B N := by
  obtain ⟨a, n, cap, at_, seed, hB, h0, h1, hat, h2, hs, hf, hn, hc⟩ := h
  refine ⟨a, n, cap, at_, seed, Nat.lt_of_lt_of_le hB hb.size, (hb.cell (p := ⟨B, 0, none⟩) (Nat.lt_succ_self B)).trans h0, (hb.cell (p := ⟨B, 1, none⟩) (Nat.lt_succ_self B)).trans h1, hat, (hb.cell (p := ⟨B, 2, none⟩) (Nat.lt_succ_self B)).trans h2, hs, fun j => (hb.frozen (p := ⟨B, j, none⟩) (Nat.lt_succ_self B)).trans (hf j), hn, fun h => ?_⟩
  obtain ⟨b, off, ha, hlt, hz⟩ := hc h
  refine ⟨b, off, ha, hlt, fun i hi => ?_⟩
  obtain ⟨z, z0, z1, hz⟩ := hz i hi
  exact ⟨z, z0, z1, (hb.cell (p := ⟨b, off + i, none⟩) (show b < B + 1 by omega)).trans hz⟩
theorem Cur.lt {w : World} {B N : Nat} (h : Cur w B N) : B < w.heap.size := by
  obtain ⟨_, _, _, _, _, hB, _⟩ := h
  exact hB
theorem Cur.below {w w' : World} {B N : Nat} (h : Cur w B N) (hb : Below w.heap.size w w') : Cur w' B N := h.keep (hb.mono h.lt)
theorem Cur.mono {w : World} {B N N' : Nat} (h : Cur w B N) (hN : N ≤ N') : Cur w B N' := by
  obtain ⟨a, n, cap, at_, seed, hB, h0, h1, hat, h2, hs, hf, hn, hc⟩ := h
  exact ⟨a, n, cap, at_, seed, hB, h0, h1, by omega, h2, hs, hf, hn, hc⟩

theorem step_facts (w : World) (B q : Nat) (at' S : Int) (x0 x1 x2 : Value) (h0 : w.cell? ⟨B, 0, none⟩ = some x0) (h1 : w.cell? ⟨B, 1, none⟩ = some x1) (h2 : w.cell? ⟨B, 2, none⟩ = some x2) :
    ∃ W2, ((w.drewN q).setCell ⟨B, 1, none⟩ (.int .i64 at')).setCell ⟨B, 2, none⟩ (.int .u64 S) = W2 ∧ W2.cell? ⟨B, 0, none⟩ = some x0 ∧ W2.cell? ⟨B, 1, none⟩ = some (.int .i64 at') ∧ W2.cell? ⟨B, 2, none⟩ = some (.int .u64 S) ∧
      (∀ b o, b ≠ B → W2.cell? ⟨b, o, none⟩ = w.cell? ⟨b, o, none⟩) ∧ (∀ p, W2.frozen? p = w.frozen? p) ∧ W2.heap.size = w.heap.size ∧ w.grownBy W2 (some B) := by
  have k0 : (w.drewN q).cell? ⟨B, 0, none⟩ = some x0 := h0
  have k1 : (w.drewN q).cell? ⟨B, 1, none⟩ = some x1 := h1
  have k2 : (w.drewN q).cell? ⟨B, 2, none⟩ = some x2 := h2
  refine ⟨_, rfl, ?_, ?_, ?_, ?_, ?_, ?_, ?_⟩
  · rw [World.cell?_setCell_other _ _ _ _ (by intro e; injection e; omega), World.cell?_setCell_other _ _ _ _ (by intro e; injection e; omega)]; exact k0
  · rw [World.cell?_setCell_other _ _ _ _ (by intro e; injection e; omega)]; exact World.cell?_setCell_same _ _ _ k1
  · refine World.cell?_setCell_same _ _ _ (u := x2) ?_
    rw [World.cell?_setCell_other _ _ _ _ (by intro e; injection e; omega)]; exact k2
  · intro b o hb
    rw [World.cell?_setCell_other _ _ _ _ (by intro e; injection e; omega), World.cell?_setCell_other _ _ _ _ (by intro e; injection e; omega)]; rfl
  · intro p; rw [World.frozen?_setCell, World.frozen?_setCell]; rfl
  · rw [World.size_setCell, World.size_setCell]; rfl
  · exact Lib.grownBy_setB (Lib.grownBy_setB (⟨rfl, rfl, rfl, Nat.le_refl _, fun _ _ _ => rfl⟩ : w.grownBy (w.drewN q) (some B)) 1 _) 2 _

theorem low_byte (S : Int) (h : (Lit.int .u64 S).wf = true) : 0 ≤ wrap64 (bits .and .u64 (S / 1099511627776) 255) ∧ wrap64 (bits .and .u64 (S / 1099511627776) 255) ≤ 255 := by
  have hb := bounds_u64 h
  rw [u64_and _ _ (by omega) (by omega) (by omega) (by omega)]
  have h1 : (S / 1099511627776).toNat &&& (255 : Int).toNat ≤ (255 : Int).toNat := Nat.and_le_right
  have h2 : (255 : Int).toNat = 255 := rfl
  unfold wrap64
  omega
/-- A draw's answer. -/
def Byte (e : Ending) : Prop := ∃ r : Int, 0 ≤ r ∧ r ≤ 255 ∧ e = .returned (.int .i64 r)

set_option maxHeartbeats 2000000 in
theorem next_any (B N : Nat) (w : World) (h : Cur w B N) (hN : N ≤ 1000000) :
    Calls Tryz.prog 43 #[.pointer (some ⟨B, 0, none⟩)] w fun e w' => Byte e ∧ Cur w' B (N + 1) ∧ w.grownBy w' (some B) := by
  obtain ⟨a, n, cap, at_, seed, hB, h0, h1, hat, h2, hs, hf, hn, hc⟩ := h
  have hf0 := hf 0
  have hf1 := hf 1
  have hf2 := hf 2
  have HS := Lib.hid hs
  have HF := Lib.hid hf
  have HC := Lib.hid hc
  clear hf hc hs
  by_cases hlt : at_ < n
  · obtain ⟨b, off, rfl, hbl, hz⟩ := HC.out (by omega)
    have hne : b ≠ B := by omega
    obtain ⟨z, z0, z1, hz⟩ := hz at_ hlt
    go_enter Tryz.func43, Tryz.ntmps43
    go_wp2
    go_quiet (fail)
    revert nq; intro q0
    go_wp2
    go_quiet (fail)
    revert nq; intro q1
    go_wp2
    generalize hSe : IntKind.u64.wrap (IntKind.u64.wrap (IntKind.u64.wrap (seed * 6364136223846793005) + z) + 882882) = S
    have HWF : Hid ((Lit.int .u64 S).wf = true) := by rw [← hSe]; exact wf_wrap _ _
    clear hSe
    have hW := step_facts w B (q0 + q1) ((at_ : Int) + 1) S _ _ _ h0 h1 h2
    obtain ⟨W2, hW2, k0, k1, k2, kc, kf, ks, kg⟩ := hW
    rw [hW2]
    have HG := Lib.hid kg
    have HCur : Hid (Cur W2 B (N + 1)) := by
      refine ⟨_, n, cap, at_ + 1, S, by omega, k0, k1, by omega, k2, HWF.out, fun j => (kf _).trans (HF.out j), hn, fun h => ?_⟩
      obtain ⟨b', off', ha, hne', hz'⟩ := HC.out h
      refine ⟨b', off', ha, hne', fun i hi => ?_⟩
      obtain ⟨z', y0, y1, hz'⟩ := hz' i hi
      exact ⟨z', y0, y1, (kc _ _ (by omega)).trans hz'⟩
    clear hW2 kg kc kf ks h0 h1 h2 hf0 hf1 hf2
    go_quiet (fail)
    go_wp2
    go_ret
    exact ⟨⟨z, z0, z1, rfl⟩, HCur.out.below (below_drewN (Below.refl _ _) nq), Lib.grownBy_below HG.out (below_drewN (Below.refl _ _) nq)⟩
  · go_enter Tryz.func43, Tryz.ntmps43
    go_wp2
    go_quiet (fail)
    revert nq; intro q0
    go_wp2
    generalize hSe : IntKind.u64.wrap (IntKind.u64.wrap (IntKind.u64.wrap (seed * 6364136223846793005)) + 882882) = S
    have HWF : Hid ((Lit.int .u64 S).wf = true) := by rw [← hSe]; exact wf_wrap _ _
    clear hSe
    have hW := step_facts w B q0 ((at_ : Int) + 1) S _ _ _ h0 h1 h2
    obtain ⟨W2, hW2, k0, k1, k2, kc, kf, ks, kg⟩ := hW
    rw [hW2]
    have HG := Lib.hid kg
    have HCur : Hid (Cur W2 B (N + 1)) := by
      refine ⟨_, n, cap, at_ + 1, S, by omega, k0, k1, by omega, k2, HWF.out, fun j => (kf _).trans (HF.out j), hn, fun h => ?_⟩
      obtain ⟨b', off', ha, hne', hz'⟩ := HC.out h
      refine ⟨b', off', ha, hne', fun i hi => ?_⟩
      obtain ⟨z', y0, y1, hz'⟩ := hz' i hi
      exact ⟨z', y0, y1, (kc _ _ (by omega)).trans hz'⟩
    clear hW2 kg kc kf ks h0 h1 h2 hf0 hf1 hf2
    have hlow := Lib.hid (low_byte S HWF.out)
    go_quiet (fail)
    go_wp2
    go_ret
    exact ⟨⟨_, hlow.out.1, hlow.out.2, rfl⟩, HCur.out.below (below_drewN (Below.refl _ _) nq), Lib.grownBy_below HG.out (below_drewN (Below.refl _ _) nq)⟩

theorem Cur.grown {w w' : World} {base : Nat} (h : w.grownBy w' (some base)) {b o : Nat} (hb : b ≠ base) (hlt : b < w.heap.size) : w'.cell? ⟨b, o, none⟩ = w.cell? ⟨b, o, none⟩ :=
  World.cell?_of_block (w := w) (h.block b hlt (by intro e; injection e; omega))

/-- A choice's answer: a number below n. -/
def Pick (n : Int) (e : Ending) : Prop := ∃ r : Int, 0 ≤ r ∧ r < n ∧ e = .returned (.int .i64 r)

set_option maxHeartbeats 1000000 in
theorem pick_any (B N : Nat) (n : Int) (w : World) (h : Cur w B N) (hN : N ≤ 999000) (h0 : 1 ≤ n) (h1 : n ≤ 65536) :
    Calls Tryz.prog 24 #[.pointer (some ⟨B, 0, none⟩), .int .i64 n] w fun e w' => Pick n e ∧ Cur w' B (N + 2) ∧ w.grownBy w' (some B) := by
  by_cases hn1 : n ≤ 1
  · go_enter Tryz.func24, Tryz.ntmps24
    go_wp2
    go_ret
    exact ⟨⟨0, by omega, by omega, rfl⟩, h.mono (by omega), ⟨rfl, rfl, rfl, Nat.le_refl _, fun _ _ _ => rfl⟩⟩
  · have C := Lib.hid (fun w N h hN => next_any B N w h hN)
    have HCu := Lib.hid h
    clear h
    by_cases hn2 : n ≤ 200
    · go_enter Tryz.func24, Tryz.ntmps24
      go_wp2_with fail
      refine (C.out _ _ HCu.out (by omega)).mono ?_
      rintro e w1 ⟨⟨r, r0, r1, rfl⟩, hc1, hg1⟩
      have HC1 := Lib.hid hc1
      have HG1 := Lib.hid hg1
      clear hc1 hg1
      go_wp2
      go_ret
      exact ⟨⟨_, Int.emod_nonneg _ (by omega), Int.emod_lt_of_pos _ (by omega), rfl⟩, HC1.out.mono (by omega), HG1.out⟩
    · go_enter Tryz.func24, Tryz.ntmps24
      go_wp2_with fail
      refine (C.out _ _ HCu.out (by omega)).mono ?_
      rintro e w1 ⟨⟨r, r0, r1, rfl⟩, hc1, hg1⟩
      have HC1 := Lib.hid hc1
      have HG1 := Lib.hid hg1
      clear hc1 hg1
      go_wp2_with fail
      refine (C.out _ _ HC1.out (by omega)).mono ?_
      rintro e w2 ⟨⟨r', r0', r1', rfl⟩, hc2, hg2⟩
      have HC2 := Lib.hid hc2
      have HG2 := Lib.hid (Lib.grownBy_trans HG1.out hg2)
      clear hc2 hg2
      go_wp2
      go_ret
      exact ⟨⟨_, Int.emod_nonneg _ (by omega), Int.emod_lt_of_pos _ (by omega), rfl⟩, HC2.out, HG2.out⟩

theorem one_any (B N : Nat) (n : Int) (w : World) (h : Cur w B N) (hN : N ≤ 999000) (h0 : 1 ≤ n) (h1 : n ≤ 65536) :
    Calls Tryz.prog 27 #[.pointer (some ⟨B, 0, none⟩), .int .i64 n] w fun e w' => (∃ b : Bool, e = .returned (.bool b)) ∧ Cur w' B (N + 2) ∧ w.grownBy w' (some B) := by
  have C := Lib.hid (pick_any B N n w h hN h0 h1)
  clear h
  go_enter Tryz.func27, Tryz.ntmps27
  go_wp2_with fail
  refine C.out.mono ?_
  rintro e w1 ⟨⟨r, r0, r1, rfl⟩, hc1, hg1⟩
  have HC1 := Lib.hid hc1
  have HG1 := Lib.hid hg1
  clear hc1 hg1
  go_wp2
  go_ret
  exact ⟨⟨_, rfl⟩, HC1.out, HG1.out⟩

theorem of_any (B N bk n cap : Nat) (xs : List ByteArray) (w : World) (h : Cur w B N) (hN : N ≤ 999000) (hne : bk ≠ B) (hbk : bk < w.heap.size) (hlen : xs.length = n) (h0 : 1 ≤ n) (h1 : n ≤ 60000)
    (hcells : ∀ (j : Nat) x, xs[j]? = some x → w.cell? ⟨bk, j, none⟩ = some (.string x)) :
    Calls Tryz.prog 29 #[.pointer (some ⟨B, 0, none⟩), .slice (some ⟨bk, 0, none⟩) n cap] w fun e w' => (∃ x, x ∈ xs ∧ e = .returned (.string x)) ∧ Cur w' B (N + 2) ∧ w.grownBy w' (some B) := by
  have C := Lib.hid (pick_any B N (n : Int) w h hN (by omega) (by omega))
  have HCE := Lib.hid hcells
  clear h hcells
  go_enter Tryz.func29, Tryz.ntmps29
  go_wp2_with fail
  refine C.out.mono ?_
  rintro e w1 ⟨⟨r, r0, r1, rfl⟩, hc1, hg1⟩
  obtain ⟨j, rfl⟩ := Int.eq_ofNat_of_zero_le r0
  have hj : j < n := by omega
  obtain ⟨x, hx⟩ : ∃ x, xs[j]? = some x := ⟨_, List.getElem?_eq_getElem (by omega)⟩
  have hcell := (Cur.grown hg1 hne hbk (o := j)).trans (HCE.out j x hx)
  have HX := Lib.hid (List.mem_of_getElem? hx)
  have HC1 := Lib.hid hc1
  have HG1 := Lib.hid hg1
  clear hc1 hg1 hx hlen
  go_wp2
  go_ret
  exact ⟨⟨_, HX.out, rfl⟩, HC1.out, HG1.out⟩

theorem alloc_strs (w : World) (cs : Array Value) (xs : List ByteArray) (t : TypeId) (h : cs = (xs.map Value.string).toArray) : ∀ (j : Nat) x, xs[j]? = some x → (w.alloc (.cells cs t)).cell? ⟨w.heap.size, j, none⟩ = some (.string x) := by
  intro j x hx
  rw [World.cell?_alloc_at _ _ _ _ rfl, h]
  simp [hx]

/-- A short text, as an answer. -/
def Short (e : Ending) : Prop := ∃ x : ByteArray, x.size ≤ 16 ∧ e = .returned (.string x)


/-- A law's code: a slice of bytes that came in. -/
def CodeAt (w : World) (a : Option Addr) (n : Nat) : Prop :=
  n ≤ 1000000 ∧ (0 < n → ∃ b off, a = some ⟨b, off, none⟩ ∧ b < w.heap.size ∧ ∀ i, i < n → ∃ z : Int, 0 ≤ z ∧ z ≤ 255 ∧ w.cell? ⟨b, off + i, none⟩ = some (.int .u8 z))
theorem CodeAt.below {w w' : World} {a : Option Addr} {n : Nat} (h : CodeAt w a n) (hb : Below w.heap.size w w') : CodeAt w' a n := by
  refine ⟨h.1, fun h0 => ?_⟩
  obtain ⟨b, off, ha, hlt, hz⟩ := h.2 h0
  refine ⟨b, off, ha, Nat.lt_of_lt_of_le hlt hb.size, fun i hi => ?_⟩
  obtain ⟨z, z0, z1, hz⟩ := hz i hi
  exact ⟨z, z0, z1, (hb.cell (p := ⟨b, off + i, none⟩) hlt).trans hz⟩
/-- The cursor that a draw makes. -/
theorem cur_new (w : World) (a : Option Addr) (n cap : Nat) (t : TypeId) (h : CodeAt w a n) : Cur (w.alloc (.cells #[.slice a n cap, .int .i64 0, .int .u64 0] t)) w.heap.size 0 := by
  refine ⟨a, n, cap, 0, 0, by rw [World.size_alloc]; omega, by rw [World.cell?_alloc_at _ _ _ _ rfl]; rfl, by rw [World.cell?_alloc_at _ _ _ _ rfl]; rfl, Nat.le_refl _, by rw [World.cell?_alloc_at _ _ _ _ rfl]; rfl, by decide, fun j => World.frozen?_alloc_at _ _ _ _ rfl, h.1, fun h0 => ?_⟩
  obtain ⟨b, off, ha, hlt, hz⟩ := h.2 h0
  refine ⟨b, off, ha, hlt, fun i hi => ?_⟩
  obtain ⟨z, z0, z1, hz⟩ := hz i hi
  exact ⟨z, z0, z1, ((((Below.refl w.heap.size w).alloc (Nat.le_refl _) _).cell (p := ⟨b, off + i, none⟩) hlt)).trans hz⟩
/-- What the cursor's calls leave lies below the draw's own block. -/
theorem below_cur {w w1 w2 : World} (h : Below w.heap.size w w1) (hg : w1.grownBy w2 (some w.heap.size)) : Below w.heap.size w w2 :=
  h.grown hg h.size fun k e => by cases e; exact Nat.le_refl _


theorem among_any (B N bk n cap : Nat) (xs : List Int) (w : World) (h : Cur w B N) (hN : N ≤ 999000) (hne : bk ≠ B) (hbk : bk < w.heap.size) (hlen : xs.length = n) (h0 : 1 ≤ n) (h1 : n ≤ 60000)
    (hcells : ∀ (j : Nat) x, xs[j]? = some x → w.cell? ⟨bk, j, none⟩ = some (.int .i64 x)) :
    Calls Tryz.prog 54 #[.pointer (some ⟨B, 0, none⟩), .slice (some ⟨bk, 0, none⟩) n cap] w fun e w' => (∃ x, x ∈ xs ∧ e = .returned (.int .i64 x)) ∧ Cur w' B (N + 2) ∧ w.grownBy w' (some B) := by
  have C := Lib.hid (pick_any B N (n : Int) w h hN (by omega) (by omega))
  have HCE := Lib.hid hcells
  clear h hcells
  go_enter Tryz.func54, Tryz.ntmps54
  go_wp2_with fail
  refine C.out.mono ?_
  rintro e w1 ⟨⟨r, r0, r1, rfl⟩, hc1, hg1⟩
  obtain ⟨j, rfl⟩ := Int.eq_ofNat_of_zero_le r0
  have hj : j < n := by omega
  obtain ⟨x, hx⟩ : ∃ x, xs[j]? = some x := ⟨_, List.getElem?_eq_getElem (by omega)⟩
  have hcell := (Cur.grown hg1 hne hbk (o := j)).trans (HCE.out j x hx)
  have HX := Lib.hid (List.mem_of_getElem? hx)
  have HC1 := Lib.hid hc1
  have HG1 := Lib.hid hg1
  clear hc1 hg1 hx hlen
  go_wp2
  go_ret
  exact ⟨⟨_, HX.out, rfl⟩, HC1.out, HG1.out⟩
theorem alloc_ints (w : World) (cs : Array Value) (xs : List Int) (t : TypeId) (h : cs = (xs.map (Value.int .i64)).toArray) : ∀ (j : Nat) x, xs[j]? = some x → (w.alloc (.cells cs t)).cell? ⟨w.heap.size, j, none⟩ = some (.int .i64 x) := by
  intro j x hx
  rw [World.cell?_alloc_at _ _ _ _ rfl, h]
  simp [hx]




end Go.Proofs.YtnpiphkglhcifaaGreat
