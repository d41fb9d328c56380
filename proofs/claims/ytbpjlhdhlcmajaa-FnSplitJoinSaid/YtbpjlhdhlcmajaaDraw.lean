/-
  CONTRACTS of the draws' cursor (spec.l1Cur): next, pick, one, of, among, any1.
-/
import Derived.Test.YtbpjlhdhlcmajaaStrs
import Derived.Lib.BufferOwn
import Derived.OpenShut
import Derived.Deep.RegionWith
import Derived.Laws.BitsAllLaws
import Derived.Laws.IdiomStrings
import Derived.OwnWalk
import Derived.Test.YtbpjlhdhlcmajaaSplit
namespace Go.Proofs.Ytbpjlhdhlcmajaa
open Go.RowKit

/-- The cursor lies in block B: its code (a slice of bytes that lies elsewhere), its place (at most N), its seed. -/
def Cur (w : World) (B N : Nat) : Prop :=
  ∃ (a : Option Addr) (n cap at_ : Nat) (seed : Int), B < w.heap.size ∧ w.cell? ⟨B, 0, none⟩ = some (.slice a n cap) ∧ w.cell? ⟨B, 1, none⟩ = some (.int .i64 at_) ∧ at_ ≤ N ∧ w.cell? ⟨B, 2, none⟩ = some (.int .u64 seed) ∧ (Lit.int .u64 seed).wf = true ∧
    (∀ j, w.frozen? ⟨B, j, none⟩ = false) ∧ n ≤ 1000000 ∧ (0 < n → ∃ b off, a = some ⟨b, off, none⟩ ∧ b < B ∧ ∀ i, i < n → ∃ z : Int, 0 ≤ z ∧ z ≤ 255 ∧ w.cell? ⟨b, off + i, none⟩ = some (.int .u8 z))
theorem Cur.keep {w w' : World} {B N : Nat} (h : Cur w B N) (hb : Below (B + 1) w w') : Cur w' B N := by
  obtain ⟨a, n, cap, at_, seed, hB, h0, h1, hat, h2, hs, hf, hn, hc⟩ := h
  refine ⟨a, n, cap, at_, seed, Nat.lt_of_lt_of_le hB hb.size, (hb.cell (p := ⟨B, 0, none⟩) (Nat.lt_succ_self B)).trans h0, (hb.cell (p := ⟨B, 1, none⟩) (Nat.lt_succ_self B)).trans h1, hat, (hb.cell (p := ⟨B, 2, none⟩) (Nat.lt_succ_self B)).trans h2, hs, fun j => (hb.frozen (p := ⟨B, j, none⟩) (Nat.lt_succ_self B)).trans (hf j), hn, fun h => ?_⟩
  obtain ⟨b, off, ha, hlt, hz⟩ := hc h
  refine ⟨b, off, ha, hlt, fun i hi => ?_⟩
  obtain ⟨z, z0, z1, hz⟩ := hz i hi
  exact ⟨z, z0, z1, (hb.cell (p := ⟨b, off + i, none⟩) (show b < B + 1 by omega)).trans hz⟩
theorem Cur.lt {w : World} {B N : Nat} (h : Cur w B N) : B < w.heap.size := by
  obtain ⟨_, _, _, _, _, hB, _⟩ := h
  exact hB
theorem Cur.below {w w' : World} {B N : Nat} (h : Cur w B N) (hb : Below w.heap.size w w') : Cur w' B N := h.keep (hb.mono h.lt)
theorem Cur.mono {w : World} {B N N' : Nat} (h : Cur w B N) (hN : N ≤ N') : Cur w B N' := by
  obtain ⟨a, n, cap, at_, seed, hB, h0, h1, hat, h2, hs, hf, hn, hc⟩ := h
  exact ⟨a, n, cap, at_, seed, hB, h0, h1, by omega, h2, hs, hf, hn, hc⟩

theorem step_facts (w : World) (B q : Nat) (at' S : Int) (x0 x1 x2 : Value) (h0 : w.cell? ⟨B, 0, none⟩ = some x0) (h1 : w.cell? ⟨B, 1, none⟩ = some x1) (h2 : w.cell? ⟨B, 2, none⟩ = some x2) :
    ∃ W2, ((w.drewN q).setCell ⟨B, 1, none⟩ (.int .i64 at')).setCell ⟨B, 2, none⟩ (.int .u64 S) = W2 ∧ W2.cell? ⟨B, 0, none⟩ = some x0 ∧ W2.cell? ⟨B, 1, none⟩ = some (.int .i64 at') ∧ W2.cell? ⟨B, 2, none⟩ = some (.int .u64 S) ∧
      (∀ b o, b ≠ B → W2.cell? ⟨b, o, none⟩ = w.cell? ⟨b, o, none⟩) ∧ (∀ p, W2.frozen? p = w.frozen? p) ∧ W2.heap.size = w.heap.size ∧ w.grownBy W2 (some B) := by
  have k0 : (w.drewN q).cell? ⟨B, 0, none⟩ = some x0 := h0
  have k1 : (w.drewN q).cell? ⟨B, 1, none⟩ = some x1 := h1
  have k2 : (w.drewN q).cell? ⟨B, 2, none⟩ = some x2 := h2
  refine ⟨_, rfl, ?_, ?_, ?_, ?_, ?_, ?_, ?_⟩
  · rw [World.cell?_setCell_other _ _ _ _ (by intro e; injection e; omega), World.cell?_setCell_other _ _ _ _ (by intro e; injection e; omega)]; exact k0
  · rw [World.cell?_setCell_other _ _ _ _ (by intro e; injection e; omega)]; exact World.cell?_setCell_same _ _ _ k1
  · refine World.cell?_setCell_same _ _ _ (u := x2) ?_
    rw [World.cell?_setCell_other _ _ _ _ (by intro e; injection e; omega)]; exact k2
  · intro b o hb
    rw [World.cell?_setCell_other _ _ _ _ (by intro e; injection e; omega), World.cell?_setCell_other _ _ _ _ (by intro e; injection e; omega)]; rfl
  · intro p; rw [World.frozen?_setCell, World.frozen?_setCell]; rfl
  · rw [World.size_setCell, World.size_setCell]; rfl
  · exact Lib.grownBy_setB (Lib.grownBy_setB (⟨rfl, rfl, rfl, Nat.le_refl _, fun _ _ _ => rfl⟩ : w.grownBy (w.drewN q) (some B)) 1 _) 2 _

theorem low_byte (S : Int) (h : (Lit.int .u64 S).wf = true) : 0 ≤ wrap64 (bits .and .u64 (S / 1099511627776) 255) ∧ wrap64 (bits .and .u64 (S / 1099511627776) 255) ≤ 255 := by
  have hb := bounds_u64 h
  rw [u64_and _ _ (by omega) (by omega) (by omega) (by omega)]
  have h1 : (S / 1099511627776).toNat &&& (255 : Int).toNat ≤ (255 : Int).toNat := Nat.and_le_right
  have h2 : (255 : Int).toNat = 255 := rfl
  unfold wrap64
  omega
/-- A draw's answer. -/
def Byte (e : Ending) : Prop := ∃ r : Int, 0 ≤ r ∧ r ≤ 255 ∧ e = .returned (.int .i64 r)

set_option maxHeartbeats 2000000 in
theorem next_any (B N : Nat) (w : World) (h : Cur w B N) (hN : N ≤ 1000000) :
    Calls Try.prog 39 #[.pointer (some ⟨B, 0, none⟩)] w fun e w' => Byte e ∧ Cur w' B (N + 1) ∧ w.grownBy w' (some B) := by
  obtain ⟨a, n, cap, at_, seed, hB, h0, h1, hat, h2, hs, hf, hn, hc⟩ := h
  have hf0 := hf 0
  have hf1 := hf 1
  have hf2 := hf 2
  have HS := Lib.hid hs
  have HF := Lib.hid hf
  have HC := Lib.hid hc
  clear hf hc hs
  by_cases hlt : at_ < n
  · obtain ⟨b, off, rfl, hbl, hz⟩ := HC.out (by omega)
    have hne : b ≠ B := by omega
    obtain ⟨z, z0, z1, hz⟩ := hz at_ hlt
    go_enter Try.func39, Try.ntmps39
    go_wp2
    go_quiet (fail)
    revert nq; intro q0
    go_wp2
    go_quiet (fail)
    revert nq; intro q1
    go_wp2
    generalize hSe : IntKind.u64.wrap (IntKind.u64.wrap (IntKind.u64.wrap (seed * 6364136223846793005) + z) + 882882) = S
    have HWF : Hid ((Lit.int .u64 S).wf = true) := by rw [← hSe]; exact wf_wrap _ _
    clear hSe
    have hW := step_facts w B (q0 + q1) ((at_ : Int) + 1) S _ _ _ h0 h1 h2
    obtain ⟨W2, hW2, k0, k1, k2, kc, kf, ks, kg⟩ := hW
    rw [hW2]
    have HG := Lib.hid kg
    have HCur : Hid (Cur W2 B (N + 1)) := by
      refine ⟨_, n, cap, at_ + 1, S, by omega, k0, k1, by omega, k2, HWF.out, fun j => (kf _).trans (HF.out j), hn, fun h => ?_⟩
      obtain ⟨b', off', ha, hne', hz'⟩ := HC.out h
      refine ⟨b', off', ha, hne', fun i hi => ?_⟩
      obtain ⟨z', y0, y1, hz'⟩ := hz' i hi
      exact ⟨z', y0, y1, (kc _ _ (by omega)).trans hz'⟩
    clear hW2 kg kc kf ks h0 h1 h2 hf0 hf1 hf2
    go_quiet (fail)
    go_wp2
    go_ret
    exact ⟨⟨z, z0, z1, rfl⟩, HCur.out.below (below_drewN (Below.refl _ _) nq), Lib.grownBy_below HG.out (below_drewN (Below.refl _ _) nq)⟩
  · go_enter Try.func39, Try.ntmps39
    go_wp2
    go_quiet (fail)
    revert nq; intro q0
    go_wp2
    generalize hSe : IntKind.u64.wrap (IntKind.u64.wrap (IntKind.u64.wrap (seed * 6364136223846793005)) + 882882) = S
    have HWF : Hid ((Lit.int .u64 S).wf = true) := by rw [← hSe]; exact wf_wrap _ _
    clear hSe
    have hW := step_facts w B q0 ((at_ : Int) + 1) S _ _ _ h0 h1 h2
    obtain ⟨W2, hW2, k0, k1, k2, kc, kf, ks, kg⟩ := hW
    rw [hW2]
    have HG := Lib.hid kg
    have HCur : Hid (Cur W2 B (N + 1)) := by
      refine ⟨_, n, cap, at_ + 1, S, by omega, k0, k1, by omega, k2, HWF.out, fun j => (kf _).trans (HF.out j), hn, fun h => ?_⟩
      obtain ⟨b', off', ha, hne', hz'⟩ := HC.out h
      refine ⟨b', off', ha, hne', fun i hi => ?_⟩
      obtain ⟨z', y0, y1, hz'⟩ := hz' i hi
      exact ⟨z', y0, y1, (kc _ _ (by omega)).trans hz'⟩
    clear hW2 kg kc kf ks h0 h1 h2 hf0 hf1 hf2
    have hlow := Lib.hid (low_byte S HWF.out)
    go_quiet (fail)
    go_wp2
    go_ret
    exact ⟨⟨_, hlow.out.1, hlow.out.2, rfl⟩, HCur.out.below (below_drewN (Below.refl _ _) nq), Lib.grownBy_below HG.out (below_drewN (Below.refl _ _) nq)⟩

theorem Cur.grown {w w' : World} {base : Nat} (h : w.grownBy w' (some base)) {b o : Nat} (hb : b ≠ base) (hlt : b < w.heap.size) : w'.cell? ⟨b, o, none⟩ = w.cell? ⟨b, o, none⟩ :=
  World.cell?_of_block (w := w) (h.block b hlt (by intro e; injection e; omega))

/-- A choice's answer: a number below n. -/
def Pick (n : Int) (e : Ending) : Prop := ∃ r : Int, 0 ≤ r ∧ r < n ∧ e = .returned (.int .i64 r)

set_option maxHeartbeats 1000000 in
theorem pick_any (B N : Nat) (n : Int) (w : World) (h : Cur w B N) (hN : N ≤ 999000) (h0 : 1 ≤ n) (h1 : n ≤ 65536) :
    Calls Try.prog 29 #[.pointer (some ⟨B, 0, none⟩), .int .i64 n] w fun e w' => Pick n e ∧ Cur w' B (N + 2) ∧ w.grownBy w' (some B) := by
  by_cases hn1 : n ≤ 1
  · go_enter Try.func29, Try.ntmps29
    go_wp2
    go_ret
    exact ⟨⟨0, by omega, by omega, rfl⟩, h.mono (by omega), ⟨rfl, rfl, rfl, Nat.le_refl _, fun _ _ _ => rfl⟩⟩
  · have C := Lib.hid (fun w N h hN => next_any B N w h hN)
    have HCu := Lib.hid h
    clear h
    by_cases hn2 : n ≤ 200
    · go_enter Try.func29, Try.ntmps29
      go_wp2_with fail
      refine (C.out _ _ HCu.out (by omega)).mono ?_
      rintro e w1 ⟨⟨r, r0, r1, rfl⟩, hc1, hg1⟩
      have HC1 := Lib.hid hc1
      have HG1 := Lib.hid hg1
      clear hc1 hg1
      go_wp2
      go_ret
      exact ⟨⟨_, Int.emod_nonneg _ (by omega), Int.emod_lt_of_pos _ (by omega), rfl⟩, HC1.out.mono (by omega), HG1.out⟩
    · go_enter Try.func29, Try.ntmps29
      go_wp2_with fail
      refine (C.out _ _ HCu.out (by omega)).mono ?_
      rintro e w1 ⟨⟨r, r0, r1, rfl⟩, hc1, hg1⟩
      have HC1 := Lib.hid hc1
      have HG1 := Lib.hid hg1
      clear hc1 hg1
      go_wp2_with fail
      refine (C.out _ _ HC1.out (by omega)).mono ?_
      rintro e w2 ⟨⟨r', r0', r1', rfl⟩, hc2, hg2⟩
      have HC2 := Lib.hid hc2
      have HG2 := Lib.hid (Lib.grownBy_trans HG1.out hg2)
      clear hc2 hg2
      go_wp2
      go_ret
      exact ⟨⟨_, Int.emod_nonneg _ (by omega), Int.emod_lt_of_pos _ (by omega), rfl⟩, HC2.out, HG2.out⟩

theorem one_any (B N : Nat) (n : Int) (w : World) (h : Cur w B N) (hN : N ≤ 999000) (h0 : 1 ≤ n) (h1 : n ≤ 65536) :
    Calls Try.prog 30 #[.pointer (some ⟨B, 0, none⟩), .int .i64 n] w fun e w' => (∃ b : Bool, e = .returned (.bool b)) ∧ Cur w' B (N + 2) ∧ w.grownBy w' (some B) := by
  have C := Lib.hid (pick_any B N n w h hN h0 h1)
  clear h
  go_enter Try.func30, Try.ntmps30
  go_wp2_with fail
  refine C.out.mono ?_
  rintro e w1 ⟨⟨r, r0, r1, rfl⟩, hc1, hg1⟩
  have HC1 := Lib.hid hc1
  have HG1 := Lib.hid hg1
  clear hc1 hg1
  go_wp2
  go_ret
  exact ⟨⟨_, rfl⟩, HC1.out, HG1.out⟩

theorem of_any (B N bk n cap : Nat) (xs : List ByteArray) (w : World) (h : Cur w B N) (hN : N ≤ 999000) (hne : bk ≠ B) (hbk : bk < w.heap.size) (hlen : xs.length = n) (h0 : 1 ≤ n) (h1 : n ≤ 60000)
    (hcells : ∀ (j : Nat) x, xs[j]? = some x → w.cell? ⟨bk, j, none⟩ = some (.string x)) :
    Calls Try.prog 26 #[.pointer (some ⟨B, 0, none⟩), .slice (some ⟨bk, 0, none⟩) n cap] w fun e w' => (∃ x, x ∈ xs ∧ e = .returned (.string x)) ∧ Cur w' B (N + 2) ∧ w.grownBy w' (some B) := by
  have C := Lib.hid (pick_any B N (n : Int) w h hN (by omega) (by omega))
  have HCE := Lib.hid hcells
  clear h hcells
  go_enter Try.func26, Try.ntmps26
  go_wp2_with fail
  refine C.out.mono ?_
  rintro e w1 ⟨⟨r, r0, r1, rfl⟩, hc1, hg1⟩
  obtain ⟨j, rfl⟩ := Int.eq_ofNat_of_zero_le r0
  have hj : j < n := by omega
  obtain ⟨x, hx⟩ : ∃ x, xs[j]? = some x := ⟨_, List.getElem?_eq_getElem (by omega)⟩
  have hcell := (Cur.grown hg1 hne hbk (o := j)).trans (HCE.out j x hx)
  have HX := Lib.hid (List.mem_of_getElem? hx)
  have HC1 := Lib.hid hc1
  have HG1 := Lib.hid hg1
  clear hc1 hg1 hx hlen
  go_wp2
  go_ret
  exact ⟨⟨_, HX.out, rfl⟩, HC1.out, HG1.out⟩

theorem alloc_strs (w : World) (cs : Array Value) (xs : List ByteArray) (t : TypeId) (h : cs = (xs.map Value.string).toArray) : ∀ (j : Nat) x, xs[j]? = some x → (w.alloc (.cells cs t)).cell? ⟨w.heap.size, j, none⟩ = some (.string x) := by
  intro j x hx
  rw [World.cell?_alloc_at _ _ _ _ rfl, h]
  simp [hx]

/-- A short text, as an answer. -/
def Short (e : Ending) : Prop := ∃ x : ByteArray, x.size ≤ 16 ∧ e = .returned (.string x)

theorem any1_any (B N : Nat) (w : World) (h : Cur w B N) (hN : N ≤ 999000) :
    Calls Try.prog 25 #[.pointer (some ⟨B, 0, none⟩)] w fun e w' => Short e ∧ Cur w' B (N + 2) ∧ w.grownBy w' (some B) := by
  have hlt := h.lt
  have C : Hid (∀ w1 cs, w1 = w.alloc (.cells cs 9) → cs = ([⟨#[]⟩, ⟨#[97]⟩, ⟨#[97, 44, 98]⟩, ⟨#[115, 111, 109, 101, 32, 119, 111, 114, 100, 115]⟩, ⟨#[120, 35, 121]⟩, ⟨#[45, 49, 50]⟩, ⟨#[0, 255]⟩, ⟨#[44, 44]⟩, ⟨#[48]⟩].map Value.string).toArray →
      Calls Try.prog 26 #[.pointer (some ⟨B, 0, none⟩), .slice (some ⟨w.heap.size, 0, none⟩) 9 9] w1 fun e w' => Short e ∧ Cur w' B (N + 2) ∧ w.grownBy w' (some B)) := by
    intro w1 cs hw hcs
    subst hw
    refine (of_any B N w.heap.size 9 9 _ _ (h.below ((Below.refl _ _).alloc (Nat.le_refl _) _)) hN (by omega) (by rw [World.size_alloc]; omega) rfl (by omega) (by omega) (alloc_strs w cs _ _ hcs)).mono ?_
    rintro e w' ⟨⟨x, hx, rfl⟩, hc, hg⟩
    refine ⟨⟨x, ?_, rfl⟩, hc, Lib.grownBy_trans (World.grownBy_alloc w _ (some B)) hg⟩
    simp only [List.mem_cons, List.not_mem_nil, or_false] at hx
    rcases hx with rfl | rfl | rfl | rfl | rfl | rfl | rfl | rfl | rfl <;> decide
  clear h hN
  go_enter Try.func25, Try.ntmps25
  go_wp2_with fail
  refine (C.out _ _ rfl rfl).mono ?_
  rintro e w1 ⟨⟨x, hx, rfl⟩, hc1, hg1⟩
  have HC1 := Lib.hid hc1
  have HG1 := Lib.hid hg1
  clear hc1 hg1
  go_wp2
  go_ret
  exact ⟨⟨_, hx, rfl⟩, HC1.out, HG1.out⟩

/-- A law's code: a slice of bytes that came in. -/
def CodeAt (w : World) (a : Option Addr) (n : Nat) : Prop :=
  n ≤ 1000000 ∧ (0 < n → ∃ b off, a = some ⟨b, off, none⟩ ∧ b < w.heap.size ∧ ∀ i, i < n → ∃ z : Int, 0 ≤ z ∧ z ≤ 255 ∧ w.cell? ⟨b, off + i, none⟩ = some (.int .u8 z))
theorem CodeAt.below {w w' : World} {a : Option Addr} {n : Nat} (h : CodeAt w a n) (hb : Below w.heap.size w w') : CodeAt w' a n := by
  refine ⟨h.1, fun h0 => ?_⟩
  obtain ⟨b, off, ha, hlt, hz⟩ := h.2 h0
  refine ⟨b, off, ha, Nat.lt_of_lt_of_le hlt hb.size, fun i hi => ?_⟩
  obtain ⟨z, z0, z1, hz⟩ := hz i hi
  exact ⟨z, z0, z1, (hb.cell (p := ⟨b, off + i, none⟩) hlt).trans hz⟩
/-- The cursor that a draw makes. -/
theorem cur_new (w : World) (a : Option Addr) (n cap : Nat) (t : TypeId) (h : CodeAt w a n) : Cur (w.alloc (.cells #[.slice a n cap, .int .i64 0, .int .u64 0] t)) w.heap.size 0 := by
  refine ⟨a, n, cap, 0, 0, by rw [World.size_alloc]; omega, by rw [World.cell?_alloc_at _ _ _ _ rfl]; rfl, by rw [World.cell?_alloc_at _ _ _ _ rfl]; rfl, Nat.le_refl _, by rw [World.cell?_alloc_at _ _ _ _ rfl]; rfl, by decide, fun j => World.frozen?_alloc_at _ _ _ _ rfl, h.1, fun h0 => ?_⟩
  obtain ⟨b, off, ha, hlt, hz⟩ := h.2 h0
  refine ⟨b, off, ha, hlt, fun i hi => ?_⟩
  obtain ⟨z, z0, z1, hz⟩ := hz i hi
  exact ⟨z, z0, z1, ((((Below.refl w.heap.size w).alloc (Nat.le_refl _) _).cell (p := ⟨b, off + i, none⟩) hlt)).trans hz⟩
/-- What the cursor's calls leave lies below the draw's own block. -/
theorem below_cur {w w1 w2 : World} (h : Below w.heap.size w w1) (hg : w1.grownBy w2 (some w.heap.size)) : Below w.heap.size w w2 :=
  h.grown hg h.size fun k e => by cases e; exact Nat.le_refl _

theorem drawLess_any (a : Option Addr) (n cap : Nat) (w : World) (h : CodeAt w a n) :
    Calls Try.prog 14 #[.slice a n cap] w fun e w' => (∃ x y : ByteArray, x.size ≤ 16 ∧ y.size ≤ 16 ∧ e = .returned (.tuple #[.string x, .string y])) ∧ Below w.heap.size w w' := by
  have C := Lib.hid (fun w N h hN => any1_any w.heap.size N w h hN)
  have CA := Lib.hid (fun B w N h hN => any1_any B N w h hN)
  have HC0 := Lib.hid (cur_new w a n cap 44 h)
  have hb0 : Below w.heap.size w (w.alloc (.cells #[.slice a n cap, .int .i64 0, .int .u64 0] 44)) := (Below.refl _ _).alloc (Nat.le_refl _) _
  clear h C
  have HB0 := Lib.hid hb0
  clear hb0
  go_enter Try.func14, Try.ntmps14
  go_wp2_with fail
  refine (CA.out _ _ _ HC0.out (by omega)).mono ?_
  rintro e w1 ⟨⟨x, hx, rfl⟩, hc1, hg1⟩
  have HC1 := Lib.hid hc1
  have HB1 := Lib.hid (below_cur HB0.out hg1)
  clear hc1 hg1
  go_wp2_with fail
  refine (CA.out _ _ _ HC1.out (by omega)).mono ?_
  rintro e w2 ⟨⟨y, hy, rfl⟩, hc2, hg2⟩
  have HB2 := Lib.hid (below_cur HB1.out hg2)
  clear hc2 hg2
  go_wp2
  go_ret2
  exact ⟨⟨_, _, hx, hy, rfl⟩, HB2.out⟩
theorem drawSplit_any (a : Option Addr) (n cap : Nat) (w : World) (h : CodeAt w a n) :
    Calls Try.prog 9 #[.slice a n cap] w fun e w' => (∃ x y : ByteArray, x.size ≤ 16 ∧ y.size ≤ 16 ∧ e = .returned (.tuple #[.string x, .string y])) ∧ Below w.heap.size w w' := by
  have CA := Lib.hid (fun B w N h hN => any1_any B N w h hN)
  have CO : Hid (∀ (wx w1 : World) B N cs, Cur wx B N → N ≤ 999000 → w1 = wx.alloc (.cells cs 9) → cs = ([⟨#[44]⟩, ⟨#[44]⟩, ⟨#[32]⟩, ⟨#[]⟩, ⟨#[44, 44]⟩].map Value.string).toArray →
      Calls Try.prog 26 #[.pointer (some ⟨B, 0, none⟩), .slice (some ⟨wx.heap.size, 0, none⟩) 5 5] w1 fun e w' => Short e ∧ Cur w' B (N + 2) ∧ wx.grownBy w' (some B)) := by
    intro wx w1 B N cs hcu hN hw hcs
    subst hw
    have hlt := hcu.lt
    refine (of_any B N wx.heap.size 5 5 _ _ (hcu.below ((Below.refl _ _).alloc (Nat.le_refl _) _)) hN (by omega) (by rw [World.size_alloc]; omega) rfl (by omega) (by omega) (alloc_strs wx cs _ _ hcs)).mono ?_
    rintro e w' ⟨⟨x, hx, rfl⟩, hc, hg⟩
    refine ⟨⟨x, ?_, rfl⟩, hc, Lib.grownBy_trans (World.grownBy_alloc wx _ (some B)) hg⟩
    simp only [List.mem_cons, List.not_mem_nil, or_false] at hx
    rcases hx with rfl | rfl | rfl | rfl | rfl <;> decide
  have HC0 := Lib.hid (cur_new w a n cap 44 h)
  have HB0 : Hid (Below w.heap.size w (w.alloc (.cells #[.slice a n cap, .int .i64 0, .int .u64 0] 44))) := (Below.refl _ _).alloc (Nat.le_refl _) _
  clear h
  go_enter Try.func9, Try.ntmps9
  go_wp2_with fail
  refine (CA.out _ _ _ HC0.out (by omega)).mono ?_
  rintro e w1 ⟨⟨x, hx, rfl⟩, hc1, hg1⟩
  have HC1 := Lib.hid hc1
  have HB1 := Lib.hid (below_cur HB0.out hg1)
  clear hc1 hg1
  go_wp2_with fail
  refine (CO.out w1 _ _ _ _ HC1.out (by omega) rfl rfl).mono ?_
  rintro e w2 ⟨⟨y, hy, rfl⟩, hc2, hg2⟩
  have HB2 := Lib.hid (below_cur HB1.out hg2)
  clear hc2 hg2
  go_wp2
  go_ret2
  exact ⟨⟨_, _, hx, hy, rfl⟩, HB2.out⟩

theorem own_keep {w w' : World} {base B : Nat} {v : Value} {n : Nat} {xs : List Value} (h : w.ownsRow base 9 1 v n xs) (hg : w.grownBy w' (some B)) (hB : B < base) : w'.ownsRow base 9 1 v n xs := by
  refine h.kept hg ?_
  rcases h.2 with ⟨rfl, _⟩ | ⟨g, cap, cur, rfl, hb, _⟩
  · exact .inl rfl
  · refine .inr fun e => ?_
    have : g = B := by simpa [Value.ownBlock] using e
    omega

set_option maxHeartbeats 2000000 in
theorem drawJoin_any (a : Option Addr) (n cap : Nat) (w : World) (h : CodeAt w a n) :
    Calls Try.prog 11 #[.slice a n cap] w fun e w' => (∃ (u : Value) (xs : List ByteArray) (y : ByteArray), y.size ≤ 16 ∧ e = .returned (.tuple #[u, .string y]) ∧ StrsAt w' u xs ∧ xs.length ≤ 10 ∧ ∀ x ∈ xs, x.size ≤ 4100) ∧ Below w.heap.size w w' := by
  obtain ⟨i0, hi, hz0, hz1, hz2⟩ := info_parts infoStr'
  have CA := Lib.hid (fun B w N h hN => any1_any B N w h hN)
  have CP := Lib.hid (fun B N n w h hN h0 h1 => pick_any B N n w h hN h0 h1)
  have C1 := Lib.hid (fun B N n w h hN h0 h1 => one_any B N n w h hN h0 h1)
  have CO : Hid (∀ (wx w1 : World) B N cs, Cur wx B N → N ≤ 999000 → w1 = wx.alloc (.cells cs 9) → cs = ([⟨#[44]⟩, ⟨#[59]⟩, ⟨#[59]⟩, ⟨#[]⟩, ⟨#[97, 98]⟩].map Value.string).toArray →
      Calls Try.prog 26 #[.pointer (some ⟨B, 0, none⟩), .slice (some ⟨wx.heap.size, 0, none⟩) 5 5] w1 fun e w' => Short e ∧ Cur w' B (N + 2) ∧ wx.grownBy w' (some B)) := by
    intro wx w1 B N cs hcu hN hw hcs
    subst hw
    have hlt := hcu.lt
    refine (of_any B N wx.heap.size 5 5 _ _ (hcu.below ((Below.refl _ _).alloc (Nat.le_refl _) _)) hN (by omega) (by rw [World.size_alloc]; omega) rfl (by omega) (by omega) (alloc_strs wx cs _ _ hcs)).mono ?_
    rintro e w' ⟨⟨x, hx, rfl⟩, hc, hg⟩
    refine ⟨⟨x, ?_, rfl⟩, hc, Lib.grownBy_trans (World.grownBy_alloc wx _ (some B)) hg⟩
    simp only [List.mem_cons, List.not_mem_nil, or_false] at hx
    rcases hx with rfl | rfl | rfl | rfl | rfl <;> decide
  have HC0 := Lib.hid (cur_new w a n cap 44 h)
  have HB0 : Hid (Below w.heap.size w (w.alloc (.cells #[.slice a n cap, .int .i64 0, .int .u64 0] 44))) := (Below.refl _ _).alloc (Nat.le_refl _) _
  clear h
  go_enter Try.func11, Try.ntmps11
  go_wp2_with fail
  refine (CP.out _ _ _ _ (HC0.out.below ((Below.refl _ _).alloc (Nat.le_refl _) _)) (by omega) (by omega) (by omega)).mono ?_
  rintro e w1 ⟨⟨r, r0, r1, rfl⟩, hc1, hg1⟩
  have HC1 := Lib.hid hc1
  have HB1 : Hid (Below w.heap.size w w1) := below_cur (HB0.out.alloc HB0.out.size _) hg1
  have HO1 : Hid (w1.ownsRow (w.heap.size + 1) 9 1 (.slice (some ⟨w.heap.size + 1, 0, none⟩) 0 0) 0 []) := by
    refine own_keep (B := w.heap.size) ?_ hg1 (by omega)
    refine ⟨rfl, .inr ⟨w.heap.size + 1, 0, #[], rfl, Nat.le_refl _, ?_, Nat.le_refl _, by decide, rfl, rfl⟩⟩
    have e : ∀ (W : World) (o : Obj), (W.alloc o).heap[W.heap.size]? = some o := fun W o => by show (W.heap.push o)[W.heap.size]? = _; simp
    have e1 := e (w.alloc (.cells #[.slice a n cap, .int .i64 0, .int .u64 0] 44)) (.cells #[] 9)
    rw [World.size_alloc] at e1
    exact e1
  clear hc1 hg1
  obtain ⟨R, rfl⟩ := Int.eq_ofNat_of_zero_le r0
  go_wp2_with fail
  go_loopw [5, 7] (fun l i wr => ∃ (k : Nat) (xs : List ByteArray), i = .int .i64 k ∧ k ≤ R ∧ xs.length ≤ k ∧ wr.ownsRow (w.heap.size + 1) 9 1 l xs.length (xs.map .string) ∧ Hid (Cur wr w.heap.size (0 + 2 + 2 * k)) ∧ Below w.heap.size w wr ∧ Hid (∀ x ∈ xs, x.size ≤ 4100)) (fun _ i _ => R - (intOf i).toNat)
  case atStart => exact ⟨0, [], rfl, Nat.zero_le _, Nat.le_refl _, HO1.out, HC1, HB1.out, fun x hx => by simp at hx⟩
  case round =>
    obtain ⟨k, xs, rfl, hk, hlen, hown0, HC, hbel, HX⟩ := hrel
    by_cases hlt : k < R
    · have HO0 := Lib.hid hown0
      have HBl := Lib.hid hbel
      clear hown0 hbel
      go_wp2_with fail
      refine (CA.out _ _ _ HC.out (by omega)).mono ?_
      rintro e w3 ⟨⟨x, hx, rfl⟩, hc3, hg3⟩
      have hown := own_keep HO0.out hg3 (by omega)
      have hb3 := below_cur HBl.out hg3
      have hsz := hb3.size
      have hlt3 := hc3.lt
      have HC3 := Lib.hid hc3
      clear hg3 hc3
      go_wp2_with (at_builtin; refine wpList_append_own _ rfl _ _ 26 rfl (w.heap.size + 1) 9 i0 (.string ByteArray.empty) 1 16 Try.underlying26 hi hz0 hz1 hz2 rfl (by decide) _ _ _ rfl (hown.alloc _) ⟨w3.heap.size, 0, none⟩ 1 1 [.string x] rfl rfl ?c1 ?c2 ?c3 ?c4 ?c5 ?_)
      case c1 => exact cell_one_new _ _ _
      case c2 => intro y hy; simp at hy; subst hy; rfl
      case c3 => unfold maxLen; omega
      case c4 => omega
      case c5 => simp; omega
      intro v' w4 hown' hgrow _
      have hbw : Below (w.heap.size + 1) w3 w4 := ((Below.refl _ _).alloc (by omega) _).grown hgrow (by simp; omega) fun j hj => own_ge hown hj
      have HO : Hid (w4.ownsRow (w.heap.size + 1) 9 1 v' (xs ++ [x]).length ((xs ++ [x]).map .string)) := by
        rw [List.length_append, List.map_append]; exact hown'
      have HB4 : Hid (Below w.heap.size w w4) := hb3.trans (hbw.mono (by omega))
      have HC4 : Hid (Cur w4 w.heap.size (0 + 2 + 2 * (k + 1))) := (HC3.out.keep hbw).mono (by omega)
      have HX4 : Hid (∀ y ∈ xs ++ [x], y.size ≤ 4100) := by
        intro y hy
        rw [List.mem_append, List.mem_singleton] at hy
        rcases hy with hy | rfl
        · exact HX.out y hy
        · omega
      clear hown hown' hgrow hbw hb3
      go_wp2
      go_roundw
      case rel => exact ⟨k + 1, xs ++ [x], by go_num, by omega, by simp; omega, HO.out, HC4, HB4.out, HX4⟩
      case measure => simp [intOf]; omega
    · have HO0 := Lib.hid hown0
      have HBl := Lib.hid hbel
      clear hown0 hbel
      go_wp2_with fail
      refine (C1.out _ _ _ _ HC.out (by omega) (by omega) (by omega)).mono ?_
      rintro e w3 ⟨⟨b, rfl⟩, hc3, hg3⟩
      have hown := own_keep HO0.out hg3 (by omega)
      have hb3 := below_cur HBl.out hg3
      have HC3 := Lib.hid hc3
      have HO3 := Lib.hid hown
      have HB3 := Lib.hid hb3
      clear hg3 hc3 hown hb3
      cases b
      · -- no great text
        go_wp2_with fail
        refine (CO.out w3 _ _ _ _ HC3.out (by omega) rfl rfl).mono ?_
        rintro e w9 ⟨⟨y, hy, rfl⟩, hc9, hg9⟩
        have HB9 := Lib.hid (below_cur HB3.out hg9)
        have HO9 := Lib.hid (ownsRow_at (own_keep HO3.out hg9 (by omega)))
        clear hc9 hg9
        go_wp2
        go_ret2
        exact ⟨⟨_, xs, _, hy, rfl, HO9.out, by omega, HX.out⟩, HB9.out⟩
      · go_wp2_with fail
        refine (CP.out _ _ _ _ HC3.out (by omega) (by omega) (by omega)).mono ?_
        rintro e w4 ⟨⟨q, q0, q1, rfl⟩, hc4, hg4⟩
        obtain ⟨Q, rfl⟩ := Int.eq_ofNat_of_zero_le q0
        obtain ⟨m, hm⟩ : ∃ m, m = 3990 + Q := ⟨_, rfl⟩
        have hm1 : m ≤ 4010 := by omega
        have hown := own_keep HO3.out hg4 (by omega)
        have hb4 := below_cur HB3.out hg4
        have hsz := hb4.size
        have hlt4 := hc4.lt
        have HC4 := Lib.hid hc4
        obtain ⟨zB, hzB⟩ : ∃ zB : ByteArray, zB = ⟨(List.replicate m 0).toArray⟩ := ⟨_, rfl⟩
        have hzs : zB.size ≤ 4100 := by rw [hzB]; show (List.replicate m (0 : UInt8)).toArray.size ≤ _; rw [List.size_toArray, List.length_replicate]; omega
        have hmk : ∀ w : World, (Instr.makeSlice 22 (.int .i64 (3990 + (Q : Int))) (.int .i64 (3990 + (Q : Int)))).run Try.prog w = .ok (.slice (some ⟨w.heap.size, 0, none⟩) m m) (w.alloc (.cells (madeCells #[.int .u8 0] m) 5)) := by
          intro w
          rw [show (3990 + (Q : Int)) = ((m : Nat) : Int) by omega]
          exact run_make_row' (P := Try.prog) 22 5 (.int .u8 0) 1 Try.underlying22 (by kernel_rfl) rfl .i64 .i64 m (by omega) (by omega) w
        have hcv : ∀ w : World, (convert 22 9 (.slice (some ⟨w.heap.size, 0, none⟩) m m)).run Try.prog (w.alloc (.cells (madeCells #[.int .u8 0] m) 5)) = .ok (.string zB) (w.alloc (.cells (madeCells #[.int .u8 0] m) 5)) := by
          intro w
          have hc := run_convert_bytes_back (P := Try.prog) (w.alloc (.cells (madeCells #[.int .u8 0] m) 5)) 22 9 5 ⟨w.heap.size, 0, none⟩ m (List.replicate m 0) Try.underlying22 Try.underlying5 Try.underlying9 (fun j hj => by
            rw [List.length_replicate] at hj
            have e := (World.rowIs_made w (.int .u8 0) m 5).cell hj
            by_cases hj0 : j = 0
            · subst hj0; simpa [Addr.add] using e
            · simpa [Addr.add, hj0] using e)
          rw [List.length_replicate] at hc
          rw [hzB]; exact hc
        have HM := Lib.hid hm
        clear hg4 hc4 hm hzB
        go_wp2_with (at_builtin; refine wpList_append_own _ rfl _ _ 26 rfl (w.heap.size + 1) 9 i0 (.string ByteArray.empty) 1 16 Try.underlying26 hi hz0 hz1 hz2 rfl (by decide) _ _ _ rfl ((hown.alloc _).alloc _) ⟨(w4.heap.size + 1), 0, none⟩ 1 1 [.string zB] rfl rfl ?d1 ?d2 ?d3 ?d4 ?d5 ?_)
        case d1 =>
          have h := cell_one_new (w4.alloc (.cells (madeCells #[.int .u8 0] m) 5)) (.string zB) 9
          rw [World.size_alloc] at h
          exact h
        case d2 => intro y hy; simp at hy; subst hy; rfl
        case d3 => unfold maxLen; omega
        case d4 => omega
        case d5 => simp; omega
        intro v' w5 hown' hgrow _
        have hbw : Below (w.heap.size + 1) w4 w5 := (((Below.refl _ _).alloc (by omega) _).alloc (by rw [World.size_alloc]; omega) _).grown hgrow (by simp; omega) fun j hj => own_ge hown hj
        have HO5 : Hid (w5.ownsRow (w.heap.size + 1) 9 1 v' (xs ++ [zB]).length ((xs ++ [zB]).map .string)) := by
          rw [List.length_append, List.map_append]; exact hown'
        have HB5 : Hid (Below w.heap.size w w5) := hb4.trans (hbw.mono (by omega))
        have HC5 := Lib.hid (HC4.out.keep hbw)
        have HX5 : Hid (∀ y ∈ xs ++ [zB], y.size ≤ 4100) := by
          intro y hy
          rw [List.mem_append, List.mem_singleton] at hy
          rcases hy with hy | rfl
          · exact HX.out y hy
          · omega
        clear hown hown' hgrow hbw hb4 hmk hcv
        go_wp2_with fail
        refine (CO.out w5 _ _ _ _ HC5.out (by omega) rfl rfl).mono ?_
        rintro e w9 ⟨⟨y, hy, rfl⟩, hc9, hg9⟩
        have HB9 := Lib.hid (below_cur HB5.out hg9)
        have HO9 := Lib.hid (ownsRow_at (own_keep HO5.out hg9 (by omega)))
        clear hc9 hg9
        go_wp2
        go_ret2
        exact ⟨⟨_, xs ++ [zB], _, hy, rfl, HO9.out, by simp; omega, HX5.out⟩, HB9.out⟩
end Go.Proofs.Ytbpjlhdhlcmajaa
