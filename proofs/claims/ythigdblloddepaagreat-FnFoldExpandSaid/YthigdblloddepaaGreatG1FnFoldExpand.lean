/-
  LookupFolded, of the program and of the specification.
-/
import Derived.Test.YthigdblloddepaaGreatFd
import Derived.Test.YthigdblloddepaaGreatOut
import Derived.Test.YthigdblloddepaaGreatImpl4C
import Derived.Test.YthigdblloddepaaGreatKeys
import Derived.Deep.DeepHandedRow
import Derived.Test.YthigdblloddepaaGreatMix
import Derived.Deep.RegionHeld3
import Derived.Test.YthigdblloddepaaGreatShelf
import Derived.Test.YthigdblloddepaaGreatRowE
import Derived.Test.YthigdblloddepaaGreatImpl5D
import Derived.Test.YthigdblloddepaaGreatImpl5F
import Derived.Test.YthigdblloddepaaGreatImpl6E
import Derived.Test.YthigdblloddepaaGreatDictL
namespace Go.Proofs.YthigdblloddepaaGreat
set_option maxRecDepth 100000
open Go.RowKit

/-! ### Plain -/
def lastN (xs : List Int) : Nat := (xs.getLastD 0).toNat
theorem lastN_snoc (ys : List Int) (s : Nat) : lastN (ys ++ [(s : Int)]) = s := by unfold lastN; rw [List.getLastD_concat]; rfl
theorem okO_snoc {xs : List Int} (h : okO xs = true) : ∃ (ys : List Int) (s : Nat), xs = ys ++ [(s : Int)] ∧ 1 ≤ s ∧ s < 8388608 ∧ ys.length ≤ 5 ∧ ∀ y ∈ ys, okS y = true := by
  obtain ⟨h1, h2, h3⟩ := okO_parts h
  have hne : xs ≠ [] := fun e => by subst e; simp at h1
  have hx := List.dropLast_concat_getLast hne
  have hs := okS_iff.1 (h3 _ (List.getLast_mem hne))
  refine ⟨xs.dropLast, (xs.getLast hne).toNat, ?_, by omega, by omega, by rw [List.length_dropLast]; omega, fun y hy => h3 y ((List.dropLast_sublist xs).subset hy)⟩
  rw [Int.toNat_of_nonneg (by omega)]; exact hx.symm
theorem okO_of {ys : List Int} {s : Nat} (hl : ys.length ≤ 5) (hy : ∀ y ∈ ys, okS y = true) (h1 : 1 ≤ s) (h2 : s < 8388608) : okO (ys ++ [(s : Int)]) = true := by
  refine okO_yes (by simp) (by simp; omega) ?_
  rw [List.all_eq_true]
  intro x hx
  rw [List.mem_append, List.mem_singleton] at hx
  rcases hx with hx | rfl
  · exact hy x hx
  · exact okS_yes ⟨by omega, by omega⟩
/-- Has the last stroke the key, and another one? -/
def un0B (xs : List Int) (q : Nat) : Bool := (lastN xs).testBit q && !decide (lastN xs = 2 ^ q)
def un0I (xs : List Int) (q : Nat) : List Int := if un0B xs q = true then xs.dropLast ++ [((lastN xs - 2 ^ q : Nat) : Int)] else []
def unfB (xs : List Int) (k : Int) (t : ByteArray) : Bool := (okO xs && Pl.okF (k, t)) && un0B xs k.toNat
def unfI (xs : List Int) (k : Int) (t : ByteArray) : List Int := if unfB xs k t = true then xs.dropLast ++ [((lastN xs - 2 ^ k.toNat : Nat) : Int)] else []
def intB (xs : List Int) (k : Int) (t : ByteArray) : Bool := (okO xs && Pl.okF (k, t)) && !(lastN xs).testBit k.toNat
def intI (xs : List Int) (k : Int) (t : ByteArray) : List Int := if intB xs k t = true then xs.dropLast ++ [((lastN xs + 2 ^ k.toNat : Nat) : Int)] else []
theorem last_len {xs : List Int} (h : okO xs = true) (x : Int) : (xs.dropLast ++ [x]).length ≤ 6 := by
  have := (okO_parts h).2.1
  rw [List.length_append, List.length_dropLast]; simp; omega
theorem unfI_len (xs : List Int) (k : Int) (t : ByteArray) : (unfI xs k t).length ≤ 6 := by
  unfold unfI
  split
  · rename_i h
    unfold unfB at h
    simp only [Bool.and_eq_true] at h
    exact last_len h.1.1 _
  · simp
theorem intI_len (xs : List Int) (k : Int) (t : ByteArray) : (intI xs k t).length ≤ 6 := by
  unfold intI
  split
  · rename_i h
    unfold intB at h
    simp only [Bool.and_eq_true] at h
    exact last_len h.1.1 _
  · simp
theorem unf_un0 {xs : List Int} {k : Int} {t : ByteArray} (h : okO xs = true) (h' : Pl.okF (k, t) = true) : unfB xs k t = un0B xs k.toNat ∧ unfI xs k t = un0I xs k.toNat := by
  have : unfB xs k t = un0B xs k.toNat := by unfold unfB; rw [h, h']; rfl
  exact ⟨this, by unfold unfI un0I; rw [this]⟩
theorem un0_pos (xs : List Int) (q : Nat) : decide (0 < (un0I xs q).length) = un0B xs q := by
  unfold un0I
  cases h : un0B xs q
  · simp
  · simp
theorem unf_no {xs : List Int} {k : Int} {t : ByteArray} (h : okO xs = false ∨ Pl.okF (k, t) = false) : unfB xs k t = false ∧ unfI xs k t = [] := by
  have : unfB xs k t = false := by unfold unfB; rcases h with h | h <;> simp [h]
  exact ⟨this, by unfold unfI; rw [this]; rfl⟩
theorem int_no {xs : List Int} {k : Int} {t : ByteArray} (h : okO xs = false ∨ Pl.okF (k, t) = false) : intB xs k t = false ∧ intI xs k t = [] := by
  have : intB xs k t = false := by unfold intB; rcases h with h | h <;> simp [h]
  exact ⟨this, by unfold intI; rw [this]; rfl⟩
theorem pow_22 {q : Nat} (h : q ≤ 22) : 2 ^ q < 8388608 := pow_lt23 q (by omega)
theorem andNot_i64 (s q : Nat) (hs : s < 8388608) (hq : q ≤ 22) : bits .andNot .i64 (s : Int) ((2 ^ q : Nat) : Int) = ((if s.testBit q then s - 2 ^ q else s : Nat) : Int) := by
  have hp := pow_22 hq
  show IntKind.i64.wrap ((BitVec.ofInt 64 (s : Int) &&& ~~~BitVec.ofInt 64 ((2 ^ q : Nat) : Int)).toNat : Int) = _
  rw [show BitVec.ofInt 64 (s : Int) = BitVec.ofNat 64 s from BitVec.ofInt_natCast .., show BitVec.ofInt 64 ((2 ^ q : Nat) : Int) = BitVec.ofNat 64 (2 ^ q) from BitVec.ofInt_natCast .., Pl.andNot_two (by omega) (by omega)]
  refine i64_small _ ?_
  split
  · exact Nat.lt_of_le_of_lt (Nat.sub_le _ _) (by omega)
  · omega
theorem ints_grown {w w' : World} {row : Option Nat} {u : Value} {xs : List Int} (h : IntsM w u xs) (hg : w.grownBy w' row) (hne : ∀ j, u.ownBlock = some j → row ≠ some j) : IntsM w' u xs := by
  rcases h with h | ⟨bk, o, cap, rfl, hc, hk, hcell⟩
  · exact .inl h
  · refine .inr ⟨bk, o, cap, rfl, hc, Nat.lt_of_lt_of_le hk hg.size, fun j x hx => ?_⟩
    have hb := hg.block bk hk (fun e => hne bk rfl e.symm)
    rw [← hcell j x hx]
    simp [World.cell?, hb]
theorem ints_one_new (w : World) (x : Int) : IntsM (w.alloc (.cells #[.int .i64 x] 3)) (.slice (some ⟨w.heap.size, 0, none⟩) 1 1) [x] := by
  refine .inr ⟨w.heap.size, 0, 1, rfl, Nat.le_refl _, by rw [World.size_alloc]; omega, fun j y hy => ?_⟩
  match j, hy with
  | 0, hy => simp at hy; subst hy; rw [World.cell?_alloc_at _ _ _ _ rfl]; rfl
theorem below_x1 (w : World) (o : Obj) : Below w.heap.size w (w.alloc o) := (Below.refl _ _).alloc (Nat.le_refl _) _
theorem below_x2 (w : World) (o o' : Obj) : Below w.heap.size w ((w.alloc o).alloc o') := ((Below.refl _ _).alloc (Nat.le_refl _) _).alloc (by simp) _
set_option maxHeartbeats 1000000 in
/-- The specification's unfolding of a valid outline by a valid fold. -/
theorem l10Unfold_any (v : Value) (xs : List Int) (k : Int) (t : ByteArray) (w : World) (h : IntsM w v xs) (hx : okO xs = true) (hf : Pl.okF (k, t) = true) :
    Calls Tryz.prog 65 #[v, atV k t] w fun e w' => (∃ u, e = .returned u ∧ w'.ownsRow w.heap.size 3 1 u (unfI xs k t).length ((unfI xs k t).map (.int .i64))) ∧ Below w.heap.size w w' := by
  obtain ⟨i0, hi, hz0, hz1, hz2⟩ := info_parts infoInt
  rw [(unf_un0 hx hf).2]
  obtain ⟨⟨q, hq, hq0, hq1⟩, _⟩ := Pl.okF_parts hf
  dsimp only at hq
  subst hq
  rw [Int.toNat_natCast]
  obtain ⟨ys, s, rfl, hs0, hs1, hyl, _⟩ := okO_snoc hx
  obtain ⟨bk, o, cap, rfl, hcap, hbk, hcell⟩ := h.block (by simp)
  have c0 := hcell ys.length (s : Int) (by simp)
  have hm := h.take ys.length (by simp)
  rw [List.take_left] at hm
  have hlen : (ys ++ [(s : Int)]).length = ys.length + 1 := by simp
  rw [hlen] at hcap ⊢
  have HU : Hid (un0I (ys ++ [(s : Int)]) q = if (s.testBit q && !decide (s = 2 ^ q)) = true then ys ++ [((s - 2 ^ q : Nat) : Int)] else []) := by
    show _ = _
    unfold un0I un0B
    rw [lastN_snoc, List.dropLast_concat]
  have hsh := shl_i64' q (by omega)
  have hp0 := pow_22 hq1
  have hp1 : 0 < 2 ^ q := Nat.two_pow_pos q
  have hand := and_i64 s (2 ^ q) (by omega) (by omega)
  rw [Pl.and_two] at hand
  have hle : s.testBit q = true → 2 ^ q ≤ s := fun h => Nat.ge_two_pow_of_testBit h
  obtain ⟨m, hmm⟩ : ∃ m, m = ys.length := ⟨_, rfl⟩
  have HMm := Lib.hid hmm
  have HM := Lib.hid hm
  have hyl5 : ys.length ≤ 5 := hyl
  rw [← hmm] at HM c0 hcap hyl ⊢
  obtain ⟨p, hp⟩ : ∃ p, p = 2 ^ q := ⟨_, rfl⟩
  rw [← hp] at HU hsh hp0 hp1 hand hle
  have HR0 : Hid (∀ o : Obj, ((w.alloc o).alloc (.cells #[] 3)).ownsRow w.heap.size 3 1 (.slice (some ⟨w.heap.size + 1, 0, none⟩) 0 0) 0 []) := by
    intro o
    have := row_new (w.alloc o) 3
    rw [World.size_alloc] at this
    exact ownsRow_mono this (by omega)
  clear h hx hf hcell hm hlen hmm hp
  cases hb : s.testBit q
  · rw [hb] at hand HU
    simp only [Bool.false_eq_true, if_false] at hand
    rw [if_neg (by simp)] at HU
    clear hb hle
    go_enter Tryz.func65, Tryz.ntmps65
    go_wp2
    go_ret
    rw [HU.out]
    exact ⟨⟨_, rfl, HR0.out _⟩, below_x2 _ _ _⟩
  · rw [hb] at hand HU
    simp only [if_true] at hand
    have hle2 := hle hb
    by_cases hsp : s = p
    · subst hsp
      rw [if_neg (by simp)] at HU
      clear hb hle
      go_enter Tryz.func65, Tryz.ntmps65
      go_wp2
      go_ret
      rw [HU.out]
      exact ⟨⟨_, rfl, HR0.out _⟩, below_x2 _ _ _⟩
    · rw [if_pos (by simp [hsp])] at HU
      have hne : ((s : Int) == (p : Int)) = false := by rw [beq_eq_false_iff_ne]; omega
      have hne2 : ((p : Int) == 0) = false := by rw [beq_eq_false_iff_ne]; omega
      have hsub : IntKind.i64.wrap ((s : Int) - (p : Int)) = ((s - p : Nat) : Int) := by rw [show (s : Int) - (p : Int) = ((s - p : Nat) : Int) by omega]; exact i64_small _ (by omega)
      clear hb hle
      go_enter Tryz.func65, Tryz.ntmps65
      go_wp2_with fail
      obtain ⟨W, hW⟩ : ∃ W, W = w.alloc (.cells #[.int .i64 (q : Int), .string t] 96) := ⟨_, rfl⟩
      rw [← hW]
      have HBW : Hid (Below w.heap.size w W) := Lib.hid (by rw [hW]; exact below_x1 _ _)
      have c1 : W.cell? ⟨bk, o + m, none⟩ = some (.int .i64 s) := (HBW.out.cell (p := ⟨bk, o + m, none⟩) hbk).trans c0
      have HMW : Hid (∀ W', Below W.heap.size W W' → IntsM W' (.slice (some ⟨bk, o, none⟩) m cap) ys) := Lib.hid (fun W' hb => (HM.out.below HBW.out).below hb)
      have kc := cell_regrown c1
      clear hW c0 HR0
      refine Mx.wp_region_mixed (Mx.ofL [(1, 0), (2, 0), (3, 0), (4, 0), (6, 0), (7, 0), (8, 0), (9, 0), (10, 1), (11, 0), (12, 0)] (.fork 0 2 ((.fork 5 2 (Mx.ofL [(13, 3), (14, 3), (15, 0)] .done) 13 3 (Mx.ofL [(5, 2), (14, 3), (15, 0)] .done))) 13 3 (Mx.ofL [(0, 2), (5, 2), (14, 3), (15, 0)] .done))) (by kernel_rfl) (by kernel_rfl) ?_
      repeat ((first | refine Mx.mix0 rfl ?_ | refine Mx.mix1 rfl ?_); go_big_quiet_step (fail); refine wpQuiet_nil ?_)
      have D0 := Lib.hid (below_drewF (Below.refl W.heap.size W) 1)
      refine Mx.mixF rfl rfl ?A ?B
      case' A =>
        go_wp2_with fail
        have N1 : Hid (Below W.heap.size W (W.drew.alloc (.cells #[] 3))) := Lib.hid (D0.out.alloc (Nat.le_refl _) _)
        have R1 : Hid ((W.drew.alloc (.cells #[] 3)).ownsRow W.heap.size 3 1 (.slice (some ⟨W.heap.size, 0, none⟩) 0 0) 0 []) := Lib.hid (row_new W.drew 3)
        refine Mx.mid_normal (fun _ => regrown_of_below N1.out) ?_
        refine Mx.mixF rfl rfl ?A1 ?A2
        case' A1 =>
          refine append_ints hi hz0 hz1 hz2 rfl _ _ rfl W.heap.size _ [] rfl R1.out _ ys rfl (HMW.out _ N1.out) (by simp) (by first | omega | simp) (by first | omega | simp) ?_
          intro v2 w2 hown hg
          have N2 : Hid (Below W.heap.size W w2) := Lib.hid (N1.out.grown hg (by simp) (fun j hj => row_ge R1.out hj))
          have R2 := Lib.hid hown
          clear hown hg N1 R1
          go_wp2
          refine Mx.mid_normal (fun _ => regrown_of_below N2.out) ?_
          refine Mx.mix3 rfl ?_
          go_wp2
          refine Mx.mid_normal (fun q => by cases q) ?_
          have N3 : Hid (Below W.heap.size W (w2.alloc (.cells #[.int .i64 ((s - p : Nat) : Int)] 3))) := Lib.hid (N2.out.alloc N2.out.size _)
          have I3 : Hid (IntsM (w2.alloc (.cells #[.int .i64 ((s - p : Nat) : Int)] 3)) (.slice (some ⟨w2.heap.size, 0, none⟩) 1 1) [((s - p : Nat) : Int)]) := Lib.hid (ints_one_new _ _)
          have R3 : Hid ((w2.alloc (.cells #[.int .i64 ((s - p : Nat) : Int)] 3)).ownsRow W.heap.size 3 1 v2 ys.length (ys.map (.int .i64))) := Lib.hid (R2.out.alloc (.cells #[.int .i64 ((s - p : Nat) : Int)] 3))
          generalize w2.alloc (.cells #[.int .i64 ((s - p : Nat) : Int)] 3) = w3 at N3 I3 R3 ⊢
          generalize (Value.slice (some ⟨w2.heap.size, 0, none⟩) 1 1) = u3 at I3 ⊢
          generalize v2 = v3 at R3 ⊢
          clear R2 N2
          refine Mx.mix3 rfl ?_
        case' A2 =>
          go_wp2_with fail
          refine Mx.mid_normal (fun q => by cases q) ?_
          have N2 : Hid (Below W.heap.size W ((W.drew.alloc (.cells #[] 3)).alloc (.cells #[.int .i64 ((s - p : Nat) : Int)] 3))) := Lib.hid (N1.out.alloc N1.out.size _)
          have I2 : Hid (IntsM ((W.drew.alloc (.cells #[] 3)).alloc (.cells #[.int .i64 ((s - p : Nat) : Int)] 3)) (.slice (some ⟨W.heap.size + 1, 0, none⟩) 1 1) [((s - p : Nat) : Int)]) := Lib.hid (by have := ints_one_new (W.drew.alloc (.cells #[] 3)) ((s - p : Nat) : Int); rw [World.size_alloc] at this; exact this)
          have R2 : Hid (((W.drew.alloc (.cells #[] 3)).alloc (.cells #[.int .i64 ((s - p : Nat) : Int)] 3)).ownsRow W.heap.size 3 1 (.slice (some ⟨W.heap.size, 0, none⟩) 0 0) 0 []) := Lib.hid (R1.out.alloc (.cells #[.int .i64 ((s - p : Nat) : Int)] 3))
          have hu3b : ∀ j, (Value.slice (some ⟨W.heap.size + 1, 0, none⟩) 1 1).ownBlock = some j → some W.heap.size ≠ some j := fun j hj e => by simp [Value.ownBlock] at hj; injection e with e; omega
          show Mx.wpMix _ _ _ _ _ _ ((W.drew.alloc (.cells #[] 3)).alloc (.cells #[.int .i64 ((s - p : Nat) : Int)] 3))
          generalize (W.drew.alloc (.cells #[] 3)).alloc (.cells #[.int .i64 ((s - p : Nat) : Int)] 3) = w2 at N2 I2 R2 ⊢
          generalize (Value.slice (some ⟨W.heap.size + 1, 0, none⟩) 1 1) = u3 at I2 hu3b ⊢
          have HB3 := Lib.hid hu3b
          clear R1 N1 hu3b
          refine Mx.mix2 rfl ?_
          refine append_ints hi hz0 hz1 hz2 rfl _ _ rfl W.heap.size _ [] rfl R2.out _ ys rfl (HMW.out _ N2.out) N2.out.size (by first | omega | simp) (by first | omega | simp) ?_
          intro v3 w3 hown hg
          have N3 : Hid (Below W.heap.size W w3) := Lib.hid (N2.out.grown hg N2.out.size (fun j hj => row_ge R2.out hj))
          have I3 := Lib.hid (ints_grown I2.out hg HB3.out)
          have R3 := Lib.hid hown
          clear hown hg N2 R2 I2 HB3
          go_wp2
          refine Mx.mid_normal (fun _ => regrown_of_below N3.out) ?_
          refine Mx.mix3 rfl ?_
      case' B =>
        go_wp2_with fail
        refine Mx.mid_normal (fun q => by cases q) ?_
        have N1 : Hid (Below W.heap.size W (W.drew.alloc (.cells #[.int .i64 ((s - p : Nat) : Int)] 3))) := Lib.hid (D0.out.alloc (Nat.le_refl _) _)
        have I1 : Hid (IntsM (W.drew.alloc (.cells #[.int .i64 ((s - p : Nat) : Int)] 3)) (.slice (some ⟨W.heap.size, 0, none⟩) 1 1) [((s - p : Nat) : Int)]) := Lib.hid (ints_one_new W.drew ((s - p : Nat) : Int))
        have hs1 : (W.drew.alloc (.cells #[.int .i64 ((s - p : Nat) : Int)] 3)).heap.size = W.heap.size + 1 := by simp
        have hu3b : ∀ j, (Value.slice (some ⟨W.heap.size, 0, none⟩) 1 1).ownBlock = some j → some (W.heap.size + 1) ≠ some j := fun j hj e => by simp [Value.ownBlock] at hj; injection e with e; omega
        refine Mx.mix2 rfl ?_
        go_wp2_with fail
        have R2 : Hid (((W.drew.alloc (.cells #[.int .i64 ((s - p : Nat) : Int)] 3)).alloc (.cells #[] 3)).ownsRow W.heap.size 3 1 (.slice (some ⟨W.heap.size + 1, 0, none⟩) 0 0) 0 []) := Lib.hid (by have := row_new (W.drew.alloc (.cells #[.int .i64 ((s - p : Nat) : Int)] 3)) 3; rw [hs1] at this; exact ownsRow_mono this (by omega))
        have N2 : Hid (Below W.heap.size W ((W.drew.alloc (.cells #[.int .i64 ((s - p : Nat) : Int)] 3)).alloc (.cells #[] 3))) := Lib.hid (N1.out.alloc N1.out.size _)
        have I2 : Hid (IntsM ((W.drew.alloc (.cells #[.int .i64 ((s - p : Nat) : Int)] 3)).alloc (.cells #[] 3)) (.slice (some ⟨W.heap.size, 0, none⟩) 1 1) [((s - p : Nat) : Int)]) := Lib.hid (I1.out.below (below_x1 _ _))
        refine Mx.mid_normal (fun _ => regrown_of_below N2.out) ?_
        show Mx.wpMix _ _ _ _ _ _ ((W.drew.alloc (.cells #[.int .i64 ((s - p : Nat) : Int)] 3)).alloc (.cells #[] 3))
        generalize (W.drew.alloc (.cells #[.int .i64 ((s - p : Nat) : Int)] 3)).alloc (.cells #[] 3) = w2 at N2 I2 R2 ⊢
        generalize (Value.slice (some ⟨W.heap.size, 0, none⟩) 1 1) = u3 at I2 hu3b ⊢
        have HB3 := Lib.hid hu3b
        clear I1 N1 hu3b hs1
        refine Mx.mix2 rfl ?_
        refine append_ints hi hz0 hz1 hz2 rfl _ _ rfl W.heap.size _ [] rfl R2.out _ ys rfl (HMW.out _ N2.out) N2.out.size (by first | omega | simp) (by first | omega | simp) ?_
        intro v3 w3 hown hg
        have N3 : Hid (Below W.heap.size W w3) := Lib.hid (N2.out.grown hg N2.out.size (fun j hj => row_ge R2.out hj))
        have I3 := Lib.hid (ints_grown I2.out hg HB3.out)
        have R3 := Lib.hid hown
        clear hown hg N2 R2 I2 HB3
        go_wp2
        refine Mx.mid_normal (fun _ => regrown_of_below N3.out) ?_
        refine Mx.mix3 rfl ?_
      all_goals
        refine append_ints hi hz0 hz1 hz2 rfl _ _ rfl W.heap.size _ ys rfl R3.out _ [((s - p : Nat) : Int)] rfl I3.out N3.out.size (by first | omega | simp) (by first | omega | simp) ?_
        intro v4 w4 hown hg
        have N4 : Hid (Below W.heap.size W w4) := Lib.hid (N3.out.grown hg N3.out.size (fun j hj => row_ge R3.out hj))
        have R4 := Lib.hid (ownsRow_mono hown HBW.out.size)
        clear hown hg N3 R3 I3
        go_wp2
        refine Mx.mid_normal (fun q => by cases q) ?_
        repeat ((first | refine Mx.mix0 rfl ?_ | refine Mx.mix1 rfl ?_); go_big_quiet_step (fail); refine wpQuiet_nil ?_)
        refine Mx.mix_nil ?_
        go_wp2; go_ret; rw [HU.out]; exact ⟨⟨_, rfl, R4.out⟩, HBW.out.trans (N4.out.mono HBW.out.size)⟩
theorem outE_nil (w : World) (a : Option Addr) (cap : Nat) : OutE w [] false (.returned (.tuple #[.slice a 0 cap, .bool false])) := ⟨_, rfl, IntsAt.nil _ _ _⟩
theorem outO_nil (base : Nat) (w : World) (a : Option Addr) (cap : Nat) : OutO base w [] false (.returned (.tuple #[.slice a 0 cap, .bool false])) := ⟨_, rfl, .inl ⟨rfl, _, _, rfl⟩⟩
/-- An answer of ints that lie in memory of the call's own, and a flag. -/
def OutEb (base : Nat) (w' : World) (xs : List Int) (b : Bool) (e : Ending) : Prop := ∃ u, e = .returned (.tuple #[u, .bool b]) ∧ IntsAt w' u xs ∧ ∀ g, u.ownBlock = some g → base ≤ g
theorem outEb_nil (base : Nat) (w : World) (cap : Nat) : OutEb base w [] false (.returned (.tuple #[.slice none 0 cap, .bool false])) := ⟨_, rfl, IntsAt.nil _ _ _, fun g hg => by cases hg⟩
set_option maxHeartbeats 1000000 in
theorem specFoldInto_own (v : Value) (xs : List Int) (k : Int) (t : ByteArray) (w : World) (h : IntsM w v xs) (hn : xs.length ≤ 2097152) (ht : t.size ≤ 1048576) :
    Calls Tryz.prog 57 #[v, atV k t] w fun e w' => OutEb w.heap.size w' (intI xs k t) (intB xs k t) e ∧ Below w.heap.size w w' := by
  obtain ⟨i0, hi, hz0, hz1, hz2⟩ := info_parts infoInt
  have CX := fun w' h => l4Good_any v xs w' h hn
  have CF := fun w => l10Fold_any k t w (by unfold maxLen; omega)
  have HI := Lib.hid h
  cases hx : okO xs
  · obtain ⟨a, cap, rfl, hcap, _⟩ := h.at.cells
    rw [(int_no (.inl hx)).1, (int_no (.inl hx)).2]
    rw [hx] at CX
    have C1 := Lib.hid CX
    clear h CX CF hx
    go_enter Tryz.func57, Tryz.ntmps57
    go_wp2_with fail
    refine (C1.out _ (HI.out.below (below_x1 _ _)).at).mono ?_
    rintro e w1 ⟨rfl, rfl⟩
    go_wp2
    go_ret2
    exact ⟨outEb_nil _ _ _, below_x1 _ _⟩
  · rw [hx] at CX
    have C1 := Lib.hid CX
    cases hf : Pl.okF (k, t)
    · obtain ⟨a, cap, rfl, hcap, _⟩ := h.at.cells
      rw [(int_no (.inr hf)).1, (int_no (.inr hf)).2]
      rw [hf] at CF
      have C2 := Lib.hid CF
      clear h CX CF hx hf
      go_enter Tryz.func57, Tryz.ntmps57
      go_wp2_with fail
      refine (C1.out _ (HI.out.below (below_x1 _ _)).at).mono ?_
      rintro e w1 ⟨rfl, rfl⟩
      go_wp2_with fail
      refine (C2.out _).mono ?_
      rintro e w2 ⟨rfl, hb⟩
      have B2 := Lib.hid (below_new hb)
      clear hb
      go_wp2
      go_ret2
      exact ⟨outEb_nil _ _ _, B2.out⟩
    · rw [hf] at CF
      have C2 := Lib.hid CF
      have hB0 : intB xs k t = !(lastN xs).testBit k.toNat := by unfold intB; rw [hx, hf]; rfl
      obtain ⟨⟨q, hq, hq0, hq1⟩, _⟩ := Pl.okF_parts hf
      dsimp only at hq
      subst hq
      rw [Int.toNat_natCast] at hB0
      obtain ⟨ys, s, rfl, hs0, hs1, hyl, _⟩ := okO_snoc hx
      rw [lastN_snoc] at hB0
      have HV : Hid (intI (ys ++ [(s : Int)]) (q : Int) t = if intB (ys ++ [(s : Int)]) (q : Int) t = true then ys ++ [((s + 2 ^ q : Nat) : Int)] else []) := by
        show _ = _
        unfold intI
        rw [lastN_snoc, List.dropLast_concat, Int.toNat_natCast]
      obtain ⟨zs, hzs⟩ : ∃ zs, zs = intI (ys ++ [(s : Int)]) (q : Int) t := ⟨_, rfl⟩
      obtain ⟨b, hbe⟩ : ∃ b, b = intB (ys ++ [(s : Int)]) (q : Int) t := ⟨_, rfl⟩
      rw [← hzs, ← hbe] at HV ⊢
      rw [← hbe] at hB0
      obtain ⟨bk, o, cap, rfl, hcap, hbk, hcell⟩ := h.block (by simp)
      have c0 := hcell ys.length (s : Int) (by simp)
      have hm := h.take ys.length (by simp)
      rw [List.take_left] at hm
      have hlen : (ys ++ [(s : Int)]).length = ys.length + 1 := by simp
      have HL := Lib.hid hlen
      rw [hlen] at hcap
      simp only [hlen] at C1
      rw [hlen]
      have HI2 : Hid (IntsM w (.slice (some ⟨bk, o, none⟩) (ys.length + 1) cap) (ys ++ [(s : Int)])) := Lib.hid (by have := HI.out; rw [hlen] at this; exact this)
      have hsh := shl_i64' q (by omega)
      have hp0 := pow_22 hq1
      have hp1 : 0 < 2 ^ q := Nat.two_pow_pos q
      have hand := and_i64 s (2 ^ q) (by omega) (by omega)
      rw [Pl.and_two] at hand
      have hyl5 : ys.length ≤ 5 := hyl
      obtain ⟨m, hmm⟩ : ∃ m, m = ys.length := ⟨_, rfl⟩
      have HMm := Lib.hid hmm
      have HM := Lib.hid hm
      rw [← hmm] at HM c0 hcap hyl HI2 C1 ⊢
      obtain ⟨p, hp⟩ : ∃ p, p = 2 ^ q := ⟨_, rfl⟩
      rw [← hp] at HV hsh hp0 hp1 hand
      have BX := Lib.hid (below_x1 w (.cells #[.int .i64 (q : Int), .string t] 96))
      clear h HI CX CF hx hf hcell hm hlen hmm hp hzs hbe
      cases hb : s.testBit q
      · rw [hb] at hand hB0
        simp only [Bool.false_eq_true, if_false] at hand
        rw [Bool.not_false] at hB0
        subst hB0
        rw [if_pos rfl] at HV
        have HV2 : Hid (zs = ys ++ [(s : Int) + (p : Int)]) := Lib.hid (by rw [HV.out, Int.natCast_add])
        clear hb
        go_enter Tryz.func57, Tryz.ntmps57
        go_wp2_with fail
        refine (C1.out _ (HI2.out.below BX.out).at).mono ?_
        rintro e w1 ⟨rfl, rfl⟩
        go_wp2_with fail
        refine (C2.out _).mono ?_
        rintro e W ⟨rfl, hb⟩
        have HBW := Lib.hid (below_new hb)
        have X2 := Lib.hid (BoxA.new hb)
        clear hb
        obtain ⟨_, q0, q1⟩ := X2.out
        have c1 : W.cell? ⟨bk, o + m, none⟩ = some (.int .i64 s) := (HBW.out.cell (p := ⟨bk, o + m, none⟩) hbk).trans c0
        have HMW : Hid (∀ W', Below W.heap.size W W' → IntsM W' (.slice (some ⟨bk, o, none⟩) m cap) ys) := Lib.hid (fun W' hb => (HM.out.below HBW.out).below hb)
        have kc := cell_regrown c1
        clear c0
        go_wp2_with fail
        refine Mx.wp_region_mixed (Mx.ofL [(1, 0), (2, 0), (3, 0), (4, 0), (6, 0), (7, 0), (8, 0), (9, 0), (10, 1), (11, 0), (12, 0)] (.fork 0 2 ((.fork 5 2 (Mx.ofL [(13, 3), (14, 3), (15, 0), (16, 0)] .done) 13 3 (Mx.ofL [(5, 2), (14, 3), (15, 0), (16, 0)] .done))) 13 3 (Mx.ofL [(0, 2), (5, 2), (14, 3), (15, 0), (16, 0)] .done))) (by kernel_rfl) (by kernel_rfl) ?_
        repeat ((first | refine Mx.mix0 rfl ?_ | refine Mx.mix1 rfl ?_); go_big_quiet_step (fail); refine wpQuiet_nil ?_)
        have D0 := Lib.hid (below_drewF (Below.refl W.heap.size W) 1)
        refine Mx.mixF rfl rfl ?A ?B
        case' A =>
          go_wp2_with fail
          have N1 : Hid (Below W.heap.size W (W.drew.alloc (.cells #[] 3))) := Lib.hid (D0.out.alloc (Nat.le_refl _) _)
          have R1 : Hid ((W.drew.alloc (.cells #[] 3)).ownsRow W.heap.size 3 1 (.slice (some ⟨W.heap.size, 0, none⟩) 0 0) 0 []) := Lib.hid (row_new W.drew 3)
          refine Mx.mid_normal (fun _ => regrown_of_below N1.out) ?_
          refine Mx.mixF rfl rfl ?A1 ?A2
          case' A1 =>
            refine append_ints hi hz0 hz1 hz2 rfl _ _ rfl W.heap.size _ [] rfl R1.out _ ys rfl (HMW.out _ N1.out) (by simp) (by first | omega | simp) (by first | omega | simp) ?_
            intro v2 w2 hown hg
            have N2 : Hid (Below W.heap.size W w2) := Lib.hid (N1.out.grown hg (by simp) (fun j hj => row_ge R1.out hj))
            have R2 := Lib.hid hown
            clear hown hg N1 R1
            go_wp2
            refine Mx.mid_normal (fun _ => regrown_of_below N2.out) ?_
            refine Mx.mix3 rfl ?_
            go_wp2
            refine Mx.mid_normal (fun q => by cases q) ?_
            have N3 : Hid (Below W.heap.size W (w2.alloc (.cells #[.int .i64 ((s : Int) + (p : Int))] 3))) := Lib.hid (N2.out.alloc N2.out.size _)
            have I3 : Hid (IntsM (w2.alloc (.cells #[.int .i64 ((s : Int) + (p : Int))] 3)) (.slice (some ⟨w2.heap.size, 0, none⟩) 1 1) [((s : Int) + (p : Int))]) := Lib.hid (ints_one_new _ _)
            have R3 : Hid ((w2.alloc (.cells #[.int .i64 ((s : Int) + (p : Int))] 3)).ownsRow W.heap.size 3 1 v2 ys.length (ys.map (.int .i64))) := Lib.hid (R2.out.alloc (.cells #[.int .i64 ((s : Int) + (p : Int))] 3))
            generalize w2.alloc (.cells #[.int .i64 ((s : Int) + (p : Int))] 3) = w3 at N3 I3 R3 ⊢
            generalize (Value.slice (some ⟨w2.heap.size, 0, none⟩) 1 1) = u3 at I3 ⊢
            generalize v2 = v3 at R3 ⊢
            clear R2 N2
            refine Mx.mix3 rfl ?_
          case' A2 =>
            go_wp2_with fail
            refine Mx.mid_normal (fun q => by cases q) ?_
            have N2 : Hid (Below W.heap.size W ((W.drew.alloc (.cells #[] 3)).alloc (.cells #[.int .i64 ((s : Int) + (p : Int))] 3))) := Lib.hid (N1.out.alloc N1.out.size _)
            have I2 : Hid (IntsM ((W.drew.alloc (.cells #[] 3)).alloc (.cells #[.int .i64 ((s : Int) + (p : Int))] 3)) (.slice (some ⟨W.heap.size + 1, 0, none⟩) 1 1) [((s : Int) + (p : Int))]) := Lib.hid (by have := ints_one_new (W.drew.alloc (.cells #[] 3)) ((s : Int) + (p : Int)); rw [World.size_alloc] at this; exact this)
            have R2 : Hid (((W.drew.alloc (.cells #[] 3)).alloc (.cells #[.int .i64 ((s : Int) + (p : Int))] 3)).ownsRow W.heap.size 3 1 (.slice (some ⟨W.heap.size, 0, none⟩) 0 0) 0 []) := Lib.hid (R1.out.alloc (.cells #[.int .i64 ((s : Int) + (p : Int))] 3))
            have hu3b : ∀ j, (Value.slice (some ⟨W.heap.size + 1, 0, none⟩) 1 1).ownBlock = some j → some W.heap.size ≠ some j := fun j hj e => by simp [Value.ownBlock] at hj; injection e with e; omega
            show Mx.wpMix _ _ _ _ _ _ ((W.drew.alloc (.cells #[] 3)).alloc (.cells #[.int .i64 ((s : Int) + (p : Int))] 3))
            generalize (W.drew.alloc (.cells #[] 3)).alloc (.cells #[.int .i64 ((s : Int) + (p : Int))] 3) = w2 at N2 I2 R2 ⊢
            generalize (Value.slice (some ⟨W.heap.size + 1, 0, none⟩) 1 1) = u3 at I2 hu3b ⊢
            have HB3 := Lib.hid hu3b
            clear R1 N1 hu3b
            refine Mx.mix2 rfl ?_
            refine append_ints hi hz0 hz1 hz2 rfl _ _ rfl W.heap.size _ [] rfl R2.out _ ys rfl (HMW.out _ N2.out) N2.out.size (by first | omega | simp) (by first | omega | simp) ?_
            intro v3 w3 hown hg
            have N3 : Hid (Below W.heap.size W w3) := Lib.hid (N2.out.grown hg N2.out.size (fun j hj => row_ge R2.out hj))
            have I3 := Lib.hid (ints_grown I2.out hg HB3.out)
            have R3 := Lib.hid hown
            clear hown hg N2 R2 I2 HB3
            go_wp2
            refine Mx.mid_normal (fun _ => regrown_of_below N3.out) ?_
            refine Mx.mix3 rfl ?_
        case' B =>
          go_wp2_with fail
          refine Mx.mid_normal (fun q => by cases q) ?_
          have N1 : Hid (Below W.heap.size W (W.drew.alloc (.cells #[.int .i64 ((s : Int) + (p : Int))] 3))) := Lib.hid (D0.out.alloc (Nat.le_refl _) _)
          have I1 : Hid (IntsM (W.drew.alloc (.cells #[.int .i64 ((s : Int) + (p : Int))] 3)) (.slice (some ⟨W.heap.size, 0, none⟩) 1 1) [((s : Int) + (p : Int))]) := Lib.hid (ints_one_new W.drew ((s : Int) + (p : Int)))
          have hs1 : (W.drew.alloc (.cells #[.int .i64 ((s : Int) + (p : Int))] 3)).heap.size = W.heap.size + 1 := by simp
          have hu3b : ∀ j, (Value.slice (some ⟨W.heap.size, 0, none⟩) 1 1).ownBlock = some j → some (W.heap.size + 1) ≠ some j := fun j hj e => by simp [Value.ownBlock] at hj; injection e with e; omega
          refine Mx.mix2 rfl ?_
          go_wp2_with fail
          have R2 : Hid (((W.drew.alloc (.cells #[.int .i64 ((s : Int) + (p : Int))] 3)).alloc (.cells #[] 3)).ownsRow W.heap.size 3 1 (.slice (some ⟨W.heap.size + 1, 0, none⟩) 0 0) 0 []) := Lib.hid (by have := row_new (W.drew.alloc (.cells #[.int .i64 ((s : Int) + (p : Int))] 3)) 3; rw [hs1] at this; exact ownsRow_mono this (by omega))
          have N2 : Hid (Below W.heap.size W ((W.drew.alloc (.cells #[.int .i64 ((s : Int) + (p : Int))] 3)).alloc (.cells #[] 3))) := Lib.hid (N1.out.alloc N1.out.size _)
          have I2 : Hid (IntsM ((W.drew.alloc (.cells #[.int .i64 ((s : Int) + (p : Int))] 3)).alloc (.cells #[] 3)) (.slice (some ⟨W.heap.size, 0, none⟩) 1 1) [((s : Int) + (p : Int))]) := Lib.hid (I1.out.below (below_x1 _ _))
          refine Mx.mid_normal (fun _ => regrown_of_below N2.out) ?_
          show Mx.wpMix _ _ _ _ _ _ ((W.drew.alloc (.cells #[.int .i64 ((s : Int) + (p : Int))] 3)).alloc (.cells #[] 3))
          generalize (W.drew.alloc (.cells #[.int .i64 ((s : Int) + (p : Int))] 3)).alloc (.cells #[] 3) = w2 at N2 I2 R2 ⊢
          generalize (Value.slice (some ⟨W.heap.size, 0, none⟩) 1 1) = u3 at I2 hu3b ⊢
          have HB3 := Lib.hid hu3b
          clear I1 N1 hu3b hs1
          refine Mx.mix2 rfl ?_
          refine append_ints hi hz0 hz1 hz2 rfl _ _ rfl W.heap.size _ [] rfl R2.out _ ys rfl (HMW.out _ N2.out) N2.out.size (by first | omega | simp) (by first | omega | simp) ?_
          intro v3 w3 hown hg
          have N3 : Hid (Below W.heap.size W w3) := Lib.hid (N2.out.grown hg N2.out.size (fun j hj => row_ge R2.out hj))
          have I3 := Lib.hid (ints_grown I2.out hg HB3.out)
          have R3 := Lib.hid hown
          clear hown hg N2 R2 I2 HB3
          go_wp2
          refine Mx.mid_normal (fun _ => regrown_of_below N3.out) ?_
          refine Mx.mix3 rfl ?_
        all_goals
          refine append_ints hi hz0 hz1 hz2 rfl _ _ rfl W.heap.size _ ys rfl R3.out _ [((s : Int) + (p : Int))] rfl I3.out N3.out.size (by first | omega | simp) (by first | omega | simp) ?_
          intro v4 w4 hown hg
          have N4 : Hid (Below W.heap.size W w4) := Lib.hid (N3.out.grown hg N3.out.size (fun j hj => row_ge R3.out hj))
          have R4 := Lib.hid (ownsRow_mono hown HBW.out.size)
          clear hown hg N3 R3 I3
          go_wp2
          refine Mx.mid_normal (fun q => by cases q) ?_
          repeat ((first | refine Mx.mix0 rfl ?_ | refine Mx.mix1 rfl ?_); go_big_quiet_step (fail); refine wpQuiet_nil ?_)
          refine Mx.mix_nil ?_
          go_wp2; go_ret2; rw [HV2.out]; exact ⟨⟨_, rfl, rowInts_at R4.out, fun g hg => (R4.out.lt g hg).1⟩, HBW.out.trans (N4.out.mono HBW.out.size)⟩
      · rw [hb] at hand hB0
        simp only [if_true] at hand
        rw [Bool.not_true] at hB0
        subst hB0
        rw [if_neg (by simp)] at HV
        have hne2 : ((p : Int) == 0) = false := by rw [beq_eq_false_iff_ne]; omega
        clear hb
        go_enter Tryz.func57, Tryz.ntmps57
        go_wp2_with fail
        refine (C1.out _ (HI2.out.below BX.out).at).mono ?_
        rintro e w1 ⟨rfl, rfl⟩
        go_wp2_with fail
        refine (C2.out _).mono ?_
        rintro e W ⟨rfl, hb⟩
        have HBW := Lib.hid (below_new hb)
        have X2 := Lib.hid (BoxA.new hb)
        clear hb
        obtain ⟨_, q0, q1⟩ := X2.out
        have c1 : W.cell? ⟨bk, o + m, none⟩ = some (.int .i64 s) := (HBW.out.cell (p := ⟨bk, o + m, none⟩) hbk).trans c0
        clear c0
        go_wp2
        go_ret2
        rw [HV.out]
        exact ⟨outEb_nil _ _ _, HBW.out⟩
theorem specFoldInto_any (v : Value) (xs : List Int) (k : Int) (t : ByteArray) (w : World) (h : IntsM w v xs) (hn : xs.length ≤ 2097152) (ht : t.size ≤ 1048576) :
    Calls Tryz.prog 57 #[v, atV k t] w fun e w' => OutE w' (intI xs k t) (intB xs k t) e ∧ Below w.heap.size w w' :=
  (specFoldInto_own v xs k t w h hn ht).mono fun _ _ ⟨⟨u, he, hu, _⟩, hb⟩ => ⟨⟨u, he, hu⟩, hb⟩
end Go.Proofs.YthigdblloddepaaGreat

namespace Go.Proofs.YthigdblloddepaaGreat
set_option maxRecDepth 100000
open Go.RowKit

theorem ownI_mono {w : World} {b b' : Nat} {v : Value} {n : Nat} {f : Nat → Int} (h : OwnInts w b v n f) (hb : b' ≤ b) : OwnInts w b' v n f := by
  rcases h with h | ⟨g, cap, hv, hc, hg, rest⟩
  · exact .inl h
  · exact .inr ⟨g, cap, hv, hc, Nat.le_trans hb hg, rest⟩
/-- The library's copy of a slice of ints. -/
theorem cloneI_any (u : Value) (xs : List Int) (w : World) (h : IntsAt w u xs) (h0 : 0 < xs.length) (hn : xs.length ≤ 2097152) :
    Calls Tryz.prog 64 #[u] w fun e w' => (∃ v, e = .returned v ∧ OwnInts w' w.heap.size v xs.length (fun j => xs.getD j 0)) ∧ Below w.heap.size w w' := by
  obtain ⟨bk, o, cap, rfl, hc, hk, hcell⟩ := h.block h0
  refine (Tryz.slices_Clone_int bk o xs.length cap xs w (Nat.le_refl _) (by omega) (fun j hj => ?_)).mono ?_
  · rw [hcell j _ (List.getElem?_eq_getElem hj)]; simp [List.getD, List.getElem?_eq_getElem hj]
  · rintro e w' ⟨v, rfl, hown, _, hb⟩
    rw [List.take_length] at hown
    exact ⟨⟨v, rfl, ownInts_of hown⟩, hb⟩
theorem withoutKey_any (s q : Nat) (hs0 : 1 ≤ s) (hs : s < 8388608) (hq : q ≤ 22) (w : World) :
    Calls Tryz.prog 120 #[.int .i64 s, .int .i64 ((2 ^ q : Nat) : Int)] w fun e w' => e = .returned (.tuple #[.int .i64 ((if s.testBit q then s - 2 ^ q else s : Nat) : Int), .bool (s.testBit q && !decide (s = 2 ^ q))]) ∧ w = w' := by
  have hp0 := pow_22 hq
  have hp1 : 0 < 2 ^ q := Nat.two_pow_pos q
  have hand := andNot_i64 s q hs hq
  have hle : s.testBit q = true → 2 ^ q ≤ s := fun h => Nat.ge_two_pow_of_testBit h
  have CS := Lib.hid (fun s w => isStroke_any s w)
  obtain ⟨p, hp⟩ : ∃ p, p = 2 ^ q := ⟨_, rfl⟩
  rw [← hp] at hp0 hp1 hand hle ⊢
  clear hp
  cases hb : s.testBit q
  · rw [hb] at hand
    simp only [Bool.false_eq_true, if_false] at hand ⊢
    clear hle hb
    go_enter Tryz.func120, Tryz.ntmps120
    go_wp2
    go_ret2
    exact ⟨rfl, rfl⟩
  · rw [hb] at hand
    simp only [if_true] at hand ⊢
    have hle2 := hle hb
    have cs := fun w => CS.out ((s - p : Nat) : Int) w
    have ho : okS ((s - p : Nat) : Int) = !decide (s = p) := by
      by_cases e : s = p
      · rw [okS_no (by omega), decide_eq_true e]; rfl
      · rw [okS_yes ⟨by omega, by omega⟩, decide_eq_false e]; rfl
    rw [ho] at cs
    have CS2 := Lib.hid cs
    have hne : (((s - p : Nat) : Int) != (s : Int)) = true := by rw [bne_iff_ne]; omega
    clear cs ho hle hb CS
    go_enter Tryz.func120, Tryz.ntmps120
    go_wp2_with fail
    refine (CS2.out _).mono ?_
    rintro e w1 ⟨rfl, rfl⟩
    go_wp2
    go_ret2
    exact ⟨rfl, rfl⟩
theorem withKey_any (s q : Nat) (_hs0 : 1 ≤ s) (hs : s < 8388608) (hq : q ≤ 22) (w : World) :
    Calls Tryz.prog 88 #[.int .i64 s, .int .i64 ((2 ^ q : Nat) : Int)] w fun e w' => e = .returned (.tuple #[.int .i64 ((s ||| 2 ^ q : Nat) : Int), .bool (!s.testBit q)]) ∧ w = w' := by
  have hp0 := pow_22 hq
  have hp1 : 0 < 2 ^ q := Nat.two_pow_pos q
  have hand := and_i64 s (2 ^ q) (by omega) (by omega)
  have hor := or_i64s s (2 ^ q) hs hp0
  rw [Pl.and_two] at hand
  obtain ⟨p, hp⟩ : ∃ p, p = 2 ^ q := ⟨_, rfl⟩
  rw [← hp] at hp0 hp1 hand hor ⊢
  clear hp
  cases hb : s.testBit q
  · rw [hb] at hand
    simp only [Bool.false_eq_true, if_false] at hand
    clear hb
    go_enter Tryz.func88, Tryz.ntmps88
    go_wp2
    go_ret2
    exact ⟨rfl, rfl⟩
  · rw [hb] at hand
    simp only [if_true] at hand
    have hne : ((p : Int) == 0) = false := by rw [beq_eq_false_iff_ne]; omega
    clear hb
    go_enter Tryz.func88, Tryz.ntmps88
    go_wp2
    go_ret2
    exact ⟨rfl, rfl⟩
def chB (cb : Nat → Nat → Bool) (xs : List Int) (k : Int) (t : ByteArray) : Bool := (okO xs && Pl.okF (k, t)) && cb (lastN xs) k.toNat
def chI (c : Nat → Nat → Nat) (cb : Nat → Nat → Bool) (xs : List Int) (k : Int) (t : ByteArray) : List Int := if chB cb xs k t = true then xs.dropLast ++ [((c (lastN xs) k.toNat : Nat) : Int)] else []
theorem ch_no {c : Nat → Nat → Nat} {cb : Nat → Nat → Bool} {xs : List Int} {k : Int} {t : ByteArray} (h : okO xs = false ∨ Pl.okF (k, t) = false) : chB cb xs k t = false ∧ chI c cb xs k t = [] := by
  have : chB cb xs k t = false := by unfold chB; rcases h with h | h <;> simp [h]
  exact ⟨this, by unfold chI; rw [this]; rfl⟩
theorem OwnInts.last {w : World} {base : Nat} {g cap : Nat} {ys : List Int} {x : Int} (hc : ys.length + 1 ≤ cap) (hg : base ≤ g) (hlt : g < w.heap.size) (hcell : ∀ j, j < ys.length + 1 → w.cell? ⟨g, j, none⟩ = some (.int .i64 ((ys ++ [x]).getD j 0))) (hf : ∀ j, w.frozen? ⟨g, j, none⟩ = false) (y : Int) :
    OwnInts (w.setCell ⟨g, ys.length, none⟩ (.int .i64 y)) base (.slice (some ⟨g, 0, none⟩) (ys.length + 1) cap) (ys ++ [y]).length (fun j => (ys ++ [y]).getD j 0) := by
  have hl : (ys ++ [y]).length = ys.length + 1 := by simp
  rw [hl]
  refine .inr ⟨g, cap, rfl, hc, hg, by omega, by rw [World.size_setCell]; exact hlt, fun j hj => ?_, fun j => by rw [World.frozen?_setCell]; exact hf j⟩
  by_cases hjl : j = ys.length
  · subst hjl
    rw [World.cell?_setCell_same _ _ _ (hcell _ (by omega))]
    simp [List.getD]
  · rw [World.cell?_setCell_other _ _ _ _ (by intro e; injection e; omega), hcell j hj]
    have hj2 : j < ys.length := by omega
    simp [List.getD, List.getElem?_append_left hj2]
set_option maxHeartbeats 1000000 in
theorem changeLast_any (fn : FuncId) (hcall : ∀ args w, (callFunc fn args).run Tryz.prog w = .ok (.enter fn args) w) (c : Nat → Nat → Nat) (cb : Nat → Nat → Bool)
    (hC : ∀ s q : Nat, 1 ≤ s → s < 8388608 → q ≤ 22 → ∀ w, Calls Tryz.prog fn #[.int .i64 s, .int .i64 ((2 ^ q : Nat) : Int)] w fun e w' => e = .returned (.tuple #[.int .i64 ((c s q : Nat) : Int), .bool (cb s q)]) ∧ w = w')
    (v : Value) (xs : List Int) (k : Int) (t : ByteArray) (w : World) (h : IntsAt w v xs) (hn : xs.length ≤ 2097152) (ht : t.size ≤ 1048576) :
    Calls Tryz.prog 87 #[v, atV k t, .func (.func fn) #[] #[]] w fun e w' => OutO w.heap.size w' (chI c cb xs k t) (chB cb xs k t) e ∧ Below w.heap.size w w' := by
  have CX := fun w' h => Valid_any v xs w' h hn
  have CF := fun w => isValidF_any k t w (by unfold maxLen; omega)
  have HI := Lib.hid h
  cases hx : okO xs
  · obtain ⟨a, cap, rfl, hcap, _⟩ := h.cells
    rw [(ch_no (c := c) (.inl hx)).1, (ch_no (.inl hx)).2]
    rw [hx] at CX
    have C1 := Lib.hid CX
    clear h CX CF hx
    go_enter Tryz.func87, Tryz.ntmps87
    go_wp2_with fail
    refine (C1.out _ (HI.out.below (below_x1 _ _))).mono ?_
    rintro e w1 ⟨rfl, rfl⟩
    go_wp2
    go_ret2
    exact ⟨outO_nil _ _ _ _, below_x1 _ _⟩
  · rw [hx] at CX
    have C1 := Lib.hid CX
    cases hf : Pl.okF (k, t)
    · obtain ⟨a, cap, rfl, hcap, _⟩ := h.cells
      rw [(ch_no (c := c) (.inr hf)).1, (ch_no (.inr hf)).2]
      rw [hf] at CF
      have C2 := Lib.hid CF
      clear h CX CF hx hf
      go_enter Tryz.func87, Tryz.ntmps87
      go_wp2_with fail
      refine (C1.out _ (HI.out.below (below_x1 _ _))).mono ?_
      rintro e w1 ⟨rfl, rfl⟩
      go_wp2_with fail
      refine (C2.out _).mono ?_
      rintro e w2 ⟨rfl, hb⟩
      have B2 := Lib.hid (below_new hb)
      clear hb
      go_wp2
      go_ret2
      exact ⟨outO_nil _ _ _ _, B2.out⟩
    · rw [hf] at CF
      have C2 := Lib.hid CF
      have hB0 : chB cb xs k t = cb (lastN xs) k.toNat := by unfold chB; rw [hx, hf]; rfl
      obtain ⟨⟨q, hq, hq0, hq1⟩, _⟩ := Pl.okF_parts hf
      dsimp only at hq
      subst hq
      rw [Int.toNat_natCast] at hB0
      obtain ⟨ys, s, rfl, hs0, hs1, hyl, _⟩ := okO_snoc hx
      rw [lastN_snoc] at hB0
      have CC := Lib.hid (fun w => hC s q hs0 hs1 hq1 w)
      have HK := Lib.hid (fun u w' h => cloneI_any u (ys ++ [(s : Int)]) w' h (by simp) hn)
      have HV : Hid (chI c cb (ys ++ [(s : Int)]) (q : Int) t = if chB cb (ys ++ [(s : Int)]) (q : Int) t = true then ys ++ [((c s q : Nat) : Int)] else []) := by
        show _ = _
        unfold chI
        rw [lastN_snoc, List.dropLast_concat, Int.toNat_natCast]
      obtain ⟨zs, hzs⟩ : ∃ zs, zs = chI c cb (ys ++ [(s : Int)]) (q : Int) t := ⟨_, rfl⟩
      obtain ⟨b, hbe⟩ : ∃ b, b = chB cb (ys ++ [(s : Int)]) (q : Int) t := ⟨_, rfl⟩
      rw [← hzs, ← hbe] at HV ⊢
      rw [← hbe] at hB0
      rw [← hB0] at CC
      obtain ⟨r, hr⟩ : ∃ r, r = c s q := ⟨_, rfl⟩
      rw [← hr] at CC HV
      obtain ⟨bk, o, cap, rfl, hcap, hbk, hcell⟩ := h.block (by simp)
      have c0 := hcell ys.length (s : Int) (by simp)
      have hlen : (ys ++ [(s : Int)]).length = ys.length + 1 := by simp
      have HI2 : Hid (IntsAt w (.slice (some ⟨bk, o, none⟩) (ys.length + 1) cap) (ys ++ [(s : Int)])) := Lib.hid (by have := HI.out; rw [hlen] at this; exact this)
      rw [hlen] at hcap
      simp only [hlen] at C1 HK
      rw [hlen]
      have hsh := shl_i64' q (by omega)
      have hyl5 : ys.length ≤ 5 := hyl
      have BX := Lib.hid (below_x1 w (.cells #[.int .i64 (q : Int), .string t] 96))
      obtain ⟨p, hp⟩ : ∃ p, p = 2 ^ q := ⟨_, rfl⟩
      rw [← hp] at hsh CC
      obtain ⟨m, hmm⟩ : ∃ m, m = ys.length := ⟨_, rfl⟩
      have HMm := Lib.hid hmm
      rw [← hmm] at c0 hcap hyl HI2 C1 HK ⊢
      clear h HI CX CF hx hf hcell hlen hmm hp hzs hbe hB0 hr hC hn
      go_enter Tryz.func87, Tryz.ntmps87
      go_wp2_with fail
      refine (C1.out _ (HI2.out.below BX.out)).mono ?_
      rintro e w1 ⟨rfl, rfl⟩
      go_wp2_with fail
      refine (C2.out _).mono ?_
      rintro e W ⟨rfl, hb⟩
      have HBW := Lib.hid (below_new hb)
      have X2 := Lib.hid (BoxA.new hb)
      clear hb
      obtain ⟨_, q0, q1⟩ := X2.out
      have c1 : W.cell? ⟨bk, o + m, none⟩ = some (.int .i64 s) := (HBW.out.cell (p := ⟨bk, o + m, none⟩) hbk).trans c0
      have kc := cell_regrown c1
      have kq := cell_regrown q0
      clear c0
      go_wp2_with fail
      refine Mx.wp_region_mixed (Mx.ofL [(0, 0), (1, 0), (2, 0), (3, 0), (4, 1), (5, 0), (6, 1), (7, 0), (8, 3), (9, 0), (10, 0), (11, 0), (12, 0), (13, 0)] .done) (by kernel_rfl) (by kernel_rfl) ?_
      repeat ((first | refine Mx.mix0 rfl ?_ | refine Mx.mix1 rfl ?_); go_big_quiet_step (fail); refine wpQuiet_nil ?_)
      refine Mx.mix3 rfl ?_
      go_wp2_with fail
      refine (show Calls _ fn #[.int .i64 s, .int .i64 (p : Int)] _ _ from CC.out _).mono ?_
      rintro e w3 ⟨rfl, rfl⟩
      go_wp2
      refine Mx.mid_normal (fun q => by cases q) ?_
      repeat ((first | refine Mx.mix0 rfl ?_ | refine Mx.mix1 rfl ?_); go_big_quiet_step (fail); refine wpQuiet_nil ?_)
      refine Mx.mix_nil ?_
      have HBD : Hid (Below w.heap.size w W.drew) := Lib.hid (below_drewF HBW.out 1)
      cases b
      · rw [if_neg (by simp)] at HV
        go_wp2
        go_ret2
        rw [HV.out]
        exact ⟨outO_nil _ _ _ _, HBD.out⟩
      · rw [if_pos rfl] at HV
        clear kc kq q0 q1 c1 X2
        go_wp2_with fail
        refine (HK.out _ _ (HI2.out.below HBD.out)).mono ?_
        rintro e w4 ⟨⟨u, rfl, hu⟩, hb⟩
        have HB4 := Lib.hid (HBD.out.trans (hb.mono HBD.out.size))
        rcases hu with ⟨h0, _⟩ | ⟨g, gc, rfl, hgc, hgb, _, hgl, hgcell, hgf⟩
        · omega
        have HL4 := Lib.hid (fun y => OwnInts.last (base := w.heap.size) (w := w4) (g := g) (cap := gc) (ys := ys) (x := (s : Int)) (by rw [← HMm.out]; exact hgc) (Nat.le_trans HBD.out.size hgb) hgl (by rw [← HMm.out]; exact hgcell) hgf y)
        have HB5 := Lib.hid (fun y => HB4.out.setCell (p := ⟨g, m, none⟩) (Nat.le_trans HBD.out.size hgb) (.int .i64 y))
        have hg1 := hgcell m (by omega)
        have hg2 := hgf m
        rw [← HMm.out] at HL4
        clear hb hgcell hgf
        go_wp2
        go_ret2
        rw [HV.out]
        exact ⟨⟨_, rfl, HL4.out _⟩, HB5.out _⟩
theorem Unfold_any (v : Value) (xs : List Int) (k : Int) (t : ByteArray) (w : World) (h : IntsM w v xs) (hn : xs.length ≤ 2097152) (ht : t.size ≤ 1048576) :
    Calls Tryz.prog 98 #[v, atV k t] w fun e w' => OutO w.heap.size w' (unfI xs k t) (unfB xs k t) e ∧ Below w.heap.size w w' := by
  have cc := fun w' h => changeLast_any 120 (fun args w => by first | rfl | kernel_rfl) (fun s q => if s.testBit q then s - 2 ^ q else s) (fun s q => s.testBit q && !decide (s = 2 ^ q)) (fun s q h0 h1 h2 w => withoutKey_any s q h0 h1 h2 w) v xs k t w' h hn ht
  have hB : chB (fun s q => s.testBit q && !decide (s = 2 ^ q)) xs k t = unfB xs k t := rfl
  have hI : chI (fun s q => if s.testBit q then s - 2 ^ q else s) (fun s q => s.testBit q && !decide (s = 2 ^ q)) xs k t = unfI xs k t := by
    unfold chI unfI
    rw [hB]
    by_cases hb : unfB xs k t = true
    · rw [if_pos hb, if_pos hb]
      have : (lastN xs).testBit k.toNat = true := by
        unfold unfB un0B at hb
        simp only [Bool.and_eq_true] at hb
        exact hb.2.1
      simp only [this, if_true]
    · rw [if_neg hb, if_neg hb]
  rw [hB, hI] at cc
  have C := Lib.hid cc
  unfold OutO at C ⊢
  obtain ⟨a, cap, rfl, hcap, _⟩ := h.at.cells
  have HI := Lib.hid h.at
  clear cc hB hI h
  go_enter Tryz.func98, Tryz.ntmps98
  go_wp2_with fail
  refine (C.out _ (HI.out.below (below_x1 _ _))).mono ?_
  rintro e w1 ⟨⟨u, rfl, hu⟩, hb⟩
  have HB := Lib.hid (below_new hb)
  have HU : Hid (OwnInts w1 w.heap.size u (unfI xs k t).length (fun j => (unfI xs k t).getD j 0)) := Lib.hid (ownI_mono hu (by simp))
  clear hb hu
  go_wp2
  go_ret2
  exact ⟨⟨_, rfl, HU.out⟩, HB.out⟩
theorem FoldInto_any (v : Value) (xs : List Int) (k : Int) (t : ByteArray) (w : World) (h : IntsM w v xs) (hn : xs.length ≤ 2097152) (ht : t.size ≤ 1048576) :
    Calls Tryz.prog 51 #[v, atV k t] w fun e w' => OutO w.heap.size w' (intI xs k t) (intB xs k t) e ∧ Below w.heap.size w w' := by
  have cc := fun w' h => changeLast_any 88 (fun args w => by first | rfl | kernel_rfl) (fun s q => s ||| 2 ^ q) (fun s q => !s.testBit q) (fun s q h0 h1 h2 w => withKey_any s q h0 h1 h2 w) v xs k t w' h hn ht
  have hB : chB (fun s q => !s.testBit q) xs k t = intB xs k t := rfl
  have hI : chI (fun s q => s ||| 2 ^ q) (fun s q => !s.testBit q) xs k t = intI xs k t := by
    unfold chI intI
    rw [hB]
    by_cases hb : intB xs k t = true
    · rw [if_pos hb, if_pos hb]
      unfold intB at hb
      simp only [Bool.and_eq_true, Bool.not_eq_true'] at hb
      obtain ⟨⟨h1, h2⟩, h3⟩ := hb
      obtain ⟨⟨q, hq, hq0, hq1⟩, _⟩ := Pl.okF_parts h2
      dsimp only at hq
      subst hq
      obtain ⟨ys, s, rfl, hs0, hs1, _⟩ := okO_snoc h1
      rw [lastN_snoc, Int.toNat_natCast] at *
      dsimp only
      rw [Pl.or_two (by omega) (by omega) h3]
    · rw [if_neg hb, if_neg hb]
  rw [hB, hI] at cc
  have C := Lib.hid cc
  unfold OutO at C ⊢
  obtain ⟨a, cap, rfl, hcap, _⟩ := h.at.cells
  have HI := Lib.hid h.at
  clear cc hB hI h
  go_enter Tryz.func51, Tryz.ntmps51
  go_wp2_with fail
  refine (C.out _ (HI.out.below (below_x1 _ _))).mono ?_
  rintro e w1 ⟨⟨u, rfl, hu⟩, hb⟩
  have HB := Lib.hid (below_new hb)
  have HU : Hid (OwnInts w1 w.heap.size u (intI xs k t).length (fun j => (intI xs k t).getD j 0)) := Lib.hid (ownI_mono hu (by simp))
  clear hb hu
  go_wp2
  go_ret2
  exact ⟨⟨_, rfl, HU.out⟩, HB.out⟩
end Go.Proofs.YthigdblloddepaaGreat

namespace Go.Proofs.YthigdblloddepaaGreat
set_option maxRecDepth 100000
open Go.RowKit

/-! ### Plain -/
def fdX (s t : ByteArray) : ByteArray := ((s ++ ⟨#[32, 123, 94]⟩) ++ t) ++ ⟨#[125]⟩
def fd0B (s t : ByteArray) : Bool := parLB s && parLB (fdX s t)
def fd0T (s t : ByteArray) : ByteArray := if fd0B s t = true then fdX s t else ⟨#[]⟩
def fdB (s : ByteArray) (k : Int) (t : ByteArray) : Bool := Pl.okF (k, t) && fd0B s t
def fdT (s : ByteArray) (k : Int) (t : ByteArray) : ByteArray := if fdB s k t = true then fdX s t else ⟨#[]⟩
def fdE (s : ByteArray) (k : Int) (t : ByteArray) : Ending := .returned (.tuple #[.string (fdT s k t), .bool (fdB s k t)])
def fd0E (s t : ByteArray) : Ending := .returned (.tuple #[.string (fd0T s t), .bool (fd0B s t)])
theorem fdE_no {s : ByteArray} {k : Int} {t : ByteArray} (h : Pl.okF (k, t) = false) : fdE s k t = .returned (.tuple #[.string ⟨#[]⟩, .bool false]) := by
  unfold fdE fdT fdB; rw [h]; rfl
theorem fdE_yes {s : ByteArray} {k : Int} {t : ByteArray} (h : Pl.okF (k, t) = true) : fdE s k t = fd0E s t := by
  unfold fdE fdT fdB fd0E fd0T; rw [h]; rfl
theorem fd0E_no {s t : ByteArray} (h : fd0B s t = false) : fd0E s t = .returned (.tuple #[.string ⟨#[]⟩, .bool false]) := by
  unfold fd0E fd0T; rw [h]; rfl
theorem fd0E_yes {s t : ByteArray} (h : fd0B s t = true) : fd0E s t = .returned (.tuple #[.string (fdX s t), .bool true]) := by
  unfold fd0E fd0T; rw [h]; rfl
theorem readL_textB {ls : List Atm} (h1 : 1 ≤ ls.length) (h : ∀ e ∈ ls, goodE e = true) : readL (textB ls) = ls := by
  have hs : Pl.splitB (textB ls) 32 = partsT ls := by
    unfold Pl.splitB textB
    show Pl.ofLists (Pl.split 32 (Lib.join (Pl.texts (partsT ls)) [32])) = _
    rw [Pl.split_join]
    · unfold Pl.ofLists Pl.texts
      rw [List.map_map]
      conv => rhs; rw [← List.map_id (partsT ls)]
      exact List.map_congr_left fun x _ => rfl
    · intro e
      have : (Pl.texts (partsT ls)).length = ls.length := by unfold Pl.texts partsT; rw [List.length_map, List.length_map]
      rw [e] at this
      simp at this
      omega
    · intro x hx
      unfold Pl.texts partsT at hx
      rw [List.map_map] at hx
      obtain ⟨e, he, rfl⟩ := List.mem_map.1 hx
      exact fmtA_no_space (h e he)
  unfold readL
  rw [hs]
  unfold partsT
  rw [List.map_map]
  conv => rhs; rw [← List.map_id ls]
  exact List.map_congr_left fun e he => atomOf_fmtB (h e he)
theorem parLB_textB {ls : List Atm} (h1 : 1 ≤ ls.length) (h : ∀ e ∈ ls, goodE e = true) : parLB (textB ls) = okL ls := by
  unfold parLB
  rw [readL_textB h1 h]
  cases ho : okL ls
  · rw [Bool.and_false]
  · obtain ⟨_, _, _, h4⟩ := okL_parts ho
    have hne : ls ≠ [] := fun e => by subst e; simp at h1
    have hz := textB_size hne
    rw [decide_eq_true (by omega), Bool.true_and]
theorem okF_good {k : Int} {t : ByteArray} (h : Pl.okF (k, t) = true) : goodE (2, t) = true := by
  obtain ⟨_, h1, h2, h3⟩ := Pl.okF_parts h
  dsimp only at h1 h2 h3
  have e : t.data.toList.length = t.size := by simp
  show Pl.wordL (by8 t) = true
  unfold Pl.wordL by8
  rw [e, decide_eq_true h1, decide_eq_true (by omega)]
  simp only [Bool.and_true]
  rw [List.all_eq_true]
  intro c hc
  have hl := List.all_eq_true.1 h3 c hc
  unfold Pl.letter at hl
  simp only [Bool.and_eq_true, decide_eq_true_eq] at hl
  unfold Pl.wordC
  have hne : ∀ b : UInt8, (b.toNat < 97 ∨ 122 < b.toNat) → (c == b) = false := fun b hb => by
    rw [beq_eq_false_iff_ne]
    intro e; subst e; omega
  rw [hne 123 (by decide), hne 125 (by decide), hne 94 (by decide), hne 38 (by decide), hne 35 (by decide), hne 62 (by decide)]
  simp; omega
theorem fdX_text {ls : List Atm} (h1 : 1 ≤ ls.length) (t : ByteArray) : textB (ls ++ [(2, t)]) = fdX (textB ls) t := by
  have := textB_next (ls := ls ++ [(2, t)]) (k := ls.length) (e := (2, t)) (by omega) (by simp)
  rw [List.take_left, List.take_of_length_le (by simp)] at this
  rw [← this, fmtB_2]
  unfold fdX
  apply ByteArray.ext
  apply Array.ext'
  simp [ByteArray.data_append]
/-- What the program's formatting gives of the atoms with the suffix behind them. -/
theorem fd_format {s : ByteArray} {k : Int} {t : ByteArray} (hf : Pl.okF (k, t) = true) (hs : parLB s = true) : fmtLE (parL s ++ [(2, t)]) = fd0E s t := by
  obtain ⟨ho, ht⟩ := textB_parL hs
  obtain ⟨h1, _, h3, _⟩ := okL_parts ho
  have hX : textB (parL s ++ [(2, t)]) = fdX s t := by rw [fdX_text h1, ht]
  have hg : ∀ e ∈ parL s ++ [(2, t)], goodE e = true := by
    intro e he
    rw [List.mem_append, List.mem_singleton] at he
    rcases he with he | rfl
    · exact h3 e he
    · exact okF_good hf
  have hb := parLB_textB (ls := parL s ++ [(2, t)]) (by rw [List.length_append]; simp) hg
  rw [hX] at hb
  unfold fmtLE fmtLS fd0E fd0T fd0B
  rw [← hb, hX, hs]
  rfl
theorem fdX_size (s t : ByteArray) : (fdX s t).size = s.size + t.size + 4 := by
  unfold fdX
  rw [ByteArray.size_append, ByteArray.size_append, ByteArray.size_append, show (⟨#[32, 123, 94]⟩ : ByteArray).size = 3 from rfl, show (⟨#[125]⟩ : ByteArray).size = 1 from rfl]
  omega
theorem parLB_big {s : ByteArray} (h : 60 < s.size) : parLB s = false := by unfold parLB; rw [decide_eq_false (by omega), Bool.false_and]
theorem l5Parse_all (t : ByteArray) (w : World) (ht : t.size ≤ 2097152) :
    Calls Tryz.prog 103 #[.string t] w fun e w' => OutA w' (parL t) (parLB t) e ∧ Below w.heap.size w w' := by
  by_cases h : t.size ≤ 1048576
  · exact l5Parse_any t w h
  · have hb := parLB_big (s := t) (by omega)
    have HF := Lib.hid (fun w a cap => outA_no hb w a cap)
    clear hb
    go_enter Tryz.func103, Tryz.ntmps103
    go_wp2
    go_ret2
    exact ⟨HF.out _ _ _, (Below.refl _ _).alloc (Nat.le_refl _) _⟩
theorem below_n1 (w : World) (o : Obj) : Below w.heap.size w (w.alloc o) := (Below.refl _ _).alloc (Nat.le_refl _) _
theorem l10Text_any (s : ByteArray) (k : Int) (t : ByteArray) (w : World) (hs : s.size ≤ 1048576) (ht : t.size ≤ 1000) :
    Calls Tryz.prog 97 #[.string s, atV k t] w fun e w' => e = fd0E s t ∧ Below w.heap.size w w' := by
  have c1 := fun w => l5Parse_all s w (by omega)
  have c2 := fun w => l5Parse_all (fdX s t) w (by rw [fdX_size]; omega)
  unfold OutA at c1 c2
  have hy : fd0B s t = (parLB s && parLB (fdX s t)) := rfl
  obtain ⟨X, hX⟩ : ∃ X, X = fdX s t := ⟨_, rfl⟩
  obtain ⟨l1, hl1⟩ : ∃ l, l = parL s := ⟨_, rfl⟩
  obtain ⟨b1, hb1⟩ : ∃ l, l = parLB s := ⟨_, rfl⟩
  rw [← hl1, ← hb1] at c1
  rw [← hX] at c2 hy
  obtain ⟨l2, hl2⟩ : ∃ l, l = parL X := ⟨_, rfl⟩
  obtain ⟨b2, hb2⟩ : ∃ l, l = parLB X := ⟨_, rfl⟩
  rw [← hl2, ← hb2] at c2
  rw [← hb1, ← hb2] at hy
  have HXX := Lib.hid hX
  unfold fdX at hX
  have C1 := Lib.hid c1
  have C2 := Lib.hid c2
  have HN := Lib.hid (fun h => fd0E_no (s := s) (t := t) (hy.trans h))
  have HY : Hid ((b1 && b2) = true → fd0E s t = .returned (.tuple #[.string X, .bool true])) := Lib.hid (fun h => by rw [HXX.out]; exact fd0E_yes (hy.trans h))
  have HX := Lib.hid hX
  clear c1 c2 hy hl1 hb1 hl2 hb2 hX HXX
  cases b1
  · have HN2 := Lib.hid (HN.out (by simp))
    clear HN HY
    go_enter Tryz.func97, Tryz.ntmps97
    go_wp2_with fail
    refine (C1.out _).mono ?_
    rintro e w1 ⟨⟨u, rfl, _⟩, hb⟩
    have B1 := Lib.hid (below_new hb)
    obtain ⟨_, q0, q1⟩ := BoxA.new hb
    have hX := HX.out.symm
    clear hb
    go_wp2_with fail
    refine (C2.out _).mono ?_
    rintro e w2 ⟨⟨u2, rfl, _⟩, hb⟩
    have B2 := Lib.hid (B1.out.trans (hb.mono B1.out.size))
    clear hb q0 q1
    go_wp2
    go_ret2
    exact ⟨HN2.out.symm, B2.out⟩
  · cases b2
    · have HN2 := Lib.hid (HN.out (by simp))
      clear HN HY
      go_enter Tryz.func97, Tryz.ntmps97
      go_wp2_with fail
      refine (C1.out _).mono ?_
      rintro e w1 ⟨⟨u, rfl, _⟩, hb⟩
      have B1 := Lib.hid (below_new hb)
      obtain ⟨_, q0, q1⟩ := BoxA.new hb
      have hX := HX.out.symm
      clear hb
      go_wp2_with fail
      refine (C2.out _).mono ?_
      rintro e w2 ⟨⟨u2, rfl, _⟩, hb⟩
      have B2 := Lib.hid (B1.out.trans (hb.mono B1.out.size))
      clear hb q0 q1
      go_wp2
      go_ret2
      exact ⟨HN2.out.symm, B2.out⟩
    · have HN2 := Lib.hid (HY.out (by simp))
      clear HN HY
      go_enter Tryz.func97, Tryz.ntmps97
      go_wp2_with fail
      refine (C1.out _).mono ?_
      rintro e w1 ⟨⟨u, rfl, _⟩, hb⟩
      have B1 := Lib.hid (below_new hb)
      obtain ⟨_, q0, q1⟩ := BoxA.new hb
      have hX := HX.out.symm
      clear hb
      go_wp2_with fail
      refine (C2.out _).mono ?_
      rintro e w2 ⟨⟨u2, rfl, _⟩, hb⟩
      have B2 := Lib.hid (B1.out.trans (hb.mono B1.out.size))
      clear hb q0 q1
      go_wp2
      go_ret2
      exact ⟨HN2.out.symm, B2.out⟩
set_option maxHeartbeats 1000000 in
theorem FoldedText_any (s : ByteArray) (k : Int) (t : ByteArray) (w : World) (hs : s.size ≤ 1048576) (ht : t.size ≤ 1048576) :
    Calls Tryz.prog 89 #[.string s, atV k t] w fun e w' => e = fdE s k t ∧ Below w.heap.size w w' := by
  have cp := fun w => ParseTO_any s w hs
  unfold OutOT at cp
  have cf := fun w => isValidF_any k t w (by unfold maxLen; omega)
  cases hp : parLB s
  · have HN : Hid (fdE s k t = .returned (.tuple #[.string ⟨#[]⟩, .bool false])) := by
      show _ = _
      cases hf : Pl.okF (k, t)
      · exact fdE_no hf
      · rw [fdE_yes hf]
        exact fd0E_no (by unfold fd0B; rw [hp]; rfl)
    rw [hp] at cp
    have CP := Lib.hid cp
    clear cp cf hp
    go_enter Tryz.func89, Tryz.ntmps89
    go_wp2_with fail
    refine (CP.out _).mono ?_
    rintro e w1 ⟨⟨u, rfl, _⟩, hb⟩
    have B1 := Lib.hid (below_new hb)
    clear hb
    go_wp2
    go_ret2
    exact ⟨HN.out.symm, B1.out⟩
  · rw [hp] at cp
    have CP := Lib.hid cp
    cases hf : Pl.okF (k, t)
    · rw [hf] at cf
      rw [fdE_no hf]
      have CF := Lib.hid cf
      clear cp cf hp hf
      go_enter Tryz.func89, Tryz.ntmps89
      go_wp2_with fail
      refine (CP.out _).mono ?_
      rintro e w1 ⟨⟨u, rfl, _⟩, hb⟩
      have B1 := Lib.hid (below_new hb)
      obtain ⟨_, q0, q1⟩ := BoxA.new hb
      clear hb
      go_wp2_with fail
      refine (CF.out _).mono ?_
      rintro e w2 ⟨rfl, hb⟩
      have B2 := Lib.hid (B1.out.trans (hb.mono B1.out.size))
      clear hb q0 q1
      go_wp2
      go_ret2
      exact ⟨rfl, B2.out⟩
    · rw [hf] at cf
      rw [fdE_yes hf, ← fd_format hf hp]
      have h8 := (Pl.okF_parts hf).2.2.1
      dsimp only at h8
      obtain ⟨ho, _⟩ := textB_parL hp
      obtain ⟨ho1, ho2, ho3, _⟩ := okL_parts ho
      have hsm : ∀ e ∈ parL s ++ [((2 : Int), t)], e.2.size ≤ 1048576 := by
        intro e he
        rw [List.mem_append, List.mem_singleton] at he
        rcases he with he | rfl
        · have := goodE_small (ho3 e he); omega
        · exact ht
      obtain ⟨ls, hls⟩ : ∃ ls, ls = parL s := ⟨_, rfl⟩
      rw [← hls] at CP ho1 ho2 hsm ⊢
      have CF := Lib.hid cf
      have cw := fun v w h => FormatT_any v (ls ++ [((2 : Int), t)]) w h (by rw [List.length_append]; simp; omega) hsm
      unfold fmtLE at cw ⊢
      obtain ⟨X, hX⟩ : ∃ X, X = fmtLS (ls ++ [((2 : Int), t)]) := ⟨_, rfl⟩
      obtain ⟨b, hb⟩ : ∃ b, b = okL (ls ++ [((2 : Int), t)]) := ⟨_, rfl⟩
      rw [← hX, ← hb] at cw ⊢
      have CW := Lib.hid cw
      have HO2 := Lib.hid ho2
      clear cp cf cw hp hf hls hX hb hsm ho ho1 ho2 ho3
      go_enter Tryz.func89, Tryz.ntmps89
      go_wp2_with fail
      refine (CP.out _).mono ?_
      rintro e w1 ⟨⟨u, rfl, hu⟩, hb⟩
      have B1 := Lib.hid (below_new hb)
      have X1 := Lib.hid (BoxA.new hb)
      have HU := Lib.hid hu
      obtain ⟨_, q0, q1⟩ := X1.out
      clear hb hu
      go_wp2_with fail
      refine (CF.out _).mono ?_
      rintro e w2 ⟨rfl, hb⟩
      have B2 := Lib.hid (B1.out.trans (hb.mono B1.out.size))
      have HU2 := Lib.hid (row_below HU.out hb)
      have X2 := Lib.hid (X1.out.below hb)
      clear hb q0 q1 HU X1
      obtain ⟨_, q0, q1⟩ := X2.out
      go_wp2_with (at_builtin; refine push_atom rfl _ _ rfl _ u ls rfl HU2.out 2 t rfl ?_ (by have := HO2.out; omega) ?_)
      · have := B2.out.size; rw [World.size_alloc]; have := B1.out.size; omega
      intro v' w3 hown hg _
      have HAt := Lib.hid (ownT_at hown)
      have B3 : Hid (Below w.heap.size w w3) := Lib.hid (B2.out.grown hg B2.out.size (fun j hj => by have := row_ge HU2.out hj; rw [World.size_alloc] at this; omega))
      clear hown hg HU2 X2 q0 q1
      go_wp2_with fail
      refine (CW.out _ _ HAt.out).mono ?_
      rintro e w4 ⟨rfl, hb⟩
      have B4 := Lib.hid (B3.out.trans (hb.mono B3.out.size))
      clear hb
      go_wp2
      go_ret2
      exact ⟨rfl, B4.out⟩
end Go.Proofs.YthigdblloddepaaGreat

namespace Go.Proofs.YthigdblloddepaaGreat
set_option maxRecDepth 100000
open Go.RowKit

/-! ### Plain -/
/-- The entry to which the fold unfolds the outline. -/
def unL (es : List Ent) (xs : List Int) (f : Atm) : Option ByteArray := if unfB xs f.1 f.2 = true then Pl.look (unfI xs f.1 f.2) es else none
def fd1 (es : List Ent) (xs : List Int) (f : Atm) : Option ByteArray :=
  match unL es xs f with
  | some t => if fdB t f.1 f.2 = true then some (fdT t f.1 f.2) else none
  | none => none
def fdFind (es : List Ent) (xs : List Int) : Nat → List Atm → Option (ByteArray × Int)
  | _, [] => none
  | i, f :: r => match fd1 es xs f with | some t => some (t, (i : Int)) | none => fdFind es xs (i + 1) r
def lfX (es : List Ent) (fs : List Atm) (xs : List Int) : Option (ByteArray × Int) := match Pl.look xs es with | some t => some (t, -1) | none => fdFind es xs 0 fs
def lfR (es : List Ent) (fs : List Atm) (xs : List Int) : Option (ByteArray × Int) := if (okD es && Pl.okFs fs) = true then lfX es fs xs else none
def lfE (x : Option (ByteArray × Int)) : Ending := .returned (.tuple #[.string ((x.map (·.1)).getD ⟨#[]⟩), .int .i64 ((x.map (·.2)).getD 0), .bool x.isSome])
theorem lfE_none : lfE none = .returned (.tuple #[.string ⟨#[]⟩, .int .i64 0, .bool false]) := rfl
theorem lfE_some (t : ByteArray) (i : Int) : lfE (some (t, i)) = .returned (.tuple #[.string t, .int .i64 i, .bool true]) := rfl
theorem lfX_some {es : List Ent} {fs : List Atm} {xs : List Int} {t : ByteArray} (h : Pl.look xs es = some t) : lfX es fs xs = some (t, -1) := by unfold lfX; rw [h]
theorem lfX_none {es : List Ent} {fs : List Atm} {xs : List Int} (h : Pl.look xs es = none) : lfX es fs xs = fdFind es xs 0 fs := by unfold lfX; rw [h]
theorem lfR_no {es : List Ent} {fs : List Atm} {xs : List Int} (h : (okD es && Pl.okFs fs) = false) : lfR es fs xs = none := by unfold lfR; rw [h]; rfl
theorem lfR_yes {es : List Ent} {fs : List Atm} {xs : List Int} (h : (okD es && Pl.okFs fs) = true) : lfR es fs xs = lfX es fs xs := by unfold lfR; rw [if_pos h]
theorem fdFind_next {es : List Ent} {xs : List Int} {fs : List Atm} {k : Nat} {f : Atm} (h : fs[k]? = some f) : fdFind es xs k (fs.drop k) = match fd1 es xs f with | some t => some (t, (k : Int)) | none => fdFind es xs (k + 1) (fs.drop (k + 1)) := by
  obtain ⟨hl, he⟩ := List.getElem?_eq_some_iff.1 h
  rw [List.drop_eq_getElem_cons hl, he]
  rfl
theorem fdFind_none {es : List Ent} {xs : List Int} : ∀ (fs : List Atm) (i : Nat), (∀ f ∈ fs, fd1 es xs f = none) → fdFind es xs i fs = none
  | [], _, _ => rfl
  | f :: r, i, h => by
    unfold fdFind
    rw [h f (List.mem_cons_self ..)]
    exact fdFind_none r (i + 1) fun g hg => h g (List.mem_cons_of_mem _ hg)
theorem fd1_un {es : List Ent} {xs : List Int} {f : Atm} (h : unL es xs f = none) : fd1 es xs f = none := by unfold fd1; rw [h]
theorem fd1_no {es : List Ent} {xs : List Int} {f : Atm} {t : ByteArray} (h : unL es xs f = some t) (h' : fdB t f.1 f.2 = false) : fd1 es xs f = none := by unfold fd1; rw [h]; simp [h']
theorem fd1_yes {es : List Ent} {xs : List Int} {f : Atm} {t : ByteArray} (h : unL es xs f = some t) (h' : fdB t f.1 f.2 = true) : fd1 es xs f = some (fdT t f.1 f.2) := by unfold fd1; rw [h]; simp [h']
theorem unL_bad {es : List Ent} {xs : List Int} {f : Atm} (h : unfB xs f.1 f.2 = false) : unL es xs f = none := by unfold unL; rw [h]; rfl
/-- No outline, no answer. -/
theorem lfX_bad {es : List Ent} {fs : List Atm} {xs : List Int} (h : okD es = true) (hx : okO xs = false) : lfX es fs xs = none := by
  rw [lfX_none (look_bad h hx)]
  exact fdFind_none fs 0 fun f _ => fd1_un (unL_bad (unf_no (.inl hx)).1)
theorem lkE_none : lkE none = .returned (.tuple #[.string ⟨#[]⟩, .bool false]) := rfl
theorem lkE_some (t : ByteArray) : lkE (some t) = .returned (.tuple #[.string t, .bool true]) := rfl
theorem OwnInts.m {w : World} {base : Nat} {v : Value} {xs : List Int} (h : OwnInts w base v xs.length (fun j => xs.getD j 0)) (h0 : 0 < xs.length) : IntsM w v xs := by
  obtain ⟨bk, o, cap, rfl, hc, hk, hcell⟩ := h.ints.block h0
  exact .inr ⟨bk, o, cap, rfl, hc, hk, hcell⟩
theorem look_size {es : List Ent} (h : okD es = true) {o : List Int} {t : ByteArray} (ht : Pl.look o es = some t) : t.size ≤ 60 := by
  unfold Pl.look at ht
  obtain ⟨x, hx, rfl⟩ := Option.map_eq_some_iff.1 ht
  exact (okE_size ((okD_parts h).2.1 x (List.mem_of_find?_eq_some hx))).2.2

/-! ### The program's -/
set_option maxHeartbeats 2000000 in
theorem unfoldD_any (b : Nat) (es : List Ent) (fv u : Value) (xs : List Int) (k : Int) (t : ByteArray) (w : World) (hm : MapB w b es) (hok : okD es = true) (hu : IntsM w u xs) (hn : xs.length ≤ 2097152) (ht : t.size ≤ 1048576) :
    Calls Tryz.prog 62 #[.agg #[.map (some b), fv], u, atV k t] w fun r w' => r = lkE (unL es xs (k, t)) ∧ Below w.heap.size w w' := by
  have cu := fun w' h => Unfold_any u xs k t w' h hn ht
  unfold OutO at cu
  have HU := Lib.hid hu
  have HM := Lib.hid hm
  have BX := Lib.hid (below_x2 w (.cells #[.map (some b), fv] 89) (.cells #[.int .i64 k, .string t] 96))
  cases hb : unfB xs k t
  · rw [hb] at cu
    rw [unL_bad hb, lkE_none]
    have C := Lib.hid cu
    clear cu hb hm hu
    go_enter Tryz.func62, Tryz.ntmps62
    go_wp2_with fail
    refine (C.out _ (HU.out.below BX.out)).mono ?_
    rintro r w1 ⟨⟨g, rfl, _⟩, hb⟩
    have B1 := Lib.hid (BX.out.trans (hb.mono BX.out.size))
    clear hb
    go_wp2
    go_ret2
    exact ⟨rfl, B1.out⟩
  · rw [hb] at cu
    have hl : unL es xs (k, t) = Pl.look (unfI xs k t) es := by unfold unL; rw [hb]; rfl
    rw [hl]
    obtain ⟨zs, hzs⟩ : ∃ zs, zs = unfI xs k t := ⟨_, rfl⟩
    have hzl : zs.length ≤ 6 := by rw [hzs]; exact unfI_len _ _ _
    rw [← hzs] at cu ⊢
    have C := Lib.hid cu
    have CK := Lib.hid (fun v w' h => keyOf_any v zs w' h (by omega))
    have hkey := kl_at (kyOk_key zs)
    obtain ⟨hl1, hl2⟩ := mapD_look (keyL zs) (kyOk_key zs) es
    rw [lastT_key hok] at hl1 hl2
    obtain ⟨x, hx'⟩ : ∃ x, x = Pl.look zs es := ⟨_, rfl⟩
    rw [← hx'] at hl1 hl2 ⊢
    rw [lookE]
    obtain ⟨K, hK⟩ : ∃ K, K = keyL zs := ⟨_, rfl⟩
    rw [← hK] at CK hkey hl1 hl2
    have HL1 := Lib.hid hl1
    have HL2 := Lib.hid hl2
    have HKy := Lib.hid hkey
    clear cu hb hm hu hl hzs hzl hx' hK hl1 hl2 hkey hn ht
    go_enter Tryz.func62, Tryz.ntmps62
    go_wp2_with fail
    refine (C.out _ (HU.out.below BX.out)).mono ?_
    rintro r w1 ⟨⟨g, rfl, hg⟩, hb⟩
    have B1 := Lib.hid (BX.out.trans (hb.mono BX.out.size))
    have HM1 := Lib.hid (HM.out.below B1.out)
    have HG := Lib.hid hg.ints
    have q0 : w1.cell? ⟨w.heap.size, 0, none⟩ = some (.map (some b)) := (hb.cell (p := ⟨w.heap.size, 0, none⟩) (by simp; omega)).trans (by simp)
    have k0 := cell_regrown q0
    clear hb hg
    go_wp2_with fail
    refine Mx.wp_region_mixed (Mx.ofL [(0, 0), (1, 1), (2, 0), (3, 2), (4, 3), (5, 0), (6, 0), (7, 0), (8, 0), (9, 0)] .done) (by kernel_rfl) (by kernel_rfl) ?_
    repeat ((first | refine Mx.mix0 rfl ?_ | refine Mx.mix1 rfl ?_); go_big_quiet_step (fail); refine wpQuiet_nil ?_)
    refine Mx.mix2 rfl ?_
    go_wp2_with fail
    refine (CK.out _ _ (HG.out.below (below_drewF (Below.refl _ _) 1))).mono ?_
    rintro r w2 ⟨rfl, hb⟩
    have G2 : Hid (Below w1.heap.size w1 w2) := Lib.hid ((below_drewF (Below.refl _ _) 1).trans hb)
    have HM2 : Hid (w2.ownsMap Tryz.prog 94 (plainElem Tryz.prog 9) b es.length (mapD es)) := MapB.below HM1.out G2.out
    have B2 := Lib.hid (B1.out.trans (G2.out.mono B1.out.size))
    clear hb q0 k0 HM1 HG
    go_wp2
    refine Mx.mid_normal (fun _ => regrown_of_below G2.out) ?_
    refine Mx.mix3 rfl ?_
    go_wp2_with (at_lookup; refine wpList_lookup_own_ok _ rfl _ _ 59 rfl 94 9 lawK Tryz.underlying59 _ (zeroS _) (litT ByteArray.empty) [] (plainElem_string Tryz.underlying9 (by decide)) b es.length (mapD es) rfl HM2.out _ (KL K) rfl HKy.out ?_)
    intro v ps hv
    have hv2 : v = .string (x.getD ByteArray.empty) := by
      rw [HL2.out] at hv
      obtain ⟨s, rfl, h1, _⟩ := plainElem_string_inv Tryz.underlying9 hv
      have h2 := congrArg Prod.fst h1
      cases x with
      | none => simp only [litT] at h2; have h2 := Lit.string.inj (DataW.lit.inj h2); exact congrArg Value.string (ByteArray.ext (Array.toList_inj.1 h2)).symm
      | some t => simp only [litT] at h2; have h2 := Lit.string.inj (DataW.lit.inj h2); exact congrArg Value.string (ByteArray.ext (Array.toList_inj.1 h2)).symm
    subst hv2
    rw [HL1.out]
    clear hv HM2
    go_wp2
    refine Mx.mid_normal (fun q => by cases q) ?_
    repeat ((first | refine Mx.mix0 rfl ?_ | refine Mx.mix1 rfl ?_); go_big_quiet_step (fail); refine wpQuiet_nil ?_)
    refine Mx.mix_nil ?_
    go_wp2
    go_ret2
    exact ⟨rfl, B2.out⟩
set_option maxHeartbeats 2000000 in
theorem lookupD_any (b : Nat) (es : List Ent) (fv : Value) (fs : List Atm) (u : Value) (xs : List Int) (w : World) (hm : MapB w b es) (hok : okD es = true) (hf : AtomsAt w fv fs) (hfn : fs.length ≤ 6) (hfx : ∀ f ∈ fs, f.2.size ≤ 1048576) (hu : IntsM w u xs) (hn : xs.length ≤ 2097152) :
    Calls Tryz.prog 52 #[.agg #[.map (some b), fv], u] w fun r w' => r = lfE (lfX es fs xs) ∧ Below w.heap.size w w' := by
  obtain ⟨a, cap, rfl, hcap, hC⟩ := fd_at hf
  have HC := Lib.hid hC
  have HU := Lib.hid hu
  have HM := Lib.hid hm
  have CU := Lib.hid (fun k t w' hm hu ht => unfoldD_any b es (.slice a fs.length cap) u xs k t w' hm hok hu hn ht)
  have CT := Lib.hid (fun s k t w' hs ht => FoldedText_any s k t w' hs ht)
  have CK := Lib.hid (fun v w' h => keyOf_any v xs w' h hn)
  have hkey := kl_at (kyOk_key xs)
  obtain ⟨hl1, hl2⟩ := mapD_look (keyL xs) (kyOk_key xs) es
  rw [lastT_key hok] at hl1 hl2
  have HSz := Lib.hid (fun k t q (h : unL es xs (k, t) = some q) => show q.size ≤ 60 from by
    unfold unL at h
    split at h
    · exact look_size hok h
    · cases h)
  have HX := Lib.hid (fun j f (h : fs[j]? = some f) => hfx f (List.mem_of_getElem? h))
  have HN1 := Lib.hid (fun f (h : fd1 es xs f = none) j (hj : fs[j]? = some f) => show fdFind es xs j (fs.drop j) = fdFind es xs (j + 1) (fs.drop (j + 1)) from by rw [fdFind_next hj, h])
  have HN2 := Lib.hid (fun f t (h : fd1 es xs f = some t) j (hj : fs[j]? = some f) => show fdFind es xs j (fs.drop j) = some (t, (j : Int)) from by rw [fdFind_next hj, h])
  obtain ⟨x, hx'⟩ : ∃ x, x = Pl.look xs es := ⟨_, rfl⟩
  obtain ⟨Z, hZ⟩ : ∃ Z, Z = lfX es fs xs := ⟨_, rfl⟩
  have HLs := Lib.hid (fun t (h : x = some t) => hZ.trans (lfX_some (fs := fs) (hx'.symm.trans h)))
  have HLn := Lib.hid (fun (h : x = none) => hZ.trans (lfX_none (fs := fs) (hx'.symm.trans h)))
  rw [← hZ]
  clear hZ
  rw [← hx'] at hl1 hl2
  obtain ⟨K, hK⟩ : ∃ K, K = keyL xs := ⟨_, rfl⟩
  rw [← hK] at CK hkey hl1 hl2
  have HL1 := Lib.hid hl1
  have HL2 := Lib.hid hl2
  have HKy := Lib.hid hkey
  have BX := Lib.hid (below_x1 w (.cells #[.map (some b), .slice a fs.length cap] 89))
  obtain ⟨n, hnn⟩ : ∃ n, n = fs.length := ⟨_, rfl⟩
  have HNn := Lib.hid hnn
  rw [← hnn] at hcap hfn CU BX ⊢
  have HQ : Hid (∀ w', Below w.heap.size w w' → True) := Lib.hid (fun _ _ => trivial)
  clear hf hC hfx hu hn hm hok hx' hK hl1 hl2 hkey hnn
  go_enter Tryz.func52, Tryz.ntmps52
  go_wp2_with fail
  obtain ⟨W, hW⟩ : ∃ W, W = w.alloc (.cells #[.map (some b), .slice a n cap] 89) := ⟨_, rfl⟩
  rw [← hW] at BX ⊢
  have hq0 : W.cell? ⟨w.heap.size, 0, none⟩ = some (.map (some b)) := by rw [hW]; simp
  have hq1 : W.cell? ⟨w.heap.size, 1, none⟩ = some (.slice a n cap) := by rw [hW]; simp
  have hWs : W.heap.size = w.heap.size + 1 := by rw [hW]; simp
  have HB0 : Hid (∀ w', Below W.heap.size W w' → w'.cell? ⟨w.heap.size, 0, none⟩ = some (.map (some b)) ∧ w'.cell? ⟨w.heap.size, 1, none⟩ = some (.slice a n cap)) := Lib.hid (fun w' hb => ⟨(hb.cell (p := ⟨w.heap.size, 0, none⟩) (by show w.heap.size < _; omega)).trans hq0, (hb.cell (p := ⟨w.heap.size, 1, none⟩) (by show w.heap.size < _; omega)).trans hq1⟩)
  have k0 := cell_regrown hq0
  clear hW hWs
  refine Mx.wp_region_mixed (Mx.ofL [(0, 0), (1, 1), (2, 0), (3, 2), (4, 3), (5, 0), (6, 0), (7, 0), (8, 0), (9, 0)] .done) (by kernel_rfl) (by kernel_rfl) ?_
  repeat ((first | refine Mx.mix0 rfl ?_ | refine Mx.mix1 rfl ?_); go_big_quiet_step (fail); refine wpQuiet_nil ?_)
  refine Mx.mix2 rfl ?_
  go_wp2_with fail
  refine (CK.out _ _ ((HU.out.below BX.out).at.below (below_drewF (Below.refl _ _) 1))).mono ?_
  rintro r w2 ⟨rfl, hb⟩
  have G2 : Hid (Below W.heap.size W w2) := Lib.hid ((below_drewF (Below.refl _ _) 1).trans hb)
  have B2 := Lib.hid (BX.out.trans (G2.out.mono BX.out.size))
  have HM2 : Hid (w2.ownsMap Tryz.prog 94 (plainElem Tryz.prog 9) b es.length (mapD es)) := MapB.below HM.out B2.out
  clear hb k0 hq0 hq1
  go_wp2
  refine Mx.mid_normal (fun _ => regrown_of_below G2.out) ?_
  refine Mx.mix3 rfl ?_
  go_wp2_with (at_lookup; refine wpList_lookup_own_ok _ rfl _ _ 59 rfl 94 9 lawK Tryz.underlying59 _ (zeroS _) (litT ByteArray.empty) [] (plainElem_string Tryz.underlying9 (by decide)) b es.length (mapD es) rfl HM2.out _ (KL K) rfl HKy.out ?_)
  intro v ps hv
  have hv2 : v = .string (x.getD ByteArray.empty) := by
    rw [HL2.out] at hv
    obtain ⟨s, rfl, h1, _⟩ := plainElem_string_inv Tryz.underlying9 hv
    have h2 := congrArg Prod.fst h1
    cases x with
    | none => simp only [litT] at h2; have h2 := Lit.string.inj (DataW.lit.inj h2); exact congrArg Value.string (ByteArray.ext (Array.toList_inj.1 h2)).symm
    | some t => simp only [litT] at h2; have h2 := Lit.string.inj (DataW.lit.inj h2); exact congrArg Value.string (ByteArray.ext (Array.toList_inj.1 h2)).symm
  subst hv2
  rw [HL1.out]
  clear hv HM2
  go_wp2
  refine Mx.mid_normal (fun q => by cases q) ?_
  repeat ((first | refine Mx.mix0 rfl ?_ | refine Mx.mix1 rfl ?_); go_big_quiet_step (fail); refine wpQuiet_nil ?_)
  refine Mx.mix_nil ?_
  cases x with
  | some t =>
    have HZ := Lib.hid (HLs.out t rfl)
    clear HLs HLn
    simp only [Option.getD_some, Option.isSome_some]
    go_wp2
    go_ret3
    rw [HZ.out, lfE_some]
    exact ⟨rfl, B2.out⟩
  | none =>
    have HZ := Lib.hid (HLn.out rfl)
    clear HLs HLn
    simp only [Option.getD_none, Option.isSome_none]
    obtain ⟨q0, q1⟩ := HB0.out _ G2.out
    go_wp2_with fail
    clear q0 q1
    go_loopw [28] (fun i wr => ∃ k : Nat, k ≤ n ∧ i = .int .i64 k ∧ Hid (Z = fdFind es xs k (fs.drop k)) ∧ Hid (Below W.heap.size W wr)) (fun i _ => n - (intOf i).toNat)
    case atStart => exact ⟨0, Nat.zero_le _, rfl, HZ, G2⟩
    case round =>
      obtain ⟨k, hk, rfl, HK, HB⟩ := hrel
      have hbw := BX.out.trans (HB.out.mono BX.out.size)
      by_cases hlt : k < n
      · obtain ⟨f, hf⟩ : ∃ f, fs[k]? = some f := ⟨_, List.getElem?_eq_getElem (by rw [← HNn.out]; exact hlt)⟩
        obtain ⟨bk, o, rfl, hbk, g0, g1⟩ := HC.out wr hbw k f hf
        have hfs := HX.out k f hf
        obtain ⟨fk, ft⟩ := f
        dsimp only at g0 g1 hfs
        have hw3 := HB.out.alloc HB.out.size (.cells #[.int .i64 fk, .string ft] 96)
        obtain ⟨q0, q1⟩ := HB0.out _ hw3
        have HBw := Lib.hid hbw
        clear hw3
        have hb3 : Below w.heap.size w (wr.alloc (.cells #[.int .i64 fk, .string ft] 96)) := hbw.alloc hbw.size _
        have cu := CU.out fk ft _ (HM.out.below hb3) (HU.out.below hb3) hfs
        have HB3 := Lib.hid hb3
        have HF := Lib.hid hf
        obtain ⟨y, hy⟩ : ∃ y, y = unL es xs (fk, ft) := ⟨_, rfl⟩
        rw [← hy] at cu
        have HY := Lib.hid hy
        clear hf hbw hb3 hy
        cases y with
        | none =>
          rw [lkE_none] at cu
          have C1 := Lib.hid cu
          have HZ2 : Hid (Z = fdFind es xs (k + 1) (fs.drop (k + 1))) := Lib.hid (HK.out.trans (HN1.out _ (fd1_un HY.out.symm) k HF.out))
          clear cu HK
          go_wp2_with fail
          refine C1.out.mono ?_
          rintro r w3 ⟨rfl, hb⟩
          have HB4 := Lib.hid (HB3.out.trans (hb.mono HB3.out.size))
          have HX4 := Lib.hid (BoxA.new hb)
          have HW4 := Lib.hid (HB.out.trans ((below_new hb).mono HB.out.size))
          obtain ⟨_, d0, d1⟩ := HX4.out
          clear hb q0 q1 g0 g1
          go_wp2_with fail
          refine (CT.out _ _ _ _ (by decide) hfs).mono ?_
          rintro r w4 ⟨rfl, hb⟩
          have HW5 := Lib.hid (HW4.out.trans (hb.mono HW4.out.size))
          clear hb d0 d1
          unfold fdE
          go_wp2
          go_roundw
          case rel => exact ⟨k + 1, by omega, by go_num, HZ2, HW5⟩
          case measure => simp [intOf]; omega
        | some t =>
          rw [lkE_some] at cu
          have C1 := Lib.hid cu
          have hts : t.size ≤ 60 := HSz.out fk ft t HY.out.symm
          have ct := fun w' => CT.out t fk ft w' (by omega) hfs
          unfold fdE at ct
          have HN3 : Hid (fdB t fk ft = false → Z = fdFind es xs (k + 1) (fs.drop (k + 1))) := Lib.hid (fun h => HK.out.trans (HN1.out _ (fd1_no HY.out.symm h) k HF.out))
          have HN4 : Hid (fdB t fk ft = true → Z = some (fdT t fk ft, (k : Int))) := Lib.hid (fun h => HK.out.trans (HN2.out _ _ (fd1_yes HY.out.symm h) k HF.out))
          obtain ⟨X, hX⟩ : ∃ X, X = fdT t fk ft := ⟨_, rfl⟩
          obtain ⟨c, hc⟩ : ∃ c, c = fdB t fk ft := ⟨_, rfl⟩
          rw [← hX, ← hc] at ct
          rw [← hc] at HN3
          rw [← hX, ← hc] at HN4
          have C2 := Lib.hid ct
          clear cu ct HK hX hc HY
          cases c with
          | false =>
            have HZ2 := Lib.hid (HN3.out rfl)
            clear HN3 HN4
            go_wp2_with fail
            refine C1.out.mono ?_
            rintro r w3 ⟨rfl, hb⟩
            have HX4 := Lib.hid (BoxA.new hb)
            have HW4 := Lib.hid (HB.out.trans ((below_new hb).mono HB.out.size))
            obtain ⟨_, d0, d1⟩ := HX4.out
            clear hb q0 q1 g0 g1
            go_wp2_with fail
            refine (C2.out _).mono ?_
            rintro r w4 ⟨rfl, hb⟩
            have HW5 := Lib.hid (HW4.out.trans (hb.mono HW4.out.size))
            clear hb d0 d1
            go_wp2
            go_roundw
            case rel => exact ⟨k + 1, by omega, by go_num, HZ2, HW5⟩
            case measure => simp [intOf]; omega
          | true =>
            have HZ2 := Lib.hid (HN4.out rfl)
            clear HN3 HN4
            go_wp2_with fail
            refine C1.out.mono ?_
            rintro r w3 ⟨rfl, hb⟩
            have HX4 := Lib.hid (BoxA.new hb)
            have HW4 := Lib.hid (HB.out.trans ((below_new hb).mono HB.out.size))
            obtain ⟨_, d0, d1⟩ := HX4.out
            clear hb q0 q1 g0 g1
            go_wp2_with fail
            refine (C2.out _).mono ?_
            rintro r w4 ⟨rfl, hb⟩
            have HW5 := Lib.hid (HW4.out.trans (hb.mono HW4.out.size))
            clear hb d0 d1
            go_wp2
            go_ret3
            rw [HZ2.out, lfE_some]
            exact ⟨rfl, BX.out.trans (HW5.out.mono BX.out.size)⟩
      · have HZ2 : Hid (Z = none) := Lib.hid (by rw [HK.out, List.drop_of_length_le (by rw [← HNn.out]; omega)]; rfl)
        clear HK
        go_wp2
        go_ret3
        rw [HZ2.out, lfE_none]
        exact ⟨rfl, BX.out.trans (HB.out.mono BX.out.size)⟩
theorem results_fd2 {fn : Func} {p u : Tmp} (h : fn.results = #[.cell p 89, .tmp u]) (tmps : Array Value) (w : World) (g : Nat) (x y : Value)
    (hp : tmps.getD p undef = .pointer (some ⟨g, 0, none⟩)) (hg : BoxW w g 89 x y) :
    (results fn tmps).run Tryz.prog w = .ok (.tuple #[.agg #[x, y], tmps.getD u undef]) w := by
  have hr := run_loadVar_row (P := Tryz.prog) w g _ 89 _ _ _ hg Tryz.underlying89 rfl (by kernel_rfl)
  rw [results_cell_tmp h, hp]
  simp [asAddr, hr, Result.andThen]
theorem grown_cell (W : World) (b i : Nat) (v : Value) : W.grownBy (W.setCell ⟨b, i, none⟩ v) (some b) := by
  have h : Below b W (W.setCell ⟨b, i, none⟩ v) := (Below.refl _ _).setCell (p := ⟨b, i, none⟩) (Nat.le_refl _) v
  exact ⟨h.os, h.tape, h.output, by rw [World.size_setCell]; exact Nat.le_refl _, fun k _ hk => Below.heap_setCell _ _ _ _ (fun e => hk (by rw [e]))⟩
theorem BoxW.new2 (w : World) (x y : Value) (T T' : TypeId) (v : Value) : BoxW ((w.alloc (.cells #[v] T')).alloc (.cells #[x, y] T)) (w.heap.size + 1) T x y := by
  have := heap_alloc_new (w.alloc (.cells #[v] T')) (.cells #[x, y] T)
  rw [World.size_alloc] at this
  exact this
set_option maxHeartbeats 1000000 in
theorem foldedBy_any (v : Value) (es : List Ent) (fv : Value) (fs : List Atm) (w : World) (h : EntsAt w v es) (hn : es.length ≤ 2097152) (hx : ∀ e ∈ es, entOk e) (hf : AtomsAt w fv fs) (hfn : fs.length ≤ 2097152) (hfx : ∀ f ∈ fs, f.2.size ≤ 1048576) :
    Calls Tryz.prog 49 #[dV v, fv] w fun r w' => (∃ mo, r = .returned (.tuple #[.agg #[.map mo, fv], .bool (okD es && Pl.okFs fs)]) ∧ (okD es = true → ∃ b, mo = some b ∧ w.heap.size ≤ b ∧ MapB w' b es)) ∧ Below w.heap.size w w' := by
  have hE := h
  obtain ⟨fa, fc, rfl, _⟩ := fd_at hf
  have cf := fun w' h => IsValidFolds_any (.slice fa fs.length fc) fs w' h hfn (fun e he => by have := hfx e he; unfold maxLen; omega)
  obtain ⟨ok, hok⟩ : ∃ ok, ok = Pl.okFs fs := ⟨_, rfl⟩
  rw [← hok] at cf ⊢
  have HF := Lib.hid hf
  obtain ⟨fl, hfl⟩ : ∃ fl, fl = fs.length := ⟨_, rfl⟩
  rw [← hfl] at cf HF ⊢
  have CF := Lib.hid cf
  clear cf hok hfl
  obtain ⟨a, cap, rfl, hcap, hC⟩ := h.cells
  have hb2 := fun (o : Obj) (o' : Obj) => below_x2 w o o'
  have HB2 := Lib.hid hb2
  have hbw := BoxW.new2 w (.map none) (.slice none 0 0) 89 26 (.slice a es.length cap)
  have HBW := Lib.hid hbw
  clear hb2 hbw
  cases hg : okD es
  · have C := Lib.hid (fun w' hb => textsNo_any _ es w' (hE.below (w' := w') hb) hn hx hg)
    clear h hE hx hg hC hf
    unfold dV at C ⊢
    go_enter Tryz.func49, Tryz.ntmps49
    go_wp2_with fail
    refine (C.out _ (HB2.out _ _)).mono ?_
    rintro r w1 ⟨rfl, hb⟩
    have B1 := Lib.hid ((HB2.out _ _).trans (hb.mono (by simp; omega)))
    have W1 := Lib.hid (HBW.out.below hb (by simp))
    have c0 := W1.out.cell0
    have c1 := W1.out.cell1
    have f0 := W1.out.frozen 0
    have f1 := W1.out.frozen 1
    clear hb
    go_wp2
    (try simp only [Exit.inBlock, Exit.then])
    refine bodyPost_ret (results_fd2 rfl _ _ (w.heap.size + 1) _ _ rfl ((W1.out.set0 _).set1 _)) rfl ?_
    exact ⟨⟨_, by first | rfl | (cases ok <;> rfl), fun h => by cases h⟩, (B1.out.setCell (p := ⟨w.heap.size + 1, 0, none⟩) (by show w.heap.size ≤ w.heap.size + 1; omega) _).setCell (p := ⟨w.heap.size + 1, 1, none⟩) (by show w.heap.size ≤ w.heap.size + 1; omega) _⟩
  · have C := Lib.hid (fun w' hb => texts_any _ es w' (hE.below (w' := w') hb) hn hx hg)
    clear h hE hx hg hC hf
    unfold dV at C ⊢
    go_enter Tryz.func49, Tryz.ntmps49
    go_wp2_with fail
    refine (C.out _ (HB2.out _ _)).mono ?_
    rintro r w1 ⟨⟨b, rfl, hbb, hm⟩, hb⟩
    have B1 := Lib.hid ((HB2.out _ _).trans (hb.mono (by simp; omega)))
    have W1 := Lib.hid (HBW.out.below hb (by simp))
    have HM1 := Lib.hid hm
    clear hb hm
    go_wp2_with fail
    refine (CF.out _ (HF.out.below B1.out)).mono ?_
    rintro r w2 ⟨rfl, hb⟩
    have B2 := Lib.hid (B1.out.trans (hb.mono B1.out.size))
    have W2 := Lib.hid (W1.out.below hb W1.out.lt)
    have HM2 := Lib.hid (HM1.out.below hb)
    have hbb2 : w.heap.size + 2 ≤ b := by simp at hbb; omega
    have c0 := W2.out.cell0
    have c1 := W2.out.cell1
    have f0 := W2.out.frozen 0
    have f1 := W2.out.frozen 1
    clear hb W1 HM1 hbb
    go_wp2
    (try simp only [Exit.inBlock, Exit.then])
    refine bodyPost_ret (results_fd2 rfl _ _ (w.heap.size + 1) _ _ rfl ((W2.out.set0 _).set1 _)) rfl ?_
    refine ⟨⟨_, by first | rfl | (cases ok <;> rfl), fun _ => ⟨b, rfl, by omega, ?_⟩⟩, (B2.out.setCell (p := ⟨w.heap.size + 1, 0, none⟩) (by show w.heap.size ≤ w.heap.size + 1; omega) _).setCell (p := ⟨w.heap.size + 1, 1, none⟩) (by show w.heap.size ≤ w.heap.size + 1; omega) _⟩
    exact World.ownsMap.kept (World.ownsMap.kept HM2.out (grown_cell _ (w.heap.size + 1) 0 _) (by intro e; injection e with e; omega)) (grown_cell _ (w.heap.size + 1) 1 _) (by intro e; injection e with e; omega)
end Go.Proofs.YthigdblloddepaaGreat

namespace Go.Proofs.YthigdblloddepaaGreat
set_option maxRecDepth 100000
open Go.RowKit

theorem EntsAt.slice {w : World} {v : Value} {es : List Ent} (h : EntsAt w v es) : ∃ a cap, v = .slice a es.length cap := by obtain ⟨a, cap, hv, _⟩ := h.len; exact ⟨a, cap, hv⟩
set_option maxHeartbeats 1000000 in
theorem LookupFolded_any (v : Value) (es : List Ent) (fv : Value) (fs : List Atm) (u : Value) (xs : List Int) (w : World) (h : EntsAt w v es) (hn : es.length ≤ 2097152) (hx : ∀ e ∈ es, entOk e) (hf : AtomsAt w fv fs) (hfn : fs.length ≤ 2097152) (hfx : ∀ f ∈ fs, f.2.size ≤ 1048576) (hu : IntsM w u xs) (hxn : xs.length ≤ 2097152) :
    Calls Tryz.prog 28 #[dV v, fv, u] w fun r w' => r = lfE (lfR es fs xs) ∧ Below w.heap.size w w' := by
  have HE := Lib.hid h
  have HF := Lib.hid hf
  have HU := Lib.hid hu
  have CB := Lib.hid (fun w' h hf => foldedBy_any v es fv fs w' h hn hx hf hfn hfx)
  have CL := Lib.hid (fun (hok : okD es = true) (hfk : Pl.okFs fs = true) b w' hm hf hu => lookupD_any b es fv fs u xs w' hm hok hf (Pl.okFs_parts hfk).1 hfx hu hxn)
  have BX := Lib.hid (fun o => below_x1 w o)
  obtain ⟨fa, fc, rfl, _⟩ := fd_at hf
  obtain ⟨fl, hfl⟩ : ∃ fl, fl = fs.length := ⟨_, rfl⟩
  obtain ⟨a, cap, rfl⟩ := h.slice
  obtain ⟨n, hnn⟩ : ∃ n, n = es.length := ⟨_, rfl⟩
  unfold dV at CB ⊢
  cases hg : (okD es && Pl.okFs fs)
  · rw [lfR_no hg, lfE_none]
    rw [← hfl, ← hnn]
    simp only [hg, ← hfl, ← hnn] at CB
    rw [← hfl] at HF
    rw [← hnn] at HE
    clear h hf hu hx hfx CL hg hfl hnn hfn hn
    go_enter Tryz.func28, Tryz.ntmps28
    go_wp2_with fail
    refine (CB.out _ (HE.out.below (BX.out _)) (HF.out.below (BX.out _))).mono ?_
    rintro r w1 ⟨⟨m, rfl, _⟩, hb⟩
    have B1 := Lib.hid ((BX.out _).trans (hb.mono (by simp)))
    clear hb
    go_wp2
    go_ret3
    exact ⟨rfl, B1.out.alloc B1.out.size _⟩
  · rw [lfR_yes hg]
    have hg2 := hg
    rw [Bool.and_eq_true] at hg2
    have CL2 := Lib.hid (CL.out hg2.1 hg2.2)
    have HD := Lib.hid hg2.1
    unfold lfE at CL2 ⊢
    rw [← hfl, ← hnn]
    simp only [hg, ← hfl, ← hnn] at CB
    simp only [← hfl] at CL2
    rw [← hfl] at HF
    rw [← hnn] at HE
    clear h hf hu hx hfx CL hg hg2 hfl hnn hfn hn
    go_enter Tryz.func28, Tryz.ntmps28
    go_wp2_with fail
    refine (CB.out _ (HE.out.below (BX.out _)) (HF.out.below (BX.out _))).mono ?_
    rintro r w1 ⟨⟨m, rfl, hm⟩, hb⟩
    have B1 := Lib.hid ((BX.out _).trans (hb.mono (by simp)))
    obtain ⟨b, rfl, _, hmb⟩ := hm HD.out
    have HM := Lib.hid hmb
    clear hb hm hmb
    go_wp2_with fail
    have hb2 := below_x1 w1 (.cells #[.map (some b), .slice fa fl fc] 89)
    have B2 := Lib.hid (B1.out.trans (hb2.mono B1.out.size))
    have HM2 := Lib.hid (HM.out.below hb2)
    clear hb2
    refine (CL2.out b _ HM2.out (HF.out.below B2.out) (HU.out.below B2.out)).mono ?_
    rintro r w3 ⟨rfl, hb⟩
    have B3 := Lib.hid (B2.out.trans (hb.mono B2.out.size))
    clear hb
    go_wp2
    go_ret3
    exact ⟨rfl, B3.out⟩
set_option maxHeartbeats 2000000 in
theorem specLookupFolded_any (v : Value) (es : List Ent) (fv : Value) (fs : List Atm) (u : Value) (xs : List Int) (w : World) (h : EntsAt w v es) (hn : es.length ≤ 2097152) (hx : ∀ e ∈ es, entOk e) (hf : AtomsAt w fv fs) (hfn : fs.length ≤ 2097152) (hfx : ∀ f ∈ fs, f.2.size ≤ 1048576) (hu : IntsM w u xs) (hxn : xs.length ≤ 2097152) :
    Calls Tryz.prog 58 #[dV v, fv, u] w fun r w' => r = lfE (lfR es fs xs) ∧ Below w.heap.size w w' := by
  have HE := Lib.hid h
  have HF := Lib.hid hf
  have HU := Lib.hid hu
  have cg := fun w' hb => l6Good_any v es w' (h.below (w' := w') hb) hn hx
  have cv := fun w' hb => specIsValidFolds_any fv fs w' (hf.below (w' := w') hb) hfn (fun e he => by have := hfx e he; unfold maxLen; omega)
  have co := fun w' hb => l4Good_any u xs w' (hu.below (w' := w') hb).at hxn
  have CFi := Lib.hid (fun y ys w' hb hy hyn => l6Find_any v es y ys w' (h.below (w' := w') hb) hy hn hx hyn)
  have BX := Lib.hid (below_x1 w (.cells #[v] 26))
  obtain ⟨a, cap, rfl⟩ := h.slice
  obtain ⟨ua, uc, rfl, _, _⟩ := hu.at.cells
  obtain ⟨fa, fc, rfl, hfc, hFC⟩ := fd_at hf
  have HFC := Lib.hid hFC
  obtain ⟨n, hnn⟩ : ∃ n, n = es.length := ⟨_, rfl⟩
  obtain ⟨fl, hfl⟩ : ∃ fl, fl = fs.length := ⟨_, rfl⟩
  have HFL := Lib.hid hfl
  unfold dV at cg CFi ⊢
  rw [← hnn] at HE BX
  rw [← hfl] at HF hfc
  simp only [← hnn] at cg CFi
  simp only [← hfl] at cv
  rw [← hnn, ← hfl]
  cases hg : okD es
  · rw [hg] at cg
    have CG := Lib.hid cg
    have HN : Hid (lfR es fs xs = none) := Lib.hid (lfR_no (by rw [hg]; rfl))
    rw [HN.out, lfE_none]
    clear h hf hu hx hfx hg cg cv co hFC hfl hnn hfn hn HN
    go_enter Tryz.func58, Tryz.ntmps58
    go_wp2_with fail
    refine (CG.out _ BX.out).mono ?_
    rintro r w1 ⟨rfl, hb⟩
    have B1 := Lib.hid (BX.out.trans (hb.mono BX.out.size))
    clear hb
    go_wp2
    go_ret3
    exact ⟨rfl, B1.out⟩
  · rw [hg] at cg
    have CG := Lib.hid cg
    cases hfk : Pl.okFs fs
    · rw [hfk] at cv
      have CV := Lib.hid cv
      have HN : Hid (lfR es fs xs = none) := Lib.hid (lfR_no (by rw [hg, hfk]; rfl))
      rw [HN.out, lfE_none]
      clear h hf hu hx hfx hg hfk cg cv co hFC hfl hnn hfn hn HN
      go_enter Tryz.func58, Tryz.ntmps58
      go_wp2_with fail
      refine (CG.out _ BX.out).mono ?_
      rintro r w1 ⟨rfl, hb⟩
      have B1 := Lib.hid (BX.out.trans (hb.mono BX.out.size))
      clear hb
      go_wp2_with fail
      refine (CV.out _ B1.out).mono ?_
      rintro r w2 ⟨rfl, hb⟩
      have B2 := Lib.hid (B1.out.trans (hb.mono B1.out.size))
      clear hb
      go_wp2
      go_ret3
      exact ⟨rfl, B2.out⟩
    · rw [hfk] at cv
      have CV := Lib.hid cv
      cases ho : okO xs
      · rw [ho] at co
        have CO := Lib.hid co
        have HN : Hid (lfR es fs xs = none) := Lib.hid (by rw [lfR_yes (by rw [hg, hfk]; rfl), lfX_bad hg ho])
        rw [HN.out, lfE_none]
        clear h hf hu hx hfx hg hfk ho cg cv co hFC hfl hnn hfn hn HN
        go_enter Tryz.func58, Tryz.ntmps58
        go_wp2_with fail
        refine (CG.out _ BX.out).mono ?_
        rintro r w1 ⟨rfl, hb⟩
        have B1 := Lib.hid (BX.out.trans (hb.mono BX.out.size))
        clear hb
        go_wp2_with fail
        refine (CV.out _ B1.out).mono ?_
        rintro r w2 ⟨rfl, hb⟩
        have B2 := Lib.hid (B1.out.trans (hb.mono B1.out.size))
        clear hb
        go_wp2_with fail
        refine (CO.out _ B2.out).mono ?_
        rintro r w3 ⟨rfl, rfl⟩
        go_wp2
        go_ret3
        exact ⟨rfl, B2.out⟩
      · rw [ho] at co
        have CO := Lib.hid co
        have HR : Hid (lfR es fs xs = lfX es fs xs) := Lib.hid (lfR_yes (by rw [hg, hfk]; rfl))
        rw [HR.out]
        obtain ⟨hf6, hfv, _⟩ := Pl.okFs_parts hfk
        have hfl6 : fl ≤ 6 := by rw [hfl]; exact hf6
        have CUn := Lib.hid (fun k t (hkt : Pl.okF (k, t) = true) w' hm => l10Unfold_any (.slice ua xs.length uc) xs k t w' hm ho hkt)
        have CTx := Lib.hid (fun s k t w' hs ht => l10Text_any s k t w' hs ht)
        have HVal := Lib.hid (fun k f (hkf : fs[k]? = some f) => show Pl.okF f = true from hfv f (List.mem_of_getElem? hkf))
        have HSz := Lib.hid (fun o q (hq : Pl.look o es = some q) => look_size hg hq)
        have HN1 := Lib.hid (fun f (h : fd1 es xs f = none) j (hj : fs[j]? = some f) => show fdFind es xs j (fs.drop j) = fdFind es xs (j + 1) (fs.drop (j + 1)) from by rw [fdFind_next hj, h])
        have HN2 := Lib.hid (fun f t (h : fd1 es xs f = some t) j (hj : fs[j]? = some f) => show fdFind es xs j (fs.drop j) = some (t, (j : Int)) from by rw [fdFind_next hj, h])
        have HUb := Lib.hid (fun (f : Atm) (hf : Pl.okF f = true) => show unfB xs f.1 f.2 = decide (0 < (unfI xs f.1 f.2).length) from by
          rw [(unf_un0 ho hf).1, (unf_un0 ho hf).2, un0_pos])
        obtain ⟨x, hx'⟩ : ∃ x, x = Pl.look xs es := ⟨_, rfl⟩
        obtain ⟨Z, hZ⟩ : ∃ Z, Z = lfX es fs xs := ⟨_, rfl⟩
        have HLs := Lib.hid (fun t (h : x = some t) => hZ.trans (lfX_some (fs := fs) (hx'.symm.trans h)))
        have HLn := Lib.hid (fun (h : x = none) => hZ.trans (lfX_none (fs := fs) (hx'.symm.trans h)))
        rw [← hZ]
        have cf0 := fun w' hb => CFi.out (.slice ua xs.length uc) xs w' hb (HU.out.below hb).at hxn
        rw [← hx'] at cf0
        have CF0 := Lib.hid cf0
        clear h hf hu hx hfx hg hfk ho cg cv co hFC hfl hnn hfn hn hZ hx' cf0 hfv HR
        go_enter Tryz.func58, Tryz.ntmps58
        go_wp2_with fail
        refine (CG.out _ BX.out).mono ?_
        rintro r w1 ⟨rfl, hb⟩
        have B1 := Lib.hid (BX.out.trans (hb.mono BX.out.size))
        have Q1 : Hid (w1.cell? ⟨w.heap.size, 0, none⟩ = some (.slice a n cap)) := Lib.hid (box1 hb)
        clear hb
        go_wp2_with fail
        refine (CV.out _ B1.out).mono ?_
        rintro r w2 ⟨rfl, hb⟩
        have B2 := Lib.hid (B1.out.trans (hb.mono B1.out.size))
        have Q2 : Hid (w2.cell? ⟨w.heap.size, 0, none⟩ = some (.slice a n cap)) := Lib.hid ((hb.cell (p := ⟨w.heap.size, 0, none⟩) (lt_of_cell Q1.out)).trans Q1.out)
        clear hb Q1
        go_wp2_with fail
        refine (CO.out _ B2.out).mono ?_
        rintro r w3 ⟨rfl, rfl⟩
        have q2 := Q2.out
        go_wp2_with fail
        refine (CF0.out _ B2.out).mono ?_
        rintro r w3 ⟨rfl, hb⟩
        have B3 := Lib.hid (B2.out.trans (hb.mono B2.out.size))
        have Q3 : Hid (w3.cell? ⟨w.heap.size, 0, none⟩ = some (.slice a n cap)) := Lib.hid ((hb.cell (p := ⟨w.heap.size, 0, none⟩) (lt_of_cell Q2.out)).trans Q2.out)
        clear hb Q2 q2
        cases x with
        | some t =>
          have HZ := Lib.hid (HLs.out t rfl)
          clear HLs HLn
          unfold lkE
          simp only [Option.getD_some, Option.isSome_some]
          go_wp2
          go_ret3
          rw [HZ.out, lfE_some]
          exact ⟨rfl, B3.out⟩
        | none =>
          have HZ := Lib.hid (HLn.out rfl)
          clear HLs HLn
          unfold lkE
          simp only [Option.getD_none, Option.isSome_none]
          have HB3 : Hid (∀ w', Below w3.heap.size w3 w' → w'.cell? ⟨w.heap.size, 0, none⟩ = some (.slice a n cap)) := Lib.hid (fun w' hb => (hb.cell (p := ⟨w.heap.size, 0, none⟩) (lt_of_cell Q3.out)).trans Q3.out)
          clear Q3
          go_wp2_with fail
          go_loopw [11] (fun i wr => ∃ k : Nat, k ≤ fl ∧ i = .int .i64 k ∧ Hid (Z = fdFind es xs k (fs.drop k)) ∧ Hid (Below w3.heap.size w3 wr)) (fun i _ => fl - (intOf i).toNat)
          case atStart => exact ⟨0, Nat.zero_le _, rfl, HZ, Lib.hid (Below.refl _ _)⟩
          case round =>
            obtain ⟨k, hk, rfl, HK, HB⟩ := hrel
            by_cases hlt : k < fl
            · obtain ⟨f, hf⟩ : ∃ f, fs[k]? = some f := ⟨_, List.getElem?_eq_getElem (by rw [← HFL.out]; exact hlt)⟩
              have hbw := B3.out.trans (HB.out.mono B3.out.size)
              obtain ⟨bk, o, rfl, hbk, g0, g1⟩ := HFC.out wr hbw k f hf
              have hfo := HVal.out k f hf
              have HF1 := Lib.hid hf
              have HUb1 := Lib.hid (HUb.out f hfo)
              have HFo := Lib.hid hfo
              obtain ⟨fk, ft⟩ := f
              dsimp only at g0 g1
              have h8 := (Pl.okF_parts hfo).2.2.1
              dsimp only at h8
              have cu := CUn.out fk ft hfo wr (HU.out.below hbw)
              obtain ⟨zs, hzs⟩ : ∃ zs, zs = unfI xs fk ft := ⟨_, rfl⟩
              have HZs := Lib.hid hzs
              have hzl : zs.length ≤ 6 := by rw [hzs]; exact unfI_len _ _ _
              have HUb2 : Hid (unfB xs fk ft = decide (0 < zs.length)) := Lib.hid (by rw [hzs]; exact HUb1.out)
              rw [← hzs] at cu
              obtain ⟨zl, hzl2⟩ : ∃ zl, zl = zs.length := ⟨_, rfl⟩
              have HZL := Lib.hid hzl2
              rw [← hzl2] at hzl
              have CU := Lib.hid cu
              have HBw := Lib.hid hbw
              clear cu hf hfo hzs hzl2 HUb1 hbw
              by_cases h0 : zl = 0
              · subst h0
                have HZ2 : Hid (Z = fdFind es xs (k + 1) (fs.drop (k + 1))) := Lib.hid (HK.out.trans (HN1.out _ (fd1_un (unL_bad (by show unfB xs fk ft = false; rw [HUb2.out, ← HZL.out]; rfl))) k HF1.out))
                clear HK
                go_wp2_with fail
                refine CU.out.mono ?_
                rintro r w4 ⟨⟨y, rfl, hy⟩, hb⟩
                have HB4 := Lib.hid (HB.out.trans (hb.mono HB.out.size))
                obtain ⟨ya, yc, hye, _, _⟩ := (rowInts_at hy).cells
                rw [← HZL.out] at hye
                subst hye
                clear hb hy g0 g1
                go_wp2
                go_roundw
                case rel => exact ⟨k + 1, by omega, by go_num, HZ2, HB4⟩
                case measure => simp [intOf]; omega
              · have hz0 : ((zl : Int) == 0) = false := by rw [beq_eq_false_iff_ne]; omega
                have hUB : unfB xs fk ft = true := by rw [HUb2.out, ← HZL.out, decide_eq_true (by omega)]
                have hL : unL es xs (fk, ft) = Pl.look zs es := by unfold unL; rw [hUB, HZs.out]; rfl
                go_wp2_with fail
                refine CU.out.mono ?_
                rintro r w4 ⟨⟨y, rfl, hy⟩, hb⟩
                have HB4 := Lib.hid (HB.out.trans (hb.mono HB.out.size))
                have HY4 := Lib.hid (rowInts_at hy)
                have HBw4 := Lib.hid (HBw.out.trans (hb.mono HBw.out.size))
                obtain ⟨ya, yc, hye, _, _⟩ := (rowInts_at hy).cells
                rw [← HZL.out] at hye
                subst hye
                have q4 := HB3.out _ HB4.out
                have cf := CFi.out (.slice ya zl yc) zs w4 HBw4.out HY4.out (by rw [← HZL.out]; omega)
                obtain ⟨g2, g3⟩ : w4.cell? ⟨bk, o + k * 2, none⟩ = some (.int .i64 fk) ∧ w4.cell? ⟨bk, o + k * 2 + 1, none⟩ = some (.string ft) :=
                  ⟨(hb.cell (p := ⟨bk, o + k * 2, none⟩) (lt_of_cell g0)).trans g0, (hb.cell (p := ⟨bk, o + k * 2 + 1, none⟩) (lt_of_cell g0)).trans g1⟩
                have HG := Lib.hid (show ∀ w', Below w4.heap.size w4 w' → w'.cell? ⟨bk, o + k * 2, none⟩ = some (.int .i64 fk) ∧ w'.cell? ⟨bk, o + k * 2 + 1, none⟩ = some (.string ft) from
                  fun w' hb => ⟨(hb.cell (p := ⟨bk, o + k * 2, none⟩) (lt_of_cell g2)).trans g2, (hb.cell (p := ⟨bk, o + k * 2 + 1, none⟩) (lt_of_cell g2)).trans g3⟩)
                clear hb hy g0 g1 g2 g3
                obtain ⟨x, hx⟩ : ∃ x, x = Pl.look zs es := ⟨_, rfl⟩
                rw [← hx] at cf hL
                have HSx := Lib.hid (fun q (hq : x = some q) => HSz.out zs q (hx.symm.trans hq))
                clear hx
                cases x with
                | none =>
                  rw [lkE_none] at cf
                  have CF := Lib.hid cf
                  have HZ2 : Hid (Z = fdFind es xs (k + 1) (fs.drop (k + 1))) := Lib.hid (HK.out.trans (HN1.out _ (fd1_un hL) k HF1.out))
                  clear cf HK hL
                  go_wp2_with fail
                  refine CF.out.mono ?_
                  rintro r w5 ⟨rfl, hb⟩
                  have HB5 := Lib.hid (HB4.out.trans (hb.mono HB4.out.size))
                  clear hb q4
                  go_wp2
                  go_roundw
                  case rel => exact ⟨k + 1, by omega, by go_num, HZ2, HB5⟩
                  case measure => simp [intOf]; omega
                | some s =>
                  rw [lkE_some] at cf
                  have CF := Lib.hid cf
                  have hs := HSx.out s rfl
                  have ct := fun w' => CTx.out s fk ft w' (by omega) (by omega)
                  have hfdB : fdB s fk ft = fd0B s ft := by unfold fdB; rw [show Pl.okF (fk, ft) = true from HFo.out]; rfl
                  have hfdT : fdT s fk ft = fd0T s ft := by unfold fdT fd0T; rw [hfdB]
                  have HN3 : Hid (fd0B s ft = false → Z = fdFind es xs (k + 1) (fs.drop (k + 1))) := Lib.hid (fun h => HK.out.trans (HN1.out _ (fd1_no hL (hfdB.trans h)) k HF1.out))
                  have HN4 : Hid (fd0B s ft = true → Z = some (fd0T s ft, (k : Int))) := Lib.hid (fun h => HK.out.trans (by rw [← hfdT]; exact HN2.out _ _ (fd1_yes hL (hfdB.trans h)) k HF1.out))
                  unfold fd0E at ct
                  obtain ⟨X, hX⟩ : ∃ X, X = fd0T s ft := ⟨_, rfl⟩
                  obtain ⟨c, hc⟩ : ∃ c, c = fd0B s ft := ⟨_, rfl⟩
                  rw [← hX, ← hc] at ct
                  rw [← hc] at HN3
                  rw [← hX, ← hc] at HN4
                  have CT := Lib.hid ct
                  clear cf ct HK hL hfdB hfdT hX hc
                  cases c with
                  | false =>
                    have HZ2 := Lib.hid (HN3.out rfl)
                    clear HN3 HN4
                    go_wp2_with fail
                    refine CF.out.mono ?_
                    rintro r w5 ⟨rfl, hb⟩
                    have HB5 := Lib.hid (HB4.out.trans (hb.mono HB4.out.size))
                    obtain ⟨g0, g1⟩ := HG.out _ hb
                    clear hb q4
                    go_wp2_with fail
                    refine (CT.out _).mono ?_
                    rintro r w6 ⟨rfl, hb⟩
                    have HB6 := Lib.hid (HB5.out.trans (hb.mono HB5.out.size))
                    clear hb g0 g1
                    go_wp2
                    go_roundw
                    case rel => exact ⟨k + 1, by omega, by go_num, HZ2, HB6⟩
                    case measure => simp [intOf]; omega
                  | true =>
                    have HZ2 := Lib.hid (HN4.out rfl)
                    clear HN3 HN4
                    go_wp2_with fail
                    refine CF.out.mono ?_
                    rintro r w5 ⟨rfl, hb⟩
                    have HB5 := Lib.hid (HB4.out.trans (hb.mono HB4.out.size))
                    obtain ⟨g0, g1⟩ := HG.out _ hb
                    clear hb q4
                    go_wp2_with fail
                    refine (CT.out _).mono ?_
                    rintro r w6 ⟨rfl, hb⟩
                    have HB6 := Lib.hid (HB5.out.trans (hb.mono HB5.out.size))
                    clear hb g0 g1
                    go_wp2
                    go_ret3
                    rw [HZ2.out, lfE_some]
                    exact ⟨rfl, B3.out.trans (HB6.out.mono B3.out.size)⟩
            · have HZ2 : Hid (Z = none) := Lib.hid (by rw [HK.out, List.drop_of_length_le (by rw [← HFL.out]; omega)]; rfl)
              clear HK
              go_wp2
              go_ret3
              rw [HZ2.out, lfE_none]
              exact ⟨rfl, B3.out.trans (HB.out.mono B3.out.size)⟩
end Go.Proofs.YthigdblloddepaaGreat
