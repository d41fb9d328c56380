/-
  A KEY TAKEN OUT OF, OR PUT INTO, THE LAST STROKE OF AN OUTLINE: by the program.
-/
import Derived.Test.YtjmiackiikbodaaGreatFd
import Derived.Test.YtjmiackiikbodaaGreatOut
import Derived.Test.YtjmiackiikbodaaGreatImpl4C
import Derived.Test.YtjmiackiikbodaaGreatKeys
import Derived.Deep.DeepHandedRow
import Derived.Test.YtjmiackiikbodaaGreatMix
import Derived.Deep.RegionHeld3
import Derived.Test.YtjmiackiikbodaaGreatShelf
namespace Go.Proofs.YtjmiackiikbodaaGreat
set_option maxRecDepth 100000
open Go.RowKit

/-! ### Plain -/
def lastN (xs : List Int) : Nat := (xs.getLastD 0).toNat
theorem lastN_snoc (ys : List Int) (s : Nat) : lastN (ys ++ [(s : Int)]) = s := by unfold lastN; rw [List.getLastD_concat]; rfl
theorem okO_snoc {xs : List Int} (h : okO xs = true) : ∃ (ys : List Int) (s : Nat), xs = ys ++ [(s : Int)] ∧ 1 ≤ s ∧ s < 8388608 ∧ ys.length ≤ 5 ∧ ∀ y ∈ ys, okS y = true := by
  obtain ⟨h1, h2, h3⟩ := okO_parts h
  have hne : xs ≠ [] := fun e => by subst e; simp at h1
  have hx := List.dropLast_concat_getLast hne
  have hs := okS_iff.1 (h3 _ (List.getLast_mem hne))
  refine ⟨xs.dropLast, (xs.getLast hne).toNat, ?_, by omega, by omega, by rw [List.length_dropLast]; omega, fun y hy => h3 y ((List.dropLast_sublist xs).subset hy)⟩
  rw [Int.toNat_of_nonneg (by omega)]; exact hx.symm
theorem okO_of {ys : List Int} {s : Nat} (hl : ys.length ≤ 5) (hy : ∀ y ∈ ys, okS y = true) (h1 : 1 ≤ s) (h2 : s < 8388608) : okO (ys ++ [(s : Int)]) = true := by
  refine okO_yes (by simp) (by simp; omega) ?_
  rw [List.all_eq_true]
  intro x hx
  rw [List.mem_append, List.mem_singleton] at hx
  rcases hx with hx | rfl
  · exact hy x hx
  · exact okS_yes ⟨by omega, by omega⟩
/-- Has the last stroke the key, and another one? -/
def un0B (xs : List Int) (q : Nat) : Bool := (lastN xs).testBit q && !decide (lastN xs = 2 ^ q)
def un0I (xs : List Int) (q : Nat) : List Int := if un0B xs q = true then xs.dropLast ++ [((lastN xs - 2 ^ q : Nat) : Int)] else []
def unfB (xs : List Int) (k : Int) (t : ByteArray) : Bool := (okO xs && Pl.okF (k, t)) && un0B xs k.toNat
def unfI (xs : List Int) (k : Int) (t : ByteArray) : List Int := if unfB xs k t = true then xs.dropLast ++ [((lastN xs - 2 ^ k.toNat : Nat) : Int)] else []
def intB (xs : List Int) (k : Int) (t : ByteArray) : Bool := (okO xs && Pl.okF (k, t)) && !(lastN xs).testBit k.toNat
def intI (xs : List Int) (k : Int) (t : ByteArray) : List Int := if intB xs k t = true then xs.dropLast ++ [((lastN xs + 2 ^ k.toNat : Nat) : Int)] else []
theorem last_len {xs : List Int} (h : okO xs = true) (x : Int) : (xs.dropLast ++ [x]).length ≤ 6 := by
  have := (okO_parts h).2.1
  rw [List.length_append, List.length_dropLast]; simp; omega
theorem unfI_len (xs : List Int) (k : Int) (t : ByteArray) : (unfI xs k t).length ≤ 6 := by
  unfold unfI
  split
  · rename_i h
    unfold unfB at h
    simp only [Bool.and_eq_true] at h
    exact last_len h.1.1 _
  · simp
theorem intI_len (xs : List Int) (k : Int) (t : ByteArray) : (intI xs k t).length ≤ 6 := by
  unfold intI
  split
  · rename_i h
    unfold intB at h
    simp only [Bool.and_eq_true] at h
    exact last_len h.1.1 _
  · simp
theorem unf_un0 {xs : List Int} {k : Int} {t : ByteArray} (h : okO xs = true) (h' : Pl.okF (k, t) = true) : unfB xs k t = un0B xs k.toNat ∧ unfI xs k t = un0I xs k.toNat := by
  have : unfB xs k t = un0B xs k.toNat := by unfold unfB; rw [h, h']; rfl
  exact ⟨this, by unfold unfI un0I; rw [this]⟩
theorem un0_pos (xs : List Int) (q : Nat) : decide (0 < (un0I xs q).length) = un0B xs q := by
  unfold un0I
  cases h : un0B xs q
  · simp
  · simp
theorem unf_no {xs : List Int} {k : Int} {t : ByteArray} (h : okO xs = false ∨ Pl.okF (k, t) = false) : unfB xs k t = false ∧ unfI xs k t = [] := by
  have : unfB xs k t = false := by unfold unfB; rcases h with h | h <;> simp [h]
  exact ⟨this, by unfold unfI; rw [this]; rfl⟩
theorem int_no {xs : List Int} {k : Int} {t : ByteArray} (h : okO xs = false ∨ Pl.okF (k, t) = false) : intB xs k t = false ∧ intI xs k t = [] := by
  have : intB xs k t = false := by unfold intB; rcases h with h | h <;> simp [h]
  exact ⟨this, by unfold intI; rw [this]; rfl⟩
theorem pow_22 {q : Nat} (h : q ≤ 22) : 2 ^ q < 8388608 := pow_lt23 q (by omega)
theorem andNot_i64 (s q : Nat) (hs : s < 8388608) (hq : q ≤ 22) : bits .andNot .i64 (s : Int) ((2 ^ q : Nat) : Int) = ((if s.testBit q then s - 2 ^ q else s : Nat) : Int) := by
  have hp := pow_22 hq
  show IntKind.i64.wrap ((BitVec.ofInt 64 (s : Int) &&& ~~~BitVec.ofInt 64 ((2 ^ q : Nat) : Int)).toNat : Int) = _
  rw [show BitVec.ofInt 64 (s : Int) = BitVec.ofNat 64 s from BitVec.ofInt_natCast .., show BitVec.ofInt 64 ((2 ^ q : Nat) : Int) = BitVec.ofNat 64 (2 ^ q) from BitVec.ofInt_natCast .., Pl.andNot_two (by omega) (by omega)]
  refine i64_small _ ?_
  split
  · exact Nat.lt_of_le_of_lt (Nat.sub_le _ _) (by omega)
  · omega
theorem ints_grown {w w' : World} {row : Option Nat} {u : Value} {xs : List Int} (h : IntsM w u xs) (hg : w.grownBy w' row) (hne : ∀ j, u.ownBlock = some j → row ≠ some j) : IntsM w' u xs := by
  rcases h with h | ⟨bk, o, cap, rfl, hc, hk, hcell⟩
  · exact .inl h
  · refine .inr ⟨bk, o, cap, rfl, hc, Nat.lt_of_lt_of_le hk hg.size, fun j x hx => ?_⟩
    have hb := hg.block bk hk (fun e => hne bk rfl e.symm)
    rw [← hcell j x hx]
    simp [World.cell?, hb]
theorem ints_one_new (w : World) (x : Int) : IntsM (w.alloc (.cells #[.int .i64 x] 3)) (.slice (some ⟨w.heap.size, 0, none⟩) 1 1) [x] := by
  refine .inr ⟨w.heap.size, 0, 1, rfl, Nat.le_refl _, by rw [World.size_alloc]; omega, fun j y hy => ?_⟩
  match j, hy with
  | 0, hy => simp at hy; subst hy; rw [World.cell?_alloc_at _ _ _ _ rfl]; rfl
theorem below_x1 (w : World) (o : Obj) : Below w.heap.size w (w.alloc o) := (Below.refl _ _).alloc (Nat.le_refl _) _
theorem below_x2 (w : World) (o o' : Obj) : Below w.heap.size w ((w.alloc o).alloc o') := ((Below.refl _ _).alloc (Nat.le_refl _) _).alloc (by simp) _
theorem ownsRow_mono {w : World} {b b' : Nat} {e : TypeId} {size : Nat} {v : Value} {n : Nat} {xs : List Value} (h : w.ownsRow b e size v n xs) (hb : b' ≤ b) : w.ownsRow b' e size v n xs := by
  refine ⟨h.1, ?_⟩
  rcases h.2 with h | ⟨g, c, cur, hv, hg, rest⟩
  · exact .inl h
  · exact .inr ⟨g, c, cur, hv, Nat.le_trans hb hg, rest⟩
set_option maxHeartbeats 1000000 in
/-- The specification's unfolding of a valid outline by a valid fold. -/
theorem l10Unfold_any (v : Value) (xs : List Int) (k : Int) (t : ByteArray) (w : World) (h : IntsM w v xs) (hx : okO xs = true) (hf : Pl.okF (k, t) = true) :
    Calls Tryz.prog 42 #[v, atV k t] w fun e w' => (∃ u, e = .returned u ∧ w'.ownsRow w.heap.size 3 1 u (unfI xs k t).length ((unfI xs k t).map (.int .i64))) ∧ Below w.heap.size w w' := by
  obtain ⟨i0, hi, hz0, hz1, hz2⟩ := info_parts infoInt
  rw [(unf_un0 hx hf).2]
  obtain ⟨⟨q, hq, hq0, hq1⟩, _⟩ := Pl.okF_parts hf
  dsimp only at hq
  subst hq
  rw [Int.toNat_natCast]
  obtain ⟨ys, s, rfl, hs0, hs1, hyl, _⟩ := okO_snoc hx
  obtain ⟨bk, o, cap, rfl, hcap, hbk, hcell⟩ := h.block (by simp)
  have c0 := hcell ys.length (s : Int) (by simp)
  have hm := h.take ys.length (by simp)
  rw [List.take_left] at hm
  have hlen : (ys ++ [(s : Int)]).length = ys.length + 1 := by simp
  rw [hlen] at hcap ⊢
  have HU : Hid (un0I (ys ++ [(s : Int)]) q = if (s.testBit q && !decide (s = 2 ^ q)) = true then ys ++ [((s - 2 ^ q : Nat) : Int)] else []) := by
    show _ = _
    unfold un0I un0B
    rw [lastN_snoc, List.dropLast_concat]
  have hsh := shl_i64' q (by omega)
  have hp0 := pow_22 hq1
  have hp1 : 0 < 2 ^ q := Nat.two_pow_pos q
  have hand := and_i64 s (2 ^ q) (by omega) (by omega)
  rw [Pl.and_two] at hand
  have hle : s.testBit q = true → 2 ^ q ≤ s := fun h => Nat.ge_two_pow_of_testBit h
  obtain ⟨m, hmm⟩ : ∃ m, m = ys.length := ⟨_, rfl⟩
  have HMm := Lib.hid hmm
  have HM := Lib.hid hm
  have hyl5 : ys.length ≤ 5 := hyl
  rw [← hmm] at HM c0 hcap hyl ⊢
  obtain ⟨p, hp⟩ : ∃ p, p = 2 ^ q := ⟨_, rfl⟩
  rw [← hp] at HU hsh hp0 hp1 hand hle
  have HR0 : Hid (∀ o : Obj, ((w.alloc o).alloc (.cells #[] 3)).ownsRow w.heap.size 3 1 (.slice (some ⟨w.heap.size + 1, 0, none⟩) 0 0) 0 []) := by
    intro o
    have := row_new (w.alloc o) 3
    rw [World.size_alloc] at this
    exact ownsRow_mono this (by omega)
  clear h hx hf hcell hm hlen hmm hp
  cases hb : s.testBit q
  · rw [hb] at hand HU
    simp only [Bool.false_eq_true, if_false] at hand
    rw [if_neg (by simp)] at HU
    clear hb hle
    go_enter Tryz.func42, Tryz.ntmps42
    go_wp2
    go_ret
    rw [HU.out]
    exact ⟨⟨_, rfl, HR0.out _⟩, below_x2 _ _ _⟩
  · rw [hb] at hand HU
    simp only [if_true] at hand
    have hle2 := hle hb
    by_cases hsp : s = p
    · subst hsp
      rw [if_neg (by simp)] at HU
      clear hb hle
      go_enter Tryz.func42, Tryz.ntmps42
      go_wp2
      go_ret
      rw [HU.out]
      exact ⟨⟨_, rfl, HR0.out _⟩, below_x2 _ _ _⟩
    · rw [if_pos (by simp [hsp])] at HU
      have hne : ((s : Int) == (p : Int)) = false := by rw [beq_eq_false_iff_ne]; omega
      have hne2 : ((p : Int) == 0) = false := by rw [beq_eq_false_iff_ne]; omega
      have hsub : IntKind.i64.wrap ((s : Int) - (p : Int)) = ((s - p : Nat) : Int) := by rw [show (s : Int) - (p : Int) = ((s - p : Nat) : Int) by omega]; exact i64_small _ (by omega)
      clear hb hle
      go_enter Tryz.func42, Tryz.ntmps42
      go_wp2_with fail
      obtain ⟨W, hW⟩ : ∃ W, W = w.alloc (.cells #[.int .i64 (q : Int), .string t] 61) := ⟨_, rfl⟩
      rw [← hW]
      have HBW : Hid (Below w.heap.size w W) := Lib.hid (by rw [hW]; exact below_x1 _ _)
      have c1 : W.cell? ⟨bk, o + m, none⟩ = some (.int .i64 s) := (HBW.out.cell (p := ⟨bk, o + m, none⟩) hbk).trans c0
      have HMW : Hid (∀ W', Below W.heap.size W W' → IntsM W' (.slice (some ⟨bk, o, none⟩) m cap) ys) := Lib.hid (fun W' hb => (HM.out.below HBW.out).below hb)
      have kc := cell_regrown c1
      clear hW c0 HR0
      refine Mx.wp_region_mixed (Mx.ofL [(1, 0), (2, 0), (3, 0), (4, 0), (6, 0), (7, 0), (8, 0), (9, 0), (10, 1), (11, 0), (12, 0)] (.fork 0 2 ((.fork 5 2 (Mx.ofL [(13, 3), (14, 3), (15, 0)] .done) 13 3 (Mx.ofL [(5, 2), (14, 3), (15, 0)] .done))) 13 3 (Mx.ofL [(0, 2), (5, 2), (14, 3), (15, 0)] .done))) (by kernel_rfl) (by kernel_rfl) ?_
      repeat ((first | refine Mx.mix0 rfl ?_ | refine Mx.mix1 rfl ?_); go_big_quiet_step (fail); refine wpQuiet_nil ?_)
      have D0 := Lib.hid (below_drewF (Below.refl W.heap.size W) 1)
      refine Mx.mixF rfl rfl ?A ?B
      case' A =>
        go_wp2_with fail
        have N1 : Hid (Below W.heap.size W (W.drew.alloc (.cells #[] 3))) := Lib.hid (D0.out.alloc (Nat.le_refl _) _)
        have R1 : Hid ((W.drew.alloc (.cells #[] 3)).ownsRow W.heap.size 3 1 (.slice (some ⟨W.heap.size, 0, none⟩) 0 0) 0 []) := Lib.hid (row_new W.drew 3)
        refine Mx.mid_normal (fun _ => regrown_of_below N1.out) ?_
        refine Mx.mixF rfl rfl ?A1 ?A2
        case' A1 =>
          refine append_ints hi hz0 hz1 hz2 rfl _ _ rfl W.heap.size _ [] rfl R1.out _ ys rfl (HMW.out _ N1.out) (by simp) (by first | omega | simp) (by first | omega | simp) ?_
          intro v2 w2 hown hg
          have N2 : Hid (Below W.heap.size W w2) := Lib.hid (N1.out.grown hg (by simp) (fun j hj => row_ge R1.out hj))
          have R2 := Lib.hid hown
          clear hown hg N1 R1
          go_wp2
          refine Mx.mid_normal (fun _ => regrown_of_below N2.out) ?_
          refine Mx.mix3 rfl ?_
          go_wp2
          refine Mx.mid_normal (fun q => by cases q) ?_
          have N3 : Hid (Below W.heap.size W (w2.alloc (.cells #[.int .i64 ((s - p : Nat) : Int)] 3))) := Lib.hid (N2.out.alloc N2.out.size _)
          have I3 : Hid (IntsM (w2.alloc (.cells #[.int .i64 ((s - p : Nat) : Int)] 3)) (.slice (some ⟨w2.heap.size, 0, none⟩) 1 1) [((s - p : Nat) : Int)]) := Lib.hid (ints_one_new _ _)
          have R3 : Hid ((w2.alloc (.cells #[.int .i64 ((s - p : Nat) : Int)] 3)).ownsRow W.heap.size 3 1 v2 ys.length (ys.map (.int .i64))) := Lib.hid (R2.out.alloc (.cells #[.int .i64 ((s - p : Nat) : Int)] 3))
          generalize w2.alloc (.cells #[.int .i64 ((s - p : Nat) : Int)] 3) = w3 at N3 I3 R3 ⊢
          generalize (Value.slice (some ⟨w2.heap.size, 0, none⟩) 1 1) = u3 at I3 ⊢
          generalize v2 = v3 at R3 ⊢
          clear R2 N2
          refine Mx.mix3 rfl ?_
        case' A2 =>
          go_wp2_with fail
          refine Mx.mid_normal (fun q => by cases q) ?_
          have N2 : Hid (Below W.heap.size W ((W.drew.alloc (.cells #[] 3)).alloc (.cells #[.int .i64 ((s - p : Nat) : Int)] 3))) := Lib.hid (N1.out.alloc N1.out.size _)
          have I2 : Hid (IntsM ((W.drew.alloc (.cells #[] 3)).alloc (.cells #[.int .i64 ((s - p : Nat) : Int)] 3)) (.slice (some ⟨W.heap.size + 1, 0, none⟩) 1 1) [((s - p : Nat) : Int)]) := Lib.hid (by have := ints_one_new (W.drew.alloc (.cells #[] 3)) ((s - p : Nat) : Int); rw [World.size_alloc] at this; exact this)
          have R2 : Hid (((W.drew.alloc (.cells #[] 3)).alloc (.cells #[.int .i64 ((s - p : Nat) : Int)] 3)).ownsRow W.heap.size 3 1 (.slice (some ⟨W.heap.size, 0, none⟩) 0 0) 0 []) := Lib.hid (R1.out.alloc (.cells #[.int .i64 ((s - p : Nat) : Int)] 3))
          have hu3b : ∀ j, (Value.slice (some ⟨W.heap.size + 1, 0, none⟩) 1 1).ownBlock = some j → some W.heap.size ≠ some j := fun j hj e => by simp [Value.ownBlock] at hj; injection e with e; omega
          show Mx.wpMix _ _ _ _ _ _ ((W.drew.alloc (.cells #[] 3)).alloc (.cells #[.int .i64 ((s - p : Nat) : Int)] 3))
          generalize (W.drew.alloc (.cells #[] 3)).alloc (.cells #[.int .i64 ((s - p : Nat) : Int)] 3) = w2 at N2 I2 R2 ⊢
          generalize (Value.slice (some ⟨W.heap.size + 1, 0, none⟩) 1 1) = u3 at I2 hu3b ⊢
          have HB3 := Lib.hid hu3b
          clear R1 N1 hu3b
          refine Mx.mix2 rfl ?_
          refine append_ints hi hz0 hz1 hz2 rfl _ _ rfl W.heap.size _ [] rfl R2.out _ ys rfl (HMW.out _ N2.out) N2.out.size (by first | omega | simp) (by first | omega | simp) ?_
          intro v3 w3 hown hg
          have N3 : Hid (Below W.heap.size W w3) := Lib.hid (N2.out.grown hg N2.out.size (fun j hj => row_ge R2.out hj))
          have I3 := Lib.hid (ints_grown I2.out hg HB3.out)
          have R3 := Lib.hid hown
          clear hown hg N2 R2 I2 HB3
          go_wp2
          refine Mx.mid_normal (fun _ => regrown_of_below N3.out) ?_
          refine Mx.mix3 rfl ?_
      case' B =>
        go_wp2_with fail
        refine Mx.mid_normal (fun q => by cases q) ?_
        have N1 : Hid (Below W.heap.size W (W.drew.alloc (.cells #[.int .i64 ((s - p : Nat) : Int)] 3))) := Lib.hid (D0.out.alloc (Nat.le_refl _) _)
        have I1 : Hid (IntsM (W.drew.alloc (.cells #[.int .i64 ((s - p : Nat) : Int)] 3)) (.slice (some ⟨W.heap.size, 0, none⟩) 1 1) [((s - p : Nat) : Int)]) := Lib.hid (ints_one_new W.drew ((s - p : Nat) : Int))
        have hs1 : (W.drew.alloc (.cells #[.int .i64 ((s - p : Nat) : Int)] 3)).heap.size = W.heap.size + 1 := by simp
        have hu3b : ∀ j, (Value.slice (some ⟨W.heap.size, 0, none⟩) 1 1).ownBlock = some j → some (W.heap.size + 1) ≠ some j := fun j hj e => by simp [Value.ownBlock] at hj; injection e with e; omega
        refine Mx.mix2 rfl ?_
        go_wp2_with fail
        have R2 : Hid (((W.drew.alloc (.cells #[.int .i64 ((s - p : Nat) : Int)] 3)).alloc (.cells #[] 3)).ownsRow W.heap.size 3 1 (.slice (some ⟨W.heap.size + 1, 0, none⟩) 0 0) 0 []) := Lib.hid (by have := row_new (W.drew.alloc (.cells #[.int .i64 ((s - p : Nat) : Int)] 3)) 3; rw [hs1] at this; exact ownsRow_mono this (by omega))
        have N2 : Hid (Below W.heap.size W ((W.drew.alloc (.cells #[.int .i64 ((s - p : Nat) : Int)] 3)).alloc (.cells #[] 3))) := Lib.hid (N1.out.alloc N1.out.size _)
        have I2 : Hid (IntsM ((W.drew.alloc (.cells #[.int .i64 ((s - p : Nat) : Int)] 3)).alloc (.cells #[] 3)) (.slice (some ⟨W.heap.size, 0, none⟩) 1 1) [((s - p : Nat) : Int)]) := Lib.hid (I1.out.below (below_x1 _ _))
        refine Mx.mid_normal (fun _ => regrown_of_below N2.out) ?_
        show Mx.wpMix _ _ _ _ _ _ ((W.drew.alloc (.cells #[.int .i64 ((s - p : Nat) : Int)] 3)).alloc (.cells #[] 3))
        generalize (W.drew.alloc (.cells #[.int .i64 ((s - p : Nat) : Int)] 3)).alloc (.cells #[] 3) = w2 at N2 I2 R2 ⊢
        generalize (Value.slice (some ⟨W.heap.size, 0, none⟩) 1 1) = u3 at I2 hu3b ⊢
        have HB3 := Lib.hid hu3b
        clear I1 N1 hu3b hs1
        refine Mx.mix2 rfl ?_
        refine append_ints hi hz0 hz1 hz2 rfl _ _ rfl W.heap.size _ [] rfl R2.out _ ys rfl (HMW.out _ N2.out) N2.out.size (by first | omega | simp) (by first | omega | simp) ?_
        intro v3 w3 hown hg
        have N3 : Hid (Below W.heap.size W w3) := Lib.hid (N2.out.grown hg N2.out.size (fun j hj => row_ge R2.out hj))
        have I3 := Lib.hid (ints_grown I2.out hg HB3.out)
        have R3 := Lib.hid hown
        clear hown hg N2 R2 I2 HB3
        go_wp2
        refine Mx.mid_normal (fun _ => regrown_of_below N3.out) ?_
        refine Mx.mix3 rfl ?_
      all_goals
        refine append_ints hi hz0 hz1 hz2 rfl _ _ rfl W.heap.size _ ys rfl R3.out _ [((s - p : Nat) : Int)] rfl I3.out N3.out.size (by first | omega | simp) (by first | omega | simp) ?_
        intro v4 w4 hown hg
        have N4 : Hid (Below W.heap.size W w4) := Lib.hid (N3.out.grown hg N3.out.size (fun j hj => row_ge R3.out hj))
        have R4 := Lib.hid (ownsRow_mono hown HBW.out.size)
        clear hown hg N3 R3 I3
        go_wp2
        refine Mx.mid_normal (fun q => by cases q) ?_
        repeat ((first | refine Mx.mix0 rfl ?_ | refine Mx.mix1 rfl ?_); go_big_quiet_step (fail); refine wpQuiet_nil ?_)
        refine Mx.mix_nil ?_
        go_wp2; go_ret; rw [HU.out]; exact ⟨⟨_, rfl, R4.out⟩, HBW.out.trans (N4.out.mono HBW.out.size)⟩
theorem outE_nil (w : World) (a : Option Addr) (cap : Nat) : OutE w [] false (.returned (.tuple #[.slice a 0 cap, .bool false])) := ⟨_, rfl, IntsAt.nil _ _ _⟩
theorem outO_nil (base : Nat) (w : World) (a : Option Addr) (cap : Nat) : OutO base w [] false (.returned (.tuple #[.slice a 0 cap, .bool false])) := ⟨_, rfl, .inl ⟨rfl, _, _, rfl⟩⟩
set_option maxHeartbeats 1000000 in
theorem specFoldInto_any (v : Value) (xs : List Int) (k : Int) (t : ByteArray) (w : World) (h : IntsM w v xs) (hn : xs.length ≤ 2097152) (ht : t.size ≤ 1048576) :
    Calls Tryz.prog 60 #[v, atV k t] w fun e w' => OutE w' (intI xs k t) (intB xs k t) e ∧ Below w.heap.size w w' := by
  obtain ⟨i0, hi, hz0, hz1, hz2⟩ := info_parts infoInt
  have CX := fun w' h => l4Good_any v xs w' h hn
  have CF := fun w => l10Fold_any k t w (by unfold maxLen; omega)
  have HI := Lib.hid h
  cases hx : okO xs
  · obtain ⟨a, cap, rfl, hcap, _⟩ := h.at.cells
    rw [(int_no (.inl hx)).1, (int_no (.inl hx)).2]
    rw [hx] at CX
    have C1 := Lib.hid CX
    clear h CX CF hx
    go_enter Tryz.func60, Tryz.ntmps60
    go_wp2_with fail
    refine (C1.out _ (HI.out.below (below_x1 _ _)).at).mono ?_
    rintro e w1 ⟨rfl, rfl⟩
    go_wp2
    go_ret2
    exact ⟨outE_nil _ _ _, below_x1 _ _⟩
  · rw [hx] at CX
    have C1 := Lib.hid CX
    cases hf : Pl.okF (k, t)
    · obtain ⟨a, cap, rfl, hcap, _⟩ := h.at.cells
      rw [(int_no (.inr hf)).1, (int_no (.inr hf)).2]
      rw [hf] at CF
      have C2 := Lib.hid CF
      clear h CX CF hx hf
      go_enter Tryz.func60, Tryz.ntmps60
      go_wp2_with fail
      refine (C1.out _ (HI.out.below (below_x1 _ _)).at).mono ?_
      rintro e w1 ⟨rfl, rfl⟩
      go_wp2_with fail
      refine (C2.out _).mono ?_
      rintro e w2 ⟨rfl, hb⟩
      have B2 := Lib.hid (below_new hb)
      clear hb
      go_wp2
      go_ret2
      exact ⟨outE_nil _ _ _, B2.out⟩
    · rw [hf] at CF
      have C2 := Lib.hid CF
      have hB0 : intB xs k t = !(lastN xs).testBit k.toNat := by unfold intB; rw [hx, hf]; rfl
      obtain ⟨⟨q, hq, hq0, hq1⟩, _⟩ := Pl.okF_parts hf
      dsimp only at hq
      subst hq
      rw [Int.toNat_natCast] at hB0
      obtain ⟨ys, s, rfl, hs0, hs1, hyl, _⟩ := okO_snoc hx
      rw [lastN_snoc] at hB0
      have HV : Hid (intI (ys ++ [(s : Int)]) (q : Int) t = if intB (ys ++ [(s : Int)]) (q : Int) t = true then ys ++ [((s + 2 ^ q : Nat) : Int)] else []) := by
        show _ = _
        unfold intI
        rw [lastN_snoc, List.dropLast_concat, Int.toNat_natCast]
      obtain ⟨zs, hzs⟩ : ∃ zs, zs = intI (ys ++ [(s : Int)]) (q : Int) t := ⟨_, rfl⟩
      obtain ⟨b, hbe⟩ : ∃ b, b = intB (ys ++ [(s : Int)]) (q : Int) t := ⟨_, rfl⟩
      rw [← hzs, ← hbe] at HV ⊢
      rw [← hbe] at hB0
      obtain ⟨bk, o, cap, rfl, hcap, hbk, hcell⟩ := h.block (by simp)
      have c0 := hcell ys.length (s : Int) (by simp)
      have hm := h.take ys.length (by simp)
      rw [List.take_left] at hm
      have hlen : (ys ++ [(s : Int)]).length = ys.length + 1 := by simp
      have HL := Lib.hid hlen
      rw [hlen] at hcap
      simp only [hlen] at C1
      rw [hlen]
      have HI2 : Hid (IntsM w (.slice (some ⟨bk, o, none⟩) (ys.length + 1) cap) (ys ++ [(s : Int)])) := Lib.hid (by have := HI.out; rw [hlen] at this; exact this)
      have hsh := shl_i64' q (by omega)
      have hp0 := pow_22 hq1
      have hp1 : 0 < 2 ^ q := Nat.two_pow_pos q
      have hand := and_i64 s (2 ^ q) (by omega) (by omega)
      rw [Pl.and_two] at hand
      have hyl5 : ys.length ≤ 5 := hyl
      obtain ⟨m, hmm⟩ : ∃ m, m = ys.length := ⟨_, rfl⟩
      have HMm := Lib.hid hmm
      have HM := Lib.hid hm
      rw [← hmm] at HM c0 hcap hyl HI2 C1 ⊢
      obtain ⟨p, hp⟩ : ∃ p, p = 2 ^ q := ⟨_, rfl⟩
      rw [← hp] at HV hsh hp0 hp1 hand
      have BX := Lib.hid (below_x1 w (.cells #[.int .i64 (q : Int), .string t] 61))
      clear h HI CX CF hx hf hcell hm hlen hmm hp hzs hbe
      cases hb : s.testBit q
      · rw [hb] at hand hB0
        simp only [Bool.false_eq_true, if_false] at hand
        rw [Bool.not_false] at hB0
        subst hB0
        rw [if_pos rfl] at HV
        have HV2 : Hid (zs = ys ++ [(s : Int) + (p : Int)]) := Lib.hid (by rw [HV.out, Int.natCast_add])
        clear hb
        go_enter Tryz.func60, Tryz.ntmps60
        go_wp2_with fail
        refine (C1.out _ (HI2.out.below BX.out).at).mono ?_
        rintro e w1 ⟨rfl, rfl⟩
        go_wp2_with fail
        refine (C2.out _).mono ?_
        rintro e W ⟨rfl, hb⟩
        have HBW := Lib.hid (below_new hb)
        have X2 := Lib.hid (BoxA.new hb)
        clear hb
        obtain ⟨_, q0, q1⟩ := X2.out
        have c1 : W.cell? ⟨bk, o + m, none⟩ = some (.int .i64 s) := (HBW.out.cell (p := ⟨bk, o + m, none⟩) hbk).trans c0
        have HMW : Hid (∀ W', Below W.heap.size W W' → IntsM W' (.slice (some ⟨bk, o, none⟩) m cap) ys) := Lib.hid (fun W' hb => (HM.out.below HBW.out).below hb)
        have kc := cell_regrown c1
        clear c0
        go_wp2_with fail
        refine Mx.wp_region_mixed (Mx.ofL [(1, 0), (2, 0), (3, 0), (4, 0), (6, 0), (7, 0), (8, 0), (9, 0), (10, 1), (11, 0), (12, 0)] (.fork 0 2 ((.fork 5 2 (Mx.ofL [(13, 3), (14, 3), (15, 0), (16, 0)] .done) 13 3 (Mx.ofL [(5, 2), (14, 3), (15, 0), (16, 0)] .done))) 13 3 (Mx.ofL [(0, 2), (5, 2), (14, 3), (15, 0), (16, 0)] .done))) (by kernel_rfl) (by kernel_rfl) ?_
        repeat ((first | refine Mx.mix0 rfl ?_ | refine Mx.mix1 rfl ?_); go_big_quiet_step (fail); refine wpQuiet_nil ?_)
        have D0 := Lib.hid (below_drewF (Below.refl W.heap.size W) 1)
        refine Mx.mixF rfl rfl ?A ?B
        case' A =>
          go_wp2_with fail
          have N1 : Hid (Below W.heap.size W (W.drew.alloc (.cells #[] 3))) := Lib.hid (D0.out.alloc (Nat.le_refl _) _)
          have R1 : Hid ((W.drew.alloc (.cells #[] 3)).ownsRow W.heap.size 3 1 (.slice (some ⟨W.heap.size, 0, none⟩) 0 0) 0 []) := Lib.hid (row_new W.drew 3)
          refine Mx.mid_normal (fun _ => regrown_of_below N1.out) ?_
          refine Mx.mixF rfl rfl ?A1 ?A2
          case' A1 =>
            refine append_ints hi hz0 hz1 hz2 rfl _ _ rfl W.heap.size _ [] rfl R1.out _ ys rfl (HMW.out _ N1.out) (by simp) (by first | omega | simp) (by first | omega | simp) ?_
            intro v2 w2 hown hg
            have N2 : Hid (Below W.heap.size W w2) := Lib.hid (N1.out.grown hg (by simp) (fun j hj => row_ge R1.out hj))
            have R2 := Lib.hid hown
            clear hown hg N1 R1
            go_wp2
            refine Mx.mid_normal (fun _ => regrown_of_below N2.out) ?_
            refine Mx.mix3 rfl ?_
            go_wp2
            refine Mx.mid_normal (fun q => by cases q) ?_
            have N3 : Hid (Below W.heap.size W (w2.alloc (.cells #[.int .i64 ((s : Int) + (p : Int))] 3))) := Lib.hid (N2.out.alloc N2.out.size _)
            have I3 : Hid (IntsM (w2.alloc (.cells #[.int .i64 ((s : Int) + (p : Int))] 3)) (.slice (some ⟨w2.heap.size, 0, none⟩) 1 1) [((s : Int) + (p : Int))]) := Lib.hid (ints_one_new _ _)
            have R3 : Hid ((w2.alloc (.cells #[.int .i64 ((s : Int) + (p : Int))] 3)).ownsRow W.heap.size 3 1 v2 ys.length (ys.map (.int .i64))) := Lib.hid (R2.out.alloc (.cells #[.int .i64 ((s : Int) + (p : Int))] 3))
            generalize w2.alloc (.cells #[.int .i64 ((s : Int) + (p : Int))] 3) = w3 at N3 I3 R3 ⊢
            generalize (Value.slice (some ⟨w2.heap.size, 0, none⟩) 1 1) = u3 at I3 ⊢
            generalize v2 = v3 at R3 ⊢
            clear R2 N2
            refine Mx.mix3 rfl ?_
          case' A2 =>
            go_wp2_with fail
            refine Mx.mid_normal (fun q => by cases q) ?_
            have N2 : Hid (Below W.heap.size W ((W.drew.alloc (.cells #[] 3)).alloc (.cells #[.int .i64 ((s : Int) + (p : Int))] 3))) := Lib.hid (N1.out.alloc N1.out.size _)
            have I2 : Hid (IntsM ((W.drew.alloc (.cells #[] 3)).alloc (.cells #[.int .i64 ((s : Int) + (p : Int))] 3)) (.slice (some ⟨W.heap.size + 1, 0, none⟩) 1 1) [((s : Int) + (p : Int))]) := Lib.hid (by have := ints_one_new (W.drew.alloc (.cells #[] 3)) ((s : Int) + (p : Int)); rw [World.size_alloc] at this; exact this)
            have R2 : Hid (((W.drew.alloc (.cells #[] 3)).alloc (.cells #[.int .i64 ((s : Int) + (p : Int))] 3)).ownsRow W.heap.size 3 1 (.slice (some ⟨W.heap.size, 0, none⟩) 0 0) 0 []) := Lib.hid (R1.out.alloc (.cells #[.int .i64 ((s : Int) + (p : Int))] 3))
            have hu3b : ∀ j, (Value.slice (some ⟨W.heap.size + 1, 0, none⟩) 1 1).ownBlock = some j → some W.heap.size ≠ some j := fun j hj e => by simp [Value.ownBlock] at hj; injection e with e; omega
            show Mx.wpMix _ _ _ _ _ _ ((W.drew.alloc (.cells #[] 3)).alloc (.cells #[.int .i64 ((s : Int) + (p : Int))] 3))
            generalize (W.drew.alloc (.cells #[] 3)).alloc (.cells #[.int .i64 ((s : Int) + (p : Int))] 3) = w2 at N2 I2 R2 ⊢
            generalize (Value.slice (some ⟨W.heap.size + 1, 0, none⟩) 1 1) = u3 at I2 hu3b ⊢
            have HB3 := Lib.hid hu3b
            clear R1 N1 hu3b
            refine Mx.mix2 rfl ?_
            refine append_ints hi hz0 hz1 hz2 rfl _ _ rfl W.heap.size _ [] rfl R2.out _ ys rfl (HMW.out _ N2.out) N2.out.size (by first | omega | simp) (by first | omega | simp) ?_
            intro v3 w3 hown hg
            have N3 : Hid (Below W.heap.size W w3) := Lib.hid (N2.out.grown hg N2.out.size (fun j hj => row_ge R2.out hj))
            have I3 := Lib.hid (ints_grown I2.out hg HB3.out)
            have R3 := Lib.hid hown
            clear hown hg N2 R2 I2 HB3
            go_wp2
            refine Mx.mid_normal (fun _ => regrown_of_below N3.out) ?_
            refine Mx.mix3 rfl ?_
        case' B =>
          go_wp2_with fail
          refine Mx.mid_normal (fun q => by cases q) ?_
          have N1 : Hid (Below W.heap.size W (W.drew.alloc (.cells #[.int .i64 ((s : Int) + (p : Int))] 3))) := Lib.hid (D0.out.alloc (Nat.le_refl _) _)
          have I1 : Hid (IntsM (W.drew.alloc (.cells #[.int .i64 ((s : Int) + (p : Int))] 3)) (.slice (some ⟨W.heap.size, 0, none⟩) 1 1) [((s : Int) + (p : Int))]) := Lib.hid (ints_one_new W.drew ((s : Int) + (p : Int)))
          have hs1 : (W.drew.alloc (.cells #[.int .i64 ((s : Int) + (p : Int))] 3)).heap.size = W.heap.size + 1 := by simp
          have hu3b : ∀ j, (Value.slice (some ⟨W.heap.size, 0, none⟩) 1 1).ownBlock = some j → some (W.heap.size + 1) ≠ some j := fun j hj e => by simp [Value.ownBlock] at hj; injection e with e; omega
          refine Mx.mix2 rfl ?_
          go_wp2_with fail
          have R2 : Hid (((W.drew.alloc (.cells #[.int .i64 ((s : Int) + (p : Int))] 3)).alloc (.cells #[] 3)).ownsRow W.heap.size 3 1 (.slice (some ⟨W.heap.size + 1, 0, none⟩) 0 0) 0 []) := Lib.hid (by have := row_new (W.drew.alloc (.cells #[.int .i64 ((s : Int) + (p : Int))] 3)) 3; rw [hs1] at this; exact ownsRow_mono this (by omega))
          have N2 : Hid (Below W.heap.size W ((W.drew.alloc (.cells #[.int .i64 ((s : Int) + (p : Int))] 3)).alloc (.cells #[] 3))) := Lib.hid (N1.out.alloc N1.out.size _)
          have I2 : Hid (IntsM ((W.drew.alloc (.cells #[.int .i64 ((s : Int) + (p : Int))] 3)).alloc (.cells #[] 3)) (.slice (some ⟨W.heap.size, 0, none⟩) 1 1) [((s : Int) + (p : Int))]) := Lib.hid (I1.out.below (below_x1 _ _))
          refine Mx.mid_normal (fun _ => regrown_of_below N2.out) ?_
          show Mx.wpMix _ _ _ _ _ _ ((W.drew.alloc (.cells #[.int .i64 ((s : Int) + (p : Int))] 3)).alloc (.cells #[] 3))
          generalize (W.drew.alloc (.cells #[.int .i64 ((s : Int) + (p : Int))] 3)).alloc (.cells #[] 3) = w2 at N2 I2 R2 ⊢
          generalize (Value.slice (some ⟨W.heap.size, 0, none⟩) 1 1) = u3 at I2 hu3b ⊢
          have HB3 := Lib.hid hu3b
          clear I1 N1 hu3b hs1
          refine Mx.mix2 rfl ?_
          refine append_ints hi hz0 hz1 hz2 rfl _ _ rfl W.heap.size _ [] rfl R2.out _ ys rfl (HMW.out _ N2.out) N2.out.size (by first | omega | simp) (by first | omega | simp) ?_
          intro v3 w3 hown hg
          have N3 : Hid (Below W.heap.size W w3) := Lib.hid (N2.out.grown hg N2.out.size (fun j hj => row_ge R2.out hj))
          have I3 := Lib.hid (ints_grown I2.out hg HB3.out)
          have R3 := Lib.hid hown
          clear hown hg N2 R2 I2 HB3
          go_wp2
          refine Mx.mid_normal (fun _ => regrown_of_below N3.out) ?_
          refine Mx.mix3 rfl ?_
        all_goals
          refine append_ints hi hz0 hz1 hz2 rfl _ _ rfl W.heap.size _ ys rfl R3.out _ [((s : Int) + (p : Int))] rfl I3.out N3.out.size (by first | omega | simp) (by first | omega | simp) ?_
          intro v4 w4 hown hg
          have N4 : Hid (Below W.heap.size W w4) := Lib.hid (N3.out.grown hg N3.out.size (fun j hj => row_ge R3.out hj))
          have R4 := Lib.hid (ownsRow_mono hown HBW.out.size)
          clear hown hg N3 R3 I3
          go_wp2
          refine Mx.mid_normal (fun q => by cases q) ?_
          repeat ((first | refine Mx.mix0 rfl ?_ | refine Mx.mix1 rfl ?_); go_big_quiet_step (fail); refine wpQuiet_nil ?_)
          refine Mx.mix_nil ?_
          go_wp2; go_ret2; rw [HV2.out]; exact ⟨⟨_, rfl, rowInts_at R4.out⟩, HBW.out.trans (N4.out.mono HBW.out.size)⟩
      · rw [hb] at hand hB0
        simp only [if_true] at hand
        rw [Bool.not_true] at hB0
        subst hB0
        rw [if_neg (by simp)] at HV
        have hne2 : ((p : Int) == 0) = false := by rw [beq_eq_false_iff_ne]; omega
        clear hb
        go_enter Tryz.func60, Tryz.ntmps60
        go_wp2_with fail
        refine (C1.out _ (HI2.out.below BX.out).at).mono ?_
        rintro e w1 ⟨rfl, rfl⟩
        go_wp2_with fail
        refine (C2.out _).mono ?_
        rintro e W ⟨rfl, hb⟩
        have HBW := Lib.hid (below_new hb)
        have X2 := Lib.hid (BoxA.new hb)
        clear hb
        obtain ⟨_, q0, q1⟩ := X2.out
        have c1 : W.cell? ⟨bk, o + m, none⟩ = some (.int .i64 s) := (HBW.out.cell (p := ⟨bk, o + m, none⟩) hbk).trans c0
        clear c0
        go_wp2
        go_ret2
        rw [HV.out]
        exact ⟨outE_nil _ _ _, HBW.out⟩
end Go.Proofs.YtjmiackiikbodaaGreat

namespace Go.Proofs.YtjmiackiikbodaaGreat
set_option maxRecDepth 100000
open Go.RowKit

theorem ownI_mono {w : World} {b b' : Nat} {v : Value} {n : Nat} {f : Nat → Int} (h : OwnInts w b v n f) (hb : b' ≤ b) : OwnInts w b' v n f := by
  rcases h with h | ⟨g, cap, hv, hc, hg, rest⟩
  · exact .inl h
  · exact .inr ⟨g, cap, hv, hc, Nat.le_trans hb hg, rest⟩
/-- The library's copy of a slice of ints. -/
theorem cloneI_any (u : Value) (xs : List Int) (w : World) (h : IntsAt w u xs) (h0 : 0 < xs.length) (hn : xs.length ≤ 2097152) :
    Calls Tryz.prog 54 #[u] w fun e w' => (∃ v, e = .returned v ∧ OwnInts w' w.heap.size v xs.length (fun j => xs.getD j 0)) ∧ Below w.heap.size w w' := by
  obtain ⟨bk, o, cap, rfl, hc, hk, hcell⟩ := h.block h0
  refine (Tryz.slices_Clone_int bk o xs.length cap xs w (Nat.le_refl _) (by omega) (fun j hj => ?_)).mono ?_
  · rw [hcell j _ (List.getElem?_eq_getElem hj)]; simp [List.getD, List.getElem?_eq_getElem hj]
  · rintro e w' ⟨v, rfl, hown, _, hb⟩
    rw [List.take_length] at hown
    exact ⟨⟨v, rfl, ownInts_of hown⟩, hb⟩
theorem withoutKey_any (s q : Nat) (hs0 : 1 ≤ s) (hs : s < 8388608) (hq : q ≤ 22) (w : World) :
    Calls Tryz.prog 74 #[.int .i64 s, .int .i64 ((2 ^ q : Nat) : Int)] w fun e w' => e = .returned (.tuple #[.int .i64 ((if s.testBit q then s - 2 ^ q else s : Nat) : Int), .bool (s.testBit q && !decide (s = 2 ^ q))]) ∧ w = w' := by
  have hp0 := pow_22 hq
  have hp1 : 0 < 2 ^ q := Nat.two_pow_pos q
  have hand := andNot_i64 s q hs hq
  have hle : s.testBit q = true → 2 ^ q ≤ s := fun h => Nat.ge_two_pow_of_testBit h
  have CS := Lib.hid (fun s w => isStroke_any s w)
  obtain ⟨p, hp⟩ : ∃ p, p = 2 ^ q := ⟨_, rfl⟩
  rw [← hp] at hp0 hp1 hand hle ⊢
  clear hp
  cases hb : s.testBit q
  · rw [hb] at hand
    simp only [Bool.false_eq_true, if_false] at hand ⊢
    clear hle hb
    go_enter Tryz.func74, Tryz.ntmps74
    go_wp2
    go_ret2
    exact ⟨rfl, rfl⟩
  · rw [hb] at hand
    simp only [if_true] at hand ⊢
    have hle2 := hle hb
    have cs := fun w => CS.out ((s - p : Nat) : Int) w
    have ho : okS ((s - p : Nat) : Int) = !decide (s = p) := by
      by_cases e : s = p
      · rw [okS_no (by omega), decide_eq_true e]; rfl
      · rw [okS_yes ⟨by omega, by omega⟩, decide_eq_false e]; rfl
    rw [ho] at cs
    have CS2 := Lib.hid cs
    have hne : (((s - p : Nat) : Int) != (s : Int)) = true := by rw [bne_iff_ne]; omega
    clear cs ho hle hb CS
    go_enter Tryz.func74, Tryz.ntmps74
    go_wp2_with fail
    refine (CS2.out _).mono ?_
    rintro e w1 ⟨rfl, rfl⟩
    go_wp2
    go_ret2
    exact ⟨rfl, rfl⟩
theorem withKey_any (s q : Nat) (_hs0 : 1 ≤ s) (hs : s < 8388608) (hq : q ≤ 22) (w : World) :
    Calls Tryz.prog 94 #[.int .i64 s, .int .i64 ((2 ^ q : Nat) : Int)] w fun e w' => e = .returned (.tuple #[.int .i64 ((s ||| 2 ^ q : Nat) : Int), .bool (!s.testBit q)]) ∧ w = w' := by
  have hp0 := pow_22 hq
  have hp1 : 0 < 2 ^ q := Nat.two_pow_pos q
  have hand := and_i64 s (2 ^ q) (by omega) (by omega)
  have hor := or_i64s s (2 ^ q) hs hp0
  rw [Pl.and_two] at hand
  obtain ⟨p, hp⟩ : ∃ p, p = 2 ^ q := ⟨_, rfl⟩
  rw [← hp] at hp0 hp1 hand hor ⊢
  clear hp
  cases hb : s.testBit q
  · rw [hb] at hand
    simp only [Bool.false_eq_true, if_false] at hand
    clear hb
    go_enter Tryz.func94, Tryz.ntmps94
    go_wp2
    go_ret2
    exact ⟨rfl, rfl⟩
  · rw [hb] at hand
    simp only [if_true] at hand
    have hne : ((p : Int) == 0) = false := by rw [beq_eq_false_iff_ne]; omega
    clear hb
    go_enter Tryz.func94, Tryz.ntmps94
    go_wp2
    go_ret2
    exact ⟨rfl, rfl⟩
def chB (cb : Nat → Nat → Bool) (xs : List Int) (k : Int) (t : ByteArray) : Bool := (okO xs && Pl.okF (k, t)) && cb (lastN xs) k.toNat
def chI (c : Nat → Nat → Nat) (cb : Nat → Nat → Bool) (xs : List Int) (k : Int) (t : ByteArray) : List Int := if chB cb xs k t = true then xs.dropLast ++ [((c (lastN xs) k.toNat : Nat) : Int)] else []
theorem ch_no {c : Nat → Nat → Nat} {cb : Nat → Nat → Bool} {xs : List Int} {k : Int} {t : ByteArray} (h : okO xs = false ∨ Pl.okF (k, t) = false) : chB cb xs k t = false ∧ chI c cb xs k t = [] := by
  have : chB cb xs k t = false := by unfold chB; rcases h with h | h <;> simp [h]
  exact ⟨this, by unfold chI; rw [this]; rfl⟩
theorem OwnInts.last {w : World} {base : Nat} {g cap : Nat} {ys : List Int} {x : Int} (hc : ys.length + 1 ≤ cap) (hg : base ≤ g) (hlt : g < w.heap.size) (hcell : ∀ j, j < ys.length + 1 → w.cell? ⟨g, j, none⟩ = some (.int .i64 ((ys ++ [x]).getD j 0))) (hf : ∀ j, w.frozen? ⟨g, j, none⟩ = false) (y : Int) :
    OwnInts (w.setCell ⟨g, ys.length, none⟩ (.int .i64 y)) base (.slice (some ⟨g, 0, none⟩) (ys.length + 1) cap) (ys ++ [y]).length (fun j => (ys ++ [y]).getD j 0) := by
  have hl : (ys ++ [y]).length = ys.length + 1 := by simp
  rw [hl]
  refine .inr ⟨g, cap, rfl, hc, hg, by omega, by rw [World.size_setCell]; exact hlt, fun j hj => ?_, fun j => by rw [World.frozen?_setCell]; exact hf j⟩
  by_cases hjl : j = ys.length
  · subst hjl
    rw [World.cell?_setCell_same _ _ _ (hcell _ (by omega))]
    simp [List.getD]
  · rw [World.cell?_setCell_other _ _ _ _ (by intro e; injection e; omega), hcell j hj]
    have hj2 : j < ys.length := by omega
    simp [List.getD, List.getElem?_append_left hj2]
set_option maxHeartbeats 1000000 in
theorem changeLast_any (fn : FuncId) (hcall : ∀ args w, (callFunc fn args).run Tryz.prog w = .ok (.enter fn args) w) (c : Nat → Nat → Nat) (cb : Nat → Nat → Bool)
    (hC : ∀ s q : Nat, 1 ≤ s → s < 8388608 → q ≤ 22 → ∀ w, Calls Tryz.prog fn #[.int .i64 s, .int .i64 ((2 ^ q : Nat) : Int)] w fun e w' => e = .returned (.tuple #[.int .i64 ((c s q : Nat) : Int), .bool (cb s q)]) ∧ w = w')
    (v : Value) (xs : List Int) (k : Int) (t : ByteArray) (w : World) (h : IntsAt w v xs) (hn : xs.length ≤ 2097152) (ht : t.size ≤ 1048576) :
    Calls Tryz.prog 73 #[v, atV k t, .func (.func fn) #[] #[]] w fun e w' => OutO w.heap.size w' (chI c cb xs k t) (chB cb xs k t) e ∧ Below w.heap.size w w' := by
  have CX := fun w' h => Valid_any v xs w' h hn
  have CF := fun w => isValidF_any k t w (by unfold maxLen; omega)
  have HI := Lib.hid h
  cases hx : okO xs
  · obtain ⟨a, cap, rfl, hcap, _⟩ := h.cells
    rw [(ch_no (c := c) (.inl hx)).1, (ch_no (.inl hx)).2]
    rw [hx] at CX
    have C1 := Lib.hid CX
    clear h CX CF hx
    go_enter Tryz.func73, Tryz.ntmps73
    go_wp2_with fail
    refine (C1.out _ (HI.out.below (below_x1 _ _))).mono ?_
    rintro e w1 ⟨rfl, rfl⟩
    go_wp2
    go_ret2
    exact ⟨outO_nil _ _ _ _, below_x1 _ _⟩
  · rw [hx] at CX
    have C1 := Lib.hid CX
    cases hf : Pl.okF (k, t)
    · obtain ⟨a, cap, rfl, hcap, _⟩ := h.cells
      rw [(ch_no (c := c) (.inr hf)).1, (ch_no (.inr hf)).2]
      rw [hf] at CF
      have C2 := Lib.hid CF
      clear h CX CF hx hf
      go_enter Tryz.func73, Tryz.ntmps73
      go_wp2_with fail
      refine (C1.out _ (HI.out.below (below_x1 _ _))).mono ?_
      rintro e w1 ⟨rfl, rfl⟩
      go_wp2_with fail
      refine (C2.out _).mono ?_
      rintro e w2 ⟨rfl, hb⟩
      have B2 := Lib.hid (below_new hb)
      clear hb
      go_wp2
      go_ret2
      exact ⟨outO_nil _ _ _ _, B2.out⟩
    · rw [hf] at CF
      have C2 := Lib.hid CF
      have hB0 : chB cb xs k t = cb (lastN xs) k.toNat := by unfold chB; rw [hx, hf]; rfl
      obtain ⟨⟨q, hq, hq0, hq1⟩, _⟩ := Pl.okF_parts hf
      dsimp only at hq
      subst hq
      rw [Int.toNat_natCast] at hB0
      obtain ⟨ys, s, rfl, hs0, hs1, hyl, _⟩ := okO_snoc hx
      rw [lastN_snoc] at hB0
      have CC := Lib.hid (fun w => hC s q hs0 hs1 hq1 w)
      have HK := Lib.hid (fun u w' h => cloneI_any u (ys ++ [(s : Int)]) w' h (by simp) hn)
      have HV : Hid (chI c cb (ys ++ [(s : Int)]) (q : Int) t = if chB cb (ys ++ [(s : Int)]) (q : Int) t = true then ys ++ [((c s q : Nat) : Int)] else []) := by
        show _ = _
        unfold chI
        rw [lastN_snoc, List.dropLast_concat, Int.toNat_natCast]
      obtain ⟨zs, hzs⟩ : ∃ zs, zs = chI c cb (ys ++ [(s : Int)]) (q : Int) t := ⟨_, rfl⟩
      obtain ⟨b, hbe⟩ : ∃ b, b = chB cb (ys ++ [(s : Int)]) (q : Int) t := ⟨_, rfl⟩
      rw [← hzs, ← hbe] at HV ⊢
      rw [← hbe] at hB0
      rw [← hB0] at CC
      obtain ⟨r, hr⟩ : ∃ r, r = c s q := ⟨_, rfl⟩
      rw [← hr] at CC HV
      obtain ⟨bk, o, cap, rfl, hcap, hbk, hcell⟩ := h.block (by simp)
      have c0 := hcell ys.length (s : Int) (by simp)
      have hlen : (ys ++ [(s : Int)]).length = ys.length + 1 := by simp
      have HI2 : Hid (IntsAt w (.slice (some ⟨bk, o, none⟩) (ys.length + 1) cap) (ys ++ [(s : Int)])) := Lib.hid (by have := HI.out; rw [hlen] at this; exact this)
      rw [hlen] at hcap
      simp only [hlen] at C1 HK
      rw [hlen]
      have hsh := shl_i64' q (by omega)
      have hyl5 : ys.length ≤ 5 := hyl
      have BX := Lib.hid (below_x1 w (.cells #[.int .i64 (q : Int), .string t] 61))
      obtain ⟨p, hp⟩ : ∃ p, p = 2 ^ q := ⟨_, rfl⟩
      rw [← hp] at hsh CC
      obtain ⟨m, hmm⟩ : ∃ m, m = ys.length := ⟨_, rfl⟩
      have HMm := Lib.hid hmm
      rw [← hmm] at c0 hcap hyl HI2 C1 HK ⊢
      clear h HI CX CF hx hf hcell hlen hmm hp hzs hbe hB0 hr hC hn
      go_enter Tryz.func73, Tryz.ntmps73
      go_wp2_with fail
      refine (C1.out _ (HI2.out.below BX.out)).mono ?_
      rintro e w1 ⟨rfl, rfl⟩
      go_wp2_with fail
      refine (C2.out _).mono ?_
      rintro e W ⟨rfl, hb⟩
      have HBW := Lib.hid (below_new hb)
      have X2 := Lib.hid (BoxA.new hb)
      clear hb
      obtain ⟨_, q0, q1⟩ := X2.out
      have c1 : W.cell? ⟨bk, o + m, none⟩ = some (.int .i64 s) := (HBW.out.cell (p := ⟨bk, o + m, none⟩) hbk).trans c0
      have kc := cell_regrown c1
      have kq := cell_regrown q0
      clear c0
      go_wp2_with fail
      refine Mx.wp_region_mixed (Mx.ofL [(0, 0), (1, 0), (2, 0), (3, 0), (4, 1), (5, 0), (6, 1), (7, 0), (8, 3), (9, 0), (10, 0), (11, 0), (12, 0), (13, 0)] .done) (by kernel_rfl) (by kernel_rfl) ?_
      repeat ((first | refine Mx.mix0 rfl ?_ | refine Mx.mix1 rfl ?_); go_big_quiet_step (fail); refine wpQuiet_nil ?_)
      refine Mx.mix3 rfl ?_
      go_wp2_with fail
      refine (show Calls _ fn #[.int .i64 s, .int .i64 (p : Int)] _ _ from CC.out _).mono ?_
      rintro e w3 ⟨rfl, rfl⟩
      go_wp2
      refine Mx.mid_normal (fun q => by cases q) ?_
      repeat ((first | refine Mx.mix0 rfl ?_ | refine Mx.mix1 rfl ?_); go_big_quiet_step (fail); refine wpQuiet_nil ?_)
      refine Mx.mix_nil ?_
      have HBD : Hid (Below w.heap.size w W.drew) := Lib.hid (below_drewF HBW.out 1)
      cases b
      · rw [if_neg (by simp)] at HV
        go_wp2
        go_ret2
        rw [HV.out]
        exact ⟨outO_nil _ _ _ _, HBD.out⟩
      · rw [if_pos rfl] at HV
        clear kc kq q0 q1 c1 X2
        go_wp2_with fail
        refine (HK.out _ _ (HI2.out.below HBD.out)).mono ?_
        rintro e w4 ⟨⟨u, rfl, hu⟩, hb⟩
        have HB4 := Lib.hid (HBD.out.trans (hb.mono HBD.out.size))
        rcases hu with ⟨h0, _⟩ | ⟨g, gc, rfl, hgc, hgb, _, hgl, hgcell, hgf⟩
        · omega
        have HL4 := Lib.hid (fun y => OwnInts.last (base := w.heap.size) (w := w4) (g := g) (cap := gc) (ys := ys) (x := (s : Int)) (by rw [← HMm.out]; exact hgc) (Nat.le_trans HBD.out.size hgb) hgl (by rw [← HMm.out]; exact hgcell) hgf y)
        have HB5 := Lib.hid (fun y => HB4.out.setCell (p := ⟨g, m, none⟩) (Nat.le_trans HBD.out.size hgb) (.int .i64 y))
        have hg1 := hgcell m (by omega)
        have hg2 := hgf m
        rw [← HMm.out] at HL4
        clear hb hgcell hgf
        go_wp2
        go_ret2
        rw [HV.out]
        exact ⟨⟨_, rfl, HL4.out _⟩, HB5.out _⟩
theorem Unfold_any (v : Value) (xs : List Int) (k : Int) (t : ByteArray) (w : World) (h : IntsM w v xs) (hn : xs.length ≤ 2097152) (ht : t.size ≤ 1048576) :
    Calls Tryz.prog 31 #[v, atV k t] w fun e w' => OutO w.heap.size w' (unfI xs k t) (unfB xs k t) e ∧ Below w.heap.size w w' := by
  have cc := fun w' h => changeLast_any 74 (fun args w => by first | rfl | kernel_rfl) (fun s q => if s.testBit q then s - 2 ^ q else s) (fun s q => s.testBit q && !decide (s = 2 ^ q)) (fun s q h0 h1 h2 w => withoutKey_any s q h0 h1 h2 w) v xs k t w' h hn ht
  have hB : chB (fun s q => s.testBit q && !decide (s = 2 ^ q)) xs k t = unfB xs k t := rfl
  have hI : chI (fun s q => if s.testBit q then s - 2 ^ q else s) (fun s q => s.testBit q && !decide (s = 2 ^ q)) xs k t = unfI xs k t := by
    unfold chI unfI
    rw [hB]
    by_cases hb : unfB xs k t = true
    · rw [if_pos hb, if_pos hb]
      have : (lastN xs).testBit k.toNat = true := by
        unfold unfB un0B at hb
        simp only [Bool.and_eq_true] at hb
        exact hb.2.1
      simp only [this, if_true]
    · rw [if_neg hb, if_neg hb]
  rw [hB, hI] at cc
  have C := Lib.hid cc
  unfold OutO at C ⊢
  obtain ⟨a, cap, rfl, hcap, _⟩ := h.at.cells
  have HI := Lib.hid h.at
  clear cc hB hI h
  go_enter Tryz.func31, Tryz.ntmps31
  go_wp2_with fail
  refine (C.out _ (HI.out.below (below_x1 _ _))).mono ?_
  rintro e w1 ⟨⟨u, rfl, hu⟩, hb⟩
  have HB := Lib.hid (below_new hb)
  have HU : Hid (OwnInts w1 w.heap.size u (unfI xs k t).length (fun j => (unfI xs k t).getD j 0)) := Lib.hid (ownI_mono hu (by simp))
  clear hb hu
  go_wp2
  go_ret2
  exact ⟨⟨_, rfl, HU.out⟩, HB.out⟩
theorem FoldInto_any (v : Value) (xs : List Int) (k : Int) (t : ByteArray) (w : World) (h : IntsM w v xs) (hn : xs.length ≤ 2097152) (ht : t.size ≤ 1048576) :
    Calls Tryz.prog 63 #[v, atV k t] w fun e w' => OutO w.heap.size w' (intI xs k t) (intB xs k t) e ∧ Below w.heap.size w w' := by
  have cc := fun w' h => changeLast_any 94 (fun args w => by first | rfl | kernel_rfl) (fun s q => s ||| 2 ^ q) (fun s q => !s.testBit q) (fun s q h0 h1 h2 w => withKey_any s q h0 h1 h2 w) v xs k t w' h hn ht
  have hB : chB (fun s q => !s.testBit q) xs k t = intB xs k t := rfl
  have hI : chI (fun s q => s ||| 2 ^ q) (fun s q => !s.testBit q) xs k t = intI xs k t := by
    unfold chI intI
    rw [hB]
    by_cases hb : intB xs k t = true
    · rw [if_pos hb, if_pos hb]
      unfold intB at hb
      simp only [Bool.and_eq_true, Bool.not_eq_true'] at hb
      obtain ⟨⟨h1, h2⟩, h3⟩ := hb
      obtain ⟨⟨q, hq, hq0, hq1⟩, _⟩ := Pl.okF_parts h2
      dsimp only at hq
      subst hq
      obtain ⟨ys, s, rfl, hs0, hs1, _⟩ := okO_snoc h1
      rw [lastN_snoc, Int.toNat_natCast] at *
      dsimp only
      rw [Pl.or_two (by omega) (by omega) h3]
    · rw [if_neg hb, if_neg hb]
  rw [hB, hI] at cc
  have C := Lib.hid cc
  unfold OutO at C ⊢
  obtain ⟨a, cap, rfl, hcap, _⟩ := h.at.cells
  have HI := Lib.hid h.at
  clear cc hB hI h
  go_enter Tryz.func63, Tryz.ntmps63
  go_wp2_with fail
  refine (C.out _ (HI.out.below (below_x1 _ _))).mono ?_
  rintro e w1 ⟨⟨u, rfl, hu⟩, hb⟩
  have HB := Lib.hid (below_new hb)
  have HU : Hid (OwnInts w1 w.heap.size u (intI xs k t).length (fun j => (intI xs k t).getD j 0)) := Lib.hid (ownI_mono hu (by simp))
  clear hb hu
  go_wp2
  go_ret2
  exact ⟨⟨_, rfl, HU.out⟩, HB.out⟩
end Go.Proofs.YtjmiackiikbodaaGreat
