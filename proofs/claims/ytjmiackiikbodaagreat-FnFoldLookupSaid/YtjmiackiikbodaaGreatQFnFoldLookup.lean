/-
  laws.FnFoldLookup returns true whatever the code: an explicit entry takes precedence over folds, and a folded translation consists of the base translation and the suffix, at all that the code draws. Conditions: none but the row's own.
-/
import Derived.Test.YtjmiackiikbodaaGreatProg
import Derived.Test.YtjmiackiikbodaaGreatAid
import Derived.Test.YtjmiackiikbodaaGreatUnfI
import Derived.Test.YtjmiackiikbodaaGreatFdT
import Derived.Test.YtjmiackiikbodaaGreatImpl6E
import Derived.Test.YtjmiackiikbodaaGreatDictL
import Derived.Deep.RegionHeld3
import Derived.Test.YtjmiackiikbodaaGreatFd
import Derived.Test.YtjmiackiikbodaaGreatDrawR
import Derived.Laws.AppendOwn
import Derived.Test.YtjmiackiikbodaaGreatOut
import Derived.Test.YtjmiackiikbodaaGreatDraw
import Derived.Test.YtjmiackiikbodaaGreatRows
import Derived.WalkKit
import Derived.ProofKit
import Derived.OpenShut
import Derived.ShutString
import Derived.ChangeOld
import Derived.Below
import Derived.SliceStrings
import Derived.JoinedCond
import Derived.Deep.DeepHandedRow
import Derived.Deep.DeepWitnessRowRef
import Derived.Lib.Hide
namespace Go.Proofs.YtjmiackiikbodaaGreat
set_option maxRecDepth 100000
open Go.RowKit
end Go.Proofs.YtjmiackiikbodaaGreat

namespace Go.Proofs.YtjmiackiikbodaaGreat
set_option maxRecDepth 100000
open Go.RowKit

/-! ### Plain -/
/-- The entry to which the fold unfolds the outline. -/
def unL (es : List Ent) (xs : List Int) (f : Atm) : Option ByteArray := if unfB xs f.1 f.2 = true then Pl.look (unfI xs f.1 f.2) es else none
def fd1 (es : List Ent) (xs : List Int) (f : Atm) : Option ByteArray :=
  match unL es xs f with
  | some t => if fdB t f.1 f.2 = true then some (fdT t f.1 f.2) else none
  | none => none
def fdFind (es : List Ent) (xs : List Int) : Nat → List Atm → Option (ByteArray × Int)
  | _, [] => none
  | i, f :: r => match fd1 es xs f with | some t => some (t, (i : Int)) | none => fdFind es xs (i + 1) r
def lfX (es : List Ent) (fs : List Atm) (xs : List Int) : Option (ByteArray × Int) := match Pl.look xs es with | some t => some (t, -1) | none => fdFind es xs 0 fs
def lfR (es : List Ent) (fs : List Atm) (xs : List Int) : Option (ByteArray × Int) := if (okD es && Pl.okFs fs) = true then lfX es fs xs else none
def lfE (x : Option (ByteArray × Int)) : Ending := .returned (.tuple #[.string ((x.map (·.1)).getD ⟨#[]⟩), .int .i64 ((x.map (·.2)).getD 0), .bool x.isSome])
theorem lfE_none : lfE none = .returned (.tuple #[.string ⟨#[]⟩, .int .i64 0, .bool false]) := rfl
theorem lfE_some (t : ByteArray) (i : Int) : lfE (some (t, i)) = .returned (.tuple #[.string t, .int .i64 i, .bool true]) := rfl
theorem lfX_some {es : List Ent} {fs : List Atm} {xs : List Int} {t : ByteArray} (h : Pl.look xs es = some t) : lfX es fs xs = some (t, -1) := by unfold lfX; rw [h]
theorem lfX_none {es : List Ent} {fs : List Atm} {xs : List Int} (h : Pl.look xs es = none) : lfX es fs xs = fdFind es xs 0 fs := by unfold lfX; rw [h]
theorem lfR_no {es : List Ent} {fs : List Atm} {xs : List Int} (h : (okD es && Pl.okFs fs) = false) : lfR es fs xs = none := by unfold lfR; rw [h]; rfl
theorem lfR_yes {es : List Ent} {fs : List Atm} {xs : List Int} (h : (okD es && Pl.okFs fs) = true) : lfR es fs xs = lfX es fs xs := by unfold lfR; rw [if_pos h]
theorem fdFind_next {es : List Ent} {xs : List Int} {fs : List Atm} {k : Nat} {f : Atm} (h : fs[k]? = some f) : fdFind es xs k (fs.drop k) = match fd1 es xs f with | some t => some (t, (k : Int)) | none => fdFind es xs (k + 1) (fs.drop (k + 1)) := by
  obtain ⟨hl, he⟩ := List.getElem?_eq_some_iff.1 h
  rw [List.drop_eq_getElem_cons hl, he]
  rfl
theorem fdFind_none {es : List Ent} {xs : List Int} : ∀ (fs : List Atm) (i : Nat), (∀ f ∈ fs, fd1 es xs f = none) → fdFind es xs i fs = none
  | [], _, _ => rfl
  | f :: r, i, h => by
    unfold fdFind
    rw [h f (List.mem_cons_self ..)]
    exact fdFind_none r (i + 1) fun g hg => h g (List.mem_cons_of_mem _ hg)
theorem fd1_un {es : List Ent} {xs : List Int} {f : Atm} (h : unL es xs f = none) : fd1 es xs f = none := by unfold fd1; rw [h]
theorem fd1_no {es : List Ent} {xs : List Int} {f : Atm} {t : ByteArray} (h : unL es xs f = some t) (h' : fdB t f.1 f.2 = false) : fd1 es xs f = none := by unfold fd1; rw [h]; simp [h']
theorem fd1_yes {es : List Ent} {xs : List Int} {f : Atm} {t : ByteArray} (h : unL es xs f = some t) (h' : fdB t f.1 f.2 = true) : fd1 es xs f = some (fdT t f.1 f.2) := by unfold fd1; rw [h]; simp [h']
theorem unL_bad {es : List Ent} {xs : List Int} {f : Atm} (h : unfB xs f.1 f.2 = false) : unL es xs f = none := by unfold unL; rw [h]; rfl
/-- No outline, no answer. -/
theorem lfX_bad {es : List Ent} {fs : List Atm} {xs : List Int} (h : okD es = true) (hx : okO xs = false) : lfX es fs xs = none := by
  rw [lfX_none (look_bad h hx)]
  exact fdFind_none fs 0 fun f _ => fd1_un (unL_bad (unf_no (.inl hx)).1)
theorem lkE_none : lkE none = .returned (.tuple #[.string ⟨#[]⟩, .bool false]) := rfl
theorem lkE_some (t : ByteArray) : lkE (some t) = .returned (.tuple #[.string t, .bool true]) := rfl
theorem OwnInts.m {w : World} {base : Nat} {v : Value} {xs : List Int} (h : OwnInts w base v xs.length (fun j => xs.getD j 0)) (h0 : 0 < xs.length) : IntsM w v xs := by
  obtain ⟨bk, o, cap, rfl, hc, hk, hcell⟩ := h.ints.block h0
  exact .inr ⟨bk, o, cap, rfl, hc, hk, hcell⟩
theorem look_size {es : List Ent} (h : okD es = true) {o : List Int} {t : ByteArray} (ht : Pl.look o es = some t) : t.size ≤ 60 := by
  unfold Pl.look at ht
  obtain ⟨x, hx, rfl⟩ := Option.map_eq_some_iff.1 ht
  exact (okE_size ((okD_parts h).2.1 x (List.mem_of_find?_eq_some hx))).2.2

/-! ### The program's -/
set_option maxHeartbeats 2000000 in
theorem unfoldD_any (b : Nat) (es : List Ent) (fv u : Value) (xs : List Int) (k : Int) (t : ByteArray) (w : World) (hm : MapB w b es) (hok : okD es = true) (hu : IntsM w u xs) (hn : xs.length ≤ 2097152) (ht : t.size ≤ 1048576) :
    Calls Tryz.prog 52 #[.agg #[.map (some b), fv], u, atV k t] w fun r w' => r = lkE (unL es xs (k, t)) ∧ Below w.heap.size w w' := by
  have cu := fun w' h => Unfold_any u xs k t w' h hn ht
  unfold OutO at cu
  have HU := Lib.hid hu
  have HM := Lib.hid hm
  have BX := Lib.hid (below_x2 w (.cells #[.map (some b), fv] 78) (.cells #[.int .i64 k, .string t] 61))
  cases hb : unfB xs k t
  · rw [hb] at cu
    rw [unL_bad hb, lkE_none]
    have C := Lib.hid cu
    clear cu hb hm hu
    go_enter Tryz.func52, Tryz.ntmps52
    go_wp2_with fail
    refine (C.out _ (HU.out.below BX.out)).mono ?_
    rintro r w1 ⟨⟨g, rfl, _⟩, hb⟩
    have B1 := Lib.hid (BX.out.trans (hb.mono BX.out.size))
    clear hb
    go_wp2
    go_ret2
    exact ⟨rfl, B1.out⟩
  · rw [hb] at cu
    have hl : unL es xs (k, t) = Pl.look (unfI xs k t) es := by unfold unL; rw [hb]; rfl
    rw [hl]
    obtain ⟨zs, hzs⟩ : ∃ zs, zs = unfI xs k t := ⟨_, rfl⟩
    have hzl : zs.length ≤ 6 := by rw [hzs]; exact unfI_len _ _ _
    rw [← hzs] at cu ⊢
    have C := Lib.hid cu
    have CK := Lib.hid (fun v w' h => keyOf_any v zs w' h (by omega))
    have hkey := kl_at (kyOk_key zs)
    obtain ⟨hl1, hl2⟩ := mapD_look (keyL zs) (kyOk_key zs) es
    rw [lastT_key hok] at hl1 hl2
    obtain ⟨x, hx'⟩ : ∃ x, x = Pl.look zs es := ⟨_, rfl⟩
    rw [← hx'] at hl1 hl2 ⊢
    rw [lookE]
    obtain ⟨K, hK⟩ : ∃ K, K = keyL zs := ⟨_, rfl⟩
    rw [← hK] at CK hkey hl1 hl2
    have HL1 := Lib.hid hl1
    have HL2 := Lib.hid hl2
    have HKy := Lib.hid hkey
    clear cu hb hm hu hl hzs hzl hx' hK hl1 hl2 hkey hn ht
    go_enter Tryz.func52, Tryz.ntmps52
    go_wp2_with fail
    refine (C.out _ (HU.out.below BX.out)).mono ?_
    rintro r w1 ⟨⟨g, rfl, hg⟩, hb⟩
    have B1 := Lib.hid (BX.out.trans (hb.mono BX.out.size))
    have HM1 := Lib.hid (HM.out.below B1.out)
    have HG := Lib.hid hg.ints
    have q0 : w1.cell? ⟨w.heap.size, 0, none⟩ = some (.map (some b)) := (hb.cell (p := ⟨w.heap.size, 0, none⟩) (by simp; omega)).trans (by simp)
    have k0 := cell_regrown q0
    clear hb hg
    go_wp2_with fail
    refine Mx.wp_region_mixed (Mx.ofL [(0, 0), (1, 1), (2, 0), (3, 2), (4, 3), (5, 0), (6, 0), (7, 0), (8, 0), (9, 0)] .done) (by kernel_rfl) (by kernel_rfl) ?_
    repeat ((first | refine Mx.mix0 rfl ?_ | refine Mx.mix1 rfl ?_); go_big_quiet_step (fail); refine wpQuiet_nil ?_)
    refine Mx.mix2 rfl ?_
    go_wp2_with fail
    refine (CK.out _ _ (HG.out.below (below_drewF (Below.refl _ _) 1))).mono ?_
    rintro r w2 ⟨rfl, hb⟩
    have G2 : Hid (Below w1.heap.size w1 w2) := Lib.hid ((below_drewF (Below.refl _ _) 1).trans hb)
    have HM2 : Hid (w2.ownsMap Tryz.prog 95 (plainElem Tryz.prog 9) b es.length (mapD es)) := MapB.below HM1.out G2.out
    have B2 := Lib.hid (B1.out.trans (G2.out.mono B1.out.size))
    clear hb q0 k0 HM1 HG
    go_wp2
    refine Mx.mid_normal (fun _ => regrown_of_below G2.out) ?_
    refine Mx.mix3 rfl ?_
    go_wp2_with (at_lookup; refine wpList_lookup_own_ok _ rfl _ _ 76 rfl 95 9 lawK Tryz.underlying76 _ (zeroS _) (litT ByteArray.empty) [] (plainElem_string Tryz.underlying9 (by decide)) b es.length (mapD es) rfl HM2.out _ (KL K) rfl HKy.out ?_)
    intro v ps hv
    have hv2 : v = .string (x.getD ByteArray.empty) := by
      rw [HL2.out] at hv
      obtain ⟨s, rfl, h1, _⟩ := plainElem_string_inv Tryz.underlying9 hv
      have h2 := congrArg Prod.fst h1
      cases x with
      | none => simp only [litT] at h2; have h2 := Lit.string.inj (DataW.lit.inj h2); exact congrArg Value.string (ByteArray.ext (Array.toList_inj.1 h2)).symm
      | some t => simp only [litT] at h2; have h2 := Lit.string.inj (DataW.lit.inj h2); exact congrArg Value.string (ByteArray.ext (Array.toList_inj.1 h2)).symm
    subst hv2
    rw [HL1.out]
    clear hv HM2
    go_wp2
    refine Mx.mid_normal (fun q => by cases q) ?_
    repeat ((first | refine Mx.mix0 rfl ?_ | refine Mx.mix1 rfl ?_); go_big_quiet_step (fail); refine wpQuiet_nil ?_)
    refine Mx.mix_nil ?_
    go_wp2
    go_ret2
    exact ⟨rfl, B2.out⟩
set_option maxHeartbeats 2000000 in
theorem lookupD_any (b : Nat) (es : List Ent) (fv : Value) (fs : List Atm) (u : Value) (xs : List Int) (w : World) (hm : MapB w b es) (hok : okD es = true) (hf : AtomsAt w fv fs) (hfn : fs.length ≤ 6) (hfx : ∀ f ∈ fs, f.2.size ≤ 1048576) (hu : IntsM w u xs) (hn : xs.length ≤ 2097152) :
    Calls Tryz.prog 47 #[.agg #[.map (some b), fv], u] w fun r w' => r = lfE (lfX es fs xs) ∧ Below w.heap.size w w' := by
  obtain ⟨a, cap, rfl, hcap, hC⟩ := fd_at hf
  have HC := Lib.hid hC
  have HU := Lib.hid hu
  have HM := Lib.hid hm
  have CU := Lib.hid (fun k t w' hm hu ht => unfoldD_any b es (.slice a fs.length cap) u xs k t w' hm hok hu hn ht)
  have CT := Lib.hid (fun s k t w' hs ht => FoldedText_any s k t w' hs ht)
  have CK := Lib.hid (fun v w' h => keyOf_any v xs w' h hn)
  have hkey := kl_at (kyOk_key xs)
  obtain ⟨hl1, hl2⟩ := mapD_look (keyL xs) (kyOk_key xs) es
  rw [lastT_key hok] at hl1 hl2
  have HSz := Lib.hid (fun k t q (h : unL es xs (k, t) = some q) => show q.size ≤ 60 from by
    unfold unL at h
    split at h
    · exact look_size hok h
    · cases h)
  have HX := Lib.hid (fun j f (h : fs[j]? = some f) => hfx f (List.mem_of_getElem? h))
  have HN1 := Lib.hid (fun f (h : fd1 es xs f = none) j (hj : fs[j]? = some f) => show fdFind es xs j (fs.drop j) = fdFind es xs (j + 1) (fs.drop (j + 1)) from by rw [fdFind_next hj, h])
  have HN2 := Lib.hid (fun f t (h : fd1 es xs f = some t) j (hj : fs[j]? = some f) => show fdFind es xs j (fs.drop j) = some (t, (j : Int)) from by rw [fdFind_next hj, h])
  obtain ⟨x, hx'⟩ : ∃ x, x = Pl.look xs es := ⟨_, rfl⟩
  obtain ⟨Z, hZ⟩ : ∃ Z, Z = lfX es fs xs := ⟨_, rfl⟩
  have HLs := Lib.hid (fun t (h : x = some t) => hZ.trans (lfX_some (fs := fs) (hx'.symm.trans h)))
  have HLn := Lib.hid (fun (h : x = none) => hZ.trans (lfX_none (fs := fs) (hx'.symm.trans h)))
  rw [← hZ]
  clear hZ
  rw [← hx'] at hl1 hl2
  obtain ⟨K, hK⟩ : ∃ K, K = keyL xs := ⟨_, rfl⟩
  rw [← hK] at CK hkey hl1 hl2
  have HL1 := Lib.hid hl1
  have HL2 := Lib.hid hl2
  have HKy := Lib.hid hkey
  have BX := Lib.hid (below_x1 w (.cells #[.map (some b), .slice a fs.length cap] 78))
  obtain ⟨n, hnn⟩ : ∃ n, n = fs.length := ⟨_, rfl⟩
  have HNn := Lib.hid hnn
  rw [← hnn] at hcap hfn CU BX ⊢
  have HQ : Hid (∀ w', Below w.heap.size w w' → True) := Lib.hid (fun _ _ => trivial)
  clear hf hC hfx hu hn hm hok hx' hK hl1 hl2 hkey hnn
  go_enter Tryz.func47, Tryz.ntmps47
  go_wp2_with fail
  obtain ⟨W, hW⟩ : ∃ W, W = w.alloc (.cells #[.map (some b), .slice a n cap] 78) := ⟨_, rfl⟩
  rw [← hW] at BX ⊢
  have hq0 : W.cell? ⟨w.heap.size, 0, none⟩ = some (.map (some b)) := by rw [hW]; simp
  have hq1 : W.cell? ⟨w.heap.size, 1, none⟩ = some (.slice a n cap) := by rw [hW]; simp
  have hWs : W.heap.size = w.heap.size + 1 := by rw [hW]; simp
  have HB0 : Hid (∀ w', Below W.heap.size W w' → w'.cell? ⟨w.heap.size, 0, none⟩ = some (.map (some b)) ∧ w'.cell? ⟨w.heap.size, 1, none⟩ = some (.slice a n cap)) := Lib.hid (fun w' hb => ⟨(hb.cell (p := ⟨w.heap.size, 0, none⟩) (by show w.heap.size < _; omega)).trans hq0, (hb.cell (p := ⟨w.heap.size, 1, none⟩) (by show w.heap.size < _; omega)).trans hq1⟩)
  have k0 := cell_regrown hq0
  clear hW hWs
  refine Mx.wp_region_mixed (Mx.ofL [(0, 0), (1, 1), (2, 0), (3, 2), (4, 3), (5, 0), (6, 0), (7, 0), (8, 0), (9, 0)] .done) (by kernel_rfl) (by kernel_rfl) ?_
  repeat ((first | refine Mx.mix0 rfl ?_ | refine Mx.mix1 rfl ?_); go_big_quiet_step (fail); refine wpQuiet_nil ?_)
  refine Mx.mix2 rfl ?_
  go_wp2_with fail
  refine (CK.out _ _ ((HU.out.below BX.out).at.below (below_drewF (Below.refl _ _) 1))).mono ?_
  rintro r w2 ⟨rfl, hb⟩
  have G2 : Hid (Below W.heap.size W w2) := Lib.hid ((below_drewF (Below.refl _ _) 1).trans hb)
  have B2 := Lib.hid (BX.out.trans (G2.out.mono BX.out.size))
  have HM2 : Hid (w2.ownsMap Tryz.prog 95 (plainElem Tryz.prog 9) b es.length (mapD es)) := MapB.below HM.out B2.out
  clear hb k0 hq0 hq1
  go_wp2
  refine Mx.mid_normal (fun _ => regrown_of_below G2.out) ?_
  refine Mx.mix3 rfl ?_
  go_wp2_with (at_lookup; refine wpList_lookup_own_ok _ rfl _ _ 76 rfl 95 9 lawK Tryz.underlying76 _ (zeroS _) (litT ByteArray.empty) [] (plainElem_string Tryz.underlying9 (by decide)) b es.length (mapD es) rfl HM2.out _ (KL K) rfl HKy.out ?_)
  intro v ps hv
  have hv2 : v = .string (x.getD ByteArray.empty) := by
    rw [HL2.out] at hv
    obtain ⟨s, rfl, h1, _⟩ := plainElem_string_inv Tryz.underlying9 hv
    have h2 := congrArg Prod.fst h1
    cases x with
    | none => simp only [litT] at h2; have h2 := Lit.string.inj (DataW.lit.inj h2); exact congrArg Value.string (ByteArray.ext (Array.toList_inj.1 h2)).symm
    | some t => simp only [litT] at h2; have h2 := Lit.string.inj (DataW.lit.inj h2); exact congrArg Value.string (ByteArray.ext (Array.toList_inj.1 h2)).symm
  subst hv2
  rw [HL1.out]
  clear hv HM2
  go_wp2
  refine Mx.mid_normal (fun q => by cases q) ?_
  repeat ((first | refine Mx.mix0 rfl ?_ | refine Mx.mix1 rfl ?_); go_big_quiet_step (fail); refine wpQuiet_nil ?_)
  refine Mx.mix_nil ?_
  cases x with
  | some t =>
    have HZ := Lib.hid (HLs.out t rfl)
    clear HLs HLn
    simp only [Option.getD_some, Option.isSome_some]
    go_wp2
    go_ret3
    rw [HZ.out, lfE_some]
    exact ⟨rfl, B2.out⟩
  | none =>
    have HZ := Lib.hid (HLn.out rfl)
    clear HLs HLn
    simp only [Option.getD_none, Option.isSome_none]
    obtain ⟨q0, q1⟩ := HB0.out _ G2.out
    go_wp2_with fail
    clear q0 q1
    go_loopw [28] (fun i wr => ∃ k : Nat, k ≤ n ∧ i = .int .i64 k ∧ Hid (Z = fdFind es xs k (fs.drop k)) ∧ Hid (Below W.heap.size W wr)) (fun i _ => n - (intOf i).toNat)
    case atStart => exact ⟨0, Nat.zero_le _, rfl, HZ, G2⟩
    case round =>
      obtain ⟨k, hk, rfl, HK, HB⟩ := hrel
      have hbw := BX.out.trans (HB.out.mono BX.out.size)
      by_cases hlt : k < n
      · obtain ⟨f, hf⟩ : ∃ f, fs[k]? = some f := ⟨_, List.getElem?_eq_getElem (by rw [← HNn.out]; exact hlt)⟩
        obtain ⟨bk, o, rfl, hbk, g0, g1⟩ := HC.out wr hbw k f hf
        have hfs := HX.out k f hf
        obtain ⟨fk, ft⟩ := f
        dsimp only at g0 g1 hfs
        have hw3 := HB.out.alloc HB.out.size (.cells #[.int .i64 fk, .string ft] 61)
        obtain ⟨q0, q1⟩ := HB0.out _ hw3
        have HBw := Lib.hid hbw
        clear hw3
        have hb3 : Below w.heap.size w (wr.alloc (.cells #[.int .i64 fk, .string ft] 61)) := hbw.alloc hbw.size _
        have cu := CU.out fk ft _ (HM.out.below hb3) (HU.out.below hb3) hfs
        have HB3 := Lib.hid hb3
        have HF := Lib.hid hf
        obtain ⟨y, hy⟩ : ∃ y, y = unL es xs (fk, ft) := ⟨_, rfl⟩
        rw [← hy] at cu
        have HY := Lib.hid hy
        clear hf hbw hb3 hy
        cases y with
        | none =>
          rw [lkE_none] at cu
          have C1 := Lib.hid cu
          have HZ2 : Hid (Z = fdFind es xs (k + 1) (fs.drop (k + 1))) := Lib.hid (HK.out.trans (HN1.out _ (fd1_un HY.out.symm) k HF.out))
          clear cu HK
          go_wp2_with fail
          refine C1.out.mono ?_
          rintro r w3 ⟨rfl, hb⟩
          have HB4 := Lib.hid (HB3.out.trans (hb.mono HB3.out.size))
          have HX4 := Lib.hid (BoxA.new hb)
          have HW4 := Lib.hid (HB.out.trans ((below_new hb).mono HB.out.size))
          obtain ⟨_, d0, d1⟩ := HX4.out
          clear hb q0 q1 g0 g1
          go_wp2_with fail
          refine (CT.out _ _ _ _ (by decide) hfs).mono ?_
          rintro r w4 ⟨rfl, hb⟩
          have HW5 := Lib.hid (HW4.out.trans (hb.mono HW4.out.size))
          clear hb d0 d1
          unfold fdE
          go_wp2
          go_roundw
          case rel => exact ⟨k + 1, by omega, by go_num, HZ2, HW5⟩
          case measure => simp [intOf]; omega
        | some t =>
          rw [lkE_some] at cu
          have C1 := Lib.hid cu
          have hts : t.size ≤ 60 := HSz.out fk ft t HY.out.symm
          have ct := fun w' => CT.out t fk ft w' (by omega) hfs
          unfold fdE at ct
          have HN3 : Hid (fdB t fk ft = false → Z = fdFind es xs (k + 1) (fs.drop (k + 1))) := Lib.hid (fun h => HK.out.trans (HN1.out _ (fd1_no HY.out.symm h) k HF.out))
          have HN4 : Hid (fdB t fk ft = true → Z = some (fdT t fk ft, (k : Int))) := Lib.hid (fun h => HK.out.trans (HN2.out _ _ (fd1_yes HY.out.symm h) k HF.out))
          obtain ⟨X, hX⟩ : ∃ X, X = fdT t fk ft := ⟨_, rfl⟩
          obtain ⟨c, hc⟩ : ∃ c, c = fdB t fk ft := ⟨_, rfl⟩
          rw [← hX, ← hc] at ct
          rw [← hc] at HN3
          rw [← hX, ← hc] at HN4
          have C2 := Lib.hid ct
          clear cu ct HK hX hc HY
          cases c with
          | false =>
            have HZ2 := Lib.hid (HN3.out rfl)
            clear HN3 HN4
            go_wp2_with fail
            refine C1.out.mono ?_
            rintro r w3 ⟨rfl, hb⟩
            have HX4 := Lib.hid (BoxA.new hb)
            have HW4 := Lib.hid (HB.out.trans ((below_new hb).mono HB.out.size))
            obtain ⟨_, d0, d1⟩ := HX4.out
            clear hb q0 q1 g0 g1
            go_wp2_with fail
            refine (C2.out _).mono ?_
            rintro r w4 ⟨rfl, hb⟩
            have HW5 := Lib.hid (HW4.out.trans (hb.mono HW4.out.size))
            clear hb d0 d1
            go_wp2
            go_roundw
            case rel => exact ⟨k + 1, by omega, by go_num, HZ2, HW5⟩
            case measure => simp [intOf]; omega
          | true =>
            have HZ2 := Lib.hid (HN4.out rfl)
            clear HN3 HN4
            go_wp2_with fail
            refine C1.out.mono ?_
            rintro r w3 ⟨rfl, hb⟩
            have HX4 := Lib.hid (BoxA.new hb)
            have HW4 := Lib.hid (HB.out.trans ((below_new hb).mono HB.out.size))
            obtain ⟨_, d0, d1⟩ := HX4.out
            clear hb q0 q1 g0 g1
            go_wp2_with fail
            refine (C2.out _).mono ?_
            rintro r w4 ⟨rfl, hb⟩
            have HW5 := Lib.hid (HW4.out.trans (hb.mono HW4.out.size))
            clear hb d0 d1
            go_wp2
            go_ret3
            rw [HZ2.out, lfE_some]
            exact ⟨rfl, BX.out.trans (HW5.out.mono BX.out.size)⟩
      · have HZ2 : Hid (Z = none) := Lib.hid (by rw [HK.out, List.drop_of_length_le (by rw [← HNn.out]; omega)]; rfl)
        clear HK
        go_wp2
        go_ret3
        rw [HZ2.out, lfE_none]
        exact ⟨rfl, BX.out.trans (HB.out.mono BX.out.size)⟩
theorem results_fd2 {fn : Func} {p u : Tmp} (h : fn.results = #[.cell p 78, .tmp u]) (tmps : Array Value) (w : World) (g : Nat) (x y : Value)
    (hp : tmps.getD p undef = .pointer (some ⟨g, 0, none⟩)) (hg : BoxW w g 78 x y) :
    (results fn tmps).run Tryz.prog w = .ok (.tuple #[.agg #[x, y], tmps.getD u undef]) w := by
  have hr := run_loadVar_row (P := Tryz.prog) w g _ 78 _ _ _ hg Tryz.underlying78 rfl (by kernel_rfl)
  rw [results_cell_tmp h, hp]
  simp [asAddr, hr, Result.andThen]
theorem grown_cell (W : World) (b i : Nat) (v : Value) : W.grownBy (W.setCell ⟨b, i, none⟩ v) (some b) := by
  have h : Below b W (W.setCell ⟨b, i, none⟩ v) := (Below.refl _ _).setCell (p := ⟨b, i, none⟩) (Nat.le_refl _) v
  exact ⟨h.os, h.tape, h.output, by rw [World.size_setCell]; exact Nat.le_refl _, fun k _ hk => Below.heap_setCell _ _ _ _ (fun e => hk (by rw [e]))⟩
theorem BoxW.new2 (w : World) (x y : Value) (T T' : TypeId) (v : Value) : BoxW ((w.alloc (.cells #[v] T')).alloc (.cells #[x, y] T)) (w.heap.size + 1) T x y := by
  have := heap_alloc_new (w.alloc (.cells #[v] T')) (.cells #[x, y] T)
  rw [World.size_alloc] at this
  exact this
set_option maxHeartbeats 1000000 in
theorem foldedBy_any (v : Value) (es : List Ent) (fv : Value) (fs : List Atm) (w : World) (h : EntsAt w v es) (hn : es.length ≤ 2097152) (hx : ∀ e ∈ es, entOk e) (hf : AtomsAt w fv fs) (hfn : fs.length ≤ 2097152) (hfx : ∀ f ∈ fs, f.2.size ≤ 1048576) :
    Calls Tryz.prog 46 #[dV v, fv] w fun r w' => (∃ mo, r = .returned (.tuple #[.agg #[.map mo, fv], .bool (okD es && Pl.okFs fs)]) ∧ (okD es = true → ∃ b, mo = some b ∧ w.heap.size ≤ b ∧ MapB w' b es)) ∧ Below w.heap.size w w' := by
  have hE := h
  obtain ⟨fa, fc, rfl, _⟩ := fd_at hf
  have cf := fun w' h => IsValidFolds_any (.slice fa fs.length fc) fs w' h hfn (fun e he => by have := hfx e he; unfold maxLen; omega)
  obtain ⟨ok, hok⟩ : ∃ ok, ok = Pl.okFs fs := ⟨_, rfl⟩
  rw [← hok] at cf ⊢
  have HF := Lib.hid hf
  obtain ⟨fl, hfl⟩ : ∃ fl, fl = fs.length := ⟨_, rfl⟩
  rw [← hfl] at cf HF ⊢
  have CF := Lib.hid cf
  clear cf hok hfl
  obtain ⟨a, cap, rfl, hcap, hC⟩ := h.cells
  have hb2 := fun (o : Obj) (o' : Obj) => below_x2 w o o'
  have HB2 := Lib.hid hb2
  have hbw := BoxW.new2 w (.map none) (.slice none 0 0) 78 33 (.slice a es.length cap)
  have HBW := Lib.hid hbw
  clear hb2 hbw
  cases hg : okD es
  · have C := Lib.hid (fun w' hb => textsNo_any _ es w' (hE.below (w' := w') hb) hn hx hg)
    clear h hE hx hg hC hf
    unfold dV at C ⊢
    go_enter Tryz.func46, Tryz.ntmps46
    go_wp2_with fail
    refine (C.out _ (HB2.out _ _)).mono ?_
    rintro r w1 ⟨rfl, hb⟩
    have B1 := Lib.hid ((HB2.out _ _).trans (hb.mono (by simp; omega)))
    have W1 := Lib.hid (HBW.out.below hb (by simp))
    have c0 := W1.out.cell0
    have c1 := W1.out.cell1
    have f0 := W1.out.frozen 0
    have f1 := W1.out.frozen 1
    clear hb
    go_wp2
    (try simp only [Exit.inBlock, Exit.then])
    refine bodyPost_ret (results_fd2 rfl _ _ (w.heap.size + 1) _ _ rfl ((W1.out.set0 _).set1 _)) rfl ?_
    exact ⟨⟨_, by first | rfl | (cases ok <;> rfl), fun h => by cases h⟩, (B1.out.setCell (p := ⟨w.heap.size + 1, 0, none⟩) (by show w.heap.size ≤ w.heap.size + 1; omega) _).setCell (p := ⟨w.heap.size + 1, 1, none⟩) (by show w.heap.size ≤ w.heap.size + 1; omega) _⟩
  · have C := Lib.hid (fun w' hb => texts_any _ es w' (hE.below (w' := w') hb) hn hx hg)
    clear h hE hx hg hC hf
    unfold dV at C ⊢
    go_enter Tryz.func46, Tryz.ntmps46
    go_wp2_with fail
    refine (C.out _ (HB2.out _ _)).mono ?_
    rintro r w1 ⟨⟨b, rfl, hbb, hm⟩, hb⟩
    have B1 := Lib.hid ((HB2.out _ _).trans (hb.mono (by simp; omega)))
    have W1 := Lib.hid (HBW.out.below hb (by simp))
    have HM1 := Lib.hid hm
    clear hb hm
    go_wp2_with fail
    refine (CF.out _ (HF.out.below B1.out)).mono ?_
    rintro r w2 ⟨rfl, hb⟩
    have B2 := Lib.hid (B1.out.trans (hb.mono B1.out.size))
    have W2 := Lib.hid (W1.out.below hb W1.out.lt)
    have HM2 := Lib.hid (HM1.out.below hb)
    have hbb2 : w.heap.size + 2 ≤ b := by simp at hbb; omega
    have c0 := W2.out.cell0
    have c1 := W2.out.cell1
    have f0 := W2.out.frozen 0
    have f1 := W2.out.frozen 1
    clear hb W1 HM1 hbb
    go_wp2
    (try simp only [Exit.inBlock, Exit.then])
    refine bodyPost_ret (results_fd2 rfl _ _ (w.heap.size + 1) _ _ rfl ((W2.out.set0 _).set1 _)) rfl ?_
    refine ⟨⟨_, by first | rfl | (cases ok <;> rfl), fun _ => ⟨b, rfl, by omega, ?_⟩⟩, (B2.out.setCell (p := ⟨w.heap.size + 1, 0, none⟩) (by show w.heap.size ≤ w.heap.size + 1; omega) _).setCell (p := ⟨w.heap.size + 1, 1, none⟩) (by show w.heap.size ≤ w.heap.size + 1; omega) _⟩
    exact World.ownsMap.kept (World.ownsMap.kept HM2.out (grown_cell _ (w.heap.size + 1) 0 _) (by intro e; injection e with e; omega)) (grown_cell _ (w.heap.size + 1) 1 _) (by intro e; injection e with e; omega)
end Go.Proofs.YtjmiackiikbodaaGreat

namespace Go.Proofs.YtjmiackiikbodaaGreat
set_option maxRecDepth 100000
open Go.RowKit

theorem EntsAt.slice {w : World} {v : Value} {es : List Ent} (h : EntsAt w v es) : ∃ a cap, v = .slice a es.length cap := by obtain ⟨a, cap, hv, _⟩ := h.len; exact ⟨a, cap, hv⟩
set_option maxHeartbeats 1000000 in
theorem LookupFolded_any (v : Value) (es : List Ent) (fv : Value) (fs : List Atm) (u : Value) (xs : List Int) (w : World) (h : EntsAt w v es) (hn : es.length ≤ 2097152) (hx : ∀ e ∈ es, entOk e) (hf : AtomsAt w fv fs) (hfn : fs.length ≤ 2097152) (hfx : ∀ f ∈ fs, f.2.size ≤ 1048576) (hu : IntsM w u xs) (hxn : xs.length ≤ 2097152) :
    Calls Tryz.prog 14 #[dV v, fv, u] w fun r w' => r = lfE (lfR es fs xs) ∧ Below w.heap.size w w' := by
  have HE := Lib.hid h
  have HF := Lib.hid hf
  have HU := Lib.hid hu
  have CB := Lib.hid (fun w' h hf => foldedBy_any v es fv fs w' h hn hx hf hfn hfx)
  have CL := Lib.hid (fun (hok : okD es = true) (hfk : Pl.okFs fs = true) b w' hm hf hu => lookupD_any b es fv fs u xs w' hm hok hf (Pl.okFs_parts hfk).1 hfx hu hxn)
  have BX := Lib.hid (fun o => below_x1 w o)
  obtain ⟨fa, fc, rfl, _⟩ := fd_at hf
  obtain ⟨fl, hfl⟩ : ∃ fl, fl = fs.length := ⟨_, rfl⟩
  obtain ⟨a, cap, rfl⟩ := h.slice
  obtain ⟨n, hnn⟩ : ∃ n, n = es.length := ⟨_, rfl⟩
  unfold dV at CB ⊢
  cases hg : (okD es && Pl.okFs fs)
  · rw [lfR_no hg, lfE_none]
    rw [← hfl, ← hnn]
    simp only [hg, ← hfl, ← hnn] at CB
    rw [← hfl] at HF
    rw [← hnn] at HE
    clear h hf hu hx hfx CL hg hfl hnn hfn hn
    go_enter Tryz.func14, Tryz.ntmps14
    go_wp2_with fail
    refine (CB.out _ (HE.out.below (BX.out _)) (HF.out.below (BX.out _))).mono ?_
    rintro r w1 ⟨⟨m, rfl, _⟩, hb⟩
    have B1 := Lib.hid ((BX.out _).trans (hb.mono (by simp)))
    clear hb
    go_wp2
    go_ret3
    exact ⟨rfl, B1.out.alloc B1.out.size _⟩
  · rw [lfR_yes hg]
    have hg2 := hg
    rw [Bool.and_eq_true] at hg2
    have CL2 := Lib.hid (CL.out hg2.1 hg2.2)
    have HD := Lib.hid hg2.1
    unfold lfE at CL2 ⊢
    rw [← hfl, ← hnn]
    simp only [hg, ← hfl, ← hnn] at CB
    simp only [← hfl] at CL2
    rw [← hfl] at HF
    rw [← hnn] at HE
    clear h hf hu hx hfx CL hg hg2 hfl hnn hfn hn
    go_enter Tryz.func14, Tryz.ntmps14
    go_wp2_with fail
    refine (CB.out _ (HE.out.below (BX.out _)) (HF.out.below (BX.out _))).mono ?_
    rintro r w1 ⟨⟨m, rfl, hm⟩, hb⟩
    have B1 := Lib.hid ((BX.out _).trans (hb.mono (by simp)))
    obtain ⟨b, rfl, _, hmb⟩ := hm HD.out
    have HM := Lib.hid hmb
    clear hb hm hmb
    go_wp2_with fail
    have hb2 := below_x1 w1 (.cells #[.map (some b), .slice fa fl fc] 78)
    have B2 := Lib.hid (B1.out.trans (hb2.mono B1.out.size))
    have HM2 := Lib.hid (HM.out.below hb2)
    clear hb2
    refine (CL2.out b _ HM2.out (HF.out.below B2.out) (HU.out.below B2.out)).mono ?_
    rintro r w3 ⟨rfl, hb⟩
    have B3 := Lib.hid (B2.out.trans (hb.mono B2.out.size))
    clear hb
    go_wp2
    go_ret3
    exact ⟨rfl, B3.out⟩
set_option maxHeartbeats 2000000 in
theorem specLookupFolded_any (v : Value) (es : List Ent) (fv : Value) (fs : List Atm) (u : Value) (xs : List Int) (w : World) (h : EntsAt w v es) (hn : es.length ≤ 2097152) (hx : ∀ e ∈ es, entOk e) (hf : AtomsAt w fv fs) (hfn : fs.length ≤ 2097152) (hfx : ∀ f ∈ fs, f.2.size ≤ 1048576) (hu : IntsM w u xs) (hxn : xs.length ≤ 2097152) :
    Calls Tryz.prog 10 #[dV v, fv, u] w fun r w' => r = lfE (lfR es fs xs) ∧ Below w.heap.size w w' := by
  have HE := Lib.hid h
  have HF := Lib.hid hf
  have HU := Lib.hid hu
  have cg := fun w' hb => l6Good_any v es w' (h.below (w' := w') hb) hn hx
  have cv := fun w' hb => specIsValidFolds_any fv fs w' (hf.below (w' := w') hb) hfn (fun e he => by have := hfx e he; unfold maxLen; omega)
  have co := fun w' hb => l4Good_any u xs w' (hu.below (w' := w') hb).at hxn
  have CFi := Lib.hid (fun y ys w' hb hy hyn => l6Find_any v es y ys w' (h.below (w' := w') hb) hy hn hx hyn)
  have BX := Lib.hid (below_x1 w (.cells #[v] 33))
  obtain ⟨a, cap, rfl⟩ := h.slice
  obtain ⟨ua, uc, rfl, _, _⟩ := hu.at.cells
  obtain ⟨fa, fc, rfl, hfc, hFC⟩ := fd_at hf
  have HFC := Lib.hid hFC
  obtain ⟨n, hnn⟩ : ∃ n, n = es.length := ⟨_, rfl⟩
  obtain ⟨fl, hfl⟩ : ∃ fl, fl = fs.length := ⟨_, rfl⟩
  have HFL := Lib.hid hfl
  unfold dV at cg CFi ⊢
  rw [← hnn] at HE BX
  rw [← hfl] at HF hfc
  simp only [← hnn] at cg CFi
  simp only [← hfl] at cv
  rw [← hnn, ← hfl]
  cases hg : okD es
  · rw [hg] at cg
    have CG := Lib.hid cg
    have HN : Hid (lfR es fs xs = none) := Lib.hid (lfR_no (by rw [hg]; rfl))
    rw [HN.out, lfE_none]
    clear h hf hu hx hfx hg cg cv co hFC hfl hnn hfn hn HN
    go_enter Tryz.func10, Tryz.ntmps10
    go_wp2_with fail
    refine (CG.out _ BX.out).mono ?_
    rintro r w1 ⟨rfl, hb⟩
    have B1 := Lib.hid (BX.out.trans (hb.mono BX.out.size))
    clear hb
    go_wp2
    go_ret3
    exact ⟨rfl, B1.out⟩
  · rw [hg] at cg
    have CG := Lib.hid cg
    cases hfk : Pl.okFs fs
    · rw [hfk] at cv
      have CV := Lib.hid cv
      have HN : Hid (lfR es fs xs = none) := Lib.hid (lfR_no (by rw [hg, hfk]; rfl))
      rw [HN.out, lfE_none]
      clear h hf hu hx hfx hg hfk cg cv co hFC hfl hnn hfn hn HN
      go_enter Tryz.func10, Tryz.ntmps10
      go_wp2_with fail
      refine (CG.out _ BX.out).mono ?_
      rintro r w1 ⟨rfl, hb⟩
      have B1 := Lib.hid (BX.out.trans (hb.mono BX.out.size))
      clear hb
      go_wp2_with fail
      refine (CV.out _ B1.out).mono ?_
      rintro r w2 ⟨rfl, hb⟩
      have B2 := Lib.hid (B1.out.trans (hb.mono B1.out.size))
      clear hb
      go_wp2
      go_ret3
      exact ⟨rfl, B2.out⟩
    · rw [hfk] at cv
      have CV := Lib.hid cv
      cases ho : okO xs
      · rw [ho] at co
        have CO := Lib.hid co
        have HN : Hid (lfR es fs xs = none) := Lib.hid (by rw [lfR_yes (by rw [hg, hfk]; rfl), lfX_bad hg ho])
        rw [HN.out, lfE_none]
        clear h hf hu hx hfx hg hfk ho cg cv co hFC hfl hnn hfn hn HN
        go_enter Tryz.func10, Tryz.ntmps10
        go_wp2_with fail
        refine (CG.out _ BX.out).mono ?_
        rintro r w1 ⟨rfl, hb⟩
        have B1 := Lib.hid (BX.out.trans (hb.mono BX.out.size))
        clear hb
        go_wp2_with fail
        refine (CV.out _ B1.out).mono ?_
        rintro r w2 ⟨rfl, hb⟩
        have B2 := Lib.hid (B1.out.trans (hb.mono B1.out.size))
        clear hb
        go_wp2_with fail
        refine (CO.out _ B2.out).mono ?_
        rintro r w3 ⟨rfl, rfl⟩
        go_wp2
        go_ret3
        exact ⟨rfl, B2.out⟩
      · rw [ho] at co
        have CO := Lib.hid co
        have HR : Hid (lfR es fs xs = lfX es fs xs) := Lib.hid (lfR_yes (by rw [hg, hfk]; rfl))
        rw [HR.out]
        obtain ⟨hf6, hfv, _⟩ := Pl.okFs_parts hfk
        have hfl6 : fl ≤ 6 := by rw [hfl]; exact hf6
        have CUn := Lib.hid (fun k t (hkt : Pl.okF (k, t) = true) w' hm => l10Unfold_any (.slice ua xs.length uc) xs k t w' hm ho hkt)
        have CTx := Lib.hid (fun s k t w' hs ht => l10Text_any s k t w' hs ht)
        have HVal := Lib.hid (fun k f (hkf : fs[k]? = some f) => show Pl.okF f = true from hfv f (List.mem_of_getElem? hkf))
        have HSz := Lib.hid (fun o q (hq : Pl.look o es = some q) => look_size hg hq)
        have HN1 := Lib.hid (fun f (h : fd1 es xs f = none) j (hj : fs[j]? = some f) => show fdFind es xs j (fs.drop j) = fdFind es xs (j + 1) (fs.drop (j + 1)) from by rw [fdFind_next hj, h])
        have HN2 := Lib.hid (fun f t (h : fd1 es xs f = some t) j (hj : fs[j]? = some f) => show fdFind es xs j (fs.drop j) = some (t, (j : Int)) from by rw [fdFind_next hj, h])
        have HUb := Lib.hid (fun (f : Atm) (hf : Pl.okF f = true) => show unfB xs f.1 f.2 = decide (0 < (unfI xs f.1 f.2).length) from by
          rw [(unf_un0 ho hf).1, (unf_un0 ho hf).2, un0_pos])
        obtain ⟨x, hx'⟩ : ∃ x, x = Pl.look xs es := ⟨_, rfl⟩
        obtain ⟨Z, hZ⟩ : ∃ Z, Z = lfX es fs xs := ⟨_, rfl⟩
        have HLs := Lib.hid (fun t (h : x = some t) => hZ.trans (lfX_some (fs := fs) (hx'.symm.trans h)))
        have HLn := Lib.hid (fun (h : x = none) => hZ.trans (lfX_none (fs := fs) (hx'.symm.trans h)))
        rw [← hZ]
        have cf0 := fun w' hb => CFi.out (.slice ua xs.length uc) xs w' hb (HU.out.below hb).at hxn
        rw [← hx'] at cf0
        have CF0 := Lib.hid cf0
        clear h hf hu hx hfx hg hfk ho cg cv co hFC hfl hnn hfn hn hZ hx' cf0 hfv HR
        go_enter Tryz.func10, Tryz.ntmps10
        go_wp2_with fail
        refine (CG.out _ BX.out).mono ?_
        rintro r w1 ⟨rfl, hb⟩
        have B1 := Lib.hid (BX.out.trans (hb.mono BX.out.size))
        have Q1 : Hid (w1.cell? ⟨w.heap.size, 0, none⟩ = some (.slice a n cap)) := Lib.hid (box1 hb)
        clear hb
        go_wp2_with fail
        refine (CV.out _ B1.out).mono ?_
        rintro r w2 ⟨rfl, hb⟩
        have B2 := Lib.hid (B1.out.trans (hb.mono B1.out.size))
        have Q2 : Hid (w2.cell? ⟨w.heap.size, 0, none⟩ = some (.slice a n cap)) := Lib.hid ((hb.cell (p := ⟨w.heap.size, 0, none⟩) (lt_of_cell Q1.out)).trans Q1.out)
        clear hb Q1
        go_wp2_with fail
        refine (CO.out _ B2.out).mono ?_
        rintro r w3 ⟨rfl, rfl⟩
        have q2 := Q2.out
        go_wp2_with fail
        refine (CF0.out _ B2.out).mono ?_
        rintro r w3 ⟨rfl, hb⟩
        have B3 := Lib.hid (B2.out.trans (hb.mono B2.out.size))
        have Q3 : Hid (w3.cell? ⟨w.heap.size, 0, none⟩ = some (.slice a n cap)) := Lib.hid ((hb.cell (p := ⟨w.heap.size, 0, none⟩) (lt_of_cell Q2.out)).trans Q2.out)
        clear hb Q2 q2
        cases x with
        | some t =>
          have HZ := Lib.hid (HLs.out t rfl)
          clear HLs HLn
          unfold lkE
          simp only [Option.getD_some, Option.isSome_some]
          go_wp2
          go_ret3
          rw [HZ.out, lfE_some]
          exact ⟨rfl, B3.out⟩
        | none =>
          have HZ := Lib.hid (HLn.out rfl)
          clear HLs HLn
          unfold lkE
          simp only [Option.getD_none, Option.isSome_none]
          have HB3 : Hid (∀ w', Below w3.heap.size w3 w' → w'.cell? ⟨w.heap.size, 0, none⟩ = some (.slice a n cap)) := Lib.hid (fun w' hb => (hb.cell (p := ⟨w.heap.size, 0, none⟩) (lt_of_cell Q3.out)).trans Q3.out)
          clear Q3
          go_wp2_with fail
          go_loopw [11] (fun i wr => ∃ k : Nat, k ≤ fl ∧ i = .int .i64 k ∧ Hid (Z = fdFind es xs k (fs.drop k)) ∧ Hid (Below w3.heap.size w3 wr)) (fun i _ => fl - (intOf i).toNat)
          case atStart => exact ⟨0, Nat.zero_le _, rfl, HZ, Lib.hid (Below.refl _ _)⟩
          case round =>
            obtain ⟨k, hk, rfl, HK, HB⟩ := hrel
            by_cases hlt : k < fl
            · obtain ⟨f, hf⟩ : ∃ f, fs[k]? = some f := ⟨_, List.getElem?_eq_getElem (by rw [← HFL.out]; exact hlt)⟩
              have hbw := B3.out.trans (HB.out.mono B3.out.size)
              obtain ⟨bk, o, rfl, hbk, g0, g1⟩ := HFC.out wr hbw k f hf
              have hfo := HVal.out k f hf
              have HF1 := Lib.hid hf
              have HUb1 := Lib.hid (HUb.out f hfo)
              have HFo := Lib.hid hfo
              obtain ⟨fk, ft⟩ := f
              dsimp only at g0 g1
              have h8 := (Pl.okF_parts hfo).2.2.1
              dsimp only at h8
              have cu := CUn.out fk ft hfo wr (HU.out.below hbw)
              obtain ⟨zs, hzs⟩ : ∃ zs, zs = unfI xs fk ft := ⟨_, rfl⟩
              have HZs := Lib.hid hzs
              have hzl : zs.length ≤ 6 := by rw [hzs]; exact unfI_len _ _ _
              have HUb2 : Hid (unfB xs fk ft = decide (0 < zs.length)) := Lib.hid (by rw [hzs]; exact HUb1.out)
              rw [← hzs] at cu
              obtain ⟨zl, hzl2⟩ : ∃ zl, zl = zs.length := ⟨_, rfl⟩
              have HZL := Lib.hid hzl2
              rw [← hzl2] at hzl
              have CU := Lib.hid cu
              have HBw := Lib.hid hbw
              clear cu hf hfo hzs hzl2 HUb1 hbw
              by_cases h0 : zl = 0
              · subst h0
                have HZ2 : Hid (Z = fdFind es xs (k + 1) (fs.drop (k + 1))) := Lib.hid (HK.out.trans (HN1.out _ (fd1_un (unL_bad (by show unfB xs fk ft = false; rw [HUb2.out, ← HZL.out]; rfl))) k HF1.out))
                clear HK
                go_wp2_with fail
                refine CU.out.mono ?_
                rintro r w4 ⟨⟨y, rfl, hy⟩, hb⟩
                have HB4 := Lib.hid (HB.out.trans (hb.mono HB.out.size))
                obtain ⟨ya, yc, hye, _, _⟩ := (rowInts_at hy).cells
                rw [← HZL.out] at hye
                subst hye
                clear hb hy g0 g1
                go_wp2
                go_roundw
                case rel => exact ⟨k + 1, by omega, by go_num, HZ2, HB4⟩
                case measure => simp [intOf]; omega
              · have hz0 : ((zl : Int) == 0) = false := by rw [beq_eq_false_iff_ne]; omega
                have hUB : unfB xs fk ft = true := by rw [HUb2.out, ← HZL.out, decide_eq_true (by omega)]
                have hL : unL es xs (fk, ft) = Pl.look zs es := by unfold unL; rw [hUB, HZs.out]; rfl
                go_wp2_with fail
                refine CU.out.mono ?_
                rintro r w4 ⟨⟨y, rfl, hy⟩, hb⟩
                have HB4 := Lib.hid (HB.out.trans (hb.mono HB.out.size))
                have HY4 := Lib.hid (rowInts_at hy)
                have HBw4 := Lib.hid (HBw.out.trans (hb.mono HBw.out.size))
                obtain ⟨ya, yc, hye, _, _⟩ := (rowInts_at hy).cells
                rw [← HZL.out] at hye
                subst hye
                have q4 := HB3.out _ HB4.out
                have cf := CFi.out (.slice ya zl yc) zs w4 HBw4.out HY4.out (by rw [← HZL.out]; omega)
                obtain ⟨g2, g3⟩ : w4.cell? ⟨bk, o + k * 2, none⟩ = some (.int .i64 fk) ∧ w4.cell? ⟨bk, o + k * 2 + 1, none⟩ = some (.string ft) :=
                  ⟨(hb.cell (p := ⟨bk, o + k * 2, none⟩) (lt_of_cell g0)).trans g0, (hb.cell (p := ⟨bk, o + k * 2 + 1, none⟩) (lt_of_cell g0)).trans g1⟩
                have HG := Lib.hid (show ∀ w', Below w4.heap.size w4 w' → w'.cell? ⟨bk, o + k * 2, none⟩ = some (.int .i64 fk) ∧ w'.cell? ⟨bk, o + k * 2 + 1, none⟩ = some (.string ft) from
                  fun w' hb => ⟨(hb.cell (p := ⟨bk, o + k * 2, none⟩) (lt_of_cell g2)).trans g2, (hb.cell (p := ⟨bk, o + k * 2 + 1, none⟩) (lt_of_cell g2)).trans g3⟩)
                clear hb hy g0 g1 g2 g3
                obtain ⟨x, hx⟩ : ∃ x, x = Pl.look zs es := ⟨_, rfl⟩
                rw [← hx] at cf hL
                have HSx := Lib.hid (fun q (hq : x = some q) => HSz.out zs q (hx.symm.trans hq))
                clear hx
                cases x with
                | none =>
                  rw [lkE_none] at cf
                  have CF := Lib.hid cf
                  have HZ2 : Hid (Z = fdFind es xs (k + 1) (fs.drop (k + 1))) := Lib.hid (HK.out.trans (HN1.out _ (fd1_un hL) k HF1.out))
                  clear cf HK hL
                  go_wp2_with fail
                  refine CF.out.mono ?_
                  rintro r w5 ⟨rfl, hb⟩
                  have HB5 := Lib.hid (HB4.out.trans (hb.mono HB4.out.size))
                  clear hb q4
                  go_wp2
                  go_roundw
                  case rel => exact ⟨k + 1, by omega, by go_num, HZ2, HB5⟩
                  case measure => simp [intOf]; omega
                | some s =>
                  rw [lkE_some] at cf
                  have CF := Lib.hid cf
                  have hs := HSx.out s rfl
                  have ct := fun w' => CTx.out s fk ft w' (by omega) (by omega)
                  have hfdB : fdB s fk ft = fd0B s ft := by unfold fdB; rw [show Pl.okF (fk, ft) = true from HFo.out]; rfl
                  have hfdT : fdT s fk ft = fd0T s ft := by unfold fdT fd0T; rw [hfdB]
                  have HN3 : Hid (fd0B s ft = false → Z = fdFind es xs (k + 1) (fs.drop (k + 1))) := Lib.hid (fun h => HK.out.trans (HN1.out _ (fd1_no hL (hfdB.trans h)) k HF1.out))
                  have HN4 : Hid (fd0B s ft = true → Z = some (fd0T s ft, (k : Int))) := Lib.hid (fun h => HK.out.trans (by rw [← hfdT]; exact HN2.out _ _ (fd1_yes hL (hfdB.trans h)) k HF1.out))
                  unfold fd0E at ct
                  obtain ⟨X, hX⟩ : ∃ X, X = fd0T s ft := ⟨_, rfl⟩
                  obtain ⟨c, hc⟩ : ∃ c, c = fd0B s ft := ⟨_, rfl⟩
                  rw [← hX, ← hc] at ct
                  rw [← hc] at HN3
                  rw [← hX, ← hc] at HN4
                  have CT := Lib.hid ct
                  clear cf ct HK hL hfdB hfdT hX hc
                  cases c with
                  | false =>
                    have HZ2 := Lib.hid (HN3.out rfl)
                    clear HN3 HN4
                    go_wp2_with fail
                    refine CF.out.mono ?_
                    rintro r w5 ⟨rfl, hb⟩
                    have HB5 := Lib.hid (HB4.out.trans (hb.mono HB4.out.size))
                    obtain ⟨g0, g1⟩ := HG.out _ hb
                    clear hb q4
                    go_wp2_with fail
                    refine (CT.out _).mono ?_
                    rintro r w6 ⟨rfl, hb⟩
                    have HB6 := Lib.hid (HB5.out.trans (hb.mono HB5.out.size))
                    clear hb g0 g1
                    go_wp2
                    go_roundw
                    case rel => exact ⟨k + 1, by omega, by go_num, HZ2, HB6⟩
                    case measure => simp [intOf]; omega
                  | true =>
                    have HZ2 := Lib.hid (HN4.out rfl)
                    clear HN3 HN4
                    go_wp2_with fail
                    refine CF.out.mono ?_
                    rintro r w5 ⟨rfl, hb⟩
                    have HB5 := Lib.hid (HB4.out.trans (hb.mono HB4.out.size))
                    obtain ⟨g0, g1⟩ := HG.out _ hb
                    clear hb q4
                    go_wp2_with fail
                    refine (CT.out _).mono ?_
                    rintro r w6 ⟨rfl, hb⟩
                    have HB6 := Lib.hid (HB5.out.trans (hb.mono HB5.out.size))
                    clear hb g0 g1
                    go_wp2
                    go_ret3
                    rw [HZ2.out, lfE_some]
                    exact ⟨rfl, B3.out.trans (HB6.out.mono B3.out.size)⟩
            · have HZ2 : Hid (Z = none) := Lib.hid (by rw [HK.out, List.drop_of_length_le (by rw [← HFL.out]; omega)]; rfl)
              clear HK
              go_wp2
              go_ret3
              rw [HZ2.out, lfE_none]
              exact ⟨rfl, B3.out.trans (HB.out.mono B3.out.size)⟩
end Go.Proofs.YtjmiackiikbodaaGreat

namespace Go.Proofs.YtjmiackiikbodaaGreat
set_option maxRecDepth 100000
open Go.RowKit

def dfCells : Array Value := #[.int .i64 18, .string ⟨#[105, 110, 103]⟩, .int .i64 21, .string ⟨#[101, 100]⟩, .int .i64 20, .string ⟨#[115]⟩, .int .i64 22, .string ⟨#[115]⟩]
theorem specDefaultFolds_at (w : World) :
    Calls Tryz.prog 101 #[] w fun e w' => e = .returned (.slice (some ⟨w.heap.size, 0, none⟩) 4 4) ∧ w' = w.alloc (.cells dfCells 61) := by
  unfold dfCells
  go_enter Tryz.func101, Tryz.ntmps101
  go_wp2
  go_ret
  exact ⟨rfl, rfl⟩
/-- Folds that lie in a block of the call's own. -/
def AtF (w : World) (base : Nat) (v : Value) (ls : List Atm) : Prop :=
  ∃ g o cap, v = .slice (some ⟨g, o, none⟩) ls.length cap ∧ ls.length ≤ cap ∧ base ≤ g ∧ g < w.heap.size ∧ (∀ j, w.frozen? ⟨g, j, none⟩ = false) ∧ ∀ j e, ls[j]? = some e → w.cell? ⟨g, o + j * 2, none⟩ = some (.int .i64 e.1) ∧ w.cell? ⟨g, o + j * 2 + 1, none⟩ = some (.string e.2)
theorem AtF.at {w : World} {base : Nat} {v : Value} {ls : List Atm} (h : AtF w base v ls) : AtomsAt w v ls := by
  obtain ⟨g, o, cap, rfl, hc, _, hg, _, hcell⟩ := h
  exact ⟨_, cap, rfl, hc, .inr ⟨g, o, rfl, hg, hcell⟩⟩
theorem AtF.keep {w w' : World} {base B : Nat} {v : Value} {ls : List Atm} (h : AtF w base v ls) (hg : w.grownBy w' (some B)) (hB : B < base) : AtF w' base v ls := by
  obtain ⟨g, o, cap, hv, hc, hb, hl, hf, hcell⟩ := h
  have hk := hg.block g hl (by simp; omega)
  exact ⟨g, o, cap, hv, hc, hb, Nat.lt_of_lt_of_le hl hg.size, fun j => (World.frozen?_of_block hk).trans (hf j), fun j e he => ⟨(World.cell?_of_block hk).trans (hcell j e he).1, (World.cell?_of_block hk).trans (hcell j e he).2⟩⟩
theorem AtF.set {w : World} {base : Nat} {v : Value} {ls : List Atm} {g o cap j : Nat} {e : Atm} (hv : v = .slice (some ⟨g, o, none⟩) ls.length cap) (hc : ls.length ≤ cap) (hb : base ≤ g) (hl : g < w.heap.size) (hf : ∀ j, w.frozen? ⟨g, j, none⟩ = false)
    (hcell : ∀ j e, ls[j]? = some e → w.cell? ⟨g, o + j * 2, none⟩ = some (.int .i64 e.1) ∧ w.cell? ⟨g, o + j * 2 + 1, none⟩ = some (.string e.2)) (hj : ls[j]? = some e) (z : Int) (t : ByteArray) :
    AtF (w.setCell ⟨g, o + j * 2, none⟩ (.int .i64 z)) base v (ls.set j (z, e.2)) ∧ AtF (w.setCell ⟨g, o + j * 2 + 1, none⟩ (.string t)) base v (ls.set j (e.1, t)) := by
  obtain ⟨c0, c1⟩ := hcell j e hj
  have hjl := (List.getElem?_eq_some_iff.1 hj).1
  have hget : ∀ (x : Atm) (i : Nat) y, (ls.set j x)[i]? = some y → (i = j ∧ y = x) ∨ (i ≠ j ∧ ls[i]? = some y) := by
    intro x i y hy
    by_cases hij : j = i
    · subst hij
      rw [List.getElem?_set_self hjl] at hy
      exact .inl ⟨rfl, (Option.some.inj hy).symm⟩
    · rw [List.getElem?_set_ne hij] at hy
      exact .inr ⟨fun e => hij e.symm, hy⟩
  refine ⟨⟨g, o, cap, by rw [List.length_set]; exact hv, by rw [List.length_set]; exact hc, hb, by rw [World.size_setCell]; exact hl, fun i => by rw [World.frozen?_setCell]; exact hf i, fun i y hy => ?_⟩, ⟨g, o, cap, by rw [List.length_set]; exact hv, by rw [List.length_set]; exact hc, hb, by rw [World.size_setCell]; exact hl, fun i => by rw [World.frozen?_setCell]; exact hf i, fun i y hy => ?_⟩⟩
  · rcases hget _ i y hy with ⟨rfl, rfl⟩ | ⟨hne, hy⟩
    · exact ⟨World.cell?_setCell_same _ _ _ c0, by rw [World.cell?_setCell_other _ _ _ _ (by intro e; injection e; omega)]; exact c1⟩
    · obtain ⟨d0, d1⟩ := hcell i y hy
      exact ⟨by rw [World.cell?_setCell_other _ _ _ _ (by intro e; injection e; omega)]; exact d0, by rw [World.cell?_setCell_other _ _ _ _ (by intro e; injection e; omega)]; exact d1⟩
  · rcases hget _ i y hy with ⟨rfl, rfl⟩ | ⟨hne, hy⟩
    · exact ⟨by rw [World.cell?_setCell_other _ _ _ _ (by intro e; injection e; omega)]; exact c0, World.cell?_setCell_same _ _ _ c1⟩
    · obtain ⟨d0, d1⟩ := hcell i y hy
      exact ⟨by rw [World.cell?_setCell_other _ _ _ _ (by intro e; injection e; omega)]; exact d0, by rw [World.cell?_setCell_other _ _ _ _ (by intro e; injection e; omega)]; exact d1⟩
abbrev OwnF (w : World) (base : Nat) (v : Value) (ls : List Atm) : Prop := w.ownsRow base 61 2 v ls.length (atCells ls)
theorem OwnF.f {w : World} {base : Nat} {v : Value} {ls : List Atm} (h : OwnF w base v ls) (h1 : 1 ≤ ls.length) : AtF w base v ls := by
  rcases h.2 with ⟨rfl, h0⟩ | ⟨g, cap, cur, rfl, hb, hg, hn, _, hsz, htake⟩
  · omega
  · have hlt : g < w.heap.size := (Array.getElem?_eq_some_iff.1 hg).1
    refine ⟨g, 0, cap, rfl, hn, hb, hlt, fun j => by unfold World.frozen?; simp [hg], fun j e he => ?_⟩
    have hj := (List.getElem?_eq_some_iff.1 he).1
    obtain ⟨h0, h1⟩ := atCells_at ls j e he
    have hc : ∀ q x, (atCells ls)[q]? = some x → w.cell? ⟨g, q, none⟩ = some x := by
      intro q x hq
      have hql : q < ls.length * 2 := by
        rcases Nat.lt_or_ge q (ls.length * 2) with h' | h'
        · exact h'
        · rw [List.getElem?_eq_none (by rw [atCells_len]; exact h')] at hq; cases hq
      rw [← htake, List.getElem?_take_of_lt hql] at hq
      simp only [Array.getElem?_toList] at hq
      simp [World.cell?, hg, hq]
    rw [Nat.zero_add]
    exact ⟨hc _ _ h0, hc _ _ h1⟩
/-- Either an own row, or the end of one, without room behind it. -/
def StF (w : World) (base : Nat) (v : Value) (ls : List Atm) : Prop := OwnF w base v ls ∨ (AtF w base v ls ∧ ∃ a, v = .slice a ls.length ls.length)
theorem StF.f {w : World} {base : Nat} {v : Value} {ls : List Atm} (h : StF w base v ls) (h1 : 1 ≤ ls.length) : AtF w base v ls := by
  rcases h with h | h
  · exact OwnF.f h h1
  · exact h.1
theorem StF.keep {w w' : World} {base B : Nat} {v : Value} {ls : List Atm} (h : StF w base v ls) (hg : w.grownBy w' (some B)) (hB : B < base) : StF w' base v ls := by
  rcases h with h | ⟨h, h2⟩
  · exact .inl (World.ownsRow.kept h hg (.inr (fun e => by have := row_ge h e; omega)))
  · exact .inr ⟨h.keep hg hB, h2⟩
theorem dFs_sub (w : World) (r : Nat) (_hr : r < 4) : StF (w.alloc (.cells dfCells 61)) w.heap.size (.slice (some ⟨w.heap.size, r * 2, none⟩) (4 - r) (4 - r)) (dFs.drop r) := by
  have hlen : (dFs.drop r).length = 4 - r := by rw [List.length_drop]; rfl
  refine .inr ⟨⟨w.heap.size, r * 2, 4 - r, by rw [hlen], by rw [hlen]; exact Nat.le_refl _, Nat.le_refl _, by rw [World.size_alloc]; omega, fun j => World.frozen?_alloc_at _ _ _ _ rfl, fun j e he => ?_⟩, _, by rw [hlen]⟩
  rw [List.getElem?_drop] at he
  have hc : ∀ i x, dfCells[i]? = some x → (w.alloc (.cells dfCells 61)).cell? ⟨w.heap.size, i, none⟩ = some x := fun i x hi => by rw [World.cell?_alloc_at _ _ _ _ rfl]; exact hi
  rw [show r * 2 + j * 2 = (r + j) * 2 by omega]
  have h4 : r + j < 4 := by
    have := (List.getElem?_eq_some_iff.1 he).1
    exact this
  obtain ⟨i, hi⟩ : ∃ i, i = r + j := ⟨_, rfl⟩
  rw [← hi] at he h4 ⊢
  match i, h4 with
  | 0, _ => cases he; exact ⟨hc _ _ rfl, hc _ _ rfl⟩
  | 1, _ => cases he; exact ⟨hc _ _ rfl, hc _ _ rfl⟩
  | 2, _ => cases he; exact ⟨hc _ _ rfl, hc _ _ rfl⟩
  | 3, _ => cases he; exact ⟨hc _ _ rfl, hc _ _ rfl⟩
/-- One fold appended to an own row: 'append(l, a)'. -/
theorem push_fold {ops : Array Oper} {rest : List Oper} {o : Oper} {a : Act} {w : World} {Q : Exit → Act → World → Prop}
    (hgd : o.guard = none) (p q : Operand) (ho : o.op = .call { callee := .builtin .append, args := #[p, q], argTypes := #[35, 35] }) (base : Nat) (v : Value) (ls : List (Int × ByteArray)) (hs : a.eval p = v) (hown : OwnF w base v ls)
    (k : Int) (t : ByteArray) (hq : a.eval q = .slice (some ⟨w.heap.size, 0, none⟩) 1 1) (hb : base ≤ w.heap.size) (h1 : ls.length ≤ 4194304)
    (h : ∀ v' w', OwnF w' base v' (ls ++ [(k, t)]) → w.grownBy w' v.ownBlock → (v'.ownBlock = v.ownBlock ∨ v'.ownBlock = some (w.heap.size + 1)) → wpList Tryz.prog ops Q rest (a.put o.dst v') w') : wpList Tryz.prog ops Q (o :: rest) a (w.alloc (.cells #[.int .i64 k, .string t] 61)) := by
  obtain ⟨i0, hi, hz0, hz1, hz2⟩ := info_parts infoFd
  refine wpList_append_own_at _ hgd p q 35 ho base 61 i0 (.agg #[.int .i64 0, .string ByteArray.empty]) 2 24 Tryz.underlying35 hi hz0 hz1 hz2 rfl (by decide) v ls.length _ hs (hown.alloc _) ⟨w.heap.size, 0, none⟩ 1 1 [.int .i64 k, .string t] hq rfl (cell_two_new _ _ _ _) ?_ (by unfold maxLen; omega) (by omega) (by simp; omega) ?_
  · intro y hy; simp at hy; rcases hy with rfl | rfl <;> rfl
  · intro v' w' hown' hg _ hat
    refine h v' w' ?_ ⟨hg.os, hg.tape, hg.output, Nat.le_trans (by simp) hg.size, fun k hk hne => (hg.block k (by rw [World.size_alloc]; omega) hne).trans (Below.heap_alloc w _ k hk)⟩ ?_
    · show World.ownsRow _ _ _ _ _ _ _
      rw [atCells_snoc, List.length_append]; exact hown'
    · rcases hat with h2 | h2
      · exact .inl h2
      · exact .inr (by rw [h2, World.size_alloc])
theorem atCells_get {ls : List Atm} {q : Nat} {x : Value} (h : (atCells ls)[q]? = some x) : ∃ j e, ls[j]? = some e ∧ ((q = j * 2 ∧ x = .int .i64 e.1) ∨ (q = j * 2 + 1 ∧ x = .string e.2)) := by
  have hq : q < ls.length * 2 := by
    rcases Nat.lt_or_ge q (ls.length * 2) with h' | h'
    · exact h'
    · rw [List.getElem?_eq_none (by rw [atCells_len]; exact h')] at h; cases h
  have hj : q / 2 < ls.length := by omega
  obtain ⟨e, he⟩ : ∃ e, ls[q / 2]? = some e := ⟨_, List.getElem?_eq_getElem hj⟩
  obtain ⟨h0, h1⟩ := atCells_at ls _ e he
  refine ⟨q / 2, e, he, ?_⟩
  rcases Nat.mod_two_eq_zero_or_one q with hm | hm
  · have e1 : q / 2 * 2 = q := by omega
    rw [e1] at h0
    exact .inl ⟨e1.symm, Option.some.inj (h.symm.trans h0)⟩
  · have e1 : q / 2 * 2 + 1 = q := by omega
    rw [e1] at h1
    exact .inr ⟨e1.symm, Option.some.inj (h.symm.trans h1)⟩
theorem atCells_one (ls : List Atm) : ∀ u ∈ atCells ls, u.oneCell' = true := by
  intro u hu
  unfold atCells at hu
  obtain ⟨e, _, he⟩ := List.mem_flatMap.1 hu
  simp at he
  rcases he with rfl | rfl <;> rfl
theorem atCells_app (ls ms : List Atm) : atCells (ls ++ ms) = atCells ls ++ atCells ms := by unfold atCells; rw [List.flatMap_append]
theorem atCells_mem {w : World} {g o : Nat} {ls : List Atm} (h : ∀ j e, ls[j]? = some e → w.cell? ⟨g, o + j * 2, none⟩ = some (.int .i64 e.1) ∧ w.cell? ⟨g, o + j * 2 + 1, none⟩ = some (.string e.2)) : ∀ (j : Nat) x, (atCells ls)[j]? = some x → w.cell? ((⟨g, o, none⟩ : Addr).add j) = some x := by
  intro q x hq
  rw [Addr.add_lit]
  obtain ⟨j, e, he, ⟨rfl, rfl⟩ | ⟨rfl, rfl⟩⟩ := atCells_get hq
  · exact (h j e he).1
  · exact (h j e he).2
/-- Folds that lie anywhere, appended to an own row. -/
theorem append_folds {ops : Array Oper} {rest : List Oper} {o : Oper} {a : Act} {w : World} {Q : Exit → Act → World → Prop}
    (hgd : o.guard = none) (p q : Operand) (ho : o.op = .call { callee := .builtin .append, args := #[p, q], argTypes := #[35, 35] }) (base : Nat) (v : Value) (ls : List Atm) (hs : a.eval p = v) (hown : OwnF w base v ls)
    (g off n cap : Nat) (ms : List Atm) (hn : n = ms.length) (hq : a.eval q = .slice (some ⟨g, off, none⟩) n cap) (hcell : ∀ j e, ms[j]? = some e → w.cell? ⟨g, off + j * 2, none⟩ = some (.int .i64 e.1) ∧ w.cell? ⟨g, off + j * 2 + 1, none⟩ = some (.string e.2)) (hb : base ≤ w.heap.size) (h1 : ls.length ≤ 1000) (h2 : ms.length ≤ 1000)
    (h : ∀ v' w', OwnF w' base v' (ls ++ ms) → w.grownBy w' v.ownBlock → wpList Tryz.prog ops Q rest (a.put o.dst v') w') : wpList Tryz.prog ops Q (o :: rest) a w := by
  obtain ⟨i0, hi, hz0, hz1, hz2⟩ := info_parts infoFd
  subst hn
  refine wpList_append_own _ hgd p q 35 ho base 61 i0 (.agg #[.int .i64 0, .string ByteArray.empty]) 2 24 Tryz.underlying35 hi hz0 hz1 hz2 rfl (by decide) v ls.length _ hs hown ⟨g, off, none⟩ ms.length cap (atCells ms) hq (atCells_len ms) (atCells_mem hcell) (atCells_one ms) (by unfold maxLen; omega) (by omega) hb ?_
  intro v' w' hown' hg _
  refine h v' w' ?_ hg
  show World.ownsRow _ _ _ _ _ _ _
  rw [atCells_app, List.length_append]
  exact hown'
/-- One fold appended to what has no room behind it. -/
theorem push_end {ops : Array Oper} {rest : List Oper} {o : Oper} {a : Act} {w : World} {Q : Exit → Act → World → Prop}
    (hgd : o.guard = none) (p q : Operand) (ho : o.op = .call { callee := .builtin .append, args := #[p, q], argTypes := #[35, 35] }) (base : Nat) (v : Value) (ls : List Atm) (hs : a.eval p = v) (hst : StF w base v ls) (h0 : 1 ≤ ls.length)
    (k : Int) (t : ByteArray) (hq : a.eval q = .slice (some ⟨w.heap.size, 0, none⟩) 1 1) (hb : base ≤ w.heap.size) (h1 : ls.length ≤ 1000)
    (h : ∀ v' w', OwnF w' base v' (ls ++ [(k, t)]) → Below base w w' → (∀ b, b < w.heap.size → some b ≠ v.ownBlock → w'.heap[b]? = w.heap[b]?) → wpList Tryz.prog ops Q rest (a.put o.dst v') w') : wpList Tryz.prog ops Q (o :: rest) a (w.alloc (.cells #[.int .i64 k, .string t] 61)) := by
  have hba := below_al w (.cells #[.int .i64 k, .string t] 61)
  rcases hst with hown | ⟨hat, a0, ha0⟩
  · refine push_fold hgd p q ho base v ls hs hown k t hq hb (by omega) ?_
    intro v' w' hown' hg _
    refine h v' w' hown' ⟨hg.os, hg.tape, hg.output, hg.size, fun b hbb => hg.block b (by omega) (fun e => by have := row_ge hown e.symm; omega)⟩ (fun b hbl hne => hg.block b hbl hne)
  · obtain ⟨g, off, cap, hv, hc, hbg, hl, hf, hcell⟩ := hat
    rw [ha0] at hv
    injection hv with e1 e2 e3
    subst e3 e1
    obtain ⟨i0, hi, hz0, hz1, hz2⟩ := info_parts infoFd
    have hcell2 := fun j e he => And.intro ((hba.cell (p := ⟨g, off + j * 2, none⟩) hl).trans (hcell j e he).1) ((hba.cell (p := ⟨g, off + j * 2 + 1, none⟩) hl).trans (hcell j e he).2)
    refine wpList_append_grows _ hgd p q 35 ho 61 i0 (.agg #[.int .i64 0, .string ByteArray.empty]) 2 24 Tryz.underlying35 hi hz0 hz1 hz2 rfl (by decide) (some ⟨g, off, none⟩) ls.length ls.length (atCells ls) (hs.trans ha0) (fun h => by cases h) (atCells_len ls) ?c0 ⟨w.heap.size, 0, none⟩ 1 1 [.int .i64 k, .string t] hq rfl (cell_two_new _ _ _ _) ?c1 (by omega) (by unfold maxLen; omega) (by omega) ?_
    case c0 => intro b hbe j x hx; injection hbe with hbe; subst hbe; exact atCells_mem hcell2 j x hx
    case c1 => intro y hy; simp at hy; rcases hy with rfl | rfl <;> rfl
    intro v' w' hown' hg
    have hbw : Below w.heap.size w w' := hba.grown hg (by simp) (fun k e => by cases e)
    refine h v' w' ?_ (hbw.mono hb) (fun b hbl _ => hbw.block b hbl)
    show World.ownsRow _ _ _ _ _ _ _
    rw [atCells_snoc, List.length_append]
    exact ownsRow_mono hown' (by simp; omega)
def smF (ls : List Atm) : Prop := 1 ≤ ls.length ∧ ls.length ≤ 11 ∧ ∀ e ∈ ls, e.2.size ≤ 16
theorem smF_drop (r : Nat) (hr : r < 4) : smF (dFs.drop r) := by
  refine ⟨by rw [List.length_drop]; show 1 ≤ 4 - r; omega, by rw [List.length_drop]; show 4 - r ≤ 11; omega, fun e he => ?_⟩
  have := List.mem_of_mem_drop he
  unfold dFs at this
  simp at this
  rcases this with rfl | rfl | rfl | rfl <;> decide
theorem smF_set {ls : List Atm} (h : smF ls) (j : Nat) (e : Atm) (he : e.2.size ≤ 16) : smF (ls.set j e) := by
  obtain ⟨h1, h2, h3⟩ := h
  refine ⟨by rw [List.length_set]; exact h1, by rw [List.length_set]; exact h2, fun x hx => ?_⟩
  rcases List.mem_or_eq_of_mem_set hx with hx | rfl
  · exact h3 x hx
  · exact he
theorem grown_belowF {w w1 w2 : World} {B : Nat} (h : w.grownBy w1 (some B)) (hb : Below w.heap.size w1 w2) : w.grownBy w2 (some B) :=
  ⟨hb.os.trans h.os, hb.tape.trans h.tape, hb.output.trans h.output, Nat.le_trans h.size hb.size, fun k hk hne => (hb.block k hk).trans (h.block k hk hne)⟩
def DFs (base : Nat) (w' : World) (r : Ending) : Prop := ∃ v ls, r = .returned v ∧ AtF w' base v ls ∧ smF ls
set_option maxHeartbeats 4000000 in
theorem drawFolds_any (B N : Nat) (w : World) (h : Cur w B N) (hN : N ≤ 600000) :
    Calls Tryz.prog 68 #[.pointer (some ⟨B, 0, none⟩)] w fun r w' => DFs w.heap.size w' r ∧ Cur w' B (N + 100) ∧ w.grownBy w' (some B) := by
  have hB := h.lt
  have CP := Lib.hid (fun M n w h hM h0 h1 => pick_any B M n w h hM h0 h1)
  have CO := Lib.hid (fun M n w h hM h0 h1 => one_any B M n w h hM h0 h1)
  have HC := Lib.hid h
  clear h
  go_enter Tryz.func68, Tryz.ntmps68
  go_wp2_with fail
  refine (specDefaultFolds_at _).mono ?_
  rintro e w1 ⟨rfl, hw1⟩
  have HC1 : Hid (Cur w1 B N) := Lib.hid (by rw [hw1]; exact HC.out.below (below_al _ _))
  have HG1 : Hid (w.grownBy w1 (some B)) := Lib.hid (by rw [hw1]; exact World.grownBy_alloc w _ _)
  have HS1 : Hid (∀ r, r < 4 → StF w1 w.heap.size (.slice (some ⟨w.heap.size, r * 2, none⟩) (4 - r) (4 - r)) (dFs.drop r)) := Lib.hid (fun r hr => by rw [hw1]; exact dFs_sub w r hr)
  clear hw1 HC
  go_wp2_with fail
  refine (CP.out N 3 _ HC1.out (by omega) (by omega) (by omega)).mono ?_
  rintro e w2 ⟨⟨r, hr0, hr3, rfl⟩, hc, hg⟩
  obtain ⟨r, rfl⟩ := Int.eq_ofNat_of_zero_le hr0
  have HS2 := Lib.hid ((HS1.out r (by omega)).keep hg hB)
  have HC2 := Lib.hid hc
  have HG2 := Lib.hid (Lib.grownBy_trans HG1.out hg)
  clear hc hg HC1 HG1 HS1
  have hr4 : r < 4 := by omega
  have SmD := Lib.hid (smF_drop r hr4)
  have HLn : Hid (4 - r = (dFs.drop r).length) := Lib.hid (by rw [List.length_drop]; rfl)
  go_wp2_with fail
  obtain ⟨n, hn⟩ : ∃ n, n = 4 - r := ⟨_, rfl⟩
  rw [← hn] at HS2 HLn ⊢
  have hn1 : 1 ≤ n := by omega
  have hn4 : n ≤ 4 := by omega
  obtain ⟨l0, hl0⟩ : ∃ l, l = dFs.drop r := ⟨_, rfl⟩
  rw [← hl0] at HS2 HLn SmD
  clear hn hr0 hr3 hl0
  refine (CO.out (N + 2) 4 _ HC2.out (by omega) (by omega) (by omega)).mono ?_
  rintro e w3 ⟨⟨b1, rfl⟩, hc, hg⟩
  have HS3 := Lib.hid (HS2.out.keep hg hB)
  have HC3 := Lib.hid hc
  have HG3 := Lib.hid (Lib.grownBy_trans HG2.out hg)
  clear hc hg HC2 HG2 HS2
  cases b1
  · go_wp2_with fail
    refine (CO.out (N + 2 + 2) 15 _ HC3.out (by omega) (by omega) (by omega)).mono ?_
    rintro e x1 ⟨⟨b2, rfl⟩, hc, hg⟩
    have S1 := Lib.hid (HS3.out.keep hg hB)
    have C1 := Lib.hid hc
    have G1 := Lib.hid (Lib.grownBy_trans HG3.out hg)
    clear hc hg HS3 HC3 HG3
    cases b2
    · go_wp2
      go_ret
      exact ⟨⟨_, _, rfl, S1.out.f SmD.out.1, SmD.out⟩, C1.out.mono (by omega), G1.out⟩
    go_wp2_with fail
    refine (CP.out _ (n : Int) _ C1.out (by omega) (by omega) (by omega)).mono ?_
    rintro e x2 ⟨⟨i, hi0, hi1, rfl⟩, hc, hg⟩
    obtain ⟨i, rfl⟩ := Int.eq_ofNat_of_zero_le hi0
    have S2 := Lib.hid (S1.out.keep hg hB)
    have C2 := Lib.hid hc
    have G2 := Lib.hid (Lib.grownBy_trans G1.out hg)
    clear hc hg S1 C1 G1
    go_wp2_with fail
    refine (CP.out _ 3 _ C2.out (by omega) (by omega) (by omega)).mono ?_
    rintro e x3 ⟨⟨c, hc0, hc1, rfl⟩, hc, hg⟩
    have S3 := Lib.hid (S2.out.keep hg hB)
    have C3 := Lib.hid hc
    have G3 := Lib.hid (Lib.grownBy_trans G2.out hg)
    have hBx : B < x3.heap.size := C3.out.lt
    clear hc hg S2 C2 G2
    have hc3 : c = 0 ∨ c = 1 ∨ c = 2 := by omega
    rcases hc3 with rfl | rfl | rfl
    · go_wp2_with fail
      refine (among_any B _ x3.heap.size 4 4 [12, 23, -1, 20] _ (C3.out.below (below_al _ _)) (by omega) (by omega) (by simp) rfl (by omega) (by omega) (alloc_ints _ _ _ _ rfl)).mono ?_
      rintro e x4 ⟨⟨z, _, rfl⟩, hc, hg⟩
      have hg4 := Lib.grownBy_trans (World.grownBy_alloc x3 _ (some B)) hg
      have S4 := Lib.hid (S3.out.keep hg4 hB)
      have C4 := Lib.hid hc
      have G4 := Lib.hid (Lib.grownBy_trans G3.out hg4)
      clear hc hg hg4 S3 C3 G3
      obtain ⟨g, o, cp, hv, hcp, hbg, hl, hf, hcell⟩ := S4.out.f SmD.out.1
      injection hv with e1 e2 e3
      injection e1 with e1
      injection e1 with e1 e4
      subst e1 e4 e3
      have HE2 := Lib.hid e2
      clear e2
      obtain ⟨x, hx⟩ : ∃ x, l0[i]? = some x := ⟨_, List.getElem?_eq_getElem (by rw [← HLn.out]; omega)⟩
      have HSet := Lib.hid (fun z => (AtF.set (base := w.heap.size) (v := .slice (some ⟨w.heap.size, r * 2, none⟩) n n) (by rw [HE2.out]) hcp hbg hl hf hcell hx z ByteArray.empty).1)
      have HSm := Lib.hid (fun z => smF_set SmD.out i (z, x.2) (SmD.out.2.2 x (List.mem_of_getElem? hx)))
      have HB5 := Lib.hid (fun a v => (Below.refl w.heap.size x4).setCell (p := ⟨_, a, none⟩) hbg v)
      have d0 := (hcell i x hx).1
      have f0 := hf
      have f1 := hf (r * 2 + i * 2)
      clear hcell hf hx f0
      go_wp2
      go_ret
      exact ⟨⟨_, _, rfl, HSet.out _, HSm.out _⟩, (C4.out.keep ((HB5.out _ _).mono hB)).mono (by omega), grown_belowF G4.out (HB5.out _ _)⟩
    · go_wp2_with fail
      refine (of_any B _ x3.heap.size 4 4 [⟨#[]⟩, ⟨#[73, 110, 103]⟩, ⟨#[97, 98, 99, 100, 101, 102, 103, 104, 105]⟩, ⟨#[97, 98, 99, 100, 101, 102, 103, 104]⟩] _ (C3.out.below (below_al _ _)) (by omega) (by omega) (by simp) rfl (by omega) (by omega) (alloc_strs _ _ _ _ rfl)).mono ?_
      rintro e x4 ⟨⟨z, hz, rfl⟩, hc, hg⟩
      have hz16 : z.size ≤ 16 := by simp at hz; rcases hz with rfl | rfl | rfl | rfl <;> decide
      have hg4 := Lib.grownBy_trans (World.grownBy_alloc x3 _ (some B)) hg
      have S4 := Lib.hid (S3.out.keep hg4 hB)
      have C4 := Lib.hid hc
      have G4 := Lib.hid (Lib.grownBy_trans G3.out hg4)
      clear hc hg hg4 S3 C3 G3 hz
      obtain ⟨g, o, cp, hv, hcp, hbg, hl, hf, hcell⟩ := S4.out.f SmD.out.1
      injection hv with e1 e2 e3
      injection e1 with e1
      injection e1 with e1 e4
      subst e1 e4 e3
      have HE2 := Lib.hid e2
      clear e2
      obtain ⟨x, hx⟩ : ∃ x, l0[i]? = some x := ⟨_, List.getElem?_eq_getElem (by rw [← HLn.out]; omega)⟩
      have HSet := Lib.hid (fun z => (AtF.set (base := w.heap.size) (v := .slice (some ⟨w.heap.size, r * 2, none⟩) n n) (by rw [HE2.out]) hcp hbg hl hf hcell hx 0 z).2)
      have HSm := Lib.hid (smF_set SmD.out i (x.1, z) hz16)
      have HB5 := Lib.hid (fun a v => (Below.refl w.heap.size x4).setCell (p := ⟨_, a, none⟩) hbg v)
      have d0 := (hcell i x hx).2
      have f1 := hf (r * 2 + i * 2 + 1)
      clear hcell hf hx
      go_wp2
      go_ret
      exact ⟨⟨_, _, rfl, HSet.out _, HSm.out⟩, (C4.out.keep ((HB5.out _ _).mono hB)).mono (by omega), grown_belowF G4.out (HB5.out _ _)⟩
    · go_wp2_with fail
      go_loopw [3, 5] (fun out kv wr => ∃ (ls : List Atm) (j : Nat), kv = .int .i64 j ∧ 13 ≤ j ∧ j ≤ 18 ∧ Hid (StF wr w.heap.size out ls) ∧ Hid (smF ls) ∧ ls.length ≤ 6 + (j - 13) ∧ Hid (Cur wr B (N + 30 + 2 * (j - 13))) ∧ Hid (w.grownBy wr (some B))) (fun _ kv _ => 18 - (intOf kv).toNat)
      case atStart => exact ⟨_, 13, rfl, Nat.le_refl _, by omega, S3, SmD, by rw [← HLn.out]; omega, Lib.hid (C3.out.mono (by omega)), G3⟩
      case round =>
        obtain ⟨ls, j, rfl, hj0, hj1, HS, Hsm, hlen, HC, HG⟩ := hrel
        obtain ⟨g, o, cp, rfl, hcp, hbg, hl, hf, hcell⟩ := HS.out.f Hsm.out.1
        obtain ⟨nl, hnl⟩ : ∃ n, n = ls.length := ⟨_, rfl⟩
        have HNl := Lib.hid hnl
        rw [← hnl] at hlen hcp HS ⊢
        clear hf hcell hnl hl hbg
        go_wp2_with fail
        refine (CP.out _ 2 _ HC.out (by omega) (by omega) (by omega)).mono ?_
        rintro e y1 ⟨⟨c2, hc0, hc1, rfl⟩, hc, hg⟩
        have S4 := Lib.hid (HS.out.keep hg hB)
        have C4 := Lib.hid hc
        have G4 := Lib.hid (Lib.grownBy_trans HG.out hg)
        clear hc hg HS HC HG
        by_cases hgo : (nl : Int) < 6 + c2 ∧ (j : Int) < 18
        · obtain ⟨hgo1, hgo2⟩ := hgo
          have hsz := G4.out.size
          go_wp2_with (at_builtin; refine push_end rfl (.tmp 68) (.tmp 71) rfl w.heap.size _ ls rfl S4.out Hsm.out.1 (j : Int) ⟨#[120]⟩ rfl hsz (by rw [← HNl.out]; omega) ?_)
          intro v5 y2 hown hb hblk
          have hown' := hown
          have S5 : Hid (StF y2 w.heap.size v5 (ls ++ [((j : Int), ⟨#[120]⟩)])) := Lib.hid (.inl hown)
          have Sm5 : Hid (smF (ls ++ [((j : Int), ⟨#[120]⟩)])) := Lib.hid (by
            obtain ⟨h1, h2, h3⟩ := Hsm.out
            refine ⟨by simp, by rw [List.length_append, ← HNl.out]; simp; omega, fun e he => ?_⟩
            rw [List.mem_append, List.mem_singleton] at he
            rcases he with he | rfl
            · exact h3 e he
            · show (⟨#[120]⟩ : ByteArray).size ≤ 16; decide)
          have C5 := Lib.hid ((C4.out.keep (hb.mono hB)).mono (show N + 30 + 2 * (j - 13) + 2 ≤ N + 30 + 2 * (j + 1 - 13) by omega))
          have G5 := Lib.hid (grown_belowF G4.out hb)
          clear hown hown' hb hblk S4 C4 G4
          go_wp2
          go_roundw
          case rel => exact ⟨_, j + 1, by go_num, by omega, by omega, S5, Sm5, by rw [List.length_append, ← HNl.out]; simp; omega, C5, G5⟩
          case measure => simp [intOf]; omega
        · have HAt : Hid (AtF y1 w.heap.size (.slice (some ⟨g, o, none⟩) nl cp) ls) := Lib.hid (S4.out.f Hsm.out.1)
          by_cases hgo1 : (nl : Int) < 6 + c2
          · have hgo2 : ¬ (j : Int) < 18 := fun h => hgo ⟨hgo1, h⟩
            clear hgo
            go_wp2
            go_ret
            exact ⟨⟨_, _, rfl, HAt.out, Hsm.out⟩, C4.out.mono (by omega), G4.out⟩
          · clear hgo
            go_wp2
            go_ret
            exact ⟨⟨_, _, rfl, HAt.out, Hsm.out⟩, C4.out.mono (by omega), G4.out⟩
  · go_wp2_with fail
    refine (CP.out (N + 2 + 2) 10 _ HC3.out (by omega) (by omega) (by omega)).mono ?_
    rintro e w4 ⟨⟨k, hk0, hk1, rfl⟩, hc, hg⟩
    have HS4 := Lib.hid (HS3.out.keep hg hB)
    have HC4 := Lib.hid hc
    have HG4 := Lib.hid (Lib.grownBy_trans HG3.out hg)
    have hB4 : B < w4.heap.size := HC4.out.lt
    clear hc hg HC3 HG3 HS3
    go_wp2_with fail
    refine (of_any B _ w4.heap.size 3 3 [⟨#[101, 114]⟩, ⟨#[108, 121]⟩, ⟨#[105, 110, 103]⟩] _ (HC4.out.below (below_al _ _)) (by omega) (by omega) (by simp) rfl (by omega) (by omega) (alloc_strs _ _ _ _ rfl)).mono ?_
    rintro e w5 ⟨⟨z, hz, rfl⟩, hc, hg⟩
    have hz16 : z.size ≤ 16 := by simp at hz; rcases hz with rfl | rfl | rfl <;> decide
    have hg5 := Lib.grownBy_trans (World.grownBy_alloc w4 _ (some B)) hg
    have HS5 := Lib.hid (HS4.out.keep hg5 hB)
    have HC5 := Lib.hid hc
    have HG5 := Lib.hid (Lib.grownBy_trans HG4.out hg5)
    clear hc hg hg5 HS4 HC4 HG4 hz
    go_wp2_with fail
    obtain ⟨y5, hy5⟩ : ∃ W, W = w5.alloc (.cells #[.int .i64 (13 + k), .string z] 61) := ⟨_, rfl⟩
    rw [← hy5]
    have hgy : w5.grownBy y5 (some B) := by rw [hy5]; exact World.grownBy_alloc _ _ _
    have HO : Hid (OwnF y5 w.heap.size (.slice (some ⟨w5.heap.size, 0, none⟩) 1 1) [((13 + k : Int), z)]) := Lib.hid (by
      rw [hy5]
      exact ownsRow_mono ⟨rfl, .inr ⟨w5.heap.size, 1, #[.int .i64 (13 + k), .string z], rfl, Nat.le_refl _, heap_alloc_new _ _, Nat.le_refl _, by decide, rfl, rfl⟩⟩ HG5.out.size)
    have HS5' := Lib.hid (HS5.out.keep hgy hB)
    have HC5' : Hid (Cur y5 B (N + 2 + 2 + 2 + 2)) := Lib.hid (by rw [hy5]; exact HC5.out.below (below_al _ _))
    have HG5' := Lib.hid (Lib.grownBy_trans HG5.out hgy)
    clear hgy HS5 HC5 HG5 hy5
    go_wp2_with fail
    refine (CP.out _ ((n : Int) + 1) _ HC5'.out (by omega) (by omega) (by omega)).mono ?_
    rintro e w6 ⟨⟨q, hq0, hq1, rfl⟩, hc, hg⟩
    obtain ⟨q, rfl⟩ := Int.eq_ofNat_of_zero_le hq0
    have HO6 : Hid (OwnF w6 w.heap.size (.slice (some ⟨w5.heap.size, 0, none⟩) 1 1) [((13 + k : Int), z)]) := Lib.hid (World.ownsRow.kept HO.out hg (.inr (fun e => by have := row_ge HO.out e; omega)))
    have HS6 := Lib.hid (HS5'.out.keep hg hB)
    have HC6 := Lib.hid hc
    have HG6 := Lib.hid (Lib.grownBy_trans HG5'.out hg)
    clear hc hg HS5' HC5' HG5' HO
    have hqn : q ≤ n := by omega
    have HCell : Hid (∀ j e, (l0.take q)[j]? = some e → w6.cell? ⟨w.heap.size, r * 2 + j * 2, none⟩ = some (.int .i64 e.1) ∧ w6.cell? ⟨w.heap.size, r * 2 + j * 2 + 1, none⟩ = some (.string e.2)) := Lib.hid (fun j e he => by
      obtain ⟨g, o, cp, hv, _, _, _, _, hcell⟩ := HS6.out.f SmD.out.1
      injection hv with e1 e2 e3
      injection e1 with e1
      injection e1 with e1 e4
      subst e1 e4
      have hj := (List.getElem?_eq_some_iff.1 he).1
      rw [List.length_take] at hj
      rw [List.getElem?_take_of_lt (by omega)] at he
      exact hcell j e he)
    have hsz6 := HG6.out.size
    clear HS6
    go_wp2_with (at_builtin; refine append_folds rfl _ _ rfl w.heap.size _ _ rfl HO6.out w.heap.size (r * 2) q n (l0.take q) (by rw [List.length_take, ← HLn.out]; omega) rfl HCell.out hsz6 (by simp) (by rw [List.length_take, ← HLn.out]; omega) ?_)
    intro v7 w7 hown hg7
    have hb7 : Below w.heap.size w6 w7 := (Below.refl _ _).grown hg7 hsz6 (fun j hj => row_ge HO6.out hj)
    have Sm7 : Hid (smF ([((13 + k : Int), z)] ++ l0.take q)) := Lib.hid (by
      refine ⟨by simp, by rw [List.length_append, List.length_take, ← HLn.out]; simp; omega, fun e he => ?_⟩
      rw [List.mem_append, List.mem_singleton] at he
      rcases he with rfl | he
      · exact hz16
      · exact SmD.out.2.2 e (List.mem_of_mem_take he))
    have HS7 : Hid (StF w7 w.heap.size v7 ([((13 + k : Int), z)] ++ l0.take q)) := Lib.hid (.inl hown)
    have HC7 := Lib.hid (HC6.out.keep (hb7.mono hB))
    have HG7 := Lib.hid (grown_belowF HG6.out hb7)
    have h5 : ([((13 + k : Int), z)] ++ l0.take q).length ≤ 5 := by rw [List.length_append, List.length_take, ← HLn.out]; simp; omega
    obtain ⟨ls7, hls7⟩ : ∃ l, l = [((13 + k : Int), z)] ++ l0.take q := ⟨_, rfl⟩
    rw [← hls7] at Sm7 HS7 h5
    obtain ⟨g7, o7, cp7, rfl, hcp7, _⟩ := HS7.out.f Sm7.out.1
    have hn71 : 1 ≤ ls7.length := Sm7.out.1
    obtain ⟨n7, hn7⟩ : ∃ n, n = ls7.length := ⟨_, rfl⟩
    rw [← hn7] at HS7 hcp7 h5 hn71 ⊢
    have HLn7 := Lib.hid hn7
    clear hown hg7 hb7 HC6 HG6 HO6 HCell hls7 hn7
    go_wp2_with fail
    refine (CO.out (N + 2 + 2 + 2 + 2 + 2) 15 _ HC7.out (by omega) (by omega) (by omega)).mono ?_
    rintro e x1 ⟨⟨b2, rfl⟩, hc, hg⟩
    have S1 := Lib.hid (HS7.out.keep hg hB)
    have C1 := Lib.hid hc
    have G1 := Lib.hid (Lib.grownBy_trans HG7.out hg)
    clear hc hg HS7 HC7 HG7
    cases b2
    · go_wp2
      go_ret
      exact ⟨⟨_, _, rfl, S1.out.f Sm7.out.1, Sm7.out⟩, C1.out.mono (by omega), G1.out⟩
    go_wp2_with fail
    refine (CP.out _ (n7 : Int) _ C1.out (by omega) (by omega) (by omega)).mono ?_
    rintro e x2 ⟨⟨i, hi0, hi1, rfl⟩, hc, hg⟩
    obtain ⟨i, rfl⟩ := Int.eq_ofNat_of_zero_le hi0
    have S2 := Lib.hid (S1.out.keep hg hB)
    have C2 := Lib.hid hc
    have G2 := Lib.hid (Lib.grownBy_trans G1.out hg)
    clear hc hg S1 C1 G1
    go_wp2_with fail
    refine (CP.out _ 3 _ C2.out (by omega) (by omega) (by omega)).mono ?_
    rintro e x3 ⟨⟨c, hc0, hc1, rfl⟩, hc, hg⟩
    have S3 := Lib.hid (S2.out.keep hg hB)
    have C3 := Lib.hid hc
    have G3 := Lib.hid (Lib.grownBy_trans G2.out hg)
    have hBx : B < x3.heap.size := C3.out.lt
    clear hc hg S2 C2 G2
    have hc3 : c = 0 ∨ c = 1 ∨ c = 2 := by omega
    rcases hc3 with rfl | rfl | rfl
    · go_wp2_with fail
      refine (among_any B _ x3.heap.size 4 4 [12, 23, -1, 20] _ (C3.out.below (below_al _ _)) (by omega) (by omega) (by simp) rfl (by omega) (by omega) (alloc_ints _ _ _ _ rfl)).mono ?_
      rintro e x4 ⟨⟨z, _, rfl⟩, hc, hg⟩
      have hg4 := Lib.grownBy_trans (World.grownBy_alloc x3 _ (some B)) hg
      have S4 := Lib.hid (S3.out.keep hg4 hB)
      have C4 := Lib.hid hc
      have G4 := Lib.hid (Lib.grownBy_trans G3.out hg4)
      clear hc hg hg4 S3 C3 G3
      obtain ⟨g, o, cp, hv, hcp, hbg, hl, hf, hcell⟩ := S4.out.f Sm7.out.1
      injection hv with e1 e2 e3
      injection e1 with e1
      injection e1 with e1 e4
      subst e1 e4 e3
      have HE2 := Lib.hid e2
      clear e2
      obtain ⟨x, hx⟩ : ∃ x, (ls7)[i]? = some x := ⟨_, List.getElem?_eq_getElem (by rw [← HLn7.out]; omega)⟩
      have HSet := Lib.hid (fun z => (AtF.set (base := w.heap.size) (v := .slice (some ⟨g7, o7, none⟩) n7 cp7) (by rw [HE2.out]) hcp hbg hl hf hcell hx z ByteArray.empty).1)
      have HSm := Lib.hid (fun z => smF_set Sm7.out i (z, x.2) (Sm7.out.2.2 x (List.mem_of_getElem? hx)))
      have HB5 := Lib.hid (fun a v => (Below.refl w.heap.size x4).setCell (p := ⟨_, a, none⟩) hbg v)
      have d0 := (hcell i x hx).1
      have f0 := hf
      have f1 := hf (o7 + i * 2)
      clear hcell hf hx f0
      go_wp2
      go_ret
      exact ⟨⟨_, _, rfl, HSet.out _, HSm.out _⟩, (C4.out.keep ((HB5.out _ _).mono hB)).mono (by omega), grown_belowF G4.out (HB5.out _ _)⟩
    · go_wp2_with fail
      refine (of_any B _ x3.heap.size 4 4 [⟨#[]⟩, ⟨#[73, 110, 103]⟩, ⟨#[97, 98, 99, 100, 101, 102, 103, 104, 105]⟩, ⟨#[97, 98, 99, 100, 101, 102, 103, 104]⟩] _ (C3.out.below (below_al _ _)) (by omega) (by omega) (by simp) rfl (by omega) (by omega) (alloc_strs _ _ _ _ rfl)).mono ?_
      rintro e x4 ⟨⟨z, hz, rfl⟩, hc, hg⟩
      have hz16 : z.size ≤ 16 := by simp at hz; rcases hz with rfl | rfl | rfl | rfl <;> decide
      have hg4 := Lib.grownBy_trans (World.grownBy_alloc x3 _ (some B)) hg
      have S4 := Lib.hid (S3.out.keep hg4 hB)
      have C4 := Lib.hid hc
      have G4 := Lib.hid (Lib.grownBy_trans G3.out hg4)
      clear hc hg hg4 S3 C3 G3 hz
      obtain ⟨g, o, cp, hv, hcp, hbg, hl, hf, hcell⟩ := S4.out.f Sm7.out.1
      injection hv with e1 e2 e3
      injection e1 with e1
      injection e1 with e1 e4
      subst e1 e4 e3
      have HE2 := Lib.hid e2
      clear e2
      obtain ⟨x, hx⟩ : ∃ x, (ls7)[i]? = some x := ⟨_, List.getElem?_eq_getElem (by rw [← HLn7.out]; omega)⟩
      have HSet := Lib.hid (fun z => (AtF.set (base := w.heap.size) (v := .slice (some ⟨g7, o7, none⟩) n7 cp7) (by rw [HE2.out]) hcp hbg hl hf hcell hx 0 z).2)
      have HSm := Lib.hid (smF_set Sm7.out i (x.1, z) hz16)
      have HB5 := Lib.hid (fun a v => (Below.refl w.heap.size x4).setCell (p := ⟨_, a, none⟩) hbg v)
      have d0 := (hcell i x hx).2
      have f1 := hf (o7 + i * 2 + 1)
      clear hcell hf hx
      go_wp2
      go_ret
      exact ⟨⟨_, _, rfl, HSet.out _, HSm.out⟩, (C4.out.keep ((HB5.out _ _).mono hB)).mono (by omega), grown_belowF G4.out (HB5.out _ _)⟩
    · go_wp2_with fail
      go_loopw [3, 5] (fun out kv wr => ∃ (ls : List Atm) (j : Nat), kv = .int .i64 j ∧ 13 ≤ j ∧ j ≤ 18 ∧ Hid (StF wr w.heap.size out ls) ∧ Hid (smF ls) ∧ ls.length ≤ 6 + (j - 13) ∧ Hid (Cur wr B (N + 30 + 2 * (j - 13))) ∧ Hid (w.grownBy wr (some B))) (fun _ kv _ => 18 - (intOf kv).toNat)
      case atStart => exact ⟨_, 13, rfl, Nat.le_refl _, by omega, S3, Sm7, by rw [← HLn7.out]; omega, Lib.hid (C3.out.mono (by omega)), G3⟩
      case round =>
        obtain ⟨ls, j, rfl, hj0, hj1, HS, Hsm, hlen, HC, HG⟩ := hrel
        obtain ⟨g, o, cp, rfl, hcp, hbg, hl, hf, hcell⟩ := HS.out.f Hsm.out.1
        obtain ⟨nl, hnl⟩ : ∃ n, n = ls.length := ⟨_, rfl⟩
        have HNl := Lib.hid hnl
        rw [← hnl] at hlen hcp HS ⊢
        clear hf hcell hnl hl hbg
        go_wp2_with fail
        refine (CP.out _ 2 _ HC.out (by omega) (by omega) (by omega)).mono ?_
        rintro e y1 ⟨⟨c2, hc0, hc1, rfl⟩, hc, hg⟩
        have S4 := Lib.hid (HS.out.keep hg hB)
        have C4 := Lib.hid hc
        have G4 := Lib.hid (Lib.grownBy_trans HG.out hg)
        clear hc hg HS HC HG
        by_cases hgo : (nl : Int) < 6 + c2 ∧ (j : Int) < 18
        · obtain ⟨hgo1, hgo2⟩ := hgo
          have hsz := G4.out.size
          go_wp2_with (at_builtin; refine push_end rfl (.tmp 68) (.tmp 71) rfl w.heap.size _ ls rfl S4.out Hsm.out.1 (j : Int) ⟨#[120]⟩ rfl hsz (by rw [← HNl.out]; omega) ?_)
          intro v5 y2 hown hb hblk
          have hown' := hown
          have S5 : Hid (StF y2 w.heap.size v5 (ls ++ [((j : Int), ⟨#[120]⟩)])) := Lib.hid (.inl hown)
          have Sm5 : Hid (smF (ls ++ [((j : Int), ⟨#[120]⟩)])) := Lib.hid (by
            obtain ⟨h1, h2, h3⟩ := Hsm.out
            refine ⟨by simp, by rw [List.length_append, ← HNl.out]; simp; omega, fun e he => ?_⟩
            rw [List.mem_append, List.mem_singleton] at he
            rcases he with he | rfl
            · exact h3 e he
            · show (⟨#[120]⟩ : ByteArray).size ≤ 16; decide)
          have C5 := Lib.hid ((C4.out.keep (hb.mono hB)).mono (show N + 30 + 2 * (j - 13) + 2 ≤ N + 30 + 2 * (j + 1 - 13) by omega))
          have G5 := Lib.hid (grown_belowF G4.out hb)
          clear hown hown' hb hblk S4 C4 G4
          go_wp2
          go_roundw
          case rel => exact ⟨_, j + 1, by go_num, by omega, by omega, S5, Sm5, by rw [List.length_append, ← HNl.out]; simp; omega, C5, G5⟩
          case measure => simp [intOf]; omega
        · have HAt : Hid (AtF y1 w.heap.size (.slice (some ⟨g, o, none⟩) nl cp) ls) := Lib.hid (S4.out.f Hsm.out.1)
          by_cases hgo1 : (nl : Int) < 6 + c2
          · have hgo2 : ¬ (j : Int) < 18 := fun h => hgo ⟨hgo1, h⟩
            clear hgo
            go_wp2
            go_ret
            exact ⟨⟨_, _, rfl, HAt.out, Hsm.out⟩, C4.out.mono (by omega), G4.out⟩
          · clear hgo
            go_wp2
            go_ret
            exact ⟨⟨_, _, rfl, HAt.out, Hsm.out⟩, C4.out.mono (by omega), G4.out⟩
end Go.Proofs.YtjmiackiikbodaaGreat

namespace Go.Proofs.YtjmiackiikbodaaGreat
set_option maxRecDepth 100000
open Go.RowKit

theorem rBig_no (a : Option Addr) (n cap : Nat) (w : World) (h : n ≤ 65536) :
    Calls Tryz.prog 28 #[.slice a n cap] w fun e w' => e = .returned (.bool false) ∧ w = w' := by
  go_enter Tryz.func28, Tryz.ntmps28
  go_wp2
  go_ret
  exact ⟨ret_bool (by simp; omega), rfl⟩
theorem rBig_yes (a : Option Addr) (n cap : Nat) (w : World) (h : 65536 < n) (_hn : n ≤ maxLen) :
    Calls Tryz.prog 28 #[.slice a n cap] w fun e w' => e = .returned (.bool true) ∧ w = w' := by
  go_enter Tryz.func28, Tryz.ntmps28
  go_wp2
  go_ret
  exact ⟨ret_bool (by simp; omega), rfl⟩
theorem rI_any (v u : Value) (xs ys : List Int) (w : World) (h : IntsAt w v xs) (h' : IntsAt w u ys) (hn : xs.length ≤ 2097152) (hm : ys.length ≤ 2097152) :
    Calls Tryz.prog 79 #[v, u] w fun e w' => e = .returned (.bool (decide (xs = ys))) ∧ Below w.heap.size w w' := by
  obtain ⟨a, cap, rfl, hcap, hC⟩ := h.cells
  obtain ⟨b, cap', rfl, hcap', hD⟩ := h'.cells
  obtain ⟨n, hnn⟩ : ∃ n, n = xs.length := ⟨_, rfl⟩
  obtain ⟨m, hmm⟩ : ∃ m, m = ys.length := ⟨_, rfl⟩
  rw [← hnn] at hn hcap ⊢
  rw [← hmm] at hm hcap' ⊢
  have HN := Lib.hid hnn
  have HM := Lib.hid hmm
  have HC := Lib.hid hC
  have HD := Lib.hid hD
  clear h h' hnn hmm hC hD
  by_cases hnm : n = m
  · have hnb : ((n : Int) != (m : Int)) = false := by rw [bne_eq_false_iff_eq]; omega
    go_enter Tryz.func79, Tryz.ntmps79
    go_wp2_with fail
    go_loopw [5] (fun i wr => ∃ k : Nat, i = .int .i64 k ∧ k ≤ n ∧ Hid (xs.take k = ys.take k) ∧ Below w.heap.size w wr) (fun i _ => n - (intOf i).toNat)
    case atStart => exact ⟨0, rfl, Nat.zero_le _, Lib.hid rfl, Below.refl _ _⟩
    case round =>
      obtain ⟨k, rfl, hk, HT, hbel⟩ := hrel
      by_cases hlt : k < n
      · obtain ⟨x, hx⟩ : ∃ x, xs[k]? = some x := ⟨_, List.getElem?_eq_getElem (by rw [← HN.out]; exact hlt)⟩
        obtain ⟨y, hy⟩ : ∃ y, ys[k]? = some y := ⟨_, List.getElem?_eq_getElem (by rw [← HM.out, ← hnm]; exact hlt)⟩
        obtain ⟨bk, o, rfl, _, g0⟩ := HC.out wr hbel k x hx
        obtain ⟨bk', o', rfl, _, g1⟩ := HD.out wr hbel k y hy
        by_cases he : x = y
        · subst he
          have HT2 := Lib.hid (Pl.take_next HT.out hx hy)
          clear hx hy HT
          go_wp2_with fail
          go_quiet (fail)
          go_wp2
          go_roundw
          case rel => exact ⟨k + 1, by go_num, by omega, HT2, below_drewN hbel _⟩
          case measure => simp [intOf]; omega
        · have HF : Hid (decide (xs = ys) = false) := by
            show decide _ = false
            rw [decide_eq_false_iff_not]
            intro e
            rw [e, hy] at hx
            injection hx with hx
            exact he hx.symm
          have hxy : (x != y) = true := by rw [bne_iff_ne]; exact he
          clear hx hy HT he
          go_wp2_with fail
          go_quiet (fail)
          go_wp2
          go_ret
          exact ⟨ret_bool HF.out.symm, below_drewN hbel _⟩
      · obtain rfl : k = n := by omega
        have HF : Hid (decide (xs = ys) = true) := by
          show decide _ = true
          rw [decide_eq_true_iff]
          have h3 := HT.out
          rw [List.take_of_length_le (by rw [← HN.out]; exact Nat.le_refl _), List.take_of_length_le (by rw [← HM.out, ← hnm]; exact Nat.le_refl _)] at h3
          exact h3
        clear HT
        go_wp2
        go_ret
        exact ⟨ret_bool HF.out.symm, hbel⟩
  · have hnb : ((n : Int) != (m : Int)) = true := by rw [bne_iff_ne]; omega
    have HF : Hid (decide (xs = ys) = false) := by
      show decide _ = false
      rw [decide_eq_false_iff_not]
      intro e
      exact hnm (by rw [HN.out, HM.out, e])
    clear hnm
    go_enter Tryz.func79, Tryz.ntmps79
    go_wp2_with fail
    go_ret
    exact ⟨ret_bool HF.out.symm, Below.refl _ _⟩
end Go.Proofs.YtjmiackiikbodaaGreat

namespace Go.Proofs.YtjmiackiikbodaaGreat
set_option maxRecDepth 100000
open Go.RowKit

def DF1 (r : Ending) : Prop := ∃ (k : Int) (t : ByteArray), r = .returned (atV k t) ∧ t.size ≤ 16
theorem fd_box (w : World) (x y : Value) (T : TypeId) : (w.alloc (.cells #[x, y] T)).heap[w.heap.size]? = some (.cells #[x, y] T (0, 0)) := heap_alloc_new w _
/-- A world in which the cell of a row is seen. -/
structure SeenO (g i : Nat) (z : Int) where
  world : World
  cell : world.cell? ⟨g, i, none⟩ = some (.int .i64 z)
theorem grown_row {w w1 w2 : World} {B : Nat} {row : Option Nat} (h : w.grownBy w1 (some B)) (hg : w1.grownBy w2 row) (hr : ∀ k, row = some k → w.heap.size ≤ k) : w.grownBy w2 (some B) :=
  grown_belowF h ((Below.refl w.heap.size w1).grown hg h.size hr)
theorem row_setI {w : World} {base g n : Nat} {oc : Nat} {xs : List Int} (h : w.ownsRow base 3 1 (.slice (some ⟨g, 0, none⟩) n oc) n (xs.map (.int .i64))) (i : Nat) (hi : i < n) (z : Int) (hz : xs[i]? = some z) (X : Int) :
    w.frozen? ⟨g, i, none⟩ = false ∧ w.cell? ⟨g, i, none⟩ = some (.int .i64 z) ∧ (w.setCell ⟨g, i, none⟩ (.int .i64 X)).ownsRow base 3 1 (.slice (some ⟨g, 0, none⟩) n oc) n ((xs.set i X).map (.int .i64)) := by
  obtain ⟨g', cap', hv', _, _, _, hf', hcell', hrow'⟩ := own_setC h (by omega) i (by omega) (.int .i64 X)
  cases hv'
  have hm : (xs.map (Value.int .i64)).set i (.int .i64 X) = (xs.set i X).map (.int .i64) := by rw [List.map_set]
  rw [hm] at hrow'
  exact ⟨hf', hcell' (.int .i64 z) (by rw [List.getElem?_map, hz]; rfl), hrow'⟩
set_option maxHeartbeats 2000000 in
theorem drawFoldOutline_any (B N base : Nat) (v : Value) (us : List (Value × Ent)) (w : World) (h : Cur w B N) (hr : Rows w base v us) (hB : B < base) (hl : us.length ≤ 60) (hs : ∀ p ∈ us, p.2.1.length ≤ 8 ∧ p.2.2.size ≤ 60) (hN : N ≤ 500000) :
    Calls Tryz.prog 69 #[.pointer (some ⟨B, 0, none⟩), dV v] w fun r w' => Drawn w.heap.size w' r ∧ Cur w' B (N + 400) ∧ w.grownBy w' (some B) := by
  obtain ⟨i0, hi, hz0, hz1, hz2⟩ := info_parts infoInt
  have hBw := h.lt
  have ck := fun w h hr hN => known_any B N base v us w h hr hB hl hs hN
  have CA := Lib.hid (fun M w h hM => anyOutline_any B M w h hM)
  have CP := Lib.hid (fun M n w h hM h0 h1 => pick_any B M n w h hM h0 h1)
  have CO := Lib.hid (fun M n w h hM h0 h1 => one_any B M n w h hM h0 h1)
  unfold Drawn dV at ck
  have CK := Lib.hid ck
  obtain ⟨va, vc, rfl⟩ := hr.form
  obtain ⟨m, hmm⟩ : ∃ m, m = us.length := ⟨_, rfl⟩
  unfold dV
  rw [← hmm] at CK hr ⊢
  obtain ⟨W, hW⟩ : ∃ W, W = (w.alloc (.cells #[.slice va m vc] 33)).alloc (.cells #[] 3) := ⟨_, rfl⟩
  have HW := Lib.hid hW
  have hbW : Below w.heap.size w W := by rw [hW]; exact below_al2 _ _ _
  have HC := Lib.hid (h.below hbW)
  have HR := Lib.hid (hr.below hbW)
  have HG := Lib.hid (grown_belowF (World.grownBy.refl w (some B)) hbW)
  have HRow : Hid (W.ownsRow (w.heap.size + 1) 3 1 (.slice (some ⟨w.heap.size + 1, 0, none⟩) 0 0) 0 []) := Lib.hid (by
    have := row_new (w.alloc (.cells #[.slice va m vc] 33)) 3
    rw [World.size_alloc] at this
    rw [hW]; exact this)
  clear h hr hW hbW ck hmm
  go_enter Tryz.func69, Tryz.ntmps69
  go_wp2_with fail
  rw [← HW.out]
  refine (CK.out W HC.out HR.out (by omega)).mono ?_
  rintro r w1 ⟨⟨u, xs, rfl, hu, hxl⟩, hc, hg⟩
  have HU1 := Lib.hid (row_M hu)
  have HC1 := Lib.hid hc
  have HG1 := Lib.hid (Lib.grownBy_trans HG.out hg)
  have HRow1 := Lib.hid (World.ownsRow.kept HRow.out hg (.inr (fun e => by simp [Value.ownBlock] at e; omega)))
  have hs1 : w.heap.size + 1 ≤ w1.heap.size := Nat.le_trans (by have := (HRow.out.lt (k := w.heap.size + 1) rfl).2; omega) hg.size
  clear hu hc hg HC HG HRow HR HW
  go_wp2_with (at_builtin; refine append_ints hi hz0 hz1 hz2 rfl _ _ rfl (w.heap.size + 1) _ [] rfl HRow1.out u xs rfl HU1.out hs1 (by simp) (by omega) ?_)
  intro v2 w2 hown hg2
  have HC2 := Lib.hid (HC1.out.own hg2 (fun k hk => by have := row_ge HRow1.out hk; omega))
  have HG2 := Lib.hid (grown_row HG1.out hg2 (fun k hk => by have := row_ge HRow1.out hk; omega))
  have hown' : w2.ownsRow (w.heap.size + 1) 3 1 v2 xs.length (xs.map (.int .i64)) := hown
  obtain ⟨oa, oc, rfl, _, _⟩ := (rowInts_at hown').cells
  obtain ⟨n, hn⟩ : ∃ n, n = xs.length := ⟨_, rfl⟩
  have HL := Lib.hid hn
  rw [← hn] at hown'
  have HO2 := Lib.hid hown'
  have hz8 : xs.length ≤ 8 := hxl
  have hn8 : n ≤ 8 := by omega
  have hs2 : w.heap.size + 1 ≤ w2.heap.size := Nat.le_trans hs1 hg2.size
  clear hown hown' hg2 HC1 HG1 HRow1 hn hs1
  simp only [← HL.out]
  go_wp2_with fail
  refine (CO.out _ 10 _ HC2.out (by omega) (by omega) (by omega)).mono ?_
  rintro e w3 ⟨⟨b, rfl⟩, hc, hg⟩
  have HO3 := Lib.hid (World.ownsRow.kept HO2.out hg (.inr (fun e => absurd (row_ge (j := B) HO2.out e) (by omega))))
  have HC3 := Lib.hid hc
  have HG3 := Lib.hid (Lib.grownBy_trans HG2.out hg)
  have hs3 : w.heap.size + 1 ≤ w3.heap.size := Nat.le_trans hs2 hg.size
  clear hc hg HO2 HC2 HG2 hs2
  cases b
  · by_cases h0 : n = 0
    · have HN0 := Lib.hid h0
      have hn0 : ¬ (((n : Nat) : Int) > 0) := by omega
      clear h0
      go_wp2
      go_ret
      exact ⟨⟨_, xs, rfl, by rw [← HL.out]; exact ownsRow_mono HO3.out (Nat.le_succ _), hz8⟩, HC3.out.mono (by omega), HG3.out⟩
    · have hn0 : ((n : Nat) : Int) > 0 := by omega
      go_wp2_with fail
      refine (CP.out _ 3 _ HC3.out (by omega) (by omega) (by omega)).mono ?_
      rintro r z1 ⟨⟨c, hc0, hc1, rfl⟩, hc, hg⟩
      have HO1 := Lib.hid (World.ownsRow.kept HO3.out hg (.inr (fun e => absurd (row_ge (j := B) HO3.out e) (by omega))))
      have HC1 := Lib.hid hc
      have HG1 := Lib.hid (Lib.grownBy_trans HG3.out hg)
      clear hc hg HO3 HC3 HG3
      by_cases hcp : c > 0
      · obtain ⟨g, cap, hv, hcap, hbg, hl, hf, hcell, hrow⟩ := own_setC HO1.out (by omega) (n - 1) (by omega) (.int .i64 0)
        injection hv with e1 e2 e3
        subst e1
        obtain ⟨z, hz⟩ : ∃ z, (xs)[n - 1]? = some z := ⟨_, List.getElem?_eq_getElem (by rw [← HL.out]; omega)⟩
        have c0 := hcell (.int .i64 z) (by rw [List.getElem?_map, hz]; rfl)
        have HSet : Hid (∀ W : World, W.ownsRow (w.heap.size + 1) 3 1 (.slice (some ⟨g, 0, none⟩) n oc) n ((xs).map (.int .i64)) → ∀ X : Int, W.frozen? ⟨g, n - 1, none⟩ = false ∧ W.cell? ⟨g, n - 1, none⟩ = some (.int .i64 z) ∧ (W.setCell ⟨g, n - 1, none⟩ (.int .i64 X)).ownsRow (w.heap.size + 1) 3 1 (.slice (some ⟨g, 0, none⟩) n oc) n (((xs).set (n - 1) X).map (.int .i64))) := Lib.hid (fun W h X => row_setI h (n - 1) (by omega) z hz X)
        have hBg : B ≠ g := by omega
        have hi1 : (((n : Nat) : Int) - 1) = (((n - 1 : Nat)) : Int) := by omega
        obtain ⟨li, hli⟩ : ∃ i, i = n - 1 := ⟨_, rfl⟩
        rw [← hli] at c0 HSet hi1
        have kD : ∀ p : SeenO g li z, p.world.cell? ⟨g, li, none⟩ = some (.int .i64 z) := fun p => p.cell
        have hln : li < n := by omega
        have HLi := Lib.hid hli
        have HG1' := HG1
        have hsz1 := HG1.out.size
        clear hcell hrow hf e2 e3 hz hli hcap
        go_wp2_with fail
        refine Mx.wp_region_mix (S := fun w' => ∃ p : SeenO g li z, w' = p.world) (Mx.ofL [(0, 0), (1, 0), (2, 0), (3, 0), (4, 0), (5, 0), (6, 0), (7, 0), (8, 0), (9, 1), (10, 0), (11, 2), (12, 2), (13, 0), (14, 0), (15, 0), (16, 0), (17, 3)] .done) (by kernel_rfl) (by kernel_rfl) ⟨⟨z1.drew, c0⟩, rfl⟩ ?_
        repeat ((first | refine Mx.mix0 rfl ?_ | refine Mx.mix1 rfl ?_); go_big_quiet_step (rfl); refine wpQuiet_nil ?_)
        refine Mx.mix2 rfl ?_
        clear kD
        have HCell2 : ∀ o, Hid ((z1.alloc o).drew.cell? ⟨g, li, none⟩ = some (.int .i64 z)) := fun o => Lib.hid ((show (z1.alloc o).drew.cell? ⟨g, li, none⟩ = _ by rw [(below_drew1 (below_al z1 o)).cell hl]; exact c0))
        go_wp2
        refine Mx.mid_normal (fun _ => ⟨⟨_, (HCell2 _).out⟩, rfl⟩) ?_
        refine Mx.mix2 rfl ?_
        go_wp2_with fail
        refine (among_any B _ z1.heap.size 5 5 [18, 21, 20, 22, 19] _ (HC1.out.below (below_drew1 (below_al _ _))) (by omega) (by omega) (by simp [World.drew]) rfl (by omega) (by omega) (alloc_ints z1 _ _ _ rfl)).mono ?_
        rintro e z4 ⟨⟨q, hq, rfl⟩, hc, hg⟩
        have hg4 := Lib.grownBy_trans (grown_belowF (World.grownBy.refl z1 (some B)) (below_drew1 (below_al z1 _))) hg
        have HO5 := World.ownsRow.kept HO1.out hg4 (.inr (fun e => absurd (row_ge (j := B) HO1.out e) (by omega)))
        have HS4 := Lib.hid (HSet.out z4 HO5)
        obtain ⟨q, rfl, hq23⟩ : ∃ k : Nat, q = (k : Int) ∧ k < 23 := by
          simp only [List.mem_cons, List.not_mem_nil, or_false] at hq
          rcases hq with rfl | rfl | rfl | rfl | rfl
          · exact ⟨18, rfl, by omega⟩
          · exact ⟨21, rfl, by omega⟩
          · exact ⟨20, rfl, by omega⟩
          · exact ⟨22, rfl, by omega⟩
          · exact ⟨19, rfl, by omega⟩
        have hsh := shl_i64' q hq23
        have HC4 := Lib.hid hc
        have HG4 := Lib.hid (Lib.grownBy_trans HG1.out hg4)
        have HCell4 := Lib.hid (HSet.out z4 HO5 0).2.1
        have f0 := (HSet.out z4 HO5 0).1
        clear hg hg4 hc HO5 HSet HCell2 hq c0 HO1 HC1 HG1 HG1'
        go_wp2
        refine Mx.mid_normal (fun _ => ⟨⟨_, HCell4.out⟩, rfl⟩) ?_
        repeat (refine Mx.mix0 rfl ?_; go_big_quiet_step (rfl); refine wpQuiet_nil ?_)
        refine Mx.mix3 rfl ?_
        have c4 := HCell4.out
        go_wp2
        refine Mx.mid_normal (fun h => by cases h) ?_
        refine Mx.mix_nil ?_
        have HB5 := Lib.hid (fun X => (Below.refl w.heap.size z4).setCell (p := ⟨g, li, none⟩) (show w.heap.size ≤ g by omega) X)
        go_wp2
        go_ret
        exact ⟨⟨_, xs.set li _, rfl, by rw [List.length_set, ← HL.out]; exact ownsRow_mono (HS4.out _).2.2 (Nat.le_succ _), by rw [List.length_set]; exact hz8⟩, (HC4.out.keep ((HB5.out _).mono hBw)).mono (by omega), grown_belowF HG4.out (HB5.out _)⟩
      · go_wp2
        go_ret
        exact ⟨⟨_, xs, rfl, by rw [← HL.out]; exact ownsRow_mono HO1.out (Nat.le_succ _), hz8⟩, HC1.out.mono (by omega), HG1.out⟩
  · go_wp2_with fail
    refine (CA.out _ _ HC3.out (by omega)).mono ?_
    rintro e w4 ⟨⟨v4, ys, rfl, hr4, hy8⟩, hc, hg⟩
    have hr4' := ownsRow_mono hr4 (b' := w.heap.size + 1) hs3
    obtain ⟨oa4, oc4, rfl, _, _⟩ := (rowInts_at hr4).cells
    obtain ⟨n4, hn4⟩ : ∃ n, n = ys.length := ⟨_, rfl⟩
    have HL4 := Lib.hid hn4
    rw [← hn4] at hr4' ⊢
    have HO4 := Lib.hid hr4'
    have HC4 := Lib.hid hc
    have HG4 := Lib.hid (Lib.grownBy_trans HG3.out hg)
    have hz8 : ys.length ≤ 8 := hy8
    have hn48 : n4 ≤ 8 := by omega
    clear hc hg HO3 HC3 HG3 hr4 hr4' hn4
    by_cases h0 : n4 = 0
    · have HN0 := Lib.hid h0
      have hn0 : ¬ (((n4 : Nat) : Int) > 0) := by omega
      clear h0
      go_wp2
      go_ret
      exact ⟨⟨_, ys, rfl, by rw [← HL4.out]; exact ownsRow_mono HO4.out (Nat.le_succ _), hz8⟩, HC4.out.mono (by omega), HG4.out⟩
    · have hn0 : ((n4 : Nat) : Int) > 0 := by omega
      go_wp2_with fail
      refine (CP.out _ 3 _ HC4.out (by omega) (by omega) (by omega)).mono ?_
      rintro r z1 ⟨⟨c, hc0, hc1, rfl⟩, hc, hg⟩
      have HO1 := Lib.hid (World.ownsRow.kept HO4.out hg (.inr (fun e => absurd (row_ge (j := B) HO4.out e) (by omega))))
      have HC1 := Lib.hid hc
      have HG1 := Lib.hid (Lib.grownBy_trans HG4.out hg)
      clear hc hg HO4 HC4 HG4
      by_cases hcp : c > 0
      · obtain ⟨g, cap, hv, hcap, hbg, hl, hf, hcell, hrow⟩ := own_setC HO1.out (by omega) (n4 - 1) (by omega) (.int .i64 0)
        injection hv with e1 e2 e3
        subst e1
        obtain ⟨z, hz⟩ : ∃ z, (ys)[n4 - 1]? = some z := ⟨_, List.getElem?_eq_getElem (by rw [← HL4.out]; omega)⟩
        have c0 := hcell (.int .i64 z) (by rw [List.getElem?_map, hz]; rfl)
        have HSet : Hid (∀ W : World, W.ownsRow (w.heap.size + 1) 3 1 (.slice (some ⟨g, 0, none⟩) n4 oc4) n4 ((ys).map (.int .i64)) → ∀ X : Int, W.frozen? ⟨g, n4 - 1, none⟩ = false ∧ W.cell? ⟨g, n4 - 1, none⟩ = some (.int .i64 z) ∧ (W.setCell ⟨g, n4 - 1, none⟩ (.int .i64 X)).ownsRow (w.heap.size + 1) 3 1 (.slice (some ⟨g, 0, none⟩) n4 oc4) n4 (((ys).set (n4 - 1) X).map (.int .i64))) := Lib.hid (fun W h X => row_setI h (n4 - 1) (by omega) z hz X)
        have hBg : B ≠ g := by omega
        have hi1 : (((n4 : Nat) : Int) - 1) = (((n4 - 1 : Nat)) : Int) := by omega
        obtain ⟨li, hli⟩ : ∃ i, i = n4 - 1 := ⟨_, rfl⟩
        rw [← hli] at c0 HSet hi1
        have kD : ∀ p : SeenO g li z, p.world.cell? ⟨g, li, none⟩ = some (.int .i64 z) := fun p => p.cell
        have hln : li < n4 := by omega
        have HLi := Lib.hid hli
        have HG1' := HG1
        have hsz1 := HG1.out.size
        clear hcell hrow hf e2 e3 hz hli hcap
        go_wp2_with fail
        refine Mx.wp_region_mix (S := fun w' => ∃ p : SeenO g li z, w' = p.world) (Mx.ofL [(0, 0), (1, 0), (2, 0), (3, 0), (4, 0), (5, 0), (6, 0), (7, 0), (8, 0), (9, 1), (10, 0), (11, 2), (12, 2), (13, 0), (14, 0), (15, 0), (16, 0), (17, 3)] .done) (by kernel_rfl) (by kernel_rfl) ⟨⟨z1.drew, c0⟩, rfl⟩ ?_
        repeat ((first | refine Mx.mix0 rfl ?_ | refine Mx.mix1 rfl ?_); go_big_quiet_step (rfl); refine wpQuiet_nil ?_)
        refine Mx.mix2 rfl ?_
        clear kD
        have HCell2 : ∀ o, Hid ((z1.alloc o).drew.cell? ⟨g, li, none⟩ = some (.int .i64 z)) := fun o => Lib.hid ((show (z1.alloc o).drew.cell? ⟨g, li, none⟩ = _ by rw [(below_drew1 (below_al z1 o)).cell hl]; exact c0))
        go_wp2
        refine Mx.mid_normal (fun _ => ⟨⟨_, (HCell2 _).out⟩, rfl⟩) ?_
        refine Mx.mix2 rfl ?_
        go_wp2_with fail
        refine (among_any B _ z1.heap.size 5 5 [18, 21, 20, 22, 19] _ (HC1.out.below (below_drew1 (below_al _ _))) (by omega) (by omega) (by simp [World.drew]) rfl (by omega) (by omega) (alloc_ints z1 _ _ _ rfl)).mono ?_
        rintro e z4 ⟨⟨q, hq, rfl⟩, hc, hg⟩
        have hg4 := Lib.grownBy_trans (grown_belowF (World.grownBy.refl z1 (some B)) (below_drew1 (below_al z1 _))) hg
        have HO5 := World.ownsRow.kept HO1.out hg4 (.inr (fun e => absurd (row_ge (j := B) HO1.out e) (by omega)))
        have HS4 := Lib.hid (HSet.out z4 HO5)
        obtain ⟨q, rfl, hq23⟩ : ∃ k : Nat, q = (k : Int) ∧ k < 23 := by
          simp only [List.mem_cons, List.not_mem_nil, or_false] at hq
          rcases hq with rfl | rfl | rfl | rfl | rfl
          · exact ⟨18, rfl, by omega⟩
          · exact ⟨21, rfl, by omega⟩
          · exact ⟨20, rfl, by omega⟩
          · exact ⟨22, rfl, by omega⟩
          · exact ⟨19, rfl, by omega⟩
        have hsh := shl_i64' q hq23
        have HC4 := Lib.hid hc
        have HG4 := Lib.hid (Lib.grownBy_trans HG1.out hg4)
        have HCell4 := Lib.hid (HSet.out z4 HO5 0).2.1
        have f0 := (HSet.out z4 HO5 0).1
        clear hg hg4 hc HO5 HSet HCell2 hq c0 HO1 HC1 HG1 HG1'
        go_wp2
        refine Mx.mid_normal (fun _ => ⟨⟨_, HCell4.out⟩, rfl⟩) ?_
        repeat (refine Mx.mix0 rfl ?_; go_big_quiet_step (rfl); refine wpQuiet_nil ?_)
        refine Mx.mix3 rfl ?_
        have c4 := HCell4.out
        go_wp2
        refine Mx.mid_normal (fun h => by cases h) ?_
        refine Mx.mix_nil ?_
        have HB5 := Lib.hid (fun X => (Below.refl w.heap.size z4).setCell (p := ⟨g, li, none⟩) (show w.heap.size ≤ g by omega) X)
        go_wp2
        go_ret
        exact ⟨⟨_, ys.set li _, rfl, by rw [List.length_set, ← HL4.out]; exact ownsRow_mono (HS4.out _).2.2 (Nat.le_succ _), by rw [List.length_set]; exact hz8⟩, (HC4.out.keep ((HB5.out _).mono hBw)).mono (by omega), grown_belowF HG4.out (HB5.out _)⟩
      · go_wp2
        go_ret
        exact ⟨⟨_, ys, rfl, by rw [← HL4.out]; exact ownsRow_mono HO1.out (Nat.le_succ _), hz8⟩, HC1.out.mono (by omega), HG1.out⟩
end Go.Proofs.YtjmiackiikbodaaGreat

namespace Go.Proofs.YtjmiackiikbodaaGreat
set_option maxRecDepth 100000
open Go.RowKit

theorem results_tF2 {fn : Func} {p u : Tmp} (h : fn.results = #[.tmp u, .cell p 61]) (tmps : Array Value) (w : World) (g : Nat) (k : Int) (t : ByteArray)
    (hp : tmps.getD p undef = .pointer (some ⟨g, 0, none⟩)) (hg : w.heap[g]? = some (.cells #[.int .i64 k, .string t] 61 (0, 0))) :
    (results fn tmps).run Tryz.prog w = .ok (.tuple #[tmps.getD u undef, atV k t]) w := by
  have hr := run_loadVar_row (P := Tryz.prog) w g _ 61 _ _ _ hg Tryz.underlying61 rfl (by kernel_rfl)
  have hp' : tmps[p]?.getD undef = .pointer (some ⟨g, 0, none⟩) := by simpa using hp
  simp [results, h, hp', asAddr, hr, Result.andThen, atV]
/-- A drawn outline and a drawn fold. -/
def DOF (base : Nat) (w' : World) (r : Ending) : Prop := ∃ (v : Value) (xs : List Int) (k : Int) (t : ByteArray), r = .returned (.tuple #[v, atV k t]) ∧ IntsM w' v xs ∧ xs.length ≤ 8 ∧ t.size ≤ 16 ∧ ∀ b, v.ownBlock = some b → base ≤ b
/-- A world in which a fold's box is seen. -/
structure SeenF (D : Nat) (k : Int) (t : ByteArray) where
  world : World
  c0 : world.cell? ⟨D, 0, none⟩ = some (.int .i64 k)
  c1 : world.cell? ⟨D, 1, none⟩ = some (.string t)
end Go.Proofs.YtjmiackiikbodaaGreat

namespace Go.Proofs.YtjmiackiikbodaaGreat
set_option maxRecDepth 100000
open Go.RowKit

theorem results_dt3 {fn : Func} {p u x : Tmp} (h : fn.results = #[.cell p 33, .tmp u, .tmp x]) (tmps : Array Value) (w : World) (g : Nat) (v : Value)
    (hp : tmps.getD p undef = .pointer (some ⟨g, 0, none⟩)) (hg : BoxV w g 33 v) :
    (results fn tmps).run Tryz.prog w = .ok (.tuple #[dV v, tmps.getD u undef, tmps.getD x undef]) w := by
  have hr := run_loadVar_row (P := Tryz.prog) w g _ 33 _ _ _ hg Tryz.underlying33 rfl (by kernel_rfl)
  have hp' : tmps[p]?.getD undef = .pointer (some ⟨g, 0, none⟩) := by simpa using hp
  simp [results, h, hp', asAddr, hr, Result.andThen, dV]
/-- A drawn dictionary, drawn folds and a drawn outline. -/
def DLf (base : Nat) (w' : World) (r : Ending) : Prop := ∃ (v : Value) (us : List (Value × Ent)) (fv : Value) (fs : List Atm) (u : Value) (xs : List Int), r = .returned (.tuple #[dV v, fv, u]) ∧
  Rows w' base v us ∧ us.length ≤ 60 ∧ (∀ p ∈ us, p.2.1.length ≤ 8 ∧ p.2.2.size ≤ 60) ∧ AtF w' base fv fs ∧ smF fs ∧ IntsM w' u xs ∧ xs.length ≤ 8
theorem AtF.mono {w : World} {base base' : Nat} {v : Value} {ls : List Atm} (h : AtF w base v ls) (hb : base' ≤ base) : AtF w base' v ls := by
  obtain ⟨g, o, cap, hv, hc, hbg, hr⟩ := h
  exact ⟨g, o, cap, hv, hc, Nat.le_trans hb hbg, hr⟩
/-- What has been drawn, while the outline and perhaps another dictionary are drawn. -/
structure DL (w wx : World) (D : Nat) (v : Value) (us : List (Value × Ent)) (fv : Value) (fs : List Atm) (u : Value) (xs : List Int) (N : Nat) : Prop where
  box : BoxV wx D 33 v
  res : BoxV wx w.heap.size 33 (.slice none 0 0)
  rows : Rows wx (w.heap.size + 2) v us
  folds : AtF wx (D + 1) fv fs
  outl : IntsM wx u xs
  outB : ∀ b, u.ownBlock = some b → D < b
  cur : Cur wx (w.heap.size + 1) N
  low : Below w.heap.size w wx
  hD : w.heap.size + 1 < D
  hDs : D < wx.heap.size
theorem DL.keep {w wx wy : World} {D N N' : Nat} {v fv u : Value} {us : List (Value × Ent)} {fs : List Atm} {xs : List Int} (h : DL w wx D v us fv fs u xs N) (hg : wx.grownBy wy (some (w.heap.size + 1))) (hc : Cur wy (w.heap.size + 1) N') : DL w wy D v us fv fs u xs N' :=
  ⟨h.box.keep hg h.hD, h.res.grown hg (by simp), h.rows.keep hg (by omega), h.folds.keep hg (by have := h.hD; omega), ints_grown h.outl hg (fun j hj e => by have := h.outB j hj; have := h.hD; injection e with e; omega), h.outB, hc, h.low.grown hg h.low.size (fun b e => by injection e with e; omega), h.hD, Nat.lt_of_lt_of_le h.hDs hg.size⟩
/-- Another dictionary in the box. -/
theorem DL.put {w wx : World} {D N base : Nat} {v v' fv u : Value} {us us' : List (Value × Ent)} {fs : List Atm} {xs : List Int} (h : DL w wx D v us fv fs u xs N) (hr : Rows wx base v' us') (hb : D < base) : DL w (wx.setCell ⟨D, 0, none⟩ v') D v' us' fv fs u xs N :=
  ⟨h.box.set v', h.res.other (by have := h.hD; omega), (hr.setCell hb).mono (by have := h.hD; omega), h.folds.keep (grown_setC wx D 0 v') (by omega), ints_grown h.outl (grown_setC wx D 0 v') (fun j hj e => by have := h.outB j hj; injection e with e; omega), h.outB, h.cur.setCellA (by have := h.hD; omega) _ _, h.low.setCell (p := ⟨D, 0, none⟩) (by have := h.hD; show w.heap.size ≤ D; omega) _, h.hD, Nat.lt_of_lt_of_le h.hDs (grown_setC wx D 0 v').size⟩
/-- The dictionary in the result's box. -/
theorem DL.fin {w wx : World} {D N : Nat} {v fv u : Value} {us : List (Value × Ent)} {fs : List Atm} {xs : List Int} (h : DL w wx D v us fv fs u xs N) :
    BoxV (wx.setCell ⟨w.heap.size, 0, none⟩ v) w.heap.size 33 v ∧ Rows (wx.setCell ⟨w.heap.size, 0, none⟩ v) w.heap.size v us ∧ AtF (wx.setCell ⟨w.heap.size, 0, none⟩ v) w.heap.size fv fs ∧ IntsM (wx.setCell ⟨w.heap.size, 0, none⟩ v) u xs ∧ Below w.heap.size w (wx.setCell ⟨w.heap.size, 0, none⟩ v) :=
  ⟨h.res.set v, (h.rows.setCell (by omega)).mono (by omega), (h.folds.keep (grown_setC wx w.heap.size 0 v) (by have := h.hD; omega)).mono (by have := h.hD; omega), ints_grown h.outl (grown_setC wx w.heap.size 0 v) (fun j hj e => by have := h.outB j hj; have := h.hD; injection e with e; omega), h.low.setCell (p := ⟨w.heap.size, 0, none⟩) (Nat.le_refl _) _⟩
set_option maxHeartbeats 4000000 in
theorem drawLookupFolded_any (a : Option Addr) (n cap : Nat) (w : World) (h : CodeAt w a n) :
    Calls Tryz.prog 29 #[.slice a n cap] w fun r w' => DLf w.heap.size w' r ∧ Below w.heap.size w w' := by
  have cd := fun B N w h hN => dictionary_any B N w h hN
  have cy := fun B N w h hN => anyDictionary_any B N w h hN
  have cf := fun B N w h hN => drawFolds_any B N w h hN
  have co := fun B N base v us w h hr hB hl hs hN => drawFoldOutline_any B N base v us w h hr hB hl hs hN
  have C1 := Lib.hid (fun B N n w h hN h0 h1 => one_any B N n w h hN h0 h1)
  unfold DFs at cf
  unfold DDict at cy
  unfold dV at cd cy
  unfold dV Drawn at co
  have CD := Lib.hid cd
  have CY := Lib.hid cy
  have CF := Lib.hid cf
  have CO := Lib.hid co
  clear cd cy cf co
  obtain ⟨w0, hw0⟩ : ∃ W, W = (w.alloc (.cells #[.slice none 0 0] 33)).alloc (.cells #[.slice a n cap, .int .i64 0, .int .u64 0] 101) := ⟨_, rfl⟩
  have hb0 : Below w.heap.size w w0 := by rw [hw0]; exact below_al2 _ _ _
  have hs0 : w0.heap.size = w.heap.size + 1 + 1 := by rw [hw0]; simp
  have R0 : Hid (BoxV w0 w.heap.size 33 (.slice none 0 0)) := by rw [hw0]; exact (BoxV.new w _ _).below (below_al _ _) (by simp)
  have C0 : Hid (Cur w0 (w.heap.size + 1) 0) := by
    have e := cur_new (w.alloc (.cells #[.slice none 0 0] 33)) a n cap 101 (h.below (below_al _ _))
    rw [World.size_alloc] at e
    rw [hw0]; exact e
  have HB0 := Lib.hid hb0
  have HW0 := Lib.hid hw0
  clear h hb0 hw0
  go_enter Tryz.func29, Tryz.ntmps29
  go_wp2_with fail
  rw [← HW0.out]
  refine (CD.out _ _ _ C0.out (by omega)).mono ?_
  rintro r w1 ⟨⟨v, us, rfl, hr1, _, hl1, hx1⟩, hc1, hg1⟩
  obtain ⟨va, vc, hvf⟩ := hr1.form
  subst hvf
  have hs1 : w0.heap.size ≤ w1.heap.size := hg1.size
  have hb1 : Below w.heap.size w w1 := HB0.out.grown hg1 (by omega) (fun b e => by injection e with e; omega)
  obtain ⟨w2, hw2⟩ : ∃ W, W = w1.alloc (.cells #[.slice va us.length vc] 33) := ⟨_, rfl⟩
  have hbA : Below w1.heap.size w1 w2 := by rw [hw2]; exact below_al _ _
  have X2 : Hid (BoxV w2 w1.heap.size 33 (.slice va us.length vc)) := by rw [hw2]; exact BoxV.new _ _ _
  have R2 := Lib.hid ((R0.out.grown hg1 (by simp)).below hbA (by have := R0.out.lt; omega)) 
  have V2 := Lib.hid (hr1.below hbA)
  have C2 := Lib.hid (hc1.below hbA)
  have HB2 := Lib.hid (below_step hb1 hbA)
  have hs2 : w2.heap.size = w1.heap.size + 1 := by rw [hw2]; simp
  have HW2 := Lib.hid hw2
  have HX := Lib.hid hx1
  clear hr1 hx1 hc1 hg1 hb1 hbA hw2 R0 C0 HB0 HW0 CD
  go_wp2_with fail
  rw [← HW2.out]
  refine (CF.out _ _ w2 C2.out (by omega)).mono ?_
  rintro r w3 ⟨⟨fv, fs, rfl, hf3, hsm⟩, hc3, hg3⟩
  have hs3 : w2.heap.size ≤ w3.heap.size := hg3.size
  have X3 := Lib.hid (X2.out.keep hg3 (by omega))
  have R3 := Lib.hid (R2.out.grown hg3 (by simp))
  have V3 := Lib.hid (V2.out.keep hg3 (by omega))
  have C3 := Lib.hid hc3
  have F3 := Lib.hid hf3
  have HS := Lib.hid hsm
  have HB3 : Hid (Below w.heap.size w w3) := HB2.out.grown hg3 (by omega) (fun b e => by injection e with e; omega)
  have cX := X3.out.cell
  clear hf3 hsm hc3 hg3 X2 R2 V2 C2 HB2 HW2 CF
  go_wp2_with fail
  refine (CO.out _ _ w0.heap.size _ us w3 C3.out V3.out (by omega) (by omega) HX.out (by omega)).mono ?_
  rintro r w4 ⟨⟨u, xs, rfl, ho, hxl⟩, hc4, hg4⟩
  have HD : Hid (w1.heap.size < w4.heap.size) := Lib.hid (by have := hg4.size; omega)
  have L4 : Hid (DL w w4 w1.heap.size (.slice va us.length vc) us fv fs u xs _) := Lib.hid ⟨X3.out.keep hg4 (by omega), R3.out.grown hg4 (by simp), (V3.out.keep hg4 (by omega)).mono (by omega), (F3.out.keep hg4 (by omega)).mono (by omega), row_M ho, fun b hb => by have := (ho.lt b hb).1; omega, hc4, HB3.out.grown hg4 (by omega) (fun b e => by injection e with e; omega), by omega, by have := hg4.size; omega⟩
  clear ho hc4 hg4 X3 R3 V3 C3 F3 HB3 cX CO
  go_wp2_with fail
  refine (C1.out _ _ 20 w4 L4.out.cur (by omega) (by omega) (by omega)).mono ?_
  rintro r w5 ⟨⟨b, rfl⟩, hc5, hg5⟩
  have L5 := Lib.hid (L4.out.keep hg5 hc5)
  clear hc5 hg5 L4
  cases b
  · have cX := L5.out.box.cell
    have cR := L5.out.res.cell
    have fR := L5.out.res.frozen
    go_wp2
    obtain ⟨h1, h2, h3, h4, h5⟩ := L5.out.fin
    refine bodyPost_ret (results_dt3 rfl _ _ w.heap.size _ rfl h1) rfl ?_
    exact ⟨⟨_, us, _, fs, _, xs, rfl, h2, by omega, HX.out, h3, HS.out, h4, hxl⟩, h5⟩
  · go_wp2_with fail
    refine (CY.out _ _ w5 L5.out.cur (by omega)).mono ?_
    rintro r w6 ⟨⟨v', us', rfl, hr6, hl6, hx6⟩, hc6, hg6⟩
    obtain ⟨va', vc', rfl⟩ := hr6.form
    have L6 := Lib.hid (L5.out.keep hg6 hc6)
    have HX6 := Lib.hid hx6
    have hs5 := L5.out.hDs
    have L7 := Lib.hid (L6.out.put hr6 hs5)
    have cX := L6.out.box.cell
    have fX := L6.out.box.frozen
    have cR := L7.out.res.cell
    have fR := L7.out.res.frozen
    have cY := L7.out.box.cell
    clear hr6 hx6 hc6 hg6 L5 L6
    go_wp2
    obtain ⟨h1, h2, h3, h4, h5⟩ := L7.out.fin
    refine bodyPost_ret (results_dt3 rfl _ _ w.heap.size _ rfl h1) rfl ?_
    exact ⟨⟨_, us', _, fs, _, xs, rfl, h2, by omega, HX6.out, h3, HS.out, h4, hxl⟩, h5⟩
end Go.Proofs.YtjmiackiikbodaaGreat

namespace Go.Proofs.YtjmiackiikbodaaGreat.fnFoldLookup
open Go.ChangeShapes Go.WideShapes Go.ChangeAt Go.RowKit
open Go.ChangeMaps (open_string shut_string)
set_option linter.unusedVariables false
set_option maxRecDepth 100000

theorem own : ownKnob Tryz.prog.godebug = none := by kernel_rfl
theorem laidOut : laidOutB Tryz.prog = true := by kernel_rfl

/-- A slice of integers that came in. -/
def IsRow (k : IntKind) (w : World) (a : Option Addr) (len cap : Nat) (zs : List Int) : Prop :=
  (a = none ∧ len = 0 ∧ cap = 0 ∧ zs = []) ∨
  ∃ x, a = some x ∧ len ≤ cap ∧ cap ≤ maxLen ∧ zs.length = cap ∧ (∀ i, i < zs.length → w.cell? (x.add i) = some (.int k (zs.getD i 0))) ∧ ∀ n ∈ zs, (Lit.int k n).wf = true

theorem code_of {w : World} {a : Option Addr} {n c : Nat} {z : List Int} (h : IsRow .u8 w a n c z) (hn : n ≤ 1000000) : CodeAt w a n := by
  refine ⟨hn, fun h0 => ?_⟩
  rcases h with ⟨rfl, rfl, rfl, rfl⟩ | ⟨x, rfl, hl, hm, hz, hcell, hwz⟩
  · omega
  · obtain ⟨b, o, spot⟩ := x
    have h1 := hcell 0 (by omega)
    have hspot : spot = none := by simpa [Addr.add] using World.cell?_spot h1
    subst hspot
    refine ⟨b, o, rfl, ?_, fun i hi => ?_⟩
    · have : (w.cell? ⟨b, o, none⟩).isSome := by have := h1; simp [Addr.add] at this; rw [this]; rfl
      rcases Nat.lt_or_ge b w.heap.size with h' | h'
      · exact h'
      · simp [World.cell?, Array.getElem?_eq_none h'] at this
    · have h2 := hcell i (by omega)
      have h3 := bounds_u8 (hwz (z.getD i 0) (by rw [List.getD_eq_getElem?_getD, List.getElem?_eq_getElem (by omega)]; exact List.getElem_mem _))
      refine ⟨z.getD i 0, h3.1, h3.2, ?_⟩
      by_cases hi0 : i = 0
      · subst hi0; simpa [Addr.add] using h2
      · simpa [Addr.add, hi0] using h2
theorem row_len {w : World} {a : Option Addr} {n c : Nat} {z : List Int} (h : IsRow .u8 w a n c z) : n ≤ maxLen := by
  rcases h with ⟨_, rfl, _, _⟩ | ⟨x, _, hl, hm, _⟩
  · exact Nat.zero_le _
  · omega
theorem fdFind_some {es : List Ent} {xs : List Int} {t : ByteArray} {i : Int} : ∀ (fs : List Atm) (k : Nat), fdFind es xs k fs = some (t, i) → ∃ (j : Nat) (f : Atm), i = ((k + j : Nat) : Int) ∧ fs[j]? = some f ∧ fd1 es xs f = some t
  | [], k, h => by simp [fdFind] at h
  | f :: r, k, h => by
    unfold fdFind at h
    cases hf : fd1 es xs f with
    | some t' =>
      rw [hf] at h
      simp only [Option.some.injEq, Prod.mk.injEq] at h
      exact ⟨0, f, by rw [← h.2]; rfl, rfl, by rw [hf, h.1]⟩
    | none =>
      rw [hf] at h
      obtain ⟨j, g, h1, h2, h3⟩ := fdFind_some r (k + 1) h
      exact ⟨j + 1, g, by rw [h1]; congr 1; omega, by simpa using h2, h3⟩
theorem fd1_some {es : List Ent} {xs : List Int} {f : Atm} {t : ByteArray} (h : fd1 es xs f = some t) : ∃ s, unfB xs f.1 f.2 = true ∧ Pl.look (unfI xs f.1 f.2) es = some s ∧ fdB s f.1 f.2 = true ∧ fdT s f.1 f.2 = t := by
  unfold fd1 unL at h
  by_cases hb : unfB xs f.1 f.2 = true
  · rw [if_pos hb] at h
    cases hl : Pl.look (unfI xs f.1 f.2) es with
    | none => rw [hl] at h; simp at h
    | some s =>
      rw [hl] at h
      by_cases hd : fdB s f.1 f.2 = true
      · simp only [hd, if_true, Option.some.injEq] at h
        exact ⟨s, hb, rfl, hd, h⟩
      · simp [hd] at h
  · rw [if_neg hb] at h; simp at h
/-- Not found, found of itself, or found by a fold. -/
theorem lf_cases (es : List Ent) (fs : List Atm) (xs : List Int) : lfR es fs xs = none ∨ (∃ t, lfR es fs xs = some (t, -1) ∧ lupO xs es = some t) ∨
    ∃ (t : ByteArray) (j : Nat) (f : Atm) (s : ByteArray), lfR es fs xs = some (t, (j : Int)) ∧ fs[j]? = some f ∧ lupO xs es = none ∧ unfB xs f.1 f.2 = true ∧ lupO (unfI xs f.1 f.2) es = some s ∧ fdB s f.1 f.2 = true ∧ fdT s f.1 f.2 = t ∧ s.size ≤ 60 := by
  cases hok : (okD es && Pl.okFs fs)
  · exact .inl (lfR_no hok)
  · rw [lfR_yes hok]
    rw [Bool.and_eq_true] at hok
    cases hl : Pl.look xs es with
    | some t => exact .inr (.inl ⟨t, lfX_some hl, by rw [lupO_yes hok.1, hl]⟩)
    | none =>
      rw [lfX_none hl]
      cases hf : fdFind es xs 0 fs with
      | none => exact .inl rfl
      | some p =>
        obtain ⟨t, i⟩ := p
        obtain ⟨j, f, h1, h2, h3⟩ := fdFind_some fs 0 hf
        obtain ⟨s, g1, g2, g3, g4⟩ := fd1_some h3
        exact .inr (.inr ⟨t, j, f, s, by rw [h1, Nat.zero_add], h2, by rw [lupO_yes hok.1, hl], g1, by rw [lupO_yes hok.1, g2], g3, g4, look_size hok.1 g2⟩)
/-! ### THE WALK: the Go text returns true, and writes nothing that was there. -/
set_option maxRecDepth 100000 in
set_option maxHeartbeats 8000000 in
theorem walk (a0 : Option Addr) (n0 c0 : Nat) (z0 : List Int) (w : World) (hS : w.ShapedOpen Tryz.prog)  (w0 : IsRow .u8 w a0 n0 c0 z0) :
    Calls Tryz.prog 6 #[.slice a0 n0 c0] w fun e w' => e = .returned (.bool true) ∧ Below w.heap.size w w' := by
  have hnm := row_len w0
  by_cases hbig : 65536 < n0
  · have C := Lib.hid (rBig_yes a0 n0 c0 w hbig hnm)
    clear w0 hS hnm
    go_enter Tryz.func6, Tryz.ntmps6
    go_wp2_with fail
    refine C.out.mono ?_
    rintro e w1 ⟨rfl, rfl⟩
    go_wp2
    go_ret
    exact ⟨rfl, Below.refl _ _⟩
  · have C := Lib.hid (rBig_no a0 n0 c0 w (by omega))
    have HC0 := Lib.hid (code_of w0 (by omega))
    have cdr := fun w h => drawLookupFolded_any a0 n0 c0 w h
    unfold DLf dV at cdr
    have CDR := Lib.hid cdr
    clear w0 hS hnm hbig cdr
    go_enter Tryz.func6, Tryz.ntmps6
    go_wp2_with fail
    refine C.out.mono ?_
    rintro e w0 ⟨rfl, rfl⟩
    go_wp2_with fail
    refine (CDR.out _ HC0.out).mono ?_
    rintro e w1 ⟨⟨v, us, fv, fs, u, xs, rfl, hr, hl, hx, hf, hsm, hi, hxl⟩, hb1⟩
    have hat := hr.at.at
    have hlen : (us.map (·.2)).length ≤ 60 := by rw [List.length_map]; exact hl
    have hsm2 : ∀ e ∈ us.map (·.2), e.1.length ≤ 8 ∧ e.2.size ≤ 60 := by
      intro e he
      obtain ⟨p, hp, rfl⟩ := List.mem_map.1 he
      exact hx p hp
    obtain ⟨es, hes⟩ : ∃ es, es = us.map (·.2) := ⟨_, rfl⟩
    rw [← hes] at hat hlen hsm2
    clear hr hl hx hes us
    have hn2 : es.length ≤ 2097152 := by omega
    have hx2 : ∀ e ∈ es, entOk e := fun e he => by obtain ⟨p, q⟩ := hsm2 e he; exact ⟨by omega, by omega⟩
    obtain ⟨va, vc, rfl, hvc, _⟩ := hat.cells
    have hfn : fs.length ≤ 2097152 := by have := hsm.2.1; omega
    have hfx : ∀ f ∈ fs, f.2.size ≤ 1048576 := fun f hf => by have := hsm.2.2 f hf; omega
    have ci := fun w h hf hu => LookupFolded_any (.slice va es.length vc) es fv fs u xs w h hn2 hx2 hf hfn hfx hu (by omega)
    have cs := fun w h hf hu => specLookupFolded_any (.slice va es.length vc) es fv fs u xs w h hn2 hx2 hf hfn hfx hu (by omega)
    have ck := fun u ys w h hu hy => LookupD_any (.slice va es.length vc) es u ys w h hu hn2 hx2 hy
    unfold dV at ci cs ck
    have hcase := lf_cases es fs xs
    obtain ⟨fa, fc, rfl, hfc, hF⟩ := fd_at hf.at
    obtain ⟨m, hm⟩ : ∃ m, m = es.length := ⟨_, rfl⟩
    rw [← hm] at ci cs ck hvc hlen ⊢
    obtain ⟨fn, hfn'⟩ : ∃ fn, fn = fs.length := ⟨_, rfl⟩
    have HFl := Lib.hid hfn'
    rw [← hfn'] at ci cs hfc ⊢
    obtain ⟨W, hW⟩ : ∃ W, W = w1.alloc (.cells #[.slice va m vc] 33) := ⟨_, rfl⟩
    have hbA : Below w1.heap.size w1 W := by rw [hW]; exact below_al _ _
    have E0 : Hid (EntsAt W (.slice va m vc) es) := by rw [hm]; exact hat.below hbA
    have X0 : Hid (BoxV W w1.heap.size 33 (.slice va m vc)) := by rw [hW]; exact BoxV.new _ _ _
    have I0 := Lib.hid (hi.below hbA)
    have F0 : Hid (AtomsAt W (.slice fa fn fc) fs) := by rw [hfn']; exact hf.at.below hbA
    have HF := Lib.hid hF
    have L1 := Lib.hid hbA
    have B0 := Lib.hid (below_step hb1 hbA)
    have HW := Lib.hid hW
    have cX := X0.out.cell
    rw [HW.out] at cX
    clear hb1 hbA hW hi hf hF hat hm hfn' hsm2 hn2 hx2 HC0 C CDR hfn hfx
    rcases hcase with h1 | ⟨t, h1, h2⟩ | ⟨t, j, f, s, h1, hfj, h2, h3, h4, h5, h6, hss⟩
    · rw [h1, lfE_none] at ci cs
      have CI := Lib.hid ci
      have CS := Lib.hid cs
      clear ci cs ck h1
      go_wp2_with fail
      rw [← HW.out]
      refine (CI.out W E0.out F0.out I0.out).mono ?_
      rintro e v1 ⟨rfl, hb⟩
      have X1 := Lib.hid (X0.out.below hb X0.out.lt)
      have E1 := Lib.hid (E0.out.below hb)
      have F1 := Lib.hid (F0.out.below hb)
      have I1 := Lib.hid (I0.out.below hb)
      have D1 := Lib.hid hb
      have cX := X1.out.cell
      clear hb X0 E0 F0 I0 HW
      go_wp2_with fail
      refine (CS.out v1 E1.out F1.out I1.out).mono ?_
      rintro e v2 ⟨rfl, hb⟩
      have X2 := Lib.hid (X1.out.below hb X1.out.lt)
      have E2 := Lib.hid (E1.out.below hb)
      have I2 := Lib.hid (I1.out.below hb)
      have D2 := Lib.hid (D1.out.trans (hb.mono D1.out.size))
      have cX := X2.out.cell
      clear hb X1 E1 F1 I1 D1
      have hfin := below_step B0.out D2.out
      go_wp2
      go_ret
      exact ⟨rfl, hfin⟩
    · rw [h1, lfE_some] at ci cs
      have ck1 := fun w h hu => ck u xs w h hu (by omega)
      rw [h2, lkE_some] at ck1
      have CI := Lib.hid ci
      have CS := Lib.hid cs
      have CK := Lib.hid ck1
      clear ci cs ck ck1 h1 h2
      go_wp2_with fail
      rw [← HW.out]
      refine (CI.out W E0.out F0.out I0.out).mono ?_
      rintro e v1 ⟨rfl, hb⟩
      have X1 := Lib.hid (X0.out.below hb X0.out.lt)
      have E1 := Lib.hid (E0.out.below hb)
      have F1 := Lib.hid (F0.out.below hb)
      have I1 := Lib.hid (I0.out.below hb)
      have D1 := Lib.hid hb
      have cX := X1.out.cell
      clear hb X0 E0 F0 I0 HW
      go_wp2_with fail
      refine (CS.out v1 E1.out F1.out I1.out).mono ?_
      rintro e v2 ⟨rfl, hb⟩
      have X2 := Lib.hid (X1.out.below hb X1.out.lt)
      have E2 := Lib.hid (E1.out.below hb)
      have I2 := Lib.hid (I1.out.below hb)
      have D2 := Lib.hid (D1.out.trans (hb.mono D1.out.size))
      have cX := X2.out.cell
      clear hb X1 E1 F1 I1 D1
      go_wp2_with fail
      refine (CK.out v2 E2.out I2.out.at).mono ?_
      rintro e v3 ⟨rfl, hb⟩
      have D3 := Lib.hid (D2.out.trans (hb.mono D2.out.size))
      have hfin := below_step B0.out D3.out
      clear hb
      go_wp2
      go_ret
      exact ⟨rfl, hfin⟩
    · have hjn : j < fn := by
        have := (List.getElem?_eq_some_iff.1 hfj).1
        rw [← HFl.out] at this; exact this
      have hfs : f.2.size ≤ 1048576 := by have := hsm.2.2 f (List.mem_of_getElem? hfj); omega
      have HFj := Lib.hid (fun w2 hb => HF.out w2 hb j f hfj)
      obtain ⟨k, ft⟩ := f
      dsimp only at HFj h3 h4 h5 h6 hfs
      rw [h1, lfE_some] at ci cs
      have ck1 := fun w h hu => ck u xs w h hu (by omega)
      rw [h2, lkE_none] at ck1
      have cu := fun w h => Unfold_any u xs k ft w h (by omega) hfs
      unfold OutO atV at cu
      rw [h3] at cu
      have hul := unfI_len xs k ft
      obtain ⟨ys, hys⟩ : ∃ ys, ys = unfI xs k ft := ⟨_, rfl⟩
      rw [← hys] at cu h4 hul
      have ck2 := fun u w h hu => ck u ys w h hu (by omega)
      rw [h4, lkE_some] at ck2
      have ct := fun w => FoldedText_any s k ft w (by omega) hfs
      unfold fdE atV at ct
      rw [h5, h6] at ct
      have CI := Lib.hid ci
      have CS := Lib.hid cs
      have CK := Lib.hid ck1
      have CU := Lib.hid cu
      have CL := Lib.hid ck2
      have CT := Lib.hid ct
      have hjneg : ¬ ((j : Int) < 0) := by omega
      clear ci cs ck ck1 ck2 cu ct h1 h2 h3 h4 h5 h6 hfj hys hsm HF hss
      go_wp2_with fail
      rw [← HW.out]
      refine (CI.out W E0.out F0.out I0.out).mono ?_
      rintro e v1 ⟨rfl, hb⟩
      have X1 := Lib.hid (X0.out.below hb X0.out.lt)
      have E1 := Lib.hid (E0.out.below hb)
      have F1 := Lib.hid (F0.out.below hb)
      have I1 := Lib.hid (I0.out.below hb)
      have D1 := Lib.hid hb
      have cX := X1.out.cell
      clear hb X0 E0 F0 I0 HW
      go_wp2_with fail
      refine (CS.out v1 E1.out F1.out I1.out).mono ?_
      rintro e v2 ⟨rfl, hb⟩
      have X2 := Lib.hid (X1.out.below hb X1.out.lt)
      have E2 := Lib.hid (E1.out.below hb)
      have I2 := Lib.hid (I1.out.below hb)
      have D2 := Lib.hid (D1.out.trans (hb.mono D1.out.size))
      have cX := X2.out.cell
      clear hb X1 E1 F1 I1 D1
      go_wp2_with fail
      refine (CK.out v2 E2.out I2.out.at).mono ?_
      rintro e v3 ⟨rfl, hb⟩
      have D3 := Lib.hid (D2.out.trans (hb.mono D2.out.size))
      have X3 := Lib.hid (X2.out.below hb X2.out.lt)
      have E3 := Lib.hid (E2.out.below hb)
      have I3 := Lib.hid (I2.out.below hb)
      have cX3 := X3.out.cell
      obtain ⟨bk, o, rfl, hbk, g0, g1⟩ := HFj.out v3 (L1.out.trans (D3.out.mono L1.out.size))
      clear hb X2 E2 I2 D2 cX
      go_wp2_with fail
      refine (CU.out v3 I3.out).mono ?_
      rintro e v4 ⟨⟨y, rfl, hy⟩, hb⟩
      have X4 := Lib.hid (X3.out.below hb X3.out.lt)
      have E4 := Lib.hid (E3.out.below hb)
      have Y4 := Lib.hid hy
      have D4 := Lib.hid (D3.out.trans (hb.mono D3.out.size))
      have cX4 := X4.out.cell
      clear hb hy X3 E3 I3 D3 cX3 g0 g1
      go_wp2_with fail
      refine (CL.out y v4 E4.out Y4.out.ints).mono ?_
      rintro e v5 ⟨rfl, hb⟩
      have D5 := Lib.hid (D4.out.trans (hb.mono D4.out.size))
      clear hb X4 E4 Y4 D4 cX4
      obtain ⟨bk', o', hbo, _, g0, g1⟩ := HFj.out v5 (L1.out.trans (D5.out.mono L1.out.size))
      injection hbo with hbo
      injection hbo with hbo hbo'
      subst hbo hbo'
      go_wp2_with fail
      refine (CT.out v5).mono ?_
      rintro e v6 ⟨rfl, hb⟩
      have hfin := below_step B0.out (D5.out.trans (hb.mono D5.out.size))
      clear hb
      go_wp2
      go_ret
      exact ⟨rfl, hfin⟩

/-! ### THE ROW's STEP -/
set_option maxRecDepth 100000 in
theorem contract (H : Type) (enc : TypeId × Value → H) (W : World) (base : Nat) (args : Array Value) (ds gs : List (DataW H)) (before : List MemPlace)
    (hval : ∀ (j : Nat) t v, Tryz.f6.params[j]? = some t → args[j]? = some v → Value.okWide Tryz.prog W .any base t v)
    (hW : DataW.Whole enc Tryz.prog Tryz.f6.params.toList Rows.fnFoldLookupSpec.vars false W args.toList ds gs before) (hL : laidMetH Tryz.prog Rows.fnFoldLookupRow.laid W) (hS : W.ShapedOpen Tryz.prog) :
    Calls Tryz.prog 6 args W fun e W' => ∃ v, e = .returned v ∧ Rows.fnFoldLookupSpec.post enc Tryz.prog Tryz.f6 false true false false W args v W' := by
  have hW' := hW
  obtain ⟨p, q, hA0, hV, rfl, hfz, hnd⟩ := hW
  have hA : DataW.TrodAll enc Tryz.prog W 0 (fun _ => true) true Tryz.f6.params.toList args.toList ds p := hA0
  rw [Tryz.params6] at hA hval
  obtain ⟨v0, vs0, d0, ds0, p0, q0, hargs, rfl, rfl, h0, r0⟩ := trodAll_cons hA
  obtain ⟨rfl, rfl, rfl⟩ := trodAll_nil r0
  obtain rfl : args = #[v0] := by cases args; simp_all
  obtain ⟨rfl, rfl⟩ := trodVars_none hV
  have k0 := h0
  have lt0 : ∀ x ∈ p0, x.block < W.heap.size := by obtain ⟨m, hm⟩ := k0; exact DataW.trod_lt m _ _ _ hm
  obtain ⟨a0, n0, c0, rfl⟩ := okWide_slice Tryz.underlying52 (hval 0 52 v0 rfl rfl)
  obtain ⟨z0, w0⟩ : ∃ zs, IsRow .u8 W a0 n0 c0 zs := by
    obtain ⟨fuel, hf⟩ := h0
    rcases open_ints Tryz.underlying52 Tryz.underlying5 (by kernel_rfl) hf with ⟨hcs, _⟩ | ⟨x, l, c, zs, hcs, _, hl, hm, hz, _, hcell, hwz⟩
    · simp [Value.cells] at hcs
      obtain ⟨rfl, rfl, rfl⟩ := hcs
      exact ⟨[], .inl ⟨rfl, rfl, rfl, rfl⟩⟩
    · simp [Value.cells] at hcs
      obtain ⟨rfl, rfl, rfl⟩ := hcs
      exact ⟨zs, .inr ⟨_, rfl, hl, hm, by simpa using hz, hcell, hwz⟩⟩
  clear hA0 hval
  refine (walk a0 n0 c0 z0 W hS  w0).mono fun e W' ⟨he, bel⟩ => ?_
  subst he
  exact ⟨_, rfl, _, _, _, [], _, [], hW', trodAll_mk1 (shut_bool Tryz.underlying4 _), (trodAll_cons_mk (Below.trod laidOut (by kernel_rfl) (of_decide_eq_true (by kernel_rfl)) k0 bel lt0) trodAll_mk0), rfl, bel.frame _, fun h => by cases h⟩

theorem reads (os : Os) {H : Type} (enc : TypeId × Value → H) : ∃ places, DataW.whole enc Tryz.prog ((World.holding Tryz.prog os ⟨#[], #[], []⟩).forCall (fun _ _ => 0) ⟨#[], #[.slice none 0 0], []⟩).memory Tryz.f6.params.toList Rows.fnFoldLookupSpec.vars false (#[.slice none 0 0] : Array Value).toList 8 = some ([.nil], [], places) :=
  ⟨[], by kernel_rfl⟩

set_option maxRecDepth 100000 in
theorem lifted (os : Os) (started : os.Started) (H : Type) (enc : TypeId × Value → H) (F : Stop.Interp) :
    ReturnsInHanded {} Tryz.checked os 6 .any ((OpenSpec.ofChange Rows.fnFoldLookupSpec).preRow enc Tryz.prog Tryz.f6 Rows.fnFoldLookupRow.domain false Rows.fnFoldLookupRow.laid) (((OpenSpec.ofChange Rows.fnFoldLookupSpec).at F).post enc Tryz.prog Tryz.f6 false true false false) := by
  obtain ⟨places, hx⟩ := reads os enc
  refine returnsInHanded_of_row (C := Tryz.checked) (s := OpenSpec.ofChange Rows.fnFoldLookupSpec) own started (by kernel_rfl) Tryz.func6
    (witness_row_atRef (enc := enc) (C := Tryz.checked) false (World.holding Tryz.prog os ⟨#[], #[], []⟩) #[.slice none 0 0] rfl (by kernel_rfl) (by kernel_rfl) (by kernel_rfl)
      (OpenSpec.preRow_of_cond 8 hx (by kernel_rfl) (fun k hk => by cases hk) (by kernel_rfl) ⟨[], rfl, List.nodup_nil, fun b off h => by cases h⟩)) ?_
  intro W base args ds gs before hval hW _ _ _ hL hS _
  exact contract H enc W base args ds gs before hval hW hL hS

theorem said : Rows.FnFoldLookupSaid :=
  OpenClaim.holds_of_cond 6 Tryz.f6 rfl rfl rfl rfl rfl rfl rfl ⟨rfl, rfl, rfl, rfl, rfl⟩ rfl rfl rfl rfl rfl (by kernel_rfl) Tryz.func6 (by kernel_rfl)
    (of_decide_eq_true (by kernel_rfl)) (by unfold Func.isWrapper; first | (rw [if_pos (by decide +kernel)]; kernel_rfl) | (rw [if_neg (by decide +kernel)]; exact ⟨rfl, rfl⟩))
    (fun os started H enc _ F => by rw [OpenClaim.pre_eq_preRow]; exact lifted os started H enc F)

theorem proved : Rows.FnFoldLookupSaid := said
#print axioms proved
end Go.Proofs.YtjmiackiikbodaaGreat.fnFoldLookup
