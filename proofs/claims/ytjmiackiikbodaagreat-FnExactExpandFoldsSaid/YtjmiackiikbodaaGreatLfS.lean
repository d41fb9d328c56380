/-
  LookupFolded, of the program and of the specification.
-/
import Derived.Test.YtjmiackiikbodaaGreatUnfI
import Derived.Test.YtjmiackiikbodaaGreatFdT
import Derived.Test.YtjmiackiikbodaaGreatImpl6E
import Derived.Test.YtjmiackiikbodaaGreatDictL
import Derived.Deep.RegionHeld3
namespace Go.Proofs.YtjmiackiikbodaaGreat
set_option maxRecDepth 100000
open Go.RowKit

/-! ### Plain -/
/-- The entry to which the fold unfolds the outline. -/
def unL (es : List Ent) (xs : List Int) (f : Atm) : Option ByteArray := if unfB xs f.1 f.2 = true then Pl.look (unfI xs f.1 f.2) es else none
def fd1 (es : List Ent) (xs : List Int) (f : Atm) : Option ByteArray :=
  match unL es xs f with
  | some t => if fdB t f.1 f.2 = true then some (fdT t f.1 f.2) else none
  | none => none
def fdFind (es : List Ent) (xs : List Int) : Nat → List Atm → Option (ByteArray × Int)
  | _, [] => none
  | i, f :: r => match fd1 es xs f with | some t => some (t, (i : Int)) | none => fdFind es xs (i + 1) r
def lfX (es : List Ent) (fs : List Atm) (xs : List Int) : Option (ByteArray × Int) := match Pl.look xs es with | some t => some (t, -1) | none => fdFind es xs 0 fs
def lfR (es : List Ent) (fs : List Atm) (xs : List Int) : Option (ByteArray × Int) := if (okD es && Pl.okFs fs) = true then lfX es fs xs else none
def lfE (x : Option (ByteArray × Int)) : Ending := .returned (.tuple #[.string ((x.map (·.1)).getD ⟨#[]⟩), .int .i64 ((x.map (·.2)).getD 0), .bool x.isSome])
theorem lfE_none : lfE none = .returned (.tuple #[.string ⟨#[]⟩, .int .i64 0, .bool false]) := rfl
theorem lfE_some (t : ByteArray) (i : Int) : lfE (some (t, i)) = .returned (.tuple #[.string t, .int .i64 i, .bool true]) := rfl
theorem lfX_some {es : List Ent} {fs : List Atm} {xs : List Int} {t : ByteArray} (h : Pl.look xs es = some t) : lfX es fs xs = some (t, -1) := by unfold lfX; rw [h]
theorem lfX_none {es : List Ent} {fs : List Atm} {xs : List Int} (h : Pl.look xs es = none) : lfX es fs xs = fdFind es xs 0 fs := by unfold lfX; rw [h]
theorem lfR_no {es : List Ent} {fs : List Atm} {xs : List Int} (h : (okD es && Pl.okFs fs) = false) : lfR es fs xs = none := by unfold lfR; rw [h]; rfl
theorem lfR_yes {es : List Ent} {fs : List Atm} {xs : List Int} (h : (okD es && Pl.okFs fs) = true) : lfR es fs xs = lfX es fs xs := by unfold lfR; rw [if_pos h]
theorem fdFind_next {es : List Ent} {xs : List Int} {fs : List Atm} {k : Nat} {f : Atm} (h : fs[k]? = some f) : fdFind es xs k (fs.drop k) = match fd1 es xs f with | some t => some (t, (k : Int)) | none => fdFind es xs (k + 1) (fs.drop (k + 1)) := by
  obtain ⟨hl, he⟩ := List.getElem?_eq_some_iff.1 h
  rw [List.drop_eq_getElem_cons hl, he]
  rfl
theorem fdFind_none {es : List Ent} {xs : List Int} : ∀ (fs : List Atm) (i : Nat), (∀ f ∈ fs, fd1 es xs f = none) → fdFind es xs i fs = none
  | [], _, _ => rfl
  | f :: r, i, h => by
    unfold fdFind
    rw [h f (List.mem_cons_self ..)]
    exact fdFind_none r (i + 1) fun g hg => h g (List.mem_cons_of_mem _ hg)
theorem fd1_un {es : List Ent} {xs : List Int} {f : Atm} (h : unL es xs f = none) : fd1 es xs f = none := by unfold fd1; rw [h]
theorem fd1_no {es : List Ent} {xs : List Int} {f : Atm} {t : ByteArray} (h : unL es xs f = some t) (h' : fdB t f.1 f.2 = false) : fd1 es xs f = none := by unfold fd1; rw [h]; simp [h']
theorem fd1_yes {es : List Ent} {xs : List Int} {f : Atm} {t : ByteArray} (h : unL es xs f = some t) (h' : fdB t f.1 f.2 = true) : fd1 es xs f = some (fdT t f.1 f.2) := by unfold fd1; rw [h]; simp [h']
theorem unL_bad {es : List Ent} {xs : List Int} {f : Atm} (h : unfB xs f.1 f.2 = false) : unL es xs f = none := by unfold unL; rw [h]; rfl
/-- No outline, no answer. -/
theorem lfX_bad {es : List Ent} {fs : List Atm} {xs : List Int} (h : okD es = true) (hx : okO xs = false) : lfX es fs xs = none := by
  rw [lfX_none (look_bad h hx)]
  exact fdFind_none fs 0 fun f _ => fd1_un (unL_bad (unf_no (.inl hx)).1)
theorem lkE_none : lkE none = .returned (.tuple #[.string ⟨#[]⟩, .bool false]) := rfl
theorem lkE_some (t : ByteArray) : lkE (some t) = .returned (.tuple #[.string t, .bool true]) := rfl
theorem OwnInts.m {w : World} {base : Nat} {v : Value} {xs : List Int} (h : OwnInts w base v xs.length (fun j => xs.getD j 0)) (h0 : 0 < xs.length) : IntsM w v xs := by
  obtain ⟨bk, o, cap, rfl, hc, hk, hcell⟩ := h.ints.block h0
  exact .inr ⟨bk, o, cap, rfl, hc, hk, hcell⟩
theorem look_size {es : List Ent} (h : okD es = true) {o : List Int} {t : ByteArray} (ht : Pl.look o es = some t) : t.size ≤ 60 := by
  unfold Pl.look at ht
  obtain ⟨x, hx, rfl⟩ := Option.map_eq_some_iff.1 ht
  exact (okE_size ((okD_parts h).2.1 x (List.mem_of_find?_eq_some hx))).2.2

/-! ### The program's -/
set_option maxHeartbeats 2000000 in
theorem unfoldD_any (b : Nat) (es : List Ent) (fv u : Value) (xs : List Int) (k : Int) (t : ByteArray) (w : World) (hm : MapB w b es) (hok : okD es = true) (hu : IntsM w u xs) (hn : xs.length ≤ 2097152) (ht : t.size ≤ 1048576) :
    Calls Tryz.prog 52 #[.agg #[.map (some b), fv], u, atV k t] w fun r w' => r = lkE (unL es xs (k, t)) ∧ Below w.heap.size w w' := by
  have cu := fun w' h => Unfold_any u xs k t w' h hn ht
  unfold OutO at cu
  have HU := Lib.hid hu
  have HM := Lib.hid hm
  have BX := Lib.hid (below_x2 w (.cells #[.map (some b), fv] 78) (.cells #[.int .i64 k, .string t] 61))
  cases hb : unfB xs k t
  · rw [hb] at cu
    rw [unL_bad hb, lkE_none]
    have C := Lib.hid cu
    clear cu hb hm hu
    go_enter Tryz.func52, Tryz.ntmps52
    go_wp2_with fail
    refine (C.out _ (HU.out.below BX.out)).mono ?_
    rintro r w1 ⟨⟨g, rfl, _⟩, hb⟩
    have B1 := Lib.hid (BX.out.trans (hb.mono BX.out.size))
    clear hb
    go_wp2
    go_ret2
    exact ⟨rfl, B1.out⟩
  · rw [hb] at cu
    have hl : unL es xs (k, t) = Pl.look (unfI xs k t) es := by unfold unL; rw [hb]; rfl
    rw [hl]
    obtain ⟨zs, hzs⟩ : ∃ zs, zs = unfI xs k t := ⟨_, rfl⟩
    have hzl : zs.length ≤ 6 := by rw [hzs]; exact unfI_len _ _ _
    rw [← hzs] at cu ⊢
    have C := Lib.hid cu
    have CK := Lib.hid (fun v w' h => keyOf_any v zs w' h (by omega))
    have hkey := kl_at (kyOk_key zs)
    obtain ⟨hl1, hl2⟩ := mapD_look (keyL zs) (kyOk_key zs) es
    rw [lastT_key hok] at hl1 hl2
    obtain ⟨x, hx'⟩ : ∃ x, x = Pl.look zs es := ⟨_, rfl⟩
    rw [← hx'] at hl1 hl2 ⊢
    rw [lookE]
    obtain ⟨K, hK⟩ : ∃ K, K = keyL zs := ⟨_, rfl⟩
    rw [← hK] at CK hkey hl1 hl2
    have HL1 := Lib.hid hl1
    have HL2 := Lib.hid hl2
    have HKy := Lib.hid hkey
    clear cu hb hm hu hl hzs hzl hx' hK hl1 hl2 hkey hn ht
    go_enter Tryz.func52, Tryz.ntmps52
    go_wp2_with fail
    refine (C.out _ (HU.out.below BX.out)).mono ?_
    rintro r w1 ⟨⟨g, rfl, hg⟩, hb⟩
    have B1 := Lib.hid (BX.out.trans (hb.mono BX.out.size))
    have HM1 := Lib.hid (HM.out.below B1.out)
    have HG := Lib.hid hg.ints
    have q0 : w1.cell? ⟨w.heap.size, 0, none⟩ = some (.map (some b)) := (hb.cell (p := ⟨w.heap.size, 0, none⟩) (by simp; omega)).trans (by simp)
    have k0 := cell_regrown q0
    clear hb hg
    go_wp2_with fail
    refine Mx.wp_region_mixed (Mx.ofL [(0, 0), (1, 1), (2, 0), (3, 2), (4, 3), (5, 0), (6, 0), (7, 0), (8, 0), (9, 0)] .done) (by kernel_rfl) (by kernel_rfl) ?_
    repeat ((first | refine Mx.mix0 rfl ?_ | refine Mx.mix1 rfl ?_); go_big_quiet_step (fail); refine wpQuiet_nil ?_)
    refine Mx.mix2 rfl ?_
    go_wp2_with fail
    refine (CK.out _ _ (HG.out.below (below_drewF (Below.refl _ _) 1))).mono ?_
    rintro r w2 ⟨rfl, hb⟩
    have G2 : Hid (Below w1.heap.size w1 w2) := Lib.hid ((below_drewF (Below.refl _ _) 1).trans hb)
    have HM2 : Hid (w2.ownsMap Tryz.prog 95 (plainElem Tryz.prog 9) b es.length (mapD es)) := MapB.below HM1.out G2.out
    have B2 := Lib.hid (B1.out.trans (G2.out.mono B1.out.size))
    clear hb q0 k0 HM1 HG
    go_wp2
    refine Mx.mid_normal (fun _ => regrown_of_below G2.out) ?_
    refine Mx.mix3 rfl ?_
    go_wp2_with (at_lookup; refine wpList_lookup_own_ok _ rfl _ _ 76 rfl 95 9 lawK Tryz.underlying76 _ (zeroS _) (litT ByteArray.empty) [] (plainElem_string Tryz.underlying9 (by decide)) b es.length (mapD es) rfl HM2.out _ (KL K) rfl HKy.out ?_)
    intro v ps hv
    have hv2 : v = .string (x.getD ByteArray.empty) := by
      rw [HL2.out] at hv
      obtain ⟨s, rfl, h1, _⟩ := plainElem_string_inv Tryz.underlying9 hv
      have h2 := congrArg Prod.fst h1
      cases x with
      | none => simp only [litT] at h2; have h2 := Lit.string.inj (DataW.lit.inj h2); exact congrArg Value.string (ByteArray.ext (Array.toList_inj.1 h2)).symm
      | some t => simp only [litT] at h2; have h2 := Lit.string.inj (DataW.lit.inj h2); exact congrArg Value.string (ByteArray.ext (Array.toList_inj.1 h2)).symm
    subst hv2
    rw [HL1.out]
    clear hv HM2
    go_wp2
    refine Mx.mid_normal (fun q => by cases q) ?_
    repeat ((first | refine Mx.mix0 rfl ?_ | refine Mx.mix1 rfl ?_); go_big_quiet_step (fail); refine wpQuiet_nil ?_)
    refine Mx.mix_nil ?_
    go_wp2
    go_ret2
    exact ⟨rfl, B2.out⟩
set_option maxHeartbeats 2000000 in
theorem lookupD_any (b : Nat) (es : List Ent) (fv : Value) (fs : List Atm) (u : Value) (xs : List Int) (w : World) (hm : MapB w b es) (hok : okD es = true) (hf : AtomsAt w fv fs) (hfn : fs.length ≤ 6) (hfx : ∀ f ∈ fs, f.2.size ≤ 1048576) (hu : IntsM w u xs) (hn : xs.length ≤ 2097152) :
    Calls Tryz.prog 47 #[.agg #[.map (some b), fv], u] w fun r w' => r = lfE (lfX es fs xs) ∧ Below w.heap.size w w' := by
  obtain ⟨a, cap, rfl, hcap, hC⟩ := fd_at hf
  have HC := Lib.hid hC
  have HU := Lib.hid hu
  have HM := Lib.hid hm
  have CU := Lib.hid (fun k t w' hm hu ht => unfoldD_any b es (.slice a fs.length cap) u xs k t w' hm hok hu hn ht)
  have CT := Lib.hid (fun s k t w' hs ht => FoldedText_any s k t w' hs ht)
  have CK := Lib.hid (fun v w' h => keyOf_any v xs w' h hn)
  have hkey := kl_at (kyOk_key xs)
  obtain ⟨hl1, hl2⟩ := mapD_look (keyL xs) (kyOk_key xs) es
  rw [lastT_key hok] at hl1 hl2
  have HSz := Lib.hid (fun k t q (h : unL es xs (k, t) = some q) => show q.size ≤ 60 from by
    unfold unL at h
    split at h
    · exact look_size hok h
    · cases h)
  have HX := Lib.hid (fun j f (h : fs[j]? = some f) => hfx f (List.mem_of_getElem? h))
  have HN1 := Lib.hid (fun f (h : fd1 es xs f = none) j (hj : fs[j]? = some f) => show fdFind es xs j (fs.drop j) = fdFind es xs (j + 1) (fs.drop (j + 1)) from by rw [fdFind_next hj, h])
  have HN2 := Lib.hid (fun f t (h : fd1 es xs f = some t) j (hj : fs[j]? = some f) => show fdFind es xs j (fs.drop j) = some (t, (j : Int)) from by rw [fdFind_next hj, h])
  obtain ⟨x, hx'⟩ : ∃ x, x = Pl.look xs es := ⟨_, rfl⟩
  obtain ⟨Z, hZ⟩ : ∃ Z, Z = lfX es fs xs := ⟨_, rfl⟩
  have HLs := Lib.hid (fun t (h : x = some t) => hZ.trans (lfX_some (fs := fs) (hx'.symm.trans h)))
  have HLn := Lib.hid (fun (h : x = none) => hZ.trans (lfX_none (fs := fs) (hx'.symm.trans h)))
  rw [← hZ]
  clear hZ
  rw [← hx'] at hl1 hl2
  obtain ⟨K, hK⟩ : ∃ K, K = keyL xs := ⟨_, rfl⟩
  rw [← hK] at CK hkey hl1 hl2
  have HL1 := Lib.hid hl1
  have HL2 := Lib.hid hl2
  have HKy := Lib.hid hkey
  have BX := Lib.hid (below_x1 w (.cells #[.map (some b), .slice a fs.length cap] 78))
  obtain ⟨n, hnn⟩ : ∃ n, n = fs.length := ⟨_, rfl⟩
  have HNn := Lib.hid hnn
  rw [← hnn] at hcap hfn CU BX ⊢
  have HQ : Hid (∀ w', Below w.heap.size w w' → True) := Lib.hid (fun _ _ => trivial)
  clear hf hC hfx hu hn hm hok hx' hK hl1 hl2 hkey hnn
  go_enter Tryz.func47, Tryz.ntmps47
  go_wp2_with fail
  obtain ⟨W, hW⟩ : ∃ W, W = w.alloc (.cells #[.map (some b), .slice a n cap] 78) := ⟨_, rfl⟩
  rw [← hW] at BX ⊢
  have hq0 : W.cell? ⟨w.heap.size, 0, none⟩ = some (.map (some b)) := by rw [hW]; simp
  have hq1 : W.cell? ⟨w.heap.size, 1, none⟩ = some (.slice a n cap) := by rw [hW]; simp
  have hWs : W.heap.size = w.heap.size + 1 := by rw [hW]; simp
  have HB0 : Hid (∀ w', Below W.heap.size W w' → w'.cell? ⟨w.heap.size, 0, none⟩ = some (.map (some b)) ∧ w'.cell? ⟨w.heap.size, 1, none⟩ = some (.slice a n cap)) := Lib.hid (fun w' hb => ⟨(hb.cell (p := ⟨w.heap.size, 0, none⟩) (by show w.heap.size < _; omega)).trans hq0, (hb.cell (p := ⟨w.heap.size, 1, none⟩) (by show w.heap.size < _; omega)).trans hq1⟩)
  have k0 := cell_regrown hq0
  clear hW hWs
  refine Mx.wp_region_mixed (Mx.ofL [(0, 0), (1, 1), (2, 0), (3, 2), (4, 3), (5, 0), (6, 0), (7, 0), (8, 0), (9, 0)] .done) (by kernel_rfl) (by kernel_rfl) ?_
  repeat ((first | refine Mx.mix0 rfl ?_ | refine Mx.mix1 rfl ?_); go_big_quiet_step (fail); refine wpQuiet_nil ?_)
  refine Mx.mix2 rfl ?_
  go_wp2_with fail
  refine (CK.out _ _ ((HU.out.below BX.out).at.below (below_drewF (Below.refl _ _) 1))).mono ?_
  rintro r w2 ⟨rfl, hb⟩
  have G2 : Hid (Below W.heap.size W w2) := Lib.hid ((below_drewF (Below.refl _ _) 1).trans hb)
  have B2 := Lib.hid (BX.out.trans (G2.out.mono BX.out.size))
  have HM2 : Hid (w2.ownsMap Tryz.prog 95 (plainElem Tryz.prog 9) b es.length (mapD es)) := MapB.below HM.out B2.out
  clear hb k0 hq0 hq1
  go_wp2
  refine Mx.mid_normal (fun _ => regrown_of_below G2.out) ?_
  refine Mx.mix3 rfl ?_
  go_wp2_with (at_lookup; refine wpList_lookup_own_ok _ rfl _ _ 76 rfl 95 9 lawK Tryz.underlying76 _ (zeroS _) (litT ByteArray.empty) [] (plainElem_string Tryz.underlying9 (by decide)) b es.length (mapD es) rfl HM2.out _ (KL K) rfl HKy.out ?_)
  intro v ps hv
  have hv2 : v = .string (x.getD ByteArray.empty) := by
    rw [HL2.out] at hv
    obtain ⟨s, rfl, h1, _⟩ := plainElem_string_inv Tryz.underlying9 hv
    have h2 := congrArg Prod.fst h1
    cases x with
    | none => simp only [litT] at h2; have h2 := Lit.string.inj (DataW.lit.inj h2); exact congrArg Value.string (ByteArray.ext (Array.toList_inj.1 h2)).symm
    | some t => simp only [litT] at h2; have h2 := Lit.string.inj (DataW.lit.inj h2); exact congrArg Value.string (ByteArray.ext (Array.toList_inj.1 h2)).symm
  subst hv2
  rw [HL1.out]
  clear hv HM2
  go_wp2
  refine Mx.mid_normal (fun q => by cases q) ?_
  repeat ((first | refine Mx.mix0 rfl ?_ | refine Mx.mix1 rfl ?_); go_big_quiet_step (fail); refine wpQuiet_nil ?_)
  refine Mx.mix_nil ?_
  cases x with
  | some t =>
    have HZ := Lib.hid (HLs.out t rfl)
    clear HLs HLn
    simp only [Option.getD_some, Option.isSome_some]
    go_wp2
    go_ret3
    rw [HZ.out, lfE_some]
    exact ⟨rfl, B2.out⟩
  | none =>
    have HZ := Lib.hid (HLn.out rfl)
    clear HLs HLn
    simp only [Option.getD_none, Option.isSome_none]
    obtain ⟨q0, q1⟩ := HB0.out _ G2.out
    go_wp2_with fail
    clear q0 q1
    go_loopw [28] (fun i wr => ∃ k : Nat, k ≤ n ∧ i = .int .i64 k ∧ Hid (Z = fdFind es xs k (fs.drop k)) ∧ Hid (Below W.heap.size W wr)) (fun i _ => n - (intOf i).toNat)
    case atStart => exact ⟨0, Nat.zero_le _, rfl, HZ, G2⟩
    case round =>
      obtain ⟨k, hk, rfl, HK, HB⟩ := hrel
      have hbw := BX.out.trans (HB.out.mono BX.out.size)
      by_cases hlt : k < n
      · obtain ⟨f, hf⟩ : ∃ f, fs[k]? = some f := ⟨_, List.getElem?_eq_getElem (by rw [← HNn.out]; exact hlt)⟩
        obtain ⟨bk, o, rfl, hbk, g0, g1⟩ := HC.out wr hbw k f hf
        have hfs := HX.out k f hf
        obtain ⟨fk, ft⟩ := f
        dsimp only at g0 g1 hfs
        have hw3 := HB.out.alloc HB.out.size (.cells #[.int .i64 fk, .string ft] 61)
        obtain ⟨q0, q1⟩ := HB0.out _ hw3
        have HBw := Lib.hid hbw
        clear hw3
        have hb3 : Below w.heap.size w (wr.alloc (.cells #[.int .i64 fk, .string ft] 61)) := hbw.alloc hbw.size _
        have cu := CU.out fk ft _ (HM.out.below hb3) (HU.out.below hb3) hfs
        have HB3 := Lib.hid hb3
        have HF := Lib.hid hf
        obtain ⟨y, hy⟩ : ∃ y, y = unL es xs (fk, ft) := ⟨_, rfl⟩
        rw [← hy] at cu
        have HY := Lib.hid hy
        clear hf hbw hb3 hy
        cases y with
        | none =>
          rw [lkE_none] at cu
          have C1 := Lib.hid cu
          have HZ2 : Hid (Z = fdFind es xs (k + 1) (fs.drop (k + 1))) := Lib.hid (HK.out.trans (HN1.out _ (fd1_un HY.out.symm) k HF.out))
          clear cu HK
          go_wp2_with fail
          refine C1.out.mono ?_
          rintro r w3 ⟨rfl, hb⟩
          have HB4 := Lib.hid (HB3.out.trans (hb.mono HB3.out.size))
          have HX4 := Lib.hid (BoxA.new hb)
          have HW4 := Lib.hid (HB.out.trans ((below_new hb).mono HB.out.size))
          obtain ⟨_, d0, d1⟩ := HX4.out
          clear hb q0 q1 g0 g1
          go_wp2_with fail
          refine (CT.out _ _ _ _ (by decide) hfs).mono ?_
          rintro r w4 ⟨rfl, hb⟩
          have HW5 := Lib.hid (HW4.out.trans (hb.mono HW4.out.size))
          clear hb d0 d1
          unfold fdE
          go_wp2
          go_roundw
          case rel => exact ⟨k + 1, by omega, by go_num, HZ2, HW5⟩
          case measure => simp [intOf]; omega
        | some t =>
          rw [lkE_some] at cu
          have C1 := Lib.hid cu
          have hts : t.size ≤ 60 := HSz.out fk ft t HY.out.symm
          have ct := fun w' => CT.out t fk ft w' (by omega) hfs
          unfold fdE at ct
          have HN3 : Hid (fdB t fk ft = false → Z = fdFind es xs (k + 1) (fs.drop (k + 1))) := Lib.hid (fun h => HK.out.trans (HN1.out _ (fd1_no HY.out.symm h) k HF.out))
          have HN4 : Hid (fdB t fk ft = true → Z = some (fdT t fk ft, (k : Int))) := Lib.hid (fun h => HK.out.trans (HN2.out _ _ (fd1_yes HY.out.symm h) k HF.out))
          obtain ⟨X, hX⟩ : ∃ X, X = fdT t fk ft := ⟨_, rfl⟩
          obtain ⟨c, hc⟩ : ∃ c, c = fdB t fk ft := ⟨_, rfl⟩
          rw [← hX, ← hc] at ct
          rw [← hc] at HN3
          rw [← hX, ← hc] at HN4
          have C2 := Lib.hid ct
          clear cu ct HK hX hc HY
          cases c with
          | false =>
            have HZ2 := Lib.hid (HN3.out rfl)
            clear HN3 HN4
            go_wp2_with fail
            refine C1.out.mono ?_
            rintro r w3 ⟨rfl, hb⟩
            have HX4 := Lib.hid (BoxA.new hb)
            have HW4 := Lib.hid (HB.out.trans ((below_new hb).mono HB.out.size))
            obtain ⟨_, d0, d1⟩ := HX4.out
            clear hb q0 q1 g0 g1
            go_wp2_with fail
            refine (C2.out _).mono ?_
            rintro r w4 ⟨rfl, hb⟩
            have HW5 := Lib.hid (HW4.out.trans (hb.mono HW4.out.size))
            clear hb d0 d1
            go_wp2
            go_roundw
            case rel => exact ⟨k + 1, by omega, by go_num, HZ2, HW5⟩
            case measure => simp [intOf]; omega
          | true =>
            have HZ2 := Lib.hid (HN4.out rfl)
            clear HN3 HN4
            go_wp2_with fail
            refine C1.out.mono ?_
            rintro r w3 ⟨rfl, hb⟩
            have HX4 := Lib.hid (BoxA.new hb)
            have HW4 := Lib.hid (HB.out.trans ((below_new hb).mono HB.out.size))
            obtain ⟨_, d0, d1⟩ := HX4.out
            clear hb q0 q1 g0 g1
            go_wp2_with fail
            refine (C2.out _).mono ?_
            rintro r w4 ⟨rfl, hb⟩
            have HW5 := Lib.hid (HW4.out.trans (hb.mono HW4.out.size))
            clear hb d0 d1
            go_wp2
            go_ret3
            rw [HZ2.out, lfE_some]
            exact ⟨rfl, BX.out.trans (HW5.out.mono BX.out.size)⟩
      · have HZ2 : Hid (Z = none) := Lib.hid (by rw [HK.out, List.drop_of_length_le (by rw [← HNn.out]; omega)]; rfl)
        clear HK
        go_wp2
        go_ret3
        rw [HZ2.out, lfE_none]
        exact ⟨rfl, BX.out.trans (HB.out.mono BX.out.size)⟩
theorem results_fd2 {fn : Func} {p u : Tmp} (h : fn.results = #[.cell p 78, .tmp u]) (tmps : Array Value) (w : World) (g : Nat) (x y : Value)
    (hp : tmps.getD p undef = .pointer (some ⟨g, 0, none⟩)) (hg : BoxW w g 78 x y) :
    (results fn tmps).run Tryz.prog w = .ok (.tuple #[.agg #[x, y], tmps.getD u undef]) w := by
  have hr := run_loadVar_row (P := Tryz.prog) w g _ 78 _ _ _ hg Tryz.underlying78 rfl (by kernel_rfl)
  rw [results_cell_tmp h, hp]
  simp [asAddr, hr, Result.andThen]
theorem grown_cell (W : World) (b i : Nat) (v : Value) : W.grownBy (W.setCell ⟨b, i, none⟩ v) (some b) := by
  have h : Below b W (W.setCell ⟨b, i, none⟩ v) := (Below.refl _ _).setCell (p := ⟨b, i, none⟩) (Nat.le_refl _) v
  exact ⟨h.os, h.tape, h.output, by rw [World.size_setCell]; exact Nat.le_refl _, fun k _ hk => Below.heap_setCell _ _ _ _ (fun e => hk (by rw [e]))⟩
theorem BoxW.new2 (w : World) (x y : Value) (T T' : TypeId) (v : Value) : BoxW ((w.alloc (.cells #[v] T')).alloc (.cells #[x, y] T)) (w.heap.size + 1) T x y := by
  have := heap_alloc_new (w.alloc (.cells #[v] T')) (.cells #[x, y] T)
  rw [World.size_alloc] at this
  exact this
set_option maxHeartbeats 1000000 in
theorem foldedBy_any (v : Value) (es : List Ent) (fv : Value) (fs : List Atm) (w : World) (h : EntsAt w v es) (hn : es.length ≤ 2097152) (hx : ∀ e ∈ es, entOk e) (hf : AtomsAt w fv fs) (hfn : fs.length ≤ 2097152) (hfx : ∀ f ∈ fs, f.2.size ≤ 1048576) :
    Calls Tryz.prog 46 #[dV v, fv] w fun r w' => (∃ mo, r = .returned (.tuple #[.agg #[.map mo, fv], .bool (okD es && Pl.okFs fs)]) ∧ (okD es = true → ∃ b, mo = some b ∧ w.heap.size ≤ b ∧ MapB w' b es)) ∧ Below w.heap.size w w' := by
  have hE := h
  obtain ⟨fa, fc, rfl, _⟩ := fd_at hf
  have cf := fun w' h => IsValidFolds_any (.slice fa fs.length fc) fs w' h hfn (fun e he => by have := hfx e he; unfold maxLen; omega)
  obtain ⟨ok, hok⟩ : ∃ ok, ok = Pl.okFs fs := ⟨_, rfl⟩
  rw [← hok] at cf ⊢
  have HF := Lib.hid hf
  obtain ⟨fl, hfl⟩ : ∃ fl, fl = fs.length := ⟨_, rfl⟩
  rw [← hfl] at cf HF ⊢
  have CF := Lib.hid cf
  clear cf hok hfl
  obtain ⟨a, cap, rfl, hcap, hC⟩ := h.cells
  have hb2 := fun (o : Obj) (o' : Obj) => below_x2 w o o'
  have HB2 := Lib.hid hb2
  have hbw := BoxW.new2 w (.map none) (.slice none 0 0) 78 33 (.slice a es.length cap)
  have HBW := Lib.hid hbw
  clear hb2 hbw
  cases hg : okD es
  · have C := Lib.hid (fun w' hb => textsNo_any _ es w' (hE.below (w' := w') hb) hn hx hg)
    clear h hE hx hg hC hf
    unfold dV at C ⊢
    go_enter Tryz.func46, Tryz.ntmps46
    go_wp2_with fail
    refine (C.out _ (HB2.out _ _)).mono ?_
    rintro r w1 ⟨rfl, hb⟩
    have B1 := Lib.hid ((HB2.out _ _).trans (hb.mono (by simp; omega)))
    have W1 := Lib.hid (HBW.out.below hb (by simp))
    have c0 := W1.out.cell0
    have c1 := W1.out.cell1
    have f0 := W1.out.frozen 0
    have f1 := W1.out.frozen 1
    clear hb
    go_wp2
    (try simp only [Exit.inBlock, Exit.then])
    refine bodyPost_ret (results_fd2 rfl _ _ (w.heap.size + 1) _ _ rfl ((W1.out.set0 _).set1 _)) rfl ?_
    exact ⟨⟨_, by first | rfl | (cases ok <;> rfl), fun h => by cases h⟩, (B1.out.setCell (p := ⟨w.heap.size + 1, 0, none⟩) (by show w.heap.size ≤ w.heap.size + 1; omega) _).setCell (p := ⟨w.heap.size + 1, 1, none⟩) (by show w.heap.size ≤ w.heap.size + 1; omega) _⟩
  · have C := Lib.hid (fun w' hb => texts_any _ es w' (hE.below (w' := w') hb) hn hx hg)
    clear h hE hx hg hC hf
    unfold dV at C ⊢
    go_enter Tryz.func46, Tryz.ntmps46
    go_wp2_with fail
    refine (C.out _ (HB2.out _ _)).mono ?_
    rintro r w1 ⟨⟨b, rfl, hbb, hm⟩, hb⟩
    have B1 := Lib.hid ((HB2.out _ _).trans (hb.mono (by simp; omega)))
    have W1 := Lib.hid (HBW.out.below hb (by simp))
    have HM1 := Lib.hid hm
    clear hb hm
    go_wp2_with fail
    refine (CF.out _ (HF.out.below B1.out)).mono ?_
    rintro r w2 ⟨rfl, hb⟩
    have B2 := Lib.hid (B1.out.trans (hb.mono B1.out.size))
    have W2 := Lib.hid (W1.out.below hb W1.out.lt)
    have HM2 := Lib.hid (HM1.out.below hb)
    have hbb2 : w.heap.size + 2 ≤ b := by simp at hbb; omega
    have c0 := W2.out.cell0
    have c1 := W2.out.cell1
    have f0 := W2.out.frozen 0
    have f1 := W2.out.frozen 1
    clear hb W1 HM1 hbb
    go_wp2
    (try simp only [Exit.inBlock, Exit.then])
    refine bodyPost_ret (results_fd2 rfl _ _ (w.heap.size + 1) _ _ rfl ((W2.out.set0 _).set1 _)) rfl ?_
    refine ⟨⟨_, by first | rfl | (cases ok <;> rfl), fun _ => ⟨b, rfl, by omega, ?_⟩⟩, (B2.out.setCell (p := ⟨w.heap.size + 1, 0, none⟩) (by show w.heap.size ≤ w.heap.size + 1; omega) _).setCell (p := ⟨w.heap.size + 1, 1, none⟩) (by show w.heap.size ≤ w.heap.size + 1; omega) _⟩
    exact World.ownsMap.kept (World.ownsMap.kept HM2.out (grown_cell _ (w.heap.size + 1) 0 _) (by intro e; injection e with e; omega)) (grown_cell _ (w.heap.size + 1) 1 _) (by intro e; injection e with e; omega)
end Go.Proofs.YtjmiackiikbodaaGreat

namespace Go.Proofs.YtjmiackiikbodaaGreat
set_option maxRecDepth 100000
open Go.RowKit

theorem EntsAt.slice {w : World} {v : Value} {es : List Ent} (h : EntsAt w v es) : ∃ a cap, v = .slice a es.length cap := by obtain ⟨a, cap, hv, _⟩ := h.len; exact ⟨a, cap, hv⟩
set_option maxHeartbeats 1000000 in
theorem LookupFolded_any (v : Value) (es : List Ent) (fv : Value) (fs : List Atm) (u : Value) (xs : List Int) (w : World) (h : EntsAt w v es) (hn : es.length ≤ 2097152) (hx : ∀ e ∈ es, entOk e) (hf : AtomsAt w fv fs) (hfn : fs.length ≤ 2097152) (hfx : ∀ f ∈ fs, f.2.size ≤ 1048576) (hu : IntsM w u xs) (hxn : xs.length ≤ 2097152) :
    Calls Tryz.prog 14 #[dV v, fv, u] w fun r w' => r = lfE (lfR es fs xs) ∧ Below w.heap.size w w' := by
  have HE := Lib.hid h
  have HF := Lib.hid hf
  have HU := Lib.hid hu
  have CB := Lib.hid (fun w' h hf => foldedBy_any v es fv fs w' h hn hx hf hfn hfx)
  have CL := Lib.hid (fun (hok : okD es = true) (hfk : Pl.okFs fs = true) b w' hm hf hu => lookupD_any b es fv fs u xs w' hm hok hf (Pl.okFs_parts hfk).1 hfx hu hxn)
  have BX := Lib.hid (fun o => below_x1 w o)
  obtain ⟨fa, fc, rfl, _⟩ := fd_at hf
  obtain ⟨fl, hfl⟩ : ∃ fl, fl = fs.length := ⟨_, rfl⟩
  obtain ⟨a, cap, rfl⟩ := h.slice
  obtain ⟨n, hnn⟩ : ∃ n, n = es.length := ⟨_, rfl⟩
  unfold dV at CB ⊢
  cases hg : (okD es && Pl.okFs fs)
  · rw [lfR_no hg, lfE_none]
    rw [← hfl, ← hnn]
    simp only [hg, ← hfl, ← hnn] at CB
    rw [← hfl] at HF
    rw [← hnn] at HE
    clear h hf hu hx hfx CL hg hfl hnn hfn hn
    go_enter Tryz.func14, Tryz.ntmps14
    go_wp2_with fail
    refine (CB.out _ (HE.out.below (BX.out _)) (HF.out.below (BX.out _))).mono ?_
    rintro r w1 ⟨⟨m, rfl, _⟩, hb⟩
    have B1 := Lib.hid ((BX.out _).trans (hb.mono (by simp)))
    clear hb
    go_wp2
    go_ret3
    exact ⟨rfl, B1.out.alloc B1.out.size _⟩
  · rw [lfR_yes hg]
    have hg2 := hg
    rw [Bool.and_eq_true] at hg2
    have CL2 := Lib.hid (CL.out hg2.1 hg2.2)
    have HD := Lib.hid hg2.1
    unfold lfE at CL2 ⊢
    rw [← hfl, ← hnn]
    simp only [hg, ← hfl, ← hnn] at CB
    simp only [← hfl] at CL2
    rw [← hfl] at HF
    rw [← hnn] at HE
    clear h hf hu hx hfx CL hg hg2 hfl hnn hfn hn
    go_enter Tryz.func14, Tryz.ntmps14
    go_wp2_with fail
    refine (CB.out _ (HE.out.below (BX.out _)) (HF.out.below (BX.out _))).mono ?_
    rintro r w1 ⟨⟨m, rfl, hm⟩, hb⟩
    have B1 := Lib.hid ((BX.out _).trans (hb.mono (by simp)))
    obtain ⟨b, rfl, _, hmb⟩ := hm HD.out
    have HM := Lib.hid hmb
    clear hb hm hmb
    go_wp2_with fail
    have hb2 := below_x1 w1 (.cells #[.map (some b), .slice fa fl fc] 78)
    have B2 := Lib.hid (B1.out.trans (hb2.mono B1.out.size))
    have HM2 := Lib.hid (HM.out.below hb2)
    clear hb2
    refine (CL2.out b _ HM2.out (HF.out.below B2.out) (HU.out.below B2.out)).mono ?_
    rintro r w3 ⟨rfl, hb⟩
    have B3 := Lib.hid (B2.out.trans (hb.mono B2.out.size))
    clear hb
    go_wp2
    go_ret3
    exact ⟨rfl, B3.out⟩
set_option maxHeartbeats 2000000 in
theorem specLookupFolded_any (v : Value) (es : List Ent) (fv : Value) (fs : List Atm) (u : Value) (xs : List Int) (w : World) (h : EntsAt w v es) (hn : es.length ≤ 2097152) (hx : ∀ e ∈ es, entOk e) (hf : AtomsAt w fv fs) (hfn : fs.length ≤ 2097152) (hfx : ∀ f ∈ fs, f.2.size ≤ 1048576) (hu : IntsM w u xs) (hxn : xs.length ≤ 2097152) :
    Calls Tryz.prog 10 #[dV v, fv, u] w fun r w' => r = lfE (lfR es fs xs) ∧ Below w.heap.size w w' := by
  have HE := Lib.hid h
  have HF := Lib.hid hf
  have HU := Lib.hid hu
  have cg := fun w' hb => l6Good_any v es w' (h.below (w' := w') hb) hn hx
  have cv := fun w' hb => specIsValidFolds_any fv fs w' (hf.below (w' := w') hb) hfn (fun e he => by have := hfx e he; unfold maxLen; omega)
  have co := fun w' hb => l4Good_any u xs w' (hu.below (w' := w') hb).at hxn
  have CFi := Lib.hid (fun y ys w' hb hy hyn => l6Find_any v es y ys w' (h.below (w' := w') hb) hy hn hx hyn)
  have BX := Lib.hid (below_x1 w (.cells #[v] 33))
  obtain ⟨a, cap, rfl⟩ := h.slice
  obtain ⟨ua, uc, rfl, _, _⟩ := hu.at.cells
  obtain ⟨fa, fc, rfl, hfc, hFC⟩ := fd_at hf
  have HFC := Lib.hid hFC
  obtain ⟨n, hnn⟩ : ∃ n, n = es.length := ⟨_, rfl⟩
  obtain ⟨fl, hfl⟩ : ∃ fl, fl = fs.length := ⟨_, rfl⟩
  have HFL := Lib.hid hfl
  unfold dV at cg CFi ⊢
  rw [← hnn] at HE BX
  rw [← hfl] at HF hfc
  simp only [← hnn] at cg CFi
  simp only [← hfl] at cv
  rw [← hnn, ← hfl]
  cases hg : okD es
  · rw [hg] at cg
    have CG := Lib.hid cg
    have HN : Hid (lfR es fs xs = none) := Lib.hid (lfR_no (by rw [hg]; rfl))
    rw [HN.out, lfE_none]
    clear h hf hu hx hfx hg cg cv co hFC hfl hnn hfn hn HN
    go_enter Tryz.func10, Tryz.ntmps10
    go_wp2_with fail
    refine (CG.out _ BX.out).mono ?_
    rintro r w1 ⟨rfl, hb⟩
    have B1 := Lib.hid (BX.out.trans (hb.mono BX.out.size))
    clear hb
    go_wp2
    go_ret3
    exact ⟨rfl, B1.out⟩
  · rw [hg] at cg
    have CG := Lib.hid cg
    cases hfk : Pl.okFs fs
    · rw [hfk] at cv
      have CV := Lib.hid cv
      have HN : Hid (lfR es fs xs = none) := Lib.hid (lfR_no (by rw [hg, hfk]; rfl))
      rw [HN.out, lfE_none]
      clear h hf hu hx hfx hg hfk cg cv co hFC hfl hnn hfn hn HN
      go_enter Tryz.func10, Tryz.ntmps10
      go_wp2_with fail
      refine (CG.out _ BX.out).mono ?_
      rintro r w1 ⟨rfl, hb⟩
      have B1 := Lib.hid (BX.out.trans (hb.mono BX.out.size))
      clear hb
      go_wp2_with fail
      refine (CV.out _ B1.out).mono ?_
      rintro r w2 ⟨rfl, hb⟩
      have B2 := Lib.hid (B1.out.trans (hb.mono B1.out.size))
      clear hb
      go_wp2
      go_ret3
      exact ⟨rfl, B2.out⟩
    · rw [hfk] at cv
      have CV := Lib.hid cv
      cases ho : okO xs
      · rw [ho] at co
        have CO := Lib.hid co
        have HN : Hid (lfR es fs xs = none) := Lib.hid (by rw [lfR_yes (by rw [hg, hfk]; rfl), lfX_bad hg ho])
        rw [HN.out, lfE_none]
        clear h hf hu hx hfx hg hfk ho cg cv co hFC hfl hnn hfn hn HN
        go_enter Tryz.func10, Tryz.ntmps10
        go_wp2_with fail
        refine (CG.out _ BX.out).mono ?_
        rintro r w1 ⟨rfl, hb⟩
        have B1 := Lib.hid (BX.out.trans (hb.mono BX.out.size))
        clear hb
        go_wp2_with fail
        refine (CV.out _ B1.out).mono ?_
        rintro r w2 ⟨rfl, hb⟩
        have B2 := Lib.hid (B1.out.trans (hb.mono B1.out.size))
        clear hb
        go_wp2_with fail
        refine (CO.out _ B2.out).mono ?_
        rintro r w3 ⟨rfl, rfl⟩
        go_wp2
        go_ret3
        exact ⟨rfl, B2.out⟩
      · rw [ho] at co
        have CO := Lib.hid co
        have HR : Hid (lfR es fs xs = lfX es fs xs) := Lib.hid (lfR_yes (by rw [hg, hfk]; rfl))
        rw [HR.out]
        obtain ⟨hf6, hfv, _⟩ := Pl.okFs_parts hfk
        have hfl6 : fl ≤ 6 := by rw [hfl]; exact hf6
        have CUn := Lib.hid (fun k t (hkt : Pl.okF (k, t) = true) w' hm => l10Unfold_any (.slice ua xs.length uc) xs k t w' hm ho hkt)
        have CTx := Lib.hid (fun s k t w' hs ht => l10Text_any s k t w' hs ht)
        have HVal := Lib.hid (fun k f (hkf : fs[k]? = some f) => show Pl.okF f = true from hfv f (List.mem_of_getElem? hkf))
        have HSz := Lib.hid (fun o q (hq : Pl.look o es = some q) => look_size hg hq)
        have HN1 := Lib.hid (fun f (h : fd1 es xs f = none) j (hj : fs[j]? = some f) => show fdFind es xs j (fs.drop j) = fdFind es xs (j + 1) (fs.drop (j + 1)) from by rw [fdFind_next hj, h])
        have HN2 := Lib.hid (fun f t (h : fd1 es xs f = some t) j (hj : fs[j]? = some f) => show fdFind es xs j (fs.drop j) = some (t, (j : Int)) from by rw [fdFind_next hj, h])
        have HUb := Lib.hid (fun (f : Atm) (hf : Pl.okF f = true) => show unfB xs f.1 f.2 = decide (0 < (unfI xs f.1 f.2).length) from by
          rw [(unf_un0 ho hf).1, (unf_un0 ho hf).2, un0_pos])
        obtain ⟨x, hx'⟩ : ∃ x, x = Pl.look xs es := ⟨_, rfl⟩
        obtain ⟨Z, hZ⟩ : ∃ Z, Z = lfX es fs xs := ⟨_, rfl⟩
        have HLs := Lib.hid (fun t (h : x = some t) => hZ.trans (lfX_some (fs := fs) (hx'.symm.trans h)))
        have HLn := Lib.hid (fun (h : x = none) => hZ.trans (lfX_none (fs := fs) (hx'.symm.trans h)))
        rw [← hZ]
        have cf0 := fun w' hb => CFi.out (.slice ua xs.length uc) xs w' hb (HU.out.below hb).at hxn
        rw [← hx'] at cf0
        have CF0 := Lib.hid cf0
        clear h hf hu hx hfx hg hfk ho cg cv co hFC hfl hnn hfn hn hZ hx' cf0 hfv HR
        go_enter Tryz.func10, Tryz.ntmps10
        go_wp2_with fail
        refine (CG.out _ BX.out).mono ?_
        rintro r w1 ⟨rfl, hb⟩
        have B1 := Lib.hid (BX.out.trans (hb.mono BX.out.size))
        have Q1 : Hid (w1.cell? ⟨w.heap.size, 0, none⟩ = some (.slice a n cap)) := Lib.hid (box1 hb)
        clear hb
        go_wp2_with fail
        refine (CV.out _ B1.out).mono ?_
        rintro r w2 ⟨rfl, hb⟩
        have B2 := Lib.hid (B1.out.trans (hb.mono B1.out.size))
        have Q2 : Hid (w2.cell? ⟨w.heap.size, 0, none⟩ = some (.slice a n cap)) := Lib.hid ((hb.cell (p := ⟨w.heap.size, 0, none⟩) (lt_of_cell Q1.out)).trans Q1.out)
        clear hb Q1
        go_wp2_with fail
        refine (CO.out _ B2.out).mono ?_
        rintro r w3 ⟨rfl, rfl⟩
        have q2 := Q2.out
        go_wp2_with fail
        refine (CF0.out _ B2.out).mono ?_
        rintro r w3 ⟨rfl, hb⟩
        have B3 := Lib.hid (B2.out.trans (hb.mono B2.out.size))
        have Q3 : Hid (w3.cell? ⟨w.heap.size, 0, none⟩ = some (.slice a n cap)) := Lib.hid ((hb.cell (p := ⟨w.heap.size, 0, none⟩) (lt_of_cell Q2.out)).trans Q2.out)
        clear hb Q2 q2
        cases x with
        | some t =>
          have HZ := Lib.hid (HLs.out t rfl)
          clear HLs HLn
          unfold lkE
          simp only [Option.getD_some, Option.isSome_some]
          go_wp2
          go_ret3
          rw [HZ.out, lfE_some]
          exact ⟨rfl, B3.out⟩
        | none =>
          have HZ := Lib.hid (HLn.out rfl)
          clear HLs HLn
          unfold lkE
          simp only [Option.getD_none, Option.isSome_none]
          have HB3 : Hid (∀ w', Below w3.heap.size w3 w' → w'.cell? ⟨w.heap.size, 0, none⟩ = some (.slice a n cap)) := Lib.hid (fun w' hb => (hb.cell (p := ⟨w.heap.size, 0, none⟩) (lt_of_cell Q3.out)).trans Q3.out)
          clear Q3
          go_wp2_with fail
          go_loopw [11] (fun i wr => ∃ k : Nat, k ≤ fl ∧ i = .int .i64 k ∧ Hid (Z = fdFind es xs k (fs.drop k)) ∧ Hid (Below w3.heap.size w3 wr)) (fun i _ => fl - (intOf i).toNat)
          case atStart => exact ⟨0, Nat.zero_le _, rfl, HZ, Lib.hid (Below.refl _ _)⟩
          case round =>
            obtain ⟨k, hk, rfl, HK, HB⟩ := hrel
            by_cases hlt : k < fl
            · obtain ⟨f, hf⟩ : ∃ f, fs[k]? = some f := ⟨_, List.getElem?_eq_getElem (by rw [← HFL.out]; exact hlt)⟩
              have hbw := B3.out.trans (HB.out.mono B3.out.size)
              obtain ⟨bk, o, rfl, hbk, g0, g1⟩ := HFC.out wr hbw k f hf
              have hfo := HVal.out k f hf
              have HF1 := Lib.hid hf
              have HUb1 := Lib.hid (HUb.out f hfo)
              have HFo := Lib.hid hfo
              obtain ⟨fk, ft⟩ := f
              dsimp only at g0 g1
              have h8 := (Pl.okF_parts hfo).2.2.1
              dsimp only at h8
              have cu := CUn.out fk ft hfo wr (HU.out.below hbw)
              obtain ⟨zs, hzs⟩ : ∃ zs, zs = unfI xs fk ft := ⟨_, rfl⟩
              have HZs := Lib.hid hzs
              have hzl : zs.length ≤ 6 := by rw [hzs]; exact unfI_len _ _ _
              have HUb2 : Hid (unfB xs fk ft = decide (0 < zs.length)) := Lib.hid (by rw [hzs]; exact HUb1.out)
              rw [← hzs] at cu
              obtain ⟨zl, hzl2⟩ : ∃ zl, zl = zs.length := ⟨_, rfl⟩
              have HZL := Lib.hid hzl2
              rw [← hzl2] at hzl
              have CU := Lib.hid cu
              have HBw := Lib.hid hbw
              clear cu hf hfo hzs hzl2 HUb1 hbw
              by_cases h0 : zl = 0
              · subst h0
                have HZ2 : Hid (Z = fdFind es xs (k + 1) (fs.drop (k + 1))) := Lib.hid (HK.out.trans (HN1.out _ (fd1_un (unL_bad (by show unfB xs fk ft = false; rw [HUb2.out, ← HZL.out]; rfl))) k HF1.out))
                clear HK
                go_wp2_with fail
                refine CU.out.mono ?_
                rintro r w4 ⟨⟨y, rfl, hy⟩, hb⟩
                have HB4 := Lib.hid (HB.out.trans (hb.mono HB.out.size))
                obtain ⟨ya, yc, hye, _, _⟩ := (rowInts_at hy).cells
                rw [← HZL.out] at hye
                subst hye
                clear hb hy g0 g1
                go_wp2
                go_roundw
                case rel => exact ⟨k + 1, by omega, by go_num, HZ2, HB4⟩
                case measure => simp [intOf]; omega
              · have hz0 : ((zl : Int) == 0) = false := by rw [beq_eq_false_iff_ne]; omega
                have hUB : unfB xs fk ft = true := by rw [HUb2.out, ← HZL.out, decide_eq_true (by omega)]
                have hL : unL es xs (fk, ft) = Pl.look zs es := by unfold unL; rw [hUB, HZs.out]; rfl
                go_wp2_with fail
                refine CU.out.mono ?_
                rintro r w4 ⟨⟨y, rfl, hy⟩, hb⟩
                have HB4 := Lib.hid (HB.out.trans (hb.mono HB.out.size))
                have HY4 := Lib.hid (rowInts_at hy)
                have HBw4 := Lib.hid (HBw.out.trans (hb.mono HBw.out.size))
                obtain ⟨ya, yc, hye, _, _⟩ := (rowInts_at hy).cells
                rw [← HZL.out] at hye
                subst hye
                have q4 := HB3.out _ HB4.out
                have cf := CFi.out (.slice ya zl yc) zs w4 HBw4.out HY4.out (by rw [← HZL.out]; omega)
                obtain ⟨g2, g3⟩ : w4.cell? ⟨bk, o + k * 2, none⟩ = some (.int .i64 fk) ∧ w4.cell? ⟨bk, o + k * 2 + 1, none⟩ = some (.string ft) :=
                  ⟨(hb.cell (p := ⟨bk, o + k * 2, none⟩) (lt_of_cell g0)).trans g0, (hb.cell (p := ⟨bk, o + k * 2 + 1, none⟩) (lt_of_cell g0)).trans g1⟩
                have HG := Lib.hid (show ∀ w', Below w4.heap.size w4 w' → w'.cell? ⟨bk, o + k * 2, none⟩ = some (.int .i64 fk) ∧ w'.cell? ⟨bk, o + k * 2 + 1, none⟩ = some (.string ft) from
                  fun w' hb => ⟨(hb.cell (p := ⟨bk, o + k * 2, none⟩) (lt_of_cell g2)).trans g2, (hb.cell (p := ⟨bk, o + k * 2 + 1, none⟩) (lt_of_cell g2)).trans g3⟩)
                clear hb hy g0 g1 g2 g3
                obtain ⟨x, hx⟩ : ∃ x, x = Pl.look zs es := ⟨_, rfl⟩
                rw [← hx] at cf hL
                have HSx := Lib.hid (fun q (hq : x = some q) => HSz.out zs q (hx.symm.trans hq))
                clear hx
                cases x with
                | none =>
                  rw [lkE_none] at cf
                  have CF := Lib.hid cf
                  have HZ2 : Hid (Z = fdFind es xs (k + 1) (fs.drop (k + 1))) := Lib.hid (HK.out.trans (HN1.out _ (fd1_un hL) k HF1.out))
                  clear cf HK hL
                  go_wp2_with fail
                  refine CF.out.mono ?_
                  rintro r w5 ⟨rfl, hb⟩
                  have HB5 := Lib.hid (HB4.out.trans (hb.mono HB4.out.size))
                  clear hb q4
                  go_wp2
                  go_roundw
                  case rel => exact ⟨k + 1, by omega, by go_num, HZ2, HB5⟩
                  case measure => simp [intOf]; omega
                | some s =>
                  rw [lkE_some] at cf
                  have CF := Lib.hid cf
                  have hs := HSx.out s rfl
                  have ct := fun w' => CTx.out s fk ft w' (by omega) (by omega)
                  have hfdB : fdB s fk ft = fd0B s ft := by unfold fdB; rw [show Pl.okF (fk, ft) = true from HFo.out]; rfl
                  have hfdT : fdT s fk ft = fd0T s ft := by unfold fdT fd0T; rw [hfdB]
                  have HN3 : Hid (fd0B s ft = false → Z = fdFind es xs (k + 1) (fs.drop (k + 1))) := Lib.hid (fun h => HK.out.trans (HN1.out _ (fd1_no hL (hfdB.trans h)) k HF1.out))
                  have HN4 : Hid (fd0B s ft = true → Z = some (fd0T s ft, (k : Int))) := Lib.hid (fun h => HK.out.trans (by rw [← hfdT]; exact HN2.out _ _ (fd1_yes hL (hfdB.trans h)) k HF1.out))
                  unfold fd0E at ct
                  obtain ⟨X, hX⟩ : ∃ X, X = fd0T s ft := ⟨_, rfl⟩
                  obtain ⟨c, hc⟩ : ∃ c, c = fd0B s ft := ⟨_, rfl⟩
                  rw [← hX, ← hc] at ct
                  rw [← hc] at HN3
                  rw [← hX, ← hc] at HN4
                  have CT := Lib.hid ct
                  clear cf ct HK hL hfdB hfdT hX hc
                  cases c with
                  | false =>
                    have HZ2 := Lib.hid (HN3.out rfl)
                    clear HN3 HN4
                    go_wp2_with fail
                    refine CF.out.mono ?_
                    rintro r w5 ⟨rfl, hb⟩
                    have HB5 := Lib.hid (HB4.out.trans (hb.mono HB4.out.size))
                    obtain ⟨g0, g1⟩ := HG.out _ hb
                    clear hb q4
                    go_wp2_with fail
                    refine (CT.out _).mono ?_
                    rintro r w6 ⟨rfl, hb⟩
                    have HB6 := Lib.hid (HB5.out.trans (hb.mono HB5.out.size))
                    clear hb g0 g1
                    go_wp2
                    go_roundw
                    case rel => exact ⟨k + 1, by omega, by go_num, HZ2, HB6⟩
                    case measure => simp [intOf]; omega
                  | true =>
                    have HZ2 := Lib.hid (HN4.out rfl)
                    clear HN3 HN4
                    go_wp2_with fail
                    refine CF.out.mono ?_
                    rintro r w5 ⟨rfl, hb⟩
                    have HB5 := Lib.hid (HB4.out.trans (hb.mono HB4.out.size))
                    obtain ⟨g0, g1⟩ := HG.out _ hb
                    clear hb q4
                    go_wp2_with fail
                    refine (CT.out _).mono ?_
                    rintro r w6 ⟨rfl, hb⟩
                    have HB6 := Lib.hid (HB5.out.trans (hb.mono HB5.out.size))
                    clear hb g0 g1
                    go_wp2
                    go_ret3
                    rw [HZ2.out, lfE_some]
                    exact ⟨rfl, B3.out.trans (HB6.out.mono B3.out.size)⟩
            · have HZ2 : Hid (Z = none) := Lib.hid (by rw [HK.out, List.drop_of_length_le (by rw [← HFL.out]; omega)]; rfl)
              clear HK
              go_wp2
              go_ret3
              rw [HZ2.out, lfE_none]
              exact ⟨rfl, B3.out.trans (HB.out.mono B3.out.size)⟩
end Go.Proofs.YtjmiackiikbodaaGreat
