/-
  laws.FnKeys returns true whatever the code: NewStroke and KeysOf are inverse, and merging strokes is the union of disjoint key sets, at all that the code draws. Conditions: none but the row's own.
-/
import Derived.Test.YtinpolcmofdojaaRows
import Derived.WalkKit
import Derived.ProofKit
import Derived.OpenShut
import Derived.ShutString
import Derived.ChangeOld
import Derived.Below
import Derived.SliceStrings
import Derived.JoinedCond
import Derived.Deep.DeepHandedRow
import Derived.Deep.DeepWitnessRowRef
import Derived.Lib.Hide
import Derived.Test.YtinpolcmofdojaaLoose
import Derived.Test.YtinpolcmofdojaaDrawK
import Derived.Test.YtinpolcmofdojaaBig
namespace Go.Proofs.Ytinpolcmofdojaa.fnKeys
open Go.ChangeShapes Go.WideShapes Go.ChangeAt Go.RowKit
open Go.ChangeMaps (open_string shut_string)
set_option linter.unusedVariables false

theorem own : ownKnob Try.prog.godebug = none := by kernel_rfl
theorem laidOut : laidOutB Try.prog = true := by kernel_rfl

/-- A slice of integers that came in. -/
def IsRow (k : IntKind) (w : World) (a : Option Addr) (len cap : Nat) (zs : List Int) : Prop :=
  (a = none ∧ len = 0 ∧ cap = 0 ∧ zs = []) ∨
  ∃ x, a = some x ∧ len ≤ cap ∧ cap ≤ maxLen ∧ zs.length = cap ∧ (∀ i, i < zs.length → w.cell? (x.add i) = some (.int k (zs.getD i 0))) ∧ ∀ n ∈ zs, (Lit.int k n).wf = true

theorem code_of {w : World} {a : Option Addr} {n c : Nat} {z : List Int} (h : IsRow .u8 w a n c z) (hn : n ≤ 1000000) : CodeAt w a n := by
  refine ⟨hn, fun h0 => ?_⟩
  rcases h with ⟨rfl, rfl, rfl, rfl⟩ | ⟨x, rfl, hl, hm, hz, hcell, hwz⟩
  · omega
  · obtain ⟨b, o, spot⟩ := x
    have h1 := hcell 0 (by omega)
    have hspot : spot = none := by simpa [Addr.add] using World.cell?_spot h1
    subst hspot
    refine ⟨b, o, rfl, ?_, fun i hi => ?_⟩
    · have : (w.cell? ⟨b, o, none⟩).isSome := by have := h1; simp [Addr.add] at this; rw [this]; rfl
      rcases Nat.lt_or_ge b w.heap.size with h' | h'
      · exact h'
      · simp [World.cell?, Array.getElem?_eq_none h'] at this
    · have h2 := hcell i (by omega)
      have h3 := bounds_u8 (hwz (z.getD i 0) (by rw [List.getD_eq_getElem?_getD, List.getElem?_eq_getElem (by omega)]; exact List.getElem_mem _))
      refine ⟨z.getD i 0, h3.1, h3.2, ?_⟩
      by_cases hi0 : i = 0
      · subst hi0; simpa [Addr.add] using h2
      · simpa [Addr.add, hi0] using h2
theorem row_len {w : World} {a : Option Addr} {n c : Nat} {z : List Int} (h : IsRow .u8 w a n c z) : n ≤ maxLen := by
  rcases h with ⟨_, rfl, _, _⟩ | ⟨x, _, hl, hm, _⟩
  · exact Nat.zero_le _
  · omega
/-- What the law asks of a list of keys. -/
theorem key_facts (xs : List Int) (hx : xs.length ≤ 100) : ∃ (s : Int) (ok : Bool) (ys : List Int) (q : Int) (o2 : Bool), ys.length ≤ 23 ∧ (ok = true → o2 = true ∧ q = s ∧ ys.length = xs.length) ∧ (∀ y ∈ ys, hasB s y = true) ∧
      (∀ v w, IntsAt w v xs → Calls Try.prog 27 #[v] w fun e w' => e = .returned (.tuple #[.int .i64 s, .bool ok]) ∧ Below w.heap.size w w') ∧
      (∀ v w, IntsAt w v xs → Calls Try.prog 28 #[v] w fun e w' => e = .returned (.tuple #[.int .i64 s, .bool ok]) ∧ Below w.heap.size w w') ∧
      (∀ w, Calls Try.prog 25 #[.int .i64 s] w fun e w' => (∃ v, e = .returned (.tuple #[v, .bool ok]) ∧ IntsAt w' v ys) ∧ Below w.heap.size w w') ∧
      (∀ v w, IntsAt w v ys → Calls Try.prog 27 #[v] w fun e w' => e = .returned (.tuple #[.int .i64 q, .bool o2]) ∧ Below w.heap.size w w') := by
  obtain ⟨n, hn⟩ : ∃ n, Pl.newK xs = n := ⟨_, rfl⟩
  have hlt : n < 8388608 := by rw [← hn]; exact Pl.newK_lt xs
  have e1 := fun v w h => NewStroke_any v xs w h (by omega)
  have e2 := fun v w h => specNewStroke_any v xs w h (by omega)
  unfold newE at e1 e2
  rw [hn] at e1 e2
  by_cases h0 : n = 0
  · subst h0
    refine ⟨0, false, [], _, _, Nat.zero_le _, (fun e => nomatch e), (fun y hy => absurd hy List.not_mem_nil), e1, e2, fun w => ?_, fun v w h => NewStroke_any v [] w h (Nat.zero_le _)⟩
    exact (KeysOf_no 0 (by omega) w).mono fun e w' ⟨he, hw⟩ => ⟨⟨_, he, IntsAt.nil _ _ _⟩, hw ▸ Below.refl _ _⟩
  · have hb : (((n : Nat) : Int) != 0) = true := by rw [bne_iff_ne]; omega
    have hk : Pl.newK (keysI n) = n := Pl.newK_keys n hlt
    have hlen : (keysI n).length ≤ 23 := by rw [keysI_len]; exact Pl.card_le n
    have e3 := fun v w h => NewStroke_any v (keysI n) w h (by omega)
    unfold newE at e3
    rw [hk, hb] at e3
    rw [hb] at e1 e2
    refine ⟨n, true, keysI n, n, true, hlen, fun _ => ⟨rfl, rfl, ?_⟩, fun y hy => ?_, e1, e2, fun w => ?_, e3⟩
    · rw [keysI_len, ← hn]; exact Pl.newK_card xs (by rw [hn]; exact h0)
    · unfold keysI at hy
      obtain ⟨k, hk, rfl⟩ := List.mem_map.1 hy
      obtain ⟨⟨_, k1⟩, k2⟩ := Pl.mem_keysIn.1 hk
      show hasB (n : Int) (k : Int) = true
      unfold hasB
      rw [okS_yes ⟨by omega, by omega⟩, Int.toNat_natCast, Int.toNat_natCast, k2]
      simp; omega
    · exact (KeysOf_yes n (by omega) hlt w).mono fun e w' ⟨⟨v, he, hv⟩, hb⟩ => ⟨⟨v, he, rowInts_at hv⟩, hb⟩
/-- The number of keys that KeysOf returns. -/
def lenK (s : Int) : Nat := if okS s = true then Pl.card s.toNat else 0
theorem lenK_le (s : Int) : lenK s ≤ 23 := by unfold lenK; split; exact Pl.card_le _; omega
theorem KeysOf_len (s : Int) (w : World) : Calls Try.prog 25 #[.int .i64 s] w fun e w' => (∃ a cap f, e = .returned (.tuple #[.slice a (lenK s) cap, .bool f]) ∧ lenK s ≤ cap) ∧ Below w.heap.size w w' := by
  by_cases h : 1 ≤ s ∧ s < 8388608
  · obtain ⟨n, rfl⟩ := Int.eq_ofNat_of_zero_le (show 0 ≤ s by omega)
    refine (KeysOf_yes n (by omega) (by omega) w).mono fun e w' ⟨⟨v, he, hv⟩, hb⟩ => ⟨?_, hb⟩
    obtain ⟨a, cap, rfl, hc, _⟩ := rowInts_at hv
    have e : lenK (n : Int) = (keysI n).length := by unfold lenK; rw [okS_yes h, if_pos rfl, keysI_len, Int.toNat_natCast]
    rw [e]
    exact ⟨a, cap, true, he, hc⟩
  · refine (KeysOf_no s h w).mono fun e w' ⟨he, hw⟩ => ⟨?_, hw ▸ Below.refl _ _⟩
    have e : lenK s = 0 := by unfold lenK; rw [okS_no h]; rfl
    rw [e]
    exact ⟨none, 0, false, he, Nat.le_refl _⟩
theorem merge_facts (a b : Int) (h : mergeB a b = true) : lenK a + lenK b = lenK (mergeI a b) ∧ mergeI a b = bits .or .i64 a b := by
  have hM := h
  unfold mergeB at h
  rw [Bool.and_eq_true, Bool.and_eq_true, beq_iff_eq] at h
  obtain ⟨⟨h1, h2⟩, h3⟩ := h
  have k1 := okS_iff.1 h1
  have k2 := okS_iff.1 h2
  obtain ⟨m, rfl⟩ := Int.eq_ofNat_of_zero_le (show 0 ≤ a by omega)
  obtain ⟨n, rfl⟩ := Int.eq_ofNat_of_zero_le (show 0 ≤ b by omega)
  have hI : mergeI (m : Int) (n : Int) = ((m ||| n : Nat) : Int) := by unfold mergeI; rw [hM, if_pos rfl, Int.toNat_natCast, Int.toNat_natCast]
  rw [hI]
  rw [Int.toNat_natCast, Int.toNat_natCast] at h3
  have hlt : m ||| n < 8388608 := Pl.and_zero_or m n (by omega) (by omega)
  have hne : m ||| n ≠ 0 := Pl.or_pos m n (by omega)
  refine ⟨?_, (or_i64s m n (by omega) (by omega)).symm⟩
  unfold lenK
  rw [h1, h2, okS_yes ⟨by omega, by omega⟩, if_pos rfl, if_pos rfl, if_pos rfl, Int.toNat_natCast, Int.toNat_natCast, Int.toNat_natCast, Pl.card_or m n h3]
/-! ### THE WALK: the Go text returns true, and writes nothing that was there. -/
set_option maxRecDepth 100000 in
set_option maxHeartbeats 1000000 in
theorem walk (a0 : Option Addr) (n0 c0 : Nat) (z0 : List Int) (w : World) (hS : w.ShapedOpen Try.prog)  (w0 : IsRow .u8 w a0 n0 c0 z0) :
    Calls Try.prog 5 #[.slice a0 n0 c0] w fun e w' => e = .returned (.bool true) ∧ Below w.heap.size w w' := by
  have hnm := row_len w0
  by_cases hbig : 65536 < n0
  · have C := Lib.hid (big_yes a0 n0 c0 w hbig hnm)
    clear w0 hS hnm
    go_enter Try.func5, Try.ntmps5
    go_wp2_with fail
    refine C.out.mono ?_
    rintro e w1 ⟨rfl, rfl⟩
    go_wp2
    go_ret
    exact ⟨rfl, Below.refl _ _⟩
  · have C := Lib.hid (big_no a0 n0 c0 w (by omega))
    have HCode := Lib.hid (code_of w0 (by omega))
    have CDN := Lib.hid (fun w h => drawNew_any a0 n0 c0 w h)
    have CDM := Lib.hid (fun w h => drawMerge_any a0 n0 c0 w h)
    have CDH := Lib.hid (fun w h => drawHasKey_any a0 n0 c0 w h)
    have CH := Lib.hid (fun s k w => HasKey_any s k w)
    have CH2 := Lib.hid (fun s k w => specHasKey_any s k w)
    have CM := Lib.hid (fun a b w => MergeStrokes_any a b w)
    have CM2 := Lib.hid (fun a b w => specMergeStrokes_any a b w)
    have CL := Lib.hid (fun s w => KeysOf_len s w)
    clear w0 hS hnm hbig
    go_enter Try.func5, Try.ntmps5
    go_wp2_with fail
    refine C.out.mono ?_
    rintro e w0 ⟨rfl, rfl⟩
    go_wp2_with fail
    refine (CDN.out _ HCode.out).mono ?_
    rintro e w1 ⟨⟨v, xs, rfl, hv, hxl⟩, hb⟩
    have HB1 := Lib.hid hb
    clear hb
    obtain ⟨s, ok, ys, q, o2, hyl, hok, hhas, hn1, hn2, hko, hn3⟩ := key_facts xs (by omega)
    have HV1 := Lib.hid hv
    have HOK := Lib.hid hok
    have HHas := Lib.hid hhas
    have CN1 := Lib.hid hn1
    have CN2 := Lib.hid hn2
    have CN3 := Lib.hid hn3
    have CKO := Lib.hid hko
    obtain ⟨va, vcap, rfl, hvcap, _⟩ := hv
    obtain ⟨L, hL⟩ : ∃ L, L = xs.length := ⟨_, rfl⟩
    rw [← hL] at HV1 hvcap hxl HOK ⊢
    clear hok hhas hn1 hn2 hn3 hko hL
    go_wp2_with fail
    refine (CN1.out _ _ HV1.out).mono ?_
    rintro e w2 ⟨rfl, hb⟩
    have HV2 := Lib.hid (HV1.out.below hb)
    have HB2 := Lib.hid (HB1.out.trans (hb.mono HB1.out.size))
    clear hb
    go_wp2_with fail
    refine (CN2.out _ _ HV2.out).mono ?_
    rintro e w3 ⟨rfl, hb⟩
    have HB3 := Lib.hid (HB2.out.trans (hb.mono HB2.out.size))
    clear hb
    go_wp2_with fail
    refine (CKO.out _).mono ?_
    rintro e w4 ⟨⟨kv, rfl, hkv⟩, hb⟩
    have HB4 := Lib.hid (HB3.out.trans (hb.mono HB3.out.size))
    clear hb
    have HKV := Lib.hid hkv
    obtain ⟨ka, kcap, rfl, hkcap, hcells⟩ := hkv
    obtain ⟨K, hK⟩ : ∃ K, K = ys.length := ⟨_, rfl⟩
    have HC : Hid (∀ (w2 : World), Below w4.heap.size w4 w2 → ∀ (j : Nat) x, 0 < K → ys[j]? = some x → ∃ bk o, ka = some ⟨bk, o, none⟩ ∧ w2.cell? ⟨bk, o + j, none⟩ = some (.int .i64 x)) := by
      intro w2 hb j x h0 hx
      rcases hcells with h | ⟨bk, o, ha, hk, h⟩
      · rw [h] at hK; simp at hK; omega
      · exact ⟨bk, o, ha, (hb.cell (p := ⟨bk, o + j, none⟩) hk).trans (h j _ hx)⟩
    rw [← hK] at HKV hkcap hyl HOK ⊢
    have HKn := Lib.hid hK
    clear hcells hK
    go_wp2_with fail
    go_loopw [10] (fun i wr => ∃ k : Nat, i = .int .i64 k ∧ k ≤ K ∧ Below w4.heap.size w4 wr) (fun i _ => K - (intOf i).toNat)
    case atStart => exact ⟨0, rfl, Nat.zero_le _, Below.refl _ _⟩
    case round =>
      obtain ⟨k, rfl, hk, hbel⟩ := hrel
      by_cases hlt : k < K
      · obtain ⟨y, hy⟩ : ∃ y, ys[k]? = some y := ⟨_, List.getElem?_eq_getElem (by rw [← HKn.out]; exact hlt)⟩
        obtain ⟨bk, o, rfl, hck⟩ := HC.out wr hbel k y (by omega) hy
        have c := fun w => CH.out s y w
        rw [HHas.out y (List.mem_of_getElem? hy)] at c
        have C := Lib.hid c
        clear c hy
        go_wp2_with fail
        refine (C.out _).mono ?_
        rintro e w5 ⟨rfl, rfl⟩
        go_wp2
        go_roundw
        case rel => exact ⟨k + 1, by go_num, by omega, hbel⟩
        case measure => simp [intOf]; omega
      · have HB5 := Lib.hid (HB4.out.trans (hbel.mono HB4.out.size))
        have HKV5 := Lib.hid (HKV.out.below hbel)
        clear hbel HC
        go_wp2_with fail
        refine (CDM.out _ (HCode.out.below HB5.out)).mono ?_
        rintro e w6 ⟨⟨a, b, rfl⟩, hb⟩
        have HB6 := Lib.hid (HB5.out.trans (hb.mono HB5.out.size))
        have HKV6 := Lib.hid (HKV5.out.below hb)
        clear hb
        have HMF := Lib.hid (merge_facts a b)
        obtain ⟨m, hm⟩ : ∃ m, m = mergeI a b := ⟨_, rfl⟩
        obtain ⟨mg, hmg⟩ : ∃ mg, mg = mergeB a b := ⟨_, rfl⟩
        have cm := fun w => CM.out a b w
        have cm2 := fun w => CM2.out a b w
        rw [← hm, ← hmg] at cm cm2 HMF
        have CMa := Lib.hid cm
        have CMb := Lib.hid cm2
        clear cm cm2 hm hmg
        go_wp2_with fail
        refine (CMa.out _).mono ?_
        rintro e w7 ⟨rfl, rfl⟩
        go_wp2_with fail
        refine (CMb.out _).mono ?_
        rintro e w7 ⟨rfl, rfl⟩
        go_wp2_with fail
        refine (CDH.out _ (HCode.out.below HB6.out)).mono ?_
        rintro e w8 ⟨⟨x, y, rfl⟩, hb⟩
        have HB8 := Lib.hid (HB6.out.trans (hb.mono HB6.out.size))
        have HKV8 := Lib.hid (HKV6.out.below hb)
        clear hb
        go_wp2_with fail
        refine (CH.out x y _).mono ?_
        rintro e w9 ⟨rfl, rfl⟩
        go_wp2_with fail
        refine (CH2.out x y _).mono ?_
        rintro e w9 ⟨rfl, rfl⟩
        have la := lenK_le a
        have lb := lenK_le b
        have lm := lenK_le m
        obtain ⟨pa, hpa⟩ : ∃ pa, pa = lenK a := ⟨_, rfl⟩
        obtain ⟨pb, hpb⟩ : ∃ pb, pb = lenK b := ⟨_, rfl⟩
        obtain ⟨pm, hpm⟩ : ∃ pm, pm = lenK m := ⟨_, rfl⟩
        have c1 := fun w => CL.out a w
        have c2 := fun w => CL.out b w
        have c3 := fun w => CL.out m w
        rw [← hpa] at la c1 HMF
        rw [← hpb] at lb c2 HMF
        rw [← hpm] at lm c3 HMF
        have CLa := Lib.hid c1
        have CLb := Lib.hid c2
        have CLm := Lib.hid c3
        clear c1 c2 c3 hpa hpb hpm
        go_wp2_with fail
        refine (CLa.out _).mono ?_
        rintro e w10 ⟨⟨xa, ca, fa, rfl, hca⟩, hb⟩
        have HB10 := Lib.hid (HB8.out.trans (hb.mono HB8.out.size))
        have HKV10 := Lib.hid (HKV8.out.below hb)
        clear hb
        go_wp2_with fail
        refine (CLb.out _).mono ?_
        rintro e w11 ⟨⟨xb, cb, fb, rfl, hcb⟩, hb⟩
        have HB11 := Lib.hid (HB10.out.trans (hb.mono HB10.out.size))
        have HKV11 := Lib.hid (HKV10.out.below hb)
        clear hb
        go_wp2_with fail
        refine (CLm.out _).mono ?_
        rintro e w12 ⟨⟨xm, cm, fm, rfl, hcm⟩, hb⟩
        have HB12 := Lib.hid (HB11.out.trans (hb.mono HB11.out.size))
        have HKV12 := Lib.hid (HKV11.out.below hb)
        clear hb
        go_wp2_with fail
        refine (CN3.out _ _ HKV12.out).mono ?_
        rintro e w13 ⟨rfl, hb⟩
        have HB13 := Lib.hid (HB12.out.trans (hb.mono HB12.out.size))
        clear hb
        obtain ⟨ob, hob⟩ : ∃ ob, bits .or .i64 a b = ob := ⟨_, rfl⟩
        rw [hob] at HMF
        cases ok
        · cases mg
          · clear HMF HOK
            go_wp2
            go_ret
            exact ⟨rfl, HB13.out⟩
          · obtain ⟨h1, rfl⟩ := HMF.out rfl
            have h2 : (((pa : Int) + (pb : Int)) == (pm : Int)) = true := by rw [beq_iff_eq]; omega
            clear HMF HOK
            go_wp2
            go_ret
            exact ⟨ret_bool (by simp), HB13.out⟩
        · obtain ⟨rfl, rfl, rfl⟩ := HOK.out rfl
          cases mg
          · clear HMF HOK
            go_wp2
            go_ret
            exact ⟨ret_bool (by simp), HB13.out⟩
          · obtain ⟨h1, rfl⟩ := HMF.out rfl
            have h2 : (((pa : Int) + (pb : Int)) == (pm : Int)) = true := by rw [beq_iff_eq]; omega
            clear HMF HOK
            go_wp2
            go_ret
            exact ⟨ret_bool (by simp), HB13.out⟩

/-! ### THE ROW's STEP -/
theorem contract (H : Type) (enc : TypeId × Value → H) (W : World) (base : Nat) (args : Array Value) (ds gs : List (DataW H)) (before : List MemPlace)
    (hval : ∀ (j : Nat) t v, Try.f5.params[j]? = some t → args[j]? = some v → Value.okWide Try.prog W .any base t v)
    (hW : DataW.Whole enc Try.prog Try.f5.params.toList Rows.fnKeysSpec.vars false W args.toList ds gs before) (hL : laidMetH Try.prog Rows.fnKeysRow.laid W) (hS : W.ShapedOpen Try.prog) :
    Calls Try.prog 5 args W fun e W' => ∃ v, e = .returned v ∧ Rows.fnKeysSpec.post enc Try.prog Try.f5 false true false false W args v W' := by
  have hW' := hW
  obtain ⟨p, q, hA0, hV, rfl, hfz, hnd⟩ := hW
  have hA : DataW.TrodAll enc Try.prog W 0 (fun _ => true) true Try.f5.params.toList args.toList ds p := hA0
  rw [Try.params5] at hA hval
  obtain ⟨v0, vs0, d0, ds0, p0, q0, hargs, rfl, rfl, h0, r0⟩ := trodAll_cons hA
  obtain ⟨rfl, rfl, rfl⟩ := trodAll_nil r0
  obtain rfl : args = #[v0] := by cases args; simp_all
  obtain ⟨rfl, rfl⟩ := trodVars_none hV
  have k0 := h0
  have lt0 : ∀ x ∈ p0, x.block < W.heap.size := by obtain ⟨m, hm⟩ := k0; exact DataW.trod_lt m _ _ _ hm
  obtain ⟨a0, n0, c0, rfl⟩ := okWide_slice Try.underlying22 (hval 0 22 v0 rfl rfl)
  obtain ⟨z0, w0⟩ : ∃ zs, IsRow .u8 W a0 n0 c0 zs := by
    obtain ⟨fuel, hf⟩ := h0
    rcases open_ints Try.underlying22 Try.underlying5 (by kernel_rfl) hf with ⟨hcs, _⟩ | ⟨x, l, c, zs, hcs, _, hl, hm, hz, _, hcell, hwz⟩
    · simp [Value.cells] at hcs
      obtain ⟨rfl, rfl, rfl⟩ := hcs
      exact ⟨[], .inl ⟨rfl, rfl, rfl, rfl⟩⟩
    · simp [Value.cells] at hcs
      obtain ⟨rfl, rfl, rfl⟩ := hcs
      exact ⟨zs, .inr ⟨_, rfl, hl, hm, by simpa using hz, hcell, hwz⟩⟩
  clear hA0 hval
  refine (walk a0 n0 c0 z0 W hS  w0).mono fun e W' ⟨he, bel⟩ => ?_
  subst he
  exact ⟨_, rfl, _, _, _, [], _, [], hW', trodAll_mk1 (shut_bool Try.underlying4 _), (trodAll_cons_mk (Below.trod laidOut (by kernel_rfl) (of_decide_eq_true (by kernel_rfl)) k0 bel lt0) trodAll_mk0), rfl, bel.frame _, fun h => by cases h⟩

theorem reads (os : Os) {H : Type} (enc : TypeId × Value → H) : ∃ places, DataW.whole enc Try.prog ((World.holding Try.prog os ⟨#[], #[], []⟩).forCall (fun _ _ => 0) ⟨#[], #[.slice none 0 0], []⟩).memory Try.f5.params.toList Rows.fnKeysSpec.vars false (#[.slice none 0 0] : Array Value).toList 8 = some ([.nil], [], places) :=
  ⟨[], by kernel_rfl⟩

set_option maxRecDepth 100000 in
theorem lifted (os : Os) (started : os.Started) (H : Type) (enc : TypeId × Value → H) (F : Stop.Interp) :
    ReturnsInHanded {} Try.checked os 5 .any ((OpenSpec.ofChange Rows.fnKeysSpec).preRow enc Try.prog Try.f5 Rows.fnKeysRow.domain false Rows.fnKeysRow.laid) (((OpenSpec.ofChange Rows.fnKeysSpec).at F).post enc Try.prog Try.f5 false true false false) := by
  obtain ⟨places, hx⟩ := reads os enc
  refine returnsInHanded_of_row (C := Try.checked) (s := OpenSpec.ofChange Rows.fnKeysSpec) own started (by kernel_rfl) Try.func5
    (witness_row_atRef (enc := enc) (C := Try.checked) false (World.holding Try.prog os ⟨#[], #[], []⟩) #[.slice none 0 0] rfl (by kernel_rfl) (by kernel_rfl) (by kernel_rfl)
      (OpenSpec.preRow_of_cond 8 hx (by kernel_rfl) (fun k hk => by cases hk) (by kernel_rfl) ⟨[], rfl, List.nodup_nil, fun b off h => by cases h⟩)) ?_
  intro W base args ds gs before hval hW _ _ _ hL hS _
  exact contract H enc W base args ds gs before hval hW hL hS

theorem said : Rows.FnKeysSaid :=
  OpenClaim.holds_of_cond 5 Try.f5 rfl rfl rfl rfl rfl rfl rfl ⟨rfl, rfl, rfl, rfl, rfl⟩ rfl rfl rfl rfl rfl (by kernel_rfl) Try.func5 (by kernel_rfl)
    (of_decide_eq_true (by kernel_rfl)) (by unfold Func.isWrapper; first | (rw [if_pos (by decide +kernel)]; kernel_rfl) | (rw [if_neg (by decide +kernel)]; exact ⟨rfl, rfl⟩))
    (fun os started H enc _ F => by rw [OpenClaim.pre_eq_preRow]; exact lifted os started H enc F)

theorem proved : Rows.FnKeysSaid := said
#print axioms proved
end Go.Proofs.Ytinpolcmofdojaa.fnKeys
