/-
  laws.FnLooseStrokes returns true whatever the code: what canonical notation accepts relaxed notation accepts with the same value, and a relaxed notation has one character a key, at all that the code draws. Conditions: none but the row's own.
-/
import Derived.Test.YtinpolcmofdojaaRows
import Derived.WalkKit
import Derived.ProofKit
import Derived.OpenShut
import Derived.ShutString
import Derived.ChangeOld
import Derived.Below
import Derived.SliceStrings
import Derived.JoinedCond
import Derived.Deep.DeepHandedRow
import Derived.Deep.DeepWitnessRowRef
import Derived.Lib.Hide
import Derived.Test.YtinpolcmofdojaaLoose
import Derived.Test.YtinpolcmofdojaaDrawK
import Derived.Test.YtinpolcmofdojaaBig
namespace Go.Proofs.Ytinpolcmofdojaa.fnLooseStrokes
open Go.ChangeShapes Go.WideShapes Go.ChangeAt Go.RowKit
open Go.ChangeMaps (open_string shut_string)
set_option linter.unusedVariables false

theorem own : ownKnob Try.prog.godebug = none := by kernel_rfl
theorem laidOut : laidOutB Try.prog = true := by kernel_rfl

/-- A slice of integers that came in. -/
def IsRow (k : IntKind) (w : World) (a : Option Addr) (len cap : Nat) (zs : List Int) : Prop :=
  (a = none ∧ len = 0 ∧ cap = 0 ∧ zs = []) ∨
  ∃ x, a = some x ∧ len ≤ cap ∧ cap ≤ maxLen ∧ zs.length = cap ∧ (∀ i, i < zs.length → w.cell? (x.add i) = some (.int k (zs.getD i 0))) ∧ ∀ n ∈ zs, (Lit.int k n).wf = true

theorem code_of {w : World} {a : Option Addr} {n c : Nat} {z : List Int} (h : IsRow .u8 w a n c z) (hn : n ≤ 1000000) : CodeAt w a n := by
  refine ⟨hn, fun h0 => ?_⟩
  rcases h with ⟨rfl, rfl, rfl, rfl⟩ | ⟨x, rfl, hl, hm, hz, hcell, hwz⟩
  · omega
  · obtain ⟨b, o, spot⟩ := x
    have h1 := hcell 0 (by omega)
    have hspot : spot = none := by simpa [Addr.add] using World.cell?_spot h1
    subst hspot
    refine ⟨b, o, rfl, ?_, fun i hi => ?_⟩
    · have : (w.cell? ⟨b, o, none⟩).isSome := by have := h1; simp [Addr.add] at this; rw [this]; rfl
      rcases Nat.lt_or_ge b w.heap.size with h' | h'
      · exact h'
      · simp [World.cell?, Array.getElem?_eq_none h'] at this
    · have h2 := hcell i (by omega)
      have h3 := bounds_u8 (hwz (z.getD i 0) (by rw [List.getD_eq_getElem?_getD, List.getElem?_eq_getElem (by omega)]; exact List.getElem_mem _))
      refine ⟨z.getD i 0, h3.1, h3.2, ?_⟩
      by_cases hi0 : i = 0
      · subst hi0; simpa [Addr.add] using h2
      · simpa [Addr.add, hi0] using h2
theorem row_len {w : World} {a : Option Addr} {n c : Nat} {z : List Int} (h : IsRow .u8 w a n c z) : n ≤ maxLen := by
  rcases h with ⟨_, rfl, _, _⟩ | ⟨x, _, hl, hm, _⟩
  · exact Nat.zero_le _
  · omega
theorem plain_take (t : ByteArray) (k : Nat) (h : k < t.size) : Pl.plain (t.data.toList.take (k + 1)) = Pl.plain (t.data.toList.take k) + (if t[k] != 45 then 1 else 0) := by
  have e : t.data.toList.take (k + 1) = t.data.toList.take k ++ [t[k]] := by
    rw [List.take_succ_eq_append_getElem (by simpa using h)]; rfl
  rw [e]
  unfold Pl.plain
  rw [List.countP_append, List.countP_cons, List.countP_nil]
  omega
theorem plain_le (l : List UInt8) : Pl.plain l ≤ l.length := List.countP_le_length
theorem strict_cases (t : ByteArray) : Pl.strict t.data.toList = 0 ∨ Pl.strict t.data.toList = Pl.loose t.data.toList := by
  by_cases h : Pl.strict t.data.toList = 0
  · exact .inl h
  · exact .inr (Pl.nota_strict _ h).2
/-! ### THE WALK: the Go text returns true, and writes nothing that was there. -/
set_option maxRecDepth 100000 in
set_option maxHeartbeats 1000000 in
theorem walk (a0 : Option Addr) (n0 c0 : Nat) (z0 : List Int) (w : World) (hS : w.ShapedOpen Try.prog)  (w0 : IsRow .u8 w a0 n0 c0 z0) :
    Calls Try.prog 4 #[.slice a0 n0 c0] w fun e w' => e = .returned (.bool true) ∧ Below w.heap.size w w' := by
  have hnm := row_len w0
  by_cases hbig : 65536 < n0
  · have C := Lib.hid (big_yes a0 n0 c0 w hbig hnm)
    clear w0 hS hnm
    go_enter Try.func4, Try.ntmps4
    go_wp2_with fail
    refine C.out.mono ?_
    rintro e w1 ⟨rfl, rfl⟩
    go_wp2
    go_ret
    exact ⟨rfl, Below.refl _ _⟩
  · have C := Lib.hid (big_no a0 n0 c0 w (by omega))
    have HCode := Lib.hid (code_of w0 (by omega))
    have CD := Lib.hid (fun w h => drawParseLoose_any a0 n0 c0 w h)
    have CV := Lib.hid (fun s w => IsValidStroke_any s w)
    clear w0 hS hnm hbig
    go_enter Try.func4, Try.ntmps4
    go_wp2_with fail
    refine C.out.mono ?_
    rintro e w0 ⟨rfl, rfl⟩
    go_wp2_with fail
    refine (CD.out _ HCode.out).mono ?_
    rintro e w1 ⟨⟨t, ht, rfl⟩, hb⟩
    have HB1 := Lib.hid hb
    clear hb
    have c1 := fun w => ParseLoose_any t w (by unfold maxLen; omega)
    have c2 := fun w => specParseLoose_any t w (by unfold maxLen; omega)
    have c3 := fun w => ParseStroke_any t w (by unfold maxLen; omega)
    obtain ⟨n, hn⟩ : ∃ n, Pl.loose t.data.toList = n := ⟨_, rfl⟩
    have hlt : n < 8388608 := by rw [← hn]; exact Pl.loose_lt _
    by_cases h0 : n = 0
    · subst h0
      rw [looseE_zero hn] at c1 c2
      rw [strictE_zero (strict_of_zero hn)] at c3
      have C1 := Lib.hid c1
      have C2 := Lib.hid c2
      have C3 := Lib.hid c3
      clear c1 c2 c3 hn hlt
      go_wp2_with fail
      refine (C1.out _).mono ?_
      rintro e w2 ⟨rfl, hb⟩
      have HB2 := Lib.hid (HB1.out.trans (hb.mono HB1.out.size))
      clear hb
      go_wp2_with fail
      refine (C2.out _).mono ?_
      rintro e w3 ⟨rfl, hb⟩
      have HB3 := Lib.hid (HB2.out.trans (hb.mono HB2.out.size))
      clear hb
      go_wp2_with fail
      refine (C3.out _).mono ?_
      rintro e w4 ⟨rfl, hb⟩
      have HB4 := Lib.hid (HB3.out.trans (hb.mono HB3.out.size))
      clear hb
      go_wp2
      go_ret
      exact ⟨rfl, HB4.out⟩
    · rw [looseE_pos hn h0] at c1 c2
      obtain ⟨q, f, hq, c4⟩ : ∃ (q : Int) (f : Bool), (f = true → q = (n : Int)) ∧ ∀ w, Calls Try.prog 19 #[.string t] w fun e w' => e = .returned (.tuple #[.int .i64 q, .bool f]) ∧ Below w.heap.size w w' := by
        rcases strict_cases t with h | h
        · exact ⟨0, false, (fun e => nomatch e), fun w => by have := c3 w; rw [strictE_zero h] at this; exact this⟩
        · exact ⟨n, true, (fun _ => rfl), fun w => by have := c3 w; rw [strictE_pos (h.trans hn) h0] at this; exact this⟩
      have hcard : (keysI n).length = Pl.plain t.data.toList := by rw [keysI_len, ← hn]; exact Pl.loose_card _ (by rw [hn]; exact h0)
      have C1 := Lib.hid c1
      have C2 := Lib.hid c2
      have C4 := Lib.hid c4
      have CK := Lib.hid (fun w => KeysOf_yes n (by omega) hlt w)
      have HQ := Lib.hid hq
      have HCard := Lib.hid hcard
      have hok : Hid (okS (n : Int) = true) := okS_yes ⟨by omega, by omega⟩
      clear c1 c2 c3 c4 hn hlt hq hcard
      go_wp2_with fail
      refine (C1.out _).mono ?_
      rintro e w2 ⟨rfl, hb⟩
      have HB2 := Lib.hid (HB1.out.trans (hb.mono HB1.out.size))
      clear hb
      go_wp2_with fail
      refine (C2.out _).mono ?_
      rintro e w3 ⟨rfl, hb⟩
      have HB3 := Lib.hid (HB2.out.trans (hb.mono HB2.out.size))
      clear hb
      go_wp2_with fail
      refine (C4.out _).mono ?_
      rintro e w4 ⟨rfl, hb⟩
      have HB4 := Lib.hid (HB3.out.trans (hb.mono HB3.out.size))
      clear hb
      cases f
      all_goals try obtain rfl := HQ.out rfl
      all_goals clear HQ
      · skip
        go_wp2_with fail
        refine (CK.out _).mono ?_
        rintro e w5 ⟨⟨v, rfl, hv⟩, hb⟩
        have HB5 := Lib.hid (HB4.out.trans (hb.mono HB4.out.size))
        obtain ⟨a, cap, rfl, hcap, _⟩ := rowInts_at hv
        rw [HCard.out] at hcap ⊢
        clear hb hv
        have hpl := plain_le t.data.toList
        rw [Array.length_toList] at hpl
        obtain ⟨N, hN⟩ : ∃ N, N = Pl.plain t.data.toList := ⟨_, rfl⟩
        rw [← hN] at hcap hpl ⊢
        have HN := Lib.hid hN
        have hNs : N ≤ 25 := by have : t.data.size = t.size := rfl; omega
        clear hN hpl
        go_wp2_with fail
        go_loop [12, 13] (fun nn i => ∃ k : Nat, i = .int .i64 k ∧ k ≤ t.size ∧ nn = .int .i64 (Pl.plain (t.data.toList.take k))) (fun _ i => t.size - (intOf i).toNat)
        case atStart => exact ⟨0, rfl, Nat.zero_le _, rfl⟩
        case round =>
          obtain ⟨k, rfl, hk, rfl⟩ := hrel
          by_cases hlt : k < t.size
          · have HP := Lib.hid (plain_take t k hlt)
            obtain ⟨p, hp⟩ : ∃ p, p = Pl.plain (t.data.toList.take k) := ⟨_, rfl⟩
            have hp2 : p ≤ 25 := by
              have h1 := plain_le (t.data.toList.take k)
              rw [List.length_take] at h1
              omega
            rw [← hp] at HP ⊢
            clear hp
            obtain ⟨z, hz⟩ : ∃ z : Int, (t[k].toNat : Int) = z := ⟨_, rfl⟩
            by_cases h45 : t[k] = 45
            · have hz' : (z != 45) = false := by rw [← hz, h45]; rfl
              have HP' : Hid (Pl.plain (t.data.toList.take (k + 1)) = p) := by have := HP.out; rw [h45] at this; simpa [Hid] using this
              clear HP h45
              go_wp2
              go_round
              case rel => exact ⟨k + 1, by go_num, by omega, by rw [HP'.out]⟩
              case measure => simp [intOf]; omega
            · have hz' : (z != 45) = true := by
                rw [bne_iff_ne]; intro e; exact h45 (UInt8.toNat_inj.1 (by have : (45 : UInt8).toNat = 45 := rfl; omega))
              have HP' : Hid (Pl.plain (t.data.toList.take (k + 1)) = p + 1) := by have := HP.out; rw [show (t[k] != 45) = true by rw [bne_iff_ne]; exact h45] at this; simpa [Hid] using this
              clear HP h45
              go_wp2
              go_round
              case rel => exact ⟨k + 1, by go_num, by omega, by rw [HP'.out]; rfl⟩
              case measure => simp [intOf]; omega
          · have etake : Pl.plain (t.data.toList.take k) = N := by
              rw [List.take_of_length_le (by rw [Array.length_toList]; show t.size ≤ k; omega)]; exact HN.out.symm
            rw [etake]
            have hNN : ((N : Int) == (N : Int)) = true := beq_self_eq_true _
            clear etake
            go_wp2_with fail
            refine (CV.out (n : Int) _).mono ?_
            rintro e w6 ⟨rfl, rfl⟩
            rw [hok.out]
            go_wp2
            go_ret
            exact ⟨rfl, HB5.out⟩
      · skip
        go_wp2_with fail
        refine (CK.out _).mono ?_
        rintro e w5 ⟨⟨v, rfl, hv⟩, hb⟩
        have HB5 := Lib.hid (HB4.out.trans (hb.mono HB4.out.size))
        obtain ⟨a, cap, rfl, hcap, _⟩ := rowInts_at hv
        rw [HCard.out] at hcap ⊢
        clear hb hv
        have hpl := plain_le t.data.toList
        rw [Array.length_toList] at hpl
        obtain ⟨N, hN⟩ : ∃ N, N = Pl.plain t.data.toList := ⟨_, rfl⟩
        rw [← hN] at hcap hpl ⊢
        have HN := Lib.hid hN
        have hNs : N ≤ 25 := by have : t.data.size = t.size := rfl; omega
        clear hN hpl
        go_wp2_with fail
        go_loop [12, 13] (fun nn i => ∃ k : Nat, i = .int .i64 k ∧ k ≤ t.size ∧ nn = .int .i64 (Pl.plain (t.data.toList.take k))) (fun _ i => t.size - (intOf i).toNat)
        case atStart => exact ⟨0, rfl, Nat.zero_le _, rfl⟩
        case round =>
          obtain ⟨k, rfl, hk, rfl⟩ := hrel
          by_cases hlt : k < t.size
          · have HP := Lib.hid (plain_take t k hlt)
            obtain ⟨p, hp⟩ : ∃ p, p = Pl.plain (t.data.toList.take k) := ⟨_, rfl⟩
            have hp2 : p ≤ 25 := by
              have h1 := plain_le (t.data.toList.take k)
              rw [List.length_take] at h1
              omega
            rw [← hp] at HP ⊢
            clear hp
            obtain ⟨z, hz⟩ : ∃ z : Int, (t[k].toNat : Int) = z := ⟨_, rfl⟩
            by_cases h45 : t[k] = 45
            · have hz' : (z != 45) = false := by rw [← hz, h45]; rfl
              have HP' : Hid (Pl.plain (t.data.toList.take (k + 1)) = p) := by have := HP.out; rw [h45] at this; simpa [Hid] using this
              clear HP h45
              go_wp2
              go_round
              case rel => exact ⟨k + 1, by go_num, by omega, by rw [HP'.out]⟩
              case measure => simp [intOf]; omega
            · have hz' : (z != 45) = true := by
                rw [bne_iff_ne]; intro e; exact h45 (UInt8.toNat_inj.1 (by have : (45 : UInt8).toNat = 45 := rfl; omega))
              have HP' : Hid (Pl.plain (t.data.toList.take (k + 1)) = p + 1) := by have := HP.out; rw [show (t[k] != 45) = true by rw [bne_iff_ne]; exact h45] at this; simpa [Hid] using this
              clear HP h45
              go_wp2
              go_round
              case rel => exact ⟨k + 1, by go_num, by omega, by rw [HP'.out]; rfl⟩
              case measure => simp [intOf]; omega
          · have etake : Pl.plain (t.data.toList.take k) = N := by
              rw [List.take_of_length_le (by rw [Array.length_toList]; show t.size ≤ k; omega)]; exact HN.out.symm
            rw [etake]
            have hNN : ((N : Int) == (N : Int)) = true := beq_self_eq_true _
            clear etake
            go_wp2_with fail
            refine (CV.out (n : Int) _).mono ?_
            rintro e w6 ⟨rfl, rfl⟩
            rw [hok.out]
            go_wp2
            go_ret
            exact ⟨rfl, HB5.out⟩

/-! ### THE ROW's STEP -/
theorem contract (H : Type) (enc : TypeId × Value → H) (W : World) (base : Nat) (args : Array Value) (ds gs : List (DataW H)) (before : List MemPlace)
    (hval : ∀ (j : Nat) t v, Try.f4.params[j]? = some t → args[j]? = some v → Value.okWide Try.prog W .any base t v)
    (hW : DataW.Whole enc Try.prog Try.f4.params.toList Rows.fnLooseStrokesSpec.vars false W args.toList ds gs before) (hL : laidMetH Try.prog Rows.fnLooseStrokesRow.laid W) (hS : W.ShapedOpen Try.prog) :
    Calls Try.prog 4 args W fun e W' => ∃ v, e = .returned v ∧ Rows.fnLooseStrokesSpec.post enc Try.prog Try.f4 false true false false W args v W' := by
  have hW' := hW
  obtain ⟨p, q, hA0, hV, rfl, hfz, hnd⟩ := hW
  have hA : DataW.TrodAll enc Try.prog W 0 (fun _ => true) true Try.f4.params.toList args.toList ds p := hA0
  rw [Try.params4] at hA hval
  obtain ⟨v0, vs0, d0, ds0, p0, q0, hargs, rfl, rfl, h0, r0⟩ := trodAll_cons hA
  obtain ⟨rfl, rfl, rfl⟩ := trodAll_nil r0
  obtain rfl : args = #[v0] := by cases args; simp_all
  obtain ⟨rfl, rfl⟩ := trodVars_none hV
  have k0 := h0
  have lt0 : ∀ x ∈ p0, x.block < W.heap.size := by obtain ⟨m, hm⟩ := k0; exact DataW.trod_lt m _ _ _ hm
  obtain ⟨a0, n0, c0, rfl⟩ := okWide_slice Try.underlying22 (hval 0 22 v0 rfl rfl)
  obtain ⟨z0, w0⟩ : ∃ zs, IsRow .u8 W a0 n0 c0 zs := by
    obtain ⟨fuel, hf⟩ := h0
    rcases open_ints Try.underlying22 Try.underlying5 (by kernel_rfl) hf with ⟨hcs, _⟩ | ⟨x, l, c, zs, hcs, _, hl, hm, hz, _, hcell, hwz⟩
    · simp [Value.cells] at hcs
      obtain ⟨rfl, rfl, rfl⟩ := hcs
      exact ⟨[], .inl ⟨rfl, rfl, rfl, rfl⟩⟩
    · simp [Value.cells] at hcs
      obtain ⟨rfl, rfl, rfl⟩ := hcs
      exact ⟨zs, .inr ⟨_, rfl, hl, hm, by simpa using hz, hcell, hwz⟩⟩
  clear hA0 hval
  refine (walk a0 n0 c0 z0 W hS  w0).mono fun e W' ⟨he, bel⟩ => ?_
  subst he
  exact ⟨_, rfl, _, _, _, [], _, [], hW', trodAll_mk1 (shut_bool Try.underlying4 _), (trodAll_cons_mk (Below.trod laidOut (by kernel_rfl) (of_decide_eq_true (by kernel_rfl)) k0 bel lt0) trodAll_mk0), rfl, bel.frame _, fun h => by cases h⟩

theorem reads (os : Os) {H : Type} (enc : TypeId × Value → H) : ∃ places, DataW.whole enc Try.prog ((World.holding Try.prog os ⟨#[], #[], []⟩).forCall (fun _ _ => 0) ⟨#[], #[.slice none 0 0], []⟩).memory Try.f4.params.toList Rows.fnLooseStrokesSpec.vars false (#[.slice none 0 0] : Array Value).toList 8 = some ([.nil], [], places) :=
  ⟨[], by kernel_rfl⟩

set_option maxRecDepth 100000 in
theorem lifted (os : Os) (started : os.Started) (H : Type) (enc : TypeId × Value → H) (F : Stop.Interp) :
    ReturnsInHanded {} Try.checked os 4 .any ((OpenSpec.ofChange Rows.fnLooseStrokesSpec).preRow enc Try.prog Try.f4 Rows.fnLooseStrokesRow.domain false Rows.fnLooseStrokesRow.laid) (((OpenSpec.ofChange Rows.fnLooseStrokesSpec).at F).post enc Try.prog Try.f4 false true false false) := by
  obtain ⟨places, hx⟩ := reads os enc
  refine returnsInHanded_of_row (C := Try.checked) (s := OpenSpec.ofChange Rows.fnLooseStrokesSpec) own started (by kernel_rfl) Try.func4
    (witness_row_atRef (enc := enc) (C := Try.checked) false (World.holding Try.prog os ⟨#[], #[], []⟩) #[.slice none 0 0] rfl (by kernel_rfl) (by kernel_rfl) (by kernel_rfl)
      (OpenSpec.preRow_of_cond 8 hx (by kernel_rfl) (fun k hk => by cases hk) (by kernel_rfl) ⟨[], rfl, List.nodup_nil, fun b off h => by cases h⟩)) ?_
  intro W base args ds gs before hval hW _ _ _ hL hS _
  exact contract H enc W base args ds gs before hval hW hL hS

theorem said : Rows.FnLooseStrokesSaid :=
  OpenClaim.holds_of_cond 4 Try.f4 rfl rfl rfl rfl rfl rfl rfl ⟨rfl, rfl, rfl, rfl, rfl⟩ rfl rfl rfl rfl rfl (by kernel_rfl) Try.func4 (by kernel_rfl)
    (of_decide_eq_true (by kernel_rfl)) (by unfold Func.isWrapper; first | (rw [if_pos (by decide +kernel)]; kernel_rfl) | (rw [if_neg (by decide +kernel)]; exact ⟨rfl, rfl⟩))
    (fun os started H enc _ F => by rw [OpenClaim.pre_eq_preRow]; exact lifted os started H enc F)

theorem proved : Rows.FnLooseStrokesSaid := said
#print axioms proved
end Go.Proofs.Ytinpolcmofdojaa.fnLooseStrokes
