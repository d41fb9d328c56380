/-
  CONTRACTS of chapter 3 of the specification: l3After, l3Good, l3LastUp, and the functions over them.
-/
import Derived.Test.YtindcafdphfppaaEvs
import Derived.Test.YtindcafdphfppaaKeys
import Derived.Maps.AppendAt
namespace Go.Proofs.Ytindcafdphfppaa
open Go.RowKit

theorem xor_i64 (a b : Nat) (ha : a < 2 ^ 63) (hb : b < 2 ^ 63) : bits .xor .i64 (a : Int) (b : Int) = ((a ^^^ b : Nat) : Int) := by
  show IntKind.i64.wrap ((BitVec.ofInt 64 (a : Int) ^^^ BitVec.ofInt 64 (b : Int)).toNat : Int) = _
  rw [BitVec.toNat_xor, ofInt_u64 a (by omega), ofInt_u64 b (by omega)]
  exact i64_small _ (Nat.xor_lt_two_pow ha hb)

set_option maxHeartbeats 1000000 in
theorem l3After_any (dn : Nat) (e : Pl.Ev) (hd : dn < 8388608) (w : World) :
    Calls Try.prog 54 #[.int .i64 dn, evV e] w fun r w' => r = .returned (if Pl.fits dn e then .tuple #[.int .i64 (Pl.flip dn e : Nat), .bool true] else .tuple #[.int .i64 0, .bool false]) ∧ Below w.heap.size w w' := by
  obtain ⟨t, k, d⟩ := e
  have CI := Lib.hid (fun k a b w => l1In_any k a b w)
  by_cases hk : 0 ≤ k ∧ k < 23
  · obtain ⟨q, rfl⟩ := Int.eq_ofNat_of_zero_le hk.1
    have c1 := fun w => CI.out (q : Int) 0 22 w
    rw [show (decide (0 ≤ (q : Int)) && decide ((q : Int) ≤ 22)) = true by simp; omega] at c1
    have C1 := Lib.hid c1
    by_cases ht : 0 ≤ t ∧ t ≤ 999999
    · have c2 := fun w => CI.out t 0 999999 w
      rw [show (decide (0 ≤ t) && decide (t ≤ 999999)) = true by simp; omega] at c2
      have C2 := Lib.hid c2
      have hq : q < 23 := by omega
      have hbv := bit_i64 dn q (by omega)
      have hsh := shl_i64' q hq
      have hp := pow_lt23 q hq
      have hxor := xor_i64 dn (2 ^ q) (by omega) (by omega)
      cases hb : dn.testBit q
      · have hqq : (bits .and .i64 ((dn : Int) / 2 ^ q) 1 == 1) = false := by rw [hbv, hb]; rfl
        cases d
        · rw [if_neg (fun h => h.2.2.2.2 (by show dn.testBit (q : Int).toNat = false; rw [Int.toNat_natCast, hb]))]
          clear c1 c2 hbv hb hxor hk ht hp hsh CI
          go_enter Try.func54, Try.ntmps54
          go_wp2_with fail
          refine (C1.out _).mono ?_
          rintro r w1 ⟨rfl, rfl⟩
          go_wp2_with fail
          refine (C2.out _).mono ?_
          rintro r w1 ⟨rfl, rfl⟩
          go_wp2
          go_ret2
          exact ⟨rfl, (Below.refl _ _).alloc (Nat.le_refl _) _⟩
        · rw [if_pos ⟨hk.1, hk.2, ht.1, ht.2, by show dn.testBit (q : Int).toNat ≠ true; rw [Int.toNat_natCast, hb]; decide⟩]
          have hfl : ((Pl.flip dn ⟨t, (q : Int), true⟩ : Nat) : Int) = bits .xor .i64 (dn : Int) ((2 ^ q : Nat) : Int) := by rw [hxor]; unfold Pl.flip; rw [Int.toNat_natCast]
          have HFl := Lib.hid hfl
          obtain ⟨p, hpp⟩ : ∃ p, p = 2 ^ q := ⟨_, rfl⟩
          rw [← hpp] at hsh HFl
          clear c1 c2 hbv hb hxor hfl hk ht hp hpp CI
          go_enter Try.func54, Try.ntmps54
          go_wp2_with fail
          refine (C1.out _).mono ?_
          rintro r w1 ⟨rfl, rfl⟩
          go_wp2_with fail
          refine (C2.out _).mono ?_
          rintro r w1 ⟨rfl, rfl⟩
          go_wp2
          go_ret2
          exact ⟨ret_int_bool HFl.out.symm, (Below.refl _ _).alloc (Nat.le_refl _) _⟩
      · have hqq : (bits .and .i64 ((dn : Int) / 2 ^ q) 1 == 1) = true := by rw [hbv, hb]; rfl
        cases d
        · rw [if_pos ⟨hk.1, hk.2, ht.1, ht.2, by show dn.testBit (q : Int).toNat ≠ false; rw [Int.toNat_natCast, hb]; decide⟩]
          have hfl : ((Pl.flip dn ⟨t, (q : Int), false⟩ : Nat) : Int) = bits .xor .i64 (dn : Int) ((2 ^ q : Nat) : Int) := by rw [hxor]; unfold Pl.flip; rw [Int.toNat_natCast]
          have HFl := Lib.hid hfl
          obtain ⟨p, hpp⟩ : ∃ p, p = 2 ^ q := ⟨_, rfl⟩
          rw [← hpp] at hsh HFl
          clear c1 c2 hbv hb hxor hfl hk ht hp hpp CI
          go_enter Try.func54, Try.ntmps54
          go_wp2_with fail
          refine (C1.out _).mono ?_
          rintro r w1 ⟨rfl, rfl⟩
          go_wp2_with fail
          refine (C2.out _).mono ?_
          rintro r w1 ⟨rfl, rfl⟩
          go_wp2
          go_ret2
          exact ⟨ret_int_bool HFl.out.symm, (Below.refl _ _).alloc (Nat.le_refl _) _⟩
        · rw [if_neg (fun h => h.2.2.2.2 (by show dn.testBit (q : Int).toNat = true; rw [Int.toNat_natCast, hb]))]
          clear c1 c2 hbv hb hxor hk ht hp hsh CI
          go_enter Try.func54, Try.ntmps54
          go_wp2_with fail
          refine (C1.out _).mono ?_
          rintro r w1 ⟨rfl, rfl⟩
          go_wp2_with fail
          refine (C2.out _).mono ?_
          rintro r w1 ⟨rfl, rfl⟩
          go_wp2
          go_ret2
          exact ⟨rfl, (Below.refl _ _).alloc (Nat.le_refl _) _⟩
    · have c2 := fun w => CI.out t 0 999999 w
      rw [show (decide (0 ≤ t) && decide (t ≤ 999999)) = false by simp; omega] at c2
      have C2 := Lib.hid c2
      rw [if_neg (fun h => ht ⟨h.2.2.1, h.2.2.2.1⟩)]
      clear c1 c2 hk ht CI
      go_enter Try.func54, Try.ntmps54
      go_wp2_with fail
      refine (C1.out _).mono ?_
      rintro r w1 ⟨rfl, rfl⟩
      go_wp2_with fail
      refine (C2.out _).mono ?_
      rintro r w1 ⟨rfl, rfl⟩
      go_wp2
      go_ret2
      exact ⟨rfl, (Below.refl _ _).alloc (Nat.le_refl _) _⟩
  · have c1 := fun w => CI.out k 0 22 w
    rw [show (decide (0 ≤ k) && decide (k ≤ 22)) = false by simp; omega] at c1
    have C1 := Lib.hid c1
    have hno : ¬ Pl.fits dn ⟨t, k, d⟩ := fun h => hk ⟨h.1, h.2.1⟩
    rw [if_neg hno]
    clear c1 hk hno
    go_enter Try.func54, Try.ntmps54
    go_wp2_with fail
    refine (C1.out _).mono ?_
    rintro r w1 ⟨rfl, rfl⟩
    go_wp2
    go_ret2
    exact ⟨rfl, (Below.refl _ _).alloc (Nat.le_refl _) _⟩

/-- What is known of the cells of a slice of events, in every later world. -/
def EvCells (w : World) (a : Option Addr) (es : List Pl.Ev) : Prop :=
  ∀ w1 : World, Below w.heap.size w w1 → ∀ (j : Nat) e, es[j]? = some e → ∃ bk o, a = some ⟨bk, o, none⟩ ∧ bk < w.heap.size ∧ w1.cell? ⟨bk, o + j * 3, none⟩ = some (.int .i64 e.t) ∧ w1.cell? ⟨bk, o + j * 3 + 1, none⟩ = some (.int .i64 e.k) ∧ w1.cell? ⟨bk, o + j * 3 + 2, none⟩ = some (.bool e.d)
theorem EvsAt.cells {w : World} {v : Value} {es : List Pl.Ev} (h : EvsAt w v es) : ∃ a cap, v = .slice a es.length cap ∧ es.length ≤ cap ∧ EvCells w a es := by
  obtain ⟨a, cap, rfl, hc, h⟩ := h
  refine ⟨a, cap, rfl, hc, fun w1 hb j e he => ?_⟩
  rcases h with rfl | ⟨bk, o, ha, hk, h⟩
  · simp at he
  · obtain ⟨g0, g1, g2⟩ := h j e he
    exact ⟨bk, o, ha, hk, (hb.cell (p := ⟨bk, o + j * 3, none⟩) hk).trans g0, (hb.cell (p := ⟨bk, o + j * 3 + 1, none⟩) hk).trans g1, (hb.cell (p := ⟨bk, o + j * 3 + 2, none⟩) hk).trans g2⟩
theorem lastT_take {es : List Pl.Ev} {k : Nat} {e : Pl.Ev} (h : es[k]? = some e) : Pl.lastT 0 (es.take (k + 1)) = e.t := by
  rw [List.take_add_one, h]; unfold Pl.lastT; rw [List.foldl_append]; rfl
theorem chk_next {es : List Pl.Ev} {k : Nat} {e : Pl.Ev} (h : es[k]? = some e) (hc : Pl.chk 0 0 (es.take k) = true) (hl : Pl.lastT 0 (es.take k) ≤ e.t) (hf : Pl.fits (Pl.run (es.take k)).dn e) : Pl.chk 0 0 (es.take (k + 1)) = true := by
  rw [List.take_add_one, h]
  show Pl.chk 0 0 (_ ++ [e]) = true
  have hf' : Pl.fits ((es.take k).foldl Pl.flip 0) e := by unfold Pl.run at hf; rw [Pl.run_dn] at hf; exact hf
  rw [Pl.chk_append, hc, Bool.true_and, Pl.chk_cons, if_pos ⟨hl, hf'⟩]; rfl
theorem good_no {es : List Pl.Ev} {k : Nat} {e : Pl.Ev} (h : es[k]? = some e) (hno : ¬ (Pl.lastT 0 (es.take k) ≤ e.t ∧ Pl.fits (Pl.run (es.take k)).dn e)) : Pl.good es = false := by
  cases hg : Pl.good es
  · rfl
  · unfold Pl.good at hg
    rw [Bool.and_eq_true] at hg
    exact absurd (Pl.chk_at hg.2 h).2 hno

set_option maxHeartbeats 2000000 in
theorem l3Good_any (v : Value) (es : List Pl.Ev) (w : World) (h : EvsAt w v es) (hn : es.length ≤ 2097152) :
    Calls Try.prog 52 #[v] w fun e w' => e = .returned (.bool (Pl.good es)) ∧ Below w.heap.size w w' := by
  obtain ⟨a, cap, rfl, hcap, hC⟩ := h.cells
  obtain ⟨n, hnn⟩ : ∃ n, n = es.length := ⟨_, rfl⟩
  rw [← hnn] at hn hcap ⊢
  have HN := Lib.hid hnn
  have HC := Lib.hid hC
  have CA := Lib.hid (fun dn e hd w => l3After_any dn e hd w)
  clear h hnn hC
  go_enter Try.func52, Try.ntmps52
  go_wp2_with fail
  go_loopw [3, 4, 5] (fun dn _ i wr => ∃ k : Nat, i = .int .i64 k ∧ k ≤ n ∧ k ≤ 201 ∧ dn = .int .i64 ((Pl.run (es.take k)).dn : Nat) ∧ Hid (Pl.chk 0 0 (es.take k) = true) ∧ Below w.heap.size w wr) (fun _ _ i _ => n - (intOf i).toNat)
  case atStart => exact ⟨0, rfl, Nat.zero_le _, by omega, rfl, by exact Lib.hid rfl, Below.refl _ _⟩
  case round =>
    obtain ⟨k, rfl, hk, hk201, rfl, HL, hbel⟩ := hrel
    by_cases hlt : k < n ∧ k ≤ 200
    · obtain ⟨hlt1, hlt2⟩ := hlt
      have hlt2' : (k : Int) ≤ 200 := by omega
      obtain ⟨e, he⟩ : ∃ e, es[k]? = some e := ⟨_, List.getElem?_eq_getElem (by rw [← HN.out]; exact hlt1)⟩
      obtain ⟨bk, o, rfl, _, g0, g1, g2⟩ := HC.out wr hbel k e he
      have HE := Lib.hid he
      have hdn := (Pl.run_lt _ HL.out).1
      obtain ⟨dn, hdd⟩ : ∃ dn, dn = (Pl.run (es.take k)).dn := ⟨_, rfl⟩
      rw [← hdd] at hdn ⊢
      have HD := Lib.hid hdd
      clear he hdd
      rcases Nat.eq_zero_or_pos k with h0 | h0
      · subst h0
        simp only [Nat.zero_mul, Nat.add_zero] at g0 g1 g2
        by_cases hf : Pl.fits dn e
        · have HL2 := Lib.hid (chk_next HE.out HL.out (show (0 : Int) ≤ e.t from hf.2.2.1) (by rw [← HD.out]; exact hf))
          have hrun : Pl.flip dn e = (Pl.run (es.take (0 + 1))).dn := by rw [Pl.run_take HE.out, HD.out]; rfl
          have c := fun w => CA.out dn e hdn w
          rw [if_pos hf, hrun] at c
          have C := Lib.hid c
          clear c hrun hf HL
          go_wp2_with fail
          go_quiet (fail)
          go_wp2_with fail
          refine (C.out _).mono ?_
          rintro r w1 ⟨rfl, hb1⟩
          have HB1 := Lib.hid ((below_drewN hbel nq).trans (hb1.mono (below_drewN hbel nq).size))
          clear hb1
          go_wp2
          go_roundw
          case rel => exact ⟨0 + 1, by go_num, by omega, by omega, rfl, HL2, HB1.out⟩
          case measure => simp [intOf]; omega
        · have HG := Lib.hid (good_no HE.out (fun h => hf (by rw [HD.out]; exact h.2)))
          have c := fun w => CA.out dn e hdn w
          rw [if_neg hf] at c
          have C := Lib.hid c
          clear c hf HL
          go_wp2_with fail
          go_quiet (fail)
          go_wp2_with fail
          refine (C.out _).mono ?_
          rintro r w1 ⟨rfl, hb1⟩
          have HB1 := Lib.hid ((below_drewN hbel nq).trans (hb1.mono (below_drewN hbel nq).size))
          clear hb1
          go_wp2
          go_ret
          exact ⟨ret_bool HG.out.symm, HB1.out⟩
      · obtain ⟨k1, hk1⟩ : ∃ k1, k = k1 + 1 := ⟨k - 1, by omega⟩
        obtain ⟨e', he'⟩ : ∃ e', es[k1]? = some e' := ⟨_, List.getElem?_eq_getElem (by rw [← HN.out]; omega)⟩
        obtain ⟨bk', o', hbk, _, g0', g1', g2'⟩ := HC.out wr hbel k1 e' he'
        obtain ⟨rfl, rfl⟩ : bk' = bk ∧ o' = o := by injection hbk with h; injection h; exact ⟨by omega, by omega⟩
        have HLT : Hid (Pl.lastT 0 (es.take k) = e'.t) := by rw [hk1]; exact lastT_take he'
        have hsub : (k : Int) - 1 = (k1 : Int) := by omega
        have hpos : (0 : Int) < (k : Int) := by omega
        have hk1n : k1 < n := by omega
        clear he' hbk hk1
        by_cases htt : e.t < e'.t
        · have HG := Lib.hid (good_no HE.out (fun h => by have := h.1; rw [HLT.out] at this; omega))
          clear HL
          go_wp2_with fail
          go_quiet (fail)
          go_wp2
          go_ret
          exact ⟨ret_bool HG.out.symm, below_drewN hbel nq⟩
        · by_cases hf : Pl.fits dn e
          · have HL2 := Lib.hid (chk_next HE.out HL.out (by rw [HLT.out]; omega) (by rw [← HD.out]; exact hf))
            have hrun : Pl.flip dn e = (Pl.run (es.take (k + 1))).dn := by rw [Pl.run_take HE.out, HD.out]; rfl
            have c := fun w => CA.out dn e hdn w
            rw [if_pos hf, hrun] at c
            have C := Lib.hid c
            clear c hrun hf HL
            go_wp2_with fail
            go_quiet (fail)
            go_wp2_with fail
            refine (C.out _).mono ?_
            rintro r w1 ⟨rfl, hb1⟩
            have HB1 := Lib.hid ((below_drewN hbel nq).trans (hb1.mono (below_drewN hbel nq).size))
            clear hb1
            go_wp2
            go_roundw
            case rel => exact ⟨k + 1, by go_num, by omega, by omega, rfl, HL2, HB1.out⟩
            case measure => simp [intOf]; omega
          · have HG := Lib.hid (good_no HE.out (fun h => hf (by rw [HD.out]; exact h.2)))
            have c := fun w => CA.out dn e hdn w
            rw [if_neg hf] at c
            have C := Lib.hid c
            clear c hf HL
            go_wp2_with fail
            go_quiet (fail)
            go_wp2_with fail
            refine (C.out _).mono ?_
            rintro r w1 ⟨rfl, hb1⟩
            have HB1 := Lib.hid ((below_drewN hbel nq).trans (hb1.mono (below_drewN hbel nq).size))
            clear hb1
            go_wp2
            go_ret
            exact ⟨ret_bool HG.out.symm, HB1.out⟩
    · have HG : Hid (Pl.good es = decide (n ≤ 200)) := by
        show Pl.good es = _
        unfold Pl.good
        rw [← HN.out]
        by_cases h2 : n ≤ 200
        · have h3 := HL.out
          rw [List.take_of_length_le (by rw [← HN.out]; omega)] at h3
          rw [h3, Bool.and_true]
        · simp [h2]
      have hcond : ¬ ((k : Int) < (n : Int)) ∨ ¬ ((k : Int) ≤ 200) := by
        by_cases h2 : k < n
        · exact .inr (by omega)
        · exact .inl (by omega)
      have hfin : ((n : Int) ≤ 200) = (n ≤ 200) := by rw [eq_iff_iff]; omega
      clear HL hlt
      rcases hcond with h1 | h1
      · go_wp2
        go_ret
        exact ⟨ret_bool (by rw [HG.out]), hbel⟩
      · by_cases h2 : (k : Int) < (n : Int)
        · go_wp2
          go_ret
          exact ⟨ret_bool (by rw [HG.out]), hbel⟩
        · go_wp2
          go_ret
          exact ⟨ret_bool (by rw [HG.out]), hbel⟩

theorem row_below {w w' : World} {base : Nat} {e : TypeId} {size : Nat} {v : Value} {n : Nat} {xs : List Value} (h : w.ownsRow base e size v n xs) (hb : Below w.heap.size w w') : w'.ownsRow base e size v n xs := by
  refine h.kept (row := none) ⟨hb.os, hb.tape, hb.output, hb.size, fun k hk _ => hb.block k hk⟩ ?_
  cases hv : v.ownBlock with
  | none => exact .inl rfl
  | some g => exact .inr (by simp)
theorem row_lt {w : World} {base : Nat} {e : TypeId} {size : Nat} {v : Value} {n : Nat} {xs : List Value} (h : w.ownsRow base e size v n xs) {g : Nat} (hg : v.ownBlock = some g) : g < w.heap.size := by
  rcases h.2 with ⟨rfl, _⟩ | ⟨g', cap, cur, rfl, hb, hgg, _⟩
  · simp [Value.ownBlock] at hg
  · have : g' = g := by simpa [Value.ownBlock] using hg
    rw [← this]; exact (Array.getElem?_eq_some_iff.1 hgg).1
/-- The strokes as ints. -/
def natsI (l : List Nat) : List Int := l.map Int.ofNat
theorem natsI_snoc (l : List Nat) (s : Nat) : (natsI (l ++ [s])).map (Value.int .i64) = (natsI l).map (Value.int .i64) ++ [.int .i64 (s : Int)] := by unfold natsI; simp
theorem natsI_len (l : List Nat) : (natsI l).length = l.length := by unfold natsI; rw [List.length_map]
/-- One event of a permitted list: what the run becomes. -/
theorem step_zero {r : Pl.Run} {e : Pl.Ev} (h : Pl.flip r.dn e = 0) : r.step e = ⟨0, 0, e.d, r.S ++ [r.ch ||| Pl.flip r.dn e], r.T ++ [e.t], if e.d = false ∧ r.pd = true then r.F ++ [r.dn] else r.F⟩ := by
  unfold Pl.Run.step; simp only; rw [h, if_pos rfl, if_pos rfl, if_pos rfl]
theorem step_more {r : Pl.Run} {e : Pl.Ev} (h : Pl.flip r.dn e ≠ 0) : r.step e = ⟨Pl.flip r.dn e, r.ch ||| Pl.flip r.dn e, e.d, r.S, r.T, if e.d = false ∧ r.pd = true then r.F ++ [r.dn] else r.F⟩ := by
  unfold Pl.Run.step; simp only; rw [if_neg h, if_neg h, if_neg h]
theorem run_lens (es : List Pl.Ev) : (Pl.run es).S.length ≤ es.length ∧ (Pl.run es).T.length ≤ es.length ∧ (Pl.run es).F.length ≤ es.length := by
  induction hn : es.length generalizing es with
  | zero => obtain rfl := List.length_eq_zero_iff.1 hn; exact ⟨Nat.le_refl _, Nat.le_refl _, Nat.le_refl _⟩
  | succ n ih =>
    rcases List.eq_nil_or_concat es with rfl | ⟨l, e, rfl⟩
    · simp at hn
    · rw [List.concat_eq_append] at hn ⊢
      obtain ⟨h1, h2, h3⟩ := ih l (by simpa using hn)
      rw [Pl.run_snoc]
      unfold Pl.Run.step
      simp only
      refine ⟨?_, ?_, ?_⟩
      · split
        · rw [List.length_append]; simp; omega
        · omega
      · split
        · rw [List.length_append]; simp; omega
        · omega
      · split
        · rw [List.length_append]; simp; omega
        · omega

set_option maxHeartbeats 4000000 in
theorem l3LastUp_any (v : Value) (es : List Pl.Ev) (w : World) (h : EvsAt w v es) (hn : es.length ≤ 200) (hg : Pl.chk 0 0 es = true) :
    Calls Try.prog 53 #[v] w fun e w' => (∃ a b, e = .returned (.tuple #[a, b]) ∧ IntsAt w' a (natsI (Pl.run es).S) ∧ IntsAt w' b (Pl.run es).T) ∧ Below w.heap.size w w' := by
  obtain ⟨i0, hi, hz0, hz1, hz2⟩ := info_parts infoInt
  obtain ⟨a, cap, rfl, hcap, hC⟩ := h.cells
  obtain ⟨n, hnn⟩ : ∃ n, n = es.length := ⟨_, rfl⟩
  rw [← hnn] at hn hcap ⊢
  have HN := Lib.hid hnn
  have HC := Lib.hid hC
  have HG := Lib.hid hg
  have CA := Lib.hid (fun dn e hd w => l3After_any dn e hd w)
  clear h hnn hC hg
  go_enter Try.func53, Try.ntmps53
  go_wp2_with fail
  go_loopw [4, 5, 6, 7, 8] (fun sv tv dn ch i wr => ∃ (k : Nat) (r : Pl.Run), i = .int .i64 k ∧ k ≤ n ∧ dn = .int .i64 (r.dn : Nat) ∧ ch = .int .i64 (r.ch : Nat) ∧ Hid (r = Pl.run (es.take k)) ∧
    Hid (wr.ownsRow w.heap.size 3 1 sv (natsI r.S).length ((natsI r.S).map (.int .i64))) ∧ Hid (wr.ownsRow w.heap.size 3 1 tv r.T.length (r.T.map (.int .i64))) ∧ Hid (sv.ownBlock ≠ tv.ownBlock) ∧ Below w.heap.size w wr) (fun _ _ _ _ i _ => n - (intOf i).toNat)
  case atStart =>
    refine ⟨0, Pl.Run.zero, rfl, Nat.zero_le _, rfl, rfl, Lib.hid rfl, ?_, ?_, ?_, ((Below.refl _ _).alloc (Nat.le_refl _) _).alloc (by simp) _⟩
    · exact (row_new w 3).alloc _
    · have e := row_new (w.alloc (.cells #[] 3)) 3
      rw [World.size_alloc] at e
      refine ⟨e.1, ?_⟩
      rcases e.2 with h | ⟨g, c, cur, hv, hb, rest⟩
      · exact .inl h
      · exact .inr ⟨g, c, cur, hv, by omega, rest⟩
    · show (some w.heap.size : Option Nat) ≠ some (w.heap.size + 1)
      intro e; injection e; omega
  case round =>
    obtain ⟨k, r, rfl, hk, rfl, rfl, HR, HS, HT, HX, hbel⟩ := hrel
    by_cases hlt : k < n
    · obtain ⟨e, he⟩ : ∃ e, es[k]? = some e := ⟨_, List.getElem?_eq_getElem (by rw [← HN.out]; exact hlt)⟩
      obtain ⟨bk, o, rfl, hbkw, g0, g1, g2⟩ := HC.out wr hbel k e he
      have hbk : bk < wr.heap.size := Nat.lt_of_lt_of_le hbkw hbel.size
      obtain ⟨hck, _, hfit⟩ := Pl.chk_at HG.out he
      rw [← HR.out] at hfit
      have hrl := Pl.run_lt _ hck
      rw [← HR.out] at hrl
      obtain ⟨hd1, hd2⟩ := hrl
      have hlens := run_lens (es.take k)
      rw [← HR.out, List.length_take, ← HN.out] at hlens
      have HStep : Hid (Pl.run (es.take (k + 1)) = r.step e) := by rw [HR.out]; exact Pl.run_take he
      have hfl := Pl.flip_lt hd1 hfit
      have c := fun w => CA.out r.dn e hd1 w
      rw [if_pos hfit] at c
      obtain ⟨fl, hfleq⟩ : ∃ fl, fl = Pl.flip r.dn e := ⟨_, rfl⟩
      rw [← hfleq] at c hfl
      have C := Lib.hid c
      have hor := or_i64s r.ch fl hd2 hfl
      have HFE := Lib.hid hfleq
      clear c hck hfit he hfleq
      go_wp2_with fail
      refine (C.out _).mono ?_
      rintro x w1 ⟨rfl, hb1⟩
      have hbel1 := hbel.trans (hb1.mono hbel.size)
      have hck1 := (hb1.cell (p := ⟨bk, o + k * 3, none⟩) hbk).trans g0
      have HS1 := Lib.hid (row_below HS.out hb1)
      have HT1 := Lib.hid (row_below HT.out hb1)
      have hsz1 := hbel1.size
      have HTE := Lib.hid (show r.T.length ≤ 200 by omega)
      have hSl : (natsI r.S).length ≤ 200 := by rw [natsI_len]; omega
      have hTl : r.T.length ≤ 200 := by omega
      clear HS HT hb1 hbel g0 g1 g2
      by_cases hz : fl = 0
      · subst hz
        have HR2 : Hid (Pl.run (es.take (k + 1)) = ⟨0, 0, e.d, r.S ++ [r.ch ||| 0], r.T ++ [e.t], if e.d = false ∧ r.pd = true then r.F ++ [r.dn] else r.F⟩) := by
          show _ = _
          rw [HStep.out, step_zero HFE.out.symm, ← HFE.out]
        clear HStep HFE
        obtain ⟨c2, hc2⟩ : ∃ c2, c2 = r.ch ||| 0 := ⟨_, rfl⟩
        rw [← hc2] at hor HR2
        have hor0 : bits .or .i64 (r.ch : Int) 0 = (c2 : Int) := hor
        clear hc2 hor
        have hown := HS1.out
        go_wp2_with (at_builtin; refine wpList_append_own_at _ rfl _ _ 24 rfl w.heap.size 3 i0 (.int .i64 0) 1 8 Try.underlying24 hi hz0 hz1 hz2 rfl (by decide) _ _ _ rfl (hown.alloc _) ⟨w1.heap.size, 0, none⟩ 1 1 [.int .i64 (c2 : Int)] rfl rfl ?c1 ?c2 ?c3 ?c4 ?c5 ?_)
        case c1 => exact cell_one_new _ _ _
        case c2 => intro y hy; simp at hy; subst hy; rfl
        case c3 => unfold maxLen; omega
        case c4 => omega
        case c5 => simp; omega
        intro sv' w2 hown' hgrow _ hat
        have hbw : Below w.heap.size w w2 := (hbel1.alloc hsz1 _).grown hgrow (by simp; omega) fun j hj => row_ge hown hj
        have HS2 : Hid (w2.ownsRow w.heap.size 3 1 sv' (natsI (r.S ++ [c2])).length ((natsI (r.S ++ [c2])).map (.int .i64))) := by
          rw [natsI_snoc, natsI_len, List.length_append, ← natsI_len]; exact hown'
        have HT2 : Hid (w2.ownsRow w.heap.size 3 1 u5 r.T.length (r.T.map (.int .i64))) := by
          refine (HT1.out.alloc _).kept hgrow ?_
          cases hx : Value.ownBlock u5 with
          | none => exact .inl rfl
          | some g => exact .inr (by rw [← hx]; exact HX.out.symm)
        have HX2 : Hid (sv'.ownBlock ≠ Value.ownBlock u5) := by
          rcases hat with h | h
          · rw [h]; exact HX.out
          · rw [h]
            intro e
            have := row_lt (HT1.out) e.symm
            omega
        have hck2 : w2.cell? ⟨bk, o + k * 3, none⟩ = some (.int .i64 e.t) := by
          have hb2 : Below w.heap.size w1 w2 := ((Below.refl _ _).alloc hsz1 _).grown hgrow (by simp; omega) fun j hj => row_ge hown hj
          exact (hb2.cell (p := ⟨bk, o + k * 3, none⟩) hbkw).trans hck1
        have hsz2 := hbw.size
        clear hown hown' hgrow hat HS1 HT1 HX
        have hown := HT2.out
        go_wp2_with (at_builtin; refine wpList_append_own_at _ rfl _ _ 24 rfl w.heap.size 3 i0 (.int .i64 0) 1 8 Try.underlying24 hi hz0 hz1 hz2 rfl (by decide) _ _ _ rfl (hown.alloc _) ⟨w2.heap.size, 0, none⟩ 1 1 [.int .i64 e.t] rfl rfl ?d1 ?d2 ?d3 ?d4 ?d5 ?_)
        case d1 => exact cell_one_new _ _ _
        case d2 => intro y hy; simp at hy; subst hy; rfl
        case d3 => unfold maxLen; omega
        case d4 => omega
        case d5 => simp; omega
        intro tv' w3 hown' hgrow _ hat
        have HB3 : Hid (Below w.heap.size w w3) := (hbw.alloc hsz2 _).grown hgrow (by simp; omega) fun j hj => row_ge hown hj
        have HT3 : Hid (w3.ownsRow w.heap.size 3 1 tv' (r.T ++ [e.t]).length ((r.T ++ [e.t]).map (.int .i64))) := by
          rw [List.length_append, List.map_append]; exact hown'
        have HS3 : Hid (w3.ownsRow w.heap.size 3 1 sv' (natsI (r.S ++ [c2])).length ((natsI (r.S ++ [c2])).map (.int .i64))) := by
          refine (HS2.out.alloc _).kept hgrow ?_
          cases hx : sv'.ownBlock with
          | none => exact .inl rfl
          | some g => exact .inr (by rw [← hx]; exact HX2.out)
        have HX3 : Hid (sv'.ownBlock ≠ tv'.ownBlock) := by
          rcases hat with h | h
          · rw [h]; exact HX2.out
          · rw [h]
            intro e
            have := row_lt (HS2.out) e
            omega
        clear hown hown' hgrow hat HS2 HT2 HX2 hbw hck2
        go_wp2
        go_roundw
        case rel => exact ⟨k + 1, ⟨0, 0, e.d, r.S ++ [c2], r.T ++ [e.t], if e.d = false ∧ r.pd = true then r.F ++ [r.dn] else r.F⟩, by go_num, by omega, rfl, rfl, HR2.out.symm, HS3, HT3, HX3, HB3.out⟩
        case measure => simp [intOf]; omega
      · have HR2 : Hid (Pl.run (es.take (k + 1)) = ⟨fl, r.ch ||| fl, e.d, r.S, r.T, if e.d = false ∧ r.pd = true then r.F ++ [r.dn] else r.F⟩) := by
          show _ = _
          rw [HStep.out, step_more (by rw [← HFE.out]; exact hz), ← HFE.out]
        have hz' : ((fl : Int) == 0) = false := by rw [beq_eq_false_iff_ne]; omega
        clear HStep HFE
        go_wp2
        go_roundw
        case rel => exact ⟨k + 1, ⟨fl, r.ch ||| fl, e.d, r.S, r.T, if e.d = false ∧ r.pd = true then r.F ++ [r.dn] else r.F⟩, by go_num, by omega, rfl, rfl, HR2.out.symm, HS1, HT1, HX, hbel1⟩
        case measure => simp [intOf]; omega
    · obtain rfl : k = n := by omega
      have HF : Hid (r = Pl.run es) := by
        show r = _
        rw [HR.out, List.take_of_length_le (by rw [← HN.out]; exact Nat.le_refl _)]
      have HS2 := Lib.hid (rowInts_at HS.out)
      have HT2 := Lib.hid (rowInts_at HT.out)
      rw [HF.out] at HS2 HT2
      clear HR HS HT HX
      go_wp2
      go_ret2
      exact ⟨⟨_, _, rfl, HS2.out, HT2.out⟩, hbel⟩

theorem good_parts {es : List Pl.Ev} (h : Pl.good es = true) : es.length ≤ 200 ∧ Pl.chk 0 0 es = true := by
  unfold Pl.good at h; rw [Bool.and_eq_true] at h; exact ⟨of_decide_eq_true h.1, h.2⟩
/-- What the answers of chapter 3 are, of a list of events. -/
def lastL (es : List Pl.Ev) : List Int := if Pl.good es = true then natsI (Pl.run es).S else []
def timesL (es : List Pl.Ev) : List Int := if Pl.good es = true then (Pl.run es).T else []
def firstL (es : List Pl.Ev) : List Int := if Pl.good es = true then natsI (Pl.run es).F else []
def heldL (es : List Pl.Ev) : List Int := if Pl.good es = true then keysI (Pl.run es).dn else []
/-- An answer of ints and a flag. -/
def IntsE (w' : World) (xs : List Int) (b : Bool) (e : Ending) : Prop := ∃ u, e = .returned (.tuple #[u, .bool b]) ∧ IntsAt w' u xs

theorem specIsValidEvents_any (v : Value) (es : List Pl.Ev) (w : World) (h : EvsAt w v es) (hn : es.length ≤ 2097152) :
    Calls Try.prog 27 #[v] w fun e w' => e = .returned (.bool (Pl.good es)) ∧ Below w.heap.size w w' := by
  have C := Lib.hid (l3Good_any v es w h hn)
  obtain ⟨a, cap, rfl, hcap, _⟩ := h.cells
  clear h
  go_enter Try.func27, Try.ntmps27
  go_wp2_with fail
  refine C.out.mono ?_
  rintro e w1 ⟨rfl, hb⟩
  go_wp2
  go_ret
  exact ⟨rfl, hb⟩
theorem specLastUp_any (v : Value) (es : List Pl.Ev) (w : World) (h : EvsAt w v es) (hn : es.length ≤ 2097152) :
    Calls Try.prog 21 #[v] w fun e w' => IntsE w' (lastL es) (Pl.good es) e ∧ Below w.heap.size w w' := by
  have c := l3Good_any v es w h hn
  cases hg : Pl.good es
  · have hl : lastL es = [] := by unfold lastL; rw [hg]; rfl
    rw [hg] at c
    rw [hl]
    have C := Lib.hid c
    obtain ⟨a, cap, rfl, hcap, _⟩ := h.cells
    clear c h hg hl
    go_enter Try.func21, Try.ntmps21
    go_wp2_with fail
    refine C.out.mono ?_
    rintro e w1 ⟨rfl, hb⟩
    go_wp2
    go_ret2
    exact ⟨⟨_, rfl, IntsAt.nil _ _ _⟩, hb.alloc hb.size _⟩
  · have hl : lastL es = natsI (Pl.run es).S := by unfold lastL; rw [hg]; rfl
    rw [hg] at c
    rw [hl]
    have C := Lib.hid c
    obtain ⟨h1, h2⟩ := good_parts hg
    have CL := Lib.hid (fun w h => l3LastUp_any v es w h h1 h2)
    have HE := Lib.hid h
    obtain ⟨a, cap, rfl, hcap, _⟩ := h.cells
    clear c h hg hl h2
    go_enter Try.func21, Try.ntmps21
    go_wp2_with fail
    refine C.out.mono ?_
    rintro e w1 ⟨rfl, hb⟩
    go_wp2_with fail
    refine (CL.out _ (HE.out.below hb)).mono ?_
    rintro e w2 ⟨⟨x, y, rfl, hx, _⟩, hb2⟩
    have HX := Lib.hid hx
    have HB := Lib.hid (hb.trans (hb2.mono hb.size))
    clear hx hb hb2
    go_wp2
    go_ret2
    exact ⟨⟨_, rfl, HX.out⟩, HB.out⟩
theorem specTimes_any (v : Value) (es : List Pl.Ev) (w : World) (h : EvsAt w v es) (hn : es.length ≤ 2097152) :
    Calls Try.prog 24 #[v] w fun e w' => IntsE w' (timesL es) (Pl.good es) e ∧ Below w.heap.size w w' := by
  have c := l3Good_any v es w h hn
  cases hg : Pl.good es
  · have hl : timesL es = [] := by unfold timesL; rw [hg]; rfl
    rw [hg] at c
    rw [hl]
    have C := Lib.hid c
    obtain ⟨a, cap, rfl, hcap, _⟩ := h.cells
    clear c h hg hl
    go_enter Try.func24, Try.ntmps24
    go_wp2_with fail
    refine C.out.mono ?_
    rintro e w1 ⟨rfl, hb⟩
    go_wp2
    go_ret2
    exact ⟨⟨_, rfl, IntsAt.nil _ _ _⟩, hb.alloc hb.size _⟩
  · have hl : timesL es = (Pl.run es).T := by unfold timesL; rw [hg]; rfl
    rw [hg] at c
    rw [hl]
    have C := Lib.hid c
    obtain ⟨h1, h2⟩ := good_parts hg
    have CL := Lib.hid (fun w h => l3LastUp_any v es w h h1 h2)
    have HE := Lib.hid h
    obtain ⟨a, cap, rfl, hcap, _⟩ := h.cells
    clear c h hg hl h2
    go_enter Try.func24, Try.ntmps24
    go_wp2_with fail
    refine C.out.mono ?_
    rintro e w1 ⟨rfl, hb⟩
    go_wp2_with fail
    refine (CL.out _ (HE.out.below hb)).mono ?_
    rintro e w2 ⟨⟨x, y, rfl, _, hx⟩, hb2⟩
    have HX := Lib.hid hx
    have HB := Lib.hid (hb.trans (hb2.mono hb.size))
    clear hx hb hb2
    go_wp2
    go_ret2
    exact ⟨⟨_, rfl, HX.out⟩, HB.out⟩
set_option maxHeartbeats 1000000 in
theorem specHeld_any (v : Value) (es : List Pl.Ev) (w : World) (h : EvsAt w v es) (hn : es.length ≤ 2097152) :
    Calls Try.prog 23 #[v] w fun e w' => IntsE w' (heldL es) (Pl.good es) e ∧ Below w.heap.size w w' := by
  have c := l3Good_any v es w h hn
  cases hg : Pl.good es
  · have hl : heldL es = [] := by unfold heldL; rw [hg]; rfl
    rw [hg] at c
    rw [hl]
    have C := Lib.hid c
    obtain ⟨a, cap, rfl, hcap, _⟩ := h.cells
    clear c h hg hl
    go_enter Try.func23, Try.ntmps23
    go_wp2_with fail
    refine C.out.mono ?_
    rintro e w1 ⟨rfl, hb⟩
    go_wp2
    go_ret2
    exact ⟨⟨_, rfl, IntsAt.nil _ _ _⟩, hb.alloc hb.size _⟩
  · have hl : heldL es = keysI (Pl.run es).dn := by unfold heldL; rw [hg]; rfl
    rw [hg] at c
    rw [hl]
    have C := Lib.hid c
    obtain ⟨h1, h2⟩ := good_parts hg
    have HG := Lib.hid h2
    have CA := Lib.hid (fun dn e hd w => l3After_any dn e hd w)
    have CK := Lib.hid (fun m hm w => l2Keys_any m hm w)
    obtain ⟨a, cap, rfl, hcap, hC⟩ := h.cells
    obtain ⟨n, hnn⟩ : ∃ n, n = es.length := ⟨_, rfl⟩
    rw [← hnn] at hcap h1 ⊢
    have HN := Lib.hid hnn
    have HC := Lib.hid hC
    have hC1 := (Pl.run_lt es h2).1
    clear c h hg hl h2 hnn hC hn
    go_enter Try.func23, Try.ntmps23
    go_wp2_with fail
    rw [HN.out]
    refine C.out.mono ?_
    rintro e w1 ⟨rfl, hb⟩
    rw [← HN.out]
    go_wp2_with fail
    go_loopw [4, 5] (fun dn i wr => ∃ k : Nat, i = .int .i64 k ∧ k ≤ n ∧ dn = .int .i64 ((Pl.run (es.take k)).dn : Nat) ∧ Below w.heap.size w wr) (fun _ i _ => n - (intOf i).toNat)
    case atStart => exact ⟨0, rfl, Nat.zero_le _, rfl, hb⟩
    case round =>
      obtain ⟨k, rfl, hk, rfl, hbel⟩ := hrel
      by_cases hlt : k < n
      · obtain ⟨e, he⟩ : ∃ e, es[k]? = some e := ⟨_, List.getElem?_eq_getElem (by rw [← HN.out]; exact hlt)⟩
        obtain ⟨bk, o, rfl, hbkw, g0, g1, g2⟩ := HC.out wr hbel k e he
        obtain ⟨hck, _, hfit⟩ := Pl.chk_at HG.out he
        have hd1 := (Pl.run_lt _ hck).1
        have hrun : Pl.flip (Pl.run (es.take k)).dn e = (Pl.run (es.take (k + 1))).dn := by rw [Pl.run_take he]; rfl
        have c := fun w => CA.out (Pl.run (es.take k)).dn e hd1 w
        rw [if_pos hfit, hrun] at c
        have CX := Lib.hid c
        clear c hck hfit he hrun hbkw
        go_wp2_with fail
        refine (CX.out _).mono ?_
        rintro x w2 ⟨rfl, hb2⟩
        have HB2 := Lib.hid (hbel.trans (hb2.mono hbel.size))
        clear hb2
        go_wp2
        go_roundw
        case rel => exact ⟨k + 1, by go_num, by omega, rfl, HB2.out⟩
        case measure => simp [intOf]; omega
      · obtain rfl : k = n := by omega
        rw [List.take_of_length_le (by rw [← HN.out]; exact Nat.le_refl _)]
        go_wp2_with fail
        refine (CK.out _ hC1 _).mono ?_
        rintro x w2 ⟨⟨u, rfl, hu⟩, hb2⟩
        have HU := Lib.hid (rowInts_at hu)
        have HB2 := Lib.hid (hbel.trans (hb2.mono hbel.size))
        clear hu hb2
        go_wp2
        go_ret2
        exact ⟨⟨_, rfl, HU.out⟩, HB2.out⟩

theorem pd_take {es : List Pl.Ev} {k : Nat} {e : Pl.Ev} (h : es[k]? = some e) : (Pl.run (es.take (k + 1))).pd = e.d := by rw [Pl.run_take h]; rfl
set_option maxHeartbeats 4000000 in
theorem specFirst_any (v : Value) (es : List Pl.Ev) (w : World) (h : EvsAt w v es) (hn : es.length ≤ 2097152) :
    Calls Try.prog 22 #[v] w fun e w' => IntsE w' (firstL es) (Pl.good es) e ∧ Below w.heap.size w w' := by
  have c := fun w h => l3Good_any v es w h hn
  have hal : Below w.heap.size w (w.alloc (.cells #[] 3)) := (Below.refl _ _).alloc (Nat.le_refl _) _
  have HE := Lib.hid h
  cases hg : Pl.good es
  · have hl : firstL es = [] := by unfold firstL; rw [hg]; rfl
    rw [hg] at c
    rw [hl]
    have C := Lib.hid c
    obtain ⟨a, cap, rfl, hcap, _⟩ := h.cells
    clear c h hg hl
    go_enter Try.func22, Try.ntmps22
    go_wp2_with fail
    refine (C.out _ (HE.out.below hal)).mono ?_
    rintro e w1 ⟨rfl, hb⟩
    have HB := Lib.hid (hal.trans (hb.mono hal.size))
    clear hb
    go_wp2
    go_ret2
    exact ⟨⟨_, rfl, IntsAt.nil _ _ _⟩, HB.out⟩
  · have hl : firstL es = natsI (Pl.run es).F := by unfold firstL; rw [hg]; rfl
    rw [hg] at c
    rw [hl]
    obtain ⟨h1, h2⟩ := good_parts hg
    have HG := Lib.hid h2
    have CA := Lib.hid (fun dn e hd w => l3After_any dn e hd w)
    obtain ⟨a, cap, rfl, hcap, hC⟩ := h.cells
    obtain ⟨n, hnn⟩ : ∃ n, n = es.length := ⟨_, rfl⟩
    rw [← hnn] at hcap h1 c HE ⊢
    have C := Lib.hid c
    have HN := Lib.hid hnn
    have HC := Lib.hid hC
    obtain ⟨i0, hi, hz0, hz1, hz2⟩ := info_parts infoInt
    clear c h hg hl h2 hnn hC hn
    go_enter Try.func22, Try.ntmps22
    go_wp2_with fail
    refine (C.out _ (HE.out.below hal)).mono ?_
    rintro e w1 ⟨rfl, hb⟩
    have HB1 := Lib.hid (hal.trans (hb.mono hal.size))
    have HO1 := Lib.hid (row_below (row_new w 3) hb)
    clear hb
    go_wp2_with fail
    go_loopw [4, 5, 6] (fun o dn i wr => ∃ (k : Nat) (r : Pl.Run), i = .int .i64 k ∧ k ≤ n ∧ dn = .int .i64 (r.dn : Nat) ∧ Hid (r = Pl.run (es.take k)) ∧
      Hid (wr.ownsRow w.heap.size 3 1 o (natsI r.F).length ((natsI r.F).map (.int .i64))) ∧ Below w.heap.size w wr) (fun _ _ i _ => n - (intOf i).toNat)
    case atStart => exact ⟨0, Pl.Run.zero, rfl, Nat.zero_le _, rfl, Lib.hid rfl, HO1, HB1.out⟩
    case round =>
      obtain ⟨k, r, rfl, hk, rfl, HR, HS, hbel⟩ := hrel
      by_cases hlt : k < n
      · obtain ⟨e, he⟩ : ∃ e, es[k]? = some e := ⟨_, List.getElem?_eq_getElem (by rw [← HN.out]; exact hlt)⟩
        obtain ⟨bk, o, rfl, hbkw, g0, g1, g2⟩ := HC.out wr hbel k e he
        have hbk : bk < wr.heap.size := Nat.lt_of_lt_of_le hbkw hbel.size
        obtain ⟨hck, _, hfit⟩ := Pl.chk_at HG.out he
        rw [← HR.out] at hfit
        have hd1 := (Pl.run_lt _ hck).1
        rw [← HR.out] at hd1
        have hlens := (run_lens (es.take k)).2.2
        rw [← HR.out, List.length_take, ← HN.out] at hlens
        have HStep : Hid (Pl.run (es.take (k + 1)) = r.step e) := by rw [HR.out]; exact Pl.run_take he
        have c := fun w => CA.out r.dn e hd1 w
        rw [if_pos hfit] at c
        have hfd : Pl.flip r.dn e = (r.step e).dn := rfl
        rw [hfd] at c
        have hprev : e.d = false → ∃ k1 e', k = k1 + 1 ∧ es[k1]? = some e' ∧ e'.d = r.pd := by
          intro hd
          rcases Nat.eq_zero_or_pos k with h0 | h0
          · exfalso
            subst h0
            have h3 := hfit.2.2.2.2
            rw [HR.out, hd] at h3
            exact h3 (Nat.zero_testBit _)
          · obtain ⟨k1, rfl⟩ : ∃ k1, k = k1 + 1 := ⟨k - 1, by omega⟩
            obtain ⟨e', he'⟩ : ∃ e', es[k1]? = some e' := ⟨_, List.getElem?_eq_getElem (by rw [← HN.out]; omega)⟩
            exact ⟨k1, e', rfl, he', by rw [HR.out]; exact (pd_take he').symm⟩
        have hF : (r.step e).F = if e.d = false ∧ r.pd = true then r.F ++ [r.dn] else r.F := rfl
        have HRx : Hid (r.step e = Pl.run (es.take (k + 1))) := HStep.out.symm
        clear hck hfit he HStep hfd
        cases hd : e.d
        · have hev : evV e = .agg #[.int .i64 e.t, .int .i64 e.k, .bool false] := by simp only [evV, hd]
          simp only [hev] at c
          have CX := Lib.hid c
          clear c hev
          obtain ⟨k1, e', hk1, he', hpd⟩ := hprev hd
          obtain ⟨bk', o', hbk', _, g0', g1', g2'⟩ := HC.out wr hbel k1 e' he'
          obtain ⟨rfl, rfl⟩ : bk' = bk ∧ o' = o := by injection hbk' with h; injection h; exact ⟨by omega, by omega⟩
          have hsub : (k : Int) - 1 = (k1 : Int) := by omega
          have hk1n : k1 < n := by omega
          rw [hd] at g2 hF
          rw [hpd] at g2'
          clear hprev hk1 he' hpd hbk'
          cases hp : r.pd
          · rw [hp] at g2' hF
            have HS2 : Hid (wr.ownsRow w.heap.size 3 1 u4 (natsI (r.step e).F).length ((natsI (r.step e).F).map (.int .i64))) := by rw [hF]; exact HS.out
            clear hF hp hd HS
            go_wp2_with fail
            refine (CX.out _).mono ?_
            rintro x w2 ⟨rfl, hb2⟩
            have HB2 := Lib.hid (hbel.trans (hb2.mono hbel.size))
            have HS3 := Lib.hid (row_below HS2.out hb2)
            clear hb2
            go_wp2
            go_roundw
            case rel => exact ⟨k + 1, r.step e, by go_num, by omega, rfl, HRx, HS3, HB2.out⟩
            case measure => simp [intOf]; omega
          · rw [hp] at g2' hF
            have hSl : (natsI r.F).length ≤ 200 := by rw [natsI_len]; omega
            clear hp hd
            have hown := HS.out
            have hszq := hbel.size
            go_wp2_with (at_builtin; refine wpList_append_own _ rfl _ _ 24 rfl w.heap.size 3 i0 (.int .i64 0) 1 8 Try.underlying24 hi hz0 hz1 hz2 rfl (by decide) _ _ _ rfl (hown.alloc _) ⟨wr.heap.size, 0, none⟩ 1 1 [.int .i64 (r.dn : Int)] rfl rfl ?c1 ?c2 ?c3 ?c4 ?c5 ?_)
            case c2 => rfl
            case c3 => unfold maxLen; omega
            case c4 => omega
            case c5 => omega
            intro v' w2 hown' hgrow _
            have hb2 : Below w.heap.size wr w2 := ((Below.refl _ _).alloc hszq _).grown hgrow (by simp; omega) fun j hj => row_ge hown hj
            have hbw : Below w.heap.size w w2 := hbel.trans hb2
            have HS2 : Hid (w2.ownsRow w.heap.size 3 1 v' (natsI (r.step e).F).length ((natsI (r.step e).F).map (.int .i64))) := by
              rw [hF, if_pos (by simp), natsI_snoc, natsI_len, List.length_append, ← natsI_len]; exact hown'
            have q0 := (hb2.cell (p := ⟨bk', o' + k * 3, none⟩) hbkw).trans g0
            have q1 := (hb2.cell (p := ⟨bk', o' + k * 3 + 1, none⟩) hbkw).trans g1
            have q2 := (hb2.cell (p := ⟨bk', o' + k * 3 + 2, none⟩) hbkw).trans g2
            clear hown hown' hgrow hF HS hb2 g0 g1 g2 g0' g1' g2'
            go_wp2_with fail
            refine (CX.out _).mono ?_
            rintro x w3 ⟨rfl, hb3⟩
            have HB3 := Lib.hid (hbw.trans (hb3.mono hbw.size))
            have HS3 := Lib.hid (row_below HS2.out hb3)
            clear hb3
            go_wp2
            go_roundw
            case rel => exact ⟨k + 1, r.step e, by go_num, by omega, rfl, HRx, HS3, HB3.out⟩
            case measure => simp [intOf]; omega
        · have hev : evV e = .agg #[.int .i64 e.t, .int .i64 e.k, .bool true] := by simp only [evV, hd]
          simp only [hev] at c
          have CX := Lib.hid c
          rw [hd] at g2 hF
          have HS2 : Hid (wr.ownsRow w.heap.size 3 1 u4 (natsI (r.step e).F).length ((natsI (r.step e).F).map (.int .i64))) := by rw [hF, if_neg (by simp)]; exact HS.out
          clear c hev hprev hF HS hd
          go_wp2_with fail
          refine (CX.out _).mono ?_
          rintro x w2 ⟨rfl, hb2⟩
          have HB2 := Lib.hid (hbel.trans (hb2.mono hbel.size))
          have HS3 := Lib.hid (row_below HS2.out hb2)
          clear hb2
          go_wp2
          go_roundw
          case rel => exact ⟨k + 1, r.step e, by go_num, by omega, rfl, HRx, HS3, HB2.out⟩
          case measure => simp [intOf]; omega
      · obtain rfl : k = n := by omega
        have HF : Hid (r = Pl.run es) := by
          show r = _
          rw [HR.out, List.take_of_length_le (by rw [← HN.out]; exact Nat.le_refl _)]
        have HS2 := Lib.hid (rowInts_at HS.out)
        rw [HF.out] at HS2
        clear HR HS
        go_wp2
        go_ret2
        exact ⟨⟨_, rfl, HS2.out⟩, hbel⟩
end Go.Proofs.Ytindcafdphfppaa
