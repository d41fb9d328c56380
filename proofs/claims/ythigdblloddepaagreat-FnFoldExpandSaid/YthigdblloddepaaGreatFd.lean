/-
  FOLDS: which are valid, which lists are fold lists, the default folds: by the specification and by the program.
-/
import Derived.Test.YthigdblloddepaaGreatPlainWord
import Derived.Test.YthigdblloddepaaGreatNum
import Derived.Test.YthigdblloddepaaGreatFold
import Derived.Test.YthigdblloddepaaGreatBits
import Derived.Test.YthigdblloddepaaGreatKeys
namespace Go.Proofs.YthigdblloddepaaGreat.Pl
set_option maxRecDepth 100000

theorem and_two (s q : Nat) : s &&& 2 ^ q = if s.testBit q then 2 ^ q else 0 := by
  apply Nat.eq_of_testBit_eq
  intro j
  rw [Nat.testBit_and, Nat.testBit_two_pow]
  by_cases h : q = j
  · subst h
    cases hb : s.testBit q
    · simp
    · simp
  · rw [decide_eq_false h]
    cases hb : s.testBit q
    · simp
    · simp [h]
theorem or_two {s q : Nat} (hs : s < 2 ^ 40) (hq : q < 40) (h : s.testBit q = false) : s ||| 2 ^ q = s + 2 ^ q := by
  have hq2 : 2 ^ q < 2 ^ 40 := Nat.pow_lt_pow_right (by decide) hq
  have h0 : s &&& 2 ^ q = 0 := by rw [and_two, h]; rfl
  have e := BitVec.add_eq_or_of_and_eq_zero (w := 64) (BitVec.ofNat 64 s) (BitVec.ofNat 64 (2 ^ q)) (by
    apply BitVec.eq_of_toNat_eq
    rw [BitVec.toNat_and, BitVec.toNat_ofNat, BitVec.toNat_ofNat, Nat.mod_eq_of_lt (by omega), Nat.mod_eq_of_lt (by omega), h0]; rfl)
  have e2 := congrArg BitVec.toNat e
  rw [BitVec.toNat_add, BitVec.toNat_or, BitVec.toNat_ofNat, BitVec.toNat_ofNat, Nat.mod_eq_of_lt (a := s) (by omega), Nat.mod_eq_of_lt (a := 2 ^ q) (by omega), Nat.mod_eq_of_lt (by omega)] at e2
  exact e2.symm
/-- A stroke that has a key is the stroke without it and the key. -/
theorem split_two {s q : Nat} (hs : s < 2 ^ 40) (hq : q < 40) (h : s.testBit q = true) : 2 ^ q ≤ s ∧ (s - 2 ^ q).testBit q = false ∧ ∀ j, j ≠ q → (s - 2 ^ q).testBit j = s.testBit j := by
  have hle : 2 ^ q ≤ s := Nat.ge_two_pow_of_testBit h
  have hx : ∀ j, (s ^^^ 2 ^ q).testBit j = if j = q then false else s.testBit j := by
    intro j
    rw [Nat.testBit_xor, Nat.testBit_two_pow]
    by_cases hj : q = j
    · subst hj; simp [h]
    · rw [decide_eq_false hj, if_neg (by omega)]; simp
  have hf : (s ^^^ 2 ^ q).testBit q = false := by rw [hx]; simp
  have ho : (s ^^^ 2 ^ q) ||| 2 ^ q = s := by
    apply Nat.eq_of_testBit_eq
    intro j
    rw [Nat.testBit_or, hx, Nat.testBit_two_pow]
    by_cases hj : j = q
    · subst hj; simp [h]
    · have : ¬ q = j := fun e => hj e.symm
      rw [if_neg hj, decide_eq_false this]; simp
  have hxs : s ^^^ 2 ^ q < 2 ^ 40 := Nat.xor_lt_two_pow hs (Nat.pow_lt_pow_right (by decide) hq)
  have ha := or_two hxs hq hf
  have hs2 : s - 2 ^ q = s ^^^ 2 ^ q := by omega
  rw [hs2]
  exact ⟨hle, hf, fun j hj => by rw [hx, if_neg hj]⟩
/-- The stroke with its bit q cleared, as the and-not has it. -/
theorem andNot_two {s q : Nat} (hs : s < 2 ^ 40) (hq : q < 40) : (BitVec.ofNat 64 s &&& ~~~ BitVec.ofNat 64 (2 ^ q)).toNat = if s.testBit q then s - 2 ^ q else s := by
  have hq2 : 2 ^ q < 2 ^ 40 := Nat.pow_lt_pow_right (by decide) hq
  apply Nat.eq_of_testBit_eq
  intro j
  rw [BitVec.testBit_toNat, BitVec.getLsbD_and, BitVec.getLsbD_not, BitVec.getLsbD_ofNat, BitVec.getLsbD_ofNat, Nat.testBit_two_pow]
  by_cases hj : j < 64
  · simp only [hj, decide_true, Bool.true_and]
    by_cases hb : s.testBit q = true
    · obtain ⟨_, h1, h2⟩ := split_two hs hq hb
      rw [if_pos hb]
      by_cases hjq : j = q
      · subst hjq; simp [h1]
      · have : ¬ q = j := fun e => hjq e.symm
        rw [h2 j hjq, decide_eq_false this]; simp
    · rw [if_neg hb]
      by_cases hjq : q = j
      · subst hjq; simp; simpa using hb
      · rw [decide_eq_false hjq]; simp
  · have h1 : s.testBit j = false := Nat.testBit_lt_two_pow (Nat.lt_of_lt_of_le hs (Nat.pow_le_pow_right (by decide) (by omega)))
    have h2 : (s - 2 ^ q).testBit j = false := Nat.testBit_lt_two_pow (Nat.lt_of_lt_of_le (Nat.lt_of_le_of_lt (Nat.sub_le _ _) hs) (Nat.pow_le_pow_right (by decide) (by omega)))
    simp only [hj, decide_false, Bool.false_and]
    by_cases hb : s.testBit q = true
    · rw [if_pos hb, h2]
    · rw [if_neg hb, h1]

/-- Is the pair of a key and a suffix a valid fold? -/
def okF (e : Int × ByteArray) : Bool := (decide (13 ≤ e.1) && decide (e.1 ≤ 22)) && ((decide (1 ≤ e.2.size) && decide (e.2.size ≤ 8)) && e.2.data.toList.all letter)
theorem okF_parts {e : Int × ByteArray} (h : okF e = true) : (∃ q : Nat, e.1 = (q : Int) ∧ 13 ≤ q ∧ q ≤ 22) ∧ 1 ≤ e.2.size ∧ e.2.size ≤ 8 ∧ e.2.data.toList.all letter = true := by
  unfold okF at h
  simp only [Bool.and_eq_true, decide_eq_true_eq] at h
  obtain ⟨⟨h1, h2⟩, ⟨h3, h4⟩, h5⟩ := h
  exact ⟨⟨e.1.toNat, by omega, by omega, by omega⟩, h3, h4, h5⟩
theorem okF_word (k : Int) (t : ByteArray) : okF (k, t) = ((decide (13 ≤ k) && decide (k ≤ 22)) && (wordB t.data.toList && decide (t.size ≤ 8))) := by
  unfold okF wordB
  have e : t.data.toList.length = t.size := by simp
  rw [e]
  by_cases h : t.size ≤ 8
  · have h2 : t.size ≤ 24 := by omega
    simp [h, h2, Bool.and_comm]
  · simp [h]
theorem okF_key {k : Int} {t : ByteArray} (h : ¬ (13 ≤ k ∧ k ≤ 22)) : okF (k, t) = false := by
  unfold okF
  by_cases h1 : 13 ≤ k
  · have h2 : ¬ k ≤ 22 := by omega
    simp [h2]
  · simp [h1]
/-- A fold list: at most six valid folds with keys of their own. -/
def GoodFs (ls : List (Int × ByteArray)) : Prop := ls.length ≤ 6 ∧ (∀ e ∈ ls, okF e = true) ∧ (ls.map (·.1)).Nodup
instance (ls : List (Int × ByteArray)) : Decidable (GoodFs ls) := by unfold GoodFs; infer_instance
def okFs (ls : List (Int × ByteArray)) : Bool := decide (GoodFs ls)
theorem okFs_parts {ls : List (Int × ByteArray)} (h : okFs ls = true) : GoodFs ls := of_decide_eq_true h
theorem okFs_no_len {ls : List (Int × ByteArray)} (h : ¬ ls.length ≤ 6) : okFs ls = false := decide_eq_false fun g => h g.1
theorem okFs_no_at {ls : List (Int × ByteArray)} {k : Nat} {e : Int × ByteArray} (h : ls[k]? = some e) (he : okF e = false) : okFs ls = false :=
  decide_eq_false fun g => by have := g.2.1 e (List.mem_of_getElem? h); rw [he] at this; cases this
theorem apart_at {ls : List Int} (h : ls.Nodup) {i k : Nat} {x : Int} (hi : ls[i]? = some x) (hk : ls[k]? = some x) : i = k := by
  obtain ⟨h1, e1⟩ := List.getElem?_eq_some_iff.1 hi
  obtain ⟨h2, e2⟩ := List.getElem?_eq_some_iff.1 hk
  have hp := List.pairwise_iff_getElem.1 h
  rcases Nat.lt_trichotomy i k with hl | hl | hl
  · exact absurd (e1.trans e2.symm) (hp i k h1 h2 hl)
  · exact hl
  · exact absurd (e2.trans e1.symm) (hp k i h2 h1 hl)
theorem okFs_no_pair {ls : List (Int × ByteArray)} {i k : Nat} {e e' : Int × ByteArray} (hi : ls[i]? = some e) (hk : ls[k]? = some e') (hlt : k < i) (he : e'.1 = e.1) : okFs ls = false :=
  decide_eq_false fun g => by
    have := apart_at g.2.2 (i := i) (k := k) (x := e.1) (by rw [List.getElem?_map, hi]; rfl) (by rw [List.getElem?_map, hk, ← he]; rfl)
    omega
theorem okFs_yes {ls : List (Int × ByteArray)} (h1 : ls.length ≤ 6) (h2 : ∀ e ∈ ls, okF e = true) (h3 : (ls.map (·.1)).Nodup) : okFs ls = true := decide_eq_true ⟨h1, h2, h3⟩
/-- The folds that were gone through so far are valid and apart. -/
def UpTo (ls : List (Int × ByteArray)) (i : Nat) : Prop := (∀ e ∈ ls.take i, okF e = true) ∧ ((ls.take i).map (·.1)).Nodup
theorem UpTo.zero (ls : List (Int × ByteArray)) : UpTo ls 0 := ⟨fun e he => by simp at he, by simp⟩
theorem UpTo.next {ls : List (Int × ByteArray)} {i : Nat} (h : UpTo ls i) {e : Int × ByteArray} (he : ls[i]? = some e) (hf : okF e = true) (hk : ∀ k e', k < i → ls[k]? = some e' → e'.1 ≠ e.1) : UpTo ls (i + 1) := by
  have ht : ls.take (i + 1) = ls.take i ++ [e] := by rw [List.take_add_one, he]; rfl
  refine ⟨fun x hx => ?_, ?_⟩
  · rw [ht, List.mem_append, List.mem_singleton] at hx
    rcases hx with hx | rfl
    · exact h.1 x hx
    · exact hf
  · rw [ht, List.map_append, List.nodup_append]
    refine ⟨h.2, by simp, fun a ha b hb => ?_⟩
    simp at hb
    subst hb
    obtain ⟨x, hx, rfl⟩ := List.mem_map.1 ha
    obtain ⟨k, hk1, hk2⟩ := List.mem_take_iff_getElem.1 hx
    exact hk k x (by omega) (by rw [List.getElem?_eq_getElem (by omega), hk2])
theorem UpTo.all {ls : List (Int × ByteArray)} {i : Nat} (h : UpTo ls i) (hi : ls.length ≤ i) (h6 : ls.length ≤ 6) : okFs ls = true := by
  obtain ⟨h1, h2⟩ := h
  rw [List.take_of_length_le hi] at h1 h2
  exact okFs_yes h6 h1 h2
/-- The keys of the first folds, as bits. -/
def KeysUp (ls : List (Int × ByteArray)) (i m : Nat) : Prop := m < 8388608 ∧ ∀ q : Nat, q < 23 → (m.testBit q = true ↔ ∃ k e, k < i ∧ ls[k]? = some e ∧ e.1 = (q : Int))
theorem KeysUp.zero (ls : List (Int × ByteArray)) : KeysUp ls 0 0 := ⟨by omega, fun q _ => ⟨fun h => by simp at h, fun ⟨k, _, h, _⟩ => by omega⟩⟩
theorem KeysUp.next {ls : List (Int × ByteArray)} {i m : Nat} (h : KeysUp ls i m) {e : Int × ByteArray} (he : ls[i]? = some e) {q : Nat} (hq : q < 23) (heq : e.1 = (q : Int)) : KeysUp ls (i + 1) (m ||| 2 ^ q) := by
  have hq2 : 2 ^ q < 2 ^ 23 := Nat.pow_lt_pow_right (by decide) hq
  refine ⟨Nat.or_lt_two_pow (n := 23) h.1 hq2, fun r hr => ?_⟩
  rw [Nat.testBit_or, Nat.testBit_two_pow, Bool.or_eq_true, h.2 r hr, decide_eq_true_eq]
  constructor
  · rintro (⟨k, x, hk, hx, hxr⟩ | rfl)
    · exact ⟨k, x, by omega, hx, hxr⟩
    · exact ⟨i, e, by omega, he, heq⟩
  · rintro ⟨k, x, hk, hx, hxr⟩
    by_cases hki : k = i
    · subst hki
      rw [he] at hx; cases hx
      exact .inr (by omega)
    · exact .inl ⟨k, x, by omega, hx, hxr⟩
end Go.Proofs.YthigdblloddepaaGreat.Pl

namespace Go.Proofs.YthigdblloddepaaGreat
set_option maxRecDepth 100000
open Go.RowKit

theorem IsWord_any (s : ByteArray) (w : World) (hs : s.size ≤ maxLen) :
    Calls Tryz.prog 128 #[.string s] w fun e w' => e = .returned (.bool (Pl.wordB s.data.toList)) ∧ w' = w := by
  unfold maxLen at hs
  have HL : Hid (s.data.toList.length = s.size) := Lib.hid (by simp)
  by_cases h1 : 1 ≤ s.size
  · by_cases h2 : s.size ≤ 24
    · go_enter Tryz.func128, Tryz.ntmps128
      go_wp2
      go_loop [14] (fun i => ∃ k : Nat, k ≤ s.size ∧ i = .int .i64 k ∧ Hid (∀ c ∈ s.data.toList.take k, Pl.letter c = true)) (fun i => s.size - (intOf i).toNat)
      case atStart => exact ⟨0, Nat.zero_le _, rfl, fun c hc => by simp at hc⟩
      case round =>
        obtain ⟨k, hk, rfl, HA⟩ := hrel
        by_cases hlt : k < s.size
        · by_cases hl : Pl.letter s[k] = true
          · have hl2 := hl
            unfold Pl.letter at hl2
            simp only [Bool.and_eq_true, decide_eq_true_eq] at hl2
            obtain ⟨hl2, hl3⟩ := hl2
            have h1 : ¬ ((s[k].toNat : Int) < 97) := by omega
            have h2 : ¬ ((s[k].toNat : Int) > 122) := by omega
            have HA' : Hid (∀ c ∈ s.data.toList.take (k + 1), Pl.letter c = true) := by
              intro c hc
              rw [List.take_succ_eq_append_getElem (by simpa using hlt), List.mem_append, List.mem_singleton] at hc
              rcases hc with hc | rfl
              · exact HA.out c hc
              · exact hl
            clear hl hl2 hl3
            go_wp2
            go_round
            case rel => exact ⟨k + 1, by omega, by go_num, HA'⟩
            case measure => simp [intOf]; omega
          · have HN : Hid (Pl.wordB s.data.toList = false) := by
              have : s.data.toList.all Pl.letter = false := by
                rw [List.all_eq_false]
                exact ⟨s[k], by rw [Array.mem_toList_iff]; exact Array.getElem_mem _, by simpa using hl⟩
              show Pl.wordB _ = _
              unfold Pl.wordB
              rw [this]; rfl
            unfold Pl.letter at hl
            simp only [Bool.and_eq_true, decide_eq_true_eq, not_and, Nat.not_le] at hl
            by_cases h1 : (s[k].toNat : Int) < 97
            · clear hl
              go_wp2
              go_ret
              exact ⟨ret_bool HN.out.symm, rfl⟩
            · have h2 : (s[k].toNat : Int) > 122 := by have := hl (by omega); omega
              clear hl
              go_wp2
              go_ret
              exact ⟨ret_bool HN.out.symm, rfl⟩
        · have HN : Hid (Pl.wordB s.data.toList = true) := by
            have : s.data.toList.all Pl.letter = true := by
              rw [List.all_eq_true]
              intro c hc
              exact HA.out c (by rw [List.take_of_length_le (by simp; omega)]; exact hc)
            show Pl.wordB _ = _
            unfold Pl.wordB
            rw [this, HL.out, decide_eq_true h1, decide_eq_true h2]; rfl
          go_wp2
          go_ret
          exact ⟨ret_bool HN.out.symm, rfl⟩
    · have HN : Hid (Pl.wordB s.data.toList = false) := by
        show Pl.wordB _ = _
        unfold Pl.wordB
        rw [HL.out, decide_eq_false h2, Bool.and_false, Bool.and_false]
      go_enter Tryz.func128, Tryz.ntmps128
      go_wp2
      go_ret
      exact ⟨ret_bool HN.out.symm, rfl⟩
  · have HN : Hid (Pl.wordB s.data.toList = false) := by
      show Pl.wordB _ = _
      unfold Pl.wordB
      rw [HL.out, decide_eq_false h1, Bool.false_and, Bool.and_false]
    go_enter Tryz.func128, Tryz.ntmps128
    go_wp2
    go_ret
    exact ⟨ret_bool HN.out.symm, rfl⟩
end Go.Proofs.YthigdblloddepaaGreat

namespace Go.Proofs.YthigdblloddepaaGreat
set_option maxRecDepth 100000
open Go.RowKit

theorem fd_at {w : World} {v : Value} {ls : List Atm} (h : AtomsAt w v ls) : ∃ a cap, v = .slice a ls.length cap ∧ ls.length ≤ cap ∧ ∀ (w1 : World), Below w.heap.size w w1 → ∀ (j : Nat) e, ls[j]? = some e → ∃ bk o, a = some ⟨bk, o, none⟩ ∧ bk < w.heap.size ∧ w1.cell? ⟨bk, o + j * 2, none⟩ = some (.int .i64 e.1) ∧ w1.cell? ⟨bk, o + j * 2 + 1, none⟩ = some (.string e.2) := by
  obtain ⟨a, cap, hv, hcap, h⟩ := h
  refine ⟨a, cap, hv, hcap, fun w1 hb j e he => ?_⟩
  rcases h with rfl | ⟨bk, o, ha, hk, h⟩
  · simp at he
  · obtain ⟨g0, g1⟩ := h j e he
    exact ⟨bk, o, ha, hk, (hb.cell (p := ⟨bk, o + j * 2, none⟩) hk).trans g0, (hb.cell (p := ⟨bk, o + j * 2 + 1, none⟩) hk).trans g1⟩
theorem below_drewF {B : Nat} {a w : World} (h : Below B a w) (n : Nat) : Below B a (w.drewN n) := h.trans ⟨rfl, rfl, rfl, Nat.le_refl _, fun _ _ => rfl⟩
theorem right_bits : ∀ q, q < 23 → Nat.testBit 8380416 q = decide (13 ≤ q) := by decide
theorem l10Fold_any (k : Int) (s : ByteArray) (w : World) (hs : s.size ≤ maxLen) :
    Calls Tryz.prog 94 #[atV k s] w fun e w' => e = .returned (.bool (Pl.okF (k, s))) ∧ Below w.heap.size w w' := by
  unfold maxLen at hs
  go_enter Tryz.func94, Tryz.ntmps94
  go_wp2
  go_loop [3] (fun i => ∃ k : Nat, k ≤ s.size ∧ i = .int .i64 k ∧ Hid (∀ c ∈ s.data.toList.take k, Pl.letter c = true)) (fun i => s.size - (intOf i).toNat)
  case atStart => exact ⟨0, Nat.zero_le _, rfl, fun c hc => by simp at hc⟩
  case round =>
    obtain ⟨i, hi, rfl, HA⟩ := hrel
    by_cases hlt : i < s.size
    · by_cases hl : Pl.letter s[i] = true
      · have hl2 := hl
        unfold Pl.letter at hl2
        simp only [Bool.and_eq_true, decide_eq_true_eq] at hl2
        obtain ⟨hl2, hl3⟩ := hl2
        have h1 : ¬ ((s[i].toNat : Int) < 97) := by omega
        have h2 : ¬ ((s[i].toNat : Int) > 122) := by omega
        have HA' : Hid (∀ c ∈ s.data.toList.take (i + 1), Pl.letter c = true) := by
          intro c hc
          rw [List.take_succ_eq_append_getElem (by simpa using hlt), List.mem_append, List.mem_singleton] at hc
          rcases hc with hc | rfl
          · exact HA.out c hc
          · exact hl
        clear hl hl2 hl3
        go_wp2
        go_round
        case rel => exact ⟨i + 1, by omega, by go_num, HA'⟩
        case measure => simp [intOf]; omega
      · have HN : Hid (Pl.okF (k, s) = false) := by
          have : s.data.toList.all Pl.letter = false := by
            rw [List.all_eq_false]
            exact ⟨s[i], by rw [Array.mem_toList_iff]; exact Array.getElem_mem _, by simpa using hl⟩
          show Pl.okF _ = _
          unfold Pl.okF
          simp only [this, Bool.and_false]
        unfold Pl.letter at hl
        simp only [Bool.and_eq_true, decide_eq_true_eq, not_and, Nat.not_le] at hl
        by_cases h1 : (s[i].toNat : Int) < 97
        · clear hl
          go_wp2
          go_ret
          exact ⟨ret_bool HN.out.symm, (Below.refl _ _).alloc (Nat.le_refl _) _⟩
        · have h2 : (s[i].toNat : Int) > 122 := by have := hl (by omega); omega
          clear hl
          go_wp2
          go_ret
          exact ⟨ret_bool HN.out.symm, (Below.refl _ _).alloc (Nat.le_refl _) _⟩
    · have HN : Hid (Pl.okF (k, s) = ((decide (13 ≤ k) && decide (k ≤ 22)) && (decide (1 ≤ (s.size : Int)) && decide ((s.size : Int) ≤ 8)))) := by
        have : s.data.toList.all Pl.letter = true := by
          rw [List.all_eq_true]
          intro c hc
          exact HA.out c (by rw [List.take_of_length_le (by simp; omega)]; exact hc)
        show Pl.okF _ = _
        unfold Pl.okF
        simp only [this, Bool.and_true]
        congr 2
        · rw [Bool.eq_iff_iff]; simp
          omega
        · rw [Bool.eq_iff_iff]; simp
          omega
      have C1 := Lib.hid (fun w => l1In_any k 13 22 w)
      have C2 := Lib.hid (fun w => l1In_any s.size 1 8 w)
      cases hk : (decide (13 ≤ k) && decide (k ≤ 22))
      · rw [hk] at C1 HN
        go_wp2_with fail
        refine (C1.out _).mono ?_
        rintro e w1 ⟨rfl, rfl⟩
        go_wp2
        go_ret
        exact ⟨ret_bool HN.out.symm, (Below.refl _ _).alloc (Nat.le_refl _) _⟩
      · rw [hk] at C1 HN
        go_wp2_with fail
        refine (C1.out _).mono ?_
        rintro e w1 ⟨rfl, rfl⟩
        go_wp2_with fail
        refine (C2.out _).mono ?_
        rintro e w1 ⟨rfl, rfl⟩
        go_wp2
        go_ret
        exact ⟨ret_bool HN.out.symm, (Below.refl _ _).alloc (Nat.le_refl _) _⟩
theorem isValidF_any (k : Int) (s : ByteArray) (w : World) (hs : s.size ≤ maxLen) :
    Calls Tryz.prog 112 #[atV k s] w fun e w' => e = .returned (.bool (Pl.okF (k, s))) ∧ Below w.heap.size w w' := by
  have C9 := Lib.hid (fun w => IsWord_any s w hs)
  rw [Pl.okF_word]
  unfold maxLen at hs
  by_cases hk : 0 ≤ k ∧ k < 23
  · obtain ⟨q, rfl⟩ := Int.eq_ofNat_of_zero_le hk.1
    have hq : q < 23 := by omega
    have ch := fun w => has_in 8380416 q (by omega) hq w
    rw [right_bits q hq] at ch
    by_cases h13 : 13 ≤ q
    · rw [decide_eq_true h13] at ch
      have CH := Lib.hid ch
      have HN : Hid ((decide (13 ≤ (q : Int)) && decide ((q : Int) ≤ 22)) = true) := by show _ = _; simp; omega
      cases hw : Pl.wordB s.data.toList
      · rw [hw] at C9
        clear ch hk hw
        go_enter Tryz.func112, Tryz.ntmps112
        go_wp2_with fail
        refine (CH.out _).mono ?_
        rintro e w1 ⟨rfl, rfl⟩
        go_wp2_with fail
        refine (C9.out _).mono ?_
        rintro e w1 ⟨rfl, rfl⟩
        go_wp2
        go_ret
        exact ⟨ret_bool (by simp), (Below.refl _ _).alloc (Nat.le_refl _) _⟩
      · rw [hw] at C9
        clear ch hk hw
        go_enter Tryz.func112, Tryz.ntmps112
        go_wp2_with fail
        refine (CH.out _).mono ?_
        rintro e w1 ⟨rfl, rfl⟩
        go_wp2_with fail
        refine (C9.out _).mono ?_
        rintro e w1 ⟨rfl, rfl⟩
        go_wp2
        go_ret
        exact ⟨ret_bool (by rw [HN.out]; simp; omega), (Below.refl _ _).alloc (Nat.le_refl _) _⟩
    · rw [decide_eq_false h13] at ch
      have CH := Lib.hid ch
      have HN : Hid ((decide (13 ≤ (q : Int)) && decide ((q : Int) ≤ 22)) = false) := by show _ = _; simp; omega
      clear ch hk
      go_enter Tryz.func112, Tryz.ntmps112
      go_wp2_with fail
      refine (CH.out _).mono ?_
      rintro e w1 ⟨rfl, rfl⟩
      go_wp2
      go_ret
      exact ⟨ret_bool (by rw [HN.out]; rfl), (Below.refl _ _).alloc (Nat.le_refl _) _⟩
  · have CH := Lib.hid (fun w => has_out 8380416 k hk w)
    have HN : Hid ((decide (13 ≤ k) && decide (k ≤ 22)) = false) := by show _ = _; simp; omega
    clear hk
    go_enter Tryz.func112, Tryz.ntmps112
    go_wp2_with fail
    refine (CH.out _).mono ?_
    rintro e w1 ⟨rfl, rfl⟩
    go_wp2
    go_ret
    exact ⟨ret_bool (by rw [HN.out]; rfl), (Below.refl _ _).alloc (Nat.le_refl _) _⟩
set_option maxHeartbeats 1000000 in
theorem specIsValidFolds_any (v : Value) (ls : List Atm) (w : World) (h : AtomsAt w v ls) (hn : ls.length ≤ 2097152) (hx : ∀ e ∈ ls, e.2.size ≤ maxLen) :
    Calls Tryz.prog 55 #[v] w fun e w' => e = .returned (.bool (Pl.okFs ls)) ∧ Below w.heap.size w w' := by
  obtain ⟨a, cap, rfl, hcap, hC⟩ := fd_at h
  have HC := Lib.hid hC
  have HX := Lib.hid (fun j e (he : ls[j]? = some e) => hx e (List.mem_of_getElem? he))
  have CF := Lib.hid (fun k s w hs => l10Fold_any k s w hs)
  obtain ⟨n, hnn⟩ : ∃ n, n = ls.length := ⟨_, rfl⟩
  rw [← hnn] at hn hcap ⊢
  have HN := Lib.hid hnn
  clear h hnn hC hx
  by_cases h6 : n ≤ 6
  · go_enter Tryz.func55, Tryz.ntmps55
    go_wp2_with fail
    go_loopw [3] (fun i wr => ∃ k : Nat, k ≤ n ∧ i = .int .i64 k ∧ Hid (Pl.UpTo ls k) ∧ Below w.heap.size w wr) (fun i _ => n - (intOf i).toNat)
    case atStart => exact ⟨0, Nat.zero_le _, rfl, Lib.hid (Pl.UpTo.zero ls), Below.refl _ _⟩
    case round =>
      obtain ⟨k, hk, rfl, HU, hbel⟩ := hrel
      by_cases hlt : k < n
      · obtain ⟨e, he⟩ : ∃ e, ls[k]? = some e := ⟨_, List.getElem?_eq_getElem (by rw [← HN.out]; exact hlt)⟩
        obtain ⟨bk, o, rfl, hbk, g0, g1⟩ := HC.out wr hbel k e he
        have HE := Lib.hid he
        have CE := Lib.hid (fun w => CF.out e.1 e.2 w (HX.out k e he))
        clear he
        cases hf : Pl.okF (e.1, e.2)
        · have HF := Lib.hid (Pl.okFs_no_at HE.out hf)
          rw [hf] at CE
          clear hf
          go_wp2_with fail
          refine (CE.out _).mono ?_
          rintro r w1 ⟨rfl, hb⟩
          have HB1 := Lib.hid (hbel.trans (hb.mono hbel.size))
          clear hb
          go_wp2
          go_ret
          exact ⟨ret_bool HF.out.symm, HB1.out⟩
        · have HF := Lib.hid (show Pl.okF e = true from hf)
          rw [hf] at CE
          clear hf
          go_wp2_with fail
          refine (CE.out _).mono ?_
          rintro r w1 ⟨rfl, hb⟩
          have hb1 := hbel.trans (hb.mono hbel.size)
          clear hb g0 g1
          obtain ⟨bk', o', hq, hbk', g0, g1⟩ := HC.out w1 hb1 k e HE.out
          injection hq with hq
          injection hq with hq1 hq2
          subst hq1 hq2
          have HB1 := Lib.hid hb1
          clear hbk' hb1 hbel
          go_wp2_with fail
          clear g0 g1
          go_loopw [4] (fun i wq => ∃ j : Nat, j ≤ k ∧ i = .int .i64 j ∧ Hid (∀ m e', m < j → ls[m]? = some e' → e'.1 ≠ e.1) ∧ Hid (Below w.heap.size w wq)) (fun i _ => k - (intOf i).toNat)
          case atStart => exact ⟨0, Nat.zero_le _, rfl, Lib.hid (fun m _ h => by omega), HB1⟩
          case round =>
            obtain ⟨j, hj, rfl, HJ, HB2⟩ := hrel
            by_cases hjk : j < k
            · obtain ⟨x, hx⟩ : ∃ x, ls[j]? = some x := ⟨_, List.getElem?_eq_getElem (by rw [← HN.out]; omega)⟩
              obtain ⟨bk', o', hq, _, d0, _⟩ := HC.out _ HB2.out j x hx
              injection hq with hq
              injection hq with hq1 hq2
              subst hq1 hq2
              obtain ⟨bk', o', hq, _, g0, _⟩ := HC.out _ HB2.out k e HE.out
              injection hq with hq
              injection hq with hq1 hq2
              subst hq1 hq2
              by_cases hxe : x.1 = e.1
              · have HF2 := Lib.hid (Pl.okFs_no_pair HE.out hx hjk hxe)
                rw [hxe] at d0
                clear hx hxe
                go_wp2_with fail
                go_quiet (fail)
                go_wp2
                go_ret
                exact ⟨ret_bool HF2.out.symm, below_drewF HB2.out nq⟩
              · have HJ2 : Hid (∀ m e', m < j + 1 → ls[m]? = some e' → e'.1 ≠ e.1) := Lib.hid (fun m e' hm he' => by
                  by_cases hmj : m = j
                  · subst hmj; rw [hx] at he'; cases he'; exact hxe
                  · exact HJ.out m e' (by omega) he')
                have hne : (x.1 == e.1) = false := by rw [beq_eq_false_iff_ne]; exact hxe
                clear hx hxe HJ
                go_wp2_with fail
                go_quiet (fail)
                go_wp2
                go_roundw
                case rel => exact ⟨j + 1, by omega, by go_num, HJ2, Lib.hid (below_drewF HB2.out nq)⟩
                case measure => simp [intOf]; omega
            · obtain rfl : j = k := by omega
              have HU2 := Lib.hid (HU.out.next HE.out HF.out HJ.out)
              clear HU HJ HE HF
              go_wp2
              go_roundw
              case rel => exact ⟨j + 1, by omega, by go_num, HU2, HB2.out⟩
              case measure => simp [intOf]; omega
      · have HF := Lib.hid (HU.out.all (by rw [← HN.out]; omega) (by rw [← HN.out]; exact h6))
        clear HU
        go_wp2
        go_ret
        exact ⟨ret_bool HF.out.symm, hbel⟩
  · have HF := Lib.hid (Pl.okFs_no_len (ls := ls) (by rw [← HN.out]; exact h6))
    go_enter Tryz.func55, Tryz.ntmps55
    go_wp2
    go_ret
    exact ⟨ret_bool HF.out.symm, Below.refl _ _⟩
set_option maxHeartbeats 1000000 in
theorem IsValidFolds_any (v : Value) (ls : List Atm) (w : World) (h : AtomsAt w v ls) (hn : ls.length ≤ 2097152) (hx : ∀ e ∈ ls, e.2.size ≤ maxLen) :
    Calls Tryz.prog 85 #[v] w fun e w' => e = .returned (.bool (Pl.okFs ls)) ∧ Below w.heap.size w w' := by
  obtain ⟨a, cap, rfl, hcap, hC⟩ := fd_at h
  have HC := Lib.hid hC
  have HX := Lib.hid (fun j e (he : ls[j]? = some e) => hx e (List.mem_of_getElem? he))
  have CF := Lib.hid (fun k s w hs => isValidF_any k s w hs)
  obtain ⟨n, hnn⟩ : ∃ n, n = ls.length := ⟨_, rfl⟩
  rw [← hnn] at hn hcap ⊢
  have HN := Lib.hid hnn
  clear h hnn hC hx
  by_cases h6 : n ≤ 6
  · go_enter Tryz.func85, Tryz.ntmps85
    go_wp2_with fail
    go_loopw [3, 11] (fun m i wr => ∃ k q : Nat, k ≤ n ∧ i = .int .i64 k ∧ m = .int .i64 q ∧ Hid (Pl.KeysUp ls k q) ∧ Hid (Pl.UpTo ls k) ∧ Below w.heap.size w wr) (fun _ i _ => n - (intOf i).toNat)
    case atStart => exact ⟨0, 0, Nat.zero_le _, rfl, rfl, Lib.hid (Pl.KeysUp.zero ls), Lib.hid (Pl.UpTo.zero ls), Below.refl _ _⟩
    case round =>
      obtain ⟨k, m, hk, rfl, rfl, HK, HU, hbel⟩ := hrel
      by_cases hlt : k < n
      · obtain ⟨e, he⟩ : ∃ e, ls[k]? = some e := ⟨_, List.getElem?_eq_getElem (by rw [← HN.out]; exact hlt)⟩
        obtain ⟨bk, o, rfl, hbk, g0, g1⟩ := HC.out wr hbel k e he
        have HE := Lib.hid he
        have CE := Lib.hid (fun w => CF.out e.1 e.2 w (HX.out k e he))
        clear he
        cases hf : Pl.okF (e.1, e.2)
        · have HF := Lib.hid (Pl.okFs_no_at HE.out hf)
          rw [hf] at CE
          clear hf
          go_wp2_with fail
          refine (CE.out _).mono ?_
          rintro r w1 ⟨rfl, hb⟩
          have HB1 := Lib.hid (hbel.trans ((below_new hb).mono hbel.size))
          clear hb
          go_wp2
          go_ret
          exact ⟨ret_bool HF.out.symm, HB1.out⟩
        · have HF := Lib.hid (show Pl.okF e = true from hf)
          obtain ⟨⟨q, hq, hq13, hq22⟩, _⟩ := Pl.okF_parts HF.out
          rw [hf] at CE
          have hm := HK.out.1
          have ch := fun w => has_in m q hm (by omega) w
          have HTest := HK.out.2 q (by omega)
          have HNext := Lib.hid (HK.out.next HE.out (show q < 23 by omega) hq)
          have HUN := Lib.hid (fun hne => HU.out.next HE.out HF.out hne)
          have HPair := Lib.hid (fun (j : Nat) e' (hj : ls[j]? = some e') (hl : j < k) (h : e'.1 = e.1) => Pl.okFs_no_pair HE.out hj hl h)
          have HQ := Lib.hid hq
          rw [hq] at g0 CE
          obtain ⟨s, hs⟩ : ∃ s, s = e.2 := ⟨_, rfl⟩
          rw [← hs] at g1 CE
          have HT := Lib.hid HTest
          cases hb : m.testBit q
          · rw [hb] at ch HT
            have CH := Lib.hid ch
            have HU2 : Hid (Pl.UpTo ls (k + 1)) := HUN.out (fun j e' hj he' heq => by
              have := HT.out.2 ⟨j, e', hj, he', heq.trans HQ.out⟩
              cases this)
            have hsh := shl_i64' q (by omega)
            have hor := or_i64s m (2 ^ q) hm (pow_lt23 q (by omega))
            obtain ⟨p, hp⟩ : ∃ p, p = 2 ^ q := ⟨_, rfl⟩
            rw [← hp] at hsh hor HNext
            clear hf hq ch HTest HUN HPair HQ HT hb hs HU HK HF HE hp
            go_wp2_with fail
            refine (CE.out _).mono ?_
            rintro r w1 ⟨rfl, hb⟩
            have HB1 := Lib.hid (hbel.trans ((below_new hb).mono hbel.size))
            obtain ⟨_, d0, d1⟩ := BoxA.new hb
            clear hb g0 g1
            go_wp2_with fail
            refine (CH.out _).mono ?_
            rintro r w2 ⟨rfl, rfl⟩
            go_wp2
            go_roundw
            case rel => exact ⟨k + 1, m ||| p, by omega, by go_num, by first | rfl | rw [hor], HNext, HU2, HB1.out⟩
            case measure => simp [intOf]; omega
          · rw [hb] at ch HT
            have CH := Lib.hid ch
            have HF2 : Hid (Pl.okFs ls = false) := by
              obtain ⟨j, e', hj, he', heq⟩ := HT.out.1 rfl
              exact HPair.out j e' he' hj (heq.trans HQ.out.symm)
            clear hf hq ch HTest HUN HPair HQ HT hb hs HU HK HF HE HNext
            go_wp2_with fail
            refine (CE.out _).mono ?_
            rintro r w1 ⟨rfl, hb⟩
            have HB1 := Lib.hid (hbel.trans ((below_new hb).mono hbel.size))
            obtain ⟨_, d0, d1⟩ := BoxA.new hb
            clear hb g0 g1
            go_wp2_with fail
            refine (CH.out _).mono ?_
            rintro r w2 ⟨rfl, rfl⟩
            go_wp2
            go_ret
            exact ⟨ret_bool HF2.out.symm, HB1.out⟩
      · have HF := Lib.hid (HU.out.all (by rw [← HN.out]; omega) (by rw [← HN.out]; exact h6))
        clear HU
        go_wp2
        go_ret
        exact ⟨ret_bool HF.out.symm, hbel⟩
  · have HF := Lib.hid (Pl.okFs_no_len (ls := ls) (by rw [← HN.out]; exact h6))
    go_enter Tryz.func85, Tryz.ntmps85
    go_wp2
    go_ret
    exact ⟨ret_bool HF.out.symm, Below.refl _ _⟩
/-- The folds of DefaultFolds. -/
def dFs : List Atm := [(18, ⟨#[105, 110, 103]⟩), (21, ⟨#[101, 100]⟩), (20, ⟨#[115]⟩), (22, ⟨#[115]⟩)]
theorem dFs_row (w : World) : OwnAs (w.alloc (.cells #[.int .i64 18, .string ⟨#[105, 110, 103]⟩, .int .i64 21, .string ⟨#[101, 100]⟩, .int .i64 20, .string ⟨#[115]⟩, .int .i64 22, .string ⟨#[115]⟩] 96)) w.heap.size (.slice (some ⟨w.heap.size, 0, none⟩) 4 4) dFs.length (fun j => dFs.getD j a00) := by
  refine .inr ⟨w.heap.size, 4, rfl, Nat.le_refl _, Nat.le_refl _, by decide, by rw [World.size_alloc]; omega, fun j hj => ?_, fun j => World.frozen?_alloc_at _ _ _ _ rfl⟩
  have hj4 : j < 4 := hj
  match j, hj4 with
  | 0, _ => exact ⟨by rw [World.cell?_alloc_at _ _ _ _ rfl]; rfl, by rw [World.cell?_alloc_at _ _ _ _ rfl]; rfl⟩
  | 1, _ => exact ⟨by rw [World.cell?_alloc_at _ _ _ _ rfl]; rfl, by rw [World.cell?_alloc_at _ _ _ _ rfl]; rfl⟩
  | 2, _ => exact ⟨by rw [World.cell?_alloc_at _ _ _ _ rfl]; rfl, by rw [World.cell?_alloc_at _ _ _ _ rfl]; rfl⟩
  | 3, _ => exact ⟨by rw [World.cell?_alloc_at _ _ _ _ rfl]; rfl, by rw [World.cell?_alloc_at _ _ _ _ rfl]; rfl⟩
theorem specDefaultFolds_any (w : World) :
    Calls Tryz.prog 108 #[] w fun e w' => (∃ u, e = .returned u ∧ OwnAs w' w.heap.size u dFs.length (fun j => dFs.getD j a00)) ∧ Below w.heap.size w w' := by
  go_enter Tryz.func108, Tryz.ntmps108
  go_wp2
  go_ret
  exact ⟨⟨_, rfl, dFs_row w⟩, (Below.refl _ _).alloc (Nat.le_refl _) _⟩
end Go.Proofs.YthigdblloddepaaGreat
