/-
  CONTRACTS of the program's chapter 5, the first part: word text, the notations' methods, notationOfKind.
-/
import Derived.Test.YtnpiphkglhcifaaGreatAtoms
import Derived.Test.YtnpiphkglhcifaaGreatAtomS
import Derived.Test.YtnpiphkglhcifaaGreatTransP
import Derived.Test.YtnpiphkglhcifaaGreatStrs
import Derived.Test.YtnpiphkglhcifaaGreatMark
import Derived.Test.YtnpiphkglhcifaaGreatShelf
import Derived.Test.YtnpiphkglhcifaaGreatPlainJoin
import Derived.Handy
namespace Go.Proofs.YtnpiphkglhcifaaGreat
set_option maxRecDepth 100000
open Go.RowKit

/-- An answer of atoms of its own and a flag. -/
def OutOA (base : Nat) (w' : World) (ls : List Atm) (b : Bool) (e : Ending) : Prop := ∃ u, e = .returned (.tuple #[u, .bool b]) ∧ OwnAs w' base u ls.length (fun j => ls.getD j a00)
/-- An answer of strings of its own and a flag. -/
def OutOS (base : Nat) (w' : World) (xs : List ByteArray) (b : Bool) (e : Ending) : Prop := ∃ u, e = .returned (.tuple #[u, .bool b]) ∧ OwnStrs w' base u xs.length (fun j => xs.getD j ByteArray.empty)
structure Impl5 : Prop where
  parse : ∀ (s : ByteArray) (w : World), s.size ≤ 1048576 → Calls Tryz.prog 75 #[.string s] w fun e w' => e = parAE s ∧ Below w.heap.size w w'
  parseT : ∀ (t : ByteArray) (w : World), t.size ≤ 1048576 → Calls Tryz.prog 67 #[.string t] w fun e w' => OutOA w.heap.size w' (parL t) (parLB t) e ∧ Below w.heap.size w w'
end Go.Proofs.YtnpiphkglhcifaaGreat

namespace Go.Proofs.YtnpiphkglhcifaaGreat
set_option maxRecDepth 100000
open Go.RowKit

/-! ### plain -/
theorem wordC_byte (b : UInt8) : Pl.wordC b = ((decide ((33 : Int) ≤ b.toNat) && decide ((b.toNat : Int) ≤ 126)) && decide (Lib.indexByte [123, 125, 94, 38, 35, 62] b < 0)) := by
  have e : decide (Lib.indexByte [123, 125, 94, 38, 35, 62] b < 0) = !(b == 123 || b == 125 || b == 94 || b == 38 || b == 35 || b == 62) := by
    have h := Pl.index_has [123, 125, 94, 38, 35, 62] b
    have h2 : decide (Lib.indexByte [123, 125, 94, 38, 35, 62] b < 0) = !decide (0 ≤ Lib.indexByte [123, 125, 94, 38, 35, 62] b) := by
      rw [← decide_not, decide_eq_decide]; omega
    rw [h2, h]
    unfold Pl.has
    rw [Bool.eq_iff_iff]
    simp [and_assoc]
  rw [e]
  unfold Pl.wordC
  rw [show decide ((33 : Int) ≤ b.toNat) = decide (33 ≤ b.toNat) by rw [decide_eq_decide]; omega, show decide ((b.toNat : Int) ≤ 126) = decide (b.toNat ≤ 126) by rw [decide_eq_decide]; omega]
/-- A notation: its brackets, and the marks of a markNotation. -/
inductive NK where
  | word (b a : ByteArray)
  | mark (b a : ByteArray) (x y z : UInt8)
  | cmd (b a : ByteArray)
def NK.before : NK → ByteArray | .word b _ => b | .mark b _ _ _ _ => b | .cmd b _ => b
def NK.after : NK → ByteArray | .word _ a => a | .mark _ a _ _ _ => a | .cmd _ a => a
def NK.permits : NK → ByteArray → Bool
  | .word _ _, t => Pl.wordL (by8 t)
  | .mark _ _ x y z, t => by8 t == [x] || by8 t == [y] || by8 t == [z]
  | .cmd _ _, t => by8 t == []
def NK.val : NK → Value
  | .word b a => .iface 120 (.agg #[.string b, .string a])
  | .mark b a x y z => .iface 122 (.agg #[.string b, .string a, .string ⟨#[x, y, z]⟩])
  | .cmd b a => .iface 123 (.agg #[.string b, .string a])
def nkOf (k : Int) : NK :=
  if k = 1 then .word ⟨#[]⟩ ⟨#[]⟩
  else if k = 2 then .word ⟨#[123, 94]⟩ ⟨#[125]⟩
  else if k = 3 then .word ⟨#[123]⟩ ⟨#[94, 125]⟩
  else if k = 4 then .word ⟨#[123, 94]⟩ ⟨#[94, 125]⟩
  else if k = 5 then .word ⟨#[123, 38]⟩ ⟨#[125]⟩
  else if k = 6 then .mark ⟨#[123]⟩ ⟨#[125]⟩ 46 33 63
  else if k = 7 then .mark ⟨#[123]⟩ ⟨#[125]⟩ 44 59 58
  else if k = 8 then .cmd ⟨#[123, 45, 124]⟩ ⟨#[125]⟩
  else if k = 9 then .cmd ⟨#[123, 62]⟩ ⟨#[125]⟩
  else .cmd ⟨#[123, 42, 45, 124]⟩ ⟨#[125]⟩
theorem ten {k : Int} (h : 1 ≤ k ∧ k ≤ 10) : k = 1 ∨ k = 2 ∨ k = 3 ∨ k = 4 ∨ k = 5 ∨ k = 6 ∨ k = 7 ∨ k = 8 ∨ k = 9 ∨ k = 10 := by omega
theorem good_nk {k : Int} (h : 1 ≤ k ∧ k ≤ 10) (t : ByteArray) : Pl.goodA k (by8 t) = (nkOf k).permits t := by
  rcases ten h with rfl | rfl | rfl | rfl | rfl | rfl | rfl | rfl | rfl | rfl <;> rfl
theorem good_out {k : Int} (h : ¬ (1 ≤ k ∧ k ≤ 10)) (t : List UInt8) : Pl.goodA k t = false := by
  unfold Pl.goodA
  rw [if_neg (by omega), if_neg (by omega), if_neg (by omega), if_neg (by omega)]
theorem fmt_nk {k : Int} (h : 1 ≤ k ∧ k ≤ 10) {t : ByteArray} (ht : Pl.goodA k (by8 t) = true) : fmtB k t = ((nkOf k).before ++ t) ++ (nkOf k).after := by
  rcases ten h with rfl | rfl | rfl | rfl | rfl | rfl | rfl | rfl | rfl | rfl
  · rw [fmtB_1]; apply ByteArray.ext; simp [nkOf, NK.before, NK.after, ByteArray.data_append]
  · rw [fmtB_2]; rfl
  · rw [fmtB_3]; rfl
  · rw [fmtB_4]; rfl
  · rw [fmtB_5]; rfl
  · rw [fmtB_else _ _ (by decide) (by decide)]; rfl
  · rw [fmtB_else _ _ (by decide) (by decide)]; rfl
  · have e : by8 t = [] := by simpa [Pl.goodA] using ht
    have e2 : t = ⟨#[]⟩ := by8_inj e
    subst e2; rfl
  · have e : by8 t = [] := by simpa [Pl.goodA] using ht
    have e2 : t = ⟨#[]⟩ := by8_inj e
    subst e2; rfl
  · have e : by8 t = [] := by simpa [Pl.goodA] using ht
    have e2 : t = ⟨#[]⟩ := by8_inj e
    subst e2; rfl
/-- What stands between the brackets, and whether both are there. -/
def unT (s b a : ByteArray) : ByteArray := ⟨(Lib.trimSuffix (Lib.trimPrefix (by8 s) (by8 b)) (by8 a)).toArray⟩
def unB (s b a : ByteArray) : Bool := Lib.hasPrefix (by8 s) (by8 b) && Lib.hasSuffix (Lib.trimPrefix (by8 s) (by8 b)) (by8 a)
theorem un_yes {s b a : ByteArray} (h : unB s b a = true) : (b ++ unT s b a) ++ a = s := by
  unfold unB at h
  rw [Bool.and_eq_true] at h
  obtain ⟨h1, h2⟩ := h
  apply by8_inj
  have e : by8 ((b ++ unT s b a) ++ a) = (by8 b ++ by8 (unT s b a)) ++ by8 a := by unfold by8; simp [ByteArray.data_append]
  have e2 : by8 (unT s b a) = Lib.trimSuffix (Lib.trimPrefix (by8 s) (by8 b)) (by8 a) := rfl
  rw [e, e2]
  unfold Lib.trimSuffix
  rw [if_pos h2]
  unfold Lib.trimPrefix at h2 ⊢
  rw [if_pos h1] at h2 ⊢
  unfold Lib.hasPrefix at h1
  unfold Lib.hasSuffix at h2
  obtain ⟨u, hu⟩ := List.isPrefixOf_iff_prefix.1 h1
  obtain ⟨v, hv⟩ := List.isSuffixOf_iff_suffix.1 h2
  rw [← hv]
  have e3 : (by8 s).drop (by8 b).length = u := by rw [← hu]; simp
  rw [e3] at hv
  have e4 : (v ++ by8 a).take ((v ++ by8 a).length - (by8 a).length) = v := by simp
  rw [e4, List.append_assoc, hv, hu]
theorem un_of (b t a : ByteArray) : unB ((b ++ t) ++ a) b a = true ∧ unT ((b ++ t) ++ a) b a = t := by
  have e : by8 ((b ++ t) ++ a) = by8 b ++ (by8 t ++ by8 a) := by unfold by8; simp [ByteArray.data_append]
  have h1 : Lib.hasPrefix (by8 b ++ (by8 t ++ by8 a)) (by8 b) = true := List.isPrefixOf_iff_prefix.2 ⟨_, rfl⟩
  have e1 : Lib.trimPrefix (by8 b ++ (by8 t ++ by8 a)) (by8 b) = by8 t ++ by8 a := by unfold Lib.trimPrefix; rw [if_pos h1]; simp
  have h2 : Lib.hasSuffix (by8 t ++ by8 a) (by8 a) = true := List.isSuffixOf_iff_suffix.2 ⟨_, rfl⟩
  refine ⟨?_, ?_⟩
  · unfold unB; rw [e, h1, e1, h2]; rfl
  · apply by8_inj
    show Lib.trimSuffix (Lib.trimPrefix (by8 ((b ++ t) ++ a)) (by8 b)) (by8 a) = _
    rw [e, e1]
    unfold Lib.trimSuffix
    rw [if_pos h2]
    simp
theorem unT_size (s b a : ByteArray) : (unT s b a).size ≤ s.size := by
  have e : (unT s b a).size = (Lib.trimSuffix (Lib.trimPrefix (by8 s) (by8 b)) (by8 a)).length := by unfold unT; show (Array.size _) = _; simp
  have l : (by8 s).length = s.size := Pl.data_len s
  rw [e]
  unfold Lib.trimSuffix Lib.trimPrefix
  repeat' split
  all_goals simp
  all_goals omega

/-! ### the functions -/
theorem IndexB (c : UInt8) (w : World) : Calls Tryz.prog 111 #[.string ⟨#[123, 125, 94, 38, 35, 62]⟩, .int .u8 (c.toNat : Int)] w fun e w' => e = .returned (.int .i64 (Lib.indexByte [123, 125, 94, 38, 35, 62] c)) ∧ w = w' :=
  (Tryz.strings_IndexByte ⟨#[123, 125, 94, 38, 35, 62]⟩ (c.toNat : Int) w).mono fun e w' ⟨he, hw⟩ => ⟨by rw [he]; simp, hw.symm⟩
theorem isWordByte_any (b : UInt8) (w : World) :
    Calls Tryz.prog 110 #[.int .u8 (b.toNat : Int)] w fun e w' => e = .returned (.bool (Pl.wordC b)) ∧ w = w' := by
  have hw := wordC_byte b
  have c := fun w => IndexB b w
  obtain ⟨i, hi⟩ : ∃ i, i = Lib.indexByte [123, 125, 94, 38, 35, 62] b := ⟨_, rfl⟩
  rw [← hi] at hw c
  obtain ⟨x, hx⟩ : ∃ x : Int, x = (b.toNat : Int) := ⟨_, rfl⟩
  have hx0 : 0 ≤ x ∧ x ≤ 255 := by have := b.toNat_lt; omega
  rw [← hx] at hw c ⊢
  have HW := Lib.hid hw
  have C := Lib.hid c
  clear hw c hx hi
  by_cases h1 : 33 ≤ x
  · by_cases h2 : x ≤ 126
    · go_enter Tryz.func110, Tryz.ntmps110
      go_wp2_with fail
      refine (C.out _).mono ?_
      rintro e w1 ⟨rfl, rfl⟩
      go_wp2
      go_ret
      exact ⟨ret_bool (by rw [HW.out, decide_eq_true h1, decide_eq_true h2]; rfl), rfl⟩
    · go_enter Tryz.func110, Tryz.ntmps110
      go_wp2
      go_ret
      exact ⟨ret_bool (by rw [HW.out, decide_eq_false (show ¬ x ≤ 126 by omega), Bool.and_false]; rfl), rfl⟩
  · go_enter Tryz.func110, Tryz.ntmps110
    go_wp2
    go_ret
    exact ⟨ret_bool (by rw [HW.out, decide_eq_false (show ¬ 33 ≤ x by omega)]; rfl), rfl⟩
theorem wordL_no_len {t : ByteArray} (h : ¬ (1 ≤ t.size ∧ t.size ≤ 20)) : Pl.wordL (by8 t) = false := by
  unfold Pl.wordL
  rw [Bool.and_eq_false_iff]
  refine .inr ?_
  rw [Pl.data_len, ← Bool.not_eq_true, Bool.and_eq_true, decide_eq_true_eq, decide_eq_true_eq]
  exact h
set_option maxHeartbeats 1000000 in
theorem isWordText_any (t : ByteArray) (w : World) (ht : t.size ≤ 1048600) :
    Calls Tryz.prog 109 #[.string t] w fun e w' => e = .returned (.bool (Pl.wordL (by8 t))) ∧ w = w' := by
  have C := Lib.hid (fun b w => isWordByte_any b w)
  by_cases h : 1 ≤ t.size ∧ t.size ≤ 20
  · obtain ⟨h1, h20⟩ := h
    go_enter Tryz.func109, Tryz.ntmps109
    go_wp2_with fail
    go_loopw [14] (fun i wr => ∃ k : Nat, i = .int .i64 k ∧ k ≤ t.size ∧ Hid (((by8 t).take k).all Pl.wordC = true) ∧ wr = w) (fun i _ => t.size - (intOf i).toNat)
    case atStart => exact ⟨0, rfl, Nat.zero_le _, by show _ = _; rw [List.take_zero]; rfl, rfl⟩
    case round =>
      obtain ⟨k, rfl, hk, HA, rfl⟩ := hrel
      by_cases hlt : k < t.size
      · have c := fun w => C.out t[k] w
        have hno := fun q => word_no_at (t := t) hlt q
        have hnext := fun q => word_next hlt HA.out q
        obtain ⟨b, hb⟩ : ∃ b, b = Pl.wordC t[k] := ⟨_, rfl⟩
        rw [← hb] at c hno hnext
        have C1 := Lib.hid c
        have HNo := Lib.hid hno
        have HNext := Lib.hid hnext
        clear c hno hnext hb HA C
        go_wp2_with fail
        refine (C1.out _).mono ?_
        rintro e w1 ⟨rfl, rfl⟩
        cases b
        · go_wp2
          go_ret
          exact ⟨ret_bool (HNo.out (by first | rfl | trivial)).symm, rfl⟩
        · have HA2 := Lib.hid (HNext.out (by first | rfl | trivial))
          go_wp2
          go_roundw
          case rel => exact ⟨k + 1, by go_num, by omega, HA2, by first | rfl | trivial⟩
          case measure => simp [intOf]; omega
      · obtain rfl : k = t.size := by omega
        have HF : Hid (Pl.wordL (by8 t) = true) := by
          show _ = _
          have ha := HA.out
          rw [List.take_of_length_le (by rw [Pl.data_len]; exact Nat.le_refl _)] at ha
          unfold Pl.wordL
          rw [ha, Bool.true_and, Pl.data_len, Bool.and_eq_true, decide_eq_true_eq, decide_eq_true_eq]
          exact ⟨h1, h20⟩
        clear HA
        go_wp2
        go_ret
        exact ⟨ret_bool HF.out.symm, rfl⟩
  · have HF := Lib.hid (wordL_no_len h)
    by_cases h1 : 1 ≤ t.size
    · have h2 : ¬ t.size ≤ 20 := fun q => h ⟨h1, q⟩
      clear h
      go_enter Tryz.func109, Tryz.ntmps109
      go_wp2
      go_ret
      exact ⟨ret_bool HF.out.symm, rfl⟩
    · clear h
      have h0 : t.size = 0 := by omega
      go_enter Tryz.func109, Tryz.ntmps109
      go_wp2
      go_ret
      exact ⟨ret_bool HF.out.symm, rfl⟩
/-! ### the methods -/
theorem permW_any (b a t : ByteArray) (w : World) (ht : t.size ≤ 1048600) :
    Calls Tryz.prog 108 #[.agg #[.string b, .string a], .string t] w fun e w' => e = .returned (.bool ((NK.word b a).permits t)) ∧ Below w.heap.size w w' := by
  have C := Lib.hid (fun w => isWordText_any t w ht)
  go_enter Tryz.func108, Tryz.ntmps108
  go_wp2_with fail
  refine (C.out _).mono ?_
  rintro e w1 ⟨rfl, rfl⟩
  go_wp2
  go_ret
  exact ⟨rfl, (Below.refl _ _).alloc (Nat.le_refl _) _⟩
theorem permC_any (b a t : ByteArray) (w : World) :
    Calls Tryz.prog 122 #[.agg #[.string b, .string a], .string t] w fun e w' => e = .returned (.bool ((NK.cmd b a).permits t)) ∧ Below w.heap.size w w' := by
  show Calls _ _ _ _ fun e w' => e = .returned (.bool (by8 t == [])) ∧ _
  have hG : Hid ((by8 t == []) = (t.toList == [])) := by show _ = _; unfold by8; rw [Lib.toList_data]
  go_enter Tryz.func122, Tryz.ntmps122
  go_wp2
  go_ret
  refine ⟨?_, (Below.refl _ _).alloc (Nat.le_refl _) _⟩
  rw [hG.out]
  first | rfl | simp
theorem permM_any (b a : ByteArray) (x y z : UInt8) (t : ByteArray) (w : World) (ht : t.size ≤ 1048600) :
    Calls Tryz.prog 114 #[.agg #[.string b, .string a, .string ⟨#[x, y, z]⟩], .string t] w fun e w' => e = .returned (.bool ((NK.mark b a x y z).permits t)) ∧ Below w.heap.size w w' := by
  show Calls _ _ _ _ fun e w' => e = .returned (.bool (by8 t == [x] || by8 t == [y] || by8 t == [z])) ∧ _
  by_cases h1 : t.size = 1
  · obtain ⟨c, rfl⟩ : ∃ c, t = ⟨#[c]⟩ := by
      have hl : (by8 t).length = 1 := by rw [Pl.data_len]; exact h1
      match hb : by8 t, hl with
      | [c], _ => exact ⟨c, by8_inj hb⟩
    have e : (by8 (⟨#[c]⟩ : ByteArray) == [x] || by8 (⟨#[c]⟩ : ByteArray) == [y] || by8 (⟨#[c]⟩ : ByteArray) == [z]) = decide (0 ≤ Lib.indexByte [x, y, z] c) := by
      rw [Pl.index_has]
      unfold Pl.has by8
      rw [Bool.eq_iff_iff]
      simp [or_assoc]
    rw [e]
    have C := Lib.hid (fun w => Tryz.strings_Contains_one ⟨#[x, y, z]⟩ c w)
    have hs : (⟨#[c]⟩ : ByteArray).size = 1 := rfl
    clear e h1 ht
    go_enter Tryz.func114, Tryz.ntmps114
    go_wp2_with fail
    refine (C.out _).mono ?_
    rintro e w1 ⟨rfl, rfl⟩
    go_wp2
    go_ret
    exact ⟨rfl, (Below.refl _ _).alloc (Nat.le_refl _) _⟩
  · have HF : Hid ((by8 t == [x] || by8 t == [y] || by8 t == [z]) = false) := by
      show _ = _
      have hne : ∀ u : UInt8, (by8 t == [u]) = false := fun u => by
        rw [beq_eq_false_iff_ne]
        intro e
        have := Pl.data_len t
        rw [show t.data.toList = [u] from e] at this
        exact h1 this.symm
      rw [hne, hne, hne]; rfl
    have h2 : ((t.size : Int) == 1) = false := by rw [beq_eq_false_iff_ne]; omega
    clear h1
    go_enter Tryz.func114, Tryz.ntmps114
    go_wp2
    go_ret
    exact ⟨ret_bool HF.out.symm, (Below.refl _ _).alloc (Nat.le_refl _) _⟩
theorem unwrap_any (b a s : ByteArray) (w : World) (hs : s.size ≤ 1048600) :
    Calls Tryz.prog 100 #[.agg #[.string b, .string a], .string s] w fun e w' => e = .returned (.tuple #[.string (unT s b a), .bool (unB s b a)]) ∧ Below w.heap.size w w' := by
  have c := fun w => Tryz.strings_CutPrefix s b w
  have d := fun w hs => Tryz.strings_CutSuffix ⟨(Lib.trimPrefix (by8 s) (by8 b)).toArray⟩ a w hs
  unfold unT unB
  obtain ⟨p, hp⟩ : ∃ p : ByteArray, p = ⟨(Lib.trimPrefix (by8 s) (by8 b)).toArray⟩ := ⟨_, rfl⟩
  obtain ⟨q, hq⟩ : ∃ q : ByteArray, q = ⟨(Lib.trimSuffix (Lib.trimPrefix (by8 s) (by8 b)) (by8 a)).toArray⟩ := ⟨_, rfl⟩
  obtain ⟨x, hx⟩ : ∃ x, x = Lib.hasPrefix (by8 s) (by8 b) := ⟨_, rfl⟩
  obtain ⟨y, hy⟩ : ∃ y, y = Lib.hasSuffix (Lib.trimPrefix (by8 s) (by8 b)) (by8 a) := ⟨_, rfl⟩
  have hps : p.size ≤ 9223372036854775807 := by
    have l : (by8 s).length = s.size := Pl.data_len s
    have e : p.size = (Lib.trimPrefix (by8 s) (by8 b)).length := by rw [hp]; show (Array.size _) = _; simp
    rw [e]
    unfold Lib.trimPrefix
    split
    all_goals simp
    all_goals omega
  have c2 : ∀ w, Calls Tryz.prog 102 #[.string s, .string b] w fun e w' => e = .returned (.tuple #[.string p, .bool x]) ∧ w = w' := fun w => (c w).mono fun e w' ⟨he, hw⟩ => ⟨by rw [he, hp, hx], hw.symm⟩
  have d2 : ∀ w, Calls Tryz.prog 103 #[.string p, .string a] w fun e w' => e = .returned (.tuple #[.string q, .bool y]) ∧ w = w' := fun w => by
    have := d w (by rw [← hp]; exact hps)
    rw [← hp] at this
    exact this.mono fun e w' ⟨he, hw⟩ => ⟨by rw [he, hq, hy, hp], hw.symm⟩
  rw [← hq, ← hx, ← hy]
  have C := Lib.hid c2
  have D := Lib.hid d2
  clear c d c2 d2 hp hq hx hy hps
  go_enter Tryz.func100, Tryz.ntmps100
  go_wp2_with fail
  refine (C.out _).mono ?_
  rintro e w1 ⟨rfl, rfl⟩
  go_wp2_with fail
  refine (D.out _).mono ?_
  rintro e w1 ⟨rfl, rfl⟩
  cases x
  · go_wp2
    go_ret2
    exact ⟨rfl, (Below.refl _ _).alloc (Nat.le_refl _) _⟩
  · go_wp2
    go_ret2
    exact ⟨rfl, (Below.refl _ _).alloc (Nat.le_refl _) _⟩
/-- What notationOfKind answers. -/
def nkE (k : Int) : Ending := if 1 ≤ k ∧ k ≤ 10 then .returned (.tuple #[(nkOf k).val, .bool true]) else .returned (.tuple #[.nilIface, .bool false])
set_option maxHeartbeats 2000000 in
theorem notation5_any (k : Int) (w : World) :
    Calls Tryz.prog 82 #[.int .i64 k] w fun e w' => e = nkE k ∧ w = w' := by
  by_cases h : 1 ≤ k ∧ k ≤ 10
  · have hk := ten h
    clear h
    rcases hk with rfl | rfl | rfl | rfl | rfl | rfl | rfl | rfl | rfl | rfl
    all_goals
      go_enter Tryz.func82, Tryz.ntmps82
      go_wp2
      go_ret2
      exact ⟨rfl, rfl⟩
  · unfold nkE
    rw [if_neg h]
    have e : ∀ n : Int, 1 ≤ n → n ≤ 10 → (k == n) = false := fun n h1 h2 => by rw [beq_eq_false_iff_ne]; omega
    have e1 := e 1 (by omega) (by omega)
    have e2 := e 2 (by omega) (by omega)
    have e3 := e 3 (by omega) (by omega)
    have e4 := e 4 (by omega) (by omega)
    have e5 := e 5 (by omega) (by omega)
    have e6 := e 6 (by omega) (by omega)
    have e7 := e 7 (by omega) (by omega)
    have e8 := e 8 (by omega) (by omega)
    have e9 := e 9 (by omega) (by omega)
    have e10 := e 10 (by omega) (by omega)
    clear h e
    go_enter Tryz.func82, Tryz.ntmps82
    go_wp2
    go_ret2
    exact ⟨rfl, rfl⟩
end Go.Proofs.YtnpiphkglhcifaaGreat
