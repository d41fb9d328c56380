/-
  PLAIN MATHEMATICS of decimal texts: reading the decimal text of a number gives the number back. Nothing of the program stands here.
-/
import Derived.Lib.ItoaNum
import Derived.Lib.Hide
namespace Go.Proofs.YtbpjlhdhlcmajaaDoor.Pl
open Go

/-- A decimal digit. -/
def isDig (c : UInt8) : Bool := decide (48 ≤ c.toNat) && decide (c.toNat ≤ 57)
theorem isDig_of {r : Nat} (h : r < 10) : isDig (UInt8.ofNat (48 + r)) = true ∧ (UInt8.ofNat (48 + r)).toNat = 48 + r := by
  have e : (UInt8.ofNat (48 + r)).toNat = 48 + r := by rw [UInt8.toNat_ofNat']; omega
  exact ⟨by unfold isDig; rw [e]; simp; omega, e⟩

/-- The value of a list of digits. -/
def val (l : List UInt8) : Nat := l.foldl (fun n c => 10 * n + (c.toNat - 48)) 0
theorem val_snoc (l : List UInt8) (c : UInt8) : val (l ++ [c]) = 10 * val l + (c.toNat - 48) := by simp [val, List.foldl_append]

theorem dec_big {u : Nat} (h : ¬ u < 10) : Lib.decDigits u = Lib.decDigits (u / 10) ++ [UInt8.ofNat (48 + u % 10)] := by rw [Lib.decDigits, dif_neg h]

theorem dec_digits : ∀ (u : Nat), ∀ c ∈ Lib.decDigits u, isDig c = true := by
  intro u
  induction u using Nat.strongRecOn with
  | _ u ih =>
    intro c hc
    by_cases h : u < 10
    · rw [Lib.decDigits_one h, List.mem_singleton] at hc; subst hc; exact (isDig_of h).1
    · rw [dec_big h, List.mem_append, List.mem_singleton] at hc
      rcases hc with hc | rfl
      · exact ih (u / 10) (by omega) c hc
      · exact (isDig_of (by omega)).1

theorem val_dec (u : Nat) : val (Lib.decDigits u) = u := by
  induction u using Nat.strongRecOn with
  | _ u ih =>
    by_cases h : u < 10
    · rw [Lib.decDigits_one h]; show 10 * 0 + _ = _; rw [(isDig_of h).2]; omega
    · rw [dec_big h, val_snoc, ih (u / 10) (by omega), (isDig_of (by omega)).2]; omega

theorem val_lt_from : ∀ (l : List UInt8) (n : Nat), (∀ c ∈ l, isDig c = true) → l.foldl (fun n c => 10 * n + (c.toNat - 48)) n < (n + 1) * 10 ^ l.length
  | [], n, _ => by simp
  | c :: l, n, h => by
    have h2 := h c (by simp)
    simp only [isDig, Bool.and_eq_true, decide_eq_true_eq] at h2
    have h1 := val_lt_from l (10 * n + (c.toNat - 48)) fun c hc => h c (List.mem_cons_of_mem _ hc)
    rw [List.foldl_cons, List.length_cons, Nat.pow_succ]
    have h3 : (10 * n + (c.toNat - 48) + 1) * 10 ^ l.length ≤ (10 * (n + 1)) * 10 ^ l.length := Nat.mul_le_mul_right _ (by omega)
    have h4 : (n + 1) * (10 ^ l.length * 10) = (10 * (n + 1)) * 10 ^ l.length := by rw [Nat.mul_comm (10 ^ l.length) 10, ← Nat.mul_assoc, Nat.mul_comm (n + 1) 10]
    omega
theorem val_lt (l : List UInt8) (h : ∀ c ∈ l, isDig c = true) : val l < 10 ^ l.length := by
  have := val_lt_from l 0 h
  unfold val; omega

theorem nDigits_six {u : Nat} (h : u ≤ 999999) : Lib.nDigits u ≤ 6 := by
  have key : ∀ (k v : Nat), v < 10 ^ (k + 1) → Lib.nDigits v ≤ k + 1 := by
    intro k
    induction k with
    | zero => intro v hv; rw [Lib.nDigits_small (by simpa using hv)]; omega
    | succ k ih =>
      intro v hv
      by_cases hs : v < 10
      · rw [Lib.nDigits_small hs]; omega
      · rw [Lib.nDigits_big hs]; have := ih (v / 10) (by rw [Nat.pow_succ] at hv; omega); omega
  exact key 5 u (by omega)

/-- What 'leadingInt' computes: n and sign so far, the bytes that are left; k: how many bytes have been read. -/
def lead : Nat → List UInt8 → Int → Int → Int
  | _, [], n, sg => sg * n
  | k, c :: r, n, sg =>
    if c.toNat = 45 ∧ k = 0 then lead (k + 1) r n (-1)
    else if isDig c = true ∧ n ≤ 999999 then lead (k + 1) r (10 * n + ((c.toNat : Int) - 48)) sg
    else sg * n

theorem lead_dec (u : Nat) (hu : u ≤ 9999999) (k : Nat) (rest : List UInt8) (sg : Int) :
    lead k (Lib.decDigits u ++ rest) 0 sg = lead (k + Lib.nDigits u) rest u sg := by
  induction u using Nat.strongRecOn generalizing rest with
  | _ u ih =>
    by_cases h : u < 10
    · rw [Lib.decDigits_one h, Lib.nDigits_small h, List.singleton_append, lead]
      have := isDig_of h
      rw [if_neg (by rw [this.2]; omega), if_pos ⟨this.1, by omega⟩, this.2]
      congr 1; omega
    · rw [dec_big h, Lib.nDigits_big h, List.append_assoc, ih (u / 10) (by omega) (by omega), List.singleton_append, lead]
      have := isDig_of (show u % 10 < 10 by omega)
      rw [if_neg (by rw [this.2]; omega), if_pos ⟨this.1, by omega⟩, this.2]
      congr 1; omega

theorem lead_itoa (n : Int) (h0 : -999999 ≤ n) (h1 : n ≤ 999999) : lead 0 (Lib.itoa n) 0 1 = n := by
  unfold Lib.itoa
  split
  · rw [lead, if_pos ⟨rfl, rfl⟩]
    have := lead_dec n.natAbs (by omega) 1 [] (-1)
    rw [List.append_nil] at this
    rw [this, lead]; omega
  · have := lead_dec n.toNat (by omega) 0 [] 1
    rw [List.append_nil] at this
    rw [this, lead]; omega

/-- The reading of one round. -/
theorem lead_at (s : ByteArray) (k : Nat) (h : k < s.size) (n sg : Int) : lead k (s.data.toList.drop k) n sg =
    if s[k].toNat = 45 ∧ k = 0 then lead (k + 1) (s.data.toList.drop (k + 1)) n (-1)
    else if isDig s[k] = true ∧ n ≤ 999999 then lead (k + 1) (s.data.toList.drop (k + 1)) (10 * n + ((s[k].toNat : Int) - 48)) sg
    else sg * n := by
  rw [List.drop_eq_getElem_cons (by simpa using h), lead]; rfl
theorem lead_end (s : ByteArray) (k : Nat) (h : s.size ≤ k) (n sg : Int) : lead k (s.data.toList.drop k) n sg = sg * n := by
  rw [List.drop_eq_nil_of_le (by simpa using h), lead]

/-! ### What the specification's reader answers -/

/-- l is the decimal text of no number within the bounds. -/
def NoNum (l : List UInt8) : Prop := ∀ n : Int, -999999 ≤ n → n ≤ 999999 → Lib.itoa n ≠ l
/-- l is no '-' with something behind it. -/
def Plain (l : List UInt8) : Prop := ∀ r, r ≠ [] → l ≠ 45 :: r

theorem itoa_inj {n m : Int} (h0 : -999999 ≤ n) (h1 : n ≤ 999999) (k0 : -999999 ≤ m) (k1 : m ≤ 999999) (h : Lib.itoa n = Lib.itoa m) : n = m := by
  rw [← lead_itoa n h0 h1, ← lead_itoa m k0 k1, h]

theorem dec_ne_nil (u : Nat) : Lib.decDigits u ≠ [] := by
  intro e
  have := Lib.decDigits_length u
  rw [e] at this
  have := Lib.nDigits_pos u
  simp at *; omega

theorem plain_dec {l : List UInt8} (hp : Plain l) {n : Int} (h : Lib.itoa n = l) : 0 ≤ n ∧ l = Lib.decDigits n.toNat := by
  unfold Lib.itoa at h
  split at h
  · exact absurd h.symm (hp _ (dec_ne_nil _))
  · exact ⟨by omega, h.symm⟩
theorem minus_dec {r : List UInt8} {n : Int} (h : Lib.itoa n = 45 :: r) : n < 0 ∧ r = Lib.decDigits n.natAbs := by
  unfold Lib.itoa at h
  split at h
  · exact ⟨by omega, by simpa using h.symm⟩
  · have := dec_digits n.toNat 45 (by rw [h]; simp)
    exact absurd this (by decide)

theorem dec_len {u : Nat} (h : u ≤ 999999) : 1 ≤ (Lib.decDigits u).length ∧ (Lib.decDigits u).length ≤ 6 := by
  rw [Lib.decDigits_length]; exact ⟨Lib.nDigits_pos u, nDigits_six h⟩

theorem no_len_pos {l : List UInt8} (hp : Plain l) (hl : ¬ (1 ≤ l.length ∧ l.length ≤ 6)) : NoNum l := by
  intro n h0 h1 h
  obtain ⟨h2, rfl⟩ := plain_dec hp h
  exact hl (dec_len (by omega))
theorem no_dig_pos {l : List UInt8} (hp : Plain l) {c : UInt8} (hc : c ∈ l) (hd : isDig c = false) : NoNum l := by
  intro n h0 h1 h
  obtain ⟨h2, rfl⟩ := plain_dec hp h
  rw [dec_digits _ c hc] at hd; cases hd
theorem fin_pos {l : List UInt8} (hp : Plain l) (hne : Lib.itoa (val l : Int) ≠ l) : NoNum l := by
  intro n h0 h1 h
  obtain ⟨h2, rfl⟩ := plain_dec hp h
  rw [val_dec, show ((n.toNat : Nat) : Int) = n by omega] at hne
  exact hne h
theorem no_len_neg {r : List UInt8} (hl : ¬ (1 ≤ r.length ∧ r.length ≤ 6)) : NoNum (45 :: r) := by
  intro n h0 h1 h
  obtain ⟨h2, rfl⟩ := minus_dec h
  exact hl (dec_len (by omega))
theorem no_dig_neg {r : List UInt8} {c : UInt8} (hc : c ∈ r) (hd : isDig c = false) : NoNum (45 :: r) := by
  intro n h0 h1 h
  obtain ⟨h2, rfl⟩ := minus_dec h
  rw [dec_digits _ c hc] at hd; cases hd
theorem fin_neg {r : List UInt8} (hne : Lib.itoa (-(val r : Int)) ≠ 45 :: r) : NoNum (45 :: r) := by
  intro n h0 h1 h
  obtain ⟨h2, rfl⟩ := minus_dec h
  rw [val_dec, show -((n.natAbs : Nat) : Int) = n by omega] at hne
  exact hne h

theorem val_six {l : List UInt8} (h : ∀ c ∈ l, isDig c = true) (hl : l.length ≤ 6) : val l ≤ 999999 := by
  have h1 := val_lt l h
  have h2 : 10 ^ l.length ≤ 10 ^ 6 := Nat.pow_le_pow_right (by decide) hl
  have h3 : (10 : Nat) ^ 6 = 1000000 := by decide
  omega

/-- One round of the reader's loop: one digit more. -/
theorem val_take (s : ByteArray) (k : Nat) (h : k < s.size) (hd : isDig s[k] = true) :
    (val (s.data.toList.take (k + 1)) : Int) = 10 * (val (s.data.toList.take k) : Int) + ((s[k].toNat : Int) - 48) := by
  have e : s.data.toList.take (k + 1) = s.data.toList.take k ++ [s[k]] := by
    rw [List.take_succ_eq_append_getElem (by simpa using h)]; rfl
  simp only [isDig, Bool.and_eq_true, decide_eq_true_eq] at hd
  rw [e, val_snoc]; omega
theorem dig_take (s : ByteArray) (k : Nat) (h : k < s.size) (hd : isDig s[k] = true) (ha : ∀ c ∈ s.data.toList.take k, isDig c = true) : ∀ c ∈ s.data.toList.take (k + 1), isDig c = true := by
  have e : s.data.toList.take (k + 1) = s.data.toList.take k ++ [s[k]] := by
    rw [List.take_succ_eq_append_getElem (by simpa using h)]; rfl
  intro c hc
  rw [e, List.mem_append, List.mem_singleton] at hc
  rcases hc with hc | rfl
  · exact ha c hc
  · exact hd
theorem byte_mem (s : ByteArray) (k : Nat) (h : k < s.size) : s[k] ∈ s.data.toList := by
  have : s[k] = s.data.toList[k]'(by simpa using h) := rfl
  rw [this]; exact List.getElem_mem _
end Go.Proofs.YtbpjlhdhlcmajaaDoor.Pl
