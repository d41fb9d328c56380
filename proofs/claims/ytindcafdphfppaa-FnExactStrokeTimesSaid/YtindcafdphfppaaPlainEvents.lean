/-
  PLAIN MATHEMATICS of chapter 3: key events, the strokes of both modes, the events of chords. Nothing of the program stands here.
-/
import Derived.Test.YtindcafdphfppaaPlainKeys
namespace Go.Proofs.Ytindcafdphfppaa.Pl

structure Ev where
  t : Int
  k : Int
  d : Bool
instance : Inhabited Ev := ⟨⟨0, 0, false⟩⟩
/-- Is the event permitted while the keys dn are down? -/
def fits (dn : Nat) (e : Ev) : Prop := 0 ≤ e.k ∧ e.k < 23 ∧ 0 ≤ e.t ∧ e.t ≤ 999999 ∧ dn.testBit e.k.toNat ≠ e.d
instance (dn : Nat) (e : Ev) : Decidable (fits dn e) := by unfold fits; infer_instance
/-- The keys that are down behind the event. -/
def flip (dn : Nat) (e : Ev) : Nat := dn ^^^ 2 ^ e.k.toNat
theorem flip_bit (dn : Nat) (e : Ev) (j : Nat) : (flip dn e).testBit j = (dn.testBit j ^^ decide (e.k.toNat = j)) := by
  unfold flip; rw [Nat.testBit_xor, testBit_pow]
theorem flip_lt {dn : Nat} {e : Ev} (h : dn < 8388608) (hf : fits dn e) : flip dn e < 8388608 := by
  obtain ⟨h0, h1, _⟩ := hf
  exact Nat.xor_lt_two_pow (n := 23) h (Nat.pow_lt_pow_right (by decide) (by omega))
/-- Are the events permitted, from the time 'last' on? -/
def chk : Int → Nat → List Ev → Bool
  | _, _, [] => true
  | last, dn, e :: l => if last ≤ e.t ∧ fits dn e then chk e.t (flip dn e) l else false
theorem chk_cons (last : Int) (dn : Nat) (e : Ev) (l : List Ev) : chk last dn (e :: l) = if last ≤ e.t ∧ fits dn e then chk e.t (flip dn e) l else false := rfl
/-- Is the list of events valid? -/
def good (l : List Ev) : Bool := decide (l.length ≤ 200) && chk 0 0 l

/-- What both modes hold. -/
structure Run where
  dn : Nat
  ch : Nat
  pd : Bool
  S : List Nat
  T : List Int
  F : List Nat
def Run.zero : Run := ⟨0, 0, false, [], [], []⟩
def Run.step (r : Run) (e : Ev) : Run :=
  let dn' := flip r.dn e
  let ch' := r.ch ||| dn'
  { dn := dn', ch := if dn' = 0 then 0 else ch', pd := e.d,
    S := if dn' = 0 then r.S ++ [ch'] else r.S, T := if dn' = 0 then r.T ++ [e.t] else r.T,
    F := if e.d = false ∧ r.pd = true then r.F ++ [r.dn] else r.F }
def run (l : List Ev) : Run := l.foldl Run.step Run.zero
theorem run_snoc (l : List Ev) (e : Ev) : run (l ++ [e]) = (run l).step e := by unfold run; rw [List.foldl_append]; rfl
theorem run_take {l : List Ev} {k : Nat} {e : Ev} (h : l[k]? = some e) : run (l.take (k + 1)) = (run (l.take k)).step e := by
  rw [List.take_add_one, h]; exact run_snoc _ _
theorem run_dn (l : List Ev) : ∀ (r : Run), (l.foldl Run.step r).dn = l.foldl flip r.dn := by
  induction l with
  | nil => intro r; rfl
  | cons e l ih => intro r; exact ih _
/-- The last time of some events. -/
def lastT (last : Int) (l : List Ev) : Int := l.foldl (fun _ e => e.t) last
theorem chk_append (l l' : List Ev) : ∀ (last : Int) (dn : Nat), chk last dn (l ++ l') = (chk last dn l && chk (lastT last l) (l.foldl flip dn) l') := by
  induction l with
  | nil => intro last dn; simp [chk, lastT]
  | cons e l ih =>
    intro last dn
    rw [List.cons_append, chk_cons, chk_cons]
    by_cases h : last ≤ e.t ∧ fits dn e
    · rw [if_pos h, if_pos h, ih]; rfl
    · rw [if_neg h, if_neg h]; rfl
/-- A permitted list, cut at a place. -/
theorem chk_at {l : List Ev} (h : chk 0 0 l = true) {k : Nat} {e : Ev} (hk : l[k]? = some e) :
    chk 0 0 (l.take k) = true ∧ lastT 0 (l.take k) ≤ e.t ∧ fits (run (l.take k)).dn e := by
  obtain ⟨hlt, he⟩ := List.getElem?_eq_some_iff.1 hk
  have e1 : l = l.take k ++ e :: l.drop (k + 1) := by
    rw [← he, ← List.drop_eq_getElem_cons hlt, List.take_append_drop]
  rw [e1, chk_append, Bool.and_eq_true] at h
  obtain ⟨h1, h2⟩ := h
  refine ⟨h1, ?_⟩
  unfold chk at h2
  split at h2
  · rename_i h3
    unfold run
    rw [run_dn]
    exact h3
  · cases h2
theorem run_lt (l : List Ev) (h : chk 0 0 l = true) : (run l).dn < 8388608 ∧ (run l).ch < 8388608 := by
  induction hn : l.length generalizing l with
  | zero =>
    obtain rfl := List.length_eq_zero_iff.1 hn
    exact ⟨by decide, by decide⟩
  | succ n ih =>
    rcases List.eq_nil_or_concat l with rfl | ⟨l', e, rfl⟩
    · simp at hn
    · rw [List.concat_eq_append] at h hn ⊢
      rw [chk_append, Bool.and_eq_true] at h
      have hl' : l'.length = n := by simpa using hn
      obtain ⟨i1, i2⟩ := ih l' h.1 hl'
      rw [run_snoc]
      have hf : fits (run l').dn e := by
        have h2 := h.2
        unfold chk at h2
        split at h2
        · rename_i h3; unfold run; rw [run_dn]; exact h3.2
        · cases h2
      have h3 := flip_lt i1 hf
      refine ⟨h3, ?_⟩
      show (if flip (run l').dn e = 0 then 0 else (run l').ch ||| flip (run l').dn e) < 8388608
      split
      · decide
      · exact Nat.or_lt_two_pow (n := 23) i2 h3

/-! ### First-up mode emits at least as many strokes -/
theorem first_more (l : List Ev) (h : chk 0 0 l = true) : (run l).S.length ≤ (run l).F.length ∧ ((run l).dn ≠ 0 → (run l).pd = false → (run l).S.length < (run l).F.length) ∧ (run l).T.length = (run l).S.length := by
  induction hn : l.length generalizing l with
  | zero =>
    obtain rfl := List.length_eq_zero_iff.1 hn
    exact ⟨Nat.le_refl _, fun h => absurd rfl h, rfl⟩
  | succ n ih =>
    rcases List.eq_nil_or_concat l with rfl | ⟨l', e, rfl⟩
    · simp at hn
    · rw [List.concat_eq_append] at h hn ⊢
      rw [chk_append, Bool.and_eq_true] at h
      have hl' : l'.length = n := by simpa using hn
      obtain ⟨i1, i2, i3⟩ := ih l' h.1 hl'
      rw [run_snoc]
      have hf : fits (run l').dn e := by
        have h2 := h.2
        unfold chk at h2
        split at h2
        · rename_i h3; unfold run; rw [run_dn]; exact h3.2
        · cases h2
      obtain ⟨f0, f1, f2, f3, f4⟩ := hf
      generalize hr : run l' = r at i1 i2 i3 f4
      unfold Run.step
      simp only
      cases hd : e.d
      · -- up
        rw [hd] at f4
        have hb : r.dn.testBit e.k.toNat = true := by cases hx : r.dn.testBit e.k.toNat; exact absurd hx f4; rfl
        have hdn : r.dn ≠ 0 := by intro h0; rw [h0, Nat.zero_testBit] at hb; cases hb
        cases hp : r.pd
        · have i4 := i2 hdn hp
          by_cases hz : flip r.dn e = 0
          · simp [hz]; omega
          · simp [hz]; omega
        · by_cases hz : flip r.dn e = 0
          · simp [hz]; omega
          · simp [hz]; omega
      · -- down
        rw [hd] at f4
        have hb : r.dn.testBit e.k.toNat = false := by cases hx : r.dn.testBit e.k.toNat; rfl; exact absurd hx f4
        have hz : flip r.dn e ≠ 0 := by
          intro h0
          have := flip_bit r.dn e e.k.toNat
          rw [h0, hb] at this
          simp at this
        simp [hz, i3]; exact i1

/-! ### Every key of a last-up stroke went down -/
/-- All keys that went down. -/
def pressed (l : List Ev) : Nat := l.foldl (fun p e => if e.d then p ||| 2 ^ e.k.toNat else p) 0
theorem pressed_snoc (l : List Ev) (e : Ev) : pressed (l ++ [e]) = if e.d then pressed l ||| 2 ^ e.k.toNat else pressed l := by unfold pressed; rw [List.foldl_append]; rfl
theorem pressed_take {l : List Ev} {k : Nat} {e : Ev} (h : l[k]? = some e) : pressed (l.take (k + 1)) = if e.d then pressed (l.take k) ||| 2 ^ e.k.toNat else pressed (l.take k) := by
  rw [List.take_add_one, h]; exact pressed_snoc _ _
def sub (a b : Nat) : Prop := ∀ j, a.testBit j = true → b.testBit j = true
theorem sub_or {a b c : Nat} (h1 : sub a c) (h2 : sub b c) : sub (a ||| b) c := by
  intro j hj
  rw [Nat.testBit_or, Bool.or_eq_true] at hj
  rcases hj with h | h
  · exact h1 j h
  · exact h2 j h
theorem sub_zero (a : Nat) : sub 0 a := by intro j hj; rw [Nat.zero_testBit] at hj; cases hj
theorem sub_and {a b : Nat} (h : sub a b) : a &&& b = a := by
  apply Nat.eq_of_testBit_eq
  intro j
  rw [Nat.testBit_and]
  cases ha : a.testBit j
  · rfl
  · rw [h j ha]; rfl
/-- All strokes at once. -/
def allOf (S : List Nat) : Nat := S.foldl (· ||| ·) 0
theorem allOf_snoc (S : List Nat) (s : Nat) : allOf (S ++ [s]) = allOf S ||| s := by unfold allOf; rw [List.foldl_append]; rfl
theorem sub_pressed (l : List Ev) (h : chk 0 0 l = true) : sub (run l).dn (pressed l) ∧ sub (run l).ch (pressed l) ∧ sub (allOf (run l).S) (pressed l) := by
  induction hn : l.length generalizing l with
  | zero =>
    obtain rfl := List.length_eq_zero_iff.1 hn
    exact ⟨sub_zero _, sub_zero _, sub_zero _⟩
  | succ n ih =>
    rcases List.eq_nil_or_concat l with rfl | ⟨l', e, rfl⟩
    · simp at hn
    · rw [List.concat_eq_append] at h hn ⊢
      rw [chk_append, Bool.and_eq_true] at h
      have hl' : l'.length = n := by simpa using hn
      obtain ⟨i1, i2, i3⟩ := ih l' h.1 hl'
      rw [run_snoc, pressed_snoc]
      have hf : fits (run l').dn e := by
        have h2 := h.2
        unfold chk at h2
        split at h2
        · rename_i h3; unfold run; rw [run_dn]; exact h3.2
        · cases h2
      obtain ⟨f0, f1, f2, f3, f4⟩ := hf
      generalize hr : run l' = r at i1 i2 i3 f4
      generalize hP : (if e.d then pressed l' ||| 2 ^ e.k.toNat else pressed l') = P
      have hup : ∀ a, sub a (pressed l') → sub a P := by
        intro a ha j hj
        rw [← hP]
        split
        · rw [Nat.testBit_or, ha j hj]; rfl
        · exact ha j hj
      have hdn : sub (flip r.dn e) P := by
        intro j hj
        rw [flip_bit] at hj
        by_cases hk : e.k.toNat = j
        · subst hk
          cases hd : e.d
          · rw [hd] at f4
            have hb : r.dn.testBit e.k.toNat = true := by cases hx : r.dn.testBit e.k.toNat; exact absurd hx f4; rfl
            exact hup _ i1 _ hb
          · rw [← hP, if_pos hd, Nat.testBit_or, testBit_pow]; simp
        · have : r.dn.testBit j = true := by simpa [hk] using hj
          exact hup _ i1 _ this
      refine ⟨hdn, ?_, ?_⟩
      · show sub (if flip r.dn e = 0 then 0 else r.ch ||| flip r.dn e) P
        split
        · exact sub_zero _
        · exact sub_or (hup _ i2) hdn
      · show sub (allOf (if flip r.dn e = 0 then r.S ++ [r.ch ||| flip r.dn e] else r.S)) P
        split
        · rw [allOf_snoc]; exact sub_or (hup _ i3) (sub_or (hup _ i2) hdn)
        · exact hup _ i3

/-! ### The events of chords -/
/-- The events of one stroke. -/
def chord (iv : Int) (i : Nat) (s : Nat) : List Ev :=
  (keysL s).map (fun k : Nat => (⟨2 * (i : Int) * iv, (k : Int), true⟩ : Ev)) ++ (keysL s).map (fun k : Nat => (⟨(2 * (i : Int) + 1) * iv, (k : Int), false⟩ : Ev))
/-- The events of the strokes from index i on. -/
def chordsFrom (iv : Int) : Nat → List Nat → List Ev
  | _, [] => []
  | i, s :: l => chord iv i s ++ chordsFrom iv (i + 1) l
theorem chord_len (iv : Int) (i s : Nat) : (chord iv i s).length = 2 * card s := by
  unfold chord card; rw [List.length_append, List.length_map, List.length_map]; omega
theorem chordsFrom_snoc (iv : Int) (l : List Nat) (s : Nat) : ∀ i, chordsFrom iv i (l ++ [s]) = chordsFrom iv i l ++ chord iv (i + l.length) s := by
  induction l with
  | nil => intro i; simp [chordsFrom]
  | cons x l ih =>
    intro i
    rw [List.cons_append]
    unfold chordsFrom
    rw [ih, List.append_assoc, List.length_cons, show i + 1 + l.length = i + (l.length + 1) by omega]

/-- The bits from a on. -/
def high (s a : Nat) : Nat := (s >>> a) <<< a
theorem high_bit (s a j : Nat) : (high s a).testBit j = (decide (a ≤ j) && s.testBit j) := by
  unfold high
  rw [Nat.testBit_shiftLeft, Nat.testBit_shiftRight]
  by_cases h : a ≤ j
  · rw [show a + (j - a) = j by omega]
  · simp [h]
theorem high_zero (s : Nat) : high s 0 = s := by
  apply Nat.eq_of_testBit_eq; intro j; rw [high_bit]; simp
theorem high_end (s : Nat) (h : s < 2 ^ 23) : high s 23 = 0 := by
  apply Nat.eq_of_testBit_eq; intro j
  rw [high_bit, Nat.zero_testBit]
  by_cases hj : 23 ≤ j
  · rw [Nat.testBit_lt_two_pow (Nat.lt_of_lt_of_le h (Nat.pow_le_pow_right (by decide) hj)), Bool.and_false]
  · simp [hj]
/-- The keys from a on go down: the run's state. -/
theorem run_downs (s : Nat) (t : Int) (ht : 0 ≤ t ∧ t ≤ 999999) : ∀ (m a : Nat), 23 - a = m → a ≤ 23 → ∀ (r : Run) (last : Int), r.dn = s % 2 ^ a → sub r.ch s → last ≤ t →
    (chk last r.dn ((keysIn s a 23).map (fun k : Nat => (⟨t, (k : Int), true⟩ : Ev))) = true) ∧
    ∃ c p, ((keysIn s a 23).map (fun k : Nat => (⟨t, (k : Int), true⟩ : Ev))).foldl Run.step r = ⟨s % 2 ^ 23, c, p, r.S, r.T, r.F⟩ ∧ sub c s ∧ (p = if keysIn s a 23 = [] then r.pd else true) ∧ ((keysIn s a 23 ≠ [] ∨ r.ch = s % 2 ^ 23) → c = r.ch ||| s % 2 ^ 23) ∧ (keysIn s a 23 = [] → c = r.ch) := by
  intro m
  induction m with
  | zero =>
    intro a hm ha r last hdn hch hlast
    obtain rfl : a = 23 := by omega
    rw [keysIn_self]
    refine ⟨rfl, r.ch, r.pd, ?_, hch, rfl, ?_, fun _ => rfl⟩
    · rw [← hdn]; rfl
    · rintro (h | h)
      · exact absurd rfl h
      · rw [h, Nat.or_self]
  | succ m ih =>
    intro a hm ha r last hdn hch hlast
    rw [keysIn_front s a 23 (by omega)]
    by_cases hbit : s.testBit a
    · rw [if_pos hbit]
      have hms := mod_succ s a
      rw [if_pos hbit] at hms
      have hb : r.dn.testBit a = false := by rw [hdn, Nat.testBit_mod_two_pow]; simp
      have hfl : flip r.dn ⟨t, (a : Int), true⟩ = s % 2 ^ (a + 1) := by
        rw [hms]
        apply Nat.eq_of_testBit_eq
        intro j
        rw [flip_bit, or_bit]
        show (r.dn.testBit j ^^ decide ((a : Int).toNat = j)) = _
        rw [Int.toNat_natCast, ← hdn]
        by_cases hj : a = j
        · subst hj; rw [hb]; simp
        · simp [hj]
      have hfits : fits r.dn ⟨t, (a : Int), true⟩ := ⟨by show (0 : Int) ≤ (a : Int); omega, by show (a : Int) < 23; omega, ht.1, ht.2, by show r.dn.testBit (a : Int).toNat ≠ true; rw [Int.toNat_natCast, hb]; decide⟩
      have hne : s % 2 ^ (a + 1) ≠ 0 := by rw [hms]; exact or_ne _ _
      have hstep : r.step ⟨t, (a : Int), true⟩ = ⟨s % 2 ^ (a + 1), r.ch ||| s % 2 ^ (a + 1), true, r.S, r.T, r.F⟩ := by
        unfold Run.step
        simp only
        rw [hfl, if_neg hne, if_neg hne, if_neg hne, if_neg (by simp)]
      have hlow : sub (s % 2 ^ (a + 1)) s := by intro j hj; rw [Nat.testBit_mod_two_pow, Bool.and_eq_true] at hj; exact hj.2
      obtain ⟨k1, c, p, k2, k3, k4, k5, k6⟩ := ih (a + 1) (by omega) (by omega) ⟨s % 2 ^ (a + 1), r.ch ||| s % 2 ^ (a + 1), true, r.S, r.T, r.F⟩ t rfl (sub_or hch hlow) (Int.le_refl t)
      refine ⟨?_, c, p, ?_, k3, ?_, ?_, ?_⟩
      · show chk last r.dn (_ :: _) = true
        unfold chk
        rw [if_pos ⟨hlast, hfits⟩, hfl]; exact k1
      · show (List.foldl Run.step (r.step ⟨t, (a : Int), true⟩) _) = _
        rw [hstep]; exact k2
      · rw [k4]; simp
      · intro _
        by_cases he : keysIn s (a + 1) 23 = []
        · rw [k6 he]
          show r.ch ||| s % 2 ^ (a + 1) = _
          have hx : s % 2 ^ (a + 1) = s % 2 ^ 23 := by
            apply Nat.eq_of_testBit_eq
            intro j
            rw [Nat.testBit_mod_two_pow, Nat.testBit_mod_two_pow]
            by_cases h1 : j < a + 1
            · have h2 : j < 23 := by omega
              simp [h1, h2]
            · by_cases h2 : j < 23
              · cases hb2 : s.testBit j
                · simp
                · exfalso
                  have : j ∈ keysIn s (a + 1) 23 := mem_keysIn.2 ⟨⟨by omega, h2⟩, hb2⟩
                  rw [he] at this; cases this
              · simp [h1, h2]
          rw [hx]
        · rw [k5 (.inl he)]
          show r.ch ||| s % 2 ^ (a + 1) ||| s % 2 ^ 23 = _
          rw [Nat.or_assoc]
          congr 1
          apply Nat.eq_of_testBit_eq
          intro j
          rw [Nat.testBit_or, Nat.testBit_mod_two_pow, Nat.testBit_mod_two_pow]
          by_cases h1 : j < a + 1
          · have h2 : j < 23 := by omega
            simp [h1, h2]
          · simp [h1]
      · intro h; cases h
    · rw [if_neg hbit, List.nil_append]
      have hms := mod_succ s a
      rw [if_neg hbit, Nat.or_zero] at hms
      exact ih (a + 1) (by omega) (by omega) r last (by rw [hdn, hms]) hch hlast
/-- The keys from a on go up: the run's state; with the last one the stroke is emitted. -/
theorem run_ups (s : Nat) (hs : s < 2 ^ 23) (t : Int) (ht : 0 ≤ t ∧ t ≤ 999999) : ∀ (m a : Nat), 23 - a = m → a ≤ 23 → ∀ (r : Run) (last : Int), r.dn = high s a → sub (high s a) r.ch → last ≤ t → keysIn s a 23 ≠ [] →
    (chk last r.dn ((keysIn s a 23).map (fun k : Nat => (⟨t, (k : Int), false⟩ : Ev))) = true) ∧
    ((keysIn s a 23).map (fun k : Nat => (⟨t, (k : Int), false⟩ : Ev))).foldl Run.step r = ⟨0, 0, false, r.S ++ [r.ch], r.T ++ [t], if r.pd then r.F ++ [r.dn] else r.F⟩ := by
  intro m
  induction m with
  | zero =>
    intro a hm ha r last hdn hch hlast hne
    obtain rfl : a = 23 := by omega
    rw [keysIn_self] at hne
    exact absurd rfl hne
  | succ m ih =>
    intro a hm ha r last hdn hch hlast hne
    have hfront := keysIn_front s a 23 (by omega)
    by_cases hbit : s.testBit a
    · rw [if_pos hbit] at hfront
      have hb : r.dn.testBit a = true := by rw [hdn, high_bit, hbit]; simp
      have hfl : flip r.dn ⟨t, (a : Int), false⟩ = high s (a + 1) := by
        apply Nat.eq_of_testBit_eq
        intro j
        rw [flip_bit, high_bit]
        show (r.dn.testBit j ^^ decide ((a : Int).toNat = j)) = _
        rw [Int.toNat_natCast, hdn, high_bit]
        by_cases hj : a = j
        · subst hj; simp [hbit]
        · by_cases h1 : a ≤ j
          · have h2 : a + 1 ≤ j := by omega
            simp [hj, h1, h2]
          · have h2 : ¬ a + 1 ≤ j := by omega
            simp [hj, h1, h2]
      have hfits : fits r.dn ⟨t, (a : Int), false⟩ := ⟨by show (0 : Int) ≤ (a : Int); omega, by show (a : Int) < 23; omega, ht.1, ht.2, by show r.dn.testBit (a : Int).toNat ≠ false; rw [Int.toNat_natCast, hb]; decide⟩
      have hsub : sub (high s (a + 1)) r.ch := by
        intro j hj
        rw [high_bit, Bool.and_eq_true] at hj
        exact hch j (by rw [high_bit, hj.2]; simp at hj ⊢; omega)
      have hor : r.ch ||| high s (a + 1) = r.ch := by
        apply Nat.eq_of_testBit_eq
        intro j
        rw [Nat.testBit_or]
        cases hx : (high s (a + 1)).testBit j
        · rw [Bool.or_false]
        · rw [hsub j hx]; rfl
      by_cases he : keysIn s (a + 1) 23 = []
      · have hz : high s (a + 1) = 0 := by
          apply Nat.eq_of_testBit_eq
          intro j
          rw [high_bit, Nat.zero_testBit]
          cases hb2 : s.testBit j
          · rw [Bool.and_false]
          · by_cases h2 : a + 1 ≤ j
            · exfalso
              have : j ∈ keysIn s (a + 1) 23 := mem_keysIn.2 ⟨⟨h2, bit_lt hs hb2⟩, hb2⟩
              rw [he] at this; cases this
            · simp [h2]
        rw [hfront, he]
        refine ⟨?_, ?_⟩
        · show chk last r.dn [_] = true
          unfold chk
          rw [if_pos ⟨hlast, hfits⟩]; rfl
        · show r.step ⟨t, (a : Int), false⟩ = _
          unfold Run.step
          simp only
          rw [hfl, hz, if_pos rfl, if_pos rfl, if_pos rfl, Nat.or_zero]
          cases r.pd <;> simp
      · have hz : high s (a + 1) ≠ 0 := by
          intro h0
          cases hl : keysIn s (a + 1) 23 with
          | nil => exact he hl
          | cons x l =>
            have hx : x ∈ keysIn s (a + 1) 23 := by rw [hl]; exact List.mem_cons_self
            obtain ⟨⟨x1, _⟩, x3⟩ := mem_keysIn.1 hx
            have := high_bit s (a + 1) x
            rw [h0, Nat.zero_testBit, x3] at this
            simp at this; omega
        have hstep : r.step ⟨t, (a : Int), false⟩ = ⟨high s (a + 1), r.ch, false, r.S, r.T, if r.pd then r.F ++ [r.dn] else r.F⟩ := by
          unfold Run.step
          simp only
          rw [hfl, if_neg hz, if_neg hz, if_neg hz, hor]
          cases r.pd <;> simp
        obtain ⟨k1, k2⟩ := ih (a + 1) (by omega) (by omega) ⟨high s (a + 1), r.ch, false, r.S, r.T, if r.pd then r.F ++ [r.dn] else r.F⟩ t rfl hsub (Int.le_refl t) he
        rw [hfront]
        refine ⟨?_, ?_⟩
        · show chk last r.dn (_ :: _) = true
          unfold chk
          rw [if_pos ⟨hlast, hfits⟩, hfl]; exact k1
        · show (List.foldl Run.step (r.step ⟨t, (a : Int), false⟩) _) = _
          rw [hstep]; exact k2
    · rw [if_neg hbit, List.nil_append] at hfront
      have hh : high s a = high s (a + 1) := by
        apply Nat.eq_of_testBit_eq
        intro j
        rw [high_bit, high_bit]
        by_cases hj : a = j
        · subst hj; simp [hbit]
        · by_cases h1 : a ≤ j
          · have h2 : a + 1 ≤ j := by omega
            simp [h1, h2]
          · have h2 : ¬ a + 1 ≤ j := by omega
            simp [h1, h2]
      rw [hfront] at hne ⊢
      rw [hh] at hdn hch
      exact ih (a + 1) (by omega) (by omega) r last hdn hch hlast hne
/-- ONE CHORD: from nothing down to nothing down; the stroke is emitted in both modes. -/
theorem run_chord (iv : Int) (i s : Nat) (h0 : s ≠ 0) (hs : s < 2 ^ 23) (hiv : 0 ≤ iv) (ht : (2 * (i : Int) + 1) * iv ≤ 999999) (r : Run) (hr : r.dn = 0 ∧ r.ch = 0) (last : Int) (hl : last ≤ 2 * (i : Int) * iv) :
    chk last 0 (chord iv i s) = true ∧ (chord iv i s).foldl Run.step r = ⟨0, 0, false, r.S ++ [s], r.T ++ [(2 * (i : Int) + 1) * iv], r.F ++ [s]⟩ := by
  have hi : 0 ≤ (i : Int) * iv := Int.mul_nonneg (by omega) hiv
  have e1 : (2 * (i : Int) + 1) * iv = 2 * ((i : Int) * iv) + iv := by rw [Int.add_mul, Int.mul_assoc, Int.one_mul]
  have e2 : 2 * (i : Int) * iv = 2 * ((i : Int) * iv) := Int.mul_assoc _ _ _
  have hmod : s % 2 ^ 23 = s := Nat.mod_eq_of_lt hs
  have hne : keysL s ≠ [] := by rw [ne_eq, keysL_zero_iff s hs]; exact h0
  obtain ⟨k1, c, p, k2, k3, k4, k5, _⟩ := run_downs s (2 * (i : Int) * iv) ⟨by omega, by omega⟩ 23 0 rfl (by decide) r last (by rw [hr.1, Nat.pow_zero, Nat.mod_one]) (by rw [hr.2]; exact sub_zero _) hl
  rw [hmod] at k2 k5
  have hc : c = s := by have := k5 (.inl hne); rw [hr.2, Nat.zero_or] at this; exact this
  have hne' : keysIn s 0 23 ≠ [] := hne
  have hp : p = true := by rw [k4, if_neg hne']
  obtain ⟨u1, u2⟩ := run_ups s hs ((2 * (i : Int) + 1) * iv) ⟨by omega, ht⟩ 23 0 rfl (by decide) ⟨s, c, p, r.S, r.T, r.F⟩ (2 * (i : Int) * iv) (high_zero s).symm (by rw [high_zero, hc]; exact fun j hj => hj) (by omega) hne
  rw [hr.1] at k1
  have hdn : (List.map (fun k : Nat => (⟨2 * (i : Int) * iv, (k : Int), true⟩ : Ev)) (keysIn s 0 23)).foldl flip 0 = s := by
    have h3 := run_dn (List.map (fun k : Nat => (⟨2 * (i : Int) * iv, (k : Int), true⟩ : Ev)) (keysIn s 0 23)) r
    rw [k2, hr.1] at h3
    exact h3.symm
  have hlast : lastT last (List.map (fun k : Nat => (⟨2 * (i : Int) * iv, (k : Int), true⟩ : Ev)) (keysIn s 0 23)) = 2 * (i : Int) * iv := by
    have key : ∀ (l : List Nat) (x : Int), l ≠ [] → lastT x (l.map (fun k : Nat => (⟨2 * (i : Int) * iv, (k : Int), true⟩ : Ev))) = 2 * (i : Int) * iv := by
      intro l
      induction l with
      | nil => intro x h; exact absurd rfl h
      | cons y l ih =>
        intro x _
        cases l with
        | nil => rfl
        | cons z l => exact ih (2 * (i : Int) * iv) (by simp)
    exact key _ _ hne
  refine ⟨?_, ?_⟩
  · unfold chord keysL
    rw [chk_append, k1, hdn, hlast]
    exact u1
  · unfold chord keysL
    rw [List.foldl_append, k2, u2, hc, hp]
    rfl
/-- The last time of a chord. -/
theorem lastT_chord (iv : Int) (i s : Nat) (h0 : s ≠ 0) (hs : s < 2 ^ 23) (last : Int) : lastT last (chord iv i s) = (2 * (i : Int) + 1) * iv := by
  have hne : keysL s ≠ [] := by rw [ne_eq, keysL_zero_iff s hs]; exact h0
  have key : ∀ (l : List Nat) (x : Int), l ≠ [] → lastT x (l.map (fun k : Nat => (⟨(2 * (i : Int) + 1) * iv, (k : Int), false⟩ : Ev))) = (2 * (i : Int) + 1) * iv := by
    intro l
    induction l with
    | nil => intro x h; exact absurd rfl h
    | cons y l ih =>
      intro x _
      cases l with
      | nil => rfl
      | cons z l => exact ih ((2 * (i : Int) + 1) * iv) (by simp)
  unfold chord lastT
  rw [List.foldl_append]
  exact key _ _ hne
/-- ALL CHORDS. -/
theorem run_chords (iv : Int) (hiv : 0 ≤ iv) : ∀ (ss : List Nat) (i : Nat) (r : Run) (last : Int), (∀ s ∈ ss, s ≠ 0 ∧ s < 2 ^ 23) → (2 * ((i : Int) + ss.length) + 1) * iv ≤ 999999 → r.dn = 0 ∧ r.ch = 0 → last ≤ 2 * (i : Int) * iv →
    chk last 0 (chordsFrom iv i ss) = true ∧ ∃ p, (chordsFrom iv i ss).foldl Run.step r = ⟨0, 0, p, r.S ++ ss, r.T ++ (List.range' i ss.length).map (fun j : Nat => (2 * (j : Int) + 1) * iv), r.F ++ ss⟩ := by
  intro ss
  induction ss with
  | nil =>
    intro i r last _ _ hr _
    refine ⟨rfl, r.pd, ?_⟩
    obtain ⟨h1, h2⟩ := hr
    show r = _
    cases r
    simp at h1 h2
    subst h1; subst h2
    simp
  | cons s ss ih =>
    intro i r last hss ht hr hl
    have hi : 0 ≤ (i : Int) * iv := Int.mul_nonneg (by omega) hiv
    have hln : 0 ≤ (ss.length : Int) * iv := Int.mul_nonneg (by omega) hiv
    have e0 : (2 * ((i : Int) + ((s :: ss).length : Nat)) + 1) * iv = 2 * ((i : Int) * iv) + 2 * ((ss.length : Int) * iv) + 3 * iv := by
      rw [List.length_cons]
      have : (2 * ((i : Int) + ((ss.length + 1 : Nat) : Int)) + 1) = 2 * (i : Int) + 2 * (ss.length : Int) + 3 := by omega
      rw [this, Int.add_mul, Int.add_mul, Int.mul_assoc, Int.mul_assoc]
    have e1 : (2 * (i : Int) + 1) * iv = 2 * ((i : Int) * iv) + iv := by rw [Int.add_mul, Int.mul_assoc, Int.one_mul]
    have e2 : 2 * ((i + 1 : Nat) : Int) * iv = 2 * ((i : Int) * iv) + 2 * iv := by
      rw [show 2 * ((i + 1 : Nat) : Int) = 2 * (i : Int) + 2 by omega, Int.add_mul, Int.mul_assoc]
    have e3 : (2 * (((i + 1 : Nat) : Int) + (ss.length : Int)) + 1) * iv = 2 * ((i : Int) * iv) + 2 * ((ss.length : Int) * iv) + 3 * iv := by
      have : (2 * (((i + 1 : Nat) : Int) + (ss.length : Int)) + 1) = 2 * (i : Int) + 2 * (ss.length : Int) + 3 := by omega
      rw [this, Int.add_mul, Int.add_mul, Int.mul_assoc, Int.mul_assoc]
    rw [e0] at ht
    obtain ⟨h0, hs⟩ := hss s List.mem_cons_self
    obtain ⟨c1, c2⟩ := run_chord iv i s h0 hs hiv (by omega) r hr last hl
    obtain ⟨d1, p, d2⟩ := ih (i + 1) ⟨0, 0, false, r.S ++ [s], r.T ++ [(2 * (i : Int) + 1) * iv], r.F ++ [s]⟩ ((2 * (i : Int) + 1) * iv) (fun x hx => hss x (List.mem_cons_of_mem _ hx)) (by rw [e3]; exact ht) ⟨rfl, rfl⟩ (by omega)
    have hdn : (chord iv i s).foldl flip 0 = 0 := by
      have h3 := run_dn (chord iv i s) r
      rw [c2, hr.1] at h3
      exact h3.symm
    refine ⟨?_, p, ?_⟩
    · unfold chordsFrom
      rw [chk_append, c1, hdn, lastT_chord iv i s h0 hs]
      exact d1
    · unfold chordsFrom
      rw [List.foldl_append, c2, d2]
      simp [List.range'_succ]
end Go.Proofs.Ytindcafdphfppaa.Pl
