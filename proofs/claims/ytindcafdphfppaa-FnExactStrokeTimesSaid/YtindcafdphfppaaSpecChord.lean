/-
  CONTRACT of the specification's ChordEvents.
-/
import Derived.Test.YtindcafdphfppaaSpecEvs
namespace Go.Proofs.Ytindcafdphfppaa
open Go.RowKit

theorem chordsFrom_append (iv : Int) (l l' : List Nat) : ∀ i, Pl.chordsFrom iv i (l ++ l') = Pl.chordsFrom iv i l ++ Pl.chordsFrom iv (i + l.length) l' := by
  induction l with
  | nil => intro i; simp [Pl.chordsFrom]
  | cons x l ih =>
    intro i
    show Pl.chord iv i x ++ Pl.chordsFrom iv (i + 1) (l ++ l') = (Pl.chord iv i x ++ Pl.chordsFrom iv (i + 1) l) ++ _
    rw [ih, List.append_assoc, List.length_cons, show i + 1 + l.length = i + (l.length + 1) by omega]
theorem chordsFrom_one (iv : Int) (i s : Nat) : Pl.chordsFrom iv i [s] = Pl.chord iv i s := by simp [Pl.chordsFrom]
/-- The strokes that the ints are. -/
def toNats (xs : List Int) : List Nat := xs.map Int.toNat
/-- Do the strokes and the interval give events? -/
def chordB (xs : List Int) (iv : Int) : Bool := (decide (0 ≤ iv) && decide (iv ≤ 1000)) && (xs.all okS && decide ((Pl.chordsFrom iv 0 (toNats xs)).length ≤ 200))
def chordL (xs : List Int) (iv : Int) : List Pl.Ev := if chordB xs iv = true then Pl.chordsFrom iv 0 (toNats xs) else []
theorem toNats_take (xs : List Int) (k : Nat) (x : Int) (h : xs[k]? = some x) : toNats (xs.take (k + 1)) = toNats (xs.take k) ++ [x.toNat] := by
  unfold toNats; rw [List.take_add_one, h, List.map_append]; rfl
theorem toNats_len (xs : List Int) (k : Nat) (h : k ≤ xs.length) : (toNats (xs.take k)).length = k := by unfold toNats; rw [List.length_map, List.length_take]; omega
theorem chord_take (xs : List Int) (iv : Int) (k : Nat) (x : Int) (h : xs[k]? = some x) : Pl.chordsFrom iv 0 (toNats (xs.take (k + 1))) = Pl.chordsFrom iv 0 (toNats (xs.take k)) ++ Pl.chord iv k x.toNat := by
  have hk := (List.getElem?_eq_some_iff.1 h).1
  rw [toNats_take xs k x h, chordsFrom_append, chordsFrom_one, toNats_len xs k (by omega), Nat.zero_add]
theorem chord_mono (xs : List Int) (iv : Int) (k : Nat) : (Pl.chordsFrom iv 0 (toNats (xs.take k))).length ≤ (Pl.chordsFrom iv 0 (toNats xs)).length := by
  have e : toNats xs = toNats (xs.take k) ++ toNats (xs.drop k) := by unfold toNats; rw [← List.map_append, List.take_append_drop]
  rw [e, chordsFrom_append, List.length_append]; omega
theorem chordB_no_iv {xs : List Int} {iv : Int} (h : ¬ (0 ≤ iv ∧ iv ≤ 1000)) : chordB xs iv = false := by
  unfold chordB
  rw [show (decide (0 ≤ iv) && decide (iv ≤ 1000)) = false by simp; omega]; rfl
theorem chordB_no_ok {xs : List Int} {iv : Int} {k : Nat} {x : Int} (h : xs[k]? = some x) (hx : okS x = false) : chordB xs iv = false := by
  unfold chordB
  have : xs.all okS = false := by
    rw [List.all_eq_false]; exact ⟨x, List.mem_of_getElem? h, by rw [hx]; decide⟩
  rw [this]; simp
theorem chordB_no_len {xs : List Int} {iv : Int} {k : Nat} (h : 200 < (Pl.chordsFrom iv 0 (toNats (xs.take k))).length) : chordB xs iv = false := by
  unfold chordB
  have := chord_mono xs iv k
  rw [show decide ((Pl.chordsFrom iv 0 (toNats xs)).length ≤ 200) = false by simp; omega]; simp
theorem chordB_yes {xs : List Int} {iv : Int} (h0 : 0 ≤ iv ∧ iv ≤ 1000) (h1 : ∀ x ∈ xs, okS x = true) (h2 : (Pl.chordsFrom iv 0 (toNats xs)).length ≤ 200) : chordB xs iv = true := by
  unfold chordB
  rw [show (decide (0 ≤ iv) && decide (iv ≤ 1000)) = true by simp; omega, List.all_eq_true.2 h1]; simp; exact h2

/-- What ChordEvents answers. -/
def ChordE (w' : World) (xs : List Int) (iv : Int) (e : Ending) : Prop := ∃ u, e = .returned (.tuple #[u, .bool (chordB xs iv)]) ∧ EvsAt w' u (chordL xs iv)
theorem chordE_no {xs : List Int} {iv : Int} (h : chordB xs iv = false) (w : World) (a : Option Addr) (cap : Nat) : ChordE w xs iv (.returned (.tuple #[.slice a 0 cap, .bool false])) := by
  have hL : chordL xs iv = [] := by unfold chordL; rw [h]; rfl
  unfold ChordE
  rw [h, hL]; exact ⟨_, rfl, EvsAt.nil _ _ _⟩
theorem chordE_yes {xs : List Int} {iv : Int} (h : chordB xs iv = true) {w : World} {u : Value} (hu : EvsAt w u (Pl.chordsFrom iv 0 (toNats xs))) : ChordE w xs iv (.returned (.tuple #[u, .bool true])) := by
  have hL : chordL xs iv = Pl.chordsFrom iv 0 (toNats xs) := by unfold chordL; rw [h]; rfl
  unfold ChordE
  rw [h, hL]; exact ⟨_, rfl, hu⟩
/-- The cells of events. -/
def evCells (E : List Pl.Ev) : List Value := E.flatMap fun e => [.int .i64 e.t, .int .i64 e.k, .bool e.d]
theorem evCells_snoc (E : List Pl.Ev) (e : Pl.Ev) : evCells (E ++ [e]) = evCells E ++ [.int .i64 e.t, .int .i64 e.k, .bool e.d] := by unfold evCells; rw [List.flatMap_append]; rfl
theorem evCells_len (E : List Pl.Ev) : (evCells E).length = E.length * 3 := by
  induction E with
  | nil => rfl
  | cons e E ih =>
    show ([.int .i64 e.t, .int .i64 e.k, .bool e.d] ++ evCells E : List Value).length = _
    rw [List.length_append, ih, List.length_cons]; simp; omega
theorem evCells_at (E : List Pl.Ev) : ∀ (j : Nat) (e : Pl.Ev), E[j]? = some e → (evCells E)[j * 3]? = some (.int .i64 e.t) ∧ (evCells E)[j * 3 + 1]? = some (.int .i64 e.k) ∧ (evCells E)[j * 3 + 2]? = some (.bool e.d) := by
  induction E with
  | nil => intro j e h; simp at h
  | cons x E ih =>
    intro j e h
    have hx : evCells (x :: E) = .int .i64 x.t :: .int .i64 x.k :: .bool x.d :: evCells E := rfl
    rw [hx]
    cases j with
    | zero => simp at h; subst h; exact ⟨rfl, rfl, rfl⟩
    | succ j =>
      obtain ⟨h0, h1, h2⟩ := ih j e (by simpa using h)
      rw [show (j + 1) * 3 = j * 3 + 1 + 1 + 1 by omega]
      exact ⟨h0, h1, h2⟩
/-- An own row of events. -/
abbrev OwnE (w : World) (base : Nat) (v : Value) (E : List Pl.Ev) : Prop := w.ownsRow base 31 3 v E.length (evCells E)
theorem ownE_at {w : World} {base : Nat} {v : Value} {E : List Pl.Ev} (h : OwnE w base v E) : EvsAt w v E := by
  rcases h.2 with ⟨rfl, h0⟩ | ⟨g, cap, cur, rfl, _, hg, hn, _, hsz, htake⟩
  · have : E = [] := List.length_eq_zero_iff.1 h0
    subst this
    exact EvsAt.nil _ _ _
  · have hlt : g < w.heap.size := (Array.getElem?_eq_some_iff.1 hg).1
    refine ⟨_, cap, rfl, hn, .inr ⟨g, 0, rfl, hlt, fun j e he => ?_⟩⟩
    have hj : j < E.length := by
      rcases Nat.lt_or_ge j E.length with h' | h'
      · exact h'
      · rw [List.getElem?_eq_none h'] at he; cases he
    obtain ⟨h0, h1, h2⟩ := evCells_at E j e he
    have hc : ∀ q x, (evCells E)[q]? = some x → w.cell? ⟨g, q, none⟩ = some x := by
      intro q x hq
      have hql : q < E.length * 3 := by
        rcases Nat.lt_or_ge q (E.length * 3) with h' | h'
        · exact h'
        · rw [List.getElem?_eq_none (by rw [evCells_len]; exact h')] at hq; cases hq
      rw [← htake, List.getElem?_take_of_lt hql] at hq
      simp only [Array.getElem?_toList] at hq
      simp [World.cell?, hg, hq]
    rw [Nat.zero_add]
    exact ⟨hc _ _ h0, hc _ _ h1, hc _ _ h2⟩
theorem ownE_new (w : World) : OwnE (w.alloc (.cells #[] 31)) w.heap.size (.slice (some ⟨w.heap.size, 0, none⟩) 0 0) [] :=
  ⟨rfl, .inr ⟨w.heap.size, 0, #[], rfl, Nat.le_refl _, by show (w.heap.push _)[w.heap.size]? = _; simp, Nat.le_refl _, by decide, rfl, rfl⟩⟩
theorem cell_three_new (w : World) (x y z : Value) (t : TypeId) : ∀ j u, [x, y, z][j]? = some u → (w.alloc (.cells #[x, y, z] t)).cell? ((⟨w.heap.size, 0, none⟩ : Addr).add j) = some u := by
  intro j u hj
  match j, hj with
  | 0, hj => simp at hj; subst hj; simp [Addr.add]
  | 1, hj => simp at hj; subst hj; simp [Addr.add]
  | 2, hj => simp at hj; subst hj; simp [Addr.add]
  | j + 3, hj => simp at hj

/-- The events of a phase, of the first q keys. -/
def phaseEv (iv : Int) (k n p q : Nat) : List Pl.Ev := ((Pl.keysL n).take q).map fun j : Nat => (⟨(2 * (k : Int) + (p : Int)) * iv, (j : Int), (p : Int) == 0⟩ : Pl.Ev)
theorem phaseEv_next (iv : Int) (k n p q : Nat) (j : Nat) (h : (Pl.keysL n)[q]? = some j) : phaseEv iv k n p (q + 1) = phaseEv iv k n p q ++ [⟨(2 * (k : Int) + (p : Int)) * iv, (j : Int), (p : Int) == 0⟩] := by
  unfold phaseEv; rw [List.take_add_one, h, List.map_append]; rfl
theorem phaseEv_zero (iv : Int) (k n p : Nat) : phaseEv iv k n p 0 = [] := by unfold phaseEv; simp
theorem phaseEv_len (iv : Int) (k n p q : Nat) : (phaseEv iv k n p q).length ≤ Pl.card n := by unfold phaseEv; rw [List.length_map, List.length_take]; exact Nat.min_le_right _ _
/-- The events of the phases before p. -/
def phases (iv : Int) (k n : Nat) : Nat → List Pl.Ev
  | 0 => []
  | p + 1 => phases iv k n p ++ phaseEv iv k n p (Pl.card n)
theorem phases_len (iv : Int) (k n : Nat) : ∀ p, (phases iv k n p).length ≤ p * Pl.card n
  | 0 => Nat.zero_le _
  | p + 1 => by
    have h1 := phases_len iv k n p
    have h2 := phaseEv_len iv k n p (Pl.card n)
    show (phases iv k n p ++ phaseEv iv k n p (Pl.card n)).length ≤ _
    rw [List.length_append, Nat.add_mul, Nat.one_mul]; omega
theorem phases_chord (iv : Int) (k n : Nat) : phases iv k n 2 = Pl.chord iv k n := by
  show (([] ++ phaseEv iv k n 0 (Pl.card n)) ++ phaseEv iv k n 1 (Pl.card n)) = _
  have e : (Pl.keysL n).take (Pl.card n) = Pl.keysL n := List.take_of_length_le (Nat.le_refl _)
  unfold phaseEv Pl.chord
  rw [e, List.nil_append]
  congr 1
theorem time_bound (k p : Nat) (iv : Int) (hk : k ≤ 100) (hp : p ≤ 1) (h0 : 0 ≤ iv) (h1 : iv ≤ 1000) : 0 ≤ (2 * (k : Int) + (p : Int)) * iv ∧ (2 * (k : Int) + (p : Int)) * iv ≤ 999999 := by
  refine ⟨Int.mul_nonneg (by omega) h0, ?_⟩
  have : (2 * (k : Int) + (p : Int)) * iv ≤ 201 * 1000 := Int.mul_le_mul (by omega) h1 h0 (by omega)
  omega

set_option maxHeartbeats 4000000 in
theorem specChord_any (v : Value) (xs : List Int) (iv : Int) (w : World) (h : IntsAt w v xs) (hn : xs.length ≤ 2097152) :
    Calls Try.prog 14 #[v, .int .i64 iv] w fun e w' => ChordE w' xs iv e ∧ Below w.heap.size w w' := by
  obtain ⟨a, cap, rfl, hcap, hx⟩ := h
  obtain ⟨N, hN⟩ : ∃ N, N = xs.length := ⟨_, rfl⟩
  rw [← hN] at hn hcap ⊢
  have HN := Lib.hid hN
  have CI := Lib.hid (fun k a b w => l1In_any k a b w)
  by_cases hiv : 0 ≤ iv ∧ iv ≤ 1000
  · have c := fun w => CI.out iv 0 1000 w
    rw [show (decide (0 ≤ iv) && decide (iv ≤ 1000)) = true by simp; omega] at c
    have C := Lib.hid c
    have CG := Lib.hid (fun s w => l2Good_any s w)
    have CK := Lib.hid (fun m hm w => l2Keys_any m hm w)
    obtain ⟨iE, hiE, hE0, hE1, hE2⟩ := info_parts infoEv
    have HV : Hid (∀ w1 : World, Below w.heap.size w w1 → ∀ (j : Nat) x, xs[j]? = some x → ∃ bk o, a = some ⟨bk, o, none⟩ ∧ w1.cell? ⟨bk, o + j, none⟩ = some (.int .i64 x)) := by
      intro w1 hb j x hxj
      rcases hx with h | ⟨bk, o, ha, hk, h⟩
      · rw [h] at hxj; simp at hxj
      · exact ⟨bk, o, ha, (hb.cell (p := ⟨bk, o + j, none⟩) hk).trans (h j x hxj)⟩
    obtain ⟨hiv0, hiv1⟩ := hiv
    clear c hx hN
    go_enter Try.func14, Try.ntmps14
    go_wp2_with fail
    refine (C.out _).mono ?_
    rintro e w1 ⟨rfl, rfl⟩
    go_wp2_with fail
    go_loopw [6, 7] (fun o i wr => ∃ (k : Nat) (E : List Pl.Ev), i = .int .i64 k ∧ k ≤ N ∧ 2 * k ≤ E.length ∧ E.length ≤ 200 ∧ Hid (E = Pl.chordsFrom iv 0 (toNats (xs.take k))) ∧ Hid (∀ x ∈ xs.take k, okS x = true) ∧
      Hid (OwnE wr w.heap.size o E) ∧ Below w.heap.size w wr) (fun _ i _ => N - (intOf i).toNat)
    case atStart => exact ⟨0, [], rfl, Nat.zero_le _, Nat.le_refl _, Nat.zero_le _, Lib.hid rfl, fun x hx => by simp at hx, ownE_new w, (Below.refl _ _).alloc (Nat.le_refl _) _⟩
    case round =>
      obtain ⟨k, E, rfl, hk, hkE, hE, HE, HOk, HO, hbel⟩ := hrel
      by_cases hlt : k < N
      · obtain ⟨x, hx⟩ : ∃ x, xs[k]? = some x := ⟨_, List.getElem?_eq_getElem (by rw [← HN.out]; exact hlt)⟩
        obtain ⟨bk, o, rfl, hck⟩ := HV.out wr hbel k x hx
        obtain ⟨⟨eg, ecap, hov⟩, _⟩ : (∃ eg ecap, u6 = .slice eg E.length ecap) ∧ True := by
          refine ⟨?_, trivial⟩
          rcases HO.out.2 with ⟨h1, h2⟩ | ⟨g, cp, cur, h1, _⟩
          · exact ⟨none, 0, by rw [h1, h2]⟩
          · exact ⟨_, cp, h1⟩
        rw [hov] at HO ⊢
        cases hok : okS x
        · have HB : Hid (chordB xs iv = false) := chordB_no_ok hx hok
          have c := fun w => CG.out x w
          rw [hok] at c
          have C1 := Lib.hid c
          clear c hx hok HE HOk
          go_wp2_with fail
          refine (C1.out _).mono ?_
          rintro r w1 ⟨rfl, rfl⟩
          go_wp2
          go_ret2
          exact ⟨chordE_no HB.out _ _ _, hbel.alloc hbel.size _⟩
        · have hxv := okS_iff.1 hok
          obtain ⟨n, rfl⟩ := Int.eq_ofNat_of_zero_le (show 0 ≤ x by omega)
          have hn0 : 1 ≤ n := by omega
          have hn1 : n < 8388608 := by omega
          have c := fun w => CG.out (n : Int) w
          rw [hok] at c
          have C1 := Lib.hid c
          have hET := chord_take xs iv k _ hx
          rw [← HE.out, Int.toNat_natCast] at hET
          have hcl := Pl.chord_len iv k n
          have hcard := Pl.card_le n
          have hc1 : 1 ≤ Pl.card n := by
            rcases Nat.eq_zero_or_pos (Pl.card n) with h | h
            · exfalso
              have := (Pl.keysL_zero_iff n hn1).1 (List.length_eq_zero_iff.1 h)
              omega
            · exact h
          have HOk2 : Hid (∀ x ∈ xs.take (k + 1), okS x = true) := by
            intro y hy
            rw [List.take_add_one, hx, List.mem_append] at hy
            rcases hy with hy | hy
            · exact HOk.out y hy
            · simp at hy; subst hy; exact hok
          have ck := fun w => CK.out n hn1 w
          have hkl := keysI_len n
          obtain ⟨K, hK⟩ : ∃ K, K = Pl.card n := ⟨_, rfl⟩
          rw [← hK] at hcl hcard hc1 hkl
          have HK := Lib.hid hK
          have CK2 := Lib.hid ck
          have HXK := Lib.hid hx
          have HKL := Lib.hid hkl
          have HET := Lib.hid hET
          clear c ck hK hkl hET hx hok hxv HE HOk
          go_wp2_with fail
          refine (C1.out _).mono ?_
          rintro r w1 ⟨rfl, rfl⟩
          go_wp2_with fail
          refine (CK2.out _).mono ?_
          rintro r w1 ⟨⟨v1, rfl, hv1⟩, hb1⟩
          obtain ⟨a1, cap1, rfl, hcap1, _⟩ := rowInts_at hv1
          have hb1' := hbel.trans (hb1.mono hbel.size)
          have HO1 := Lib.hid (row_below HO.out hb1)
          obtain ⟨bk2, o2, hbk2, hck2⟩ := HV.out w1 hb1' k _ HXK.out
          obtain ⟨rfl, rfl⟩ : bk2 = bk ∧ o2 = o := by injection hbk2 with h; injection h; exact ⟨by omega, by omega⟩
          rw [HKL.out] at hcap1 ⊢
          clear hv1 HO hb1 hbk2
          by_cases hbig : 200 < E.length + 2 * K
          · have HB : Hid (chordB xs iv = false) := chordB_no_len (k := k + 1) (by rw [HET.out, List.length_append, hcl]; exact hbig)
            have hbig' : (200 : Int) < (E.length : Int) + 2 * (K : Int) := by omega
            go_wp2
            go_ret2
            exact ⟨chordE_no HB.out _ _ _, hb1'.alloc hb1'.size _⟩
          · have hbig' : ¬ (200 : Int) < (E.length : Int) + 2 * (K : Int) := by omega
            go_wp2_with fail
            refine (CK2.out _).mono ?_
            rintro r w2 ⟨⟨v2, rfl, hv2⟩, hb2⟩
            have hb2' := hb1'.trans (hb2.mono hb1'.size)
            have HO2 := Lib.hid (row_below HO1.out hb2)
            have HV2 := Lib.hid hv2
            have hX2 : (Value.slice eg E.length ecap).ownBlock ≠ v2.ownBlock := by
              intro e
              cases hx : (Value.slice eg E.length ecap).ownBlock with
              | none =>
                rw [hx] at e
                rcases hv2.2 with ⟨h1, h2⟩ | ⟨g, cp, cur, h1, _⟩
                · rw [HKL.out] at h2; omega
                · rw [h1] at e; simp [Value.ownBlock] at e
              | some g =>
                have h1 := row_lt HO1.out hx
                rw [hx] at e
                have h2 := row_ge hv2 e.symm
                omega
            have HX2 := Lib.hid hX2
            obtain ⟨a2, cap2, rfl, hcap2, _⟩ := rowInts_at hv2
            rw [HKL.out] at hcap2 ⊢
            have HW1 := Lib.hid hb1'
            clear hv2 hX2 hb2 hb1' HO1
            go_wp2_with fail
            go_loopw [6, 9] (fun o ph wr => ∃ (p : Nat) (F : List Pl.Ev), ph = .int .i64 p ∧ p ≤ 2 ∧ F.length ≤ 200 ∧ Hid (F = E ++ phases iv k n p) ∧ Hid (OwnE wr w.heap.size o F) ∧
              Hid (wr.ownsRow w.heap.size 3 1 (.slice a2 K cap2) K ((keysI n).map (.int .i64))) ∧ Hid (o.ownBlock ≠ (Value.slice a2 K cap2).ownBlock) ∧ Below w.heap.size w wr) (fun _ ph _ => 2 - (intOf ph).toNat)
            case atStart =>
              refine ⟨0, E, rfl, by omega, hE, ?_, HO2, ?_, ?_, hb2'⟩
              · show E = _; exact (List.append_nil E).symm
              · have h := HV2.out
                rw [HKL.out] at h
                show World.ownsRow _ _ _ _ _ _ _
                refine ⟨h.1, ?_⟩
                rcases h.2 with h1 | ⟨g, cp, cur, h1, h2, h3⟩
                · exact .inl h1
                · exact .inr ⟨g, cp, cur, h1, by have := HW1.out.size; omega, h3⟩
              · rw [HKL.out] at HX2; exact HX2
            case round =>
              obtain ⟨p, F, rfl, hp, hF, HF, HOF, HKey, HXK2, hbelp⟩ := hrel
              have hFl : F.length ≤ E.length + p * K := by
                have h1 := phases_len iv k n p
                rw [← HK.out] at h1
                rw [HF.out, List.length_append]; omega
              by_cases hp2 : p < 2
              · have hTb := time_bound k p iv (by omega) (by omega) hiv0 hiv1
                have hpl : (p : Int) < 2 := by omega
                have hFl2 : F.length ≤ E.length + K := by
                  have : p * K ≤ 1 * K := Nat.mul_le_mul_right K (by omega)
                  omega
                obtain ⟨d, hd⟩ : ∃ d, ((p : Int) == 0) = d := ⟨_, rfl⟩
                have HD := Lib.hid hd
                clear hFl
                go_wp2_with fail
                go_loopw [6, 10] (fun o j wr => ∃ q : Nat, j = .int .i64 q ∧ q ≤ K ∧ Hid (OwnE wr w.heap.size o (F ++ phaseEv iv k n p q)) ∧
                  Hid (wr.ownsRow w.heap.size 3 1 (.slice a2 K cap2) K ((keysI n).map (.int .i64))) ∧ Hid (o.ownBlock ≠ (Value.slice a2 K cap2).ownBlock) ∧ Below w.heap.size w wr) (fun _ j _ => K - (intOf j).toNat)
                case atStart => exact ⟨0, rfl, Nat.zero_le _, by rw [phaseEv_zero, List.append_nil]; exact HOF, HKey, HXK2, hbelp⟩
                case round =>
                  obtain ⟨q, rfl, hq, HOq, HKq, HXq, hbelq⟩ := hrel
                  by_cases hqK : q < K
                  · obtain ⟨j, hj⟩ : ∃ j, (Pl.keysL n)[q]? = some j := ⟨_, List.getElem?_eq_getElem (by have := HK.out; unfold Pl.card at this; omega)⟩
                    have hji : (keysI n)[q]? = some (j : Int) := by unfold keysI; rw [List.getElem?_map, hj]; rfl
                    obtain ⟨a', cap', hv', _, hc'⟩ := rowInts_at (xs := keysI n) (v := .slice a2 K cap2) (by rw [HKL.out]; exact HKq.out)
                    obtain ⟨kb, ko, rfl, hkb, hkc⟩ : ∃ kb ko, a2 = some ⟨kb, ko, none⟩ ∧ True ∧ wr.cell? ⟨kb, ko + q, none⟩ = some (.int .i64 (j : Int)) := by
                      rcases hc' with h | ⟨kb, ko, ha, _, h⟩
                      · rw [h] at hji; simp at hji
                      · injection hv' with h1 h2 h3
                        exact ⟨kb, ko, by rw [h1, ha], trivial, h q _ hji⟩
                    have HNext := Lib.hid (phaseEv_next iv k n p q j hj)
                    have hlen : (F ++ phaseEv iv k n p q).length ≤ 300 := by
                      have := phaseEv_len iv k n p q
                      rw [List.length_append]; rw [← HK.out] at this; omega
                    have hown := HOq.out
                    have hszq := hbelq.size
                    clear hj hji hv' hc' hkb
                    go_wp2_with (at_builtin; refine wpList_append_own_at _ rfl _ _ 27 rfl w.heap.size 31 iE (.agg #[.int .i64 0, .int .i64 0, .bool false]) 3 24 Try.underlying27 hiE hE0 hE1 hE2 rfl (by decide) _ _ _ rfl (hown.alloc _) ⟨wr.heap.size, 0, none⟩ 1 1 [.int .i64 ((2 * (k : Int) + (p : Int)) * iv), .int .i64 (j : Int), .bool d] rfl rfl ?c1 ?c2 ?c3 ?c4 ?c5 ?_)
                    case c1 => exact cell_three_new _ _ _ _ _
                    case c2 =>
                      intro y hy
                      simp only [List.mem_cons, List.not_mem_nil, or_false] at hy
                      rcases hy with rfl | rfl | rfl <;> rfl
                    case c3 => unfold maxLen; omega
                    case c4 => omega
                    case c5 => simp; omega
                    intro v' w3 hown' hgrow _ hat
                    have HO3 : Hid (OwnE w3 w.heap.size v' (F ++ phaseEv iv k n p (q + 1))) := by
                      show World.ownsRow _ _ _ _ _ _ _
                      rw [HNext.out, ← List.append_assoc, evCells_snoc, List.length_append, HD.out, List.length_append]
                      exact hown'
                    have HK3 : Hid (w3.ownsRow w.heap.size 3 1 (.slice (some ⟨kb, ko, none⟩) K cap2) K ((keysI n).map (.int .i64))) := by
                      refine (HKq.out.alloc _).kept hgrow (.inr ?_)
                      exact fun e => HXq.out e.symm
                    have HX3 : Hid (v'.ownBlock ≠ (Value.slice (some ⟨kb, ko, none⟩) K cap2).ownBlock) := by
                      rcases hat with h | h
                      · rw [h]; exact HXq.out
                      · rw [h]
                        intro e
                        have := row_lt HKq.out e.symm
                        first | omega | (simp at this; omega)
                    have HB3 : Hid (Below w.heap.size w w3) := (hbelq.alloc hszq _).grown hgrow (by simp; omega) fun j hj => row_ge hown hj
                    clear hown hown' hgrow hat HOq HKq HXq
                    go_wp2
                    go_roundw
                    case rel => exact ⟨q + 1, by go_num, by omega, HO3, HK3, HX3, HB3.out⟩
                    case measure => simp [intOf]; omega
                  · obtain rfl : q = K := by omega
                    have HF2 : Hid (F ++ phaseEv iv k n p q = E ++ phases iv k n (p + 1)) := by
                      show _ = _
                      rw [HF.out, HK.out, List.append_assoc]; rfl
                    have hF2 : (F ++ phaseEv iv k n p q).length ≤ 200 := by
                      have h1 := phases_len iv k n (p + 1)
                      rw [← HK.out] at h1
                      have h2 : (p + 1) * q ≤ 2 * q := Nat.mul_le_mul_right q (by omega)
                      rw [HF2.out, List.length_append]; omega
                    clear HF HKey HXK2 HOF
                    go_wp2
                    go_roundw
                    case rel => exact ⟨p + 1, F ++ phaseEv iv k n p q, by go_num, by omega, hF2, HF2, HOq, HKq, HXq, hbelq⟩
                    case measure => simp [intOf]; omega
              · obtain rfl : p = 2 := by omega
                have HE3 : Hid (F = Pl.chordsFrom iv 0 (toNats (xs.take (k + 1)))) := by
                  show F = _
                  rw [HF.out, phases_chord, HET.out]
                have hFl3 : F.length = E.length + 2 * K := by rw [HE3.out, HET.out, List.length_append, hcl]
                clear HF HKey HXK2
                go_wp2
                go_roundw
                case rel => exact ⟨k + 1, F, by go_num, by omega, by omega, by omega, HE3, HOk2, HOF, hbelp⟩
                case measure => simp [intOf]; omega
      · obtain rfl : k = N := by omega
        have etake : xs.take k = xs := List.take_of_length_le (by rw [← HN.out]; exact Nat.le_refl _)
        have h1 := HE.out
        have h2 := HOk.out
        rw [etake] at h1 h2
        have hB := chordB_yes (xs := xs) ⟨hiv0, hiv1⟩ h2 (by rw [← h1]; exact hE)
        have hEv := ownE_at HO.out
        have HX := Lib.hid (chordE_yes hB (w := wr) (u := u6) (by rw [← h1]; exact hEv))
        clear HE HOk HO etake h1 h2 hB hEv
        go_wp2
        go_ret2
        exact ⟨HX.out, hbel⟩
  · have c := fun w => CI.out iv 0 1000 w
    rw [show (decide (0 ≤ iv) && decide (iv ≤ 1000)) = false by simp; omega] at c
    have C := Lib.hid c
    have hB := chordB_no_iv (xs := xs) hiv
    have HB := Lib.hid hB
    clear c hx hN hiv hB
    go_enter Try.func14, Try.ntmps14
    go_wp2_with fail
    refine (C.out _).mono ?_
    rintro e w1 ⟨rfl, rfl⟩
    go_wp2
    go_ret2
    exact ⟨chordE_no HB.out _ _ _, (Below.refl _ _).alloc (Nat.le_refl _) _⟩
end Go.Proofs.Ytindcafdphfppaa
