/-
  CONTRACTS of reading relaxed notation: the program's strokeReader and ParseLooseStroke; the specification's l2Loose and ParseLooseStroke.
-/
import Derived.Test.YtkhklidpighmpaaNota
import Derived.Lib.Bytealg
namespace Go.Proofs.Ytkhklidpighmpaa
set_option maxRecDepth 100000
open Go.RowKit

/-- The search for a label, as the library's IndexByte answers. -/
theorem find_index (c : UInt8) : ∀ (d f : Nat), 23 - f = d → f ≤ 23 → Lib.indexByte (Pl.lab.drop f) c = match Pl.find f c with | none => -1 | some k => (k : Int) - f := by
  intro d
  induction d with
  | zero =>
    intro f hd hf
    obtain rfl : f = 23 := by omega
    rw [Pl.find_end 23 c (Nat.le_refl _)]
    rfl
  | succ d ih =>
    intro f hd hf
    have hlt : f < Pl.lab.length := by show f < 23; omega
    have hlab : Pl.lab[f] = Pl.labK f := by unfold Pl.labK; rw [List.getD_eq_getElem?_getD, List.getElem?_eq_getElem hlt]; rfl
    rw [List.drop_eq_getElem_cons hlt, hlab, Pl.find_at f c (by omega)]
    unfold Lib.indexByte
    rw [ih (f + 1) (by omega) (by omega)]
    by_cases e : Pl.labK f = c
    · simp [e]
    · have e' : (Pl.labK f == c) = false := by simp [e]
      rw [if_neg (by simp [e']), if_neg e]
      cases hf' : Pl.find (f + 1) c with
      | none => rfl
      | some k =>
        have := (Pl.find_some hf').1
        simp only
        rw [if_neg (by simp; omega)]
        omega
theorem lab_tail_fin : ∀ f : Fin 24, (labB.extract f.1 23).data.toList = Pl.lab.drop f.1 := by decide +kernel
theorem lab_tail (f : Nat) (h : f ≤ 23) : (labB.extract f 23).data.toList = Pl.lab.drop f := lab_tail_fin ⟨f, by omega⟩

/-- The reader in block R. -/
def Rd (w : World) (R : Nat) (st : Pl.St) : Prop :=
  R < w.heap.size ∧ w.cell? ⟨R, 0, none⟩ = some (.int .i64 st.s) ∧ w.cell? ⟨R, 1, none⟩ = some (.int .i64 st.f) ∧ w.cell? ⟨R, 2, none⟩ = some (.bool st.h) ∧ ∀ j, w.frozen? ⟨R, j, none⟩ = false
theorem Rd.set0 {w : World} {R : Nat} {st : Pl.St} (h : Rd w R st) (s : Nat) : Rd (w.setCell ⟨R, 0, none⟩ (.int .i64 s)) R ⟨s, st.f, st.h⟩ := by
  obtain ⟨h0, h1, h2, h3, h4⟩ := h
  refine ⟨by rw [World.size_setCell]; exact h0, World.cell?_setCell_same _ _ _ h1, ?_, ?_, fun j => by rw [World.frozen?_setCell]; exact h4 j⟩
  · rw [World.cell?_setCell_other _ _ _ _ (by intro e; injection e; omega)]; exact h2
  · rw [World.cell?_setCell_other _ _ _ _ (by intro e; injection e; omega)]; exact h3
theorem Rd.set1 {w : World} {R : Nat} {st : Pl.St} (h : Rd w R st) (f : Nat) : Rd (w.setCell ⟨R, 1, none⟩ (.int .i64 f)) R ⟨st.s, f, st.h⟩ := by
  obtain ⟨h0, h1, h2, h3, h4⟩ := h
  refine ⟨by rw [World.size_setCell]; exact h0, ?_, World.cell?_setCell_same _ _ _ h2, ?_, fun j => by rw [World.frozen?_setCell]; exact h4 j⟩
  · rw [World.cell?_setCell_other _ _ _ _ (by intro e; injection e; omega)]; exact h1
  · rw [World.cell?_setCell_other _ _ _ _ (by intro e; injection e; omega)]; exact h3
theorem Rd.set2 {w : World} {R : Nat} {st : Pl.St} (h : Rd w R st) (y : Bool) : Rd (w.setCell ⟨R, 2, none⟩ (.bool y)) R ⟨st.s, st.f, y⟩ := by
  obtain ⟨h0, h1, h2, h3, h4⟩ := h
  refine ⟨by rw [World.size_setCell]; exact h0, ?_, ?_, World.cell?_setCell_same _ _ _ h3, fun j => by rw [World.frozen?_setCell]; exact h4 j⟩
  · rw [World.cell?_setCell_other _ _ _ _ (by intro e; injection e; omega)]; exact h1
  · rw [World.cell?_setCell_other _ _ _ _ (by intro e; injection e; omega)]; exact h2
theorem Rd.drewN {w : World} {R : Nat} {st : Pl.St} (h : Rd w R st) (k : Nat) : Rd (w.drewN k) R st := h

theorem readHyphen_no (R : Nat) (st : Pl.St) (w : World) (h : Rd w R st) (hno : st.h = true ∨ 13 < st.f) :
    Calls Try.prog 83 #[.pointer (some ⟨R, 0, none⟩)] w fun e w' => e = .returned (.bool false) ∧ Below R w w' := by
  obtain ⟨s, f, y⟩ := st
  obtain ⟨h0, h1, h2, h3, h4⟩ := h
  simp only at h1 h2 h3 hno
  clear h4
  cases y
  · have hf' : (13 : Int) < (f : Int) := by rcases hno with h | h; cases h; omega
    clear hno
    go_enter Try.func83, Try.ntmps83
    go_wp2
    go_ret
    exact ⟨rfl, Below.refl _ _⟩
  · clear hno
    go_enter Try.func83, Try.ntmps83
    go_wp2
    go_ret
    exact ⟨rfl, Below.refl _ _⟩
theorem readHyphen_yes (R : Nat) (st : Pl.St) (w : World) (h : Rd w R st) (hy : st.h = false) (hf : st.f ≤ 13) :
    Calls Try.prog 83 #[.pointer (some ⟨R, 0, none⟩)] w fun e w' => e = .returned (.bool true) ∧ Rd w' R ⟨st.s, 13, true⟩ ∧ Below R w w' := by
  have HR := Lib.hid h
  obtain ⟨s, f, y⟩ := st
  obtain ⟨h0, h1, h2, h3, h4⟩ := h
  simp only at h1 h2 h3 hy hf
  subst hy
  have f1 := h4 1
  have f2 := h4 2
  have hf' : ¬ (13 : Int) < (f : Int) := by omega
  clear h4
  go_enter Try.func83, Try.ntmps83
  go_wp2
  go_ret
  exact ⟨rfl, (HR.out.set2 true).set1 13, ((Below.refl R w).setCell (p := ⟨R, 2, none⟩) (Nat.le_refl R) _).setCell (p := ⟨R, 1, none⟩) (Nat.le_refl R) _⟩
theorem readLabel_no (R : Nat) (st : Pl.St) (c : UInt8) (z : Int) (hz : (c.toNat : Int) = z) (w : World) (h : Rd w R st) (hF : st.f ≤ 23) (hno : Pl.find st.f c = none) :
    Calls Try.prog 84 #[.pointer (some ⟨R, 0, none⟩), .int .u8 z] w fun e w' => e = .returned (.bool false) ∧ Below R w w' := by
  obtain ⟨s, f, y⟩ := st
  obtain ⟨h0, h1, h2, h3, h4⟩ := h
  simp only at h1 h2 h3 hF hno
  have hi := find_index c _ f rfl hF
  rw [hno] at hi
  have C : Hid (∀ w, Calls Try.prog 89 #[.string (labB.extract f 23), .int .u8 z] w fun e w' => e = .returned (.int .i64 (-1)) ∧ w' = w) := by
    intro w
    have := Try.strings_IndexByte (labB.extract f 23) z w
    rw [lab_tail f hF, show z.toNat.toUInt8 = c by rw [← hz, Int.toNat_natCast]; exact UInt8.ofNat_toNat, hi] at this
    exact this
  have hsz := labB_size
  clear h4 hi hno
  go_enter Try.func84, Try.ntmps84
  go_wp2_with fail
  refine (C.out _).mono ?_
  rintro e w1 ⟨rfl, rfl⟩
  go_wp2
  go_ret
  exact ⟨rfl, Below.refl _ _⟩
set_option maxHeartbeats 1000000 in
theorem readLabel_yes (R : Nat) (st : Pl.St) (c : UInt8) (z : Int) (hz : (c.toNat : Int) = z) (w : World) (h : Rd w R st) (hF : Pl.Fine st) (k : Nat) (hk : Pl.find st.f c = some k) :
    Calls Try.prog 84 #[.pointer (some ⟨R, 0, none⟩), .int .u8 z] w fun e w' => e = .returned (.bool true) ∧ Rd w' R ⟨st.s ||| 2 ^ k, k + 1, st.h⟩ ∧ Below R w w' := by
  have HR := Lib.hid h
  have hs := hF.lt
  obtain ⟨hFs, hFf⟩ := hF
  obtain ⟨s, f, y⟩ := st
  obtain ⟨h0, h1, h2, h3, h4⟩ := h
  simp only at h1 h2 h3 hFs hFf hk hs
  have hi := find_index c _ f rfl hFf
  rw [hk] at hi
  obtain ⟨k1, k2, _⟩ := Pl.find_some hk
  obtain ⟨d, rfl⟩ : ∃ d, k = f + d := ⟨k - f, by omega⟩
  have C : Hid (∀ w, Calls Try.prog 89 #[.string (labB.extract f 23), .int .u8 z] w fun e w' => e = .returned (.int .i64 (d : Int)) ∧ w' = w) := by
    intro w
    have := Try.strings_IndexByte (labB.extract f 23) z w
    rw [lab_tail f hFf, show z.toNat.toUInt8 = c by rw [← hz, Int.toNat_natCast]; exact UInt8.ofNat_toNat, hi] at this
    simp only at this
    rw [show ((f + d : Nat) : Int) - (f : Int) = (d : Int) by omega] at this
    exact this
  have hsz := labB_size
  have f0 := h4 0
  have f1 := h4 1
  obtain ⟨k, hkk⟩ : ∃ k, k = f + d := ⟨_, rfl⟩
  have hadd : (f : Int) + (d : Int) = (k : Int) := by omega
  rw [← hkk] at k1 k2 ⊢
  have hsh := shl_i64' k k2
  have hs' : s < 8388608 := hs
  have hor := or_i64s s (2 ^ k) hs' (pow_lt23 k k2)
  obtain ⟨p, hp⟩ : ∃ p, p = 2 ^ k := ⟨_, rfl⟩
  rw [← hp] at hsh hor ⊢
  clear h4 hi hk hkk hp hFs hs
  go_enter Try.func84, Try.ntmps84
  go_wp2_with fail
  refine (C.out _).mono ?_
  rintro e w1 ⟨rfl, rfl⟩
  go_wp2
  go_region
  have hRW : Rd ((w1.setCell ⟨R, 0, none⟩ (.int .i64 ((s ||| p : Nat) : Int))).drew) R ⟨s ||| p, f, y⟩ := HR.out.set0 (s ||| p)
  have hBW : Below R w1 ((w1.setCell ⟨R, 0, none⟩ (.int .i64 ((s ||| p : Nat) : Int))).drew) := ((Below.refl R w1).setCell (p := ⟨R, 0, none⟩) (Nat.le_refl R) _).drew
  generalize ((w1.setCell ⟨R, 0, none⟩ (.int .i64 ((s ||| p : Nat) : Int))).drew) = W at hRW hBW ⊢
  have HRW := Lib.hid hRW
  obtain ⟨g0, g1, g2, g3, g4⟩ := hRW
  simp only at g1 g2 g3
  have gf := g4 1
  have HB := Lib.hid (hBW.setCell (p := ⟨R, 1, none⟩) (Nat.le_refl R) (.int .i64 ((k : Int) + 1)))
  have HR2 : Hid (Rd (W.setCell ⟨R, 1, none⟩ (.int .i64 ((k : Int) + 1))) R ⟨s ||| p, k + 1, y⟩) := HRW.out.set1 (k + 1)
  clear g4 hBW h0 h1 h2 h3 f0 f1
  go_wp2
  go_ret
  exact ⟨rfl, HR2.out, HB.out⟩

theorem read_no (R : Nat) (st : Pl.St) (c : UInt8) (z : Int) (hz : (c.toNat : Int) = z) (w : World) (h : Rd w R st) (hF : Pl.Fine st) (hno : Pl.rstep st c = none) :
    Calls Try.prog 74 #[.pointer (some ⟨R, 0, none⟩), .int .u8 z] w fun e w' => e = .returned (.bool false) ∧ Below R w w' := by
  unfold Pl.rstep at hno
  by_cases hc : c = 45
  · have hz' : (z == 45) = true := by rw [← hz, hc]; rfl
    rw [if_pos hc] at hno
    have hno' : st.h = true ∨ 13 < st.f := by
      by_cases h : st.h = true ∨ 13 < st.f
      · exact h
      · rw [if_neg h] at hno; cases hno
    have C := Lib.hid (readHyphen_no R st w h hno')
    clear hno hno' h hF hz hc
    go_enter Try.func74, Try.ntmps74
    go_wp2_with fail
    refine C.out.mono ?_
    rintro e w1 ⟨rfl, hb⟩
    go_wp2
    go_ret
    exact ⟨rfl, hb⟩
  · have hz' : (z == 45) = false := by
      rw [beq_eq_false_iff_ne]; intro e; exact hc (UInt8.toNat_inj.1 (by have : (45 : UInt8).toNat = 45 := rfl; omega))
    rw [if_neg hc] at hno
    have hno' : Pl.find st.f c = none := by
      cases h : Pl.find st.f c with
      | none => rfl
      | some k => rw [h] at hno; cases hno
    have C := Lib.hid (readLabel_no R st c z hz w h hF.2 hno')
    clear hno hno' h hF hz hc
    go_enter Try.func74, Try.ntmps74
    go_wp2_with fail
    refine C.out.mono ?_
    rintro e w1 ⟨rfl, hb⟩
    go_wp2
    go_ret
    exact ⟨rfl, hb⟩
theorem read_yes (R : Nat) (st st' : Pl.St) (c : UInt8) (z : Int) (hz : (c.toNat : Int) = z) (w : World) (h : Rd w R st) (hF : Pl.Fine st) (hyes : Pl.rstep st c = some st') :
    Calls Try.prog 74 #[.pointer (some ⟨R, 0, none⟩), .int .u8 z] w fun e w' => e = .returned (.bool true) ∧ Rd w' R st' ∧ Below R w w' := by
  unfold Pl.rstep at hyes
  by_cases hc : c = 45
  · have hz' : (z == 45) = true := by rw [← hz, hc]; rfl
    rw [if_pos hc] at hyes
    by_cases hb : st.h = true ∨ 13 < st.f
    · rw [if_pos hb] at hyes; cases hyes
    · rw [if_neg hb] at hyes
      obtain rfl := Option.some.inj hyes
      have C := Lib.hid (readHyphen_yes R st w h (by cases hh : st.h; rfl; exact absurd (.inl hh) hb) (by omega))
      clear hyes hb h hF hz hc
      go_enter Try.func74, Try.ntmps74
      go_wp2_with fail
      refine C.out.mono ?_
      rintro e w1 ⟨rfl, hr, hb⟩
      have HR := Lib.hid hr
      clear hr
      go_wp2
      go_ret
      exact ⟨rfl, HR.out, hb⟩
  · have hz' : (z == 45) = false := by
      rw [beq_eq_false_iff_ne]; intro e; exact hc (UInt8.toNat_inj.1 (by have : (45 : UInt8).toNat = 45 := rfl; omega))
    rw [if_neg hc] at hyes
    cases hk : Pl.find st.f c with
    | none => rw [hk] at hyes; cases hyes
    | some k =>
      rw [hk] at hyes
      obtain rfl := Option.some.inj hyes
      have C := Lib.hid (readLabel_yes R st c z hz w h hF k hk)
      clear hyes h hF hz hc hk
      go_enter Try.func74, Try.ntmps74
      go_wp2_with fail
      refine C.out.mono ?_
      rintro e w1 ⟨rfl, hr, hb⟩
      have HR := Lib.hid hr
      clear hr
      go_wp2
      go_ret
      exact ⟨rfl, HR.out, hb⟩

/-- What a reading of relaxed notation answers. -/
def looseE (t : ByteArray) : Ending := .returned (.tuple #[.int .i64 (Pl.loose t.data.toList : Nat), .bool (((Pl.loose t.data.toList : Nat) : Int) != 0)])
theorem looseE_none {t : ByteArray} (h : Pl.reads t.data.toList ⟨0, 0, false⟩ = none) : looseE t = .returned (.tuple #[.int .i64 0, .bool false]) := by
  unfold looseE Pl.loose; rw [h]; rfl
theorem looseE_some {t : ByteArray} {st : Pl.St} (h : Pl.reads t.data.toList ⟨0, 0, false⟩ = some st) : looseE t = .returned (.tuple #[.int .i64 st.s, .bool ((st.s : Int) != 0)]) := by
  unfold looseE Pl.loose; rw [h]
theorem reads_drop (t : ByteArray) (k : Nat) (h : k < t.size) (st : Pl.St) : Pl.reads (t.data.toList.drop k) st = (Pl.rstep st t[k]).bind (Pl.reads (t.data.toList.drop (k + 1))) := by
  have hk : k < t.data.toList.length := by rw [Array.length_toList]; exact h
  rw [List.drop_eq_getElem_cons hk, Pl.reads_cons]; rfl
theorem drop_end (t : ByteArray) (k : Nat) (h : t.size ≤ k) : t.data.toList.drop k = [] := List.drop_of_length_le (by rw [Array.length_toList]; exact h)

set_option maxHeartbeats 1000000 in
theorem ParseLoose_any (t : ByteArray) (w : World) (ht : t.size ≤ maxLen) :
    Calls Try.prog 60 #[.string t] w fun e w' => e = looseE t ∧ Below w.heap.size w w' := by
  unfold maxLen at ht
  obtain ⟨R, hR⟩ : ∃ R, R = w.heap.size := ⟨_, rfl⟩
  have hnew : Hid (Rd (w.alloc (.cells #[.int .i64 0, .int .i64 0, .bool false] 74)) R ⟨0, 0, false⟩) := by
    rw [hR]
    exact ⟨by rw [World.size_alloc]; omega, by rw [World.cell?_alloc_at _ _ _ _ rfl]; rfl, by rw [World.cell?_alloc_at _ _ _ _ rfl]; rfl, by rw [World.cell?_alloc_at _ _ _ _ rfl]; rfl, fun j => World.frozen?_alloc_at _ _ _ _ rfl⟩
  have CN := Lib.hid (fun st c z hz w h hF hn => read_no R st c z hz w h hF hn)
  have CY := Lib.hid (fun st st' c z hz w h hF hn => read_yes R st st' c z hz w h hF hn)
  have CS := Lib.hid (fun s w => isStroke_any s w)
  have HR := Lib.hid hR
  have hb0 : Hid (Below w.heap.size w (w.alloc (.cells #[.int .i64 0, .int .i64 0, .bool false] 74))) := (Below.refl _ _).alloc (Nat.le_refl _) _
  go_enter Try.func60, Try.ntmps60
  go_wp2_with fail
  rw [← HR.out]
  clear hR
  go_loopw [8] (fun i wr => ∃ (k : Nat) (st : Pl.St), i = .int .i64 k ∧ k ≤ t.size ∧ Hid (Rd wr R st) ∧ Hid (Pl.Fine st) ∧ Hid (Pl.reads (t.data.toList.drop k) st = Pl.reads t.data.toList ⟨0, 0, false⟩) ∧ Below w.heap.size w wr) (fun i _ => t.size - (intOf i).toNat)
  case atStart => exact ⟨0, ⟨0, 0, false⟩, rfl, Nat.zero_le _, hnew, Pl.fine_zero, by rw [List.drop_zero]; exact Lib.hid rfl, hb0.out⟩
  case round =>
    obtain ⟨k, st, rfl, hk, HRd, HF, HL, hbel⟩ := hrel
    by_cases hlt : k < t.size
    · have HD := Lib.hid (reads_drop t k hlt st)
      cases hr : Pl.rstep st t[k] with
      | none =>
        have HE : Hid (looseE t = .returned (.tuple #[.int .i64 0, .bool false])) := by
          have h1 := HL.out
          rw [HD.out, hr] at h1
          exact looseE_none h1.symm
        have HN := Lib.hid hr
        clear hr HD HL
        go_wp2_with fail
        refine (CN.out st t[k] _ rfl _ HRd.out HF.out HN.out).mono ?_
        rintro e w1 ⟨rfl, hb1⟩
        have HB1 : Hid (Below w.heap.size w w1) := hbel.trans (by rw [HR.out] at hb1; exact hb1)
        clear hb1
        go_wp2
        go_ret2
        exact ⟨HE.out.symm, HB1.out⟩
      | some st' =>
        have HL' : Hid (Pl.reads (t.data.toList.drop (k + 1)) st' = Pl.reads t.data.toList ⟨0, 0, false⟩) := by
          have h1 := HL.out
          rw [HD.out, hr] at h1
          exact h1
        have HF' : Hid (Pl.Fine st') := Pl.rstep_fine HF.out hr
        have HN := Lib.hid hr
        clear hr HD HL
        go_wp2_with fail
        refine (CY.out st st' t[k] _ rfl _ HRd.out HF.out HN.out).mono ?_
        rintro e w1 ⟨rfl, hr1, hb1⟩
        have HR1 := Lib.hid hr1
        have HB1 : Hid (Below w.heap.size w w1) := hbel.trans (by rw [HR.out] at hb1; exact hb1)
        clear hb1 hr1
        go_wp2
        go_roundw
        case rel => exact ⟨k + 1, st', by go_num, by omega, HR1, HF', HL', HB1.out⟩
        case measure => simp [intOf]; omega
    · have HE : Hid (looseE t = .returned (.tuple #[.int .i64 st.s, .bool (okS st.s)])) := by
        have h1 := HL.out
        rw [drop_end t k (by omega), Pl.reads_nil] at h1
        show looseE t = _
        rw [looseE_some h1.symm, okS_ne st.s HF.out.lt]
      obtain ⟨g0, g1, g2, g3, g4⟩ := HRd.out
      clear HL HF g4
      go_wp2_with fail
      go_region_with (go_at_call 75; refine (CS.out _ _).mono ?_; rintro e w1 ⟨rfl, rfl⟩)
      all_goals go_wp2
      all_goals go_ret2
      all_goals exact ⟨HE.out.symm, by repeat (first | exact hbel | apply Below.drew)⟩

set_option maxHeartbeats 2000000 in
theorem l2Loose_any (t : ByteArray) (w : World) (ht : t.size ≤ maxLen) :
    Calls Try.prog 61 #[.string t] w fun e w' => e = looseE t ∧ Below w.heap.size w w' := by
  unfold maxLen at ht
  have hsz := labB_size
  go_enter Try.func61, Try.ntmps61
  go_wp2
  go_loopw [4, 5, 6, 7] (fun s f y i wr => ∃ (k : Nat) (sn fn : Nat) (yb : Bool), i = .int .i64 k ∧ s = .int .i64 sn ∧ f = .int .i64 fn ∧ y = .bool yb ∧ k ≤ t.size ∧ fn ≤ 23 ∧ sn < 8388608 ∧ Hid (Pl.Fine ⟨sn, fn, yb⟩) ∧ Hid (Pl.reads (t.data.toList.drop k) ⟨sn, fn, yb⟩ = Pl.reads t.data.toList ⟨0, 0, false⟩) ∧ Below w.heap.size w wr) (fun _ _ _ i _ => t.size - (intOf i).toNat)
  case atStart => exact ⟨0, 0, 0, false, rfl, rfl, rfl, rfl, Nat.zero_le _, by omega, by omega, Pl.fine_zero, by rw [List.drop_zero]; exact Lib.hid rfl, Below.refl _ _⟩
  case round =>
    obtain ⟨k, sn, fn, yb, rfl, rfl, rfl, rfl, hk, hf23, hs23, HF, HL, hbel⟩ := hrel
    by_cases hlt : k < t.size
    · have HD := Lib.hid (reads_drop t k hlt ⟨sn, fn, yb⟩)
      obtain ⟨z, hz⟩ : ∃ z : Int, (t[k].toNat : Int) = z := ⟨_, rfl⟩
      obtain ⟨c, hc⟩ : ∃ c, c = t[k] := ⟨_, rfl⟩
      rw [← hc] at HD hz
      have hz2 : (t[k].toNat : Int) = z := by rw [← hc]; exact hz
      by_cases h45 : c = 45
      · have hz' : (z == 45) = true := by rw [← hz, h45]; rfl
        have e1 : Pl.rstep ⟨sn, fn, yb⟩ c = if yb = true ∨ 13 < fn then none else some ⟨sn, 13, true⟩ := by unfold Pl.rstep; rw [if_pos h45]
        cases yb
        · by_cases hgt : 13 < fn
          · have HE : Hid (looseE t = .returned (.tuple #[.int .i64 0, .bool false])) := by
              have h1 := HL.out
              rw [HD.out, e1, if_pos (.inr hgt)] at h1
              exact looseE_none h1.symm
            have hgt' : (13 : Int) < (fn : Int) := by omega
            clear HL HD e1 HF hz hc h45
            go_wp2
            go_ret2
            exact ⟨HE.out.symm, hbel⟩
          · have e2 : Pl.rstep ⟨sn, fn, false⟩ c = some ⟨sn, 13, true⟩ := by rw [e1, if_neg (by simp; omega)]
            have HL' : Hid (Pl.reads (t.data.toList.drop (k + 1)) ⟨sn, 13, true⟩ = Pl.reads t.data.toList ⟨0, 0, false⟩) := by
              have h1 := HL.out
              rw [HD.out, e2] at h1
              exact h1
            have HF' : Hid (Pl.Fine ⟨sn, 13, true⟩) := Pl.rstep_fine HF.out e2
            have hgt' : ¬ (13 : Int) < (fn : Int) := by omega
            clear HL HD e1 e2 HF hz hc h45
            go_wp2
            go_roundw
            case rel => exact ⟨k + 1, sn, 13, true, by go_num, rfl, rfl, rfl, by omega, by omega, hs23, HF', HL', hbel⟩
            case measure => simp [intOf]; omega
        · have HE : Hid (looseE t = .returned (.tuple #[.int .i64 0, .bool false])) := by
            have h1 := HL.out
            rw [HD.out, e1, if_pos (.inl rfl)] at h1
            exact looseE_none h1.symm
          clear HL HD e1 HF hz hc h45
          go_wp2
          go_ret2
          exact ⟨HE.out.symm, hbel⟩
      · have hz' : (z == 45) = false := by
          rw [beq_eq_false_iff_ne]; intro e; exact h45 (UInt8.toNat_inj.1 (by have : (45 : UInt8).toNat = 45 := rfl; omega))
        have HST : Hid (Pl.rstep ⟨sn, fn, yb⟩ c = match Pl.find fn c with | none => none | some k => some ⟨sn ||| 2 ^ k, k + 1, yb⟩) := by
          show Pl.rstep _ _ = _
          unfold Pl.rstep; rw [if_neg h45]; rfl
        have HZ := Lib.hid hz
        clear hz hc h45
        go_wp2
        go_loopw [8] (fun q wr => ∃ qn : Nat, q = .int .i64 qn ∧ fn ≤ qn ∧ qn ≤ 23 ∧ Hid (Pl.find qn c = Pl.find fn c) ∧ Below w.heap.size w wr) (fun q _ => 23 - (intOf q).toNat)
        case atStart => exact ⟨fn, rfl, Nat.le_refl _, hf23, Lib.hid rfl, hbel⟩
        case round =>
          obtain ⟨q, rfl, hq0, hq1, HQ, hbq⟩ := hrel
          by_cases hq : q < 23
          · have hq' : (q : Int) < 23 := by omega
            have hqd : decide ((q : Int) < 23) = true := by simp; omega
            have hat := labB_at q hq
            by_cases hl : Pl.labK q = c
            · have hne : (((labB[q]'(by rw [labB_size]; exact hq)).toNat : Int) != z) = false := by
                rw [hat, hl, HZ.out]; simp
              have e2 : Pl.find fn c = some q := by rw [← HQ.out, Pl.find_at q c hq, if_pos hl]
              have e3 : Pl.rstep ⟨sn, fn, yb⟩ c = some ⟨sn ||| 2 ^ q, q + 1, yb⟩ := by rw [HST.out, e2]
              have HL' : Hid (Pl.reads (t.data.toList.drop (k + 1)) ⟨sn ||| 2 ^ q, q + 1, yb⟩ = Pl.reads t.data.toList ⟨0, 0, false⟩) := by
                have h1 := HL.out
                rw [HD.out, e3] at h1
                exact h1
              have HF' : Hid (Pl.Fine ⟨sn ||| 2 ^ q, q + 1, yb⟩) := Pl.rstep_fine HF.out e3
              have hsh := shl_i64' q hq
              have hor := or_i64s sn (2 ^ q) hs23 (pow_lt23 q hq)
              have hlt2 : sn ||| 2 ^ q < 8388608 := Pl.or_lt sn q hs23 hq
              obtain ⟨p, hp⟩ : ∃ p, p = 2 ^ q := ⟨_, rfl⟩
              rw [← hp] at hsh hor hlt2 HL' HF'
              have hqe : ((q : Int) == 23) = false := by simp; omega
              clear HL HD e2 e3 HF hat hl HQ HST hp
              go_wp2
              go_quiet (fail)
              go_wp2
              go_roundw
              case rel => exact ⟨k + 1, sn ||| p, q + 1, yb, by go_num, rfl, rfl, rfl, by omega, by omega, hlt2, HF', HL', below_drewN hbq nq⟩
              case measure => simp [intOf]; omega
            · have hne : (((labB[q]'(by rw [labB_size]; exact hq)).toNat : Int) != z) = true := by
                rw [hat, ← HZ.out, bne_iff_ne]; intro e; exact hl (UInt8.toNat_inj.1 (by omega))
              have HQ' : Hid (Pl.find (q + 1) c = Pl.find fn c) := by
                show _ = _
                rw [← HQ.out, Pl.find_at q c hq, if_neg hl]
              clear HQ hat hl
              go_wp2
              go_quiet (fail)
              go_wp2
              go_roundw
              case rel => exact ⟨q + 1, by go_num, by omega, by omega, HQ', below_drewN hbq nq⟩
              case measure => simp [intOf]; omega
          · obtain rfl : q = 23 := by omega
            have HE : Hid (looseE t = .returned (.tuple #[.int .i64 0, .bool false])) := by
              have h1 := HL.out
              rw [HD.out, HST.out, ← HQ.out, Pl.find_end 23 c (Nat.le_refl _)] at h1
              exact looseE_none h1.symm
            clear HL HD HF HQ HST
            go_wp2
            go_quiet (fail)
            go_wp2
            go_ret2
            exact ⟨HE.out.symm, below_drewN hbq nq⟩
    · have HE : Hid (looseE t = .returned (.tuple #[.int .i64 sn, .bool ((sn : Int) != 0)])) := by
        have h1 := HL.out
        rw [drop_end t k (by omega), Pl.reads_nil] at h1
        exact looseE_some h1.symm
      clear HL HF
      go_wp2
      go_ret2
      exact ⟨HE.out.symm, hbel⟩

theorem looseE_zero {t : ByteArray} (h : Pl.loose t.data.toList = 0) : looseE t = .returned (.tuple #[.int .i64 0, .bool false]) := by unfold looseE; rw [h]; rfl
theorem looseE_pos {t : ByteArray} {n : Nat} (h : Pl.loose t.data.toList = n) (h0 : n ≠ 0) : looseE t = .returned (.tuple #[.int .i64 n, .bool true]) := by
  unfold looseE
  rw [h, show (((n : Nat) : Int) != 0) = true by rw [bne_iff_ne]; omega]
/-- What a reading of strict notation answers. -/
def strictE (t : ByteArray) : Ending := .returned (.tuple #[.int .i64 (Pl.strict t.data.toList : Nat), .bool (((Pl.strict t.data.toList : Nat) : Int) != 0)])
theorem strictE_zero {t : ByteArray} (h : Pl.strict t.data.toList = 0) : strictE t = .returned (.tuple #[.int .i64 0, .bool false]) := by unfold strictE; rw [h]; rfl
theorem strictE_pos {t : ByteArray} {n : Nat} (h : Pl.strict t.data.toList = n) (h0 : n ≠ 0) : strictE t = .returned (.tuple #[.int .i64 n, .bool true]) := by
  unfold strictE
  rw [h, show (((n : Nat) : Int) != 0) = true by rw [bne_iff_ne]; omega]
theorem strict_of_zero {t : ByteArray} (h : Pl.loose t.data.toList = 0) : Pl.strict t.data.toList = 0 := by
  unfold Pl.strict; rw [h]; split <;> rfl
theorem strict_of_eq {t : ByteArray} (h : notaB (Pl.loose t.data.toList) = t) : Pl.strict t.data.toList = Pl.loose t.data.toList := by
  unfold Pl.strict
  rw [if_pos]
  have := congrArg (fun x => x.data.toList) h
  simpa [notaB] using this
theorem strict_of_ne {t : ByteArray} (h : notaB (Pl.loose t.data.toList) ≠ t) : Pl.strict t.data.toList = 0 := by
  unfold Pl.strict
  rw [if_neg]
  intro e
  exact h (by unfold notaB; rw [e])
theorem notaB_len (n : Nat) : (notaB n).size ≤ 24 := by unfold notaB; rw [str_len]; exact Pl.nota_len n

theorem ParseStroke_any (t : ByteArray) (w : World) (ht : t.size ≤ maxLen) :
    Calls Try.prog 40 #[.string t] w fun e w' => e = strictE t ∧ Below w.heap.size w w' := by
  have c := fun w => ParseLoose_any t w ht
  obtain ⟨n, hn⟩ : ∃ n, Pl.loose t.data.toList = n := ⟨_, rfl⟩
  have hlt : n < 8388608 := by rw [← hn]; exact Pl.loose_lt _
  by_cases h0 : n = 0
  · subst h0
    rw [looseE_zero hn] at c
    rw [strictE_zero (strict_of_zero hn)]
    have C := Lib.hid c
    clear c hn ht hlt
    go_enter Try.func40, Try.ntmps40
    go_wp2_with fail
    refine (C.out _).mono ?_
    rintro e w1 ⟨rfl, hb⟩
    go_wp2
    go_ret2
    exact ⟨rfl, hb⟩
  · rw [looseE_pos hn h0] at c
    have C := Lib.hid c
    have d := fun w => notation_any n hlt w
    obtain ⟨U, hU⟩ : ∃ U, U = notaB n := ⟨_, rfl⟩
    rw [← hU] at d
    have D := Lib.hid d
    by_cases he : U = t
    · have hs : Pl.strict t.data.toList = n := by rw [← hn]; exact strict_of_eq (by rw [hn, ← hU, he])
      rw [strictE_pos hs h0]
      have e1 : (U.toList == t.toList) = true := by rw [he]; exact beq_self_eq_true _
      have e2 : (U.toList != t.toList) = false := by rw [he]; simp
      clear c d hn ht hlt h0 hU hs he
      go_enter Try.func40, Try.ntmps40
      go_wp2_with fail
      refine (C.out _).mono ?_
      rintro e w1 ⟨rfl, hb⟩
      go_wp2_with fail
      refine (D.out _).mono ?_
      rintro e w2 ⟨rfl, hb2⟩
      have hb3 := hb.trans (hb2.mono hb.size)
      go_wp2
      go_ret2
      exact ⟨rfl, hb3⟩
    · have hs : Pl.strict t.data.toList = 0 := strict_of_ne (by rw [hn, ← hU]; exact he)
      rw [strictE_zero hs]
      have e1 := str_ne he
      have e2 : (U.toList != t.toList) = true := by unfold bne; rw [e1]; rfl
      clear c d hn ht hlt h0 hU hs he
      go_enter Try.func40, Try.ntmps40
      go_wp2_with fail
      refine (C.out _).mono ?_
      rintro e w1 ⟨rfl, hb⟩
      go_wp2_with fail
      refine (D.out _).mono ?_
      rintro e w2 ⟨rfl, hb2⟩
      have hb3 := hb.trans (hb2.mono hb.size)
      go_wp2
      go_ret2
      exact ⟨rfl, hb3⟩
theorem specParseStroke_any (t : ByteArray) (w : World) (ht : t.size ≤ maxLen) :
    Calls Try.prog 43 #[.string t] w fun e w' => e = strictE t ∧ Below w.heap.size w w' := by
  have c := fun w => l2Loose_any t w ht
  obtain ⟨n, hn⟩ : ∃ n, Pl.loose t.data.toList = n := ⟨_, rfl⟩
  have hlt : n < 8388608 := by rw [← hn]; exact Pl.loose_lt _
  by_cases h0 : n = 0
  · subst h0
    rw [looseE_zero hn] at c
    rw [strictE_zero (strict_of_zero hn)]
    have C := Lib.hid c
    clear c hn ht hlt
    go_enter Try.func43, Try.ntmps43
    go_wp2_with fail
    refine (C.out _).mono ?_
    rintro e w1 ⟨rfl, hb⟩
    go_wp2
    go_ret2
    exact ⟨rfl, hb⟩
  · rw [looseE_pos hn h0] at c
    have C := Lib.hid c
    have d := fun w => l2Format_any n hlt w
    obtain ⟨U, hU⟩ : ∃ U, U = notaB n := ⟨_, rfl⟩
    rw [← hU] at d
    have D := Lib.hid d
    by_cases he : U = t
    · have hs : Pl.strict t.data.toList = n := by rw [← hn]; exact strict_of_eq (by rw [hn, ← hU, he])
      rw [strictE_pos hs h0]
      have e1 : (U.toList == t.toList) = true := by rw [he]; exact beq_self_eq_true _
      have e2 : (U.toList != t.toList) = false := by rw [he]; simp
      clear c d hn ht hlt h0 hU hs he
      go_enter Try.func43, Try.ntmps43
      go_wp2_with fail
      refine (C.out _).mono ?_
      rintro e w1 ⟨rfl, hb⟩
      go_wp2_with fail
      refine (D.out _).mono ?_
      rintro e w2 ⟨rfl, hb2⟩
      have hb3 := hb.trans (hb2.mono hb.size)
      go_wp2
      go_ret2
      exact ⟨rfl, hb3⟩
    · have hs : Pl.strict t.data.toList = 0 := strict_of_ne (by rw [hn, ← hU]; exact he)
      rw [strictE_zero hs]
      have e1 := str_ne he
      have e2 : (U.toList != t.toList) = true := by unfold bne; rw [e1]; rfl
      clear c d hn ht hlt h0 hU hs he
      go_enter Try.func43, Try.ntmps43
      go_wp2_with fail
      refine (C.out _).mono ?_
      rintro e w1 ⟨rfl, hb⟩
      go_wp2_with fail
      refine (D.out _).mono ?_
      rintro e w2 ⟨rfl, hb2⟩
      have hb3 := hb.trans (hb2.mono hb.size)
      go_wp2
      go_ret2
      exact ⟨rfl, hb3⟩
end Go.Proofs.Ytkhklidpighmpaa
