/-
  CONTRACTS of the two assemblers, lastUp and firstUp.
-/
import Derived.Test.YtindcafdphfppaaAsm
namespace Go.Proofs.Ytindcafdphfppaa
open Go.RowKit

theorem grown_trans {w w1 w2 : World} {row : Option Nat} (h1 : w.grownBy w1 row) (h2 : w1.grownBy w2 row) : w.grownBy w2 row :=
  ⟨h2.os.trans h1.os, h2.tape.trans h1.tape, h2.output.trans h1.output, Nat.le_trans h1.size h2.size, fun k hk hne => (h2.block k (Nat.lt_of_lt_of_le hk h1.size) hne).trans (h1.block k hk hne)⟩
theorem grown_any {w w' : World} (h : w.grownBy w' none) (row : Option Nat) : w.grownBy w' row := ⟨h.os, h.tape, h.output, h.size, fun k hk _ => h.block k hk (by simp)⟩
theorem grown_cell (w : World) (p : Addr) (u : Value) : w.grownBy (w.setCell p u) (some p.block) := ⟨rfl, rfl, rfl, by simp [World.setCell], fun k _ hk => Below.heap_setCell w p u k (fun e => hk (by rw [e]))⟩

theorem keys_newE (n : Nat) (h0 : n ≠ 0) (h : n < 8388608) : newE (keysI n) = .returned (.tuple #[.int .i64 (n : Nat), .bool true]) := by
  have : Pl.newK (keysI n) = n := Pl.newK_keys n h
  unfold newE
  rw [this]
  have : ((n : Int) != 0) = true := by rw [bne_iff_ne]; omega
  rw [this]
theorem flip_down {dn : Nat} {e : Pl.Ev} (hf : Pl.fits dn e) (hd : e.d = true) : Pl.flip dn e = dn ||| 2 ^ e.k.toNat ∧ Pl.flip dn e ≠ 0 := by
  have h4 := hf.2.2.2.2
  rw [hd] at h4
  have hb : dn.testBit e.k.toNat = false := by cases hx : dn.testBit e.k.toNat; rfl; exact absurd hx h4
  have e1 : Pl.flip dn e = dn ||| 2 ^ e.k.toNat := by
    apply Nat.eq_of_testBit_eq
    intro j
    rw [Pl.flip_bit, Nat.testBit_or, Pl.testBit_pow]
    by_cases h : e.k.toNat = j
    · subst h; rw [hb]; simp
    · simp [h]
  refine ⟨e1, ?_⟩
  rw [e1]; exact Pl.or_ne _ _
theorem flip_up {dn : Nat} {e : Pl.Ev} (hf : Pl.fits dn e) (hd : e.d = false) : Pl.sub (Pl.flip dn e) dn ∧ dn ≠ 0 := by
  have h4 := hf.2.2.2.2
  rw [hd] at h4
  have hb : dn.testBit e.k.toNat = true := by cases hx : dn.testBit e.k.toNat; exact absurd hx h4; rfl
  refine ⟨fun j hj => ?_, fun h0 => ?_⟩
  · rw [Pl.flip_bit] at hj
    by_cases h : e.k.toNat = j
    · subst h; exact hb
    · simpa [h] using hj
  · rw [h0, Nat.zero_testBit] at hb; cases hb
theorem sub_or_eq {a b : Nat} (h : Pl.sub a b) : b ||| a = b := by
  apply Nat.eq_of_testBit_eq
  intro j
  rw [Nat.testBit_or]
  cases ha : a.testBit j
  · rw [Bool.or_false]
  · rw [h j ha]; rfl
theorem sub_trans {a b c : Nat} (h : Pl.sub a b) (h' : Pl.sub b c) : Pl.sub a c := fun j hj => h' j (h j hj)
/-- What lastUp holds behind an event. -/
theorem step_ch {r : Pl.Run} {e : Pl.Ev} (h : Pl.flip r.dn e ≠ 0) : (r.step e).ch = r.ch ||| Pl.flip r.dn e := by unfold Pl.Run.step; dsimp only; rw [if_neg h]
theorem step_ch0 {r : Pl.Run} {e : Pl.Ev} (h : Pl.flip r.dn e = 0) : (r.step e).ch = 0 := by unfold Pl.Run.step; dsimp only; rw [if_pos h]

set_option maxHeartbeats 2000000 in
theorem lastUp1_any (g : Nat) (r : Pl.Run) (e : Pl.Ev) (w : World) (hd : r.dn < 8388608) (hc : r.ch < 8388608) (hs : Pl.sub r.dn r.ch) (hf : Pl.fits r.dn e) (hK : KB w g r.ch) :
    Calls Try.prog 61 #[.agg (kbA r.dn), evV e, .pointer (some ⟨g, 0, none⟩)] w fun x w' => (x = .returned (if decide (Pl.flip r.dn e = 0) = true then .tuple #[.int .i64 (r.ch ||| Pl.flip r.dn e : Nat), .bool true] else .tuple #[.int .i64 0, .bool false])) ∧ KB w' g (r.step e).ch ∧ w.grownBy w' (some g) := by
  have hgl := hK.lt
  have HK2 := Lib.hid ((hK.alloc (.cells (kbA r.dn) 65)).alloc (.cells #[.int .i64 e.t, .int .i64 e.k, .bool e.d] 31))
  have HG2 : Hid (w.grownBy ((w.alloc (.cells (kbA r.dn) 65)).alloc (.cells #[.int .i64 e.t, .int .i64 e.k, .bool e.d] 31)) (some g)) := grown_trans (World.grownBy_alloc _ _ _) (World.grownBy_alloc _ _ _)
  have hq0 := hf.1
  have hq1 := hf.2.1
  cases hed : e.d
  · obtain ⟨hup, hne⟩ := flip_up hf hed
    have hch : r.ch ≠ 0 := by intro h0; rw [h0] at hs; apply hne; apply Nat.eq_of_testBit_eq; intro j; rw [Nat.zero_testBit]; cases hj : r.dn.testBit j; rfl; have := hs j hj; rw [Nat.zero_testBit] at this; cases this
    have hor := sub_or_eq (sub_trans hup hs)
    have CA := Lib.hid (fun w => after_any r.dn e hf w)
    have HB := Lib.hid ((KB.made w r.dn).alloc (.cells #[.int .i64 e.t, .int .i64 e.k, .bool e.d] 31))
    have hfl := Pl.flip_lt hd hf
    obtain ⟨fl, hfle⟩ : ∃ fl, fl = Pl.flip r.dn e := ⟨_, rfl⟩
    have hst1 := @step_ch r e
    have hst0 := @step_ch0 r e
    rw [← hfle] at CA hfl hor hst1 hst0 ⊢
    have HEQ := Lib.hid (fun w => kb_equal fl hfl w)
    have HST1 := Lib.hid hst1
    have HST0 := Lib.hid hst0
    rw [hed] at HK2 HB HG2
    have CA2 : Hid (∀ w, Calls Try.prog 60 #[.agg (kbA r.dn), .agg #[.int .i64 e.t, .int .i64 e.k, .bool false]] w fun r' w' => r' = .returned (.agg (kbA fl)) ∧ Below w.heap.size w w') := by have := CA.out; simp only [evV, hed] at this; exact this
    have hev : evV e = .agg #[.int .i64 e.t, .int .i64 e.k, .bool false] := by simp only [evV, hed]
    rw [hev]
    clear hf hK hs hup hne hst1 hst0 hfle CA hed hev
    by_cases hz : fl = 0
    · subst hz
      simp only [decide_true, if_true]
      rw [hor]
      have hq := HEQ.out
      simp only [decide_true] at hq
      have CD := Lib.hid (fun w => keysDown_any r.ch w)
      have hnE := keys_newE r.ch hch hc
      have CN := Lib.hid (fun v w h => NewStroke_any v (keysI r.ch) w h (by rw [keysI_len]; have := Pl.card_le r.ch; omega))
      rw [hnE] at CN
      clear hnE hch
      go_enter Try.func61, Try.ntmps61
      go_wp2_with (with_reducible (show wpList _ _ _ (_ :: _) _ _); first | refine kb_build rfl rfl ?_ | refine kb_load w.heap.size _ rfl rfl rfl HB.out ?_)
      refine (CA2.out _).mono ?_
      rintro x w1 ⟨rfl, hb1⟩
      have HK3 := Lib.hid (HK2.out.below hb1)
      have HG3 := Lib.hid (grown_trans HG2.out (grown_any (below_grown hb1) _))
      clear hb1
      go_wp2_with (with_reducible (show wpList _ _ _ (_ :: _) _ _); first | refine kb_build rfl rfl ?_ | refine kb_load g _ rfl rfl rfl HK3.out ?_)
      refine (CD.out _).mono ?_
      rintro x w2 ⟨⟨v, rfl, hv⟩, hb2⟩
      have HK4 := Lib.hid (HK3.out.below hb2)
      have HG4 := Lib.hid (grown_trans HG3.out (grown_any (below_grown hb2) _))
      have HV := Lib.hid (rowInts_at (hv.kept (grown_row w2 g (kbA 0)) (.inr (HK4.out.apart hv))))
      clear hv hb2
      go_wp2_with (with_reducible (show wpList _ _ _ (_ :: _) _ _); first | refine kb_build rfl rfl ?_ | refine kb_store g _ 0 rfl rfl rfl rfl HK4.out ?_)
      refine (CN.out _ _ HV.out).mono ?_
      rintro x w3 ⟨rfl, hb3⟩
      have HG5 := Lib.hid (grown_trans (grown_trans HG4.out (grown_row w2 g (kbA 0))) (grown_any (below_grown hb3) _))
      have HK5 := Lib.hid ((HK4.out.row 0).below hb3)
      clear hb3
      go_wp2
      go_ret2
      exact ⟨rfl, by rw [HST0.out trivial]; exact HK5.out, HG5.out⟩
    · have hz' : decide (fl = 0) = false := by simp [hz]
      rw [hz']
      simp only [Bool.false_eq_true, if_false]
      have hq := HEQ.out
      rw [hz'] at hq
      go_enter Try.func61, Try.ntmps61
      go_wp2_with (with_reducible (show wpList _ _ _ (_ :: _) _ _); first | refine kb_build rfl rfl ?_ | refine kb_load w.heap.size _ rfl rfl rfl HB.out ?_)
      refine (CA2.out _).mono ?_
      rintro x w1 ⟨rfl, hb1⟩
      have HK3 := Lib.hid (HK2.out.below hb1)
      have HG3 := Lib.hid (grown_trans HG2.out (grown_any (below_grown hb1) _))
      clear hb1
      go_wp2_with (with_reducible (show wpList _ _ _ (_ :: _) _ _); refine kb_build rfl rfl ?_)
      go_ret2
      exact ⟨rfl, by rw [HST1.out hz, hor]; exact HK3.out, HG3.out⟩
  · obtain ⟨hfl, hne⟩ := flip_down hf hed
    have hdec : decide (Pl.flip r.dn e = 0) = false := by simp [hne]
    rw [hdec]
    simp only [Bool.false_eq_true, if_false]
    have hst := step_ch hne
    have hor : r.ch ||| Pl.flip r.dn e = r.ch ||| 2 ^ e.k.toNat := by
      rw [hfl, ← Nat.or_assoc, sub_or_eq hs]
    rw [hor] at hst
    obtain ⟨t, k, d⟩ := e
    simp only at hed hq0 hq1 HK2 HG2
    subst hed
    obtain ⟨q, rfl⟩ := Int.eq_ofNat_of_zero_le hq0
    have hq : q < 23 := by omega
    simp only [Int.toNat_natCast] at hst hor
    have hbit := kbA_or r.ch q hq
    have hcl := HK2.out.cell q hq
    have hfr := HK2.out.frozen q
    have HST := Lib.hid hst
    have HBIT := Lib.hid hbit
    clear hf hdec hne hfl hor hst hbit
    go_enter Try.func61, Try.ntmps61
    go_wp2_with fail
    go_ret2
    exact ⟨rfl, by rw [HST.out]; exact ((hK.bit HBIT.out).alloc _).alloc _, grown_trans (grown_cell w ⟨g, q, none⟩ _) (grown_trans (World.grownBy_alloc _ _ _) (World.grownBy_alloc _ _ _))⟩

/-- Block g holds one Boolean. -/
def BB (w : World) (g : Nat) (b : Bool) : Prop := w.heap[g]? = some (.cells #[.bool b] 4 (0, 0))
theorem BB.lt {w : World} {g : Nat} {b : Bool} (h : BB w g b) : g < w.heap.size := (Array.getElem?_eq_some_iff.1 h).1
theorem BB.alloc {w : World} {g : Nat} {b : Bool} (h : BB w g b) (o : Obj) : BB (w.alloc o) g b := (Below.heap_alloc w o g h.lt).trans h
theorem BB.below {w w' : World} {g : Nat} {b : Bool} (h : BB w g b) (hb : Below w.heap.size w w') : BB w' g b := (hb.block g h.lt).trans h
theorem BB.kept {w w' : World} {g : Nat} {b : Bool} {row : Option Nat} (h : BB w g b) (hg : w.grownBy w' row) (hr : row ≠ some g) : BB w' g b := (hg.block g h.lt (fun e => hr e.symm)).trans h
theorem BB.cell {w : World} {g : Nat} {b : Bool} (h : BB w g b) : w.cell? ⟨g, 0, none⟩ = some (.bool b) := by rw [cell_of_row w g 0 _ _ _ h]; rfl
theorem BB.frozen {w : World} {g : Nat} {b : Bool} (h : BB w g b) : w.frozen? ⟨g, 0, none⟩ = false := by
  have h' : w.heap[g]? = some (.cells #[.bool b] 4 (0, 0)) := h
  simp [World.frozen?, h']
theorem BB.set {w : World} {g : Nat} {b : Bool} (h : BB w g b) (c : Bool) : BB (w.setCell ⟨g, 0, none⟩ (.bool c)) g c := by
  unfold BB
  rw [setCell_eq_setRow w g 0 #[.bool b] 4 (0, 0) (.bool c) h]
  exact setRow_heap w g #[.bool b] _ _ _ h

set_option maxHeartbeats 2000000 in
theorem firstUp1_any (g : Nat) (r : Pl.Run) (e : Pl.Ev) (w : World) (hd : r.dn < 8388608) (hf : Pl.fits r.dn e) (hK : BB w g r.pd) :
    Calls Try.prog 63 #[.agg (kbA r.dn), evV e, .pointer (some ⟨g, 0, none⟩)] w fun x w' => (x = .returned (if (!e.d && r.pd) = true then .tuple #[.int .i64 (r.dn : Nat), .bool true] else .tuple #[.int .i64 0, .bool false])) ∧ BB w' g e.d ∧ w.grownBy w' (some g) := by
  have hgl := hK.lt
  have hB2 := (hK.alloc (.cells (kbA r.dn) 65)).alloc (.cells #[.int .i64 e.t, .int .i64 e.k, .bool e.d] 31)
  have hcl := hB2.cell
  have hfr := hB2.frozen
  have HB3 := Lib.hid (((hK.set e.d).alloc (.cells (kbA r.dn) 65)).alloc (.cells #[.int .i64 e.t, .int .i64 e.k, .bool e.d] 31))
  have HG3 : Hid (w.grownBy (((w.setCell ⟨g, 0, none⟩ (.bool e.d)).alloc (.cells (kbA r.dn) 65)).alloc (.cells #[.int .i64 e.t, .int .i64 e.k, .bool e.d] 31)) (some g)) := grown_trans (grown_cell w ⟨g, 0, none⟩ _) (grown_trans (World.grownBy_alloc _ _ _) (World.grownBy_alloc _ _ _))
  have hkb := (KB.made (w.setCell ⟨g, 0, none⟩ (.bool e.d)) r.dn).alloc (.cells #[.int .i64 e.t, .int .i64 e.k, .bool e.d] 31)
  rw [World.size_setCell] at hkb
  have HKB := Lib.hid hkb
  clear hB2 hkb hK
  cases hed : e.d
  · obtain ⟨_, hne⟩ := flip_up hf hed
    have hev : evV e = .agg #[.int .i64 e.t, .int .i64 e.k, .bool false] := by simp only [evV, hed]
    rw [hev]
    rw [hed] at hcl hfr HB3 HG3 HKB
    cases hp : r.pd
    · rw [hp] at hcl
      simp only [Bool.not_false, Bool.and_false, Bool.false_eq_true, if_false]
      clear hev hf hed hp
      go_enter Try.func63, Try.ntmps63
      go_wp2_with fail
      go_ret2
      exact ⟨rfl, HB3.out, HG3.out⟩
    · rw [hp] at hcl
      simp only [Bool.not_false, Bool.and_true, if_true]
      have CD := Lib.hid (fun w => keysDown_any r.dn w)
      have hnE := keys_newE r.dn hne hd
      have CN := Lib.hid (fun v w h => NewStroke_any v (keysI r.dn) w h (by rw [keysI_len]; have := Pl.card_le r.dn; omega))
      rw [hnE] at CN
      clear hev hf hed hp hnE hne
      go_enter Try.func63, Try.ntmps63
      go_wp2_with (with_reducible (show wpList _ _ _ (_ :: _) _ _); refine kb_load w.heap.size _ rfl rfl rfl HKB.out ?_)
      refine (CD.out _).mono ?_
      rintro x w2 ⟨⟨v, rfl, hv⟩, hb2⟩
      have HV := Lib.hid (rowInts_at hv)
      have HB4 := Lib.hid (HB3.out.below hb2)
      have HG4 := Lib.hid (grown_trans HG3.out (grown_any (below_grown hb2) _))
      clear hv hb2
      go_wp2_with fail
      refine (CN.out _ _ HV.out).mono ?_
      rintro x w3 ⟨rfl, hb3⟩
      have HB5 := Lib.hid (HB4.out.below hb3)
      have HG5 := Lib.hid (grown_trans HG4.out (grown_any (below_grown hb3) _))
      clear hb3
      go_wp2
      go_ret2
      exact ⟨rfl, HB5.out, HG5.out⟩
  · have hev : evV e = .agg #[.int .i64 e.t, .int .i64 e.k, .bool true] := by simp only [evV, hed]
    rw [hev]
    rw [hed] at hcl hfr HB3 HG3 HKB
    simp only [Bool.not_true, Bool.false_and, Bool.false_eq_true, if_false]
    cases hp : r.pd
    · rw [hp] at hcl
      clear hev hf hed hp
      go_enter Try.func63, Try.ntmps63
      go_wp2_with fail
      go_ret2
      exact ⟨rfl, HB3.out, HG3.out⟩
    · rw [hp] at hcl
      clear hev hf hed hp
      go_enter Try.func63, Try.ntmps63
      go_wp2_with fail
      go_ret2
      exact ⟨rfl, HB3.out, HG3.out⟩

/-! ### The two assemblers as function values -/
theorem lastUp_any (w : World) : Calls Try.prog 47 #[] w fun e w' => e = .returned (.func (.func 61) #[] #[.pointer (some ⟨w.heap.size, 0, none⟩)]) ∧ w' = w.alloc (.cells (kbA 0) 65) := by
  have hz := kb_nil
  have hmf : ∀ (fn : Fn) (first cap : Array Value) (w : World), (Instr.makeFunc fn first cap).run Try.prog w = .ok (.func fn first cap) w := fun _ _ _ _ => rfl
  go_enter Try.func47, Try.ntmps47
  go_wp2_with fail
  go_ret
  exact ⟨rfl, rfl⟩
theorem firstUp_any (w : World) : Calls Try.prog 48 #[] w fun e w' => e = .returned (.func (.func 63) #[] #[.pointer (some ⟨w.heap.size, 0, none⟩)]) ∧ w' = w.alloc (.cells #[.bool false] 4) := by
  have hmf : ∀ (fn : Fn) (first cap : Array Value) (w : World), (Instr.makeFunc fn first cap).run Try.prog w = .ok (.func fn first cap) w := fun _ _ _ _ => rfl
  go_enter Try.func48, Try.ntmps48
  go_wp2_with fail
  go_ret
  exact ⟨rfl, rfl⟩
/-- LAST-UP MODE. -/
theorem lastEmits (g : Nat) : Emits g (fun w r => KB w g r.ch) (fun r e => decide (Pl.flip r.dn e = 0)) (fun r e => r.ch ||| Pl.flip r.dn e) (fun r => r.S) (fun r T => T = r.T) 61 where
  call := fun args w => Try.call61 args w
  keep := fun w w' row r hg hr h => h.kept hg hr
  X0 := rfl
  X1 := fun r e h => by unfold Pl.Run.step; dsimp only; rw [if_pos (of_decide_eq_true h)]
  X2 := fun r e h => by unfold Pl.Run.step; dsimp only; rw [if_neg (of_decide_eq_false h)]
  Y0 := rfl
  Y1 := fun r e T hT h => by subst hT; unfold Pl.Run.step; dsimp only; rw [if_pos (of_decide_eq_true h)]
  Y2 := fun r e T hT h => by subst hT; unfold Pl.Run.step; dsimp only; rw [if_neg (of_decide_eq_false h)]
  run := fun r e w h1 h2 h3 h4 h5 => lastUp1_any g r e w h1 h2 h3 h4 h5
/-- FIRST-UP MODE. -/
theorem firstEmits (g : Nat) : Emits g (fun w r => BB w g r.pd) (fun r e => !e.d && r.pd) (fun r _ => r.dn) (fun r => r.F) (fun _ _ => True) 63 where
  call := fun args w => Try.call63 args w
  keep := fun w w' row r hg hr h => h.kept hg hr
  X0 := rfl
  X1 := fun r e h => by
    unfold Pl.Run.step; dsimp only
    simp only [Bool.and_eq_true, Bool.not_eq_true'] at h
    rw [if_pos h]
  X2 := fun r e h => by
    unfold Pl.Run.step; dsimp only
    rw [if_neg (fun h' => by rw [h'.1, h'.2] at h; cases h)]
  Y0 := trivial
  Y1 := fun _ _ _ _ _ => trivial
  Y2 := fun _ _ _ _ _ => trivial
  run := fun r e w h1 _ _ h4 h5 => firstUp1_any g r e w h1 h4 h5
end Go.Proofs.Ytindcafdphfppaa
