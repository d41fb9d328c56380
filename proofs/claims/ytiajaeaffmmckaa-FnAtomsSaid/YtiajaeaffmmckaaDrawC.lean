/-
  CONTRACTS of the draws of chapter 5, continued: DrawParseAtom.
-/
import Derived.Test.YtiajaeaffmmckaaDrawB
namespace Go.Proofs.Ytiajaeaffmmckaa
set_option maxRecDepth 100000
open Go.RowKit

set_option maxHeartbeats 1000000 in
theorem drawParseAtom_any (a : Option Addr) (n cap : Nat) (w : World) (h : CodeAt w a n) :
    Calls Try.prog 16 #[.slice a n cap] w fun e w' => Text 200 e ∧ Below w.heap.size w w' := by
  have C1 := Lib.hid (fun B N n w h hN h0 h1 => one_any B N n w h hN h0 h1)
  have CA := Lib.hid (fun B N w h hN => atom_any B N w h hN)
  have CF := Lib.hid (fun k t w ht => l5Format_any k t w ht)
  have CX : Hid (∀ B N t w, Cur w B N → N ≤ 990000 → t.size ≤ 75 → Calls Try.prog 46 #[.pointer (some ⟨B, 0, none⟩), .string t, .string ⟨#[123, 125, 94, 38, 45, 124, 46, 62, 32]⟩] w fun e w' => Text 200 e ∧ Cur w' B (N + 6) ∧ w.grownBy w' (some B)) := by
    intro B N t w h hN ht
    refine (spoilt_any B N t _ w h hN (by omega) (by decide) (by decide)).mono ?_
    rintro e w' ⟨⟨x, hx, rfl⟩, hc, hg⟩
    exact ⟨⟨x, by omega, rfl⟩, hc, hg⟩
  have HC0 := Lib.hid (cur_new w a n cap 64 h)
  have HB0 : Hid (Below w.heap.size w (w.alloc (.cells #[.slice a n cap, .int .i64 0, .int .u64 0] 64))) := (Below.refl _ _).alloc (Nat.le_refl _) _
  clear h
  go_enter Try.func16, Try.ntmps16
  go_wp2_with fail
  refine (CA.out _ _ _ HC0.out (by omega)).mono ?_
  rintro e w1 ⟨⟨k, t0, rfl, ht0, _, _⟩, hc1, hg1⟩
  have HC1 := Lib.hid hc1
  have HB1 := Lib.hid (below_cur HB0.out hg1)
  clear hc1 hg1
  go_wp2_with fail
  refine (CF.out k t0 _ (by omega)).mono ?_
  rintro e w2 ⟨rfl, hb2⟩
  have hts := fmtB_size k t0
  obtain ⟨t, ht⟩ : ∃ t, t = fmtB k t0 := ⟨_, rfl⟩
  rw [← ht] at hts ⊢
  have hts2 : t.size ≤ 75 := by omega
  have HC2 := Lib.hid (HC1.out.below hb2)
  have HB2 := Lib.hid (HB1.out.trans (hb2.mono HB1.out.size))
  clear hb2 ht hts
  go_wp2_with fail
  refine (C1.out _ _ _ _ HC2.out (by omega) (by omega) (by omega)).mono ?_
  rintro e w3 ⟨⟨b, rfl⟩, hc3, hg3⟩
  have HC3 := Lib.hid hc3
  have HB3 := Lib.hid (below_cur HB2.out hg3)
  clear hc3 hg3
  cases b
  · go_wp2_with fail
    refine (C1.out _ _ _ _ HC3.out (by omega) (by omega) (by omega)).mono ?_
    rintro e w4 ⟨⟨b, rfl⟩, hc4, hg4⟩
    have HC4 := Lib.hid hc4
    have HB4 := Lib.hid (below_cur HB3.out hg4)
    clear hc4 hg4
    cases b
    · go_wp2
      go_ret
      exact ⟨⟨t, by omega, rfl⟩, HB4.out⟩
    · go_wp2_with fail
      refine (of_new w.heap.size _ w4 _ 13 HC4.out ?_ ?_ rfl (by decide) (by decide)).mono ?_
      · omega
      · kernel_rfl
      rintro e w5 ⟨⟨x, hx, rfl⟩, _, hg5⟩
      have HB5 := Lib.hid (below_cur HB4.out hg5)
      clear hg5
      go_wp2
      go_ret
      exact ⟨⟨x, by omega, rfl⟩, HB5.out⟩
  · go_wp2_with fail
    refine (CX.out _ _ t _ HC3.out (by omega) hts2).mono ?_
    rintro e w4 ⟨⟨x, hx, rfl⟩, hc4, hg4⟩
    have HB4 := Lib.hid (below_cur HB3.out hg4)
    clear hc4 hg4
    go_wp2
    go_ret
    exact ⟨⟨x, hx, rfl⟩, HB4.out⟩
end Go.Proofs.Ytiajaeaffmmckaa
