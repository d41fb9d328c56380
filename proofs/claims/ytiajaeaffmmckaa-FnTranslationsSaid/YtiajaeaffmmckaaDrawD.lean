/-
  CONTRACTS of the draws of chapter 5, continued: atoms.
-/
import Derived.Test.YtiajaeaffmmckaaDrawC
import Derived.Test.YtiajaeaffmmckaaTransB
namespace Go.Proofs.Ytiajaeaffmmckaa
set_option maxRecDepth 100000
open Go.RowKit

theorem ownT_keep {w w' : World} {base B : Nat} {v : Value} {ls : List (Int × ByteArray)} (h : OwnT w base v ls) (hg : w.grownBy w' (some B)) (hB : B < base) : OwnT w' base v ls := by
  refine h.kept hg ?_
  rcases h.2 with ⟨rfl, _⟩ | ⟨g, cap, cur, rfl, hb, _⟩
  · exact .inl rfl
  · right
    intro e
    have : g = B := by simpa [Value.ownBlock] using e
    omega
theorem grown_rowA {w w1 w2 : World} {B : Nat} {row : Option Nat} (h : w.grownBy w1 (some B)) (hg : w1.grownBy w2 row) (hr : ∀ k, row = some k → w.heap.size ≤ k) : w.grownBy w2 (some B) :=
  ⟨hg.os.trans h.os, hg.tape.trans h.tape, hg.output.trans h.output, Nat.le_trans h.size hg.size, fun k hk hne => (hg.block k (Nat.lt_of_lt_of_le hk h.size) (fun e => by have := hr k e.symm; omega)).trans (h.block k hk hne)⟩
theorem Cur.rowA {w1 w2 : World} {B N : Nat} {row : Option Nat} (h : Cur w1 B N) (hg : w1.grownBy w2 row) (hr : ∀ k, row = some k → B < k) : Cur w2 B N :=
  h.keep ((Below.refl _ _).grown hg h.lt (fun k hk => hr k hk))
/-- A drawn atom's bounds. -/
def DA (e : Int × ByteArray) : Prop := e.2.size ≤ 40 ∧ -1 ≤ e.1 ∧ e.1 ≤ 20
set_option maxHeartbeats 2000000 in
theorem atoms_any (B N : Nat) (w : World) (h : Cur w B N) (hN : N ≤ 900000) :
    Calls Try.prog 62 #[.pointer (some ⟨B, 0, none⟩)] w fun e w' => (∃ (v : Value) (ls : List (Int × ByteArray)), e = .returned v ∧ OwnT w' w.heap.size v ls ∧ ls.length ≤ 4 ∧ ∀ x ∈ ls, DA x) ∧ Cur w' B (N + 50) ∧ w.grownBy w' (some B) := by
  have CP := Lib.hid (fun N n w h hN h0 h1 => pick_any B N n w h hN h0 h1)
  have CA := Lib.hid (fun N w h hN => atom_any B N w h hN)
  have hlt := h.lt
  have HC0 := Lib.hid (h.below ((Below.refl _ _).alloc (Nat.le_refl _) (.cells #[] 25)))
  have HO0 := Lib.hid (ownT_new w)
  clear h
  go_enter Try.func62, Try.ntmps62
  go_wp2_with fail
  refine (CP.out _ _ _ HC0.out (by omega) (by omega) (by omega)).mono ?_
  rintro e w1 ⟨⟨r, r0, r1, rfl⟩, hc1, hg1⟩
  obtain ⟨R, rfl⟩ := Int.eq_ofNat_of_zero_le r0
  have HC1 := Lib.hid hc1
  have HG1 := Lib.hid (grown_allocA hg1)
  have HO1 := Lib.hid (ownT_keep HO0.out hg1 hlt)
  clear hc1 hg1
  go_wp2_with fail
  go_loopw [3, 4] (fun l i wr => ∃ (k : Nat) (ls : List (Int × ByteArray)), i = .int .i64 k ∧ k ≤ 4 ∧ ls.length + k ≤ 4 ∧ Hid (OwnT wr w.heap.size l ls) ∧ Hid (∀ x ∈ ls, DA x) ∧ Hid (Cur wr B (N + 50 - 10 * k)) ∧ Hid (w.grownBy wr (some B))) (fun _ i _ => (intOf i).toNat)
  case atStart => exact ⟨1 + R, [], by go_num, by omega, by simp; omega, HO1, Lib.hid (fun x hx => by simp at hx), Lib.hid (HC1.out.mono (by omega)), HG1⟩
  case round =>
    obtain ⟨k, ls, rfl, hk, hlen, HO, HV, HC, HG⟩ := hrel
    by_cases hpos : 0 < k
    · have hpos' : (0 : Int) < (k : Int) := by omega
      go_wp2_with fail
      refine (CA.out _ _ HC.out (by omega)).mono ?_
      rintro e w3 ⟨⟨q, t, rfl, ht, hq0, hq1⟩, hc3, hg3⟩
      have HC3 := Lib.hid hc3
      have HG3 := Lib.hid (Lib.grownBy_trans HG.out hg3)
      have HO3 := Lib.hid (ownT_keep HO.out hg3 hlt)
      have hsz3 := HG3.out.size
      clear hc3 hg3 HO HC HG
      go_wp2_with (at_builtin; refine push_atom rfl _ _ rfl w.heap.size _ ls rfl HO3.out q t rfl hsz3 (by omega) ?_)
      intro v' w5 hown hg5 _
      have HO5 : Hid (OwnT w5 w.heap.size v' (ls ++ [(q, t)])) := hown
      have HC5 := Lib.hid (HC3.out.rowA hg5 (fun j hj => by have := row_ge HO3.out hj; omega))
      have HG5 := Lib.hid (grown_rowA HG3.out hg5 (fun j hj => row_ge HO3.out hj))
      have HV5 : Hid (∀ x ∈ ls ++ [(q, t)], DA x) := by
        intro x hx
        rw [List.mem_append] at hx
        rcases hx with hx | hx
        · exact HV.out x hx
        · simp at hx; subst hx; exact ⟨ht, hq0, hq1⟩
      clear hown hg5 HO3 HC3 HG3 HV
      go_wp2
      go_roundw
      case rel => exact ⟨k - 1, ls ++ [(q, t)], by first | go_num | (congr 1; omega), by omega, by rw [List.length_append]; simp; omega, HO5, HV5, Lib.hid (HC5.out.mono (by omega)), HG5⟩
      case measure => simp [intOf]; omega
    · obtain rfl : k = 0 := by omega
      go_wp2
      go_ret
      exact ⟨⟨_, ls, rfl, HO.out, by omega, HV.out⟩, HC.out.mono (by omega), HG.out⟩
theorem textB_ok {ls : List (Int × ByteArray)} (h : okL ls = true) : (textB ls).size ≤ 60 := by
  obtain ⟨h1, _, _, h4⟩ := okL_parts h
  have := textB_size (ls := ls) (by intro e; rw [e] at h1; simp at h1)
  omega
set_option maxHeartbeats 1000000 in
theorem translation_any (B N : Nat) (w : World) (h : Cur w B N) (hN : N ≤ 900000) :
    Calls Try.prog 54 #[.pointer (some ⟨B, 0, none⟩)] w fun e w' => Text 60 e ∧ Cur w' B (N + 50) ∧ w.grownBy w' (some B) := by
  have CA := Lib.hid (fun N w h hN => atoms_any B N w h hN)
  have CL := Lib.hid (fun v ls w h hn hx => l5List_any v ls w h hn hx)
  have CT := Lib.hid (fun v ls w h hn hx => l5Text_any v ls w h hn hx)
  have HC := Lib.hid h
  clear h
  go_enter Try.func54, Try.ntmps54
  go_wp2_with fail
  refine (CA.out N w HC.out hN).mono ?_
  rintro e w1 ⟨⟨v, ls, rfl, ho, hl, hd⟩, hc1, hg1⟩
  have HC1 := Lib.hid hc1
  have HG1 := Lib.hid hg1
  have hA := ownT_at ho
  have HA := Lib.hid hA
  have hx : ∀ e ∈ ls, e.2.size ≤ 1048600 := fun e he => by have := (hd e he).1; omega
  have cl := CL.out v ls w1 hA (by omega) hx
  have ct := fun w h => CT.out v ls w h (by omega) hx
  have htb := fun h => textB_ok (ls := ls) h
  obtain ⟨b, hb⟩ : ∃ b, b = okL ls := ⟨_, rfl⟩
  obtain ⟨x, hxx⟩ : ∃ x, x = textB ls := ⟨_, rfl⟩
  rw [← hb] at cl htb
  rw [← hxx] at ct htb
  have CL1 := Lib.hid cl
  have CT1 := Lib.hid ct
  have HTB := Lib.hid htb
  clear hc1 hg1 ho hA hx cl ct htb hb hxx hd CL CT
  go_wp2_with fail
  refine (CL1.out).mono ?_
  rintro e w2 ⟨rfl, hb2⟩
  have HC2 := Lib.hid (HC1.out.below hb2)
  have HG2 := Lib.hid (Lib.grownBy_below HG1.out hb2)
  have HA2 := Lib.hid (HA.out.below hb2)
  clear hb2 HC1 HG1 HA
  cases b
  · go_wp2
    go_ret
    exact ⟨⟨_, by decide, rfl⟩, HC2.out, HG2.out⟩
  · have hts := HTB.out (by first | rfl | trivial)
    go_wp2_with fail
    refine (CT1.out w2 HA2.out).mono ?_
    rintro e w3 ⟨rfl, hb3⟩
    have HC3 := Lib.hid (HC2.out.below hb3)
    have HG3 := Lib.hid (Lib.grownBy_below HG2.out hb3)
    clear hb3 HC2 HG2
    go_wp2
    go_ret
    exact ⟨⟨x, hts, rfl⟩, HC3.out, HG3.out⟩
set_option maxHeartbeats 1000000 in
theorem drawParseTranslation_any (a : Option Addr) (n cap : Nat) (w : World) (h : CodeAt w a n) :
    Calls Try.prog 24 #[.slice a n cap] w fun e w' => Text 200 e ∧ Below w.heap.size w w' := by
  have C1 := Lib.hid (fun B N n w h hN h0 h1 => one_any B N n w h hN h0 h1)
  have CA := Lib.hid (fun B N w h hN => translation_any B N w h hN)
  have CX : Hid (∀ B N t w, Cur w B N → N ≤ 990000 → t.size ≤ 75 → Calls Try.prog 46 #[.pointer (some ⟨B, 0, none⟩), .string t, .string ⟨#[123, 125, 94, 38, 45, 124, 46, 62, 32]⟩] w fun e w' => Text 200 e ∧ Cur w' B (N + 6) ∧ w.grownBy w' (some B)) := by
    intro B N t w h hN ht
    refine (spoilt_any B N t _ w h hN (by omega) (by decide) (by decide)).mono ?_
    rintro e w' ⟨⟨x, hx, rfl⟩, hc, hg⟩
    exact ⟨⟨x, by omega, rfl⟩, hc, hg⟩
  have HC0 := Lib.hid (cur_new w a n cap 64 h)
  have HB0 : Hid (Below w.heap.size w (w.alloc (.cells #[.slice a n cap, .int .i64 0, .int .u64 0] 64))) := (Below.refl _ _).alloc (Nat.le_refl _) _
  clear h
  go_enter Try.func24, Try.ntmps24
  go_wp2_with fail
  refine (CA.out _ _ _ HC0.out (by omega)).mono ?_
  rintro e w2 ⟨⟨t, hts, rfl⟩, hc2, hg2⟩
  have HC2 := Lib.hid hc2
  have HB2 := Lib.hid (below_cur HB0.out hg2)
  have hts2 : t.size ≤ 75 := by omega
  clear hc2 hg2
  go_wp2_with fail
  refine (C1.out _ _ _ _ HC2.out (by omega) (by omega) (by omega)).mono ?_
  rintro e w3 ⟨⟨b, rfl⟩, hc3, hg3⟩
  have HC3 := Lib.hid hc3
  have HB3 := Lib.hid (below_cur HB2.out hg3)
  clear hc3 hg3
  cases b
  · go_wp2_with fail
    refine (C1.out _ _ _ _ HC3.out (by omega) (by omega) (by omega)).mono ?_
    rintro e w4 ⟨⟨b, rfl⟩, hc4, hg4⟩
    have HC4 := Lib.hid hc4
    have HB4 := Lib.hid (below_cur HB3.out hg4)
    clear hc4 hg4
    cases b
    · go_wp2
      go_ret
      exact ⟨⟨t, by omega, rfl⟩, HB4.out⟩
    · go_wp2_with fail
      refine (of_new w.heap.size _ w4 _ 5 HC4.out ?_ ?_ rfl (by decide) (by decide)).mono ?_
      · omega
      · kernel_rfl
      rintro e w5 ⟨⟨x, hx, rfl⟩, _, hg5⟩
      have HB5 := Lib.hid (below_cur HB4.out hg5)
      clear hg5
      go_wp2
      go_ret
      exact ⟨⟨x, by omega, rfl⟩, HB5.out⟩
  · go_wp2_with fail
    refine (CX.out _ _ t _ HC3.out (by omega) hts2).mono ?_
    rintro e w4 ⟨⟨x, hx, rfl⟩, hc4, hg4⟩
    have HB4 := Lib.hid (below_cur HB3.out hg4)
    clear hc4 hg4
    go_wp2
    go_ret
    exact ⟨⟨x, hx, rfl⟩, HB4.out⟩
end Go.Proofs.Ytiajaeaffmmckaa
