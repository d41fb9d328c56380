/-
  CONTRACTS of the draws of chapter 5, continued: anyAtoms, DrawFormatTranslation.
-/
import Derived.Test.YtiajaeaffmmckaaDrawD
namespace Go.Proofs.Ytiajaeaffmmckaa
set_option maxRecDepth 100000
open Go.RowKit

/-- How long a slice is. -/
def sliceLen : Value → Nat
  | .slice _ n _ => n
  | _ => 0
theorem DA_mk {k : Int} {t : ByteArray} (ht : t.size ≤ 40) (h0 : -1 ≤ k) (h1 : k ≤ 20) : DA (k, t) := ⟨ht, h0, h1⟩
theorem DA_snoc {ls : List (Int × ByteArray)} {e : Int × ByteArray} (h : ∀ x ∈ ls, DA x) (he : DA e) : ∀ x ∈ ls ++ [e], DA x := by
  intro x hx
  rw [List.mem_append] at hx
  rcases hx with hx | hx
  · exact h x hx
  · simp at hx; subst hx; exact he
/-- A drawn list of atoms. -/
def DList (base : Nat) (w' : World) (e : Ending) : Prop := ∃ (v : Value) (ls : List (Int × ByteArray)), e = .returned v ∧ OwnT w' base v ls ∧ ls.length ≤ 11 ∧ ∀ x ∈ ls, DA x
set_option maxHeartbeats 4000000 in
theorem anyAtoms_any (B N : Nat) (w : World) (h : Cur w B N) (hN : N ≤ 800000) :
    Calls Try.prog 50 #[.pointer (some ⟨B, 0, none⟩)] w fun e w' => DList w.heap.size w' e ∧ w.grownBy w' (some B) := by
  have CP := Lib.hid (fun N n w h hN h0 h1 => pick_any B N n w h hN h0 h1)
  have CA := Lib.hid (fun N w h hN => atoms_any B N w h hN)
  have CY := Lib.hid (fun N w h hN => anyAtom_any B N w h hN)
  have hlt := h.lt
  have HC := Lib.hid h
  clear h
  go_enter Try.func50, Try.ntmps50
  go_wp2_with fail
  refine (CA.out N w HC.out (by omega)).mono ?_
  rintro e w1 ⟨⟨v, ls, rfl, ho, hl, hd⟩, hc1, hg1⟩
  have HC1 := Lib.hid hc1
  have HG1 := Lib.hid hg1
  have HO1 := Lib.hid ho
  have HD := Lib.hid hd
  clear hc1 hg1 ho hd HC
  go_wp2_with fail
  refine (CP.out (N + 50) 16 w1 HC1.out (by omega) (by omega) (by omega)).mono ?_
  rintro e w2 ⟨⟨r, r0, r1, rfl⟩, hc2, hg2⟩
  have HC2 := Lib.hid hc2
  have HG2 := Lib.hid (Lib.grownBy_trans HG1.out hg2)
  have HO2 := Lib.hid (ownT_keep HO1.out hg2 hlt)
  have hsz2 := HG2.out.size
  clear hc2 hg2 HC1 HG1 HO1
  have hr : r = 0 ∨ r = 1 ∨ r = 2 ∨ 3 ≤ r := by omega
  rcases hr with rfl | rfl | rfl | hr
  · go_wp2_with fail
    refine (CY.out (N + 50 + 2) w2 HC2.out (by omega)).mono ?_
    rintro e w3 ⟨⟨q, t, rfl, ht, hq0, hq1⟩, hc3, hg3⟩
    have HG3 := Lib.hid (Lib.grownBy_trans HG2.out hg3)
    have HO3 := Lib.hid (ownT_keep HO2.out hg3 hlt)
    have hsz3 := HG3.out.size
    clear hc3 hg3 HO2 HG2
    go_wp2_with (at_builtin; refine push_atom rfl _ _ rfl w.heap.size _ ls rfl HO3.out q t rfl hsz3 (by omega) ?_)
    intro v' w5 hown hg5 _
    have HO5 : Hid (OwnT w5 w.heap.size v' (ls ++ [(q, t)])) := hown
    have HG5 := Lib.hid (grown_rowA HG3.out hg5 (fun j hj => row_ge HO3.out hj))
    have HV5 := Lib.hid (DA_snoc HD.out (DA_mk ht hq0 hq1))
    clear hown hg5 HO3 HG3
    go_wp2
    go_ret
    exact ⟨⟨_, _, rfl, HO5.out, by rw [List.length_append]; simp; omega, HV5.out⟩, HG5.out⟩
  · have HO5 : Hid (OwnT (w2.alloc (.cells #[] 25)) w.heap.size (.slice (some ⟨w2.heap.size, 0, none⟩) 0 0) []) := by
      have e := ownT_new w2
      exact ⟨e.1, e.2.imp id fun ⟨g, c, cur, hv, hb, rest⟩ => ⟨g, c, cur, hv, by omega, rest⟩⟩
    have HG5 := Lib.hid (Lib.grownBy_trans HG2.out (World.grownBy_alloc w2 (.cells #[] 25) (some B)))
    go_wp2
    go_ret
    exact ⟨⟨_, [], rfl, HO5.out, by simp, fun x hx => by simp at hx⟩, HG5.out⟩
  · go_wp2_with fail
    go_loopw [3] (fun l wr => ∃ (ls : List (Int × ByteArray)) (a : Option Addr) (cap : Nat), l = .slice a ls.length cap ∧ ls.length ≤ 11 ∧ Hid (OwnT wr w.heap.size (.slice a ls.length cap) ls) ∧ Hid (∀ x ∈ ls, DA x) ∧ Hid (Cur wr B (N + 60 + 10 * ls.length)) ∧ Hid (w.grownBy wr (some B))) (fun l _ => 12 - sliceLen l)
    case atStart =>
      obtain ⟨a, cap, rfl, _⟩ := (ownT_at HO2.out).len
      exact ⟨ls, a, cap, rfl, by omega, HO2, HD, Lib.hid (HC2.out.mono (by omega)), HG2⟩
    case round =>
      obtain ⟨ls, a, cap, rfl, hlen, HO, HV, HCr, HG⟩ := hrel
      obtain ⟨n, hn⟩ : ∃ n, n = ls.length := ⟨_, rfl⟩
      rw [← hn] at HO HCr hlen ⊢
      have HNn := Lib.hid hn
      clear hn
      go_wp2_with fail
      have hNn : N + 60 + 10 * n ≤ 999000 := by omega
      refine (CP.out (N + 60 + 10 * n) 2 wr HCr.out hNn (by decide) (by decide)).mono ?_
      rintro e w3 ⟨⟨q, q0, q1, rfl⟩, hc3, hg3⟩
      have HC3 := Lib.hid hc3
      have HG3 := Lib.hid (Lib.grownBy_trans HG.out hg3)
      have HO3 : Hid (OwnT w3 w.heap.size (.slice a n cap) ls) := ownT_keep HO.out hg3 hlt
      clear hc3 hg3 HO HG HCr
      by_cases hq : (n : Int) < 10 + q
      · have hN2 : N + 60 + 10 * n + 2 ≤ 999000 := by omega
        go_wp2_with fail
        refine (of_new B (N + 60 + 10 * n + 2) w3 _ 2 HC3.out hN2 ?_ rfl (by decide) (by decide)).mono ?_
        · kernel_rfl
        rintro e w4 ⟨⟨x, hx, rfl⟩, hc4, hg4⟩
        have HC4 := Lib.hid hc4
        have HG4 := Lib.hid (Lib.grownBy_trans HG3.out hg4)
        have HO4 := Lib.hid (ownT_keep HO3.out hg4 hlt)
        have hsz4 := HG4.out.size
        clear hc4 hg4 HO3 HG3 HC3
        go_wp2_with (at_builtin; refine push_atom rfl _ _ rfl w.heap.size _ ls rfl HO4.out 1 x rfl hsz4 (by have := HNn.out; omega) ?_)
        intro v' w5 hown hg5 _
        have HO5 : Hid (OwnT w5 w.heap.size v' (ls ++ [(1, x)])) := hown
        have HC5 := Lib.hid (HC4.out.rowA hg5 (fun j hj => by have := row_ge HO4.out hj; omega))
        have HG5 := Lib.hid (grown_rowA HG4.out hg5 (fun j hj => row_ge HO4.out hj))
        have HV5 := Lib.hid (DA_snoc HV.out (DA_mk (k := 1) hx (by decide) (by decide)))
        obtain ⟨a', cap', rfl, _⟩ := (ownT_at HO5.out).len
        have hln : (ls ++ [((1 : Int), x)]).length = n + 1 := by rw [List.length_append, ← HNn.out]; rfl
        clear hown hg5 HO4 HC4 HG4 HV
        go_wp2
        go_roundw
        case rel => exact ⟨ls ++ [(1, x)], a', cap', rfl, by omega, HO5, HV5, Lib.hid (HC5.out.mono (by omega)), HG5⟩
        case measure => have := HNn.out; simp [sliceLen]; omega
      · have HL : Hid (ls.length ≤ 11) := by show _ ≤ _; have := HNn.out; omega
        go_wp2
        go_ret
        exact ⟨⟨_, ls, rfl, HO3.out, HL.out, HV.out⟩, HG3.out⟩
  · have n0 : (r == 0) = false := by rw [beq_eq_false_iff_ne]; omega
    have n1 : (r == 1) = false := by rw [beq_eq_false_iff_ne]; omega
    have n2 : (r == 2) = false := by rw [beq_eq_false_iff_ne]; omega
    go_wp2
    go_ret
    exact ⟨⟨_, ls, rfl, HO2.out, by omega, HD.out⟩, HG2.out⟩
theorem drawFormatTranslation_any (a : Option Addr) (n cap : Nat) (w : World) (h : CodeAt w a n) :
    Calls Try.prog 19 #[.slice a n cap] w fun e w' => (∃ (v : Value) (ls : List (Int × ByteArray)), e = .returned v ∧ AtomsAt w' v ls ∧ ls.length ≤ 11 ∧ ∀ x ∈ ls, DA x) ∧ Below w.heap.size w w' := by
  have CA := Lib.hid (fun B N w h hN => anyAtoms_any B N w h hN)
  have HC0 := Lib.hid (cur_new w a n cap 64 h)
  have HB0 : Hid (Below w.heap.size w (w.alloc (.cells #[.slice a n cap, .int .i64 0, .int .u64 0] 64))) := (Below.refl _ _).alloc (Nat.le_refl _) _
  clear h
  go_enter Try.func19, Try.ntmps19
  go_wp2_with fail
  refine (CA.out _ _ _ HC0.out (by omega)).mono ?_
  rintro e w1 ⟨⟨v, ls, rfl, ho, hl, hd⟩, hg1⟩
  have HA := Lib.hid (ownT_at ho)
  have HD := Lib.hid hd
  have HB1 := Lib.hid (below_cur HB0.out hg1)
  clear ho hd hg1
  go_wp2
  go_ret
  exact ⟨⟨_, ls, rfl, HA.out, hl, HD.out⟩, HB1.out⟩
end Go.Proofs.Ytiajaeaffmmckaa
