/-
  CONTRACTS of the specification's chapter 11, third part: Segment, CountUntranslated, IsSegmentation.
-/
import Derived.Test.YthigdblloddepaaSgB
import Derived.Test.YthigdblloddepaaPlainSeB
namespace Go.Proofs.Ythigdblloddepaa
set_option maxRecDepth 100000
open Go.RowKit

theorem parLB_ne {t : ByteArray} (h : parLB t = true) : t.data.toList ≠ [] := by
  intro e
  have : t = ⟨#[]⟩ := ByteArray.ext (Array.toList_inj.1 e)
  subst this
  have h2 : parLB ⟨#[]⟩ = false := by kernel_rfl
  rw [h2] at h; cases h
theorem okD_fine {es : List Ent} (h : okD es = true) : ∀ e ∈ es, e.1.length ≤ 6 ∧ e.2.data.toList ≠ [] := fun e he => by
  have := (okD_parts h).2.1 e he
  exact ⟨(okE_size this).2.1, parLB_ne (okE_O this).2⟩
/-- The dictionary and the strokes are valid. -/
def sgB (es : List Ent) (xs : List Int) : Bool := okD es && okS60 xs
def sgL (es : List Ent) (xs : List Int) : List Pc := if sgB es xs = true then Pl.segP es xs 0 else []
def isB (es : List Ent) (xs : List Int) (ls : List Pc) : Bool := sgB es xs && Pl.segB es xs 0 ls
set_option maxHeartbeats 2000000 in
theorem specSegment_any (v : Value) (es : List Ent) (u : Value) (xs : List Int) (w : World) (h : EntsAt w v es) (hu : IntsAt w u xs) (hn : es.length ≤ 2097152) (hx : ∀ e ∈ es, entOk e) (hxn : xs.length ≤ 2097152) :
    Calls Try.prog 16 #[dV v, u] w fun r w' => (∃ y, r = .returned (.tuple #[y, .bool (sgB es xs)]) ∧ OwnP w' w.heap.size y (sgL es xs)) ∧ Below w.heap.size w w' := by
  have cg := fun w' hb => l6Good_any v es w' (h.below (w' := w') hb) hn hx
  have cs := fun w' hb => l11Strokes_any u xs w' (hu.below (w' := w') hb) hxn
  have CM := Lib.hid (fun w' hb h60 => l11Segment_any v es u xs w' (h.below hb) (hu.below hb) hn hx h60)
  have HB : Hid (sgB es xs = (okD es && okS60 xs)) := rfl
  have HL : Hid (sgL es xs = if sgB es xs = true then Pl.segP es xs 0 else []) := rfl
  obtain ⟨a, cap, rfl, hcap, _⟩ := h.cells
  obtain ⟨ua, uc, rfl, huc, _⟩ := hu.cells
  obtain ⟨n, hnn⟩ : ∃ n, n = xs.length := ⟨_, rfl⟩
  obtain ⟨dn, hdn⟩ : ∃ n, n = es.length := ⟨_, rfl⟩
  have HX60 := Lib.hid (fun h : okS60 xs = true => (okS60_yes h).1)
  rw [← hnn] at cs CM huc HX60 hxn ⊢
  unfold dV at cg CM ⊢
  rw [← hdn] at cg CM hcap ⊢
  have A2 := Lib.hid (BoxV.new w 33 (.slice a dn cap))
  have BX := Lib.hid (below_al w (.cells #[.slice a dn cap] 33))
  clear h hu hnn hdn
  obtain ⟨bD, hbD⟩ : ∃ b, b = okD es := ⟨_, rfl⟩
  obtain ⟨bS, hbS⟩ : ∃ b, b = okS60 xs := ⟨_, rfl⟩
  obtain ⟨B, hB⟩ : ∃ b, b = sgB es xs := ⟨_, rfl⟩
  obtain ⟨L, hL⟩ : ∃ b, b = sgL es xs := ⟨_, rfl⟩
  obtain ⟨S, hS⟩ : ∃ b, b = Pl.segP es xs 0 := ⟨_, rfl⟩
  rw [← hB] at HB HL ⊢
  rw [← hL] at HL ⊢
  rw [← hS] at HL CM
  rw [← hbD, ← hbS] at HB
  rw [← hbD] at cg
  rw [← hbS] at cs HX60
  have CG := Lib.hid cg
  have CS := Lib.hid cs
  clear cg cs hbD hbS hx hn hB hL hS
  go_enter Try.func16, Try.ntmps16
  cases bD
  · obtain rfl : B = false := HB.out
    obtain rfl : L = [] := HL.out
    go_wp2_with fail
    refine (CG.out _ BX.out).mono ?_
    rintro r w1 ⟨rfl, hb⟩
    have B1 := Lib.hid (below_step BX.out hb)
    have hs1 : w.heap.size ≤ w1.heap.size := B1.out.size
    have O1 := Lib.hid (ownsRow_mono (ownP_new w1) hs1)
    have B2 := Lib.hid (below_step B1.out (below_al w1 (.cells #[] 28)))
    clear hb CG CS CM HB HL A2 HX60
    go_wp2
    go_ret2
    exact ⟨⟨_, rfl, O1.out⟩, B2.out⟩
  · cases bS
    · obtain rfl : B = false := HB.out
      obtain rfl : L = [] := HL.out
      go_wp2_with fail
      refine (CG.out _ BX.out).mono ?_
      rintro r w1 ⟨rfl, hb⟩
      have B1 := Lib.hid (below_step BX.out hb)
      clear hb
      go_wp2_with fail
      refine (CS.out _ B1.out).mono ?_
      rintro r w2 ⟨rfl, rfl⟩
      have hs1 : w.heap.size ≤ w1.heap.size := B1.out.size
      have O1 := Lib.hid (ownsRow_mono (ownP_new w1) hs1)
      have B2 := Lib.hid (below_step B1.out (below_al w1 (.cells #[] 28)))
      clear CG CS CM HB HL A2 HX60
      go_wp2
      go_ret2
      exact ⟨⟨_, rfl, O1.out⟩, B2.out⟩
    · obtain rfl : B = true := HB.out
      obtain rfl : L = S := HL.out
      have CM1 := Lib.hid (fun w' hb => CM.out w' hb (HX60.out (by first | rfl | trivial)))
      go_wp2_with fail
      refine (CG.out _ BX.out).mono ?_
      rintro r w1 ⟨rfl, hb⟩
      have A3 := Lib.hid (A2.out.below hb (by simp))
      have B1 := Lib.hid (below_step BX.out hb)
      clear hb CM HX60
      go_wp2_with fail
      refine (CS.out _ B1.out).mono ?_
      rintro r w2 ⟨rfl, rfl⟩
      have c3 := A3.out.cell
      have hs1 : w.heap.size ≤ w1.heap.size := B1.out.size
      go_wp2_with fail
      refine (CM1.out _ B1.out).mono ?_
      rintro r w3 ⟨⟨y, rfl, hy⟩, hb⟩
      have O1 := Lib.hid (ownsRow_mono hy hs1)
      have B3 := Lib.hid (below_step B1.out hb)
      clear hb hy CG CS CM1 A2 A3 c3 B1
      go_wp2
      go_ret2
      exact ⟨⟨_, rfl, O1.out⟩, B3.out⟩
theorem size_zero_iff (t : ByteArray) : t.size = 0 ↔ t.data.toList = [] := by
  constructor
  · intro h; exact List.length_eq_zero_iff.1 h
  · intro h; show t.data.toList.length = 0; rw [h]; rfl
theorem untr_take {ls : List Pc} {k : Nat} {e : Pc} (h : ls[k]? = some e) : Pl.untr (ls.take (k + 1)) = Pl.untr (ls.take k) + if e.2.2.data.toList = [] then 1 else 0 := by
  rw [List.take_add_one, h]
  show Pl.untr (ls.take k ++ [e]) = _
  rw [Pl.untr_snoc]
  congr 1
  by_cases hz : e.2.2.size = 0
  · rw [if_pos hz, if_pos ((size_zero_iff _).1 hz)]
  · rw [if_neg hz, if_neg (fun q => hz ((size_zero_iff _).2 q))]
set_option maxHeartbeats 1000000 in
theorem specCountUntranslated_any (v : Value) (ls : List Pc) (w : World) (h : PcsAt w v ls) (hn : ls.length ≤ 2097152) :
    Calls Try.prog 27 #[v] w fun r w' => r = .returned (.int .i64 (Pl.untr ls : Int)) ∧ Below w.heap.size w w' := by
  obtain ⟨a, cap, rfl, hcap, h⟩ := h
  obtain ⟨n, hnn⟩ : ∃ n, n = ls.length := ⟨_, rfl⟩
  rw [← hnn] at hn hcap ⊢
  have HN := Lib.hid hnn
  have HC : Hid (∀ (j : Nat) e, ls[j]? = some e → ∃ bk o, a = some ⟨bk, o, none⟩ ∧ w.cell? ⟨bk, o + j * 3, none⟩ = some (.int .i64 e.1) ∧ w.cell? ⟨bk, o + j * 3 + 1, none⟩ = some (.int .i64 e.2.1) ∧ w.cell? ⟨bk, o + j * 3 + 2, none⟩ = some (.string e.2.2)) := by
    intro j e he
    rcases h with rfl | ⟨bk, o, ha, hk, h⟩
    · simp at he
    · obtain ⟨g0, g1, g2⟩ := h j e he
      exact ⟨bk, o, ha, g0, g1, g2⟩
  have HT := Lib.hid (fun k e (he : ls[k]? = some e) => untr_take he)
  have HL := Lib.hid (fun k => show Pl.untr (ls.take k) ≤ k from by have := Pl.untr_le (ls.take k); rw [List.length_take] at this; omega)
  have HE : Hid (Pl.untr (ls.take n) = Pl.untr ls) := by show _ = _; rw [hnn, List.take_length]
  obtain ⟨R, hR⟩ : ∃ R, R = Pl.untr ls := ⟨_, rfl⟩
  obtain ⟨U, hU⟩ : ∃ U : Nat → Nat, U = fun k => Pl.untr (ls.take k) := ⟨_, rfl⟩
  have HT1 : Hid (∀ k e, ls[k]? = some e → U (k + 1) = U k + if e.2.2.data.toList = [] then 1 else 0) := by rw [hU]; exact HT.out
  have HL1 : Hid (∀ k, U k ≤ k) := by rw [hU]; exact HL.out
  have HE1 : Hid (U n = R) := by rw [hU, hR]; exact HE.out
  have HU0 : Hid (U 0 = 0) := by rw [hU]; rfl
  rw [← hR]
  clear h hnn HT HL HE hU hR
  go_enter Try.func27, Try.ntmps27
  go_wp2_with fail
  go_loopw [3, 4] (fun c i wr => ∃ k q : Nat, i = .int .i64 k ∧ c = .int .i64 q ∧ q ≤ k ∧ k ≤ n ∧ Hid (U k = q) ∧ wr = w) (fun _ i _ => n - (intOf i).toNat)
  case atStart => exact ⟨0, 0, rfl, rfl, Nat.le_refl _, Nat.zero_le _, HU0, rfl⟩
  case round =>
    obtain ⟨k, q, rfl, rfl, hq, hk, HUk, rfl⟩ := hrel
    by_cases hlt : k < n
    · obtain ⟨e, he⟩ : ∃ e, ls[k]? = some e := ⟨_, List.getElem?_eq_getElem (by rw [← HN.out]; exact hlt)⟩
      obtain ⟨bk, o, rfl, g0, g1, g2⟩ := HC.out k e he
      have ht := HT1.out k e he
      rw [HUk.out] at ht
      obtain ⟨t, htt⟩ : ∃ t, t = e.2.2 := ⟨_, rfl⟩
      rw [← htt] at ht g2
      by_cases hz : t.data.toList = []
      · rw [if_pos hz] at ht
        have HUn := Lib.hid ht
        have htz : t = ⟨#[]⟩ := ByteArray.ext (Array.toList_inj.1 hz)
        subst htz
        clear he ht htt HUk HT1 hz
        go_wp2
        go_roundw
        case rel => exact ⟨k + 1, q + 1, by go_num, by go_num, by omega, by omega, HUn, by trivial⟩
        case measure => simp [intOf]; omega
      · rw [if_neg hz] at ht
        have HUn := Lib.hid ht
        have hz2 : t.toList.isEmpty = false := by
          rw [Lib.toList_data]
          cases hl : t.data.toList with
          | nil => exact absurd hl hz
          | cons _ _ => rfl
        clear he ht htt HUk HT1
        go_wp2
        go_roundw
        case rel => exact ⟨k + 1, q, by go_num, rfl, by omega, by omega, HUn, by trivial⟩
        case measure => simp [intOf]; omega
    · obtain rfl : k = n := by omega
      have HF : Hid (q = R) := HUk.out.symm.trans HE1.out
      clear HUk HT1 HE1
      go_wp2
      go_ret
      exact ⟨by rw [HF.out]; rfl, Below.refl _ _⟩
end Go.Proofs.Ythigdblloddepaa
