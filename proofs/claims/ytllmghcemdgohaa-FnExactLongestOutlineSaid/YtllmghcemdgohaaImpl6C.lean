/-
  CONTRACT of the program's chapter 6: LongestOutline.
-/
import Derived.Test.YtllmghcemdgohaaImpl6E
namespace Go.Proofs.Ytllmghcemdgohaa
set_option maxRecDepth 100000
open Go.RowKit

set_option maxHeartbeats 1000000 in
theorem LongestD_any (v : Value) (es : List Ent) (w : World) (h : EntsAt w v es) (hn : es.length ≤ 2097152) (hx : ∀ e ∈ es, entOk e) :
    Calls Try.prog 15 #[dV v] w fun r w' => r = lngE es ∧ Below w.heap.size w w' := by
  have c := fun w' hb => ValidD_any v es w' (h.below (w' := w') hb) hn hx
  obtain ⟨a, cap, rfl, hcap, hC⟩ := h.cells
  cases hg : okD es
  · rw [hg] at c
    rw [lngE_no hg]
    have C := Lib.hid c
    clear c h hx hg hC
    unfold dV at C ⊢
    go_enter Try.func15, Try.ntmps15
    go_wp2_with fail
    refine (C.out _ (below_al _ _)).mono ?_
    rintro r w1 ⟨rfl, hb⟩
    have HB := Lib.hid (below_box hb)
    clear hb
    go_wp2
    go_ret2
    exact ⟨rfl, HB.out⟩
  · rw [hg] at c
    rw [lngE_yes hg]
    have C := Lib.hid c
    obtain ⟨n, hnn⟩ : ∃ n, n = es.length := ⟨_, rfl⟩
    unfold dV at C ⊢
    rw [← hnn] at hn hcap C ⊢
    have HN := Lib.hid hnn
    have HC := Lib.hid hC
    clear c h hx hg hC hnn
    go_enter Try.func15, Try.ntmps15
    go_wp2_with fail
    refine (C.out _ (below_al _ _)).mono ?_
    rintro r w1 ⟨rfl, hb⟩
    have hbox := box1 hb
    have HB := Lib.hid (below_box hb)
    clear hb C
    go_wp2_with fail
    go_loopw [4, 13] (fun x i wr => ∃ k m : Nat, i = .int .i64 k ∧ k ≤ n ∧ x = .int .i64 m ∧ Hid (m = lng (es.take k)) ∧ Hid (Below w.heap.size w wr)) (fun _ i _ => n - (intOf i).toNat)
    case atStart => exact ⟨0, 0, rfl, Nat.zero_le _, rfl, Lib.hid rfl, HB⟩
    case round =>
      obtain ⟨k, m, rfl, hk, rfl, HM, HBr⟩ := hrel
      by_cases hlt : k < n
      · obtain ⟨e, he⟩ : ∃ e, es[k]? = some e := ⟨_, List.getElem?_eq_getElem (by rw [← HN.out]; exact hlt)⟩
        obtain ⟨bk, o, uk, rfl, hbk, g0, g1, gi⟩ := HC.out wr HBr.out k e he
        obtain ⟨xs, t⟩ := e
        simp only at g0 g1 gi
        obtain ⟨ua, ucap, rfl, _, _⟩ := gi.cells
        have HM2 : Hid (max m xs.length = lng (es.take (k + 1))) := by
          have := lng_next he
          show max m xs.length = _
          rw [this, HM.out]
        have HB2 : Hid (Below w.heap.size w (wr.alloc (.cells #[.slice ua xs.length ucap, .string t] 39))) := HBr.out.trans ((below_al wr _).mono HBr.out.size)
        clear he gi HM HC
        go_wp2
        go_roundw
        case rel => exact ⟨k + 1, max m xs.length, by go_num, by omega, by rw [show ((max m xs.length : Nat) : Int) = max (m : Int) (xs.length : Int) by omega], HM2, HB2⟩
        case measure => simp [intOf]; omega
      · obtain rfl : k = n := by omega
        have HF : Hid ((m : Int) = (lng es : Int)) := by
          show (m : Int) = _
          rw [HM.out, List.take_of_length_le (by rw [← HN.out]; exact Nat.le_refl _)]
        clear HM
        go_wp2
        go_ret2
        exact ⟨by rw [HF.out]; rfl, HBr.out⟩
end Go.Proofs.Ytllmghcemdgohaa
