/-
  CONTRACTS of the program's chapter 5, the fifth part: PlainWords.
-/
import Derived.Test.YtiajaeaffmmckaaImpl5D
namespace Go.Proofs.Ytiajaeaffmmckaa
set_option maxRecDepth 100000
open Go.RowKit

set_option maxHeartbeats 2000000 in
theorem Plain_any (v : Value) (ls : List Atm) (w : World) (h : AtomsAt w v ls) (hn : ls.length ≤ 2097152) (hx : ∀ e ∈ ls, e.2.size ≤ 1048576) :
    Calls Try.prog 22 #[v] w fun e w' => OutOS w.heap.size w' (plainL ls) (okL ls) e ∧ Below w.heap.size w w' := by
  have c := FormatT_any v ls w h hn hx
  by_cases hok : okL ls = true
  · rw [fmtLE_yes hok] at c
    have hP : plainL ls = wordsOf ls := by unfold plainL; rw [if_pos hok]
    rw [hP, hok]
    have hl := (okL_parts hok)
    obtain ⟨bk, o, cap, rfl, hcap, _, hcell⟩ := h.some (by omega)
    have hl10 := hl.2.1
    have hl1 := hl.1
    obtain ⟨n, hnn⟩ : ∃ n, n = ls.length := ⟨_, rfl⟩
    rw [← hnn] at hcap hn hl10 hl1 c ⊢
    obtain ⟨t, ht⟩ : ∃ t, t = textB ls := ⟨_, rfl⟩
    rw [← ht] at c
    have C := Lib.hid c
    have HN := Lib.hid hnn
    have HC := Lib.hid hcell
    have HO0 : Hid (∀ w1 : World, w1.ownsRow w.heap.size 9 1 (.slice none 0 0) ([] : List ByteArray).length (([] : List ByteArray).map .string)) := fun w1 => World.ownsRow_nil _ _ _ _
    clear h hx hnn hcell c hok hP hl ht
    go_enter Try.func22, Try.ntmps22
    go_wp2_with fail
    refine C.out.mono ?_
    rintro e w1 ⟨rfl, hb⟩
    have HB1 := Lib.hid hb
    clear hb
    go_wp2_with fail
    go_loopw [6, 18] (fun o' i wr => ∃ k : Nat, i = .int .i64 k ∧ k ≤ n ∧ Hid (wr.ownsRow w.heap.size 9 1 o' (wordsOf (ls.take k)).length ((wordsOf (ls.take k)).map .string)) ∧ Below w.heap.size w wr) (fun _ i _ => n - (intOf i).toNat)
    case atStart => exact ⟨0, rfl, Nat.zero_le _, HO0.out _, HB1.out⟩
    case round =>
      obtain ⟨k, rfl, hk, HO, hbel⟩ := hrel
      have hszr := hbel.size
      by_cases hlt : k < n
      · obtain ⟨e, he⟩ : ∃ e, ls[k]? = some e := ⟨_, List.getElem?_eq_getElem (by rw [← HN.out]; exact hlt)⟩
        obtain ⟨g0, g1⟩ := HC.out wr hbel k e he
        have hnext := wordsOf_next he
        have hwl := wordsOf_len (ls.take k)
        rw [List.length_take] at hwl
        obtain ⟨ek, et⟩ := e
        simp only at g0 g1 hnext
        have hba : Below w.heap.size w (wr.alloc (.cells #[.int .i64 ek, .string et] 25)) := hbel.alloc hszr _
        have hsa : (wr.alloc (.cells #[.int .i64 ek, .string et] 25)).heap.size = wr.heap.size + 1 := by simp
        have HOa : Hid ((wr.alloc (.cells #[.int .i64 ek, .string et] 25)).ownsRow w.heap.size 9 1 u6 (wordsOf (ls.take k)).length ((wordsOf (ls.take k)).map .string)) := HO.out.alloc _
        have HBa := Lib.hid hba
        clear hba
        by_cases hq : ek = 1
        · subst hq
          have HNext : Hid (wordsOf (ls.take (k + 1)) = wordsOf (ls.take k) ++ [et]) := hnext
          clear hnext he
          go_wp2_with (at_builtin; refine push_str rfl _ _ rfl w.heap.size _ _ rfl HOa.out et (by rw [hsa]; rfl) (by omega) (by omega) ?_)
          intro v' w3 hown' hgrow hat
          have HO3 : Hid (w3.ownsRow w.heap.size 9 1 v' (wordsOf (ls.take (k + 1))).length ((wordsOf (ls.take (k + 1))).map .string)) := by
            show World.ownsRow _ _ _ _ _ _ _
            rw [HNext.out, List.length_append, List.map_append]; exact hown'
          have HB3 : Hid (Below w.heap.size w w3) := HBa.out.grown hgrow (by omega) fun j hj => row_ge HO.out hj
          clear hown' hgrow hat g0 g1 HNext
          go_wp2
          go_roundw
          case rel => exact ⟨k + 1, by go_num, by omega, HO3, HB3.out⟩
          case measure => simp [intOf]; omega
        · have hq2 : (ek == 1) = false := by rw [beq_eq_false_iff_ne]; exact hq
          rw [hq2, if_neg (by decide), List.append_nil] at hnext
          have HO3 : Hid ((wr.alloc (.cells #[.int .i64 ek, .string et] 25)).ownsRow w.heap.size 9 1 u6 (wordsOf (ls.take (k + 1))).length ((wordsOf (ls.take (k + 1))).map .string)) := by rw [hnext]; exact HOa
          clear hnext he HO
          go_wp2
          go_roundw
          case rel => exact ⟨k + 1, by go_num, by omega, HO3, HBa.out⟩
          case measure => simp [intOf]; omega
      · obtain rfl : k = n := by omega
        have hA := HO.out
        rw [List.take_of_length_le (by rw [← HN.out]; exact Nat.le_refl _)] at hA
        have HA := Lib.hid (ownStrs_of hA)
        clear hA HO
        go_wp2
        go_ret2
        exact ⟨⟨_, rfl, HA.out⟩, hbel⟩
  · have hb : okL ls = false := by rw [← Bool.not_eq_true]; exact hok
    rw [fmtLE_no hb] at c
    have hP : plainL ls = [] := by unfold plainL; rw [if_neg hok]
    rw [hP, hb]
    have C := Lib.hid c
    clear h hx hn hP hok hb c
    go_enter Try.func22, Try.ntmps22
    go_wp2_with fail
    refine C.out.mono ?_
    rintro e w1 ⟨rfl, hb⟩
    have HB1 := Lib.hid hb
    clear hb
    go_wp2
    go_ret2
    exact ⟨⟨_, rfl, .inl ⟨rfl, _, _, rfl⟩⟩, HB1.out⟩
end Go.Proofs.Ytiajaeaffmmckaa
