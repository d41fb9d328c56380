/-
  THE LAWS' szAtomS at whatever is left.
-/
import Derived.Test.YtnpiphkglhcifaaDoorAtomS
namespace Go.Proofs.YtnpiphkglhcifaaDoor
set_option maxRecDepth 100000
open Go.RowKit

set_option maxHeartbeats 1000000 in
theorem szAs_left (v : Value) (ls : List Atm) (left : Int) (w : World) (hl0 : 0 ≤ left) (hl1 : left ≤ 1048576) (h : AtomsAt w v ls) (hn : ls.length ≤ maxLen) (hx : ∀ e ∈ ls, e.2.size ≤ maxLen) :
    Calls Tryd.prog 18 #[v, .int .i64 left] w fun e w' => (∃ r : Int, e = .returned (.int .i64 r) ∧ (0 ≤ r → ls.length ≤ 1048576 ∧ ∀ e ∈ ls, e.2.size ≤ 1048576)) ∧ Below w.heap.size w w' := by
  unfold maxLen at hn
  have HX := Lib.hid (fun k e (h : ls[k]? = some e) => hx e (List.mem_of_getElem? h))
  obtain ⟨a, cap, rfl, hcap, h⟩ := h
  obtain ⟨n, hnn⟩ : ∃ n, n = ls.length := ⟨_, rfl⟩
  rw [← hnn] at hn hcap ⊢
  have HN := Lib.hid hnn
  have HB : Hid (∀ w1 : World, Below w.heap.size w w1 → ∀ (j : Nat) e, 0 < n → ls[j]? = some e → ∃ bk o, a = some ⟨bk, o, none⟩ ∧ bk < w.heap.size ∧ w1.cell? ⟨bk, o + j * 2, none⟩ = some (.int .i64 e.1) ∧ w1.cell? ⟨bk, o + j * 2 + 1, none⟩ = some (.string e.2)) := by
    intro w1 hb j e h0 he
    rcases h with rfl | ⟨bk, o, ha, hk, h⟩
    · simp at hnn; omega
    · obtain ⟨g0, g1⟩ := h j e he
      exact ⟨bk, o, ha, hk, (hb.cell (p := ⟨bk, o + j * 2, none⟩) hk).trans g0, (hb.cell (p := ⟨bk, o + j * 2 + 1, none⟩) hk).trans g1⟩
  have CZ := Lib.hid (fun k t left w hl hl2 ht => szAtom_any k t left w hl hl2 ht)
  clear h hnn hx
  by_cases hbig : left < (n : Int)
  · go_enter Tryd.func18, Tryd.ntmps18
    go_wp2
    go_ret
    exact ⟨⟨-1, rfl, fun h => absurd h (by decide)⟩, Below.refl _ _⟩
  · go_enter Tryd.func18, Tryd.ntmps18
    go_wp2_with fail
    go_loopw [1, 5] (fun l i wr => ∃ (k : Nat) (r : Int), k ≤ n ∧ i = .int .i64 k ∧ l = .int .i64 r ∧ 0 ≤ r ∧ r ≤ 1048576 ∧ Hid (∀ e ∈ ls.take k, e.2.size ≤ 1048576) ∧ Below w.heap.size w wr) (fun _ i _ => n - (intOf i).toNat)
    case atStart => exact ⟨0, left - n, Nat.zero_le _, rfl, by first | rfl | go_num, by omega, by omega, by exact Lib.hid (fun e he => by simp at he), Below.refl _ _⟩
    case round =>
      obtain ⟨k, r, hk, rfl, rfl, hr0, hr1, HS, hbel⟩ := hrel
      by_cases hlt : k < n
      · obtain ⟨e, he⟩ : ∃ e, ls[k]? = some e := ⟨_, List.getElem?_eq_getElem (by rw [← HN.out]; exact hlt)⟩
        have hsz := HX.out k e he
        obtain ⟨bk, o, rfl, hbk, g0, g1⟩ := HB.out wr hbel k e (by omega) he
        have cz := fun w => CZ.out e.1 e.2 r w hr0 hr1 hsz
        have hnext : e.2.size ≤ r → ∀ x ∈ ls.take (k + 1), x.2.size ≤ 1048576 := by
          intro hq x hxm
          rw [List.take_add_one, he, List.mem_append] at hxm
          rcases hxm with hxm | hxm
          · exact HS.out x hxm
          · simp at hxm; subst hxm; omega
        obtain ⟨m, hm⟩ : ∃ m, m = e.2.size := ⟨_, rfl⟩
        rw [← hm] at cz hnext
        have HNext := Lib.hid hnext
        by_cases hq : r < (m : Int)
        · have C : Hid _ := Lib.hid (fun w => by have := cz w; rw [if_pos hq] at this; exact this)
          clear cz hnext hm he HS
          go_wp2_with fail
          refine (C.out _).mono ?_
          rintro r' w1 ⟨rfl, hb1⟩
          have HB1 := Lib.hid (hbel.trans (hb1.mono hbel.size))
          clear hb1
          go_wp2
          go_ret
          exact ⟨⟨-1, rfl, fun h => absurd h (by decide)⟩, HB1.out⟩
        · have C : Hid _ := Lib.hid (fun w => by have := cz w; rw [if_neg hq] at this; exact this)
          have HS2 := Lib.hid (HNext.out (by omega))
          obtain ⟨q, hqq⟩ : ∃ q : Int, q = r - m := ⟨_, rfl⟩
          rw [← hqq] at C
          have hq0 : 0 ≤ q := by omega
          have hq1 : q ≤ 1048576 := by omega
          clear cz hnext hm he HS HNext hqq hq
          go_wp2_with fail
          refine (C.out _).mono ?_
          rintro r' w1 ⟨rfl, hb1⟩
          have HB1 := Lib.hid (hbel.trans (hb1.mono hbel.size))
          clear hb1
          go_wp2
          go_roundw
          case rel => exact ⟨k + 1, q, by omega, by go_num, rfl, hq0, hq1, HS2, HB1.out⟩
          case measure => simp [intOf]; omega
      · obtain rfl : k = n := by omega
        have hs := HS.out
        rw [List.take_of_length_le (by rw [← HN.out]; exact Nat.le_refl _)] at hs
        have HS2 := Lib.hid hs
        clear hs HS
        go_wp2
        go_ret
        exact ⟨⟨r, rfl, fun _ => ⟨by omega, HS2.out⟩⟩, hbel⟩
end Go.Proofs.YtnpiphkglhcifaaDoor
