/-
  FOLDS IN MEMORY: the laws' helpers on folds (a fold is an int and a string, as an atom is).
-/
import Derived.Test.YtjmiackiikbodaaGreatMarkA
import Derived.Test.YtjmiackiikbodaaGreatAtRow
import Derived.Test.YtjmiackiikbodaaGreatTouch
namespace Go.Proofs.YtjmiackiikbodaaGreat
set_option maxRecDepth 100000
open Go.RowKit

theorem infoFd : (Tryz.prog.info? 61).map (fun i => (i.zero, i.size, i.bytes)) = some (some (.agg #[.int .i64 0, .string ByteArray.empty]), 2, 24) := by kernel_rfl
theorem toFold_any (k : Int) (t : ByteArray) (w : World) :
    Calls Tryz.prog 45 #[atV k t] w fun r w' => r = .returned (atV k t) ∧ Below w.heap.size w w' := by
  go_enter Tryz.func45, Tryz.ntmps45
  have hg : (((w.alloc (.cells #[.int .i64 k, .string t] 69)).alloc (.cells #[.int .i64 k, .string t] 61)).alloc (.cells #[.int .i64 k, .string t] 61)).heap[w.heap.size + 1]? = some (.cells #[.int .i64 k, .string t] 61 (0, 0)) := by
    have e : ∀ (W : World) (o : Obj), (W.alloc o).heap[W.heap.size]? = some o := fun W o => by show (W.heap.push o)[W.heap.size]? = _; simp
    rw [heap_alloc_old _ _ (by simp)]
    have e1 := e (w.alloc (.cells #[.int .i64 k, .string t] 69)) (.cells #[.int .i64 k, .string t] 61)
    rw [World.size_alloc] at e1
    exact e1
  go_wp2
  (try simp only [Exit.inBlock, Exit.then])
  refine bodyPost_ret (results_cell_row rfl _ _ (w.heap.size + 1) _ _ _ _ rfl hg Tryz.underlying61 rfl (by kernel_rfl)) rfl ?_
  exact ⟨rfl, (((Below.refl _ _).alloc (Nat.le_refl _) _).alloc (by simp) _).alloc (by simp; omega) _⟩
theorem szFold_any (k : Int) (t : ByteArray) (left : Int) (w : World) (hl : 0 ≤ left) (hl2 : left ≤ 1048576) (ht : t.size ≤ maxLen) :
    Calls Tryz.prog 37 #[atV k t, .int .i64 left] w fun r w' => r = .returned (.int .i64 (if left < t.size then -1 else left - t.size)) ∧ Below w.heap.size w w' := by
  unfold maxLen at ht
  by_cases h : left < t.size
  · rw [if_pos h]
    go_enter Tryz.func37, Tryz.ntmps37
    go_wp2
    go_ret
    exact ⟨rfl, (Below.refl _ _).alloc (Nat.le_refl _) _⟩
  · rw [if_neg h]
    go_enter Tryz.func37, Tryz.ntmps37
    go_wp2
    go_ret
    exact ⟨rfl, (Below.refl _ _).alloc (Nat.le_refl _) _⟩
theorem eqFold_same (k : Int) (t : ByteArray) (w : World) :
    Calls Tryz.prog 49 #[atV k t, atV k t] w fun r w' => r = .returned (.bool true) ∧ Below w.heap.size w w' := by
  go_enter Tryz.func49, Tryz.ntmps49
  go_wp2
  go_ret
  exact ⟨rfl, ((Below.refl _ _).alloc (Nat.le_refl _) _).alloc (by simp) _⟩
theorem mk_fds (n : Nat) (hn : n ≤ 1048576) (w : World) :
    (Instr.makeSlice 35 (.int .i64 (n : Int)) (.int .i64 (n : Int))).run Tryz.prog w = .ok (.slice (some ⟨w.heap.size, 0, none⟩) n n) (w.alloc (.cells (madeCells #[.int .i64 0, .string ByteArray.empty] (n * 2)) 61)) := by
  obtain ⟨i, hi, hzz⟩ := Option.map_eq_some_iff.1 infoFd
  simp only [Prod.mk.injEq] at hzz
  obtain ⟨hz, hs, hb⟩ := hzz
  have hr := run_make (P := Tryz.prog) w 35 61 i _ Tryz.underlying35 hi hz .i64 .i64 (n : Int) (n : Int) (by omega) (Int.le_refl _) (by rw [hb]; omega) (by omega)
  rw [Int.toNat_natCast, hs] at hr
  exact hr
theorem made_fds (w : World) (n : Nat) : RowA (w.alloc (.cells (madeCells #[.int .i64 0, .string ByteArray.empty] (n * 2)) 61)) w.heap.size n (fun _ => a00) := by
  have hc : ∀ j, j < n * 2 → (w.alloc (.cells (madeCells #[.int .i64 0, .string ByteArray.empty] (n * 2)) 61)).cell? ⟨w.heap.size, j, none⟩ = some ((#[.int .i64 0, .string ByteArray.empty] : Array Value)[j % 2]!) := by
    intro j hj
    rw [World.cell?_alloc_at _ _ _ _ rfl]
    simp [madeCells, hj]
  refine ⟨by rw [World.size_alloc]; omega, fun j hj => ⟨?_, ?_⟩, fun j => World.frozen?_alloc_at _ _ _ _ rfl⟩
  · rw [hc _ (by omega), show j * 2 % 2 = 0 by omega]; rfl
  · rw [hc _ (by omega), show (j * 2 + 1) % 2 = 1 by omega]; rfl
set_option maxHeartbeats 1000000 in
/-- The copy of a slice of atoms: new memory with the same atoms. -/
theorem toFs_any (v : Value) (ls : List Atm) (w : World) (h : AtomsAt w v ls) (hn : ls.length ≤ 1048576) :
    Calls Tryz.prog 12 #[v] w fun e w' => (∃ u, e = .returned u ∧ OwnAs w' w.heap.size u ls.length (fun j => ls.getD j a00)) ∧ Below w.heap.size w w' := by
  obtain ⟨a, cap, rfl, hcap, h⟩ := h
  obtain ⟨n, hnn⟩ : ∃ n, n = ls.length := ⟨_, rfl⟩
  rw [← hnn] at hn hcap ⊢
  have HN := Lib.hid hnn
  have HB : Hid (∀ w1 : World, Below w.heap.size w w1 → ∀ (j : Nat) e, 0 < n → ls[j]? = some e → ∃ bk o, a = some ⟨bk, o, none⟩ ∧ bk < w.heap.size ∧ w1.cell? ⟨bk, o + j * 2, none⟩ = some (.int .i64 e.1) ∧ w1.cell? ⟨bk, o + j * 2 + 1, none⟩ = some (.string e.2)) := by
    intro w1 hb j e h0 he
    rcases h with rfl | ⟨bk, o, ha, hk, h⟩
    · simp at hnn; omega
    · obtain ⟨g0, g1⟩ := h j e he
      exact ⟨bk, o, ha, hk, (hb.cell (p := ⟨bk, o + j * 2, none⟩) hk).trans g0, (hb.cell (p := ⟨bk, o + j * 2 + 1, none⟩) hk).trans g1⟩
  have CT := Lib.hid (fun k t w => toFold_any k t w)
  clear h hnn
  have hmk := fun w => mk_fds n hn w
  go_enter Tryz.func12, Tryz.ntmps12
  go_wp2_with fail
  clear hmk
  have hrow0 := made_fds w n
  have hbel0 : Below w.heap.size w (w.alloc (.cells (madeCells #[.int .i64 0, .string ByteArray.empty] (n * 2)) 61)) := (Below.refl _ _).alloc (Nat.le_refl _) _
  obtain ⟨B, hB⟩ : ∃ B, B = w.heap.size := ⟨_, rfl⟩
  rw [← hB] at hrow0 ⊢
  have HBB := Lib.hid hB
  clear hB
  go_loopw [4] (fun i wr => ∃ k : Nat, k ≤ n ∧ i = .int .i64 k ∧ Hid (RowA wr B n (fun j => if j < k then ls.getD j a00 else a00)) ∧ Below w.heap.size w wr) (fun i _ => n - (intOf i).toNat)
  case atStart => exact ⟨0, Nat.zero_le _, rfl, hrow0, hbel0⟩
  case round =>
    obtain ⟨k, hk, rfl, HR, hbel⟩ := hrel
    by_cases hlt : k < n
    · obtain ⟨e, he⟩ : ∃ e, ls[k]? = some e := ⟨_, List.getElem?_eq_getElem (by rw [← HN.out]; exact hlt)⟩
      obtain ⟨bk, o, rfl, hbk, g0, g1⟩ := HB.out wr hbel k e (by omega) he
      go_wp2_with fail
      refine (CT.out e.1 e.2 _).mono ?_
      rintro r w1 ⟨rfl, hb1⟩
      have HR1 := Lib.hid (HR.out.below hb1)
      obtain ⟨r0, r1⟩ := HR1.out.2.1 k hlt
      simp only [Nat.lt_irrefl, if_false] at r0 r1
      have f0 := HR1.out.2.2 (k * 2)
      have f1 := HR1.out.2.2 (k * 2 + 1)
      have HR2 : Hid (RowA ((w1.setCell ⟨B, k * 2, none⟩ (.int .i64 e.1)).setCell ⟨B, k * 2 + 1, none⟩ (.string e.2)) B n (fun j => if j < k + 1 then ls.getD j a00 else a00)) := by
        refine (HR1.out.set k hlt e).congr fun j hj => ?_
        by_cases hjk : j = k
        · subst hjk; simp [List.getD, he]
        · rw [if_neg hjk]
          by_cases hjl : j < k
          · rw [if_pos hjl, if_pos (by omega)]
          · rw [if_neg hjl, if_neg (by omega)]
      have HBl : Hid (Below w.heap.size w ((w1.setCell ⟨B, k * 2, none⟩ (.int .i64 e.1)).setCell ⟨B, k * 2 + 1, none⟩ (.string e.2))) :=
        below_set2 (hbel.trans (hb1.mono hbel.size)) (by rw [HBB.out]; exact Nat.le_refl _) _ _ _ _
      clear HR HR1 hbel hb1 he
      go_wp2
      go_roundw
      case rel => exact ⟨k + 1, by omega, by go_num, HR2, HBl.out⟩
      case measure => simp [intOf]; omega
    · obtain rfl : k = n := by omega
      have HS : Hid (OwnAs wr w.heap.size (.slice (some ⟨B, 0, none⟩) k k) k (fun j => ls.getD j a00)) := by
        rcases Nat.eq_zero_or_pos k with h0 | h0
        · subst h0; exact .inl ⟨rfl, _, _, rfl⟩
        · exact .inr ⟨B, k, rfl, Nat.le_refl _, by rw [HBB.out]; exact Nat.le_refl _, h0, HR.out.congr fun j hj => by rw [if_pos hj]⟩
      clear HR
      go_wp2
      go_ret
      exact ⟨⟨_, rfl, HS.out⟩, hbel⟩
set_option maxHeartbeats 1000000 in
theorem szFs_any (v : Value) (ls : List Atm) (w : World) (h : AtomsAt w v ls) (hn : ls.length ≤ maxLen) (hx : ∀ e ∈ ls, e.2.size ≤ maxLen) :
    Calls Tryz.prog 9 #[v, .int .i64 1048576] w fun e w' => (∃ r : Int, e = .returned (.int .i64 r) ∧ (0 ≤ r → ls.length ≤ 1048576 ∧ ∀ e ∈ ls, e.2.size ≤ 1048576)) ∧ Below w.heap.size w w' := by
  unfold maxLen at hn
  have HX := Lib.hid (fun k e (h : ls[k]? = some e) => hx e (List.mem_of_getElem? h))
  obtain ⟨a, cap, rfl, hcap, h⟩ := h
  obtain ⟨n, hnn⟩ : ∃ n, n = ls.length := ⟨_, rfl⟩
  rw [← hnn] at hn hcap ⊢
  have HN := Lib.hid hnn
  have HB : Hid (∀ w1 : World, Below w.heap.size w w1 → ∀ (j : Nat) e, 0 < n → ls[j]? = some e → ∃ bk o, a = some ⟨bk, o, none⟩ ∧ bk < w.heap.size ∧ w1.cell? ⟨bk, o + j * 2, none⟩ = some (.int .i64 e.1) ∧ w1.cell? ⟨bk, o + j * 2 + 1, none⟩ = some (.string e.2)) := by
    intro w1 hb j e h0 he
    rcases h with rfl | ⟨bk, o, ha, hk, h⟩
    · simp at hnn; omega
    · obtain ⟨g0, g1⟩ := h j e he
      exact ⟨bk, o, ha, hk, (hb.cell (p := ⟨bk, o + j * 2, none⟩) hk).trans g0, (hb.cell (p := ⟨bk, o + j * 2 + 1, none⟩) hk).trans g1⟩
  have CZ := Lib.hid (fun k t left w hl hl2 ht => szFold_any k t left w hl hl2 ht)
  clear h hnn hx
  by_cases hbig : 1048576 < n
  · go_enter Tryz.func9, Tryz.ntmps9
    go_wp2
    go_ret
    exact ⟨⟨-1, rfl, fun h => absurd h (by decide)⟩, Below.refl _ _⟩
  · go_enter Tryz.func9, Tryz.ntmps9
    go_wp2_with fail
    go_loopw [1, 5] (fun l i wr => ∃ (k : Nat) (r : Int), k ≤ n ∧ i = .int .i64 k ∧ l = .int .i64 r ∧ 0 ≤ r ∧ r ≤ 1048576 ∧ Hid (∀ e ∈ ls.take k, e.2.size ≤ 1048576) ∧ Below w.heap.size w wr) (fun _ i _ => n - (intOf i).toNat)
    case atStart => exact ⟨0, 1048576 - n, Nat.zero_le _, rfl, by first | rfl | go_num, by omega, by omega, by exact Lib.hid (fun e he => by simp at he), Below.refl _ _⟩
    case round =>
      obtain ⟨k, r, hk, rfl, rfl, hr0, hr1, HS, hbel⟩ := hrel
      by_cases hlt : k < n
      · obtain ⟨e, he⟩ : ∃ e, ls[k]? = some e := ⟨_, List.getElem?_eq_getElem (by rw [← HN.out]; exact hlt)⟩
        have hsz := HX.out k e he
        obtain ⟨bk, o, rfl, hbk, g0, g1⟩ := HB.out wr hbel k e (by omega) he
        have cz := fun w => CZ.out e.1 e.2 r w hr0 hr1 hsz
        have hnext : e.2.size ≤ r → ∀ x ∈ ls.take (k + 1), x.2.size ≤ 1048576 := by
          intro hq x hxm
          rw [List.take_add_one, he, List.mem_append] at hxm
          rcases hxm with hxm | hxm
          · exact HS.out x hxm
          · simp at hxm; subst hxm; omega
        obtain ⟨m, hm⟩ : ∃ m, m = e.2.size := ⟨_, rfl⟩
        rw [← hm] at cz hnext
        have HNext := Lib.hid hnext
        by_cases hq : r < (m : Int)
        · have C : Hid _ := Lib.hid (fun w => by have := cz w; rw [if_pos hq] at this; exact this)
          clear cz hnext hm he HS
          go_wp2_with fail
          refine (C.out _).mono ?_
          rintro r' w1 ⟨rfl, hb1⟩
          have HB1 := Lib.hid (hbel.trans (hb1.mono hbel.size))
          clear hb1
          go_wp2
          go_ret
          exact ⟨⟨-1, rfl, fun h => absurd h (by decide)⟩, HB1.out⟩
        · have C : Hid _ := Lib.hid (fun w => by have := cz w; rw [if_neg hq] at this; exact this)
          have HS2 := Lib.hid (HNext.out (by omega))
          obtain ⟨q, hqq⟩ : ∃ q : Int, q = r - m := ⟨_, rfl⟩
          rw [← hqq] at C
          have hq0 : 0 ≤ q := by omega
          have hq1 : q ≤ 1048576 := by omega
          clear cz hnext hm he HS HNext hqq hq
          go_wp2_with fail
          refine (C.out _).mono ?_
          rintro r' w1 ⟨rfl, hb1⟩
          have HB1 := Lib.hid (hbel.trans (hb1.mono hbel.size))
          clear hb1
          go_wp2
          go_roundw
          case rel => exact ⟨k + 1, q, by omega, by go_num, rfl, hq0, hq1, HS2, HB1.out⟩
          case measure => simp [intOf]; omega
      · obtain rfl : k = n := by omega
        have hs := HS.out
        rw [List.take_of_length_le (by rw [← HN.out]; exact Nat.le_refl _)] at hs
        have HS2 := Lib.hid hs
        clear hs HS
        go_wp2
        go_ret
        exact ⟨⟨r, rfl, fun _ => ⟨by omega, HS2.out⟩⟩, hbel⟩
set_option maxHeartbeats 1000000 in
theorem szFsL_any (L : Int) (hL0 : 0 ≤ L) (hL : L ≤ 1048576) (v : Value) (ls : List Atm) (w : World) (h : AtomsAt w v ls) (hn : ls.length ≤ maxLen) (hx : ∀ e ∈ ls, e.2.size ≤ maxLen) :
    Calls Tryz.prog 9 #[v, .int .i64 L] w fun e w' => (∃ r : Int, e = .returned (.int .i64 r) ∧ (0 ≤ r → ls.length ≤ 1048576 ∧ ∀ e ∈ ls, e.2.size ≤ 1048576)) ∧ Below w.heap.size w w' := by
  unfold maxLen at hn
  have HX := Lib.hid (fun k e (h : ls[k]? = some e) => hx e (List.mem_of_getElem? h))
  obtain ⟨a, cap, rfl, hcap, h⟩ := h
  obtain ⟨n, hnn⟩ : ∃ n, n = ls.length := ⟨_, rfl⟩
  rw [← hnn] at hn hcap ⊢
  have HN := Lib.hid hnn
  have HB : Hid (∀ w1 : World, Below w.heap.size w w1 → ∀ (j : Nat) e, 0 < n → ls[j]? = some e → ∃ bk o, a = some ⟨bk, o, none⟩ ∧ bk < w.heap.size ∧ w1.cell? ⟨bk, o + j * 2, none⟩ = some (.int .i64 e.1) ∧ w1.cell? ⟨bk, o + j * 2 + 1, none⟩ = some (.string e.2)) := by
    intro w1 hb j e h0 he
    rcases h with rfl | ⟨bk, o, ha, hk, h⟩
    · simp at hnn; omega
    · obtain ⟨g0, g1⟩ := h j e he
      exact ⟨bk, o, ha, hk, (hb.cell (p := ⟨bk, o + j * 2, none⟩) hk).trans g0, (hb.cell (p := ⟨bk, o + j * 2 + 1, none⟩) hk).trans g1⟩
  have CZ := Lib.hid (fun k t left w hl hl2 ht => szFold_any k t left w hl hl2 ht)
  clear h hnn hx
  by_cases hbig : L < (n : Int)
  · go_enter Tryz.func9, Tryz.ntmps9
    go_wp2
    go_ret
    exact ⟨⟨-1, rfl, fun h => absurd h (by decide)⟩, Below.refl _ _⟩
  · go_enter Tryz.func9, Tryz.ntmps9
    go_wp2_with fail
    go_loopw [1, 5] (fun l i wr => ∃ (k : Nat) (r : Int), k ≤ n ∧ i = .int .i64 k ∧ l = .int .i64 r ∧ 0 ≤ r ∧ r ≤ 1048576 ∧ Hid (∀ e ∈ ls.take k, e.2.size ≤ 1048576) ∧ Below w.heap.size w wr) (fun _ i _ => n - (intOf i).toNat)
    case atStart => exact ⟨0, L - n, Nat.zero_le _, rfl, by first | rfl | go_num, by omega, by omega, by exact Lib.hid (fun e he => by simp at he), Below.refl _ _⟩
    case round =>
      obtain ⟨k, r, hk, rfl, rfl, hr0, hr1, HS, hbel⟩ := hrel
      by_cases hlt : k < n
      · obtain ⟨e, he⟩ : ∃ e, ls[k]? = some e := ⟨_, List.getElem?_eq_getElem (by rw [← HN.out]; exact hlt)⟩
        have hsz := HX.out k e he
        obtain ⟨bk, o, rfl, hbk, g0, g1⟩ := HB.out wr hbel k e (by omega) he
        have cz := fun w => CZ.out e.1 e.2 r w hr0 hr1 hsz
        have hnext : e.2.size ≤ r → ∀ x ∈ ls.take (k + 1), x.2.size ≤ 1048576 := by
          intro hq x hxm
          rw [List.take_add_one, he, List.mem_append] at hxm
          rcases hxm with hxm | hxm
          · exact HS.out x hxm
          · simp at hxm; subst hxm; omega
        obtain ⟨m, hm⟩ : ∃ m, m = e.2.size := ⟨_, rfl⟩
        rw [← hm] at cz hnext
        have HNext := Lib.hid hnext
        by_cases hq : r < (m : Int)
        · have C : Hid _ := Lib.hid (fun w => by have := cz w; rw [if_pos hq] at this; exact this)
          clear cz hnext hm he HS
          go_wp2_with fail
          refine (C.out _).mono ?_
          rintro r' w1 ⟨rfl, hb1⟩
          have HB1 := Lib.hid (hbel.trans (hb1.mono hbel.size))
          clear hb1
          go_wp2
          go_ret
          exact ⟨⟨-1, rfl, fun h => absurd h (by decide)⟩, HB1.out⟩
        · have C : Hid _ := Lib.hid (fun w => by have := cz w; rw [if_neg hq] at this; exact this)
          have HS2 := Lib.hid (HNext.out (by omega))
          obtain ⟨q, hqq⟩ : ∃ q : Int, q = r - m := ⟨_, rfl⟩
          rw [← hqq] at C
          have hq0 : 0 ≤ q := by omega
          have hq1 : q ≤ 1048576 := by omega
          clear cz hnext hm he HS HNext hqq hq
          go_wp2_with fail
          refine (C.out _).mono ?_
          rintro r' w1 ⟨rfl, hb1⟩
          have HB1 := Lib.hid (hbel.trans (hb1.mono hbel.size))
          clear hb1
          go_wp2
          go_roundw
          case rel => exact ⟨k + 1, q, by omega, by go_num, rfl, hq0, hq1, HS2, HB1.out⟩
          case measure => simp [intOf]; omega
      · obtain rfl : k = n := by omega
        have hs := HS.out
        rw [List.take_of_length_le (by rw [← HN.out]; exact Nat.le_refl _)] at hs
        have HS2 := Lib.hid hs
        clear hs HS
        go_wp2
        go_ret
        exact ⟨⟨r, rfl, fun _ => ⟨by omega, HS2.out⟩⟩, hbel⟩
set_option maxHeartbeats 1000000 in
theorem eqFs_same (v u : Value) (ls : List Atm) (w : World) (hv : AtomsAt w v ls) (hu : AtomsAt w u ls) (hn : ls.length ≤ 2097152) :
    Calls Tryz.prog 16 #[v, u] w fun e w' => e = .returned (.bool true) ∧ Below w.heap.size w w' := by
  rcases Nat.eq_zero_or_pos ls.length with h0 | h0
  · obtain ⟨a, cap, rfl, _⟩ := hv.len
    obtain ⟨a', cap', rfl, _⟩ := hu.len
    rw [h0]
    clear hv hu h0
    go_enter Tryz.func16, Tryz.ntmps16
    go_wp2
    refine wp_loop_rounds 1 ?_
    rw [rounds_succ]
    go_wp2
    go_ret
    exact ⟨rfl, Below.refl _ _⟩
  · obtain ⟨bk, o, cap, rfl, hcap, _, hC⟩ := hv.some h0
    obtain ⟨bk', o', cap', rfl, hcap', _, hD⟩ := hu.some h0
    obtain ⟨n, hnn⟩ : ∃ n, n = ls.length := ⟨_, rfl⟩
    rw [← hnn] at hn hcap hcap' h0 ⊢
    have HN := Lib.hid hnn
    have HC := Lib.hid hC
    have HD := Lib.hid hD
    have CE := Lib.hid (fun k t w => eqFold_same k t w)
    clear hv hu hnn hC hD
    go_enter Tryz.func16, Tryz.ntmps16
    go_wp2_with fail
    go_loopw [5] (fun i wr => ∃ k : Nat, k ≤ n ∧ i = .int .i64 k ∧ Below w.heap.size w wr) (fun i _ => n - (intOf i).toNat)
    case atStart => exact ⟨0, Nat.zero_le _, rfl, Below.refl _ _⟩
    case round =>
      obtain ⟨k, hk, rfl, hbel⟩ := hrel
      by_cases hlt : k < n
      · obtain ⟨e, he⟩ : ∃ e, ls[k]? = some e := ⟨_, List.getElem?_eq_getElem (by rw [← HN.out]; exact hlt)⟩
        obtain ⟨g0, g1⟩ := HC.out wr hbel k e he
        obtain ⟨d0, d1⟩ := HD.out wr hbel k e he
        clear he
        go_wp2_with fail
        go_region_with (go_at_call 49; refine (CE.out e.1 e.2 _).mono ?_; rintro r w1 ⟨rfl, hb1⟩; have hbx : Below w.heap.size w w1 := hbel.trans (Below.trans (by first | exact Below.refl _ _ | exact (Below.refl _ _).drew) (hb1.mono hbel.size)))
        all_goals go_wp2
        all_goals go_roundw
        all_goals first
          | exact ⟨k + 1, by omega, by go_num, by repeat (first | exact hbx | apply Below.drew)⟩
          | (simp [intOf]; omega)
      · obtain rfl : k = n := by omega
        go_wp2
        go_ret
        exact ⟨rfl, hbel⟩
set_option maxHeartbeats 1000000 in
theorem markF_any (base S : Nat) (v : Value) (n : Nat) (f : Nat → Atm) (w : World) (h : OwnAs w base v n f) (hS : 0 < n → ∀ g, v.ownBlock = some g → g < S) (hbase : base ≤ w.heap.size) (hn : n ≤ 100000000) :
    Calls Tryz.prog 22 #[v, .int .i64 1] w fun e w' => e = .returned (.int .i64 (1 + 2 * (n : Int))) ∧ OwnAs w' base v n markedA ∧ Over S w w' ∧ Below base w w' := by
  rcases h with ⟨rfl, a, cap, rfl⟩ | ⟨g, cap, rfl, hcap, hg, h0, hR⟩
  · go_enter Tryz.func22, Tryz.ntmps22
    go_wp2
    refine wp_loop_rounds 1 ?_
    rw [rounds_succ]
    go_wp2
    go_ret
    exact ⟨rfl, .inl ⟨rfl, _, _, rfl⟩, Over.refl _ _, Below.refl _ _⟩
  · have HR0 : Hid (RowA w g n (fun j => if j < 0 then markedA j else f j)) := hR.congr fun j _ => by rw [if_neg (by omega)]
    have hgS := hS h0 g rfl
    have HG := Lib.hid hg
    clear hR hS
    go_enter Tryz.func22, Tryz.ntmps22
    go_wp2_with fail
    go_loopw [1, 5] (fun m i wr => ∃ k : Nat, k ≤ n ∧ i = .int .i64 k ∧ m = .int .i64 (1 + 2 * (k : Int)) ∧ Hid (RowA wr g n (fun j => if j < k then markedA j else f j)) ∧ Hid (Over S w wr) ∧ Below base w wr) (fun _ i _ => n - (intOf i).toNat)
    case atStart => exact ⟨0, Nat.zero_le _, rfl, rfl, HR0, Lib.hid (Over.refl _ _), Below.refl _ _⟩
    case round =>
      obtain ⟨k, hk, rfl, rfl, HR, HO, hbel⟩ := hrel
      by_cases hlt : k < n
      · obtain ⟨r0, r1⟩ := HR.out.2.1 k hlt
        simp only [Nat.lt_irrefl, if_false] at r0 r1
        have f0 := HR.out.2.2 (k * 2)
        have hRa := HR.out.set0 k hlt (1 + 2 * (k : Int))
        have hOa := HO.out.setCell hgS (k * 2) (.int .i64 (1 + 2 * (k : Int)))
        have hba := hbel.setCell (p := ⟨g, k * 2, none⟩) (by exact HG.out) (.int .i64 (1 + 2 * (k : Int)))
        have HRa := Lib.hid hRa
        have HOa := Lib.hid hOa
        have HBa := Lib.hid hba
        have c := fun w => markText_any (2 + 2 * k) (by omega) (by omega) w
        have e1 : ((2 + 2 * k : Nat) : Int) = 1 + 2 * (k : Int) + 1 := by omega
        simp only [e1] at c
        have C := Lib.hid c
        have hbs := hbel.size
        clear c e1 hRa hOa hba HR HO hbel
        go_wp2_with fail
        refine (C.out _).mono ?_
        rintro e w1 ⟨rfl, hb1⟩
        have HR1 := Lib.hid (HRa.out.below hb1)
        obtain ⟨_, s1⟩ := HR1.out.2.1 k hlt
        have f1 := HR1.out.2.2 (k * 2 + 1)
        have HO2 := Lib.hid ((HOa.out.below hb1).setCell hgS (k * 2 + 1) (.string (markB (2 + 2 * k))))
        have HB2 : Hid (Below base w (w1.setCell ⟨g, k * 2 + 1, none⟩ (.string (markB (2 + 2 * k))))) := (HBa.out.trans (hb1.mono (by rw [World.size_setCell]; omega))).setCell (p := ⟨g, k * 2 + 1, none⟩) (by exact HG.out) _
        have HR2 : Hid (RowA (w1.setCell ⟨g, k * 2 + 1, none⟩ (.string (markB (2 + 2 * k)))) g n (fun j => if j < k + 1 then markedA j else f j)) := by
          refine (HR1.out.set1 k hlt _).congr fun j hj => ?_
          by_cases hjk : j = k
          · subst hjk
            simp only [if_true]
            rw [if_pos (show j < j + 1 by omega)]
            rfl
          · rw [if_neg hjk, if_neg hjk]
            by_cases hjl : j < k
            · rw [if_pos hjl, if_pos (by omega)]
            · rw [if_neg hjl, if_neg (by omega)]
        clear hb1 r0 r1 f0 HRa HOa HBa HR1
        go_wp2
        go_roundw
        case rel => exact ⟨k + 1, by omega, by go_num, by go_num, HR2, HO2, HB2.out⟩
        case measure => simp [intOf]; omega
      · obtain rfl : k = n := by omega
        go_wp2
        go_ret
        exact ⟨rfl, .inr ⟨g, cap, rfl, hcap, HG.out, h0, HR.out.congr fun j hj => by rw [if_pos hj]⟩, HO.out, hbel⟩
set_option maxHeartbeats 1000000 in
/-- Marking folds from any number on. -/
theorem markF_from (base S m0 : Nat) (v : Value) (n : Nat) (f : Nat → Atm) (w : World) (h : OwnAs w base v n f) (hS : 0 < n → ∀ g, v.ownBlock = some g → g < S) (hbase : base ≤ w.heap.size) (hn : n ≤ 2000000) (hm1 : 1 ≤ m0) (hm : m0 ≤ 2000000) :
    Calls Tryz.prog 22 #[v, .int .i64 (m0 : Int)] w fun e w' => e = .returned (.int .i64 ((m0 + 2 * n : Nat) : Int)) ∧ Touch (fun b => b < S) w w' ∧ Below base w w' := by
  rcases h with ⟨rfl, a, cap, rfl⟩ | ⟨g, cap, rfl, hcap, hg, h0, hR⟩
  · go_enter Tryz.func22, Tryz.ntmps22
    go_wp2
    refine wp_loop_rounds 1 ?_
    rw [rounds_succ]
    go_wp2
    go_ret
    exact ⟨rfl, Touch.refl _ _, Below.refl _ _⟩
  · have HR0 := Lib.hid hR
    have hgS := hS h0 g rfl
    have HG := Lib.hid hg
    clear hR hS
    go_enter Tryz.func22, Tryz.ntmps22
    go_wp2_with fail
    go_loopw [1, 5] (fun m i wr => ∃ (k : Nat) (f' : Nat → Atm), k ≤ n ∧ i = .int .i64 k ∧ m = .int .i64 ((m0 + 2 * k : Nat) : Int) ∧ Hid (RowA wr g n f') ∧ Hid (Touch (fun b => b < S) w wr) ∧ Below base w wr) (fun _ i _ => n - (intOf i).toNat)
    case atStart => exact ⟨0, f, Nat.zero_le _, rfl, rfl, HR0, Lib.hid (Touch.refl _ _), Below.refl _ _⟩
    case round =>
      obtain ⟨k, f', hk, rfl, rfl, HR, HO, hbel⟩ := hrel
      by_cases hlt : k < n
      · obtain ⟨r0, r1⟩ := HR.out.2.1 k hlt
        have f0 := HR.out.2.2 (k * 2)
        have hRa := HR.out.set0 k hlt ((m0 + 2 * k : Nat) : Int)
        have hOa := HO.out.setCell hgS (k * 2) (.int .i64 ((m0 + 2 * k : Nat) : Int))
        have hba := hbel.setCell (p := ⟨g, k * 2, none⟩) (by exact HG.out) (.int .i64 ((m0 + 2 * k : Nat) : Int))
        have HRa := Lib.hid hRa
        have HOa := Lib.hid hOa
        have HBa := Lib.hid hba
        have c := fun w => markText_any (m0 + 2 * k + 1) (by omega) (by omega) w
        have e1 : ((m0 + 2 * k + 1 : Nat) : Int) = ((m0 + 2 * k : Nat) : Int) + 1 := by omega
        simp only [e1] at c
        have C := Lib.hid c
        have hbs := hbel.size
        obtain ⟨M, hM⟩ : ∃ M, M = m0 + 2 * k := ⟨_, rfl⟩
        rw [← hM] at HRa HOa HBa C ⊢
        have hM2 : M ≤ 100000000 := by omega
        have HMe := Lib.hid hM
        clear c e1 hRa hOa hba HR HO hbel hM
        go_wp2_with fail
        refine (C.out _).mono ?_
        rintro e w1 ⟨rfl, hb1⟩
        have HR1 := Lib.hid (HRa.out.below hb1)
        obtain ⟨_, s1⟩ := HR1.out.2.1 k hlt
        have f1 := HR1.out.2.2 (k * 2 + 1)
        have HO2 := Lib.hid (fun (x : ByteArray) => (HOa.out.below hb1).setCell hgS (k * 2 + 1) (.string x))
        have HB2 := Lib.hid (fun (x : ByteArray) => (HBa.out.trans (hb1.mono (by rw [World.size_setCell]; omega))).setCell (p := ⟨g, k * 2 + 1, none⟩) (by exact HG.out) (.string x))
        have HR2 := Lib.hid (fun (x : ByteArray) => HR1.out.set1 k hlt x)
        clear hb1 r0 r1 f0 HRa HOa HBa HR1
        go_wp2
        go_roundw
        case rel => exact ⟨k + 1, _, by omega, by go_num, by have := HMe.out; first | (rw [this]; done) | (rw [this]; congr 1; done) | (rw [this]; congr 1; push_cast; omega), Lib.hid (HR2.out _), Lib.hid (HO2.out _), HB2.out _⟩
        case measure => simp [intOf]; omega
      · obtain rfl : k = n := by omega
        go_wp2
        go_ret
        exact ⟨rfl, HO.out, hbel⟩
end Go.Proofs.YtjmiackiikbodaaGreat
