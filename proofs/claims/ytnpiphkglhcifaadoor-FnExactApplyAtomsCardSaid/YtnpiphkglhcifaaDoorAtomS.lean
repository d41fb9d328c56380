/-
  LISTS OF ATOMS in the laws: their size, a copy of one, the comparison of two.
-/
import Derived.Test.YtnpiphkglhcifaaDoorTrans
import Derived.Test.YtnpiphkglhcifaaDoorAtRow
namespace Go.Proofs.YtnpiphkglhcifaaDoor
set_option maxRecDepth 100000
open Go.RowKit

abbrev Atm := Int × ByteArray
def a00 : Atm := (0, ⟨#[]⟩)
/-- The row at block g holds the n atoms f, and nothing of it is frozen. -/
def RowA (w : World) (g n : Nat) (f : Nat → Atm) : Prop :=
  g < w.heap.size ∧ (∀ j, j < n → w.cell? ⟨g, j * 2, none⟩ = some (.int .i64 (f j).1) ∧ w.cell? ⟨g, j * 2 + 1, none⟩ = some (.string (f j).2)) ∧ ∀ j, w.frozen? ⟨g, j, none⟩ = false
theorem RowA.below {w w' : World} {g n : Nat} {f : Nat → Atm} (h : RowA w g n f) (hb : Below w.heap.size w w') : RowA w' g n f := by
  obtain ⟨h0, h1, h2⟩ := h
  refine ⟨Nat.lt_of_lt_of_le h0 hb.size, fun j hj => ?_, fun j => (hb.frozen (p := ⟨g, j, none⟩) h0).trans (h2 j)⟩
  obtain ⟨a0, a1⟩ := h1 j hj
  exact ⟨(hb.cell (p := ⟨g, j * 2, none⟩) h0).trans a0, (hb.cell (p := ⟨g, j * 2 + 1, none⟩) h0).trans a1⟩
/-- The kind of an atom of the row is written. -/
theorem RowA.set0 {w : World} {g n : Nat} {f : Nat → Atm} (h : RowA w g n f) (k : Nat) (hk : k < n) (z : Int) :
    RowA (w.setCell ⟨g, k * 2, none⟩ (.int .i64 z)) g n (fun j => if j = k then (z, (f k).2) else f j) := by
  obtain ⟨h0, h1, h2⟩ := h
  refine ⟨by rw [World.size_setCell]; exact h0, fun j hj => ?_, fun j => by rw [World.frozen?_setCell]; exact h2 j⟩
  obtain ⟨a0, a1⟩ := h1 j hj
  by_cases hjk : j = k
  · subst hjk
    simp only [if_true]
    refine ⟨World.cell?_setCell_same _ _ _ a0, ?_⟩
    rw [World.cell?_setCell_other _ _ _ _ (by intro e; injection e; omega)]; exact a1
  · simp only [if_neg hjk]
    refine ⟨?_, ?_⟩
    · rw [World.cell?_setCell_other _ _ _ _ (by intro e; injection e; omega)]; exact a0
    · rw [World.cell?_setCell_other _ _ _ _ (by intro e; injection e; omega)]; exact a1
/-- The text of an atom of the row is written. -/
theorem RowA.set1 {w : World} {g n : Nat} {f : Nat → Atm} (h : RowA w g n f) (k : Nat) (hk : k < n) (t : ByteArray) :
    RowA (w.setCell ⟨g, k * 2 + 1, none⟩ (.string t)) g n (fun j => if j = k then ((f k).1, t) else f j) := by
  obtain ⟨h0, h1, h2⟩ := h
  refine ⟨by rw [World.size_setCell]; exact h0, fun j hj => ?_, fun j => by rw [World.frozen?_setCell]; exact h2 j⟩
  obtain ⟨a0, a1⟩ := h1 j hj
  by_cases hjk : j = k
  · subst hjk
    simp only [if_true]
    refine ⟨?_, World.cell?_setCell_same _ _ _ a1⟩
    rw [World.cell?_setCell_other _ _ _ _ (by intro e; injection e; omega)]; exact a0
  · simp only [if_neg hjk]
    refine ⟨?_, ?_⟩
    · rw [World.cell?_setCell_other _ _ _ _ (by intro e; injection e; omega)]; exact a0
    · rw [World.cell?_setCell_other _ _ _ _ (by intro e; injection e; omega)]; exact a1
theorem RowA.congr {w : World} {g n : Nat} {f f' : Nat → Atm} (h : RowA w g n f) (hf : ∀ j, j < n → f j = f' j) : RowA w g n f' := by
  refine ⟨h.1, fun j hj => ?_, h.2.2⟩
  rw [← hf j hj]; exact h.2.1 j hj
/-- An atom is written into the row. -/
theorem RowA.set {w : World} {g n : Nat} {f : Nat → Atm} (h : RowA w g n f) (k : Nat) (hk : k < n) (e : Atm) :
    RowA ((w.setCell ⟨g, k * 2, none⟩ (.int .i64 e.1)).setCell ⟨g, k * 2 + 1, none⟩ (.string e.2)) g n (fun j => if j = k then e else f j) := by
  refine ((h.set0 k hk e.1).set1 k hk e.2).congr fun j hj => ?_
  by_cases hjk : j = k
  · subst hjk; simp
  · simp [hjk]
theorem below_set2 {w w1 : World} {base g : Nat} (h : Below base w w1) (hg : base ≤ g) (a b : Nat) (x y : Value) : Below base w ((w1.setCell ⟨g, a, none⟩ x).setCell ⟨g, b, none⟩ y) :=
  (h.setCell (p := ⟨g, a, none⟩) hg x).setCell (p := ⟨g, b, none⟩) hg y
theorem rowA_at {w : World} {g n : Nat} {f : Nat → Atm} {ls : List Atm} (h : RowA w g n f) (hn : n = ls.length) (hf : ∀ j e, ls[j]? = some e → f j = e) (cap : Nat) (hc : n ≤ cap) : AtomsAt w (.slice (some ⟨g, 0, none⟩) n cap) ls := by
  subst hn
  refine ⟨_, cap, rfl, hc, .inr ⟨g, 0, rfl, h.1, fun j e he => ?_⟩⟩
  have hj : j < ls.length := by
    rcases Nat.lt_or_ge j ls.length with h' | h'
    · exact h'
    · rw [List.getElem?_eq_none h'] at he; cases he
  have := h.2.1 j hj
  rw [hf j e he] at this
  rw [Nat.zero_add]; exact this
/-- v is a slice of n atoms of its own, from block 'base' on. -/
def OwnAs (w : World) (base : Nat) (v : Value) (n : Nat) (f : Nat → Atm) : Prop :=
  (n = 0 ∧ ∃ a cap, v = .slice a 0 cap) ∨ ∃ g cap, v = .slice (some ⟨g, 0, none⟩) n cap ∧ n ≤ cap ∧ base ≤ g ∧ 0 < n ∧ RowA w g n f
theorem OwnAs.below {w w' : World} {base : Nat} {v : Value} {n : Nat} {f : Nat → Atm} (h : OwnAs w base v n f) (hb : Below w.heap.size w w') : OwnAs w' base v n f := by
  rcases h with h | ⟨g, cap, hv, hn, hg, h0, hr⟩
  · exact .inl h
  · exact .inr ⟨g, cap, hv, hn, hg, h0, hr.below hb⟩
theorem OwnAs.at {w : World} {base : Nat} {v : Value} {n : Nat} {f : Nat → Atm} {ls : List Atm} (h : OwnAs w base v n f) (hn : n = ls.length) (hf : ∀ j e, ls[j]? = some e → f j = e) : AtomsAt w v ls := by
  rcases h with ⟨h0, a, cap, rfl⟩ | ⟨g, cap, rfl, hc, _, _, hr⟩
  · have : ls = [] := List.length_eq_zero_iff.1 (by omega)
    subst this
    exact AtomsAt.nil _ _ _
  · exact rowA_at hr hn hf cap hc
theorem OwnAs.atoms {w : World} {base : Nat} {v : Value} {ls : List Atm} (h : OwnAs w base v ls.length (fun j => ls.getD j a00)) : AtomsAt w v ls := h.at rfl fun j e he => by simp [List.getD, he]
theorem OwnAs.lt {w : World} {base : Nat} {v : Value} {n : Nat} {f : Nat → Atm} (h : OwnAs w base v n f) (h0 : 0 < n) : ∀ g, v.ownBlock = some g → g < w.heap.size := by
  rcases h with ⟨hz, _⟩ | ⟨g, cap, rfl, _, _, _, hr⟩
  · omega
  · intro g' hg
    have : g = g' := by simpa [Value.ownBlock] using hg
    have := hr.1
    omega
theorem mk_ats (n : Nat) (hn : n ≤ 1048576) (w : World) :
    (Instr.makeSlice 44 (.int .i64 (n : Int)) (.int .i64 (n : Int))).run Tryd.prog w = .ok (.slice (some ⟨w.heap.size, 0, none⟩) n n) (w.alloc (.cells (madeCells #[.int .i64 0, .string ByteArray.empty] (n * 2)) 32)) := by
  obtain ⟨i, hi, hzz⟩ := Option.map_eq_some_iff.1 infoAt
  simp only [Prod.mk.injEq] at hzz
  obtain ⟨hz, hs, hb⟩ := hzz
  have hr := run_make (P := Tryd.prog) w 44 32 i _ Tryd.underlying44 hi hz .i64 .i64 (n : Int) (n : Int) (by omega) (Int.le_refl _) (by rw [hb]; omega) (by omega)
  rw [Int.toNat_natCast, hs] at hr
  exact hr
theorem made_ats (w : World) (n : Nat) : RowA (w.alloc (.cells (madeCells #[.int .i64 0, .string ByteArray.empty] (n * 2)) 32)) w.heap.size n (fun _ => a00) := by
  have hc : ∀ j, j < n * 2 → (w.alloc (.cells (madeCells #[.int .i64 0, .string ByteArray.empty] (n * 2)) 32)).cell? ⟨w.heap.size, j, none⟩ = some ((#[.int .i64 0, .string ByteArray.empty] : Array Value)[j % 2]!) := by
    intro j hj
    rw [World.cell?_alloc_at _ _ _ _ rfl]
    simp [madeCells, hj]
  refine ⟨by rw [World.size_alloc]; omega, fun j hj => ⟨?_, ?_⟩, fun j => World.frozen?_alloc_at _ _ _ _ rfl⟩
  · rw [hc _ (by omega), show j * 2 % 2 = 0 by omega]; rfl
  · rw [hc _ (by omega), show (j * 2 + 1) % 2 = 1 by omega]; rfl
set_option maxHeartbeats 1000000 in
/-- The copy of a slice of atoms: new memory with the same atoms. -/
theorem toAs_any (v : Value) (ls : List Atm) (w : World) (h : AtomsAt w v ls) (hn : ls.length ≤ 1048576) :
    Calls Tryd.prog 20 #[v] w fun e w' => (∃ u, e = .returned u ∧ OwnAs w' w.heap.size u ls.length (fun j => ls.getD j a00)) ∧ Below w.heap.size w w' := by
  obtain ⟨a, cap, rfl, hcap, h⟩ := h
  obtain ⟨n, hnn⟩ : ∃ n, n = ls.length := ⟨_, rfl⟩
  rw [← hnn] at hn hcap ⊢
  have HN := Lib.hid hnn
  have HB : Hid (∀ w1 : World, Below w.heap.size w w1 → ∀ (j : Nat) e, 0 < n → ls[j]? = some e → ∃ bk o, a = some ⟨bk, o, none⟩ ∧ bk < w.heap.size ∧ w1.cell? ⟨bk, o + j * 2, none⟩ = some (.int .i64 e.1) ∧ w1.cell? ⟨bk, o + j * 2 + 1, none⟩ = some (.string e.2)) := by
    intro w1 hb j e h0 he
    rcases h with rfl | ⟨bk, o, ha, hk, h⟩
    · simp at hnn; omega
    · obtain ⟨g0, g1⟩ := h j e he
      exact ⟨bk, o, ha, hk, (hb.cell (p := ⟨bk, o + j * 2, none⟩) hk).trans g0, (hb.cell (p := ⟨bk, o + j * 2 + 1, none⟩) hk).trans g1⟩
  have CT := Lib.hid (fun k t w => toAtom_any k t w)
  clear h hnn
  have hmk := fun w => mk_ats n hn w
  go_enter Tryd.func20, Tryd.ntmps20
  go_wp2_with fail
  clear hmk
  have hrow0 := made_ats w n
  have hbel0 : Below w.heap.size w (w.alloc (.cells (madeCells #[.int .i64 0, .string ByteArray.empty] (n * 2)) 32)) := (Below.refl _ _).alloc (Nat.le_refl _) _
  obtain ⟨B, hB⟩ : ∃ B, B = w.heap.size := ⟨_, rfl⟩
  rw [← hB] at hrow0 ⊢
  have HBB := Lib.hid hB
  clear hB
  go_loopw [4] (fun i wr => ∃ k : Nat, k ≤ n ∧ i = .int .i64 k ∧ Hid (RowA wr B n (fun j => if j < k then ls.getD j a00 else a00)) ∧ Below w.heap.size w wr) (fun i _ => n - (intOf i).toNat)
  case atStart => exact ⟨0, Nat.zero_le _, rfl, hrow0, hbel0⟩
  case round =>
    obtain ⟨k, hk, rfl, HR, hbel⟩ := hrel
    by_cases hlt : k < n
    · obtain ⟨e, he⟩ : ∃ e, ls[k]? = some e := ⟨_, List.getElem?_eq_getElem (by rw [← HN.out]; exact hlt)⟩
      obtain ⟨bk, o, rfl, hbk, g0, g1⟩ := HB.out wr hbel k e (by omega) he
      go_wp2_with fail
      refine (CT.out e.1 e.2 _).mono ?_
      rintro r w1 ⟨rfl, hb1⟩
      have HR1 := Lib.hid (HR.out.below hb1)
      obtain ⟨r0, r1⟩ := HR1.out.2.1 k hlt
      simp only [Nat.lt_irrefl, if_false] at r0 r1
      have f0 := HR1.out.2.2 (k * 2)
      have f1 := HR1.out.2.2 (k * 2 + 1)
      have HR2 : Hid (RowA ((w1.setCell ⟨B, k * 2, none⟩ (.int .i64 e.1)).setCell ⟨B, k * 2 + 1, none⟩ (.string e.2)) B n (fun j => if j < k + 1 then ls.getD j a00 else a00)) := by
        refine (HR1.out.set k hlt e).congr fun j hj => ?_
        by_cases hjk : j = k
        · subst hjk; simp [List.getD, he]
        · rw [if_neg hjk]
          by_cases hjl : j < k
          · rw [if_pos hjl, if_pos (by omega)]
          · rw [if_neg hjl, if_neg (by omega)]
      have HBl : Hid (Below w.heap.size w ((w1.setCell ⟨B, k * 2, none⟩ (.int .i64 e.1)).setCell ⟨B, k * 2 + 1, none⟩ (.string e.2))) :=
        below_set2 (hbel.trans (hb1.mono hbel.size)) (by rw [HBB.out]; exact Nat.le_refl _) _ _ _ _
      clear HR HR1 hbel hb1 he
      go_wp2
      go_roundw
      case rel => exact ⟨k + 1, by omega, by go_num, HR2, HBl.out⟩
      case measure => simp [intOf]; omega
    · obtain rfl : k = n := by omega
      have HS : Hid (OwnAs wr w.heap.size (.slice (some ⟨B, 0, none⟩) k k) k (fun j => ls.getD j a00)) := by
        rcases Nat.eq_zero_or_pos k with h0 | h0
        · subst h0; exact .inl ⟨rfl, _, _, rfl⟩
        · exact .inr ⟨B, k, rfl, Nat.le_refl _, by rw [HBB.out]; exact Nat.le_refl _, h0, HR.out.congr fun j hj => by rw [if_pos hj]⟩
      clear HR
      go_wp2
      go_ret
      exact ⟨⟨_, rfl, HS.out⟩, hbel⟩
set_option maxHeartbeats 1000000 in
theorem szAs_any (v : Value) (ls : List Atm) (w : World) (h : AtomsAt w v ls) (hn : ls.length ≤ maxLen) (hx : ∀ e ∈ ls, e.2.size ≤ maxLen) :
    Calls Tryd.prog 18 #[v, .int .i64 1048576] w fun e w' => (∃ r : Int, e = .returned (.int .i64 r) ∧ (0 ≤ r → ls.length ≤ 1048576 ∧ ∀ e ∈ ls, e.2.size ≤ 1048576)) ∧ Below w.heap.size w w' := by
  unfold maxLen at hn
  have HX := Lib.hid (fun k e (h : ls[k]? = some e) => hx e (List.mem_of_getElem? h))
  obtain ⟨a, cap, rfl, hcap, h⟩ := h
  obtain ⟨n, hnn⟩ : ∃ n, n = ls.length := ⟨_, rfl⟩
  rw [← hnn] at hn hcap ⊢
  have HN := Lib.hid hnn
  have HB : Hid (∀ w1 : World, Below w.heap.size w w1 → ∀ (j : Nat) e, 0 < n → ls[j]? = some e → ∃ bk o, a = some ⟨bk, o, none⟩ ∧ bk < w.heap.size ∧ w1.cell? ⟨bk, o + j * 2, none⟩ = some (.int .i64 e.1) ∧ w1.cell? ⟨bk, o + j * 2 + 1, none⟩ = some (.string e.2)) := by
    intro w1 hb j e h0 he
    rcases h with rfl | ⟨bk, o, ha, hk, h⟩
    · simp at hnn; omega
    · obtain ⟨g0, g1⟩ := h j e he
      exact ⟨bk, o, ha, hk, (hb.cell (p := ⟨bk, o + j * 2, none⟩) hk).trans g0, (hb.cell (p := ⟨bk, o + j * 2 + 1, none⟩) hk).trans g1⟩
  have CZ := Lib.hid (fun k t left w hl hl2 ht => szAtom_any k t left w hl hl2 ht)
  clear h hnn hx
  by_cases hbig : 1048576 < n
  · go_enter Tryd.func18, Tryd.ntmps18
    go_wp2
    go_ret
    exact ⟨⟨-1, rfl, fun h => absurd h (by decide)⟩, Below.refl _ _⟩
  · go_enter Tryd.func18, Tryd.ntmps18
    go_wp2_with fail
    go_loopw [1, 5] (fun l i wr => ∃ (k : Nat) (r : Int), k ≤ n ∧ i = .int .i64 k ∧ l = .int .i64 r ∧ 0 ≤ r ∧ r ≤ 1048576 ∧ Hid (∀ e ∈ ls.take k, e.2.size ≤ 1048576) ∧ Below w.heap.size w wr) (fun _ i _ => n - (intOf i).toNat)
    case atStart => exact ⟨0, 1048576 - n, Nat.zero_le _, rfl, by first | rfl | go_num, by omega, by omega, by exact Lib.hid (fun e he => by simp at he), Below.refl _ _⟩
    case round =>
      obtain ⟨k, r, hk, rfl, rfl, hr0, hr1, HS, hbel⟩ := hrel
      by_cases hlt : k < n
      · obtain ⟨e, he⟩ : ∃ e, ls[k]? = some e := ⟨_, List.getElem?_eq_getElem (by rw [← HN.out]; exact hlt)⟩
        have hsz := HX.out k e he
        obtain ⟨bk, o, rfl, hbk, g0, g1⟩ := HB.out wr hbel k e (by omega) he
        have cz := fun w => CZ.out e.1 e.2 r w hr0 hr1 hsz
        have hnext : e.2.size ≤ r → ∀ x ∈ ls.take (k + 1), x.2.size ≤ 1048576 := by
          intro hq x hxm
          rw [List.take_add_one, he, List.mem_append] at hxm
          rcases hxm with hxm | hxm
          · exact HS.out x hxm
          · simp at hxm; subst hxm; omega
        obtain ⟨m, hm⟩ : ∃ m, m = e.2.size := ⟨_, rfl⟩
        rw [← hm] at cz hnext
        have HNext := Lib.hid hnext
        by_cases hq : r < (m : Int)
        · have C : Hid _ := Lib.hid (fun w => by have := cz w; rw [if_pos hq] at this; exact this)
          clear cz hnext hm he HS
          go_wp2_with fail
          refine (C.out _).mono ?_
          rintro r' w1 ⟨rfl, hb1⟩
          have HB1 := Lib.hid (hbel.trans (hb1.mono hbel.size))
          clear hb1
          go_wp2
          go_ret
          exact ⟨⟨-1, rfl, fun h => absurd h (by decide)⟩, HB1.out⟩
        · have C : Hid _ := Lib.hid (fun w => by have := cz w; rw [if_neg hq] at this; exact this)
          have HS2 := Lib.hid (HNext.out (by omega))
          obtain ⟨q, hqq⟩ : ∃ q : Int, q = r - m := ⟨_, rfl⟩
          rw [← hqq] at C
          have hq0 : 0 ≤ q := by omega
          have hq1 : q ≤ 1048576 := by omega
          clear cz hnext hm he HS HNext hqq hq
          go_wp2_with fail
          refine (C.out _).mono ?_
          rintro r' w1 ⟨rfl, hb1⟩
          have HB1 := Lib.hid (hbel.trans (hb1.mono hbel.size))
          clear hb1
          go_wp2
          go_roundw
          case rel => exact ⟨k + 1, q, by omega, by go_num, rfl, hq0, hq1, HS2, HB1.out⟩
          case measure => simp [intOf]; omega
      · obtain rfl : k = n := by omega
        have hs := HS.out
        rw [List.take_of_length_le (by rw [← HN.out]; exact Nat.le_refl _)] at hs
        have HS2 := Lib.hid hs
        clear hs HS
        go_wp2
        go_ret
        exact ⟨⟨r, rfl, fun _ => ⟨by omega, HS2.out⟩⟩, hbel⟩
set_option maxHeartbeats 1000000 in
theorem eqAs_same (v u : Value) (ls : List Atm) (w : World) (hv : AtomsAt w v ls) (hu : AtomsAt w u ls) (hn : ls.length ≤ 2097152) :
    Calls Tryd.prog 22 #[v, u] w fun e w' => e = .returned (.bool true) ∧ Below w.heap.size w w' := by
  rcases Nat.eq_zero_or_pos ls.length with h0 | h0
  · obtain ⟨a, cap, rfl, _⟩ := hv.len
    obtain ⟨a', cap', rfl, _⟩ := hu.len
    rw [h0]
    clear hv hu h0
    go_enter Tryd.func22, Tryd.ntmps22
    go_wp2
    refine wp_loop_rounds 1 ?_
    rw [rounds_succ]
    go_wp2
    go_ret
    exact ⟨rfl, Below.refl _ _⟩
  · obtain ⟨bk, o, cap, rfl, hcap, _, hC⟩ := hv.some h0
    obtain ⟨bk', o', cap', rfl, hcap', _, hD⟩ := hu.some h0
    obtain ⟨n, hnn⟩ : ∃ n, n = ls.length := ⟨_, rfl⟩
    rw [← hnn] at hn hcap hcap' h0 ⊢
    have HN := Lib.hid hnn
    have HC := Lib.hid hC
    have HD := Lib.hid hD
    have CE := Lib.hid (fun k t w => eqAtom_same k t w)
    clear hv hu hnn hC hD
    go_enter Tryd.func22, Tryd.ntmps22
    go_wp2_with fail
    go_loopw [5] (fun i wr => ∃ k : Nat, k ≤ n ∧ i = .int .i64 k ∧ Below w.heap.size w wr) (fun i _ => n - (intOf i).toNat)
    case atStart => exact ⟨0, Nat.zero_le _, rfl, Below.refl _ _⟩
    case round =>
      obtain ⟨k, hk, rfl, hbel⟩ := hrel
      by_cases hlt : k < n
      · obtain ⟨e, he⟩ : ∃ e, ls[k]? = some e := ⟨_, List.getElem?_eq_getElem (by rw [← HN.out]; exact hlt)⟩
        obtain ⟨g0, g1⟩ := HC.out wr hbel k e he
        obtain ⟨d0, d1⟩ := HD.out wr hbel k e he
        clear he
        go_wp2_with fail
        go_region_with (go_at_call 33; refine (CE.out e.1 e.2 _).mono ?_; rintro r w1 ⟨rfl, hb1⟩; have hbx : Below w.heap.size w w1 := hbel.trans (Below.trans (by first | exact Below.refl _ _ | exact (Below.refl _ _).drew) (hb1.mono hbel.size)))
        all_goals go_wp2
        all_goals go_roundw
        all_goals first
          | exact ⟨k + 1, by omega, by go_num, by repeat (first | exact hbx | apply Below.drew)⟩
          | (simp [intOf]; omega)
      · obtain rfl : k = n := by omega
        go_wp2
        go_ret
        exact ⟨rfl, hbel⟩
end Go.Proofs.YtnpiphkglhcifaaDoor
