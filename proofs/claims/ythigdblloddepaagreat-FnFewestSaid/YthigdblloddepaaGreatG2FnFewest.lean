/-
  CONTRACTS of the program's chapter 11, third part: slices.Contains at pieces, IsSegmentation.
-/
import Derived.Test.YthigdblloddepaaGreatG1FnFewest
import Derived.Test.YthigdblloddepaaGreatImpl6E
import Derived.Test.YthigdblloddepaaGreatMix
import Derived.Lib.SliceRun
import Derived.Laws.CopyOwn
import Derived.Laws.StructEq
namespace Go.Proofs.YthigdblloddepaaGreat
set_option maxRecDepth 100000
open Go.RowKit

/-- Block g holds N ints, none frozen. -/
def RwI (w : World) (g N : Nat) (f : Nat → Int) : Prop := g < w.heap.size ∧ (∀ j, j < N → w.cell? ⟨g, j, none⟩ = some (.int .i64 (f j))) ∧ ∀ j, w.frozen? ⟨g, j, none⟩ = false
theorem RwI.below {w w' : World} {g N : Nat} {f : Nat → Int} {B : Nat} (h : RwI w g N f) (hb : Below B w w') (hg : g < B) : RwI w' g N f :=
  ⟨Nat.lt_of_lt_of_le h.1 hb.size, fun j hj => (hb.cell (p := ⟨g, j, none⟩) hg).trans (h.2.1 j hj), fun j => (hb.frozen (p := ⟨g, j, none⟩) hg).trans (h.2.2 j)⟩
theorem RwI.set {w : World} {g N : Nat} {f : Nat → Int} (h : RwI w g N f) (k : Nat) (hk : k < N) (x : Int) : RwI (w.setCell ⟨g, k, none⟩ (.int .i64 x)) g N (fun j => if j = k then x else f j) := by
  refine ⟨by rw [World.size_setCell]; exact h.1, fun j hj => ?_, fun j => by rw [World.frozen?_setCell]; exact h.2.2 j⟩
  by_cases hjk : j = k
  · subst hjk; simp only [if_true]; exact World.cell?_setCell_same _ _ _ (h.2.1 j hj)
  · dsimp only
    rw [World.cell?_setCell_other _ _ _ _ (by intro e; injection e; omega), if_neg hjk]; exact h.2.1 j hj
theorem RwI.other {w : World} {g N : Nat} {f : Nat → Int} (h : RwI w g N f) {g' : Nat} (hne : g' ≠ g) (k : Nat) (v : Value) : RwI (w.setCell ⟨g', k, none⟩ v) g N f :=
  ⟨by rw [World.size_setCell]; exact h.1, fun j hj => by rw [World.cell?_setCell_other _ _ _ _ (by intro e; injection e; omega)]; exact h.2.1 j hj, fun j => by rw [World.frozen?_setCell]; exact h.2.2 j⟩
theorem RwI.grown {w w' : World} {g N : Nat} {f : Nat → Int} {row : Option Nat} (h : RwI w g N f) (hg : w.grownBy w' row) (hne : some g ≠ row) : RwI w' g N f :=
  ⟨Nat.lt_of_lt_of_le h.1 hg.size, fun j hj => (World.cell?_of_block (hg.block g h.1 hne)).trans (h.2.1 j hj), fun j => (World.frozen?_of_block (hg.block g h.1 hne)).trans (h.2.2 j)⟩
theorem mk_is (n : Nat) (hn : n ≤ 1000) (w : World) :
    (Instr.makeSlice 27 (.int .i64 ((n : Int) + 1)) (.int .i64 ((n : Int) + 1))).run Tryz.prog w = .ok (.slice (some ⟨w.heap.size, 0, none⟩) (n + 1) (n + 1)) (w.alloc (.cells (madeCells #[.int .i64 0] (n + 1)) 3)) := by
  obtain ⟨i, hi, hzz⟩ := Option.map_eq_some_iff.1 infoInt
  simp only [Prod.mk.injEq] at hzz
  obtain ⟨hz, hs, hb⟩ := hzz
  have hr := run_make (P := Tryz.prog) w 27 3 i _ Tryz.underlying27 hi hz .i64 .i64 ((n : Int) + 1) ((n : Int) + 1) (by omega) (Int.le_refl _) (by rw [hb]; omega) (by omega)
  rw [show ((n : Int) + 1).toNat = n + 1 by omega, hs, Nat.mul_one] at hr
  exact hr
theorem made_is (w : World) (N : Nat) : RwI (w.alloc (.cells (madeCells #[.int .i64 0] N) 3)) w.heap.size N (fun _ => 0) := by
  refine ⟨by rw [World.size_alloc]; omega, fun j hj => ?_, fun j => World.frozen?_alloc_at _ _ _ _ rfl⟩
  rw [World.cell?_alloc_at _ _ _ _ rfl]
  simp [madeCells, hj, Nat.mod_one]
theorem push_pcM {ops : Array Oper} {rest : List Oper} {o : Oper} {a : Act} {w : World} {Q : Exit → Act → World → Prop}
    (hgd : o.guard = none) (p q : Operand) (ho : o.op = .call { callee := .builtin .append, args := #[p, q], argTypes := #[30, 30] }) (base : Nat) (v : Value) (ls : List Pc) (hs : a.eval p = v) (hown : OwnP w base v ls)
    (e : Pc) (N : Nat) (hN : w.heap.size = N) (hq : a.eval q = .slice (some ⟨N, 0, none⟩) 1 1) (hb : base ≤ N) (h1 : ls.length ≤ 4194304)
    (h : ∀ v' w', OwnP w' base v' (ls ++ [e]) → w.grownBy w' v.ownBlock → (v'.ownBlock = v.ownBlock ∨ v'.ownBlock = some (N + 1)) → wpList Tryz.prog ops Q rest (a.put o.dst v') w') : wpList Tryz.prog ops Q (o :: rest) a (w.alloc (.cells #[.int .i64 e.1, .int .i64 e.2.1, .string e.2.2] 37)) := by
  subst hN
  exact push_pc hgd p q ho base v ls hs hown e hq hb h1 h
theorem PcB.set1 {w : World} {g : Nat} {f c : Int} {t : ByteArray} (h : PcB w g (f, c, t)) (x : Int) : PcB (w.setCell ⟨g, 1, none⟩ (.int .i64 x)) g (f, x, t) := Go.heap_setCell_same w g 1 _ 37 (.int .i64 x) h
theorem PcB.set2 {w : World} {g : Nat} {f c : Int} {t : ByteArray} (h : PcB w g (f, c, t)) (x : ByteArray) : PcB (w.setCell ⟨g, 2, none⟩ (.string x)) g (f, c, x) := Go.heap_setCell_same w g 2 _ 37 (.string x) h
theorem PcB.frozen {w : World} {g : Nat} {e : Pc} (h : PcB w g e) (j : Nat) : w.frozen? ⟨g, j, none⟩ = false := by unfold World.frozen?; simp only [show w.heap[g]? = _ from h]; rfl
theorem grown_set (w : World) (g o : Nat) (v : Value) : w.grownBy (w.setCell ⟨g, o, none⟩ v) (some g) := ⟨rfl, rfl, rfl, by rw [World.size_setCell]; exact Nat.le_refl _, fun k _ hk => Below.heap_setCell _ _ _ _ (fun e => hk (by rw [e]))⟩
theorem own_ne {v : Value} {g : Nat} (h : ∀ j, v.ownBlock = some j → j ≠ g) : v.ownBlock = none ∨ v.ownBlock ≠ some g := by
  cases hv : v.ownBlock with
  | none => exact .inl rfl
  | some j => exact .inr (fun e => h j hv (by injection e))
theorem ownP_lt' {w : World} {base : Nat} {v : Value} {ls : List Pc} (h : OwnP w base v ls) {j : Nat} (hj : v.ownBlock = some j) : j < w.heap.size := by
  rcases h.2 with ⟨rfl, _⟩ | ⟨g, cap, cur, rfl, _, hg, _⟩
  · simp [Value.ownBlock] at hj
  · have : g = j := by simpa [Value.ownBlock] using hj
    rw [← this]; exact (Array.getElem?_eq_some_iff.1 hg).1
/-- The best segmentation; none where the arguments are not valid. -/
def fwL (es : List Ent) (xs : List Int) : List Pc := if sgB es xs = true then Pl.opt es xs 0 else []
set_option maxHeartbeats 8000000 in
theorem specFewestPieces_any (v : Value) (es : List Ent) (u : Value) (xs : List Int) (w : World) (h : EntsAt w v es) (hu : IntsAt w u xs) (hn : es.length ≤ 2097152) (hx : ∀ e ∈ es, entOk e) (hxn : xs.length ≤ 2097152) :
    Calls Tryz.prog 18 #[dV v, u] w fun r w' => (∃ y, r = .returned (.tuple #[y, .bool (sgB es xs)]) ∧ OwnP w' w.heap.size y (fwL es xs)) ∧ Below w.heap.size w w' := by
  have cg := fun w' hb => l6Good_any v es w' (h.below (w' := w') hb) hn hx
  have cs := fun w' hb => l11Strokes_any u xs w' (hu.below (w' := w') hb) hxn
  have CF := Lib.hid (fun ys u' w' hb (hu' : IntsAt w' u' ys) (hy : ys.length ≤ 2097152) => l6Find_any v es u' ys w' (h.below (w' := w') hb) hu' hn hx hy)
  have HB : Hid (sgB es xs = (okD es && okS60 xs)) := rfl
  have HL : Hid (fwL es xs = if sgB es xs = true then Pl.opt es xs 0 else []) := rfl
  have HUat := Lib.hid hu
  obtain ⟨a, cap, rfl, hcap, _⟩ := h.cells
  obtain ⟨ua, uc, rfl, huc, _⟩ := hu.cells
  obtain ⟨n, hnn⟩ : ∃ n, n = xs.length := ⟨_, rfl⟩
  obtain ⟨dn, hdn⟩ : ∃ n, n = es.length := ⟨_, rfl⟩
  have HS : Hid (∀ i q, i + q ≤ n → 1 ≤ q → ∃ bk o, ua = some ⟨bk, o, none⟩ ∧ ∀ w', Below w.heap.size w w' → IntsAt w' (.slice (some ⟨bk, o + i, none⟩) q (uc - i)) ((xs.drop i).take q)) := by
    intro i q hq h1
    obtain ⟨bk, o, c', hv, _, hbk, hC⟩ := ints_block HUat.out (by omega)
    injection hv with hv1 hv2 hv3
    refine ⟨bk, o, hv1, fun w' hb => ?_⟩
    have hl' : ((xs.drop i).take q).length = q := by rw [List.length_take, List.length_drop]; omega
    refine ⟨_, uc - i, by rw [hl'], by rw [hl']; omega, .inr ⟨bk, o + i, rfl, Nat.lt_of_lt_of_le hbk hb.size, fun j x hx => ?_⟩⟩
    have hj : j < q := by
      rcases Nat.lt_or_ge j q with h' | h'
      · exact h'
      · rw [List.getElem?_eq_none (by rw [hl']; exact h')] at hx; cases hx
    rw [List.getElem?_take_of_lt hj, List.getElem?_drop] at hx
    rw [Nat.add_assoc]
    exact (hb.cell (p := ⟨bk, o + (i + j), none⟩) hbk).trans (hC _ _ hx)
  have HSl : Hid (∀ i q, ((xs.drop i).take q).length ≤ 2097152) := fun i q => by rw [List.length_take, List.length_drop]; omega
  have HX60 := Lib.hid (fun h : okS60 xs = true => (okS60_yes h).1)
  rw [← hnn] at cs huc HX60 hxn ⊢
  unfold dV at cg CF ⊢
  rw [← hdn] at cg CF hcap ⊢
  have HB0 := Lib.hid (below_al2 w (.cells #[.slice a dn cap] 26) (.cells #[] 37))
  have HO0 : Hid (OwnP ((w.alloc (.cells #[.slice a dn cap] 26)).alloc (.cells #[] 37)) (w.heap.size + 1) (.slice (some ⟨w.heap.size + 1, 0, none⟩) 0 0) []) := by
    have := ownP_new (w.alloc (.cells #[.slice a dn cap] 26))
    rwa [World.size_alloc] at this
  have HA0 : Hid (BoxV ((w.alloc (.cells #[.slice a dn cap] 26)).alloc (.cells #[] 37)) w.heap.size 26 (.slice a dn cap)) := (BoxV.new w _ _).below (below_al _ _) (by simp)
  have HDf := Lib.hid (fun h : okD es = true => okD_fine h)
  have HOEnd : Hid (Pl.opt es xs n = []) := by show _ = _; rw [hnn]; exact Pl.opt_end es xs
  have HCE : Hid (Pl.cC es xs n = 0) := by show _ = _; rw [hnn]; exact Pl.cC_end es xs
  have HCcap : Hid (∀ i, i < n → Pl.cN es xs i (Pl.capN xs i) = Pl.cC es xs i) := by rw [hnn]; exact fun i hi => Pl.cN_cap hi
  have HCap : Hid (∀ i, Pl.capN xs i = min 6 (n - i)) := by rw [hnn]; exact fun i => rfl
  have HTk : Hid (∀ i, i < n → (Pl.tk es xs i = 0 ∧ Pl.opt es xs i = Pl.unP i :: Pl.opt es xs (i + 1)) ∨ (1 ≤ Pl.tk es xs i ∧ i + Pl.tk es xs i ≤ n ∧ Pl.tk es xs i ≤ 6 ∧ ∃ t, Pl.lkP es xs i (Pl.tk es xs i) = some t ∧ Pl.opt es xs i = ((i : Int), (Pl.tk es xs i : Int), t) :: Pl.opt es xs (i + Pl.tk es xs i))) := by rw [hnn]; exact fun i hi => Pl.opt_tk hi
  have HCle := Lib.hid (fun j (h60 : xs.length ≤ 60) => Pl.cC_le es xs j h60)
  rw [← hnn] at HCle
  clear h hu hnn hdn HUat
  obtain ⟨bD, hbD⟩ : ∃ b, b = okD es := ⟨_, rfl⟩
  obtain ⟨bS, hbS⟩ : ∃ b, b = okS60 xs := ⟨_, rfl⟩
  obtain ⟨B, hB⟩ : ∃ b, b = sgB es xs := ⟨_, rfl⟩
  obtain ⟨L, hL⟩ : ∃ b, b = fwL es xs := ⟨_, rfl⟩
  rw [← hB] at HB HL ⊢
  rw [← hL] at HL ⊢
  rw [← hbD, ← hbS] at HB
  rw [← hbD] at cg HDf
  rw [← hbS] at cs HX60
  have CG := Lib.hid cg
  have CS := Lib.hid cs
  clear cg cs hbD hbS hx hn hB hL
  go_enter Tryz.func18, Tryz.ntmps18
  cases bD
  · obtain rfl : B = false := HB.out
    obtain rfl : L = [] := HL.out
    clear CF CS HL HS HSl HX60 HDf HOEnd HCE HCcap HCap HTk HCle
    go_wp2_with fail
    refine (CG.out _ HB0.out).mono ?_
    rintro r w1 ⟨rfl, hb⟩
    have B1 := Lib.hid (below_step HB0.out hb)
    have O1 := Lib.hid (ownsRow_mono (HO0.out.below' hb) (Nat.le_succ _))
    clear hb CG HO0 HA0
    go_wp2
    go_ret2
    exact ⟨⟨_, rfl, O1.out⟩, B1.out⟩
  · cases bS
    · obtain rfl : B = false := HB.out
      obtain rfl : L = [] := HL.out
      clear CF HL HS HSl HX60 HDf HOEnd HCE HCcap HCap HTk HCle
      go_wp2_with fail
      refine (CG.out _ HB0.out).mono ?_
      rintro r w1 ⟨rfl, hb⟩
      have B1 := Lib.hid (below_step HB0.out hb)
      have O1 := Lib.hid (ownsRow_mono (HO0.out.below' hb) (Nat.le_succ _))
      clear hb CG HO0 HA0
      go_wp2_with fail
      refine (CS.out _ B1.out).mono ?_
      rintro r w2 ⟨rfl, rfl⟩
      go_wp2
      go_ret2
      exact ⟨⟨_, rfl, O1.out⟩, B1.out⟩
    · obtain rfl : B = true := HB.out
      have h60 := HX60.out (by first | rfl | trivial)
      have hdf := HDf.out (by first | rfl | trivial)
      obtain rfl : L = Pl.opt es xs 0 := HL.out
      have HCs : Hid (∀ i q t, Pl.lkP es xs i (q + 1) = some t → Pl.cN es xs i (q + 1) = (if 1 + Pl.cC es xs (i + (q + 1)) ≤ Pl.cN es xs i q then 1 + Pl.cC es xs (i + (q + 1)) else Pl.cN es xs i q) ∧ Pl.tN es xs i (q + 1) = (if 1 + Pl.cC es xs (i + (q + 1)) ≤ Pl.cN es xs i q then q + 1 else Pl.tN es xs i q)) := fun i q t ht => Pl.cN_some hdf ht
      have HCl : Hid (∀ j, Pl.cC es xs j ≤ 6060) := fun j => HCle.out j h60
      clear HCle HDf hdf HX60 HL
      go_wp2_with fail
      refine (CG.out _ HB0.out).mono ?_
      rintro r w1 ⟨rfl, hb⟩
      have A1 := Lib.hid (HA0.out.below hb HA0.out.lt)
      have B1 := Lib.hid (below_step HB0.out hb)
      have O1 := Lib.hid (HO0.out.below' hb)
      have hs1 : w.heap.size + 2 ≤ w1.heap.size := by have := hb.size; simp at this; omega
      clear hb CG HO0 HA0 HB0
      go_wp2_with fail
      refine (CS.out _ B1.out).mono ?_
      rintro r w2 ⟨rfl, rfl⟩
      have hmk := fun w => mk_is n (by omega) w
      have hm1 := made_is w1 (n + 1)
      have hm2 := made_is (w1.alloc (.cells (madeCells #[.int .i64 0] (n + 1)) 3)) (n + 1)
      rw [World.size_alloc] at hm2
      have hal2 := below_al2 w1 (.cells (madeCells #[.int .i64 0] (n + 1)) 3) (.cells (madeCells #[.int .i64 0] (n + 1)) 3)
      have RC : Hid (RwI ((w1.alloc (.cells (madeCells #[.int .i64 0] (n + 1)) 3)).alloc (.cells (madeCells #[.int .i64 0] (n + 1)) 3)) w1.heap.size (n + 1) (fun _ => 0)) := hm1.below (below_al _ _) (by simp)
      have RT := Lib.hid hm2
      have BL := Lib.hid hal2
      clear hm1 hm2 hal2 CS
      go_wp2_with fail
      clear hmk
      obtain ⟨W, hW⟩ : ∃ W, W = (w1.alloc (.cells (madeCells #[.int .i64 0] (n + 1)) 3)).alloc (.cells (madeCells #[.int .i64 0] (n + 1)) 3) := ⟨_, rfl⟩
      rw [← hW] at RC RT BL ⊢
      clear hW
      go_loopw [9] (fun i wr => ∃ (m : Nat) (z : Int) (fc ft : Nat → Int), i = .int .i64 z ∧ z = (m : Int) - 1 ∧ m ≤ n ∧ Hid (RwI wr w1.heap.size (n + 1) fc) ∧ Hid (RwI wr (w1.heap.size + 1) (n + 1) ft) ∧ Hid (∀ j, m ≤ j → j ≤ n → fc j = (Pl.cC es xs j : Int)) ∧ Hid (∀ j, m ≤ j → j < n → ft j = (Pl.tk es xs j : Int)) ∧ Hid (Below w1.heap.size w1 wr)) (fun i _ => (intOf i + 1).toNat)
      case atStart =>
        refine ⟨n, _, _, _, rfl, rfl, Nat.le_refl _, RC, RT, Lib.hid (fun j h1 h2 => ?_), Lib.hid (fun j h1 h2 => absurd h2 (by omega)), BL⟩
        obtain rfl : j = n := by omega
        rw [HCE.out]; rfl
      case round =>
        obtain ⟨m, z, fc, ft, rfl, hz, hm, RCr, RTr, HFc, HFt, HBr⟩ := hrel
        cases m with
        | zero =>
          obtain rfl : z = -1 := by omega
          clear hz
          clear HCs HCl HCcap HCap HFc RCr RC RT BL
          have A2 := Lib.hid (A1.out.below HBr.out (by omega))
          have O2 := Lib.hid (O1.out.below' HBr.out)
          have B2 := Lib.hid (B1.out.trans (HBr.out.mono B1.out.size))
          have HFt0 : Hid (∀ j, j < n → ft j = (Pl.tk es xs j : Int)) := fun j hj => HFt.out j (Nat.zero_le _) hj
          have HTl : Hid (∀ j, j < n → Pl.tk es xs j ≤ 6) := fun j hj => by rcases HTk.out j hj with h | h <;> omega
          have hown0 : Hid (∀ j, (Value.slice (some ⟨w.heap.size + 1, 0, none⟩) 0 0).ownBlock = some j → j ≠ w1.heap.size + 1) := fun j hj => by
            have : w.heap.size + 1 = j := by simpa [Value.ownBlock] using hj
            omega
          clear HFt A1 O1 B1 HBr
          go_wp2_with fail
          go_loopw [6, 13] (fun y i wr => ∃ (k : Nat) (ls : List Pc), i = .int .i64 k ∧ k ≤ n ∧ ls.length ≤ k ∧ Hid (ls ++ Pl.opt es xs k = Pl.opt es xs 0) ∧ Hid (OwnP wr (w.heap.size + 1) y ls) ∧ Hid (∀ j, y.ownBlock = some j → j ≠ w1.heap.size + 1) ∧ Hid (RwI wr (w1.heap.size + 1) (n + 1) ft) ∧ Hid (BoxV wr w.heap.size 26 (.slice a dn cap)) ∧ Hid (Below w.heap.size w wr)) (fun _ i _ => n - (intOf i).toNat)
          case atStart => exact ⟨0, [], rfl, Nat.zero_le _, Nat.zero_le _, Lib.hid (List.nil_append _), O2, hown0, RTr, A2, B2⟩
          case round =>
            obtain ⟨k, ls, rfl, hk, hll, HLs, HO, HOn, HR, HA, HB'⟩ := hrel
            clear O2 hown0 RTr A2 B2
            by_cases hlt : k < n
            · have hcell := HR.out.2.1 k (by omega)
              rw [HFt0.out k hlt] at hcell
              have htl := HTl.out k hlt
              have htk := HTk.out k hlt
              have HSk := Lib.hid (HS.out k)
              have hal := below_al wr (.cells #[.int .i64 (k : Int), .int .i64 1, .string ByteArray.empty] 37)
              have R1 : Hid (RwI (wr.alloc (.cells #[.int .i64 (k : Int), .int .i64 1, .string ByteArray.empty] 37)) (w1.heap.size + 1) (n + 1) ft) := HR.out.below hal HR.out.1
              have A3 : Hid (BoxV (wr.alloc (.cells #[.int .i64 (k : Int), .int .i64 1, .string ByteArray.empty] 37)) w.heap.size 26 (.slice a dn cap)) := HA.out.below hal HA.out.lt
              have O3 : Hid (OwnP (wr.alloc (.cells #[.int .i64 (k : Int), .int .i64 1, .string ByteArray.empty] 37)) (w.heap.size + 1) u6 ls) := HO.out.below' hal
              have B3 : Hid (Below w.heap.size w (wr.alloc (.cells #[.int .i64 (k : Int), .int .i64 1, .string ByteArray.empty] 37))) := below_step HB'.out hal
              have P3 : Hid (PcB (wr.alloc (.cells #[.int .i64 (k : Int), .int .i64 1, .string ByteArray.empty] 37)) wr.heap.size ((k : Int), 1, ByteArray.empty)) := PcB.new wr ((k : Int), 1, ByteArray.empty)
              have hcell2 := R1.out.2.1 k (by omega)
              rw [HFt0.out k hlt] at hcell2
              have HOl : Hid (∀ j, Value.ownBlock u6 = some j → j < wr.heap.size) := fun j hj => ownP_lt' HO.out hj
              have hs3 : w.heap.size + 1 ≤ wr.heap.size := by have := HA.out.lt; omega
              have hR1 : w1.heap.size + 1 < wr.heap.size := HR.out.1
              obtain ⟨c, hc⟩ : ∃ c, c = Pl.tk es xs k := ⟨_, rfl⟩
              rw [← hc] at hcell hcell2 htl htk
              have cmx := fun w => l1Most_any c 1 w
              have CMx := Lib.hid cmx
              have HCell : Hid (ft k = (c : Int)) := by rw [HFt0.out k hlt, ← hc]; rfl
              clear cmx hal HTk HS HFt0 HTl hc
              rcases htk with ⟨hc0, hopt⟩ | ⟨hc1, hcn, hc6, t, hlk, hopt⟩
              · have HL2 : Hid ((ls ++ [Pl.unP k]) ++ Pl.opt es xs (k + 1) = Pl.opt es xs 0) := by rw [List.append_assoc, List.singleton_append, ← hopt]; exact HLs.out
                have hc0' : ¬ (0 : Int) < (c : Int) := by omega
                have HMx : Hid (max c 1 = 1) := by show _ = _; omega
                obtain ⟨p0, p1, p2⟩ := P3.out.cells
                dsimp only at p0 p1 p2
                have HN4 := Lib.hid (World.size_alloc wr (.cells #[.int .i64 (k : Int), .int .i64 1, .string ByteArray.empty] 37))
                have hs4 : w.heap.size + 1 ≤ wr.heap.size + 1 := by omega
                clear hc0 hopt HLs CF HSk HSl HR HA HO HB'
                go_wp2_with (at_builtin; refine push_pcM rfl _ _ rfl (w.heap.size + 1) _ ls rfl O3.out (Pl.unP k) (wr.heap.size + 1) HN4.out rfl hs4 (by omega) ?_)
                intro v' w5 hown hg hat
                have R5 := Lib.hid (R1.out.grown hg (fun e => HOn.out _ e.symm rfl))
                have A5 := Lib.hid (A3.out.grown hg (fun e => by have := row_ge O3.out e.symm; omega))
                have B5 := Lib.hid (B3.out.grown hg (by rw [World.size_alloc]; omega) (fun j hj => by have := row_ge O3.out hj; omega))
                have O5 := Lib.hid hown
                have HOn5 : Hid (∀ j, v'.ownBlock = some j → j ≠ w1.heap.size + 1) := fun j hj => by
                  rcases hat with h2 | h2
                  · exact HOn.out j (by rw [← h2]; exact hj)
                  · rw [h2] at hj; injection hj with hj; omega
                have d5 := R5.out.2.1 k (by omega)
                rw [HCell.out] at d5
                clear hown hg hat R1 A3 B3 O3 P3 p0 p1 p2 hcell hcell2 HOn HN4
                go_wp2_with fail
                refine (CMx.out _).mono ?_
                rintro r w6 ⟨rfl, rfl⟩
                rw [HMx.out]
                go_wp2
                go_roundw
                case rel => exact ⟨k + 1, ls ++ [Pl.unP k], by go_num, by omega, by rw [List.length_append, List.length_singleton]; omega, HL2, O5, HOn5, R5, A5, B5⟩
                case measure => simp [intOf]; omega
              · have HL2 : Hid ((ls ++ [((k : Int), (c : Int), t)]) ++ Pl.opt es xs (k + c) = Pl.opt es xs 0) := by rw [List.append_assoc, List.singleton_append, ← hopt]; exact HLs.out
                have hcp : (0 : Int) < (c : Int) := by omega
                have HMx : Hid (max c 1 = c) := by show _ = _; omega
                obtain ⟨ub, uo, rfl, hSI⟩ := HSk.out c hcn hc1
                have hlk2 : Pl.look ((xs.drop k).take c) es = some t := hlk
                have CF1 := Lib.hid (fun w' (hb : Below w.heap.size w w') => hlk2 ▸ CF.out _ _ w' hb (hSI w' hb) (HSl.out k c))
                obtain ⟨p0, p1, p2⟩ := P3.out.cells
                dsimp only at p0 p1 p2
                have f1 := P3.out.frozen 1
                have hal4 := below_al wr (.cells #[.int .i64 (k : Int), .int .i64 (c : Int), .string ⟨#[]⟩] 37)
                have P4 : Hid (PcB (wr.alloc (.cells #[.int .i64 (k : Int), .int .i64 (c : Int), .string ⟨#[]⟩] 37)) wr.heap.size ((k : Int), (c : Int), ⟨#[]⟩)) := PcB.new wr ((k : Int), (c : Int), ⟨#[]⟩)
                have R4 : Hid (RwI (wr.alloc (.cells #[.int .i64 (k : Int), .int .i64 (c : Int), .string ⟨#[]⟩] 37)) (w1.heap.size + 1) (n + 1) ft) := HR.out.below hal4 HR.out.1
                have A4 : Hid (BoxV (wr.alloc (.cells #[.int .i64 (k : Int), .int .i64 (c : Int), .string ⟨#[]⟩] 37)) w.heap.size 26 (.slice a dn cap)) := HA.out.below hal4 HA.out.lt
                have O4 : Hid (OwnP (wr.alloc (.cells #[.int .i64 (k : Int), .int .i64 (c : Int), .string ⟨#[]⟩] 37)) (w.heap.size + 1) u6 ls) := HO.out.below' hal4
                have B4 : Hid (Below w.heap.size w (wr.alloc (.cells #[.int .i64 (k : Int), .int .i64 (c : Int), .string ⟨#[]⟩] 37))) := below_step HB'.out hal4
                have d4 := R4.out.2.1 k (by omega)
                rw [HCell.out] at d4
                have hs4' : (wr.alloc (.cells #[.int .i64 (k : Int), .int .i64 (c : Int), .string ⟨#[]⟩] 37)).heap.size = wr.heap.size + 1 := World.size_alloc _ _
                obtain ⟨W4, hW4⟩ : ∃ W, W = wr.alloc (.cells #[.int .i64 (k : Int), .int .i64 (c : Int), .string ⟨#[]⟩] 37) := ⟨_, rfl⟩
                rw [← hW4] at P4 R4 A4 O4 B4 d4 hs4'
                have HW4 := Lib.hid hW4
                have HS4 := Lib.hid hs4'
                have k1 := cell_regrown A4.out.cell
                have k2 := cell_regrown d4
                clear hlk hlk2 hopt HLs CF HSk HSl hSI hW4 R1 A3 O3 B3 P3 hs4' HR HA HO HB' hal4
                go_wp2_with fail
                rw [← HW4.out]
                clear p0 p1 p2 f1 hcell hcell2
                refine Mx.wp_region_mixed (Mx.ofL [(0, 1), (1, 0), (2, 0), (3, 0), (4, 0), (5, 0), (6, 0), (7, 1), (8, 0), (9, 0), (10, 3), (11, 0), (12, 0), (13, 0), (14, 0), (15, 3)] .done) (by kernel_rfl) (by kernel_rfl) ?_
                repeat ((first | refine Mx.mix0 rfl ?_ | refine Mx.mix1 rfl ?_); go_big_quiet_step (fail); refine wpQuiet_nil ?_)
                refine Mx.mix3 rfl ?_
                go_wp2_with fail
                refine (CF1.out _ (below_step B4.out (below_drewN (Below.refl _ _) 1))).mono ?_
                rintro r w6 ⟨rfl, hb'⟩
                have hb : Below W4.heap.size W4 w6 := (below_drewN (Below.refl _ _) 1).trans hb'
                have hsz := hb.size
                have P6 := Lib.hid (P4.out.below hb P4.out.lt)
                have R6 := Lib.hid (R4.out.below hb R4.out.1)
                have A6 := Lib.hid (A4.out.below hb A4.out.lt)
                have O6 := Lib.hid (O4.out.below' hb)
                have B6 := Lib.hid (below_step B4.out hb)
                have hs6 : wr.heap.size + 1 ≤ w6.heap.size := by have := HS4.out; omega
                obtain ⟨_, _, p2⟩ := P6.out.cells
                dsimp only at p2
                have f2 := P6.out.frozen 2
                clear hb hb' k1 k2 d4 CF1 P4 R4 A4 O4 B4 hsz HW4 HS4
                unfold lkE
                simp only [Option.isSome_some, Option.getD_some]
                go_wp2
                refine Mx.mid_normal (fun q => by cases q) ?_
                repeat ((first | refine Mx.mix0 rfl ?_ | refine Mx.mix1 rfl ?_); go_big_quiet_step (fail); refine wpQuiet_nil ?_)
                refine Mx.mix3 rfl ?_
                have P7 := Lib.hid (P6.out.set2 t)
                have R7 := Lib.hid (R6.out.other (g' := wr.heap.size) (by omega) 2 (.string t))
                have A7 : Hid (BoxV (w6.setCell ⟨wr.heap.size, 2, none⟩ (.string t)) w.heap.size 26 (.slice a dn cap)) := Lib.hid (BoxV.other A6.out (by omega))
                have O7 : Hid (OwnP (w6.setCell ⟨wr.heap.size, 2, none⟩ (.string t)) (w.heap.size + 1) u6 ls) := Lib.hid (O6.out.kept (grown_set _ _ _ _) (own_ne fun j hj => by have := HOl.out j hj; omega))
                have B7 : Hid (Below w.heap.size w (w6.setCell ⟨wr.heap.size, 2, none⟩ (.string t))) := Lib.hid (B6.out.setCell (p := ⟨wr.heap.size, 2, none⟩) (by show _ ≤ wr.heap.size; omega) _)
                go_wp2
                refine Mx.mid_normal (fun q => by cases q) ?_
                refine Mx.mix_nil ?_
                obtain ⟨q0, q1, q2⟩ := P7.out.cells
                dsimp only at q0 q1 q2
                have HN7 := Lib.hid (World.size_setCell w6 ⟨wr.heap.size, 2, none⟩ (.string t))
                have hs7 : w.heap.size + 1 ≤ w6.heap.size := by omega
                clear P6 R6 A6 O6 B6 p2 f2
                go_wp2_with (at_builtin; refine push_pcM rfl _ _ rfl (w.heap.size + 1) _ ls rfl O7.out ((k : Int), (c : Int), t) w6.heap.size HN7.out rfl hs7 (by omega) ?_)
                intro v' w8 hown hg hat
                have R8 := Lib.hid (R7.out.grown hg (fun e => HOn.out _ e.symm rfl))
                have A8 := Lib.hid (A7.out.grown hg (fun e => by have := row_ge O7.out e.symm; omega))
                have B8 := Lib.hid (B7.out.grown hg (by rw [World.size_setCell]; omega) (fun j hj => by have := row_ge O7.out hj; omega))
                have O8 := Lib.hid hown
                have HOn8 : Hid (∀ j, v'.ownBlock = some j → j ≠ w1.heap.size + 1) := fun j hj => by
                  rcases hat with h2 | h2
                  · exact HOn.out j (by rw [← h2]; exact hj)
                  · rw [h2] at hj; injection hj with hj; omega
                have d8 := R8.out.2.1 k (by omega)
                rw [HCell.out] at d8
                clear hown hg hat R7 A7 B7 O7 P7 q0 q1 q2 HOn HN7
                go_wp2_with fail
                refine (CMx.out _).mono ?_
                rintro r w9 ⟨rfl, rfl⟩
                rw [HMx.out]
                go_wp2
                go_roundw
                case rel => exact ⟨k + c, ls ++ [((k : Int), (c : Int), t)], by go_num, by omega, by rw [List.length_append, List.length_singleton]; omega, HL2, O8, HOn8, R8, A8, B8⟩
                case measure => simp [intOf]; omega
            · have HF : Hid (ls = Pl.opt es xs 0) := by have h1 := HLs.out; rw [show k = n by omega, HOEnd.out, List.append_nil] at h1; exact h1
              have OF := Lib.hid (ownsRow_mono HO.out (Nat.le_succ w.heap.size))
              clear HLs CF HS HSl HTk HFt0 HTl
              go_wp2
              go_ret2
              exact ⟨⟨_, rfl, by rw [← HF.out]; exact OF.out⟩, HB'.out⟩
        | succ i =>
          obtain rfl : z = (i : Int) := by omega
          clear hz
          have hin : i < n := by omega
          have hc1 := RCr.out.2.1 (i + 1) (by omega)
          rw [HFc.out (i + 1) (by omega) (by omega)] at hc1
          have hc0 := RCr.out.2.1 i (by omega)
          have hf0 := RCr.out.2.2 i
          have ht0 := RTr.out.2.1 i (by omega)
          have hg0 := RTr.out.2.2 i
          have hcl := HCl.out (i + 1)
          have RC2 := Lib.hid ((RCr.out.set i (by omega) (101 + (Pl.cC es xs (i + 1) : Int))).other (g' := w1.heap.size + 1) (by omega) i (.int .i64 0))
          have RT2 := Lib.hid ((RTr.out.other (g' := w1.heap.size) (by omega) i (.int .i64 (101 + (Pl.cC es xs (i + 1) : Int)))).set i (by omega) 0)
          have B2 : Hid (Below w1.heap.size w1 ((wr.setCell ⟨w1.heap.size, i, none⟩ (.int .i64 (101 + (Pl.cC es xs (i + 1) : Int)))).setCell ⟨w1.heap.size + 1, i, none⟩ (.int .i64 0))) := Lib.hid ((HBr.out.setCell (p := ⟨w1.heap.size, i, none⟩) (Nat.le_refl _) _).setCell (p := ⟨w1.heap.size + 1, i, none⟩) (Nat.le_succ _) _)
          have hcn := Pl.cN_zero es xs i
          have HFc2 : Hid (∀ j, i < j → j ≤ n → (fun j => if j = i then (101 + (Pl.cC es xs (i + 1) : Int)) else fc j) j = (Pl.cC es xs j : Int)) := fun j h1 h2 => by dsimp only; rw [if_neg (by omega)]; exact HFc.out j (by omega) h2
          have HFi2 : Hid ((fun j => if j = i then (101 + (Pl.cC es xs (i + 1) : Int)) else fc j) i = (Pl.cN es xs i 0 : Int)) := by show (if i = i then _ else _) = _; rw [if_pos rfl, hcn]; omega
          have HFt2 : Hid (∀ j, i < j → j < n → (fun j => if j = i then (0 : Int) else ft j) j = (Pl.tk es xs j : Int)) := fun j h1 h2 => by dsimp only; rw [if_neg (by omega)]; exact HFt.out j (by omega) h2
          have HTi2 : Hid ((fun j => if j = i then (0 : Int) else ft j) i = (Pl.tN es xs i 0 : Int)) := by show (if i = i then _ else _) = _; rw [if_pos rfl]; rfl
          obtain ⟨fc2, hfc2⟩ : ∃ f, f = (fun j => if j = i then (101 + (Pl.cC es xs (i + 1) : Int)) else fc j) := ⟨_, rfl⟩
          obtain ⟨ft2, hft2⟩ : ∃ f, f = (fun j => if j = i then (0 : Int) else ft j) := ⟨_, rfl⟩
          rw [← hfc2] at RC2 HFc2 HFi2
          rw [← hft2] at RT2 HFt2 HTi2
          obtain ⟨C1, hC1⟩ : ∃ C1, C1 = Pl.cC es xs (i + 1) := ⟨_, rfl⟩
          rw [← hC1] at hc1 hcl RC2 RT2 B2
          clear hcn hfc2 hft2 RCr RTr HFc HFt HBr hC1 RC RT BL
          go_wp2_with fail
          go_loopw [10] (fun k wq => ∃ (q : Nat) (fc' ft' : Nat → Int), k = .int .i64 ((q : Int) + 1) ∧ q ≤ min 6 (n - i) ∧ Hid (RwI wq w1.heap.size (n + 1) fc') ∧ Hid (RwI wq (w1.heap.size + 1) (n + 1) ft') ∧ Hid (∀ j, i < j → j ≤ n → fc' j = (Pl.cC es xs j : Int)) ∧ Hid (fc' i = (Pl.cN es xs i q : Int)) ∧ Hid (∀ j, i < j → j < n → ft' j = (Pl.tk es xs j : Int)) ∧ Hid (ft' i = (Pl.tN es xs i q : Int)) ∧ Hid (Below w1.heap.size w1 wq)) (fun k _ => (8 - intOf k).toNat)
          case atStart => exact ⟨0, fc2, ft2, rfl, Nat.zero_le _, RC2, RT2, HFc2, HFi2, HFt2, HTi2, B2⟩
          case round =>
            obtain ⟨q, fc', ft', rfl, hq, RCq, RTq, HFq, HFi, HTq, HTi, HBq⟩ := hrel
            clear RC2 RT2 HFc2 HFi2 HFt2 HTi2 B2 hc1 hc0 hf0 ht0 hg0
            by_cases hqc : q < min 6 (n - i)
            · have hq6 : q + 1 ≤ 6 := by omega
              have hqn : i + (q + 1) ≤ n := by omega
              obtain ⟨ub, uo, rfl, hSI⟩ := HS.out i (q + 1) hqn (by omega)
              have hbw := B1.out.trans (HBq.out.mono B1.out.size)
              have CF1 := Lib.hid (fun w' (hb : Below wr.heap.size wr w') => CF.out _ _ w' (below_step hbw hb) (hSI w' (below_step hbw hb)) (HSl.out i (q + 1)))
              have hcs := HCs.out i q
              obtain ⟨lk, hlk⟩ : ∃ lk, lk = Pl.lkP es xs i (q + 1) := ⟨_, rfl⟩
              have hlk2 : Pl.look ((xs.drop i).take (q + 1)) es = lk := by rw [hlk]; rfl
              have hcno := fun (h : Pl.lkP es xs i (q + 1) = none) => Pl.cN_none h
              rw [hlk2] at CF1
              rw [← hlk] at hcs hcno
              have HCs1 := Lib.hid hcs
              have HCno := Lib.hid hcno
              have Aq := Lib.hid (A1.out.below HBq.out (by omega))
              have k1 := cell_regrown Aq.out.cell
              have hC := HFq.out (i + (q + 1)) (by omega) hqn
              have hCl := HCl.out (i + (q + 1))
              obtain ⟨CC, hCC⟩ : ∃ c, c = Pl.cC es xs (i + (q + 1)) := ⟨_, rfl⟩
              rw [← hCC] at HCs1 hC hCl
              obtain ⟨CN, hCN⟩ : ∃ c, c = Pl.cN es xs i q := ⟨_, rfl⟩
              have HFi' := HFi.out
              rw [← hCN] at HCs1 HFi'
              have HCi := Lib.hid HFi'
              have HCj := Lib.hid hC
              clear hcs hcno hlk hlk2 hCC hC HFi' hSI hbw CF HS HSl HCs
              go_wp2_with fail
              refine Mx.wp_region_mixed (Mx.ofL [(0, 1), (1, 0), (2, 0), (3, 0), (4, 0), (5, 0), (6, 0), (7, 3), (8, 0), (9, 0), (10, 0), (11, 0), (12, 0)] .done) (by kernel_rfl) (by kernel_rfl) ?_
              repeat ((first | refine Mx.mix0 rfl ?_ | refine Mx.mix1 rfl ?_); go_big_quiet_step (fail); refine wpQuiet_nil ?_)
              refine Mx.mix3 rfl ?_
              go_wp2_with fail
              refine (CF1.out _ (below_drewN (Below.refl _ _) 1)).mono ?_
              rintro r w3 ⟨rfl, hb'⟩
              have hb : Below wr.heap.size wr w3 := (below_drewN (Below.refl _ _) 1).trans hb'
              have RC3 := Lib.hid (RCq.out.below hb RCq.out.1)
              have RT3 := Lib.hid (RTq.out.below hb RTq.out.1)
              have hw1q : w1.heap.size ≤ wr.heap.size := HBq.out.size
              have B3 := Lib.hid (HBq.out.trans (hb.mono hw1q))
              clear hb' hb k1 RCq RTq HBq Aq CF1
              unfold lkE
              go_wp2
              refine Mx.mid_normal (fun q => by cases q) ?_
              repeat ((first | refine Mx.mix0 rfl ?_ | refine Mx.mix1 rfl ?_); go_big_quiet_step (fail); refine wpQuiet_nil ?_)
              refine Mx.mix_nil ?_
              cases lk with
              | none =>
                simp only [Option.isSome_none, Option.getD_none]
                obtain ⟨e1, e2⟩ := HCno.out rfl
                have HFi3 : Hid (fc' i = (Pl.cN es xs i (q + 1) : Int)) := by rw [e1]; exact HFi.out
                have HTi3 : Hid (ft' i = (Pl.tN es xs i (q + 1) : Int)) := by rw [e2]; exact HTi.out
                have cI := RC3.out.2.1 i (by omega)
                have kI := cell_regrown cI
                clear e1 e2 HCno HCs1 HCi HCj
                go_wp2_with fail
                refine wp_region_quiet_below (by kernel_rfl) (by kernel_rfl) ?_
                repeat (go_big_quiet_step (fail))
                refine wpQuiet_nil ?_
                rintro _ ⟨⟨dq, osq⟩, rfl⟩
                have hd := below_regrown w3 dq osq
                have RC4 := Lib.hid (RC3.out.below hd RC3.out.1)
                have RT4 := Lib.hid (RT3.out.below hd RT3.out.1)
                have B4 := Lib.hid (B3.out.trans (hd.mono B3.out.size))
                obtain ⟨W4, hW4⟩ : ∃ W, W = Go.Sort.grow (redrawn w3 dq) osq := ⟨_, rfl⟩
                dsimp only at RC4 RT4 B4 ⊢
                rw [← hW4] at RC4 RT4 B4 ⊢
                clear hd hW4 cI kI RC3 RT3 B3
                go_wp2
                go_roundw
                case rel => exact ⟨q + 1, fc', ft', by go_num, by omega, RC4, RT4, HFq, HFi3, HTq, HTi3, B4⟩
                case measure => simp [intOf]; omega
              | some t =>
                simp only [Option.isSome_some, Option.getD_some]
                obtain ⟨e1, e2⟩ := HCs1.out t rfl
                have cI := RC3.out.2.1 i (by omega)
                have cJ := RC3.out.2.1 (i + (q + 1)) (by omega)
                rw [HCi.out] at cI
                rw [HCj.out] at cJ
                have kI := cell_regrown cI
                have kJ := cell_regrown cJ
                by_cases hle : 1 + CC ≤ CN
                · rw [if_pos hle] at e1 e2
                  have hle' : 1 + (CC : Int) ≤ (CN : Int) := by omega
                  have E1 := Lib.hid e1
                  have E2 := Lib.hid e2
                  clear e1 e2 HCno HCs1 HCi HCj hle
                  go_wp2_with fail
                  refine Mx.wp_region_mixed (Mx.ofL [(0, 0), (1, 0), (2, 0), (3, 0), (4, 0), (5, 0), (6, 0), (7, 1), (8, 0), (9, 0), (10, 0), (11, 0), (12, 1), (13, 0), (14, 3)] .done) (by kernel_rfl) (by kernel_rfl) ?_
                  repeat ((first | refine Mx.mix0 rfl ?_ | refine Mx.mix1 rfl ?_); go_big_quiet_step (fail); refine wpQuiet_nil ?_)
                  refine Mx.mix3 rfl ?_
                  go_wp2
                  refine Mx.mid_normal (fun q => by cases q) ?_
                  refine Mx.mix_nil ?_
                  have hd : Below w3.heap.size w3 (w3.drew) := below_drewN (Below.refl _ _) 1
                  have RC4 := Lib.hid (RC3.out.below hd RC3.out.1)
                  have RT4 := Lib.hid (RT3.out.below hd RT3.out.1)
                  have B4 : Hid (Below w1.heap.size w1 w3.drew) := Lib.hid (below_drewN B3.out 1)
                  obtain ⟨W4, hW4⟩ : ∃ W, W = w3.drew := ⟨_, rfl⟩
                  rw [← hW4] at RC4 RT4 B4 ⊢
                  have dJ := RC4.out.2.1 (i + (q + 1)) (by omega)
                  have dI := RC4.out.2.1 i (by omega)
                  have fI := RC4.out.2.2 i
                  have tI := RT4.out.2.1 i (by omega)
                  have gI := RT4.out.2.2 i
                  rw [HFq.out _ (by omega) hqn] at dJ
                  have RC5 := Lib.hid ((RC4.out.set i (by omega) (1 + (CC : Int))).other (g' := w1.heap.size + 1) (by omega) i (.int .i64 ((q : Int) + 1)))
                  have RT5 := Lib.hid ((RT4.out.other (g' := w1.heap.size) (by omega) i (.int .i64 (1 + (CC : Int)))).set i (by omega) ((q : Int) + 1))
                  have B5 : Hid (Below w1.heap.size w1 ((W4.setCell ⟨w1.heap.size, i, none⟩ (.int .i64 (1 + (CC : Int)))).setCell ⟨w1.heap.size + 1, i, none⟩ (.int .i64 ((q : Int) + 1)))) := Lib.hid ((B4.out.setCell (p := ⟨w1.heap.size, i, none⟩) (Nat.le_refl _) _).setCell (p := ⟨w1.heap.size + 1, i, none⟩) (Nat.le_succ _) _)
                  have HFq5 : Hid (∀ j, i < j → j ≤ n → (fun j => if j = i then (1 + (CC : Int)) else fc' j) j = (Pl.cC es xs j : Int)) := fun j h1 h2 => by dsimp only; rw [if_neg (by omega)]; exact HFq.out j h1 h2
                  have HFi5 : Hid ((fun j => if j = i then (1 + (CC : Int)) else fc' j) i = (Pl.cN es xs i (q + 1) : Int)) := by show (if i = i then _ else _) = _; rw [if_pos rfl, E1.out]; omega
                  have HTq5 : Hid (∀ j, i < j → j < n → (fun j => if j = i then ((q : Int) + 1) else ft' j) j = (Pl.tk es xs j : Int)) := fun j h1 h2 => by dsimp only; rw [if_neg (by omega)]; exact HTq.out j h1 h2
                  have HTi5 : Hid ((fun j => if j = i then ((q : Int) + 1) else ft' j) i = (Pl.tN es xs i (q + 1) : Int)) := by show (if i = i then _ else _) = _; rw [if_pos rfl, E2.out]; omega
                  have hCC2 : (Pl.cC es xs (i + (q + 1)) : Int) = (CC : Int) := by have h1 := HFq.out (i + (q + 1)) (by omega) hqn; have h2 := RC3.out.2.1 (i + (q + 1)) (by omega); rw [cJ] at h2; injection h2 with h2; injection h2 with _ h2; rw [← h1, ← h2]
                  rw [hCC2] at dJ
                  clear hd hW4 RC3 RT3 B3 RC4 RT4 B4 cI cJ HFq HFi HTq HTi E1 E2 hCC2
                  go_wp2
                  go_roundw
                  case rel => exact ⟨q + 1, _, _, by go_num, by omega, RC5, RT5, HFq5, HFi5, HTq5, HTi5, B5⟩
                  case measure => simp [intOf]; omega
                · rw [if_neg hle] at e1 e2
                  have hle' : ¬ 1 + (CC : Int) ≤ (CN : Int) := by omega
                  have HFi3 : Hid (fc' i = (Pl.cN es xs i (q + 1) : Int)) := by rw [e1]; exact HCi.out
                  have HTi3 : Hid (ft' i = (Pl.tN es xs i (q + 1) : Int)) := by rw [e2]; exact HTi.out
                  clear e1 e2 HCno HCs1 HCi HCj hle
                  go_wp2_with fail
                  refine Mx.wp_region_mixed (Mx.ofL [(0, 0), (1, 0), (2, 0), (3, 0), (4, 0), (5, 0), (6, 0), (7, 1), (8, 0), (9, 0), (10, 0), (11, 0), (12, 1), (13, 0), (14, 3)] .done) (by kernel_rfl) (by kernel_rfl) ?_
                  repeat ((first | refine Mx.mix0 rfl ?_ | refine Mx.mix1 rfl ?_); go_big_quiet_step (fail); refine wpQuiet_nil ?_)
                  refine Mx.mix3 rfl ?_
                  go_wp2
                  refine Mx.mid_normal (fun q => by cases q) ?_
                  refine Mx.mix_nil ?_
                  go_wp2
                  go_roundw
                  case rel => exact ⟨q + 1, fc', ft', by go_num, by omega, RC3.out.below (below_drewN (Below.refl _ _) 1) RC3.out.1, RT3.out.below (below_drewN (Below.refl _ _) 1) RT3.out.1, HFq, HFi3, HTq, HTi3, below_drewN B3.out 1⟩
                  case measure => simp [intOf]; omega
            · have hqe : q = min 6 (n - i) := by omega
              have HFo : Hid (∀ j, i ≤ j → j ≤ n → fc' j = (Pl.cC es xs j : Int)) := fun j h1 h2 => by
                by_cases hj : j = i
                · subst hj; rw [HFi.out, hqe, ← HCap.out, HCcap.out j hin]
                · exact HFq.out j (by omega) h2
              have HTo : Hid (∀ j, i ≤ j → j < n → ft' j = (Pl.tk es xs j : Int)) := fun j h1 h2 => by
                by_cases hj : j = i
                · subst hj; rw [HTi.out, hqe, ← HCap.out]; rfl
                · exact HTq.out j (by omega) h2
              clear HFq HFi HTq HTi HS HSl HCs CF
              by_cases hq6 : q + 1 ≤ 6
              · have hqn : ¬ i + (q + 1) ≤ n := by omega
                clear hqe hqc
                go_wp2
                go_roundw
                case rel => exact ⟨i, (i : Int) - 1, fc', ft', rfl, rfl, by omega, RCq, RTq, HFo, HTo, HBq.out⟩
                case measure => simp [intOf]
              · clear hqe hqc
                go_wp2
                go_roundw
                case rel => exact ⟨i, (i : Int) - 1, fc', ft', rfl, rfl, by omega, RCq, RTq, HFo, HTo, HBq.out⟩
                case measure => simp [intOf]
end Go.Proofs.YthigdblloddepaaGreat

namespace Go.Proofs.YthigdblloddepaaGreat
set_option maxRecDepth 100000
open Go.RowKit

theorem heap_setCells_else (g k : Nat) (hk : k ≠ g) : ∀ (vs : List Value) (o : Nat) (w : World), (w.setCells g o vs).heap[k]? = w.heap[k]?
  | [], _, _ => rfl
  | v :: vs, o, w => (heap_setCells_else g k hk vs (o + 1) (w.setCell ⟨g, o, none⟩ v)).trans (Below.heap_setCell _ _ _ _ hk)
theorem below_setCellsG {B g : Nat} {a : World} (hb : B ≤ g) : ∀ (vs : List Value) (o : Nat) (w : World), Below B a w → Below B a (w.setCells g o vs)
  | [], _, _, h => h
  | v :: vs, o, _, h => below_setCellsG hb vs (o + 1) _ (h.setCell (p := ⟨g, o, none⟩) hb v)
theorem grown_rowG (w : World) (g : Nat) (cs : Array Value) : w.grownBy (w.setRow g cs) (some g) := ⟨rfl, rfl, rfl, by rw [setRow_size]; exact Nat.le_refl _, fun k _ hk => setRow_other w g k cs (fun e => hk (by rw [e]))⟩
theorem heap_setCells_row (g : Nat) (t : TypeId) : ∀ (vs : List Value) (o : Nat) (w : World) (cs : List Value), w.heap[g]? = some (.cells cs.toArray t (0, 0)) → o + vs.length ≤ cs.length → (w.setCells g o vs).heap[g]? = some (.cells (splice cs o vs).toArray t (0, 0))
  | [], o, w, cs, h, _ => by
    show w.heap[g]? = _
    rw [h]; simp [splice]
  | v :: vs, o, w, cs, h, hl => by
    show ((w.setCell ⟨g, o, none⟩ v).setCells g (o + 1) vs).heap[g]? = _
    have h1 := Go.heap_setCell_same w g o cs.toArray t v h
    have e1 : cs.toArray.setIfInBounds o v = (cs.set o v).toArray := by simp
    rw [e1] at h1
    rw [heap_setCells_row g t vs (o + 1) _ (cs.set o v) h1 (by simp at hl ⊢; omega)]
    congr 3
    unfold splice
    simp only [List.length_cons] at hl ⊢
    have ho : o < cs.length := by omega
    rw [List.take_set, List.drop_set, if_pos (by omega), show o + (vs.length + 1) = o + 1 + vs.length by omega, List.take_add_one, List.getElem?_eq_getElem ho]
    rw [List.set_append_right _ _ (by simp; omega)]
    simp [List.length_take, Nat.min_eq_left (Nat.le_of_lt ho)]
theorem splice_zero (l : List Int) (m : Nat) (hl : l.length = 6) (hm : m ≤ 6) : splice (l.map (Value.int .i64)) m ((List.replicate (6 - m) (0 : Int)).map (Value.int .i64)) = (l.take m ++ List.replicate (6 - m) 0).map (Value.int .i64) := by
  unfold splice
  rw [List.length_map, List.length_replicate, List.drop_eq_nil_of_le (by rw [List.length_map]; omega), List.append_nil, List.map_append, List.map_take]
/-- The key's tail cleared. -/
theorem clear_key {ops : Array Oper} {rest : List Oper} {o : Oper} {a : Act} {w : World} {Q : Exit → Act → World → Prop} (hgd : o.guard = none) (p : Operand) (ho : o.op = .call { callee := .builtin .clear, args := #[p], argTypes := #[27] })
    (g m c d : Nat) (ad : Addr) (l : List Int) (hl : l.length = 6) (hm : m ≤ 6) (hd : d = 6 - m) (had : ¬ 6 - m = 0 → ad = ⟨g, m, none⟩) (hp : a.eval p = .slice (some ad) d c) (hg : KyB w g l)
    (h : ∀ w', Hid (KyB w' g (l.take m ++ List.replicate (6 - m) 0)) → w.grownBy w' (some g) → wpList Tryz.prog ops Q rest (a.put o.dst (.tuple #[])) w') : wpList Tryz.prog ops Q (o :: rest) a w := by
  subst hd
  refine wpList_plain hgd fun K hK => ?_
  by_cases h6 : 6 - m = 0
  · have hrun : (Builtin.clear_ #[27] o.type #[.slice (some ad) (6 - m) c]).run Tryz.prog w = .ok (.tuple #[]) w := by
      rw [h6]; simp [Builtin.clear_, run_underlying Tryz.underlying27]
    unfold Oper.wp
    simp [execOp, ho, resolve, invoke, builtin, hp, hrun, Result.andThen]
    refine hK _ _ (h w ?_ ⟨rfl, rfl, rfl, Nat.le_refl _, fun _ _ _ => rfl⟩)
    have : l.take m ++ List.replicate (6 - m) 0 = l := by rw [h6, List.replicate_zero, List.append_nil, List.take_of_length_le (by omega)]
    rw [this]; exact hg
  · obtain rfl := had h6
    have hgl := hg.lt
    have hcell : ∀ j, j < 6 - m → (w.cell? ⟨g, m + j, none⟩).isSome = true := by
      intro j hj
      unfold World.cell?
      simp only [show w.heap[g]? = _ from hg]
      unfold kyA
      simp [show m + j < l.length by omega]
    have hfr : ∀ j, j < 6 - m → w.frozen? ⟨g, m + j, none⟩ = false := by
      intro j _
      unfold World.frozen?
      simp only [show w.heap[g]? = _ from hg]
      rfl
    have hrun := Lib.run_clear_slice (P := Tryz.prog) w 27 3 o.type (.int .i64 0) Tryz.underlying27 (fun w => by kernel_rfl) rfl rfl g m (6 - m) c (by omega) hcell hfr
    unfold Oper.wp
    simp [execOp, ho, resolve, invoke, builtin, hp, hrun, Result.andThen]
    have hb : Below g w (w.setCells g m (List.replicate (6 - m) (.int .i64 0))) := below_setCellsG (Nat.le_refl _) _ _ _ (Below.refl _ _)
    refine hK _ _ (h _ ?_ ⟨hb.os, hb.tape, hb.output, hb.size, fun k hk hne => heap_setCells_else _ _ (fun e => hne (by rw [e])) _ _ _⟩)
    have := heap_setCells_row g 94 (List.replicate (6 - m) (Value.int .i64 0)) m w (l.map (Value.int .i64)) hg (by simp; omega)
    have e2 : List.replicate (6 - m) (Value.int .i64 0) = (List.replicate (6 - m) (0 : Int)).map (Value.int .i64) := by simp
    rw [e2, splice_zero l m hl hm] at this
    rw [e2]
    exact this
/-- The values that a matcher is. -/
def mtV (b : Nat) (u : Value) : Value := .agg #[.map (some b), u]
theorem mt_store {ops : Array Oper} {rest : List Oper} {o : Oper} {a : Act} {w : World} {Q : Exit → Act → World → Prop} (hgd : o.guard = none) (x y : Operand) (ho : o.op = .store 61 x y)
    (g : Nat) (p q p' q' : Value) (h1 : p.oneCell' = true) (h2 : q.oneCell' = true) (hx : a.eval x = .pointer (some ⟨g, 0, none⟩)) (hy : a.eval y = .agg #[p, q]) (hg : w.heap[g]? = some (.cells #[p', q'] 61 (0, 0)))
    (h : wpList Tryz.prog ops Q rest (a.put o.dst undef) (w.setRow g #[p, q])) : wpList Tryz.prog ops Q (o :: rest) a w :=
  wpList_store_row hgd _ x y ho g _ hx hy _ _ hg (by kernel_rfl) rfl (by rw [Array.all_eq_true_iff_forall_mem]; intro x hx; simp at hx; rcases hx with rfl | rfl <;> assumption) h
theorem results_mt2 {fn : Func} {p u : Tmp} (h : fn.results = #[.cell p 61, .tmp u]) (tmps : Array Value) (w : World) (g : Nat) (x y : Value)
    (hp : tmps.getD p undef = .pointer (some ⟨g, 0, none⟩)) (hg : w.heap[g]? = some (.cells #[x, y] 61 (0, 0))) :
    (results fn tmps).run Tryz.prog w = .ok (.tuple #[.agg #[x, y], tmps.getD u undef]) w := by
  have hr := run_loadVar_row (P := Tryz.prog) w g _ 61 _ _ _ hg Tryz.underlying61 rfl (by kernel_rfl)
  rw [results_cell_tmp h, hp]
  simp [asAddr, hr, Result.andThen]
set_option maxHeartbeats 2000000 in
theorem matcherOf_any (v : Value) (es : List Ent) (u : Value) (xs : List Int) (w : World) (h : EntsAt w v es) (hu : IntsAt w u xs) (hn : es.length ≤ 2097152) (hx : ∀ e ∈ es, entOk e) (hxn : xs.length ≤ 2097152) :
    Calls Tryz.prog 30 #[dV v, u] w fun r w' => (∃ mv, r = .returned (.tuple #[.agg #[mv, u], .bool (sgB es xs)]) ∧ mv.oneCell' = true ∧ (sgB es xs = true → ∃ b, mv = .map (some b) ∧ w.heap.size ≤ b ∧ MapB w' b es)) ∧ Below w.heap.size w w' := by
  have ca := fun w' hb => areS_any u xs w' (hu.below (w' := w') hb) hxn
  have CY := Lib.hid (fun w' hb hg => texts_any v es w' (h.below (w' := w') hb) hn hx hg)
  have CN := Lib.hid (fun w' hb hg => textsNo_any v es w' (h.below (w' := w') hb) hn hx hg)
  have HB : Hid (sgB es xs = (okD es && (decide ((xs.length : Int) ≤ 60) && xs.all okS))) := by
    show _ = _
    unfold sgB okS60
    congr 2
    rw [decide_eq_decide]; omega
  obtain ⟨a, cap, rfl, hcap, _⟩ := h.cells
  obtain ⟨ua, uc, rfl, huc, _⟩ := hu.cells
  obtain ⟨n, hnn⟩ : ∃ n, n = xs.length := ⟨_, rfl⟩
  obtain ⟨dn, hdn⟩ : ∃ n, n = es.length := ⟨_, rfl⟩
  rw [← hnn] at ca HB huc hxn ⊢
  unfold dV at CY CN ⊢
  rw [← hdn] at CY CN hcap ⊢
  have BX := Lib.hid (below_al2 w (.cells #[.slice a dn cap] 26) (.cells #[.map none, .slice none 0 0] 61))
  have P2 : Hid (((w.alloc (.cells #[.slice a dn cap] 26)).alloc (.cells #[.map none, .slice none 0 0] 61)).heap[w.heap.size + 1]? = some (.cells #[.map none, .slice none 0 0] 61 (0, 0))) := by
    have := heap_alloc_new (w.alloc (.cells #[.slice a dn cap] 26)) (.cells #[.map none, .slice none 0 0] 61)
    rwa [World.size_alloc] at this
  clear h hu hnn hdn
  obtain ⟨bD, hbD⟩ : ∃ b, b = okD es := ⟨_, rfl⟩
  obtain ⟨bA, hbA⟩ : ∃ b, b = xs.all okS := ⟨_, rfl⟩
  obtain ⟨B, hB⟩ : ∃ b, b = sgB es xs := ⟨_, rfl⟩
  rw [← hB] at HB ⊢
  rw [← hbD, ← hbA] at HB
  rw [← hbA] at ca
  rw [← hbD] at CY CN
  have CA := Lib.hid ca
  clear ca hbA hx hn hB hbD
  go_enter Tryz.func30, Tryz.ntmps30
  cases bD
  · obtain rfl : B = false := HB.out
    have C1 := Lib.hid (fun w' hb => CN.out w' hb (by first | rfl | trivial))
    clear CY CN HB
    go_wp2_with fail
    refine (C1.out _ BX.out).mono ?_
    rintro r w1 ⟨rfl, hb⟩
    have P3 := Lib.hid ((hb.block (w.heap.size + 1) (by simp)).trans P2.out)
    have B1 := Lib.hid (below_step BX.out hb)
    have h4 := Lib.hid (setRow_heap w1 (w.heap.size + 1) _ #[.map none, .slice ua n uc] _ _ P3.out)
    have hb4 := Lib.hid (below_setRow B1.out (Nat.le_succ _) #[.map none, .slice ua n uc])
    clear hb P2 C1 CA
    go_wp2_with (with_reducible (show wpList _ _ _ (_ :: _) _ _); refine mt_store rfl _ _ rfl (w.heap.size + 1) (.map none) (.slice ua n uc) _ _ rfl rfl rfl rfl P3.out ?_)
    (try simp only [Exit.inBlock, Exit.then])
    refine bodyPost_ret (results_mt2 rfl _ _ (w.heap.size + 1) _ _ rfl h4.out) rfl ?_
    first | exact ⟨⟨_, rfl, rfl, fun h => by cases h⟩, hb4.out⟩ | exact ⟨⟨_, rfl, rfl⟩, hb4.out⟩
  · have C1 := Lib.hid (fun w' hb => CY.out w' hb (by first | rfl | trivial))
    clear CY CN
    by_cases h60 : n ≤ 60
    · have h60' : (n : Int) ≤ 60 := by omega
      have hBA : Hid (B = bA) := by have := HB.out; rw [decide_eq_true h60', Bool.true_and, Bool.true_and] at this; exact this
      clear HB
      go_wp2_with fail
      refine (C1.out _ BX.out).mono ?_
      rintro r w1 ⟨⟨b, rfl, hb0, hm⟩, hb⟩
      have P3 := Lib.hid ((hb.block (w.heap.size + 1) (by simp)).trans P2.out)
      have B1 := Lib.hid (below_step BX.out hb)
      have HM := Lib.hid hm
      have Hb0 : Hid (w.heap.size + 2 ≤ b) := by show _ ≤ _; have : (w.heap.size + 2) = ((w.alloc (.cells #[.slice a dn cap] 26)).alloc (.cells #[.map none, .slice none 0 0] 61)).heap.size := by simp
                                                 omega
      have h4 := Lib.hid (setRow_heap w1 (w.heap.size + 1) _ #[.map (some b), .slice ua n uc] _ _ P3.out)
      have hb4 := Lib.hid (below_setRow B1.out (Nat.le_succ _) #[.map (some b), .slice ua n uc])
      have HM4 : Hid (MapB (w1.setRow (w.heap.size + 1) #[.map (some b), .slice ua n uc]) b es) :=
        World.ownsMap.kept HM.out (grown_rowG w1 _ _) (by intro e; injection e with e; have := Hb0.out; omega)
      clear hb P2 C1 hm hb0
      go_wp2_with fail
      refine (CA.out _ B1.out).mono ?_
      rintro r w2 ⟨rfl, rfl⟩
      go_wp2_with (with_reducible (show wpList _ _ _ (_ :: _) _ _); refine mt_store rfl _ _ rfl (w.heap.size + 1) (.map (some b)) (.slice ua n uc) _ _ rfl rfl rfl rfl P3.out ?_)
      (try simp only [Exit.inBlock, Exit.then])
      refine bodyPost_ret (results_mt2 rfl _ _ (w.heap.size + 1) _ _ rfl h4.out) rfl ?_
      exact ⟨⟨_, by rw [hBA.out]; rfl, rfl, fun _ => ⟨b, rfl, by have := Hb0.out; omega, HM4.out⟩⟩, hb4.out⟩
    · have h60' : ¬ (n : Int) ≤ 60 := by omega
      obtain rfl : B = false := by have := HB.out; rw [decide_eq_false h60', Bool.false_and, Bool.true_and] at this; exact this
      clear HB
      go_wp2_with fail
      refine (C1.out _ BX.out).mono ?_
      rintro r w1 ⟨⟨b, rfl, hb0, hm⟩, hb⟩
      have P3 := Lib.hid ((hb.block (w.heap.size + 1) (by simp)).trans P2.out)
      have B1 := Lib.hid (below_step BX.out hb)
      have h4 := Lib.hid (setRow_heap w1 (w.heap.size + 1) _ #[.map (some b), .slice ua n uc] _ _ P3.out)
      have hb4 := Lib.hid (below_setRow B1.out (Nat.le_succ _) #[.map (some b), .slice ua n uc])
      clear hb P2 C1 hm hb0
      go_wp2_with (with_reducible (show wpList _ _ _ (_ :: _) _ _); refine mt_store rfl _ _ rfl (w.heap.size + 1) (.map (some b)) (.slice ua n uc) _ _ rfl rfl rfl rfl P3.out ?_)
      (try simp only [Exit.inBlock, Exit.then])
      refine bodyPost_ret (results_mt2 rfl _ _ (w.heap.size + 1) _ _ rfl h4.out) rfl ?_
      first | exact ⟨⟨_, rfl, rfl, fun h => by cases h⟩, hb4.out⟩ | exact ⟨⟨_, rfl, rfl⟩, hb4.out⟩
theorem keyL_take {xs : List Int} (hok : xs.all okS = true) {m : Nat} (h1 : 1 ≤ m) (h6 : m ≤ 6) (hm : m ≤ xs.length) : keyL (xs.take m) = Pl.pad 6 (xs.take m) := by
  refine keyL_yes ?_
  unfold okO
  have hl : (xs.take m).length = m := by rw [List.length_take]; omega
  rw [hl, decide_eq_true h1, decide_eq_true h6]
  simp only [Bool.true_and]
  rw [List.all_eq_true]
  intro x hx
  exact List.all_eq_true.1 hok x (List.mem_of_mem_take hx)
theorem pad_take (ys : List Int) {m m' : Nat} (h : m ≤ m') (_ : m' ≤ 6) (hl : m' ≤ ys.length) : (Pl.pad 6 (ys.take m')).take m ++ List.replicate (6 - m) 0 = Pl.pad 6 (ys.take m) := by
  unfold Pl.pad
  rw [List.take_append_of_le_length (by rw [List.length_take]; omega), List.take_take, Nat.min_eq_left h, List.length_take, Nat.min_eq_left (by omega : m ≤ ys.length)]
/-- The pieces at f; none outside of the strokes. -/
def allX (es : List Ent) (xs : List Int) (f : Int) : List Pc := if 0 ≤ f ∧ f < (xs.length : Int) then Pl.allPs es xs f.toNat else []
set_option maxHeartbeats 4000000 in
theorem piecesAt_any (b : Nat) (es : List Ent) (u : Value) (xs : List Int) (f : Int) (w : World) (hm : MapB w b es) (hok : okD es = true) (hu : IntsAt w u xs) (hs : xs.all okS = true) (hxn : xs.length ≤ 60) :
    Calls Tryz.prog 31 #[mtV b u, .int .i64 f] w fun r w' => (∃ y, r = .returned y ∧ OwnP w' w.heap.size y (allX es xs f)) ∧ Below w.heap.size w w' := by
  unfold mtV
  by_cases hf0 : f < 0
  · rw [show allX es xs f = [] by unfold allX; rw [if_neg (by omega)]]
    obtain ⟨ua, uc, rfl, huc, _⟩ := hu.cells
    clear hm hu hs
    go_enter Tryz.func31, Tryz.ntmps31
    go_wp2
    go_ret
    exact ⟨⟨_, rfl, ownP_nil _ _⟩, below_al _ _⟩
  obtain ⟨i, rfl⟩ : ∃ i : Nat, f = (i : Int) := ⟨f.toNat, by omega⟩
  by_cases hil : xs.length ≤ i
  · rw [show allX es xs i = [] by unfold allX; rw [if_neg (by omega)]]
    obtain ⟨ua, uc, rfl, huc, _⟩ := hu.cells
    obtain ⟨n, hnn⟩ : ∃ n, n = xs.length := ⟨_, rfl⟩
    rw [← hnn] at huc hil hxn ⊢
    have hil' : (n : Int) ≤ (i : Int) := by omega
    clear hm hu hs hnn
    go_enter Tryz.func31, Tryz.ntmps31
    go_wp2
    go_ret
    exact ⟨⟨_, rfl, ownP_nil _ _⟩, below_al _ _⟩
  have hin : i < xs.length := by omega
  rw [show allX es xs i = Pl.fdPs es xs i (Pl.capN xs i) ++ [Pl.unP i] by unfold allX; rw [if_pos (by omega), Int.toNat_natCast]; rfl]
  obtain ⟨bk, o, uc, rfl, huc, hbk, hC⟩ := ints_block hu (by omega)
  obtain ⟨ys, hys⟩ : ∃ ys, ys = xs.drop i := ⟨_, rfl⟩
  obtain ⟨c0, hc0⟩ : ∃ c, c = Pl.capN xs i := ⟨_, rfl⟩
  have hysl : ys.length = xs.length - i := by rw [hys, List.length_drop]
  have hc6 : c0 ≤ 6 ∧ c0 ≤ ys.length ∧ 1 ≤ c0 ∧ c0 = Nat.min (xs.length - i) 6 := by
    refine ⟨?_, ?_, ?_, ?_⟩
    · rw [hc0]; unfold Pl.capN; omega
    · rw [hysl, hc0]; unfold Pl.capN; omega
    · rw [hc0]; unfold Pl.capN; omega
    · rw [hc0]; unfold Pl.capN; exact Nat.min_comm _ _
  obtain ⟨hc6, hcy, hc1, hcm⟩ := hc6
  have hyok : ys.all okS = true := by
    rw [List.all_eq_true]; intro x hx; rw [hys] at hx; exact List.all_eq_true.1 hs x (List.mem_of_mem_drop hx)
  have HLk : Hid (∀ m, 1 ≤ m → m ≤ c0 → keyOf Tryz.prog 94 (.agg (kyA (Pl.pad 6 (ys.take m)))) = some (KL (Pl.pad 6 (ys.take m))) ∧ Maps.has (mapD es) (KL (Pl.pad 6 (ys.take m))) = (Pl.lkP es xs i m).isSome ∧ ∀ zd, (mapD es).atKey (KL (Pl.pad 6 (ys.take m))) zd = (match Pl.lkP es xs i m with | some t => litT t | none => zd)) := by
    intro m h1 h2
    have hk := keyL_take hyok h1 (by omega) (by omega : m ≤ ys.length)
    obtain ⟨hl1, hl2⟩ := mapD_look (keyL (ys.take m)) (kyOk_key _) es
    have hk2 := kl_at (kyOk_key (ys.take m))
    rw [lastT_key hok] at hl1 hl2
    rw [hk] at hl1 hl2 hk2
    have e : Pl.lkP es xs i m = Pl.look (ys.take m) es := by unfold Pl.lkP; rw [hys]
    rw [e]
    exact ⟨hk2, hl1, hl2⟩
  have HF : Hid (∀ m, Pl.fdPs es xs i (m + 1) = match Pl.lkP es xs i (m + 1) with | some t => ((i : Int), ((m + 1 : Nat) : Int), t) :: Pl.fdPs es xs i m | none => Pl.fdPs es xs i m) := fun m => rfl
  have HFl : Hid (∀ m, (Pl.fdPs es xs i m).length ≤ m) := Pl.fdPs_len es xs i
  have HPT : Hid (∀ m m', m ≤ m' → m' ≤ c0 → (Pl.pad 6 (ys.take m')).take m ++ List.replicate (6 - m) 0 = Pl.pad 6 (ys.take m)) := fun m m' h h' => pad_take ys h (by omega) (by omega)
  have HPL : Hid (∀ m, m ≤ c0 → (Pl.pad 6 (ys.take m)).length = 6) := fun m h => Pl.pad_len (by rw [List.length_take]; omega)
  have hcs : ((ys.take 6).map (Value.int .i64)).length = Nat.min (xs.length - i) 6 := by rw [List.length_map, List.length_take, hysl]; exact Nat.min_comm _ _
  have HSP : Hid ((splice (z6.map (Value.int .i64)) 0 ((ys.take 6).map (Value.int .i64))).toArray = kyA (Pl.pad 6 (ys.take c0))) := by
    show _ = _
    rw [ky_splice]
    have : ys.take 6 = ys.take c0 := by
      rcases Nat.lt_or_ge ys.length 6 with h | h
      · rw [List.take_of_length_le (by omega), List.take_of_length_le (by rw [hcm, hysl]; show _ ≤ min _ _; omega)]
      · rw [show c0 = 6 by rw [hcm]; show min _ _ = 6; omega]
    rw [this]; rfl
  have HSrc : Hid (∀ w', Below w.heap.size w w' → ∀ j v, ((ys.take 6).map (Value.int .i64))[j]? = some v → w'.cell? ((⟨bk, o + i, none⟩ : Addr).add j) = some v) := by
    intro w' hb j v hj
    rw [List.getElem?_map] at hj
    obtain ⟨x, hx, rfl⟩ := Option.map_eq_some_iff.1 hj
    have hj6 : j < 6 := by
      rcases Nat.lt_or_ge j 6 with h' | h'
      · exact h'
      · rw [List.getElem?_eq_none (by rw [List.length_take]; omega)] at hx; cases hx
    rw [List.getElem?_take_of_lt hj6, hys, List.getElem?_drop] at hx
    rw [show (⟨bk, o + i, none⟩ : Addr).add j = ⟨bk, o + i + j, none⟩ from Go.WideShapes.add_plain .., Nat.add_assoc]
    exact (hb.cell (p := ⟨bk, o + (i + j), none⟩) hbk).trans (hC _ _ hx)
  have HOne : Hid (∀ v ∈ (ys.take 6).map (Value.int .i64), v.oneCell' = true) := by
    intro v hv
    obtain ⟨x, _, rfl⟩ := List.mem_map.1 hv
    rfl
  have HFit : Hid (0 + ((ys.take 6).map (Value.int .i64)).length ≤ (z6.map (Value.int .i64)).length) := by show _ ≤ _; rw [List.length_map, List.length_map, z6_len, List.length_take]; omega
  obtain ⟨F, hF⟩ : ∃ F : Nat → List Pc, F = fun m => Pl.fdPs es xs i m := ⟨_, rfl⟩
  obtain ⟨L, hL⟩ : ∃ L : Nat → Option ByteArray, L = fun m => Pl.lkP es xs i m := ⟨_, rfl⟩
  obtain ⟨Y, hY⟩ : ∃ Y : Nat → List Int, Y = fun m => Pl.pad 6 (ys.take m) := ⟨_, rfl⟩
  obtain ⟨cs, hcsd⟩ : ∃ cs, cs = (ys.take 6).map (Value.int .i64) := ⟨_, rfl⟩
  have HLk' : Hid (∀ m, 1 ≤ m → m ≤ c0 → keyOf Tryz.prog 94 (.agg (kyA (Y m))) = some (KL (Y m)) ∧ Maps.has (mapD es) (KL (Y m)) = (L m).isSome ∧ ∀ zd, (mapD es).atKey (KL (Y m)) zd = (match L m with | some t => litT t | none => zd)) := by rw [hY, hL]; exact HLk.out
  have HF' : Hid (∀ m, F (m + 1) = match L (m + 1) with | some t => ((i : Int), ((m + 1 : Nat) : Int), t) :: F m | none => F m) := by rw [hF, hL]; exact HF.out
  have HFl' : Hid (∀ m, (F m).length ≤ m) := by rw [hF]; exact HFl.out
  have HPT' : Hid (∀ m m', m ≤ m' → m' ≤ c0 → (Y m').take m ++ List.replicate (6 - m) 0 = Y m) := by rw [hY]; exact HPT.out
  have HPL' : Hid (∀ m, m ≤ c0 → (Y m).length = 6) := by rw [hY]; exact HPL.out
  have HF0 : Hid (F 0 = []) := by rw [hF]; rfl
  have HFc : Hid (Pl.fdPs es xs i c0 = F c0) := by rw [hF]; rfl
  rw [← hcsd] at hcs HSP HSrc HOne HFit
  rw [show kyA (Pl.pad 6 (ys.take c0)) = kyA (Y c0) by rw [hY]] at HSP
  rw [← hc0, HFc.out]
  obtain ⟨n, hnn⟩ : ∃ n, n = xs.length := ⟨_, rfl⟩
  rw [← hnn] at huc hin hcs hcm hil ⊢
  have HM := Lib.hid hm
  have hblt := hm.lt
  have HCm := Lib.hid hcm
  have HCs := Lib.hid hcs
  have HBk := Lib.hid hbk
  have hz := ky_nil
  clear hF hL hY hcsd HLk HF HFl HPT HPL hm hu hs hxn hC hys hysl hcy hyok hok hnn hc0 HFc hcm hcs hf0
  have K0 : Hid (KyB ((w.alloc (.cells #[.map (some b), .slice (some ⟨bk, o, none⟩) n uc] 61)).alloc (.cells (kyA z6) 94)) (w.heap.size + 1) z6) := by
    have := KyB.new (w.alloc (.cells #[.map (some b), .slice (some ⟨bk, o, none⟩) n uc] 61)) z6
    rwa [World.size_alloc] at this
  have M0 : Hid (((w.alloc (.cells #[.map (some b), .slice (some ⟨bk, o, none⟩) n uc] 61)).alloc (.cells (kyA z6) 94)).heap[w.heap.size]? = some (.cells #[.map (some b), .slice (some ⟨bk, o, none⟩) n uc] 61 (0, 0))) := by
    show _ = _
    rw [heap_alloc_old _ _ (by simp)]
    exact heap_alloc_new w _
  have B0 := Lib.hid (below_al2 w (.cells #[.map (some b), .slice (some ⟨bk, o, none⟩) n uc] 61) (.cells (kyA z6) 94))
  go_enter Tryz.func31, Tryz.ntmps31
  go_wp2_with fail
  have W0 : ∃ W, W = (w.alloc (.cells #[.map (some b), .slice (some ⟨bk, o, none⟩) n uc] 61)).alloc (.cells (kyA z6) 94) := ⟨_, rfl⟩
  obtain ⟨W, hW⟩ := W0
  rw [← hW] at K0 M0 B0 ⊢
  have hWs : w.heap.size + 2 ≤ W.heap.size := by rw [hW]; simp
  clear hW
  have q1 : W.cell? ⟨w.heap.size, 1, none⟩ = some (.slice (some ⟨bk, o, none⟩) n uc) := by
    unfold World.cell?; simp only [show W.heap[w.heap.size]? = _ from M0.out]; rfl
  have k1 := cell_regrown q1
  refine Mx.wp_region_mixed (Mx.ofL [(0, 0), (1, 0), (2, 1), (3, 0), (4, 0), (5, 3), (6, 0)] .done) (by kernel_rfl) (by kernel_rfl) ?_
  repeat ((first | refine Mx.mix0 rfl ?_ | refine Mx.mix1 rfl ?_); go_big_quiet_step (fail); refine wpQuiet_nil ?_)
  refine Mx.mix3 rfl ?_
  have hd : Below W.heap.size W W.drew := below_drewN (Below.refl _ _) 1
  have K1 : Hid (W.drew.heap[w.heap.size + 1]? = some (.cells (z6.map (Value.int .i64)).toArray 94 (0, 0))) := K0.out.below hd (by omega)
  have M1 : Hid (W.drew.heap[w.heap.size]? = some (.cells #[.map (some b), .slice (some ⟨bk, o, none⟩) n uc] 61 (0, 0))) := (hd.block _ (by omega)).trans M0.out
  have B1 : Hid (Below w.heap.size w W.drew) := B0.out.trans (hd.mono (by omega))
  have HS1 := Lib.hid (HSrc.out _ B1.out)
  clear K0 M0 B0 hd k1 q1 HSrc
  go_wp2_with (with_reducible (show wpList _ _ _ (_ :: _) _ _); refine wpList_copy_splice rfl (.tmp 19) (.tmp 23) 27 27 rfl 3 Tryz.underlying27 (by kernel_rfl) _ _ _ _ _ _ rfl rfl (w.heap.size + 1) 0 (z6.map (Value.int .i64)) 94 K1.out cs HCs.out (fun h0 => ⟨rfl, _, rfl, HS1.out⟩) HFit.out HOne.out (w.heap.size + 1) W.drew (Below.refl _ _) (Nat.le_refl _) ?_)
  intro w2 hg2 hb2
  have L2 : Hid (KyB w2 (w.heap.size + 1) (Y c0)) := by have h2 := hg2.out; rw [HSP.out] at h2; exact h2
  have M2 : Hid (w2.heap[w.heap.size]? = some (.cells #[.map (some b), .slice (some ⟨bk, o, none⟩) n uc] 61 (0, 0))) := (hb2.block _ (by omega)).trans M1.out
  have HB2 : Hid (Below w.heap.size w w2) := B1.out.trans (hb2.mono (by omega))
  clear hg2 hb2 K1 M1 B1 HS1 HSP HFit HOne
  refine Mx.mid_normal (fun q => by cases q) ?_
  repeat ((first | refine Mx.mix0 rfl ?_ | refine Mx.mix1 rfl ?_); go_big_quiet_step (fail); refine wpQuiet_nil ?_)
  refine Mx.mix_nil ?_
  have hcc : cs.length = c0 := by rw [HCs.out, HCm.out]
  rw [hcc]
  clear hcc HCs HCm
  go_wp2_with fail
  go_loopw [5, 7] (fun y c wr => ∃ (m m' : Nat) (ls : List Pc), c = .int .i64 m ∧ m ≤ m' ∧ m' ≤ c0 ∧ Hid (ls ++ F m = F c0) ∧ Hid (OwnP wr (w.heap.size + 2) y ls) ∧ Hid (KyB wr (w.heap.size + 1) (Y m')) ∧ Hid (wr.heap[w.heap.size]? = some (.cells #[.map (some b), .slice (some ⟨bk, o, none⟩) n uc] 61 (0, 0))) ∧ Hid (Below w.heap.size w wr)) (fun _ c _ => (intOf c).toNat)
  case atStart => exact ⟨c0, c0, [], rfl, Nat.le_refl _, Nat.le_refl _, Lib.hid (List.nil_append _), Lib.hid (ownP_nil _ _), L2, M2, HB2⟩
  case round =>
    obtain ⟨m, m', ls, rfl, hmm, hmc, HL, HO, HK, HMt, HBr⟩ := hrel
    have hll : ls.length ≤ 6 := by
      have h1 := congrArg List.length HL.out
      have h2 := HFl'.out c0
      rw [List.length_append] at h1
      omega
    cases m with
    | zero =>
      have HE : Hid (ls = F c0) := by have h1 := HL.out; rw [HF0.out, List.append_nil] at h1; exact h1
      have hs1 : w.heap.size + 2 ≤ wr.heap.size := by have := HK.out.lt; omega
      clear HL HF' HFl' HLk' HPT' HPL'
      go_wp2_with (at_builtin; refine push_pc rfl _ _ rfl (w.heap.size + 2) _ ls rfl HO.out (Pl.unP i) rfl hs1 (by omega) ?_)
      intro v' w3 hown hg _
      have O3 := Lib.hid (ownsRow_mono hown (Nat.le_add_right w.heap.size 2))
      have B3 := Lib.hid (HBr.out.grown hg (by omega) (fun j hj => by have := row_ge HO.out hj; omega))
      clear hown hg HO HK HMt HBr
      go_wp2
      go_ret
      exact ⟨⟨_, rfl, by rw [← HE.out]; exact O3.out⟩, B3.out⟩
    | succ m =>
      have HPTm := HPT'.out (m + 1) m' hmm hmc
      have hY6 := HPL'.out m' hmc
      have c0' : wr.cell? ⟨w.heap.size, 0, none⟩ = some (.map (some b)) := by
        unfold World.cell?; simp only [show wr.heap[w.heap.size]? = _ from HMt.out]; rfl
      clear c0'
      obtain ⟨dd, hdd⟩ : ∃ dd, dd = 6 - (m + 1) := ⟨_, rfl⟩
      obtain ⟨ad, hadd⟩ : ∃ ad : Addr, ad = if 6 = m + 1 then ⟨w.heap.size + 1, 0, none⟩ else ⟨w.heap.size + 1, m + 1, none⟩ := ⟨_, rfl⟩
      have hsl : (Instr.sliceAt 94 (.pointer (some ⟨w.heap.size + 1, 0, none⟩)) (some (.int .i64 ((m : Int) + 1))) none none).run Tryz.prog wr = .ok (.slice (some ad) dd dd) wr := by
        rw [hdd]
        have hal : Tryz.prog.arrayLen 94 = 6 := by kernel_rfl
        rw [run_sliceAt_array_l wr 94 ⟨w.heap.size + 1, 0, none⟩ (by kernel_rfl) .i64 ((m : Int) + 1) (by omega) (by rw [hal]; omega), hal]
        have hsz : (sizeOf (Tryz.prog.elem 94)).run Tryz.prog wr = .ok 1 wr := by kernel_rfl
        rw [hsz, hadd]
        show Result.ok (slicedAt _ ((m : Int) + 1).toNat 6 6 1) wr = _
        rw [show ((m : Int) + 1).toNat = m + 1 by omega]
        unfold slicedAt
        by_cases h6 : 6 = m + 1
        · rw [if_pos h6, if_pos h6]
        · rw [if_neg h6, if_neg h6, Nat.mul_one, show (⟨w.heap.size + 1, 0, none⟩ : Addr).add (m + 1) = ⟨w.heap.size + 1, 0 + (m + 1), none⟩ from Go.WideShapes.add_plain .., Nat.zero_add]
      have hadne : ¬ 6 - (m + 1) = 0 → ad = ⟨w.heap.size + 1, m + 1, none⟩ := fun h => by rw [hadd, if_neg (by omega)]
      have HDd := Lib.hid hdd
      clear hadd hdd
      go_wp2_with (with_reducible (show wpList _ _ _ (_ :: _) _ _); refine clear_key rfl _ rfl (w.heap.size + 1) (m + 1) _ dd ad _ hY6 (by omega) HDd.out hadne rfl HK.out ?_)
      intro w3 hK3 hg3
      have K3 : Hid (KyB w3 (w.heap.size + 1) (Y (m + 1))) := by have h2 := hK3.out; rw [show 5 - m = 6 - (m + 1) by omega, HPTm] at h2; exact h2
      have M3 : Hid (w3.heap[w.heap.size]? = some (.cells #[.map (some b), .slice (some ⟨bk, o, none⟩) n uc] 61 (0, 0))) := (hg3.block _ (by have := HK.out.lt; omega) (by intro e; injection e with e; omega)).trans HMt.out
      have O3 : Hid (OwnP w3 (w.heap.size + 2) u5 ls) := Lib.hid (HO.out.kept hg3 (by
        cases hv : u5.ownBlock with
        | none => simp
        | some j => right; intro e; injection e with e; have := row_ge HO.out hv; omega))
      have B3 : Hid (Below w.heap.size w w3) := Lib.hid (HBr.out.grown hg3 (by have := HK.out.lt; omega) (fun j hj => by injection hj with hj; omega))
      have HM3 : Hid (w3.ownsMap Tryz.prog 94 (plainElem Tryz.prog 9) b es.length (mapD es)) := MapB.below HM.out B3.out
      have c3 : w3.cell? ⟨w.heap.size, 0, none⟩ = some (.map (some b)) := by
        unfold World.cell?; simp only [show w3.heap[w.heap.size]? = _ from M3.out]; rfl
      obtain ⟨hky, hh1, hh2⟩ := HLk'.out (m + 1) (by omega) (by omega)
      have hY62 := HPL'.out (m + 1) (by omega)
      have hFm := HF'.out m
      obtain ⟨x, hx⟩ : ∃ x, x = L (m + 1) := ⟨_, rfl⟩
      rw [← hx] at hh1 hh2 hFm
      have HFm := Lib.hid hFm
      have HH1 := Lib.hid hh1
      have HH2 := Lib.hid hh2
      have HKy := Lib.hid hky
      obtain ⟨K, hK⟩ : ∃ K, K = Y (m + 1) := ⟨_, rfl⟩
      have K3' : Hid (KyB w3 (w.heap.size + 1) K) := by rw [hK]; exact K3.out
      rw [← hK] at HH1 HH2 HKy hY62
      have HKY : Hid (Y (m + 1) = K) := hK.symm
      clear hx hh1 hh2 hky hFm hK HPTm hY6 hK3 hg3 HO HK HMt HBr
      go_wp2_with (first | (at_lookup; refine wpList_lookup_own_ok _ rfl _ _ 59 rfl 94 9 lawK Tryz.underlying59 _ (zeroS _) (litT ByteArray.empty) [] (plainElem_string Tryz.underlying9 (by decide)) b es.length (mapD es) rfl HM3.out _ (KL K) rfl HKy.out ?_) | (with_reducible (show wpList _ _ _ (_ :: _) _ _); refine ky_load (w.heap.size + 1) K hY62 rfl rfl rfl K3'.out ?_))
      intro v ps hv
      have hv2 : v = .string (x.getD ByteArray.empty) := by
        rw [HH2.out] at hv
        obtain ⟨s, rfl, h1, _⟩ := plainElem_string_inv Tryz.underlying9 hv
        have h2 := congrArg Prod.fst h1
        cases x with
        | none => simp only [litT] at h2; have h2 := Lit.string.inj (DataW.lit.inj h2); exact congrArg Value.string (ByteArray.ext (Array.toList_inj.1 h2)).symm
        | some t => simp only [litT] at h2; have h2 := Lit.string.inj (DataW.lit.inj h2); exact congrArg Value.string (ByteArray.ext (Array.toList_inj.1 h2)).symm
      subst hv2
      rw [HH1.out]
      clear hv HM3 HH1 HH2 HKy c3
      cases x with
      | none =>
        have HL2 : Hid (ls ++ F m = F c0) := by have h1 := HL.out; rw [HFm.out] at h1; exact h1
        clear HL HFm
        go_wp2
        go_roundw
        case rel => exact ⟨m, m + 1, ls, by go_num, by omega, by omega, HL2, O3, K3, M3, B3⟩
        case measure => simp [intOf]
      | some t =>
        have HL2 : Hid ((ls ++ [((i : Int), ((m + 1 : Nat) : Int), t)]) ++ F m = F c0) := by have h1 := HL.out; rw [HFm.out] at h1; rw [List.append_assoc]; exact h1
        have hs1 : w.heap.size + 2 ≤ w3.heap.size := by have := K3.out.lt; omega
        clear HL HFm
        go_wp2_with (at_builtin; refine push_pc rfl _ _ rfl (w.heap.size + 2) _ ls rfl O3.out ((i : Int), ((m + 1 : Nat) : Int), t) rfl hs1 (by omega) ?_)
        intro v' w4 hown hg _
        have O4 := Lib.hid hown
        have K4 : Hid (KyB w4 (w.heap.size + 1) (Y (m + 1))) := (hg.block _ K3.out.lt (fun e => by have := row_ge O3.out e.symm; omega)).trans K3.out
        have M4 : Hid (w4.heap[w.heap.size]? = some (.cells #[.map (some b), .slice (some ⟨bk, o, none⟩) n uc] 61 (0, 0))) := (hg.block _ (by omega) (fun e => by have := row_ge O3.out e.symm; omega)).trans M3.out
        have B4 := Lib.hid (B3.out.grown hg (by omega) (fun j hj => by have := row_ge O3.out hj; omega))
        clear hown hg K3 M3 B3 O3 K3'
        go_wp2
        go_roundw
        case rel => exact ⟨m, m + 1, _, by go_num, by omega, by omega, HL2, O4, K4, M4, B4⟩
        case measure => simp [intOf]
end Go.Proofs.YthigdblloddepaaGreat

namespace Go.Proofs.YthigdblloddepaaGreat
set_option maxRecDepth 100000
open Go.RowKit

/-- The first piece of an own row. -/
theorem ownP_first {w : World} {base : Nat} {v : Value} {ls : List Pc} {e : Pc} (h : OwnP w base v ls) (he : ls[0]? = some e) :
    ∃ g cap n, v = .slice (some ⟨g, 0, none⟩) (n + 1) cap ∧ n + 1 ≤ cap ∧ g < w.heap.size ∧ w.cell? ⟨g, 0, none⟩ = some (.int .i64 e.1) ∧ w.cell? ⟨g, 1, none⟩ = some (.int .i64 e.2.1) ∧ w.cell? ⟨g, 2, none⟩ = some (.string e.2.2) := by
  have hl : 0 < ls.length := (List.getElem?_eq_some_iff.1 he).1
  rcases ownP_own h with ⟨h0, _⟩ | ⟨g, cap, rfl, hc, hg, h0, hr⟩
  · omega
  · have := hr.2.1 0 hl
    have he2 : ls.getD 0 pc0 = e := by simp [List.getD, he]
    dsimp only at this
    rw [he2] at this
    obtain ⟨n, hn⟩ : ∃ n, ls.length = n + 1 := ⟨ls.length - 1, by omega⟩
    exact ⟨g, cap, n, by rw [hn], by omega, hr.1, this.1, this.2.1, this.2.2⟩
/-- A matcher in a box. -/
def MtB (w : World) (g b : Nat) (u : Value) : Prop := w.heap[g]? = some (.cells #[.map (some b), u] 61 (0, 0))
theorem MtB.lt {w : World} {g b : Nat} {u : Value} (h : MtB w g b u) : g < w.heap.size := (Array.getElem?_eq_some_iff.1 h).1
theorem MtB.below {w w' : World} {g b : Nat} {u : Value} {N : Nat} (h : MtB w g b u) (hb : Below N w w') (hN : g < N) : MtB w' g b u := (hb.block g hN).trans h
theorem MtB.new (w : World) (b : Nat) (u : Value) : MtB (w.alloc (.cells #[.map (some b), u] 61)) w.heap.size b u := heap_alloc_new w _
theorem MtB.cells {w : World} {g b : Nat} {u : Value} (h : MtB w g b u) : w.cell? ⟨g, 0, none⟩ = some (.map (some b)) ∧ w.cell? ⟨g, 1, none⟩ = some u := by
  unfold World.cell?; simp only [show w.heap[g]? = _ from h]; exact ⟨rfl, rfl⟩
theorem mt_box (w1 : World) (mv u : Value) : Below w1.heap.size w1 ((w1.alloc (.cells #[.map none, .slice none 0 0] 61)).setRow w1.heap.size #[mv, u]) ∧
    ((w1.alloc (.cells #[.map none, .slice none 0 0] 61)).setRow w1.heap.size #[mv, u]).heap[w1.heap.size]? = some (.cells #[mv, u] 61 (0, 0)) ∧
    (w1.alloc (.cells #[.map none, .slice none 0 0] 61)).heap[w1.heap.size]? = some (.cells #[.map none, .slice none 0 0] 61 (0, 0)) :=
  ⟨below_setRow (below_al w1 _) (Nat.le_refl _) _, setRow_heap _ _ _ #[mv, u] _ _ (heap_alloc_new w1 _), heap_alloc_new w1 _⟩
theorem allX_in {es : List Ent} {xs : List Int} {i : Nat} (h : i < xs.length) : allX es xs (i : Int) = Pl.allPs es xs i := by unfold allX; rw [if_pos (by omega), Int.toNat_natCast]
theorem allX_out {es : List Ent} {xs : List Int} {f : Int} (h : ¬ (0 ≤ f ∧ f < (xs.length : Int))) : allX es xs f = [] := by unfold allX; rw [if_neg h]
theorem sgB_parts {es : List Ent} {xs : List Int} (h : sgB es xs = true) : okD es = true ∧ xs.length ≤ 60 ∧ xs.all okS = true := by
  unfold sgB at h
  rw [Bool.and_eq_true] at h
  exact ⟨h.1, okS60_yes h.2⟩
set_option maxHeartbeats 2000000 in
theorem MatchAt_any (v : Value) (es : List Ent) (u : Value) (xs : List Int) (f : Int) (w : World) (h : EntsAt w v es) (hu : IntsAt w u xs) (hn : es.length ≤ 2097152) (hx : ∀ e ∈ es, entOk e) (hxn : xs.length ≤ 2097152) :
    Calls Tryz.prog 12 #[dV v, u, .int .i64 f] w fun r w' => r = mtE es xs f ∧ Below w.heap.size w w' := by
  have cm := fun w' hb => matcherOf_any v es u xs w' (h.below (w' := w') hb) (hu.below hb) hn hx hxn
  have CP := Lib.hid (fun b w' hb hm hok hs h60 => piecesAt_any b es u xs f w' hm hok (hu.below (w := w) hb) hs h60)
  have HNo := Lib.hid (fun h => mtE_no (es := es) (xs := xs) (f := f) h)
  have HYes := Lib.hid (fun h => mtE_yes (es := es) (xs := xs) (f := f) h)
  have HB : Hid (mtB es xs f = (sgB es xs && (decide (0 ≤ f) && decide (f ≤ (xs.length : Int) - 1)))) := rfl
  have HP := Lib.hid (fun (h : sgB es xs = true) => sgB_parts h)
  have P1 : ∀ v : Value, PcB ((w.alloc (.cells #[v] 26)).alloc (.cells #[.int .i64 0, .int .i64 0, .string ByteArray.empty] 37)) (w.heap.size + 1) pc0 := fun v => by
    have := PcB.new (w.alloc (.cells #[v] 26)) pc0
    rwa [World.size_alloc] at this
  obtain ⟨a, cap, rfl, hcap, _⟩ := h.cells
  obtain ⟨ua, uc, rfl, huc, _⟩ := hu.cells
  obtain ⟨n, hnn⟩ : ∃ n, n = xs.length := ⟨_, rfl⟩
  obtain ⟨dn, hdn⟩ : ∃ n, n = es.length := ⟨_, rfl⟩
  have HIn := Lib.hid (fun (i : Nat) (hi : i < xs.length) => allX_in (es := es) hi)
  have HOut := Lib.hid (fun (hi : ¬ (0 ≤ f ∧ f < (xs.length : Int))) => allX_out (es := es) hi)
  have HHd := Lib.hid (fun (i : Nat) => Pl.allPs_head es xs i)
  rw [← hnn] at cm CP HB huc HP HIn HOut ⊢
  unfold dV at cm ⊢
  rw [← hdn] at cm hcap ⊢
  have P2 := Lib.hid (P1 (.slice a dn cap))
  have BX := Lib.hid (below_al2 w (.cells #[.slice a dn cap] 26) (.cells #[.int .i64 0, .int .i64 0, .string ByteArray.empty] 37))
  clear P1 h hu hnn hdn hx hn
  obtain ⟨bS, hbS⟩ : ∃ b, b = sgB es xs := ⟨_, rfl⟩
  rw [← hbS] at HB HP
  simp only [← hbS] at cm
  have CM := Lib.hid cm
  clear cm hbS
  go_enter Tryz.func12, Tryz.ntmps12
  cases bS
  · have HF := Lib.hid (HNo.out (by rw [HB.out]; rfl))
    clear HYes HNo HB HP CP HIn HOut HHd
    go_wp2_with fail
    refine (CM.out _ BX.out).mono ?_
    rintro r w1 ⟨⟨mv, rfl, h1, _⟩, hb⟩
    have P3 := Lib.hid (P2.out.below hb P2.out.lt)
    have B1 := Lib.hid (below_step BX.out hb)
    obtain ⟨hm1, hm2, hm3⟩ := mt_box w1 mv (.slice ua n uc)
    have P4 : Hid (PcB ((w1.alloc (.cells #[.map none, .slice none 0 0] 61)).setRow w1.heap.size #[mv, .slice ua n uc]) (w.heap.size + 1) pc0) := P3.out.below hm1 P3.out.lt
    have B2 := Lib.hid (below_step B1.out hm1)
    have h4 := Lib.hid (P4.out.row pc0)
    have hb4 := Lib.hid (below_setRow B2.out (Nat.le_succ _) #[.int .i64 pc0.1, .int .i64 pc0.2.1, .string pc0.2.2])
    have HM3 := Lib.hid hm3
    clear hb CM P2 P3 hm1 hm2 hm3
    go_wp2_with (with_reducible (show wpList _ _ _ (_ :: _) _ _); first | refine mt_store rfl _ _ rfl w1.heap.size mv (.slice ua n uc) _ _ h1 rfl rfl rfl HM3.out ?_ | refine pc_store rfl _ _ rfl (w.heap.size + 1) pc0 pc0 rfl rfl P4.out ?_)
    (try simp only [Exit.inBlock, Exit.then])
    refine bodyPost_ret (results_pc2 rfl _ _ (w.heap.size + 1) pc0 rfl h4.out) rfl ?_
    exact ⟨HF.out.symm, hb4.out⟩
  · obtain ⟨hok, h60, hst⟩ := HP.out (by first | rfl | trivial)
    have CP1 := Lib.hid (fun b w' hb hm => CP.out b w' hb hm hok hst h60)
    clear CP HP
    by_cases hin : 0 ≤ f ∧ f < (n : Int)
    · have HF := Lib.hid (HYes.out (by rw [HB.out, decide_eq_true hin.1, decide_eq_true (by omega)]; rfl))
      obtain ⟨i, rfl⟩ : ∃ i : Nat, f = (i : Int) := ⟨f.toNat, by omega⟩
      have hA := HIn.out i (by omega)
      have hHd := HHd.out i
      rw [Int.toNat_natCast] at HF
      rw [← hA] at hHd
      obtain ⟨R, hR⟩ : ∃ R, R = Pl.matP es xs i := ⟨_, rfl⟩
      rw [← hR] at HF hHd
      have HHd1 := Lib.hid hHd
      clear hR hA hHd HIn HOut HHd HNo HYes HB
      go_wp2_with fail
      refine (CM.out _ BX.out).mono ?_
      rintro r w1 ⟨⟨mv, rfl, h1, hm⟩, hb⟩
      obtain ⟨b, rfl, hbb, hMb⟩ := hm (by first | rfl | trivial)
      have P3 := Lib.hid (P2.out.below hb P2.out.lt)
      have B1 := Lib.hid (below_step BX.out hb)
      obtain ⟨hm1, hm2, hm3⟩ := mt_box w1 (.map (some b)) (.slice ua n uc)
      have P4 : Hid (PcB ((w1.alloc (.cells #[.map none, .slice none 0 0] 61)).setRow w1.heap.size #[.map (some b), .slice ua n uc]) (w.heap.size + 1) pc0) := P3.out.below hm1 P3.out.lt
      have B2 := Lib.hid (below_step B1.out hm1)
      have M2 := Lib.hid (show MapB ((w1.alloc (.cells #[.map none, .slice none 0 0] 61)).setRow w1.heap.size #[.map (some b), .slice ua n uc]) b es from MapB.below hMb hm1)
      have T2 : Hid (MtB ((w1.alloc (.cells #[.map none, .slice none 0 0] 61)).setRow w1.heap.size #[.map (some b), .slice ua n uc]) w1.heap.size b (.slice ua n uc)) := hm2
      have HM3 := Lib.hid hm3
      clear hb CM P2 P3 hm1 hm2 hm3 hm hMb hbb
      obtain ⟨t0, t1⟩ := T2.out.cells
      go_wp2_with (with_reducible (show wpList _ _ _ (_ :: _) _ _); refine mt_store rfl _ _ rfl w1.heap.size (.map (some b)) (.slice ua n uc) _ _ rfl rfl rfl rfl HM3.out ?_)
      refine (CP1.out b _ B2.out M2.out).mono ?_
      rintro r w3 ⟨⟨y, rfl, hy⟩, hb⟩
      obtain ⟨g, cp, k, rfl, hcp, hgl, g0, g1, g2⟩ := ownP_first hy HHd1.out
      have P5 := Lib.hid (P4.out.below hb P4.out.lt)
      have B3 := Lib.hid (below_step B2.out hb)
      have h4 := Lib.hid (P5.out.row R)
      have hb4 := Lib.hid (below_setRow B3.out (Nat.le_succ _) #[.int .i64 R.1, .int .i64 R.2.1, .string R.2.2])
      clear hb hy P4 B2 M2 T2 HM3 t0 t1 CP1
      go_wp2_with (with_reducible (show wpList _ _ _ (_ :: _) _ _); refine pc_store rfl _ _ rfl (w.heap.size + 1) R pc0 rfl rfl P5.out ?_)
      (try simp only [Exit.inBlock, Exit.then])
      refine bodyPost_ret (results_pc2 rfl _ _ (w.heap.size + 1) R rfl h4.out) rfl ?_
      exact ⟨HF.out.symm, hb4.out⟩
    · have HF := Lib.hid (HNo.out (by rw [HB.out, Bool.and_eq_false_iff]; right; rw [Bool.and_eq_false_iff, decide_eq_false_iff_not, decide_eq_false_iff_not]; omega))
      have hA := HOut.out hin
      have CP2 : Hid (∀ b w', Below w.heap.size w w' → MapB w' b es → Calls Tryz.prog 31 #[mtV b (.slice ua n uc), .int .i64 f] w' fun r w'' => (∃ y, r = .returned y ∧ OwnP w'' w'.heap.size y []) ∧ Below w'.heap.size w' w'') := by rw [← hA]; exact CP1.out
      clear hA HIn HOut HHd HNo HYes HB CP1
      go_wp2_with fail
      refine (CM.out _ BX.out).mono ?_
      rintro r w1 ⟨⟨mv, rfl, h1, hm⟩, hb⟩
      obtain ⟨b, rfl, hbb, hMb⟩ := hm (by first | rfl | trivial)
      have P3 := Lib.hid (P2.out.below hb P2.out.lt)
      have B1 := Lib.hid (below_step BX.out hb)
      obtain ⟨hm1, hm2, hm3⟩ := mt_box w1 (.map (some b)) (.slice ua n uc)
      have P4 : Hid (PcB ((w1.alloc (.cells #[.map none, .slice none 0 0] 61)).setRow w1.heap.size #[.map (some b), .slice ua n uc]) (w.heap.size + 1) pc0) := P3.out.below hm1 P3.out.lt
      have B2 := Lib.hid (below_step B1.out hm1)
      have M2 := Lib.hid (show MapB ((w1.alloc (.cells #[.map none, .slice none 0 0] 61)).setRow w1.heap.size #[.map (some b), .slice ua n uc]) b es from MapB.below hMb hm1)
      have T2 : Hid (MtB ((w1.alloc (.cells #[.map none, .slice none 0 0] 61)).setRow w1.heap.size #[.map (some b), .slice ua n uc]) w1.heap.size b (.slice ua n uc)) := hm2
      have HM3 := Lib.hid hm3
      clear hb CM P2 P3 hm1 hm2 hm3 hm hMb hbb
      obtain ⟨t0, t1⟩ := T2.out.cells
      go_wp2_with (with_reducible (show wpList _ _ _ (_ :: _) _ _); refine mt_store rfl _ _ rfl w1.heap.size (.map (some b)) (.slice ua n uc) _ _ rfl rfl rfl rfl HM3.out ?_)
      refine (CP2.out b _ B2.out M2.out).mono ?_
      rintro r w3 ⟨⟨y, rfl, hy⟩, hb⟩
      obtain ⟨ya, yc, rfl⟩ : ∃ a c, y = .slice a 0 c := by
        rcases ownP_own hy with ⟨_, a, c, hh⟩ | ⟨_, _, _, _, _, h0, _⟩
        · exact ⟨a, c, hh⟩
        · exact absurd h0 (Nat.lt_irrefl _)
      have P5 := Lib.hid (P4.out.below hb P4.out.lt)
      have B3 := Lib.hid (below_step B2.out hb)
      have h4 := Lib.hid (P5.out.row pc0)
      have hb4 := Lib.hid (below_setRow B3.out (Nat.le_succ _) #[.int .i64 pc0.1, .int .i64 pc0.2.1, .string pc0.2.2])
      clear hb hy P4 B2 M2 T2 HM3 t0 t1 CP2
      go_wp2_with (with_reducible (show wpList _ _ _ (_ :: _) _ _); refine pc_store rfl _ _ rfl (w.heap.size + 1) pc0 pc0 rfl rfl P5.out ?_)
      (try simp only [Exit.inBlock, Exit.then])
      refine bodyPost_ret (results_pc2 rfl _ _ (w.heap.size + 1) pc0 rfl h4.out) rfl ?_
      exact ⟨HF.out.symm, hb4.out⟩
theorem push_pcN {ops : Array Oper} {rest : List Oper} {o : Oper} {a : Act} {w : World} {Q : Exit → Act → World → Prop}
    (hgd : o.guard = none) (p q : Operand) (ho : o.op = .call { callee := .builtin .append, args := #[p, q], argTypes := #[30, 30] }) (base : Nat) (v : Value) (ls : List Pc) (hs : a.eval p = v) (hown : OwnP w base v ls)
    (e : Pc) (N : Nat) (hN : w.heap.size = N) (hq : a.eval q = .slice (some ⟨N, 0, none⟩) 1 1) (hb : base ≤ N) (h1 : ls.length ≤ 4194304)
    (h : ∀ v' w', OwnP w' base v' (ls ++ [e]) → w.grownBy w' v.ownBlock → wpList Tryz.prog ops Q rest (a.put o.dst v') w') : wpList Tryz.prog ops Q (o :: rest) a (w.alloc (.cells #[.int .i64 e.1, .int .i64 e.2.1, .string e.2.2] 37)) := by
  subst hN
  exact push_pc hgd p q ho base v ls hs hown e hq hb h1 fun v' w' h2 h3 _ => h v' w' h2 h3
theorem ownP_lt {w : World} {base : Nat} {v : Value} {ls : List Pc} (h : OwnP w base v ls) {j : Nat} (hj : v.ownBlock = some j) : j < w.heap.size := by
  rcases h.2 with ⟨rfl, _⟩ | ⟨g, cap, cur, rfl, _, hg, _⟩
  · simp [Value.ownBlock] at hj
  · have : g = j := by simpa [Value.ownBlock] using hj
    rw [← this]; exact (Array.getElem?_eq_some_iff.1 hg).1
set_option maxHeartbeats 2000000 in
theorem Segment_any (v : Value) (es : List Ent) (u : Value) (xs : List Int) (w : World) (h : EntsAt w v es) (hu : IntsAt w u xs) (hn : es.length ≤ 2097152) (hx : ∀ e ∈ es, entOk e) (hxn : xs.length ≤ 2097152) :
    Calls Tryz.prog 8 #[dV v, u] w fun r w' => (∃ y, r = .returned (.tuple #[y, .bool (sgB es xs)]) ∧ OwnP w' w.heap.size y (sgL es xs)) ∧ Below w.heap.size w w' := by
  have cm := fun w' hb => matcherOf_any v es u xs w' (h.below (w' := w') hb) (hu.below hb) hn hx hxn
  have HL : Hid (sgL es xs = if sgB es xs = true then Pl.segP es xs 0 else []) := rfl
  have HP := Lib.hid (fun (h : sgB es xs = true) => sgB_parts h)
  have CP := Lib.hid (fun b (i : Nat) w' hb hm hok hs h60 (hi : i < xs.length) => (allX_in (es := es) hi) ▸ piecesAt_any b es u xs (i : Int) w' hm hok (hu.below (w := w) hb) hs h60)
  obtain ⟨a, cap, rfl, hcap, _⟩ := h.cells
  obtain ⟨ua, uc, rfl, huc, _⟩ := hu.cells
  obtain ⟨n, hnn⟩ : ∃ n, n = xs.length := ⟨_, rfl⟩
  obtain ⟨dn, hdn⟩ : ∃ n, n = es.length := ⟨_, rfl⟩
  have HNext := Lib.hid (fun i (hi : i < xs.length) => Pl.segP_next (es := es) hi)
  have HEnd := Lib.hid (fun i (hi : ¬ i < xs.length) => Pl.segP_end (es := es) hi)
  have HCnt := Lib.hid (fun i (hi : i < xs.length) => Pl.cntP_ok (es := es) hi)
  have HHd := Lib.hid (fun (i : Nat) => Pl.allPs_head es xs i)
  rw [← hnn] at cm huc HP CP HNext HEnd HCnt hxn ⊢
  unfold dV at cm ⊢
  rw [← hdn] at cm hcap ⊢
  have BX := Lib.hid (below_al w (.cells #[.slice a dn cap] 26))
  clear h hu hnn hdn hx hn
  obtain ⟨bS, hbS⟩ : ∃ b, b = sgB es xs := ⟨_, rfl⟩
  obtain ⟨L, hL⟩ : ∃ b, b = sgL es xs := ⟨_, rfl⟩
  rw [← hbS] at HP HL ⊢
  rw [← hL] at HL ⊢
  simp only [← hbS] at cm
  have CM := Lib.hid cm
  clear cm hbS hL
  go_enter Tryz.func8, Tryz.ntmps8
  cases bS
  · obtain rfl : L = [] := HL.out
    clear HP CP HNext HEnd HCnt HHd HL
    go_wp2_with fail
    refine (CM.out _ BX.out).mono ?_
    rintro r w1 ⟨⟨mv, rfl, h1, _⟩, hb⟩
    have B1 := Lib.hid (below_step BX.out hb)
    obtain ⟨hm1, _, hm3⟩ := mt_box w1 mv (.slice ua n uc)
    have B2 := Lib.hid (below_step B1.out hm1)
    have HM3 := Lib.hid hm3
    have HNil := fun W => ownP_nil W w.heap.size
    have HNil := Lib.hid HNil
    clear hb CM hm1 hm3
    go_wp2_with (with_reducible (show wpList _ _ _ (_ :: _) _ _); refine mt_store rfl _ _ rfl w1.heap.size mv (.slice ua n uc) _ _ h1 rfl rfl rfl HM3.out ?_)
    go_ret2
    exact ⟨⟨_, rfl, HNil.out _⟩, B2.out⟩
  · obtain ⟨hok, h60, hst⟩ := HP.out (by first | rfl | trivial)
    obtain rfl : L = Pl.segP es xs 0 := HL.out
    obtain ⟨M, hM⟩ : ∃ M : Nat → Pc, M = fun i => Pl.matP es xs i := ⟨_, rfl⟩
    obtain ⟨C, hC⟩ : ∃ C : Nat → Nat, C = fun i => Pl.cntP es xs i := ⟨_, rfl⟩
    obtain ⟨S, hS⟩ : ∃ S : Nat → List Pc, S = fun i => Pl.segP es xs i := ⟨_, rfl⟩
    obtain ⟨A, hA⟩ : ∃ A : Nat → List Pc, A = fun i => Pl.allPs es xs i := ⟨_, rfl⟩
    have CP1 : Hid (∀ b i w', Below w.heap.size w w' → MapB w' b es → i < n → Calls Tryz.prog 31 #[mtV b (.slice ua n uc), .int .i64 (i : Int)] w' fun r w'' => (∃ y, r = .returned y ∧ OwnP w'' w'.heap.size y (A i)) ∧ Below w'.heap.size w' w'') := by rw [hA]; exact fun b i w' hb hm hi => CP.out b i w' hb hm hok hst h60 hi
    have HNx : Hid (∀ i, i < n → S i = M i :: S (i + C i)) := by rw [hM, hC, hS]; exact HNext.out
    have HEn : Hid (∀ i, ¬ i < n → S i = []) := by rw [hS]; exact HEnd.out
    have HCn : Hid (∀ i, i < n → (M i).2.1 = (C i : Int) ∧ 1 ≤ C i ∧ C i ≤ 6 ∧ i + C i ≤ n) := by rw [hM, hC]; exact fun i hi => ⟨(HCnt.out i hi).1, (HCnt.out i hi).2.1, (HCnt.out i hi).2.2.1, (HCnt.out i hi).2.2.2.1⟩
    have HAh : Hid (∀ i, (A i)[0]? = some (M i)) := by rw [hA, hM]; exact HHd.out
    have HS0 : Hid (Pl.segP es xs 0 = S 0) := by rw [hS]; rfl
    rw [HS0.out]
    clear hM hC hS hA CP HNext HEnd HCnt HHd HS0 HP HL hok hst
    go_wp2_with fail
    refine (CM.out _ BX.out).mono ?_
    rintro r w1 ⟨⟨mv, rfl, h1, hm⟩, hb⟩
    obtain ⟨b, rfl, hbb, hMb⟩ := hm (by first | rfl | trivial)
    have B1 := Lib.hid (below_step BX.out hb)
    obtain ⟨hm1, hm2, hm3⟩ := mt_box w1 (.map (some b)) (.slice ua n uc)
    have B2 := Lib.hid (below_step B1.out hm1)
    have M2 := Lib.hid (show MapB ((w1.alloc (.cells #[.map none, .slice none 0 0] 61)).setRow w1.heap.size #[.map (some b), .slice ua n uc]) b es from MapB.below hMb hm1)
    have T2 : Hid (MtB ((w1.alloc (.cells #[.map none, .slice none 0 0] 61)).setRow w1.heap.size #[.map (some b), .slice ua n uc]) w1.heap.size b (.slice ua n uc)) := hm2
    have HM3 := Lib.hid hm3
    have hw1 : w.heap.size + 1 ≤ w1.heap.size := by have := hb.size; simp at this; omega
    have hbl : b < w1.heap.size := hMb.lt
    clear hb CM hm1 hm2 hm3 hm hMb hbb
    go_wp2_with (with_reducible (show wpList _ _ _ (_ :: _) _ _); refine mt_store rfl _ _ rfl w1.heap.size (.map (some b)) (.slice ua n uc) _ _ rfl rfl rfl rfl HM3.out ?_)
    go_loopw [8, 9] (fun y i wr => ∃ (k : Nat) (ls : List Pc), i = .int .i64 k ∧ k ≤ n ∧ ls.length ≤ k ∧ Hid (ls ++ S k = S 0) ∧ Hid (OwnP wr (w1.heap.size + 1) y ls) ∧ Hid (MtB wr w1.heap.size b (.slice ua n uc)) ∧ Hid (MapB wr b es) ∧ Hid (Below w.heap.size w wr)) (fun _ i _ => n - (intOf i).toNat)
    case atStart => exact ⟨0, [], rfl, Nat.zero_le _, Nat.zero_le _, Lib.hid (List.nil_append _), Lib.hid (ownP_nil _ _), T2, M2, B2⟩
    case round =>
      obtain ⟨k, ls, rfl, hk, hll, HLs, HO, HT, HMp, HBr⟩ := hrel
      by_cases hlt : k < n
      · have CP2 := Lib.hid (CP1.out b k wr HBr.out HMp.out hlt)
        obtain ⟨c1, c2, c3, c4⟩ := HCn.out k hlt
        have hhd := HAh.out k
        have HL2 : Hid ((ls ++ [M k]) ++ S (k + C k) = S 0) := by rw [List.append_assoc, List.singleton_append, ← HNx.out k hlt]; exact HLs.out
        obtain ⟨e, he⟩ : ∃ e, e = M k := ⟨_, rfl⟩
        obtain ⟨c, hc⟩ : ∃ c, c = C k := ⟨_, rfl⟩
        rw [← he] at c1 HL2 hhd
        rw [← hc] at c1 c2 c3 c4 HL2
        have C1 := Lib.hid c1
        have HHd1 := Lib.hid hhd
        obtain ⟨t0, t1⟩ := HT.out.cells
        clear he hc HLs CP1 HNx HEn HCn c1 hhd HAh T2 M2 B2 B1 BX HM3
        go_wp2_with fail
        refine CP2.out.mono ?_
        rintro r w3 ⟨⟨y, rfl, hy⟩, hb⟩
        obtain ⟨g, cp, q, rfl, hcp, hgl, g0, g1, g2⟩ := ownP_first hy HHd1.out
        have ho := below_al w3 (.cells #[.int .i64 e.1, .int .i64 e.2.1, .string e.2.2] 37)
        have hb4 : Below wr.heap.size wr (w3.alloc (.cells #[.int .i64 e.1, .int .i64 e.2.1, .string e.2.2] 37)) := below_step hb ho
        have O4 := Lib.hid (HO.out.below' hb4)
        have T4 := Lib.hid (HT.out.below hb4 HT.out.lt)
        have P4 := Lib.hid (PcB.new w3 e)
        have B4 := Lib.hid (below_step HBr.out hb4)
        have M4 := Lib.hid (show MapB (w3.alloc (.cells #[.int .i64 e.1, .int .i64 e.2.1, .string e.2.2] 37)) b es from MapB.below HMp.out hb4)
        have hol : ∀ j, Value.ownBlock u8 = some j → j < w3.heap.size := fun j hj => Nat.lt_of_lt_of_le (ownP_lt HO.out hj) hb.size
        have HOl := Lib.hid hol
        have hs3 : w1.heap.size + 1 ≤ w3.heap.size := by have := HT.out.lt; have := hb.size; omega
        have HN4 := Lib.hid (World.size_alloc w3 (.cells #[.int .i64 e.1, .int .i64 e.2.1, .string e.2.2] 37))
        have hs4 : w1.heap.size + 1 ≤ w3.heap.size + 1 := by omega
        clear hb hb4 ho hy HO HT HMp HBr CP2 t0 t1 hol
        go_wp2_with (at_builtin; refine push_pcN rfl _ _ rfl (w1.heap.size + 1) _ ls rfl O4.out e (w3.heap.size + 1) HN4.out rfl hs4 (by omega) ?_)
        intro v' w5 hown hg
        have P5 : Hid (PcB w5 w3.heap.size e) := Lib.hid ((hg.block _ (by rw [World.size_alloc]; omega) (fun e => by have := HOl.out _ e.symm; omega)).trans P4.out)
        have T5 : Hid (MtB w5 w1.heap.size b (.slice ua n uc)) := Lib.hid ((hg.block _ T4.out.lt (fun e => by have := row_ge O4.out e.symm; omega)).trans T4.out)
        have M5 : Hid (MapB w5 b es) := Lib.hid (World.ownsMap.kept M4.out hg (fun e => by have := row_ge O4.out e.symm; omega))
        have B5 := Lib.hid (B4.out.grown hg (by rw [World.size_alloc]; omega) (fun j hj => by have := row_ge O4.out hj; omega))
        have O5 := Lib.hid hown
        obtain ⟨_, p1, _⟩ := P5.out.cells
        rw [C1.out] at p1
        clear hown hg B4 O4 T4 M4 P4 P5 HOl
        go_wp2
        go_roundw
        case rel => exact ⟨k + c, ls ++ [e], by go_num, by omega, by rw [List.length_append, List.length_singleton]; omega, HL2, O5, T5, M5, B5⟩
        case measure => simp [intOf]; omega
      · have HF : Hid (ls = S 0) := by have := HLs.out; rw [HEn.out k hlt, List.append_nil] at this; exact this
        have O2 := Lib.hid (ownsRow_mono HO.out (by omega : w.heap.size ≤ w1.heap.size + 1))
        clear HLs CP1 HNx HEn HCn HAh T2 M2 B2 B1 BX HM3
        go_wp2
        go_ret2
        exact ⟨⟨_, rfl, by rw [← HF.out]; exact O2.out⟩, HBr.out⟩
set_option maxHeartbeats 1000000 in
theorem CountUntranslated_any (v : Value) (ls : List Pc) (w : World) (h : PcsAt w v ls) (hn : ls.length ≤ 2097152) :
    Calls Tryz.prog 19 #[v] w fun r w' => r = .returned (.int .i64 (Pl.untr ls : Int)) ∧ Below w.heap.size w w' := by
  obtain ⟨a, cap, rfl, hcap, h⟩ := h
  obtain ⟨n, hnn⟩ : ∃ n, n = ls.length := ⟨_, rfl⟩
  rw [← hnn] at hn hcap ⊢
  have HN := Lib.hid hnn
  have HC : Hid (∀ w', Below w.heap.size w w' → ∀ (j : Nat) e, ls[j]? = some e → ∃ bk o, a = some ⟨bk, o, none⟩ ∧ w'.cell? ⟨bk, o + j * 3, none⟩ = some (.int .i64 e.1) ∧ w'.cell? ⟨bk, o + j * 3 + 1, none⟩ = some (.int .i64 e.2.1) ∧ w'.cell? ⟨bk, o + j * 3 + 2, none⟩ = some (.string e.2.2)) := by
    intro w' hb j e he
    rcases h with rfl | ⟨bk, o, ha, hk, h⟩
    · simp at he
    · obtain ⟨g0, g1, g2⟩ := h j e he
      exact ⟨bk, o, ha, (hb.cell (p := ⟨bk, o + j * 3, none⟩) hk).trans g0, (hb.cell (p := ⟨bk, o + j * 3 + 1, none⟩) hk).trans g1, (hb.cell (p := ⟨bk, o + j * 3 + 2, none⟩) hk).trans g2⟩
  have HT := Lib.hid (fun k e (he : ls[k]? = some e) => untr_take he)
  have HL := Lib.hid (fun k => show Pl.untr (ls.take k) ≤ k from by have := Pl.untr_le (ls.take k); rw [List.length_take] at this; omega)
  have HE : Hid (Pl.untr (ls.take n) = Pl.untr ls) := by show _ = _; rw [hnn, List.take_length]
  obtain ⟨R, hR⟩ : ∃ R, R = Pl.untr ls := ⟨_, rfl⟩
  obtain ⟨U, hU⟩ : ∃ U : Nat → Nat, U = fun k => Pl.untr (ls.take k) := ⟨_, rfl⟩
  have HT1 : Hid (∀ k e, ls[k]? = some e → U (k + 1) = U k + if e.2.2.data.toList = [] then 1 else 0) := by rw [hU]; exact HT.out
  have HL1 : Hid (∀ k, U k ≤ k) := by rw [hU]; exact HL.out
  have HE1 : Hid (U n = R) := by rw [hU, hR]; exact HE.out
  have HU0 : Hid (U 0 = 0) := by rw [hU]; rfl
  rw [← hR]
  clear h hnn HT HL HE hU hR
  go_enter Tryz.func19, Tryz.ntmps19
  go_wp2_with fail
  go_loopw [3, 8] (fun c i wr => ∃ k q : Nat, i = .int .i64 k ∧ c = .int .i64 q ∧ q ≤ k ∧ k ≤ n ∧ Hid (U k = q) ∧ Below w.heap.size w wr) (fun _ i _ => n - (intOf i).toNat)
  case atStart => exact ⟨0, 0, rfl, rfl, Nat.le_refl _, Nat.zero_le _, HU0, Below.refl _ _⟩
  case round =>
    obtain ⟨k, q, rfl, rfl, hq, hk, HUk, hbel⟩ := hrel
    by_cases hlt : k < n
    · obtain ⟨e, he⟩ : ∃ e, ls[k]? = some e := ⟨_, List.getElem?_eq_getElem (by rw [← HN.out]; exact hlt)⟩
      obtain ⟨bk, o, rfl, g0, g1, g2⟩ := HC.out wr hbel k e he
      have ht := HT1.out k e he
      rw [HUk.out] at ht
      obtain ⟨f, c, t⟩ := e
      dsimp only at g0 g1 g2 ht
      have HBl := Lib.hid (below_step hbel (below_al wr (.cells #[.int .i64 f, .int .i64 c, .string t] 37)))
      by_cases hz : t.data.toList = []
      · rw [if_pos hz] at ht
        have HUn := Lib.hid ht
        have htz : t = ⟨#[]⟩ := ByteArray.ext (Array.toList_inj.1 hz)
        subst htz
        clear he ht HUk HT1 hz hbel
        go_wp2
        go_roundw
        case rel => exact ⟨k + 1, q + 1, by go_num, by go_num, by omega, by omega, HUn, HBl.out⟩
        case measure => simp [intOf]; omega
      · rw [if_neg hz] at ht
        have HUn := Lib.hid ht
        have hz2 : t.toList.isEmpty = false := by
          rw [Lib.toList_data]
          cases hl : t.data.toList with
          | nil => exact absurd hl hz
          | cons _ _ => rfl
        clear he ht HUk HT1 hbel
        go_wp2
        go_roundw
        case rel => exact ⟨k + 1, q, by go_num, rfl, by omega, by omega, HUn, HBl.out⟩
        case measure => simp [intOf]; omega
    · obtain rfl : k = n := by omega
      have HF : Hid (q = R) := HUk.out.symm.trans HE1.out
      clear HUk HT1 HE1
      go_wp2
      go_ret
      exact ⟨by rw [HF.out]; rfl, hbel⟩
theorem sgL_len (es : List Ent) (xs : List Int) : (sgL es xs).length ≤ 60 := by
  unfold sgL
  split
  · rename_i h
    have h1 := (sgB_parts h).2.1
    have h2 := Pl.segP_len es xs 0
    omega
  · exact Nat.zero_le _
end Go.Proofs.YthigdblloddepaaGreat

namespace Go.Proofs.YthigdblloddepaaGreat
set_option maxRecDepth 100000
open Go.RowKit

/-- Two pieces compared part for part. -/
def eqPB (e e' : Pc) : Bool := e.1 == e'.1 && (e.2.1 == e'.2.1 && e.2.2.toList == e'.2.2.toList)
theorem eqPB_iff (e e' : Pc) : eqPB e e' = true ↔ e = e' := by
  obtain ⟨f, c, t⟩ := e
  obtain ⟨f', c', t'⟩ := e'
  unfold eqPB
  simp only [Bool.and_eq_true, beq_iff_eq]
  constructor
  · rintro ⟨rfl, rfl, h⟩
    rw [Lib.toList_data, Lib.toList_data] at h
    rw [show t = t' from ByteArray.ext (Array.toList_inj.1 h)]
  · intro h
    injection h with h1 h2
    injection h2 with h2 h3
    exact ⟨h1, h2, by rw [h3]⟩
theorem fields_pc : (Tryz.prog.fieldsOf 37).toList.map (fun f => (f.name, f.type, f.offset)) = [("From", 3, 0), ("Count", 3, 1), ("Text", 9, 2)] := by kernel_rfl
set_option maxRecDepth 100000 in
theorem eqlPc (e e' : Pc) (w : World) : (binOp .eql 37 (pcV e) (pcV e')).run Tryz.prog w = .ok (.bool (eqPB e e')) w := by
  obtain ⟨f, c, t⟩ := e
  obtain ⟨f', c', t'⟩ := e'
  have h := fields_pc
  obtain ⟨fs, hfs⟩ : ∃ fs, fs = (Tryz.prog.fieldsOf 37).toList := ⟨_, rfl⟩
  rw [← hfs] at h
  match fs, h with
  | [f0, f1, f2], h =>
    simp at h
    obtain ⟨⟨a0, a1, a2⟩, ⟨b0, b1, b2⟩, c0, c1, c2⟩ := h
    rw [run_eql_struct, run_equalIn_agg _ _ _ _ _ (by kernel_rfl) (by kernel_rfl), ← hfs]
    have p0 : ∀ (x y : Int) (z : ByteArray) w, (part 3 #[.int .i64 x, .int .i64 y, .string z] 0).run Tryz.prog w = .ok (.int .i64 x) w := fun x y z w => by rfl
    have p1 : ∀ (x y : Int) (z : ByteArray) w, (part 3 #[.int .i64 x, .int .i64 y, .string z] 1).run Tryz.prog w = .ok (.int .i64 y) w := fun x y z w => by rfl
    have p2 : ∀ (x y : Int) (z : ByteArray) w, (part 9 #[.int .i64 x, .int .i64 y, .string z] 2).run Tryz.prog w = .ok (.string z) w := fun x y z w => by rfl
    unfold eqPB
    by_cases h1 : f = f' <;> by_cases h2 : c = c' <;> by_cases h3 : t.toList = t'.toList <;>
      simp [Op.eqFields, a0, a1, a2, b0, b1, b2, c0, c1, c2, p0, p1, p2, h1, h2, h3, run_equalIn_int _ _ _ _ _ _ _ Tryz.underlying3, run_equalIn_string _ _ _ _ _ Tryz.underlying9]
theorem below_drewP {B : Nat} {a w : World} (h : Below B a w) (n : Nat) : Below B a (w.drewN n) := h.trans ⟨rfl, rfl, rfl, Nat.le_refl _, fun _ _ => rfl⟩
theorem pc_cells {w : World} {v : Value} {ls : List Pc} (h : PcsAt w v ls) : ∃ a cap, v = .slice a ls.length cap ∧ ls.length ≤ cap ∧ ∀ w', Below w.heap.size w w' → ∀ (j : Nat) e, ls[j]? = some e → ∃ bk o, a = some ⟨bk, o, none⟩ ∧ w'.cell? ⟨bk, o + j * 3, none⟩ = some (.int .i64 e.1) ∧ w'.cell? ⟨bk, o + j * 3 + 1, none⟩ = some (.int .i64 e.2.1) ∧ w'.cell? ⟨bk, o + j * 3 + 2, none⟩ = some (.string e.2.2) := by
  obtain ⟨a, cap, rfl, hcap, hl⟩ := h
  refine ⟨a, cap, rfl, hcap, fun w' hb j e he => ?_⟩
  rcases hl with rfl | ⟨bk, o, ha, hk, h⟩
  · simp at he
  · obtain ⟨g0, g1, g2⟩ := h j e he
    exact ⟨bk, o, ha, (hb.cell (p := ⟨bk, o + j * 3, none⟩) hk).trans g0, (hb.cell (p := ⟨bk, o + j * 3 + 1, none⟩) hk).trans g1, (hb.cell (p := ⟨bk, o + j * 3 + 2, none⟩) hk).trans g2⟩
set_option maxHeartbeats 2000000 in
theorem IndexPc_any (v : Value) (ls : List Pc) (e : Pc) (w : World) (h : PcsAt w v ls) (hn : ls.length ≤ 2097152) :
    Calls Tryz.prog 72 #[v, pcV e] w fun r w' => (∃ i : Int, r = .returned (.int .i64 i) ∧ (0 ≤ i ↔ e ∈ ls)) ∧ Below w.heap.size w w' := by
  obtain ⟨a, cap, rfl, hcap, hC⟩ := pc_cells h
  have HM : Hid (∀ k : Nat, (e ∉ ls.take k) → ∀ x, ls[k]? = some x → eqPB e x = false → e ∉ ls.take (k + 1)) := by
    intro k hk x hx hne hm
    rw [List.take_add_one, hx, List.mem_append] at hm
    rcases hm with hm | hm
    · exact hk hm
    · simp at hm
      rw [← hm] at hne
      have := (eqPB_iff e e).2 rfl
      rw [this] at hne; cases hne
  have HY : Hid (∀ (k : Nat) (x : Pc), ls[k]? = some x → eqPB e x = true → e ∈ ls) := fun k x hx h => by rw [(eqPB_iff e x).1 h]; exact List.mem_of_getElem? hx
  obtain ⟨n, hnn⟩ : ∃ n, n = ls.length := ⟨_, rfl⟩
  have HE : Hid (e ∉ ls.take n → e ∉ ls) := by intro h; rw [hnn, List.take_length] at h; exact h
  rw [← hnn] at hn hcap ⊢
  have HN := Lib.hid hnn
  have HC := Lib.hid hC
  have P0 := Lib.hid (PcB.new w e)
  have B0 := Lib.hid (below_al w (.cells #[.int .i64 e.1, .int .i64 e.2.1, .string e.2.2] 37))
  have HMem := Lib.hid (fun (i : Int) => show (0 ≤ i ↔ e ∈ ls) ↔ (0 ≤ i ↔ e ∈ ls) from Iff.rfl)
  obtain ⟨Q, hQ⟩ : ∃ Q : Prop, Q = (e ∈ ls) := ⟨_, rfl⟩
  obtain ⟨Z, hZ⟩ : ∃ Z : Nat → Prop, Z = fun k => e ∉ ls.take k := ⟨_, rfl⟩
  have HM' : Hid (∀ k : Nat, Z k → ∀ x, ls[k]? = some x → eqPB e x = false → Z (k + 1)) := by rw [hZ]; exact HM.out
  have HY' : Hid (∀ (k : Nat) (x : Pc), ls[k]? = some x → eqPB e x = true → Q) := by rw [hQ]; exact HY.out
  have HE' : Hid (Z n → ¬ Q) := by rw [hZ, hQ]; exact HE.out
  have HZ0 : Hid (Z 0) := by rw [hZ]; show e ∉ ls.take 0; simp
  rw [← hQ]
  clear h hnn hC HM HY HE hZ hQ HMem
  obtain ⟨f, c, t⟩ := e
  go_enter Tryz.func72, Tryz.ntmps72
  go_wp2_with fail
  go_loopw [8] (fun i wr => ∃ k : Nat, k ≤ n ∧ i = .int .i64 k ∧ Hid (Z k) ∧ Hid (PcB wr w.heap.size (f, c, t)) ∧ Hid (Below w.heap.size w wr)) (fun i _ => n - (intOf i).toNat)
  case atStart => exact ⟨0, Nat.zero_le _, rfl, HZ0, P0, B0⟩
  case round =>
    obtain ⟨k, hk, rfl, HZk, HP, HBr⟩ := hrel
    by_cases hlt : k < n
    · obtain ⟨x, hx⟩ : ∃ x, ls[k]? = some x := ⟨_, List.getElem?_eq_getElem (by rw [← HN.out]; exact hlt)⟩
      obtain ⟨bk, o, rfl, g0, g1, g2⟩ := HC.out wr HBr.out k x hx
      obtain ⟨p0, p1, p2⟩ := HP.out.cells
      dsimp only at p0 p1 p2
      have hcmp := fun w => eqlPc (f, c, t) x w
      have hyes := HY'.out k x hx
      have hno := HM'.out k HZk.out x hx
      obtain ⟨b, hb⟩ : ∃ b, b = eqPB (f, c, t) x := ⟨_, rfl⟩
      rw [← hb] at hcmp hyes hno
      obtain ⟨xf, xc, xt⟩ := x
      dsimp only [pcV] at hcmp g0 g1 g2
      have HYes := Lib.hid hyes
      have HNo := Lib.hid hno
      clear hx hb hyes hno HC HM' HY' HE' HZ0
      cases b
      · have HZ2 : Hid (Z (k + 1)) := HNo.out rfl
        go_wp2_with fail
        go_quiet (fail)
        go_wp2
        go_roundw
        case rel => exact ⟨k + 1, by omega, by go_num, HZ2, HP.out.below (below_drewP (Below.refl _ _) nq) HP.out.lt, below_drewP HBr.out nq⟩
        case measure => simp [intOf]; omega
      · have HQ : Hid Q := HYes.out rfl
        go_wp2_with fail
        go_quiet (fail)
        go_wp2
        go_ret
        exact ⟨⟨_, rfl, ⟨fun _ => HQ.out, fun _ => by omega⟩⟩, below_drewP HBr.out nq⟩
    · obtain rfl : k = n := by omega
      have HQ : Hid (¬ Q) := HE'.out HZk.out
      clear HC HM' HY' HE' HZ0
      go_wp2
      go_ret
      exact ⟨⟨_, rfl, ⟨fun h => absurd h (by decide), fun h => absurd h HQ.out⟩⟩, HBr.out⟩
theorem ContainsPc_any (v : Value) (ls : List Pc) (e : Pc) (w : World) (h : PcsAt w v ls) (hn : ls.length ≤ 2097152) :
    Calls Tryz.prog 35 #[v, pcV e] w fun r w' => (∃ b : Bool, r = .returned (.bool b) ∧ (b = true ↔ e ∈ ls)) ∧ Below w.heap.size w w' := by
  have B0 := Lib.hid (below_al w (.cells #[.int .i64 e.1, .int .i64 e.2.1, .string e.2.2] 37))
  have C := Lib.hid (fun w' hb => IndexPc_any v ls e w' (h.below (w' := w') hb) hn)
  obtain ⟨p0, p1, p2⟩ := (PcB.new w e).cells
  obtain ⟨a, cap, rfl, _, _⟩ := pc_cells h
  obtain ⟨Q, hQ⟩ : ∃ Q : Prop, Q = (e ∈ ls) := ⟨_, rfl⟩
  rw [← hQ] at C ⊢
  obtain ⟨n, hnn⟩ : ∃ n, n = ls.length := ⟨_, rfl⟩
  rw [← hnn] at C hn ⊢
  clear h hQ hnn
  obtain ⟨f, c, t⟩ := e
  go_enter Tryz.func35, Tryz.ntmps35
  go_wp2_with fail
  refine (C.out _ B0.out).mono ?_
  rintro r w1 ⟨⟨i, rfl, hi⟩, hb⟩
  have HB := Lib.hid (below_step B0.out hb)
  have HI := Lib.hid hi
  clear hb hi p0 p1 p2
  go_wp2
  go_ret
  exact ⟨⟨_, rfl, by have := HI.out; first | exact this | (rw [← this]; simp)⟩, HB.out⟩
theorem sp_any {es : List Ent} {xs : List Int} (h : sgB es xs = true) (j : Nat) (e : Pc) (b : Bool) (hb : b = true ↔ e ∈ allX es xs (j : Int)) : b = Pl.spB es xs j e := by
  obtain ⟨hok, _, _⟩ := sgB_parts h
  have h1 := Pl.spB_mem (okD_fine hok) (es := es) (xs := xs) (i := j) (p := e)
  have h2 : (e ∈ allX es xs (j : Int)) ↔ (j < xs.length ∧ e ∈ Pl.allPs es xs j) := by
    unfold allX
    by_cases hj : j < xs.length
    · rw [if_pos (by omega), Int.toNat_natCast]; exact ⟨fun h => ⟨hj, h⟩, fun h => h.2⟩
    · rw [if_neg (by omega)]; exact ⟨fun h => absurd h List.not_mem_nil, fun h => absurd h.1 hj⟩
  rw [Bool.eq_iff_iff, hb, h2, h1]
theorem sp_cnt {es : List Ent} {xs : List Int} (h : sgB es xs = true) (j : Nat) (e : Pc) (hs : Pl.spB es xs j e = true) : ∃ q : Nat, e.2.1 = (q : Int) ∧ 1 ≤ q ∧ j + q ≤ xs.length := by
  obtain ⟨hok, _, _⟩ := sgB_parts h
  obtain ⟨h1, h2⟩ := (Pl.spB_mem (okD_fine hok)).1 hs
  obtain ⟨q, h3, h4, _, h5, _⟩ := Pl.allPs_cnt h1 h2
  exact ⟨q, h3, h4, h5⟩
set_option maxHeartbeats 4000000 in
theorem IsSegmentation_any (v : Value) (es : List Ent) (u : Value) (xs : List Int) (lv : Value) (ls : List Pc) (w : World) (h : EntsAt w v es) (hu : IntsAt w u xs) (hl : PcsAt w lv ls) (hn : es.length ≤ 2097152) (hx : ∀ e ∈ es, entOk e) (hxn : xs.length ≤ 2097152) (hln : ls.length ≤ 2097152) :
    Calls Tryz.prog 10 #[dV v, u, lv] w fun r w' => r = .returned (.tuple #[.bool (isB es xs ls), .bool (sgB es xs)]) ∧ Below w.heap.size w w' := by
  have cm := fun w' hb => matcherOf_any v es u xs w' (h.below (w' := w') hb) (hu.below hb) hn hx hxn
  have HP := Lib.hid (fun (h : sgB es xs = true) => sgB_parts h)
  have CP := Lib.hid (fun b (f : Int) w' hb hm hok hs h60 => piecesAt_any b es u xs f w' hm hok (hu.below (w := w) hb) hs h60)
  have CC := Lib.hid (fun y ps e w' (hy : PcsAt w' y ps) hn => ContainsPc_any y ps e w' hy hn)
  have HNo := Lib.hid (fun h => isB_no (es := es) (xs := xs) (ls := ls) h)
  have HYes := Lib.hid (fun h => isB_yes (es := es) (xs := xs) (ls := ls) h)
  have HSa := Lib.hid (fun (h : sgB es xs = true) => sp_any h)
  have HSc := Lib.hid (fun (h : sgB es xs = true) => sp_cnt h)
  have HXl := Lib.hid (fun (f : Int) => show (allX es xs f).length ≤ 7 from by
    unfold allX Pl.allPs
    split
    · rw [List.length_append, List.length_singleton]; have := Pl.fdPs_len es xs f.toNat (Pl.capN xs f.toNat); unfold Pl.capN at this ⊢; omega
    · exact Nat.zero_le _)
  obtain ⟨a, cap, rfl, hcap, _⟩ := h.cells
  obtain ⟨ua, uc, rfl, huc, _⟩ := hu.cells
  obtain ⟨la, lc, rfl, hlc, hC⟩ := pc_cells hl
  have HC := Lib.hid hC
  obtain ⟨n, hnn⟩ : ∃ n, n = xs.length := ⟨_, rfl⟩
  obtain ⟨dn, hdn⟩ : ∃ n, n = es.length := ⟨_, rfl⟩
  obtain ⟨m, hmn⟩ : ∃ n, n = ls.length := ⟨_, rfl⟩
  have HM := Lib.hid hmn
  have HStep := Lib.hid (fun k p (hk : ls[k]? = some p) i => Pl.segB_drop (es := es) (xs := xs) hk i)
  have HEnd : Hid (∀ i, Pl.segB es xs i (ls.drop m) = decide ((i : Int) = (n : Int))) := by
    intro i; rw [hmn, List.drop_length, hnn]; rfl
  rw [← hnn] at cm huc HP CP HSc hxn ⊢
  unfold dV at cm ⊢
  rw [← hdn] at cm hcap ⊢
  rw [← hmn] at hlc hln ⊢
  have BX := Lib.hid (below_al w (.cells #[.slice a dn cap] 26))
  clear h hu hl hnn hdn hmn hx hn hC
  obtain ⟨bS, hbS⟩ : ∃ b, b = sgB es xs := ⟨_, rfl⟩
  obtain ⟨I, hI⟩ : ∃ b, b = isB es xs ls := ⟨_, rfl⟩
  rw [← hbS] at HP HNo HYes HSa HSc ⊢
  rw [← hI] at HNo HYes ⊢
  simp only [← hbS] at cm
  have CM := Lib.hid cm
  clear cm hbS hI
  go_enter Tryz.func10, Tryz.ntmps10
  cases bS
  · obtain rfl : I = false := HNo.out rfl
    clear HP CP CC HNo HYes HSa HSc HXl HC HM HStep HEnd
    go_wp2_with fail
    refine (CM.out _ BX.out).mono ?_
    rintro r w1 ⟨⟨mv, rfl, h1, _⟩, hb⟩
    have B1 := Lib.hid (below_step BX.out hb)
    obtain ⟨hm1, _, hm3⟩ := mt_box w1 mv (.slice ua n uc)
    have B2 := Lib.hid (below_step B1.out hm1)
    have HM3 := Lib.hid hm3
    clear hb CM hm1 hm3
    go_wp2_with (with_reducible (show wpList _ _ _ (_ :: _) _ _); refine mt_store rfl _ _ rfl w1.heap.size mv (.slice ua n uc) _ _ h1 rfl rfl rfl HM3.out ?_)
    go_ret2
    exact ⟨rfl, B2.out⟩
  · obtain ⟨hok, h60, hst⟩ := HP.out (by first | rfl | trivial)
    have hIe := HYes.out (by first | rfl | trivial)
    obtain ⟨D, hD⟩ : ∃ D : Nat → Nat → Bool, D = fun i k => Pl.segB es xs i (ls.drop k) := ⟨_, rfl⟩
    obtain ⟨Sp, hSp⟩ : ∃ Sp : Nat → Pc → Bool, Sp = fun i p => Pl.spB es xs i p := ⟨_, rfl⟩
    obtain ⟨X, hX⟩ : ∃ X : Nat → List Pc, X = fun (j : Nat) => allX es xs ((j : Nat) : Int) := ⟨_, rfl⟩
    have HI : Hid (D 0 0 = I) := by rw [hD, hIe]; rfl
    have HSt : Hid (∀ k p, ls[k]? = some p → ∀ i, D i k = (Sp i p && D (i + p.2.1.toNat) (k + 1))) := by rw [hD, hSp]; exact HStep.out
    have HEn : Hid (∀ i, D i m = decide ((i : Int) = (n : Int))) := by rw [hD]; exact HEnd.out
    have HSa1 : Hid (∀ j e (b : Bool), (b = true ↔ e ∈ X j) → b = Sp j e) := by rw [hSp, hX]; exact HSa.out (by first | rfl | trivial)
    have HSc1 : Hid (∀ j e, Sp j e = true → ∃ q : Nat, e.2.1 = (q : Int) ∧ 1 ≤ q ∧ j + q ≤ n) := by rw [hSp]; exact HSc.out (by first | rfl | trivial)
    have HXl1 : Hid (∀ j, (X j).length ≤ 2097152) := by rw [hX]; exact fun j => Nat.le_trans (HXl.out (j : Int)) (by decide)
    have CP1 : Hid (∀ b (j : Nat) w', Below w.heap.size w w' → MapB w' b es → Calls Tryz.prog 31 #[mtV b (.slice ua n uc), .int .i64 (j : Int)] w' fun r w'' => (∃ y, r = .returned y ∧ OwnP w'' w'.heap.size y (X j)) ∧ Below w'.heap.size w' w'') := by rw [hX]; exact fun b j w' hb hm => CP.out b (j : Int) w' hb hm hok hst h60
    clear hD hSp hX HStep HEnd HSa HSc HXl CP HP HNo HYes hIe hok hst
    go_wp2_with fail
    refine (CM.out _ BX.out).mono ?_
    rintro r w1 ⟨⟨mv, rfl, h1, hm⟩, hb⟩
    obtain ⟨b, rfl, hbb, hMb⟩ := hm (by first | rfl | trivial)
    have B1 := Lib.hid (below_step BX.out hb)
    obtain ⟨hm1, hm2, hm3⟩ := mt_box w1 (.map (some b)) (.slice ua n uc)
    have B2 := Lib.hid (below_step B1.out hm1)
    have M2 := Lib.hid (show MapB ((w1.alloc (.cells #[.map none, .slice none 0 0] 61)).setRow w1.heap.size #[.map (some b), .slice ua n uc]) b es from MapB.below hMb hm1)
    have T2 : Hid (MtB ((w1.alloc (.cells #[.map none, .slice none 0 0] 61)).setRow w1.heap.size #[.map (some b), .slice ua n uc]) w1.heap.size b (.slice ua n uc)) := hm2
    have HM3 := Lib.hid hm3
    have hw1 : w.heap.size + 1 ≤ w1.heap.size := by have := hb.size; simp at this; omega
    clear hb CM hm1 hm2 hm3 hm hMb hbb
    go_wp2_with (with_reducible (show wpList _ _ _ (_ :: _) _ _); refine mt_store rfl _ _ rfl w1.heap.size (.map (some b)) (.slice ua n uc) _ _ rfl rfl rfl rfl HM3.out ?_)
    go_loopw [10, 23] (fun x i wr => ∃ (k j : Nat), i = .int .i64 k ∧ x = .int .i64 j ∧ k ≤ m ∧ j ≤ n ∧ Hid (D j k = I) ∧ Hid (MtB wr w1.heap.size b (.slice ua n uc)) ∧ Hid (MapB wr b es) ∧ Hid (Below w.heap.size w wr)) (fun _ i _ => m - (intOf i).toNat)
    case atStart => exact ⟨0, 0, rfl, rfl, Nat.zero_le _, Nat.zero_le _, HI, T2, M2, B2⟩
    case round =>
      obtain ⟨k, j, rfl, rfl, hk, hj, HDk, HT, HMp, HBr⟩ := hrel
      by_cases hlt : k < m
      · obtain ⟨e, he⟩ : ∃ e, ls[k]? = some e := ⟨_, List.getElem?_eq_getElem (by rw [← HM.out]; exact hlt)⟩
        obtain ⟨bk, o, rfl, g0, g1, g2⟩ := HC.out wr HBr.out k e he
        have hst := HSt.out k e he j
        rw [HDk.out] at hst
        have hsa := HSa1.out j e
        have hsc := HSc1.out j e
        obtain ⟨S1, hS1⟩ : ∃ b, b = Sp j e := ⟨_, rfl⟩
        rw [← hS1] at hst hsa hsc
        have HSt1 := Lib.hid hst
        have HSa2 := Lib.hid hsa
        have HSc2 := Lib.hid hsc
        obtain ⟨f, c, t⟩ := e
        have hal := below_al wr (.cells #[.int .i64 f, .int .i64 c, .string t] 37)
        have HBl := Lib.hid (below_step HBr.out hal)
        have TBl : Hid (MtB (wr.alloc (.cells #[.int .i64 f, .int .i64 c, .string t] 37)) w1.heap.size b (.slice ua n uc)) := HT.out.below hal HT.out.lt
        have MBl : Hid (MapB (wr.alloc (.cells #[.int .i64 f, .int .i64 c, .string t] 37)) b es) := MapB.below HMp.out hal
        have PBl := Lib.hid (show PcB (wr.alloc (.cells #[.int .i64 f, .int .i64 c, .string t] 37)) wr.heap.size (f, c, t) from PcB.new wr (f, c, t))
        obtain ⟨W, hW⟩ : ∃ W, W = wr.alloc (.cells #[.int .i64 f, .int .i64 c, .string t] 37) := ⟨_, rfl⟩
        have HWr := Lib.hid hW
        rw [← hW] at HBl TBl MBl PBl
        have CP2 := Lib.hid (fun w' hb hm => CP1.out b j w' hb hm)
        have hxl := HXl1.out j
        have CC1 := Lib.hid (fun y w' hy => CC.out y (X j) (f, c, t) w' hy hxl)
        obtain ⟨Xj, hXj⟩ : ∃ x, x = X j := ⟨_, rfl⟩
        rw [← hXj] at CP2 CC1 HSa2
        dsimp only [pcV] at g0 g1 g2 CC1
        have k0 := cell_regrown TBl.out.cells.1
        have k1 := cell_regrown TBl.out.cells.2
        have k2 := cell_regrown PBl.out.cells.1
        have k3 := cell_regrown PBl.out.cells.2.1
        have k4 := cell_regrown PBl.out.cells.2.2
        have hWs : W.heap.size = wr.heap.size + 1 := by rw [hW, World.size_alloc]
        have HWs := Lib.hid hWs
        clear hst hsa hsc hS1 he hal HT HMp HBr HC HSt HI HSa1 HSc1 HXl1 CP1 CC hXj hxl T2 M2 B2 B1 BX HM3 hW hWs
        go_wp2_with fail
        rw [← HWr.out]
        refine Mx.wp_region_mixed (Mx.ofL [(0, 1), (1, 0), (3, 1), (2, 2), (4, 3), (5, 0)] .done) (by kernel_rfl) (by kernel_rfl) ?_
        repeat ((first | refine Mx.mix0 rfl ?_ | refine Mx.mix1 rfl ?_); go_big_quiet_step (fail); refine wpQuiet_nil ?_)
        refine Mx.mix2 rfl ?_
        have hd : Below W.heap.size W W.drew := below_drewN (Below.refl _ _) 1
        go_wp2_with fail
        refine (CP2.out _ (below_step HBl.out hd) (MapB.below MBl.out hd)).mono ?_
        rintro r w3 ⟨⟨y, rfl, hy⟩, hb'⟩
        have hb := below_step hd hb'
        have G3 := Lib.hid hb
        have HG := Lib.hid (regrown_of_below hb)
        have Y3 := Lib.hid (ownP_at hy)
        clear hb hb' hd hy k0 k1 k2 k3 k4 CP2
        go_wp2
        refine Mx.mid_normal (fun _ => HG.out) ?_
        refine Mx.mix3 rfl ?_
        go_wp2_with fail
        refine (CC1.out _ w3 Y3.out).mono ?_
        rintro r w4 ⟨⟨d, rfl, hd⟩, hb⟩
        obtain rfl : d = S1 := HSa2.out d hd
        have hb4 := below_step G3.out hb
        have T4 := Lib.hid (TBl.out.below hb4 TBl.out.lt)
        have M4 := Lib.hid (show MapB w4 b es from MapB.below MBl.out hb4)
        have P4 := Lib.hid (PBl.out.below hb4 PBl.out.lt)
        have B4 := Lib.hid (below_step HBl.out hb4)
        obtain ⟨p0, p1, p2⟩ := P4.out.cells
        dsimp only at p0 p1 p2
        clear hb hb4 hd G3 HG Y3 TBl MBl PBl HBl CC1 HSa2 P4
        go_wp2
        refine Mx.mid_normal (fun q => by cases q) ?_
        repeat ((first | refine Mx.mix0 rfl ?_ | refine Mx.mix1 rfl ?_); go_big_quiet_step (fail); refine wpQuiet_nil ?_)
        refine Mx.mix_nil ?_
        cases d
        · have HF : Hid (I = false) := by rw [HSt1.out]; rfl
          clear HSt1 HSc2 HEn
          go_wp2
          go_ret2
          exact ⟨by first | (rw [HF.out]; done) | (rw [HF.out]; rfl), B4.out⟩
        · obtain ⟨q, hq, hq1, hqn⟩ := HSc2.out rfl
          try dsimp only at hq
          subst hq
          have HN : Hid (D (j + q) (k + 1) = I) := by rw [HSt1.out]; rfl
          clear HSt1 HSc2 HEn
          go_wp2
          go_roundw
          case rel => exact ⟨k + 1, j + q, by go_num, by go_num, by omega, by omega, HN, T4, M4, B4⟩
          case measure => simp [intOf]; omega
      · obtain rfl : k = m := by omega
        have HF : Hid (I = decide ((j : Int) = (n : Int))) := by rw [← HEn.out j]; exact HDk.out.symm
        clear HC HSt HEn HSa1 HSc1 HXl1 HDk CP1 CC
        go_wp2
        go_ret2
        exact ⟨by first | (rw [HF.out]; done) | (rw [HF.out]; rfl), HBr.out⟩
end Go.Proofs.YthigdblloddepaaGreat
