/-
  CONTRACTS of the specification's chapter 5: l5Parse, ParseTranslation.
-/
import Derived.Test.YtnpiphkglhcifaaGreatTransB
import Derived.Test.YtnpiphkglhcifaaGreatAtRow
import Derived.Test.YtnpiphkglhcifaaGreatSplit
import Derived.Test.YtnpiphkglhcifaaGreatMarkI
namespace Go.Proofs.YtnpiphkglhcifaaGreat
set_option maxRecDepth 100000
open Go.RowKit

/-- The atom that a part is read as. -/
def atomOf (p : ByteArray) : Int × ByteArray := ((Pl.parA (by8 p)).1, ⟨(Pl.parA (by8 p)).2.toArray⟩)
theorem parAE_of (p : ByteArray) : parAE p = .returned (.tuple #[atV (atomOf p).1 (atomOf p).2, .bool (Pl.parOk (by8 p))]) := rfl
/-- All parts of a string, read. -/
def readL (s : ByteArray) : List (Int × ByteArray) := (Pl.splitB s 32).map atomOf
def parLB (s : ByteArray) : Bool := decide (s.size ≤ 60) && okL (readL s)
def parL (s : ByteArray) : List (Int × ByteArray) := if parLB s = true then readL s else []
def OutA (w' : World) (ls : List (Int × ByteArray)) (b : Bool) (e : Ending) : Prop := ∃ u, e = .returned (.tuple #[u, .bool b]) ∧ AtomsAt w' u ls
theorem parL_no {s : ByteArray} (h : parLB s = false) : parL s = [] := by unfold parL; rw [h]; rfl
theorem parL_yes {s : ByteArray} (h : parLB s = true) : parL s = readL s := by unfold parL; rw [if_pos h]
theorem outA_no {s : ByteArray} (h : parLB s = false) (w : World) (a : Option Addr) (cap : Nat) : OutA w (parL s) (parLB s) (.returned (.tuple #[.slice a 0 cap, .bool false])) := by
  rw [parL_no h, h]; exact ⟨_, rfl, AtomsAt.nil _ _ _⟩
theorem parA_len (s : List UInt8) : (Pl.parA s).2.length ≤ s.length := by
  unfold Pl.parA
  split
  · exact Pl.kindA_len s
  · exact Nat.zero_le _
theorem atomOf_size (p : ByteArray) : (atomOf p).2.size ≤ p.size := by
  have h := parA_len (by8 p)
  rw [Pl.data_len] at h
  have e : (atomOf p).2.size = (Pl.parA (by8 p)).2.length := by show (Pl.parA (by8 p)).2.toArray.size = _; simp
  omega
theorem atomOf_no {p : ByteArray} (h : Pl.parOk (by8 p) = false) : goodE (atomOf p) = false := by
  have e : Pl.parA (by8 p) = (0, []) := by unfold Pl.parA; rw [h]; rfl
  unfold goodE atomOf
  rw [e]
  decide
theorem atomOf_yes {p : ByteArray} (h : Pl.parOk (by8 p) = true) : goodE (atomOf p) = true ∧ fmtB (atomOf p).1 (atomOf p).2 = p := by
  obtain ⟨h1, h2⟩ := Pl.fmt_parA (by8 p) h
  refine ⟨h1, ?_⟩
  apply by8_inj
  exact h2
set_option maxHeartbeats 1000000 in
theorem l5Parse_any (t : ByteArray) (w : World) (ht : t.size ≤ 1048576) :
    Calls Tryz.prog 49 #[.string t] w fun e w' => OutA w' (parL t) (parLB t) e ∧ Below w.heap.size w w' := by
  by_cases h60 : 60 < t.size
  · have hb : parLB t = false := by unfold parLB; rw [show decide (t.size ≤ 60) = false by simp; omega, Bool.false_and]
    have HF := Lib.hid (fun w a cap => outA_no hb w a cap)
    clear hb
    go_enter Tryz.func49, Tryz.ntmps49
    go_wp2
    go_ret2
    exact ⟨HF.out _ _ _, (Below.refl _ _).alloc (Nat.le_refl _) _⟩
  · have CS := Lib.hid (fun w => l1Split_any t 32 32 rfl w (by omega))
    have CP := Lib.hid (fun s w hs => specParseAtom_any s w hs)
    have hB : parLB t = okL (readL t) := by unfold parLB; rw [show decide (t.size ≤ 60) = true by simp; omega, Bool.true_and]
    have hno := fun (h : okL (readL t) = false) => outA_no (hB.trans h)
    have hyes := fun (h : okL (readL t) = true) => parL_yes (hB.trans h)
    have hsz : ∀ s ∈ Pl.splitB t 32, s.size ≤ t.size := Pl.splitB_size t 32
    have hpl := Pl.splitB_len t 32
    obtain ⟨rd, hrd⟩ : ∃ rd, rd = readL t := ⟨_, rfl⟩
    have hx : ∀ e ∈ rd, e.2.size ≤ 1048600 := by
      intro e he
      rw [hrd] at he
      unfold readL at he
      obtain ⟨p, hp, rfl⟩ := List.mem_map.1 he
      have h1 := atomOf_size p
      have h2 := hsz p hp
      omega
    have hrl : rd.length = (Pl.splitB t 32).length := by rw [hrd]; unfold readL; rw [List.length_map]
    obtain ⟨parts, hparts⟩ : ∃ parts, parts = Pl.splitB t 32 := ⟨_, rfl⟩
    have hat : ∀ (k : Nat) s, parts[k]? = some s → rd[k]? = some (atomOf s) := by intro k s h; rw [hrd]; unfold readL; rw [← hparts, List.getElem?_map, h]; rfl
    rw [← hparts] at CS hrl hsz hpl
    rw [← hrd] at hno hyes hB
    have HSZ := Lib.hid hsz
    have HAt := Lib.hid hat
    have HRL := Lib.hid hrl
    have HNo := Lib.hid hno
    have HYes := Lib.hid hyes
    have HPB := Lib.hid hB
    have CG := Lib.hid (fun v w h hn => l5List_any v rd w h hn hx)
    clear hrd hsz hparts hrl hat hno hyes hB hx
    go_enter Tryz.func49, Tryz.ntmps49
    go_wp2_with fail
    refine (CS.out _).mono ?_
    rintro e w1 ⟨u, rfl, hu, hb1⟩
    have hb01 : Below w.heap.size w w1 := ((Below.refl _ _).alloc (Nat.le_refl _) _).trans (hb1.mono (by simp))
    have hrow1 : OwnT w1 w.heap.size (.slice (some ⟨w.heap.size, 0, none⟩) 0 0) [] := row_below (ownT_new w) hb1
    have hpart : w1.ownsRow w.heap.size 9 1 u parts.length (parts.map .string) := by
      refine ⟨hu.1, ?_⟩
      rcases hu.2 with h | ⟨g, c, cur, hv, hg, rest⟩
      · exact .inl h
      · exact .inr ⟨g, c, cur, hv, by rw [World.size_alloc] at hg; omega, rest⟩
    have hap : u.ownBlock ≠ some w.heap.size := by
      intro e
      have := own_ge hu e
      rw [World.size_alloc] at this; omega
    obtain ⟨pa, pc, rfl, hpc⟩ : ∃ pa pc, u = .slice pa parts.length pc ∧ parts.length ≤ pc := by
      obtain ⟨a, c, hv, hc, _⟩ := ownsRow_at hu
      exact ⟨a, c, hv, hc⟩
    obtain ⟨n, hnn⟩ : ∃ n, n = parts.length := ⟨_, rfl⟩
    have HR1 := Lib.hid hrow1
    have HP1 := Lib.hid hpart
    have HA1 := Lib.hid hap
    rw [← hnn] at HP1 HA1 hpc HRL hpl ⊢
    have HN := Lib.hid hnn
    clear hu hb1 hrow1 hpart hap hnn
    go_wp2_with fail
    go_loopw [4, 6] (fun o i wr => ∃ k : Nat, i = .int .i64 k ∧ k ≤ n ∧ Hid (OwnT wr w.heap.size o (rd.take k)) ∧
      Hid (wr.ownsRow w.heap.size 9 1 (.slice pa n pc) n (parts.map .string)) ∧ Hid ((Value.slice pa n pc).ownBlock = none ∨ (Value.slice pa n pc).ownBlock ≠ o.ownBlock) ∧ Below w.heap.size w wr) (fun _ i _ => n - (intOf i).toNat)
    case atStart => exact ⟨0, rfl, Nat.zero_le _, HR1, HP1, Lib.hid (.inr HA1.out), hb01⟩
    case round =>
      obtain ⟨k, rfl, hk, HO, HP, HX, hbel⟩ := hrel
      have hszr := hbel.size
      by_cases hlt : k < n
      · obtain ⟨s, hs⟩ : ∃ s, parts[k]? = some s := ⟨_, List.getElem?_eq_getElem (by rw [← HN.out]; exact hlt)⟩
        have hrk := HAt.out k s hs
        have hss := HSZ.out s (List.mem_of_getElem? hs)
        obtain ⟨a', cap', hv', _, hc'⟩ := ownsRow_at (xs := parts) (v := .slice pa n pc) (by rw [← HN.out]; exact HP.out)
        obtain ⟨kb, ko, rfl, hkc⟩ : ∃ kb ko, pa = some ⟨kb, ko, none⟩ ∧ wr.cell? ⟨kb, ko + k, none⟩ = some (.string s) := by
          rcases hc' with h | ⟨kb, ko, ha, _, h⟩
          · rw [h] at hs; simp at hs
          · injection hv' with h1 h2 h3
            exact ⟨kb, ko, by rw [h1, ha], h k _ hs⟩
        have cp := fun w => CP.out s w (by omega)
        simp only [parAE_of] at cp
        have hbad := fun (h : Pl.parOk (by8 s) = false) => HNo.out (okL_no_at hrk (atomOf_no h))
        obtain ⟨ek, hek⟩ : ∃ ek, ek = (atomOf s).1 := ⟨_, rfl⟩
        obtain ⟨et, het⟩ : ∃ et, et = (atomOf s).2 := ⟨_, rfl⟩
        obtain ⟨b, hb⟩ : ∃ b, b = Pl.parOk (by8 s) := ⟨_, rfl⟩
        rw [← hek, ← het, ← hb] at cp
        rw [← hb] at hbad
        have hnext : rd.take (k + 1) = rd.take k ++ [(ek, et)] := by rw [List.take_add_one, hrk, hek, het]; rfl
        have CP1 := Lib.hid cp
        have HBad := Lib.hid hbad
        have HNext := Lib.hid hnext
        have hol : (rd.take k).length ≤ 1000 := by rw [List.length_take]; omega
        clear hs hv' hc' cp hrk hbad hnext hek het hb
        go_wp2_with fail
        refine (CP1.out _).mono ?_
        rintro e w2 ⟨rfl, hb2⟩
        have HB2 := Lib.hid (hbel.trans (hb2.mono hszr))
        have HO2 := Lib.hid (row_below HO.out hb2)
        have HP2 := Lib.hid (row_below HP.out hb2)
        have hsz2 := HB2.out.size
        clear hb2 HO HP hbel
        cases b
        · go_wp2
          go_ret2
          exact ⟨HBad.out (by first | rfl | trivial) _ _ _, (HB2.out.alloc HB2.out.size _).alloc (by simp; omega) _⟩
        · go_wp2_with (at_builtin; refine push_atom rfl _ _ rfl w.heap.size _ (rd.take k) rfl (HO2.out.alloc _) ek et (by rw [World.size_alloc]; rfl) (by simp; omega) (by omega) ?_)
          intro v' w3 hown' hgrow hat
          have HO3 : Hid (OwnT w3 w.heap.size v' (rd.take (k + 1))) := by
            show World.ownsRow _ _ _ _ _ _ _
            rw [HNext.out]; exact hown'
          have HP3 : Hid (w3.ownsRow w.heap.size 9 1 (.slice (some ⟨kb, ko, none⟩) n pc) n (parts.map .string)) := (HP2.out.alloc _).kept hgrow HX.out
          have HX3 : Hid ((Value.slice (some ⟨kb, ko, none⟩) n pc).ownBlock = none ∨ (Value.slice (some ⟨kb, ko, none⟩) n pc).ownBlock ≠ v'.ownBlock) := by
            rcases hat with h | h
            · rw [h]; exact HX.out
            · right
              rw [h]
              intro e
              have := row_lt HP2.out e
              first | omega | (simp at this; omega)
          have HB3 : Hid (Below w.heap.size w w3) := (HB2.out.alloc hsz2 _).grown hgrow (by simp; omega) fun j hj => row_ge HO2.out hj
          clear hown' hgrow hat HP2 HX
          go_wp2
          go_roundw
          case rel => exact ⟨k + 1, by go_num, by omega, HO3, HP3, HX3, HB3.out⟩
          case measure => simp [intOf]; omega
      · obtain rfl : k = n := by omega
        have et : rd.take k = rd := List.take_of_length_le (by rw [HRL.out]; exact Nat.le_refl _)
        have hA := ownT_at HO.out
        rw [et] at hA
        have cg := CG.out _ wr hA (by rw [HRL.out]; omega)
        have HA := Lib.hid hA
        obtain ⟨b, hb⟩ : ∃ b, b = okL rd := ⟨_, rfl⟩
        rw [← hb] at cg HNo HYes HPB
        have CG1 := Lib.hid cg
        clear cg hb et hA HO HX
        go_wp2_with fail
        refine (CG1.out).mono ?_
        rintro e w2 ⟨rfl, hb2⟩
        have HB2 := Lib.hid (hbel.trans (hb2.mono hbel.size))
        have HA2 := Lib.hid (HA.out.below hb2)
        clear hb2 hbel HA
        cases b
        · go_wp2
          go_ret2
          exact ⟨HNo.out (by first | rfl | trivial) _ _ _, HB2.out.alloc HB2.out.size _⟩
        · have HY : Hid (OutA w2 (parL t) (parLB t) (.returned (.tuple #[u4, .bool true]))) := by
            show OutA _ _ _ _
            rw [HYes.out (by first | rfl | trivial), HPB.out]
            exact ⟨_, rfl, HA2.out⟩
          go_wp2
          go_ret2
          exact ⟨HY.out, HB2.out⟩
/-- The texts of the words. -/
def wordsOf (ls : List (Int × ByteArray)) : List ByteArray := (ls.filter fun e => e.1 == 1).map fun e => e.2
def plainL (ls : List (Int × ByteArray)) : List ByteArray := if okL ls = true then wordsOf ls else []
theorem wordsOf_len (ls : List (Int × ByteArray)) : (wordsOf ls).length ≤ ls.length := by unfold wordsOf; rw [List.length_map]; exact List.length_filter_le _ _
theorem wordsOf_next {ls : List (Int × ByteArray)} {k : Nat} {e : Int × ByteArray} (h : ls[k]? = some e) : wordsOf (ls.take (k + 1)) = wordsOf (ls.take k) ++ (if (e.1 == 1) = true then [e.2] else []) := by
  unfold wordsOf
  rw [List.take_add_one, h, List.filter_append, List.map_append]
  congr 1
  show ([e].filter _).map _ = _
  by_cases q : (e.1 == 1) = true
  · rw [if_pos q]; simp [List.filter, q]
  · rw [if_neg q]; simp [List.filter, q]
/-- One string appended to an own row: 'append(l, s)'. -/
theorem push_str {ops : Array Oper} {rest : List Oper} {o : Oper} {a : Act} {w : World} {Q : Exit → Act → World → Prop}
    (hgd : o.guard = none) (p q : Operand) (ho : o.op = .call { callee := .builtin .append, args := #[p, q], argTypes := #[67, 67] }) (base : Nat) (v : Value) (xs : List ByteArray) (hs : a.eval p = v) (hown : w.ownsRow base 9 1 v xs.length (xs.map .string))
    (x : ByteArray) (hq : a.eval q = .slice (some ⟨w.heap.size, 0, none⟩) 1 1) (hb : base ≤ w.heap.size) (h1 : xs.length ≤ 4194304)
    (h : ∀ v' w', w'.ownsRow base 9 1 v' (xs ++ [x]).length ((xs ++ [x]).map .string) → w.grownBy w' v.ownBlock → (v'.ownBlock = v.ownBlock ∨ v'.ownBlock = some (w.heap.size + 1)) → wpList Tryz.prog ops Q rest (a.put o.dst v') w') : wpList Tryz.prog ops Q (o :: rest) a (w.alloc (.cells #[.string x] 9)) := by
  obtain ⟨i0, hi, hz0, hz1, hz2⟩ := info_parts infoStr'
  refine wpList_append_own_at _ hgd p q 67 ho base 9 i0 (.string ByteArray.empty) 1 16 Tryz.underlying67 hi hz0 hz1 hz2 rfl (by decide) v xs.length _ hs (hown.alloc _) ⟨w.heap.size, 0, none⟩ 1 1 [.string x] hq rfl (cell_one_new _ _ _) ?_ (by unfold maxLen; omega) (by omega) (by simp; omega) ?_
  · intro y hy; simp at hy; subst hy; rfl
  · intro v' w' hown' hg _ hat
    refine h v' w' ?_ ⟨hg.os, hg.tape, hg.output, Nat.le_trans (by simp) hg.size, fun k hk hne => (hg.block k (by rw [World.size_alloc]; omega) hne).trans (Below.heap_alloc w _ k hk)⟩ ?_
    · rw [List.length_append, List.map_append]; exact hown'
    · rcases hat with h2 | h2
      · exact .inl h2
      · exact .inr (by rw [h2, World.size_alloc])
def OutS (w' : World) (xs : List ByteArray) (b : Bool) (e : Ending) : Prop := ∃ u, e = .returned (.tuple #[u, .bool b]) ∧ StrsAt w' u xs
end Go.Proofs.YtnpiphkglhcifaaGreat
