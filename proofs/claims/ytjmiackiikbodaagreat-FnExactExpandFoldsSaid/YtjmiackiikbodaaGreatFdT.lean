/-
  THE TEXT OF A FOLD: a translation with a suffix behind it, by the specification and by the program.
-/
import Derived.Test.YtjmiackiikbodaaGreatFd
import Derived.Test.YtjmiackiikbodaaGreatImpl5D
import Derived.Test.YtjmiackiikbodaaGreatImpl5F
namespace Go.Proofs.YtjmiackiikbodaaGreat
set_option maxRecDepth 100000
open Go.RowKit

/-! ### Plain -/
def fdX (s t : ByteArray) : ByteArray := ((s ++ ⟨#[32, 123, 94]⟩) ++ t) ++ ⟨#[125]⟩
def fd0B (s t : ByteArray) : Bool := parLB s && parLB (fdX s t)
def fd0T (s t : ByteArray) : ByteArray := if fd0B s t = true then fdX s t else ⟨#[]⟩
def fdB (s : ByteArray) (k : Int) (t : ByteArray) : Bool := Pl.okF (k, t) && fd0B s t
def fdT (s : ByteArray) (k : Int) (t : ByteArray) : ByteArray := if fdB s k t = true then fdX s t else ⟨#[]⟩
def fdE (s : ByteArray) (k : Int) (t : ByteArray) : Ending := .returned (.tuple #[.string (fdT s k t), .bool (fdB s k t)])
def fd0E (s t : ByteArray) : Ending := .returned (.tuple #[.string (fd0T s t), .bool (fd0B s t)])
theorem fdE_no {s : ByteArray} {k : Int} {t : ByteArray} (h : Pl.okF (k, t) = false) : fdE s k t = .returned (.tuple #[.string ⟨#[]⟩, .bool false]) := by
  unfold fdE fdT fdB; rw [h]; rfl
theorem fdE_yes {s : ByteArray} {k : Int} {t : ByteArray} (h : Pl.okF (k, t) = true) : fdE s k t = fd0E s t := by
  unfold fdE fdT fdB fd0E fd0T; rw [h]; rfl
theorem fd0E_no {s t : ByteArray} (h : fd0B s t = false) : fd0E s t = .returned (.tuple #[.string ⟨#[]⟩, .bool false]) := by
  unfold fd0E fd0T; rw [h]; rfl
theorem fd0E_yes {s t : ByteArray} (h : fd0B s t = true) : fd0E s t = .returned (.tuple #[.string (fdX s t), .bool true]) := by
  unfold fd0E fd0T; rw [h]; rfl
theorem readL_textB {ls : List Atm} (h1 : 1 ≤ ls.length) (h : ∀ e ∈ ls, goodE e = true) : readL (textB ls) = ls := by
  have hs : Pl.splitB (textB ls) 32 = partsT ls := by
    unfold Pl.splitB textB
    show Pl.ofLists (Pl.split 32 (Lib.join (Pl.texts (partsT ls)) [32])) = _
    rw [Pl.split_join]
    · unfold Pl.ofLists Pl.texts
      rw [List.map_map]
      conv => rhs; rw [← List.map_id (partsT ls)]
      exact List.map_congr_left fun x _ => rfl
    · intro e
      have : (Pl.texts (partsT ls)).length = ls.length := by unfold Pl.texts partsT; rw [List.length_map, List.length_map]
      rw [e] at this
      simp at this
      omega
    · intro x hx
      unfold Pl.texts partsT at hx
      rw [List.map_map] at hx
      obtain ⟨e, he, rfl⟩ := List.mem_map.1 hx
      exact fmtA_no_space (h e he)
  unfold readL
  rw [hs]
  unfold partsT
  rw [List.map_map]
  conv => rhs; rw [← List.map_id ls]
  exact List.map_congr_left fun e he => atomOf_fmtB (h e he)
theorem parLB_textB {ls : List Atm} (h1 : 1 ≤ ls.length) (h : ∀ e ∈ ls, goodE e = true) : parLB (textB ls) = okL ls := by
  unfold parLB
  rw [readL_textB h1 h]
  cases ho : okL ls
  · rw [Bool.and_false]
  · obtain ⟨_, _, _, h4⟩ := okL_parts ho
    have hne : ls ≠ [] := fun e => by subst e; simp at h1
    have hz := textB_size hne
    rw [decide_eq_true (by omega), Bool.true_and]
theorem okF_good {k : Int} {t : ByteArray} (h : Pl.okF (k, t) = true) : goodE (2, t) = true := by
  obtain ⟨_, h1, h2, h3⟩ := Pl.okF_parts h
  dsimp only at h1 h2 h3
  have e : t.data.toList.length = t.size := by simp
  show Pl.wordL (by8 t) = true
  unfold Pl.wordL by8
  rw [e, decide_eq_true h1, decide_eq_true (by omega)]
  simp only [Bool.and_true]
  rw [List.all_eq_true]
  intro c hc
  have hl := List.all_eq_true.1 h3 c hc
  unfold Pl.letter at hl
  simp only [Bool.and_eq_true, decide_eq_true_eq] at hl
  unfold Pl.wordC
  have hne : ∀ b : UInt8, (b.toNat < 97 ∨ 122 < b.toNat) → (c == b) = false := fun b hb => by
    rw [beq_eq_false_iff_ne]
    intro e; subst e; omega
  rw [hne 123 (by decide), hne 125 (by decide), hne 94 (by decide), hne 38 (by decide), hne 35 (by decide), hne 62 (by decide)]
  simp; omega
theorem fdX_text {ls : List Atm} (h1 : 1 ≤ ls.length) (t : ByteArray) : textB (ls ++ [(2, t)]) = fdX (textB ls) t := by
  have := textB_next (ls := ls ++ [(2, t)]) (k := ls.length) (e := (2, t)) (by omega) (by simp)
  rw [List.take_left, List.take_of_length_le (by simp)] at this
  rw [← this, fmtB_2]
  unfold fdX
  apply ByteArray.ext
  apply Array.ext'
  simp [ByteArray.data_append]
/-- What the program's formatting gives of the atoms with the suffix behind them. -/
theorem fd_format {s : ByteArray} {k : Int} {t : ByteArray} (hf : Pl.okF (k, t) = true) (hs : parLB s = true) : fmtLE (parL s ++ [(2, t)]) = fd0E s t := by
  obtain ⟨ho, ht⟩ := textB_parL hs
  obtain ⟨h1, _, h3, _⟩ := okL_parts ho
  have hX : textB (parL s ++ [(2, t)]) = fdX s t := by rw [fdX_text h1, ht]
  have hg : ∀ e ∈ parL s ++ [(2, t)], goodE e = true := by
    intro e he
    rw [List.mem_append, List.mem_singleton] at he
    rcases he with he | rfl
    · exact h3 e he
    · exact okF_good hf
  have hb := parLB_textB (ls := parL s ++ [(2, t)]) (by rw [List.length_append]; simp) hg
  rw [hX] at hb
  unfold fmtLE fmtLS fd0E fd0T fd0B
  rw [← hb, hX, hs]
  rfl
theorem fdX_size (s t : ByteArray) : (fdX s t).size = s.size + t.size + 4 := by
  unfold fdX
  rw [ByteArray.size_append, ByteArray.size_append, ByteArray.size_append, show (⟨#[32, 123, 94]⟩ : ByteArray).size = 3 from rfl, show (⟨#[125]⟩ : ByteArray).size = 1 from rfl]
  omega
theorem parLB_big {s : ByteArray} (h : 60 < s.size) : parLB s = false := by unfold parLB; rw [decide_eq_false (by omega), Bool.false_and]
theorem l5Parse_all (t : ByteArray) (w : World) (ht : t.size ≤ 2097152) :
    Calls Tryz.prog 86 #[.string t] w fun e w' => OutA w' (parL t) (parLB t) e ∧ Below w.heap.size w w' := by
  by_cases h : t.size ≤ 1048576
  · exact l5Parse_any t w h
  · have hb := parLB_big (s := t) (by omega)
    have HF := Lib.hid (fun w a cap => outA_no hb w a cap)
    clear hb
    go_enter Tryz.func86, Tryz.ntmps86
    go_wp2
    go_ret2
    exact ⟨HF.out _ _ _, (Below.refl _ _).alloc (Nat.le_refl _) _⟩
theorem below_n1 (w : World) (o : Obj) : Below w.heap.size w (w.alloc o) := (Below.refl _ _).alloc (Nat.le_refl _) _
theorem l10Text_any (s : ByteArray) (k : Int) (t : ByteArray) (w : World) (hs : s.size ≤ 1048576) (ht : t.size ≤ 1000) :
    Calls Tryz.prog 43 #[.string s, atV k t] w fun e w' => e = fd0E s t ∧ Below w.heap.size w w' := by
  have c1 := fun w => l5Parse_all s w (by omega)
  have c2 := fun w => l5Parse_all (fdX s t) w (by rw [fdX_size]; omega)
  unfold OutA at c1 c2
  have hy : fd0B s t = (parLB s && parLB (fdX s t)) := rfl
  obtain ⟨X, hX⟩ : ∃ X, X = fdX s t := ⟨_, rfl⟩
  obtain ⟨l1, hl1⟩ : ∃ l, l = parL s := ⟨_, rfl⟩
  obtain ⟨b1, hb1⟩ : ∃ l, l = parLB s := ⟨_, rfl⟩
  rw [← hl1, ← hb1] at c1
  rw [← hX] at c2 hy
  obtain ⟨l2, hl2⟩ : ∃ l, l = parL X := ⟨_, rfl⟩
  obtain ⟨b2, hb2⟩ : ∃ l, l = parLB X := ⟨_, rfl⟩
  rw [← hl2, ← hb2] at c2
  rw [← hb1, ← hb2] at hy
  have HXX := Lib.hid hX
  unfold fdX at hX
  have C1 := Lib.hid c1
  have C2 := Lib.hid c2
  have HN := Lib.hid (fun h => fd0E_no (s := s) (t := t) (hy.trans h))
  have HY : Hid ((b1 && b2) = true → fd0E s t = .returned (.tuple #[.string X, .bool true])) := Lib.hid (fun h => by rw [HXX.out]; exact fd0E_yes (hy.trans h))
  have HX := Lib.hid hX
  clear c1 c2 hy hl1 hb1 hl2 hb2 hX HXX
  cases b1
  · have HN2 := Lib.hid (HN.out (by simp))
    clear HN HY
    go_enter Tryz.func43, Tryz.ntmps43
    go_wp2_with fail
    refine (C1.out _).mono ?_
    rintro e w1 ⟨⟨u, rfl, _⟩, hb⟩
    have B1 := Lib.hid (below_new hb)
    obtain ⟨_, q0, q1⟩ := BoxA.new hb
    have hX := HX.out.symm
    clear hb
    go_wp2_with fail
    refine (C2.out _).mono ?_
    rintro e w2 ⟨⟨u2, rfl, _⟩, hb⟩
    have B2 := Lib.hid (B1.out.trans (hb.mono B1.out.size))
    clear hb q0 q1
    go_wp2
    go_ret2
    exact ⟨HN2.out.symm, B2.out⟩
  · cases b2
    · have HN2 := Lib.hid (HN.out (by simp))
      clear HN HY
      go_enter Tryz.func43, Tryz.ntmps43
      go_wp2_with fail
      refine (C1.out _).mono ?_
      rintro e w1 ⟨⟨u, rfl, _⟩, hb⟩
      have B1 := Lib.hid (below_new hb)
      obtain ⟨_, q0, q1⟩ := BoxA.new hb
      have hX := HX.out.symm
      clear hb
      go_wp2_with fail
      refine (C2.out _).mono ?_
      rintro e w2 ⟨⟨u2, rfl, _⟩, hb⟩
      have B2 := Lib.hid (B1.out.trans (hb.mono B1.out.size))
      clear hb q0 q1
      go_wp2
      go_ret2
      exact ⟨HN2.out.symm, B2.out⟩
    · have HN2 := Lib.hid (HY.out (by simp))
      clear HN HY
      go_enter Tryz.func43, Tryz.ntmps43
      go_wp2_with fail
      refine (C1.out _).mono ?_
      rintro e w1 ⟨⟨u, rfl, _⟩, hb⟩
      have B1 := Lib.hid (below_new hb)
      obtain ⟨_, q0, q1⟩ := BoxA.new hb
      have hX := HX.out.symm
      clear hb
      go_wp2_with fail
      refine (C2.out _).mono ?_
      rintro e w2 ⟨⟨u2, rfl, _⟩, hb⟩
      have B2 := Lib.hid (B1.out.trans (hb.mono B1.out.size))
      clear hb q0 q1
      go_wp2
      go_ret2
      exact ⟨HN2.out.symm, B2.out⟩
set_option maxHeartbeats 1000000 in
theorem FoldedText_any (s : ByteArray) (k : Int) (t : ByteArray) (w : World) (hs : s.size ≤ 1048576) (ht : t.size ≤ 1048576) :
    Calls Tryz.prog 32 #[.string s, atV k t] w fun e w' => e = fdE s k t ∧ Below w.heap.size w w' := by
  have cp := fun w => ParseTO_any s w hs
  unfold OutOT at cp
  have cf := fun w => isValidF_any k t w (by unfold maxLen; omega)
  cases hp : parLB s
  · have HN : Hid (fdE s k t = .returned (.tuple #[.string ⟨#[]⟩, .bool false])) := by
      show _ = _
      cases hf : Pl.okF (k, t)
      · exact fdE_no hf
      · rw [fdE_yes hf]
        exact fd0E_no (by unfold fd0B; rw [hp]; rfl)
    rw [hp] at cp
    have CP := Lib.hid cp
    clear cp cf hp
    go_enter Tryz.func32, Tryz.ntmps32
    go_wp2_with fail
    refine (CP.out _).mono ?_
    rintro e w1 ⟨⟨u, rfl, _⟩, hb⟩
    have B1 := Lib.hid (below_new hb)
    clear hb
    go_wp2
    go_ret2
    exact ⟨HN.out.symm, B1.out⟩
  · rw [hp] at cp
    have CP := Lib.hid cp
    cases hf : Pl.okF (k, t)
    · rw [hf] at cf
      rw [fdE_no hf]
      have CF := Lib.hid cf
      clear cp cf hp hf
      go_enter Tryz.func32, Tryz.ntmps32
      go_wp2_with fail
      refine (CP.out _).mono ?_
      rintro e w1 ⟨⟨u, rfl, _⟩, hb⟩
      have B1 := Lib.hid (below_new hb)
      obtain ⟨_, q0, q1⟩ := BoxA.new hb
      clear hb
      go_wp2_with fail
      refine (CF.out _).mono ?_
      rintro e w2 ⟨rfl, hb⟩
      have B2 := Lib.hid (B1.out.trans (hb.mono B1.out.size))
      clear hb q0 q1
      go_wp2
      go_ret2
      exact ⟨rfl, B2.out⟩
    · rw [hf] at cf
      rw [fdE_yes hf, ← fd_format hf hp]
      have h8 := (Pl.okF_parts hf).2.2.1
      dsimp only at h8
      obtain ⟨ho, _⟩ := textB_parL hp
      obtain ⟨ho1, ho2, ho3, _⟩ := okL_parts ho
      have hsm : ∀ e ∈ parL s ++ [((2 : Int), t)], e.2.size ≤ 1048576 := by
        intro e he
        rw [List.mem_append, List.mem_singleton] at he
        rcases he with he | rfl
        · have := goodE_small (ho3 e he); omega
        · exact ht
      obtain ⟨ls, hls⟩ : ∃ ls, ls = parL s := ⟨_, rfl⟩
      rw [← hls] at CP ho1 ho2 hsm ⊢
      have CF := Lib.hid cf
      have cw := fun v w h => FormatT_any v (ls ++ [((2 : Int), t)]) w h (by rw [List.length_append]; simp; omega) hsm
      unfold fmtLE at cw ⊢
      obtain ⟨X, hX⟩ : ∃ X, X = fmtLS (ls ++ [((2 : Int), t)]) := ⟨_, rfl⟩
      obtain ⟨b, hb⟩ : ∃ b, b = okL (ls ++ [((2 : Int), t)]) := ⟨_, rfl⟩
      rw [← hX, ← hb] at cw ⊢
      have CW := Lib.hid cw
      have HO2 := Lib.hid ho2
      clear cp cf cw hp hf hls hX hb hsm ho ho1 ho2 ho3
      go_enter Tryz.func32, Tryz.ntmps32
      go_wp2_with fail
      refine (CP.out _).mono ?_
      rintro e w1 ⟨⟨u, rfl, hu⟩, hb⟩
      have B1 := Lib.hid (below_new hb)
      have X1 := Lib.hid (BoxA.new hb)
      have HU := Lib.hid hu
      obtain ⟨_, q0, q1⟩ := X1.out
      clear hb hu
      go_wp2_with fail
      refine (CF.out _).mono ?_
      rintro e w2 ⟨rfl, hb⟩
      have B2 := Lib.hid (B1.out.trans (hb.mono B1.out.size))
      have HU2 := Lib.hid (row_below HU.out hb)
      have X2 := Lib.hid (X1.out.below hb)
      clear hb q0 q1 HU X1
      obtain ⟨_, q0, q1⟩ := X2.out
      go_wp2_with (at_builtin; refine push_atom rfl _ _ rfl _ u ls rfl HU2.out 2 t rfl ?_ (by have := HO2.out; omega) ?_)
      · have := B2.out.size; rw [World.size_alloc]; have := B1.out.size; omega
      intro v' w3 hown hg _
      have HAt := Lib.hid (ownT_at hown)
      have B3 : Hid (Below w.heap.size w w3) := Lib.hid (B2.out.grown hg B2.out.size (fun j hj => by have := row_ge HU2.out hj; rw [World.size_alloc] at this; omega))
      clear hown hg HU2 X2 q0 q1
      go_wp2_with fail
      refine (CW.out _ _ HAt.out).mono ?_
      rintro e w4 ⟨rfl, hb⟩
      have B4 := Lib.hid (B3.out.trans (hb.mono B3.out.size))
      clear hb
      go_wp2
      go_ret2
      exact ⟨rfl, B4.out⟩
end Go.Proofs.YtjmiackiikbodaaGreat
