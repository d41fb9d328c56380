/-
  CONTRACTS of chapter 9 of the program: JoinSuffix, SplitSuffix.
-/
import Derived.Test.YtagbffnabjngfaaRule9
import Derived.Sort.OwnSorted
import Derived.Lib.OwnBridge
namespace Go.Proofs.Ytagbffnabjngfaa
set_option maxRecDepth 100000
open Go.RowKit Go.Sort

theorem infoStr9 : (Try.prog.info? 9).map (fun i => (i.zero, i.size, i.bytes)) = some (some (.string ByteArray.empty), 1, 16) := by kernel_rfl
theorem wordB_size {s : ByteArray} (h : Pl.wordB s.data.toList = true) : 1 ≤ s.size ∧ s.size ≤ 24 := by
  have e : s.data.toList.length = s.size := by simp
  have := Pl.wordB_ne h
  omega
theorem trim_size (s p : ByteArray) : (⟨(Lib.trimSuffix s.data.toList p.data.toList).toArray⟩ : ByteArray).size ≤ s.size := by
  show (Lib.trimSuffix s.data.toList p.data.toList).toArray.size ≤ s.size
  rw [List.size_toArray]
  have e : s.data.toList.length = s.size := by simp
  unfold Lib.trimSuffix
  split
  · rw [List.length_take]; omega
  · omega
theorem rowS_below {w w' : World} {base : Nat} {e : TypeId} {size : Nat} {v : Value} {n : Nat} {xs : List Value} (h : w.ownsRow base e size v n xs) (hb : Below w.heap.size w w') : w'.ownsRow base e size v n xs := by
  refine ⟨h.1, ?_⟩
  rcases h.2 with h2 | ⟨g, cap, cur, rfl, h1, h2, h3⟩
  · exact .inl h2
  · exact .inr ⟨g, cap, cur, rfl, h1, (hb.block g (Array.getElem?_eq_some_iff.1 h2).1).trans h2, h3⟩
/-- The joined spelling, as an answer. -/
def joinE (s f : ByteArray) : Ending := .returned (if (Pl.wordB s.data.toList && (Pl.wordB f.data.toList && decide ((joinB s f).size ≤ 24))) = true then .tuple #[.string (joinB s f), .bool true] else .tuple #[.string ⟨#[]⟩, .bool false])
set_option maxHeartbeats 2000000 in
theorem JoinSuffix_any (s f : ByteArray) (w : World) (hs : s.size ≤ 1048600) (hf : f.size ≤ 1048600) :
    Calls Try.prog 16 #[.string s, .string f] w fun e w' => e = joinE s f ∧ Below w.heap.size w w' := by
  have HR := Lib.hid (fun w => SuffixRule_any s f w hs hf)
  unfold ruleE at HR
  unfold joinE
  cases hb : (Pl.wordB s.data.toList && Pl.wordB f.data.toList)
  · rw [hb, if_neg (by decide)] at HR
    rw [← Bool.and_assoc, hb, Bool.false_and, if_neg (by decide)]
    clear hb
    go_enter Try.func16, Try.ntmps16
    go_wp2_with fail
    refine (HR.out _).mono ?_
    rintro e w' ⟨rfl, hb1⟩
    go_wp2
    go_ret2
    exact ⟨rfl, hb1⟩
  · rw [hb, if_pos rfl] at HR
    rw [← Bool.and_assoc, hb, Bool.true_and]
    rw [Bool.and_eq_true] at hb
    obtain ⟨hs1, hs2⟩ := wordB_size hb.1
    obtain ⟨hf1, hf2⟩ := wordB_size hb.2
    have hrl := Pl.rule_le s.data.toList f.data.toList
    have HJ : Hid ((⟨(Lib.trimSuffix s.data.toList (befB (Pl.rule s.data.toList f.data.toList) (lastB s)).data.toList).toArray⟩ : ByteArray) ++ aftB (Pl.rule s.data.toList f.data.toList) (lastB s) ++ f = joinB s f) := by
      refine bytes_mk ?_
      rw [ext_snoc, ext_snoc]; rfl
    obtain ⟨R, hR⟩ : ∃ R, R = Pl.rule s.data.toList f.data.toList := ⟨_, rfl⟩
    rw [← hR] at HR hrl HJ
    have HL := Lib.hid (fun w => lastLetter_any s w hs)
    have hx := lastB_size s
    obtain ⟨x, hxx⟩ : ∃ x, x = lastB s := ⟨_, rfl⟩
    rw [← hxx] at HL HJ hx
    have HE := Lib.hid (fun w => endingsOf_any R x w hrl hx)
    have hA := aftB_size R x hx
    have hT := trim_size s (befB R x)
    have CT := Lib.hid (fun w => Try.strings_TrimSuffix s (befB R x) w (by omega))
    obtain ⟨T, hTT⟩ : ∃ T : ByteArray, T = ⟨(Lib.trimSuffix s.data.toList (befB R x).data.toList).toArray⟩ := ⟨_, rfl⟩
    rw [← hTT] at hT CT HJ
    obtain ⟨B, hB⟩ : ∃ B, B = befB R x := ⟨_, rfl⟩
    obtain ⟨A, hAA⟩ : ∃ A, A = aftB R x := ⟨_, rfl⟩
    rw [← hAA] at HJ hA
    rw [← hB, ← hAA] at HE
    rw [← hB] at CT
    have hJs : (joinB s f).size = T.size + A.size + f.size := by rw [← HJ.out]; simp only [ByteArray.size_append]
    rw [hJs]
    clear hb hR hxx hTT hB hAA hJs
    by_cases h24 : T.size + A.size + f.size ≤ 24
    · rw [if_pos (by simpa using h24)]
      go_enter Try.func16, Try.ntmps16
      go_wp2_with fail
      refine (HR.out _).mono ?_
      rintro e w1 ⟨rfl, hb1⟩
      go_wp2_with fail
      refine (HL.out _).mono ?_
      rintro e w2 ⟨rfl, rfl⟩
      go_wp2_with fail
      refine (HE.out _).mono ?_
      rintro e w3 ⟨rfl, rfl⟩
      go_wp2_with fail
      refine (CT.out _).mono ?_
      rintro e w4 ⟨rfl, rfl⟩
      go_wp2
      go_ret2
      exact ⟨ret_str_bool HJ.out, hb1⟩
    · rw [if_neg (by simpa using h24)]
      go_enter Try.func16, Try.ntmps16
      go_wp2_with fail
      refine (HR.out _).mono ?_
      rintro e w1 ⟨rfl, hb1⟩
      go_wp2_with fail
      refine (HL.out _).mono ?_
      rintro e w2 ⟨rfl, rfl⟩
      go_wp2_with fail
      refine (HE.out _).mono ?_
      rintro e w3 ⟨rfl, rfl⟩
      go_wp2_with fail
      refine (CT.out _).mono ?_
      rintro e w4 ⟨rfl, rfl⟩
      go_wp2
      go_ret2
      exact ⟨rfl, hb1⟩

/-- The words that give a spelling. -/
def splitL (s f : List UInt8) : List (List UInt8) :=
  if (Pl.wordB s && Pl.wordB f) = true then (if Lib.hasSuffix s f = true then (Pl.candsTo (Lib.trimSuffix s f) f 7).mergeSort (fun x y => decide (x ≤ y)) else []) else []
theorem splitL_len (s f : List UInt8) : (splitL s f).length ≤ 7 := by
  unfold splitL
  split
  · split
    · rw [List.length_mergeSort]; exact Pl.candsTo_len _ _ _
    · exact Nat.zero_le _
  · exact Nat.zero_le _
set_option maxHeartbeats 4000000 in
theorem SplitSuffix_any (s f : ByteArray) (w : World) (hs : s.size ≤ 1048600) (hf : f.size ≤ 1048600) :
    Calls Try.prog 12 #[.string s, .string f] w fun e w' => (∃ v, e = .returned (.tuple #[v, .bool (Pl.wordB s.data.toList && Pl.wordB f.data.toList)]) ∧
      w'.ownsRow w.heap.size 9 1 v (splitL s.data.toList f.data.toList).length ((splitL s.data.toList f.data.toList).map encStr)) ∧ Below w.heap.size w w' := by
  obtain ⟨i0, hi, hz0, hz1, hz2⟩ := info_parts infoStr9
  have HW1 := Lib.hid (fun w => IsWord_any s w (by unfold maxLen; omega))
  have HW2 := Lib.hid (fun w => IsWord_any f w (by unfold maxLen; omega))
  unfold splitL
  cases hw1 : Pl.wordB s.data.toList
  · rw [hw1] at HW1
    rw [Bool.false_and, if_neg (by decide)]
    clear hw1
    go_enter Try.func12, Try.ntmps12
    go_wp2_with fail
    refine (HW1.out _).mono ?_
    rintro e w' ⟨rfl, rfl⟩
    go_wp2
    go_ret2
    exact ⟨⟨_, rfl, World.ownsRow_nil _ _ _ _⟩, Below.refl _ _⟩
  rw [hw1] at HW1
  rw [Bool.true_and]
  cases hw2 : Pl.wordB f.data.toList
  · rw [hw2] at HW2
    rw [if_neg (by decide)]
    clear hw1 hw2
    go_enter Try.func12, Try.ntmps12
    go_wp2_with fail
    refine (HW1.out _).mono ?_
    rintro e w' ⟨rfl, rfl⟩
    go_wp2_with fail
    refine (HW2.out _).mono ?_
    rintro e w' ⟨rfl, rfl⟩
    go_wp2
    go_ret2
    exact ⟨⟨_, rfl, World.ownsRow_nil _ _ _ _⟩, Below.refl _ _⟩
  rw [hw2] at HW2
  rw [if_pos rfl]
  obtain ⟨hs1, hs2⟩ := wordB_size hw1
  have HWF := Lib.hid hw2
  have hst := trim_size s f
  have CC := Lib.hid (fun w => Try.strings_CutSuffix s f w (by omega))
  cases hsuf : Lib.hasSuffix s.data.toList f.data.toList
  · rw [hsuf] at CC
    rw [if_neg (by decide)]
    clear hw1 hw2 hsuf
    go_enter Try.func12, Try.ntmps12
    go_wp2_with fail
    refine (HW1.out _).mono ?_
    rintro e w' ⟨rfl, rfl⟩
    go_wp2_with fail
    refine (HW2.out _).mono ?_
    rintro e w' ⟨rfl, rfl⟩
    go_wp2_with fail
    refine (CC.out _).mono ?_
    rintro e w' ⟨rfl, rfl⟩
    go_wp2
    go_ret2
    exact ⟨⟨_, rfl, World.ownsRow_nil _ _ _ _⟩, Below.refl _ _⟩
  rw [hsuf] at CC
  rw [if_pos rfl]
  obtain ⟨st, hstt⟩ : ∃ st : ByteArray, st = ⟨(Lib.trimSuffix s.data.toList f.data.toList).toArray⟩ := ⟨_, rfl⟩
  have hsd : Lib.trimSuffix s.data.toList f.data.toList = st.data.toList := by rw [hstt]
  rw [← hstt] at CC hst
  rw [hsd]
  have HL := Lib.hid (fun w => lastLetter_any st w (by omega))
  have hx := lastB_size st
  obtain ⟨x, hxx⟩ : ∃ x, x = lastB st := ⟨_, rfl⟩
  rw [← hxx] at HL hx
  have HCand : Hid (∀ (k : Nat) (t : ByteArray) (b : Bool), t = ⟨(Lib.trimSuffix st.data.toList (aftB k x).data.toList).toArray⟩ → b = Lib.hasSuffix st.data.toList (aftB k x).data.toList →
      Pl.candI st.data.toList f.data.toList k = if (b && (Pl.wordB (t ++ befB k x).data.toList && decide (Pl.rule (t ++ befB k x).data.toList f.data.toList = k))) = true then some (t ++ befB k x).data.toList else none) := by
    rintro k t b rfl rfl
    rw [hxx]
    unfold Pl.candI
    rw [ext_snoc]
    rfl
  clear hw1 hw2 hsuf hstt hsd hxx
  go_enter Try.func12, Try.ntmps12
  go_wp2_with fail
  refine (HW1.out _).mono ?_
  rintro e w' ⟨rfl, rfl⟩
  go_wp2_with fail
  refine (HW2.out _).mono ?_
  rintro e w' ⟨rfl, rfl⟩
  go_wp2_with fail
  refine (CC.out _).mono ?_
  rintro e w ⟨rfl, rfl⟩
  go_wp2_with fail
  go_loopw [8, 9] (fun v i wr => ∃ (k : Nat) (zs : List (List UInt8)), k ≤ 7 ∧ i = .int .i64 k ∧ Hid (zs = Pl.candsTo st.data.toList f.data.toList k) ∧ zs.length ≤ k ∧ wr.ownsRow w.heap.size 9 1 v zs.length (zs.map encStr) ∧ Below w.heap.size w wr) (fun _ i _ => 7 - (intOf i).toNat)
  case atStart => exact ⟨0, [], by omega, rfl, Lib.hid rfl, Nat.le_refl _, World.ownsRow_nil _ _ _ _, Below.refl _ _⟩
  case round =>
    obtain ⟨k, zs, hk, rfl, HZ, hzl, hown0, hbel⟩ := hrel
    have HO0 := Lib.hid hown0
    have HBel := Lib.hid hbel
    clear hown0 hbel
    by_cases hlt : k < 7
    · have HE := Lib.hid (fun w => endingsOf_any k x w (by omega) hx)
      have hB := befB_size k x hx
      have hT := trim_size st (aftB k x)
      have CT := Lib.hid (fun w => Try.strings_CutSuffix st (aftB k x) w (by omega))
      have hcand := HCand.out k _ _ rfl rfl
      obtain ⟨T, hTT⟩ : ∃ T : ByteArray, T = ⟨(Lib.trimSuffix st.data.toList (aftB k x).data.toList).toArray⟩ := ⟨_, rfl⟩
      obtain ⟨b, hb⟩ : ∃ b, b = Lib.hasSuffix st.data.toList (aftB k x).data.toList := ⟨_, rfl⟩
      rw [← hTT] at hT CT hcand
      rw [← hb] at CT hcand
      obtain ⟨B, hBB⟩ : ∃ B, B = befB k x := ⟨_, rfl⟩
      obtain ⟨A, hAA⟩ : ∃ A, A = aftB k x := ⟨_, rfl⟩
      rw [← hBB] at hcand hB
      rw [← hBB, ← hAA] at HE
      rw [← hAA] at CT
      have hwd : (T ++ B).size ≤ 26 := by simp only [ByteArray.size_append]; omega
      have HR := Lib.hid (fun w => SuffixRule_any (T ++ B) f w (by omega) hf)
      have HJ : Hid (T ++ B = T ++ B) := Lib.hid rfl
      unfold ruleE at HR
      rw [HWF.out, Bool.and_true] at HR
      obtain ⟨W, hWW⟩ : ∃ W, W = T ++ B := ⟨_, rfl⟩
      have hrl := Pl.rule_le (T ++ B).data.toList f.data.toList
      rw [← hWW] at hcand HR hwd hrl
      have HN : Hid (∀ c, Pl.candI st.data.toList f.data.toList k = c → zs ++ c.toList = Pl.candsTo st.data.toList f.data.toList (k + 1)) := by
        rintro c rfl
        rw [Pl.candsTo_succ, ← HZ.out]
      obtain ⟨ww, hww⟩ : ∃ b, b = Pl.wordB W.data.toList := ⟨_, rfl⟩
      obtain ⟨R, hRR⟩ : ∃ R, R = Pl.rule W.data.toList f.data.toList := ⟨_, rfl⟩
      rw [← hww, ← hRR] at hcand
      rw [← hww, ← hRR] at HR
      rw [← hRR] at hrl
      have HWW := Lib.hid hWW
      have HC := Lib.hid hcand
      clear hTT hb hBB hAA hww hRR hWW hcand
      go_wp2_with fail
      refine (HL.out _).mono ?_
      rintro e w1 ⟨rfl, rfl⟩
      go_wp2_with fail
      refine (HE.out _).mono ?_
      rintro e w1 ⟨rfl, rfl⟩
      go_wp2_with fail
      refine (CT.out _).mono ?_
      rintro e w1 ⟨rfl, rfl⟩
      go_wp2_with fail
      rw [← HWW.out]
      refine (HR.out _).mono ?_
      rintro e w2 ⟨rfl, hb2⟩
      have hb02 : Below w.heap.size w w2 := HBel.out.trans (hb2.mono HBel.out.size)
      have HO2 := Lib.hid (rowS_below HO0.out hb2)
      have HB2 := Lib.hid hb02
      clear hb2 hb02 HO0 HBel
      cases b
      · have HZ' : Hid (zs = Pl.candsTo st.data.toList f.data.toList (k + 1)) := Lib.hid (by rw [← HN.out none (by rw [HC.out]; rfl)]; simp)
        clear HN HC HZ
        cases ww
        · go_wp2
          go_roundw
          case rel => exact ⟨k + 1, zs, by omega, by go_num, HZ', by omega, HO2.out, HB2.out⟩
          case measure => simp [intOf]; omega
        · go_wp2
          go_roundw
          case rel => exact ⟨k + 1, zs, by omega, by go_num, HZ', by omega, HO2.out, HB2.out⟩
          case measure => simp [intOf]; omega
      cases ww
      · have HZ' : Hid (zs = Pl.candsTo st.data.toList f.data.toList (k + 1)) := Lib.hid (by rw [← HN.out none (by rw [HC.out]; rfl)]; simp)
        clear HN HC HZ
        go_wp2
        go_roundw
        case rel => exact ⟨k + 1, zs, by omega, by go_num, HZ', by omega, HO2.out, HB2.out⟩
        case measure => simp [intOf]; omega
      by_cases hRk : R = k
      · have HZ' : Hid (zs ++ [W.data.toList] = Pl.candsTo st.data.toList f.data.toList (k + 1)) := Lib.hid (by rw [← HN.out (some W.data.toList) (by rw [HC.out, hRk]; simp)]; simp)
        subst hRk
        clear HN HC HZ
        have hown := HO2.out
        have hb2 := HB2.out
        go_wp2_with (at_builtin; refine wpList_append_own _ rfl _ _ 26 rfl w.heap.size 9 i0 (.string ByteArray.empty) 1 16 Try.underlying26 hi hz0 hz1 hz2 rfl (by decide) _ _ _ rfl (hown.alloc _) ⟨w2.heap.size, 0, none⟩ 1 1 [.string W] rfl rfl ?c1 ?c2 ?c3 ?c4 ?c5 ?_)
        case c1 => exact cell_one_new _ _ _
        case c2 => intro y hy; simp at hy; subst hy; rfl
        case c3 => unfold maxLen; omega
        case c4 => have := hb2.size; omega
        case c5 => have := hb2.size; simp; omega
        intro v' w4 hown' hgrow _
        have hbw : Below w.heap.size w2 w4 := ((Below.refl _ _).alloc hb2.size _).grown hgrow (by simp; have := hb2.size; omega) fun j hj => own_ge hown hj
        have HO : Hid (w4.ownsRow w.heap.size 9 1 v' (zs ++ [W.data.toList]).length ((zs ++ [W.data.toList]).map encStr)) := by
          rw [List.length_append, List.map_append]
          show w4.ownsRow _ _ _ _ _ (zs.map encStr ++ [.string ⟨W.data.toList.toArray⟩])
          rw [show (⟨W.data.toList.toArray⟩ : ByteArray) = W from by simp]; exact hown'
        have HB4 : Hid (Below w.heap.size w w4) := hb2.trans hbw
        clear hown hown' hgrow hbw hb2 HO2 HB2
        go_wp2
        go_roundw
        case rel => exact ⟨R + 1, zs ++ [W.data.toList], by omega, by go_num, HZ', by simp; omega, HO.out, HB4.out⟩
        case measure => simp [intOf]; omega
      · have hne : ((R : Int) == (k : Int)) = false := by simp; omega
        have HZ' : Hid (zs = Pl.candsTo st.data.toList f.data.toList (k + 1)) := Lib.hid (by rw [← HN.out none (by rw [HC.out, decide_eq_false hRk]; rfl)]; simp)
        clear HN HC HZ
        go_wp2
        go_roundw
        case rel => exact ⟨k + 1, zs, by omega, by go_num, HZ', by omega, HO2.out, HB2.out⟩
        case measure => simp [intOf]; omega
    · obtain rfl : k = 7 := by omega
      have hsl : (zs.mergeSort fun x y => decide (x ≤ y)).length = zs.length := by rw [List.length_mergeSort]
      rcases HO0.out.2 with ⟨hv, hn0⟩ | ⟨g, cap, cur, hv, hbase, hb, h1, h2, h3, h4⟩
      · have hz0 : zs = [] := List.length_eq_zero_iff.1 hn0
        have CS := Lib.hid (fun w => Try.slices_Sort_string_none none 0 w)
        have HZ' : Hid ((Pl.candsTo st.data.toList f.data.toList 7).mergeSort (fun x y => decide (x ≤ y)) = []) := Lib.hid (by rw [← HZ.out, hz0]; simp)
        subst hv
        clear hsl hz0 hn0 HZ HO0
        go_wp2_with fail
        refine (CS.out _).mono ?_
        rintro e w1 ⟨rfl, rfl⟩
        go_wp2
        go_ret2
        rw [HZ'.out]
        exact ⟨⟨_, rfl, World.ownsRow_nil _ _ _ _⟩, HBel.out⟩
      · subst hv
        have hglt : g < wr.heap.size := (Array.getElem?_eq_some_iff.1 hb).1
        have CS := Lib.hid (Try.slices_Sort_string g 0 cap zs wr (holds_of_block hb (by simpa using h4)) hglt (by omega))
        have HS : Hid (∀ n os, (grow (putRow encStr (Sort.ahead wr n) g 0 (zs.mergeSort fun x y => decide (x ≤ y)).toArray) os).ownsRow w.heap.size 9 1 (.slice (some ⟨g, 0, none⟩) zs.length cap) zs.length ((zs.mergeSort fun x y => decide (x ≤ y)).map encStr)) :=
          fun n os => ownsRow_sorted hsl hbase hb h1 h2 h3
        have HG : Hid (∀ n os, Below w.heap.size w (grow (putRow encStr (Sort.ahead wr n) g 0 (zs.mergeSort fun x y => decide (x ≤ y)).toArray) os)) :=
          fun n os => HBel.out.grown (grownBy_sorted _) HBel.out.size (fun j hj => by cases hj; exact hbase)
        have HSL := Lib.hid hsl
        clear hb h1 h2 h3 h4 hsl HO0
        go_wp2_with fail
        refine CS.out.mono ?_
        rintro e w1 ⟨rfl, nn, os, rfl⟩
        have HS1 := Lib.hid (HS.out nn os)
        have HG1 := Lib.hid (HG.out nn os)
        clear HS HG CS
        go_wp2
        go_ret2
        rw [← HZ.out, HSL.out]
        exact ⟨⟨_, rfl, HS1.out⟩, HG1.out⟩
end Go.Proofs.Ytagbffnabjngfaa
