/-
  CONTRACTS of chapter 9 of the program: JoinSuffix, SplitSuffix.
-/
import Derived.Test.YtnpiphkglhcifaaGreatDoorRule9
import Derived.Sort.OwnSorted
import Derived.Lib.OwnBridge
namespace Go.Proofs.YtnpiphkglhcifaaGreatDoor
set_option maxRecDepth 100000
open Go.RowKit Go.Sort

theorem infoStr9 : (Tryz.prog.info? 9).map (fun i => (i.zero, i.size, i.bytes)) = some (some (.string ByteArray.empty), 1, 16) := by kernel_rfl
theorem wordB_size {s : ByteArray} (h : Pl.wordB s.data.toList = true) : 1 ≤ s.size ∧ s.size ≤ 24 := by
  have e : s.data.toList.length = s.size := by simp
  have := Pl.wordB_ne h
  omega
theorem trim_size (s p : ByteArray) : (⟨(Lib.trimSuffix s.data.toList p.data.toList).toArray⟩ : ByteArray).size ≤ s.size := by
  show (Lib.trimSuffix s.data.toList p.data.toList).toArray.size ≤ s.size
  rw [List.size_toArray]
  have e : s.data.toList.length = s.size := by simp
  unfold Lib.trimSuffix
  split
  · rw [List.length_take]; omega
  · omega
theorem rowS_below {w w' : World} {base : Nat} {e : TypeId} {size : Nat} {v : Value} {n : Nat} {xs : List Value} (h : w.ownsRow base e size v n xs) (hb : Below w.heap.size w w') : w'.ownsRow base e size v n xs := by
  refine ⟨h.1, ?_⟩
  rcases h.2 with h2 | ⟨g, cap, cur, rfl, h1, h2, h3⟩
  · exact .inl h2
  · exact .inr ⟨g, cap, cur, rfl, h1, (hb.block g (Array.getElem?_eq_some_iff.1 h2).1).trans h2, h3⟩
/-- The joined spelling, as an answer. -/
def joinE (s f : ByteArray) : Ending := .returned (if (Pl.wordB s.data.toList && (Pl.wordB f.data.toList && decide ((joinB s f).size ≤ 24))) = true then .tuple #[.string (joinB s f), .bool true] else .tuple #[.string ⟨#[]⟩, .bool false])
set_option maxHeartbeats 2000000 in
theorem JoinSuffix_any (s f : ByteArray) (w : World) (hs : s.size ≤ 1048600) (hf : f.size ≤ 1048600) :
    Calls Tryz.prog 68 #[.string s, .string f] w fun e w' => e = joinE s f ∧ Below w.heap.size w w' := by
  have HR := Lib.hid (fun w => SuffixRule_any s f w hs hf)
  unfold ruleE at HR
  unfold joinE
  cases hb : (Pl.wordB s.data.toList && Pl.wordB f.data.toList)
  · rw [hb, if_neg (by decide)] at HR
    rw [← Bool.and_assoc, hb, Bool.false_and, if_neg (by decide)]
    clear hb
    go_enter Tryz.func68, Tryz.ntmps68
    go_wp2_with fail
    refine (HR.out _).mono ?_
    rintro e w' ⟨rfl, hb1⟩
    go_wp2
    go_ret2
    exact ⟨rfl, hb1⟩
  · rw [hb, if_pos rfl] at HR
    rw [← Bool.and_assoc, hb, Bool.true_and]
    rw [Bool.and_eq_true] at hb
    obtain ⟨hs1, hs2⟩ := wordB_size hb.1
    obtain ⟨hf1, hf2⟩ := wordB_size hb.2
    have hrl := Pl.rule_le s.data.toList f.data.toList
    have HJ : Hid ((⟨(Lib.trimSuffix s.data.toList (befB (Pl.rule s.data.toList f.data.toList) (lastB s)).data.toList).toArray⟩ : ByteArray) ++ aftB (Pl.rule s.data.toList f.data.toList) (lastB s) ++ f = joinB s f) := by
      refine bytes_mk ?_
      rw [ext_snoc, ext_snoc]; rfl
    obtain ⟨R, hR⟩ : ∃ R, R = Pl.rule s.data.toList f.data.toList := ⟨_, rfl⟩
    rw [← hR] at HR hrl HJ
    have HL := Lib.hid (fun w => lastLetter_any s w hs)
    have hx := lastB_size s
    obtain ⟨x, hxx⟩ : ∃ x, x = lastB s := ⟨_, rfl⟩
    rw [← hxx] at HL HJ hx
    have HE := Lib.hid (fun w => endingsOf_any R x w hrl hx)
    have hA := aftB_size R x hx
    have hT := trim_size s (befB R x)
    have CT := Lib.hid (fun w => Tryz.strings_TrimSuffix s (befB R x) w (by omega))
    obtain ⟨T, hTT⟩ : ∃ T : ByteArray, T = ⟨(Lib.trimSuffix s.data.toList (befB R x).data.toList).toArray⟩ := ⟨_, rfl⟩
    rw [← hTT] at hT CT HJ
    obtain ⟨B, hB⟩ : ∃ B, B = befB R x := ⟨_, rfl⟩
    obtain ⟨A, hAA⟩ : ∃ A, A = aftB R x := ⟨_, rfl⟩
    rw [← hAA] at HJ hA
    rw [← hB, ← hAA] at HE
    rw [← hB] at CT
    have hJs : (joinB s f).size = T.size + A.size + f.size := by rw [← HJ.out]; simp only [ByteArray.size_append]
    rw [hJs]
    clear hb hR hxx hTT hB hAA hJs
    by_cases h24 : T.size + A.size + f.size ≤ 24
    · rw [if_pos (by simpa using h24)]
      go_enter Tryz.func68, Tryz.ntmps68
      go_wp2_with fail
      refine (HR.out _).mono ?_
      rintro e w1 ⟨rfl, hb1⟩
      go_wp2_with fail
      refine (HL.out _).mono ?_
      rintro e w2 ⟨rfl, rfl⟩
      go_wp2_with fail
      refine (HE.out _).mono ?_
      rintro e w3 ⟨rfl, rfl⟩
      go_wp2_with fail
      refine (CT.out _).mono ?_
      rintro e w4 ⟨rfl, rfl⟩
      go_wp2
      go_ret2
      exact ⟨ret_str_bool HJ.out, hb1⟩
    · rw [if_neg (by simpa using h24)]
      go_enter Tryz.func68, Tryz.ntmps68
      go_wp2_with fail
      refine (HR.out _).mono ?_
      rintro e w1 ⟨rfl, hb1⟩
      go_wp2_with fail
      refine (HL.out _).mono ?_
      rintro e w2 ⟨rfl, rfl⟩
      go_wp2_with fail
      refine (HE.out _).mono ?_
      rintro e w3 ⟨rfl, rfl⟩
      go_wp2_with fail
      refine (CT.out _).mono ?_
      rintro e w4 ⟨rfl, rfl⟩
      go_wp2
      go_ret2
      exact ⟨rfl, hb1⟩

/-- The words that give a spelling. -/
def splitL (s f : List UInt8) : List (List UInt8) :=
  if (Pl.wordB s && Pl.wordB f) = true then (if Lib.hasSuffix s f = true then (Pl.candsTo (Lib.trimSuffix s f) f 7).mergeSort (fun x y => decide (x ≤ y)) else []) else []
theorem splitL_len (s f : List UInt8) : (splitL s f).length ≤ 7 := by
  unfold splitL
  split
  · split
    · rw [List.length_mergeSort]; exact Pl.candsTo_len _ _ _
    · exact Nat.zero_le _
  · exact Nat.zero_le _
set_option maxHeartbeats 1000000 in
theorem specJoinSuffix_any (s f : ByteArray) (w : World) (hs : s.size ≤ 1048600) (hf : f.size ≤ 1048600) :
    Calls Tryz.prog 47 #[.string s, .string f] w fun e w' => e = joinE s f ∧ w' = w := by
  have C1 := Lib.hid (fun w => l9Word_any s w (by unfold maxLen; omega))
  have C2 := Lib.hid (fun w => l9Word_any f w (by unfold maxLen; omega))
  unfold joinE
  cases hw1 : Pl.wordB s.data.toList
  · rw [hw1] at C1
    rw [Bool.false_and, if_neg (by decide)]
    clear hw1
    go_enter Tryz.func47, Tryz.ntmps47
    go_wp2_with fail
    refine (C1.out _).mono ?_
    rintro e w' ⟨rfl, rfl⟩
    go_wp2
    go_ret2
    exact ⟨rfl, rfl⟩
  rw [hw1] at C1
  rw [Bool.true_and]
  cases hw2 : Pl.wordB f.data.toList
  · rw [hw2] at C2
    rw [Bool.false_and, if_neg (by decide)]
    clear hw1 hw2
    go_enter Tryz.func47, Tryz.ntmps47
    go_wp2_with fail
    refine (C1.out _).mono ?_
    rintro e w' ⟨rfl, rfl⟩
    go_wp2_with fail
    refine (C2.out _).mono ?_
    rintro e w' ⟨rfl, rfl⟩
    go_wp2
    go_ret2
    exact ⟨rfl, rfl⟩
  rw [hw2] at C2
  rw [Bool.true_and]
  obtain ⟨hs1, hs2⟩ := wordB_size hw1
  obtain ⟨hf1, hf2⟩ := wordB_size hw2
  have CR := Lib.hid (fun w => l9Join_any s f w hs hf hs1 hf1)
  obtain ⟨J, hJ⟩ : ∃ J, J = joinB s f := ⟨_, rfl⟩
  rw [← hJ] at CR ⊢
  clear hw1 hw2 hJ
  by_cases h24 : J.size ≤ 24
  · rw [if_pos (by simpa using h24)]
    go_enter Tryz.func47, Tryz.ntmps47
    go_wp2_with fail
    refine (C1.out _).mono ?_
    rintro e w' ⟨rfl, rfl⟩
    go_wp2_with fail
    refine (C2.out _).mono ?_
    rintro e w' ⟨rfl, rfl⟩
    go_wp2_with fail
    refine (CR.out _).mono ?_
    rintro e w' ⟨rfl, rfl⟩
    go_wp2
    go_ret2
    exact ⟨rfl, rfl⟩
  · rw [if_neg (by simpa using h24)]
    go_enter Tryz.func47, Tryz.ntmps47
    go_wp2_with fail
    refine (C1.out _).mono ?_
    rintro e w' ⟨rfl, rfl⟩
    go_wp2_with fail
    refine (C2.out _).mono ?_
    rintro e w' ⟨rfl, rfl⟩
    go_wp2_with fail
    refine (CR.out _).mono ?_
    rintro e w' ⟨rfl, rfl⟩
    go_wp2
    go_ret2
    exact ⟨rfl, rfl⟩
end Go.Proofs.YtnpiphkglhcifaaGreatDoor
