/-
  CONTRACTS of chapter 9 of the specification: IsWord, VowelGroups, SuffixRule, JoinSuffix, SplitSuffix; and that its words are the program's.
-/
import Derived.Test.YtagbffnabjngfaaTry9
import Derived.Test.YtagbffnabjngfaaJoin9
namespace Go.Proofs.Ytagbffnabjngfaa
set_option maxRecDepth 100000
open Go.RowKit
open Pl (try9)

/-- The specification's words, step by step, over what its tests tell. -/
def oAB (s f : ByteArray) (nz : Bool) (o : List (List UInt8)) : List (List UInt8) :=
  if nz = true then try9 f.data.toList s.data.toList (try9 f.data.toList s.data.toList o ((s.extract 0 (s.size - f.size)).extract 0 ((s.extract 0 (s.size - f.size)).size - 1)).data.toList) ((s.extract 0 (s.size - f.size)).extract 0 ((s.extract 0 (s.size - f.size)).size - 1) ++ ⟨#[121]⟩).data.toList else o
def o1B (s f : ByteArray) (c0 nz : Bool) : List (List UInt8) :=
  if c0 = true then oAB s f nz (try9 f.data.toList s.data.toList (try9 f.data.toList s.data.toList [] (s.extract 0 (s.size - f.size)).data.toList) (s.extract 0 (s.size - f.size) ++ ⟨#[101]⟩).data.toList) else []
def o2B (s f : ByteArray) (c : Bool) (o : List (List UInt8)) : List (List UInt8) := if c = true then try9 f.data.toList s.data.toList o (s.extract 0 (s.size - 2)).data.toList else o
def o3B (s f : ByteArray) (c : Bool) (o : List (List UInt8)) : List (List UInt8) := if c = true then try9 f.data.toList s.data.toList o (s.extract 0 (s.size - 3) ++ ⟨#[121]⟩).data.toList else o
def o4B (s f : ByteArray) (c : Bool) (o : List (List UInt8)) : List (List UInt8) := if c = true then try9 f.data.toList s.data.toList o (s.extract 0 (s.size - 4) ++ ⟨#[105, 101]⟩).data.toList else o
def specB (s f : ByteArray) (c0 nz q e1 e2 g e3 : Bool) : List (List UInt8) := o4B s f (g && e3) (o3B s f (q && e2) (o2B s f (q && e1) (o1B s f c0 nz)))

/-- Ascending, and each joins to the spelling. -/
def GoodL (F S : List UInt8) (l : List (List UInt8)) : Prop := Pl.Asc l ∧ ∀ x ∈ l, Pl.wordB x = true ∧ Pl.join9 x F = S
theorem GoodL.nil (F S : List UInt8) : GoodL F S [] := ⟨List.Pairwise.nil, fun x hx => by cases hx⟩
theorem GoodL.step {F S : List UInt8} {l : List (List UInt8)} (h : GoodL F S l) (d : List UInt8) : GoodL F S (try9 F S l d) := by
  unfold Pl.try9
  split
  · rename_i hc
    rw [Bool.and_eq_true, decide_eq_true_eq] at hc
    refine ⟨Pl.asc_ins d l h.1, fun x hx => ?_⟩
    rcases (Pl.mem_ins d x l).1 hx with rfl | hx
    · exact hc
    · exact h.2 x hx
  · exact h
theorem GoodL.ite {F S : List UInt8} {a b : List (List UInt8)} (c : Prop) [Decidable c] (ha : GoodL F S a) (hb : GoodL F S b) : GoodL F S (if c then a else b) := by split; exact ha; exact hb
theorem mem_old {F S : List UInt8} {l : List (List UInt8)} {x : List UInt8} (h : x ∈ l) (d : List UInt8) : x ∈ try9 F S l d := by
  unfold Pl.try9
  split
  · exact (Pl.mem_ins d x l).2 (.inr h)
  · exact h
theorem mem_new {F S d : List UInt8} (l : List (List UInt8)) (h1 : Pl.wordB d = true) (h2 : Pl.join9 d F = S) : d ∈ try9 F S l d := by
  unfold Pl.try9
  rw [if_pos (by rw [h1, decide_eq_true h2]; rfl)]
  exact (Pl.mem_ins d d l).2 (.inl rfl)
theorem mem_ite {F S : List UInt8} {l : List (List UInt8)} {x : List UInt8} (c : Prop) [Decidable c] (h : x ∈ l) (d : List UInt8) : x ∈ (if c then try9 F S l d else l) := by
  split
  · exact mem_old h d
  · exact h
theorem specB_good (s f : ByteArray) (c0 nz q e1 e2 g e3 : Bool) : GoodL f.data.toList s.data.toList (specB s f c0 nz q e1 e2 g e3) := by
  have hA : ∀ o, GoodL f.data.toList s.data.toList o → GoodL f.data.toList s.data.toList (oAB s f nz o) := fun o h => by unfold oAB; exact .ite _ ((h.step _).step _) h
  have h1 : GoodL f.data.toList s.data.toList (o1B s f c0 nz) := by unfold o1B; exact .ite _ (hA _ (((GoodL.nil _ _).step _).step _)) (.nil _ _)
  have h2 : ∀ c o, GoodL f.data.toList s.data.toList o → GoodL f.data.toList s.data.toList (o2B s f c o) := fun c o h => by unfold o2B; exact .ite _ (h.step _) h
  have h3 : ∀ c o, GoodL f.data.toList s.data.toList o → GoodL f.data.toList s.data.toList (o3B s f c o) := fun c o h => by unfold o3B; exact .ite _ (h.step _) h
  have h4 : ∀ c o, GoodL f.data.toList s.data.toList o → GoodL f.data.toList s.data.toList (o4B s f c o) := fun c o h => by unfold o4B; exact .ite _ (h.step _) h
  exact h4 _ _ (h3 _ _ (h2 _ _ h1))
theorem hasSuf_app (x p : List UInt8) : Lib.hasSuffix (x ++ p) p = true := (Pl.suffix_iff _ _).2 ⟨x, rfl⟩
/-- Whatever joins to the spelling is among them. -/
theorem specB_all (s f : ByteArray) (w : List UInt8) (hw : Pl.wordB w = true) (hj : Pl.join9 w f.data.toList = s.data.toList) :
    w ∈ specB s f (Lib.hasSuffix s.data.toList f.data.toList) (decide (0 < (s.extract 0 (s.size - f.size)).size)) (decide (f.data.toList = [115])) (Lib.hasSuffix s.data.toList [101, 115]) (Lib.hasSuffix s.data.toList [105, 101, 115]) (decide (f.data.toList = [105, 110, 103])) (Lib.hasSuffix s.data.toList [121, 105, 110, 103]) := by
  have hls : s.data.toList.length = s.size := by simp
  have hlf : f.data.toList.length = f.size := by simp
  obtain ⟨x, hx⟩ := Pl.bef_suffix w f.data.toList
  have hje := Pl.join_eq hx
  rw [hj] at hje
  have hc0 : Lib.hasSuffix s.data.toList f.data.toList = true := by rw [hje]; exact hasSuf_app _ _
  have hst : (s.extract 0 (s.size - f.size)).data.toList = x ++ Pl.aft (Pl.rule w f.data.toList) (Pl.lastL w) := by
    have e := congrArg List.length hje
    rw [List.length_append, hls, hlf] at e
    rw [ext_take s _ (by omega), hje, List.take_append_of_le_length (by omega), List.take_of_length_le (by omega)]
  obtain ⟨st, hstt⟩ : ∃ st, st = s.extract 0 (s.size - f.size) := ⟨_, rfl⟩
  rw [← hstt] at hst
  have hlst : st.data.toList.length = st.size := by simp
  have cutS : ∀ (k : Nat) (p y : List UInt8), s.data.toList = y ++ p → p.length = k → (s.extract 0 (s.size - k)).data.toList = y := by
    intro k p y h hp
    have e := congrArg List.length h
    rw [List.length_append, hls, hp] at e
    rw [ext_take s _ (by omega), h, List.take_append_of_le_length (by omega), List.take_of_length_le (by omega)]
  have cut1 : ∀ (c : UInt8) (y : List UInt8), st.data.toList = y ++ [c] → 0 < st.size ∧ (st.extract 0 (st.size - 1)).data.toList = y := by
    intro c y h
    have e := congrArg List.length h
    rw [List.length_append, hlst, List.length_singleton] at e
    exact ⟨by omega, by rw [ext_take st _ (by omega), h, List.take_append_of_le_length (by omega), List.take_of_length_le (by omega)]⟩
  have u4 : ∀ c o, w ∈ o → w ∈ o4B s f c o := fun c o h => mem_ite _ h _
  have u3 : ∀ c o, w ∈ o → w ∈ o3B s f c o := fun c o h => mem_ite _ h _
  have u2 : ∀ c o, w ∈ o → w ∈ o2B s f c o := fun c o h => mem_ite _ h _
  have uA : ∀ c o, w ∈ o → w ∈ oAB s f c o := by
    intro c o h
    unfold oAB
    split
    · exact mem_old (mem_old h _) _
    · exact h
  rw [hc0]
  unfold specB
  obtain ⟨t1, t2, t3, t4, t5, t6⟩ := Pl.rule_tells w f.data.toList
  rcases Pl.rule_cases w f.data.toList with e | e | e | e | e | e | e
  · rw [e] at hst hx
    have : w = st.data.toList := by rw [hst, hx]; simp [Pl.bef, Pl.aft]
    refine u4 _ _ (u3 _ _ (u2 _ _ ?_))
    unfold o1B
    rw [if_pos rfl]
    refine uA _ _ (mem_old ?_ _)
    rw [← hstt, ← this]
    exact mem_new _ hw hj
  · obtain ⟨hf, -⟩ := t1 e
    rw [e] at hx hje
    have hx : w = x ++ [121] := hx
    have hs2 : s.data.toList = x ++ [105, 101, 115] := by rw [hje, hf]; simp [Pl.aft]
    have hcut := cutS 3 _ _ hs2 rfl
    have hd : (s.extract 0 (s.size - 3) ++ ⟨#[121]⟩).data.toList = w := by rw [ext_snoc, hcut, hx]
    refine u4 _ _ ?_
    unfold o3B
    rw [if_pos (by rw [hs2, hasSuf_app, hf]; rfl), hd]
    exact mem_new _ hw hj
  · have hf := t2 e
    rw [e] at hx hje
    have hx : w = x := by rw [hx]; simp [Pl.bef]
    have hs2 : s.data.toList = x ++ [101, 115] := by rw [hje, hf]; simp [Pl.aft]
    have hcut := cutS 2 _ _ hs2 rfl
    refine u4 _ _ (u3 _ _ ?_)
    unfold o2B
    rw [if_pos (by rw [hs2, hasSuf_app, hf]; rfl), hcut, ← hx]
    exact mem_new _ hw hj
  · obtain ⟨hf, -⟩ := t3 e
    rw [e] at hx hje
    have hx : w = x ++ [105, 101] := hx
    have hs2 : s.data.toList = x ++ [121, 105, 110, 103] := by rw [hje, hf]; simp [Pl.aft]
    have hcut := cutS 4 _ _ hs2 rfl
    have hd : (s.extract 0 (s.size - 4) ++ ⟨#[105, 101]⟩).data.toList = w := by rw [ext_snoc, hcut, hx]
    unfold o4B
    rw [if_pos (by rw [hs2, hasSuf_app, hf]; rfl), hd]
    exact mem_new _ hw hj
  · rw [e] at hst hx
    have hx : w = x ++ [121] := hx
    have hst2 : st.data.toList = x ++ [105] := by rw [hst]; rfl
    obtain ⟨h0, hcut⟩ := cut1 _ _ hst2
    have hd : (st.extract 0 (st.size - 1) ++ ⟨#[121]⟩).data.toList = w := by rw [ext_snoc, hcut, hx]
    refine u4 _ _ (u3 _ _ (u2 _ _ ?_))
    unfold o1B oAB
    rw [if_pos rfl, ← hstt, if_pos (by simpa using h0), hd]
    exact mem_new _ hw hj
  · rw [e] at hst hx
    have hx : w = x ++ [101] := hx
    have hst2 : st.data.toList = x := by rw [hst]; simp [Pl.aft]
    have hd : (st ++ ⟨#[101]⟩).data.toList = w := by rw [ext_snoc, hst2, hx]
    refine u4 _ _ (u3 _ _ (u2 _ _ ?_))
    unfold o1B
    rw [if_pos rfl]
    refine uA _ _ ?_
    rw [← hstt, hd]
    exact mem_new _ hw hj
  · rw [e] at hst hx
    obtain ⟨c, hc⟩ := Pl.lastL_one (l := w) (by have := t6 e; omega)
    rw [hc] at hst hx
    have hx : w = x ++ [c] := hx
    have hst2 : st.data.toList = w ++ [c] := by rw [hst, hx]; simp [Pl.aft]
    obtain ⟨h0, hcut⟩ := cut1 _ _ hst2
    refine u4 _ _ (u3 _ _ (u2 _ _ ?_))
    unfold o1B oAB
    rw [if_pos rfl, ← hstt, if_pos (by simpa using h0), hcut]
    exact mem_old (mem_new _ hw hj) _
/-- BOTH SPLITS GIVE THE SAME WORDS. -/
theorem specB_eq (s f : ByteArray) (hs : Pl.wordB s.data.toList = true) (hf : Pl.wordB f.data.toList = true) :
    specB s f (Lib.hasSuffix s.data.toList f.data.toList) (decide (0 < (s.extract 0 (s.size - f.size)).size)) (decide (f.data.toList = [115])) (Lib.hasSuffix s.data.toList [101, 115]) (Lib.hasSuffix s.data.toList [105, 101, 115]) (decide (f.data.toList = [105, 110, 103])) (Lib.hasSuffix s.data.toList [121, 105, 110, 103]) = splitL s.data.toList f.data.toList := by
  have hg := specB_good s f (Lib.hasSuffix s.data.toList f.data.toList) (decide (0 < (s.extract 0 (s.size - f.size)).size)) (decide (f.data.toList = [115])) (Lib.hasSuffix s.data.toList [101, 115]) (Lib.hasSuffix s.data.toList [105, 101, 115]) (decide (f.data.toList = [105, 110, 103])) (Lib.hasSuffix s.data.toList [121, 105, 110, 103])
  have ha := specB_all s f
  unfold splitL
  rw [hs, hf, if_pos (show (true && true) = true from rfl)]
  cases hsuf : Lib.hasSuffix s.data.toList f.data.toList
  · rw [if_neg (by decide)]
    refine Pl.asc_unique (hsuf ▸ hg.1) List.Pairwise.nil fun x => ⟨fun hx => ?_, fun hx => by cases hx⟩
    have h := (hsuf ▸ hg.2) x hx
    obtain ⟨y, hy⟩ := Pl.bef_suffix x f.data.toList
    have hje := Pl.join_eq hy
    rw [h.2] at hje
    rw [hje, hasSuf_app] at hsuf
    cases hsuf
  · rw [if_pos rfl]
    have hst : s.data.toList = Lib.trimSuffix s.data.toList f.data.toList ++ f.data.toList := by
      obtain ⟨y, hy⟩ := (Pl.suffix_iff _ _).1 hsuf
      rw [hy, Pl.trim_app]
    refine Pl.asc_unique (hsuf ▸ hg.1) (Pl.sort_asc (Pl.nodup_cands _ _ _)) fun x => ?_
    rw [Pl.mem_sort, Pl.mem_cands, ← hst]
    exact ⟨fun hx => (hsuf ▸ hg.2) x hx, fun hx => hsuf ▸ ha x hx.1 hx.2⟩

theorem specIsWord_any (s : ByteArray) (w : World) (hs : s.size ≤ maxLen) :
    Calls Try.prog 15 #[.string s] w fun e w' => e = .returned (.bool (Pl.wordB s.data.toList)) ∧ w' = w := by
  have C := Lib.hid (fun w => l9Word_any s w hs)
  clear hs
  go_enter Try.func15, Try.ntmps15
  go_wp2_with fail
  refine (C.out _).mono ?_
  rintro e w' ⟨rfl, rfl⟩
  go_wp2
  go_ret
  exact ⟨rfl, rfl⟩
theorem specVowelGroups_any (s : ByteArray) (w : World) (hs : s.size ≤ maxLen) :
    Calls Try.prog 25 #[.string s] w fun e w' => e = grpE s ∧ w' = w := by
  have C := Lib.hid (fun w => l9Word_any s w hs)
  have G := Lib.hid (fun w => l9Groups_any s w hs)
  unfold grpE
  cases hw : Pl.wordB s.data.toList
  · rw [hw] at C
    rw [if_neg (by decide)]
    clear hw
    go_enter Try.func25, Try.ntmps25
    go_wp2_with fail
    refine (C.out _).mono ?_
    rintro e w' ⟨rfl, rfl⟩
    go_wp2
    go_ret2
    exact ⟨rfl, rfl⟩
  · rw [hw] at C
    rw [if_pos rfl]
    clear hw
    go_enter Try.func25, Try.ntmps25
    go_wp2_with fail
    refine (C.out _).mono ?_
    rintro e w' ⟨rfl, rfl⟩
    go_wp2_with fail
    refine (G.out _).mono ?_
    rintro e w' ⟨rfl, rfl⟩
    go_wp2
    go_ret2
    exact ⟨rfl, rfl⟩
set_option maxHeartbeats 1000000 in
theorem specSuffixRule_any (s f : ByteArray) (w : World) (hs : s.size ≤ 1048600) (hf : f.size ≤ 1048600) :
    Calls Try.prog 22 #[.string s, .string f] w fun e w' => e = ruleE s f ∧ w' = w := by
  have C1 := Lib.hid (fun w => l9Word_any s w (by unfold maxLen; omega))
  have C2 := Lib.hid (fun w => l9Word_any f w (by unfold maxLen; omega))
  unfold ruleE
  cases hw1 : Pl.wordB s.data.toList
  · rw [hw1] at C1
    rw [Bool.false_and, if_neg (by decide)]
    clear hw1
    go_enter Try.func22, Try.ntmps22
    go_wp2_with fail
    refine (C1.out _).mono ?_
    rintro e w' ⟨rfl, rfl⟩
    go_wp2
    go_ret2
    exact ⟨rfl, rfl⟩
  rw [hw1] at C1
  rw [Bool.true_and]
  cases hw2 : Pl.wordB f.data.toList
  · rw [hw2] at C2
    rw [if_neg (by decide)]
    clear hw1 hw2
    go_enter Try.func22, Try.ntmps22
    go_wp2_with fail
    refine (C1.out _).mono ?_
    rintro e w' ⟨rfl, rfl⟩
    go_wp2_with fail
    refine (C2.out _).mono ?_
    rintro e w' ⟨rfl, rfl⟩
    go_wp2
    go_ret2
    exact ⟨rfl, rfl⟩
  rw [hw2] at C2
  rw [if_pos rfl]
  have hf1 := (wordB_size hw2).1
  have CR := Lib.hid (fun w => l9Rule_any s f w (by unfold maxLen; omega) (by unfold maxLen; omega) hf1)
  clear hw1 hw2
  go_enter Try.func22, Try.ntmps22
  go_wp2_with fail
  refine (C1.out _).mono ?_
  rintro e w' ⟨rfl, rfl⟩
  go_wp2_with fail
  refine (C2.out _).mono ?_
  rintro e w' ⟨rfl, rfl⟩
  go_wp2_with fail
  refine (CR.out _).mono ?_
  rintro e w' ⟨rfl, rfl⟩
  go_wp2
  go_ret2
  exact ⟨rfl, rfl⟩
set_option maxHeartbeats 1000000 in
theorem specJoinSuffix_any (s f : ByteArray) (w : World) (hs : s.size ≤ 1048600) (hf : f.size ≤ 1048600) :
    Calls Try.prog 19 #[.string s, .string f] w fun e w' => e = joinE s f ∧ w' = w := by
  have C1 := Lib.hid (fun w => l9Word_any s w (by unfold maxLen; omega))
  have C2 := Lib.hid (fun w => l9Word_any f w (by unfold maxLen; omega))
  unfold joinE
  cases hw1 : Pl.wordB s.data.toList
  · rw [hw1] at C1
    rw [Bool.false_and, if_neg (by decide)]
    clear hw1
    go_enter Try.func19, Try.ntmps19
    go_wp2_with fail
    refine (C1.out _).mono ?_
    rintro e w' ⟨rfl, rfl⟩
    go_wp2
    go_ret2
    exact ⟨rfl, rfl⟩
  rw [hw1] at C1
  rw [Bool.true_and]
  cases hw2 : Pl.wordB f.data.toList
  · rw [hw2] at C2
    rw [Bool.false_and, if_neg (by decide)]
    clear hw1 hw2
    go_enter Try.func19, Try.ntmps19
    go_wp2_with fail
    refine (C1.out _).mono ?_
    rintro e w' ⟨rfl, rfl⟩
    go_wp2_with fail
    refine (C2.out _).mono ?_
    rintro e w' ⟨rfl, rfl⟩
    go_wp2
    go_ret2
    exact ⟨rfl, rfl⟩
  rw [hw2] at C2
  rw [Bool.true_and]
  obtain ⟨hs1, hs2⟩ := wordB_size hw1
  obtain ⟨hf1, hf2⟩ := wordB_size hw2
  have CR := Lib.hid (fun w => l9Join_any s f w hs hf hs1 hf1)
  obtain ⟨J, hJ⟩ : ∃ J, J = joinB s f := ⟨_, rfl⟩
  rw [← hJ] at CR ⊢
  clear hw1 hw2 hJ
  by_cases h24 : J.size ≤ 24
  · rw [if_pos (by simpa using h24)]
    go_enter Try.func19, Try.ntmps19
    go_wp2_with fail
    refine (C1.out _).mono ?_
    rintro e w' ⟨rfl, rfl⟩
    go_wp2_with fail
    refine (C2.out _).mono ?_
    rintro e w' ⟨rfl, rfl⟩
    go_wp2_with fail
    refine (CR.out _).mono ?_
    rintro e w' ⟨rfl, rfl⟩
    go_wp2
    go_ret2
    exact ⟨rfl, rfl⟩
  · rw [if_neg (by simpa using h24)]
    go_enter Try.func19, Try.ntmps19
    go_wp2_with fail
    refine (C1.out _).mono ?_
    rintro e w' ⟨rfl, rfl⟩
    go_wp2_with fail
    refine (C2.out _).mono ?_
    rintro e w' ⟨rfl, rfl⟩
    go_wp2_with fail
    refine (CR.out _).mono ?_
    rintro e w' ⟨rfl, rfl⟩
    go_wp2
    go_ret2
    exact ⟨rfl, rfl⟩
end Go.Proofs.Ytagbffnabjngfaa
