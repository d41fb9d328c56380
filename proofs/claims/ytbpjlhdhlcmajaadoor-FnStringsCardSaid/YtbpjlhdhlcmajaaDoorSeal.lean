/-
  CONTRACTS of AppendChecksum and VerifyChecksum: the program's and the specification's.
-/
import Derived.Test.YtbpjlhdhlcmajaaDoorFmt
import Derived.Test.YtbpjlhdhlcmajaaDoorSums
import Derived.Test.YtbpjlhdhlcmajaaDoorJoin
import Derived.Test.YtbpjlhdhlcmajaaDoorSplit
import Derived.Test.YtbpjlhdhlcmajaaDoorPlainSeal
namespace Go.Proofs.YtbpjlhdhlcmajaaDoor
open Go.RowKit

/-- The sealed text. -/
def sealB (s : ByteArray) : ByteArray := ⟨(Pl.sealT s.data.toList).toArray⟩
/-- What sealing answers. -/
def Seals (s : ByteArray) (J : ByteArray) (b : Bool) : Prop := (Pl.SealOk s ∧ J = sealB s ∧ b = true) ∨ (¬ Pl.SealOk s ∧ J = ⟨#[]⟩ ∧ b = false)
theorem Seals.uniq {s J J' : ByteArray} {b b' : Bool} (h : Seals s J b) (h' : Seals s J' b') : J = J' ∧ b = b' := by
  rcases h with ⟨h1, rfl, rfl⟩ | ⟨h1, rfl, rfl⟩ <;> rcases h' with ⟨h2, rfl, rfl⟩ | ⟨h2, rfl, rfl⟩
  · exact ⟨rfl, rfl⟩
  · exact absurd h1 h2
  · exact absurd h2 h1
  · exact ⟨rfl, rfl⟩
theorem seals_ex (s : ByteArray) : ∃ J b, Seals s J b := by
  by_cases h : Pl.SealOk s
  · exact ⟨_, _, .inl ⟨h, rfl, rfl⟩⟩
  · exact ⟨_, _, .inr ⟨h, rfl, rfl⟩⟩

theorem strs_two (w : World) (s t : ByteArray) : StrsAt (w.alloc (.cells #[.string s, .string t] 9)) (.slice (some ⟨w.heap.size, 0, none⟩) 2 2) [s, t] := by
  refine ⟨_, 2, rfl, Nat.le_refl _, .inr ⟨w.heap.size, 0, rfl, by rw [World.size_alloc]; omega, fun j x hx => ?_⟩⟩
  match j, hx with
  | 0, hx => simp at hx; subst hx; rw [World.cell?_alloc_at _ _ _ _ (by simp)]; rfl
  | 1, hx => simp at hx; subst hx; rw [World.cell?_alloc_at _ _ _ _ (by simp)]; rfl
  | j + 2, hx => simp at hx

set_option maxHeartbeats 1000000 in
theorem AppendChecksum_any (s : ByteArray) (J : ByteArray) (b : Bool) (hJ : Seals s J b) (w : World) (hs : s.size ≤ maxLen) (hT : Pow w) :
    Calls Tryd.prog 16 #[.string s] w fun e w' => e = .returned (.tuple #[.string J, .bool b]) ∧ Below w.heap.size w w' := by
  by_cases h : s.size ≤ 4000
  · have c1 := fun w => Checksum_any s w hs
    rw [if_pos h] at c1
    have C1 := Lib.hid c1
    have hb := Pl.sum_lt s.data.toList
    obtain ⟨n, hn⟩ : ∃ n, n = Pl.sum s.data.toList := ⟨_, rfl⟩
    rw [← hn] at hb C1
    obtain ⟨it, hit⟩ : ∃ it : ByteArray, it = ⟨(Lib.itoa (n : Int)).toArray⟩ := ⟨_, rfl⟩
    have c2 := fun (w1 : World) (hb1 : Below w.heap.size w w1) => Itoa_any (n : Int) (by omega) (by omega) w1 (hT.below hb1)
    rw [← hit] at c2
    have C2 := Lib.hid c2
    have hits : it.size ≤ 6 := by
      rw [hit, hn]; show (Lib.itoa (Pl.sum s.data.toList : Int)).toArray.size ≤ 6
      rw [List.size_toArray]; exact Pl.itoa_len _
    have c3 : ∀ v w, StrsAt w v [s, it] → Calls Tryd.prog 32 #[v, .string ⟨#[35]⟩] w fun e w' => e = .returned (.tuple #[.string J, .bool b]) ∧ Below w.heap.size w w' := by
      intro v w hv
      refine (Join_any v [s, it] 35 w hv (by simp) ?_).mono fun e w' ⟨he, hbl⟩ => ⟨?_, hbl⟩
      · intro x hx
        simp only [List.mem_cons, List.not_mem_nil, or_false] at hx
        rcases hx with rfl | rfl <;> omega
      · have hok := Pl.seal_ok s it (by rw [hit, hn])
        have hj := Pl.seal_join s it (by rw [hit, hn])
        rcases hJ with ⟨h1, rfl, rfl⟩ | ⟨h1, rfl, rfl⟩
        · rw [he.yes (hok.2 h1)]; unfold joined sealB; rw [hj]
        · rw [he.no (fun h => h1 (hok.1 h))]; rfl
    have C3 := Lib.hid c3
    clear c1 c2 c3 hit hn hJ hT hs hits hb
    go_enter Tryd.func16, Tryd.ntmps16
    go_wp2_with fail
    refine (C1.out _).mono ?_
    rintro e w1 ⟨rfl, rfl⟩
    go_wp2_with fail
    refine (C2.out _ (Below.refl _ _)).mono ?_
    rintro e w2 ⟨rfl, hb2⟩
    go_wp2_with fail
    refine (C3.out _ _ (strs_two _ _ _)).mono ?_
    rintro e w3 ⟨rfl, hb3⟩
    have hb4 : Below w.heap.size w w3 := (hb2.alloc hb2.size _).trans (hb3.mono (by have := hb2.size; simp; omega))
    go_wp2
    go_ret2
    exact ⟨rfl, hb4⟩
  · obtain ⟨rfl, rfl⟩ : J = ⟨#[]⟩ ∧ b = false := by
      rcases hJ with ⟨h1, rfl, rfl⟩ | ⟨h1, rfl, rfl⟩
      · exact absurd h1.size h
      · exact ⟨rfl, rfl⟩
    have c1 := fun w => Checksum_any s w hs
    rw [if_neg h] at c1
    have C1 := Lib.hid c1
    clear c1 hJ hT hs h
    go_enter Tryd.func16, Tryd.ntmps16
    go_wp2_with fail
    refine (C1.out _).mono ?_
    rintro e w1 ⟨rfl, rfl⟩
    go_wp2
    go_ret2
    exact ⟨rfl, Below.refl _ _⟩

set_option maxHeartbeats 1000000 in
theorem l1Seal_any (s : ByteArray) (w : World) (hs : s.size ≤ 2097152) :
    Calls Tryd.prog 34 #[.string s] w fun e w' => e = .returned (.string (sealB s)) ∧ Below w.heap.size w w' := by
  have C1 := Lib.hid (fun w => l1Sum_any s w (by unfold maxLen; omega))
  have hb := Pl.sum_lt s.data.toList
  have hl := Pl.itoa_len s.data.toList
  obtain ⟨n, hn⟩ : ∃ n, n = Pl.sum s.data.toList := ⟨_, rfl⟩
  rw [← hn] at hb C1 hl
  obtain ⟨it, hit⟩ : ∃ it : ByteArray, it = ⟨(Lib.itoa (n : Int)).toArray⟩ := ⟨_, rfl⟩
  have c2 := fun w => l1Num_any (n : Int) (by omega) (by omega) w
  rw [← hit] at c2
  have C2 := Lib.hid c2
  have hits : it.size ≤ 6 := by
    rw [hit]; show (Lib.itoa (n : Int)).toArray.size ≤ 6
    rw [List.size_toArray]; exact hl
  have hs1 : (⟨#[35]⟩ : ByteArray).size = 1 := rfl
  have HF : Hid ((s ++ ⟨#[35]⟩ ++ it : ByteArray) = sealB s) := by
    apply ByteArray.ext
    apply Array.toList_inj.1
    rw [hit, hn]
    simp [sealB, Pl.sealT, ByteArray.data_append]
  clear c2 hit hn hb hl
  go_enter Tryd.func34, Tryd.ntmps34
  go_wp2_with fail
  refine (C1.out _).mono ?_
  rintro e w1 ⟨rfl, rfl⟩
  go_wp2_with fail
  refine (C2.out _).mono ?_
  rintro e w2 ⟨rfl, kk, rfl⟩
  go_wp2
  go_ret
  exact ⟨ret_str HF.out, below_drewN (Below.refl _ _) kk⟩

theorem sealB_size (s : ByteArray) : (sealB s).size = (Pl.sealT s.data.toList).length := by
  show (Pl.sealT s.data.toList).toArray.size = _
  rw [List.size_toArray]

set_option maxHeartbeats 1000000 in
theorem specAppend_any (s : ByteArray) (J : ByteArray) (b : Bool) (hJ : Seals s J b) (w : World) (hs : s.size ≤ 2097152) :
    Calls Tryd.prog 17 #[.string s] w fun e w' => e = .returned (.tuple #[.string J, .bool b]) ∧ Below w.heap.size w w' := by
  by_cases h : s.size ≤ 4000
  · have c1 := fun w => l1Stands_any s 35 35 rfl w (by unfold maxLen; omega)
    have C2 := Lib.hid (fun w => l1Seal_any s w hs)
    have hsz := sealB_size s
    obtain ⟨u, hu⟩ : ∃ u, u = sealB s := ⟨_, rfl⟩
    rw [← hu] at C2 hsz
    cases hh : Pl.has s.data.toList 35 with
    | true =>
      obtain ⟨rfl, rfl⟩ : J = ⟨#[]⟩ ∧ b = false := by
        rcases hJ with ⟨h1, rfl, rfl⟩ | ⟨h1, rfl, rfl⟩
        · have := h1.1; rw [hh] at this; cases this
        · exact ⟨rfl, rfl⟩
      simp only [hh] at c1
      have C1 := Lib.hid c1
      clear c1 hh hJ hu hsz
      go_enter Tryd.func17, Tryd.ntmps17
      go_wp2_with fail
      refine (C1.out _).mono ?_
      rintro e w1 ⟨rfl, rfl⟩
      go_wp2
      go_ret2
      exact ⟨rfl, Below.refl _ _⟩
    | false =>
      simp only [hh] at c1
      have C1 := Lib.hid c1
      by_cases hlong : 4000 < u.size
      · obtain ⟨rfl, rfl⟩ : J = ⟨#[]⟩ ∧ b = false := by
          rcases hJ with ⟨h1, rfl, rfl⟩ | ⟨h1, rfl, rfl⟩
          · have := h1.2; omega
          · exact ⟨rfl, rfl⟩
        clear c1 hh hJ hu hsz
        go_enter Tryd.func17, Tryd.ntmps17
        go_wp2_with fail
        refine (C1.out _).mono ?_
        rintro e w1 ⟨rfl, rfl⟩
        go_wp2_with fail
        refine (C2.out _).mono ?_
        rintro e w2 ⟨rfl, hb2⟩
        go_wp2
        go_ret2
        exact ⟨rfl, hb2⟩
      · obtain ⟨rfl, rfl⟩ : J = u ∧ b = true := by
          rcases hJ with ⟨h1, rfl, rfl⟩ | ⟨h1, rfl, rfl⟩
          · exact ⟨hu.symm, rfl⟩
          · exact absurd ⟨hh, by omega⟩ h1
        clear c1 hh hJ hu hsz
        go_enter Tryd.func17, Tryd.ntmps17
        go_wp2_with fail
        refine (C1.out _).mono ?_
        rintro e w1 ⟨rfl, rfl⟩
        go_wp2_with fail
        refine (C2.out _).mono ?_
        rintro e w2 ⟨rfl, hb2⟩
        go_wp2_with fail
        refine (C2.out _).mono ?_
        rintro e w3 ⟨rfl, hb3⟩
        have hb4 := hb2.trans (hb3.mono hb2.size)
        go_wp2
        go_ret2
        exact ⟨rfl, hb4⟩
  · obtain ⟨rfl, rfl⟩ : J = ⟨#[]⟩ ∧ b = false := by
      rcases hJ with ⟨h1, rfl, rfl⟩ | ⟨h1, rfl, rfl⟩
      · exact absurd h1.size h
      · exact ⟨rfl, rfl⟩
    clear hJ
    go_enter Tryd.func17, Tryd.ntmps17
    go_wp2
    go_ret2
    exact ⟨rfl, Below.refl _ _⟩

/-- What opening answers. -/
def Opened (s : ByteArray) (J : ByteArray) (b : Bool) : Prop := (Pl.Opens s ∧ J = ⟨(Pl.front s.data.toList).toArray⟩ ∧ b = true) ∨ (¬ Pl.Opens s ∧ J = ⟨#[]⟩ ∧ b = false)
theorem opened_ex (s : ByteArray) : ∃ J b, Opened s J b := by
  by_cases h : Pl.Opens s
  · exact ⟨_, _, .inl ⟨h, rfl, rfl⟩⟩
  · exact ⟨_, _, .inr ⟨h, rfl, rfl⟩⟩

/-- What is asked of the library's variable MaxLen: it holds a number. -/
def MaxAt (w : World) : Prop := ∃ m, w.cell? ⟨0, 0, none⟩ = some (.int .i64 m)
theorem MaxAt.below {w w' : World} (h : MaxAt w) (hb : Below w.heap.size w w') : MaxAt w' := by
  obtain ⟨m, hm⟩ := h
  have hlt : 0 < w.heap.size := by
    rcases Nat.lt_or_ge 0 w.heap.size with h' | h'
    · exact h'
    · simp [World.cell?, Array.getElem?_eq_none h'] at hm
  exact ⟨m, (hb.cell (p := ⟨0, 0, none⟩) hlt).trans hm⟩
theorem maxAt {w : World} (h : w.ShapedOpen Tryd.prog) : MaxAt w := Tryd.laysM145.s1_3 w h

theorem Cut_any (s : ByteArray) (w : World) (hs : s.size ≤ 2097152) (hM : MaxAt w) :
    Calls Tryd.prog 35 #[.string s, .string ⟨#[35]⟩] w fun e w' => (∃ (u : ByteArray) (b : Bool), e = .returned (.tuple #[.string ⟨(Pl.front s.data.toList).toArray⟩, .string u, .bool b])) ∧ Below w.heap.size w w' := by
  obtain ⟨m, hm⟩ := hM
  refine (Tryd.strings_Cut s ⟨#[35]⟩ m w (by omega) hm).mono fun e w' ⟨he, n, hw⟩ => ⟨?_, hw ▸ below_drewN (Below.refl _ _) n⟩
  rw [show (⟨#[35]⟩ : ByteArray).data.toList = [35] from rfl, Pl.cut_front] at he
  exact ⟨_, _, he⟩

set_option maxHeartbeats 1000000 in
theorem VerifyChecksum_any (s : ByteArray) (J : ByteArray) (b : Bool) (hJ : Opened s J b) (w : World) (hs : s.size ≤ 2097152) (hT : Pow w) (hM : MaxAt w) :
    Calls Tryd.prog 18 #[.string s] w fun e w' => e = .returned (.tuple #[.string J, .bool b]) ∧ Below w.heap.size w w' := by
  have c1 := Cut_any s w hs hM
  obtain ⟨t, ht⟩ : ∃ t : ByteArray, t = ⟨(Pl.front s.data.toList).toArray⟩ := ⟨_, rfl⟩
  rw [← ht] at c1
  have C1 := Lib.hid c1
  have hts : t.size ≤ maxLen := by
    have h1 : (Pl.front s.data.toList).length ≤ s.data.toList.length := List.Sublist.length_le (List.takeWhile_sublist _)
    rw [Pl.data_len] at h1
    have h2 : t.size = (Pl.front s.data.toList).length := by rw [ht]; show (Pl.front s.data.toList).toArray.size = _; rw [List.size_toArray]
    unfold maxLen; omega
  obtain ⟨U, ub, hU⟩ := seals_ex t
  have C2 := Lib.hid (fun (w1 : World) (hb : Below w.heap.size w w1) => AppendChecksum_any t U ub hU w1 hts (hT.below hb))
  clear c1 hT hM
  by_cases hok : Pl.SealOk t
  · obtain ⟨rfl, rfl⟩ : U = sealB t ∧ ub = true := by
      rcases hU with ⟨_, h2, h3⟩ | ⟨h1, _, _⟩
      · exact ⟨h2, h3⟩
      · exact absurd hok h1
    obtain ⟨u, hu⟩ : ∃ u, u = sealB t := ⟨_, rfl⟩
    rw [← hu] at C2
    by_cases hus : u = s
    · have hop : Pl.Opens s := Pl.opens_of ht hok (by rw [← hus, hu]; rfl)
      obtain ⟨rfl, rfl⟩ : J = t ∧ b = true := by
        rcases hJ with ⟨_, h2, h3⟩ | ⟨h1, _, _⟩
        · exact ⟨h2.trans ht.symm, h3⟩
        · exact absurd hop h1
      have hbe : (u.toList == s.toList) = true := by rw [hus]; exact beq_self_eq_true _
      clear ht hts hU hok hu hus hop hJ
      go_enter Tryd.func18, Tryd.ntmps18
      go_wp2_with fail
      refine C1.out.mono ?_
      rintro e w1 ⟨⟨v1, v2, rfl⟩, hb1⟩
      go_wp2_with fail
      refine (C2.out _ hb1).mono ?_
      rintro e w2 ⟨rfl, hb2⟩
      have hb3 := hb1.trans (hb2.mono hb1.size)
      go_wp2
      go_ret2
      exact ⟨rfl, hb3⟩
    · have hnop : ¬ Pl.Opens s := by
        intro h
        apply hus
        rw [hu]
        apply ByteArray.ext
        apply Array.toList_inj.1
        have : t.data.toList = Pl.front s.data.toList := by rw [ht]
        show (Pl.sealT t.data.toList).toArray.toList = _
        rw [this, h.1]
      obtain ⟨rfl, rfl⟩ : J = ⟨#[]⟩ ∧ b = false := by
        rcases hJ with ⟨h1, _, _⟩ | ⟨_, h2, h3⟩
        · exact absurd h1 hnop
        · exact ⟨h2, h3⟩
      have hbe := str_ne hus
      clear ht hts hU hok hu hus hnop hJ
      go_enter Tryd.func18, Tryd.ntmps18
      go_wp2_with fail
      refine C1.out.mono ?_
      rintro e w1 ⟨⟨v1, v2, rfl⟩, hb1⟩
      go_wp2_with fail
      refine (C2.out _ hb1).mono ?_
      rintro e w2 ⟨rfl, hb2⟩
      have hb3 := hb1.trans (hb2.mono hb1.size)
      go_wp2
      go_ret2
      exact ⟨rfl, hb3⟩
  · obtain ⟨rfl, rfl⟩ : U = ⟨#[]⟩ ∧ ub = false := by
      rcases hU with ⟨h1, _, _⟩ | ⟨_, h2, h3⟩
      · exact absurd h1 hok
      · exact ⟨h2, h3⟩
    obtain ⟨rfl, rfl⟩ : J = ⟨#[]⟩ ∧ b = false := by
      rcases hJ with ⟨h1, _, _⟩ | ⟨_, h2, h3⟩
      · exact absurd (h1.ok ht) hok
      · exact ⟨h2, h3⟩
    clear ht hts hU hok hJ
    go_enter Tryd.func18, Tryd.ntmps18
    go_wp2_with fail
    refine C1.out.mono ?_
    rintro e w1 ⟨⟨v1, v2, rfl⟩, hb1⟩
    go_wp2_with fail
    refine (C2.out _ hb1).mono ?_
    rintro e w2 ⟨rfl, hb2⟩
    have hb3 := hb1.trans (hb2.mono hb1.size)
    go_wp2
    go_ret2
    exact ⟨rfl, hb3⟩

set_option maxHeartbeats 1000000 in
theorem specVerify_any (s : ByteArray) (J : ByteArray) (b : Bool) (hJ : Opened s J b) (w : World) (hs : s.size ≤ 2097152) :
    Calls Tryd.prog 20 #[.string s] w fun e w' => e = .returned (.tuple #[.string J, .bool b]) ∧ Below w.heap.size w w' := by
  by_cases h : s.size ≤ 4000
  · obtain ⟨t, ht⟩ : ∃ t : ByteArray, t = ⟨(Pl.front s.data.toList).toArray⟩ := ⟨_, rfl⟩
    have hts : t.size ≤ 2097152 := by
      have h1 : (Pl.front s.data.toList).length ≤ s.data.toList.length := List.Sublist.length_le (List.takeWhile_sublist _)
      rw [Pl.data_len] at h1
      have h2 : t.size = (Pl.front s.data.toList).length := by rw [ht]; show (Pl.front s.data.toList).toArray.size = _; rw [List.size_toArray]
      omega
    have C2 := Lib.hid (fun w => l1Seal_any t w hts)
    obtain ⟨u, hu⟩ : ∃ u, u = sealB t := ⟨_, rfl⟩
    rw [← hu] at C2
    have c1 : Calls Tryd.prog 36 #[.string s, .int .u8 35] w fun e w' => (∃ bk n cap, e = .returned (.slice (some ⟨bk, 0, none⟩) (n + 1) cap) ∧ w'.cell? ⟨bk, 0, none⟩ = some (.string t) ∧ n + 1 ≤ cap) ∧ Below w.heap.size w w' := by
      refine (l1Split_any s 35 35 rfl w (by omega)).mono fun e w' ⟨v, he, hown, hbl⟩ => ⟨?_, hbl⟩
      obtain ⟨r, hr⟩ := Pl.split_front s.data.toList
      have hsp : Pl.splitB s 35 = t :: Pl.ofLists r := by rw [Pl.splitB, hr, ht]; rfl
      rw [hsp] at hown
      rcases hown.2 with ⟨_, h0⟩ | ⟨g, cap, cur, rfl, _, hg, hn, _, hsz, htake⟩
      · simp at h0
      · refine ⟨g, (Pl.ofLists r).length, cap, he, ?_, hn⟩
        have h1 : (cur.toList.take ((t :: Pl.ofLists r).length * 1))[0]? = some (.string t) := by rw [htake]; rfl
        rw [List.getElem?_take_of_lt (by simp)] at h1
        simp only [Array.getElem?_toList] at h1
        simp [World.cell?, hg, h1]
    have C1 := Lib.hid c1
    clear c1
    by_cases hus : u = s
    · have hop : Pl.Opens s := by
        refine ⟨?_, h⟩
        have h1 : t.data.toList = Pl.front s.data.toList := by rw [ht]
        rw [← h1]
        conv => rhs; rw [← hus, hu]
        rfl
      obtain ⟨rfl, rfl⟩ : J = t ∧ b = true := by
        rcases hJ with ⟨_, h2, h3⟩ | ⟨h1, _, _⟩
        · exact ⟨h2.trans ht.symm, h3⟩
        · exact absurd hop h1
      have hbe : (u.toList == s.toList) = true := by rw [hus]; exact beq_self_eq_true _
      clear ht hts hu hus hop hJ
      go_enter Tryd.func20, Tryd.ntmps20
      go_wp2_with fail
      refine C1.out.mono ?_
      rintro e w1 ⟨⟨bk, n, cap, rfl, hc, hcap⟩, hb1⟩
      go_wp2_with fail
      refine (C2.out _).mono ?_
      rintro e w2 ⟨rfl, hb2⟩
      have hb3 := hb1.trans (hb2.mono hb1.size)
      go_wp2
      go_ret2
      exact ⟨rfl, hb3⟩
    · have hnop : ¬ Pl.Opens s := by
        intro h
        apply hus
        rw [hu]
        apply ByteArray.ext
        apply Array.toList_inj.1
        have : t.data.toList = Pl.front s.data.toList := by rw [ht]
        show (Pl.sealT t.data.toList).toArray.toList = _
        rw [this, h.1]
      obtain ⟨rfl, rfl⟩ : J = ⟨#[]⟩ ∧ b = false := by
        rcases hJ with ⟨h1, _, _⟩ | ⟨_, h2, h3⟩
        · exact absurd h1 hnop
        · exact ⟨h2, h3⟩
      have hbe := str_ne hus
      clear ht hts hu hus hnop hJ
      go_enter Tryd.func20, Tryd.ntmps20
      go_wp2_with fail
      refine C1.out.mono ?_
      rintro e w1 ⟨⟨bk, n, cap, rfl, hc, hcap⟩, hb1⟩
      go_wp2_with fail
      refine (C2.out _).mono ?_
      rintro e w2 ⟨rfl, hb2⟩
      have hb3 := hb1.trans (hb2.mono hb1.size)
      go_wp2
      go_ret2
      exact ⟨rfl, hb3⟩
  · obtain ⟨rfl, rfl⟩ : J = ⟨#[]⟩ ∧ b = false := by
      rcases hJ with ⟨h1, rfl, rfl⟩ | ⟨h1, rfl, rfl⟩
      · exact absurd h1.2 h
      · exact ⟨rfl, rfl⟩
    clear hJ
    go_enter Tryd.func20, Tryd.ntmps20
    go_wp2
    go_ret2
    exact ⟨rfl, Below.refl _ _⟩
end Go.Proofs.YtbpjlhdhlcmajaaDoor
