/-
  CONTRACTS of the specification's chapter 5 over translations: l5List, l5Text, FormatTranslation, l5Parse, PlainWords.
-/
import Derived.Test.YtnpiphkglhcifaaGreatAtoms
namespace Go.Proofs.YtnpiphkglhcifaaGreat
set_option maxRecDepth 100000
open Go.RowKit

/-- Is this an atom? -/
def goodE (e : Int × ByteArray) : Bool := Pl.goodA e.1 (by8 e.2)
/-- The bytes of all notations. -/
def sumF (ls : List (Int × ByteArray)) : Nat := (ls.map fun e => (fmtB e.1 e.2).size).sum
/-- Is this a translation? -/
def okL (ls : List (Int × ByteArray)) : Bool := (decide (1 ≤ ls.length) && decide (ls.length ≤ 10)) && (ls.all goodE && decide (ls.length - 1 + sumF ls ≤ 60))
theorem okL_no_len {ls : List (Int × ByteArray)} (h : ¬ (1 ≤ ls.length ∧ ls.length ≤ 10)) : okL ls = false := by
  unfold okL
  rw [show (decide (1 ≤ ls.length) && decide (ls.length ≤ 10)) = false by simpa using fun h1 => by omega, Bool.false_and]
theorem okL_no_at {ls : List (Int × ByteArray)} {k : Nat} {e : Int × ByteArray} (h : ls[k]? = some e) (he : goodE e = false) : okL ls = false := by
  have : ls.all goodE = false := by
    rw [← Bool.not_eq_true, List.all_eq_true]
    intro q
    have := q e (List.mem_of_getElem? h)
    rw [he] at this
    cases this
  unfold okL
  rw [this, Bool.false_and, Bool.and_false]
theorem okL_all {ls : List (Int × ByteArray)} (h1 : 1 ≤ ls.length) (h2 : ls.length ≤ 10) (ha : ls.all goodE = true) : okL ls = decide (ls.length - 1 + sumF ls ≤ 60) := by
  unfold okL
  rw [ha, Bool.true_and, show (decide (1 ≤ ls.length) && decide (ls.length ≤ 10)) = true by simp; omega, Bool.true_and]
theorem okL_parts {ls : List (Int × ByteArray)} (h : okL ls = true) : 1 ≤ ls.length ∧ ls.length ≤ 10 ∧ (∀ e ∈ ls, goodE e = true) ∧ ls.length - 1 + sumF ls ≤ 60 := by
  unfold okL at h
  rw [Bool.and_eq_true, Bool.and_eq_true, Bool.and_eq_true, decide_eq_true_eq, decide_eq_true_eq, decide_eq_true_eq, List.all_eq_true] at h
  exact ⟨h.1.1, h.1.2, h.2.1, h.2.2⟩
theorem sumF_next {ls : List (Int × ByteArray)} {k : Nat} {e : Int × ByteArray} (h : ls[k]? = some e) : sumF (ls.take (k + 1)) = sumF (ls.take k) + (fmtB e.1 e.2).size := by
  unfold sumF
  rw [List.take_add_one, h, List.map_append, List.sum_append]
  simp
theorem allE_next {ls : List (Int × ByteArray)} {k : Nat} {e : Int × ByteArray} (h : ls[k]? = some e) (ha : (ls.take k).all goodE = true) (he : goodE e = true) : (ls.take (k + 1)).all goodE = true := by
  rw [List.take_add_one, List.all_append, ha, h]
  simp [he]
theorem sumF_le {ls : List (Int × ByteArray)} (hx : ∀ e ∈ ls, e.2.size ≤ 1048600) : sumF ls ≤ 1048605 * ls.length := by
  induction ls with
  | nil => simp [sumF]
  | cons e l ih =>
    have h1 := ih fun e he => hx e (List.mem_cons_of_mem _ he)
    have h2 := hx e List.mem_cons_self
    have h3 := fmtB_size e.1 e.2
    unfold sumF at h1 ⊢
    rw [List.map_cons, List.sum_cons, List.length_cons]
    omega
/-- The cells of a list of atoms that isn't empty. -/
theorem AtomsAt.some {w : World} {v : Value} {ls : List (Int × ByteArray)} (h : AtomsAt w v ls) (h0 : 0 < ls.length) : ∃ bk o cap, v = .slice (some ⟨bk, o, none⟩) ls.length cap ∧ ls.length ≤ cap ∧ bk < w.heap.size ∧
    ∀ w', Below w.heap.size w w' → ∀ (j : Nat) e, ls[j]? = some e → w'.cell? ⟨bk, o + j * 2, none⟩ = some (.int .i64 e.1) ∧ w'.cell? ⟨bk, o + j * 2 + 1, none⟩ = some (.string e.2) := by
  obtain ⟨a, cap, hv, hc, h⟩ := h
  rcases h with h | ⟨bk, o, rfl, hk, h⟩
  · rw [h] at h0; cases h0
  · exact ⟨bk, o, cap, hv, hc, hk, fun w' hb j e he => ⟨(hb.cell (p := ⟨bk, o + j * 2, none⟩) hk).trans (h j e he).1, (hb.cell (p := ⟨bk, o + j * 2 + 1, none⟩) hk).trans (h j e he).2⟩⟩
theorem AtomsAt.len {w : World} {v : Value} {ls : List (Int × ByteArray)} (h : AtomsAt w v ls) : ∃ a cap, v = .slice a ls.length cap ∧ ls.length ≤ cap := by
  obtain ⟨a, cap, hv, hc, _⟩ := h
  exact ⟨a, cap, hv, hc⟩
set_option maxHeartbeats 1000000 in
theorem l5List_any (v : Value) (ls : List (Int × ByteArray)) (w : World) (h : AtomsAt w v ls) (hn : ls.length ≤ 2097152) (hx : ∀ e ∈ ls, e.2.size ≤ 1048600) :
    Calls Tryz.prog 63 #[v] w fun e w' => e = .returned (.bool (okL ls)) ∧ Below w.heap.size w w' := by
  have c := fun w => l1In_any ls.length 1 10 w
  by_cases hlen : 1 ≤ ls.length ∧ ls.length ≤ 10
  · obtain ⟨bk, o, cap, rfl, hcap, _, hcell⟩ := h.some (by omega)
    have hS := sumF_le hx
    have hokA := fun ha => okL_all (ls := ls) hlen.1 hlen.2 ha
    have HNo := Lib.hid (fun k e (h : ls[k]? = some e) he => okL_no_at h he)
    have HLe : Hid (∀ k, sumF (ls.take k) ≤ 1048605 * 10) := by
      intro k
      refine Nat.le_trans (sumF_le fun e he => hx e (List.mem_of_mem_take he)) ?_
      rw [List.length_take]
      omega
    have HX := Lib.hid (fun k e (h : ls[k]? = some e) => hx e (List.mem_of_getElem? h))
    obtain ⟨n, hnn⟩ : ∃ n, n = ls.length := ⟨_, rfl⟩
    rw [← hnn] at hlen hcap c hokA ⊢
    rw [show (decide ((1 : Int) ≤ n) && decide ((n : Int) ≤ 10)) = true by simp; omega] at c
    have C := Lib.hid c
    have HN := Lib.hid hnn
    have HC := Lib.hid hcell
    have HA := Lib.hid hokA
    have CG := Lib.hid (fun k t w ht => l5Good_any k t w ht)
    have CF := Lib.hid (fun k t w ht => l5Format_any k t w ht)
    obtain ⟨h1, h10⟩ := hlen
    clear h hn hx hS c hnn hcell hokA
    go_enter Tryz.func63, Tryz.ntmps63
    go_wp2_with fail
    refine (C.out _).mono ?_
    rintro e w1 ⟨rfl, rfl⟩
    go_wp2_with fail
    go_loopw [3, 4] (fun s i wr => ∃ k : Nat, i = .int .i64 k ∧ k ≤ n ∧ s = .int .i64 ((n - 1 + sumF (ls.take k) : Nat) : Int) ∧ Hid ((ls.take k).all goodE = true) ∧ Below w.heap.size w wr) (fun _ i _ => n - (intOf i).toNat)
    case atStart => exact ⟨0, rfl, Nat.zero_le _, by rw [List.take_zero]; show _ = Value.int .i64 ((n - 1 + 0 : Nat) : Int); congr 1; omega, by exact Lib.hid rfl, Below.refl _ _⟩
    case round =>
      obtain ⟨k, rfl, hk, rfl, HL, hbel⟩ := hrel
      have hle := HLe.out k
      obtain ⟨S, hS⟩ : ∃ S, S = n - 1 + sumF (ls.take k) := ⟨_, rfl⟩
      have hS2 : S ≤ 10486100 := by omega
      rw [← hS]
      have HS := Lib.hid hS
      clear hle hS
      by_cases hlt : k < n
      · obtain ⟨e, he⟩ : ∃ e, ls[k]? = some e := ⟨_, List.getElem?_eq_getElem (by rw [← HN.out]; exact hlt)⟩
        have hsz := HX.out k e he
        obtain ⟨g0, g1⟩ := HC.out wr hbel k e he
        have hc := fun w => CG.out e.1 e.2 w (by omega)
        have hf := fun w => CF.out e.1 e.2 w hsz
        have hfs := fmtB_size e.1 e.2
        have hno := HNo.out k e he
        have hall := fun q => allE_next he HL.out q
        have hsum := sumF_next he
        have HC2 := Lib.hid (fun wr hb => HC.out wr hb k e he)
        obtain ⟨ek, et⟩ := e
        simp only at g0 g1 hc hf hfs hsum hsz
        obtain ⟨b, hb⟩ : ∃ b, b = Pl.goodA ek (by8 et) := ⟨_, rfl⟩
        rw [← hb] at hc
        rw [show goodE (ek, et) = b from hb.symm] at hno hall
        obtain ⟨f, hff⟩ : ∃ f, f = fmtB ek et := ⟨_, rfl⟩
        rw [← hff] at hf hfs hsum
        have CG2 := Lib.hid hc
        have CF2 := Lib.hid hf
        have HNo2 := Lib.hid hno
        have HAll := Lib.hid hall
        have HSum := Lib.hid hsum
        clear hc hf hno hall hsum hb hff he HC HX CG CF HLe
        go_wp2_with fail
        refine (CG2.out _).mono ?_
        rintro e w1 ⟨rfl, hb⟩
        have HB1 := Lib.hid (hbel.trans (hb.mono hbel.size))
        clear hb hbel g0 g1
        cases b
        · go_wp2
          go_ret
          exact ⟨ret_bool (HNo2.out (by first | rfl | trivial)).symm, HB1.out⟩
        · obtain ⟨g0, g1⟩ := HC2.out w1 HB1.out
          go_wp2_with fail
          refine (CF2.out _).mono ?_
          rintro e w2 ⟨rfl, hb⟩
          have HB2 := Lib.hid (HB1.out.trans (hb.mono HB1.out.size))
          have HL2 := Lib.hid (HAll.out (by first | rfl | trivial))
          have HS2 : Hid (S + f.size = n - 1 + sumF (ls.take (k + 1))) := by show _ = _; rw [HSum.out, HS.out]; omega
          clear hb HB1 g0 g1 HL
          go_wp2
          go_roundw
          case rel => exact ⟨k + 1, by go_num, by omega, by rw [← HS2.out]; go_num, HL2, HB2.out⟩
          case measure => simp [intOf]; omega
      · obtain rfl : k = n := by omega
        have HG : Hid (okL ls = decide ((S : Int) ≤ 60)) := by
          show _ = _
          rw [HA.out (by have := HL.out; rwa [List.take_of_length_le (by rw [← HN.out]; exact Nat.le_refl _)] at this), decide_eq_decide]
          have := HS.out
          rw [List.take_of_length_le (by rw [← HN.out]; exact Nat.le_refl _)] at this
          omega
        clear HL HA HNo HLe HX HC CG CF HS
        go_wp2
        go_ret
        exact ⟨ret_bool HG.out.symm, hbel⟩
  · obtain ⟨a, cap, rfl, hcap⟩ := h.len
    rw [okL_no_len hlen]
    obtain ⟨n, hnn⟩ : ∃ n, n = ls.length := ⟨_, rfl⟩
    rw [← hnn] at hlen hcap c hn ⊢
    rw [show (decide ((1 : Int) ≤ n) && decide ((n : Int) ≤ 10)) = false by simpa using fun h1 => by omega] at c
    have C := Lib.hid c
    clear h hx c hnn hlen
    go_enter Tryz.func63, Tryz.ntmps63
    go_wp2_with fail
    refine (C.out _).mono ?_
    rintro e w1 ⟨rfl, rfl⟩
    go_wp2
    go_ret
    exact ⟨rfl, Below.refl _ _⟩
end Go.Proofs.YtnpiphkglhcifaaGreat
