/-
  CONTRACTS of the notation of strokes: the program's labels, notation, FormatStroke; the specification's l2Format, FormatStroke.
-/
import Derived.Test.YtkhklidpighmpaaKeys
import Derived.Test.YtkhklidpighmpaaBuild
namespace Go.Proofs.Ytkhklidpighmpaa
set_option maxRecDepth 100000
open Go.RowKit

/-- The labels, as one string. -/
abbrev labB : ByteArray := ⟨#[35, 83, 84, 75, 80, 87, 72, 82, 65, 79, 42, 69, 85, 70, 82, 80, 66, 76, 71, 84, 83, 68, 90]⟩
theorem labB_size : (⟨#[35, 83, 84, 75, 80, 87, 72, 82, 65, 79, 42, 69, 85, 70, 82, 80, 66, 76, 71, 84, 83, 68, 90]⟩ : ByteArray).size = 23 := rfl

theorem labB_fin : ∀ k : Fin 23, (labB[k.1]'(by rw [labB_size]; exact k.2)) = Pl.labK k.1 := by decide
theorem labB_at (k : Nat) (h : k < 23) : (labB[k]'(by rw [labB_size]; exact h)) = Pl.labK k := labB_fin ⟨k, h⟩

set_option maxHeartbeats 2000000 in
theorem labels_any (n a b : Nat) (hn : n < 8388608) (hab : a ≤ b) (hb : b ≤ 23) (w : World) :
    Calls Try.prog 65 #[.int .i64 n, .int .i64 a, .int .i64 b] w fun e w' => e = .returned (.string ⟨(Pl.labels n a b).toArray⟩) ∧ Below w.heap.size w w' := by
  have CH := Lib.hid (fun k w hk => has_in n k hn hk w)
  obtain ⟨B, hB⟩ : ∃ B, B = w.heap.size := ⟨_, rfl⟩
  have CW := Lib.hid (fun l c z hz w h hl hB => WriteByte_any B B l c z hz w h hl hB)
  have hfresh : Hid (Bld B B [] (w.alloc (.cells #[.pointer none, .slice none 0 0] 79))) := by rw [hB]; exact Lib.fresh_isBuilder 79 5 w
  have HBw := Lib.hid hB
  have hsz := labB_size
  go_enter Try.func65, Try.ntmps65
  go_wp2_with fail
  rw [← HBw.out]
  clear hB
  go_loopw [8] (fun i wr => ∃ k : Nat, i = .int .i64 k ∧ a ≤ k ∧ k ≤ b ∧ Hid (Bld B B (Pl.labels n a k) wr) ∧ Below w.heap.size w wr) (fun i _ => b - (intOf i).toNat)
  case atStart => exact ⟨a, rfl, Nat.le_refl _, hab, by rw [Pl.labels_self]; exact hfresh, (Below.refl _ _).alloc (Nat.le_refl _) _⟩
  case round =>
    obtain ⟨k, rfl, hak, hkb, HB, hbel⟩ := hrel
    by_cases hlt : k < b
    · have hk : k < 23 := by omega
      go_wp2_with fail
      refine (CH.out k _ hk).mono ?_
      rintro e w2 ⟨rfl, rfl⟩
      have HSU := Lib.hid (Pl.labels_succ n a k hak)
      cases hb : n.testBit k
      · have HK : Hid (Pl.labels n a (k + 1) = Pl.labels n a k) := by have := HSU.out; rw [hb] at this; simpa [Hid] using this
        clear hb HSU
        go_wp2
        go_roundw
        case rel => exact ⟨k + 1, by go_num, by omega, by omega, by rw [HK.out]; exact HB, hbel⟩
        case measure => simp [intOf]; omega
      · have HK : Hid (Pl.labels n a (k + 1) = Pl.labels n a k ++ [Pl.labK k]) := by have := HSU.out; rw [hb] at this; simpa [Hid] using this
        clear hb HSU
        go_wp2_with fail
        refine (CW.out (Pl.labels n a k) (Pl.labK k) _ (by rw [labB_at k hk]) _ HB.out (by have := Pl.labels_len n a k; omega) (by rw [HBw.out]; exact hbel.size)).mono ?_
        rintro e w3 ⟨rfl, hB3, hb3⟩
        have HB3 : Hid (Bld B B (Pl.labels n a (k + 1)) w3) := by rw [HK.out]; exact hB3
        have HW3 : Hid (Below w.heap.size w w3) := hbel.trans (by rw [HBw.out] at hb3; exact hb3)
        clear hB3 hb3
        go_wp2
        go_roundw
        case rel => exact ⟨k + 1, by go_num, by omega, by omega, HB3, HW3.out⟩
        case measure => simp [intOf]; omega
    · obtain rfl : k = b := by omega
      have CS := Lib.hid (fun w h hB => Try.Builder_String_any B B (Pl.labels n a k) w h hB)
      go_wp2_with fail
      refine (CS.out _ HB.out (by rw [HBw.out]; exact hbel.size)).mono ?_
      rintro e w3 ⟨rfl, hb3⟩
      have HW3 : Hid (Below w.heap.size w w3) := hbel.trans (by rw [HBw.out] at hb3; exact hb3)
      clear hb3
      go_wp2
      go_ret
      exact ⟨rfl, HW3.out⟩

theorem str_len (l : List UInt8) : (⟨l.toArray⟩ : ByteArray).size = l.length := by show l.toArray.size = _; rw [List.size_toArray]
/-- The notation, as a string. -/
def notaB (n : Nat) : ByteArray := ⟨(Pl.nota n).toArray⟩
theorem nota_yes (n : Nat) (h : Pl.hyph n = true) : ((⟨(Pl.labels n 0 13).toArray⟩ ++ ⟨#[45]⟩) ++ ⟨(Pl.labels n 13 23).toArray⟩ : ByteArray) = notaB n := by
  apply ByteArray.ext
  apply Array.toList_inj.1
  simp [notaB, Pl.nota, h, ByteArray.data_append]
theorem nota_no (n : Nat) (h : Pl.hyph n = false) : (⟨(Pl.labels n 0 13).toArray⟩ ++ ⟨(Pl.labels n 13 23).toArray⟩ : ByteArray) = notaB n := by
  apply ByteArray.ext
  apply Array.toList_inj.1
  simp [notaB, Pl.nota, h, ByteArray.data_append]
set_option maxHeartbeats 1000000 in
theorem notation_any (n : Nat) (hn : n < 8388608) (w : World) :
    Calls Try.prog 49 #[.int .i64 n] w fun e w' => e = .returned (.string (notaB n)) ∧ Below w.heap.size w w' := by
  obtain ⟨L, hL⟩ : ∃ L : ByteArray, L = ⟨(Pl.labels n 0 13).toArray⟩ := ⟨_, rfl⟩
  obtain ⟨R, hR⟩ : ∃ R : ByteArray, R = ⟨(Pl.labels n 13 23).toArray⟩ := ⟨_, rfl⟩
  have c1 := fun w => labels_any n 0 13 hn (by decide) (by decide) w
  have c2 := fun w => labels_any n 13 23 hn (by decide) (by decide) w
  have hl := Pl.labels_len n 0 13
  have hr := Pl.labels_len n 13 23
  have hLs : L.size ≤ 13 := by rw [hL, str_len]; exact hl
  have hRs : R.size ≤ 10 := by rw [hR, str_len]; exact hr
  have e1 := and_i64 n 7936 (by omega) (by decide)
  have e2 := and_i64 n 8380416 (by omega) (by decide)
  have hy : Pl.hyph n = ((bits .and .i64 (n : Int) 7936 == 0) && (bits .and .i64 (n : Int) 8380416 != 0)) := by
    rw [show (7936 : Int) = ((7936 : Nat) : Int) from rfl, show (8380416 : Int) = ((8380416 : Nat) : Int) from rfl, e1, e2]
    unfold Pl.hyph
    congr 1
    · rw [Bool.eq_iff_iff, beq_iff_eq, beq_iff_eq]; omega
    · rw [Bool.eq_iff_iff, bne_iff_ne, bne_iff_ne]; omega
  have hN1 := nota_yes n
  have hN2 := nota_no n
  rw [← hL, ← hR] at hN1 hN2
  rw [← hL] at c1
  rw [← hR] at c2
  have C1 := Lib.hid c1
  have C2 := Lib.hid c2
  have hs1 : (⟨#[45]⟩ : ByteArray).size = 1 := rfl
  obtain ⟨x, hx⟩ : ∃ x, x = bits .and .i64 (n : Int) 7936 := ⟨_, rfl⟩
  obtain ⟨y, hyy⟩ : ∃ y, y = bits .and .i64 (n : Int) 8380416 := ⟨_, rfl⟩
  rw [← hx, ← hyy] at hy
  have HY := Lib.hid hy
  have HN1 := Lib.hid hN1
  have HN2 := Lib.hid hN2
  have hx' := hx.symm
  have hyy' := hyy.symm
  clear hy hN1 hN2 c1 c2 hL hR hl hr e1 e2 hx hyy
  cases h1 : (x == 0)
  · have HF : Hid (L ++ R = notaB n) := HN2.out (by rw [HY.out, h1]; rfl)
    clear HN1 HN2 HY
    go_enter Try.func49, Try.ntmps49
    go_wp2_with fail
    refine (C1.out _).mono ?_
    rintro e w1 ⟨rfl, hb1⟩
    go_wp2_with fail
    refine (C2.out _).mono ?_
    rintro e w2 ⟨rfl, hb2⟩
    have hb3 := hb1.trans (hb2.mono hb1.size)
    go_wp2
    go_ret
    exact ⟨ret_str HF.out, hb3⟩
  · cases h2 : (y != 0)
    · have HF : Hid (L ++ R = notaB n) := HN2.out (by rw [HY.out, h1, h2]; rfl)
      clear HN1 HN2 HY
      go_enter Try.func49, Try.ntmps49
      go_wp2_with fail
      refine (C1.out _).mono ?_
      rintro e w1 ⟨rfl, hb1⟩
      go_wp2_with fail
      refine (C2.out _).mono ?_
      rintro e w2 ⟨rfl, hb2⟩
      have hb3 := hb1.trans (hb2.mono hb1.size)
      go_wp2
      go_ret
      exact ⟨ret_str HF.out, hb3⟩
    · have HF : Hid (L ++ ⟨#[45]⟩ ++ R = notaB n) := HN1.out (by rw [HY.out, h1, h2]; rfl)
      clear HN1 HN2 HY
      go_enter Try.func49, Try.ntmps49
      go_wp2_with fail
      refine (C1.out _).mono ?_
      rintro e w1 ⟨rfl, hb1⟩
      go_wp2_with fail
      refine (C2.out _).mono ?_
      rintro e w2 ⟨rfl, hb2⟩
      have hb3 := hb1.trans (hb2.mono hb1.size)
      go_wp2
      go_ret
      exact ⟨ret_str HF.out, hb3⟩

theorem lab_cut_fin : ∀ j : Fin 23, labB.extract j.1 (j.1 + 1) = ⟨#[Pl.labK j.1]⟩ := by decide +kernel
theorem lab_run (j : Nat) (h : j < 23) (w : World) : (Instr.slice 9 (.string ⟨#[35, 83, 84, 75, 80, 87, 72, 82, 65, 79, 42, 69, 85, 70, 82, 80, 66, 76, 71, 84, 83, 68, 90]⟩) (some (.int .i64 (j : Int))) (some (.int .i64 ((j : Int) + 1))) none).run Try.prog w = .ok (.string ⟨#[Pl.labK j]⟩) w := by
  rw [run_slice_string _ _ _ _ _ _ _ Try.underlying9 (by omega) (by omega) (by rw [labB_size]; omega), Int.toNat_natCast, show ((j : Int) + 1).toNat = j + 1 by omega]
  exact congrArg (fun x => Result.ok (Value.string x) w) (lab_cut_fin ⟨j, h⟩)
theorem written_next {n k j : Nat} {ob : ByteArray} {m y : Bool} (h : Pl.written ((Pl.keysL n).take k) = (ob.data.toList, m, y)) (hj : (Pl.keysL n)[k]? = some j) :
    Pl.written ((Pl.keysL n).take (k + 1)) = Pl.wstep (ob.data.toList, m, y) j := by
  rw [List.take_add_one, hj]
  show Pl.written (_ ++ [j]) = _
  rw [Pl.written_snoc, h]
theorem step_plain {ob tB : ByteArray} {m y : Bool} {j : Nat} (m' : Bool) (hT : tB = ⟨#[Pl.labK j]⟩) (hm : m' = (m || (decide (8 ≤ j) && decide (j ≤ 12)))) (hc : (decide (12 < j) && !m' && !y) = false) :
    Pl.wstep (ob.data.toList, m, y) j = ((ob ++ tB).data.toList, m', y) := by
  unfold Pl.wstep
  simp only
  rw [← hm, hc, hT]
  simp [ByteArray.data_append]
theorem step_hyph {ob tB : ByteArray} {m y : Bool} {j : Nat} (m' : Bool) (hT : tB = ⟨#[Pl.labK j]⟩) (hm : m' = (m || (decide (8 ≤ j) && decide (j ≤ 12)))) (hc : (decide (12 < j) && !m' && !y) = true) :
    Pl.wstep (ob.data.toList, m, y) j = ((ob ++ ⟨#[45]⟩ ++ tB).data.toList, m', true) := by
  unfold Pl.wstep
  simp only
  rw [← hm, hc, hT]
  simp [ByteArray.data_append]

set_option maxHeartbeats 4000000 in
theorem l2Format_any (n : Nat) (hn : n < 8388608) (w : World) :
    Calls Try.prog 56 #[.int .i64 n] w fun e w' => e = .returned (.string (notaB n)) ∧ Below w.heap.size w w' := by
  have CK := Lib.hid (fun w => l2Keys_any n hn w)
  have CI := Lib.hid (fun k w => l1In_any k 8 12 w)
  have hs1 : (⟨#[45]⟩ : ByteArray).size = 1 := rfl
  have hsz := labB_size
  go_enter Try.func56, Try.ntmps56
  go_wp2_with fail
  refine (CK.out _).mono ?_
  rintro e w1 ⟨⟨v, rfl, hv⟩, hb1⟩
  obtain ⟨a, cap, rfl, hcap, h⟩ := rowInts_at hv
  have hlen := keysI_len n
  have hcard := Pl.card_le n
  obtain ⟨N, hN⟩ : ∃ N, N = (keysI n).length := ⟨_, rfl⟩
  rw [← hN] at hcap hlen ⊢
  have HN := Lib.hid hN
  have HV : Hid (∀ (w2 : World), Below w1.heap.size w1 w2 → ∀ (j : Nat) x, 0 < N → (Pl.keysL n)[j]? = some x → ∃ bk o, a = some ⟨bk, o, none⟩ ∧ w2.cell? ⟨bk, o + j, none⟩ = some (.int .i64 (x : Int))) := by
    intro w2 hb j x h0 hx
    have hx' : (keysI n)[j]? = some (x : Int) := by unfold keysI; rw [List.getElem?_map, hx]; rfl
    rcases h with h | ⟨bk, o, ha, hk, h⟩
    · rw [h] at hN; simp at hN; omega
    · exact ⟨bk, o, ha, (hb.cell (p := ⟨bk, o + j, none⟩) hk).trans (h j _ hx')⟩
  have hNl : N = (Pl.keysL n).length := by rw [hlen]; rfl
  have HNl := Lib.hid hNl
  have HB1 := Lib.hid hb1
  clear h hv hN hNl hb1
  go_wp2_with fail
  go_loopw [3, 5, 6, 7] (fun o m y i wr => ∃ (k : Nat) (ob : ByteArray) (mb yb : Bool), i = .int .i64 k ∧ o = .string ob ∧ m = .bool mb ∧ y = .bool yb ∧ k ≤ N ∧ ob.size ≤ 2 * k ∧ Hid (Pl.written ((Pl.keysL n).take k) = (ob.data.toList, mb, yb)) ∧ Below w1.heap.size w1 wr) (fun _ _ _ i _ => N - (intOf i).toNat)
  case atStart => exact ⟨0, ⟨#[]⟩, false, false, rfl, rfl, rfl, rfl, Nat.zero_le _, Nat.le_refl _, by exact Lib.hid rfl, Below.refl _ _⟩
  case round =>
    obtain ⟨k, ob, mb, yb, rfl, rfl, rfl, rfl, hk, hob, HL, hbel⟩ := hrel
    by_cases hlt : k < N
    · obtain ⟨j, hj⟩ : ∃ j, (Pl.keysL n)[k]? = some j := ⟨_, List.getElem?_eq_getElem (by rw [← HNl.out]; exact hlt)⟩
      obtain ⟨bk, o, rfl, hck⟩ := HV.out wr hbel k j (by omega) hj
      have hj23 : j < 23 := (Pl.mem_keysIn.1 (List.mem_of_getElem? hj)).1.2
      have HNx := Lib.hid (written_next HL.out hj)
      have hrun := fun w => lab_run j hj23 w
      obtain ⟨tB, htB⟩ : ∃ tB : ByteArray, tB = ⟨#[Pl.labK j]⟩ := ⟨_, rfl⟩
      have hts : tB.size = 1 := by rw [htB]; rfl
      rw [← htB] at hrun
      have HT := Lib.hid htB
      clear HL hj htB
      cases mb
      · by_cases hmid : 8 ≤ j ∧ j ≤ 12
        · have c := fun w => CI.out (j : Int) w
          rw [show (decide (8 ≤ (j : Int)) && decide ((j : Int) ≤ 12)) = true by simp; omega] at c
          have C := Lib.hid c
          have HL' : Hid (Pl.written ((Pl.keysL n).take (k + 1)) = ((ob ++ tB).data.toList, true, yb)) := by
            exact HNx.out.trans (step_plain true HT.out (by simp; omega) (by simp))
          clear c HNx HT
          go_wp2_with fail
          refine (C.out _).mono ?_
          rintro e w2 ⟨rfl, rfl⟩
          go_wp2
          go_roundw
          case rel => exact ⟨k + 1, ob ++ tB, true, yb, by go_num, rfl, rfl, rfl, by omega, by rw [ByteArray.size_append]; omega, HL', hbel⟩
          case measure => simp [intOf]; omega
        · have c := fun w => CI.out (j : Int) w
          rw [show (decide (8 ≤ (j : Int)) && decide ((j : Int) ≤ 12)) = false by simp; omega] at c
          have C := Lib.hid c
          have hm' : false = (false || (decide (8 ≤ j) && decide (j ≤ 12))) := by simp; omega
          by_cases hgt : 12 < j
          · cases yb
            · have HL' : Hid (Pl.written ((Pl.keysL n).take (k + 1)) = ((ob ++ ⟨#[45]⟩ ++ tB).data.toList, false, true)) := by
                exact HNx.out.trans (step_hyph false HT.out hm' (by simp; omega))
              clear c HNx HT hm' hmid
              go_wp2_with fail
              refine (C.out _).mono ?_
              rintro e w2 ⟨rfl, rfl⟩
              go_wp2
              go_roundw
              case rel => exact ⟨k + 1, ob ++ ⟨#[45]⟩ ++ tB, false, true, by go_num, rfl, rfl, rfl, by omega, by rw [ByteArray.size_append, ByteArray.size_append]; omega, HL', hbel⟩
              case measure => simp [intOf]; omega
            · have HL' : Hid (Pl.written ((Pl.keysL n).take (k + 1)) = ((ob ++ tB).data.toList, false, true)) := by
                exact HNx.out.trans (step_plain false HT.out hm' (by simp))
              clear c HNx HT hm' hmid
              go_wp2_with fail
              refine (C.out _).mono ?_
              rintro e w2 ⟨rfl, rfl⟩
              go_wp2
              go_roundw
              case rel => exact ⟨k + 1, ob ++ tB, false, true, by go_num, rfl, rfl, rfl, by omega, by rw [ByteArray.size_append]; omega, HL', hbel⟩
              case measure => simp [intOf]; omega
          · have HL' : Hid (Pl.written ((Pl.keysL n).take (k + 1)) = ((ob ++ tB).data.toList, false, yb)) := by
              exact HNx.out.trans (step_plain false HT.out hm' (by simp; omega))
            clear c HNx HT hm' hmid
            go_wp2_with fail
            refine (C.out _).mono ?_
            rintro e w2 ⟨rfl, rfl⟩
            go_wp2
            go_roundw
            case rel => exact ⟨k + 1, ob ++ tB, false, yb, by go_num, rfl, rfl, rfl, by omega, by rw [ByteArray.size_append]; omega, HL', hbel⟩
            case measure => simp [intOf]; omega
      · have HL' : Hid (Pl.written ((Pl.keysL n).take (k + 1)) = ((ob ++ tB).data.toList, true, yb)) := by
          exact HNx.out.trans (step_plain true HT.out (by simp) (by simp))
        clear HNx HT
        by_cases hgt : 12 < j
        · skip
          go_wp2
          go_roundw
          case rel => exact ⟨k + 1, ob ++ tB, true, yb, by go_num, rfl, rfl, rfl, by omega, by rw [ByteArray.size_append]; omega, HL', hbel⟩
          case measure => simp [intOf]; omega
        · skip
          go_wp2
          go_roundw
          case rel => exact ⟨k + 1, ob ++ tB, true, yb, by go_num, rfl, rfl, rfl, by omega, by rw [ByteArray.size_append]; omega, HL', hbel⟩
          case measure => simp [intOf]; omega
    · have HF : Hid (ob = notaB n) := by
        have h1 := HL.out
        rw [List.take_of_length_le (by rw [← HNl.out]; omega)] at h1
        have h2 := Pl.written_nota n
        rw [h1] at h2
        exact bytes_mk h2
      have HBf := Lib.hid (HB1.out.trans (hbel.mono HB1.out.size))
      clear HL
      go_wp2
      go_ret
      exact ⟨ret_str HF.out, HBf.out⟩
end Go.Proofs.Ytkhklidpighmpaa
