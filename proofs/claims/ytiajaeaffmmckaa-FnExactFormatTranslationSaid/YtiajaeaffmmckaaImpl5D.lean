/-
  CONTRACTS of the program's chapter 5, the fourth part: FormatTranslation.
-/
import Derived.Test.YtiajaeaffmmckaaImpl5C
import Derived.Test.YtiajaeaffmmckaaTransR
import Derived.Test.YtiajaeaffmmckaaJoin
namespace Go.Proofs.Ytiajaeaffmmckaa
set_option maxRecDepth 100000
open Go.RowKit

theorem partsT_len (ls : List Atm) : (partsT ls).length = ls.length := by unfold partsT; rw [List.length_map]
theorem goodE_small {e : Atm} (h : goodE e = true) : e.2.size ≤ 20 := by
  unfold goodE at h
  have hl : (by8 e.2).length = e.2.size := Pl.data_len e.2
  rw [← hl]
  unfold Pl.goodA at h
  split at h
  · exact (Pl.word_parts h).2.1
  · split at h
    · simp only [Bool.or_eq_true, beq_iff_eq] at h
      rcases h with (h | h) | h <;> (rw [h]; decide)
    · split at h
      · simp only [Bool.or_eq_true, beq_iff_eq] at h
        rcases h with (h | h) | h <;> (rw [h]; decide)
      · split at h
        · rw [beq_iff_eq] at h; rw [h]; decide
        · cases h
theorem sumF_small {ls : List Atm} (h : ∀ e ∈ ls, goodE e = true) : sumF ls ≤ 25 * ls.length := by
  induction ls with
  | nil => simp [sumF]
  | cons e l ih =>
    have h1 := ih fun e he => h e (List.mem_cons_of_mem _ he)
    have h2 := goodE_small (h e List.mem_cons_self)
    have h3 := fmtB_size e.1 e.2
    unfold sumF at h1 ⊢
    rw [List.map_cons, List.sum_cons, List.length_cons]
    omega
theorem parts_ok {ls : List Atm} (h0 : 0 < ls.length) (h10 : ls.length ≤ 10) (h : ∀ e ∈ ls, goodE e = true) : Pl.JoinOk (partsT ls) 32 := by
  refine Pl.ok_of (by intro e; have := partsT_len ls; rw [e] at this; simp at this; omega) ?_ ?_
  · intro x hx
    obtain ⟨e, he, rfl⟩ := List.mem_map.1 hx
    have h1 := h e he
    unfold goodE at h1
    have := fmtA_no_space h1
    show Pl.has (by8 (fmtB e.1 e.2)) 32 = false
    rw [fmtB_list]
    unfold Pl.has
    simpa using this
  · rw [partsT_len, lens_parts]
    have := sumF_small h
    omega
theorem parts_size {ls : List Atm} (h : ∀ e ∈ ls, goodE e = true) : ∀ x ∈ partsT ls, x.size ≤ 2097152 := by
  intro x hx
  obtain ⟨e, he, rfl⟩ := List.mem_map.1 hx
  have h1 := goodE_small (h e he)
  have h2 := fmtB_size e.1 e.2
  omega
theorem fmtLE_no {ls : List Atm} (h : okL ls = false) : fmtLE ls = .returned (.tuple #[.string ⟨#[]⟩, .bool false]) := by unfold fmtLE fmtLS; rw [h]; rfl
theorem fmtLE_yes {ls : List Atm} (h : okL ls = true) : fmtLE ls = .returned (.tuple #[.string (textB ls), .bool true]) := by unfold fmtLE fmtLS; rw [h]; rfl
theorem okL_end {ls : List Atm} (h0 : 0 < ls.length) (h10 : ls.length ≤ 10) (h : ls.all goodE = true) : okL ls = decide ((textB ls).size ≤ 60) := by
  rw [okL_all h0 h10 h, decide_eq_decide]
  have := textB_size (ls := ls) (by intro e; rw [e] at h0; cases h0)
  omega

set_option maxHeartbeats 4000000 in
theorem FormatT_any (v : Value) (ls : List Atm) (w : World) (h : AtomsAt w v ls) (hn : ls.length ≤ 2097152) (hx : ∀ e ∈ ls, e.2.size ≤ 1048576) :
    Calls Try.prog 20 #[v] w fun e w' => e = fmtLE ls ∧ Below w.heap.size w w' := by
  by_cases hbig : 10 < ls.length
  · obtain ⟨a, cap, rfl, hcap⟩ := h.len
    rw [fmtLE_no (okL_no_len (by omega))]
    obtain ⟨n, hnn⟩ : ∃ n, n = ls.length := ⟨_, rfl⟩
    rw [← hnn] at hbig hcap hn ⊢
    clear h hx hnn
    go_enter Try.func20, Try.ntmps20
    go_wp2
    go_ret2
    exact ⟨rfl, Below.refl _ _⟩
  · by_cases h0 : 0 < ls.length
    · obtain ⟨bk, o, cap, rfl, hcap, hbk, hcell⟩ := h.some h0
      have hEnd := fun q => okL_end h0 (by omega) q
      have hOk := fun q => parts_ok h0 (by omega) q
      have HSz := Lib.hid (fun q => parts_size (ls := ls) q)
      have HNo := Lib.hid (fun k e (q : ls[k]? = some e) he => okL_no_at q he)
      have HX := Lib.hid (fun k e (q : ls[k]? = some e) => hx e (List.mem_of_getElem? q))
      obtain ⟨n, hnn⟩ : ∃ n, n = ls.length := ⟨_, rfl⟩
      rw [← hnn] at hbig hcap hn h0 ⊢
      have HN := Lib.hid hnn
      have HC := Lib.hid hcell
      have HEnd := Lib.hid hEnd
      have HOk := Lib.hid hOk
      have CF := Lib.hid (fun k t w ht => Format5_any k t w ht)
      have hmk := run_make_row' (P := Try.prog) 36 9 (.string ByteArray.empty) 16 Try.underlying36 infoStr' rfl .i64 .i64 n (by omega) (by omega)
      clear h hx hnn hcell hEnd hOk
      go_enter Try.func20, Try.ntmps20
      go_wp2_with fail
      clear hmk
      obtain ⟨B, hB⟩ : ∃ B, B = w.heap.size := ⟨_, rfl⟩
      have hrow0 := World.rowIs_made w (.string ByteArray.empty) n 9
      have hbel0 : Below w.heap.size w (w.alloc (.cells (madeCells #[.string ByteArray.empty] n) 9)) := (Below.refl _ _).alloc (Nat.le_refl _) _
      rw [← hB] at hrow0 ⊢
      have HBB := Lib.hid hB
      clear hB
      go_loopw [19] (fun i wr => ∃ k : Nat, k ≤ n ∧ i = .int .i64 k ∧ Hid ((ls.take k).all goodE = true) ∧ Hid (wr.rowIs B 9 n (fun j => if j < k then .string ((partsT ls).getD j ByteArray.empty) else .string ByteArray.empty)) ∧ Below w.heap.size w wr) (fun i _ => n - (intOf i).toNat)
      case atStart => exact ⟨0, Nat.zero_le _, rfl, Lib.hid rfl, hrow0.congr (fun i _ => rfl), hbel0⟩
      case round =>
        obtain ⟨k, hk, rfl, HA, HR, hbel⟩ := hrel
        by_cases hlt : k < n
        · obtain ⟨e, he⟩ : ∃ e, ls[k]? = some e := ⟨_, List.getElem?_eq_getElem (by rw [← HN.out]; exact hlt)⟩
          obtain ⟨g0, g1⟩ := HC.out wr hbel k e he
          have hsz := HX.out k e he
          have hf := fun w => CF.out e.1 e.2 w hsz
          have hno := HNo.out k e he
          have hall := fun q => allE_next he HA.out q
          have hat := partsT_at he
          obtain ⟨ek, et⟩ := e
          simp only at g0 g1 hf hsz hat
          unfold fmtAE fmtAS at hf
          obtain ⟨b, hb⟩ : ∃ b, b = Pl.goodA ek (by8 et) := ⟨_, rfl⟩
          rw [← hb] at hf
          rw [show goodE (ek, et) = b from hb.symm] at hno hall
          obtain ⟨f, hff⟩ : ∃ f, f = fmtB ek et := ⟨_, rfl⟩
          rw [← hff] at hf hat
          have CF2 := Lib.hid hf
          have HNo2 := Lib.hid hno
          have HAll := Lib.hid hall
          have HAt := Lib.hid hat
          clear hf hno hall hat hb hff he
          go_wp2_with fail
          refine (CF2.out _).mono ?_
          rintro e w1 ⟨rfl, hb⟩
          have hbw : Below wr.heap.size wr w1 := below_new hb
          have HB1 := Lib.hid (hbel.trans (hbw.mono hbel.size))
          clear hb
          cases b
          · go_wp2
            go_ret2
            exact ⟨(fmtLE_no (HNo2.out (by first | rfl | trivial))).symm, HB1.out⟩
          · have HA2 := Lib.hid (HAll.out (by first | rfl | trivial))
            have hcd := (hbw.cell (p := ⟨B, k, none⟩) HR.out.lt).trans (HR.out.cell hlt)
            have hfd := (hbw.frozen (p := ⟨B, k, none⟩) HR.out.lt).trans (HR.out.frozen k)
            rw [if_neg (Nat.lt_irrefl k)] at hcd
            have hrow1 : w1.rowIs B 9 n (fun j => if j < k then .string ((partsT ls).getD j ByteArray.empty) else .string ByteArray.empty) := by obtain ⟨c, h1, h2, h3⟩ := HR.out; exact ⟨c, (hbw.block _ HR.out.lt).trans h1, h2, h3⟩
            have HR2 : Hid ((w1.setCell ⟨B, k, none⟩ (.string f)).rowIs B 9 n (fun j => if j < k + 1 then .string ((partsT ls).getD j ByteArray.empty) else .string ByteArray.empty)) := by
              refine (hrow1.set k (.string f)).congr fun j hj => ?_
              by_cases hjk : j = k
              · subst hjk; simp [List.getD, HAt.out]
              · rw [if_neg hjk]
                by_cases hjl : j < k
                · rw [if_pos hjl, if_pos (by omega)]
                · rw [if_neg hjl, if_neg (by omega)]
            have HB2 : Hid (Below w.heap.size w (w1.setCell ⟨B, k, none⟩ (.string f))) := HB1.out.setCell (by show w.heap.size ≤ B; rw [HBB.out]; exact Nat.le_refl _) _
            clear hrow1 HR HA hbw HB1 g0 g1 hbel
            go_wp2
            go_roundw
            case rel => exact ⟨k + 1, by omega, by go_num, HA2, HR2, HB2.out⟩
            case measure => simp [intOf]; omega
        · obtain rfl : k = n := by omega
          have ha := HA.out
          rw [List.take_of_length_le (by rw [← HN.out]; exact Nat.le_refl _)] at ha
          have hall : ∀ e ∈ ls, goodE e = true := List.all_eq_true.1 ha
          have hj := Join_go B 0 k (partsT ls) 32 wr (fun j x hx => by
            have hj : j < k := by
              rcases Nat.lt_or_ge j k with h' | h'
              · exact h'
              · rw [List.getElem?_eq_none (by rw [partsT_len, ← HN.out]; exact h')] at hx; cases hx
            have := HR.out.cell hj
            rw [if_pos hj] at this
            rw [Nat.zero_add, this]
            simp [List.getD, hx]) HR.out.lt (by rw [partsT_len, ← HN.out]; exact h0) (by rw [partsT_len, ← HN.out]; omega) (by rw [partsT_len, ← HN.out]; exact Nat.le_refl _) (HSz.out hall)
          have hj2 : Calls Try.prog 51 #[.slice (some ⟨B, 0, none⟩) k k, .string ⟨#[32]⟩] wr fun e w' => e = .returned (.tuple #[.string (textB ls), .bool true]) ∧ Below wr.heap.size wr w' := by
            rw [show (k : Nat) = (partsT ls).length by rw [partsT_len, ← HN.out]] 
            rw [show (partsT ls).length = k by rw [partsT_len, ← HN.out]] at hj ⊢
            exact hj.mono fun e w' ⟨h1, h2⟩ => ⟨h1.yes (HOk.out hall), h2⟩
          have hend := HEnd.out ha
          obtain ⟨t, ht⟩ : ∃ t, t = textB ls := ⟨_, rfl⟩
          rw [← ht] at hj2 hend
          have HJ := Lib.hid hj2
          by_cases h60 : t.size ≤ 60
          · rw [decide_eq_true h60] at hend
            have HF : Hid (fmtLE ls = .returned (.tuple #[.string t, .bool true])) := by show _ = _; rw [ht]; exact fmtLE_yes hend
            clear hj hj2 hend ht hall ha HA HR HSz HOk HEnd HNo HX HC CF
            go_wp2_with fail
            refine HJ.out.mono ?_
            rintro e w1 ⟨rfl, hb⟩
            have HB1 := Lib.hid (hbel.trans (hb.mono hbel.size))
            clear hb
            go_wp2
            go_ret2
            exact ⟨HF.out.symm, HB1.out⟩
          · rw [decide_eq_false h60] at hend
            have HF := Lib.hid (fmtLE_no hend)
            have hlt : t.size ≤ 1048576 := by
              have := textB_size (ls := ls) (by intro e; rw [e] at HN; have := HN.out; simp at this; omega)
              have := sumF_small hall
              have := HN.out
              rw [ht]; omega
            clear hj hj2 hend ht hall ha HA HR HSz HOk HEnd HNo HX HC CF
            go_wp2_with fail
            refine HJ.out.mono ?_
            rintro e w1 ⟨rfl, hb⟩
            have HB1 := Lib.hid (hbel.trans (hb.mono hbel.size))
            clear hb
            go_wp2
            go_ret2
            exact ⟨HF.out.symm, HB1.out⟩
    · obtain ⟨a, cap, rfl, hcap⟩ := h.len
      have e : ls = [] := List.eq_nil_of_length_eq_zero (by omega)
      subst e
      rw [fmtLE_no (okL_no_len (by simp))]
      have hmk := run_make_row' (P := Try.prog) 36 9 (.string ByteArray.empty) 16 Try.underlying36 infoStr' rfl .i64 .i64 0 (by omega) (by omega)
      rw [show ((0 : Nat) : Int) = 0 from rfl] at hmk
      have j := fun w a c => Join_bad a 0 c ⟨#[32]⟩ w (by unfold maxLen; omega) (.inl rfl)
      unfold unjoined at j
      have J := Lib.hid j
      clear j
      clear h hx hbig h0 hn
      go_enter Try.func20, Try.ntmps20
      go_wp2_with fail
      refine wp_loop_rounds 1 ?_
      rw [rounds_succ]
      go_wp2_with fail
      refine (J.out _ _ _).mono ?_
      rintro e w1 ⟨rfl, rfl⟩
      go_wp2
      go_ret2
      exact ⟨rfl, (Below.refl _ _).alloc (Nat.le_refl _) _⟩
end Go.Proofs.Ytiajaeaffmmckaa
