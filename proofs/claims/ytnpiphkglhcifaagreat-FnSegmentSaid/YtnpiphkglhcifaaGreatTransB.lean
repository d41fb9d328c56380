/-
  CONTRACTS of the specification's chapter 5 over translations, continued: l5Text, FormatTranslation.
-/
import Derived.Test.YtnpiphkglhcifaaGreatTrans
namespace Go.Proofs.YtnpiphkglhcifaaGreat
set_option maxRecDepth 100000
open Go.RowKit

/-- The notations. -/
def partsT (ls : List (Int × ByteArray)) : List ByteArray := ls.map fun e => fmtB e.1 e.2
/-- The string of a translation. -/
def textB (ls : List (Int × ByteArray)) : ByteArray := ⟨(Lib.join (Pl.texts (partsT ls)) [32]).toArray⟩
theorem partsT_take (ls : List (Int × ByteArray)) (k : Nat) : partsT (ls.take k) = (partsT ls).take k := by unfold partsT; rw [List.map_take]
theorem partsT_at {ls : List (Int × ByteArray)} {k : Nat} {e : Int × ByteArray} (h : ls[k]? = some e) : (partsT ls)[k]? = some (fmtB e.1 e.2) := by unfold partsT; rw [List.getElem?_map, h]; rfl
theorem textB_first {ls : List (Int × ByteArray)} {e : Int × ByteArray} (h : ls[0]? = some e) : (⟨#[]⟩ : ByteArray) ++ fmtB e.1 e.2 = textB (ls.take (0 + 1)) := by
  unfold textB
  rw [partsT_take, Pl.join_succ_first _ _ _ (partsT_at h)]
  apply ByteArray.ext
  simp [ByteArray.data_append]
theorem textB_next {ls : List (Int × ByteArray)} {k : Nat} {e : Int × ByteArray} (h0 : 0 < k) (h : ls[k]? = some e) : (textB (ls.take k) ++ (⟨#[32]⟩ : ByteArray)) ++ fmtB e.1 e.2 = textB (ls.take (k + 1)) := by
  unfold textB
  rw [partsT_take, partsT_take, Pl.join_succ _ _ _ _ h0 (partsT_at h)]
  apply ByteArray.ext
  simp [ByteArray.data_append]
theorem lens_parts (ls : List (Int × ByteArray)) : Lib.lens (Pl.texts (partsT ls)) = sumF ls := by
  unfold Lib.lens Pl.texts partsT sumF
  rw [List.map_map, List.map_map]
  congr 1
theorem textB_size {ls : List (Int × ByteArray)} (h : ls ≠ []) : (textB ls).size + 1 = ls.length + sumF ls := by
  have := Pl.join_len (partsT ls) 32 (by unfold partsT; simpa using h)
  rw [lens_parts] at this
  have e : (partsT ls).length = ls.length := by unfold partsT; rw [List.length_map]
  rw [e] at this
  have e2 : (textB ls).size = (Lib.join (Pl.texts (partsT ls)) [32]).length := by unfold textB; show (Lib.join (Pl.texts (partsT ls)) [32]).toArray.size = _; simp
  rw [e2]
  exact this
set_option maxHeartbeats 1000000 in
theorem l5Text_any (v : Value) (ls : List (Int × ByteArray)) (w : World) (h : AtomsAt w v ls) (hn : ls.length ≤ 10) (hx : ∀ e ∈ ls, e.2.size ≤ 1048600) :
    Calls Tryz.prog 66 #[v] w fun e w' => e = .returned (.string (textB ls)) ∧ Below w.heap.size w w' := by
  by_cases hlen : 0 < ls.length
  · obtain ⟨bk, o, cap, rfl, hcap, _, hcell⟩ := h.some hlen
    have HX := Lib.hid (fun k e (h : ls[k]? = some e) => hx e (List.mem_of_getElem? h))
    obtain ⟨n, hnn⟩ : ∃ n, n = ls.length := ⟨_, rfl⟩
    rw [← hnn] at hlen hcap hn ⊢
    have HN := Lib.hid hnn
    have HC := Lib.hid hcell
    have CF := Lib.hid (fun k t w ht => l5Format_any k t w ht)
    have hs1 : (⟨#[32]⟩ : ByteArray).size = 1 := rfl
    clear h hx hnn hcell
    go_enter Tryz.func66, Tryz.ntmps66
    go_wp2_with fail
    go_loopw [3, 4] (fun s i wr => ∃ (k : Nat) (t : ByteArray), i = .int .i64 k ∧ k ≤ n ∧ s = .string t ∧ Hid (t = textB (ls.take k)) ∧ t.size ≤ 1048606 * k ∧ Below w.heap.size w wr) (fun _ i _ => n - (intOf i).toNat)
    case atStart => exact ⟨0, ⟨#[]⟩, rfl, Nat.zero_le _, rfl, Lib.hid rfl, Nat.le_refl _, Below.refl _ _⟩
    case round =>
      obtain ⟨k, t, rfl, hk, rfl, HT, hts, hbel⟩ := hrel
      by_cases hlt : k < n
      · obtain ⟨e, he⟩ : ∃ e, ls[k]? = some e := ⟨_, List.getElem?_eq_getElem (by rw [← HN.out]; exact hlt)⟩
        have hsz := HX.out k e he
        obtain ⟨g0, g1⟩ := HC.out wr hbel k e he
        have hf := fun w => CF.out e.1 e.2 w hsz
        have hfs := fmtB_size e.1 e.2
        have hfirst := fun (h0 : k = 0) => textB_first (e := e) (by rw [← h0]; exact he)
        have hnext := fun (h0 : 0 < k) => textB_next h0 he
        obtain ⟨ek, et⟩ := e
        simp only at g0 g1 hf hfs hsz hfirst hnext
        obtain ⟨u, hu⟩ : ∃ u, u = fmtB ek et := ⟨_, rfl⟩
        rw [← hu] at hf hfs hfirst hnext
        have CF1 := Lib.hid hf
        have HFirst := Lib.hid hfirst
        have HNext := Lib.hid hnext
        clear he hf hfirst hnext hu
        rcases Nat.eq_zero_or_pos k with h0 | h0
        · subst h0
          have ht0 : t = ⟨#[]⟩ := by rw [HT.out]; rfl
          have HF := Lib.hid (HFirst.out rfl)
          have hsz0 : ((⟨#[]⟩ : ByteArray) ++ u).size = u.size := by rw [ByteArray.size_append]; exact Nat.zero_add _
          subst ht0
          have hs0 : (⟨#[]⟩ : ByteArray).size = 0 := rfl
          simp only [Nat.zero_mul, Nat.add_zero] at g0 g1
          clear HT HFirst HNext
          go_wp2_with fail
          refine (CF1.out _).mono ?_
          rintro e w1 ⟨rfl, hb1⟩
          have HB1 := Lib.hid (hbel.trans (hb1.mono hbel.size))
          clear hb1
          go_wp2
          go_roundw
          case rel => exact ⟨0 + 1, _, by go_num, by omega, rfl, HF, by omega, HB1.out⟩
          case measure => simp [intOf]; omega
        · have HF : Hid (t ++ ⟨#[32]⟩ ++ u = textB (ls.take (k + 1))) := by rw [HT.out]; exact HNext.out h0
          have hsz1 : (t ++ (⟨#[32]⟩ : ByteArray)).size = t.size + 1 := by rw [ByteArray.size_append]; rfl
          have hsz2 : (t ++ (⟨#[32]⟩ : ByteArray) ++ u).size = t.size + 1 + u.size := by rw [ByteArray.size_append, hsz1]
          have h0' : (0 : Int) < (k : Int) := by omega
          clear HT HFirst HNext
          go_wp2_with fail
          refine (CF1.out _).mono ?_
          rintro e w1 ⟨rfl, hb1⟩
          have HB1 := Lib.hid (hbel.trans (hb1.mono hbel.size))
          clear hb1
          go_wp2
          go_roundw
          case rel => exact ⟨k + 1, _, by go_num, by omega, rfl, HF, by omega, HB1.out⟩
          case measure => simp [intOf]; omega
      · obtain rfl : k = n := by omega
        have HF : Hid (t = textB ls) := by show t = _; rw [HT.out, List.take_of_length_le (by rw [← HN.out]; exact Nat.le_refl _)]
        clear HT
        go_wp2
        go_ret
        exact ⟨ret_str HF.out, hbel⟩
  · obtain ⟨a, cap, rfl, hcap⟩ := h.len
    have e : ls = [] := List.eq_nil_of_length_eq_zero (by omega)
    subst e
    clear h hx hlen hn
    go_enter Tryz.func66, Tryz.ntmps66
    go_wp2
    refine wp_loop_rounds 1 ?_
    rw [rounds_succ]
    go_wp2
    go_ret
    exact ⟨rfl, Below.refl _ _⟩
/-- What FormatTranslation answers. -/
def fmtLS (ls : List (Int × ByteArray)) : ByteArray := if okL ls = true then textB ls else ⟨#[]⟩
def fmtLE (ls : List (Int × ByteArray)) : Ending := .returned (.tuple #[.string (fmtLS ls), .bool (okL ls)])
end Go.Proofs.YtnpiphkglhcifaaGreat
