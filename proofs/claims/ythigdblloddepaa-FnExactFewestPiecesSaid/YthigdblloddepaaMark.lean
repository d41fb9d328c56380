/-
  CONTRACTS of the laws' marks: markText, markStringS, heldStringS.
-/
import Derived.Test.YthigdblloddepaaStrs
import Derived.Lib.ItoaNum
import Derived.Laws.IdiomStrings
import Derived.Lib.BufferOwn
import Derived.Deep.RegionWith
import Derived.Deep.RegionHeld3
namespace Go.Proofs.Ythigdblloddepaa
set_option maxRecDepth 100000
open Go.RowKit

/-- The mark of a number. -/
def markB (k : Nat) : ByteArray := ⟨(109 :: Lib.decDigits k).toArray⟩

set_option maxHeartbeats 1000000 in
theorem markText_any (k : Nat) (h0 : 1 ≤ k) (h1 : k ≤ 1000000000) (w : World) :
    Calls Try.prog 42 #[.int .i64 k] w fun e w' => e = .returned (.string (markB k)) ∧ Below w.heap.size w w' := by
  have h2 : ¬ (k : Int) ≤ 0 := by omega
  go_enter Try.func42, Try.ntmps42
  go_wp2
  go_loopw [0, 3] (fun kv o wr => ∃ (j : Nat) (ob : ByteArray), kv = .int .i64 j ∧ o = .string ob ∧ ob.size + j ≤ 1000000000 ∧ Below w.heap.size w wr ∧ Hid (if j = 0 then ob.data.toList = Lib.decDigits k else Lib.decDigits j ++ ob.data.toList = Lib.decDigits k)) (fun kv _ _ => (intOf kv).toNat)
  case atStart => exact ⟨k, ⟨#[]⟩, rfl, rfl, (by show 0 + k ≤ _; omega), Below.refl _ _, by show (if _ then _ else _); rw [if_neg (by omega)]; simp⟩
  case round =>
    obtain ⟨j, ob, rfl, rfl, hob, hbl, HJ⟩ := hrel
    by_cases hj0 : 0 < j
    · have hj0' : (0 : Int) < (j : Int) := by omega
      obtain ⟨d, hd⟩ : ∃ d : UInt8, d = UInt8.ofNat (48 + j % 10) := ⟨_, rfl⟩
      have hdn : (d.toNat : Int) = 48 + (j : Int) % 10 := by rw [hd, UInt8.toNat_ofNat']; omega
      obtain ⟨dB, hdB⟩ : ∃ dB : ByteArray, dB = ⟨#[d]⟩ := ⟨_, rfl⟩
      have hds : dB.size ≤ 1 := by rw [hdB]; exact Nat.le_refl _
      have hcv : (convert 96 9 (.slice (some ⟨wr.heap.size, 0, none⟩) 1 1)).run Try.prog (wr.alloc (.cells #[.int .u8 (48 + (j : Int) % 10)] 5)) = .ok (.string dB) (wr.alloc (.cells #[.int .u8 (48 + (j : Int) % 10)] 5)) := by
        rw [hdB, ← hdn]
        refine run_convert_bytes_back (P := Try.prog) _ _ _ _ ⟨wr.heap.size, 0, none⟩ 1 [d] Try.underlying96 Try.underlying5 Try.underlying9 fun i hi => ?_
        obtain rfl : i = 0 := by simp at hi; omega
        simp [Addr.add]
      have HJ' : Hid (if j / 10 = 0 then (dB ++ ob).data.toList = Lib.decDigits k else Lib.decDigits (j / 10) ++ (dB ++ ob).data.toList = Lib.decDigits k) := by
        have h3 := HJ.out
        rw [if_neg (by omega)] at h3
        have h4 : (dB ++ ob).data.toList = d :: ob.data.toList := by rw [hdB]; simp [ByteArray.data_append]
        by_cases h5 : j < 10
        · rw [Lib.decDigits_one h5] at h3
          show (if _ then _ else _)
          rw [if_pos (by omega), h4, ← h3, hd, show j % 10 = j by omega]; rfl
        · rw [Lib.decDigits, dif_neg h5] at h3
          show (if _ then _ else _)
          rw [if_neg (by omega), h4, ← h3, hd, List.append_assoc]; rfl
      have hq : ((j : Int) / 10) = ((j / 10 : Nat) : Int) := by omega
      have HQ := Lib.hid hq
      clear hd hdn hdB HJ hq
      go_wp2
      go_roundw
      case rel => exact ⟨j / 10, dB ++ ob, by rw [HQ.out], rfl, by rw [ByteArray.size_append]; omega, hbl.alloc hbl.size _, HJ'⟩
      case measure => simp [intOf]; omega
    · obtain rfl : j = 0 := by omega
      have h3 := HJ.out
      rw [if_pos rfl] at h3
      have hs1 : (⟨#[109]⟩ : ByteArray).size = 1 := rfl
      have HF : Hid ((⟨#[109]⟩ ++ ob : ByteArray) = markB k) := by
        apply ByteArray.ext
        apply Array.toList_inj.1
        simp [markB, ByteArray.data_append, h3]
      clear h3 HJ
      go_wp2
      go_ret
      exact ⟨ret_str HF.out, hbl⟩

/-- v is a slice of n cells of its own, from block 'base' on, that hold the strings f. -/
def OwnStrs (w : World) (base : Nat) (v : Value) (n : Nat) (f : Nat → ByteArray) : Prop :=
  (n = 0 ∧ ∃ a cap, v = .slice a 0 cap) ∨ ∃ g cap, v = .slice (some ⟨g, 0, none⟩) n cap ∧ n ≤ cap ∧ base ≤ g ∧ 0 < n ∧ g < w.heap.size ∧ (∀ j, j < n → w.cell? ⟨g, j, none⟩ = some (.string (f j))) ∧ ∀ j, w.frozen? ⟨g, j, none⟩ = false
theorem OwnStrs.below {w w' : World} {base : Nat} {v : Value} {n : Nat} {f : Nat → ByteArray} (h : OwnStrs w base v n f) (hb : Below w.heap.size w w') : OwnStrs w' base v n f := by
  rcases h with h | ⟨g, cap, hv, hn, hg, h0, hlt, hc, hf⟩
  · exact .inl h
  · exact .inr ⟨g, cap, hv, hn, hg, h0, Nat.lt_of_lt_of_le hlt hb.size, fun j hj => (hb.cell (p := ⟨g, j, none⟩) hlt).trans (hc j hj), fun j => (hb.frozen (p := ⟨g, j, none⟩) hlt).trans (hf j)⟩
theorem ownStrs_of {w : World} {base : Nat} {v : Value} {xs : List ByteArray} (h : w.ownsRow base 9 1 v xs.length (xs.map .string)) : OwnStrs w base v xs.length (fun j => xs.getD j ByteArray.empty) := by
  rcases h.2 with ⟨rfl, h0⟩ | ⟨g, cap, cur, rfl, hb, hg, hn, _, hsz, htake⟩
  · exact .inl ⟨h0, none, 0, rfl⟩
  · rcases Nat.eq_zero_or_pos xs.length with h0 | h0
    · exact .inl ⟨h0, _, _, by rw [h0]⟩
    · have hlt : g < w.heap.size := (Array.getElem?_eq_some_iff.1 hg).1
      refine .inr ⟨g, cap, rfl, hn, hb, h0, hlt, fun j hj => ?_, fun j => by simp [World.frozen?, hg]⟩
      have h1 : (cur.toList.take (xs.length * 1))[j]? = some (.string (xs.getD j ByteArray.empty)) := by
        rw [htake, List.getElem?_map, List.getElem?_eq_getElem hj]; simp [List.getD, List.getElem?_eq_getElem hj]
      rw [List.getElem?_take_of_lt (by omega)] at h1
      simp only [Array.getElem?_toList] at h1
      simp [World.cell?, hg, h1]


end Go.Proofs.Ythigdblloddepaa
