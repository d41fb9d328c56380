/-
  CONTRACTS of the laws' marks: markText, markStringS, heldStringS.
-/
import Derived.Test.YtagbffnabjngfaaStrs
import Derived.Lib.ItoaNum
import Derived.Laws.IdiomStrings
import Derived.Lib.BufferOwn
import Derived.Deep.RegionWith
import Derived.Deep.RegionHeld3
namespace Go.Proofs.Ytagbffnabjngfaa
set_option maxRecDepth 100000
open Go.RowKit

/-- The mark of a number. -/
def markB (k : Nat) : ByteArray := ⟨(109 :: Lib.decDigits k).toArray⟩

set_option maxHeartbeats 1000000 in
theorem markText_any (k : Nat) (h0 : 1 ≤ k) (h1 : k ≤ 1000000000) (w : World) :
    Calls Try.prog 46 #[.int .i64 k] w fun e w' => e = .returned (.string (markB k)) ∧ Below w.heap.size w w' := by
  have h2 : ¬ (k : Int) ≤ 0 := by omega
  go_enter Try.func46, Try.ntmps46
  go_wp2
  go_loopw [0, 3] (fun kv o wr => ∃ (j : Nat) (ob : ByteArray), kv = .int .i64 j ∧ o = .string ob ∧ ob.size + j ≤ 1000000000 ∧ Below w.heap.size w wr ∧ Hid (if j = 0 then ob.data.toList = Lib.decDigits k else Lib.decDigits j ++ ob.data.toList = Lib.decDigits k)) (fun kv _ _ => (intOf kv).toNat)
  case atStart => exact ⟨k, ⟨#[]⟩, rfl, rfl, (by show 0 + k ≤ _; omega), Below.refl _ _, by show (if _ then _ else _); rw [if_neg (by omega)]; simp⟩
  case round =>
    obtain ⟨j, ob, rfl, rfl, hob, hbl, HJ⟩ := hrel
    by_cases hj0 : 0 < j
    · have hj0' : (0 : Int) < (j : Int) := by omega
      obtain ⟨d, hd⟩ : ∃ d : UInt8, d = UInt8.ofNat (48 + j % 10) := ⟨_, rfl⟩
      have hdn : (d.toNat : Int) = 48 + (j : Int) % 10 := by rw [hd, UInt8.toNat_ofNat']; omega
      obtain ⟨dB, hdB⟩ : ∃ dB : ByteArray, dB = ⟨#[d]⟩ := ⟨_, rfl⟩
      have hds : dB.size ≤ 1 := by rw [hdB]; exact Nat.le_refl _
      have hcv : (convert 22 9 (.slice (some ⟨wr.heap.size, 0, none⟩) 1 1)).run Try.prog (wr.alloc (.cells #[.int .u8 (48 + (j : Int) % 10)] 5)) = .ok (.string dB) (wr.alloc (.cells #[.int .u8 (48 + (j : Int) % 10)] 5)) := by
        rw [hdB, ← hdn]
        refine run_convert_bytes_back (P := Try.prog) _ _ _ _ ⟨wr.heap.size, 0, none⟩ 1 [d] Try.underlying22 Try.underlying5 Try.underlying9 fun i hi => ?_
        obtain rfl : i = 0 := by simp at hi; omega
        simp [Addr.add]
      have HJ' : Hid (if j / 10 = 0 then (dB ++ ob).data.toList = Lib.decDigits k else Lib.decDigits (j / 10) ++ (dB ++ ob).data.toList = Lib.decDigits k) := by
        have h3 := HJ.out
        rw [if_neg (by omega)] at h3
        have h4 : (dB ++ ob).data.toList = d :: ob.data.toList := by rw [hdB]; simp [ByteArray.data_append]
        by_cases h5 : j < 10
        · rw [Lib.decDigits_one h5] at h3
          show (if _ then _ else _)
          rw [if_pos (by omega), h4, ← h3, hd, show j % 10 = j by omega]; rfl
        · rw [Lib.decDigits, dif_neg h5] at h3
          show (if _ then _ else _)
          rw [if_neg (by omega), h4, ← h3, hd, List.append_assoc]; rfl
      have hq : ((j : Int) / 10) = ((j / 10 : Nat) : Int) := by omega
      have HQ := Lib.hid hq
      clear hd hdn hdB HJ hq
      go_wp2
      go_roundw
      case rel => exact ⟨j / 10, dB ++ ob, by rw [HQ.out], rfl, by rw [ByteArray.size_append]; omega, hbl.alloc hbl.size _, HJ'⟩
      case measure => simp [intOf]; omega
    · obtain rfl : j = 0 := by omega
      have h3 := HJ.out
      rw [if_pos rfl] at h3
      have hs1 : (⟨#[109]⟩ : ByteArray).size = 1 := rfl
      have HF : Hid ((⟨#[109]⟩ ++ ob : ByteArray) = markB k) := by
        apply ByteArray.ext
        apply Array.toList_inj.1
        simp [markB, ByteArray.data_append, h3]
      clear h3 HJ
      go_wp2
      go_ret
      exact ⟨ret_str HF.out, hbl⟩

/-- v is a slice of n cells of its own, from block 'base' on, that hold the strings f. -/
def OwnStrs (w : World) (base : Nat) (v : Value) (n : Nat) (f : Nat → ByteArray) : Prop :=
  (n = 0 ∧ ∃ a cap, v = .slice a 0 cap) ∨ ∃ g cap, v = .slice (some ⟨g, 0, none⟩) n cap ∧ n ≤ cap ∧ base ≤ g ∧ 0 < n ∧ g < w.heap.size ∧ (∀ j, j < n → w.cell? ⟨g, j, none⟩ = some (.string (f j))) ∧ ∀ j, w.frozen? ⟨g, j, none⟩ = false
theorem OwnStrs.below {w w' : World} {base : Nat} {v : Value} {n : Nat} {f : Nat → ByteArray} (h : OwnStrs w base v n f) (hb : Below w.heap.size w w') : OwnStrs w' base v n f := by
  rcases h with h | ⟨g, cap, hv, hn, hg, h0, hlt, hc, hf⟩
  · exact .inl h
  · exact .inr ⟨g, cap, hv, hn, hg, h0, Nat.lt_of_lt_of_le hlt hb.size, fun j hj => (hb.cell (p := ⟨g, j, none⟩) hlt).trans (hc j hj), fun j => (hb.frozen (p := ⟨g, j, none⟩) hlt).trans (hf j)⟩
theorem ownStrs_of {w : World} {base : Nat} {v : Value} {xs : List ByteArray} (h : w.ownsRow base 9 1 v xs.length (xs.map .string)) : OwnStrs w base v xs.length (fun j => xs.getD j ByteArray.empty) := by
  rcases h.2 with ⟨rfl, h0⟩ | ⟨g, cap, cur, rfl, hb, hg, hn, _, hsz, htake⟩
  · exact .inl ⟨h0, none, 0, rfl⟩
  · rcases Nat.eq_zero_or_pos xs.length with h0 | h0
    · exact .inl ⟨h0, _, _, by rw [h0]⟩
    · have hlt : g < w.heap.size := (Array.getElem?_eq_some_iff.1 hg).1
      refine .inr ⟨g, cap, rfl, hn, hb, h0, hlt, fun j hj => ?_, fun j => by simp [World.frozen?, hg]⟩
      have h1 : (cur.toList.take (xs.length * 1))[j]? = some (.string (xs.getD j ByteArray.empty)) := by
        rw [htake, List.getElem?_map, List.getElem?_eq_getElem hj]; simp [List.getD, List.getElem?_eq_getElem hj]
      rw [List.getElem?_take_of_lt (by omega)] at h1
      simp only [Array.getElem?_toList] at h1
      simp [World.cell?, hg, h1]

set_option maxHeartbeats 1000000 in
theorem mark_any (base : Nat) (v : Value) (n : Nat) (f : Nat → ByteArray) (w : World) (h : OwnStrs w base v n f) (hbase : base ≤ w.heap.size) (hn : n ≤ 100000000) :
    Calls Try.prog 27 #[v, .int .i64 1] w fun e w' => e = .returned (.int .i64 (1 + (n : Int))) ∧ OwnStrs w' base v n (fun j => markB (1 + j)) ∧ Below base w w' := by
  rcases h with ⟨rfl, a, cap, rfl⟩ | ⟨g, cap, rfl, hcap, hg, h0, hlt, hc, hf⟩
  · go_enter Try.func27, Try.ntmps27
    go_wp2
    refine wp_loop_rounds 1 ?_
    rw [rounds_succ]
    go_wp2
    go_ret
    exact ⟨rfl, .inl ⟨rfl, _, _, rfl⟩, Below.refl _ _⟩
  · have HC := Lib.hid hc
    have HF := Lib.hid hf
    have HG := Lib.hid hg
    clear hc hf
    go_enter Try.func27, Try.ntmps27
    go_wp2
    go_loopw [1, 5] (fun m i wr => ∃ k : Nat, k ≤ n ∧ i = .int .i64 k ∧ m = .int .i64 (1 + (k : Int)) ∧ Hid (∀ j, j < k → wr.cell? ⟨g, j, none⟩ = some (.string (markB (1 + j)))) ∧ Hid (∀ j, k ≤ j → j < n → wr.cell? ⟨g, j, none⟩ = some (.string (f j))) ∧ Hid (∀ j, wr.frozen? ⟨g, j, none⟩ = false) ∧ Below base w wr) (fun _ i _ => n - (intOf i).toNat)
    case atStart => exact ⟨0, Nat.zero_le _, rfl, rfl, fun j hj => by omega, fun j _ hj => HC.out j hj, HF.out, Below.refl _ _⟩
    case round =>
      obtain ⟨k, hk, rfl, rfl, HM, HR, HFr, hbel⟩ := hrel
      have hszr := hbel.size
      by_cases hlt' : k < n
      · have hck := HR.out k (Nat.le_refl _) hlt'
        have hfk := HFr.out k
        have hgl : g < wr.heap.size := by omega
        have c := fun w => markText_any (1 + k) (by omega) (by omega) w
        have e1 : ((1 + k : Nat) : Int) = 1 + (k : Int) := by omega
        simp only [e1] at c
        have C := Lib.hid c
        clear c e1
        go_wp2_with fail
        refine (C.out _).mono ?_
        rintro e w1 ⟨rfl, hb1⟩
        have hck1 := (hb1.cell (p := ⟨g, k, none⟩) hgl).trans hck
        have hfk1 := (hb1.frozen (p := ⟨g, k, none⟩) hgl).trans hfk
        have HM' : Hid (∀ j, j < k + 1 → (w1.setCell ⟨g, k, none⟩ (.string (markB (1 + k)))).cell? ⟨g, j, none⟩ = some (.string (markB (1 + j)))) := by
          intro j hj
          by_cases hjk : j = k
          · subst hjk; exact World.cell?_setCell_same _ _ _ hck1
          · rw [World.cell?_setCell_other _ _ _ _ (by intro e; injection e; omega)]
            exact (hb1.cell (p := ⟨g, j, none⟩) hgl).trans (HM.out j (by omega))
        have HR' : Hid (∀ j, k + 1 ≤ j → j < n → (w1.setCell ⟨g, k, none⟩ (.string (markB (1 + k)))).cell? ⟨g, j, none⟩ = some (.string (f j))) := by
          intro j hj1 hj2
          rw [World.cell?_setCell_other _ _ _ _ (by intro e; injection e; omega)]
          exact (hb1.cell (p := ⟨g, j, none⟩) hgl).trans (HR.out j (by omega) hj2)
        have HFr' : Hid (∀ j, (w1.setCell ⟨g, k, none⟩ (.string (markB (1 + k)))).frozen? ⟨g, j, none⟩ = false) := by
          intro j
          rw [World.frozen?_setCell]
          exact (hb1.frozen (p := ⟨g, j, none⟩) hgl).trans (HFr.out j)
        have HBl : Hid (Below base w (w1.setCell ⟨g, k, none⟩ (.string (markB (1 + k))))) := (hbel.trans (hb1.mono (by omega))).setCell (by exact hg) _
        clear hck hfk
        go_wp2
        go_roundw
        case rel => exact ⟨k + 1, by omega, by go_num, by go_num, HM', HR', HFr', HBl.out⟩
        case measure => simp [intOf]; omega
      · obtain rfl : k = n := by omega
        go_wp2
        go_ret
        exact ⟨rfl, .inr ⟨g, cap, rfl, hcap, hg, h0, by omega, HM.out, HFr.out⟩, hbel⟩

set_option maxHeartbeats 2000000 in
theorem held_any (base : Nat) (v : Value) (n : Nat) (w : World) (h : OwnStrs w base v n (fun j => markB (1 + j))) (hn : n ≤ 100000000) :
    Calls Try.prog 28 #[v, .int .i64 1] w fun e w' => e = .returned (.int .i64 (1 + (n : Int))) ∧ Below w.heap.size w w' := by
  rcases h with ⟨rfl, a, cap, rfl⟩ | ⟨g, cap, rfl, hcap, hg, h0, hlt, hc, hf⟩
  · go_enter Try.func28, Try.ntmps28
    go_wp2
    refine wp_loop_rounds 1 ?_
    rw [rounds_succ]
    go_wp2
    go_ret
    exact ⟨rfl, Below.refl _ _⟩
  · have HC := Lib.hid hc
    clear hc hf hg
    go_enter Try.func28, Try.ntmps28
    go_wp2
    go_loopw [1, 5] (fun m i wr => ∃ k : Nat, k ≤ n ∧ i = .int .i64 k ∧ m = .int .i64 (1 + (k : Int)) ∧ Below w.heap.size w wr) (fun _ i _ => n - (intOf i).toNat)
    case atStart => exact ⟨0, Nat.zero_le _, rfl, rfl, Below.refl _ _⟩
    case round =>
      obtain ⟨k, hk, rfl, rfl, hbel⟩ := hrel
      by_cases hlt' : k < n
      · have hck := (hbel.cell (p := ⟨g, k, none⟩) hlt).trans (HC.out k hlt')
        have hgl : g < wr.heap.size := by have := hbel.size; omega
        have c := fun w => markText_any (1 + k) (by omega) (by omega) w
        have e1 : ((1 + k : Nat) : Int) = 1 + (k : Int) := by omega
        simp only [e1] at c
        have C := Lib.hid c
        clear c e1
        go_wp2_with fail
        go_region_with (go_at_call 46; refine (C.out _).mono ?_; rintro e w1 ⟨rfl, hb1⟩; have hck1 := (hb1.cell (p := ⟨g, k, none⟩) hgl).trans hck; have hbx : Below w.heap.size w w1 := hbel.trans (Below.trans (by first | exact Below.refl _ _ | exact (Below.refl _ _).drew) (hb1.mono hbel.size)))
        all_goals go_wp2
        all_goals go_roundw
        all_goals first
          | exact ⟨k + 1, by omega, by go_num, by go_num, by repeat (first | exact hbx | apply Below.drew)⟩
          | (simp [intOf]; omega)
      · obtain rfl : k = n := by omega
        go_wp2
        go_ret
        exact ⟨rfl, hbel⟩
end Go.Proofs.Ytagbffnabjngfaa
