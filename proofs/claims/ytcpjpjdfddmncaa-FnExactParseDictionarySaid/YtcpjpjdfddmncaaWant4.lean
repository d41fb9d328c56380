/-
  WHAT THE LAWS OF CHAPTER 4 WANT OF THE PROGRAM: a record of contracts, one for each function. Impl4 proves it of the code.
-/
import Derived.Test.YtcpjpjdfddmncaaOut
namespace Go.Proofs.Ytcpjpjdfddmncaa
set_option maxRecDepth 100000
open Go.RowKit

/-- An answer of ints of its own and a flag. -/
def OutO (base : Nat) (w' : World) (xs : List Int) (b : Bool) (e : Ending) : Prop := ∃ u, e = .returned (.tuple #[u, .bool b]) ∧ OwnInts w' base u xs.length (fun j => xs.getD j 0)
theorem parI_len (t : ByteArray) : (parI t).length ≤ 6 := by unfold parI; rw [outI_len]; exact (Pl.parse_ok _).1
theorem catI_len (xs ys : List Int) : (catI xs ys).length ≤ 6 := by
  unfold catI
  split
  · rename_i h
    unfold catB at h
    rw [Bool.and_eq_true] at h
    exact (okO_parts h.2).2.1
  · exact Nat.zero_le _
structure Impl4 : Prop where
  valid : ∀ (v : Value) (xs : List Int) (w : World), IntsAt w v xs → xs.length ≤ 2097152 → Calls Try.prog 54 #[v] w fun e w' => e = .returned (.bool (okO xs)) ∧ Below w.heap.size w w'
  format : ∀ (v : Value) (xs : List Int) (w : World), IntsAt w v xs → xs.length ≤ 2097152 → Calls Try.prog 94 #[v] w fun e w' => e = fmtE xs ∧ Below w.heap.size w w'
  parse : ∀ (t : ByteArray) (w : World), t.size ≤ 1048576 → Calls Try.prog 97 #[.string t] w fun e w' => OutO w.heap.size w' (parI t) (parB t) e ∧ Below w.heap.size w w'
end Go.Proofs.Ytcpjpjdfddmncaa
