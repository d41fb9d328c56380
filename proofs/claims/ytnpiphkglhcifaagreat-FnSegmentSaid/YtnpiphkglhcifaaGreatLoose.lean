/-
  CONTRACTS of reading relaxed notation: the program's strokeReader and ParseLooseStroke; the specification's l2Loose and ParseLooseStroke.
-/
import Derived.Test.YtnpiphkglhcifaaGreatNota
import Derived.Lib.Bytealg
namespace Go.Proofs.YtnpiphkglhcifaaGreat
set_option maxRecDepth 100000
open Go.RowKit

/-- The search for a label, as the library's IndexByte answers. -/
theorem find_index (c : UInt8) : ∀ (d f : Nat), 23 - f = d → f ≤ 23 → Lib.indexByte (Pl.lab.drop f) c = match Pl.find f c with | none => -1 | some k => (k : Int) - f := by
  intro d
  induction d with
  | zero =>
    intro f hd hf
    obtain rfl : f = 23 := by omega
    rw [Pl.find_end 23 c (Nat.le_refl _)]
    rfl
  | succ d ih =>
    intro f hd hf
    have hlt : f < Pl.lab.length := by show f < 23; omega
    have hlab : Pl.lab[f] = Pl.labK f := by unfold Pl.labK; rw [List.getD_eq_getElem?_getD, List.getElem?_eq_getElem hlt]; rfl
    rw [List.drop_eq_getElem_cons hlt, hlab, Pl.find_at f c (by omega)]
    unfold Lib.indexByte
    rw [ih (f + 1) (by omega) (by omega)]
    by_cases e : Pl.labK f = c
    · simp [e]
    · have e' : (Pl.labK f == c) = false := by simp [e]
      rw [if_neg (by simp [e']), if_neg e]
      cases hf' : Pl.find (f + 1) c with
      | none => rfl
      | some k =>
        have := (Pl.find_some hf').1
        simp only
        rw [if_neg (by simp; omega)]
        omega
theorem lab_tail_fin : ∀ f : Fin 24, (labB.extract f.1 23).data.toList = Pl.lab.drop f.1 := by decide +kernel
theorem lab_tail (f : Nat) (h : f ≤ 23) : (labB.extract f 23).data.toList = Pl.lab.drop f := lab_tail_fin ⟨f, by omega⟩


/-- What a reading of relaxed notation answers. -/
def looseE (t : ByteArray) : Ending := .returned (.tuple #[.int .i64 (Pl.loose t.data.toList : Nat), .bool (((Pl.loose t.data.toList : Nat) : Int) != 0)])
theorem looseE_none {t : ByteArray} (h : Pl.reads t.data.toList ⟨0, 0, false⟩ = none) : looseE t = .returned (.tuple #[.int .i64 0, .bool false]) := by
  unfold looseE Pl.loose; rw [h]; rfl
theorem looseE_some {t : ByteArray} {st : Pl.St} (h : Pl.reads t.data.toList ⟨0, 0, false⟩ = some st) : looseE t = .returned (.tuple #[.int .i64 st.s, .bool ((st.s : Int) != 0)]) := by
  unfold looseE Pl.loose; rw [h]
theorem reads_drop (t : ByteArray) (k : Nat) (h : k < t.size) (st : Pl.St) : Pl.reads (t.data.toList.drop k) st = (Pl.rstep st t[k]).bind (Pl.reads (t.data.toList.drop (k + 1))) := by
  have hk : k < t.data.toList.length := by rw [Array.length_toList]; exact h
  rw [List.drop_eq_getElem_cons hk, Pl.reads_cons]; rfl
theorem drop_end (t : ByteArray) (k : Nat) (h : t.size ≤ k) : t.data.toList.drop k = [] := List.drop_of_length_le (by rw [Array.length_toList]; exact h)



theorem looseE_zero {t : ByteArray} (h : Pl.loose t.data.toList = 0) : looseE t = .returned (.tuple #[.int .i64 0, .bool false]) := by unfold looseE; rw [h]; rfl
theorem looseE_pos {t : ByteArray} {n : Nat} (h : Pl.loose t.data.toList = n) (h0 : n ≠ 0) : looseE t = .returned (.tuple #[.int .i64 n, .bool true]) := by
  unfold looseE
  rw [h, show (((n : Nat) : Int) != 0) = true by rw [bne_iff_ne]; omega]
/-- What a reading of strict notation answers. -/
def strictE (t : ByteArray) : Ending := .returned (.tuple #[.int .i64 (Pl.strict t.data.toList : Nat), .bool (((Pl.strict t.data.toList : Nat) : Int) != 0)])
theorem strictE_zero {t : ByteArray} (h : Pl.strict t.data.toList = 0) : strictE t = .returned (.tuple #[.int .i64 0, .bool false]) := by unfold strictE; rw [h]; rfl
theorem strictE_pos {t : ByteArray} {n : Nat} (h : Pl.strict t.data.toList = n) (h0 : n ≠ 0) : strictE t = .returned (.tuple #[.int .i64 n, .bool true]) := by
  unfold strictE
  rw [h, show (((n : Nat) : Int) != 0) = true by rw [bne_iff_ne]; omega]
theorem strict_of_zero {t : ByteArray} (h : Pl.loose t.data.toList = 0) : Pl.strict t.data.toList = 0 := by
  unfold Pl.strict; rw [h]; split <;> rfl
theorem strict_of_eq {t : ByteArray} (h : notaB (Pl.loose t.data.toList) = t) : Pl.strict t.data.toList = Pl.loose t.data.toList := by
  unfold Pl.strict
  rw [if_pos]
  have := congrArg (fun x => x.data.toList) h
  simpa [notaB] using this
theorem strict_of_ne {t : ByteArray} (h : notaB (Pl.loose t.data.toList) ≠ t) : Pl.strict t.data.toList = 0 := by
  unfold Pl.strict
  rw [if_neg]
  intro e
  exact h (by unfold notaB; rw [e])
theorem notaB_len (n : Nat) : (notaB n).size ≤ 24 := by unfold notaB; rw [str_len]; exact Pl.nota_len n

end Go.Proofs.YtnpiphkglhcifaaGreat
