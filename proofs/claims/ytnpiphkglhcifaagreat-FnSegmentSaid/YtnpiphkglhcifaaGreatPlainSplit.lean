/-
  PLAIN MATHEMATICS of splitting a list of bytes at a byte. Nothing of the program stands here.
-/
import Derived.Lib.Strings
import Derived.Lib.Hide
namespace Go.Proofs.YtnpiphkglhcifaaGreat.Pl
set_option maxRecDepth 100000
open Go

/-- The parts between the bytes b. -/
def split (b : UInt8) : List UInt8 → List (List UInt8)
  | [] => [[]]
  | c :: l => if c = b then [] :: split b l else
    match split b l with
    | [] => [[c]]
    | p :: r => (c :: p) :: r

theorem split_mid (b : UInt8) (r : List UInt8) : ∀ p : List UInt8, b ∉ p → split b (p ++ b :: r) = p :: split b r
  | [], _ => by rw [List.nil_append, split, if_pos rfl]
  | c :: p, h => by
    rw [List.mem_cons, not_or] at h
    rw [List.cons_append, split, if_neg (fun e => h.1 e.symm), split_mid b r p h.2]
theorem split_end (b : UInt8) : ∀ p : List UInt8, b ∉ p → split b p = [p]
  | [], _ => rfl
  | c :: p, h => by
    rw [List.mem_cons, not_or] at h
    rw [split, if_neg (fun e => h.1 e.symm), split_end b p h.2]
theorem split_ne_nil (b : UInt8) (l : List UInt8) : split b l ≠ [] := by
  cases l with
  | nil => simp [split]
  | cons c l => unfold split; split
                · simp
                · cases split b l <;> simp

/-- The texts of lists of bytes. -/
def ofLists (ls : List (List UInt8)) : List ByteArray := ls.map fun l => ⟨l.toArray⟩
/-- The parts of a text. -/
def splitB (s : ByteArray) (b : UInt8) : List ByteArray := ofLists (split b s.data.toList)

/-- BETWEEN TWO ROUNDS: 'done' has been split off, the part that begins at f is being read, up to k. -/
def At (s : ByteArray) (b : UInt8) (f k : Nat) (done : List ByteArray) : Prop :=
  f ≤ k ∧ k ≤ s.size ∧ done.length ≤ f ∧ b ∉ (s.data.toList.drop f).take (k - f) ∧ splitB s b = done ++ ofLists (split b (s.data.toList.drop f))

theorem At.start (s : ByteArray) (b : UInt8) : At s b 0 0 [] := ⟨Nat.le_refl _, Nat.zero_le _, Nat.le_refl _, by simp, by simp [splitB]⟩

theorem data_len (s : ByteArray) : s.data.toList.length = s.size := by rw [Array.length_toList]; rfl

theorem piece_succ (s : ByteArray) (f k : Nat) (hf : f ≤ k) (hk : k < s.size) : (s.data.toList.drop f).take (k + 1 - f) = (s.data.toList.drop f).take (k - f) ++ [s[k]] := by
  have hl := data_len s
  have h1 : k - f < (s.data.toList.drop f).length := by rw [List.length_drop]; omega
  rw [show k + 1 - f = (k - f) + 1 by omega, List.take_succ_eq_append_getElem h1]
  congr 2
  rw [List.getElem_drop]
  have : s[k] = s.data.toList[k]'(by omega) := rfl
  rw [this]
  congr 1; omega

theorem At.skip {s : ByteArray} {b : UInt8} {f k : Nat} {done : List ByteArray} (h : At s b f k done) (hk : k < s.size) (hb : s[k] ≠ b) : At s b f (k + 1) done := by
  obtain ⟨h1, h2, h3, h4, h5⟩ := h
  refine ⟨by omega, by omega, h3, ?_, h5⟩
  rw [piece_succ s f k h1 hk]
  intro h
  rw [List.mem_append, List.mem_singleton] at h
  rcases h with h | h
  · exact h4 h
  · exact hb h.symm

theorem At.cut {s : ByteArray} {b : UInt8} {f k : Nat} {done : List ByteArray} (h : At s b f k done) (hk : k < s.size) (hb : s[k] = b) : At s b (k + 1) (k + 1) (done ++ [s.extract f k]) := by
  obtain ⟨h1, h2, h3, h4, h5⟩ := h
  have hl := data_len s
  refine ⟨Nat.le_refl _, by omega, by simp; omega, by simp, ?_⟩
  have e : s.data.toList.drop f = (s.data.toList.drop f).take (k - f) ++ b :: s.data.toList.drop (k + 1) := by
    have h6 := piece_succ s f k h1 hk
    have h7 : s.data.toList.drop f = (s.data.toList.drop f).take (k + 1 - f) ++ (s.data.toList.drop f).drop (k + 1 - f) := (List.take_append_drop _ _).symm
    rw [h6, hb, List.drop_drop, show f + (k + 1 - f) = k + 1 by omega] at h7
    rw [List.append_assoc] at h7
    exact h7
  rw [h5, e, split_mid b _ _ h4, List.append_assoc]
  congr 1
  unfold ofLists
  rw [List.map_cons, List.singleton_append]
  congr 1
  apply ByteArray.ext
  apply Array.toList_inj.1
  rw [Lib.extract_data]

theorem At.fin {s : ByteArray} {b : UInt8} {f : Nat} {done : List ByteArray} (h : At s b f s.size done) : splitB s b = done ++ [s.extract f s.size] := by
  obtain ⟨h1, h2, h3, h4, h5⟩ := h
  have hl := data_len s
  rw [List.take_of_length_le (by rw [List.length_drop]; omega)] at h4
  rw [h5, split_end b _ h4]
  congr 1
  unfold ofLists
  rw [List.map_cons, List.map_nil]
  congr 1
  apply ByteArray.ext
  apply Array.toList_inj.1
  rw [Lib.extract_data, List.take_of_length_le (by rw [List.length_drop]; omega)]
theorem At.len {s : ByteArray} {b : UInt8} {f k : Nat} {done : List ByteArray} (h : At s b f k done) : done.length ≤ k := Nat.le_trans h.2.2.1 h.1
end Go.Proofs.YtnpiphkglhcifaaGreat.Pl
