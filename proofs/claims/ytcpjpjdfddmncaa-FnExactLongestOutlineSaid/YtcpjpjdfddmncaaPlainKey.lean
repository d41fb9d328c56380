/-
  KEYS OF OUTLINES in plain lists: an outline filled up with zeros; the order stays.
-/
import Derived.Test.YtcpjpjdfddmncaaPlainDict
namespace Go.Proofs.Ytcpjpjdfddmncaa.Pl
set_option maxRecDepth 100000

/-- Filled up with zeros to n. -/
def pad (n : Nat) (a : List Int) : List Int := a ++ List.replicate (n - a.length) 0
theorem pad_len {n : Nat} {a : List Int} (h : a.length ≤ n) : (pad n a).length = n := by unfold pad; rw [List.length_append, List.length_replicate]; omega
theorem pad_cons (n : Nat) (x : Int) (a : List Int) : pad (n + 1) (x :: a) = x :: pad n a := by
  unfold pad; rw [List.cons_append, List.length_cons, Nat.add_sub_add_right]
theorem pad_nil (n : Nat) : pad (n + 1) [] = 0 :: pad n [] := by unfold pad; simp [List.replicate_succ]
theorem cmp_pad : ∀ (n : Nat) (a b : List Int), a.length ≤ n → b.length ≤ n → (∀ x ∈ a, 0 < x) → (∀ x ∈ b, 0 < x) → cmp (pad n a) (pad n b) = cmp a b
  | n, [], [], _, _, _, _ => cmp_self _
  | 0, [], _ :: _, _, h, _, _ => by simp at h
  | n + 1, [], y :: b, _, _, _, hy => by
    rw [pad_nil, pad_cons]
    have := hy y (List.mem_cons_self ..)
    show (if (0 : Int) < y then (-1 : Int) else if y < 0 then 1 else cmp _ _) = -1
    rw [if_pos this]
  | 0, _ :: _, _, h, _, _, _ => by simp at h
  | n + 1, x :: a, [], _, _, hx, _ => by
    rw [pad_nil, pad_cons]
    have := hx x (List.mem_cons_self ..)
    show (if x < (0 : Int) then (-1 : Int) else if 0 < x then 1 else cmp _ _) = 1
    rw [if_neg (by omega), if_pos this]
  | n + 1, x :: a, y :: b, h, h', hx, hy => by
    rw [pad_cons, pad_cons]
    show (if x < y then (-1 : Int) else if y < x then 1 else cmp (pad n a) (pad n b)) = (if x < y then (-1 : Int) else if y < x then 1 else cmp a b)
    rw [cmp_pad n a b (by simpa using h) (by simpa using h') (fun z hz => hx z (List.mem_cons_of_mem _ hz)) (fun z hz => hy z (List.mem_cons_of_mem _ hz))]
theorem pad_inj {n : Nat} {a b : List Int} (ha : a.length ≤ n) (hb : b.length ≤ n) (hx : ∀ x ∈ a, 0 < x) (hy : ∀ x ∈ b, 0 < x) (h : pad n a = pad n b) : a = b := by
  have := cmp_pad n a b ha hb hx hy
  rw [h, cmp_self] at this
  exact (cmp_zero a b).1 this.symm
theorem six {l : List Int} (h : l.length = 6) : ∃ a b c d e f, l = [a, b, c, d, e, f] := by
  match l, h with
  | [a, b, c, d, e, f], _ => exact ⟨a, b, c, d, e, f, rfl⟩
end Go.Proofs.Ytcpjpjdfddmncaa.Pl
