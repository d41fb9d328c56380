/-
  CONTRACTS of the program's chapter 6: textsOf, Lookup.
-/
import Derived.Test.YtnjbaomekbiflaaPlainDict
import Derived.Test.YtnjbaomekbiflaaDictL
import Derived.Test.YtnjbaomekbiflaaImpl4C
import Derived.Test.YtnjbaomekbiflaaImpl5F
import Derived.Laws.Rows
import Derived.Laws.CopyOwn
import Derived.Test.YtnjbaomekbiflaaChecked
import Derived.Maps.OwnSet
import Derived.Maps.Views
import Derived.Maps.StringElems
import Derived.DeepKeys4
import Derived.Test.YtnjbaomekbiflaaMix
namespace Go.Proofs.Ytnjbaomekbiflaa.Pl
set_option maxRecDepth 100000

/-- Filled up with zeros to n. -/
def pad (n : Nat) (a : List Int) : List Int := a ++ List.replicate (n - a.length) 0
theorem pad_len {n : Nat} {a : List Int} (h : a.length ≤ n) : (pad n a).length = n := by unfold pad; rw [List.length_append, List.length_replicate]; omega
theorem pad_cons (n : Nat) (x : Int) (a : List Int) : pad (n + 1) (x :: a) = x :: pad n a := by
  unfold pad; rw [List.cons_append, List.length_cons, Nat.add_sub_add_right]
theorem pad_nil (n : Nat) : pad (n + 1) [] = 0 :: pad n [] := by unfold pad; simp [List.replicate_succ]
theorem cmp_pad : ∀ (n : Nat) (a b : List Int), a.length ≤ n → b.length ≤ n → (∀ x ∈ a, 0 < x) → (∀ x ∈ b, 0 < x) → cmp (pad n a) (pad n b) = cmp a b
  | n, [], [], _, _, _, _ => cmp_self _
  | 0, [], _ :: _, _, h, _, _ => by simp at h
  | n + 1, [], y :: b, _, _, _, hy => by
    rw [pad_nil, pad_cons]
    have := hy y (List.mem_cons_self ..)
    show (if (0 : Int) < y then (-1 : Int) else if y < 0 then 1 else cmp _ _) = -1
    rw [if_pos this]
  | 0, _ :: _, _, h, _, _, _ => by simp at h
  | n + 1, x :: a, [], _, _, hx, _ => by
    rw [pad_nil, pad_cons]
    have := hx x (List.mem_cons_self ..)
    show (if x < (0 : Int) then (-1 : Int) else if 0 < x then 1 else cmp _ _) = 1
    rw [if_neg (by omega), if_pos this]
  | n + 1, x :: a, y :: b, h, h', hx, hy => by
    rw [pad_cons, pad_cons]
    show (if x < y then (-1 : Int) else if y < x then 1 else cmp (pad n a) (pad n b)) = (if x < y then (-1 : Int) else if y < x then 1 else cmp a b)
    rw [cmp_pad n a b (by simpa using h) (by simpa using h') (fun z hz => hx z (List.mem_cons_of_mem _ hz)) (fun z hz => hy z (List.mem_cons_of_mem _ hz))]
theorem pad_inj {n : Nat} {a b : List Int} (ha : a.length ≤ n) (hb : b.length ≤ n) (hx : ∀ x ∈ a, 0 < x) (hy : ∀ x ∈ b, 0 < x) (h : pad n a = pad n b) : a = b := by
  have := cmp_pad n a b ha hb hx hy
  rw [h, cmp_self] at this
  exact (cmp_zero a b).1 this.symm
theorem six {l : List Int} (h : l.length = 6) : ∃ a b c d e f, l = [a, b, c, d, e, f] := by
  match l, h with
  | [a, b, c, d, e, f], _ => exact ⟨a, b, c, d, e, f, rfl⟩
end Go.Proofs.Ytnjbaomekbiflaa.Pl

namespace Go.Proofs.Ytnjbaomekbiflaa
set_option maxRecDepth 100000
open Go.RowKit

/-- The key of no outline. -/
def z6 : List Int := List.replicate 6 0
theorem z6_len : z6.length = 6 := rfl
/-- The key of an outline. -/
def keyL (xs : List Int) : List Int := if okO xs = true then Pl.pad 6 xs else z6
def kyA (l : List Int) : Array Value := (l.map (Value.int .i64)).toArray
theorem keyL_yes {xs : List Int} (h : okO xs = true) : keyL xs = Pl.pad 6 xs := by unfold keyL; rw [if_pos h]
theorem keyL_no {xs : List Int} (h : okO xs = false) : keyL xs = z6 := by unfold keyL; rw [h]; rfl
theorem keyL_len (xs : List Int) : (keyL xs).length = 6 := by
  unfold keyL
  split
  · rename_i h; exact Pl.pad_len (okO_parts h).2.1
  · rfl
theorem okO_pos {xs : List Int} (h : okO xs = true) : ∀ x ∈ xs, 0 < x := by
  intro x hx
  have := okS_iff.1 ((okO_parts h).2.2 x hx)
  omega
theorem key_cmp {xs ys : List Int} (hx : okO xs = true) (hy : okO ys = true) : Pl.cmp (keyL xs) (keyL ys) = Pl.cmp xs ys := by
  rw [keyL_yes hx, keyL_yes hy]
  exact Pl.cmp_pad 6 xs ys (okO_parts hx).2.1 (okO_parts hy).2.1 (okO_pos hx) (okO_pos hy)
theorem key_zero {ys : List Int} (hy : okO ys = true) : Pl.cmp z6 (keyL ys) = -1 := by
  obtain ⟨h1, h2, _⟩ := okO_parts hy
  rw [keyL_yes hy]
  have e : z6 = Pl.pad 6 [] := rfl
  rw [e, Pl.cmp_pad 6 [] ys (Nat.zero_le _) h2 (fun x hx => by simp at hx) (okO_pos hy)]
  cases ys with
  | nil => simp at h1
  | cons y ys => rfl
theorem key_inj {xs ys : List Int} (hx : okO xs = true) (hy : okO ys = true) (h : keyL xs = keyL ys) : xs = ys := by
  rw [keyL_yes hx, keyL_yes hy] at h
  exact Pl.pad_inj (okO_parts hx).2.1 (okO_parts hy).2.1 (okO_pos hx) (okO_pos hy) h
theorem kyA_size {l : List Int} (h : l.length = 6) : (kyA l).size = 6 := by unfold kyA; simp [h]
theorem kyA_one (l : List Int) : (kyA l).all (·.oneCell') = true := by
  rw [Array.all_eq_true_iff_forall_mem]
  intro x hx
  unfold kyA at hx
  simp at hx
  obtain ⟨j, _, rfl⟩ := hx
  rfl
theorem ky_nil : (#[.int .i64 0, .int .i64 0, .int .i64 0, .int .i64 0, .int .i64 0, .int .i64 0] : Array Value) = kyA z6 := by kernel_rfl
section
variable {ops : Array Oper} {rest : List Oper} {o : Oper} {a : Act} {w : World} {Q : Exit → Act → World → Prop}
end
theorem ky_splice (xs : List Int) : splice (z6.map (Value.int .i64)) 0 (xs.map (Value.int .i64)) = (Pl.pad 6 xs).map (Value.int .i64) := by
  unfold splice Pl.pad z6
  rw [List.take_zero, List.nil_append, Nat.zero_add, List.length_map, ← List.map_drop, List.drop_replicate, List.map_append]

end Go.Proofs.Ytnjbaomekbiflaa

namespace Go.Proofs.Ytnjbaomekbiflaa
set_option maxRecDepth 100000
open Go.RowKit

theorem laidOutP : laidOutB Try.prog = true := by kernel_rfl
theorem zeroS (w : World) : (zeroValue 9).run Try.prog w = .ok (.string ByteArray.empty) w := by kernel_rfl
theorem typesTwo : ∃ d, Try.prog.types.size = d + 1 := ⟨Try.prog.types.size - 1, by have h : (0 : Nat) < Try.prog.types.size := of_decide_eq_true (by kernel_rfl); omega⟩
/-- What a key reads as. -/
def KL (l : List Int) : Lit := .string (keyBytes (l.map fun x => Lit.int .i64 x))
/-- A key's ints. -/
def kyOk (l : List Int) : Prop := l.length = 6 ∧ ∀ x ∈ l, (Lit.int .i64 x).wf = true
theorem wf_small {x : Int} (h0 : 0 ≤ x) (h1 : x < 8388608) : (Lit.int .i64 x).wf = true := WalkArith.wf_i64 (by omega)
theorem kyOk_z : kyOk z6 := ⟨rfl, fun x hx => by unfold z6 at hx; simp at hx; subst hx; decide⟩
theorem kyOk_key (xs : List Int) : kyOk (keyL xs) := by
  refine ⟨keyL_len xs, fun x hx => ?_⟩
  cases h : okO xs
  · rw [keyL_no h] at hx; exact kyOk_z.2 x hx
  · rw [keyL_yes h] at hx
    unfold Pl.pad at hx
    rcases List.mem_append.1 hx with hx | hx
    · have := okS_iff.1 ((okO_parts h).2.2 x hx)
      exact wf_small (by omega) (by omega)
    · rw [List.mem_replicate] at hx
      rw [hx.2]; decide

/-! ### What the map of a dictionary holds -/
abbrev MD := DataW Unit
def litT (t : ByteArray) : MD := .lit (.string t.data.toList)
/-- The map of the entries, put in one behind the other. -/
def mapD (es : List Ent) : MD := es.foldl (fun D e => D.put (KL (keyL e.1)) (litT e.2)) (.map [])
theorem mapD_nil : mapD [] = .map [] := rfl
theorem mapD_snoc (es : List Ent) (e : Ent) : mapD (es ++ [e]) = (mapD es).put (KL (keyL e.1)) (litT e.2) := by unfold mapD; rw [List.foldl_append]; rfl
theorem mapD_next {es : List Ent} {k : Nat} {e : Ent} (h : es[k]? = some e) : mapD (es.take (k + 1)) = (mapD (es.take k)).put (KL (keyL e.1)) (litT e.2) := by
  rw [List.take_add_one, h, Option.toList_some, mapD_snoc]
theorem mapD_isMap (es : List Ent) : Maps.IsMap (mapD es) := by
  unfold mapD
  suffices ∀ (l : List Ent) (D : MD), Maps.IsMap D → Maps.IsMap (l.foldl (fun D e => D.put (KL (keyL e.1)) (litT e.2)) D) from this es _ ⟨[], rfl⟩
  intro l
  induction l with
  | nil => intro D h; exact h
  | cons x l ih => intro D h; exact ih _ (h.put _ _)
/-- The last text put in at a key. -/
def lastT (l : List Int) : List Ent → Option ByteArray
  | [] => none
  | e :: r => match lastT l r with | some t => some t | none => if keyL e.1 = l then some e.2 else none
theorem lastT_snoc (l : List Int) (es : List Ent) (e : Ent) : lastT l (es ++ [e]) = if keyL e.1 = l then some e.2 else lastT l es := by
  induction es with
  | nil => show (match lastT l [] with | some t => some t | none => _) = _; rfl
  | cons x r ih =>
    show (match lastT l (r ++ [e]) with | some t => some t | none => if keyL x.1 = l then some x.2 else none) = _
    rw [ih]
    by_cases h : keyL e.1 = l
    · rw [if_pos h, if_pos h]
    · rw [if_neg h, if_neg h]; rfl
/-- At the key of an outline the map holds what the dictionary has there. -/
theorem lastT_look {es : List Ent} (h : okD es = true) {ys : List Int} (hy : okO ys = true) : lastT (keyL ys) es = Pl.look ys es := by
  obtain ⟨hz, hok, hinc⟩ := okD_parts h
  clear h hz
  induction es with
  | nil => rfl
  | cons x r ih =>
    have hr := ih (fun e he => hok e (List.mem_cons_of_mem _ he)) (List.pairwise_cons.1 hinc).2
    have hx := (okE_O (hok x (List.mem_cons_self ..))).1
    show (match lastT (keyL ys) r with | some t => some t | none => if keyL x.1 = keyL ys then some x.2 else none) = _
    rw [Pl.look_cons, hr]
    by_cases e : x.1 = ys
    · rw [if_pos e, if_pos (by rw [e])]
      have : Pl.look ys r = none := Pl.look_none fun y hy' e' => by
        have h1 := (List.pairwise_cons.1 hinc).1 y hy'
        rw [e', ← e] at h1
        exact absurd h1 (by rw [Pl.cmp_self]; omega)
      rw [this]
    · rw [if_neg e, if_neg (fun q => e (key_inj hx hy q))]
      cases Pl.look ys r <;> rfl
theorem lastT_bad {es : List Ent} (h : okD es = true) : lastT z6 es = none := by
  obtain ⟨hz, hok, hi⟩ := okD_parts h
  clear h hz hi
  induction es with
  | nil => rfl
  | cons x r ih =>
    have hr := ih (fun e he => hok e (List.mem_cons_of_mem _ he))
    have hx := (okE_O (hok x (List.mem_cons_self ..))).1
    show (match lastT z6 r with | some t => some t | none => if keyL x.1 = z6 then some x.2 else none) = _
    rw [hr]
    refine if_neg fun q => ?_
    have := key_zero hx
    rw [q, Pl.cmp_self] at this
    omega
theorem look_bad {es : List Ent} (h : okD es = true) {ys : List Int} (hy : okO ys = false) : Pl.look ys es = none := by
  obtain ⟨_, hok, _⟩ := okD_parts h
  refine Pl.look_none fun y hy' e => ?_
  have := (okE_O (hok y hy')).1
  rw [e, hy] at this
  cases this
/-- What a look-up at an outline's key finds. -/
theorem lastT_key {es : List Ent} (h : okD es = true) (ys : List Int) : lastT (keyL ys) es = Pl.look ys es := by
  cases hy : okO ys
  · rw [keyL_no hy, lastT_bad h, look_bad h hy]
  · exact lastT_look h hy
end Go.Proofs.Ytnjbaomekbiflaa

namespace Go.Proofs.Ytnjbaomekbiflaa
set_option maxRecDepth 100000
open Go.RowKit

end Go.Proofs.Ytnjbaomekbiflaa

namespace Go.Proofs.Ytnjbaomekbiflaa
set_option maxRecDepth 100000
open Go.RowKit

/-- What a look-up in the map finds. -/
theorem lookE (x : Option ByteArray) : lkE x = .returned (.tuple #[.string (x.getD ByteArray.empty), .bool x.isSome]) := by cases x <;> rfl
end Go.Proofs.Ytnjbaomekbiflaa
