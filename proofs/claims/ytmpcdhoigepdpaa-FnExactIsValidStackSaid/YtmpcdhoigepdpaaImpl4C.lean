/-
  CONTRACT of the program's ParseOutline: a range over the parts between the separators, left early where a part is no stroke or the outline is full.
-/
import Derived.Test.YtmpcdhoigepdpaaImpl4A
import Derived.Test.YtmpcdhoigepdpaaJoin
import Derived.ArgAppend
import Derived.Test.YtmpcdhoigepdpaaIter
import Derived.RangeFuncFrom
namespace Go.Proofs.Ytmpcdhoigepdpaa
set_option maxRecDepth 100000
open Go.RowKit

theorem IntsM.block {w : World} {v : Value} {xs : List Int} (h : IntsM w v xs) (h0 : 0 < xs.length) : ∃ bk o cap, v = .slice (some ⟨bk, o, none⟩) xs.length cap ∧ xs.length ≤ cap ∧ bk < w.heap.size ∧ ∀ (j : Nat) x, xs[j]? = some x → w.cell? ⟨bk, o + j, none⟩ = some (.int .i64 x) := h.at.block h0
theorem outO_no {xs ys : List Int} (h : catB xs ys = false) (base : Nat) (w : World) : OutO base w (catI xs ys) (catB xs ys) (.returned (.tuple #[.slice none 0 0, .bool false])) := by
  rw [cat_no h, h]; exact ⟨_, rfl, .inl ⟨rfl, _, _, rfl⟩⟩
theorem ints_cells {w : World} {bk o : Nat} {xs : List Int} (h : ∀ (j : Nat) x, xs[j]? = some x → w.cell? ⟨bk, o + j, none⟩ = some (.int .i64 x)) : ∀ (j : Nat) u, (xs.map (Value.int .i64))[j]? = some u → w.cell? ⟨bk, o + j, none⟩ = some u := by
  intro j u hu
  rw [List.getElem?_map] at hu
  obtain ⟨z, hz, rfl⟩ := Option.map_eq_some_iff.1 hu
  exact h j z hz
theorem ints_one (xs : List Int) : ∀ u ∈ xs.map (Value.int .i64), u.oneCell' = true := by
  intro u hu
  obtain ⟨z, _, rfl⟩ := List.mem_map.1 hu
  rfl
theorem okO_append {xs ys : List Int} (hx : okO xs = true) (hy : okO ys = true) : okO (xs ++ ys) = decide (xs.length + ys.length ≤ 6) := by
  obtain ⟨x1, x2, x3⟩ := okO_parts hx
  obtain ⟨y1, y2, y3⟩ := okO_parts hy
  by_cases h : xs.length + ys.length ≤ 6
  · rw [decide_eq_true h]
    refine okO_yes (by rw [List.length_append]; omega) (by rw [List.length_append]; exact h) ?_
    rw [List.all_eq_true]
    intro x hx
    rcases List.mem_append.1 hx with h | h
    · exact x3 x h
    · exact y3 x h
  · rw [decide_eq_false h]
    exact okO_no_len (by rw [List.length_append]; omega)

/-! ### FormatOutline -/
def notas (xs : List Int) : List ByteArray := xs.map fun x => notaB x.toNat
theorem notas_len (xs : List Int) : (notas xs).length = xs.length := List.length_map ..
theorem notas_at {xs : List Int} {k : Nat} {x : Int} (h : xs[k]? = some x) : (notas xs).getD k ByteArray.empty = notaB x.toNat := by
  unfold notas; rw [List.getD, List.getElem?_map, h]; rfl
theorem notas_texts (xs : List Int) : Pl.texts (notas xs) = (outN xs).map Pl.nota := by
  unfold Pl.texts notas outN notaB
  rw [List.map_map, List.map_map]; rfl
theorem notas_join (xs : List Int) : (⟨(Lib.join (Pl.texts (notas xs)) [47]).toArray⟩ : ByteArray) = fmtT xs := by
  rw [notas_texts]; rfl
theorem notas_ok {xs : List Int} (h1 : 1 ≤ xs.length) (h2 : xs.length ≤ 6) : Pl.JoinOk (notas xs) 47 := by
  refine ⟨fun e => by have := notas_len xs; rw [e] at this; simp at this; omega, fun x hx => ?_, ?_⟩
  · unfold notas at hx
    obtain ⟨z, _, rfl⟩ := List.mem_map.1 hx
    unfold Pl.has
    rw [decide_eq_false_iff_not]
    exact Pl.nota_slash _
  · rw [notas_texts]
    have := Pl.fmt_len (outN xs)
    rw [outN_len] at this
    unfold Pl.fmt at this
    omega
theorem notas_size (xs : List Int) : ∀ x ∈ notas xs, x.size ≤ 2097152 := by
  intro x hx
  unfold notas at hx
  obtain ⟨z, _, rfl⟩ := List.mem_map.1 hx
  have := notaB_len z.toNat
  omega

end Go.Proofs.Ytmpcdhoigepdpaa

namespace Go.Proofs.Ytmpcdhoigepdpaa
set_option maxRecDepth 100000
open Go.RowKit Go.Shelf

attribute [local go_sem] Oper.semAt_some

/-- The strokes of the parts that have come. -/
def gotI (pre : List Tx) : List Int := pre.map fun x => ((Pl.strict x.1.data.toList : Nat) : Int)
theorem gotI_len (pre : List Tx) : (gotI pre).length = pre.length := List.length_map ..
theorem gotI_next (pre : List Tx) (x : Tx) : gotI (pre ++ [x]) = gotI pre ++ [((Pl.strict x.1.data.toList : Nat) : Int)] := by unfold gotI; rw [List.map_append]; rfl
theorem reading_split (t : ByteArray) : (Pl.splitB t 47).map (fun b => Pl.strict b.data.toList) = Pl.reading t.data.toList := by
  unfold Pl.splitB Pl.ofLists Pl.reading
  rw [List.map_map]; rfl
theorem gotI_all {t : ByteArray} {ys : List Tx} (h : ys.map (·.1) = Pl.splitB t 47) : gotI ys = outI (Pl.reading t.data.toList) := by
  rw [← reading_split, ← h]
  unfold gotI outI
  rw [List.map_map, List.map_map]; rfl
theorem got_yes {t : ByteArray} {ys : List Tx} (h : ys.map (·.1) = Pl.splitB t 47) (h6 : ys.length ≤ 6) (hz : ∀ x ∈ ys, Pl.strict x.1.data.toList ≠ 0) : parI t = gotI ys ∧ parB t = true := by
  have e := gotI_all h
  have hl : (Pl.reading t.data.toList).length = ys.length := by rw [← reading_split, ← h]; simp
  rw [e]
  refine par_yes (by omega) ?_
  intro n hn
  rw [← reading_split, ← h, List.map_map] at hn
  obtain ⟨x, hx, rfl⟩ := List.mem_map.1 hn
  exact hz x hx
theorem got_no {t : ByteArray} {pre : List Tx} (h : pre.map (·.1) <+: Pl.splitB t 47) (hb : 6 < pre.length ∨ ∃ x ∈ pre, Pl.strict x.1.data.toList = 0) : parI t = [] ∧ parB t = false := by
  refine par_no ?_
  have hp : pre.map (fun x => Pl.strict x.1.data.toList) <+: Pl.reading t.data.toList := by
    rw [← reading_split]
    have := h.map (fun b => Pl.strict b.data.toList)
    rw [List.map_map] at this
    exact this
  rcases hb with hb | ⟨x, hx, h0⟩
  · refine Pl.parse_no_len ?_
    have := hp.length_le
    rw [List.length_map] at this
    omega
  · exact Pl.parse_no_at (hp.subset (List.mem_map.2 ⟨x, hx, h0⟩)) rfl
theorem outO_bad {t : ByteArray} (h : parI t = [] ∧ parB t = false) (base : Nat) (w : World) : OutO base w (parI t) (parB t) (.returned (.tuple #[.slice none 0 0, .bool false])) := by
  rw [h.1, h.2]; exact ⟨_, rfl, .inl ⟨rfl, _, _, rfl⟩⟩
theorem boxed_below {W W' : World} {B : Nat} {t : TypeId} {v : Value} (h : Boxed W B t v) (hb : Below W.heap.size W W') : Boxed W' B t v := (hb.block B h.lt).trans h
theorem keeps_below {W W' : World} (hb : Below W.heap.size W W') : KeepsOthers W W' := ⟨hb.size, fun k _ hk _ => (hb.block k (Array.getElem?_eq_some_iff.1 hk).1).trans hk⟩
theorem boxed_keeps {W W' : World} {row : Option Nat} {B : Nat} {t : TypeId} {v : Value} (h : Boxed W B t v) (hg : W.grownBy W' row) (hr : ∀ r, row = some r → ∃ o : Obj, W.heap[r]? = some o ∧ o.isCells = false) : Boxed W' B t v := boxed_own (β := Unit) B t (fun _ => v) () W W' row h hg hr
theorem boxed_drewN {W : World} {B : Nat} {t : TypeId} {v : Value} (h : Boxed W B t v) (k : Nat) : Boxed (W.drewN k) B t v := h

theorem five_boxes (w : World) (t0 t1 t2 t3 t4 : TypeId) (v0 v1 v2 v3 v4 : Value) (W0 : World) (h : (((((w.alloc (.cells #[v0] t0)).alloc (.cells #[v1] t1)).alloc (.cells #[v2] t2)).alloc (.cells #[v3] t3)).alloc (.cells #[v4] t4)) = W0) :
    W0.heap.size = w.heap.size + 5 ∧ Boxed W0 w.heap.size t0 v0 ∧ Boxed W0 (w.heap.size + 1) t1 v1 ∧ Boxed W0 (w.heap.size + 1 + 1) t2 v2 ∧ Boxed W0 (w.heap.size + 1 + 1 + 1) t3 v3 ∧ Boxed W0 (w.heap.size + 1 + 1 + 1 + 1) t4 v4 ∧ Below w.heap.size w W0 := by
  subst h
  have c0 := Boxed.new w t0 v0
  have c1 := Boxed.new (w.alloc (.cells #[v0] t0)) t1 v1
  have c2 := Boxed.new ((w.alloc (.cells #[v0] t0)).alloc (.cells #[v1] t1)) t2 v2
  have c3 := Boxed.new (((w.alloc (.cells #[v0] t0)).alloc (.cells #[v1] t1)).alloc (.cells #[v2] t2)) t3 v3
  have c4 := Boxed.new ((((w.alloc (.cells #[v0] t0)).alloc (.cells #[v1] t1)).alloc (.cells #[v2] t2)).alloc (.cells #[v3] t3)) t4 v4
  simp only [World.size_alloc] at c1 c2 c3 c4
  refine ⟨by simp only [World.size_alloc], (((c0.alloc _).alloc _).alloc _).alloc _, ((c1.alloc _).alloc _).alloc _, (c2.alloc _).alloc _, c3.alloc _, c4, ?_⟩
  refine (((((Below.refl _ w).alloc (Nat.le_refl _) _).alloc ?_ _).alloc ?_ _).alloc ?_ _).alloc ?_ _ <;> simp only [World.size_alloc] <;> omega

end Go.Proofs.Ytmpcdhoigepdpaa
