/-
  CONTRACTS of chapter 6 of the specification: IsValidEntry, IsValidDictionary, Lookup, LongestOutline, the text of a dictionary, FormatDictionary.
-/
import Derived.Test.YtnjbaomekbiflaaEnts
import Derived.Test.YtnjbaomekbiflaaPlainDict
import Derived.Test.YtnjbaomekbiflaaTransP
import Derived.Lib.QuietBelow
import Derived.BigQuiet
namespace Go.Proofs.Ytnjbaomekbiflaa
set_option maxRecDepth 100000
open Go.RowKit

/-- Is the entry valid, the dictionary? -/
def okE (e : Ent) : Bool := okO e.1 && parLB e.2
def okD (es : List Ent) : Bool := decide (es.length ≤ 40) && (es.all okE && Pl.incB es)
theorem okD_parts {es : List Ent} (h : okD es = true) : es.length ≤ 40 ∧ (∀ e ∈ es, okE e = true) ∧ Pl.Inc es := by
  unfold okD at h
  rw [Bool.and_eq_true, Bool.and_eq_true, decide_eq_true_eq] at h
  exact ⟨h.1, List.all_eq_true.1 h.2.1, (Pl.incB_iff es).1 h.2.2⟩
theorem okD_of {es : List Ent} (h1 : es.length ≤ 40) (h2 : ∀ e ∈ es, okE e = true) (h3 : Pl.Inc es) : okD es = true := by
  unfold okD
  rw [Bool.and_eq_true, Bool.and_eq_true, decide_eq_true_eq]
  exact ⟨h1, List.all_eq_true.2 h2, (Pl.incB_iff es).2 h3⟩
theorem okD_no_len {es : List Ent} (h : ¬ es.length ≤ 40) : okD es = false := by unfold okD; rw [decide_eq_false h]; rfl
theorem okD_no_at {es : List Ent} {k : Nat} {e : Ent} (h : es[k]? = some e) (he : okE e = false) : okD es = false := by
  have : es.all okE = false := by rw [List.all_eq_false]; exact ⟨e, List.mem_of_getElem? h, by rw [he]; decide⟩
  unfold okD; rw [this]; simp
theorem okD_no_inc {es : List Ent} (k : Nat) (h : Pl.incB (es.take k) = false) : okD es = false := by
  unfold okD; rw [Pl.incB_take k h]; simp
theorem okE_O {e : Ent} (h : okE e = true) : okO e.1 = true ∧ parLB e.2 = true := by unfold okE at h; rwa [Bool.and_eq_true] at h
theorem okE_size {e : Ent} (h : okE e = true) : 1 ≤ e.1.length ∧ e.1.length ≤ 6 ∧ e.2.size ≤ 60 := by
  obtain ⟨h1, h2⟩ := okE_O h
  obtain ⟨h3, h4, _⟩ := okO_parts h1
  unfold parLB at h2
  rw [Bool.and_eq_true, decide_eq_true_eq] at h2
  exact ⟨h3, h4, h2.1⟩
theorem allD_next {es : List Ent} {k : Nat} {e : Ent} (h : es[k]? = some e) (ha : (es.take k).all okE = true) (he : okE e = true) : (es.take (k + 1)).all okE = true := by
  rw [List.take_add_one, h, List.all_append, ha, Bool.true_and]; simp [he]
/-- What entries may be for the walks. -/
def entOk (e : Ent) : Prop := e.1.length ≤ 2097152 ∧ e.2.size ≤ 1048576
theorem cell_new (w : World) (cs : Array Value) (T : TypeId) (i : Nat) : (w.alloc (.cells cs T)).cell? ⟨w.heap.size, i, none⟩ = cs[i]? := by
  have h : (w.alloc (.cells cs T)).heap[w.heap.size]? = some (.cells cs T) := by show (w.heap.push _)[w.heap.size]? = _; simp
  unfold World.cell?
  simp only [h]
  rfl
/-- A struct of two cells, of one, in a box. -/
theorem box2 {w w1 : World} {x y : Value} {T : TypeId} (hb : Below (w.alloc (.cells #[x, y] T)).heap.size (w.alloc (.cells #[x, y] T)) w1) : w1.cell? ⟨w.heap.size, 0, none⟩ = some x ∧ w1.cell? ⟨w.heap.size, 1, none⟩ = some y :=
  ⟨(hb.cell (p := ⟨w.heap.size, 0, none⟩) (by simp)).trans (cell_new w _ T 0), (hb.cell (p := ⟨w.heap.size, 1, none⟩) (by simp)).trans (cell_new w _ T 1)⟩
theorem box1 {w w1 : World} {x : Value} {T : TypeId} (hb : Below (w.alloc (.cells #[x] T)).heap.size (w.alloc (.cells #[x] T)) w1) : w1.cell? ⟨w.heap.size, 0, none⟩ = some x :=
  (hb.cell (p := ⟨w.heap.size, 0, none⟩) (by simp)).trans (cell_new w _ T 0)
theorem below_step {a b c : World} (h : Below a.heap.size a b) (k : Below b.heap.size b c) : Below a.heap.size a c := h.trans (k.mono h.size)
theorem below_drew1 {B : Nat} {a w : World} (h : Below B a w) : Below B a w.drew := below_drewN h 1
theorem below_box {w w1 : World} {o : Obj} (hb : Below (w.alloc o).heap.size (w.alloc o) w1) : Below w.heap.size w w1 :=
  ((Below.refl w.heap.size w).alloc (Nat.le_refl _) _).trans (hb.mono (by rw [World.size_alloc]; omega))

/-- The cells of a slice of entries, in every later world. -/
def EntCells (w : World) (a : Option Addr) (es : List Ent) : Prop :=
  ∀ w1 : World, Below w.heap.size w w1 → ∀ (j : Nat) e, es[j]? = some e → ∃ bk o u, a = some ⟨bk, o, none⟩ ∧ bk < w.heap.size ∧ w1.cell? ⟨bk, o + j * 2, none⟩ = some u ∧ w1.cell? ⟨bk, o + j * 2 + 1, none⟩ = some (.string e.2) ∧ IntsAt w1 u e.1
theorem EntsAt.cells {w : World} {v : Value} {es : List Ent} (h : EntsAt w v es) : ∃ a cap, v = .slice a es.length cap ∧ es.length ≤ cap ∧ EntCells w a es := by
  obtain ⟨a, cap, rfl, hc, h⟩ := h
  refine ⟨a, cap, rfl, hc, fun w1 hb j e he => ?_⟩
  rcases h with rfl | ⟨bk, o, ha, hk, h⟩
  · simp at he
  · obtain ⟨u, h0, h1, h2⟩ := h j e he
    exact ⟨bk, o, u, ha, hk, (hb.cell (p := ⟨bk, o + j * 2, none⟩) hk).trans h0, (hb.cell (p := ⟨bk, o + j * 2 + 1, none⟩) hk).trans h1, h2.below hb⟩
end Go.Proofs.Ytnjbaomekbiflaa

namespace Go.Proofs.Ytnjbaomekbiflaa
set_option maxRecDepth 100000
open Go.RowKit

/-- What l6At answers. -/
def idxI (o : List Int) (es : List Ent) : Int := match Pl.idx o es with | some k => (k : Int) | none => -1
theorem idxI_at {o : List Int} {es : List Ent} {k : Nat} {e : Ent} (hn : ∀ y ∈ es.take k, y.1 ≠ o) (h : es[k]? = some e) (he : e.1 = o) : idxI o es = (k : Int) := by unfold idxI; rw [Pl.idx_at hn h he]
theorem idxI_none {o : List Int} {es : List Ent} (h : ∀ y ∈ es, y.1 ≠ o) : idxI o es = -1 := by unfold idxI; rw [Pl.idx_none h]
theorem none_next {es : List Ent} {k : Nat} {e : Ent} {o : List Int} (h : es[k]? = some e) (hn : ∀ y ∈ es.take k, y.1 ≠ o) (he : e.1 ≠ o) : ∀ y ∈ es.take (k + 1), y.1 ≠ o := by
  rw [List.take_add_one, h]
  intro y hy
  rcases List.mem_append.1 hy with hy | hy
  · exact hn y hy
  · have : y = e := by simpa using hy
    rw [this]; exact he
/-- A text or none, as an answer. -/
def lkE (x : Option ByteArray) : Ending := .returned (.tuple #[.string (x.getD ⟨#[]⟩), .bool x.isSome])

end Go.Proofs.Ytnjbaomekbiflaa

namespace Go.Proofs.Ytnjbaomekbiflaa
set_option maxRecDepth 100000
open Go.RowKit

theorem below_al (w : World) (o : Obj) : Below w.heap.size w (w.alloc o) := (Below.refl _ _).alloc (Nat.le_refl _) _
theorem below_al3 (w : World) (o o' o'' : Obj) : Below w.heap.size w (((w.alloc o).alloc o').alloc o'') :=
  (((Below.refl _ _).alloc (Nat.le_refl _) _).alloc (by simp) _).alloc (by simp; omega) _

/-- What Lookup finds. -/
def lupO (ys : List Int) (es : List Ent) : Option ByteArray := if okD es = true then Pl.look ys es else none
theorem lupO_no {ys : List Int} {es : List Ent} (h : okD es = false) : lupO ys es = none := by unfold lupO; rw [h]; rfl
theorem lupO_yes {ys : List Int} {es : List Ent} (h : okD es = true) : lupO ys es = Pl.look ys es := by unfold lupO; rw [h]; rfl

/-- The length of the longest outline. -/
def lng (es : List Ent) : Nat := es.foldl (fun n e => max n e.1.length) 0
theorem lng_next {es : List Ent} {k : Nat} {e : Ent} (h : es[k]? = some e) : lng (es.take (k + 1)) = max (lng (es.take k)) e.1.length := by
  unfold lng; rw [List.take_add_one, h, Option.toList_some, List.foldl_append]; rfl
theorem lng_le (es : List Ent) (n : Nat) (h : ∀ e ∈ es, e.1.length ≤ n) : lng es ≤ n := by
  unfold lng
  suffices ∀ (l : List Ent) (m : Nat), m ≤ n → (∀ e ∈ l, e.1.length ≤ n) → l.foldl (fun n e => max n e.1.length) m ≤ n from this es 0 (Nat.zero_le _) h
  intro l
  induction l with
  | nil => intro m hm _; exact hm
  | cons x l ih => intro m hm hl; exact ih _ (Nat.max_le.2 ⟨hm, hl x (List.mem_cons_self ..)⟩) fun e he => hl e (List.mem_cons_of_mem _ he)
theorem lng_ge (es : List Ent) : ∀ e ∈ es, e.1.length ≤ lng es := by
  unfold lng
  suffices ∀ (l : List Ent) (m : Nat), m ≤ l.foldl (fun n e => max n e.1.length) m ∧ ∀ e ∈ l, e.1.length ≤ l.foldl (fun n e => max n e.1.length) m from (this es 0).2
  intro l
  induction l with
  | nil => intro m; exact ⟨Nat.le_refl _, fun e he => by simp at he⟩
  | cons x l ih =>
    intro m
    obtain ⟨h1, h2⟩ := ih (max m x.1.length)
    refine ⟨?_, fun e he => ?_⟩
    · exact Nat.le_trans (by omega) h1
    · rcases List.mem_cons.1 he with rfl | he
      · exact Nat.le_trans (by omega) h1
      · exact h2 e he
/-- What LongestOutline answers. -/
def lngE (es : List Ent) : Ending := .returned (.tuple #[.int .i64 (if okD es = true then (lng es : Int) else 0), .bool (okD es)])
theorem lngE_no {es : List Ent} (h : okD es = false) : lngE es = .returned (.tuple #[.int .i64 0, .bool false]) := by unfold lngE; rw [h]; rfl
theorem lngE_yes {es : List Ent} (h : okD es = true) : lngE es = .returned (.tuple #[.int .i64 (lng es : Int), .bool true]) := by unfold lngE; rw [h]; rfl


/-! ### The text -/
def lineT (e : Ent) : ByteArray := fmtT e.1 ++ ⟨#[32]⟩ ++ e.2 ++ ⟨#[10]⟩
def dicT (es : List Ent) : ByteArray := es.foldl (fun b e => b ++ lineT e) ⟨#[]⟩
theorem ba_assoc (a b c : ByteArray) : a ++ b ++ c = a ++ (b ++ c) := by
  apply ByteArray.ext
  rw [ByteArray.data_append, ByteArray.data_append, ByteArray.data_append, ByteArray.data_append, Array.append_assoc]
theorem dicT_next {es : List Ent} {k : Nat} {e : Ent} (h : es[k]? = some e) : dicT (es.take k) ++ fmtT e.1 ++ ⟨#[32]⟩ ++ e.2 ++ ⟨#[10]⟩ = dicT (es.take (k + 1)) := by
  unfold dicT
  rw [List.take_add_one, h, Option.toList_some, List.foldl_append]
  show _ = _ ++ lineT e
  unfold lineT
  simp only [ba_assoc]
theorem lineT_size {e : Ent} (h : okE e = true) : (lineT e).size ≤ 212 := by
  obtain ⟨_, h1, h2⟩ := okE_size h
  have h3 := fmtT_size e.1
  unfold lineT
  rw [ByteArray.size_append, ByteArray.size_append, ByteArray.size_append]
  have e1 : (⟨#[32]⟩ : ByteArray).size = 1 := rfl
  have e2 : (⟨#[10]⟩ : ByteArray).size = 1 := rfl
  rw [e1, e2]
  omega
end Go.Proofs.Ytnjbaomekbiflaa
