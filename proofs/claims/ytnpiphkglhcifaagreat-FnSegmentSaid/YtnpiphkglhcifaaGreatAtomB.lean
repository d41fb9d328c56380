/-
  CONTRACTS of the specification's chapter 5 over single atoms, the public ones: IsValidAtom, FormatAtom, ParseAtom.
-/
import Derived.Test.YtnpiphkglhcifaaGreatAtom
import Derived.Laws.Tables
import Derived.Laws.CopyOwn
import Derived.Laws.ResultCell
namespace Go.Proofs.YtnpiphkglhcifaaGreat
set_option maxRecDepth 100000
open Go.RowKit

/-- A boxed atom, after a call. -/
theorem box_cells {w w1 : World} {k : Int} {t : ByteArray} {T : TypeId} (hb : Below (w.alloc (.cells #[.int .i64 k, .string t] T)).heap.size (w.alloc (.cells #[.int .i64 k, .string t] T)) w1) :
    w1.cell? ⟨w.heap.size, 0, none⟩ = some (.int .i64 k) ∧ w1.cell? ⟨w.heap.size, 1, none⟩ = some (.string t) := by
  have e : (w.alloc (.cells #[.int .i64 k, .string t] T)).heap[w.heap.size]? = some (.cells #[.int .i64 k, .string t] T) := heap_alloc_new _ _
  have hl : w.heap.size < (w.alloc (.cells #[.int .i64 k, .string t] T)).heap.size := by rw [World.size_alloc]; omega
  refine ⟨(hb.cell (p := ⟨w.heap.size, 0, none⟩) hl).trans ?_, (hb.cell (p := ⟨w.heap.size, 1, none⟩) hl).trans ?_⟩ <;> (unfold World.cell?; simp only [e]; rfl)
/-- What FormatAtom answers. -/
def fmtAS (k : Int) (t : ByteArray) : ByteArray := if Pl.goodA k (by8 t) = true then fmtB k t else ⟨#[]⟩
def fmtAE (k : Int) (t : ByteArray) : Ending := .returned (.tuple #[.string (fmtAS k t), .bool (Pl.goodA k (by8 t))])
/-- What ParseAtom answers. -/
def parV (s : ByteArray) : Value := atV (Pl.parA (by8 s)).1 ⟨(Pl.parA (by8 s)).2.toArray⟩
def parAE (s : ByteArray) : Ending := .returned (.tuple #[parV s, .bool (Pl.parOk (by8 s))])
theorem parAE_yes {s : ByteArray} {k : Int} {t : ByteArray} (hk : k = (Pl.kindA (by8 s)).1) (ht : t = ⟨(Pl.kindA (by8 s)).2.toArray⟩) (hg : Pl.goodA k (by8 t) = true) (hf : by8 (fmtB k t) = by8 s) : parAE s = .returned (.tuple #[atV k t, .bool true]) := by
  have e : by8 t = (Pl.kindA (by8 s)).2 := by rw [ht]
  have ho : Pl.parOk (by8 s) = true := by
    unfold Pl.parOk
    rw [← hk, ← e, hg, Bool.true_and, beq_iff_eq]
    exact hf
  unfold parAE parV Pl.parA
  rw [ho, if_pos rfl, ← hk, ← ht]
theorem parAE_no {s : ByteArray} {k : Int} {t : ByteArray} (hk : k = (Pl.kindA (by8 s)).1) (ht : t = ⟨(Pl.kindA (by8 s)).2.toArray⟩) (h : Pl.goodA k (by8 t) = false ∨ by8 (fmtB k t) ≠ by8 s) : parAE s = .returned (.tuple #[atV 0 ⟨#[]⟩, .bool false]) := by
  have e : by8 t = (Pl.kindA (by8 s)).2 := by rw [ht]
  have ho : Pl.parOk (by8 s) = false := by
    unfold Pl.parOk
    rw [← hk, ← e, Bool.and_eq_false_iff, beq_eq_false_iff_ne]
    exact h
  unfold parAE parV Pl.parA
  rw [ho]
  rfl
/-- A whole atom stored. -/
theorem at_store {ops : Array Oper} {rest : List Oper} {o : Oper} {a : Act} {w : World} {Q : Exit → Act → World → Prop} (hgd : o.guard = none) (x y : Operand) (ho : o.op = .store 96 x y)
    (g : Nat) (k : Int) (t : ByteArray) (k' : Int) (t' : ByteArray) (hx : a.eval x = .pointer (some ⟨g, 0, none⟩)) (hy : a.eval y = atV k t) (hg : w.heap[g]? = some (.cells #[.int .i64 k', .string t'] 96 (0, 0)))
    (h : wpList Tryz.prog ops Q rest (a.put o.dst undef) (w.setRow g #[.int .i64 k, .string t])) : wpList Tryz.prog ops Q (o :: rest) a w :=
  wpList_store_row hgd _ x y ho g _ hx hy _ _ hg (by kernel_rfl) rfl (by rw [Array.all_eq_true_iff_forall_mem]; intro x hx; simp at hx; rcases hx with rfl | rfl <;> rfl) h
theorem results_at2 {fn : Func} {p u : Tmp} (h : fn.results = #[.cell p 96, .tmp u]) (tmps : Array Value) (w : World) (g : Nat) (k : Int) (t : ByteArray)
    (hp : tmps.getD p undef = .pointer (some ⟨g, 0, none⟩)) (hg : w.heap[g]? = some (.cells #[.int .i64 k, .string t] 96 (0, 0))) :
    (results fn tmps).run Tryz.prog w = .ok (.tuple #[atV k t, tmps.getD u undef]) w := by
  have hr := run_loadVar_row (P := Tryz.prog) w g _ 96 _ _ _ hg Tryz.underlying96 rfl (by kernel_rfl)
  rw [results_cell_tmp h, hp]
  simp [asAddr, hr, Result.andThen]
theorem specParseAtom_any (s : ByteArray) (w : World) (hs : s.size ≤ 1048576) :
    Calls Tryz.prog 62 #[.string s] w fun e w' => e = parAE s ∧ Below w.heap.size w w' := by
  have c := fun w => l5Kind_any s w (by omega)
  unfold kindV at c
  obtain ⟨k, hk⟩ : ∃ k, k = (Pl.kindA (by8 s)).1 := ⟨_, rfl⟩
  obtain ⟨t, ht⟩ : ∃ t : ByteArray, t = ⟨(Pl.kindA (by8 s)).2.toArray⟩ := ⟨_, rfl⟩
  rw [← hk, ← ht] at c
  have hts : t.size ≤ 1048600 := by
    have := Pl.kindA_len (by8 s)
    have e : t.size = (by8 t).length := (Pl.data_len t).symm
    rw [Pl.data_len] at this
    rw [e, ht]
    show (Pl.kindA (by8 s)).2.length ≤ _
    omega
  have hyes := parAE_yes hk ht
  have hno := parAE_no hk ht
  have CK := Lib.hid c
  have g := fun w => l5Good_any k t w (by omega)
  have CF := Lib.hid (fun w => l5Format_any k t w (by omega))
  obtain ⟨b, hb⟩ : ∃ b, b = Pl.goodA k (by8 t) := ⟨_, rfl⟩
  rw [← hb] at g hyes hno
  have CG := Lib.hid g
  obtain ⟨f, hf⟩ : ∃ f, f = fmtB k t := ⟨_, rfl⟩
  rw [← hf] at CF hyes hno
  rw [show by8 f = f.toList from (Lib.toList_data _).symm, show by8 s = s.toList from (Lib.toList_data _).symm] at hyes hno
  have HY := Lib.hid hyes
  have HN := Lib.hid hno
  clear c g hk ht hb hf hyes hno
  go_enter Tryz.func62, Tryz.ntmps62
  go_wp2_with fail
  refine (CK.out _).mono ?_
  rintro e w1 ⟨rfl, hb⟩
  have h1 : Hid (w1.heap[w.heap.size]? = some (.cells #[.int .i64 0, .string ⟨#[]⟩] 96 (0, 0))) := (hb.block _ (by rw [World.size_alloc]; omega)).trans (heap_alloc_new _ _)
  have hs1 : w.heap.size < w1.heap.size := by have := hb.size; rw [World.size_alloc] at this; omega
  have hb1 := ((Below.refl w.heap.size w).alloc (Nat.le_refl _) _).trans (hb.mono (by rw [World.size_alloc]; omega))
  clear hb
  go_wp2_with fail
  refine (CG.out _).mono ?_
  rintro e w2 ⟨rfl, hb⟩
  obtain ⟨c0, c1⟩ := box_cells hb
  have h2 : Hid (w2.heap[w.heap.size]? = some (.cells #[.int .i64 0, .string ⟨#[]⟩] 96 (0, 0))) := (hb.block _ (by rw [World.size_alloc]; omega)).trans ((heap_alloc_old _ _ hs1).trans h1.out)
  have hb2 := (hb1.alloc hb1.size _).trans (hb.mono (by rw [World.size_alloc]; omega))
  have hs2 : w1.heap.size < w2.heap.size := by have := hb.size; rw [World.size_alloc] at this; omega
  clear hb h1 hb1
  cases b
  · have hE := Lib.hid (HN.out (.inl rfl))
    have h3 := Lib.hid (setRow_heap w2 w.heap.size _ #[.int .i64 0, .string ⟨#[]⟩] _ _ h2.out)
    have hb3 := below_setRow hb2 (Nat.le_refl _) #[.int .i64 0, .string ⟨#[]⟩]
    clear HN HY
    go_wp2_with (with_reducible (show wpList _ _ _ (_ :: _) _ _); refine at_store rfl _ _ rfl w.heap.size 0 ⟨#[]⟩ _ _ rfl rfl h2.out ?_)
    (try simp only [Exit.inBlock, Exit.then])
    refine bodyPost_ret (results_at2 rfl _ _ w.heap.size _ _ rfl h3.out) rfl ?_
    exact ⟨hE.out.symm, hb3⟩
  · go_wp2_with fail
    refine (CF.out _).mono ?_
    rintro e w3 ⟨rfl, hb⟩
    have d0 : w3.cell? ⟨w1.heap.size, 0, none⟩ = some (.int .i64 k) := (hb.cell (p := ⟨w1.heap.size, 0, none⟩) hs2).trans c0
    have d1 : w3.cell? ⟨w1.heap.size, 1, none⟩ = some (.string t) := (hb.cell (p := ⟨w1.heap.size, 1, none⟩) hs2).trans c1
    have h3 : Hid (w3.heap[w.heap.size]? = some (.cells #[.int .i64 0, .string ⟨#[]⟩] 96 (0, 0))) := (hb.block _ (by omega)).trans h2.out
    have hb3 := hb2.trans (hb.mono hb2.size)
    clear hb c0 c1 h2 hb2
    by_cases q : f.toList = s.toList
    · have hE := Lib.hid (HY.out (by first | rfl | trivial) q)
      have h4 := Lib.hid (setRow_heap w3 w.heap.size _ #[.int .i64 k, .string t] _ _ h3.out)
      have hb4 := below_setRow hb3 (Nat.le_refl _) #[.int .i64 k, .string t]
      clear HN HY
      go_wp2_with (with_reducible (show wpList _ _ _ (_ :: _) _ _); refine at_store rfl _ _ rfl w.heap.size k t _ _ rfl rfl h3.out ?_)
      (try simp only [Exit.inBlock, Exit.then])
      refine bodyPost_ret (results_at2 rfl _ _ w.heap.size _ _ rfl h4.out) rfl ?_
      exact ⟨hE.out.symm, hb4⟩
    · have hE := Lib.hid (HN.out (.inr q))
      have q2 : (f.toList == s.toList) = false := by rw [beq_eq_false_iff_ne]; exact q
      have h4 := Lib.hid (setRow_heap w3 w.heap.size _ #[.int .i64 0, .string ⟨#[]⟩] _ _ h3.out)
      have hb4 := below_setRow hb3 (Nat.le_refl _) #[.int .i64 0, .string ⟨#[]⟩]
      clear HN HY
      go_wp2_with (with_reducible (show wpList _ _ _ (_ :: _) _ _); refine at_store rfl _ _ rfl w.heap.size 0 ⟨#[]⟩ _ _ rfl rfl h3.out ?_)
      (try simp only [Exit.inBlock, Exit.then])
      refine bodyPost_ret (results_at2 rfl _ _ w.heap.size _ _ rfl h4.out) rfl ?_
      exact ⟨hE.out.symm, hb4⟩
end Go.Proofs.YtnpiphkglhcifaaGreat
