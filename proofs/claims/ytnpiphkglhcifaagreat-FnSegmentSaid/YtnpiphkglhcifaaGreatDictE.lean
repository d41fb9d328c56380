/-
  CONTRACT of l6Put of the specification: an entry put into a dictionary. (Its text is laid by a small script: the same push stands in several branches.)
-/
import Derived.Test.YtnpiphkglhcifaaGreatDictC
import Derived.Test.YtnpiphkglhcifaaGreatRowE
import Derived.Test.YtnpiphkglhcifaaGreatMix
import Derived.Deep.RegionHeld3
namespace Go.Proofs.YtnpiphkglhcifaaGreat
set_option maxRecDepth 100000
open Go.RowKit

/-- Ints that were made behind a row lie outside of it. -/
theorem off_new {w0 w1 : World} {base : Nat} {v u : Value} {us : List (Value × Ent)} {xs : List Int} (h : w1.ownsRow w0.heap.size 3 1 u xs.length (xs.map (.int .i64))) (hr : Rows w0 base v us) (hb : base ≤ w0.heap.size) : Off w1 base v.ownBlock u xs :=
  ⟨row_M h, fun b hb' => ⟨by have := (h.lt b hb').1; omega, fun e => by have h1 := (h.lt b hb').1; have h2 := (hr.row.lt b e).2; omega⟩⟩
end Go.Proofs.YtnpiphkglhcifaaGreat

namespace Go.Proofs.YtnpiphkglhcifaaGreat
set_option maxRecDepth 100000
open Go.RowKit

/-- A box at B that holds a row of entries which is being built. -/
structure OutSt (w3 w : World) (B : Nat) (v : Value) (us : List (Value × Ent)) : Prop where
  bel : Below B w3 w
  box : BoxV w B 26 v
  rows : Rows w (B + 1) v us
theorem OutSt.below {w3 w w1 : World} {B : Nat} {v : Value} {us : List (Value × Ent)} (h : OutSt w3 w B v us) (hb : Below w.heap.size w w1) : OutSt w3 w1 B v us :=
  ⟨h.bel.trans (hb.mono (Nat.le_of_lt h.box.lt)), h.box.below hb h.box.lt, h.rows.below hb⟩
theorem OutSt.mid {w3 w w2 : World} {B : Nat} {v : Value} {us : List (Value × Ent)} {o : Obj} (h : OutSt w3 w B v us) (hg : (w.alloc o).grownBy w2 v.ownBlock) : Below B w3 w2 ∧ BoxV w2 B 26 v := by
  have hlt := h.box.lt
  refine ⟨(h.bel.trans ((below_al w o).mono (Nat.le_of_lt hlt))).grown hg (by simp; omega) (fun b e => by have := (h.rows.row.lt b e).1; omega), ?_⟩
  exact (h.box.below (below_al _ _) hlt).grown hg (fun e => by have := (h.rows.row.lt _ e.symm).1; omega)
theorem OutSt.push {w3 w w2 : World} {B : Nat} {v v' : Value} {us us' : List (Value × Ent)} {o : Obj} (h : OutSt w3 w B v us) (hg : (w.alloc o).grownBy w2 v.ownBlock) (R : Rows w2 (B + 1) v' us') : OutSt w3 (w2.setCell ⟨B, 0, none⟩ v') B v' us' :=
  ⟨(h.mid hg).1.setCell (Nat.le_refl _) _, (h.mid hg).2.set _, R.setCell (Nat.lt_succ_self _)⟩
/-- A block other than the row's. -/
def Kept (w : World) (v : Value) (b : Nat) (o : Obj) : Prop := w.heap[b]? = some o ∧ v.ownBlock ≠ some b
theorem Kept.below {w w1 : World} {v : Value} {b : Nat} {o : Obj} (h : Kept w v b o) (hb : Below w.heap.size w w1) : Kept w1 v b o := ⟨(hb.block b (Array.getElem?_eq_some_iff.1 h.1).1).trans h.1, h.2⟩
theorem Kept.push {w w2 : World} {B : Nat} {v v' : Value} {b : Nat} {o o' : Obj} (h : Kept w v b o) (hB : b ≠ B) (hg : (w.alloc o').grownBy w2 v.ownBlock) (hat : v'.ownBlock = v.ownBlock ∨ v'.ownBlock = some (w.heap.size + 1)) : Kept (w2.setCell ⟨B, 0, none⟩ v') v' b o := by
  have hlt := (Array.getElem?_eq_some_iff.1 h.1).1
  refine ⟨(Below.heap_setCell _ _ _ _ (fun e => hB e)).trans ((hg.block b (by simp; omega) (fun e => h.2 e.symm)).trans (((below_al w o').block b hlt).trans h.1)), ?_⟩
  rcases hat with e | e
  · rw [e]; exact h.2
  · rw [e]; intro q; injection q with q; omega
theorem Off.below {w w1 : World} {base : Nat} {row : Option Nat} {u : Value} {xs : List Int} (h : Off w base row u xs) (hb : Below w.heap.size w w1) : Off w1 base row u xs := ⟨h.1.below hb, h.2⟩
theorem Off.push {w w2 : World} {B base : Nat} {v v' u : Value} {xs : List Int} {o : Obj} (h : Off w base v.ownBlock u xs) (hB : B < base) (hg : (w.alloc o).grownBy w2 v.ownBlock) (hat : v'.ownBlock = v.ownBlock ∨ v'.ownBlock = some (w.heap.size + 1)) : Off (w2.setCell ⟨B, 0, none⟩ v') base v'.ownBlock u xs := by
  have ht : Touch (fun b => v.ownBlock = some b ∨ b = B) w (w2.setCell ⟨B, 0, none⟩ v') := (((Touch.refl _ w).alloc o).trans (Touch.grown hg fun k e => .inl e)).setCell (.inr rfl) _ _
  refine ⟨h.1.touch ht fun b hb e => ?_, fun b hb => ⟨(h.2 b hb).1, ?_⟩⟩
  · rcases e with e | e
    · exact (h.2 b hb).2 e
    · have := (h.2 b hb).1; omega
  · rcases hat with e | e
    · rw [e]; exact (h.2 b hb).2
    · rw [e]; intro q; injection q with q; have := intsM_block h.1 b hb; omega
theorem boxes4 (w : World) (x y z p q : Value) (T T' T'' T3 : TypeId) (w4 : World) (h4 : w4 = (((w.alloc (.cells #[x] T)).alloc (.cells #[p, q] T')).alloc (.cells #[y] T'')).alloc (.cells #[z] T3)) :
    w4.heap.size = w.heap.size + 4 ∧ Below w.heap.size w w4 ∧ BoxV w4 w.heap.size T x ∧ w4.cell? ⟨w.heap.size + 1, 0, none⟩ = some p ∧ w4.cell? ⟨w.heap.size + 1, 1, none⟩ = some q ∧ BoxV w4 (w.heap.size + 1 + 1) T'' y ∧ BoxV w4 (w.heap.size + 1 + 1 + 1) T3 z := by
  have s1 : (w.alloc (.cells #[x] T)).heap.size = w.heap.size + 1 := by simp
  have s2 : ((w.alloc (.cells #[x] T)).alloc (.cells #[p, q] T')).heap.size = w.heap.size + 1 + 1 := by simp
  have s3 : (((w.alloc (.cells #[x] T)).alloc (.cells #[p, q] T')).alloc (.cells #[y] T'')).heap.size = w.heap.size + 1 + 1 + 1 := by simp
  have h0 := BoxV.new w T x
  have h1 : ((w.alloc (.cells #[x] T)).alloc (.cells #[p, q] T')).heap[(w.alloc (.cells #[x] T)).heap.size]? = some (.cells #[p, q] T') := heap_alloc_new _ _
  have h2 := BoxV.new ((w.alloc (.cells #[x] T)).alloc (.cells #[p, q] T')) T'' y
  have h3 := BoxV.new (((w.alloc (.cells #[x] T)).alloc (.cells #[p, q] T')).alloc (.cells #[y] T'')) T3 z
  have b0 := below_al w (.cells #[x] T)
  have b1 := below_al (w.alloc (.cells #[x] T)) (.cells #[p, q] T')
  have b2 := below_al ((w.alloc (.cells #[x] T)).alloc (.cells #[p, q] T')) (.cells #[y] T'')
  have b3 := below_al (((w.alloc (.cells #[x] T)).alloc (.cells #[p, q] T')).alloc (.cells #[y] T'')) (.cells #[z] T3)
  rw [s1] at h1
  rw [s2] at h2
  rw [s3] at h3
  subst h4
  have h1' := ((b3.block _ (by simp)).trans ((b2.block _ (by simp)).trans h1))
  refine ⟨by simp, b0.trans ((b1.mono (by simp)).trans ((b2.mono (by simp; omega)).trans (b3.mono (by simp; omega)))), ((h0.below b1 (by simp)).below b2 (by simp; omega)).below b3 (by simp; omega), ?_, ?_, h2.below b3 (by simp), h3⟩
  · unfold World.cell?; simp only [h1']; rfl
  · unfold World.cell?; simp only [h1']; rfl
theorem box2f {w w1 : World} {x y : Value} {T : TypeId} (hb : Below (w.alloc (.cells #[x, y] T)).heap.size (w.alloc (.cells #[x, y] T)) w1) : w1.frozen? ⟨w.heap.size, 0, none⟩ = false ∧ w1.frozen? ⟨w.heap.size, 1, none⟩ = false := by
  have h : w1.heap[w.heap.size]? = some (.cells #[x, y] T) := (hb.block _ (by simp)).trans (heap_alloc_new _ _)
  constructor <;> (unfold World.frozen?; simp only [h]; rfl)
/-- Between two rounds of putting: k entries have been looked at. -/
def PutInv (E : Ent) (es : List Ent) (k : Nat) (pb : Bool) (us : List (Value × Ent)) : Prop :=
  (pb = false → (∀ x ∈ es.take k, Pl.cmp x.1 E.1 < 0) ∧ us.map (·.2) = es.take k) ∧ (pb = true → (∃ y ∈ es.take k, ¬ Pl.cmp y.1 E.1 < 0) ∧ us.map (·.2) = Pl.put E (es.take k))
section
variable {E x : Ent} {es : List Ent} {k : Nat} {us : List (Value × Ent)}
theorem putInv_zero : PutInv E es 0 false [] := ⟨fun _ => ⟨fun x hx => by simp at hx, rfl⟩, fun h => by cases h⟩
theorem take_succ (hx : es[k]? = some x) : es.take (k + 1) = es.take k ++ [x] := by rw [List.take_add_one, hx]; rfl
theorem putInv_less (h : PutInv E es k false us) (hx : es[k]? = some x) (hc : Pl.cmp x.1 E.1 < 0) (u : Value) : PutInv E es (k + 1) false (us ++ [(u, x)]) := by
  obtain ⟨h1, h2⟩ := h.1 rfl
  refine ⟨fun _ => ⟨fun y hy => ?_, ?_⟩, fun q => by cases q⟩
  · rw [take_succ hx] at hy
    rcases List.mem_append.1 hy with hy | hy
    · exact h1 y hy
    · have : y = x := by simpa using hy
      rw [this]; exact hc
  · rw [take_succ hx, List.map_append, h2]; rfl
theorem putInv_on (h : PutInv E es k true us) (hx : es[k]? = some x) (hc : Pl.cmp x.1 E.1 ≠ 0) (u : Value) : PutInv E es (k + 1) true (us ++ [(u, x)]) := by
  obtain ⟨⟨y, h1, h2⟩, h3⟩ := h.2 rfl
  refine ⟨fun q => (by cases q), fun _ => ⟨⟨y, by rw [take_succ hx]; exact List.mem_append_left _ h1, h2⟩, ?_⟩⟩
  rw [take_succ hx, Pl.put_after ⟨y, h1, h2⟩, if_neg hc, List.map_append, h3]; rfl
theorem putInv_pass (h : PutInv E es k true us) (hx : es[k]? = some x) (hc : Pl.cmp x.1 E.1 = 0) : PutInv E es (k + 1) true us := by
  obtain ⟨⟨y, h1, h2⟩, h3⟩ := h.2 rfl
  refine ⟨fun q => (by cases q), fun _ => ⟨⟨y, by rw [take_succ hx]; exact List.mem_append_left _ h1, h2⟩, ?_⟩⟩
  rw [take_succ hx, Pl.put_after ⟨y, h1, h2⟩, if_pos hc, List.append_nil, h3]
theorem putInv_here (h : PutInv E es k false us) (hx : es[k]? = some x) (hc : Pl.cmp x.1 E.1 = 0) (o : Value) : PutInv E es (k + 1) true (us ++ [(o, E)]) := by
  obtain ⟨h1, h2⟩ := h.1 rfl
  have hn : ¬ Pl.cmp x.1 E.1 < 0 := by omega
  refine ⟨fun q => (by cases q), fun _ => ⟨⟨x, by rw [take_succ hx]; simp, hn⟩, ?_⟩⟩
  rw [take_succ hx, Pl.put_here h1 hn, if_pos hc, List.append_nil, List.map_append, h2]; rfl
theorem putInv_both (h : PutInv E es k false us) (hx : es[k]? = some x) (hn : ¬ Pl.cmp x.1 E.1 < 0) (hc : Pl.cmp x.1 E.1 ≠ 0) (o u : Value) : PutInv E es (k + 1) true ((us ++ [(o, E)]) ++ [(u, x)]) := by
  obtain ⟨h1, h2⟩ := h.1 rfl
  refine ⟨fun q => (by cases q), fun _ => ⟨⟨x, by rw [take_succ hx]; simp, hn⟩, ?_⟩⟩
  rw [take_succ hx, Pl.put_here h1 hn, if_neg hc, List.map_append, List.map_append, h2]; rfl
theorem putInv_last (h : PutInv E es es.length false us) (o : Value) : (us ++ [(o, E)]).map (·.2) = Pl.put E es := by
  obtain ⟨h1, h2⟩ := h.1 rfl
  rw [List.take_length] at h1 h2
  rw [Pl.put_before h1, List.map_append, h2]; rfl
theorem putInv_end (h : PutInv E es es.length true us) : us.map (·.2) = Pl.put E es := by
  obtain ⟨_, h2⟩ := h.2 rfl
  rw [List.take_length] at h2
  exact h2
end
/-- A whole entry stored. -/
theorem en_store {ops : Array Oper} {rest : List Oper} {o : Oper} {a : Act} {w : World} {Q : Exit → Act → World → Prop} (hgd : o.guard = none) (x y : Operand) (ho : o.op = .store 45 x y)
    (g : Nat) (u : Value) (t : ByteArray) (u' : Value) (t' : ByteArray) (hx : a.eval x = .pointer (some ⟨g, 0, none⟩)) (hy : a.eval y = enV u t) (hg : w.heap[g]? = some (.cells #[u', .string t'] 45 (0, 0))) (hu : u.oneCell' = true)
    (h : wpList Tryz.prog ops Q rest (a.put o.dst undef) (w.setRow g #[u, .string t])) : wpList Tryz.prog ops Q (o :: rest) a w :=
  wpList_store_row hgd _ x y ho g _ hx hy _ _ hg (by kernel_rfl) rfl (by rw [Array.all_eq_true_iff_forall_mem]; intro x hx; simp at hx; rcases hx with rfl | rfl <;> first | exact hu | rfl) h
theorem setRow_grown {w : World} {g : Nat} {cs cs' : Array Value} {T : TypeId} {fr : Nat × Nat} (h : w.heap[g]? = some (.cells cs T fr)) : (w.setRow g cs').heap[g]? = some (.cells cs' T fr) ∧ w.grownBy (w.setRow g cs') (some g) :=
  ⟨setRow_heap w g cs cs' T fr h, ⟨by simp [World.setRow], by simp [World.setRow], by simp [World.setRow], by simp [World.setRow], fun k _ hk => setRow_other w g k cs' (fun e => hk (by rw [e]))⟩⟩
theorem kept0 {w : World} {v x y : Value} {b : Nat} {T : TypeId} (h : Kept w v b (.cells #[x, y] T)) : w.cell? ⟨b, 0, none⟩ = some x := by unfold World.cell?; simp only [h.1]; rfl
theorem kept1 {w : World} {v x y : Value} {b : Nat} {T : TypeId} (h : Kept w v b (.cells #[x, y] T)) : w.cell? ⟨b, 1, none⟩ = some y := by unfold World.cell?; simp only [h.1]; rfl
/-- The own copy, as it lies behind the store. -/
theorem own_box {w4 W : World} {ob base : Nat} {x y u1 : Value} {et : ByteArray} {eo : List Int} (hB : Below w4.heap.size w4 W) (hob : w4.heap.size ≤ ob) (hW : W.heap[ob]? = some (.cells #[x, y] 45 (0, 0))) (hbase : base ≤ w4.heap.size)
    (hu : IntsM W u1 eo) (hn : ∀ b, u1.ownBlock = some b → w4.heap.size ≤ b ∧ b ≠ ob) :
    (W.setRow ob #[u1, .string et]).heap[ob]? = some (.cells #[u1, .string et] 45 (0, 0)) ∧ Below w4.heap.size w4 (W.setRow ob #[u1, .string et]) ∧ Off (W.setRow ob #[u1, .string et]) base none u1 eo := by
  obtain ⟨h1, h2⟩ := setRow_grown (cs' := #[u1, .string et]) hW
  refine ⟨h1, hB.grown h2 hB.size (fun b e => by injection e with e; omega), hu.touch (T := fun b => b = ob) (Touch.grown h2 fun k e => (Option.some.inj e).symm) (fun b hb e => (hn b hb).2 e), fun b hb => ⟨by have := (hn b hb).1; omega, fun e => by cases e⟩⟩
set_option maxHeartbeats 4000000 in
theorem l6Put_any (v : Value) (es : List Ent) (u : Value) (e : Ent) (w : World) (h : EntsM w v es) (hu : IntsM w u e.1) (hn : es.length ≤ 1000) (hx : ∀ e ∈ es, entOk e) (he : entOk e) :
    Calls Tryz.prog 51 #[dV v, enV u e.2] w fun r w' => (∃ v' us, r = .returned (dV v') ∧ Rows w' w.heap.size v' us ∧ us.map (·.2) = Pl.put e es) ∧ Below w.heap.size w w' := by
  obtain ⟨a, cap, rfl, hcap, hC⟩ := h.cells
  have CO := Lib.hid (fun v xs w h hn => l1Own_any v xs w h hn)
  have CC := Lib.hid (fun v u xs ys w h h' hn hm => l4Compare_any v u xs ys w h h' hn hm)
  have HX := Lib.hid (fun k e (h : es[k]? = some e) => hx e (List.mem_of_getElem? h))
  obtain ⟨n, hnn⟩ : ∃ n, n = es.length := ⟨_, rfl⟩
  rw [← hnn] at hn hcap ⊢
  have HN := Lib.hid hnn
  have HC := Lib.hid hC
  obtain ⟨eo, et⟩ := e
  obtain ⟨he1, he2⟩ := he
  simp only at hu he1 he2 ⊢
  have HU := Lib.hid hu
  obtain ⟨ea, ecap, rfl, _, _⟩ := hu.at.cells
  obtain ⟨E, hE⟩ : ∃ E, E = ((eo, et) : Ent) := ⟨_, rfl⟩
  rw [← hE]
  have HE := Lib.hid hE
  clear h hnn hC hx hu hE
  unfold dV enV
  go_enter Tryz.func51, Tryz.ntmps51
  go_wp2_with fail
  obtain ⟨w4, h4⟩ : ∃ w4, w4 = (((w.alloc (.cells #[.slice a n cap] 26)).alloc (.cells #[.slice ea eo.length ecap, .string et] 45)).alloc (.cells #[.slice none 0 0] 26)).alloc (.cells #[.slice none 0 0] 26) := ⟨_, rfl⟩
  rw [← h4]
  obtain ⟨hs4, hb4, q0, qe0, qe1, q2, q3⟩ := boxes4 _ _ _ _ _ _ _ _ _ _ w4 h4
  have HB4 := Lib.hid hb4
  have HS4 := Lib.hid hs4
  have Q0 := Lib.hid q0
  have Q2 := Lib.hid q2
  have Q3 := Lib.hid q3
  have QE0 := Lib.hid qe0
  have QE1 := Lib.hid qe1
  have HS : Hid (∀ w', Below w4.heap.size w4 w' → w'.cell? ⟨w.heap.size + 1, 0, none⟩ = some (.slice ea eo.length ecap) ∧ w'.cell? ⟨w.heap.size + 1, 1, none⟩ = some (.string et)) := by
    intro w' hb
    have := HS4.out
    exact ⟨(hb.cell (p := ⟨w.heap.size + 1, 0, none⟩) (by show w.heap.size + 1 < _; omega)).trans QE0.out, (hb.cell (p := ⟨w.heap.size + 1, 1, none⟩) (by show w.heap.size + 1 < _; omega)).trans QE1.out⟩
  have CO2 : Hid (∀ w', Below w4.heap.size w4 w' → Calls Tryz.prog 64 #[.slice ea eo.length ecap] w' fun e w'' => (∃ u, e = .returned u ∧ w''.ownsRow w'.heap.size 3 1 u eo.length (eo.map (.int .i64))) ∧ Below w'.heap.size w' w'') :=
    fun w' hb => CO.out _ eo w' ((HU.out.below HB4.out).below hb) he1
  have kq0 := cell_regrown qe0
  have kq1 := cell_regrown qe1
  clear h4 hb4 hs4 q0 q2 q3 qe0 qe1
  refine Mx.wp_region_mixed (Mx.ofL [(0, 0), (1, 1), (3, 0), (4, 1)] (.fork 2 2 (Mx.ofL [(5, 0), (6, 2), (7, 3)] .done) 6 2 (Mx.ofL [(2, 2), (5, 0), (7, 3)] .done))) (by kernel_rfl) (by kernel_rfl) ?_
  repeat ((first | refine Mx.mix0 rfl ?_ | refine Mx.mix1 rfl ?_); go_big_quiet_step (fail); refine wpQuiet_nil ?_)
  refine Mx.mixF rfl rfl ?A ?B
  case' A =>
    go_wp2_with fail
    refine (CO2.out _ (below_drew1 (Below.refl _ _))).mono ?_
    rintro r w1 ⟨⟨u1, rfl, hown⟩, hb1⟩
    have B1 : Hid (Below w4.heap.size w4 w1) := (below_drew1 (Below.refl w4.heap.size w4)).trans hb1
    have U1 := Lib.hid (row_M hown)
    have L1 := Lib.hid (fun b hb => hown.lt (k := b) hb)
    have HG := Lib.hid (regrown_of_below B1.out)
    have HG2 : ∀ o, Hid (∃ p : Regrown, w1.alloc o = Go.Sort.grow (redrawn w4 p.d) p.os) := fun o => regrown_of_below (B1.out.trans ((below_al w1 o).mono B1.out.size))
    obtain ⟨oa, ocap, rfl, _, _⟩ := U1.out.at.cells
    clear hown hb1
    go_wp2
    refine Mx.mid_normal (fun _ => HG.out) ?_
    repeat ((first | refine Mx.mix0 rfl ?_ | refine Mx.mix1 rfl ?_); go_big_quiet_step (fail); refine wpQuiet_nil ?_)
    refine Mx.mix2 rfl ?_
    go_wp2
    refine Mx.mid_normal (fun _ => (HG2 _).out) ?_
    refine Mx.mix3 rfl ?_
    have hnew : (w1.alloc (.cells #[.slice none 0 0, .string ⟨#[]⟩] 45)).heap[w1.heap.size]? = some (.cells #[.slice none 0 0, .string ⟨#[]⟩] 45 (0, 0)) := heap_alloc_new _ _
    obtain ⟨Z1, Z2, Z3⟩ := own_box (base := w.heap.size + 1 + 1 + 1 + 1) (et := et) (B1.out.trans ((below_al w1 _).mono B1.out.size)) B1.out.size hnew (by have := HS4.out; omega) (U1.out.below (below_al _ _)) (fun b hb => ⟨(L1.out b hb).1, fun e => by have := (L1.out b hb).2; omega⟩)
    refine en_store rfl _ _ rfl w1.heap.size _ _ _ _ rfl rfl hnew rfl ?_
    have hobl : w4.heap.size ≤ w1.heap.size := B1.out.size
    generalize hWS : (w1.alloc (.cells #[.slice none 0 0, .string ⟨#[]⟩] 45)).setRow w1.heap.size #[.slice oa eo.length ocap, .string et] = wS at Z1 Z2 Z3 ⊢
    obtain ⟨ob, hob⟩ : ∃ ob, ob = w1.heap.size := ⟨_, rfl⟩
    rw [← hob] at Z1 hobl ⊢
    clear HG HG2 L1 U1 B1 hnew hob hWS
  case' B =>
    go_wp2_with fail
    have hbn : Below w4.heap.size w4 (w4.drew.alloc (.cells #[.slice none 0 0, .string ⟨#[]⟩] 45)) := (below_drew1 (Below.refl w4.heap.size w4)).alloc (Nat.le_refl _) _
    have HGn := Lib.hid (regrown_of_below hbn)
    refine Mx.mid_normal (fun _ => HGn.out) ?_
    refine Mx.mix2 rfl ?_
    go_wp2_with fail
    refine (CO2.out _ hbn).mono ?_
    rintro r w1 ⟨⟨u1, rfl, hown⟩, hb1⟩
    have B1 : Hid (Below w4.heap.size w4 w1) := hbn.trans (hb1.mono hbn.size)
    have U1 := Lib.hid (row_M hown)
    have L1 : Hid (∀ b, u1.ownBlock = some b → w4.heap.size + 1 ≤ b) := fun b hb => by
      have := (hown.lt b hb).1
      rw [World.size_alloc] at this
      exact this
    have hnew : w1.heap[w4.heap.size]? = some (.cells #[.slice none 0 0, .string ⟨#[]⟩] 45 (0, 0)) := (hb1.block _ (by simp)).trans (heap_alloc_new w4.drew _)
    have HG := Lib.hid (regrown_of_below B1.out)
    obtain ⟨oa, ocap, rfl, _, _⟩ := U1.out.at.cells
    clear hown hb1 hbn HGn
    go_wp2
    refine Mx.mid_normal (fun _ => HG.out) ?_
    repeat ((first | refine Mx.mix0 rfl ?_ | refine Mx.mix1 rfl ?_); go_big_quiet_step (fail); refine wpQuiet_nil ?_)
    refine Mx.mix3 rfl ?_
    obtain ⟨Z1, Z2, Z3⟩ := own_box (base := w.heap.size + 1 + 1 + 1 + 1) (et := et) B1.out (Nat.le_refl _) hnew (by have := HS4.out; omega) U1.out (fun b hb => ⟨by have := L1.out b hb; omega, fun e => by have := L1.out b hb; omega⟩)
    refine en_store rfl _ _ rfl w4.heap.size _ _ _ _ rfl rfl hnew rfl ?_
    have hobl : w4.heap.size ≤ w4.heap.size := Nat.le_refl _
    obtain ⟨ob, hob⟩ : ∃ ob, ob = w4.heap.size := ⟨_, rfl⟩
    generalize hWS : w1.setRow w4.heap.size #[.slice oa eo.length ocap, .string et] = wS at Z1 Z2 Z3 ⊢
    have hobl : w4.heap.size ≤ ob := by rw [hob]; exact Nat.le_refl _
    rw [← hob] at Z1 ⊢
    clear HG L1 U1 B1 hnew hob hWS
  all_goals
    refine Mx.mid_normal (fun q => by cases q) (Mx.mix_nil ?_)
    have hBw : w.heap.size + 1 + 1 + 1 + 1 ≤ w4.heap.size := by have := HS4.out; omega
    have hobB : w.heap.size + 1 + 1 + 1 + 1 ≤ ob := Nat.le_trans hBw hobl
    have HO0 : Hid (OutSt w4 wS (w.heap.size + 1 + 1 + 1) (.slice none 0 0) []) := ⟨Z2.mono (by omega), Q3.out.below Z2 (by omega), Rows.nil _ _⟩
    have HK0 : Hid (Kept wS (.slice none 0 0) ob (.cells #[.slice oa eo.length ocap, .string et] 45)) := ⟨Z1, by simp [Value.ownBlock]⟩
    have HF0 := Lib.hid Z3
    have HL := Lib.hid hBw
    have HLo := Lib.hid hobB
    clear Z1 Z2 Z3 hobl hBw hobB
    go_wp2_with fail
    go_loopw [6, 8] (fun pv i wr => ∃ (k : Nat) (pb : Bool) (v : Value) (us : List (Value × Ent)), i = .int .i64 k ∧ pv = .bool pb ∧ k ≤ n ∧ us.length ≤ k + 1 ∧ Hid (OutSt w4 wr (w.heap.size + 1 + 1 + 1) v us) ∧ Hid (Kept wr v ob (.cells #[.slice oa eo.length ocap, .string et] 45)) ∧ Hid (pb = false → Off wr (w.heap.size + 1 + 1 + 1 + 1) v.ownBlock (.slice oa eo.length ocap) eo) ∧ Hid (PutInv E es k pb us)) (fun _ i _ => n - (intOf i).toNat)
    case atStart => exact ⟨0, false, _, [], rfl, rfl, Nat.zero_le _, Nat.zero_le _, HO0, HK0, fun _ => HF0.out, putInv_zero⟩
    case round =>
      obtain ⟨k, pb, v, us, rfl, rfl, hk, hul, HO, HK, HF, HI⟩ := hrel
      have hB0 := (BoxV.below Q0.out HO.out.bel (by omega)).cell
      by_cases hlt : k < n
      · obtain ⟨x, hx⟩ : ∃ x, es[k]? = some x := ⟨_, List.getElem?_eq_getElem (by rw [← HN.out]; exact hlt)⟩
        obtain ⟨bk, o, uk, rfl, hbk, g0', g1', gi0⟩ := HC.out w (Below.refl _ _) k x hx
        obtain ⟨xs, t⟩ := x
        simp only at g0' g1' gi0
        have hxe := HX.out k _ hx
        obtain ⟨ua, ucap, rfl, _, _⟩ := gi0.at.cells
        have g0 : w.cell? ⟨bk, o + k * 2, none⟩ = some (.slice ua xs.length ucap) := g0'
        have HEC : Hid (∀ W, Below w.heap.size w W → W.cell? ⟨bk, o + k * 2, none⟩ = some (.slice ua xs.length ucap) ∧ W.cell? ⟨bk, o + k * 2 + 1, none⟩ = some (.string t) ∧ IntsM W (.slice ua xs.length ucap) xs) :=
          fun W hb => ⟨(hb.cell (p := ⟨bk, o + k * 2, none⟩) hbk).trans g0, (hb.cell (p := ⟨bk, o + k * 2 + 1, none⟩) hbk).trans g1', gi0.below hb⟩
        have hxl : xs.length ≤ 2097152 := hxe.1
        have HXk := Lib.hid hx
        obtain ⟨c, hc⟩ : ∃ c, c = Pl.cmp xs eo := ⟨_, rfl⟩
        have HCC := Lib.hid hc
        obtain ⟨cw0, cw1, ciw⟩ := HEC.out wr (HB4.out.trans (HO.out.bel.mono (by omega)))
        have ce0 : wr.cell? ⟨w.heap.size + 1, 0, none⟩ = some (.slice ea eo.length ecap) := (HO.out.bel.cell (p := ⟨w.heap.size + 1, 0, none⟩) (by show w.heap.size + 1 < _; omega)).trans QE0.out
        have CC2 : Hid (∀ d os, Calls Tryz.prog 34 #[.slice ua xs.length ucap, .slice ea eo.length ecap] (Go.Sort.grow (redrawn wr d) os) fun r w'' => r = .returned (.int .i64 c) ∧ ∃ p : Regrown, w'' = Go.Sort.grow (redrawn wr p.d) p.os) := by
          intro d os
          have hbw := HB4.out.trans (HO.out.bel.mono (by omega))
          have := CC.out _ _ xs eo _ (ciw.at.below (below_regrown wr d os)) (((HU.out.below hbw).at).below (below_regrown wr d os)) hxl he1
          rw [← hc] at this
          exact Calls.regrown_of this
        have kb := cell_regrown hB0
        have kk0 := cell_regrown cw0
        have ke0 := cell_regrown ce0
        clear gi0 g0 g0' g1' hx hxe hc ciw cw1
        go_wp2_with fail
        refine wp_region_quiet_below (by kernel_rfl) (by kernel_rfl) ?_
        repeat (go_big_quiet_step (exact CC2.out _ _))
        refine wpQuiet_nil ?_
        rintro _ ⟨⟨dq, osq⟩, rfl⟩
        have hb1 : Below wr.heap.size wr (Go.Sort.grow (redrawn wr dq) osq) := below_regrown wr dq osq
        generalize Go.Sort.grow (redrawn wr dq) osq = wc at hb1 ⊢
        have HOc := Lib.hid (HO.out.below hb1)
        have HKc := Lib.hid (HK.out.below hb1)
        have HFc := Lib.hid (fun h => (HF.out h).below hb1)
        clear hb1 CC2 kb kk0 ke0 cw0 ce0 hB0
        rcases Int.lt_trichotomy c 0 with hc0 | hc0 | hc0
        · have HI2 : Hid (∀ u, PutInv E es (k + 1) pb (us ++ [(u, ((xs, t) : Ent))])) := fun u => by
            have hcl : Pl.cmp ((xs, t) : Ent).1 E.1 < 0 := by rw [HE.out]; show Pl.cmp xs eo < 0; rw [← HCC.out]; exact hc0
            cases pb
            · exact putInv_less HI.out HXk.out hcl u
            · exact putInv_on HI.out HXk.out (by omega) u
          have hn0 : ¬ (0 ≤ c) := by omega
          have hn1 : ¬ (c = 0) := by omega
          have hul1 : us.length ≤ k + 1 := hul
          clear HI HXk HCC HO HK HF CC
          have hb0w := (BoxV.below Q0.out HOc.out.bel (by omega)).cell
          obtain ⟨e0, e1, ei⟩ := HEC.out wc (HB4.out.trans (HOc.out.bel.mono (by omega)))
          have hout := HOc.out.box.cell
          have hofz := HOc.out.box.frozen
          have hWlt : w.heap.size + 1 + 1 + 1 + 1 ≤ wc.heap.size := HOc.out.box.lt
          have CO1 := Lib.hid (CO.out _ xs wc.drew (ei.below (below_drewN (Below.refl _ _) 1)) hxl)
          have kb := cell_regrown hb0w
          have ko := cell_regrown hout
          have k0 := cell_regrown e0
          have k1 := cell_regrown e1
          clear ei hb0w hout hofz e0 e1 
          go_wp2_with fail
          refine Mx.wp_region_mixed (Mx.ofL [(0, 0), (1, 1), (2, 0), (3, 1), (4, 0), (5, 0), (6, 0), (7, 1), (9, 0), (10, 1), (11, 0), (12, 0), (13, 0), (14, 1), (8, 2), (15, 0), (16, 2), (17, 3), (18, 0), (19, 3)] .done) (by kernel_rfl) (by kernel_rfl) ?_
          repeat ((first | refine Mx.mix0 rfl ?_ | refine Mx.mix1 rfl ?_); go_big_quiet_step (fail); refine wpQuiet_nil ?_)
          refine Mx.mix2 rfl ?_
          go_wp2_with fail
          refine CO1.out.mono ?_
          rintro r w5 ⟨⟨u5, rfl, hown⟩, hb5⟩
          have B5 : Below wc.heap.size wc w5 := (below_drewN (Below.refl _ _) 1).trans hb5
          have O5 := Lib.hid (HOc.out.below B5)
          have K5 := Lib.hid (HKc.out.below B5)
          have F5 := Lib.hid (fun h => (HFc.out h).below B5)
          have U5 : Hid (Off w5 (w.heap.size + 1 + 1 + 1 + 1) (v).ownBlock u5 xs) := off_new hown (HOc.out.rows.below (below_drewN (Below.refl _ _) 1)) hWlt
          have HG := Lib.hid (regrown_of_below B5)
          have HG2 : ∀ o, Hid (∃ p : Regrown, w5.alloc o = Go.Sort.grow (redrawn wc p.d) p.os) := fun o => regrown_of_below (B5.trans ((below_al w5 o).mono B5.size))
          have hs5 : w.heap.size + 1 + 1 + 1 + 1 ≤ w5.heap.size := by have := B5.size; omega
          clear hown hb5 B5 CO1 kb ko k0 k1
          obtain ⟨ub5, uc5, rfl, _, _⟩ := U5.out.1.at.cells
          go_wp2
          refine Mx.mid_normal (fun _ => HG.out) ?_
          repeat ((first | refine Mx.mix0 rfl ?_ | refine Mx.mix1 rfl ?_); go_big_quiet_step (fail); refine wpQuiet_nil ?_)
          refine Mx.mix2 rfl ?_
          go_wp2
          refine Mx.mid_normal (fun _ => (HG2 _).out) ?_
          refine Mx.mix3 rfl ?_
          refine push_ent rfl (.tmp 48) (.tmp 63) rfl (w.heap.size + 1 + 1 + 1 + 1) (v) (us) rfl O5.out.rows _ (xs, t) U5.out rfl hs5 (by first | omega | (simp; omega)) ?_
          intro v6 w6 R6 hg6 hat6
          have O6 := Lib.hid (O5.out.push hg6 R6)
          have K6 := Lib.hid (K5.out.push (B := w.heap.size + 1 + 1 + 1) (by have := HLo.out; omega) hg6 hat6)
          have F6 := Lib.hid (fun h => (F5.out h).push (Nat.lt_succ_self _) hg6 hat6)
          have M6 := (O5.out.mid hg6).2
          have c6 := M6.cell
          have z6' := M6.frozen
          obtain ⟨va6, vc6, hvf6⟩ := R6.form1
          try simp only [List.length_append, List.length_singleton] at hvf6
          subst hvf6
          clear hat6 hg6 R6 M6 O5 K5 F5 U5 HG HG2
          refine Mx.mid_normal (fun q => by cases q) ?_
          simp only [Act.put, List.setIfInBounds_toArray, List.set_cons_zero, List.set_cons_succ]
          repeat ((first | refine Mx.mix0 rfl ?_ | refine Mx.mix1 rfl ?_); go_big_quiet_step (fail); refine wpQuiet_nil ?_)
          refine Mx.mix3 rfl ?_
          go_wp2
          refine Mx.mid_normal (fun q => by cases q) (Mx.mix_nil ?_)
          go_wp2
          go_roundw
          case rel => exact ⟨k + 1, pb, _, (us) ++ [(_, ((xs, t) : Ent))], by go_num, rfl, by omega, by simp; omega, O6, K6, F6, HI2.out _⟩
          case measure => simp [intOf]; omega
        · cases pb
          · have hul0 : us.length ≤ k := by have := congrArg List.length (HI.out.1 rfl).2; rw [List.length_map, List.length_take] at this; omega
            have HI2 : Hid (∀ o, PutInv E es (k + 1) true (us ++ [(o, ((eo, et) : Ent))])) := fun o => by
              have hcl : Pl.cmp ((xs, t) : Ent).1 E.1 = 0 := by rw [HE.out]; show Pl.cmp xs eo = 0; rw [← HCC.out]; exact hc0
              have := putInv_here HI.out HXk.out hcl o
              rw [HE.out] at this ⊢
              exact this
            clear HI HXk HCC HO HK HF CC HEC
            have hcb := HOc.out.box.cell
            have hfb := HOc.out.box.frozen
            have hk0 := kept0 HKc.out
            have hk1 := kept1 HKc.out
            have hlt0 : w.heap.size + 1 + 1 + 1 + 1 ≤ wc.heap.size := HOc.out.box.lt
            have HFo := Lib.hid (HFc.out rfl)
            obtain ⟨va, vc, hvf⟩ := HOc.out.rows.form
            subst hvf
            go_wp2_with (at_builtin; refine push_ent rfl (.tmp 40) (.tmp 42) rfl (w.heap.size + 1 + 1 + 1 + 1) _ us rfl HOc.out.rows (Value.slice oa eo.length ocap) ((eo, et) : Ent) HFo.out rfl hlt0 (by omega) ?_)
            intro v2 w2 R2 hg2 hat2
            have O2 := Lib.hid (HOc.out.push hg2 R2)
            have K2 := Lib.hid (HKc.out.push (B := w.heap.size + 1 + 1 + 1) (by have := HLo.out; omega) hg2 hat2)
            have M2 := (HOc.out.mid hg2).2
            have c2 := M2.cell
            have z2 := M2.frozen
            obtain ⟨va2, vc2, hvf2⟩ := R2.form1
            subst hvf2
            clear hat2 hg2 R2 M2 hcb hfb hk0 hk1 HFo
            go_wp2
            go_roundw
            case rel => exact ⟨k + 1, true, _, us ++ [(_, ((eo, et) : Ent))], by go_num, rfl, by omega, by simp; omega, O2, K2, fun q => (by cases q), HI2.out _⟩
            case measure => simp [intOf]; omega
          · have HI2 : Hid (PutInv E es (k + 1) true us) := by
              have hcl : Pl.cmp ((xs, t) : Ent).1 E.1 = 0 := by rw [HE.out]; show Pl.cmp xs eo = 0; rw [← HCC.out]; exact hc0
              exact putInv_pass HI.out HXk.out hcl
            clear HI HXk HCC HO HK HF CC HEC
            go_wp2
            go_roundw
            case rel => exact ⟨k + 1, true, _, us, by go_num, rfl, by omega, by omega, HOc, HKc, fun q => (by cases q), HI2⟩
            case measure => simp [intOf]; omega
        · cases pb
          · have hul0 : us.length ≤ k := by have := congrArg List.length (HI.out.1 rfl).2; rw [List.length_map, List.length_take] at this; omega
            have HI2 : Hid (∀ u, PutInv E es (k + 1) true ((us ++ [((Value.slice oa eo.length ocap), ((eo, et) : Ent))]) ++ [(u, ((xs, t) : Ent))])) := fun u => by
              have hcl : Pl.cmp ((xs, t) : Ent).1 E.1 = c := by rw [HE.out]; show Pl.cmp xs eo = c; rw [← HCC.out]
              have := putInv_both HI.out HXk.out (by omega) (by omega) (Value.slice oa eo.length ocap) u
              rw [HE.out] at this ⊢
              exact this
            have hn0 : 0 ≤ c := by omega
            have hn1 : ¬ (c = 0) := by omega
            clear HI HXk HCC HO HK HF CC
            have hcb := HOc.out.box.cell
            have hfb := HOc.out.box.frozen
            have hk0 := kept0 HKc.out
            have hk1 := kept1 HKc.out
            have hlt0 : w.heap.size + 1 + 1 + 1 + 1 ≤ wc.heap.size := HOc.out.box.lt
            have HFo := Lib.hid (HFc.out rfl)
            obtain ⟨va, vc, hvf⟩ := HOc.out.rows.form
            subst hvf
            go_wp2_with (at_builtin; refine push_ent rfl (.tmp 40) (.tmp 42) rfl (w.heap.size + 1 + 1 + 1 + 1) _ us rfl HOc.out.rows (Value.slice oa eo.length ocap) ((eo, et) : Ent) HFo.out rfl hlt0 (by omega) ?_)
            intro v2 w2 R2 hg2 hat2
            have O2 := Lib.hid (HOc.out.push hg2 R2)
            have K2 := Lib.hid (HKc.out.push (B := w.heap.size + 1 + 1 + 1) (by have := HLo.out; omega) hg2 hat2)
            have M2 := (HOc.out.mid hg2).2
            have c2 := M2.cell
            have z2 := M2.frozen
            obtain ⟨va2, vc2, hvf2⟩ := R2.form1
            subst hvf2
            clear hat2 hg2 R2 M2 hcb hfb hk0 hk1 HFo
            go_wp2_with fail
            generalize w2.setCell ⟨w.heap.size + 1 + 1 + 1, 0, none⟩ (.slice va2 (us.length + 1) vc2) = W2 at O2 K2 ⊢
            have F2 : Hid (true = false → Off W2 (w.heap.size + 1 + 1 + 1 + 1) (Value.slice va2 (us.length + 1) vc2).ownBlock (Value.slice oa eo.length ocap) eo) := fun q => by cases q
            have hb0w := (BoxV.below Q0.out O2.out.bel (by omega)).cell
            obtain ⟨e0, e1, ei⟩ := HEC.out W2 (HB4.out.trans (O2.out.bel.mono (by omega)))
            have hout := O2.out.box.cell
            have hofz := O2.out.box.frozen
            have hWlt : w.heap.size + 1 + 1 + 1 + 1 ≤ W2.heap.size := O2.out.box.lt
            have CO1 := Lib.hid (CO.out _ xs W2.drew (ei.below (below_drewN (Below.refl _ _) 1)) hxl)
            have kb := cell_regrown hb0w
            have ko := cell_regrown hout
            have k0 := cell_regrown e0
            have k1 := cell_regrown e1
            clear ei hb0w hout hofz e0 e1 c2 z2
            go_wp2_with fail
            refine Mx.wp_region_mixed (Mx.ofL [(0, 0), (1, 1), (2, 0), (3, 1), (4, 0), (5, 0), (6, 0), (7, 1), (9, 0), (10, 1), (11, 0), (12, 0), (13, 0), (14, 1), (8, 2), (15, 0), (16, 2), (17, 3), (18, 0), (19, 3)] .done) (by kernel_rfl) (by kernel_rfl) ?_
            repeat ((first | refine Mx.mix0 rfl ?_ | refine Mx.mix1 rfl ?_); go_big_quiet_step (fail); refine wpQuiet_nil ?_)
            refine Mx.mix2 rfl ?_
            go_wp2_with fail
            refine CO1.out.mono ?_
            rintro r w5 ⟨⟨u5, rfl, hown⟩, hb5⟩
            have B5 : Below W2.heap.size W2 w5 := (below_drewN (Below.refl _ _) 1).trans hb5
            have O5 := Lib.hid (O2.out.below B5)
            have K5 := Lib.hid (K2.out.below B5)
            have F5 := Lib.hid (fun h => (F2.out h).below B5)
            have U5 : Hid (Off w5 (w.heap.size + 1 + 1 + 1 + 1) (Value.slice va2 (us.length + 1) vc2).ownBlock u5 xs) := off_new hown (O2.out.rows.below (below_drewN (Below.refl _ _) 1)) hWlt
            have HG := Lib.hid (regrown_of_below B5)
            have HG2 : ∀ o, Hid (∃ p : Regrown, w5.alloc o = Go.Sort.grow (redrawn W2 p.d) p.os) := fun o => regrown_of_below (B5.trans ((below_al w5 o).mono B5.size))
            have hs5 : w.heap.size + 1 + 1 + 1 + 1 ≤ w5.heap.size := by have := B5.size; omega
            clear hown hb5 B5 CO1 kb ko k0 k1
            obtain ⟨ub5, uc5, rfl, _, _⟩ := U5.out.1.at.cells
            go_wp2
            refine Mx.mid_normal (fun _ => HG.out) ?_
            repeat ((first | refine Mx.mix0 rfl ?_ | refine Mx.mix1 rfl ?_); go_big_quiet_step (fail); refine wpQuiet_nil ?_)
            refine Mx.mix2 rfl ?_
            go_wp2
            refine Mx.mid_normal (fun _ => (HG2 _).out) ?_
            refine Mx.mix3 rfl ?_
            refine push_ent rfl (.tmp 48) (.tmp 63) rfl (w.heap.size + 1 + 1 + 1 + 1) (Value.slice va2 (us.length + 1) vc2) (us ++ [((Value.slice oa eo.length ocap), ((eo, et) : Ent))]) rfl O5.out.rows _ (xs, t) U5.out rfl hs5 (by first | omega | (simp; omega)) ?_
            intro v6 w6 R6 hg6 hat6
            have O6 := Lib.hid (O5.out.push hg6 R6)
            have K6 := Lib.hid (K5.out.push (B := w.heap.size + 1 + 1 + 1) (by have := HLo.out; omega) hg6 hat6)
            have F6 := Lib.hid (fun h => (F5.out h).push (Nat.lt_succ_self _) hg6 hat6)
            have M6 := (O5.out.mid hg6).2
            have c6 := M6.cell
            have z6' := M6.frozen
            obtain ⟨va6, vc6, hvf6⟩ := R6.form1
            try simp only [List.length_append, List.length_singleton] at hvf6
            subst hvf6
            clear hat6 hg6 R6 M6 O5 K5 F5 U5 HG HG2
            refine Mx.mid_normal (fun q => by cases q) ?_
            simp only [Act.put, List.setIfInBounds_toArray, List.set_cons_zero, List.set_cons_succ]
            repeat ((first | refine Mx.mix0 rfl ?_ | refine Mx.mix1 rfl ?_); go_big_quiet_step (fail); refine wpQuiet_nil ?_)
            refine Mx.mix3 rfl ?_
            go_wp2
            refine Mx.mid_normal (fun q => by cases q) (Mx.mix_nil ?_)
            go_wp2
            go_roundw
            case rel => exact ⟨k + 1, true, _, (us ++ [((Value.slice oa eo.length ocap), ((eo, et) : Ent))]) ++ [(_, ((xs, t) : Ent))], by go_num, rfl, by omega, by simp; omega, O6, K6, F6, HI2.out _⟩
            case measure => simp [intOf]; omega
          · have HI2 : Hid (∀ u, PutInv E es (k + 1) true (us ++ [(u, ((xs, t) : Ent))])) := fun u => by
              have hcl : Pl.cmp ((xs, t) : Ent).1 E.1 = c := by rw [HE.out]; show Pl.cmp xs eo = c; rw [← HCC.out]
              exact putInv_on HI.out HXk.out (by omega) u
            have hn0 : 0 ≤ c := by omega
            have hn1 : ¬ (c = 0) := by omega
            clear HI HXk HCC HO HK HF CC
            have hb0w := (BoxV.below Q0.out HOc.out.bel (by omega)).cell
            obtain ⟨e0, e1, ei⟩ := HEC.out wc (HB4.out.trans (HOc.out.bel.mono (by omega)))
            have hout := HOc.out.box.cell
            have hofz := HOc.out.box.frozen
            have hWlt : w.heap.size + 1 + 1 + 1 + 1 ≤ wc.heap.size := HOc.out.box.lt
            have CO1 := Lib.hid (CO.out _ xs wc.drew (ei.below (below_drewN (Below.refl _ _) 1)) hxl)
            have kb := cell_regrown hb0w
            have ko := cell_regrown hout
            have k0 := cell_regrown e0
            have k1 := cell_regrown e1
            clear ei hb0w hout hofz e0 e1 
            go_wp2_with fail
            refine Mx.wp_region_mixed (Mx.ofL [(0, 0), (1, 1), (2, 0), (3, 1), (4, 0), (5, 0), (6, 0), (7, 1), (9, 0), (10, 1), (11, 0), (12, 0), (13, 0), (14, 1), (8, 2), (15, 0), (16, 2), (17, 3), (18, 0), (19, 3)] .done) (by kernel_rfl) (by kernel_rfl) ?_
            repeat ((first | refine Mx.mix0 rfl ?_ | refine Mx.mix1 rfl ?_); go_big_quiet_step (fail); refine wpQuiet_nil ?_)
            refine Mx.mix2 rfl ?_
            go_wp2_with fail
            refine CO1.out.mono ?_
            rintro r w5 ⟨⟨u5, rfl, hown⟩, hb5⟩
            have B5 : Below wc.heap.size wc w5 := (below_drewN (Below.refl _ _) 1).trans hb5
            have O5 := Lib.hid (HOc.out.below B5)
            have K5 := Lib.hid (HKc.out.below B5)
            have F5 := Lib.hid (fun h => (HFc.out h).below B5)
            have U5 : Hid (Off w5 (w.heap.size + 1 + 1 + 1 + 1) (v).ownBlock u5 xs) := off_new hown (HOc.out.rows.below (below_drewN (Below.refl _ _) 1)) hWlt
            have HG := Lib.hid (regrown_of_below B5)
            have HG2 : ∀ o, Hid (∃ p : Regrown, w5.alloc o = Go.Sort.grow (redrawn wc p.d) p.os) := fun o => regrown_of_below (B5.trans ((below_al w5 o).mono B5.size))
            have hs5 : w.heap.size + 1 + 1 + 1 + 1 ≤ w5.heap.size := by have := B5.size; omega
            clear hown hb5 B5 CO1 kb ko k0 k1
            obtain ⟨ub5, uc5, rfl, _, _⟩ := U5.out.1.at.cells
            go_wp2
            refine Mx.mid_normal (fun _ => HG.out) ?_
            repeat ((first | refine Mx.mix0 rfl ?_ | refine Mx.mix1 rfl ?_); go_big_quiet_step (fail); refine wpQuiet_nil ?_)
            refine Mx.mix2 rfl ?_
            go_wp2
            refine Mx.mid_normal (fun _ => (HG2 _).out) ?_
            refine Mx.mix3 rfl ?_
            refine push_ent rfl (.tmp 48) (.tmp 63) rfl (w.heap.size + 1 + 1 + 1 + 1) (v) (us) rfl O5.out.rows _ (xs, t) U5.out rfl hs5 (by first | omega | (simp; omega)) ?_
            intro v6 w6 R6 hg6 hat6
            have O6 := Lib.hid (O5.out.push hg6 R6)
            have K6 := Lib.hid (K5.out.push (B := w.heap.size + 1 + 1 + 1) (by have := HLo.out; omega) hg6 hat6)
            have F6 := Lib.hid (fun h => (F5.out h).push (Nat.lt_succ_self _) hg6 hat6)
            have M6 := (O5.out.mid hg6).2
            have c6 := M6.cell
            have z6' := M6.frozen
            obtain ⟨va6, vc6, hvf6⟩ := R6.form1
            try simp only [List.length_append, List.length_singleton] at hvf6
            subst hvf6
            clear hat6 hg6 R6 M6 O5 K5 F5 U5 HG HG2
            refine Mx.mid_normal (fun q => by cases q) ?_
            simp only [Act.put, List.setIfInBounds_toArray, List.set_cons_zero, List.set_cons_succ]
            repeat ((first | refine Mx.mix0 rfl ?_ | refine Mx.mix1 rfl ?_); go_big_quiet_step (fail); refine wpQuiet_nil ?_)
            refine Mx.mix3 rfl ?_
            go_wp2
            refine Mx.mid_normal (fun q => by cases q) (Mx.mix_nil ?_)
            go_wp2
            go_roundw
            case rel => exact ⟨k + 1, true, _, (us) ++ [(_, ((xs, t) : Ent))], by go_num, rfl, by omega, by simp; omega, O6, K6, F6, HI2.out _⟩
            case measure => simp [intOf]; omega
      · obtain rfl : k = n := by omega
        have hQ2 : Hid (BoxV wr (w.heap.size + 1 + 1) 26 (.slice none 0 0)) := BoxV.below Q2.out HO.out.bel (by omega)
        have hrl : w.heap.size + 1 + 1 < wr.heap.size := hQ2.out.lt
        have HBw : Hid (Below w.heap.size w wr) := HB4.out.trans (HO.out.bel.mono (by omega))
        cases pb
        · have HI2 : Hid (∀ o, (us ++ [(o, ((eo, et) : Ent))]).map (fun x : Value × Ent => x.2) = Pl.put E es) := fun o => by
            have h1 := HI.out
            rw [HN.out] at h1
            have := putInv_last h1 o
            rw [HE.out] at this ⊢
            exact this
          clear HI HC CC
          have hcb := HO.out.box.cell
          have hfb := HO.out.box.frozen
          have hk0 := kept0 HK.out
          have hk1 := kept1 HK.out
          have hlt0 : w.heap.size + 1 + 1 + 1 + 1 ≤ wr.heap.size := HO.out.box.lt
          have HFo := Lib.hid (HF.out rfl)
          obtain ⟨va, vc, hvf⟩ := HO.out.rows.form
          subst hvf
          go_wp2_with (at_builtin; refine push_ent rfl (.tmp 69) (.tmp 71) rfl (w.heap.size + 1 + 1 + 1 + 1) _ us rfl HO.out.rows (Value.slice oa eo.length ocap) ((eo, et) : Ent) HFo.out rfl hlt0 (by omega) ?_)
          intro v2 w2 R2 hg2 hat2
          have O2 := Lib.hid (HO.out.push hg2 R2)
          have K2 := Lib.hid (HK.out.push (B := w.heap.size + 1 + 1 + 1) (by have := HLo.out; omega) hg2 hat2)
          have M2 := (HO.out.mid hg2).2
          have c2 := M2.cell
          have z2 := M2.frozen
          have Qw := (hQ2.out.below (below_al wr _) hrl).grown hg2 (fun e => by have := (HO.out.rows.row.lt _ e.symm).1; omega)
          have cq := Qw.cell
          have fq := Qw.frozen
          have HQw := Lib.hid Qw
          clear Qw
          obtain ⟨va2, vc2, hvf2⟩ := R2.form1
          subst hvf2
          clear hat2 hg2 R2 M2 hcb hfb hk0 hk1 HFo
          clear HBw hQ2
          go_wp2
          refine bodyPost_ret (results_cell_row rfl _ _ _ _ _ _ _ rfl ((HQw.out.other (by omega)).set _) Tryz.underlying26 rfl (by kernel_rfl)) rfl ?_
          exact ⟨⟨_, us ++ [(_, ((eo, et) : Ent))], rfl, (O2.out.rows.setCell (by omega)).mono (by omega), HI2.out _⟩, (HB4.out.trans (O2.out.bel.mono (by omega))).setCell (by show w.heap.size ≤ w.heap.size + 1 + 1; omega) _⟩
        · have HI2 : Hid (us.map (·.2) = Pl.put E es) := by
            have h1 := HI.out
            rw [HN.out] at h1
            exact putInv_end h1
          have hres := hQ2.out.cell
          have hrfz := hQ2.out.frozen
          have hcc := HO.out.box.cell
          obtain ⟨va, vc, hvf⟩ := HO.out.rows.form
          subst hvf
          clear HI HC CC
          go_wp2
          refine bodyPost_ret (results_cell_row rfl _ _ _ _ _ _ _ rfl (hQ2.out.set _) Tryz.underlying26 rfl (by kernel_rfl)) rfl ?_
          exact ⟨⟨_, us, rfl, (HO.out.rows.setCell (by omega)).mono (by omega), HI2.out⟩, HBw.out.setCell (by show w.heap.size ≤ w.heap.size + 1 + 1; omega) _⟩
end Go.Proofs.YtnpiphkglhcifaaGreat
