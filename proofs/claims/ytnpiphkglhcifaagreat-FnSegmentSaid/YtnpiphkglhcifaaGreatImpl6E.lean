/-
  CONTRACTS of the program's chapter 6: textsOf, Lookup.
-/
import Derived.Test.YtnpiphkglhcifaaGreatPlainDict
import Derived.Test.YtnpiphkglhcifaaGreatDictL
import Derived.Test.YtnpiphkglhcifaaGreatImpl4C
import Derived.Test.YtnpiphkglhcifaaGreatImpl5F
import Derived.Laws.Rows
import Derived.Laws.CopyOwn
import Derived.Test.YtnpiphkglhcifaaGreatChecked
import Derived.Maps.OwnSet
import Derived.Maps.Views
import Derived.Maps.StringElems
import Derived.DeepKeys4
import Derived.Test.YtnpiphkglhcifaaGreatMix
namespace Go.Proofs.YtnpiphkglhcifaaGreat.Pl
set_option maxRecDepth 100000

/-- Filled up with zeros to n. -/
def pad (n : Nat) (a : List Int) : List Int := a ++ List.replicate (n - a.length) 0
theorem pad_len {n : Nat} {a : List Int} (h : a.length ≤ n) : (pad n a).length = n := by unfold pad; rw [List.length_append, List.length_replicate]; omega
theorem pad_cons (n : Nat) (x : Int) (a : List Int) : pad (n + 1) (x :: a) = x :: pad n a := by
  unfold pad; rw [List.cons_append, List.length_cons, Nat.add_sub_add_right]
theorem pad_nil (n : Nat) : pad (n + 1) [] = 0 :: pad n [] := by unfold pad; simp [List.replicate_succ]
theorem cmp_pad : ∀ (n : Nat) (a b : List Int), a.length ≤ n → b.length ≤ n → (∀ x ∈ a, 0 < x) → (∀ x ∈ b, 0 < x) → cmp (pad n a) (pad n b) = cmp a b
  | n, [], [], _, _, _, _ => cmp_self _
  | 0, [], _ :: _, _, h, _, _ => by simp at h
  | n + 1, [], y :: b, _, _, _, hy => by
    rw [pad_nil, pad_cons]
    have := hy y (List.mem_cons_self ..)
    show (if (0 : Int) < y then (-1 : Int) else if y < 0 then 1 else cmp _ _) = -1
    rw [if_pos this]
  | 0, _ :: _, _, h, _, _, _ => by simp at h
  | n + 1, x :: a, [], _, _, hx, _ => by
    rw [pad_nil, pad_cons]
    have := hx x (List.mem_cons_self ..)
    show (if x < (0 : Int) then (-1 : Int) else if 0 < x then 1 else cmp _ _) = 1
    rw [if_neg (by omega), if_pos this]
  | n + 1, x :: a, y :: b, h, h', hx, hy => by
    rw [pad_cons, pad_cons]
    show (if x < y then (-1 : Int) else if y < x then 1 else cmp (pad n a) (pad n b)) = (if x < y then (-1 : Int) else if y < x then 1 else cmp a b)
    rw [cmp_pad n a b (by simpa using h) (by simpa using h') (fun z hz => hx z (List.mem_cons_of_mem _ hz)) (fun z hz => hy z (List.mem_cons_of_mem _ hz))]
theorem pad_inj {n : Nat} {a b : List Int} (ha : a.length ≤ n) (hb : b.length ≤ n) (hx : ∀ x ∈ a, 0 < x) (hy : ∀ x ∈ b, 0 < x) (h : pad n a = pad n b) : a = b := by
  have := cmp_pad n a b ha hb hx hy
  rw [h, cmp_self] at this
  exact (cmp_zero a b).1 this.symm
theorem six {l : List Int} (h : l.length = 6) : ∃ a b c d e f, l = [a, b, c, d, e, f] := by
  match l, h with
  | [a, b, c, d, e, f], _ => exact ⟨a, b, c, d, e, f, rfl⟩
end Go.Proofs.YtnpiphkglhcifaaGreat.Pl

namespace Go.Proofs.YtnpiphkglhcifaaGreat
set_option maxRecDepth 100000
open Go.RowKit

/-- The key of no outline. -/
def z6 : List Int := List.replicate 6 0
theorem z6_len : z6.length = 6 := rfl
/-- The key of an outline. -/
def keyL (xs : List Int) : List Int := if okO xs = true then Pl.pad 6 xs else z6
def kyA (l : List Int) : Array Value := (l.map (Value.int .i64)).toArray
theorem keyL_yes {xs : List Int} (h : okO xs = true) : keyL xs = Pl.pad 6 xs := by unfold keyL; rw [if_pos h]
theorem keyL_no {xs : List Int} (h : okO xs = false) : keyL xs = z6 := by unfold keyL; rw [h]; rfl
theorem keyL_len (xs : List Int) : (keyL xs).length = 6 := by
  unfold keyL
  split
  · rename_i h; exact Pl.pad_len (okO_parts h).2.1
  · rfl
theorem okO_pos {xs : List Int} (h : okO xs = true) : ∀ x ∈ xs, 0 < x := by
  intro x hx
  have := okS_iff.1 ((okO_parts h).2.2 x hx)
  omega
theorem key_cmp {xs ys : List Int} (hx : okO xs = true) (hy : okO ys = true) : Pl.cmp (keyL xs) (keyL ys) = Pl.cmp xs ys := by
  rw [keyL_yes hx, keyL_yes hy]
  exact Pl.cmp_pad 6 xs ys (okO_parts hx).2.1 (okO_parts hy).2.1 (okO_pos hx) (okO_pos hy)
theorem key_zero {ys : List Int} (hy : okO ys = true) : Pl.cmp z6 (keyL ys) = -1 := by
  obtain ⟨h1, h2, _⟩ := okO_parts hy
  rw [keyL_yes hy]
  have e : z6 = Pl.pad 6 [] := rfl
  rw [e, Pl.cmp_pad 6 [] ys (Nat.zero_le _) h2 (fun x hx => by simp at hx) (okO_pos hy)]
  cases ys with
  | nil => simp at h1
  | cons y ys => rfl
theorem key_inj {xs ys : List Int} (hx : okO xs = true) (hy : okO ys = true) (h : keyL xs = keyL ys) : xs = ys := by
  rw [keyL_yes hx, keyL_yes hy] at h
  exact Pl.pad_inj (okO_parts hx).2.1 (okO_parts hy).2.1 (okO_pos hx) (okO_pos hy) h
theorem kyA_size {l : List Int} (h : l.length = 6) : (kyA l).size = 6 := by unfold kyA; simp [h]
theorem kyA_one (l : List Int) : (kyA l).all (·.oneCell') = true := by
  rw [Array.all_eq_true_iff_forall_mem]
  intro x hx
  unfold kyA at hx
  simp at hx
  obtain ⟨j, _, rfl⟩ := hx
  rfl
/-- Block g is a key. -/
def KyB (w : World) (g : Nat) (l : List Int) : Prop := w.heap[g]? = some (.cells (kyA l) 73 (0, 0))
theorem KyB.lt {w : World} {g : Nat} {l : List Int} (h : KyB w g l) : g < w.heap.size := (Array.getElem?_eq_some_iff.1 h).1
theorem KyB.below {w w' : World} {g : Nat} {l : List Int} {N : Nat} (h : KyB w g l) (hb : Below N w w') (hN : g < N) : KyB w' g l := (hb.block g hN).trans h
theorem KyB.new (w : World) (l : List Int) : KyB (w.alloc (.cells (kyA l) 73)) w.heap.size l := heap_alloc_new w _
theorem KyB.other {w : World} {b g o : Nat} {l : List Int} {v : Value} (h : KyB w b l) (hne : g ≠ b) : KyB (w.setCell ⟨g, o, none⟩ v) b l := (Below.heap_setCell _ _ _ _ (fun e => hne e.symm)).trans h
theorem KyB.row {w : World} {g : Nat} {l : List Int} (h : KyB w g l) (m : List Int) : KyB (w.setRow g (kyA m)) g m := setRow_heap w g _ (kyA m) _ _ h
theorem KyB.rowOther {w : World} {g k : Nat} {l : List Int} (h : KyB w g l) (m : Array Value) (hk : k ≠ g) : KyB (w.setRow k m) g l := (setRow_other w k g m (fun e => hk e.symm)).trans h
theorem KyB.cells {w : World} {g : Nat} {a b c d e f : Int} (h : KyB w g [a, b, c, d, e, f]) : w.cell? ⟨g, 0, none⟩ = some (.int .i64 a) ∧ w.cell? ⟨g, 1, none⟩ = some (.int .i64 b) ∧ w.cell? ⟨g, 2, none⟩ = some (.int .i64 c) ∧ w.cell? ⟨g, 3, none⟩ = some (.int .i64 d) ∧ w.cell? ⟨g, 4, none⟩ = some (.int .i64 e) ∧ w.cell? ⟨g, 5, none⟩ = some (.int .i64 f) := by
  refine ⟨?_, ?_, ?_, ?_, ?_, ?_⟩ <;> (rw [cell_of_row w g _ _ _ _ h]; rfl)
/-- A key's cells, in a world that has grown. -/
theorem KyB.regrown {w : World} {g : Nat} {l : List Int} (h : KyB w g l) : ∀ d os, KyB (Go.Sort.grow (redrawn w d) os) g l := fun d os => h.below (below_regrown w d os) h.lt
theorem KyB.ints {w : World} {g : Nat} {l : List Int} (h : KyB w g l) (hl : l.length = 6) : IntsAt w (.slice (some ⟨g, 0, none⟩) 6 6) l := by
  refine ⟨_, 6, by rw [hl], by rw [hl]; exact Nat.le_refl _, .inr ⟨g, 0, rfl, h.lt, fun j x hj => ?_⟩⟩
  rw [Nat.zero_add, cell_of_row w g j _ _ _ h]
  unfold kyA
  simp [hj]
theorem ky_size {l : List Int} (h : l.length = 6) : (Tryz.prog.info? 73).map (·.size) = some (kyA l).size := by rw [kyA_size h]; kernel_rfl
theorem ky_nil : (#[.int .i64 0, .int .i64 0, .int .i64 0, .int .i64 0, .int .i64 0, .int .i64 0] : Array Value) = kyA z6 := by kernel_rfl
theorem ky_nil' : (.cells #[.int .i64 0, .int .i64 0, .int .i64 0, .int .i64 0, .int .i64 0, .int .i64 0] 73 : Obj) = .cells (kyA z6) 73 := by rw [ky_nil]
section
variable {ops : Array Oper} {rest : List Oper} {o : Oper} {a : Act} {w : World} {Q : Exit → Act → World → Prop}
/-- A key is loaded. -/
theorem ky_load (g : Nat) (l : List Int) (hl : l.length = 6) {x : Operand} (hgd : o.guard = none) (ho : o.op = .load 73 x) (hx : a.eval x = .pointer (some ⟨g, 0, none⟩)) (hg : KyB w g l)
    (h : wpList Tryz.prog ops Q rest (a.put o.dst (.agg (kyA l))) w) : wpList Tryz.prog ops Q (o :: rest) a w :=
  wpList_load_row hgd _ x ho g hx _ (kyA l) (0, 0) _ hg Tryz.underlying73 rfl (ky_size hl) h
/-- A key is stored. -/
theorem ky_store (g : Nat) (l m : List Int) (hl : l.length = 6) (hm : m.length = 6) {x y : Operand} (hgd : o.guard = none) (ho : o.op = .store 73 x y) (hx : a.eval x = .pointer (some ⟨g, 0, none⟩)) (hy : a.eval y = .agg (kyA m)) (hg : KyB w g l)
    (h : wpList Tryz.prog ops Q rest (a.put o.dst undef) (w.setRow g (kyA m))) : wpList Tryz.prog ops Q (o :: rest) a w :=
  wpList_store_row hgd _ x y ho g (kyA m) hx hy _ (kyA l) hg (ky_size hm) (by rw [kyA_size hl, kyA_size hm]) (kyA_one m) h
end
theorem ky_splice (xs : List Int) : splice (z6.map (Value.int .i64)) 0 (xs.map (Value.int .i64)) = (Pl.pad 6 xs).map (Value.int .i64) := by
  unfold splice Pl.pad z6
  rw [List.take_zero, List.nil_append, Nat.zero_add, List.length_map, ← List.map_drop, List.drop_replicate, List.map_append]

theorem Valid6_any (u : Value) (e : Ent) (w : World) (h : IntsAt w u e.1) (he : entOk e) :
    Calls Tryz.prog 57 #[enV u e.2] w fun r w' => r = .returned (.bool (okE e)) ∧ Below w.heap.size w w' := by
  obtain ⟨xs, t⟩ := e
  obtain ⟨he1, he2⟩ := he
  simp only at h he1 he2
  have C := Lib.hid (fun w => ParseT_any t w he2)
  have CV := Lib.hid (fun w' hb => Valid_any u xs w' (h.below (w' := w') hb) he1)
  obtain ⟨a, cap, rfl, hcap, _⟩ := h.cells
  have HE : Hid (okE (xs, t) = (okO xs && parLB t)) := rfl
  obtain ⟨R, hR⟩ : ∃ R, R = okE (xs, t) := ⟨_, rfl⟩
  rw [← hR] at HE ⊢
  obtain ⟨L, hL⟩ : ∃ L, L = parL t := ⟨_, rfl⟩
  obtain ⟨b, hb⟩ : ∃ b, b = parLB t := ⟨_, rfl⟩
  obtain ⟨g, hg⟩ : ∃ g, g = okO xs := ⟨_, rfl⟩
  rw [← hL, ← hb] at C
  rw [← hg] at CV
  rw [← hg, ← hb] at HE
  clear h hR hL hb hg
  unfold OutOA at C
  unfold enV
  go_enter Tryz.func57, Tryz.ntmps57
  go_wp2_with fail
  refine (C.out _).mono ?_
  rintro r w1 ⟨⟨v1, rfl, _⟩, hb⟩
  obtain ⟨c0, c1⟩ := box2 hb
  have HB := Lib.hid (below_box hb)
  have HG := Lib.hid (CV.out w1 (below_box hb))
  clear hb C CV
  cases b
  · go_wp2
    go_ret
    exact ⟨ret_bool (by rw [HE.out, Bool.and_false]), HB.out⟩
  · go_wp2_with fail
    refine HG.out.mono ?_
    rintro r w2 ⟨rfl, rfl⟩
    go_wp2
    go_ret
    exact ⟨ret_bool (by rw [HE.out, Bool.and_true]), HB.out⟩
set_option maxHeartbeats 1000000 in
theorem keyOf_any (u : Value) (xs : List Int) (w : World) (h : IntsAt w u xs) (hn : xs.length ≤ 2097152) :
    Calls Tryz.prog 47 #[u] w fun r w' => r = .returned (.agg (kyA (keyL xs))) ∧ Below w.heap.size w w' := by
  have CV := Lib.hid (fun w' hb => Valid_any u xs w' (h.below (w' := w') hb) hn)
  obtain ⟨a, cap, rfl, hcap, hC⟩ := h.cells
  have hz := ky_nil
  have K1 : Hid (KyB ((w.alloc (.cells (kyA z6) 73)).alloc (.cells (kyA z6) 73)) w.heap.size z6) := (KyB.new w _).below (below_al _ _) (by simp)
  have K2 : Hid (KyB ((w.alloc (.cells (kyA z6) 73)).alloc (.cells (kyA z6) 73)) (w.heap.size + 1) z6) := by
    have := KyB.new (w.alloc (.cells (kyA z6) 73)) z6
    rwa [World.size_alloc] at this
  have HB := Lib.hid (below_al2 w (.cells (kyA z6) 73) (.cells (kyA z6) 73))
  have HC := Lib.hid hC
  cases hg : okO xs
  · rw [hg] at CV
    rw [keyL_no hg]
    clear h hg hC HC
    go_enter Tryz.func47, Tryz.ntmps47
    go_wp2_with fail
    refine (CV.out _ HB.out).mono ?_
    rintro r w1 ⟨rfl, rfl⟩
    go_wp2_with (with_reducible (show wpList _ _ _ (_ :: _) _ _); first | refine ky_load (w.heap.size + 1) z6 z6_len rfl rfl rfl K2.out ?_ | refine ky_store w.heap.size z6 z6 z6_len z6_len rfl rfl rfl rfl K1.out ?_)
    refine bodyPost_ret (results_cell_row rfl _ _ w.heap.size _ _ _ _ rfl (K1.out.row _) Tryz.underlying73 rfl (ky_size z6_len)) rfl ?_
    exact ⟨rfl, below_setRow HB.out (Nat.le_refl _) _⟩
  · rw [hg] at CV
    have hkl := keyL_len xs
    have HSP : Hid ((splice (z6.map (Value.int .i64)) 0 (xs.map (Value.int .i64))).toArray = kyA (keyL xs)) := by
      show _ = _
      rw [ky_splice, keyL_yes hg]; rfl
    obtain ⟨hx1, hx2, _⟩ := okO_parts hg
    obtain ⟨K, hK⟩ : ∃ K, K = keyL xs := ⟨_, rfl⟩
    rw [← hK] at HSP hkl ⊢
    have HKl := Lib.hid hkl
    have HX2 := Lib.hid hx2
    have HX1 := Lib.hid hx1
    clear h hg hC hK
    go_enter Tryz.func47, Tryz.ntmps47
    go_wp2_with fail
    refine (CV.out _ HB.out).mono ?_
    rintro r w1 ⟨rfl, rfl⟩
    have hlen6 : (xs.map (Value.int .i64)).length = Nat.min xs.length 6 := by rw [List.length_map]; exact (Nat.min_eq_left HX2.out).symm
    have hpos : 0 < (xs.map (Value.int .i64)).length → ∃ ad, a = some ad ∧ ∀ j v, (xs.map (Value.int .i64))[j]? = some v → ((w.alloc (.cells (kyA z6) 73)).alloc (.cells (kyA z6) 73)).cell? (ad.add j) = some v := by
      intro _h0
      obtain ⟨x, hx⟩ : ∃ x, xs[0]? = some x := ⟨_, List.getElem?_eq_getElem (by have := HX1.out; omega)⟩
      obtain ⟨bk, o, rfl, _, _⟩ := HC.out w (Below.refl _ _) 0 x hx
      refine ⟨_, rfl, fun j v hj => ?_⟩
      rw [List.getElem?_map] at hj
      obtain ⟨y, hy, rfl⟩ := Option.map_eq_some_iff.1 hj
      obtain ⟨bk', o', e', _, hc'⟩ := HC.out _ HB.out j y hy
      injection e' with e'
      injection e' with e1 e2
      subst e1 e2
      rw [show (⟨bk, o, none⟩ : Addr).add j = ⟨bk, o + j, none⟩ from Go.WideShapes.add_plain ..]
      exact hc'
    have hone : ∀ v ∈ xs.map (Value.int .i64), v.oneCell' = true := by
      intro v hv
      obtain ⟨x, _, rfl⟩ := List.mem_map.1 hv
      rfl
    have K2' : Hid (((w.alloc (.cells (kyA z6) 73)).alloc (.cells (kyA z6) 73)).heap[w.heap.size + 1]? = some (.cells (z6.map (Value.int .i64)).toArray 73 (0, 0))) := K2.out
    have HL := Lib.hid hlen6
    have HP := Lib.hid hpos
    have HO := Lib.hid hone
    have HF : Hid (0 + (xs.map (Value.int .i64)).length ≤ (z6.map (Value.int .i64)).length) := by show _ ≤ _; rw [List.length_map, List.length_map, z6_len]; have := HX2.out; omega
    clear hlen6 hpos hone HC
    go_wp2_with (with_reducible (show wpList _ _ _ (_ :: _) _ _); refine wpList_copy_splice rfl (.tmp 6) (.tmp 7) 27 27 rfl 3 Tryz.underlying27 (by kernel_rfl) _ _ _ _ _ _ rfl rfl (w.heap.size + 1) 0 (z6.map (Value.int .i64)) 73 K2'.out (xs.map (Value.int .i64)) HL.out (fun h0 => ⟨rfl, HP.out h0⟩) HF.out HO.out (w.heap.size + 1) ((w.alloc (.cells (kyA z6) 73)).alloc (.cells (kyA z6) 73)) (Below.refl _ _) (Nat.le_refl _) ?_)
    intro w2 hg2 hb2
    have L2 : Hid (KyB w2 (w.heap.size + 1) K) := by have h2 := hg2.out; rw [HSP.out] at h2; exact h2
    have L1 : Hid (KyB w2 w.heap.size z6) := K1.out.below hb2 (by omega)
    have HB2 : Hid (Below w.heap.size w w2) := HB.out.trans (hb2.mono (by omega))
    clear hg2 hb2
    go_wp2_with (with_reducible (show wpList _ _ _ (_ :: _) _ _); first | refine ky_load (w.heap.size + 1) K HKl.out rfl rfl rfl L2.out ?_ | refine ky_store w.heap.size z6 K z6_len HKl.out rfl rfl rfl rfl L1.out ?_)
    refine bodyPost_ret (results_cell_row rfl _ _ w.heap.size _ _ _ _ rfl (L1.out.row _) Tryz.underlying73 rfl (ky_size HKl.out)) rfl ?_
    exact ⟨rfl, below_setRow HB2.out (Nat.le_refl _) _⟩
theorem cmpK_any (l m : List Int) (hl : l.length = 6) (hm : m.length = 6) (w : World) :
    Calls Tryz.prog 58 #[.agg (kyA l), .agg (kyA m)] w fun r w' => r = .returned (.int .i64 (Pl.cmp l m)) ∧ Below w.heap.size w w' := by
  have K1 : KyB ((w.alloc (.cells (kyA l) 73)).alloc (.cells (kyA m) 73)) w.heap.size l := (KyB.new w _).below (below_al _ _) (by simp)
  have K2 : KyB ((w.alloc (.cells (kyA l) 73)).alloc (.cells (kyA m) 73)) (w.heap.size + 1) m := by
    have := KyB.new (w.alloc (.cells (kyA l) 73)) m
    rwa [World.size_alloc] at this
  obtain ⟨W, hW⟩ : ∃ W, W = (w.alloc (.cells (kyA l) 73)).alloc (.cells (kyA m) 73) := ⟨_, rfl⟩
  have HB0 : Hid (Below w.heap.size w W) := by rw [hW]; exact below_al2 w _ _
  have c := fun w' hb => sCompare_any _ _ l m w' ((K1.ints hl).below (w' := w') hb) ((K2.ints hm).below hb) (by omega) (by omega)
  rw [← hW] at c
  have C2 : Hid (∀ d os, Calls Tryz.prog 68 #[.slice (some ⟨w.heap.size, 0, none⟩) 6 6, .slice (some ⟨w.heap.size + 1, 0, none⟩) 6 6] (Go.Sort.grow (redrawn W d) os) fun r w'' => r = .returned (.int .i64 (Pl.cmp l m)) ∧ ∃ p : Regrown, w'' = Go.Sort.grow (redrawn W p.d) p.os) :=
    fun d os => Calls.regrown_of (c _ (below_regrown W d os))
  have HW := Lib.hid hW
  clear c K1 K2 hW
  go_enter Tryz.func58, Tryz.ntmps58
  go_wp2_with fail
  rw [← HW.out]
  refine wp_region_quiet_below (by kernel_rfl) (by kernel_rfl) ?_
  repeat (go_big_quiet_step (exact C2.out _ _))
  refine wpQuiet_nil ?_
  rintro _ ⟨⟨dq, osq⟩, rfl⟩
  have HB : Hid (Below w.heap.size w (Go.Sort.grow (redrawn W dq) osq)) := below_step HB0.out (below_regrown W dq osq)
  go_wp2
  go_ret
  exact ⟨rfl, HB.out⟩
end Go.Proofs.YtnpiphkglhcifaaGreat

namespace Go.Proofs.YtnpiphkglhcifaaGreat
set_option maxRecDepth 100000
open Go.RowKit

theorem laidOutP : laidOutB Tryz.prog = true := by kernel_rfl
/-- The keys' type. -/
theorem lawK : Maps.Keyed Tryz.prog 73 :=
  Maps.Keyed.of_law (deep_law_laid laidOutP (m := 2) (by omega) (of_decide_eq_true (by kernel_rfl)) (by kernel_rfl) (by rw [Tryz.underlying73]))
theorem zeroS (w : World) : (zeroValue 9).run Tryz.prog w = .ok (.string ByteArray.empty) w := by kernel_rfl
theorem typesTwo : ∃ d, Tryz.prog.types.size = d + 1 := ⟨Tryz.prog.types.size - 1, by have h : (0 : Nat) < Tryz.prog.types.size := of_decide_eq_true (by kernel_rfl); omega⟩
/-- What a key reads as. -/
def KL (l : List Int) : Lit := .string (keyBytes (l.map fun x => Lit.int .i64 x))
theorem key_some {l : List Int} (h : l.length = 6) (hw : ∀ x ∈ l, (Lit.int .i64 x).wf = true) : keyOf Tryz.prog 73 (.agg (kyA l)) = some (KL l) := by
  obtain ⟨a, b, c, d, e, f, rfl⟩ := Pl.six h
  obtain ⟨n, hn⟩ := typesTwo
  have hk : Tryz.prog.keyType 73 = true := by kernel_rfl
  have hc : Tryz.prog.cellsOf 73 = 6 := by kernel_rfl
  have hc1 : Tryz.prog.cellsOf 3 = 1 := by kernel_rfl
  simp only [List.mem_cons, List.not_mem_nil, or_false, forall_eq_or_imp, forall_eq] at hw
  obtain ⟨w0, w1, w2, w3, w4, w5⟩ := hw
  have hl : Tryz.prog.keyLits (Tryz.prog.types.size + 1) 73 (kyA [a, b, c, d, e, f]).toList = some [.int .i64 a, .int .i64 b, .int .i64 c, .int .i64 d, .int .i64 e, .int .i64 f] := by
    rw [hn]
    simp [Program.keyLits, Tryz.underlying73, Tryz.underlying3, hc, hc1, kyA, w0, w1, w2, w3, w4, w5, List.range, List.range.loop]
  have hf : (Value.agg (kyA [a, b, c, d, e, f])).formed Tryz.prog 73 = true := by simp [Value.formed, Tryz.underlying73, hc, kyA]
  unfold keyOf
  rw [Tryz.underlying73]
  simp only [hk, hf, Bool.and_self, if_true]
  have : (Value.agg (kyA [a, b, c, d, e, f])).cells.toList = (kyA [a, b, c, d, e, f]).toList := rfl
  rw [this, hl]
  rfl
/-- A key's ints. -/
def kyOk (l : List Int) : Prop := l.length = 6 ∧ ∀ x ∈ l, (Lit.int .i64 x).wf = true
theorem kl_at {l : List Int} (h : kyOk l) : keyOf Tryz.prog 73 (.agg (kyA l)) = some (KL l) := key_some h.1 h.2
theorem kl_inj {l m : List Int} (h : kyOk l) (h' : kyOk m) (e : KL l = KL m) : l = m := by
  have h1 := kl_at h
  have h2 := kl_at h'
  rw [← e] at h2
  have := lawK.inj h1 h2
  have this := Value.agg.inj this
  unfold kyA at this
  have h3 := List.toArray_inj this
  exact (List.map_inj_right (fun x y h => by injection h)).1 h3
theorem kl_key {l : List Int} (h : kyOk l) : WideAt.IsKeyLit (KL l) := lawK.key (kl_at h)
theorem wf_small {x : Int} (h0 : 0 ≤ x) (h1 : x < 8388608) : (Lit.int .i64 x).wf = true := WalkArith.wf_i64 (by omega)
theorem kyOk_z : kyOk z6 := ⟨rfl, fun x hx => by unfold z6 at hx; simp at hx; subst hx; decide⟩
theorem kyOk_key (xs : List Int) : kyOk (keyL xs) := by
  refine ⟨keyL_len xs, fun x hx => ?_⟩
  cases h : okO xs
  · rw [keyL_no h] at hx; exact kyOk_z.2 x hx
  · rw [keyL_yes h] at hx
    unfold Pl.pad at hx
    rcases List.mem_append.1 hx with hx | hx
    · have := okS_iff.1 ((okO_parts h).2.2 x hx)
      exact wf_small (by omega) (by omega)
    · rw [List.mem_replicate] at hx
      rw [hx.2]; decide

/-! ### What the map of a dictionary holds -/
abbrev MD := DataW Unit
def litT (t : ByteArray) : MD := .lit (.string t.data.toList)
/-- The map of the entries, put in one behind the other. -/
def mapD (es : List Ent) : MD := es.foldl (fun D e => D.put (KL (keyL e.1)) (litT e.2)) (.map [])
theorem mapD_nil : mapD [] = .map [] := rfl
theorem mapD_snoc (es : List Ent) (e : Ent) : mapD (es ++ [e]) = (mapD es).put (KL (keyL e.1)) (litT e.2) := by unfold mapD; rw [List.foldl_append]; rfl
theorem mapD_next {es : List Ent} {k : Nat} {e : Ent} (h : es[k]? = some e) : mapD (es.take (k + 1)) = (mapD (es.take k)).put (KL (keyL e.1)) (litT e.2) := by
  rw [List.take_add_one, h, Option.toList_some, mapD_snoc]
theorem mapD_isMap (es : List Ent) : Maps.IsMap (mapD es) := by
  unfold mapD
  suffices ∀ (l : List Ent) (D : MD), Maps.IsMap D → Maps.IsMap (l.foldl (fun D e => D.put (KL (keyL e.1)) (litT e.2)) D) from this es _ ⟨[], rfl⟩
  intro l
  induction l with
  | nil => intro D h; exact h
  | cons x l ih => intro D h; exact ih _ (h.put _ _)
/-- The last text put in at a key. -/
def lastT (l : List Int) : List Ent → Option ByteArray
  | [] => none
  | e :: r => match lastT l r with | some t => some t | none => if keyL e.1 = l then some e.2 else none
theorem lastT_snoc (l : List Int) (es : List Ent) (e : Ent) : lastT l (es ++ [e]) = if keyL e.1 = l then some e.2 else lastT l es := by
  induction es with
  | nil => show (match lastT l [] with | some t => some t | none => _) = _; rfl
  | cons x r ih =>
    show (match lastT l (r ++ [e]) with | some t => some t | none => if keyL x.1 = l then some x.2 else none) = _
    rw [ih]
    by_cases h : keyL e.1 = l
    · rw [if_pos h, if_pos h]
    · rw [if_neg h, if_neg h]; rfl
theorem mapD_look (l : List Int) (hl : kyOk l) (es : List Ent) : Maps.has (mapD es) (KL l) = (lastT l es).isSome ∧ ∀ zd, (mapD es).atKey (KL l) zd = (match lastT l es with | some t => litT t | none => zd) := by
  suffices ∀ n, ∀ es : List Ent, es.length = n → (Maps.has (mapD es) (KL l) = (lastT l es).isSome ∧ ∀ zd, (mapD es).atKey (KL l) zd = (match lastT l es with | some t => litT t | none => zd)) from this _ es rfl
  intro n
  induction n with
  | zero =>
    intro es h
    obtain rfl := List.length_eq_zero_iff.1 h
    exact ⟨rfl, fun zd => rfl⟩
  | succ n ih =>
    intro es h
    rcases List.eq_nil_or_concat es with rfl | ⟨r, e, rfl⟩
    · simp at h
    · rw [List.concat_eq_append] at h ⊢
      obtain ⟨h1, h2⟩ := ih r (by simpa using h)
      rw [mapD_snoc, lastT_snoc]
      by_cases hk : keyL e.1 = l
      · subst hk
        rw [if_pos rfl]
        exact ⟨Maps.has_put_same (mapD_isMap r) (kl_key hl) _, fun zd => Maps.atKey_put_same (mapD_isMap r) (kl_key hl) _ zd⟩
      · have hne : KL l ≠ KL (keyL e.1) := fun q => hk (kl_inj hl (kyOk_key _) q).symm
        rw [if_neg hk, Maps.has_put_other hne]
        refine ⟨h1, fun zd => ?_⟩
        rw [Maps.atKey_put_other hne]
        exact h2 zd
/-- At the key of an outline the map holds what the dictionary has there. -/
theorem lastT_look {es : List Ent} (h : okD es = true) {ys : List Int} (hy : okO ys = true) : lastT (keyL ys) es = Pl.look ys es := by
  obtain ⟨hz, hok, hinc⟩ := okD_parts h
  clear h hz
  induction es with
  | nil => rfl
  | cons x r ih =>
    have hr := ih (fun e he => hok e (List.mem_cons_of_mem _ he)) (List.pairwise_cons.1 hinc).2
    have hx := (okE_O (hok x (List.mem_cons_self ..))).1
    show (match lastT (keyL ys) r with | some t => some t | none => if keyL x.1 = keyL ys then some x.2 else none) = _
    rw [Pl.look_cons, hr]
    by_cases e : x.1 = ys
    · rw [if_pos e, if_pos (by rw [e])]
      have : Pl.look ys r = none := Pl.look_none fun y hy' e' => by
        have h1 := (List.pairwise_cons.1 hinc).1 y hy'
        rw [e', ← e] at h1
        exact absurd h1 (by rw [Pl.cmp_self]; omega)
      rw [this]
    · rw [if_neg e, if_neg (fun q => e (key_inj hx hy q))]
      cases Pl.look ys r <;> rfl
theorem lastT_bad {es : List Ent} (h : okD es = true) : lastT z6 es = none := by
  obtain ⟨hz, hok, hi⟩ := okD_parts h
  clear h hz hi
  induction es with
  | nil => rfl
  | cons x r ih =>
    have hr := ih (fun e he => hok e (List.mem_cons_of_mem _ he))
    have hx := (okE_O (hok x (List.mem_cons_self ..))).1
    show (match lastT z6 r with | some t => some t | none => if keyL x.1 = z6 then some x.2 else none) = _
    rw [hr]
    refine if_neg fun q => ?_
    have := key_zero hx
    rw [q, Pl.cmp_self] at this
    omega
theorem look_bad {es : List Ent} (h : okD es = true) {ys : List Int} (hy : okO ys = false) : Pl.look ys es = none := by
  obtain ⟨_, hok, _⟩ := okD_parts h
  refine Pl.look_none fun y hy' e => ?_
  have := (okE_O (hok y hy')).1
  rw [e, hy] at this
  cases this
/-- What a look-up at an outline's key finds. -/
theorem lastT_key {es : List Ent} (h : okD es = true) (ys : List Int) : lastT (keyL ys) es = Pl.look ys es := by
  cases hy : okO ys
  · rw [keyL_no hy, lastT_bad h, look_bad h hy]
  · exact lastT_look h hy
end Go.Proofs.YtnpiphkglhcifaaGreat

namespace Go.Proofs.YtnpiphkglhcifaaGreat
set_option maxRecDepth 100000
open Go.RowKit

/-- The key of the entry before. -/
def lastK (es : List Ent) (k : Nat) : List Int := match es[k - 1]? with | some e => if k = 0 then z6 else keyL e.1 | none => z6
theorem lastK_zero (es : List Ent) : lastK es 0 = z6 := by unfold lastK; split <;> simp
theorem lastK_next {es : List Ent} {k : Nat} {e : Ent} (h : es[k]? = some e) : lastK es (k + 1) = keyL e.1 := by unfold lastK; simp [h]
theorem lastK_len (es : List Ent) (k : Nat) : (lastK es k).length = 6 := by
  unfold lastK
  split
  · split
    · rfl
    · exact keyL_len _
  · rfl
/-- The comparison of a round: are the entries taken so far still in order? -/
theorem last_cmp {es : List Ent} {k : Nat} {e : Ent} (h : es[k]? = some e) (ha : (es.take k).all okE = true) (hi : Pl.incB (es.take k) = true) (he : okE e = true) :
    Pl.incB (es.take (k + 1)) = decide (Pl.cmp (lastK es k) (keyL e.1) < 0) := by
  rcases Nat.eq_zero_or_pos k with h0 | h0
  · subst h0
    rw [lastK_zero, key_zero (okE_O he).1, List.take_add_one, h]
    rfl
  · obtain ⟨m, rfl⟩ : ∃ m, k = m + 1 := ⟨k - 1, by omega⟩
    have hk := (List.getElem?_eq_some_iff.1 h).1
    obtain ⟨e', he'⟩ : ∃ e', es[m]? = some e' := ⟨_, List.getElem?_eq_getElem (by omega)⟩
    have hok : okE e' = true := List.all_eq_true.1 ha e' (by rw [List.take_add_one, he']; simp)
    rw [lastK_next he', Pl.incB_next he' h, hi, Bool.true_and, key_cmp (okE_O hok).1 (okE_O he).1]
set_option maxHeartbeats 2000000 in
theorem ValidD_any (v : Value) (es : List Ent) (w : World) (h : EntsAt w v es) (hn : es.length ≤ 2097152) (hx : ∀ e ∈ es, entOk e) :
    Calls Tryz.prog 46 #[dV v] w fun r w' => r = .returned (.bool (okD es)) ∧ Below w.heap.size w w' := by
  obtain ⟨a, cap, rfl, hcap, hC⟩ := h.cells
  have HNo := Lib.hid (fun k e (h : es[k]? = some e) he => okD_no_at h he)
  have HNi := Lib.hid (fun k h => okD_no_inc (es := es) k h)
  have HX := Lib.hid (fun k e (h : es[k]? = some e) => hx e (List.mem_of_getElem? h))
  have CE := Lib.hid (fun u e w h he => Valid6_any u e w h he)
  have CK := Lib.hid (fun u xs w h hn => keyOf_any u xs w h hn)
  have CC := Lib.hid (fun l m hl hm w => cmpK_any l m hl hm w)
  have hlong := fun h => okD_no_len (es := es) h
  have HYes : Hid (es.length ≤ 40 → es.all okE = true → Pl.incB es = true → okD es = true) := fun h1 h2 h3 => by unfold okD; rw [h2, h3, decide_eq_true h1]; rfl
  obtain ⟨n, hnn⟩ : ∃ n, n = es.length := ⟨_, rfl⟩
  rw [← hnn] at hn hcap hlong HYes ⊢
  have HN := Lib.hid hnn
  have HC := Lib.hid hC
  obtain ⟨R, hR⟩ : ∃ R, R = okD es := ⟨_, rfl⟩
  rw [← hR] at HNo HNi hlong HYes ⊢
  have hz := ky_nil
  clear h hx hnn hC hR
  unfold dV
  by_cases h40 : n ≤ 40
  · have h40' : ¬ (40 < (n : Int)) := by omega
    have HKy : Hid (KyB ((w.alloc (.cells #[.slice a n cap] 26)).alloc (.cells (kyA z6) 73)) (w.heap.size + 1) z6) := by
      have := KyB.new (w.alloc (.cells #[.slice a n cap] 26)) z6
      rwa [World.size_alloc] at this
    clear hlong
    go_enter Tryz.func46, Tryz.ntmps46
    go_wp2_with fail
    go_loopw [14] (fun i wr => ∃ k : Nat, i = .int .i64 k ∧ k ≤ n ∧ Hid ((es.take k).all okE = true) ∧ Hid (Pl.incB (es.take k) = true) ∧ Hid (KyB wr (w.heap.size + 1) (lastK es k)) ∧ Hid (Below w.heap.size w wr)) (fun i _ => n - (intOf i).toNat)
    case atStart => exact ⟨0, rfl, Nat.zero_le _, Lib.hid rfl, Lib.hid rfl, by rw [lastK_zero]; exact HKy, below_al2 _ _ _⟩
    case round =>
      obtain ⟨k, rfl, hk, HA, HI, HL, HB⟩ := hrel
      by_cases hlt : k < n
      · obtain ⟨e, he⟩ : ∃ e, es[k]? = some e := ⟨_, List.getElem?_eq_getElem (by rw [← HN.out]; exact hlt)⟩
        obtain ⟨bk, o, u, rfl, hbk, g0, g1, gi⟩ := HC.out wr HB.out k e he
        have hxe := HX.out k e he
        have hlc := fun hi he1 => last_cmp he hi he1
        have HLC : Hid (okE e = true → Pl.incB (es.take (k + 1)) = decide (Pl.cmp (lastK es k) (keyL e.1) < 0)) := fun h => last_cmp he HA.out HI.out h
        have HA1 : Hid (okE e = true → (es.take (k + 1)).all okE = true) := fun h => allD_next he HA.out h
        have HNe : Hid (okE e = false → R = false) := fun h => HNo.out k e he h
        have HNk := Lib.hid (HNi.out (k + 1))
        have HLn : Hid (lastK es (k + 1) = keyL e.1) := lastK_next he
        have ce := fun w' hb => CE.out u e w' (gi.below (w' := w') hb) hxe
        have ck := CK.out u e.1 (wr.alloc (.cells #[u, .string e.2] 45)) (gi.below (below_al _ _)) hxe.1
        have hk6 := keyL_len e.1
        have hl6 := lastK_len es k
        obtain ⟨K, hK⟩ : ∃ K, K = keyL e.1 := ⟨_, rfl⟩
        obtain ⟨L, hL⟩ : ∃ L, L = lastK es k := ⟨_, rfl⟩
        obtain ⟨b, hb⟩ : ∃ b, b = okE e := ⟨_, rfl⟩
        rw [← hb] at ce HLC HA1 HNe
        rw [← hK] at ck hk6 HLC HLn
        rw [← hL] at hl6 HLC HL
        obtain ⟨ua, ucap, rfl, _, _⟩ := gi.cells
        obtain ⟨xs, t⟩ := e
        unfold enV at ce
        simp only at ce ck g0 g1
        have CE1 := Lib.hid ce
        have CK1 := Lib.hid ck
        have HK6 := Lib.hid hk6
        clear ce ck hk6 he gi hxe hb hK hL HNo HNi HA HI hlc CE CK
        go_wp2_with fail
        refine CK1.out.mono ?_
        rintro r w1 ⟨rfl, hb1⟩
        have hs1 : wr.heap.size + 1 ≤ w1.heap.size := by have := hb1.size; simpa using this
        have HB1 : Hid (Below w.heap.size w (w1.alloc (.cells (kyA z6) 73))) := (below_step HB.out (below_box hb1)).trans ((below_al w1 _).mono (by have := HB.out.size; omega))
        have E1 : Hid (BoxW (w1.alloc (.cells (kyA z6) 73)) wr.heap.size 45 (.slice ua xs.length ucap) (.string t)) := ((BoxW.new wr _ _ _).below hb1 (by simp)).below (below_al _ _) (by omega)
        have L1 : Hid (KyB (w1.alloc (.cells (kyA z6) 73)) (w.heap.size + 1) L) := by
          have h1 := HL.out.lt
          exact (((HL.out.below (below_al _ _) h1).below hb1 (by simp; omega)).below (below_al _ _) (by omega))
        have K1 : Hid (KyB (w1.alloc (.cells (kyA z6) 73)) w1.heap.size z6) := KyB.new _ _
        obtain ⟨W2, hW2⟩ : ∃ W2, W2 = (w1.alloc (.cells (kyA z6) 73)).setRow w1.heap.size (kyA K) := ⟨_, rfl⟩
        have E2 : Hid (BoxW W2 wr.heap.size 45 (.slice ua xs.length ucap) (.string t)) := by rw [hW2]; exact (setRow_other _ _ _ _ (by omega)).trans E1.out
        have L2 : Hid (KyB W2 (w.heap.size + 1) L) := by rw [hW2]; exact L1.out.rowOther _ (by have := HL.out.lt; omega)
        have K2 : Hid (KyB W2 w1.heap.size K) := by rw [hW2]; exact K1.out.row K
        have HB2 : Hid (Below w.heap.size w W2) := by rw [hW2]; exact below_setRow HB1.out (by have := HB.out.size; omega) _
        have HCE := Lib.hid (CE1.out W2 (by rw [hW2]; exact below_setRow (((below_al wr _).trans (hb1.mono (by simp))).trans ((below_al w1 _).mono (by omega))) (by omega) _))
        have hs2 : w1.heap.size + 1 = W2.heap.size := by rw [hW2, setRow_size]; simp
        have e0 := E2.out.cell0
        have e1 := E2.out.cell1
        have HW2 := Lib.hid hW2
        clear hb1 E1 L1 HB1 CE1 hW2
        go_wp2_with (with_reducible (show wpList _ _ _ (_ :: _) _ _); refine ky_store w1.heap.size z6 K z6_len HK6.out rfl rfl rfl rfl K1.out ?_; rw [← HW2.out])
        refine HCE.out.mono ?_
        rintro r w3 ⟨rfl, hb3⟩
        have L3 : Hid (KyB w3 (w.heap.size + 1) L) := L2.out.below hb3 L2.out.lt
        have K3 : Hid (KyB w3 w1.heap.size K) := K2.out.below hb3 K2.out.lt
        have HB3 : Hid (Below w.heap.size w w3) := below_step HB2.out hb3
        have CC3 := CC.out L K hl6 HK6.out w3
        clear hb3 L2 K2 HCE E2 e0 e1 HW2 K1 CC
        cases b
        · have HF := Lib.hid (HNe.out (by first | rfl | trivial))
          clear CC3 HNe HNk HLC HA1
          go_wp2
          go_ret
          exact ⟨ret_bool HF.out.symm, HB3.out⟩
        · have HLC2 := HLC.out (by first | rfl | trivial)
          have HA2 := Lib.hid (HA1.out (by first | rfl | trivial))
          obtain ⟨c, hc⟩ : ∃ c, c = Pl.cmp L K := ⟨_, rfl⟩
          rw [← hc] at CC3 HLC2
          obtain ⟨l0, l1, l2, l3, l4, l5, rfl⟩ := Pl.six hl6
          obtain ⟨k0, k1, k2, k3, k4, k5, rfl⟩ := Pl.six HK6.out
          obtain ⟨p0, p1, p2, p3, p4, p5⟩ := KyB.cells L3.out
          obtain ⟨q0, q1, q2, q3, q4, q5⟩ := KyB.cells K3.out
          have HC3 : Hid (Calls Tryz.prog 58 #[.agg #[.int .i64 l0, .int .i64 l1, .int .i64 l2, .int .i64 l3, .int .i64 l4, .int .i64 l5], .agg #[.int .i64 k0, .int .i64 k1, .int .i64 k2, .int .i64 k3, .int .i64 k4, .int .i64 k5]] w3 fun r w' => r = .returned (.int .i64 c) ∧ Below w3.heap.size w3 w') := CC3
          have HLC3 := Lib.hid HLC2
          clear CC3 HLC HLC2 HA1 hc HNe
          by_cases hc0 : 0 ≤ c
          · have HF : Hid (R = false) := HNk.out (by rw [HLC3.out]; exact decide_eq_false (by omega))
            go_wp2_with fail
            refine HC3.out.mono ?_
            rintro r w4 ⟨rfl, hb4⟩
            have HB4 : Hid (Below w.heap.size w w4) := below_step HB3.out hb4
            clear hb4 HNk HLC3
            go_wp2
            go_ret
            exact ⟨ret_bool HF.out.symm, HB4.out⟩
          · have HI2 : Hid (Pl.incB (es.take (k + 1)) = true) := by
              show Pl.incB (es.take (k + 1)) = true
              rw [HLC3.out]; exact decide_eq_true (by omega)
            go_wp2_with fail
            refine HC3.out.mono ?_
            rintro r w4 ⟨rfl, hb4⟩
            have HB4 : Hid (Below w.heap.size w w4) := below_step HB3.out hb4
            have L4 : Hid (KyB w4 (w.heap.size + 1) [l0, l1, l2, l3, l4, l5]) := L3.out.below hb4 L3.out.lt
            have K4 : Hid (KyB w4 w1.heap.size [k0, k1, k2, k3, k4, k5]) := K3.out.below hb4 K3.out.lt
            have HLL : Hid (KyB (w4.setRow (w.heap.size + 1) (kyA [k0, k1, k2, k3, k4, k5])) (w.heap.size + 1) (lastK es (k + 1))) := by rw [HLn.out]; exact L4.out.row _
            have HBL : Hid (Below w.heap.size w (w4.setRow (w.heap.size + 1) (kyA [k0, k1, k2, k3, k4, k5]))) := below_setRow HB4.out (by omega) _
            clear hb4 HNk HLC3 L3 K3 p0 p1 p2 p3 p4 p5 q0 q1 q2 q3 q4 q5
            go_wp2_with (with_reducible (show wpList _ _ _ (_ :: _) _ _); first | refine ky_load w1.heap.size [k0, k1, k2, k3, k4, k5] rfl rfl rfl rfl K4.out ?_ | refine ky_store (w.heap.size + 1) [l0, l1, l2, l3, l4, l5] [k0, k1, k2, k3, k4, k5] rfl rfl rfl rfl rfl rfl L4.out ?_)
            go_roundw
            case rel => exact ⟨k + 1, by go_num, by omega, HA2, HI2, HLL, HBL⟩
            case measure => simp [intOf]; omega
      · obtain rfl : k = n := by omega
        have HF : Hid (R = true) := by
          have h2 := HA.out
          have h3 := HI.out
          rw [List.take_of_length_le (by rw [← HN.out]; exact Nat.le_refl _)] at h2 h3
          exact HYes.out h40 h2 h3
        clear HA HI
        go_wp2
        go_ret
        exact ⟨ret_bool HF.out.symm, HB.out⟩
  · have HF := Lib.hid (hlong h40)
    have h40' : 40 < (n : Int) := by omega
    clear hlong
    go_enter Tryz.func46, Tryz.ntmps46
    go_wp2
    go_ret
    exact ⟨ret_bool HF.out.symm, (Below.refl _ _).alloc (Nat.le_refl _) _⟩
end Go.Proofs.YtnpiphkglhcifaaGreat

namespace Go.Proofs.YtnpiphkglhcifaaGreat
set_option maxRecDepth 100000
open Go.RowKit

/-- Block b is the map of these entries. -/
def MapB (w : World) (b : Nat) (es : List Ent) : Prop := w.ownsMap Tryz.prog 73 (plainElem Tryz.prog 9) b es.length (mapD es)
theorem MapB.lt {w : World} {b : Nat} {es : List Ent} (h : MapB w b es) : b < w.heap.size := World.ownsMap.lt h
theorem MapB.below {w w' : World} {b : Nat} {es : List Ent} (h : MapB w b es) (hb : Below w.heap.size w w') : MapB w' b es :=
  World.ownsMap.kept h (row := none) ⟨hb.os, hb.tape, hb.output, hb.size, fun k hk _ => hb.block k hk⟩ (by simp)
theorem MapB.new (w : World) : MapB (w.alloc (.map #[] 0)) w.heap.size [] := World.ownsMap_made _ _ _ _
theorem run_makeMapN (n : Nat) (w : World) : (Instr.makeMap 46 (some (.int .i64 (n : Int)))).run Tryz.prog w = .ok (.map (some w.heap.size)) (w.alloc (.map #[] 0)) := by
  have h : (asIntOf (.int .i64 (n : Int))).run Tryz.prog w = .ok (.i64, (n : Int)) w := rfl
  simp [Instr.makeMap, asInt, newObj, h]
  rfl
set_option maxHeartbeats 2000000 in
theorem texts_any (v : Value) (es : List Ent) (w : World) (h : EntsAt w v es) (hn : es.length ≤ 2097152) (hx : ∀ e ∈ es, entOk e) (hg : okD es = true) :
    Calls Tryz.prog 31 #[dV v] w fun r w' => (∃ b, r = .returned (.tuple #[.map (some b), .bool true]) ∧ w.heap.size ≤ b ∧ MapB w' b es) ∧ Below w.heap.size w w' := by
  have c := fun w' hb => ValidD_any v es w' (h.below (w' := w') hb) hn hx
  obtain ⟨a, cap, rfl, hcap, hC⟩ := h.cells
  rw [hg] at c
  have C := Lib.hid c
  have CK := Lib.hid (fun u xs w h hn => keyOf_any u xs w h hn)
  have HX := Lib.hid (fun k e (h : es[k]? = some e) => hx e (List.mem_of_getElem? h))
  obtain ⟨n, hnn⟩ : ∃ n, n = es.length := ⟨_, rfl⟩
  unfold dV at C ⊢
  rw [← hnn] at hn hcap C ⊢
  have HN := Lib.hid hnn
  have HC := Lib.hid hC
  have h40 : n ≤ 40 := by rw [hnn]; exact (okD_parts hg).1
  have hmm := fun w => run_makeMapN n w
  clear c h hx hg hC hnn
  go_enter Tryz.func31, Tryz.ntmps31
  go_wp2_with fail
  refine (C.out _ (below_al _ _)).mono ?_
  rintro r w1 ⟨rfl, hb⟩
  have hbox := box1 hb
  have hs1 : w.heap.size + 1 ≤ w1.heap.size := by have := hb.size; simpa using this
  have hbox2 : (w1.alloc (.map #[] 0)).cell? ⟨w.heap.size, 0, none⟩ = some (.slice a n cap) := ((below_al w1 _).cell (p := ⟨w.heap.size, 0, none⟩) (show w.heap.size < w1.heap.size by omega)).trans hbox
  have HB := Lib.hid ((below_box hb).trans ((below_al w1 (.map #[] 0)).mono (by omega)))
  have HM0 := Lib.hid (MapB.new w1)
  clear hb C
  go_wp2_with fail
  clear hmm
  clear hbox hbox2
  obtain ⟨B, hB⟩ : ∃ B, B = w1.heap.size := ⟨_, rfl⟩
  rw [← hB] at HM0 hs1 ⊢
  clear hB
  go_loopw [17] (fun i wr => ∃ k : Nat, i = .int .i64 k ∧ k ≤ n ∧ Hid (MapB wr B (es.take k)) ∧ Hid (Below w.heap.size w wr)) (fun i _ => n - (intOf i).toNat)
  case atStart => exact ⟨0, rfl, Nat.zero_le _, HM0, HB⟩
  case round =>
    obtain ⟨k, rfl, hk, HM, HBr⟩ := hrel
    by_cases hlt : k < n
    · obtain ⟨e, he⟩ : ∃ e, es[k]? = some e := ⟨_, List.getElem?_eq_getElem (by rw [← HN.out]; exact hlt)⟩
      obtain ⟨bk, o, u, rfl, hbk, g0, g1, gi⟩ := HC.out wr HBr.out k e he
      have hxe := HX.out k e he
      have hkey := kl_at (kyOk_key e.1)
      have hval : plainElem (H := Unit) Tryz.prog 9 (.string e.2) = some (litT e.2, []) := plainElem_string Tryz.underlying9 (by have := hxe.2; unfold maxLen; omega)
      have HNx : Hid (mapD (es.take (k + 1)) = (mapD (es.take k)).put (KL (keyL e.1)) (litT e.2)) := mapD_next he
      have hlk : (es.take k).length = k := by rw [List.length_take, ← HN.out]; omega
      have hlk1 : (es.take (k + 1)).length = k + 1 := by rw [List.length_take, ← HN.out]; omega
      have HL1 := Lib.hid hlk1
      have ck := CK.out u e.1 (wr.alloc (.cells #[u, .string e.2] 45)).drew (gi.below (below_al _ _).drew) hxe.1
      obtain ⟨K, hK⟩ : ∃ K, K = keyL e.1 := ⟨_, rfl⟩
      obtain ⟨d, hd⟩ : ∃ d, d = litT e.2 := ⟨_, rfl⟩
      rw [← hK] at ck hkey HNx
      rw [← hd] at hval HNx
      obtain ⟨ua, ucap, rfl, _, _⟩ := gi.cells
      obtain ⟨xs, t⟩ := e
      simp only at ck g0 g1 hval
      have CK1 := Lib.hid ck
      have HKy := Lib.hid hkey
      have HV := Lib.hid hval
      have HMl : Hid (wr.ownsMap Tryz.prog 73 (plainElem Tryz.prog 9) B k (mapD (es.take k))) := by have h1 := HM.out; unfold MapB at h1; rw [hlk] at h1; exact h1
      clear ck hkey hval he gi hxe hK hd hlk hlk1 HM
      go_wp2_with fail
      obtain ⟨W0, hW0⟩ : ∃ W0, W0 = wr.alloc (.cells #[.slice ua xs.length ucap, .string t] 45) := ⟨_, rfl⟩
      have E0 : BoxW W0 wr.heap.size 45 (.slice ua xs.length ucap) (.string t) := by rw [hW0]; exact BoxW.new wr _ _ _
      have k0 := cell_regrown E0.cell0
      have k1 := cell_regrown E0.cell1
      have hb00 : Below wr.heap.size wr W0 := by rw [hW0]; exact below_al wr _
      have HM0' : Hid (W0.ownsMap Tryz.prog 73 (plainElem Tryz.prog 9) B k (mapD (es.take k))) := HMl.out.kept (row := none) ⟨hb00.os, hb00.tape, hb00.output, hb00.size, fun j hj _ => hb00.block j hj⟩ (by simp)
      have HB00 : Hid (Below w.heap.size w W0) := below_step HBr.out hb00
      have hBw : B < W0.heap.size := World.ownsMap.lt HM0'.out
      rw [← hW0] at CK1 ⊢
      clear hW0 HMl E0 hb00
      refine Mx.wp_region_mixed (Mx.ofL [(0, 0), (1, 0), (2, 1), (4, 0), (5, 1), (3, 2), (6, 3)] .done) (by kernel_rfl) (by kernel_rfl) ?_
      repeat ((first | refine Mx.mix0 rfl ?_ | refine Mx.mix1 rfl ?_); go_big_quiet_step (fail); refine wpQuiet_nil ?_)
      refine Mx.mix2 rfl ?_
      go_wp2_with fail
      refine CK1.out.mono ?_
      rintro r w2 ⟨rfl, hb2⟩
      have Bw : Below W0.heap.size W0 w2 := (below_drewN (Below.refl _ _) 1).trans hb2
      have HM2 : Hid (w2.ownsMap Tryz.prog 73 (plainElem Tryz.prog 9) B k (mapD (es.take k))) := HM0'.out.kept (row := none) ⟨Bw.os, Bw.tape, Bw.output, Bw.size, fun j hj _ => Bw.block j hj⟩ (by simp)
      have HB2 : Hid (Below w.heap.size w w2) := below_step HB00.out Bw
      have HG := Lib.hid (regrown_of_below Bw)
      clear hb2 Bw HM0' CK1
      go_wp2
      refine Mx.mid_normal (fun _ => HG.out) ?_
      refine Mx.mix3 rfl ?_
      refine wpList_mapUpdate_own _ rfl _ _ _ 46 rfl 73 9 lawK Tryz.underlying46 _ B k _ rfl HM2.out (by unfold maxLen; omega) _ _ (KL K) rfl rfl HKy.out d [] HV.out ?_
      intro w3 hown3 hgr3
      have HM3 : Hid (MapB w3 B (es.take (k + 1))) := by
        show World.ownsMap _ _ _ _ _ _ _
        rw [HL1.out, HNx.out]; exact hown3
      have HB3 : Hid (Below w.heap.size w w3) := HB2.out.grown hgr3 HB2.out.size (fun j hj => by cases hj; omega)
      clear hown3 hgr3 HM2
      refine Mx.mid_normal (fun q => by cases q) (Mx.mix_nil ?_)
      go_wp2
      go_roundw
      case rel => exact ⟨k + 1, by go_num, by omega, HM3, HB3⟩
      case measure => simp [intOf]; omega
    · obtain rfl : k = n := by omega
      have HF : Hid (MapB wr B es) := by
        have h1 := HM.out
        rw [List.take_of_length_le (by rw [← HN.out]; exact Nat.le_refl _)] at h1
        exact h1
      clear HM
      go_wp2
      go_ret2
      exact ⟨⟨B, rfl, by omega, HF.out⟩, HBr.out⟩
/-- At a dictionary that is not valid. -/
theorem textsNo_any (v : Value) (es : List Ent) (w : World) (h : EntsAt w v es) (hn : es.length ≤ 2097152) (hx : ∀ e ∈ es, entOk e) (hg : okD es = false) :
    Calls Tryz.prog 31 #[dV v] w fun r w' => r = .returned (.tuple #[.map none, .bool false]) ∧ Below w.heap.size w w' := by
  have c := fun w' hb => ValidD_any v es w' (h.below (w' := w') hb) hn hx
  obtain ⟨a, cap, rfl, hcap, hC⟩ := h.cells
  rw [hg] at c
  have C := Lib.hid c
  clear c h hx hg hC
  unfold dV at C ⊢
  go_enter Tryz.func31, Tryz.ntmps31
  go_wp2_with fail
  refine (C.out _ (below_al _ _)).mono ?_
  rintro r w1 ⟨rfl, hb⟩
  have HB := Lib.hid (below_box hb)
  clear hb
  go_wp2
  go_ret2
  exact ⟨rfl, HB.out⟩
/-- What a look-up in the map finds. -/
theorem lookE (x : Option ByteArray) : lkE x = .returned (.tuple #[.string (x.getD ByteArray.empty), .bool x.isSome]) := by cases x <;> rfl
end Go.Proofs.YtnpiphkglhcifaaGreat
