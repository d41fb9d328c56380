/-
  CONTRACTS of the program's chapter 6: keys of outlines, entries and dictionaries that are valid.
-/
import Derived.Test.YtcpjpjdfddmncaaPlainDict
import Derived.Test.YtcpjpjdfddmncaaDictL
import Derived.Test.YtcpjpjdfddmncaaImpl4B
import Derived.Test.YtcpjpjdfddmncaaImpl5F
import Derived.Laws.Rows
import Derived.Laws.CopyOwn
namespace Go.Proofs.Ytcpjpjdfddmncaa.Pl
set_option maxRecDepth 100000

/-- Filled up with zeros to n. -/
def pad (n : Nat) (a : List Int) : List Int := a ++ List.replicate (n - a.length) 0
theorem pad_len {n : Nat} {a : List Int} (h : a.length ≤ n) : (pad n a).length = n := by unfold pad; rw [List.length_append, List.length_replicate]; omega
theorem pad_cons (n : Nat) (x : Int) (a : List Int) : pad (n + 1) (x :: a) = x :: pad n a := by
  unfold pad; rw [List.cons_append, List.length_cons, Nat.add_sub_add_right]
theorem pad_nil (n : Nat) : pad (n + 1) [] = 0 :: pad n [] := by unfold pad; simp [List.replicate_succ]
theorem cmp_pad : ∀ (n : Nat) (a b : List Int), a.length ≤ n → b.length ≤ n → (∀ x ∈ a, 0 < x) → (∀ x ∈ b, 0 < x) → cmp (pad n a) (pad n b) = cmp a b
  | n, [], [], _, _, _, _ => cmp_self _
  | 0, [], _ :: _, _, h, _, _ => by simp at h
  | n + 1, [], y :: b, _, _, _, hy => by
    rw [pad_nil, pad_cons]
    have := hy y (List.mem_cons_self ..)
    show (if (0 : Int) < y then (-1 : Int) else if y < 0 then 1 else cmp _ _) = -1
    rw [if_pos this]
  | 0, _ :: _, _, h, _, _, _ => by simp at h
  | n + 1, x :: a, [], _, _, hx, _ => by
    rw [pad_nil, pad_cons]
    have := hx x (List.mem_cons_self ..)
    show (if x < (0 : Int) then (-1 : Int) else if 0 < x then 1 else cmp _ _) = 1
    rw [if_neg (by omega), if_pos this]
  | n + 1, x :: a, y :: b, h, h', hx, hy => by
    rw [pad_cons, pad_cons]
    show (if x < y then (-1 : Int) else if y < x then 1 else cmp (pad n a) (pad n b)) = (if x < y then (-1 : Int) else if y < x then 1 else cmp a b)
    rw [cmp_pad n a b (by simpa using h) (by simpa using h') (fun z hz => hx z (List.mem_cons_of_mem _ hz)) (fun z hz => hy z (List.mem_cons_of_mem _ hz))]
theorem pad_inj {n : Nat} {a b : List Int} (ha : a.length ≤ n) (hb : b.length ≤ n) (hx : ∀ x ∈ a, 0 < x) (hy : ∀ x ∈ b, 0 < x) (h : pad n a = pad n b) : a = b := by
  have := cmp_pad n a b ha hb hx hy
  rw [h, cmp_self] at this
  exact (cmp_zero a b).1 this.symm
theorem six {l : List Int} (h : l.length = 6) : ∃ a b c d e f, l = [a, b, c, d, e, f] := by
  match l, h with
  | [a, b, c, d, e, f], _ => exact ⟨a, b, c, d, e, f, rfl⟩
end Go.Proofs.Ytcpjpjdfddmncaa.Pl

namespace Go.Proofs.Ytcpjpjdfddmncaa
open Go.RowKit

/-- The key of no outline. -/
def z6 : List Int := List.replicate 6 0
theorem z6_len : z6.length = 6 := rfl
/-- The key of an outline. -/
def keyL (xs : List Int) : List Int := if okO xs = true then Pl.pad 6 xs else z6
def kyA (l : List Int) : Array Value := (l.map (Value.int .i64)).toArray
theorem keyL_yes {xs : List Int} (h : okO xs = true) : keyL xs = Pl.pad 6 xs := by unfold keyL; rw [if_pos h]
theorem keyL_no {xs : List Int} (h : okO xs = false) : keyL xs = z6 := by unfold keyL; rw [h]; rfl
theorem keyL_len (xs : List Int) : (keyL xs).length = 6 := by
  unfold keyL
  split
  · rename_i h; exact Pl.pad_len (okO_parts h).2.1
  · rfl
theorem okO_pos {xs : List Int} (h : okO xs = true) : ∀ x ∈ xs, 0 < x := by
  intro x hx
  have := okS_iff.1 ((okO_parts h).2.2 x hx)
  omega
theorem key_cmp {xs ys : List Int} (hx : okO xs = true) (hy : okO ys = true) : Pl.cmp (keyL xs) (keyL ys) = Pl.cmp xs ys := by
  rw [keyL_yes hx, keyL_yes hy]
  exact Pl.cmp_pad 6 xs ys (okO_parts hx).2.1 (okO_parts hy).2.1 (okO_pos hx) (okO_pos hy)
theorem key_zero {ys : List Int} (hy : okO ys = true) : Pl.cmp z6 (keyL ys) = -1 := by
  obtain ⟨h1, h2, _⟩ := okO_parts hy
  rw [keyL_yes hy]
  have e : z6 = Pl.pad 6 [] := rfl
  rw [e, Pl.cmp_pad 6 [] ys (Nat.zero_le _) h2 (fun x hx => by simp at hx) (okO_pos hy)]
  cases ys with
  | nil => simp at h1
  | cons y ys => rfl
theorem key_inj {xs ys : List Int} (hx : okO xs = true) (hy : okO ys = true) (h : keyL xs = keyL ys) : xs = ys := by
  rw [keyL_yes hx, keyL_yes hy] at h
  exact Pl.pad_inj (okO_parts hx).2.1 (okO_parts hy).2.1 (okO_pos hx) (okO_pos hy) h
theorem kyA_size {l : List Int} (h : l.length = 6) : (kyA l).size = 6 := by unfold kyA; simp [h]
theorem kyA_one (l : List Int) : (kyA l).all (·.oneCell') = true := by
  rw [Array.all_eq_true_iff_forall_mem]
  intro x hx
  unfold kyA at hx
  simp at hx
  obtain ⟨j, _, rfl⟩ := hx
  rfl
/-- Block g is a key. -/
def KyB (w : World) (g : Nat) (l : List Int) : Prop := w.heap[g]? = some (.cells (kyA l) 77 (0, 0))
theorem KyB.lt {w : World} {g : Nat} {l : List Int} (h : KyB w g l) : g < w.heap.size := (Array.getElem?_eq_some_iff.1 h).1
theorem KyB.below {w w' : World} {g : Nat} {l : List Int} {N : Nat} (h : KyB w g l) (hb : Below N w w') (hN : g < N) : KyB w' g l := (hb.block g hN).trans h
theorem KyB.new (w : World) (l : List Int) : KyB (w.alloc (.cells (kyA l) 77)) w.heap.size l := heap_alloc_new w _
theorem KyB.other {w : World} {b g o : Nat} {l : List Int} {v : Value} (h : KyB w b l) (hne : g ≠ b) : KyB (w.setCell ⟨g, o, none⟩ v) b l := (Below.heap_setCell _ _ _ _ (fun e => hne e.symm)).trans h
theorem KyB.row {w : World} {g : Nat} {l : List Int} (h : KyB w g l) (m : List Int) : KyB (w.setRow g (kyA m)) g m := setRow_heap w g _ (kyA m) _ _ h
theorem KyB.rowOther {w : World} {g k : Nat} {l : List Int} (h : KyB w g l) (m : Array Value) (hk : k ≠ g) : KyB (w.setRow k m) g l := (setRow_other w k g m (fun e => hk e.symm)).trans h
theorem KyB.cells {w : World} {g : Nat} {a b c d e f : Int} (h : KyB w g [a, b, c, d, e, f]) : w.cell? ⟨g, 0, none⟩ = some (.int .i64 a) ∧ w.cell? ⟨g, 1, none⟩ = some (.int .i64 b) ∧ w.cell? ⟨g, 2, none⟩ = some (.int .i64 c) ∧ w.cell? ⟨g, 3, none⟩ = some (.int .i64 d) ∧ w.cell? ⟨g, 4, none⟩ = some (.int .i64 e) ∧ w.cell? ⟨g, 5, none⟩ = some (.int .i64 f) := by
  refine ⟨?_, ?_, ?_, ?_, ?_, ?_⟩ <;> (rw [cell_of_row w g _ _ _ _ h]; rfl)
/-- A key's cells, in a world that has grown. -/
theorem KyB.regrown {w : World} {g : Nat} {l : List Int} (h : KyB w g l) : ∀ d os, KyB (Go.Sort.grow (redrawn w d) os) g l := fun d os => h.below (below_regrown w d os) h.lt
theorem KyB.ints {w : World} {g : Nat} {l : List Int} (h : KyB w g l) (hl : l.length = 6) : IntsAt w (.slice (some ⟨g, 0, none⟩) 6 6) l := by
  refine ⟨_, 6, by rw [hl], by rw [hl]; exact Nat.le_refl _, .inr ⟨g, 0, rfl, h.lt, fun j x hj => ?_⟩⟩
  rw [Nat.zero_add, cell_of_row w g j _ _ _ h]
  unfold kyA
  simp [hj]
theorem ky_size {l : List Int} (h : l.length = 6) : (Try.prog.info? 77).map (·.size) = some (kyA l).size := by rw [kyA_size h]; kernel_rfl
theorem ky_nil : (#[.int .i64 0, .int .i64 0, .int .i64 0, .int .i64 0, .int .i64 0, .int .i64 0] : Array Value) = kyA z6 := by kernel_rfl
theorem ky_nil' : (.cells #[.int .i64 0, .int .i64 0, .int .i64 0, .int .i64 0, .int .i64 0, .int .i64 0] 77 : Obj) = .cells (kyA z6) 77 := by rw [ky_nil]
section
variable {ops : Array Oper} {rest : List Oper} {o : Oper} {a : Act} {w : World} {Q : Exit → Act → World → Prop}
/-- A key is loaded. -/
theorem ky_load (g : Nat) (l : List Int) (hl : l.length = 6) {x : Operand} (hgd : o.guard = none) (ho : o.op = .load 77 x) (hx : a.eval x = .pointer (some ⟨g, 0, none⟩)) (hg : KyB w g l)
    (h : wpList Try.prog ops Q rest (a.put o.dst (.agg (kyA l))) w) : wpList Try.prog ops Q (o :: rest) a w :=
  wpList_load_row hgd _ x ho g hx _ (kyA l) (0, 0) _ hg Try.underlying77 rfl (ky_size hl) h
/-- A key is stored. -/
theorem ky_store (g : Nat) (l m : List Int) (hl : l.length = 6) (hm : m.length = 6) {x y : Operand} (hgd : o.guard = none) (ho : o.op = .store 77 x y) (hx : a.eval x = .pointer (some ⟨g, 0, none⟩)) (hy : a.eval y = .agg (kyA m)) (hg : KyB w g l)
    (h : wpList Try.prog ops Q rest (a.put o.dst undef) (w.setRow g (kyA m))) : wpList Try.prog ops Q (o :: rest) a w :=
  wpList_store_row hgd _ x y ho g (kyA m) hx hy _ (kyA l) hg (ky_size hm) (by rw [kyA_size hl, kyA_size hm]) (kyA_one m) h
end
theorem ky_splice (xs : List Int) : splice (z6.map (Value.int .i64)) 0 (xs.map (Value.int .i64)) = (Pl.pad 6 xs).map (Value.int .i64) := by
  unfold splice Pl.pad z6
  rw [List.take_zero, List.nil_append, Nat.zero_add, List.length_map, ← List.map_drop, List.drop_replicate, List.map_append]

theorem Valid6_any (u : Value) (e : Ent) (w : World) (h : IntsAt w u e.1) (he : entOk e) :
    Calls Try.prog 22 #[enV u e.2] w fun r w' => r = .returned (.bool (okE e)) ∧ Below w.heap.size w w' := by
  obtain ⟨xs, t⟩ := e
  obtain ⟨he1, he2⟩ := he
  simp only at h he1 he2
  have C := Lib.hid (fun w => ParseT_any t w he2)
  have CV := Lib.hid (fun w' hb => Valid_any u xs w' (h.below (w' := w') hb) he1)
  obtain ⟨a, cap, rfl, hcap, _⟩ := h.cells
  have HE : Hid (okE (xs, t) = (okO xs && parLB t)) := rfl
  obtain ⟨R, hR⟩ : ∃ R, R = okE (xs, t) := ⟨_, rfl⟩
  rw [← hR] at HE ⊢
  obtain ⟨L, hL⟩ : ∃ L, L = parL t := ⟨_, rfl⟩
  obtain ⟨b, hb⟩ : ∃ b, b = parLB t := ⟨_, rfl⟩
  obtain ⟨g, hg⟩ : ∃ g, g = okO xs := ⟨_, rfl⟩
  rw [← hL, ← hb] at C
  rw [← hg] at CV
  rw [← hg, ← hb] at HE
  clear h hR hL hb hg
  unfold OutOA at C
  unfold enV
  go_enter Try.func22, Try.ntmps22
  go_wp2_with fail
  refine (C.out _).mono ?_
  rintro r w1 ⟨⟨v1, rfl, _⟩, hb⟩
  obtain ⟨c0, c1⟩ := box2 hb
  have HB := Lib.hid (below_box hb)
  have HG := Lib.hid (CV.out w1 (below_box hb))
  clear hb C CV
  cases b
  · go_wp2
    go_ret
    exact ⟨ret_bool (by rw [HE.out, Bool.and_false]), HB.out⟩
  · go_wp2_with fail
    refine HG.out.mono ?_
    rintro r w2 ⟨rfl, rfl⟩
    go_wp2
    go_ret
    exact ⟨ret_bool (by rw [HE.out, Bool.and_true]), HB.out⟩
set_option maxHeartbeats 1000000 in
theorem keyOf_any (u : Value) (xs : List Int) (w : World) (h : IntsAt w u xs) (hn : xs.length ≤ 2097152) :
    Calls Try.prog 50 #[u] w fun r w' => r = .returned (.agg (kyA (keyL xs))) ∧ Below w.heap.size w w' := by
  have CV := Lib.hid (fun w' hb => Valid_any u xs w' (h.below (w' := w') hb) hn)
  obtain ⟨a, cap, rfl, hcap, hC⟩ := h.cells
  have hz := ky_nil
  have K1 : Hid (KyB ((w.alloc (.cells (kyA z6) 77)).alloc (.cells (kyA z6) 77)) w.heap.size z6) := (KyB.new w _).below (below_al _ _) (by simp)
  have K2 : Hid (KyB ((w.alloc (.cells (kyA z6) 77)).alloc (.cells (kyA z6) 77)) (w.heap.size + 1) z6) := by
    have := KyB.new (w.alloc (.cells (kyA z6) 77)) z6
    rwa [World.size_alloc] at this
  have HB := Lib.hid (below_al2 w (.cells (kyA z6) 77) (.cells (kyA z6) 77))
  have HC := Lib.hid hC
  cases hg : okO xs
  · rw [hg] at CV
    rw [keyL_no hg]
    clear h hg hC HC
    go_enter Try.func50, Try.ntmps50
    go_wp2_with fail
    refine (CV.out _ HB.out).mono ?_
    rintro r w1 ⟨rfl, rfl⟩
    go_wp2_with (with_reducible (show wpList _ _ _ (_ :: _) _ _); first | refine ky_load (w.heap.size + 1) z6 z6_len rfl rfl rfl K2.out ?_ | refine ky_store w.heap.size z6 z6 z6_len z6_len rfl rfl rfl rfl K1.out ?_)
    refine bodyPost_ret (results_cell_row rfl _ _ w.heap.size _ _ _ _ rfl (K1.out.row _) Try.underlying77 rfl (ky_size z6_len)) rfl ?_
    exact ⟨rfl, below_setRow HB.out (Nat.le_refl _) _⟩
  · rw [hg] at CV
    have hkl := keyL_len xs
    have HSP : Hid ((splice (z6.map (Value.int .i64)) 0 (xs.map (Value.int .i64))).toArray = kyA (keyL xs)) := by
      show _ = _
      rw [ky_splice, keyL_yes hg]; rfl
    obtain ⟨hx1, hx2, _⟩ := okO_parts hg
    obtain ⟨K, hK⟩ : ∃ K, K = keyL xs := ⟨_, rfl⟩
    rw [← hK] at HSP hkl ⊢
    have HKl := Lib.hid hkl
    have HX2 := Lib.hid hx2
    have HX1 := Lib.hid hx1
    clear h hg hC hK
    go_enter Try.func50, Try.ntmps50
    go_wp2_with fail
    refine (CV.out _ HB.out).mono ?_
    rintro r w1 ⟨rfl, rfl⟩
    have hlen6 : (xs.map (Value.int .i64)).length = Nat.min xs.length 6 := by rw [List.length_map]; exact (Nat.min_eq_left HX2.out).symm
    have hpos : 0 < (xs.map (Value.int .i64)).length → ∃ ad, a = some ad ∧ ∀ j v, (xs.map (Value.int .i64))[j]? = some v → ((w.alloc (.cells (kyA z6) 77)).alloc (.cells (kyA z6) 77)).cell? (ad.add j) = some v := by
      intro _h0
      obtain ⟨x, hx⟩ : ∃ x, xs[0]? = some x := ⟨_, List.getElem?_eq_getElem (by have := HX1.out; omega)⟩
      obtain ⟨bk, o, rfl, _, _⟩ := HC.out w (Below.refl _ _) 0 x hx
      refine ⟨_, rfl, fun j v hj => ?_⟩
      rw [List.getElem?_map] at hj
      obtain ⟨y, hy, rfl⟩ := Option.map_eq_some_iff.1 hj
      obtain ⟨bk', o', e', _, hc'⟩ := HC.out _ HB.out j y hy
      injection e' with e'
      injection e' with e1 e2
      subst e1 e2
      rw [show (⟨bk, o, none⟩ : Addr).add j = ⟨bk, o + j, none⟩ from Go.WideShapes.add_plain ..]
      exact hc'
    have hone : ∀ v ∈ xs.map (Value.int .i64), v.oneCell' = true := by
      intro v hv
      obtain ⟨x, _, rfl⟩ := List.mem_map.1 hv
      rfl
    have K2' : Hid (((w.alloc (.cells (kyA z6) 77)).alloc (.cells (kyA z6) 77)).heap[w.heap.size + 1]? = some (.cells (z6.map (Value.int .i64)).toArray 77 (0, 0))) := K2.out
    have HL := Lib.hid hlen6
    have HP := Lib.hid hpos
    have HO := Lib.hid hone
    have HF : Hid (0 + (xs.map (Value.int .i64)).length ≤ (z6.map (Value.int .i64)).length) := by show _ ≤ _; rw [List.length_map, List.length_map, z6_len]; have := HX2.out; omega
    clear hlen6 hpos hone HC
    go_wp2_with (with_reducible (show wpList _ _ _ (_ :: _) _ _); refine wpList_copy_splice rfl (.tmp 6) (.tmp 7) 36 36 rfl 3 Try.underlying36 (by kernel_rfl) _ _ _ _ _ _ rfl rfl (w.heap.size + 1) 0 (z6.map (Value.int .i64)) 77 K2'.out (xs.map (Value.int .i64)) HL.out (fun h0 => ⟨rfl, HP.out h0⟩) HF.out HO.out (w.heap.size + 1) ((w.alloc (.cells (kyA z6) 77)).alloc (.cells (kyA z6) 77)) (Below.refl _ _) (Nat.le_refl _) ?_)
    intro w2 hg2 hb2
    have L2 : Hid (KyB w2 (w.heap.size + 1) K) := by have h2 := hg2.out; rw [HSP.out] at h2; exact h2
    have L1 : Hid (KyB w2 w.heap.size z6) := K1.out.below hb2 (by omega)
    have HB2 : Hid (Below w.heap.size w w2) := HB.out.trans (hb2.mono (by omega))
    clear hg2 hb2
    go_wp2_with (with_reducible (show wpList _ _ _ (_ :: _) _ _); first | refine ky_load (w.heap.size + 1) K HKl.out rfl rfl rfl L2.out ?_ | refine ky_store w.heap.size z6 K z6_len HKl.out rfl rfl rfl rfl L1.out ?_)
    refine bodyPost_ret (results_cell_row rfl _ _ w.heap.size _ _ _ _ rfl (L1.out.row _) Try.underlying77 rfl (ky_size HKl.out)) rfl ?_
    exact ⟨rfl, below_setRow HB2.out (Nat.le_refl _) _⟩
theorem cmpK_any (l m : List Int) (hl : l.length = 6) (hm : m.length = 6) (w : World) :
    Calls Try.prog 57 #[.agg (kyA l), .agg (kyA m)] w fun r w' => r = .returned (.int .i64 (Pl.cmp l m)) ∧ Below w.heap.size w w' := by
  have K1 : KyB ((w.alloc (.cells (kyA l) 77)).alloc (.cells (kyA m) 77)) w.heap.size l := (KyB.new w _).below (below_al _ _) (by simp)
  have K2 : KyB ((w.alloc (.cells (kyA l) 77)).alloc (.cells (kyA m) 77)) (w.heap.size + 1) m := by
    have := KyB.new (w.alloc (.cells (kyA l) 77)) m
    rwa [World.size_alloc] at this
  obtain ⟨W, hW⟩ : ∃ W, W = (w.alloc (.cells (kyA l) 77)).alloc (.cells (kyA m) 77) := ⟨_, rfl⟩
  have HB0 : Hid (Below w.heap.size w W) := by rw [hW]; exact below_al2 w _ _
  have c := fun w' hb => sCompare_any _ _ l m w' ((K1.ints hl).below (w' := w') hb) ((K2.ints hm).below hb) (by omega) (by omega)
  rw [← hW] at c
  have C2 : Hid (∀ d os, Calls Try.prog 89 #[.slice (some ⟨w.heap.size, 0, none⟩) 6 6, .slice (some ⟨w.heap.size + 1, 0, none⟩) 6 6] (Go.Sort.grow (redrawn W d) os) fun r w'' => r = .returned (.int .i64 (Pl.cmp l m)) ∧ ∃ p : Regrown, w'' = Go.Sort.grow (redrawn W p.d) p.os) :=
    fun d os => Calls.regrown_of (c _ (below_regrown W d os))
  have HW := Lib.hid hW
  clear c K1 K2 hW
  go_enter Try.func57, Try.ntmps57
  go_wp2_with fail
  rw [← HW.out]
  refine wp_region_quiet_below (by kernel_rfl) (by kernel_rfl) ?_
  repeat (go_big_quiet_step (exact C2.out _ _))
  refine wpQuiet_nil ?_
  rintro _ ⟨⟨dq, osq⟩, rfl⟩
  have HB : Hid (Below w.heap.size w (Go.Sort.grow (redrawn W dq) osq)) := below_step HB0.out (below_regrown W dq osq)
  go_wp2
  go_ret
  exact ⟨rfl, HB.out⟩
end Go.Proofs.Ytcpjpjdfddmncaa
