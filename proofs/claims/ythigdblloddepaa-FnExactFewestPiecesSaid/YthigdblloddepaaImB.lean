/-
  CONTRACTS of the program's chapter 11, first part: the matcher and its pieces at an index.
-/
import Derived.Test.YthigdblloddepaaSgC
import Derived.Test.YthigdblloddepaaImpl6E
import Derived.Test.YthigdblloddepaaMix
import Derived.Lib.SliceRun
import Derived.Laws.CopyOwn
namespace Go.Proofs.Ythigdblloddepaa
set_option maxRecDepth 100000
open Go.RowKit

theorem heap_setCells_else (g k : Nat) (hk : k ≠ g) : ∀ (vs : List Value) (o : Nat) (w : World), (w.setCells g o vs).heap[k]? = w.heap[k]?
  | [], _, _ => rfl
  | v :: vs, o, w => (heap_setCells_else g k hk vs (o + 1) (w.setCell ⟨g, o, none⟩ v)).trans (Below.heap_setCell _ _ _ _ hk)
theorem below_setCellsG {B g : Nat} {a : World} (hb : B ≤ g) : ∀ (vs : List Value) (o : Nat) (w : World), Below B a w → Below B a (w.setCells g o vs)
  | [], _, _, h => h
  | v :: vs, o, _, h => below_setCellsG hb vs (o + 1) _ (h.setCell (p := ⟨g, o, none⟩) hb v)
theorem grown_rowG (w : World) (g : Nat) (cs : Array Value) : w.grownBy (w.setRow g cs) (some g) := ⟨rfl, rfl, rfl, by rw [setRow_size]; exact Nat.le_refl _, fun k _ hk => setRow_other w g k cs (fun e => hk (by rw [e]))⟩
theorem heap_setCells_row (g : Nat) (t : TypeId) : ∀ (vs : List Value) (o : Nat) (w : World) (cs : List Value), w.heap[g]? = some (.cells cs.toArray t (0, 0)) → o + vs.length ≤ cs.length → (w.setCells g o vs).heap[g]? = some (.cells (splice cs o vs).toArray t (0, 0))
  | [], o, w, cs, h, _ => by
    show w.heap[g]? = _
    rw [h]; simp [splice]
  | v :: vs, o, w, cs, h, hl => by
    show ((w.setCell ⟨g, o, none⟩ v).setCells g (o + 1) vs).heap[g]? = _
    have h1 := Go.heap_setCell_same w g o cs.toArray t v h
    have e1 : cs.toArray.setIfInBounds o v = (cs.set o v).toArray := by simp
    rw [e1] at h1
    rw [heap_setCells_row g t vs (o + 1) _ (cs.set o v) h1 (by simp at hl ⊢; omega)]
    congr 3
    unfold splice
    simp only [List.length_cons] at hl ⊢
    have ho : o < cs.length := by omega
    rw [List.take_set, List.drop_set, if_pos (by omega), show o + (vs.length + 1) = o + 1 + vs.length by omega, List.take_add_one, List.getElem?_eq_getElem ho]
    rw [List.set_append_right _ _ (by simp; omega)]
    simp [List.length_take, Nat.min_eq_left (Nat.le_of_lt ho)]
theorem splice_zero (l : List Int) (m : Nat) (hl : l.length = 6) (hm : m ≤ 6) : splice (l.map (Value.int .i64)) m ((List.replicate (6 - m) (0 : Int)).map (Value.int .i64)) = (l.take m ++ List.replicate (6 - m) 0).map (Value.int .i64) := by
  unfold splice
  rw [List.length_map, List.length_replicate, List.drop_eq_nil_of_le (by rw [List.length_map]; omega), List.append_nil, List.map_append, List.map_take]
/-- The key's tail cleared. -/
theorem clear_key {ops : Array Oper} {rest : List Oper} {o : Oper} {a : Act} {w : World} {Q : Exit → Act → World → Prop} (hgd : o.guard = none) (p : Operand) (ho : o.op = .call { callee := .builtin .clear, args := #[p], argTypes := #[25] })
    (g m c d : Nat) (ad : Addr) (l : List Int) (hl : l.length = 6) (hm : m ≤ 6) (hd : d = 6 - m) (had : ¬ 6 - m = 0 → ad = ⟨g, m, none⟩) (hp : a.eval p = .slice (some ad) d c) (hg : KyB w g l)
    (h : ∀ w', Hid (KyB w' g (l.take m ++ List.replicate (6 - m) 0)) → w.grownBy w' (some g) → wpList Try.prog ops Q rest (a.put o.dst (.tuple #[])) w') : wpList Try.prog ops Q (o :: rest) a w := by
  subst hd
  refine wpList_plain hgd fun K hK => ?_
  by_cases h6 : 6 - m = 0
  · have hrun : (Builtin.clear_ #[25] o.type #[.slice (some ad) (6 - m) c]).run Try.prog w = .ok (.tuple #[]) w := by
      rw [h6]; simp [Builtin.clear_, run_underlying Try.underlying25]
    unfold Oper.wp
    simp [execOp, ho, resolve, invoke, builtin, hp, hrun, Result.andThen]
    refine hK _ _ (h w ?_ ⟨rfl, rfl, rfl, Nat.le_refl _, fun _ _ _ => rfl⟩)
    have : l.take m ++ List.replicate (6 - m) 0 = l := by rw [h6, List.replicate_zero, List.append_nil, List.take_of_length_le (by omega)]
    rw [this]; exact hg
  · obtain rfl := had h6
    have hgl := hg.lt
    have hcell : ∀ j, j < 6 - m → (w.cell? ⟨g, m + j, none⟩).isSome = true := by
      intro j hj
      unfold World.cell?
      simp only [show w.heap[g]? = _ from hg]
      unfold kyA
      simp [show m + j < l.length by omega]
    have hfr : ∀ j, j < 6 - m → w.frozen? ⟨g, m + j, none⟩ = false := by
      intro j _
      unfold World.frozen?
      simp only [show w.heap[g]? = _ from hg]
      rfl
    have hrun := Lib.run_clear_slice (P := Try.prog) w 25 3 o.type (.int .i64 0) Try.underlying25 (fun w => by kernel_rfl) rfl rfl g m (6 - m) c (by omega) hcell hfr
    unfold Oper.wp
    simp [execOp, ho, resolve, invoke, builtin, hp, hrun, Result.andThen]
    have hb : Below g w (w.setCells g m (List.replicate (6 - m) (.int .i64 0))) := below_setCellsG (Nat.le_refl _) _ _ _ (Below.refl _ _)
    refine hK _ _ (h _ ?_ ⟨hb.os, hb.tape, hb.output, hb.size, fun k hk hne => heap_setCells_else _ _ (fun e => hne (by rw [e])) _ _ _⟩)
    have := heap_setCells_row g 94 (List.replicate (6 - m) (Value.int .i64 0)) m w (l.map (Value.int .i64)) hg (by simp; omega)
    have e2 : List.replicate (6 - m) (Value.int .i64 0) = (List.replicate (6 - m) (0 : Int)).map (Value.int .i64) := by simp
    rw [e2, splice_zero l m hl hm] at this
    rw [e2]
    exact this
/-- The values that a matcher is. -/
def mtV (b : Nat) (u : Value) : Value := .agg #[.map (some b), u]
theorem mt_store {ops : Array Oper} {rest : List Oper} {o : Oper} {a : Act} {w : World} {Q : Exit → Act → World → Prop} (hgd : o.guard = none) (x y : Operand) (ho : o.op = .store 64 x y)
    (g : Nat) (p q p' q' : Value) (h1 : p.oneCell' = true) (h2 : q.oneCell' = true) (hx : a.eval x = .pointer (some ⟨g, 0, none⟩)) (hy : a.eval y = .agg #[p, q]) (hg : w.heap[g]? = some (.cells #[p', q'] 64 (0, 0)))
    (h : wpList Try.prog ops Q rest (a.put o.dst undef) (w.setRow g #[p, q])) : wpList Try.prog ops Q (o :: rest) a w :=
  wpList_store_row hgd _ x y ho g _ hx hy _ _ hg (by kernel_rfl) rfl (by rw [Array.all_eq_true_iff_forall_mem]; intro x hx; simp at hx; rcases hx with rfl | rfl <;> assumption) h
theorem results_mt2 {fn : Func} {p u : Tmp} (h : fn.results = #[.cell p 64, .tmp u]) (tmps : Array Value) (w : World) (g : Nat) (x y : Value)
    (hp : tmps.getD p undef = .pointer (some ⟨g, 0, none⟩)) (hg : w.heap[g]? = some (.cells #[x, y] 64 (0, 0))) :
    (results fn tmps).run Try.prog w = .ok (.tuple #[.agg #[x, y], tmps.getD u undef]) w := by
  have hr := run_loadVar_row (P := Try.prog) w g _ 64 _ _ _ hg Try.underlying64 rfl (by kernel_rfl)
  rw [results_cell_tmp h, hp]
  simp [asAddr, hr, Result.andThen]
set_option maxHeartbeats 2000000 in
theorem matcherOf_any (v : Value) (es : List Ent) (u : Value) (xs : List Int) (w : World) (h : EntsAt w v es) (hu : IntsAt w u xs) (hn : es.length ≤ 2097152) (hx : ∀ e ∈ es, entOk e) (hxn : xs.length ≤ 2097152) :
    Calls Try.prog 37 #[dV v, u] w fun r w' => (∃ mv, r = .returned (.tuple #[.agg #[mv, u], .bool (sgB es xs)]) ∧ mv.oneCell' = true ∧ (sgB es xs = true → ∃ b, mv = .map (some b) ∧ w.heap.size ≤ b ∧ MapB w' b es)) ∧ Below w.heap.size w w' := by
  have ca := fun w' hb => areS_any u xs w' (hu.below (w' := w') hb) hxn
  have CY := Lib.hid (fun w' hb hg => texts_any v es w' (h.below (w' := w') hb) hn hx hg)
  have CN := Lib.hid (fun w' hb hg => textsNo_any v es w' (h.below (w' := w') hb) hn hx hg)
  have HB : Hid (sgB es xs = (okD es && (decide ((xs.length : Int) ≤ 60) && xs.all okS))) := by
    show _ = _
    unfold sgB okS60
    congr 2
    rw [decide_eq_decide]; omega
  obtain ⟨a, cap, rfl, hcap, _⟩ := h.cells
  obtain ⟨ua, uc, rfl, huc, _⟩ := hu.cells
  obtain ⟨n, hnn⟩ : ∃ n, n = xs.length := ⟨_, rfl⟩
  obtain ⟨dn, hdn⟩ : ∃ n, n = es.length := ⟨_, rfl⟩
  rw [← hnn] at ca HB huc hxn ⊢
  unfold dV at CY CN ⊢
  rw [← hdn] at CY CN hcap ⊢
  have BX := Lib.hid (below_al2 w (.cells #[.slice a dn cap] 33) (.cells #[.map none, .slice none 0 0] 64))
  have P2 : Hid (((w.alloc (.cells #[.slice a dn cap] 33)).alloc (.cells #[.map none, .slice none 0 0] 64)).heap[w.heap.size + 1]? = some (.cells #[.map none, .slice none 0 0] 64 (0, 0))) := by
    have := heap_alloc_new (w.alloc (.cells #[.slice a dn cap] 33)) (.cells #[.map none, .slice none 0 0] 64)
    rwa [World.size_alloc] at this
  clear h hu hnn hdn
  obtain ⟨bD, hbD⟩ : ∃ b, b = okD es := ⟨_, rfl⟩
  obtain ⟨bA, hbA⟩ : ∃ b, b = xs.all okS := ⟨_, rfl⟩
  obtain ⟨B, hB⟩ : ∃ b, b = sgB es xs := ⟨_, rfl⟩
  rw [← hB] at HB ⊢
  rw [← hbD, ← hbA] at HB
  rw [← hbA] at ca
  rw [← hbD] at CY CN
  have CA := Lib.hid ca
  clear ca hbA hx hn hB hbD
  go_enter Try.func37, Try.ntmps37
  cases bD
  · obtain rfl : B = false := HB.out
    have C1 := Lib.hid (fun w' hb => CN.out w' hb (by first | rfl | trivial))
    clear CY CN HB
    go_wp2_with fail
    refine (C1.out _ BX.out).mono ?_
    rintro r w1 ⟨rfl, hb⟩
    have P3 := Lib.hid ((hb.block (w.heap.size + 1) (by simp)).trans P2.out)
    have B1 := Lib.hid (below_step BX.out hb)
    have h4 := Lib.hid (setRow_heap w1 (w.heap.size + 1) _ #[.map none, .slice ua n uc] _ _ P3.out)
    have hb4 := Lib.hid (below_setRow B1.out (Nat.le_succ _) #[.map none, .slice ua n uc])
    clear hb P2 C1 CA
    go_wp2_with (with_reducible (show wpList _ _ _ (_ :: _) _ _); refine mt_store rfl _ _ rfl (w.heap.size + 1) (.map none) (.slice ua n uc) _ _ rfl rfl rfl rfl P3.out ?_)
    (try simp only [Exit.inBlock, Exit.then])
    refine bodyPost_ret (results_mt2 rfl _ _ (w.heap.size + 1) _ _ rfl h4.out) rfl ?_
    first | exact ⟨⟨_, rfl, rfl, fun h => by cases h⟩, hb4.out⟩ | exact ⟨⟨_, rfl, rfl⟩, hb4.out⟩
  · have C1 := Lib.hid (fun w' hb => CY.out w' hb (by first | rfl | trivial))
    clear CY CN
    by_cases h60 : n ≤ 60
    · have h60' : (n : Int) ≤ 60 := by omega
      have hBA : Hid (B = bA) := by have := HB.out; rw [decide_eq_true h60', Bool.true_and, Bool.true_and] at this; exact this
      clear HB
      go_wp2_with fail
      refine (C1.out _ BX.out).mono ?_
      rintro r w1 ⟨⟨b, rfl, hb0, hm⟩, hb⟩
      have P3 := Lib.hid ((hb.block (w.heap.size + 1) (by simp)).trans P2.out)
      have B1 := Lib.hid (below_step BX.out hb)
      have HM := Lib.hid hm
      have Hb0 : Hid (w.heap.size + 2 ≤ b) := by show _ ≤ _; have : (w.heap.size + 2) = ((w.alloc (.cells #[.slice a dn cap] 33)).alloc (.cells #[.map none, .slice none 0 0] 64)).heap.size := by simp
                                                 omega
      have h4 := Lib.hid (setRow_heap w1 (w.heap.size + 1) _ #[.map (some b), .slice ua n uc] _ _ P3.out)
      have hb4 := Lib.hid (below_setRow B1.out (Nat.le_succ _) #[.map (some b), .slice ua n uc])
      have HM4 : Hid (MapB (w1.setRow (w.heap.size + 1) #[.map (some b), .slice ua n uc]) b es) :=
        World.ownsMap.kept HM.out (grown_rowG w1 _ _) (by intro e; injection e with e; have := Hb0.out; omega)
      clear hb P2 C1 hm hb0
      go_wp2_with fail
      refine (CA.out _ B1.out).mono ?_
      rintro r w2 ⟨rfl, rfl⟩
      go_wp2_with (with_reducible (show wpList _ _ _ (_ :: _) _ _); refine mt_store rfl _ _ rfl (w.heap.size + 1) (.map (some b)) (.slice ua n uc) _ _ rfl rfl rfl rfl P3.out ?_)
      (try simp only [Exit.inBlock, Exit.then])
      refine bodyPost_ret (results_mt2 rfl _ _ (w.heap.size + 1) _ _ rfl h4.out) rfl ?_
      exact ⟨⟨_, by rw [hBA.out]; rfl, rfl, fun _ => ⟨b, rfl, by have := Hb0.out; omega, HM4.out⟩⟩, hb4.out⟩
    · have h60' : ¬ (n : Int) ≤ 60 := by omega
      obtain rfl : B = false := by have := HB.out; rw [decide_eq_false h60', Bool.false_and, Bool.true_and] at this; exact this
      clear HB
      go_wp2_with fail
      refine (C1.out _ BX.out).mono ?_
      rintro r w1 ⟨⟨b, rfl, hb0, hm⟩, hb⟩
      have P3 := Lib.hid ((hb.block (w.heap.size + 1) (by simp)).trans P2.out)
      have B1 := Lib.hid (below_step BX.out hb)
      have h4 := Lib.hid (setRow_heap w1 (w.heap.size + 1) _ #[.map (some b), .slice ua n uc] _ _ P3.out)
      have hb4 := Lib.hid (below_setRow B1.out (Nat.le_succ _) #[.map (some b), .slice ua n uc])
      clear hb P2 C1 hm hb0
      go_wp2_with (with_reducible (show wpList _ _ _ (_ :: _) _ _); refine mt_store rfl _ _ rfl (w.heap.size + 1) (.map (some b)) (.slice ua n uc) _ _ rfl rfl rfl rfl P3.out ?_)
      (try simp only [Exit.inBlock, Exit.then])
      refine bodyPost_ret (results_mt2 rfl _ _ (w.heap.size + 1) _ _ rfl h4.out) rfl ?_
      first | exact ⟨⟨_, rfl, rfl, fun h => by cases h⟩, hb4.out⟩ | exact ⟨⟨_, rfl, rfl⟩, hb4.out⟩
theorem keyL_take {xs : List Int} (hok : xs.all okS = true) {m : Nat} (h1 : 1 ≤ m) (h6 : m ≤ 6) (hm : m ≤ xs.length) : keyL (xs.take m) = Pl.pad 6 (xs.take m) := by
  refine keyL_yes ?_
  unfold okO
  have hl : (xs.take m).length = m := by rw [List.length_take]; omega
  rw [hl, decide_eq_true h1, decide_eq_true h6]
  simp only [Bool.true_and]
  rw [List.all_eq_true]
  intro x hx
  exact List.all_eq_true.1 hok x (List.mem_of_mem_take hx)
theorem pad_take (ys : List Int) {m m' : Nat} (h : m ≤ m') (_ : m' ≤ 6) (hl : m' ≤ ys.length) : (Pl.pad 6 (ys.take m')).take m ++ List.replicate (6 - m) 0 = Pl.pad 6 (ys.take m) := by
  unfold Pl.pad
  rw [List.take_append_of_le_length (by rw [List.length_take]; omega), List.take_take, Nat.min_eq_left h, List.length_take, Nat.min_eq_left (by omega : m ≤ ys.length)]
/-- The pieces at f; none outside of the strokes. -/
def allX (es : List Ent) (xs : List Int) (f : Int) : List Pc := if 0 ≤ f ∧ f < (xs.length : Int) then Pl.allPs es xs f.toNat else []
set_option maxHeartbeats 4000000 in
theorem piecesAt_any (b : Nat) (es : List Ent) (u : Value) (xs : List Int) (f : Int) (w : World) (hm : MapB w b es) (hok : okD es = true) (hu : IntsAt w u xs) (hs : xs.all okS = true) (hxn : xs.length ≤ 60) :
    Calls Try.prog 38 #[mtV b u, .int .i64 f] w fun r w' => (∃ y, r = .returned y ∧ OwnP w' w.heap.size y (allX es xs f)) ∧ Below w.heap.size w w' := by
  unfold mtV
  by_cases hf0 : f < 0
  · rw [show allX es xs f = [] by unfold allX; rw [if_neg (by omega)]]
    obtain ⟨ua, uc, rfl, huc, _⟩ := hu.cells
    clear hm hu hs
    go_enter Try.func38, Try.ntmps38
    go_wp2
    go_ret
    exact ⟨⟨_, rfl, ownP_nil _ _⟩, below_al _ _⟩
  obtain ⟨i, rfl⟩ : ∃ i : Nat, f = (i : Int) := ⟨f.toNat, by omega⟩
  by_cases hil : xs.length ≤ i
  · rw [show allX es xs i = [] by unfold allX; rw [if_neg (by omega)]]
    obtain ⟨ua, uc, rfl, huc, _⟩ := hu.cells
    obtain ⟨n, hnn⟩ : ∃ n, n = xs.length := ⟨_, rfl⟩
    rw [← hnn] at huc hil hxn ⊢
    have hil' : (n : Int) ≤ (i : Int) := by omega
    clear hm hu hs hnn
    go_enter Try.func38, Try.ntmps38
    go_wp2
    go_ret
    exact ⟨⟨_, rfl, ownP_nil _ _⟩, below_al _ _⟩
  have hin : i < xs.length := by omega
  rw [show allX es xs i = Pl.fdPs es xs i (Pl.capN xs i) ++ [Pl.unP i] by unfold allX; rw [if_pos (by omega), Int.toNat_natCast]; rfl]
  obtain ⟨bk, o, uc, rfl, huc, hbk, hC⟩ := ints_block hu (by omega)
  obtain ⟨ys, hys⟩ : ∃ ys, ys = xs.drop i := ⟨_, rfl⟩
  obtain ⟨c0, hc0⟩ : ∃ c, c = Pl.capN xs i := ⟨_, rfl⟩
  have hysl : ys.length = xs.length - i := by rw [hys, List.length_drop]
  have hc6 : c0 ≤ 6 ∧ c0 ≤ ys.length ∧ 1 ≤ c0 ∧ c0 = Nat.min (xs.length - i) 6 := by
    refine ⟨?_, ?_, ?_, ?_⟩
    · rw [hc0]; unfold Pl.capN; omega
    · rw [hysl, hc0]; unfold Pl.capN; omega
    · rw [hc0]; unfold Pl.capN; omega
    · rw [hc0]; unfold Pl.capN; exact Nat.min_comm _ _
  obtain ⟨hc6, hcy, hc1, hcm⟩ := hc6
  have hyok : ys.all okS = true := by
    rw [List.all_eq_true]; intro x hx; rw [hys] at hx; exact List.all_eq_true.1 hs x (List.mem_of_mem_drop hx)
  have HLk : Hid (∀ m, 1 ≤ m → m ≤ c0 → keyOf Try.prog 94 (.agg (kyA (Pl.pad 6 (ys.take m)))) = some (KL (Pl.pad 6 (ys.take m))) ∧ Maps.has (mapD es) (KL (Pl.pad 6 (ys.take m))) = (Pl.lkP es xs i m).isSome ∧ ∀ zd, (mapD es).atKey (KL (Pl.pad 6 (ys.take m))) zd = (match Pl.lkP es xs i m with | some t => litT t | none => zd)) := by
    intro m h1 h2
    have hk := keyL_take hyok h1 (by omega) (by omega : m ≤ ys.length)
    obtain ⟨hl1, hl2⟩ := mapD_look (keyL (ys.take m)) (kyOk_key _) es
    have hk2 := kl_at (kyOk_key (ys.take m))
    rw [lastT_key hok] at hl1 hl2
    rw [hk] at hl1 hl2 hk2
    have e : Pl.lkP es xs i m = Pl.look (ys.take m) es := by unfold Pl.lkP; rw [hys]
    rw [e]
    exact ⟨hk2, hl1, hl2⟩
  have HF : Hid (∀ m, Pl.fdPs es xs i (m + 1) = match Pl.lkP es xs i (m + 1) with | some t => ((i : Int), ((m + 1 : Nat) : Int), t) :: Pl.fdPs es xs i m | none => Pl.fdPs es xs i m) := fun m => rfl
  have HFl : Hid (∀ m, (Pl.fdPs es xs i m).length ≤ m) := Pl.fdPs_len es xs i
  have HPT : Hid (∀ m m', m ≤ m' → m' ≤ c0 → (Pl.pad 6 (ys.take m')).take m ++ List.replicate (6 - m) 0 = Pl.pad 6 (ys.take m)) := fun m m' h h' => pad_take ys h (by omega) (by omega)
  have HPL : Hid (∀ m, m ≤ c0 → (Pl.pad 6 (ys.take m)).length = 6) := fun m h => Pl.pad_len (by rw [List.length_take]; omega)
  have hcs : ((ys.take 6).map (Value.int .i64)).length = Nat.min (xs.length - i) 6 := by rw [List.length_map, List.length_take, hysl]; exact Nat.min_comm _ _
  have HSP : Hid ((splice (z6.map (Value.int .i64)) 0 ((ys.take 6).map (Value.int .i64))).toArray = kyA (Pl.pad 6 (ys.take c0))) := by
    show _ = _
    rw [ky_splice]
    have : ys.take 6 = ys.take c0 := by
      rcases Nat.lt_or_ge ys.length 6 with h | h
      · rw [List.take_of_length_le (by omega), List.take_of_length_le (by rw [hcm, hysl]; show _ ≤ min _ _; omega)]
      · rw [show c0 = 6 by rw [hcm]; show min _ _ = 6; omega]
    rw [this]; rfl
  have HSrc : Hid (∀ w', Below w.heap.size w w' → ∀ j v, ((ys.take 6).map (Value.int .i64))[j]? = some v → w'.cell? ((⟨bk, o + i, none⟩ : Addr).add j) = some v) := by
    intro w' hb j v hj
    rw [List.getElem?_map] at hj
    obtain ⟨x, hx, rfl⟩ := Option.map_eq_some_iff.1 hj
    have hj6 : j < 6 := by
      rcases Nat.lt_or_ge j 6 with h' | h'
      · exact h'
      · rw [List.getElem?_eq_none (by rw [List.length_take]; omega)] at hx; cases hx
    rw [List.getElem?_take_of_lt hj6, hys, List.getElem?_drop] at hx
    rw [show (⟨bk, o + i, none⟩ : Addr).add j = ⟨bk, o + i + j, none⟩ from Go.WideShapes.add_plain .., Nat.add_assoc]
    exact (hb.cell (p := ⟨bk, o + (i + j), none⟩) hbk).trans (hC _ _ hx)
  have HOne : Hid (∀ v ∈ (ys.take 6).map (Value.int .i64), v.oneCell' = true) := by
    intro v hv
    obtain ⟨x, _, rfl⟩ := List.mem_map.1 hv
    rfl
  have HFit : Hid (0 + ((ys.take 6).map (Value.int .i64)).length ≤ (z6.map (Value.int .i64)).length) := by show _ ≤ _; rw [List.length_map, List.length_map, z6_len, List.length_take]; omega
  obtain ⟨F, hF⟩ : ∃ F : Nat → List Pc, F = fun m => Pl.fdPs es xs i m := ⟨_, rfl⟩
  obtain ⟨L, hL⟩ : ∃ L : Nat → Option ByteArray, L = fun m => Pl.lkP es xs i m := ⟨_, rfl⟩
  obtain ⟨Y, hY⟩ : ∃ Y : Nat → List Int, Y = fun m => Pl.pad 6 (ys.take m) := ⟨_, rfl⟩
  obtain ⟨cs, hcsd⟩ : ∃ cs, cs = (ys.take 6).map (Value.int .i64) := ⟨_, rfl⟩
  have HLk' : Hid (∀ m, 1 ≤ m → m ≤ c0 → keyOf Try.prog 94 (.agg (kyA (Y m))) = some (KL (Y m)) ∧ Maps.has (mapD es) (KL (Y m)) = (L m).isSome ∧ ∀ zd, (mapD es).atKey (KL (Y m)) zd = (match L m with | some t => litT t | none => zd)) := by rw [hY, hL]; exact HLk.out
  have HF' : Hid (∀ m, F (m + 1) = match L (m + 1) with | some t => ((i : Int), ((m + 1 : Nat) : Int), t) :: F m | none => F m) := by rw [hF, hL]; exact HF.out
  have HFl' : Hid (∀ m, (F m).length ≤ m) := by rw [hF]; exact HFl.out
  have HPT' : Hid (∀ m m', m ≤ m' → m' ≤ c0 → (Y m').take m ++ List.replicate (6 - m) 0 = Y m) := by rw [hY]; exact HPT.out
  have HPL' : Hid (∀ m, m ≤ c0 → (Y m).length = 6) := by rw [hY]; exact HPL.out
  have HF0 : Hid (F 0 = []) := by rw [hF]; rfl
  have HFc : Hid (Pl.fdPs es xs i c0 = F c0) := by rw [hF]; rfl
  rw [← hcsd] at hcs HSP HSrc HOne HFit
  rw [show kyA (Pl.pad 6 (ys.take c0)) = kyA (Y c0) by rw [hY]] at HSP
  rw [← hc0, HFc.out]
  obtain ⟨n, hnn⟩ : ∃ n, n = xs.length := ⟨_, rfl⟩
  rw [← hnn] at huc hin hcs hcm hil ⊢
  have HM := Lib.hid hm
  have hblt := hm.lt
  have HCm := Lib.hid hcm
  have HCs := Lib.hid hcs
  have HBk := Lib.hid hbk
  have hz := ky_nil
  clear hF hL hY hcsd HLk HF HFl HPT HPL hm hu hs hxn hC hys hysl hcy hyok hok hnn hc0 HFc hcm hcs hf0
  have K0 : Hid (KyB ((w.alloc (.cells #[.map (some b), .slice (some ⟨bk, o, none⟩) n uc] 64)).alloc (.cells (kyA z6) 94)) (w.heap.size + 1) z6) := by
    have := KyB.new (w.alloc (.cells #[.map (some b), .slice (some ⟨bk, o, none⟩) n uc] 64)) z6
    rwa [World.size_alloc] at this
  have M0 : Hid (((w.alloc (.cells #[.map (some b), .slice (some ⟨bk, o, none⟩) n uc] 64)).alloc (.cells (kyA z6) 94)).heap[w.heap.size]? = some (.cells #[.map (some b), .slice (some ⟨bk, o, none⟩) n uc] 64 (0, 0))) := by
    show _ = _
    rw [heap_alloc_old _ _ (by simp)]
    exact heap_alloc_new w _
  have B0 := Lib.hid (below_al2 w (.cells #[.map (some b), .slice (some ⟨bk, o, none⟩) n uc] 64) (.cells (kyA z6) 94))
  go_enter Try.func38, Try.ntmps38
  go_wp2_with fail
  have W0 : ∃ W, W = (w.alloc (.cells #[.map (some b), .slice (some ⟨bk, o, none⟩) n uc] 64)).alloc (.cells (kyA z6) 94) := ⟨_, rfl⟩
  obtain ⟨W, hW⟩ := W0
  rw [← hW] at K0 M0 B0 ⊢
  have hWs : w.heap.size + 2 ≤ W.heap.size := by rw [hW]; simp
  clear hW
  have q1 : W.cell? ⟨w.heap.size, 1, none⟩ = some (.slice (some ⟨bk, o, none⟩) n uc) := by
    unfold World.cell?; simp only [show W.heap[w.heap.size]? = _ from M0.out]; rfl
  have k1 := cell_regrown q1
  refine Mx.wp_region_mixed (Mx.ofL [(0, 0), (1, 0), (2, 1), (3, 0), (4, 0), (5, 3), (6, 0)] .done) (by kernel_rfl) (by kernel_rfl) ?_
  repeat ((first | refine Mx.mix0 rfl ?_ | refine Mx.mix1 rfl ?_); go_big_quiet_step (fail); refine wpQuiet_nil ?_)
  refine Mx.mix3 rfl ?_
  have hd : Below W.heap.size W W.drew := below_drewN (Below.refl _ _) 1
  have K1 : Hid (W.drew.heap[w.heap.size + 1]? = some (.cells (z6.map (Value.int .i64)).toArray 94 (0, 0))) := K0.out.below hd (by omega)
  have M1 : Hid (W.drew.heap[w.heap.size]? = some (.cells #[.map (some b), .slice (some ⟨bk, o, none⟩) n uc] 64 (0, 0))) := (hd.block _ (by omega)).trans M0.out
  have B1 : Hid (Below w.heap.size w W.drew) := B0.out.trans (hd.mono (by omega))
  have HS1 := Lib.hid (HSrc.out _ B1.out)
  clear K0 M0 B0 hd k1 q1 HSrc
  go_wp2_with (with_reducible (show wpList _ _ _ (_ :: _) _ _); refine wpList_copy_splice rfl (.tmp 19) (.tmp 23) 25 25 rfl 3 Try.underlying25 (by kernel_rfl) _ _ _ _ _ _ rfl rfl (w.heap.size + 1) 0 (z6.map (Value.int .i64)) 94 K1.out cs HCs.out (fun h0 => ⟨rfl, _, rfl, HS1.out⟩) HFit.out HOne.out (w.heap.size + 1) W.drew (Below.refl _ _) (Nat.le_refl _) ?_)
  intro w2 hg2 hb2
  have L2 : Hid (KyB w2 (w.heap.size + 1) (Y c0)) := by have h2 := hg2.out; rw [HSP.out] at h2; exact h2
  have M2 : Hid (w2.heap[w.heap.size]? = some (.cells #[.map (some b), .slice (some ⟨bk, o, none⟩) n uc] 64 (0, 0))) := (hb2.block _ (by omega)).trans M1.out
  have HB2 : Hid (Below w.heap.size w w2) := B1.out.trans (hb2.mono (by omega))
  clear hg2 hb2 K1 M1 B1 HS1 HSP HFit HOne
  refine Mx.mid_normal (fun q => by cases q) ?_
  repeat ((first | refine Mx.mix0 rfl ?_ | refine Mx.mix1 rfl ?_); go_big_quiet_step (fail); refine wpQuiet_nil ?_)
  refine Mx.mix_nil ?_
  have hcc : cs.length = c0 := by rw [HCs.out, HCm.out]
  rw [hcc]
  clear hcc HCs HCm
  go_wp2_with fail
  go_loopw [5, 7] (fun y c wr => ∃ (m m' : Nat) (ls : List Pc), c = .int .i64 m ∧ m ≤ m' ∧ m' ≤ c0 ∧ Hid (ls ++ F m = F c0) ∧ Hid (OwnP wr (w.heap.size + 2) y ls) ∧ Hid (KyB wr (w.heap.size + 1) (Y m')) ∧ Hid (wr.heap[w.heap.size]? = some (.cells #[.map (some b), .slice (some ⟨bk, o, none⟩) n uc] 64 (0, 0))) ∧ Hid (Below w.heap.size w wr)) (fun _ c _ => (intOf c).toNat)
  case atStart => exact ⟨c0, c0, [], rfl, Nat.le_refl _, Nat.le_refl _, Lib.hid (List.nil_append _), Lib.hid (ownP_nil _ _), L2, M2, HB2⟩
  case round =>
    obtain ⟨m, m', ls, rfl, hmm, hmc, HL, HO, HK, HMt, HBr⟩ := hrel
    have hll : ls.length ≤ 6 := by
      have h1 := congrArg List.length HL.out
      have h2 := HFl'.out c0
      rw [List.length_append] at h1
      omega
    cases m with
    | zero =>
      have HE : Hid (ls = F c0) := by have h1 := HL.out; rw [HF0.out, List.append_nil] at h1; exact h1
      have hs1 : w.heap.size + 2 ≤ wr.heap.size := by have := HK.out.lt; omega
      clear HL HF' HFl' HLk' HPT' HPL'
      go_wp2_with (at_builtin; refine push_pc rfl _ _ rfl (w.heap.size + 2) _ ls rfl HO.out (Pl.unP i) rfl hs1 (by omega) ?_)
      intro v' w3 hown hg _
      have O3 := Lib.hid (ownsRow_mono hown (Nat.le_add_right w.heap.size 2))
      have B3 := Lib.hid (HBr.out.grown hg (by omega) (fun j hj => by have := row_ge HO.out hj; omega))
      clear hown hg HO HK HMt HBr
      go_wp2
      go_ret
      exact ⟨⟨_, rfl, by rw [← HE.out]; exact O3.out⟩, B3.out⟩
    | succ m =>
      have HPTm := HPT'.out (m + 1) m' hmm hmc
      have hY6 := HPL'.out m' hmc
      have c0' : wr.cell? ⟨w.heap.size, 0, none⟩ = some (.map (some b)) := by
        unfold World.cell?; simp only [show wr.heap[w.heap.size]? = _ from HMt.out]; rfl
      clear c0'
      obtain ⟨dd, hdd⟩ : ∃ dd, dd = 6 - (m + 1) := ⟨_, rfl⟩
      obtain ⟨ad, hadd⟩ : ∃ ad : Addr, ad = if 6 = m + 1 then ⟨w.heap.size + 1, 0, none⟩ else ⟨w.heap.size + 1, m + 1, none⟩ := ⟨_, rfl⟩
      have hsl : (Instr.sliceAt 94 (.pointer (some ⟨w.heap.size + 1, 0, none⟩)) (some (.int .i64 ((m : Int) + 1))) none none).run Try.prog wr = .ok (.slice (some ad) dd dd) wr := by
        rw [hdd]
        have hal : Try.prog.arrayLen 94 = 6 := by kernel_rfl
        rw [run_sliceAt_array_l wr 94 ⟨w.heap.size + 1, 0, none⟩ (by kernel_rfl) .i64 ((m : Int) + 1) (by omega) (by rw [hal]; omega), hal]
        have hsz : (sizeOf (Try.prog.elem 94)).run Try.prog wr = .ok 1 wr := by kernel_rfl
        rw [hsz, hadd]
        show Result.ok (slicedAt _ ((m : Int) + 1).toNat 6 6 1) wr = _
        rw [show ((m : Int) + 1).toNat = m + 1 by omega]
        unfold slicedAt
        by_cases h6 : 6 = m + 1
        · rw [if_pos h6, if_pos h6]
        · rw [if_neg h6, if_neg h6, Nat.mul_one, show (⟨w.heap.size + 1, 0, none⟩ : Addr).add (m + 1) = ⟨w.heap.size + 1, 0 + (m + 1), none⟩ from Go.WideShapes.add_plain .., Nat.zero_add]
      have hadne : ¬ 6 - (m + 1) = 0 → ad = ⟨w.heap.size + 1, m + 1, none⟩ := fun h => by rw [hadd, if_neg (by omega)]
      have HDd := Lib.hid hdd
      clear hadd hdd
      go_wp2_with (with_reducible (show wpList _ _ _ (_ :: _) _ _); refine clear_key rfl _ rfl (w.heap.size + 1) (m + 1) _ dd ad _ hY6 (by omega) HDd.out hadne rfl HK.out ?_)
      intro w3 hK3 hg3
      have K3 : Hid (KyB w3 (w.heap.size + 1) (Y (m + 1))) := by have h2 := hK3.out; rw [show 5 - m = 6 - (m + 1) by omega, HPTm] at h2; exact h2
      have M3 : Hid (w3.heap[w.heap.size]? = some (.cells #[.map (some b), .slice (some ⟨bk, o, none⟩) n uc] 64 (0, 0))) := (hg3.block _ (by have := HK.out.lt; omega) (by intro e; injection e with e; omega)).trans HMt.out
      have O3 : Hid (OwnP w3 (w.heap.size + 2) u5 ls) := Lib.hid (HO.out.kept hg3 (by
        cases hv : u5.ownBlock with
        | none => simp
        | some j => right; intro e; injection e with e; have := row_ge HO.out hv; omega))
      have B3 : Hid (Below w.heap.size w w3) := Lib.hid (HBr.out.grown hg3 (by have := HK.out.lt; omega) (fun j hj => by injection hj with hj; omega))
      have HM3 : Hid (w3.ownsMap Try.prog 94 (plainElem Try.prog 9) b es.length (mapD es)) := MapB.below HM.out B3.out
      have c3 : w3.cell? ⟨w.heap.size, 0, none⟩ = some (.map (some b)) := by
        unfold World.cell?; simp only [show w3.heap[w.heap.size]? = _ from M3.out]; rfl
      obtain ⟨hky, hh1, hh2⟩ := HLk'.out (m + 1) (by omega) (by omega)
      have hY62 := HPL'.out (m + 1) (by omega)
      have hFm := HF'.out m
      obtain ⟨x, hx⟩ : ∃ x, x = L (m + 1) := ⟨_, rfl⟩
      rw [← hx] at hh1 hh2 hFm
      have HFm := Lib.hid hFm
      have HH1 := Lib.hid hh1
      have HH2 := Lib.hid hh2
      have HKy := Lib.hid hky
      obtain ⟨K, hK⟩ : ∃ K, K = Y (m + 1) := ⟨_, rfl⟩
      have K3' : Hid (KyB w3 (w.heap.size + 1) K) := by rw [hK]; exact K3.out
      rw [← hK] at HH1 HH2 HKy hY62
      have HKY : Hid (Y (m + 1) = K) := hK.symm
      clear hx hh1 hh2 hky hFm hK HPTm hY6 hK3 hg3 HO HK HMt HBr
      go_wp2_with (first | (at_lookup; refine wpList_lookup_own_ok _ rfl _ _ 62 rfl 94 9 lawK Try.underlying62 _ (zeroS _) (litT ByteArray.empty) [] (plainElem_string Try.underlying9 (by decide)) b es.length (mapD es) rfl HM3.out _ (KL K) rfl HKy.out ?_) | (with_reducible (show wpList _ _ _ (_ :: _) _ _); refine ky_load (w.heap.size + 1) K hY62 rfl rfl rfl K3'.out ?_))
      intro v ps hv
      have hv2 : v = .string (x.getD ByteArray.empty) := by
        rw [HH2.out] at hv
        obtain ⟨s, rfl, h1, _⟩ := plainElem_string_inv Try.underlying9 hv
        have h2 := congrArg Prod.fst h1
        cases x with
        | none => simp only [litT] at h2; have h2 := Lit.string.inj (DataW.lit.inj h2); exact congrArg Value.string (ByteArray.ext (Array.toList_inj.1 h2)).symm
        | some t => simp only [litT] at h2; have h2 := Lit.string.inj (DataW.lit.inj h2); exact congrArg Value.string (ByteArray.ext (Array.toList_inj.1 h2)).symm
      subst hv2
      rw [HH1.out]
      clear hv HM3 HH1 HH2 HKy c3
      cases x with
      | none =>
        have HL2 : Hid (ls ++ F m = F c0) := by have h1 := HL.out; rw [HFm.out] at h1; exact h1
        clear HL HFm
        go_wp2
        go_roundw
        case rel => exact ⟨m, m + 1, ls, by go_num, by omega, by omega, HL2, O3, K3, M3, B3⟩
        case measure => simp [intOf]
      | some t =>
        have HL2 : Hid ((ls ++ [((i : Int), ((m + 1 : Nat) : Int), t)]) ++ F m = F c0) := by have h1 := HL.out; rw [HFm.out] at h1; rw [List.append_assoc]; exact h1
        have hs1 : w.heap.size + 2 ≤ w3.heap.size := by have := K3.out.lt; omega
        clear HL HFm
        go_wp2_with (at_builtin; refine push_pc rfl _ _ rfl (w.heap.size + 2) _ ls rfl O3.out ((i : Int), ((m + 1 : Nat) : Int), t) rfl hs1 (by omega) ?_)
        intro v' w4 hown hg _
        have O4 := Lib.hid hown
        have K4 : Hid (KyB w4 (w.heap.size + 1) (Y (m + 1))) := (hg.block _ K3.out.lt (fun e => by have := row_ge O3.out e.symm; omega)).trans K3.out
        have M4 : Hid (w4.heap[w.heap.size]? = some (.cells #[.map (some b), .slice (some ⟨bk, o, none⟩) n uc] 64 (0, 0))) := (hg.block _ (by omega) (fun e => by have := row_ge O3.out e.symm; omega)).trans M3.out
        have B4 := Lib.hid (B3.out.grown hg (by omega) (fun j hj => by have := row_ge O3.out hj; omega))
        clear hown hg K3 M3 B3 O3 K3'
        go_wp2
        go_roundw
        case rel => exact ⟨m, m + 1, _, by go_num, by omega, by omega, HL2, O4, K4, M4, B4⟩
        case measure => simp [intOf]
end Go.Proofs.Ythigdblloddepaa
