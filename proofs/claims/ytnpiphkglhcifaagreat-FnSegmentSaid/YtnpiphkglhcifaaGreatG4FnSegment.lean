/-
  CONTRACTS of the program's chapter 11, third part: slices.Contains at pieces, IsSegmentation.
-/
import Derived.Test.YtnpiphkglhcifaaGreatG1FnSegment
import Derived.Test.YtnpiphkglhcifaaGreatImpl6E
import Derived.Test.YtnpiphkglhcifaaGreatMix
import Derived.Lib.SliceRun
import Derived.Laws.CopyOwn
import Derived.Test.YtnpiphkglhcifaaGreatG3FnSegment
import Derived.Laws.StructEq
namespace Go.Proofs.YtnpiphkglhcifaaGreat
set_option maxRecDepth 100000
open Go.RowKit

theorem heap_setCells_else (g k : Nat) (hk : k ≠ g) : ∀ (vs : List Value) (o : Nat) (w : World), (w.setCells g o vs).heap[k]? = w.heap[k]?
  | [], _, _ => rfl
  | v :: vs, o, w => (heap_setCells_else g k hk vs (o + 1) (w.setCell ⟨g, o, none⟩ v)).trans (Below.heap_setCell _ _ _ _ hk)
theorem below_setCellsG {B g : Nat} {a : World} (hb : B ≤ g) : ∀ (vs : List Value) (o : Nat) (w : World), Below B a w → Below B a (w.setCells g o vs)
  | [], _, _, h => h
  | v :: vs, o, _, h => below_setCellsG hb vs (o + 1) _ (h.setCell (p := ⟨g, o, none⟩) hb v)
theorem grown_rowG (w : World) (g : Nat) (cs : Array Value) : w.grownBy (w.setRow g cs) (some g) := ⟨rfl, rfl, rfl, by rw [setRow_size]; exact Nat.le_refl _, fun k _ hk => setRow_other w g k cs (fun e => hk (by rw [e]))⟩
theorem heap_setCells_row (g : Nat) (t : TypeId) : ∀ (vs : List Value) (o : Nat) (w : World) (cs : List Value), w.heap[g]? = some (.cells cs.toArray t (0, 0)) → o + vs.length ≤ cs.length → (w.setCells g o vs).heap[g]? = some (.cells (splice cs o vs).toArray t (0, 0))
  | [], o, w, cs, h, _ => by
    show w.heap[g]? = _
    rw [h]; simp [splice]
  | v :: vs, o, w, cs, h, hl => by
    show ((w.setCell ⟨g, o, none⟩ v).setCells g (o + 1) vs).heap[g]? = _
    have h1 := Go.heap_setCell_same w g o cs.toArray t v h
    have e1 : cs.toArray.setIfInBounds o v = (cs.set o v).toArray := by simp
    rw [e1] at h1
    rw [heap_setCells_row g t vs (o + 1) _ (cs.set o v) h1 (by simp at hl ⊢; omega)]
    congr 3
    unfold splice
    simp only [List.length_cons] at hl ⊢
    have ho : o < cs.length := by omega
    rw [List.take_set, List.drop_set, if_pos (by omega), show o + (vs.length + 1) = o + 1 + vs.length by omega, List.take_add_one, List.getElem?_eq_getElem ho]
    rw [List.set_append_right _ _ (by simp; omega)]
    simp [List.length_take, Nat.min_eq_left (Nat.le_of_lt ho)]
theorem splice_zero (l : List Int) (m : Nat) (hl : l.length = 6) (hm : m ≤ 6) : splice (l.map (Value.int .i64)) m ((List.replicate (6 - m) (0 : Int)).map (Value.int .i64)) = (l.take m ++ List.replicate (6 - m) 0).map (Value.int .i64) := by
  unfold splice
  rw [List.length_map, List.length_replicate, List.drop_eq_nil_of_le (by rw [List.length_map]; omega), List.append_nil, List.map_append, List.map_take]
/-- The key's tail cleared. -/
theorem clear_key {ops : Array Oper} {rest : List Oper} {o : Oper} {a : Act} {w : World} {Q : Exit → Act → World → Prop} (hgd : o.guard = none) (p : Operand) (ho : o.op = .call { callee := .builtin .clear, args := #[p], argTypes := #[27] })
    (g m c d : Nat) (ad : Addr) (l : List Int) (hl : l.length = 6) (hm : m ≤ 6) (hd : d = 6 - m) (had : ¬ 6 - m = 0 → ad = ⟨g, m, none⟩) (hp : a.eval p = .slice (some ad) d c) (hg : KyB w g l)
    (h : ∀ w', Hid (KyB w' g (l.take m ++ List.replicate (6 - m) 0)) → w.grownBy w' (some g) → wpList Tryz.prog ops Q rest (a.put o.dst (.tuple #[])) w') : wpList Tryz.prog ops Q (o :: rest) a w := by
  subst hd
  refine wpList_plain hgd fun K hK => ?_
  by_cases h6 : 6 - m = 0
  · have hrun : (Builtin.clear_ #[27] o.type #[.slice (some ad) (6 - m) c]).run Tryz.prog w = .ok (.tuple #[]) w := by
      rw [h6]; simp [Builtin.clear_, run_underlying Tryz.underlying27]
    unfold Oper.wp
    simp [execOp, ho, resolve, invoke, builtin, hp, hrun, Result.andThen]
    refine hK _ _ (h w ?_ ⟨rfl, rfl, rfl, Nat.le_refl _, fun _ _ _ => rfl⟩)
    have : l.take m ++ List.replicate (6 - m) 0 = l := by rw [h6, List.replicate_zero, List.append_nil, List.take_of_length_le (by omega)]
    rw [this]; exact hg
  · obtain rfl := had h6
    have hgl := hg.lt
    have hcell : ∀ j, j < 6 - m → (w.cell? ⟨g, m + j, none⟩).isSome = true := by
      intro j hj
      unfold World.cell?
      simp only [show w.heap[g]? = _ from hg]
      unfold kyA
      simp [show m + j < l.length by omega]
    have hfr : ∀ j, j < 6 - m → w.frozen? ⟨g, m + j, none⟩ = false := by
      intro j _
      unfold World.frozen?
      simp only [show w.heap[g]? = _ from hg]
      rfl
    have hrun := Lib.run_clear_slice (P := Tryz.prog) w 27 3 o.type (.int .i64 0) Tryz.underlying27 (fun w => by kernel_rfl) rfl rfl g m (6 - m) c (by omega) hcell hfr
    unfold Oper.wp
    simp [execOp, ho, resolve, invoke, builtin, hp, hrun, Result.andThen]
    have hb : Below g w (w.setCells g m (List.replicate (6 - m) (.int .i64 0))) := below_setCellsG (Nat.le_refl _) _ _ _ (Below.refl _ _)
    refine hK _ _ (h _ ?_ ⟨hb.os, hb.tape, hb.output, hb.size, fun k hk hne => heap_setCells_else _ _ (fun e => hne (by rw [e])) _ _ _⟩)
    have := heap_setCells_row g 73 (List.replicate (6 - m) (Value.int .i64 0)) m w (l.map (Value.int .i64)) hg (by simp; omega)
    have e2 : List.replicate (6 - m) (Value.int .i64 0) = (List.replicate (6 - m) (0 : Int)).map (Value.int .i64) := by simp
    rw [e2, splice_zero l m hl hm] at this
    rw [e2]
    exact this
/-- The values that a matcher is. -/
def mtV (b : Nat) (u : Value) : Value := .agg #[.map (some b), u]
theorem mt_store {ops : Array Oper} {rest : List Oper} {o : Oper} {a : Act} {w : World} {Q : Exit → Act → World → Prop} (hgd : o.guard = none) (x y : Operand) (ho : o.op = .store 48 x y)
    (g : Nat) (p q p' q' : Value) (h1 : p.oneCell' = true) (h2 : q.oneCell' = true) (hx : a.eval x = .pointer (some ⟨g, 0, none⟩)) (hy : a.eval y = .agg #[p, q]) (hg : w.heap[g]? = some (.cells #[p', q'] 48 (0, 0)))
    (h : wpList Tryz.prog ops Q rest (a.put o.dst undef) (w.setRow g #[p, q])) : wpList Tryz.prog ops Q (o :: rest) a w :=
  wpList_store_row hgd _ x y ho g _ hx hy _ _ hg (by kernel_rfl) rfl (by rw [Array.all_eq_true_iff_forall_mem]; intro x hx; simp at hx; rcases hx with rfl | rfl <;> assumption) h
theorem results_mt2 {fn : Func} {p u : Tmp} (h : fn.results = #[.cell p 48, .tmp u]) (tmps : Array Value) (w : World) (g : Nat) (x y : Value)
    (hp : tmps.getD p undef = .pointer (some ⟨g, 0, none⟩)) (hg : w.heap[g]? = some (.cells #[x, y] 48 (0, 0))) :
    (results fn tmps).run Tryz.prog w = .ok (.tuple #[.agg #[x, y], tmps.getD u undef]) w := by
  have hr := run_loadVar_row (P := Tryz.prog) w g _ 48 _ _ _ hg Tryz.underlying48 rfl (by kernel_rfl)
  rw [results_cell_tmp h, hp]
  simp [asAddr, hr, Result.andThen]
set_option maxHeartbeats 2000000 in
theorem matcherOf_any (v : Value) (es : List Ent) (u : Value) (xs : List Int) (w : World) (h : EntsAt w v es) (hu : IntsAt w u xs) (hn : es.length ≤ 2097152) (hx : ∀ e ∈ es, entOk e) (hxn : xs.length ≤ 2097152) :
    Calls Tryz.prog 16 #[dV v, u] w fun r w' => (∃ mv, r = .returned (.tuple #[.agg #[mv, u], .bool (sgB es xs)]) ∧ mv.oneCell' = true ∧ (sgB es xs = true → ∃ b, mv = .map (some b) ∧ w.heap.size ≤ b ∧ MapB w' b es)) ∧ Below w.heap.size w w' := by
  have ca := fun w' hb => areS_any u xs w' (hu.below (w' := w') hb) hxn
  have CY := Lib.hid (fun w' hb hg => texts_any v es w' (h.below (w' := w') hb) hn hx hg)
  have CN := Lib.hid (fun w' hb hg => textsNo_any v es w' (h.below (w' := w') hb) hn hx hg)
  have HB : Hid (sgB es xs = (okD es && (decide ((xs.length : Int) ≤ 60) && xs.all okS))) := by
    show _ = _
    unfold sgB okS60
    congr 2
    rw [decide_eq_decide]; omega
  obtain ⟨a, cap, rfl, hcap, _⟩ := h.cells
  obtain ⟨ua, uc, rfl, huc, _⟩ := hu.cells
  obtain ⟨n, hnn⟩ : ∃ n, n = xs.length := ⟨_, rfl⟩
  obtain ⟨dn, hdn⟩ : ∃ n, n = es.length := ⟨_, rfl⟩
  rw [← hnn] at ca HB huc hxn ⊢
  unfold dV at CY CN ⊢
  rw [← hdn] at CY CN hcap ⊢
  have BX := Lib.hid (below_al2 w (.cells #[.slice a dn cap] 26) (.cells #[.map none, .slice none 0 0] 48))
  have P2 : Hid (((w.alloc (.cells #[.slice a dn cap] 26)).alloc (.cells #[.map none, .slice none 0 0] 48)).heap[w.heap.size + 1]? = some (.cells #[.map none, .slice none 0 0] 48 (0, 0))) := by
    have := heap_alloc_new (w.alloc (.cells #[.slice a dn cap] 26)) (.cells #[.map none, .slice none 0 0] 48)
    rwa [World.size_alloc] at this
  clear h hu hnn hdn
  obtain ⟨bD, hbD⟩ : ∃ b, b = okD es := ⟨_, rfl⟩
  obtain ⟨bA, hbA⟩ : ∃ b, b = xs.all okS := ⟨_, rfl⟩
  obtain ⟨B, hB⟩ : ∃ b, b = sgB es xs := ⟨_, rfl⟩
  rw [← hB] at HB ⊢
  rw [← hbD, ← hbA] at HB
  rw [← hbA] at ca
  rw [← hbD] at CY CN
  have CA := Lib.hid ca
  clear ca hbA hx hn hB hbD
  go_enter Tryz.func16, Tryz.ntmps16
  cases bD
  · obtain rfl : B = false := HB.out
    have C1 := Lib.hid (fun w' hb => CN.out w' hb (by first | rfl | trivial))
    clear CY CN HB
    go_wp2_with fail
    refine (C1.out _ BX.out).mono ?_
    rintro r w1 ⟨rfl, hb⟩
    have P3 := Lib.hid ((hb.block (w.heap.size + 1) (by simp)).trans P2.out)
    have B1 := Lib.hid (below_step BX.out hb)
    have h4 := Lib.hid (setRow_heap w1 (w.heap.size + 1) _ #[.map none, .slice ua n uc] _ _ P3.out)
    have hb4 := Lib.hid (below_setRow B1.out (Nat.le_succ _) #[.map none, .slice ua n uc])
    clear hb P2 C1 CA
    go_wp2_with (with_reducible (show wpList _ _ _ (_ :: _) _ _); refine mt_store rfl _ _ rfl (w.heap.size + 1) (.map none) (.slice ua n uc) _ _ rfl rfl rfl rfl P3.out ?_)
    (try simp only [Exit.inBlock, Exit.then])
    refine bodyPost_ret (results_mt2 rfl _ _ (w.heap.size + 1) _ _ rfl h4.out) rfl ?_
    first | exact ⟨⟨_, rfl, rfl, fun h => by cases h⟩, hb4.out⟩ | exact ⟨⟨_, rfl, rfl⟩, hb4.out⟩
  · have C1 := Lib.hid (fun w' hb => CY.out w' hb (by first | rfl | trivial))
    clear CY CN
    by_cases h60 : n ≤ 60
    · have h60' : (n : Int) ≤ 60 := by omega
      have hBA : Hid (B = bA) := by have := HB.out; rw [decide_eq_true h60', Bool.true_and, Bool.true_and] at this; exact this
      clear HB
      go_wp2_with fail
      refine (C1.out _ BX.out).mono ?_
      rintro r w1 ⟨⟨b, rfl, hb0, hm⟩, hb⟩
      have P3 := Lib.hid ((hb.block (w.heap.size + 1) (by simp)).trans P2.out)
      have B1 := Lib.hid (below_step BX.out hb)
      have HM := Lib.hid hm
      have Hb0 : Hid (w.heap.size + 2 ≤ b) := by show _ ≤ _; have : (w.heap.size + 2) = ((w.alloc (.cells #[.slice a dn cap] 26)).alloc (.cells #[.map none, .slice none 0 0] 48)).heap.size := by simp
                                                 omega
      have h4 := Lib.hid (setRow_heap w1 (w.heap.size + 1) _ #[.map (some b), .slice ua n uc] _ _ P3.out)
      have hb4 := Lib.hid (below_setRow B1.out (Nat.le_succ _) #[.map (some b), .slice ua n uc])
      have HM4 : Hid (MapB (w1.setRow (w.heap.size + 1) #[.map (some b), .slice ua n uc]) b es) :=
        World.ownsMap.kept HM.out (grown_rowG w1 _ _) (by intro e; injection e with e; have := Hb0.out; omega)
      clear hb P2 C1 hm hb0
      go_wp2_with fail
      refine (CA.out _ B1.out).mono ?_
      rintro r w2 ⟨rfl, rfl⟩
      go_wp2_with (with_reducible (show wpList _ _ _ (_ :: _) _ _); refine mt_store rfl _ _ rfl (w.heap.size + 1) (.map (some b)) (.slice ua n uc) _ _ rfl rfl rfl rfl P3.out ?_)
      (try simp only [Exit.inBlock, Exit.then])
      refine bodyPost_ret (results_mt2 rfl _ _ (w.heap.size + 1) _ _ rfl h4.out) rfl ?_
      exact ⟨⟨_, by rw [hBA.out]; rfl, rfl, fun _ => ⟨b, rfl, by have := Hb0.out; omega, HM4.out⟩⟩, hb4.out⟩
    · have h60' : ¬ (n : Int) ≤ 60 := by omega
      obtain rfl : B = false := by have := HB.out; rw [decide_eq_false h60', Bool.false_and, Bool.true_and] at this; exact this
      clear HB
      go_wp2_with fail
      refine (C1.out _ BX.out).mono ?_
      rintro r w1 ⟨⟨b, rfl, hb0, hm⟩, hb⟩
      have P3 := Lib.hid ((hb.block (w.heap.size + 1) (by simp)).trans P2.out)
      have B1 := Lib.hid (below_step BX.out hb)
      have h4 := Lib.hid (setRow_heap w1 (w.heap.size + 1) _ #[.map (some b), .slice ua n uc] _ _ P3.out)
      have hb4 := Lib.hid (below_setRow B1.out (Nat.le_succ _) #[.map (some b), .slice ua n uc])
      clear hb P2 C1 hm hb0
      go_wp2_with (with_reducible (show wpList _ _ _ (_ :: _) _ _); refine mt_store rfl _ _ rfl (w.heap.size + 1) (.map (some b)) (.slice ua n uc) _ _ rfl rfl rfl rfl P3.out ?_)
      (try simp only [Exit.inBlock, Exit.then])
      refine bodyPost_ret (results_mt2 rfl _ _ (w.heap.size + 1) _ _ rfl h4.out) rfl ?_
      first | exact ⟨⟨_, rfl, rfl, fun h => by cases h⟩, hb4.out⟩ | exact ⟨⟨_, rfl, rfl⟩, hb4.out⟩
theorem keyL_take {xs : List Int} (hok : xs.all okS = true) {m : Nat} (h1 : 1 ≤ m) (h6 : m ≤ 6) (hm : m ≤ xs.length) : keyL (xs.take m) = Pl.pad 6 (xs.take m) := by
  refine keyL_yes ?_
  unfold okO
  have hl : (xs.take m).length = m := by rw [List.length_take]; omega
  rw [hl, decide_eq_true h1, decide_eq_true h6]
  simp only [Bool.true_and]
  rw [List.all_eq_true]
  intro x hx
  exact List.all_eq_true.1 hok x (List.mem_of_mem_take hx)
theorem pad_take (ys : List Int) {m m' : Nat} (h : m ≤ m') (_ : m' ≤ 6) (hl : m' ≤ ys.length) : (Pl.pad 6 (ys.take m')).take m ++ List.replicate (6 - m) 0 = Pl.pad 6 (ys.take m) := by
  unfold Pl.pad
  rw [List.take_append_of_le_length (by rw [List.length_take]; omega), List.take_take, Nat.min_eq_left h, List.length_take, Nat.min_eq_left (by omega : m ≤ ys.length)]
/-- The pieces at f; none outside of the strokes. -/
def allX (es : List Ent) (xs : List Int) (f : Int) : List Pc := if 0 ≤ f ∧ f < (xs.length : Int) then Pl.allPs es xs f.toNat else []
set_option maxHeartbeats 4000000 in
theorem piecesAt_any (b : Nat) (es : List Ent) (u : Value) (xs : List Int) (f : Int) (w : World) (hm : MapB w b es) (hok : okD es = true) (hu : IntsAt w u xs) (hs : xs.all okS = true) (hxn : xs.length ≤ 60) :
    Calls Tryz.prog 17 #[mtV b u, .int .i64 f] w fun r w' => (∃ y, r = .returned y ∧ OwnP w' w.heap.size y (allX es xs f)) ∧ Below w.heap.size w w' := by
  unfold mtV
  by_cases hf0 : f < 0
  · rw [show allX es xs f = [] by unfold allX; rw [if_neg (by omega)]]
    obtain ⟨ua, uc, rfl, huc, _⟩ := hu.cells
    clear hm hu hs
    go_enter Tryz.func17, Tryz.ntmps17
    go_wp2
    go_ret
    exact ⟨⟨_, rfl, ownP_nil _ _⟩, below_al _ _⟩
  obtain ⟨i, rfl⟩ : ∃ i : Nat, f = (i : Int) := ⟨f.toNat, by omega⟩
  by_cases hil : xs.length ≤ i
  · rw [show allX es xs i = [] by unfold allX; rw [if_neg (by omega)]]
    obtain ⟨ua, uc, rfl, huc, _⟩ := hu.cells
    obtain ⟨n, hnn⟩ : ∃ n, n = xs.length := ⟨_, rfl⟩
    rw [← hnn] at huc hil hxn ⊢
    have hil' : (n : Int) ≤ (i : Int) := by omega
    clear hm hu hs hnn
    go_enter Tryz.func17, Tryz.ntmps17
    go_wp2
    go_ret
    exact ⟨⟨_, rfl, ownP_nil _ _⟩, below_al _ _⟩
  have hin : i < xs.length := by omega
  rw [show allX es xs i = Pl.fdPs es xs i (Pl.capN xs i) ++ [Pl.unP i] by unfold allX; rw [if_pos (by omega), Int.toNat_natCast]; rfl]
  obtain ⟨bk, o, uc, rfl, huc, hbk, hC⟩ := ints_block hu (by omega)
  obtain ⟨ys, hys⟩ : ∃ ys, ys = xs.drop i := ⟨_, rfl⟩
  obtain ⟨c0, hc0⟩ : ∃ c, c = Pl.capN xs i := ⟨_, rfl⟩
  have hysl : ys.length = xs.length - i := by rw [hys, List.length_drop]
  have hc6 : c0 ≤ 6 ∧ c0 ≤ ys.length ∧ 1 ≤ c0 ∧ c0 = Nat.min (xs.length - i) 6 := by
    refine ⟨?_, ?_, ?_, ?_⟩
    · rw [hc0]; unfold Pl.capN; omega
    · rw [hysl, hc0]; unfold Pl.capN; omega
    · rw [hc0]; unfold Pl.capN; omega
    · rw [hc0]; unfold Pl.capN; exact Nat.min_comm _ _
  obtain ⟨hc6, hcy, hc1, hcm⟩ := hc6
  have hyok : ys.all okS = true := by
    rw [List.all_eq_true]; intro x hx; rw [hys] at hx; exact List.all_eq_true.1 hs x (List.mem_of_mem_drop hx)
  have HLk : Hid (∀ m, 1 ≤ m → m ≤ c0 → keyOf Tryz.prog 73 (.agg (kyA (Pl.pad 6 (ys.take m)))) = some (KL (Pl.pad 6 (ys.take m))) ∧ Maps.has (mapD es) (KL (Pl.pad 6 (ys.take m))) = (Pl.lkP es xs i m).isSome ∧ ∀ zd, (mapD es).atKey (KL (Pl.pad 6 (ys.take m))) zd = (match Pl.lkP es xs i m with | some t => litT t | none => zd)) := by
    intro m h1 h2
    have hk := keyL_take hyok h1 (by omega) (by omega : m ≤ ys.length)
    obtain ⟨hl1, hl2⟩ := mapD_look (keyL (ys.take m)) (kyOk_key _) es
    have hk2 := kl_at (kyOk_key (ys.take m))
    rw [lastT_key hok] at hl1 hl2
    rw [hk] at hl1 hl2 hk2
    have e : Pl.lkP es xs i m = Pl.look (ys.take m) es := by unfold Pl.lkP; rw [hys]
    rw [e]
    exact ⟨hk2, hl1, hl2⟩
  have HF : Hid (∀ m, Pl.fdPs es xs i (m + 1) = match Pl.lkP es xs i (m + 1) with | some t => ((i : Int), ((m + 1 : Nat) : Int), t) :: Pl.fdPs es xs i m | none => Pl.fdPs es xs i m) := fun m => rfl
  have HFl : Hid (∀ m, (Pl.fdPs es xs i m).length ≤ m) := Pl.fdPs_len es xs i
  have HPT : Hid (∀ m m', m ≤ m' → m' ≤ c0 → (Pl.pad 6 (ys.take m')).take m ++ List.replicate (6 - m) 0 = Pl.pad 6 (ys.take m)) := fun m m' h h' => pad_take ys h (by omega) (by omega)
  have HPL : Hid (∀ m, m ≤ c0 → (Pl.pad 6 (ys.take m)).length = 6) := fun m h => Pl.pad_len (by rw [List.length_take]; omega)
  have hcs : ((ys.take 6).map (Value.int .i64)).length = Nat.min (xs.length - i) 6 := by rw [List.length_map, List.length_take, hysl]; exact Nat.min_comm _ _
  have HSP : Hid ((splice (z6.map (Value.int .i64)) 0 ((ys.take 6).map (Value.int .i64))).toArray = kyA (Pl.pad 6 (ys.take c0))) := by
    show _ = _
    rw [ky_splice]
    have : ys.take 6 = ys.take c0 := by
      rcases Nat.lt_or_ge ys.length 6 with h | h
      · rw [List.take_of_length_le (by omega), List.take_of_length_le (by rw [hcm, hysl]; show _ ≤ min _ _; omega)]
      · rw [show c0 = 6 by rw [hcm]; show min _ _ = 6; omega]
    rw [this]; rfl
  have HSrc : Hid (∀ w', Below w.heap.size w w' → ∀ j v, ((ys.take 6).map (Value.int .i64))[j]? = some v → w'.cell? ((⟨bk, o + i, none⟩ : Addr).add j) = some v) := by
    intro w' hb j v hj
    rw [List.getElem?_map] at hj
    obtain ⟨x, hx, rfl⟩ := Option.map_eq_some_iff.1 hj
    have hj6 : j < 6 := by
      rcases Nat.lt_or_ge j 6 with h' | h'
      · exact h'
      · rw [List.getElem?_eq_none (by rw [List.length_take]; omega)] at hx; cases hx
    rw [List.getElem?_take_of_lt hj6, hys, List.getElem?_drop] at hx
    rw [show (⟨bk, o + i, none⟩ : Addr).add j = ⟨bk, o + i + j, none⟩ from Go.WideShapes.add_plain .., Nat.add_assoc]
    exact (hb.cell (p := ⟨bk, o + (i + j), none⟩) hbk).trans (hC _ _ hx)
  have HOne : Hid (∀ v ∈ (ys.take 6).map (Value.int .i64), v.oneCell' = true) := by
    intro v hv
    obtain ⟨x, _, rfl⟩ := List.mem_map.1 hv
    rfl
  have HFit : Hid (0 + ((ys.take 6).map (Value.int .i64)).length ≤ (z6.map (Value.int .i64)).length) := by show _ ≤ _; rw [List.length_map, List.length_map, z6_len, List.length_take]; omega
  obtain ⟨F, hF⟩ : ∃ F : Nat → List Pc, F = fun m => Pl.fdPs es xs i m := ⟨_, rfl⟩
  obtain ⟨L, hL⟩ : ∃ L : Nat → Option ByteArray, L = fun m => Pl.lkP es xs i m := ⟨_, rfl⟩
  obtain ⟨Y, hY⟩ : ∃ Y : Nat → List Int, Y = fun m => Pl.pad 6 (ys.take m) := ⟨_, rfl⟩
  obtain ⟨cs, hcsd⟩ : ∃ cs, cs = (ys.take 6).map (Value.int .i64) := ⟨_, rfl⟩
  have HLk' : Hid (∀ m, 1 ≤ m → m ≤ c0 → keyOf Tryz.prog 73 (.agg (kyA (Y m))) = some (KL (Y m)) ∧ Maps.has (mapD es) (KL (Y m)) = (L m).isSome ∧ ∀ zd, (mapD es).atKey (KL (Y m)) zd = (match L m with | some t => litT t | none => zd)) := by rw [hY, hL]; exact HLk.out
  have HF' : Hid (∀ m, F (m + 1) = match L (m + 1) with | some t => ((i : Int), ((m + 1 : Nat) : Int), t) :: F m | none => F m) := by rw [hF, hL]; exact HF.out
  have HFl' : Hid (∀ m, (F m).length ≤ m) := by rw [hF]; exact HFl.out
  have HPT' : Hid (∀ m m', m ≤ m' → m' ≤ c0 → (Y m').take m ++ List.replicate (6 - m) 0 = Y m) := by rw [hY]; exact HPT.out
  have HPL' : Hid (∀ m, m ≤ c0 → (Y m).length = 6) := by rw [hY]; exact HPL.out
  have HF0 : Hid (F 0 = []) := by rw [hF]; rfl
  have HFc : Hid (Pl.fdPs es xs i c0 = F c0) := by rw [hF]; rfl
  rw [← hcsd] at hcs HSP HSrc HOne HFit
  rw [show kyA (Pl.pad 6 (ys.take c0)) = kyA (Y c0) by rw [hY]] at HSP
  rw [← hc0, HFc.out]
  obtain ⟨n, hnn⟩ : ∃ n, n = xs.length := ⟨_, rfl⟩
  rw [← hnn] at huc hin hcs hcm hil ⊢
  have HM := Lib.hid hm
  have hblt := hm.lt
  have HCm := Lib.hid hcm
  have HCs := Lib.hid hcs
  have HBk := Lib.hid hbk
  have hz := ky_nil
  clear hF hL hY hcsd HLk HF HFl HPT HPL hm hu hs hxn hC hys hysl hcy hyok hok hnn hc0 HFc hcm hcs hf0
  have K0 : Hid (KyB ((w.alloc (.cells #[.map (some b), .slice (some ⟨bk, o, none⟩) n uc] 48)).alloc (.cells (kyA z6) 73)) (w.heap.size + 1) z6) := by
    have := KyB.new (w.alloc (.cells #[.map (some b), .slice (some ⟨bk, o, none⟩) n uc] 48)) z6
    rwa [World.size_alloc] at this
  have M0 : Hid (((w.alloc (.cells #[.map (some b), .slice (some ⟨bk, o, none⟩) n uc] 48)).alloc (.cells (kyA z6) 73)).heap[w.heap.size]? = some (.cells #[.map (some b), .slice (some ⟨bk, o, none⟩) n uc] 48 (0, 0))) := by
    show _ = _
    rw [heap_alloc_old _ _ (by simp)]
    exact heap_alloc_new w _
  have B0 := Lib.hid (below_al2 w (.cells #[.map (some b), .slice (some ⟨bk, o, none⟩) n uc] 48) (.cells (kyA z6) 73))
  go_enter Tryz.func17, Tryz.ntmps17
  go_wp2_with fail
  have W0 : ∃ W, W = (w.alloc (.cells #[.map (some b), .slice (some ⟨bk, o, none⟩) n uc] 48)).alloc (.cells (kyA z6) 73) := ⟨_, rfl⟩
  obtain ⟨W, hW⟩ := W0
  rw [← hW] at K0 M0 B0 ⊢
  have hWs : w.heap.size + 2 ≤ W.heap.size := by rw [hW]; simp
  clear hW
  have q1 : W.cell? ⟨w.heap.size, 1, none⟩ = some (.slice (some ⟨bk, o, none⟩) n uc) := by
    unfold World.cell?; simp only [show W.heap[w.heap.size]? = _ from M0.out]; rfl
  have k1 := cell_regrown q1
  refine Mx.wp_region_mixed (Mx.ofL [(0, 0), (1, 0), (2, 1), (3, 0), (4, 0), (5, 3), (6, 0)] .done) (by kernel_rfl) (by kernel_rfl) ?_
  repeat ((first | refine Mx.mix0 rfl ?_ | refine Mx.mix1 rfl ?_); go_big_quiet_step (fail); refine wpQuiet_nil ?_)
  refine Mx.mix3 rfl ?_
  have hd : Below W.heap.size W W.drew := below_drewN (Below.refl _ _) 1
  have K1 : Hid (W.drew.heap[w.heap.size + 1]? = some (.cells (z6.map (Value.int .i64)).toArray 73 (0, 0))) := K0.out.below hd (by omega)
  have M1 : Hid (W.drew.heap[w.heap.size]? = some (.cells #[.map (some b), .slice (some ⟨bk, o, none⟩) n uc] 48 (0, 0))) := (hd.block _ (by omega)).trans M0.out
  have B1 : Hid (Below w.heap.size w W.drew) := B0.out.trans (hd.mono (by omega))
  have HS1 := Lib.hid (HSrc.out _ B1.out)
  clear K0 M0 B0 hd k1 q1 HSrc
  go_wp2_with (with_reducible (show wpList _ _ _ (_ :: _) _ _); refine wpList_copy_splice rfl (.tmp 19) (.tmp 23) 27 27 rfl 3 Tryz.underlying27 (by kernel_rfl) _ _ _ _ _ _ rfl rfl (w.heap.size + 1) 0 (z6.map (Value.int .i64)) 73 K1.out cs HCs.out (fun h0 => ⟨rfl, _, rfl, HS1.out⟩) HFit.out HOne.out (w.heap.size + 1) W.drew (Below.refl _ _) (Nat.le_refl _) ?_)
  intro w2 hg2 hb2
  have L2 : Hid (KyB w2 (w.heap.size + 1) (Y c0)) := by have h2 := hg2.out; rw [HSP.out] at h2; exact h2
  have M2 : Hid (w2.heap[w.heap.size]? = some (.cells #[.map (some b), .slice (some ⟨bk, o, none⟩) n uc] 48 (0, 0))) := (hb2.block _ (by omega)).trans M1.out
  have HB2 : Hid (Below w.heap.size w w2) := B1.out.trans (hb2.mono (by omega))
  clear hg2 hb2 K1 M1 B1 HS1 HSP HFit HOne
  refine Mx.mid_normal (fun q => by cases q) ?_
  repeat ((first | refine Mx.mix0 rfl ?_ | refine Mx.mix1 rfl ?_); go_big_quiet_step (fail); refine wpQuiet_nil ?_)
  refine Mx.mix_nil ?_
  have hcc : cs.length = c0 := by rw [HCs.out, HCm.out]
  rw [hcc]
  clear hcc HCs HCm
  go_wp2_with fail
  go_loopw [5, 7] (fun y c wr => ∃ (m m' : Nat) (ls : List Pc), c = .int .i64 m ∧ m ≤ m' ∧ m' ≤ c0 ∧ Hid (ls ++ F m = F c0) ∧ Hid (OwnP wr (w.heap.size + 2) y ls) ∧ Hid (KyB wr (w.heap.size + 1) (Y m')) ∧ Hid (wr.heap[w.heap.size]? = some (.cells #[.map (some b), .slice (some ⟨bk, o, none⟩) n uc] 48 (0, 0))) ∧ Hid (Below w.heap.size w wr)) (fun _ c _ => (intOf c).toNat)
  case atStart => exact ⟨c0, c0, [], rfl, Nat.le_refl _, Nat.le_refl _, Lib.hid (List.nil_append _), Lib.hid (ownP_nil _ _), L2, M2, HB2⟩
  case round =>
    obtain ⟨m, m', ls, rfl, hmm, hmc, HL, HO, HK, HMt, HBr⟩ := hrel
    have hll : ls.length ≤ 6 := by
      have h1 := congrArg List.length HL.out
      have h2 := HFl'.out c0
      rw [List.length_append] at h1
      omega
    cases m with
    | zero =>
      have HE : Hid (ls = F c0) := by have h1 := HL.out; rw [HF0.out, List.append_nil] at h1; exact h1
      have hs1 : w.heap.size + 2 ≤ wr.heap.size := by have := HK.out.lt; omega
      clear HL HF' HFl' HLk' HPT' HPL'
      go_wp2_with (at_builtin; refine push_pc rfl _ _ rfl (w.heap.size + 2) _ ls rfl HO.out (Pl.unP i) rfl hs1 (by omega) ?_)
      intro v' w3 hown hg _
      have O3 := Lib.hid (ownsRow_mono hown (Nat.le_add_right w.heap.size 2))
      have B3 := Lib.hid (HBr.out.grown hg (by omega) (fun j hj => by have := row_ge HO.out hj; omega))
      clear hown hg HO HK HMt HBr
      go_wp2
      go_ret
      exact ⟨⟨_, rfl, by rw [← HE.out]; exact O3.out⟩, B3.out⟩
    | succ m =>
      have HPTm := HPT'.out (m + 1) m' hmm hmc
      have hY6 := HPL'.out m' hmc
      have c0' : wr.cell? ⟨w.heap.size, 0, none⟩ = some (.map (some b)) := by
        unfold World.cell?; simp only [show wr.heap[w.heap.size]? = _ from HMt.out]; rfl
      clear c0'
      obtain ⟨dd, hdd⟩ : ∃ dd, dd = 6 - (m + 1) := ⟨_, rfl⟩
      obtain ⟨ad, hadd⟩ : ∃ ad : Addr, ad = if 6 = m + 1 then ⟨w.heap.size + 1, 0, none⟩ else ⟨w.heap.size + 1, m + 1, none⟩ := ⟨_, rfl⟩
      have hsl : (Instr.sliceAt 73 (.pointer (some ⟨w.heap.size + 1, 0, none⟩)) (some (.int .i64 ((m : Int) + 1))) none none).run Tryz.prog wr = .ok (.slice (some ad) dd dd) wr := by
        rw [hdd]
        have hal : Tryz.prog.arrayLen 73 = 6 := by kernel_rfl
        rw [run_sliceAt_array_l wr 73 ⟨w.heap.size + 1, 0, none⟩ (by kernel_rfl) .i64 ((m : Int) + 1) (by omega) (by rw [hal]; omega), hal]
        have hsz : (sizeOf (Tryz.prog.elem 73)).run Tryz.prog wr = .ok 1 wr := by kernel_rfl
        rw [hsz, hadd]
        show Result.ok (slicedAt _ ((m : Int) + 1).toNat 6 6 1) wr = _
        rw [show ((m : Int) + 1).toNat = m + 1 by omega]
        unfold slicedAt
        by_cases h6 : 6 = m + 1
        · rw [if_pos h6, if_pos h6]
        · rw [if_neg h6, if_neg h6, Nat.mul_one, show (⟨w.heap.size + 1, 0, none⟩ : Addr).add (m + 1) = ⟨w.heap.size + 1, 0 + (m + 1), none⟩ from Go.WideShapes.add_plain .., Nat.zero_add]
      have hadne : ¬ 6 - (m + 1) = 0 → ad = ⟨w.heap.size + 1, m + 1, none⟩ := fun h => by rw [hadd, if_neg (by omega)]
      have HDd := Lib.hid hdd
      clear hadd hdd
      go_wp2_with (with_reducible (show wpList _ _ _ (_ :: _) _ _); refine clear_key rfl _ rfl (w.heap.size + 1) (m + 1) _ dd ad _ hY6 (by omega) HDd.out hadne rfl HK.out ?_)
      intro w3 hK3 hg3
      have K3 : Hid (KyB w3 (w.heap.size + 1) (Y (m + 1))) := by have h2 := hK3.out; rw [show 5 - m = 6 - (m + 1) by omega, HPTm] at h2; exact h2
      have M3 : Hid (w3.heap[w.heap.size]? = some (.cells #[.map (some b), .slice (some ⟨bk, o, none⟩) n uc] 48 (0, 0))) := (hg3.block _ (by have := HK.out.lt; omega) (by intro e; injection e with e; omega)).trans HMt.out
      have O3 : Hid (OwnP w3 (w.heap.size + 2) u5 ls) := Lib.hid (HO.out.kept hg3 (by
        cases hv : u5.ownBlock with
        | none => simp
        | some j => right; intro e; injection e with e; have := row_ge HO.out hv; omega))
      have B3 : Hid (Below w.heap.size w w3) := Lib.hid (HBr.out.grown hg3 (by have := HK.out.lt; omega) (fun j hj => by injection hj with hj; omega))
      have HM3 : Hid (w3.ownsMap Tryz.prog 73 (plainElem Tryz.prog 9) b es.length (mapD es)) := MapB.below HM.out B3.out
      have c3 : w3.cell? ⟨w.heap.size, 0, none⟩ = some (.map (some b)) := by
        unfold World.cell?; simp only [show w3.heap[w.heap.size]? = _ from M3.out]; rfl
      obtain ⟨hky, hh1, hh2⟩ := HLk'.out (m + 1) (by omega) (by omega)
      have hY62 := HPL'.out (m + 1) (by omega)
      have hFm := HF'.out m
      obtain ⟨x, hx⟩ : ∃ x, x = L (m + 1) := ⟨_, rfl⟩
      rw [← hx] at hh1 hh2 hFm
      have HFm := Lib.hid hFm
      have HH1 := Lib.hid hh1
      have HH2 := Lib.hid hh2
      have HKy := Lib.hid hky
      obtain ⟨K, hK⟩ : ∃ K, K = Y (m + 1) := ⟨_, rfl⟩
      have K3' : Hid (KyB w3 (w.heap.size + 1) K) := by rw [hK]; exact K3.out
      rw [← hK] at HH1 HH2 HKy hY62
      have HKY : Hid (Y (m + 1) = K) := hK.symm
      clear hx hh1 hh2 hky hFm hK HPTm hY6 hK3 hg3 HO HK HMt HBr
      go_wp2_with (first | (at_lookup; refine wpList_lookup_own_ok _ rfl _ _ 46 rfl 73 9 lawK Tryz.underlying46 _ (zeroS _) (litT ByteArray.empty) [] (plainElem_string Tryz.underlying9 (by decide)) b es.length (mapD es) rfl HM3.out _ (KL K) rfl HKy.out ?_) | (with_reducible (show wpList _ _ _ (_ :: _) _ _); refine ky_load (w.heap.size + 1) K hY62 rfl rfl rfl K3'.out ?_))
      intro v ps hv
      have hv2 : v = .string (x.getD ByteArray.empty) := by
        rw [HH2.out] at hv
        obtain ⟨s, rfl, h1, _⟩ := plainElem_string_inv Tryz.underlying9 hv
        have h2 := congrArg Prod.fst h1
        cases x with
        | none => simp only [litT] at h2; have h2 := Lit.string.inj (DataW.lit.inj h2); exact congrArg Value.string (ByteArray.ext (Array.toList_inj.1 h2)).symm
        | some t => simp only [litT] at h2; have h2 := Lit.string.inj (DataW.lit.inj h2); exact congrArg Value.string (ByteArray.ext (Array.toList_inj.1 h2)).symm
      subst hv2
      rw [HH1.out]
      clear hv HM3 HH1 HH2 HKy c3
      cases x with
      | none =>
        have HL2 : Hid (ls ++ F m = F c0) := by have h1 := HL.out; rw [HFm.out] at h1; exact h1
        clear HL HFm
        go_wp2
        go_roundw
        case rel => exact ⟨m, m + 1, ls, by go_num, by omega, by omega, HL2, O3, K3, M3, B3⟩
        case measure => simp [intOf]
      | some t =>
        have HL2 : Hid ((ls ++ [((i : Int), ((m + 1 : Nat) : Int), t)]) ++ F m = F c0) := by have h1 := HL.out; rw [HFm.out] at h1; rw [List.append_assoc]; exact h1
        have hs1 : w.heap.size + 2 ≤ w3.heap.size := by have := K3.out.lt; omega
        clear HL HFm
        go_wp2_with (at_builtin; refine push_pc rfl _ _ rfl (w.heap.size + 2) _ ls rfl O3.out ((i : Int), ((m + 1 : Nat) : Int), t) rfl hs1 (by omega) ?_)
        intro v' w4 hown hg _
        have O4 := Lib.hid hown
        have K4 : Hid (KyB w4 (w.heap.size + 1) (Y (m + 1))) := (hg.block _ K3.out.lt (fun e => by have := row_ge O3.out e.symm; omega)).trans K3.out
        have M4 : Hid (w4.heap[w.heap.size]? = some (.cells #[.map (some b), .slice (some ⟨bk, o, none⟩) n uc] 48 (0, 0))) := (hg.block _ (by omega) (fun e => by have := row_ge O3.out e.symm; omega)).trans M3.out
        have B4 := Lib.hid (B3.out.grown hg (by omega) (fun j hj => by have := row_ge O3.out hj; omega))
        clear hown hg K3 M3 B3 O3 K3'
        go_wp2
        go_roundw
        case rel => exact ⟨m, m + 1, _, by go_num, by omega, by omega, HL2, O4, K4, M4, B4⟩
        case measure => simp [intOf]
end Go.Proofs.YtnpiphkglhcifaaGreat

namespace Go.Proofs.YtnpiphkglhcifaaGreat
set_option maxRecDepth 100000
open Go.RowKit

/-- The first piece of an own row. -/
theorem ownP_first {w : World} {base : Nat} {v : Value} {ls : List Pc} {e : Pc} (h : OwnP w base v ls) (he : ls[0]? = some e) :
    ∃ g cap n, v = .slice (some ⟨g, 0, none⟩) (n + 1) cap ∧ n + 1 ≤ cap ∧ g < w.heap.size ∧ w.cell? ⟨g, 0, none⟩ = some (.int .i64 e.1) ∧ w.cell? ⟨g, 1, none⟩ = some (.int .i64 e.2.1) ∧ w.cell? ⟨g, 2, none⟩ = some (.string e.2.2) := by
  have hl : 0 < ls.length := (List.getElem?_eq_some_iff.1 he).1
  rcases ownP_own h with ⟨h0, _⟩ | ⟨g, cap, rfl, hc, hg, h0, hr⟩
  · omega
  · have := hr.2.1 0 hl
    have he2 : ls.getD 0 pc0 = e := by simp [List.getD, he]
    dsimp only at this
    rw [he2] at this
    obtain ⟨n, hn⟩ : ∃ n, ls.length = n + 1 := ⟨ls.length - 1, by omega⟩
    exact ⟨g, cap, n, by rw [hn], by omega, hr.1, this.1, this.2.1, this.2.2⟩
/-- A matcher in a box. -/
def MtB (w : World) (g b : Nat) (u : Value) : Prop := w.heap[g]? = some (.cells #[.map (some b), u] 48 (0, 0))
theorem MtB.lt {w : World} {g b : Nat} {u : Value} (h : MtB w g b u) : g < w.heap.size := (Array.getElem?_eq_some_iff.1 h).1
theorem MtB.below {w w' : World} {g b : Nat} {u : Value} {N : Nat} (h : MtB w g b u) (hb : Below N w w') (hN : g < N) : MtB w' g b u := (hb.block g hN).trans h
theorem MtB.new (w : World) (b : Nat) (u : Value) : MtB (w.alloc (.cells #[.map (some b), u] 48)) w.heap.size b u := heap_alloc_new w _
theorem MtB.cells {w : World} {g b : Nat} {u : Value} (h : MtB w g b u) : w.cell? ⟨g, 0, none⟩ = some (.map (some b)) ∧ w.cell? ⟨g, 1, none⟩ = some u := by
  unfold World.cell?; simp only [show w.heap[g]? = _ from h]; exact ⟨rfl, rfl⟩
theorem mt_box (w1 : World) (mv u : Value) : Below w1.heap.size w1 ((w1.alloc (.cells #[.map none, .slice none 0 0] 48)).setRow w1.heap.size #[mv, u]) ∧
    ((w1.alloc (.cells #[.map none, .slice none 0 0] 48)).setRow w1.heap.size #[mv, u]).heap[w1.heap.size]? = some (.cells #[mv, u] 48 (0, 0)) ∧
    (w1.alloc (.cells #[.map none, .slice none 0 0] 48)).heap[w1.heap.size]? = some (.cells #[.map none, .slice none 0 0] 48 (0, 0)) :=
  ⟨below_setRow (below_al w1 _) (Nat.le_refl _) _, setRow_heap _ _ _ #[mv, u] _ _ (heap_alloc_new w1 _), heap_alloc_new w1 _⟩
theorem allX_in {es : List Ent} {xs : List Int} {i : Nat} (h : i < xs.length) : allX es xs (i : Int) = Pl.allPs es xs i := by unfold allX; rw [if_pos (by omega), Int.toNat_natCast]
theorem allX_out {es : List Ent} {xs : List Int} {f : Int} (h : ¬ (0 ≤ f ∧ f < (xs.length : Int))) : allX es xs f = [] := by unfold allX; rw [if_neg h]
theorem sgB_parts {es : List Ent} {xs : List Int} (h : sgB es xs = true) : okD es = true ∧ xs.length ≤ 60 ∧ xs.all okS = true := by
  unfold sgB at h
  rw [Bool.and_eq_true] at h
  exact ⟨h.1, okS60_yes h.2⟩
set_option maxHeartbeats 2000000 in
theorem MatchAt_any (v : Value) (es : List Ent) (u : Value) (xs : List Int) (f : Int) (w : World) (h : EntsAt w v es) (hu : IntsAt w u xs) (hn : es.length ≤ 2097152) (hx : ∀ e ∈ es, entOk e) (hxn : xs.length ≤ 2097152) :
    Calls Tryz.prog 10 #[dV v, u, .int .i64 f] w fun r w' => r = mtE es xs f ∧ Below w.heap.size w w' := by
  have cm := fun w' hb => matcherOf_any v es u xs w' (h.below (w' := w') hb) (hu.below hb) hn hx hxn
  have CP := Lib.hid (fun b w' hb hm hok hs h60 => piecesAt_any b es u xs f w' hm hok (hu.below (w := w) hb) hs h60)
  have HNo := Lib.hid (fun h => mtE_no (es := es) (xs := xs) (f := f) h)
  have HYes := Lib.hid (fun h => mtE_yes (es := es) (xs := xs) (f := f) h)
  have HB : Hid (mtB es xs f = (sgB es xs && (decide (0 ≤ f) && decide (f ≤ (xs.length : Int) - 1)))) := rfl
  have HP := Lib.hid (fun (h : sgB es xs = true) => sgB_parts h)
  have P1 : ∀ v : Value, PcB ((w.alloc (.cells #[v] 26)).alloc (.cells #[.int .i64 0, .int .i64 0, .string ByteArray.empty] 37)) (w.heap.size + 1) pc0 := fun v => by
    have := PcB.new (w.alloc (.cells #[v] 26)) pc0
    rwa [World.size_alloc] at this
  obtain ⟨a, cap, rfl, hcap, _⟩ := h.cells
  obtain ⟨ua, uc, rfl, huc, _⟩ := hu.cells
  obtain ⟨n, hnn⟩ : ∃ n, n = xs.length := ⟨_, rfl⟩
  obtain ⟨dn, hdn⟩ : ∃ n, n = es.length := ⟨_, rfl⟩
  have HIn := Lib.hid (fun (i : Nat) (hi : i < xs.length) => allX_in (es := es) hi)
  have HOut := Lib.hid (fun (hi : ¬ (0 ≤ f ∧ f < (xs.length : Int))) => allX_out (es := es) hi)
  have HHd := Lib.hid (fun (i : Nat) => Pl.allPs_head es xs i)
  rw [← hnn] at cm CP HB huc HP HIn HOut ⊢
  unfold dV at cm ⊢
  rw [← hdn] at cm hcap ⊢
  have P2 := Lib.hid (P1 (.slice a dn cap))
  have BX := Lib.hid (below_al2 w (.cells #[.slice a dn cap] 26) (.cells #[.int .i64 0, .int .i64 0, .string ByteArray.empty] 37))
  clear P1 h hu hnn hdn hx hn
  obtain ⟨bS, hbS⟩ : ∃ b, b = sgB es xs := ⟨_, rfl⟩
  rw [← hbS] at HB HP
  simp only [← hbS] at cm
  have CM := Lib.hid cm
  clear cm hbS
  go_enter Tryz.func10, Tryz.ntmps10
  cases bS
  · have HF := Lib.hid (HNo.out (by rw [HB.out]; rfl))
    clear HYes HNo HB HP CP HIn HOut HHd
    go_wp2_with fail
    refine (CM.out _ BX.out).mono ?_
    rintro r w1 ⟨⟨mv, rfl, h1, _⟩, hb⟩
    have P3 := Lib.hid (P2.out.below hb P2.out.lt)
    have B1 := Lib.hid (below_step BX.out hb)
    obtain ⟨hm1, hm2, hm3⟩ := mt_box w1 mv (.slice ua n uc)
    have P4 : Hid (PcB ((w1.alloc (.cells #[.map none, .slice none 0 0] 48)).setRow w1.heap.size #[mv, .slice ua n uc]) (w.heap.size + 1) pc0) := P3.out.below hm1 P3.out.lt
    have B2 := Lib.hid (below_step B1.out hm1)
    have h4 := Lib.hid (P4.out.row pc0)
    have hb4 := Lib.hid (below_setRow B2.out (Nat.le_succ _) #[.int .i64 pc0.1, .int .i64 pc0.2.1, .string pc0.2.2])
    have HM3 := Lib.hid hm3
    clear hb CM P2 P3 hm1 hm2 hm3
    go_wp2_with (with_reducible (show wpList _ _ _ (_ :: _) _ _); first | refine mt_store rfl _ _ rfl w1.heap.size mv (.slice ua n uc) _ _ h1 rfl rfl rfl HM3.out ?_ | refine pc_store rfl _ _ rfl (w.heap.size + 1) pc0 pc0 rfl rfl P4.out ?_)
    (try simp only [Exit.inBlock, Exit.then])
    refine bodyPost_ret (results_pc2 rfl _ _ (w.heap.size + 1) pc0 rfl h4.out) rfl ?_
    exact ⟨HF.out.symm, hb4.out⟩
  · obtain ⟨hok, h60, hst⟩ := HP.out (by first | rfl | trivial)
    have CP1 := Lib.hid (fun b w' hb hm => CP.out b w' hb hm hok hst h60)
    clear CP HP
    by_cases hin : 0 ≤ f ∧ f < (n : Int)
    · have HF := Lib.hid (HYes.out (by rw [HB.out, decide_eq_true hin.1, decide_eq_true (by omega)]; rfl))
      obtain ⟨i, rfl⟩ : ∃ i : Nat, f = (i : Int) := ⟨f.toNat, by omega⟩
      have hA := HIn.out i (by omega)
      have hHd := HHd.out i
      rw [Int.toNat_natCast] at HF
      rw [← hA] at hHd
      obtain ⟨R, hR⟩ : ∃ R, R = Pl.matP es xs i := ⟨_, rfl⟩
      rw [← hR] at HF hHd
      have HHd1 := Lib.hid hHd
      clear hR hA hHd HIn HOut HHd HNo HYes HB
      go_wp2_with fail
      refine (CM.out _ BX.out).mono ?_
      rintro r w1 ⟨⟨mv, rfl, h1, hm⟩, hb⟩
      obtain ⟨b, rfl, hbb, hMb⟩ := hm (by first | rfl | trivial)
      have P3 := Lib.hid (P2.out.below hb P2.out.lt)
      have B1 := Lib.hid (below_step BX.out hb)
      obtain ⟨hm1, hm2, hm3⟩ := mt_box w1 (.map (some b)) (.slice ua n uc)
      have P4 : Hid (PcB ((w1.alloc (.cells #[.map none, .slice none 0 0] 48)).setRow w1.heap.size #[.map (some b), .slice ua n uc]) (w.heap.size + 1) pc0) := P3.out.below hm1 P3.out.lt
      have B2 := Lib.hid (below_step B1.out hm1)
      have M2 := Lib.hid (show MapB ((w1.alloc (.cells #[.map none, .slice none 0 0] 48)).setRow w1.heap.size #[.map (some b), .slice ua n uc]) b es from MapB.below hMb hm1)
      have T2 : Hid (MtB ((w1.alloc (.cells #[.map none, .slice none 0 0] 48)).setRow w1.heap.size #[.map (some b), .slice ua n uc]) w1.heap.size b (.slice ua n uc)) := hm2
      have HM3 := Lib.hid hm3
      clear hb CM P2 P3 hm1 hm2 hm3 hm hMb hbb
      obtain ⟨t0, t1⟩ := T2.out.cells
      go_wp2_with (with_reducible (show wpList _ _ _ (_ :: _) _ _); refine mt_store rfl _ _ rfl w1.heap.size (.map (some b)) (.slice ua n uc) _ _ rfl rfl rfl rfl HM3.out ?_)
      refine (CP1.out b _ B2.out M2.out).mono ?_
      rintro r w3 ⟨⟨y, rfl, hy⟩, hb⟩
      obtain ⟨g, cp, k, rfl, hcp, hgl, g0, g1, g2⟩ := ownP_first hy HHd1.out
      have P5 := Lib.hid (P4.out.below hb P4.out.lt)
      have B3 := Lib.hid (below_step B2.out hb)
      have h4 := Lib.hid (P5.out.row R)
      have hb4 := Lib.hid (below_setRow B3.out (Nat.le_succ _) #[.int .i64 R.1, .int .i64 R.2.1, .string R.2.2])
      clear hb hy P4 B2 M2 T2 HM3 t0 t1 CP1
      go_wp2_with (with_reducible (show wpList _ _ _ (_ :: _) _ _); refine pc_store rfl _ _ rfl (w.heap.size + 1) R pc0 rfl rfl P5.out ?_)
      (try simp only [Exit.inBlock, Exit.then])
      refine bodyPost_ret (results_pc2 rfl _ _ (w.heap.size + 1) R rfl h4.out) rfl ?_
      exact ⟨HF.out.symm, hb4.out⟩
    · have HF := Lib.hid (HNo.out (by rw [HB.out, Bool.and_eq_false_iff]; right; rw [Bool.and_eq_false_iff, decide_eq_false_iff_not, decide_eq_false_iff_not]; omega))
      have hA := HOut.out hin
      have CP2 : Hid (∀ b w', Below w.heap.size w w' → MapB w' b es → Calls Tryz.prog 17 #[mtV b (.slice ua n uc), .int .i64 f] w' fun r w'' => (∃ y, r = .returned y ∧ OwnP w'' w'.heap.size y []) ∧ Below w'.heap.size w' w'') := by rw [← hA]; exact CP1.out
      clear hA HIn HOut HHd HNo HYes HB CP1
      go_wp2_with fail
      refine (CM.out _ BX.out).mono ?_
      rintro r w1 ⟨⟨mv, rfl, h1, hm⟩, hb⟩
      obtain ⟨b, rfl, hbb, hMb⟩ := hm (by first | rfl | trivial)
      have P3 := Lib.hid (P2.out.below hb P2.out.lt)
      have B1 := Lib.hid (below_step BX.out hb)
      obtain ⟨hm1, hm2, hm3⟩ := mt_box w1 (.map (some b)) (.slice ua n uc)
      have P4 : Hid (PcB ((w1.alloc (.cells #[.map none, .slice none 0 0] 48)).setRow w1.heap.size #[.map (some b), .slice ua n uc]) (w.heap.size + 1) pc0) := P3.out.below hm1 P3.out.lt
      have B2 := Lib.hid (below_step B1.out hm1)
      have M2 := Lib.hid (show MapB ((w1.alloc (.cells #[.map none, .slice none 0 0] 48)).setRow w1.heap.size #[.map (some b), .slice ua n uc]) b es from MapB.below hMb hm1)
      have T2 : Hid (MtB ((w1.alloc (.cells #[.map none, .slice none 0 0] 48)).setRow w1.heap.size #[.map (some b), .slice ua n uc]) w1.heap.size b (.slice ua n uc)) := hm2
      have HM3 := Lib.hid hm3
      clear hb CM P2 P3 hm1 hm2 hm3 hm hMb hbb
      obtain ⟨t0, t1⟩ := T2.out.cells
      go_wp2_with (with_reducible (show wpList _ _ _ (_ :: _) _ _); refine mt_store rfl _ _ rfl w1.heap.size (.map (some b)) (.slice ua n uc) _ _ rfl rfl rfl rfl HM3.out ?_)
      refine (CP2.out b _ B2.out M2.out).mono ?_
      rintro r w3 ⟨⟨y, rfl, hy⟩, hb⟩
      obtain ⟨ya, yc, rfl⟩ : ∃ a c, y = .slice a 0 c := by
        rcases ownP_own hy with ⟨_, a, c, hh⟩ | ⟨_, _, _, _, _, h0, _⟩
        · exact ⟨a, c, hh⟩
        · exact absurd h0 (Nat.lt_irrefl _)
      have P5 := Lib.hid (P4.out.below hb P4.out.lt)
      have B3 := Lib.hid (below_step B2.out hb)
      have h4 := Lib.hid (P5.out.row pc0)
      have hb4 := Lib.hid (below_setRow B3.out (Nat.le_succ _) #[.int .i64 pc0.1, .int .i64 pc0.2.1, .string pc0.2.2])
      clear hb hy P4 B2 M2 T2 HM3 t0 t1 CP2
      go_wp2_with (with_reducible (show wpList _ _ _ (_ :: _) _ _); refine pc_store rfl _ _ rfl (w.heap.size + 1) pc0 pc0 rfl rfl P5.out ?_)
      (try simp only [Exit.inBlock, Exit.then])
      refine bodyPost_ret (results_pc2 rfl _ _ (w.heap.size + 1) pc0 rfl h4.out) rfl ?_
      exact ⟨HF.out.symm, hb4.out⟩
theorem push_pcN {ops : Array Oper} {rest : List Oper} {o : Oper} {a : Act} {w : World} {Q : Exit → Act → World → Prop}
    (hgd : o.guard = none) (p q : Operand) (ho : o.op = .call { callee := .builtin .append, args := #[p, q], argTypes := #[30, 30] }) (base : Nat) (v : Value) (ls : List Pc) (hs : a.eval p = v) (hown : OwnP w base v ls)
    (e : Pc) (N : Nat) (hN : w.heap.size = N) (hq : a.eval q = .slice (some ⟨N, 0, none⟩) 1 1) (hb : base ≤ N) (h1 : ls.length ≤ 4194304)
    (h : ∀ v' w', OwnP w' base v' (ls ++ [e]) → w.grownBy w' v.ownBlock → wpList Tryz.prog ops Q rest (a.put o.dst v') w') : wpList Tryz.prog ops Q (o :: rest) a (w.alloc (.cells #[.int .i64 e.1, .int .i64 e.2.1, .string e.2.2] 37)) := by
  subst hN
  exact push_pc hgd p q ho base v ls hs hown e hq hb h1 fun v' w' h2 h3 _ => h v' w' h2 h3
theorem ownP_lt {w : World} {base : Nat} {v : Value} {ls : List Pc} (h : OwnP w base v ls) {j : Nat} (hj : v.ownBlock = some j) : j < w.heap.size := by
  rcases h.2 with ⟨rfl, _⟩ | ⟨g, cap, cur, rfl, _, hg, _⟩
  · simp [Value.ownBlock] at hj
  · have : g = j := by simpa [Value.ownBlock] using hj
    rw [← this]; exact (Array.getElem?_eq_some_iff.1 hg).1
set_option maxHeartbeats 2000000 in
theorem Segment_any (v : Value) (es : List Ent) (u : Value) (xs : List Int) (w : World) (h : EntsAt w v es) (hu : IntsAt w u xs) (hn : es.length ≤ 2097152) (hx : ∀ e ∈ es, entOk e) (hxn : xs.length ≤ 2097152) :
    Calls Tryz.prog 6 #[dV v, u] w fun r w' => (∃ y, r = .returned (.tuple #[y, .bool (sgB es xs)]) ∧ OwnP w' w.heap.size y (sgL es xs)) ∧ Below w.heap.size w w' := by
  have cm := fun w' hb => matcherOf_any v es u xs w' (h.below (w' := w') hb) (hu.below hb) hn hx hxn
  have HL : Hid (sgL es xs = if sgB es xs = true then Pl.segP es xs 0 else []) := rfl
  have HP := Lib.hid (fun (h : sgB es xs = true) => sgB_parts h)
  have CP := Lib.hid (fun b (i : Nat) w' hb hm hok hs h60 (hi : i < xs.length) => (allX_in (es := es) hi) ▸ piecesAt_any b es u xs (i : Int) w' hm hok (hu.below (w := w) hb) hs h60)
  obtain ⟨a, cap, rfl, hcap, _⟩ := h.cells
  obtain ⟨ua, uc, rfl, huc, _⟩ := hu.cells
  obtain ⟨n, hnn⟩ : ∃ n, n = xs.length := ⟨_, rfl⟩
  obtain ⟨dn, hdn⟩ : ∃ n, n = es.length := ⟨_, rfl⟩
  have HNext := Lib.hid (fun i (hi : i < xs.length) => Pl.segP_next (es := es) hi)
  have HEnd := Lib.hid (fun i (hi : ¬ i < xs.length) => Pl.segP_end (es := es) hi)
  have HCnt := Lib.hid (fun i (hi : i < xs.length) => Pl.cntP_ok (es := es) hi)
  have HHd := Lib.hid (fun (i : Nat) => Pl.allPs_head es xs i)
  rw [← hnn] at cm huc HP CP HNext HEnd HCnt hxn ⊢
  unfold dV at cm ⊢
  rw [← hdn] at cm hcap ⊢
  have BX := Lib.hid (below_al w (.cells #[.slice a dn cap] 26))
  clear h hu hnn hdn hx hn
  obtain ⟨bS, hbS⟩ : ∃ b, b = sgB es xs := ⟨_, rfl⟩
  obtain ⟨L, hL⟩ : ∃ b, b = sgL es xs := ⟨_, rfl⟩
  rw [← hbS] at HP HL ⊢
  rw [← hL] at HL ⊢
  simp only [← hbS] at cm
  have CM := Lib.hid cm
  clear cm hbS hL
  go_enter Tryz.func6, Tryz.ntmps6
  cases bS
  · obtain rfl : L = [] := HL.out
    clear HP CP HNext HEnd HCnt HHd HL
    go_wp2_with fail
    refine (CM.out _ BX.out).mono ?_
    rintro r w1 ⟨⟨mv, rfl, h1, _⟩, hb⟩
    have B1 := Lib.hid (below_step BX.out hb)
    obtain ⟨hm1, _, hm3⟩ := mt_box w1 mv (.slice ua n uc)
    have B2 := Lib.hid (below_step B1.out hm1)
    have HM3 := Lib.hid hm3
    have HNil := fun W => ownP_nil W w.heap.size
    have HNil := Lib.hid HNil
    clear hb CM hm1 hm3
    go_wp2_with (with_reducible (show wpList _ _ _ (_ :: _) _ _); refine mt_store rfl _ _ rfl w1.heap.size mv (.slice ua n uc) _ _ h1 rfl rfl rfl HM3.out ?_)
    go_ret2
    exact ⟨⟨_, rfl, HNil.out _⟩, B2.out⟩
  · obtain ⟨hok, h60, hst⟩ := HP.out (by first | rfl | trivial)
    obtain rfl : L = Pl.segP es xs 0 := HL.out
    obtain ⟨M, hM⟩ : ∃ M : Nat → Pc, M = fun i => Pl.matP es xs i := ⟨_, rfl⟩
    obtain ⟨C, hC⟩ : ∃ C : Nat → Nat, C = fun i => Pl.cntP es xs i := ⟨_, rfl⟩
    obtain ⟨S, hS⟩ : ∃ S : Nat → List Pc, S = fun i => Pl.segP es xs i := ⟨_, rfl⟩
    obtain ⟨A, hA⟩ : ∃ A : Nat → List Pc, A = fun i => Pl.allPs es xs i := ⟨_, rfl⟩
    have CP1 : Hid (∀ b i w', Below w.heap.size w w' → MapB w' b es → i < n → Calls Tryz.prog 17 #[mtV b (.slice ua n uc), .int .i64 (i : Int)] w' fun r w'' => (∃ y, r = .returned y ∧ OwnP w'' w'.heap.size y (A i)) ∧ Below w'.heap.size w' w'') := by rw [hA]; exact fun b i w' hb hm hi => CP.out b i w' hb hm hok hst h60 hi
    have HNx : Hid (∀ i, i < n → S i = M i :: S (i + C i)) := by rw [hM, hC, hS]; exact HNext.out
    have HEn : Hid (∀ i, ¬ i < n → S i = []) := by rw [hS]; exact HEnd.out
    have HCn : Hid (∀ i, i < n → (M i).2.1 = (C i : Int) ∧ 1 ≤ C i ∧ C i ≤ 6 ∧ i + C i ≤ n) := by rw [hM, hC]; exact fun i hi => ⟨(HCnt.out i hi).1, (HCnt.out i hi).2.1, (HCnt.out i hi).2.2.1, (HCnt.out i hi).2.2.2.1⟩
    have HAh : Hid (∀ i, (A i)[0]? = some (M i)) := by rw [hA, hM]; exact HHd.out
    have HS0 : Hid (Pl.segP es xs 0 = S 0) := by rw [hS]; rfl
    rw [HS0.out]
    clear hM hC hS hA CP HNext HEnd HCnt HHd HS0 HP HL hok hst
    go_wp2_with fail
    refine (CM.out _ BX.out).mono ?_
    rintro r w1 ⟨⟨mv, rfl, h1, hm⟩, hb⟩
    obtain ⟨b, rfl, hbb, hMb⟩ := hm (by first | rfl | trivial)
    have B1 := Lib.hid (below_step BX.out hb)
    obtain ⟨hm1, hm2, hm3⟩ := mt_box w1 (.map (some b)) (.slice ua n uc)
    have B2 := Lib.hid (below_step B1.out hm1)
    have M2 := Lib.hid (show MapB ((w1.alloc (.cells #[.map none, .slice none 0 0] 48)).setRow w1.heap.size #[.map (some b), .slice ua n uc]) b es from MapB.below hMb hm1)
    have T2 : Hid (MtB ((w1.alloc (.cells #[.map none, .slice none 0 0] 48)).setRow w1.heap.size #[.map (some b), .slice ua n uc]) w1.heap.size b (.slice ua n uc)) := hm2
    have HM3 := Lib.hid hm3
    have hw1 : w.heap.size + 1 ≤ w1.heap.size := by have := hb.size; simp at this; omega
    have hbl : b < w1.heap.size := hMb.lt
    clear hb CM hm1 hm2 hm3 hm hMb hbb
    go_wp2_with (with_reducible (show wpList _ _ _ (_ :: _) _ _); refine mt_store rfl _ _ rfl w1.heap.size (.map (some b)) (.slice ua n uc) _ _ rfl rfl rfl rfl HM3.out ?_)
    go_loopw [8, 9] (fun y i wr => ∃ (k : Nat) (ls : List Pc), i = .int .i64 k ∧ k ≤ n ∧ ls.length ≤ k ∧ Hid (ls ++ S k = S 0) ∧ Hid (OwnP wr (w1.heap.size + 1) y ls) ∧ Hid (MtB wr w1.heap.size b (.slice ua n uc)) ∧ Hid (MapB wr b es) ∧ Hid (Below w.heap.size w wr)) (fun _ i _ => n - (intOf i).toNat)
    case atStart => exact ⟨0, [], rfl, Nat.zero_le _, Nat.zero_le _, Lib.hid (List.nil_append _), Lib.hid (ownP_nil _ _), T2, M2, B2⟩
    case round =>
      obtain ⟨k, ls, rfl, hk, hll, HLs, HO, HT, HMp, HBr⟩ := hrel
      by_cases hlt : k < n
      · have CP2 := Lib.hid (CP1.out b k wr HBr.out HMp.out hlt)
        obtain ⟨c1, c2, c3, c4⟩ := HCn.out k hlt
        have hhd := HAh.out k
        have HL2 : Hid ((ls ++ [M k]) ++ S (k + C k) = S 0) := by rw [List.append_assoc, List.singleton_append, ← HNx.out k hlt]; exact HLs.out
        obtain ⟨e, he⟩ : ∃ e, e = M k := ⟨_, rfl⟩
        obtain ⟨c, hc⟩ : ∃ c, c = C k := ⟨_, rfl⟩
        rw [← he] at c1 HL2 hhd
        rw [← hc] at c1 c2 c3 c4 HL2
        have C1 := Lib.hid c1
        have HHd1 := Lib.hid hhd
        obtain ⟨t0, t1⟩ := HT.out.cells
        clear he hc HLs CP1 HNx HEn HCn c1 hhd HAh T2 M2 B2 B1 BX HM3
        go_wp2_with fail
        refine CP2.out.mono ?_
        rintro r w3 ⟨⟨y, rfl, hy⟩, hb⟩
        obtain ⟨g, cp, q, rfl, hcp, hgl, g0, g1, g2⟩ := ownP_first hy HHd1.out
        have ho := below_al w3 (.cells #[.int .i64 e.1, .int .i64 e.2.1, .string e.2.2] 37)
        have hb4 : Below wr.heap.size wr (w3.alloc (.cells #[.int .i64 e.1, .int .i64 e.2.1, .string e.2.2] 37)) := below_step hb ho
        have O4 := Lib.hid (HO.out.below' hb4)
        have T4 := Lib.hid (HT.out.below hb4 HT.out.lt)
        have P4 := Lib.hid (PcB.new w3 e)
        have B4 := Lib.hid (below_step HBr.out hb4)
        have M4 := Lib.hid (show MapB (w3.alloc (.cells #[.int .i64 e.1, .int .i64 e.2.1, .string e.2.2] 37)) b es from MapB.below HMp.out hb4)
        have hol : ∀ j, Value.ownBlock u8 = some j → j < w3.heap.size := fun j hj => Nat.lt_of_lt_of_le (ownP_lt HO.out hj) hb.size
        have HOl := Lib.hid hol
        have hs3 : w1.heap.size + 1 ≤ w3.heap.size := by have := HT.out.lt; have := hb.size; omega
        have HN4 := Lib.hid (World.size_alloc w3 (.cells #[.int .i64 e.1, .int .i64 e.2.1, .string e.2.2] 37))
        have hs4 : w1.heap.size + 1 ≤ w3.heap.size + 1 := by omega
        clear hb hb4 ho hy HO HT HMp HBr CP2 t0 t1 hol
        go_wp2_with (at_builtin; refine push_pcN rfl _ _ rfl (w1.heap.size + 1) _ ls rfl O4.out e (w3.heap.size + 1) HN4.out rfl hs4 (by omega) ?_)
        intro v' w5 hown hg
        have P5 : Hid (PcB w5 w3.heap.size e) := Lib.hid ((hg.block _ (by rw [World.size_alloc]; omega) (fun e => by have := HOl.out _ e.symm; omega)).trans P4.out)
        have T5 : Hid (MtB w5 w1.heap.size b (.slice ua n uc)) := Lib.hid ((hg.block _ T4.out.lt (fun e => by have := row_ge O4.out e.symm; omega)).trans T4.out)
        have M5 : Hid (MapB w5 b es) := Lib.hid (World.ownsMap.kept M4.out hg (fun e => by have := row_ge O4.out e.symm; omega))
        have B5 := Lib.hid (B4.out.grown hg (by rw [World.size_alloc]; omega) (fun j hj => by have := row_ge O4.out hj; omega))
        have O5 := Lib.hid hown
        obtain ⟨_, p1, _⟩ := P5.out.cells
        rw [C1.out] at p1
        clear hown hg B4 O4 T4 M4 P4 P5 HOl
        go_wp2
        go_roundw
        case rel => exact ⟨k + c, ls ++ [e], by go_num, by omega, by rw [List.length_append, List.length_singleton]; omega, HL2, O5, T5, M5, B5⟩
        case measure => simp [intOf]; omega
      · have HF : Hid (ls = S 0) := by have := HLs.out; rw [HEn.out k hlt, List.append_nil] at this; exact this
        have O2 := Lib.hid (ownsRow_mono HO.out (by omega : w.heap.size ≤ w1.heap.size + 1))
        clear HLs CP1 HNx HEn HCn HAh T2 M2 B2 B1 BX HM3
        go_wp2
        go_ret2
        exact ⟨⟨_, rfl, by rw [← HF.out]; exact O2.out⟩, HBr.out⟩
theorem sgL_len (es : List Ent) (xs : List Int) : (sgL es xs).length ≤ 60 := by
  unfold sgL
  split
  · rename_i h
    have h1 := (sgB_parts h).2.1
    have h2 := Pl.segP_len es xs 0
    omega
  · exact Nat.zero_le _
end Go.Proofs.YtnpiphkglhcifaaGreat

namespace Go.Proofs.YtnpiphkglhcifaaGreat
set_option maxRecDepth 100000
open Go.RowKit

/-- Two pieces compared part for part. -/
def eqPB (e e' : Pc) : Bool := e.1 == e'.1 && (e.2.1 == e'.2.1 && e.2.2.toList == e'.2.2.toList)
theorem eqPB_iff (e e' : Pc) : eqPB e e' = true ↔ e = e' := by
  obtain ⟨f, c, t⟩ := e
  obtain ⟨f', c', t'⟩ := e'
  unfold eqPB
  simp only [Bool.and_eq_true, beq_iff_eq]
  constructor
  · rintro ⟨rfl, rfl, h⟩
    rw [Lib.toList_data, Lib.toList_data] at h
    rw [show t = t' from ByteArray.ext (Array.toList_inj.1 h)]
  · intro h
    injection h with h1 h2
    injection h2 with h2 h3
    exact ⟨h1, h2, by rw [h3]⟩
theorem fields_pc : (Tryz.prog.fieldsOf 37).toList.map (fun f => (f.name, f.type, f.offset)) = [("From", 3, 0), ("Count", 3, 1), ("Text", 9, 2)] := by kernel_rfl
set_option maxRecDepth 100000 in
theorem eqlPc (e e' : Pc) (w : World) : (binOp .eql 37 (pcV e) (pcV e')).run Tryz.prog w = .ok (.bool (eqPB e e')) w := by
  obtain ⟨f, c, t⟩ := e
  obtain ⟨f', c', t'⟩ := e'
  have h := fields_pc
  obtain ⟨fs, hfs⟩ : ∃ fs, fs = (Tryz.prog.fieldsOf 37).toList := ⟨_, rfl⟩
  rw [← hfs] at h
  match fs, h with
  | [f0, f1, f2], h =>
    simp at h
    obtain ⟨⟨a0, a1, a2⟩, ⟨b0, b1, b2⟩, c0, c1, c2⟩ := h
    rw [run_eql_struct, run_equalIn_agg _ _ _ _ _ (by kernel_rfl) (by kernel_rfl), ← hfs]
    have p0 : ∀ (x y : Int) (z : ByteArray) w, (part 3 #[.int .i64 x, .int .i64 y, .string z] 0).run Tryz.prog w = .ok (.int .i64 x) w := fun x y z w => by rfl
    have p1 : ∀ (x y : Int) (z : ByteArray) w, (part 3 #[.int .i64 x, .int .i64 y, .string z] 1).run Tryz.prog w = .ok (.int .i64 y) w := fun x y z w => by rfl
    have p2 : ∀ (x y : Int) (z : ByteArray) w, (part 9 #[.int .i64 x, .int .i64 y, .string z] 2).run Tryz.prog w = .ok (.string z) w := fun x y z w => by rfl
    unfold eqPB
    by_cases h1 : f = f' <;> by_cases h2 : c = c' <;> by_cases h3 : t.toList = t'.toList <;>
      simp [Op.eqFields, a0, a1, a2, b0, b1, b2, c0, c1, c2, p0, p1, p2, h1, h2, h3, run_equalIn_int _ _ _ _ _ _ _ Tryz.underlying3, run_equalIn_string _ _ _ _ _ Tryz.underlying9]
theorem below_drewP {B : Nat} {a w : World} (h : Below B a w) (n : Nat) : Below B a (w.drewN n) := h.trans ⟨rfl, rfl, rfl, Nat.le_refl _, fun _ _ => rfl⟩
theorem pc_cells {w : World} {v : Value} {ls : List Pc} (h : PcsAt w v ls) : ∃ a cap, v = .slice a ls.length cap ∧ ls.length ≤ cap ∧ ∀ w', Below w.heap.size w w' → ∀ (j : Nat) e, ls[j]? = some e → ∃ bk o, a = some ⟨bk, o, none⟩ ∧ w'.cell? ⟨bk, o + j * 3, none⟩ = some (.int .i64 e.1) ∧ w'.cell? ⟨bk, o + j * 3 + 1, none⟩ = some (.int .i64 e.2.1) ∧ w'.cell? ⟨bk, o + j * 3 + 2, none⟩ = some (.string e.2.2) := by
  obtain ⟨a, cap, rfl, hcap, hl⟩ := h
  refine ⟨a, cap, rfl, hcap, fun w' hb j e he => ?_⟩
  rcases hl with rfl | ⟨bk, o, ha, hk, h⟩
  · simp at he
  · obtain ⟨g0, g1, g2⟩ := h j e he
    exact ⟨bk, o, ha, (hb.cell (p := ⟨bk, o + j * 3, none⟩) hk).trans g0, (hb.cell (p := ⟨bk, o + j * 3 + 1, none⟩) hk).trans g1, (hb.cell (p := ⟨bk, o + j * 3 + 2, none⟩) hk).trans g2⟩
set_option maxHeartbeats 2000000 in
theorem IndexPc_any (v : Value) (ls : List Pc) (e : Pc) (w : World) (h : PcsAt w v ls) (hn : ls.length ≤ 2097152) :
    Calls Tryz.prog 36 #[v, pcV e] w fun r w' => (∃ i : Int, r = .returned (.int .i64 i) ∧ (0 ≤ i ↔ e ∈ ls)) ∧ Below w.heap.size w w' := by
  obtain ⟨a, cap, rfl, hcap, hC⟩ := pc_cells h
  have HM : Hid (∀ k : Nat, (e ∉ ls.take k) → ∀ x, ls[k]? = some x → eqPB e x = false → e ∉ ls.take (k + 1)) := by
    intro k hk x hx hne hm
    rw [List.take_add_one, hx, List.mem_append] at hm
    rcases hm with hm | hm
    · exact hk hm
    · simp at hm
      rw [← hm] at hne
      have := (eqPB_iff e e).2 rfl
      rw [this] at hne; cases hne
  have HY : Hid (∀ (k : Nat) (x : Pc), ls[k]? = some x → eqPB e x = true → e ∈ ls) := fun k x hx h => by rw [(eqPB_iff e x).1 h]; exact List.mem_of_getElem? hx
  obtain ⟨n, hnn⟩ : ∃ n, n = ls.length := ⟨_, rfl⟩
  have HE : Hid (e ∉ ls.take n → e ∉ ls) := by intro h; rw [hnn, List.take_length] at h; exact h
  rw [← hnn] at hn hcap ⊢
  have HN := Lib.hid hnn
  have HC := Lib.hid hC
  have P0 := Lib.hid (PcB.new w e)
  have B0 := Lib.hid (below_al w (.cells #[.int .i64 e.1, .int .i64 e.2.1, .string e.2.2] 37))
  have HMem := Lib.hid (fun (i : Int) => show (0 ≤ i ↔ e ∈ ls) ↔ (0 ≤ i ↔ e ∈ ls) from Iff.rfl)
  obtain ⟨Q, hQ⟩ : ∃ Q : Prop, Q = (e ∈ ls) := ⟨_, rfl⟩
  obtain ⟨Z, hZ⟩ : ∃ Z : Nat → Prop, Z = fun k => e ∉ ls.take k := ⟨_, rfl⟩
  have HM' : Hid (∀ k : Nat, Z k → ∀ x, ls[k]? = some x → eqPB e x = false → Z (k + 1)) := by rw [hZ]; exact HM.out
  have HY' : Hid (∀ (k : Nat) (x : Pc), ls[k]? = some x → eqPB e x = true → Q) := by rw [hQ]; exact HY.out
  have HE' : Hid (Z n → ¬ Q) := by rw [hZ, hQ]; exact HE.out
  have HZ0 : Hid (Z 0) := by rw [hZ]; show e ∉ ls.take 0; simp
  rw [← hQ]
  clear h hnn hC HM HY HE hZ hQ HMem
  obtain ⟨f, c, t⟩ := e
  go_enter Tryz.func36, Tryz.ntmps36
  go_wp2_with fail
  go_loopw [8] (fun i wr => ∃ k : Nat, k ≤ n ∧ i = .int .i64 k ∧ Hid (Z k) ∧ Hid (PcB wr w.heap.size (f, c, t)) ∧ Hid (Below w.heap.size w wr)) (fun i _ => n - (intOf i).toNat)
  case atStart => exact ⟨0, Nat.zero_le _, rfl, HZ0, P0, B0⟩
  case round =>
    obtain ⟨k, hk, rfl, HZk, HP, HBr⟩ := hrel
    by_cases hlt : k < n
    · obtain ⟨x, hx⟩ : ∃ x, ls[k]? = some x := ⟨_, List.getElem?_eq_getElem (by rw [← HN.out]; exact hlt)⟩
      obtain ⟨bk, o, rfl, g0, g1, g2⟩ := HC.out wr HBr.out k x hx
      obtain ⟨p0, p1, p2⟩ := HP.out.cells
      dsimp only at p0 p1 p2
      have hcmp := fun w => eqlPc (f, c, t) x w
      have hyes := HY'.out k x hx
      have hno := HM'.out k HZk.out x hx
      obtain ⟨b, hb⟩ : ∃ b, b = eqPB (f, c, t) x := ⟨_, rfl⟩
      rw [← hb] at hcmp hyes hno
      obtain ⟨xf, xc, xt⟩ := x
      dsimp only [pcV] at hcmp g0 g1 g2
      have HYes := Lib.hid hyes
      have HNo := Lib.hid hno
      clear hx hb hyes hno HC HM' HY' HE' HZ0
      cases b
      · have HZ2 : Hid (Z (k + 1)) := HNo.out rfl
        go_wp2_with fail
        go_quiet (fail)
        go_wp2
        go_roundw
        case rel => exact ⟨k + 1, by omega, by go_num, HZ2, HP.out.below (below_drewP (Below.refl _ _) nq) HP.out.lt, below_drewP HBr.out nq⟩
        case measure => simp [intOf]; omega
      · have HQ : Hid Q := HYes.out rfl
        go_wp2_with fail
        go_quiet (fail)
        go_wp2
        go_ret
        exact ⟨⟨_, rfl, ⟨fun _ => HQ.out, fun _ => by omega⟩⟩, below_drewP HBr.out nq⟩
    · obtain rfl : k = n := by omega
      have HQ : Hid (¬ Q) := HE'.out HZk.out
      clear HC HM' HY' HE' HZ0
      go_wp2
      go_ret
      exact ⟨⟨_, rfl, ⟨fun h => absurd h (by decide), fun h => absurd h HQ.out⟩⟩, HBr.out⟩
theorem ContainsPc_any (v : Value) (ls : List Pc) (e : Pc) (w : World) (h : PcsAt w v ls) (hn : ls.length ≤ 2097152) :
    Calls Tryz.prog 21 #[v, pcV e] w fun r w' => (∃ b : Bool, r = .returned (.bool b) ∧ (b = true ↔ e ∈ ls)) ∧ Below w.heap.size w w' := by
  have B0 := Lib.hid (below_al w (.cells #[.int .i64 e.1, .int .i64 e.2.1, .string e.2.2] 37))
  have C := Lib.hid (fun w' hb => IndexPc_any v ls e w' (h.below (w' := w') hb) hn)
  obtain ⟨p0, p1, p2⟩ := (PcB.new w e).cells
  obtain ⟨a, cap, rfl, _, _⟩ := pc_cells h
  obtain ⟨Q, hQ⟩ : ∃ Q : Prop, Q = (e ∈ ls) := ⟨_, rfl⟩
  rw [← hQ] at C ⊢
  obtain ⟨n, hnn⟩ : ∃ n, n = ls.length := ⟨_, rfl⟩
  rw [← hnn] at C hn ⊢
  clear h hQ hnn
  obtain ⟨f, c, t⟩ := e
  go_enter Tryz.func21, Tryz.ntmps21
  go_wp2_with fail
  refine (C.out _ B0.out).mono ?_
  rintro r w1 ⟨⟨i, rfl, hi⟩, hb⟩
  have HB := Lib.hid (below_step B0.out hb)
  have HI := Lib.hid hi
  clear hb hi p0 p1 p2
  go_wp2
  go_ret
  exact ⟨⟨_, rfl, by have := HI.out; first | exact this | (rw [← this]; simp)⟩, HB.out⟩
theorem sp_any {es : List Ent} {xs : List Int} (h : sgB es xs = true) (j : Nat) (e : Pc) (b : Bool) (hb : b = true ↔ e ∈ allX es xs (j : Int)) : b = Pl.spB es xs j e := by
  obtain ⟨hok, _, _⟩ := sgB_parts h
  have h1 := Pl.spB_mem (okD_fine hok) (es := es) (xs := xs) (i := j) (p := e)
  have h2 : (e ∈ allX es xs (j : Int)) ↔ (j < xs.length ∧ e ∈ Pl.allPs es xs j) := by
    unfold allX
    by_cases hj : j < xs.length
    · rw [if_pos (by omega), Int.toNat_natCast]; exact ⟨fun h => ⟨hj, h⟩, fun h => h.2⟩
    · rw [if_neg (by omega)]; exact ⟨fun h => absurd h List.not_mem_nil, fun h => absurd h.1 hj⟩
  rw [Bool.eq_iff_iff, hb, h2, h1]
theorem sp_cnt {es : List Ent} {xs : List Int} (h : sgB es xs = true) (j : Nat) (e : Pc) (hs : Pl.spB es xs j e = true) : ∃ q : Nat, e.2.1 = (q : Int) ∧ 1 ≤ q ∧ j + q ≤ xs.length := by
  obtain ⟨hok, _, _⟩ := sgB_parts h
  obtain ⟨h1, h2⟩ := (Pl.spB_mem (okD_fine hok)).1 hs
  obtain ⟨q, h3, h4, _, h5, _⟩ := Pl.allPs_cnt h1 h2
  exact ⟨q, h3, h4, h5⟩
set_option maxHeartbeats 4000000 in
theorem IsSegmentation_any (v : Value) (es : List Ent) (u : Value) (xs : List Int) (lv : Value) (ls : List Pc) (w : World) (h : EntsAt w v es) (hu : IntsAt w u xs) (hl : PcsAt w lv ls) (hn : es.length ≤ 2097152) (hx : ∀ e ∈ es, entOk e) (hxn : xs.length ≤ 2097152) (hln : ls.length ≤ 2097152) :
    Calls Tryz.prog 8 #[dV v, u, lv] w fun r w' => r = .returned (.tuple #[.bool (isB es xs ls), .bool (sgB es xs)]) ∧ Below w.heap.size w w' := by
  have cm := fun w' hb => matcherOf_any v es u xs w' (h.below (w' := w') hb) (hu.below hb) hn hx hxn
  have HP := Lib.hid (fun (h : sgB es xs = true) => sgB_parts h)
  have CP := Lib.hid (fun b (f : Int) w' hb hm hok hs h60 => piecesAt_any b es u xs f w' hm hok (hu.below (w := w) hb) hs h60)
  have CC := Lib.hid (fun y ps e w' (hy : PcsAt w' y ps) hn => ContainsPc_any y ps e w' hy hn)
  have HNo := Lib.hid (fun h => isB_no (es := es) (xs := xs) (ls := ls) h)
  have HYes := Lib.hid (fun h => isB_yes (es := es) (xs := xs) (ls := ls) h)
  have HSa := Lib.hid (fun (h : sgB es xs = true) => sp_any h)
  have HSc := Lib.hid (fun (h : sgB es xs = true) => sp_cnt h)
  have HXl := Lib.hid (fun (f : Int) => show (allX es xs f).length ≤ 7 from by
    unfold allX Pl.allPs
    split
    · rw [List.length_append, List.length_singleton]; have := Pl.fdPs_len es xs f.toNat (Pl.capN xs f.toNat); unfold Pl.capN at this ⊢; omega
    · exact Nat.zero_le _)
  obtain ⟨a, cap, rfl, hcap, _⟩ := h.cells
  obtain ⟨ua, uc, rfl, huc, _⟩ := hu.cells
  obtain ⟨la, lc, rfl, hlc, hC⟩ := pc_cells hl
  have HC := Lib.hid hC
  obtain ⟨n, hnn⟩ : ∃ n, n = xs.length := ⟨_, rfl⟩
  obtain ⟨dn, hdn⟩ : ∃ n, n = es.length := ⟨_, rfl⟩
  obtain ⟨m, hmn⟩ : ∃ n, n = ls.length := ⟨_, rfl⟩
  have HM := Lib.hid hmn
  have HStep := Lib.hid (fun k p (hk : ls[k]? = some p) i => Pl.segB_drop (es := es) (xs := xs) hk i)
  have HEnd : Hid (∀ i, Pl.segB es xs i (ls.drop m) = decide ((i : Int) = (n : Int))) := by
    intro i; rw [hmn, List.drop_length, hnn]; rfl
  rw [← hnn] at cm huc HP CP HSc hxn ⊢
  unfold dV at cm ⊢
  rw [← hdn] at cm hcap ⊢
  rw [← hmn] at hlc hln ⊢
  have BX := Lib.hid (below_al w (.cells #[.slice a dn cap] 26))
  clear h hu hl hnn hdn hmn hx hn hC
  obtain ⟨bS, hbS⟩ : ∃ b, b = sgB es xs := ⟨_, rfl⟩
  obtain ⟨I, hI⟩ : ∃ b, b = isB es xs ls := ⟨_, rfl⟩
  rw [← hbS] at HP HNo HYes HSa HSc ⊢
  rw [← hI] at HNo HYes ⊢
  simp only [← hbS] at cm
  have CM := Lib.hid cm
  clear cm hbS hI
  go_enter Tryz.func8, Tryz.ntmps8
  cases bS
  · obtain rfl : I = false := HNo.out rfl
    clear HP CP CC HNo HYes HSa HSc HXl HC HM HStep HEnd
    go_wp2_with fail
    refine (CM.out _ BX.out).mono ?_
    rintro r w1 ⟨⟨mv, rfl, h1, _⟩, hb⟩
    have B1 := Lib.hid (below_step BX.out hb)
    obtain ⟨hm1, _, hm3⟩ := mt_box w1 mv (.slice ua n uc)
    have B2 := Lib.hid (below_step B1.out hm1)
    have HM3 := Lib.hid hm3
    clear hb CM hm1 hm3
    go_wp2_with (with_reducible (show wpList _ _ _ (_ :: _) _ _); refine mt_store rfl _ _ rfl w1.heap.size mv (.slice ua n uc) _ _ h1 rfl rfl rfl HM3.out ?_)
    go_ret2
    exact ⟨rfl, B2.out⟩
  · obtain ⟨hok, h60, hst⟩ := HP.out (by first | rfl | trivial)
    have hIe := HYes.out (by first | rfl | trivial)
    obtain ⟨D, hD⟩ : ∃ D : Nat → Nat → Bool, D = fun i k => Pl.segB es xs i (ls.drop k) := ⟨_, rfl⟩
    obtain ⟨Sp, hSp⟩ : ∃ Sp : Nat → Pc → Bool, Sp = fun i p => Pl.spB es xs i p := ⟨_, rfl⟩
    obtain ⟨X, hX⟩ : ∃ X : Nat → List Pc, X = fun (j : Nat) => allX es xs ((j : Nat) : Int) := ⟨_, rfl⟩
    have HI : Hid (D 0 0 = I) := by rw [hD, hIe]; rfl
    have HSt : Hid (∀ k p, ls[k]? = some p → ∀ i, D i k = (Sp i p && D (i + p.2.1.toNat) (k + 1))) := by rw [hD, hSp]; exact HStep.out
    have HEn : Hid (∀ i, D i m = decide ((i : Int) = (n : Int))) := by rw [hD]; exact HEnd.out
    have HSa1 : Hid (∀ j e (b : Bool), (b = true ↔ e ∈ X j) → b = Sp j e) := by rw [hSp, hX]; exact HSa.out (by first | rfl | trivial)
    have HSc1 : Hid (∀ j e, Sp j e = true → ∃ q : Nat, e.2.1 = (q : Int) ∧ 1 ≤ q ∧ j + q ≤ n) := by rw [hSp]; exact HSc.out (by first | rfl | trivial)
    have HXl1 : Hid (∀ j, (X j).length ≤ 2097152) := by rw [hX]; exact fun j => Nat.le_trans (HXl.out (j : Int)) (by decide)
    have CP1 : Hid (∀ b (j : Nat) w', Below w.heap.size w w' → MapB w' b es → Calls Tryz.prog 17 #[mtV b (.slice ua n uc), .int .i64 (j : Int)] w' fun r w'' => (∃ y, r = .returned y ∧ OwnP w'' w'.heap.size y (X j)) ∧ Below w'.heap.size w' w'') := by rw [hX]; exact fun b j w' hb hm => CP.out b (j : Int) w' hb hm hok hst h60
    clear hD hSp hX HStep HEnd HSa HSc HXl CP HP HNo HYes hIe hok hst
    go_wp2_with fail
    refine (CM.out _ BX.out).mono ?_
    rintro r w1 ⟨⟨mv, rfl, h1, hm⟩, hb⟩
    obtain ⟨b, rfl, hbb, hMb⟩ := hm (by first | rfl | trivial)
    have B1 := Lib.hid (below_step BX.out hb)
    obtain ⟨hm1, hm2, hm3⟩ := mt_box w1 (.map (some b)) (.slice ua n uc)
    have B2 := Lib.hid (below_step B1.out hm1)
    have M2 := Lib.hid (show MapB ((w1.alloc (.cells #[.map none, .slice none 0 0] 48)).setRow w1.heap.size #[.map (some b), .slice ua n uc]) b es from MapB.below hMb hm1)
    have T2 : Hid (MtB ((w1.alloc (.cells #[.map none, .slice none 0 0] 48)).setRow w1.heap.size #[.map (some b), .slice ua n uc]) w1.heap.size b (.slice ua n uc)) := hm2
    have HM3 := Lib.hid hm3
    have hw1 : w.heap.size + 1 ≤ w1.heap.size := by have := hb.size; simp at this; omega
    clear hb CM hm1 hm2 hm3 hm hMb hbb
    go_wp2_with (with_reducible (show wpList _ _ _ (_ :: _) _ _); refine mt_store rfl _ _ rfl w1.heap.size (.map (some b)) (.slice ua n uc) _ _ rfl rfl rfl rfl HM3.out ?_)
    go_loopw [10, 23] (fun x i wr => ∃ (k j : Nat), i = .int .i64 k ∧ x = .int .i64 j ∧ k ≤ m ∧ j ≤ n ∧ Hid (D j k = I) ∧ Hid (MtB wr w1.heap.size b (.slice ua n uc)) ∧ Hid (MapB wr b es) ∧ Hid (Below w.heap.size w wr)) (fun _ i _ => m - (intOf i).toNat)
    case atStart => exact ⟨0, 0, rfl, rfl, Nat.zero_le _, Nat.zero_le _, HI, T2, M2, B2⟩
    case round =>
      obtain ⟨k, j, rfl, rfl, hk, hj, HDk, HT, HMp, HBr⟩ := hrel
      by_cases hlt : k < m
      · obtain ⟨e, he⟩ : ∃ e, ls[k]? = some e := ⟨_, List.getElem?_eq_getElem (by rw [← HM.out]; exact hlt)⟩
        obtain ⟨bk, o, rfl, g0, g1, g2⟩ := HC.out wr HBr.out k e he
        have hst := HSt.out k e he j
        rw [HDk.out] at hst
        have hsa := HSa1.out j e
        have hsc := HSc1.out j e
        obtain ⟨S1, hS1⟩ : ∃ b, b = Sp j e := ⟨_, rfl⟩
        rw [← hS1] at hst hsa hsc
        have HSt1 := Lib.hid hst
        have HSa2 := Lib.hid hsa
        have HSc2 := Lib.hid hsc
        obtain ⟨f, c, t⟩ := e
        have hal := below_al wr (.cells #[.int .i64 f, .int .i64 c, .string t] 37)
        have HBl := Lib.hid (below_step HBr.out hal)
        have TBl : Hid (MtB (wr.alloc (.cells #[.int .i64 f, .int .i64 c, .string t] 37)) w1.heap.size b (.slice ua n uc)) := HT.out.below hal HT.out.lt
        have MBl : Hid (MapB (wr.alloc (.cells #[.int .i64 f, .int .i64 c, .string t] 37)) b es) := MapB.below HMp.out hal
        have PBl := Lib.hid (show PcB (wr.alloc (.cells #[.int .i64 f, .int .i64 c, .string t] 37)) wr.heap.size (f, c, t) from PcB.new wr (f, c, t))
        obtain ⟨W, hW⟩ : ∃ W, W = wr.alloc (.cells #[.int .i64 f, .int .i64 c, .string t] 37) := ⟨_, rfl⟩
        have HWr := Lib.hid hW
        rw [← hW] at HBl TBl MBl PBl
        have CP2 := Lib.hid (fun w' hb hm => CP1.out b j w' hb hm)
        have hxl := HXl1.out j
        have CC1 := Lib.hid (fun y w' hy => CC.out y (X j) (f, c, t) w' hy hxl)
        obtain ⟨Xj, hXj⟩ : ∃ x, x = X j := ⟨_, rfl⟩
        rw [← hXj] at CP2 CC1 HSa2
        dsimp only [pcV] at g0 g1 g2 CC1
        have k0 := cell_regrown TBl.out.cells.1
        have k1 := cell_regrown TBl.out.cells.2
        have k2 := cell_regrown PBl.out.cells.1
        have k3 := cell_regrown PBl.out.cells.2.1
        have k4 := cell_regrown PBl.out.cells.2.2
        have hWs : W.heap.size = wr.heap.size + 1 := by rw [hW, World.size_alloc]
        have HWs := Lib.hid hWs
        clear hst hsa hsc hS1 he hal HT HMp HBr HC HSt HI HSa1 HSc1 HXl1 CP1 CC hXj hxl T2 M2 B2 B1 BX HM3 hW hWs
        go_wp2_with fail
        rw [← HWr.out]
        refine Mx.wp_region_mixed (Mx.ofL [(0, 1), (1, 0), (3, 1), (2, 2), (4, 3), (5, 0)] .done) (by kernel_rfl) (by kernel_rfl) ?_
        repeat ((first | refine Mx.mix0 rfl ?_ | refine Mx.mix1 rfl ?_); go_big_quiet_step (fail); refine wpQuiet_nil ?_)
        refine Mx.mix2 rfl ?_
        have hd : Below W.heap.size W W.drew := below_drewN (Below.refl _ _) 1
        go_wp2_with fail
        refine (CP2.out _ (below_step HBl.out hd) (MapB.below MBl.out hd)).mono ?_
        rintro r w3 ⟨⟨y, rfl, hy⟩, hb'⟩
        have hb := below_step hd hb'
        have G3 := Lib.hid hb
        have HG := Lib.hid (regrown_of_below hb)
        have Y3 := Lib.hid (ownP_at hy)
        clear hb hb' hd hy k0 k1 k2 k3 k4 CP2
        go_wp2
        refine Mx.mid_normal (fun _ => HG.out) ?_
        refine Mx.mix3 rfl ?_
        go_wp2_with fail
        refine (CC1.out _ w3 Y3.out).mono ?_
        rintro r w4 ⟨⟨d, rfl, hd⟩, hb⟩
        obtain rfl : d = S1 := HSa2.out d hd
        have hb4 := below_step G3.out hb
        have T4 := Lib.hid (TBl.out.below hb4 TBl.out.lt)
        have M4 := Lib.hid (show MapB w4 b es from MapB.below MBl.out hb4)
        have P4 := Lib.hid (PBl.out.below hb4 PBl.out.lt)
        have B4 := Lib.hid (below_step HBl.out hb4)
        obtain ⟨p0, p1, p2⟩ := P4.out.cells
        dsimp only at p0 p1 p2
        clear hb hb4 hd G3 HG Y3 TBl MBl PBl HBl CC1 HSa2 P4
        go_wp2
        refine Mx.mid_normal (fun q => by cases q) ?_
        repeat ((first | refine Mx.mix0 rfl ?_ | refine Mx.mix1 rfl ?_); go_big_quiet_step (fail); refine wpQuiet_nil ?_)
        refine Mx.mix_nil ?_
        cases d
        · have HF : Hid (I = false) := by rw [HSt1.out]; rfl
          clear HSt1 HSc2 HEn
          go_wp2
          go_ret2
          exact ⟨by first | (rw [HF.out]; done) | (rw [HF.out]; rfl), B4.out⟩
        · obtain ⟨q, hq, hq1, hqn⟩ := HSc2.out rfl
          try dsimp only at hq
          subst hq
          have HN : Hid (D (j + q) (k + 1) = I) := by rw [HSt1.out]; rfl
          clear HSt1 HSc2 HEn
          go_wp2
          go_roundw
          case rel => exact ⟨k + 1, j + q, by go_num, by go_num, by omega, by omega, HN, T4, M4, B4⟩
          case measure => simp [intOf]; omega
      · obtain rfl : k = m := by omega
        have HF : Hid (I = decide ((j : Int) = (n : Int))) := by rw [← HEn.out j]; exact HDk.out.symm
        clear HC HSt HEn HSa1 HSc1 HXl1 HDk CP1 CC
        go_wp2
        go_ret2
        exact ⟨by first | (rw [HF.out]; done) | (rw [HF.out]; rfl), HBr.out⟩
end Go.Proofs.YtnpiphkglhcifaaGreat
