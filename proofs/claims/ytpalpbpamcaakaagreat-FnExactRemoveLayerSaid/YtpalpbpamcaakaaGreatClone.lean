/-
  COPIES of dictionaries and of layers by the program: 'copy' at elements of two cells, cloneDictionary, cloneLayers.
-/
import Derived.Test.YtpalpbpamcaakaaGreatLay
import Derived.Test.YtpalpbpamcaakaaGreatRev
import Derived.Laws.CopyRow
import Derived.Laws.IdiomCopy
namespace Go.Proofs.YtpalpbpamcaakaaGreat
set_option maxRecDepth 100000
open Go.RowKit

theorem setCell_same {w : World} {g i : Nat} {v : Value} (h : w.cell? ⟨g, i, none⟩ = some v) : w.setCell ⟨g, i, none⟩ v = w := by
  unfold World.cell? at h
  cases hg : w.heap[g]? with
  | none => simp [hg] at h
  | some o =>
    cases o with
    | cells c t fr =>
      rw [setCell_eq_setRow w g i c t fr v hg]
      have hc : c[i]? = some v := by simpa [hg] using h
      have : c.setIfInBounds i v = c := by
        apply Array.ext_getElem?
        intro k
        rw [Array.getElem?_setIfInBounds]
        split
        · rename_i e; subst e; rw [hc]; simp; exact (Array.getElem?_eq_some_iff.1 hc).1
        · rfl
      rw [this]
      exact setRow_self w g c t fr hg
    | _ => simp [hg] at h
/-- The cells of n elements of two cells each. -/
def prCells (F G : Nat → Value) (n : Nat) : List Value := (List.range (n * 2)).map fun j => if j % 2 = 0 then F (j / 2) else G (j / 2)
theorem prCells_len (F G : Nat → Value) (n : Nat) : (prCells F G n).length = n * 2 := by unfold prCells; simp
theorem prCells_get {F G : Nat → Value} {n j : Nat} {v : Value} (h : (prCells F G n)[j]? = some v) : j < n * 2 ∧ v = if j % 2 = 0 then F (j / 2) else G (j / 2) := by
  have hj := (List.getElem?_eq_some_iff.1 h).1
  rw [prCells_len] at hj
  unfold prCells at h
  rw [List.getElem?_map, List.getElem?_range hj] at h
  exact ⟨hj, (Option.some.inj h).symm⟩
theorem prCells_fst (F G : Nat → Value) {n j : Nat} (h : j < n) : (prCells F G n)[j * 2]? = some (F j) := by
  unfold prCells
  rw [List.getElem?_map, List.getElem?_range (by omega)]
  simp
theorem prCells_snd (F G : Nat → Value) {n j : Nat} (h : j < n) : (prCells F G n)[j * 2 + 1]? = some (G j) := by
  unfold prCells
  rw [List.getElem?_map, List.getElem?_range (by omega)]
  have e1 : (j * 2 + 1) % 2 = 1 := by omega
  have e2 : (j * 2 + 1) / 2 = j := by omega
  simp [e1, e2]
/-- The row at block g holds, from element k on, the values F and G. -/
def RowS (w : World) (g : Nat) (F G : Nat → Value) (n k : Nat) : Prop :=
  g < w.heap.size ∧ (∀ j, k ≤ j → j < n → w.cell? ⟨g, j * 2, none⟩ = some (F j) ∧ w.cell? ⟨g, j * 2 + 1, none⟩ = some (G j)) ∧ ∀ j, w.frozen? ⟨g, j, none⟩ = false
theorem RowS.below {w w' : World} {g : Nat} {F G : Nat → Value} {n k : Nat} (h : RowS w g F G n k) (hb : Below w.heap.size w w') : RowS w' g F G n k := by
  obtain ⟨h0, h1, h2⟩ := h
  refine ⟨Nat.lt_of_lt_of_le h0 hb.size, fun j hk hj => ?_, fun j => (hb.frozen (p := ⟨g, j, none⟩) h0).trans (h2 j)⟩
  obtain ⟨a0, a1⟩ := h1 j hk hj
  exact ⟨(hb.cell (p := ⟨g, j * 2, none⟩) h0).trans a0, (hb.cell (p := ⟨g, j * 2 + 1, none⟩) h0).trans a1⟩
theorem RowS.next {w : World} {g : Nat} {F G : Nat → Value} {n k : Nat} (h : RowS w g F G n k) (x : Value) : RowS (w.setCell ⟨g, k * 2, none⟩ x) g F G n (k + 1) := by
  obtain ⟨h0, h1, h2⟩ := h
  refine ⟨by rw [World.size_setCell]; exact h0, fun j hk hj => ?_, fun j => by rw [World.frozen?_setCell]; exact h2 j⟩
  obtain ⟨a0, a1⟩ := h1 j (by omega) hj
  refine ⟨?_, ?_⟩
  · rw [World.cell?_setCell_other _ _ _ _ (by intro e; injection e; omega)]; exact a0
  · rw [World.cell?_setCell_other _ _ _ _ (by intro e; injection e; omega)]; exact a1
theorem rowS_row {w : World} {g : Nat} {F G : Nat → Value} {n : Nat} {t : TypeId} (h : w.heap[g]? = some (.cells (prCells F G n).toArray t (0, 0))) : RowS w g F G n 0 := by
  refine ⟨(Array.getElem?_eq_some_iff.1 h).1, fun j _ hj => ⟨?_, ?_⟩, fun j => ?_⟩
  · unfold World.cell?; simp only [h]; simpa using prCells_fst F G hj
  · unfold World.cell?; simp only [h]; simpa using prCells_snd F G hj
  · unfold World.frozen?; simp only [h]; simp
/-- 'copy' of a whole slice of elements of two cells into a row that was just made. -/
theorem run_copy_pairs {P : Program} {w : World} (dT sT ty elem : TypeId) (hu : P.underlying dT = some (.slice elem)) (hsz : (P.info? elem).map (·.size) = some 2)
    (g n c1 c2 : Nat) (sp : Option Addr) (cur : Array Value) (t : TypeId) (hg : w.heap[g]? = some (.cells cur t (0, 0))) (hcur : cur.size = n * 2)
    (F G : Nat → Value) (hsrc : 0 < n → ∃ bk q, sp = some ⟨bk, q, none⟩ ∧ ∀ j, j < n → w.cell? ⟨bk, q + j * 2, none⟩ = some (F j) ∧ w.cell? ⟨bk, q + j * 2 + 1, none⟩ = some (G j))
    (hF : ∀ j, j < n → (F j).oneCell' = true) (hG : ∀ j, j < n → (G j).oneCell' = true) :
    ∃ w', (Builtin.copy_ #[dT, sT] ty #[.slice (some ⟨g, 0, none⟩) n c1, .slice sp n c2]).run P w = .ok (.int .i64 (n : Int)) w' ∧ RowS w' g F G n 0 ∧ w'.heap.size = w.heap.size ∧ Below g w w' := by
  obtain ⟨cs, hcs⟩ : ∃ cs, cs = prCells F G n := ⟨_, rfl⟩
  have hlen : cs.length = n * 2 := by rw [hcs]; exact prCells_len F G n
  have hrun : (Builtin.copy_ #[dT, sT] ty #[.slice (some ⟨g, 0, none⟩) n c1, .slice sp n c2]).run P w = .ok (goInt n) (w.setRow g cs.toArray) := by
    cases hq : P.info? elem with
    | none => simp [hq] at hsz
    | some i =>
      have hi : i.size = 2 := by simpa [hq] using hsz
      have hst := run_storeCells_at P g 0 t cs 0 cur w hg (by omega) (fun v hv => by
        obtain ⟨j, hj⟩ := List.getElem?_of_mem hv
        rw [hcs] at hj
        obtain ⟨h1, h2⟩ := prCells_get hj
        rw [h2]
        split
        · exact hF _ (by omega)
        · exact hG _ (by omega))
      have hrow : (cur.toList.take (0 + 0) ++ cs ++ cur.toList.drop (0 + 0 + cs.length)).toArray = cs.toArray := by
        rw [List.drop_of_length_le (by simp [hlen, hcur])]; simp
      rw [hrow] at hst
      rcases Nat.eq_zero_or_pos n with h0 | h0
      · subst h0
        have hnil : cs = [] := List.eq_nil_of_length_eq_zero (by omega)
        subst hnil
        have hl : ∀ (x : Addr), (loadCells x 0).run P w = .ok #[] w := fun x => by simpa using run_loadCells_list (P := P) w x [] (by simp)
        cases sp with
        | none => simp [Builtin.copy_, run_underlying hu, Builtin.lenOf, Builtin.firstCells, sizeOf, typeInfo, hq, hst]
        | some x => simp [Builtin.copy_, run_underlying hu, Builtin.lenOf, Builtin.firstCells, sizeOf, typeInfo, hq, hl, hst]
      · obtain ⟨bk, q, rfl, hc⟩ := hsrc h0
        have hl := run_loadCells_list (P := P) w ⟨bk, q, none⟩ cs (fun j v hj => by
          rw [hcs] at hj
          obtain ⟨h1, h2⟩ := prCells_get hj
          rw [Go.WideShapes.add_plain, h2]
          have h3 := hc (j / 2) (by omega)
          split
          · rw [show q + j = q + j / 2 * 2 by omega]; exact h3.1
          · rw [show q + j = q + j / 2 * 2 + 1 by omega]; exact h3.2)
        rw [hlen] at hl
        simp [Builtin.copy_, run_underlying hu, Builtin.lenOf, Builtin.firstCells, sizeOf, typeInfo, hq, hi, hl, hst]
  refine ⟨_, hrun, rowS_row (t := t) (by rw [← hcs]; exact setRow_heap w g cur _ t _ hg), by simp [World.setRow], ?_⟩
  exact ⟨rfl, rfl, rfl, by simp [World.setRow], fun k hk => setRow_other w g k _ (by omega)⟩
/-- The entry that stands in for what is not there. -/
def ent0 : Ent := ([], ByteArray.empty)
/-- An entry behind the last, of a row whose second cells are there already. -/
theorem EntsG.snocF {w w1 : World} {base g : Nat} {U : Nat → Value} {es : List Ent} {e : Ent} {u : Value} (h : EntsG w base w.heap.size g U es) (hb : Below w.heap.size w w1)
    (hu : OwnInts w1 w.heap.size u e.1.length (fun j => e.1.getD j 0)) {x : Value} (hx : w1.cell? ⟨g, es.length * 2, none⟩ = some x) (hy : w1.cell? ⟨g, es.length * 2 + 1, none⟩ = some (.string e.2)) :
    EntsG (w1.setCell ⟨g, es.length * 2, none⟩ u) base (w1.setCell ⟨g, es.length * 2, none⟩ u).heap.size g (fun j => if j = es.length then u else U j) (es ++ [e]) := by
  have h1 := h.snoc hb hu hx hy
  have h2 : (w1.setCell ⟨g, es.length * 2, none⟩ u).cell? ⟨g, es.length * 2 + 1, none⟩ = some (.string e.2) := by
    rw [World.cell?_setCell_other _ _ _ _ (by intro e; injection e; omega)]; exact hy
  rw [setCell_same h2] at h1
  exact h1
theorem LaysG.snocF {w w1 : World} {base g : Nat} {U : Nat → Value} {L R : Nat → Nat} {ls : List Lay} {l : Lay} {u : Value} (h : LaysG w base w.heap.size g U L R ls) (hb : Below w.heap.size w w1)
    (hu : OwnEs w1 w.heap.size w1.heap.size u l.1) {x : Value} (hx : w1.cell? ⟨g, ls.length * 2, none⟩ = some x) (hy : w1.cell? ⟨g, ls.length * 2 + 1, none⟩ = some (.bool l.2)) :
    LaysG (w1.setCell ⟨g, ls.length * 2, none⟩ u) base (w1.setCell ⟨g, ls.length * 2, none⟩ u).heap.size g (fun j => if j = ls.length then u else U j)
      (fun j => if j = ls.length then w.heap.size else L j) (fun j => if j = ls.length then w1.heap.size else R j) (ls ++ [l]) := by
  have h1 := h.snoc hb hu hx hy
  have h2 : (w1.setCell ⟨g, ls.length * 2, none⟩ u).cell? ⟨g, ls.length * 2 + 1, none⟩ = some (.bool l.2) := by
    rw [World.cell?_setCell_other _ _ _ _ (by intro e; injection e; omega)]; exact hy
  rw [setCell_same h2] at h1
  exact h1
set_option maxHeartbeats 2000000 in
theorem cloneD_any (v : Value) (es : List Ent) (w : World) (h : EntsAt w v es) (hn : es.length ≤ 1000) (hx : ∀ e ∈ es, 0 < e.1.length ∧ e.1.length ≤ 2097152) :
    Calls Tryz.prog 78 #[dV v] w fun r w' => (∃ v', r = .returned (dV v') ∧ OwnEs w' w.heap.size w'.heap.size v' es) ∧ Below w.heap.size w w' := by
  obtain ⟨a, cap, rfl, hcap, hC⟩ := h.cells
  have hex : ∀ j, j < es.length → ∃ u, IntsAt w u (es.getD j ent0).1 ∧ ∃ bk o, a = some ⟨bk, o, none⟩ ∧ bk < w.heap.size ∧ w.cell? ⟨bk, o + j * 2, none⟩ = some u ∧ w.cell? ⟨bk, o + j * 2 + 1, none⟩ = some (.string (es.getD j ent0).2) := by
    intro j hj
    obtain ⟨bk, o, u, ha, hbk, h0, h1, h2⟩ := hC w (Below.refl _ _) j _ (List.getElem?_eq_getElem hj)
    have e : es.getD j ent0 = es[j] := by simp [List.getD, List.getElem?_eq_getElem hj]
    rw [e]
    exact ⟨u, h2, bk, o, ha, hbk, h0, h1⟩
  obtain ⟨F, hF⟩ := Go.Deep.choose_lt hex
  obtain ⟨G, hG⟩ : ∃ G : Nat → Value, G = fun j => .string (es.getD j ent0).2 := ⟨_, rfl⟩
  have HX := Lib.hid (fun k e (h : es[k]? = some e) => hx e (List.mem_of_getElem? h))
  have hsrc : 0 < es.length → ∃ bk q, a = some ⟨bk, q, none⟩ ∧ bk < w.heap.size ∧ ∀ j, j < es.length → w.cell? ⟨bk, q + j * 2, none⟩ = some (F j) ∧ w.cell? ⟨bk, q + j * 2 + 1, none⟩ = some (G j) := by
    intro h0
    obtain ⟨_, bk, q, ha, hbk, _, _⟩ := hF 0 h0
    refine ⟨bk, q, ha, hbk, fun j hj => ?_⟩
    obtain ⟨_, bk', q', ha', _, h1, h2⟩ := hF j hj
    rw [ha] at ha'
    injection ha' with ha'
    injection ha' with e1 e2
    subst e1 e2
    rw [hG]
    exact ⟨h1, h2⟩
  have hF1 : ∀ j, j < es.length → (F j).oneCell' = true := fun j hj => by obtain ⟨c, d, e, _⟩ := (hF j hj).1.cells; rw [e]; rfl
  have hG1 : ∀ j, j < es.length → (G j).oneCell' = true := fun j hj => by rw [hG]; rfl
  have HF := Lib.hid (fun j hj => (hF j hj).1)
  have HGe := Lib.hid hG
  obtain ⟨n, hnn⟩ : ∃ n, n = es.length := ⟨_, rfl⟩
  rw [← hnn] at hn hcap hsrc hF1 hG1 HF ⊢
  have HN := Lib.hid hnn
  have HS := Lib.hid hsrc
  have HF1 := Lib.hid hF1
  have HG1 := Lib.hid hG1
  clear h hnn hx hF hC hex hG hsrc hF1 hG1
  unfold dV
  have hmk := fun w => mk_ens n (by omega) w
  have hnew := heap_alloc_new ((w.alloc (.cells #[.slice a n cap] 34)).alloc (.cells #[.slice none 0 0] 34)) (.cells (madeCells #[.slice none 0 0, .string ByteArray.empty] (n * 2)) 52)
  rw [World.size_alloc, World.size_alloc] at hnew
  have hb3 := below_al3 w (.cells #[.slice a n cap] 34) (.cells #[.slice none 0 0] 34) (.cells (madeCells #[.slice none 0 0, .string ByteArray.empty] (n * 2)) 52)
  have q1 := (BoxV.new (w.alloc (.cells #[.slice a n cap] 34)) 34 (.slice none 0 0)).below (below_al _ (.cells (madeCells #[.slice none 0 0, .string ByteArray.empty] (n * 2)) 52)) (by simp)
  rw [World.size_alloc] at q1
  have HB3 := Lib.hid hb3
  have Q1 := Lib.hid q1
  have HNew := Lib.hid hnew
  clear hb3 q1 hnew
  obtain ⟨w2, hw2⟩ : ∃ w2, w2 = (((w.alloc (.cells #[.slice a n cap] 34)).alloc (.cells #[.slice none 0 0] 34)).alloc (.cells (madeCells #[.slice none 0 0, .string ByteArray.empty] (n * 2)) 52)) := ⟨_, rfl⟩
  obtain ⟨w3, hcp, hr0, hs0, hb0⟩ := run_copy_pairs (P := Tryz.prog) 32 32 3 52 Tryz.underlying32 (by kernel_rfl) (w.heap.size + 1 + 1) n n cap a _ _ HNew.out (by simp [madeCells]) F G (fun h0 => by
    obtain ⟨bk, q, e1, e2, e3⟩ := HS.out h0
    exact ⟨bk, q, e1, fun j hj => ⟨(HB3.out.cell (p := ⟨bk, q + j * 2, none⟩) e2).trans (e3 j hj).1, (HB3.out.cell (p := ⟨bk, q + j * 2 + 1, none⟩) e2).trans (e3 j hj).2⟩⟩) HF1.out HG1.out
  have hsz3 : w3.heap.size = w.heap.size + 3 := by rw [hs0]; simp
  have HB := Lib.hid (HB3.out.trans (hb0.mono (show w.heap.size ≤ w.heap.size + 1 + 1 by omega)))
  have QB : Hid (BoxV w3 (w.heap.size + 1) 34 (.slice none 0 0)) := (show BoxV _ _ _ _ from (hb0.block (w.heap.size + 1) (by omega)).trans Q1.out)
  have HR0 := Lib.hid hr0
  have HSz := Lib.hid hsz3
  clear hr0 hs0 hb0 hw2 w2 hsz3 HB3 Q1 HNew
  go_enter Tryz.func78, Tryz.ntmps78
  go_wp2_with fail
  clear hmk
  have hst : Hid (∃ U, EntsG w3 (w.heap.size + 1 + 1) w3.heap.size (w.heap.size + 1 + 1) U (es.take 0)) := by
    have := EntsG.start (w := w3) (g := w.heap.size + 1 + 1) HR0.out.1 HR0.out.2.2 (fun _ => .slice none 0 0)
    exact ⟨_, this.1, this.2, this.3, this.4, this.5, this.6⟩
  obtain ⟨B, hB⟩ : ∃ B, B = w.heap.size + 1 + 1 := ⟨_, rfl⟩
  rw [← hB] at hst HR0 ⊢
  have HBB := Lib.hid hB
  clear hB
  go_loopw [15] (fun i wr => ∃ k : Nat, k ≤ n ∧ i = .int .i64 k ∧ Hid (∃ U, EntsG wr B wr.heap.size B U (es.take k)) ∧ Hid (RowS wr B F G n k) ∧ Hid (BoxV wr (w.heap.size + 1) 34 (.slice none 0 0)) ∧ Hid (Below w.heap.size w wr)) (fun i _ => n - (intOf i).toNat)
  case atStart => exact ⟨0, Nat.zero_le _, rfl, hst, HR0, QB, HB⟩
  case round =>
    obtain ⟨k, hk, rfl, HG, HR, HQ, HBr⟩ := hrel
    by_cases hlt : k < n
    · obtain ⟨e, he⟩ : ∃ e, es[k]? = some e := ⟨_, List.getElem?_eq_getElem (by rw [← HN.out]; exact hlt)⟩
      have hge : es.getD k ent0 = e := by simp [List.getD, he]
      obtain ⟨c0, c1⟩ := HR.out.2.1 k (Nat.le_refl _) hlt
      have hi := HF.out k hlt
      rw [hge] at hi
      have hxe := HX.out k e he
      have C := Lib.hid (fun w' hb => clone_any (F k) e.1 w' ((hi.below HBr.out).below (w' := w') hb) hxe.1 hxe.2)
      have HE := Lib.hid he
      have HGk : Hid (G k = .string e.2) := by show G k = _; rw [HGe.out, ← hge]
      have hF1 := HF1.out k hlt
      have f0 := HR.out.2.2 (k * 2)
      obtain ⟨fk, hfk⟩ : ∃ fk, fk = F k := ⟨_, rfl⟩
      rw [← hfk] at c0 C
      obtain ⟨fa, fc, hfs⟩ : ∃ fa fc, fk = .slice fa e.1.length fc := by rw [hfk]; obtain ⟨a, c, e, _⟩ := hi.cells; exact ⟨a, c, e⟩
      subst hfs
      have HFk := Lib.hid hfk
      obtain ⟨m, hm⟩ : ∃ m, m = e.1.length := ⟨_, rfl⟩
      rw [← hm] at c0 C HFk
      have HM := Lib.hid hm
      clear he hge hi hxe hF1 hfk hm
      go_wp2_with fail
      refine (C.out wr (Below.refl _ _)).mono ?_
      rintro r w1 ⟨⟨u, rfl, hu⟩, hb1⟩
      have HR1 := Lib.hid (HR.out.below hb1)
      obtain ⟨r0, r1⟩ := HR1.out.2.1 k (Nat.le_refl _) hlt
      have f1 := HR1.out.2.2 (k * 2)
      have hlk : (es.take k).length = k := by rw [List.length_take, ← HN.out]; omega
      have HG2 : Hid (∃ U, EntsG (w1.setCell ⟨B, k * 2, none⟩ u) B (w1.setCell ⟨B, k * 2, none⟩ u).heap.size B U (es.take (k + 1))) := by
        obtain ⟨U, hU⟩ := HG.out
        have h2 := EntsG.snocF (e := e) (u := u) hU hb1 (by rw [← HM.out]; exact hu) (x := F k) (by rw [hlk]; exact r0) (by rw [hlk]; exact r1.trans (congrArg some HGk.out))
        rw [hlk] at h2
        rw [List.take_add_one, HE.out, Option.toList_some]
        exact ⟨_, h2⟩
      have HR2 := Lib.hid (HR1.out.next u)
      have HQ2 : Hid (BoxV (w1.setCell ⟨B, k * 2, none⟩ u) (w.heap.size + 1) 34 (.slice none 0 0)) := (HQ.out.below hb1 HQ.out.lt).other (by have := HBB.out; omega)
      have HB2 : Hid (Below w.heap.size w (w1.setCell ⟨B, k * 2, none⟩ u)) := (HBr.out.trans (hb1.mono HBr.out.size)).setCell (p := ⟨B, k * 2, none⟩) (by have := HBB.out; show w.heap.size ≤ B; omega) _
      obtain ⟨ua, uc, rfl⟩ := hu.form
      clear hb1 hu HR HR1 HG HQ HBr HE hlk C
      go_wp2
      go_roundw
      case rel => exact ⟨k + 1, by omega, by go_num, HG2, HR2, HQ2, HB2⟩
      case measure => simp [intOf]; omega
    · obtain rfl : k = n := by omega
      have HS : Hid (OwnEs wr (w.heap.size + 1 + 1) wr.heap.size (.slice (some ⟨B, 0, none⟩) k k) es) := by
        obtain ⟨U, hU⟩ := HG.out
        have ht : es.take k = es := List.take_of_length_le (by rw [← HN.out]; exact Nat.le_refl _)
        rw [ht] at hU
        rcases Nat.eq_zero_or_pos k with h0 | h0
        · exact .inl ⟨List.length_eq_zero_iff.1 (by rw [← HN.out]; exact h0), _, _, by rw [h0]⟩
        · refine .inr ⟨B, k, U, by rw [← HN.out], by rw [← HN.out]; exact Nat.le_refl _, by rw [← HN.out]; exact h0, ?_⟩
          rw [← HBB.out]; exact hU
      have hq := HQ.out.cell
      have hqf := HQ.out.frozen
      clear HG HR
      go_wp2
      refine bodyPost_ret (results_cell_row rfl _ _ _ _ _ _ _ rfl (HQ.out.set _) Tryz.underlying34 rfl (by kernel_rfl)) rfl ?_
      refine ⟨⟨_, rfl, ?_⟩, HBr.out.setCell (by show w.heap.size ≤ w.heap.size + 1; omega) _⟩
      rw [World.size_setCell]
      exact OwnEs.mono (HS.out.touch (T := fun b => b < w.heap.size + 1 + 1) ((Touch.refl _ _).setCell (by show _ < _; omega) _ _) (fun b h1 _ h2 => by omega)) (by omega)
set_option maxHeartbeats 2000000 in
theorem cloneL_any (v : Value) (ls : List Lay) (w : World) (h : LaysAt w v ls) (hn : ls.length ≤ 1000) (hx : ∀ l ∈ ls, l.1.length ≤ 1000 ∧ ∀ e ∈ l.1, 0 < e.1.length ∧ e.1.length ≤ 2097152) :
    Calls Tryz.prog 118 #[v] w fun r w' => (∃ v', r = .returned v' ∧ OwnLs w' w.heap.size w'.heap.size v' ls) ∧ Below w.heap.size w w' := by
  obtain ⟨a, cap, rfl, hcap, hC⟩ := h.cells
  have hex : ∀ j, j < ls.length → ∃ u, EntsAt w u (ls.getD j ([], false)).1 ∧ ∃ bk o, a = some ⟨bk, o, none⟩ ∧ bk < w.heap.size ∧ w.cell? ⟨bk, o + j * 2, none⟩ = some u ∧ w.cell? ⟨bk, o + j * 2 + 1, none⟩ = some (.bool (ls.getD j ([], false)).2) := by
    intro j hj
    obtain ⟨bk, o, u, ha, hbk, h0, h1, h2⟩ := hC w (Below.refl _ _) j _ (List.getElem?_eq_getElem hj)
    have e : ls.getD j ([], false) = ls[j] := by simp [List.getD, List.getElem?_eq_getElem hj]
    rw [e]
    exact ⟨u, h2, bk, o, ha, hbk, h0, h1⟩
  obtain ⟨F, hF⟩ := Go.Deep.choose_lt hex
  obtain ⟨G, hG⟩ : ∃ G : Nat → Value, G = fun j => .bool (ls.getD j ([], false)).2 := ⟨_, rfl⟩
  have HX := Lib.hid (fun k e (h : ls[k]? = some e) => hx e (List.mem_of_getElem? h))
  have hsrc : 0 < ls.length → ∃ bk q, a = some ⟨bk, q, none⟩ ∧ bk < w.heap.size ∧ ∀ j, j < ls.length → w.cell? ⟨bk, q + j * 2, none⟩ = some (F j) ∧ w.cell? ⟨bk, q + j * 2 + 1, none⟩ = some (G j) := by
    intro h0
    obtain ⟨_, bk, q, ha, hbk, _, _⟩ := hF 0 h0
    refine ⟨bk, q, ha, hbk, fun j hj => ?_⟩
    obtain ⟨_, bk', q', ha', _, h1, h2⟩ := hF j hj
    rw [ha] at ha'
    injection ha' with ha'
    injection ha' with e1 e2
    subst e1 e2
    rw [hG]
    exact ⟨h1, h2⟩
  have hF1 : ∀ j, j < ls.length → (F j).oneCell' = true := fun j hj => by obtain ⟨c, d, e, _⟩ := (hF j hj).1.cells; rw [e]; rfl
  have hG1 : ∀ j, j < ls.length → (G j).oneCell' = true := fun j hj => by rw [hG]; rfl
  have HF := Lib.hid (fun j hj => (hF j hj).1)
  have HGe := Lib.hid hG
  obtain ⟨n, hnn⟩ : ∃ n, n = ls.length := ⟨_, rfl⟩
  rw [← hnn] at hn hcap hsrc hF1 hG1 HF ⊢
  have HN := Lib.hid hnn
  have HS := Lib.hid hsrc
  have HF1 := Lib.hid hF1
  have HG1 := Lib.hid hG1
  clear h hnn hx hF hC hex hG hsrc hF1 hG1
  have hmk := fun w => mk_lays n (by omega) w
  have hnew := heap_alloc_new w (.cells (madeCells #[.slice none 0 0, .bool false] (n * 2)) 36)
  have hb3 := below_al w (.cells (madeCells #[.slice none 0 0, .bool false] (n * 2)) 36)
  have HB3 := Lib.hid hb3
  have HNew := Lib.hid hnew
  clear hb3 hnew
  obtain ⟨w3, hcp, hr0, hs0, hb0⟩ := run_copy_pairs (P := Tryz.prog) 24 24 3 36 Tryz.underlying24 (by kernel_rfl) w.heap.size n n cap a _ _ HNew.out (by simp [madeCells]) F G (fun h0 => by
    obtain ⟨bk, q, e1, e2, e3⟩ := HS.out h0
    exact ⟨bk, q, e1, fun j hj => ⟨(HB3.out.cell (p := ⟨bk, q + j * 2, none⟩) e2).trans (e3 j hj).1, (HB3.out.cell (p := ⟨bk, q + j * 2 + 1, none⟩) e2).trans (e3 j hj).2⟩⟩) HF1.out HG1.out
  have HB := Lib.hid (HB3.out.trans hb0)
  have HR0 := Lib.hid hr0
  clear hr0 hs0 hb0 HB3 HNew
  go_enter Tryz.func118, Tryz.ntmps118
  go_wp2_with fail
  clear hmk
  have hst : Hid (∃ U L R, LaysG w3 w.heap.size w3.heap.size w.heap.size U L R (ls.take 0)) := by
    have := LaysG.start (w := w3) (g := w.heap.size) HR0.out.1 HR0.out.2.2
    exact ⟨_, _, _, this⟩
  obtain ⟨B, hB⟩ : ∃ B, B = w.heap.size := ⟨_, rfl⟩
  rw [← hB] at hst HR0 ⊢
  have HBB := Lib.hid hB
  clear hB
  go_loopw [13] (fun i wr => ∃ k : Nat, k ≤ n ∧ i = .int .i64 k ∧ Hid (∃ U L R, LaysG wr B wr.heap.size B U L R (ls.take k)) ∧ Hid (RowS wr B F G n k) ∧ Hid (Below w.heap.size w wr)) (fun i _ => n - (intOf i).toNat)
  case atStart => exact ⟨0, Nat.zero_le _, rfl, hst, HR0, HB⟩
  case round =>
    obtain ⟨k, hk, rfl, HG, HR, HBr⟩ := hrel
    by_cases hlt : k < n
    · obtain ⟨e, he⟩ : ∃ e, ls[k]? = some e := ⟨_, List.getElem?_eq_getElem (by rw [← HN.out]; exact hlt)⟩
      have hge : ls.getD k ([], false) = e := by simp [List.getD, he]
      obtain ⟨c0, c1⟩ := HR.out.2.1 k (Nat.le_refl _) hlt
      have hi := HF.out k hlt
      rw [hge] at hi
      have hxe := HX.out k e he
      have c := fun w' hb => cloneD_any (F k) e.1 w' ((hi.below HBr.out).below (w' := w') hb) hxe.1 hxe.2
      unfold dV at c
      have C := Lib.hid c
      clear c
      have HE := Lib.hid he
      have HGk : Hid (G k = .bool e.2) := by show G k = _; rw [HGe.out, ← hge]
      have f0 := HR.out.2.2 (k * 2)
      obtain ⟨fk, hfk⟩ : ∃ fk, fk = F k := ⟨_, rfl⟩
      rw [← hfk] at c0 C
      obtain ⟨fa, fc, hfs⟩ : ∃ fa fc, fk = .slice fa e.1.length fc := by rw [hfk]; obtain ⟨a, c, e, _⟩ := hi.cells; exact ⟨a, c, e⟩
      subst hfs
      have HFk := Lib.hid hfk
      obtain ⟨m, hm⟩ : ∃ m, m = e.1.length := ⟨_, rfl⟩
      rw [← hm] at c0 C HFk
      have HM := Lib.hid hm
      clear he hge hi hxe hfk hm
      go_wp2_with fail
      refine (C.out wr (Below.refl _ _)).mono ?_
      rintro r w1 ⟨⟨u, rfl, hu⟩, hb1⟩
      have HR1 := Lib.hid (HR.out.below hb1)
      obtain ⟨r0, r1⟩ := HR1.out.2.1 k (Nat.le_refl _) hlt
      have f1 := HR1.out.2.2 (k * 2)
      have hlk : (ls.take k).length = k := by rw [List.length_take, ← HN.out]; omega
      have HG2 : Hid (∃ U L R, LaysG (w1.setCell ⟨B, k * 2, none⟩ u) B (w1.setCell ⟨B, k * 2, none⟩ u).heap.size B U L R (ls.take (k + 1))) := by
        obtain ⟨U, L, R, hU⟩ := HG.out
        have h2 := LaysG.snocF (l := e) (u := u) hU hb1 hu (x := F k) (by rw [hlk]; exact r0) (by rw [hlk]; exact r1.trans (congrArg some HGk.out))
        rw [hlk] at h2
        rw [List.take_add_one, HE.out, Option.toList_some]
        exact ⟨_, _, _, h2⟩
      have HR2 := Lib.hid (HR1.out.next u)
      have HB2 : Hid (Below w.heap.size w (w1.setCell ⟨B, k * 2, none⟩ u)) := (HBr.out.trans (hb1.mono HBr.out.size)).setCell (p := ⟨B, k * 2, none⟩) (by have := HBB.out; show w.heap.size ≤ B; omega) _
      obtain ⟨ua, uc, rfl, _, _⟩ := hu.at.cells
      clear hb1 hu HR HR1 HG HBr HE hlk C
      go_wp2
      go_roundw
      case rel => exact ⟨k + 1, by omega, by go_num, HG2, HR2, HB2⟩
      case measure => simp [intOf]; omega
    · obtain rfl : k = n := by omega
      have HS : Hid (OwnLs wr w.heap.size wr.heap.size (.slice (some ⟨B, 0, none⟩) k k) ls) := by
        obtain ⟨U, L, R, hU⟩ := HG.out
        have ht : ls.take k = ls := List.take_of_length_le (by rw [← HN.out]; exact Nat.le_refl _)
        rw [ht] at hU
        rcases Nat.eq_zero_or_pos k with h0 | h0
        · exact .inl ⟨List.length_eq_zero_iff.1 (by rw [← HN.out]; exact h0), _, _, by rw [h0]⟩
        · refine .inr ⟨B, k, U, L, R, by rw [← HN.out], by rw [← HN.out]; exact Nat.le_refl _, by rw [← HN.out]; exact h0, ?_⟩
          rw [← HBB.out]; exact hU
      clear HG HR
      go_wp2
      go_ret
      exact ⟨⟨_, rfl, HS.out⟩, HBr.out⟩
end Go.Proofs.YtpalpbpamcaakaaGreat
