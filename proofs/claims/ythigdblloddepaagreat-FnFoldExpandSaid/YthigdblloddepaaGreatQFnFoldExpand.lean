/-
  laws.FnFoldExpand returns true whatever the code: after expansion a plain lookup gives the same translation as a folded lookup in the original dictionary, at all that the code draws. Conditions: none but the row's own.
-/
import Derived.Test.YthigdblloddepaaGreatG1FnFoldExpand
import Derived.Test.YthigdblloddepaaGreatDictE
import Derived.Test.YthigdblloddepaaGreatPD
import Derived.Test.YthigdblloddepaaGreatG2FnFoldExpand
import Derived.Test.YthigdblloddepaaGreatInsD
import Derived.Test.YthigdblloddepaaGreatCloneL
import Derived.Test.YthigdblloddepaaGreatImpl6E
import Derived.Test.YthigdblloddepaaGreatDictL
import Derived.Test.YthigdblloddepaaGreatRows
import Derived.WalkKit
import Derived.ProofKit
import Derived.OpenShut
import Derived.ShutString
import Derived.ChangeOld
import Derived.Below
import Derived.SliceStrings
import Derived.JoinedCond
import Derived.Deep.DeepHandedRow
import Derived.Deep.DeepWitnessRowRef
import Derived.Lib.Hide
namespace Go.Proofs.YthigdblloddepaaGreat
set_option maxRecDepth 100000
open Go.RowKit

/-! ### Plain -/
/-- The entry that a fold of an entry's outline adds. -/
def exI (es : List Ent) (fs : List Atm) (e : Ent) (f : Atm) : Option Ent :=
  if intB e.1 f.1 f.2 = true then (match lfX es fs (intI e.1 f.1 f.2) with | some (t, i) => if 0 ≤ i then some (intI e.1 f.1 f.2, t) else none | none => none) else none
def exP (es : List Ent) (fs : List Atm) (e : Ent) (acc : List Ent) (f : Atm) : List Ent := match exI es fs e f with | some x => Pl.put x acc | none => acc
def exF (es : List Ent) (fs : List Atm) (e : Ent) (acc : List Ent) (l : List Atm) : List Ent := l.foldl (exP es fs e) acc
def exE (es : List Ent) (fs : List Atm) (acc : List Ent) (l : List Ent) : List Ent := l.foldl (fun a e => exF es fs e a fs) acc
theorem exF_snoc (es : List Ent) (fs : List Atm) (e : Ent) (acc : List Ent) {l : List Atm} {k : Nat} {f : Atm} (h : l[k]? = some f) : exF es fs e acc (l.take (k + 1)) = exP es fs e (exF es fs e acc (l.take k)) f := by
  unfold exF
  rw [List.take_add_one, h]
  simp
theorem exE_snoc (es : List Ent) (fs : List Atm) (acc : List Ent) {l : List Ent} {k : Nat} {e : Ent} (h : l[k]? = some e) : exE es fs acc (l.take (k + 1)) = exF es fs e (exE es fs acc (l.take k)) fs := by
  unfold exE
  rw [List.take_add_one, h]
  simp
def exOk (es : List Ent) (fs : List Atm) : Bool := (okD es && Pl.okFs fs) && decide ((exE es fs es es).length ≤ 40)
def exO (es : List Ent) (fs : List Atm) : List Ent := if exOk es fs = true then exE es fs es es else []
theorem exI_no {es : List Ent} {fs : List Atm} {e : Ent} {f : Atm} (h : intB e.1 f.1 f.2 = false) : exI es fs e f = none := by unfold exI; rw [h]; rfl
theorem exI_none {es : List Ent} {fs : List Atm} {e : Ent} {f : Atm} (h : lfX es fs (intI e.1 f.1 f.2) = none) : exI es fs e f = none := by
  unfold exI; rw [h]; split <;> rfl
theorem exI_own {es : List Ent} {fs : List Atm} {e : Ent} {f : Atm} {t : ByteArray} {i : Int} (h : lfX es fs (intI e.1 f.1 f.2) = some (t, i)) (hi : ¬ 0 ≤ i) : exI es fs e f = none := by
  unfold exI; rw [h]; simp only [if_neg hi]; split <;> rfl
theorem exI_some {es : List Ent} {fs : List Atm} {e : Ent} {f : Atm} {t : ByteArray} {i : Int} (hb : intB e.1 f.1 f.2 = true) (h : lfX es fs (intI e.1 f.1 f.2) = some (t, i)) (hi : 0 ≤ i) : exI es fs e f = some (intI e.1 f.1 f.2, t) := by
  unfold exI; rw [if_pos hb, h]; simp only [if_pos hi]
theorem fdFind_fd1 {es : List Ent} {xs : List Int} {t : ByteArray} {i : Int} : ∀ (fs : List Atm) (k : Nat), fdFind es xs k fs = some (t, i) → 0 ≤ i ∧ ∃ f, f ∈ fs ∧ fd1 es xs f = some t
  | [], k, h => by simp [fdFind] at h
  | f :: r, k, h => by
    unfold fdFind at h
    cases hf : fd1 es xs f with
    | some t' =>
      rw [hf] at h
      simp only [Option.some.injEq, Prod.mk.injEq] at h
      exact ⟨by rw [← h.2]; omega, f, List.mem_cons_self .., by rw [hf, h.1]⟩
    | none =>
      rw [hf] at h
      obtain ⟨h1, g, h2, h3⟩ := fdFind_fd1 r (k + 1) h
      exact ⟨h1, g, List.mem_cons_of_mem _ h2, h3⟩
theorem fd1_ok {es : List Ent} {xs : List Int} {f : Atm} {t : ByteArray} (h : fd1 es xs f = some t) : parLB t = true := by
  unfold fd1 at h
  split at h
  · rename_i s _
    split at h
    · rename_i hb
      injection h with h
      subst h
      unfold fdT
      rw [if_pos hb]
      unfold fdB fd0B at hb
      simp only [Bool.and_eq_true] at hb
      exact hb.2.2
    · cases h
  · cases h
/-- What a fold adds is valid, and its outline has no entry. -/
theorem exI_ok {es : List Ent} {fs : List Atm} {e : Ent} {f : Atm} {x : Ent} (h : exI es fs e f = some x) : okE x = true ∧ Pl.look x.1 es = none := by
  unfold exI at h
  split at h
  · rename_i hb
    split at h
    · rename_i t i hl
      split at h
      · rename_i hi
        injection h with h
        subst h
        have hno : Pl.look (intI e.1 f.1 f.2) es = none := by
          cases hk : Pl.look (intI e.1 f.1 f.2) es with
          | none => rfl
          | some s => rw [lfX_some hk] at hl; injection hl with hl; injection hl with _ hl; omega
        rw [lfX_none hno] at hl
        obtain ⟨_, g, _, h1⟩ := fdFind_fd1 fs 0 hl
        refine ⟨?_, hno⟩
        unfold okE
        rw [fd1_ok h1, Bool.and_true]
        have h0 := hb
        unfold intB at hb
        simp only [Bool.and_eq_true, Bool.not_eq_true'] at hb
        obtain ⟨⟨h1, h2⟩, h3⟩ := hb
        obtain ⟨⟨q, hq, hq0, hq1⟩, _⟩ := Pl.okF_parts h2
        obtain ⟨ys, s, hys, hs0, hs1, hl, hy⟩ := okO_snoc h1
        dsimp only at hq h0 h3 ⊢
        rw [hys, hq] at h0 ⊢
        rw [hys, hq, lastN_snoc, Int.toNat_natCast] at h3
        unfold intI
        rw [if_pos h0, lastN_snoc, List.dropLast_concat, Int.toNat_natCast]
        have ho := Pl.or_two (s := s) (q := q) (by omega) (by omega) h3
        exact okO_of hl hy (Nat.le_trans hs0 (Nat.le_add_right _ _)) (by rw [← ho]; exact Pl.or_lt s q (by omega) (by omega))
      · cases h
    · cases h
  · cases h
/-- What holds of the entries so far. -/
structure ExIn (es acc : List Ent) (n : Nat) : Prop where
  inc : Pl.Inc acc
  ok : ∀ e ∈ acc, okE e = true
  keep : ∀ o t, Pl.look o es = some t → Pl.look o acc = some t
  len : acc.length ≤ n
theorem ExIn.start {es : List Ent} (h : okD es = true) : ExIn es es 40 := ⟨(okD_parts h).2.2, (okD_parts h).2.1, fun _ _ h => h, (okD_parts h).1⟩
theorem ExIn.mono {es acc : List Ent} {n m : Nat} (h : ExIn es acc n) (hm : n ≤ m) : ExIn es acc m := ⟨h.inc, h.ok, h.keep, Nat.le_trans h.len hm⟩
theorem ExIn.put {es acc : List Ent} {n : Nat} {x : Ent} (h : ExIn es acc n) (hx : okE x = true) (hn : Pl.look x.1 es = none) : ExIn es (Pl.put x acc) (n + 1) :=
  ⟨Pl.put_inc h.inc, fun e he => by
    rcases Pl.put_mem he with rfl | he
    · exact hx
    · exact h.ok e he, fun o t ho => by
    have hne : x.1 ≠ o := fun q => by rw [q, ho] at hn; cases hn
    rw [Pl.look_put_other (fun q => hne q.symm)]; exact h.keep o t ho, by have := Pl.put_len x acc; have := h.len; omega⟩
theorem ExIn.step {es acc : List Ent} {n : Nat} (h : ExIn es acc n) (fs : List Atm) (e : Ent) (f : Atm) : ExIn es (exP es fs e acc f) (n + 1) := by
  unfold exP
  cases hx : exI es fs e f with
  | none => exact h.mono (Nat.le_succ _)
  | some x => exact h.put (exI_ok hx).1 (exI_ok hx).2
theorem ExIn.fin {es acc : List Ent} {n : Nat} (h : ExIn es acc n) : okD acc = decide (acc.length ≤ 40) := by
  cases hd : decide (acc.length ≤ 40)
  · rw [decide_eq_false_iff_not] at hd
    cases ho : okD acc
    · rfl
    · exact absurd (okD_parts ho).1 hd
  · rw [decide_eq_true_eq] at hd
    exact okD_of hd h.ok h.inc
theorem exO_no {es : List Ent} {fs : List Atm} (h : exOk es fs = false) : exO es fs = [] := by unfold exO; rw [h]; rfl
theorem exOk_no {es : List Ent} {fs : List Atm} (h : (okD es && Pl.okFs fs) = false) : exOk es fs = false := by unfold exOk; rw [h]; rfl
/-! ### The specification's -/
theorem ints_m {w : World} {v : Value} {xs : List Int} (h : IntsAt w v xs) (h0 : 0 < xs.length) : IntsM w v xs := by
  obtain ⟨a, cap, rfl, hc, h⟩ := h
  rcases h with rfl | ⟨bk, o, rfl, hb, h⟩
  · simp at h0
  · exact .inr ⟨bk, o, cap, rfl, hc, hb, h⟩
theorem ents_m {w : World} {v : Value} {es : List Ent} (h : EntsAt w v es) (h0 : ∀ e ∈ es, 0 < e.1.length) : EntsM w v es := by
  obtain ⟨a, cap, hv, hc, h⟩ := h
  refine ⟨a, cap, hv, hc, ?_⟩
  rcases h with h | ⟨bk, o, ha, hk, h⟩
  · exact .inl h
  · refine .inr ⟨bk, o, ha, hk, fun j e he => ?_⟩
    obtain ⟨u, h1, h2, h3⟩ := h j e he
    exact ⟨u, h1, h2, ints_m h3 (h0 e (List.mem_of_getElem? he))⟩
/-- What stands in memory between the rounds. -/
structure XSt (w wr : World) (d : Value) (gO : Nat) (acc : List Ent) : Prop where
  box : BoxV wr w.heap.size 26 d
  res : BoxV wr (w.heap.size + 1) 26 (.slice none 0 0)
  out : ∃ v us, BoxV wr gO 26 v ∧ Rows wr (w.heap.size + 2) v us ∧ us.map (·.2) = acc
  low : Below w.heap.size w wr
  hO : w.heap.size + 1 < gO
theorem XSt.below {w wr wz : World} {d : Value} {gO : Nat} {acc : List Ent} (h : XSt w wr d gO acc) (hb : Below wr.heap.size wr wz) : XSt w wz d gO acc :=
  ⟨h.box.below hb h.box.lt, h.res.below hb h.res.lt, by obtain ⟨v, us, h1, h2, h3⟩ := h.out; exact ⟨v, us, h1.below hb h1.lt, h2.below hb, h3⟩, below_step h.low hb, h.hO⟩
theorem XSt.put {w wr : World} {d v' : Value} {gO : Nat} {acc acc' : List Ent} {us' : List (Value × Ent)} (h : XSt w wr d gO acc) {base : Nat} (hr : Rows wr base v' us') (hb : gO < base) (hm : us'.map (·.2) = acc') : XSt w (wr.setCell ⟨gO, 0, none⟩ v') d gO acc' :=
  ⟨h.box.other (by have := h.hO; omega), h.res.other (by have := h.hO; omega), by
    obtain ⟨v, us, h1, _, _⟩ := h.out
    exact ⟨v', us', h1.set v', (hr.setCell hb).mono (by have := h.hO; omega), hm⟩, h.low.setCell (p := ⟨gO, 0, none⟩) (by have := h.hO; show w.heap.size ≤ gO; omega) _, h.hO⟩
set_option maxHeartbeats 4000000 in
theorem specExpandFolds_any (v : Value) (es : List Ent) (fv : Value) (fs : List Atm) (w : World) (h : EntsAt w v es) (hn : es.length ≤ 2097152) (hx : ∀ e ∈ es, entOk e) (hf : AtomsAt w fv fs) (hfn : fs.length ≤ 2097152) (hfx : ∀ f ∈ fs, f.2.size ≤ 1048576) :
    Calls Tryz.prog 23 #[dV v, fv] w fun r w' => (∃ u us, r = .returned (.tuple #[dV u, .bool (exOk es fs)]) ∧ Rows w' w.heap.size u us ∧ us.map (·.2) = exO es fs) ∧ Below w.heap.size w w' := by
  have HE := Lib.hid h
  have HF := Lib.hid hf
  have cg := fun w' hb => l6Good_any v es w' (h.below (w' := w') hb) hn hx
  have cv := fun w' hb => specIsValidFolds_any fv fs w' (hf.below (w' := w') hb) hfn (fun e he => by have := hfx e he; unfold maxLen; omega)
  have cl := fun u xs w' hb hu hxn => specLookupFolded_any v es fv fs u xs w' (h.below (w' := w') hb) hn hx (hf.below hb) hfn hfx hu hxn
  obtain ⟨a, cap, rfl, hcap, hC⟩ := h.cells
  obtain ⟨fa, fc, rfl, hfc, hFC⟩ := fd_at hf
  have HFC := Lib.hid hFC
  have HC := Lib.hid hC
  obtain ⟨n, hnn⟩ : ∃ n, n = es.length := ⟨_, rfl⟩
  obtain ⟨fl, hfl⟩ : ∃ fl, fl = fs.length := ⟨_, rfl⟩
  have HFL := Lib.hid hfl
  have HN := Lib.hid hnn
  unfold dV at cg cl ⊢
  rw [← hnn] at HE hcap
  rw [← hfl] at HF hfc
  simp only [← hnn] at cg cl
  simp only [← hfl] at cv cl
  rw [← hnn, ← hfl]
  obtain ⟨W0, hW0⟩ : ∃ W, W = (w.alloc (.cells #[.slice a n cap] 26)).alloc (.cells #[.slice none 0 0] 26) := ⟨_, rfl⟩
  have HW0 := Lib.hid hW0
  have BX : Hid (Below w.heap.size w W0) := by rw [hW0]; exact below_al2 _ _ _
  have X0 : Hid (BoxV W0 w.heap.size 26 (.slice a n cap)) := by rw [hW0]; exact (BoxV.new w _ _).below (below_al _ _) (by simp)
  have R0 : Hid (BoxV W0 (w.heap.size + 1) 26 (.slice none 0 0)) := by
    have e := BoxV.new (w.alloc (.cells #[.slice a n cap] 26)) 26 (.slice none 0 0)
    rw [World.size_alloc] at e
    rw [hW0]; exact e
  have x0 := X0.out.cell
  rw [hW0] at x0
  clear hW0
  cases hg : okD es
  · rw [hg] at cg
    have CG := Lib.hid cg
    have hno := exOk_no (es := es) (fs := fs) (by rw [hg]; rfl)
    rw [exO_no hno, hno]
    clear h hf hx hfx hg cg cv cl hFC hC hfl hnn hfn hn hno
    go_enter Tryz.func23, Tryz.ntmps23
    go_wp2_with fail
    rw [← HW0.out]
    refine (CG.out _ BX.out).mono ?_
    rintro r w1 ⟨rfl, hb⟩
    have B1 := Lib.hid (below_step BX.out hb)
    have R1 := Lib.hid (R0.out.below hb R0.out.lt)
    have cR := R1.out.cell
    have fR := R1.out.frozen
    clear hb x0
    go_wp2
    (try simp only [Exit.inBlock, Exit.then])
    refine bodyPost_ret (results_dt2 rfl _ _ (w.heap.size + 1) _ rfl (R1.out.set _)) rfl ?_
    exact ⟨⟨_, [], rfl, Rows.nil _ _, rfl⟩, B1.out.setCell (by show w.heap.size ≤ w.heap.size + 1; omega) _⟩
  · rw [hg] at cg
    have CG := Lib.hid cg
    cases hfk : Pl.okFs fs
    · rw [hfk] at cv
      have CV := Lib.hid cv
      have hno := exOk_no (es := es) (fs := fs) (by rw [hg, hfk]; rfl)
      rw [exO_no hno, hno]
      clear h hf hx hfx hg hfk cg cv cl hFC hC hfl hnn hfn hn hno
      go_enter Tryz.func23, Tryz.ntmps23
      go_wp2_with fail
      rw [← HW0.out]
      refine (CG.out _ BX.out).mono ?_
      rintro r w1 ⟨rfl, hb⟩
      have B1 := Lib.hid (below_step BX.out hb)
      have R1 := Lib.hid (R0.out.below hb R0.out.lt)
      clear hb x0
      go_wp2_with fail
      refine (CV.out _ B1.out).mono ?_
      rintro r w2 ⟨rfl, hb⟩
      have B2 := Lib.hid (below_step B1.out hb)
      have R2 := Lib.hid (R1.out.below hb R1.out.lt)
      have cR := R2.out.cell
      have fR := R2.out.frozen
      clear hb
      go_wp2
      (try simp only [Exit.inBlock, Exit.then])
      refine bodyPost_ret (results_dt2 rfl _ _ (w.heap.size + 1) _ rfl (R2.out.set _)) rfl ?_
      exact ⟨⟨_, [], rfl, Rows.nil _ _, rfl⟩, B2.out.setCell (by show w.heap.size ≤ w.heap.size + 1; omega) _⟩
    · rw [hfk] at cv
      have CV := Lib.hid cv
      obtain ⟨h40, hoks, _⟩ := okD_parts hg
      obtain ⟨hf6, hfv, _⟩ := Pl.okFs_parts hfk
      have hfl6 : fl ≤ 6 := by rw [hfl]; exact hf6
      have hnn40 : n ≤ 40 := by rw [hnn]; exact h40
      have HSt := ExIn.start hg
      have hEX : exOk es fs = decide ((exE es fs es es).length ≤ 40) := by unfold exOk; rw [hg, hfk]; rfl
      have HEX := Lib.hid hEX
      have HX := Lib.hid (fun k e (h : es[k]? = some e) => show 1 ≤ e.1.length ∧ e.1.length ≤ 6 from ⟨(okE_size (hoks e (List.mem_of_getElem? h))).1, (okE_size (hoks e (List.mem_of_getElem? h))).2.1⟩)
      have HFx := Lib.hid (fun k f (hkf : fs[k]? = some f) => show f.2.size ≤ 1048576 from hfx f (List.mem_of_getElem? hkf))
      have hlf : ∀ xs, lfR es fs xs = lfX es fs xs := fun xs => lfR_yes (by rw [hg, hfk]; rfl)
      simp only [hlf] at cl
      have CL := Lib.hid cl
      have co := fun w' hb => l6Own_any (.slice a n cap) es w' (ents_m (HE.out.below (w' := w') hb) fun x hx' => by have := okE_size (hoks x hx'); omega) (by omega) hx
      unfold dV at co
      have CO := Lib.hid co
      clear h hf hx hfx hg hfk cg cv cl co hFC hC hfl hnn hfn hn hoks hfv hEX hlf
      go_enter Tryz.func23, Tryz.ntmps23
      go_wp2_with fail
      rw [← HW0.out]
      refine (CG.out _ BX.out).mono ?_
      rintro r w1 ⟨rfl, hb⟩
      have B1 := Lib.hid (below_step BX.out hb)
      have X1 := Lib.hid (X0.out.below hb X0.out.lt)
      have R1 := Lib.hid (R0.out.below hb R0.out.lt)
      clear hb x0
      go_wp2_with fail
      refine (CV.out _ B1.out).mono ?_
      rintro r w2 ⟨rfl, hb⟩
      have B2 := Lib.hid (below_step B1.out hb)
      have X2 := Lib.hid (X1.out.below hb X1.out.lt)
      have R2 := Lib.hid (R1.out.below hb R1.out.lt)
      have cX := X2.out.cell
      clear hb X1 R1
      go_wp2_with fail
      refine (CO.out w2 B2.out).mono ?_
      rintro r w3 ⟨⟨v3, us3, rfl, hr3, hm3⟩, hb⟩
      obtain ⟨va3, vc3, hv3⟩ := hr3.form
      subst hv3
      obtain ⟨gO, hgO⟩ : ∃ g, g = w3.heap.size := ⟨_, rfl⟩
      obtain ⟨W, hW⟩ : ∃ W, W = w3.alloc (.cells #[.slice va3 us3.length vc3] 26) := ⟨_, rfl⟩
      have hbW : Below w3.heap.size w3 W := by rw [hW]; exact below_al _ _
      have hwW : W.heap.size = gO + 1 := by rw [hW, hgO]; simp
      have St0 : Hid (XSt w W (.slice a n cap) gO es) := Lib.hid ⟨(X2.out.below hb X2.out.lt).below hbW (by have := X2.out.lt; have := hb.size; omega), (R2.out.below hb R2.out.lt).below hbW (by have := R2.out.lt; have := hb.size; omega), ⟨_, us3, by rw [hW, hgO]; exact BoxV.new _ _ _, (hr3.below hbW).mono (by have := R2.out.lt; omega), hm3⟩, below_step (below_step B2.out hb) hbW, by have := R2.out.lt; have := hb.size; omega⟩
      have HW := Lib.hid hW
      clear hr3 hm3 hb hbW hW B2 X2 R2 cX CG CV CO HW0 X0 R0 B1
      have HgO := Lib.hid hgO
      clear hgO
      go_wp2_with fail
      rw [← HW.out, ← HgO.out]
      clear HW HgO
      go_loopw [7] (fun i wr => ∃ (k : Nat) (acc : List Ent), i = .int .i64 k ∧ k ≤ n ∧ Hid (acc = exE es fs es (es.take k)) ∧ Hid (ExIn es acc (40 + 6 * k)) ∧ Hid (XSt w wr (.slice a n cap) gO acc)) (fun i _ => n - (intOf i).toNat)
      case atStart => exact ⟨0, es, rfl, Nat.zero_le _, Lib.hid rfl, Lib.hid (HSt.mono (by omega)), St0⟩
      case round =>
        obtain ⟨k, acc0, rfl, hk, HA, HI, HS⟩ := hrel
        have cx := HS.out.box.cell
        by_cases hlt : k < n
        · obtain ⟨e, he⟩ : ∃ e, es[k]? = some e := ⟨_, List.getElem?_eq_getElem (by rw [← HN.out]; exact hlt)⟩
          have HSn := Lib.hid (exE_snoc es fs es he)
          have HXe := Lib.hid (HX.out k e he)
          have HEk := Lib.hid (fun wz hb => HC.out wz hb k e he)
          clear he
          go_wp2_with fail
          clear cx
          obtain ⟨wo, hwo⟩ : ∃ x, x = wr := ⟨_, rfl⟩
          subst hwo
          go_loopw [8] (fun i wr => ∃ (j : Nat) (acc : List Ent), i = .int .i64 j ∧ j ≤ fl ∧ Hid (acc = exF es fs e acc0 (fs.take j)) ∧ Hid (ExIn es acc (40 + 6 * k + j)) ∧ Hid (XSt w wr (.slice a n cap) gO acc)) (fun i _ => fl - (intOf i).toNat)
          case atStart => exact ⟨0, acc0, rfl, Nat.zero_le _, Lib.hid rfl, HI, HS⟩
          case round =>
            obtain ⟨j, acc, rfl, hj, HAj, HIj, HSj⟩ := hrel
            by_cases hjl : j < fl
            · obtain ⟨f, hf⟩ : ∃ f, fs[j]? = some f := ⟨_, List.getElem?_eq_getElem (by rw [← HFL.out]; exact hjl)⟩
              have HFn := Lib.hid (exF_snoc es fs e acc0 hf)
              obtain ⟨bk, o, uk, rfl, hbk, g0, _, gi⟩ := HEk.out wr HSj.out.low
              obtain ⟨fb, fo, rfl, hfb, f0, f1⟩ := HFC.out wr HSj.out.low j f hf
              have hft := HFx.out j f hf
              obtain ⟨hx1, hx2⟩ := HXe.out
              have cx := HSj.out.box.cell
              have HNo := Lib.hid (fun (h : exI es fs e f = none) => show acc = exF es fs e acc0 (fs.take (j + 1)) from by rw [HFn.out, ← HAj.out]; unfold exP; rw [h])
              have HPut := Lib.hid (fun x (h : exI es fs e f = some x) => show Pl.put x acc = exF es fs e acc0 (fs.take (j + 1)) from by rw [HFn.out, ← HAj.out]; unfold exP; rw [h])
              have HIp := Lib.hid (fun x (h : exI es fs e f = some x) => HIj.out.put (exI_ok h).1 (exI_ok h).2)
              have HOkx := Lib.hid (fun x (h : exI es fs e f = some x) => okE_size (exI_ok h).1)
              have HIno := Lib.hid (fun h => exI_no (es := es) (fs := fs) (e := e) (f := f) h)
              have HInone := Lib.hid (fun h => exI_none (es := es) (fs := fs) (e := e) (f := f) h)
              have HIown := Lib.hid (fun t i h hi => exI_own (es := es) (fs := fs) (e := e) (f := f) (t := t) (i := i) h hi)
              have HIsome := Lib.hid (fun t i hb h hi => exI_some (es := es) (fs := fs) (e := e) (f := f) (t := t) (i := i) hb h hi)
              have cs := fun wz (hb : Below wr.heap.size wr wz) => specFoldInto_any uk e.1 f.1 f.2 wz (ints_m (gi.below hb) (by omega)) (by omega) hft
              unfold OutE atV at cs
              obtain ⟨zs, hzs⟩ : ∃ zs, zs = intI e.1 f.1 f.2 := ⟨_, rfl⟩
              have hzl : zs.length ≤ 6 := by rw [hzs]; exact intI_len _ _ _
              have hz0 : intB e.1 f.1 f.2 = true → 0 < zs.length := fun hb => by rw [hzs]; unfold intI; rw [if_pos hb]; simp
              rw [← hzs] at cs HInone HIown HIsome
              obtain ⟨b, hbb⟩ : ∃ b, b = intB e.1 f.1 f.2 := ⟨_, rfl⟩
              rw [← hbb] at cs HIno HIsome hz0
              have CS := Lib.hid cs
              have Hz0 := Lib.hid hz0
              have HEn := Lib.hid (show ∀ x ∈ acc, entOk x from fun x hx => by have := okE_size (HIj.out.ok x hx); exact ⟨by omega, by omega⟩)
              have hal := HIj.out.len
              obtain ⟨X, hX⟩ : ∃ X, X = exI es fs e f := ⟨_, rfl⟩
              rw [← hX] at HNo HPut HIp HOkx HIno HInone HIown HIsome
              obtain ⟨L, hL⟩ : ∃ L, L = lfX es fs zs := ⟨_, rfl⟩
              rw [← hL] at HInone HIown HIsome
              have HL := Lib.hid hL
              obtain ⟨fk, ft⟩ := f
              dsimp only at f0 f1 CS
              have k0 := cell_regrown g0
              have k1 := cell_regrown cx
              have k2 := cell_regrown f0
              have k3 := cell_regrown f1
              clear hf hbb hX hzs hz0 cs gi hft hfb hbk hL
              go_wp2_with fail
              refine Mx.wp_region_mixed (Mx.ofL [(0, 0), (1, 1), (2, 0), (3, 0), (4, 0), (5, 1), (6, 0), (7, 0), (8, 0), (9, 1), (10, 3), (11, 0), (12, 0), (13, 0), (14, 0), (15, 0)] .done) (by kernel_rfl) (by kernel_rfl) ?_
              repeat ((first | refine Mx.mix0 rfl ?_ | refine Mx.mix1 rfl ?_); go_big_quiet_step (fail); refine wpQuiet_nil ?_)
              refine Mx.mix3 rfl ?_
              go_wp2_with fail
              refine (CS.out _ (below_drewF (Below.refl _ _) 1)).mono ?_
              rintro r w4 ⟨⟨y, rfl, hy⟩, hb⟩
              have G4 : Hid (Below wr.heap.size wr w4) := Lib.hid ((below_drewF (Below.refl _ _) 1).trans hb)
              have S4 := Lib.hid (HSj.out.below G4.out)
              have Y4 := Lib.hid hy
              clear hb hy k0 k1 k2 k3 g0 cx f0 f1 CS
              go_wp2
              refine Mx.mid_normal (fun q => by cases q) ?_
              repeat ((first | refine Mx.mix0 rfl ?_ | refine Mx.mix1 rfl ?_); go_big_quiet_step (fail); refine wpQuiet_nil ?_)
              refine Mx.mix_nil ?_
              cases b
              · have hA := HNo.out (HIno.out (by first | rfl | trivial))
                have HA1 := Lib.hid hA
                clear hA HNo HPut HIp HOkx HIno HInone HIown HIsome
                go_wp2
                go_roundw
                case rel => exact ⟨j + 1, acc, by go_num, by omega, HA1, Lib.hid (HIj.out.mono (by omega)), S4⟩
                case measure => simp [intOf]; omega
              · have hzp := Hz0.out (by first | rfl | trivial)
                have Ym := Lib.hid (ints_m Y4.out hzp)
                have cx := S4.out.box.cell
                go_wp2_with fail
                refine (CL.out y zs w4 S4.out.low Ym.out (by omega)).mono ?_
                rintro r w5 ⟨rfl, hb⟩
                have S5 := Lib.hid (S4.out.below hb)
                have Ym5 := Lib.hid (Ym.out.below hb)
                rw [← HL.out]
                obtain ⟨ya, yc, hye, _, _⟩ := Ym5.out.at.cells
                subst hye
                clear hb cx Y4 Ym S4 G4
                cases L with
                | none =>
                  have hA := HNo.out (HInone.out (by first | rfl | trivial))
                  have HA1 := Lib.hid hA
                  clear hA HNo HPut HIp HOkx HIno HInone HIown HIsome
                  rw [lfE_none]
                  go_wp2
                  go_roundw
                  case rel => exact ⟨j + 1, acc, by go_num, by omega, HA1, Lib.hid (HIj.out.mono (by omega)), S5⟩
                  case measure => simp [intOf]; omega
                | some p =>
                  obtain ⟨t, i⟩ := p
                  rw [lfE_some]
                  by_cases hi : i ≥ 0
                  · have hX := HIsome.out t i (by first | rfl | trivial) (by first | rfl | trivial) (by omega)
                    have HA1 := Lib.hid (HPut.out _ hX)
                    have HI1 := Lib.hid (HIp.out _ hX)
                    obtain ⟨_, _, ht⟩ := HOkx.out _ hX
                    dsimp only at ht
                    obtain ⟨v, us, b1, r1, m1⟩ := S5.out.out
                    obtain ⟨va, vc, rfl⟩ := r1.form
                    have cp := fun wz hb => l6Put_any (.slice va us.length vc) acc (.slice ya zs.length yc) (zs, t) wz (by rw [← m1]; exact (r1.below hb).at) (Ym5.out.below (w' := wz) hb) (by omega) HEn.out ⟨by show zs.length ≤ _; omega, by show t.size ≤ _; omega⟩
                    unfold dV enV at cp
                    have CP := Lib.hid cp
                    have cO := b1.cell
                    clear cp r1 m1 HNo HPut HIp HOkx HIno HInone HIown HIsome
                    go_wp2_with fail
                    refine (CP.out _ (Below.refl _ _)).mono ?_
                    rintro r w6 ⟨⟨v', us', rfl, hr6, hm6⟩, hb⟩
                    have S6 := Lib.hid (S5.out.below hb)
                    have hgO : gO < w5.heap.size := b1.lt
                    obtain ⟨va', vc', rfl⟩ := hr6.form
                    have S7 := Lib.hid (S6.out.put hr6 hgO hm6)
                    obtain ⟨_, _, c6, _, _⟩ := S6.out.out
                    have cO6 := c6.cell
                    have fO6 := c6.frozen
                    clear hr6 hm6 hb cO b1 S5 S6 c6 CP
                    go_wp2
                    go_roundw
                    case rel => exact ⟨j + 1, _, by go_num, by omega, HA1, Lib.hid (HI1.out.mono (by omega)), S7⟩
                    case measure => simp [intOf]; omega
                  · have hA := HNo.out (HIown.out t i (by first | rfl | trivial) (by omega))
                    have HA1 := Lib.hid hA
                    clear hA HNo HPut HIp HOkx HIno HInone HIown HIsome
                    go_wp2
                    go_roundw
                    case rel => exact ⟨j + 1, acc, by go_num, by omega, HA1, Lib.hid (HIj.out.mono (by omega)), S5⟩
                    case measure => simp [intOf]; omega
            · obtain rfl : j = fl := by omega
              have HA2 : Hid (acc = exE es fs es (es.take (k + 1))) := Lib.hid (by rw [HSn.out, ← HA.out, HAj.out, List.take_of_length_le (by rw [← HFL.out]; exact Nat.le_refl _)])
              go_wp2
              go_roundw
              case rel => exact ⟨k + 1, acc, by go_num, by omega, HA2, Lib.hid (HIj.out.mono (by omega)), HSj⟩
              case measure => simp [intOf]; omega
        · obtain rfl : k = n := by omega
          have HA2 : Hid (acc0 = exE es fs es es) := Lib.hid (by rw [HA.out, List.take_of_length_le (by rw [← HN.out]; exact Nat.le_refl _)])
          obtain ⟨v, us, b1, r1, m1⟩ := HS.out.out
          obtain ⟨va, vc, rfl⟩ := r1.form
          have hal := HI.out.len
          have hul : us.length = acc0.length := by rw [← m1, List.length_map]
          have cg := fun wz hb => l6Good_any (.slice va us.length vc) acc0 wz (by rw [← m1]; exact (r1.below (w' := wz) hb).at.at) (by omega) (fun x hx => by have := okE_size (HI.out.ok x hx); exact ⟨by omega, by omega⟩)
          rw [HI.out.fin] at cg
          unfold dV at cg
          have CG := Lib.hid cg
          have HR1 := Lib.hid r1
          have HM1 := Lib.hid m1
          have HLe : Hid (exOk es fs = decide (acc0.length ≤ 40)) := Lib.hid (by rw [HEX.out, HA2.out])
          have cO := b1.cell
          obtain ⟨ul, hul2⟩ : ∃ ul, ul = us.length := ⟨_, rfl⟩
          have HUl := Lib.hid hul2
          rw [← hul2] at cO CG
          clear cg r1 m1 hul hul2
          by_cases h40b : acc0.length ≤ 40
          · rw [decide_eq_true h40b] at HLe CG
            have HRes : Hid (exO es fs = acc0) := Lib.hid (by unfold exO; rw [HLe.out, if_pos rfl, HA2.out])
            go_wp2_with fail
            refine (CG.out wr (Below.refl _ _)).mono ?_
            rintro r w4 ⟨rfl, hb⟩
            have S4 := Lib.hid (HS.out.below hb)
            have R4 := Lib.hid (HR1.out.below hb)
            have cO4 := (b1.below hb b1.lt).cell
            have cR := S4.out.res.cell
            have fR := S4.out.res.frozen
            rw [← HUl.out] at cO4
            clear hb cO cx
            go_wp2
            refine bodyPost_ret (results_dt2 rfl _ _ (w.heap.size + 1) _ rfl (S4.out.res.set _)) rfl ?_
            rw [HLe.out, HRes.out, HUl.out]
            exact ⟨⟨_, us, rfl, (R4.out.setCell (by omega)).mono (by omega), HM1.out⟩, S4.out.low.setCell (p := ⟨w.heap.size + 1, 0, none⟩) (by show w.heap.size ≤ w.heap.size + 1; omega) _⟩
          · rw [decide_eq_false h40b] at HLe CG
            go_wp2_with fail
            refine (CG.out wr (Below.refl _ _)).mono ?_
            rintro r w4 ⟨rfl, hb⟩
            have S4 := Lib.hid (HS.out.below hb)
            have cR := S4.out.res.cell
            have fR := S4.out.res.frozen
            clear hb cO cx
            go_wp2
            (try simp only [Exit.inBlock, Exit.then])
            refine bodyPost_ret (results_dt2 rfl _ _ (w.heap.size + 1) _ rfl (S4.out.res.set _)) rfl ?_
            rw [exO_no HLe.out, HLe.out]
            exact ⟨⟨_, [], rfl, Rows.nil _ _, rfl⟩, S4.out.low.setCell (p := ⟨w.heap.size + 1, 0, none⟩) (by show w.heap.size ≤ w.heap.size + 1; omega) _⟩
end Go.Proofs.YthigdblloddepaaGreat

namespace Go.Proofs.YthigdblloddepaaGreat
set_option maxRecDepth 100000
open Go.RowKit

/-- A drawn dictionary and drawn folds. -/
def DBo (base : Nat) (w' : World) (r : Ending) : Prop := ∃ (v : Value) (us : List (Value × Ent)) (fv : Value) (fs : List Atm), r = .returned (.tuple #[dV v, fv]) ∧
  Rows w' base v us ∧ us.length ≤ 60 ∧ (∀ p ∈ us, p.2.1.length ≤ 8 ∧ p.2.2.size ≤ 60) ∧ AtF w' base fv fs ∧ smF fs
theorem DL.below {w wx wy : World} {D N : Nat} {v fv u : Value} {us : List (Value × Ent)} {fs : List Atm} {xs : List Int} (h : DL w wx D v us fv fs u xs N) (hb : Below wx.heap.size wx wy) : DL w wy D v us fv fs u xs N :=
  h.keep (grown_belowF (World.grownBy.refl wx (some (w.heap.size + 1))) hb) (h.cur.below hb)
theorem DL.mono {w wx : World} {D N N' : Nat} {v fv u : Value} {us : List (Value × Ent)} {fs : List Atm} {xs : List Int} (h : DL w wx D v us fv fs u xs N) (hN : N ≤ N') : DL w wx D v us fv fs u xs N' :=
  ⟨h.box, h.res, h.rows, h.folds, h.outl, h.outB, h.cur.mono hN, h.low, h.hD, h.hDs⟩
/-- A world in which the dictionary's box, the entries' outlines and the folds are seen. -/
structure SeenB (D : Nat) (v : Value) (g : Nat) (us : List (Value × Ent)) (fb fo : Nat) (fs : List Atm) where
  world : World
  cell : world.cell? ⟨D, 0, none⟩ = some v
  row : ∀ (j : Nat) (p : Value × Ent), us[j]? = some p → world.cell? ⟨g, j * 2, none⟩ = some p.1
  fold : ∀ (j : Nat) (f : Atm), fs[j]? = some f → world.cell? ⟨fb, fo + j * 2, none⟩ = some (.int .i64 f.1) ∧ world.cell? ⟨fb, fo + j * 2 + 1, none⟩ = some (.string f.2)
theorem DL.seen {w wx : World} {D N g fb fo n fc m vc : Nat} {u : Value} {us : List (Value × Ent)} {fs : List Atm} {xs : List Int} (h : DL w wx D (.slice (some ⟨g, 0, none⟩) n vc) us (.slice (some ⟨fb, fo, none⟩) m fc) fs u xs N) (h0 : 0 < us.length) :
    ∃ p : SeenB D (.slice (some ⟨g, 0, none⟩) n vc) g us fb fo fs, wx = p.world := by
  obtain ⟨g', cap, hv, _, _, hc⟩ := h.rows.cells h0
  cases hv
  obtain ⟨fb', fo', fc', hv, _, _, _, _, hf⟩ := h.folds
  cases hv
  exact ⟨⟨wx, h.box.cell, fun j p hp => (hc j p hp).1, hf⟩, rfl⟩
theorem put_pos (e : Ent) (es : List Ent) : 1 ≤ (Pl.put e es).length := by
  cases es with
  | nil => exact Nat.le_refl 1
  | cons x r => unfold Pl.put; split <;> simp
theorem put_small {es : List Ent} {e : Ent} {us : List (Value × Ent)} (h : us.map (·.2) = Pl.put e es) (he : e.1.length ≤ 8 ∧ e.2.size ≤ 60) (hs : ∀ x ∈ es, x.1.length ≤ 8 ∧ x.2.size ≤ 60) : us.length ≤ es.length + 1 ∧ 1 ≤ us.length ∧ ∀ p ∈ us, p.2.1.length ≤ 8 ∧ p.2.2.size ≤ 60 := by
  have hl := congrArg List.length h
  rw [List.length_map] at hl
  refine ⟨by rw [hl]; exact Pl.put_len e es, by rw [hl]; exact put_pos e es, fun p hp => ?_⟩
  have : p.2 ∈ Pl.put e es := by rw [← h]; exact List.mem_map_of_mem hp
  rcases Pl.put_mem this with h1 | h1
  · rw [h1]; exact he
  · exact hs _ h1
set_option maxHeartbeats 4000000 in
theorem drawBoth_any (a : Option Addr) (n cap : Nat) (w : World) (h : CodeAt w a n) :
    Calls Tryz.prog 48 #[.slice a n cap] w fun r w' => DBo w.heap.size w' r ∧ Below w.heap.size w w' := by
  have cd := fun B N w h hN => dictionary_any B N w h hN
  have cy := fun B N w h hN => anyDictionary_any B N w h hN
  have cf := fun B N w h hN => drawFolds_any B N w h hN
  have ct := fun B N w h hN => translation_any B N w h hN
  have CP := Lib.hid (fun B N n w h hN h0 h1 => pick_any B N n w h hN h0 h1)
  have C1 := Lib.hid (fun B N n w h hN h0 h1 => one_any B N n w h hN h0 h1)
  unfold DFs at cf
  unfold DDict at cy
  unfold dV at cd cy
  unfold Text at ct
  have CD := Lib.hid cd
  have CY := Lib.hid cy
  have CF := Lib.hid cf
  have CT := Lib.hid ct
  clear cd cy cf ct
  obtain ⟨w0, hw0⟩ : ∃ W, W = (w.alloc (.cells #[.slice none 0 0] 26)).alloc (.cells #[.slice a n cap, .int .i64 0, .int .u64 0] 72) := ⟨_, rfl⟩
  have hb0 : Below w.heap.size w w0 := by rw [hw0]; exact below_al2 _ _ _
  have hs0 : w0.heap.size = w.heap.size + 1 + 1 := by rw [hw0]; simp
  have R0 : Hid (BoxV w0 w.heap.size 26 (.slice none 0 0)) := by rw [hw0]; exact (BoxV.new w _ _).below (below_al _ _) (by simp)
  have C0 : Hid (Cur w0 (w.heap.size + 1) 0) := by
    have e := cur_new (w.alloc (.cells #[.slice none 0 0] 26)) a n cap 72 (h.below (below_al _ _))
    rw [World.size_alloc] at e
    rw [hw0]; exact e
  have HB0 := Lib.hid hb0
  have HW0 := Lib.hid hw0
  clear h hb0 hw0
  go_enter Tryz.func48, Tryz.ntmps48
  go_wp2_with fail
  rw [← HW0.out]
  refine (CD.out _ _ _ C0.out (by omega)).mono ?_
  rintro r w1 ⟨⟨v, us, rfl, hr1, hl0, hl1, hx1⟩, hc1, hg1⟩
  obtain ⟨va, vc, hvf⟩ := hr1.form
  subst hvf
  have hs1 : w0.heap.size ≤ w1.heap.size := hg1.size
  have hb1 : Below w.heap.size w w1 := HB0.out.grown hg1 (by omega) (fun b e => by injection e with e; omega)
  obtain ⟨w2, hw2⟩ : ∃ W, W = w1.alloc (.cells #[.slice va us.length vc] 26) := ⟨_, rfl⟩
  have hbA : Below w1.heap.size w1 w2 := by rw [hw2]; exact below_al _ _
  have X2 : Hid (BoxV w2 w1.heap.size 26 (.slice va us.length vc)) := by rw [hw2]; exact BoxV.new _ _ _
  have R2 := Lib.hid ((R0.out.grown hg1 (by simp)).below hbA (by have := R0.out.lt; omega))
  have V2 := Lib.hid (hr1.below hbA)
  have C2 := Lib.hid (hc1.below hbA)
  have HB2 := Lib.hid (below_step hb1 hbA)
  have hs2 : w2.heap.size = w1.heap.size + 1 := by rw [hw2]; simp
  have HW2 := Lib.hid hw2
  have HX := Lib.hid hx1
  clear hr1 hx1 hc1 hg1 hb1 hbA hw2 R0 C0 HB0 HW0 CD
  go_wp2_with fail
  rw [← HW2.out]
  refine (CF.out _ _ w2 C2.out (by omega)).mono ?_
  rintro r w3 ⟨⟨fv, fs, rfl, hf3, hsm⟩, hc3, hg3⟩
  have L3 : Hid (DL w w3 w1.heap.size (.slice va us.length vc) us fv fs (.slice none 0 0) [] _) := Lib.hid ⟨X2.out.keep hg3 (by omega), R2.out.grown hg3 (by simp), (V2.out.keep hg3 (by omega)).mono (by omega), hf3.mono (by omega), .inl ⟨rfl, rfl⟩, fun b hb => (by cases hb), hc3, HB2.out.grown hg3 (by omega) (fun b e => by injection e with e; omega), by omega, by have := hg3.size; omega⟩
  have HS := Lib.hid hsm
  obtain ⟨fb, fo, fc, hfv, hfc, _⟩ := hf3
  subst hfv
  obtain ⟨D, hD⟩ : ∃ D, D = w1.heap.size := ⟨_, rfl⟩
  obtain ⟨fl, hfl⟩ : ∃ fl, fl = fs.length := ⟨_, rfl⟩
  have HFL := Lib.hid hfl
  have hfl1 : 1 ≤ fl := by rw [hfl]; exact hsm.1
  have hfl2 : fl ≤ 11 := by rw [hfl]; exact hsm.2.1
  rw [← hD, ← hfl] at L3
  rw [← hfl] at hfc ⊢
  have HDe := Lib.hid hD
  clear hsm hc3 hg3 X2 R2 V2 C2 HB2 HW2 CF hfl hD hs2 hs1
  go_wp2_with fail
  refine (CP.out _ _ 3 w3 L3.out.cur (by omega) (by omega) (by omega)).mono ?_
  rintro r w4 ⟨⟨q, q0, q1, rfl⟩, hc4, hg4⟩
  obtain ⟨q, rfl⟩ := Int.eq_ofNat_of_zero_le q0
  have L4 := Lib.hid (L3.out.keep hg4 hc4)
  rw [← HDe.out]
  clear hc4 hg4 L3 HDe
  go_wp2_with fail
  go_loopw [7] (fun i wr => ∃ (k : Nat) (v : Value) (us : List (Value × Ent)) (N : Nat), i = .int .i64 k ∧ k ≤ 2 ∧ N ≤ 3000 + 500 * (2 - k) ∧ 1 ≤ us.length ∧ us.length ≤ 10 + (2 - k) ∧ Hid (∀ p ∈ us, p.2.1.length ≤ 8 ∧ p.2.2.size ≤ 60) ∧ Hid (DL w wr D v us (.slice (some ⟨fb, fo, none⟩) fl fc) fs (.slice none 0 0) [] N)) (fun i _ => (intOf i).toNat)
  case atStart => exact ⟨q, _, us, _, rfl, by omega, by omega, hl0, by omega, HX, L4⟩
  case round =>
    obtain ⟨k, v, us, N, rfl, hk, hN, hu0, hu1, HX, HL⟩ := hrel
    have hu0' : 0 < us.length := by omega
    obtain ⟨g, vcap, hv, _, _, _⟩ := HL.out.rows.cells hu0'
    subst hv
    have HSn := Lib.hid (HL.out.seen hu0')
    have cX := HL.out.box.cell
    obtain ⟨un, hun⟩ : ∃ un, un = us.length := ⟨_, rfl⟩
    have HUn := Lib.hid hun
    rw [← hun] at HL HSn cX hu0 hu1 hu0'
    clear hun
    by_cases hk0 : 0 < k
    · have hk1 : (k : Int) > 0 := by omega
      have hun1 : (un : Int) > 0 := by omega
      have hun2 : (un : Int) < 40 := by omega
      have Ld := Lib.hid (HL.out.below (below_drew1 (Below.refl _ _)))
      have HSd := Lib.hid (Ld.out.seen (by rw [← HUn.out]; exact hu0'))
      have kD : ∀ p : SeenB D (.slice (some ⟨g, 0, none⟩) un vcap) g us fb fo fs, p.world.cell? ⟨D, 0, none⟩ = some (.slice (some ⟨g, 0, none⟩) un vcap) := fun p => p.cell
      go_wp2_with fail
      refine Mx.wp_region_mix (S := fun w' => ∃ p : SeenB D (.slice (some ⟨g, 0, none⟩) un vcap) g us fb fo fs, w' = p.world) (Mx.ofL [(0, 0), (1, 1), (2, 0), (3, 0), (4, 1), (5, 0), (10, 0), (11, 0), (12, 0), (13, 0), (6, 2), (7, 0), (8, 0), (9, 1), (14, 2), (15, 0), (16, 1), (17, 3), (18, 0), (19, 0), (20, 0), (21, 0), (22, 0)] .done) (by kernel_rfl) (by kernel_rfl) HSd.out ?_
      repeat ((first | refine Mx.mix0 rfl ?_ | refine Mx.mix1 rfl ?_); go_big_quiet_step (rfl); refine wpQuiet_nil ?_)
      refine Mx.mix2 rfl ?_
      clear kD cX
      go_wp2_with fail
      refine (CP.out _ _ (un : Int) wr.drew Ld.out.cur (by omega) (by omega) (by omega)).mono ?_
      rintro r w5 ⟨⟨q, q0, q1, rfl⟩, hc5, hg5⟩
      obtain ⟨j, rfl⟩ := Int.eq_ofNat_of_zero_le q0
      have L5 := Lib.hid (Ld.out.keep hg5 hc5)
      obtain ⟨p, hp⟩ : ∃ p, us[j]? = some p := ⟨_, List.getElem?_eq_getElem (by rw [← HUn.out]; omega)⟩
      have HS5 := Lib.hid (L5.out.seen (by rw [← HUn.out]; exact hu0'))
      have kR : ∀ s : SeenB D (.slice (some ⟨g, 0, none⟩) un vcap) g us fb fo fs, s.world.cell? ⟨g, j * 2, none⟩ = some p.1 := fun s => s.row j p hp
      have HPm := Lib.hid (List.mem_of_getElem? hp)
      clear hc5 hg5 hp Ld HSd HSn HL
      go_wp2
      refine Mx.mid_normal (fun _ => HS5.out) ?_
      repeat ((first | refine Mx.mix0 rfl ?_ | refine Mx.mix1 rfl ?_); go_big_quiet_step (rfl); refine wpQuiet_nil ?_)
      refine Mx.mix2 rfl ?_
      clear kR
      go_wp2_with fail
      refine (CP.out _ _ (fl : Int) w5 L5.out.cur (by omega) (by omega) (by omega)).mono ?_
      rintro r w6 ⟨⟨q, q0, q1, rfl⟩, hc6, hg6⟩
      obtain ⟨i, rfl⟩ := Int.eq_ofNat_of_zero_le q0
      have L6 := Lib.hid (L5.out.keep hg6 hc6)
      obtain ⟨f, hf⟩ : ∃ f, fs[i]? = some f := ⟨_, List.getElem?_eq_getElem (by rw [← HFL.out]; omega)⟩
      have HS6 := Lib.hid (L6.out.seen (by rw [← HUn.out]; exact hu0'))
      have kF0 : ∀ s : SeenB D (.slice (some ⟨g, 0, none⟩) un vcap) g us fb fo fs, s.world.cell? ⟨fb, fo + i * 2, none⟩ = some (.int .i64 f.1) := fun s => (s.fold i f hf).1
      have kF1 : ∀ s : SeenB D (.slice (some ⟨g, 0, none⟩) un vcap) g us fb fo fs, s.world.cell? ⟨fb, fo + i * 2 + 1, none⟩ = some (.string f.2) := fun s => (s.fold i f hf).2
      have hft : f.2.size ≤ 1048576 := by have := HS.out.2.2 f (List.mem_of_getElem? hf); omega
      have hpi : IntsM w6 p.1 p.2.1 := (L6.out.rows.ints p HPm.out).1
      have hps := HX.out p HPm.out
      have cs := specFoldInto_own p.1 p.2.1 f.1 f.2 w6 hpi (by omega) hft
      unfold OutEb atV at cs
      have hzl := intI_len p.2.1 f.1 f.2
      have hz0 : intB p.2.1 f.1 f.2 = true → 0 < (intI p.2.1 f.1 f.2).length := fun hb => by unfold intI; rw [if_pos hb]; simp
      obtain ⟨zs, hzs⟩ : ∃ zs, zs = intI p.2.1 f.1 f.2 := ⟨_, rfl⟩
      obtain ⟨bb, hbb⟩ : ∃ b, b = intB p.2.1 f.1 f.2 := ⟨_, rfl⟩
      rw [← hzs, ← hbb] at cs
      rw [← hzs] at hzl
      rw [← hzs, ← hbb] at hz0
      have CS := Lib.hid cs
      have Hz0 := Lib.hid hz0
      clear hc6 hg6 hf L5 HS5 hft hpi cs hzs hbb hz0
      go_wp2
      refine Mx.mid_normal (fun _ => HS6.out) ?_
      repeat ((first | refine Mx.mix0 rfl ?_ | refine Mx.mix1 rfl ?_); go_big_quiet_step (rfl); refine wpQuiet_nil ?_)
      refine Mx.mix3 rfl ?_
      clear kF0 kF1
      go_wp2_with fail
      refine CS.out.mono ?_
      rintro r w7 ⟨⟨y, rfl, hy, hyb⟩, hb⟩
      have L7 := Lib.hid (L6.out.below hb)
      have Y7 := Lib.hid hy
      have YB : Hid (∀ b, y.ownBlock = some b → w.heap.size + 1 < b) := Lib.hid (fun b hb => by have := hyb b hb; have := L6.out.cur.lt; omega)
      clear hy hyb hb CS L6 HS6
      go_wp2
      refine Mx.mid_normal (fun q => by cases q) ?_
      repeat ((first | refine Mx.mix0 rfl ?_ | refine Mx.mix1 rfl ?_); go_big_quiet_step (rfl); refine wpQuiet_nil ?_)
      refine Mx.mix_nil ?_
      cases bb
      · go_wp2
        go_roundw
        case rel => exact ⟨k - 1, _, us, _, by go_num, by omega, by omega, by have := HUn.out; omega, by have := HUn.out; omega, HX, L7⟩
        case measure => simp [intOf]; omega
      · have hzp := Hz0.out (by first | rfl | trivial)
        have Ym := Lib.hid (ints_m Y7.out hzp)
        obtain ⟨ya, yc, hye, _, _⟩ := Y7.out.cells
        subst hye
        have Ld := Lib.hid (L7.out.below (below_drew1 (Below.refl _ _)))
        have Yd := Lib.hid (Ym.out.below (below_drew1 (Below.refl _ _)))
        have HSd := Lib.hid (Ld.out.seen (by rw [← HUn.out]; exact hu0'))
        have kD : ∀ p : SeenB D (.slice (some ⟨g, 0, none⟩) un vcap) g us fb fo fs, p.world.cell? ⟨D, 0, none⟩ = some (.slice (some ⟨g, 0, none⟩) un vcap) := fun p => p.cell
        clear Y7 Ym L7
        go_wp2_with fail
        refine Mx.wp_region_mix (S := fun w' => ∃ p : SeenB D (.slice (some ⟨g, 0, none⟩) un vcap) g us fb fo fs, w' = p.world) (Mx.ofL [(0, 1), (1, 0), (2, 0), (3, 2), (4, 0), (5, 3), (6, 3)] .done) (by kernel_rfl) (by kernel_rfl) HSd.out ?_
        repeat ((first | refine Mx.mix0 rfl ?_ | refine Mx.mix1 rfl ?_); go_big_quiet_step (rfl); refine wpQuiet_nil ?_)
        refine Mx.mix2 rfl ?_
        clear kD
        go_wp2_with fail
        refine (CT.out _ _ w7.drew Ld.out.cur (by omega)).mono ?_
        rintro r w8 ⟨⟨t, ht, rfl⟩, hc8, hg8⟩
        have L8 := Lib.hid (Ld.out.keep hg8 hc8)
        have HS8 := Lib.hid (L8.out.seen (by rw [← HUn.out]; exact hu0'))
        have hes : us.map (·.2) = us.map (·.2) := rfl
        have hen : ∀ x ∈ us.map (·.2), x.1.length ≤ 8 ∧ x.2.size ≤ 60 := fun x hx => by
          obtain ⟨q, hq, rfl⟩ := List.mem_map.1 hx
          exact HX.out q hq
        obtain ⟨es, hes2⟩ : ∃ es, es = us.map (·.2) := ⟨_, rfl⟩
        have hel : es.length = us.length := by rw [hes2, List.length_map]
        rw [← hes2] at hen
        have cp := fun wz (hb : Below w8.heap.size w8 wz) hy => l6Put_any (.slice (some ⟨g, 0, none⟩) un vcap) es (.slice ya zs.length yc) (zs, t) wz (by rw [hes2]; exact (L8.out.rows.below hb).at) hy (by have := HUn.out; omega) (fun x hx => by have := hen x hx; exact ⟨by omega, by omega⟩) ⟨by show zs.length ≤ _; omega, by show t.size ≤ _; omega⟩
        unfold dV enV at cp
        have CPt := Lib.hid cp
        have HEn := Lib.hid hen
        have HEl := Lib.hid hel
        have Y8 : Hid (IntsM w8 (.slice ya zs.length yc) zs) := Lib.hid (ints_grown Yd.out hg8 (fun b hb e => by have := YB.out b hb; injection e with e; omega))
        clear hc8 hg8 Ld HSd hes hen hes2 hel cp Yd
        go_wp2
        refine Mx.mid_normal (fun _ => HS8.out) ?_
        repeat ((first | refine Mx.mix0 rfl ?_ | refine Mx.mix1 rfl ?_); go_big_quiet_step (rfl); refine wpQuiet_nil ?_)
        refine Mx.mix3 rfl ?_
        go_wp2_with fail
        refine (CPt.out w8 (Below.refl _ _) Y8.out).mono ?_
        rintro r w9 ⟨⟨v', us', rfl, hr9, hm9⟩, hb⟩
        obtain ⟨va', vc', rfl⟩ := hr9.form
        have L9 := Lib.hid (L8.out.below hb)
        have hDs := L8.out.hDs
        have La := Lib.hid (L9.out.put hr9 hDs)
        obtain ⟨hl1, hl2, hl3⟩ := put_small hm9 ⟨by show zs.length ≤ 8; omega, ht⟩ HEn.out
        have HX9 := Lib.hid hl3
        have cX := L9.out.box.cell
        have fX := L9.out.box.frozen
        clear hr9 hm9 hb L8 L9 CPt Y8 HS8 hl3
        go_wp2
        refine Mx.mid_normal (fun q => by cases q) ?_
        refine Mx.mix3 rfl ?_
        go_wp2
        refine Mx.mid_normal (fun q => by cases q) ?_
        refine Mx.mix_nil ?_
        go_wp2
        go_roundw
        case rel => exact ⟨k - 1, _, us', _, by go_num, by omega, by omega, by omega, by have := HUn.out; have := HEl.out; omega, HX9, La⟩
        case measure => simp [intOf]; omega
    · obtain rfl : k = 0 := by omega
      have hun1 : (un : Int) > 0 := by omega
      have hun2 : (un : Int) < 40 := by omega
      go_wp2_with fail
      refine (C1.out _ _ 20 wr HL.out.cur (by omega) (by omega) (by omega)).mono ?_
      rintro r w5 ⟨⟨b, rfl⟩, hc5, hg5⟩
      have L5 := Lib.hid (HL.out.keep hg5 hc5)
      clear hc5 hg5 HL cX
      cases b
      · have cX := L5.out.box.cell
        have cR := L5.out.res.cell
        have fR := L5.out.res.frozen
        go_wp2
        obtain ⟨h1, h2, h3, h4, h5⟩ := L5.out.fin
        refine bodyPost_ret (results_dt2 rfl _ _ w.heap.size _ rfl h1) rfl ?_
        exact ⟨⟨_, us, _, fs, rfl, h2, by have := HUn.out; omega, HX.out, h3, HS.out⟩, h5⟩
      · go_wp2_with fail
        refine (CY.out _ _ w5 L5.out.cur (by omega)).mono ?_
        rintro r w6 ⟨⟨v', us', rfl, hr6, hl6, hx6⟩, hc6, hg6⟩
        obtain ⟨va', vc', rfl⟩ := hr6.form
        have L6 := Lib.hid (L5.out.keep hg6 hc6)
        have HX6 := Lib.hid hx6
        have hs5 := L5.out.hDs
        have L7 := Lib.hid (L6.out.put hr6 hs5)
        have cX := L6.out.box.cell
        have fX := L6.out.box.frozen
        have cR := L7.out.res.cell
        have fR := L7.out.res.frozen
        have cY := L7.out.box.cell
        clear hr6 hx6 hc6 hg6 L5 L6
        go_wp2
        obtain ⟨h1, h2, h3, h4, h5⟩ := L7.out.fin
        refine bodyPost_ret (results_dt2 rfl _ _ w.heap.size _ rfl h1) rfl ?_
        exact ⟨⟨_, us', _, fs, rfl, h2, by omega, HX6.out, h3, HS.out⟩, h5⟩
theorem drawExpandFolds_any (a : Option Addr) (n cap : Nat) (w : World) (h : CodeAt w a n) :
    Calls Tryz.prog 21 #[.slice a n cap] w fun r w' => DBo w.heap.size w' r ∧ Below w.heap.size w w' := by
  have cu := fun w h => drawBoth_any a n cap w h
  unfold DBo at cu
  have CU := Lib.hid cu
  clear cu
  obtain ⟨W, hW⟩ : ∃ W, W = w.alloc (.cells #[.slice none 0 0] 26) := ⟨_, rfl⟩
  have hbW : Below w.heap.size w W := by rw [hW]; exact below_al _ _
  have X0 : Hid (BoxV W w.heap.size 26 (.slice none 0 0)) := by rw [hW]; exact BoxV.new _ _ _
  have HA := Lib.hid (h.below hbW)
  have HB := Lib.hid hbW
  have HW := Lib.hid hW
  have hsW : W.heap.size = w.heap.size + 1 := by rw [hW]; simp
  clear h hW hbW
  go_enter Tryz.func21, Tryz.ntmps21
  go_wp2_with fail
  rw [← HW.out]
  refine (CU.out W HA.out).mono ?_
  rintro r w1 ⟨⟨v, us, fv, fs, rfl, hr, hl, hx, hf, hsm⟩, hb⟩
  have X1 := Lib.hid (X0.out.below hb X0.out.lt)
  have c0 := X1.out.cell
  have f0 := X1.out.frozen
  have HR := Lib.hid hr
  have HX := Lib.hid hx
  have HF := Lib.hid hf
  have HS := Lib.hid hsm
  have HB1 := Lib.hid (below_step HB.out hb)
  obtain ⟨va, vc, rfl⟩ := hr.form
  unfold dV
  clear hr hx hf hsm hb X0
  go_wp2
  refine bodyPost_ret (results_dt2 rfl _ _ w.heap.size _ rfl (X1.out.set _)) rfl ?_
  exact ⟨⟨_, us, _, fs, rfl, (HR.out.setCell (by omega)).mono (by omega), hl, HX.out, (HF.out.keep (grown_setC w1 w.heap.size 0 _) (by omega)).mono (by omega), HS.out⟩, HB1.out.setCell (p := ⟨w.heap.size, 0, none⟩) (Nat.le_refl _) _⟩
end Go.Proofs.YthigdblloddepaaGreat

namespace Go.Proofs.YthigdblloddepaaGreat
set_option maxRecDepth 100000
open Go.RowKit

/-! ### Maps of more entries than a dictionary has -/
theorem lastT_keyG {es : List Ent} (hok : ∀ e ∈ es, okE e = true) (hinc : Pl.Inc es) (ys : List Int) : lastT (keyL ys) es = Pl.look ys es := by
  induction es with
  | nil => rfl
  | cons x r ih =>
    have hr := ih (fun e he => hok e (List.mem_cons_of_mem _ he)) (List.pairwise_cons.1 hinc).2
    have hx := (okE_O (hok x (List.mem_cons_self ..))).1
    show (match lastT (keyL ys) r with | some t => some t | none => if keyL x.1 = keyL ys then some x.2 else none) = _
    rw [Pl.look_cons, hr]
    by_cases e : x.1 = ys
    · rw [if_pos e, if_pos (by rw [e])]
      have : Pl.look ys r = none := Pl.look_none fun y hy' e' => by
        have h1 := (List.pairwise_cons.1 hinc).1 y hy'
        rw [e', ← e] at h1
        exact absurd h1 (by rw [Pl.cmp_self]; omega)
      rw [this]
    · rw [if_neg e, if_neg (fun q => e (keyL_ok hx q))]
      cases Pl.look ys r <;> rfl
theorem lastT_putG {es : List Ent} {e : Ent} (hok : ∀ e ∈ es, okE e = true) (hinc : Pl.Inc es) (he : okE e = true) (l : List Int) : lastT l (Pl.put e es) = if keyL e.1 = l then some e.2 else lastT l es := by
  have hp : ∀ x ∈ Pl.put e es, okE x = true := fun x hx => by
    rcases Pl.put_mem hx with rfl | hx
    · exact he
    · exact hok x hx
  have hpi := Pl.put_inc (e := e) hinc
  have heo := (okE_O he).1
  by_cases hx : ∃ ys, keyL ys = l
  · obtain ⟨ys, rfl⟩ := hx
    rw [lastT_keyG hp hpi, lastT_keyG hok hinc]
    by_cases hk : keyL e.1 = keyL ys
    · rw [if_pos hk, ← keyL_ok heo hk, Pl.look_put_same]
    · rw [if_neg hk, Pl.look_put_other (fun q => hk (by rw [q]))]
  · rw [if_neg (fun q => hx ⟨_, q⟩), lastT_none (fun x _ q => hx ⟨_, q⟩), lastT_none (fun x _ q => hx ⟨_, q⟩)]
theorem Reps.putG {D : MD} {es : List Ent} {e : Ent} (h : Reps D es) (hok : ∀ e ∈ es, okE e = true) (hinc : Pl.Inc es) (he : okE e = true) : Reps (D.put (keyT e.1).lit (litT e.2)) (Pl.put e es) := by
  refine ⟨h.tidy.put (Kyt.isKey _) _, keysT_put h.keys h.tidy.isMap _ _, fun x => ?_, fun x zd => ?_, ?_⟩
  · rw [lastT_putG hok hinc he]
    by_cases hk : keyL e.1 = x.1
    · have : x = keyT e.1 := Subtype.ext hk.symm
      subst this
      rw [if_pos hk, Maps.has_put_same h.tidy.isMap (Kyt.isKey _)]; rfl
    · rw [if_neg hk, Maps.has_put_other (fun q => hk (by rw [Kyt.lit_inj q]; rfl)), h.has]
  · rw [lastT_putG hok hinc he]
    by_cases hk : keyL e.1 = x.1
    · have : x = keyT e.1 := Subtype.ext hk.symm
      subst this
      rw [if_pos hk, Maps.atKey_put_same h.tidy.isMap (Kyt.isKey _)]
    · rw [if_neg hk, Maps.atKey_put_other (fun q => hk (by rw [Kyt.lit_inj q]; rfl)), h.at']
  · rw [Maps.size_put h.tidy, h.has, put_length e hinc, h.size]
    show (if (lastT (keyL e.1) es).isSome = true then _ else _) = _
    rw [lastT_keyG hok hinc]
/-- What is there already is written again. -/
theorem Reps.again {D : MD} {es : List Ent} (h : Reps D es) {o : List Int} {t : ByteArray} (hl : lastT (keyL o) es = some t) : Reps (D.put (keyT o).lit (litT t)) es := by
  refine ⟨h.tidy.put (Kyt.isKey _) _, keysT_put h.keys h.tidy.isMap _ _, fun x => ?_, fun x zd => ?_, ?_⟩
  · by_cases hk : keyL o = x.1
    · have : x = keyT o := Subtype.ext hk.symm
      subst this
      rw [Maps.has_put_same h.tidy.isMap (Kyt.isKey _)]
      show true = (lastT (keyL o) es).isSome
      rw [hl]; rfl
    · rw [Maps.has_put_other (fun q => hk (by rw [Kyt.lit_inj q]; rfl)), h.has]
  · by_cases hk : keyL o = x.1
    · have : x = keyT o := Subtype.ext hk.symm
      subst this
      rw [Maps.atKey_put_same h.tidy.isMap (Kyt.isKey _)]
      show litT t = (match lastT (keyL o) es with | some t => litT t | none => zd)
      rw [hl]
    · rw [Maps.atKey_put_other (fun q => hk (by rw [Kyt.lit_inj q]; rfl)), h.at']
  · rw [Maps.size_put h.tidy, h.has]
    show (if (lastT (keyL o) es).isSome = true then _ else _) = _
    rw [hl]; exact h.size
theorem cloneT_any (b n : Nat) (D : MD) (w : World) (h : MapAt w b n D) :
    Calls Tryz.prog 50 #[.map (some b)] w fun e w' => e = .returned (.map (some w.heap.size)) ∧ MapAt w' w.heap.size n D ∧ MapAt w' b n D ∧ Below w.heap.size w w' :=
  AnyW.maps_Clone_owns Tryz.laysCloneM _ _ b n D w h
/-- The text that an expansion writes at an outline keeps what the map reads as. -/
theorem Reps.expand {D : MD} {es acc : List Ent} {n : Nat} {fs : List Atm} {e : Ent} {f : Atm} {t : ByteArray} {i : Int} {zs : List Int} (h : Reps D acc) (hI : ExIn es acc n) (hb : intB e.1 f.1 f.2 = true) (hz : zs = intI e.1 f.1 f.2) (hl : lfX es fs zs = some (t, i)) :
    Reps (D.put (keyT zs).lit (litT t)) (exP es fs e acc f) ∧ t.size ≤ 60 := by
  by_cases hi : 0 ≤ i
  · have hX : exI es fs e f = some (zs, t) := by rw [hz]; exact exI_some hb (by rw [← hz]; exact hl) hi
    have hok := (exI_ok hX).1
    have hs : t.size ≤ 60 := (okE_size hok).2.2
    have hP : exP es fs e acc f = Pl.put (zs, t) acc := by unfold exP; rw [hX]
    rw [hP]
    have := h.putG (e := (zs, t)) hI.ok hI.inc hok
    exact ⟨this, hs⟩
  · have hX : exI es fs e f = none := exI_own (t := t) (i := i) (by rw [← hz]; exact hl) hi
    have hlk : Pl.look zs es = some t := by
      cases hk : Pl.look zs es with
      | some s => rw [lfX_some hk] at hl; injection hl with hl; injection hl with hl _; rw [hl]
      | none =>
        rw [lfX_none hk] at hl
        exact absurd (fdFind_fd1 fs 0 hl).1 hi
    have hla := hI.keep _ _ hlk
    have hs : t.size ≤ 60 := by
      have hla2 := hla
      unfold Pl.look at hla2
      obtain ⟨x, hx, hxt⟩ := Option.map_eq_some_iff.1 hla2
      rw [← hxt]
      exact (okE_size (hI.ok _ (List.mem_of_find?_eq_some hx))).2.2
    have hP : exP es fs e acc f = acc := by unfold exP; rw [hX]
    rw [hP]
    exact ⟨h.again (by rw [lastT_keyG hI.ok hI.inc]; exact hla), hs⟩
/-- What stands in memory between the rounds of the program. -/
structure YSt (w wr : World) (d fv : Value) (g6 b b2 nn : Nat) (D : MD) (es : List Ent) : Prop where
  box : BoxV wr w.heap.size 26 d
  res : BoxV wr (w.heap.size + 1) 26 (.slice none 0 0)
  fd : BoxW wr g6 89 (.map (some b)) fv
  orig : MapB wr b es
  map : MapAt wr b2 nn D
  low : Below w.heap.size w wr
  hb : w.heap.size + 1 < b
  h6 : b < g6
  h2 : g6 < b2
theorem YSt.below {w wr wz : World} {d fv : Value} {g6 b b2 nn : Nat} {D : MD} {es : List Ent} (h : YSt w wr d fv g6 b b2 nn D es) (hb : Below wr.heap.size wr wz) : YSt w wz d fv g6 b b2 nn D es :=
  ⟨h.box.below hb h.box.lt, h.res.below hb h.res.lt, h.fd.below hb h.fd.lt, h.orig.below hb, h.map.below hb h.map.lt, below_step h.low hb, h.hb, h.h6, h.h2⟩
theorem YSt.put {w wr wz : World} {d fv : Value} {g6 b b2 nn nn' : Nat} {D D' : MD} {es : List Ent} (h : YSt w wr d fv g6 b b2 nn D es) (hg : wr.grownBy wz (some b2)) (hm : MapAt wz b2 nn' D') : YSt w wz d fv g6 b b2 nn' D' es := by
  have h1 := h.hb; have h2 := h.h6; have h3 := h.h2
  have hms : MapB wz b es := by
    obtain ⟨zs, clock, hx, Ft, hs, hD⟩ := h.orig
    exact ⟨zs, clock, (hg.block b h.orig.lt (by intro e; injection e with e; omega)).trans hx, Ft, hs, hD⟩
  exact ⟨h.box.grown hg (by intro e; injection e with e; omega), h.res.grown hg (by intro e; injection e with e; omega), (hg.block g6 h.fd.lt (by intro e; injection e with e; omega)).trans h.fd, hms, hm, h.low.grown hg h.low.size (fun j hj => by injection hj with hj; omega), h1, h2, h3⟩
set_option maxHeartbeats 4000000 in
theorem ExpandFolds_any (v : Value) (es : List Ent) (fv : Value) (fs : List Atm) (w : World) (h : EntsAt w v es) (hn : es.length ≤ 2097152) (hx : ∀ e ∈ es, entOk e) (hf : AtomsAt w fv fs) (hfn : fs.length ≤ 2097152) (hfx : ∀ f ∈ fs, f.2.size ≤ 1048576) :
    Calls Tryz.prog 22 #[dV v, fv] w fun r w' => OutD w.heap.size w' (exO es fs) (exOk es fs) r ∧ Below w.heap.size w w' := by
  have HF := Lib.hid hf
  have cf := fun w' hb => foldedBy_any v es fv fs w' (h.below (w' := w') hb) hn hx (hf.below hb) hfn hfx
  obtain ⟨a, cap, rfl, hcap, hC⟩ := h.cells
  obtain ⟨fa, fc, rfl, hfc, hFC⟩ := fd_at hf
  have HFC := Lib.hid hFC
  have HC := Lib.hid hC
  obtain ⟨n, hnn⟩ : ∃ n, n = es.length := ⟨_, rfl⟩
  obtain ⟨fl, hfl⟩ : ∃ fl, fl = fs.length := ⟨_, rfl⟩
  have HFL := Lib.hid hfl
  have HN := Lib.hid hnn
  unfold dV at cf ⊢
  rw [← hnn] at hcap
  rw [← hfl] at HF hfc
  simp only [← hnn] at cf
  simp only [← hfl] at cf
  rw [← hnn, ← hfl]
  have CF := Lib.hid cf
  obtain ⟨W0, hW0⟩ : ∃ W, W = (w.alloc (.cells #[.slice a n cap] 26)).alloc (.cells #[.slice none 0 0] 26) := ⟨_, rfl⟩
  have HW0 := Lib.hid hW0
  have BX : Hid (Below w.heap.size w W0) := by rw [hW0]; exact below_al2 _ _ _
  have hs0 : W0.heap.size = w.heap.size + 2 := by rw [hW0]; simp
  have X0 : Hid (BoxV W0 w.heap.size 26 (.slice a n cap)) := by rw [hW0]; exact (BoxV.new w _ _).below (below_al _ _) (by simp)
  have R0 : Hid (BoxV W0 (w.heap.size + 1) 26 (.slice none 0 0)) := by
    have e := BoxV.new (w.alloc (.cells #[.slice a n cap] 26)) 26 (.slice none 0 0)
    rw [World.size_alloc] at e
    rw [hW0]; exact e
  have x0 := X0.out.cell
  rw [hW0] at x0
  clear hW0
  cases hgf : (okD es && Pl.okFs fs)
  · have hno := exOk_no (es := es) (fs := fs) hgf
    rw [exO_no hno, hno]
    clear h hf hx hfx hFC hC hfl hnn hfn hn hno cf
    go_enter Tryz.func22, Tryz.ntmps22
    go_wp2_with fail
    rw [← HW0.out]
    refine (CF.out _ BX.out).mono ?_
    rintro r w1 ⟨⟨mo, rfl, _⟩, hb⟩
    rw [hgf]
    have B1 := Lib.hid (below_step BX.out hb)
    have R1 : Hid (∀ o, BoxV (w1.alloc o) (w.heap.size + 1) 26 (.slice none 0 0)) := Lib.hid (fun o => (R0.out.below hb R0.out.lt).below (below_al w1 o) (by have := (R0.out.below hb R0.out.lt).lt; exact this))
    have B2 : Hid (∀ o, Below w.heap.size w (w1.alloc o)) := Lib.hid (fun o => below_step B1.out (below_al w1 o))
    have cR := fun o => (R1.out o).cell
    have fR := fun o => (R1.out o).frozen
    clear hb x0
    go_wp2
    (try simp only [Exit.inBlock, Exit.then])
    refine bodyPost_ret (results_dt2 rfl _ _ (w.heap.size + 1) _ rfl ((R1.out _).set _)) rfl ?_
    exact ⟨⟨_, [], rfl, RowX.nil _ _, rfl⟩, (B2.out _).setCell (by show w.heap.size ≤ w.heap.size + 1; omega) _⟩
  · have hgs := hgf
    rw [Bool.and_eq_true] at hgs
    obtain ⟨hg, hfk⟩ := hgs
    obtain ⟨h40, hoks, _⟩ := okD_parts hg
    obtain ⟨hf6, hfv, _⟩ := Pl.okFs_parts hfk
    have hfl6 : fl ≤ 6 := by rw [hfl]; exact hf6
    have hnn40 : n ≤ 40 := by rw [hnn]; exact h40
    have HSt := Lib.hid (ExIn.start hg)
    have HR0 := Lib.hid (reps_mapD hg)
    have HEX : Hid (exOk es fs = decide ((exE es fs es es).length ≤ 40)) := Lib.hid (by unfold exOk; rw [hgf]; rfl)
    have HX := Lib.hid (fun k e (h : es[k]? = some e) => show 1 ≤ e.1.length ∧ e.1.length ≤ 6 from ⟨(okE_size (hoks e (List.mem_of_getElem? h))).1, (okE_size (hoks e (List.mem_of_getElem? h))).2.1⟩)
    have HFx := Lib.hid (fun k f (hkf : fs[k]? = some f) => show f.2.size ≤ 1048576 from hfx f (List.mem_of_getElem? hkf))
    have CL := Lib.hid (fun b u xs w' hm (hb : Below w.heap.size w w') hu hxn => lookupD_any b es (.slice fa fl fc) fs u xs w' hm hg (HF.out.below hb) hf6 hfx hu hxn)
    have CC := Lib.hid (fun b n D w h => cloneT_any b n D w h)
    have HMA : Hid (∀ w' b, MapB w' b es → MapAt w' b n (mapD es)) := Lib.hid (fun w' b h => by rw [hnn]; exact h)
    obtain ⟨D0, hD0⟩ : ∃ D, D = mapD es := ⟨_, rfl⟩
    rw [← hD0] at HR0 HMA
    clear h hf hx hfx hg hfk cf hFC hC hfl hnn hfn hn hoks hfv hD0
    go_enter Tryz.func22, Tryz.ntmps22
    go_wp2_with fail
    rw [← HW0.out]
    refine (CF.out _ BX.out).mono ?_
    rintro r w1 ⟨⟨mo, rfl, hmo⟩, hb⟩
    rw [hgf]
    obtain ⟨b, rfl, hbb, hMB⟩ := hmo (by rw [Bool.and_eq_true] at hgf; exact hgf.1)
    obtain ⟨g6, hg6⟩ : ∃ g, g = w1.heap.size := ⟨_, rfl⟩
    obtain ⟨W, hW⟩ : ∃ W, W = w1.alloc (.cells #[.map (some b), .slice fa fl fc] 89) := ⟨_, rfl⟩
    have hbW : Below w1.heap.size w1 W := by rw [hW]; exact below_al _ _
    have X2 := Lib.hid ((X0.out.below hb X0.out.lt).below hbW (by have := (X0.out.below hb X0.out.lt).lt; exact this))
    have R2 := Lib.hid ((R0.out.below hb R0.out.lt).below hbW (by have := (R0.out.below hb R0.out.lt).lt; exact this))
    have F2 : Hid (BoxW W g6 89 (.map (some b)) (.slice fa fl fc)) := Lib.hid (by rw [hW, hg6]; exact BoxW.new _ _ _ _)
    have M2 := Lib.hid (hMB.below hbW)
    have B2 := Lib.hid (below_step (below_step BX.out hb) hbW)
    have hb6 : b < g6 := by rw [hg6]; exact hMB.lt
    have hbl : w.heap.size + 1 < b := by omega
    have c6 := F2.out.cell0
    have HW := Lib.hid hW
    have HG6 := Lib.hid hg6
    rw [hW] at c6
    clear hb hMB hmo hbb hbW hW hg6 x0 HW0 X0 R0 BX CF hs0
    rw [HG6.out] at c6
    go_wp2_with fail
    rw [← HW.out]
    refine (CC.out b n D0 W (HMA.out W b M2.out)).mono ?_
    rintro r w3 ⟨rfl, hM3, _, hb⟩
    rw [← HG6.out]
    have St0 : Hid (YSt w w3 (.slice a n cap) (.slice fa fl fc) g6 b W.heap.size n D0 es) := Lib.hid ⟨X2.out.below hb X2.out.lt, R2.out.below hb R2.out.lt, F2.out.below hb F2.out.lt, M2.out.below hb, hM3, below_step B2.out hb, hbl, hb6, F2.out.lt⟩
    obtain ⟨b2, hb2⟩ : ∃ x, x = W.heap.size := ⟨_, rfl⟩
    rw [← hb2] at St0 ⊢
    have cx := St0.out.box.cell
    clear hb hM3 hb2 X2 R2 F2 M2 B2 c6 HW HG6 HMA CC
    go_wp2_with fail
    clear cx
    go_loopw [33] (fun i wr => ∃ (k nn : Nat) (acc : List Ent) (D : MD), i = .int .i64 k ∧ k ≤ n ∧ Hid (acc = exE es fs es (es.take k)) ∧ Hid (ExIn es acc (40 + 6 * k)) ∧ nn ≤ 40 + 6 * k ∧ Hid (Reps D acc) ∧ Hid (YSt w wr (.slice a n cap) (.slice fa fl fc) g6 b b2 nn D es)) (fun i _ => n - (intOf i).toNat)
    case atStart => exact ⟨0, n, es, D0, rfl, Nat.zero_le _, Lib.hid rfl, Lib.hid (HSt.out.mono (by omega)), by omega, HR0, St0⟩
    case round =>
      obtain ⟨k, nn, acc0, D, rfl, hk, HA, HI, hnn, HR, HS⟩ := hrel
      by_cases hlt : k < n
      · obtain ⟨e, he⟩ : ∃ e, es[k]? = some e := ⟨_, List.getElem?_eq_getElem (by rw [← HN.out]; exact hlt)⟩
        have HSn := Lib.hid (exE_snoc es fs es he)
        have HXe := Lib.hid (HX.out k e he)
        obtain ⟨bk, o, uk, rfl, hbk, v0, v1, gi⟩ := HC.out w (Below.refl _ _) k e he
        obtain ⟨hx1, hx2⟩ := HXe.out
        have HIw := Lib.hid (ints_m gi (by omega))
        obtain ⟨ea, ec, rfl, _, _⟩ := gi.cells
        have g0 := (HS.out.low.cell (p := ⟨bk, o + k * 2, none⟩) (lt_of_cell v0)).trans v0
        have g1 := (HS.out.low.cell (p := ⟨bk, o + k * 2 + 1, none⟩) (lt_of_cell v1)).trans v1
        clear he gi hbk v0 v1
        obtain ⟨gE, hgE⟩ : ∃ g, g = wr.heap.size := ⟨_, rfl⟩
        obtain ⟨W1, hW1⟩ : ∃ W, W = wr.alloc (.cells #[.slice ea e.1.length ec, .string e.2] 58) := ⟨_, rfl⟩
        have hbW : Below wr.heap.size wr W1 := by rw [hW1]; exact below_al _ _
        have E1 : Hid (BoxW W1 gE 58 (.slice ea e.1.length ec) (.string e.2)) := Lib.hid (by rw [hW1, hgE]; exact BoxW.new _ _ _ _)
        have S1 := Lib.hid (HS.out.below hbW)
        have hE2 : b2 < gE := by rw [hgE]; exact HS.out.map.lt
        have HW1 := Lib.hid hW1
        have HgE := Lib.hid hgE
        clear hbW hW1 hgE HS
        go_wp2_with fail
        rw [← HW1.out, ← HgE.out]
        clear g0 g1 HW1 HgE
        obtain ⟨wo, hwo⟩ : ∃ x, x = W1 := ⟨_, rfl⟩
        subst hwo
        go_loopw [39] (fun i wr => ∃ (j mm : Nat) (acc : List Ent) (D : MD), i = .int .i64 j ∧ j ≤ fl ∧ Hid (acc = exF es fs e acc0 (fs.take j)) ∧ Hid (ExIn es acc (40 + 6 * k + j)) ∧ mm ≤ 40 + 6 * k + j ∧ Hid (Reps D acc) ∧ Hid (YSt w wr (.slice (some ⟨bk, o, none⟩) n cap) (.slice fa fl fc) g6 b b2 mm D es) ∧ Hid (BoxW wr gE 58 (.slice ea e.1.length ec) (.string e.2))) (fun i _ => fl - (intOf i).toNat)
        case atStart => exact ⟨0, nn, acc0, D, rfl, Nat.zero_le _, Lib.hid rfl, HI, hnn, HR, S1, E1⟩
        case round =>
          obtain ⟨j, mm, acc, D, rfl, hj, HAj, HIj, hmm, HRj, HSj, HEj⟩ := hrel
          by_cases hjl : j < fl
          · obtain ⟨f, hf⟩ : ∃ f, fs[j]? = some f := ⟨_, List.getElem?_eq_getElem (by rw [← HFL.out]; exact hjl)⟩
            have HFn := Lib.hid (exF_snoc es fs e acc0 hf)
            obtain ⟨fb, fo, rfl, hfb, f0, f1⟩ := HFC.out wr HSj.out.low j f hf
            have hft := HFx.out j f hf
            have HNo := Lib.hid (fun (h : exI es fs e f = none) => show acc = exF es fs e acc0 (fs.take (j + 1)) from by rw [HFn.out, ← HAj.out]; unfold exP; rw [h])
            have HYes := Lib.hid (show exP es fs e acc f = exF es fs e acc0 (fs.take (j + 1)) from by rw [HFn.out, ← HAj.out])
            have HStep := Lib.hid (HIj.out.step fs e f)
            have HIno := Lib.hid (fun h => exI_no (es := es) (fs := fs) (e := e) (f := f) h)
            have HInone := Lib.hid (fun h => exI_none (es := es) (fs := fs) (e := e) (f := f) h)
            obtain ⟨zs, hzs⟩ : ∃ zs, zs = intI e.1 f.1 f.2 := ⟨_, rfl⟩
            have HEx := Lib.hid (fun t i h1 h2 => HRj.out.expand (fs := fs) (e := e) (f := f) (t := t) (i := i) HIj.out h1 hzs h2)
            have cs := fun wz (hb : Below wr.heap.size wr wz) => FoldInto_any (.slice ea e.1.length ec) e.1 f.1 f.2 wz (HIw.out.below (below_step HSj.out.low hb)) (by omega) hft
            unfold OutO atV at cs
            have hzl : zs.length ≤ 6 := by rw [hzs]; exact intI_len _ _ _
            have hz0 : intB e.1 f.1 f.2 = true → 0 < zs.length := fun hb => by rw [hzs]; unfold intI; rw [if_pos hb]; simp
            rw [← hzs] at cs HInone
            obtain ⟨bb, hbb⟩ : ∃ b, b = intB e.1 f.1 f.2 := ⟨_, rfl⟩
            rw [← hbb] at cs HIno hz0 HEx
            have CS := Lib.hid cs
            have Hz0 := Lib.hid hz0
            obtain ⟨X, hX⟩ : ∃ X, X = exI es fs e f := ⟨_, rfl⟩
            rw [← hX] at HNo HIno HInone
            obtain ⟨P, hP⟩ : ∃ P, P = exP es fs e acc f := ⟨_, rfl⟩
            rw [← hP] at HYes HEx HStep
            obtain ⟨L, hL⟩ : ∃ L, L = lfX es fs zs := ⟨_, rfl⟩
            rw [← hL] at HInone HEx
            have HL := Lib.hid hL
            obtain ⟨fk, ft⟩ := f
            dsimp only at f0 f1 CS
            obtain ⟨W2, hW2⟩ : ∃ W, W = wr.alloc (.cells #[.int .i64 fk, .string ft] 96) := ⟨_, rfl⟩
            have hbW : Below wr.heap.size wr W2 := by rw [hW2]; exact below_al _ _
            have S2 := Lib.hid (HSj.out.below hbW)
            have E2 := Lib.hid (HEj.out.below hbW HEj.out.lt)
            have D2 := Lib.hid hbW
            have e0 := E2.out.cell0
            have q2 : BoxW W2 wr.heap.size 96 (.int .i64 fk) (.string ft) := by rw [hW2]; exact BoxW.new _ _ _ _
            have q0 := q2.cell0
            have q1 := q2.cell1
            rw [hW2] at e0 q0 q1
            have HW2 := Lib.hid hW2
            clear hf hbb hX hzs hz0 cs hft hfb hL hP hbW hW2 q2
            go_wp2_with fail
            rw [← HW2.out]
            refine (CS.out W2 D2.out).mono ?_
            rintro r w4 ⟨⟨y, rfl, hy⟩, hb⟩
            have S4 := Lib.hid (S2.out.below hb)
            have E4 := Lib.hid (E2.out.below hb E2.out.lt)
            have Y4 := Lib.hid hy
            clear hb hy e0 q0 q1 f0 f1 CS S2 E2 D2 HW2
            cases bb
            · have hA := HNo.out (HIno.out (by first | rfl | trivial))
              have HA1 := Lib.hid hA
              clear hA HNo HYes HEx HIno HInone HStep
              go_wp2
              go_roundw
              case rel => exact ⟨j + 1, mm, acc, D, by go_num, by omega, HA1, Lib.hid (HIj.out.mono (by omega)), by omega, HRj, S4, E4⟩
              case measure => simp [intOf]; omega
            · have hzp := Hz0.out (by first | rfl | trivial)
              have Ym := Lib.hid (ints_m Y4.out.ints hzp)
              have c0 := S4.out.fd.cell0
              have c1 := S4.out.fd.cell1
              go_wp2_with fail
              refine (CL.out b y zs w4 S4.out.orig S4.out.low Ym.out (by omega)).mono ?_
              rintro r w5 ⟨rfl, hb⟩
              have S5 := Lib.hid (S4.out.below hb)
              have E5 := Lib.hid (E4.out.below hb E4.out.lt)
              have Y5 := Lib.hid (Ym.out.below hb)
              rw [← HL.out]
              clear hb c0 c1 Y4 Ym S4 E4
              cases L with
              | none =>
                have hA := HNo.out (HInone.out (by first | rfl | trivial))
                have HA1 := Lib.hid hA
                clear hA HNo HYes HEx HIno HInone HStep
                rw [lfE_none]
                go_wp2
                go_roundw
                case rel => exact ⟨j + 1, mm, acc, D, by go_num, by omega, HA1, Lib.hid (HIj.out.mono (by omega)), by omega, HRj, S5, E5⟩
                case measure => simp [intOf]; omega
              | some p =>
                obtain ⟨t, i⟩ := p
                rw [lfE_some]
                obtain ⟨hRe, ht60⟩ := HEx.out t i (by first | rfl | trivial) (by first | rfl | trivial)
                have HRe := Lib.hid hRe
                have CK := Lib.hid (keyOf_any y zs w5 Y5.out.at (by omega))
                have HKy : Hid (keyOf Tryz.prog 94 (.agg (kyA (keyL zs))) = some (keyT zs).lit) := Lib.hid (kl_at (kyOk_key zs))
                have HV : Hid (plainElem (H := Unit) Tryz.prog 9 (.string t) = some (litT t, [])) := Lib.hid (plainElem_string Tryz.underlying9 (by unfold maxLen; omega))
                obtain ⟨K, hK⟩ : ∃ K, K = keyL zs := ⟨_, rfl⟩
                rw [← hK] at CK HKy
                obtain ⟨kl, hkl⟩ : ∃ kl, kl = (keyT zs).lit := ⟨_, rfl⟩
                rw [← hkl] at HKy HRe
                obtain ⟨dd, hdd⟩ : ∃ d, d = litT t := ⟨_, rfl⟩
                rw [← hdd] at HV HRe
                clear hK hkl hdd hRe HNo HEx HIno HInone
                go_wp2_with fail
                refine CK.out.mono ?_
                rintro r w6 ⟨rfl, hb⟩
                have S6 := Lib.hid (S5.out.below hb)
                have E6 := Lib.hid (E5.out.below hb E5.out.lt)
                clear hb S5 E5 Y5 CK
                go_wp2_with (at_mapUpdate; refine wpList_mapUpdate_own _ rfl _ _ _ 59 rfl 94 9 lawK Tryz.underlying59 _ b2 mm _ rfl S6.out.map (by unfold maxLen; omega) _ _ kl rfl rfl HKy.out dd [] HV.out ?_; intro w7 hown hgr)
                have S7 := Lib.hid (S6.out.put hgr (show MapAt w7 b2 (mm + 1) (D.put kl dd) from hown))
                have E7 : Hid (BoxW w7 gE 58 (.slice ea e.1.length ec) (.string e.2)) := Lib.hid ((hgr.block gE E6.out.lt (by intro q; injection q with q; omega)).trans E6.out)
                clear hown hgr S6 E6 HKy HV
                go_roundw
                case rel => exact ⟨j + 1, mm + 1, P, D.put kl dd, by go_num, by omega, HYes, HStep, by omega, HRe, S7, E7⟩
                case measure => simp [intOf]; omega
          · obtain rfl : j = fl := by omega
            have HA2 : Hid (acc = exE es fs es (es.take (k + 1))) := Lib.hid (by rw [HSn.out, ← HA.out, HAj.out, List.take_of_length_le (by rw [← HFL.out]; exact Nat.le_refl _)])
            go_wp2
            go_roundw
            case rel => exact ⟨k + 1, mm, acc, D, by go_num, by omega, HA2, Lib.hid (HIj.out.mono (by omega)), by omega, HRj, HSj⟩
            case measure => simp [intOf]; omega
      · obtain rfl : k = n := by omega
        have HA2 : Hid (acc0 = exE es fs es es) := Lib.hid (by rw [HA.out, List.take_of_length_le (by rw [← HN.out]; exact Nat.le_refl _)])
        have hsz := HR.out.size
        have HOd := Lib.hid HI.out.fin
        obtain ⟨m, hm⟩ : ∃ m, m = Maps.size D := ⟨_, rfl⟩
        have hmp : m = acc0.length := hm.trans hsz
        have HLe : Hid (exOk es fs = decide (acc0.length ≤ 40)) := Lib.hid (by rw [HEX.out, HA2.out])
        have HMm := Lib.hid hm
        have cR := HS.out.res.cell
        have fR := HS.out.res.frozen
        by_cases hl : acc0.length ≤ 40
        · have hml : ¬ (40 < (m : Int)) := by omega
          rw [decide_eq_true hl] at HLe HOd
          have CD1 := Lib.hid (dictOf_any b2 nn D acc0 wr HS.out.map HR.out HOd.out)
          have HRes : Hid (exO es fs = acc0) := Lib.hid (by unfold exO; rw [HLe.out, if_pos rfl, HA2.out])
          clear hm hmp hsz HSt HA HI hl
          go_wp2_with (at_len; refine wpList_len_own _ rfl _ 59 rfl 94 9 Tryz.underlying59 _ b2 nn _ rfl HS.out.map ?_; rw [← HMm.out])
          refine CD1.out.mono ?_
          rintro r w6 ⟨⟨v6, us, rfl, hr6, hus⟩, hb6⟩
          have S6 := Lib.hid (HS.out.below hb6)
          have X6 := Lib.hid hr6
          have HUs := Lib.hid hus
          have hrl : w.heap.size + 1 < wr.heap.size := HS.out.res.lt
          obtain ⟨va, vc, hvf⟩ := hr6.form
          subst hvf
          have d6 := S6.out.res.cell
          have z6' := S6.out.res.frozen
          clear hb6 hr6 hus CD1 cR fR
          try unfold dV
          go_wp2
          (try simp only [Exit.inBlock, Exit.then])
          refine bodyPost_ret (results_dt2 rfl _ _ (w.heap.size + 1) _ rfl (S6.out.res.set _)) rfl ?_
          rw [HLe.out, HRes.out]
          exact ⟨⟨_, us, rfl, (X6.out.setCell hrl).mono (by omega), HUs.out⟩, S6.out.low.setCell (p := ⟨w.heap.size + 1, 0, none⟩) (by show w.heap.size ≤ w.heap.size + 1; omega) _⟩
        · have hml : 40 < (m : Int) := by omega
          rw [decide_eq_false hl] at HLe
          clear hm hmp hsz HSt HA HI hl
          go_wp2_with (at_len; refine wpList_len_own _ rfl _ 59 rfl 94 9 Tryz.underlying59 _ b2 nn _ rfl HS.out.map ?_; rw [← HMm.out])
          (try simp only [Exit.inBlock, Exit.then])
          refine bodyPost_ret (results_dt2 rfl _ _ (w.heap.size + 1) _ rfl (HS.out.res.set _)) rfl ?_
          rw [exO_no HLe.out, HLe.out]
          exact ⟨⟨_, [], rfl, RowX.nil _ _, rfl⟩, HS.out.low.setCell (p := ⟨w.heap.size + 1, 0, none⟩) (by show w.heap.size ≤ w.heap.size + 1; omega) _⟩
end Go.Proofs.YthigdblloddepaaGreat

namespace Go.Proofs.YthigdblloddepaaGreat
set_option maxRecDepth 100000
open Go.RowKit

end Go.Proofs.YthigdblloddepaaGreat

namespace Go.Proofs.YthigdblloddepaaGreat
set_option maxRecDepth 100000
open Go.RowKit

/-- A slice of the outlines os. -/
def OutsAt (w : World) (v : Value) (os : List (List Int)) : Prop :=
  ∃ (a : Option Addr) (cap : Nat), v = .slice a os.length cap ∧ os.length ≤ cap ∧ (os = [] ∨ ∃ bk o, a = some ⟨bk, o, none⟩ ∧ bk < w.heap.size ∧ ∀ (j : Nat) xs, os[j]? = some xs →
    ∃ u, w.cell? ⟨bk, o + j, none⟩ = some u ∧ IntsAt w u xs)
theorem OutsAt.below {w w' : World} {v : Value} {os : List (List Int)} (h : OutsAt w v os) (hb : Below w.heap.size w w') : OutsAt w' v os := by
  obtain ⟨a, cap, hv, hc, h⟩ := h
  refine ⟨a, cap, hv, hc, ?_⟩
  rcases h with h | ⟨bk, o, ha, hk, h⟩
  · exact .inl h
  · refine .inr ⟨bk, o, ha, Nat.lt_of_lt_of_le hk hb.size, fun j e he => ?_⟩
    obtain ⟨u, h0, h2⟩ := h j e he
    exact ⟨u, (hb.cell (p := ⟨bk, o + j, none⟩) hk).trans h0, h2.below hb⟩
theorem OutsAt.nil (w : World) (a : Option Addr) (cap : Nat) : OutsAt w (.slice a 0 cap) [] := ⟨a, cap, rfl, Nat.zero_le _, .inl rfl⟩
/-- The cells of a slice of outlines, in every later world. -/
def OutCells (w : World) (a : Option Addr) (os : List (List Int)) : Prop :=
  ∀ w1 : World, Below w.heap.size w w1 → ∀ (j : Nat) xs, os[j]? = some xs → ∃ bk o u, a = some ⟨bk, o, none⟩ ∧ bk < w.heap.size ∧ w1.cell? ⟨bk, o + j, none⟩ = some u ∧ IntsAt w1 u xs
theorem OutsAt.cells {w : World} {v : Value} {os : List (List Int)} (h : OutsAt w v os) : ∃ a cap, v = .slice a os.length cap ∧ os.length ≤ cap ∧ OutCells w a os := by
  obtain ⟨a, cap, rfl, hc, h⟩ := h
  refine ⟨a, cap, rfl, hc, fun w1 hb j e he => ?_⟩
  rcases h with rfl | ⟨bk, o, ha, hk, h⟩
  · simp at he
  · obtain ⟨u, h0, h2⟩ := h j e he
    exact ⟨bk, o, u, ha, hk, (hb.cell (p := ⟨bk, o + j, none⟩) hk).trans h0, h2.below hb⟩

/-! ### Rows of outlines of one's own, appended to -/
theorem infoOut : (Tryz.prog.info? 27).map (fun i => (i.zero, i.size, i.bytes)) = some (some (.slice none 0 0), 1, 24) := by kernel_rfl
/-- v is a row of its own of outlines that are own memory each, apart from one another. -/
structure RowO (w : World) (base : Nat) (v : Value) (us : List (Value × List Int)) : Prop where
  row : w.ownsRow base 27 1 v us.length (us.map (·.1))
  own : ∀ (j : Nat) (p : Value × List Int), us[j]? = some p → OwnInts w base p.1 p.2.length (fun i => p.2.getD i 0)
  off : ∀ (j : Nat) (p : Value × List Int), us[j]? = some p → 0 < p.2.length → ∀ b, p.1.ownBlock = some b → v.ownBlock ≠ some b
  apart : ∀ (i j : Nat) (p q : Value × List Int), us[i]? = some p → us[j]? = some q → i ≠ j → 0 < p.2.length → 0 < q.2.length → p.1.ownBlock ≠ q.1.ownBlock
theorem RowO.nil (w : World) (base : Nat) : RowO w base (.slice none 0 0) [] := ⟨World.ownsRow_nil _ _ _ _, fun j p h => by simp at h, fun j p h => by simp at h, fun i j p q h => by simp at h⟩
theorem RowO.empty (w : World) : RowO (w.alloc (.cells #[] 27)) w.heap.size (.slice (some ⟨w.heap.size, 0, none⟩) 0 0) [] := ⟨row_new w _, fun j p h => by simp at h, fun j p h => by simp at h, fun i j p q h => by simp at h⟩
theorem RowO.below {w w' : World} {base : Nat} {v : Value} {us : List (Value × List Int)} (h : RowO w base v us) (hb : Below w.heap.size w w') : RowO w' base v us :=
  ⟨row_below h.row hb, fun j p hj => (h.own j p hj).below hb, h.off, h.apart⟩
theorem RowO.form {w : World} {base : Nat} {v : Value} {us : List (Value × List Int)} (h : RowO w base v us) : ∃ a c, v = .slice a us.length c := by
  rcases h.row.2 with ⟨rfl, h0⟩ | ⟨g, cap, cur, rfl, _⟩
  · exact ⟨_, _, by rw [h0]⟩
  · exact ⟨_, _, rfl⟩
theorem RowO.at {w : World} {base : Nat} {v : Value} {us : List (Value × List Int)} (h : RowO w base v us) : OutsAt w v (us.map (·.2)) := by
  have hlen : (us.map (·.2)).length = us.length := List.length_map _
  rcases h.row.2 with ⟨rfl, h0⟩ | ⟨g, cap, cur, rfl, hbg, hg, hn, hcm, hsz, htake⟩
  · have : us = [] := List.length_eq_zero_iff.1 h0
    subst this
    exact OutsAt.nil _ _ _
  · have hlt : g < w.heap.size := (Array.getElem?_eq_some_iff.1 hg).1
    refine ⟨some ⟨g, 0, none⟩, cap, by rw [hlen], by rw [hlen]; exact hn, .inr ⟨g, 0, rfl, hlt, fun j e hj => ?_⟩⟩
    rw [List.getElem?_map] at hj
    obtain ⟨p, hp, rfl⟩ := Option.map_eq_some_iff.1 hj
    have hjl := (List.getElem?_eq_some_iff.1 hp).1
    refine ⟨p.1, ?_, (h.own j p hp).ints⟩
    have h1 : (cur.toList.take (us.length * 1))[j]? = some p.1 := by rw [htake, List.getElem?_map, hp]; rfl
    rw [List.getElem?_take_of_lt (by omega)] at h1
    simp only [Array.getElem?_toList] at h1
    simp [World.cell?, hg, h1]
/-- One outline appended to an own row, at a plain list. -/
theorem push_out {ops : Array Oper} {rest : List Oper} {o : Oper} {a : Act} {w w0 : World} {Q : Exit → Act → World → Prop} (hgd : o.guard = none)
    (p q : Operand) (ho : o.op = .call { callee := .builtin .append, args := #[p, q], argTypes := #[51, 51] }) (base : Nat) (v : Value) (us : List (Value × List Int)) (hs : a.eval p = v) (R : RowO w0 base v us) (hbw : Below w0.heap.size w0 w)
    (u : Value) (xs : List Int) (hu : OwnInts w w0.heap.size u xs.length (fun i => xs.getD i 0)) (hq : a.eval q = .slice (some ⟨w.heap.size, 0, none⟩) 1 1) (hb : base ≤ w0.heap.size) (h1 : us.length ≤ 1048576)
    (h : ∀ v' w', RowO w' base v' (us ++ [(u, xs)]) → (w.alloc (.cells #[u] 27)).grownBy w' v.ownBlock → wpList Tryz.prog ops Q rest (a.put o.dst v') w') :
    wpList Tryz.prog ops Q (o :: rest) a (w.alloc (.cells #[u] 27)) := by
  obtain ⟨i0, hi, hz0, hz1, hz2⟩ := info_parts infoOut
  have hsz := hbw.size
  have R1 := R.below hbw
  have hvl : ∀ b, v.ownBlock = some b → b < w0.heap.size := fun b hb' => (R.row.lt b hb').2
  refine wpList_append_own_at _ hgd p q 51 ho base 27 i0 (.slice none 0 0) 1 24 Tryz.underlying51 hi hz0 hz1 hz2 rfl (by decide) v us.length _ hs (R1.row.alloc _) ⟨w.heap.size, 0, none⟩ 1 1 [u] hq rfl (cell_one_new _ _ _) ?_ (by unfold maxLen; omega) (by omega) (by simp; omega) ?_
  · intro y hy; simp at hy; subst hy
    rcases hu with ⟨_, a', c', rfl⟩ | ⟨g, c', rfl, _⟩ <;> rfl
  · intro v' w' hown' hg _ hat
    have ht : Touch (fun b => v.ownBlock = some b) w w' := ((Touch.refl _ w).alloc _).trans (Touch.grown hg fun k e => e)
    have hnew : ∀ b, 0 < xs.length → u.ownBlock = some b → w0.heap.size ≤ b ∧ b < w.heap.size := fun b h0 hb' => ⟨hu.ge h0 hb', hu.lt h0 b hb'⟩
    have hold : ∀ (j : Nat) (p : Value × List Int), us[j]? = some p → 0 < p.2.length → ∀ b, p.1.ownBlock = some b → b < w0.heap.size := fun j p hj h0 b hb' => (R.own j p hj).lt h0 b hb'
    have hat' : v'.ownBlock = v.ownBlock ∨ v'.ownBlock = some (w.heap.size + 1) := by
      rcases hat with h2 | h2
      · exact .inl h2
      · exact .inr (by rw [h2, World.size_alloc])
    have hget : ∀ (j : Nat) (x : Value × List Int), (us ++ [(u, xs)])[j]? = some x → (j = us.length ∧ x = (u, xs)) ∨ (j < us.length ∧ us[j]? = some x) := by
      intro j x hj
      rcases Nat.lt_or_ge j us.length with hl | hl
      · rw [List.getElem?_append_left hl] at hj; exact .inr ⟨hl, hj⟩
      · rw [List.getElem?_append_right hl] at hj
        have : j - us.length = 0 := by
          rcases Nat.eq_zero_or_pos (j - us.length) with h0 | h0
          · exact h0
          · rw [List.getElem?_eq_none (by simp; omega)] at hj; cases hj
        rw [this] at hj
        exact .inl ⟨by omega, by simpa using hj.symm⟩
    refine h v' w' ⟨?_, fun j p hj => ?_, fun j p hj h0 b hb' => ?_, fun i j p q hi hj hij h0 h1 => ?_⟩ hg
    · rw [List.length_append, List.map_append]; exact hown'
    · rcases hget j p hj with ⟨rfl, rfl⟩ | ⟨hl, hj⟩
      · refine (hu.touch ht fun h0 b hb' e => ?_).mono hb
        have := hnew b h0 hb'
        have := hvl b e
        omega
      · exact (R1.own j p hj).touch ht fun h0 b hb' e => R.off j p hj h0 b hb' e
    · rcases hget j p hj with ⟨rfl, rfl⟩ | ⟨hl, hj⟩
      · have h3 := hnew b h0 hb'
        rcases hat' with h2 | h2
        · rw [h2]; intro e; have := hvl b e; omega
        · rw [h2]; intro e; injection e with e; omega
      · rcases hat' with h2 | h2
        · rw [h2]; exact R.off j p hj h0 b hb'
        · rw [h2]; intro e; injection e with e; have := hold j p hj h0 b hb'; omega
    · have key : ∀ (j : Nat) (q : Value × List Int), us[j]? = some q → 0 < q.2.length → 0 < xs.length → u.ownBlock ≠ q.1.ownBlock := by
        intro j q hj h1 h0 e
        cases hu' : u.ownBlock with
        | none =>
          rcases hu with ⟨hz, _⟩ | ⟨g', cap, rfl, _⟩
          · omega
          · simp [Value.ownBlock] at hu'
        | some b =>
          have h2 := hnew b h0 hu'
          have h3 := hold j q hj h1 b (by rw [← e, hu'])
          omega
      rcases hget i p hi with ⟨rfl, rfl⟩ | ⟨hl, hi⟩
      · rcases hget j q hj with ⟨rfl, rfl⟩ | ⟨hl', hj⟩
        · exact absurd rfl hij
        · exact key j q hj h1 h0
      · rcases hget j q hj with ⟨rfl, rfl⟩ | ⟨hl', hj⟩
        · exact fun e => key i p hi h0 h1 e.symm
        · exact R.apart i j p q hi hj hij h0 h1
end Go.Proofs.YthigdblloddepaaGreat

namespace Go.Proofs.YthigdblloddepaaGreat
set_option maxRecDepth 100000
open Go.RowKit

/-- The outlines whose text is t. -/
def revL (t : ByteArray) (es : List Ent) : List (List Int) := (es.filter fun e => e.2.toList == t.toList).map (·.1)
theorem revL_yes {t : ByteArray} {es : List Ent} {k : Nat} {e : Ent} (h : es[k]? = some e) (ht : (e.2.toList == t.toList) = true) : revL t (es.take (k + 1)) = revL t (es.take k) ++ [e.1] := by
  unfold revL; rw [List.take_add_one, h, Option.toList_some, List.filter_append, List.map_append]; simp [List.filter, ht]
theorem revL_no {t : ByteArray} {es : List Ent} {k : Nat} {e : Ent} (h : es[k]? = some e) (ht : (e.2.toList == t.toList) = false) : revL t (es.take (k + 1)) = revL t (es.take k) := by
  unfold revL; rw [List.take_add_one, h, Option.toList_some, List.filter_append, List.map_append]; simp [List.filter, ht]
theorem revL_len (t : ByteArray) (es : List Ent) : (revL t es).length ≤ es.length := by unfold revL; rw [List.length_map]; exact List.length_filter_le _ _
theorem revL_mem {t : ByteArray} {es : List Ent} {xs : List Int} (h : xs ∈ revL t es) : ∃ e ∈ es, e.1 = xs := by
  unfold revL at h
  obtain ⟨e, he, rfl⟩ := List.mem_map.1 h
  exact ⟨e, (List.mem_filter.1 he).1, rfl⟩
/-- What ReverseLookup answers. -/
def revO (t : ByteArray) (es : List Ent) : List (List Int) := if okD es = true then revL t es else []
theorem revO_no {t : ByteArray} {es : List Ent} (h : okD es = false) : revO t es = [] := by unfold revO; rw [h]; rfl
theorem revO_yes {t : ByteArray} {es : List Ent} (h : okD es = true) : revO t es = revL t es := by unfold revO; rw [h]; rfl
theorem revO_len (t : ByteArray) (es : List Ent) : (revO t es).length ≤ 40 := by
  cases h : okD es
  · rw [revO_no h]; exact Nat.zero_le _
  · rw [revO_yes h]; exact Nat.le_trans (revL_len t es) (okD_parts h).1
theorem revO_small (t : ByteArray) (es : List Ent) : ∀ xs ∈ revO t es, xs.length ≤ 6 := by
  cases h : okD es
  · rw [revO_no h]; intro xs hx; simp at hx
  · rw [revO_yes h]; intro xs hx
    obtain ⟨e, he, rfl⟩ := revL_mem hx
    exact (okE_size ((okD_parts h).2.1 e he)).2.1
/-- An answer of outlines of its own and a flag. -/
def OutR (base : Nat) (w' : World) (os : List (List Int)) (b : Bool) (e : Ending) : Prop := ∃ u us, e = .returned (.tuple #[u, .bool b]) ∧ RowO w' base u us ∧ us.map (·.2) = os
theorem IntsAt.m {w : World} {u : Value} {xs : List Int} (h : IntsAt w u xs) (h0 : 0 < xs.length) : IntsM w u xs := by
  obtain ⟨bk, o, cap, rfl, hc, hk, hcell⟩ := h.block h0
  exact .inr ⟨bk, o, cap, rfl, hc, hk, hcell⟩
theorem OwnInts.ofRow {w : World} {base : Nat} {v : Value} {xs : List Int} (h : w.ownsRow base 3 1 v xs.length (xs.map (.int .i64))) : OwnInts w base v xs.length (fun j => xs.getD j 0) := ownInts_of h
/-- The library's copy of a slice of ints. -/
theorem clone_any (u : Value) (xs : List Int) (w : World) (h : IntsAt w u xs) (h0 : 0 < xs.length) (hn : xs.length ≤ 2097152) :
    Calls Tryz.prog 64 #[u] w fun e w' => (∃ v, e = .returned v ∧ OwnInts w' w.heap.size v xs.length (fun j => xs.getD j 0)) ∧ Below w.heap.size w w' := by
  obtain ⟨bk, o, cap, rfl, hc, hk, hcell⟩ := h.block h0
  refine (Tryz.slices_Clone_int bk o xs.length cap xs w (Nat.le_refl _) (by omega) (fun j hj => ?_)).mono ?_
  · rw [hcell j _ (List.getElem?_eq_getElem hj)]; simp [List.getD, List.getElem?_eq_getElem hj]
  · rintro e w' ⟨v, rfl, hown, _, hb⟩
    rw [List.take_length] at hown
    exact ⟨⟨v, rfl, ownInts_of hown⟩, hb⟩
end Go.Proofs.YthigdblloddepaaGreat

namespace Go.Proofs.YthigdblloddepaaGreat
set_option maxRecDepth 100000
open Go.RowKit

/-! ### Plain -/
def ovB (es : List Ent) (fs : List Atm) (xs : List Int) : Bool := fs.any fun f => (unL es xs f).isSome
def ovL (es : List Ent) (fs : List Atm) (l : List Ent) : List (List Int) := (l.filter fun e => ovB es fs e.1).map (·.1)
def ovO (es : List Ent) (fs : List Atm) : List (List Int) := if (okD es && Pl.okFs fs) = true then ovL es fs es else []
theorem ovO_no {es : List Ent} {fs : List Atm} (h : (okD es && Pl.okFs fs) = false) : ovO es fs = [] := by unfold ovO; rw [h]; rfl
theorem ovO_yes {es : List Ent} {fs : List Atm} (h : (okD es && Pl.okFs fs) = true) : ovO es fs = ovL es fs es := by unfold ovO; rw [if_pos h]
theorem ovL_len (es : List Ent) (fs : List Atm) (l : List Ent) : (ovL es fs l).length ≤ l.length := by unfold ovL; rw [List.length_map]; exact List.length_filter_le _ _
theorem ovL_yes {es : List Ent} {fs : List Atm} {l : List Ent} {k : Nat} {e : Ent} (he : l[k]? = some e) (h : ovB es fs e.1 = true) : ovL es fs (l.take (k + 1)) = ovL es fs (l.take k) ++ [e.1] := by
  unfold ovL
  rw [List.take_add_one, he, List.filter_append, List.map_append]
  simp [h]
theorem ovL_no {es : List Ent} {fs : List Atm} {l : List Ent} {k : Nat} {e : Ent} (he : l[k]? = some e) (h : ovB es fs e.1 = false) : ovL es fs (l.take (k + 1)) = ovL es fs (l.take k) := by
  unfold ovL
  rw [List.take_add_one, he, List.filter_append, List.map_append]
  simp [h]
theorem ovL_mem {es : List Ent} {fs : List Atm} {l : List Ent} {x : List Int} (h : x ∈ ovL es fs l) : ∃ e ∈ l, e.1 = x := by
  unfold ovL at h
  obtain ⟨e, he, rfl⟩ := List.mem_map.1 h
  exact ⟨e, (List.mem_filter.1 he).1, rfl⟩
theorem any_next {α : Type} {P : α → Bool} {l : List α} {k : Nat} {x : α} (h : l[k]? = some x) : (l.take (k + 1)).any P = ((l.take k).any P || P x) := by
  rw [List.take_add_one, h, List.any_append]; simp
theorem idxI_look (o : List Int) (es : List Ent) : decide (idxI o es ≥ 0) = (Pl.look o es).isSome := by
  unfold idxI
  cases h : Pl.idx o es with
  | none => rw [Pl.look_none_idx h]; rfl
  | some k =>
    obtain ⟨x, hx, _⟩ := Pl.idx_some h
    rw [Pl.look_idx h hx]
    simp

/-! ### The program's -/
set_option maxHeartbeats 1000000 in
theorem ovc_any (gF gE b : Nat) (es : List Ent) (fv u : Value) (s : ByteArray) (xs : List Int) (k : Int) (t : ByteArray) (w : World) (hF : BoxW w gF 89 (.map (some b)) fv) (hE : BoxW w gE 58 u (.string s)) (hm : MapB w b es) (hok : okD es = true) (hu : IntsM w u xs) (hn : xs.length ≤ 2097152) (ht : t.size ≤ 1048576) :
    Calls Tryz.prog 61 #[atV k t, .pointer (some ⟨gF, 0, none⟩), .pointer (some ⟨gE, 0, none⟩)] w fun r w' => r = .returned (.bool (unL es xs (k, t)).isSome) ∧ Below w.heap.size w w' := by
  have hb := below_x1 w (.cells #[.int .i64 k, .string t] 96)
  have cu := unfoldD_any b es fv u xs k t _ (hm.below hb) hok (hu.below hb) hn ht
  have HB := Lib.hid hb
  have c0 := (hF.below hb hF.lt).cell0
  have c1 := (hF.below hb hF.lt).cell1
  have d0 := (hE.below hb hE.lt).cell0
  obtain ⟨y, hy⟩ : ∃ y, y = unL es xs (k, t) := ⟨_, rfl⟩
  rw [← hy] at cu ⊢
  unfold lkE at cu
  have CU := Lib.hid cu
  clear cu hy hb hF hE hm hu
  go_enter Tryz.func61, Tryz.ntmps61
  go_wp2_with fail
  refine CU.out.mono ?_
  rintro r w1 ⟨rfl, hb⟩
  have B1 := Lib.hid (HB.out.trans (hb.mono HB.out.size))
  clear hb c0 c1 d0
  go_wp2
  go_ret
  exact ⟨rfl, B1.out⟩
set_option maxHeartbeats 1000000 in
theorem indexF_any (fn : FuncId) (hcall : ∀ args w, (callFunc fn args).run Tryz.prog w = .ok (.enter fn args) w) (p q : Value) (P : Atm → Bool) (fv : Value) (fs : List Atm) (w : World) (hf : AtomsAt w fv fs) (hfn : fs.length ≤ 1000)
    (hC : ∀ f ∈ fs, ∀ w', Below w.heap.size w w' → Calls Tryz.prog fn #[atV f.1 f.2, p, q] w' fun r w'' => r = .returned (.bool (P f)) ∧ Below w'.heap.size w' w'') :
    Calls Tryz.prog 99 #[fv, .func (.func fn) #[] #[p, q]] w fun r w' => (∃ i : Int, r = .returned (.int .i64 i) ∧ decide (i ≥ 0) = fs.any P) ∧ Below w.heap.size w w' := by
  obtain ⟨a, cap, rfl, hcap, hA⟩ := fd_at hf
  have HA := Lib.hid hA
  have HC := Lib.hid (fun j f (h : fs[j]? = some f) => hC f (List.mem_of_getElem? h))
  obtain ⟨n, hnn⟩ : ∃ n, n = fs.length := ⟨_, rfl⟩
  have HN := Lib.hid hnn
  rw [← hnn] at hcap hfn ⊢
  clear hf hA hC hnn
  go_enter Tryz.func99, Tryz.ntmps99
  go_wp2_with fail
  go_loopw [8] (fun i wr => ∃ k : Nat, k ≤ n ∧ i = .int .i64 k ∧ Hid ((fs.take k).any P = false) ∧ Hid (Below w.heap.size w wr)) (fun i _ => n - (intOf i).toNat)
  case atStart => exact ⟨0, Nat.zero_le _, rfl, Lib.hid rfl, Lib.hid (Below.refl _ _)⟩
  case round =>
    obtain ⟨k, hk, rfl, HF, HB⟩ := hrel
    by_cases hlt : k < n
    · obtain ⟨f, hf⟩ : ∃ f, fs[k]? = some f := ⟨_, List.getElem?_eq_getElem (by rw [← HN.out]; exact hlt)⟩
      obtain ⟨bk, o, rfl, hbk, g0, g1⟩ := HA.out wr HB.out k f hf
      have cc := HC.out k f hf wr HB.out
      have HNx := Lib.hid (any_next (P := P) hf)
      have HAll : Hid (P f = true → fs.any P = true) := Lib.hid (fun h => List.any_eq_true.2 ⟨f, List.mem_of_getElem? hf, h⟩)
      obtain ⟨c, hc⟩ : ∃ c, c = P f := ⟨_, rfl⟩
      have HPc := Lib.hid hc
      rw [← hc] at cc
      have CC := Lib.hid cc
      clear cc hf hc
      cases c
      · have HF2 : Hid ((fs.take (k + 1)).any P = false) := Lib.hid (by rw [HNx.out, HF.out, ← HPc.out]; rfl)
        go_wp2_with fail
        refine (show Calls _ fn #[.agg #[.int .i64 f.1, .string f.2], p, q] _ _ from CC.out).mono ?_
        rintro r w1 ⟨rfl, hb⟩
        have HB1 := Lib.hid (HB.out.trans (hb.mono HB.out.size))
        clear hb g0 g1
        go_wp2
        go_roundw
        case rel => exact ⟨k + 1, by omega, by go_num, HF2, HB1⟩
        case measure => simp [intOf]; omega
      · have HF2 := Lib.hid (HAll.out HPc.out.symm)
        go_wp2_with fail
        refine (show Calls _ fn #[.agg #[.int .i64 f.1, .string f.2], p, q] _ _ from CC.out).mono ?_
        rintro r w1 ⟨rfl, hb⟩
        have HB1 := Lib.hid (HB.out.trans (hb.mono HB.out.size))
        clear hb g0 g1
        go_wp2
        go_ret
        exact ⟨⟨_, rfl, by rw [HF2.out]; simp⟩, HB1.out⟩
    · have HF2 : Hid (fs.any P = false) := Lib.hid (by have := HF.out; rwa [List.take_of_length_le (by rw [← HN.out]; omega)] at this)
      go_wp2
      go_ret
      exact ⟨⟨_, rfl, by rw [HF2.out]; rfl⟩, HB.out⟩
theorem containsF_any (fn : FuncId) (hcall : ∀ args w, (callFunc fn args).run Tryz.prog w = .ok (.enter fn args) w) (p q : Value) (P : Atm → Bool) (fv : Value) (fs : List Atm) (w : World) (hf : AtomsAt w fv fs) (hfn : fs.length ≤ 1000)
    (hC : ∀ f ∈ fs, ∀ w', Below w.heap.size w w' → Calls Tryz.prog fn #[atV f.1 f.2, p, q] w' fun r w'' => r = .returned (.bool (P f)) ∧ Below w'.heap.size w' w'') :
    Calls Tryz.prog 63 #[fv, .func (.func fn) #[] #[p, q]] w fun r w' => r = .returned (.bool (fs.any P)) ∧ Below w.heap.size w w' := by
  have C := Lib.hid (indexF_any fn hcall p q P fv fs w hf hfn hC)
  obtain ⟨a, cap, rfl, hcap, hA⟩ := fd_at hf
  clear hf hA hC
  go_enter Tryz.func63, Tryz.ntmps63
  go_wp2_with fail
  refine C.out.mono ?_
  rintro r w1 ⟨⟨i, rfl, hi⟩, hb⟩
  have HI := Lib.hid hi
  have HB := Lib.hid hb
  clear hi hb
  go_wp2
  go_ret
  exact ⟨by rw [← HI.out]; rfl, HB.out⟩
set_option maxHeartbeats 2000000 in
theorem FoldOverrides_any (v : Value) (es : List Ent) (fv : Value) (fs : List Atm) (w : World) (h : EntsAt w v es) (hn : es.length ≤ 2097152) (hx : ∀ e ∈ es, entOk e) (hf : AtomsAt w fv fs) (hfn : fs.length ≤ 2097152) (hfx : ∀ f ∈ fs, f.2.size ≤ 1048576) :
    Calls Tryz.prog 25 #[dV v, fv] w fun r w' => OutR w.heap.size w' (ovO es fs) (okD es && Pl.okFs fs) r ∧ Below w.heap.size w w' := by
  have HE := Lib.hid h
  have HF := Lib.hid hf
  have CB := Lib.hid (fun w' h hf => foldedBy_any v es fv fs w' h hn hx hf hfn hfx)
  have BX := Lib.hid (fun o => below_x1 w o)
  obtain ⟨fa, fc, rfl, _⟩ := fd_at hf
  obtain ⟨fl, hfl⟩ : ∃ fl, fl = fs.length := ⟨_, rfl⟩
  obtain ⟨a, cap, rfl, hcap, hC⟩ := h.cells
  obtain ⟨n, hnn⟩ : ∃ n, n = es.length := ⟨_, rfl⟩
  unfold dV at CB ⊢
  cases hg : (okD es && Pl.okFs fs)
  · rw [ovO_no hg]
    rw [← hfl, ← hnn]
    simp only [hg, ← hfl, ← hnn] at CB
    rw [← hfl] at HF
    rw [← hnn] at HE
    have HNil : Hid (∀ w', OutR w.heap.size w' [] false (.returned (.tuple #[.slice none 0 0, .bool false]))) := fun w' => ⟨_, [], rfl, RowO.nil _ _, rfl⟩
    clear h hf hx hfx hg hfl hnn hfn hn hC
    go_enter Tryz.func25, Tryz.ntmps25
    go_wp2_with fail
    refine (CB.out _ (HE.out.below (BX.out _)) (HF.out.below (BX.out _))).mono ?_
    rintro r w1 ⟨⟨m, rfl, _⟩, hb⟩
    have B1 := Lib.hid ((BX.out _).trans (hb.mono (by simp)))
    clear hb
    go_wp2
    go_ret2
    exact ⟨HNil.out _, B1.out.alloc B1.out.size _⟩
  · rw [ovO_yes hg]
    have hg2 := hg
    rw [Bool.and_eq_true] at hg2
    obtain ⟨h40, hoks, _⟩ := okD_parts hg2.1
    obtain ⟨hf6, hfv, _⟩ := Pl.okFs_parts hg2.2
    have HX := Lib.hid (fun k e (h : es[k]? = some e) => okE_size (hoks e (List.mem_of_getElem? h)))
    have CC := Lib.hid (fun u xs w h h0 hn => clone_any u xs w h h0 hn)
    have HCt := Lib.hid (fun gF gE b u s xs w' hF hE hm hu (hxn : xs.length ≤ 2097152) hf' => containsF_any 61 (fun args w => by first | rfl | kernel_rfl) (.pointer (some ⟨gF, 0, none⟩)) (.pointer (some ⟨gE, 0, none⟩)) (fun f => (unL es xs f).isSome) (.slice fa fs.length fc) fs w' hf' (by omega)
      (fun f hff w'' hb => ovc_any gF gE b es (.slice fa fs.length fc) u s xs f.1 f.2 w'' (BoxW.below hF hb (BoxW.lt hF)) (BoxW.below hE hb (BoxW.lt hE)) (MapB.below hm hb) hg2.1 (IntsM.below hu hb) hxn (hfx f hff)))
    have HD := Lib.hid hg2.1
    have hnn40 : n ≤ 40 := by rw [hnn]; exact h40
    simp only [hg, ← hfl, ← hnn] at CB
    simp only [← hfl] at HCt
    rw [← hfl] at HF
    rw [← hnn] at HE hcap
    rw [← hfl, ← hnn]
    have HN := Lib.hid hnn
    have HC := Lib.hid hC
    clear h hf hx hfx hg hg2 hfl hnn hfn hn hC hoks hfv
    go_enter Tryz.func25, Tryz.ntmps25
    go_wp2_with fail
    refine (CB.out _ (HE.out.below (BX.out _)) (HF.out.below (BX.out _))).mono ?_
    rintro r w1 ⟨⟨m, rfl, hm⟩, hb⟩
    have B1 := Lib.hid ((BX.out _).trans (hb.mono (by simp)))
    obtain ⟨b, rfl, _, hmb⟩ := hm HD.out
    have q1 : w1.cell? ⟨w.heap.size, 0, none⟩ = some (.slice a n cap) := box1 hb
    obtain ⟨W, hW⟩ : ∃ W, W = w1.alloc (.cells #[.map (some b), .slice fa fl fc] 89) := ⟨_, rfl⟩
    have hbW : Below w1.heap.size w1 W := by rw [hW]; exact below_x1 _ _
    have HMW := Lib.hid (hmb.below hbW)
    have BW := Lib.hid (B1.out.trans (hbW.mono B1.out.size))
    have HFW : Hid (BoxW W w1.heap.size 89 (.map (some b)) (.slice fa fl fc)) := Lib.hid (by rw [hW]; exact BoxW.new _ _ _ _)
    have hqW : W.cell? ⟨w.heap.size, 0, none⟩ = some (.slice a n cap) := (hbW.cell (p := ⟨w.heap.size, 0, none⟩) (lt_of_cell q1)).trans q1
    have hqa := hqW
    rw [hW] at hqa
    have HW := Lib.hid hW
    have HWs : Hid (W.heap.size = w1.heap.size + 1) := Lib.hid (by rw [hW]; simp)
    clear hb hm hmb hbW hW q1
    go_wp2_with fail
    rw [← HW.out]
    clear hqW hqa
    go_loopw [8, 23] (fun x i wr => ∃ (k : Nat) (us : List (Value × List Int)), i = .int .i64 k ∧ k ≤ n ∧ Hid (RowO wr W.heap.size x us) ∧ Hid (us.map (·.2) = ovL es fs (es.take k)) ∧ Hid (Below W.heap.size W wr)) (fun _ i _ => n - (intOf i).toNat)
    case atStart => exact ⟨0, [], rfl, Nat.zero_le _, RowO.nil _ _, Lib.hid rfl, Lib.hid (Below.refl _ _)⟩
    case round =>
      obtain ⟨k, us, rfl, hk, HR, HM, HBr⟩ := hrel
      by_cases hlt : k < n
      · obtain ⟨e, he⟩ : ∃ e, es[k]? = some e := ⟨_, List.getElem?_eq_getElem (by rw [← HN.out]; exact hlt)⟩
        have hbw := BW.out.trans (HBr.out.mono BW.out.size)
        obtain ⟨bk, o, uk, rfl, hbk, g0, g1, gi⟩ := HC.out wr hbw k e he
        obtain ⟨hx1, hx2, _⟩ := HX.out k e he
        obtain ⟨W0, hW0⟩ : ∃ W0, W0 = wr.alloc (.cells #[uk, .string e.2] 58) := ⟨_, rfl⟩
        have hb0 : Below wr.heap.size wr W0 := by rw [hW0]; exact below_x1 wr _
        have E0 : BoxW W0 wr.heap.size 58 uk (.string e.2) := by rw [hW0]; exact BoxW.new wr _ _ _
        have HBW0 := Lib.hid (HBr.out.trans (hb0.mono HBr.out.size))
        have cct := HCt.out w1.heap.size wr.heap.size b uk e.2 e.1 W0 (HFW.out.below HBW0.out HFW.out.lt) E0 (HMW.out.below HBW0.out) ((gi.m (by omega)).below hb0) (by omega) (HF.out.below (BW.out.trans (HBW0.out.mono BW.out.size)))
        have HE0 := Lib.hid E0
        have HU0 := Lib.hid (gi.below hb0)
        have HR0 := Lib.hid (HR.out.below hb0)
        have hul : us.length ≤ 1000 := by
          have h1 := congrArg List.length HM.out
          have h2 := ovL_len es fs (es.take k)
          rw [List.length_map] at h1
          rw [List.length_take] at h2
          omega
        obtain ⟨ua, ucap, rfl⟩ := HR.out.form
        obtain ⟨ea, ecap, rfl, _, _⟩ := gi.cells
        have HY : Hid (ovB es fs e.1 = true → ovL es fs (es.take (k + 1)) = ovL es fs (es.take k) ++ [e.1]) := fun h => ovL_yes he h
        have HZ : Hid (ovB es fs e.1 = false → ovL es fs (es.take (k + 1)) = ovL es fs (es.take k)) := fun h => ovL_no he h
        obtain ⟨xs, ts⟩ := e
        simp only at HY HZ g0 g1 hW0 HE0 HU0 cct hx1 hx2
        have hovb : (fs.any fun f => (unL es xs f).isSome) = ovB es fs xs := rfl
        rw [hovb] at cct
        rw [hW0] at cct
        have CT := Lib.hid cct
        have HW0 := Lib.hid hW0
        clear he gi hW0 hb0 E0 cct hovb hbw HR
        obtain ⟨c, hc⟩ : ∃ c, c = ovB es fs xs := ⟨_, rfl⟩
        rw [← hc] at CT HY HZ
        clear hc
        cases c
        · have HZ1 := Lib.hid (HZ.out rfl)
          have HM1 : Hid (us.map (·.2) = ovL es fs (es.take (k + 1))) := by show us.map (·.2) = _; rw [HZ1.out]; exact HM.out
          clear HY HZ HZ1 HM
          go_wp2_with fail
          refine CT.out.mono ?_
          rintro r w2 ⟨rfl, hb⟩
          rw [← HW0.out] at hb
          have HB2 := Lib.hid (HBW0.out.trans (hb.mono HBW0.out.size))
          have HR2 := Lib.hid (HR0.out.below hb)
          clear hb g0 g1 HR0
          go_wp2
          go_roundw
          case rel => exact ⟨k + 1, us, by go_num, by omega, HR2, HM1, HB2⟩
          case measure => simp [intOf]; omega
        · have HY1 := Lib.hid (HY.out rfl)
          clear HY HZ
          go_wp2_with fail
          refine CT.out.mono ?_
          rintro r w2 ⟨rfl, hb⟩
          rw [← HW0.out] at hb
          have HB2 := Lib.hid (HBW0.out.trans (hb.mono HBW0.out.size))
          have HR2 := Lib.hid (HR0.out.below hb)
          have hE2 := HE0.out.below hb HE0.out.lt
          have e0 := hE2.cell0
          have HCl := Lib.hid (CC.out (.slice ea xs.length ecap) xs w2 (HU0.out.below hb) (by omega) (by omega))
          clear hb g0 g1 HR0 hE2
          go_wp2_with fail
          refine HCl.out.mono ?_
          rintro r w3 ⟨⟨v3, rfl, hv3⟩, hb3⟩
          obtain ⟨va, vc, hvf⟩ := hv3.form
          have HV3 := Lib.hid hv3
          have HBB3 := Lib.hid hb3
          subst hvf
          have HB3 : Hid (Below W.heap.size W w3) := Lib.hid (HB2.out.trans (hb3.mono HB2.out.size))
          have hs2 : W.heap.size ≤ w2.heap.size := HB2.out.size
          clear hv3 hb3 HCl e0
          go_wp2_with (at_builtin; refine push_out rfl (.tmp 31) (.tmp 35) rfl W.heap.size _ us rfl HR2.out HBB3.out _ xs HV3.out rfl hs2 (by omega) ?_)
          intro v' w4 R4 hg4
          have HR4 := Lib.hid R4
          have HB4 : Hid (Below W.heap.size W w4) := (HB3.out.trans ((below_x1 w3 _).mono HB3.out.size)).grown hg4 (by simp; have := HB3.out.size; omega) (fun b e => (HR2.out.row.lt b e).1)
          have HM4 : Hid ((us ++ [(Value.slice va xs.length vc, xs)]).map (fun x : Value × List Int => x.2) = ovL es fs (es.take (k + 1))) := by
            show List.map _ _ = _
            rw [HY1.out, List.map_append, HM.out]; rfl
          obtain ⟨v'a, v'c, rfl⟩ := R4.form
          clear R4 hg4 HR2 HBB3 HV3 HM HY1
          go_wp2
          go_roundw
          case rel => exact ⟨k + 1, _, by go_num, by omega, HR4, HM4, HB4⟩
          case measure => simp [intOf]; omega
      · have HM1 : Hid (us.map (·.2) = ovL es fs es) := by
          show us.map (·.2) = _
          rw [HM.out, List.take_of_length_le (by rw [← HN.out]; omega)]
        obtain ⟨ua, ucap, rfl⟩ := HR.out.form
        have HRb : Hid (RowO wr w.heap.size (.slice ua us.length ucap) us) := Lib.hid ⟨ownsRow_mono HR.out.row BW.out.size, fun j p hj => ownI_mono (HR.out.own j p hj) BW.out.size, HR.out.off, HR.out.apart⟩
        clear HM HR
        go_wp2
        go_ret2
        exact ⟨⟨_, us, rfl, HRb.out, HM1.out⟩, BW.out.trans (HBr.out.mono BW.out.size)⟩

/-! ### The specification's -/
set_option maxHeartbeats 4000000 in
theorem specFoldOverrides_any (v : Value) (es : List Ent) (fv : Value) (fs : List Atm) (w : World) (h : EntsAt w v es) (hn : es.length ≤ 2097152) (hx : ∀ e ∈ es, entOk e) (hf : AtomsAt w fv fs) (hfn : fs.length ≤ 2097152) (hfx : ∀ f ∈ fs, f.2.size ≤ 1048576) :
    Calls Tryz.prog 26 #[dV v, fv] w fun r w' => (∃ u, r = .returned (.tuple #[u, .bool (okD es && Pl.okFs fs)]) ∧ OutsAt w' u (ovO es fs)) ∧ Below w.heap.size w w' := by
  obtain ⟨i0, hi, hz0, hz1, hz2⟩ := info_parts infoInt
  have HE := Lib.hid h
  have HF := Lib.hid hf
  have cg := fun w' hb => l6Good_any v es w' (h.below (w' := w') hb) hn hx
  have cv := fun w' hb => specIsValidFolds_any fv fs w' (hf.below (w' := w') hb) hfn (fun e he => by have := hfx e he; unfold maxLen; omega)
  have CAt := Lib.hid (fun y ys w' hb hy hyn => l6At_any v es y ys w' (h.below (w' := w') hb) hy hn hx hyn)
  have BX := Lib.hid (below_x1 w (.cells #[v] 26))
  obtain ⟨a, cap, rfl, hcap, hC⟩ := h.cells
  obtain ⟨fa, fc, rfl, hfc, hFC⟩ := fd_at hf
  have HFC := Lib.hid hFC
  have HC := Lib.hid hC
  obtain ⟨n, hnn⟩ : ∃ n, n = es.length := ⟨_, rfl⟩
  obtain ⟨fl, hfl⟩ : ∃ fl, fl = fs.length := ⟨_, rfl⟩
  have HFL := Lib.hid hfl
  have HN := Lib.hid hnn
  unfold dV at cg CAt ⊢
  rw [← hnn] at HE BX hcap
  rw [← hfl] at HF hfc
  simp only [← hnn] at cg CAt
  simp only [← hfl] at cv
  rw [← hnn, ← hfl]
  have HNil : Hid (∀ w' a cap, OutsAt w' (.slice a 0 cap) []) := fun w' a cap => OutsAt.nil _ _ _
  cases hg : okD es
  · rw [hg] at cg
    have CG := Lib.hid cg
    rw [ovO_no (by rw [hg]; rfl)]
    clear h hf hx hfx hg cg cv hFC hC hfl hnn hfn hn
    go_enter Tryz.func26, Tryz.ntmps26
    go_wp2_with fail
    refine (CG.out _ BX.out).mono ?_
    rintro r w1 ⟨rfl, hb⟩
    have B1 := Lib.hid (BX.out.trans (hb.mono BX.out.size))
    clear hb
    go_wp2
    go_ret2
    exact ⟨⟨_, rfl, HNil.out _ _ _⟩, B1.out⟩
  · rw [hg] at cg
    have CG := Lib.hid cg
    cases hfk : Pl.okFs fs
    · rw [hfk] at cv
      have CV := Lib.hid cv
      rw [ovO_no (by rw [hg, hfk]; rfl)]
      clear h hf hx hfx hg hfk cg cv hFC hC hfl hnn hfn hn
      go_enter Tryz.func26, Tryz.ntmps26
      go_wp2_with fail
      refine (CG.out _ BX.out).mono ?_
      rintro r w1 ⟨rfl, hb⟩
      have B1 := Lib.hid (BX.out.trans (hb.mono BX.out.size))
      clear hb
      go_wp2_with fail
      refine (CV.out _ B1.out).mono ?_
      rintro r w2 ⟨rfl, hb⟩
      have B2 := Lib.hid (B1.out.trans (hb.mono B1.out.size))
      clear hb
      go_wp2
      go_ret2
      exact ⟨⟨_, rfl, HNil.out _ _ _⟩, B2.out⟩
    · rw [hfk] at cv
      have CV := Lib.hid cv
      rw [ovO_yes (by rw [hg, hfk]; rfl)]
      obtain ⟨h40, hoks, _⟩ := okD_parts hg
      obtain ⟨hf6, hfv, _⟩ := Pl.okFs_parts hfk
      have hfl6 : fl ≤ 6 := by rw [hfl]; exact hf6
      have hnn40 : n ≤ 40 := by rw [hnn]; exact h40
      have HX := Lib.hid (fun k e (h : es[k]? = some e) => show okO e.1 = true ∧ 1 ≤ e.1.length ∧ e.1.length ≤ 6 from ⟨(okE_O (hoks e (List.mem_of_getElem? h))).1, (okE_size (hoks e (List.mem_of_getElem? h))).1, (okE_size (hoks e (List.mem_of_getElem? h))).2.1⟩)
      have HVal := Lib.hid (fun k f (hkf : fs[k]? = some f) => show Pl.okF f = true from hfv f (List.mem_of_getElem? hkf))
      have CUn := Lib.hid (fun u xs k t (ho : okO xs = true) (hkt : Pl.okF (k, t) = true) w' hm => l10Unfold_any u xs k t w' hm ho hkt)
      have HUb := Lib.hid (fun (xs : List Int) (f : Atm) (ho : okO xs = true) (hf : Pl.okF f = true) => show unfB xs f.1 f.2 = decide (0 < (unfI xs f.1 f.2).length) from by
        rw [(unf_un0 ho hf).1, (unf_un0 ho hf).2, un0_pos])
      clear h hf hx hfx hg hfk cg cv hFC hC hfl hnn hfn hn hoks hfv
      go_enter Tryz.func26, Tryz.ntmps26
      go_wp2_with fail
      refine (CG.out _ BX.out).mono ?_
      rintro r w1 ⟨rfl, hb⟩
      have B1 := Lib.hid (BX.out.trans (hb.mono BX.out.size))
      have Q1 : Hid (BoxV w1 w.heap.size 26 (.slice a n cap)) := Lib.hid ((BoxV.new w _ _).below hb (by simp))
      clear hb
      go_wp2_with fail
      refine (CV.out _ B1.out).mono ?_
      rintro r w2 ⟨rfl, hb⟩
      have B2 := Lib.hid (B1.out.trans (hb.mono B1.out.size))
      have Q2 := Lib.hid (Q1.out.below hb Q1.out.lt)
      have q2 := Q2.out.cell
      clear hb Q1
      have hW : ∃ W, W = w2.alloc (.cells #[] 27) ∧ RowO W w2.heap.size (.slice (some ⟨w2.heap.size, 0, none⟩) 0 0) [] ∧ Below w2.heap.size w2 W := ⟨_, rfl, RowO.empty w2, below_x1 _ _⟩
      obtain ⟨W, hW, hrow, hbW⟩ := hW
      have HW := Lib.hid hW
      have HRow := Lib.hid (show RowO W (w.heap.size + 1) (.slice (some ⟨w2.heap.size, 0, none⟩) 0 0) [] from ⟨ownsRow_mono hrow.row Q2.out.lt, fun j p h => by simp at h, fun j p h => by simp at h, fun i j p q h => by simp at h⟩)
      have BW := Lib.hid (B2.out.trans (hbW.mono B2.out.size))
      have QW := Lib.hid (Q2.out.below hbW Q2.out.lt)
      clear hW hrow hbW q2
      go_wp2_with fail
      rw [← HW.out]
      go_loopw [6, 7] (fun x i wr => ∃ (k : Nat) (us : List (Value × List Int)), i = .int .i64 k ∧ k ≤ n ∧ Hid (RowO wr (w.heap.size + 1) x us) ∧ Hid (us.map (·.2) = ovL es fs (es.take k)) ∧ Hid (BoxV wr w.heap.size 26 (.slice a n cap)) ∧ Hid (Below w.heap.size w wr)) (fun _ i _ => n - (intOf i).toNat)
      case atStart => exact ⟨0, [], rfl, Nat.zero_le _, HRow, Lib.hid rfl, QW, BW⟩
      case round =>
        obtain ⟨k, us, rfl, hk, HR, HM, HQr, HBr⟩ := hrel
        have cx := HQr.out.cell
        by_cases hlt : k < n
        · obtain ⟨e, he⟩ : ∃ e, es[k]? = some e := ⟨_, List.getElem?_eq_getElem (by rw [← HN.out]; exact hlt)⟩
          obtain ⟨bk, o, uk, rfl, hbk, g0, _, gi⟩ := HC.out wr HBr.out k e he
          obtain ⟨hxo, hx1, hx2⟩ := HX.out k e he
          have hul : us.length ≤ 1000 := by
            have h1 := congrArg List.length HM.out
            have h2 := ovL_len es fs (es.take k)
            rw [List.length_map] at h1
            rw [List.length_take] at h2
            omega
          have HY : Hid (ovB es fs e.1 = true → ovL es fs (es.take (k + 1)) = ovL es fs (es.take k) ++ [e.1]) := fun h => ovL_yes he h
          have HZ : Hid (ovB es fs e.1 = false → ovL es fs (es.take (k + 1)) = ovL es fs (es.take k)) := fun h => ovL_no he h
          obtain ⟨xs, ts⟩ := e
          simp only at hxo hx1 hx2 HY HZ g0 gi
          have HIx := Lib.hid (gi.m (by omega))
          obtain ⟨ea, ecap, rfl, _, _⟩ := gi.cells
          have HW1 : Hid (∀ W', Below wr.heap.size wr W' → W'.cell? ⟨bk, o + k * 2, none⟩ = some (.slice ea xs.length ecap) ∧ W'.cell? ⟨w.heap.size, 0, none⟩ = some (.slice (some ⟨bk, o, none⟩) n cap) ∧ IntsM W' (.slice ea xs.length ecap) xs ∧ Below w.heap.size w W') :=
            fun W' hb => ⟨(hb.cell (p := ⟨bk, o + k * 2, none⟩) (lt_of_cell g0)).trans g0, (hb.cell (p := ⟨w.heap.size, 0, none⟩) HQr.out.lt).trans cx, HIx.out.below hb, HBr.out.trans (hb.mono HBr.out.size)⟩
          have HXo := Lib.hid hxo
          clear he gi g0 hbk
          go_wp2_with fail
          clear cx
          obtain ⟨wo, hwo⟩ : ∃ x, x = wr := ⟨_, rfl⟩
          subst hwo
          go_loopw [8, 9] (fun x i wr => ∃ (j : Nat), i = .int .i64 j ∧ j ≤ fl ∧ x = .bool ((fs.take j).any fun f => (unL es xs f).isSome) ∧ Hid (Below wo.heap.size wo wr)) (fun _ i _ => fl - (intOf i).toNat)
          case atStart => exact ⟨0, rfl, Nat.zero_le _, rfl, Lib.hid (Below.refl _ _)⟩
          case round =>
            obtain ⟨j, rfl, hj, rfl, HBq⟩ := hrel
            obtain ⟨g0, cx, hIq, hBw⟩ := HW1.out wr HBq.out
            by_cases hjl : j < fl
            · obtain ⟨f, hf⟩ : ∃ f, fs[j]? = some f := ⟨_, List.getElem?_eq_getElem (by rw [← HFL.out]; exact hjl)⟩
              obtain ⟨fb, fo, hfa, hfb, f0, f1⟩ := HFC.out wr hBw j f hf
              subst hfa
              have hfo := HVal.out j f hf
              have HNx := Lib.hid (any_next (P := fun f => (unL es xs f).isSome) hf)
              have HUb1 := Lib.hid (HUb.out xs f HXo.out hfo)
              obtain ⟨fk, ft⟩ := f
              dsimp only at f0 f1
              have cu := CUn.out (.slice ea xs.length ecap) xs fk ft HXo.out hfo wr.drew (hIq.below (below_drewF (Below.refl _ _) 1))
              obtain ⟨zs, hzs⟩ : ∃ zs, zs = unfI xs fk ft := ⟨_, rfl⟩
              have HZs := Lib.hid hzs
              have hzl : zs.length ≤ 6 := by rw [hzs]; exact unfI_len _ _ _
              have HUb2 : Hid (unfB xs fk ft = decide (0 < zs.length)) := Lib.hid (by rw [hzs]; exact HUb1.out)
              rw [← hzs] at cu
              obtain ⟨zl, hzl2⟩ : ∃ zl, zl = zs.length := ⟨_, rfl⟩
              have HZL := Lib.hid hzl2
              rw [← hzl2] at hzl
              have CU := Lib.hid cu
              have HBw := Lib.hid hBw
              have k0 := cell_regrown g0
              have k1 := cell_regrown cx
              have k2 := cell_regrown f0
              have k3 := cell_regrown f1
              clear cu hf hfo hzs hzl2 HUb1 hBw hIq hfb
              go_wp2_with fail
              refine Mx.wp_region_mixed (Mx.ofL [(0, 0), (1, 1), (2, 0), (3, 0), (4, 0), (5, 1), (6, 0), (7, 0), (8, 0), (9, 1), (10, 3), (11, 0)] .done) (by kernel_rfl) (by kernel_rfl) ?_
              repeat ((first | refine Mx.mix0 rfl ?_ | refine Mx.mix1 rfl ?_); go_big_quiet_step (fail); refine wpQuiet_nil ?_)
              refine Mx.mix3 rfl ?_
              go_wp2_with fail
              refine CU.out.mono ?_
              rintro r w4 ⟨⟨y, rfl, hy⟩, hb⟩
              have G4 : Hid (Below wr.heap.size wr w4) := Lib.hid ((below_drewF (Below.refl _ _) 1).trans hb)
              have HY4 := Lib.hid (rowInts_at hy)
              have HB4 := Lib.hid (HBq.out.trans (G4.out.mono HBq.out.size))
              obtain ⟨ya, yc, hye, _, _⟩ := (rowInts_at hy).cells
              rw [← HZL.out] at hye
              subst hye
              obtain ⟨_, cx4, _, hBw4⟩ := HW1.out w4 HB4.out
              have CA := Lib.hid (CAt.out (.slice ya zl yc) zs w4 hBw4 HY4.out (by rw [← HZL.out]; omega))
              clear hb hy k0 k1 k2 k3 g0 cx f0 f1 hBw4
              go_wp2
              refine Mx.mid_normal (fun q => by cases q) ?_
              repeat ((first | refine Mx.mix0 rfl ?_ | refine Mx.mix1 rfl ?_); go_big_quiet_step (fail); refine wpQuiet_nil ?_)
              refine Mx.mix_nil ?_
              by_cases h0 : zl = 0
              · subst h0
                have hL : unL es xs (fk, ft) = none := unL_bad (by show unfB xs fk ft = false; rw [HUb2.out, ← HZL.out]; rfl)
                have HNy : Hid ((fs.take (j + 1)).any (fun f => (unL es xs f).isSome) = (fs.take j).any (fun f => (unL es xs f).isSome)) := Lib.hid (by rw [HNx.out]; show (_ || (unL es xs (fk, ft)).isSome) = _; rw [hL]; simp)
                clear HNx hL
                go_wp2
                go_roundw
                case rel => exact ⟨j + 1, by go_num, by omega, by rw [HNy.out], HB4⟩
                case measure => simp [intOf]; omega
              · have hz0 : (zl : Int) > 0 := by omega
                have hUB : unfB xs fk ft = true := by rw [HUb2.out, ← HZL.out, decide_eq_true (by omega)]
                have hL : unL es xs (fk, ft) = Pl.look zs es := by unfold unL; rw [hUB, HZs.out]; rfl
                have hI := idxI_look zs es
                rw [← hL] at hI
                obtain ⟨I, hIe⟩ : ∃ I, I = idxI zs es := ⟨_, rfl⟩
                rw [← hIe] at hI CA
                clear hIe hUB hL
                cases hs : (unL es xs (fk, ft)).isSome
                · rw [hs] at hI
                  have hI2 : ¬ I ≥ 0 := of_decide_eq_false hI
                  have HNy : Hid ((fs.take (j + 1)).any (fun f => (unL es xs f).isSome) = (fs.take j).any (fun f => (unL es xs f).isSome)) := Lib.hid (by rw [HNx.out]; show (_ || (unL es xs (fk, ft)).isSome) = _; rw [hs]; simp)
                  clear HNx hI hs
                  go_wp2_with fail
                  refine CA.out.mono ?_
                  rintro r w5 ⟨rfl, hb⟩
                  have HB5 := Lib.hid (HB4.out.trans (hb.mono HB4.out.size))
                  clear hb cx4
                  go_wp2
                  go_roundw
                  case rel => exact ⟨j + 1, by go_num, by omega, by rw [HNy.out], HB5⟩
                  case measure => simp [intOf]; omega
                · rw [hs] at hI
                  have hI2 : I ≥ 0 := of_decide_eq_true hI
                  have HNy : Hid ((fs.take (j + 1)).any (fun f => (unL es xs f).isSome) = true) := Lib.hid (by rw [HNx.out]; show (_ || (unL es xs (fk, ft)).isSome) = _; rw [hs]; simp)
                  clear HNx hI hs
                  go_wp2_with fail
                  refine CA.out.mono ?_
                  rintro r w5 ⟨rfl, hb⟩
                  have HB5 := Lib.hid (HB4.out.trans (hb.mono HB4.out.size))
                  clear hb cx4
                  go_wp2
                  go_roundw
                  case rel => exact ⟨j + 1, by go_num, by omega, by rw [HNy.out], HB5⟩
                  case measure => simp [intOf]; omega
            · have hov : ((fs.take j).any fun f => (unL es xs f).isSome) = ovB es fs xs := by rw [List.take_of_length_le (by rw [← HFL.out]; omega)]; rfl
              rw [hov]
              obtain ⟨c, hc⟩ : ∃ c, c = ovB es fs xs := ⟨_, rfl⟩
              rw [← hc]
              rw [← hc] at HY HZ
              have HRq := Lib.hid (HR.out.below HBq.out)
              have HBw := Lib.hid hBw
              have HQq := Lib.hid (HQr.out.below HBq.out HQr.out.lt)
              clear hc hov HR
              cases c
              · have HZ1 := Lib.hid (HZ.out rfl)
                have HM1 : Hid (us.map (·.2) = ovL es fs (es.take (k + 1))) := by show us.map (·.2) = _; rw [HZ1.out]; exact HM.out
                clear HY HZ HZ1 HM g0 cx
                go_wp2
                go_roundw
                case rel => exact ⟨k + 1, us, by go_num, by omega, HRq, HM1, HQq, HBw⟩
                case measure => simp [intOf]; omega
              · have HY1 := Lib.hid (HY.out rfl)
                clear HY HZ
                obtain ⟨ua, ucap, rfl⟩ := HRq.out.form
                have R0 := Lib.hid (row_new wr 3)
                have N0 := Lib.hid (below_x1 wr (.cells #[] 3))
                have hIq2 := Lib.hid (hIq.below N0.out)
                obtain ⟨g2, cx2, _, _⟩ := HW1.out _ (HBq.out.trans (N0.out.mono HBq.out.size))
                clear g0 cx
                go_wp2_with (at_builtin; refine append_ints hi hz0 hz1 hz2 rfl _ _ rfl wr.heap.size _ [] rfl R0.out _ xs rfl hIq2.out (by simp) (by simp) (by omega) ?_)
                intro v5 w5 hown hg5
                have N5 : Hid (Below wr.heap.size wr w5) := Lib.hid (N0.out.grown hg5 (by simp) (fun j hj => row_ge R0.out hj))
                have HO5' := ownInts_of hown
                obtain ⟨va, vc, rfl⟩ := HO5'.form
                have HO5 := Lib.hid HO5'
                clear HO5'
                have hb0 : w.heap.size + 1 ≤ wr.heap.size := HQq.out.lt
                clear hown hg5 R0 N0 hIq2 g2 cx2
                go_wp2_with (at_builtin; refine push_out rfl (.tmp 54) (.tmp 63) rfl (w.heap.size + 1) _ us rfl HRq.out N5.out _ xs HO5.out rfl hb0 (by omega) ?_)
                intro v' w6 R6 hg6
                have HR6 := Lib.hid R6
                have HB5 := HBw.out.trans (N5.out.mono HBw.out.size)
                have HB6 : Hid (Below w.heap.size w w6) := (HB5.trans ((below_x1 w5 _).mono HB5.size)).grown hg6 (by simp; have := HB5.size; omega) (fun b e => by have := (HRq.out.row.lt b e).1; omega)
                have HQ6 : Hid (BoxV w6 w.heap.size 26 (.slice (some ⟨bk, o, none⟩) n cap)) := Lib.hid (((HQq.out.below N5.out HQq.out.lt).below (below_x1 w5 _) (by have := HQq.out.lt; have := N5.out.size; omega)).grown hg6 (fun e => by have := (HRq.out.row.lt _ e.symm).1; omega))
                have HM6 : Hid ((us ++ [(Value.slice va xs.length vc, xs)]).map (fun x : Value × List Int => x.2) = ovL es fs (es.take (k + 1))) := by
                  show List.map _ _ = _
                  rw [HY1.out, List.map_append, HM.out]; rfl
                clear R6 hg6 HRq N5 HO5 HM HY1 HB5
                go_wp2
                go_roundw
                case rel => exact ⟨k + 1, _, by go_num, by omega, HR6, HM6, HQ6, HB6⟩
                case measure => simp [intOf]; omega
        · have HM1 : Hid (us.map (·.2) = ovL es fs es) := by
            show us.map (·.2) = _
            rw [HM.out, List.take_of_length_le (by rw [← HN.out]; omega)]
          obtain ⟨ua, ucap, rfl⟩ := HR.out.form
          have HO : Hid (OutsAt wr (.slice ua us.length ucap) (ovL es fs es)) := by rw [← HM1.out]; exact HR.out.at
          clear HM
          go_wp2
          go_ret2
          exact ⟨⟨_, rfl, HO.out⟩, HBr.out⟩
end Go.Proofs.YthigdblloddepaaGreat

namespace Go.Proofs.YthigdblloddepaaGreat
set_option maxRecDepth 100000
open Go.RowKit

theorem rI_same (v u : Value) (xs : List Int) (w : World) (h : IntsAt w v xs) (h' : IntsAt w u xs) (hn : xs.length ≤ 2097152) :
    Calls Tryz.prog 60 #[v, u] w fun e w' => e = .returned (.bool true) ∧ Below w.heap.size w w' := by
  refine (rI_any v u xs xs w h h' hn hn).mono ?_
  rintro e w' ⟨rfl, hb⟩
  exact ⟨ret_bool (decide_eq_true rfl), hb⟩
theorem rLists_same (v u : Value) (os : List (List Int)) (w : World) (hv : OutsAt w v os) (hu : OutsAt w u os) (hn : os.length ≤ 2097152) (hx : ∀ xs ∈ os, xs.length ≤ 2097152) :
    Calls Tryz.prog 27 #[v, u] w fun r w' => r = .returned (.bool true) ∧ Below w.heap.size w w' := by
  have HX := Lib.hid (fun k e (h : os[k]? = some e) => hx e (List.mem_of_getElem? h))
  obtain ⟨a, cap, rfl, hcap, hC⟩ := hv.cells
  obtain ⟨b, cap', rfl, hcap', hD⟩ := hu.cells
  have CE := Lib.hid (fun u v xs w hu hv he => rI_same u v xs w hu hv he)
  obtain ⟨n, hnn⟩ : ∃ n, n = os.length := ⟨_, rfl⟩
  rw [← hnn] at hn hcap hcap' ⊢
  have HN := Lib.hid hnn
  have HC := Lib.hid hC
  have HD := Lib.hid hD
  clear hv hu hnn hC hD hx
  go_enter Tryz.func27, Tryz.ntmps27
  go_wp2_with fail
  go_loopw [5] (fun i wr => ∃ k : Nat, k ≤ n ∧ i = .int .i64 k ∧ Hid (Below w.heap.size w wr)) (fun i _ => n - (intOf i).toNat)
  case atStart => exact ⟨0, Nat.zero_le _, rfl, Below.refl _ _⟩
  case round =>
    obtain ⟨k, hk, rfl, HB⟩ := hrel
    by_cases hlt : k < n
    · obtain ⟨xs, he⟩ : ∃ e, os[k]? = some e := ⟨_, List.getElem?_eq_getElem (by rw [← HN.out]; exact hlt)⟩
      obtain ⟨bk, o, x, rfl, hbk, g0, gx⟩ := HC.out wr HB.out k xs he
      obtain ⟨bk', o', y, rfl, hbk', g0', gy⟩ := HD.out wr HB.out k xs he
      have c := fun w' hb => CE.out x y xs w' (gx.below (w' := w') hb) (gy.below hb) (HX.out k xs he)
      obtain ⟨xa, xc, rfl, _, _⟩ := gx.cells
      obtain ⟨ya, yc, rfl, _, _⟩ := gy.cells
      have C := Lib.hid c
      clear c he gx gy HC HD HX
      have k0 := cell_regrown g0
      have k0' := cell_regrown g0'
      go_wp2_with fail
      refine Mx.wp_region_mixed (Mx.ofL [(0, 0), (1, 0), (2, 0), (3, 1), (4, 0), (5, 0), (6, 0), (7, 1), (8, 3), (9, 0)] .done) (by kernel_rfl) (by kernel_rfl) ?_
      repeat ((first | refine Mx.mix0 rfl ?_ | refine Mx.mix1 rfl ?_); go_big_quiet_step (fail); refine wpQuiet_nil ?_)
      refine Mx.mix3 rfl ?_
      go_wp2_with fail
      refine (C.out _ (below_drewF (Below.refl _ _) 1)).mono ?_
      rintro r w4 ⟨rfl, hb⟩
      have G4 : Hid (Below wr.heap.size wr w4) := Lib.hid ((below_drewF (Below.refl _ _) 1).trans hb)
      clear hb k0 k0' g0 g0' C
      go_wp2
      refine Mx.mid_normal (fun q => by cases q) ?_
      repeat ((first | refine Mx.mix0 rfl ?_ | refine Mx.mix1 rfl ?_); go_big_quiet_step (fail); refine wpQuiet_nil ?_)
      refine Mx.mix_nil ?_
      go_wp2
      go_roundw
      case rel => exact ⟨k + 1, by omega, by go_num, below_step HB.out G4.out⟩
      case measure => simp [intOf]; omega
    · obtain rfl : k = n := by omega
      go_wp2
      go_ret
      exact ⟨rfl, HB.out⟩
set_option maxHeartbeats 1000000 in
theorem rDict_same (v u : Value) (es : List Ent) (w : World) (hv : EntsAt w v es) (hu : EntsAt w u es) (hn : es.length ≤ 2097152) (hx : ∀ e ∈ es, entOk e) :
    Calls Tryz.prog 24 #[dV v, dV u] w fun r w' => r = .returned (.bool true) ∧ Below w.heap.size w w' := by
  have HX := Lib.hid (fun k e (h : es[k]? = some e) => (hx e (List.mem_of_getElem? h)).1)
  obtain ⟨a, cap, rfl, hcap, hC⟩ := hv.cells
  obtain ⟨b, cap', rfl, hcap', hD⟩ := hu.cells
  have CE := Lib.hid (fun u v xs w hu hv he => rI_same u v xs w hu hv he)
  obtain ⟨n, hnn⟩ : ∃ n, n = es.length := ⟨_, rfl⟩
  unfold dV
  rw [← hnn] at hn hcap hcap' ⊢
  have HN := Lib.hid hnn
  have HC := Lib.hid hC
  have HD := Lib.hid hD
  obtain ⟨W, hW⟩ : ∃ W, W = (w.alloc (.cells #[.slice a n cap] 26)).alloc (.cells #[.slice b n cap'] 26) := ⟨_, rfl⟩
  have B0 : Hid (Below w.heap.size w W) := Lib.hid (by rw [hW]; exact below_al2 _ _ _)
  have X0 : Hid (BoxV W w.heap.size 26 (.slice a n cap)) := by rw [hW]; exact (BoxV.new w _ _).below (below_al _ _) (by simp)
  have Y0 : Hid (BoxV W (w.heap.size + 1) 26 (.slice b n cap')) := by
    have e := BoxV.new (w.alloc (.cells #[.slice a n cap] 26)) 26 (.slice b n cap')
    rw [World.size_alloc] at e
    rw [hW]; exact e
  have HW := Lib.hid hW
  have x0 := X0.out.cell
  have y0 := Y0.out.cell
  rw [hW] at x0 y0
  clear hv hu hnn hC hD hx hW
  go_enter Tryz.func24, Tryz.ntmps24
  go_wp2_with fail
  rw [← HW.out]
  clear x0 y0
  go_loopw [5] (fun i wr => ∃ k : Nat, k ≤ n ∧ i = .int .i64 k ∧ Hid (Below w.heap.size w wr) ∧ Hid (BoxV wr w.heap.size 26 (.slice a n cap)) ∧ Hid (BoxV wr (w.heap.size + 1) 26 (.slice b n cap'))) (fun i _ => n - (intOf i).toNat)
  case atStart => exact ⟨0, Nat.zero_le _, rfl, B0, X0, Y0⟩
  case round =>
    obtain ⟨k, hk, rfl, HB, HXb, HYb⟩ := hrel
    have cx := HXb.out.cell
    have cy := HYb.out.cell
    by_cases hlt : k < n
    · obtain ⟨e, he⟩ : ∃ e, es[k]? = some e := ⟨_, List.getElem?_eq_getElem (by rw [← HN.out]; exact hlt)⟩
      obtain ⟨bk, o, x, rfl, hbk, g0, g1, gx⟩ := HC.out wr HB.out k e he
      obtain ⟨bk', o', y, rfl, hbk', g0', g1', gy⟩ := HD.out wr HB.out k e he
      have hel := HX.out k e he
      have c := fun w' hb => CE.out x y e.1 w' (gx.below (w' := w') hb) (gy.below hb) hel
      obtain ⟨xs, t⟩ := e
      obtain ⟨xa, xc, rfl, _, _⟩ := gx.cells
      obtain ⟨ya, yc, rfl, _, _⟩ := gy.cells
      dsimp only at c g0 g1 g0' g1'
      have C := Lib.hid c
      clear c he gx gy HC HD HX
      have k0 := cell_regrown g0
      have k1 := cell_regrown g1
      have k0' := cell_regrown g0'
      have k1' := cell_regrown g1'
      have kx := cell_regrown cx
      have ky := cell_regrown cy
      go_wp2_with fail
      refine Mx.wp_region_mixed (Mx.ofL [(0, 0), (1, 1), (2, 0), (3, 0), (4, 0), (5, 1), (6, 0), (7, 1), (8, 0), (9, 0), (10, 0), (11, 1), (12, 2), (13, 0), (14, 0), (15, 0), (16, 1), (17, 0), (18, 0), (19, 0), (20, 1), (21, 0), (22, 1), (23, 0), (24, 0), (25, 0), (26, 1), (27, 0), (28, 3)] .done) (by kernel_rfl) (by kernel_rfl) ?_
      repeat ((first | refine Mx.mix0 rfl ?_ | refine Mx.mix1 rfl ?_); go_big_quiet_step (fail); refine wpQuiet_nil ?_)
      refine Mx.mix2 rfl ?_
      go_wp2_with fail
      refine (C.out _ (below_drewF (Below.refl _ _) 1)).mono ?_
      rintro r w4 ⟨rfl, hb⟩
      have G4 : Hid (Below wr.heap.size wr w4) := Lib.hid ((below_drewF (Below.refl _ _) 1).trans hb)
      have HG := Lib.hid (regrown_of_below G4.out)
      clear hb C
      go_wp2
      refine Mx.mid_normal (fun _ => HG.out) ?_
      repeat ((first | refine Mx.mix0 rfl ?_ | refine Mx.mix1 rfl ?_); go_big_quiet_step (fail); refine wpQuiet_nil ?_)
      refine Mx.mix3 rfl ?_
      go_wp2
      refine Mx.mid_normal (fun q => by cases q) ?_
      refine Mx.mix_nil ?_
      clear k0 k1 k0' k1' kx ky g0 g1 g0' g1' cx cy
      go_wp2
      go_roundw
      case rel => exact ⟨k + 1, by omega, by go_num, below_step HB.out G4.out, HXb.out.below G4.out HXb.out.lt, HYb.out.below G4.out HYb.out.lt⟩
      case measure => simp [intOf]; omega
    · obtain rfl : k = n := by omega
      go_wp2
      go_ret
      exact ⟨rfl, HB.out⟩
end Go.Proofs.YthigdblloddepaaGreat

namespace Go.Proofs.YthigdblloddepaaGreat.fnFoldExpand
open Go.ChangeShapes Go.WideShapes Go.ChangeAt Go.RowKit
open Go.ChangeMaps (open_string shut_string)
set_option linter.unusedVariables false
set_option maxRecDepth 100000

theorem own : ownKnob Tryz.prog.godebug = none := by kernel_rfl
theorem laidOut : laidOutB Tryz.prog = true := by kernel_rfl

/-- A slice of integers that came in. -/
def IsRow (k : IntKind) (w : World) (a : Option Addr) (len cap : Nat) (zs : List Int) : Prop :=
  (a = none ∧ len = 0 ∧ cap = 0 ∧ zs = []) ∨
  ∃ x, a = some x ∧ len ≤ cap ∧ cap ≤ maxLen ∧ zs.length = cap ∧ (∀ i, i < zs.length → w.cell? (x.add i) = some (.int k (zs.getD i 0))) ∧ ∀ n ∈ zs, (Lit.int k n).wf = true

theorem code_of {w : World} {a : Option Addr} {n c : Nat} {z : List Int} (h : IsRow .u8 w a n c z) (hn : n ≤ 1000000) : CodeAt w a n := by
  refine ⟨hn, fun h0 => ?_⟩
  rcases h with ⟨rfl, rfl, rfl, rfl⟩ | ⟨x, rfl, hl, hm, hz, hcell, hwz⟩
  · omega
  · obtain ⟨b, o, spot⟩ := x
    have h1 := hcell 0 (by omega)
    have hspot : spot = none := by simpa [Addr.add] using World.cell?_spot h1
    subst hspot
    refine ⟨b, o, rfl, ?_, fun i hi => ?_⟩
    · have : (w.cell? ⟨b, o, none⟩).isSome := by have := h1; simp [Addr.add] at this; rw [this]; rfl
      rcases Nat.lt_or_ge b w.heap.size with h' | h'
      · exact h'
      · simp [World.cell?, Array.getElem?_eq_none h'] at this
    · have h2 := hcell i (by omega)
      have h3 := bounds_u8 (hwz (z.getD i 0) (by rw [List.getD_eq_getElem?_getD, List.getElem?_eq_getElem (by omega)]; exact List.getElem_mem _))
      refine ⟨z.getD i 0, h3.1, h3.2, ?_⟩
      by_cases hi0 : i = 0
      · subst hi0; simpa [Addr.add] using h2
      · simpa [Addr.add, hi0] using h2
theorem row_len {w : World} {a : Option Addr} {n c : Nat} {z : List Int} (h : IsRow .u8 w a n c z) : n ≤ maxLen := by
  rcases h with ⟨_, rfl, _, _⟩ | ⟨x, _, hl, hm, _⟩
  · exact Nat.zero_le _
  · omega
theorem exF_in {es : List Ent} (fs : List Atm) (e : Ent) : ∀ (l : List Atm) (acc : List Ent) (n : Nat), ExIn es acc n → ∃ m, ExIn es (exF es fs e acc l) m
  | [], _, n, h => ⟨n, h⟩
  | f :: l, acc, _, h => exF_in fs e l (exP es fs e acc f) _ (h.step fs e f)
theorem exE_in {es : List Ent} (fs : List Atm) : ∀ (l acc : List Ent) (n : Nat), ExIn es acc n → ∃ m, ExIn es (exE es fs acc l) m
  | [], _, n, h => ⟨n, h⟩
  | e :: l, acc, n, h => by
    obtain ⟨m, hm⟩ := exF_in fs e fs acc n h
    exact exE_in fs l _ m hm
theorem exO_small (es : List Ent) (fs : List Atm) : (exO es fs).length ≤ 40 ∧ ∀ e ∈ exO es fs, okE e = true := by
  unfold exO
  split
  · rename_i h
    unfold exOk at h
    rw [Bool.and_eq_true, Bool.and_eq_true, decide_eq_true_eq] at h
    obtain ⟨m, hm⟩ := exE_in fs es es 40 (ExIn.start h.1.1)
    exact ⟨h.2, hm.ok⟩
  · exact ⟨Nat.zero_le _, fun e he => by cases he⟩
/-- What an expansion has at an outline is what a folded lookup gives there. -/
def Agrees (es : List Ent) (fs : List Atm) (acc : List Ent) : Prop := ∀ x ∈ acc, ∃ i : Int, lfX es fs x.1 = some (x.2, i)
theorem Agrees.step {es : List Ent} {fs : List Atm} {acc : List Ent} (h : Agrees es fs acc) (e : Ent) (f : Atm) : Agrees es fs (exP es fs e acc f) := by
  unfold exP
  cases hx : exI es fs e f with
  | none => exact h
  | some y =>
    intro x hm
    rcases Pl.put_mem hm with rfl | hm
    · unfold exI at hx
      split at hx
      · split at hx
        · rename_i t i hl
          split at hx
          · injection hx with hx
            subst hx
            exact ⟨i, hl⟩
          · cases hx
        · cases hx
      · cases hx
    · exact h x hm
theorem agrees_exF {es : List Ent} (fs : List Atm) (e : Ent) : ∀ (l : List Atm) (acc : List Ent), Agrees es fs acc → Agrees es fs (exF es fs e acc l)
  | [], _, h => h
  | f :: l, acc, h => agrees_exF fs e l (exP es fs e acc f) (h.step e f)
theorem agrees_exE {es : List Ent} (fs : List Atm) : ∀ (l acc : List Ent), Agrees es fs acc → Agrees es fs (exE es fs acc l)
  | [], _, h => h
  | e :: l, acc, h => agrees_exE fs l _ (agrees_exF fs e fs acc h)
theorem exO_agrees (es : List Ent) (fs : List Atm) : ∀ x ∈ exO es fs, ∃ i : Int, lfR es fs x.1 = some (x.2, i) := by
  unfold exO
  split
  · rename_i h
    unfold exOk at h
    rw [Bool.and_eq_true] at h
    have hd := h.1
    rw [Bool.and_eq_true] at hd
    have h0 : Agrees es fs es := fun x hx => ⟨-1, lfX_some (Pl.look_mem (okD_parts hd.1).2.2 hx)⟩
    intro x hx
    obtain ⟨i, hi⟩ := agrees_exE fs es es h0 x hx
    exact ⟨i, by rw [lfR_yes h.1]; exact hi⟩
  · intro x hx; cases hx
theorem put_ge (e : Ent) {acc : List Ent} (h : Pl.Inc acc) : acc.length ≤ (Pl.put e acc).length := by
  rw [put_length e h]; split <;> omega
theorem exF_ge {es : List Ent} (fs : List Atm) (e : Ent) : ∀ (l : List Atm) (acc : List Ent) (n : Nat), ExIn es acc n → acc.length ≤ (exF es fs e acc l).length
  | [], _, _, _ => Nat.le_refl _
  | f :: l, acc, n, h => by
    refine Nat.le_trans ?_ (exF_ge fs e l (exP es fs e acc f) _ (h.step fs e f))
    unfold exP
    cases exI es fs e f with
    | none => exact Nat.le_refl _
    | some x => exact put_ge x h.inc
theorem exE_ge {es : List Ent} (fs : List Atm) : ∀ (l acc : List Ent) (n : Nat), ExIn es acc n → acc.length ≤ (exE es fs acc l).length
  | [], _, _, _ => Nat.le_refl _
  | e :: l, acc, n, h => by
    obtain ⟨m, hm⟩ := exF_in fs e fs acc n h
    exact Nat.le_trans (exF_ge fs e fs acc n h) (exE_ge fs l _ m hm)
theorem exO_ge {es : List Ent} {fs : List Atm} (h : exOk es fs = true) : es.length ≤ (exO es fs).length := by
  unfold exO
  rw [if_pos h]
  unfold exOk at h
  rw [Bool.and_eq_true, Bool.and_eq_true] at h
  exact exE_ge fs es es 40 (ExIn.start h.1.1)
theorem specEx_at (v : Value) (es : List Ent) (fv : Value) (fs : List Atm) (w : World) (h : EntsAt w v es) (hn : es.length ≤ 2097152) (hx : ∀ e ∈ es, entOk e) (hf : AtomsAt w fv fs) (hfn : fs.length ≤ 2097152) (hfx : ∀ f ∈ fs, f.2.size ≤ 1048576) :
    Calls Tryz.prog 23 #[dV v, fv] w fun r w' => (∃ v2, r = .returned (.tuple #[dV v2, .bool (exOk es fs)]) ∧ EntsAt w' v2 (exO es fs)) ∧ Below w.heap.size w w' := by
  refine (specExpandFolds_any v es fv fs w h hn hx hf hfn hfx).mono ?_
  rintro r w' ⟨⟨v2, us, rfl, h1, h2⟩, hb⟩
  exact ⟨⟨v2, rfl, by rw [← h2]; exact h1.at.at⟩, hb⟩
theorem Ex_at (v : Value) (es : List Ent) (fv : Value) (fs : List Atm) (w : World) (h : EntsAt w v es) (hn : es.length ≤ 2097152) (hx : ∀ e ∈ es, entOk e) (hf : AtomsAt w fv fs) (hfn : fs.length ≤ 2097152) (hfx : ∀ f ∈ fs, f.2.size ≤ 1048576) :
    Calls Tryz.prog 22 #[dV v, fv] w fun r w' => (∃ v2, r = .returned (.tuple #[dV v2, .bool (exOk es fs)]) ∧ EntsAt w' v2 (exO es fs)) ∧ Below w.heap.size w w' := by
  refine (ExpandFolds_any v es fv fs w h hn hx hf hfn hfx).mono ?_
  rintro r w' ⟨⟨v2, us, rfl, h1, h2⟩, hb⟩
  exact ⟨⟨v2, rfl, by rw [← h2]; exact h1.own'.at⟩, hb⟩
theorem Ov_at (v : Value) (es : List Ent) (fv : Value) (fs : List Atm) (w : World) (h : EntsAt w v es) (hn : es.length ≤ 2097152) (hx : ∀ e ∈ es, entOk e) (hf : AtomsAt w fv fs) (hfn : fs.length ≤ 2097152) (hfx : ∀ f ∈ fs, f.2.size ≤ 1048576) :
    Calls Tryz.prog 25 #[dV v, fv] w fun r w' => (∃ u, r = .returned (.tuple #[u, .bool (okD es && Pl.okFs fs)]) ∧ OutsAt w' u (ovO es fs)) ∧ Below w.heap.size w w' := by
  refine (FoldOverrides_any v es fv fs w h hn hx hf hfn hfx).mono ?_
  rintro r w' ⟨⟨u, us, rfl, hg, hus⟩, hb⟩
  exact ⟨⟨u, rfl, by rw [← hus]; exact hg.at⟩, hb⟩
theorem ovO_small (es : List Ent) (fs : List Atm) : (ovO es fs).length ≤ 40 ∧ ∀ xs ∈ ovO es fs, xs.length ≤ 6 := by
  cases hg : (okD es && Pl.okFs fs)
  · rw [ovO_no hg]; exact ⟨Nat.zero_le _, fun xs hx => by cases hx⟩
  · rw [ovO_yes hg]
    rw [Bool.and_eq_true] at hg
    refine ⟨Nat.le_trans (ovL_len _ _ _) (okD_parts hg.1).1, fun xs hxs => ?_⟩
    obtain ⟨e, he, rfl⟩ := ovL_mem hxs
    exact (okE_size ((okD_parts hg.1).2.1 e he)).2.1
/-! ### THE WALK: the Go text returns true, and writes nothing that was there. -/
set_option maxRecDepth 100000 in
set_option maxHeartbeats 8000000 in
theorem walk (a0 : Option Addr) (n0 c0 : Nat) (z0 : List Int) (w : World) (hS : w.ShapedOpen Tryz.prog)  (w0 : IsRow .u8 w a0 n0 c0 z0) :
    Calls Tryz.prog 5 #[.slice a0 n0 c0] w fun e w' => e = .returned (.bool true) ∧ Below w.heap.size w w' := by
  have hnm := row_len w0
  by_cases hbig : 65536 < n0
  · have C := Lib.hid (rBig_yes a0 n0 c0 w hbig hnm)
    clear w0 hS hnm
    go_enter Tryz.func5, Tryz.ntmps5
    go_wp2_with fail
    refine C.out.mono ?_
    rintro e w1 ⟨rfl, rfl⟩
    go_wp2
    go_ret
    exact ⟨rfl, Below.refl _ _⟩
  · have C := Lib.hid (rBig_no a0 n0 c0 w (by omega))
    have HC0 := Lib.hid (code_of w0 (by omega))
    have cdr := fun w h => drawExpandFolds_any a0 n0 c0 w h
    unfold DBo dV at cdr
    have CDR := Lib.hid cdr
    clear w0 hS hnm hbig cdr
    go_enter Tryz.func5, Tryz.ntmps5
    go_wp2_with fail
    refine C.out.mono ?_
    rintro e w0 ⟨rfl, rfl⟩
    go_wp2_with fail
    refine (CDR.out _ HC0.out).mono ?_
    rintro e w1 ⟨⟨v, us, fv, fs, rfl, hr, hl, hx, hf, hsm⟩, hb1⟩
    have hat := hr.at.at
    have hlen : (us.map (·.2)).length ≤ 60 := by rw [List.length_map]; exact hl
    have hsm2 : ∀ e ∈ us.map (·.2), e.1.length ≤ 8 ∧ e.2.size ≤ 60 := by
      intro e he
      obtain ⟨p, hp, rfl⟩ := List.mem_map.1 he
      exact hx p hp
    obtain ⟨es, hes⟩ : ∃ es, es = us.map (·.2) := ⟨_, rfl⟩
    rw [← hes] at hat hlen hsm2
    clear hr hl hx hes us
    have hn2 : es.length ≤ 2097152 := by omega
    have hx2 : ∀ e ∈ es, entOk e := fun e he => by obtain ⟨p, q⟩ := hsm2 e he; exact ⟨by omega, by omega⟩
    have hfn : fs.length ≤ 2097152 := by have := hsm.2.1; omega
    have hfx : ∀ f ∈ fs, f.2.size ≤ 1048576 := fun f hf => by have := hsm.2.2 f hf; omega
    obtain ⟨va, vc, rfl, hvc, _⟩ := hat.cells
    have ci := fun w h hf => Ex_at (.slice va es.length vc) es fv fs w h hn2 hx2 hf hfn hfx
    have cs := fun w h hf => specEx_at (.slice va es.length vc) es fv fs w h hn2 hx2 hf hfn hfx
    have oi := fun w h hf => Ov_at (.slice va es.length vc) es fv fs w h hn2 hx2 hf hfn hfx
    have os := fun w h hf => specFoldOverrides_any (.slice va es.length vc) es fv fs w h hn2 hx2 hf hfn hfx
    have cl := fun u xs w h hf hu hxn => LookupFolded_any (.slice va es.length vc) es fv fs u xs w h hn2 hx2 hf hfn hfx hu hxn
    obtain ⟨hrl, hre⟩ := exO_small es fs
    obtain ⟨hol, hoe⟩ := ovO_small es fs
    have hag := exO_agrees es fs
    have hge : exOk es fs = true → es.length ≤ (exO es fs).length := exO_ge
    obtain ⟨rs, hrs⟩ : ∃ rs, rs = exO es fs := ⟨_, rfl⟩
    obtain ⟨b, hbb⟩ : ∃ b, b = exOk es fs := ⟨_, rfl⟩
    obtain ⟨ol, hoo⟩ : ∃ ol, ol = ovO es fs := ⟨_, rfl⟩
    obtain ⟨c, hcc⟩ : ∃ c, c = (okD es && Pl.okFs fs) := ⟨_, rfl⟩
    rw [← hrs, ← hbb] at ci cs
    rw [← hoo, ← hcc] at oi os
    rw [← hrs] at hrl hre hag
    rw [← hrs, ← hbb] at hge
    rw [← hoo] at hol hoe
    have hok : ∀ e ∈ rs, entOk e := fun e he => by have := okE_size (hre e he); exact ⟨by omega, by omega⟩
    have CQ := Lib.hid (fun v u w hv hu => rDict_same v u rs w hv hu (by omega) hok)
    have CO := Lib.hid (fun v u w hv hu => rLists_same v u ol w hv hu (by omega) (fun xs hx => by have := hoe xs hx; omega))
    have HRe := Lib.hid (fun k x (h : rs[k]? = some x) => show 0 < x.1.length ∧ x.1.length ≤ 6 from ⟨(okE_size (hre x (List.mem_of_getElem? h))).1, (okE_size (hre x (List.mem_of_getElem? h))).2.1⟩)
    have HAg := Lib.hid (fun k x (h : rs[k]? = some x) => hag x (List.mem_of_getElem? h))
    unfold dV at ci cs oi os cl CQ
    obtain ⟨m, hm⟩ : ∃ m, m = es.length := ⟨_, rfl⟩
    obtain ⟨rn, hrn⟩ : ∃ rn, rn = rs.length := ⟨_, rfl⟩
    have HRN := Lib.hid hrn
    have hrn40 : rn ≤ 40 := by rw [hrn]; exact hrl
    rw [← hm] at ci cs oi os cl hvc hlen hge ⊢
    rw [← hrn] at hge
    have HGe := Lib.hid hge
    have CI := Lib.hid ci
    have CS := Lib.hid cs
    have OI := Lib.hid oi
    have OS := Lib.hid os
    have CL := Lib.hid cl
    obtain ⟨W, hW⟩ : ∃ W, W = w1.alloc (.cells #[.slice va m vc] 26) := ⟨_, rfl⟩
    have hbA : Below w1.heap.size w1 W := by rw [hW]; exact below_al _ _
    have E0 : Hid (EntsAt W (.slice va m vc) es) := by rw [hm]; exact hat.below hbA
    have X0 : Hid (BoxV W w1.heap.size 26 (.slice va m vc)) := by rw [hW]; exact BoxV.new _ _ _
    have F0 : Hid (AtomsAt W fv fs) := Lib.hid (hf.at.below hbA)
    have B0 := Lib.hid (below_step hb1 hbA)
    obtain ⟨fa, fc, rfl, _, _⟩ := fd_at hf.at
    have HW := Lib.hid hW
    have cX := X0.out.cell
    rw [HW.out] at cX
    clear hb1 hbA hW hf hat hm hrn hsm hsm2 hn2 hx2 HC0 C CDR hfn hfx ci cs oi os cl hrs hbb hoo hcc hok hre hag hoe hge
    go_wp2_with fail
    rw [← HW.out]
    refine (CI.out W E0.out F0.out).mono ?_
    rintro r w2 ⟨⟨g, rfl, hg⟩, hb⟩
    obtain ⟨ga, gc, gf, _, _⟩ := hg.cells
    rw [← HRN.out] at gf
    subst gf
    obtain ⟨w3, hW⟩ : ∃ W, W = w2.alloc (.cells #[.slice ga rn gc] 26) := ⟨_, rfl⟩
    have hbA : Below w2.heap.size w2 w3 := by rw [hW]; exact below_al _ _
    have G3 := Lib.hid (hg.below hbA)
    have GB3 : Hid (BoxV w3 w2.heap.size 26 (.slice ga rn gc)) := by rw [hW]; exact BoxV.new _ _ _
    have hb3 := below_step hb hbA
    have X3 := Lib.hid (X0.out.below hb3 X0.out.lt)
    have E3 := Lib.hid (E0.out.below hb3)
    have F3 := Lib.hid (F0.out.below hb3)
    have B3 := Lib.hid (below_step B0.out hb3)
    have HW3 := Lib.hid hW
    have cX := X3.out.cell
    rw [HW3.out] at cX
    clear hg hb hbA hb3 hW X0 E0 F0 B0 HW
    go_wp2_with fail
    rw [← HW3.out]
    refine (CS.out w3 E3.out F3.out).mono ?_
    rintro r w4 ⟨⟨s, rfl, hs⟩, hb⟩
    obtain ⟨sa, sc, sf, _, _⟩ := hs.cells
    rw [← HRN.out] at sf
    subst sf
    obtain ⟨w5, hW⟩ : ∃ W, W = w4.alloc (.cells #[.slice sa rn sc] 26) := ⟨_, rfl⟩
    have hbA : Below w4.heap.size w4 w5 := by rw [hW]; exact below_al _ _
    have S5 := Lib.hid (hs.below hbA)
    have SB5 : Hid (BoxV w5 w4.heap.size 26 (.slice sa rn sc)) := by rw [hW]; exact BoxV.new _ _ _
    have hb5 := below_step hb hbA
    have X5 := Lib.hid (X3.out.below hb5 X3.out.lt)
    have E5 := Lib.hid (E3.out.below hb5)
    have F5 := Lib.hid (F3.out.below hb5)
    have G5 := Lib.hid (G3.out.below hb5)
    have GB5 := Lib.hid (GB3.out.below hb5 GB3.out.lt)
    have B5 := Lib.hid (below_step B3.out hb5)
    have HW5 := Lib.hid hW
    have cG := GB5.out.cell
    have cS := SB5.out.cell
    rw [HW5.out] at cG cS
    clear hs hb hbA hb5 hW X3 E3 F3 G3 GB3 B3 HW3 cX
    go_wp2_with fail
    rw [← HW5.out]
    refine (CQ.out _ _ w5 G5.out S5.out).mono ?_
    rintro r w6 ⟨rfl, hb⟩
    have X6 := Lib.hid (X5.out.below hb X5.out.lt)
    have E6 := Lib.hid (E5.out.below hb)
    have F6 := Lib.hid (F5.out.below hb)
    have G6 := Lib.hid (G5.out.below hb)
    have GB6 := Lib.hid (GB5.out.below hb GB5.out.lt)
    have B6 := Lib.hid (below_step B5.out hb)
    have cX := X6.out.cell
    clear hb X5 E5 F5 G5 GB5 B5 HW5 S5 SB5 cG cS
    go_wp2_with fail
    refine (OI.out w6 E6.out F6.out).mono ?_
    rintro r w7 ⟨⟨y, rfl, hy⟩, hb⟩
    have X7 := Lib.hid (X6.out.below hb X6.out.lt)
    have E7 := Lib.hid (E6.out.below hb)
    have F7 := Lib.hid (F6.out.below hb)
    have G7 := Lib.hid (G6.out.below hb)
    have GB7 := Lib.hid (GB6.out.below hb GB6.out.lt)
    have B7 := Lib.hid (below_step B6.out hb)
    have Y7 := Lib.hid hy
    have cX := X7.out.cell
    clear hb hy X6 E6 F6 G6 GB6 B6
    go_wp2_with fail
    refine (OS.out w7 E7.out F7.out).mono ?_
    rintro r w8 ⟨⟨z, rfl, hz⟩, hb⟩
    have X8 := Lib.hid (X7.out.below hb X7.out.lt)
    have E8 := Lib.hid (E7.out.below hb)
    have F8 := Lib.hid (F7.out.below hb)
    have G8 := Lib.hid (G7.out.below hb)
    have GB8 := Lib.hid (GB7.out.below hb GB7.out.lt)
    have B8 := Lib.hid (below_step B7.out hb)
    have Y8 := Lib.hid (Y7.out.below hb)
    have Z8 := Lib.hid hz
    clear hb hz X7 E7 F7 G7 GB7 B7 Y7 cX
    go_wp2_with fail
    refine (CO.out _ _ w8 Y8.out Z8.out).mono ?_
    rintro r w9 ⟨rfl, hb⟩
    have X9 := Lib.hid (X8.out.below hb X8.out.lt)
    have E9 := Lib.hid (E8.out.below hb)
    have F9 := Lib.hid (F8.out.below hb)
    have hG9 := G8.out.below hb
    have GB9 := Lib.hid (GB8.out.below hb GB8.out.lt)
    have B9 := Lib.hid (below_step B8.out hb)
    obtain ⟨ga', gc', hgq, _, hGC⟩ := hG9.cells
    rw [← HRN.out] at hgq
    injection hgq with q1 q2 q3
    subst q1 q3
    have HGC := Lib.hid hGC
    clear hb X8 E8 F8 G8 GB8 B8 Y8 Z8 hG9 hGC q2
    go_wp2_with fail
    go_loopw [13] (fun i wr => ∃ k : Nat, k ≤ rn ∧ i = .int .i64 k ∧ Hid (Below w9.heap.size w9 wr)) (fun i _ => rn - (intOf i).toNat)
    case atStart => exact ⟨0, Nat.zero_le _, rfl, Lib.hid (Below.refl _ _)⟩
    case round =>
      obtain ⟨k, hk, rfl, HB⟩ := hrel
      have cG := (GB9.out.below HB.out GB9.out.lt).cell
      have cX := (X9.out.below HB.out X9.out.lt).cell
      by_cases hlt : k < rn
      · obtain ⟨x, he⟩ : ∃ e, rs[k]? = some e := ⟨_, List.getElem?_eq_getElem (by rw [← HRN.out]; exact hlt)⟩
        obtain ⟨bk, oo, ux, rfl, hbk, g0, g1, gi⟩ := HGC.out wr HB.out k x he
        obtain ⟨hx1, hx2⟩ := HRe.out k x he
        obtain ⟨i, hi⟩ := HAg.out k x he
        have cl := fun wz (hb : Below wr.heap.size wr wz) => CL.out ux x.1 wz (E9.out.below (HB.out.trans (hb.mono HB.out.size))) (F9.out.below (HB.out.trans (hb.mono HB.out.size))) (ints_m (gi.below hb) hx1) (by omega)
        rw [hi, lfE_some] at cl
        obtain ⟨xa, xc, rfl, _, _⟩ := gi.cells
        obtain ⟨xs, t⟩ := x
        dsimp only at cl g0 g1
        have CLk := Lib.hid cl
        have hlt' := lt_of_cell g1
        have HG1 := Lib.hid g1
        have HCG := Lib.hid cG
        have k0 := cell_regrown g0
        have k1 := cell_regrown cG
        have k2 := cell_regrown cX
        have hlG : w2.heap.size < wr.heap.size := (GB9.out.below HB.out GB9.out.lt).lt
        clear cl he gi hi hbk g0
        go_wp2_with fail
        refine Mx.wp_region_mixed (Mx.ofL [(0, 1), (1, 0), (2, 0), (3, 1), (4, 0), (5, 0), (6, 0), (7, 1), (8, 3), (9, 0), (10, 0), (11, 0), (12, 0), (13, 0), (14, 0), (15, 0)] .done) (by kernel_rfl) (by kernel_rfl) ?_
        repeat ((first | refine Mx.mix0 rfl ?_ | refine Mx.mix1 rfl ?_); go_big_quiet_step (fail); refine wpQuiet_nil ?_)
        refine Mx.mix3 rfl ?_
        go_wp2_with fail
        refine (CLk.out _ (below_drewF (Below.refl _ _) 1)).mono ?_
        rintro r wq ⟨rfl, hb⟩
        have G4 : Hid (Below wr.heap.size wr wq) := Lib.hid ((below_drewF (Below.refl _ _) 1).trans hb)
        have hg1 := (G4.out.cell (p := ⟨bk, oo + k * 2 + 1, none⟩) hlt').trans HG1.out
        have hcG := (G4.out.cell (p := ⟨w2.heap.size, 0, none⟩) hlG).trans HCG.out
        have HBn := Lib.hid (HB.out.trans (G4.out.mono HB.out.size))
        clear hb k0 k1 k2 g1 cG cX CLk G4 HG1 HCG HB
        go_wp2
        refine Mx.mid_normal (fun q => by cases q) ?_
        repeat ((first | refine Mx.mix0 rfl ?_ | refine Mx.mix1 rfl ?_); go_big_quiet_step (fail); refine wpQuiet_nil ?_)
        refine Mx.mix_nil ?_
        go_wp2
        go_roundw
        case rel => exact ⟨k + 1, by omega, by go_num, HBn⟩
        case measure => simp [intOf]; omega
      · obtain rfl : k = rn := by omega
        have hfin := below_step B9.out HB.out
        cases b
        · go_wp2
          go_ret
          exact ⟨rfl, hfin⟩
        · have hge := HGe.out rfl
          have hge2 : ((k : Nat) : Int) ≥ ((m : Nat) : Int) := by omega
          go_wp2
          go_ret
          exact ⟨rfl, hfin⟩

/-! ### THE ROW's STEP -/
set_option maxRecDepth 100000 in
theorem contract (H : Type) (enc : TypeId × Value → H) (W : World) (base : Nat) (args : Array Value) (ds gs : List (DataW H)) (before : List MemPlace)
    (hval : ∀ (j : Nat) t v, Tryz.f5.params[j]? = some t → args[j]? = some v → Value.okWide Tryz.prog W .any base t v)
    (hW : DataW.Whole enc Tryz.prog Tryz.f5.params.toList Rows.fnFoldExpandSpec.vars false W args.toList ds gs before) (hL : laidMetH Tryz.prog Rows.fnFoldExpandRow.laid W) (hS : W.ShapedOpen Tryz.prog) :
    Calls Tryz.prog 5 args W fun e W' => ∃ v, e = .returned v ∧ Rows.fnFoldExpandSpec.post enc Tryz.prog Tryz.f5 false true false false W args v W' := by
  have hW' := hW
  obtain ⟨p, q, hA0, hV, rfl, hfz, hnd⟩ := hW
  have hA : DataW.TrodAll enc Tryz.prog W 0 (fun _ => true) true Tryz.f5.params.toList args.toList ds p := hA0
  rw [Tryz.params5] at hA hval
  obtain ⟨v0, vs0, d0, ds0, p0, q0, hargs, rfl, rfl, h0, r0⟩ := trodAll_cons hA
  obtain ⟨rfl, rfl, rfl⟩ := trodAll_nil r0
  obtain rfl : args = #[v0] := by cases args; simp_all
  obtain ⟨rfl, rfl⟩ := trodVars_none hV
  have k0 := h0
  have lt0 : ∀ x ∈ p0, x.block < W.heap.size := by obtain ⟨m, hm⟩ := k0; exact DataW.trod_lt m _ _ _ hm
  obtain ⟨a0, n0, c0, rfl⟩ := okWide_slice Tryz.underlying22 (hval 0 22 v0 rfl rfl)
  obtain ⟨z0, w0⟩ : ∃ zs, IsRow .u8 W a0 n0 c0 zs := by
    obtain ⟨fuel, hf⟩ := h0
    rcases open_ints Tryz.underlying22 Tryz.underlying5 (by kernel_rfl) hf with ⟨hcs, _⟩ | ⟨x, l, c, zs, hcs, _, hl, hm, hz, _, hcell, hwz⟩
    · simp [Value.cells] at hcs
      obtain ⟨rfl, rfl, rfl⟩ := hcs
      exact ⟨[], .inl ⟨rfl, rfl, rfl, rfl⟩⟩
    · simp [Value.cells] at hcs
      obtain ⟨rfl, rfl, rfl⟩ := hcs
      exact ⟨zs, .inr ⟨_, rfl, hl, hm, by simpa using hz, hcell, hwz⟩⟩
  clear hA0 hval
  refine (walk a0 n0 c0 z0 W hS  w0).mono fun e W' ⟨he, bel⟩ => ?_
  subst he
  exact ⟨_, rfl, _, _, _, [], _, [], hW', trodAll_mk1 (shut_bool Tryz.underlying4 _), (trodAll_cons_mk (Below.trod laidOut (by kernel_rfl) (of_decide_eq_true (by kernel_rfl)) k0 bel lt0) trodAll_mk0), rfl, bel.frame _, fun h => by cases h⟩

theorem reads (os : Os) {H : Type} (enc : TypeId × Value → H) : ∃ places, DataW.whole enc Tryz.prog ((World.holding Tryz.prog os ⟨#[], #[], []⟩).forCall (fun _ _ => 0) ⟨#[], #[.slice none 0 0], []⟩).memory Tryz.f5.params.toList Rows.fnFoldExpandSpec.vars false (#[.slice none 0 0] : Array Value).toList 8 = some ([.nil], [], places) :=
  ⟨[], by kernel_rfl⟩

set_option maxRecDepth 100000 in
theorem lifted (os : Os) (started : os.Started) (H : Type) (enc : TypeId × Value → H) (F : Stop.Interp) :
    ReturnsInHanded {} Tryz.checked os 5 .any ((OpenSpec.ofChange Rows.fnFoldExpandSpec).preRow enc Tryz.prog Tryz.f5 Rows.fnFoldExpandRow.domain false Rows.fnFoldExpandRow.laid) (((OpenSpec.ofChange Rows.fnFoldExpandSpec).at F).post enc Tryz.prog Tryz.f5 false true false false) := by
  obtain ⟨places, hx⟩ := reads os enc
  refine returnsInHanded_of_row (C := Tryz.checked) (s := OpenSpec.ofChange Rows.fnFoldExpandSpec) own started (by kernel_rfl) Tryz.func5
    (witness_row_atRef (enc := enc) (C := Tryz.checked) false (World.holding Tryz.prog os ⟨#[], #[], []⟩) #[.slice none 0 0] rfl (by kernel_rfl) (by kernel_rfl) (by kernel_rfl)
      (OpenSpec.preRow_of_cond 8 hx (by kernel_rfl) (fun k hk => by cases hk) (by kernel_rfl) ⟨[], rfl, List.nodup_nil, fun b off h => by cases h⟩)) ?_
  intro W base args ds gs before hval hW _ _ _ hL hS _
  exact contract H enc W base args ds gs before hval hW hL hS

theorem said : Rows.FnFoldExpandSaid :=
  OpenClaim.holds_of_cond 5 Tryz.f5 rfl rfl rfl rfl rfl rfl rfl ⟨rfl, rfl, rfl, rfl, rfl⟩ rfl rfl rfl rfl rfl (by kernel_rfl) Tryz.func5 (by kernel_rfl)
    (of_decide_eq_true (by kernel_rfl)) (by unfold Func.isWrapper; first | (rw [if_pos (by decide +kernel)]; kernel_rfl) | (rw [if_neg (by decide +kernel)]; exact ⟨rfl, rfl⟩))
    (fun os started H enc _ F => by rw [OpenClaim.pre_eq_preRow]; exact lifted os started H enc F)

theorem proved : Rows.FnFoldExpandSaid := said
#print axioms proved
end Go.Proofs.YthigdblloddepaaGreat.fnFoldExpand
