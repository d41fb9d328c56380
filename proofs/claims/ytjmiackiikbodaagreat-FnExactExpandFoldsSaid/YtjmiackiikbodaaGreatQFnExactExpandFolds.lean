/-
  laws.FnExactExpandFolds returns true whatever the dictionary and the fold list: impl.ExpandFolds answers as the specification, leaves its arguments, and its answer owns its memory. Conditions: none but the row's own.
-/
import Derived.Test.YtjmiackiikbodaaGreatLfS
import Derived.Test.YtjmiackiikbodaaGreatDictE
import Derived.Test.YtjmiackiikbodaaGreatPD
import Derived.Test.YtjmiackiikbodaaGreatInsD
import Derived.Test.YtjmiackiikbodaaGreatCloneL
import Derived.Test.YtjmiackiikbodaaGreatRows
import Derived.WalkKit
import Derived.ProofKit
import Derived.OpenShut
import Derived.ShutString
import Derived.ChangeOld
import Derived.Below
import Derived.SliceStrings
import Derived.JoinedCond
import Derived.Deep.DeepHandedRow
import Derived.Deep.DeepWitnessRowRef
import Derived.Lib.Hide
namespace Go.Proofs.YtjmiackiikbodaaGreat
set_option maxRecDepth 100000
open Go.RowKit

/-! ### Plain -/
/-- The entry that a fold of an entry's outline adds. -/
def exI (es : List Ent) (fs : List Atm) (e : Ent) (f : Atm) : Option Ent :=
  if intB e.1 f.1 f.2 = true then (match lfX es fs (intI e.1 f.1 f.2) with | some (t, i) => if 0 ≤ i then some (intI e.1 f.1 f.2, t) else none | none => none) else none
def exP (es : List Ent) (fs : List Atm) (e : Ent) (acc : List Ent) (f : Atm) : List Ent := match exI es fs e f with | some x => Pl.put x acc | none => acc
def exF (es : List Ent) (fs : List Atm) (e : Ent) (acc : List Ent) (l : List Atm) : List Ent := l.foldl (exP es fs e) acc
def exE (es : List Ent) (fs : List Atm) (acc : List Ent) (l : List Ent) : List Ent := l.foldl (fun a e => exF es fs e a fs) acc
theorem exF_snoc (es : List Ent) (fs : List Atm) (e : Ent) (acc : List Ent) {l : List Atm} {k : Nat} {f : Atm} (h : l[k]? = some f) : exF es fs e acc (l.take (k + 1)) = exP es fs e (exF es fs e acc (l.take k)) f := by
  unfold exF
  rw [List.take_add_one, h]
  simp
theorem exE_snoc (es : List Ent) (fs : List Atm) (acc : List Ent) {l : List Ent} {k : Nat} {e : Ent} (h : l[k]? = some e) : exE es fs acc (l.take (k + 1)) = exF es fs e (exE es fs acc (l.take k)) fs := by
  unfold exE
  rw [List.take_add_one, h]
  simp
def exOk (es : List Ent) (fs : List Atm) : Bool := (okD es && Pl.okFs fs) && decide ((exE es fs es es).length ≤ 40)
def exO (es : List Ent) (fs : List Atm) : List Ent := if exOk es fs = true then exE es fs es es else []
theorem exI_no {es : List Ent} {fs : List Atm} {e : Ent} {f : Atm} (h : intB e.1 f.1 f.2 = false) : exI es fs e f = none := by unfold exI; rw [h]; rfl
theorem exI_none {es : List Ent} {fs : List Atm} {e : Ent} {f : Atm} (h : lfX es fs (intI e.1 f.1 f.2) = none) : exI es fs e f = none := by
  unfold exI; rw [h]; split <;> rfl
theorem exI_own {es : List Ent} {fs : List Atm} {e : Ent} {f : Atm} {t : ByteArray} {i : Int} (h : lfX es fs (intI e.1 f.1 f.2) = some (t, i)) (hi : ¬ 0 ≤ i) : exI es fs e f = none := by
  unfold exI; rw [h]; simp only [if_neg hi]; split <;> rfl
theorem exI_some {es : List Ent} {fs : List Atm} {e : Ent} {f : Atm} {t : ByteArray} {i : Int} (hb : intB e.1 f.1 f.2 = true) (h : lfX es fs (intI e.1 f.1 f.2) = some (t, i)) (hi : 0 ≤ i) : exI es fs e f = some (intI e.1 f.1 f.2, t) := by
  unfold exI; rw [if_pos hb, h]; simp only [if_pos hi]
theorem fdFind_fd1 {es : List Ent} {xs : List Int} {t : ByteArray} {i : Int} : ∀ (fs : List Atm) (k : Nat), fdFind es xs k fs = some (t, i) → 0 ≤ i ∧ ∃ f, f ∈ fs ∧ fd1 es xs f = some t
  | [], k, h => by simp [fdFind] at h
  | f :: r, k, h => by
    unfold fdFind at h
    cases hf : fd1 es xs f with
    | some t' =>
      rw [hf] at h
      simp only [Option.some.injEq, Prod.mk.injEq] at h
      exact ⟨by rw [← h.2]; omega, f, List.mem_cons_self .., by rw [hf, h.1]⟩
    | none =>
      rw [hf] at h
      obtain ⟨h1, g, h2, h3⟩ := fdFind_fd1 r (k + 1) h
      exact ⟨h1, g, List.mem_cons_of_mem _ h2, h3⟩
theorem fd1_ok {es : List Ent} {xs : List Int} {f : Atm} {t : ByteArray} (h : fd1 es xs f = some t) : parLB t = true := by
  unfold fd1 at h
  split at h
  · rename_i s _
    split at h
    · rename_i hb
      injection h with h
      subst h
      unfold fdT
      rw [if_pos hb]
      unfold fdB fd0B at hb
      simp only [Bool.and_eq_true] at hb
      exact hb.2.2
    · cases h
  · cases h
/-- What a fold adds is valid, and its outline has no entry. -/
theorem exI_ok {es : List Ent} {fs : List Atm} {e : Ent} {f : Atm} {x : Ent} (h : exI es fs e f = some x) : okE x = true ∧ Pl.look x.1 es = none := by
  unfold exI at h
  split at h
  · rename_i hb
    split at h
    · rename_i t i hl
      split at h
      · rename_i hi
        injection h with h
        subst h
        have hno : Pl.look (intI e.1 f.1 f.2) es = none := by
          cases hk : Pl.look (intI e.1 f.1 f.2) es with
          | none => rfl
          | some s => rw [lfX_some hk] at hl; injection hl with hl; injection hl with _ hl; omega
        rw [lfX_none hno] at hl
        obtain ⟨_, g, _, h1⟩ := fdFind_fd1 fs 0 hl
        refine ⟨?_, hno⟩
        unfold okE
        rw [fd1_ok h1, Bool.and_true]
        have h0 := hb
        unfold intB at hb
        simp only [Bool.and_eq_true, Bool.not_eq_true'] at hb
        obtain ⟨⟨h1, h2⟩, h3⟩ := hb
        obtain ⟨⟨q, hq, hq0, hq1⟩, _⟩ := Pl.okF_parts h2
        obtain ⟨ys, s, hys, hs0, hs1, hl, hy⟩ := okO_snoc h1
        dsimp only at hq h0 h3 ⊢
        rw [hys, hq] at h0 ⊢
        rw [hys, hq, lastN_snoc, Int.toNat_natCast] at h3
        unfold intI
        rw [if_pos h0, lastN_snoc, List.dropLast_concat, Int.toNat_natCast]
        have ho := Pl.or_two (s := s) (q := q) (by omega) (by omega) h3
        exact okO_of hl hy (Nat.le_trans hs0 (Nat.le_add_right _ _)) (by rw [← ho]; exact Pl.or_lt s q (by omega) (by omega))
      · cases h
    · cases h
  · cases h
/-- What holds of the entries so far. -/
structure ExIn (es acc : List Ent) (n : Nat) : Prop where
  inc : Pl.Inc acc
  ok : ∀ e ∈ acc, okE e = true
  keep : ∀ o t, Pl.look o es = some t → Pl.look o acc = some t
  len : acc.length ≤ n
theorem ExIn.start {es : List Ent} (h : okD es = true) : ExIn es es 40 := ⟨(okD_parts h).2.2, (okD_parts h).2.1, fun _ _ h => h, (okD_parts h).1⟩
theorem ExIn.mono {es acc : List Ent} {n m : Nat} (h : ExIn es acc n) (hm : n ≤ m) : ExIn es acc m := ⟨h.inc, h.ok, h.keep, Nat.le_trans h.len hm⟩
theorem ExIn.put {es acc : List Ent} {n : Nat} {x : Ent} (h : ExIn es acc n) (hx : okE x = true) (hn : Pl.look x.1 es = none) : ExIn es (Pl.put x acc) (n + 1) :=
  ⟨Pl.put_inc h.inc, fun e he => by
    rcases Pl.put_mem he with rfl | he
    · exact hx
    · exact h.ok e he, fun o t ho => by
    have hne : x.1 ≠ o := fun q => by rw [q, ho] at hn; cases hn
    rw [Pl.look_put_other (fun q => hne q.symm)]; exact h.keep o t ho, by have := Pl.put_len x acc; have := h.len; omega⟩
theorem ExIn.step {es acc : List Ent} {n : Nat} (h : ExIn es acc n) (fs : List Atm) (e : Ent) (f : Atm) : ExIn es (exP es fs e acc f) (n + 1) := by
  unfold exP
  cases hx : exI es fs e f with
  | none => exact h.mono (Nat.le_succ _)
  | some x => exact h.put (exI_ok hx).1 (exI_ok hx).2
theorem ExIn.fin {es acc : List Ent} {n : Nat} (h : ExIn es acc n) : okD acc = decide (acc.length ≤ 40) := by
  cases hd : decide (acc.length ≤ 40)
  · rw [decide_eq_false_iff_not] at hd
    cases ho : okD acc
    · rfl
    · exact absurd (okD_parts ho).1 hd
  · rw [decide_eq_true_eq] at hd
    exact okD_of hd h.ok h.inc
theorem exO_no {es : List Ent} {fs : List Atm} (h : exOk es fs = false) : exO es fs = [] := by unfold exO; rw [h]; rfl
theorem exOk_no {es : List Ent} {fs : List Atm} (h : (okD es && Pl.okFs fs) = false) : exOk es fs = false := by unfold exOk; rw [h]; rfl
/-! ### The specification's -/
theorem ints_m {w : World} {v : Value} {xs : List Int} (h : IntsAt w v xs) (h0 : 0 < xs.length) : IntsM w v xs := by
  obtain ⟨a, cap, rfl, hc, h⟩ := h
  rcases h with rfl | ⟨bk, o, rfl, hb, h⟩
  · simp at h0
  · exact .inr ⟨bk, o, cap, rfl, hc, hb, h⟩
theorem ents_m {w : World} {v : Value} {es : List Ent} (h : EntsAt w v es) (h0 : ∀ e ∈ es, 0 < e.1.length) : EntsM w v es := by
  obtain ⟨a, cap, hv, hc, h⟩ := h
  refine ⟨a, cap, hv, hc, ?_⟩
  rcases h with h | ⟨bk, o, ha, hk, h⟩
  · exact .inl h
  · refine .inr ⟨bk, o, ha, hk, fun j e he => ?_⟩
    obtain ⟨u, h1, h2, h3⟩ := h j e he
    exact ⟨u, h1, h2, ints_m h3 (h0 e (List.mem_of_getElem? he))⟩
/-- What stands in memory between the rounds. -/
structure XSt (w wr : World) (d : Value) (gO : Nat) (acc : List Ent) : Prop where
  box : BoxV wr w.heap.size 33 d
  res : BoxV wr (w.heap.size + 1) 33 (.slice none 0 0)
  out : ∃ v us, BoxV wr gO 33 v ∧ Rows wr (w.heap.size + 2) v us ∧ us.map (·.2) = acc
  low : Below w.heap.size w wr
  hO : w.heap.size + 1 < gO
theorem XSt.below {w wr wz : World} {d : Value} {gO : Nat} {acc : List Ent} (h : XSt w wr d gO acc) (hb : Below wr.heap.size wr wz) : XSt w wz d gO acc :=
  ⟨h.box.below hb h.box.lt, h.res.below hb h.res.lt, by obtain ⟨v, us, h1, h2, h3⟩ := h.out; exact ⟨v, us, h1.below hb h1.lt, h2.below hb, h3⟩, below_step h.low hb, h.hO⟩
theorem XSt.put {w wr : World} {d v' : Value} {gO : Nat} {acc acc' : List Ent} {us' : List (Value × Ent)} (h : XSt w wr d gO acc) {base : Nat} (hr : Rows wr base v' us') (hb : gO < base) (hm : us'.map (·.2) = acc') : XSt w (wr.setCell ⟨gO, 0, none⟩ v') d gO acc' :=
  ⟨h.box.other (by have := h.hO; omega), h.res.other (by have := h.hO; omega), by
    obtain ⟨v, us, h1, _, _⟩ := h.out
    exact ⟨v', us', h1.set v', (hr.setCell hb).mono (by have := h.hO; omega), hm⟩, h.low.setCell (p := ⟨gO, 0, none⟩) (by have := h.hO; show w.heap.size ≤ gO; omega) _, h.hO⟩
set_option maxHeartbeats 4000000 in
theorem specExpandFolds_any (v : Value) (es : List Ent) (fv : Value) (fs : List Atm) (w : World) (h : EntsAt w v es) (hn : es.length ≤ 2097152) (hx : ∀ e ∈ es, entOk e) (hf : AtomsAt w fv fs) (hfn : fs.length ≤ 2097152) (hfx : ∀ f ∈ fs, f.2.size ≤ 1048576) :
    Calls Tryz.prog 25 #[dV v, fv] w fun r w' => (∃ u us, r = .returned (.tuple #[dV u, .bool (exOk es fs)]) ∧ Rows w' w.heap.size u us ∧ us.map (·.2) = exO es fs) ∧ Below w.heap.size w w' := by
  have HE := Lib.hid h
  have HF := Lib.hid hf
  have cg := fun w' hb => l6Good_any v es w' (h.below (w' := w') hb) hn hx
  have cv := fun w' hb => specIsValidFolds_any fv fs w' (hf.below (w' := w') hb) hfn (fun e he => by have := hfx e he; unfold maxLen; omega)
  have cl := fun u xs w' hb hu hxn => specLookupFolded_any v es fv fs u xs w' (h.below (w' := w') hb) hn hx (hf.below hb) hfn hfx hu hxn
  obtain ⟨a, cap, rfl, hcap, hC⟩ := h.cells
  obtain ⟨fa, fc, rfl, hfc, hFC⟩ := fd_at hf
  have HFC := Lib.hid hFC
  have HC := Lib.hid hC
  obtain ⟨n, hnn⟩ : ∃ n, n = es.length := ⟨_, rfl⟩
  obtain ⟨fl, hfl⟩ : ∃ fl, fl = fs.length := ⟨_, rfl⟩
  have HFL := Lib.hid hfl
  have HN := Lib.hid hnn
  unfold dV at cg cl ⊢
  rw [← hnn] at HE hcap
  rw [← hfl] at HF hfc
  simp only [← hnn] at cg cl
  simp only [← hfl] at cv cl
  rw [← hnn, ← hfl]
  obtain ⟨W0, hW0⟩ : ∃ W, W = (w.alloc (.cells #[.slice a n cap] 33)).alloc (.cells #[.slice none 0 0] 33) := ⟨_, rfl⟩
  have HW0 := Lib.hid hW0
  have BX : Hid (Below w.heap.size w W0) := by rw [hW0]; exact below_al2 _ _ _
  have X0 : Hid (BoxV W0 w.heap.size 33 (.slice a n cap)) := by rw [hW0]; exact (BoxV.new w _ _).below (below_al _ _) (by simp)
  have R0 : Hid (BoxV W0 (w.heap.size + 1) 33 (.slice none 0 0)) := by
    have e := BoxV.new (w.alloc (.cells #[.slice a n cap] 33)) 33 (.slice none 0 0)
    rw [World.size_alloc] at e
    rw [hW0]; exact e
  have x0 := X0.out.cell
  rw [hW0] at x0
  clear hW0
  cases hg : okD es
  · rw [hg] at cg
    have CG := Lib.hid cg
    have hno := exOk_no (es := es) (fs := fs) (by rw [hg]; rfl)
    rw [exO_no hno, hno]
    clear h hf hx hfx hg cg cv cl hFC hC hfl hnn hfn hn hno
    go_enter Tryz.func25, Tryz.ntmps25
    go_wp2_with fail
    rw [← HW0.out]
    refine (CG.out _ BX.out).mono ?_
    rintro r w1 ⟨rfl, hb⟩
    have B1 := Lib.hid (below_step BX.out hb)
    have R1 := Lib.hid (R0.out.below hb R0.out.lt)
    have cR := R1.out.cell
    have fR := R1.out.frozen
    clear hb x0
    go_wp2
    (try simp only [Exit.inBlock, Exit.then])
    refine bodyPost_ret (results_dt2 rfl _ _ (w.heap.size + 1) _ rfl (R1.out.set _)) rfl ?_
    exact ⟨⟨_, [], rfl, Rows.nil _ _, rfl⟩, B1.out.setCell (by show w.heap.size ≤ w.heap.size + 1; omega) _⟩
  · rw [hg] at cg
    have CG := Lib.hid cg
    cases hfk : Pl.okFs fs
    · rw [hfk] at cv
      have CV := Lib.hid cv
      have hno := exOk_no (es := es) (fs := fs) (by rw [hg, hfk]; rfl)
      rw [exO_no hno, hno]
      clear h hf hx hfx hg hfk cg cv cl hFC hC hfl hnn hfn hn hno
      go_enter Tryz.func25, Tryz.ntmps25
      go_wp2_with fail
      rw [← HW0.out]
      refine (CG.out _ BX.out).mono ?_
      rintro r w1 ⟨rfl, hb⟩
      have B1 := Lib.hid (below_step BX.out hb)
      have R1 := Lib.hid (R0.out.below hb R0.out.lt)
      clear hb x0
      go_wp2_with fail
      refine (CV.out _ B1.out).mono ?_
      rintro r w2 ⟨rfl, hb⟩
      have B2 := Lib.hid (below_step B1.out hb)
      have R2 := Lib.hid (R1.out.below hb R1.out.lt)
      have cR := R2.out.cell
      have fR := R2.out.frozen
      clear hb
      go_wp2
      (try simp only [Exit.inBlock, Exit.then])
      refine bodyPost_ret (results_dt2 rfl _ _ (w.heap.size + 1) _ rfl (R2.out.set _)) rfl ?_
      exact ⟨⟨_, [], rfl, Rows.nil _ _, rfl⟩, B2.out.setCell (by show w.heap.size ≤ w.heap.size + 1; omega) _⟩
    · rw [hfk] at cv
      have CV := Lib.hid cv
      obtain ⟨h40, hoks, _⟩ := okD_parts hg
      obtain ⟨hf6, hfv, _⟩ := Pl.okFs_parts hfk
      have hfl6 : fl ≤ 6 := by rw [hfl]; exact hf6
      have hnn40 : n ≤ 40 := by rw [hnn]; exact h40
      have HSt := ExIn.start hg
      have hEX : exOk es fs = decide ((exE es fs es es).length ≤ 40) := by unfold exOk; rw [hg, hfk]; rfl
      have HEX := Lib.hid hEX
      have HX := Lib.hid (fun k e (h : es[k]? = some e) => show 1 ≤ e.1.length ∧ e.1.length ≤ 6 from ⟨(okE_size (hoks e (List.mem_of_getElem? h))).1, (okE_size (hoks e (List.mem_of_getElem? h))).2.1⟩)
      have HFx := Lib.hid (fun k f (hkf : fs[k]? = some f) => show f.2.size ≤ 1048576 from hfx f (List.mem_of_getElem? hkf))
      have hlf : ∀ xs, lfR es fs xs = lfX es fs xs := fun xs => lfR_yes (by rw [hg, hfk]; rfl)
      simp only [hlf] at cl
      have CL := Lib.hid cl
      have co := fun w' hb => l6Own_any (.slice a n cap) es w' (ents_m (HE.out.below (w' := w') hb) fun x hx' => by have := okE_size (hoks x hx'); omega) (by omega) hx
      unfold dV at co
      have CO := Lib.hid co
      clear h hf hx hfx hg hfk cg cv cl co hFC hC hfl hnn hfn hn hoks hfv hEX hlf
      go_enter Tryz.func25, Tryz.ntmps25
      go_wp2_with fail
      rw [← HW0.out]
      refine (CG.out _ BX.out).mono ?_
      rintro r w1 ⟨rfl, hb⟩
      have B1 := Lib.hid (below_step BX.out hb)
      have X1 := Lib.hid (X0.out.below hb X0.out.lt)
      have R1 := Lib.hid (R0.out.below hb R0.out.lt)
      clear hb x0
      go_wp2_with fail
      refine (CV.out _ B1.out).mono ?_
      rintro r w2 ⟨rfl, hb⟩
      have B2 := Lib.hid (below_step B1.out hb)
      have X2 := Lib.hid (X1.out.below hb X1.out.lt)
      have R2 := Lib.hid (R1.out.below hb R1.out.lt)
      have cX := X2.out.cell
      clear hb X1 R1
      go_wp2_with fail
      refine (CO.out w2 B2.out).mono ?_
      rintro r w3 ⟨⟨v3, us3, rfl, hr3, hm3⟩, hb⟩
      obtain ⟨va3, vc3, hv3⟩ := hr3.form
      subst hv3
      obtain ⟨gO, hgO⟩ : ∃ g, g = w3.heap.size := ⟨_, rfl⟩
      obtain ⟨W, hW⟩ : ∃ W, W = w3.alloc (.cells #[.slice va3 us3.length vc3] 33) := ⟨_, rfl⟩
      have hbW : Below w3.heap.size w3 W := by rw [hW]; exact below_al _ _
      have hwW : W.heap.size = gO + 1 := by rw [hW, hgO]; simp
      have St0 : Hid (XSt w W (.slice a n cap) gO es) := Lib.hid ⟨(X2.out.below hb X2.out.lt).below hbW (by have := X2.out.lt; have := hb.size; omega), (R2.out.below hb R2.out.lt).below hbW (by have := R2.out.lt; have := hb.size; omega), ⟨_, us3, by rw [hW, hgO]; exact BoxV.new _ _ _, (hr3.below hbW).mono (by have := R2.out.lt; omega), hm3⟩, below_step (below_step B2.out hb) hbW, by have := R2.out.lt; have := hb.size; omega⟩
      have HW := Lib.hid hW
      clear hr3 hm3 hb hbW hW B2 X2 R2 cX CG CV CO HW0 X0 R0 B1
      have HgO := Lib.hid hgO
      clear hgO
      go_wp2_with fail
      rw [← HW.out, ← HgO.out]
      clear HW HgO
      go_loopw [7] (fun i wr => ∃ (k : Nat) (acc : List Ent), i = .int .i64 k ∧ k ≤ n ∧ Hid (acc = exE es fs es (es.take k)) ∧ Hid (ExIn es acc (40 + 6 * k)) ∧ Hid (XSt w wr (.slice a n cap) gO acc)) (fun i _ => n - (intOf i).toNat)
      case atStart => exact ⟨0, es, rfl, Nat.zero_le _, Lib.hid rfl, Lib.hid (HSt.mono (by omega)), St0⟩
      case round =>
        obtain ⟨k, acc0, rfl, hk, HA, HI, HS⟩ := hrel
        have cx := HS.out.box.cell
        by_cases hlt : k < n
        · obtain ⟨e, he⟩ : ∃ e, es[k]? = some e := ⟨_, List.getElem?_eq_getElem (by rw [← HN.out]; exact hlt)⟩
          have HSn := Lib.hid (exE_snoc es fs es he)
          have HXe := Lib.hid (HX.out k e he)
          have HEk := Lib.hid (fun wz hb => HC.out wz hb k e he)
          clear he
          go_wp2_with fail
          clear cx
          obtain ⟨wo, hwo⟩ : ∃ x, x = wr := ⟨_, rfl⟩
          subst hwo
          go_loopw [8] (fun i wr => ∃ (j : Nat) (acc : List Ent), i = .int .i64 j ∧ j ≤ fl ∧ Hid (acc = exF es fs e acc0 (fs.take j)) ∧ Hid (ExIn es acc (40 + 6 * k + j)) ∧ Hid (XSt w wr (.slice a n cap) gO acc)) (fun i _ => fl - (intOf i).toNat)
          case atStart => exact ⟨0, acc0, rfl, Nat.zero_le _, Lib.hid rfl, HI, HS⟩
          case round =>
            obtain ⟨j, acc, rfl, hj, HAj, HIj, HSj⟩ := hrel
            by_cases hjl : j < fl
            · obtain ⟨f, hf⟩ : ∃ f, fs[j]? = some f := ⟨_, List.getElem?_eq_getElem (by rw [← HFL.out]; exact hjl)⟩
              have HFn := Lib.hid (exF_snoc es fs e acc0 hf)
              obtain ⟨bk, o, uk, rfl, hbk, g0, _, gi⟩ := HEk.out wr HSj.out.low
              obtain ⟨fb, fo, rfl, hfb, f0, f1⟩ := HFC.out wr HSj.out.low j f hf
              have hft := HFx.out j f hf
              obtain ⟨hx1, hx2⟩ := HXe.out
              have cx := HSj.out.box.cell
              have HNo := Lib.hid (fun (h : exI es fs e f = none) => show acc = exF es fs e acc0 (fs.take (j + 1)) from by rw [HFn.out, ← HAj.out]; unfold exP; rw [h])
              have HPut := Lib.hid (fun x (h : exI es fs e f = some x) => show Pl.put x acc = exF es fs e acc0 (fs.take (j + 1)) from by rw [HFn.out, ← HAj.out]; unfold exP; rw [h])
              have HIp := Lib.hid (fun x (h : exI es fs e f = some x) => HIj.out.put (exI_ok h).1 (exI_ok h).2)
              have HOkx := Lib.hid (fun x (h : exI es fs e f = some x) => okE_size (exI_ok h).1)
              have HIno := Lib.hid (fun h => exI_no (es := es) (fs := fs) (e := e) (f := f) h)
              have HInone := Lib.hid (fun h => exI_none (es := es) (fs := fs) (e := e) (f := f) h)
              have HIown := Lib.hid (fun t i h hi => exI_own (es := es) (fs := fs) (e := e) (f := f) (t := t) (i := i) h hi)
              have HIsome := Lib.hid (fun t i hb h hi => exI_some (es := es) (fs := fs) (e := e) (f := f) (t := t) (i := i) hb h hi)
              have cs := fun wz (hb : Below wr.heap.size wr wz) => specFoldInto_any uk e.1 f.1 f.2 wz (ints_m (gi.below hb) (by omega)) (by omega) hft
              unfold OutE atV at cs
              obtain ⟨zs, hzs⟩ : ∃ zs, zs = intI e.1 f.1 f.2 := ⟨_, rfl⟩
              have hzl : zs.length ≤ 6 := by rw [hzs]; exact intI_len _ _ _
              have hz0 : intB e.1 f.1 f.2 = true → 0 < zs.length := fun hb => by rw [hzs]; unfold intI; rw [if_pos hb]; simp
              rw [← hzs] at cs HInone HIown HIsome
              obtain ⟨b, hbb⟩ : ∃ b, b = intB e.1 f.1 f.2 := ⟨_, rfl⟩
              rw [← hbb] at cs HIno HIsome hz0
              have CS := Lib.hid cs
              have Hz0 := Lib.hid hz0
              have HEn := Lib.hid (show ∀ x ∈ acc, entOk x from fun x hx => by have := okE_size (HIj.out.ok x hx); exact ⟨by omega, by omega⟩)
              have hal := HIj.out.len
              obtain ⟨X, hX⟩ : ∃ X, X = exI es fs e f := ⟨_, rfl⟩
              rw [← hX] at HNo HPut HIp HOkx HIno HInone HIown HIsome
              obtain ⟨L, hL⟩ : ∃ L, L = lfX es fs zs := ⟨_, rfl⟩
              rw [← hL] at HInone HIown HIsome
              have HL := Lib.hid hL
              obtain ⟨fk, ft⟩ := f
              dsimp only at f0 f1 CS
              have k0 := cell_regrown g0
              have k1 := cell_regrown cx
              have k2 := cell_regrown f0
              have k3 := cell_regrown f1
              clear hf hbb hX hzs hz0 cs gi hft hfb hbk hL
              go_wp2_with fail
              refine Mx.wp_region_mixed (Mx.ofL [(0, 0), (1, 1), (2, 0), (3, 0), (4, 0), (5, 1), (6, 0), (7, 0), (8, 0), (9, 1), (10, 3), (11, 0), (12, 0), (13, 0), (14, 0), (15, 0)] .done) (by kernel_rfl) (by kernel_rfl) ?_
              repeat ((first | refine Mx.mix0 rfl ?_ | refine Mx.mix1 rfl ?_); go_big_quiet_step (fail); refine wpQuiet_nil ?_)
              refine Mx.mix3 rfl ?_
              go_wp2_with fail
              refine (CS.out _ (below_drewF (Below.refl _ _) 1)).mono ?_
              rintro r w4 ⟨⟨y, rfl, hy⟩, hb⟩
              have G4 : Hid (Below wr.heap.size wr w4) := Lib.hid ((below_drewF (Below.refl _ _) 1).trans hb)
              have S4 := Lib.hid (HSj.out.below G4.out)
              have Y4 := Lib.hid hy
              clear hb hy k0 k1 k2 k3 g0 cx f0 f1 CS
              go_wp2
              refine Mx.mid_normal (fun q => by cases q) ?_
              repeat ((first | refine Mx.mix0 rfl ?_ | refine Mx.mix1 rfl ?_); go_big_quiet_step (fail); refine wpQuiet_nil ?_)
              refine Mx.mix_nil ?_
              cases b
              · have hA := HNo.out (HIno.out (by first | rfl | trivial))
                have HA1 := Lib.hid hA
                clear hA HNo HPut HIp HOkx HIno HInone HIown HIsome
                go_wp2
                go_roundw
                case rel => exact ⟨j + 1, acc, by go_num, by omega, HA1, Lib.hid (HIj.out.mono (by omega)), S4⟩
                case measure => simp [intOf]; omega
              · have hzp := Hz0.out (by first | rfl | trivial)
                have Ym := Lib.hid (ints_m Y4.out hzp)
                have cx := S4.out.box.cell
                go_wp2_with fail
                refine (CL.out y zs w4 S4.out.low Ym.out (by omega)).mono ?_
                rintro r w5 ⟨rfl, hb⟩
                have S5 := Lib.hid (S4.out.below hb)
                have Ym5 := Lib.hid (Ym.out.below hb)
                rw [← HL.out]
                obtain ⟨ya, yc, hye, _, _⟩ := Ym5.out.at.cells
                subst hye
                clear hb cx Y4 Ym S4 G4
                cases L with
                | none =>
                  have hA := HNo.out (HInone.out (by first | rfl | trivial))
                  have HA1 := Lib.hid hA
                  clear hA HNo HPut HIp HOkx HIno HInone HIown HIsome
                  rw [lfE_none]
                  go_wp2
                  go_roundw
                  case rel => exact ⟨j + 1, acc, by go_num, by omega, HA1, Lib.hid (HIj.out.mono (by omega)), S5⟩
                  case measure => simp [intOf]; omega
                | some p =>
                  obtain ⟨t, i⟩ := p
                  rw [lfE_some]
                  by_cases hi : i ≥ 0
                  · have hX := HIsome.out t i (by first | rfl | trivial) (by first | rfl | trivial) (by omega)
                    have HA1 := Lib.hid (HPut.out _ hX)
                    have HI1 := Lib.hid (HIp.out _ hX)
                    obtain ⟨_, _, ht⟩ := HOkx.out _ hX
                    dsimp only at ht
                    obtain ⟨v, us, b1, r1, m1⟩ := S5.out.out
                    obtain ⟨va, vc, rfl⟩ := r1.form
                    have cp := fun wz hb => l6Put_any (.slice va us.length vc) acc (.slice ya zs.length yc) (zs, t) wz (by rw [← m1]; exact (r1.below hb).at) (Ym5.out.below (w' := wz) hb) (by omega) HEn.out ⟨by show zs.length ≤ _; omega, by show t.size ≤ _; omega⟩
                    unfold dV enV at cp
                    have CP := Lib.hid cp
                    have cO := b1.cell
                    clear cp r1 m1 HNo HPut HIp HOkx HIno HInone HIown HIsome
                    go_wp2_with fail
                    refine (CP.out _ (Below.refl _ _)).mono ?_
                    rintro r w6 ⟨⟨v', us', rfl, hr6, hm6⟩, hb⟩
                    have S6 := Lib.hid (S5.out.below hb)
                    have hgO : gO < w5.heap.size := b1.lt
                    obtain ⟨va', vc', rfl⟩ := hr6.form
                    have S7 := Lib.hid (S6.out.put hr6 hgO hm6)
                    obtain ⟨_, _, c6, _, _⟩ := S6.out.out
                    have cO6 := c6.cell
                    have fO6 := c6.frozen
                    clear hr6 hm6 hb cO b1 S5 S6 c6 CP
                    go_wp2
                    go_roundw
                    case rel => exact ⟨j + 1, _, by go_num, by omega, HA1, Lib.hid (HI1.out.mono (by omega)), S7⟩
                    case measure => simp [intOf]; omega
                  · have hA := HNo.out (HIown.out t i (by first | rfl | trivial) (by omega))
                    have HA1 := Lib.hid hA
                    clear hA HNo HPut HIp HOkx HIno HInone HIown HIsome
                    go_wp2
                    go_roundw
                    case rel => exact ⟨j + 1, acc, by go_num, by omega, HA1, Lib.hid (HIj.out.mono (by omega)), S5⟩
                    case measure => simp [intOf]; omega
            · obtain rfl : j = fl := by omega
              have HA2 : Hid (acc = exE es fs es (es.take (k + 1))) := Lib.hid (by rw [HSn.out, ← HA.out, HAj.out, List.take_of_length_le (by rw [← HFL.out]; exact Nat.le_refl _)])
              go_wp2
              go_roundw
              case rel => exact ⟨k + 1, acc, by go_num, by omega, HA2, Lib.hid (HIj.out.mono (by omega)), HSj⟩
              case measure => simp [intOf]; omega
        · obtain rfl : k = n := by omega
          have HA2 : Hid (acc0 = exE es fs es es) := Lib.hid (by rw [HA.out, List.take_of_length_le (by rw [← HN.out]; exact Nat.le_refl _)])
          obtain ⟨v, us, b1, r1, m1⟩ := HS.out.out
          obtain ⟨va, vc, rfl⟩ := r1.form
          have hal := HI.out.len
          have hul : us.length = acc0.length := by rw [← m1, List.length_map]
          have cg := fun wz hb => l6Good_any (.slice va us.length vc) acc0 wz (by rw [← m1]; exact (r1.below (w' := wz) hb).at.at) (by omega) (fun x hx => by have := okE_size (HI.out.ok x hx); exact ⟨by omega, by omega⟩)
          rw [HI.out.fin] at cg
          unfold dV at cg
          have CG := Lib.hid cg
          have HR1 := Lib.hid r1
          have HM1 := Lib.hid m1
          have HLe : Hid (exOk es fs = decide (acc0.length ≤ 40)) := Lib.hid (by rw [HEX.out, HA2.out])
          have cO := b1.cell
          obtain ⟨ul, hul2⟩ : ∃ ul, ul = us.length := ⟨_, rfl⟩
          have HUl := Lib.hid hul2
          rw [← hul2] at cO CG
          clear cg r1 m1 hul hul2
          by_cases h40b : acc0.length ≤ 40
          · rw [decide_eq_true h40b] at HLe CG
            have HRes : Hid (exO es fs = acc0) := Lib.hid (by unfold exO; rw [HLe.out, if_pos rfl, HA2.out])
            go_wp2_with fail
            refine (CG.out wr (Below.refl _ _)).mono ?_
            rintro r w4 ⟨rfl, hb⟩
            have S4 := Lib.hid (HS.out.below hb)
            have R4 := Lib.hid (HR1.out.below hb)
            have cO4 := (b1.below hb b1.lt).cell
            have cR := S4.out.res.cell
            have fR := S4.out.res.frozen
            rw [← HUl.out] at cO4
            clear hb cO cx
            go_wp2
            refine bodyPost_ret (results_dt2 rfl _ _ (w.heap.size + 1) _ rfl (S4.out.res.set _)) rfl ?_
            rw [HLe.out, HRes.out, HUl.out]
            exact ⟨⟨_, us, rfl, (R4.out.setCell (by omega)).mono (by omega), HM1.out⟩, S4.out.low.setCell (p := ⟨w.heap.size + 1, 0, none⟩) (by show w.heap.size ≤ w.heap.size + 1; omega) _⟩
          · rw [decide_eq_false h40b] at HLe CG
            go_wp2_with fail
            refine (CG.out wr (Below.refl _ _)).mono ?_
            rintro r w4 ⟨rfl, hb⟩
            have S4 := Lib.hid (HS.out.below hb)
            have cR := S4.out.res.cell
            have fR := S4.out.res.frozen
            clear hb cO cx
            go_wp2
            (try simp only [Exit.inBlock, Exit.then])
            refine bodyPost_ret (results_dt2 rfl _ _ (w.heap.size + 1) _ rfl (S4.out.res.set _)) rfl ?_
            rw [exO_no HLe.out, HLe.out]
            exact ⟨⟨_, [], rfl, Rows.nil _ _, rfl⟩, S4.out.low.setCell (p := ⟨w.heap.size + 1, 0, none⟩) (by show w.heap.size ≤ w.heap.size + 1; omega) _⟩
end Go.Proofs.YtjmiackiikbodaaGreat

namespace Go.Proofs.YtjmiackiikbodaaGreat
set_option maxRecDepth 100000
open Go.RowKit

/-! ### Maps of more entries than a dictionary has -/
theorem lastT_keyG {es : List Ent} (hok : ∀ e ∈ es, okE e = true) (hinc : Pl.Inc es) (ys : List Int) : lastT (keyL ys) es = Pl.look ys es := by
  induction es with
  | nil => rfl
  | cons x r ih =>
    have hr := ih (fun e he => hok e (List.mem_cons_of_mem _ he)) (List.pairwise_cons.1 hinc).2
    have hx := (okE_O (hok x (List.mem_cons_self ..))).1
    show (match lastT (keyL ys) r with | some t => some t | none => if keyL x.1 = keyL ys then some x.2 else none) = _
    rw [Pl.look_cons, hr]
    by_cases e : x.1 = ys
    · rw [if_pos e, if_pos (by rw [e])]
      have : Pl.look ys r = none := Pl.look_none fun y hy' e' => by
        have h1 := (List.pairwise_cons.1 hinc).1 y hy'
        rw [e', ← e] at h1
        exact absurd h1 (by rw [Pl.cmp_self]; omega)
      rw [this]
    · rw [if_neg e, if_neg (fun q => e (keyL_ok hx q))]
      cases Pl.look ys r <;> rfl
theorem lastT_putG {es : List Ent} {e : Ent} (hok : ∀ e ∈ es, okE e = true) (hinc : Pl.Inc es) (he : okE e = true) (l : List Int) : lastT l (Pl.put e es) = if keyL e.1 = l then some e.2 else lastT l es := by
  have hp : ∀ x ∈ Pl.put e es, okE x = true := fun x hx => by
    rcases Pl.put_mem hx with rfl | hx
    · exact he
    · exact hok x hx
  have hpi := Pl.put_inc (e := e) hinc
  have heo := (okE_O he).1
  by_cases hx : ∃ ys, keyL ys = l
  · obtain ⟨ys, rfl⟩ := hx
    rw [lastT_keyG hp hpi, lastT_keyG hok hinc]
    by_cases hk : keyL e.1 = keyL ys
    · rw [if_pos hk, ← keyL_ok heo hk, Pl.look_put_same]
    · rw [if_neg hk, Pl.look_put_other (fun q => hk (by rw [q]))]
  · rw [if_neg (fun q => hx ⟨_, q⟩), lastT_none (fun x _ q => hx ⟨_, q⟩), lastT_none (fun x _ q => hx ⟨_, q⟩)]
theorem Reps.putG {D : MD} {es : List Ent} {e : Ent} (h : Reps D es) (hok : ∀ e ∈ es, okE e = true) (hinc : Pl.Inc es) (he : okE e = true) : Reps (D.put (keyT e.1).lit (litT e.2)) (Pl.put e es) := by
  refine ⟨h.tidy.put (Kyt.isKey _) _, keysT_put h.keys h.tidy.isMap _ _, fun x => ?_, fun x zd => ?_, ?_⟩
  · rw [lastT_putG hok hinc he]
    by_cases hk : keyL e.1 = x.1
    · have : x = keyT e.1 := Subtype.ext hk.symm
      subst this
      rw [if_pos hk, Maps.has_put_same h.tidy.isMap (Kyt.isKey _)]; rfl
    · rw [if_neg hk, Maps.has_put_other (fun q => hk (by rw [Kyt.lit_inj q]; rfl)), h.has]
  · rw [lastT_putG hok hinc he]
    by_cases hk : keyL e.1 = x.1
    · have : x = keyT e.1 := Subtype.ext hk.symm
      subst this
      rw [if_pos hk, Maps.atKey_put_same h.tidy.isMap (Kyt.isKey _)]
    · rw [if_neg hk, Maps.atKey_put_other (fun q => hk (by rw [Kyt.lit_inj q]; rfl)), h.at']
  · rw [Maps.size_put h.tidy, h.has, put_length e hinc, h.size]
    show (if (lastT (keyL e.1) es).isSome = true then _ else _) = _
    rw [lastT_keyG hok hinc]
/-- What is there already is written again. -/
theorem Reps.again {D : MD} {es : List Ent} (h : Reps D es) {o : List Int} {t : ByteArray} (hl : lastT (keyL o) es = some t) : Reps (D.put (keyT o).lit (litT t)) es := by
  refine ⟨h.tidy.put (Kyt.isKey _) _, keysT_put h.keys h.tidy.isMap _ _, fun x => ?_, fun x zd => ?_, ?_⟩
  · by_cases hk : keyL o = x.1
    · have : x = keyT o := Subtype.ext hk.symm
      subst this
      rw [Maps.has_put_same h.tidy.isMap (Kyt.isKey _)]
      show true = (lastT (keyL o) es).isSome
      rw [hl]; rfl
    · rw [Maps.has_put_other (fun q => hk (by rw [Kyt.lit_inj q]; rfl)), h.has]
  · by_cases hk : keyL o = x.1
    · have : x = keyT o := Subtype.ext hk.symm
      subst this
      rw [Maps.atKey_put_same h.tidy.isMap (Kyt.isKey _)]
      show litT t = (match lastT (keyL o) es with | some t => litT t | none => zd)
      rw [hl]
    · rw [Maps.atKey_put_other (fun q => hk (by rw [Kyt.lit_inj q]; rfl)), h.at']
  · rw [Maps.size_put h.tidy, h.has]
    show (if (lastT (keyL o) es).isSome = true then _ else _) = _
    rw [hl]; exact h.size
theorem clone_any (b n : Nat) (D : MD) (w : World) (h : MapAt w b n D) :
    Calls Tryz.prog 62 #[.map (some b)] w fun e w' => e = .returned (.map (some w.heap.size)) ∧ MapAt w' w.heap.size n D ∧ MapAt w' b n D ∧ Below w.heap.size w w' :=
  AnyW.maps_Clone_owns Tryz.laysCloneM _ _ b n D w h
/-- The text that an expansion writes at an outline keeps what the map reads as. -/
theorem Reps.expand {D : MD} {es acc : List Ent} {n : Nat} {fs : List Atm} {e : Ent} {f : Atm} {t : ByteArray} {i : Int} {zs : List Int} (h : Reps D acc) (hI : ExIn es acc n) (hb : intB e.1 f.1 f.2 = true) (hz : zs = intI e.1 f.1 f.2) (hl : lfX es fs zs = some (t, i)) :
    Reps (D.put (keyT zs).lit (litT t)) (exP es fs e acc f) ∧ t.size ≤ 60 := by
  by_cases hi : 0 ≤ i
  · have hX : exI es fs e f = some (zs, t) := by rw [hz]; exact exI_some hb (by rw [← hz]; exact hl) hi
    have hok := (exI_ok hX).1
    have hs : t.size ≤ 60 := (okE_size hok).2.2
    have hP : exP es fs e acc f = Pl.put (zs, t) acc := by unfold exP; rw [hX]
    rw [hP]
    have := h.putG (e := (zs, t)) hI.ok hI.inc hok
    exact ⟨this, hs⟩
  · have hX : exI es fs e f = none := exI_own (t := t) (i := i) (by rw [← hz]; exact hl) hi
    have hlk : Pl.look zs es = some t := by
      cases hk : Pl.look zs es with
      | some s => rw [lfX_some hk] at hl; injection hl with hl; injection hl with hl _; rw [hl]
      | none =>
        rw [lfX_none hk] at hl
        exact absurd (fdFind_fd1 fs 0 hl).1 hi
    have hla := hI.keep _ _ hlk
    have hs : t.size ≤ 60 := by
      have hla2 := hla
      unfold Pl.look at hla2
      obtain ⟨x, hx, hxt⟩ := Option.map_eq_some_iff.1 hla2
      rw [← hxt]
      exact (okE_size (hI.ok _ (List.mem_of_find?_eq_some hx))).2.2
    have hP : exP es fs e acc f = acc := by unfold exP; rw [hX]
    rw [hP]
    exact ⟨h.again (by rw [lastT_keyG hI.ok hI.inc]; exact hla), hs⟩
/-- What stands in memory between the rounds of the program. -/
structure YSt (w wr : World) (d fv : Value) (g6 b b2 nn : Nat) (D : MD) (es : List Ent) : Prop where
  box : BoxV wr w.heap.size 33 d
  res : BoxV wr (w.heap.size + 1) 33 (.slice none 0 0)
  fd : BoxW wr g6 78 (.map (some b)) fv
  orig : MapB wr b es
  map : MapAt wr b2 nn D
  low : Below w.heap.size w wr
  hb : w.heap.size + 1 < b
  h6 : b < g6
  h2 : g6 < b2
theorem YSt.below {w wr wz : World} {d fv : Value} {g6 b b2 nn : Nat} {D : MD} {es : List Ent} (h : YSt w wr d fv g6 b b2 nn D es) (hb : Below wr.heap.size wr wz) : YSt w wz d fv g6 b b2 nn D es :=
  ⟨h.box.below hb h.box.lt, h.res.below hb h.res.lt, h.fd.below hb h.fd.lt, h.orig.below hb, h.map.below hb h.map.lt, below_step h.low hb, h.hb, h.h6, h.h2⟩
theorem YSt.put {w wr wz : World} {d fv : Value} {g6 b b2 nn nn' : Nat} {D D' : MD} {es : List Ent} (h : YSt w wr d fv g6 b b2 nn D es) (hg : wr.grownBy wz (some b2)) (hm : MapAt wz b2 nn' D') : YSt w wz d fv g6 b b2 nn' D' es := by
  have h1 := h.hb; have h2 := h.h6; have h3 := h.h2
  have hms : MapB wz b es := by
    obtain ⟨zs, clock, hx, Ft, hs, hD⟩ := h.orig
    exact ⟨zs, clock, (hg.block b h.orig.lt (by intro e; injection e with e; omega)).trans hx, Ft, hs, hD⟩
  exact ⟨h.box.grown hg (by intro e; injection e with e; omega), h.res.grown hg (by intro e; injection e with e; omega), (hg.block g6 h.fd.lt (by intro e; injection e with e; omega)).trans h.fd, hms, hm, h.low.grown hg h.low.size (fun j hj => by injection hj with hj; omega), h1, h2, h3⟩
set_option maxHeartbeats 4000000 in
theorem ExpandFolds_any (v : Value) (es : List Ent) (fv : Value) (fs : List Atm) (w : World) (h : EntsAt w v es) (hn : es.length ≤ 2097152) (hx : ∀ e ∈ es, entOk e) (hf : AtomsAt w fv fs) (hfn : fs.length ≤ 2097152) (hfx : ∀ f ∈ fs, f.2.size ≤ 1048576) :
    Calls Tryz.prog 26 #[dV v, fv] w fun r w' => OutD w.heap.size w' (exO es fs) (exOk es fs) r ∧ Below w.heap.size w w' := by
  have HF := Lib.hid hf
  have cf := fun w' hb => foldedBy_any v es fv fs w' (h.below (w' := w') hb) hn hx (hf.below hb) hfn hfx
  obtain ⟨a, cap, rfl, hcap, hC⟩ := h.cells
  obtain ⟨fa, fc, rfl, hfc, hFC⟩ := fd_at hf
  have HFC := Lib.hid hFC
  have HC := Lib.hid hC
  obtain ⟨n, hnn⟩ : ∃ n, n = es.length := ⟨_, rfl⟩
  obtain ⟨fl, hfl⟩ : ∃ fl, fl = fs.length := ⟨_, rfl⟩
  have HFL := Lib.hid hfl
  have HN := Lib.hid hnn
  unfold dV at cf ⊢
  rw [← hnn] at hcap
  rw [← hfl] at HF hfc
  simp only [← hnn] at cf
  simp only [← hfl] at cf
  rw [← hnn, ← hfl]
  have CF := Lib.hid cf
  obtain ⟨W0, hW0⟩ : ∃ W, W = (w.alloc (.cells #[.slice a n cap] 33)).alloc (.cells #[.slice none 0 0] 33) := ⟨_, rfl⟩
  have HW0 := Lib.hid hW0
  have BX : Hid (Below w.heap.size w W0) := by rw [hW0]; exact below_al2 _ _ _
  have hs0 : W0.heap.size = w.heap.size + 2 := by rw [hW0]; simp
  have X0 : Hid (BoxV W0 w.heap.size 33 (.slice a n cap)) := by rw [hW0]; exact (BoxV.new w _ _).below (below_al _ _) (by simp)
  have R0 : Hid (BoxV W0 (w.heap.size + 1) 33 (.slice none 0 0)) := by
    have e := BoxV.new (w.alloc (.cells #[.slice a n cap] 33)) 33 (.slice none 0 0)
    rw [World.size_alloc] at e
    rw [hW0]; exact e
  have x0 := X0.out.cell
  rw [hW0] at x0
  clear hW0
  cases hgf : (okD es && Pl.okFs fs)
  · have hno := exOk_no (es := es) (fs := fs) hgf
    rw [exO_no hno, hno]
    clear h hf hx hfx hFC hC hfl hnn hfn hn hno cf
    go_enter Tryz.func26, Tryz.ntmps26
    go_wp2_with fail
    rw [← HW0.out]
    refine (CF.out _ BX.out).mono ?_
    rintro r w1 ⟨⟨mo, rfl, _⟩, hb⟩
    rw [hgf]
    have B1 := Lib.hid (below_step BX.out hb)
    have R1 : Hid (∀ o, BoxV (w1.alloc o) (w.heap.size + 1) 33 (.slice none 0 0)) := Lib.hid (fun o => (R0.out.below hb R0.out.lt).below (below_al w1 o) (by have := (R0.out.below hb R0.out.lt).lt; exact this))
    have B2 : Hid (∀ o, Below w.heap.size w (w1.alloc o)) := Lib.hid (fun o => below_step B1.out (below_al w1 o))
    have cR := fun o => (R1.out o).cell
    have fR := fun o => (R1.out o).frozen
    clear hb x0
    go_wp2
    (try simp only [Exit.inBlock, Exit.then])
    refine bodyPost_ret (results_dt2 rfl _ _ (w.heap.size + 1) _ rfl ((R1.out _).set _)) rfl ?_
    exact ⟨⟨_, [], rfl, RowX.nil _ _, rfl⟩, (B2.out _).setCell (by show w.heap.size ≤ w.heap.size + 1; omega) _⟩
  · have hgs := hgf
    rw [Bool.and_eq_true] at hgs
    obtain ⟨hg, hfk⟩ := hgs
    obtain ⟨h40, hoks, _⟩ := okD_parts hg
    obtain ⟨hf6, hfv, _⟩ := Pl.okFs_parts hfk
    have hfl6 : fl ≤ 6 := by rw [hfl]; exact hf6
    have hnn40 : n ≤ 40 := by rw [hnn]; exact h40
    have HSt := Lib.hid (ExIn.start hg)
    have HR0 := Lib.hid (reps_mapD hg)
    have HEX : Hid (exOk es fs = decide ((exE es fs es es).length ≤ 40)) := Lib.hid (by unfold exOk; rw [hgf]; rfl)
    have HX := Lib.hid (fun k e (h : es[k]? = some e) => show 1 ≤ e.1.length ∧ e.1.length ≤ 6 from ⟨(okE_size (hoks e (List.mem_of_getElem? h))).1, (okE_size (hoks e (List.mem_of_getElem? h))).2.1⟩)
    have HFx := Lib.hid (fun k f (hkf : fs[k]? = some f) => show f.2.size ≤ 1048576 from hfx f (List.mem_of_getElem? hkf))
    have CL := Lib.hid (fun b u xs w' hm (hb : Below w.heap.size w w') hu hxn => lookupD_any b es (.slice fa fl fc) fs u xs w' hm hg (HF.out.below hb) hf6 hfx hu hxn)
    have CC := Lib.hid (fun b n D w h => clone_any b n D w h)
    have HMA : Hid (∀ w' b, MapB w' b es → MapAt w' b n (mapD es)) := Lib.hid (fun w' b h => by rw [hnn]; exact h)
    obtain ⟨D0, hD0⟩ : ∃ D, D = mapD es := ⟨_, rfl⟩
    rw [← hD0] at HR0 HMA
    clear h hf hx hfx hg hfk cf hFC hC hfl hnn hfn hn hoks hfv hD0
    go_enter Tryz.func26, Tryz.ntmps26
    go_wp2_with fail
    rw [← HW0.out]
    refine (CF.out _ BX.out).mono ?_
    rintro r w1 ⟨⟨mo, rfl, hmo⟩, hb⟩
    rw [hgf]
    obtain ⟨b, rfl, hbb, hMB⟩ := hmo (by rw [Bool.and_eq_true] at hgf; exact hgf.1)
    obtain ⟨g6, hg6⟩ : ∃ g, g = w1.heap.size := ⟨_, rfl⟩
    obtain ⟨W, hW⟩ : ∃ W, W = w1.alloc (.cells #[.map (some b), .slice fa fl fc] 78) := ⟨_, rfl⟩
    have hbW : Below w1.heap.size w1 W := by rw [hW]; exact below_al _ _
    have X2 := Lib.hid ((X0.out.below hb X0.out.lt).below hbW (by have := (X0.out.below hb X0.out.lt).lt; exact this))
    have R2 := Lib.hid ((R0.out.below hb R0.out.lt).below hbW (by have := (R0.out.below hb R0.out.lt).lt; exact this))
    have F2 : Hid (BoxW W g6 78 (.map (some b)) (.slice fa fl fc)) := Lib.hid (by rw [hW, hg6]; exact BoxW.new _ _ _ _)
    have M2 := Lib.hid (hMB.below hbW)
    have B2 := Lib.hid (below_step (below_step BX.out hb) hbW)
    have hb6 : b < g6 := by rw [hg6]; exact hMB.lt
    have hbl : w.heap.size + 1 < b := by omega
    have c6 := F2.out.cell0
    have HW := Lib.hid hW
    have HG6 := Lib.hid hg6
    rw [hW] at c6
    clear hb hMB hmo hbb hbW hW hg6 x0 HW0 X0 R0 BX CF hs0
    rw [HG6.out] at c6
    go_wp2_with fail
    rw [← HW.out]
    refine (CC.out b n D0 W (HMA.out W b M2.out)).mono ?_
    rintro r w3 ⟨rfl, hM3, _, hb⟩
    rw [← HG6.out]
    have St0 : Hid (YSt w w3 (.slice a n cap) (.slice fa fl fc) g6 b W.heap.size n D0 es) := Lib.hid ⟨X2.out.below hb X2.out.lt, R2.out.below hb R2.out.lt, F2.out.below hb F2.out.lt, M2.out.below hb, hM3, below_step B2.out hb, hbl, hb6, F2.out.lt⟩
    obtain ⟨b2, hb2⟩ : ∃ x, x = W.heap.size := ⟨_, rfl⟩
    rw [← hb2] at St0 ⊢
    have cx := St0.out.box.cell
    clear hb hM3 hb2 X2 R2 F2 M2 B2 c6 HW HG6 HMA CC
    go_wp2_with fail
    clear cx
    go_loopw [33] (fun i wr => ∃ (k nn : Nat) (acc : List Ent) (D : MD), i = .int .i64 k ∧ k ≤ n ∧ Hid (acc = exE es fs es (es.take k)) ∧ Hid (ExIn es acc (40 + 6 * k)) ∧ nn ≤ 40 + 6 * k ∧ Hid (Reps D acc) ∧ Hid (YSt w wr (.slice a n cap) (.slice fa fl fc) g6 b b2 nn D es)) (fun i _ => n - (intOf i).toNat)
    case atStart => exact ⟨0, n, es, D0, rfl, Nat.zero_le _, Lib.hid rfl, Lib.hid (HSt.out.mono (by omega)), by omega, HR0, St0⟩
    case round =>
      obtain ⟨k, nn, acc0, D, rfl, hk, HA, HI, hnn, HR, HS⟩ := hrel
      by_cases hlt : k < n
      · obtain ⟨e, he⟩ : ∃ e, es[k]? = some e := ⟨_, List.getElem?_eq_getElem (by rw [← HN.out]; exact hlt)⟩
        have HSn := Lib.hid (exE_snoc es fs es he)
        have HXe := Lib.hid (HX.out k e he)
        obtain ⟨bk, o, uk, rfl, hbk, v0, v1, gi⟩ := HC.out w (Below.refl _ _) k e he
        obtain ⟨hx1, hx2⟩ := HXe.out
        have HIw := Lib.hid (ints_m gi (by omega))
        obtain ⟨ea, ec, rfl, _, _⟩ := gi.cells
        have g0 := (HS.out.low.cell (p := ⟨bk, o + k * 2, none⟩) (lt_of_cell v0)).trans v0
        have g1 := (HS.out.low.cell (p := ⟨bk, o + k * 2 + 1, none⟩) (lt_of_cell v1)).trans v1
        clear he gi hbk v0 v1
        obtain ⟨gE, hgE⟩ : ∃ g, g = wr.heap.size := ⟨_, rfl⟩
        obtain ⟨W1, hW1⟩ : ∃ W, W = wr.alloc (.cells #[.slice ea e.1.length ec, .string e.2] 66) := ⟨_, rfl⟩
        have hbW : Below wr.heap.size wr W1 := by rw [hW1]; exact below_al _ _
        have E1 : Hid (BoxW W1 gE 66 (.slice ea e.1.length ec) (.string e.2)) := Lib.hid (by rw [hW1, hgE]; exact BoxW.new _ _ _ _)
        have S1 := Lib.hid (HS.out.below hbW)
        have hE2 : b2 < gE := by rw [hgE]; exact HS.out.map.lt
        have HW1 := Lib.hid hW1
        have HgE := Lib.hid hgE
        clear hbW hW1 hgE HS
        go_wp2_with fail
        rw [← HW1.out, ← HgE.out]
        clear g0 g1 HW1 HgE
        obtain ⟨wo, hwo⟩ : ∃ x, x = W1 := ⟨_, rfl⟩
        subst hwo
        go_loopw [39] (fun i wr => ∃ (j mm : Nat) (acc : List Ent) (D : MD), i = .int .i64 j ∧ j ≤ fl ∧ Hid (acc = exF es fs e acc0 (fs.take j)) ∧ Hid (ExIn es acc (40 + 6 * k + j)) ∧ mm ≤ 40 + 6 * k + j ∧ Hid (Reps D acc) ∧ Hid (YSt w wr (.slice (some ⟨bk, o, none⟩) n cap) (.slice fa fl fc) g6 b b2 mm D es) ∧ Hid (BoxW wr gE 66 (.slice ea e.1.length ec) (.string e.2))) (fun i _ => fl - (intOf i).toNat)
        case atStart => exact ⟨0, nn, acc0, D, rfl, Nat.zero_le _, Lib.hid rfl, HI, hnn, HR, S1, E1⟩
        case round =>
          obtain ⟨j, mm, acc, D, rfl, hj, HAj, HIj, hmm, HRj, HSj, HEj⟩ := hrel
          by_cases hjl : j < fl
          · obtain ⟨f, hf⟩ : ∃ f, fs[j]? = some f := ⟨_, List.getElem?_eq_getElem (by rw [← HFL.out]; exact hjl)⟩
            have HFn := Lib.hid (exF_snoc es fs e acc0 hf)
            obtain ⟨fb, fo, rfl, hfb, f0, f1⟩ := HFC.out wr HSj.out.low j f hf
            have hft := HFx.out j f hf
            have HNo := Lib.hid (fun (h : exI es fs e f = none) => show acc = exF es fs e acc0 (fs.take (j + 1)) from by rw [HFn.out, ← HAj.out]; unfold exP; rw [h])
            have HYes := Lib.hid (show exP es fs e acc f = exF es fs e acc0 (fs.take (j + 1)) from by rw [HFn.out, ← HAj.out])
            have HStep := Lib.hid (HIj.out.step fs e f)
            have HIno := Lib.hid (fun h => exI_no (es := es) (fs := fs) (e := e) (f := f) h)
            have HInone := Lib.hid (fun h => exI_none (es := es) (fs := fs) (e := e) (f := f) h)
            obtain ⟨zs, hzs⟩ : ∃ zs, zs = intI e.1 f.1 f.2 := ⟨_, rfl⟩
            have HEx := Lib.hid (fun t i h1 h2 => HRj.out.expand (fs := fs) (e := e) (f := f) (t := t) (i := i) HIj.out h1 hzs h2)
            have cs := fun wz (hb : Below wr.heap.size wr wz) => FoldInto_any (.slice ea e.1.length ec) e.1 f.1 f.2 wz (HIw.out.below (below_step HSj.out.low hb)) (by omega) hft
            unfold OutO atV at cs
            have hzl : zs.length ≤ 6 := by rw [hzs]; exact intI_len _ _ _
            have hz0 : intB e.1 f.1 f.2 = true → 0 < zs.length := fun hb => by rw [hzs]; unfold intI; rw [if_pos hb]; simp
            rw [← hzs] at cs HInone
            obtain ⟨bb, hbb⟩ : ∃ b, b = intB e.1 f.1 f.2 := ⟨_, rfl⟩
            rw [← hbb] at cs HIno hz0 HEx
            have CS := Lib.hid cs
            have Hz0 := Lib.hid hz0
            obtain ⟨X, hX⟩ : ∃ X, X = exI es fs e f := ⟨_, rfl⟩
            rw [← hX] at HNo HIno HInone
            obtain ⟨P, hP⟩ : ∃ P, P = exP es fs e acc f := ⟨_, rfl⟩
            rw [← hP] at HYes HEx HStep
            obtain ⟨L, hL⟩ : ∃ L, L = lfX es fs zs := ⟨_, rfl⟩
            rw [← hL] at HInone HEx
            have HL := Lib.hid hL
            obtain ⟨fk, ft⟩ := f
            dsimp only at f0 f1 CS
            obtain ⟨W2, hW2⟩ : ∃ W, W = wr.alloc (.cells #[.int .i64 fk, .string ft] 61) := ⟨_, rfl⟩
            have hbW : Below wr.heap.size wr W2 := by rw [hW2]; exact below_al _ _
            have S2 := Lib.hid (HSj.out.below hbW)
            have E2 := Lib.hid (HEj.out.below hbW HEj.out.lt)
            have D2 := Lib.hid hbW
            have e0 := E2.out.cell0
            have q2 : BoxW W2 wr.heap.size 61 (.int .i64 fk) (.string ft) := by rw [hW2]; exact BoxW.new _ _ _ _
            have q0 := q2.cell0
            have q1 := q2.cell1
            rw [hW2] at e0 q0 q1
            have HW2 := Lib.hid hW2
            clear hf hbb hX hzs hz0 cs hft hfb hL hP hbW hW2 q2
            go_wp2_with fail
            rw [← HW2.out]
            refine (CS.out W2 D2.out).mono ?_
            rintro r w4 ⟨⟨y, rfl, hy⟩, hb⟩
            have S4 := Lib.hid (S2.out.below hb)
            have E4 := Lib.hid (E2.out.below hb E2.out.lt)
            have Y4 := Lib.hid hy
            clear hb hy e0 q0 q1 f0 f1 CS S2 E2 D2 HW2
            cases bb
            · have hA := HNo.out (HIno.out (by first | rfl | trivial))
              have HA1 := Lib.hid hA
              clear hA HNo HYes HEx HIno HInone HStep
              go_wp2
              go_roundw
              case rel => exact ⟨j + 1, mm, acc, D, by go_num, by omega, HA1, Lib.hid (HIj.out.mono (by omega)), by omega, HRj, S4, E4⟩
              case measure => simp [intOf]; omega
            · have hzp := Hz0.out (by first | rfl | trivial)
              have Ym := Lib.hid (ints_m Y4.out.ints hzp)
              have c0 := S4.out.fd.cell0
              have c1 := S4.out.fd.cell1
              go_wp2_with fail
              refine (CL.out b y zs w4 S4.out.orig S4.out.low Ym.out (by omega)).mono ?_
              rintro r w5 ⟨rfl, hb⟩
              have S5 := Lib.hid (S4.out.below hb)
              have E5 := Lib.hid (E4.out.below hb E4.out.lt)
              have Y5 := Lib.hid (Ym.out.below hb)
              rw [← HL.out]
              clear hb c0 c1 Y4 Ym S4 E4
              cases L with
              | none =>
                have hA := HNo.out (HInone.out (by first | rfl | trivial))
                have HA1 := Lib.hid hA
                clear hA HNo HYes HEx HIno HInone HStep
                rw [lfE_none]
                go_wp2
                go_roundw
                case rel => exact ⟨j + 1, mm, acc, D, by go_num, by omega, HA1, Lib.hid (HIj.out.mono (by omega)), by omega, HRj, S5, E5⟩
                case measure => simp [intOf]; omega
              | some p =>
                obtain ⟨t, i⟩ := p
                rw [lfE_some]
                obtain ⟨hRe, ht60⟩ := HEx.out t i (by first | rfl | trivial) (by first | rfl | trivial)
                have HRe := Lib.hid hRe
                have CK := Lib.hid (keyOf_any y zs w5 Y5.out.at (by omega))
                have HKy : Hid (keyOf Tryz.prog 95 (.agg (kyA (keyL zs))) = some (keyT zs).lit) := Lib.hid (kl_at (kyOk_key zs))
                have HV : Hid (plainElem (H := Unit) Tryz.prog 9 (.string t) = some (litT t, [])) := Lib.hid (plainElem_string Tryz.underlying9 (by unfold maxLen; omega))
                obtain ⟨K, hK⟩ : ∃ K, K = keyL zs := ⟨_, rfl⟩
                rw [← hK] at CK HKy
                obtain ⟨kl, hkl⟩ : ∃ kl, kl = (keyT zs).lit := ⟨_, rfl⟩
                rw [← hkl] at HKy HRe
                obtain ⟨dd, hdd⟩ : ∃ d, d = litT t := ⟨_, rfl⟩
                rw [← hdd] at HV HRe
                clear hK hkl hdd hRe HNo HEx HIno HInone
                go_wp2_with fail
                refine CK.out.mono ?_
                rintro r w6 ⟨rfl, hb⟩
                have S6 := Lib.hid (S5.out.below hb)
                have E6 := Lib.hid (E5.out.below hb E5.out.lt)
                clear hb S5 E5 Y5 CK
                go_wp2_with (at_mapUpdate; refine wpList_mapUpdate_own _ rfl _ _ _ 76 rfl 95 9 lawK Tryz.underlying76 _ b2 mm _ rfl S6.out.map (by unfold maxLen; omega) _ _ kl rfl rfl HKy.out dd [] HV.out ?_; intro w7 hown hgr)
                have S7 := Lib.hid (S6.out.put hgr (show MapAt w7 b2 (mm + 1) (D.put kl dd) from hown))
                have E7 : Hid (BoxW w7 gE 66 (.slice ea e.1.length ec) (.string e.2)) := Lib.hid ((hgr.block gE E6.out.lt (by intro q; injection q with q; omega)).trans E6.out)
                clear hown hgr S6 E6 HKy HV
                go_roundw
                case rel => exact ⟨j + 1, mm + 1, P, D.put kl dd, by go_num, by omega, HYes, HStep, by omega, HRe, S7, E7⟩
                case measure => simp [intOf]; omega
          · obtain rfl : j = fl := by omega
            have HA2 : Hid (acc = exE es fs es (es.take (k + 1))) := Lib.hid (by rw [HSn.out, ← HA.out, HAj.out, List.take_of_length_le (by rw [← HFL.out]; exact Nat.le_refl _)])
            go_wp2
            go_roundw
            case rel => exact ⟨k + 1, mm, acc, D, by go_num, by omega, HA2, Lib.hid (HIj.out.mono (by omega)), by omega, HRj, HSj⟩
            case measure => simp [intOf]; omega
      · obtain rfl : k = n := by omega
        have HA2 : Hid (acc0 = exE es fs es es) := Lib.hid (by rw [HA.out, List.take_of_length_le (by rw [← HN.out]; exact Nat.le_refl _)])
        have hsz := HR.out.size
        have HOd := Lib.hid HI.out.fin
        obtain ⟨m, hm⟩ : ∃ m, m = Maps.size D := ⟨_, rfl⟩
        have hmp : m = acc0.length := hm.trans hsz
        have HLe : Hid (exOk es fs = decide (acc0.length ≤ 40)) := Lib.hid (by rw [HEX.out, HA2.out])
        have HMm := Lib.hid hm
        have cR := HS.out.res.cell
        have fR := HS.out.res.frozen
        by_cases hl : acc0.length ≤ 40
        · have hml : ¬ (40 < (m : Int)) := by omega
          rw [decide_eq_true hl] at HLe HOd
          have CD1 := Lib.hid (dictOf_any b2 nn D acc0 wr HS.out.map HR.out HOd.out)
          have HRes : Hid (exO es fs = acc0) := Lib.hid (by unfold exO; rw [HLe.out, if_pos rfl, HA2.out])
          clear hm hmp hsz HSt HA HI hl
          go_wp2_with (at_len; refine wpList_len_own _ rfl _ 76 rfl 95 9 Tryz.underlying76 _ b2 nn _ rfl HS.out.map ?_; rw [← HMm.out])
          refine CD1.out.mono ?_
          rintro r w6 ⟨⟨v6, us, rfl, hr6, hus⟩, hb6⟩
          have S6 := Lib.hid (HS.out.below hb6)
          have X6 := Lib.hid hr6
          have HUs := Lib.hid hus
          have hrl : w.heap.size + 1 < wr.heap.size := HS.out.res.lt
          obtain ⟨va, vc, hvf⟩ := hr6.form
          subst hvf
          have d6 := S6.out.res.cell
          have z6' := S6.out.res.frozen
          clear hb6 hr6 hus CD1 cR fR
          try unfold dV
          go_wp2
          (try simp only [Exit.inBlock, Exit.then])
          refine bodyPost_ret (results_dt2 rfl _ _ (w.heap.size + 1) _ rfl (S6.out.res.set _)) rfl ?_
          rw [HLe.out, HRes.out]
          exact ⟨⟨_, us, rfl, (X6.out.setCell hrl).mono (by omega), HUs.out⟩, S6.out.low.setCell (p := ⟨w.heap.size + 1, 0, none⟩) (by show w.heap.size ≤ w.heap.size + 1; omega) _⟩
        · have hml : 40 < (m : Int) := by omega
          rw [decide_eq_false hl] at HLe
          clear hm hmp hsz HSt HA HI hl
          go_wp2_with (at_len; refine wpList_len_own _ rfl _ 76 rfl 95 9 Tryz.underlying76 _ b2 nn _ rfl HS.out.map ?_; rw [← HMm.out])
          (try simp only [Exit.inBlock, Exit.then])
          refine bodyPost_ret (results_dt2 rfl _ _ (w.heap.size + 1) _ rfl (HS.out.res.set _)) rfl ?_
          rw [exO_no HLe.out, HLe.out]
          exact ⟨⟨_, [], rfl, RowX.nil _ _, rfl⟩, HS.out.low.setCell (p := ⟨w.heap.size + 1, 0, none⟩) (by show w.heap.size ≤ w.heap.size + 1; omega) _⟩
end Go.Proofs.YtjmiackiikbodaaGreat

namespace Go.Proofs.YtjmiackiikbodaaGreat.fnExactExpandFolds
open Go.ChangeShapes Go.WideShapes Go.ChangeAt Go.RowKit
open Go.ChangeMaps (open_string shut_string)
set_option linter.unusedVariables false
set_option maxRecDepth 100000

theorem own : ownKnob Tryz.prog.godebug = none := by kernel_rfl
theorem laidOut : laidOutB Tryz.prog = true := by kernel_rfl

theorem ownAs_touch {T : Nat → Prop} {w w' : World} {base : Nat} {v : Value} {n : Nat} {f : Nat → Atm} (h : OwnAs w base v n f) (ht : Touch T w w') (hT : ∀ b, base ≤ b → ¬ T b) : OwnAs w' base v n f := by
  rcases h with h | ⟨g, cap, hv, hc, hg, h0, hr⟩
  · exact .inl h
  · refine .inr ⟨g, cap, hv, hc, hg, h0, Nat.lt_of_lt_of_le hr.1 ht.1, fun j hj => ?_, fun j => ((ht.cf j hr.1 (hT g hg)).2).trans (hr.2.2 j)⟩
    exact ⟨((ht.cf _ hr.1 (hT g hg)).1).trans (hr.2.1 j hj).1, ((ht.cf _ hr.1 (hT g hg)).1).trans (hr.2.1 j hj).2⟩
theorem exF_in {es : List Ent} (fs : List Atm) (e : Ent) : ∀ (l : List Atm) (acc : List Ent) (n : Nat), ExIn es acc n → ∃ m, ExIn es (exF es fs e acc l) m
  | [], _, n, h => ⟨n, h⟩
  | f :: l, acc, _, h => exF_in fs e l (exP es fs e acc f) _ (h.step fs e f)
theorem exE_in {es : List Ent} (fs : List Atm) : ∀ (l acc : List Ent) (n : Nat), ExIn es acc n → ∃ m, ExIn es (exE es fs acc l) m
  | [], _, n, h => ⟨n, h⟩
  | e :: l, acc, n, h => by
    obtain ⟨m, hm⟩ := exF_in fs e fs acc n h
    exact exE_in fs l _ m hm
theorem exO_small (es : List Ent) (fs : List Atm) : (exO es fs).length ≤ 40 ∧ ∀ e ∈ exO es fs, okE e = true := by
  unfold exO
  split
  · rename_i h
    unfold exOk at h
    rw [Bool.and_eq_true, Bool.and_eq_true, decide_eq_true_eq] at h
    obtain ⟨m, hm⟩ := exE_in fs es es 40 (ExIn.start h.1.1)
    exact ⟨h.2, hm.ok⟩
  · exact ⟨Nat.zero_le _, fun e he => by cases he⟩
theorem specEx_rs (v : Value) (es : List Ent) (fv : Value) (fs : List Atm) (w : World) (h : EntsAt w v es) (hn : es.length ≤ 2097152) (hx : ∀ e ∈ es, entOk e) (hf : AtomsAt w fv fs) (hfn : fs.length ≤ 2097152) (hfx : ∀ f ∈ fs, f.2.size ≤ 1048576) :
    Calls Tryz.prog 25 #[dV v, fv] w fun r w' => (∃ v2, r = .returned (.tuple #[dV v2, .bool (exOk es fs)]) ∧ EntsAt w' v2 (exO es fs)) ∧ Below w.heap.size w w' := by
  refine (specExpandFolds_any v es fv fs w h hn hx hf hfn hfx).mono ?_
  rintro r w' ⟨⟨v2, us, rfl, h1, h2⟩, hb⟩
  exact ⟨⟨v2, rfl, by rw [← h2]; exact h1.at.at⟩, hb⟩
theorem Ex_rs (v : Value) (es : List Ent) (fv : Value) (fs : List Atm) (w : World) (h : EntsAt w v es) (hn : es.length ≤ 2097152) (hx : ∀ e ∈ es, entOk e) (hf : AtomsAt w fv fs) (hfn : fs.length ≤ 2097152) (hfx : ∀ f ∈ fs, f.2.size ≤ 1048576) :
    Calls Tryz.prog 26 #[dV v, fv] w fun r w' => (∃ v2, r = .returned (.tuple #[dV v2, .bool (exOk es fs)]) ∧ OwnEs w' w.heap.size w'.heap.size v2 (exO es fs)) ∧ Below w.heap.size w w' := by
  refine (ExpandFolds_any v es fv fs w h hn hx hf hfn hfx).mono ?_
  rintro r w' ⟨⟨v2, us, rfl, h1, h2⟩, hb⟩
  exact ⟨⟨v2, rfl, by rw [← h2]; exact h1.own'⟩, hb⟩
/-! ### THE WALK: the Go text returns true, and writes nothing that was there. -/
set_option maxRecDepth 100000 in
set_option maxHeartbeats 8000000 in
theorem walk (u0 : Value) (d0 : List Ent) (a1 : Option Addr) (n1 c1 : Nat) (e1 : List (Int × ByteArray)) (w : World) (hS : w.ShapedOpen Tryz.prog)  (w0 : EntsIn w u0 d0) (w1 : AtomsIn w a1 n1 c1 e1) :
    Calls Tryz.prog 5 #[dV u0, .slice a1 n1 c1] w fun e w' => e = .returned (.bool true) ∧ Below w.heap.size w w' := by
  obtain ⟨hat, hlen, hfine⟩ := w0
  obtain ⟨hfm, hfl, hfrow, hfval⟩ := w1
  have HFr := Lib.hid hfrow
  have CZ := Lib.hid (fun w' hb => szDw_any u0 d0 w' ⟨hat.below (w' := w') hb, hlen, hfine⟩)
  have CZF := Lib.hid (fun q w' h0 h1 hb => szFsL_any q h0 h1 (.slice a1 n1 c1) e1 w' (hfrow.below (w' := w') hb) (by rw [hfl]; exact hfm) (fun e he => (hfval e he).2))
  have CT := Lib.hid (fun hn hx w' hb => toD_any u0 d0 w' (hat.below (w' := w') hb) hn hx)
  have CE := Lib.hid (fun u v w h h' hn hx => eqD_same u v d0 w h h' hn hx)
  have CMD := Lib.hid (fun base S v w h hm hn hS hb hx => markD_any base S v d0 w h hm hn hS hb hx)
  have HFL := Lib.hid hfl
  obtain ⟨a, cap, rfl, hcap, _⟩ := hat.cells
  have cs := fun v f w h hf hn hx hfn hfx => specEx_rs v d0 f e1 w h hn hx hf hfn hfx
  have ci := fun v f w h hf hn hx hfn hfx => Ex_rs v d0 f e1 w h hn hx hf hfn hfx
  obtain ⟨hrl, hre⟩ := exO_small d0 e1
  obtain ⟨rs, hrs⟩ : ∃ rs, rs = exO d0 e1 := ⟨_, rfl⟩
  obtain ⟨b, hbb⟩ : ∃ b, b = exOk d0 e1 := ⟨_, rfl⟩
  rw [← hrs, ← hbb] at cs ci
  rw [← hrs] at hrl hre
  have hsm : ∀ e ∈ rs, e.1.length ≤ 6 := fun e he => (okE_size (hre e he)).2.1
  have hend : endE 1 rs ≤ 1100000 := by have := endE_le 1 rs 6 hsm; omega
  have hok : ∀ e ∈ rs, entOk e := fun e he => by have := okE_size (hre e he); exact ⟨by omega, by omega⟩
  have hsm2 : ∀ e ∈ rs, e.1.length ≤ 1100000 := fun e he => by have := hsm e he; omega
  have CS := Lib.hid cs
  have CI := Lib.hid ci
  have CQ := Lib.hid (fun v u w hv hu => eqD_same v u rs w hv hu (by omega) hok)
  have CM := Lib.hid (fun base S v w h hS hb => markD_any base S v rs w h hend (by omega) hS hb hsm2)
  have CH := Lib.hid (fun base S v w h => heldD_any base S v rs w h hend (by omega) hsm2)
  obtain ⟨M, hM⟩ : ∃ M, M = endE 1 rs := ⟨_, rfl⟩
  rw [← hM] at CM CH hend
  obtain ⟨rn, hrn⟩ : ∃ rn, rn = rs.length := ⟨_, rfl⟩
  have HRN := Lib.hid hrn
  have HWt := Lib.hid (endE_wt 1 d0)
  have HWi := Lib.hid (fun h => wtE_in (es := d0) h)
  obtain ⟨n, hnn⟩ : ∃ n, n = d0.length := ⟨_, rfl⟩
  have HN := Lib.hid hnn
  unfold maxLen at hfm
  unfold dV at CZ CT CS CI CE CMD CQ CM CH ⊢
  rw [← hnn] at CZ CT CS CI CE CMD hcap HWt HWi ⊢
  obtain ⟨E, hE⟩ : ∃ E, E = endE 1 d0 := ⟨_, rfl⟩
  have hEp1 : 1 ≤ E := by rw [hE]; exact endE_take 1 d0 0
  rw [← hE] at CMD HWt
  obtain ⟨WT, hWT⟩ : ∃ WT, WT = wtE d0 := ⟨_, rfl⟩
  rw [← hWT] at CZ HWt HWi
  clear cs ci hat hS hlen hfine hrs hbb hsm hsm2 hok hre hend hrn hnn hE hWT hM hfl hfrow hfval
  go_enter Tryz.func5, Tryz.ntmps5
  go_wp2_with fail
  refine (CZ.out _ (below_al _ _)).mono ?_
  rintro r w1 ⟨⟨q, rfl, hq⟩, hb⟩
  have A1 : Hid (BoxV w1 w.heap.size 24 (.slice a n cap)) := (BoxV.new w _ _).below hb (by simp)
  have B1 := Lib.hid (below_box hb)
  clear hb CZ
  rcases hq with rfl | ⟨hq0, hqs⟩
  · go_wp2
    go_ret
    exact ⟨rfl, B1.out⟩
  have hq1 : q ≤ 1048576 := by omega
  have hwt : WT + n ≤ 1048576 := by omega
  have hE1 : E ≤ 1100000 := by have := HWt.out; omega
  have hnq : ¬ q < 0 := by omega
  have HIN := Lib.hid (HWi.out hwt)
  clear hqs HWt HWi hwt
  go_wp2_with fail
  refine (CZF.out q _ hq0 hq1 B1.out).mono ?_
  rintro r w2 ⟨⟨r, rfl, hr⟩, hb⟩
  have A2 := Lib.hid (A1.out.below hb A1.out.lt)
  have B2 := Lib.hid (below_step B1.out hb)
  have HRr := Lib.hid hr
  clear hb CZF A1 B1 hr hq0 hq1
  by_cases hneg : r < 0
  · go_wp2
    go_ret
    exact ⟨rfl, B2.out⟩
  obtain ⟨hfn, hfx⟩ := HRr.out (by omega)
  obtain ⟨hdn, hdx⟩ := HIN.out
  have CT1 := Lib.hid (CT.out hdn hdx)
  have CS1 := Lib.hid (fun v f w h hf => CS.out v f w h hf (by omega) (fun e he => (hdx e he).ok) (by omega) hfx)
  have CI1 := Lib.hid (fun v f w h hf => CI.out v f w h hf (by omega) (fun e he => (hdx e he).ok) (by omega) hfx)
  have CE1 := Lib.hid (fun u v w h h' => CE.out u v w h h' (by omega) (fun e he => (hdx e he).ok))
  have CF1 := Lib.hid (fun w' hb => toFs_any (.slice a1 n1 c1) e1 w' (HFr.out.below (w' := w') hb) hfn)
  have CFE := Lib.hid (fun v u w h h' => eqFs_same v u e1 w h h' (by omega))
  have CMF := Lib.hid (fun base S v w h hS hb => markF_from base S E v e1.length (fun j => e1.getD j a00) w h hS hb (by omega) hEp1 (by omega))
  have CMD1 := Lib.hid (fun base S v w h hS hb => CMD.out base S v w h hE1 (by omega) hS hb (fun e he => by have := (hdx e he).1; omega))
  obtain ⟨m, hmm⟩ : ∃ m, m = e1.length := ⟨_, rfl⟩
  have HM := Lib.hid hmm
  rw [← hmm] at CMF
  have hmn : m ≤ 1048576 := by omega
  clear CT CS CI CE CMD HRr HIN hfn hfx hdn hdx hnq hmm
  have cA := A2.out.cell
  go_wp2_with fail
  refine (CT1.out _ B2.out).mono ?_
  rintro r w3 ⟨⟨u, rfl, hu⟩, hb⟩
  have U3 := Lib.hid hu.at
  obtain ⟨uaa, uac, huf, _, _⟩ := hu.at.cells
  rw [← HN.out] at huf
  subst huf
  clear hu
  have A3 := Lib.hid (A2.out.below hb A2.out.lt)
  have B3 := Lib.hid (below_step B2.out hb)
  clear hb A2 B2  cA
  go_wp2_with fail
  refine (CF1.out _ B3.out).mono ?_
  rintro r w4 ⟨⟨f3, rfl, hf⟩, hb⟩
  have F4 := Lib.hid hf.atoms
  clear hf
  have U4 := Lib.hid (U3.out.below hb)
  have A4 := Lib.hid (A3.out.below hb A3.out.lt)
  have B4 := Lib.hid (below_step B3.out hb)
  clear hb U3 A3 B3  
  go_wp2_with fail
  refine (CS1.out _ _ _ U4.out F4.out).mono ?_
  rintro r w4a ⟨⟨s, rfl, hs⟩, hb⟩
  obtain ⟨sa, sc, sf, _, _⟩ := hs.cells
  rw [← HRN.out] at sf
  subst sf
  obtain ⟨w5, hW⟩ : ∃ W, W = w4a.alloc (.cells #[.slice sa rn sc] 33) := ⟨_, rfl⟩
  have hbA : Below w4a.heap.size w4a w5 := by rw [hW]; exact below_al _ _
  have VX : Hid (BoxV w5 w4a.heap.size 33 (.slice sa rn sc)) := by rw [hW]; exact BoxV.new _ _ _
  have HW5 := Lib.hid hW
  have V := Lib.hid (hs.below hbA)
  have A5 := Lib.hid ((A4.out.below hb A4.out.lt).below hbA (by have := A4.out.lt; have := hb.size; omega))
  have B5 := Lib.hid (below_step (below_step B4.out hb) hbA)
  have D5 := Lib.hid (Below.refl w5.heap.size w5)
  have HA5 : Hid (w.heap.size < w5.heap.size) := Lib.hid A5.out.lt
  clear hb hs hbA hW U4 F4 A4 B4
  have cA := A5.out.cell
  rw [HW5.out] at cA
  go_wp2_with fail
  rw [← HW5.out]
  clear HW5
  refine (CT1.out _ B5.out).mono ?_
  rintro r w6 ⟨⟨u, rfl, hu⟩, hb⟩
  obtain ⟨xa, xc, huf, _, _⟩ := hu.at.cells
  rw [← HN.out] at huf
  subst huf
  obtain ⟨v6, hv6⟩ : ∃ W, W = w6.alloc (.cells #[.slice xa n xc] 33) := ⟨_, rfl⟩
  have hb66 : Below w6.heap.size w6 v6 := by rw [hv6]; exact below_al _ _
  have hb56 : Below w5.heap.size w5 v6 := below_step hb hb66
  have hB6 := below_step B5.out hb56
  have cf := CF1.out _ hB6
  rw [hv6] at cf
  have CF7 := Lib.hid cf
  have X6 : Hid (BoxV v6 w6.heap.size 33 (.slice xa n xc)) := Lib.hid (by rw [hv6]; exact BoxV.new _ _ _)
  have O6 : Hid (OwnEs v6 w5.heap.size w6.heap.size (.slice xa n xc) d0) := Lib.hid (hu.below hb66)
  have HV := Lib.hid hv6
  have S6 : Hid (w5.heap.size ≤ w6.heap.size ∧ w6.heap.size < v6.heap.size) := Lib.hid ⟨hb.size, by rw [hv6]; simp⟩
  have A6 := Lib.hid (A5.out.below hb56 A5.out.lt)
  have B6 := Lib.hid hB6
  have D6 := Lib.hid hb56
  clear hb hb66 hb56 hB6 cf hv6 A5 B5 D5 hu cA
  go_wp2_with fail
  refine CF7.out.mono ?_
  rintro r w7 ⟨⟨f7, rfl, hf⟩, hb⟩
  rw [← HV.out] at hf hb
  have F7 : Hid (OwnAs w7 v6.heap.size f7 m (fun j => e1.getD j a00)) := Lib.hid (by rw [HM.out]; exact hf)
  have FL7 : Hid (0 < m → ∀ g, f7.ownBlock = some g → g < w7.heap.size) := Lib.hid (fun h0 => F7.out.lt h0)
  have X7 := Lib.hid (X6.out.below hb X6.out.lt)
  have O7 := Lib.hid (O6.out.below hb)
  have A7 := Lib.hid (A6.out.below hb A6.out.lt)
  have B7 := Lib.hid (below_step B6.out hb)
  have D7 := Lib.hid (below_step D6.out hb)
  have S7 : Hid (v6.heap.size ≤ w7.heap.size) := Lib.hid hb.size
  clear hb hf X6 O6 A6 B6 D6 CF7 HV
  have cX := X7.out.cell
  go_wp2_with fail
  refine (CI1.out _ _ _ O7.out.at (show AtomsAt _ f7 e1 from by have := F7.out; rw [HM.out] at this; exact this.atoms)).mono ?_
  rintro r w8a ⟨⟨gv, rfl, hG⟩, hb⟩
  obtain ⟨ga, gc, gf, _, _⟩ := hG.at.cells
  rw [← HRN.out] at gf
  subst gf
  obtain ⟨w8, hW⟩ : ∃ W, W = w8a.alloc (.cells #[.slice ga rn gc] 33) := ⟨_, rfl⟩
  have hbA : Below w8a.heap.size w8a w8 := by rw [hW]; exact below_al _ _
  have K8 : Hid (BoxV w8 w8a.heap.size 33 (.slice ga rn gc)) := by rw [hW]; exact BoxV.new _ _ _
  have hb8 := below_step hb hbA
  have HW8 := Lib.hid hW
  have S8a : Hid (w7.heap.size ≤ w8a.heap.size ∧ w8a.heap.size < w8.heap.size) := Lib.hid ⟨hb.size, by rw [hW]; simp⟩
  have G8 := Lib.hid (hG.below hbA)
  have F8 := Lib.hid (F7.out.below hb8)
  have O8 := Lib.hid (O7.out.below hb8)
  have A8 := Lib.hid (A7.out.below hb8 A7.out.lt)
  have X8 := Lib.hid (X7.out.below hb8 X7.out.lt)
  have B8 := Lib.hid (below_step B7.out hb8)
  have D8 := Lib.hid (below_step D7.out hb8)
  have S8 : Hid (w7.heap.size ≤ w8.heap.size) := Lib.hid hb8.size
  clear hb hb8 hbA hW hG F7 O7 A7 X7 B7 D7 cX
  have VX8 := Lib.hid (VX.out.below D8.out VX.out.lt)
  have cK := K8.out.cell
  have cV := VX8.out.cell
  rw [HW8.out] at cK cV
  go_wp2_with fail
  rw [← HW8.out]
  clear HW8 VX8 cK cV
  refine (CQ.out _ _ _ G8.out.at (V.out.below D8.out)).mono ?_
  rintro r w9 ⟨rfl, hb⟩
  have F9 := Lib.hid (F8.out.below hb)
  have O9 := Lib.hid (O8.out.below hb)
  have G9 := Lib.hid (G8.out.below hb)
  have A9 := Lib.hid (A8.out.below hb A8.out.lt)
  have X9 := Lib.hid (X8.out.below hb X8.out.lt)
  have K9 := Lib.hid (K8.out.below hb K8.out.lt)
  have B9 := Lib.hid (below_step B8.out hb)
  have D9 := Lib.hid (below_step D8.out hb)
  have S9 : Hid (w8.heap.size ≤ w9.heap.size) := Lib.hid hb.size
  clear hb F8 O8 G8 A8 X8 K8 B8 D8
  have k0 := cell_regrown X9.out.cell
  have k1 := cell_regrown A9.out.cell
  go_wp2_with fail
  refine Mx.wp_region_mixed (Mx.ofL [(0, 1), (1, 1), (2, 2), (3, 3), (4, 0)] .done) (by kernel_rfl) (by kernel_rfl) ?_
  repeat ((first | refine Mx.mix0 rfl ?_ | refine Mx.mix1 rfl ?_); go_big_quiet_step (fail); refine wpQuiet_nil ?_)
  refine Mx.mix2 rfl ?_
  go_wp2_with fail
  refine (CT1.out _ (below_drewF B9.out 1)).mono ?_
  rintro r w10 ⟨⟨u, rfl, hu⟩, hb⟩
  have G10' : Hid (Below w9.heap.size w9 w10) := Lib.hid ((below_drewF (Below.refl _ _) 1).trans hb)
  have Z10 := Lib.hid hu.at
  obtain ⟨za, zc, huf, _, _⟩ := hu.at.cells
  rw [← HN.out] at huf
  subst huf
  have O10 := Lib.hid (O9.out.below G10'.out)
  clear hb k0 k1 hu
  go_wp2
  refine Mx.mid_normal (fun _ => regrown_of_below G10'.out) ?_
  refine Mx.mix3 rfl ?_
  go_wp2_with fail
  refine (CE1.out _ _ _ O10.out.at Z10.out).mono ?_
  rintro r w11 ⟨rfl, hb⟩
  have hb911 : Below w9.heap.size w9 w11 := below_step G10'.out hb
  have F11 := Lib.hid (F9.out.below hb911)
  have O11 := Lib.hid (O9.out.below hb911)
  have G11 := Lib.hid (G9.out.below hb911)
  have A11 := Lib.hid (A9.out.below hb911 A9.out.lt)
  have X11 := Lib.hid (X9.out.below hb911 X9.out.lt)
  have K11 := Lib.hid (K9.out.below hb911 K9.out.lt)
  have B11 := Lib.hid (below_step B9.out hb911)
  have D11 := Lib.hid (below_step D9.out hb911)
  have S11 : Hid (w9.heap.size ≤ w11.heap.size) := Lib.hid hb911.size
  clear hb hb911 F9 O9 G9 A9 X9 K9 B9 D9 G10' O10 Z10
  go_wp2
  refine Mx.mid_normal (fun q => by cases q) ?_
  repeat ((first | refine Mx.mix0 rfl ?_ | refine Mx.mix1 rfl ?_); go_big_quiet_step (fail); refine wpQuiet_nil ?_)
  refine Mx.mix_nil ?_
  go_wp2_with fail
  refine (CF1.out _ B11.out).mono ?_
  rintro r w12 ⟨⟨f12, rfl, hf⟩, hb⟩
  have Y12 := Lib.hid hf.atoms
  clear hf
  have F12 := Lib.hid (F11.out.below hb)
  have O12 := Lib.hid (O11.out.below hb)
  have G12 := Lib.hid (G11.out.below hb)
  have A12 := Lib.hid (A11.out.below hb A11.out.lt)
  have X12 := Lib.hid (X11.out.below hb X11.out.lt)
  have K12 := Lib.hid (K11.out.below hb K11.out.lt)
  have B12 := Lib.hid (below_step B11.out hb)
  have D12 := Lib.hid (below_step D11.out hb)
  have S12 : Hid (w11.heap.size ≤ w12.heap.size) := Lib.hid hb.size
  clear hb F11 O11 G11 A11 X11 K11 B11 D11  
  go_wp2_with fail
  refine (CFE.out _ _ _ (show AtomsAt _ f7 e1 from by have := F12.out; rw [HM.out] at this; exact this.atoms) Y12.out).mono ?_
  rintro r w13 ⟨rfl, hb⟩
  have F13 := Lib.hid (F12.out.below hb)
  have O13 := Lib.hid (O12.out.below hb)
  have G13 := Lib.hid (G12.out.below hb)
  have A13 := Lib.hid (A12.out.below hb A12.out.lt)
  have X13 := Lib.hid (X12.out.below hb X12.out.lt)
  have K13 := Lib.hid (K12.out.below hb K12.out.lt)
  have B13 := Lib.hid (below_step B12.out hb)
  have D13 := Lib.hid (below_step D12.out hb)
  have S13 : Hid (w12.heap.size ≤ w13.heap.size) := Lib.hid hb.size
  clear hb F12 O12 G12 A12 X12 K12 B12 D12 Y12 
  have cX := X13.out.cell
  go_wp2_with fail
  refine (CMD1.out _ _ _ _ O13.out (by have := S6.out; have := S7.out; have := S8.out; have := S9.out; have := S11.out; have := S12.out; have := S13.out; omega) D13.out.size).mono ?_
  rintro r w14 ⟨rfl, _, hT, hb⟩
  have D14 : Hid (Below w5.heap.size w5 w14) := Lib.hid (D13.out.trans hb)
  have F14 := Lib.hid (ownAs_touch F13.out hT (fun x h1 h2 => by have := S6.out; omega))
  have G14 := Lib.hid (G13.out.touch hT (fun x h1 h2 h3 => by have := h3.2; have := S6.out; have := S7.out; have := S8a.out; have := S8.out; have := S9.out; have := S11.out; have := S12.out; have := S13.out; omega))
  have K14 := Lib.hid (K13.out.touch hT (fun h3 => by have := h3.2; have := S6.out; have := S7.out; have := S8a.out; have := S8.out; have := S9.out; have := S11.out; have := S12.out; have := S13.out; omega))
  have A14 := Lib.hid (A13.out.below hb HA5.out)
  have B14 : Hid (Below w.heap.size w w14) := Lib.hid (B13.out.trans (hb.mono (Nat.le_of_lt HA5.out)))
  have S14 : Hid (w13.heap.size ≤ w14.heap.size) := Lib.hid hb.size
  clear hb hT F13 G13 A13 K13 B13 D13 O13 X13 cX
  go_wp2_with fail
  refine (CMF.out _ w7.heap.size _ _ F14.out FL7.out (by have := S6.out; have := S7.out; have := S8.out; have := S9.out; have := S11.out; have := S12.out; have := S13.out; have := S14.out; omega)).mono ?_
  rintro r w15 ⟨rfl, hT, hb⟩
  have D15 : Hid (Below w5.heap.size w5 w15) := Lib.hid (D14.out.trans (hb.mono (by have := S6.out; omega)))
  have G15 := Lib.hid (G14.out.touch hT (fun x h1 h2 h3 => by omega))
  have K15 := Lib.hid (K14.out.touch hT (fun h3 => by have := S8a.out; omega))
  have A15 := Lib.hid (A14.out.below hb (by have := HA5.out; have := S6.out; omega))
  have B15 : Hid (Below w.heap.size w w15) := Lib.hid (B14.out.trans (hb.mono (by have := HA5.out; have := S6.out; omega)))
  have S15 : Hid (w14.heap.size ≤ w15.heap.size) := Lib.hid hb.size
  have hEm : ¬ (((E + 2 * m : Nat) : Int) < 0) := by omega
  clear hb hT F14 FL7 G14 K14 A14 B14 D14
  have VX15 := Lib.hid (VX.out.below D15.out VX.out.lt)
  have cK := K15.out.cell
  have cV := VX15.out.cell
  go_wp2_with fail
  refine (CQ.out _ _ _ G15.out.at (V.out.below D15.out)).mono ?_
  rintro r w16 ⟨rfl, hb⟩
  have A16 := Lib.hid (A15.out.below hb A15.out.lt)
  have K16 := Lib.hid (K15.out.below hb K15.out.lt)
  have G16 := Lib.hid (G15.out.below hb)
  have B16 := Lib.hid (below_step B15.out hb)
  have D16 := Lib.hid (below_step D15.out hb)
  have S16 : Hid (w15.heap.size ≤ w16.heap.size) := Lib.hid hb.size
  clear hb A15 G15 K15 B15 D15 hEm VX15 cK cV
  have cK := K16.out.cell
  go_wp2_with fail
  refine (CM.out w7.heap.size w8a.heap.size _ w16 G16.out (by have := S6.out; have := S7.out; have := S8a.out; have := S8.out; have := S9.out; have := S11.out; have := S12.out; have := S13.out; have := S14.out; have := S15.out; have := S16.out; omega) (by have := S6.out; have := S7.out; have := S8a.out; have := S8.out; have := S9.out; have := S11.out; have := S12.out; have := S13.out; have := S14.out; have := S15.out; have := S16.out; omega)).mono ?_
  rintro r w17 ⟨rfl, hG, hT, hb⟩
  have G17 := Lib.hid hG
  have hA7 : w.heap.size < w7.heap.size := by have := HA5.out; have := S6.out; have := S7.out; omega
  have A17 := Lib.hid (A16.out.below hb hA7)
  have K17 := Lib.hid (K16.out.touch hT (fun h3 => by have := h3.2; omega))
  have B17 : Hid (Below w.heap.size w w17) := Lib.hid (B16.out.trans (hb.mono (Nat.le_of_lt hA7)))
  have D17 : Hid (Below w5.heap.size w5 w17) := Lib.hid (D16.out.trans (hb.mono (by have := S6.out; have := S7.out; omega)))
  have hMp : ¬ (M : Int) < 0 := by omega
  have hMM : ((M : Int) != (M : Int)) = false := by simp
  clear hb hG hT A16 G16 K16 B16 D16 hA7 cK
  have cK := K17.out.cell
  go_wp2_with fail
  refine (CH.out _ _ _ _ G17.out).mono ?_
  rintro r w18 ⟨rfl, hb⟩
  have G18 := Lib.hid (G17.out.below hb)
  have A18 := Lib.hid (A17.out.below hb A17.out.lt)
  have K18 := Lib.hid (K17.out.below hb K17.out.lt)
  have B18 := Lib.hid (below_step B17.out hb)
  have D18 := Lib.hid (below_step D17.out hb)
  clear hb G17 A17 K17 B17 D17  cK
  have cA := A18.out.cell
  go_wp2_with fail
  refine (CT1.out _ B18.out).mono ?_
  rintro r w19 ⟨⟨u, rfl, hu⟩, hb⟩
  have U19 := Lib.hid hu.at
  obtain ⟨yaa, yac, huf, _, _⟩ := hu.at.cells
  rw [← HN.out] at huf
  subst huf
  clear hu
  have G19 := Lib.hid (G18.out.below hb)
  have K19 := Lib.hid (K18.out.below hb K18.out.lt)
  have B19 := Lib.hid (below_step B18.out hb)
  have D19 := Lib.hid (below_step D18.out hb)
  clear hb G18 K18 B18 D18 A18 cA
  go_wp2_with fail
  refine (CF1.out _ B19.out).mono ?_
  rintro r w20 ⟨⟨f20, rfl, hf⟩, hb⟩
  have F20 := Lib.hid hf.atoms
  clear hf
  have G20 := Lib.hid (G19.out.below hb)
  have U20 := Lib.hid (U19.out.below hb)
  have K20 := Lib.hid (K19.out.below hb K19.out.lt)
  have B20 := Lib.hid (below_step B19.out hb)
  have D20 := Lib.hid (below_step D19.out hb)
  clear hb G19 U19 K19 B19 D19  
  go_wp2_with fail
  refine (CI1.out _ _ _ U20.out F20.out).mono ?_
  rintro r w20a ⟨⟨hv, rfl, hg⟩, hb⟩
  have hH := hg.at
  obtain ⟨ha, hc, hf, _, _⟩ := hH.cells
  rw [← HRN.out] at hf
  subst hf
  obtain ⟨w21, hW⟩ : ∃ W, W = w20a.alloc (.cells #[.slice ha rn hc] 33) := ⟨_, rfl⟩
  have hbA : Below w20a.heap.size w20a w21 := by rw [hW]; exact below_al _ _
  have HX21 : Hid (BoxV w21 w20a.heap.size 33 (.slice ha rn hc)) := by rw [hW]; exact BoxV.new _ _ _
  have HW21 := Lib.hid hW
  have hb21 := below_step hb hbA
  have H21 := Lib.hid (hH.below hbA)
  have G21 := Lib.hid (G20.out.below hb21)
  have K21 := Lib.hid (K20.out.below hb21 K20.out.lt)
  have B21 := Lib.hid (below_step B20.out hb21)
  have D21 := Lib.hid (below_step D20.out hb21)
  have VX21 := Lib.hid (VX.out.below D21.out VX.out.lt)
  clear hb hg hH hb21 hbA hW U20 F20 G20 K20 B20 D20
  have cH := HX21.out.cell
  have cV := VX21.out.cell
  rw [HW21.out] at cH cV
  go_wp2_with fail
  rw [← HW21.out]
  refine (CQ.out _ _ w21 H21.out (V.out.below D21.out)).mono ?_
  rintro r w22 ⟨rfl, hb⟩
  have G22 := Lib.hid (G21.out.below hb)
  have K22 := Lib.hid (K21.out.below hb K21.out.lt)
  have B22 := Lib.hid (below_step B21.out hb)
  have D22 := Lib.hid (below_step D21.out hb)
  clear hb H21 HX21 G21 K21 B21 D21 VX21 cH cV HW21
  have cK := K22.out.cell
  go_wp2_with fail
  refine (CH.out _ _ _ _ G22.out).mono ?_
  rintro r w23 ⟨rfl, hb⟩
  have B23 := Lib.hid (below_step B22.out hb)
  have D23 := Lib.hid (below_step D22.out hb)
  clear hb  B22 D22  cK
  go_wp2
  go_ret
  exact ⟨rfl, B23.out⟩

/-! ### THE ROW's STEP -/
set_option maxRecDepth 100000 in
theorem contract (H : Type) (enc : TypeId × Value → H) (W : World) (base : Nat) (args : Array Value) (ds gs : List (DataW H)) (before : List MemPlace)
    (hval : ∀ (j : Nat) t v, Tryz.f5.params[j]? = some t → args[j]? = some v → Value.okWide Tryz.prog W .any base t v)
    (hW : DataW.Whole enc Tryz.prog Tryz.f5.params.toList Rows.fnExactExpandFoldsSpec.vars false W args.toList ds gs before) (hL : laidMetH Tryz.prog Rows.fnExactExpandFoldsRow.laid W) (hS : W.ShapedOpen Tryz.prog) :
    Calls Tryz.prog 5 args W fun e W' => ∃ v, e = .returned v ∧ Rows.fnExactExpandFoldsSpec.post enc Tryz.prog Tryz.f5 false true false false W args v W' := by
  have hW' := hW
  obtain ⟨p, q, hA0, hV, rfl, hfz, hnd⟩ := hW
  have hA : DataW.TrodAll enc Tryz.prog W 0 (fun _ => true) true Tryz.f5.params.toList args.toList ds p := hA0
  rw [Tryz.params5] at hA hval
  obtain ⟨v0, vs0, d0, ds0, p0, q0, hargs, rfl, rfl, h0, r0⟩ := trodAll_cons hA
  obtain ⟨v1, vs1, d1, ds1, p1, q1, rfl, rfl, rfl, h1, r1⟩ := trodAll_cons r0
  obtain ⟨rfl, rfl, rfl⟩ := trodAll_nil r1
  obtain rfl : args = #[v0, v1] := by cases args; simp_all
  obtain ⟨rfl, rfl⟩ := trodVars_none hV
  have k0 := h0
  have lt0 : ∀ x ∈ p0, x.block < W.heap.size := by obtain ⟨m, hm⟩ := k0; exact DataW.trod_lt m _ _ _ hm
  obtain ⟨u0, d0, rfl, w0⟩ := open_dictV Tryz.underlying24 (by kernel_rfl) (by kernel_rfl) ⟨rfl, rfl⟩ Tryz.underlying22 Tryz.underlying118 (by kernel_rfl) (by kernel_rfl) (by kernel_rfl) (by kernel_rfl) ⟨rfl, rfl⟩ ⟨rfl, rfl⟩ Tryz.underlying26 Tryz.underlying3 Tryz.underlying9 (hval 0 24 v0 rfl rfl) h0
  have k1 := h1
  have lt1 : ∀ x ∈ p1, x.block < W.heap.size := by obtain ⟨m, hm⟩ := k1; exact DataW.trod_lt m _ _ _ hm
  obtain ⟨a1, n1, c1, rfl⟩ := okWide_slice Tryz.underlying25 (hval 1 25 v1 rfl rfl)
  obtain ⟨e1, w1⟩ : ∃ es, AtomsIn W a1 n1 c1 es := by
    obtain ⟨fuel, hf⟩ := h1
    obtain ⟨a, n, c, es, hcs, hin⟩ := open_atoms Tryz.underlying25 Tryz.underlying69 (by kernel_rfl) (by kernel_rfl) (by kernel_rfl) ⟨rfl, rfl⟩ ⟨rfl, rfl⟩ Tryz.underlying3 Tryz.underlying9 hf
    simp [Value.cells] at hcs
    obtain ⟨rfl, rfl, rfl⟩ := hcs
    exact ⟨es, hin⟩
  clear hA0 hval
  refine (walk u0 d0 a1 n1 c1 e1 W hS  w0 w1).mono fun e W' ⟨he, bel⟩ => ?_
  subst he
  exact ⟨_, rfl, _, _, _, [], _, [], hW', trodAll_mk1 (shut_bool Tryz.underlying4 _), (trodAll_cons_mk (Below.trod laidOut (by kernel_rfl) (of_decide_eq_true (by kernel_rfl)) k0 bel lt0) (trodAll_cons_mk (Below.trod laidOut (by kernel_rfl) (of_decide_eq_true (by kernel_rfl)) k1 bel lt1) trodAll_mk0)), rfl, bel.frame _, fun h => by cases h⟩

theorem reads (os : Os) {H : Type} (enc : TypeId × Value → H) : ∃ places, DataW.whole enc Tryz.prog ((World.holding Tryz.prog os ⟨#[], #[], []⟩).forCall (fun _ _ => 0) ⟨#[], #[.agg #[.slice none 0 0], .slice none 0 0], []⟩).memory Tryz.f5.params.toList Rows.fnExactExpandFoldsSpec.vars false (#[.agg #[.slice none 0 0], .slice none 0 0] : Array Value).toList 8 = some ([.agg [.nil], .nil], [], places) :=
  ⟨[], by kernel_rfl⟩

set_option maxRecDepth 100000 in
theorem lifted (os : Os) (started : os.Started) (H : Type) (enc : TypeId × Value → H) (F : Stop.Interp) :
    ReturnsInHanded {} Tryz.checked os 5 .any ((OpenSpec.ofChange Rows.fnExactExpandFoldsSpec).preRow enc Tryz.prog Tryz.f5 Rows.fnExactExpandFoldsRow.domain false Rows.fnExactExpandFoldsRow.laid) (((OpenSpec.ofChange Rows.fnExactExpandFoldsSpec).at F).post enc Tryz.prog Tryz.f5 false true false false) := by
  obtain ⟨places, hx⟩ := reads os enc
  refine returnsInHanded_of_row (C := Tryz.checked) (s := OpenSpec.ofChange Rows.fnExactExpandFoldsSpec) own started (by kernel_rfl) Tryz.func5
    (witness_row_atRef (enc := enc) (C := Tryz.checked) false (World.holding Tryz.prog os ⟨#[], #[], []⟩) #[.agg #[.slice none 0 0], .slice none 0 0] rfl (by kernel_rfl) (by kernel_rfl) (by kernel_rfl)
      (OpenSpec.preRow_of_cond 8 hx (by kernel_rfl) (fun k hk => by cases hk) (by kernel_rfl) ⟨[], rfl, List.nodup_nil, fun b off h => by cases h⟩)) ?_
  intro W base args ds gs before hval hW _ _ _ hL hS _
  exact contract H enc W base args ds gs before hval hW hL hS

theorem said : Rows.FnExactExpandFoldsSaid :=
  OpenClaim.holds_of_cond 5 Tryz.f5 rfl rfl rfl rfl rfl rfl rfl ⟨rfl, rfl, rfl, rfl, rfl⟩ rfl rfl rfl rfl rfl (by kernel_rfl) Tryz.func5 (by kernel_rfl)
    (of_decide_eq_true (by kernel_rfl)) (by unfold Func.isWrapper; first | (rw [if_pos (by decide +kernel)]; kernel_rfl) | (rw [if_neg (by decide +kernel)]; exact ⟨rfl, rfl⟩))
    (fun os started H enc _ F => by rw [OpenClaim.pre_eq_preRow]; exact lifted os started H enc F)

theorem proved : Rows.FnExactExpandFoldsSaid := said
#print axioms proved
end Go.Proofs.YtjmiackiikbodaaGreat.fnExactExpandFolds
