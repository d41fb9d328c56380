/-
  CONTRACTS of chapter 6: ParseDictionary of the program.
-/
import Derived.Test.YthigdblloddepaaDictL
import Derived.Deep.AppendLies
import Derived.Test.YthigdblloddepaaDictC
import Derived.Test.YthigdblloddepaaImpl5D
import Derived.Test.YthigdblloddepaaShelf
import Derived.Lib.IndexLaws
import Derived.Test.YthigdblloddepaaMix
import Derived.Test.YthigdblloddepaaImpl6E
namespace Go.Proofs.Ythigdblloddepaa
set_option maxRecDepth 100000
open Go.RowKit

theorem OwnInts.congr {w : World} {base : Nat} {v : Value} {n : Nat} {f f' : Nat → Int} (h : OwnInts w base v n f) (hf : ∀ j, j < n → f j = f' j) : OwnInts w base v n f' := by
  rcases h with h | ⟨g, cap, hv, hn, hg, h0, hlt, hc, hz⟩
  · exact .inl h
  · exact .inr ⟨g, cap, hv, hn, hg, h0, hlt, fun j hj => by rw [hc j hj, hf j hj], hz⟩
theorem endE_take (m : Nat) (es : List Ent) : ∀ k, endE m (es.take k) ≤ endE m es := by
  induction es generalizing m with
  | nil => intro k; rw [List.take_nil]; exact Nat.le_refl _
  | cons e r ih =>
    intro k
    cases k with
    | zero =>
      have : ∀ (m : Nat) (l : List Ent), m ≤ endE m l := by
        intro m l
        induction l generalizing m with
        | nil => exact Nat.le_refl _
        | cons x l ih => exact Nat.le_trans (by omega) (ih (m + x.1.length + 1))
      exact this m (e :: r)
    | succ k => exact ih (m + e.1.length + 1) k
theorem mkE_at {m : Nat} {es : List Ent} {k : Nat} {e : Ent} (h : es[k]? = some e) : (mkE m es)[k]? = some (mkEnt (endE m (es.take k)) e) := by
  induction es generalizing m k with
  | nil => simp at h
  | cons x r ih =>
    cases k with
    | zero => simp at h; subst h; rfl
    | succ k => exact ih (m := m + x.1.length + 1) (by simpa using h)
theorem mkEnt_get (m : Nat) (e : Ent) (i : Nat) (h : i < e.1.length) : (mkEnt m e).1.getD i 0 = ((m + i : Nat) : Int) := by
  unfold mkEnt
  simp [List.getD, h]
theorem below_ofTouch {w w' : World} {base : Nat} (h : Below base w w') : Below base w w' := h
set_option maxHeartbeats 2000000 in
theorem markEs_any (base S : Nat) (v : Value) (es : List Ent) (w : World) (h : OwnEs w base S v es) (hm : endE 1 es ≤ 1100000) (hn : es.length ≤ 1100000) (_hS : S ≤ w.heap.size) (hx : ∀ e ∈ es, e.1.length ≤ 1100000) :
    Calls Try.prog 41 #[v, .int .i64 1] w fun r w' => r = .returned (.int .i64 (endE 1 es : Int)) ∧ OwnEs w' base S v (mkE 1 es) ∧ Touch (fun b => base ≤ b ∧ b < S) w w' ∧ Below base w w' := by
  rcases h with ⟨rfl, a, cap, rfl⟩ | ⟨g, cap, U, rfl, hcap, h0, hG⟩
  · go_enter Try.func41, Try.ntmps41
    go_wp2
    refine wp_loop_rounds 1 ?_
    rw [rounds_succ]
    go_wp2
    go_ret
    exact ⟨rfl, .inl ⟨rfl, _, _, rfl⟩, Touch.refl _ _, Below.refl _ _⟩
  · have HE := Lib.hid (fun k => Nat.le_trans (endE_take 1 es k) hm)
    have HX := Lib.hid (fun k e (h : es[k]? = some e) => hx e (List.mem_of_getElem? h))
    have CM := Lib.hid (fun m0 u n f w h hn hm => markI_t base m0 u n f w h hn hm)
    have CT := Lib.hid (fun k h0 h1 w => markText_any k h0 h1 w)
    have HG0 : Hid (EntsG w base S g U (midE 1 0 es)) := by rw [midE_zero]; exact hG
    have HAll : Hid (midE 1 es.length es = mkE 1 es) := midE_all 1 es
    have HEnd : Hid (endE 1 (es.take es.length) = endE 1 es) := by show endE 1 _ = _; rw [List.take_length]
    have HLen : Hid ((mkE 1 es).length = es.length) := mkE_len 1 es
    have hbg := hG.low
    have hgS := hG.high
    obtain ⟨n, hnn⟩ : ∃ n, n = es.length := ⟨_, rfl⟩
    rw [← hnn] at hcap h0 hn HAll HEnd HLen ⊢
    have HN := Lib.hid hnn
    have hge : ∀ k, 1 ≤ endE 1 (es.take k) := fun k => endE_take 1 (es.take k) 0
    have HGe := Lib.hid hge
    clear hG hnn hm hx hge
    go_enter Try.func41, Try.ntmps41
    go_wp2_with fail
    go_loopw [1, 5] (fun m i wr => ∃ k M : Nat, k ≤ n ∧ i = .int .i64 k ∧ m = .int .i64 (M : Int) ∧ Hid (M = endE 1 (es.take k)) ∧ Hid (EntsG wr base S g U (midE 1 k es)) ∧ Hid (Touch (fun b => base ≤ b ∧ b < S) w wr) ∧ Hid (Below base w wr)) (fun _ i _ => n - (intOf i).toNat)
    case atStart => exact ⟨0, 1, Nat.zero_le _, rfl, rfl, Lib.hid rfl, HG0, Touch.refl _ _, Below.refl _ _⟩
    case round =>
      obtain ⟨k, M, hk, rfl, rfl, HM, HG, HT, HB⟩ := hrel
      by_cases hlt : k < n
      · obtain ⟨e, he⟩ : ∃ e, es[k]? = some e := ⟨_, List.getElem?_eq_getElem (by rw [← HN.out]; exact hlt)⟩
        have hmid := midE_at (m := 1) he
        obtain ⟨g0, g1⟩ := HG.out.cell k e hmid
        have hou : OwnInts wr base (U k) e.1.length (fun i => e.1.getD i 0) := HG.out.each.own k e.1 (by rw [List.getElem?_map, hmid]; rfl)
        have hbe := HX.out k e he
        have hnx := endE_next (m := 1) he
        rw [← HM.out] at hnx
        have hM1 : 1 ≤ M := by rw [HM.out]; exact HGe.out k
        have hM2 : M + e.1.length + 1 ≤ 1100000 := by rw [← hnx]; exact HE.out (k + 1)
        have HNx := Lib.hid hnx
        have HMid : Hid (midE 1 (k + 1) es = (midE 1 k es).set k (mkEnt M e)) := by show midE _ _ _ = _; rw [midE_next he, HM.out]
        have hlow : 0 < e.1.length → ∀ b, (U k).ownBlock = some b → base ≤ b ∧ b < S := fun h0 b hb' => ⟨hou.ge h0 hb', (HG.out.each.low k e.1 (by rw [List.getElem?_map, hmid]; rfl) h0 b hb').1⟩
        have hng : 0 < e.1.length → ∀ b, (U k).ownBlock = some b → b ≠ g := fun h0 b hb' => (HG.out.each.low k e.1 (by rw [List.getElem?_map, hmid]; rfl) h0 b hb').2
        have C1 := Lib.hid (CM.out M (U k) e.1.length _ wr hou (by omega) (by omega))
        have C2 := Lib.hid (fun w => CT.out (M + e.1.length) (by omega) (by omega) w)
        obtain ⟨ua, uc, hUf⟩ := hou.form
        have HUf := Lib.hid hUf
        have HHe := Lib.hid hmid
        have HLo := Lib.hid hlow
        have HNg := Lib.hid hng
        have hgl : g < wr.heap.size := Nat.lt_of_lt_of_le hgS HG.out.size
        obtain ⟨L, hL⟩ : ∃ L, L = e.1.length := ⟨_, rfl⟩
        rw [← hL] at hM2
        have C1' := C1.out
        have C2' := C2.out
        rw [hUf, ← hL] at C1'
        rw [← hL] at C2' hUf
        rw [hUf] at g0
        have D1 := Lib.hid C1'
        have D2 := Lib.hid C2'
        have HL := Lib.hid hL
        clear C1 C2 C1' C2' hou he hmid hnx hlow hng hUf hL hbe
        rw [← HL.out] at HUf HLo HNg HNx
        go_wp2_with fail
        refine D1.out.mono ?_
        rintro r w1 ⟨rfl, hO1, hT1, hb1⟩
        have HO1 : Hid (OwnInts w1 base (U k) L (fun j => ((M + j : Nat) : Int))) := by rw [HUf.out]; exact hO1
        have HT1 : Hid (Touch (fun b => 0 < L ∧ (U k).ownBlock = some b) wr w1) := by rw [HUf.out]; exact hT1
        have HB1 := Lib.hid hb1
        clear hO1 hT1 hb1 D1
        go_wp2_with fail
        refine (D2.out w1).mono ?_
        rintro r w2 ⟨rfl, hb2⟩
        have hgT : ¬ (0 < L ∧ (U k).ownBlock = some g) := fun ⟨h0, h1⟩ => HNg.out h0 g h1 rfl
        have hcf : ∀ j, w2.cell? ⟨g, j, none⟩ = wr.cell? ⟨g, j, none⟩ ∧ w2.frozen? ⟨g, j, none⟩ = wr.frozen? ⟨g, j, none⟩ := by
          intro j
          have hg1 : g < w1.heap.size := Nat.lt_of_lt_of_le hgl HT1.out.1
          exact ⟨(hb2.cell (p := ⟨g, j, none⟩) hg1).trans ((HT1.out.cf j hgl hgT).1), (hb2.frozen (p := ⟨g, j, none⟩) hg1).trans ((HT1.out.cf j hgl hgT).2)⟩
        have s1 : w2.cell? ⟨g, k * 2 + 1, none⟩ = some (.string e.2) := (hcf _).1.trans g1
        have sf : w2.frozen? ⟨g, k * 2 + 1, none⟩ = false := (hcf _).2.trans (HG.out.thaw _)
        have hT2 : Touch (fun b => b = g ∨ (0 < L ∧ (U k).ownBlock = some b)) wr (w2.setCell ⟨g, k * 2 + 1, none⟩ (.string (markB (M + L)))) :=
          ((HT1.out.mono (fun b h => .inr h)).below hb2).setCell (.inl rfl) _ _
        have HG2 : Hid (EntsG (w2.setCell ⟨g, k * 2 + 1, none⟩ (.string (markB (M + L)))) base S g U (midE 1 (k + 1) es)) := by
          rw [HMid.out]
          refine HG.out.set HHe.out (mkEnt_len M e) ?_ (by rw [← HL.out]; exact hT2) (fun j => by rw [World.frozen?_setCell]; exact (hcf j).2.trans (HG.out.thaw j)) (fun j hj => ?_) ?_
          · rw [mkEnt_len, ← HL.out]
            refine OwnInts.congr ((HO1.out.below hb2).touch (T := fun b => b = g) ((Touch.refl (fun b => b = g) _).setCell rfl _ _) (fun h0 b hb' e => HNg.out h0 b hb' e)) fun j hj => ?_
            rw [mkEnt_get M e j (by rw [← HL.out]; exact hj)]
          · rw [World.cell?_setCell_other _ _ _ _ (by intro e; injection e; omega)]; exact (hcf j).1
          · show _ = some (Value.string (markB (M + e.1.length)))
            rw [← HL.out]; exact World.cell?_setCell_same _ _ _ s1
        have HT2 : Hid (Touch (fun b => base ≤ b ∧ b < S) w (w2.setCell ⟨g, k * 2 + 1, none⟩ (.string (markB (M + L))))) :=
          HT.out.trans (hT2.mono (fun b hb' => hb'.elim (fun e => by subst e; exact ⟨hbg, hgS⟩) (fun h => HLo.out h.1 b h.2)))
        have hsz := HB.out.size
        have HB2 : Hid (Below base w (w2.setCell ⟨g, k * 2 + 1, none⟩ (.string (markB (M + L))))) := by
          have hb02 : Below base wr w2 := HB1.out.trans (hb2.mono (Nat.le_trans (Nat.le_trans hbg (Nat.le_of_lt hgl)) HB1.out.size))
          exact (HB.out.trans hb02).setCell (p := ⟨g, k * 2 + 1, none⟩) hbg _
        clear hb2 hcf hT2 hgT HO1 HT1 HB1 HT HB HG D2
        go_wp2
        go_roundw
        case rel => exact ⟨k + 1, M + L + 1, by omega, by go_num, by go_num, HNx.out.symm, HG2, HT2, HB2⟩
        case measure => simp [intOf]; omega
      · obtain rfl : k = n := by omega
        have hM : M = endE 1 es := by rw [HM.out, HEnd.out]
        have HGf : Hid (EntsG wr base S g U (mkE 1 es)) := by rw [← HAll.out]; exact HG.out
        have HO : Hid (OwnEs wr base S (.slice (some ⟨g, 0, none⟩) k cap) (mkE 1 es)) := .inr ⟨g, cap, U, by rw [HLen.out], by rw [HLen.out]; exact hcap, by rw [HLen.out]; exact h0, HGf.out⟩
        have HMM := Lib.hid hM
        clear HG HGf HM hM
        go_wp2
        go_ret
        exact ⟨ret_int (by rw [HMM.out]), HO.out, HT.out, HB.out⟩
theorem markD_any (base S : Nat) (v : Value) (es : List Ent) (w : World) (h : OwnEs w base S v es) (hm : endE 1 es ≤ 1100000) (hn : es.length ≤ 1100000) (hS : S ≤ w.heap.size) (hbase : base ≤ w.heap.size) (hx : ∀ e ∈ es, e.1.length ≤ 1100000) :
    Calls Try.prog 19 #[dV v, .int .i64 1] w fun r w' => r = .returned (.int .i64 (endE 1 es : Int)) ∧ OwnEs w' base S v (mkE 1 es) ∧ Touch (fun b => base ≤ b ∧ b < S) w w' ∧ Below base w w' := by
  have C := Lib.hid (fun w' hb hS' => markEs_any base S v es w' (h.below (w' := w') hb) hm hn hS' hx)
  obtain ⟨a, cap, rfl, _, _⟩ := h.at.cells
  clear h hm hn hx
  unfold dV
  go_enter Try.func19, Try.ntmps19
  go_wp2_with fail
  refine (C.out _ (below_al _ _) (by simp; omega)).mono ?_
  rintro r w1 ⟨rfl, hO, hT, hb⟩
  have HO := Lib.hid hO
  have HT : Hid (Touch (fun b => base ≤ b ∧ b < S) w w1) := ((Touch.refl _ w).alloc _).trans hT
  have HB : Hid (Below base w w1) := ((below_al w _).mono hbase).trans hb
  clear hO hT hb C
  go_wp2
  go_ret
  exact ⟨rfl, HO.out, HT.out, HB.out⟩
end Go.Proofs.Ythigdblloddepaa

namespace Go.Proofs.Ythigdblloddepaa
set_option maxRecDepth 100000
open Go.RowKit

structure RowX (w : World) (base : Nat) (v : Value) (us : List (Value × Ent)) : Prop where
  row : w.ownsRow base 87 2 v us.length (enCells us)
  own : ∀ (j : Nat) (p : Value × Ent), us[j]? = some p → OwnInts w base p.1 p.2.1.length (fun i => p.2.1.getD i 0)
  off : ∀ (j : Nat) (p : Value × Ent), us[j]? = some p → 0 < p.2.1.length → ∀ b, p.1.ownBlock = some b → v.ownBlock ≠ some b
  apart : ∀ (i j : Nat) (p q : Value × Ent), us[i]? = some p → us[j]? = some q → i ≠ j → 0 < p.2.1.length → 0 < q.2.1.length → p.1.ownBlock ≠ q.1.ownBlock
theorem RowX.nil (w : World) (base : Nat) : RowX w base (.slice none 0 0) [] := ⟨World.ownsRow_nil _ _ _ _, fun j p h => by simp at h, fun j p h => by simp at h, fun i j p q h => by simp at h⟩
theorem RowX.below {w w' : World} {base : Nat} {v : Value} {us : List (Value × Ent)} (h : RowX w base v us) (hb : Below w.heap.size w w') : RowX w' base v us :=
  ⟨row_below h.row hb, fun j p hj => (h.own j p hj).below hb, h.off, h.apart⟩
theorem RowX.mono {w : World} {b b' : Nat} {v : Value} {us : List (Value × Ent)} (h : RowX w b v us) (hb : b' ≤ b) : RowX w b' v us :=
  ⟨ownsRow_mono h.row hb, fun j p hj => (h.own j p hj).mono hb, h.off, h.apart⟩
theorem RowX.form {w : World} {base : Nat} {v : Value} {us : List (Value × Ent)} (h : RowX w base v us) : ∃ a c, v = .slice a us.length c := by
  rcases h.row.2 with ⟨rfl, h0⟩ | ⟨g, cap, cur, rfl, _⟩
  · exact ⟨_, _, by rw [h0]⟩
  · exact ⟨_, _, rfl⟩
/-- A cell of an older block is set. -/
theorem RowX.setCell {w : World} {base : Nat} {v : Value} {us : List (Value × Ent)} (h : RowX w base v us) {B o : Nat} {x : Value} (hB : B < base) : RowX (w.setCell ⟨B, o, none⟩ x) base v us := by
  have hg : w.grownBy (w.setCell ⟨B, o, none⟩ x) (some B) := grown_setC w B o x
  have hrow : v.ownBlock = none ∨ v.ownBlock ≠ some B := by
    cases hv : v.ownBlock with
    | none => exact .inl rfl
    | some k => right; intro e; injection e with e; have := (h.row.lt k hv).1; omega
  exact ⟨h.row.kept hg hrow, fun j p hj => (h.own j p hj).other hB, h.off, h.apart⟩
theorem RowX.own' {w : World} {base : Nat} {v : Value} {us : List (Value × Ent)} (h : RowX w base v us) : OwnEs w base w.heap.size v (us.map (·.2)) := by
  have hlen : (us.map (·.2)).length = us.length := List.length_map _
  rcases h.row.2 with ⟨rfl, h0⟩ | ⟨g, cap, cur, rfl, hbg, hg, hn, hcm, hsz, htake⟩
  · have : us = [] := List.length_eq_zero_iff.1 h0
    subst this
    exact .inl ⟨rfl, _, _, rfl⟩
  · rcases Nat.eq_zero_or_pos us.length with h0 | h0
    · have : us = [] := List.length_eq_zero_iff.1 h0
      subst this
      exact .inl ⟨rfl, _, _, rfl⟩
    · have hlt : g < w.heap.size := (Array.getElem?_eq_some_iff.1 hg).1
      have hU : ∀ (j : Nat) e, (us.map (·.2))[j]? = some e → ∃ p, us[j]? = some p ∧ p.2 = e ∧ (us.map (·.1)).getD j .nilIface = p.1 := by
        intro j xs hj
        rw [List.getElem?_map] at hj
        obtain ⟨p, hp, rfl⟩ := Option.map_eq_some_iff.1 hj
        exact ⟨p, hp, rfl, by simp [List.getD, hp]⟩
      have hU1 : ∀ (j : Nat) xs, ((us.map (·.2)).map (·.1))[j]? = some xs → ∃ p, us[j]? = some p ∧ p.2.1 = xs ∧ (us.map (·.1)).getD j .nilIface = p.1 := by
        intro j xs hj
        rw [List.getElem?_map] at hj
        obtain ⟨e, he, rfl⟩ := Option.map_eq_some_iff.1 hj
        obtain ⟨p, hp, rfl, q⟩ := hU j e he
        exact ⟨p, hp, rfl, q⟩
      have hcell : ∀ (i : Nat) x, (enCells us)[i]? = some x → i < us.length * 2 → w.cell? ⟨g, i, none⟩ = some x := by
        intro i x hx hi
        rw [← htake, List.getElem?_take_of_lt hi] at hx
        simp only [Array.getElem?_toList] at hx
        simp [World.cell?, hg, hx]
      refine .inr ⟨g, cap, fun j => (us.map (·.1)).getD j .nilIface, by rw [hlen], by rw [hlen]; exact hn, by rw [hlen]; exact h0, ⟨hbg, hlt, Nat.le_refl _, fun j => by simp [World.frozen?, hg], fun j e hj => ?_, ⟨fun j xs hj => ?_, fun j xs hj hx b hb => ?_, fun i j xs ys hi hj hij hx hy => ?_⟩⟩⟩
      · obtain ⟨p, hp, rfl, e⟩ := hU j e hj
        have hjl := (List.getElem?_eq_some_iff.1 hp).1
        obtain ⟨q0, q1⟩ := enCells_at us j p hp
        rw [e]
        exact ⟨hcell _ _ q0 (by omega), hcell _ _ q1 (by omega)⟩
      · obtain ⟨p, hp, rfl, e⟩ := hU1 j xs hj
        simp only [e]; exact h.own j p hp
      · obtain ⟨p, hp, rfl, e⟩ := hU1 j xs hj
        simp only [e] at hb
        refine ⟨(h.own j p hp).lt hx b hb, fun q => ?_⟩
        have := h.off j p hp hx b hb
        rw [q] at this
        exact this rfl
      · obtain ⟨p, hp, rfl, e⟩ := hU1 i xs hi
        obtain ⟨p', hp', rfl, e'⟩ := hU1 j ys hj
        simp only [e, e']
        exact h.apart i j p p' hp hp' hij hx hy
/-- One entry appended, at the operation; the row is told in an older world. -/
theorem wp_entX {o : Oper} {a : Act} {w w0 : World} {K : Act → World → Prop} {Q : Exit → Act → World → Prop}
    (p q : Operand) (ho : o.op = .call { callee := .builtin .append, args := #[p, q], argTypes := #[31, 31] }) (base : Nat) (v : Value) (us : List (Value × Ent)) (hs : a.eval p = v) (R : RowX w0 base v us) (hbw : Below w0.heap.size w0 w)
    (u : Value) (e : Ent) (hu : OwnInts w w0.heap.size u e.1.length (fun i => e.1.getD i 0)) (hq : a.eval q = .slice (some ⟨w.heap.size, 0, none⟩) 1 1) (hb : base ≤ w0.heap.size) (h1 : us.length ≤ 1048576)
    (h : ∀ v' w', RowX w' base v' (us ++ [(u, e)]) → (w.alloc (.cells #[u, .string e.2] 87)).grownBy w' v.ownBlock → K (a.put o.dst v') w') :
    Oper.wp Try.prog o a (w.alloc (.cells #[u, .string e.2] 87)) K Q := by
  obtain ⟨i0, hi, hz0, hz1, hz2⟩ := info_parts infoEn
  have hsz := hbw.size
  have R1 := R.below hbw
  have hvl : ∀ b, v.ownBlock = some b → b < w0.heap.size := fun b hb' => (R.row.lt b hb').2
  refine wp_append_lies _ p q 31 ho base 87 i0 (.agg #[.slice none 0 0, .string ByteArray.empty]) 2 40 Try.underlying31 hi hz0 hz1 hz2 rfl (by decide) v us.length _ hs (R1.row.alloc _) ⟨w.heap.size, 0, none⟩ 1 1 [u, .string e.2] hq rfl (cell_two _ _ _ _) ?_ (by decide) (by unfold maxLen; omega) (by omega) (by simp; omega) (w.heap.size + 1) (by simp) ?_
  · intro y hy; simp at hy; rcases hy with rfl | rfl
    · rcases hu with ⟨_, a', c', rfl⟩ | ⟨g, c', rfl, _⟩ <;> rfl
    · rfl
  · intro g cap w' hown hg hat _
    have ht : Touch (fun b => v.ownBlock = some b) w w' := ((Touch.refl _ w).alloc _).trans (Touch.grown hg fun k e => e)
    have hnew : ∀ b, 0 < e.1.length → u.ownBlock = some b → w0.heap.size ≤ b ∧ b < w.heap.size := fun b h0 hb' => ⟨hu.ge h0 hb', hu.lt h0 b hb'⟩
    have hold : ∀ (j : Nat) (p : Value × Ent), us[j]? = some p → 0 < p.2.1.length → ∀ b, p.1.ownBlock = some b → b < w0.heap.size := fun j p hj h0 b hb' => (R.own j p hj).lt h0 b hb'
    have hat' : (Value.slice (some ⟨g, 0, none⟩) (us.length + 1) cap).ownBlock = v.ownBlock ∨ (Value.slice (some ⟨g, 0, none⟩) (us.length + 1) cap).ownBlock = some (w.heap.size + 1) := by
      rcases hat with h2 | h2
      · exact .inl h2.symm
      · exact .inr (by rw [h2]; rfl)
    have hget : ∀ (j : Nat) (x : Value × Ent), (us ++ [(u, e)])[j]? = some x → (j = us.length ∧ x = (u, e)) ∨ (j < us.length ∧ us[j]? = some x) := by
      intro j x hj
      rcases Nat.lt_or_ge j us.length with hl | hl
      · rw [List.getElem?_append_left hl] at hj; exact .inr ⟨hl, hj⟩
      · rw [List.getElem?_append_right hl] at hj
        have : j - us.length = 0 := by
          rcases Nat.eq_zero_or_pos (j - us.length) with h0 | h0
          · exact h0
          · rw [List.getElem?_eq_none (by simp; omega)] at hj; cases hj
        rw [this] at hj
        exact .inl ⟨by omega, by simpa using hj.symm⟩
    refine h _ w' ⟨?_, fun j p hj => ?_, fun j p hj h0 b hb' => ?_, fun i j p q hi hj hij h0 h1 => ?_⟩ hg
    · show World.ownsRow _ _ _ _ _ _ _
      rw [enCells_snoc, List.length_append]; exact hown
    · rcases hget j p hj with ⟨rfl, rfl⟩ | ⟨hl, hj⟩
      · refine (hu.touch ht fun h0 b hb' e => ?_).mono hb
        have := hnew b h0 hb'
        have := hvl b e
        omega
      · exact (R1.own j p hj).touch ht fun h0 b hb' e => R.off j p hj h0 b hb' e
    · rcases hget j p hj with ⟨rfl, rfl⟩ | ⟨hl, hj⟩
      · have h3 := hnew b h0 hb'
        rcases hat' with h2 | h2
        · rw [h2]; intro e; have := hvl b e; omega
        · rw [h2]; intro e; injection e with e; omega
      · rcases hat' with h2 | h2
        · rw [h2]; exact R.off j p hj h0 b hb'
        · rw [h2]; intro e; injection e with e; have := hold j p hj h0 b hb'; omega
    · have key : ∀ (j : Nat) (q : Value × Ent), us[j]? = some q → 0 < q.2.1.length → 0 < e.1.length → u.ownBlock ≠ q.1.ownBlock := by
        intro j q hj h1 h0 e
        cases hu' : u.ownBlock with
        | none =>
          rcases hu with ⟨hz, _⟩ | ⟨g', cap, rfl, _⟩
          · omega
          · simp [Value.ownBlock] at hu'
        | some b =>
          have h2 := hnew b h0 hu'
          have h3 := hold j q hj h1 b (by rw [← e, hu'])
          omega
      rcases hget i p hi with ⟨rfl, rfl⟩ | ⟨hl, hi⟩
      · rcases hget j q hj with ⟨rfl, rfl⟩ | ⟨hl', hj⟩
        · exact absurd rfl hij
        · exact key j q hj h1 h0
      · rcases hget j q hj with ⟨rfl, rfl⟩ | ⟨hl', hj⟩
        · exact fun e => key i p hi h0 h1 e.symm
        · exact R.apart i j p q hi hj hij h0 h1
/-- .. at a plain list. -/
theorem push_entX {ops : Array Oper} {rest : List Oper} {o : Oper} {a : Act} {w w0 : World} {Q : Exit → Act → World → Prop} (hgd : o.guard = none)
    (p q : Operand) (ho : o.op = .call { callee := .builtin .append, args := #[p, q], argTypes := #[31, 31] }) (base : Nat) (v : Value) (us : List (Value × Ent)) (hs : a.eval p = v) (R : RowX w0 base v us) (hbw : Below w0.heap.size w0 w)
    (u : Value) (e : Ent) (hu : OwnInts w w0.heap.size u e.1.length (fun i => e.1.getD i 0)) (hq : a.eval q = .slice (some ⟨w.heap.size, 0, none⟩) 1 1) (hb : base ≤ w0.heap.size) (h1 : us.length ≤ 1048576)
    (h : ∀ v' w', RowX w' base v' (us ++ [(u, e)]) → (w.alloc (.cells #[u, .string e.2] 87)).grownBy w' v.ownBlock → wpList Try.prog ops Q rest (a.put o.dst v') w') :
    wpList Try.prog ops Q (o :: rest) a (w.alloc (.cells #[u, .string e.2] 87)) :=
  wpList_plain hgd fun _ hK => wp_entX p q ho base v us hs R hbw u e hu hq hb h1 fun v' w' x y => hK _ _ (h v' w' x y)
end Go.Proofs.Ythigdblloddepaa

namespace Go.Proofs.Ythigdblloddepaa
set_option maxRecDepth 100000
open Go.RowKit

/-- What FormatDictionary answers. -/
def fmtDB (es : List Ent) : Bool := okD es && decide ((dicT es).size ≤ 4000)
def fmtDS (es : List Ent) : ByteArray := if fmtDB es = true then dicT es else ⟨#[]⟩
def fmtDE (es : List Ent) : Ending := .returned (.tuple #[.string (fmtDS es), .bool (fmtDB es)])
theorem fmtDE_no {es : List Ent} (h : fmtDB es = false) : fmtDE es = .returned (.tuple #[.string ⟨#[]⟩, .bool false]) := by unfold fmtDE fmtDS; rw [h]; rfl
theorem fmtDE_yes {es : List Ent} (h : fmtDB es = true) : fmtDE es = .returned (.tuple #[.string (dicT es), .bool true]) := by unfold fmtDE fmtDS; rw [h]; rfl
theorem fmtDB_bad {es : List Ent} (h : okD es = false) : fmtDB es = false := by unfold fmtDB; rw [h]; rfl
theorem fmtDB_big {es : List Ent} (h : 4000 < (dicT es).size) : fmtDB es = false := by unfold fmtDB; rw [decide_eq_false (by omega), Bool.and_false]
theorem fmtDB_ok {es : List Ent} (h : okD es = true) (h2 : (dicT es).size ≤ 4000) : fmtDB es = true := by unfold fmtDB; rw [h, decide_eq_true h2]; rfl
theorem dicT_size {es : List Ent} (h : ∀ e ∈ es, okE e = true) : (dicT es).size ≤ 212 * es.length := by
  have key : ∀ k, k ≤ es.length → (dicT (es.take k)).size ≤ 212 * k := by
    intro k
    induction k with
    | zero => intro _; exact Nat.le_refl _
    | succ k ih =>
      intro hk
      obtain ⟨e, he⟩ : ∃ e, es[k]? = some e := ⟨_, List.getElem?_eq_getElem (by omega)⟩
      have h1 := ih (by omega)
      have h2 := lineT_size (h e (List.mem_of_getElem? he))
      have h3 := dicT_next he
      rw [← h3]
      unfold lineT at h2
      simp only [ByteArray.size_append] at h2 ⊢
      omega
  have := key es.length (Nat.le_refl _)
  rwa [List.take_length] at this
end Go.Proofs.Ythigdblloddepaa

namespace Go.Proofs.Ythigdblloddepaa
set_option maxRecDepth 100000
open Go.RowKit

namespace Pl
set_option maxRecDepth 100000
/-- What stands ahead of the first byte c, behind it. -/
def headC (c : UInt8) (l : List UInt8) : List UInt8 := l.takeWhile (fun x => x != c)
def tailC (c : UInt8) (l : List UInt8) : List UInt8 := (l.dropWhile (fun x => x != c)).drop 1
theorem cut_no {c : UInt8} : ∀ {l : List UInt8}, c ∉ l → headC c l = l ∧ tailC c l = []
  | [], _ => ⟨rfl, rfl⟩
  | x :: l, h => by
    rw [List.mem_cons, not_or] at h
    obtain ⟨h1, h2⟩ := cut_no h.2
    have hx : (x != c) = true := by simp; exact fun e => h.1 e.symm
    unfold headC tailC at *
    rw [List.takeWhile_cons, List.dropWhile_cons, hx]
    exact ⟨by rw [if_pos rfl, h1], by rw [if_pos rfl]; exact h2⟩
theorem cut_yes {c : UInt8} : ∀ {l : List UInt8}, c ∈ l → l = headC c l ++ c :: tailC c l ∧ c ∉ headC c l
  | [], h => by simp at h
  | x :: l, h => by
    unfold headC tailC
    rw [List.takeWhile_cons, List.dropWhile_cons]
    by_cases hx : x = c
    · subst hx
      simp
    · have hx' : (x != c) = true := by simp; exact hx
      rw [hx', if_pos rfl, if_pos rfl]
      have hm : c ∈ l := by
        rcases List.mem_cons.1 h with e | h
        · exact absurd e.symm hx
        · exact h
      obtain ⟨h1, h2⟩ := cut_yes hm
      unfold headC tailC at h1
      unfold headC at h2
      refine ⟨by rw [List.cons_append, ← h1], fun q => ?_⟩
      rcases List.mem_cons.1 q with e | q
      · exact hx e.symm
      · exact h2 q
theorem cut_mid {c : UInt8} {a b : List UInt8} (h : c ∉ a) : headC c (a ++ c :: b) = a ∧ tailC c (a ++ c :: b) = b := by
  induction a with
  | nil => unfold headC tailC; simp
  | cons x a ih =>
    rw [List.mem_cons, not_or] at h
    obtain ⟨h1, h2⟩ := ih h.2
    have hx : (x != c) = true := by simp; exact fun e => h.1 e.symm
    unfold headC tailC at *
    rw [List.cons_append, List.takeWhile_cons, List.dropWhile_cons, hx, if_pos rfl, if_pos rfl, h1]
    exact ⟨rfl, h2⟩
theorem split_head (c : UInt8) (l : List UInt8) : ∃ r, split c l = headC c l :: r := by
  by_cases h : c ∈ l
  · obtain ⟨h1, h2⟩ := cut_yes h
    refine ⟨split c (tailC c l), ?_⟩
    have := split_mid c (tailC c l) (headC c l) h2
    rwa [← h1] at this
  · rw [split_end c l h, (cut_no h).1]; exact ⟨[], rfl⟩
/-- The parts put together again, the byte 10 behind each but the last. -/
def flat : List (List UInt8) → List UInt8
  | [] => []
  | [p] => p
  | p :: q :: r => p ++ 10 :: flat (q :: r)
theorem flat_split : ∀ l : List UInt8, flat (split 10 l) = l
  | [] => rfl
  | c :: l => by
    have ih := flat_split l
    unfold split
    by_cases hc : c = 10
    · rw [if_pos hc]
      cases hs : split 10 l with
      | nil => exact absurd hs (split_ne_nil 10 l)
      | cons q r =>
        rw [hs] at ih
        show [] ++ 10 :: flat (q :: r) = c :: l
        rw [ih, hc]; rfl
    · rw [if_neg hc]
      cases hs : split 10 l with
      | nil => exact absurd hs (split_ne_nil 10 l)
      | cons q r =>
        rw [hs] at ih
        cases r with
        | nil => show c :: q = c :: l; rw [show q = l from ih]
        | cons r0 r1 => show (c :: q) ++ 10 :: flat (r0 :: r1) = c :: l; rw [List.cons_append]; rw [show q ++ 10 :: flat (r0 :: r1) = l from ih]
theorem flat_last : ∀ (ps : List (List UInt8)) (q : List UInt8), flat (ps ++ [q]) = (ps.flatMap fun p => p ++ [10]) ++ q
  | [], q => rfl
  | [p], q => by show p ++ 10 :: q = _; simp
  | p :: p' :: ps, q => by
    show p ++ 10 :: flat (p' :: ps ++ [q]) = _
    rw [flat_last (p' :: ps) q, List.flatMap_cons]
    simp
end Pl

/-- The entry that a line writes. -/
def entP (l : List UInt8) : Ent := (parI ⟨(Pl.headC 32 l).toArray⟩, ⟨(Pl.tailC 32 l).toArray⟩)
/-- The lines of a text but for what stands behind the last; and that. -/
def linesP (s : List UInt8) : List (List UInt8) := (Pl.split 10 s).dropLast
def restP (s : List UInt8) : List UInt8 := (Pl.split 10 s).getLast (Pl.split_ne_nil 10 s)
theorem lines_rest (s : List UInt8) : Pl.split 10 s = linesP s ++ [restP s] := (List.dropLast_concat_getLast (Pl.split_ne_nil 10 s)).symm
theorem lines_of {s : List UInt8} {a : List (List UInt8)} {b : List UInt8} (h : Pl.split 10 s = a ++ [b]) : linesP s = a ∧ restP s = b := by
  have h2 := lines_rest s
  rw [h] at h2
  have h3 := List.append_inj' h2 rfl
  exact ⟨h3.1.symm, by have := h3.2; injection this with e _; exact e.symm⟩
theorem text_lines (s : List UInt8) : s = ((linesP s).flatMap fun p => p ++ [10]) ++ restP s := by
  have h := Pl.flat_split s
  rw [lines_rest, Pl.flat_last] at h
  exact h.symm
/-- The entries that a text writes. -/
def candP (s : List UInt8) : List Ent := (linesP s).map entP
theorem parLB_ne {t : ByteArray} (h : parLB t = true) : t.data.toList ≠ [] := by
  intro e
  have ht : t = ByteArray.empty := ByteArray.ext (Array.toList_inj.1 e)
  subst ht
  revert h
  decide +kernel
theorem parB_fmt {t : ByteArray} (h : parB t = true) : fmtT (parI t) = t := by
  unfold parB at h
  have hne : Pl.parse t.data.toList ≠ [] := by intro e; rw [e] at h; simp at h
  have h1 := Pl.fmt_parse t.data.toList hne
  unfold fmtT parI
  have e : outN (outI (Pl.parse t.data.toList)) = Pl.parse t.data.toList := by unfold outN outI; rw [List.map_map]; exact List.map_id _
  rw [e, h1]
theorem parB_of {t : ByteArray} (h : okO (parI t) = true) : parB t = true := by
  cases hb : parB t
  · have : Pl.parse t.data.toList = [] := by unfold parB at hb; simpa using hb
    rw [(par_no this).1] at h
    cases h
  · rfl
theorem entP_ok {l : List UInt8} (h : okE (entP l) = true) : (32 : UInt8) ∈ l ∧ parB ⟨(Pl.headC 32 l).toArray⟩ = true ∧ (lineT (entP l)).data.toList = l ++ [10] := by
  obtain ⟨h1, h2⟩ := okE_O h
  have hb := parB_of h1
  have hm : (32 : UInt8) ∈ l := by
    by_cases hm : (32 : UInt8) ∈ l
    · exact hm
    · have := parLB_ne h2
      exact absurd (show ((entP l).2).data.toList = [] by show (Pl.tailC 32 l).toArray.toList = []; rw [(Pl.cut_no hm).2]) this
  refine ⟨hm, hb, ?_⟩
  have hf := parB_fmt hb
  obtain ⟨hl, _⟩ := Pl.cut_yes hm
  unfold lineT entP
  simp only [ByteArray.data_append, Array.toList_append]
  rw [hf]
  conv => rhs; rw [hl]
  simp
theorem dicT_flat (es : List Ent) : (dicT es).data.toList = es.flatMap fun e => (lineT e).data.toList := by
  have key : ∀ (l : List Ent) (b : ByteArray), (l.foldl (fun b e => b ++ lineT e) b).data.toList = b.data.toList ++ l.flatMap fun e => (lineT e).data.toList := by
    intro l
    induction l with
    | nil => intro b; simp
    | cons x l ih => intro b; rw [List.foldl_cons, ih, List.flatMap_cons]; simp [ByteArray.data_append]
  unfold dicT
  rw [key]; rfl
theorem cand_text {s : List UInt8} (h : ∀ e ∈ candP s, okE e = true) : (dicT (candP s)).data.toList ++ restP s = s := by
  have e1 : (dicT (candP s)).data.toList = (linesP s).flatMap fun p => p ++ [10] := by
    rw [dicT_flat]
    unfold candP at h ⊢
    generalize linesP s = ls at h ⊢
    induction ls with
    | nil => rfl
    | cons x r ih =>
      rw [List.map_cons, List.flatMap_cons, List.flatMap_cons, (entP_ok (h (entP x) (by simp))).2.2, ih (fun e he => h e (by rw [List.map_cons]; exact List.mem_cons_of_mem _ he))]
  rw [e1]; exact (text_lines s).symm
/-- What ParseDictionary answers. -/
def parDB (s : ByteArray) : Bool := decide (s.size ≤ 4000) && ((restP s.data.toList == []) && okD (candP s.data.toList))
def parD (s : ByteArray) : List Ent := if parDB s = true then candP s.data.toList else []
theorem parD_no {s : ByteArray} (h : parDB s = false) : parD s = [] := by unfold parD; rw [h]; rfl
theorem parD_yes {s : ByteArray} (h : parDB s = true) : parD s = candP s.data.toList := by unfold parD; rw [if_pos h]
theorem parDB_big {s : ByteArray} (h : ¬ s.size ≤ 4000) : parDB s = false := by unfold parDB; rw [decide_eq_false h]; rfl
theorem parDB_rest {s : ByteArray} (h : restP s.data.toList ≠ []) : parDB s = false := by unfold parDB; rw [beq_eq_false_iff_ne.2 h]; simp
theorem parDB_bad {s : ByteArray} (h : okD (candP s.data.toList) = false) : parDB s = false := by unfold parDB; rw [h]; simp
theorem parDB_ok {s : ByteArray} (h4 : s.size ≤ 4000) (hr : restP s.data.toList = []) (h : okD (candP s.data.toList) = true) : parDB s = true := by unfold parDB; rw [decide_eq_true h4, hr, h]; rfl
theorem cand_len (s : ByteArray) : (candP s.data.toList).length ≤ s.size := by
  have h := Pl.splitB_len s 10
  unfold Pl.splitB Pl.ofLists at h
  rw [List.length_map, lines_rest, List.length_append] at h
  unfold candP
  rw [List.length_map]
  simp at h
  exact h
end Go.Proofs.Ythigdblloddepaa

namespace Go.Proofs.Ythigdblloddepaa
set_option maxRecDepth 100000
open Go.RowKit

theorem Pl.headC_take {c : UInt8} : ∀ {l : List UInt8} {k : Nat}, l[k]? = some c → (∀ j, j < k → l[j]? ≠ some c) → Pl.headC c l = l.take k ∧ Pl.tailC c l = l.drop (k + 1) ∧ c ∈ l
  | [], k, h, _ => by simp at h
  | x :: l, 0, h, _ => by
    simp at h; subst h
    unfold Pl.headC Pl.tailC
    simp
  | x :: l, k + 1, h, hn => by
    have hx : x ≠ c := fun e => hn 0 (Nat.zero_lt_succ _) (by simp [e])
    have hx' : (x != c) = true := by simp; exact hx
    obtain ⟨h1, h2, h3⟩ := Pl.headC_take (l := l) (k := k) (by simpa using h) (fun j hj => by have := hn (j + 1) (by omega); simpa using this)
    unfold Pl.headC Pl.tailC at *
    rw [List.takeWhile_cons, List.dropWhile_cons, hx', if_pos rfl, if_pos rfl, h1, h2]
    exact ⟨rfl, rfl, List.mem_cons_of_mem _ h3⟩
/-- What strings.Cut answers. -/
def cutE (s : ByteArray) (c : UInt8) : Ending := .returned (.tuple #[.string ⟨(Pl.headC c s.data.toList).toArray⟩, .string ⟨(Pl.tailC c s.data.toList).toArray⟩, .bool (decide (c ∈ s.data.toList))])
end Go.Proofs.Ythigdblloddepaa

namespace Go.Proofs.Ythigdblloddepaa
set_option maxRecDepth 100000
open Go.RowKit

/-- A dictionary and a flag handed back. -/
theorem results_dt2 {fn : Func} {p u : Tmp} (h : fn.results = #[.cell p 33, .tmp u]) (tmps : Array Value) (w : World) (g : Nat) (v : Value)
    (hp : tmps.getD p undef = .pointer (some ⟨g, 0, none⟩)) (hg : BoxV w g 33 v) :
    (results fn tmps).run Try.prog w = .ok (.tuple #[dV v, tmps.getD u undef]) w := by
  have hr := run_loadVar_row (P := Try.prog) w g _ 33 _ _ _ hg Try.underlying33 rfl (by kernel_rfl)
  rw [results_cell_tmp h, hp]
  simp [asAddr, hr, Result.andThen, dV]
/-- An answer of a dictionary of its own and a flag. -/
def OutD (base : Nat) (w' : World) (es : List Ent) (b : Bool) (e : Ending) : Prop := ∃ u us, e = .returned (.tuple #[dV u, .bool b]) ∧ RowX w' base u us ∧ us.map (·.2) = es
theorem outD_no (base : Nat) (w : World) : OutD base w [] false (.returned (.tuple #[dV (.slice none 0 0), .bool false])) := ⟨_, [], rfl, RowX.nil _ _, rfl⟩
theorem headC_len (c : UInt8) (l : List UInt8) : (Pl.headC c l).length ≤ l.length := by unfold Pl.headC; exact (List.takeWhile_sublist _).length_le
theorem tailC_len (c : UInt8) (l : List UInt8) : (Pl.tailC c l).length ≤ l.length := by unfold Pl.tailC; rw [List.length_drop]; have := (List.dropWhile_sublist (fun x => x != c) (l := l)).length_le; omega
theorem cand_ok {s : ByteArray} (hs : s.size ≤ 4000) : ∀ e ∈ candP s.data.toList, entOk e := by
  intro e he
  unfold candP at he
  obtain ⟨l, hl, rfl⟩ := List.mem_map.1 he
  have hm : l ∈ Pl.split 10 s.data.toList := by rw [lines_rest]; exact List.mem_append_left _ hl
  have h1 : (⟨l.toArray⟩ : ByteArray) ∈ Pl.splitB s 10 := List.mem_map.2 ⟨l, hm, rfl⟩
  have h2 := Pl.splitB_size s 10 _ h1
  rw [str_len] at h2
  refine ⟨Nat.le_trans (parI_len _) (by decide), ?_⟩
  show (⟨(Pl.tailC 32 l).toArray⟩ : ByteArray).size ≤ _
  rw [str_len]
  have := tailC_len 32 l
  omega
def strLen : Value → Nat | .string t => t.size | _ => 0
end Go.Proofs.Ythigdblloddepaa
