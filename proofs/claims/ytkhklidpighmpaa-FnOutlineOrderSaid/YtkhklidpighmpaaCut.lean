/-
  CONTRACT of the laws' vCut: another code.
-/
import Derived.Test.YtkhklidpighmpaaDrawO
import Derived.Test.YtkhklidpighmpaaBuild
import Derived.Deep.Strs
import Derived.Deep.Slices
namespace Go.Proofs.Ytkhklidpighmpaa
set_option maxRecDepth 100000
open Go.RowKit

/-- A slice of bytes: its length, its capacity, its cells. -/
def CodeIn (w : World) (a : Option Addr) (n cap : Nat) : Prop := CodeAt w a n ∧ n ≤ cap ∧ (a = none → n = 0 ∧ cap = 0)
/-- Bytes of an own row. -/
theorem row_code {w : World} {base : Nat} {v : Value} {zs : List Int} (h : w.ownsRow base 5 1 v zs.length (zs.map (.int .u8))) (hz : ∀ z ∈ zs, 0 ≤ z ∧ z ≤ 255) (hl : zs.length ≤ 1000000) : ∃ a cap, v = .slice a zs.length cap ∧ CodeAt w a zs.length := by
  rcases h.2 with ⟨rfl, h0⟩ | ⟨g, cap, cur, rfl, _, hg, hn, _, hsz, htake⟩
  · exact ⟨none, 0, by rw [h0], hl, fun h => by omega⟩
  · refine ⟨_, cap, rfl, hl, fun _ => ⟨g, 0, rfl, (Array.getElem?_eq_some_iff.1 hg).1, fun i hi => ?_⟩⟩
    refine ⟨zs[i], (hz _ (List.getElem_mem hi)).1, (hz _ (List.getElem_mem hi)).2, ?_⟩
    have h1 : (cur.toList.take (zs.length * 1))[i]? = some (.int .u8 zs[i]) := by rw [htake, List.getElem?_map, List.getElem?_eq_getElem hi]; rfl
    rw [List.getElem?_take_of_lt (by omega)] at h1
    simp only [Array.getElem?_toList] at h1
    rw [Nat.zero_add]
    simp [World.cell?, hg, h1]

/-- Bytes appended to an own row. -/
theorem append_code {ops : Array Oper} {rest : List Oper} {o : Oper} {a : Act} {w : World} {Q : Exit → Act → World → Prop} {i0 : TypeInfo} (hi : Try.prog.info? 5 = some i0) (hz0 : i0.zero = some (.int .u8 0)) (hz1 : i0.size = 1) (hz2 : i0.bytes = 1)
    (hgd : o.guard = none) (p q : Operand) (ho : o.op = .call { callee := .builtin .append, args := #[p, q], argTypes := #[22, 22] }) (base : Nat) (v : Value) (xs : List Int) (hs : a.eval p = v) (hown : w.ownsRow base 5 1 v xs.length (xs.map (.int .u8)))
    (ad : Addr) (c : Nat) (ys : List Int) (hq : a.eval q = .slice (some ad) ys.length c) (hc : ∀ (j : Nat) y, ys[j]? = some y → w.cell? (ad.add j) = some (.int .u8 y)) (hb : base ≤ w.heap.size) (h1 : xs.length ≤ 4194304) (h2 : ys.length ≤ 4194304)
    (h : ∀ v' w', w'.ownsRow base 5 1 v' (xs ++ ys).length ((xs ++ ys).map (.int .u8)) → w.grownBy w' v.ownBlock → wpList Try.prog ops Q rest (a.put o.dst v') w') : wpList Try.prog ops Q (o :: rest) a w := by
  refine wpList_append_own _ hgd p q 22 ho base 5 i0 (.int .u8 0) 1 1 Try.underlying22 hi hz0 hz1 hz2 rfl (by decide) v xs.length _ hs hown ad ys.length c (ys.map (.int .u8)) hq (by rw [List.length_map, Nat.mul_one]) ?_ ?_ (by unfold maxLen; omega) (by omega) hb ?_
  · intro j x hx
    rw [List.getElem?_map] at hx
    obtain ⟨z, hz, rfl⟩ := Option.map_eq_some_iff.1 hx
    exact hc j z hz
  · intro x hx
    obtain ⟨z, _, rfl⟩ := List.mem_map.1 hx
    rfl
  · intro v' w' hown' hg _
    refine h v' w' ?_ hg
    rw [List.length_append, List.map_append]; exact hown'

theorem append_code_none {ops : Array Oper} {rest : List Oper} {o : Oper} {a : Act} {w : World} {Q : Exit → Act → World → Prop} {i0 : TypeInfo} (hi : Try.prog.info? 5 = some i0)
    (hgd : o.guard = none) (p q : Operand) (ho : o.op = .call { callee := .builtin .append, args := #[p, q], argTypes := #[22, 22] }) (base : Nat) (v : Value) (xs : List Int) (hs : a.eval p = v) (hown : w.ownsRow base 5 1 v xs.length (xs.map (.int .u8))) (hq : a.eval q = .slice none 0 0)
    (h : ∀ v' w', w'.ownsRow base 5 1 v' xs.length (xs.map (.int .u8)) → w.grownBy w' v.ownBlock → wpList Try.prog ops Q rest (a.put o.dst v') w') : wpList Try.prog ops Q (o :: rest) a w :=
  wpList_append_own_none hgd p q 22 ho base 5 i0 1 Try.underlying22 hi v xs.length _ hs hown hq (h v w hown ⟨rfl, rfl, rfl, Nat.le_refl _, fun _ _ _ => rfl⟩)
set_option maxHeartbeats 2000000 in
theorem vCut_any (a : Option Addr) (n cap : Nat) (w : World) (h : CodeIn w a n cap) (hn : n ≤ 65536) :
    Calls Try.prog 27 #[.slice a n cap, .int .i64 3] w fun e w' => (∃ a' n' cap', e = .returned (.slice a' n' cap') ∧ CodeAt w' a' n') ∧ Below w.heap.size w w' := by
  obtain ⟨i0, hi, hz0, hz1, hz2⟩ := info_parts infoByte
  obtain ⟨hC, hcap, hnone⟩ := h
  have hal : Below w.heap.size w (w.alloc (.cells #[] 5)) := (Below.refl _ _).alloc (Nat.le_refl _) _
  have HO := Lib.hid (row_new w 5)
  by_cases hbig : 3 < n
  · obtain ⟨b, off, rfl, hb, hcell⟩ := hC.2 (by omega)
    obtain ⟨F, hF⟩ := Go.Deep.choose_lt hcell
    obtain ⟨ys, hys⟩ : ∃ ys, ys = (List.range (n - 3)).map (fun i => F (i + 3)) := ⟨_, rfl⟩
    have hyl : ys.length = n - 3 := by rw [hys]; simp
    have HY : Hid (∀ y ∈ ys, 0 ≤ y ∧ y ≤ 255) := by
      intro y hy
      rw [hys] at hy
      obtain ⟨i, hi, rfl⟩ := List.mem_map.1 hy
      have := hF (i + 3) (by have := List.mem_range.1 hi; omega)
      exact ⟨this.1, this.2.1⟩
    have HYC : Hid (∀ (j : Nat) y, ys[j]? = some y → (w.alloc (.cells #[] 5)).cell? ((⟨b, off + 3, none⟩ : Addr).add j) = some (.int .u8 y)) := by
      intro j y hy
      rw [hys, List.getElem?_map] at hy
      obtain ⟨i, hi, rfl⟩ := Option.map_eq_some_iff.1 hy
      have hij : i = j ∧ j < n - 3 := by
        rw [List.getElem?_eq_some_iff] at hi
        obtain ⟨q1, q2⟩ := hi
        simp at q1 q2
        exact ⟨q2.symm, q1⟩
      obtain ⟨rfl, hj⟩ := hij
      rw [Addr.add_lit, show off + 3 + i = off + (i + 3) by omega]
      exact (hal.cell (p := ⟨b, off + (i + 3), none⟩) hb).trans (hF (i + 3) (by omega)).2.2
    have hc3 : ¬ cap = 3 := by omega
    have hn3 : (3 : Int) ≤ (n : Int) := by omega
    have hsz0 : w.heap.size ≤ (w.alloc (.cells #[] 5)).heap.size := by simp
    clear hcell hF hnone hC hys
    go_enter Try.func27, Try.ntmps27
    go_wp2_with (at_builtin; rw [← hyl]; refine append_code hi hz0 hz1 hz2 rfl _ _ rfl w.heap.size _ [] rfl HO.out ⟨b, off + 3, none⟩ _ ys rfl HYC.out hsz0 (by simp) (by omega) ?_)
    intro v1 w1 hown1 hg1
    have HO1 : Hid (w1.ownsRow w.heap.size 5 1 v1 ys.length (ys.map (.int .u8))) := by show World.ownsRow _ _ _ _ _ _ _; rw [hyl]; simpa using hown1
    have hb1 : Below w.heap.size w w1 := hal.grown hg1 (by simp) (fun j hj => row_ge HO.out hj)
    have hsz1 := hb1.size
    clear hown1 hg1
    go_wp2_with (at_builtin; refine append_code hi hz0 hz1 hz2 rfl _ _ rfl w.heap.size _ ys rfl (HO1.out.alloc _) ⟨w1.heap.size, 0, none⟩ 1 [3] rfl ?c1 (by simp; omega) (by omega) (by simp) ?_)
    case c1 =>
      intro j y hy
      match j, hy with
      | 0, hy =>
        simp at hy
        subst hy
        simp [Addr.add]
      | j + 1, hy => simp at hy
    intro v2 w2 hown2 hg2
    have HO2 : Hid (w2.ownsRow w.heap.size 5 1 v2 (ys ++ [3]).length ((ys ++ [3]).map (.int .u8))) := by show World.ownsRow _ _ _ _ _ _ _; rw [List.length_append, hyl]; simpa using hown2
    have HB2 : Hid (Below w.heap.size w w2) := (hb1.alloc hsz1 _).grown hg2 (by simp; omega) (fun j hj => row_ge HO1.out hj)
    obtain ⟨a', c', rfl, hc'⟩ := row_code HO2.out (fun z hz => by
      rw [List.mem_append] at hz
      rcases hz with hz | hz
      · exact HY.out z hz
      · simp at hz; subst hz; decide) (by rw [List.length_append]; simp; omega)
    have HC2 := Lib.hid hc'
    clear hown2 hg2 hc'
    go_wp2
    go_ret
    exact ⟨⟨a', _, c', rfl, HC2.out⟩, HB2.out⟩
  · have hsz0 : w.heap.size ≤ (w.alloc (.cells #[] 5)).heap.size := by simp
    have hu8 : IntKind.u8.wrap (n : Int) = (n : Int) := IntWalk.u8_in _ (by omega)
    clear hC
    cases a with
    | none =>
      obtain ⟨rfl, rfl⟩ := hnone rfl
      go_enter Try.func27, Try.ntmps27
      go_wp2_with (at_builtin; refine append_code_none hi rfl _ _ rfl w.heap.size _ [] rfl HO.out rfl ?_)
      intro v1 w1 hown1 hg1
      have HO1 : Hid (w1.ownsRow w.heap.size 5 1 v1 ([] : List Int).length (([] : List Int).map (.int .u8))) := by show World.ownsRow _ _ _ _ _ _ _; simpa using hown1
      have hb1 : Below w.heap.size w w1 := hal.grown hg1 (by simp) (fun j hj => row_ge HO.out hj)
      have hsz1 := hb1.size
      clear hown1 hg1
      go_wp2_with (at_builtin; refine append_code hi hz0 hz1 hz2 rfl _ _ rfl w.heap.size _ [] rfl (HO1.out.alloc _) ⟨w1.heap.size, 0, none⟩ 1 [(0 : Int)] rfl ?c1 (by simp; omega) (by simp) (by simp) ?_)
      case c1 =>
        intro j y hy
        match j, hy with
        | 0, hy =>
          simp at hy
          subst hy
          simp [Addr.add]
        | j + 1, hy => simp at hy
      intro v2 w2 hown2 hg2
      have HO2 : Hid (w2.ownsRow w.heap.size 5 1 v2 [(0 : Int)].length ([(0 : Int)].map (.int .u8))) := by show World.ownsRow _ _ _ _ _ _ _; simpa using hown2
      have HB2 : Hid (Below w.heap.size w w2) := (hb1.alloc hsz1 _).grown hg2 (by simp; omega) (fun j hj => row_ge HO1.out hj)
      obtain ⟨a', c', rfl, hc'⟩ := row_code HO2.out (fun z hz => by simp at hz; subst hz; omega) (by simp)
      have HC2 := Lib.hid hc'
      clear hown2 hg2 hc'
      go_wp2
      go_ret
      exact ⟨⟨a', _, c', rfl, HC2.out⟩, HB2.out⟩
    | some ad =>
      by_cases hlt : n < 3
      · have hlt' : (n : Int) < 3 := by omega
        by_cases hcn : cap = n
        · subst hcn
          go_enter Try.func27, Try.ntmps27
          go_wp2_with (at_builtin; refine append_code hi hz0 hz1 hz2 rfl _ _ rfl w.heap.size _ [] rfl HO.out _ _ [] rfl (fun j y hy => by simp at hy) hsz0 (by simp) (by simp) ?_)
          intro v1 w1 hown1 hg1
          have HO1 : Hid (w1.ownsRow w.heap.size 5 1 v1 ([] : List Int).length (([] : List Int).map (.int .u8))) := by show World.ownsRow _ _ _ _ _ _ _; simpa using hown1
          have hb1 : Below w.heap.size w w1 := hal.grown hg1 (by simp) (fun j hj => row_ge HO.out hj)
          have hsz1 := hb1.size
          clear hown1 hg1
          go_wp2_with (at_builtin; refine append_code hi hz0 hz1 hz2 rfl _ _ rfl w.heap.size _ [] rfl (HO1.out.alloc _) ⟨w1.heap.size, 0, none⟩ 1 [(cap : Int)] rfl ?c1 (by simp; omega) (by simp) (by simp) ?_)
          case c1 =>
            intro j y hy
            match j, hy with
            | 0, hy =>
              simp at hy
              subst hy
              simp [Addr.add]
            | j + 1, hy => simp at hy
          intro v2 w2 hown2 hg2
          have HO2 : Hid (w2.ownsRow w.heap.size 5 1 v2 [(cap : Int)].length ([(cap : Int)].map (.int .u8))) := by show World.ownsRow _ _ _ _ _ _ _; simpa using hown2
          have HB2 : Hid (Below w.heap.size w w2) := (hb1.alloc hsz1 _).grown hg2 (by simp; omega) (fun j hj => row_ge HO1.out hj)
          obtain ⟨a', c', rfl, hc'⟩ := row_code HO2.out (fun z hz => by simp at hz; subst hz; omega) (by simp)
          have HC2 := Lib.hid hc'
          clear hown2 hg2 hc'
          go_wp2
          go_ret
          exact ⟨⟨a', _, c', rfl, HC2.out⟩, HB2.out⟩
        · go_enter Try.func27, Try.ntmps27
          go_wp2_with (at_builtin; refine append_code hi hz0 hz1 hz2 rfl _ _ rfl w.heap.size _ [] rfl HO.out _ _ [] rfl (fun j y hy => by simp at hy) hsz0 (by simp) (by simp) ?_)
          intro v1 w1 hown1 hg1
          have HO1 : Hid (w1.ownsRow w.heap.size 5 1 v1 ([] : List Int).length (([] : List Int).map (.int .u8))) := by show World.ownsRow _ _ _ _ _ _ _; simpa using hown1
          have hb1 : Below w.heap.size w w1 := hal.grown hg1 (by simp) (fun j hj => row_ge HO.out hj)
          have hsz1 := hb1.size
          clear hown1 hg1
          go_wp2_with (at_builtin; refine append_code hi hz0 hz1 hz2 rfl _ _ rfl w.heap.size _ [] rfl (HO1.out.alloc _) ⟨w1.heap.size, 0, none⟩ 1 [(n : Int)] rfl ?c1 (by simp; omega) (by simp) (by simp) ?_)
          case c1 =>
            intro j y hy
            match j, hy with
            | 0, hy =>
              simp at hy
              subst hy
              simp [Addr.add]
            | j + 1, hy => simp at hy
          intro v2 w2 hown2 hg2
          have HO2 : Hid (w2.ownsRow w.heap.size 5 1 v2 [(n : Int)].length ([(n : Int)].map (.int .u8))) := by show World.ownsRow _ _ _ _ _ _ _; simpa using hown2
          have HB2 : Hid (Below w.heap.size w w2) := (hb1.alloc hsz1 _).grown hg2 (by simp; omega) (fun j hj => row_ge HO1.out hj)
          obtain ⟨a', c', rfl, hc'⟩ := row_code HO2.out (fun z hz => by simp at hz; subst hz; omega) (by simp)
          have HC2 := Lib.hid hc'
          clear hown2 hg2 hc'
          go_wp2
          go_ret
          exact ⟨⟨a', _, c', rfl, HC2.out⟩, HB2.out⟩
      · obtain rfl : n = 3 := by omega
        by_cases hcn : cap = 3
        · subst hcn
          go_enter Try.func27, Try.ntmps27
          go_wp2_with (at_builtin; refine append_code hi hz0 hz1 hz2 rfl _ _ rfl w.heap.size _ [] rfl HO.out _ _ [] rfl (fun j y hy => by simp at hy) hsz0 (by simp) (by simp) ?_)
          intro v1 w1 hown1 hg1
          have HO1 : Hid (w1.ownsRow w.heap.size 5 1 v1 ([] : List Int).length (([] : List Int).map (.int .u8))) := by show World.ownsRow _ _ _ _ _ _ _; simpa using hown1
          have hb1 : Below w.heap.size w w1 := hal.grown hg1 (by simp) (fun j hj => row_ge HO.out hj)
          have hsz1 := hb1.size
          clear hown1 hg1
          go_wp2_with (at_builtin; refine append_code hi hz0 hz1 hz2 rfl _ _ rfl w.heap.size _ [] rfl (HO1.out.alloc _) ⟨w1.heap.size, 0, none⟩ 1 [(3 : Int)] rfl ?c1 (by simp; omega) (by simp) (by simp) ?_)
          case c1 =>
            intro j y hy
            match j, hy with
            | 0, hy =>
              simp at hy
              subst hy
              simp [Addr.add]
            | j + 1, hy => simp at hy
          intro v2 w2 hown2 hg2
          have HO2 : Hid (w2.ownsRow w.heap.size 5 1 v2 [(3 : Int)].length ([(3 : Int)].map (.int .u8))) := by show World.ownsRow _ _ _ _ _ _ _; simpa using hown2
          have HB2 : Hid (Below w.heap.size w w2) := (hb1.alloc hsz1 _).grown hg2 (by simp; omega) (fun j hj => row_ge HO1.out hj)
          obtain ⟨a', c', rfl, hc'⟩ := row_code HO2.out (fun z hz => by simp at hz; subst hz; omega) (by simp)
          have HC2 := Lib.hid hc'
          clear hown2 hg2 hc'
          go_wp2
          go_ret
          exact ⟨⟨a', _, c', rfl, HC2.out⟩, HB2.out⟩
        · go_enter Try.func27, Try.ntmps27
          go_wp2_with (at_builtin; refine append_code hi hz0 hz1 hz2 rfl _ _ rfl w.heap.size _ [] rfl HO.out _ _ [] rfl (fun j y hy => by simp at hy) hsz0 (by simp) (by simp) ?_)
          intro v1 w1 hown1 hg1
          have HO1 : Hid (w1.ownsRow w.heap.size 5 1 v1 ([] : List Int).length (([] : List Int).map (.int .u8))) := by show World.ownsRow _ _ _ _ _ _ _; simpa using hown1
          have hb1 : Below w.heap.size w w1 := hal.grown hg1 (by simp) (fun j hj => row_ge HO.out hj)
          have hsz1 := hb1.size
          clear hown1 hg1
          go_wp2_with (at_builtin; refine append_code hi hz0 hz1 hz2 rfl _ _ rfl w.heap.size _ [] rfl (HO1.out.alloc _) ⟨w1.heap.size, 0, none⟩ 1 [(3 : Int)] rfl ?c1 (by simp; omega) (by simp) (by simp) ?_)
          case c1 =>
            intro j y hy
            match j, hy with
            | 0, hy =>
              simp at hy
              subst hy
              simp [Addr.add]
            | j + 1, hy => simp at hy
          intro v2 w2 hown2 hg2
          have HO2 : Hid (w2.ownsRow w.heap.size 5 1 v2 [(3 : Int)].length ([(3 : Int)].map (.int .u8))) := by show World.ownsRow _ _ _ _ _ _ _; simpa using hown2
          have HB2 : Hid (Below w.heap.size w w2) := (hb1.alloc hsz1 _).grown hg2 (by simp; omega) (fun j hj => row_ge HO1.out hj)
          obtain ⟨a', c', rfl, hc'⟩ := row_code HO2.out (fun z hz => by simp at hz; subst hz; omega) (by simp)
          have HC2 := Lib.hid hc'
          clear hown2 hg2 hc'
          go_wp2
          go_ret
          exact ⟨⟨a', _, c', rfl, HC2.out⟩, HB2.out⟩
end Go.Proofs.Ytkhklidpighmpaa
