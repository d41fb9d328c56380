/-
  CONTRACTS of chapter 9 of the specification: l9Try.
-/
import Derived.Test.YtagbffnabjngfaaSpec9
import Derived.Sort.Walk0
import Derived.OwnWalk
import Derived.Deep.RegionWith
import Derived.Deep.AppendLies
import Derived.Deep.RegionLaw
import Derived.Deep.Onto
namespace Go.Proofs.Ytagbffnabjngfaa.Pl
set_option maxRecDepth 100000
/-- Insertion into an ascending list. -/
def ins (w : List UInt8) : List (List UInt8) → List (List UInt8)
  | [] => [w]
  | a :: l => if a < w then a :: ins w l else if a = w then a :: l else w :: a :: l
theorem mem_ins (w x : List UInt8) : ∀ l, x ∈ ins w l ↔ x = w ∨ x ∈ l
  | [] => by simp [ins]
  | a :: l => by
    unfold ins
    split
    · rw [List.mem_cons, mem_ins w x l, List.mem_cons]
      constructor <;> rintro (h | h | h) <;> simp [h]
    · split
      · rename_i h; subst h; simp
      · simp
theorem len_ins (w : List UInt8) : ∀ l, (ins w l).length ≤ l.length + 1
  | [] => by simp [ins]
  | a :: l => by
    have := len_ins w l
    unfold ins
    split
    · simp; omega
    · split <;> simp
theorem asc_ins (w : List UInt8) : ∀ l, Asc l → Asc (ins w l)
  | [], _ => by simp [ins, Asc]
  | a :: l, h => by
    have h' := List.pairwise_cons.1 h
    unfold ins
    split
    · rename_i hlt
      refine List.pairwise_cons.2 ⟨fun x hx => ?_, asc_ins w l h'.2⟩
      rcases (mem_ins w x l).1 hx with rfl | hx
      · exact hlt
      · exact h'.1 x hx
    · split
      · exact h
      · rename_i hn hne
        have hlt : w < a := lt_of_le_ne (List.not_lt.1 hn) (fun e => hne e.symm)
        refine List.pairwise_cons.2 ⟨fun x hx => ?_, h⟩
        rcases List.mem_cons.1 hx with rfl | hx
        · exact hlt
        · exact List.lt_trans hlt (h'.1 x hx)
theorem ins_at (w : List UInt8) : ∀ (out : List (List UInt8)) (k : Nat), (∀ j x, j < k → out[j]? = some x → x < w) → (k = out.length ∨ ∃ x, out[k]? = some x ∧ ¬ x < w) →
    ins w out = if out[k]? = some w then out else out.take k ++ w :: out.drop k
  | [], k, _, hs => by
    rcases hs with rfl | ⟨x, hx, _⟩
    · simp [ins]
    · simp at hx
  | a :: l, 0, _, hs => by
    rcases hs with h | ⟨x, hx, hn⟩
    · simp at h
    · simp at hx; subst hx
      unfold ins
      rw [if_neg hn]
      by_cases e : a = w
      · simp [e]
      · simp [e]
  | a :: l, k + 1, hlt, hs => by
    have ha : a < w := hlt 0 a (by omega) rfl
    have ih := ins_at w l k (fun j x hj hx => hlt (j + 1) x (by omega) (by simpa using hx)) (by
      rcases hs with h | ⟨x, hx, hn⟩
      · exact .inl (by simpa using h)
      · exact .inr ⟨x, by simpa using hx, hn⟩)
    unfold ins
    rw [if_pos ha, ih]
    simp only [List.getElem?_cons_succ, List.take_succ_cons, List.drop_succ_cons]
    split <;> simp
/-- A candidate tried. -/
def try9 (f s : List UInt8) (out : List (List UInt8)) (w : List UInt8) : List (List UInt8) := if (wordB w && decide (join9 w f = s)) = true then ins w out else out
end Go.Proofs.Ytagbffnabjngfaa.Pl
namespace Go.Proofs.Ytagbffnabjngfaa
set_option maxRecDepth 100000
open Go.RowKit

theorem infoStrT : (Try.prog.info? 9).map (fun i => (i.zero, i.size, i.bytes)) = some (some (.string ByteArray.empty), 1, 16) := by kernel_rfl
/-- Several texts appended to a row. -/
theorem app_strs {ops : Array Oper} {rest : List Oper} {o : Oper} {a : Act} {w : World} {Q : Exit → Act → World → Prop}
    (hgd : o.guard = none) (p q : Operand) (ho : o.op = .call { callee := .builtin .append, args := #[p, q], argTypes := #[26, 26] }) (base : Nat) (v : Value) (xs : List ByteArray) (hs : a.eval p = v) (hown : w.ownsRow base 9 1 v xs.length (xs.map .string))
    (ad : Addr) (ys : List ByteArray) (c : Nat) (hq : a.eval q = .slice (some ad) ys.length c) (hcell : ∀ j y, ys[j]? = some y → w.cell? (ad.add j) = some (.string y)) (hb : base ≤ w.heap.size) (h1 : xs.length ≤ 4194304) (h2 : ys.length ≤ 4194304)
    (h : ∀ v' w', w'.ownsRow base 9 1 v' (xs ++ ys).length ((xs ++ ys).map .string) → w.grownBy w' v.ownBlock → wpList Try.prog ops Q rest (a.put o.dst v') w') : wpList Try.prog ops Q (o :: rest) a w := by
  obtain ⟨i0, hi, hz0, hz1, hz2⟩ := info_parts infoStrT
  refine wpList_append_own _ hgd p q 26 ho base 9 i0 (.string ByteArray.empty) 1 16 Try.underlying26 hi hz0 hz1 hz2 rfl (by decide) v xs.length _ hs hown ad ys.length c (ys.map .string) hq (by rw [List.length_map, Nat.mul_one]) ?_ ?_ (by unfold maxLen; omega) (by omega) hb ?_
  · intro j x hx
    rw [List.getElem?_map] at hx
    obtain ⟨z, hz, rfl⟩ := Option.map_eq_some_iff.1 hx
    exact hcell j z hz
  · intro x hx
    obtain ⟨z, _, rfl⟩ := List.mem_map.1 hx
    rfl
  · intro v' w' hown' hg _
    refine h v' w' ?_ hg
    rw [List.length_append, List.map_append]; exact hown'

/-- Several texts appended, as a step of a region that draws. -/
theorem step_strs {ops : Array Oper} {o : Oper} {a : Act} {w : World} {K : Act → World → Prop} {Q : Exit → Act → World → Prop} {E : Prop} (p q : Operand)
    (hgd : o.guard = none) (ho : o.op = .call { callee := .builtin .append, args := #[p, q], argTypes := #[26, 26] }) (base g0 n0 cap0 : Nat) (xs : List ByteArray) (hs : a.eval p = .slice (some ⟨g0, 0, none⟩) n0 cap0) (hn0 : n0 = xs.length)
    (hown : w.ownsRow base 9 1 (.slice (some ⟨g0, 0, none⟩) n0 cap0) n0 (xs.map .string))
    (ad : Addr) (m : Nat) (ys : List ByteArray) (c : Nat) (hq : a.eval q = .slice (some ad) m c) (hm : m = ys.length) (hcell : ∀ j y, ys[j]? = some y → w.cell? (ad.add j) = some (.string y)) (hb : base ≤ w.heap.size) (h1 : n0 ≤ 4194304) (h2 : m ≤ 4194304)
    (h : ∀ g cap w', w'.ownsRow base 9 1 (.slice (some ⟨g, 0, none⟩) (n0 + m) cap) (n0 + m) ((xs ++ ys).map .string) → w.grownBy w' (some g0) → K (a.put o.dst (.slice (some ⟨g, 0, none⟩) (n0 + m) cap)) w') :
    if Region.wanted o (yielded ops a.tmps) = true then Oper.wp Try.prog o a w K Q else E := by
  have hw : Region.wanted o (yielded ops a.tmps) = true := by simp [Region.wanted, hgd]
  rw [if_pos hw]
  obtain ⟨i0, hi, hz0, hz1, hz2⟩ := info_parts infoStrT
  refine wp_append_own w p q 26 ho base 9 i0 (.string ByteArray.empty) 1 16 Try.underlying26 hi hz0 hz1 hz2 rfl (by decide) _ n0 _ hs hown ad m c (ys.map .string) hq (by rw [List.length_map, Nat.mul_one, hm]) ?_ ?_ (by unfold maxLen; omega) (by omega) hb ?_
  · intro j x hx
    rw [List.getElem?_map] at hx
    obtain ⟨z, hz, rfl⟩ := Option.map_eq_some_iff.1 hx
    exact hcell j z hz
  · intro x hx
    obtain ⟨z, _, rfl⟩ := List.mem_map.1 hx
    rfl
  · intro v' w' hown' hg hnil
    rcases hown'.2 with ⟨hv, _⟩ | ⟨g, cap, cur, rfl, _⟩
    · have := (hnil.1 hv).1
      cases this
    · refine h g cap w' ?_ hg
      rw [List.map_append]; exact hown'
theorem rowS_new (w : World) (e : TypeId) : (w.alloc (.cells #[] e)).ownsRow w.heap.size e 1 (.slice (some ⟨w.heap.size, 0, none⟩) 0 0) 0 [] :=
  ⟨rfl, .inr ⟨w.heap.size, 0, #[], rfl, Nat.le_refl _, by show (w.heap.push _)[w.heap.size]? = _; simp, Nat.le_refl _, by decide, rfl, rfl⟩⟩

theorem bel_a (w : World) (o : Obj) : Below w.heap.size w (w.drew.alloc o) := (Below.refl w.heap.size w).drew.alloc (Nat.le_refl _) o
theorem bel_aa (w : World) (o o' : Obj) : Below w.heap.size w ((w.drew.alloc o).alloc o') := (bel_a w o).alloc (bel_a w o).size o'
theorem hp_new (w : World) (o : Obj) : (w.alloc o).heap[w.heap.size]? = some o := by show (w.heap.push o)[w.heap.size]? = _; simp
theorem hp_old (w : World) (o o' : Obj) : ((w.alloc o).alloc o').heap[w.heap.size]? = some o := by
  show ((w.heap.push o).push o')[w.heap.size]? = _
  rw [Array.getElem?_push_lt (by simp)]; simp
theorem hp_new2 (w : World) (o o' : Obj) : ((w.alloc o).alloc o').heap[w.heap.size + 1]? = some o' := by
  have h := hp_new (w.alloc o) o'
  rw [World.size_alloc] at h
  exact h
theorem rowS_new2 (w : World) (o : Obj) (e : TypeId) : ((w.alloc o).alloc (.cells #[] e)).ownsRow w.heap.size e 1 (.slice (some ⟨w.heap.size + 1, 0, none⟩) 0 0) 0 [] := by
  have h := (rowS_new (w.alloc o) e).mono (base' := w.heap.size) (by rw [World.size_alloc]; omega)
  rw [World.size_alloc] at h
  exact h
/-- Old texts appended, as a step. -/
theorem step_old {ops : Array Oper} {o : Oper} {a : Act} {w0 w : World} {K : Act → World → Prop} {Q : Exit → Act → World → Prop} {E : Prop} (p q : Operand)
    (hgd : o.guard = none) (ho : o.op = .call { callee := .builtin .append, args := #[p, q], argTypes := #[26, 26] }) (g0 n0 cap0 : Nat) (xs : List ByteArray) (hs : a.eval p = .slice (some ⟨g0, 0, none⟩) n0 cap0) (hn0 : n0 = xs.length)
    (bk off m : Nat) (ys : List ByteArray) (c : Nat) (hq : a.eval q = .slice (some ⟨bk, off, none⟩) m c) (hm : m = ys.length) (hcell : ∀ W, Below w0.heap.size w0 W → ∀ j y, ys[j]? = some y → W.cell? ⟨bk, off + j, none⟩ = some (.string y)) (h1 : n0 ≤ 4194304) (h2 : m ≤ 4194304)
    (hown : w.ownsRow w0.heap.size 9 1 (.slice (some ⟨g0, 0, none⟩) n0 cap0) n0 (xs.map .string)) (hbel : Below w0.heap.size w0 w)
    (h : ∀ g cap w', w'.ownsRow w0.heap.size 9 1 (.slice (some ⟨g, 0, none⟩) (n0 + m) cap) (n0 + m) ((xs ++ ys).map .string) → Below w0.heap.size w0 w' → (∀ N o, N ≠ g0 → w.heap[N]? = some o → w'.heap[N]? = some o) → K (a.put o.dst (.slice (some ⟨g, 0, none⟩) (n0 + m) cap)) w') :
    if Region.wanted o (yielded ops a.tmps) = true then Oper.wp Try.prog o a w K Q else E := by
  refine step_strs p q hgd ho w0.heap.size g0 n0 cap0 xs hs hn0 hown ⟨bk, off, none⟩ m ys c hq hm (fun j y hj => by rw [Go.WideShapes.add_plain]; exact hcell w hbel j y hj) hbel.size h1 h2 fun g cap w' ho hg => h g cap w' ho ?_ ?_
  · refine hbel.grown hg hbel.size fun k hk => ?_
    cases hk
    have := hown.lt g0 rfl
    omega
  · intro N o hN ho2
    exact (hg.block N (Array.getElem?_eq_some_iff.1 ho2).1 (by simpa using fun e => hN e)).trans ho2
/-- One text appended, as a step. -/
theorem step_one {ops : Array Oper} {o : Oper} {a : Act} {w0 w : World} {K : Act → World → Prop} {Q : Exit → Act → World → Prop} {E : Prop} (p q : Operand)
    (hgd : o.guard = none) (ho : o.op = .call { callee := .builtin .append, args := #[p, q], argTypes := #[26, 26] }) (g0 n0 cap0 : Nat) (xs : List ByteArray) (hs : a.eval p = .slice (some ⟨g0, 0, none⟩) n0 cap0) (hn0 : n0 = xs.length)
    (N : Nat) (d : ByteArray) (hq : a.eval q = .slice (some ⟨N, 0, none⟩) 1 1) (h1 : n0 ≤ 4194304)
    (hN : w.heap[N]? = some (.cells #[.string d] 9 (0, 0)))
    (hown : w.ownsRow w0.heap.size 9 1 (.slice (some ⟨g0, 0, none⟩) n0 cap0) n0 (xs.map .string)) (hbel : Below w0.heap.size w0 w)
    (h : ∀ g cap w', w'.ownsRow w0.heap.size 9 1 (.slice (some ⟨g, 0, none⟩) (n0 + 1) cap) (n0 + 1) ((xs ++ [d]).map .string) → Below w0.heap.size w0 w' → K (a.put o.dst (.slice (some ⟨g, 0, none⟩) (n0 + 1) cap)) w') :
    if Region.wanted o (yielded ops a.tmps) = true then Oper.wp Try.prog o a w K Q else E := by
  refine step_strs p q hgd ho w0.heap.size g0 n0 cap0 xs hs hn0 hown ⟨N, 0, none⟩ 1 [d] 1 hq rfl (fun j y hj => ?_) hbel.size h1 (by omega) fun g cap w' ho hg => h g cap w' ho ?_
  · match j, hj with
    | 0, hj =>
      simp at hj; subst hj
      rw [Go.WideShapes.add_plain, cell_of_row w N 0 _ _ _ hN]; rfl
    | j + 1, hj => simp at hj
  · refine hbel.grown hg hbel.size fun k hk => ?_
    cases hk
    have := hown.lt g0 rfl
    omega

def ofL (l : List UInt8) : ByteArray := ⟨l.toArray⟩
theorem ofL_data (s : ByteArray) : ofL s.data.toList = s := by simp [ofL]
theorem data_ofL (l : List UInt8) : (ofL l).data.toList = l := by simp [ofL]
/-- A slice of texts that is not nil. -/
def StrsN (w : World) (v : Value) (xs : List ByteArray) : Prop :=
  ∃ (bk o cap : Nat), v = .slice (some ⟨bk, o, none⟩) xs.length cap ∧ xs.length ≤ cap ∧ cap ≤ maxLen ∧ bk < w.heap.size ∧ ∀ (j : Nat) x, xs[j]? = some x → w.cell? ⟨bk, o + j, none⟩ = some (.string x)
theorem StrsN.at {w : World} {v : Value} {xs : List ByteArray} (h : StrsN w v xs) : StrsAt w v xs := by
  obtain ⟨bk, o, cap, hv, hc, _, hk, h⟩ := h
  exact ⟨_, cap, hv, hc, .inr ⟨bk, o, rfl, hk, h⟩⟩
theorem StrsN.below {w w' : World} {v : Value} {xs : List ByteArray} (h : StrsN w v xs) (hb : Below w.heap.size w w') : StrsN w' v xs := by
  obtain ⟨bk, o, cap, hv, hc, hm, hk, h⟩ := h
  exact ⟨bk, o, cap, hv, hc, hm, Nat.lt_of_lt_of_le hk hb.size, fun j x hx => (hb.cell (p := ⟨bk, o + j, none⟩) hk).trans (h j x hx)⟩
theorem less_eq (a b : ByteArray) : Op.bytesLess a.toList b.toList = decide (a.data.toList < b.data.toList) := by
  rw [Lib.toList_data, Lib.toList_data, bytesLess_eq]

theorem strsN_of {w : World} {base g n cap : Nat} {xs : List ByteArray} (h : w.ownsRow base 9 1 (.slice (some ⟨g, 0, none⟩) n cap) n (xs.map .string)) (hn : n = xs.length) : StrsN w (.slice (some ⟨g, 0, none⟩) n cap) xs := by
  subst hn
  rcases h.2 with ⟨h0, _⟩ | ⟨g', cap', cur, hv, hb, hg, h1, h2, h3, h4⟩
  · cases h0
  · injection hv with e1 _ e3
    injection e1 with e1
    injection e1 with e1
    subst e1; subst e3
    refine ⟨g, 0, cap, rfl, h1, h2, (Array.getElem?_eq_some_iff.1 hg).1, fun j x hx => ?_⟩
    have hj : j < xs.length := (List.getElem?_eq_some_iff.1 hx).1
    have e : (cur.toList.take (xs.length * 1))[j]? = (xs.map Value.string)[j]? := by rw [h4]
    rw [List.getElem?_take_of_lt (by omega), Array.getElem?_toList, List.getElem?_map, hx] at e
    simp only [World.cell?, hg, Nat.zero_add]
    simp only [Option.isSome_none, Bool.false_eq_true, if_false]
    exact e
set_option maxHeartbeats 8000000 in
theorem l9Try_any (v : Value) (zs : List (List UInt8)) (d f s : ByteArray) (w : World) (h : StrsN w v (zs.map ofL)) (hn : zs.length ≤ 1000) (hd : d.size ≤ 1048600) (hf : f.size ≤ 1048600) (hf1 : 1 ≤ f.size) (_hs : s.size ≤ 1048600) :
    Calls Try.prog 38 #[v, .string d, .string f, .string s] w fun e w' => (∃ u, e = .returned u ∧ StrsN w' u ((Pl.try9 f.data.toList s.data.toList zs d.data.toList).map ofL)) ∧ Below w.heap.size w w' := by
  have HV := Lib.hid h
  obtain ⟨bk, o, cap, rfl, hcap, hcm, hbk, hcell⟩ := h
  have HW := Lib.hid (fun w => l9Word_any d w (by unfold maxLen; omega))
  have HTry : Hid (Pl.try9 f.data.toList s.data.toList zs d.data.toList = if (Pl.wordB d.data.toList && (joinB d f).toList == s.toList) = true then Pl.ins d.data.toList zs else zs) := by
    show Pl.try9 _ _ _ _ = _
    unfold Pl.try9
    have e : ((joinB d f).toList == s.toList) = decide (Pl.join9 d.data.toList f.data.toList = s.data.toList) := by
      rw [Lib.toList_data, Lib.toList_data, Bool.eq_iff_iff]
      simp [joinB]
    rw [e]
  rw [List.length_map] at hcap ⊢
  obtain ⟨n, hnn⟩ : ∃ n, n = zs.length := ⟨_, rfl⟩
  rw [← hnn] at hn hcap ⊢
  have HN := Lib.hid hnn
  have hcm' := hcm
  unfold maxLen at hcm
  have HC : Hid (∀ w1 : World, Below w.heap.size w w1 → ∀ (j : Nat) x, zs[j]? = some x → w1.cell? ⟨bk, o + j, none⟩ = some (.string (ofL x))) := by
    intro w1 hb j x hx
    exact (hb.cell (p := ⟨bk, o + j, none⟩) hbk).trans (hcell j (ofL x) (by rw [List.getElem?_map, hx]; rfl))
  have HBK := Lib.hid hbk
  have HCM := Lib.hid hcm'
  clear hcell hnn hcm' hbk
  cases hw : Pl.wordB d.data.toList
  · rw [hw] at HW HTry
    have HT : Hid (Pl.try9 f.data.toList s.data.toList zs d.data.toList = zs) := Lib.hid (by rw [HTry.out]; rfl)
    clear hw HTry
    go_enter Try.func38, Try.ntmps38
    go_wp2_with fail
    refine (HW.out _).mono ?_
    rintro e w' ⟨rfl, rfl⟩
    go_wp2
    go_ret
    rw [HT.out]
    have := HV.out
    rw [List.length_map, ← HN.out] at this
    exact ⟨⟨_, rfl, this⟩, Below.refl _ _⟩
  rw [hw] at HW HTry
  have hd1 : 1 ≤ d.size := by have := (Pl.wordB_ne hw).1; simpa using this
  have hd2 : d.size ≤ 24 := by have := (Pl.wordB_ne hw).2.1; simpa using this
  have HJ := Lib.hid (fun w => l9Join_any d f w hd hf hd1 hf1)
  obtain ⟨J, hJ⟩ : ∃ J, J = joinB d f := ⟨_, rfl⟩
  rw [← hJ] at HJ HTry
  clear hw hJ
  cases hj : (J.toList == s.toList)
  · rw [hj] at HTry
    have hj2 : (J.toList != s.toList) = true := by rw [bne, hj]; rfl
    have HT : Hid (Pl.try9 f.data.toList s.data.toList zs d.data.toList = zs) := Lib.hid (by rw [HTry.out]; rfl)
    clear HTry
    go_enter Try.func38, Try.ntmps38
    go_wp2_with fail
    refine (HW.out _).mono ?_
    rintro e w' ⟨rfl, rfl⟩
    go_wp2_with fail
    refine (HJ.out _).mono ?_
    rintro e w' ⟨rfl, rfl⟩
    go_wp2
    go_ret
    rw [HT.out]
    have := HV.out
    rw [List.length_map, ← HN.out] at this
    exact ⟨⟨_, rfl, this⟩, Below.refl _ _⟩
  rw [hj] at HTry
  have hj2 : (J.toList != s.toList) = false := by rw [bne, hj]; rfl
  have HT : Hid (Pl.try9 f.data.toList s.data.toList zs d.data.toList = Pl.ins d.data.toList zs) := Lib.hid (by rw [HTry.out]; rfl)
  have HIns := Lib.hid (Pl.ins_at d.data.toList zs)
  clear HTry
  go_enter Try.func38, Try.ntmps38
  go_wp2_with fail
  refine (HW.out _).mono ?_
  rintro e w' ⟨rfl, rfl⟩
  go_wp2_with fail
  refine (HJ.out _).mono ?_
  rintro e w ⟨rfl, rfl⟩
  go_wp2
  go_loopw [9] (fun i wr => ∃ k : Nat, k ≤ n ∧ i = .int .i64 k ∧ Below w.heap.size w wr ∧ Hid (∀ j x, j < k → zs[j]? = some x → x < d.data.toList)) (fun i _ => n - (intOf i).toNat)
  case atStart => exact ⟨0, Nat.zero_le _, rfl, Below.refl _ _, fun j x hj => by omega⟩
  case round =>
    obtain ⟨k, hk, rfl, hbel, HA⟩ := hrel
    have HBel := Lib.hid hbel
    by_cases hlt : k < n
    · obtain ⟨x, hx⟩ : ∃ x, zs[k]? = some x := ⟨_, List.getElem?_eq_getElem (by rw [← HN.out]; exact hlt)⟩
      have hck := HC.out wr hbel k x hx
      have HX := Lib.hid hx
      have hl := less_eq (ofL x) d
      rw [data_ofL] at hl
      have he : ((ofL x).toList == d.toList) = decide (x = d.data.toList) := by
        rw [Lib.toList_data, Lib.toList_data, data_ofL, Bool.eq_iff_iff]; simp
      clear hx hbel
      by_cases hlx : x < d.data.toList
      · have hl' : Op.bytesLess (ofL x).toList d.toList = true := by rw [hl]; simpa using hlx
        have HA' : Hid (∀ j x, j < k + 1 → zs[j]? = some x → x < d.data.toList) := by
          intro j y hj hy
          by_cases e : j = k
          · subst e; rw [HX.out] at hy; cases hy; exact hlx
          · exact HA.out j y (by omega) hy
        clear hl he hlx HA
        go_wp2
        go_roundw
        case rel => exact ⟨k + 1, by omega, by go_num, HBel.out, HA'⟩
        case measure => simp [intOf]; omega
      · have hl' : Op.bytesLess (ofL x).toList d.toList = false := by rw [hl]; simpa using hlx
        have hi := HIns.out k HA.out (.inr ⟨x, HX.out, hlx⟩)
        by_cases hxe : x = d.data.toList
        · have he' : ((ofL x).toList == d.toList) = true := by rw [he]; simpa using hxe
          rw [HX.out, if_pos (by rw [hxe])] at hi
          have HI := Lib.hid hi
          clear hl he hlx hxe HA hi
          go_wp2
          go_ret
          rw [HT.out, HI.out]
          have := HV.out
          rw [List.length_map, ← HN.out] at this
          exact ⟨⟨_, rfl, this.below HBel.out⟩, HBel.out⟩
        · have he' : ((ofL x).toList == d.toList) = false := by rw [he]; simpa using hxe
          rw [HX.out, if_neg (by intro e; injection e; exact hxe (by assumption))] at hi
          have HI := Lib.hid hi
          clear hl he hlx hxe HA hi
          have hkne : ¬ cap = k := by omega
          have HCt : Hid (∀ W, Below wr.heap.size wr W → ∀ j y, ((zs.take k).map ofL)[j]? = some y → W.cell? ⟨bk, o + j, none⟩ = some (.string y)) := by
            intro W hW j y hy
            rw [List.getElem?_map] at hy
            obtain ⟨x, hx, rfl⟩ := Option.map_eq_some_iff.1 hy
            exact HC.out W (HBel.out.trans (hW.mono HBel.out.size)) j x (by rw [List.getElem?_take] at hx; split at hx; exact hx; cases hx)
          have HLt : Hid (k = ((zs.take k).map ofL).length) := Lib.hid (by rw [List.length_map, List.length_take, ← HN.out]; omega)
          have HCd : Hid (∀ W, Below wr.heap.size wr W → ∀ j y, ((zs.drop k).map ofL)[j]? = some y → W.cell? ⟨bk, o + k + j, none⟩ = some (.string y)) := by
            intro W hW j y hy
            rw [List.getElem?_map] at hy
            obtain ⟨x, hx, rfl⟩ := Option.map_eq_some_iff.1 hy
            have := HC.out W (HBel.out.trans (hW.mono HBel.out.size)) (k + j) x (by rw [List.getElem?_drop] at hx; exact hx)
            rw [Nat.add_assoc]; exact this
          have HLd : Hid (n - k = ((zs.drop k).map ofL).length) := Lib.hid (by rw [List.length_map, List.length_drop, ← HN.out])
          have hkc : k ≤ cap := by omega
          go_wp2
          go_region_law (first
            | (refine step_old (w0 := wr) (.tmp 48) (.tmp 51) rfl rfl _ 0 0 [] rfl rfl bk o k ((zs.take k).map ofL) cap rfl HLt.out HCt.out (by omega) (by omega) ?_ ?_ ?_
               · first | exact rowS_new wr.drew _ | exact (rowS_new wr.drew _).alloc _ | exact rowS_new2 wr.drew _ _
               · first | exact bel_a _ _ | exact bel_aa _ _ _
               intro g1 cap1 w1 hown1 hb1 hk1
               have HO1 := Lib.hid hown1
               have HB1 := Lib.hid hb1
               have HK1 := Lib.hid hk1
               clear hown1 hb1 hk1)
            | (refine step_one (w0 := wr) (.tmp 52) (.tmp 54) rfl rfl g1 k cap1 ([] ++ (zs.take k).map ofL) rfl HLt.out _ d rfl (by omega) ?_ ?_ ?_ ?_
               · first | exact hp_new _ _ | exact HK1.out _ _ (Nat.succ_ne_self _) (hp_new2 wr.drew _ _) | exact HK1.out _ _ (Nat.succ_ne_self _).symm (hp_old wr.drew _ _)
               · have := HO1.out; rw [Nat.zero_add] at this; first | exact this | exact this.alloc _
               · first | exact HB1.out | exact HB1.out.alloc HB1.out.size _
               intro g2 cap2 w2 hown2 hb2
               have HO2 := Lib.hid hown2
               have HB2 := Lib.hid hb2
               clear hown2 hb2)
            | (refine step_old (w0 := wr) (.tmp 55) (.tmp 58) rfl rfl g2 (k + 1) cap2 ([] ++ (zs.take k).map ofL ++ [d]) rfl ?_ bk (o + k) (n - k) ((zs.drop k).map ofL) (cap - k) rfl HLd.out HCd.out (by omega) (by omega) ?_ ?_ ?_
               · have := HLt.out; simp only [List.nil_append, List.length_append, List.length_singleton]; omega
               · exact HO2.out
               · exact HB2.out
               intro g3 cap3 w3 hown3 hb3 hk3
               have HO3 := Lib.hid hown3
               have HB3 := Lib.hid hb3
               clear hown3 hb3 hk3))
          all_goals go_wp2
          all_goals go_ret
          all_goals rw [HT.out, HI.out]
          all_goals refine ⟨⟨_, rfl, strsN_of (base := wr.heap.size) ?_ ?_⟩, HBel.out.trans (HB3.out.mono HBel.out.size)⟩
          all_goals first | (have h3 := HO3.out; simp only [List.nil_append, List.map_append, List.map_cons, ofL_data, List.append_assoc, List.cons_append] at h3 ⊢; exact h3) | (have := HLt.out; have := HLd.out; simp only [List.length_map, List.length_append, List.length_cons] at *; omega)
    · have hkn : k = n := by omega
      have hi := HIns.out k HA.out (.inl (by rw [hkn]; exact HN.out))
      have hnone : zs[k]? = none := List.getElem?_eq_none (by rw [← HN.out]; omega)
      rw [hnone, if_neg (by simp), List.drop_of_length_le (by rw [← HN.out]; omega)] at hi
      have HI := Lib.hid hi
      clear hi hnone HA hbel
      by_cases hcn : cap = k
      · subst hkn
        have hkc2 := hcn.symm
        subst hkc2
        have HCt : Hid (∀ W, Below wr.heap.size wr W → ∀ j y, ((zs.take k).map ofL)[j]? = some y → W.cell? ⟨bk, o + j, none⟩ = some (.string y)) := by
          intro W hW j y hy
          rw [List.getElem?_map] at hy
          obtain ⟨x, hx, rfl⟩ := Option.map_eq_some_iff.1 hy
          exact HC.out W (HBel.out.trans (hW.mono HBel.out.size)) j x (by rw [List.getElem?_take] at hx; split at hx; exact hx; cases hx)
        have HLt : Hid (k = ((zs.take k).map ofL).length) := Lib.hid (by rw [List.length_map, List.length_take, ← HN.out]; omega)
        have hkc : k ≤ k := Nat.le_refl _
        go_wp2
        go_region_law (first
          | (refine step_old (w0 := wr) (.tmp 48) (.tmp 51) rfl rfl _ 0 0 [] rfl rfl bk o k ((zs.take k).map ofL) k rfl HLt.out HCt.out (by omega) (by omega) ?_ ?_ ?_
             · first | exact rowS_new wr.drew _ | exact (rowS_new wr.drew _).alloc _ | exact rowS_new2 wr.drew _ _
             · first | exact bel_a _ _ | exact bel_aa _ _ _
             intro g1 cap1 w1 hown1 hb1 hk1
             have HO1 := Lib.hid hown1
             have HB1 := Lib.hid hb1
             have HK1 := Lib.hid hk1
             clear hown1 hb1 hk1)
          | (refine step_one (w0 := wr) (.tmp 52) (.tmp 54) rfl rfl g1 k cap1 ([] ++ (zs.take k).map ofL) rfl HLt.out _ d rfl (by omega) ?_ ?_ ?_ ?_
             · first | exact hp_new _ _ | exact HK1.out _ _ (Nat.succ_ne_self _) (hp_new2 wr.drew _ _) | exact HK1.out _ _ (Nat.succ_ne_self _).symm (hp_old wr.drew _ _)
             · have := HO1.out; rw [Nat.zero_add] at this; first | exact this | exact this.alloc _
             · first | exact HB1.out | exact HB1.out.alloc HB1.out.size _
             intro g2 cap2 w2 hown2 hb2
             have HO2 := Lib.hid hown2
             have HB2 := Lib.hid hb2
             clear hown2 hb2)
          | (refine step_old (w0 := wr) (.tmp 55) (.tmp 58) rfl rfl g2 (k + 1) cap2 ([] ++ (zs.take k).map ofL ++ [d]) rfl ?_ bk _ 0 [] _ rfl rfl (fun W _ j y hj => by simp at hj) (by omega) (by omega) ?_ ?_ ?_
             · have := HLt.out; simp only [List.nil_append, List.length_append, List.length_singleton]; omega
             · exact HO2.out
             · exact HB2.out
             intro g3 cap3 w3 hown3 hb3 hk3
             have HO3 := Lib.hid hown3
             have HB3 := Lib.hid hb3
             clear hown3 hb3 hk3))
        all_goals go_wp2
        all_goals go_ret
        all_goals rw [HT.out, HI.out]
        all_goals refine ⟨⟨_, rfl, strsN_of (base := wr.heap.size) ?_ ?_⟩, HBel.out.trans (HB3.out.mono HBel.out.size)⟩
        all_goals first | (have h3 := HO3.out; simp only [List.nil_append, List.map_append, List.map_cons, ofL_data, List.map_nil, List.append_nil] at h3 ⊢; exact h3) | (have := HLt.out; simp only [List.length_map, List.length_append, List.length_cons, List.length_nil] at *; omega)
      · subst hkn
        have HCt : Hid (∀ W, Below wr.heap.size wr W → ∀ j y, ((zs.take k).map ofL)[j]? = some y → W.cell? ⟨bk, o + j, none⟩ = some (.string y)) := by
          intro W hW j y hy
          rw [List.getElem?_map] at hy
          obtain ⟨x, hx, rfl⟩ := Option.map_eq_some_iff.1 hy
          exact HC.out W (HBel.out.trans (hW.mono HBel.out.size)) j x (by rw [List.getElem?_take] at hx; split at hx; exact hx; cases hx)
        have HLt : Hid (k = ((zs.take k).map ofL).length) := Lib.hid (by rw [List.length_map, List.length_take, ← HN.out]; omega)
        have hkc : k ≤ cap := by omega
        go_wp2
        go_region_law (first
          | (refine step_old (w0 := wr) (.tmp 48) (.tmp 51) rfl rfl _ 0 0 [] rfl rfl bk o k ((zs.take k).map ofL) cap rfl HLt.out HCt.out (by omega) (by omega) ?_ ?_ ?_
             · first | exact rowS_new wr.drew _ | exact (rowS_new wr.drew _).alloc _ | exact rowS_new2 wr.drew _ _
             · first | exact bel_a _ _ | exact bel_aa _ _ _
             intro g1 cap1 w1 hown1 hb1 hk1
             have HO1 := Lib.hid hown1
             have HB1 := Lib.hid hb1
             have HK1 := Lib.hid hk1
             clear hown1 hb1 hk1)
          | (refine step_one (w0 := wr) (.tmp 52) (.tmp 54) rfl rfl g1 k cap1 ([] ++ (zs.take k).map ofL) rfl HLt.out _ d rfl (by omega) ?_ ?_ ?_ ?_
             · first | exact hp_new _ _ | exact HK1.out _ _ (Nat.succ_ne_self _) (hp_new2 wr.drew _ _) | exact HK1.out _ _ (Nat.succ_ne_self _).symm (hp_old wr.drew _ _)
             · have := HO1.out; rw [Nat.zero_add] at this; first | exact this | exact this.alloc _
             · first | exact HB1.out | exact HB1.out.alloc HB1.out.size _
             intro g2 cap2 w2 hown2 hb2
             have HO2 := Lib.hid hown2
             have HB2 := Lib.hid hb2
             clear hown2 hb2)
          | (refine step_old (w0 := wr) (.tmp 55) (.tmp 58) rfl rfl g2 (k + 1) cap2 ([] ++ (zs.take k).map ofL ++ [d]) rfl ?_ bk _ 0 [] _ rfl rfl (fun W _ j y hj => by simp at hj) (by omega) (by omega) ?_ ?_ ?_
             · have := HLt.out; simp only [List.nil_append, List.length_append, List.length_singleton]; omega
             · exact HO2.out
             · exact HB2.out
             intro g3 cap3 w3 hown3 hb3 hk3
             have HO3 := Lib.hid hown3
             have HB3 := Lib.hid hb3
             clear hown3 hb3 hk3))
        all_goals go_wp2
        all_goals go_ret
        all_goals rw [HT.out, HI.out]
        all_goals refine ⟨⟨_, rfl, strsN_of (base := wr.heap.size) ?_ ?_⟩, HBel.out.trans (HB3.out.mono HBel.out.size)⟩
        all_goals first | (have h3 := HO3.out; simp only [List.nil_append, List.map_append, List.map_cons, ofL_data, List.map_nil, List.append_nil] at h3 ⊢; exact h3) | (have := HLt.out; simp only [List.length_map, List.length_append, List.length_cons, List.length_nil] at *; omega)
end Go.Proofs.Ytagbffnabjngfaa
