/-
  CONTRACT of the program's ParseTranslation: a range over the parts between the spaces, left early where a part is no atom or the list is full.
-/
import Derived.Test.YtnpiphkglhcifaaGreatImpl5D
import Derived.Test.YtnpiphkglhcifaaGreatIter
import Derived.RangeFuncFrom
namespace Go.Proofs.YtnpiphkglhcifaaGreat
set_option maxRecDepth 100000
open Go.RowKit Go.Shelf

attribute [local go_sem] Oper.semAt_some

/-- The part that a round is handed: a short text. -/
abbrev Ty := { x : ByteArray // x.size ≤ 1048576 }
theorem parts_stopsY (n : Nat) (hn : 1 ≤ n) (Bs Bp : Nat) (s : ByteArray) (c : UInt8) (hs : s.size ≤ 1048576) (w : World) (hBs : Bs < w.heap.size) (hBp : Bp < w.heap.size)
    (hcs : w.cell? ⟨Bs, 0, none⟩ = some (.string s)) (hcp : w.cell? ⟨Bp, 0, none⟩ = some (.int .u8 (c.toNat : Int))) :
    SeqStopsK Fence.wide n Tryz.prog 79 #[.pointer (some ⟨Bs, 0, none⟩), .pointer (some ⟨Bp, 0, none⟩)] (fun x : Ty => #[Value.string x.1]) (fun A C => C.heap[Bs]? = A.heap[Bs]? ∧ C.heap[Bp]? = A.heap[Bp]?) (fun ys => ys.map (·.1) = Pl.splitB s c) (fun pre => pre.map (·.1) <+: Pl.splitB s c) (s.size + 1) w := by
  intro l J Jx W hW hJ hJx hY h0
  refine (parts1_in n hn l Bs Bp s c (by omega) (fun A C => C.heap[Bs]? = A.heap[Bs]? ∧ C.heap[Bp]? = A.heap[Bp]?) (fun A C v hk h => (World.cell?_of_block hk.1).trans h) (fun A C v hk h => (World.cell?_of_block hk.2).trans h)
    (fun p A => ∃ q : List Ty, q.map (·.1) = p ∧ J q A) (fun p A => ∃ q : List Ty, q.map (·.1) = p ∧ Jx q A) W ?ab ?Y ((hW.cell (p := ⟨Bs, 0, none⟩) hBs).trans hcs) ((hW.cell (p := ⟨Bp, 0, none⟩) hBp).trans hcp) ⟨[], rfl, h0⟩).mono ?_
  case ab => rintro p A C row ⟨q, hq, hj⟩ hg hr; exact ⟨q, hq, hJ q A C row hj hg hr⟩
  case Y =>
    rintro p x A hx ⟨q, rfl, hj⟩ hl
    refine (hY q ⟨x, Nat.le_trans hx hs⟩ A hj (by simpa using hl)).mono ?_
    rintro e A' (⟨he, hj', hk⟩ | ⟨he, hj'⟩)
    · exact .inl ⟨he, ⟨q ++ [⟨x, Nat.le_trans hx hs⟩], by simp, hj'⟩, hk⟩
    · exact .inr ⟨he, ⟨q ++ [⟨x, Nat.le_trans hx hs⟩], by simp, hj'⟩⟩
  rintro e W' ⟨hv, (⟨ys, hys, q, hq, hj⟩ | ⟨pre, hp, q, hq, hj⟩)⟩
  · exact ⟨hv, .inl ⟨q, hq.trans hys, hj⟩⟩
  · exact ⟨hv, .inr ⟨q, (by rw [← hq] at hp; exact hp), hj⟩⟩

/-- The atoms of the parts that have come. -/
def gotA (pre : List Ty) : List Atm := pre.map fun x => atomOf x.1
theorem gotA_len (pre : List Ty) : (gotA pre).length = pre.length := List.length_map ..
theorem gotA_next (pre : List Ty) (x : Ty) : gotA (pre ++ [x]) = gotA pre ++ [atomOf x.1] := by unfold gotA; rw [List.map_append]; rfl
theorem gotA_all {t : ByteArray} {ys : List Ty} (h : ys.map (·.1) = Pl.splitB t 32) : gotA ys = readL t := by
  unfold gotA readL
  rw [← h, List.map_map]; rfl
theorem gotA_yes {t : ByteArray} {ys : List Ty} (h60 : t.size ≤ 60) (h : ys.map (·.1) = Pl.splitB t 32) (h10 : ys.length ≤ 10) (hz : ∀ x ∈ ys, Pl.parOk (by8 x.1) = true) : parL t = gotA ys ∧ parLB t = true := by
  have e := gotA_all h
  have hp : partsT (readL t) = Pl.splitB t 32 := by
    rw [← e, ← h]
    unfold partsT gotA
    rw [List.map_map]
    exact List.map_congr_left fun x hx => (atomOf_yes (hz x hx)).2
  have ht : textB (readL t) = t := by
    unfold textB
    rw [hp, Pl.splitB_join]
  have hne : 0 < ys.length := by
    have hj : ys.map (·.1) ≠ [] := by rw [h]; unfold Pl.splitB Pl.ofLists; intro q; exact Pl.split_ne_nil _ _ (List.map_eq_nil_iff.1 q)
    exact List.length_pos_iff.2 (fun q => hj (by rw [q]; rfl))
  have hall : (readL t).all goodE = true := by
    rw [← e, List.all_eq_true]
    intro x hx
    obtain ⟨y, hy, rfl⟩ := List.mem_map.1 hx
    exact (atomOf_yes (hz y hy)).1
  have hok : okL (readL t) = true := by
    rw [okL_end (by rw [← e, gotA_len]; exact hne) (by rw [← e, gotA_len]; exact h10) hall, ht, decide_eq_true_eq]
    exact h60
  have hb : parLB t = true := by
    unfold parLB
    rw [hok, Bool.and_true, decide_eq_true_eq]
    exact h60
  exact ⟨by rw [parL_yes hb, e], hb⟩
theorem gotA_no {t : ByteArray} {pre : List Ty} (h : pre.map (·.1) <+: Pl.splitB t 32) (hb : 10 < pre.length ∨ ∃ x ∈ pre, Pl.parOk (by8 x.1) = false) : parL t = [] ∧ parLB t = false := by
  have hp : gotA pre <+: readL t := by
    have := h.map atomOf
    rw [List.map_map] at this
    exact this
  have hq : okL (readL t) = false := by
    rcases hb with hb | ⟨x, hx, h0⟩
    · refine okL_no_len ?_
      have := hp.length_le
      rw [gotA_len] at this
      omega
    · have hm : atomOf x.1 ∈ readL t := hp.subset (List.mem_map.2 ⟨x, hx, rfl⟩)
      obtain ⟨k, hk, he⟩ := List.getElem_of_mem hm
      exact okL_no_at (k := k) (by rw [List.getElem?_eq_getElem hk, he]) (atomOf_no h0)
  have hb : parLB t = false := by unfold parLB; rw [hq, Bool.and_false]
  exact ⟨parL_no hb, hb⟩
theorem outOA_bad {t : ByteArray} (h : parL t = [] ∧ parLB t = false) (base : Nat) (w : World) : OutOA base w (parL t) (parLB t) (.returned (.tuple #[.slice none 0 0, .bool false])) := by
  rw [h.1, h.2]; exact ⟨_, rfl, .inl ⟨rfl, _, _, rfl⟩⟩
/-- An own row of atoms, as a slice of its own. -/
theorem ownAs_of {w : World} {base : Nat} {v : Value} {ls : List Atm} (h : OwnT w base v ls) : OwnAs w base v ls.length (fun j => ls.getD j a00) := by
  rcases h.2 with ⟨rfl, h0⟩ | ⟨g, cap, cur, rfl, hb, hg, hn, _, hsz, htake⟩
  · exact .inl ⟨h0, none, 0, rfl⟩
  · rcases Nat.eq_zero_or_pos ls.length with h0 | h0
    · exact .inl ⟨h0, _, _, by rw [h0]⟩
    · have hlt : g < w.heap.size := (Array.getElem?_eq_some_iff.1 hg).1
      have hc : ∀ q x, (atCells ls)[q]? = some x → w.cell? ⟨g, q, none⟩ = some x := by
        intro q x hq
        have hql : q < ls.length * 2 := by
          rcases Nat.lt_or_ge q (ls.length * 2) with h' | h'
          · exact h'
          · rw [List.getElem?_eq_none (by rw [atCells_len]; exact h')] at hq; cases hq
        rw [← htake, List.getElem?_take_of_lt hql] at hq
        simp only [Array.getElem?_toList] at hq
        simp [World.cell?, hg, hq]
      refine .inr ⟨g, cap, rfl, hn, hb, h0, hlt, fun j hj => ?_, fun j => by simp [World.frozen?, hg]⟩
      obtain ⟨e, he⟩ : ∃ e, ls[j]? = some e := ⟨_, List.getElem?_eq_getElem hj⟩
      obtain ⟨h0, h1⟩ := atCells_at ls j e he
      have ed : ls.getD j a00 = e := by simp [List.getD, he]
      show w.cell? ⟨g, j * 2, none⟩ = some (.int .i64 (ls.getD j a00).1) ∧ w.cell? ⟨g, j * 2 + 1, none⟩ = some (.string (ls.getD j a00).2)
      rw [ed]
      exact ⟨hc _ _ h0, hc _ _ h1⟩
/-- The same, as a row that can be appended to. -/
def OutOT (base : Nat) (w' : World) (ls : List Atm) (b : Bool) (e : Ending) : Prop := ∃ u, e = .returned (.tuple #[u, .bool b]) ∧ OwnT w' base u ls
theorem outOT_bad {t : ByteArray} (h : parL t = [] ∧ parLB t = false) (base : Nat) (w : World) : OutOT base w (parL t) (parLB t) (.returned (.tuple #[.slice none 0 0, .bool false])) := by
  rw [h.1, h.2]; exact ⟨_, rfl, World.ownsRow_nil _ _ _ _⟩
theorem OutOT.oa {base : Nat} {w' : World} {ls : List Atm} {b : Bool} {e : Ending} (h : OutOT base w' ls b e) : OutOA base w' ls b e := by
  obtain ⟨u, he, ho⟩ := h
  exact ⟨u, he, ownAs_of ho⟩
theorem boxed_below {W W' : World} {B : Nat} {t : TypeId} {v : Value} (h : Boxed W B t v) (hb : Below W.heap.size W W') : Boxed W' B t v := (hb.block B h.lt).trans h
theorem keeps_below {W W' : World} (hb : Below W.heap.size W W') : KeepsOthers W W' := ⟨hb.size, fun k _ hk _ => (hb.block k (Array.getElem?_eq_some_iff.1 hk).1).trans hk⟩
theorem boxed_keeps {W W' : World} {row : Option Nat} {B : Nat} {t : TypeId} {v : Value} (h : Boxed W B t v) (hg : W.grownBy W' row) (hr : ∀ r, row = some r → ∃ o : Obj, W.heap[r]? = some o ∧ o.isCells = false) : Boxed W' B t v := boxed_own (β := Unit) B t (fun _ => v) () W W' row h hg hr

theorem five_boxes (w : World) (t0 t1 t2 t3 t4 : TypeId) (v0 v1 v2 v3 v4 : Value) (W0 : World) (h : (((((w.alloc (.cells #[v0] t0)).alloc (.cells #[v1] t1)).alloc (.cells #[v2] t2)).alloc (.cells #[v3] t3)).alloc (.cells #[v4] t4)) = W0) :
    W0.heap.size = w.heap.size + 5 ∧ Boxed W0 w.heap.size t0 v0 ∧ Boxed W0 (w.heap.size + 1) t1 v1 ∧ Boxed W0 (w.heap.size + 1 + 1) t2 v2 ∧ Boxed W0 (w.heap.size + 1 + 1 + 1) t3 v3 ∧ Boxed W0 (w.heap.size + 1 + 1 + 1 + 1) t4 v4 ∧ Below w.heap.size w W0 := by
  subst h
  have c0 := Boxed.new w t0 v0
  have c1 := Boxed.new (w.alloc (.cells #[v0] t0)) t1 v1
  have c2 := Boxed.new ((w.alloc (.cells #[v0] t0)).alloc (.cells #[v1] t1)) t2 v2
  have c3 := Boxed.new (((w.alloc (.cells #[v0] t0)).alloc (.cells #[v1] t1)).alloc (.cells #[v2] t2)) t3 v3
  have c4 := Boxed.new ((((w.alloc (.cells #[v0] t0)).alloc (.cells #[v1] t1)).alloc (.cells #[v2] t2)).alloc (.cells #[v3] t3)) t4 v4
  simp only [World.size_alloc] at c1 c2 c3 c4
  refine ⟨by simp only [World.size_alloc], (((c0.alloc _).alloc _).alloc _).alloc _, ((c1.alloc _).alloc _).alloc _, (c2.alloc _).alloc _, c3.alloc _, c4, ?_⟩
  refine (((((Below.refl _ w).alloc (Nat.le_refl _) _).alloc ?_ _).alloc ?_ _).alloc ?_ _).alloc ?_ _ <;> simp only [World.size_alloc] <;> omega
set_option maxRecDepth 100000 in
set_option maxHeartbeats 4000000 in
theorem ParseTO_in (n : Nat) (hn : 5 ≤ n) (t : ByteArray) (ht : t.size ≤ 60) (w : World) :
    CallsIn Fence.wide n Tryz.prog 67 #[.string t] w fun e w' => OutOT w.heap.size w' (parL t) (parLB t) e ∧ Below w.heap.size w w' := by
  have h1 : 1 ≤ n := by omega
  obtain ⟨i0, hi, hz0, hz1, hz2⟩ := info_parts infoAt
  refine callsIn_of_wp_marks Tryz.func67 rfl trivial ?_ rfl
  simp only [Tryz.ntmps67, List.size_toArray, List.length_cons, List.length_nil, Nat.reduceAdd, Nat.reduceSub, Array.replicate_succ, Array.replicate_zero, List.push_toArray, List.append_toArray, List.nil_append, List.cons_append]
  gi_wp2_with fail
  refine ⟨trivial, (parts_in (n - 1) t ((32 : UInt8).toNat : Int) _).mono ?_⟩
  rintro e W0 ⟨rfl, hW0⟩
  obtain ⟨hs0, x0, x1, x2, x3, x4, hBW⟩ := five_boxes w _ _ _ _ _ _ _ _ _ _ W0 hW0.symm
  clear hW0
  gi_wp2
  refine wpIn_rangeFunc_ownF rfl h1 (gf := 79) (lb := #[.pointer (some ⟨w.heap.size + 1 + 1 + 1, 0, none⟩), .pointer (some ⟨w.heap.size + 1 + 1 + 1 + 1, 0, none⟩)]) rfl trivial (enters_of Tryz.func79 (by kernel_rfl) rfl)
    (parts_stopsY (n - 1) (by omega) (w.heap.size + 1 + 1 + 1) (w.heap.size + 1 + 1 + 1 + 1) t 32 (by omega) W0 (by omega) (by omega) x3.cell x4.cell)
    (fun h k => ⟨k.1.trans h.1, k.2.trans h.2⟩) (fun W l o o' hl h _ _ => ⟨World.putObj_heap_other (by omega), World.putObj_heap_other (by omega)⟩) (Below.refl _ _) (fun _ => rfl)
    (fun (pre : List Ty) W => ((∃ v, Boxed W (w.heap.size + 1 + 1) 83 v ∧ W.ownsRow w.heap.size 96 2 v (gotA pre).length (atCells (gotA pre)) ∧ True) ∧ Boxed W w.heap.size 83 (.slice none 0 0) ∧ Boxed W (w.heap.size + 1) 4 (.bool false) ∧ Boxed W (w.heap.size + 1 + 1 + 1) 9 (.string t) ∧ Boxed W (w.heap.size + 1 + 1 + 1 + 1) 5 (.int .u8 ((32 : UInt8).toNat : Int)) ∧ (pre.length ≤ 10 ∧ ∀ x ∈ pre, Pl.parOk (by8 x.1) = true)) ∧ Below w.heap.size w W)
    (fun c pre W => (c = .ret ∧ Boxed W w.heap.size 83 (.slice none 0 0) ∧ Boxed W (w.heap.size + 1) 4 (.bool false) ∧ (10 < pre.length ∨ ∃ x ∈ pre, Pl.parOk (by8 x.1) = false)) ∧ Below w.heap.size w W)
    (OwnFrom.and (Own.from (fun s A C row hs hg hr => ⟨holdsRow_own w.heap.size (w.heap.size + 1 + 1) 83 96 2 (fun pre : List Ty => (gotA pre).length) (fun pre : List Ty => atCells (gotA pre)) (fun _ _ => True) s A C row hs.1 hg hr, boxed_keeps hs.2.1 hg hr, boxed_keeps hs.2.2.1 hg hr, boxed_keeps hs.2.2.2.1 hg hr, boxed_keeps hs.2.2.2.2.1 hg hr, hs.2.2.2.2.2⟩) _) (ownFrom_below (Nat.le_refl _) (by omega)))
    (fun c => OwnFrom.and (Own.from (fun s A C row hs hg hr => ⟨hs.1, boxed_keeps hs.2.1 hg hr, boxed_keeps hs.2.2.1 hg hr, hs.2.2.2⟩) _) (ownFrom_below (Nat.le_refl _) (by omega)))
    ⟨⟨⟨_, x2, World.ownsRow_nil _ _ _ _, trivial⟩, x0, x1, x3, x4, Nat.zero_le _, fun x hx => by simp at hx⟩, hBW⟩
    (fun x => { tmps := #[.string t, undef, .pointer (some ⟨w.heap.size, 0, none⟩), .pointer (some ⟨w.heap.size + 1, 0, none⟩), .pointer (some ⟨w.heap.size + 1 + 1, 0, none⟩), .string x.1, undef, undef, .string t, .int .i64 (t.size : Int), .bool (decide (60 < (t.size : Int))), .string t, .int .u8 ((32 : UInt8).toNat : Int), .func (.func 79) #[] #[.pointer (some ⟨w.heap.size + 1 + 1 + 1, 0, none⟩), .pointer (some ⟨w.heap.size + 1 + 1 + 1 + 1, 0, none⟩)], .string x.1, undef, undef, undef, undef, undef, undef, undef, undef, undef, undef, undef, undef, undef, undef, undef, undef, undef], defers := [] }) ?assign ?body ?done ?stop
  case assign =>
    intro l x W K hK
    gi_wp2
    exact hK
  case body =>
    rintro l pre ⟨s, hs⟩ W ⟨⟨⟨v, hv, hrow, _⟩, hb0, hb1, hb3, hb4, hlen, hz⟩, hB⟩ hlt
    have cp := fun w => Parse5_any s w hs
    simp only [parAE_of] at cp
    have hgl := gotA_len pre
    have hgn := gotA_next pre ⟨s, hs⟩
    simp only at hgn
    obtain ⟨ek, hek⟩ : ∃ ek, ek = (atomOf s).1 := ⟨_, rfl⟩
    obtain ⟨et, het⟩ : ∃ et, et = (atomOf s).2 := ⟨_, rfl⟩
    rw [← hek, ← het] at cp
    rw [show atomOf s = (ek, et) by rw [hek, het]] at hgn
    by_cases h0 : Pl.parOk (by8 s) = false
    · rw [h0] at cp
      have CP := Lib.hid cp
      have HBad : Hid (10 < (pre ++ [(⟨s, hs⟩ : Ty)]).length ∨ ∃ x ∈ pre ++ [(⟨s, hs⟩ : Ty)], Pl.parOk (by8 x.1) = false) := .inr ⟨⟨s, hs⟩, by simp, h0⟩
      clear cp hz hgn hek het h0
      gi_wp2_with fail
      refine ⟨trivial, fun _ => by omega, (CallsIn.inRound l (callsIn_wide.2 (CP.out _))).mono ?_⟩
      rintro e W1 ⟨rfl, hb⟩
      have HY0 := Lib.hid ((boxed_below hb0 hb).alloc (.cells #[.int .i64 ek, .string et] 96))
      have HY1 := Lib.hid ((boxed_below hb1 hb).alloc (.cells #[.int .i64 ek, .string et] 96))
      have hbw := hB.trans (hb.mono hB.size)
      have HB1 := Lib.hid (hbw.alloc hbw.size (.cells #[.int .i64 ek, .string et] 96))
      have HK1 := Lib.hid (keeps_below (hb.alloc hb.size (.cells #[.int .i64 ek, .string et] 96)))
      have c0 := HY0.out.cell
      have f0 := HY0.out.frozen
      have HZ0 := Lib.hid (HY1.out.other (show w.heap.size + 1 ≠ w.heap.size by omega) (.slice none 0 0))
      have c1 := HZ0.out.cell
      have f1 := HZ0.out.frozen
      clear hv hrow hb0 hb1 hb3 hb4 hb hB hbw
      gi_wp2
      exact ⟨(HK1.out.trans (KeepsOthers.setCell _ _ _)).trans (KeepsOthers.setCell _ _ _), ⟨rfl, (HY0.out.set _).other (by omega) _, HZ0.out.set _, HBad.out⟩, (HB1.out.setCell (p := ⟨w.heap.size, 0, none⟩) (Nat.le_refl _) _).setCell (p := ⟨w.heap.size + 1, 0, none⟩) (by simp) _⟩
    · rw [Bool.not_eq_false] at h0
      rw [h0] at cp
      have CP := Lib.hid cp
      by_cases h10 : pre.length = 10
      · have HBad : Hid (10 < (pre ++ [(⟨s, hs⟩ : Ty)]).length ∨ ∃ x ∈ pre ++ [(⟨s, hs⟩ : Ty)], Pl.parOk (by8 x.1) = false) := .inl (by rw [List.length_append]; simp; omega)
        obtain ⟨va, vc, hve⟩ : ∃ va vc, v = .slice va (gotA pre).length vc := by obtain ⟨a, c, h, _⟩ := (ownT_at hrow).len; exact ⟨a, c, h⟩
        rw [hgl, h10] at hve
        subst hve
        clear cp hz hgn hek het h0
        gi_wp2_with fail
        refine ⟨trivial, fun _ => by omega, (CallsIn.inRound l (callsIn_wide.2 (CP.out _))).mono ?_⟩
        rintro e W1 ⟨rfl, hb⟩
        have HV := Lib.hid ((boxed_below hv hb).alloc (.cells #[.int .i64 ek, .string et] 96))
        have c2 := HV.out.cell
        have HY0 := Lib.hid ((boxed_below hb0 hb).alloc (.cells #[.int .i64 ek, .string et] 96))
        have HY1 := Lib.hid ((boxed_below hb1 hb).alloc (.cells #[.int .i64 ek, .string et] 96))
        have hbw := hB.trans (hb.mono hB.size)
        have HB1 := Lib.hid (hbw.alloc hbw.size (.cells #[.int .i64 ek, .string et] 96))
        have HK1 := Lib.hid (keeps_below (hb.alloc hb.size (.cells #[.int .i64 ek, .string et] 96)))
        have c0 := HY0.out.cell
        have f0 := HY0.out.frozen
        have HZ0 := Lib.hid (HY1.out.other (show w.heap.size + 1 ≠ w.heap.size by omega) (.slice none 0 0))
        have c1 := HZ0.out.cell
        have f1 := HZ0.out.frozen
        clear hv hrow hb0 hb1 hb3 hb4 hb hB hbw
        gi_wp2
        exact ⟨(HK1.out.trans (KeepsOthers.setCell _ _ _)).trans (KeepsOthers.setCell _ _ _), ⟨rfl, (HY0.out.set _).other (by omega) _, HZ0.out.set _, HBad.out⟩, (HB1.out.setCell (p := ⟨w.heap.size, 0, none⟩) (Nat.le_refl _) _).setCell (p := ⟨w.heap.size + 1, 0, none⟩) (by simp) _⟩
      · have HZ2 : Hid (∀ x ∈ pre ++ [(⟨s, hs⟩ : Ty)], Pl.parOk (by8 x.1) = true) := by
          intro x hx
          rcases List.mem_append.1 hx with hx | hx
          · exact hz x hx
          · simp at hx; subst hx; exact h0
        have HL2 : Hid ((pre ++ [(⟨s, hs⟩ : Ty)]).length ≤ 10) := by show _ ≤ _; rw [List.length_append]; simp; omega
        obtain ⟨va, vc, rfl, hvc⟩ := (ownT_at hrow).len
        obtain ⟨k, hk⟩ : ∃ k, k = (gotA pre).length := ⟨_, rfl⟩
        have hpl : ((k : Int) == 10) = false := by rw [beq_eq_false_iff_ne]; omega
        have HMM : Hid (atCells (gotA pre) ++ [.int .i64 ek, .string et] = atCells (gotA (pre ++ [(⟨s, hs⟩ : Ty)]))) := by show _ = _; rw [hgn, atCells_snoc]
        have HLL : Hid ((gotA (pre ++ [(⟨s, hs⟩ : Ty)])).length = k + 1) := by show _ = _; rw [hgn, List.length_append, hk]; rfl
        rw [← hk] at hrow hv
        obtain ⟨ks, hks⟩ : ∃ ks, ks = atCells (gotA pre) := ⟨_, rfl⟩
        rw [← hks] at hrow HMM
        have hk10 : k ≤ 10 := by omega
        clear cp hz hk hks hgl hgn hek het h0
        gi_wp2_with fail
        refine ⟨trivial, fun _ => by omega, (CallsIn.inRound l (callsIn_wide.2 (CP.out _))).mono ?_⟩
        rintro e W1 ⟨rfl, hb⟩
        have HY0 := Lib.hid ((boxed_below hb0 hb).alloc (.cells #[.int .i64 ek, .string et] 96))
        have HY1 := Lib.hid ((boxed_below hb1 hb).alloc (.cells #[.int .i64 ek, .string et] 96))
        have HY3 := Lib.hid ((boxed_below hb3 hb).alloc (.cells #[.int .i64 ek, .string et] 96))
        have HY4 := Lib.hid ((boxed_below hb4 hb).alloc (.cells #[.int .i64 ek, .string et] 96))
        have HV := Lib.hid ((boxed_below hv hb).alloc (.cells #[.int .i64 ek, .string et] 96))
        have HR := Lib.hid ((row_below hrow hb).alloc (.cells #[.int .i64 ek, .string et] 96))
        have hbw := hB.trans (hb.mono hB.size)
        have HB1 := Lib.hid (hbw.alloc hbw.size (.cells #[.int .i64 ek, .string et] 96))
        have hba := hb.alloc hb.size (.cells #[.int .i64 ek, .string et] 96)
        have HK1 := Lib.hid (keeps_below hba)
        have HQ : Hid ((W1.alloc (.cells #[.int .i64 ek, .string et] 96)).heap[w.heap.size + 1 + 1 + 1]? = W.heap[w.heap.size + 1 + 1 + 1]? ∧ (W1.alloc (.cells #[.int .i64 ek, .string et] 96)).heap[w.heap.size + 1 + 1 + 1 + 1]? = W.heap[w.heap.size + 1 + 1 + 1 + 1]?) := ⟨hba.block _ hb3.lt, hba.block _ hb4.lt⟩
        have c2 := HV.out.cell
        have hs1 := HB1.out.size
        clear hv hrow hb0 hb1 hb3 hb4 hb hB hbw hba
        have hcell : ∀ j u, [Value.int .i64 ek, .string et][j]? = some u → ((W1.alloc (.cells #[.int .i64 ek, .string et] 96)).alloc (.cells #[.int .i64 ek, .string et] 96)).cell? ((⟨W1.heap.size + 1, 0, none⟩ : Addr).add j) = some u := by
          have := cell_two_new (W1.alloc (.cells #[.int .i64 ek, .string et] 96)) (.int .i64 ek) (.string et) 96
          rw [World.size_alloc] at this
          exact this
        have HCell := Lib.hid hcell
        clear hcell
        gi_wp2_with (gi_at_builtin; refine wpListIn_append_own _ rfl _ _ 83 rfl w.heap.size 96 i0 (.agg #[.int .i64 0, .string ByteArray.empty]) 2 24 Tryz.underlying83 hi hz0 hz1 hz2 rfl (by decide) _ _ _ rfl (HR.out.alloc _) ⟨W1.heap.size + 1, 0, none⟩ 1 1 [.int .i64 ek, .string et] rfl rfl HCell.out (by simp [Value.oneCell']) (by unfold maxLen; omega) (by omega) (by simp at hs1 ⊢; omega) ?_; intro v' w1 hown' hgrow _; obtain ⟨g', cap', rfl⟩ := ownsRow_succ hown'; have HAP := Lib.hid (HV.out.appended (by decide) HR.out hs1 (by omega) hown' hgrow); have HG := Lib.hid hgrow; clear hown' hgrow; have hc1 := HAP.out.1.cell; have hf1 := HAP.out.1.frozen)
        have HX : ∀ {b : Nat} {T : TypeId} {u : Value}, Boxed (W1.alloc (.cells #[.int .i64 ek, .string et] 96)) b T u → T ≠ 96 → b ≠ w.heap.size + 1 + 1 → Boxed (w1.setCell ⟨w.heap.size + 1 + 1, 0, none⟩ (.slice (some ⟨g', 0, none⟩) (k + 1) cap')) b T u := fun hb hT hne => ((hb.alloc _).kept HG.out (hb.not_row hT HR.out)).other hne _
        obtain ⟨_, q2, q3, q4, q5⟩ := HAP.out
        have z0 := HX HY0.out (by decide) (by omega)
        have z1 := HX HY1.out (by decide) (by omega)
        have z3 := HX HY3.out (by decide) (by omega)
        have z4 := HX HY4.out (by decide) (by omega)
        refine ⟨HK1.out.trans q4, ⟨(z3.trans HY3.out.symm).trans HQ.out.1, (z4.trans HY4.out.symm).trans HQ.out.2⟩, ⟨⟨_, q2, ?_, trivial⟩, z0, z1, z3, z4, HL2.out, HZ2.out⟩, HB1.out.trans q5⟩
        rw [HLL.out, ← HMM.out]
        exact q3
  case done =>
    rintro D ys W hD hS ⟨⟨⟨v, hv, hrow, _⟩, hb0, hb1, hb3, hb4, hlen, hz⟩, hB⟩ hK
    have hy := gotA_yes ht hS hlen hz
    obtain ⟨va, vc, rfl, hvc⟩ := (ownT_at hrow).len
    obtain ⟨k, hk⟩ : ∃ k, k = (gotA ys).length := ⟨_, rfl⟩
    rw [← hk] at hv hrow
    have HK := Lib.hid hk
    have HYes := Lib.hid hy
    have c2 := hv.cell
    have c0 := hb0.cell
    have f0 := hb0.frozen
    have HZ0 := Lib.hid (hb0.set (.slice va k vc))
    have HZ1 := Lib.hid (hb1.other (show w.heap.size + 1 ≠ w.heap.size by omega) (.slice va k vc))
    have c1 := HZ1.out.cell
    have f1 := HZ1.out.frozen
    have HRow : Hid (((W.setCell ⟨w.heap.size, 0, none⟩ (.slice va k vc)).setCell ⟨w.heap.size + 1, 0, none⟩ (.bool true)).ownsRow w.heap.size 96 2 (.slice va k vc) k (atCells (gotA ys))) := by
      have r1 := hrow.kept (grownBy_setCell' W w.heap.size (.slice va k vc)) (.inr (hb0.not_row (by decide) hrow).symm)
      exact r1.kept (grownBy_setCell' _ (w.heap.size + 1) (.bool true)) (.inr (HZ1.out.not_row (by decide) r1).symm)
    have HKs : Hid (KeepsOthers W ((W.setCell ⟨w.heap.size, 0, none⟩ (.slice va k vc)).setCell ⟨w.heap.size + 1, 0, none⟩ (.bool true))) := (KeepsOthers.setCell _ _ _).trans (KeepsOthers.setCell _ _ _)
    have HBl : Hid (Below w.heap.size w ((W.setCell ⟨w.heap.size, 0, none⟩ (.slice va k vc)).setCell ⟨w.heap.size + 1, 0, none⟩ (.bool true))) := (hB.setCell (p := ⟨w.heap.size, 0, none⟩) (Nat.le_refl _) _).setCell (p := ⟨w.heap.size + 1, 0, none⟩) (by simp) _
    clear hv hrow hb0 hb1 hb3 hb4 hB hS hy hk hz
    gi_wp2
    have hK' := HKs.out.same D _ hK rfl
    refine ⟨by simp, .inl ⟨_, _, rfl, run_takeDeferred hK', ?_⟩⟩
    have d0 := cell_kept ((HZ0.out.other (show w.heap.size ≠ w.heap.size + 1 by omega) (.bool true)).cell) (grownBy_putObj' _ D (.deferred none)) (fun r e => by cases e; exact ⟨_, hK', rfl⟩)
    have d1 := cell_kept ((HZ1.out.set (.bool true)).cell) (grownBy_putObj' _ D (.deferred none)) (fun r e => by cases e; exact ⟨_, hK', rfl⟩)
    refine ⟨.tuple #[.slice va k vc, .bool true], ?_, ?_, HBl.out.trans (belowK_b (w := w) (Nat.le_refl _) _ D _ _ (by omega) hK' rfl rfl)⟩
    · simp [results, Tryz.f67, go_sem, d0, d1]
    · rw [HYes.out.1, HYes.out.2]
      refine ⟨_, rfl, ?_⟩
      have ho := ownsRow_putObj HRow.out (.deferred none) hK' rfl
      rw [HK.out] at ho
      rw [HK.out]
      exact ho
  case stop =>
    rintro D c pre W hD hS ⟨⟨rfl, hb0, hb1, hbad⟩, hB⟩ hK
    have HF := Lib.hid (fun base w => outOT_bad (gotA_no hS hbad) base w)
    have c0 := cell_kept hb0.cell (grownBy_putObj' _ D (.deferred none)) (fun r e => by cases e; exact ⟨_, hK, rfl⟩)
    have c1 := cell_kept hb1.cell (grownBy_putObj' _ D (.deferred none)) (fun r e => by cases e; exact ⟨_, hK, rfl⟩)
    gi_wp2
    refine ⟨by simp, .inl ⟨_, _, rfl, run_takeDeferred hK, ?_⟩⟩
    refine ⟨.tuple #[.slice none 0 0, .bool false], ?_, HF.out _ _, hB.trans (belowK_b (w := w) (Nat.le_refl _) W D _ _ (by omega) hK rfl rfl)⟩
    simp [results, Tryz.f67, go_sem, c0, c1]
theorem ParseTO_any (t : ByteArray) (w : World) (ht : t.size ≤ 1048576) :
    Calls Tryz.prog 67 #[.string t] w fun e w' => OutOT w.heap.size w' (parL t) (parLB t) e ∧ Below w.heap.size w w' := by
  by_cases h60 : t.size ≤ 60
  · exact (callsIn_wide (n := 9)).1 (ParseTO_in 9 (by omega) t h60 w)
  · have hb : parLB t = false := by unfold parLB; rw [decide_eq_false h60, Bool.false_and]
    have HF := Lib.hid (fun base w => outOT_bad ⟨parL_no hb, hb⟩ base w)
    clear hb
    go_enter Tryz.func67, Tryz.ntmps67
    go_wp2
    refine bodyPost_ret (v := .tuple #[.slice none 0 0, .bool false]) ?_ rfl ⟨HF.out _ _, ((Below.refl _ _).alloc (Nat.le_refl _) _).alloc (by simp) _⟩
    simp [results, Tryz.f67, go_sem]
theorem ParseT_any (t : ByteArray) (w : World) (ht : t.size ≤ 1048576) :
    Calls Tryz.prog 67 #[.string t] w fun e w' => OutOA w.heap.size w' (parL t) (parLB t) e ∧ Below w.heap.size w w' :=
  (ParseTO_any t w ht).mono fun _ _ h => ⟨h.1.oa, h.2⟩
end Go.Proofs.YtnpiphkglhcifaaGreat
