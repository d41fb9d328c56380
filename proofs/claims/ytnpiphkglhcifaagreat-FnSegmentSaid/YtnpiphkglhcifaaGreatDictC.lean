/-
  CONTRACTS of chapter 6 of the specification: IsValidEntry, IsValidDictionary, Lookup, LongestOutline, the text of a dictionary, FormatDictionary.
-/
import Derived.Test.YtnpiphkglhcifaaGreatEnts
import Derived.Test.YtnpiphkglhcifaaGreatPlainDict
import Derived.Test.YtnpiphkglhcifaaGreatTransP
import Derived.Lib.QuietBelow
import Derived.BigQuiet
namespace Go.Proofs.YtnpiphkglhcifaaGreat
set_option maxRecDepth 100000
open Go.RowKit

/-- Is the entry valid, the dictionary? -/
def okE (e : Ent) : Bool := okO e.1 && parLB e.2
def okD (es : List Ent) : Bool := decide (es.length ≤ 40) && (es.all okE && Pl.incB es)
theorem okD_parts {es : List Ent} (h : okD es = true) : es.length ≤ 40 ∧ (∀ e ∈ es, okE e = true) ∧ Pl.Inc es := by
  unfold okD at h
  rw [Bool.and_eq_true, Bool.and_eq_true, decide_eq_true_eq] at h
  exact ⟨h.1, List.all_eq_true.1 h.2.1, (Pl.incB_iff es).1 h.2.2⟩
theorem okD_of {es : List Ent} (h1 : es.length ≤ 40) (h2 : ∀ e ∈ es, okE e = true) (h3 : Pl.Inc es) : okD es = true := by
  unfold okD
  rw [Bool.and_eq_true, Bool.and_eq_true, decide_eq_true_eq]
  exact ⟨h1, List.all_eq_true.2 h2, (Pl.incB_iff es).2 h3⟩
theorem okD_no_len {es : List Ent} (h : ¬ es.length ≤ 40) : okD es = false := by unfold okD; rw [decide_eq_false h]; rfl
theorem okD_no_at {es : List Ent} {k : Nat} {e : Ent} (h : es[k]? = some e) (he : okE e = false) : okD es = false := by
  have : es.all okE = false := by rw [List.all_eq_false]; exact ⟨e, List.mem_of_getElem? h, by rw [he]; decide⟩
  unfold okD; rw [this]; simp
theorem okD_no_inc {es : List Ent} (k : Nat) (h : Pl.incB (es.take k) = false) : okD es = false := by
  unfold okD; rw [Pl.incB_take k h]; simp
theorem okE_O {e : Ent} (h : okE e = true) : okO e.1 = true ∧ parLB e.2 = true := by unfold okE at h; rwa [Bool.and_eq_true] at h
theorem okE_size {e : Ent} (h : okE e = true) : 1 ≤ e.1.length ∧ e.1.length ≤ 6 ∧ e.2.size ≤ 60 := by
  obtain ⟨h1, h2⟩ := okE_O h
  obtain ⟨h3, h4, _⟩ := okO_parts h1
  unfold parLB at h2
  rw [Bool.and_eq_true, decide_eq_true_eq] at h2
  exact ⟨h3, h4, h2.1⟩
theorem allD_next {es : List Ent} {k : Nat} {e : Ent} (h : es[k]? = some e) (ha : (es.take k).all okE = true) (he : okE e = true) : (es.take (k + 1)).all okE = true := by
  rw [List.take_add_one, h, List.all_append, ha, Bool.true_and]; simp [he]
/-- What entries may be for the walks. -/
def entOk (e : Ent) : Prop := e.1.length ≤ 2097152 ∧ e.2.size ≤ 1048576
theorem cell_new (w : World) (cs : Array Value) (T : TypeId) (i : Nat) : (w.alloc (.cells cs T)).cell? ⟨w.heap.size, i, none⟩ = cs[i]? := by
  have h : (w.alloc (.cells cs T)).heap[w.heap.size]? = some (.cells cs T) := by show (w.heap.push _)[w.heap.size]? = _; simp
  unfold World.cell?
  simp only [h]
  rfl
/-- A struct of two cells, of one, in a box. -/
theorem box2 {w w1 : World} {x y : Value} {T : TypeId} (hb : Below (w.alloc (.cells #[x, y] T)).heap.size (w.alloc (.cells #[x, y] T)) w1) : w1.cell? ⟨w.heap.size, 0, none⟩ = some x ∧ w1.cell? ⟨w.heap.size, 1, none⟩ = some y :=
  ⟨(hb.cell (p := ⟨w.heap.size, 0, none⟩) (by simp)).trans (cell_new w _ T 0), (hb.cell (p := ⟨w.heap.size, 1, none⟩) (by simp)).trans (cell_new w _ T 1)⟩
theorem box1 {w w1 : World} {x : Value} {T : TypeId} (hb : Below (w.alloc (.cells #[x] T)).heap.size (w.alloc (.cells #[x] T)) w1) : w1.cell? ⟨w.heap.size, 0, none⟩ = some x :=
  (hb.cell (p := ⟨w.heap.size, 0, none⟩) (by simp)).trans (cell_new w _ T 0)
theorem below_step {a b c : World} (h : Below a.heap.size a b) (k : Below b.heap.size b c) : Below a.heap.size a c := h.trans (k.mono h.size)
theorem below_drew1 {B : Nat} {a w : World} (h : Below B a w) : Below B a w.drew := below_drewN h 1
theorem below_box {w w1 : World} {o : Obj} (hb : Below (w.alloc o).heap.size (w.alloc o) w1) : Below w.heap.size w w1 :=
  ((Below.refl w.heap.size w).alloc (Nat.le_refl _) _).trans (hb.mono (by rw [World.size_alloc]; omega))

set_option maxHeartbeats 1000000 in
theorem l6Entry_any (u : Value) (e : Ent) (w : World) (h : IntsAt w u e.1) (he : entOk e) :
    Calls Tryz.prog 33 #[enV u e.2] w fun r w' => r = .returned (.bool (okE e)) ∧ Below w.heap.size w w' := by
  obtain ⟨xs, t⟩ := e
  obtain ⟨he1, he2⟩ := he
  simp only at h he1 he2
  have C := Lib.hid (fun w => l5Parse_any t w he2)
  have CG := Lib.hid (fun w h => l4Good_any u xs w h he1)
  have HI := Lib.hid h
  obtain ⟨a, cap, rfl, hcap, _⟩ := h.cells
  have HE : Hid (okE (xs, t) = (okO xs && parLB t)) := rfl
  obtain ⟨R, hR⟩ : ∃ R, R = okE (xs, t) := ⟨_, rfl⟩
  rw [← hR] at HE ⊢
  obtain ⟨L, hL⟩ : ∃ L, L = parL t := ⟨_, rfl⟩
  obtain ⟨b, hb⟩ : ∃ b, b = parLB t := ⟨_, rfl⟩
  obtain ⟨g, hg⟩ : ∃ g, g = okO xs := ⟨_, rfl⟩
  rw [← hL, ← hb] at C
  rw [← hg] at CG
  rw [← hg, ← hb] at HE
  clear h hR hL hb hg
  unfold enV
  go_enter Tryz.func33, Tryz.ntmps33
  go_wp2_with fail
  refine (C.out _).mono ?_
  rintro r w1 ⟨⟨v1, rfl, _⟩, hb⟩
  obtain ⟨c0, c1⟩ := box2 hb
  have HB := Lib.hid (below_box hb)
  have HG := Lib.hid (CG.out w1 (HI.out.below (below_box hb)))
  clear hb C CG
  go_wp2_with fail
  refine HG.out.mono ?_
  rintro r w2 ⟨rfl, rfl⟩
  cases g
  all_goals
    go_wp2
    go_ret
    exact ⟨ret_bool (by rw [HE.out]; rfl), HB.out⟩
/-- The cells of a slice of entries, in every later world. -/
def EntCells (w : World) (a : Option Addr) (es : List Ent) : Prop :=
  ∀ w1 : World, Below w.heap.size w w1 → ∀ (j : Nat) e, es[j]? = some e → ∃ bk o u, a = some ⟨bk, o, none⟩ ∧ bk < w.heap.size ∧ w1.cell? ⟨bk, o + j * 2, none⟩ = some u ∧ w1.cell? ⟨bk, o + j * 2 + 1, none⟩ = some (.string e.2) ∧ IntsAt w1 u e.1
theorem EntsAt.cells {w : World} {v : Value} {es : List Ent} (h : EntsAt w v es) : ∃ a cap, v = .slice a es.length cap ∧ es.length ≤ cap ∧ EntCells w a es := by
  obtain ⟨a, cap, rfl, hc, h⟩ := h
  refine ⟨a, cap, rfl, hc, fun w1 hb j e he => ?_⟩
  rcases h with rfl | ⟨bk, o, ha, hk, h⟩
  · simp at he
  · obtain ⟨u, h0, h1, h2⟩ := h j e he
    exact ⟨bk, o, u, ha, hk, (hb.cell (p := ⟨bk, o + j * 2, none⟩) hk).trans h0, (hb.cell (p := ⟨bk, o + j * 2 + 1, none⟩) hk).trans h1, h2.below hb⟩
set_option maxHeartbeats 2000000 in
theorem l6Good_any (v : Value) (es : List Ent) (w : World) (h : EntsAt w v es) (hn : es.length ≤ 2097152) (hx : ∀ e ∈ es, entOk e) :
    Calls Tryz.prog 18 #[dV v] w fun r w' => r = .returned (.bool (okD es)) ∧ Below w.heap.size w w' := by
  obtain ⟨a, cap, rfl, hcap, hC⟩ := h.cells
  have HNo := Lib.hid (fun k e (h : es[k]? = some e) he => okD_no_at h he)
  have HNi := Lib.hid (fun k h => okD_no_inc (es := es) k h)
  have HX := Lib.hid (fun k e (h : es[k]? = some e) => hx e (List.mem_of_getElem? h))
  have CE := Lib.hid (fun u e w h he => l6Entry_any u e w h he)
  have CC := Lib.hid (fun v u xs ys w h h' hn hm => l4Compare_any v u xs ys w h h' hn hm)
  have hlong := fun h => okD_no_len (es := es) h
  have HYes : Hid (es.length ≤ 40 → es.all okE = true → Pl.incB es = true → okD es = true) := fun h1 h2 h3 => by unfold okD; rw [h2, h3, decide_eq_true h1]; rfl
  obtain ⟨n, hnn⟩ : ∃ n, n = es.length := ⟨_, rfl⟩
  rw [← hnn] at hn hcap hlong HYes ⊢
  have HN := Lib.hid hnn
  have HC := Lib.hid hC
  obtain ⟨R, hR⟩ : ∃ R, R = okD es := ⟨_, rfl⟩
  rw [← hR] at HNo HNi hlong HYes ⊢
  clear h hx hnn hC hR
  unfold dV
  by_cases h40 : n ≤ 40
  · have h40' : ¬ (40 < (n : Int)) := by omega
    clear hlong
    go_enter Tryz.func18, Tryz.ntmps18
    go_wp2_with fail
    go_loopw [3] (fun i wr => ∃ k : Nat, i = .int .i64 k ∧ k ≤ n ∧ Hid ((es.take k).all okE = true) ∧ Hid (Pl.incB (es.take k) = true) ∧ Below (w.alloc (.cells #[.slice a n cap] 26)).heap.size (w.alloc (.cells #[.slice a n cap] 26)) wr) (fun i _ => n - (intOf i).toNat)
    case atStart => exact ⟨0, rfl, Nat.zero_le _, Lib.hid rfl, Lib.hid rfl, Below.refl _ _⟩
    case round =>
      obtain ⟨k, rfl, hk, HA, HI, hbel⟩ := hrel
      have hbox := box1 hbel
      have HB := Lib.hid (below_box hbel)
      have HBel := Lib.hid hbel
      by_cases hlt : k < n
      · obtain ⟨e, he⟩ : ∃ e, es[k]? = some e := ⟨_, List.getElem?_eq_getElem (by rw [← HN.out]; exact hlt)⟩
        obtain ⟨bk, o, u, rfl, hbk, g0, g1, gi⟩ := HC.out wr HB.out k e he
        have hxe := HX.out k e he
        have ce := CE.out u e wr gi hxe
        obtain ⟨b, hb⟩ : ∃ b, b = okE e := ⟨_, rfl⟩
        rw [← hb] at ce
        have CE1 := Lib.hid ce
        obtain ⟨ua, ucap, rfl, _, _⟩ := gi.cells
        have HE := Lib.hid he
        have HGI := Lib.hid gi
        have HXE := Lib.hid hxe
        have HBb := Lib.hid hb
        obtain ⟨xs, t⟩ := e
        simp only [enV] at CE1 g0 g1
        clear ce hb he hxe gi hbel
        have kb := cell_regrown hbox
        have k0 := cell_regrown g0
        have k1 := cell_regrown g1
        have CE2 : Hid (∀ d os, Calls Tryz.prog 33 #[.agg #[.slice ua xs.length ucap, .string t]] (Go.Sort.grow (redrawn wr d) os) fun r w'' => r = .returned (.bool b) ∧ ∃ p : Regrown, w'' = Go.Sort.grow (redrawn wr p.d) p.os) := by
          intro d os
          have := CE.out _ (xs, t) _ (HGI.out.below (below_regrown wr d os)) HXE.out
          rw [← HBb.out] at this
          exact Calls.regrown_of this
        clear CE1 CE
        cases b
        · have HF : Hid (R = false) := HNo.out k _ HE.out HBb.out.symm
          clear HE HGI HNo HNi HX CC HC HXE HA HI
          go_wp2_with fail
          refine wp_region_quiet_below (by kernel_rfl) (by kernel_rfl) ?_
          repeat (go_big_quiet_step (exact CE2.out _ _))
          refine wpQuiet_nil ?_
          rintro _ ⟨⟨dq, osq⟩, rfl⟩
          have HB1 : Hid (Below wr.heap.size wr (Go.Sort.grow (redrawn wr dq) osq)) := below_regrown wr dq osq
          go_wp2
          go_ret
          exact ⟨ret_bool HF.out.symm, below_step HB.out HB1.out⟩
        · have HA1 : Hid ((es.take (k + 1)).all okE = true) := allD_next HE.out HA.out HBb.out.symm
          rcases Nat.eq_zero_or_pos k with hk0 | hk0
          · subst hk0
            simp only [Nat.zero_mul, Nat.add_zero] at k0 k1
            have HI1 : Hid (Pl.incB (es.take (0 + 1)) = true) := by
              show Pl.incB (es.take (0 + 1)) = true
              rw [List.take_add_one, HE.out]; rfl
            clear HE HGI HNo HNi HX CC HXE HA HI
            go_wp2_with fail
            refine wp_region_quiet_below (by kernel_rfl) (by kernel_rfl) ?_
            repeat (go_big_quiet_step (exact CE2.out _ _))
            refine wpQuiet_nil ?_
            rintro _ ⟨⟨dq, osq⟩, rfl⟩
            have HB1 : Hid (Below wr.heap.size wr (Go.Sort.grow (redrawn wr dq) osq)) := below_regrown wr dq osq
            go_wp2
            go_roundw
            case rel => exact ⟨0 + 1, by go_num, by omega, HA1, HI1, HBel.out.trans (HB1.out.mono HBel.out.size)⟩
            case measure => show n - 1 < n - 0; omega
          · obtain ⟨m, rfl⟩ : ∃ m, k = m + 1 := ⟨k - 1, by omega⟩
            obtain ⟨e', he'⟩ : ∃ e', es[m]? = some e' := ⟨_, List.getElem?_eq_getElem (by rw [← HN.out]; omega)⟩
            obtain ⟨bk', o', u', hbo, hbk', g0', g1', gi'⟩ := HC.out wr HB.out m e' he'
            injection hbo with hbo
            injection hbo with hb1 hb2
            subst hb1 hb2
            obtain ⟨xs', t'⟩ := e'
            simp only at g0' g1' gi'
            obtain ⟨ua', ucap', rfl, _, _⟩ := gi'.cells
            have k0' := cell_regrown g0'
            have k1' := cell_regrown g1'
            have hl : xs.length ≤ 2097152 := HXE.out.1
            have hl' : xs'.length ≤ 2097152 := (HX.out m _ he').1
            have hinc := Pl.incB_next he' HE.out
            simp only at hinc
            obtain ⟨c, hc⟩ : ∃ c, c = Pl.cmp xs' xs := ⟨_, rfl⟩
            rw [← hc] at hinc
            have HGI' := Lib.hid gi'
            have CC2 : Hid (∀ d os, Calls Tryz.prog 34 #[.slice ua' xs'.length ucap', .slice ua xs.length ucap] (Go.Sort.grow (redrawn wr d) os) fun r w'' => r = .returned (.int .i64 c) ∧ ∃ p : Regrown, w'' = Go.Sort.grow (redrawn wr p.d) p.os) := by
              intro d os
              have := CC.out _ _ xs' xs _ (HGI'.out.below (below_regrown wr d os)) (HGI.out.below (below_regrown wr d os)) hl' hl
              rw [← hc] at this
              exact Calls.regrown_of this
            rw [show (es.take (m + 1)) = es.take (m + 1) from rfl, HI.out, Bool.true_and] at hinc
            have hm1 : ((m + 1 : Nat) : Int) - 1 = (m : Int) := by omega
            by_cases hc0 : 0 ≤ c
            · have HF : Hid (R = false) := HNi.out (m + 1 + 1) (by rw [hinc]; exact decide_eq_false (by omega))
              clear HE HGI HGI' HNo HNi HX CC HC HXE HA HI HA1 hinc hc he' gi'
              go_wp2_with fail
              refine wp_region_quiet_below (by kernel_rfl) (by kernel_rfl) ?_
              repeat (go_big_quiet_step (first | exact CE2.out _ _ | exact CC2.out _ _))
              refine wpQuiet_nil ?_
              rintro _ ⟨⟨dq, osq⟩, rfl⟩
              have HB1 : Hid (Below wr.heap.size wr (Go.Sort.grow (redrawn wr dq) osq)) := below_regrown wr dq osq
              go_wp2
              go_ret
              exact ⟨ret_bool HF.out.symm, below_step HB.out HB1.out⟩
            · have HI1 : Hid (Pl.incB (es.take (m + 1 + 1)) = true) := by
                show Pl.incB (es.take (m + 1 + 1)) = true
                rw [hinc]; exact decide_eq_true (by omega)
              clear HE HGI HGI' HNo HNi HX CC HC HXE HA HI hinc hc he' gi'
              go_wp2_with fail
              refine wp_region_quiet_below (by kernel_rfl) (by kernel_rfl) ?_
              repeat (go_big_quiet_step (first | exact CE2.out _ _ | exact CC2.out _ _))
              refine wpQuiet_nil ?_
              rintro _ ⟨⟨dq, osq⟩, rfl⟩
              have HB1 : Hid (Below wr.heap.size wr (Go.Sort.grow (redrawn wr dq) osq)) := below_regrown wr dq osq
              go_wp2
              go_roundw
              case rel => exact ⟨m + 1 + 1, by go_num, by omega, HA1, HI1, HBel.out.trans (HB1.out.mono HBel.out.size)⟩
              case measure => simp [intOf]; omega
      · obtain rfl : k = n := by omega
        have HF : Hid (R = true) := by
          have h2 := HA.out
          have h3 := HI.out
          rw [List.take_of_length_le (by rw [← HN.out]; exact Nat.le_refl _)] at h2 h3
          exact HYes.out h40 h2 h3
        clear HA HI
        go_wp2
        go_ret
        exact ⟨ret_bool HF.out.symm, HB.out⟩
  · have HF := Lib.hid (hlong h40)
    have h40' : 40 < (n : Int) := by omega
    clear hlong
    go_enter Tryz.func18, Tryz.ntmps18
    go_wp2
    go_ret
    exact ⟨ret_bool HF.out.symm, (Below.refl _ _).alloc (Nat.le_refl _) _⟩
end Go.Proofs.YtnpiphkglhcifaaGreat

namespace Go.Proofs.YtnpiphkglhcifaaGreat
set_option maxRecDepth 100000
open Go.RowKit

/-- What l6At answers. -/
def idxI (o : List Int) (es : List Ent) : Int := match Pl.idx o es with | some k => (k : Int) | none => -1
theorem idxI_at {o : List Int} {es : List Ent} {k : Nat} {e : Ent} (hn : ∀ y ∈ es.take k, y.1 ≠ o) (h : es[k]? = some e) (he : e.1 = o) : idxI o es = (k : Int) := by unfold idxI; rw [Pl.idx_at hn h he]
theorem idxI_none {o : List Int} {es : List Ent} (h : ∀ y ∈ es, y.1 ≠ o) : idxI o es = -1 := by unfold idxI; rw [Pl.idx_none h]
theorem none_next {es : List Ent} {k : Nat} {e : Ent} {o : List Int} (h : es[k]? = some e) (hn : ∀ y ∈ es.take k, y.1 ≠ o) (he : e.1 ≠ o) : ∀ y ∈ es.take (k + 1), y.1 ≠ o := by
  rw [List.take_add_one, h]
  intro y hy
  rcases List.mem_append.1 hy with hy | hy
  · exact hn y hy
  · have : y = e := by simpa using hy
    rw [this]; exact he
/-- A text or none, as an answer. -/
def lkE (x : Option ByteArray) : Ending := .returned (.tuple #[.string (x.getD ⟨#[]⟩), .bool x.isSome])

set_option maxHeartbeats 1000000 in
theorem l6At_any (v : Value) (es : List Ent) (u : Value) (ys : List Int) (w : World) (h : EntsAt w v es) (hu : IntsAt w u ys) (hn : es.length ≤ 2097152) (hx : ∀ e ∈ es, entOk e) (hy : ys.length ≤ 2097152) :
    Calls Tryz.prog 45 #[dV v, u] w fun r w' => r = .returned (.int .i64 (idxI ys es)) ∧ Below w.heap.size w w' := by
  obtain ⟨a, cap, rfl, hcap, hC⟩ := h.cells
  obtain ⟨ub, ucp, rfl, _, _⟩ := hu.cells
  have HYes := Lib.hid (fun k e hn h he => idxI_at (o := ys) (es := es) (k := k) (e := e) hn h he)
  have HNone := Lib.hid (fun h => idxI_none (o := ys) (es := es) h)
  have HX := Lib.hid (fun k e (h : es[k]? = some e) => hx e (List.mem_of_getElem? h))
  have CS := Lib.hid (fun v u xs ys w h h' hn hm => l1Same_any v u xs ys w h h' hn hm)
  obtain ⟨n, hnn⟩ : ∃ n, n = es.length := ⟨_, rfl⟩
  rw [← hnn] at hn hcap ⊢
  have HN := Lib.hid hnn
  have HC := Lib.hid hC
  have HU := Lib.hid hu
  have HYL := Lib.hid hy
  obtain ⟨R, hR⟩ : ∃ R, R = idxI ys es := ⟨_, rfl⟩
  rw [← hR] at HYes HNone ⊢
  clear h hx hnn hC hR hu
  unfold dV
  go_enter Tryz.func45, Tryz.ntmps45
  go_wp2_with fail
  go_loopw [5] (fun i wr => ∃ k : Nat, i = .int .i64 k ∧ k ≤ n ∧ Hid (∀ y ∈ es.take k, y.1 ≠ ys) ∧ Below (w.alloc (.cells #[.slice a n cap] 26)).heap.size (w.alloc (.cells #[.slice a n cap] 26)) wr) (fun i _ => n - (intOf i).toNat)
  case atStart => exact ⟨0, rfl, Nat.zero_le _, Lib.hid (by intro y hy; simp at hy), Below.refl _ _⟩
  case round =>
    obtain ⟨k, rfl, hk, HA, hbel⟩ := hrel
    have hbox := box1 hbel
    have HB := Lib.hid (below_box hbel)
    have HBel := Lib.hid hbel
    by_cases hlt : k < n
    · obtain ⟨e, he⟩ : ∃ e, es[k]? = some e := ⟨_, List.getElem?_eq_getElem (by rw [← HN.out]; exact hlt)⟩
      obtain ⟨bk, o, uk, rfl, hbk, g0, g1, gi⟩ := HC.out wr HB.out k e he
      obtain ⟨xs, t⟩ := e
      simp only at g0 g1 gi
      have hxl : xs.length ≤ 2097152 := (HX.out k _ he).1
      have HGI := Lib.hid gi
      obtain ⟨ua, ucap, rfl, _, _⟩ := gi.cells
      obtain ⟨b, hb⟩ : ∃ b, b = decide (xs = ys) := ⟨_, rfl⟩
      have CS2 : Hid (Calls Tryz.prog 56 #[.slice ua xs.length ucap, .slice ub ys.length ucp] wr fun r w'' => r = .returned (.bool b) ∧ Below wr.heap.size wr w'') := by
        have := CS.out _ _ xs ys _ HGI.out (HU.out.below HB.out) hxl HYL.out
        rw [← hb] at this
        exact this
      have HE := Lib.hid he
      have HBb := Lib.hid hb
      clear he hb gi CS
      cases b
      · have HA1 : Hid (∀ y ∈ es.take (k + 1), y.1 ≠ ys) := none_next HE.out HA.out (of_decide_eq_false HBb.out.symm)
        clear HE HGI HX HC HA HYes HNone
        go_wp2_with fail
        refine CS2.out.mono ?_
        rintro r w1 ⟨rfl, hb1⟩
        have HB1 := Lib.hid hb1
        clear hb1
        go_wp2
        go_roundw
        case rel => exact ⟨k + 1, by go_num, by omega, HA1, HBel.out.trans (HB1.out.mono HBel.out.size)⟩
        case measure => simp [intOf]; omega
      · have HF : Hid (R = (k : Int)) := HYes.out k _ HA.out HE.out (of_decide_eq_true HBb.out.symm)
        clear HE HGI HX HC HA HYes HNone
        go_wp2_with fail
        refine CS2.out.mono ?_
        rintro r w1 ⟨rfl, hb1⟩
        have HB1 := Lib.hid hb1
        clear hb1
        go_wp2
        go_ret
        exact ⟨ret_int HF.out.symm, below_step HB.out HB1.out⟩
    · obtain rfl : k = n := by omega
      have HF : Hid (R = -1) := HNone.out (by have h2 := HA.out; rw [List.take_of_length_le (by rw [← HN.out]; exact Nat.le_refl _)] at h2; exact h2)
      clear HA HYes HNone
      go_wp2
      go_ret
      exact ⟨ret_int HF.out.symm, HB.out⟩
set_option maxHeartbeats 1000000 in
theorem l6Find_any (v : Value) (es : List Ent) (u : Value) (ys : List Int) (w : World) (h : EntsAt w v es) (hu : IntsAt w u ys) (hn : es.length ≤ 2097152) (hx : ∀ e ∈ es, entOk e) (hy : ys.length ≤ 2097152) :
    Calls Tryz.prog 30 #[dV v, u] w fun r w' => r = lkE (Pl.look ys es) ∧ Below w.heap.size w w' := by
  have C := Lib.hid (fun w h hu => l6At_any v es u ys w h hu hn hx hy)
  have HV := Lib.hid h
  have HU := Lib.hid hu
  obtain ⟨a, cap, rfl, hcap, hC⟩ := h.cells
  obtain ⟨ub, ucp, rfl, _, _⟩ := hu.cells
  obtain ⟨R, hR⟩ : ∃ R, R = lkE (Pl.look ys es) := ⟨_, rfl⟩
  rw [← hR]
  cases hi : Pl.idx ys es with
  | none =>
    have c : ∀ w, EntsAt w (.slice a es.length cap) es → IntsAt w (.slice ub ys.length ucp) ys → Calls Tryz.prog 45 #[dV (.slice a es.length cap), .slice ub ys.length ucp] w fun r w' => r = .returned (.int .i64 (-1)) ∧ Below w.heap.size w w' := by
      intro w h hu
      have := C.out w h hu
      unfold idxI at this
      rw [hi] at this
      exact this
    have HF : Hid (R = .returned (.tuple #[.string ⟨#[]⟩, .bool false])) := by
      show R = _
      rw [hR, Pl.look_none_idx hi]; rfl
    have hal : Below w.heap.size w (w.alloc (.cells #[.slice a es.length cap] 26)) := (Below.refl _ _).alloc (Nat.le_refl _) _
    have D1 := Lib.hid (c _ (HV.out.below hal) (HU.out.below hal))
    clear c C hi hR h hu hC hal
    unfold dV at D1 ⊢
    go_enter Tryz.func30, Tryz.ntmps30
    go_wp2_with fail
    refine D1.out.mono ?_
    rintro r w1 ⟨rfl, hb⟩
    have HB := Lib.hid (below_box hb)
    clear hb
    go_wp2
    go_ret2
    exact ⟨HF.out.symm, HB.out⟩
  | some k =>
    obtain ⟨e, he, hee⟩ := Pl.idx_some hi
    have hk := (List.getElem?_eq_some_iff.1 he).1
    have c : ∀ w, EntsAt w (.slice a es.length cap) es → IntsAt w (.slice ub ys.length ucp) ys → Calls Tryz.prog 45 #[dV (.slice a es.length cap), .slice ub ys.length ucp] w fun r w' => r = .returned (.int .i64 (k : Int)) ∧ Below w.heap.size w w' := by
      intro w h hu
      have := C.out w h hu
      unfold idxI at this
      rw [hi] at this
      exact this
    have HF : Hid (R = .returned (.tuple #[.string e.2, .bool true])) := by
      show R = _
      rw [hR, Pl.look_idx hi he]; rfl
    have hal : Below w.heap.size w (w.alloc (.cells #[.slice a es.length cap] 26)) := (Below.refl _ _).alloc (Nat.le_refl _) _
    have D1 := Lib.hid (c _ (HV.out.below hal) (HU.out.below hal))
    clear hal
    have HC := Lib.hid hC
    have HE := Lib.hid he
    obtain ⟨n, hnn⟩ : ∃ n, n = es.length := ⟨_, rfl⟩
    rw [← hnn] at hk hcap hn D1 ⊢
    have hk' : (k : Int) < (n : Int) := by omega
    have hk0 : ¬ (k : Int) < 0 := by omega
    clear c C hi hR h hu hC hx hy he hee hnn
    unfold dV at D1 ⊢
    go_enter Tryz.func30, Tryz.ntmps30
    go_wp2_with fail
    refine D1.out.mono ?_
    rintro r w1 ⟨rfl, hb⟩
    have hbox := box1 hb
    have HB := Lib.hid (below_box hb)
    obtain ⟨bk, o, uk, rfl, hbk, g0, g1, gi⟩ := HC.out w1 HB.out k e HE.out
    clear hb HE gi HC HV HU D1
    go_wp2
    go_ret2
    exact ⟨HF.out.symm, HB.out⟩
end Go.Proofs.YtnpiphkglhcifaaGreat

namespace Go.Proofs.YtnpiphkglhcifaaGreat
set_option maxRecDepth 100000
open Go.RowKit

theorem below_al (w : World) (o : Obj) : Below w.heap.size w (w.alloc o) := (Below.refl _ _).alloc (Nat.le_refl _) _
theorem below_al3 (w : World) (o o' o'' : Obj) : Below w.heap.size w (((w.alloc o).alloc o').alloc o'') :=
  (((Below.refl _ _).alloc (Nat.le_refl _) _).alloc (by simp) _).alloc (by simp; omega) _

/-- What Lookup finds. -/
def lupO (ys : List Int) (es : List Ent) : Option ByteArray := if okD es = true then Pl.look ys es else none
theorem lupO_no {ys : List Int} {es : List Ent} (h : okD es = false) : lupO ys es = none := by unfold lupO; rw [h]; rfl
theorem lupO_yes {ys : List Int} {es : List Ent} (h : okD es = true) : lupO ys es = Pl.look ys es := by unfold lupO; rw [h]; rfl

/-- The length of the longest outline. -/
def lng (es : List Ent) : Nat := es.foldl (fun n e => max n e.1.length) 0
theorem lng_next {es : List Ent} {k : Nat} {e : Ent} (h : es[k]? = some e) : lng (es.take (k + 1)) = max (lng (es.take k)) e.1.length := by
  unfold lng; rw [List.take_add_one, h, Option.toList_some, List.foldl_append]; rfl
theorem lng_le (es : List Ent) (n : Nat) (h : ∀ e ∈ es, e.1.length ≤ n) : lng es ≤ n := by
  unfold lng
  suffices ∀ (l : List Ent) (m : Nat), m ≤ n → (∀ e ∈ l, e.1.length ≤ n) → l.foldl (fun n e => max n e.1.length) m ≤ n from this es 0 (Nat.zero_le _) h
  intro l
  induction l with
  | nil => intro m hm _; exact hm
  | cons x l ih => intro m hm hl; exact ih _ (Nat.max_le.2 ⟨hm, hl x (List.mem_cons_self ..)⟩) fun e he => hl e (List.mem_cons_of_mem _ he)
theorem lng_ge (es : List Ent) : ∀ e ∈ es, e.1.length ≤ lng es := by
  unfold lng
  suffices ∀ (l : List Ent) (m : Nat), m ≤ l.foldl (fun n e => max n e.1.length) m ∧ ∀ e ∈ l, e.1.length ≤ l.foldl (fun n e => max n e.1.length) m from (this es 0).2
  intro l
  induction l with
  | nil => intro m; exact ⟨Nat.le_refl _, fun e he => by simp at he⟩
  | cons x l ih =>
    intro m
    obtain ⟨h1, h2⟩ := ih (max m x.1.length)
    refine ⟨?_, fun e he => ?_⟩
    · exact Nat.le_trans (by omega) h1
    · rcases List.mem_cons.1 he with rfl | he
      · exact Nat.le_trans (by omega) h1
      · exact h2 e he
/-- What LongestOutline answers. -/
def lngE (es : List Ent) : Ending := .returned (.tuple #[.int .i64 (if okD es = true then (lng es : Int) else 0), .bool (okD es)])
theorem lngE_no {es : List Ent} (h : okD es = false) : lngE es = .returned (.tuple #[.int .i64 0, .bool false]) := by unfold lngE; rw [h]; rfl
theorem lngE_yes {es : List Ent} (h : okD es = true) : lngE es = .returned (.tuple #[.int .i64 (lng es : Int), .bool true]) := by unfold lngE; rw [h]; rfl

theorem l1Most_any (a b : Nat) (w : World) :
    Calls Tryz.prog 44 #[.int .i64 (a : Int), .int .i64 (b : Int)] w fun r w' => r = .returned (.int .i64 ((max a b : Nat) : Int)) ∧ w = w' := by
  by_cases h : b < a
  · have h1 : (b : Int) < (a : Int) := by omega
    have h2 : max a b = a := by omega
    rw [h2]
    go_enter Tryz.func44, Tryz.ntmps44
    go_wp2
    go_ret
    exact ⟨rfl, rfl⟩
  · have h1 : ¬ (b : Int) < (a : Int) := by omega
    have h2 : max a b = b := by omega
    rw [h2]
    go_enter Tryz.func44, Tryz.ntmps44
    go_wp2
    go_ret
    exact ⟨rfl, rfl⟩

/-! ### The text -/
def lineT (e : Ent) : ByteArray := fmtT e.1 ++ ⟨#[32]⟩ ++ e.2 ++ ⟨#[10]⟩
def dicT (es : List Ent) : ByteArray := es.foldl (fun b e => b ++ lineT e) ⟨#[]⟩
theorem ba_assoc (a b c : ByteArray) : a ++ b ++ c = a ++ (b ++ c) := by
  apply ByteArray.ext
  rw [ByteArray.data_append, ByteArray.data_append, ByteArray.data_append, ByteArray.data_append, Array.append_assoc]
theorem dicT_next {es : List Ent} {k : Nat} {e : Ent} (h : es[k]? = some e) : dicT (es.take k) ++ fmtT e.1 ++ ⟨#[32]⟩ ++ e.2 ++ ⟨#[10]⟩ = dicT (es.take (k + 1)) := by
  unfold dicT
  rw [List.take_add_one, h, Option.toList_some, List.foldl_append]
  show _ = _ ++ lineT e
  unfold lineT
  simp only [ba_assoc]
theorem lineT_size {e : Ent} (h : okE e = true) : (lineT e).size ≤ 212 := by
  obtain ⟨_, h1, h2⟩ := okE_size h
  have h3 := fmtT_size e.1
  unfold lineT
  rw [ByteArray.size_append, ByteArray.size_append, ByteArray.size_append]
  have e1 : (⟨#[32]⟩ : ByteArray).size = 1 := rfl
  have e2 : (⟨#[10]⟩ : ByteArray).size = 1 := rfl
  rw [e1, e2]
  omega
end Go.Proofs.YtnpiphkglhcifaaGreat
