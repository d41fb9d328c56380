/-
  CONTRACTS of chapter 6 of the specification: finding entries.
-/
import Derived.Test.YtcpjpjdfddmncaaDict
namespace Go.Proofs.Ytcpjpjdfddmncaa
set_option maxRecDepth 100000
open Go.RowKit

/-- What l6At answers. -/
def idxI (o : List Int) (es : List Ent) : Int := match Pl.idx o es with | some k => (k : Int) | none => -1
theorem idxI_at {o : List Int} {es : List Ent} {k : Nat} {e : Ent} (hn : ∀ y ∈ es.take k, y.1 ≠ o) (h : es[k]? = some e) (he : e.1 = o) : idxI o es = (k : Int) := by unfold idxI; rw [Pl.idx_at hn h he]
theorem idxI_none {o : List Int} {es : List Ent} (h : ∀ y ∈ es, y.1 ≠ o) : idxI o es = -1 := by unfold idxI; rw [Pl.idx_none h]
theorem none_next {es : List Ent} {k : Nat} {e : Ent} {o : List Int} (h : es[k]? = some e) (hn : ∀ y ∈ es.take k, y.1 ≠ o) (he : e.1 ≠ o) : ∀ y ∈ es.take (k + 1), y.1 ≠ o := by
  rw [List.take_add_one, h]
  intro y hy
  rcases List.mem_append.1 hy with hy | hy
  · exact hn y hy
  · have : y = e := by simpa using hy
    rw [this]; exact he
/-- A text or none, as an answer. -/
def lkE (x : Option ByteArray) : Ending := .returned (.tuple #[.string (x.getD ⟨#[]⟩), .bool x.isSome])

set_option maxHeartbeats 1000000 in
theorem l6At_any (v : Value) (es : List Ent) (u : Value) (ys : List Int) (w : World) (h : EntsAt w v es) (hu : IntsAt w u ys) (hn : es.length ≤ 2097152) (hx : ∀ e ∈ es, entOk e) (hy : ys.length ≤ 2097152) :
    Calls Try.prog 90 #[dV v, u] w fun r w' => r = .returned (.int .i64 (idxI ys es)) ∧ Below w.heap.size w w' := by
  obtain ⟨a, cap, rfl, hcap, hC⟩ := h.cells
  obtain ⟨ub, ucp, rfl, _, _⟩ := hu.cells
  have HYes := Lib.hid (fun k e hn h he => idxI_at (o := ys) (es := es) (k := k) (e := e) hn h he)
  have HNone := Lib.hid (fun h => idxI_none (o := ys) (es := es) h)
  have HX := Lib.hid (fun k e (h : es[k]? = some e) => hx e (List.mem_of_getElem? h))
  have CS := Lib.hid (fun v u xs ys w h h' hn hm => l1Same_any v u xs ys w h h' hn hm)
  obtain ⟨n, hnn⟩ : ∃ n, n = es.length := ⟨_, rfl⟩
  rw [← hnn] at hn hcap ⊢
  have HN := Lib.hid hnn
  have HC := Lib.hid hC
  have HU := Lib.hid hu
  have HYL := Lib.hid hy
  obtain ⟨R, hR⟩ : ∃ R, R = idxI ys es := ⟨_, rfl⟩
  rw [← hR] at HYes HNone ⊢
  clear h hx hnn hC hR hu
  unfold dV
  go_enter Try.func90, Try.ntmps90
  go_wp2_with fail
  go_loopw [5] (fun i wr => ∃ k : Nat, i = .int .i64 k ∧ k ≤ n ∧ Hid (∀ y ∈ es.take k, y.1 ≠ ys) ∧ Below (w.alloc (.cells #[.slice a n cap] 26)).heap.size (w.alloc (.cells #[.slice a n cap] 26)) wr) (fun i _ => n - (intOf i).toNat)
  case atStart => exact ⟨0, rfl, Nat.zero_le _, Lib.hid (by intro y hy; simp at hy), Below.refl _ _⟩
  case round =>
    obtain ⟨k, rfl, hk, HA, hbel⟩ := hrel
    have hbox := box1 hbel
    have HB := Lib.hid (below_box hbel)
    have HBel := Lib.hid hbel
    by_cases hlt : k < n
    · obtain ⟨e, he⟩ : ∃ e, es[k]? = some e := ⟨_, List.getElem?_eq_getElem (by rw [← HN.out]; exact hlt)⟩
      obtain ⟨bk, o, uk, rfl, hbk, g0, g1, gi⟩ := HC.out wr HB.out k e he
      obtain ⟨xs, t⟩ := e
      simp only at g0 g1 gi
      have hxl : xs.length ≤ 2097152 := (HX.out k _ he).1
      have HGI := Lib.hid gi
      obtain ⟨ua, ucap, rfl, _, _⟩ := gi.cells
      obtain ⟨b, hb⟩ : ∃ b, b = decide (xs = ys) := ⟨_, rfl⟩
      have CS2 : Hid (Calls Try.prog 112 #[.slice ua xs.length ucap, .slice ub ys.length ucp] wr fun r w'' => r = .returned (.bool b) ∧ Below wr.heap.size wr w'') := by
        have := CS.out _ _ xs ys _ HGI.out (HU.out.below HB.out) hxl HYL.out
        rw [← hb] at this
        exact this
      have HE := Lib.hid he
      have HBb := Lib.hid hb
      clear he hb gi CS
      cases b
      · have HA1 : Hid (∀ y ∈ es.take (k + 1), y.1 ≠ ys) := none_next HE.out HA.out (of_decide_eq_false HBb.out.symm)
        clear HE HGI HX HC HA HYes HNone
        go_wp2_with fail
        refine CS2.out.mono ?_
        rintro r w1 ⟨rfl, hb1⟩
        have HB1 := Lib.hid hb1
        clear hb1
        go_wp2
        go_roundw
        case rel => exact ⟨k + 1, by go_num, by omega, HA1, HBel.out.trans (HB1.out.mono HBel.out.size)⟩
        case measure => simp [intOf]; omega
      · have HF : Hid (R = (k : Int)) := HYes.out k _ HA.out HE.out (of_decide_eq_true HBb.out.symm)
        clear HE HGI HX HC HA HYes HNone
        go_wp2_with fail
        refine CS2.out.mono ?_
        rintro r w1 ⟨rfl, hb1⟩
        have HB1 := Lib.hid hb1
        clear hb1
        go_wp2
        go_ret
        exact ⟨ret_int HF.out.symm, below_step HB.out HB1.out⟩
    · obtain rfl : k = n := by omega
      have HF : Hid (R = -1) := HNone.out (by have h2 := HA.out; rw [List.take_of_length_le (by rw [← HN.out]; exact Nat.le_refl _)] at h2; exact h2)
      clear HA HYes HNone
      go_wp2
      go_ret
      exact ⟨ret_int HF.out.symm, HB.out⟩
set_option maxHeartbeats 1000000 in
theorem l6Find_any (v : Value) (es : List Ent) (u : Value) (ys : List Int) (w : World) (h : EntsAt w v es) (hu : IntsAt w u ys) (hn : es.length ≤ 2097152) (hx : ∀ e ∈ es, entOk e) (hy : ys.length ≤ 2097152) :
    Calls Try.prog 59 #[dV v, u] w fun r w' => r = lkE (Pl.look ys es) ∧ Below w.heap.size w w' := by
  have C := Lib.hid (fun w h hu => l6At_any v es u ys w h hu hn hx hy)
  have HV := Lib.hid h
  have HU := Lib.hid hu
  obtain ⟨a, cap, rfl, hcap, hC⟩ := h.cells
  obtain ⟨ub, ucp, rfl, _, _⟩ := hu.cells
  obtain ⟨R, hR⟩ : ∃ R, R = lkE (Pl.look ys es) := ⟨_, rfl⟩
  rw [← hR]
  cases hi : Pl.idx ys es with
  | none =>
    have c : ∀ w, EntsAt w (.slice a es.length cap) es → IntsAt w (.slice ub ys.length ucp) ys → Calls Try.prog 90 #[dV (.slice a es.length cap), .slice ub ys.length ucp] w fun r w' => r = .returned (.int .i64 (-1)) ∧ Below w.heap.size w w' := by
      intro w h hu
      have := C.out w h hu
      unfold idxI at this
      rw [hi] at this
      exact this
    have HF : Hid (R = .returned (.tuple #[.string ⟨#[]⟩, .bool false])) := by
      show R = _
      rw [hR, Pl.look_none_idx hi]; rfl
    have hal : Below w.heap.size w (w.alloc (.cells #[.slice a es.length cap] 26)) := (Below.refl _ _).alloc (Nat.le_refl _) _
    have D1 := Lib.hid (c _ (HV.out.below hal) (HU.out.below hal))
    clear c C hi hR h hu hC hal
    unfold dV at D1 ⊢
    go_enter Try.func59, Try.ntmps59
    go_wp2_with fail
    refine D1.out.mono ?_
    rintro r w1 ⟨rfl, hb⟩
    have HB := Lib.hid (below_box hb)
    clear hb
    go_wp2
    go_ret2
    exact ⟨HF.out.symm, HB.out⟩
  | some k =>
    obtain ⟨e, he, hee⟩ := Pl.idx_some hi
    have hk := (List.getElem?_eq_some_iff.1 he).1
    have c : ∀ w, EntsAt w (.slice a es.length cap) es → IntsAt w (.slice ub ys.length ucp) ys → Calls Try.prog 90 #[dV (.slice a es.length cap), .slice ub ys.length ucp] w fun r w' => r = .returned (.int .i64 (k : Int)) ∧ Below w.heap.size w w' := by
      intro w h hu
      have := C.out w h hu
      unfold idxI at this
      rw [hi] at this
      exact this
    have HF : Hid (R = .returned (.tuple #[.string e.2, .bool true])) := by
      show R = _
      rw [hR, Pl.look_idx hi he]; rfl
    have hal : Below w.heap.size w (w.alloc (.cells #[.slice a es.length cap] 26)) := (Below.refl _ _).alloc (Nat.le_refl _) _
    have D1 := Lib.hid (c _ (HV.out.below hal) (HU.out.below hal))
    clear hal
    have HC := Lib.hid hC
    have HE := Lib.hid he
    obtain ⟨n, hnn⟩ : ∃ n, n = es.length := ⟨_, rfl⟩
    rw [← hnn] at hk hcap hn D1 ⊢
    have hk' : (k : Int) < (n : Int) := by omega
    have hk0 : ¬ (k : Int) < 0 := by omega
    clear c C hi hR h hu hC hx hy he hee hnn
    unfold dV at D1 ⊢
    go_enter Try.func59, Try.ntmps59
    go_wp2_with fail
    refine D1.out.mono ?_
    rintro r w1 ⟨rfl, hb⟩
    have hbox := box1 hb
    have HB := Lib.hid (below_box hb)
    obtain ⟨bk, o, uk, rfl, hbk, g0, g1, gi⟩ := HC.out w1 HB.out k e HE.out
    clear hb HE gi HC HV HU D1
    go_wp2
    go_ret2
    exact ⟨HF.out.symm, HB.out⟩
end Go.Proofs.Ytcpjpjdfddmncaa
