/-
  CONTRACTS of chapter 6 of the specification: IsValidEntry, IsValidDictionary, Lookup, LongestOutline, the text of a dictionary, FormatDictionary.
-/
import Derived.Test.YtmpcdhoigepdpaaDict
namespace Go.Proofs.Ytmpcdhoigepdpaa
set_option maxRecDepth 100000
open Go.RowKit

/-- What l6At answers. -/
def idxI (o : List Int) (es : List Ent) : Int := match Pl.idx o es with | some k => (k : Int) | none => -1
theorem idxI_at {o : List Int} {es : List Ent} {k : Nat} {e : Ent} (hn : ∀ y ∈ es.take k, y.1 ≠ o) (h : es[k]? = some e) (he : e.1 = o) : idxI o es = (k : Int) := by unfold idxI; rw [Pl.idx_at hn h he]
theorem idxI_none {o : List Int} {es : List Ent} (h : ∀ y ∈ es, y.1 ≠ o) : idxI o es = -1 := by unfold idxI; rw [Pl.idx_none h]
theorem none_next {es : List Ent} {k : Nat} {e : Ent} {o : List Int} (h : es[k]? = some e) (hn : ∀ y ∈ es.take k, y.1 ≠ o) (he : e.1 ≠ o) : ∀ y ∈ es.take (k + 1), y.1 ≠ o := by
  rw [List.take_add_one, h]
  intro y hy
  rcases List.mem_append.1 hy with hy | hy
  · exact hn y hy
  · have : y = e := by simpa using hy
    rw [this]; exact he
/-- A text or none, as an answer. -/
def lkE (x : Option ByteArray) : Ending := .returned (.tuple #[.string (x.getD ⟨#[]⟩), .bool x.isSome])

set_option maxHeartbeats 1000000 in
theorem l6At_any (v : Value) (es : List Ent) (u : Value) (ys : List Int) (w : World) (h : EntsAt w v es) (hu : IntsAt w u ys) (hn : es.length ≤ 2097152) (hx : ∀ e ∈ es, entOk e) (hy : ys.length ≤ 2097152) :
    Calls Try.prog 78 #[dV v, u] w fun r w' => r = .returned (.int .i64 (idxI ys es)) ∧ Below w.heap.size w w' := by
  obtain ⟨a, cap, rfl, hcap, hC⟩ := h.cells
  obtain ⟨ub, ucp, rfl, _, _⟩ := hu.cells
  have HYes := Lib.hid (fun k e hn h he => idxI_at (o := ys) (es := es) (k := k) (e := e) hn h he)
  have HNone := Lib.hid (fun h => idxI_none (o := ys) (es := es) h)
  have HX := Lib.hid (fun k e (h : es[k]? = some e) => hx e (List.mem_of_getElem? h))
  have CS := Lib.hid (fun v u xs ys w h h' hn hm => l1Same_any v u xs ys w h h' hn hm)
  obtain ⟨n, hnn⟩ : ∃ n, n = es.length := ⟨_, rfl⟩
  rw [← hnn] at hn hcap ⊢
  have HN := Lib.hid hnn
  have HC := Lib.hid hC
  have HU := Lib.hid hu
  have HYL := Lib.hid hy
  obtain ⟨R, hR⟩ : ∃ R, R = idxI ys es := ⟨_, rfl⟩
  rw [← hR] at HYes HNone ⊢
  clear h hx hnn hC hR hu
  unfold dV
  go_enter Try.func78, Try.ntmps78
  go_wp2_with fail
  go_loopw [5] (fun i wr => ∃ k : Nat, i = .int .i64 k ∧ k ≤ n ∧ Hid (∀ y ∈ es.take k, y.1 ≠ ys) ∧ Below (w.alloc (.cells #[.slice a n cap] 26)).heap.size (w.alloc (.cells #[.slice a n cap] 26)) wr) (fun i _ => n - (intOf i).toNat)
  case atStart => exact ⟨0, rfl, Nat.zero_le _, Lib.hid (by intro y hy; simp at hy), Below.refl _ _⟩
  case round =>
    obtain ⟨k, rfl, hk, HA, hbel⟩ := hrel
    have hbox := box1 hbel
    have HB := Lib.hid (below_box hbel)
    have HBel := Lib.hid hbel
    by_cases hlt : k < n
    · obtain ⟨e, he⟩ : ∃ e, es[k]? = some e := ⟨_, List.getElem?_eq_getElem (by rw [← HN.out]; exact hlt)⟩
      obtain ⟨bk, o, uk, rfl, hbk, g0, g1, gi⟩ := HC.out wr HB.out k e he
      obtain ⟨xs, t⟩ := e
      simp only at g0 g1 gi
      have hxl : xs.length ≤ 2097152 := (HX.out k _ he).1
      have HGI := Lib.hid gi
      obtain ⟨ua, ucap, rfl, _, _⟩ := gi.cells
      obtain ⟨b, hb⟩ : ∃ b, b = decide (xs = ys) := ⟨_, rfl⟩
      have CS2 : Hid (Calls Try.prog 102 #[.slice ua xs.length ucap, .slice ub ys.length ucp] wr fun r w'' => r = .returned (.bool b) ∧ Below wr.heap.size wr w'') := by
        have := CS.out _ _ xs ys _ HGI.out (HU.out.below HB.out) hxl HYL.out
        rw [← hb] at this
        exact this
      have HE := Lib.hid he
      have HBb := Lib.hid hb
      clear he hb gi CS
      cases b
      · have HA1 : Hid (∀ y ∈ es.take (k + 1), y.1 ≠ ys) := none_next HE.out HA.out (of_decide_eq_false HBb.out.symm)
        clear HE HGI HX HC HA HYes HNone
        go_wp2_with fail
        refine CS2.out.mono ?_
        rintro r w1 ⟨rfl, hb1⟩
        have HB1 := Lib.hid hb1
        clear hb1
        go_wp2
        go_roundw
        case rel => exact ⟨k + 1, by go_num, by omega, HA1, HBel.out.trans (HB1.out.mono HBel.out.size)⟩
        case measure => simp [intOf]; omega
      · have HF : Hid (R = (k : Int)) := HYes.out k _ HA.out HE.out (of_decide_eq_true HBb.out.symm)
        clear HE HGI HX HC HA HYes HNone
        go_wp2_with fail
        refine CS2.out.mono ?_
        rintro r w1 ⟨rfl, hb1⟩
        have HB1 := Lib.hid hb1
        clear hb1
        go_wp2
        go_ret
        exact ⟨ret_int HF.out.symm, below_step HB.out HB1.out⟩
    · obtain rfl : k = n := by omega
      have HF : Hid (R = -1) := HNone.out (by have h2 := HA.out; rw [List.take_of_length_le (by rw [← HN.out]; exact Nat.le_refl _)] at h2; exact h2)
      clear HA HYes HNone
      go_wp2
      go_ret
      exact ⟨ret_int HF.out.symm, HB.out⟩
set_option maxHeartbeats 1000000 in
theorem l6Find_any (v : Value) (es : List Ent) (u : Value) (ys : List Int) (w : World) (h : EntsAt w v es) (hu : IntsAt w u ys) (hn : es.length ≤ 2097152) (hx : ∀ e ∈ es, entOk e) (hy : ys.length ≤ 2097152) :
    Calls Try.prog 49 #[dV v, u] w fun r w' => r = lkE (Pl.look ys es) ∧ Below w.heap.size w w' := by
  have C := Lib.hid (fun w h hu => l6At_any v es u ys w h hu hn hx hy)
  have HV := Lib.hid h
  have HU := Lib.hid hu
  obtain ⟨a, cap, rfl, hcap, hC⟩ := h.cells
  obtain ⟨ub, ucp, rfl, _, _⟩ := hu.cells
  obtain ⟨R, hR⟩ : ∃ R, R = lkE (Pl.look ys es) := ⟨_, rfl⟩
  rw [← hR]
  cases hi : Pl.idx ys es with
  | none =>
    have c : ∀ w, EntsAt w (.slice a es.length cap) es → IntsAt w (.slice ub ys.length ucp) ys → Calls Try.prog 78 #[dV (.slice a es.length cap), .slice ub ys.length ucp] w fun r w' => r = .returned (.int .i64 (-1)) ∧ Below w.heap.size w w' := by
      intro w h hu
      have := C.out w h hu
      unfold idxI at this
      rw [hi] at this
      exact this
    have HF : Hid (R = .returned (.tuple #[.string ⟨#[]⟩, .bool false])) := by
      show R = _
      rw [hR, Pl.look_none_idx hi]; rfl
    have hal : Below w.heap.size w (w.alloc (.cells #[.slice a es.length cap] 26)) := (Below.refl _ _).alloc (Nat.le_refl _) _
    have D1 := Lib.hid (c _ (HV.out.below hal) (HU.out.below hal))
    clear c C hi hR h hu hC hal
    unfold dV at D1 ⊢
    go_enter Try.func49, Try.ntmps49
    go_wp2_with fail
    refine D1.out.mono ?_
    rintro r w1 ⟨rfl, hb⟩
    have HB := Lib.hid (below_box hb)
    clear hb
    go_wp2
    go_ret2
    exact ⟨HF.out.symm, HB.out⟩
  | some k =>
    obtain ⟨e, he, hee⟩ := Pl.idx_some hi
    have hk := (List.getElem?_eq_some_iff.1 he).1
    have c : ∀ w, EntsAt w (.slice a es.length cap) es → IntsAt w (.slice ub ys.length ucp) ys → Calls Try.prog 78 #[dV (.slice a es.length cap), .slice ub ys.length ucp] w fun r w' => r = .returned (.int .i64 (k : Int)) ∧ Below w.heap.size w w' := by
      intro w h hu
      have := C.out w h hu
      unfold idxI at this
      rw [hi] at this
      exact this
    have HF : Hid (R = .returned (.tuple #[.string e.2, .bool true])) := by
      show R = _
      rw [hR, Pl.look_idx hi he]; rfl
    have hal : Below w.heap.size w (w.alloc (.cells #[.slice a es.length cap] 26)) := (Below.refl _ _).alloc (Nat.le_refl _) _
    have D1 := Lib.hid (c _ (HV.out.below hal) (HU.out.below hal))
    clear hal
    have HC := Lib.hid hC
    have HE := Lib.hid he
    obtain ⟨n, hnn⟩ : ∃ n, n = es.length := ⟨_, rfl⟩
    rw [← hnn] at hk hcap hn D1 ⊢
    have hk' : (k : Int) < (n : Int) := by omega
    have hk0 : ¬ (k : Int) < 0 := by omega
    clear c C hi hR h hu hC hx hy he hee hnn
    unfold dV at D1 ⊢
    go_enter Try.func49, Try.ntmps49
    go_wp2_with fail
    refine D1.out.mono ?_
    rintro r w1 ⟨rfl, hb⟩
    have hbox := box1 hb
    have HB := Lib.hid (below_box hb)
    obtain ⟨bk, o, uk, rfl, hbk, g0, g1, gi⟩ := HC.out w1 HB.out k e HE.out
    clear hb HE gi HC HV HU D1
    go_wp2
    go_ret2
    exact ⟨HF.out.symm, HB.out⟩
end Go.Proofs.Ytmpcdhoigepdpaa

namespace Go.Proofs.Ytmpcdhoigepdpaa
set_option maxRecDepth 100000
open Go.RowKit

theorem below_al (w : World) (o : Obj) : Below w.heap.size w (w.alloc o) := (Below.refl _ _).alloc (Nat.le_refl _) _
theorem below_al3 (w : World) (o o' o'' : Obj) : Below w.heap.size w (((w.alloc o).alloc o').alloc o'') :=
  (((Below.refl _ _).alloc (Nat.le_refl _) _).alloc (by simp) _).alloc (by simp; omega) _

/-- What Lookup finds. -/
def lupO (ys : List Int) (es : List Ent) : Option ByteArray := if okD es = true then Pl.look ys es else none
theorem lupO_no {ys : List Int} {es : List Ent} (h : okD es = false) : lupO ys es = none := by unfold lupO; rw [h]; rfl
theorem lupO_yes {ys : List Int} {es : List Ent} (h : okD es = true) : lupO ys es = Pl.look ys es := by unfold lupO; rw [h]; rfl

/-- The length of the longest outline. -/
def lng (es : List Ent) : Nat := es.foldl (fun n e => max n e.1.length) 0
theorem lng_next {es : List Ent} {k : Nat} {e : Ent} (h : es[k]? = some e) : lng (es.take (k + 1)) = max (lng (es.take k)) e.1.length := by
  unfold lng; rw [List.take_add_one, h, Option.toList_some, List.foldl_append]; rfl
theorem lng_le (es : List Ent) (n : Nat) (h : ∀ e ∈ es, e.1.length ≤ n) : lng es ≤ n := by
  unfold lng
  suffices ∀ (l : List Ent) (m : Nat), m ≤ n → (∀ e ∈ l, e.1.length ≤ n) → l.foldl (fun n e => max n e.1.length) m ≤ n from this es 0 (Nat.zero_le _) h
  intro l
  induction l with
  | nil => intro m hm _; exact hm
  | cons x l ih => intro m hm hl; exact ih _ (Nat.max_le.2 ⟨hm, hl x (List.mem_cons_self ..)⟩) fun e he => hl e (List.mem_cons_of_mem _ he)
theorem lng_ge (es : List Ent) : ∀ e ∈ es, e.1.length ≤ lng es := by
  unfold lng
  suffices ∀ (l : List Ent) (m : Nat), m ≤ l.foldl (fun n e => max n e.1.length) m ∧ ∀ e ∈ l, e.1.length ≤ l.foldl (fun n e => max n e.1.length) m from (this es 0).2
  intro l
  induction l with
  | nil => intro m; exact ⟨Nat.le_refl _, fun e he => by simp at he⟩
  | cons x l ih =>
    intro m
    obtain ⟨h1, h2⟩ := ih (max m x.1.length)
    refine ⟨?_, fun e he => ?_⟩
    · exact Nat.le_trans (by omega) h1
    · rcases List.mem_cons.1 he with rfl | he
      · exact Nat.le_trans (by omega) h1
      · exact h2 e he
/-- What LongestOutline answers. -/
def lngE (es : List Ent) : Ending := .returned (.tuple #[.int .i64 (if okD es = true then (lng es : Int) else 0), .bool (okD es)])
theorem lngE_no {es : List Ent} (h : okD es = false) : lngE es = .returned (.tuple #[.int .i64 0, .bool false]) := by unfold lngE; rw [h]; rfl
theorem lngE_yes {es : List Ent} (h : okD es = true) : lngE es = .returned (.tuple #[.int .i64 (lng es : Int), .bool true]) := by unfold lngE; rw [h]; rfl

theorem l1Most_any (a b : Nat) (w : World) :
    Calls Try.prog 73 #[.int .i64 (a : Int), .int .i64 (b : Int)] w fun r w' => r = .returned (.int .i64 ((max a b : Nat) : Int)) ∧ w = w' := by
  by_cases h : b < a
  · have h1 : (b : Int) < (a : Int) := by omega
    have h2 : max a b = a := by omega
    rw [h2]
    go_enter Try.func73, Try.ntmps73
    go_wp2
    go_ret
    exact ⟨rfl, rfl⟩
  · have h1 : ¬ (b : Int) < (a : Int) := by omega
    have h2 : max a b = b := by omega
    rw [h2]
    go_enter Try.func73, Try.ntmps73
    go_wp2
    go_ret
    exact ⟨rfl, rfl⟩
set_option maxHeartbeats 1000000 in
theorem l6Longest_any (v : Value) (es : List Ent) (w : World) (h : EntsAt w v es) (hn : es.length ≤ 2097152) :
    Calls Try.prog 42 #[dV v] w fun r w' => r = .returned (.int .i64 (lng es : Int)) ∧ Below w.heap.size w w' := by
  obtain ⟨a, cap, rfl, hcap, hC⟩ := h.cells
  have CM := Lib.hid (fun a b w => l1Most_any a b w)
  obtain ⟨n, hnn⟩ : ∃ n, n = es.length := ⟨_, rfl⟩
  rw [← hnn] at hn hcap ⊢
  have HN := Lib.hid hnn
  have HC := Lib.hid hC
  clear h hnn hC
  unfold dV
  go_enter Try.func42, Try.ntmps42
  go_wp2_with fail
  go_loopw [3, 4] (fun x i wr => ∃ k m : Nat, i = .int .i64 k ∧ k ≤ n ∧ x = .int .i64 m ∧ Hid (m = lng (es.take k)) ∧ Below (w.alloc (.cells #[.slice a n cap] 26)).heap.size (w.alloc (.cells #[.slice a n cap] 26)) wr) (fun _ i _ => n - (intOf i).toNat)
  case atStart => exact ⟨0, 0, rfl, Nat.zero_le _, rfl, Lib.hid rfl, Below.refl _ _⟩
  case round =>
    obtain ⟨k, m, rfl, hk, rfl, HM, hbel⟩ := hrel
    have hbox := box1 hbel
    have HB := Lib.hid (below_box hbel)
    have HBel := Lib.hid hbel
    by_cases hlt : k < n
    · obtain ⟨e, he⟩ : ∃ e, es[k]? = some e := ⟨_, List.getElem?_eq_getElem (by rw [← HN.out]; exact hlt)⟩
      obtain ⟨bk, o, uk, rfl, hbk, g0, g1, gi⟩ := HC.out wr HB.out k e he
      obtain ⟨xs, t⟩ := e
      simp only at g0 g1 gi
      obtain ⟨ua, ucap, rfl, _, _⟩ := gi.cells
      have HM2 : Hid (max m xs.length = lng (es.take (k + 1))) := by
        have := lng_next he
        show max m xs.length = _
        rw [this, HM.out]
      have CM2 := Lib.hid (fun w => CM.out m xs.length w)
      obtain ⟨m', hm'⟩ : ∃ m', m' = max m xs.length := ⟨_, rfl⟩
      rw [← hm'] at HM2 CM2
      clear he gi HM hm' HC
      go_wp2_with fail
      refine (CM2.out _).mono ?_
      rintro r w1 ⟨rfl, rfl⟩
      go_wp2
      go_roundw
      case rel => exact ⟨k + 1, m', by go_num, by omega, rfl, HM2, HBel.out⟩
      case measure => simp [intOf]; omega
    · obtain rfl : k = n := by omega
      have HF : Hid ((m : Int) = (lng es : Int)) := by
        show (m : Int) = _
        rw [HM.out, List.take_of_length_le (by rw [← HN.out]; exact Nat.le_refl _)]
      clear HM
      go_wp2
      go_ret
      exact ⟨ret_int HF.out, HB.out⟩
theorem specLongestOutline_any (v : Value) (es : List Ent) (w : World) (h : EntsAt w v es) (hn : es.length ≤ 2097152) (hx : ∀ e ∈ es, entOk e) :
    Calls Try.prog 13 #[dV v] w fun r w' => r = lngE es ∧ Below w.heap.size w w' := by
  have c := fun w' hb => l6Good_any v es w' (h.below (w' := w') hb) hn hx
  have HD := Lib.hid (fun w' hb => l6Longest_any v es w' (h.below hb) hn)
  obtain ⟨a, cap, rfl, hcap, _⟩ := h.cells
  cases hg : okD es
  · rw [hg] at c
    rw [lngE_no hg]
    have C := Lib.hid c
    clear c h hx hg HD
    unfold dV at C ⊢
    go_enter Try.func13, Try.ntmps13
    go_wp2_with fail
    refine (C.out _ (below_al _ _)).mono ?_
    rintro r w1 ⟨rfl, hb⟩
    have HB := Lib.hid (below_box hb)
    clear hb
    go_wp2
    go_ret2
    exact ⟨rfl, HB.out⟩
  · rw [hg] at c
    rw [lngE_yes hg]
    have C := Lib.hid c
    clear c h hx hg
    unfold dV at C HD ⊢
    go_enter Try.func13, Try.ntmps13
    go_wp2_with fail
    refine (C.out _ (below_al _ _)).mono ?_
    rintro r w1 ⟨rfl, hb⟩
    have D1 := Lib.hid (HD.out w1 (below_box hb))
    have hbox := box1 hb
    have HB := Lib.hid (below_box hb)
    clear hb HD C
    go_wp2_with fail
    refine D1.out.mono ?_
    rintro r w2 ⟨rfl, hb2⟩
    have HB2 := Lib.hid (below_step HB.out hb2)
    clear hb2
    go_wp2
    go_ret2
    exact ⟨rfl, HB2.out⟩

/-! ### The text -/
def lineT (e : Ent) : ByteArray := fmtT e.1 ++ ⟨#[32]⟩ ++ e.2 ++ ⟨#[10]⟩
def dicT (es : List Ent) : ByteArray := es.foldl (fun b e => b ++ lineT e) ⟨#[]⟩
theorem ba_assoc (a b c : ByteArray) : a ++ b ++ c = a ++ (b ++ c) := by
  apply ByteArray.ext
  rw [ByteArray.data_append, ByteArray.data_append, ByteArray.data_append, ByteArray.data_append, Array.append_assoc]
theorem dicT_next {es : List Ent} {k : Nat} {e : Ent} (h : es[k]? = some e) : dicT (es.take k) ++ fmtT e.1 ++ ⟨#[32]⟩ ++ e.2 ++ ⟨#[10]⟩ = dicT (es.take (k + 1)) := by
  unfold dicT
  rw [List.take_add_one, h, Option.toList_some, List.foldl_append]
  show _ = _ ++ lineT e
  unfold lineT
  simp only [ba_assoc]
theorem lineT_size {e : Ent} (h : okE e = true) : (lineT e).size ≤ 212 := by
  obtain ⟨_, h1, h2⟩ := okE_size h
  have h3 := fmtT_size e.1
  unfold lineT
  rw [ByteArray.size_append, ByteArray.size_append, ByteArray.size_append]
  have e1 : (⟨#[32]⟩ : ByteArray).size = 1 := rfl
  have e2 : (⟨#[10]⟩ : ByteArray).size = 1 := rfl
  rw [e1, e2]
  omega
end Go.Proofs.Ytmpcdhoigepdpaa
