/-
  VALID STACKS: the specification's and the program's IsValidStack.
-/
import Derived.Test.YtpalpbpamcaakaaGreatLay
import Derived.Test.YtpalpbpamcaakaaGreatImpl6E
namespace Go.Proofs.YtpalpbpamcaakaaGreat
set_option maxRecDepth 100000
open Go.RowKit

/-- A valid stack. -/
def okK (ls : List Lay) : Bool := decide (ls.length ≤ 4) && ls.all fun l => okD l.1
theorem okK_big {ls : List Lay} (h : ¬ ls.length ≤ 4) : okK ls = false := by unfold okK; rw [decide_eq_false h]; rfl
theorem okK_at {ls : List Lay} {k : Nat} {l : Lay} (h : ls[k]? = some l) (hd : okD l.1 = false) : okK ls = false := by
  unfold okK
  rw [Bool.and_eq_false_iff]
  right
  rw [List.all_eq_false]
  exact ⟨l, List.mem_of_getElem? h, by simp [hd]⟩
theorem okK_yes {ls : List Lay} (h : ls.length ≤ 4) (ha : (ls.all fun l => okD l.1) = true) : okK ls = true := by unfold okK; rw [decide_eq_true h, ha]; rfl
theorem okK_parts {ls : List Lay} (h : okK ls = true) : ls.length ≤ 4 ∧ ∀ l ∈ ls, okD l.1 = true := by
  unfold okK at h
  rw [Bool.and_eq_true, decide_eq_true_eq, List.all_eq_true] at h
  exact h
theorem allK_next {ls : List Lay} {k : Nat} {l : Lay} (h : ls[k]? = some l) (ha : ((ls.take k).all fun l => okD l.1) = true) (hl : okD l.1 = true) : ((ls.take (k + 1)).all fun l => okD l.1) = true := by
  rw [List.take_add_one, h, Option.toList_some, List.all_append, ha]
  simp [hl]
set_option maxHeartbeats 2000000 in
theorem specIsValidStack_any (v : Value) (ls : List Lay) (w : World) (h : LaysAt w v ls) (hn : ls.length ≤ 2097152) (hx : ∀ l ∈ ls, layOk l) :
    Calls Tryz.prog 62 #[dV v] w fun r w' => r = .returned (.bool (okK ls)) ∧ Below w.heap.size w w' := by
  obtain ⟨a, cap, rfl, hcap, hC⟩ := h.cells
  have HNo := Lib.hid (fun k l (h : ls[k]? = some l) hd => okK_at h hd)
  have HX := Lib.hid (fun k l (h : ls[k]? = some l) => hx l (List.mem_of_getElem? h))
  have cg := fun v es w h hn hx => l6Good_any v es w h hn hx
  unfold dV at cg
  have CG := Lib.hid cg
  have hlong := fun h => okK_big (ls := ls) h
  have HYes : Hid (ls.length ≤ 4 → (ls.all fun l => okD l.1) = true → okK ls = true) := fun h1 h2 => okK_yes h1 h2
  obtain ⟨n, hnn⟩ : ∃ n, n = ls.length := ⟨_, rfl⟩
  rw [← hnn] at hn hcap hlong HYes ⊢
  have HN := Lib.hid hnn
  have HC := Lib.hid hC
  obtain ⟨R, hR⟩ : ∃ R, R = okK ls := ⟨_, rfl⟩
  rw [← hR] at HNo hlong HYes ⊢
  clear h hx hnn hC hR cg
  unfold dV
  by_cases h4 : n ≤ 4
  · have h4' : ¬ (4 < (n : Int)) := by omega
    clear hlong
    go_enter Tryz.func62, Tryz.ntmps62
    go_wp2_with fail
    go_loopw [3] (fun i wr => ∃ k : Nat, i = .int .i64 k ∧ k ≤ n ∧ Hid (((ls.take k).all fun l => okD l.1) = true) ∧ Below (w.alloc (.cells #[.slice a n cap] 26)).heap.size (w.alloc (.cells #[.slice a n cap] 26)) wr) (fun i _ => n - (intOf i).toNat)
    case atStart => exact ⟨0, rfl, Nat.zero_le _, Lib.hid rfl, Below.refl _ _⟩
    case round =>
      obtain ⟨k, rfl, hk, HA, hbel⟩ := hrel
      have hbox := box1 hbel
      have HB := Lib.hid (below_box hbel)
      have HBel := Lib.hid hbel
      by_cases hlt : k < n
      · obtain ⟨l, hl⟩ : ∃ l, ls[k]? = some l := ⟨_, List.getElem?_eq_getElem (by rw [← HN.out]; exact hlt)⟩
        obtain ⟨bk, o, u, rfl, hbk, g0, g1, gi⟩ := HC.out wr HB.out k l hl
        have hxl := HX.out k l hl
        have ce := fun w' hb => CG.out u l.1 w' (gi.below (w' := w') hb) hxl.1 hxl.2
        have HN0 := Lib.hid (HNo.out k l hl)
        have HA1 : Hid (okD l.1 = true → ((ls.take (k + 1)).all fun l => okD l.1) = true) := fun h => allK_next hl HA.out h
        obtain ⟨b, hb⟩ : ∃ b, b = okD l.1 := ⟨_, rfl⟩
        rw [← hb] at ce HN0 HA1
        obtain ⟨es, t⟩ := l
        simp only at g0 g1 gi ce
        obtain ⟨ua, ucap, rfl, _, _⟩ := gi.cells
        obtain ⟨m, hm⟩ : ∃ m, m = es.length := ⟨_, rfl⟩
        rw [← hm] at g0 ce
        have CE2 := Lib.hid ce
        clear ce hb hl hxl gi hbel hm HNo HX HC CG HA
        cases b
        · have HF := Lib.hid (HN0.out rfl)
          clear HN0 HA1
          go_wp2_with fail
          refine (CE2.out _ (Below.refl _ _)).mono ?_
          rintro r w1 ⟨rfl, hb1⟩
          have HB1 := Lib.hid hb1
          clear hb1
          go_wp2
          go_ret
          exact ⟨ret_bool HF.out.symm, below_step HB.out HB1.out⟩
        · have HA2 := Lib.hid (HA1.out rfl)
          clear HN0 HA1
          go_wp2_with fail
          refine (CE2.out _ (Below.refl _ _)).mono ?_
          rintro r w1 ⟨rfl, hb1⟩
          have HB1 := Lib.hid hb1
          clear hb1
          go_wp2
          go_roundw
          case rel => exact ⟨k + 1, by go_num, by omega, HA2, HBel.out.trans (HB1.out.mono HBel.out.size)⟩
          case measure => simp [intOf]; omega
      · obtain rfl : k = n := by omega
        have HF : Hid (R = true) := by
          have h2 := HA.out
          rw [List.take_of_length_le (by rw [← HN.out]; exact Nat.le_refl _)] at h2
          exact HYes.out h4 h2
        clear HA
        go_wp2
        go_ret
        exact ⟨ret_bool HF.out.symm, HB.out⟩
  · have HF := Lib.hid (hlong h4)
    have h4' : 4 < (n : Int) := by omega
    clear hlong
    go_enter Tryz.func62, Tryz.ntmps62
    go_wp2
    go_ret
    exact ⟨ret_bool HF.out.symm, (Below.refl _ _).alloc (Nat.le_refl _) _⟩
set_option maxHeartbeats 2000000 in
theorem ValidK_any (v : Value) (ls : List Lay) (w : World) (h : LaysAt w v ls) (hn : ls.length ≤ 2097152) (hx : ∀ l ∈ ls, layOk l) :
    Calls Tryz.prog 21 #[dV v] w fun r w' => r = .returned (.bool (okK ls)) ∧ Below w.heap.size w w' := by
  obtain ⟨a, cap, rfl, hcap, hC⟩ := h.cells
  have HNo := Lib.hid (fun k l (h : ls[k]? = some l) hd => okK_at h hd)
  have HX := Lib.hid (fun k l (h : ls[k]? = some l) => hx l (List.mem_of_getElem? h))
  have cg := fun v es w h hn hx => ValidD_any v es w h hn hx
  unfold dV at cg
  have CG := Lib.hid cg
  have hlong := fun h => okK_big (ls := ls) h
  have HYes : Hid (ls.length ≤ 4 → (ls.all fun l => okD l.1) = true → okK ls = true) := fun h1 h2 => okK_yes h1 h2
  obtain ⟨n, hnn⟩ : ∃ n, n = ls.length := ⟨_, rfl⟩
  rw [← hnn] at hn hcap hlong HYes ⊢
  have HN := Lib.hid hnn
  have HC := Lib.hid hC
  obtain ⟨R, hR⟩ : ∃ R, R = okK ls := ⟨_, rfl⟩
  rw [← hR] at HNo hlong HYes ⊢
  clear h hx hnn hC hR cg
  unfold dV
  by_cases h4 : n ≤ 4
  · have h4' : ¬ (4 < (n : Int)) := by omega
    clear hlong
    go_enter Tryz.func21, Tryz.ntmps21
    go_wp2_with fail
    go_loopw [12] (fun i wr => ∃ k : Nat, i = .int .i64 k ∧ k ≤ n ∧ Hid (((ls.take k).all fun l => okD l.1) = true) ∧ Hid (Below w.heap.size w wr)) (fun i _ => n - (intOf i).toNat)
    case atStart => exact ⟨0, rfl, Nat.zero_le _, Lib.hid rfl, below_al _ _⟩
    case round =>
      obtain ⟨k, rfl, hk, HA, HB⟩ := hrel
      by_cases hlt : k < n
      · obtain ⟨l, hl⟩ : ∃ l, ls[k]? = some l := ⟨_, List.getElem?_eq_getElem (by rw [← HN.out]; exact hlt)⟩
        obtain ⟨bk, o, u, rfl, hbk, g0, g1, gi⟩ := HC.out wr HB.out k l hl
        have hxl := HX.out k l hl
        have ce := fun w' hb => CG.out u l.1 w' (gi.below (w' := w') hb) hxl.1 hxl.2
        have HN0 := Lib.hid (HNo.out k l hl)
        have HA1 : Hid (okD l.1 = true → ((ls.take (k + 1)).all fun l => okD l.1) = true) := fun h => allK_next hl HA.out h
        obtain ⟨b, hb⟩ : ∃ b, b = okD l.1 := ⟨_, rfl⟩
        rw [← hb] at ce HN0 HA1
        obtain ⟨es, t⟩ := l
        simp only at g0 g1 gi ce
        obtain ⟨ua, ucap, rfl, _, _⟩ := gi.cells
        obtain ⟨m, hm⟩ : ∃ m, m = es.length := ⟨_, rfl⟩
        rw [← hm] at g0 ce
        have CE := Lib.hid ce
        clear ce hb hl hxl gi hm HNo HX HC CG HA
        go_wp2_with fail
        refine (CE.out _ (below_al _ _)).mono ?_
        rintro r w1 ⟨rfl, hb1⟩
        have HB1 : Hid (Below w.heap.size w w1) := below_step HB.out (below_box hb1)
        clear hb1 CE
        cases b
        · have HF := Lib.hid (HN0.out rfl)
          clear HN0 HA1
          go_wp2
          go_ret
          exact ⟨ret_bool HF.out.symm, HB1.out⟩
        · have HA2 := Lib.hid (HA1.out rfl)
          clear HN0 HA1
          go_wp2
          go_roundw
          case rel => exact ⟨k + 1, by go_num, by omega, HA2, HB1⟩
          case measure => simp [intOf]; omega
      · obtain rfl : k = n := by omega
        have HF : Hid (R = true) := by
          have h2 := HA.out
          rw [List.take_of_length_le (by rw [← HN.out]; exact Nat.le_refl _)] at h2
          exact HYes.out h4 h2
        clear HA
        go_wp2
        go_ret
        exact ⟨ret_bool HF.out.symm, HB.out⟩
  · have HF := Lib.hid (hlong h4)
    have h4' : 4 < (n : Int) := by omega
    clear hlong
    go_enter Tryz.func21, Tryz.ntmps21
    go_wp2
    go_ret
    exact ⟨ret_bool HF.out.symm, (Below.refl _ _).alloc (Nat.le_refl _) _⟩
end Go.Proofs.YtpalpbpamcaakaaGreat
