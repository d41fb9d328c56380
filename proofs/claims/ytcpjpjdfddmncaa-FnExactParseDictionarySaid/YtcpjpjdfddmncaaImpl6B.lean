/-
  CONTRACTS of the program's chapter 6: IsValidDictionary, LongestOutline.
-/
import Derived.Test.YtcpjpjdfddmncaaImpl6A
namespace Go.Proofs.Ytcpjpjdfddmncaa
set_option maxRecDepth 100000
open Go.RowKit

/-- The key of the entry before. -/
def lastK (es : List Ent) (k : Nat) : List Int := match es[k - 1]? with | some e => if k = 0 then z6 else keyL e.1 | none => z6
theorem lastK_zero (es : List Ent) : lastK es 0 = z6 := by unfold lastK; split <;> simp
theorem lastK_next {es : List Ent} {k : Nat} {e : Ent} (h : es[k]? = some e) : lastK es (k + 1) = keyL e.1 := by unfold lastK; simp [h]
theorem lastK_len (es : List Ent) (k : Nat) : (lastK es k).length = 6 := by
  unfold lastK
  split
  · split
    · rfl
    · exact keyL_len _
  · rfl
/-- The comparison of a round: are the entries taken so far still in order? -/
theorem last_cmp {es : List Ent} {k : Nat} {e : Ent} (h : es[k]? = some e) (ha : (es.take k).all okE = true) (hi : Pl.incB (es.take k) = true) (he : okE e = true) :
    Pl.incB (es.take (k + 1)) = decide (Pl.cmp (lastK es k) (keyL e.1) < 0) := by
  rcases Nat.eq_zero_or_pos k with h0 | h0
  · subst h0
    rw [lastK_zero, key_zero (okE_O he).1, List.take_add_one, h]
    rfl
  · obtain ⟨m, rfl⟩ : ∃ m, k = m + 1 := ⟨k - 1, by omega⟩
    have hk := (List.getElem?_eq_some_iff.1 h).1
    obtain ⟨e', he'⟩ : ∃ e', es[m]? = some e' := ⟨_, List.getElem?_eq_getElem (by omega)⟩
    have hok : okE e' = true := List.all_eq_true.1 ha e' (by rw [List.take_add_one, he']; simp)
    rw [lastK_next he', Pl.incB_next he' h, hi, Bool.true_and, key_cmp (okE_O hok).1 (okE_O he).1]
set_option maxHeartbeats 2000000 in
theorem ValidD_any (v : Value) (es : List Ent) (w : World) (h : EntsAt w v es) (hn : es.length ≤ 2097152) (hx : ∀ e ∈ es, entOk e) :
    Calls Try.prog 27 #[dV v] w fun r w' => r = .returned (.bool (okD es)) ∧ Below w.heap.size w w' := by
  obtain ⟨a, cap, rfl, hcap, hC⟩ := h.cells
  have HNo := Lib.hid (fun k e (h : es[k]? = some e) he => okD_no_at h he)
  have HNi := Lib.hid (fun k h => okD_no_inc (es := es) k h)
  have HX := Lib.hid (fun k e (h : es[k]? = some e) => hx e (List.mem_of_getElem? h))
  have CE := Lib.hid (fun u e w h he => Valid6_any u e w h he)
  have CK := Lib.hid (fun u xs w h hn => keyOf_any u xs w h hn)
  have CC := Lib.hid (fun l m hl hm w => cmpK_any l m hl hm w)
  have hlong := fun h => okD_no_len (es := es) h
  have HYes : Hid (es.length ≤ 40 → es.all okE = true → Pl.incB es = true → okD es = true) := fun h1 h2 h3 => by unfold okD; rw [h2, h3, decide_eq_true h1]; rfl
  obtain ⟨n, hnn⟩ : ∃ n, n = es.length := ⟨_, rfl⟩
  rw [← hnn] at hn hcap hlong HYes ⊢
  have HN := Lib.hid hnn
  have HC := Lib.hid hC
  obtain ⟨R, hR⟩ : ∃ R, R = okD es := ⟨_, rfl⟩
  rw [← hR] at HNo HNi hlong HYes ⊢
  have hz := ky_nil
  clear h hx hnn hC hR
  unfold dV
  by_cases h40 : n ≤ 40
  · have h40' : ¬ (40 < (n : Int)) := by omega
    have HKy : Hid (KyB ((w.alloc (.cells #[.slice a n cap] 26)).alloc (.cells (kyA z6) 77)) (w.heap.size + 1) z6) := by
      have := KyB.new (w.alloc (.cells #[.slice a n cap] 26)) z6
      rwa [World.size_alloc] at this
    clear hlong
    go_enter Try.func27, Try.ntmps27
    go_wp2_with fail
    go_loopw [14] (fun i wr => ∃ k : Nat, i = .int .i64 k ∧ k ≤ n ∧ Hid ((es.take k).all okE = true) ∧ Hid (Pl.incB (es.take k) = true) ∧ Hid (KyB wr (w.heap.size + 1) (lastK es k)) ∧ Hid (Below w.heap.size w wr)) (fun i _ => n - (intOf i).toNat)
    case atStart => exact ⟨0, rfl, Nat.zero_le _, Lib.hid rfl, Lib.hid rfl, by rw [lastK_zero]; exact HKy, below_al2 _ _ _⟩
    case round =>
      obtain ⟨k, rfl, hk, HA, HI, HL, HB⟩ := hrel
      by_cases hlt : k < n
      · obtain ⟨e, he⟩ : ∃ e, es[k]? = some e := ⟨_, List.getElem?_eq_getElem (by rw [← HN.out]; exact hlt)⟩
        obtain ⟨bk, o, u, rfl, hbk, g0, g1, gi⟩ := HC.out wr HB.out k e he
        have hxe := HX.out k e he
        have hlc := fun hi he1 => last_cmp he hi he1
        have HLC : Hid (okE e = true → Pl.incB (es.take (k + 1)) = decide (Pl.cmp (lastK es k) (keyL e.1) < 0)) := fun h => last_cmp he HA.out HI.out h
        have HA1 : Hid (okE e = true → (es.take (k + 1)).all okE = true) := fun h => allD_next he HA.out h
        have HNe : Hid (okE e = false → R = false) := fun h => HNo.out k e he h
        have HNk := Lib.hid (HNi.out (k + 1))
        have HLn : Hid (lastK es (k + 1) = keyL e.1) := lastK_next he
        have ce := fun w' hb => CE.out u e w' (gi.below (w' := w') hb) hxe
        have ck := CK.out u e.1 (wr.alloc (.cells #[u, .string e.2] 39)) (gi.below (below_al _ _)) hxe.1
        have hk6 := keyL_len e.1
        have hl6 := lastK_len es k
        obtain ⟨K, hK⟩ : ∃ K, K = keyL e.1 := ⟨_, rfl⟩
        obtain ⟨L, hL⟩ : ∃ L, L = lastK es k := ⟨_, rfl⟩
        obtain ⟨b, hb⟩ : ∃ b, b = okE e := ⟨_, rfl⟩
        rw [← hb] at ce HLC HA1 HNe
        rw [← hK] at ck hk6 HLC HLn
        rw [← hL] at hl6 HLC HL
        obtain ⟨ua, ucap, rfl, _, _⟩ := gi.cells
        obtain ⟨xs, t⟩ := e
        unfold enV at ce
        simp only at ce ck g0 g1
        have CE1 := Lib.hid ce
        have CK1 := Lib.hid ck
        have HK6 := Lib.hid hk6
        clear ce ck hk6 he gi hxe hb hK hL HNo HNi HA HI hlc CE CK
        go_wp2_with fail
        refine CK1.out.mono ?_
        rintro r w1 ⟨rfl, hb1⟩
        have hs1 : wr.heap.size + 1 ≤ w1.heap.size := by have := hb1.size; simpa using this
        have HB1 : Hid (Below w.heap.size w (w1.alloc (.cells (kyA z6) 77))) := (below_step HB.out (below_box hb1)).trans ((below_al w1 _).mono (by have := HB.out.size; omega))
        have E1 : Hid (BoxW (w1.alloc (.cells (kyA z6) 77)) wr.heap.size 39 (.slice ua xs.length ucap) (.string t)) := ((BoxW.new wr _ _ _).below hb1 (by simp)).below (below_al _ _) (by omega)
        have L1 : Hid (KyB (w1.alloc (.cells (kyA z6) 77)) (w.heap.size + 1) L) := by
          have h1 := HL.out.lt
          exact (((HL.out.below (below_al _ _) h1).below hb1 (by simp; omega)).below (below_al _ _) (by omega))
        have K1 : Hid (KyB (w1.alloc (.cells (kyA z6) 77)) w1.heap.size z6) := KyB.new _ _
        obtain ⟨W2, hW2⟩ : ∃ W2, W2 = (w1.alloc (.cells (kyA z6) 77)).setRow w1.heap.size (kyA K) := ⟨_, rfl⟩
        have E2 : Hid (BoxW W2 wr.heap.size 39 (.slice ua xs.length ucap) (.string t)) := by rw [hW2]; exact (setRow_other _ _ _ _ (by omega)).trans E1.out
        have L2 : Hid (KyB W2 (w.heap.size + 1) L) := by rw [hW2]; exact L1.out.rowOther _ (by have := HL.out.lt; omega)
        have K2 : Hid (KyB W2 w1.heap.size K) := by rw [hW2]; exact K1.out.row K
        have HB2 : Hid (Below w.heap.size w W2) := by rw [hW2]; exact below_setRow HB1.out (by have := HB.out.size; omega) _
        have HCE := Lib.hid (CE1.out W2 (by rw [hW2]; exact below_setRow (((below_al wr _).trans (hb1.mono (by simp))).trans ((below_al w1 _).mono (by omega))) (by omega) _))
        have hs2 : w1.heap.size + 1 = W2.heap.size := by rw [hW2, setRow_size]; simp
        have e0 := E2.out.cell0
        have e1 := E2.out.cell1
        have HW2 := Lib.hid hW2
        clear hb1 E1 L1 HB1 CE1 hW2
        go_wp2_with (with_reducible (show wpList _ _ _ (_ :: _) _ _); refine ky_store w1.heap.size z6 K z6_len HK6.out rfl rfl rfl rfl K1.out ?_; rw [← HW2.out])
        refine HCE.out.mono ?_
        rintro r w3 ⟨rfl, hb3⟩
        have L3 : Hid (KyB w3 (w.heap.size + 1) L) := L2.out.below hb3 L2.out.lt
        have K3 : Hid (KyB w3 w1.heap.size K) := K2.out.below hb3 K2.out.lt
        have HB3 : Hid (Below w.heap.size w w3) := below_step HB2.out hb3
        have CC3 := CC.out L K hl6 HK6.out w3
        clear hb3 L2 K2 HCE E2 e0 e1 HW2 K1 CC
        cases b
        · have HF := Lib.hid (HNe.out (by first | rfl | trivial))
          clear CC3 HNe HNk HLC HA1
          go_wp2
          go_ret
          exact ⟨ret_bool HF.out.symm, HB3.out⟩
        · have HLC2 := HLC.out (by first | rfl | trivial)
          have HA2 := Lib.hid (HA1.out (by first | rfl | trivial))
          obtain ⟨c, hc⟩ : ∃ c, c = Pl.cmp L K := ⟨_, rfl⟩
          rw [← hc] at CC3 HLC2
          obtain ⟨l0, l1, l2, l3, l4, l5, rfl⟩ := Pl.six hl6
          obtain ⟨k0, k1, k2, k3, k4, k5, rfl⟩ := Pl.six HK6.out
          obtain ⟨p0, p1, p2, p3, p4, p5⟩ := KyB.cells L3.out
          obtain ⟨q0, q1, q2, q3, q4, q5⟩ := KyB.cells K3.out
          have HC3 : Hid (Calls Try.prog 57 #[.agg #[.int .i64 l0, .int .i64 l1, .int .i64 l2, .int .i64 l3, .int .i64 l4, .int .i64 l5], .agg #[.int .i64 k0, .int .i64 k1, .int .i64 k2, .int .i64 k3, .int .i64 k4, .int .i64 k5]] w3 fun r w' => r = .returned (.int .i64 c) ∧ Below w3.heap.size w3 w') := CC3
          have HLC3 := Lib.hid HLC2
          clear CC3 HLC HLC2 HA1 hc HNe
          by_cases hc0 : 0 ≤ c
          · have HF : Hid (R = false) := HNk.out (by rw [HLC3.out]; exact decide_eq_false (by omega))
            go_wp2_with fail
            refine HC3.out.mono ?_
            rintro r w4 ⟨rfl, hb4⟩
            have HB4 : Hid (Below w.heap.size w w4) := below_step HB3.out hb4
            clear hb4 HNk HLC3
            go_wp2
            go_ret
            exact ⟨ret_bool HF.out.symm, HB4.out⟩
          · have HI2 : Hid (Pl.incB (es.take (k + 1)) = true) := by
              show Pl.incB (es.take (k + 1)) = true
              rw [HLC3.out]; exact decide_eq_true (by omega)
            go_wp2_with fail
            refine HC3.out.mono ?_
            rintro r w4 ⟨rfl, hb4⟩
            have HB4 : Hid (Below w.heap.size w w4) := below_step HB3.out hb4
            have L4 : Hid (KyB w4 (w.heap.size + 1) [l0, l1, l2, l3, l4, l5]) := L3.out.below hb4 L3.out.lt
            have K4 : Hid (KyB w4 w1.heap.size [k0, k1, k2, k3, k4, k5]) := K3.out.below hb4 K3.out.lt
            have HLL : Hid (KyB (w4.setRow (w.heap.size + 1) (kyA [k0, k1, k2, k3, k4, k5])) (w.heap.size + 1) (lastK es (k + 1))) := by rw [HLn.out]; exact L4.out.row _
            have HBL : Hid (Below w.heap.size w (w4.setRow (w.heap.size + 1) (kyA [k0, k1, k2, k3, k4, k5]))) := below_setRow HB4.out (by omega) _
            clear hb4 HNk HLC3 L3 K3 p0 p1 p2 p3 p4 p5 q0 q1 q2 q3 q4 q5
            go_wp2_with (with_reducible (show wpList _ _ _ (_ :: _) _ _); first | refine ky_load w1.heap.size [k0, k1, k2, k3, k4, k5] rfl rfl rfl rfl K4.out ?_ | refine ky_store (w.heap.size + 1) [l0, l1, l2, l3, l4, l5] [k0, k1, k2, k3, k4, k5] rfl rfl rfl rfl rfl rfl L4.out ?_)
            go_roundw
            case rel => exact ⟨k + 1, by go_num, by omega, HA2, HI2, HLL, HBL⟩
            case measure => simp [intOf]; omega
      · obtain rfl : k = n := by omega
        have HF : Hid (R = true) := by
          have h2 := HA.out
          have h3 := HI.out
          rw [List.take_of_length_le (by rw [← HN.out]; exact Nat.le_refl _)] at h2 h3
          exact HYes.out h40 h2 h3
        clear HA HI
        go_wp2
        go_ret
        exact ⟨ret_bool HF.out.symm, HB.out⟩
  · have HF := Lib.hid (hlong h40)
    have h40' : 40 < (n : Int) := by omega
    clear hlong
    go_enter Try.func27, Try.ntmps27
    go_wp2
    go_ret
    exact ⟨ret_bool HF.out.symm, (Below.refl _ _).alloc (Nat.le_refl _) _⟩
end Go.Proofs.Ytcpjpjdfddmncaa
