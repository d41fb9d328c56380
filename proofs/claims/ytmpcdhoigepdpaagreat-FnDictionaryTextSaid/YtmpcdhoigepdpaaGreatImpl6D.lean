/-
  CONTRACTS of the program's chapter 6: formatEntry, FormatDictionary.
-/
import Derived.Test.YtmpcdhoigepdpaaGreatImpl6E
import Derived.Test.YtmpcdhoigepdpaaGreatPD
import Derived.Test.YtmpcdhoigepdpaaGreatBuildS
namespace Go.Proofs.YtmpcdhoigepdpaaGreat
set_option maxRecDepth 100000
open Go.RowKit

theorem ba_data (a b : ByteArray) : (a ++ b).data.toList = a.data.toList ++ b.data.toList := by rw [ByteArray.data_append, Array.toList_append]
theorem dicT_take_next {es : List Ent} {k : Nat} {e : Ent} (h : es[k]? = some e) : dicT (es.take (k + 1)) = dicT (es.take k) ++ lineT e := by
  rw [← dicT_next h]; unfold lineT; simp only [ba_assoc]
theorem fmtEntry_any (u : Value) (e : Ent) (w : World) (h : IntsAt w u e.1) (he : okE e = true) :
    Calls Tryz.prog 85 #[enV u e.2] w fun r w' => r = .returned (.string (lineT e)) ∧ Below w.heap.size w w' := by
  obtain ⟨xs, t⟩ := e
  obtain ⟨h1, h2, h3⟩ := okE_size he
  have hok := (okE_O he).1
  simp only at h h1 h2 h3 hok
  have c := fun w' hb => Format_any u xs w' (h.below (w' := w') hb) (by omega)
  rw [fmtE_yes hok] at c
  have hfs := fmtT_size xs
  have HL : Hid (lineT (xs, t) = fmtT xs ++ ⟨#[32]⟩ ++ t ++ ⟨#[10]⟩) := rfl
  obtain ⟨f, hf⟩ : ∃ f, f = fmtT xs := ⟨_, rfl⟩
  rw [← hf] at c hfs HL
  obtain ⟨R, hR⟩ : ∃ R, R = lineT (xs, t) := ⟨_, rfl⟩
  rw [← hR] at HL ⊢
  have C := Lib.hid c
  have hs1 : (⟨#[32]⟩ : ByteArray).size = 1 := rfl
  have hs2 : (⟨#[10]⟩ : ByteArray).size = 1 := rfl
  have z1 : (f ++ (⟨#[32]⟩ : ByteArray)).size = f.size + 1 := by rw [ByteArray.size_append]; rfl
  have z2 : (f ++ (⟨#[32]⟩ : ByteArray) ++ t).size = f.size + 1 + t.size := by rw [ByteArray.size_append, z1]
  have z3 : (f ++ (⟨#[32]⟩ : ByteArray) ++ t ++ (⟨#[10]⟩ : ByteArray)).size = f.size + 1 + t.size + 1 := by rw [ByteArray.size_append, z2]; rfl
  obtain ⟨ua, ucap, rfl, _, _⟩ := h.cells
  clear c h he hok hf hR
  unfold enV
  go_enter Tryz.func85, Tryz.ntmps85
  go_wp2_with fail
  refine (C.out _ (below_al _ _)).mono ?_
  rintro r w1 ⟨rfl, hb⟩
  obtain ⟨c0, c1⟩ := box2 hb
  have HB := Lib.hid (below_box hb)
  clear hb C
  go_wp2
  go_ret
  exact ⟨by rw [HL.out]; rfl, HB.out⟩
set_option maxHeartbeats 2000000 in
theorem FormatD_any (v : Value) (es : List Ent) (w : World) (h : EntsAt w v es) (hn : es.length ≤ 2097152) (hx : ∀ e ∈ es, entOk e) :
    Calls Tryz.prog 26 #[dV v] w fun r w' => r = fmtDE es ∧ Below w.heap.size w w' := by
  have c := fun w' hb => ValidD_any v es w' (h.below (w' := w') hb) hn hx
  obtain ⟨a, cap, rfl, hcap, hC⟩ := h.cells
  cases hg : okD es
  · rw [hg] at c
    rw [fmtDE_no (fmtDB_bad hg)]
    have C := Lib.hid c
    clear c h hx hg hC
    unfold dV at C ⊢
    go_enter Tryz.func26, Tryz.ntmps26
    go_wp2_with fail
    refine (C.out _ (below_al _ _)).mono ?_
    rintro r w1 ⟨rfl, hb⟩
    have HB := Lib.hid (below_box hb)
    clear hb
    go_wp2
    go_ret2
    exact ⟨rfl, HB.out⟩
  · rw [hg] at c
    obtain ⟨h40, hoks, _⟩ := okD_parts hg
    have hts := dicT_size hoks
    have HX := Lib.hid (fun k e (h : es[k]? = some e) => hoks e (List.mem_of_getElem? h))
    have HBig := Lib.hid (fun h => fmtDE_no (fmtDB_big (es := es) h))
    have HOk := Lib.hid (fun h => fmtDE_yes (fmtDB_ok hg h))
    obtain ⟨R, hR⟩ : ∃ R, R = fmtDE es := ⟨_, rfl⟩
    rw [← hR] at HBig HOk
    rw [← hR]
    have C := Lib.hid c
    have CF := Lib.hid (fun u e w h he => fmtEntry_any u e w h he)
    have CW := Lib.hid (fun B b l s w h hl hs hB => WriteString_any B b l s w h hl hs hB)
    have CLen := Lib.hid (fun B b bs w h => Tryz.Builder_Len B b bs w h)
    have CStr := Lib.hid (fun B b l w h hB => Tryz.Builder_String_any B b l w h hB)
    obtain ⟨n, hnn⟩ : ∃ n, n = es.length := ⟨_, rfl⟩
    unfold dV at C ⊢
    rw [← hnn] at hn hcap h40 hts C ⊢
    have HN := Lib.hid hnn
    have HC := Lib.hid hC
    clear c h hx hg hC hoks hnn hR
    go_enter Tryz.func26, Tryz.ntmps26
    go_wp2_with fail
    refine (C.out _ (below_al _ _)).mono ?_
    rintro r w1 ⟨rfl, hb⟩
    have hbox := box1 hb
    have hs1 : w.heap.size + 1 ≤ w1.heap.size := by have := hb.size; simpa using this
    have HB := Lib.hid ((below_box hb).trans ((below_al w1 (.cells #[.pointer none, .slice none 0 0] 116)).mono (by omega)))
    have hbld : Bld w1.heap.size w1.heap.size [] (w1.alloc (.cells #[.pointer none, .slice none 0 0] 116)) :=
      .inl ⟨Nat.le_refl _, .slice none 0 0, heap_alloc_new _ _, World.ownsRow_nil _ _ _ _, by simp [Value.ownBlock]⟩
    have HB0 := Lib.hid hbld
    clear hb C hbld
    have hne1 : w.heap.size < w1.heap.size := by omega
    have hne2 : ¬ (w.heap.size = w1.heap.size) := by omega
    have hbox2 : (w1.alloc (.cells #[.pointer none, .slice none 0 0] 116)).cell? ⟨w.heap.size, 0, none⟩ = some (.slice a n cap) := ((below_al w1 _).cell (p := ⟨w.heap.size, 0, none⟩) hne1).trans hbox
    go_wp2_with fail
    obtain ⟨B, hB⟩ : ∃ B, B = w1.heap.size := ⟨_, rfl⟩
    rw [← hB] at HB0 hs1 ⊢
    have HBw := Lib.hid hB
    clear hB hne1 hne2 hbox2
    go_loopw [13] (fun i wr => ∃ k : Nat, i = .int .i64 k ∧ k ≤ n ∧ Hid (Bld B B (dicT (es.take k)).data.toList wr) ∧ Hid (Below w.heap.size w wr)  ) (fun i _ => n - (intOf i).toNat)
    case atStart => exact ⟨0, rfl, Nat.zero_le _, HB0, HB⟩
    case round =>
      obtain ⟨k, rfl, hk, HBk, HBr⟩ := hrel
      by_cases hlt : k < n
      · obtain ⟨e, he⟩ : ∃ e, es[k]? = some e := ⟨_, List.getElem?_eq_getElem (by rw [← HN.out]; exact hlt)⟩
        obtain ⟨bk, o, uk, rfl, hbk, g0, g1, gi⟩ := HC.out wr HBr.out k e he
        have hok := HX.out k e he
        have HNx : Hid ((dicT (es.take k)).data.toList ++ (lineT e).data.toList = (dicT (es.take (k + 1))).data.toList) := by
          show _ = _
          rw [dicT_take_next he, ba_data]
        have hls := lineT_size hok
        have hlt2 : (dicT (es.take k)).data.toList.length ≤ 1000000 := by
          have h1 := dicT_size (es := es.take k) (fun x hx => by
            obtain ⟨j, hj⟩ := List.getElem?_of_mem hx
            rw [List.getElem?_take] at hj
            split at hj
            · exact HX.out j x hj
            · cases hj)
          rw [List.length_take] at h1
          have h2 : (dicT (es.take k)).data.toList.length = (dicT (es.take k)).size := by rw [Array.length_toList]; rfl
          rw [h2]
          have := HN.out
          omega
        have cf := CF.out uk e (wr.alloc (.cells #[uk, .string e.2] 29)) (gi.below (below_al _ _)) hok
        have hbW : Below wr.heap.size wr (wr.alloc (.cells #[uk, .string e.2] 29)) := below_al _ _
        have HBl : Hid (Bld B B (dicT (es.take k)).data.toList (wr.alloc (.cells #[uk, .string e.2] 29))) := Bld.below HBk.out hbW
        have HBa : Hid (Below w.heap.size w (wr.alloc (.cells #[uk, .string e.2] 29))) := below_step HBr.out hbW
        have hBlt : B < wr.heap.size := (Bld.lt' HBk.out)
        obtain ⟨L, hL⟩ : ∃ L, L = lineT e := ⟨_, rfl⟩
        obtain ⟨D, hD⟩ : ∃ D, D = (dicT (es.take k)).data.toList := ⟨_, rfl⟩
        rw [← hL] at hls HNx cf
        rw [← hD] at HNx hlt2 HBl
        obtain ⟨ua, ucap, rfl, _, _⟩ := gi.cells
        obtain ⟨xs, t⟩ := e
        unfold enV at cf
        simp only at cf g0 g1 HBl HBa
        have CF1 := Lib.hid cf
        clear cf he gi hok hL hD HBk HBr hbW CF
        go_wp2_with fail
        refine CF1.out.mono ?_
        rintro r w2 ⟨rfl, hb2⟩
        have HBl2 : Hid (Bld B B D w2) := Bld.below HBl.out hb2
        have HBa2 : Hid (Below w.heap.size w w2) := below_step HBa.out hb2
        have hB2 : B ≤ w2.heap.size := Nat.le_of_lt (Bld.lt' HBl2.out)
        clear hb2 HBl HBa CF1
        go_wp2_with fail
        refine (CW.out B B D L w2 HBl2.out hlt2 (by omega) hB2).mono ?_
        rintro r w3 ⟨rfl, hl3, hb3⟩
        have HBl3 : Hid (Bld B B (dicT (es.take (k + 1))).data.toList w3) := by rw [← HNx.out]; exact hl3
        have HBa3 : Hid (Below w.heap.size w w3) := HBa2.out.trans (hb3.mono (by omega))
        clear hb3 hl3 HBl2 HBa2
        go_wp2
        go_roundw
        case rel => exact ⟨k + 1, by go_num, by omega, HBl3, HBa3⟩
        case measure => simp [intOf]; omega
      · obtain rfl : k = n := by omega
        have HT : Hid (es.take k = es) := List.take_of_length_le (by rw [← HN.out]; exact Nat.le_refl _)
        have HBk2 : Hid (Bld B B (dicT es).data.toList wr) := by have := HBk.out; rw [HT.out] at this; exact this
        have hl : (Lib.byteCells (dicT es).data.toList).length = (dicT es).size := by rw [Lib.byteCells, List.length_map, Array.length_toList]; rfl
        have C1 := CLen.out B B _ wr HBk2.out
        rw [hl] at C1
        have C2 := CStr.out B B _ wr HBk2.out (Nat.le_of_lt (Bld.lt' HBk2.out))
        have et : (⟨(dicT es).data.toList.toArray⟩ : ByteArray) = dicT es := by simp
        rw [et] at C2
        obtain ⟨T, hT⟩ : ∃ T, T = dicT es := ⟨_, rfl⟩
        rw [← hT] at HBig HOk hts C1 C2
        have D1 := Lib.hid C1
        have D2 := Lib.hid C2
        have hBlt : B < wr.heap.size := (Bld.lt' HBk2.out)
        clear C1 C2 hl et hT HBk HBk2 HT CLen CStr
        by_cases h4 : 4000 < T.size
        · have HF := Lib.hid (HBig.out h4)
          clear HBig HOk
          go_wp2_with fail
          refine D1.out.mono ?_
          rintro r w2 ⟨rfl, rfl⟩
          go_wp2
          go_ret2
          exact ⟨HF.out.symm, HBr.out⟩
        · have HF := Lib.hid (HOk.out (by omega))
          clear HBig HOk
          go_wp2_with fail
          refine D1.out.mono ?_
          rintro r w2 ⟨rfl, rfl⟩
          go_wp2_with fail
          refine D2.out.mono ?_
          rintro r w3 ⟨rfl, hb3⟩
          have HB3 : Hid (Below w.heap.size w w3) := HBr.out.trans (hb3.mono (by omega))
          clear hb3
          go_wp2
          go_ret2
          exact ⟨HF.out.symm, HB3.out⟩
end Go.Proofs.YtmpcdhoigepdpaaGreat
