/-
  CONTRACTS of the program's chapter 6: textsOf, Lookup.
-/
import Derived.Test.YtcpjpjdfddmncaaImpl6B
import Derived.Test.YtcpjpjdfddmncaaMapK
import Derived.Test.YtcpjpjdfddmncaaMix
namespace Go.Proofs.Ytcpjpjdfddmncaa
set_option maxRecDepth 100000
open Go.RowKit

/-- Block b is the map of these entries. -/
def MapB (w : World) (b : Nat) (es : List Ent) : Prop := w.ownsMap Try.prog 77 (plainElem Try.prog 9) b es.length (mapD es)
theorem MapB.lt {w : World} {b : Nat} {es : List Ent} (h : MapB w b es) : b < w.heap.size := World.ownsMap.lt h
theorem MapB.below {w w' : World} {b : Nat} {es : List Ent} (h : MapB w b es) (hb : Below w.heap.size w w') : MapB w' b es :=
  World.ownsMap.kept h (row := none) ⟨hb.os, hb.tape, hb.output, hb.size, fun k hk _ => hb.block k hk⟩ (by simp)
theorem MapB.new (w : World) : MapB (w.alloc (.map #[] 0)) w.heap.size [] := World.ownsMap_made _ _ _ _
theorem run_makeMapN (n : Nat) (w : World) : (Instr.makeMap 73 (some (.int .i64 (n : Int)))).run Try.prog w = .ok (.map (some w.heap.size)) (w.alloc (.map #[] 0)) := by
  have h : (asIntOf (.int .i64 (n : Int))).run Try.prog w = .ok (.i64, (n : Int)) w := rfl
  simp [Instr.makeMap, asInt, newObj, h]
  rfl
set_option maxHeartbeats 2000000 in
theorem texts_any (v : Value) (es : List Ent) (w : World) (h : EntsAt w v es) (hn : es.length ≤ 2097152) (hx : ∀ e ∈ es, entOk e) (hg : okD es = true) :
    Calls Try.prog 49 #[dV v] w fun r w' => (∃ b, r = .returned (.tuple #[.map (some b), .bool true]) ∧ w.heap.size ≤ b ∧ MapB w' b es) ∧ Below w.heap.size w w' := by
  have c := fun w' hb => ValidD_any v es w' (h.below (w' := w') hb) hn hx
  obtain ⟨a, cap, rfl, hcap, hC⟩ := h.cells
  rw [hg] at c
  have C := Lib.hid c
  have CK := Lib.hid (fun u xs w h hn => keyOf_any u xs w h hn)
  have HX := Lib.hid (fun k e (h : es[k]? = some e) => hx e (List.mem_of_getElem? h))
  obtain ⟨n, hnn⟩ : ∃ n, n = es.length := ⟨_, rfl⟩
  unfold dV at C ⊢
  rw [← hnn] at hn hcap C ⊢
  have HN := Lib.hid hnn
  have HC := Lib.hid hC
  have h40 : n ≤ 40 := by rw [hnn]; exact (okD_parts hg).1
  have hmm := fun w => run_makeMapN n w
  clear c h hx hg hC hnn
  go_enter Try.func49, Try.ntmps49
  go_wp2_with fail
  refine (C.out _ (below_al _ _)).mono ?_
  rintro r w1 ⟨rfl, hb⟩
  have hbox := box1 hb
  have hs1 : w.heap.size + 1 ≤ w1.heap.size := by have := hb.size; simpa using this
  have hbox2 : (w1.alloc (.map #[] 0)).cell? ⟨w.heap.size, 0, none⟩ = some (.slice a n cap) := ((below_al w1 _).cell (p := ⟨w.heap.size, 0, none⟩) (show w.heap.size < w1.heap.size by omega)).trans hbox
  have HB := Lib.hid ((below_box hb).trans ((below_al w1 (.map #[] 0)).mono (by omega)))
  have HM0 := Lib.hid (MapB.new w1)
  clear hb C
  go_wp2_with fail
  clear hmm
  clear hbox hbox2
  obtain ⟨B, hB⟩ : ∃ B, B = w1.heap.size := ⟨_, rfl⟩
  rw [← hB] at HM0 hs1 ⊢
  clear hB
  go_loopw [17] (fun i wr => ∃ k : Nat, i = .int .i64 k ∧ k ≤ n ∧ Hid (MapB wr B (es.take k)) ∧ Hid (Below w.heap.size w wr)) (fun i _ => n - (intOf i).toNat)
  case atStart => exact ⟨0, rfl, Nat.zero_le _, HM0, HB⟩
  case round =>
    obtain ⟨k, rfl, hk, HM, HBr⟩ := hrel
    by_cases hlt : k < n
    · obtain ⟨e, he⟩ : ∃ e, es[k]? = some e := ⟨_, List.getElem?_eq_getElem (by rw [← HN.out]; exact hlt)⟩
      obtain ⟨bk, o, u, rfl, hbk, g0, g1, gi⟩ := HC.out wr HBr.out k e he
      have hxe := HX.out k e he
      have hkey := kl_at (kyOk_key e.1)
      have hval : plainElem (H := Unit) Try.prog 9 (.string e.2) = some (litT e.2, []) := plainElem_string Try.underlying9 (by have := hxe.2; unfold maxLen; omega)
      have HNx : Hid (mapD (es.take (k + 1)) = (mapD (es.take k)).put (KL (keyL e.1)) (litT e.2)) := mapD_next he
      have hlk : (es.take k).length = k := by rw [List.length_take, ← HN.out]; omega
      have hlk1 : (es.take (k + 1)).length = k + 1 := by rw [List.length_take, ← HN.out]; omega
      have HL1 := Lib.hid hlk1
      have ck := CK.out u e.1 (wr.alloc (.cells #[u, .string e.2] 39)).drew (gi.below (below_al _ _).drew) hxe.1
      obtain ⟨K, hK⟩ : ∃ K, K = keyL e.1 := ⟨_, rfl⟩
      obtain ⟨d, hd⟩ : ∃ d, d = litT e.2 := ⟨_, rfl⟩
      rw [← hK] at ck hkey HNx
      rw [← hd] at hval HNx
      obtain ⟨ua, ucap, rfl, _, _⟩ := gi.cells
      obtain ⟨xs, t⟩ := e
      simp only at ck g0 g1 hval
      have CK1 := Lib.hid ck
      have HKy := Lib.hid hkey
      have HV := Lib.hid hval
      have HMl : Hid (wr.ownsMap Try.prog 77 (plainElem Try.prog 9) B k (mapD (es.take k))) := by have h1 := HM.out; unfold MapB at h1; rw [hlk] at h1; exact h1
      clear ck hkey hval he gi hxe hK hd hlk hlk1 HM
      go_wp2_with fail
      obtain ⟨W0, hW0⟩ : ∃ W0, W0 = wr.alloc (.cells #[.slice ua xs.length ucap, .string t] 39) := ⟨_, rfl⟩
      have E0 : BoxW W0 wr.heap.size 39 (.slice ua xs.length ucap) (.string t) := by rw [hW0]; exact BoxW.new wr _ _ _
      have k0 := cell_regrown E0.cell0
      have k1 := cell_regrown E0.cell1
      have hb00 : Below wr.heap.size wr W0 := by rw [hW0]; exact below_al wr _
      have HM0' : Hid (W0.ownsMap Try.prog 77 (plainElem Try.prog 9) B k (mapD (es.take k))) := HMl.out.kept (row := none) ⟨hb00.os, hb00.tape, hb00.output, hb00.size, fun j hj _ => hb00.block j hj⟩ (by simp)
      have HB00 : Hid (Below w.heap.size w W0) := below_step HBr.out hb00
      have hBw : B < W0.heap.size := World.ownsMap.lt HM0'.out
      rw [← hW0] at CK1 ⊢
      clear hW0 HMl E0 hb00
      refine Mx.wp_region_mixed (Mx.ofL [(0, 0), (1, 0), (2, 1), (4, 0), (5, 1), (3, 2), (6, 3)] .done) (by kernel_rfl) (by kernel_rfl) ?_
      repeat ((first | refine Mx.mix0 rfl ?_ | refine Mx.mix1 rfl ?_); go_big_quiet_step (fail); refine wpQuiet_nil ?_)
      refine Mx.mix2 rfl ?_
      go_wp2_with fail
      refine CK1.out.mono ?_
      rintro r w2 ⟨rfl, hb2⟩
      have Bw : Below W0.heap.size W0 w2 := (below_drewN (Below.refl _ _) 1).trans hb2
      have HM2 : Hid (w2.ownsMap Try.prog 77 (plainElem Try.prog 9) B k (mapD (es.take k))) := HM0'.out.kept (row := none) ⟨Bw.os, Bw.tape, Bw.output, Bw.size, fun j hj _ => Bw.block j hj⟩ (by simp)
      have HB2 : Hid (Below w.heap.size w w2) := below_step HB00.out Bw
      have HG := Lib.hid (regrown_of_below Bw)
      clear hb2 Bw HM0' CK1
      go_wp2
      refine Mx.mid_normal (fun _ => HG.out) ?_
      refine Mx.mix3 rfl ?_
      refine wpList_mapUpdate_own _ rfl _ _ _ 73 rfl 77 9 lawK Try.underlying73 _ B k _ rfl HM2.out (by unfold maxLen; omega) _ _ (KL K) rfl rfl HKy.out d [] HV.out ?_
      intro w3 hown3 hgr3
      have HM3 : Hid (MapB w3 B (es.take (k + 1))) := by
        show World.ownsMap _ _ _ _ _ _ _
        rw [HL1.out, HNx.out]; exact hown3
      have HB3 : Hid (Below w.heap.size w w3) := HB2.out.grown hgr3 HB2.out.size (fun j hj => by cases hj; omega)
      clear hown3 hgr3 HM2
      refine Mx.mid_normal (fun q => by cases q) (Mx.mix_nil ?_)
      go_wp2
      go_roundw
      case rel => exact ⟨k + 1, by go_num, by omega, HM3, HB3⟩
      case measure => simp [intOf]; omega
    · obtain rfl : k = n := by omega
      have HF : Hid (MapB wr B es) := by
        have h1 := HM.out
        rw [List.take_of_length_le (by rw [← HN.out]; exact Nat.le_refl _)] at h1
        exact h1
      clear HM
      go_wp2
      go_ret2
      exact ⟨⟨B, rfl, by omega, HF.out⟩, HBr.out⟩
/-- At a dictionary that is not valid. -/
theorem textsNo_any (v : Value) (es : List Ent) (w : World) (h : EntsAt w v es) (hn : es.length ≤ 2097152) (hx : ∀ e ∈ es, entOk e) (hg : okD es = false) :
    Calls Try.prog 49 #[dV v] w fun r w' => r = .returned (.tuple #[.map none, .bool false]) ∧ Below w.heap.size w w' := by
  have c := fun w' hb => ValidD_any v es w' (h.below (w' := w') hb) hn hx
  obtain ⟨a, cap, rfl, hcap, hC⟩ := h.cells
  rw [hg] at c
  have C := Lib.hid c
  clear c h hx hg hC
  unfold dV at C ⊢
  go_enter Try.func49, Try.ntmps49
  go_wp2_with fail
  refine (C.out _ (below_al _ _)).mono ?_
  rintro r w1 ⟨rfl, hb⟩
  have HB := Lib.hid (below_box hb)
  clear hb
  go_wp2
  go_ret2
  exact ⟨rfl, HB.out⟩
/-- What a look-up in the map finds. -/
theorem lookE (x : Option ByteArray) : lkE x = .returned (.tuple #[.string (x.getD ByteArray.empty), .bool x.isSome]) := by cases x <;> rfl
set_option maxHeartbeats 1000000 in
theorem LookupD_any (v : Value) (es : List Ent) (u : Value) (ys : List Int) (w : World) (h : EntsAt w v es) (hu : IntsAt w u ys) (hn : es.length ≤ 2097152) (hx : ∀ e ∈ es, entOk e) (hy : ys.length ≤ 2097152) :
    Calls Try.prog 17 #[dV v, u] w fun r w' => r = lkE (lupO ys es) ∧ Below w.heap.size w w' := by
  have hE := h
  have hU := hu
  obtain ⟨a, cap, rfl, hcap, hC⟩ := h.cells
  obtain ⟨ua, ucap, rfl, _, _⟩ := hu.cells
  cases hg : okD es
  · rw [lupO_no hg]
    have C := Lib.hid (fun w' hb => textsNo_any _ es w' (hE.below (w' := w') hb) hn hx hg)
    clear h hu hE hU hx hg hC
    unfold dV at C ⊢
    go_enter Try.func17, Try.ntmps17
    go_wp2_with fail
    refine (C.out _ (below_al _ _)).mono ?_
    rintro r w1 ⟨rfl, hb⟩
    have HB := Lib.hid (below_box hb)
    clear hb
    go_wp2
    go_ret2
    exact ⟨rfl, HB.out⟩
  · rw [lupO_yes hg]
    have C := Lib.hid (fun w' hb => texts_any _ es w' (hE.below (w' := w') hb) hn hx hg)
    have CK := Lib.hid (fun w' hb => keyOf_any _ ys w' (hU.below (w' := w') hb) hy)
    have hkey := kl_at (kyOk_key ys)
    obtain ⟨hl1, hl2⟩ := mapD_look (keyL ys) (kyOk_key ys) es
    rw [lastT_key hg] at hl1 hl2
    obtain ⟨x, hx'⟩ : ∃ x, x = Pl.look ys es := ⟨_, rfl⟩
    rw [← hx'] at hl1 hl2 ⊢
    rw [lookE]
    obtain ⟨K, hK⟩ : ∃ K, K = keyL ys := ⟨_, rfl⟩
    rw [← hK] at CK hkey hl1 hl2
    have HL1 := Lib.hid hl1
    have HL2 := Lib.hid hl2
    have HKy := Lib.hid hkey
    clear h hu hE hU hx hg hC hx' hK hl1 hl2 hkey
    unfold dV at C ⊢
    go_enter Try.func17, Try.ntmps17
    go_wp2_with fail
    refine (C.out _ (below_al _ _)).mono ?_
    rintro r w1 ⟨⟨b, rfl, hb0, hm⟩, hb⟩
    have HM := Lib.hid hm
    have HB := Lib.hid (below_box hb)
    clear hb hm hb0 C
    go_wp2_with fail
    refine (CK.out w1 HB.out).mono ?_
    rintro r w2 ⟨rfl, hb⟩
    have HM2 : Hid (w2.ownsMap Try.prog 77 (plainElem Try.prog 9) b es.length (mapD es)) := MapB.below HM.out hb
    have HB2 := Lib.hid (below_step HB.out hb)
    clear hb HM HB CK
    go_wp2_with (at_lookup; refine wpList_lookup_own_ok _ rfl _ _ 73 rfl 77 9 lawK Try.underlying73 _ (zeroS _) (litT ByteArray.empty) [] (plainElem_string Try.underlying9 (by decide)) b es.length (mapD es) rfl HM2.out _ (KL K) rfl HKy.out ?_)
    intro v ps hv
    have hv2 : v = .string (x.getD ByteArray.empty) := by
      rw [HL2.out] at hv
      obtain ⟨s, rfl, h1, _⟩ := plainElem_string_inv Try.underlying9 hv
      have h2 := congrArg Prod.fst h1
      cases x with
      | none => simp only [litT] at h2; injection h2 with h2; injection h2 with h2; congr 1; exact (ByteArray.ext (Array.toList_inj.1 h2)).symm
      | some t => simp only [litT] at h2; injection h2 with h2; injection h2 with h2; congr 1; exact (ByteArray.ext (Array.toList_inj.1 h2)).symm
    subst hv2
    rw [HL1.out]
    clear hv HM2
    go_wp2
    go_ret2
    exact ⟨rfl, HB2.out⟩
end Go.Proofs.Ytcpjpjdfddmncaa
