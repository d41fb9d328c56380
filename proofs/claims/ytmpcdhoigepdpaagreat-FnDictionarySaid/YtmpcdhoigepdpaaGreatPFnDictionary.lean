/-
  laws.FnDictionary returns true whatever the code: an inserted entry is found, all other entries are unchanged, and deleting it restores them, at all that the code draws. Conditions: none but the row's own.
-/
import Derived.Test.YtmpcdhoigepdpaaGreatRows
import Derived.WalkKit
import Derived.ProofKit
import Derived.OpenShut
import Derived.ShutString
import Derived.ChangeOld
import Derived.Below
import Derived.SliceStrings
import Derived.JoinedCond
import Derived.Deep.DeepHandedRow
import Derived.Deep.DeepWitnessRowRef
import Derived.Lib.Hide
import Derived.Test.YtmpcdhoigepdpaaGreatDrawP
import Derived.Test.YtmpcdhoigepdpaaGreatSpecI
import Derived.Test.YtmpcdhoigepdpaaGreatInsD
import Derived.Test.YtmpcdhoigepdpaaGreatBig
namespace Go.Proofs.YtmpcdhoigepdpaaGreat.fnDictionary
open Go.ChangeShapes Go.WideShapes Go.ChangeAt Go.RowKit
open Go.ChangeMaps (open_string shut_string)
set_option linter.unusedVariables false
set_option maxRecDepth 100000

theorem own : ownKnob Tryz.prog.godebug = none := by kernel_rfl
theorem laidOut : laidOutB Tryz.prog = true := by kernel_rfl

/-- A slice of integers that came in. -/
def IsRow (k : IntKind) (w : World) (a : Option Addr) (len cap : Nat) (zs : List Int) : Prop :=
  (a = none ∧ len = 0 ∧ cap = 0 ∧ zs = []) ∨
  ∃ x, a = some x ∧ len ≤ cap ∧ cap ≤ maxLen ∧ zs.length = cap ∧ (∀ i, i < zs.length → w.cell? (x.add i) = some (.int k (zs.getD i 0))) ∧ ∀ n ∈ zs, (Lit.int k n).wf = true

theorem code_of {w : World} {a : Option Addr} {n c : Nat} {z : List Int} (h : IsRow .u8 w a n c z) (hn : n ≤ 1000000) : CodeAt w a n := by
  refine ⟨hn, fun h0 => ?_⟩
  rcases h with ⟨rfl, rfl, rfl, rfl⟩ | ⟨x, rfl, hl, hm, hz, hcell, hwz⟩
  · omega
  · obtain ⟨b, o, spot⟩ := x
    have h1 := hcell 0 (by omega)
    have hspot : spot = none := by simpa [Addr.add] using World.cell?_spot h1
    subst hspot
    refine ⟨b, o, rfl, ?_, fun i hi => ?_⟩
    · have : (w.cell? ⟨b, o, none⟩).isSome := by have := h1; simp [Addr.add] at this; rw [this]; rfl
      rcases Nat.lt_or_ge b w.heap.size with h' | h'
      · exact h'
      · simp [World.cell?, Array.getElem?_eq_none h'] at this
    · have h2 := hcell i (by omega)
      have h3 := bounds_u8 (hwz (z.getD i 0) (by rw [List.getD_eq_getElem?_getD, List.getElem?_eq_getElem (by omega)]; exact List.getElem_mem _))
      refine ⟨z.getD i 0, h3.1, h3.2, ?_⟩
      by_cases hi0 : i = 0
      · subst hi0; simpa [Addr.add] using h2
      · simpa [Addr.add, hi0] using h2
theorem row_len {w : World} {a : Option Addr} {n c : Nat} {z : List Int} (h : IsRow .u8 w a n c z) : n ≤ maxLen := by
  rcases h with ⟨_, rfl, _, _⟩ | ⟨x, _, hl, hm, _⟩
  · exact Nat.zero_le _
  · omega
/-- What an inserting leaves. -/
theorem insR_fine (e : Ent) (es : List Ent) : (insR e es).length ≤ 40 ∧ ∀ x ∈ insR e es, entOk x := by
  unfold insR
  split
  · rename_i h
    unfold insB at h
    rw [Bool.and_eq_true, Bool.and_eq_true, decide_eq_true_eq] at h
    refine ⟨h.2.2, fun x hx => ?_⟩
    have hk : okE x = true := by
      rcases Pl.put_mem hx with rfl | hx
      · exact h.2.1
      · exact (okD_parts h.1).2.1 x hx
    obtain ⟨_, p, q⟩ := okE_size hk
    exact ⟨by omega, by omega⟩
  · exact ⟨Nat.zero_le _, fun x hx => by simp at hx⟩
/-- What the law asks of an inserting that was done. -/
theorem ins_facts {e : Ent} {es : List Ent} : (insB e es = false → insR e es = []) ∧ (insB e es = true → lupO e.1 (insR e es) = some e.2 ∧ (∀ x ∈ es, lupO x.1 (insR e es) = if x.1 = e.1 then some e.2 else some x.2) ∧ okD (insR e es) = true ∧ (insR e es).length ≤ es.length + 1) := by
  refine ⟨fun h => by unfold insR; rw [h]; rfl, fun h => ?_⟩
  have hR : insR e es = Pl.put e es := by unfold insR; rw [if_pos h]
  unfold insB at h
  rw [Bool.and_eq_true, Bool.and_eq_true, decide_eq_true_eq] at h
  obtain ⟨h1, h2, h3⟩ := okD_parts h.1
  have hd : okD (Pl.put e es) = true := okD_of h.2.2 (fun x hx => by
    rcases Pl.put_mem hx with rfl | hx
    · exact h.2.1
    · exact h2 x hx) (Pl.put_inc h3)
  rw [hR]
  refine ⟨by rw [lupO_yes hd, Pl.look_put_same], fun x hx => ?_, hd, Pl.put_len e es⟩
  rw [lupO_yes hd]
  by_cases hxe : x.1 = e.1
  · rw [if_pos hxe, hxe, Pl.look_put_same]
  · rw [if_neg hxe, Pl.look_put_other hxe, Pl.look_mem h3 hx]
/-- What the law asks of a deleting. -/
theorem delR_fine {ys : List Int} {es : List Ent} (hn : es.length ≤ 60) (hx : ∀ e ∈ es, entOk e) : (delR ys es).length ≤ 60 ∧ ∀ x ∈ delR ys es, entOk x := by
  unfold delR
  split
  · split
    · rename_i k hk
      have hs := Pl.del_sub k es
      exact ⟨Nat.le_trans hs.length_le hn, fun x hx' => hx x (hs.subset hx')⟩
    · exact ⟨Nat.zero_le _, fun x hx => by simp at hx⟩
  · exact ⟨Nat.zero_le _, fun x hx => by simp at hx⟩
theorem del_facts {ys : List Int} {es : List Ent} : delB ys es = (lupO ys es).isSome ∧ (delB ys es = true → insB (ys, (lupO ys es).getD ⟨#[]⟩) (delR ys es) = true ∧ insR (ys, (lupO ys es).getD ⟨#[]⟩) (delR ys es) = es) := by
  cases hd : okD es
  · refine ⟨by unfold delB; rw [hd, lupO_no hd]; rfl, fun h => ?_⟩
    unfold delB at h; rw [hd] at h; cases h
  · refine ⟨by unfold delB; rw [hd, lupO_yes hd]; rfl, fun h => ?_⟩
    obtain ⟨h1, h2, h3⟩ := okD_parts hd
    unfold delB at h
    rw [hd, Bool.true_and] at h
    obtain ⟨k, x, hk, hxk, hxo⟩ := look_some_idx h
    have hR : delR ys es = Pl.del k es := by unfold delR; rw [if_pos hd, hk]
    have ht : (lupO ys es).getD ⟨#[]⟩ = x.2 := by rw [lupO_yes hd, Pl.look_idx hk hxk]; rfl
    have he : ((ys, x.2) : Ent) = x := by rw [← hxo]
    rw [ht, hR, he]
    have hput := Pl.put_del h3 hxk
    have hs := Pl.del_sub k es
    have hdd : okD (Pl.del k es) = true := okD_of (Nat.le_trans hs.length_le h1) (fun y hy => h2 y (hs.subset hy)) (h3.sublist hs)
    have hi : insB x (Pl.del k es) = true := by
      unfold insB
      rw [hdd, h2 x (List.mem_of_getElem? hxk), hput, decide_eq_true h1]; rfl
    refine ⟨hi, ?_⟩
    unfold insR
    rw [if_pos hi, hput]
/-! ### THE WALK: the Go text returns true, and writes nothing that was there. -/
set_option maxRecDepth 100000 in
set_option maxHeartbeats 8000000 in
theorem walk (a0 : Option Addr) (n0 c0 : Nat) (z0 : List Int) (w : World) (hS : w.ShapedOpen Tryz.prog)  (w0 : IsRow .u8 w a0 n0 c0 z0) :
    Calls Tryz.prog 3 #[.slice a0 n0 c0] w fun e w' => e = .returned (.bool true) ∧ Below w.heap.size w w' := by
  have hnm := row_len w0
  by_cases hbig : 65536 < n0
  · have C := Lib.hid (big_yes a0 n0 c0 w hbig hnm)
    clear w0 hS hnm
    go_enter Tryz.func3, Tryz.ntmps3
    go_wp2_with fail
    refine C.out.mono ?_
    rintro e w1 ⟨rfl, rfl⟩
    go_wp2
    go_ret
    exact ⟨rfl, Below.refl _ _⟩
  · have C := Lib.hid (big_no a0 n0 c0 w (by omega))
    have HC0 := Lib.hid (code_of w0 (by omega))
    have cdi := fun w h => drawInsert_any a0 n0 c0 w h
    unfold DIns dV enV at cdi
    have CDI := Lib.hid cdi
    clear w0 hS hnm hbig cdi
    go_enter Tryz.func3, Tryz.ntmps3
    go_wp2_with fail
    refine C.out.mono ?_
    rintro e w0 ⟨rfl, rfl⟩
    go_wp2_with fail
    refine (CDI.out _ HC0.out).mono ?_
    rintro e w1 ⟨⟨v, us, u, ⟨ys, t⟩, rfl, hr, hl, hx, hu, hyl, htl⟩, hb1⟩
    have hat := hr.at.at
    have hlen : (us.map (·.2)).length ≤ 60 := by rw [List.length_map]; exact hl
    have hsm : ∀ e ∈ us.map (·.2), e.1.length ≤ 8 ∧ e.2.size ≤ 60 := by
      intro e he
      obtain ⟨p, hp, rfl⟩ := List.mem_map.1 he
      exact hx p hp
    obtain ⟨es, hes⟩ : ∃ es, es = us.map (·.2) := ⟨_, rfl⟩
    rw [← hes] at hat hlen hsm
    clear hr hl hx hes us
    obtain ⟨va, vc, rfl, hvc, hC⟩ := hat.cells
    simp only at hu hyl htl
    obtain ⟨ua, uc, rfl, _, _⟩ := hu.at.cells
    go_wp2_with fail
    obtain ⟨m, hm⟩ : ∃ m, m = es.length := ⟨_, rfl⟩
    obtain ⟨yl, hyn⟩ : ∃ yl, yl = ys.length := ⟨_, rfl⟩
    have hm60 : m ≤ 60 := by omega
    rw [← hm, ← hyn]
    obtain ⟨W, hW⟩ : ∃ W, W = (w1.alloc (.cells #[.slice va m vc] 26)).alloc (.cells #[.slice ua yl uc, .string t] 29) := ⟨_, rfl⟩
    have hbW : Below w1.heap.size w1 W := by rw [hW]; exact below_al2 _ _ _
    have HE : Hid (EntsAt W (.slice va m vc) es) := by rw [hm]; exact hat.below hbW
    have HU : Hid (IntsAt W (.slice ua yl uc) ys) := by rw [hyn]; exact hu.at.below hbW
    obtain ⟨D, hD⟩ : ∃ D, D = w1.heap.size := ⟨_, rfl⟩
    have Xd : Hid (BoxV W D 26 (.slice va m vc)) := by rw [hW, hD]; exact (BoxV.new w1 _ _).below (below_al _ _) (by simp)
    have Xe : Hid (BoxW W (D + 1) 29 (.slice ua yl uc) (.string t)) := by
      have := BoxW.new (w1.alloc (.cells #[.slice va m vc] 26)) 29 (.slice ua yl uc) (.string t)
      rw [World.size_alloc] at this
      rw [hW, hD]; exact this
    have HB : Hid (Below w.heap.size w W) := below_step hb1 hbW
    have hes2 : ∀ e ∈ es, entOk e := fun e he => by obtain ⟨p, q⟩ := hsm e he; exact ⟨by omega, by omega⟩
    have hye : entOk (ys, t) := ⟨by show ys.length ≤ _; omega, by show t.size ≤ _; omega⟩
    -- contracts at d and e
    obtain ⟨X, hX⟩ : ∃ X, X = insR (ys, t) es := ⟨_, rfl⟩
    obtain ⟨ok, hok⟩ : ∃ ok, ok = insB (ys, t) es := ⟨_, rfl⟩
    obtain ⟨eo, heo⟩ : ∃ eo, eo = okE (ys, t) := ⟨_, rfl⟩
    have ci := fun w h h' => Insert_any (.slice va m vc) es (.slice ua yl uc) (ys, t) w h h' (by omega) hes2 hye
    have cs := fun w h h' => specInsert_any (.slice va m vc) es (.slice ua yl uc) (ys, t) w h h' (by omega) hes2 hye
    have cvi := fun w h => Valid6_any (.slice ua yl uc) (ys, t) w h hye
    have cvs := fun w h => specIsValidEntry_any (.slice ua yl uc) (ys, t) w h hye
    unfold OutD dV enV at ci
    unfold OutEn dV enV at cs
    unfold enV at cvi cvs
    simp only at ci cs cvi cvs
    rw [← hX, ← hok] at ci cs
    rw [← heo] at cvi cvs
    have CI := Lib.hid ci
    have CS := Lib.hid cs
    have CVI := Lib.hid cvi
    have CVS := Lib.hid cvs
    have hXf := insR_fine (ys, t) es
    rw [← hX] at hXf
    have HXf := Lib.hid hXf
    have HIns := Lib.hid (ins_facts (e := (ys, t)) (es := es))
    rw [← hok, ← hX] at HIns
    have cvx := fun v u w hv hu => vD_same v u X w hv hu (by omega) (fun e he => (hXf.2 e he))
    unfold dV at cvx
    have CVX := Lib.hid cvx
    have HW := Lib.hid hW
    have HD := Lib.hid hD
    have HM := Lib.hid hm
    have HYL := Lib.hid hyn
    have cd := Xd.out.cell
    have ce0 := Xe.out.cell0
    have ce1 := Xe.out.cell1
    rw [HW.out, HD.out] at cd ce0 ce1
    rw [← HW.out, ← HD.out]
    clear hm hyn hat hW hbW hb1 hu hC hD ci cs cvi cvs cvx hX hok heo hXf CDI C hvc
    refine (CI.out W HE.out HU.out).mono ?_
    rintro r w2 ⟨⟨u2, us2, rfl, hro, hmap⟩, hb⟩
    have ho2 : EntsAt w2 u2 X := by have := hro.own'.at; rw [hmap] at this; exact this
    obtain ⟨xa, xc, rfl, _, _⟩ := ho2.cells
    obtain ⟨xl, hxl⟩ : ∃ xl, xl = X.length := ⟨_, rfl⟩
    have HXL := Lib.hid hxl
    rw [← hxl] at ho2 ⊢
    clear cd ce0 ce1 HW HD hro hmap hxl
    replace Xd := Lib.hid (Xd.out.below hb Xd.out.lt)
    replace Xe := Lib.hid (Xe.out.below hb Xe.out.lt)
    replace HE := Lib.hid (HE.out.below hb)
    replace HU := Lib.hid (HU.out.below hb)
    replace HB := Lib.hid (below_step HB.out hb)
    clear hb
    obtain ⟨W2, hW2⟩ : ∃ W, W = w2.alloc (.cells #[.slice xa xl xc] 26) := ⟨_, rfl⟩
    have hbW : Below w2.heap.size w2 W2 := by rw [hW2]; exact below_al _ _
    have HX := Lib.hid (ho2.below hbW)
    obtain ⟨K, hK⟩ : ∃ K, K = w2.heap.size := ⟨_, rfl⟩
    have Xx : Hid (BoxV W2 K 26 (.slice xa xl xc)) := by rw [hW2, hK]; exact BoxV.new _ _ _
    replace Xd := Lib.hid (Xd.out.below hbW Xd.out.lt)
    replace Xe := Lib.hid (Xe.out.below hbW Xe.out.lt)
    replace HE := Lib.hid (HE.out.below hbW)
    replace HU := Lib.hid (HU.out.below hbW)
    replace HB := Lib.hid (below_step HB.out hbW)
    have HW2 := Lib.hid hW2
    have HK := Lib.hid hK
    have cd := Xd.out.cell
    have ce0 := Xe.out.cell0
    have ce1 := Xe.out.cell1
    rw [HW2.out] at cd ce0 ce1
    clear ho2 hbW hW2 hK
    go_wp2_with fail
    rw [← HW2.out, ← HK.out]
    refine (CS.out W2 HE.out HU.out).mono ?_
    rintro r w3 ⟨⟨u3, us3, rfl, hro, hmap⟩, hb⟩
    have ho3 : EntsAt w3 u3 X := by have := hro.at.at; rw [hmap] at this; exact this
    obtain ⟨za, zc, rfl, _, _⟩ := ho3.cells
    rw [← HXL.out] at ho3 ⊢
    clear cd ce0 ce1 HW2 HK hro hmap CS CI
    replace Xd := Lib.hid (Xd.out.below hb Xd.out.lt)
    replace Xe := Lib.hid (Xe.out.below hb Xe.out.lt)
    replace Xx := Lib.hid (Xx.out.below hb Xx.out.lt)
    replace HE := Lib.hid (HE.out.below hb)
    replace HU := Lib.hid (HU.out.below hb)
    replace HX := Lib.hid (HX.out.below hb)
    replace HB := Lib.hid (below_step HB.out hb)
    clear hb
    obtain ⟨W3, hW3⟩ : ∃ W, W = w3.alloc (.cells #[.slice za xl zc] 26) := ⟨_, rfl⟩
    have hbW : Below w3.heap.size w3 W3 := by rw [hW3]; exact below_al _ _
    have HZ := Lib.hid (ho3.below hbW)
    have Xz : Hid (BoxV W3 w3.heap.size 26 (.slice za xl zc)) := by rw [hW3]; exact BoxV.new _ _ _
    replace Xd := Lib.hid (Xd.out.below hbW Xd.out.lt)
    replace Xe := Lib.hid (Xe.out.below hbW Xe.out.lt)
    replace Xx := Lib.hid (Xx.out.below hbW Xx.out.lt)
    replace HE := Lib.hid (HE.out.below hbW)
    replace HU := Lib.hid (HU.out.below hbW)
    replace HX := Lib.hid (HX.out.below hbW)
    replace HB := Lib.hid (below_step HB.out hbW)
    have HW3 := Lib.hid hW3
    have cx := Xx.out.cell
    have cz := Xz.out.cell
    have ce0 := Xe.out.cell0
    have ce1 := Xe.out.cell1
    rw [HW3.out] at cx cz ce0 ce1
    clear ho3 hbW hW3
    go_wp2_with fail
    rw [← HW3.out]
    have Q1 : Hid (∀ d os, Calls Tryz.prog 14 #[.agg #[.slice xa xl xc], .agg #[.slice za xl zc]] (Go.Sort.grow (redrawn W3 d) os) fun r w'' => r = .returned (.bool true) ∧ ∃ p : Regrown, w'' = Go.Sort.grow (redrawn W3 p.d) p.os) := fun d os => Calls.regrown_of (CVX.out _ _ _ (HX.out.below (below_regrown W3 d os)) (HZ.out.below (below_regrown W3 d os)))
    have Q2 : Hid (∀ d os, Calls Tryz.prog 15 #[.agg #[.slice ua yl uc, .string t]] (Go.Sort.grow (redrawn W3 d) os) fun r w'' => r = .returned (.bool eo) ∧ ∃ p : Regrown, w'' = Go.Sort.grow (redrawn W3 p.d) p.os) := fun d os => Calls.regrown_of (CVI.out _ (HU.out.below (below_regrown W3 d os)))
    have Q3 : Hid (∀ d os, Calls Tryz.prog 16 #[.agg #[.slice ua yl uc, .string t]] (Go.Sort.grow (redrawn W3 d) os) fun r w'' => r = .returned (.bool eo) ∧ ∃ p : Regrown, w'' = Go.Sort.grow (redrawn W3 p.d) p.os) := fun d os => Calls.regrown_of (CVS.out _ (HU.out.below (below_regrown W3 d os)))
    have kx := cell_regrown Xx.out.cell
    have kz := cell_regrown Xz.out.cell
    have ke0 := cell_regrown Xe.out.cell0
    have ke1 := cell_regrown Xe.out.cell1
    refine wp_region_quiet_below (by kernel_rfl) (by kernel_rfl) ?_
    repeat (go_big_quiet_step (first | exact Q1.out _ _ | exact Q2.out _ _ | exact Q3.out _ _))
    refine wpQuiet_nil ?_
    rintro _ ⟨⟨dq, osq⟩, rfl⟩
    obtain ⟨W4, hW4⟩ : ∃ W, W = Go.Sort.grow (redrawn W3 dq) osq := ⟨_, rfl⟩
    rw [← hW4]
    have hb4 : Below W3.heap.size W3 W4 := by rw [hW4]; exact below_regrown W3 dq osq
    clear hW4 kx kz ke0 ke1 Q1 Q2 Q3 CVX CVI CVS cx cz ce0 ce1 HW3
    replace Xd := Lib.hid (Xd.out.below hb4 Xd.out.lt)
    replace Xe := Lib.hid (Xe.out.below hb4 Xe.out.lt)
    replace Xx := Lib.hid (Xx.out.below hb4 Xx.out.lt)
    replace Xz := Lib.hid (Xz.out.below hb4 Xz.out.lt)
    replace HE := Lib.hid (HE.out.below hb4)
    replace HU := Lib.hid (HU.out.below hb4)
    replace HX := Lib.hid (HX.out.below hb4)
    replace HZ := Lib.hid (HZ.out.below hb4)
    replace HB := Lib.hid (below_step HB.out hb4)
    clear hb4 Xz HZ
    have cdl := fun w h => drawLookup_any a0 n0 c0 w h
    unfold DPair dV at cdl
    have CDL := Lib.hid cdl
    clear cdl
    have HCode : Hid (CodeAt W4 a0 n0) := by have := HC0.out.below HB.out; exact this
    go_wp2_with fail
    refine (CDL.out _ HCode.out).mono ?_
    rintro r w5 ⟨⟨v5, us5, u5, os, rfl, hr5, hl5, hx5, hu5, hol⟩, hb⟩
    have hat := hr5.at.at
    have hlen5 : (us5.map (·.2)).length ≤ 60 := by rw [List.length_map]; exact hl5
    have hsm5 : ∀ e ∈ us5.map (·.2), e.1.length ≤ 8 ∧ e.2.size ≤ 60 := by
      intro e he
      obtain ⟨p, hp, rfl⟩ := List.mem_map.1 he
      exact hx5 p hp
    obtain ⟨bs, hbs⟩ : ∃ bs, bs = us5.map (·.2) := ⟨_, rfl⟩
    rw [← hbs] at hat hlen5 hsm5
    clear hr5 hl5 hx5 hbs us5 HCode HC0 CDL
    obtain ⟨ba, bc, rfl, _, _⟩ := hat.cells
    obtain ⟨oa, oc, rfl, _, _⟩ := hu5.at.cells
    have hbs2 : ∀ e ∈ bs, entOk e := fun e he => by obtain ⟨p, q⟩ := hsm5 e he; exact ⟨by omega, by omega⟩
    have hol2 : os.length ≤ 2097152 := by omega
    obtain ⟨st, hst⟩ : ∃ x, x = (lupO os bs).getD ⟨#[]⟩ := ⟨_, rfl⟩
    obtain ⟨fd, hfd⟩ : ∃ x, x = (lupO os bs).isSome := ⟨_, rfl⟩
    obtain ⟨Y, hY⟩ : ∃ x, x = delR os bs := ⟨_, rfl⟩
    obtain ⟨bo, hbo⟩ : ∃ x, x = okD bs := ⟨_, rfl⟩
    have hdf := del_facts (ys := os) (es := bs)
    rw [← hst, ← hfd, ← hY] at hdf
    have hdB : delB os bs = fd := hdf.1
    have hYf := delR_fine (ys := os) hlen5 hbs2
    rw [← hY] at hYf
    have hste : st.size ≤ 1048576 := by
      rw [hst]
      cases hq : lupO os bs with
      | none => exact Nat.zero_le _
      | some x =>
        cases hd : okD bs
        · rw [lupO_no hd] at hq; cases hq
        · rw [lupO_yes hd] at hq
          obtain ⟨k, y, hk, hyk, hyo⟩ := look_some_idx (o := os) (es := bs) (by rw [hq]; rfl)
          rw [Pl.look_idx hk hyk] at hq
          injection hq with hq
          have := (hsm5 y (List.mem_of_getElem? hyk)).2
          rw [hq] at this
          show x.size ≤ _
          omega
    have clk := fun w h h' => LookupD_any (.slice ba bs.length bc) bs (.slice oa os.length oc) os w h h' (by omega) hbs2 hol2
    have cls := fun w h h' => specLookup_any (.slice ba bs.length bc) bs (.slice oa os.length oc) os w h h' (by omega) hbs2 hol2
    have cvd := fun w h => ValidD_any (.slice ba bs.length bc) bs w h (by omega) hbs2
    have cvs := fun w h => specIsValidDictionary_any (.slice ba bs.length bc) bs w h (by omega) hbs2
    have cdi := fun w h h' => Delete_any (.slice ba bs.length bc) bs (.slice oa os.length oc) os w h h' (by omega) hbs2 hol2
    have cds := fun w h h' => specDelete_any (.slice ba bs.length bc) bs (.slice oa os.length oc) os w h h' (by omega) hbs2 hol2
    have cvy := fun v u w hv hu => vD_same v u Y w hv hu (by omega) hYf.2
    have cvb := fun v u w hv hu => vD_same v u bs w hv hu (by omega) hbs2
    have cin := fun v w h h' => Insert_any v Y (.slice oa os.length oc) (os, st) w h h' (by omega) hYf.2 ⟨hol2, hste⟩
    unfold lkE dV at clk cls
    unfold OutD dV at cdi
    unfold OutEn dV at cds
    unfold OutD dV enV at cin
    unfold dV at cvd cvs cvy cvb
    simp only at cin
    rw [← hst, ← hfd] at clk cls
    rw [← hbo] at cvd cvs
    rw [← hY, hdB] at cdi cds
    obtain ⟨bn, hbn⟩ : ∃ x, x = bs.length := ⟨_, rfl⟩
    obtain ⟨on, hon⟩ : ∃ x, x = os.length := ⟨_, rfl⟩
    rw [← hbn, ← hon] at clk cls cdi cds
    rw [← hbn] at cvd cvs
    rw [← hon] at cin
    rw [← hbn, ← hon]
    have CLK := Lib.hid clk
    have CLS := Lib.hid cls
    have CVD := Lib.hid cvd
    have CVS := Lib.hid cvs
    have CDI := Lib.hid cdi
    have CDS := Lib.hid cds
    have CVY := Lib.hid cvy
    have CVB := Lib.hid cvb
    have CIN := Lib.hid cin
    have HDel : Hid (fd = true → insB (os, st) Y = true ∧ insR (os, st) Y = bs) := fun h => hdf.2 (hdB.trans h)
    obtain ⟨W5, hW5⟩ : ∃ W, W = w5.alloc (.cells #[.slice ba bn bc] 26) := ⟨_, rfl⟩
    have hbW : Below w5.heap.size w5 W5 := by rw [hW5]; exact below_al _ _
    have HBb : Hid (EntsAt W5 (.slice ba bn bc) bs) := by rw [hbn]; exact hat.below hbW
    have HO : Hid (IntsAt W5 (.slice oa on oc) os) := by rw [hon]; exact hu5.at.below hbW
    obtain ⟨B, hBB⟩ : ∃ B, B = w5.heap.size := ⟨_, rfl⟩
    have Xb : Hid (BoxV W5 B 26 (.slice ba bn bc)) := by rw [hW5, hBB]; exact BoxV.new _ _ _
    have hb5 : Below W4.heap.size W4 W5 := below_step hb hbW
    replace Xd := Lib.hid (Xd.out.below hb5 Xd.out.lt)
    replace Xe := Lib.hid (Xe.out.below hb5 Xe.out.lt)
    replace Xx := Lib.hid (Xx.out.below hb5 Xx.out.lt)
    replace HE := Lib.hid (HE.out.below hb5)
    replace HU := Lib.hid (HU.out.below hb5)
    replace HX := Lib.hid (HX.out.below hb5)
    replace HB := Lib.hid (below_step HB.out hb5)
    have HW5 := Lib.hid hW5
    have HBB := Lib.hid hBB
    have HBN := Lib.hid hbn
    have HST := Lib.hid hste
    have cb := Xb.out.cell
    rw [HW5.out, HBB.out] at cb
    clear hat hu5 hb hbW hb5 hW5 hBB hbn hon hst hfd hY hbo hdf hdB hYf hste hol hol2 clk cls cvd cvs cdi cds cvy cvb cin hbs2 hsm5 hlen5
    go_wp2_with fail
    rw [← HW5.out, ← HBB.out]
    refine (CLK.out W5 HBb.out HO.out).mono ?_
    rintro r w6 ⟨rfl, hb⟩
    replace Xd := Lib.hid (Xd.out.below hb Xd.out.lt)
    replace Xe := Lib.hid (Xe.out.below hb Xe.out.lt)
    replace Xx := Lib.hid (Xx.out.below hb Xx.out.lt)
    replace Xb := Lib.hid (Xb.out.below hb Xb.out.lt)
    replace HE := Lib.hid (HE.out.below hb)
    replace HU := Lib.hid (HU.out.below hb)
    replace HX := Lib.hid (HX.out.below hb)
    replace HBb := Lib.hid (HBb.out.below hb)
    replace HO := Lib.hid (HO.out.below hb)
    replace HB := Lib.hid (below_step HB.out hb)
    clear hb cb HW5 HBB CLK
    have cb := Xb.out.cell
    go_wp2_with fail
    refine (CLS.out w6 HBb.out HO.out).mono ?_
    rintro r w7 ⟨rfl, hb⟩
    replace Xd := Lib.hid (Xd.out.below hb Xd.out.lt)
    replace Xe := Lib.hid (Xe.out.below hb Xe.out.lt)
    replace Xx := Lib.hid (Xx.out.below hb Xx.out.lt)
    replace Xb := Lib.hid (Xb.out.below hb Xb.out.lt)
    replace HE := Lib.hid (HE.out.below hb)
    replace HU := Lib.hid (HU.out.below hb)
    replace HX := Lib.hid (HX.out.below hb)
    replace HBb := Lib.hid (HBb.out.below hb)
    replace HO := Lib.hid (HO.out.below hb)
    replace HB := Lib.hid (below_step HB.out hb)
    clear hb cb CLS
    have hne : (st.toList == st.toList) = true := by simp
    go_wp2_with fail
    have Q1 : Hid (∀ d os, Calls Tryz.prog 20 #[.agg #[.slice ba bn bc]] (Go.Sort.grow (redrawn w7 d) os) fun r w'' => r = .returned (.bool bo) ∧ ∃ p : Regrown, w'' = Go.Sort.grow (redrawn w7 p.d) p.os) := fun d os => Calls.regrown_of (CVD.out _ (HBb.out.below (below_regrown w7 d os)))
    have Q2 : Hid (∀ d os, Calls Tryz.prog 21 #[.agg #[.slice ba bn bc]] (Go.Sort.grow (redrawn w7 d) os) fun r w'' => r = .returned (.bool bo) ∧ ∃ p : Regrown, w'' = Go.Sort.grow (redrawn w7 p.d) p.os) := fun d os => Calls.regrown_of (CVS.out _ (HBb.out.below (below_regrown w7 d os)))
    have kb := cell_regrown Xb.out.cell
    refine wp_region_quiet_below (by kernel_rfl) (by kernel_rfl) ?_
    repeat (go_big_quiet_step (first | exact Q1.out _ _ | exact Q2.out _ _))
    refine wpQuiet_nil ?_
    rintro _ ⟨⟨dq, osq⟩, rfl⟩
    obtain ⟨W8, hW8⟩ : ∃ W, W = Go.Sort.grow (redrawn w7 dq) osq := ⟨_, rfl⟩
    rw [← hW8]
    have hb8 : Below w7.heap.size w7 W8 := by rw [hW8]; exact below_regrown w7 dq osq
    clear hW8 kb Q1 Q2 CVD CVS hne
    replace Xd := Lib.hid (Xd.out.below hb8 Xd.out.lt)
    replace Xe := Lib.hid (Xe.out.below hb8 Xe.out.lt)
    replace Xx := Lib.hid (Xx.out.below hb8 Xx.out.lt)
    replace Xb := Lib.hid (Xb.out.below hb8 Xb.out.lt)
    replace HE := Lib.hid (HE.out.below hb8)
    replace HU := Lib.hid (HU.out.below hb8)
    replace HX := Lib.hid (HX.out.below hb8)
    replace HBb := Lib.hid (HBb.out.below hb8)
    replace HO := Lib.hid (HO.out.below hb8)
    replace HB := Lib.hid (below_step HB.out hb8)
    clear hb8
    have cb := Xb.out.cell
    go_wp2_with fail
    refine (CDI.out W8 HBb.out HO.out).mono ?_
    rintro r w9 ⟨⟨u9, us9, rfl, hro, hmap⟩, hb⟩
    have ho9 : EntsAt w9 u9 Y := by have := hro.own'.at; rw [hmap] at this; exact this
    obtain ⟨ya, yc, rfl, _, _⟩ := ho9.cells
    obtain ⟨yn, hyn⟩ : ∃ x, x = Y.length := ⟨_, rfl⟩
    have HYN := Lib.hid hyn
    rw [← hyn] at ho9 ⊢
    replace Xd := Lib.hid (Xd.out.below hb Xd.out.lt)
    replace Xe := Lib.hid (Xe.out.below hb Xe.out.lt)
    replace Xx := Lib.hid (Xx.out.below hb Xx.out.lt)
    replace Xb := Lib.hid (Xb.out.below hb Xb.out.lt)
    replace HE := Lib.hid (HE.out.below hb)
    replace HU := Lib.hid (HU.out.below hb)
    replace HX := Lib.hid (HX.out.below hb)
    replace HBb := Lib.hid (HBb.out.below hb)
    replace HO := Lib.hid (HO.out.below hb)
    replace HB := Lib.hid (below_step HB.out hb)
    clear hb cb hro hmap hyn CDI
    obtain ⟨W9, hW9⟩ : ∃ W, W = w9.alloc (.cells #[.slice ya yn yc] 26) := ⟨_, rfl⟩
    have hbW : Below w9.heap.size w9 W9 := by rw [hW9]; exact below_al _ _
    have HY := Lib.hid (ho9.below hbW)
    obtain ⟨G, hG⟩ : ∃ G, G = w9.heap.size := ⟨_, rfl⟩
    have Xy : Hid (BoxV W9 G 26 (.slice ya yn yc)) := by rw [hW9, hG]; exact BoxV.new _ _ _
    replace Xd := Lib.hid (Xd.out.below hbW Xd.out.lt)
    replace Xe := Lib.hid (Xe.out.below hbW Xe.out.lt)
    replace Xx := Lib.hid (Xx.out.below hbW Xx.out.lt)
    replace Xb := Lib.hid (Xb.out.below hbW Xb.out.lt)
    replace HE := Lib.hid (HE.out.below hbW)
    replace HU := Lib.hid (HU.out.below hbW)
    replace HX := Lib.hid (HX.out.below hbW)
    replace HBb := Lib.hid (HBb.out.below hbW)
    replace HO := Lib.hid (HO.out.below hbW)
    replace HB := Lib.hid (below_step HB.out hbW)
    have HW9 := Lib.hid hW9
    have HG := Lib.hid hG
    have cb := Xb.out.cell
    rw [HW9.out] at cb
    clear ho9 hbW hW9 hG
    go_wp2_with fail
    rw [← HW9.out, ← HG.out]
    refine (CDS.out W9 HBb.out HO.out).mono ?_
    rintro r w10 ⟨⟨u10, us10, rfl, hro, hmap⟩, hb⟩
    have ho10 : EntsAt w10 u10 Y := by have := hro.at.at; rw [hmap] at this; exact this
    obtain ⟨qa, qc, rfl, _, _⟩ := ho10.cells
    rw [← HYN.out] at ho10 ⊢
    clear cb HW9 HG hro hmap CDS
    replace Xd := Lib.hid (Xd.out.below hb Xd.out.lt)
    replace Xe := Lib.hid (Xe.out.below hb Xe.out.lt)
    replace Xx := Lib.hid (Xx.out.below hb Xx.out.lt)
    replace Xb := Lib.hid (Xb.out.below hb Xb.out.lt)
    replace Xy := Lib.hid (Xy.out.below hb Xy.out.lt)
    replace HE := Lib.hid (HE.out.below hb)
    replace HU := Lib.hid (HU.out.below hb)
    replace HX := Lib.hid (HX.out.below hb)
    replace HBb := Lib.hid (HBb.out.below hb)
    replace HO := Lib.hid (HO.out.below hb)
    replace HY := Lib.hid (HY.out.below hb)
    replace HB := Lib.hid (below_step HB.out hb)
    clear hb
    obtain ⟨W10, hW10⟩ : ∃ W, W = w10.alloc (.cells #[.slice qa yn qc] 26) := ⟨_, rfl⟩
    have hbW : Below w10.heap.size w10 W10 := by rw [hW10]; exact below_al _ _
    have HQ := Lib.hid (ho10.below hbW)
    have Xq : Hid (BoxV W10 w10.heap.size 26 (.slice qa yn qc)) := by rw [hW10]; exact BoxV.new _ _ _
    replace Xd := Lib.hid (Xd.out.below hbW Xd.out.lt)
    replace Xe := Lib.hid (Xe.out.below hbW Xe.out.lt)
    replace Xx := Lib.hid (Xx.out.below hbW Xx.out.lt)
    replace Xb := Lib.hid (Xb.out.below hbW Xb.out.lt)
    replace Xy := Lib.hid (Xy.out.below hbW Xy.out.lt)
    replace HE := Lib.hid (HE.out.below hbW)
    replace HU := Lib.hid (HU.out.below hbW)
    replace HX := Lib.hid (HX.out.below hbW)
    replace HBb := Lib.hid (HBb.out.below hbW)
    replace HO := Lib.hid (HO.out.below hbW)
    replace HY := Lib.hid (HY.out.below hbW)
    replace HB := Lib.hid (below_step HB.out hbW)
    have HW10 := Lib.hid hW10
    clear ho10 hbW hW10
    have cy := Xy.out.cell
    have cq := Xq.out.cell
    rw [HW10.out] at cy cq
    go_wp2_with fail
    rw [← HW10.out]
    refine (CVY.out _ _ W10 HY.out HQ.out).mono ?_
    rintro r w11 ⟨rfl, hb⟩
    clear Xq HQ
    replace Xd := Lib.hid (Xd.out.below hb Xd.out.lt)
    replace Xe := Lib.hid (Xe.out.below hb Xe.out.lt)
    replace Xx := Lib.hid (Xx.out.below hb Xx.out.lt)
    replace Xb := Lib.hid (Xb.out.below hb Xb.out.lt)
    replace Xy := Lib.hid (Xy.out.below hb Xy.out.lt)
    replace HE := Lib.hid (HE.out.below hb)
    replace HU := Lib.hid (HU.out.below hb)
    replace HX := Lib.hid (HX.out.below hb)
    replace HBb := Lib.hid (HBb.out.below hb)
    replace HO := Lib.hid (HO.out.below hb)
    replace HY := Lib.hid (HY.out.below hb)
    replace HB := Lib.hid (below_step HB.out hb)
    clear hb cy cq HW10 CVY HYN
    cases fd
    · clear CIN HDel
      cases ok
      · have hx0 : xl = 0 := by rw [HXL.out, HIns.out.1 rfl]; rfl
        subst hx0
        have cx := Xx.out.cell
        clear HIns HXf
        go_wp2
        go_ret
        exact ⟨rfl, HB.out⟩
      · obtain ⟨q1, q2, q3, q4⟩ := HIns.out.2 rfl
        have cl := fun u zs w h h' hz => LookupD_any (.slice xa X.length xc) X u zs w h h' (by have := HXf.out.1; omega) HXf.out.2 hz
        have cv := fun w h => ValidD_any (.slice xa X.length xc) X w h (by have := HXf.out.1; omega) HXf.out.2
        unfold lkE dV at cl
        unfold dV at cv
        rw [← HXL.out] at cl cv
        rw [q3] at cv
        have hle : (xl : Int) ≤ (m : Int) + 1 := by have h1 := HXL.out; have h2 := HM.out; omega
        try simp only at q1
        try simp only at q2
        have c1 := fun w h h' => cl (.slice ua yl uc) ys w h h' (by omega)
        rw [q1] at c1
        simp only [Option.getD_some, Option.isSome_some] at c1
        have HQ2 := Lib.hid q2
        have C1 := Lib.hid c1
        have CL := Lib.hid cl
        have CV := Lib.hid cv
        have cx := Xx.out.cell
        have ce0 := Xe.out.cell0
        clear q1 q2 q3 q4 cl cv c1 HIns
        go_wp2_with fail
        refine (C1.out _ HX.out HU.out).mono ?_
        rintro r wa ⟨rfl, hb⟩
        replace Xd := Lib.hid (Xd.out.below hb Xd.out.lt)
        replace Xe := Lib.hid (Xe.out.below hb Xe.out.lt)
        replace Xx := Lib.hid (Xx.out.below hb Xx.out.lt)
        replace Xb := Lib.hid (Xb.out.below hb Xb.out.lt)
        replace Xy := Lib.hid (Xy.out.below hb Xy.out.lt)
        replace HE := Lib.hid (HE.out.below hb)
        replace HU := Lib.hid (HU.out.below hb)
        replace HX := Lib.hid (HX.out.below hb)
        replace HBb := Lib.hid (HBb.out.below hb)
        replace HO := Lib.hid (HO.out.below hb)
        replace HY := Lib.hid (HY.out.below hb)
        replace HB := Lib.hid (below_step HB.out hb)
        clear hb cx ce0 C1
        obtain ⟨ea, ec, hef, _, hEC⟩ := HE.out.cells
        rw [← HM.out] at hef
        injection hef with e1 e2 e3
        subst e1 e3
        have HEC := Lib.hid hEC
        clear hEC e2
        have cd0 := Xd.out.cell
        go_wp2_with fail
        clear cd0
        go_loopw [23] (fun i wr => ∃ k : Nat, i = .int .i64 k ∧ k ≤ m ∧ Hid (Below wa.heap.size wa wr)) (fun i _ => m - (intOf i).toNat)
        case atStart => exact ⟨0, rfl, Nat.zero_le _, Lib.hid (Below.refl _ _)⟩
        case round =>
          obtain ⟨k, rfl, hk, HBr⟩ := hrel
          have cd := (Xd.out.below HBr.out Xd.out.lt).cell
          have cx := (Xx.out.below HBr.out Xx.out.lt).cell
          have ce0 := (Xe.out.below HBr.out Xe.out.lt).cell0
          have ce1 := (Xe.out.below HBr.out Xe.out.lt).cell1
          have HXr := Lib.hid (HX.out.below HBr.out)
          have HUr := Lib.hid (HU.out.below HBr.out)
          by_cases hlt : k < m
          · obtain ⟨x, hx⟩ : ∃ x, es[k]? = some x := ⟨_, List.getElem?_eq_getElem (by rw [← HM.out]; exact hlt)⟩
            obtain ⟨bk, of, fv, rfl, hbk, g0, g1, gv⟩ := HEC.out wr HBr.out k x hx
            have hq2 := HQ2.out x (List.mem_of_getElem? hx)
            have hxo := (hes2 x (List.mem_of_getElem? hx)).1
            obtain ⟨fs, ft⟩ := x
            simp only at g0 g1 gv hq2 hxo
            have cl := fun w h h' => CL.out fv fs w h h' hxo
            have cvi := fun w h h' => vI_any fv (.slice ua yl uc) fs ys w h h' hxo (by omega)
            rw [hq2] at cl
            have HFV := Lib.hid gv
            obtain ⟨fa, fc, rfl, _, _⟩ := gv.cells
            obtain ⟨fl, hfl⟩ : ∃ fl, fl = fs.length := ⟨_, rfl⟩
            rw [← hfl] at cl cvi g0 HFV
            clear hx hq2 hxo gv hfl HEC HQ2 CL
            by_cases hxe : fs = ys
            · rw [if_pos hxe] at cl
              rw [decide_eq_true hxe] at cvi
              simp only [Option.getD_some, Option.isSome_some] at cl
              have CLx := Lib.hid cl
              have CVx := Lib.hid cvi
              clear cl cvi hxe
              go_wp2_with fail
              have Q1 : Hid (∀ d os, Calls Tryz.prog 18 #[.agg #[.slice xa xl xc], .slice fa fl fc] (Go.Sort.grow (redrawn wr d) os) fun r w'' => r = .returned (.tuple #[.string t, .bool true]) ∧ ∃ p : Regrown, w'' = Go.Sort.grow (redrawn wr p.d) p.os) := fun d os => Calls.regrown_of (CLx.out _ (HXr.out.below (below_regrown wr d os)) (HFV.out.below (below_regrown wr d os)))
              have kd := cell_regrown cd
              have kx := cell_regrown cx
              have k0 := cell_regrown g0
              refine wp_region_quiet_below (by kernel_rfl) (by kernel_rfl) ?_
              repeat (go_big_quiet_step (exact Q1.out _ _))
              refine wpQuiet_nil ?_
              rintro _ ⟨⟨dq, osq⟩, rfl⟩
              obtain ⟨W6, hW6⟩ : ∃ W, W = Go.Sort.grow (redrawn wr dq) osq := ⟨_, rfl⟩
              have hb6 : Below wr.heap.size wr W6 := by rw [hW6]; exact below_regrown wr dq osq
              rw [← hW6]
              have hwar := HBr.out.size
              have HF6 := Lib.hid (HFV.out.below hb6)
              have HU6 := Lib.hid (HUr.out.below hb6)
              have HB6 := Lib.hid hb6
              have d6 := ((Xd.out.below HBr.out Xd.out.lt).below hb6 (Xd.out.below HBr.out Xd.out.lt).lt).cell
              have e60 := ((Xe.out.below HBr.out Xe.out.lt).below hb6 (Xe.out.below HBr.out Xe.out.lt).lt).cell0
              have g60 := (hb6.cell (p := ⟨bk, of + k * 2, none⟩) (by show bk < wr.heap.size; omega)).trans g0
              have g61 := (hb6.cell (p := ⟨bk, of + k * 2 + 1, none⟩) (by show bk < wr.heap.size; omega)).trans g1
              clear kd kx k0 cd cx ce0 ce1 g0 g1 Q1 CLx HXr hW6 hb6
              go_wp2_with fail
              have Q2 : Hid (∀ d os, Calls Tryz.prog 24 #[.slice fa fl fc, .slice ua yl uc] (Go.Sort.grow (redrawn W6 d) os) fun r w'' => r = .returned (.bool true) ∧ ∃ p : Regrown, w'' = Go.Sort.grow (redrawn W6 p.d) p.os) := fun d os => Calls.regrown_of (CVx.out _ (HF6.out.below (below_regrown W6 d os)) (HU6.out.below (below_regrown W6 d os)))
              have kd := cell_regrown d6
              have ke := cell_regrown e60
              have k0 := cell_regrown g60
              have k1 := cell_regrown g61
              refine wp_region_quiet_below (by kernel_rfl) (by kernel_rfl) ?_
              repeat (go_big_quiet_step (exact Q2.out _ _))
              refine wpQuiet_nil ?_
              rintro _ ⟨⟨dq, osq⟩, rfl⟩
              have HB7 : Hid (Below wa.heap.size wa (Go.Sort.grow (redrawn W6 dq) osq)) := below_step HBr.out (below_step HB6.out (below_regrown W6 dq osq))
              clear kd ke k0 k1 d6 e60 g60 g61 Q2 CVx HF6 HU6
              go_wp2
              go_roundw
              case rel => exact ⟨k + 1, by go_num, by omega, HB7⟩
              case measure => simp [intOf]; omega
            · rw [if_neg hxe] at cl
              rw [decide_eq_false hxe] at cvi
              have hne : (ft.toList == ft.toList) = true := by simp
              simp only [Option.getD_some, Option.isSome_some] at cl
              have CLx := Lib.hid cl
              have CVx := Lib.hid cvi
              clear cl cvi hxe
              go_wp2_with fail
              have Q1 : Hid (∀ d os, Calls Tryz.prog 18 #[.agg #[.slice xa xl xc], .slice fa fl fc] (Go.Sort.grow (redrawn wr d) os) fun r w'' => r = .returned (.tuple #[.string ft, .bool true]) ∧ ∃ p : Regrown, w'' = Go.Sort.grow (redrawn wr p.d) p.os) := fun d os => Calls.regrown_of (CLx.out _ (HXr.out.below (below_regrown wr d os)) (HFV.out.below (below_regrown wr d os)))
              have kd := cell_regrown cd
              have kx := cell_regrown cx
              have k0 := cell_regrown g0
              refine wp_region_quiet_below (by kernel_rfl) (by kernel_rfl) ?_
              repeat (go_big_quiet_step (exact Q1.out _ _))
              refine wpQuiet_nil ?_
              rintro _ ⟨⟨dq, osq⟩, rfl⟩
              obtain ⟨W6, hW6⟩ : ∃ W, W = Go.Sort.grow (redrawn wr dq) osq := ⟨_, rfl⟩
              have hb6 : Below wr.heap.size wr W6 := by rw [hW6]; exact below_regrown wr dq osq
              rw [← hW6]
              have hwar := HBr.out.size
              have HF6 := Lib.hid (HFV.out.below hb6)
              have HU6 := Lib.hid (HUr.out.below hb6)
              have HB6 := Lib.hid hb6
              have d6 := ((Xd.out.below HBr.out Xd.out.lt).below hb6 (Xd.out.below HBr.out Xd.out.lt).lt).cell
              have e60 := ((Xe.out.below HBr.out Xe.out.lt).below hb6 (Xe.out.below HBr.out Xe.out.lt).lt).cell0
              have g60 := (hb6.cell (p := ⟨bk, of + k * 2, none⟩) (by show bk < wr.heap.size; omega)).trans g0
              have g61 := (hb6.cell (p := ⟨bk, of + k * 2 + 1, none⟩) (by show bk < wr.heap.size; omega)).trans g1
              clear kd kx k0 cd cx ce0 ce1 g0 g1 Q1 CLx HXr hW6 hb6
              go_wp2_with fail
              have Q2 : Hid (∀ d os, Calls Tryz.prog 24 #[.slice fa fl fc, .slice ua yl uc] (Go.Sort.grow (redrawn W6 d) os) fun r w'' => r = .returned (.bool false) ∧ ∃ p : Regrown, w'' = Go.Sort.grow (redrawn W6 p.d) p.os) := fun d os => Calls.regrown_of (CVx.out _ (HF6.out.below (below_regrown W6 d os)) (HU6.out.below (below_regrown W6 d os)))
              have kd := cell_regrown d6
              have ke := cell_regrown e60
              have k0 := cell_regrown g60
              have k1 := cell_regrown g61
              refine wp_region_quiet_below (by kernel_rfl) (by kernel_rfl) ?_
              repeat (go_big_quiet_step (exact Q2.out _ _))
              refine wpQuiet_nil ?_
              rintro _ ⟨⟨dq, osq⟩, rfl⟩
              have HB7 : Hid (Below wa.heap.size wa (Go.Sort.grow (redrawn W6 dq) osq)) := below_step HBr.out (below_step HB6.out (below_regrown W6 dq osq))
              clear kd ke k0 k1 d6 e60 g60 g61 Q2 CVx HF6 HU6
              go_wp2
              go_roundw
              case rel => exact ⟨k + 1, by go_num, by omega, HB7⟩
              case measure => simp [intOf]; omega
          · obtain rfl : k = m := by omega
            have hne : (t.toList == t.toList) = true := by simp
            go_wp2_with fail
            refine (CV.out _ HXr.out).mono ?_
            rintro r wz ⟨rfl, hb⟩
            have dz := ((Xd.out.below HBr.out Xd.out.lt).below hb (Xd.out.below HBr.out Xd.out.lt).lt).cell
            have xz := ((Xx.out.below HBr.out Xx.out.lt).below hb (Xx.out.below HBr.out Xx.out.lt).lt).cell
            have HB7 := Lib.hid (below_step HB.out (below_step HBr.out hb))
            clear hb cd cx ce0 ce1
            go_wp2
            go_ret
            first
              | exact ⟨rfl, HB7.out⟩
              | exact ⟨ret_bool (decide_eq_true (by unfold wrap64; omega)), HB7.out⟩
              | exact ⟨ret_bool (decide_eq_true (by omega)), HB7.out⟩
    · obtain ⟨hi, hr⟩ := HDel.out rfl
      have cin := CIN.out
      rw [hi, hr] at cin
      have CIN1 := Lib.hid cin
      clear CIN HDel hi hr cin
      have cy := Xy.out.cell
      go_wp2_with fail
      refine (CIN1.out _ w11 HY.out HO.out).mono ?_
      rintro r w12 ⟨⟨u12, us12, rfl, hro, hmap⟩, hb⟩
      have ho12 : EntsAt w12 u12 bs := by have := hro.own'.at; rw [hmap] at this; exact this
      obtain ⟨ra, rc, rfl, _, _⟩ := ho12.cells
      rw [← HBN.out] at ho12 ⊢
      replace Xd := Lib.hid (Xd.out.below hb Xd.out.lt)
      replace Xe := Lib.hid (Xe.out.below hb Xe.out.lt)
      replace Xx := Lib.hid (Xx.out.below hb Xx.out.lt)
      replace Xb := Lib.hid (Xb.out.below hb Xb.out.lt)
      replace Xy := Lib.hid (Xy.out.below hb Xy.out.lt)
      replace HE := Lib.hid (HE.out.below hb)
      replace HU := Lib.hid (HU.out.below hb)
      replace HX := Lib.hid (HX.out.below hb)
      replace HBb := Lib.hid (HBb.out.below hb)
      replace HO := Lib.hid (HO.out.below hb)
      replace HY := Lib.hid (HY.out.below hb)
      replace HB := Lib.hid (below_step HB.out hb)
      clear hb cy hro hmap CIN1
      obtain ⟨W12, hW12⟩ : ∃ W, W = w12.alloc (.cells #[.slice ra bn rc] 26) := ⟨_, rfl⟩
      have hbW : Below w12.heap.size w12 W12 := by rw [hW12]; exact below_al _ _
      have HR := Lib.hid (ho12.below hbW)
      replace Xd := Lib.hid (Xd.out.below hbW Xd.out.lt)
      replace Xe := Lib.hid (Xe.out.below hbW Xe.out.lt)
      replace Xx := Lib.hid (Xx.out.below hbW Xx.out.lt)
      replace Xb := Lib.hid (Xb.out.below hbW Xb.out.lt)
      replace Xy := Lib.hid (Xy.out.below hbW Xy.out.lt)
      replace HE := Lib.hid (HE.out.below hbW)
      replace HU := Lib.hid (HU.out.below hbW)
      replace HX := Lib.hid (HX.out.below hbW)
      replace HBb := Lib.hid (HBb.out.below hbW)
      replace HO := Lib.hid (HO.out.below hbW)
      replace HY := Lib.hid (HY.out.below hbW)
      replace HB := Lib.hid (below_step HB.out hbW)
      have HW12 := Lib.hid hW12
      have cb := Xb.out.cell
      rw [HW12.out] at cb
      clear ho12 hbW hW12
      go_wp2_with fail
      rw [← HW12.out]
      refine (CVB.out _ _ W12 HR.out HBb.out).mono ?_
      rintro r w13 ⟨rfl, hb⟩
      replace Xd := Lib.hid (Xd.out.below hb Xd.out.lt)
      replace Xe := Lib.hid (Xe.out.below hb Xe.out.lt)
      replace Xx := Lib.hid (Xx.out.below hb Xx.out.lt)
      replace Xb := Lib.hid (Xb.out.below hb Xb.out.lt)
      replace Xy := Lib.hid (Xy.out.below hb Xy.out.lt)
      replace HE := Lib.hid (HE.out.below hb)
      replace HU := Lib.hid (HU.out.below hb)
      replace HX := Lib.hid (HX.out.below hb)
      replace HBb := Lib.hid (HBb.out.below hb)
      replace HO := Lib.hid (HO.out.below hb)
      replace HY := Lib.hid (HY.out.below hb)
      replace HB := Lib.hid (below_step HB.out hb)
      clear hb cb HW12 CVB HR
      cases ok
      · have hx0 : xl = 0 := by rw [HXL.out, HIns.out.1 rfl]; rfl
        subst hx0
        have cx := Xx.out.cell
        clear HIns HXf
        go_wp2
        go_ret
        exact ⟨rfl, HB.out⟩
      · obtain ⟨q1, q2, q3, q4⟩ := HIns.out.2 rfl
        have cl := fun u zs w h h' hz => LookupD_any (.slice xa X.length xc) X u zs w h h' (by have := HXf.out.1; omega) HXf.out.2 hz
        have cv := fun w h => ValidD_any (.slice xa X.length xc) X w h (by have := HXf.out.1; omega) HXf.out.2
        unfold lkE dV at cl
        unfold dV at cv
        rw [← HXL.out] at cl cv
        rw [q3] at cv
        have hle : (xl : Int) ≤ (m : Int) + 1 := by have h1 := HXL.out; have h2 := HM.out; omega
        try simp only at q1
        try simp only at q2
        have c1 := fun w h h' => cl (.slice ua yl uc) ys w h h' (by omega)
        rw [q1] at c1
        simp only [Option.getD_some, Option.isSome_some] at c1
        have HQ2 := Lib.hid q2
        have C1 := Lib.hid c1
        have CL := Lib.hid cl
        have CV := Lib.hid cv
        have cx := Xx.out.cell
        have ce0 := Xe.out.cell0
        clear q1 q2 q3 q4 cl cv c1 HIns
        go_wp2_with fail
        refine (C1.out _ HX.out HU.out).mono ?_
        rintro r wa ⟨rfl, hb⟩
        replace Xd := Lib.hid (Xd.out.below hb Xd.out.lt)
        replace Xe := Lib.hid (Xe.out.below hb Xe.out.lt)
        replace Xx := Lib.hid (Xx.out.below hb Xx.out.lt)
        replace Xb := Lib.hid (Xb.out.below hb Xb.out.lt)
        replace Xy := Lib.hid (Xy.out.below hb Xy.out.lt)
        replace HE := Lib.hid (HE.out.below hb)
        replace HU := Lib.hid (HU.out.below hb)
        replace HX := Lib.hid (HX.out.below hb)
        replace HBb := Lib.hid (HBb.out.below hb)
        replace HO := Lib.hid (HO.out.below hb)
        replace HY := Lib.hid (HY.out.below hb)
        replace HB := Lib.hid (below_step HB.out hb)
        clear hb cx ce0 C1
        obtain ⟨ea, ec, hef, _, hEC⟩ := HE.out.cells
        rw [← HM.out] at hef
        injection hef with e1 e2 e3
        subst e1 e3
        have HEC := Lib.hid hEC
        clear hEC e2
        have cd0 := Xd.out.cell
        go_wp2_with fail
        clear cd0
        go_loopw [23] (fun i wr => ∃ k : Nat, i = .int .i64 k ∧ k ≤ m ∧ Hid (Below wa.heap.size wa wr)) (fun i _ => m - (intOf i).toNat)
        case atStart => exact ⟨0, rfl, Nat.zero_le _, Lib.hid (Below.refl _ _)⟩
        case round =>
          obtain ⟨k, rfl, hk, HBr⟩ := hrel
          have cd := (Xd.out.below HBr.out Xd.out.lt).cell
          have cx := (Xx.out.below HBr.out Xx.out.lt).cell
          have ce0 := (Xe.out.below HBr.out Xe.out.lt).cell0
          have ce1 := (Xe.out.below HBr.out Xe.out.lt).cell1
          have HXr := Lib.hid (HX.out.below HBr.out)
          have HUr := Lib.hid (HU.out.below HBr.out)
          by_cases hlt : k < m
          · obtain ⟨x, hx⟩ : ∃ x, es[k]? = some x := ⟨_, List.getElem?_eq_getElem (by rw [← HM.out]; exact hlt)⟩
            obtain ⟨bk, of, fv, rfl, hbk, g0, g1, gv⟩ := HEC.out wr HBr.out k x hx
            have hq2 := HQ2.out x (List.mem_of_getElem? hx)
            have hxo := (hes2 x (List.mem_of_getElem? hx)).1
            obtain ⟨fs, ft⟩ := x
            simp only at g0 g1 gv hq2 hxo
            have cl := fun w h h' => CL.out fv fs w h h' hxo
            have cvi := fun w h h' => vI_any fv (.slice ua yl uc) fs ys w h h' hxo (by omega)
            rw [hq2] at cl
            have HFV := Lib.hid gv
            obtain ⟨fa, fc, rfl, _, _⟩ := gv.cells
            obtain ⟨fl, hfl⟩ : ∃ fl, fl = fs.length := ⟨_, rfl⟩
            rw [← hfl] at cl cvi g0 HFV
            clear hx hq2 hxo gv hfl HEC HQ2 CL
            by_cases hxe : fs = ys
            · rw [if_pos hxe] at cl
              rw [decide_eq_true hxe] at cvi
              simp only [Option.getD_some, Option.isSome_some] at cl
              have CLx := Lib.hid cl
              have CVx := Lib.hid cvi
              clear cl cvi hxe
              go_wp2_with fail
              have Q1 : Hid (∀ d os, Calls Tryz.prog 18 #[.agg #[.slice xa xl xc], .slice fa fl fc] (Go.Sort.grow (redrawn wr d) os) fun r w'' => r = .returned (.tuple #[.string t, .bool true]) ∧ ∃ p : Regrown, w'' = Go.Sort.grow (redrawn wr p.d) p.os) := fun d os => Calls.regrown_of (CLx.out _ (HXr.out.below (below_regrown wr d os)) (HFV.out.below (below_regrown wr d os)))
              have kd := cell_regrown cd
              have kx := cell_regrown cx
              have k0 := cell_regrown g0
              refine wp_region_quiet_below (by kernel_rfl) (by kernel_rfl) ?_
              repeat (go_big_quiet_step (exact Q1.out _ _))
              refine wpQuiet_nil ?_
              rintro _ ⟨⟨dq, osq⟩, rfl⟩
              obtain ⟨W6, hW6⟩ : ∃ W, W = Go.Sort.grow (redrawn wr dq) osq := ⟨_, rfl⟩
              have hb6 : Below wr.heap.size wr W6 := by rw [hW6]; exact below_regrown wr dq osq
              rw [← hW6]
              have hwar := HBr.out.size
              have HF6 := Lib.hid (HFV.out.below hb6)
              have HU6 := Lib.hid (HUr.out.below hb6)
              have HB6 := Lib.hid hb6
              have d6 := ((Xd.out.below HBr.out Xd.out.lt).below hb6 (Xd.out.below HBr.out Xd.out.lt).lt).cell
              have e60 := ((Xe.out.below HBr.out Xe.out.lt).below hb6 (Xe.out.below HBr.out Xe.out.lt).lt).cell0
              have g60 := (hb6.cell (p := ⟨bk, of + k * 2, none⟩) (by show bk < wr.heap.size; omega)).trans g0
              have g61 := (hb6.cell (p := ⟨bk, of + k * 2 + 1, none⟩) (by show bk < wr.heap.size; omega)).trans g1
              clear kd kx k0 cd cx ce0 ce1 g0 g1 Q1 CLx HXr hW6 hb6
              go_wp2_with fail
              have Q2 : Hid (∀ d os, Calls Tryz.prog 24 #[.slice fa fl fc, .slice ua yl uc] (Go.Sort.grow (redrawn W6 d) os) fun r w'' => r = .returned (.bool true) ∧ ∃ p : Regrown, w'' = Go.Sort.grow (redrawn W6 p.d) p.os) := fun d os => Calls.regrown_of (CVx.out _ (HF6.out.below (below_regrown W6 d os)) (HU6.out.below (below_regrown W6 d os)))
              have kd := cell_regrown d6
              have ke := cell_regrown e60
              have k0 := cell_regrown g60
              have k1 := cell_regrown g61
              refine wp_region_quiet_below (by kernel_rfl) (by kernel_rfl) ?_
              repeat (go_big_quiet_step (exact Q2.out _ _))
              refine wpQuiet_nil ?_
              rintro _ ⟨⟨dq, osq⟩, rfl⟩
              have HB7 : Hid (Below wa.heap.size wa (Go.Sort.grow (redrawn W6 dq) osq)) := below_step HBr.out (below_step HB6.out (below_regrown W6 dq osq))
              clear kd ke k0 k1 d6 e60 g60 g61 Q2 CVx HF6 HU6
              go_wp2
              go_roundw
              case rel => exact ⟨k + 1, by go_num, by omega, HB7⟩
              case measure => simp [intOf]; omega
            · rw [if_neg hxe] at cl
              rw [decide_eq_false hxe] at cvi
              have hne : (ft.toList == ft.toList) = true := by simp
              simp only [Option.getD_some, Option.isSome_some] at cl
              have CLx := Lib.hid cl
              have CVx := Lib.hid cvi
              clear cl cvi hxe
              go_wp2_with fail
              have Q1 : Hid (∀ d os, Calls Tryz.prog 18 #[.agg #[.slice xa xl xc], .slice fa fl fc] (Go.Sort.grow (redrawn wr d) os) fun r w'' => r = .returned (.tuple #[.string ft, .bool true]) ∧ ∃ p : Regrown, w'' = Go.Sort.grow (redrawn wr p.d) p.os) := fun d os => Calls.regrown_of (CLx.out _ (HXr.out.below (below_regrown wr d os)) (HFV.out.below (below_regrown wr d os)))
              have kd := cell_regrown cd
              have kx := cell_regrown cx
              have k0 := cell_regrown g0
              refine wp_region_quiet_below (by kernel_rfl) (by kernel_rfl) ?_
              repeat (go_big_quiet_step (exact Q1.out _ _))
              refine wpQuiet_nil ?_
              rintro _ ⟨⟨dq, osq⟩, rfl⟩
              obtain ⟨W6, hW6⟩ : ∃ W, W = Go.Sort.grow (redrawn wr dq) osq := ⟨_, rfl⟩
              have hb6 : Below wr.heap.size wr W6 := by rw [hW6]; exact below_regrown wr dq osq
              rw [← hW6]
              have hwar := HBr.out.size
              have HF6 := Lib.hid (HFV.out.below hb6)
              have HU6 := Lib.hid (HUr.out.below hb6)
              have HB6 := Lib.hid hb6
              have d6 := ((Xd.out.below HBr.out Xd.out.lt).below hb6 (Xd.out.below HBr.out Xd.out.lt).lt).cell
              have e60 := ((Xe.out.below HBr.out Xe.out.lt).below hb6 (Xe.out.below HBr.out Xe.out.lt).lt).cell0
              have g60 := (hb6.cell (p := ⟨bk, of + k * 2, none⟩) (by show bk < wr.heap.size; omega)).trans g0
              have g61 := (hb6.cell (p := ⟨bk, of + k * 2 + 1, none⟩) (by show bk < wr.heap.size; omega)).trans g1
              clear kd kx k0 cd cx ce0 ce1 g0 g1 Q1 CLx HXr hW6 hb6
              go_wp2_with fail
              have Q2 : Hid (∀ d os, Calls Tryz.prog 24 #[.slice fa fl fc, .slice ua yl uc] (Go.Sort.grow (redrawn W6 d) os) fun r w'' => r = .returned (.bool false) ∧ ∃ p : Regrown, w'' = Go.Sort.grow (redrawn W6 p.d) p.os) := fun d os => Calls.regrown_of (CVx.out _ (HF6.out.below (below_regrown W6 d os)) (HU6.out.below (below_regrown W6 d os)))
              have kd := cell_regrown d6
              have ke := cell_regrown e60
              have k0 := cell_regrown g60
              have k1 := cell_regrown g61
              refine wp_region_quiet_below (by kernel_rfl) (by kernel_rfl) ?_
              repeat (go_big_quiet_step (exact Q2.out _ _))
              refine wpQuiet_nil ?_
              rintro _ ⟨⟨dq, osq⟩, rfl⟩
              have HB7 : Hid (Below wa.heap.size wa (Go.Sort.grow (redrawn W6 dq) osq)) := below_step HBr.out (below_step HB6.out (below_regrown W6 dq osq))
              clear kd ke k0 k1 d6 e60 g60 g61 Q2 CVx HF6 HU6
              go_wp2
              go_roundw
              case rel => exact ⟨k + 1, by go_num, by omega, HB7⟩
              case measure => simp [intOf]; omega
          · obtain rfl : k = m := by omega
            have hne : (t.toList == t.toList) = true := by simp
            go_wp2_with fail
            refine (CV.out _ HXr.out).mono ?_
            rintro r wz ⟨rfl, hb⟩
            have dz := ((Xd.out.below HBr.out Xd.out.lt).below hb (Xd.out.below HBr.out Xd.out.lt).lt).cell
            have xz := ((Xx.out.below HBr.out Xx.out.lt).below hb (Xx.out.below HBr.out Xx.out.lt).lt).cell
            have HB7 := Lib.hid (below_step HB.out (below_step HBr.out hb))
            clear hb cd cx ce0 ce1
            go_wp2
            go_ret
            first
              | exact ⟨rfl, HB7.out⟩
              | exact ⟨ret_bool (decide_eq_true (by unfold wrap64; omega)), HB7.out⟩
              | exact ⟨ret_bool (decide_eq_true (by omega)), HB7.out⟩

/-! ### THE ROW's STEP -/
set_option maxRecDepth 100000 in
theorem contract (H : Type) (enc : TypeId × Value → H) (W : World) (base : Nat) (args : Array Value) (ds gs : List (DataW H)) (before : List MemPlace)
    (hval : ∀ (j : Nat) t v, Tryz.f3.params[j]? = some t → args[j]? = some v → Value.okWide Tryz.prog W .any base t v)
    (hW : DataW.Whole enc Tryz.prog Tryz.f3.params.toList Rows.fnDictionarySpec.vars false W args.toList ds gs before) (hL : laidMetH Tryz.prog Rows.fnDictionaryRow.laid W) (hS : W.ShapedOpen Tryz.prog) :
    Calls Tryz.prog 3 args W fun e W' => ∃ v, e = .returned v ∧ Rows.fnDictionarySpec.post enc Tryz.prog Tryz.f3 false true false false W args v W' := by
  have hW' := hW
  obtain ⟨p, q, hA0, hV, rfl, hfz, hnd⟩ := hW
  have hA : DataW.TrodAll enc Tryz.prog W 0 (fun _ => true) true Tryz.f3.params.toList args.toList ds p := hA0
  rw [Tryz.params3] at hA hval
  obtain ⟨v0, vs0, d0, ds0, p0, q0, hargs, rfl, rfl, h0, r0⟩ := trodAll_cons hA
  obtain ⟨rfl, rfl, rfl⟩ := trodAll_nil r0
  obtain rfl : args = #[v0] := by cases args; simp_all
  obtain ⟨rfl, rfl⟩ := trodVars_none hV
  have k0 := h0
  have lt0 : ∀ x ∈ p0, x.block < W.heap.size := by obtain ⟨m, hm⟩ := k0; exact DataW.trod_lt m _ _ _ hm
  obtain ⟨a0, n0, c0, rfl⟩ := okWide_slice Tryz.underlying22 (hval 0 22 v0 rfl rfl)
  obtain ⟨z0, w0⟩ : ∃ zs, IsRow .u8 W a0 n0 c0 zs := by
    obtain ⟨fuel, hf⟩ := h0
    rcases open_ints Tryz.underlying22 Tryz.underlying5 (by kernel_rfl) hf with ⟨hcs, _⟩ | ⟨x, l, c, zs, hcs, _, hl, hm, hz, _, hcell, hwz⟩
    · simp [Value.cells] at hcs
      obtain ⟨rfl, rfl, rfl⟩ := hcs
      exact ⟨[], .inl ⟨rfl, rfl, rfl, rfl⟩⟩
    · simp [Value.cells] at hcs
      obtain ⟨rfl, rfl, rfl⟩ := hcs
      exact ⟨zs, .inr ⟨_, rfl, hl, hm, by simpa using hz, hcell, hwz⟩⟩
  clear hA0 hval
  refine (walk a0 n0 c0 z0 W hS  w0).mono fun e W' ⟨he, bel⟩ => ?_
  subst he
  exact ⟨_, rfl, _, _, _, [], _, [], hW', trodAll_mk1 (shut_bool Tryz.underlying4 _), (trodAll_cons_mk (Below.trod laidOut (by kernel_rfl) (of_decide_eq_true (by kernel_rfl)) k0 bel lt0) trodAll_mk0), rfl, bel.frame _, fun h => by cases h⟩

theorem reads (os : Os) {H : Type} (enc : TypeId × Value → H) : ∃ places, DataW.whole enc Tryz.prog ((World.holding Tryz.prog os ⟨#[], #[], []⟩).forCall (fun _ _ => 0) ⟨#[], #[.slice none 0 0], []⟩).memory Tryz.f3.params.toList Rows.fnDictionarySpec.vars false (#[.slice none 0 0] : Array Value).toList 8 = some ([.nil], [], places) :=
  ⟨[], by kernel_rfl⟩

set_option maxRecDepth 100000 in
theorem lifted (os : Os) (started : os.Started) (H : Type) (enc : TypeId × Value → H) (F : Stop.Interp) :
    ReturnsInHanded {} Tryz.checked os 3 .any ((OpenSpec.ofChange Rows.fnDictionarySpec).preRow enc Tryz.prog Tryz.f3 Rows.fnDictionaryRow.domain false Rows.fnDictionaryRow.laid) (((OpenSpec.ofChange Rows.fnDictionarySpec).at F).post enc Tryz.prog Tryz.f3 false true false false) := by
  obtain ⟨places, hx⟩ := reads os enc
  refine returnsInHanded_of_row (C := Tryz.checked) (s := OpenSpec.ofChange Rows.fnDictionarySpec) own started (by kernel_rfl) Tryz.func3
    (witness_row_atRef (enc := enc) (C := Tryz.checked) false (World.holding Tryz.prog os ⟨#[], #[], []⟩) #[.slice none 0 0] rfl (by kernel_rfl) (by kernel_rfl) (by kernel_rfl)
      (OpenSpec.preRow_of_cond 8 hx (by kernel_rfl) (fun k hk => by cases hk) (by kernel_rfl) ⟨[], rfl, List.nodup_nil, fun b off h => by cases h⟩)) ?_
  intro W base args ds gs before hval hW _ _ _ hL hS _
  exact contract H enc W base args ds gs before hval hW hL hS

theorem said : Rows.FnDictionarySaid :=
  OpenClaim.holds_of_cond 3 Tryz.f3 rfl rfl rfl rfl rfl rfl rfl ⟨rfl, rfl, rfl, rfl, rfl⟩ rfl rfl rfl rfl rfl (by kernel_rfl) Tryz.func3 (by kernel_rfl)
    (of_decide_eq_true (by kernel_rfl)) (by unfold Func.isWrapper; first | (rw [if_pos (by decide +kernel)]; kernel_rfl) | (rw [if_neg (by decide +kernel)]; exact ⟨rfl, rfl⟩))
    (fun os started H enc _ F => by rw [OpenClaim.pre_eq_preRow]; exact lifted os started H enc F)

theorem proved : Rows.FnDictionarySaid := said
#print axioms proved
end Go.Proofs.YtmpcdhoigepdpaaGreat.fnDictionary
