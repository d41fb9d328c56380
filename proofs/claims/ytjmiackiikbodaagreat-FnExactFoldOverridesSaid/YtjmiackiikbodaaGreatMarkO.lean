/-
  OUTLINES THAT ARE MARKED AND HELD: the laws' helpers on answers of outlines.
-/
import Derived.Test.YtjmiackiikbodaaGreatRev
import Derived.Test.YtjmiackiikbodaaGreatPD
namespace Go.Proofs.YtjmiackiikbodaaGreat
set_option maxRecDepth 100000
open Go.RowKit

/-- The slices at block g are the outlines os; U tells where they lie. -/
structure OutsG (w : World) (base S g : Nat) (U : Nat → Value) (os : List (List Int)) : Prop where
  low : base ≤ g
  high : g < S
  size : S ≤ w.heap.size
  cell : ∀ (j : Nat) xs, os[j]? = some xs → w.cell? ⟨g, j, none⟩ = some (U j)
  each : OwnEach w base S g U os
/-- v is a slice of outlines of its own, from block 'base' on and below S. -/
def OwnOs (w : World) (base S : Nat) (v : Value) (os : List (List Int)) : Prop :=
  (os = [] ∧ ∃ a cap, v = .slice a 0 cap) ∨ ∃ g cap U, v = .slice (some ⟨g, 0, none⟩) os.length cap ∧ os.length ≤ cap ∧ 0 < os.length ∧ OutsG w base S g U os
theorem OutsG.touch {T : Nat → Prop} {w w' : World} {base S g : Nat} {U : Nat → Value} {os : List (List Int)} (h : OutsG w base S g U os) (ht : Touch T w w') (hT : ∀ b, base ≤ b → b < S → ¬ T b) : OutsG w' base S g U os := by
  have hg : g < w.heap.size := Nat.lt_of_lt_of_le h.high h.size
  refine ⟨h.low, h.high, Nat.le_trans h.size ht.1, fun j xs hj => ((ht.cf j hg (hT g h.low h.high)).1).trans (h.cell j xs hj), h.each.touch ht fun j xs hj h0 b hb => ?_⟩
  exact hT b ((h.each.own j xs hj).ge h0 hb) (h.each.low j xs hj h0 b hb).1
theorem OutsG.below {w w' : World} {base S g : Nat} {U : Nat → Value} {os : List (List Int)} (h : OutsG w base S g U os) (hb : Below w.heap.size w w') : OutsG w' base S g U os := h.touch (T := fun _ => False) (Touch.of_below hb) (fun _ _ _ q => q)
theorem OwnOs.below {w w' : World} {base S : Nat} {v : Value} {os : List (List Int)} (h : OwnOs w base S v os) (hb : Below w.heap.size w w') : OwnOs w' base S v os := by
  rcases h with h | ⟨g, cap, U, hv, hc, h0, h⟩
  · exact .inl h
  · exact .inr ⟨g, cap, U, hv, hc, h0, h.below hb⟩
theorem OwnOs.touch {T : Nat → Prop} {w w' : World} {base S : Nat} {v : Value} {os : List (List Int)} (h : OwnOs w base S v os) (ht : Touch T w w') (hT : ∀ b, base ≤ b → b < S → ¬ T b) : OwnOs w' base S v os := by
  rcases h with h | ⟨g, cap, U, hv, hc, h0, h⟩
  · exact .inl h
  · exact .inr ⟨g, cap, U, hv, hc, h0, h.touch ht hT⟩
theorem OwnOs.at {w : World} {base S : Nat} {v : Value} {os : List (List Int)} (h : OwnOs w base S v os) : OutsAt w v os := by
  rcases h with ⟨rfl, a, cap, rfl⟩ | ⟨g, cap, U, rfl, hc, h0, h⟩
  · exact OutsAt.nil _ _ _
  · refine ⟨_, cap, rfl, hc, .inr ⟨g, 0, rfl, Nat.lt_of_lt_of_le h.high h.size, fun j xs hj => ⟨U j, ?_, (h.each.own j xs hj).ints⟩⟩⟩
    rw [Nat.zero_add]; exact h.cell j xs hj
theorem RowO.own' {w : World} {base : Nat} {v : Value} {us : List (Value × List Int)} (h : RowO w base v us) : OwnOs w base w.heap.size v (us.map (·.2)) := by
  have hlen : (us.map (·.2)).length = us.length := List.length_map _
  rcases h.row.2 with ⟨rfl, h0⟩ | ⟨g, cap, cur, rfl, hbg, hg, hn, hcm, hsz, htake⟩
  · have : us = [] := List.length_eq_zero_iff.1 h0
    subst this
    exact .inl ⟨rfl, _, _, rfl⟩
  · rcases Nat.eq_zero_or_pos us.length with h0 | h0
    · have : us = [] := List.length_eq_zero_iff.1 h0
      subst this
      exact .inl ⟨rfl, _, _, rfl⟩
    · have hlt : g < w.heap.size := (Array.getElem?_eq_some_iff.1 hg).1
      have hU : ∀ (j : Nat) xs, (us.map (·.2))[j]? = some xs → ∃ p, us[j]? = some p ∧ p.2 = xs ∧ (us.map (·.1)).getD j .nilIface = p.1 := by
        intro j xs hj
        rw [List.getElem?_map] at hj
        obtain ⟨p, hp, rfl⟩ := Option.map_eq_some_iff.1 hj
        exact ⟨p, hp, rfl, by simp [List.getD, hp]⟩
      refine .inr ⟨g, cap, fun j => (us.map (·.1)).getD j .nilIface, by rw [hlen], by rw [hlen]; exact hn, by rw [hlen]; exact h0, hbg, hlt, Nat.le_refl _, fun j xs hj => ?_, fun j xs hj => ?_, fun j xs hj hx b hb => ?_, fun i j xs ys hi hj hij hx hy => ?_⟩
      · obtain ⟨p, hp, rfl, e⟩ := hU j xs hj
        have hjl := (List.getElem?_eq_some_iff.1 hp).1
        rw [e]
        have h1 : (cur.toList.take (us.length * 1))[j]? = some p.1 := by rw [htake, List.getElem?_map, hp]; rfl
        rw [List.getElem?_take_of_lt (by omega)] at h1
        simp only [Array.getElem?_toList] at h1
        simp [World.cell?, hg, h1]
      · obtain ⟨p, hp, rfl, e⟩ := hU j xs hj
        simp only [e]; exact h.own j p hp
      · obtain ⟨p, hp, rfl, e⟩ := hU j xs hj
        simp only [e] at hb
        refine ⟨(h.own j p hp).lt hx b hb, fun q => ?_⟩
        have := h.off j p hp hx b hb
        rw [q] at this
        exact this rfl
      · obtain ⟨p, hp, rfl, e⟩ := hU i xs hi
        obtain ⟨p', hp', rfl, e'⟩ := hU j ys hj
        simp only [e, e']
        exact h.apart i j p p' hp hp' hij hx hy

/-- What marking from m on leaves of the outlines; the number behind the last mark. -/
def mkO (m : Nat) : List (List Int) → List (List Int)
  | [] => []
  | xs :: r => ((List.range xs.length).map fun i => ((m + i : Nat) : Int)) :: mkO (m + xs.length) r
def endO (m : Nat) : List (List Int) → Nat
  | [] => m
  | xs :: r => endO (m + xs.length) r
theorem mkO_len (m : Nat) (os : List (List Int)) : (mkO m os).length = os.length := by
  induction os generalizing m with
  | nil => rfl
  | cons x r ih => unfold mkO; rw [List.length_cons, ih]; rfl
theorem mkO_snoc (m : Nat) (l : List (List Int)) (xs : List Int) : mkO m (l ++ [xs]) = mkO m l ++ [(List.range xs.length).map fun i => ((endO m l + i : Nat) : Int)] ∧ endO m (l ++ [xs]) = endO m l + xs.length := by
  induction l generalizing m with
  | nil => exact ⟨rfl, rfl⟩
  | cons x l ih => obtain ⟨h1, h2⟩ := ih (m + x.length); exact ⟨by show _ :: mkO _ (l ++ [xs]) = _; rw [h1]; rfl, h2⟩
theorem mkO_at {m : Nat} {os : List (List Int)} {k : Nat} {xs : List Int} (h : os[k]? = some xs) : (mkO m os)[k]? = some ((List.range xs.length).map fun i => ((endO m (os.take k) + i : Nat) : Int)) := by
  induction os generalizing m k with
  | nil => simp at h
  | cons x r ih =>
    cases k with
    | zero => simp at h; subst h; rfl
    | succ k => exact ih (m := m + x.length) (by simpa using h)
theorem endO_next {m k : Nat} {os : List (List Int)} {xs : List Int} (h : os[k]? = some xs) : endO m (os.take (k + 1)) = endO m (os.take k) + xs.length := by
  rw [List.take_add_one, h, Option.toList_some, (mkO_snoc m _ xs).2]
theorem endO_le (m : Nat) (os : List (List Int)) (L : Nat) (h : ∀ xs ∈ os, xs.length ≤ L) : endO m os ≤ m + os.length * L := by
  induction os generalizing m with
  | nil => exact Nat.le_add_right _ _
  | cons e r ih =>
    have h1 := h e (List.mem_cons_self ..)
    have h2 := ih (m + e.length) fun x hx => h x (List.mem_cons_of_mem _ hx)
    show endO (m + e.length) r ≤ _
    rw [List.length_cons, Nat.succ_mul]
    omega
def midO (m k : Nat) (os : List (List Int)) : List (List Int) := mkO m (os.take k) ++ os.drop k
theorem midO_at {m k : Nat} {os : List (List Int)} {xs : List Int} (h : os[k]? = some xs) : (midO m k os)[k]? = some xs := by
  have hk := (List.getElem?_eq_some_iff.1 h).1
  unfold midO
  have hl : (mkO m (os.take k)).length = k := by rw [mkO_len, List.length_take]; omega
  rw [List.getElem?_append_right (by omega), hl, Nat.sub_self, List.getElem?_drop, Nat.add_zero, h]
theorem midO_next {m k : Nat} {os : List (List Int)} {xs : List Int} (h : os[k]? = some xs) : midO m (k + 1) os = (midO m k os).set k ((List.range xs.length).map fun i => ((endO m (os.take k) + i : Nat) : Int)) := by
  have hk := (List.getElem?_eq_some_iff.1 h).1
  have hl : (mkO m (os.take k)).length = k := by rw [mkO_len, List.length_take]; omega
  unfold midO
  rw [List.take_add_one, h, Option.toList_some, (mkO_snoc m _ xs).1, List.set_append_right _ _ (by omega), hl, Nat.sub_self, List.append_assoc]
  congr 1
  have e1 : os.drop k = xs :: os.drop (k + 1) := by
    rw [List.drop_eq_getElem_cons hk]
    congr 1
    exact (List.getElem?_eq_some_iff.1 h).2
  rw [e1]; rfl
theorem midO_all (m : Nat) (os : List (List Int)) : midO m os.length os = mkO m os := by unfold midO; rw [List.take_length, List.drop_length, List.append_nil]
theorem marks_get (M n i : Nat) (h : i < n) : ((List.range n).map fun i => ((M + i : Nat) : Int)).getD i 0 = ((M + i : Nat) : Int) := by simp [List.getD, h]
set_option maxHeartbeats 2000000 in
theorem markOs_any (base S : Nat) (v : Value) (os : List (List Int)) (w : World) (h : OwnOs w base S v os) (hn : os.length ≤ 1000) (hx : ∀ xs ∈ os, xs.length ≤ 1000) :
    Calls Tryz.prog 23 #[v, .int .i64 1] w fun r w' => r = .returned (.int .i64 (endO 1 os : Int)) ∧ OwnOs w' base S v (mkO 1 os) ∧ Touch (fun b => base ≤ b ∧ b < S) w w' ∧ Below base w w' := by
  rcases h with ⟨rfl, a, cap, rfl⟩ | ⟨g, cap, U, rfl, hcap, h0, hG⟩
  · go_enter Tryz.func23, Tryz.ntmps23
    go_wp2
    refine wp_loop_rounds 1 ?_
    rw [rounds_succ]
    go_wp2
    go_ret
    exact ⟨rfl, .inl ⟨rfl, _, _, rfl⟩, Touch.refl _ _, Below.refl _ _⟩
  · have HE : Hid (∀ k, k ≤ os.length → endO 1 (os.take k) ≤ 1 + k * 1000) := fun k hk => by
      have := endO_le 1 (os.take k) 1000 (fun xs hxs => hx xs (List.mem_of_mem_take hxs))
      rw [List.length_take, Nat.min_eq_left hk] at this; exact this
    have HX := Lib.hid (fun k e (h : os[k]? = some e) => hx e (List.mem_of_getElem? h))
    have CM := Lib.hid (fun m0 u n f w h hn hm => markI_t base m0 u n f w h hn hm)
    have HG0 : Hid (OutsG w base S g U (midO 1 0 os)) := hG
    have HAll : Hid (midO 1 os.length os = mkO 1 os) := midO_all 1 os
    have HEnd : Hid (endO 1 (os.take os.length) = endO 1 os) := by show endO 1 _ = _; rw [List.take_length]
    have HLen : Hid ((mkO 1 os).length = os.length) := mkO_len 1 os
    have hbg := hG.low
    have hgS := hG.high
    obtain ⟨n, hnn⟩ : ∃ n, n = os.length := ⟨_, rfl⟩
    rw [← hnn] at hcap h0 hn HAll HEnd HLen HE ⊢
    have HN := Lib.hid hnn
    clear hG hnn hx
    go_enter Tryz.func23, Tryz.ntmps23
    go_wp2_with fail
    go_loopw [1, 5] (fun m i wr => ∃ k M : Nat, k ≤ n ∧ i = .int .i64 k ∧ m = .int .i64 (M : Int) ∧ Hid (M = endO 1 (os.take k)) ∧ Hid (OutsG wr base S g U (midO 1 k os)) ∧ Hid (Touch (fun b => base ≤ b ∧ b < S) w wr) ∧ Hid (Below base w wr)) (fun _ i _ => n - (intOf i).toNat)
    case atStart => exact ⟨0, 1, Nat.zero_le _, rfl, rfl, Lib.hid rfl, HG0, Touch.refl _ _, Below.refl _ _⟩
    case round =>
      obtain ⟨k, M, hk, rfl, rfl, HM, HG, HT, HB⟩ := hrel
      by_cases hlt : k < n
      · obtain ⟨xs, he⟩ : ∃ e, os[k]? = some e := ⟨_, List.getElem?_eq_getElem (by rw [← HN.out]; exact hlt)⟩
        have hmid := midO_at (m := 1) he
        have g0 := HG.out.cell k xs hmid
        have hou : OwnInts wr base (U k) xs.length (fun i => xs.getD i 0) := HG.out.each.own k xs hmid
        have hbe := HX.out k xs he
        have hnx := endO_next (m := 1) he
        rw [← HM.out] at hnx
        have hM2 : M ≤ 1 + k * 1000 := by rw [HM.out]; exact HE.out k (by omega)
        have HNx := Lib.hid hnx
        have HMid : Hid (midO 1 (k + 1) os = (midO 1 k os).set k ((List.range xs.length).map fun i => ((M + i : Nat) : Int))) := by show midO _ _ _ = _; rw [midO_next he, HM.out]
        have hlow : 0 < xs.length → ∀ b, (U k).ownBlock = some b → (base ≤ b ∧ b < S) ∧ b ≠ g := fun h0 b hb' => ⟨⟨hou.ge h0 hb', (HG.out.each.low k xs hmid h0 b hb').1⟩, (HG.out.each.low k xs hmid h0 b hb').2⟩
        have C1 := CM.out M (U k) xs.length _ wr hou (by omega) (by omega)
        obtain ⟨ua, uc, hUf⟩ := hou.form
        have HUf := Lib.hid hUf
        have HHe := Lib.hid hmid
        have HLo := Lib.hid hlow
        have hgl : g < wr.heap.size := Nat.lt_of_lt_of_le hgS HG.out.size
        rw [hUf] at C1 g0
        have D1 := Lib.hid C1
        clear C1 hou he hmid hnx hlow hUf hbe
        go_wp2_with fail
        refine D1.out.mono ?_
        rintro r w1 ⟨rfl, hO1, hT1, hb1⟩
        rw [← HUf.out] at hO1 hT1
        have HG2 : Hid (OutsG w1 base S g U (midO 1 (k + 1) os)) := by
          rw [HMid.out]
          have hng : ¬ (0 < xs.length ∧ (U k).ownBlock = some g) := fun ⟨h0, h1⟩ => (HLo.out h0 g h1).2 rfl
          refine ⟨hbg, hgS, Nat.le_trans HG.out.size hT1.1, fun j ys hj => ?_, ?_⟩
          · have hjl : j < (midO 1 k os).length := by have := (List.getElem?_eq_some_iff.1 hj).1; rwa [List.length_set] at this
            exact ((hT1.cf j hgl hng).1).trans (HG.out.cell j _ (List.getElem?_eq_getElem hjl))
          · refine HG.out.each.set HHe.out (by simp) ?_ hT1 (fun b hb' => .inr hb')
            rw [List.length_map, List.length_range]
            exact hO1.congr fun j hj => (marks_get M xs.length j hj).symm
        have HT2 : Hid (Touch (fun b => base ≤ b ∧ b < S) w w1) := HT.out.trans (hT1.mono fun b h => (HLo.out h.1 b h.2).1)
        have HB2 : Hid (Below base w w1) := HB.out.trans hb1
        clear hO1 hT1 hb1 D1 HG HT HB
        go_wp2
        go_roundw
        case rel => exact ⟨k + 1, M + xs.length, by omega, by go_num, by go_num, HNx.out.symm, HG2, HT2, HB2⟩
        case measure => simp [intOf]; omega
      · obtain rfl : k = n := by omega
        have hM : M = endO 1 os := by rw [HM.out, HEnd.out]
        have HGf : Hid (OutsG wr base S g U (mkO 1 os)) := by rw [← HAll.out]; exact HG.out
        have HO : Hid (OwnOs wr base S (.slice (some ⟨g, 0, none⟩) k cap) (mkO 1 os)) := .inr ⟨g, cap, U, by rw [HLen.out], by rw [HLen.out]; exact hcap, by rw [HLen.out]; exact h0, HGf.out⟩
        have HMM := Lib.hid hM
        clear HG HGf HM hM
        go_wp2
        go_ret
        exact ⟨ret_int (by rw [HMM.out]), HO.out, HT.out, HB.out⟩
set_option maxHeartbeats 2000000 in
theorem heldOs_any (base S : Nat) (v : Value) (os : List (List Int)) (w : World) (h : OwnOs w base S v (mkO 1 os)) (hn : os.length ≤ 1000) (hx : ∀ xs ∈ os, xs.length ≤ 1000) :
    Calls Tryz.prog 24 #[v, .int .i64 1] w fun r w' => r = .returned (.int .i64 (endO 1 os : Int)) ∧ Below w.heap.size w w' := by
  rcases h with ⟨he0, a, cap, rfl⟩ | ⟨g, cap, U, rfl, hcap, h0, hG⟩
  · have : os = [] := List.length_eq_zero_iff.1 (by rw [← mkO_len 1 os, he0]; rfl)
    subst this
    go_enter Tryz.func24, Tryz.ntmps24
    go_wp2
    refine wp_loop_rounds 1 ?_
    rw [rounds_succ]
    go_wp2
    go_ret
    exact ⟨rfl, Below.refl _ _⟩
  · have HE : Hid (∀ k, k ≤ os.length → endO 1 (os.take k) ≤ 1 + k * 1000) := fun k hk => by
      have := endO_le 1 (os.take k) 1000 (fun xs hxs => hx xs (List.mem_of_mem_take hxs))
      rw [List.length_take, Nat.min_eq_left hk] at this; exact this
    have HX := Lib.hid (fun k e (h : os[k]? = some e) => hx e (List.mem_of_getElem? h))
    have CM := Lib.hid (fun m0 u n w h hn hm => heldI_t base m0 u n w h hn hm)
    have HEnd : Hid (endO 1 (os.take os.length) = endO 1 os) := by show endO 1 _ = _; rw [List.take_length]
    rw [mkO_len] at hcap h0
    rw [mkO_len]
    obtain ⟨n, hnn⟩ : ∃ n, n = os.length := ⟨_, rfl⟩
    rw [← hnn] at hcap h0 hn HEnd HE ⊢
    have HN := Lib.hid hnn
    have HG := Lib.hid hG
    clear hG hnn hx
    go_enter Tryz.func24, Tryz.ntmps24
    go_wp2_with fail
    go_loopw [1, 5] (fun m i wr => ∃ k M : Nat, k ≤ n ∧ i = .int .i64 k ∧ m = .int .i64 (M : Int) ∧ Hid (M = endO 1 (os.take k)) ∧ Hid (Below w.heap.size w wr)) (fun _ i _ => n - (intOf i).toNat)
    case atStart => exact ⟨0, 1, Nat.zero_le _, rfl, rfl, Lib.hid rfl, Below.refl _ _⟩
    case round =>
      obtain ⟨k, M, hk, rfl, rfl, HM, HB⟩ := hrel
      by_cases hlt : k < n
      · obtain ⟨xs, he⟩ : ∃ e, os[k]? = some e := ⟨_, List.getElem?_eq_getElem (by rw [← HN.out]; exact hlt)⟩
        have hmk := mkO_at (m := 1) he
        rw [← HM.out] at hmk
        have HGr := HG.out.below HB.out
        have g0 := HGr.cell k _ hmk
        have hou := HGr.each.own k _ hmk
        rw [List.length_map, List.length_range] at hou
        have hou2 : OwnInts wr base (U k) xs.length (fun j => ((M + j : Nat) : Int)) := hou.congr fun j hj => marks_get M xs.length j hj
        have hbe := HX.out k xs he
        have hnx := endO_next (m := 1) he
        rw [← HM.out] at hnx
        have hM2 : M ≤ 1 + k * 1000 := by rw [HM.out]; exact HE.out k (by omega)
        have HNx := Lib.hid hnx
        have D1 := CM.out M (U k) xs.length wr hou2 (by omega) (by omega)
        obtain ⟨ua, uc, hUf⟩ := hou.form
        rw [hUf] at D1 g0
        have HD1 := Lib.hid D1
        have hpos : ¬ ((M + xs.length : Nat) : Int) < 0 := by omega
        have hgl : g < wr.heap.size := lt_of_cell g0
        clear D1 hou hou2 hmk hnx he HGr hUf
        go_wp2_with fail
        refine HD1.out.mono ?_
        rintro r w1 ⟨rfl, hb1⟩
        have HB1 : Hid (Below w.heap.size w w1) := below_step HB.out hb1
        clear hb1 HD1
        go_wp2
        go_roundw
        case rel => exact ⟨k + 1, M + xs.length, by omega, by go_num, by go_num, HNx.out.symm, HB1⟩
        case measure => simp [intOf]; omega
      · obtain rfl : k = n := by omega
        have hM : M = endO 1 os := by rw [HM.out, HEnd.out]
        have HMM := Lib.hid hM
        clear HM hM
        go_wp2
        go_ret
        exact ⟨ret_int (by rw [HMM.out]), HB.out⟩
end Go.Proofs.YtjmiackiikbodaaGreat
