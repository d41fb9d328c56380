/-
  THE PROGRAM's FUNCTIONS OF CHAPTER 3, as the laws want them.
-/
import Derived.Test.YtindcafdphfppaaClo
namespace Go.Proofs.Ytindcafdphfppaa
open Go.RowKit

theorem own_nil (w : World) (base : Nat) (a : Option Addr) (cap : Nat) : OwnInts w base (.slice a 0 cap) 0 (fun j => ([] : List Int).getD j 0) := .inl ⟨rfl, a, cap, rfl⟩
theorem lastUpStrokes_any (v : Value) (es : List Pl.Ev) (w : World) (h : EvsAt w v es) (hn : es.length ≤ 2097152) :
    Calls Try.prog 15 #[v] w fun e w' => IntsO w.heap.size w' (lastL es) (Pl.good es) e ∧ Below w.heap.size w w' := by
  have hb0 : Below w.heap.size w (w.alloc (.cells (kbA 0) 65)) := (Below.refl _ _).alloc (Nat.le_refl _) _
  have CS := Lib.hid (assemble_any w.heap.size _ _ _ _ _ _ (lastEmits w.heap.size) v es w (w.alloc (.cells (kbA 0) 65)) hb0 (Nat.le_refl _) (by simp) h hn (KB.made w 0))
  have CL := Lib.hid (fun w => lastUp_any w)
  obtain ⟨a, cap, rfl, hcap, _⟩ := h.cells
  clear h hb0
  go_enter Try.func15, Try.ntmps15
  go_wp2_with fail
  refine (CL.out _).mono ?_
  rintro e w1 ⟨rfl, rfl⟩
  go_wp2_with fail
  refine CS.out.mono ?_
  rintro e w2 ⟨⟨x, y, T, rfl, h1, h2⟩, hb⟩
  have H1 := Lib.hid h1
  have H2 := Lib.hid h2
  clear h1 h2
  go_wp2
  go_ret2
  refine ⟨⟨x, rfl, ?_⟩, hb⟩
  cases hg : Pl.good es
  · obtain ⟨rfl, _⟩ := H2.out hg
    have : lastL es = [] := by unfold lastL; rw [hg]; rfl
    rw [this]
    exact own_nil _ _ _ _
  · obtain ⟨hr, _, _⟩ := H1.out hg
    have : lastL es = natsI (Pl.run es).S := by unfold lastL; rw [hg]; rfl
    rw [this]
    exact ownInts_of (hr.mono (by rw [World.size_alloc]; omega))
theorem strokeTimes_any (v : Value) (es : List Pl.Ev) (w : World) (h : EvsAt w v es) (hn : es.length ≤ 2097152) :
    Calls Try.prog 18 #[v] w fun e w' => IntsO w.heap.size w' (timesL es) (Pl.good es) e ∧ Below w.heap.size w w' := by
  have hb0 : Below w.heap.size w (w.alloc (.cells (kbA 0) 65)) := (Below.refl _ _).alloc (Nat.le_refl _) _
  have CS := Lib.hid (assemble_any w.heap.size _ _ _ _ _ _ (lastEmits w.heap.size) v es w (w.alloc (.cells (kbA 0) 65)) hb0 (Nat.le_refl _) (by simp) h hn (KB.made w 0))
  have CL := Lib.hid (fun w => lastUp_any w)
  obtain ⟨a, cap, rfl, hcap, _⟩ := h.cells
  clear h hb0
  go_enter Try.func18, Try.ntmps18
  go_wp2_with fail
  refine (CL.out _).mono ?_
  rintro e w1 ⟨rfl, rfl⟩
  go_wp2_with fail
  refine CS.out.mono ?_
  rintro e w2 ⟨⟨x, y, T, rfl, h1, h2⟩, hb⟩
  have H1 := Lib.hid h1
  have H2 := Lib.hid h2
  clear h1 h2
  go_wp2
  go_ret2
  refine ⟨⟨y, rfl, ?_⟩, hb⟩
  cases hg : Pl.good es
  · obtain ⟨_, rfl⟩ := H2.out hg
    have : timesL es = [] := by unfold timesL; rw [hg]; rfl
    rw [this]
    exact own_nil _ _ _ _
  · obtain ⟨_, hr, hT⟩ := H1.out hg
    have : timesL es = T := by unfold timesL; rw [hg, if_pos rfl]; exact hT.symm
    rw [this]
    exact ownInts_of (hr.mono (by rw [World.size_alloc]; omega))
theorem firstUpStrokes_any (v : Value) (es : List Pl.Ev) (w : World) (h : EvsAt w v es) (hn : es.length ≤ 2097152) :
    Calls Try.prog 16 #[v] w fun e w' => IntsO w.heap.size w' (firstL es) (Pl.good es) e ∧ Below w.heap.size w w' := by
  have hb0 : Below w.heap.size w (w.alloc (.cells #[.bool false] 4)) := (Below.refl _ _).alloc (Nat.le_refl _) _
  have CS := Lib.hid (assemble_any w.heap.size _ _ _ _ _ _ (firstEmits w.heap.size) v es w (w.alloc (.cells #[.bool false] 4)) hb0 (Nat.le_refl _) (by simp) h hn (heap_alloc_new w _))
  have CL := Lib.hid (fun w => firstUp_any w)
  obtain ⟨a, cap, rfl, hcap, _⟩ := h.cells
  clear h hb0
  go_enter Try.func16, Try.ntmps16
  go_wp2_with fail
  refine (CL.out _).mono ?_
  rintro e w1 ⟨rfl, rfl⟩
  go_wp2_with fail
  refine CS.out.mono ?_
  rintro e w2 ⟨⟨x, y, T, rfl, h1, h2⟩, hb⟩
  have H1 := Lib.hid h1
  have H2 := Lib.hid h2
  clear h1 h2
  go_wp2
  go_ret2
  refine ⟨⟨x, rfl, ?_⟩, hb⟩
  cases hg : Pl.good es
  · obtain ⟨rfl, _⟩ := H2.out hg
    have : firstL es = [] := by unfold firstL; rw [hg]; rfl
    rw [this]
    exact own_nil _ _ _ _
  · obtain ⟨hr, _, _⟩ := H1.out hg
    have : firstL es = natsI (Pl.run es).F := by unfold firstL; rw [hg]; rfl
    rw [this]
    exact ownInts_of (hr.mono (by rw [World.size_alloc]; omega))
theorem keysI_zero : keysI 0 = [] := by
  unfold keysI
  rw [(Pl.keysL_zero_iff 0 (by decide)).2 rfl]; rfl
set_option maxHeartbeats 1000000 in
theorem heldKeys_any (v : Value) (es : List Pl.Ev) (w : World) (h : EvsAt w v es) (hn : es.length ≤ 2097152) :
    Calls Try.prog 17 #[v] w fun e w' => IntsO w.heap.size w' (heldL es) (Pl.good es) e ∧ Below w.heap.size w w' := by
  have c := keyboardAfter_any v es w h hn
  obtain ⟨m, hm⟩ : ∃ m, m = if Pl.good es = true then (Pl.run es).dn else 0 := ⟨_, rfl⟩
  have hL : heldL es = keysI m := by
    unfold heldL
    rw [hm]
    cases Pl.good es
    · exact keysI_zero.symm
    · rfl
  rw [hL]
  obtain ⟨g, hg⟩ : ∃ g, g = Pl.good es := ⟨_, rfl⟩
  have hE : kbE es = .returned (.tuple #[.agg (kbA m), .bool g]) := by unfold kbE; rw [← hm, ← hg]
  rw [hE] at c
  rw [← hg]
  have C := Lib.hid c
  have CD := Lib.hid (fun w => keysDown_any m w)
  have hz := kb_nil
  obtain ⟨a, cap, rfl, hcap, _⟩ := h.cells
  clear h hm hg hE c hL
  go_enter Try.func17, Try.ntmps17
  go_wp2_with fail
  refine C.out.mono ?_
  rintro e w1 ⟨rfl, hb⟩
  have HK := Lib.hid (KB.made w1 0)
  have hbr := below_row (hb.alloc hb.size (.cells (kbA 0) 65)) hb.size (kbA m)
  have HR := Lib.hid ((KB.made w1 0).row m)
  go_wp2_with (with_reducible (show wpList _ _ _ (_ :: _) _ _); first | refine kb_store w1.heap.size 0 m rfl rfl rfl rfl HK.out ?_ | refine kb_load w1.heap.size m rfl rfl rfl HR.out ?_)
  refine (CD.out _).mono ?_
  rintro e w2 ⟨⟨u, rfl, hu⟩, hb2⟩
  have HU := Lib.hid (ownInts_of (RowI.mono hu hbr.size))
  have HB2 := Lib.hid (hbr.trans (hb2.mono hbr.size))
  clear hu hb2 hbr
  go_wp2
  go_ret2
  exact ⟨⟨u, rfl, HU.out⟩, HB2.out⟩

/-! ### ChordEvents -/
/-- The events of the first q keys, all at one time and in one direction. -/
def moveEv (t : Int) (d : Bool) (n q : Nat) : List Pl.Ev := ((Pl.keysL n).take q).map fun j : Nat => (⟨t, (j : Int), d⟩ : Pl.Ev)
theorem moveEv_next (t : Int) (d : Bool) (n q j : Nat) (h : (Pl.keysL n)[q]? = some j) : moveEv t d n (q + 1) = moveEv t d n q ++ [⟨t, (j : Int), d⟩] := by
  unfold moveEv; rw [List.take_add_one, h, List.map_append]; rfl
theorem moveEv_len (t : Int) (d : Bool) (n q : Nat) : (moveEv t d n q).length ≤ Pl.card n := by unfold moveEv; rw [List.length_map, List.length_take]; exact Nat.min_le_right _ _
theorem moveEv_all (t : Int) (d : Bool) (n : Nat) : (moveEv t d n (Pl.card n)).length = Pl.card n := by unfold moveEv Pl.card; rw [List.length_map, List.length_take]; omega
theorem moves_chord (iv : Int) (k n : Nat) : moveEv (2 * (k : Int) * iv) true n (Pl.card n) ++ moveEv ((2 * (k : Int) + 1) * iv) false n (Pl.card n) = Pl.chord iv k n := by
  have e : (Pl.keysL n).take (Pl.card n) = Pl.keysL n := List.take_of_length_le (Nat.le_refl _)
  unfold moveEv Pl.chord
  rw [e]
set_option maxHeartbeats 2000000 in
theorem appendMoves_any (w0 : World) (ev kv : Value) (E : List Pl.Ev) (n : Nat) (t : Int) (d : Bool) (w : World) (hw : Below w0.heap.size w0 w) (hE : OwnE w w0.heap.size ev E) (hK : RowI w w0.heap.size kv (keysI n)) (hA : Apart ev kv) (hl : E.length ≤ 250) :
    Calls Try.prog 42 #[ev, kv, .int .i64 t, .bool d] w fun e w' => ∃ u, e = .returned u ∧ OwnE w' w0.heap.size u (E ++ moveEv t d n (Pl.card n)) ∧ RowI w' w0.heap.size kv (keysI n) ∧ Apart u kv ∧ Below w0.heap.size w0 w' := by
  obtain ⟨iE, hiE, hE0, hE1, hE2⟩ := info_parts infoEv
  have hcard := Pl.card_le n
  have hkl := keysI_len n
  obtain ⟨K, hKc⟩ : ∃ K, K = Pl.card n := ⟨_, rfl⟩
  rw [← hKc] at hcard hkl ⊢
  have HKC := Lib.hid hKc
  obtain ⟨a2, cap2, rfl, hcap2, _⟩ := rowInts_at hK
  rw [hkl] at hcap2
  unfold RowI at hK ⊢
  rw [hkl] at hK hA ⊢
  have HE := Lib.hid hE
  have HK := Lib.hid hK
  have HA := Lib.hid hA
  have HKL := Lib.hid hkl
  clear hKc hkl hK hE hA
  go_enter Try.func42, Try.ntmps42
  go_wp2_with fail
  go_loopw [0, 13] (fun o j wr => ∃ q : Nat, j = .int .i64 q ∧ q ≤ K ∧ Hid (OwnE wr w0.heap.size o (E ++ moveEv t d n q)) ∧
    Hid (wr.ownsRow w0.heap.size 3 1 (.slice a2 K cap2) K ((keysI n).map (.int .i64))) ∧ Hid (Apart o (.slice a2 K cap2)) ∧ Below w0.heap.size w0 wr) (fun _ j _ => K - (intOf j).toNat)
  case atStart => exact ⟨0, rfl, Nat.zero_le _, by show Hid (OwnE _ _ _ (E ++ [])); rw [List.append_nil]; exact HE, HK, HA, hw⟩
  case round =>
    obtain ⟨q, rfl, hq, HOq, HKq, HXq, hbelq⟩ := hrel
    by_cases hqK : q < K
    · obtain ⟨j, hj⟩ : ∃ j, (Pl.keysL n)[q]? = some j := ⟨_, List.getElem?_eq_getElem (by have := HKC.out; unfold Pl.card at this; omega)⟩
      have hji : (keysI n)[q]? = some (j : Int) := by unfold keysI; rw [List.getElem?_map, hj]; rfl
      obtain ⟨a', cap', hv', _, hc'⟩ := rowInts_at (xs := keysI n) (v := .slice a2 K cap2) (by rw [HKL.out]; exact HKq.out)
      obtain ⟨kb, ko, rfl, hkb, hkc⟩ : ∃ kb ko, a2 = some ⟨kb, ko, none⟩ ∧ True ∧ wr.cell? ⟨kb, ko + q, none⟩ = some (.int .i64 (j : Int)) := by
        rcases hc' with h | ⟨kb, ko, ha, _, h⟩
        · rw [h] at hji; simp at hji
        · injection hv' with h1 h2 h3
          exact ⟨kb, ko, by rw [h1, ha], trivial, h q _ hji⟩
      have HNext := Lib.hid (moveEv_next t d n q j hj)
      have hlen : (E ++ moveEv t d n q).length ≤ 300 := by
        have := moveEv_len t d n q
        rw [List.length_append]; rw [← HKC.out] at this; omega
      have hown := HOq.out
      have hszq := hbelq.size
      clear hj hji hv' hc' hkb
      go_wp2_with (at_builtin; refine wpList_append_own_at _ rfl _ _ 27 rfl w0.heap.size 31 iE (.agg #[.int .i64 0, .int .i64 0, .bool false]) 3 24 Try.underlying27 hiE hE0 hE1 hE2 rfl (by decide) _ _ _ rfl (hown.alloc _) ⟨wr.heap.size, 0, none⟩ 1 1 [.int .i64 t, .int .i64 (j : Int), .bool d] rfl rfl ?c1 ?c2 ?c3 ?c4 ?c5 ?_)
      case c1 => exact cell_three_new _ _ _ _ _
      case c2 =>
        intro y hy
        simp only [List.mem_cons, List.not_mem_nil, or_false] at hy
        rcases hy with rfl | rfl | rfl <;> rfl
      case c3 => unfold maxLen; omega
      case c4 => omega
      case c5 => simp; omega
      intro v' w3 hown' hgrow _ hat
      have HO3 : Hid (OwnE w3 w0.heap.size v' (E ++ moveEv t d n (q + 1))) := by
        show World.ownsRow _ _ _ _ _ _ _
        rw [HNext.out, ← List.append_assoc, evCells_snoc, List.length_append, List.length_append]
        exact hown'
      have HK3 : Hid (w3.ownsRow w0.heap.size 3 1 (.slice (some ⟨kb, ko, none⟩) K cap2) K ((keysI n).map (.int .i64))) := (HKq.out.alloc _).kept hgrow HXq.out.kept
      have HX3 : Hid (Apart v' (.slice (some ⟨kb, ko, none⟩) K cap2)) := by
        intro g hg he
        rcases hat with h | h
        · exact HXq.out g (by rw [← h]; exact hg) he
        · rw [h] at hg
          have := row_lt HKq.out he
          cases hg
          first | omega | (simp at this; omega)
      have HB3 : Hid (Below w0.heap.size w0 w3) := (hbelq.alloc hszq _).grown hgrow (by simp; omega) fun j hj => row_ge hown hj
      clear hown hown' hgrow hat HOq HKq HXq
      go_wp2
      go_roundw
      case rel => exact ⟨q + 1, by go_num, by omega, HO3, HK3, HX3, HB3.out⟩
      case measure => simp [intOf]; omega
    · obtain rfl : q = K := by omega
      go_wp2
      go_ret
      exact ⟨_, rfl, HOq.out, HKq.out, HXq.out, hbelq⟩

theorem ownE_evs {w : World} {base : Nat} {v : Value} {E : List Pl.Ev} (h : OwnE w base v E) : OwnEvs w base v E.length (fun j => E.getD j default) := by
  obtain ⟨a, c, hv, hc, hcell⟩ := ownE_at h
  rcases h.2 with ⟨h1, hz⟩ | ⟨g, cap, cur, h1, hb, hg, hn, _⟩
  · exact .inl ⟨hz, none, 0, h1⟩
  · rcases Nat.eq_zero_or_pos E.length with h0 | h0
    · exact .inl ⟨h0, _, _, by rw [h1, h0]⟩
    · have hlt : g < w.heap.size := (Array.getElem?_eq_some_iff.1 hg).1
      refine .inr ⟨g, cap, h1, hn, hb, h0, hlt, fun j hj => ?_, fun j => by simp [World.frozen?, hg]⟩
      rcases hcell with hz | ⟨bk, o, ha, _, hcell⟩
      · rw [hz] at h0; simp at h0
      · rw [h1, ha] at hv
        injection hv with q1 q2 q3
        injection q1 with q1
        injection q1 with q1 q4 q5
        subst q1 q4
        obtain ⟨e, he⟩ : ∃ e, E[j]? = some e := ⟨_, List.getElem?_eq_getElem hj⟩
        have := hcell j e he
        rw [Nat.zero_add] at this
        have e2 : E.getD j default = e := by simp [List.getD, he]
        show w.cell? _ = some (.int .i64 (E.getD j default).t) ∧ w.cell? _ = some (.int .i64 (E.getD j default).k) ∧ w.cell? _ = some (.bool (E.getD j default).d)
        rw [e2]
        exact this
theorem evsO_no {xs : List Int} {iv : Int} (h : chordB xs iv = false) (w : World) (base : Nat) (a : Option Addr) (cap : Nat) : EvsO base w (chordL xs iv) (chordB xs iv) (.returned (.tuple #[.slice a 0 cap, .bool false])) := by
  have hL : chordL xs iv = [] := by unfold chordL; rw [h]; rfl
  unfold EvsO
  rw [h, hL]; exact ⟨_, rfl, .inl ⟨rfl, a, cap, rfl⟩⟩
theorem evsO_yes {xs : List Int} {iv : Int} (h : chordB xs iv = true) {w : World} {base : Nat} {u : Value} (hu : OwnE w base u (Pl.chordsFrom iv 0 (toNats xs))) : EvsO base w (chordL xs iv) (chordB xs iv) (.returned (.tuple #[u, .bool true])) := by
  have hL : chordL xs iv = Pl.chordsFrom iv 0 (toNats xs) := by unfold chordL; rw [h]; rfl
  unfold EvsO
  rw [h, hL]; exact ⟨_, rfl, ownE_evs hu⟩

set_option maxHeartbeats 4000000 in
theorem chordEvents_any (v : Value) (xs : List Int) (iv : Int) (w : World) (h : IntsAt w v xs) (hn : xs.length ≤ 2097152) :
    Calls Try.prog 13 #[v, .int .i64 iv] w fun e w' => EvsO w.heap.size w' (chordL xs iv) (chordB xs iv) e ∧ Below w.heap.size w w' := by
  obtain ⟨a, cap, rfl, hcap, hx⟩ := h
  obtain ⟨N, hN⟩ : ∃ N, N = xs.length := ⟨_, rfl⟩
  rw [← hN] at hn hcap ⊢
  have HN := Lib.hid hN
  by_cases hiv : 0 ≤ iv ∧ iv ≤ 1000
  · have HV : Hid (∀ w1 : World, Below w.heap.size w w1 → ∀ (j : Nat) x, xs[j]? = some x → ∃ bk o, a = some ⟨bk, o, none⟩ ∧ w1.cell? ⟨bk, o + j, none⟩ = some (.int .i64 x)) := by
      intro w1 hb j x hxj
      rcases hx with h | ⟨bk, o, ha, hk, h⟩
      · rw [h] at hxj; simp at hxj
      · exact ⟨bk, o, ha, (hb.cell (p := ⟨bk, o + j, none⟩) hk).trans (h j x hxj)⟩
    obtain ⟨hiv0, hiv1⟩ := hiv
    have CN := Lib.hid (fun s h w => KeysOf_no s h w)
    have CY := Lib.hid (fun n h0 h1 w => KeysOf_yes n h0 h1 w)
    clear hx hN
    go_enter Try.func13, Try.ntmps13
    go_wp2_with fail
    go_loopw [6, 19] (fun o i wr => ∃ (k : Nat) (E : List Pl.Ev), i = .int .i64 k ∧ k ≤ N ∧ 2 * k ≤ E.length ∧ E.length ≤ 200 ∧ Hid (E = Pl.chordsFrom iv 0 (toNats (xs.take k))) ∧ Hid (∀ x ∈ xs.take k, okS x = true) ∧
      Hid (OwnE wr w.heap.size o E) ∧ Below w.heap.size w wr) (fun _ i _ => N - (intOf i).toNat)
    case atStart => exact ⟨0, [], rfl, Nat.zero_le _, Nat.le_refl _, Nat.zero_le _, Lib.hid rfl, fun x hx => by simp at hx, Lib.hid (World.ownsRow_nil _ _ _ _), Below.refl _ _⟩
    case round =>
      obtain ⟨k, E, rfl, hk, hkE, hE, HE, HOk, HO, hbel⟩ := hrel
      by_cases hlt : k < N
      · obtain ⟨x, hx⟩ : ∃ x, xs[k]? = some x := ⟨_, List.getElem?_eq_getElem (by rw [← HN.out]; exact hlt)⟩
        obtain ⟨bk, o, rfl, hck⟩ := HV.out wr hbel k x hx
        obtain ⟨⟨eg, ecap, hov⟩, _⟩ : (∃ eg ecap, u6 = .slice eg E.length ecap) ∧ True := by
          refine ⟨?_, trivial⟩
          rcases HO.out.2 with ⟨h1, h2⟩ | ⟨g, cp, cur, h1, _⟩
          · exact ⟨none, 0, by rw [h1, h2]⟩
          · exact ⟨_, cp, h1⟩
        rw [hov] at HO ⊢
        clear hov
        cases hok : okS x
        · have HB : Hid (chordB xs iv = false) := chordB_no_ok hx hok
          have C1 := Lib.hid (fun w => CN.out x (fun h => by rw [okS_iff.2 h] at hok; cases hok) w)
          clear hx HE HOk hok
          go_wp2_with fail
          refine (C1.out _).mono ?_
          rintro r w1 ⟨rfl, rfl⟩
          go_wp2
          go_ret2
          exact ⟨evsO_no HB.out _ _ _ _, hbel⟩
        · have hxv := okS_iff.1 hok
          obtain ⟨n, rfl⟩ := Int.eq_ofNat_of_zero_le (show 0 ≤ x by omega)
          have hn0 : 1 ≤ n := by omega
          have hn1 : n < 8388608 := by omega
          have hET := chord_take xs iv k _ hx
          rw [← HE.out, Int.toNat_natCast] at hET
          have hcl := Pl.chord_len iv k n
          have hcard := Pl.card_le n
          have hc1 : 1 ≤ Pl.card n := by
            rcases Nat.eq_zero_or_pos (Pl.card n) with h | h
            · exfalso
              have := (Pl.keysL_zero_iff n hn1).1 (List.length_eq_zero_iff.1 h)
              omega
            · exact h
          have HOk2 : Hid (∀ x ∈ xs.take (k + 1), okS x = true) := by
            intro y hy
            rw [List.take_add_one, hx, List.mem_append] at hy
            rcases hy with hy | hy
            · exact HOk.out y hy
            · simp at hy; subst hy; exact hok
          have CK := Lib.hid (fun w => CY.out n hn0 hn1 w)
          have hkl := keysI_len n
          have hmv := moves_chord iv k n
          have CM := Lib.hid (fun ev kv E t d w1 hw hE hK hA hl => appendMoves_any w ev kv E n t d w1 hw hE hK hA hl)
          have hm1 := moveEv_all (2 * (k : Int) * iv) true n
          obtain ⟨K, hK⟩ : ∃ K, K = Pl.card n := ⟨_, rfl⟩
          rw [← hK] at hcl hcard hc1 hkl hmv CM hm1
          have HKL := Lib.hid hkl
          have HET := Lib.hid hET
          have HMV := Lib.hid hmv
          have HM1 := Lib.hid hm1
          have tb1 := time_bound k 0 iv (by omega) (by omega) hiv0 hiv1
          have tb2 := time_bound k 1 iv (by omega) (by omega) hiv0 hiv1
          simp only [Int.natCast_zero, Int.add_zero, Int.natCast_one] at tb1 tb2
          clear hK hkl hET hx hok hxv HE HOk hmv hm1
          go_wp2_with fail
          refine (CK.out _).mono ?_
          rintro r w1 ⟨⟨v1, rfl, hv1⟩, hb1⟩
          obtain ⟨a1, cap1, rfl, hcap1, _⟩ := rowInts_at hv1
          have hb1' := hbel.trans (hb1.mono hbel.size)
          have HO1 := Lib.hid (row_below HO.out hb1)
          have HA1 : Hid (Apart (.slice eg E.length ecap) (.slice a1 (keysI n).length cap1)) := fun g hg he => by
            have h1 := row_lt HO.out hg
            have h2 := row_ge hv1 he
            omega
          have HR1 : Hid (RowI w1 w.heap.size (.slice a1 (keysI n).length cap1) (keysI n)) := RowI.mono hv1 hbel.size
          rw [HKL.out] at hcap1 HA1 HR1 ⊢
          clear hv1 HO hb1
          by_cases hbig : 200 < E.length + 2 * K
          · have HB : Hid (chordB xs iv = false) := chordB_no_len (k := k + 1) (by rw [HET.out, List.length_append, hcl]; exact hbig)
            have hbig' : (200 : Int) < (E.length : Int) + 2 * (K : Int) := by omega
            go_wp2
            go_ret2
            exact ⟨evsO_no HB.out _ _ _ _, hb1'⟩
          · have hbig' : ¬ (200 : Int) < (E.length : Int) + 2 * (K : Int) := by omega
            go_wp2_with fail
            refine (CM.out _ _ E _ _ w1 hb1' HO1.out HR1.out HA1.out (by omega)).mono ?_
            rintro r w2 ⟨u, rfl, hO2, hR2, hA2, hb2⟩
            have HO2 := Lib.hid hO2
            have HR2 := Lib.hid hR2
            have HA2 := Lib.hid hA2
            have hl2 : (E ++ moveEv (2 * (k : Int) * iv) true n K).length ≤ 250 := by rw [List.length_append, HM1.out]; omega
            clear hO2 hR2 hA2 HO1 HR1 HA1
            go_wp2_with fail
            refine (CM.out _ _ _ _ _ w2 hb2 HO2.out HR2.out HA2.out hl2).mono ?_
            rintro r w3 ⟨u', rfl, hO3, _, _, hb3⟩
            have HE3 : Hid (E ++ moveEv (2 * (k : Int) * iv) true n K ++ moveEv ((2 * (k : Int) + 1) * iv) false n K = Pl.chordsFrom iv 0 (toNats (xs.take (k + 1)))) := by
              show _ = _
              rw [List.append_assoc, HMV.out, HET.out]
            have HO3 := Lib.hid hO3
            have hl3 : (E ++ moveEv (2 * (k : Int) * iv) true n K ++ moveEv ((2 * (k : Int) + 1) * iv) false n K).length = E.length + 2 * K := by rw [HE3.out, HET.out, List.length_append, hcl]
            clear hO3 HO2 HR2 HA2
            go_wp2
            go_roundw
            case rel => exact ⟨k + 1, _, by go_num, by omega, by omega, by omega, HE3, HOk2, HO3, hb3⟩
            case measure => simp [intOf]; omega
      · obtain rfl : k = N := by omega
        have etake : xs.take k = xs := List.take_of_length_le (by rw [← HN.out]; exact Nat.le_refl _)
        have h1 := HE.out
        have h2 := HOk.out
        rw [etake] at h1 h2
        have hB := chordB_yes (xs := xs) ⟨hiv0, hiv1⟩ h2 (by rw [← h1]; exact hE)
        have hEv := HO.out
        rw [h1] at hEv
        have HX := Lib.hid (evsO_yes hB hEv)
        clear HE HOk HO etake h1 h2 hB hEv
        go_wp2
        go_ret2
        exact ⟨HX.out, hbel⟩
  · have HB := Lib.hid (chordB_no_iv (xs := xs) hiv)
    clear hx hN
    by_cases hneg : iv < 0
    · go_enter Try.func13, Try.ntmps13
      go_wp2_with fail
      go_ret2
      exact ⟨evsO_no HB.out _ _ _ _, Below.refl _ _⟩
    · have hbig : 1000 < iv := by omega
      clear hiv
      go_enter Try.func13, Try.ntmps13
      go_wp2_with fail
      go_ret2
      exact ⟨evsO_no HB.out _ _ _ _, Below.refl _ _⟩
/-- WHAT THE LAWS WANT. -/
theorem impl3 : Impl3 := ⟨implValid_any, lastUpStrokes_any, firstUpStrokes_any, strokeTimes_any, heldKeys_any, chordEvents_any⟩
end Go.Proofs.Ytindcafdphfppaa
