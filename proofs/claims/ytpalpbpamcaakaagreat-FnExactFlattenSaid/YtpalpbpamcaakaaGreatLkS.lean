/-
  LOOKING AN OUTLINE UP IN A STACK: the program's and the specification's LookupStack.
-/
import Derived.Test.YtpalpbpamcaakaaGreatVis
namespace Go.Proofs.YtpalpbpamcaakaaGreat
set_option maxRecDepth 100000
open Go.RowKit

/-- What a look-up finds, the first layer being number i: the text and the layer. -/
def lkF (ys : List Int) (i : Nat) : List Lay → Option (ByteArray × Nat)
  | [] => none
  | l :: r => if l.2 = true then (match Pl.look ys l.1 with | some t => some (t, i) | none => lkF ys (i + 1) r) else lkF ys (i + 1) r
theorem find_map {α β : Type} (f : α → β) (p : β → Bool) (l : List α) : (l.map f).find? p = (l.find? fun a => p (f a)).map f := by
  induction l with
  | nil => rfl
  | cons x r ih =>
    rw [List.map_cons, List.find?_cons, List.find?_cons, ih]
    cases p (f x) <;> rfl
theorem sq_find (ys : List Int) : ∀ (ls : List Lay) (i : Nat), ((sqF i ls).find? fun p => decide (p.1.1 = ys)).map (fun p => (p.1.2, p.2)) = lkF ys i ls
  | [], _ => rfl
  | l :: r, i => by
    show (((if l.2 = true then l.1.map (fun e => (e, i)) else []) ++ sqF (i + 1) r).find? _).map _ = _
    unfold lkF
    cases hb : l.2
    · rw [if_neg (by decide), if_neg (by decide), List.nil_append]
      exact sq_find ys r (i + 1)
    · rw [if_pos rfl, if_pos rfl, List.find?_append, find_map]
      unfold Pl.look
      have hp : (fun e : Ent => decide (e.1 = ys)) = Pl.isO ys := rfl
      show (Option.or ((l.1.find? (Pl.isO ys)).map fun e => (e, i)) _).map _ = _
      cases hf : l.1.find? (Pl.isO ys) with
      | some e => rfl
      | none =>
        show (Option.or none _).map _ = _
        rw [Option.none_or]
        exact sq_find ys r (i + 1)
theorem key_eq {xs ys : List Int} (hx : okO xs = true) : (keyL xs = keyL ys) ↔ xs = ys := by
  refine ⟨fun h => ?_, fun h => by rw [h]⟩
  cases hy : okO ys
  · rw [keyL_no hy] at h
    have := key_zero hx
    rw [h, Pl.cmp_self] at this
    omega
  · exact key_inj hx hy h
theorem sqF_ok : ∀ (ls : List Lay) (i : Nat), (∀ l ∈ ls, okD l.1 = true) → ∀ p ∈ sqF i ls, okO p.1.1 = true
  | [], _, _, p, hp => by simp [sqF] at hp
  | l :: r, i, h, p, hp => by
    have hp' : p ∈ (if l.2 = true then l.1.map (fun e => (e, i)) else []) ++ sqF (i + 1) r := hp
    rcases List.mem_append.1 hp' with h1 | h1
    · split at h1
      · obtain ⟨e, he, rfl⟩ := List.mem_map.1 h1
        exact (okE_O ((okD_parts (h l (List.mem_cons_self ..))).2.1 e he)).1
      · simp at h1
    · exact sqF_ok r (i + 1) (fun x hx => h x (List.mem_cons_of_mem _ hx)) p h1
/-- What the map of the visible entries holds at an outline's key. -/
theorem fst_sq {w : World} {ls : List Lay} (hok : okK ls = true) {vs : List (Tz w)} (hv : ents vs = sq ls) (ys : List Int) : (fstK (keyL ys) (vals vs)).map (fun x => (x.2.1.2, x.2.2)) = lkF ys 0 ls := by
  have he : ents vs = (vals vs).map (·.2) := by unfold ents vals; rw [List.map_map]; rfl
  rw [← sq_find ys ls 0]
  show _ = ((sq ls).find? _).map _
  rw [← hv, he, find_map, Option.map_map]
  have hall : ∀ x ∈ vals vs, okO x.2.1.1 = true := by
    intro x hx
    refine sqF_ok ls 0 (okK_parts hok).2 x.2 ?_
    show x.2 ∈ sq ls
    rw [← hv, he]
    exact List.mem_map.2 ⟨x, hx, rfl⟩
  have hfind : fstK (keyL ys) (vals vs) = (vals vs).find? fun a => decide (a.2.1.1 = ys) := by
    unfold fstK
    generalize vals vs = l at hall
    induction l with
    | nil => rfl
    | cons x r ih =>
      rw [List.find?_cons, List.find?_cons, ih (fun y hy => hall y (List.mem_cons_of_mem _ hy))]
      have := key_eq (ys := ys) (hall x (List.mem_cons_self ..))
      by_cases h : x.2.1.1 = ys
      · rw [decide_eq_true (this.2 h), decide_eq_true h]
      · rw [decide_eq_false (fun q => h (this.1 q)), decide_eq_false h]
  rw [hfind]; rfl
theorem lkF_next {ys : List Int} {ls : List Lay} {k : Nat} {l : Lay} (h : ls[k]? = some l) : lkF ys k (ls.drop k) = if l.2 = true then (match Pl.look ys l.1 with | some t => some (t, k) | none => lkF ys (k + 1) (ls.drop (k + 1))) else lkF ys (k + 1) (ls.drop (k + 1)) := by
  obtain ⟨hk, e⟩ := List.getElem?_eq_some_iff.1 h
  rw [List.drop_eq_getElem_cons hk, e]; rfl
theorem lkF_some {ys : List Int} {t : ByteArray} {i : Nat} : ∀ {ls : List Lay} {i0 : Nat}, lkF ys i0 ls = some (t, i) → ∃ j l, i = i0 + j ∧ ls[j]? = some l ∧ Pl.look ys l.1 = some t
  | [], _, h => by cases h
  | l :: r, i0, h => by
    unfold lkF at h
    have key : lkF ys (i0 + 1) r = some (t, i) → ∃ j l', i = i0 + j ∧ (l :: r)[j]? = some l' ∧ Pl.look ys l'.1 = some t := by
      intro h
      obtain ⟨j, l', h1, h2, h3⟩ := lkF_some h
      exact ⟨j + 1, l', by omega, by simpa using h2, h3⟩
    split at h
    · split at h
      · rename_i t' ht
        injection h with h
        injection h with h1 h2
        subst h1 h2
        exact ⟨0, l, rfl, rfl, ht⟩
      · exact key h
    · exact key h
/-- What LookupStack answers. -/
def lkK (ys : List Int) (ls : List Lay) : Option (ByteArray × Nat) := if okK ls = true then lkF ys 0 ls else none
def lkKE (x : Option (ByteArray × Nat)) : Ending := .returned (.tuple #[.string ((x.map (·.1)).getD ⟨#[]⟩), .int .i64 (((x.map (·.2)).getD 0 : Nat) : Int), .bool x.isSome])
theorem Vis_any (v : Value) (ls : List Lay) (w : World) (h : LaysAt w v ls) (hx : ∀ l ∈ ls, layOk l) (hok : okK ls = true) :
    Calls Tryz.prog 60 #[dV v] w fun e w' => (∃ (b : Nat) (ys : List (Tz w)), e = .returned (.tuple #[.map (some b), .bool true]) ∧ w.heap.size ≤ b ∧ ents ys = sq ls ∧ MapZ w' b ys.length (vals ys)) ∧ Below w.heap.size w w' :=
  (callsIn_wide (n := 9)).1 (Vis_in 9 (by omega) v ls w h hx hok)
theorem VisNo_any (v : Value) (ls : List Lay) (w : World) (h : LaysAt w v ls) (hn : ls.length ≤ 2097152) (hx : ∀ l ∈ ls, layOk l) (hok : okK ls = false) :
    Calls Tryz.prog 60 #[dV v] w fun e w' => e = .returned (.tuple #[.map none, .bool false]) ∧ Below w.heap.size w w' := by
  have cv := fun w' hb => ValidK_any v ls w' (h.below (w' := w') hb) hn hx
  rw [hok] at cv
  unfold dV at cv
  obtain ⟨a, cap, rfl, hcap, _⟩ := h.cells
  have CV := Lib.hid cv
  clear cv h hx hok
  unfold dV
  go_enter Tryz.func60, Tryz.ntmps60
  go_wp2_with fail
  refine (CV.out _ (below_al _ _)).mono ?_
  rintro r w1 ⟨rfl, hb⟩
  have HB := Lib.hid (below_box hb)
  clear hb
  go_wp2
  go_ret2
  exact ⟨rfl, HB.out⟩
set_option maxHeartbeats 2000000 in
theorem LookupK_any (v : Value) (ls : List Lay) (u : Value) (ys : List Int) (w : World) (h : LaysAt w v ls) (hu : IntsAt w u ys) (hn : ls.length ≤ 2097152) (hx : ∀ l ∈ ls, layOk l) (hy : ys.length ≤ 2097152) :
    Calls Tryz.prog 14 #[dV v, u] w fun r w' => r = lkKE (lkK ys ls) ∧ Below w.heap.size w w' := by
  have hL := h
  have hU := hu
  obtain ⟨a, cap, rfl, hcap, _⟩ := h.cells
  obtain ⟨ua, ucap, rfl, _, _⟩ := hu.cells
  unfold lkK
  cases hok : okK ls
  · rw [if_neg (by decide)]
    have C := Lib.hid (fun w' hb => VisNo_any _ ls w' (hL.below (w' := w') hb) hn hx hok)
    clear h hu hL hU hx hok
    unfold dV at C ⊢
    go_enter Tryz.func14, Tryz.ntmps14
    go_wp2_with fail
    refine (C.out _ (below_al _ _)).mono ?_
    rintro r w1 ⟨rfl, hb⟩
    have HB := Lib.hid (below_box hb)
    clear hb
    go_wp2
    refine bodyPost_ret (v := .tuple #[_, _, _]) (by simp [results, Tryz.f14, go_sem]; exact ⟨rfl, rfl, rfl⟩) rfl ?_
    exact ⟨rfl, HB.out⟩
  · rw [if_pos rfl]
    have C := Lib.hid (fun w' hb => Vis_any _ ls w' (hL.below (w' := w') hb) hx hok)
    have CK := Lib.hid (fun w' hb => keyOf_any _ ys w' (hU.below (w' := w') hb) hy)
    have hkey := kl_at (kyOk_key ys)
    have HMl := Lib.hid (fun vs => mapZ_look (keyL ys) (kyOk_key ys) vs)
    have HFs : Hid (∀ (w0 : World) (vs : List (Tz w0)), ents vs = sq ls → (fstK (keyL ys) (vals vs)).map (fun x => (x.2.1.2, x.2.2)) = lkF ys 0 ls) := fun w0 vs hv => fst_sq hok hv ys
    obtain ⟨x, hx'⟩ : ∃ x, x = lkF ys 0 ls := ⟨_, rfl⟩
    rw [← hx'] at HFs ⊢
    obtain ⟨K, hK⟩ : ∃ K, K = keyL ys := ⟨_, rfl⟩
    rw [← hK] at CK hkey HMl HFs
    have HKy := Lib.hid hkey
    clear h hu hL hU hx hok hx' hK hkey
    unfold dV at C ⊢
    go_enter Tryz.func14, Tryz.ntmps14
    go_wp2_with fail
    refine (C.out _ (below_al _ _)).mono ?_
    rintro r w1 ⟨⟨b, vs, rfl, hb0, hvs, hm⟩, hb⟩
    have HM := Lib.hid hm
    have HB := Lib.hid (below_box hb)
    obtain ⟨hl1, hl2⟩ := HMl.out (vals vs)
    have hfs := HFs.out _ vs hvs
    obtain ⟨z, hz⟩ : ∃ z, z = fstK K (vals vs) := ⟨_, rfl⟩
    rw [← hz] at hl1 hl2 hfs
    have hfi : ∀ y, z = some y → IntsAt (w.alloc (.cells #[.slice a ls.length cap] 26)) y.1 y.2.1.1 := by
      intro y hy
      rw [hz] at hy
      have := List.mem_of_find?_eq_some hy
      unfold vals at this
      obtain ⟨q, _, rfl⟩ := List.mem_map.1 this
      exact q.2.1
    have HL1 := Lib.hid hl1
    have HL2 := Lib.hid hl2
    have HFi := Lib.hid hfi
    clear hb hm hb0 C hvs hz hl1 hl2 hfi HMl HFs
    subst hfs
    go_wp2_with fail
    refine (CK.out w1 HB.out).mono ?_
    rintro r w2 ⟨rfl, hb⟩
    have HM2 : Hid (w2.ownsMap Tryz.prog 104 RZ b vs.length (mapZ (vals vs))) := MapZ.below HM.out hb HM.out.lt
    have HB2 := Lib.hid (below_step HB.out hb)
    clear hb HM HB CK
    cases z with
    | none =>
      have hl1 := HL1.out
      have hl2 := HL2.out (.held (.agg #[.slice none 0 0, .string ByteArray.empty, .int .i64 0]))
      simp only [Option.isSome_none] at hl1 hl2
      have HL1' := Lib.hid hl1
      have HL2' := Lib.hid hl2
      clear hl1 hl2 HL1 HL2 HFi
      go_wp2_with (at_lookup; refine wpList_lookup_own_ok _ rfl _ _ 97 rfl 104 101 lawK Tryz.underlying97 RZ (zeroZ _) (.held (.agg #[.slice none 0 0, .string ByteArray.empty, .int .i64 0])) [] rfl b vs.length (mapZ (vals vs)) rfl HM2.out _ (KL K) rfl HKy.out ?_; intro v ps hv; rw [HL2'.out] at hv; obtain rfl := RZ_inv hv; clear hv; rw [HL1'.out])
      go_quiet (fail)
      go_wp2
      refine bodyPost_ret (v := .tuple #[_, _, _]) (by simp [results, Tryz.f14, go_sem]; exact ⟨rfl, rfl, rfl⟩) rfl ?_
      exact ⟨rfl, below_drewN (HB2.out.alloc HB2.out.size _) nq⟩
    | some y =>
      have hy := HFi.out y rfl
      obtain ⟨y1, ⟨y2, y3⟩, y4⟩ := y
      have hf := hy.cells
      simp only at hf
      obtain ⟨ya, yc, rfl, _, _⟩ := hf
      have hl1 := HL1.out
      have hl2 := HL2.out (.held (.agg #[.slice none 0 0, .string ByteArray.empty, .int .i64 0]))
      simp only [Option.isSome_some] at hl1 hl2
      unfold zV at hl2
      simp only at hl2
      have HL1' := Lib.hid hl1
      have HL2' := Lib.hid hl2
      clear hl1 hl2 HL1 HL2 HFi hy
      go_wp2_with (at_lookup; refine wpList_lookup_own_ok _ rfl _ _ 97 rfl 104 101 lawK Tryz.underlying97 RZ (zeroZ _) (.held (.agg #[.slice none 0 0, .string ByteArray.empty, .int .i64 0])) [] rfl b vs.length (mapZ (vals vs)) rfl HM2.out _ (KL K) rfl HKy.out ?_; intro v ps hv; rw [HL2'.out] at hv; obtain rfl := RZ_inv hv; clear hv; rw [HL1'.out])
      go_quiet (fail)
      go_wp2
      refine bodyPost_ret (v := .tuple #[_, _, _]) (by simp [results, Tryz.f14, go_sem]; exact ⟨rfl, rfl, rfl⟩) rfl ?_
      exact ⟨rfl, below_drewN (HB2.out.alloc HB2.out.size _) nq⟩
/-- The layer that was found, or -1. -/
def lkI : Option (ByteArray × Nat) → Int
  | some p => (p.2 : Int)
  | none => -1
set_option maxHeartbeats 2000000 in
theorem l8Find_any (v : Value) (ls : List Lay) (u : Value) (ys : List Int) (w : World) (h : LaysAt w v ls) (hu : IntsAt w u ys) (hn : ls.length ≤ 2097152) (hx : ∀ l ∈ ls, layOk l) (hy : ys.length ≤ 2097152) :
    Calls Tryz.prog 63 #[dV v, u] w fun r w' => r = .returned (.int .i64 (lkI (lkF ys 0 ls))) ∧ Below w.heap.size w w' := by
  have HU := Lib.hid hu
  obtain ⟨a, cap, rfl, hcap, hC⟩ := h.cells
  obtain ⟨ua, ucap, rfl, _, _⟩ := hu.cells
  have HX := Lib.hid (fun k l (h : ls[k]? = some l) => hx l (List.mem_of_getElem? h))
  have ca := fun v es w h hu hn hx => l6At_any v es (.slice ua ys.length ucap) ys w h hu hn hx hy
  unfold dV at ca
  have CA := Lib.hid ca
  obtain ⟨n, hnn⟩ : ∃ n, n = ls.length := ⟨_, rfl⟩
  rw [← hnn] at hn hcap ⊢
  have HN := Lib.hid hnn
  have HC := Lib.hid hC
  obtain ⟨R, hR⟩ : ∃ R, R = lkF ys 0 ls := ⟨_, rfl⟩
  rw [← hR]
  have HR0 : Hid (R = lkF ys 0 (ls.drop 0)) := by show R = _; rw [hR]; rfl
  obtain ⟨yl, hyl⟩ : ∃ yl, yl = ys.length := ⟨_, rfl⟩
  rw [← hyl] at HU CA ⊢
  clear h hu hx hnn hC hR ca hyl hy
  unfold dV
  go_enter Tryz.func63, Tryz.ntmps63
  go_wp2_with fail
  go_loopw [5] (fun i wr => ∃ k : Nat, i = .int .i64 k ∧ k ≤ n ∧ Hid (R = lkF ys k (ls.drop k)) ∧ Below (w.alloc (.cells #[.slice a n cap] 26)).heap.size (w.alloc (.cells #[.slice a n cap] 26)) wr) (fun i _ => n - (intOf i).toNat)
  case atStart => exact ⟨0, rfl, Nat.zero_le _, HR0, Below.refl _ _⟩
  case round =>
    obtain ⟨k, rfl, hk, HR, hbel⟩ := hrel
    have hbox := box1 hbel
    have HB := Lib.hid (below_box hbel)
    have HBel := Lib.hid hbel
    by_cases hlt : k < n
    · obtain ⟨l, hl⟩ : ∃ l, ls[k]? = some l := ⟨_, List.getElem?_eq_getElem (by rw [← HN.out]; exact hlt)⟩
      obtain ⟨bk, o, x, rfl, hbk, g0, g1, gi⟩ := HC.out wr HB.out k l hl
      obtain ⟨hxl1, hxl2⟩ := HX.out k l hl
      have hnx := lkF_next (ys := ys) hl
      rw [← HR.out] at hnx
      obtain ⟨es, b⟩ := l
      simp only at g0 g1 gi hxl1 hxl2 hnx
      have cat := fun w' hb => CA.out x es w' (gi.below (w' := w') hb) ((HU.out.below HB.out).below hb) hxl1 hxl2
      obtain ⟨xa, xc, rfl, _, _⟩ := gi.cells
      obtain ⟨xl, hxx⟩ : ∃ xl, xl = es.length := ⟨_, rfl⟩
      rw [← hxx] at g0 cat
      obtain ⟨q, hq⟩ : ∃ q, q = idxI ys es := ⟨_, rfl⟩
      rw [← hq] at cat
      have CAt := Lib.hid cat
      cases b
      · rw [if_neg (by decide)] at hnx
        have HNx := Lib.hid hnx
        clear hnx cat hl gi hq hxx hxl1 hxl2 HR hbel CAt
        have kb := cell_regrown hbox
        have k0 := cell_regrown g0
        have k1 := cell_regrown g1
        go_wp2_with fail
        first
          | (refine wp_region_quiet_below (by kernel_rfl) (by kernel_rfl) ?_
             repeat (go_big_quiet_step (fail))
             refine wpQuiet_nil ?_
             rintro _ ⟨⟨dq, osq⟩, rfl⟩
             have HB1 : Hid (Below wr.heap.size wr (Go.Sort.grow (redrawn wr dq) osq)) := below_regrown wr dq osq
             go_wp2
             go_roundw
             case rel => exact ⟨k + 1, by go_num, by omega, HNx, HBel.out.trans (HB1.out.mono HBel.out.size)⟩
             case measure => simp [intOf]; omega)
          | (go_roundw
             case rel => exact ⟨k + 1, by go_num, by omega, HNx, HBel.out⟩
             case measure => simp [intOf]; omega)
      · rw [if_pos rfl] at hnx
        have CQ := CAt
        clear CAt
        have HKs := Lib.hid hl
        cases hlo : Pl.look ys es with
        | some t =>
          rw [hlo] at hnx
          simp only at hnx
          have hq0 : 0 ≤ q := by
            rw [hq]
            unfold idxI
            cases hi : Pl.idx ys es with
            | none => rw [Pl.look_none_idx hi] at hlo; cases hlo
            | some j => simp only; omega
          have HF : Hid (lkI R = (k : Int)) := by show lkI R = _; rw [hnx]; rfl
          clear hnx cat hl gi hq hxx hxl1 hxl2 HR hbel HKs hlo HR0
          go_wp2_with fail
          refine (CQ.out _ (Below.refl _ _)).mono ?_
          rintro r w1 ⟨rfl, hb1⟩
          have HB1 := Lib.hid hb1
          clear hb1
          go_wp2
          go_ret
          exact ⟨ret_int HF.out.symm, below_step HB.out HB1.out⟩
        | none =>
          rw [hlo] at hnx
          simp only at hnx
          have hq0 : ¬ 0 ≤ q := by
            rw [hq]
            unfold idxI
            cases hi : Pl.idx ys es with
            | none => simp only; omega
            | some j =>
              obtain ⟨y, hy1, hy2⟩ := Pl.idx_some hi
              rw [Pl.look_idx hi hy1] at hlo; cases hlo
          have HNx := Lib.hid hnx
          clear hnx cat hl gi hq hxx hxl1 hxl2 HR hbel HKs hlo HR0
          go_wp2_with fail
          refine (CQ.out _ (Below.refl _ _)).mono ?_
          rintro r w1 ⟨rfl, hb1⟩
          have HB1 := Lib.hid hb1
          clear hb1
          go_wp2
          go_roundw
          case rel => exact ⟨k + 1, by go_num, by omega, HNx, HBel.out.trans (HB1.out.mono HBel.out.size)⟩
          case measure => simp [intOf]; omega
    · obtain rfl : k = n := by omega
      have HF : Hid (R = none) := by
        show R = none
        rw [HR.out, List.drop_eq_nil_of_le (by rw [← HN.out]; exact Nat.le_refl _)]; rfl
      have HF2 : Hid (lkI R = -1) := by show lkI R = _; rw [HF.out]; rfl
      clear HR HF HR0
      go_wp2
      go_ret
      exact ⟨ret_int HF2.out.symm, HB.out⟩
theorem lkKE_none : lkKE none = .returned (.tuple #[.string ⟨#[]⟩, .int .i64 0, .bool false]) := rfl
set_option maxHeartbeats 2000000 in
theorem specLookupK_any (v : Value) (ls : List Lay) (u : Value) (ys : List Int) (w : World) (h : LaysAt w v ls) (hu : IntsAt w u ys) (hn : ls.length ≤ 2097152) (hx : ∀ l ∈ ls, layOk l) (hy : ys.length ≤ 2097152) :
    Calls Tryz.prog 15 #[dV v, u] w fun r w' => r = lkKE (lkK ys ls) ∧ Below w.heap.size w w' := by
  have cv := fun w' hb => specIsValidStack_any v ls w' (h.below (w' := w') hb) hn hx
  have cf := fun w' hb => l8Find_any v ls u ys w' (h.below (w' := w') hb) (hu.below hb) hn hx hy
  unfold dV at cv cf
  have HU := Lib.hid hu
  obtain ⟨a, cap, rfl, hcap, hC⟩ := h.cells
  obtain ⟨ua, ucap, rfl, _, _⟩ := hu.cells
  unfold lkK
  cases hok : okK ls
  · rw [hok] at cv
    rw [if_neg (by decide), lkKE_none]
    have CV := Lib.hid cv
    clear cv cf h hu hx hok hC HU
    unfold dV
    go_enter Tryz.func15, Tryz.ntmps15
    go_wp2_with fail
    refine (CV.out _ (below_al _ _)).mono ?_
    rintro r w1 ⟨rfl, hb⟩
    have HB := Lib.hid (below_box hb)
    clear hb
    go_wp2
    refine bodyPost_ret (v := .tuple #[_, _, _]) (by simp [results, Tryz.f15, go_sem]; exact ⟨rfl, rfl, rfl⟩) rfl ?_
    exact ⟨rfl, HB.out⟩
  · rw [hok] at cv
    rw [if_pos rfl]
    have h4 := (okK_parts hok).1
    obtain ⟨R, hR⟩ : ∃ R, R = lkF ys 0 ls := ⟨_, rfl⟩
    rw [← hR] at cf ⊢
    have CV := Lib.hid cv
    have HC := Lib.hid hC
    have HX := Lib.hid (fun k l (h : ls[k]? = some l) => hx l (List.mem_of_getElem? h))
    have HSm := Lib.hid (fun t i (h : R = some (t, i)) => lkF_some (hR ▸ h : lkF ys 0 ls = some (t, i)))
    have cl := fun v es w h hu hn hx => l6Find_any v es (.slice ua ys.length ucap) ys w h hu hn hx hy
    unfold dV at cl
    have CL := Lib.hid cl
    obtain ⟨n, hnn⟩ : ∃ n, n = ls.length := ⟨_, rfl⟩
    have HN := Lib.hid hnn
    obtain ⟨yl, hyl⟩ : ∃ yl, yl = ys.length := ⟨_, rfl⟩
    rw [← hnn] at CV cf hcap h4 ⊢
    rw [← hyl] at cf HU CL ⊢
    cases R with
    | none =>
      simp only [lkI] at cf
      have CF := Lib.hid cf
      clear cv cf h hu hx hok hC hR hnn hyl cl HSm hy hn
      rw [lkKE_none]
      unfold dV
      go_enter Tryz.func15, Tryz.ntmps15
      go_wp2_with fail
      refine (CV.out _ (below_al _ _)).mono ?_
      rintro r w1 ⟨rfl, hb⟩
      have HB := Lib.hid (below_box hb)
      have hbox := box1 hb
      clear hb
      go_wp2_with fail
      refine (CF.out w1 HB.out).mono ?_
      rintro r w2 ⟨rfl, hb⟩
      have HB2 := Lib.hid (below_step HB.out hb)
      clear hb
      go_wp2
      refine bodyPost_ret (v := .tuple #[_, _, _]) (by simp [results, Tryz.f15, go_sem]; exact ⟨rfl, rfl, rfl⟩) rfl ?_
      exact ⟨rfl, HB2.out⟩
    | some p =>
      obtain ⟨t, i⟩ := p
      simp only [lkI] at cf
      obtain ⟨j, l, hij, hlj, hlk⟩ := HSm.out t i rfl
      rw [Nat.zero_add] at hij
      subst hij
      have hj : i < n := by rw [hnn]; exact (List.getElem?_eq_some_iff.1 hlj).1
      have CF := Lib.hid cf
      obtain ⟨hx1, hx2⟩ := HX.out i l hlj
      have HLj := Lib.hid hlj
      have HLk := Lib.hid hlk
      clear cv cf h hu hx hok hC hR hnn hyl cl HSm hy hn hlj hlk
      unfold dV
      go_enter Tryz.func15, Tryz.ntmps15
      go_wp2_with fail
      refine (CV.out _ (below_al _ _)).mono ?_
      rintro r w1 ⟨rfl, hb⟩
      have HB := Lib.hid (below_box hb)
      have hbox := box1 hb
      have hlt1 := lt_of_cell hbox
      clear hb CV
      go_wp2_with fail
      refine (CF.out w1 HB.out).mono ?_
      rintro r w2 ⟨rfl, hb⟩
      have HB2 := Lib.hid (below_step HB.out hb)
      have hbox2 := (hb.cell (p := ⟨w.heap.size, 0, none⟩) hlt1).trans hbox
      obtain ⟨bk, o, x, rfl, hbk, g0, g1, gi⟩ := HC.out w2 HB2.out i l HLj.out
      have cl := CL.out x l.1 w2 gi (HU.out.below HB2.out) hx1 hx2
      rw [HLk.out] at cl
      obtain ⟨xa, xc, rfl, _, _⟩ := gi.cells
      obtain ⟨es, lb⟩ := l
      simp only at g0 cl
      obtain ⟨xl, hxx⟩ : ∃ xl, xl = es.length := ⟨_, rfl⟩
      rw [← hxx] at g0 cl
      have CL2 := Lib.hid cl
      have hneg : ¬ ((i : Int) < 0) := by omega
      clear hb hbox CF HB gi cl hxx CL HC HX HLj HLk hx1 hx2
      go_wp2_with fail
      refine CL2.out.mono ?_
      rintro r w3 ⟨rfl, hb⟩
      have HB3 := Lib.hid (below_step HB2.out hb)
      clear hb
      unfold lkE
      go_wp2
      refine bodyPost_ret (v := .tuple #[_, _, _]) (by simp [results, Tryz.f15, go_sem]; exact ⟨rfl, rfl, rfl⟩) rfl ?_
      exact ⟨rfl, HB3.out⟩
end Go.Proofs.YtpalpbpamcaakaaGreat
