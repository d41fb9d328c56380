/-
  The program's Flatten: the map of the visible entries gone over, a dictionary made of its texts.
-/
import Derived.Test.YtpalpbpamcaakaaGreatLkS
import Derived.Test.YtpalpbpamcaakaaGreatFlat
import Derived.Test.YtpalpbpamcaakaaGreatInsD
namespace Go.Proofs.YtpalpbpamcaakaaGreat
set_option maxRecDepth 100000
open Go.RowKit

/-- Of entries that come in turn, those whose outlines are new. -/
def firsts (xs : List Vz) : List Ent := xs.foldl (fun a x => if (Pl.look x.2.1.1 a).isSome = true then a else Pl.put x.2.1 a) []
theorem firsts_snoc (xs : List Vz) (x : Vz) : firsts (xs ++ [x]) = if (Pl.look x.2.1.1 (firsts xs)).isSome = true then firsts xs else Pl.put x.2.1 (firsts xs) := by unfold firsts; rw [List.foldl_append]; rfl
theorem put_new (e : Ent) : ∀ {es : List Ent}, Pl.Inc es → Pl.look e.1 es = none → (Pl.put e es).length = es.length + 1
  | [], _, _ => rfl
  | x :: r, h, hn => by
    have hr := List.pairwise_cons.1 h
    rw [Pl.look_cons] at hn
    by_cases hxe : x.1 = e.1
    · rw [if_pos hxe] at hn; cases hn
    rw [if_neg hxe] at hn
    unfold Pl.put
    by_cases hx : Pl.cmp x.1 e.1 < 0
    · rw [if_pos hx, List.length_cons, put_new e hr.2 hn, List.length_cons]
    · rw [if_neg hx, List.length_cons]
      have hkeep : (x :: r).filter (fun y => decide (Pl.cmp y.1 e.1 ≠ 0)) = x :: r := List.filter_eq_self.2 fun y hy => by
        rw [decide_eq_true_eq]
        intro q
        have hq := (Pl.cmp_zero _ _).1 q
        rcases List.mem_cons.1 hy with rfl | hy
        · exact hxe hq
        · have := Pl.look_mem hr.2 hy
          rw [hq, hn] at this
          cases this
      rw [hkeep]
theorem tidy_mapZ (xs : List Vz) : Maps.Tidy (mapZ xs) := by
  unfold mapZ
  suffices ∀ (l : List Vz) (D : MZ), Maps.Tidy D → Maps.Tidy (l.foldl (fun D x => if Maps.has D (KL (keyL x.2.1.1)) = true then D else D.put (KL (keyL x.2.1.1)) (.held (zV x))) D) from this xs _ Maps.tidy_empty
  intro l
  induction l with
  | nil => intro D h; exact h
  | cons x l ih =>
    intro D h
    refine ih _ ?_
    show Maps.Tidy (if Maps.has D (KL (keyL x.2.1.1)) = true then D else D.put (KL (keyL x.2.1.1)) (.held (zV x)))
    split
    · exact h
    · exact h.put (kl_key (kyOk_key _)) _
/-- What is met first: in order, as many as the map holds, and the texts are the map's. -/
theorem firsts_all : ∀ n (xs : List Vz), xs.length = n → (∀ x ∈ xs, okO x.2.1.1 = true) → Pl.Inc (firsts xs) ∧ Maps.size (mapZ xs) = (firsts xs).length ∧ ∀ o, Pl.look o (firsts xs) = (fstK (keyL o) xs).map (fun x => x.2.1.2) := by
  intro n
  induction n with
  | zero =>
    intro xs h _
    obtain rfl := List.length_eq_zero_iff.1 h
    exact ⟨Pl.inc_of [] rfl, rfl, fun _ => rfl⟩
  | succ n ih =>
    intro xs h hok
    rcases List.eq_nil_or_concat xs with rfl | ⟨r, x, rfl⟩
    · simp at h
    · rw [List.concat_eq_append] at h hok ⊢
      have hr : r.length = n := by simpa using h
      obtain ⟨h1, h2, h3⟩ := ih r hr fun y hy => hok y (List.mem_append_left _ hy)
      have hx := hok x (by simp)
      have hhas := (mapZ_look (keyL x.2.1.1) (kyOk_key _) r).1
      have hsm : (Pl.look x.2.1.1 (firsts r)).isSome = (fstK (keyL x.2.1.1) r).isSome := by rw [h3, Option.isSome_map]
      have hres : ∀ o, (fstK (keyL o) (r ++ [x])).map (fun x => x.2.1.2) = match (fstK (keyL o) r).map (fun x => x.2.1.2) with | some t => some t | none => if x.2.1.1 = o then some x.2.1.2 else none := by
        intro o
        rw [fstK_snoc]
        cases fstK (keyL o) r with
        | some y => rfl
        | none =>
          show (if keyL x.2.1.1 = keyL o then some x else none).map _ = (if x.2.1.1 = o then some x.2.1.2 else none)
          by_cases ho : x.2.1.1 = o
          · rw [if_pos ho, if_pos (by rw [ho])]; rfl
          · rw [if_neg ho, if_neg (fun q => ho ((key_eq hx).1 q))]; rfl
      rw [firsts_snoc, mapZ_snoc, hhas, hsm]
      cases hf : fstK (keyL x.2.1.1) r with
      | some y =>
        rw [Option.isSome_some, if_pos rfl, if_pos rfl]
        refine ⟨h1, h2, fun o => ?_⟩
        rw [hres, h3]
        cases hf' : fstK (keyL o) r with
        | some y => rfl
        | none =>
          show none = if x.2.1.1 = o then _ else none
          rw [if_neg]
          rintro rfl
          rw [hf] at hf'; cases hf'
      | none =>
        rw [Option.isSome_none, if_neg (by decide), if_neg (by decide)]
        have hn : Pl.look x.2.1.1 (firsts r) = none := by rw [h3, hf]; rfl
        refine ⟨Pl.put_inc h1, ?_, fun o => ?_⟩
        · rw [Maps.size_put (tidy_mapZ r), hhas, hf, put_new _ h1 hn, h2]; rfl
        · rw [hres, ← h3]
          by_cases ho : x.2.1.1 = o
          · subst ho
            rw [Pl.look_put_same, hn, if_pos rfl]
          · rw [Pl.look_put_other (fun q => ho q.symm), if_neg ho]
            cases Pl.look o (firsts r) <;> rfl
theorem look_mem_of {o : List Int} {t : ByteArray} {es : List Ent} (h : Pl.look o es = some t) : ∃ y ∈ es, y.1 = o := by
  refine Classical.byContradiction fun hc => ?_
  rw [Pl.look_none fun y hy e => hc ⟨y, hy, e⟩] at h
  cases h
/-- Two dictionaries in order that read alike are one. -/
theorem inc_ext : ∀ {es fs : List Ent}, Pl.Inc es → Pl.Inc fs → (∀ o, Pl.look o es = Pl.look o fs) → es = fs
  | [], [], _, _, _ => rfl
  | [], y :: r, _, hf, h => by
    have := (h y.1).trans (Pl.look_mem hf (List.mem_cons_self ..)); cases this
  | x :: r, [], he, _, h => by
    have := (h x.1).symm.trans (Pl.look_mem he (List.mem_cons_self ..)); cases this
  | x :: r, y :: s, he, hf, h => by
    have h1 := List.pairwise_cons.1 he
    have h2 := List.pairwise_cons.1 hf
    have hx := (h x.1).symm.trans (Pl.look_mem he (List.mem_cons_self ..))
    have hy := (h y.1).trans (Pl.look_mem hf (List.mem_cons_self ..))
    have hle1 : Pl.cmp y.1 x.1 ≤ 0 := by
      obtain ⟨z, hz, e⟩ := look_mem_of hx
      rcases List.mem_cons.1 hz with rfl | hz
      · rw [e, Pl.cmp_self]; omega
      · have := h2.1 z hz; rw [e] at this; omega
    have hle2 : Pl.cmp x.1 y.1 ≤ 0 := by
      obtain ⟨z, hz, e⟩ := look_mem_of hy
      rcases List.mem_cons.1 hz with rfl | hz
      · rw [e, Pl.cmp_self]; omega
      · have := h1.1 z hz; rw [e] at this; omega
    have h0 : Pl.cmp x.1 y.1 = 0 := by
      have := Pl.cmp_neg x.1 y.1
      omega
    have hxy : x.1 = y.1 := (Pl.cmp_zero _ _).1 h0
    have ht : x.2 = y.2 := by
      have := hx
      rw [Pl.look_cons, if_pos hxy.symm] at this
      exact (Option.some.inj this).symm
    have hrest : r = s := by
      refine inc_ext h1.2 h2.2 fun o => ?_
      have := h o
      rw [Pl.look_cons, Pl.look_cons] at this
      by_cases ho : x.1 = o
      · subst ho
        rw [Pl.look_none fun z hz q => ?_, Pl.look_none fun z hz q => ?_]
        · have := h2.1 z hz
          rw [q, hxy, Pl.cmp_self] at this; omega
        · have := h1.1 z hz
          rw [q, Pl.cmp_self] at this; omega
      · rwa [if_neg ho, if_neg (hxy ▸ ho)] at this
    rw [hrest, Prod.ext hxy ht]
/-- The flat dictionary shows what a look-up finds. -/
theorem look_flatS (o : List Int) : ∀ (ls : List Lay) (i : Nat), (∀ l ∈ ls, okD l.1 = true) → Pl.look o (flatS ls) = (lkF o i ls).map (·.1)
  | [], _, _ => rfl
  | l :: r, i, h => by
    have ih := look_flatS o r (i + 1) fun m hm => h m (List.mem_cons_of_mem _ hm)
    unfold flatS lkF
    split
    · rw [look_putAll o l.1 (flatS r) ?_, ih]
      · cases Pl.look o l.1 <;> rfl
      · intro a b x y hx hy hxy
        have hI := (okD_parts (h l (List.mem_cons_self ..))).2.2
        obtain ⟨ha, hax⟩ := List.getElem?_eq_some_iff.1 hx
        obtain ⟨hb, hby⟩ := List.getElem?_eq_some_iff.1 hy
        rcases Nat.lt_trichotomy a b with hab | hab | hab
        · have := List.pairwise_iff_getElem.1 hI a b ha hb hab
          rw [hax, hby, hxy, Pl.cmp_self] at this; omega
        · exact hab
        · have := List.pairwise_iff_getElem.1 hI b a hb ha hab
          rw [hax, hby, hxy, Pl.cmp_self] at this; omega
    · exact ih
/-- What is met first is the flat dictionary. -/
theorem firsts_flat {w : World} {ls : List Lay} (hok : okK ls = true) {vs : List (Tz w)} (hv : ents vs = sq ls) : firsts (vals vs) = flatS ls ∧ Maps.size (mapZ (vals vs)) = (flatS ls).length := by
  have he : ents vs = (vals vs).map (·.2) := by unfold ents vals; rw [List.map_map]; rfl
  have hall : ∀ x ∈ vals vs, okO x.2.1.1 = true := by
    intro x hx
    refine sqF_ok ls 0 (okK_parts hok).2 x.2 ?_
    show x.2 ∈ sq ls
    rw [← hv, he]
    exact List.mem_map.2 ⟨x, hx, rfl⟩
  obtain ⟨h1, h2, h3⟩ := firsts_all _ _ rfl hall
  have hE : firsts (vals vs) = flatS ls := by
    refine inc_ext h1 (flatS_inc ls) fun o => ?_
    rw [h3, look_flatS o ls 0 (okK_parts hok).2, ← fst_sq hok hv o, Option.map_map]; rfl
  exact ⟨hE, by rw [h2, hE]⟩
end Go.Proofs.YtpalpbpamcaakaaGreat

namespace Go.Proofs.YtpalpbpamcaakaaGreat
set_option maxRecDepth 100000
open Go.RowKit Go.Shelf Go.Maps Go.Sort

/-! ### Plain -/
/-- Every key of the map of the visible entries is the key of six ints. -/
theorem keysZ (xs : List Vz) : ∀ kl, Maps.has (mapZ xs) kl = true → ∃ x : Kyt, kl = x.lit := by
  unfold mapZ
  suffices ∀ (l : List Vz) (D : MZ), (∀ kl, Maps.has D kl = true → ∃ x : Kyt, kl = x.lit) → ∀ kl, Maps.has (l.foldl (fun D x => if Maps.has D (KL (keyL x.2.1.1)) = true then D else D.put (KL (keyL x.2.1.1)) (.held (zV x))) D) kl = true → ∃ x : Kyt, kl = x.lit from this xs _ (fun kl h => by simp [Maps.has] at h)
  intro l
  induction l with
  | nil => intro D h; exact h
  | cons x l ih =>
    intro D h
    refine ih _ ?_
    intro kl hk
    dsimp only at hk
    split at hk
    · exact h kl hk
    · by_cases e : kl = KL (keyL x.2.1.1)
      · exact ⟨keyT x.2.1.1, e⟩
      · rw [Maps.has_put_other e] at hk
        exact h kl hk
/-- Texts put under keys in turn. -/
def putsT (F : Kyt → ByteArray) (ss : List Kyt) : MD := ss.foldl (fun D x => D.put x.lit (litT (F x))) (.map [])
theorem putsT_snoc (F : Kyt → ByteArray) (ss : List Kyt) (x : Kyt) : putsT F (ss ++ [x]) = (putsT F ss).put x.lit (litT (F x)) := by unfold putsT; rw [List.foldl_append]; rfl
theorem putsT_all (F : Kyt → ByteArray) : ∀ n (ss : List Kyt), ss.length = n → ss.Nodup → Maps.Tidy (putsT F ss) ∧ KeysT (putsT F ss) ∧ (∀ x : Kyt, Maps.has (putsT F ss) x.lit = true ↔ x ∈ ss) ∧ (∀ (x : Kyt) zd, (x ∈ ss → (putsT F ss).atKey x.lit zd = litT (F x)) ∧ (x ∉ ss → (putsT F ss).atKey x.lit zd = zd)) ∧ Maps.size (putsT F ss) = n := by
  intro n
  induction n with
  | zero =>
    intro ss h _
    obtain rfl := List.length_eq_zero_iff.1 h
    exact ⟨Maps.tidy_empty, fun kl h => by simp [putsT, Maps.has] at h, fun x => by simp [putsT, Maps.has], fun x zd => ⟨fun h => by simp at h, fun _ => rfl⟩, rfl⟩
  | succ n ih =>
    intro ss h hd
    rcases List.eq_nil_or_concat ss with rfl | ⟨r, e, rfl⟩
    · simp at h
    · rw [List.concat_eq_append] at h hd ⊢
      have hr : r.length = n := by simpa using h
      have hd' := List.nodup_append.1 hd
      have her : e ∉ r := fun hm => hd'.2.2 e hm e (by simp) rfl
      obtain ⟨h1, h2, h3, h4, h5⟩ := ih r hr hd'.1
      have hne : Maps.has (putsT F r) e.lit = false := by
        cases hc : Maps.has (putsT F r) e.lit
        · rfl
        · exact absurd ((h3 e).1 hc) her
      rw [putsT_snoc]
      refine ⟨h1.put (Kyt.isKey _) _, keysT_put h2 h1.isMap _ _, fun x => ?_, fun x zd => ?_, by rw [Maps.size_put h1, hne, h5]; rfl⟩
      · by_cases hx : x = e
        · subst hx
          rw [Maps.has_put_same h1.isMap (Kyt.isKey _)]; simp
        · rw [Maps.has_put_other (fun q => hx (Kyt.lit_inj q)), h3]; simp [hx]
      · by_cases hx : x = e
        · subst hx
          rw [Maps.atKey_put_same h1.isMap (Kyt.isKey _)]
          exact ⟨fun _ => rfl, fun q => absurd (by simp) q⟩
        · rw [Maps.atKey_put_other (fun q => hx (Kyt.lit_inj q))]
          exact ⟨fun q => (h4 x zd).1 (by simpa [hx] using q), fun q => (h4 x zd).2 (fun hm => q (by simp [hm]))⟩
theorem putsT_reps {es : List Ent} (ho : okD es = true) {F : Kyt → ByteArray} {ss : List Kyt} (hn : ss.Nodup) (hm : ∀ x : Kyt, x ∈ ss ↔ (lastT x.1 es).isSome = true) (hF : ∀ (x : Kyt) t, lastT x.1 es = some t → F x = t) : Reps (putsT F ss) es := by
  obtain ⟨h1, h2, h3, h4, h5⟩ := putsT_all F _ ss rfl hn
  have hp : ss.Perm (keysE es) := by
    refine (List.perm_ext_iff_of_nodup hn ?_).2 fun x => ?_
    · refine (keysE_inc ho).imp fun {a b} hab e => ?_
      subst e
      unfold cmpT at hab
      rw [Pl.cmp_self] at hab
      omega
    · rw [hm, lastT_mem]
      unfold keysE
      rw [List.mem_map]
      exact ⟨fun ⟨e, he, hk⟩ => ⟨e, he, Subtype.ext hk⟩, fun ⟨e, he, hk⟩ => ⟨e, he, congrArg Subtype.val hk⟩⟩
  refine ⟨h1, h2, fun x => ?_, fun x zd => ?_, by rw [h5, hp.length_eq]; unfold keysE; rw [List.length_map]⟩
  · have := (h3 x).trans (hm x)
    cases h : Maps.has (putsT F ss) x.lit <;> cases h' : (lastT x.1 es).isSome <;> simp [h, h'] at this ⊢
  · cases hl : lastT x.1 es with
    | some t => rw [(h4 x zd).1 ((hm x).2 (by rw [hl]; rfl)), hF x t hl]
    | none => exact (h4 x zd).2 fun q => by have := (hm x).1 q; rw [hl] at this; cases this
theorem lastT_flat {w : World} {ls : List Lay} (hok : okK ls = true) {vs : List (Tz w)} (hv : ents vs = sq ls) (hd : okD (flatS ls) = true) (l : List Int) : lastT l (flatS ls) = (fstK l (vals vs)).map (fun x => x.2.1.2) := by
  have he : ents vs = (vals vs).map (·.2) := by unfold ents vals; rw [List.map_map]; rfl
  have hall : ∀ x ∈ vals vs, okO x.2.1.1 = true := by
    intro x hx
    refine sqF_ok ls 0 (okK_parts hok).2 x.2 ?_
    show x.2 ∈ sq ls
    rw [← hv, he]
    exact List.mem_map.2 ⟨x, hx, rfl⟩
  obtain ⟨_, _, h3⟩ := firsts_all _ _ rfl hall
  rw [(firsts_flat hok hv).1] at h3
  by_cases hx : ∃ ys, keyL ys = l
  · obtain ⟨ys, rfl⟩ := hx
    rw [lastT_key hd, h3]
  · have hn : fstK l (vals vs) = none := by
      unfold fstK
      rw [List.find?_eq_none]
      intro x _
      simp only [decide_eq_true_eq]
      exact fun q => hx ⟨_, q⟩
    rw [hn, lastT_none (fun x _ q => hx ⟨_, q⟩)]; rfl
theorem setRow_alloc2 (W : World) (cs cs' : Array Value) (T : TypeId) (o : Obj) : ((W.alloc (.cells cs T)).alloc o).setRow W.heap.size cs' = (W.alloc (.cells cs' T)).alloc o := by
  unfold World.setRow World.alloc
  congr 1
  apply Array.ext_getElem?
  intro i
  rw [Array.getElem?_modify]
  simp only [Array.getElem?_push, Array.size_push]
  by_cases h : i = W.heap.size
  · subst h; simp
  · rw [if_neg (fun e => h e.symm), if_neg h, if_neg h]
theorem boxes2F (w : World) (x : Value) : BoxV ((w.alloc (.cells #[x] 26)).alloc (.cells #[.slice none 0 0] 34)) w.heap.size 26 x ∧ BoxV ((w.alloc (.cells #[x] 26)).alloc (.cells #[.slice none 0 0] 34)) (w.heap.size + 1) 34 (.slice none 0 0) := by
  have h1 := BoxV.new (w.alloc (.cells #[x] 26)) 34 (.slice none 0 0)
  rw [World.size_alloc] at h1
  exact ⟨(BoxV.new w _ _).below (below_al _ _) (by simp), h1⟩
/-- The steps of a range's world that only add blocks. -/
theorem ranges_below {w w' : World} {b r n : Nat} {D : MZ} {left : Lit → Bool} {cnt : Nat} (h : w.ranges Tryz.prog 104 RZ b r n D left cnt) (hb : Below w.heap.size w w') : w'.ranges Tryz.prog 104 RZ b r n D left cnt :=
  h.kept (row := none) ⟨hb.os, hb.tape, hb.output, hb.size, fun k hk _ => hb.block k hk⟩ (by simp) (by simp)
set_option maxHeartbeats 4000000 in
theorem Flatten_any (v : Value) (ls : List Lay) (w : World) (h : LaysAt w v ls) (hn : ls.length ≤ 2097152) (hx : ∀ l ∈ ls, layOk l) :
    Calls Tryz.prog 16 #[dV v] w fun r w' => OutD w.heap.size w' (if (okK ls && okD (flatS ls)) = true then flatS ls else []) (okK ls && okD (flatS ls)) r ∧ Below w.heap.size w w' := by
  have hL := h
  obtain ⟨a, cap, rfl, hcap, _⟩ := h.cells
  have q1 := (boxes2F w (.slice a ls.length cap)).2
  cases hok : okK ls
  · have C := Lib.hid (fun w' hb => VisNo_any _ ls w' (hL.below (w' := w') hb) hn hx hok)
    have Q1 := Lib.hid q1
    clear h hL hx hok q1
    unfold dV at C ⊢
    go_enter Tryz.func16, Tryz.ntmps16
    go_wp2_with fail
    refine (C.out _ (below_al2 _ _ _)).mono ?_
    rintro r w1 ⟨rfl, hb⟩
    have R1 := Lib.hid (Q1.out.below hb Q1.out.lt)
    have B1 : Hid (Below w.heap.size w w1) := (below_al2 w _ _).trans (hb.mono (by simp; omega))
    have d1 := R1.out.cell
    have z1 := R1.out.frozen
    clear hb C Q1
    go_wp2
    (try simp only [Exit.inBlock, Exit.then])
    refine bodyPost_ret (results_dt2 rfl _ _ (w.heap.size + 1) _ rfl (R1.out.set _)) rfl ?_
    exact ⟨outD_no _ _, B1.out.setCell (by show w.heap.size ≤ w.heap.size + 1; omega) _⟩
  · have C := Lib.hid (fun w' hb => Vis_any _ ls w' (hL.below (w' := w') hb) hx hok)
    have HFl : Hid (∀ (w0 : World) (vs : List (Tz w0)), ents vs = sq ls → Maps.size (mapZ (vals vs)) = (flatS ls).length) := fun w0 vs hv => (firsts_flat hok hv).2
    have HLt : Hid (okD (flatS ls) = true → ∀ (w0 : World) (vs : List (Tz w0)), ents vs = sq ls → ∀ l, lastT l (flatS ls) = (fstK l (vals vs)).map (fun x => x.2.1.2)) := fun hd w0 vs hv l => lastT_flat hok hv hd l
    have hflat := okD_flat hok
    have Q1 := Lib.hid q1
    obtain ⟨fl, hfl⟩ : ∃ fl, fl = flatS ls := ⟨_, rfl⟩
    rw [← hfl] at HFl HLt hflat ⊢
    obtain ⟨R, hR⟩ : ∃ R, R = if (true && okD fl) = true then fl else [] := ⟨_, rfl⟩
    obtain ⟨bb, hbb⟩ : ∃ bb, bb = (true && okD fl) := ⟨_, rfl⟩
    rw [← hR, ← hbb]
    have HRb : Hid ((okD fl = true → R = fl ∧ bb = true) ∧ (okD fl = false → R = [] ∧ bb = false)) := ⟨fun h => by rw [hR, hbb, h]; exact ⟨rfl, rfl⟩, fun h => by rw [hR, hbb, h]; exact ⟨rfl, rfl⟩⟩
    clear h hL hx q1 hok hfl hR hbb
    unfold dV at C ⊢
    go_enter Tryz.func16, Tryz.ntmps16
    go_wp2_with fail
    refine (C.out _ (below_al2 _ _ _)).mono ?_
    rintro r w1 ⟨⟨b, vs, rfl, hb0, hvs, hm⟩, hb⟩
    have hsz := HFl.out _ vs hvs
    have hlen := World.ownsMap.len (show w1.ownsMap Tryz.prog 104 RZ b vs.length (mapZ (vals vs)) from hm) (t := 97) (e := 101) Tryz.underlying97 3
    rw [hsz] at hlen
    have R1 := Lib.hid (Q1.out.below hb Q1.out.lt)
    have B1 : Hid (Below w.heap.size w w1) := (below_al2 w _ _).trans (hb.mono (by simp; omega))
    have HM := Lib.hid hm
    have HLt2 := Lib.hid (fun hd => HLt.out hd _ vs hvs)
    have HTz : Hid (∀ l y, fstK l (vals vs) = some y → (∃ a n c, y.1 = .slice a n c) ∧ entOk y.2.1) := fun l y hy => by
      have := List.mem_of_find?_eq_some hy
      unfold vals at this
      obtain ⟨q, _, rfl⟩ := List.mem_map.1 this
      obtain ⟨a, c, h1, _, _⟩ := q.2.1.cells
      exact ⟨⟨_, _, _, h1⟩, q.2.2.1⟩
    have HLk := Lib.hid (fun (x : Kyt) => mapZ_look x.1 x.2 (vals vs))
    have HKZ := Lib.hid (keysZ (vals vs))
    obtain ⟨fs, hfs⟩ : ∃ fs : List Int → Option Vz, fs = fun l => fstK l (vals vs) := ⟨_, rfl⟩
    have HLt3 : Hid (okD fl = true → ∀ l, lastT l fl = (fs l).map (fun x => x.2.1.2)) := fun hd l => by rw [hfs]; exact HLt2.out hd l
    have HTz3 : Hid (∀ l y, fs l = some y → (∃ a n c, y.1 = .slice a n c) ∧ entOk y.2.1) := fun l y hy => HTz.out l y (by rw [hfs] at hy; exact hy)
    have HLk3 : Hid (∀ x : Kyt, Maps.has (mapZ (vals vs)) x.lit = (fs x.1).isSome ∧ ∀ zd, (mapZ (vals vs)).atKey x.lit zd = (match fs x.1 with | some x => .held (zV x) | none => zd)) := fun x => by rw [hfs]; exact HLk.out x
    have HM1 : Hid (w1.ownsMap Tryz.prog 104 RZ b vs.length (mapZ (vals vs))) := HM.out
    have HSz := Lib.hid hsz
    obtain ⟨D0, hD0⟩ : ∃ D0, D0 = mapZ (vals vs) := ⟨_, rfl⟩
    obtain ⟨nn, hnn⟩ : ∃ nn, nn = vs.length := ⟨_, rfl⟩
    rw [← hD0, ← hnn] at HM1
    rw [← hD0] at HLk3 HKZ HSz
    have hs1 : w.heap.size + 2 ≤ w1.heap.size := by have := hb.size; simpa using this
    have d1 := R1.out.cell
    have z1 := R1.out.frozen
    clear hm C HFl HLt HM HLt2 HTz HLk hb Q1 hsz hD0 hnn hfs hb0 hvs
    by_cases h40 : fl.length ≤ 40
    · have hokd : okD fl = true := by rw [hflat]; exact decide_eq_true h40
      have hmm := fun w => run_makeMapN fl.length w
      have HD := Lib.hid hokd
      have hi40 : ¬ ((40 : Int) < (fl.length : Int)) := by omega
      clear hflat
      have HM2 : Hid ((w1.alloc (.map #[] 0)).ownsMap Tryz.prog 104 RZ b nn D0) := HM1.out.alloc _
      have HT2 : Hid (MapAt (w1.alloc (.map #[] 0)) w1.heap.size 0 (.map [])) := World.ownsMap_made _ _ _ _
      have B2 : Hid (Below w.heap.size w (w1.alloc (.map #[] 0))) := B1.out.trans ((below_al w1 _).mono (by omega))
      have R2 : Hid (BoxV (w1.alloc (.map #[] 0)) (w.heap.size + 1) 34 (.slice none 0 0)) := R1.out.below (below_al w1 _) R1.out.lt
      have HbB : Hid (b < w1.heap.size) := World.ownsMap.lt HM1.out
      have hsz2 : (w1.alloc (.map #[] 0)).heap.size = w1.heap.size + 1 := by simp
      clear d1 z1 HM1 B1 R1
      go_wp2_with (at_range; refine wpList_range_own _ rfl _ 97 rfl 104 101 lawK Tryz.underlying97 RZ b nn D0 rfl HM2.out ?_; intro w0 hrg0 hg0 hs0)
      clear hlen hmm
      rw [hsz2] at hrg0 hs0
      obtain ⟨F, hF⟩ : ∃ F : Kyt → ByteArray, F = fun x => ((fs x.1).map (fun y => y.2.1.2)).getD ⟨#[]⟩ := ⟨_, rfl⟩
      have HF : Hid (∀ x t, (fs x.1).map (fun y => y.2.1.2) = some t → F x = t) := fun x t h => by rw [hF]; simp only [h]; rfl
      have hT0 : MapAt w0 w1.heap.size 0 (.map []) := HT2.out.kept hg0 (by simp)
      have hB0 : Below w.heap.size w w0 := B2.out.grown hg0 (by simp; omega) (fun x e => by cases e)
      have hR0 : BoxV w0 (w.heap.size + 1) 34 (.slice none 0 0) := R2.out.grown hg0 (by simp)
      have HT0 := Lib.hid hT0
      have HB0 := Lib.hid hB0
      have HR0 := Lib.hid hR0
      have HS1 := Lib.hid hs1
      have H40 := Lib.hid h40
      obtain ⟨B, hBd⟩ : ∃ B, B = w1.heap.size := ⟨_, rfl⟩
      rw [← hBd] at hrg0 HT0 HbB HS1
      rw [hsz2]
      clear hT0 hB0 hR0 hF B2 HT2 HM2 hg0 hs0 hsz2 h40 hi40 hs1 R2 hokd
      rw [← hBd]
      clear hBd
      go_frame
      go_loopw [7] (fun _ wr => ∃ (left : Lit → Bool) (cnt : Nat) (ss : List Kyt), wr.ranges Tryz.prog 104 RZ b (B + 1) nn D0 left cnt ∧ Hid (ss.length + cnt ≤ Maps.size D0) ∧ Hid (MetK D0 left ss) ∧ Hid (MapAt wr B ss.length (putsT F ss)) ∧ Hid (Below w.heap.size w wr) ∧ Hid (BoxV wr (w.heap.size + 1) 34 (.slice none 0 0)))
        (fun _ wr => wr.rangeLeft b (B + 1))
      case atStart =>
        exact ⟨_, _, [], hrg0, by show _ ≤ _; simp, MetK.start D0, HT0, HB0, HR0⟩
      case round =>
        obtain ⟨left, cnt, ss, hrg, HCS, HC, HTr, HBr, HRr⟩ := hrel
        go_wp2_with (at_next; refine wpList_next_ranges _ rfl _ rfl 104 lawK RZ id id (fun key kl hk => ⟨key, rfl⟩) (fun v _ _ => ⟨v, rfl⟩) b (B + 1) nn _ _ _ rfl hrg ?_ ?_)
        · intro hc0 hl0
          have hReps : Reps (putsT F ss) fl := by
            have hl := HLt3.out HD.out
            refine putsT_reps HD.out HC.out.1 (fun x => ?_) (fun x t h => HF.out x t (by rw [← hl x.1]; exact h))
            rw [HC.out.2 x, (HLk3.out x).1, hl0, hl x.1, Option.isSome_map]
            simp
          have CD1 := Lib.hid (dictOf_any B ss.length (putsT F ss) fl wr HTr.out hReps HD.out)
          clear hReps HC HLk3 HLt3 HF HTz3 HKZ HSz hc0 hl0 HCS hrg hrg0 HT0 HB0 HR0
          go_wp2_with fail
          refine CD1.out.mono ?_
          rintro r w6 ⟨⟨v6, us, rfl, hr6, hus⟩, hb6⟩
          have R6 := Lib.hid (HRr.out.below hb6 HRr.out.lt)
          have B6 := Lib.hid (below_step HBr.out hb6)
          have X6 := Lib.hid hr6
          have HUs := Lib.hid hus
          have HL5 : Hid (w.heap.size + 1 < wr.heap.size) := HRr.out.lt
          obtain ⟨va, vc, hvf⟩ := hr6.form
          subst hvf
          have d6 := R6.out.cell
          have z6' := R6.out.frozen
          clear hb6 hr6 hus CD1 HRr HBr HTr
          try unfold dV
          go_wp2
          (try simp only [Exit.inBlock, Exit.then])
          refine bodyPost_ret (results_dt2 rfl _ _ (w.heap.size + 1) _ rfl (R6.out.set _)) rfl ?_
          exact ⟨⟨_, us, by rw [(HRb.out.1 HD.out).2]; rfl, (X6.out.setCell (by have := HL5.out; omega)).mono (by have := HL5.out; omega), HUs.out.trans (HRb.out.1 HD.out).1.symm⟩, B6.out.setCell (by show w.heap.size ≤ w.heap.size + 1; omega) _⟩
        · intro x c kl yd yp w2 cnt2 hkey hlk hv hat hrg2 hlt hg2 hs2 hen
          obtain ⟨x', rfl⟩ := HKZ.out kl (has_true_of_atKey hat)
          obtain rfl : x = .agg (kyA x'.1) := lawK.inj hkey (kl_at x'.2)
          obtain ⟨z, hz⟩ : ∃ z, fs x'.1 = some z := by
            have h1 := (HLk3.out x').1
            rw [has_true_of_atKey hat] at h1
            cases hf : fs x'.1 with
            | some z => exact ⟨z, rfl⟩
            | none => rw [hf] at h1; cases h1
          have hyd := (HLk3.out x').2 (.map [])
          rw [hz, hat] at hyd
          simp only at hyd
          subst hyd
          obtain rfl := RZ_inv hv
          obtain ⟨⟨za, zn, zc, hz1⟩, hz2⟩ := HTz3.out _ z hz
          have hFx : F x' = z.2.1.2 := HF.out x' _ (by rw [hz]; rfl)
          obtain ⟨z1, ⟨zo, zt⟩, zi⟩ := z
          simp only at hz1 hz2 hFx
          subst hz1
          have HFx := Lib.hid hFx
          have hval : plainElem (H := Unit) Tryz.prog 9 (.string zt) = some (litT zt, []) := plainElem_string Tryz.underlying9 (by have := hz2.2; simp only at this; unfold maxLen; omega)
          have HV := Lib.hid hval
          have HKey : Hid (keyOf Tryz.prog 104 (.agg (kyA x'.1)) = some x'.lit) := hkey
          have HX := Lib.hid x'.2.1
          have HC2 := Lib.hid (HC.out.step hlk hat)
          have HPS : Hid (putsT F (ss ++ [x']) = (putsT F ss).put x'.lit (litT zt)) := by show _ = _; rw [putsT_snoc, hFx]
          have HT2 : Hid (MapAt w2 B ss.length (putsT F ss)) := HTr.out.kept hg2 (by simp)
          have HB2 : Hid (Below w.heap.size w w2) := HBr.out.grown hg2 HBr.out.size (fun x e => by cases e; have := HS1.out; omega)
          have HR2 : Hid (BoxV w2 (w.heap.size + 1) 34 (.slice none 0 0)) := HRr.out.grown hg2 (by intro e; cases e; have := HS1.out; omega)
          have HRg := Lib.hid hrg2
          have HLt := Lib.hid hlt
          have HLe := Lib.hid hrg.left_eq
          have hzz := ky_nil
          have HA1 := Lib.hid (setRow_alloc2 w2 (kyA z6) (kyA x'.1) 104 (.cells #[.slice none 0 0, .string ⟨#[]⟩, .int .i64 0] 101))
          have HA2 : Hid (((w2.alloc (.cells (kyA x'.1) 104)).alloc (.cells #[.slice none 0 0, .string ⟨#[]⟩, .int .i64 0] 101)).setRow (w2.heap.size + 1) #[.slice za zn zc, .string zt, .int .i64 (zi : Int)] = (w2.alloc (.cells (kyA x'.1) 104)).alloc (.cells #[.slice za zn zc, .string zt, .int .i64 (zi : Int)] 101)) := by
            have := setRow_alloc (w2.alloc (.cells (kyA x'.1) 104)) #[.slice none 0 0, .string ⟨#[]⟩, .int .i64 0] #[.slice za zn zc, .string zt, .int .i64 (zi : Int)] 101
            rw [World.size_alloc] at this
            exact this
          clear hv hat hlk hkey hz hz2 hFx hval hs2 hg2 hrg HTr HBr HRr HC hrg2 hlt
          have HH1 : Hid (((w2.alloc (.cells (kyA z6) 104)).alloc (.cells #[.slice none 0 0, .string ⟨#[]⟩, .int .i64 0] 101)).heap[w2.heap.size]? = some (.cells (kyA z6) 104 (0, 0))) :=
            ((below_al (w2.alloc (.cells (kyA z6) 104)) _).block w2.heap.size (by simp)).trans (heap_alloc_new w2 _)
          have HH2 : Hid (((w2.alloc (.cells (kyA x'.1) 104)).alloc (.cells #[.slice none 0 0, .string ⟨#[]⟩, .int .i64 0] 101)).heap[w2.heap.size + 1]? = some (.cells #[.slice none 0 0, .string ⟨#[]⟩, .int .i64 0] 101 (0, 0))) := by
            have := heap_alloc_new (w2.alloc (.cells (kyA x'.1) 104)) (.cells #[.slice none 0 0, .string ⟨#[]⟩, .int .i64 0] 101)
            rw [World.size_alloc] at this
            exact this
          obtain ⟨W5, hW5⟩ : ∃ W, W = (w2.alloc (.cells (kyA x'.1) 104)).alloc (.cells #[.slice za zn zc, .string zt, .int .i64 (zi : Int)] 101) := ⟨_, rfl⟩
          have hb5 : Below w2.heap.size w2 W5 := by rw [hW5]; exact below_al2 _ _ _
          have HK5 : Hid (W5.heap[w2.heap.size]? = some (.cells (kyA x'.1) 104 (0, 0))) := by
            show _ = _
            rw [hW5]; exact ((below_al (w2.alloc (.cells (kyA x'.1) 104)) _).block w2.heap.size (by simp)).trans (heap_alloc_new w2 _)
          have HE5 : W5.heap[w2.heap.size + 1]? = some (.cells #[.slice za zn zc, .string zt, .int .i64 (zi : Int)] 101 (0, 0)) := by
            have := heap_alloc_new (w2.alloc (.cells (kyA x'.1) 104)) (.cells #[.slice za zn zc, .string zt, .int .i64 (zi : Int)] 101)
            rw [World.size_alloc] at this
            rw [hW5]; exact this
          have e1 : W5.cell? ⟨w2.heap.size + 1, 1, none⟩ = some (.string zt) := by unfold World.cell?; simp only [HE5]; rfl
          have HT5 : Hid (W5.ownsMap Tryz.prog 104 (plainElem Tryz.prog 9) B ss.length (putsT F ss)) := HT2.out.below hb5 HT2.out.lt
          have HB5 : Hid (Below w.heap.size w W5) := below_step HB2.out hb5
          have HR5 := Lib.hid (HR2.out.below hb5 HR2.out.lt)
          have HRg5 := Lib.hid (ranges_below HRg.out hb5)
          have HA3 := Lib.hid (HA2.out.trans hW5.symm)
          have hml : ss.length < maxLen := by have h1 := HCS.out; rw [HSz.out] at h1; have := H40.out; unfold maxLen; omega
          have HCS2 : Hid (ss.length + 1 + cnt2 ≤ Maps.size D0) := by
            have h1 := HCS.out; have h2 := HLt.out; show _ ≤ _; omega
          clear HE5 hb5 HT2 HB2 HR2 HRg HA2
          subst hW5
          unfold zV at hen ⊢
          go_wp2_with (first
            | (with_reducible (show wpList _ _ _ (_ :: _) _ _); refine wpList_store_row rfl 104 _ _ rfl w2.heap.size (kyA x'.1) rfl rfl 104 (kyA z6) HH1.out (ky_size HX.out) (by rw [kyA_size z6_len, kyA_size HX.out]) (kyA_one x'.1) ?_; rw [HA1.out])
            | (with_reducible (show wpList _ _ _ (_ :: _) _ _); refine wpList_store_row rfl 101 _ _ rfl (w2.heap.size + 1) #[.slice za zn zc, .string zt, .int .i64 (zi : Int)] rfl rfl 101 #[.slice none 0 0, .string ⟨#[]⟩, .int .i64 0] HH2.out (by kernel_rfl) rfl rfl ?_; rw [HA3.out])
            | (with_reducible (show wpList _ _ _ (_ :: _) _ _); refine wpList_load_row rfl 104 _ rfl w2.heap.size rfl 104 (kyA x'.1) (0, 0) _ HK5.out Tryz.underlying104 rfl (ky_size HX.out) ?_)
            | (at_mapUpdate; refine wpList_mapUpdate_own _ rfl _ _ _ 107 rfl 104 9 lawK Tryz.underlying107 _ B ss.length _ rfl HT5.out hml _ _ x'.lit rfl rfl HKey.out (litT zt) [] HV.out ?_; intro w6 hown6 hgr6))
          have HT6 : Hid (MapAt w6 B (ss ++ [x']).length (putsT F (ss ++ [x']))) := by
            show MapAt _ _ _ _
            rw [HPS.out, List.length_append]; exact hown6
          have HB6 : Hid (Below w.heap.size w w6) := HB5.out.grown hgr6 HB5.out.size (fun x e => by cases e; have := HS1.out; omega)
          have HR6 : Hid (BoxV w6 (w.heap.size + 1) 34 (.slice none 0 0)) := HR5.out.grown hgr6 (by intro e; cases e; have := HS1.out; omega)
          have hrg6 := World.ranges.kept HRg5.out hgr6 (by intro e; cases e; have := HbB.out; omega) (by simp)
          go_roundw
          case rel => exact ⟨_, cnt2, hrg6, ss ++ [x'], by have := HCS2.out; show _ ≤ _; simp; omega, HC2.out, HT6, HB6, HR6⟩
          case measure => rw [hrg6.left_eq, HLe.out]; exact HLt.out
    · have hokd : okD fl = false := by rw [hflat]; exact decide_eq_false h40
      have hi40 : (40 : Int) < (fl.length : Int) := by omega
      have HD := Lib.hid hokd
      clear hflat h40 hokd
      go_wp2
      (try simp only [Exit.inBlock, Exit.then])
      refine bodyPost_ret (results_dt2 rfl _ _ (w.heap.size + 1) _ rfl (R1.out.set _)) rfl ?_
      exact ⟨by rw [(HRb.out.2 HD.out).1, (HRb.out.2 HD.out).2]; exact outD_no _ _, B1.out.setCell (by show w.heap.size ≤ w.heap.size + 1; omega) _⟩
end Go.Proofs.YtpalpbpamcaakaaGreat
