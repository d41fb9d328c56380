/-
  CONTRACTS of the program's chapter 6: Insert, Delete.
-/
import Derived.Shelf.SlSortCmp.NoneTotal
import Derived.Test.YthigdblloddepaaGreatImpl6E
import Derived.Test.YthigdblloddepaaGreatShelf
import Derived.Shelf.SlSortCmp.QuietGrown
import Derived.RangeFuncBox
import Derived.RangeFuncLeaves
import Derived.RangeFuncBound
import Derived.RangeFuncNested
import Derived.RangeFuncCalls
import Derived.RangeFuncFrom
import Derived.OwnWalkIn
import Derived.TacticsInMore
import Derived.LoopNIn
import Derived.LoopIn
import Derived.Maps.AppendAt
import Derived.Sort.QuietIn
import Derived.Sort.MapsRangeIn
import Derived.Shelf.Abstract
import Derived.Shelf.AbstractIn
import Derived.Test.YthigdblloddepaaGreatSortL
import Derived.Test.YthigdblloddepaaGreatPD
namespace Go.Proofs.YthigdblloddepaaGreat
set_option maxRecDepth 100000
open Go Go.Lib Go.Sort Go.Shelf

/-- A key. -/
abbrev Kyt := { l : List Int // kyOk l }
def Kyt.vals (x : Kyt) : List Value := x.1.map (Value.int .i64)
def Kyt.lit (x : Kyt) : Lit := KL x.1
theorem Kyt.len (x : Kyt) : x.vals.length = 6 := by unfold Kyt.vals; rw [List.length_map]; exact x.2.1
theorem Kyt.one (x : Kyt) : ∀ v ∈ x.vals, v.oneCell' = true := by
  intro v hv
  obtain ⟨y, _, rfl⟩ := List.mem_map.1 hv
  rfl
theorem Kyt.agg (x : Kyt) : Value.agg x.vals.toArray = .agg (kyA x.1) := rfl
theorem Kyt.lit_inj {x y : Kyt} (h : x.lit = y.lit) : x = y := Subtype.ext (kl_inj x.2 y.2 h)
theorem Kyt.isKey (x : Kyt) : WideAt.IsKeyLit x.lit := kl_key x.2
/-- An outline's key. -/
def keyT (xs : List Int) : Kyt := ⟨keyL xs, kyOk_key xs⟩
instance : Inhabited Kyt := ⟨⟨z6, kyOk_z⟩⟩
def cmpT (x y : Kyt) : Int := Pl.cmp x.1 y.1
theorem cmpT_swo : Sort.SWO (ltOf cmpT) where
  irrefl x := by unfold ltOf cmpT; rw [Pl.cmp_self]; decide
  trans x y z h1 h2 := by
    unfold ltOf cmpT at *
    rw [decide_eq_true_eq] at *
    exact Pl.cmp_lt_trans h1 h2
  ntrans x y z h1 h2 := by
    unfold ltOf cmpT at *
    rw [decide_eq_false_iff_not] at *
    rw [Pl.cmp_neg y.1 x.1] at h1
    rw [Pl.cmp_neg z.1 y.1] at h2
    have := Pl.cmp_trans z.1 y.1 x.1 (by omega) (by omega)
    rw [Pl.cmp_neg z.1 x.1]
    omega
theorem cmpT_parts (x y : Kyt) (h1 : ltOf cmpT x y = false) (h2 : ltOf cmpT y x = false) : x = y := by
  unfold ltOf cmpT at *
  rw [decide_eq_false_iff_not] at *
  rw [Pl.cmp_neg x.1 y.1] at h2
  exact Subtype.ext ((Pl.cmp_zero _ _).1 (by omega))
/-- Whatever order: one sorted list. -/
theorem sort_one {l m : List Kyt} (hp : l.Perm m) (hs : m.Pairwise fun x y => cmpT x y < 0) : (l.mergeSort fun x y => !(ltOf cmpT) y x) = m := by
  have hle : ∀ x y : Kyt, (!(ltOf cmpT) y x) = true ↔ cmpT x y ≤ 0 := by
    intro x y
    unfold ltOf cmpT
    rw [Bool.not_eq_true', decide_eq_false_iff_not, Pl.cmp_neg x.1 y.1]
    omega
  have tr : ∀ a b c : Kyt, (!(ltOf cmpT) b a) = true → (!(ltOf cmpT) c b) = true → (!(ltOf cmpT) c a) = true := fun a b c h1 h2 => (hle a c).2 (Pl.cmp_trans _ _ _ ((hle a b).1 h1) ((hle b c).1 h2))
  have to : ∀ a b : Kyt, ((!(ltOf cmpT) b a) || (!(ltOf cmpT) a b)) = true := fun a b => by
    rw [Bool.or_eq_true, hle, hle]
    unfold cmpT
    rw [Pl.cmp_neg a.1 b.1]
    omega
  refine List.Perm.eq_of_pairwise (le := fun a b => (!(ltOf cmpT) b a) = true) (fun a b _ _ h1 h2 => ?_) (List.pairwise_mergeSort tr to l) (hs.imp fun {a b} h => (hle a b).2 (Int.le_of_lt h)) ((List.mergeSort_perm l _).trans hp)
  rw [hle] at h1 h2
  unfold cmpT at h1 h2
  rw [Pl.cmp_neg a.1 b.1] at h2
  exact Subtype.ext ((Pl.cmp_zero _ _).1 (by omega))

/-! ### What is met of a map's keys -/
/-- No key twice; a key is on the list just where the map has it and it is no longer to come. -/
def MetK {H : Type} (D0 : DataW H) (left : Lit → Bool) (ss : List Kyt) : Prop := ss.Nodup ∧ ∀ x : Kyt, x ∈ ss ↔ (Maps.has D0 x.lit = true ∧ left x.lit = false)
section
variable {H : Type} {D0 : DataW H} {left : Lit → Bool} {ss : List Kyt}
theorem MetK.start (D0 : DataW H) : MetK D0 (Maps.has D0) [] := ⟨List.nodup_nil, fun x => by cases Maps.has D0 x.lit <;> simp⟩
theorem same_iff {a b : Kyt} : a.lit.sameKey b.lit = true ↔ a = b := by
  constructor
  · intro h
    refine Kyt.lit_inj ?_
    unfold Kyt.lit KL at h ⊢
    simpa [Lit.sameKey] using h
  · rintro rfl
    unfold Kyt.lit KL
    simp [Lit.sameKey]
theorem MetK.step (h : MetK D0 left ss) {x : Kyt} {y : DataW H} (hlk : left x.lit = true) (hat : ∀ zd, D0.atKey x.lit zd = y) : MetK D0 (fun z => left z && !z.sameKey x.lit) (ss ++ [x]) := by
  have hhas : Maps.has D0 x.lit = true := Maps.has_true_of_atKey hat
  have hnew : x ∉ ss := fun hx => by have := ((h.2 x).1 hx).2; rw [hlk] at this; cases this
  refine ⟨List.nodup_append.2 ⟨h.1, by simp, fun a ha b hb => by simp at hb; subst hb; exact fun e => hnew (e ▸ ha)⟩, fun y => ?_⟩
  by_cases hy : y = x
  · subst hy
    simp [hhas, same_iff.2 rfl]
  · have hs : y.lit.sameKey x.lit = false := by
      cases hc : y.lit.sameKey x.lit
      · rfl
      · exact absurd (same_iff.1 hc) hy
    simp [h.2 y, hy, hs]
end

/-! ### What a map of texts reads as -/
/-- Every key that the map has is the key of six ints. -/
def KeysT (D : MD) : Prop := ∀ kl, Maps.has D kl = true → ∃ x : Kyt, kl = x.lit
/-- D reads as the entries do. -/
structure Reps (D : MD) (es : List Ent) : Prop where
  tidy : Maps.Tidy D
  keys : KeysT D
  has : ∀ x : Kyt, Maps.has D x.lit = (lastT x.1 es).isSome
  at' : ∀ (x : Kyt) zd, D.atKey x.lit zd = (match lastT x.1 es with | some t => litT t | none => zd)
  size : Maps.size D = es.length
theorem keysT_put {D : MD} (h : KeysT D) (_hm : Maps.IsMap D) (x : Kyt) (d : MD) : KeysT (D.put x.lit d) := by
  intro kl hk
  by_cases e : kl = x.lit
  · exact ⟨x, e⟩
  · rw [Maps.has_put_other e] at hk
    exact h kl hk
theorem keysT_del {D : MD} (h : KeysT D) (x : Lit) : KeysT (D.del x) := by
  intro kl hk
  by_cases e : kl = x
  · subst e
    rw [Maps.has_del_same] at hk
    cases hk
  · rw [Maps.has_del_other e] at hk
    exact h kl hk
theorem tidy_mapD (es : List Ent) : Maps.Tidy (mapD es) := by
  unfold mapD
  suffices ∀ (l : List Ent) (D : MD), Maps.Tidy D → Maps.Tidy (l.foldl (fun D e => D.put (KL (keyL e.1)) (litT e.2)) D) from this es _ Maps.tidy_empty
  intro l
  induction l with
  | nil => intro D h; exact h
  | cons x l ih => intro D h; exact ih _ (h.put (kl_key (kyOk_key _)) _)
theorem keysT_mapD (es : List Ent) : KeysT (mapD es) := by
  unfold mapD
  suffices ∀ (l : List Ent) (D : MD), KeysT D → Maps.IsMap D → KeysT (l.foldl (fun D e => D.put (KL (keyL e.1)) (litT e.2)) D) from this es _ (fun kl h => by simp [Maps.has] at h) ⟨[], rfl⟩
  intro l
  induction l with
  | nil => intro D h _; exact h
  | cons x l ih => intro D h hm; exact ih _ (keysT_put h hm (keyT x.1) _) (hm.put _ _)
theorem lastT_none {l : List Int} {es : List Ent} (h : ∀ e ∈ es, keyL e.1 ≠ l) : lastT l es = none := by
  induction es with
  | nil => rfl
  | cons x r ih =>
    show (match lastT l r with | some t => some t | none => if keyL x.1 = l then some x.2 else none) = _
    rw [ih (fun e he => h e (List.mem_cons_of_mem _ he)), if_neg (h x (List.mem_cons_self ..))]
theorem size_mapD : ∀ n (es : List Ent), es.length = n → (es.map fun e => keyL e.1).Nodup → Maps.size (mapD es) = n := by
  intro n
  induction n with
  | zero =>
    intro es h _
    obtain rfl := List.length_eq_zero_iff.1 h
    rfl
  | succ n ih =>
    intro es h hd
    rcases List.eq_nil_or_concat es with rfl | ⟨r, e, rfl⟩
    · simp at h
    · rw [List.concat_eq_append] at h hd ⊢
      rw [List.map_append, List.nodup_append] at hd
      have hr : r.length = n := by simpa using h
      have hno : lastT (keyL e.1) r = none := lastT_none fun x hx q => hd.2.2 (keyL x.1) (List.mem_map.2 ⟨x, hx, rfl⟩) (keyL e.1) (by simp) q
      have hhas := (mapD_look (keyL e.1) (kyOk_key _) r).1
      rw [hno] at hhas
      rw [mapD_snoc, Maps.size_put (tidy_mapD r), hhas, ih r hr hd.1]; rfl
theorem reps_mapD {es : List Ent} (h : okD es = true) : Reps (mapD es) es := by
  refine ⟨tidy_mapD es, keysT_mapD es, fun x => (mapD_look x.1 x.2 es).1, fun x => (mapD_look x.1 x.2 es).2, size_mapD _ es rfl ?_⟩
  obtain ⟨_, h2, h3⟩ := okD_parts h
  show List.Pairwise _ _
  rw [List.pairwise_map]
  refine List.Pairwise.imp_of_mem (fun {a b} ha hb hab e => ?_) h3
  have := key_inj (okE_O (h2 a ha)).1 (okE_O (h2 b hb)).1 e
  rw [this, Pl.cmp_self] at hab
  omega
theorem put_length (e : Ent) : ∀ {es : List Ent}, Pl.Inc es → (Pl.put e es).length = if (Pl.look e.1 es).isSome = true then es.length else es.length + 1
  | [], _ => rfl
  | x :: r, h => by
    have hr := List.pairwise_cons.1 h
    unfold Pl.put
    by_cases hx : Pl.cmp x.1 e.1 < 0
    · rw [if_pos hx, List.length_cons, put_length e hr.2, Pl.look_cons, if_neg (Pl.cmp_ne hx)]
      split <;> rfl
    · rw [if_neg hx, List.length_cons]
      have hgt : ∀ y ∈ r, 0 < Pl.cmp y.1 e.1 := by
        intro y hy
        have h1 := hr.1 y hy
        rcases Int.lt_or_le 0 (Pl.cmp y.1 e.1) with h2 | h2
        · exact h2
        · have h3 := Pl.cmp_trans x.1 y.1 e.1 (by omega) h2
          have h4 : Pl.cmp x.1 e.1 = 0 := by omega
          rw [(Pl.cmp_zero _ _).1 h4, Pl.cmp_neg y.1 e.1] at h1
          omega
      have hkeep : r.filter (fun y => decide (Pl.cmp y.1 e.1 ≠ 0)) = r := List.filter_eq_self.2 fun y hy => by
        have := hgt y hy
        rw [decide_eq_true_eq]; omega
      by_cases h0 : Pl.cmp x.1 e.1 = 0
      · rw [List.filter_cons_of_neg (by simp [h0]), hkeep, Pl.look_cons, if_pos ((Pl.cmp_zero _ _).1 h0)]
        simp
      · rw [List.filter_cons_of_pos (by simp [h0]), hkeep, Pl.look_none (fun y hy q => ?_)]
        · simp
        · rcases List.mem_cons.1 hy with rfl | hy
          · exact h0 ((Pl.cmp_zero _ _).2 q)
          · have := hgt y hy
            rw [q, Pl.cmp_self] at this
            omega
theorem okD_put {es : List Ent} {e : Ent} (h : okD es = true) (he : okE e = true) (hl : (Pl.put e es).length ≤ 40) : okD (Pl.put e es) = true := by
  obtain ⟨_, h2, h3⟩ := okD_parts h
  refine okD_of hl (fun x hx => ?_) (Pl.put_inc h3)
  rcases Pl.put_mem hx with rfl | hx
  · exact he
  · exact h2 x hx
theorem okD_del {es : List Ent} {k : Nat} (h : okD es = true) : okD (Pl.del k es) = true := by
  obtain ⟨h1, h2, h3⟩ := okD_parts h
  exact okD_of (Nat.le_trans (Pl.del_sub k es).length_le h1) (fun x hx => h2 x ((Pl.del_sub k es).subset hx)) (h3.sublist (Pl.del_sub k es))
theorem keyL_ok {xs : List Int} (h : okO xs = true) {ys : List Int} (e : keyL xs = keyL ys) : xs = ys := by
  cases hy : okO ys
  · rw [keyL_no hy] at e
    have := key_zero h
    rw [e, Pl.cmp_self] at this
    omega
  · exact key_inj h hy e
theorem lastT_put {es : List Ent} {e : Ent} (h : okD es = true) (he : okE e = true) (hl : (Pl.put e es).length ≤ 40) (l : List Int) : lastT l (Pl.put e es) = if keyL e.1 = l then some e.2 else lastT l es := by
  have hp := okD_put h he hl
  have heo := (okE_O he).1
  by_cases hx : ∃ ys, keyL ys = l
  · obtain ⟨ys, rfl⟩ := hx
    rw [lastT_key hp, lastT_key h]
    by_cases hk : keyL e.1 = keyL ys
    · rw [if_pos hk, ← keyL_ok heo hk, Pl.look_put_same]
    · rw [if_neg hk, Pl.look_put_other (fun q => hk (by rw [q]))]
  · rw [if_neg (fun q => hx ⟨_, q⟩), lastT_none (fun x _ q => hx ⟨_, q⟩), lastT_none (fun x _ q => hx ⟨_, q⟩)]
theorem look_del {es : List Ent} (h : Pl.Inc es) {k : Nat} {x : Ent} (hx : es[k]? = some x) (o : List Int) : Pl.look o (Pl.del k es) = if x.1 = o then none else Pl.look o es := by
  have hpd := Pl.put_del h hx
  by_cases e : x.1 = o
  · subst e
    rw [if_pos rfl]
    refine Pl.look_none fun y hy q => ?_
    unfold Pl.del at hy
    obtain ⟨hk, hxe⟩ := List.getElem?_eq_some_iff.1 hx
    rcases List.mem_append.1 hy with hy | hy
    · obtain ⟨j, hj, rfl⟩ := List.mem_take_iff_getElem.1 hy
      have := List.pairwise_iff_getElem.1 h j k (by omega) hk (by omega)
      rw [hxe, q, Pl.cmp_self] at this
      omega
    · obtain ⟨j, hj, rfl⟩ := List.mem_drop_iff_getElem.1 hy
      have := List.pairwise_iff_getElem.1 h k (k + 1 + j) hk (by omega) (by omega)
      rw [hxe, q, Pl.cmp_self] at this
      omega
  · rw [if_neg e]
    conv => rhs; rw [← hpd]
    rw [Pl.look_put_other (fun q => e q.symm)]
theorem lastT_del {es : List Ent} (h : okD es = true) {k : Nat} {x : Ent} (hx : es[k]? = some x) (l : List Int) : lastT l (Pl.del k es) = if keyL x.1 = l then none else lastT l es := by
  have hp := okD_del (k := k) h
  obtain ⟨_, h2, h3⟩ := okD_parts h
  have hxo := (okE_O (h2 x (List.mem_of_getElem? hx))).1
  by_cases hy : ∃ ys, keyL ys = l
  · obtain ⟨ys, rfl⟩ := hy
    rw [lastT_key hp, lastT_key h, look_del h3 hx]
    by_cases hk : keyL x.1 = keyL ys
    · rw [if_pos hk, if_pos (keyL_ok hxo hk)]
    · rw [if_neg hk, if_neg (fun q => hk (by rw [q]))]
  · rw [if_neg (fun q => hy ⟨_, q⟩), lastT_none (fun x _ q => hy ⟨_, q⟩), lastT_none (fun x _ q => hy ⟨_, q⟩)]
theorem lastT_mem {l : List Int} {es : List Ent} : (lastT l es).isSome = true ↔ ∃ e ∈ es, keyL e.1 = l := by
  induction es with
  | nil => simp [lastT]
  | cons x r ih =>
    show (match lastT l r with | some t => some t | none => if keyL x.1 = l then some x.2 else none).isSome = true ↔ _
    cases hr : lastT l r with
    | some t =>
      rw [hr] at ih
      obtain ⟨e, he, hk⟩ := ih.1 rfl
      exact ⟨fun _ => ⟨e, List.mem_cons_of_mem _ he, hk⟩, fun _ => rfl⟩
    | none =>
      rw [hr] at ih
      by_cases hk : keyL x.1 = l
      · rw [if_pos hk]
        exact ⟨fun _ => ⟨x, List.mem_cons_self .., hk⟩, fun _ => rfl⟩
      · rw [if_neg hk]
        refine ⟨fun h => (by cases h), fun ⟨e, he, h⟩ => ?_⟩
        rcases List.mem_cons.1 he with rfl | he
        · exact absurd h hk
        · exact absurd (ih.2 ⟨e, he, h⟩) (by simp)
theorem Reps.put_size {D : MD} {es : List Ent} (h : Reps D es) (ho : okD es = true) (e : Ent) (he : okE e = true) : Maps.size (D.put (keyT e.1).lit (litT e.2)) = (Pl.put e es).length := by
  rw [Maps.size_put h.tidy, h.has, put_length e (okD_parts ho).2.2, h.size]
  show (if (lastT (keyL e.1) es).isSome = true then _ else _) = _
  rw [lastT_look ho (okE_O he).1]
theorem Reps.put {D : MD} {es : List Ent} {e : Ent} (h : Reps D es) (ho : okD es = true) (he : okE e = true) (hl : (Pl.put e es).length ≤ 40) : Reps (D.put (keyT e.1).lit (litT e.2)) (Pl.put e es) := by
  refine ⟨h.tidy.put (Kyt.isKey _) _, keysT_put h.keys h.tidy.isMap _ _, fun x => ?_, fun x zd => ?_, h.put_size ho e he⟩
  · rw [lastT_put ho he hl]
    by_cases hk : keyL e.1 = x.1
    · have : x = keyT e.1 := Subtype.ext hk.symm
      subst this
      rw [if_pos hk, Maps.has_put_same h.tidy.isMap (Kyt.isKey _)]; rfl
    · rw [if_neg hk, Maps.has_put_other (fun q => hk (by rw [Kyt.lit_inj q]; rfl)), h.has]
  · rw [lastT_put ho he hl]
    by_cases hk : keyL e.1 = x.1
    · have : x = keyT e.1 := Subtype.ext hk.symm
      subst this
      rw [if_pos hk, Maps.atKey_put_same h.tidy.isMap (Kyt.isKey _)]
    · rw [if_neg hk, Maps.atKey_put_other (fun q => hk (by rw [Kyt.lit_inj q]; rfl)), h.at']
theorem Reps.del {D : MD} {es : List Ent} (h : Reps D es) (ho : okD es = true) {k : Nat} {x : Ent} (hx : es[k]? = some x) : Reps (D.del (keyT x.1).lit) (Pl.del k es) := by
  have hsz : Maps.size (D.del (keyT x.1).lit) = (Pl.del k es).length := by
    have h1 := Maps.size_del h.tidy (k := (keyT x.1).lit)
    have h2 : Maps.has D (keyT x.1).lit = true := by rw [h.has]; exact lastT_mem.2 ⟨x, List.mem_of_getElem? hx, rfl⟩
    have h3 := Pl.del_len (es := es) (k := k) (List.getElem?_eq_some_iff.1 hx).1
    rw [h2, if_pos rfl, h.size] at h1
    omega
  refine ⟨h.tidy.del _, keysT_del h.keys _, fun y => ?_, fun y zd => ?_, hsz⟩
  · rw [lastT_del ho hx]
    by_cases hk : keyL x.1 = y.1
    · have : y = keyT x.1 := Subtype.ext hk.symm
      subst this
      rw [if_pos hk, Maps.has_del_same]; rfl
    · rw [if_neg hk, Maps.has_del_other (fun q => hk (by rw [Kyt.lit_inj q]; rfl)), h.has]
  · rw [lastT_del ho hx]
    by_cases hk : keyL x.1 = y.1
    · have : y = keyT x.1 := Subtype.ext hk.symm
      subst this
      rw [if_pos hk, Maps.atKey_del_same]
    · rw [if_neg hk, Maps.atKey_del_other (fun q => hk (by rw [Kyt.lit_inj q]; rfl)), h.at']
/-- The keys of the entries. -/
def keysE (es : List Ent) : List Kyt := es.map fun e => keyT e.1
theorem keysE_inc {es : List Ent} (h : okD es = true) : (keysE es).Pairwise fun x y => cmpT x y < 0 := by
  obtain ⟨_, h2, h3⟩ := okD_parts h
  unfold keysE
  rw [List.pairwise_map]
  refine List.Pairwise.imp_of_mem (fun {a b} ha hb hab => ?_) h3
  show Pl.cmp (keyL a.1) (keyL b.1) < 0
  rw [key_cmp (okE_O (h2 a ha)).1 (okE_O (h2 b hb)).1]
  exact hab
theorem keysE_perm {D : MD} {es : List Ent} (h : Reps D es) (ho : okD es = true) {ss : List Kyt} (hn : ss.Nodup) (hm : ∀ x, x ∈ ss ↔ Maps.has D x.lit = true) : ss.Perm (keysE es) := by
  refine (List.perm_ext_iff_of_nodup hn ?_).2 fun x => ?_
  · refine (keysE_inc ho).imp fun {a b} hab e => ?_
    subst e
    unfold cmpT at hab
    rw [Pl.cmp_self] at hab
    omega
  · rw [hm, h.has, lastT_mem]
    unfold keysE
    rw [List.mem_map]
    exact ⟨fun ⟨e, he, hk⟩ => ⟨e, he, Subtype.ext hk⟩, fun ⟨e, he, hk⟩ => ⟨e, he, congrArg Subtype.val hk⟩⟩
theorem Reps.at_mem {D : MD} {es : List Ent} (h : Reps D es) (ho : okD es = true) {e : Ent} (he : e ∈ es) : ∀ zd, D.atKey (keyT e.1).lit zd = litT e.2 := by
  obtain ⟨_, h2, h3⟩ := okD_parts ho
  intro zd
  rw [h.at']
  show (match lastT (keyL e.1) es with | some t => litT t | none => zd) = _
  rw [lastT_look ho (okE_O (h2 e he)).1, Pl.look_mem h3 he]
end Go.Proofs.YthigdblloddepaaGreat

namespace Go.Proofs.YthigdblloddepaaGreat
set_option maxRecDepth 100000
open Go.RowKit Go.Shelf Go.Maps Go.Sort

attribute [local go_sem] Oper.semAt_some

/-- A map from keys of outlines to texts. -/
def MapAt (w : World) (b n : Nat) (D : MD) : Prop := w.ownsMap Tryz.prog 94 (plainElem Tryz.prog 9) b n D
theorem MapAt.lt {w : World} {b n : Nat} {D : MD} (h : MapAt w b n D) : b < w.heap.size := World.ownsMap.lt h
theorem MapAt.below {w w' : World} {b n : Nat} {D : MD} {N : Nat} (h : MapAt w b n D) (hb : Below N w w') (hN : b < N) : MapAt w' b n D := by
  obtain ⟨es, clock, hx, Ft, hs, hD⟩ := h
  exact ⟨es, clock, (hb.block b hN).trans hx, Ft, hs, hD⟩

section
variable {F : Fence} {n : Nat} {P : Program} {ops : Array Oper} {rest : List Oper} {o : Oper} {a : Act} {w : World} {Q : Exit → Act → World → Prop}
theorem wpListIn_load_rowK (hgd : o.guard = none) (ty : TypeId) (x : Operand) (ho : o.op = .load ty x) (g : Nat) (hx : a.eval x = .pointer (some ⟨g, 0, none⟩)) (t : TypeId) (cs : Array Value) (fr : Nat × Nat) (d : TypeDesc) (hg : w.heap[g]? = some (.cells cs t fr))
    (hu : P.underlying ty = some d) (hd : (match d with | .struct _ | .array _ _ => true | _ => false) = true) (hi : (P.info? ty).map (·.size) = some cs.size) (h : wpListIn F n P ops Q rest (a.put o.dst (.agg cs)) w) : wpListIn F n P ops Q (o :: rest) a w := by
  refine wpListIn_plain hgd fun K hK => ?_
  unfold Oper.wpIn
  refine ⟨by simp [Oper.about, ho], ?_⟩
  rw [Oper.semAt_plain F _ _ (by rw [ho]; intro c hc; cases hc)]
  unfold execOp
  simp only [ho, hx, Instr.loadAt, Instr.sureAddr, Sem.run_bind, Sem.run_pure, Result.andThen_ok, run_loadVar_row w g t ty cs fr d hg hu hd hi]
  exact hK _ _ h
theorem wpListIn_store_rowK (hgd : o.guard = none) (ty : TypeId) (x y : Operand) (ho : o.op = .store ty x y) (g : Nat) (cells : Array Value) (hx : a.eval x = .pointer (some ⟨g, 0, none⟩)) (hy : a.eval y = .agg cells)
    (t : TypeId) (old : Array Value) (hg : w.heap[g]? = some (.cells old t (0, 0))) (hi : (P.info? ty).map (·.size) = some cells.size) (hold : old.size = cells.size) (h1 : cells.all (·.oneCell') = true)
    (h : wpListIn F n P ops Q rest (a.put o.dst undef) (w.setRow g cells)) : wpListIn F n P ops Q (o :: rest) a w := by
  refine wpListIn_plain hgd fun K hK => ?_
  unfold Oper.wpIn
  refine ⟨by simp [Oper.about, ho], ?_⟩
  rw [Oper.semAt_plain F _ _ (by rw [ho]; intro c hc; cases hc)]
  unfold execOp
  simp only [ho, hx, hy, Instr.storeAt, Instr.sureAddr, Sem.run_bind, Sem.run_pure, Result.andThen_ok, run_storeVar_row w g t ty old cells hg hi hold h1]
  exact hK _ _ h
end
theorem setRow_alloc (W : World) (cs cs' : Array Value) (T : TypeId) : (W.alloc (.cells cs T)).setRow W.heap.size cs' = W.alloc (.cells cs' T) := by
  unfold World.setRow World.alloc
  congr 1
  apply Array.ext_getElem?
  intro i
  rw [Array.getElem?_modify, Array.getElem?_push, Array.getElem?_push]
  by_cases h : i = W.heap.size
  · subst h; simp
  · rw [if_neg (fun e => h e.symm), if_neg h, if_neg h]
set_option maxRecDepth 100000 in
set_option maxHeartbeats 1000000 in
/-- The iterator over the keys: each key once, in whatever order. -/
theorem keysK1_in (n : Nat) (hn : 1 ≤ n) (l Bm b nn : Nat) (D0 : MD) (hKT : KeysT D0) (J Jx : List Kyt → World → Prop)
    (hY : ∀ pre x W, J pre W → pre.length < Maps.size D0 → YieldAt Fence.wide (n - 1) Tryz.prog l #[.agg (kyA x.1)] W fun e W' =>
      (e = .returned (.bool true) ∧ J (pre ++ [x]) W' ∧ KeepsWalks W W') ∨ (e = .returned (.bool false) ∧ Jx (pre ++ [x]) W'))
    (W : World) (hJ : AbidesFrom W.heap.size J) (hm : W.cell? ⟨Bm, 0, none⟩ = some (.map (some b))) (hown : MapAt W b nn D0) (h0 : J [] W) :
    CallsIn Fence.wide n Tryz.prog 136 #[.func (.yield l) #[] #[], .pointer (some ⟨Bm, 0, none⟩)] W fun e W' => (∃ v, e = .returned v) ∧
      ((∃ ss : List Kyt, (ss.Nodup ∧ ∀ x, x ∈ ss ↔ Maps.has D0 x.lit = true) ∧ J ss W') ∨ (∃ pre : List Kyt, True ∧ Jx pre W')) := by
  refine callsIn_of_wp Tryz.func136 rfl trivial ?_ rfl
  simp only [Tryz.ntmps136, List.size_toArray, List.length_cons, List.length_nil, Nat.reduceAdd, Nat.reduceSub, Array.replicate_succ, Array.replicate_zero, List.push_toArray, List.append_toArray, List.nil_append, List.cons_append]
  gi_wp2_with (first
    | (gi_at_range; refine wpListIn_range_own _ rfl _ 59 rfl 94 9 lawK Tryz.underlying59 _ b nn _ rfl hown ?_; intro w0 hrg0 hg0 hs0)
    | gi_in)
  go_frame
  gi_loopw [3] (fun _ wr => ∃ (left : Lit → Bool) (cnt : Nat) (ss : List Kyt), wr.ranges Tryz.prog 94 (plainElem Tryz.prog 9) b W.heap.size nn D0 left cnt ∧ ss.length + cnt ≤ Maps.size D0 ∧ MetK D0 left ss ∧ J ss wr)
    (fun _ wr => wr.rangeLeft b W.heap.size)
  case atStart =>
    exact ⟨_, _, [], hrg0, by simp, MetK.start D0, hJ [] W w0 none h0 hg0 (fun r e => by cases e)⟩
  case round =>
    obtain ⟨left, cnt, ss, hrg, hcs, hC, hJs⟩ := hrel
    gi_wp2_with (first
      | (gi_at_next; refine wpListIn_next_ranges _ rfl _ rfl 94 lawK (plainElem Tryz.prog 9) id id (fun key kl hk => ⟨key, rfl⟩) (fun v _ _ => ⟨v, rfl⟩) b W.heap.size nn _ _ _ rfl hrg ?_ ?_)
      | gi_in)
    · intro hc0 hl0
      gi_wp2
      go_end0
      exact ⟨⟨_, rfl⟩, .inl ⟨ss, ⟨hC.1, fun x => by rw [hC.2 x, hl0]; simp⟩, hJs⟩⟩
    · intro x c kl yd yp w2 cnt2 hkey hlk hv hat hrg2 hlt hg2 hs2 hen
      obtain ⟨x', rfl⟩ := hKT kl (has_true_of_atKey hat)
      obtain rfl : x = .agg (kyA x'.1) := lawK.inj hkey (kl_at x'.2)
      have hJ2 : J ss w2 := hJ ss wr w2 (some W.heap.size) hJs hg2 (fun r e => by cases e; exact ⟨Nat.le_refl _, hrg.iter_walk⟩)
      have hJ3 : J ss (w2.alloc (.cells (kyA x'.1) 94)) := hJ ss w2 _ none hJ2 (World.grownBy_alloc w2 _ none) (fun r e => by cases e)
      obtain ⟨fn, tmps, assign, body, hy, hR⟩ := hY ss x' (w2.alloc (.cells (kyA x'.1) 94)) hJ3 (by omega)
      have hrg2' := hrg2.of_walks (KeepsWalks.alloc w2 (.cells (kyA x'.1) 94))
      have hz := ky_nil
      have HW := Lib.hid (setRow_alloc w2 (kyA z6) (kyA x'.1) 94)
      have HX := Lib.hid x'.2.1
      clear hs2
      gi_wp2_with (first
        | (with_reducible (show wpListIn _ _ _ _ _ (_ :: _) _ _); refine wpListIn_store_rowK rfl 94 _ _ rfl w2.heap.size (kyA x'.1) rfl rfl 94 (kyA z6) (heap_alloc_new w2 _) (ky_size HX.out) (by rw [kyA_size z6_len, kyA_size HX.out]) (kyA_one x'.1) ?_; rw [HW.out])
        | (with_reducible (show wpListIn _ _ _ _ _ (_ :: _) _ _); refine wpListIn_load_rowK rfl 94 _ rfl w2.heap.size rfl 94 (kyA x'.1) (0, 0) _ (heap_alloc_new w2 _) Tryz.underlying94 rfl (ky_size HX.out) ?_)
        | gi_in)
      refine hR.mono ?_
      have hC2 := hC.step hlk hat
      rintro e W3 (⟨rfl, hJ4, hk3⟩ | ⟨rfl, hJx3⟩)
      · gi_wp2
        have hrg3 := hrg2'.of_walks hk3
        go_roundw
        case rel => exact ⟨_, cnt2, ss ++ [x'], hrg3, by simp; omega, hC2, hJ4⟩
        case measure => rw [hrg3.left_eq, hrg.left_eq]; exact hlt
      · gi_wp2
        refine bodyPost_ret (results_none rfl _ _ _) rfl ?_
        exact ⟨⟨_, rfl⟩, .inr ⟨ss ++ [x'], trivial, hJx3⟩⟩
theorem keysK_stops (n : Nat) (hn : 1 ≤ n) (Bm b nn : Nat) (D0 : MD) (hKT : KeysT D0) (w : World) (hBm : Bm < w.heap.size) (hm : w.cell? ⟨Bm, 0, none⟩ = some (.map (some b))) (hown : MapAt w b nn D0) :
    SeqStopsK Fence.wide n Tryz.prog 136 #[.pointer (some ⟨Bm, 0, none⟩)] (fun x : Kyt => #[Value.agg (kyA x.1)]) KeepsWalks (fun ss => ss.Nodup ∧ ∀ x, x ∈ ss ↔ Maps.has D0 x.lit = true) (fun _ => True) (Maps.size D0) w := fun l J Jx W hW hJ _ hY h0 =>
  keysK1_in n hn l Bm b nn D0 hKT J Jx hY W hJ ((hW.cell (p := ⟨Bm, 0, none⟩) hBm).trans hm) (MapAt.below hown hW hown.lt) h0
set_option maxHeartbeats 1000000 in
theorem keysK_in (n : Nat) (mb : Option Nat) (w : World) :
    CallsIn Fence.wide n Tryz.prog 118 #[.map mb] w fun e w' => e = .returned (.func (.func 136) #[] #[.pointer (some ⟨w.heap.size, 0, none⟩)]) ∧ w' = w.alloc (.cells #[.map mb] 59) := by
  refine callsIn_of_wp Tryz.func118 rfl trivial ?_ rfl
  simp only [Tryz.ntmps118, List.size_toArray, List.length_cons, List.length_nil, Nat.reduceAdd, Nat.reduceSub, Array.replicate_succ, Array.replicate_zero, List.push_toArray, List.append_toArray, List.nil_append, List.cons_append]
  gi_wp2
  go_ret
  exact ⟨rfl, rfl⟩
theorem infoKy : (Tryz.prog.info? 94).map (fun i => (i.zero, i.size, i.bytes)) = some (some (.agg #[.int .i64 0, .int .i64 0, .int .i64 0, .int .i64 0, .int .i64 0, .int .i64 0]), 6, 48) := by kernel_rfl
theorem cell_six (w : World) (vs : List Value) (t : TypeId) : ∀ j u, vs[j]? = some u → (w.alloc (.cells vs.toArray t)).cell? ((⟨w.heap.size, 0, none⟩ : Addr).add j) = some u := by
  intro j u hj
  rw [show (⟨w.heap.size, 0, none⟩ : Addr).add j = ⟨w.heap.size, 0 + j, none⟩ from Go.WideShapes.add_plain .., Nat.zero_add, cell_new]
  simpa using hj
/-- The cells of keys in a row. -/
def kyCells (ss : List Kyt) : List Value := ss.flatMap Kyt.vals
theorem kyCells_snoc (ss : List Kyt) (x : Kyt) : kyCells (ss ++ [x]) = kyCells ss ++ x.vals := by unfold kyCells; simp
set_option maxRecDepth 100000 in
set_option maxHeartbeats 2000000 in
/-- 'slices.AppendSeq' at nil: a slice that owns what has come. -/
theorem appendSeqK_in (n : Nat) (hn : 3 ≤ n) (g : Nat) (lb : Array Value) (eg : ∀ args w, (callFunc g args).run Tryz.prog w = .ok (.enter g args) w) (S Sp : List Kyt → Prop) (N : Nat) (hN : N ≤ 4294967) (w : World)
    (hseq : SeqStopsK Fence.wide (n - 1) Tryz.prog g lb (fun x : Kyt => #[Value.agg (kyA x.1)]) KeepsWalks S Sp N w) :
    CallsIn Fence.wide n Tryz.prog 145 #[.slice none 0 0, .func (.func g) #[] lb] w fun e W' => ∃ (v : Value) (xs : List Kyt), e = .returned v ∧ S xs ∧ W'.ownsRow w.heap.size 94 6 v xs.length (kyCells xs) ∧ Below w.heap.size w W' := by
  have h1 : 1 ≤ n := by omega
  obtain ⟨i0, hi, hz0, hz1, hz2⟩ := info_parts infoKy
  refine callsIn_of_wp_marks Tryz.func145 rfl trivial ?_ rfl
  simp only [Tryz.ntmps145, List.size_toArray, List.length_cons, List.length_nil, Nat.reduceAdd, Nat.reduceSub, Array.replicate_succ, Array.replicate_zero, List.push_toArray, List.append_toArray, List.nil_append, List.cons_append]
  gi_wp2
  have bO := Boxed.new w 128 (.slice none 0 0)
  have hB0 : Below w.heap.size w (w.alloc (.cells #[.slice none 0 0] 128)) := (Below.refl _ w).alloc (Nat.le_refl _) _
  refine wpIn_rangeFunc_ownH rfl h1 (gf := g) (lb := lb) rfl trivial eg hseq walksK_t walksK_b hB0 (fun _ => rfl)
    (fun (pre : List Kyt) W => (∃ v, Boxed W w.heap.size 128 v ∧ W.ownsRow w.heap.size 94 6 v pre.length (kyCells pre) ∧ True) ∧ Below w.heap.size w W)
    (fun _ _ _ => False)
    (OwnFrom.and (Own.from (holdsRow_own w.heap.size w.heap.size 128 94 6 (fun pre : List Kyt => pre.length) kyCells (fun _ _ => True)) _) (ownFrom_below (Nat.le_refl _) (by simp)))
    (fun _ _ _ _ _ hs _ _ => hs)
    ⟨⟨_, bO, World.ownsRow_nil _ _ _ _, trivial⟩, hB0⟩
    (fun x a' W => ∃ vb, a' = { tmps := #[.slice none 0 0, .func (.func g) #[] lb, .pointer (some ⟨w.heap.size, 0, none⟩), undef, .slice none 0 0, .pointer (some ⟨vb, 0, none⟩), .func (.func g) #[] lb, .agg (kyA x.1), undef, undef, undef, undef, undef], defers := [] } ∧ W.heap[vb]? = some (.cells (kyA x.1) 94 (0, 0)) ∧ w.heap.size < vb) ?ax ?assign ?body ?done ?stop
  case ax =>
    rintro x a' _ X Y row ⟨vb, h1, h2, h3⟩ hg hr
    refine ⟨vb, h1, (hg.block vb (Array.getElem?_eq_some_iff.1 h2).1 (fun e => ?_)).trans h2, h3⟩
    obtain ⟨_, o, ho, hc⟩ := hr vb e.symm
    rw [h2] at ho
    cases ho
    cases hc
  case assign =>
    rintro l pre x W K ⟨⟨v, hv, hrow, _⟩, hB⟩ hK
    have hz := ky_nil
    have hW := setRow_alloc W (kyA z6) (kyA x.1) 94
    have HW := Lib.hid hW
    have HX := Lib.hid x.2.1
    clear hW
    gi_wp2_with (with_reducible (show wpListIn _ _ _ _ _ (_ :: _) _ _); refine wpListIn_store_rowK rfl 94 _ _ rfl W.heap.size (kyA x.1) rfl rfl 94 (kyA z6) (heap_alloc_new W _) (ky_size HX.out) (by rw [kyA_size z6_len, kyA_size HX.out]) (kyA_one x.1) ?_)
    rw [HW.out]
    refine hK _ _ ((KeepsOthers.alloc W _).from _) (KeepsOthers.alloc W _).walks ⟨⟨v, hv.alloc _, hrow.alloc _, trivial⟩, hB.alloc hB.size _⟩ ⟨W.heap.size, rfl, heap_alloc_new W _, ?_⟩
    exact hv.lt
  case body =>
    rintro l pre ⟨x, hx⟩ a' W hl _ ⟨⟨v, hv, hrow, _⟩, hB⟩ ⟨vb, rfl, hvb, hlt⟩ hlen
    have HS : Hid (kyCells (pre ++ [⟨x, hx⟩]) = kyCells pre ++ x.map (Value.int .i64)) := kyCells_snoc pre ⟨x, hx⟩
    obtain ⟨a, b, c, d, e, f, rfl⟩ := Pl.six hx.1
    have HS2 : Hid (kyCells (pre ++ [⟨[a, b, c, d, e, f], hx⟩]) = kyCells pre ++ [Value.int .i64 a, .int .i64 b, .int .i64 c, .int .i64 d, .int .i64 e, .int .i64 f]) := HS.out
    have hky : kyA [a, b, c, d, e, f] = #[.int .i64 a, .int .i64 b, .int .i64 c, .int .i64 d, .int .i64 e, .int .i64 f] := rfl
    have hc := hv.cell
    have HP : Hid ((pre ++ [(⟨[a, b, c, d, e, f], hx⟩ : Kyt)]).length = pre.length + 1) := by show _ = _; simp
    generalize (pre ++ [(⟨[a, b, c, d, e, f], hx⟩ : Kyt)]) = pre' at HS2 HP ⊢
    dsimp only at hvb ⊢
    rw [hky] at hvb ⊢
    clear HS hx hky
    gi_wp2_with (first
      | (with_reducible (show wpListIn _ _ _ _ _ (_ :: _) _ _); refine wpListIn_load_rowK rfl 94 _ rfl vb rfl 94 #[.int .i64 a, .int .i64 b, .int .i64 c, .int .i64 d, .int .i64 e, .int .i64 f] (0, 0) _ hvb Tryz.underlying94 rfl (by kernel_rfl) ?_)
      | (gi_at_builtin; refine wpListIn_append_own _ rfl _ _ 128 rfl w.heap.size 94 i0 (.agg #[.int .i64 0, .int .i64 0, .int .i64 0, .int .i64 0, .int .i64 0, .int .i64 0]) 6 48 Tryz.underlying128 hi hz0 hz1 hz2 rfl (by decide) _ _ _ rfl (hrow.alloc _) ⟨W.heap.size, 0, none⟩ 1 1 [.int .i64 a, .int .i64 b, .int .i64 c, .int .i64 d, .int .i64 e, .int .i64 f] rfl rfl (cell_six _ _ _) (by intro y hy; simp at hy; rcases hy with rfl | rfl | rfl | rfl | rfl | rfl <;> rfl) (by unfold maxLen; omega) (by omega) (by have := hB.size; simp; omega) ?_; intro v' w1 hown' hgrow _; obtain ⟨g', cap', rfl⟩ := ownsRow_succ hown'; obtain ⟨hv1, hv2, hr2, hk2, hb2⟩ := hv.appended (by decide) hrow hB.size (Nat.le_refl _) hown' hgrow; have hc1 := hv1.cell; have hf1 := hv1.frozen))
    exact ⟨hk2.from _, hk2.walks, ⟨_, hv2, by rw [HS2.out, HP.out]; exact hr2, trivial⟩, hB.trans hb2⟩
  case done =>
    rintro D ys W hD hS ⟨⟨v, hv, hrow, _⟩, hB⟩ hK
    have hc := hv.cell
    gi_wp2
    refine ⟨by simp, .inl ⟨_, _, rfl, run_takeDeferred hK, ?_⟩⟩
    exact ⟨_, results_tmp rfl _ _ _, v, ys, rfl, hS, ownsRow_putObj hrow _ hK rfl, hB.trans (belowK_b (w := w) (Nat.le_refl _) W D _ _ (by simp at hD; omega) hK rfl rfl)⟩
  case stop =>
    rintro D c pre W _ _ h _
    exact h.elim
set_option maxHeartbeats 1000000 in
theorem collectK_in (n : Nat) (hn : 4 ≤ n) (g : Nat) (lb : Array Value) (eg : ∀ args w, (callFunc g args).run Tryz.prog w = .ok (.enter g args) w) (S Sp : List Kyt → Prop) (N : Nat) (hN : N ≤ 4294967) (w : World)
    (hseq : SeqStopsK Fence.wide (n - 1 - 1) Tryz.prog g lb (fun x : Kyt => #[Value.agg (kyA x.1)]) KeepsWalks S Sp N w) :
    CallsIn Fence.wide n Tryz.prog 134 #[.func (.func g) #[] lb] w fun e W' => ∃ (v : Value) (xs : List Kyt), e = .returned v ∧ S xs ∧ W'.ownsRow w.heap.size 94 6 v xs.length (kyCells xs) ∧ Below w.heap.size w W' := by
  refine callsIn_of_wp Tryz.func134 rfl trivial ?_ rfl
  simp only [Tryz.ntmps134, List.size_toArray, List.length_cons, List.length_nil, Nat.reduceAdd, Nat.reduceSub, Array.replicate_succ, Array.replicate_zero, List.push_toArray, List.append_toArray, List.nil_append, List.cons_append]
  gi_wp2_with fail
  refine ⟨trivial, fun _ => by omega, ?_⟩
  refine (appendSeqK_in (n - 1) (by omega) g lb eg S Sp N hN _ hseq).mono ?_
  rintro e w' ⟨v, xs, rfl, hS, hrow, hb⟩
  gi_wp2
  go_ret
  exact ⟨v, xs, rfl, hS, hrow, hb⟩
/-! ### The row that is sorted -/
theorem kyCells_cons (x : Kyt) (r : List Kyt) : kyCells (x :: r) = x.vals ++ kyCells r := rfl
theorem kyCells_len : ∀ ss : List Kyt, (kyCells ss).length = ss.length * 6
  | [] => rfl
  | x :: r => by rw [kyCells_cons, List.length_append, x.len, kyCells_len r, List.length_cons]; omega
theorem kyCells_at : ∀ (ss : List Kyt) (t : Nat), t < ss.length * 6 → ∃ x y, ss[t / 6]? = some x ∧ x.vals[t % 6]? = some y ∧ (kyCells ss)[t]? = some y
  | [], t, h => by simp at h
  | x :: r, t, h => by
    rw [kyCells_cons]
    by_cases ht : t < 6
    · have h1 : t / 6 = 0 := by omega
      have h2 : t % 6 = t := by omega
      rw [h1, h2]
      refine ⟨x, x.vals[t]'(by rw [x.len]; exact ht), rfl, List.getElem?_eq_getElem _, ?_⟩
      rw [List.getElem?_append_left (by rw [x.len]; exact ht)]
      exact List.getElem?_eq_getElem _
    · obtain ⟨u, rfl⟩ : ∃ u, t = u + 6 := ⟨t - 6, by omega⟩
      rw [List.length_cons] at h
      obtain ⟨a, b, h1, h2, h3⟩ := kyCells_at r u (by omega)
      refine ⟨a, b, ?_, ?_, ?_⟩
      · rw [show (u + 6) / 6 = u / 6 + 1 by omega, List.getElem?_cons_succ]; exact h1
      · rw [show (u + 6) % 6 = u % 6 by omega]; exact h2
      · rw [List.getElem?_append_right (by rw [x.len]; omega), x.len, Nat.add_sub_cancel]; exact h3
theorem flat_ky (ss : List Kyt) : flatK Kyt.vals 6 ss.toArray = (kyCells ss).toArray := by
  refine ext_get! (by rw [size_flatK, List.size_toArray, List.size_toArray, kyCells_len]) fun t ht => ?_
  rw [size_flatK, List.size_toArray] at ht
  obtain ⟨x, y, h1, h2, h3⟩ := kyCells_at ss t ht
  rw [get_flatK _ _ _ _ (by rw [List.size_toArray]; exact ht)]
  simp only [getElem!_def, List.getElem?_toArray, h1, h2, h3]
theorem holds_ky {w : World} {g : Nat} {cur : Array Value} {e : TypeId} {ss : List Kyt} (hb : w.heap[g]? = some (.cells cur e (0, 0))) (ht : cur.toList.take (ss.length * 6) = kyCells ss) : HoldsK Kyt.vals 6 w g 0 ss.toArray := by
  unfold HoldsK
  rw [flat_ky]
  intro j hj
  have hj' : j < ss.length * 6 := by rw [List.size_toArray, kyCells_len] at hj; exact hj
  refine ⟨?_, by simp [World.frozen?, hb]⟩
  have h1 : (cur.toList.take (ss.length * 6))[j]? = (kyCells ss)[j]? := by rw [ht]
  rw [List.getElem?_take_of_lt hj'] at h1
  obtain ⟨x, y, _, _, h3⟩ := kyCells_at ss j hj'
  simp only [World.cell?, hb, Nat.zero_add]
  simp only [Option.isSome_none, Bool.false_eq_true, if_false]
  rw [← Array.getElem?_toList, h1]
  simp only [getElem!_def, List.getElem?_toArray, h3]
  rfl
theorem heap_ky {w : World} {g n : Nat} {os : Array Obj} {cur : Array Value} {e : TypeId} {fr : Nat × Nat} (ts : List Kyt) (hb : w.heap[g]? = some (.cells cur e fr)) :
    (sortWorldK Kyt.vals 6 w g 0 n ts.toArray os).heap[g]? = some (.cells (putCells id 0 (kyCells ts).toArray cur) e fr) := by
  have hg : g < w.heap.size := (Array.getElem?_eq_some_iff.1 hb).1
  unfold sortWorldK putRowK
  rw [flat_ky, heap_grow_old _ _ (by simpa using hg)]
  simp [putRow, mapBlock, Sort.ahead, Array.getElem?_modify, hb, onCells]
theorem grown_ky {w : World} {g n : Nat} {os : Array Obj} (d : Array Kyt) : w.grownBy (sortWorldK Kyt.vals 6 w g 0 n d os) (some g) := by
  unfold sortWorldK putRowK
  refine ⟨rfl, rfl, rfl, by simp, fun k hk hne => ?_⟩
  rw [heap_grow_old _ _ (by simpa using hk)]
  have : g ≠ k := fun e => hne (by rw [e])
  simp [putRow, mapBlock, Sort.ahead, Array.getElem?_modify, this]
theorem take_ky (cur : Array Value) (ts : List Value) (h : ts.length ≤ cur.size) : (putCells id 0 ts.toArray cur).toList.take ts.length = ts := by
  apply List.ext_getElem?
  intro j
  by_cases hj : j < ts.length
  · rw [List.getElem?_take_of_lt hj, Array.getElem?_toList]
    simp [putCells, hj, show j < cur.size by omega]
  · rw [List.getElem?_take_eq_none (by omega), List.getElem?_eq_none (by omega)]
theorem owns_ky {w : World} {base g cap n : Nat} {e : TypeId} {os : Array Obj} {cur : Array Value} {ss ts : List Kyt} (hl : ts.length = ss.length) (hbase : base ≤ g) (hb : w.heap[g]? = some (.cells cur e (0, 0)))
    (h1 : ss.length ≤ cap) (h2 : cap ≤ maxLen) (h3 : cur.size = cap * 6) :
    (sortWorldK Kyt.vals 6 w g 0 n ts.toArray os).ownsRow base e 6 (.slice (some ⟨g, 0, none⟩) ss.length cap) ss.length (kyCells ts) := by
  have hk := kyCells_len ts
  refine ⟨by rw [hk, hl], .inr ⟨g, cap, _, rfl, hbase, heap_ky _ hb, h1, h2, by simp [putCells, h3], ?_⟩⟩
  rw [← hl, ← hk]
  exact take_ky cur (kyCells ts) (by rw [hk, h3, hl]; omega)
end Go.Proofs.YthigdblloddepaaGreat

namespace Go.Proofs.YthigdblloddepaaGreat
set_option maxRecDepth 100000
open Go.RowKit Go.Shelf Go.Maps Go.Sort

set_option maxHeartbeats 2000000 in
theorem sCompare_same (v u : Value) (xs ys : List Int) (w : World) (h : IntsAt w v xs) (h' : IntsAt w u ys) (hn : xs.length ≤ 2097152) (_hm : ys.length ≤ 2097152) :
    Calls Tryz.prog 119 #[v, u] w fun e w' => e = .returned (.int .i64 (Pl.cmp xs ys)) ∧ w' = w := by
  obtain ⟨a, cap, rfl, hcap, hC⟩ := h.cells
  obtain ⟨b, cap', rfl, hcap', hD⟩ := h'.cells
  obtain ⟨n, hnn⟩ : ∃ n, n = xs.length := ⟨_, rfl⟩
  obtain ⟨m, hmm⟩ : ∃ m, m = ys.length := ⟨_, rfl⟩
  rw [← hnn] at hn hcap ⊢
  rw [← hmm] at hcap' ⊢
  have HN := Lib.hid hnn
  have HM := Lib.hid hmm
  have HC := Lib.hid hC
  have HD := Lib.hid hD
  clear h h' hnn hmm hC hD
  go_enter Tryz.func119, Tryz.ntmps119
  go_wp2_with fail
  go_loopw [11] (fun i wr => ∃ k : Nat, i = .int .i64 k ∧ k ≤ n ∧ k ≤ m ∧ Hid (xs.take k = ys.take k) ∧ wr = w) (fun i _ => n - (intOf i).toNat)
  case atStart => exact ⟨0, rfl, Nat.zero_le _, Nat.zero_le _, Lib.hid rfl, rfl⟩
  case round =>
    obtain ⟨k, rfl, hk, hk', HT, hbel⟩ := hrel
    subst hbel
    by_cases hlt1 : k < n
    · obtain ⟨x, hx⟩ : ∃ x, xs[k]? = some x := ⟨_, List.getElem?_eq_getElem (by rw [← HN.out]; exact hlt1)⟩
      obtain ⟨bk, o, rfl, _, g0⟩ := HC.out _ (Below.refl _ _) k x hx
      by_cases hlt2 : k < m
      · obtain ⟨y, hy⟩ : ∃ y, ys[k]? = some y := ⟨_, List.getElem?_eq_getElem (by rw [← HM.out]; exact hlt2)⟩
        obtain ⟨bk', o', rfl, _, g1⟩ := HD.out _ (Below.refl _ _) k y hy
        have hcmp := Pl.cmp_at HT.out hx hy
        have c := fun w => Tryz.cmp_Compare_int x y w
        have hnl : ¬ ((m : Int) ≤ (k : Int)) := by omega
        by_cases h1 : x < y
        · rw [if_pos h1] at hcmp
          rw [cmpI_lt h1] at c
          have HR := Lib.hid hcmp
          have C := Lib.hid c
          clear hcmp hx hy HT c
          go_wp2_with fail
          refine (C.out _).mono ?_
          rintro e w1 ⟨rfl, rfl⟩
          go_wp2
          go_ret
          exact ⟨ret_int HR.out.symm, rfl⟩
        · rw [if_neg h1] at hcmp
          by_cases h2 : y < x
          · rw [if_pos h2] at hcmp
            rw [cmpI_gt h2] at c
            have HR := Lib.hid hcmp
            have C := Lib.hid c
            clear hcmp hx hy HT c
            go_wp2_with fail
            refine (C.out _).mono ?_
            rintro e w1 ⟨rfl, rfl⟩
            go_wp2
            go_ret
            exact ⟨ret_int HR.out.symm, rfl⟩
          · obtain rfl : x = y := by omega
            rw [cmpI_eq] at c
            have HT2 := Lib.hid (Pl.take_next HT.out hx hy)
            have C := Lib.hid c
            clear hcmp hx hy HT c
            go_wp2_with fail
            refine (C.out _).mono ?_
            rintro e w1 ⟨rfl, rfl⟩
            go_wp2
            go_roundw
            case rel => exact ⟨k + 1, by go_num, by omega, by omega, HT2, by first | rfl | trivial⟩
            case measure => simp [intOf]; omega
      · have hcmp := Pl.cmp_end HT.out (by rw [← HN.out]; exact hk) (by rw [← HM.out]; exact hk') (by rw [← HN.out, ← HM.out]; omega)
        rw [← HN.out, ← HM.out, if_neg (by omega), if_pos (by omega)] at hcmp
        have HR := Lib.hid hcmp
        have hle : (m : Int) ≤ (k : Int) := by omega
        clear hcmp hx HT
        go_wp2
        go_ret
        exact ⟨ret_int HR.out.symm, rfl⟩
    · have hcmp := Pl.cmp_end HT.out (by rw [← HN.out]; exact hk) (by rw [← HM.out]; exact hk') (by rw [← HN.out, ← HM.out]; omega)
      rw [← HN.out, ← HM.out] at hcmp
      have hkn : ¬ ((k : Int) < (n : Int)) := by omega
      by_cases h1 : n < m
      · rw [if_pos h1] at hcmp
        have HR := Lib.hid hcmp
        have h1' : (n : Int) < (m : Int) := by omega
        clear hcmp HT
        go_wp2
        go_ret
        exact ⟨ret_int HR.out.symm, rfl⟩
      · rw [if_neg h1, if_neg (by omega)] at hcmp
        have HR := Lib.hid hcmp
        have h1' : ¬ (n : Int) < (m : Int) := by omega
        clear hcmp HT
        go_wp2
        go_ret
        exact ⟨ret_int HR.out.symm, rfl⟩
set_option maxHeartbeats 1000000 in
theorem cmpKG_any (x y : Kyt) (W : World) :
    Calls Tryz.prog 92 #[.agg (kyA x.1), .agg (kyA y.1)] W fun e w' => e = .returned (.int .i64 (cmpT x y)) ∧ ∃ q os', w' = grow (W.drewN q) os' := by
  have mixed : Tryz.prog.follows .mixedOrders = true := by kernel_rfl
  obtain ⟨l, hl, _⟩ := x
  obtain ⟨m, hm, _⟩ := y
  have K1 : KyB ((W.alloc (.cells (kyA l) 94)).alloc (.cells (kyA m) 94)) W.heap.size l := (KyB.new W _).below (below_al _ _) (by simp)
  have K2 : KyB ((W.alloc (.cells (kyA l) 94)).alloc (.cells (kyA m) 94)) (W.heap.size + 1) m := by
    have := KyB.new (W.alloc (.cells (kyA l) 94)) m
    rwa [World.size_alloc] at this
  obtain ⟨W1, hW⟩ : ∃ W1, W1 = (W.alloc (.cells (kyA l) 94)).alloc (.cells (kyA m) 94) := ⟨_, rfl⟩
  rw [← hW] at K1 K2
  have C2 : Hid (∀ n os, Calls Tryz.prog 119 #[.slice (some ⟨W.heap.size, 0, none⟩) 6 6, .slice (some ⟨W.heap.size + 1, 0, none⟩) 6 6] (grow (W1.drewN n) os) fun e w'' => e = .returned (.int .i64 (Pl.cmp l m)) ∧ ∃ p : GrownBy, w'' = grow (W1.drewN p.n) p.os) := by
    intro n os
    have hb : Below W1.heap.size W1 (grow (W1.drewN n) os) := below_regrown W1 _ os
    refine Calls.grown_of ((sCompare_same _ _ l m _ ((K1.ints hl).below hb) ((K2.ints hm).below hb) (by omega) (by omega)).mono ?_)
    rintro e w' ⟨he, hw⟩
    exact ⟨he, 0, #[], by rw [hw, grow_empty]; rfl⟩
  have HW := Lib.hid hW
  clear K1 K2 hW
  show Calls _ _ _ _ fun e w' => e = .returned (.int .i64 (Pl.cmp l m)) ∧ _
  go_enter Tryz.func92, Tryz.ntmps92
  go_wp2_with fail
  rw [← HW.out]
  go_quiet_grown (exact C2.out _ _)
  go_wp2
  go_ret
  refine ⟨rfl, nq, #[.cells (kyA l) 94] ++ #[.cells (kyA m) 94] ++ osq, ?_⟩
  rw [HW.out, alloc_eq_grow, alloc_eq_grow, grow_grow]
  show grow (grow (W.drewN nq) _) osq = _
  rw [grow_grow]
set_option maxHeartbeats 1000000 in
/-- The sort of a row of keys. -/
theorem sortF_any (es : List Ent) (ho : okD es = true) (w1 : World) (g cap : Nat) (ss : List Kyt) (cur : Array Value) (hg : w1.heap[g]? = some (.cells cur 94 (0, 0))) (ht : cur.toList.take (ss.length * 6) = kyCells ss) (hp : ss.Perm (keysE es)) (hsz : ss.length ≤ 1000) :
    Calls Tryz.prog 135 #[.slice (some ⟨g, 0, none⟩) ss.length cap, .func (.func 92) #[] #[]] w1 fun e w' => e = .returned (.tuple #[]) ∧ ∃ n os, w' = sortWorldK Kyt.vals 6 w1 g 0 n (keysE es).toArray os := by
  have eg : ∀ args w, (callFunc 92 args).run Tryz.prog w = .ok (.enter 92 args) w := enters_of Tryz.func92 (by kernel_rfl) rfl
  have h := AnyQ.slices_SortFunc_total Tryz.laysSortK 6 (fun w => by kernel_rfl) (fun w => by kernel_rfl) Kyt.vals Kyt.len Kyt.one cmpT cmpT_swo 92 #[] g 0 cap ss.toArray w1 eg (fun _ _ _ _ x y => cmpKG_any x y _) (holds_ky hg ht) (Array.getElem?_eq_some_iff.1 hg).1 (by rw [List.size_toArray]; omega) cmpT_parts
  rw [List.size_toArray] at h
  refine Calls.mono h ?_
  rintro e w' ⟨he, n, os, hw⟩
  refine ⟨he, n, os, ?_⟩
  rw [hw]
  congr 1
  rw [show (ss.toArray).toList = ss from rfl, sort_one hp (keysE_inc ho)]
set_option maxHeartbeats 1000000 in
theorem sorted_any (Bm b nn : Nat) (D : MD) (es : List Ent) (w : World) (hBm : Bm < w.heap.size) (hm : w.cell? ⟨Bm, 0, none⟩ = some (.map (some b))) (hown : MapAt w b nn D) (hR : Reps D es) (ho : okD es = true) :
    Calls Tryz.prog 117 #[.func (.func 136) #[] #[.pointer (some ⟨Bm, 0, none⟩)], .func (.func 92) #[] #[]] w fun e w' => (∃ v, e = .returned v ∧ w'.ownsRow w.heap.size 94 6 v es.length (kyCells (keysE es))) ∧ Below w.heap.size w w' := by
  have hel : es.length ≤ 40 := (okD_parts ho).1
  have CC := Lib.hid ((callsIn_wide (n := 9)).1 (collectK_in 9 (by omega) _ _ (enters_of Tryz.func136 (by kernel_rfl) rfl) (fun ss => ss.Nodup ∧ ∀ x, x ∈ ss ↔ Maps.has D x.lit = true) (fun _ => True) (Maps.size D) (by rw [hR.size]; omega) w (keysK_stops 7 (by omega) Bm b nn D hR.keys w hBm hm hown)))
  have CS := Lib.hid (fun w1 g cap ss cur hg ht hp hsz => sortF_any es ho w1 g cap ss cur hg ht hp hsz)
  have CN := Lib.hid (fun w1 a cap => AnyF.slices_SortFunc_none Tryz.laysSortK a cap (.func (.func 92) #[] #[]) w1)
  have HP := Lib.hid (fun ss h1 h2 => keysE_perm (ss := ss) hR ho h1 h2)
  clear hm hown
  go_enter Tryz.func117, Tryz.ntmps117
  go_wp2_with fail
  refine CC.out.mono ?_
  rintro e w1 ⟨v, ss, rfl, ⟨hn, hmem⟩, hrow, hb⟩
  have hp := HP.out ss hn hmem
  have hlen : ss.length = es.length := by have := hp.length_eq; rwa [show (keysE es).length = es.length from List.length_map ..] at this
  rcases hrow.2 with ⟨rfl, h0⟩ | ⟨g, cap, cur, rfl, hbase, hg, hle, hcm, hsz, htake⟩
  · have he0 : es = [] := List.length_eq_zero_iff.1 (by omega)
    subst he0
    have HB := Lib.hid hb
    clear hp hlen h0 hrow hn hmem hb CC CS HP
    go_wp2_with fail
    refine (CN.out _ _ _).mono ?_
    rintro e w2 ⟨rfl, rfl⟩
    go_wp2
    go_ret
    exact ⟨⟨_, rfl, World.ownsRow_nil _ _ _ _⟩, HB.out⟩
  · have HS := Lib.hid (CS.out w1 g cap ss cur hg htake hp (by omega))
    have HO : Hid (∀ n os, (sortWorldK Kyt.vals 6 w1 g 0 n (keysE es).toArray os).ownsRow w.heap.size 94 6 (.slice (some ⟨g, 0, none⟩) ss.length cap) ss.length (kyCells (keysE es))) :=
      fun n os => owns_ky (by rw [hlen]; exact List.length_map ..) hbase hg hle hcm hsz
    have HB : Hid (∀ n os, Below w.heap.size w (sortWorldK Kyt.vals 6 w1 g 0 n (keysE es).toArray os)) := fun n os => hb.grown (grown_ky _) hb.size (fun k e => by cases e; exact hbase)
    have HL := Lib.hid hlen
    clear hp hlen hrow hn hmem hb CC CS HP hg hle hcm hsz htake CN
    go_wp2_with fail
    refine HS.out.mono ?_
    rintro e w2 ⟨rfl, n, os, rfl⟩
    have HO2 := Lib.hid (HO.out n os)
    have HB2 := Lib.hid (HB.out n os)
    generalize sortWorldK Kyt.vals 6 w1 g 0 n (keysE es).toArray os = w2 at HO2 HB2 ⊢
    clear HS HO HB
    go_wp2
    go_ret
    refine ⟨⟨_, rfl, ?_⟩, HB2.out⟩
    have := HO2.out
    rw [HL.out] at this ⊢
    exact this
set_option maxHeartbeats 1000000 in
theorem sortedKeys_any (b nn : Nat) (D : MD) (es : List Ent) (w : World) (hown : MapAt w b nn D) (hR : Reps D es) (ho : okD es = true) :
    Calls Tryz.prog 91 #[.map (some b), .func (.func 92) #[] #[]] w fun e w' => (∃ v, e = .returned v ∧ w'.ownsRow w.heap.size 94 6 v es.length (kyCells (keysE es))) ∧ Below w.heap.size w w' := by
  have CK := Lib.hid ((callsIn_wide (n := 9)).1 (keysK_in 9 (some b) w))
  have hb0 : Below w.heap.size w (w.alloc (.cells #[.map (some b)] 59)) := below_al _ _
  have CS := Lib.hid (sorted_any w.heap.size b nn D es (w.alloc (.cells #[.map (some b)] 59)) (by simp) (by rw [cell_new]; rfl) (hown.below hb0 hown.lt) hR ho)
  have HB := Lib.hid hb0
  clear hb0 hown
  go_enter Tryz.func91, Tryz.ntmps91
  go_wp2_with fail
  refine CK.out.mono ?_
  rintro e w1 ⟨rfl, rfl⟩
  go_wp2_with fail
  refine CS.out.mono ?_
  rintro e w2 ⟨⟨v, rfl, hrow⟩, hb⟩
  have HO := Lib.hid (ownsRow_mono hrow (show w.heap.size ≤ _ by simp))
  have HB2 := Lib.hid (below_step HB.out hb)
  clear hrow hb CK CS HB
  go_wp2
  go_ret
  exact ⟨⟨_, rfl, HO.out⟩, HB2.out⟩
end Go.Proofs.YthigdblloddepaaGreat

namespace Go.Proofs.YthigdblloddepaaGreat
set_option maxRecDepth 100000
open Go.RowKit

/-- The strokes of a key. -/
def nz (l : List Int) : List Int := l.filter fun x => decide (x ≠ 0)
theorem nz_key {xs : List Int} (h : okO xs = true) : nz (keyL xs) = xs := by
  rw [keyL_yes h]
  unfold Pl.pad nz
  rw [List.filter_append, List.filter_eq_self.2 (fun x hx => by have := okO_pos h x hx; rw [decide_eq_true_eq]; omega), List.filter_eq_nil_iff.2 (fun x hx => by rw [(List.mem_replicate.1 hx).2]; decide), List.append_nil]
theorem nz_zero {l : List Int} {k : Nat} (h : l[k]? = some 0) : nz (l.take (k + 1)) = nz (l.take k) := by
  unfold nz; rw [List.take_add_one, h, List.filter_append]; simp
theorem nz_more {l : List Int} {k : Nat} {x : Int} (h : l[k]? = some x) (hx : x ≠ 0) : nz (l.take (k + 1)) = nz (l.take k) ++ [x] := by
  unfold nz; rw [List.take_add_one, h, List.filter_append]; simp [hx]
theorem nz_len (l : List Int) : (nz l).length ≤ l.length := List.length_filter_le _ _
theorem run_idx6_0 (a b c d e f : Int) (w : World) : (Instr.index 94 (.agg (kyA [a, b, c, d, e, f])) (.int .i64 0)).run Tryz.prog w = .ok (.int .i64 a) w := by kernel_rfl
theorem run_idx6_1 (a b c d e f : Int) (w : World) : (Instr.index 94 (.agg (kyA [a, b, c, d, e, f])) (.int .i64 1)).run Tryz.prog w = .ok (.int .i64 b) w := by kernel_rfl
theorem run_idx6_2 (a b c d e f : Int) (w : World) : (Instr.index 94 (.agg (kyA [a, b, c, d, e, f])) (.int .i64 2)).run Tryz.prog w = .ok (.int .i64 c) w := by kernel_rfl
theorem run_idx6_3 (a b c d e f : Int) (w : World) : (Instr.index 94 (.agg (kyA [a, b, c, d, e, f])) (.int .i64 3)).run Tryz.prog w = .ok (.int .i64 d) w := by kernel_rfl
theorem run_idx6_4 (a b c d e f : Int) (w : World) : (Instr.index 94 (.agg (kyA [a, b, c, d, e, f])) (.int .i64 4)).run Tryz.prog w = .ok (.int .i64 e) w := by kernel_rfl
theorem run_idx6_5 (a b c d e f : Int) (w : World) : (Instr.index 94 (.agg (kyA [a, b, c, d, e, f])) (.int .i64 5)).run Tryz.prog w = .ok (.int .i64 f) w := by kernel_rfl
/-- An index into a key. -/
theorem run_idx6 (l : List Int) (hl : l.length = 6) (k : Nat) (z : Int) (hz : l[k]? = some z) (w : World) : (Instr.index 94 (.agg (kyA l)) (.int .i64 (k : Int))).run Tryz.prog w = .ok (.int .i64 z) w := by
  have hk : k < 6 := by rw [← hl]; exact (List.getElem?_eq_some_iff.1 hz).1
  obtain ⟨a, b, c, d, e, f, rfl⟩ := Pl.six hl
  have hcase : k = 0 ∨ k = 1 ∨ k = 2 ∨ k = 3 ∨ k = 4 ∨ k = 5 := by omega
  rcases hcase with rfl | rfl | rfl | rfl | rfl | rfl
  all_goals
    simp at hz
    subst hz
  · exact run_idx6_0 ..
  · exact run_idx6_1 ..
  · exact run_idx6_2 ..
  · exact run_idx6_3 ..
  · exact run_idx6_4 ..
  · exact run_idx6_5 ..
set_option maxHeartbeats 4000000 in
theorem outlineK_any (l : List Int) (hl : l.length = 6) (w : World) :
    Calls Tryz.prog 93 #[.agg (kyA l)] w fun r w' => (∃ v, r = .returned v ∧ w'.ownsRow w.heap.size 3 1 v (nz l).length ((nz l).map (.int .i64))) ∧ Below w.heap.size w w' := by
  obtain ⟨i0, hi, hz0, hz1, hz2⟩ := info_parts infoInt
  have K0 : Hid (KyB (w.alloc (.cells (kyA l) 94)) w.heap.size l) := KyB.new w l
  have HE : Hid (nz (l.take 6) = nz l) := by show _ = _; rw [List.take_of_length_le (by omega)]
  have HL := Lib.hid hl
  have HI := Lib.hid (fun k z hz w => run_idx6 l hl k z hz w)
  clear hl
  go_enter Tryz.func93, Tryz.ntmps93
  go_wp2_with (with_reducible (show wpList _ _ _ (_ :: _) _ _); refine ky_load w.heap.size l HL.out rfl rfl rfl K0.out ?_)
  go_loopw [3, 7] (fun o i wr => ∃ k : Nat, i = .int .i64 k ∧ k ≤ 6 ∧ Hid (wr.ownsRow w.heap.size 3 1 o (nz (l.take k)).length ((nz (l.take k)).map (.int .i64))) ∧ Hid (Below w.heap.size w wr)) (fun _ i _ => 6 - (intOf i).toNat)
  case atStart => exact ⟨0, rfl, by omega, World.ownsRow_nil _ _ _ _, below_al _ _⟩
  case round =>
    obtain ⟨k, rfl, hk, HO, HB⟩ := hrel
    by_cases hlt : k < 6
    · obtain ⟨x, hx⟩ : ∃ x, l[k]? = some x := ⟨_, List.getElem?_eq_getElem (by rw [HL.out]; exact hlt)⟩
      have hidx := fun w => HI.out k x hx w
      have hsz := HB.out.size
      have hgl : (nz (l.take k)).length ≤ 6 := Nat.le_trans (nz_len _) (by rw [List.length_take]; omega)
      by_cases h0 : x = 0
      · have HG1 : Hid (nz (l.take (k + 1)) = nz (l.take k)) := by subst h0; exact nz_zero hx
        clear HE hx hgl
        go_wp2
        go_roundw
        case rel => exact ⟨k + 1, by go_num, by omega, by show World.ownsRow _ _ _ _ _ _ _; rw [HG1.out]; exact HO.out, HB⟩
        case measure => simp [intOf]; omega
      · have HG1 : Hid (nz (l.take (k + 1)) = nz (l.take k) ++ [x]) := nz_more hx h0
        clear HE hx
        go_wp2_with (at_builtin; refine push_int hi hz0 hz1 hz2 rfl (.tmp 12) (.tmp 14) rfl w.heap.size _ (nz (l.take k)) rfl HO.out x rfl hsz (by omega) ?_)
        intro v5 w5 hown hg5 _
        have HO5 : Hid (w5.ownsRow w.heap.size 3 1 v5 (nz (l.take (k + 1))).length ((nz (l.take (k + 1))).map (.int .i64))) := by
          show World.ownsRow _ _ _ _ _ _ _
          rw [HG1.out, List.length_append, List.map_append]; exact hown
        have HB5 : Hid (Below w.heap.size w w5) := HB.out.grown hg5 hsz (fun j hj => (HO.out.lt j hj).1)
        clear hown hg5
        go_wp2
        go_roundw
        case rel => exact ⟨k + 1, by go_num, by omega, HO5, HB5⟩
        case measure => simp [intOf]; omega
    · obtain rfl : k = 6 := by omega
      have HO2 : Hid (wr.ownsRow w.heap.size 3 1 u3 (nz l).length ((nz l).map (.int .i64))) := by
        have := HO.out
        rw [HE.out] at this
        exact this
      clear HO HE
      go_wp2
      go_ret
      exact ⟨⟨_, rfl, HO2.out⟩, HB.out⟩
/-- A key's cells in a row of keys. -/
theorem ky_row_cell {w : World} {base : Nat} {v : Value} {es : List Ent} (h : w.ownsRow base 94 6 v es.length (kyCells (keysE es))) {j : Nat} {e : Ent} (hj : es[j]? = some e) :
    ∃ g cap, v = .slice (some ⟨g, 0, none⟩) es.length cap ∧ base ≤ g ∧ g < w.heap.size ∧ ∀ i y, (keyL e.1)[i]? = some y → w.cell? ⟨g, j * 6 + i, none⟩ = some (.int .i64 y) := by
  have hjl := (List.getElem?_eq_some_iff.1 hj).1
  rcases h.2 with ⟨rfl, h0⟩ | ⟨g, cap, cur, rfl, hbase, hg, hle, hcm, hsz, htake⟩
  · omega
  · refine ⟨g, cap, rfl, hbase, (Array.getElem?_eq_some_iff.1 hg).1, fun i y hi => ?_⟩
    have hi6 : i < 6 := by rw [← keyL_len e.1]; exact (List.getElem?_eq_some_iff.1 hi).1
    have hlt : j * 6 + i < es.length * 6 := by omega
    obtain ⟨x, z, h1, h2, h3⟩ := kyCells_at (keysE es) (j * 6 + i) (by rw [show (keysE es).length = es.length from List.length_map ..]; exact hlt)
    rw [show (j * 6 + i) / 6 = j by omega] at h1
    rw [show (j * 6 + i) % 6 = i by omega] at h2
    unfold keysE at h1
    rw [List.getElem?_map, hj] at h1
    have hx : keyT e.1 = x := by simpa using h1
    subst hx
    have hz : z = .int .i64 y := by
      unfold Kyt.vals at h2
      rw [List.getElem?_map, show (keyT e.1).1 = keyL e.1 from rfl, hi] at h2
      simpa using h2.symm
    subst hz
    rw [← htake, List.getElem?_take_of_lt hlt] at h3
    simp only [Array.getElem?_toList] at h3
    simp [World.cell?, hg, h3]
theorem ky_row_form {w : World} {base : Nat} {v : Value} {n : Nat} {xs : List Value} (h : w.ownsRow base 94 6 v n xs) : ∃ a c, v = .slice a n c := by
  rcases h.2 with ⟨rfl, h0⟩ | ⟨g, cap, cur, rfl, _⟩
  · exact ⟨_, _, by rw [h0]⟩
  · exact ⟨_, _, rfl⟩
/-- A text looked up in a map of texts. -/
theorem lookup_ownD {ops : Array Oper} {rest : List Oper} {o : Oper} {a : Act} {w : World} {Q : Exit → Act → World → Prop} (hg : o.guard = none) (m x : Operand) (hop : o.op = Op.lookup 59 m x false)
    (b n : Nat) (D : MD) (hm : a.eval m = .map (some b)) (hown : MapAt w b n D) (key : Value) (kl : Lit) (hx : a.eval x = key) (hkey : keyOf Tryz.prog 94 key = some kl) (t : ByteArray) (ht : ∀ zd, D.atKey kl zd = litT t)
    (hK : wpList Tryz.prog ops Q rest (a.put o.dst (.string t)) w) : wpList Tryz.prog ops Q (o :: rest) a w := by
  refine wpList_plain hg fun K' hK' => ?_
  obtain ⟨v, ps, hrun, hv⟩ := World.ownsMap.lookup hown lawK Tryz.underlying59 (zeroS w) (plainElem_string Tryz.underlying9 (by decide)) hkey
  rw [ht] at hv
  obtain ⟨s', rfl, h1, _⟩ := plainElem_string_inv Tryz.underlying9 hv
  have h2 := congrArg Prod.fst h1
  simp only [litT] at h2
  injection h2 with h2
  injection h2 with h2
  obtain rfl : t = s' := ByteArray.ext (Array.toList_inj.1 h2)
  unfold Oper.wp
  simp [execOp, hop, hm, hx, hrun, Result.andThen]
  exact hK' _ _ hK
theorem KyB.cells6 {w : World} {g : Nat} {a b c d e f : Int} (h : KyB w g [a, b, c, d, e, f]) : w.cell? ⟨g, 0, none⟩ = some (.int .i64 a) ∧ w.cell? ⟨g, 1, none⟩ = some (.int .i64 b) ∧ w.cell? ⟨g, 2, none⟩ = some (.int .i64 c) ∧ w.cell? ⟨g, 3, none⟩ = some (.int .i64 d) ∧ w.cell? ⟨g, 4, none⟩ = some (.int .i64 e) ∧ w.cell? ⟨g, 5, none⟩ = some (.int .i64 f) := by
  refine ⟨?_, ?_, ?_, ?_, ?_, ?_⟩ <;> (unfold World.cell?; simp only [show w.heap[g]? = _ from h]; rfl)
set_option maxHeartbeats 4000000 in
theorem dictOf_any (b nn : Nat) (D : MD) (es : List Ent) (w : World) (hown : MapAt w b nn D) (hR : Reps D es) (ho : okD es = true) :
    Calls Tryz.prog 54 #[.map (some b)] w fun r w' => (∃ v us, r = .returned (dV v) ∧ RowX w' w.heap.size v us ∧ us.map (·.2) = es) ∧ Below w.heap.size w w' := by
  obtain ⟨hlen, hok, _⟩ := okD_parts ho
  obtain ⟨q0, q1⟩ : BoxV ((w.alloc (.cells #[.slice none 0 0] 26)).alloc (.cells #[.slice none 0 0] 26)) w.heap.size 26 (.slice none 0 0) ∧ BoxV ((w.alloc (.cells #[.slice none 0 0] 26)).alloc (.cells #[.slice none 0 0] 26)) (w.heap.size + 1) 26 (.slice none 0 0) := by
    have h1 := BoxV.new (w.alloc (.cells #[.slice none 0 0] 26)) 26 (.slice none 0 0)
    rw [World.size_alloc] at h1
    exact ⟨(BoxV.new w _ _).below (below_al _ _) (by simp), h1⟩
  have hb0 : Below w.heap.size w ((w.alloc (.cells #[.slice none 0 0] 26)).alloc (.cells #[.slice none 0 0] 26)) := below_al2 _ _ _
  have hs0 : ((w.alloc (.cells #[.slice none 0 0] 26)).alloc (.cells #[.slice none 0 0] 26)).heap.size = w.heap.size + 2 := by simp
  have CS := Lib.hid (sortedKeys_any b nn D es _ (hown.below hb0 hown.lt) hR ho)
  have CO := Lib.hid (fun l hl w => outlineK_any l hl w)
  have HAt := Lib.hid (fun k e (h : es[k]? = some e) => hR.at_mem ho (List.mem_of_getElem? h))
  have HNZ := Lib.hid (fun k e (h : es[k]? = some e) => nz_key (okE_O (hok e (List.mem_of_getElem? h))).1)
  have HOwn := Lib.hid hown
  have HSm := Lib.hid (fun k e (h : es[k]? = some e) => okE_size (hok e (List.mem_of_getElem? h)))
  have HB0 := Lib.hid hb0
  have HQ0 := Lib.hid q0
  have HQ1 := Lib.hid q1
  have HS0 := Lib.hid hs0
  obtain ⟨n, hn⟩ : ∃ n, n = es.length := ⟨_, rfl⟩
  have HN := Lib.hid hn
  rw [← hn] at hlen
  clear hb0 q0 q1 hs0 hown hR ho hok hn
  go_enter Tryz.func54, Tryz.ntmps54
  go_wp2_with fail
  refine CS.out.mono ?_
  rintro r w1 ⟨⟨ks, rfl, hks⟩, hb1⟩
  have B1 : Hid (Below w.heap.size w w1) := HB0.out.trans (hb1.mono (by rw [HS0.out]; omega))
  have Q0 := Lib.hid (HQ0.out.below hb1 (by rw [HS0.out]; omega))
  have Q1 := Lib.hid (HQ1.out.below hb1 (by rw [HS0.out]; omega))
  rw [HS0.out] at hks
  have HK := Lib.hid (fun j e (h : es[j]? = some e) => ky_row_cell hks h)
  obtain ⟨ka, kc, hkf⟩ := ky_row_form hks
  rw [← HN.out] at hkf
  subst hkf
  have hs1 : w.heap.size + 2 ≤ w1.heap.size := by have := hb1.size; rw [HS0.out] at this; exact this
  have HS1 := Lib.hid hs1
  clear hks hb1 CS HB0 HQ0 HQ1 hs1
  go_wp2_with fail
  go_loopw [9] (fun i wr => ∃ (k : Nat) (v : Value) (us : List (Value × Ent)), i = .int .i64 k ∧ k ≤ n ∧ Hid (us.length = k) ∧ Hid (us.map (fun x : Value × Ent => x.2) = es.take k) ∧ Hid (BoxV wr w.heap.size 26 (.slice none 0 0)) ∧ Hid (BoxV wr (w.heap.size + 1) 26 v) ∧ Hid (RowX wr w1.heap.size v us) ∧ Hid (Touch (fun b => b = w.heap.size + 1) w1 wr) ∧ Hid (Below (w.heap.size + 1) w1 wr)) (fun i _ => n - (intOf i).toNat)
  case atStart => exact ⟨0, _, [], rfl, Nat.zero_le _, Lib.hid rfl, Lib.hid rfl, Q0, Q1, RowX.nil _ _, Lib.hid (Touch.refl _ _), Lib.hid (Below.refl _ _)⟩
  case round =>
    obtain ⟨k, v, us, rfl, hk, HUL, HM, R0, R1, HR, HT, HB⟩ := hrel
    have hw1r : w1.heap.size ≤ wr.heap.size := HB.out.size
    by_cases hlt : k < n
    · obtain ⟨e, he⟩ : ∃ e, es[k]? = some e := ⟨_, List.getElem?_eq_getElem (by rw [← HN.out]; exact hlt)⟩
      obtain ⟨g, cap, hgv, hgb, hgl, hgc⟩ := HK.out k e he
      injection hgv with hg1 hg2 hg3
      subst hg1
      have hat := HAt.out k e he
      have hnz := HNZ.out k e he
      have hkey := kl_at (kyOk_key e.1)
      have hxl := HSm.out k e he
      have HM2 : Hid (∀ u1 : Value, (us ++ [(u1, e)]).map (fun x : Value × Ent => x.2) = es.take (k + 1)) := fun u1 => by
        rw [List.map_append, HM.out, List.take_add_one, he]; rfl
      obtain ⟨a, b0, c, d, e0, f, hsix⟩ := Pl.six (keyL_len e.1)
      rw [hsix] at hnz hgc hkey
      have hc := fun i y hi => HT.out.cell (hgc i y hi) (by have := HS1.out; omega)
      have g0 : wr.cell? ⟨g, k * 6, none⟩ = some (.int .i64 a) := hc 0 a rfl
      have g1 := hc 1 b0 rfl
      have g2 := hc 2 c rfl
      have g3 := hc 3 d rfl
      have g4 := hc 4 e0 rfl
      have g5 := hc 5 f rfl
      have co : ∀ W, Calls Tryz.prog 93 #[.agg #[.int .i64 a, .int .i64 b0, .int .i64 c, .int .i64 d, .int .i64 e0, .int .i64 f]] W fun r w' => (∃ v, r = .returned v ∧ w'.ownsRow W.heap.size 3 1 v e.1.length (e.1.map (.int .i64))) ∧ Below W.heap.size W w' := fun W => by
        have h1 := CO.out [a, b0, c, d, e0, f] rfl W
        rw [hnz] at h1
        exact h1
      have CO1 := Lib.hid co
      have HKey : Hid (keyOf Tryz.prog 94 (.agg #[.int .i64 a, .int .i64 b0, .int .i64 c, .int .i64 d, .int .i64 e0, .int .i64 f]) = some (keyT e.1).lit) := by
        show _ = _
        rw [show (keyT e.1).lit = KL [a, b0, c, d, e0, f] by unfold Kyt.lit; rw [show (keyT e.1).1 = keyL e.1 from rfl, hsix]]
        exact hkey
      have HAtk := Lib.hid hat
      have hw0 := setRow_alloc wr #[.int .i64 0, .int .i64 0, .int .i64 0, .int .i64 0, .int .i64 0, .int .i64 0] #[.int .i64 a, .int .i64 b0, .int .i64 c, .int .i64 d, .int .i64 e0, .int .i64 f] 94
      obtain ⟨W0, hW0⟩ : ∃ W0, W0 = wr.alloc (.cells #[.int .i64 a, .int .i64 b0, .int .i64 c, .int .i64 d, .int .i64 e0, .int .i64 f] 94) := ⟨_, rfl⟩
      rw [← hW0] at hw0
      have hbW : Below wr.heap.size wr W0 := by rw [hW0]; exact below_al _ _
      have hkb : KyB W0 wr.heap.size [a, b0, c, d, e0, f] := by rw [hW0]; exact KyB.new wr [a, b0, c, d, e0, f]
      obtain ⟨x0, x1, x2, x3, x4, x5⟩ := KyB.cells6 hkb
      have k0 := cell_regrown x0
      have k1 := cell_regrown x1
      have k2 := cell_regrown x2
      have k3 := cell_regrown x3
      have k4 := cell_regrown x4
      have k5 := cell_regrown x5
      have Q0W := Lib.hid (R0.out.below hbW R0.out.lt)
      have Q1W := Lib.hid (R1.out.below hbW R1.out.lt)
      have RW := Lib.hid (HR.out.below hbW)
      have HT0 : Hid (Touch (fun b => b = w.heap.size + 1) w1 W0) := HT.out.below hbW
      have HBW : Hid (Below (w.heap.size + 1) w1 W0) := HB.out.trans (hbW.mono (by have := HS1.out; omega))
      have MW : Hid (MapAt W0 b nn D) := (HOwn.out.below B1.out HOwn.out.lt).below HBW.out (by have := HOwn.out.lt; omega)
      have HLb : Hid (b < W0.heap.size) := MW.out.lt
      have HLw : Hid (w1.heap.size ≤ W0.heap.size) := Nat.le_trans hw1r hbW.size
      have HMd : Hid (MapAt W0.drew b nn D) := MW.out
      have kb := cell_regrown Q1W.out.cell
      have HW0 := Lib.hid hw0
      have HWe := Lib.hid hW0
      obtain ⟨va, vc, hvf⟩ := RW.out.form
      subst hvf
      obtain ⟨xs, t⟩ := e
      simp only at CO1 HKey HAtk hxl
      clear he hg2 hg3 hgc hgb hat hnz hkey hsix hc co hbW hkb x0 x1 x2 x3 x4 x5 HT HR HM R0 R1 HB HK CO HAt HNZ HSm hxl hW0 hw0
      go_wp2_with (with_reducible (show wpList _ _ _ (_ :: _) _ _); refine wpList_store_row rfl 94 _ _ rfl wr.heap.size #[.int .i64 a, .int .i64 b0, .int .i64 c, .int .i64 d, .int .i64 e0, .int .i64 f] rfl rfl 94 #[.int .i64 0, .int .i64 0, .int .i64 0, .int .i64 0, .int .i64 0, .int .i64 0] (heap_alloc_new wr _) (by kernel_rfl) rfl rfl ?_; rw [HW0.out])
      try rw [← HWe.out]
      refine Mx.wp_region_mixed (Mx.ofL [(0, 0), (1, 1), (2, 1), (4, 0), (5, 1)] (.fork 3 2 (Mx.ofL [(6, 2), (7, 0), (8, 2), (9, 3), (10, 0), (11, 3)] .done) 6 2 (Mx.ofL [(3, 2), (7, 0), (8, 2), (9, 3), (10, 0), (11, 3)] .done))) (by kernel_rfl) (by kernel_rfl) ?_
      repeat ((first | refine Mx.mix0 rfl ?_ | refine Mx.mix1 rfl ?_); go_big_quiet_step (fail); refine wpQuiet_nil ?_)
      refine Mx.mixF rfl rfl ?A ?B
      case' A =>
          go_wp2_with fail
          refine (CO1.out _).mono ?_
          rintro r w2 ⟨⟨u, rfl, hu⟩, hb2⟩
          have B2 : Hid (Below W0.heap.size W0 w2) := (below_drewN (Below.refl _ _) 1).trans hb2
          have U2 : Hid (OwnInts w2 W0.heap.size u xs.length (fun j => xs.getD j 0)) := ownInts_of hu
          have M2 : Hid (MapAt w2 b nn D) := MW.out.below B2.out (by have := HLb.out; omega)
          have HG := Lib.hid (regrown_of_below B2.out)
          have HG2 : ∀ o, Hid (∃ p : Regrown, w2.alloc o = Go.Sort.grow (redrawn W0 p.d) p.os) := fun o => regrown_of_below (B2.out.trans ((below_al w2 o).mono B2.out.size))
          obtain ⟨ua, uc, hUf⟩ := U2.out.form
          subst hUf
          clear hu hb2
          go_wp2
          refine Mx.mid_normal (fun _ => HG.out) ?_
          refine Mx.mix2 rfl ?_
          refine lookup_ownD rfl _ _ rfl b nn D rfl M2.out _ (keyT xs).lit rfl HKey.out t HAtk.out ?_
          go_wp2
          refine Mx.mid_normal (fun _ => HG.out) ?_
      case' B =>
          refine lookup_ownD rfl _ _ rfl b nn D rfl HMd.out _ (keyT xs).lit rfl HKey.out t HAtk.out ?_
          go_wp2
          refine Mx.mid_normal (fun _ => regrown_of_below (below_drewN (Below.refl W0.heap.size W0) 1)) ?_
          refine Mx.mix2 rfl ?_
          go_wp2_with fail
          refine (CO1.out _).mono ?_
          rintro r w2 ⟨⟨u, rfl, hu⟩, hb2⟩
          have B2 : Hid (Below W0.heap.size W0 w2) := (below_drewN (Below.refl _ _) 1).trans hb2
          have U2 : Hid (OwnInts w2 W0.heap.size u xs.length (fun j => xs.getD j 0)) := ownInts_of hu
          have M2 : Hid (MapAt w2 b nn D) := MW.out.below B2.out (by have := HLb.out; omega)
          have HG := Lib.hid (regrown_of_below B2.out)
          have HG2 : ∀ o, Hid (∃ p : Regrown, w2.alloc o = Go.Sort.grow (redrawn W0 p.d) p.os) := fun o => regrown_of_below (B2.out.trans ((below_al w2 o).mono B2.out.size))
          obtain ⟨ua, uc, hUf⟩ := U2.out.form
          subst hUf
          clear hu hb2
          go_wp2
          refine Mx.mid_normal (fun _ => HG.out) ?_
      all_goals
        repeat ((first | refine Mx.mix0 rfl ?_ | refine Mx.mix1 rfl ?_); go_big_quiet_step (fail); refine wpQuiet_nil ?_)
        refine Mx.mix2 rfl ?_
        go_wp2
        refine Mx.mid_normal (fun _ => (HG2 _).out) ?_
        refine Mx.mix3 rfl ?_
        refine push_entX rfl (.tmp 14) (.tmp 21) rfl w1.heap.size _ us rfl RW.out B2.out _ (xs, t) U2.out rfl (by have := HLw.out; omega) (by have := HUL.out; omega) ?_
        intro v' w3 R3 hg3
        have hrow : ∀ x, (Value.slice va us.length vc).ownBlock = some x → w1.heap.size ≤ x := fun x e => (RW.out.row.lt x e).1
        have hs02 : W0.heap.size ≤ w2.heap.size := B2.out.size
        have Z0 := Q0W.out.below B2.out (by have := HLw.out; have := HS1.out; omega)
        have Z1 := Q1W.out.below B2.out (by have := HLw.out; have := HS1.out; omega)
        have Y0 : Hid (BoxV w3 w.heap.size 26 (.slice none 0 0)) := (Z0.below (below_al w2 _) Z0.lt).grown hg3 (fun e => by have := hrow _ e.symm; have := HS1.out; omega)
        have Y1 : Hid (BoxV w3 (w.heap.size + 1) 26 (.slice va us.length vc)) := (Z1.below (below_al w2 _) Z1.lt).grown hg3 (fun e => by have := hrow _ e.symm; have := HS1.out; omega)
        have B13 : Below w1.heap.size W0 w3 := (((B2.out.mono (by have := HLw.out; omega)).trans ((below_al w2 _).mono (by have := HLw.out; omega)))).grown hg3 (by simp; have := HLw.out; omega) (fun x e => hrow x e)
        have T3 : Hid (Touch (fun b => b = w.heap.size + 1) w1 w3) := ⟨Nat.le_trans HT0.out.1 B13.size, fun x hx hn => (B13.block x hx).trans (HT0.out.2 x hx hn)⟩
        have Y3 : Hid (Below (w.heap.size + 1) w1 w3) := HBW.out.trans (B13.mono (by have := HS1.out; omega))
        have d1 := Y1.out.cell
        have e1 := Y1.out.frozen
        have HR3 := Lib.hid R3
        obtain ⟨va', vc', hvf⟩ := R3.form
        simp only [List.length_append, List.length_singleton] at hvf
        subst hvf
        clear hg3 R3 Z0 Z1 hrow B2 U2 HG HG2 B13
        refine Mx.mid_normal (fun q => by cases q) ?_
        simp only [Act.put, List.setIfInBounds_toArray, List.set_cons_zero, List.set_cons_succ]
        repeat ((first | refine Mx.mix0 rfl ?_ | refine Mx.mix1 rfl ?_); go_big_quiet_step (fail); refine wpQuiet_nil ?_)
        refine Mx.mix3 rfl ?_
        go_wp2
        refine Mx.mid_normal (fun q => by cases q) (Mx.mix_nil ?_)
        go_wp2
        go_roundw
        case rel => exact ⟨k + 1, _, us ++ [(_, (xs, t))], by go_num, by omega, by show _ = _; rw [List.length_append, HUL.out]; rfl, HM2.out _, Y0.out.other (by omega), Y1.out.set _, HR3.out.setCell (by have := HS1.out; omega), T3.out.setCell rfl _ _, Y3.out.setCell (Nat.le_refl _) _⟩
        case measure => simp [intOf]; omega
    · obtain rfl : k = n := by omega
      have HF : Hid (us.map (·.2) = es) := by show us.map (fun x : Value × Ent => x.2) = es; rw [HM.out, List.take_of_length_le (by rw [← HN.out]; exact Nat.le_refl _)]
      have hres := R0.out.cell
      have hrfz := R0.out.frozen
      have h1c := R1.out.cell
      clear HM
      obtain ⟨va, vc, hvf⟩ := HR.out.form
      subst hvf
      have hul := HUL.out
      subst hul
      go_wp2
      refine bodyPost_ret (results_cell_row rfl _ _ _ _ _ _ _ rfl (R0.out.set _) Tryz.underlying26 rfl (by kernel_rfl)) rfl ?_
      exact ⟨⟨_, rfl, us, (HR.out.setCell (B := w.heap.size) (by have := HS1.out; omega)).mono (b' := w.heap.size) (by have := HS1.out; omega), HF.out⟩, (B1.out.trans (HB.out.mono (Nat.le_succ _))).setCell (by show w.heap.size ≤ w.heap.size; exact Nat.le_refl _) _⟩
end Go.Proofs.YthigdblloddepaaGreat

namespace Go.Proofs.YthigdblloddepaaGreat
set_option maxRecDepth 100000
open Go.RowKit

/-- What Insert answers. -/
def insB (e : Ent) (es : List Ent) : Bool := okD es && (okE e && decide ((Pl.put e es).length ≤ 40))
def insR (e : Ent) (es : List Ent) : List Ent := if insB e es = true then Pl.put e es else []
theorem ins_no (e : Ent) (es : List Ent) (h : insB e es = false) (base : Nat) (w : World) : OutD base w (insR e es) (insB e es) (.returned (.tuple #[dV (.slice none 0 0), .bool false])) := by
  unfold insR; rw [h, if_neg (by decide)]; exact outD_no base w
theorem insB_d {e : Ent} {es : List Ent} (h : okD es = false) : insB e es = false := by unfold insB; rw [h]; rfl
theorem insB_e {e : Ent} {es : List Ent} (h : okE e = false) : insB e es = false := by unfold insB; rw [h]; simp
theorem insB_l {e : Ent} {es : List Ent} (h : ¬ (Pl.put e es).length ≤ 40) : insB e es = false := by unfold insB; rw [decide_eq_false h]; simp
theorem insB_y {e : Ent} {es : List Ent} (h : okD es = true) (h' : okE e = true) (hl : (Pl.put e es).length ≤ 40) : insB e es = true := by unfold insB; rw [h, h', decide_eq_true hl]; rfl
/-- What Delete answers. -/
def delB (ys : List Int) (es : List Ent) : Bool := okD es && (Pl.look ys es).isSome
def delR (ys : List Int) (es : List Ent) : List Ent := if okD es = true then (match Pl.idx ys es with | some k => Pl.del k es | none => []) else []
theorem look_some_idx {o : List Int} {es : List Ent} (h : (Pl.look o es).isSome = true) : ∃ k x, Pl.idx o es = some k ∧ es[k]? = some x ∧ x.1 = o := by
  cases hk : Pl.idx o es with
  | none => rw [Pl.look_none_idx hk] at h; cases h
  | some k =>
    obtain ⟨x, h1, h2⟩ := Pl.idx_some hk
    exact ⟨k, x, rfl, h1, h2⟩
theorem delR_none {ys : List Int} {es : List Ent} (h : (Pl.look ys es).isSome = false) : delR ys es = [] := by
  unfold delR
  cases hk : Pl.idx ys es with
  | none => simp
  | some k =>
    obtain ⟨x, h1, h2⟩ := Pl.idx_some hk
    rw [Pl.look_idx hk h1] at h
    cases h
theorem del_no (ys : List Int) (es : List Ent) (h : delB ys es = false) (base : Nat) (w : World) : OutD base w (delR ys es) (delB ys es) (.returned (.tuple #[dV (.slice none 0 0), .bool false])) := by
  have hr : delR ys es = [] := by
    cases hd : okD es
    · unfold delR; rw [hd]; rfl
    · unfold delB at h; rw [hd, Bool.true_and] at h; exact delR_none h
  rw [h, hr]; exact outD_no base w
theorem boxesI (w : World) (x z p q : Value) (T T' T'' : TypeId) (w3 : World) (h3 : w3 = ((w.alloc (.cells #[x] T)).alloc (.cells #[p, q] T')).alloc (.cells #[z] T'')) :
    w3.heap.size = w.heap.size + 3 ∧ Below w.heap.size w w3 ∧ BoxV w3 w.heap.size T x ∧ w3.cell? ⟨w.heap.size + 1, 0, none⟩ = some p ∧ w3.cell? ⟨w.heap.size + 1, 1, none⟩ = some q ∧ BoxV w3 (w.heap.size + 1 + 1) T'' z := by
  have s1 : (w.alloc (.cells #[x] T)).heap.size = w.heap.size + 1 := by simp
  have s2 : ((w.alloc (.cells #[x] T)).alloc (.cells #[p, q] T')).heap.size = w.heap.size + 1 + 1 := by simp
  have h0 := BoxV.new w T x
  have h1 : ((w.alloc (.cells #[x] T)).alloc (.cells #[p, q] T')).heap[(w.alloc (.cells #[x] T)).heap.size]? = some (.cells #[p, q] T') := heap_alloc_new _ _
  have h2 := BoxV.new ((w.alloc (.cells #[x] T)).alloc (.cells #[p, q] T')) T'' z
  have b0 := below_al w (.cells #[x] T)
  have b1 := below_al (w.alloc (.cells #[x] T)) (.cells #[p, q] T')
  have b2 := below_al ((w.alloc (.cells #[x] T)).alloc (.cells #[p, q] T')) (.cells #[z] T'')
  rw [s1] at h1
  rw [s2] at h2
  subst h3
  have h1' := ((b2.block _ (by simp)).trans h1)
  refine ⟨by simp, b0.trans ((b1.mono (by simp)).trans (b2.mono (by simp; omega))), (h0.below b1 (by simp)).below b2 (by simp; omega), ?_, ?_, h2⟩
  · unfold World.cell?; simp only [h1']; rfl
  · unfold World.cell?; simp only [h1']; rfl
theorem turned_below {w w' : World} {b : Nat} (h : w.mapTurned w' b) : Below b w w' := by
  obtain ⟨es, clock, es', clock', hb, rfl⟩ := h
  refine ⟨rfl, rfl, rfl, Nat.le_of_eq (by show _ = (w.heap.setIfInBounds b _).size; rw [Array.size_setIfInBounds]), fun k hk => ?_⟩
  show (w.heap.setIfInBounds b _)[k]? = _
  rw [Array.getElem?_setIfInBounds_ne (by omega)]
end Go.Proofs.YthigdblloddepaaGreat
