/-
  MAPS FROM KEYS OF OUTLINES to texts: what a key reads as, what such a map holds.
-/
import Derived.Test.YtcpjpjdfddmncaaImpl6A
import Derived.Test.YtcpjpjdfddmncaaChecked
import Derived.Maps.OwnSet
import Derived.Maps.Views
import Derived.Maps.StringElems
import Derived.DeepKeys4
namespace Go.Proofs.Ytcpjpjdfddmncaa
set_option maxRecDepth 100000
open Go.RowKit

theorem laidOutP : laidOutB Try.prog = true := by kernel_rfl
/-- The keys' type. -/
theorem lawK : Maps.Keyed Try.prog 77 :=
  Maps.Keyed.of_law (deep_law_laid laidOutP (m := 2) (by omega) (of_decide_eq_true (by kernel_rfl)) (by kernel_rfl) (by rw [Try.underlying77]))
theorem zeroS (w : World) : (zeroValue 9).run Try.prog w = .ok (.string ByteArray.empty) w := by kernel_rfl
theorem typesTwo : ∃ d, Try.prog.types.size = d + 1 := ⟨Try.prog.types.size - 1, by have h : (0 : Nat) < Try.prog.types.size := of_decide_eq_true (by kernel_rfl); omega⟩
/-- What a key reads as. -/
def KL (l : List Int) : Lit := .string (keyBytes (l.map fun x => Lit.int .i64 x))
theorem key_some {l : List Int} (h : l.length = 6) (hw : ∀ x ∈ l, (Lit.int .i64 x).wf = true) : keyOf Try.prog 77 (.agg (kyA l)) = some (KL l) := by
  obtain ⟨a, b, c, d, e, f, rfl⟩ := Pl.six h
  obtain ⟨n, hn⟩ := typesTwo
  have hk : Try.prog.keyType 77 = true := by kernel_rfl
  have hc : Try.prog.cellsOf 77 = 6 := by kernel_rfl
  have hc1 : Try.prog.cellsOf 3 = 1 := by kernel_rfl
  simp only [List.mem_cons, List.not_mem_nil, or_false, forall_eq_or_imp, forall_eq] at hw
  obtain ⟨w0, w1, w2, w3, w4, w5⟩ := hw
  have hl : Try.prog.keyLits (Try.prog.types.size + 1) 77 (kyA [a, b, c, d, e, f]).toList = some [.int .i64 a, .int .i64 b, .int .i64 c, .int .i64 d, .int .i64 e, .int .i64 f] := by
    rw [hn]
    simp [Program.keyLits, Try.underlying77, Try.underlying3, hc, hc1, kyA, w0, w1, w2, w3, w4, w5, List.range, List.range.loop]
  have hf : (Value.agg (kyA [a, b, c, d, e, f])).formed Try.prog 77 = true := by simp [Value.formed, Try.underlying77, hc, kyA]
  unfold keyOf
  rw [Try.underlying77]
  simp only [hk, hf, Bool.and_self, if_true]
  have : (Value.agg (kyA [a, b, c, d, e, f])).cells.toList = (kyA [a, b, c, d, e, f]).toList := rfl
  rw [this, hl]
  rfl
/-- A key's ints. -/
def kyOk (l : List Int) : Prop := l.length = 6 ∧ ∀ x ∈ l, (Lit.int .i64 x).wf = true
theorem kl_at {l : List Int} (h : kyOk l) : keyOf Try.prog 77 (.agg (kyA l)) = some (KL l) := key_some h.1 h.2
theorem kl_inj {l m : List Int} (h : kyOk l) (h' : kyOk m) (e : KL l = KL m) : l = m := by
  have h1 := kl_at h
  have h2 := kl_at h'
  rw [← e] at h2
  have := lawK.inj h1 h2
  injection this with this
  unfold kyA at this
  have h3 := List.toArray_inj this
  exact (List.map_inj_right (fun x y h => by injection h)).1 h3
theorem kl_key {l : List Int} (h : kyOk l) : WideAt.IsKeyLit (KL l) := lawK.key (kl_at h)
theorem wf_small {x : Int} (h0 : 0 ≤ x) (h1 : x < 8388608) : (Lit.int .i64 x).wf = true := WalkArith.wf_i64 (by omega)
theorem kyOk_z : kyOk z6 := ⟨rfl, fun x hx => by unfold z6 at hx; simp at hx; subst hx; decide⟩
theorem kyOk_key (xs : List Int) : kyOk (keyL xs) := by
  refine ⟨keyL_len xs, fun x hx => ?_⟩
  cases h : okO xs
  · rw [keyL_no h] at hx; exact kyOk_z.2 x hx
  · rw [keyL_yes h] at hx
    unfold Pl.pad at hx
    rcases List.mem_append.1 hx with hx | hx
    · have := okS_iff.1 ((okO_parts h).2.2 x hx)
      exact wf_small (by omega) (by omega)
    · rw [List.mem_replicate] at hx
      rw [hx.2]; decide

/-! ### What the map of a dictionary holds -/
abbrev MD := DataW Unit
def litT (t : ByteArray) : MD := .lit (.string t.data.toList)
/-- The map of the entries, put in one behind the other. -/
def mapD (es : List Ent) : MD := es.foldl (fun D e => D.put (KL (keyL e.1)) (litT e.2)) (.map [])
theorem mapD_nil : mapD [] = .map [] := rfl
theorem mapD_snoc (es : List Ent) (e : Ent) : mapD (es ++ [e]) = (mapD es).put (KL (keyL e.1)) (litT e.2) := by unfold mapD; rw [List.foldl_append]; rfl
theorem mapD_next {es : List Ent} {k : Nat} {e : Ent} (h : es[k]? = some e) : mapD (es.take (k + 1)) = (mapD (es.take k)).put (KL (keyL e.1)) (litT e.2) := by
  rw [List.take_add_one, h, Option.toList_some, mapD_snoc]
theorem mapD_isMap (es : List Ent) : Maps.IsMap (mapD es) := by
  unfold mapD
  suffices ∀ (l : List Ent) (D : MD), Maps.IsMap D → Maps.IsMap (l.foldl (fun D e => D.put (KL (keyL e.1)) (litT e.2)) D) from this es _ ⟨[], rfl⟩
  intro l
  induction l with
  | nil => intro D h; exact h
  | cons x l ih => intro D h; exact ih _ (h.put _ _)
/-- The last text put in at a key. -/
def lastT (l : List Int) : List Ent → Option ByteArray
  | [] => none
  | e :: r => match lastT l r with | some t => some t | none => if keyL e.1 = l then some e.2 else none
theorem lastT_snoc (l : List Int) (es : List Ent) (e : Ent) : lastT l (es ++ [e]) = if keyL e.1 = l then some e.2 else lastT l es := by
  induction es with
  | nil => show (match lastT l [] with | some t => some t | none => _) = _; rfl
  | cons x r ih =>
    show (match lastT l (r ++ [e]) with | some t => some t | none => if keyL x.1 = l then some x.2 else none) = _
    rw [ih]
    by_cases h : keyL e.1 = l
    · rw [if_pos h, if_pos h]
    · rw [if_neg h, if_neg h]; rfl
theorem mapD_look (l : List Int) (hl : kyOk l) (es : List Ent) : Maps.has (mapD es) (KL l) = (lastT l es).isSome ∧ ∀ zd, (mapD es).atKey (KL l) zd = (match lastT l es with | some t => litT t | none => zd) := by
  suffices ∀ n, ∀ es : List Ent, es.length = n → (Maps.has (mapD es) (KL l) = (lastT l es).isSome ∧ ∀ zd, (mapD es).atKey (KL l) zd = (match lastT l es with | some t => litT t | none => zd)) from this _ es rfl
  intro n
  induction n with
  | zero =>
    intro es h
    obtain rfl := List.length_eq_zero_iff.1 h
    exact ⟨rfl, fun zd => rfl⟩
  | succ n ih =>
    intro es h
    rcases List.eq_nil_or_concat es with rfl | ⟨r, e, rfl⟩
    · simp at h
    · rw [List.concat_eq_append] at h ⊢
      obtain ⟨h1, h2⟩ := ih r (by simpa using h)
      rw [mapD_snoc, lastT_snoc]
      by_cases hk : keyL e.1 = l
      · subst hk
        rw [if_pos rfl]
        exact ⟨Maps.has_put_same (mapD_isMap r) (kl_key hl) _, fun zd => Maps.atKey_put_same (mapD_isMap r) (kl_key hl) _ zd⟩
      · have hne : KL l ≠ KL (keyL e.1) := fun q => hk (kl_inj hl (kyOk_key _) q).symm
        rw [if_neg hk, Maps.has_put_other hne]
        refine ⟨h1, fun zd => ?_⟩
        rw [Maps.atKey_put_other hne]
        exact h2 zd
/-- At the key of an outline the map holds what the dictionary has there. -/
theorem lastT_look {es : List Ent} (h : okD es = true) {ys : List Int} (hy : okO ys = true) : lastT (keyL ys) es = Pl.look ys es := by
  obtain ⟨hz, hok, hinc⟩ := okD_parts h
  clear h hz
  induction es with
  | nil => rfl
  | cons x r ih =>
    have hr := ih (fun e he => hok e (List.mem_cons_of_mem _ he)) (List.pairwise_cons.1 hinc).2
    have hx := (okE_O (hok x (List.mem_cons_self ..))).1
    show (match lastT (keyL ys) r with | some t => some t | none => if keyL x.1 = keyL ys then some x.2 else none) = _
    rw [Pl.look_cons, hr]
    by_cases e : x.1 = ys
    · rw [if_pos e, if_pos (by rw [e])]
      have : Pl.look ys r = none := Pl.look_none fun y hy' e' => by
        have h1 := (List.pairwise_cons.1 hinc).1 y hy'
        rw [e', ← e] at h1
        exact absurd h1 (by rw [Pl.cmp_self]; omega)
      rw [this]
    · rw [if_neg e, if_neg (fun q => e (key_inj hx hy q))]
      cases Pl.look ys r <;> rfl
theorem lastT_bad {es : List Ent} (h : okD es = true) : lastT z6 es = none := by
  obtain ⟨hz, hok, hi⟩ := okD_parts h
  clear h hz hi
  induction es with
  | nil => rfl
  | cons x r ih =>
    have hr := ih (fun e he => hok e (List.mem_cons_of_mem _ he))
    have hx := (okE_O (hok x (List.mem_cons_self ..))).1
    show (match lastT z6 r with | some t => some t | none => if keyL x.1 = z6 then some x.2 else none) = _
    rw [hr]
    refine if_neg fun q => ?_
    have := key_zero hx
    rw [q, Pl.cmp_self] at this
    omega
theorem look_bad {es : List Ent} (h : okD es = true) {ys : List Int} (hy : okO ys = false) : Pl.look ys es = none := by
  obtain ⟨_, hok, _⟩ := okD_parts h
  refine Pl.look_none fun y hy' e => ?_
  have := (okE_O (hok y hy')).1
  rw [e, hy] at this
  cases this
/-- What a look-up at an outline's key finds. -/
theorem lastT_key {es : List Ent} (h : okD es = true) (ys : List Int) : lastT (keyL ys) es = Pl.look ys es := by
  cases hy : okO ys
  · rw [keyL_no hy, lastT_bad h, look_bad h hy]
  · exact lastT_look h hy
end Go.Proofs.Ytcpjpjdfddmncaa
