/-
  THE VISIBLE ENTRIES OF A STACK: the iterator over the entries of the enabled layers, the map of those that no layer hides.
-/
import Derived.Test.YtpalpbpamcaakaaGreatStk
import Derived.Test.YtpalpbpamcaakaaGreatImpl5F
import Derived.Maps.OwnIn
namespace Go.Proofs.YtpalpbpamcaakaaGreat
set_option maxRecDepth 100000
open Go.RowKit Go.Shelf

attribute [local go_sem] Oper.semAt_some

/-! ### Plain -/
/-- The entries of the enabled layers, each with the number of its layer, the first being number i. -/
def sqF (i : Nat) : List Lay → List (Ent × Nat)
  | [] => []
  | l :: r => (if l.2 = true then l.1.map (fun e => (e, i)) else []) ++ sqF (i + 1) r
def sq (ls : List Lay) : List (Ent × Nat) := sqF 0 ls
theorem sqF_append (a b : List Lay) : ∀ i, sqF i (a ++ b) = sqF i a ++ sqF (i + a.length) b := by
  induction a with
  | nil => intro i; rfl
  | cons x r ih =>
    intro i
    show (if x.2 = true then x.1.map (fun e => (e, i)) else []) ++ sqF (i + 1) (r ++ b) = _
    rw [ih, ← List.append_assoc, List.length_cons, show i + (r.length + 1) = i + 1 + r.length by omega]; rfl
theorem sq_next {ls : List Lay} {k : Nat} {l : Lay} (h : ls[k]? = some l) : sq (ls.take (k + 1)) = sq (ls.take k) ++ (if l.2 = true then l.1.map (fun e => (e, k)) else []) := by
  have hk := (List.getElem?_eq_some_iff.1 h).1
  unfold sq
  rw [List.take_add_one, h, Option.toList_some, sqF_append, List.length_take, Nat.min_eq_left (by omega), Nat.zero_add]
  show _ ++ ((if l.2 = true then l.1.map (fun e => (e, k)) else []) ++ []) = _
  rw [List.append_nil]
theorem sq_len (ls : List Lay) : ∀ i, (∀ l ∈ ls, l.1.length ≤ 40) → (sqF i ls).length ≤ ls.length * 40 := by
  induction ls with
  | nil => intro i _; exact Nat.zero_le _
  | cons l r ih =>
    intro i h
    have h1 := ih (i + 1) (fun x hx => h x (List.mem_cons_of_mem _ hx))
    have h2 := h l (List.mem_cons_self ..)
    show ((if l.2 = true then l.1.map (fun e => (e, i)) else []) ++ sqF (i + 1) r).length ≤ _
    rw [List.length_append, List.length_cons, Nat.succ_mul]
    split
    · rw [List.length_map]; omega
    · simp; omega
/-- An entry that came, with the value of its outline and its layer. -/
abbrev Vz := Value × Ent × Nat
def zV (x : Vz) : Value := .agg #[x.1, .string x.2.1.2, .int .i64 (x.2.2 : Int)]
/-- The first that came with this key. -/
def fstK (l : List Int) (xs : List Vz) : Option Vz := xs.find? fun x => decide (keyL x.2.1.1 = l)
abbrev MZ := DataW Value
def mapZ (xs : List Vz) : MZ := xs.foldl (fun D x => if Maps.has D (KL (keyL x.2.1.1)) = true then D else D.put (KL (keyL x.2.1.1)) (.held (zV x))) (.map [])
theorem mapZ_snoc (xs : List Vz) (x : Vz) : mapZ (xs ++ [x]) = if Maps.has (mapZ xs) (KL (keyL x.2.1.1)) = true then mapZ xs else (mapZ xs).put (KL (keyL x.2.1.1)) (.held (zV x)) := by unfold mapZ; rw [List.foldl_append]; rfl
theorem mapZ_isMap (xs : List Vz) : Maps.IsMap (mapZ xs) := by
  unfold mapZ
  suffices ∀ (l : List Vz) (D : MZ), Maps.IsMap D → Maps.IsMap (l.foldl (fun D x => if Maps.has D (KL (keyL x.2.1.1)) = true then D else D.put (KL (keyL x.2.1.1)) (.held (zV x))) D) from this xs _ ⟨[], rfl⟩
  intro l
  induction l with
  | nil => intro D h; exact h
  | cons x l ih =>
    intro D h
    refine ih _ ?_
    show Maps.IsMap (if Maps.has D (KL (keyL x.2.1.1)) = true then D else D.put (KL (keyL x.2.1.1)) (.held (zV x)))
    split
    · exact h
    · exact h.put _ _
theorem fstK_snoc (l : List Int) (xs : List Vz) (x : Vz) : fstK l (xs ++ [x]) = match fstK l xs with | some y => some y | none => if keyL x.2.1.1 = l then some x else none := by
  unfold fstK
  rw [List.find?_append]
  cases h : xs.find? (fun x => decide (keyL x.2.1.1 = l)) with
  | some y => rfl
  | none =>
    show Option.or none (List.find? _ [x]) = _
    by_cases hk : keyL x.2.1.1 = l
    · simp [hk]
    · simp [hk]
theorem mapZ_look (l : List Int) (hl : kyOk l) (xs : List Vz) : Maps.has (mapZ xs) (KL l) = (fstK l xs).isSome ∧ ∀ zd, (mapZ xs).atKey (KL l) zd = (match fstK l xs with | some x => .held (zV x) | none => zd) := by
  suffices ∀ n, ∀ xs : List Vz, xs.length = n → (Maps.has (mapZ xs) (KL l) = (fstK l xs).isSome ∧ ∀ zd, (mapZ xs).atKey (KL l) zd = (match fstK l xs with | some x => .held (zV x) | none => zd)) from this _ xs rfl
  intro n
  induction n generalizing l with
  | zero =>
    intro es h
    obtain rfl := List.length_eq_zero_iff.1 h
    exact ⟨rfl, fun zd => rfl⟩
  | succ n ih =>
    intro es h
    rcases List.eq_nil_or_concat es with rfl | ⟨r, x, rfl⟩
    · simp at h
    · rw [List.concat_eq_append] at h ⊢
      have hr : r.length = n := by simpa using h
      obtain ⟨h1, h2⟩ := ih l hl r hr
      obtain ⟨k1, k2⟩ := ih (keyL x.2.1.1) (kyOk_key _) r hr
      rw [mapZ_snoc, fstK_snoc]
      by_cases hk : keyL x.2.1.1 = l
      · subst hk
        rw [k1]
        cases hf : fstK (keyL x.2.1.1) r with
        | some y =>
          rw [hf] at k1 k2
          simp only [Option.isSome_some, if_true]
          exact ⟨k1, k2⟩
        | none =>
          simp only [Option.isSome_none, if_true]
          rw [if_neg (by decide)]
          exact ⟨Maps.has_put_same (mapZ_isMap r) (kl_key hl) _, fun zd => Maps.atKey_put_same (mapZ_isMap r) (kl_key hl) _ zd⟩
      · have hne : KL l ≠ KL (keyL x.2.1.1) := fun q => hk (kl_inj hl (kyOk_key _) q).symm
        have hres : (match fstK l r with | some y => some y | none => if keyL x.2.1.1 = l then some x else none) = fstK l r := by
          rw [if_neg hk]
          cases fstK l r <;> rfl
        rw [hres]
        split
        · exact ⟨h1, h2⟩
        · rw [Maps.has_put_other hne]
          refine ⟨h1, fun zd => ?_⟩
          rw [Maps.atKey_put_other hne]
          exact h2 zd
/-- How an element of the map reads: as itself. -/
def RZ (v : Value) : Option (MZ × List MemPlace) := some (.held v, [])
theorem RZ_inv {v : Value} {u : Value} {ps : List MemPlace} (h : RZ v = some (.held u, ps)) : v = u := by
  unfold RZ at h
  injection h with h
  injection h with h1 h2
  injection h1
/-- What comes out of the iterator. -/
abbrev Tz (w : World) := { x : Vz // IntsAt w x.1 x.2.1.1 ∧ entOk x.2.1 ∧ x.2.2 ≤ 4 }
def vals {w : World} (ys : List (Tz w)) : List Vz := ys.map (·.1)
def ents {w : World} (ys : List (Tz w)) : List (Ent × Nat) := ys.map (·.1.2)
theorem ents_snoc {w : World} (ys : List (Tz w)) (x : Tz w) : ents (ys ++ [x]) = ents ys ++ [x.1.2] := by unfold ents; rw [List.map_append]; rfl
theorem vals_snoc {w : World} (ys : List (Tz w)) (x : Tz w) : vals (ys ++ [x]) = vals ys ++ [x.1] := by unfold vals; rw [List.map_append]; rfl
theorem abides_alloc {β : Type} {B : Nat} {J : β → World → Prop} (hJ : AbidesFrom B J) {s : β} {W : World} (h : J s W) (o : Obj) : J s (W.alloc o) :=
  hJ s W (W.alloc o) none h (World.grownBy_alloc W o none) (fun r e => by cases e)
set_option maxRecDepth 100000 in
set_option maxHeartbeats 4000000 in
/-- The iterator over the entries of the enabled layers. -/
theorem enab_stops (n : Nat) (hn : 1 ≤ n) (Bs : Nat) (v : Value) (ls : List Lay) (w0 w : World) (hw : Below w0.heap.size w0 w) (hB : Bs < w.heap.size) (hb : w.cell? ⟨Bs, 0, none⟩ = some v) (h : LaysAt w0 v ls) (h4 : ls.length ≤ 4) (hx : ∀ l ∈ ls, layOk l ∧ l.1.length ≤ 40) :
    SeqStopsK Fence.wide n Tryz.prog 110 #[.pointer (some ⟨Bs, 0, none⟩)] (fun x : Tz w0 => #[zV x.1]) (Below w0.heap.size) (fun ys => ents ys = sq ls) (fun _ => True) 161 w := by
  intro l J Jx W hW hJ hJx hY h0
  obtain ⟨a, cap, rfl, hcap, hC⟩ := h.cells
  have HC := Lib.hid (hC w0 (Below.refl _ _))
  have HX := Lib.hid (fun k l (h : ls[k]? = some l) => hx l (List.mem_of_getElem? h))
  have HAll : Hid (sq (ls.take ls.length) = sq ls) := by show sq _ = _; rw [List.take_length]
  obtain ⟨m, hm⟩ : ∃ m, m = ls.length := ⟨_, rfl⟩
  rw [← hm] at hb h4 hcap HAll
  have HM := Lib.hid hm
  have hcb := (hW.cell (p := ⟨Bs, 0, none⟩) hB).trans hb
  have HW0 : Hid (Below w0.heap.size w0 W) := hw.trans (hW.mono hw.size)
  have HLen : Hid (∀ (k : Nat) (ys : List (Tz w0)) (rest : List (Ent × Nat)), k ≤ 4 → ents ys = sq (ls.take k) ++ rest → rest.length ≤ 40 → k < 4 ∨ rest.length = 0 → ys.length ≤ 160) := by
    intro k ys rest hk he hr hk4
    have h1 : ys.length = (ents ys).length := by unfold ents; rw [List.length_map]
    have h2 := sq_len (ls.take k) 0 (fun l hl => (hx l (List.mem_of_mem_take hl)).2)
    have h3 : (ls.take k).length ≤ k := by rw [List.length_take]; omega
    rw [h1, he, List.length_append]
    unfold sq
    have h5 : (ls.take k).length * 40 ≤ k * 40 := Nat.mul_le_mul_right _ h3
    rcases hk4 with h6 | h6
    · have h7 : k * 40 ≤ 3 * 40 := Nat.mul_le_mul_right _ (by omega)
      omega
    · have h7 : k * 40 ≤ 4 * 40 := Nat.mul_le_mul_right _ hk
      omega
  clear h hC hm hx hb
  refine callsIn_of_wp Tryz.func110 rfl trivial ?_ rfl
  simp only [Tryz.ntmps110, List.size_toArray, List.length_cons, List.length_nil, Nat.reduceAdd, Nat.reduceSub, Array.replicate_succ, Array.replicate_zero, List.push_toArray, List.append_toArray, List.nil_append, List.cons_append]
  gi_wp2
  gi_loopw [10] (fun i wr => ∃ (k : Nat) (done : List (Tz w0)), i = .int .i64 k ∧ k ≤ m ∧ Hid (ents done = sq (ls.take k)) ∧ J done wr ∧ Hid (Below w0.heap.size w0 wr)) (fun i _ => m - (intOf i).toNat)
  case atStart => exact ⟨0, [], rfl, Nat.zero_le _, Lib.hid rfl, h0, HW0⟩
  case round =>
    obtain ⟨k, done, rfl, hk, HD, hJs, HB⟩ := hrel
    by_cases hlt : k < m
    · obtain ⟨y, hy⟩ : ∃ y, ls[k]? = some y := ⟨_, List.getElem?_eq_getElem (by rw [← HM.out]; exact hlt)⟩
      obtain ⟨bk, o, u, rfl, hbk, c0, c1, hE⟩ := HC.out k y hy
      have d0 := (HB.out.cell (p := ⟨bk, o + k * 2, none⟩) hbk).trans c0
      have d1 := (HB.out.cell (p := ⟨bk, o + k * 2 + 1, none⟩) hbk).trans c1
      obtain ⟨hyo, hy40⟩ := HX.out k y hy
      have hnx := sq_next hy
      obtain ⟨es, b⟩ := y
      simp only at d0 d1 hE hyo hy40 hnx
      obtain ⟨ea, ec, rfl, hec, hEC⟩ := hE.cells
      have HEC := Lib.hid (hEC w0 (Below.refl _ _))
      have HEX := Lib.hid (fun j e (h : es[j]? = some e) => hyo.2 e (List.mem_of_getElem? h))
      obtain ⟨q, hq⟩ : ∃ q, q = es.length := ⟨_, rfl⟩
      rw [← hq] at d0 hec hy40
      have HQ := Lib.hid hq
      clear c0 c1 hE hyo hy hEC hq
      cases b
      · have HN : Hid (ents done = sq (ls.take (k + 1))) := by
          show ents done = _
          rw [hnx, HD.out]; simp
        have hJ2 := abides_alloc hJ hJs (.cells #[.slice ea q ec, .bool false] 36)
        have HB2 := Lib.hid (HB.out.alloc HB.out.size (.cells #[.slice ea q ec, .bool false] 36))
        clear hnx HD hJs HB HEC HEX
        gi_wp2
        go_roundw
        case rel => exact ⟨k + 1, done, by go_num, by omega, HN, hJ2, HB2⟩
        case measure => simp [intOf]; omega
      · have HN : Hid (sq (ls.take (k + 1)) = sq (ls.take k) ++ (es.take es.length).map (fun e => (e, k))) := by
          show sq _ = _
          rw [hnx, List.take_length]; rfl
        have hJ2 := abides_alloc hJ hJs (.cells #[.slice ea q ec, .bool true] 36)
        have HB2 := Lib.hid (HB.out.alloc HB.out.size (.cells #[.slice ea q ec, .bool true] 36))
        clear hnx hJs HB
        have hk3 : k < 4 := by omega
        gi_wp2
        gi_loopw [22] (fun i wq => ∃ (j : Nat) (dn : List (Tz w0)), i = .int .i64 j ∧ j ≤ q ∧ Hid (ents dn = sq (ls.take k) ++ (es.take j).map (fun e => (e, k))) ∧ J dn wq ∧ Hid (Below w0.heap.size w0 wq)) (fun i _ => q - (intOf i).toNat)
        case atStart => exact ⟨0, done, rfl, Nat.zero_le _, by show ents done = _; rw [HD.out]; simp, hJ2, HB2⟩
        case round =>
          obtain ⟨j, dn, rfl, hj, HDn, hJn, HBn⟩ := hrel
          by_cases hjq : j < q
          · obtain ⟨e, he⟩ : ∃ e, es[j]? = some e := ⟨_, List.getElem?_eq_getElem (by rw [← HQ.out]; exact hjq)⟩
            obtain ⟨bk2, o2, uo, rfl, hbk2, e0, e1, hI⟩ := HEC.out j e he
            have f0 := (HBn.out.cell (p := ⟨bk2, o2 + j * 2, none⟩) hbk2).trans e0
            have f1 := (HBn.out.cell (p := ⟨bk2, o2 + j * 2 + 1, none⟩) hbk2).trans e1
            have hxe := HEX.out j e he
            have hk4 : ((uo, e, k) : Vz).2.2 ≤ 4 := by show k ≤ 4; omega
            have HLx : Hid (dn.length ≤ 160) := HLen.out k dn _ (by omega) HDn.out (by rw [List.length_map, List.length_take]; omega) (.inl hk3)
            have HN2 : Hid (ents (dn ++ [(⟨(uo, e, k), hI, hxe, hk4⟩ : Tz w0)]) = sq (ls.take k) ++ (es.take (j + 1)).map (fun e => (e, k))) := by
              show ents _ = _
              rw [ents_snoc, HDn.out, List.take_add_one, he, Option.toList_some, List.map_append, List.append_assoc]; rfl
            have hY1 := hY dn ⟨(uo, e, k), hI, hxe, hk4⟩
            obtain ⟨x, hxx⟩ : ∃ x : Tz w0, x = (⟨(uo, e, k), hI, hxe, hk4⟩ : Tz w0) := ⟨_, rfl⟩
            have hzv : zV x.1 = .agg #[uo, .string e.2, .int .i64 (k : Int)] := by rw [hxx]; rfl
            rw [← hxx] at HN2 hY1
            rw [hzv] at hY1
            have HY1 := Lib.hid hY1
            obtain ⟨ua, uc, rfl, _, _⟩ := hI.cells
            obtain ⟨xs, t⟩ := e
            simp only at f0 f1 HY1
            obtain ⟨xl, hxl⟩ : ∃ xl, xl = xs.length := ⟨_, rfl⟩
            rw [← hxl] at f0 HY1
            have hJ3 := abides_alloc hJ hJn (.cells #[.slice ua xl uc, .string t] 52)
            have HB3 := Lib.hid (HBn.out.alloc HBn.out.size (.cells #[.slice ua xl uc, .string t] 52))
            clear he hI e0 e1 hY1 hzv hxx hxl hxe hJn HBn HDn
            obtain ⟨fn, tmps, assign, body, hy, hR⟩ := HY1.out _ hJ3 (by have := HLx.out; omega)
            clear HY1
            gi_wp2
            refine hR.mono ?_
            rintro e W3 (⟨rfl, hJ4, hk4⟩ | ⟨rfl, hJx4⟩)
            · have HB4 := Lib.hid (HB3.out.trans hk4)
              gi_wp2
              go_roundw
              case rel => exact ⟨j + 1, dn ++ [x], by go_num, by omega, HN2, hJ4, HB4⟩
              case measure => simp [intOf]; omega
            · gi_wp2
              refine bodyPost_ret (results_none rfl _ _ _) rfl ?_
              exact ⟨⟨_, rfl⟩, .inr ⟨_, trivial, hJx4⟩⟩
          · obtain rfl : j = q := by omega
            have HN2 : Hid (ents dn = sq (ls.take (k + 1))) := by
              show ents dn = _
              rw [HDn.out, HN.out, HQ.out]
            clear HDn
            gi_wp2
            go_roundw
            case rel => exact ⟨k + 1, dn, by go_num, by omega, HN2, hJn, HBn⟩
            case measure => simp [intOf]; omega
    · obtain rfl : k = m := by omega
      have HN : Hid (ents done = sq ls) := by show ents done = _; rw [HD.out, HAll.out]
      clear HD
      gi_wp2
      go_end0
      exact ⟨⟨_, rfl⟩, .inl ⟨done, HN.out, hJs⟩⟩
section
variable {F : Fence} {n : Nat} {P : Program} {ops : Array Oper} {rest : List Oper} {o : Oper} {a : Act} {w : World} {Q : Exit → Act → World → Prop}
theorem wpListIn_load_rowZ (hgd : o.guard = none) (ty : TypeId) (x : Operand) (ho : o.op = .load ty x) (g : Nat) (hx : a.eval x = .pointer (some ⟨g, 0, none⟩)) (t : TypeId) (cs : Array Value) (fr : Nat × Nat) (d : TypeDesc) (hg : w.heap[g]? = some (.cells cs t fr))
    (hu : P.underlying ty = some d) (hd : (match d with | .struct _ | .array _ _ => true | _ => false) = true) (hi : (P.info? ty).map (·.size) = some cs.size) (h : wpListIn F n P ops Q rest (a.put o.dst (.agg cs)) w) : wpListIn F n P ops Q (o :: rest) a w := by
  refine wpListIn_plain hgd fun K hK => ?_
  unfold Oper.wpIn
  refine ⟨by simp [Oper.about, ho], ?_⟩
  rw [Oper.semAt_plain F _ _ (by rw [ho]; intro c hc; cases hc)]
  unfold execOp
  simp only [ho, hx, Instr.loadAt, Instr.sureAddr, Sem.run_bind, Sem.run_pure, Result.andThen_ok, run_loadVar_row w g t ty cs fr d hg hu hd hi]
  exact hK _ _ h
theorem wpListIn_store_rowZ (hgd : o.guard = none) (ty : TypeId) (x y : Operand) (ho : o.op = .store ty x y) (g : Nat) (cells : Array Value) (hx : a.eval x = .pointer (some ⟨g, 0, none⟩)) (hy : a.eval y = .agg cells)
    (t : TypeId) (old : Array Value) (hg : w.heap[g]? = some (.cells old t (0, 0))) (hi : (P.info? ty).map (·.size) = some cells.size) (hold : old.size = cells.size) (h1 : cells.all (·.oneCell') = true)
    (h : wpListIn F n P ops Q rest (a.put o.dst undef) (w.setRow g cells)) : wpListIn F n P ops Q (o :: rest) a w := by
  refine wpListIn_plain hgd fun K hK => ?_
  unfold Oper.wpIn
  refine ⟨by simp [Oper.about, ho], ?_⟩
  rw [Oper.semAt_plain F _ _ (by rw [ho]; intro c hc; cases hc)]
  unfold execOp
  simp only [ho, hx, hy, Instr.storeAt, Instr.sureAddr, Sem.run_bind, Sem.run_pure, Result.andThen_ok, run_storeVar_row w g t ty old cells hg hi hold h1]
  exact hK _ _ h
end
theorem setRow_allocZ (W : World) (cs cs' : Array Value) (T : TypeId) : (W.alloc (.cells cs T)).setRow W.heap.size cs' = W.alloc (.cells cs' T) := by
  unfold World.setRow World.alloc
  congr 1
  apply Array.ext_getElem?
  intro i
  rw [Array.getElem?_modify, Array.getElem?_push, Array.getElem?_push]
  by_cases h : i = W.heap.size
  · subst h; simp
  · rw [if_neg (fun e => h e.symm), if_neg h, if_neg h]

/-- Block b is the map of what has come. -/
def MapZ (w : World) (b n : Nat) (xs : List Vz) : Prop := w.ownsMap Tryz.prog 104 RZ b n (mapZ xs)
theorem MapZ.lt {w : World} {b n : Nat} {xs : List Vz} (h : MapZ w b n xs) : b < w.heap.size := World.ownsMap.lt h
theorem MapZ.below {w w' : World} {b n : Nat} {xs : List Vz} {N : Nat} (h : MapZ w b n xs) (hb : Below N w w') (hN : b < N) : MapZ w' b n xs := by
  obtain ⟨es, clock, hx, Ft, hs, hD⟩ := h
  exact ⟨es, clock, (hb.block b hN).trans hx, Ft, hs, hD⟩
set_option maxHeartbeats 1000000 in
theorem enab_in (n : Nat) (v : Value) (a : Option Addr) (m c : Nat) (hv : v = .slice a m c) (w : World) :
    CallsIn Fence.wide n Tryz.prog 68 #[dV v] w fun e w' => e = .returned (.func (.func 110) #[] #[.pointer (some ⟨w.heap.size, 0, none⟩)]) ∧ w' = w.alloc (.cells #[v] 26) := by
  subst hv
  unfold dV
  refine callsIn_of_wp Tryz.func68 rfl trivial ?_ rfl
  simp only [Tryz.ntmps68, List.size_toArray, List.length_cons, List.length_nil, Nat.reduceAdd, Nat.reduceSub, Array.replicate_succ, Array.replicate_zero, List.push_toArray, List.append_toArray, List.nil_append, List.cons_append]
  gi_wp2
  go_ret
  exact ⟨rfl, rfl⟩
theorem run_makeMapZ (w : World) : (Instr.makeMap 97 none).run Tryz.prog w = .ok (.map (some w.heap.size)) (w.alloc (.map #[] 0)) := by
  simp [Instr.makeMap, newObj]
  rfl
theorem zeroZ (w : World) : (zeroValue 101).run Tryz.prog w = .ok (.agg #[.slice none 0 0, .string ByteArray.empty, .int .i64 0]) w := by kernel_rfl
theorem okK_layers {ls : List Lay} (h : okK ls = true) : ls.length ≤ 4 ∧ ∀ l ∈ ls, l.1.length ≤ 40 := ⟨(okK_parts h).1, fun l hl => (okD_parts ((okK_parts h).2 l hl)).1⟩
set_option maxRecDepth 100000 in
set_option maxHeartbeats 4000000 in
theorem Vis_in (n : Nat) (hn : 9 ≤ n) (v : Value) (ls : List Lay) (w : World) (h : LaysAt w v ls) (hx : ∀ l ∈ ls, layOk l) (hok : okK ls = true) :
    CallsIn Fence.wide n Tryz.prog 60 #[dV v] w fun e w' => (∃ (b : Nat) (ys : List (Tz w)), e = .returned (.tuple #[.map (some b), .bool true]) ∧ w.heap.size ≤ b ∧ ents ys = sq ls ∧ MapZ w' b ys.length (vals ys)) ∧ Below w.heap.size w w' := by
  have h1 : 1 ≤ n := by omega
  obtain ⟨h4, h40⟩ := okK_layers hok
  have cv := fun w' hb => ValidK_any v ls w' (h.below (w' := w') hb) (by omega) hx
  rw [hok] at cv
  unfold dV at cv
  have hh := h
  obtain ⟨a, cap, rfl, hcap, _⟩ := h.cells
  have CV := Lib.hid cv
  have HL := Lib.hid hh
  have HX : Hid (∀ l ∈ ls, layOk l ∧ l.1.length ≤ 40) := fun l hl => ⟨hx l hl, h40 l hl⟩
  obtain ⟨m, hm⟩ : ∃ m, m = ls.length := ⟨_, rfl⟩
  have HM4 : Hid (ls.length ≤ 4) := h4
  rw [← hm] at CV HL hcap ⊢
  clear cv hh h hx hok h40 h4 hm
  unfold dV
  refine callsIn_of_wp_marks Tryz.func60 rfl trivial ?_ rfl
  simp only [Tryz.ntmps60, List.size_toArray, List.length_cons, List.length_nil, Nat.reduceAdd, Nat.reduceSub, Array.replicate_succ, Array.replicate_zero, List.push_toArray, List.append_toArray, List.nil_append, List.cons_append]
  gi_wp2_with fail
  refine ⟨trivial, (callsIn_wide.2 (CV.out _ (below_al _ _))).mono ?_⟩
  rintro e w1 ⟨rfl, hb1⟩
  have hbox := box1 hb1
  have HB1 := Lib.hid (below_box hb1)
  clear hb1 CV
  have hmk := run_makeMapZ
  have hs1 : w.heap.size < w1.heap.size := Nat.lt_of_lt_of_le (Nat.lt_succ_self _) (by have := hbox; exact lt_of_cell hbox)
  obtain ⟨b, hbb⟩ : ∃ b, b = w1.heap.size := ⟨_, rfl⟩
  obtain ⟨W2, hW2⟩ : ∃ W, W = (w1.alloc (.map #[] 0)).alloc (.cells #[.map (some b)] 97) := ⟨_, rfl⟩
  have HBB := Lib.hid hbb
  have HW2 := Lib.hid hW2
  clear hbb hW2
  gi_wp2_with fail
  rw [← HBB.out, ← HW2.out]
  refine ⟨trivial, (enab_in (n - 1) _ a m cap rfl _).mono ?_⟩
  rintro e W3 ⟨rfl, hW3⟩
  have hs2 : W2.heap.size = b + 2 := by rw [HW2.out, World.size_alloc, World.size_alloc, HBB.out]
  have hs3 : W3.heap.size = b + 3 := by rw [hW3, World.size_alloc, hs2]
  have hwb : w.heap.size ≤ b := by have := HBB.out; omega
  have hM2 : MapZ W2 b 0 [] := by
    have := World.ownsMap_made w1 Tryz.prog 104 RZ
    rw [← HBB.out] at this
    rw [HW2.out]
    exact World.ownsMap.alloc this _
  have hX2 : Boxed W2 (b + 1) 97 (.map (some b)) := by
    have := Boxed.new (w1.alloc (.map #[] 0)) 97 (.map (some b))
    rw [World.size_alloc, ← HBB.out] at this
    rw [HW2.out]; exact this
  have hM3 : MapZ W3 b 0 [] := by rw [hW3]; exact World.ownsMap.alloc hM2 _
  have hX3 : Boxed W3 (b + 1) 97 (.map (some b)) := by rw [hW3]; exact hX2.alloc _
  have hc3 : W3.cell? ⟨b + 2, 0, none⟩ = some (.slice a m cap) := by
    rw [← hs2, hW3]
    exact cell_new W2 _ _ 0
  have hB3 : Below w.heap.size w W3 := by
    have h2 : Below w.heap.size w W2 := by
      rw [HW2.out]
      exact (HB1.out.alloc HB1.out.size _).alloc (Nat.le_trans HB1.out.size (by simp)) _
    rw [hW3]; exact h2.alloc h2.size _
  clear hmk hbox hW3 hM2 hX2
  rw [hs2]
  clear hs2
  gi_wp2
  refine wpIn_rangeFunc_ownH rfl h1 (gf := 110) (lb := #[.pointer (some ⟨b + 2, 0, none⟩)]) rfl trivial (enters_of Tryz.func110 (by kernel_rfl) rfl)
    (enab_stops (n - 1) (by omega) (b + 2) _ ls w W3 hB3 (by omega) hc3 HL.out HM4.out HX.out) belowK_t (belowK_b hB3.size) (Below.refl _ _) (fun _ => rfl)
    (fun (pre : List (Tz w)) W => (MapZ W b pre.length (vals pre) ∧ Boxed W (b + 1) 97 (.map (some b))) ∧ Below w.heap.size w W)
    (fun _ _ _ => False)
    (OwnFrom.and (fun s A C row hs hg hr => ⟨World.ownsMap.kept hs.1 hg (fun e => by have := (hr b e.symm).1; omega), boxed_keeps hs.2 hg (fun r e => (hr r e).2)⟩) (ownFrom_below (Nat.le_refl _) hB3.size))
    (fun _ _ _ _ _ hs _ _ => hs)
    ⟨⟨hM3, hX3⟩, hB3⟩
    (fun x a' W => ∃ vb, a' = { tmps := #[.agg #[.slice a m cap], .pointer (some ⟨w.heap.size, 0, none⟩), .map none, .bool false, .pointer (some ⟨b + 1, 0, none⟩), .pointer (some ⟨vb, 0, none⟩), undef, undef, undef, .agg #[.slice a m cap], .bool true, .bool false, .map (some b), .agg #[.slice a m cap], .func (.func 110) #[] #[.pointer (some ⟨b + 2, 0, none⟩)], zV x.1, undef, undef, undef, undef, undef, undef, undef, undef, undef, undef, undef, undef, undef, undef, undef, undef], defers := [] } ∧ W.heap[vb]? = some (.cells #[x.1.1, .string x.1.2.1.2, .int .i64 (x.1.2.2 : Int)] 101 (0, 0)) ∧ b + 1 < vb) ?ax ?assign ?body ?done ?stop
  case ax =>
    rintro x a' _ X Y row ⟨vb, h1, h2, h3⟩ hg hr
    refine ⟨vb, h1, (hg.block vb (Array.getElem?_eq_some_iff.1 h2).1 (fun e => ?_)).trans h2, h3⟩
    obtain ⟨_, o, ho, hc⟩ := hr vb e.symm
    rw [h2] at ho
    cases ho
    cases hc
  case assign =>
    rintro l pre ⟨⟨u, e, k⟩, hi, hxe, hk⟩ W K ⟨⟨hm, hX⟩, hB⟩ hK
    have hf := hi.cells
    simp only at hf
    obtain ⟨ua, uc, rfl, _, _⟩ := hf
    unfold zV
    gi_wp2
    exact hK _ _ ((KeepsOthers.alloc W _).from _) ((Below.refl w.heap.size W).alloc hB.size _) ⟨⟨World.ownsMap.alloc hm _, hX.alloc _⟩, hB.alloc hB.size _⟩ ⟨W.heap.size, rfl, heap_alloc_new W _, hX.lt⟩
  case body =>
    rintro l pre x a' W hl _ ⟨⟨hm, hX⟩, hB⟩ ⟨vb, rfl, hvb, hlt⟩ hlen
    obtain ⟨z, hzz⟩ : ∃ z : Vz, z = x.1 := ⟨_, rfl⟩
    have hi : IntsAt w z.1 z.2.1.1 := by rw [hzz]; exact x.2.1
    have hxe : entOk z.2.1 := by rw [hzz]; exact x.2.2.1
    have hV : vals (pre ++ [x]) = vals pre ++ [z] := by rw [vals_snoc, hzz]
    have hL : (pre ++ [x]).length = pre.length + 1 := by simp
    have HPre : Hid (∀ y ∈ vals pre, IntsAt w y.1 y.2.1.1) := by
      intro y hy
      unfold vals at hy
      obtain ⟨q, _, rfl⟩ := List.mem_map.1 hy
      exact q.2.1
    rw [← hzz] at hvb ⊢
    clear hzz
    generalize (pre ++ [x]) = pre2 at hV hL ⊢
    obtain ⟨u, e, k⟩ := z
    simp only at hi hxe hvb
    have hiW := hi.below hB
    obtain ⟨ua, uc, rfl, _, _⟩ := hi.cells
    obtain ⟨xs, t⟩ := e
    simp only at hi hiW hvb hxe
    have hxl := hxe.1
    have CK := Lib.hid (fun w' hb => keyOf_any _ xs w' (hiW.below (w' := w') hb) hxl)
    obtain ⟨K, hK⟩ : ∃ K, K = keyL xs := ⟨_, rfl⟩
    have hk6 := keyL_len xs
    have hkey := kl_at (kyOk_key xs)
    obtain ⟨hl1, hl2⟩ := mapZ_look (keyL xs) (kyOk_key xs) (vals pre)
    have hsn := mapZ_snoc (vals pre) (.slice ua xs.length uc, (xs, t), k)
    simp only at hsn
    rw [← hV] at hsn
    rw [← hK] at CK hk6 hkey hl1 hl2 hsn
    have HK6 := Lib.hid hk6
    have HKy := Lib.hid hkey
    have HL1 := Lib.hid hl1
    have HL2 := Lib.hid hl2
    have HSn := Lib.hid hsn
    have HLn := Lib.hid hL
    obtain ⟨xl, hxll⟩ : ∃ xl, xl = xs.length := ⟨_, rfl⟩
    rw [← hxll] at CK hvb HSn ⊢
    have c0 : W.cell? ⟨vb, 0, none⟩ = some (.slice ua xl uc) := by unfold World.cell?; simp [hvb]
    have HVb := Lib.hid hvb
    clear hi hiW hxe hxl hK hk6 hkey hl1 hl2 hsn hxll hvb hV hL
    unfold zV
    gi_wp2_with fail
    refine ⟨trivial, fun _ => by omega, (CallsIn.inRound l (callsIn_wide.2 (CK.out W (Below.refl _ _)))).mono ?_⟩
    rintro e W1 ⟨rfl, hb⟩
    have HX1 := Lib.hid (boxed_below hX hb)
    have HM1 := Lib.hid (MapZ.below hm hb hm.lt)
    have HB1' := Lib.hid (hB.trans (hb.mono hB.size))
    have HV1 : Hid (W1.heap[vb]? = some (.cells #[.slice ua xl uc, .string t, .int .i64 (k : Int)] 101 (0, 0))) := (hb.block vb (Array.getElem?_eq_some_iff.1 HVb.out).1).trans HVb.out
    have HKW : Hid (KeepsOthers W W1) := keeps_below hb
    have HKp : Hid (Below w.heap.size W W1) := hb.mono hB.size
    have hBs := hB.size
    have HBW := Lib.hid hB
    have hz := ky_nil
    obtain ⟨W4, hW4⟩ : ∃ W, W = (W1.alloc (.cells (kyA z6) 104)).setRow W1.heap.size (kyA K) := ⟨_, rfl⟩
    have e4 : W4 = W1.alloc (.cells (kyA K) 104) := hW4.trans (setRow_allocZ W1 _ _ _)
    have HKB4 : Hid (W4.heap[W1.heap.size]? = some (.cells (kyA K) 104 (0, 0))) := by rw [e4]; exact heap_alloc_new W1 _
    have HX4 : Hid (Boxed W4 (b + 1) 97 (.map (some b))) := by rw [e4]; exact HX1.out.alloc _
    have HMb4 : Hid (MapZ W4 b pre.length (vals pre)) := by rw [e4]; exact MapZ.below HM1.out (below_al W1 _) HM1.out.lt
    have HV4 : Hid (W4.heap[vb]? = some (.cells #[.slice ua xl uc, .string t, .int .i64 (k : Int)] 101 (0, 0))) := by rw [e4]; exact ((below_al W1 _).block vb (Array.getElem?_eq_some_iff.1 HV1.out).1).trans HV1.out
    have HKW4 : Hid (KeepsOthers W W4) := by rw [e4]; exact HKW.out.trans (keeps_below (below_al W1 _))
    have HKp4 : Hid (Below w.heap.size W W4) := by rw [e4]; exact HKp.out.alloc (Nat.le_trans hBs HKp.out.size) _
    have HW4 := Lib.hid hW4
    have cm4 := HX4.out.cell
    clear e4 hW4 hm hX hB hb c0 CK HVb HX1 HM1 HV1 HKW HKp HB1'
    cases hfk : fstK K (vals pre) with
    | some y =>
      have hy := HPre.out y (List.mem_of_find?_eq_some hfk)
      obtain ⟨y1, ⟨y2, y3⟩, y4⟩ := y
      have hf := hy.cells
      simp only at hf
      obtain ⟨ya, yc, rfl, _, _⟩ := hf
      obtain ⟨yl, hyl⟩ : ∃ yl, yl = y2.length := ⟨_, rfl⟩
      have hzy : zV (.slice ya y2.length yc, (y2, y3), y4) = .agg #[.slice ya yl yc, .string y3, .int .i64 (y4 : Int)] := by rw [hyl]; rfl
      have hl1 := HL1.out
      have hl2 := HL2.out (.held (.agg #[.slice none 0 0, .string ByteArray.empty, .int .i64 0]))
      have hsn := HSn.out
      rw [hfk] at hl1 hl2
      rw [hl1] at hsn
      simp only [Option.isSome_some, if_true] at hl1 hl2 hsn
      rw [hzy] at hl2
      have HL1' := Lib.hid hl1
      have HL2' := Lib.hid hl2
      have HSn' := Lib.hid hsn
      clear hfk hy hl1 hl2 hsn hyl hzy HL1 HL2 HSn HPre
      have HKB5 : Hid ((W4.alloc (.cells #[.slice ya yl yc, .string y3, .int .i64 (y4 : Int)] 101)).heap[W1.heap.size]? = some (.cells (kyA K) 104 (0, 0))) := ((below_al W4 _).block _ (Array.getElem?_eq_some_iff.1 HKB4.out).1).trans HKB4.out
      have HMb5 : Hid (MapZ (W4.alloc (.cells #[.slice ya yl yc, .string y3, .int .i64 (y4 : Int)] 101)) b pre.length (vals pre)) := MapZ.below HMb4.out (below_al W4 _) HMb4.out.lt
      have HX5 : Hid (Boxed (W4.alloc (.cells #[.slice ya yl yc, .string y3, .int .i64 (y4 : Int)] 101)) (b + 1) 97 (.map (some b))) := HX4.out.alloc _
      have HKp5 : Hid (Below w.heap.size W (W4.alloc (.cells #[.slice ya yl yc, .string y3, .int .i64 (y4 : Int)] 101))) := HKp4.out.alloc (Nat.le_trans hBs HKp4.out.size) _
      have HKW5 : Hid (KeepsOthers W (W4.alloc (.cells #[.slice ya yl yc, .string y3, .int .i64 (y4 : Int)] 101))) := HKW4.out.trans (keeps_below (below_al W4 _))
      have cm5 := HX5.out.cell
      gi_wp2_with (first
      | (with_reducible (show wpListIn _ _ _ _ _ (_ :: _) _ _); refine wpListIn_store_rowZ rfl 104 _ _ rfl W1.heap.size (kyA K) rfl rfl 104 (kyA z6) (heap_alloc_new W1 _) (ky_size HK6.out) (by rw [kyA_size z6_len, kyA_size HK6.out]) (kyA_one K) ?_; rw [← HW4.out])
      | (with_reducible (show wpListIn _ _ _ _ _ (_ :: _) _ _); refine wpListIn_load_rowZ rfl 104 _ rfl W1.heap.size rfl 104 (kyA K) (0, 0) _ (by first | exact HKB4.out | exact HKB5.out) Tryz.underlying104 rfl (ky_size HK6.out) ?_)
      | (gi_at_lookup; refine wpListIn_lookup_own_ok _ rfl _ _ 97 rfl 104 101 lawK Tryz.underlying97 RZ (zeroZ _) (.held (.agg #[.slice none 0 0, .string ByteArray.empty, .int .i64 0])) [] rfl b pre.length (mapZ (vals pre)) rfl HMb4.out _ (KL K) rfl HKy.out ?_; intro v ps hv; rw [HL2'.out] at hv; obtain rfl := RZ_inv hv; clear hv; rw [HL1'.out]))
      refine ⟨HKW5.out.from _, HKp5.out, ⟨?_, HX5.out⟩, HBW.out.trans HKp5.out⟩
      unfold MapZ
      rw [HSn'.out]
      exact World.ownsMap.mono HMb5.out (by rw [HLn.out]; omega)
    | none =>
      have hl1 := HL1.out
      have hl2 := HL2.out (.held (.agg #[.slice none 0 0, .string ByteArray.empty, .int .i64 0]))
      have hsn := HSn.out
      rw [hfk] at hl1 hl2
      rw [hl1] at hsn
      simp only [Option.isSome_none] at hl1 hl2 hsn
      rw [if_neg (by decide)] at hsn
      have HL1' := Lib.hid hl1
      have HL2' := Lib.hid hl2
      have HSn' := Lib.hid hsn
      clear hfk hl1 hl2 hsn HL1 HL2 HSn HPre
      have HKB5 : Hid ((W4.alloc (.cells #[.slice none 0 0, .string ByteArray.empty, .int .i64 0] 101)).heap[W1.heap.size]? = some (.cells (kyA K) 104 (0, 0))) := ((below_al W4 _).block _ (Array.getElem?_eq_some_iff.1 HKB4.out).1).trans HKB4.out
      have HMb5 : Hid (MapZ (W4.alloc (.cells #[.slice none 0 0, .string ByteArray.empty, .int .i64 0] 101)) b pre.length (vals pre)) := MapZ.below HMb4.out (below_al W4 _) HMb4.out.lt
      have HX5 : Hid (Boxed (W4.alloc (.cells #[.slice none 0 0, .string ByteArray.empty, .int .i64 0] 101)) (b + 1) 97 (.map (some b))) := HX4.out.alloc _
      have HKp5 : Hid (Below w.heap.size W (W4.alloc (.cells #[.slice none 0 0, .string ByteArray.empty, .int .i64 0] 101))) := HKp4.out.alloc (Nat.le_trans hBs HKp4.out.size) _
      have HKW5 : Hid (KeepsOthers W (W4.alloc (.cells #[.slice none 0 0, .string ByteArray.empty, .int .i64 0] 101))) := HKW4.out.trans (keeps_below (below_al W4 _))
      have cm5 := HX5.out.cell
      have hv5 : (W4.alloc (.cells #[.slice none 0 0, .string ByteArray.empty, .int .i64 0] 101)).heap[vb]? = some (.cells #[.slice ua xl uc, .string t, .int .i64 (k : Int)] 101 (0, 0)) := ((below_al W4 _).block vb (Array.getElem?_eq_some_iff.1 HV4.out).1).trans HV4.out
      have v50 : (W4.alloc (.cells #[.slice none 0 0, .string ByteArray.empty, .int .i64 0] 101)).cell? ⟨vb, 0, none⟩ = some (.slice ua xl uc) := by unfold World.cell?; simp [hv5]
      have v51 : (W4.alloc (.cells #[.slice none 0 0, .string ByteArray.empty, .int .i64 0] 101)).cell? ⟨vb, 1, none⟩ = some (.string t) := by unfold World.cell?; simp [hv5]
      have v52 : (W4.alloc (.cells #[.slice none 0 0, .string ByteArray.empty, .int .i64 0] 101)).cell? ⟨vb, 2, none⟩ = some (.int .i64 (k : Int)) := by unfold World.cell?; simp [hv5]
      clear hv5
      gi_wp2_with (first
      | (with_reducible (show wpListIn _ _ _ _ _ (_ :: _) _ _); refine wpListIn_store_rowZ rfl 104 _ _ rfl W1.heap.size (kyA K) rfl rfl 104 (kyA z6) (heap_alloc_new W1 _) (ky_size HK6.out) (by rw [kyA_size z6_len, kyA_size HK6.out]) (kyA_one K) ?_; rw [← HW4.out])
      | (with_reducible (show wpListIn _ _ _ _ _ (_ :: _) _ _); refine wpListIn_load_rowZ rfl 104 _ rfl W1.heap.size rfl 104 (kyA K) (0, 0) _ (by first | exact HKB4.out | exact HKB5.out) Tryz.underlying104 rfl (ky_size HK6.out) ?_)
      | (gi_at_lookup; refine wpListIn_lookup_own_ok _ rfl _ _ 97 rfl 104 101 lawK Tryz.underlying97 RZ (zeroZ _) (.held (.agg #[.slice none 0 0, .string ByteArray.empty, .int .i64 0])) [] rfl b pre.length (mapZ (vals pre)) rfl HMb4.out _ (KL K) rfl HKy.out ?_; intro v ps hv; rw [HL2'.out] at hv; obtain rfl := RZ_inv hv; clear hv; rw [HL1'.out])
      | (gi_at_mapUpdate; refine wpListIn_mapUpdate_own _ rfl _ _ _ 97 rfl 104 101 lawK Tryz.underlying97 RZ b pre.length (mapZ (vals pre)) rfl HMb5.out (by unfold maxLen; omega) _ _ (KL K) rfl rfl HKy.out (.held (.agg #[.slice ua xl uc, .string t, .int .i64 (k : Int)])) [] rfl ?_; intro w6 hown hg6))
      refine ⟨(HKW5.out.from _).trans (KeepsFrom.of_grownBy hg6 (fun j e => by injection e with e; omega)), HKp5.out.grown hg6 (Nat.le_trans hBs HKp5.out.size) (fun j e => by injection e with e; omega), ⟨?_, HX5.out.kept hg6 (fun e => by injection e with e; omega)⟩, (HBW.out.trans HKp5.out).grown hg6 (Nat.le_trans hBs HKp5.out.size) (fun j e => by injection e with e; omega)⟩
      unfold MapZ
      rw [HSn'.out, HLn.out]
      exact hown
  case done =>
    rintro D ys W hD hS ⟨⟨hm, hX⟩, hB⟩ hK
    have hc := hX.cell
    gi_wp2
    refine ⟨by simp, .inl ⟨_, _, rfl, run_takeDeferred hK, ?_⟩⟩
    refine ⟨.tuple #[.map (some b), .bool true], ?_, ⟨b, ys, rfl, hwb, hS, ?_⟩, hB.trans (belowK_b (w := W3) hB3.size W D _ _ hD hK rfl rfl)⟩
    · simp [results, Tryz.f60, go_sem]
    · exact World.ownsMap.kept hm (grownBy_putObj' W D (.deferred none)) (fun e => by injection e with e; omega)
  case stop =>
    rintro D c pre W _ _ h _
    exact h.elim
end Go.Proofs.YtpalpbpamcaakaaGreat
