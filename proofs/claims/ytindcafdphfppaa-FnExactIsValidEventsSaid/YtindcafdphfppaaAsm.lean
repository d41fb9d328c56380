/-
  CONTRACT of assemble, over whatever assembler.
-/
import Derived.Test.YtindcafdphfppaaKbAfter
import Derived.Test.YtindcafdphfppaaWant3
import Derived.Deep.AppendLies
import Derived.Deep.RegionLaw
namespace Go.Proofs.Ytindcafdphfppaa
open Go.RowKit

theorem kb_results3 {fn : Func} {p q r : Tmp} (h : fn.results = #[.tmp p, .tmp q, .tmp r]) (tmps : Array Value) (P : Program) (w : World) : (results fn tmps).run P w = .ok (.tuple #[tmps.getD p undef, tmps.getD q undef, tmps.getD r undef]) w := by
  simp [results, h]

theorem implValid_any (v : Value) (es : List Pl.Ev) (w : World) (h : EvsAt w v es) (hn : es.length ≤ 2097152) :
    Calls Try.prog 25 #[v] w fun e w' => e = .returned (.bool (Pl.good es)) ∧ Below w.heap.size w w' := by
  have c := keyboardAfter_any v es w h hn
  have hz := kb_nil
  obtain ⟨a, cap, rfl, hcap, _⟩ := h.cells
  obtain ⟨m, hm⟩ : ∃ m, m = if Pl.good es = true then (Pl.run es).dn else 0 := ⟨_, rfl⟩
  obtain ⟨g, hg⟩ : ∃ g, g = Pl.good es := ⟨_, rfl⟩
  have hE : kbE es = .returned (.tuple #[.agg (kbA m), .bool g]) := by unfold kbE; rw [← hm, ← hg]
  rw [hE] at c
  rw [← hg]
  have C := Lib.hid c
  clear h hm hg hE c
  go_enter Try.func25, Try.ntmps25
  go_wp2_with fail
  refine C.out.mono ?_
  rintro e w1 ⟨rfl, hb⟩
  have HK := Lib.hid (KB.made w1 0)
  have HB := Lib.hid (below_row (hb.alloc hb.size (.cells (kbA 0) 65)) hb.size (kbA m))
  go_wp2_with (with_reducible (show wpList _ _ _ (_ :: _) _ _); refine kb_store w1.heap.size 0 m rfl rfl rfl rfl HK.out ?_)
  go_ret
  exact ⟨rfl, HB.out⟩

theorem dn_sub (l : List Pl.Ev) : Pl.sub (Pl.run l).dn (Pl.run l).ch := by
  rcases List.eq_nil_or_concat l with rfl | ⟨l', e, rfl⟩
  · exact Pl.sub_zero _
  · rw [List.concat_eq_append, Pl.run_snoc]
    unfold Pl.Run.step
    dsimp only
    by_cases hz : Pl.flip (Pl.run l').dn e = 0
    · rw [hz]; exact Pl.sub_zero _
    · rw [if_neg hz]
      intro j hj
      rw [Nat.testBit_or, hj, Bool.or_true]

theorem below_grown {w w' : World} (h : Below w.heap.size w w') : w.grownBy w' none := ⟨h.os, h.tape, h.output, h.size, fun k hk _ => h.block k hk⟩
theorem grown_row (w : World) (g : Nat) (cs : Array Value) : w.grownBy (w.setRow g cs) (some g) := ⟨rfl, rfl, rfl, by rw [setRow_size]; exact Nat.le_refl _, fun k _ hk => setRow_other w g k cs (fun e => hk (by rw [e]))⟩
/-- Two rows that are apart. -/
def Apart (u v : Value) : Prop := ∀ g, u.ownBlock = some g → v.ownBlock ≠ some g
theorem Apart.symm {u v : Value} (h : Apart u v) : Apart v u := fun g hg he => h g he hg
theorem Apart.kept {u v : Value} (h : Apart u v) : v.ownBlock = none ∨ v.ownBlock ≠ u.ownBlock := by
  cases hv : v.ownBlock with
  | none => exact .inl rfl
  | some g => exact .inr (fun e => h g e.symm hv)
/-- Strokes and times as rows of ints. -/
abbrev RowI (w : World) (base : Nat) (v : Value) (xs : List Int) : Prop := w.ownsRow base 3 1 v xs.length (xs.map (.int .i64))
theorem RowI.mono {w : World} {base base' : Nat} {v : Value} {xs : List Int} (h : RowI w base v xs) (hb : base' ≤ base) : RowI w base' v xs := by
  refine ⟨h.1, ?_⟩
  rcases h.2 with h1 | ⟨g, c, cur, hv, hg, rest⟩
  · exact .inl h1
  · exact .inr ⟨g, c, cur, hv, by omega, rest⟩

section
variable (gC : Nat) (St : World → Pl.Run → Prop) (em : Pl.Run → Pl.Ev → Bool) (st : Pl.Run → Pl.Ev → Nat) (X : Pl.Run → List Nat) (Y : Pl.Run → List Int → Prop)
/-- What an assembler does. -/
structure Emits (fn : FuncId) : Prop where
  call : ∀ args w, (callFunc fn args).run Try.prog w = .ok (.enter fn args) w
  keep : ∀ (w w' : World) (row : Option Nat) (r : Pl.Run), w.grownBy w' row → row ≠ some gC → St w r → St w' r
  X0 : X Pl.Run.zero = []
  X1 : ∀ r e, em r e = true → X (r.step e) = X r ++ [st r e]
  X2 : ∀ r e, em r e = false → X (r.step e) = X r
  Y0 : Y Pl.Run.zero []
  Y1 : ∀ r e T, Y r T → em r e = true → Y (r.step e) (T ++ [e.t])
  Y2 : ∀ r e T, Y r T → em r e = false → Y (r.step e) T
  run : ∀ (r : Pl.Run) (e : Pl.Ev) (w : World), r.dn < 8388608 → r.ch < 8388608 → Pl.sub r.dn r.ch → Pl.fits r.dn e → St w r →
    Calls Try.prog fn #[.agg (kbA r.dn), evV e, .pointer (some ⟨gC, 0, none⟩)] w fun x w' => (x = .returned (if em r e = true then .tuple #[.int .i64 (st r e : Nat), .bool true] else .tuple #[.int .i64 0, .bool false])) ∧ St w' (r.step e) ∧ w.grownBy w' (some gC)

/-- What holds in the middle of a round, behind the assembler's call. -/
structure Mid (w0 : World) (base bd E dn : Nat) (e : Pl.Ev) (r' : Pl.Run) (w : World) (sv : Value) (xs : List Int) (tv : Value) (T : List Int) : Prop where
  rowX : RowI w base sv xs
  rowT : RowI w base tv T
  apart : Apart sv tv
  ev : EvB w E e
  kb : KB w bd dn
  st : St w r'
  bel : Below w0.heap.size w0 w
  le : base ≤ w.heap.size
variable {gC St}
theorem Mid.alloc {w0 : World} {base bd E dn : Nat} {e : Pl.Ev} {r' : Pl.Run} {w : World} {sv : Value} {xs : List Int} {tv : Value} {T : List Int} {fn : FuncId} (HE : Emits gC St em st X Y fn) (M : Mid St w0 base bd E dn e r' w sv xs tv T) (o : Obj) : Mid St w0 base bd E dn e r' (w.alloc o) sv xs tv T :=
  ⟨M.rowX.alloc _, M.rowT.alloc _, M.apart, M.ev.alloc _, M.kb.alloc _, HE.keep _ _ none _ (World.grownBy_alloc _ _ _) (by simp) M.st, M.bel.alloc M.bel.size _, by rw [World.size_alloc]; have := M.le; omega⟩
theorem Mid.drew {w0 : World} {base bd E dn : Nat} {e : Pl.Ev} {r' : Pl.Run} {w : World} {sv : Value} {xs : List Int} {tv : Value} {T : List Int} {fn : FuncId} (HE : Emits gC St em st X Y fn) (M : Mid St w0 base bd E dn e r' w sv xs tv T) : Mid St w0 base bd E dn e r' w.drew sv xs tv T :=
  ⟨M.rowX, M.rowT, M.apart, M.ev, M.kb, HE.keep w w.drew none r' ⟨rfl, rfl, rfl, Nat.le_refl _, fun _ _ _ => rfl⟩ (by simp) M.st, M.bel.drew, M.le⟩
theorem Mid.swap {w0 : World} {base bd E dn : Nat} {e : Pl.Ev} {r' : Pl.Run} {w : World} {sv : Value} {xs : List Int} {tv : Value} {T : List Int} (M : Mid St w0 base bd E dn e r' w sv xs tv T) : Mid St w0 base bd E dn e r' w tv T sv xs :=
  ⟨M.rowT, M.rowX, M.apart.symm, M.ev, M.kb, M.st, M.bel, M.le⟩
/-- Behind an append to the first of the rows. -/
theorem Mid.grown {w0 : World} {base bd E dn : Nat} {e : Pl.Ev} {r' : Pl.Run} {w w' : World} {sv sv' : Value} {xs xs' : List Int} {tv : Value} {T : List Int} {fn : FuncId} (HE : Emits gC St em st X Y fn) (M : Mid St w0 base bd E dn e r' w sv xs tv T) (hgb : gC < base) (h0 : w0.heap.size ≤ base)
    (hown : RowI w' base sv' xs') (hg : w.grownBy w' sv.ownBlock) (hat : sv.ownBlock = sv'.ownBlock ∨ sv'.ownBlock = some w.heap.size) : Mid St w0 base bd E dn e r' w' sv' xs' tv T := by
  refine ⟨hown, M.rowT.kept hg M.apart.kept, ?_, M.ev.kept hg (M.ev.apart M.rowX), M.kb.kept hg (M.kb.apart M.rowX), HE.keep _ _ _ _ hg ?_ M.st, M.bel.grown hg M.bel.size ?_, Nat.le_trans M.le hg.size⟩
  · intro g hg' he
    rcases hat with h | h
    · exact M.apart g (by rw [h]; exact hg') he
    · rw [h] at hg'
      have := row_lt M.rowT he
      cases hg'
      omega
  · intro h
    have := row_ge M.rowX h
    omega
  · intro k hk
    have := row_ge M.rowX hk
    omega
/-- One of the region's appends, as a step. -/
theorem step_mid {w0 : World} {base bd E dn : Nat} {e : Pl.Ev} {r' : Pl.Run} {fn : FuncId} (HE : Emits gC St em st X Y fn) (hgb : gC < base) (h0 : w0.heap.size ≤ base) {ops : Array Oper} {o : Oper} {a : Act} {w : World} {K : Act → World → Prop} {Q : Exit → Act → World → Prop} {F : Prop} {i0 : TypeInfo} (hi : Try.prog.info? 3 = some i0) (hz0 : i0.zero = some (.int .i64 0)) (hz1 : i0.size = 1) (hz2 : i0.bytes = 8)
    (p q : Operand) (hgd : o.guard = none) (ho : o.op = .call { callee := .builtin .append, args := #[p, q], argTypes := #[24, 24] }) (sv : Value) (xs : List Int) (tv : Value) (T : List Int) (hs : a.eval p = sv) (N : Nat) (x : Int) (hx : a.eval q = .slice (some ⟨N, 0, none⟩) 1 1)
    (M : Mid St w0 base bd E dn e r' w sv xs tv T) (hN : w.heap[N]? = some (.cells #[.int .i64 x] 3 (0, 0))) (hl : xs.length ≤ 300)
    (h : ∀ g cap w', Mid St w0 base bd E dn e r' w' (.slice (some ⟨g, 0, none⟩) (xs.length + 1) cap) (xs ++ [x]) tv T → w.grownBy w' sv.ownBlock → K (a.put o.dst (.slice (some ⟨g, 0, none⟩) (xs.length + 1) cap)) w') :
    if Region.wanted o (yielded ops a.tmps) = true then Oper.wp Try.prog o a w K Q else F := by
  refine step_append_lies _ hgd p q 24 ho base 3 i0 (.int .i64 0) 1 8 Try.underlying24 hi hz0 hz1 hz2 rfl (by decide) sv xs.length (xs.map (.int .i64)) hs M.rowX ⟨N, 0, none⟩ 1 1 [.int .i64 x] hx rfl ?_ ?_ (by decide) ?_ ?_ M.le _ rfl ?_
  · intro j u hj
    match j, hj with
    | 0, hj =>
      simp at hj
      subst hj
      simp [Addr.add]
      rw [cell_of_row w N 0 _ _ _ hN]; rfl
    | j + 1, hj => simp at hj
  · intro u hu
    simp at hu
    subst hu
    rfl
  · unfold maxLen; omega
  · omega
  · intro g cap w' hown hg hat _
    have hown' : RowI w' base (.slice (some ⟨g, 0, none⟩) (xs.length + 1) cap) (xs ++ [x]) := by
      show World.ownsRow _ _ _ _ _ _ _
      rw [List.length_append, List.map_append]; exact hown
    refine h g cap w' (M.grown em st X Y HE hgb h0 hown' hg ?_) hg
    rcases hat with h1 | h1
    · exact .inl h1
    · exact .inr (by rw [h1]; rfl)
/-- What an append leaves as it was. -/
theorem keep_new {w2 w w' : World} {base : Nat} {sv : Value} {xs : List Int} (hr : RowI w2 base sv xs) (hg : w.grownBy w' sv.ownBlock) (N : Nat) (o : Obj) (h2 : w2.heap.size ≤ N) (h : w.heap[N]? = some o) : w'.heap[N]? = some o :=
  (hg.block N (Array.getElem?_eq_some_iff.1 h).1 (fun e => by have := row_lt hr e.symm; omega)).trans h
variable (gC St)

set_option maxHeartbeats 4000000 in
theorem assemble_any (fn : FuncId) (HE : Emits gC St em st X Y fn) (v : Value) (es : List Pl.Ev) (w0 w : World) (hw : Below w0.heap.size w0 w) (hg0 : w0.heap.size ≤ gC) (hg1 : gC < w.heap.size) (h : EvsAt w0 v es) (hn : es.length ≤ 2097152) (hSt : St w Pl.Run.zero) :
    Calls Try.prog 46 #[v, .func (.func fn) #[] #[.pointer (some ⟨gC, 0, none⟩)]] w fun e w' =>
      (∃ (a b : Value) (T : List Int), e = .returned (.tuple #[a, b, .bool (Pl.good es)]) ∧ (Pl.good es = true → RowI w' w.heap.size a (natsI (X (Pl.run es))) ∧ RowI w' w.heap.size b T ∧ Y (Pl.run es) T) ∧ (Pl.good es = false → a = .slice none 0 0 ∧ b = .slice none 0 0)) ∧ Below w0.heap.size w0 w' := by
  have hV := implValid_any v es w (h.below hw) hn
  obtain ⟨a, cap, rfl, hcap, hC⟩ := h.cells
  obtain ⟨n, hnn⟩ : ∃ n, n = es.length := ⟨_, rfl⟩
  rw [← hnn] at hn hcap hV ⊢
  have HN := Lib.hid hnn
  have HC := Lib.hid hC
  have hszw := hw.size
  cases hg : Pl.good es
  · rw [hg] at hV
    have C := Lib.hid hV
    have HEM := Lib.hid HE
    have HSt := Lib.hid hSt
    clear hV hg h hnn hC HE hSt
    go_enter Try.func46, Try.ntmps46
    go_wp2_with fail
    refine C.out.mono ?_
    rintro e w1 ⟨rfl, hb⟩
    go_wp2
    refine bodyPost_ret (kb_results3 rfl _ _ _) rfl ?_
    exact ⟨⟨.slice none 0 0, .slice none 0 0, [], rfl, (fun h => by cases h), (fun _ => ⟨rfl, rfl⟩)⟩, hw.trans (hb.mono hszw)⟩
  · rw [hg] at hV
    have C := Lib.hid hV
    have HG := Lib.hid (good_parts hg).2
    have hlen : n ≤ 200 := by rw [hnn]; exact (good_parts hg).1
    have HEM := Lib.hid HE
    have hcall := HE.call
    have HSt := Lib.hid hSt
    have hz := kb_nil
    obtain ⟨i0, hi, hz0, hz1, hz2⟩ := info_parts infoInt
    clear hV hg h hnn hC HE hSt
    go_enter Try.func46, Try.ntmps46
    go_wp2_with fail
    refine C.out.mono ?_
    rintro e w1 ⟨rfl, hb⟩
    have hsz1 := hb.size
    have HB1 := Lib.hid (hw.trans (hb.mono hszw))
    have HS1 := Lib.hid (HEM.out.keep w w1 none Pl.Run.zero ⟨hb.os, hb.tape, hb.output, hb.size, fun k hk _ => hb.block k hk⟩ (by simp) HSt.out)
    have HS2 := Lib.hid (HEM.out.keep w1 (w1.alloc (.cells (kbA 0) 65)) none Pl.Run.zero (World.grownBy_alloc _ _ _) (by simp) HS1.out)
    have HK2 := Lib.hid (KB.made w1 0)
    obtain ⟨bd, hbd⟩ : ∃ bd, bd = w1.heap.size := ⟨_, rfl⟩
    rw [← hbd] at HK2
    have HB2 := Lib.hid (HB1.out.alloc (o := .cells (kbA 0) 65) (by omega))
    clear hb HS1 HSt
    go_wp2_with fail
    rw [← hbd]
    have hbdg : gC < bd := by omega
    have hbdw : w.heap.size ≤ bd := by omega
    have HBD := Lib.hid hbd
    clear hbd
    go_loopw [4, 5, 17] (fun sv tv i wr => ∃ (k : Nat) (r : Pl.Run) (T : List Int), i = .int .i64 k ∧ k ≤ n ∧ Hid (r = Pl.run (es.take k)) ∧ Hid (St wr r) ∧ Hid (KB wr bd r.dn) ∧
      Hid (RowI wr w.heap.size sv (natsI (X r))) ∧ Hid (RowI wr w.heap.size tv T) ∧ Hid (Y r T) ∧ Hid (Apart sv tv) ∧ (X r).length ≤ k ∧ T.length ≤ k ∧ Below w0.heap.size w0 wr) (fun _ _ i _ => n - (intOf i).toNat)
    case atStart => exact ⟨0, Pl.Run.zero, [], rfl, Nat.zero_le _, Lib.hid rfl, HS2, HK2, by rw [HEM.out.X0]; exact Lib.hid (World.ownsRow_nil _ _ _ _), Lib.hid (World.ownsRow_nil _ _ _ _), Lib.hid HEM.out.Y0, Lib.hid (fun g hg => by cases hg), by rw [HEM.out.X0]; exact Nat.le_refl _, Nat.le_refl _, HB2.out⟩
    case round =>
      obtain ⟨k, r, T, rfl, hk, HR, HS, HK, HX, HT, HY, HA, hXl, hTl, hbel⟩ := hrel
      by_cases hlt : k < n
      · obtain ⟨e, he⟩ : ∃ e, es[k]? = some e := ⟨_, List.getElem?_eq_getElem (by rw [← HN.out]; exact hlt)⟩
        obtain ⟨bk, o, rfl, hbkw, g0, g1, g2⟩ := HC.out wr hbel k e he
        obtain ⟨hck, _, hfit⟩ := Pl.chk_at HG.out he
        have hrl := Pl.run_lt _ hck
        have hsub := dn_sub (es.take k)
        rw [← HR.out] at hfit hrl hsub
        have HStep : Hid (Pl.run (es.take (k + 1)) = r.step e) := by rw [HR.out]; exact Pl.run_take he
        have CA := Lib.hid (fun w => after_any r.dn e hfit w)
        have hdn : Pl.flip r.dn e = (r.step e).dn := rfl
        rw [hdn] at CA
        have CE := Lib.hid (fun w h => HEM.out.run r e w hrl.1 hrl.2 hsub hfit h)
        have hbdr := HK.out.lt
        have HEv := Lib.hid (EvB.made wr e)
        have HK1 := Lib.hid (HK.out.alloc (.cells #[.int .i64 e.t, .int .i64 e.k, .bool e.d] 31))
        have HS1 := Lib.hid (HEM.out.keep wr (wr.alloc (.cells #[.int .i64 e.t, .int .i64 e.k, .bool e.d] 31)) none r (World.grownBy_alloc _ _ _) (by simp) HS.out)
        have HX1 := Lib.hid (HX.out.alloc (.cells #[.int .i64 e.t, .int .i64 e.k, .bool e.d] 31))
        have HT1 := Lib.hid (HT.out.alloc (.cells #[.int .i64 e.t, .int .i64 e.k, .bool e.d] 31))
        have hb1 : Below w0.heap.size w0 (wr.alloc (.cells #[.int .i64 e.t, .int .i64 e.k, .bool e.d] 31)) := hbel.alloc hbel.size _
        clear hck hfit hrl hsub he hdn HK HS HX HT
        go_wp2_with (with_reducible (show wpList _ _ _ (_ :: _) _ _); refine kb_load bd _ rfl rfl rfl HK1.out ?_)
        refine (CE.out _ HS1.out).mono ?_
        rintro x w2 ⟨rfl, hS2, hgr⟩
        have HS2 := Lib.hid hS2
        have HK2 := Lib.hid (HK1.out.kept hgr (fun e => by cases e; omega))
        have HEv2 := Lib.hid (HEv.out.kept hgr (fun e => by cases e; omega))
        have HX2 := Lib.hid (HX1.out.kept hgr (.inr (fun e => by have := row_ge HX1.out e; omega)))
        have HT2 := Lib.hid (HT1.out.kept hgr (.inr (fun e => by have := row_ge HT1.out e; omega)))
        have hb2 : Below w0.heap.size w0 w2 := hb1.grown hgr hb1.size (fun k hk => by cases hk; exact hg0)
        clear hS2 hgr HS1 HK1 HEv HX1 HT1 hb1
        cases hem : em r e
        · simp only [Bool.false_eq_true, if_false]
          have HX3 : Hid (RowI w2 w.heap.size u4 (natsI (X (r.step e)))) := by rw [HEM.out.X2 r e hem]; exact HX2.out
          have HXl : Hid ((X (r.step e)).length ≤ k) := by rw [HEM.out.X2 r e hem]; exact hXl
          have HY3 := Lib.hid (HEM.out.Y2 r e T HY.out hem)
          obtain ⟨e0, e1, e2⟩ := HEv2.out.cells
          clear hem
          go_wp2_with (with_reducible (show wpList _ _ _ (_ :: _) _ _); refine kb_load bd _ rfl rfl rfl HK2.out ?_)
          refine (CA.out _).mono ?_
          rintro x w3 ⟨rfl, hb3⟩
          have HK3 := Lib.hid (HK2.out.below hb3)
          have HS4 := Lib.hid (HEM.out.keep w3 (w3.setRow bd (kbA (r.step e).dn)) (some bd) _ (grown_row _ _ _) (by intro h; cases h; omega) (HEM.out.keep w2 w3 none _ (below_grown hb3) (by simp) HS2.out))
          have HX4 := Lib.hid ((row_below HX3.out hb3).kept (grown_row w3 bd (kbA (r.step e).dn)) (.inr (HK3.out.apart (row_below HX3.out hb3))))
          have HT4 := Lib.hid ((row_below HT2.out hb3).kept (grown_row w3 bd (kbA (r.step e).dn)) (.inr (HK3.out.apart (row_below HT2.out hb3))))
          have HB4 := Lib.hid (below_row (hb2.trans (hb3.mono hb2.size)) (g := bd) (by omega) (kbA (r.step e).dn))
          have HK4 := Lib.hid (HK3.out.row (r.step e).dn)
          clear hb3 e0 e1 e2
          go_wp2_with (with_reducible (show wpList _ _ _ (_ :: _) _ _); refine kb_store bd _ (r.step e).dn rfl rfl rfl rfl HK3.out ?_)
          go_roundw
          case rel => exact ⟨k + 1, r.step e, T, by go_num, by omega, HStep.out.symm, HS4, HK4, HX4, HT4, HY3, HA, Nat.le_succ_of_le HXl.out, by omega, HB4.out⟩
          case measure => simp [intOf]; omega
        · simp only [if_true]
          have M2 : Mid St w0 w.heap.size bd wr.heap.size r.dn e (r.step e) w2.drew u4 (natsI (X r)) u5 T := Mid.drew em st X Y HEM.out ⟨HX2.out, HT2.out, HA.out, HEv2.out, HK2.out, HS2.out, hb2, by have := hbel.size; have := HK2.out.lt; omega⟩
          obtain ⟨s, hs⟩ : ∃ s, s = st r e := ⟨_, rfl⟩
          rw [← hs]
          have HSt := Lib.hid hs
          have e0 := HEv2.out.cells.1
          have e0a := fun o => (HEv2.out.alloc o).cells.1
          have HM2 := Lib.hid M2
          have hXl2 : (natsI (X r)).length ≤ 300 := by rw [natsI_len]; omega
          clear M2 hs
          go_wp2_with fail
          go_region_law (first
            | (refine step_mid (bd := bd) (E := wr.heap.size) (dn := r.dn) (e := e) (r' := r.step e) em st X Y HEM.out hg1 hszw hi hz0 hz1 hz2 (.tmp 29) (.tmp 31) rfl rfl u4 (natsI (X r)) u5 T ?_ ?_ (s : Int) ?_ ?_ ?_ hXl2 ?_
               · rfl
               rotate_left
               · rfl
               · first | exact Mid.alloc em st X Y HEM.out HM2.out _ | exact Mid.alloc em st X Y HEM.out (Mid.alloc em st X Y HEM.out HM2.out _) _
               · first | exact heap_alloc_new _ _ | exact heap_alloc2_old _ _ _ | exact heap_alloc2_new _ _ _
               intro g cap w3 M3 hg3
               have c0 := M3.ev.cells.1
               have HM3 := Lib.hid M3
               have HK3 := Lib.hid (fun N o h1 h2 => keep_new HX2.out hg3 N o h1 h2)
               clear M3 hg3)
            | (refine step_mid (bd := bd) (E := wr.heap.size) (dn := r.dn) (e := e) (r' := r.step e) em st X Y HEM.out hg1 hszw hi hz0 hz1 hz2 (.tmp 33) (.tmp 36) rfl rfl u5 T (.slice (some ⟨g, 0, none⟩) ((natsI (X r)).length + 1) cap) (natsI (X r) ++ [(s : Int)]) ?_ ?_ e.t ?_ ?_ ?_ ?_ ?_
               · rfl
               rotate_left
               · rfl
               · first | exact HM3.out.swap | exact (Mid.alloc em st X Y HEM.out HM3.out _).swap
               · first | exact heap_alloc_new _ _ | exact HK3.out _ _ (Nat.le_refl _) (heap_alloc2_old _ _ _) | exact HK3.out _ _ (Nat.le_succ _) (heap_alloc2_new _ _ _)
               · omega
               intro g' cap' w4 M4 hg4
               have HM4 := Lib.hid M4.swap
               clear M4 hg4))
          all_goals
            have HK3' := Lib.hid HM4.out.kb
            obtain ⟨q0, q1, q2⟩ := HM4.out.ev.cells
            have HN4 : Hid (natsI (X (r.step e)) = natsI (X r) ++ [(s : Int)]) := by show _ = _; rw [HEM.out.X1 r e hem, HSt.out]; unfold natsI; rw [List.map_append]; rfl
            have HXl : Hid ((X (r.step e)).length ≤ k + 1) := by show _ ≤ _; rw [HEM.out.X1 r e hem, List.length_append]; simp; exact hXl
            have HY4 := Lib.hid (HEM.out.Y1 r e T HY.out hem)
            clear e0 e0a
            go_wp2_with (with_reducible (show wpList _ _ _ (_ :: _) _ _); refine kb_load bd _ rfl rfl rfl HK3'.out ?_)
            refine (CA.out _).mono ?_
            rintro x w5 ⟨rfl, hb5⟩
            have M5 := HM4.out
            have HK5 := Lib.hid (M5.kb.below hb5)
            have HS6 := Lib.hid (HEM.out.keep w5 (w5.setRow bd (kbA (r.step e).dn)) (some bd) _ (grown_row _ _ _) (by intro h; cases h; omega) (HEM.out.keep w4 w5 none _ (below_grown hb5) (by simp) M5.st))
            have HX6 := Lib.hid ((row_below M5.rowX hb5).kept (grown_row w5 bd (kbA (r.step e).dn)) (.inr (HK5.out.apart (row_below M5.rowX hb5))))
            have HT6 := Lib.hid ((row_below M5.rowT hb5).kept (grown_row w5 bd (kbA (r.step e).dn)) (.inr (HK5.out.apart (row_below M5.rowT hb5))))
            have HB6 := Lib.hid (below_row (M5.bel.trans (hb5.mono M5.bel.size)) (g := bd) (by omega) (kbA (r.step e).dn))
            have HK6 := Lib.hid (HK5.out.row (r.step e).dn)
            have HA6 := Lib.hid M5.apart
            clear hb5 M5 q0 q1 q2
            go_wp2_with (with_reducible (show wpList _ _ _ (_ :: _) _ _); refine kb_store bd _ (r.step e).dn rfl rfl rfl rfl HK5.out ?_)
            go_roundw
            case rel => exact ⟨k + 1, r.step e, T ++ [e.t], by go_num, by omega, HStep.out.symm, HS6, HK6, by rw [HN4.out]; exact HX6, HT6, HY4, HA6, HXl.out, by rw [List.length_append]; simp; omega, HB6.out⟩
            case measure => simp [intOf]; omega
      · obtain rfl : k = n := by omega
        have et : es.take k = es := List.take_of_length_le (by rw [← HN.out]; exact Nat.le_refl _)
        have HR2 : Hid (r = Pl.run es) := by show r = _; rw [HR.out, et]
        go_wp2
        refine bodyPost_ret (kb_results3 rfl _ _ _) rfl ?_
        exact ⟨⟨u4, u5, T, rfl, fun _ => ⟨by rw [← HR2.out]; exact HX.out, HT.out, by rw [← HR2.out]; exact HY.out⟩, (fun h => by cases h)⟩, hbel⟩
end
end Go.Proofs.Ytindcafdphfppaa
