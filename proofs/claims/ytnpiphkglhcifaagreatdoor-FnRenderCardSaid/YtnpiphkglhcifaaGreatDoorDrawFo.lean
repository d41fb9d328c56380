/-
  CONTRACTS of the draws of chapter 12 that FnFormat and FnRender need: DrawNewState, DrawRender, DrawApplyAtom, DrawApplyAtoms.
-/
import Derived.Test.YtnpiphkglhcifaaGreatDoorDrawFm
namespace Go.Proofs.YtnpiphkglhcifaaGreatDoor
set_option maxRecDepth 100000
open Go.RowKit

theorem drawNewState_any (a : Option Addr) (n cap : Nat) (w : World) (h : CodeAt w a n) :
    Calls Tryz.prog 19 #[.slice a n cap] w fun e w' => Text 40 e ∧ Below w.heap.size w w' := by
  obtain ⟨W, hW⟩ : ∃ W, W = w.alloc (.cells #[.slice a n cap, .int .i64 0, .int .u64 0] 48) := ⟨_, rfl⟩
  have hWs : W.heap.size = w.heap.size + 1 := by rw [hW, World.size_alloc]
  have C0 : Hid (Cur W w.heap.size 0) := by rw [hW]; exact cur_new w a n cap _ h
  have B0 : Hid (Below w.heap.size w W) := by rw [hW]; exact below_alS _ _
  have c1 := of_new w.heap.size 0 W #[.string ⟨#[]⟩, .string ⟨#[115, 111]⟩, .string ⟨#[84, 104, 101, 32, 101, 110, 100, 46]⟩, .string ⟨#[97, 10]⟩, .string ⟨#[0]⟩, .string ⟨#[126]⟩, .string ⟨#[32]⟩] 7 C0.out (by omega) (by kernel_rfl) rfl (by omega) (by omega)
  rw [hWs] at c1
  have C1 := Lib.hid c1
  have HW := Lib.hid hW
  clear h c1 hW
  go_enter Tryz.func19, Tryz.ntmps19
  go_wp2_with fail
  rw [← HW.out]
  refine C1.out.mono ?_
  rintro e w1 ⟨⟨x, hx, rfl⟩, hc, hg⟩
  have B1 : Hid (Below w.heap.size w w1) := B0.out.grown hg (by omega) (fun b e => by injection e with e; omega)
  clear hc hg B0 C0 C1 HW
  go_wp2
  go_ret
  exact ⟨⟨x, hx, rfl⟩, B1.out⟩
/-- A drawn list of valid atoms. -/
def DLs (m base : Nat) (w' : World) (e : Ending) : Prop := ∃ (v : Value) (ls : List (Int × ByteArray)), e = .returned v ∧ OwnT w' base v ls ∧ ls.length ≤ m ∧ ∀ x ∈ ls, goodE x = true
theorem OwnT.setRowLow {w : World} {base g : Nat} {v : Value} {ls : List (Int × ByteArray)} {cs : Array Value} (h : OwnT w base v ls) (hg : g < base) : OwnT (w.setRow g cs) base v ls := by
  refine ⟨h.1, ?_⟩
  rcases h.2 with h1 | ⟨b, cap, cur, hv, hb, hc, r⟩
  · exact .inl h1
  · exact .inr ⟨b, cap, cur, hv, hb, (setRow_other w g b cs (by omega)).trans hc, r⟩
theorem ownT_mono {w : World} {base base' : Nat} {v : Value} {ls : List (Int × ByteArray)} (h : OwnT w base v ls) (hb : base' ≤ base) : OwnT w base' v ls := by
  refine ⟨h.1, ?_⟩
  rcases h.2 with h1 | ⟨g, cap, cur, hv, hg, r⟩
  · exact .inl h1
  · exact .inr ⟨g, cap, cur, hv, Nat.le_trans hb hg, r⟩
theorem drawRender_any (a : Option Addr) (n cap : Nat) (w : World) (h : CodeAt w a n) :
    Calls Tryz.prog 15 #[.slice a n cap] w fun e w' => DLs 8 w.heap.size w' e ∧ Below w.heap.size w w' := by
  obtain ⟨W, hW⟩ : ∃ W, W = w.alloc (.cells #[.slice a n cap, .int .i64 0, .int .u64 0] 48) := ⟨_, rfl⟩
  have hWs : W.heap.size = w.heap.size + 1 := by rw [hW, World.size_alloc]
  have C0 : Hid (Cur W w.heap.size 0) := by rw [hW]; exact cur_new w a n cap _ h
  have B0 : Hid (Below w.heap.size w W) := by rw [hW]; exact below_alS _ _
  have C1 := Lib.hid (sequence_any w.heap.size 0 8 W C0.out (by omega) (by omega))
  have HW := Lib.hid hW
  clear h hW
  go_enter Tryz.func15, Tryz.ntmps15
  go_wp2_with fail
  rw [← HW.out]
  refine C1.out.mono ?_
  rintro e w1 ⟨⟨v, ls, rfl, ho, hl, hgd⟩, hc, hg⟩
  have B1 : Hid (Below w.heap.size w w1) := B0.out.grown hg (by omega) (fun b e => by injection e with e; omega)
  have HO := Lib.hid (ownT_mono ho (by omega : w.heap.size ≤ W.heap.size))
  have HG := Lib.hid hgd
  clear hc hg B0 C0 C1 HW ho hgd
  go_wp2
  go_ret
  exact ⟨⟨v, ls, rfl, HO.out, hl, HG.out⟩, B1.out⟩
/-- Results in cells: a state, a list. -/
theorem results_Sl {fn : Func} {p u : Tmp} (h : fn.results = #[.cell p 25, .tmp u]) (tmps : Array Value) (w : World) (g : Nat) (s : St)
    (hp : tmps.getD p undef = .pointer (some ⟨g, 0, none⟩)) (hg : BoxS w g s) :
    (results fn tmps).run Tryz.prog w = .ok (.tuple #[stV s, tmps.getD u undef]) w := results_S2 h tmps w g s hp hg
theorem BoxT.grown {w w' : World} {A B : Nat} {k : Int} {t : ByteArray} (h : BoxT w A k t) (hg : w.grownBy w' (some B)) (hB : B ≠ A) : BoxT w' A k t :=
  (hg.block A h.lt (by simp; exact fun e => hB e.symm)).trans h
theorem BoxT.set {w : World} {A : Nat} {k : Int} {t : ByteArray} (h : BoxT w A k t) (k' : Int) (t' : ByteArray) : BoxT (w.setRow A #[.int .i64 k', .string t']) A k' t' := setRow_heap _ _ _ _ _ _ h
theorem at_storeT {ops : Array Oper} {rest : List Oper} {o : Oper} {a : Act} {w : World} {Q : Exit → Act → World → Prop} (hgd : o.guard = none) (x y : Operand) (ho : o.op = .store 33 x y)
    (g : Nat) (k : Int) (t : ByteArray) (k' : Int) (t' : ByteArray) (hx : a.eval x = .pointer (some ⟨g, 0, none⟩)) (hy : a.eval y = atV k t) (hg : BoxT w g k' t')
    (h : wpList Tryz.prog ops Q rest (a.put o.dst undef) (w.setRow g #[.int .i64 k, .string t])) : wpList Tryz.prog ops Q (o :: rest) a w :=
  wpList_store_row hgd _ x y ho g _ hx hy _ _ hg (by kernel_rfl) rfl (by rw [Array.all_eq_true_iff_forall_mem]; intro x hx; simp at hx; rcases hx with rfl | rfl <;> rfl) h
theorem results_ST {fn : Func} {p u : Tmp} (h : fn.results = #[.cell p 25, .cell u 33]) (tmps : Array Value) (w : World) (g b : Nat) (s : St) (k : Int) (t : ByteArray)
    (hp : tmps.getD p undef = .pointer (some ⟨g, 0, none⟩)) (hg : BoxS w g s) (hu : tmps.getD u undef = .pointer (some ⟨b, 0, none⟩)) (hb : BoxT w b k t) :
    (results fn tmps).run Tryz.prog w = .ok (.tuple #[stV s, atV k t]) w := by
  have hr := run_loadVar_row (P := Tryz.prog) w g _ 25 _ _ _ hg Tryz.underlying25 rfl (by kernel_rfl)
  have hr2 := run_loadVar_row (P := Tryz.prog) w b _ 33 _ _ _ hb Tryz.underlying33 rfl (by kernel_rfl)
  simp only [Array.getD_eq_getD_getElem?] at hp hu
  unfold results
  rw [h]
  simp [hp, hu, asAddr, hr, hr2, Result.andThen]
/-- A drawn state and atom. -/
def DSA (e : Ending) : Prop := ∃ (s : St) (k : Int) (t : ByteArray), e = .returned (.tuple #[stV s, atV k t]) ∧ s.t.size ≤ 2100 ∧ t.size ≤ 40
/-- A drawn state and a drawn list. -/
def DSL (base : Nat) (w' : World) (e : Ending) : Prop := ∃ (s : St) (v : Value) (ls : List (Int × ByteArray)), e = .returned (.tuple #[stV s, v]) ∧ s.t.size ≤ 2100 ∧ OwnT w' base v ls ∧ ls.length ≤ 601 ∧ ∀ x ∈ ls, x.2.size ≤ 40
structure SeenW (X : Nat) (s : St) where
  world : World
  c0 : world.cell? ⟨X, 0, none⟩ = some (.string s.t)
  c1 : world.cell? ⟨X, 1, none⟩ = some (.bool s.j)
  c2 : world.cell? ⟨X, 2, none⟩ = some (.bool s.g)
  c3 : world.cell? ⟨X, 3, none⟩ = some (.int .i64 s.c)
  c4 : world.cell? ⟨X, 4, none⟩ = some (.int .i64 s.p)
def BoxS.seen {w : World} {X : Nat} {s : St} (h : BoxS w X s) : SeenW X s := ⟨w, h.cells.1, h.cells.2.1, h.cells.2.2.1, h.cells.2.2.2.1, h.cells.2.2.2.2⟩
set_option maxHeartbeats 2000000 in
theorem drawApplyAtom_any (a : Option Addr) (n cap : Nat) (w : World) (h : CodeAt w a n) :
    Calls Tryz.prog 11 #[.slice a n cap] w fun e w' => DSA e ∧ Below w.heap.size w w' := by
  have CS := Lib.hid (fun B N w h hN => state_any B N w h hN)
  have CA := Lib.hid (fun B N w h hN => anyAtom_any B N w h hN)
  obtain ⟨W, hW⟩ : ∃ W, W = ((w.alloc (.cells #[.string ⟨#[]⟩, .bool false, .bool false, .int .i64 0, .int .i64 0] 25)).alloc (.cells #[.int .i64 0, .string ⟨#[]⟩] 33)).alloc (.cells #[.slice a n cap, .int .i64 0, .int .u64 0] 48) := ⟨_, rfl⟩
  have R0 : Hid (BoxS W w.heap.size St.zero) := by rw [hW]; exact ((BoxS.new w St.zero).below (below_alS _ _)).below (below_alS _ _)
  have T0 : Hid (BoxT W (w.heap.size + 1) 0 ⟨#[]⟩) := by rw [hW]; have := BoxT.new (w.alloc (.cells (stC St.zero) 25)) 0 ⟨#[]⟩; rw [World.size_alloc] at this; exact this.below (below_alS _ _)
  have C0 : Hid (Cur W (w.heap.size + 2) 0) := by
    have e := cur_new ((w.alloc (.cells (stC St.zero) 25)).alloc (.cells #[.int .i64 0, .string ⟨#[]⟩] 33)) a n cap 48 (h.below (below_al2S _ _ _))
    rw [World.size_alloc, World.size_alloc] at e
    rw [hW]; exact e
  have B0 : Hid (Below w.heap.size w W) := by rw [hW]; exact below_al3S _ _ _ _
  have hWs : W.heap.size = w.heap.size + 3 := by rw [hW]; simp
  have HW := Lib.hid hW
  clear h hW
  go_enter Tryz.func11, Tryz.ntmps11
  go_wp2_with fail
  rw [← HW.out]
  refine (CS.out _ _ W C0.out (by omega)).mono ?_
  rintro e w1 ⟨⟨s, rfl, hs⟩, hc, hg⟩
  obtain ⟨t, j, g, c, p⟩ := s
  simp only at hs
  have hs1 : W.heap.size ≤ w1.heap.size := hg.size
  obtain ⟨V, hV⟩ : ∃ V, V = w1.alloc (.cells #[.string t, .bool j, .bool g, .int .i64 c, .int .i64 p] 25) := ⟨_, rfl⟩
  have X1 : Hid (BoxS V w1.heap.size ⟨t, j, g, c, p⟩) := by rw [hV]; exact BoxS.new w1 ⟨t, j, g, c, p⟩
  have R1 : Hid (BoxS V w.heap.size St.zero) := by rw [hV]; exact (R0.out.grown hg (by omega)).below (below_alS _ _)
  have T1 : Hid (BoxT V (w.heap.size + 1) 0 ⟨#[]⟩) := by rw [hV]; exact (T0.out.grown hg (by omega)).below (below_alS _ _)
  have C1 : Hid (Cur V (w.heap.size + 2) 6000) := by rw [hV]; exact (hc.mono (by omega)).below (below_alS _ _)
  have B1 : Hid (Below w.heap.size w V) := by rw [hV]; exact below_stepS (B0.out.grown hg (by omega) (fun b e => by injection e with e; omega)) (below_alS _ _)
  have hVs : V.heap.size = w1.heap.size + 1 := by rw [hV, World.size_alloc]
  have HV := Lib.hid hV
  obtain ⟨X, hX⟩ : ∃ X, X = w1.heap.size := ⟨_, rfl⟩
  clear hc hg hV R0 T0 C0 B0 HW CS
  go_wp2_with fail
  rw [← HV.out]
  rw [← hX] at X1 hVs hs1 ⊢
  clear HV hX
  have q0 : ∀ q : SeenW X ⟨t, j, g, c, p⟩, q.world.cell? ⟨X, 0, none⟩ = some (.string t) := fun q => q.c0
  have q1 : ∀ q : SeenW X ⟨t, j, g, c, p⟩, q.world.cell? ⟨X, 1, none⟩ = some (.bool j) := fun q => q.c1
  have q2 : ∀ q : SeenW X ⟨t, j, g, c, p⟩, q.world.cell? ⟨X, 2, none⟩ = some (.bool g) := fun q => q.c2
  have q3 : ∀ q : SeenW X ⟨t, j, g, c, p⟩, q.world.cell? ⟨X, 3, none⟩ = some (.int .i64 c) := fun q => q.c3
  have q4 : ∀ q : SeenW X ⟨t, j, g, c, p⟩, q.world.cell? ⟨X, 4, none⟩ = some (.int .i64 p) := fun q => q.c4
  refine Mx.wp_region_mix (S := fun w' => ∃ q : SeenW X ⟨t, j, g, c, p⟩, w' = q.world) (Mx.ofL [(0, 1), (1, 0), (2, 2), (3, 3), (4, 3)] .done) (by kernel_rfl) (by kernel_rfl) ⟨(show BoxS V.drew X ⟨t, j, g, c, p⟩ from X1.out).seen, rfl⟩ ?_
  repeat ((first | refine Mx.mix0 rfl ?_ | refine Mx.mix1 rfl ?_); go_big_quiet_step (rfl); refine wpQuiet_nil ?_)
  refine Mx.mix2 rfl ?_
  clear q0 q1 q2 q3 q4
  go_wp2_with fail
  refine (CA.out _ _ V.drew (C1.out.below (below_drewS (Below.refl _ V))) (by omega)).mono ?_
  rintro e w2 ⟨⟨k, x, rfl, hx, hk0, hk1⟩, hc, hg⟩
  have X2 := Lib.hid ((show BoxS V.drew X ⟨t, j, g, c, p⟩ from X1.out).grown hg (by omega))
  have R2 := Lib.hid ((show BoxS V.drew w.heap.size St.zero from R1.out).grown hg (by omega))
  have T2 := Lib.hid ((show BoxT V.drew (w.heap.size + 1) 0 ⟨#[]⟩ from T1.out).grown hg (by omega))
  have B2 : Hid (Below w.heap.size w w2) := (below_stepS B1.out (below_drewS (Below.refl _ V))).grown hg (by show w.heap.size ≤ V.heap.size; omega) (fun b e => by injection e with e; omega)
  clear hc hg X1 R1 T1 C1 B1 CA
  go_wp2
  refine Mx.mid_normal (fun _ => ⟨X2.out.seen, rfl⟩) ?_
  refine Mx.mix3 rfl ?_
  go_wp2_with (with_reducible (show wpList _ _ _ (_ :: _) _ _); refine at_storeS rfl _ _ rfl w.heap.size ⟨t, j, g, c, p⟩ St.zero rfl rfl R2.out ?_)
  refine Mx.mid_normal (fun q => by cases q) ?_
  refine Mx.mix3 rfl ?_
  have T3 := Lib.hid (T2.out.row (g := w.heap.size) (stC ⟨t, j, g, c, p⟩) (by omega))
  have R3 := Lib.hid ((R2.out.set ⟨t, j, g, c, p⟩).row (g := w.heap.size + 1) #[.int .i64 k, .string x] (by omega))
  go_wp2_with (with_reducible (show wpList _ _ _ (_ :: _) _ _); refine at_storeT rfl _ _ rfl (w.heap.size + 1) k x 0 ⟨#[]⟩ rfl rfl T3.out ?_)
  refine Mx.mid_normal (fun q => by cases q) (Mx.mix_nil ?_)
  go_wp2
  (try simp only [Exit.inBlock, Exit.then])
  refine bodyPost_ret (results_ST rfl _ _ w.heap.size (w.heap.size + 1) _ k x rfl R3.out rfl (T3.out.set k x)) rfl ?_
  exact ⟨⟨_, k, x, rfl, hs, hx⟩, below_setRow (below_setRow B2.out (Nat.le_refl _) _) (by omega) _⟩
theorem BoxS.rows {w w' : World} {R : Nat} {s : St} {row : Option Nat} (h : BoxS w R s) (hg : w.grownBy w' row) (hr : ∀ k, row = some k → R < k) : BoxS w' R s :=
  (hg.block R h.lt (fun e => by have := hr R e.symm; omega)).trans h
/-- On the way: the list, the state's box, the result's box, the cursor. -/
structure Way (w wx : World) (base X : Nat) (s : St) (v : Value) (ls : List (Int × ByteArray)) (N : Nat) : Prop where
  own : OwnT wx base v ls
  x : BoxS wx X s
  r : BoxS wx w.heap.size St.zero
  c : Cur wx (w.heap.size + 1) N
  b : Below w.heap.size w wx
  lo : w.heap.size + 1 < X
  hi : X < base
  top : base ≤ wx.heap.size
theorem Way.call {w wx w' : World} {base X N N' : Nat} {s : St} {v : Value} {ls : List (Int × ByteArray)} (h : Way w wx base X s v ls N) (hg : wx.grownBy w' (some (w.heap.size + 1))) (hc : Cur w' (w.heap.size + 1) N') : Way w w' base X s v ls N' :=
  have lo := h.lo
  have hi := h.hi
  ⟨ownT_keep h.own hg (by omega), h.x.grown hg (by omega), h.r.grown hg (by omega), hc, h.b.grown hg h.b.size (fun b e => by injection e with e; omega), h.lo, h.hi, Nat.le_trans h.top hg.size⟩
theorem Way.push {w wx w' : World} {base X N : Nat} {s : St} {v v' : Value} {ls ls' : List (Int × ByteArray)} (h : Way w wx base X s v ls N) (ho : OwnT w' base v' ls') (hg : wx.grownBy w' v.ownBlock) : Way w w' base X s v' ls' N :=
  have lo := h.lo
  have hi := h.hi
  have hr : ∀ k, v.ownBlock = some k → base ≤ k := fun k hk => row_ge h.own hk
  ⟨ho, h.x.rows hg (fun k hk => by have := hr k hk; omega), h.r.rows hg (fun k hk => by have := hr k hk; omega), h.c.rowA hg (fun k hk => by have := hr k hk; omega), h.b.grown hg h.b.size (fun k hk => by have := hr k hk; omega), h.lo, h.hi, Nat.le_trans h.top hg.size⟩
theorem Way.below {w wx w' : World} {base X N : Nat} {s : St} {v : Value} {ls : List (Int × ByteArray)} (h : Way w wx base X s v ls N) (hb : Below wx.heap.size wx w') : Way w w' base X s v ls N :=
  ⟨rowS_below h.own hb, h.x.below hb, h.r.below hb, h.c.below hb, below_stepS h.b hb, h.lo, h.hi, Nat.le_trans h.top hb.size⟩
set_option maxHeartbeats 8000000 in
theorem drawApplyAtoms_any (a : Option Addr) (n cap : Nat) (w : World) (h : CodeAt w a n) :
    Calls Tryz.prog 6 #[.slice a n cap] w fun e w' => DSL w.heap.size w' e ∧ Below w.heap.size w w' := by
  have CS := Lib.hid (fun B N w h hN => state_any B N w h hN)
  have CA := Lib.hid (fun B N w h hN => anyAtom_any B N w h hN)
  have CQ := Lib.hid (fun B N w h hN => sequence_any B N 6 w h hN (by omega))
  have CO := Lib.hid (fun B N n w h hN h0 h1 => one_any B N n w h hN h0 h1)
  have CP := Lib.hid (fun B N n w h hN h0 h1 => pick_any B N n w h hN h0 h1)
  obtain ⟨W, hW⟩ : ∃ W, W = (w.alloc (.cells #[.string ⟨#[]⟩, .bool false, .bool false, .int .i64 0, .int .i64 0] 25)).alloc (.cells #[.slice a n cap, .int .i64 0, .int .u64 0] 48) := ⟨_, rfl⟩
  have R0 : Hid (BoxS W w.heap.size St.zero) := by rw [hW]; exact (BoxS.new w St.zero).below (below_alS _ _)
  have C0 : Hid (Cur W (w.heap.size + 1) 0) := by
    have e := cur_new (w.alloc (.cells (stC St.zero) 25)) a n cap 48 (h.below (below_alS _ _))
    rw [World.size_alloc] at e
    rw [hW]; exact e
  have B0 : Hid (Below w.heap.size w W) := by rw [hW]; exact below_al2S _ _ _
  have hWs : W.heap.size = w.heap.size + 2 := by rw [hW]; simp
  have HW := Lib.hid hW
  clear h hW
  go_enter Tryz.func6, Tryz.ntmps6
  go_wp2_with fail
  rw [← HW.out]
  refine (CS.out _ _ W C0.out (by omega)).mono ?_
  rintro e w1 ⟨⟨s, rfl, hs⟩, hc, hg⟩
  obtain ⟨t, j, g, c, p⟩ := s
  simp only at hs
  have hs1 : W.heap.size ≤ w1.heap.size := hg.size
  obtain ⟨V, hV⟩ : ∃ V, V = w1.alloc (.cells #[.string t, .bool j, .bool g, .int .i64 c, .int .i64 p] 25) := ⟨_, rfl⟩
  have X1 : Hid (BoxS V w1.heap.size ⟨t, j, g, c, p⟩) := by rw [hV]; exact BoxS.new w1 ⟨t, j, g, c, p⟩
  have R1 : Hid (BoxS V w.heap.size St.zero) := by rw [hV]; exact (R0.out.grown hg (by omega)).below (below_alS _ _)
  have C1 : Hid (Cur V (w.heap.size + 1) 6000) := by rw [hV]; exact (hc.mono (by omega)).below (below_alS _ _)
  have B1 : Hid (Below w.heap.size w V) := by rw [hV]; exact below_stepS (B0.out.grown hg (by omega) (fun b e => by injection e with e; omega)) (below_alS _ _)
  have hVs : V.heap.size = w1.heap.size + 1 := by rw [hV, World.size_alloc]
  have HV := Lib.hid hV
  obtain ⟨X, hX⟩ : ∃ X, X = w1.heap.size := ⟨_, rfl⟩
  clear hc hg hV R0 C0 B0 HW CS
  go_wp2_with fail
  rw [← HV.out]
  rw [← hX] at X1 hVs hs1 ⊢
  clear HV hX
  refine (CQ.out _ _ V C1.out (by omega)).mono ?_
  rintro e w2 ⟨⟨v, ls, rfl, ho, hl, hgd⟩, hc, hg⟩
  obtain ⟨base, hbase⟩ : ∃ base, base = V.heap.size := ⟨_, rfl⟩
  rw [← hbase] at ho
  have H2 : Hid (Way w w2 base X ⟨t, j, g, c, p⟩ v ls 7000) := ⟨ho, X1.out.grown hg (by omega), R1.out.grown hg (by omega), hc.mono (by omega), B1.out.grown hg (by omega) (fun b e => by injection e with e; omega), by omega, by omega, by rw [hbase]; exact hg.size⟩
  have HE2 : Hid (∀ x ∈ ls, x.2.size ≤ 40) := fun x hx => by have := goodE_small20 (hgd x hx); omega
  clear ho hgd hc hg X1 R1 C1 B1 CQ hbase hVs hs1 hWs
  go_wp2_with fail
  refine (CO.out _ _ _ w2 H2.out.c (by omega) (by omega) (by omega)).mono ?_
  rintro e w3 ⟨⟨b, rfl⟩, hc, hg⟩
  have H3 := Lib.hid (H2.out.call hg hc)
  clear hc hg H2
  -- the second half, whatever the list
  have key : ∀ (l : List (Int × ByteArray)), l.length ≤ 7 → True := fun _ _ => trivial
  clear key
  cases b with
  | false =>
    go_wp2_with fail
    refine (CO.out _ _ _ w3 H3.out.c (by omega) (by omega) (by omega)).mono ?_
    rintro e w6 ⟨⟨b2, rfl⟩, hc, hg⟩
    have H6 := Lib.hid ((H3.out.call hg hc))
    have HE6 := HE2
    have hl6 : ls.length ≤ 7 := by omega
    clear hc hg H3 HE2 CA
    cases b2 with
    | false =>
      obtain ⟨c0, c1, c2, c3, c4⟩ := H6.out.x.cells
      go_wp2_with (with_reducible (show wpList _ _ _ (_ :: _) _ _); refine at_storeS rfl _ _ rfl w.heap.size ⟨t, j, g, c, p⟩ St.zero rfl rfl H6.out.r ?_)
      (try simp only [Exit.inBlock, Exit.then])
      refine bodyPost_ret (results_Sl rfl _ _ w.heap.size _ rfl (H6.out.r.set _)) rfl ?_
      have lo := H6.out.lo
      have hi := H6.out.hi
      exact ⟨⟨_, _, ls, rfl, hs, ownT_mono (OwnT.setRowLow H6.out.own (by omega)) (by omega), by omega, HE6.out⟩, below_setRow H6.out.b (Nat.le_refl _) _⟩
    | true =>
      have hsz6 := H6.out.top
      obtain ⟨V6, hV6⟩ : ∃ V6, V6 = w6.alloc (.cells #[] 33) := ⟨_, rfl⟩
      have H7 : Hid (Way w V6 w6.heap.size X ⟨t, j, g, c, p⟩ (.slice (some ⟨w6.heap.size, 0, none⟩) 0 0) [] 9000) := by
        have hi := H6.out.hi
        have q := H6.out.below (below_alS w6 (.cells #[] 33))
        rw [hV6]
        exact ⟨ownT_new w6, q.x, q.r, q.c.mono (by omega), q.b, q.lo, by omega, by rw [World.size_alloc]; omega⟩
      have HV6 := Lib.hid hV6
      clear hV6 H6 HE6
      go_wp2_with fail
      rw [← HV6.out]
      refine (CP.out _ _ _ V6 H7.out.c (by omega) (by omega) (by omega)).mono ?_
      rintro e w8 ⟨⟨r, r0, r1, rfl⟩, hc, hg⟩
      obtain ⟨R, rfl⟩ := Int.eq_ofNat_of_zero_le r0
      have H8 := Lib.hid (H7.out.call hg hc)
      obtain ⟨base2, hb2⟩ : ∃ base2, base2 = w6.heap.size := ⟨_, rfl⟩
      rw [← hb2] at H8 ⊢
      clear hc hg H7 HV6 r0 hb2
      go_wp2_with fail
      go_loopw [6, 7] (fun l i wr => ∃ (k : Nat) (l8 : List (Int × ByteArray)), i = .int .i64 k ∧ l8.length + k ≤ 601 ∧ Hid (Way w wr base2 X ⟨t, j, g, c, p⟩ l l8 9002) ∧ Hid (∀ x ∈ l8, x.2.size ≤ 40)) (fun _ i _ => (intOf i).toNat)
      case atStart => exact ⟨600 + R, [], by go_num, by simp; omega, H8, Lib.hid (fun x hx => by simp at hx)⟩
      case round =>
        obtain ⟨k, l8, rfl, hlen, HY, HX⟩ := hrel
        clear H8
        by_cases hpos : 0 < k
        · have hpos' : (0 : Int) < (k : Int) := by omega
          have htop := HY.out.top
          go_wp2_with (at_builtin; refine push_atom rfl _ _ rfl base2 _ l8 rfl HY.out.own 8 ⟨#[]⟩ rfl htop (by omega) ?_)
          intro v' w9 hown hg9 _
          have H9 := Lib.hid (HY.out.push hown hg9)
          have HX9 : Hid (∀ y ∈ l8 ++ [(8, ⟨#[]⟩)], y.2.size ≤ 40) := by
            intro y hy
            rw [List.mem_append] at hy
            rcases hy with hy | hy
            · exact HX.out y hy
            · simp at hy; subst hy; decide
          clear hown hg9 HY HX htop
          go_wp2
          go_roundw
          case rel => exact ⟨k - 1, l8 ++ [(8, ⟨#[]⟩)], by first | go_num | (congr 1; omega), by rw [List.length_append]; simp; omega, H9, HX9⟩
          case measure => simp [intOf]; omega
        · obtain rfl : k = 0 := by omega
          obtain ⟨c0, c1, c2, c3, c4⟩ := HY.out.x.cells
          go_wp2_with (with_reducible (show wpList _ _ _ (_ :: _) _ _); refine at_storeS rfl _ _ rfl w.heap.size ⟨t, j, g, c, p⟩ St.zero rfl rfl HY.out.r ?_)
          (try simp only [Exit.inBlock, Exit.then])
          refine bodyPost_ret (results_Sl rfl _ _ w.heap.size _ rfl (HY.out.r.set _)) rfl ?_
          have lo := HY.out.lo
          have hi := HY.out.hi
          exact ⟨⟨_, _, l8, rfl, hs, ownT_mono (OwnT.setRowLow HY.out.own (by omega)) (by omega), by omega, HX.out⟩, below_setRow HY.out.b (Nat.le_refl _) _⟩
  | true =>
    go_wp2_with fail
    refine (CA.out _ _ w3 H3.out.c (by omega)).mono ?_
    rintro e w4 ⟨⟨k, x, rfl, hx, hk0, hk1⟩, hc, hg⟩
    have H4 := Lib.hid (H3.out.call hg hc)
    have htop := H4.out.top
    clear hc hg H3
    go_wp2_with (at_builtin; refine push_atom rfl _ _ rfl base _ ls rfl H4.out.own k x rfl htop (by omega) ?_)
    intro v' w5 hown hg5 _
    have H5 := Lib.hid (H4.out.push hown hg5)
    have HE5 : Hid (∀ y ∈ ls ++ [(k, x)], y.2.size ≤ 40) := by
      intro y hy
      rw [List.mem_append] at hy
      rcases hy with hy | hy
      · exact HE2.out y hy
      · simp at hy; subst hy; exact hx
    obtain ⟨l5, hl5⟩ : ∃ l5, l5 = ls ++ [(k, x)] := ⟨_, rfl⟩
    have hl6 : l5.length ≤ 7 := by rw [hl5, List.length_append]; simp; omega
    rw [← hl5] at H5 HE5
    clear hown hg5 H4 HE2 hl5 htop CA
    go_wp2_with fail
    refine (CO.out _ _ _ w5 H5.out.c (by omega) (by omega) (by omega)).mono ?_
    rintro e w6 ⟨⟨b2, rfl⟩, hc, hg⟩
    have H6 := Lib.hid (H5.out.call hg hc)
    have HE6 := HE5
    clear hc hg H5 HE5
    cases b2 with
    | false =>
      obtain ⟨c0, c1, c2, c3, c4⟩ := H6.out.x.cells
      go_wp2_with (with_reducible (show wpList _ _ _ (_ :: _) _ _); refine at_storeS rfl _ _ rfl w.heap.size ⟨t, j, g, c, p⟩ St.zero rfl rfl H6.out.r ?_)
      (try simp only [Exit.inBlock, Exit.then])
      refine bodyPost_ret (results_Sl rfl _ _ w.heap.size _ rfl (H6.out.r.set _)) rfl ?_
      have lo := H6.out.lo
      have hi := H6.out.hi
      exact ⟨⟨_, _, l5, rfl, hs, ownT_mono (OwnT.setRowLow H6.out.own (by omega)) (by omega), by omega, HE6.out⟩, below_setRow H6.out.b (Nat.le_refl _) _⟩
    | true =>
      have hsz6 := H6.out.top
      obtain ⟨V6, hV6⟩ : ∃ V6, V6 = w6.alloc (.cells #[] 33) := ⟨_, rfl⟩
      have H7 : Hid (Way w V6 w6.heap.size X ⟨t, j, g, c, p⟩ (.slice (some ⟨w6.heap.size, 0, none⟩) 0 0) [] 9000) := by
        have hi := H6.out.hi
        have q := H6.out.below (below_alS w6 (.cells #[] 33))
        rw [hV6]
        exact ⟨ownT_new w6, q.x, q.r, q.c.mono (by omega), q.b, q.lo, by omega, by rw [World.size_alloc]; omega⟩
      have HV6 := Lib.hid hV6
      clear hV6 H6 HE6
      go_wp2_with fail
      rw [← HV6.out]
      refine (CP.out _ _ _ V6 H7.out.c (by omega) (by omega) (by omega)).mono ?_
      rintro e w8 ⟨⟨r, r0, r1, rfl⟩, hc, hg⟩
      obtain ⟨R, rfl⟩ := Int.eq_ofNat_of_zero_le r0
      have H8 := Lib.hid (H7.out.call hg hc)
      obtain ⟨base2, hb2⟩ : ∃ base2, base2 = w6.heap.size := ⟨_, rfl⟩
      rw [← hb2] at H8 ⊢
      clear hc hg H7 HV6 r0 hb2
      go_wp2_with fail
      go_loopw [6, 7] (fun l i wr => ∃ (k : Nat) (l8 : List (Int × ByteArray)), i = .int .i64 k ∧ l8.length + k ≤ 601 ∧ Hid (Way w wr base2 X ⟨t, j, g, c, p⟩ l l8 9002) ∧ Hid (∀ x ∈ l8, x.2.size ≤ 40)) (fun _ i _ => (intOf i).toNat)
      case atStart => exact ⟨600 + R, [], by go_num, by simp; omega, H8, Lib.hid (fun x hx => by simp at hx)⟩
      case round =>
        obtain ⟨k, l8, rfl, hlen, HY, HX⟩ := hrel
        clear H8
        by_cases hpos : 0 < k
        · have hpos' : (0 : Int) < (k : Int) := by omega
          have htop := HY.out.top
          go_wp2_with (at_builtin; refine push_atom rfl _ _ rfl base2 _ l8 rfl HY.out.own 8 ⟨#[]⟩ rfl htop (by omega) ?_)
          intro v' w9 hown hg9 _
          have H9 := Lib.hid (HY.out.push hown hg9)
          have HX9 : Hid (∀ y ∈ l8 ++ [(8, ⟨#[]⟩)], y.2.size ≤ 40) := by
            intro y hy
            rw [List.mem_append] at hy
            rcases hy with hy | hy
            · exact HX.out y hy
            · simp at hy; subst hy; decide
          clear hown hg9 HY HX htop
          go_wp2
          go_roundw
          case rel => exact ⟨k - 1, l8 ++ [(8, ⟨#[]⟩)], by first | go_num | (congr 1; omega), by rw [List.length_append]; simp; omega, H9, HX9⟩
          case measure => simp [intOf]; omega
        · obtain rfl : k = 0 := by omega
          obtain ⟨c0, c1, c2, c3, c4⟩ := HY.out.x.cells
          go_wp2_with (with_reducible (show wpList _ _ _ (_ :: _) _ _); refine at_storeS rfl _ _ rfl w.heap.size ⟨t, j, g, c, p⟩ St.zero rfl rfl HY.out.r ?_)
          (try simp only [Exit.inBlock, Exit.then])
          refine bodyPost_ret (results_Sl rfl _ _ w.heap.size _ rfl (HY.out.r.set _)) rfl ?_
          have lo := HY.out.lo
          have hi := HY.out.hi
          exact ⟨⟨_, _, l8, rfl, hs, ownT_mono (OwnT.setRowLow HY.out.own (by omega)) (by omega), by omega, HX.out⟩, below_setRow HY.out.b (Nat.le_refl _) _⟩
end Go.Proofs.YtnpiphkglhcifaaGreatDoor
