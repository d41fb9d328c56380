/-
  laws.FnRender returns true whatever the code: a list of words renders as the words separated by spaces, and rendering starts from the empty state, at all that the code draws. Conditions: none but the row's own (the tables of unicode that it lists are Go's own).
-/
import Derived.Test.YtnpiphkglhcifaaGreatDoorRows
import Derived.Test.YtnpiphkglhcifaaGreatDoorCards
import Derived.Test.YtnpiphkglhcifaaGreatDoorTie
import Derived.WalkKit
import Derived.ProofKit
import Derived.OpenShut
import Derived.ShutString
import Derived.ChangeOld
import Derived.Below
import Derived.SliceStrings
import Derived.JoinedCond
import Derived.Deep.DeepHandedRow
import Derived.Deep.DeepWitnessRowRef
import Derived.Lib.Hide
import Derived.Lay
import Derived.LaidOnce
import Derived.PinnedBridge
import Derived.LaidMore
import Derived.Lib.LaidTab
import Derived.Stop.LaidErr
import Derived.Test.YtnpiphkglhcifaaGreatDoorBig
import Derived.Test.YtnpiphkglhcifaaGreatDoorDrawFo
import Derived.Test.YtnpiphkglhcifaaGreatDoorFmV
import Derived.Test.YtnpiphkglhcifaaGreatDoorRenP
import Derived.Test.YtnpiphkglhcifaaGreatDoorJoin
import Derived.Test.YtnpiphkglhcifaaGreatDoorTransP
namespace Go.Proofs.YtnpiphkglhcifaaGreatDoor.fnRender
open Go.ChangeShapes Go.WideShapes Go.ChangeAt Go.RowKit
open Go.ChangeMaps (open_string shut_string)
set_option linter.unusedVariables false
set_option maxRecDepth 100000

theorem own : ownKnob Tryz.prog.godebug = none := by kernel_rfl
theorem laidOut : laidOutB Tryz.prog = true := by kernel_rfl

/-- A slice of integers that came in. -/
def IsRow (k : IntKind) (w : World) (a : Option Addr) (len cap : Nat) (zs : List Int) : Prop :=
  (a = none ∧ len = 0 ∧ cap = 0 ∧ zs = []) ∨
  ∃ x, a = some x ∧ len ≤ cap ∧ cap ≤ maxLen ∧ zs.length = cap ∧ (∀ i, i < zs.length → w.cell? (x.add i) = some (.int k (zs.getD i 0))) ∧ ∀ n ∈ zs, (Lit.int k n).wf = true

theorem code_of {w : World} {a : Option Addr} {n c : Nat} {z : List Int} (h : IsRow .u8 w a n c z) (hn : n ≤ 1000000) : CodeAt w a n := by
  refine ⟨hn, fun h0 => ?_⟩
  rcases h with ⟨rfl, rfl, rfl, rfl⟩ | ⟨x, rfl, hl, hm, hz, hcell, hwz⟩
  · omega
  · obtain ⟨b, o, spot⟩ := x
    have h1 := hcell 0 (by omega)
    have hspot : spot = none := by simpa [Addr.add] using World.cell?_spot h1
    subst hspot
    refine ⟨b, o, rfl, ?_, fun i hi => ?_⟩
    · have : (w.cell? ⟨b, o, none⟩).isSome := by have := h1; simp [Addr.add] at this; rw [this]; rfl
      rcases Nat.lt_or_ge b w.heap.size with h' | h'
      · exact h'
      · simp [World.cell?, Array.getElem?_eq_none h'] at this
    · have h2 := hcell i (by omega)
      have h3 := bounds_u8 (hwz (z.getD i 0) (by rw [List.getD_eq_getElem?_getD, List.getElem?_eq_getElem (by omega)]; exact List.getElem_mem _))
      refine ⟨z.getD i 0, h3.1, h3.2, ?_⟩
      by_cases hi0 : i = 0
      · subst hi0; simpa [Addr.add] using h2
      · simpa [Addr.add, hi0] using h2
theorem row_len {w : World} {a : Option Addr} {n c : Nat} {z : List Int} (h : IsRow .u8 w a n c z) : n ≤ maxLen := by
  rcases h with ⟨_, rfl, _, _⟩ | ⟨x, _, hl, hm, _⟩
  · exact Nat.zero_le _
  · omega
abbrev OwnW (w : World) (base : Nat) (v : Value) (xs : List ByteArray) : Prop := w.ownsRow base 9 1 v xs.length (xs.map .string)
theorem ownW_new (w : World) : OwnW (w.alloc (.cells #[] 9)) w.heap.size (.slice (some ⟨w.heap.size, 0, none⟩) 0 0) [] :=
  ⟨rfl, .inr ⟨w.heap.size, 0, #[], rfl, Nat.le_refl _, by show (w.heap.push _)[w.heap.size]? = _; simp, Nat.le_refl _, by decide, rfl, rfl⟩⟩
theorem ownW_mono {w : World} {base base' : Nat} {v : Value} {xs : List ByteArray} (h : OwnW w base v xs) (hb : base' ≤ base) : OwnW w base' v xs := by
  refine ⟨h.1, ?_⟩
  rcases h.2 with h1 | ⟨g, cap, cur, hv, hg, r⟩
  · exact .inl h1
  · exact .inr ⟨g, cap, cur, hv, Nat.le_trans hb hg, r⟩
theorem ownW_keep {w w' : World} {base : Nat} {v : Value} {xs : List ByteArray} {row : Option Nat} (h : OwnW w base v xs) (hg : w.grownBy w' row) (hne : v.ownBlock = none ∨ row ≠ v.ownBlock) : OwnW w' base v xs := by
  refine h.kept hg ?_
  rcases hne with h1 | h1
  · rcases h.2 with ⟨rfl, _⟩ | ⟨g, cap, cur, rfl, _⟩
    · exact .inl rfl
    · simp [Value.ownBlock] at h1
  · exact .inr fun e => h1 e.symm
theorem ownT_keep2 {w w' : World} {base : Nat} {v : Value} {ls : List (Int × ByteArray)} {row : Option Nat} (h : OwnT w base v ls) (hg : w.grownBy w' row) (hne : v.ownBlock = none ∨ row ≠ v.ownBlock) : OwnT w' base v ls := by
  refine h.kept hg ?_
  rcases hne with h1 | h1
  · rcases h.2 with ⟨rfl, _⟩ | ⟨g, cap, cur, rfl, _⟩
    · exact .inl rfl
    · simp [Value.ownBlock] at h1
  · exact .inr fun e => h1 e.symm
/-- Two rows of one's own that lie apart. -/
structure Two (w wr : World) (base : Nat) (vw va l : Value) (ws : List ByteArray) (us ls : List (Int × ByteArray)) : Prop where
  ws : OwnW wr base vw ws
  us : OwnT wr base va us
  apart : ∀ b, vw.ownBlock = some b → va.ownBlock ≠ some b
  b : Below w.heap.size w wr
  la : AtomsAt wr l ls
  top : base ≤ wr.heap.size
  lo : w.heap.size ≤ base
  lb : ls ≠ [] → ∀ b, l.ownBlock = some b → b < base
theorem atoms_block {w : World} {v : Value} {ls : List (Int × ByteArray)} (h : AtomsAt w v ls) (h0 : ls ≠ []) : ∀ b, v.ownBlock = some b → b < w.heap.size := by
  obtain ⟨a, cap, rfl, _, h⟩ := h
  intro b hb
  rcases h with h | ⟨bk, o, rfl, hk, _⟩
  · exact absurd h h0
  · have : bk = b := by simpa [Value.ownBlock] using hb
    omega
theorem atoms_rows {w w' : World} {base : Nat} {v : Value} {ls : List (Int × ByteArray)} {row : Option Nat} (h : AtomsAt w v ls) (hg : w.grownBy w' row) (hr : ∀ k, row = some k → base ≤ k) (hb0 : ls ≠ [] → ∀ b, v.ownBlock = some b → b < base) : AtomsAt w' v ls := by
  by_cases h00 : ls = []
  · subst h00
    obtain ⟨a, cap, rfl, hc, _⟩ := h
    exact ⟨a, cap, rfl, hc, .inl rfl⟩
  have hb := hb0 h00
  obtain ⟨a, cap, rfl, hc, h⟩ := h
  refine ⟨a, cap, rfl, hc, ?_⟩
  rcases h with h | ⟨bk, o, rfl, hk, h⟩
  · exact .inl h
  · refine .inr ⟨bk, o, rfl, Nat.lt_of_lt_of_le hk hg.size, fun j e he => ?_⟩
    have hlt := hb bk rfl
    have hblk := hg.block bk hk (fun e => by have := hr bk e.symm; omega)
    obtain ⟨h0, h1⟩ := h j e he
    refine ⟨?_, ?_⟩
    · rw [← h0]; unfold World.cell?; rw [hblk]
    · rw [← h1]; unfold World.cell?; rw [hblk]
theorem own_fresh {w : World} {base : Nat} {v : Value} {us : List (Int × ByteArray)} (h : OwnT w base v us) {b : Nat} (hb : v.ownBlock = some b) : b < w.heap.size := by
  rcases h.2 with ⟨rfl, _⟩ | ⟨g, cap, cur, rfl, _, hg, _⟩
  · simp [Value.ownBlock] at hb
  · have : g = b := by simpa [Value.ownBlock] using hb
    have := (Array.getElem?_eq_some_iff.1 hg).1
    omega
theorem own_freshW {w : World} {base : Nat} {v : Value} {xs : List ByteArray} (h : OwnW w base v xs) {b : Nat} (hb : v.ownBlock = some b) : b < w.heap.size := by
  rcases h.2 with ⟨rfl, _⟩ | ⟨g, cap, cur, rfl, _, hg, _⟩
  · simp [Value.ownBlock] at hb
  · have : g = b := by simpa [Value.ownBlock] using hb
    have := (Array.getElem?_eq_some_iff.1 hg).1
    omega
theorem Two.pushW {w wr w' : World} {base : Nat} {vw va l vw' : Value} {ws ws' : List ByteArray} {us ls : List (Int × ByteArray)} (h : Two w wr base vw va l ws us ls) (ho : OwnW w' base vw' ws') (hg : wr.grownBy w' vw.ownBlock) (hat : vw'.ownBlock = vw.ownBlock ∨ vw'.ownBlock = some (wr.heap.size + 1)) : Two w w' base vw' va l ws' us ls := by
  have hr : ∀ k, vw.ownBlock = some k → base ≤ k := fun k hk => row_ge h.ws hk
  refine ⟨ho, ownT_keep2 h.us hg ?_, fun b hb hva => ?_, h.b.grown hg h.b.size (fun k hk => by have := hr k hk; have := h.lo; omega), atoms_rows h.la hg hr h.lb, Nat.le_trans h.top hg.size, h.lo, h.lb⟩
  · cases hv : va.ownBlock with
    | none => exact .inl rfl
    | some b => exact .inr fun e => h.apart b e hv
  · rcases hat with e | e
    · exact h.apart b (e ▸ hb) hva
    · rw [e] at hb
      injection hb with hb
      have := own_fresh h.us hva
      omega
theorem Two.pushA {w wr w' : World} {base : Nat} {vw va l va' : Value} {ws : List ByteArray} {us us' ls : List (Int × ByteArray)} (h : Two w wr base vw va l ws us ls) (ho : OwnT w' base va' us') (hg : wr.grownBy w' va.ownBlock) (hat : va'.ownBlock = va.ownBlock ∨ va'.ownBlock = some (wr.heap.size + 1)) : Two w w' base vw va' l ws us' ls := by
  have hr : ∀ k, va.ownBlock = some k → base ≤ k := fun k hk => row_ge h.us hk
  refine ⟨ownW_keep h.ws hg ?_, ho, fun b hb hva => ?_, h.b.grown hg h.b.size (fun k hk => by have := hr k hk; have := h.lo; omega), atoms_rows h.la hg hr h.lb, Nat.le_trans h.top hg.size, h.lo, h.lb⟩
  · cases hv : vw.ownBlock with
    | none => exact .inl rfl
    | some b => exact .inr fun e => h.apart b hv e
  · rcases hat with e | e
    · exact h.apart b hb (e ▸ hva)
    · rw [e] at hva
      injection hva with hva
      have := own_freshW h.ws hb
      omega
theorem words_at {w : World} {base : Nat} {v : Value} {xs : List ByteArray} (h : OwnW w base v xs) (h0 : 0 < xs.length) : ∃ g o cap, v = .slice (some ⟨g, o, none⟩) xs.length cap ∧ xs.length ≤ cap ∧ g < w.heap.size ∧ ∀ (j : Nat) x, xs[j]? = some x → w.cell? ⟨g, o + j, none⟩ = some (.string x) := by
  obtain ⟨a, cap, hv, hc, hh⟩ := ownsRow_at h
  rcases hh with hh | ⟨bk, o, rfl, hk, hh⟩
  · rw [hh] at h0; simp at h0
  · exact ⟨bk, o, cap, hv, hc, hk, hh⟩
/-! ### THE WALK: the Go text returns true, and writes nothing that was there. -/
set_option maxRecDepth 100000 in
set_option maxHeartbeats 8000000 in
theorem walk (a0 : Option Addr) (n0 c0 : Nat) (z0 : List Int) (w : World) (hS : w.ShapedOpen Tryz.prog)  (w0 : IsRow .u8 w a0 n0 c0 z0) :
    Calls Tryz.prog 4 #[.slice a0 n0 c0] w fun e w' => e = .returned (.bool true) ∧ Below w.heap.size w w' := by
  have hnm := row_len w0
  by_cases hbig : 65536 < n0
  · have C := Lib.hid (big_yes a0 n0 c0 w hbig hnm)
    clear w0 hS hnm
    go_enter Tryz.func4, Tryz.ntmps4
    go_wp2_with fail
    refine C.out.mono ?_
    rintro e w1 ⟨rfl, rfl⟩
    go_wp2
    go_ret
    exact ⟨rfl, Below.refl _ _⟩
  have C := Lib.hid (big_no a0 n0 c0 w (by omega))
  have HC0 := Lib.hid (code_of w0 (by omega))
  have CD := Lib.hid (fun w h => drawRender_any a0 n0 c0 w h)
  have CT := Lib.hid (fun w h => drawNewState_any a0 n0 c0 w h)
  clear w0 hS hnm hbig
  go_enter Tryz.func4, Tryz.ntmps4
  go_wp2_with fail
  refine C.out.mono ?_
  rintro e w0 ⟨rfl, rfl⟩
  go_wp2_with fail
  refine (CD.out _ HC0.out).mono ?_
  rintro e w1 ⟨⟨v, ls, rfl, ho, hl8, hgd⟩, hb⟩
  have B1 := Lib.hid hb
  have hA := ownT_at ho
  obtain ⟨va, vc, rfl, hvc, _⟩ := id hA
  have A1 := Lib.hid hA
  have HG := Lib.hid hgd
  have hx : ∀ e ∈ ls, e.2.size ≤ 1048576 := fun e he => by have := goodE_small20 (hgd e he); omega
  have ci := fun w h => Render_any (.slice va ls.length vc) ls w h (by omega) hx
  have cs := fun w h => specRender_any (.slice va ls.length vc) ls w h (by omega) hx
  have ca := fun w h => ApplyAtoms_any ⟨⟨#[]⟩, true, false, 0, 0⟩ (.slice va ls.length vc) ls w (by decide) h (by omega) hx
  have cn := fun w => NewState_any ⟨#[]⟩ w (by decide)
  rw [show newStE ⟨#[]⟩ = .returned (.tuple #[stV ⟨⟨#[]⟩, true, false, 0, 0⟩, .bool true]) from rfl] at cn
  have CN := Lib.hid cn
  unfold rendE at ci cs
  unfold optE at ca
  rw [show newS ⟨#[]⟩ = ⟨⟨#[]⟩, true, false, 0, 0⟩ from rfl] at ci cs
  obtain ⟨o, ho2⟩ : ∃ o, o = runS ⟨⟨#[]⟩, true, false, 0, 0⟩ ls := ⟨_, rfl⟩
  rw [← ho2] at ci cs ca
  obtain ⟨s, hs⟩ : ∃ s, s = o.getD St.zero := ⟨_, rfl⟩
  obtain ⟨q, hq⟩ : ∃ q, q = o.isSome := ⟨_, rfl⟩
  rw [← hs, ← hq] at ci cs ca
  obtain ⟨t1, j1, g1, k1, p1⟩ := s
  dsimp only at ci cs
  have CI := Lib.hid ci
  have CS := Lib.hid cs
  have CA := Lib.hid ca
  obtain ⟨n, hnn⟩ : ∃ n, n = ls.length := ⟨_, rfl⟩
  have HN := Lib.hid hnn
  rw [← hnn] at A1 CI CS CA hl8 hvc ⊢
  clear hb ho hA hgd hx ci cs ca cn ho2 hs hq hnn C CD
  go_wp2_with fail
  refine (CI.out _ A1.out).mono ?_
  rintro e w2 ⟨rfl, hb⟩
  have A2 := Lib.hid (A1.out.below hb)
  have B2 := Lib.hid (below_stepS B1.out hb)
  clear hb A1 CI
  go_wp2_with fail
  refine (CS.out _ A2.out).mono ?_
  rintro e w3 ⟨rfl, hb⟩
  have A3 := Lib.hid (A2.out.below hb)
  have B3 := Lib.hid (below_stepS B2.out hb)
  clear hb A2 B2 CS
  go_wp2_with fail
  refine (CN.out _).mono ?_
  rintro e w4 ⟨rfl, hb⟩
  have A4 := Lib.hid ((A3.out.below hb).below (below_alS w4 (.cells #[.string ⟨#[]⟩, .bool true, .bool false, .int .i64 0, .int .i64 0] 25)))
  have B4 := Lib.hid (below_stepS B3.out hb)
  clear hb A3 B3
  go_wp2_with fail
  refine (CA.out _ A4.out).mono ?_
  rintro e w5 ⟨rfl, hb⟩
  have A5 := Lib.hid ((A4.out.below hb).below (below_alS w5 (.cells #[.string t1, .bool j1, .bool g1, .int .i64 k1, .int .i64 p1] 25)))
  have B5 := Lib.hid (below_stepS (below_stepS B4.out (below_new hb)) (below_alS w5 (.cells #[.string t1, .bool j1, .bool g1, .int .i64 k1, .int .i64 p1] 25)))
  clear hb A4 B4 CA
  have HCx := Lib.hid (HC0.out.below B5.out)
  cases q
  · go_wp2_with fail
    refine (CT.out _ HCx.out).mono ?_
    rintro e w6 ⟨⟨x, hx, rfl⟩, hb⟩
    have A6 := Lib.hid (A5.out.below hb)
    have B6 := Lib.hid (below_stepS B5.out hb)
    clear hb A5 B5 HCx CT HC0
    have cn2 := fun w => NewState_any x w (by omega)
    have cs2 := fun w => specNewState_any x w (by omega)
    unfold newStE optE at cn2 cs2
    obtain ⟨o2, ho2⟩ : ∃ o2, o2 = (if okSt (newS x) = true then some (newS x) else none) := ⟨_, rfl⟩
    rw [← ho2] at cn2 cs2
    obtain ⟨s2, hs2⟩ : ∃ s2, s2 = o2.getD St.zero := ⟨_, rfl⟩
    obtain ⟨q2, hq2⟩ : ∃ q2, q2 = o2.isSome := ⟨_, rfl⟩
    rw [← hs2, ← hq2] at cn2 cs2
    have hneq := fun w => neqS_same s2 w
    obtain ⟨t2, j2, g2, k2, p2⟩ := s2
    dsimp only [stV] at hneq
    have CN2 := Lib.hid cn2
    have CS2 := Lib.hid cs2
    clear cn2 cs2 ho2 hs2 hq2
    go_wp2_with fail
    refine (CN2.out _).mono ?_
    rintro e w7 ⟨rfl, hb⟩
    have A7 := Lib.hid ((A6.out.below hb).below (below_alS w7 (.cells #[.string t2, .bool j2, .bool g2, .int .i64 k2, .int .i64 p2] 25)))
    have B7 := Lib.hid (below_stepS B6.out hb)
    clear hb A6 B6 CN2
    go_wp2_with fail
    refine (CS2.out _).mono ?_
    rintro e w8 ⟨rfl, hb⟩
    have P8 := Lib.hid (BoxS.call (s := ⟨t2, j2, g2, k2, p2⟩) hb)
    obtain ⟨c0', c1', c2', c3', c4'⟩ := P8.out.cells
    have hlt8 := P8.out.lt
    have A8 := Lib.hid (A7.out.below hb)
    have B8 := Lib.hid (below_stepS B7.out (below_new hb))
    clear hb A7 B7 CS2 P8
    obtain ⟨W, hW⟩ : ∃ W, W = (((w8.alloc (.cells #[.string t2, .bool j2, .bool g2, .int .i64 k2, .int .i64 p2] 25)).alloc (.cells #[] 9)).alloc (.cells #[] 33)) := ⟨_, rfl⟩
    obtain ⟨base, hbase⟩ : ∃ base, base = w8.heap.size := ⟨_, rfl⟩
    have H0 : Hid (Two w W base (.slice (some ⟨w8.heap.size + 1, 0, none⟩) 0 0) (.slice (some ⟨w8.heap.size + 1 + 1, 0, none⟩) 0 0) (.slice va n vc) [] [] ls) := by
      rw [hbase]
      have e1 := ownT_new ((w8.alloc (.cells #[.string t2, .bool j2, .bool g2, .int .i64 k2, .int .i64 p2] 25)).alloc (.cells #[] 9))
      rw [World.size_alloc, World.size_alloc] at e1
      have hlb : ls ≠ [] → ∀ b, (Value.slice va n vc).ownBlock = some b → b < w8.heap.size := fun hz => atoms_block A8.out hz
      rw [hW]
      refine ⟨?_, ownT_mono e1 (by omega), fun b hb hb2 => ?_, below_stepS B8.out (below_al3S _ _ _ _), A8.out.below (below_al3S _ _ _ _), (below_al3S w8 _ _ _).size, B8.out.size, hlb⟩
      · have e2 := ownW_new (w8.alloc (.cells #[.string t2, .bool j2, .bool g2, .int .i64 k2, .int .i64 p2] 25))
        rw [World.size_alloc] at e2
        exact ownW_mono (ownW_keep (row := none) e2 (World.grownBy_alloc _ _ _) (.inr (by simp [Value.ownBlock]))) (by omega)
      · simp [Value.ownBlock] at hb hb2
        omega
    have HW := Lib.hid hW
    clear hW A8 B8
    go_wp2_with fail
    rw [← HW.out]
    go_loopw [17, 18, 19] (fun vw ua i wr => ∃ k : Nat, i = .int .i64 k ∧ k ≤ n ∧ Hid (Two w wr base vw ua (.slice va n vc) (wTx (ls.take k)) (wAt (ls.take k)) ls)) (fun _ _ i _ => n - (intOf i).toNat)
    case atStart => exact ⟨0, rfl, Nat.zero_le _, by rw [List.take_zero]; exact H0⟩
    case round =>
      obtain ⟨k, rfl, hk, HT⟩ := hrel
      clear H0 hbase HW
      by_cases hlt : k < n
      · have hkl : k < ls.length := by rw [← HN.out]; exact hlt
        obtain ⟨e, he⟩ : ∃ e, ls[k]? = some e := ⟨_, List.getElem?_eq_getElem hkl⟩
        obtain ⟨bk, o, cap, hv, hcap, hbk, hcell⟩ := HT.out.la.some (by omega)
        injection hv with hv1 hv2 hv3
        subst hv1
        obtain ⟨g0, g1⟩ := hcell _ (Below.refl _ _) k e he
        clear hv2 hv3 hcap
        obtain ⟨ek, et⟩ := e
        simp only at g0 g1
        have hwl := wAt_len (ls.take k)
        have htl : (ls.take k).length ≤ k := by rw [List.length_take]; omega
        by_cases h1 : ek = 1
        · subst h1
          have hnx := wAt_next he rfl
          have hwx : wTx (ls.take (k + 1)) = wTx (ls.take k) ++ [et] := by unfold wTx; rw [hnx, List.map_append]; rfl
          have HNX := Lib.hid hnx
          have HWX := Lib.hid hwx
          have hwl2 : (wTx (ls.take k)).length ≤ 8 := by unfold wTx; rw [List.length_map]; omega
          have hul2 : (wAt (ls.take k)).length ≤ 8 := by omega
          obtain ⟨ws, hws⟩ : ∃ ws, ws = wTx (ls.take k) := ⟨_, rfl⟩
          obtain ⟨us, hus⟩ : ∃ us, us = wAt (ls.take k) := ⟨_, rfl⟩
          rw [← hws] at HT HWX hwl2
          rw [← hus] at HT HNX hul2
          have htop := HT.out.top
          clear hnx hwx hwl htl hws hus hcell
          go_wp2_with (at_builtin; refine push_str rfl _ _ rfl base _ ws rfl HT.out.ws et rfl htop (by omega) ?_)
          intro vw' w10 hown hg hat
          have hown' : OwnW w10 base vw' (ws ++ [et]) := by unfold OwnW; rw [List.length_append, List.map_append]; exact hown
          have HT5 := Lib.hid (HT.out.pushW hown' hg hat)
          obtain ⟨bk2, o2, cap2, hv2, hcap2, hbk2, hcell2⟩ := HT5.out.la.some (by omega)
          injection hv2 with hv2a hv2b hv2c
          injection hv2a with hv2a
          injection hv2a with hv2d hv2e
          subst hv2d hv2e
          obtain ⟨g0, g1⟩ := hcell2 _ (Below.refl _ _) k (1, et) he
          clear hv2b hv2c hcap2 he
          simp only at g0 g1
          have htop5 := HT5.out.top
          clear hown hown' hg hat HT htop hcell2
          go_wp2_with (at_builtin; refine push_atom rfl _ _ rfl base _ us rfl HT5.out.us 1 et rfl htop5 (by omega) ?_)
          intro va' w11 hown hg hat
          have HT6 := Lib.hid (HT5.out.pushA hown hg hat)
          clear hown hg hat HT5 htop5 g0 g1
          go_wp2
          go_roundw
          case rel => exact ⟨k + 1, by go_num, by omega, by rw [HWX.out, HNX.out]; exact HT6⟩
          case measure => simp [intOf]; omega
        · have h1' : (ek == 1) = false := by rw [beq_eq_false_iff_ne]; exact h1
          have hnx := wAt_skip he h1
          have HT2 : Hid (Two w wr base u17 u18 (.slice (some ⟨bk, o, none⟩) n vc) (wTx (ls.take (k + 1))) (wAt (ls.take (k + 1))) ls) := by unfold wTx; rw [hnx]; exact HT.out
          clear hnx HT hcell he
          go_wp2
          go_roundw
          case rel => exact ⟨k + 1, by go_num, by omega, HT2⟩
          case measure => simp [intOf]; omega
      · obtain rfl : k = n := by omega
        have ht := HT.out
        rw [List.take_of_length_le (by rw [← HN.out]; exact Nat.le_refl _)] at ht
        have HT2 := Lib.hid ht
        have hul : (wAt ls).length ≤ 8 := by have := wAt_len ls; have := HN.out; omega
        have hug : ∀ e ∈ wAt ls, e.1 = 1 ∧ goodE e = true := fun e he => ⟨(wAt_mem he).2, HG.out e (wAt_mem he).1⟩
        obtain ⟨sr, hr1, hr2⟩ := render_words hul hug
        have cr := fun v w h => Render_any v (wAt ls) w h (by omega) (fun e he => by have := goodE_small20 (hug e he).2; omega)
        unfold rendE at cr
        rw [hr1] at cr
        dsimp only [Option.getD, Option.isSome] at cr
        have CR := Lib.hid cr
        have hjo := fun hne => words_join hul hne hug
        have hsm : ∀ x ∈ wTx ls, x.size ≤ 2097152 := fun x hx => by
          unfold wTx at hx
          obtain ⟨e, he, rfl⟩ := List.mem_map.1 hx
          have := goodE_small20 (hug e he).2; omega
        have hJ : sr.t = ⟨(Lib.join (Pl.texts (wTx ls)) [32]).toArray⟩ := (mk_by8 _ _ hr2).symm
        obtain ⟨J, hJJ⟩ : ∃ J, J = sr.t := ⟨_, rfl⟩
        rw [← hJJ] at CR hJ
        have hwl : (wTx ls).length ≤ 8 := by unfold wTx; rw [List.length_map]; exact hul
        clear cr hr1 hr2 HT ht hug hJJ
        go_wp2_with fail
        refine (CR.out _ _ (ownT_at HT2.out.us)).mono ?_
        rintro e w12 ⟨rfl, hb⟩
        have WS := Lib.hid (ownW_keep (row := none) HT2.out.ws ⟨hb.os, hb.tape, hb.output, hb.size, fun j hj _ => hb.block j hj⟩ (by cases u17.ownBlock with | none => exact .inl rfl | some b => exact .inr (by simp)))
        have BF := Lib.hid (below_stepS HT2.out.b hb)
        clear hb HT2 CR
        by_cases hw0 : wTx ls = []
        · rw [hw0] at WS
          have hJ0 : J = ⟨#[]⟩ := by rw [hJ, hw0]; rfl
          obtain ⟨wa, wc, hwv, _⟩ := ownsRow_at WS.out
          have hwv' : u17 = .slice wa 0 wc := hwv
          subst hwv' hJ0
          have CJ := Lib.hid (Join_bad wa 0 wc ⟨#[32]⟩ w12 (by decide) (.inl rfl))
          clear hjo hsm hJ hwl WS hwv
          go_wp2_with fail
          refine CJ.out.mono ?_
          rintro e w13 ⟨rfl, rfl⟩
          unfold unjoined
          go_wp2
          go_ret
          exact ⟨rfl, BF.out⟩
        · have hpos : 0 < (wTx ls).length := List.length_pos_iff.2 hw0
          obtain ⟨gg, oo, cap, hwv, hcap, hglt, hcells⟩ := words_at WS.out hpos
          have hne : wAt ls ≠ [] := fun h => hw0 (by unfold wTx; rw [h]; rfl)
          have hJo := hjo hne
          have cj := Join_go gg oo cap (wTx ls) 32 w12 hcells hglt hpos (by omega) hcap hsm
          obtain ⟨m, hm⟩ : ∃ m, m = (wTx ls).length := ⟨_, rfl⟩
          rw [← hm] at hwv cj hpos hwl
          subst hwv
          have CJ := Lib.hid cj
          have HJo : Hid (Pl.JoinOk (wTx ls) 32) := hJo
          have HJ := Lib.hid hJ
          clear hjo hsm hJ hcells hglt hcap hne hJo cj hw0 hm WS
          go_wp2_with fail
          refine CJ.out.mono ?_
          rintro e w13 ⟨hj, hb⟩
          have hj2 := hj.yes HJo.out
          subst hj2
          unfold joined
          rw [← HJ.out]
          have BZ := Lib.hid (below_stepS BF.out hb)
          clear hj hb
          go_wp2
          go_ret
          exact ⟨rfl, BZ.out⟩
  · go_wp2_with fail
    refine (CT.out _ HCx.out).mono ?_
    rintro e w6 ⟨⟨x, hx, rfl⟩, hb⟩
    have A6 := Lib.hid (A5.out.below hb)
    have B6 := Lib.hid (below_stepS B5.out hb)
    clear hb A5 B5 HCx CT HC0
    have cn2 := fun w => NewState_any x w (by omega)
    have cs2 := fun w => specNewState_any x w (by omega)
    unfold newStE optE at cn2 cs2
    obtain ⟨o2, ho2⟩ : ∃ o2, o2 = (if okSt (newS x) = true then some (newS x) else none) := ⟨_, rfl⟩
    rw [← ho2] at cn2 cs2
    obtain ⟨s2, hs2⟩ : ∃ s2, s2 = o2.getD St.zero := ⟨_, rfl⟩
    obtain ⟨q2, hq2⟩ : ∃ q2, q2 = o2.isSome := ⟨_, rfl⟩
    rw [← hs2, ← hq2] at cn2 cs2
    have hneq := fun w => neqS_same s2 w
    obtain ⟨t2, j2, g2, k2, p2⟩ := s2
    dsimp only [stV] at hneq
    have CN2 := Lib.hid cn2
    have CS2 := Lib.hid cs2
    clear cn2 cs2 ho2 hs2 hq2
    go_wp2_with fail
    refine (CN2.out _).mono ?_
    rintro e w7 ⟨rfl, hb⟩
    have A7 := Lib.hid ((A6.out.below hb).below (below_alS w7 (.cells #[.string t2, .bool j2, .bool g2, .int .i64 k2, .int .i64 p2] 25)))
    have B7 := Lib.hid (below_stepS B6.out hb)
    clear hb A6 B6 CN2
    go_wp2_with fail
    refine (CS2.out _).mono ?_
    rintro e w8 ⟨rfl, hb⟩
    have P8 := Lib.hid (BoxS.call (s := ⟨t2, j2, g2, k2, p2⟩) hb)
    obtain ⟨c0', c1', c2', c3', c4'⟩ := P8.out.cells
    have hlt8 := P8.out.lt
    have A8 := Lib.hid (A7.out.below hb)
    have B8 := Lib.hid (below_stepS B7.out (below_new hb))
    clear hb A7 B7 CS2 P8
    obtain ⟨W, hW⟩ : ∃ W, W = (((w8.alloc (.cells #[.string t2, .bool j2, .bool g2, .int .i64 k2, .int .i64 p2] 25)).alloc (.cells #[] 9)).alloc (.cells #[] 33)) := ⟨_, rfl⟩
    obtain ⟨base, hbase⟩ : ∃ base, base = w8.heap.size := ⟨_, rfl⟩
    have H0 : Hid (Two w W base (.slice (some ⟨w8.heap.size + 1, 0, none⟩) 0 0) (.slice (some ⟨w8.heap.size + 1 + 1, 0, none⟩) 0 0) (.slice va n vc) [] [] ls) := by
      rw [hbase]
      have e1 := ownT_new ((w8.alloc (.cells #[.string t2, .bool j2, .bool g2, .int .i64 k2, .int .i64 p2] 25)).alloc (.cells #[] 9))
      rw [World.size_alloc, World.size_alloc] at e1
      have hlb : ls ≠ [] → ∀ b, (Value.slice va n vc).ownBlock = some b → b < w8.heap.size := fun hz => atoms_block A8.out hz
      rw [hW]
      refine ⟨?_, ownT_mono e1 (by omega), fun b hb hb2 => ?_, below_stepS B8.out (below_al3S _ _ _ _), A8.out.below (below_al3S _ _ _ _), (below_al3S w8 _ _ _).size, B8.out.size, hlb⟩
      · have e2 := ownW_new (w8.alloc (.cells #[.string t2, .bool j2, .bool g2, .int .i64 k2, .int .i64 p2] 25))
        rw [World.size_alloc] at e2
        exact ownW_mono (ownW_keep (row := none) e2 (World.grownBy_alloc _ _ _) (.inr (by simp [Value.ownBlock]))) (by omega)
      · simp [Value.ownBlock] at hb hb2
        omega
    have HW := Lib.hid hW
    clear hW A8 B8
    go_wp2_with fail
    rw [← HW.out]
    go_loopw [17, 18, 19] (fun vw ua i wr => ∃ k : Nat, i = .int .i64 k ∧ k ≤ n ∧ Hid (Two w wr base vw ua (.slice va n vc) (wTx (ls.take k)) (wAt (ls.take k)) ls)) (fun _ _ i _ => n - (intOf i).toNat)
    case atStart => exact ⟨0, rfl, Nat.zero_le _, by rw [List.take_zero]; exact H0⟩
    case round =>
      obtain ⟨k, rfl, hk, HT⟩ := hrel
      clear H0 hbase HW
      by_cases hlt : k < n
      · have hkl : k < ls.length := by rw [← HN.out]; exact hlt
        obtain ⟨e, he⟩ : ∃ e, ls[k]? = some e := ⟨_, List.getElem?_eq_getElem hkl⟩
        obtain ⟨bk, o, cap, hv, hcap, hbk, hcell⟩ := HT.out.la.some (by omega)
        injection hv with hv1 hv2 hv3
        subst hv1
        obtain ⟨g0, g1⟩ := hcell _ (Below.refl _ _) k e he
        clear hv2 hv3 hcap
        obtain ⟨ek, et⟩ := e
        simp only at g0 g1
        have hwl := wAt_len (ls.take k)
        have htl : (ls.take k).length ≤ k := by rw [List.length_take]; omega
        by_cases h1 : ek = 1
        · subst h1
          have hnx := wAt_next he rfl
          have hwx : wTx (ls.take (k + 1)) = wTx (ls.take k) ++ [et] := by unfold wTx; rw [hnx, List.map_append]; rfl
          have HNX := Lib.hid hnx
          have HWX := Lib.hid hwx
          have hwl2 : (wTx (ls.take k)).length ≤ 8 := by unfold wTx; rw [List.length_map]; omega
          have hul2 : (wAt (ls.take k)).length ≤ 8 := by omega
          obtain ⟨ws, hws⟩ : ∃ ws, ws = wTx (ls.take k) := ⟨_, rfl⟩
          obtain ⟨us, hus⟩ : ∃ us, us = wAt (ls.take k) := ⟨_, rfl⟩
          rw [← hws] at HT HWX hwl2
          rw [← hus] at HT HNX hul2
          have htop := HT.out.top
          clear hnx hwx hwl htl hws hus hcell
          go_wp2_with (at_builtin; refine push_str rfl _ _ rfl base _ ws rfl HT.out.ws et rfl htop (by omega) ?_)
          intro vw' w10 hown hg hat
          have hown' : OwnW w10 base vw' (ws ++ [et]) := by unfold OwnW; rw [List.length_append, List.map_append]; exact hown
          have HT5 := Lib.hid (HT.out.pushW hown' hg hat)
          obtain ⟨bk2, o2, cap2, hv2, hcap2, hbk2, hcell2⟩ := HT5.out.la.some (by omega)
          injection hv2 with hv2a hv2b hv2c
          injection hv2a with hv2a
          injection hv2a with hv2d hv2e
          subst hv2d hv2e
          obtain ⟨g0, g1⟩ := hcell2 _ (Below.refl _ _) k (1, et) he
          clear hv2b hv2c hcap2 he
          simp only at g0 g1
          have htop5 := HT5.out.top
          clear hown hown' hg hat HT htop hcell2
          go_wp2_with (at_builtin; refine push_atom rfl _ _ rfl base _ us rfl HT5.out.us 1 et rfl htop5 (by omega) ?_)
          intro va' w11 hown hg hat
          have HT6 := Lib.hid (HT5.out.pushA hown hg hat)
          clear hown hg hat HT5 htop5 g0 g1
          go_wp2
          go_roundw
          case rel => exact ⟨k + 1, by go_num, by omega, by rw [HWX.out, HNX.out]; exact HT6⟩
          case measure => simp [intOf]; omega
        · have h1' : (ek == 1) = false := by rw [beq_eq_false_iff_ne]; exact h1
          have hnx := wAt_skip he h1
          have HT2 : Hid (Two w wr base u17 u18 (.slice (some ⟨bk, o, none⟩) n vc) (wTx (ls.take (k + 1))) (wAt (ls.take (k + 1))) ls) := by unfold wTx; rw [hnx]; exact HT.out
          clear hnx HT hcell he
          go_wp2
          go_roundw
          case rel => exact ⟨k + 1, by go_num, by omega, HT2⟩
          case measure => simp [intOf]; omega
      · obtain rfl : k = n := by omega
        have ht := HT.out
        rw [List.take_of_length_le (by rw [← HN.out]; exact Nat.le_refl _)] at ht
        have HT2 := Lib.hid ht
        have hul : (wAt ls).length ≤ 8 := by have := wAt_len ls; have := HN.out; omega
        have hug : ∀ e ∈ wAt ls, e.1 = 1 ∧ goodE e = true := fun e he => ⟨(wAt_mem he).2, HG.out e (wAt_mem he).1⟩
        obtain ⟨sr, hr1, hr2⟩ := render_words hul hug
        have cr := fun v w h => Render_any v (wAt ls) w h (by omega) (fun e he => by have := goodE_small20 (hug e he).2; omega)
        unfold rendE at cr
        rw [hr1] at cr
        dsimp only [Option.getD, Option.isSome] at cr
        have CR := Lib.hid cr
        have hjo := fun hne => words_join hul hne hug
        have hsm : ∀ x ∈ wTx ls, x.size ≤ 2097152 := fun x hx => by
          unfold wTx at hx
          obtain ⟨e, he, rfl⟩ := List.mem_map.1 hx
          have := goodE_small20 (hug e he).2; omega
        have hJ : sr.t = ⟨(Lib.join (Pl.texts (wTx ls)) [32]).toArray⟩ := (mk_by8 _ _ hr2).symm
        obtain ⟨J, hJJ⟩ : ∃ J, J = sr.t := ⟨_, rfl⟩
        rw [← hJJ] at CR hJ
        have hwl : (wTx ls).length ≤ 8 := by unfold wTx; rw [List.length_map]; exact hul
        clear cr hr1 hr2 HT ht hug hJJ
        go_wp2_with fail
        refine (CR.out _ _ (ownT_at HT2.out.us)).mono ?_
        rintro e w12 ⟨rfl, hb⟩
        have WS := Lib.hid (ownW_keep (row := none) HT2.out.ws ⟨hb.os, hb.tape, hb.output, hb.size, fun j hj _ => hb.block j hj⟩ (by cases u17.ownBlock with | none => exact .inl rfl | some b => exact .inr (by simp)))
        have BF := Lib.hid (below_stepS HT2.out.b hb)
        clear hb HT2 CR
        by_cases hw0 : wTx ls = []
        · rw [hw0] at WS
          have hJ0 : J = ⟨#[]⟩ := by rw [hJ, hw0]; rfl
          obtain ⟨wa, wc, hwv, _⟩ := ownsRow_at WS.out
          have hwv' : u17 = .slice wa 0 wc := hwv
          subst hwv' hJ0
          have CJ := Lib.hid (Join_bad wa 0 wc ⟨#[32]⟩ w12 (by decide) (.inl rfl))
          clear hjo hsm hJ hwl WS hwv
          go_wp2_with fail
          refine CJ.out.mono ?_
          rintro e w13 ⟨rfl, rfl⟩
          unfold unjoined
          go_wp2
          go_ret
          exact ⟨rfl, BF.out⟩
        · have hpos : 0 < (wTx ls).length := List.length_pos_iff.2 hw0
          obtain ⟨gg, oo, cap, hwv, hcap, hglt, hcells⟩ := words_at WS.out hpos
          have hne : wAt ls ≠ [] := fun h => hw0 (by unfold wTx; rw [h]; rfl)
          have hJo := hjo hne
          have cj := Join_go gg oo cap (wTx ls) 32 w12 hcells hglt hpos (by omega) hcap hsm
          obtain ⟨m, hm⟩ : ∃ m, m = (wTx ls).length := ⟨_, rfl⟩
          rw [← hm] at hwv cj hpos hwl
          subst hwv
          have CJ := Lib.hid cj
          have HJo : Hid (Pl.JoinOk (wTx ls) 32) := hJo
          have HJ := Lib.hid hJ
          clear hjo hsm hJ hcells hglt hcap hne hJo cj hw0 hm WS
          go_wp2_with fail
          refine CJ.out.mono ?_
          rintro e w13 ⟨hj, hb⟩
          have hj2 := hj.yes HJo.out
          subst hj2
          unfold joined
          rw [← HJ.out]
          have BZ := Lib.hid (below_stepS BF.out hb)
          clear hj hb
          go_wp2
          go_ret
          exact ⟨rfl, BZ.out⟩

/-! ### THE ROW's STEP -/
set_option maxRecDepth 100000 in
theorem contract (H : Type) (enc : TypeId × Value → H) (W : World) (base : Nat) (args : Array Value) (ds gs : List (DataW H)) (before : List MemPlace)
    (hval : ∀ (j : Nat) t v, Tryz.f4.params[j]? = some t → args[j]? = some v → Value.okWide Tryz.prog W .any base t v)
    (hW : DataW.Whole enc Tryz.prog Tryz.f4.params.toList Rows.fnRenderSpec.vars false W args.toList ds gs before) (hL : laidMetH Tryz.prog Rows.fnRenderRow.laid W) (hS : W.ShapedOpen Tryz.prog) :
    Calls Tryz.prog 4 args W fun e W' => ∃ v, e = .returned v ∧ Rows.fnRenderSpec.post enc Tryz.prog Tryz.f4 false true false false W args v W' := by
  have hW' := hW
  obtain ⟨p, q, hA0, hV, rfl, hfz, hnd⟩ := hW
  have hA : DataW.TrodAll enc Tryz.prog W 0 (fun _ => true) true Tryz.f4.params.toList args.toList ds p := hA0
  rw [Tryz.params4] at hA hval
  obtain ⟨v0, vs0, d0, ds0, p0, q0, hargs, rfl, rfl, h0, r0⟩ := trodAll_cons hA
  obtain ⟨rfl, rfl, rfl⟩ := trodAll_nil r0
  obtain rfl : args = #[v0] := by cases args; simp_all
  obtain ⟨rfl, rfl⟩ := trodVars_none hV
  have k0 := h0
  have lt0 : ∀ x ∈ p0, x.block < W.heap.size := by obtain ⟨m, hm⟩ := k0; exact DataW.trod_lt m _ _ _ hm
  obtain ⟨a0, n0, c0, rfl⟩ := okWide_slice Tryz.underlying22 (hval 0 22 v0 rfl rfl)
  obtain ⟨z0, w0⟩ : ∃ zs, IsRow .u8 W a0 n0 c0 zs := by
    obtain ⟨fuel, hf⟩ := h0
    rcases open_ints Tryz.underlying22 Tryz.underlying5 (by kernel_rfl) hf with ⟨hcs, _⟩ | ⟨x, l, c, zs, hcs, _, hl, hm, hz, _, hcell, hwz⟩
    · simp [Value.cells] at hcs
      obtain ⟨rfl, rfl, rfl⟩ := hcs
      exact ⟨[], .inl ⟨rfl, rfl, rfl, rfl⟩⟩
    · simp [Value.cells] at hcs
      obtain ⟨rfl, rfl, rfl⟩ := hcs
      exact ⟨zs, .inr ⟨_, rfl, hl, hm, by simpa using hz, hcell, hwz⟩⟩
  clear hA0 hval
  refine (walk a0 n0 c0 z0 W hS  w0).mono fun e W' ⟨he, bel⟩ => ?_
  subst he
  exact ⟨_, rfl, _, _, _, [], _, [], hW', trodAll_mk1 (shut_bool Tryz.underlying4 _), (trodAll_cons_mk (Below.trod laidOut (by kernel_rfl) (of_decide_eq_true (by kernel_rfl)) k0 bel lt0) trodAll_mk0), rfl, bel.frame _, fun h => by cases h⟩

/-- There is an input that fits, at a world that is shown to be shaped. -/
theorem witness_row_shaped {H : Type} {enc : TypeId × Value → H} {C : Checked} {os : Os} {f : FuncId} {fn : Func} {s : OpenSpec} {conds : List PathCond} {apart : Bool} {laid : List (String × DataW Unit)} (modest : Bool) (w0 : World) (args : Array Value) (hos : w0.os = os)
    (hsh : (w0.forCall (fun _ _ => 0) ⟨#[], args, []⟩).Shaped C.prog)
    (hok : Input.okWideB C.prog (w0.forCall (fun _ _ => 0) ⟨#[], args, []⟩) f ⟨#[], args, []⟩ = true)
    (hrow : s.preRow enc C.prog fn conds apart laid (w0.forCall (fun _ _ => 0) ⟨#[], args, []⟩).memory args) :
    ∃ (w : World) (tape : Tape) (i : Input), w.os = os ∧ (w.forCall tape i).Shaped C.prog ∧ i.vars = [] ∧ Input.okWide C.prog (w.forCall tape i) .any w.heap.size f i ∧
      s.preRow enc C.prog fn conds apart laid (w.forCall tape i).memory i.args ∧ ({ modest := modest } : Assume).holds C.prog (lone (Frame.enter C.prog f i.args .normal) [] (w.forCall tape i)) :=
  ⟨w0, fun _ _ => 0, ⟨#[], args, []⟩, hos, hsh, (Input.okWide_of_okWideB (base := 0) hok).1, (Input.okWide_of_okWideB hok).2, hrow, by
    simp only [Assume.holds]
    exact ⟨by simp, by simp, fun _ => Modest.zero, by simp, by simp⟩⟩
theorem reads (os : Os) {H : Type} (enc : TypeId × Value → H) : ∃ places, DataW.whole enc Tryz.prog ((World.laidAll Tryz.prog os Rows.fnRenderRow.laid).forCall (fun _ _ => 0) ⟨#[], #[.slice none 0 0], []⟩).memory Tryz.f4.params.toList Rows.fnRenderSpec.vars false (#[.slice none 0 0] : Array Value).toList 8 = some ([.nil], [], places) :=
  ⟨[], by kernel_rfl⟩

set_option maxRecDepth 100000 in
theorem lifted (os : Os) (started : os.Started) (H : Type) (enc : TypeId × Value → H) (F : Stop.Interp) :
    ReturnsInHanded {} Tryz.checked os 4 .any ((OpenSpec.ofChange Rows.fnRenderSpec).preRow enc Tryz.prog Tryz.f4 Rows.fnRenderRow.domain false Rows.fnRenderRow.laid) (((OpenSpec.ofChange Rows.fnRenderSpec).at F).post enc Tryz.prog Tryz.f4 false true false false) := by
  obtain ⟨places, hx⟩ := reads os enc
  refine returnsInHanded_of_row (C := Tryz.checked) (s := OpenSpec.ofChange Rows.fnRenderSpec) own started (by kernel_rfl) Tryz.func4
    (witness_row_shaped (enc := enc) (C := Tryz.checked) false (World.laidAll Tryz.prog os Rows.fnRenderRow.laid) #[.slice none 0 0] (World.laidAll_os _ _ _) (World.shaped_of_ZipB (by kernel_rfl) (by kernel_rfl)) (by kernel_rfl)
      (OpenSpec.preRow_of_cond 8 hx (by kernel_rfl) (fun k hk => by cases hk) (by kernel_rfl) (by rw [MakeChecks.laidMetH_plain _ _ _ (by kernel_rfl)]; exact laidMet_laidAll _ (by kernel_rfl) (by kernel_rfl)))) ?_
  intro W base args ds gs before hval hW _ _ _ hL hS _
  exact contract H enc W base args ds gs before hval hW hL hS

theorem said : Rows.FnRenderSaid :=
  OpenClaim.holds_of_cond 4 Tryz.f4 rfl rfl rfl rfl rfl rfl rfl ⟨rfl, rfl, rfl, rfl, rfl⟩ rfl rfl rfl rfl rfl (by kernel_rfl) Tryz.func4 (by kernel_rfl)
    (of_decide_eq_true (by kernel_rfl)) (by unfold Func.isWrapper; first | (rw [if_pos (by decide +kernel)]; kernel_rfl) | (rw [if_neg (by decide +kernel)]; exact ⟨rfl, rfl⟩))
    (fun os started H enc _ F => by rw [OpenClaim.pre_eq_preRow]; exact lifted os started H enc F)

theorem plain (f : FuncId) (fn : Func) (hf : Tryz.pinned.checked.prog.funcNamed "loop.example/g00882/laws.FnRender" = some f) (hfn : Tryz.pinned.checked.prog.funcs[f]? = some fn) :
    false = Tryz.pinned.checked.prog.looks [] ∧ ∀ (j : Nat) t, fn.params[j]? = some t → Tryz.pinned.checked.prog.wantsStandIn t = false := by
  obtain rfl : f = 4 := Option.some.inj ((show Tryz.prog.funcNamed "loop.example/g00882/laws.FnRender" = some 4 by kernel_rfl).symm.trans hf) |>.symm
  obtain rfl : fn = Tryz.f4 := (Option.some.inj (Tryz.func4.symm.trans hfn)).symm
  refine ⟨by kernel_rfl, fun j t ht => ?_⟩
  rw [Tryz.params4] at ht
  have hm : t ∈ [22] := by have := Array.mem_of_getElem? ht; simpa using this
  have hall : ([22].all fun u => !Tryz.prog.wantsStandIn u) = true := by kernel_rfl
  exact (show Tryz.prog.wantsStandIn t = false by simpa using List.all_eq_true.1 hall t hm)

/-- THE TIED CARD. -/
theorem proved : Rows.FnRenderCardSaid :=
  Claim7.holds_tied_plain_at .later [] _ _ _ _ said (fun _ h => by cases h) (by kernel_rfl) (fun _ h => by cases h) fnRender_row_tie rfl ⟨rfl, rfl⟩ (by kernel_rfl) rfl plain (by kernel_rfl)
#print axioms proved
end Go.Proofs.YtnpiphkglhcifaaGreatDoor.fnRender
