/-
  CONTRACTS of the program's SplitString: the iterator over the parts, slices.AppendSeq and slices.Collect over it.
-/
import Derived.Test.YtbpjlhdhlcmajaaSplit
import Derived.RangeFuncBox
import Derived.RangeFuncLeaves
import Derived.OwnWalkIn
import Derived.TacticsInMore
import Derived.LoopNIn
import Derived.LoopIn
import Derived.Maps.AppendAt
import Derived.Sort.QuietIn
import Derived.Shelf.Abstract
namespace Go.Proofs.Ytbpjlhdhlcmajaa
open Go.RowKit Go.Shelf

attribute [local go_sem] Oper.semAt_some

/-- What a draw leaves to an invariant that abides new blocks. -/
theorem abides_drew {β : Type} {B : Nat} {J : β → World → Prop} (hJ : AbidesFrom B J) {s : β} {W : World} (h : J s W) (k : Nat) : J s (W.drewN k) :=
  hJ s W (W.drewN k) none h ⟨rfl, rfl, rfl, Nat.le_refl _, fun _ _ _ => rfl⟩ (fun r e => by cases e)

set_option maxRecDepth 100000 in
set_option maxHeartbeats 2000000 in
theorem parts1_in (n : Nat) (hn : 1 ≤ n) (l Bs Bp n₀ : Nat) (s : ByteArray) (c : UInt8) (hs : s.size ≤ 4294967280) (hBs : Bs < n₀) (hBp : Bp < n₀) (J Jx : List ByteArray → World → Prop)
    (W : World) (hJ : AbidesFrom W.heap.size J)
    (hY : ∀ pre x W, J pre W → pre.length < s.size + 1 → YieldAt Fence.wide (n - 1) Try.prog l #[.string x] W fun e W' =>
      (e = .returned (.bool true) ∧ J (pre ++ [x]) W' ∧ Below n₀ W W') ∨ (e = .returned (.bool false) ∧ Jx (pre ++ [x]) W'))
    (hcs : W.cell? ⟨Bs, 0, none⟩ = some (.string s)) (hcp : W.cell? ⟨Bp, 0, none⟩ = some (.int .u8 (c.toNat : Int))) (h0 : J [] W) :
    CallsIn Fence.wide n Try.prog 38 #[.func (.yield l) #[] #[], .pointer (some ⟨Bs, 0, none⟩), .pointer (some ⟨Bp, 0, none⟩)] W fun e W' => (∃ v, e = .returned v) ∧
      ((∃ ys, ys = Pl.splitB s c ∧ J ys W') ∨ (∃ pre, True ∧ Jx pre W')) := by
  refine callsIn_of_wp Try.func38 rfl trivial ?_ rfl
  simp only [Try.ntmps38, List.size_toArray, List.length_cons, List.length_nil, Nat.reduceAdd, Nat.reduceSub, Array.replicate_succ, Array.replicate_zero, List.push_toArray, List.append_toArray, List.nil_append, List.cons_append]
  gi_wp2
  gi_loopw [4, 8] (fun st i wr => ∃ (k f : Nat) (done : List ByteArray), i = .int .i64 k ∧ st = .int .i64 f ∧ Hid (Pl.At s c f k done) ∧ J done wr ∧ Below n₀ W wr ∧ k ≤ s.size ∧ f ≤ k ∧ done.length ≤ k) (fun _ i _ => s.size - (intOf i).toNat)
  case atStart => exact ⟨0, 0, [], rfl, rfl, Pl.At.start s c, h0, Below.refl _ _, Nat.zero_le _, Nat.le_refl _, Nat.le_refl _⟩
  case round =>
    obtain ⟨k, f, done, rfl, rfl, HA, hJs, hbel, hk, hf, hd⟩ := hrel
    have hcs' := (hbel.cell (p := ⟨Bs, 0, none⟩) hBs).trans hcs
    have hcp' := (hbel.cell (p := ⟨Bp, 0, none⟩) hBp).trans hcp
    by_cases hlt : k < s.size
    · obtain ⟨x, hx⟩ : ∃ x : Int, (s[k].toNat : Int) = x := ⟨_, rfl⟩
      obtain ⟨b, hb⟩ : ∃ b : Int, (c.toNat : Int) = b := ⟨_, rfl⟩
      by_cases he : s[k] = c
      · have ht : (x != b) = false := by
          rw [← hx, ← hb, he]; simp
        have HA' := Lib.hid (HA.out.cut hlt he)
        clear he HA hcs hcp
        gi_wp2
        gi_quiet (fail)
        have hJq := abides_drew hJ hJs nq
        have hbq := below_drewN hbel nq
        obtain ⟨fn, tmps, assign, body, hy, hR⟩ := hY done (s.extract f k) (wr.drewN nq) hJq (by omega)
        gi_wp2
        refine hR.mono ?_
        rintro e W3 (⟨rfl, hJ3, hk3⟩ | ⟨rfl, hJx3⟩)
        · gi_wp2
          go_roundw
          case rel => exact ⟨k + 1, k + 1, done ++ [s.extract f k], by go_num, by go_num, HA', hJ3, hbq.trans hk3, by omega, by omega, by simp; omega⟩
          case measure => simp [intOf]; omega
        · gi_wp2
          refine bodyPost_ret (results_none rfl _ _ _) rfl ?_
          exact ⟨⟨_, rfl⟩, .inr ⟨_, trivial, hJx3⟩⟩
      · have ht : (x != b) = true := by
          rw [← hx, ← hb, bne_iff_ne]; intro h
          exact he (UInt8.toNat_inj.1 (by omega))
        have HA' := Lib.hid (HA.out.skip hlt he)
        clear he HA hcs hcp
        gi_wp2
        gi_quiet (fail)
        gi_wp2
        go_roundw
        case rel => exact ⟨k + 1, f, done, by go_num, rfl, HA', abides_drew hJ hJs nq, below_drewN hbel nq, by omega, by omega, by omega⟩
        case measure => simp [intOf]; omega
    · obtain rfl : k = s.size := by omega
      have HF := Lib.hid HA.out.fin
      obtain ⟨fn, tmps, assign, body, hy, hR⟩ := hY done (s.extract f s.size) wr hJs (by omega)
      clear HA hcs hcp
      gi_wp2
      refine hR.mono ?_
      rintro e W3 (⟨rfl, hJ3, hk3⟩ | ⟨rfl, hJx3⟩)
      · gi_wp2
        go_end0
        exact ⟨⟨_, rfl⟩, .inl ⟨_, rfl, by rw [HF.out]; exact hJ3⟩⟩
      · gi_wp2
        go_end0
        exact ⟨⟨_, rfl⟩, .inr ⟨_, trivial, hJx3⟩⟩

set_option maxHeartbeats 1000000 in
/-- 'partsBetween': the two arguments are boxed; the function value captures the boxes. -/
theorem parts_in (n : Nat) (s : ByteArray) (b : Int) (w : World) :
    CallsIn Fence.wide n Try.prog 28 #[.string s, .int .u8 b] w fun e w' => e = .returned (.func (.func 38) #[] #[.pointer (some ⟨w.heap.size, 0, none⟩), .pointer (some ⟨w.heap.size + 1, 0, none⟩)]) ∧ w' = (w.alloc (.cells #[.string s] 9)).alloc (.cells #[.int .u8 b] 5) := by
  refine callsIn_of_wp Try.func28 rfl trivial ?_ rfl
  simp only [Try.ntmps28, List.size_toArray, List.length_cons, List.length_nil, Nat.reduceAdd, Nat.reduceSub, Array.replicate_succ, Array.replicate_zero, List.push_toArray, List.append_toArray, List.nil_append, List.cons_append]
  gi_wp2
  go_ret
  exact ⟨rfl, rfl⟩

theorem parts_stops (n : Nat) (hn : 1 ≤ n) (Bs Bp n₀ : Nat) (s : ByteArray) (c : UInt8) (hs : s.size ≤ 4294967280) (hBs : Bs < n₀) (hBp : Bp < n₀) (w : World) (hn₀ : n₀ ≤ w.heap.size)
    (hcs : w.cell? ⟨Bs, 0, none⟩ = some (.string s)) (hcp : w.cell? ⟨Bp, 0, none⟩ = some (.int .u8 (c.toNat : Int))) :
    SeqStopsK Fence.wide n Try.prog 38 #[.pointer (some ⟨Bs, 0, none⟩), .pointer (some ⟨Bp, 0, none⟩)] (fun x : ByteArray => #[Value.string x]) (Below n₀) (fun ys => ys = Pl.splitB s c) (fun _ => True) (s.size + 1) w := fun l J Jx W hW hJ _ hY h0 =>
  parts1_in n hn l Bs Bp n₀ s c hs hBs hBp J Jx W hJ hY ((hW.cell (p := ⟨Bs, 0, none⟩) (show Bs < w.heap.size by omega)).trans hcs) ((hW.cell (p := ⟨Bp, 0, none⟩) (show Bp < w.heap.size by omega)).trans hcp) h0

theorem infoStr'' : (Try.prog.info? 9).map (fun i => (i.zero, i.size, i.bytes)) = some (some (.string ByteArray.empty), 1, 16) := by kernel_rfl

set_option maxRecDepth 100000 in
set_option maxHeartbeats 2000000 in
/-- 'slices.AppendSeq' at nil over an iterator that reads memory: a slice that owns what has come. -/
theorem appendSeq_in (n : Nat) (hn : 3 ≤ n) (g : Nat) (lb : Array Value) (eg : ∀ args w, (callFunc g args).run Try.prog w = .ok (.enter g args) w) (S Sp : List ByteArray → Prop) (N : Nat) (hN : N ≤ 4294967281) (w : World)
    (hseq : SeqStopsK Fence.wide (n - 1) Try.prog g lb (fun x : ByteArray => #[Value.string x]) (Below w.heap.size) S Sp N w) :
    CallsIn Fence.wide n Try.prog 37 #[.slice none 0 0, .func (.func g) #[] lb] w fun e W' => ∃ (v : Value) (xs : List ByteArray), e = .returned v ∧ S xs ∧ W'.ownsRow w.heap.size 9 1 v xs.length (xs.map .string) ∧ Below w.heap.size w W' := by
  have h1 : 1 ≤ n := by omega
  obtain ⟨i0, hi, hz0, hz1, hz2⟩ := info_parts infoStr''
  refine callsIn_of_wp_marks Try.func37 rfl trivial ?_ rfl
  simp only [Try.ntmps37, List.size_toArray, List.length_cons, List.length_nil, Nat.reduceAdd, Nat.reduceSub, Array.replicate_succ, Array.replicate_zero, List.push_toArray, List.append_toArray, List.nil_append, List.cons_append]
  gi_wp2
  have bO := Boxed.new w 26 (.slice none 0 0)
  have hB0 : Below w.heap.size w (w.alloc (.cells #[.slice none 0 0] 26)) := (Below.refl _ w).alloc (Nat.le_refl _) _
  refine wpIn_rangeFunc_ownF rfl h1 (gf := g) (lb := lb) rfl trivial eg hseq belowK_t (belowK_b (by simp)) hB0 (fun _ => rfl)
    (fun (pre : List ByteArray) W => (∃ v, Boxed W w.heap.size 26 v ∧ W.ownsRow w.heap.size 9 1 v pre.length (pre.map .string) ∧ True) ∧ Below w.heap.size w W)
    (fun _ _ _ => False)
    (OwnFrom.and (Own.from (holdsRow_own w.heap.size w.heap.size 26 9 1 (fun pre : List ByteArray => pre.length) (fun pre : List ByteArray => pre.map Value.string) (fun _ _ => True)) _) (ownFrom_below (Nat.le_refl _) (by simp)))
    (fun _ _ _ _ _ hs _ _ => hs)
    ⟨⟨_, bO, World.ownsRow_nil _ _ _ _, trivial⟩, hB0⟩
    (fun x => { tmps := #[.slice none 0 0, .func (.func g) #[] lb, .pointer (some ⟨w.heap.size, 0, none⟩), undef, .slice none 0 0, .string x, .func (.func g) #[] lb, .string x, undef, undef, undef, undef, undef], defers := [] }) ?assign ?body ?done ?stop
  case assign =>
    intro l x W K hK
    gi_wp2
    exact hK
  case body =>
    rintro l pre x W ⟨⟨v, hv, hrow, _⟩, hB⟩ hlt
    have hc := hv.cell
    gi_wp2_with (gi_at_builtin; refine wpListIn_append_own _ rfl _ _ 26 rfl w.heap.size 9 i0 (.string ByteArray.empty) 1 16 Try.underlying26 hi hz0 hz1 hz2 rfl (by decide) _ _ _ rfl (hrow.alloc _) ⟨W.heap.size, 0, none⟩ 1 1 [.string x] rfl rfl (cell_one_new _ _ _) (by simp [Value.oneCell']) (by unfold maxLen; omega) (by omega) (by have := hB.size; simp; omega) ?_; intro v' w1 hown' hgrow _; obtain ⟨g', cap', rfl⟩ := ownsRow_succ hown'; obtain ⟨hv1, hv2, hr2, hk2, hb2⟩ := hv.appended (by decide) hrow hB.size (Nat.le_refl _) hown' hgrow; have hc1 := hv1.cell; have hf1 := hv1.frozen)
    exact ⟨hk2, hb2, ⟨_, hv2, by simpa using hr2, trivial⟩, hB.trans hb2⟩
  case done =>
    rintro D ys W hD hS ⟨⟨v, hv, hrow, _⟩, hB⟩ hK
    have hc := hv.cell
    gi_wp2
    refine ⟨by simp, .inl ⟨_, _, rfl, run_takeDeferred hK, ?_⟩⟩
    exact ⟨_, results_tmp rfl _ _ _, v, ys, rfl, hS, ownsRow_putObj hrow _ hK rfl, hB.trans (belowK_b (w := w) (Nat.le_refl _) W D _ _ (by simp at hD; omega) hK rfl rfl)⟩
  case stop =>
    rintro D c pre W _ _ h _
    exact h.elim

set_option maxHeartbeats 1000000 in
theorem collect_in (n : Nat) (hn : 4 ≤ n) (g : Nat) (lb : Array Value) (eg : ∀ args w, (callFunc g args).run Try.prog w = .ok (.enter g args) w) (S Sp : List ByteArray → Prop) (N : Nat) (hN : N ≤ 4294967281) (w : World)
    (hseq : SeqStopsK Fence.wide (n - 1 - 1) Try.prog g lb (fun x : ByteArray => #[Value.string x]) (Below w.heap.size) S Sp N w) :
    CallsIn Fence.wide n Try.prog 27 #[.func (.func g) #[] lb] w fun e W' => ∃ (v : Value) (xs : List ByteArray), e = .returned v ∧ S xs ∧ W'.ownsRow w.heap.size 9 1 v xs.length (xs.map .string) ∧ Below w.heap.size w W' := by
  refine callsIn_of_wp Try.func27 rfl trivial ?_ rfl
  simp only [Try.ntmps27, List.size_toArray, List.length_cons, List.length_nil, Nat.reduceAdd, Nat.reduceSub, Array.replicate_succ, Array.replicate_zero, List.push_toArray, List.append_toArray, List.nil_append, List.cons_append]
  gi_wp2_with fail
  refine ⟨trivial, fun _ => by omega, ?_⟩
  refine (appendSeq_in (n - 1) (by omega) g lb eg S Sp N hN _ hseq).mono ?_
  rintro e w' ⟨v, xs, rfl, hS, hrow, hb⟩
  gi_wp2
  go_ret
  exact ⟨v, xs, rfl, hS, hrow, hb⟩

theorem Split_bad (s sep : ByteArray) (w : World) (hs : s.size ≤ maxLen) (h : 4000 < s.size ∨ sep.size ≠ 1) :
    Calls Try.prog 10 #[.string s, .string sep] w fun e w' => e = .returned (.tuple #[.slice none 0 0, .bool false]) ∧ Below w.heap.size w w' := by
  unfold maxLen at hs
  by_cases h0 : 4000 < s.size
  · clear h
    go_enter Try.func10, Try.ntmps10
    go_wp2
    go_ret2
    exact ⟨rfl, Below.refl _ _⟩
  · have h2 : ((sep.size : Int) != 1) = true := by simp; omega
    clear h
    go_enter Try.func10, Try.ntmps10
    go_wp2
    go_ret2
    exact ⟨rfl, Below.refl _ _⟩

set_option maxHeartbeats 1000000 in
theorem Split_ok (s : ByteArray) (c : UInt8) (w : World) (hs : s.size ≤ 4000) :
    Calls Try.prog 10 #[.string s, .string ⟨#[c]⟩] w fun e w' => (∃ v, e = .returned (.tuple #[v, .bool true]) ∧ w'.ownsRow w.heap.size 9 1 v (Pl.splitB s c).length ((Pl.splitB s c).map .string)) ∧ Below w.heap.size w w' := by
  have C1 := Lib.hid (fun w => (callsIn_wide (n := 9)).1 (parts_in 9 s (c.toNat : Int) w))
  have C2 : Hid (∀ W Bs Bp, Bs < W.heap.size → Bp < W.heap.size → W.cell? ⟨Bs, 0, none⟩ = some (.string s) → W.cell? ⟨Bp, 0, none⟩ = some (.int .u8 (c.toNat : Int)) →
      Calls Try.prog 27 #[.func (.func 38) #[] #[.pointer (some ⟨Bs, 0, none⟩), .pointer (some ⟨Bp, 0, none⟩)]] W fun e W' => ∃ (v : Value), e = .returned v ∧ W'.ownsRow W.heap.size 9 1 v (Pl.splitB s c).length ((Pl.splitB s c).map .string) ∧ Below W.heap.size W W') := by
    intro W Bs Bp hb1 hb2 hc1 hc2
    refine (callsIn_wide (n := 9)).1 ((collect_in 9 (by omega) _ _ (enters_of Try.func38 (by kernel_rfl) rfl) (fun ys => ys = Pl.splitB s c) (fun _ => True) (s.size + 1) (by omega) W
      (parts_stops 7 (by omega) Bs Bp W.heap.size s c (by omega) hb1 hb2 W (Nat.le_refl _) hc1 hc2)).mono ?_)
    rintro e w' ⟨v, xs, rfl, rfl, hrow, hb⟩
    exact ⟨v, rfl, hrow, hb⟩
  go_enter Try.func10, Try.ntmps10
  go_wp2_with fail
  refine (C1.out _).mono ?_
  rintro e w1 ⟨rfl, rfl⟩
  go_wp2_with fail
  have hx := C2.out ((w.alloc (.cells #[.string s] 9)).alloc (.cells #[.int .u8 (c.toNat : Int)] 5)) w.heap.size (w.heap.size + 1) (by rw [World.size_alloc, World.size_alloc]; omega) (by rw [World.size_alloc, World.size_alloc]; omega) (by simp) (by simp)
  refine hx.mono ?_
  rintro e w2 ⟨v, rfl, hown, hb⟩
  have hb2 : Below w.heap.size w w2 := (((Below.refl _ w).alloc (Nat.le_refl _) _).alloc (by simp) _).trans (hb.mono (by simp; omega))
  have HO : Hid (w2.ownsRow w.heap.size 9 1 v (Pl.splitB s c).length ((Pl.splitB s c).map .string)) := by
    refine ⟨hown.1, ?_⟩
    rcases hown.2 with h | ⟨g, cap, cur, hv, hg, r⟩
    · exact .inl h
    · exact .inr ⟨g, cap, cur, hv, by rw [World.size_alloc, World.size_alloc] at hg; omega, r⟩
  clear hx hown hb
  go_wp2
  go_ret2
  exact ⟨⟨_, rfl, HO.out⟩, hb2⟩

theorem specSplit_bad (s sep : ByteArray) (w : World) (hs : s.size ≤ maxLen) (h : 4000 < s.size ∨ sep.size ≠ 1) :
    Calls Try.prog 17 #[.string s, .string sep] w fun e w' => (∃ v, e = .returned (.tuple #[v, .bool false]) ∧ StrsAt w' v []) ∧ Below w.heap.size w w' := by
  unfold maxLen at hs
  have hst : ∀ w : World, StrsAt w (.slice (some ⟨w.heap.size, 0, none⟩) 0 0) [] := fun w => ⟨_, 0, rfl, Nat.le_refl _, .inl rfl⟩
  have HST := Lib.hid hst
  clear hst
  by_cases h0 : sep.size = 1
  · have h2 : ((sep.size : Int) != 1) = false := by simp; omega
    have h3 : 4000 < s.size := by omega
    clear h h0
    go_enter Try.func17, Try.ntmps17
    go_wp2
    go_ret2
    exact ⟨⟨_, rfl, ⟨_, 0, rfl, Nat.le_refl _, .inl rfl⟩⟩, (Below.refl _ _).alloc (Nat.le_refl _) _⟩
  · have h2 : ((sep.size : Int) != 1) = true := by simp; omega
    clear h h0
    go_enter Try.func17, Try.ntmps17
    go_wp2
    go_ret2
    exact ⟨⟨_, rfl, ⟨_, 0, rfl, Nat.le_refl _, .inl rfl⟩⟩, (Below.refl _ _).alloc (Nat.le_refl _) _⟩

theorem specSplit_ok (s : ByteArray) (c : UInt8) (w : World) (hs : s.size ≤ 4000) :
    Calls Try.prog 17 #[.string s, .string ⟨#[c]⟩] w fun e w' => (∃ v, e = .returned (.tuple #[v, .bool true]) ∧ StrsAt w' v (Pl.splitB s c)) ∧ Below w.heap.size w w' := by
  have C := Lib.hid (fun w => l1Split_any s c (c.toNat : Int) rfl w (by omega))
  go_enter Try.func17, Try.ntmps17
  go_wp2_with fail
  refine (C.out _).mono ?_
  rintro e w1 ⟨v, rfl, hown, hb⟩
  have HO := Lib.hid (ownsRow_at hown)
  clear hown
  go_wp2
  go_ret2
  exact ⟨⟨_, rfl, HO.out⟩, hb⟩
end Go.Proofs.Ytbpjlhdhlcmajaa
