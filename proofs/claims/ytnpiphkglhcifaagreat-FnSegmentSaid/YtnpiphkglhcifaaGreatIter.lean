/-
  CONTRACTS of the program's SplitString: the iterator over the parts, slices.AppendSeq and slices.Collect over it.
-/
import Derived.Test.YtnpiphkglhcifaaGreatSplit
import Derived.RangeFuncBox
import Derived.RangeFuncLeaves
import Derived.RangeFuncBound
import Derived.RangeFuncNested
import Derived.RangeFuncCalls
import Derived.OwnWalkIn
import Derived.TacticsInMore
import Derived.LoopNIn
import Derived.LoopIn
import Derived.Maps.AppendAt
import Derived.Sort.QuietIn
import Derived.Shelf.Abstract
namespace Go.Proofs.YtnpiphkglhcifaaGreat
set_option maxRecDepth 100000
open Go.RowKit Go.Shelf

attribute [local go_sem] Oper.semAt_some

theorem Pl.At.pre {s : ByteArray} {b : UInt8} {f k : Nat} {done : List ByteArray} (h : Pl.At s b f k done) : done <+: Pl.splitB s b := ⟨_, h.2.2.2.2.symm⟩
/-- What a draw leaves to an invariant that abides new blocks. -/
theorem abides_drew {β : Type} {B : Nat} {J : β → World → Prop} (hJ : AbidesFrom B J) {s : β} {W : World} (h : J s W) (k : Nat) : J s (W.drewN k) :=
  hJ s W (W.drewN k) none h ⟨rfl, rfl, rfl, Nat.le_refl _, fun _ _ _ => rfl⟩ (fun r e => by cases e)

set_option maxRecDepth 100000 in
set_option maxHeartbeats 2000000 in
/-- The iterator over the parts, whatever a round keeps that keeps the two boxes (hks, hkp): a round is handed a text no longer than s; where it stops, the parts that came begin the list of all parts. -/
theorem parts1_in (n : Nat) (hn : 1 ≤ n) (l Bs Bp : Nat) (s : ByteArray) (c : UInt8) (hs : s.size ≤ 4294967280) (Kp : World → World → Prop) (hks : ∀ A C v, Kp A C → A.cell? ⟨Bs, 0, none⟩ = some v → C.cell? ⟨Bs, 0, none⟩ = some v) (hkp : ∀ A C v, Kp A C → A.cell? ⟨Bp, 0, none⟩ = some v → C.cell? ⟨Bp, 0, none⟩ = some v) (J Jx : List ByteArray → World → Prop)
    (W : World) (hJ : AbidesFrom W.heap.size J)
    (hY : ∀ pre x W, x.size ≤ s.size → J pre W → pre.length < s.size + 1 → YieldAt Fence.wide (n - 1) Tryz.prog l #[.string x] W fun e W' =>
      (e = .returned (.bool true) ∧ J (pre ++ [x]) W' ∧ Kp W W') ∨ (e = .returned (.bool false) ∧ Jx (pre ++ [x]) W'))
    (hcs : W.cell? ⟨Bs, 0, none⟩ = some (.string s)) (hcp : W.cell? ⟨Bp, 0, none⟩ = some (.int .u8 (c.toNat : Int))) (h0 : J [] W) :
    CallsIn Fence.wide n Tryz.prog 79 #[.func (.yield l) #[] #[], .pointer (some ⟨Bs, 0, none⟩), .pointer (some ⟨Bp, 0, none⟩)] W fun e W' => (∃ v, e = .returned v) ∧
      ((∃ ys, ys = Pl.splitB s c ∧ J ys W') ∨ (∃ pre, pre <+: Pl.splitB s c ∧ Jx pre W')) := by
  refine callsIn_of_wp Tryz.func79 rfl trivial ?_ rfl
  simp only [Tryz.ntmps79, List.size_toArray, List.length_cons, List.length_nil, Nat.reduceAdd, Nat.reduceSub, Array.replicate_succ, Array.replicate_zero, List.push_toArray, List.append_toArray, List.nil_append, List.cons_append]
  gi_wp2
  gi_loopw [4, 8] (fun st i wr => ∃ (k f : Nat) (done : List ByteArray), i = .int .i64 k ∧ st = .int .i64 f ∧ Hid (Pl.At s c f k done) ∧ J done wr ∧ Hid (wr.cell? ⟨Bs, 0, none⟩ = some (.string s)) ∧ Hid (wr.cell? ⟨Bp, 0, none⟩ = some (.int .u8 (c.toNat : Int))) ∧ k ≤ s.size ∧ f ≤ k ∧ done.length ≤ k) (fun _ i _ => s.size - (intOf i).toNat)
  case atStart => exact ⟨0, 0, [], rfl, rfl, Pl.At.start s c, h0, Lib.hid hcs, Lib.hid hcp, Nat.zero_le _, Nat.le_refl _, Nat.le_refl _⟩
  case round =>
    obtain ⟨k, f, done, rfl, rfl, HA, hJs, HS, HP, hk, hf, hd⟩ := hrel
    have hcs' := HS.out
    have hcp' := HP.out
    by_cases hlt : k < s.size
    · obtain ⟨x, hx⟩ : ∃ x : Int, (s[k].toNat : Int) = x := ⟨_, rfl⟩
      obtain ⟨b, hb⟩ : ∃ b : Int, (c.toNat : Int) = b := ⟨_, rfl⟩
      by_cases he : s[k] = c
      · have ht : (x != b) = false := by
          rw [← hx, ← hb, he]; simp
        have HPre := Lib.hid (Pl.At.pre (HA.out.cut hlt he))
        have HA' := Lib.hid (HA.out.cut hlt he)
        clear he HA hcs hcp
        gi_wp2
        gi_quiet (fail)
        have hJq := abides_drew hJ hJs nq
        have HSq : Hid ((wr.drewN nq).cell? ⟨Bs, 0, none⟩ = some (.string s)) := HS
        have HPq : Hid ((wr.drewN nq).cell? ⟨Bp, 0, none⟩ = some (.int .u8 (c.toNat : Int))) := HP
        obtain ⟨fn, tmps, assign, body, hy, hR⟩ := hY done (s.extract f k) (wr.drewN nq) (by rw [ByteArray.size_extract]; omega) hJq (by omega)
        gi_wp2
        refine hR.mono ?_
        rintro e W3 (⟨rfl, hJ3, hk3⟩ | ⟨rfl, hJx3⟩)
        · have HS3 := Lib.hid (hks _ _ _ hk3 HSq.out)
          have HP3 := Lib.hid (hkp _ _ _ hk3 HPq.out)
          gi_wp2
          go_roundw
          case rel => exact ⟨k + 1, k + 1, done ++ [s.extract f k], by go_num, by go_num, HA', hJ3, HS3, HP3, by omega, by omega, by simp; omega⟩
          case measure => simp [intOf]; omega
        · gi_wp2
          refine bodyPost_ret (results_none rfl _ _ _) rfl ?_
          exact ⟨⟨_, rfl⟩, .inr ⟨_, HPre.out, hJx3⟩⟩
      · have ht : (x != b) = true := by
          rw [← hx, ← hb, bne_iff_ne]; intro h
          exact he (UInt8.toNat_inj.1 (by omega))
        have HA' := Lib.hid (HA.out.skip hlt he)
        clear he HA hcs hcp
        gi_wp2
        gi_quiet (fail)
        gi_wp2
        go_roundw
        case rel => exact ⟨k + 1, f, done, by go_num, rfl, HA', abides_drew hJ hJs nq, HS, HP, by omega, by omega, by omega⟩
        case measure => simp [intOf]; omega
    · obtain rfl : k = s.size := by omega
      have HF := Lib.hid HA.out.fin
      obtain ⟨fn, tmps, assign, body, hy, hR⟩ := hY done (s.extract f s.size) wr (by rw [ByteArray.size_extract]; omega) hJs (by omega)
      clear HA hcs hcp
      gi_wp2
      refine hR.mono ?_
      rintro e W3 (⟨rfl, hJ3, hk3⟩ | ⟨rfl, hJx3⟩)
      · gi_wp2
        go_end0
        exact ⟨⟨_, rfl⟩, .inl ⟨_, rfl, by rw [HF.out]; exact hJ3⟩⟩
      · gi_wp2
        go_end0
        exact ⟨⟨_, rfl⟩, .inr ⟨_, ⟨[], by rw [List.append_nil, HF.out]⟩, hJx3⟩⟩

set_option maxHeartbeats 1000000 in
/-- 'partsBetween': the two arguments are boxed; the function value captures the boxes. -/
theorem parts_in (n : Nat) (s : ByteArray) (b : Int) (w : World) :
    CallsIn Fence.wide n Tryz.prog 74 #[.string s, .int .u8 b] w fun e w' => e = .returned (.func (.func 79) #[] #[.pointer (some ⟨w.heap.size, 0, none⟩), .pointer (some ⟨w.heap.size + 1, 0, none⟩)]) ∧ w' = (w.alloc (.cells #[.string s] 9)).alloc (.cells #[.int .u8 b] 5) := by
  refine callsIn_of_wp Tryz.func74 rfl trivial ?_ rfl
  simp only [Tryz.ntmps74, List.size_toArray, List.length_cons, List.length_nil, Nat.reduceAdd, Nat.reduceSub, Array.replicate_succ, Array.replicate_zero, List.push_toArray, List.append_toArray, List.nil_append, List.cons_append]
  gi_wp2
  go_ret
  exact ⟨rfl, rfl⟩

theorem parts_stops (n : Nat) (hn : 1 ≤ n) (Bs Bp n₀ : Nat) (s : ByteArray) (c : UInt8) (hs : s.size ≤ 4294967280) (hBs : Bs < n₀) (hBp : Bp < n₀) (w : World) (hn₀ : n₀ ≤ w.heap.size)
    (hcs : w.cell? ⟨Bs, 0, none⟩ = some (.string s)) (hcp : w.cell? ⟨Bp, 0, none⟩ = some (.int .u8 (c.toNat : Int))) :
    SeqStopsK Fence.wide n Tryz.prog 79 #[.pointer (some ⟨Bs, 0, none⟩), .pointer (some ⟨Bp, 0, none⟩)] (fun x : ByteArray => #[Value.string x]) (Below n₀) (fun ys => ys = Pl.splitB s c) (fun _ => True) (s.size + 1) w := fun l J Jx W hW hJ _ hY h0 =>
  (parts1_in n hn l Bs Bp s c hs (Below n₀) (fun A C v hk h => (hk.cell (p := ⟨Bs, 0, none⟩) hBs).trans h) (fun A C v hk h => (hk.cell (p := ⟨Bp, 0, none⟩) hBp).trans h) J Jx W hJ (fun pre x W _ => hY pre x W) ((hW.cell (p := ⟨Bs, 0, none⟩) (show Bs < w.heap.size by omega)).trans hcs) ((hW.cell (p := ⟨Bp, 0, none⟩) (show Bp < w.heap.size by omega)).trans hcp) h0).mono
    fun e W' ⟨hv, h⟩ => ⟨hv, h.imp id fun ⟨pre, _, hj⟩ => ⟨pre, trivial, hj⟩⟩

/-- The text that a round is handed: not longer than a text can be that the walks abide. -/
abbrev Tx := { x : ByteArray // x.size ≤ 4294967280 }
/-- The same where a round may know the size of what it is handed, and need only keep the two boxes. -/
theorem parts_stopsT (n : Nat) (hn : 1 ≤ n) (Bs Bp : Nat) (s : ByteArray) (c : UInt8) (hs : s.size ≤ 4294967280) (w : World) (hBs : Bs < w.heap.size) (hBp : Bp < w.heap.size)
    (hcs : w.cell? ⟨Bs, 0, none⟩ = some (.string s)) (hcp : w.cell? ⟨Bp, 0, none⟩ = some (.int .u8 (c.toNat : Int))) :
    SeqStopsK Fence.wide n Tryz.prog 79 #[.pointer (some ⟨Bs, 0, none⟩), .pointer (some ⟨Bp, 0, none⟩)] (fun x : Tx => #[Value.string x.1]) (fun A C => C.heap[Bs]? = A.heap[Bs]? ∧ C.heap[Bp]? = A.heap[Bp]?) (fun ys => ys.map (·.1) = Pl.splitB s c) (fun pre => pre.map (·.1) <+: Pl.splitB s c) (s.size + 1) w := by
  intro l J Jx W hW hJ hJx hY h0
  refine (parts1_in n hn l Bs Bp s c hs (fun A C => C.heap[Bs]? = A.heap[Bs]? ∧ C.heap[Bp]? = A.heap[Bp]?) (fun A C v hk h => (World.cell?_of_block hk.1).trans h) (fun A C v hk h => (World.cell?_of_block hk.2).trans h)
    (fun p A => ∃ q : List Tx, q.map (·.1) = p ∧ J q A) (fun p A => ∃ q : List Tx, q.map (·.1) = p ∧ Jx q A) W ?ab ?Y ((hW.cell (p := ⟨Bs, 0, none⟩) hBs).trans hcs) ((hW.cell (p := ⟨Bp, 0, none⟩) hBp).trans hcp) ⟨[], rfl, h0⟩).mono ?_
  case ab => rintro p A C row ⟨q, hq, hj⟩ hg hr; exact ⟨q, hq, hJ q A C row hj hg hr⟩
  case Y =>
    rintro p x A hx ⟨q, rfl, hj⟩ hl
    refine (hY q ⟨x, Nat.le_trans hx hs⟩ A hj (by simpa using hl)).mono ?_
    rintro e A' (⟨he, hj', hk⟩ | ⟨he, hj'⟩)
    · exact .inl ⟨he, ⟨q ++ [⟨x, Nat.le_trans hx hs⟩], by simp, hj'⟩, hk⟩
    · exact .inr ⟨he, ⟨q ++ [⟨x, Nat.le_trans hx hs⟩], by simp, hj'⟩⟩
  rintro e W' ⟨hv, (⟨ys, hys, q, hq, hj⟩ | ⟨pre, hp, q, hq, hj⟩)⟩
  · exact ⟨hv, .inl ⟨q, hq.trans hys, hj⟩⟩
  · exact ⟨hv, .inr ⟨q, (by rw [← hq] at hp; exact hp), hj⟩⟩



end Go.Proofs.YtnpiphkglhcifaaGreat
