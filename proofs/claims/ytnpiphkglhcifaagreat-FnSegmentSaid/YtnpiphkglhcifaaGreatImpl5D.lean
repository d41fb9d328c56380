/-
  CONTRACTS of the program's chapter 5, the fourth part: FormatTranslation.
-/
import Derived.Test.YtnpiphkglhcifaaGreatImpl5A
import Derived.Test.YtnpiphkglhcifaaGreatTransP
import Derived.Test.YtnpiphkglhcifaaGreatJoin
namespace Go.Proofs.YtnpiphkglhcifaaGreat
set_option maxRecDepth 100000
open Go.RowKit

theorem nk_small (k : Int) : (nkOf k).before.size ≤ 1000 ∧ (nkOf k).after.size ≤ 1000 := by
  unfold nkOf
  repeat' split
  all_goals exact ⟨by decide, by decide⟩
theorem nkE_yes {k : Int} (h : 1 ≤ k ∧ k ≤ 10) : nkE k = .returned (.tuple #[(nkOf k).val, .bool true]) := by unfold nkE; rw [if_pos h]
theorem nkE_no {k : Int} (h : ¬ (1 ≤ k ∧ k ≤ 10)) : nkE k = .returned (.tuple #[.nilIface, .bool false]) := by unfold nkE; rw [if_neg h]
/-- What parseAtomOfKind answers. -/
def ofKindB (s : ByteArray) (k : Int) : Bool := unB s (nkOf k).before (nkOf k).after && (nkOf k).permits (unT s (nkOf k).before (nkOf k).after)
def ofKindE (s : ByteArray) (k : Int) : Ending := if ofKindB s k = true then .returned (.tuple #[atV k (unT s (nkOf k).before (nkOf k).after), .bool true]) else .returned (.tuple #[atV 0 ⟨#[]⟩, .bool false])
set_option maxHeartbeats 2000000 in
theorem ofKind_any (s : ByteArray) (k : Int) (w : World) (h : 1 ≤ k ∧ k ≤ 10) (hs : s.size ≤ 1048576) :
    Calls Tryz.prog 80 #[.string s, .int .i64 k] w fun e w' => e = ofKindE s k ∧ Below w.heap.size w w' := by
  have c := fun w => notation5_any k w
  rw [nkE_yes h] at c
  unfold ofKindE ofKindB
  obtain ⟨nk, hnk⟩ : ∃ nk, nk = nkOf k := ⟨_, rfl⟩
  rw [← hnk] at c ⊢
  have u := fun w => unwrap_any nk.before nk.after s w (by omega)
  have hts := unT_size s nk.before nk.after
  obtain ⟨t, ht⟩ : ∃ t, t = unT s nk.before nk.after := ⟨_, rfl⟩
  obtain ⟨ok, hx⟩ : ∃ ok, ok = unB s nk.before nk.after := ⟨_, rfl⟩
  rw [← ht] at hts
  rw [← ht, ← hx] at u ⊢
  have hts : t.size ≤ 1048600 := by omega
  clear hnk h ht hx
  · cases nk with
    | word b a =>
      have d := fun w => permW_any b a t w hts
      obtain ⟨g, hg⟩ : ∃ g, g = (NK.word b a).permits t := ⟨_, rfl⟩
      rw [← hg] at d ⊢
      have C := Lib.hid c
      have D := Lib.hid d
      have U := Lib.hid u
      clear c d u hg
      unfold NK.val at C
      go_enter Tryz.func80, Tryz.ntmps80
      go_wp2_with fail
      refine (C.out _).mono ?_
      rintro e w1 ⟨rfl, rfl⟩
      go_wp2_with fail
      refine (U.out _).mono ?_
      rintro e w1 ⟨rfl, hb⟩
      have h1 : Hid (w1.heap[w.heap.size]? = some (.cells #[.int .i64 0, .string ⟨#[]⟩] 96 (0, 0))) := (hb.block _ (by rw [World.size_alloc]; omega)).trans (heap_alloc_new _ _)
      have hs1 : w.heap.size < w1.heap.size := by have := hb.size; rw [World.size_alloc] at this; omega
      have hb1 := below_new hb
      clear hb
      cases ok
      · have h3 := Lib.hid (setRow_heap w1 w.heap.size _ #[.int .i64 0, .string ⟨#[]⟩] _ _ h1.out)
        have hb3 := below_setRow hb1 (Nat.le_refl _) #[.int .i64 0, .string ⟨#[]⟩]
        go_wp2_with (with_reducible (show wpList _ _ _ (_ :: _) _ _); refine at_store rfl _ _ rfl w.heap.size 0 ⟨#[]⟩ _ _ rfl rfl h1.out ?_)
        (try simp only [Exit.inBlock, Exit.then])
        refine bodyPost_ret (results_at2 rfl _ _ w.heap.size _ _ rfl h3.out) rfl ?_
        exact ⟨rfl, hb3⟩
      · go_wp2_with fail
        refine (D.out _).mono ?_
        rintro e w2 ⟨rfl, hb⟩
        have h2 : Hid (w2.heap[w.heap.size]? = some (.cells #[.int .i64 0, .string ⟨#[]⟩] 96 (0, 0))) := (hb.block _ hs1).trans h1.out
        have hb2 := hb1.trans (hb.mono hb1.size)
        clear hb h1
        cases g
        · have h3 := Lib.hid (setRow_heap w2 w.heap.size _ #[.int .i64 0, .string ⟨#[]⟩] _ _ h2.out)
          have hb3 := below_setRow hb2 (Nat.le_refl _) #[.int .i64 0, .string ⟨#[]⟩]
          go_wp2_with (with_reducible (show wpList _ _ _ (_ :: _) _ _); refine at_store rfl _ _ rfl w.heap.size 0 ⟨#[]⟩ _ _ rfl rfl h2.out ?_)
          (try simp only [Exit.inBlock, Exit.then])
          refine bodyPost_ret (results_at2 rfl _ _ w.heap.size _ _ rfl h3.out) rfl ?_
          exact ⟨rfl, hb3⟩
        · have h3 := Lib.hid (setRow_heap w2 w.heap.size _ #[.int .i64 k, .string t] _ _ h2.out)
          have hb3 := below_setRow hb2 (Nat.le_refl _) #[.int .i64 k, .string t]
          go_wp2_with (with_reducible (show wpList _ _ _ (_ :: _) _ _); refine at_store rfl _ _ rfl w.heap.size k t _ _ rfl rfl h2.out ?_)
          (try simp only [Exit.inBlock, Exit.then])
          refine bodyPost_ret (results_at2 rfl _ _ w.heap.size _ _ rfl h3.out) rfl ?_
          exact ⟨rfl, hb3⟩
    | mark b a x y z =>
      have d := fun w => permM_any b a x y z t w hts
      obtain ⟨g, hg⟩ : ∃ g, g = (NK.mark b a x y z).permits t := ⟨_, rfl⟩
      rw [← hg] at d ⊢
      have C := Lib.hid c
      have D := Lib.hid d
      have U := Lib.hid u
      clear c d u hg
      unfold NK.val at C
      go_enter Tryz.func80, Tryz.ntmps80
      go_wp2_with fail
      refine (C.out _).mono ?_
      rintro e w1 ⟨rfl, rfl⟩
      go_wp2_with fail
      refine (U.out _).mono ?_
      rintro e w1 ⟨rfl, hb⟩
      have h1 : Hid (w1.heap[w.heap.size]? = some (.cells #[.int .i64 0, .string ⟨#[]⟩] 96 (0, 0))) := (hb.block _ (by rw [World.size_alloc]; omega)).trans (heap_alloc_new _ _)
      have hs1 : w.heap.size < w1.heap.size := by have := hb.size; rw [World.size_alloc] at this; omega
      have hb1 := below_new hb
      clear hb
      cases ok
      · have h3 := Lib.hid (setRow_heap w1 w.heap.size _ #[.int .i64 0, .string ⟨#[]⟩] _ _ h1.out)
        have hb3 := below_setRow hb1 (Nat.le_refl _) #[.int .i64 0, .string ⟨#[]⟩]
        go_wp2_with (with_reducible (show wpList _ _ _ (_ :: _) _ _); refine at_store rfl _ _ rfl w.heap.size 0 ⟨#[]⟩ _ _ rfl rfl h1.out ?_)
        (try simp only [Exit.inBlock, Exit.then])
        refine bodyPost_ret (results_at2 rfl _ _ w.heap.size _ _ rfl h3.out) rfl ?_
        exact ⟨rfl, hb3⟩
      · go_wp2_with fail
        refine (D.out _).mono ?_
        rintro e w2 ⟨rfl, hb⟩
        have h2 : Hid (w2.heap[w.heap.size]? = some (.cells #[.int .i64 0, .string ⟨#[]⟩] 96 (0, 0))) := (hb.block _ hs1).trans h1.out
        have hb2 := hb1.trans (hb.mono hb1.size)
        clear hb h1
        cases g
        · have h3 := Lib.hid (setRow_heap w2 w.heap.size _ #[.int .i64 0, .string ⟨#[]⟩] _ _ h2.out)
          have hb3 := below_setRow hb2 (Nat.le_refl _) #[.int .i64 0, .string ⟨#[]⟩]
          go_wp2_with (with_reducible (show wpList _ _ _ (_ :: _) _ _); refine at_store rfl _ _ rfl w.heap.size 0 ⟨#[]⟩ _ _ rfl rfl h2.out ?_)
          (try simp only [Exit.inBlock, Exit.then])
          refine bodyPost_ret (results_at2 rfl _ _ w.heap.size _ _ rfl h3.out) rfl ?_
          exact ⟨rfl, hb3⟩
        · have h3 := Lib.hid (setRow_heap w2 w.heap.size _ #[.int .i64 k, .string t] _ _ h2.out)
          have hb3 := below_setRow hb2 (Nat.le_refl _) #[.int .i64 k, .string t]
          go_wp2_with (with_reducible (show wpList _ _ _ (_ :: _) _ _); refine at_store rfl _ _ rfl w.heap.size k t _ _ rfl rfl h2.out ?_)
          (try simp only [Exit.inBlock, Exit.then])
          refine bodyPost_ret (results_at2 rfl _ _ w.heap.size _ _ rfl h3.out) rfl ?_
          exact ⟨rfl, hb3⟩
    | cmd b a =>
      have d := fun w => permC_any b a t w
      obtain ⟨g, hg⟩ : ∃ g, g = (NK.cmd b a).permits t := ⟨_, rfl⟩
      rw [← hg] at d ⊢
      have C := Lib.hid c
      have D := Lib.hid d
      have U := Lib.hid u
      clear c d u hg
      unfold NK.val at C
      go_enter Tryz.func80, Tryz.ntmps80
      go_wp2_with fail
      refine (C.out _).mono ?_
      rintro e w1 ⟨rfl, rfl⟩
      go_wp2_with fail
      refine (U.out _).mono ?_
      rintro e w1 ⟨rfl, hb⟩
      have h1 : Hid (w1.heap[w.heap.size]? = some (.cells #[.int .i64 0, .string ⟨#[]⟩] 96 (0, 0))) := (hb.block _ (by rw [World.size_alloc]; omega)).trans (heap_alloc_new _ _)
      have hs1 : w.heap.size < w1.heap.size := by have := hb.size; rw [World.size_alloc] at this; omega
      have hb1 := below_new hb
      clear hb
      cases ok
      · have h3 := Lib.hid (setRow_heap w1 w.heap.size _ #[.int .i64 0, .string ⟨#[]⟩] _ _ h1.out)
        have hb3 := below_setRow hb1 (Nat.le_refl _) #[.int .i64 0, .string ⟨#[]⟩]
        go_wp2_with (with_reducible (show wpList _ _ _ (_ :: _) _ _); refine at_store rfl _ _ rfl w.heap.size 0 ⟨#[]⟩ _ _ rfl rfl h1.out ?_)
        (try simp only [Exit.inBlock, Exit.then])
        refine bodyPost_ret (results_at2 rfl _ _ w.heap.size _ _ rfl h3.out) rfl ?_
        exact ⟨rfl, hb3⟩
      · go_wp2_with fail
        refine (D.out _).mono ?_
        rintro e w2 ⟨rfl, hb⟩
        have h2 : Hid (w2.heap[w.heap.size]? = some (.cells #[.int .i64 0, .string ⟨#[]⟩] 96 (0, 0))) := (hb.block _ hs1).trans h1.out
        have hb2 := hb1.trans (hb.mono hb1.size)
        clear hb h1
        cases g
        · have h3 := Lib.hid (setRow_heap w2 w.heap.size _ #[.int .i64 0, .string ⟨#[]⟩] _ _ h2.out)
          have hb3 := below_setRow hb2 (Nat.le_refl _) #[.int .i64 0, .string ⟨#[]⟩]
          go_wp2_with (with_reducible (show wpList _ _ _ (_ :: _) _ _); refine at_store rfl _ _ rfl w.heap.size 0 ⟨#[]⟩ _ _ rfl rfl h2.out ?_)
          (try simp only [Exit.inBlock, Exit.then])
          refine bodyPost_ret (results_at2 rfl _ _ w.heap.size _ _ rfl h3.out) rfl ?_
          exact ⟨rfl, hb3⟩
        · have h3 := Lib.hid (setRow_heap w2 w.heap.size _ #[.int .i64 k, .string t] _ _ h2.out)
          have hb3 := below_setRow hb2 (Nat.le_refl _) #[.int .i64 k, .string t]
          go_wp2_with (with_reducible (show wpList _ _ _ (_ :: _) _ _); refine at_store rfl _ _ rfl w.heap.size k t _ _ rfl rfl h2.out ?_)
          (try simp only [Exit.inBlock, Exit.then])
          refine bodyPost_ret (results_at2 rfl _ _ w.heap.size _ _ rfl h3.out) rfl ?_
          exact ⟨rfl, hb3⟩
end Go.Proofs.YtnpiphkglhcifaaGreat

namespace Go.Proofs.YtnpiphkglhcifaaGreat
set_option maxRecDepth 100000
open Go.RowKit

/-- A whole atom loaded. -/
theorem at_load {ops : Array Oper} {rest : List Oper} {o : Oper} {a : Act} {w : World} {Q : Exit → Act → World → Prop} (hgd : o.guard = none) (x : Operand) (ho : o.op = .load 96 x)
    (g : Nat) (k : Int) (t : ByteArray) (hx : a.eval x = .pointer (some ⟨g, 0, none⟩)) (hg : w.heap[g]? = some (.cells #[.int .i64 k, .string t] 96 (0, 0)))
    (h : wpList Tryz.prog ops Q rest (a.put o.dst (atV k t)) w) : wpList Tryz.prog ops Q (o :: rest) a w :=
  wpList_load_row hgd _ x ho g hx _ _ _ _ hg Tryz.underlying96 rfl (by kernel_rfl) h
theorem ofKind_no {s : ByteArray} (h : ∀ k : Nat, 1 ≤ k → k < 11 → ofKindB s k = false) : parAE s = .returned (.tuple #[atV 0 ⟨#[]⟩, .bool false]) := by
  obtain ⟨k, hk⟩ : ∃ k, k = (Pl.kindA (by8 s)).1 := ⟨_, rfl⟩
  obtain ⟨t, ht⟩ : ∃ t : ByteArray, t = ⟨(Pl.kindA (by8 s)).2.toArray⟩ := ⟨_, rfl⟩
  refine parAE_no hk ht ?_
  by_cases hg : Pl.goodA k (by8 t) = true
  · refine .inr fun hf => ?_
    have hr : 1 ≤ k ∧ k ≤ 10 := by
      by_cases q : 1 ≤ k ∧ k ≤ 10
      · exact q
      · rw [good_out q] at hg; cases hg
    have e := fmt_nk hr hg
    have e2 : fmtB k t = s := by8_inj hf
    have := h k.toNat (by omega) (by omega)
    rw [show ((k.toNat : Nat) : Int) = k by omega] at this
    obtain ⟨u1, u2⟩ := un_of (nkOf k).before t (nkOf k).after
    unfold ofKindB at this
    rw [← e2, e, u1, u2, ← good_nk hr, hg] at this
    cases this
  · exact .inl (by simpa using hg)
theorem ofKind_yes {s : ByteArray} {k : Int} (hk : 1 ≤ k ∧ k ≤ 10) (h : ofKindB s k = true) : parAE s = .returned (.tuple #[atV k (unT s (nkOf k).before (nkOf k).after), .bool true]) := by
  unfold ofKindB at h
  rw [Bool.and_eq_true] at h
  obtain ⟨h1, h2⟩ := h
  have e := un_yes h1
  rw [← good_nk hk] at h2
  have e2 := fmt_nk hk h2
  rw [e] at e2
  have e3 := Pl.kind_fmt k (by8 (unT s (nkOf k).before (nkOf k).after)) h2
  obtain ⟨t, ht⟩ : ∃ t, t = unT s (nkOf k).before (nkOf k).after := ⟨_, rfl⟩
  rw [← ht] at e2 e3 h2 ⊢
  have e4 : Pl.fmtA k (by8 t) = by8 s := by rw [← e2]; rfl
  rw [e4] at e3
  exact parAE_yes (by rw [e3]) (by rw [e3]) h2 (by rw [e2])
theorem ofKindE_no {s : ByteArray} {k : Int} (h : ofKindB s k = false) : ofKindE s k = .returned (.tuple #[atV 0 ⟨#[]⟩, .bool false]) := by unfold ofKindE; rw [h]; rfl
theorem ofKindE_yes {s : ByteArray} {k : Int} (h : ofKindB s k = true) : ofKindE s k = .returned (.tuple #[atV k (unT s (nkOf k).before (nkOf k).after), .bool true]) := by unfold ofKindE; rw [if_pos h]
set_option maxHeartbeats 2000000 in
theorem Parse5_any (s : ByteArray) (w : World) (hs : s.size ≤ 1048576) :
    Calls Tryz.prog 75 #[.string s] w fun e w' => e = parAE s ∧ Below w.heap.size w w' := by
  have C := Lib.hid (fun k w h => ofKind_any s k w h hs)
  have HNo := Lib.hid (fun h => ofKind_no (s := s) h)
  have HYes := Lib.hid (fun k hk h => ofKind_yes (s := s) (k := k) hk h)
  have hbA : Below w.heap.size w (w.alloc (.cells #[.int .i64 0, .string ⟨#[]⟩] 96)) := (Below.refl _ _).alloc (Nat.le_refl _) _
  have hgA : (w.alloc (.cells #[.int .i64 0, .string ⟨#[]⟩] 96)).heap[w.heap.size]? = some (.cells #[.int .i64 0, .string ⟨#[]⟩] 96 (0, 0)) := heap_alloc_new _ _
  obtain ⟨B, hB⟩ : ∃ B, B = w.heap.size := ⟨_, rfl⟩
  have HBB := Lib.hid hB
  go_enter Tryz.func75, Tryz.ntmps75
  go_wp2_with fail
  rw [← hB] at hgA ⊢
  have HGA := Lib.hid hgA
  have HBA := Lib.hid hbA
  clear hB hgA hbA
  go_loopw [4] (fun i wr => ∃ k : Nat, i = .int .i64 k ∧ 1 ≤ k ∧ k ≤ 11 ∧ Hid (∀ j : Nat, 1 ≤ j → j < k → ofKindB s j = false) ∧ Hid (wr.heap[B]? = some (.cells #[.int .i64 0, .string ⟨#[]⟩] 96 (0, 0))) ∧ Below w.heap.size w wr) (fun i _ => 11 - (intOf i).toNat)
  case atStart => exact ⟨1, rfl, by omega, by omega, Lib.hid (fun j h1 h2 => by omega), HGA, HBA.out⟩
  case round =>
    obtain ⟨k, rfl, hk1, hk2, HA, HG, hbel⟩ := hrel
    by_cases hlt : k ≤ 10
    · have c := fun w => C.out (k : Int) w (by omega)
      have hle : (k : Int) ≤ 10 := by omega
      have hbl : B < wr.heap.size := (Array.getElem?_eq_some_iff.1 HG.out).1
      cases ho : ofKindB s (k : Int)
      · rw [ofKindE_no ho] at c
        have C1 := Lib.hid c
        have HA2 : Hid (∀ j : Nat, 1 ≤ j → j < k + 1 → ofKindB s j = false) := by
          intro j h1 h2
          by_cases hj : j = k
          · subst hj; exact ho
          · exact HA.out j h1 (by omega)
        clear c ho HA C HNo HYes
        go_wp2_with fail
        refine (C1.out _).mono ?_
        rintro e w1 ⟨rfl, hb⟩
        have HG1 : Hid (w1.heap[B]? = some (.cells #[.int .i64 0, .string ⟨#[]⟩] 96 (0, 0))) := (hb.block _ hbl).trans HG.out
        have hb1 := hbel.trans (hb.mono hbel.size)
        have hbl1 : B < w1.heap.size := Nat.lt_of_lt_of_le hbl hb.size
        clear hb HG
        go_wp2_with (with_reducible (show wpList _ _ _ (_ :: _) _ _); refine at_store rfl _ _ rfl w1.heap.size 0 ⟨#[]⟩ 0 ⟨#[]⟩ rfl rfl (heap_alloc_new _ _) ?_)
        have HG2 : Hid (((w1.alloc (.cells #[.int .i64 0, .string ⟨#[]⟩] 96)).setRow w1.heap.size #[.int .i64 0, .string ⟨#[]⟩]).heap[B]? = some (.cells #[.int .i64 0, .string ⟨#[]⟩] 96 (0, 0))) := by
          show _ = _
          rw [setRow_other _ _ _ _ (by omega), heap_alloc_old _ _ hbl1]
          exact HG1.out
        have HB2 : Hid (Below w.heap.size w ((w1.alloc (.cells #[.int .i64 0, .string ⟨#[]⟩] 96)).setRow w1.heap.size #[.int .i64 0, .string ⟨#[]⟩])) := below_setRow (hb1.alloc hb1.size _) hb1.size _
        go_roundw
        case rel => exact ⟨k + 1, by go_num, by omega, by omega, HA2, HG2, HB2.out⟩
        case measure => simp [intOf]; omega
      · rw [ofKindE_yes ho] at c
        have hE := HYes.out (k : Int) (by omega) ho
        obtain ⟨t, ht⟩ : ∃ t, t = unT s (nkOf k).before (nkOf k).after := ⟨_, rfl⟩
        rw [← ht] at c hE
        have C1 := Lib.hid c
        have HE := Lib.hid hE
        clear c ho HA C HNo HYes ht hE
        go_wp2_with fail
        refine (C1.out _).mono ?_
        rintro e w1 ⟨rfl, hb⟩
        have HG1 : Hid (w1.heap[B]? = some (.cells #[.int .i64 0, .string ⟨#[]⟩] 96 (0, 0))) := (hb.block _ hbl).trans HG.out
        have hb1 := hbel.trans (hb.mono hbel.size)
        have hbl1 : B < w1.heap.size := Nat.lt_of_lt_of_le hbl hb.size
        clear hb HG
        have HG2 : Hid (((w1.alloc (.cells #[.int .i64 0, .string ⟨#[]⟩] 96)).setRow w1.heap.size #[.int .i64 k, .string t]).heap[B]? = some (.cells #[.int .i64 0, .string ⟨#[]⟩] 96 (0, 0))) := by
          show _ = _
          rw [setRow_other _ _ _ _ (by omega), heap_alloc_old _ _ hbl1]
          exact HG1.out
        have HB2 : Hid (Below w.heap.size w ((w1.alloc (.cells #[.int .i64 0, .string ⟨#[]⟩] 96)).setRow w1.heap.size #[.int .i64 k, .string t])) := below_setRow (hb1.alloc hb1.size _) hb1.size _
        have h3 := Lib.hid (setRow_heap _ B _ #[.int .i64 k, .string t] _ _ HG2.out)
        have HB3 := Lib.hid (below_setRow HB2.out (Nat.le_of_eq HBB.out.symm) #[.int .i64 k, .string t])
        go_wp2_with (with_reducible (show wpList _ _ _ (_ :: _) _ _); first | refine at_store rfl _ _ rfl w1.heap.size k t 0 ⟨#[]⟩ rfl rfl (heap_alloc_new _ _) ?_ | refine at_load rfl _ rfl w1.heap.size k t rfl (setRow_heap _ _ _ _ _ _ (heap_alloc_new _ _)) ?_ | refine at_store rfl _ _ rfl B k t 0 ⟨#[]⟩ rfl rfl HG2.out ?_)
        (try simp only [Exit.inBlock, Exit.then])
        refine bodyPost_ret (results_at2 rfl _ _ B _ _ rfl h3.out) rfl ?_
        exact ⟨HE.out.symm, HB3.out⟩
    · obtain rfl : k = 11 := by omega
      have HE := Lib.hid (HNo.out fun j h1 h2 => HA.out j h1 h2)
      have h3 := Lib.hid (setRow_heap wr B _ #[.int .i64 0, .string ⟨#[]⟩] _ _ HG.out)
      have HB3 := Lib.hid (below_setRow hbel (Nat.le_of_eq HBB.out.symm) #[.int .i64 0, .string ⟨#[]⟩])
      clear HA C HNo HYes hlt
      go_wp2_with (with_reducible (show wpList _ _ _ (_ :: _) _ _); refine at_store rfl _ _ rfl B 0 ⟨#[]⟩ _ _ rfl rfl HG.out ?_)
      (try simp only [Exit.inBlock, Exit.then])
      refine bodyPost_ret (results_at2 rfl _ _ B _ _ rfl h3.out) rfl ?_
      exact ⟨HE.out.symm, HB3.out⟩
end Go.Proofs.YtnpiphkglhcifaaGreat

namespace Go.Proofs.YtnpiphkglhcifaaGreat
set_option maxRecDepth 100000
open Go.RowKit

theorem word_no_space {t : List UInt8} (h : Pl.wordL t = true) : (32 : UInt8) ∉ t := fun hm => (Pl.wordC_ne ((Pl.word_parts h).2.2 _ hm)).2.2.2.2.2 rfl
theorem fmtA_no_space {k : Int} {t : List UInt8} (h : Pl.goodA k t = true) : (32 : UInt8) ∉ Pl.fmtA k t := by
  have key : (32 : UInt8) ∉ t := by
    unfold Pl.goodA at h
    split at h
    · exact word_no_space h
    · split at h
      · rw [Bool.or_eq_true, Bool.or_eq_true, beq_iff_eq, beq_iff_eq, beq_iff_eq] at h
        rcases h with (rfl | rfl) | rfl <;> decide
      · split at h
        · rw [Bool.or_eq_true, Bool.or_eq_true, beq_iff_eq, beq_iff_eq, beq_iff_eq] at h
          rcases h with (rfl | rfl) | rfl <;> decide
        · split at h
          · rw [beq_iff_eq] at h; subst h; decide
          · cases h
  unfold Pl.fmtA
  repeat' split
  all_goals first
    | exact key
    | (simp only [List.mem_append, not_or]; refine ⟨⟨by decide, key⟩, by decide⟩)
    | decide
theorem splitB_textB {ls : List (Int × ByteArray)} (h : okL ls = true) : Pl.splitB (textB ls) 32 = partsT ls := by
  obtain ⟨h1, _, h3, _⟩ := okL_parts h
  unfold Pl.splitB textB
  show Pl.ofLists (Pl.split 32 (Lib.join (Pl.texts (partsT ls)) [32])) = _
  rw [Pl.split_join]
  · unfold Pl.ofLists Pl.texts
    rw [List.map_map]
    conv => rhs; rw [← List.map_id (partsT ls)]
    exact List.map_congr_left fun x _ => rfl
  · intro e
    have : (Pl.texts (partsT ls)).length = ls.length := by unfold Pl.texts partsT; rw [List.length_map, List.length_map]
    rw [e] at this
    simp at this
    omega
  · intro x hx
    unfold Pl.texts partsT at hx
    rw [List.map_map] at hx
    obtain ⟨e, he, rfl⟩ := List.mem_map.1 hx
    exact fmtA_no_space (h3 e he)
theorem atomOf_fmtB {e : Int × ByteArray} (h : goodE e = true) : atomOf (fmtB e.1 e.2) = e := by
  obtain ⟨_, h2⟩ := Pl.par_fmtA e.1 (by8 e.2) h
  unfold atomOf
  rw [fmtB_list, h2]
theorem parL_textB {ls : List (Int × ByteArray)} (h : okL ls = true) : parLB (textB ls) = true ∧ parL (textB ls) = ls := by
  have hr : readL (textB ls) = ls := by
    unfold readL
    rw [splitB_textB h]
    unfold partsT
    rw [List.map_map]
    conv => rhs; rw [← List.map_id ls]
    exact List.map_congr_left fun e he => atomOf_fmtB ((okL_parts h).2.2.1 e he)
  have hs : (textB ls).size ≤ 60 := by
    obtain ⟨h1, _, _, h4⟩ := okL_parts h
    have := textB_size (ls := ls) (by intro e; rw [e] at h1; simp at h1)
    omega
  have hb : parLB (textB ls) = true := by
    unfold parLB
    rw [hr, h, Bool.and_true, decide_eq_true_eq]
    exact hs
  exact ⟨hb, by rw [parL_yes hb, hr]⟩
theorem textB_parL {s : ByteArray} (h : parLB s = true) : okL (parL s) = true ∧ textB (parL s) = s := by
  have hok : okL (readL s) = true := by
    unfold parLB at h
    rw [Bool.and_eq_true] at h
    exact h.2
  have hp : partsT (readL s) = Pl.splitB s 32 := by
    unfold partsT readL
    rw [List.map_map]
    conv => rhs; rw [← List.map_id (Pl.splitB s 32)]
    refine List.map_congr_left fun p hp => ?_
    have hg := (okL_parts hok).2.2.1 (atomOf p) (by unfold readL; exact List.mem_map_of_mem hp)
    have hy : Pl.parOk (by8 p) = true := by
      cases hq : Pl.parOk (by8 p) with
      | true => rfl
      | false => rw [atomOf_no hq] at hg; cases hg
    exact (atomOf_yes hy).2
  rw [parL_yes h]
  refine ⟨hok, ?_⟩
  unfold textB
  rw [hp, Pl.splitB_join]
end Go.Proofs.YtnpiphkglhcifaaGreat

namespace Go.Proofs.YtnpiphkglhcifaaGreat
set_option maxRecDepth 100000
open Go.RowKit

theorem partsT_len (ls : List Atm) : (partsT ls).length = ls.length := by unfold partsT; rw [List.length_map]
theorem goodE_small {e : Atm} (h : goodE e = true) : e.2.size ≤ 20 := by
  unfold goodE at h
  have hl : (by8 e.2).length = e.2.size := Pl.data_len e.2
  rw [← hl]
  unfold Pl.goodA at h
  split at h
  · exact (Pl.word_parts h).2.1
  · split at h
    · simp only [Bool.or_eq_true, beq_iff_eq] at h
      rcases h with (h | h) | h <;> (rw [h]; decide)
    · split at h
      · simp only [Bool.or_eq_true, beq_iff_eq] at h
        rcases h with (h | h) | h <;> (rw [h]; decide)
      · split at h
        · rw [beq_iff_eq] at h; rw [h]; decide
        · cases h
theorem sumF_small {ls : List Atm} (h : ∀ e ∈ ls, goodE e = true) : sumF ls ≤ 25 * ls.length := by
  induction ls with
  | nil => simp [sumF]
  | cons e l ih =>
    have h1 := ih fun e he => h e (List.mem_cons_of_mem _ he)
    have h2 := goodE_small (h e List.mem_cons_self)
    have h3 := fmtB_size e.1 e.2
    unfold sumF at h1 ⊢
    rw [List.map_cons, List.sum_cons, List.length_cons]
    omega
theorem parts_ok {ls : List Atm} (h0 : 0 < ls.length) (h10 : ls.length ≤ 10) (h : ∀ e ∈ ls, goodE e = true) : Pl.JoinOk (partsT ls) 32 := by
  refine Pl.ok_of (by intro e; have := partsT_len ls; rw [e] at this; simp at this; omega) ?_ ?_
  · intro x hx
    obtain ⟨e, he, rfl⟩ := List.mem_map.1 hx
    have h1 := h e he
    unfold goodE at h1
    have := fmtA_no_space h1
    show Pl.has (by8 (fmtB e.1 e.2)) 32 = false
    rw [fmtB_list]
    unfold Pl.has
    simpa using this
  · rw [partsT_len, lens_parts]
    have := sumF_small h
    omega
theorem parts_size {ls : List Atm} (h : ∀ e ∈ ls, goodE e = true) : ∀ x ∈ partsT ls, x.size ≤ 2097152 := by
  intro x hx
  obtain ⟨e, he, rfl⟩ := List.mem_map.1 hx
  have h1 := goodE_small (h e he)
  have h2 := fmtB_size e.1 e.2
  omega
theorem fmtLE_no {ls : List Atm} (h : okL ls = false) : fmtLE ls = .returned (.tuple #[.string ⟨#[]⟩, .bool false]) := by unfold fmtLE fmtLS; rw [h]; rfl
theorem fmtLE_yes {ls : List Atm} (h : okL ls = true) : fmtLE ls = .returned (.tuple #[.string (textB ls), .bool true]) := by unfold fmtLE fmtLS; rw [h]; rfl
theorem okL_end {ls : List Atm} (h0 : 0 < ls.length) (h10 : ls.length ≤ 10) (h : ls.all goodE = true) : okL ls = decide ((textB ls).size ≤ 60) := by
  rw [okL_all h0 h10 h, decide_eq_decide]
  have := textB_size (ls := ls) (by intro e; rw [e] at h0; cases h0)
  omega

end Go.Proofs.YtnpiphkglhcifaaGreat
