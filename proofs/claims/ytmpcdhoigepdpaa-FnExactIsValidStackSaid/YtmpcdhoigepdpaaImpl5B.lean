/-
  CONTRACTS of the program's chapter 5, the second part: IsValidAtom, FormatAtom, parseAtomOfKind, ParseAtom.
-/
import Derived.Test.YtmpcdhoigepdpaaImpl5A
namespace Go.Proofs.Ytmpcdhoigepdpaa
set_option maxRecDepth 100000
open Go.RowKit

theorem nk_small (k : Int) : (nkOf k).before.size ≤ 1000 ∧ (nkOf k).after.size ≤ 1000 := by
  unfold nkOf
  repeat' split
  all_goals exact ⟨by decide, by decide⟩
theorem nkE_yes {k : Int} (h : 1 ≤ k ∧ k ≤ 10) : nkE k = .returned (.tuple #[(nkOf k).val, .bool true]) := by unfold nkE; rw [if_pos h]
theorem nkE_no {k : Int} (h : ¬ (1 ≤ k ∧ k ≤ 10)) : nkE k = .returned (.tuple #[.nilIface, .bool false]) := by unfold nkE; rw [if_neg h]
/-- What parseAtomOfKind answers. -/
def ofKindB (s : ByteArray) (k : Int) : Bool := unB s (nkOf k).before (nkOf k).after && (nkOf k).permits (unT s (nkOf k).before (nkOf k).after)
def ofKindE (s : ByteArray) (k : Int) : Ending := if ofKindB s k = true then .returned (.tuple #[atV k (unT s (nkOf k).before (nkOf k).after), .bool true]) else .returned (.tuple #[atV 0 ⟨#[]⟩, .bool false])
set_option maxHeartbeats 2000000 in
theorem ofKind_any (s : ByteArray) (k : Int) (w : World) (h : 1 ≤ k ∧ k ≤ 10) (hs : s.size ≤ 1048576) :
    Calls Try.prog 120 #[.string s, .int .i64 k] w fun e w' => e = ofKindE s k ∧ Below w.heap.size w w' := by
  have c := fun w => notation5_any k w
  rw [nkE_yes h] at c
  unfold ofKindE ofKindB
  obtain ⟨nk, hnk⟩ : ∃ nk, nk = nkOf k := ⟨_, rfl⟩
  rw [← hnk] at c ⊢
  have u := fun w => unwrap_any nk.before nk.after s w (by omega)
  have hts := unT_size s nk.before nk.after
  obtain ⟨t, ht⟩ : ∃ t, t = unT s nk.before nk.after := ⟨_, rfl⟩
  obtain ⟨ok, hx⟩ : ∃ ok, ok = unB s nk.before nk.after := ⟨_, rfl⟩
  rw [← ht] at hts
  rw [← ht, ← hx] at u ⊢
  have hts : t.size ≤ 1048600 := by omega
  clear hnk h ht hx
  · cases nk with
    | word b a =>
      have d := fun w => permW_any b a t w hts
      obtain ⟨g, hg⟩ : ∃ g, g = (NK.word b a).permits t := ⟨_, rfl⟩
      rw [← hg] at d ⊢
      have C := Lib.hid c
      have D := Lib.hid d
      have U := Lib.hid u
      clear c d u hg
      unfold NK.val at C
      go_enter Try.func120, Try.ntmps120
      go_wp2_with fail
      refine (C.out _).mono ?_
      rintro e w1 ⟨rfl, rfl⟩
      go_wp2_with fail
      refine (U.out _).mono ?_
      rintro e w1 ⟨rfl, hb⟩
      have h1 : Hid (w1.heap[w.heap.size]? = some (.cells #[.int .i64 0, .string ⟨#[]⟩] 134 (0, 0))) := (hb.block _ (by rw [World.size_alloc]; omega)).trans (heap_alloc_new _ _)
      have hs1 : w.heap.size < w1.heap.size := by have := hb.size; rw [World.size_alloc] at this; omega
      have hb1 := below_new hb
      clear hb
      cases ok
      · have h3 := Lib.hid (setRow_heap w1 w.heap.size _ #[.int .i64 0, .string ⟨#[]⟩] _ _ h1.out)
        have hb3 := below_setRow hb1 (Nat.le_refl _) #[.int .i64 0, .string ⟨#[]⟩]
        go_wp2_with (with_reducible (show wpList _ _ _ (_ :: _) _ _); refine at_store rfl _ _ rfl w.heap.size 0 ⟨#[]⟩ _ _ rfl rfl h1.out ?_)
        (try simp only [Exit.inBlock, Exit.then])
        refine bodyPost_ret (results_at2 rfl _ _ w.heap.size _ _ rfl h3.out) rfl ?_
        exact ⟨rfl, hb3⟩
      · go_wp2_with fail
        refine (D.out _).mono ?_
        rintro e w2 ⟨rfl, hb⟩
        have h2 : Hid (w2.heap[w.heap.size]? = some (.cells #[.int .i64 0, .string ⟨#[]⟩] 134 (0, 0))) := (hb.block _ hs1).trans h1.out
        have hb2 := hb1.trans (hb.mono hb1.size)
        clear hb h1
        cases g
        · have h3 := Lib.hid (setRow_heap w2 w.heap.size _ #[.int .i64 0, .string ⟨#[]⟩] _ _ h2.out)
          have hb3 := below_setRow hb2 (Nat.le_refl _) #[.int .i64 0, .string ⟨#[]⟩]
          go_wp2_with (with_reducible (show wpList _ _ _ (_ :: _) _ _); refine at_store rfl _ _ rfl w.heap.size 0 ⟨#[]⟩ _ _ rfl rfl h2.out ?_)
          (try simp only [Exit.inBlock, Exit.then])
          refine bodyPost_ret (results_at2 rfl _ _ w.heap.size _ _ rfl h3.out) rfl ?_
          exact ⟨rfl, hb3⟩
        · have h3 := Lib.hid (setRow_heap w2 w.heap.size _ #[.int .i64 k, .string t] _ _ h2.out)
          have hb3 := below_setRow hb2 (Nat.le_refl _) #[.int .i64 k, .string t]
          go_wp2_with (with_reducible (show wpList _ _ _ (_ :: _) _ _); refine at_store rfl _ _ rfl w.heap.size k t _ _ rfl rfl h2.out ?_)
          (try simp only [Exit.inBlock, Exit.then])
          refine bodyPost_ret (results_at2 rfl _ _ w.heap.size _ _ rfl h3.out) rfl ?_
          exact ⟨rfl, hb3⟩
    | mark b a x y z =>
      have d := fun w => permM_any b a x y z t w hts
      obtain ⟨g, hg⟩ : ∃ g, g = (NK.mark b a x y z).permits t := ⟨_, rfl⟩
      rw [← hg] at d ⊢
      have C := Lib.hid c
      have D := Lib.hid d
      have U := Lib.hid u
      clear c d u hg
      unfold NK.val at C
      go_enter Try.func120, Try.ntmps120
      go_wp2_with fail
      refine (C.out _).mono ?_
      rintro e w1 ⟨rfl, rfl⟩
      go_wp2_with fail
      refine (U.out _).mono ?_
      rintro e w1 ⟨rfl, hb⟩
      have h1 : Hid (w1.heap[w.heap.size]? = some (.cells #[.int .i64 0, .string ⟨#[]⟩] 134 (0, 0))) := (hb.block _ (by rw [World.size_alloc]; omega)).trans (heap_alloc_new _ _)
      have hs1 : w.heap.size < w1.heap.size := by have := hb.size; rw [World.size_alloc] at this; omega
      have hb1 := below_new hb
      clear hb
      cases ok
      · have h3 := Lib.hid (setRow_heap w1 w.heap.size _ #[.int .i64 0, .string ⟨#[]⟩] _ _ h1.out)
        have hb3 := below_setRow hb1 (Nat.le_refl _) #[.int .i64 0, .string ⟨#[]⟩]
        go_wp2_with (with_reducible (show wpList _ _ _ (_ :: _) _ _); refine at_store rfl _ _ rfl w.heap.size 0 ⟨#[]⟩ _ _ rfl rfl h1.out ?_)
        (try simp only [Exit.inBlock, Exit.then])
        refine bodyPost_ret (results_at2 rfl _ _ w.heap.size _ _ rfl h3.out) rfl ?_
        exact ⟨rfl, hb3⟩
      · go_wp2_with fail
        refine (D.out _).mono ?_
        rintro e w2 ⟨rfl, hb⟩
        have h2 : Hid (w2.heap[w.heap.size]? = some (.cells #[.int .i64 0, .string ⟨#[]⟩] 134 (0, 0))) := (hb.block _ hs1).trans h1.out
        have hb2 := hb1.trans (hb.mono hb1.size)
        clear hb h1
        cases g
        · have h3 := Lib.hid (setRow_heap w2 w.heap.size _ #[.int .i64 0, .string ⟨#[]⟩] _ _ h2.out)
          have hb3 := below_setRow hb2 (Nat.le_refl _) #[.int .i64 0, .string ⟨#[]⟩]
          go_wp2_with (with_reducible (show wpList _ _ _ (_ :: _) _ _); refine at_store rfl _ _ rfl w.heap.size 0 ⟨#[]⟩ _ _ rfl rfl h2.out ?_)
          (try simp only [Exit.inBlock, Exit.then])
          refine bodyPost_ret (results_at2 rfl _ _ w.heap.size _ _ rfl h3.out) rfl ?_
          exact ⟨rfl, hb3⟩
        · have h3 := Lib.hid (setRow_heap w2 w.heap.size _ #[.int .i64 k, .string t] _ _ h2.out)
          have hb3 := below_setRow hb2 (Nat.le_refl _) #[.int .i64 k, .string t]
          go_wp2_with (with_reducible (show wpList _ _ _ (_ :: _) _ _); refine at_store rfl _ _ rfl w.heap.size k t _ _ rfl rfl h2.out ?_)
          (try simp only [Exit.inBlock, Exit.then])
          refine bodyPost_ret (results_at2 rfl _ _ w.heap.size _ _ rfl h3.out) rfl ?_
          exact ⟨rfl, hb3⟩
    | cmd b a =>
      have d := fun w => permC_any b a t w
      obtain ⟨g, hg⟩ : ∃ g, g = (NK.cmd b a).permits t := ⟨_, rfl⟩
      rw [← hg] at d ⊢
      have C := Lib.hid c
      have D := Lib.hid d
      have U := Lib.hid u
      clear c d u hg
      unfold NK.val at C
      go_enter Try.func120, Try.ntmps120
      go_wp2_with fail
      refine (C.out _).mono ?_
      rintro e w1 ⟨rfl, rfl⟩
      go_wp2_with fail
      refine (U.out _).mono ?_
      rintro e w1 ⟨rfl, hb⟩
      have h1 : Hid (w1.heap[w.heap.size]? = some (.cells #[.int .i64 0, .string ⟨#[]⟩] 134 (0, 0))) := (hb.block _ (by rw [World.size_alloc]; omega)).trans (heap_alloc_new _ _)
      have hs1 : w.heap.size < w1.heap.size := by have := hb.size; rw [World.size_alloc] at this; omega
      have hb1 := below_new hb
      clear hb
      cases ok
      · have h3 := Lib.hid (setRow_heap w1 w.heap.size _ #[.int .i64 0, .string ⟨#[]⟩] _ _ h1.out)
        have hb3 := below_setRow hb1 (Nat.le_refl _) #[.int .i64 0, .string ⟨#[]⟩]
        go_wp2_with (with_reducible (show wpList _ _ _ (_ :: _) _ _); refine at_store rfl _ _ rfl w.heap.size 0 ⟨#[]⟩ _ _ rfl rfl h1.out ?_)
        (try simp only [Exit.inBlock, Exit.then])
        refine bodyPost_ret (results_at2 rfl _ _ w.heap.size _ _ rfl h3.out) rfl ?_
        exact ⟨rfl, hb3⟩
      · go_wp2_with fail
        refine (D.out _).mono ?_
        rintro e w2 ⟨rfl, hb⟩
        have h2 : Hid (w2.heap[w.heap.size]? = some (.cells #[.int .i64 0, .string ⟨#[]⟩] 134 (0, 0))) := (hb.block _ hs1).trans h1.out
        have hb2 := hb1.trans (hb.mono hb1.size)
        clear hb h1
        cases g
        · have h3 := Lib.hid (setRow_heap w2 w.heap.size _ #[.int .i64 0, .string ⟨#[]⟩] _ _ h2.out)
          have hb3 := below_setRow hb2 (Nat.le_refl _) #[.int .i64 0, .string ⟨#[]⟩]
          go_wp2_with (with_reducible (show wpList _ _ _ (_ :: _) _ _); refine at_store rfl _ _ rfl w.heap.size 0 ⟨#[]⟩ _ _ rfl rfl h2.out ?_)
          (try simp only [Exit.inBlock, Exit.then])
          refine bodyPost_ret (results_at2 rfl _ _ w.heap.size _ _ rfl h3.out) rfl ?_
          exact ⟨rfl, hb3⟩
        · have h3 := Lib.hid (setRow_heap w2 w.heap.size _ #[.int .i64 k, .string t] _ _ h2.out)
          have hb3 := below_setRow hb2 (Nat.le_refl _) #[.int .i64 k, .string t]
          go_wp2_with (with_reducible (show wpList _ _ _ (_ :: _) _ _); refine at_store rfl _ _ rfl w.heap.size k t _ _ rfl rfl h2.out ?_)
          (try simp only [Exit.inBlock, Exit.then])
          refine bodyPost_ret (results_at2 rfl _ _ w.heap.size _ _ rfl h3.out) rfl ?_
          exact ⟨rfl, hb3⟩
end Go.Proofs.Ytmpcdhoigepdpaa
