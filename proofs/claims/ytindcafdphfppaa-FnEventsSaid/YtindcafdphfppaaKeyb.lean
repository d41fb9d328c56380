/-
  CONTRACTS of the keyboard's methods: after, keysDown.
-/
import Derived.Test.YtindcafdphfppaaKb
namespace Go.Proofs.Ytindcafdphfppaa
open Go.RowKit

set_option maxHeartbeats 1000000 in
theorem after_any (dn : Nat) (e : Pl.Ev) (hf : Pl.fits dn e) (w : World) :
    Calls Try.prog 60 #[.agg (kbA dn), evV e] w fun r w' => r = .returned (.agg (kbA (Pl.flip dn e))) ∧ Below w.heap.size w w' := by
  have hfl := kbA_flip dn e hf
  obtain ⟨h0, h1, _⟩ := hf
  obtain ⟨t, k, d⟩ := e
  obtain ⟨q, rfl⟩ := Int.eq_ofNat_of_zero_le h0
  have hq : q < 23 := by have : (q : Int) < 23 := h1; omega
  simp only [Int.toNat_natCast] at hfl
  have hz := kb_nil
  have hB : KB ((w.alloc (.cells (kbA dn) 65)).alloc (.cells #[.int .i64 t, .int .i64 (q : Int), .bool d] 31)) w.heap.size dn := (KB.made w dn).alloc _
  have hB2 := hB.alloc (.cells (kbA 0) 65)
  have hc := hB2.cell q hq
  have hfr := hB2.frozen q
  go_enter Try.func60, Try.ntmps60
  have hK : KB (((w.alloc (.cells (kbA (Pl.flip dn ⟨t, (q : Int), d⟩)) 65)).alloc (.cells #[.int .i64 t, .int .i64 (q : Int), .bool d] 31)).alloc (.cells (kbA 0) 65)) w.heap.size (Pl.flip dn ⟨t, (q : Int), d⟩) := ((KB.made w _).alloc _).alloc _
  have hO : KB (((w.alloc (.cells (kbA (Pl.flip dn ⟨t, (q : Int), d⟩)) 65)).alloc (.cells #[.int .i64 t, .int .i64 (q : Int), .bool d] 31)).alloc (.cells (kbA 0) 65)) (w.heap.size + 1 + 1) 0 := by
    have := KB.made ((w.alloc (.cells (kbA (Pl.flip dn ⟨t, (q : Int), d⟩)) 65)).alloc (.cells #[.int .i64 t, .int .i64 (q : Int), .bool d] 31)) 0
    rwa [World.size_alloc, World.size_alloc] at this
  have HK := Lib.hid hK
  have HO := Lib.hid hO
  clear hK hO hB hB2
  go_wp2_with (with_reducible (show wpList _ _ _ (_ :: _) _ _); first | refine kb_load w.heap.size _ rfl rfl rfl HK.out ?_ | refine kb_store (w.heap.size + 1 + 1) 0 (Pl.flip dn ⟨t, (q : Int), d⟩) rfl rfl rfl rfl HO.out ?_)
  refine bodyPost_ret (results_cell_row rfl _ _ (w.heap.size + 1 + 1) _ _ _ _ rfl (HO.out.row _) Try.underlying65 rfl (kb_size _)) rfl ?_
  exact ⟨rfl, below_row ((((Below.refl _ _).alloc (Nat.le_refl _) _).alloc (by simp) _).alloc (by simp; omega) _) (by omega) _⟩

set_option maxHeartbeats 1000000 in
/-- The keys that are down, in ascending order: a new slice. -/
theorem keysDown_any (n : Nat) (w : World) :
    Calls Try.prog 50 #[.agg (kbA n)] w fun e w' => (∃ v, e = .returned v ∧ w'.ownsRow w.heap.size 3 1 v (keysI n).length ((keysI n).map (.int .i64))) ∧ Below w.heap.size w w' := by
  obtain ⟨i0, hi, hz0, hz1, hz2⟩ := info_parts infoInt
  have HK := Lib.hid ((KB.made w n).alloc (.cells #[] 3))
  have CX := Lib.hid (fun k hk w => kb_index n k hk w)
  have hb0 : Below w.heap.size w ((w.alloc (.cells (kbA n) 65)).alloc (.cells #[] 3)) := ((Below.refl _ _).alloc (Nat.le_refl _) _).alloc (by simp) _
  have hr0 : ((w.alloc (.cells (kbA n) 65)).alloc (.cells #[] 3)).ownsRow w.heap.size 3 1 (.slice (some ⟨w.heap.size + 1, 0, none⟩) 0 0) (Pl.keysIn n 0 0).length ((Pl.keysIn n 0 0).map fun j : Nat => Value.int .i64 j) := by
    have e := row_new (w.alloc (.cells (kbA n) 65)) 3
    rw [World.size_alloc] at e
    refine ⟨e.1, ?_⟩
    rcases e.2 with h | ⟨g, c, cur, hv, hb, rest⟩
    · exact .inl h
    · exact .inr ⟨g, c, cur, hv, by omega, rest⟩
  have HB0 := Lib.hid hb0
  have HR0 := Lib.hid hr0
  clear hb0 hr0
  go_enter Try.func50, Try.ntmps50
  go_wp2_with (with_reducible (show wpList _ _ _ (_ :: _) _ _); refine kb_load w.heap.size _ rfl rfl rfl HK.out ?_)
  go_loopw [3, 8] (fun l i wr => ∃ k : Nat, i = .int .i64 k ∧ k ≤ 23 ∧ wr.ownsRow w.heap.size 3 1 l (Pl.keysIn n 0 k).length ((Pl.keysIn n 0 k).map fun j : Nat => Value.int .i64 j) ∧ Below w.heap.size w wr) (fun _ i _ => 23 - (intOf i).toNat)
  case atStart => exact ⟨0, rfl, by omega, HR0.out, HB0.out⟩
  case round =>
    obtain ⟨k, rfl, hk, hown0, hbel⟩ := hrel
    have hsz := hbel.size
    have hlen := Pl.keysIn_len n 0 k
    have HSU := Lib.hid (Pl.keysIn_succ n 0 k (Nat.zero_le k))
    have HO0 := Lib.hid hown0
    clear hown0
    by_cases hlt : k < 23
    · have hix := CX.out k hlt
      cases hb : n.testBit k
      · have HKn : Hid (Pl.keysIn n 0 (k + 1) = Pl.keysIn n 0 k) := by have := HSU.out; rw [hb] at this; simpa [Hid] using this
        rw [hb] at hix
        clear hb HSU
        go_wp2
        go_roundw
        case rel => exact ⟨k + 1, by go_num, by omega, by rw [HKn.out]; exact HO0.out, hbel⟩
        case measure => simp [intOf]; omega
      · have HKn : Hid (Pl.keysIn n 0 (k + 1) = Pl.keysIn n 0 k ++ [k]) := by have := HSU.out; rw [hb] at this; simpa [Hid] using this
        rw [hb] at hix
        clear hb HSU
        have hown := HO0.out
        go_wp2_with (at_builtin; refine wpList_append_own _ rfl _ _ 24 rfl w.heap.size 3 i0 (.int .i64 0) 1 8 Try.underlying24 hi hz0 hz1 hz2 rfl (by decide) _ _ _ rfl (hown.alloc _) ⟨wr.heap.size, 0, none⟩ 1 1 [.int .i64 k] rfl rfl ?c1 ?c2 ?c3 ?c4 ?c5 ?_)
        case c1 => exact cell_one_new _ _ _
        case c2 => intro y hy; simp at hy; subst hy; rfl
        case c3 => unfold maxLen; omega
        case c4 => omega
        case c5 => simp; omega
        intro v' w3 hown' hgrow _
        have HO : Hid (w3.ownsRow w.heap.size 3 1 v' (Pl.keysIn n 0 (k + 1)).length ((Pl.keysIn n 0 (k + 1)).map fun j : Nat => Value.int .i64 j)) := by
          rw [HKn.out, List.length_append, List.map_append]; exact hown'
        have HW : Hid (Below w.heap.size w w3) := (hbel.alloc hsz _).grown hgrow (by simp; omega) fun j hj => row_ge hown hj
        clear hown hown' hgrow hbel
        go_wp2
        go_roundw
        case rel => exact ⟨k + 1, by go_num, by omega, HO.out, HW.out⟩
        case measure => simp [intOf]; omega
    · obtain rfl : k = 23 := by omega
      have HF := Lib.hid (keys_row HO0.out)
      clear HO0 HSU
      go_wp2
      go_ret
      exact ⟨⟨_, rfl, HF.out⟩, hbel⟩
end Go.Proofs.Ytindcafdphfppaa
