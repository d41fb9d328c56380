/-
  CONTRACTS of FormatInt: the program's and the specification's.
-/
import Derived.Test.YtbpjlhdhlcmajaaDoorNum
import Derived.Test.YtbpjlhdhlcmajaaDoorShelf
import Derived.WalkSmall
import Derived.Lib.LaidTab
import Derived.Lib.AppendIntMem
namespace Go.Proofs.YtbpjlhdhlcmajaaDoor
open Go.RowKit

/-- A table reads on as it read, in every later world that keeps what lay there. -/
theorem tab_below {P : Program} {n : String} {g : Nat} {k : IntKind} {zs : List Int} {w w' : World} (hg : P.globalNamed n = some g) (h : Lib.TabIs P w n k zs) (hb : Below w.heap.size w w') : Lib.TabIs P w' n k zs := by
  have hlt : g < w.heap.size := by
    rcases Nat.lt_or_ge g w.heap.size with h' | h'
    · exact h'
    · unfold Lib.TabIs World.var? at h
      simp only [hg, Option.bind_some] at h
      rw [Array.getElem?_eq_none h'] at h
      cases h
  exact var?_below hb hg hlt h

theorem gPow : Tryd.prog.globalNamed "internal/strconv.uint64pow10" = some 1 := by kernel_rfl
/-- What is asked of the library's table of powers of ten. -/
def Pow (w : World) : Prop := Lib.TabIs Tryd.prog w "internal/strconv.uint64pow10" .u64 Lib.pow10Tab
theorem Pow.below {w w' : World} (h : Pow w) (hb : Below w.heap.size w w') : Pow w' := tab_below gPow h hb

theorem Itoa_any (n : Int) (h0 : -1000000000 ≤ n) (h1 : n ≤ 1000000000) (w : World) (hT : Pow w) :
    Calls Tryd.prog 23 #[.int .i64 n] w fun e w' => e = .returned (.string ⟨(Lib.itoa n).toArray⟩) ∧ Below w.heap.size w w' :=
  (Tryd.strconv_Itoa n (by omega) (by omega) w hT).mono fun e w' ⟨he, k, os, hw⟩ => ⟨he, hw ▸ Lib.below_grow _ _ (Nat.le_refl _) k os⟩

theorem FormatInt_no (n : Int) (h : n < -999999 ∨ 999999 < n) (w : World) :
    Calls Tryd.prog 10 #[.int .i64 n] w fun e w' => e = .returned (.tuple #[.string ⟨#[]⟩, .bool false]) ∧ w = w' := by
  rcases h with h | h
  · go_enter Tryd.func10, Tryd.ntmps10
    go_wp2
    go_ret2
    exact ⟨rfl, rfl⟩
  · have h' : ¬ n < -999999 := by omega
    go_enter Tryd.func10, Tryd.ntmps10
    go_wp2
    go_ret2
    exact ⟨rfl, rfl⟩

theorem FormatInt_yes (n : Int) (h0 : -999999 ≤ n) (h1 : n ≤ 999999) (w : World) (hT : Pow w) :
    Calls Tryd.prog 10 #[.int .i64 n] w fun e w' => e = .returned (.tuple #[.string ⟨(Lib.itoa n).toArray⟩, .bool true]) ∧ Below w.heap.size w w' := by
  have C := Lib.hid (Itoa_any n (by omega) (by omega) w hT)
  have h0' : ¬ n < -999999 := by omega
  have h1' : ¬ 999999 < n := by omega
  clear hT h0 h1
  go_enter Tryd.func10, Tryd.ntmps10
  go_wp2_with (go_at_call 23; refine C.out.mono ?_; rintro e w' ⟨rfl, hb⟩)
  go_ret2
  exact ⟨rfl, hb⟩

theorem specFormatInt_no (n : Int) (h : n < -999999 ∨ 999999 < n) (w : World) :
    Calls Tryd.prog 11 #[.int .i64 n] w fun e w' => e = .returned (.tuple #[.string ⟨#[]⟩, .bool false]) ∧ w = w' := by
  have c := l1In_any n (-999999) 999999 w
  rw [show (decide (-999999 ≤ n) && decide (n ≤ 999999)) = false by simp; omega] at c
  have C := Lib.hid c
  clear c h
  go_enter Tryd.func11, Tryd.ntmps11
  go_wp2_with (go_at_call 24; refine C.out.mono ?_; rintro e w' ⟨rfl, rfl⟩)
  go_ret2
  exact ⟨rfl, rfl⟩

theorem specFormatInt_yes (n : Int) (h0 : -999999 ≤ n) (h1 : n ≤ 999999) (w : World) :
    Calls Tryd.prog 11 #[.int .i64 n] w fun e w' => e = .returned (.tuple #[.string ⟨(Lib.itoa n).toArray⟩, .bool true]) ∧ Below w.heap.size w w' := by
  have c := l1In_any n (-999999) 999999 w
  rw [show (decide (-999999 ≤ n) && decide (n ≤ 999999)) = true by simp; omega] at c
  have C := Lib.hid c
  have D := Lib.hid (l1Num_any n (by omega) (by omega) w)
  clear c h0 h1
  go_enter Tryd.func11, Tryd.ntmps11
  go_wp2_with (first | (go_at_call 24; refine C.out.mono ?_; rintro e w' ⟨rfl, rfl⟩) | (go_at_call 25; refine D.out.mono ?_; rintro e w' ⟨rfl, kk, rfl⟩))
  go_ret2
  exact ⟨rfl, below_drewN (Below.refl _ _) kk⟩
end Go.Proofs.YtbpjlhdhlcmajaaDoor
