/-
  CONTRACTS of JoinStrings: the program's and the specification's.
-/
import Derived.Test.YtnpiphkglhcifaaGreatDoorProg
import Derived.Test.YtnpiphkglhcifaaGreatDoorAid
import Derived.Test.YtnpiphkglhcifaaGreatDoorShelf
import Derived.Test.YtnpiphkglhcifaaGreatDoorPlainJoin
import Derived.Test.YtnpiphkglhcifaaGreatDoorStrs
import Derived.WalkSmall
import Derived.Deep.QuietTactic
import Derived.BigQuiet
import Derived.WalkSpells
namespace Go.Proofs.YtnpiphkglhcifaaGreatDoor
set_option maxRecDepth 100000
open Go.RowKit

/-- The answer of a join that succeeds. -/
def joined (xs : List ByteArray) (c : UInt8) : Value := .tuple #[.string ⟨(Lib.join (Pl.texts xs) [c]).toArray⟩, .bool true]
/-- The answer of a join that fails. -/
def unjoined : Value := .tuple #[.string ⟨#[]⟩, .bool false]
/-- What a join answers. -/
def Joins (xs : List ByteArray) (c : UInt8) (e : Ending) : Prop := (Pl.JoinOk xs c ∧ e = .returned (joined xs c)) ∨ (¬ Pl.JoinOk xs c ∧ e = .returned unjoined)
theorem Joins.yes {xs : List ByteArray} {c : UInt8} {e : Ending} (h : Joins xs c e) (hk : Pl.JoinOk xs c) : e = .returned (joined xs c) := by
  rcases h with h | h
  · exact h.2
  · exact absurd hk h.1
theorem Joins.no {xs : List ByteArray} {c : UInt8} {e : Ending} (h : Joins xs c e) (hk : ¬ Pl.JoinOk xs c) : e = .returned unjoined := by
  rcases h with h | h
  · exact absurd h.1 hk
  · exact h.2

theorem Join_bad (a : Option Addr) (n cap : Nat) (sep : ByteArray) (w : World) (hn : n ≤ maxLen) (h : n = 0 ∨ sep.size ≠ 1) :
    Calls Tryz.prog 21 #[.slice a n cap, .string sep] w fun e w' => e = .returned unjoined ∧ w = w' := by
  unfold maxLen at hn
  by_cases h0 : n = 0
  · subst h0
    clear h
    go_enter Tryz.func21, Tryz.ntmps21
    go_wp2
    go_ret2
    exact ⟨rfl, rfl⟩
  · have h1 : ((n : Int) == 0) = false := by simp; omega
    have h2 : ((sep.size : Int) != 1) = true := by simp; omega
    clear h h0
    go_enter Tryz.func21, Tryz.ntmps21
    go_wp2
    go_ret2
    exact ⟨rfl, rfl⟩

theorem Contains_one (s : ByteArray) (c : UInt8) (w : World) :
    Calls Tryz.prog 35 #[.string s, .string ⟨#[c]⟩] w fun e w' => e = .returned (.bool (Pl.has s.data.toList c)) ∧ w = w' :=
  (Tryz.strings_Contains_one s c w).mono fun e w' ⟨he, hw⟩ => ⟨by rw [he, Pl.index_has], hw.symm⟩

set_option maxHeartbeats 1000000 in
theorem Join_go (bk o cap : Nat) (xs : List ByteArray) (c : UInt8) (w : World) (hcells : ∀ (j : Nat) x, xs[j]? = some x → w.cell? ⟨bk, o + j, none⟩ = some (.string x)) (hbk : bk < w.heap.size)
    (hn : 0 < xs.length) (hN : xs.length ≤ 2097152) (hcap : xs.length ≤ cap) (hx : ∀ x ∈ xs, x.size ≤ 2097152) :
    Calls Tryz.prog 21 #[.slice (some ⟨bk, o, none⟩) xs.length cap, .string ⟨#[c]⟩] w fun e w' => Joins xs c e ∧ Below w.heap.size w w' := by
  have hne : xs ≠ [] := List.length_pos_iff.1 hn
  have hfin : Pl.JoinOk xs c → Calls Tryz.prog 36 #[.slice (some ⟨bk, o, none⟩) xs.length cap, .string ⟨#[c]⟩] w fun e w' => e = .returned (.string ⟨(Lib.join (Pl.texts xs) [c]).toArray⟩) ∧ Below w.heap.size w w' :=
    fun hok => Tryz.strings_Join bk o cap xs ⟨#[c]⟩ w hcells hbk (by omega) hcap (by have := hok.2.2; show (Lib.join (Pl.texts xs) [c]).length ≤ _; omega)
  have HF := Lib.hid hfin
  have HC := Lib.hid hcells
  have HX := Lib.hid hx
  have HNE := Lib.hid hne
  obtain ⟨n, hnn⟩ : ∃ n, n = xs.length := ⟨_, rfl⟩
  rw [← hnn] at hn hN hcap HF ⊢
  have HN := Lib.hid hnn
  have h1 : ((n : Int) == 0) = false := by simp; omega
  clear hfin hcells hx hne hnn
  go_enter Tryz.func21, Tryz.ntmps21
  go_wp2
  go_loop [6, 22] (fun l i => ∃ (k L : Nat), k ≤ n ∧ i = .int .i64 k ∧ l = .int .i64 L ∧ L ≤ 2097152 ∧ (0 < k → L ≤ 4000) ∧ Hid (L + 1 = n + Lib.lens (Pl.texts (xs.take k))) ∧ Hid (∀ x ∈ xs.take k, Pl.has x.data.toList c = false)) (fun _ i => n - (intOf i).toNat)
  case atStart => exact ⟨0, n - 1, Nat.zero_le _, rfl, by go_num, by omega, by omega, by show _ = _; simp [Lib.lens]; omega, fun x hx => by simp at hx⟩
  case round =>
    obtain ⟨k, L, hk, rfl, rfl, hL0, hL1, HL, HA⟩ := hrel
    by_cases hlt : k < n
    · obtain ⟨x, hx⟩ : ∃ x, xs[k]? = some x := ⟨_, List.getElem?_eq_getElem (by rw [← HN.out]; exact hlt)⟩
      have hsx := HX.out x (List.mem_of_getElem? hx)
      have hc := HC.out k x hx
      have HS := Lib.hid (Pl.lens_succ xs k x hx)
      have HXK := Lib.hid hx
      clear hx
      by_cases hlong : 4000 < L + x.size
      · have HNO : Hid (¬ Pl.JoinOk xs c) := Pl.not_ok_long HXK.out (by have := HL.out; have := HN.out; omega)
        go_wp2
        go_ret2
        exact ⟨.inr ⟨HNO.out, rfl⟩, Below.refl _ _⟩
      · have hct := fun w => Contains_one x c w
        cases hh : Pl.has x.data.toList c with
        | true =>
          have HNO : Hid (¬ Pl.JoinOk xs c) := Pl.not_ok_has HXK.out hh
          simp only [hh] at hct
          have HCT := Lib.hid hct
          clear hct hh
          go_wp2_with (go_at_call 35; refine (HCT.out _).mono ?_; rintro e w1 ⟨rfl, rfl⟩)
          go_ret2
          exact ⟨.inr ⟨HNO.out, rfl⟩, Below.refl _ _⟩
        | false =>
          have HA' := Lib.hid (Pl.no_has_succ HXK.out hh HA.out)
          have HL' : Hid ((L + x.size) + 1 = n + Lib.lens (Pl.texts (xs.take (k + 1)))) := by rw [HS.out]; have := HL.out; show _ = _; omega
          simp only [hh] at hct
          have HCT := Lib.hid hct
          clear hct hh
          go_wp2_with (go_at_call 35; refine (HCT.out _).mono ?_; rintro e w1 ⟨rfl, rfl⟩)
          go_round
          case rel => exact ⟨k + 1, L + x.size, by omega, by go_num, by go_num, by omega, by omega, HL', HA'⟩
          case measure => simp [intOf]; omega
    · have hok : Pl.JoinOk xs c := by
        have e : xs.take k = xs := List.take_of_length_le (by rw [← HN.out]; omega)
        have h1 := HL.out; have h2 := HA.out
        rw [e] at h1 h2
        exact Pl.ok_of HNE.out h2 (by have := HN.out; omega)
      have HOK := Lib.hid hok
      have HJ := Lib.hid (HF.out hok)
      clear hok
      go_wp2_with (go_at_call 36; refine HJ.out.mono ?_; rintro e w1 ⟨rfl, hb⟩)
      go_ret2
      exact ⟨.inl ⟨HOK.out, rfl⟩, hb⟩



theorem one_byte {s : ByteArray} (h : s.size = 1) : ∃ c, s = ⟨#[c]⟩ := by
  obtain ⟨⟨l⟩⟩ := s
  match l, h with
  | [c], _ => exact ⟨c, rfl⟩
theorem not_ok_nil (c : UInt8) : ¬ Pl.JoinOk [] c := fun h => h.1 rfl

theorem Join_any (v : Value) (xs : List ByteArray) (c : UInt8) (w : World) (h : StrsAt w v xs) (hN : xs.length ≤ 2097152) (hx : ∀ x ∈ xs, x.size ≤ 2097152) :
    Calls Tryz.prog 21 #[v, .string ⟨#[c]⟩] w fun e w' => Joins xs c e ∧ Below w.heap.size w w' := by
  obtain ⟨a, cap, rfl, hcap, h⟩ := h
  rcases h with rfl | ⟨bk, o, rfl, hbk, hc⟩
  · exact (Join_bad a 0 cap ⟨#[c]⟩ w (by decide) (.inl rfl)).mono fun e w' ⟨he, hw⟩ => ⟨.inr ⟨not_ok_nil c, he⟩, hw ▸ Below.refl _ _⟩
  · rcases Nat.eq_zero_or_pos xs.length with h0 | h0
    · obtain rfl := List.length_eq_zero_iff.1 h0
      exact (Join_bad _ 0 cap ⟨#[c]⟩ w (by decide) (.inl rfl)).mono fun e w' ⟨he, hw⟩ => ⟨.inr ⟨not_ok_nil c, he⟩, hw ▸ Below.refl _ _⟩
    · exact Join_go bk o cap xs c w hc hbk h0 hN hcap hx
theorem Join_sep (v : Value) (xs : List ByteArray) (sep : ByteArray) (w : World) (h : StrsAt w v xs) (hN : xs.length ≤ 2097152) (hs : sep.size ≠ 1) :
    Calls Tryz.prog 21 #[v, .string sep] w fun e w' => e = .returned unjoined ∧ Below w.heap.size w w' := by
  obtain ⟨a, cap, rfl, hcap, h⟩ := h
  exact (Join_bad a xs.length cap sep w (by unfold maxLen; omega) (.inr hs)).mono fun e w' ⟨he, hw⟩ => ⟨he, hw ▸ Below.refl _ _⟩
end Go.Proofs.YtnpiphkglhcifaaGreatDoor
