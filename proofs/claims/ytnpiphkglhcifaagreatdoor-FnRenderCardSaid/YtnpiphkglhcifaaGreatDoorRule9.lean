/-
  CONTRACTS of chapter 9 of the program: SuffixRule, JoinSuffix.
-/
import Derived.Test.YtnpiphkglhcifaaGreatDoorImpl9
import Derived.Test.YtnpiphkglhcifaaGreatDoorDraw
namespace Go.Proofs.YtnpiphkglhcifaaGreatDoor
set_option maxRecDepth 100000
open Go.RowKit

def sm9 : Value → Bool
  | .string x => decide (x.size ≤ 40)
  | _ => false
def so9 : Value → ByteArray
  | .string x => x
  | _ => ByteArray.empty
theorem sm9_of {v : Value} (h : sm9 v = true) : v = .string (so9 v) ∧ (so9 v).size ≤ 40 := by
  unfold sm9 at h
  split at h
  · exact ⟨rfl, by simpa [so9] using h⟩
  · cases h
/-- Does one of the listed texts pass? -/
def anyV (en : ByteArray → Bool) (cs : Array Value) : Bool := (cs.toList.map so9).any en
theorem cells9 {cs : Array Value} (hall : cs.all sm9 = true) : cs = ((cs.toList.map so9).map Value.string).toArray ∧ ∀ x ∈ cs.toList.map so9, x.size ≤ 40 := by
  rw [Array.all_eq_true_iff_forall_mem] at hall
  constructor
  · apply Array.toList_inj.1
    show cs.toList = (cs.toList.map so9).map Value.string
    rw [List.map_map]
    conv => lhs; rw [← List.map_id cs.toList]
    exact List.map_congr_left fun v hv => (sm9_of (hall v (by simpa using hv))).1
  · intro x hx
    obtain ⟨v, hv, rfl⟩ := List.mem_map.1 hx
    exact (sm9_of (hall v (by simpa using hv))).2
/-- endsWith at a list of patterns that the call has just laid. -/
theorem endsNew (s : ByteArray) (w0 wx : World) (cs : Array Value) (n : Nat) (hs : s.size ≤ 1048600) (hall : cs.all sm9 = true) (hn : cs.size = n) (hn2 : n ≤ 1000) (hb : Below w0.heap.size w0 wx) :
    Calls Tryz.prog 96 #[.string s, .slice (some ⟨wx.heap.size, 0, none⟩) n n] (wx.alloc (.cells cs 9)) fun e w' => e = .returned (.bool (anyV (fun p => Pl.endsP s.data.toList p.data.toList) cs)) ∧ Below w0.heap.size w0 w' := by
  obtain ⟨hcs, hsm⟩ := cells9 hall
  have hlen : (cs.toList.map so9).length = n := by rw [List.length_map, Array.length_toList]; exact hn
  have hat : StrsAt (wx.alloc (.cells cs 9)) (.slice (some ⟨wx.heap.size, 0, none⟩) n n) (cs.toList.map so9) :=
    ⟨_, n, by rw [hlen], by omega, .inr ⟨wx.heap.size, 0, rfl, by rw [World.size_alloc]; omega, fun j x hx => by rw [Nat.zero_add]; exact alloc_strs wx cs _ _ hcs j x hx⟩⟩
  have hb1 : Below w0.heap.size w0 (wx.alloc (.cells cs 9)) := hb.alloc hb.size _
  exact (endsWith_any s _ _ _ hs hat (by omega) fun p hp => by have := hsm p hp; omega).mono fun e w' ⟨he, hb2⟩ => ⟨he, hb1.trans (hb2.mono hb1.size)⟩

/-- The rule, as an answer. -/
def ruleE (s f : ByteArray) : Ending := .returned (if (Pl.wordB s.data.toList && Pl.wordB f.data.toList) = true then .tuple #[.int .i64 (Pl.rule s.data.toList f.data.toList), .bool true] else .tuple #[.int .i64 0, .bool false])
theorem rule_any (s f : List UInt8) (en : ByteArray → Bool) (hen : en = fun p => Pl.endsP s p.data.toList) : Pl.rule s f =
    if (decide (f = [115]) && anyV en #[.string ⟨#[67, 121]⟩]) = true then 1
    else if (decide (f = [115]) && anyV en #[.string ⟨#[115]⟩, .string ⟨#[120]⟩, .string ⟨#[122]⟩, .string ⟨#[99, 104]⟩, .string ⟨#[115, 104]⟩]) = true then 2
    else if (decide (f = [105, 110, 103]) && anyV en #[.string ⟨#[105, 101]⟩]) = true then 3
    else if (!(f.getD 0 0 == 105) && anyV en #[.string ⟨#[67, 121]⟩]) = true then 4
    else if (Pl.vow (f.getD 0 0) && (decide (2 ≤ s.length) && (anyV en #[.string ⟨#[101]⟩] && !anyV en #[.string ⟨#[101, 101]⟩, .string ⟨#[111, 101]⟩, .string ⟨#[121, 101]⟩]))) = true then 5
    else if (Pl.vow (f.getD 0 0) && (decide (Pl.groups s = 1) && anyV en #[.string ⟨#[67, 86, 68]⟩])) = true then 6
    else 0 := by
  have e1 : anyV en #[.string ⟨#[67, 121]⟩] = Pl.consY s := by rw [hen, ← Pl.ends_Cy]; simp [anyV, so9]
  have e2 : anyV en #[.string ⟨#[67, 86, 68]⟩] = Pl.doubles s := by rw [hen, ← Pl.ends_CVD]; simp [anyV, so9]
  have e3 : anyV en #[.string ⟨#[115]⟩, .string ⟨#[120]⟩, .string ⟨#[122]⟩, .string ⟨#[99, 104]⟩, .string ⟨#[115, 104]⟩] = (Lib.hasSuffix s [115] || (Lib.hasSuffix s [120] || (Lib.hasSuffix s [122] || (Lib.hasSuffix s [99, 104] || Lib.hasSuffix s [115, 104])))) := by
    rw [hen, ← Pl.ends_lit s [115] (by decide), ← Pl.ends_lit s [120] (by decide), ← Pl.ends_lit s [122] (by decide), ← Pl.ends_lit s [99, 104] (by decide), ← Pl.ends_lit s [115, 104] (by decide)]; simp [anyV, so9]
  have e4 : anyV en #[.string ⟨#[105, 101]⟩] = Lib.hasSuffix s [105, 101] := by rw [hen, ← Pl.ends_lit s [105, 101] (by decide)]; simp [anyV, so9]
  have e5 : anyV en #[.string ⟨#[101]⟩] = Lib.hasSuffix s [101] := by rw [hen, ← Pl.ends_lit s [101] (by decide)]; simp [anyV, so9]
  have e6 : anyV en #[.string ⟨#[101, 101]⟩, .string ⟨#[111, 101]⟩, .string ⟨#[121, 101]⟩] = (Lib.hasSuffix s [101, 101] || (Lib.hasSuffix s [111, 101] || Lib.hasSuffix s [121, 101])) := by
    rw [hen, ← Pl.ends_lit s [101, 101] (by decide), ← Pl.ends_lit s [111, 101] (by decide), ← Pl.ends_lit s [121, 101] (by decide)]; simp [anyV, so9]
  rw [e1, e2, e3, e4, e5, e6]
  rfl

set_option maxHeartbeats 16000000 in
theorem SuffixRule_any (s f : ByteArray) (w : World) (hs : s.size ≤ 1048600) (hf : f.size ≤ 1048600) :
    Calls Tryz.prog 81 #[.string s, .string f] w fun e w' => e = ruleE s f ∧ Below w.heap.size w w' := by
  have HG := Lib.hid (fun w => VowelGroups_any s w (by unfold maxLen; omega))
  have HW := Lib.hid (fun w => IsWord_any f w (by unfold maxLen; omega))
  unfold grpE at HG
  unfold ruleE
  cases hws : Pl.wordB s.data.toList
  · rw [hws, if_neg (by decide)] at HG
    rw [Bool.false_and, if_neg (by decide)]
    clear hws
    go_enter Tryz.func81, Tryz.ntmps81
    go_wp2_with fail
    refine (HG.out _).mono ?_
    rintro e w' ⟨rfl, rfl⟩
    go_wp2
    go_ret2
    exact ⟨rfl, Below.refl _ _⟩
  rw [hws, if_pos rfl] at HG
  rw [Bool.true_and]
  cases hwf : Pl.wordB f.data.toList
  · rw [hwf] at HW
    rw [if_neg (by decide)]
    clear hws hwf
    go_enter Tryz.func81, Tryz.ntmps81
    go_wp2_with fail
    refine (HG.out _).mono ?_
    rintro e w' ⟨rfl, rfl⟩
    go_wp2_with fail
    refine (HW.out _).mono ?_
    rintro e w' ⟨rfl, rfl⟩
    go_wp2
    go_ret2
    exact ⟨rfl, Below.refl _ _⟩
  rw [hwf] at HW
  rw [if_pos rfl]
  have hl : s.data.toList.length = s.size := by simp
  have hf1 : 1 ≤ f.size := by have := (Pl.wordB_ne hwf).1; simpa using this
  have HV := Lib.hid (fun w => isVowel_any (f[0]'(by omega)) w)
  have hgl := Pl.grp_le s.data.toList s.data.toList.length
  obtain ⟨en, hen⟩ : ∃ en : ByteArray → Bool, en = fun p => Pl.endsP s.data.toList p.data.toList := ⟨_, rfl⟩
  have HE : Hid (∀ (wx : World) (cs : Array Value) (n : Nat), cs.all sm9 = true → cs.size = n → n ≤ 1000 → Below w.heap.size w wx → Calls Tryz.prog 96 #[.string s, .slice (some ⟨wx.heap.size, 0, none⟩) n n] (wx.alloc (.cells cs 9)) fun e w' => e = .returned (.bool (anyV en cs)) ∧ Below w.heap.size w w') := by
    intro wx cs n h1 h2 h3 h4
    rw [hen]
    exact endsNew s w wx cs n hs h1 h2 h3 h4
  have hR := rule_any s.data.toList f.data.toList en hen
  obtain ⟨G, hG⟩ : ∃ G, G = Pl.groups s.data.toList := ⟨_, rfl⟩
  have hG2 : G ≤ s.size := by rw [hG, ← hl]; exact hgl
  rw [← hG] at HG hR
  have key : ∀ l : List UInt8, decide (f.data.toList = l) = (f.toList == l) := fun l => by
    rw [Lib.toList_data, Bool.eq_iff_iff]; simp
  rw [key [115], key [105, 110, 103], getD_at f 0 (by omega), byte_eq _ 105 105 rfl, hl, show decide (2 ≤ s.size) = decide (2 ≤ (s.size : Int)) by (rw [Bool.eq_iff_iff]; simp only [decide_eq_true_eq]; omega), show decide (G = 1) = ((G : Int) == 1) by (rw [Bool.eq_iff_iff]; simp; omega)] at hR
  obtain ⟨R, hRR⟩ : ∃ R, R = Pl.rule s.data.toList f.data.toList := ⟨_, rfl⟩
  rw [← hRR] at hR ⊢
  obtain ⟨vo, hvo⟩ : ∃ b, b = Pl.vow (f[0]'(by omega)) := ⟨_, rfl⟩
  rw [← hvo] at hR HV
  obtain ⟨q, hq⟩ : ∃ b, (f.toList == [115]) = b := ⟨_, rfl⟩
  obtain ⟨g, hgg⟩ : ∃ b, (f.toList == [105, 110, 103]) = b := ⟨_, rfl⟩
  obtain ⟨nz, hnz⟩ : ∃ b, (((f[0]'(by omega)).toNat : Int) != 105) = b := ⟨_, rfl⟩
  obtain ⟨g1, hg1⟩ : ∃ b, ((G : Int) == 1) = b := ⟨_, rfl⟩
  rw [hq, hgg, hg1, show (!(((f[0]'(by omega)).toNat : Int) == 105)) = nz from hnz] at hR
  have HR := Lib.hid hR
  have hb0 : Below w.heap.size w w := Below.refl _ _
  clear hl hR hRR hG key hvo hen hgl hws hwf
  go_enter Tryz.func81, Tryz.ntmps81
  go_wp2_with fail
  refine (HG.out _).mono ?_
  rintro e w' ⟨rfl, rfl⟩
  go_wp2_with fail
  refine (HW.out _).mono ?_
  rintro e w' ⟨rfl, rfl⟩
  go_wp2_with (first | (go_at_call 97; refine (HV.out _).mono ?_; rintro e w' ⟨rfl, rfl⟩) | (go_at_call 96; refine (HE.out _ _ _ (by kernel_rfl) (by rfl) (by decide) (by assumption)).mono ?_; rintro e w' ⟨rfl, hb⟩))
  all_goals try go_ret2
  all_goals try refine ⟨ret_int_bool ?_, by assumption⟩
  all_goals try rw [HR.out]
  all_goals try first | (simp [*]; done) | (rw [show decide (2 ≤ (s.size : Int)) = false from decide_eq_false (by omega)]; simp [*]; done)
end Go.Proofs.YtnpiphkglhcifaaGreatDoor
