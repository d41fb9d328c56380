/-
  CONTRACTS of the program's chapter 11, third part: slices.Contains at pieces, IsSegmentation.
-/
import Derived.Test.YthigdblloddepaaImC
import Derived.Test.YthigdblloddepaaSgD
import Derived.Laws.StructEq
namespace Go.Proofs.Ythigdblloddepaa
set_option maxRecDepth 100000
open Go.RowKit

/-- Two pieces compared part for part. -/
def eqPB (e e' : Pc) : Bool := e.1 == e'.1 && (e.2.1 == e'.2.1 && e.2.2.toList == e'.2.2.toList)
theorem eqPB_iff (e e' : Pc) : eqPB e e' = true ↔ e = e' := by
  obtain ⟨f, c, t⟩ := e
  obtain ⟨f', c', t'⟩ := e'
  unfold eqPB
  simp only [Bool.and_eq_true, beq_iff_eq]
  constructor
  · rintro ⟨rfl, rfl, h⟩
    rw [Lib.toList_data, Lib.toList_data] at h
    rw [show t = t' from ByteArray.ext (Array.toList_inj.1 h)]
  · intro h
    injection h with h1 h2
    injection h2 with h2 h3
    exact ⟨h1, h2, by rw [h3]⟩
theorem fields_pc : (Try.prog.fieldsOf 28).toList.map (fun f => (f.name, f.type, f.offset)) = [("From", 3, 0), ("Count", 3, 1), ("Text", 9, 2)] := by kernel_rfl
set_option maxRecDepth 100000 in
theorem eqlPc (e e' : Pc) (w : World) : (binOp .eql 28 (pcV e) (pcV e')).run Try.prog w = .ok (.bool (eqPB e e')) w := by
  obtain ⟨f, c, t⟩ := e
  obtain ⟨f', c', t'⟩ := e'
  have h := fields_pc
  obtain ⟨fs, hfs⟩ : ∃ fs, fs = (Try.prog.fieldsOf 28).toList := ⟨_, rfl⟩
  rw [← hfs] at h
  match fs, h with
  | [f0, f1, f2], h =>
    simp at h
    obtain ⟨⟨a0, a1, a2⟩, ⟨b0, b1, b2⟩, c0, c1, c2⟩ := h
    rw [run_eql_struct, run_equalIn_agg _ _ _ _ _ (by kernel_rfl) (by kernel_rfl), ← hfs]
    have p0 : ∀ (x y : Int) (z : ByteArray) w, (part 3 #[.int .i64 x, .int .i64 y, .string z] 0).run Try.prog w = .ok (.int .i64 x) w := fun x y z w => by rfl
    have p1 : ∀ (x y : Int) (z : ByteArray) w, (part 3 #[.int .i64 x, .int .i64 y, .string z] 1).run Try.prog w = .ok (.int .i64 y) w := fun x y z w => by rfl
    have p2 : ∀ (x y : Int) (z : ByteArray) w, (part 9 #[.int .i64 x, .int .i64 y, .string z] 2).run Try.prog w = .ok (.string z) w := fun x y z w => by rfl
    unfold eqPB
    by_cases h1 : f = f' <;> by_cases h2 : c = c' <;> by_cases h3 : t.toList = t'.toList <;>
      simp [Op.eqFields, a0, a1, a2, b0, b1, b2, c0, c1, c2, p0, p1, p2, h1, h2, h3, run_equalIn_int _ _ _ _ _ _ _ Try.underlying3, run_equalIn_string _ _ _ _ _ Try.underlying9]
theorem below_drewP {B : Nat} {a w : World} (h : Below B a w) (n : Nat) : Below B a (w.drewN n) := h.trans ⟨rfl, rfl, rfl, Nat.le_refl _, fun _ _ => rfl⟩
theorem pc_cells {w : World} {v : Value} {ls : List Pc} (h : PcsAt w v ls) : ∃ a cap, v = .slice a ls.length cap ∧ ls.length ≤ cap ∧ ∀ w', Below w.heap.size w w' → ∀ (j : Nat) e, ls[j]? = some e → ∃ bk o, a = some ⟨bk, o, none⟩ ∧ w'.cell? ⟨bk, o + j * 3, none⟩ = some (.int .i64 e.1) ∧ w'.cell? ⟨bk, o + j * 3 + 1, none⟩ = some (.int .i64 e.2.1) ∧ w'.cell? ⟨bk, o + j * 3 + 2, none⟩ = some (.string e.2.2) := by
  obtain ⟨a, cap, rfl, hcap, hl⟩ := h
  refine ⟨a, cap, rfl, hcap, fun w' hb j e he => ?_⟩
  rcases hl with rfl | ⟨bk, o, ha, hk, h⟩
  · simp at he
  · obtain ⟨g0, g1, g2⟩ := h j e he
    exact ⟨bk, o, ha, (hb.cell (p := ⟨bk, o + j * 3, none⟩) hk).trans g0, (hb.cell (p := ⟨bk, o + j * 3 + 1, none⟩) hk).trans g1, (hb.cell (p := ⟨bk, o + j * 3 + 2, none⟩) hk).trans g2⟩
set_option maxHeartbeats 2000000 in
theorem IndexPc_any (v : Value) (ls : List Pc) (e : Pc) (w : World) (h : PcsAt w v ls) (hn : ls.length ≤ 2097152) :
    Calls Try.prog 60 #[v, pcV e] w fun r w' => (∃ i : Int, r = .returned (.int .i64 i) ∧ (0 ≤ i ↔ e ∈ ls)) ∧ Below w.heap.size w w' := by
  obtain ⟨a, cap, rfl, hcap, hC⟩ := pc_cells h
  have HM : Hid (∀ k : Nat, (e ∉ ls.take k) → ∀ x, ls[k]? = some x → eqPB e x = false → e ∉ ls.take (k + 1)) := by
    intro k hk x hx hne hm
    rw [List.take_add_one, hx, List.mem_append] at hm
    rcases hm with hm | hm
    · exact hk hm
    · simp at hm
      rw [← hm] at hne
      have := (eqPB_iff e e).2 rfl
      rw [this] at hne; cases hne
  have HY : Hid (∀ (k : Nat) (x : Pc), ls[k]? = some x → eqPB e x = true → e ∈ ls) := fun k x hx h => by rw [(eqPB_iff e x).1 h]; exact List.mem_of_getElem? hx
  obtain ⟨n, hnn⟩ : ∃ n, n = ls.length := ⟨_, rfl⟩
  have HE : Hid (e ∉ ls.take n → e ∉ ls) := by intro h; rw [hnn, List.take_length] at h; exact h
  rw [← hnn] at hn hcap ⊢
  have HN := Lib.hid hnn
  have HC := Lib.hid hC
  have P0 := Lib.hid (PcB.new w e)
  have B0 := Lib.hid (below_al w (.cells #[.int .i64 e.1, .int .i64 e.2.1, .string e.2.2] 28))
  have HMem := Lib.hid (fun (i : Int) => show (0 ≤ i ↔ e ∈ ls) ↔ (0 ≤ i ↔ e ∈ ls) from Iff.rfl)
  obtain ⟨Q, hQ⟩ : ∃ Q : Prop, Q = (e ∈ ls) := ⟨_, rfl⟩
  obtain ⟨Z, hZ⟩ : ∃ Z : Nat → Prop, Z = fun k => e ∉ ls.take k := ⟨_, rfl⟩
  have HM' : Hid (∀ k : Nat, Z k → ∀ x, ls[k]? = some x → eqPB e x = false → Z (k + 1)) := by rw [hZ]; exact HM.out
  have HY' : Hid (∀ (k : Nat) (x : Pc), ls[k]? = some x → eqPB e x = true → Q) := by rw [hQ]; exact HY.out
  have HE' : Hid (Z n → ¬ Q) := by rw [hZ, hQ]; exact HE.out
  have HZ0 : Hid (Z 0) := by rw [hZ]; show e ∉ ls.take 0; simp
  rw [← hQ]
  clear h hnn hC HM HY HE hZ hQ HMem
  obtain ⟨f, c, t⟩ := e
  go_enter Try.func60, Try.ntmps60
  go_wp2_with fail
  go_loopw [8] (fun i wr => ∃ k : Nat, k ≤ n ∧ i = .int .i64 k ∧ Hid (Z k) ∧ Hid (PcB wr w.heap.size (f, c, t)) ∧ Hid (Below w.heap.size w wr)) (fun i _ => n - (intOf i).toNat)
  case atStart => exact ⟨0, Nat.zero_le _, rfl, HZ0, P0, B0⟩
  case round =>
    obtain ⟨k, hk, rfl, HZk, HP, HBr⟩ := hrel
    by_cases hlt : k < n
    · obtain ⟨x, hx⟩ : ∃ x, ls[k]? = some x := ⟨_, List.getElem?_eq_getElem (by rw [← HN.out]; exact hlt)⟩
      obtain ⟨bk, o, rfl, g0, g1, g2⟩ := HC.out wr HBr.out k x hx
      obtain ⟨p0, p1, p2⟩ := HP.out.cells
      dsimp only at p0 p1 p2
      have hcmp := fun w => eqlPc (f, c, t) x w
      have hyes := HY'.out k x hx
      have hno := HM'.out k HZk.out x hx
      obtain ⟨b, hb⟩ : ∃ b, b = eqPB (f, c, t) x := ⟨_, rfl⟩
      rw [← hb] at hcmp hyes hno
      obtain ⟨xf, xc, xt⟩ := x
      dsimp only [pcV] at hcmp g0 g1 g2
      have HYes := Lib.hid hyes
      have HNo := Lib.hid hno
      clear hx hb hyes hno HC HM' HY' HE' HZ0
      cases b
      · have HZ2 : Hid (Z (k + 1)) := HNo.out rfl
        go_wp2_with fail
        go_quiet (fail)
        go_wp2
        go_roundw
        case rel => exact ⟨k + 1, by omega, by go_num, HZ2, HP.out.below (below_drewP (Below.refl _ _) nq) HP.out.lt, below_drewP HBr.out nq⟩
        case measure => simp [intOf]; omega
      · have HQ : Hid Q := HYes.out rfl
        go_wp2_with fail
        go_quiet (fail)
        go_wp2
        go_ret
        exact ⟨⟨_, rfl, ⟨fun _ => HQ.out, fun _ => by omega⟩⟩, below_drewP HBr.out nq⟩
    · obtain rfl : k = n := by omega
      have HQ : Hid (¬ Q) := HE'.out HZk.out
      clear HC HM' HY' HE' HZ0
      go_wp2
      go_ret
      exact ⟨⟨_, rfl, ⟨fun h => absurd h (by decide), fun h => absurd h HQ.out⟩⟩, HBr.out⟩
theorem ContainsPc_any (v : Value) (ls : List Pc) (e : Pc) (w : World) (h : PcsAt w v ls) (hn : ls.length ≤ 2097152) :
    Calls Try.prog 46 #[v, pcV e] w fun r w' => (∃ b : Bool, r = .returned (.bool b) ∧ (b = true ↔ e ∈ ls)) ∧ Below w.heap.size w w' := by
  have B0 := Lib.hid (below_al w (.cells #[.int .i64 e.1, .int .i64 e.2.1, .string e.2.2] 28))
  have C := Lib.hid (fun w' hb => IndexPc_any v ls e w' (h.below (w' := w') hb) hn)
  obtain ⟨p0, p1, p2⟩ := (PcB.new w e).cells
  obtain ⟨a, cap, rfl, _, _⟩ := pc_cells h
  obtain ⟨Q, hQ⟩ : ∃ Q : Prop, Q = (e ∈ ls) := ⟨_, rfl⟩
  rw [← hQ] at C ⊢
  obtain ⟨n, hnn⟩ : ∃ n, n = ls.length := ⟨_, rfl⟩
  rw [← hnn] at C hn ⊢
  clear h hQ hnn
  obtain ⟨f, c, t⟩ := e
  go_enter Try.func46, Try.ntmps46
  go_wp2_with fail
  refine (C.out _ B0.out).mono ?_
  rintro r w1 ⟨⟨i, rfl, hi⟩, hb⟩
  have HB := Lib.hid (below_step B0.out hb)
  have HI := Lib.hid hi
  clear hb hi p0 p1 p2
  go_wp2
  go_ret
  exact ⟨⟨_, rfl, by have := HI.out; first | exact this | (rw [← this]; simp)⟩, HB.out⟩
theorem sp_any {es : List Ent} {xs : List Int} (h : sgB es xs = true) (j : Nat) (e : Pc) (b : Bool) (hb : b = true ↔ e ∈ allX es xs (j : Int)) : b = Pl.spB es xs j e := by
  obtain ⟨hok, _, _⟩ := sgB_parts h
  have h1 := Pl.spB_mem (okD_fine hok) (es := es) (xs := xs) (i := j) (p := e)
  have h2 : (e ∈ allX es xs (j : Int)) ↔ (j < xs.length ∧ e ∈ Pl.allPs es xs j) := by
    unfold allX
    by_cases hj : j < xs.length
    · rw [if_pos (by omega), Int.toNat_natCast]; exact ⟨fun h => ⟨hj, h⟩, fun h => h.2⟩
    · rw [if_neg (by omega)]; exact ⟨fun h => absurd h List.not_mem_nil, fun h => absurd h.1 hj⟩
  rw [Bool.eq_iff_iff, hb, h2, h1]
theorem sp_cnt {es : List Ent} {xs : List Int} (h : sgB es xs = true) (j : Nat) (e : Pc) (hs : Pl.spB es xs j e = true) : ∃ q : Nat, e.2.1 = (q : Int) ∧ 1 ≤ q ∧ j + q ≤ xs.length := by
  obtain ⟨hok, _, _⟩ := sgB_parts h
  obtain ⟨h1, h2⟩ := (Pl.spB_mem (okD_fine hok)).1 hs
  obtain ⟨q, h3, h4, _, h5, _⟩ := Pl.allPs_cnt h1 h2
  exact ⟨q, h3, h4, h5⟩
set_option maxHeartbeats 4000000 in
theorem IsSegmentation_any (v : Value) (es : List Ent) (u : Value) (xs : List Int) (lv : Value) (ls : List Pc) (w : World) (h : EntsAt w v es) (hu : IntsAt w u xs) (hl : PcsAt w lv ls) (hn : es.length ≤ 2097152) (hx : ∀ e ∈ es, entOk e) (hxn : xs.length ≤ 2097152) (hln : ls.length ≤ 2097152) :
    Calls Try.prog 26 #[dV v, u, lv] w fun r w' => r = .returned (.tuple #[.bool (isB es xs ls), .bool (sgB es xs)]) ∧ Below w.heap.size w w' := by
  have cm := fun w' hb => matcherOf_any v es u xs w' (h.below (w' := w') hb) (hu.below hb) hn hx hxn
  have HP := Lib.hid (fun (h : sgB es xs = true) => sgB_parts h)
  have CP := Lib.hid (fun b (f : Int) w' hb hm hok hs h60 => piecesAt_any b es u xs f w' hm hok (hu.below (w := w) hb) hs h60)
  have CC := Lib.hid (fun y ps e w' (hy : PcsAt w' y ps) hn => ContainsPc_any y ps e w' hy hn)
  have HNo := Lib.hid (fun h => isB_no (es := es) (xs := xs) (ls := ls) h)
  have HYes := Lib.hid (fun h => isB_yes (es := es) (xs := xs) (ls := ls) h)
  have HSa := Lib.hid (fun (h : sgB es xs = true) => sp_any h)
  have HSc := Lib.hid (fun (h : sgB es xs = true) => sp_cnt h)
  have HXl := Lib.hid (fun (f : Int) => show (allX es xs f).length ≤ 7 from by
    unfold allX Pl.allPs
    split
    · rw [List.length_append, List.length_singleton]; have := Pl.fdPs_len es xs f.toNat (Pl.capN xs f.toNat); unfold Pl.capN at this ⊢; omega
    · exact Nat.zero_le _)
  obtain ⟨a, cap, rfl, hcap, _⟩ := h.cells
  obtain ⟨ua, uc, rfl, huc, _⟩ := hu.cells
  obtain ⟨la, lc, rfl, hlc, hC⟩ := pc_cells hl
  have HC := Lib.hid hC
  obtain ⟨n, hnn⟩ : ∃ n, n = xs.length := ⟨_, rfl⟩
  obtain ⟨dn, hdn⟩ : ∃ n, n = es.length := ⟨_, rfl⟩
  obtain ⟨m, hmn⟩ : ∃ n, n = ls.length := ⟨_, rfl⟩
  have HM := Lib.hid hmn
  have HStep := Lib.hid (fun k p (hk : ls[k]? = some p) i => Pl.segB_drop (es := es) (xs := xs) hk i)
  have HEnd : Hid (∀ i, Pl.segB es xs i (ls.drop m) = decide ((i : Int) = (n : Int))) := by
    intro i; rw [hmn, List.drop_length, hnn]; rfl
  rw [← hnn] at cm huc HP CP HSc hxn ⊢
  unfold dV at cm ⊢
  rw [← hdn] at cm hcap ⊢
  rw [← hmn] at hlc hln ⊢
  have BX := Lib.hid (below_al w (.cells #[.slice a dn cap] 33))
  clear h hu hl hnn hdn hmn hx hn hC
  obtain ⟨bS, hbS⟩ : ∃ b, b = sgB es xs := ⟨_, rfl⟩
  obtain ⟨I, hI⟩ : ∃ b, b = isB es xs ls := ⟨_, rfl⟩
  rw [← hbS] at HP HNo HYes HSa HSc ⊢
  rw [← hI] at HNo HYes ⊢
  simp only [← hbS] at cm
  have CM := Lib.hid cm
  clear cm hbS hI
  go_enter Try.func26, Try.ntmps26
  cases bS
  · obtain rfl : I = false := HNo.out rfl
    clear HP CP CC HNo HYes HSa HSc HXl HC HM HStep HEnd
    go_wp2_with fail
    refine (CM.out _ BX.out).mono ?_
    rintro r w1 ⟨⟨mv, rfl, h1, _⟩, hb⟩
    have B1 := Lib.hid (below_step BX.out hb)
    obtain ⟨hm1, _, hm3⟩ := mt_box w1 mv (.slice ua n uc)
    have B2 := Lib.hid (below_step B1.out hm1)
    have HM3 := Lib.hid hm3
    clear hb CM hm1 hm3
    go_wp2_with (with_reducible (show wpList _ _ _ (_ :: _) _ _); refine mt_store rfl _ _ rfl w1.heap.size mv (.slice ua n uc) _ _ h1 rfl rfl rfl HM3.out ?_)
    go_ret2
    exact ⟨rfl, B2.out⟩
  · obtain ⟨hok, h60, hst⟩ := HP.out (by first | rfl | trivial)
    have hIe := HYes.out (by first | rfl | trivial)
    obtain ⟨D, hD⟩ : ∃ D : Nat → Nat → Bool, D = fun i k => Pl.segB es xs i (ls.drop k) := ⟨_, rfl⟩
    obtain ⟨Sp, hSp⟩ : ∃ Sp : Nat → Pc → Bool, Sp = fun i p => Pl.spB es xs i p := ⟨_, rfl⟩
    obtain ⟨X, hX⟩ : ∃ X : Nat → List Pc, X = fun (j : Nat) => allX es xs ((j : Nat) : Int) := ⟨_, rfl⟩
    have HI : Hid (D 0 0 = I) := by rw [hD, hIe]; rfl
    have HSt : Hid (∀ k p, ls[k]? = some p → ∀ i, D i k = (Sp i p && D (i + p.2.1.toNat) (k + 1))) := by rw [hD, hSp]; exact HStep.out
    have HEn : Hid (∀ i, D i m = decide ((i : Int) = (n : Int))) := by rw [hD]; exact HEnd.out
    have HSa1 : Hid (∀ j e (b : Bool), (b = true ↔ e ∈ X j) → b = Sp j e) := by rw [hSp, hX]; exact HSa.out (by first | rfl | trivial)
    have HSc1 : Hid (∀ j e, Sp j e = true → ∃ q : Nat, e.2.1 = (q : Int) ∧ 1 ≤ q ∧ j + q ≤ n) := by rw [hSp]; exact HSc.out (by first | rfl | trivial)
    have HXl1 : Hid (∀ j, (X j).length ≤ 2097152) := by rw [hX]; exact fun j => Nat.le_trans (HXl.out (j : Int)) (by decide)
    have CP1 : Hid (∀ b (j : Nat) w', Below w.heap.size w w' → MapB w' b es → Calls Try.prog 38 #[mtV b (.slice ua n uc), .int .i64 (j : Int)] w' fun r w'' => (∃ y, r = .returned y ∧ OwnP w'' w'.heap.size y (X j)) ∧ Below w'.heap.size w' w'') := by rw [hX]; exact fun b j w' hb hm => CP.out b (j : Int) w' hb hm hok hst h60
    clear hD hSp hX HStep HEnd HSa HSc HXl CP HP HNo HYes hIe hok hst
    go_wp2_with fail
    refine (CM.out _ BX.out).mono ?_
    rintro r w1 ⟨⟨mv, rfl, h1, hm⟩, hb⟩
    obtain ⟨b, rfl, hbb, hMb⟩ := hm (by first | rfl | trivial)
    have B1 := Lib.hid (below_step BX.out hb)
    obtain ⟨hm1, hm2, hm3⟩ := mt_box w1 (.map (some b)) (.slice ua n uc)
    have B2 := Lib.hid (below_step B1.out hm1)
    have M2 := Lib.hid (show MapB ((w1.alloc (.cells #[.map none, .slice none 0 0] 64)).setRow w1.heap.size #[.map (some b), .slice ua n uc]) b es from MapB.below hMb hm1)
    have T2 : Hid (MtB ((w1.alloc (.cells #[.map none, .slice none 0 0] 64)).setRow w1.heap.size #[.map (some b), .slice ua n uc]) w1.heap.size b (.slice ua n uc)) := hm2
    have HM3 := Lib.hid hm3
    have hw1 : w.heap.size + 1 ≤ w1.heap.size := by have := hb.size; simp at this; omega
    clear hb CM hm1 hm2 hm3 hm hMb hbb
    go_wp2_with (with_reducible (show wpList _ _ _ (_ :: _) _ _); refine mt_store rfl _ _ rfl w1.heap.size (.map (some b)) (.slice ua n uc) _ _ rfl rfl rfl rfl HM3.out ?_)
    go_loopw [10, 23] (fun x i wr => ∃ (k j : Nat), i = .int .i64 k ∧ x = .int .i64 j ∧ k ≤ m ∧ j ≤ n ∧ Hid (D j k = I) ∧ Hid (MtB wr w1.heap.size b (.slice ua n uc)) ∧ Hid (MapB wr b es) ∧ Hid (Below w.heap.size w wr)) (fun _ i _ => m - (intOf i).toNat)
    case atStart => exact ⟨0, 0, rfl, rfl, Nat.zero_le _, Nat.zero_le _, HI, T2, M2, B2⟩
    case round =>
      obtain ⟨k, j, rfl, rfl, hk, hj, HDk, HT, HMp, HBr⟩ := hrel
      by_cases hlt : k < m
      · obtain ⟨e, he⟩ : ∃ e, ls[k]? = some e := ⟨_, List.getElem?_eq_getElem (by rw [← HM.out]; exact hlt)⟩
        obtain ⟨bk, o, rfl, g0, g1, g2⟩ := HC.out wr HBr.out k e he
        have hst := HSt.out k e he j
        rw [HDk.out] at hst
        have hsa := HSa1.out j e
        have hsc := HSc1.out j e
        obtain ⟨S1, hS1⟩ : ∃ b, b = Sp j e := ⟨_, rfl⟩
        rw [← hS1] at hst hsa hsc
        have HSt1 := Lib.hid hst
        have HSa2 := Lib.hid hsa
        have HSc2 := Lib.hid hsc
        obtain ⟨f, c, t⟩ := e
        have hal := below_al wr (.cells #[.int .i64 f, .int .i64 c, .string t] 28)
        have HBl := Lib.hid (below_step HBr.out hal)
        have TBl : Hid (MtB (wr.alloc (.cells #[.int .i64 f, .int .i64 c, .string t] 28)) w1.heap.size b (.slice ua n uc)) := HT.out.below hal HT.out.lt
        have MBl : Hid (MapB (wr.alloc (.cells #[.int .i64 f, .int .i64 c, .string t] 28)) b es) := MapB.below HMp.out hal
        have PBl := Lib.hid (show PcB (wr.alloc (.cells #[.int .i64 f, .int .i64 c, .string t] 28)) wr.heap.size (f, c, t) from PcB.new wr (f, c, t))
        obtain ⟨W, hW⟩ : ∃ W, W = wr.alloc (.cells #[.int .i64 f, .int .i64 c, .string t] 28) := ⟨_, rfl⟩
        have HWr := Lib.hid hW
        rw [← hW] at HBl TBl MBl PBl
        have CP2 := Lib.hid (fun w' hb hm => CP1.out b j w' hb hm)
        have hxl := HXl1.out j
        have CC1 := Lib.hid (fun y w' hy => CC.out y (X j) (f, c, t) w' hy hxl)
        obtain ⟨Xj, hXj⟩ : ∃ x, x = X j := ⟨_, rfl⟩
        rw [← hXj] at CP2 CC1 HSa2
        dsimp only [pcV] at g0 g1 g2 CC1
        have k0 := cell_regrown TBl.out.cells.1
        have k1 := cell_regrown TBl.out.cells.2
        have k2 := cell_regrown PBl.out.cells.1
        have k3 := cell_regrown PBl.out.cells.2.1
        have k4 := cell_regrown PBl.out.cells.2.2
        have hWs : W.heap.size = wr.heap.size + 1 := by rw [hW, World.size_alloc]
        have HWs := Lib.hid hWs
        clear hst hsa hsc hS1 he hal HT HMp HBr HC HSt HI HSa1 HSc1 HXl1 CP1 CC hXj hxl T2 M2 B2 B1 BX HM3 hW hWs
        go_wp2_with fail
        rw [← HWr.out]
        refine Mx.wp_region_mixed (Mx.ofL [(0, 1), (1, 0), (3, 1), (2, 2), (4, 3), (5, 0)] .done) (by kernel_rfl) (by kernel_rfl) ?_
        repeat ((first | refine Mx.mix0 rfl ?_ | refine Mx.mix1 rfl ?_); go_big_quiet_step (fail); refine wpQuiet_nil ?_)
        refine Mx.mix2 rfl ?_
        have hd : Below W.heap.size W W.drew := below_drewN (Below.refl _ _) 1
        go_wp2_with fail
        refine (CP2.out _ (below_step HBl.out hd) (MapB.below MBl.out hd)).mono ?_
        rintro r w3 ⟨⟨y, rfl, hy⟩, hb'⟩
        have hb := below_step hd hb'
        have G3 := Lib.hid hb
        have HG := Lib.hid (regrown_of_below hb)
        have Y3 := Lib.hid (ownP_at hy)
        clear hb hb' hd hy k0 k1 k2 k3 k4 CP2
        go_wp2
        refine Mx.mid_normal (fun _ => HG.out) ?_
        refine Mx.mix3 rfl ?_
        go_wp2_with fail
        refine (CC1.out _ w3 Y3.out).mono ?_
        rintro r w4 ⟨⟨d, rfl, hd⟩, hb⟩
        obtain rfl : d = S1 := HSa2.out d hd
        have hb4 := below_step G3.out hb
        have T4 := Lib.hid (TBl.out.below hb4 TBl.out.lt)
        have M4 := Lib.hid (show MapB w4 b es from MapB.below MBl.out hb4)
        have P4 := Lib.hid (PBl.out.below hb4 PBl.out.lt)
        have B4 := Lib.hid (below_step HBl.out hb4)
        obtain ⟨p0, p1, p2⟩ := P4.out.cells
        dsimp only at p0 p1 p2
        clear hb hb4 hd G3 HG Y3 TBl MBl PBl HBl CC1 HSa2 P4
        go_wp2
        refine Mx.mid_normal (fun q => by cases q) ?_
        repeat ((first | refine Mx.mix0 rfl ?_ | refine Mx.mix1 rfl ?_); go_big_quiet_step (fail); refine wpQuiet_nil ?_)
        refine Mx.mix_nil ?_
        cases d
        · have HF : Hid (I = false) := by rw [HSt1.out]; rfl
          clear HSt1 HSc2 HEn
          go_wp2
          go_ret2
          exact ⟨by first | (rw [HF.out]; done) | (rw [HF.out]; rfl), B4.out⟩
        · obtain ⟨q, hq, hq1, hqn⟩ := HSc2.out rfl
          try dsimp only at hq
          subst hq
          have HN : Hid (D (j + q) (k + 1) = I) := by rw [HSt1.out]; rfl
          clear HSt1 HSc2 HEn
          go_wp2
          go_roundw
          case rel => exact ⟨k + 1, j + q, by go_num, by go_num, by omega, by omega, HN, T4, M4, B4⟩
          case measure => simp [intOf]; omega
      · obtain rfl : k = m := by omega
        have HF : Hid (I = decide ((j : Int) = (n : Int))) := by rw [← HEn.out j]; exact HDk.out.symm
        clear HC HSt HEn HSa1 HSc1 HXl1 HDk CP1 CC
        go_wp2
        go_ret2
        exact ⟨by first | (rw [HF.out]; done) | (rw [HF.out]; rfl), HBr.out⟩
end Go.Proofs.Ythigdblloddepaa
