/-
  CONTRACTS of chapter 6 of the specification: FormatDictionary.
-/
import Derived.Test.YtcpjpjdfddmncaaDictC
namespace Go.Proofs.Ytcpjpjdfddmncaa
set_option maxRecDepth 100000
open Go.RowKit

/-- What FormatDictionary answers. -/
def fmtDB (es : List Ent) : Bool := okD es && decide ((dicT es).size ≤ 4000)
def fmtDS (es : List Ent) : ByteArray := if fmtDB es = true then dicT es else ⟨#[]⟩
def fmtDE (es : List Ent) : Ending := .returned (.tuple #[.string (fmtDS es), .bool (fmtDB es)])
theorem fmtDE_no {es : List Ent} (h : fmtDB es = false) : fmtDE es = .returned (.tuple #[.string ⟨#[]⟩, .bool false]) := by unfold fmtDE fmtDS; rw [h]; rfl
theorem fmtDE_yes {es : List Ent} (h : fmtDB es = true) : fmtDE es = .returned (.tuple #[.string (dicT es), .bool true]) := by unfold fmtDE fmtDS; rw [h]; rfl
theorem fmtDB_bad {es : List Ent} (h : okD es = false) : fmtDB es = false := by unfold fmtDB; rw [h]; rfl
theorem fmtDB_big {es : List Ent} (h : 4000 < (dicT es).size) : fmtDB es = false := by unfold fmtDB; rw [decide_eq_false (by omega), Bool.and_false]
theorem fmtDB_ok {es : List Ent} (h : okD es = true) (h2 : (dicT es).size ≤ 4000) : fmtDB es = true := by unfold fmtDB; rw [h, decide_eq_true h2]; rfl
theorem dicT_size {es : List Ent} (h : ∀ e ∈ es, okE e = true) : (dicT es).size ≤ 212 * es.length := by
  have key : ∀ k, k ≤ es.length → (dicT (es.take k)).size ≤ 212 * k := by
    intro k
    induction k with
    | zero => intro _; exact Nat.le_refl _
    | succ k ih =>
      intro hk
      obtain ⟨e, he⟩ : ∃ e, es[k]? = some e := ⟨_, List.getElem?_eq_getElem (by omega)⟩
      have h1 := ih (by omega)
      have h2 := lineT_size (h e (List.mem_of_getElem? he))
      have h3 := dicT_next he
      rw [← h3]
      unfold lineT at h2
      simp only [ByteArray.size_append] at h2 ⊢
      omega
  have := key es.length (Nat.le_refl _)
  rwa [List.take_length] at this
theorem specFormatDictionary_any (v : Value) (es : List Ent) (w : World) (h : EntsAt w v es) (hn : es.length ≤ 2097152) (hx : ∀ e ∈ es, entOk e) :
    Calls Try.prog 36 #[dV v] w fun r w' => r = fmtDE es ∧ Below w.heap.size w w' := by
  have c := fun w' hb => l6Good_any v es w' (h.below (w' := w') hb) hn hx
  have hE := h
  obtain ⟨a, cap, rfl, hcap, _⟩ := h.cells
  cases hg : okD es
  · rw [hg] at c
    rw [fmtDE_no (fmtDB_bad hg)]
    have C := Lib.hid c
    clear c h hx hg hE
    unfold dV at C ⊢
    go_enter Try.func36, Try.ntmps36
    go_wp2_with fail
    refine (C.out _ (below_al _ _)).mono ?_
    rintro r w1 ⟨rfl, hb⟩
    have HB := Lib.hid (below_box hb)
    clear hb
    go_wp2
    go_ret2
    exact ⟨rfl, HB.out⟩
  · rw [hg] at c
    obtain ⟨h40, hoks, _⟩ := okD_parts hg
    have hts := dicT_size hoks
    have HD := Lib.hid (fun w' hb => l6Text_any (.slice a es.length cap) es w' (hE.below hb) (by omega) hoks)
    have HBig := Lib.hid (fun h => fmtDE_no (fmtDB_big (es := es) h))
    have HOk := Lib.hid (fun h => fmtDE_yes (fmtDB_ok hg h))
    obtain ⟨R, hR⟩ : ∃ R, R = fmtDE es := ⟨_, rfl⟩
    obtain ⟨T, hT⟩ : ∃ T, T = dicT es := ⟨_, rfl⟩
    rw [← hR, ← hT] at HBig HOk
    rw [← hT] at HD hts
    rw [← hR]
    have C := Lib.hid c
    clear c h hx hg hE hoks hR hT
    unfold dV at C HD ⊢
    go_enter Try.func36, Try.ntmps36
    go_wp2_with fail
    refine (C.out _ (below_al _ _)).mono ?_
    rintro r w1 ⟨rfl, hb⟩
    have D1 := Lib.hid (HD.out w1 (below_box hb))
    have hbox := box1 hb
    have HB := Lib.hid (below_box hb)
    clear hb HD C
    go_wp2_with fail
    refine D1.out.mono ?_
    rintro r w2 ⟨rfl, hb2⟩
    have HB2 := Lib.hid (below_step HB.out hb2)
    clear hb2 D1
    by_cases h4 : 4000 < T.size
    · have HF := Lib.hid (HBig.out h4)
      clear HBig HOk
      go_wp2
      go_ret2
      exact ⟨HF.out.symm, HB2.out⟩
    · have HF := Lib.hid (HOk.out (by omega))
      clear HBig HOk
      go_wp2
      go_ret2
      exact ⟨HF.out.symm, HB2.out⟩
end Go.Proofs.Ytcpjpjdfddmncaa
