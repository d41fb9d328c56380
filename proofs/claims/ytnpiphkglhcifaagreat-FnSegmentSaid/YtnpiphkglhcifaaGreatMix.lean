/-
  A REGION THAT DRAWS ITS ORDER, of reads and of a chain of other operations: walked once, in the order of the text. The reads may be of memory that is not touched ahead of the chain's last operations. Nothing of the program stands here.
-/
import Derived.OrdersHeld
import Derived.Lib.QuietBelow
import Derived.BigQuiet
namespace Go.Proofs.YtnpiphkglhcifaaGreat.Mx
set_option maxRecDepth 100000
open Go

/-- Operations that read or reckon, and never enter a function. -/
def calm (o : Oper) : Bool := match o.op with
  | .move _ => true | .assign _ => true | .build _ _ => true | .load _ _ => true | .binOp _ _ _ _ _ => true | .unOp _ _ _ => true | .convert _ _ _ => true
  | .field _ _ _ => true | .fieldAddr _ _ _ => true | .index _ _ _ => true | .indexAddr _ _ _ => true | .slice _ _ _ _ _ => true | .extract _ _ => true
  | .call c => (match c.callee with | .builtin .len => true | _ => false) | _ => false
theorem run_v (P : Program) (s : Sem Value) (w : World) : (do pure (Next.value (← s)) : Sem Next).run P w = (s.run P w).andThen fun a w' => .ok (.value a) w' := by
  simp only [Sem.run_bind, Sem.run_pure]
theorem quiet_v {P : Program} {C : World → Prop} {v : Value} {s : Sem Value} {w : World} (h : Oper.quietUpon P C w v ((do pure (Next.value (← s)) : Sem Next).run P w)) : (do pure (Next.value (← s)) : Sem Next).run P w = .ok (.value v) w := by
  rw [run_v] at h ⊢
  cases hs : s.run P w with
  | ok x w' =>
    rw [hs] at h
    obtain ⟨h1, h2⟩ : w' = w ∧ x = v := h
    subst h1 h2
    rfl
  | halt x w' => rw [hs] at h; exact (h : False).elim
theorem calm_value {P : Program} {C : World → Prop} {v : Value} {o : Oper} {ρ : Operand → Value} {w : World} (hc : calm o = true) (h : Oper.quietUpon P C w v ((execOp ρ o).run P w)) : (execOp ρ o).run P w = .ok (.value v) w := by
  obtain ⟨dst, op, ty, pos, after, guard⟩ := o
  by_cases hcall : ∃ c, op = .call c
  · obtain ⟨c, rfl⟩ := hcall
    obtain ⟨callee, args, ats⟩ := c
    cases callee with
    | builtin b =>
      cases b <;> first
        | (exact Bool.noConfusion (hc : false = true))
        | (exact quiet_v h)
        | (simp only [execOp, resolve, invoke, Sem.run_bind, Sem.run_pure, Result.andThen] at h ⊢; exact quiet_v h)
    | _ => exact Bool.noConfusion (hc : false = true)
  cases op <;> first | (exact absurd ⟨_, rfl⟩ hcall) | (exact quiet_v h) | (exact Bool.noConfusion (hc : false = true)) | (obtain ⟨h1, h2⟩ : w = w ∧ _ = v := h; subst h2; rfl)

section
variable {P : Program} {ops : Array Oper} {Q : Exit → Act → World → Prop} {md : Region.Mode} {S : World → Prop} {tl : Nat → Bool}
/-- Does operation t wait for i, by way of others too? -/
def reachB (md : Region.Mode) (ops : Array Oper) : Nat → Nat → Nat → Bool
  | 0, _, _ => false
  | f + 1, t, i => match ops[t]? with
    | some o => o.after.toList.any fun e => Region.binds md e && (e.on == i || reachB md ops f e.on i)
    | none => false
/-- What has come up has had its forerunners come up. -/
def Closed (md : Region.Mode) (ops : Array Oper) (listed : Array Bool) : Prop := ∀ j oj, ops[j]? = some oj → listed.getD j false = true → ∀ e ∈ oj.after, Region.binds md e = true → listed.getD e.on false = true
theorem reach_spec {listed : Array Bool} (hc : Closed md ops listed) {i : Nat} : ∀ (f t : Nat) (o : Oper), ops[t]? = some o → (∀ e ∈ o.after, Region.binds md e = true → listed.getD e.on false = true) → reachB md ops f t i = true → listed.getD i false = true
  | 0, _, _, _, _, h => by unfold reachB at h; cases h
  | f + 1, t, o, ho, ha, h => by
    unfold reachB at h
    rw [ho] at h
    obtain ⟨e, he, hb⟩ := List.any_eq_true.1 h
    rw [Bool.and_eq_true, Bool.or_eq_true] at hb
    have hl := ha e (by simpa using he) hb.1
    rcases hb.2 with h1 | h1
    · rw [← beq_iff_eq.1 h1]; exact hl
    · cases ho' : ops[e.on]? with
      | none =>
        cases f with
        | zero => unfold reachB at h1; cases h1
        | succ f => unfold reachB at h1; rw [ho'] at h1; cases h1
      | some o' => exact reach_spec hc f e.on o' ho' (fun e' he' hb' => hc e.on o' ho' hl e' he' hb') h1
theorem Closed.set {i : Nat} {listed : Array Bool} (hc : Closed md ops listed) (hi : i ∈ Region.ready md ops listed) : Closed md ops (listed.setIfInBounds i true) := by
  obtain ⟨_, oi, hoi, hall⟩ := mem_ready.1 hi
  intro j oj hj hl e he hb
  by_cases hij : i = j
  · subst hij
    have : oj = oi := Option.some.inj (hj.symm.trans hoi)
    subst this
    exact getD_set_true (hall e he hb)
  · rw [getD_set_ne false hij] at hl
    exact getD_set_true (hc j oj hj hl e he hb)
/-- Whatever order is picked; whoever is not of the tail keeps S. -/
def wpAnyG (P : Program) (md : Region.Mode) (ops : Array Oper) (Q : Exit → Act → World → Prop) (S : World → Prop) (tl : Nat → Bool) : Nat → Array Bool → Act → World → Prop
  | 0, listed, a, w => Region.ready md ops listed = [] ∧ Q .normal a w
  | fuel + 1, listed, a, w => (Region.ready md ops listed = [] → Q .normal a w) ∧
    ∀ i ∈ Region.ready md ops listed, wpOp P ops Q i (fun a' w' => (tl i = false → S w → S w') ∧ wpAnyG P md ops Q S tl fuel (listed.setIfInBounds i true) a' w') a w
theorem wpAny_of_G : ∀ (fuel : Nat) (listed : Array Bool) (a : Act) (w : World), wpAnyG P md ops Q S tl fuel listed a w → wpAny P md ops Q fuel listed a w
  | 0, _, _, _, h => h
  | fuel + 1, _, _, _, h => ⟨h.1, fun i hi => wpOp_mono (fun a' w' h' => wpAny_of_G fuel _ a' w' h'.2) (h.2 i hi)⟩
theorem wpAnyG_first {i : Nat} {oi : Oper} {v : Value} (b1 : Bool) (hr1 : b1 = true → ∀ t, tl t = true → reachB md ops ops.size t i = true) (hi : ops[i]? = some oi) (hsel : ∀ (j : Nat) (o : Oper) cs b, ops[j]? = some o → o.op ≠ .select cs b)
    (hQ : ∀ c a w, Q (.panic c) (a.put oi.dst v) w → Q (.panic c) a w) :
    ∀ (fuel : Nat) (listed : Array Bool) (a : Act) (w : World), Closed md ops listed →
      (∀ j oj, ops[j]? = some oj → j ≠ i → listed.getD j true = false → (∀ e ∈ oj.after, Region.binds md e = true → e.on ≠ i) → oi.apart ops oj = true) →
      i ∈ Region.ready md ops listed → YieldsIf P ops (fun w => b1 = true → S w) oi v a → (b1 = true → S w) →
      wpAnyG P md ops Q S tl fuel (listed.setIfInBounds i true) (a.put oi.dst v) w → wpAnyG P md ops Q S tl (fuel + 1) listed a w := by
  intro fuel
  induction fuel with
  | zero =>
    intro listed a w _ _ hr hy hS H
    refine ⟨fun h => (by rw [h] at hr; cases hr), fun j hj => ?_⟩
    by_cases hji : j = i
    · subst hji; exact hy.wpOp hi hS ⟨fun _ h => h, H⟩
    · have := ready_mono hj hji
      rw [H.1] at this
      cases this
  | succ fuel ih =>
    intro listed a w hcl hfree hr hy hS H
    refine ⟨fun h => (by rw [h] at hr; cases hr), fun j hj => ?_⟩
    by_cases hji : j = i
    · subst hji; exact hy.wpOp hi hS ⟨fun _ h => h, H⟩
    · have h1 := H.2 j (ready_mono hj hji)
      obtain ⟨hjun, oj, hoj, hall⟩ := mem_ready.1 hj
      have hiun := (mem_ready.1 hr).1
      have hnl : listed.getD i false = false := by
        rcases Nat.lt_or_ge i listed.size with h' | h'
        · simp [h'] at hiun ⊢; exact hiun
        · simp [Array.getElem?_eq_none h']
      have hnot : ∀ e ∈ oj.after, Region.binds md e = true → e.on ≠ i := fun e he hb heq => by
        have h1 := hall e he hb
        rw [heq, hnl] at h1; cases h1
      have htl : b1 = true → tl j = false := fun hb => by
        cases ht : tl j with
        | false => rfl
        | true =>
          have := reach_spec hcl ops.size j oj hoj hall (hr1 hb j ht)
          rw [hnl] at this; cases this
      have h2 := wpOp_putIf hoj (hfree j oj hoj hji hjun hnot) (fun cs b => hsel i oi cs b hi) (fun cs b => hsel j oj cs b hoj) hQ hy h1
      have hfree' : ∀ k ok, ops[k]? = some ok → k ≠ i → (listed.setIfInBounds j true).getD k true = false →
          (∀ e ∈ ok.after, Region.binds md e = true → e.on ≠ i) → oi.apart ops ok = true := fun k ok hk hki hun hno => by
        refine hfree k ok hk hki ?_ hno
        by_cases hjk : j = k
        · subst hjk; exact hjun
        · rw [getD_set_ne true hjk] at hun; exact hun
      refine wpOp_mono (fun a' w' h3 => ⟨h3.2.1, ih (listed.setIfInBounds j true) a' w' (hcl.set hj) hfree' (ready_mono hr (Ne.symm hji)) h3.1 (fun hb => h3.2.1 (htl hb) (hS hb)) ?_⟩) h2
      rw [Array.setIfInBounds_comm _ _ hji]
      exact h3.2.2

/-- What follows behind one operation of the chain. -/
def Mid (S : World → Prop) (k2 : Bool) (next : Act → World → Prop) (Q : Exit → Act → World → Prop) : Exit → Act → World → Prop
  | .normal, a, w => (k2 = true → S w) ∧ next a w
  | .exit i, a, w => Q (.exit i) a w
  | .goto l, a, w => Q (.goto l) a w
  | .ret, a, w => Q .ret a w
  | .panic c, a, w => Q (.panic c) a w
  | .outgrown, a, w => Q .outgrown a w
/-- At a panic, False. -/
def NoPan (Q : Exit → Act → World → Prop) : Exit → Act → World → Prop
  | .panic _, _, _ => False
  | .normal, a, w => Q .normal a w
  | .exit i, a, w => Q (.exit i) a w
  | .goto l, a, w => Q (.goto l) a w
  | .ret, a, w => Q .ret a w
  | .outgrown, a, w => Q .outgrown a w
/-- In which order: numbers of operations with their kinds: 0: it yields in whatever world; 1: in every world of S; 2: of the chain, it keeps S; else: of the chain's tail. A fork: either of two may come up. -/
inductive Walk where
  | done
  | step (k kd : Nat) (r : Walk)
  | fork (k1 kd1 : Nat) (r1 : Walk) (k2 kd2 : Nat) (r2 : Walk)
def ofL : List (Nat × Nat) → Walk → Walk
  | [], r => r
  | (k, kd) :: l, r => .step k kd (ofL l r)
/-- How many steps. -/
def Walk.len : Walk → Nat
  | .done => 0
  | .step _ _ r => r.len + 1
  | .fork _ _ r1 _ _ _ => r1.len + 1
/-- Does a read of S stand ahead? -/
def Walk.reads : Walk → Bool
  | .done => false
  | .step _ kd r => kd == 1 || r.reads
  | .fork _ _ r1 _ _ r2 => r1.reads || r2.reads
/-- THE WALK. -/
def wpMix (P : Program) (l : List Oper) (Q : Exit → Act → World → Prop) (S : World → Prop) : Walk → Act → World → Prop
  | .done, a, w => Q .normal a w
  | .step k kd r, a, w => match l[k]? with
    | none => False
    | some o => match kd with
      | 0 => wpQuiet P l.toArray (fun _ => True) (fun a' => wpMix P l Q S r a' w) [o] a
      | 1 => wpQuiet P l.toArray S (fun a' => wpMix P l Q S r a' w) [o] a
      | 2 => wpList P l.toArray (Mid S true (wpMix P l Q S r) Q) [o] a w
      | _ => wpList P l.toArray (Mid S false (wpMix P l Q S r) Q) [o] a w
  | .fork k1 kd1 r1 k2 kd2 r2, a, w => (match l[k1]? with
    | none => False
    | some o => wpList P l.toArray (Mid S (kd1 == 2) (wpMix P l Q S r1) Q) [o] a w) ∧
    (match l[k2]? with
    | none => False
    | some o => wpList P l.toArray (Mid S (kd2 == 2) (wpMix P l Q S r2) Q) [o] a w)
section
variable {l : List Oper} {r r2 : Walk} {k k2 kd1 kd2 : Nat} {o o2 : Oper} {a : Act} {w : World}
theorem mix0 (hk : l[k]? = some o) (h : wpQuiet P l.toArray (fun _ => True) (fun a' => wpMix P l Q S r a' w) [o] a) : wpMix P l Q S (.step k 0 r) a w := by unfold wpMix; rw [hk]; exact h
theorem mix1 (hk : l[k]? = some o) (h : wpQuiet P l.toArray S (fun a' => wpMix P l Q S r a' w) [o] a) : wpMix P l Q S (.step k 1 r) a w := by unfold wpMix; rw [hk]; exact h
theorem mix2 (hk : l[k]? = some o) (h : wpList P l.toArray (Mid S true (wpMix P l Q S r) Q) [o] a w) : wpMix P l Q S (.step k 2 r) a w := by unfold wpMix; rw [hk]; exact h
theorem mix3 (hk : l[k]? = some o) (h : wpList P l.toArray (Mid S false (wpMix P l Q S r) Q) [o] a w) : wpMix P l Q S (.step k 3 r) a w := by unfold wpMix; rw [hk]; exact h
theorem mixF (hk : l[k]? = some o) (hk2 : l[k2]? = some o2) (h : wpList P l.toArray (Mid S (kd1 == 2) (wpMix P l Q S r) Q) [o] a w) (h2 : wpList P l.toArray (Mid S (kd2 == 2) (wpMix P l Q S r2) Q) [o2] a w) : wpMix P l Q S (.fork k kd1 r k2 kd2 r2) a w := by
  unfold wpMix; rw [hk, hk2]; exact ⟨h, h2⟩
theorem mix_nil (h : Q .normal a w) : wpMix P l (NoPan Q) S .done a w := h
end
theorem mid_normal {k2 : Bool} {next : Act → World → Prop} {a : Act} {w : World} (h : k2 = true → S w) (hn : next a w) : Mid S k2 next Q .normal a w := ⟨h, hn⟩
theorem mid_letsOut {k2 : Bool} {next : Act → World → Prop} (h : LetsOut (Mid S k2 next Q)) : LetsOut Q := let ⟨a, w, q⟩ := h; ⟨a, w, q⟩
theorem wp_of_mid {o : Oper} {a : Act} {w : World} {k2 : Bool} {next K : Act → World → Prop} (hh : o.wp P a w K (Mid S k2 next Q)) : o.wp P a w K Q := by
  unfold Oper.wp at *
  generalize (execOp a.eval o).run P w = r at *
  cases r with
  | ok n w' =>
    cases n <;> simp only [Oper.upon] at hh ⊢ <;>
      first
        | exact hh
        | exact Calls.mono hh (fun e w'' he => by cases e <;> first | exact he | exact mid_letsOut he)
  | halt x w' => cases x <;> simp only [Oper.upon] at hh ⊢ <;> exact hh
theorem op_of_mid {o : Oper} {k : Nat} {a : Act} {w : World} {k2 : Bool} {next : Act → World → Prop} (hk : ops[k]? = some o) (h : wpList P ops (Mid S k2 next Q) [o] a w) : wpOp P ops Q k (fun a' w' => (k2 = true → S w') ∧ next a' w') a w := by
  unfold wpList at h
  unfold wpOp
  simp only [hk]
  split at h
  · rename_i hw
    rw [if_pos hw]
    rcases h with h | ⟨h1, h2⟩
    · exact .inl (wp_of_mid h)
    · exact .inr ⟨h1, mid_letsOut h2⟩
  · rename_i hw
    rw [if_neg hw]
    exact h
theorem quiet_one {C : World → Prop} {o : Oper} {a : Act} {next : Act → Prop} (hc : calm o = true) (h : wpQuiet P ops C next [o] a) : ∃ v, YieldsIf P ops C o v a ∧ next (a.put o.dst v) := by
  unfold wpQuiet at h
  split at h
  · rename_i hw
    obtain ⟨v, h1, h2⟩ := h
    exact ⟨v, .inl ⟨hw, fun w hw' => calm_value hc (h1 w hw')⟩, h2⟩
  · rename_i hw
    exact ⟨undef, .inr ⟨by simpa using hw, rfl⟩, h⟩
/-- Which operations are the chain's tail. -/
def tlOf : Walk → Nat → Bool
  | .done, _ => false
  | .step k kd r, t => (k == t && decide (3 ≤ kd)) || tlOf r t
  | .fork k1 kd1 r1 k2 kd2 r2, t => (k1 == t && decide (3 ≤ kd1)) || (k2 == t && decide (3 ≤ kd2)) || tlOf r1 t || tlOf r2 t
def lexM (md : Region.Mode) (ops : Array Oper) (tl : Nat → Bool) : Walk → Array Bool → Bool
  | .done, listed => (Region.ready md ops listed).isEmpty
  | .step k kd r, listed =>
    (if kd ≤ 1 then (Region.ready md ops listed).contains k && Region.free md ops listed k && ((ops[k]?).map calm).getD false && (kd == 0 || (List.range ops.size).all fun t => !tl t || reachB md ops ops.size t k)
     else decide (Region.ready md ops listed = [k]) && (tl k == decide (3 ≤ kd)) && (kd == 2 || !r.reads)) && lexM md ops tl r (listed.setIfInBounds k true)
  | .fork k1 kd1 r1 k2 kd2 r2, listed => decide (Region.ready md ops listed = [k1, k2]) && decide (2 ≤ kd1) && decide (2 ≤ kd2) && (tl k1 == decide (3 ≤ kd1)) && (tl k2 == decide (3 ≤ kd2)) && (kd1 == 2 || !r1.reads) && (kd2 == 2 || !r2.reads) && decide (r1.len = r2.len) &&
    lexM md ops tl r1 (listed.setIfInBounds k1 true) && lexM md ops tl r2 (listed.setIfInBounds k2 true)
def mixB (md : Region.Mode) (ops : Array Oper) (wk : Walk) : Bool := Region.noSelect ops && decide (wk.len = ops.size) && lexM md ops (fun t => decide (t < ops.size) && tlOf wk t) wk (Array.replicate ops.size false)
theorem wpAnyG_lex {l : List Oper} {tl : Nat → Bool} (hsel : Region.noSelect l.toArray = true) (hfl : ∀ t, tl t = true → t < l.toArray.size) (hQ : ∀ c a d v w, Q (.panic c) (a.put d v) w → Q (.panic c) a w) :
    ∀ (wk : Walk) (listed : Array Bool) (a : Act) (w : World), Closed md l.toArray listed → lexM md l.toArray tl wk listed = true → (wk.reads = true → S w) →
      wpMix P l Q S wk a w → wpAnyG P md l.toArray Q S tl wk.len listed a w := by
  -- one operation of the chain
  have chain : ∀ (k kd : Nat) (r : Walk) (o : Oper) (listed : Array Bool) (a : Act) (w : World), (∀ (listed : Array Bool) (a : Act) (w : World), Closed md l.toArray listed → lexM md l.toArray tl r listed = true → (r.reads = true → S w) → wpMix P l Q S r a w → wpAnyG P md l.toArray Q S tl r.len listed a w) →
      l.toArray[k]? = some o → Closed md l.toArray listed → k ∈ Region.ready md l.toArray listed → 2 ≤ kd → (tl k == decide (3 ≤ kd)) = true → (kd == 2 || !r.reads) = true → lexM md l.toArray tl r (listed.setIfInBounds k true) = true →
      wpList P l.toArray (Mid S (kd == 2) (wpMix P l Q S r) Q) [o] a w → wpOp P l.toArray Q k (fun a' w' => (tl k = false → S w → S w') ∧ wpAnyG P md l.toArray Q S tl r.len (listed.setIfInBounds k true) a' w') a w := by
    intro k kd r o listed a w ih h0 hcl hr h2 htl hrd hB hw
    refine wpOp_mono (fun a' w' ⟨hm, hn⟩ => ⟨fun ht _ => ?_, ih _ a' w' (hcl.set hr) hB (fun hq => ?_) hn⟩) (op_of_mid h0 hw)
    · have h5 := beq_iff_eq.1 htl
      rw [ht] at h5
      exact hm (beq_iff_eq.2 (by have := of_decide_eq_false h5.symm; omega))
    · rw [hq, Bool.not_true, Bool.or_false] at hrd
      exact hm hrd
  intro wk
  induction wk with
  | done => intro listed a w _ hB _ h; exact ⟨by simpa [lexM] using hB, h⟩
  | step k kd r ih =>
    intro listed a w hcl hB hS h
    unfold wpMix at h
    cases hlk : l[k]? with
    | none => rw [hlk] at h; exact h.elim
    | some o =>
    rw [hlk] at h
    simp only at h
    have h0 : l.toArray[k]? = some o := by simpa using hlk
    unfold lexM at hB
    rw [Bool.and_eq_true] at hB
    obtain ⟨hB1, hB2⟩ := hB
    by_cases hkd : kd ≤ 1
    · rw [if_pos hkd] at hB1
      simp only [Bool.and_eq_true, h0, Option.map_some, Option.getD_some] at hB1
      obtain ⟨⟨⟨hr, hf⟩, hcalm⟩, hreach⟩ := hB1
      have hr' : k ∈ Region.ready md l.toArray listed := by simpa using hr
      have key : ∀ (b1 : Bool), (b1 = true → kd = 1) → (∃ v, YieldsIf P l.toArray (fun w => b1 = true → S w) o v a ∧ wpMix P l Q S r (a.put o.dst v) w) → wpAnyG P md l.toArray Q S tl (r.len + 1) listed a w := by
        intro b1 hb1 ⟨v, hy, hK⟩
        have hS1 : b1 = true → S w := fun hb => hS (by unfold Walk.reads; rw [hb1 hb]; rfl)
        refine wpAnyG_first b1 (fun hb t ht => ?_) h0 (Region.noSelect_spec hsel) (fun c a w => hQ c a o.dst v w) r.len listed a w hcl (Region.free_spec h0 hf) hr' hy hS1
          (ih _ _ w (hcl.set hr') hB2 (fun hq => hS (by unfold Walk.reads; rw [hq, Bool.or_true])) hK)
        have htl := hfl t ht
        rw [hb1 hb] at hreach
        have := List.all_eq_true.1 (show (List.range l.toArray.size).all (fun t => !tl t || reachB md l.toArray l.toArray.size t k) = true by simpa using hreach) t (List.mem_range.2 htl)
        rw [ht] at this
        simpa using this
      match kd, hkd, h with
      | 0, _, h =>
        obtain ⟨v, hy, hK⟩ := quiet_one hcalm h
        exact key false (fun q => by cases q) ⟨v, hy.imp (fun ⟨x, y⟩ => ⟨x, fun w _ => y w trivial⟩) id, hK⟩
      | 1, _, h =>
        obtain ⟨v, hy, hK⟩ := quiet_one hcalm h
        exact key true (fun _ => rfl) ⟨v, hy.imp (fun ⟨x, y⟩ => ⟨x, fun w hw => y w (hw rfl)⟩) id, hK⟩
    · rw [if_neg hkd, Bool.and_eq_true, Bool.and_eq_true, decide_eq_true_eq] at hB1
      obtain ⟨⟨hr, htl⟩, hk2⟩ := hB1
      refine ⟨fun h1 => (by rw [hr] at h1; cases h1), fun i hi => ?_⟩
      have hik : i = k := by rw [hr] at hi; simpa using hi
      subst hik
      refine chain i kd r o listed a w ih h0 hcl hi (by omega) htl hk2 hB2 ?_
      match kd, hkd, h with
      | 2, _, h => exact h
      | kd + 3, _, h => exact h
  | fork k1 kd1 r1 k2 kd2 r2 ih1 ih2 =>
    intro listed a w hcl hB hS h
    unfold wpMix at h
    obtain ⟨g1, g2⟩ := h
    cases hl1 : l[k1]? with
    | none => rw [hl1] at g1; exact g1.elim
    | some o1 =>
    cases hl2 : l[k2]? with
    | none => rw [hl2] at g2; exact g2.elim
    | some o2 =>
    rw [hl1] at g1
    rw [hl2] at g2
    simp only at g1 g2
    unfold lexM at hB
    simp only [Bool.and_eq_true, decide_eq_true_eq] at hB
    obtain ⟨⟨⟨⟨⟨⟨⟨⟨⟨hr, hd1⟩, hd2⟩, ht1⟩, ht2⟩, hr1⟩, hr2⟩, hlen⟩, hB1⟩, hB2⟩ := hB
    refine ⟨fun h1 => (by rw [hr] at h1; cases h1), fun i hi => ?_⟩
    have hik : i = k1 ∨ i = k2 := by rw [hr] at hi; simpa using hi
    rcases hik with e | e
    · subst e
      exact chain i kd1 r1 o1 listed a w ih1 (by simpa using hl1) hcl hi hd1 ht1 hr1 hB1 g1
    · subst e
      rw [hlen]
      exact chain i kd2 r2 o2 listed a w ih2 (by simpa using hl2) hcl hi hd2 ht2 hr2 hB2 g2
/-- THE REGION. -/
theorem wp_region_mix {id : Nat} {a : Act} {w : World} {l : List Oper} (wk : Walk) (hm : P.follows .mixedOrders = true) (hB : mixB .any l.toArray wk = true)
    (hS : S w.drew) (h : wpMix P l (NoPan Q) S wk a w.drew) : (Code.region id l.toArray true).wp P Q a w := by
  unfold mixB at hB
  simp only [Bool.and_eq_true, decide_eq_true_eq] at hB
  obtain ⟨⟨hsel, hfl⟩, hlex⟩ := hB
  refine Code.wp_mono (Q := NoPan Q) (fun e a w h => by cases e <;> first | exact h | exact (h : False).elim) (wp_region_any hm (wpAny_of_G (S := S) (tl := fun t => decide (t < l.toArray.size) && tlOf wk t) _ _ _ _ ?_))
  have := wpAnyG_lex (md := .any) hsel (fun t ht => by rw [Bool.and_eq_true, decide_eq_true_eq] at ht; exact ht.1) (fun c a d v w h => h) wk (Array.replicate l.toArray.size false) a w.drew (fun j oj _ hl => by
    rcases Nat.lt_or_ge j l.toArray.size with h' | h'
    · simp only [List.size_toArray] at h'; simp [h'] at hl
    · simp only [List.size_toArray] at h'; simp [h'] at hl) hlex (fun _ => hS) h
  rw [hfl] at this
  exact this
/-- .. at the worlds that have grown. -/
theorem wp_region_mixed {id : Nat} {a : Act} {w : World} {l : List Oper} (wk : Walk) (hm : P.follows .mixedOrders = true) (hB : mixB .any l.toArray wk = true)
    (h : wpMix P l (NoPan Q) (fun w' => ∃ p : Regrown, w' = Go.Sort.grow (redrawn w p.d) p.os) wk a w.drew) : (Code.region id l.toArray true).wp P Q a w :=
  wp_region_mix wk hm hB (regrown_of_below ⟨rfl, rfl, rfl, Nat.le_refl _, fun _ _ => rfl⟩) h
end
end Go.Proofs.YtnpiphkglhcifaaGreat.Mx
