/- Regions that draw, on the shadow: a family of conditions on worlds; what is taken first; new variables that are laid at any time. Over any program. Conditions: as each law says. -/
import Derived.Test.YtedpbkpeofaibaaXQ
namespace Go.Proofs.Ytedpbkpeofaibaa
open Go Go.RowKit
set_option linter.unusedSimpArgs false
set_option linter.unusedVariables false
section
variable {F : Fence} {n : Nat} {P : Program} {ops : Array Oper} {Q : Exit → Act → World → Prop} {S : Array Bool → World → Prop}
/-- Whatever order is picked from here on, and S of what has come up holds behind each operation. -/
def WF (F : Fence) (n : Nat) (P : Program) (ops : Array Oper) (Q : Exit → Act → World → Prop) (S : Array Bool → World → Prop) : Nat → Array Bool → Act → World → Prop
  | 0, L, a, w => Region.ready .any ops L = [] ∧ Q .normal a w
  | fuel + 1, L, a, w => (Region.ready .any ops L = [] → Q .normal a w) ∧
    ∀ i ∈ Region.ready .any ops L, wpOpIn F n P ops Q i (fun a' w' => S (L.setIfInBounds i true) w' ∧ WF F n P ops Q S fuel (L.setIfInBounds i true) a' w') a w
theorem wpAnyIn_of_WF : ∀ (fuel : Nat) (L : Array Bool) (a : Act) (w : World), WF F n P ops Q S fuel L a w → wpAnyIn F n P .any ops Q fuel L a w
  | 0, _, _, _, h => h
  | fuel + 1, _, _, _, h => ⟨h.1, fun i hi => wpOpIn_mono (fun a' w' h' => wpAnyIn_of_WF fuel _ a' w' h'.2) (h.2 i hi)⟩
/-- A world in which the operation i may come up. -/
def At (ops : Array Oper) (S : Array Bool → World → Prop) (i : Nat) (W : World) : Prop := ∃ L, Closed ops L ∧ L.getD i false = false ∧ S L W
theorem getD_none {L : Array Bool} {i : Nat} (h : L.getD i true = false) : L.getD i false = false := by
  rcases Nat.lt_or_ge i L.size with h' | h'
  · simpa [Array.getD, h'] using h
  · simp [Array.getD, Nat.not_lt.2 h'] at h
theorem WF_first {i : Nat} {oi : Oper} {v : Value} (hro : ∀ (i : Nat) (o : Oper) (ρ : Operand → Value), ops[i]? = some o → o.semAt F.round ρ = execOp ρ o) (hF : ∀ f, F.fn f) (hi : ops[i]? = some oi) (hsel : ∀ (j : Nat) (o : Oper) cs b, ops[j]? = some o → o.op ≠ .select cs b)
    (hQ : ∀ c a w, Q (.panic c) (a.put oi.dst v) w → Q (.panic c) a w) (hS1 : ∀ L W, S (L.setIfInBounds i true) W → S L W) (hS2 : ∀ L W k, S L W → S (L.setIfInBounds k true) W) :
    ∀ (fuel : Nat) (L : Array Bool) (a : Act) (w : World),
      (∀ j oj, ops[j]? = some oj → j ≠ i → L.getD j true = false → (∀ e ∈ oj.after, Region.binds .any e = true → e.on ≠ i) → oi.apart ops oj = true) →
      Closed ops L → i ∈ Region.ready .any ops L → YieldsIf P ops (At ops S i) oi v a → S L w →
      WF F n P ops Q S fuel (L.setIfInBounds i true) (a.put oi.dst v) w → WF F n P ops Q S (fuel + 1) L a w := by
  intro fuel
  induction fuel with
  | zero =>
    intro L a w _ hc hr hy hS H
    refine ⟨fun h => (by rw [h] at hr; cases hr), fun j hj => ?_⟩
    by_cases hji : j = i
    · subst hji; exact yieldsIf_wpOpInX hro hF hi hy ⟨L, hc, getD_none (mem_ready.1 hr).1, hS⟩ ⟨hS2 L w j hS, H⟩
    · have := ready_mono hj hji
      rw [H.1] at this
      cases this
  | succ fuel ih =>
    intro L a w hfree hc hr hy hS H
    refine ⟨fun h => (by rw [h] at hr; cases hr), fun j hj => ?_⟩
    by_cases hji : j = i
    · subst hji; exact yieldsIf_wpOpInX hro hF hi hy ⟨L, hc, getD_none (mem_ready.1 hr).1, hS⟩ ⟨hS2 L w j hS, H⟩
    · have h1 := H.2 j (ready_mono hj hji)
      obtain ⟨hjun, oj, hoj, hall⟩ := mem_ready.1 hj
      have hnot : ∀ e ∈ oj.after, Region.binds .any e = true → e.on ≠ i := fun e he hb heq => by
        have h1 := hall e he hb
        have h0 := getD_none (mem_ready.1 hr).1
        rw [heq, h0] at h1; cases h1
      have h2 := wpOpIn_putIfX hro hF hoj (hfree j oj hoj hji hjun hnot) (fun cs b => hsel i oi cs b hi) (fun cs b => hsel j oj cs b hoj) hQ hy h1
      have hfree' : ∀ k ok, ops[k]? = some ok → k ≠ i → (L.setIfInBounds j true).getD k true = false →
          (∀ e ∈ ok.after, Region.binds .any e = true → e.on ≠ i) → oi.apart ops ok = true := fun k ok hk hki hun hno => by
        refine hfree k ok hk hki ?_ hno
        by_cases hjk : j = k
        · subst hjk; exact hjun
        · rw [getD_set_ne true hjk] at hun; exact hun
      refine wpOpIn_mono (fun a' w' h3 => ?_) h2
      have h4 := h3.2
      rw [Array.setIfInBounds_comm _ _ (Ne.symm hji)] at h4
      have h5 := hS1 _ _ h4.1
      exact ⟨h5, ih (L.setIfInBounds j true) a' w' hfree' (closed_set hc hj) (ready_mono hr (Ne.symm hji)) h3.1 h5 h4.2⟩
end
section
variable {F : Fence} {n : Nat} {P : Program} {ops : Array Oper} {Q : Exit → Act → World → Prop}
/-- What came up ahead of time: number of the operation, where its yield goes, what it yielded, its new block, if there is one. -/
abbrev Laid := List (Nat × Tmp × Value × List Nat)
def putE : Laid → Act → Act
  | [], a => a
  | x :: E, a => (putE E a).put (some x.2.1) x.2.2.1
theorem putE_put {E : Laid} {a : Act} {d : Option Tmp} {v : Value} (h : ∀ x ∈ E, d ≠ some x.2.1) : (putE E a).put d v = putE E (a.put d v) := by
  induction E with
  | nil => rfl
  | cons x E ih =>
    simp only [putE]
    rw [Act.put_comm _ _ _ (fun d' hd => by cases hd; exact h x (by simp)), ih fun y hy => h y (by simp [hy])]
theorem putE_defers (E : Laid) (a : Act) : (putE E a).defers = a.defers := by
  induction E with
  | nil => rfl
  | cons x E ih => simp only [putE]; rw [put_defers', ih]
theorem putE_exec {E : Laid} {o : Oper} (hs : ∀ cs b, o.op ≠ .select cs b) {a : Act} (h : ∀ x ∈ E, x.2.1 ∉ o.looksAt ops) : execOp (putE E a).eval o = execOp a.eval o := by
  induction E with
  | nil => rfl
  | cons x E ih =>
    simp only [putE]
    rw [execOp_put (ops := ops) o hs _ _ _ (fun d hd => by cases hd; exact h x (by simp)), ih fun y hy => h y (by simp [hy])]
theorem putE_wanted {E : Laid} {o : Oper} {a : Act} (h : ∀ x ∈ E, x.2.1 ∉ o.looksAt ops) : Region.wanted o (yielded ops (putE E a).tmps) = Region.wanted o (yielded ops a.tmps) := by
  induction E with
  | nil => rfl
  | cons x E ih =>
    simp only [putE]
    rw [wanted_put o _ _ _ (fun d hd => by cases hd; exact h x (by simp)), ih fun y hy => h y (by simp [hy])]
theorem putE_deferOne {E : Laid} {a : Act} {d : Deferred} : ({ putE E a with defers := d :: (putE E a).defers } : Act) = putE E { a with defers := d :: a.defers } := by
  induction E with
  | nil => rfl
  | cons x E ih => simp only [putE]; rw [Act.put_defers, ih]
theorem uponIn_putE {o : Oper} {E : Laid} {a : Act} {K : Act → World → Prop} (hd : ∀ x ∈ E, o.dst ≠ some x.2.1) {r : Result Next} (h : o.uponIn F n P a (fun a' w' => K (putE E a') w') (fun _ _ _ => False) r) : o.uponIn F n P (putE E a) K Q r := by
  have hp : ∀ v, (putE E a).put o.dst v = putE E (a.put o.dst v) := fun v => putE_put hd
  cases r with
  | ok x w' =>
    cases x <;> simp only [Oper.uponIn] at h ⊢
    case value u => rw [hp]; exact h
    case skip => rw [hp]; exact h
    case defer d => rw [putE_deferOne, putE_put hd]; exact h
    case enter f args =>
      refine ⟨h.1, CallsIn.mono h.2 fun e w'' he => ?_⟩
      cases e with
      | returned u => simp only [hp]; exact he
      | panicked c => exact he.elim
      | outgrown => obtain ⟨_, _, h'⟩ := he; exact h'.elim
    case row row args => exact ⟨h.1, RowsIn.mono h.2 fun u w'' he => by simp only [hp]; exact he⟩
    case round l f tmps assign body =>
      refine ⟨h.1, RoundIn.mono h.2 fun e w'' he => ?_⟩
      cases e with
      | returned u => simp only [hp]; exact he
      | panicked c => exact he.elim
      | outgrown => obtain ⟨_, _, h'⟩ := he; exact h'.elim
  | halt x w' =>
    cases x <;> simp only [Oper.uponIn] at h ⊢
theorem notIn_spec {D : List Nat} {d : Nat} (h : notIn D d = true) : d ∉ D := fun hd => by
  simp only [notIn, List.all_eq_true] at h
  have := h d hd
  simp at this
theorem untouched_spec {D : List Nat} {o : Oper} (h : untouched ops D o = true) : (∀ d ∈ D, d ∉ o.looksAt ops) ∧ ∀ d ∈ D, o.dst ≠ some d := by
  simp only [untouched, Bool.and_eq_true] at h
  obtain ⟨⟨h1, h2⟩, h3⟩ := h
  refine ⟨fun d hd hl => ?_, fun d hd he => ?_⟩
  · rcases List.mem_append.1 hl with hl | hl
    · obtain ⟨x, hx, hxd⟩ := List.mem_filterMap.1 hl
      rw [List.all_eq_true] at h2
      have := h2 x hx
      cases x with
      | tmp t =>
        simp only [Option.some.injEq] at hxd
        subst hxd
        exact notIn_spec this hd
      | _ => cases hxd
    · cases hg : o.guard with
      | none => simp [hg] at hl
      | some g =>
        obtain ⟨j, b⟩ := g
        simp only [hg] at hl h3
        cases hq : (ops[j]?).bind (·.dst) with
        | none => simp [hq] at hl
        | some d' =>
          simp only [hq, Option.toList_some, List.mem_singleton] at hl h3
          subst hl
          exact notIn_spec h3 hd
  · simp only [he] at h1
    exact notIn_spec h1 hd
end
end Go.Proofs.Ytedpbkpeofaibaa
