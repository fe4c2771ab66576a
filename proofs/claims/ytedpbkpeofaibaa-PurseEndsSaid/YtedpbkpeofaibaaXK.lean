/- A region that draws its order, carried out in one order that is enough, in whatever round a frame is. Over any program. Conditions: as each law says. -/
import Derived.Test.YtedpbkpeofaibaaR
import Derived.OrdersIn
import Derived.TacticsIn
namespace Go.Proofs.Ytedpbkpeofaibaa
open Go
set_option linter.unusedSimpArgs false
set_option linter.unusedVariables false
section
variable {F : Fence} {n : Nat} {P : Program} {ops : Array Oper} {Q : Exit → Act → World → Prop} {md : Region.Mode} {S : World → Prop}
theorem yieldsIf_wpOpInX {i : Nat} {o : Oper} {v : Value} {a : Act} (hro : ∀ (i : Nat) (o : Oper) (ρ : Operand → Value), ops[i]? = some o → o.semAt F.round ρ = execOp ρ o) (hF : ∀ f, F.fn f) (hi : ops[i]? = some o) (hy : YieldsIf P ops S o v a)
    {K : Act → World → Prop} {w : World} (hS : S w) (h : K (a.put o.dst v) w) : wpOpIn F n P ops Q i K a w := by
  unfold Go.wpOpIn
  simp only [hi]
  rcases hy with ⟨hw, hv⟩ | ⟨hw, rfl⟩
  · simp only [hw, if_true, Oper.wpIn, hro i o _ hi, hv w hS, Oper.uponIn]; exact ⟨fun f _ => hF f, h⟩
  · simp only [hw, Bool.false_eq_true, if_false]; exact ⟨fun f _ => hF f, h⟩
theorem wpOpIn_putIfX {j : Nat} {oi oj : Oper} {v : Value} (hro : ∀ (i : Nat) (o : Oper) (ρ : Operand → Value), ops[i]? = some o → o.semAt F.round ρ = execOp ρ o) (hF : ∀ f, F.fn f) (hj : ops[j]? = some oj) (hap : oi.apart ops oj = true)
    (hsi : ∀ cs b, oi.op ≠ .select cs b) (hsj : ∀ cs b, oj.op ≠ .select cs b)
    (hQ : ∀ c a w, Q (.panic c) (a.put oi.dst v) w → Q (.panic c) a w) {K : Act → World → Prop} {a : Act} {w : World}
    (hy : YieldsIf P ops S oi v a) (h : wpOpIn F n P ops Q j K (a.put oi.dst v) w) :
    wpOpIn F n P ops Q j (fun a' w' => YieldsIf P ops S oi v a' ∧ K (a'.put oi.dst v) w') a w := by
  have hroj : ∀ ρ : Operand → Value, oj.semAt F.round ρ = execOp ρ oj := fun ρ => hro j oj ρ hj
  clear hro
  obtain ⟨h1, h2, h3⟩ := Oper.apart_spec hap
  have keep : ∀ (a : Act), YieldsIf P ops S oi v a → ∀ u, YieldsIf P ops S oi v (a.put oj.dst u) := fun a hy u =>
    hy.of_same (execOp_put oi hsi a oj.dst u h3) (wanted_put oi a oj.dst u h3)
  have keepD : ∀ d, YieldsIf P ops S oi v { a with defers := d :: a.defers } := fun d => hy.of_same rfl rfl
  unfold wpOpIn at *
  simp only [hj] at *
  rw [wanted_put oj a oi.dst v h1] at h
  split
  · rename_i hw
    simp only [hw, if_true] at h
    unfold Oper.wpIn at *
    refine ⟨fun f _ => hF f, ?_⟩
    have h := h.2
    rw [hroj, execOp_put oj hsj a oi.dst v h1] at h
    rw [hroj]
    generalize (execOp a.eval oj).run P w = r at *
    cases r with
    | ok x w' =>
      cases x <;> simp only [Oper.uponIn] at h ⊢
      case value u => exact ⟨keep a hy u, by rw [← Act.put_comm a v u h2]; exact h⟩
      case skip => exact ⟨keep a hy _, by rw [← Act.put_comm a v undef h2]; exact h⟩
      case defer d =>
        refine ⟨keep _ (keepD d) _, ?_⟩
        rw [← Act.put_comm _ v undef h2, ← Act.put_defers]
        exact h
      case enter f args =>
        refine ⟨h.1, CallsIn.mono h.2 fun e w'' he => ?_⟩
        cases e with
        | returned u => exact ⟨keep a hy u, by rw [← Act.put_comm a v u h2]; exact he⟩
        | panicked c => exact hQ _ _ _ he
        | outgrown => exact he
      case row row args => exact ⟨h.1, RowsIn.mono h.2 fun u w'' he => ⟨keep a hy u, by rw [← Act.put_comm a v u h2]; exact he⟩⟩
      case round l f tmps assign body =>
        refine ⟨h.1, RoundIn.mono h.2 fun e w'' he => ?_⟩
        cases e with
        | returned u => exact ⟨keep a hy u, by rw [← Act.put_comm a v u h2]; exact he⟩
        | panicked c => exact hQ _ _ _ he
        | outgrown => exact he
    | halt x w' =>
      cases x <;> simp only [Oper.uponIn] at h ⊢
      case panic u => exact hQ _ _ _ h
  · rename_i hw
    simp only [hw] at h
    exact ⟨fun f _ => hF f, keep a hy _, by rw [← Act.put_comm a v undef h2]; exact h.2⟩
/-- Whatever order is picked from here on, and S holds behind each operation that is carried out. -/
def wpAnyHInX (F : Fence) (n : Nat) (P : Program) (md : Region.Mode) (ops : Array Oper) (Q : Exit → Act → World → Prop) (S : World → Prop) : Nat → Array Bool → Act → World → Prop
  | 0, listed, a, w => Region.ready md ops listed = [] ∧ Q .normal a w
  | fuel + 1, listed, a, w =>
    (Region.ready md ops listed = [] → Q .normal a w) ∧
    ∀ i ∈ Region.ready md ops listed, wpOpIn F n P ops Q i (fun a' w' => S w' ∧ wpAnyHInX F n P md ops Q S fuel (listed.setIfInBounds i true) a' w') a w
theorem wpAnyIn_of_heldX : ∀ (fuel : Nat) (listed : Array Bool) (a : Act) (w : World), wpAnyHInX F n P md ops Q S fuel listed a w → wpAnyIn F n P md ops Q fuel listed a w
  | 0, _, _, _, h => h
  | fuel + 1, _, _, _, h => ⟨h.1, fun i hi => wpOpIn_mono (fun a' w' h' => wpAnyIn_of_heldX fuel _ a' w' h'.2) (h.2 i hi)⟩
theorem wpAnyHInX_firstX {i : Nat} {oi : Oper} {v : Value} (hro : ∀ (i : Nat) (o : Oper) (ρ : Operand → Value), ops[i]? = some o → o.semAt F.round ρ = execOp ρ o) (hF : ∀ f, F.fn f) (hi : ops[i]? = some oi) (hsel : ∀ (j : Nat) (o : Oper) cs b, ops[j]? = some o → o.op ≠ .select cs b)
    (hQ : ∀ c a w, Q (.panic c) (a.put oi.dst v) w → Q (.panic c) a w) :
    ∀ (fuel : Nat) (listed : Array Bool) (a : Act) (w : World),
      (∀ j oj, ops[j]? = some oj → j ≠ i → listed.getD j true = false → (∀ e ∈ oj.after, Region.binds md e = true → e.on ≠ i) → oi.apart ops oj = true) →
      i ∈ Region.ready md ops listed → YieldsIf P ops S oi v a → S w →
      wpAnyHInX F n P md ops Q S fuel (listed.setIfInBounds i true) (a.put oi.dst v) w → wpAnyHInX F n P md ops Q S (fuel + 1) listed a w := by
  intro fuel
  induction fuel with
  | zero =>
    intro listed a w _ hr hy hS H
    refine ⟨fun h => (by rw [h] at hr; cases hr), fun j hj => ?_⟩
    by_cases hji : j = i
    · subst hji; exact yieldsIf_wpOpInX hro hF hi hy hS ⟨hS, H⟩
    · have := ready_mono hj hji
      rw [H.1] at this
      cases this
  | succ fuel ih =>
    intro listed a w hfree hr hy hS H
    refine ⟨fun h => (by rw [h] at hr; cases hr), fun j hj => ?_⟩
    by_cases hji : j = i
    · subst hji; exact yieldsIf_wpOpInX hro hF hi hy hS ⟨hS, H⟩
    · have h1 := H.2 j (ready_mono hj hji)
      obtain ⟨hjun, oj, hoj, hall⟩ := mem_ready.1 hj
      have hnot : ∀ e ∈ oj.after, Region.binds md e = true → e.on ≠ i := fun e he hb heq => by
        have h1 := hall e he hb
        have h0 := (mem_ready.1 hr).1
        rw [heq] at h1
        rcases Nat.lt_or_ge i listed.size with h' | h'
        · simp [h'] at h0 h1; rw [h0] at h1; cases h1
        · simp [Array.getElem?_eq_none h'] at h1
      have h2 := wpOpIn_putIfX hro hF hoj (hfree j oj hoj hji hjun hnot) (fun cs b => hsel i oi cs b hi) (fun cs b => hsel j oj cs b hoj) hQ hy h1
      have hfree' : ∀ k ok, ops[k]? = some ok → k ≠ i → (listed.setIfInBounds j true).getD k true = false →
          (∀ e ∈ ok.after, Region.binds md e = true → e.on ≠ i) → oi.apart ops ok = true := fun k ok hk hki hun hno => by
        refine hfree k ok hk hki ?_ hno
        by_cases hjk : j = k
        · subst hjk; exact hjun
        · rw [getD_set_ne true hjk] at hun; exact hun
      refine wpOpIn_mono (fun a' w' h3 => ⟨h3.2.1, ih (listed.setIfInBounds j true) a' w' hfree' (ready_mono hr (Ne.symm hji)) h3.1 h3.2.1 ?_⟩) h2
      rw [Array.setIfInBounds_comm _ _ hji]
      exact h3.2.2
theorem wpAnyHInX_doneX {listed : Array Bool} {a : Act} {w : World} (hr : Region.ready md ops listed = []) (h : Q .normal a w) :
    ∀ fuel, wpAnyHInX F n P md ops Q S fuel listed a w
  | 0 => ⟨hr, h⟩
  | _ + 1 => ⟨fun _ => h, by rw [hr]; simp⟩
/-- What is owed, operation by operation. -/
def SeqInX (F : Fence) (n : Nat) (P : Program) (ops : Array Oper) (Q : Exit → Act → World → Prop) (S : World → Prop) : List (Nat × Bool) → Act → World → Prop
  | [], a, w => Q .normal a w
  | (i, true) :: ks, a, w => ∃ o v, ops[i]? = some o ∧ YieldsIf P ops S o v a ∧ SeqInX F n P ops Q S ks (a.put o.dst v) w
  | (i, false) :: ks, a, w => wpOpIn F n P ops Q i (fun a' w' => S w' ∧ SeqInX F n P ops Q S ks a' w') a w
theorem seqIn_anyX (hro : ∀ (i : Nat) (o : Oper) (ρ : Operand → Value), ops[i]? = some o → o.semAt F.round ρ = execOp ρ o) (hF : ∀ f, F.fn f) (hs : Region.noSelect ops = true) (hQ : ∀ c (a : Act) t w, Q (.panic c) { a with tmps := t } w → Q (.panic c) a w) :
    ∀ (ks : List (Nat × Bool)) (listed : Array Bool) (a : Act) (w : World), seqOk ops ks listed = true → S w → SeqInX F n P ops Q S ks a w → ∀ fuel, ks.length ≤ fuel → wpAnyHInX F n P .any ops Q S fuel listed a w
  | [], listed, a, w, hk, _, h, fuel, _ => wpAnyHInX_doneX (by simpa [seqOk] using hk) h fuel
  | (i, true) :: ks, listed, a, w, hk, hS, ⟨o, v, ho, hy, h⟩, fuel, hf => by
    obtain ⟨m, rfl⟩ : ∃ m, fuel = m + 1 := ⟨fuel - 1, by simp at hf; omega⟩
    simp only [seqOk, Bool.and_eq_true] at hk
    exact wpAnyHInX_firstX hro hF ho (Region.noSelect_spec hs) (fun c a w h' => by
      cases hd : o.dst with
      | none => simpa [hd, Act.put] using h'
      | some d => rw [hd] at h'; exact hQ c a _ w h') m listed a w (Region.free_spec ho hk.1.1) (by simpa using hk.1.2) hy hS (seqIn_anyX hro hF hs hQ ks _ _ _ hk.2 hS h m (by simpa using hf))
  | (i, false) :: ks, listed, a, w, hk, hS, h, fuel, hf => by
    obtain ⟨m, rfl⟩ : ∃ m, fuel = m + 1 := ⟨fuel - 1, by simp at hf; omega⟩
    simp only [seqOk, Bool.and_eq_true, beq_iff_eq] at hk
    refine ⟨(fun h0 => by rw [hk.1] at h0; cases h0), fun j hj => ?_⟩
    obtain rfl : j = i := by rw [hk.1] at hj; simpa using hj
    exact wpOpIn_mono (fun a' w' h' => ⟨h'.1, seqIn_anyX hro hF hs hQ ks _ a' w' hk.2 h'.1 h'.2 m (by simpa using hf)⟩) h
/-- **THE BEGINNING**, inside the fence. -/
theorem regionIn_seqX (S : World → Prop) (ks : List (Nat × Bool)) {id : Nat} {a : Act} {w : World} (hro : ∀ (i : Nat) (o : Oper) (ρ : Operand → Value), ops[i]? = some o → o.semAt F.round ρ = execOp ρ o) (hF : ∀ f, F.fn f) (hm : P.follows .mixedOrders = true) (hs : Region.noSelect ops = true)
    (hk : seqOk ops ks (Array.replicate ops.size false) = true) (hl : (ks.length ≤ ops.size) = True)
    (hQ : ∀ c (a : Act) t w, Q (.panic c) { a with tmps := t } w → Q (.panic c) a w) (hS : S w.drew) (h : SeqInX F n P ops Q S ks a w.drew) : (Code.region id ops true).wpIn F n P Q a w :=
  wpIn_region_any hm (wpAnyIn_of_heldX _ _ _ _ (seqIn_anyX hro hF hs hQ ks _ a _ hk hS h _ (by rw [hl]; trivial)))
def Closed (ops : Array Oper) (listed : Array Bool) : Prop := ∀ j oj, ops[j]? = some oj → listed.getD j true = true → ∀ e ∈ oj.after, Region.binds .any e = true → listed.getD e.on false = true
def nthN : List Nat → Nat → Nat
  | [], _ => 0
  | r :: _, 0 => r
  | _ :: l, n + 1 => nthN l n
/-- For each operation, as the bits of a number, those for which it waits, by one step or several. -/
def maskOf (acc : List Nat) : List Edge → Nat → Nat
  | [], r => r
  | e :: l, r => maskOf acc l (cond (Region.binds .any e) (Nat.lor r (Nat.lor (Nat.pow 2 e.on) (nthN acc e.on))) r)
def reachL : List Oper → List Nat → List Nat
  | [], acc => acc
  | o :: os, acc => match maskOf acc o.after.toList 0 with
    | 0 => reachL os (acc ++ [0])
    | m + 1 => reachL os (acc ++ [m + 1])
/-- The operation m waits for the operation i, by one step or several. -/
def waits (ops : Array Oper) (i : Nat) (_k : Nat) (m : Nat) : Bool := Nat.beq (Nat.mod (Nat.shiftRight (nthN (reachL ops.toList []) m) i) 2) 1
def WN (ops : Array Oper) (i m : Nat) : Prop := ∀ listed, Closed ops listed → listed.getD i false = false → listed.getD m false = false ∧ m ∉ Region.ready .any ops listed
theorem bit_iff (r i : Nat) : Nat.beq (Nat.mod (Nat.shiftRight r i) 2) 1 = r.testBit i := by
  rw [Nat.testBit_eq_decide_div_mod_eq]
  show Nat.beq ((r >>> i) % 2) 1 = _
  rw [Nat.shiftRight_eq_div_pow]
  cases h : Nat.beq (r / 2 ^ i % 2) 1 with
  | true => exact (decide_eq_true (Nat.eq_of_beq_eq_true h)).symm
  | false => exact (decide_eq_false (fun e => by rw [e] at h; cases h)).symm
theorem maskOf_ok {m : Nat} {o : Oper} (ho : ops[m]? = some o) {acc : List Nat} (hacc : ∀ k i, (nthN acc k).testBit i = true → WN ops i k) : ∀ (l : List Edge) (r : Nat), (∀ e ∈ l, e ∈ o.after) → (∀ i, r.testBit i = true → WN ops i m) → ∀ i, (maskOf acc l r).testBit i = true → WN ops i m
  | [], r, _, hr, i, h => hr i h
  | e :: l, r, hl, hr, i, h => by
    unfold maskOf at h
    refine maskOf_ok ho hacc l _ (fun e he => hl e (by simp [he])) (fun i hi => ?_) i h
    cases hb : Region.binds .any e with
    | false => rw [hb] at hi; exact hr i hi
    | true =>
      rw [hb, cond_true] at hi
      have hi : (r ||| (2 ^ e.on ||| nthN acc e.on)).testBit i = true := hi
      rw [Nat.testBit_or, Nat.testBit_or, Bool.or_eq_true, Bool.or_eq_true] at hi
      have go : ∀ listed, Closed ops listed → listed.getD e.on false = false → listed.getD m false = false ∧ m ∉ Region.ready .any ops listed := fun listed hc hno => by
        refine ⟨?_, fun hr => ?_⟩
        · rcases hm : listed.getD m false with _ | _
          · rfl
          · have hlt : m < listed.size := by
              rcases Nat.lt_or_ge m listed.size with h' | h'
              · exact h'
              · simp [Array.getD, Nat.not_lt.2 h'] at hm
            have hm' : listed.getD m true = true := by simpa [Array.getD, hlt] using hm
            rw [hc m o ho hm' e (hl e (by simp)) hb] at hno; cases hno
        · obtain ⟨_, o', ho', hall⟩ := mem_ready.1 hr
          rw [ho] at ho'; cases ho'
          have := hall e (hl e (by simp)) hb
          rw [this] at hno; cases hno
      rcases hi with h1 | h1 | h1
      · exact hr i h1
      · rw [Nat.testBit_two_pow] at h1
        obtain rfl := of_decide_eq_true h1
        exact fun listed hc hi => go listed hc hi
      · exact fun listed hc hi => go listed hc (hacc e.on i h1 listed hc hi).1
theorem nthN_append : ∀ (acc : List Nat) (r k : Nat), nthN (acc ++ [r]) k = if k < acc.length then nthN acc k else if k = acc.length then r else 0
  | [], r, 0 => rfl
  | [], r, k + 1 => by simp [nthN]
  | a :: acc, r, 0 => by simp [nthN]
  | a :: acc, r, k + 1 => by
    simp only [List.cons_append, nthN, List.length_cons, nthN_append acc r k, Nat.add_lt_add_iff_right, Nat.add_right_cancel_iff]
theorem nthN_out : ∀ (acc : List Nat) (k : Nat), acc.length ≤ k → nthN acc k = 0
  | [], _, _ => rfl
  | _ :: acc, 0, h => by simp at h
  | _ :: acc, k + 1, h => nthN_out acc k (by simpa using h)
theorem reachL_ok : ∀ (os : List Oper) (acc : List Nat), os = ops.toList.drop acc.length → (∀ k i, (nthN acc k).testBit i = true → WN ops i k) → ∀ k i, (nthN (reachL os acc) k).testBit i = true → WN ops i k
  | [], acc, _, h => h
  | o :: os, acc, hd, h => by
    have ho : ops[acc.length]? = some o := by
      have := congrArg (fun l => l[0]?) hd
      simpa using this.symm
    have hos : os = ops.toList.drop (acc.length + 1) := by
      have := congrArg List.tail hd
      simpa using this
    have hm := maskOf_ok ho h o.after.toList 0 (fun e he => by simpa using he) (fun i hi => by simp at hi)
    have key : reachL (o :: os) acc = reachL os (acc ++ [maskOf acc o.after.toList 0]) := by
      rw [reachL]
      split <;> rename_i hq <;> rw [hq]
    rw [key]
    refine reachL_ok os _ (by simpa using hos) fun k i hk => ?_
    rw [nthN_append] at hk
    split at hk
    · exact h k i hk
    · split at hk
      · rename_i hkl; subst hkl; exact hm i hk
      · simp at hk
theorem waits_not {listed : Array Bool} (hc : Closed ops listed) {i : Nat} (hi : listed.getD i false = false) (k m : Nat) (h : waits ops i k m = true) : listed.getD m false = false ∧ m ∉ Region.ready .any ops listed := by
  unfold waits at h
  rw [bit_iff] at h
  exact reachL_ok ops.toList [] (by simp) (fun k i hk => by simp [nthN] at hk) m i h listed hc hi
theorem closed_set {listed : Array Bool} (hc : Closed ops listed) {j : Nat} (hj : j ∈ Region.ready .any ops listed) : Closed ops (listed.setIfInBounds j true) := by
  intro k ok hk hl e he hb
  obtain ⟨_, oj, hoj, hall⟩ := mem_ready.1 hj
  have keep : ∀ x, listed.getD x false = true → (listed.setIfInBounds j true).getD x false = true := fun x hx => by
    by_cases hxj : j = x
    · subst hxj
      have hlt : j < listed.size := by
        rcases Nat.lt_or_ge j listed.size with h' | h'
        · exact h'
        · simp [Array.getD, Nat.not_lt.2 h'] at hx
      simp [Array.getD, hlt]
    · rw [getD_set_ne false hxj]; exact hx
  by_cases hjk : j = k
  · subst hjk
    rw [hoj] at hk; cases hk
    exact keep _ (hall e he hb)
  · rw [getD_set_ne true hjk] at hl
    exact keep _ (hc k ok hk hl e he hb)
end
end Go.Proofs.Ytedpbkpeofaibaa
