/- The laws of the text R inside a fence that lets every function by: a region that draws its order, carried out in one order that is enough. Conditions: as each law says. -/
import Derived.Test.YtpkjjiieglebbaaDoorR
import Derived.OrdersIn
namespace Go.Proofs.YtpkjjiieglebbaaDoor
open Go
section
variable {F : Fence} {n : Nat} {P : Program} {ops : Array Oper} {Q : Exit → Act → World → Prop} {md : Region.Mode} {S : World → Prop}
theorem yieldsIf_wpOpIn {i : Nat} {o : Oper} {v : Value} {a : Act} (hro : F.round = none) (hF : ∀ f, F.fn f) (hi : ops[i]? = some o) (hy : YieldsIf P ops S o v a)
    {K : Act → World → Prop} {w : World} (hS : S w) (h : K (a.put o.dst v) w) : wpOpIn F n P ops Q i K a w := by
  unfold Go.wpOpIn
  simp only [hi]
  rcases hy with ⟨hw, hv⟩ | ⟨hw, rfl⟩
  · simp only [hw, if_true, Oper.wpIn, hro, Oper.semAt_none, hv w hS, Oper.uponIn]; exact ⟨fun f _ => hF f, h⟩
  · simp only [hw, Bool.false_eq_true, if_false]; exact ⟨fun f _ => hF f, h⟩
theorem wpOpIn_putIf {j : Nat} {oi oj : Oper} {v : Value} (hro : F.round = none) (hF : ∀ f, F.fn f) (hj : ops[j]? = some oj) (hap : oi.apart ops oj = true)
    (hsi : ∀ cs b, oi.op ≠ .select cs b) (hsj : ∀ cs b, oj.op ≠ .select cs b)
    (hQ : ∀ c a w, Q (.panic c) (a.put oi.dst v) w → Q (.panic c) a w) {K : Act → World → Prop} {a : Act} {w : World}
    (hy : YieldsIf P ops S oi v a) (h : wpOpIn F n P ops Q j K (a.put oi.dst v) w) :
    wpOpIn F n P ops Q j (fun a' w' => YieldsIf P ops S oi v a' ∧ K (a'.put oi.dst v) w') a w := by
  obtain ⟨h1, h2, h3⟩ := Oper.apart_spec hap
  have keep : ∀ (a : Act), YieldsIf P ops S oi v a → ∀ u, YieldsIf P ops S oi v (a.put oj.dst u) := fun a hy u =>
    hy.of_same (execOp_put oi hsi a oj.dst u h3) (wanted_put oi a oj.dst u h3)
  have keepD : ∀ d, YieldsIf P ops S oi v { a with defers := d :: a.defers } := fun d => hy.of_same rfl rfl
  unfold wpOpIn at *
  simp only [hj] at *
  rw [wanted_put oj a oi.dst v h1] at h
  split
  · rename_i hw
    simp only [hw, if_true] at h
    unfold Oper.wpIn at *
    refine ⟨fun f _ => hF f, ?_⟩
    have h := h.2
    rw [hro, Oper.semAt_none, execOp_put oj hsj a oi.dst v h1] at h
    rw [hro, Oper.semAt_none]
    generalize (execOp a.eval oj).run P w = r at *
    cases r with
    | ok x w' =>
      cases x <;> simp only [Oper.uponIn] at h ⊢
      case value u => exact ⟨keep a hy u, by rw [← Act.put_comm a v u h2]; exact h⟩
      case skip => exact ⟨keep a hy _, by rw [← Act.put_comm a v undef h2]; exact h⟩
      case defer d =>
        refine ⟨keep _ (keepD d) _, ?_⟩
        rw [← Act.put_comm _ v undef h2, ← Act.put_defers]
        exact h
      case enter f args =>
        refine ⟨h.1, CallsIn.mono h.2 fun e w'' he => ?_⟩
        cases e with
        | returned u => exact ⟨keep a hy u, by rw [← Act.put_comm a v u h2]; exact he⟩
        | panicked c => exact hQ _ _ _ he
        | outgrown => exact he
      case row row args => exact ⟨h.1, RowsIn.mono h.2 fun u w'' he => ⟨keep a hy u, by rw [← Act.put_comm a v u h2]; exact he⟩⟩
      case round l f tmps assign body =>
        refine ⟨h.1, RoundIn.mono h.2 fun e w'' he => ?_⟩
        cases e with
        | returned u => exact ⟨keep a hy u, by rw [← Act.put_comm a v u h2]; exact he⟩
        | panicked c => exact hQ _ _ _ he
        | outgrown => exact he
    | halt x w' =>
      cases x <;> simp only [Oper.uponIn] at h ⊢
      case panic u => exact hQ _ _ _ h
  · rename_i hw
    simp only [hw] at h
    exact ⟨fun f _ => hF f, keep a hy _, by rw [← Act.put_comm a v undef h2]; exact h.2⟩
/-- Whatever order is picked from here on, and S holds behind each operation that is carried out. -/
def wpAnyHIn (F : Fence) (n : Nat) (P : Program) (md : Region.Mode) (ops : Array Oper) (Q : Exit → Act → World → Prop) (S : World → Prop) : Nat → Array Bool → Act → World → Prop
  | 0, listed, a, w => Region.ready md ops listed = [] ∧ Q .normal a w
  | fuel + 1, listed, a, w =>
    (Region.ready md ops listed = [] → Q .normal a w) ∧
    ∀ i ∈ Region.ready md ops listed, wpOpIn F n P ops Q i (fun a' w' => S w' ∧ wpAnyHIn F n P md ops Q S fuel (listed.setIfInBounds i true) a' w') a w
theorem wpAnyIn_of_held : ∀ (fuel : Nat) (listed : Array Bool) (a : Act) (w : World), wpAnyHIn F n P md ops Q S fuel listed a w → wpAnyIn F n P md ops Q fuel listed a w
  | 0, _, _, _, h => h
  | fuel + 1, _, _, _, h => ⟨h.1, fun i hi => wpOpIn_mono (fun a' w' h' => wpAnyIn_of_held fuel _ a' w' h'.2) (h.2 i hi)⟩
theorem wpAnyHIn_first {i : Nat} {oi : Oper} {v : Value} (hro : F.round = none) (hF : ∀ f, F.fn f) (hi : ops[i]? = some oi) (hsel : ∀ (j : Nat) (o : Oper) cs b, ops[j]? = some o → o.op ≠ .select cs b)
    (hQ : ∀ c a w, Q (.panic c) (a.put oi.dst v) w → Q (.panic c) a w) :
    ∀ (fuel : Nat) (listed : Array Bool) (a : Act) (w : World),
      (∀ j oj, ops[j]? = some oj → j ≠ i → listed.getD j true = false → (∀ e ∈ oj.after, Region.binds md e = true → e.on ≠ i) → oi.apart ops oj = true) →
      i ∈ Region.ready md ops listed → YieldsIf P ops S oi v a → S w →
      wpAnyHIn F n P md ops Q S fuel (listed.setIfInBounds i true) (a.put oi.dst v) w → wpAnyHIn F n P md ops Q S (fuel + 1) listed a w := by
  intro fuel
  induction fuel with
  | zero =>
    intro listed a w _ hr hy hS H
    refine ⟨fun h => (by rw [h] at hr; cases hr), fun j hj => ?_⟩
    by_cases hji : j = i
    · subst hji; exact yieldsIf_wpOpIn hro hF hi hy hS ⟨hS, H⟩
    · have := ready_mono hj hji
      rw [H.1] at this
      cases this
  | succ fuel ih =>
    intro listed a w hfree hr hy hS H
    refine ⟨fun h => (by rw [h] at hr; cases hr), fun j hj => ?_⟩
    by_cases hji : j = i
    · subst hji; exact yieldsIf_wpOpIn hro hF hi hy hS ⟨hS, H⟩
    · have h1 := H.2 j (ready_mono hj hji)
      obtain ⟨hjun, oj, hoj, hall⟩ := mem_ready.1 hj
      have hnot : ∀ e ∈ oj.after, Region.binds md e = true → e.on ≠ i := fun e he hb heq => by
        have h1 := hall e he hb
        have h0 := (mem_ready.1 hr).1
        rw [heq] at h1
        rcases Nat.lt_or_ge i listed.size with h' | h'
        · simp [h'] at h0 h1; rw [h0] at h1; cases h1
        · simp [Array.getElem?_eq_none h'] at h1
      have h2 := wpOpIn_putIf hro hF hoj (hfree j oj hoj hji hjun hnot) (fun cs b => hsel i oi cs b hi) (fun cs b => hsel j oj cs b hoj) hQ hy h1
      have hfree' : ∀ k ok, ops[k]? = some ok → k ≠ i → (listed.setIfInBounds j true).getD k true = false →
          (∀ e ∈ ok.after, Region.binds md e = true → e.on ≠ i) → oi.apart ops ok = true := fun k ok hk hki hun hno => by
        refine hfree k ok hk hki ?_ hno
        by_cases hjk : j = k
        · subst hjk; exact hjun
        · rw [getD_set_ne true hjk] at hun; exact hun
      refine wpOpIn_mono (fun a' w' h3 => ⟨h3.2.1, ih (listed.setIfInBounds j true) a' w' hfree' (ready_mono hr (Ne.symm hji)) h3.1 h3.2.1 ?_⟩) h2
      rw [Array.setIfInBounds_comm _ _ hji]
      exact h3.2.2
theorem wpAnyHIn_done {listed : Array Bool} {a : Act} {w : World} (hr : Region.ready md ops listed = []) (h : Q .normal a w) :
    ∀ fuel, wpAnyHIn F n P md ops Q S fuel listed a w
  | 0 => ⟨hr, h⟩
  | _ + 1 => ⟨fun _ => h, by rw [hr]; simp⟩
/-- What is owed, operation by operation. -/
def SeqIn (F : Fence) (n : Nat) (P : Program) (ops : Array Oper) (Q : Exit → Act → World → Prop) (S : World → Prop) : List (Nat × Bool) → Act → World → Prop
  | [], a, w => Q .normal a w
  | (i, true) :: ks, a, w => ∃ o v, ops[i]? = some o ∧ YieldsIf P ops S o v a ∧ SeqIn F n P ops Q S ks (a.put o.dst v) w
  | (i, false) :: ks, a, w => wpOpIn F n P ops Q i (fun a' w' => S w' ∧ SeqIn F n P ops Q S ks a' w') a w
theorem seqIn_any (hro : F.round = none) (hF : ∀ f, F.fn f) (hs : Region.noSelect ops = true) (hQ : ∀ c (a : Act) t w, Q (.panic c) { a with tmps := t } w → Q (.panic c) a w) :
    ∀ (ks : List (Nat × Bool)) (listed : Array Bool) (a : Act) (w : World), seqOk ops ks listed = true → S w → SeqIn F n P ops Q S ks a w → ∀ fuel, ks.length ≤ fuel → wpAnyHIn F n P .any ops Q S fuel listed a w
  | [], listed, a, w, hk, _, h, fuel, _ => wpAnyHIn_done (by simpa [seqOk] using hk) h fuel
  | (i, true) :: ks, listed, a, w, hk, hS, ⟨o, v, ho, hy, h⟩, fuel, hf => by
    obtain ⟨m, rfl⟩ : ∃ m, fuel = m + 1 := ⟨fuel - 1, by simp at hf; omega⟩
    simp only [seqOk, Bool.and_eq_true] at hk
    exact wpAnyHIn_first hro hF ho (Region.noSelect_spec hs) (fun c a w h' => by
      cases hd : o.dst with
      | none => simpa [hd, Act.put] using h'
      | some d => rw [hd] at h'; exact hQ c a _ w h') m listed a w (Region.free_spec ho hk.1.1) (by simpa using hk.1.2) hy hS (seqIn_any hro hF hs hQ ks _ _ _ hk.2 hS h m (by simpa using hf))
  | (i, false) :: ks, listed, a, w, hk, hS, h, fuel, hf => by
    obtain ⟨m, rfl⟩ : ∃ m, fuel = m + 1 := ⟨fuel - 1, by simp at hf; omega⟩
    simp only [seqOk, Bool.and_eq_true, beq_iff_eq] at hk
    refine ⟨(fun h0 => by rw [hk.1] at h0; cases h0), fun j hj => ?_⟩
    obtain rfl : j = i := by rw [hk.1] at hj; simpa using hj
    exact wpOpIn_mono (fun a' w' h' => ⟨h'.1, seqIn_any hro hF hs hQ ks _ a' w' hk.2 h'.1 h'.2 m (by simpa using hf)⟩) h
/-- **THE BEGINNING**, inside the fence. -/
theorem regionIn_seq (S : World → Prop) (ks : List (Nat × Bool)) {id : Nat} {a : Act} {w : World} (hro : F.round = none) (hF : ∀ f, F.fn f) (hm : P.follows .mixedOrders = true) (hs : Region.noSelect ops = true)
    (hk : seqOk ops ks (Array.replicate ops.size false) = true) (hl : (ks.length ≤ ops.size) = True)
    (hQ : ∀ c (a : Act) t w, Q (.panic c) { a with tmps := t } w → Q (.panic c) a w) (hS : S w.drew) (h : SeqIn F n P ops Q S ks a w.drew) : (Code.region id ops true).wpIn F n P Q a w :=
  wpIn_region_any hm (wpAnyIn_of_held _ _ _ _ (seqIn_any hro hF hs hQ ks _ a _ hk hS h _ (by rw [hl]; trivial)))
theorem SeqIn.take {i : Nat} {ks : List (Nat × Bool)} {o : Oper} {v : Value} {a : Act} {w : World} (ho : opAt ops.toList i = some o) (hw : Region.wanted o (yielded ops a.tmps) = true)
    (hv : ∀ W, S W → (execOp a.eval o).run P W = .ok (.value v) W) (h : SeqIn F n P ops Q S ks (a.put o.dst v) w) : SeqIn F n P ops Q S ((i, true) :: ks) a w := ⟨o, v, opAt_get ho, .inl ⟨hw, hv⟩, h⟩
theorem SeqIn.skip {i : Nat} {ks : List (Nat × Bool)} {o : Oper} {a : Act} {w : World} (ho : opAt ops.toList i = some o) (hw : Region.wanted o (yielded ops a.tmps) = false)
    (h : SeqIn F n P ops Q S ks (a.put o.dst undef) w) : SeqIn F n P ops Q S ((i, true) :: ks) a w := ⟨o, undef, opAt_get ho, .inr ⟨hw, rfl⟩, h⟩
theorem SeqIn.call {i : Nat} {ks : List (Nat × Bool)} {o : Oper} {a : Act} {w : World} (ho : opAt ops.toList i = some o) (hw : Region.wanted o (yielded ops a.tmps) = true)
    (h : ∀ K' : Act → World → Prop, Shut (∀ a w, S w → SeqIn F n P ops Q S ks a w → K' a w) → Oper.wpIn F n P o a w K' Q) : SeqIn F n P ops Q S ((i, false) :: ks) a w :=
  wpOpIn_step (opAt_get ho) fun K' hK => by rw [if_pos hw]; exact h K' fun a w hS hW => hK a w ⟨hS, hW⟩
theorem SeqIn.done {a : Act} {w : World} (h : Q .normal a w) : SeqIn F n P ops Q S [] a w := h
/-! ### One operation behind which the condition need not hold: all that was taken first comes ahead of it in each order -/
def Closed (ops : Array Oper) (listed : Array Bool) : Prop := ∀ j oj, ops[j]? = some oj → listed.getD j true = true → ∀ e ∈ oj.after, Region.binds .any e = true → listed.getD e.on false = true
/-- The operation m waits for the operation i, by one step or several. -/
def waits (ops : Array Oper) (i : Nat) : Nat → Nat → Bool
  | 0, _ => false
  | k + 1, m => match ops[m]? with
    | some o => o.after.any fun e => Region.binds .any e && (e.on == i || waits ops i k e.on)
    | none => false
theorem waits_not {listed : Array Bool} (hc : Closed ops listed) {i : Nat} (hi : listed.getD i false = false) : ∀ (k m : Nat), waits ops i k m = true → listed.getD m false = false ∧ m ∉ Region.ready .any ops listed
  | 0, _, h => by cases h
  | k + 1, m, h => by
    unfold waits at h
    split at h
    · rename_i o ho
      obtain ⟨e, he, hb⟩ := Array.any_eq_true'.1 h
      simp only [Bool.and_eq_true, Bool.or_eq_true, beq_iff_eq] at hb
      have hno : listed.getD e.on false = false := by
        rcases hb.2 with rfl | h2
        · exact hi
        · exact (waits_not hc hi k _ h2).1
      refine ⟨?_, fun hr => ?_⟩
      · rcases hm : listed.getD m false with _ | _
        · rfl
        · have hlt : m < listed.size := by
            rcases Nat.lt_or_ge m listed.size with h' | h'
            · exact h'
            · simp [Array.getD, Nat.not_lt.2 h'] at hm
          have hm' : listed.getD m true = true := by simpa [Array.getD, hlt] using hm
          rw [hc m o ho hm' e he hb.1] at hno; cases hno
      · obtain ⟨_, o', ho', hall⟩ := mem_ready.1 hr
        rw [ho] at ho'; cases ho'
        have := hall e he hb.1
        rw [this] at hno; cases hno
    · cases h
theorem closed_set {listed : Array Bool} (hc : Closed ops listed) {j : Nat} (hj : j ∈ Region.ready .any ops listed) : Closed ops (listed.setIfInBounds j true) := by
  intro k ok hk hl e he hb
  obtain ⟨_, oj, hoj, hall⟩ := mem_ready.1 hj
  have keep : ∀ x, listed.getD x false = true → (listed.setIfInBounds j true).getD x false = true := fun x hx => by
    by_cases hxj : j = x
    · subst hxj
      have hlt : j < listed.size := by
        rcases Nat.lt_or_ge j listed.size with h' | h'
        · exact h'
        · simp [Array.getD, Nat.not_lt.2 h'] at hx
      simp [Array.getD, hlt]
    · rw [getD_set_ne false hxj]; exact hx
  by_cases hjk : j = k
  · subst hjk
    rw [hoj] at hk; cases hk
    exact keep _ (hall e he hb)
  · rw [getD_set_ne true hjk] at hl
    exact keep _ (hc k ok hk hl e he hb)
def wpAnyM (F : Fence) (n : Nat) (P : Program) (ops : Array Oper) (Q : Exit → Act → World → Prop) (S : World → Prop) (m : Nat) : Nat → Array Bool → Act → World → Prop
  | 0, listed, a, w => Region.ready .any ops listed = [] ∧ Q .normal a w
  | fuel + 1, listed, a, w =>
    (Region.ready .any ops listed = [] → Q .normal a w) ∧
    ∀ i ∈ Region.ready .any ops listed, wpOpIn F n P ops Q i (fun a' w' => if i = m then wpAnyIn F n P .any ops Q fuel (listed.setIfInBounds i true) a' w' else S w' ∧ wpAnyM F n P ops Q S m fuel (listed.setIfInBounds i true) a' w') a w
theorem wpAnyIn_of_M {m : Nat} : ∀ (fuel : Nat) (listed : Array Bool) (a : Act) (w : World), wpAnyM F n P ops Q S m fuel listed a w → wpAnyIn F n P .any ops Q fuel listed a w
  | 0, _, _, _, h => h
  | fuel + 1, _, _, _, h => ⟨h.1, fun i hi => wpOpIn_mono (fun a' w' h' => by
      by_cases him : i = m
      · rw [if_pos him] at h'; exact h'
      · rw [if_neg him] at h'; exact wpAnyIn_of_M fuel _ a' w' h'.2) (h.2 i hi)⟩
theorem wpAnyM_first {m d : Nat} {i : Nat} {oi : Oper} {v : Value} (hro : F.round = none) (hF : ∀ f, F.fn f) (hi : ops[i]? = some oi) (hsel : ∀ (j : Nat) (o : Oper) cs b, ops[j]? = some o → o.op ≠ .select cs b)
    (hQ : ∀ c a w, Q (.panic c) (a.put oi.dst v) w → Q (.panic c) a w) (him : i ≠ m) (hwm : waits ops i d m = true) :
    ∀ (fuel : Nat) (listed : Array Bool) (a : Act) (w : World), Closed ops listed →
      (∀ j oj, ops[j]? = some oj → j ≠ i → listed.getD j true = false → (∀ e ∈ oj.after, Region.binds .any e = true → e.on ≠ i) → oi.apart ops oj = true) →
      i ∈ Region.ready .any ops listed → YieldsIf P ops S oi v a → S w →
      wpAnyM F n P ops Q S m fuel (listed.setIfInBounds i true) (a.put oi.dst v) w → wpAnyM F n P ops Q S m (fuel + 1) listed a w := by
  intro fuel
  induction fuel with
  | zero =>
    intro listed a w _ _ hr hy hS H
    refine ⟨fun h => (by rw [h] at hr; cases hr), fun j hj => ?_⟩
    by_cases hji : j = i
    · subst hji; exact yieldsIf_wpOpIn hro hF hi hy hS (by rw [if_neg him]; exact ⟨hS, H⟩)
    · have := ready_mono hj hji
      rw [H.1] at this
      cases this
  | succ fuel ih =>
    intro listed a w hcl hfree hr hy hS H
    refine ⟨fun h => (by rw [h] at hr; cases hr), fun j hj => ?_⟩
    by_cases hji : j = i
    · subst hji; exact yieldsIf_wpOpIn hro hF hi hy hS (by rw [if_neg him]; exact ⟨hS, H⟩)
    · have hiun : listed.getD i false = false := by
        have h0 := (mem_ready.1 hr).1
        rcases Nat.lt_or_ge i listed.size with h' | h'
        · simp [Array.getD, h'] at h0 ⊢; exact h0
        · simp [Array.getD, Nat.not_lt.2 h']
      have hjm : j ≠ m := fun e => (waits_not hcl hiun d m hwm).2 (e ▸ hj)
      have h1 := H.2 j (ready_mono hj hji)
      simp only [if_neg hjm] at h1
      obtain ⟨hjun, oj, hoj, hall⟩ := mem_ready.1 hj
      have hnot : ∀ e ∈ oj.after, Region.binds .any e = true → e.on ≠ i := fun e he hb heq => by
        have h1 := hall e he hb
        rw [heq, hiun] at h1; cases h1
      have h2 := wpOpIn_putIf hro hF hoj (hfree j oj hoj hji hjun hnot) (fun cs b => hsel i oi cs b hi) (fun cs b => hsel j oj cs b hoj) hQ hy h1
      have hfree' : ∀ k ok, ops[k]? = some ok → k ≠ i → (listed.setIfInBounds j true).getD k true = false →
          (∀ e ∈ ok.after, Region.binds .any e = true → e.on ≠ i) → oi.apart ops ok = true := fun k ok hk hki hun hno => by
        refine hfree k ok hk hki ?_ hno
        by_cases hjk : j = k
        · subst hjk; exact hjun
        · rw [getD_set_ne true hjk] at hun; exact hun
      simp only [if_neg hjm]
      refine wpOpIn_mono (fun a' w' h3 => ⟨h3.2.1, ih (listed.setIfInBounds j true) a' w' (closed_set hcl hj) hfree' (ready_mono hr (Ne.symm hji)) h3.1 h3.2.1 ?_⟩) h2
      rw [Array.setIfInBounds_comm _ _ hji]
      exact h3.2.2
/-- In this order up to m, each that is taken first being one for which m waits; then m alone may come up; then the rest. -/
def seqOkM (ops : Array Oper) (m d : Nat) (ks2 : List (Nat × Bool)) : List (Nat × Bool) → Array Bool → Bool
  | [], listed => (Region.ready .any ops listed == [m]) && seqOk ops ks2 (listed.setIfInBounds m true)
  | (i, true) :: ks, listed => (i != m) && waits ops i d m && Region.free .any ops listed i && (Region.ready .any ops listed).contains i && seqOkM ops m d ks2 ks (listed.setIfInBounds i true)
  | (i, false) :: ks, listed => (i != m) && (Region.ready .any ops listed == [i]) && seqOkM ops m d ks2 ks (listed.setIfInBounds i true)
def SeqM (F : Fence) (n : Nat) (P : Program) (ops : Array Oper) (Q : Exit → Act → World → Prop) (S : World → Prop) (m : Nat) (ks2 : List (Nat × Bool)) : List (Nat × Bool) → Act → World → Prop
  | [], a, w => wpOpIn F n P ops Q m (fun a' w' => SeqIn F n P ops Q (fun _ => True) ks2 a' w') a w
  | (i, true) :: ks, a, w => ∃ o v, ops[i]? = some o ∧ YieldsIf P ops S o v a ∧ SeqM F n P ops Q S m ks2 ks (a.put o.dst v) w
  | (i, false) :: ks, a, w => wpOpIn F n P ops Q i (fun a' w' => S w' ∧ SeqM F n P ops Q S m ks2 ks a' w') a w
theorem seqM_any {m d : Nat} {ks2 : List (Nat × Bool)} (hro : F.round = none) (hF : ∀ f, F.fn f) (hs : Region.noSelect ops = true) (hQ : ∀ c (a : Act) t w, Q (.panic c) { a with tmps := t } w → Q (.panic c) a w) :
    ∀ (ks : List (Nat × Bool)) (listed : Array Bool) (a : Act) (w : World), Closed ops listed → seqOkM ops m d ks2 ks listed = true → S w → SeqM F n P ops Q S m ks2 ks a w → ∀ fuel, ks.length + 1 + ks2.length ≤ fuel → wpAnyM F n P ops Q S m fuel listed a w
  | [], listed, a, w, hcl, hk, _, h, fuel, hf => by
    obtain ⟨f, rfl⟩ : ∃ f, fuel = f + 1 := ⟨fuel - 1, by simp at hf; omega⟩
    simp only [seqOkM, Bool.and_eq_true, beq_iff_eq] at hk
    refine ⟨(fun h0 => by rw [hk.1] at h0; cases h0), fun j hj => ?_⟩
    obtain rfl : j = m := by rw [hk.1] at hj; simpa using hj
    exact wpOpIn_mono (fun a' w' h' => by rw [if_pos rfl]; exact wpAnyIn_of_held _ _ _ _ (seqIn_any hro hF hs hQ ks2 _ a' w' hk.2 trivial h' f (by simp at hf; omega))) h
  | (i, true) :: ks, listed, a, w, hcl, hk, hS, ⟨o, v, ho, hy, h⟩, fuel, hf => by
    obtain ⟨f, rfl⟩ : ∃ f, fuel = f + 1 := ⟨fuel - 1, by simp at hf; omega⟩
    simp only [seqOkM, Bool.and_eq_true, bne_iff_ne] at hk
    exact wpAnyM_first hro hF ho (Region.noSelect_spec hs) (fun c a w h' => by
      cases hd : o.dst with
      | none => simpa [hd, Act.put] using h'
      | some d => rw [hd] at h'; exact hQ c a _ w h') hk.1.1.1.1 hk.1.1.1.2 f listed a w hcl (Region.free_spec ho hk.1.1.2) (by simpa using hk.1.2) hy hS
      (seqM_any hro hF hs hQ ks _ _ _ (closed_set hcl (by simpa using hk.1.2)) hk.2 hS h f (by simp at hf; omega))
  | (i, false) :: ks, listed, a, w, hcl, hk, hS, h, fuel, hf => by
    obtain ⟨f, rfl⟩ : ∃ f, fuel = f + 1 := ⟨fuel - 1, by simp at hf; omega⟩
    simp only [seqOkM, Bool.and_eq_true, beq_iff_eq, bne_iff_ne] at hk
    refine ⟨(fun h0 => by rw [hk.1.2] at h0; cases h0), fun j hj => ?_⟩
    obtain rfl : j = i := by rw [hk.1.2] at hj; simpa using hj
    exact wpOpIn_mono (fun a' w' h' => by rw [if_neg hk.1.1]; exact ⟨h'.1, seqM_any hro hF hs hQ ks _ a' w' (closed_set hcl (by rw [hk.1.2]; simp)) hk.2 h'.1 h'.2 f (by simp at hf; omega)⟩) h
/-- **THE BEGINNING**, with one operation behind which the condition need not hold. -/
theorem regionIn_seqM (S : World → Prop) (ks : List (Nat × Bool)) (m d : Nat) (ks2 : List (Nat × Bool)) {id : Nat} {a : Act} {w : World} (hro : F.round = none) (hF : ∀ f, F.fn f) (hm : P.follows .mixedOrders = true) (hs : Region.noSelect ops = true)
    (hk : seqOkM ops m d ks2 ks (Array.replicate ops.size false) = true) (hl : (ks.length + 1 + ks2.length ≤ ops.size) = True)
    (hQ : ∀ c (a : Act) t w, Q (.panic c) { a with tmps := t } w → Q (.panic c) a w) (hS : S w.drew) (h : SeqM F n P ops Q S m ks2 ks a w.drew) : (Code.region id ops true).wpIn F n P Q a w :=
  wpIn_region_any hm (wpAnyIn_of_M _ _ _ _ (seqM_any hro hF hs hQ ks _ a _ (fun j oj hj hl => by
    have hlt : j < ops.size := (Array.getElem?_eq_some_iff.1 hj).1
    simp [Array.getD, hlt] at hl) hk hS h _ (by rw [hl]; trivial)))
theorem SeqM.take {m : Nat} {ks2 : List (Nat × Bool)} {i : Nat} {ks : List (Nat × Bool)} {o : Oper} {v : Value} {a : Act} {w : World} (ho : opAt ops.toList i = some o) (hw : Region.wanted o (yielded ops a.tmps) = true)
    (hv : ∀ W, S W → (execOp a.eval o).run P W = .ok (.value v) W) (h : SeqM F n P ops Q S m ks2 ks (a.put o.dst v) w) : SeqM F n P ops Q S m ks2 ((i, true) :: ks) a w := ⟨o, v, opAt_get ho, .inl ⟨hw, hv⟩, h⟩
theorem SeqM.skip {m : Nat} {ks2 : List (Nat × Bool)} {i : Nat} {ks : List (Nat × Bool)} {o : Oper} {a : Act} {w : World} (ho : opAt ops.toList i = some o) (hw : Region.wanted o (yielded ops a.tmps) = false)
    (h : SeqM F n P ops Q S m ks2 ks (a.put o.dst undef) w) : SeqM F n P ops Q S m ks2 ((i, true) :: ks) a w := ⟨o, undef, opAt_get ho, .inr ⟨hw, rfl⟩, h⟩
theorem SeqM.call {m : Nat} {ks2 : List (Nat × Bool)} {i : Nat} {ks : List (Nat × Bool)} {o : Oper} {a : Act} {w : World} (ho : opAt ops.toList i = some o) (hw : Region.wanted o (yielded ops a.tmps) = true)
    (h : ∀ K' : Act → World → Prop, Shut (∀ a w, S w → SeqM F n P ops Q S m ks2 ks a w → K' a w) → Oper.wpIn F n P o a w K' Q) : SeqM F n P ops Q S m ks2 ((i, false) :: ks) a w :=
  wpOpIn_step (opAt_get ho) fun K' hK => by rw [if_pos hw]; exact h K' fun a w hS hW => hK a w ⟨hS, hW⟩
theorem SeqM.last {m : Nat} {ks2 : List (Nat × Bool)} {o : Oper} {a : Act} {w : World} (ho : opAt ops.toList m = some o) (hw : Region.wanted o (yielded ops a.tmps) = true)
    (h : ∀ K' : Act → World → Prop, Shut (∀ a w, SeqIn F n P ops Q (fun _ => True) ks2 a w → K' a w) → Oper.wpIn F n P o a w K' Q) : SeqM F n P ops Q S m ks2 [] a w :=
  wpOpIn_step (opAt_get ho) fun K' hK => by rw [if_pos hw]; exact h K' hK
/-- A piece of code that is shown not to panic serves whatever is said of a panic. -/
theorem wpIn_noPanic {c : Code} {a : Act} {w : World} (h : c.wpIn F n P (NoPanic Q) a w) : c.wpIn F n P Q a w := wpIn_mono h NoPanic.imp
theorem SeqIn.doneNP {a : Act} {w : World} (h : Q .normal a w) : SeqIn F n P ops (NoPanic Q) S [] a w := h
end
end Go.Proofs.YtpkjjiieglebbaaDoor
