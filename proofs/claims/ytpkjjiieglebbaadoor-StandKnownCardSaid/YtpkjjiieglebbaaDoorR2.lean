/- A region that draws its order, carried out in each order that a plan lists. Over any program. Conditions: as each law says. -/
import Derived.Test.YtpkjjiieglebbaaDoorR
namespace Go.Proofs.YtpkjjiieglebbaaDoor
open Go
inductive Plan where
  | done
  | take (i : Nat) (p : Plan)
  | one (i : Nat) (p : Plan)
  | two (i j : Nat) (p q : Plan)
def Plan.depth : Plan → Nat
  | .done => 0
  | .take _ p => p.depth + 1
  | .one _ p => p.depth + 1
  | .two _ _ p q => max p.depth q.depth + 1
section
variable {P : Program} {ops : Array Oper} {Q : Exit → Act → World → Prop}
/-- The plan lists each order that there is. -/
def planOk (ops : Array Oper) : Plan → Array Bool → Bool
  | .done, l => (Region.ready .any ops l).isEmpty
  | .take i p, l => Region.free .any ops l i && (Region.ready .any ops l).contains i && planOk ops p (l.setIfInBounds i true)
  | .one i p, l => (Region.ready .any ops l == [i]) && planOk ops p (l.setIfInBounds i true)
  | .two i j p q, l => (Region.ready .any ops l == [i, j]) && planOk ops p (l.setIfInBounds i true) && planOk ops q (l.setIfInBounds j true)
/-- What is owed. -/
def PlanW (P : Program) (ops : Array Oper) (Q : Exit → Act → World → Prop) : Plan → Act → World → Prop
  | .done, a, w => Q .normal a w
  | .take i p, a, w => ∃ o v, ops[i]? = some o ∧ YieldsIf P ops (fun _ => True) o v a ∧ PlanW P ops Q p (a.put o.dst v) w
  | .one i p, a, w => wpOp P ops Q i (fun a' w' => PlanW P ops Q p a' w') a w
  | .two i j p q, a, w => wpOp P ops Q i (fun a' w' => PlanW P ops Q p a' w') a w ∧ wpOp P ops Q j (fun a' w' => PlanW P ops Q q a' w') a w
theorem plan_any (hs : Region.noSelect ops = true) (hQ : ∀ c (a : Act) t w, Q (.panic c) { a with tmps := t } w → Q (.panic c) a w) :
    ∀ (p : Plan) (l : Array Bool) (a : Act) (w : World), planOk ops p l = true → PlanW P ops Q p a w → ∀ fuel, p.depth ≤ fuel → wpAnyH P .any ops Q (fun _ => True) fuel l a w
  | .done, l, a, w, hk, h, fuel, _ => wpAnyH_done (by simpa [planOk] using hk) h fuel
  | .take i p, l, a, w, hk, ⟨o, v, ho, hy, h⟩, fuel, hf => by
    obtain ⟨n, rfl⟩ : ∃ n, fuel = n + 1 := ⟨fuel - 1, by simp only [Plan.depth] at hf; omega⟩
    simp only [planOk, Bool.and_eq_true] at hk
    exact wpAnyH_take ho hs hk.1.1 hk.1.2 (fun c a w h' => by
      cases hd : o.dst with
      | none => simpa [hd, Act.put] using h'
      | some d => rw [hd] at h'; exact hQ c a _ w h') hy trivial (plan_any hs hQ p _ _ _ hk.2 h n (by simp only [Plan.depth] at hf; omega))
  | .one i p, l, a, w, hk, h, fuel, hf => by
    obtain ⟨n, rfl⟩ : ∃ n, fuel = n + 1 := ⟨fuel - 1, by simp only [Plan.depth] at hf; omega⟩
    simp only [planOk, Bool.and_eq_true, beq_iff_eq] at hk
    refine wpAnyH_all hk.1 (by simp) fun j hj => ?_
    obtain rfl : j = i := by simpa using hj
    exact wpOp_mono (fun a' w' h' => ⟨trivial, plan_any hs hQ p _ a' w' hk.2 h' n (by simp only [Plan.depth] at hf; omega)⟩) h
  | .two i j p q, l, a, w, hk, h, fuel, hf => by
    obtain ⟨n, rfl⟩ : ∃ n, fuel = n + 1 := ⟨fuel - 1, by simp only [Plan.depth] at hf; omega⟩
    simp only [planOk, Bool.and_eq_true, beq_iff_eq] at hk
    refine wpAnyH_all hk.1.1 (by simp) fun k hk' => ?_
    simp only [List.mem_cons, List.not_mem_nil, or_false] at hk'
    simp only [Plan.depth] at hf
    rcases hk' with rfl | rfl
    · exact wpOp_mono (fun a' w' h' => ⟨trivial, plan_any hs hQ p _ a' w' hk.1.2 h' n (by omega)⟩) h.1
    · exact wpOp_mono (fun a' w' h' => ⟨trivial, plan_any hs hQ q _ a' w' hk.2 h' n (by omega)⟩) h.2
/-- **THE BEGINNING.** -/
theorem region_plan (p : Plan) {id : Nat} {a : Act} {w : World} (hm : P.follows .mixedOrders = true) (hs : Region.noSelect ops = true)
    (hk : planOk ops p (Array.replicate ops.size false) = true) (hl : (p.depth ≤ ops.size) = True)
    (hQ : ∀ c (a : Act) t w, Q (.panic c) { a with tmps := t } w → Q (.panic c) a w) (h : PlanW P ops Q p a w.drew) : (Code.region id ops true).wp P Q a w :=
  wp_region_held hm (plan_any hs hQ p _ a _ hk h _ (by rw [hl]; trivial))
theorem PlanW.free {i : Nat} {p : Plan} {o : Oper} {v : Value} {a : Act} {w : World} (ho : opAt ops.toList i = some o) (hw : Region.wanted o (yielded ops a.tmps) = true)
    (hv : ∀ W, (execOp a.eval o).run P W = .ok (.value v) W) (h : PlanW P ops Q p (a.put o.dst v) w) : PlanW P ops Q (.take i p) a w := ⟨o, v, opAt_get ho, .inl ⟨hw, fun W _ => hv W⟩, h⟩
theorem wpOp_plan {i : Nat} {p : Plan} {o : Oper} {a : Act} {w : World} (ho : opAt ops.toList i = some o) (hw : Region.wanted o (yielded ops a.tmps) = true)
    (h : ∀ K' : Act → World → Prop, Shut (∀ a w, PlanW P ops Q p a w → K' a w) → Oper.wp P o a w K' Q) : wpOp P ops Q i (fun a' w' => PlanW P ops Q p a' w') a w :=
  wpOp_step (opAt_get ho) fun K' hK => by rw [if_pos hw]; exact h K' fun a w hW => hK a w hW
theorem PlanW.call {i : Nat} {p : Plan} {o : Oper} {a : Act} {w : World} (ho : opAt ops.toList i = some o) (hw : Region.wanted o (yielded ops a.tmps) = true)
    (h : ∀ K' : Act → World → Prop, Shut (∀ a w, PlanW P ops Q p a w → K' a w) → Oper.wp P o a w K' Q) : PlanW P ops Q (.one i p) a w := wpOp_plan ho hw h
theorem PlanW.end' {a : Act} {w : World} (h : Q .normal a w) : PlanW P ops Q .done a w := h
end
end Go.Proofs.YtpkjjiieglebbaaDoor
namespace Go.Proofs.YtpkjjiieglebbaaDoor
open Go
section
variable {P : Program} {ops : Array Oper} {Q : Exit → Act → World → Prop} {S : World → Prop}
/-- What is owed. -/
def PlanS (P : Program) (ops : Array Oper) (Q : Exit → Act → World → Prop) (S : World → Prop) : Plan → Act → World → Prop
  | .done, a, w => Q .normal a w
  | .take i p, a, w => ∃ o v, ops[i]? = some o ∧ YieldsIf P ops S o v a ∧ PlanS P ops Q S p (a.put o.dst v) w
  | .one i p, a, w => wpOp P ops Q i (fun a' w' => S w' ∧ PlanS P ops Q S p a' w') a w
  | .two i j p q, a, w => wpOp P ops Q i (fun a' w' => S w' ∧ PlanS P ops Q S p a' w') a w ∧ wpOp P ops Q j (fun a' w' => S w' ∧ PlanS P ops Q S q a' w') a w
theorem planS_any (hs : Region.noSelect ops = true) (hQ : ∀ c (a : Act) t w, Q (.panic c) { a with tmps := t } w → Q (.panic c) a w) :
    ∀ (p : Plan) (l : Array Bool) (a : Act) (w : World), planOk ops p l = true → S w → PlanS P ops Q S p a w → ∀ fuel, p.depth ≤ fuel → wpAnyH P .any ops Q S fuel l a w
  | .done, l, a, w, hk, _, h, fuel, _ => wpAnyH_done (by simpa [planOk] using hk) h fuel
  | .take i p, l, a, w, hk, hS, ⟨o, v, ho, hy, h⟩, fuel, hf => by
    obtain ⟨n, rfl⟩ : ∃ n, fuel = n + 1 := ⟨fuel - 1, by simp only [Plan.depth] at hf; omega⟩
    simp only [planOk, Bool.and_eq_true] at hk
    exact wpAnyH_take ho hs hk.1.1 hk.1.2 (fun c a w h' => by
      cases hd : o.dst with
      | none => simpa [hd, Act.put] using h'
      | some d => rw [hd] at h'; exact hQ c a _ w h') hy hS (planS_any hs hQ p _ _ _ hk.2 hS h n (by simp only [Plan.depth] at hf; omega))
  | .one i p, l, a, w, hk, _, h, fuel, hf => by
    obtain ⟨n, rfl⟩ : ∃ n, fuel = n + 1 := ⟨fuel - 1, by simp only [Plan.depth] at hf; omega⟩
    simp only [planOk, Bool.and_eq_true, beq_iff_eq] at hk
    refine wpAnyH_all hk.1 (by simp) fun j hj => ?_
    obtain rfl : j = i := by simpa using hj
    exact wpOp_mono (fun a' w' h' => ⟨h'.1, planS_any hs hQ p _ a' w' hk.2 h'.1 h'.2 n (by simp only [Plan.depth] at hf; omega)⟩) h
  | .two i j p q, l, a, w, hk, _, h, fuel, hf => by
    obtain ⟨n, rfl⟩ : ∃ n, fuel = n + 1 := ⟨fuel - 1, by simp only [Plan.depth] at hf; omega⟩
    simp only [planOk, Bool.and_eq_true, beq_iff_eq] at hk
    refine wpAnyH_all hk.1.1 (by simp) fun k hk' => ?_
    simp only [List.mem_cons, List.not_mem_nil, or_false] at hk'
    simp only [Plan.depth] at hf
    rcases hk' with rfl | rfl
    · exact wpOp_mono (fun a' w' h' => ⟨h'.1, planS_any hs hQ p _ a' w' hk.1.2 h'.1 h'.2 n (by omega)⟩) h.1
    · exact wpOp_mono (fun a' w' h' => ⟨h'.1, planS_any hs hQ q _ a' w' hk.2 h'.1 h'.2 n (by omega)⟩) h.2
/-- **THE BEGINNING.** -/
theorem region_planS (S : World → Prop) (p : Plan) {id : Nat} {a : Act} {w : World} (hm : P.follows .mixedOrders = true) (hs : Region.noSelect ops = true)
    (hk : planOk ops p (Array.replicate ops.size false) = true) (hl : (p.depth ≤ ops.size) = True)
    (hQ : ∀ c (a : Act) t w, Q (.panic c) { a with tmps := t } w → Q (.panic c) a w) (hS : S w.drew) (h : PlanS P ops Q S p a w.drew) : (Code.region id ops true).wp P Q a w :=
  wp_region_held hm (planS_any hs hQ p _ a _ hk hS h _ (by rw [hl]; trivial))
theorem PlanS.free {i : Nat} {p : Plan} {o : Oper} {v : Value} {a : Act} {w : World} (ho : opAt ops.toList i = some o) (hw : Region.wanted o (yielded ops a.tmps) = true)
    (hv : ∀ W, S W → (execOp a.eval o).run P W = .ok (.value v) W) (h : PlanS P ops Q S p (a.put o.dst v) w) : PlanS P ops Q S (.take i p) a w := ⟨o, v, opAt_get ho, .inl ⟨hw, hv⟩, h⟩
theorem PlanS.skip {i : Nat} {p : Plan} {o : Oper} {a : Act} {w : World} (ho : opAt ops.toList i = some o) (hw : Region.wanted o (yielded ops a.tmps) = false)
    (h : PlanS P ops Q S p (a.put o.dst undef) w) : PlanS P ops Q S (.take i p) a w := ⟨o, undef, opAt_get ho, .inr ⟨hw, rfl⟩, h⟩
theorem wpOp_planS {i : Nat} {p : Plan} {o : Oper} {a : Act} {w : World} (ho : opAt ops.toList i = some o) (hw : Region.wanted o (yielded ops a.tmps) = true)
    (h : ∀ K' : Act → World → Prop, Shut (∀ a w, S w → PlanS P ops Q S p a w → K' a w) → Oper.wp P o a w K' Q) : wpOp P ops Q i (fun a' w' => S w' ∧ PlanS P ops Q S p a' w') a w :=
  wpOp_step (opAt_get ho) fun K' hK => by rw [if_pos hw]; exact h K' fun a w hS hW => hK a w ⟨hS, hW⟩
theorem PlanS.call {i : Nat} {p : Plan} {o : Oper} {a : Act} {w : World} (ho : opAt ops.toList i = some o) (hw : Region.wanted o (yielded ops a.tmps) = true)
    (h : ∀ K' : Act → World → Prop, Shut (∀ a w, S w → PlanS P ops Q S p a w → K' a w) → Oper.wp P o a w K' Q) : PlanS P ops Q S (.one i p) a w := wpOp_planS ho hw h
theorem PlanS.end' {a : Act} {w : World} (h : Q .normal a w) : PlanS P ops Q S .done a w := h
end
end Go.Proofs.YtpkjjiieglebbaaDoor
