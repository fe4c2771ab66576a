/- A region that draws its order, carried out in each order that a plan lists, where what is read holds in each world that meets a condition. Over any program. Conditions: as each law says. -/
import Derived.Test.YtcjmfacdjdegkaaDoorR2
namespace Go.Proofs.YtcjmfacdjdegkaaDoor
open Go
section
variable {P : Program} {ops : Array Oper} {Q : Exit → Act → World → Prop} {S : World → Prop}
/-- What is owed. -/
def PlanS (P : Program) (ops : Array Oper) (Q : Exit → Act → World → Prop) (S : World → Prop) : Plan → Act → World → Prop
  | .done, a, w => Q .normal a w
  | .take i p, a, w => ∃ o v, ops[i]? = some o ∧ YieldsIf P ops S o v a ∧ PlanS P ops Q S p (a.put o.dst v) w
  | .one i p, a, w => wpOp P ops Q i (fun a' w' => S w' ∧ PlanS P ops Q S p a' w') a w
  | .two i j p q, a, w => wpOp P ops Q i (fun a' w' => S w' ∧ PlanS P ops Q S p a' w') a w ∧ wpOp P ops Q j (fun a' w' => S w' ∧ PlanS P ops Q S q a' w') a w
theorem planS_any (hs : Region.noSelect ops = true) (hQ : ∀ c (a : Act) t w, Q (.panic c) { a with tmps := t } w → Q (.panic c) a w) :
    ∀ (p : Plan) (l : Array Bool) (a : Act) (w : World), planOk ops p l = true → S w → PlanS P ops Q S p a w → ∀ fuel, p.depth ≤ fuel → wpAnyH P .any ops Q S fuel l a w
  | .done, l, a, w, hk, _, h, fuel, _ => wpAnyH_done (by simpa [planOk] using hk) h fuel
  | .take i p, l, a, w, hk, hS, ⟨o, v, ho, hy, h⟩, fuel, hf => by
    obtain ⟨n, rfl⟩ : ∃ n, fuel = n + 1 := ⟨fuel - 1, by simp only [Plan.depth] at hf; omega⟩
    simp only [planOk, Bool.and_eq_true] at hk
    exact wpAnyH_take ho hs hk.1.1 hk.1.2 (fun c a w h' => by
      cases hd : o.dst with
      | none => simpa [hd, Act.put] using h'
      | some d => rw [hd] at h'; exact hQ c a _ w h') hy hS (planS_any hs hQ p _ _ _ hk.2 hS h n (by simp only [Plan.depth] at hf; omega))
  | .one i p, l, a, w, hk, _, h, fuel, hf => by
    obtain ⟨n, rfl⟩ : ∃ n, fuel = n + 1 := ⟨fuel - 1, by simp only [Plan.depth] at hf; omega⟩
    simp only [planOk, Bool.and_eq_true, beq_iff_eq] at hk
    refine wpAnyH_all hk.1 (by simp) fun j hj => ?_
    obtain rfl : j = i := by simpa using hj
    exact wpOp_mono (fun a' w' h' => ⟨h'.1, planS_any hs hQ p _ a' w' hk.2 h'.1 h'.2 n (by simp only [Plan.depth] at hf; omega)⟩) h
  | .two i j p q, l, a, w, hk, _, h, fuel, hf => by
    obtain ⟨n, rfl⟩ : ∃ n, fuel = n + 1 := ⟨fuel - 1, by simp only [Plan.depth] at hf; omega⟩
    simp only [planOk, Bool.and_eq_true, beq_iff_eq] at hk
    refine wpAnyH_all hk.1.1 (by simp) fun k hk' => ?_
    simp only [List.mem_cons, List.not_mem_nil, or_false] at hk'
    simp only [Plan.depth] at hf
    rcases hk' with rfl | rfl
    · exact wpOp_mono (fun a' w' h' => ⟨h'.1, planS_any hs hQ p _ a' w' hk.1.2 h'.1 h'.2 n (by omega)⟩) h.1
    · exact wpOp_mono (fun a' w' h' => ⟨h'.1, planS_any hs hQ q _ a' w' hk.2 h'.1 h'.2 n (by omega)⟩) h.2
/-- **THE BEGINNING.** -/
theorem region_planS (S : World → Prop) (p : Plan) {id : Nat} {a : Act} {w : World} (hm : P.follows .mixedOrders = true) (hs : Region.noSelect ops = true)
    (hk : planOk ops p (Array.replicate ops.size false) = true) (hl : (p.depth ≤ ops.size) = True)
    (hQ : ∀ c (a : Act) t w, Q (.panic c) { a with tmps := t } w → Q (.panic c) a w) (hS : S w.drew) (h : PlanS P ops Q S p a w.drew) : (Code.region id ops true).wp P Q a w :=
  wp_region_held hm (planS_any hs hQ p _ a _ hk hS h _ (by rw [hl]; trivial))
theorem PlanS.free {i : Nat} {p : Plan} {o : Oper} {v : Value} {a : Act} {w : World} (ho : opAt ops.toList i = some o) (hw : Region.wanted o (yielded ops a.tmps) = true)
    (hv : ∀ W, S W → (execOp a.eval o).run P W = .ok (.value v) W) (h : PlanS P ops Q S p (a.put o.dst v) w) : PlanS P ops Q S (.take i p) a w := ⟨o, v, opAt_get ho, .inl ⟨hw, hv⟩, h⟩
theorem PlanS.skip {i : Nat} {p : Plan} {o : Oper} {a : Act} {w : World} (ho : opAt ops.toList i = some o) (hw : Region.wanted o (yielded ops a.tmps) = false)
    (h : PlanS P ops Q S p (a.put o.dst undef) w) : PlanS P ops Q S (.take i p) a w := ⟨o, undef, opAt_get ho, .inr ⟨hw, rfl⟩, h⟩
theorem wpOp_planS {i : Nat} {p : Plan} {o : Oper} {a : Act} {w : World} (ho : opAt ops.toList i = some o) (hw : Region.wanted o (yielded ops a.tmps) = true)
    (h : ∀ K' : Act → World → Prop, Shut (∀ a w, S w → PlanS P ops Q S p a w → K' a w) → Oper.wp P o a w K' Q) : wpOp P ops Q i (fun a' w' => S w' ∧ PlanS P ops Q S p a' w') a w :=
  wpOp_step (opAt_get ho) fun K' hK => by rw [if_pos hw]; exact h K' fun a w hS hW => hK a w ⟨hS, hW⟩
theorem PlanS.call {i : Nat} {p : Plan} {o : Oper} {a : Act} {w : World} (ho : opAt ops.toList i = some o) (hw : Region.wanted o (yielded ops a.tmps) = true)
    (h : ∀ K' : Act → World → Prop, Shut (∀ a w, S w → PlanS P ops Q S p a w → K' a w) → Oper.wp P o a w K' Q) : PlanS P ops Q S (.one i p) a w := wpOp_planS ho hw h
theorem PlanS.end' {a : Act} {w : World} (h : Q .normal a w) : PlanS P ops Q S .done a w := h
end
end Go.Proofs.YtcjmfacdjdegkaaDoor
