/- What an income pays, plainly: more of it pays no debt less. Conditions: as each theorem says. -/
import Derived.Test.YtnkbopfnnbmdaaaGreatQT
namespace Go.Proofs.YtnkbopfnnbmdaaaGreat
open Go Go.RowKit
set_option linter.unusedSimpArgs false
set_option linter.unusedVariables false
theorem kept_eq {keep income : Int} : income - spareF keep income = -((-(income * keep)) / 1000) := by
  have e : income * (1000 - keep) = income * 1000 - income * keep := Int.mul_sub ..
  unfold spareF
  rw [e]
  generalize income * keep = p
  omega
theorem spare_mono {keep i j : Int} (h0 : 0 ≤ keep) (h1 : keep ≤ 1000) (h : i ≤ j) : spareF keep i ≤ spareF keep j := Int.ediv_le_ediv (by omega) (Int.mul_le_mul_of_nonneg_right h (by omega))
theorem kept_mono {keep i j : Int} (h0 : 0 ≤ keep) (h : i ≤ j) : i - spareF keep i ≤ j - spareF keep j := by
  rw [kept_eq, kept_eq]
  have := Int.mul_le_mul_of_nonneg_right h h0
  omega
theorem left_mono : ∀ (a b : Int) (ds : List Int), a ≤ b → leftF a ds ≤ leftF b ds
  | a, b, [], h => h
  | a, b, d :: ds, h => by
    rw [leftF, leftF]
    exact left_mono _ _ ds (by split <;> split <;> omega)
theorem pay_mono : ∀ (a b : Int) (ds : List Int) (i : Nat) (p q : Int), a ≤ b → (payF a ds)[i]? = some p → (payF b ds)[i]? = some q → p ≤ q
  | a, b, [], i, p, q, h, hp, _ => by simp [payF] at hp
  | a, b, d :: ds, 0, p, q, h, hp, hq => by
    simp only [payF, List.getElem?_cons_zero, Option.some.injEq] at hp hq
    subst hp hq
    split <;> split <;> omega
  | a, b, d :: ds, i + 1, p, q, h, hp, hq => by
    simp only [payF, List.getElem?_cons_succ] at hp hq
    exact pay_mono _ _ ds i p q (by split <;> split <;> omega) hp hq
theorem pay_get : ∀ (S : Int) (ds : List Int) (i : Nat) (d : Int), ds[i]? = some d → (payF S ds)[i]? = some (if leftF S (ds.take i) < d then leftF S (ds.take i) else d)
  | S, [], i, d, h => by simp at h
  | S, e :: ds, 0, d, h => by
    simp only [List.getElem?_cons_zero, Option.some.injEq] at h
    subst h
    rfl
  | S, e :: ds, i + 1, d, h => by
    rw [payF, List.getElem?_cons_succ, List.take_succ_cons, leftF]
    exact pay_get _ ds i d (by simpa using h)
/-- The first debts are paid wholly just if what may be paid is enough for them. -/
theorem paid_iff : ∀ (S : Int) (ds : List Int) (k : Nat), 0 ≤ S → (∀ d ∈ ds, 0 ≤ d) → (((ds.take k).sum ≤ S) ↔ (payF S ds).take k = ds.take k)
  | S, [], k, h, _ => by simp [payF]; exact h
  | S, d :: ds, 0, h, _ => by simp; exact h
  | S, d :: ds, k + 1, h, hd => by
    have hd0 := hd d (List.mem_cons_self ..)
    have hds : ∀ e ∈ ds, 0 ≤ e := fun e he => hd e (List.mem_cons_of_mem _ he)
    rw [payF, List.take_succ_cons, List.take_succ_cons, List.sum_cons]
    have hnn : 0 ≤ (ds.take k).sum := (sum_nonneg_of (ds.take k) fun e he => hds e (List.mem_of_mem_take he))
    by_cases hc : S < d
    · rw [if_pos hc]
      constructor
      · intro hs; omega
      · intro he
        have := (List.cons.inj he).1
        omega
    · rw [if_neg hc]
      have ih := paid_iff (S - d) ds k (by omega) hds
      constructor
      · intro hs; rw [ih.1 (by omega)]
      · intro he
        have := ih.2 (List.cons.inj he).2
        omega
where
  sum_nonneg_of : ∀ l : List Int, (∀ e ∈ l, 0 ≤ e) → 0 ≤ l.sum
    | [], _ => by simp
    | e :: l, h => by
      have h1 := h e (List.mem_cons_self ..)
      have h2 := sum_nonneg_of l fun x hx => h x (List.mem_cons_of_mem _ hx)
      rw [List.sum_cons]; omega
end Go.Proofs.YtnkbopfnnbmdaaaGreat
