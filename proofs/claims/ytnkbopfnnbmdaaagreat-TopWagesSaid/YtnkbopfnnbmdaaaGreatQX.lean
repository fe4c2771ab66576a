/- Package purse: what an income pays, in all cases. Conditions: as each theorem says. -/
import Derived.Test.YtnkbopfnnbmdaaaGreatQT
namespace Go.Proofs.YtnkbopfnnbmdaaaGreat
open Go Go.RowKit
theorem orF_err (a b : Int) (h : ¬ a = 0) : orE [a, b] = a := by simp only [orE]; split <;> simp_all
section
variable (f : Nat → Nat → Option Value)
def payV (keep : Int) (ds : List Int) (income : Int) : List Int := if payE keep ds income = 0 then payF (spareF keep income) ds else []
def cashV (keep : Int) (ds : List Int) (income : Int) : Int := if payE keep ds income = 0 then income - (payF (spareF keep income) ds).sum else 0
theorem Pay_all {a : Option Addr} {n c : Nat} {ds : List Int} (keep income : Int) (hD : Ints f a n c ds) : FnR Tryz.prog f 10 [.agg ⟨[.int .i64 keep, .slice a n c]⟩, .int .i64 income] ⟨.tuple ⟨[slP 0 (payV keep ds income) n, .int .i64 (cashV keep ds income), .int .i64 (payE keep ds income)]⟩, rwP [] (payV keep ds income)⟩ := by
  by_cases h : payE keep ds income = 0
  · rw [payV, cashV, if_pos h, if_pos h, h]
    cases hp : payF (spareF keep income) ds with
    | nil =>
      have h0 : ds = [] := List.length_eq_zero_iff.1 (by rw [← payF_len (spareF keep income), hp]; rfl)
      subst h0
      obtain rfl : 0 = n := hD.len
      have h1 := Pay_nil f keep income hD h
      rw [show ([] : List Int).sum = 0 from rfl, Int.sub_zero]
      exact h1
    | cons g0 gt => exact Pay_fn f keep income hD h hp
  · rw [payV, cashV, if_neg h, if_neg h]; exact Pay_err f keep income hD h
end
end Go.Proofs.YtnkbopfnnbmdaaaGreat
