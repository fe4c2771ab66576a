/- Whatever a tree truly grows within its rates, year by year: its girth and its number of faces lie where they are said to, and so does the first year in which it has enough. Conditions: the stand is valid; nothing of the program stands here. -/
import Derived.Test.YtcjmfacdjdegkaaDoorQ1
namespace Go.Proofs.YtcjmfacdjdegkaaDoor
open Go Go.RowKit
/-- After y years: the true girth, and the first year so far with enough faces (201: none). -/
structure TInv (t : Tree) (rl rh r1 r2 : Int) (y : Nat) (g f : Int) : Prop where
  lo : t.gl + y * rl ≤ g
  hi : g ≤ t.gh + y * rh
  a : r1 ≤ f
  b : 0 ≤ f ∧ f ≤ 201
  c : r2 < y → f ≤ r2
theorem TInv.first {r : Rule} {t : Tree} {rl rh n g u v : Int} (eu : firstTo (reachP r t.cr n t.gh rh) 201 = u) (ev : firstTo (reachP r t.cr n t.gl rl) 201 = v) (h : t.gl ≤ g ∧ g ≤ t.gh) : TInv t rl rh u v 0 g 201 := by
  obtain ⟨u', eu', a1, a2, _⟩ := first_facts (reachP r t.cr n t.gh rh)
  obtain ⟨v', ev', b1, b2, _⟩ := first_facts (reachP r t.cr n t.gl rl)
  obtain rfl := eu.symm.trans eu'
  obtain rfl := ev.symm.trans ev'
  exact ⟨by simp; omega, by simp; omega, a2, by omega, fun h => by omega⟩
/-- In a year: the true girth lies in that of Girth, the true number of faces in that of Faces. -/
theorem TInv.now {r : Rule} {t : Tree} {rl rh r1 r2 g f : Int} {y : Nat} (h : TInv t rl rh r1 r2 y g f) : manyN r t.cr (t.gl + y * rl) ≤ manyN r t.cr g ∧ manyN r t.cr g ≤ manyN r t.cr (t.gh + y * rh) := ⟨manyN_mono h.lo, manyN_mono h.hi⟩
theorem TInv.next {r : Rule} {t : Tree} {rl rh n g f u v : Int} {y : Nat} (eu : firstTo (reachP r t.cr n t.gh rh) 201 = u) (ev : firstTo (reachP r t.cr n t.gl rl) 201 = v) (h : TInv t rl rh u v y g f) (hy : y ≤ 200) {d : Int} (hd : rl ≤ d ∧ d ≤ rh) {f' : Int}
    (hf : f' = if n ≤ manyN r t.cr g then min f y else f) : TInv t rl rh u v (y + 1) (g + d) f' := by
  obtain ⟨u', eu', a1, a2, a3, a4, a5⟩ := first_facts (reachP r t.cr n t.gh rh)
  obtain ⟨v', ev', b1, b2, b3, b4, b5⟩ := first_facts (reachP r t.cr n t.gl rl)
  obtain rfl := eu.symm.trans eu'
  obtain rfl := ev.symm.trans ev'
  have hn := h.now (r := r)
  obtain ⟨h1, h2, h3, h4, h5⟩ := h
  have e1 : ((y + 1 : Nat) : Int) * rl = y * rl + rl := by rw [Int.natCast_add, Int.add_mul]; simp
  have e2 : ((y + 1 : Nat) : Int) * rh = y * rh + rh := by rw [Int.natCast_add, Int.add_mul]; simp
  subst hf
  refine ⟨by rw [e1]; omega, by rw [e2]; omega, ?_, ?_, fun hlt => ?_⟩
  · split
    · rename_i hm
      have := a5 y hy (decide_eq_true (by omega))
      omega
    · exact h3
  · split <;> omega
  · rcases Int.lt_or_le v y with hq | hq
    · have := h5 hq
      split <;> omega
    · have e : (y : Int) = v := by omega
      have hm := reach_yes (b4 y e hy)
      rw [if_pos (by omega)]
      omega
theorem TInv.done {t : Tree} {rl rh r1 r2 g f : Int} {years : Nat} (h : TInv t rl rh r1 r2 (years + 1) g f) : r1 ≤ f ∧ (f ≤ r2 ∨ years < f) ∧ (years < r2 ∨ f ≤ years) := by
  obtain ⟨h1, h2, h3, h4, h5⟩ := h
  refine ⟨h3, ?_, ?_⟩
  · by_cases q : r2 < ((years + 1 : Nat) : Int)
    · exact .inl (h5 q)
    · by_cases q2 : f ≤ r2
      · exact .inl q2
      · right; omega
  · by_cases q : r2 < ((years + 1 : Nat) : Int)
    · have := h5 q; right; omega
    · left; omega
end Go.Proofs.YtcjmfacdjdegkaaDoor
