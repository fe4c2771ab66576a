/- What Ready, Faces and Girth say of each other, as numbers: the years that Ready names are the first in which there are so many faces. Conditions: none; nothing of the program stands here. -/
import Derived.Test.YtpkjjiieglebbaaDoorRD
namespace Go.Proofs.YtpkjjiieglebbaaDoor
open Go Go.RowKit
theorem manyN_mono {r : Rule} {cr g h : Int} (hg : g ≤ h) : manyN r cr g ≤ manyN r cr h := by
  have H : ∀ x : Int, (if x ≤ g then (1 : Int) else 0) ≤ (if x ≤ h then 1 else 0) := by
    intro x; by_cases h1 : x ≤ g
    · rw [if_pos h1, if_pos (by omega)]; omega
    · rw [if_neg h1]; split <;> omega
  unfold manyN
  have h1 := H r.a
  have h2 := H r.b
  have h3 := H r.c
  split
  · omega
  · omega
theorem manyN_num (r : Rule) (cr g : Int) : 0 ≤ manyN r cr g ∧ manyN r cr g ≤ 3 := by
  have H : ∀ x : Int, 0 ≤ (if x ≤ g then (1 : Int) else 0) ∧ (if x ≤ g then (1 : Int) else 0) ≤ 1 := by
    intro x; split <;> omega
  unfold manyN
  have h1 := H r.a
  have h2 := H r.b
  have h3 := H r.c
  split
  · omega
  · omega
theorem mul_mono {y a b : Int} (hy : 0 ≤ y) (h : a ≤ b) : y * a ≤ y * b := Int.mul_le_mul_of_nonneg_left h hy
theorem rate_le {s : Stand} (hv : standB s = true) (k : Nat) : rateL s k ≤ rateH s k := by
  have hnum : s.lo ≤ s.hi := by
    simp only [standB, headB, Bool.and_eq_true, spanB_iff, frB_iff] at hv; omega
  unfold rateL rateH
  omega
theorem span_of {s : Stand} (hv : standB s = true) {t : Tree} (ht : t ∈ s.ts) : t.gl ≤ t.gh := by
  have h := treesB_ok [] s.ts (by simp only [standB, Bool.and_eq_true] at hv; exact hv.2) t ht
  simp only [treeB, Bool.and_eq_true, spanB_iff] at h
  omega
theorem orE_three {a b c d : Int} (h : orE [a, b, c] = 0) (hd : d = 0) : orE [a, b, d] = 0 := by
  obtain ⟨h1, h⟩ := orE_cons_zero h
  obtain ⟨h2, _⟩ := orE_cons_zero h
  subst hd
  simp [orE, h1, h2]
theorem orE_four {a b c d e : Int} (h : orE [a, b, c, d] = 0) (he : e = 0) : orE [a, b, c, e] = 0 := by
  obtain ⟨h1, h⟩ := orE_cons_zero h
  rw [show orE [a, b, c, e] = orE [b, c, e] by simp [orE, h1]]
  exact orE_three h he
theorem rangeE_zero {y a b : Int} (h : a ≤ y ∧ y ≤ b) : rangeE y a b = 0 := by
  unfold rangeE; rw [if_pos (frB_iff.2 h)]
theorem ready_faces {r : Rule} {s : Stand} {k n : Int} (h : readyE r s k n = 0) (y : Int) (hy : 0 ≤ y ∧ y ≤ 200) : facesE r s k y = 0 := orE_four h (rangeE_zero hy)
theorem ready_girth {r : Rule} {s : Stand} {k n : Int} (h : readyE r s k n = 0) (y : Int) (hy : 0 ≤ y ∧ y ≤ 200) : girthE s k y = 0 := by
  have := (orE_cons_zero h).2
  exact orE_three this (rangeE_zero hy)
/-- The first number below k for which p holds, or 201. -/
theorem first_spec (p : Nat → Bool) : ∀ k, k ≤ 201 → (firstTo p k = 201 ∧ ∀ j, j < k → p j = false) ∨ ∃ j : Nat, j < k ∧ firstTo p k = j ∧ p j = true ∧ ∀ i, i < j → p i = false
  | 0, _ => .inl ⟨rfl, fun j h => absurd h (by omega)⟩
  | k + 1, h => by
    rcases first_spec p k (by omega) with ⟨e, hn⟩ | ⟨j, hj, e, hp, hn⟩
    · rcases hk : p k with _ | _
      · refine .inl ⟨by rw [firstTo_no p k hk, e], fun j hj => ?_⟩
        by_cases hjk : j = k
        · rw [hjk]; exact hk
        · exact hn j (by omega)
      · exact .inr ⟨k, by omega, by rw [firstTo_yes p k (by omega) hk, e]; omega, hk, hn⟩
    · refine .inr ⟨j, by omega, ?_, hp, hn⟩
      rcases hk : p k with _ | _
      · rw [firstTo_no p k hk, e]
      · rw [firstTo_yes p k (by omega) hk, e]; omega
/-- The first year in which p holds: the year before it does not, it does itself. -/
theorem first_facts (p : Nat → Bool) : ∃ v, firstTo p 201 = v ∧ 0 ≤ v ∧ v ≤ 201 ∧ (∀ j : Nat, (j : Int) = v - 1 → p j = false) ∧ (∀ j : Nat, (j : Int) = v → j ≤ 200 → p j = true) ∧ (∀ j : Nat, j ≤ 200 → p j = true → v ≤ j) := by
  rcases first_spec p 201 (Nat.le_refl _) with ⟨e, hn⟩ | ⟨i, hi, e, hp, hn⟩
  · refine ⟨201, e, by omega, by omega, fun j hj => hn j (by omega), fun j hj h => absurd h (by omega), fun j hj h => ?_⟩
    have := hn j (by omega); rw [h] at this; cases this
  · refine ⟨i, e, by omega, by omega, fun j hj => hn j (by omega), fun j hj h => ?_, fun j hj h => ?_⟩
    · rw [show j = i by omega]; exact hp
    · rcases Nat.lt_or_ge j i with h1 | h1
      · have := hn j h1; rw [h] at this; cases this
      · omega
structure Sharp (r : Rule) (s : Stand) (k n r1 r2 : Int) : Prop where
  le : 0 ≤ r1 ∧ r1 ≤ r2 ∧ r2 ≤ 201
  a : ∀ v, v = r1 - 1 → 0 ≤ v → v ≤ 200 → (facesR r s k v).2 < n
  b : ∀ v, v = r1 → v ≤ 200 → n ≤ (facesR r s k v).2
  c : ∀ v, v = r2 - 1 → 0 ≤ v → v ≤ 200 → (facesR r s k v).1 < n
  d : ∀ v, v = r2 → v ≤ 200 → n ≤ (facesR r s k v).1
theorem facesR_eq {r : Rule} {s : Stand} {k y : Int} (h : facesE r s k y = 0) {t : Tree} (ht : s.ts[k.toNat]? = some t) : facesR r s k y = (manyN r t.cr (t.gl + y * rateL s k.toNat), manyN r t.cr (t.gh + y * rateH s k.toNat)) := by
  unfold facesR facesAt; rw [if_pos h, ht]
theorem girthR_eq {s : Stand} {k y : Int} (h : girthE s k y = 0) {t : Tree} (ht : s.ts[k.toNat]? = some t) : girthR s k y = (t.gl + y * rateL s k.toNat, t.gh + y * rateH s k.toNat) := by
  unfold girthR girthAt; rw [if_pos h, ht]
theorem readyR_eq {r : Rule} {s : Stand} {k n : Int} (h : readyE r s k n = 0) {t : Tree} (ht : s.ts[k.toNat]? = some t) : readyR r s k n = (firstTo (reachP r t.cr n t.gh (rateH s k.toNat)) 201, firstTo (reachP r t.cr n t.gl (rateL s k.toNat)) 201) := by
  unfold readyR readyAt; rw [if_pos h, ht]
theorem reach_yes {r : Rule} {cr n g d : Int} {j : Nat} (h : reachP r cr n g d j = true) : n ≤ manyN r cr (g + j * d) := of_decide_eq_true h
theorem reach_no {r : Rule} {cr n g d : Int} {j : Nat} (h : reachP r cr n g d j = false) : manyN r cr (g + j * d) < n := by
  have := of_decide_eq_false h; omega
theorem sharp_of {r : Rule} {s : Stand} {k n : Int} (h : readyE r s k n = 0) : Sharp r s k n (readyR r s k n).1 (readyR r s k n).2 := by
  obtain ⟨kn, t, rfl, hk, ht, hv, hn⟩ := ready_valid h
  have ht' : s.ts[((kn : Int)).toNat]? = some t := ht
  rw [readyR_eq h ht']
  have hm : t ∈ s.ts := List.mem_of_getElem? ht
  have hs := span_of hv hm
  have hr := rate_le hv ((kn : Int)).toNat
  obtain ⟨u, eu, a1, a2, a3, a4, a5⟩ := first_facts (reachP r t.cr n t.gh (rateH s ((kn : Int)).toNat))
  obtain ⟨v, ev, b1, b2, b3, b4, b5⟩ := first_facts (reachP r t.cr n t.gl (rateL s ((kn : Int)).toNat))
  rw [eu, ev]
  refine ⟨⟨a1, ?_, b2⟩, fun x hv h0 h2 => ?_, fun x hv h2 => ?_, fun x hv h0 h2 => ?_, fun x hv h2 => ?_⟩
  · dsimp only
    rcases Int.lt_or_le 200 v with h1 | h1
    · omega
    · have hj := b4 v.toNat (by omega) (by omega)
      have := a5 v.toNat (by omega) (decide_eq_true (Int.le_trans (reach_yes hj) (manyN_mono (by
        have := mul_mono (y := (v.toNat : Int)) (by omega) hr
        omega))))
      omega
  · rw [facesR_eq (ready_faces h x ⟨h0, h2⟩) ht']
    have := reach_no (a3 x.toNat (by omega))
    rwa [show ((x.toNat : Nat) : Int) = x by omega] at this
  · dsimp only at hv
    rw [facesR_eq (ready_faces h x ⟨by omega, h2⟩) ht']
    have := reach_yes (a4 x.toNat (by omega) (by omega))
    rwa [show ((x.toNat : Nat) : Int) = x by omega] at this
  · rw [facesR_eq (ready_faces h x ⟨h0, h2⟩) ht']
    have := reach_no (b3 x.toNat (by omega))
    rwa [show ((x.toNat : Nat) : Int) = x by omega] at this
  · dsimp only at hv
    rw [facesR_eq (ready_faces h x ⟨by omega, h2⟩) ht']
    have := reach_yes (b4 x.toNat (by omega) (by omega))
    rwa [show ((x.toNat : Nat) : Int) = x by omega] at this
/-- What Girth says in a year, in the next one, and at first. -/
theorem girth_steps {s : Stand} {k y : Int} (h : girthE s k 0 = 0) (hy : 0 ≤ y ∧ y < 200) : ∃ t, s.ts[k.toNat]? = some t ∧ 0 ≤ k ∧ k < s.ts.length ∧ girthR s k 0 = (t.gl, t.gh) ∧ 0 ≤ (girthR s k (y + 1)).1 - (girthR s k y).1 ∧
    (girthR s k (y + 1)).1 - (girthR s k y).1 ≤ (girthR s k (y + 1)).2 - (girthR s k y).2 ∧ (girthR s k (y + 1)).2 - (girthR s k y).2 ≤ 100 ∧ (girthR s k y).1 ≤ (girthR s k y).2 ∧ 0 ≤ (girthR s k y).1 ∧ (girthR s k y).2 ≤ 24000 := by
  obtain ⟨kn, t, rfl, hk, ht, hv, _⟩ := girth_valid h
  have ht' : s.ts[((kn : Int)).toNat]? = some t := ht
  have hm : t ∈ s.ts := List.mem_of_getElem? ht
  have hs := span_of hv hm
  have hr := rate_le hv ((kn : Int)).toNat
  have hb := rates_of hv ((kn : Int)).toNat
  have hg := girth_of hv hm
  have q1 := mul_le y _ hy.1 (by omega) hb.1 hb.2.1
  have q2 := mul_le y _ hy.1 (by omega) hb.2.2.1 hb.2.2.2
  have q3 := mul_mono (y := y) hy.1 hr
  have e1 : girthE s (kn : Int) y = 0 := orE_three h (rangeE_zero ⟨hy.1, by omega⟩)
  have e2 : girthE s (kn : Int) (y + 1) = 0 := orE_three h (rangeE_zero ⟨by omega, by omega⟩)
  refine ⟨t, ht', by omega, by omega, ?_, ?_⟩
  · rw [girthR_eq h ht']; simp
  · rw [girthR_eq e1 ht', girthR_eq e2 ht']
    dsimp only
    rw [Int.add_mul, Int.add_mul, Int.one_mul, Int.one_mul]
    omega
end Go.Proofs.YtpkjjiieglebbaaDoor
