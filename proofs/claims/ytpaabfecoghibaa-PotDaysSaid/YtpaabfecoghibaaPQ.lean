/- How often a pot must be emptied: plain facts. Conditions: as each theorem says. -/
import Derived.Test.YtpaabfecoghibaaPH
namespace Go.Proofs.Ytpaabfecoghibaa
open Go Go.RowKit
set_option linter.unusedSimpArgs false
set_option linter.unusedVariables false
set_option linter.unusedSectionVars false
/-- How often a pot is emptied, if what can wait waits; none: it runs over all the same. -/
def runN (s : Int) : List Int → Int → Option Nat
  | [], _ => some 0
  | g :: gs, h => if s < g then none else if s < h + g then (runN s gs g).map (· + 1) else runN s gs (h + g)
theorem runN_skip {s : Int} : ∀ (L : List Int) (h : Int) (j : Nat), (∀ g ∈ L, 0 ≤ g) → 0 ≤ h → j ≤ L.length → (∀ i, i < j → h + (L.take (i + 1)).sum ≤ s) → runN s L h = runN s (L.drop j) (h + (L.take j).sum)
  | L, h, 0, _, _, _, _ => by simp
  | [], h, j + 1, _, _, hj, _ => by simp at hj
  | g :: gs, h, j + 1, hg, h0, hj, hn => by
    have h1 := hn 0 (by omega)
    simp only [List.take_succ_cons, List.take_zero, List.sum_cons, List.sum_nil] at h1
    have hg0 := hg g List.mem_cons_self
    rw [runN, if_neg (by omega), if_neg (by omega), runN_skip gs (h + g) j (fun x hx => hg x (List.mem_cons_of_mem _ hx)) (by omega) (by simpa using hj) (fun i hi => by
      have := hn (i + 1) (by omega)
      simp only [List.take_succ_cons, List.sum_cons] at this ⊢; omega)]
    simp only [List.drop_succ_cons, List.take_succ_cons, List.sum_cons]
    congr 1; omega
/-- What comes on some days. -/
def rstL (p : Pt) (base : Int) (ds : List Dy) (d to : Nat) : List Int := ((ds.take (to + 1)).drop d).map (gainF false p base)
def h0F (p : Pt) (fr : Int) : Int := if fr = -1 then p.hi else 0
theorem rstL_len {p : Pt} {base : Int} {ds : List Dy} {d to : Nat} (ht : to < ds.length) : (rstL p base ds d to).length = to + 1 - d := by
  rw [rstL, List.length_map, List.length_drop, List.length_take]; omega
theorem rstL_cons {p : Pt} {base : Int} {ds : List Dy} {d to : Nat} {x : Dy} (hx : ds[d]? = some x) (hd : d ≤ to) : rstL p base ds d to = gainF false p base x :: rstL p base ds (d + 1) to := by
  have : (ds.take (to + 1))[d]? = some x := by rw [List.getElem?_take, if_pos (by omega)]; exact hx
  obtain ⟨h1, h2⟩ := List.getElem?_eq_some_iff.1 this
  rw [rstL, List.drop_eq_getElem_cons h1, List.map_cons, h2, rstL]
theorem rstL_nil {p : Pt} {base : Int} {ds : List Dy} {to : Nat} : rstL p base ds (to + 1) to = [] := by
  rw [rstL, List.drop_of_length_le (by rw [List.length_take]; omega), List.map_nil]
theorem lev_rst {p : Pt} {base fr : Int} {ds : List Dy} {day to : Nat} (h1 : fr.toNat ≤ day) (h2 : day ≤ to) : levF false p base ds fr day = h0F p fr + ((rstL p base ds fr.toNat to).take (day + 1 - fr.toNat)).sum := by
  rw [rstL, ← List.map_take, List.take_drop, List.take_take, show min (fr.toNat + (day + 1 - fr.toNat)) (to + 1) = day + 1 by omega, levF, sumG, h0F]
  simp only [Bool.false_eq_true, if_false]
  omega
theorem due_lt {p : Pt} {base fr : Int} {ds : List Dy} {j : Nat} (hj : j < dueF p base ds fr) (hf : fr ≤ (j : Int)) : levF false p base ds fr j ≤ p.size := by
  have h1 := List.not_of_lt_findIdx hj
  simp only [List.getElem_range] at h1
  simp only [hf, decide_true, Bool.true_and, overB, Bool.not_eq_true, decide_eq_false_iff_not] at h1
  omega
theorem due_at {p : Pt} {base fr : Int} {ds : List Dy} (h : dueF p base ds fr < ds.length) : fr ≤ (dueF p base ds fr : Int) ∧ p.size < levF false p base ds fr (dueF p base ds fr) := by
  have h1 := List.findIdx_getElem (w := show List.findIdx (fun (j : Nat) => decide (fr ≤ (j : Int)) && overB p base ds fr j) (List.range ds.length) < (List.range ds.length).length by rw [List.length_range]; exact h)
  simp only [List.getElem_range, Bool.and_eq_true, decide_eq_true_eq, overB] at h1
  exact h1
section
variable {p : Pt} {base last : Int} {ds : List Dy} {to : Nat} (hp : PtOk2 p) (hb : 0 ≤ base) (hl : ∀ d ∈ ds, DyOk d) (ht : to < ds.length) (h0 : -1 ≤ last) (h1 : last ≤ (to : Int))
include hp hb hl
theorem rst_ge {d t : Nat} : ∀ g ∈ rstL p base ds d t, 0 ≤ g := fun g hg => by
  obtain ⟨x, hx, rfl⟩ := List.mem_map.1 hg
  exact (gain_in hp.toPtOk hb (hl x (List.mem_of_mem_take (List.mem_of_mem_drop hx)))).1
theorem h0F_ge : 0 ≤ h0F p last := by
  have := hp.l0
  have := hp.l1
  unfold h0F; split <;> omega
include ht h0 h1
theorem need_a (hd : to < dueF p base ds last) : runN p.size (rstL p base ds last.toNat to) (h0F p last) = some 0 := by
  rw [runN_skip _ _ (to + 1 - last.toNat) (rst_ge hp hb hl) (h0F_ge hp hb hl) (by rw [rstL_len ht]; exact Nat.le_refl _) (fun i hi => by
    have h2 := due_lt (p := p) (base := base) (ds := ds) (fr := last) (j := last.toNat + i) (by omega) (by omega)
    rw [lev_rst (to := to) (by omega) (by omega), show last.toNat + i + 1 - last.toNat = i + 1 by omega] at h2
    exact h2), List.drop_of_length_le (by rw [rstL_len ht]; omega)]
  rfl
theorem need_c (hd : dueF p base ds last ≤ to) (hne : (dueF p base ds last : Int) ≠ last) : runN p.size (rstL p base ds last.toNat to) (h0F p last) = (runN p.size (rstL p base ds (dueF p base ds last) to) 0).map (· + 1) := by
  obtain ⟨h2, h3⟩ := due_at (p := p) (base := base) (ds := ds) (fr := last) (by omega)
  have hlt := fun j => due_lt (p := p) (base := base) (ds := ds) (fr := last) (j := j)
  generalize dueF p base ds last = d at *
  have hud : last.toNat ≤ d := by omega
  rw [runN_skip _ _ (d - last.toNat) (rst_ge hp hb hl) (h0F_ge hp hb hl) (by rw [rstL_len ht]; omega) (fun i hi => by
    have h2 := hlt (last.toNat + i) (by omega) (by omega)
    rw [lev_rst (to := to) (by omega) (by omega), show last.toNat + i + 1 - last.toNat = i + 1 by omega] at h2
    exact h2)]
  have hdr : (rstL p base ds last.toNat to).drop (d - last.toNat) = rstL p base ds d to := by
    rw [rstL, rstL, ← List.map_drop, List.drop_drop, show last.toNat + (d - last.toNat) = d by omega]
  rw [lev_rst (to := to) hud hd, show d + 1 - last.toNat = (d - last.toNat) + 1 by omega] at h3
  obtain ⟨x, hx⟩ : ∃ x, ds[d]? = some x := ⟨_, List.getElem?_eq_getElem (by omega)⟩
  have hc := rstL_cons (p := p) (base := base) hx hd
  have htk : ((rstL p base ds last.toNat to).take (d - last.toNat + 1)).sum = ((rstL p base ds last.toNat to).take (d - last.toNat)).sum + gainF false p base x := by
    have hget : (rstL p base ds last.toNat to)[d - last.toNat]? = some (gainF false p base x) := by
      have h5 : ((rstL p base ds last.toNat to).drop (d - last.toNat))[0]? = some (gainF false p base x) := by rw [hdr, hc]; rfl
      rw [List.getElem?_drop] at h5
      simpa using h5
    rw [List.take_add_one, hget, List.sum_append]
    simp
  rw [htk] at h3
  rw [hdr, hc, runN, runN]
  generalize ((rstL p base ds last.toNat to).take (d - last.toNat)).sum = S at *
  by_cases hs : p.size < gainF false p base x
  · rw [if_pos hs, if_pos hs]; rfl
  · rw [if_neg hs, if_neg hs, if_pos (by omega), if_neg (by omega), Int.zero_add]
theorem need_b (hd : dueF p base ds last ≤ to) (he : (dueF p base ds last : Int) = last) : runN p.size (rstL p base ds last.toNat to) (h0F p last) = none := by
  obtain ⟨h2, h3⟩ := due_at (p := p) (base := base) (ds := ds) (fr := last) (by omega)
  generalize dueF p base ds last = d at *
  subst he
  rw [Int.toNat_natCast]
  rw [lev_rst (fr := (d : Int)) (day := d) (to := to) (by omega) hd, Int.toNat_natCast, show d + 1 - d = 0 + 1 by omega] at h3
  obtain ⟨x, hx⟩ : ∃ x, ds[d]? = some x := ⟨_, List.getElem?_eq_getElem (by omega)⟩
  rw [rstL_cons hx hd] at h3 ⊢
  simp only [List.take_succ_cons, List.take_zero, List.sum_cons, List.sum_nil] at h3
  have h4 : h0F p (d : Int) = 0 := if_neg (by omega)
  rw [h4] at h3
  rw [runN, if_pos (by omega)]
end
/-- The need of a pot, if it can be kept. -/
def needO (p : Pt) (base : Int) (ds : List Dy) (fr to : Nat) : Option Nat := runN p.size (rstL p base ds fr to) (if fr = 0 then p.hi else 0)
def needV (p : Pt) (base : Int) (ds : List Dy) (fr to : Nat) : Int := match needO p base ds fr to with
  | some n => (n : Int)
  | none => (to : Int) - fr + 2
theorem needV_some {p : Pt} {base : Int} {ds : List Dy} {fr to n : Nat} (h : needO p base ds fr to = some n) : needV p base ds fr to = n := by rw [needV, h]
theorem needV_none {p : Pt} {base : Int} {ds : List Dy} {fr to : Nat} (h : needO p base ds fr to = none) : needV p base ds fr to = (to : Int) - fr + 2 := by rw [needV, h]
theorem runN_le {s : Int} : ∀ (L : List Int) (h : Int) (n : Nat), runN s L h = some n → n ≤ L.length
  | [], h, n, e => by cases e; exact Nat.le_refl _
  | g :: gs, h, n, e => by
    rw [runN] at e
    split at e
    · cases e
    · split at e
      · obtain ⟨m, hm, rfl⟩ := Option.map_eq_some_iff.1 e
        have := runN_le gs g m hm
        simp; omega
      · have := runN_le gs _ n e
        simp; omega
theorem needV_in {p : Pt} {base : Int} {ds : List Dy} {fr to : Nat} (ht : to < ds.length) (hf : fr ≤ to) : 0 ≤ needV p base ds fr to ∧ needV p base ds fr to ≤ (to : Int) - fr + 2 := by
  cases h : needO p base ds fr to with
  | none => rw [needV_none h]; omega
  | some n =>
    rw [needV_some h]
    have := runN_le _ _ _ h
    rw [rstL_len ht] at this
    omega
/-- There are too few hands on some days. -/
def badS (ps : List Pt) (base : Int) (ds : List Dy) (hands : Int) (i j : Nat) : Prop := hands * ((j : Int) - i + 1) < (ps.map fun p => needV p base ds i j).sum
inductive IsShort (ps : List Pt) (base : Int) (ds : List Dy) (hands : Int) : Int → Int → Int → Prop
  | at' (i j : Nat) (h1 : i ≤ j) (h2 : j < ds.length) (h3 : badS ps base ds hands i j) (h4 : ∀ i' j', (i' < i ∨ i' = i ∧ j' < j) → i' ≤ j' → j' < ds.length → ¬ badS ps base ds hands i' j') : IsShort ps base ds hands i j 0
  | no (h : ∀ i j, i ≤ j → j < ds.length → ¬ badS ps base ds hands i j) : IsShort ps base ds hands 0 0 4
theorem least_nat {P : Nat → Prop} (h : ∃ n, P n) : ∃ n, P n ∧ ∀ m, m < n → ¬ P m := by
  obtain ⟨n, hn⟩ := h
  induction n using Nat.strongRecOn with
  | ind n ih =>
    by_cases h : ∃ m, m < n ∧ P m
    · obtain ⟨m, h1, h2⟩ := h
      exact ih m h1 h2
    · exact ⟨n, hn, fun m hm hp => h ⟨m, hm, hp⟩⟩
theorem isShort_ex (ps : List Pt) (base : Int) (ds : List Dy) (hands : Int) : ∃ a x e, IsShort ps base ds hands a x e := by
  by_cases h : ∃ i, ∃ j, i ≤ j ∧ j < ds.length ∧ badS ps base ds hands i j
  · obtain ⟨i, hi, hi'⟩ := least_nat h
    obtain ⟨j, ⟨h1, h2, h3⟩, hj'⟩ := least_nat hi
    refine ⟨i, j, 0, .at' i j h1 h2 h3 fun i' j' hb h4 h5 h6 => ?_⟩
    rcases hb with hb | ⟨rfl, hb⟩
    · exact hi' i' hb ⟨j', h4, h5, h6⟩
    · exact hj' j' hb ⟨h4, h5, h6⟩
  · exact ⟨0, 0, 4, .no fun i j h1 h2 h3 => h ⟨i, j, h1, h2, h3⟩⟩
theorem IsShort.eq {ps : List Pt} {base : Int} {ds : List Dy} {hands a x e : Int} (h : IsShort ps base ds hands a x e) {i j : Nat} (h1 : i ≤ j) (h2 : j < ds.length) (h3 : badS ps base ds hands i j) (h4 : ∀ i' j', (i' < i ∨ i' = i ∧ j' < j) → i' ≤ j' → j' < ds.length → ¬ badS ps base ds hands i' j') : a = i ∧ x = j ∧ e = 0 := by
  cases h with
  | at' u v g1 g2 g3 g4 =>
    have : u = i ∧ v = j := by
      rcases Nat.lt_trichotomy u i with h | h | h
      · exact absurd g3 (h4 u v (.inl h) g1 g2)
      · rcases Nat.lt_trichotomy v j with h' | h' | h'
        · exact absurd g3 (h4 u v (.inr ⟨h, h'⟩) g1 g2)
        · exact ⟨h, h'⟩
        · exact absurd h3 (g4 i j (.inr ⟨h.symm, h'⟩) h1 h2)
      · exact absurd h3 (g4 i j (.inl h) h1 h2)
    obtain ⟨rfl, rfl⟩ := this
    exact ⟨rfl, rfl, rfl⟩
  | no h => exact absurd h3 (h i j h1 h2)
theorem IsShort.eqN {ps : List Pt} {base : Int} {ds : List Dy} {hands a x e : Int} (h : IsShort ps base ds hands a x e) (hn : ∀ i j, i ≤ j → j < ds.length → ¬ badS ps base ds hands i j) : a = 0 ∧ x = 0 ∧ e = 4 := by
  cases h with
  | at' u v g1 g2 g3 g4 => exact absurd g3 (hn u v g1 g2)
  | no h => exact ⟨rfl, rfl, rfl⟩
/-- The needs of the first pots. -/
def needS (ps : List Pt) (base : Int) (ds : List Dy) (i j q : Nat) : Int := ((ps.take q).map fun p => needV p base ds i j).sum
theorem needS_zero {ps : List Pt} {base : Int} {ds : List Dy} {i j : Nat} : needS ps base ds i j 0 = 0 := by simp [needS]
theorem needS_succ {ps : List Pt} {base : Int} {ds : List Dy} {i j q : Nat} {p : Pt} (h : ps[q]? = some p) : needS ps base ds i j (q + 1) = needS ps base ds i j q + needV p base ds i j := by
  rw [needS, List.take_add_one, h, List.map_append, List.sum_append]; simp [needS]
theorem needS_all {ps : List Pt} {base : Int} {ds : List Dy} {i j q : Nat} (h : ps.length ≤ q) : needS ps base ds i j q = (ps.map fun p => needV p base ds i j).sum := by rw [needS, List.take_of_length_le h]
theorem needS_in {ps : List Pt} {base : Int} {ds : List Dy} {i j : Nat} (hj : j < ds.length) (hi : i ≤ j) : ∀ q, 0 ≤ needS ps base ds i j q ∧ needS ps base ds i j q ≤ ((j : Int) - i + 2) * q
  | 0 => by rw [needS_zero]; omega
  | q + 1 => by
    have ih := needS_in (ps := ps) (base := base) hj hi q
    have hm : ((j : Int) - i + 2) * ((q + 1 : Nat) : Int) = ((j : Int) - i + 2) * q + ((j : Int) - i + 2) := by rw [Int.natCast_add, Int.mul_add]; omega
    rw [hm]
    cases h : ps[q]? with
    | none =>
      have : needS ps base ds i j (q + 1) = needS ps base ds i j q := by rw [needS, List.take_add_one, h]; simp [needS]
      omega
    | some p =>
      have := needV_in (p := p) (base := base) hj hi
      rw [needS_succ h]; omega
end Go.Proofs.Ytpaabfecoghibaa
