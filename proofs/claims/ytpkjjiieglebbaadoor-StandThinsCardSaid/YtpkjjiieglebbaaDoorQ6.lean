/- What the law StandLeast compares, as numbers: the worthiest set with a gap, with a greater one, and with none. Conditions: the stand is valid. -/
import Derived.Test.YtpkjjiieglebbaaDoorPC
namespace Go.Proofs.YtpkjjiieglebbaaDoor
open Go Go.RowKit
def pickTo (ol : List Int) (i : Nat) : List Nat := (List.range i).filter fun i => decide ((i : Int) ∈ ol)
theorem pickTo_yes {ol : List Int} {i : Nat} (h : (i : Int) ∈ ol) : pickTo ol (i + 1) = pickTo ol i ++ [i] := by
  unfold pickTo; rw [List.range_succ, List.filter_append]; simp [h]
theorem pickTo_no {ol : List Int} {i : Nat} (h : (i : Int) ∉ ol) : pickTo ol (i + 1) = pickTo ol i := by
  unfold pickTo; rw [List.range_succ, List.filter_append]; simp [h]
theorem pickTo_le (ol : List Int) (i : Nat) : (pickTo ol i).length ≤ i := by
  have := List.length_filter_le (fun i : Nat => decide ((i : Int) ∈ ol)) (List.range i)
  simpa [pickTo] using this
theorem pickTo_lt {ol : List Int} {i : Nat} : ∀ x ∈ pickTo ol i, x < i := fun x hx => by simpa using (List.mem_filter.1 hx).1
theorem pickTo_sorted (ol : List Int) (i : Nat) : (pickTo ol i).Pairwise (· < ·) := List.pairwise_lt_range.filter _
theorem within_mono {x y u v d e : Int} (h0 : 0 ≤ d) (h : d ≤ e) (hw : within x y u v d = true) : within x y u v e = true := by
  unfold within at *
  rw [decide_eq_true_iff] at *
  have := Int.mul_le_mul h h h0 (by omega)
  omega
theorem good_less {ts : List Tree} {g h : Int} {l : List Nat} (h0 : 0 ≤ g) (hg : g ≤ h) (hl : goodL ts h l) : goodL ts g l := by
  refine ⟨hl.1.imp fun {a b} ⟨q1, q2⟩ => ⟨q1, ?_⟩, hl.2⟩
  unfold hitB at q2 ⊢
  cases e1 : ts[a]? <;> cases e2 : ts[b]? <;> simp only [e1, e2] at q2 ⊢
  rename_i t u
  rcases hw : within t.x t.y u.x u.y g with _ | _
  · rfl
  · rw [within_mono h0 hg hw] at q2; cases q2
theorem sorted_len : ∀ (e : List Nat) (i n : Nat), e.Pairwise (· < ·) → (∀ x ∈ e, i ≤ x ∧ x < n) → e.length ≤ n - i
  | [], _, _, _, _ => Nat.zero_le _
  | x :: e, i, n, hp, hx => by
    rw [List.pairwise_cons] at hp
    have ih := sorted_len e (x + 1) n hp.2 (fun y hy => ⟨hp.1 y hy, (hx y (by simp [hy])).2⟩)
    have := hx x (by simp)
    simp only [List.length_cons]
    omega
theorem from_gap {ts : List Tree} (hg : ∀ t ∈ ts, 1 ≤ t.gl ∧ t.gl ≤ 4000) : ∀ (d i x : Nat), x = i + d → x ≤ ts.length → fromL ts x + (d : Int) ≤ fromL ts i
  | 0, i, x, h, _ => by
    have e : x = i := by omega
    subst e
    simp
  | d + 1, i, x, h, hx => by
    have ih := from_gap hg d (i + 1) x (by omega) hx
    obtain ⟨t, ht⟩ : ∃ t, ts[i]? = some t := ⟨_, List.getElem?_eq_getElem (by omega)⟩
    have h1 := fromL_at ht
    have h2 := hg t (List.mem_of_getElem? ht)
    omega
theorem worth_more {ts : List Tree} (hg : ∀ t ∈ ts, 1 ≤ t.gl ∧ t.gl ≤ 4000) : ∀ (e : List Nat) (i : Nat), i ≤ ts.length → e.Pairwise (· < ·) → (∀ x ∈ e, i ≤ x ∧ x < ts.length) → worthL ts e + (ts.length - i : Int) ≤ fromL ts i + e.length
  | [], i, hi, _, _ => by
    have := from_gap hg (ts.length - i) i ts.length (by omega) (Nat.le_refl _)
    have h0 : 0 ≤ fromL ts ts.length := by
      unfold fromL
      exact (sumL_le _ fun t ht => by have := hg t (List.mem_of_mem_drop ht); omega).1
    simp only [worthL, List.length_nil]
    omega
  | x :: e, i, hi, hp, hx => by
    rw [List.pairwise_cons] at hp
    have hb := hx x (by simp)
    have ih := worth_more hg e (x + 1) (by omega) hp.2 (fun y hy => ⟨hp.1 y hy, (hx y (by simp [hy])).2⟩)
    obtain ⟨t, ht⟩ : ∃ t, ts[x]? = some t := ⟨_, List.getElem?_eq_getElem hb.2⟩
    have h1 := fromL_at ht
    have h2 := from_gap hg (x - i) i x (by omega) (by omega)
    have h3 : glAt ts x = t.gl := by simp [glAt, ht]
    simp only [worthL, List.length_cons]
    omega
theorem worth_all {ts : List Tree} : ∀ (m i : Nat), i + m = ts.length → worthL ts (List.range' i m) = fromL ts i
  | 0, i, h => by
    unfold fromL
    rw [List.drop_of_length_le (by omega)]
    rfl
  | m + 1, i, h => by
    obtain ⟨t, ht⟩ : ∃ t, ts[i]? = some t := ⟨_, List.getElem?_eq_getElem (by omega)⟩
    rw [List.range'_succ]
    simp only [worthL]
    rw [worth_all m (i + 1) (by omega), fromL_at ht]
    simp [glAt, ht]
theorem clash_places {t u : Tree} (h : clash t u = false) : ¬ (u.x = t.x ∧ u.y = t.y) := by
  unfold clash at h
  simp only [Bool.or_eq_false_iff, Bool.and_eq_false_iff] at h
  rintro ⟨h1, h2⟩
  rcases h.2 with h | h
  · simp [h1] at h
  · simp [h2] at h
theorem within_zero {x y u v : Int} (h : within x y u v 0 = true) : x = u ∧ y = v := by
  unfold within at h
  rw [decide_eq_true_iff] at h
  have sq : ∀ z : Int, 0 ≤ z * z ∧ (z * z = 0 → z = 0) := fun z => ⟨by
    rcases Int.le_total 0 z with h | h
    · exact Int.mul_nonneg h h
    · rw [← Int.neg_mul_neg]; exact Int.mul_nonneg (by omega) (by omega), fun h => (Int.mul_eq_zero.1 h).elim id id⟩
  have h1 := sq (x - u)
  have h2 := sq (y - v)
  simp only [Int.mul_zero] at h
  have e1 := h1.2 (by omega)
  have e2 := h2.2 (by omega)
  omega
theorem all_good {ts : List Tree} (hv : treesB [] ts = true) : goodL ts 0 (List.range ts.length) := by
  have hp := ((treesB_iff ts []).1 hv).2.2
  refine ⟨List.pairwise_iff_getElem.2 fun p q hp' hq' hpq => ?_, fun i hi => by simpa using hi⟩
  simp only [List.length_range] at hp' hq'
  simp only [List.getElem_range]
  refine ⟨hpq, ?_⟩
  unfold hitB
  rw [List.getElem?_eq_getElem hp', List.getElem?_eq_getElem hq']
  dsimp only
  rcases hw : within ts[p].x ts[p].y ts[q].x ts[q].y 0 with _ | _
  · rfl
  · have := within_zero hw
    exact absurd this (clash_places (List.pairwise_iff_getElem.1 hp p q hp' hq' hpq))
structure Least (ts : List Tree) (lo hi pr ne gap : Int) (K : List Nat) (wo : Int) : Prop where
  few : ts.length ≤ 14
  gap_ : 0 ≤ gap ∧ gap ≤ 100000
  ok : ∀ t ∈ ts, okTree t
  gl : ∀ t ∈ ts, 0 ≤ t.gl ∧ t.gl ≤ 4000
  sorted : K.Pairwise (· < ·)
  lt : ∀ i ∈ K, i < ts.length
  len : K.length ≤ 14
  good : goodL ts gap K
  worth : worthL ts K = wo
  most : ∀ l, goodL ts gap l → worthL ts l < wo ∨ (worthL ts l = wo ∧ before l K = false)
  more : ∀ g, gap ≤ g → g ≤ 100000 → thinE ⟨ts, lo, hi, pr, ne⟩ g = 0 ∧ (thinR ⟨ts, lo, hi, pr, ne⟩ g).2 ≤ wo
  none : thinE ⟨ts, lo, hi, pr, ne⟩ 0 = 0
  all : (thinR ⟨ts, lo, hi, pr, ne⟩ 0).1.length = ts.length
theorem least_facts {ts : List Tree} {lo hi pr ne gap : Int} (hE : thinE ⟨ts, lo, hi, pr, ne⟩ gap = 0) : Least ts lo hi pr ne gap (thinR ⟨ts, lo, hi, pr, ne⟩ gap).1 (thinR ⟨ts, lo, hi, pr, ne⟩ gap).2 := by
  obtain ⟨hc, hr⟩ := orE_cons_zero hE
  obtain ⟨hr, _⟩ := orE_cons_zero hr
  have hgap : 0 ≤ gap ∧ gap ≤ 100000 := by
    unfold rangeE at hr
    by_cases h : frB gap 0 100000 = true
    · exact frB_iff.1 h
    · rw [if_neg h] at hr; omega
  obtain ⟨hv, h14, hok, _⟩ := valid_of hc
  dsimp only at h14 hok
  have hvt : treesB [] ts = true := by simp only [standB, Bool.and_eq_true] at hv; exact hv.2
  have hg1 : ∀ t ∈ ts, 1 ≤ t.gl ∧ t.gl ≤ 4000 := fun t ht => by
    have h := treesB_ok [] ts hvt t ht
    simp only [treeB, Bool.and_eq_true, spanB_iff] at h
    omega
  have hE' : ∀ g, 0 ≤ g → g ≤ 100000 → thinE ⟨ts, lo, hi, pr, ne⟩ g = 0 := fun g h0 h1 => orZ2 hc (rangeE_zero ⟨h0, h1⟩)
  have hR : ∀ g, 0 ≤ g → g ≤ 100000 → thinR ⟨ts, lo, hi, pr, ne⟩ g = bestOf ts g := fun g h0 h1 => by unfold thinR; rw [if_pos (hE' g h0 h1)]
  rw [hR gap hgap.1 hgap.2]
  obtain ⟨b1, b2, b3⟩ := best_facts (ts := ts) (gap := gap) hg1
  have hs : (bestOf ts gap).1.Pairwise (· < ·) := b1.1.imp fun {a b} q => q.1
  have hl := sorted_len _ 0 ts.length hs (fun x hx => ⟨Nat.zero_le _, b1.2 x hx⟩)
  refine ⟨h14, hgap, hok, fun t ht => by have := hg1 t ht; omega, hs, b1.2, by omega, b1, b2, b3, fun g h0 h1 => ⟨hE' g (by omega) h1, ?_⟩, hE' 0 (by omega) (by omega), ?_⟩
  · rw [hR g (by omega) h1]
    obtain ⟨c1, c2, c3⟩ := best_facts (ts := ts) (gap := g) hg1
    have := b3 _ (good_less hgap.1 h0 c1)
    omega
  · rw [hR 0 (by omega) (by omega)]
    obtain ⟨c1, c2, c3⟩ := best_facts (ts := ts) (gap := 0) hg1
    have hs0 : (bestOf ts 0).1.Pairwise (· < ·) := c1.1.imp fun {a b} q => q.1
    have hl0 := sorted_len _ 0 ts.length hs0 (fun x hx => ⟨Nat.zero_le _, c1.2 x hx⟩)
    have hm := worth_more hg1 _ 0 (Nat.zero_le _) hs0 (fun x hx => ⟨Nat.zero_le _, c1.2 x hx⟩)
    have ha := c3 _ (all_good hvt)
    have hw := worth_all (ts := ts) ts.length 0 (by omega)
    rw [← List.range_eq_range'] at hw
    rw [hw] at ha
    omega
end Go.Proofs.YtpkjjiieglebbaaDoor
