/- The trees that a list chooses beside one, as numbers; neighbours are so of each other. Conditions: none; nothing of the program stands here. -/
import Derived.Test.YtpkjjiieglebbaaDoorQ1
import Derived.Test.YtpkjjiieglebbaaDoorLF
import Derived.Test.YtpkjjiieglebbaaDoorR0
import Derived.Test.YtpkjjiieglebbaaDoorRS
namespace Go.Proofs.YtpkjjiieglebbaaDoor
open Go Go.RowKit
theorem map_getD (l : List Nat) : (List.range l.length).map (fun p => l.getD p 0) = l := by
  apply List.ext_getElem
  · simp
  · intro i h1 h2
    simp [List.getD_eq_getElem?_getD, List.getElem?_eq_getElem h2]
theorem count_at (l : List Nat) (f : Nat → Bool) : ((List.range l.length).filter fun p => f (l.getD p 0)).length = (l.filter f).length := by
  rw [← List.countP_eq_length_filter, ← List.countP_eq_length_filter]
  have e : List.countP f l = List.countP f ((List.range l.length).map fun p => l.getD p 0) := by rw [map_getD]
  rw [e, List.countP_map]
  rfl
def natsI (l : List Nat) : List Int := l.map fun i : Nat => (i : Int)
theorem natsI_at (l : List Nat) (p i : Nat) (h : l[p]? = some i) : (natsI l)[p]? = some (i : Int) := by simp [natsI, h]
theorem natsI_in {ts : List Tree} {l : List Nat} (h : ∀ i ∈ l, i < ts.length) : ∀ x ∈ natsI l, 0 ≤ x ∧ x < (ts.length : Int) := by
  intro x hx
  obtain ⟨i, hi, rfl⟩ := List.mem_map.1 hx
  have := h i hi
  omega
theorem left_at {ts : List Tree} {l : List Nat} (h : ∀ i ∈ l, i < ts.length) {p i : Nat} (hp : l[p]? = some i) : (leftL ts (natsI l))[p]? = ts[i]? := by
  have := leftL_at (natsI_in h) (natsI_at l p i hp)
  rwa [show ((i : Int)).toNat = i by omega] at this
theorem left_len {ts : List Tree} {l : List Nat} (h : ∀ i ∈ l, i < ts.length) : (leftL ts (natsI l)).length = l.length := by
  rw [leftL_len (natsI_in h)]; simp [natsI]
theorem range_at : ∀ ts : List Tree, (List.range ts.length).filterMap (fun i => ts[i]?) = ts
  | [] => rfl
  | t :: ts => by
    have h := range_at ts
    rw [List.length_cons, List.range_succ_eq_map, List.filterMap_cons]
    simp only [List.getElem?_cons_zero, List.filterMap_map]
    congr 1
theorem left_sub (ts : List Tree) (g : Nat → Bool) : (leftL ts (natsI ((List.range ts.length).filter g))).Sublist ts := by
  have h1 : leftL ts (natsI ((List.range ts.length).filter g)) = ((List.range ts.length).filter g).filterMap fun i => ts[i]? := by
    unfold leftL natsI
    rw [List.filterMap_map]
    rfl
  rw [h1]
  have h2 := (List.filter_sublist (p := g) (l := List.range ts.length)).filterMap (fun i => ts[i]?)
  rwa [range_at] at h2
theorem treesB_iff : ∀ (l front : List Tree), treesB front l = true ↔ (∀ t ∈ l, treeB t = true) ∧ (∀ t ∈ l, ∀ o ∈ front, clash t o = false) ∧ l.Pairwise (fun o t => clash t o = false)
  | [], front => by simp [treesB]
  | t :: rest, front => by
    have ih := treesB_iff rest (front ++ [t])
    simp only [treesB, Bool.and_eq_true, ih, Bool.not_eq_true', List.any_eq_false, List.mem_cons, List.pairwise_cons, forall_eq_or_imp, List.mem_append]
    constructor
    · rintro ⟨⟨h1, h2⟩, h3, h4, h5⟩
      exact ⟨⟨h1, h3⟩, ⟨fun o ho => by simpa using h2 o ho, fun u hu o ho => h4 u hu o (.inl ho)⟩, fun u hu => h4 u hu t (.inr (.inl rfl)), h5⟩
    · rintro ⟨⟨h1, h3⟩, ⟨h2, h4⟩, h6, h5⟩
      refine ⟨⟨h1, fun o ho => by simpa using h2 o ho⟩, h3, fun u hu o ho => ?_, h5⟩
      rcases ho with ho | ho | ho
      · exact h4 u hu o ho
      · subst ho; exact h6 u hu
      · cases ho
theorem left_valid {s : Stand} (hv : standB s = true) (g : Nat → Bool) : standB { s with ts := leftL s.ts (natsI ((List.range s.ts.length).filter g)) } = true := by
  have hsub := left_sub s.ts g
  simp only [standB, headB, Bool.and_eq_true, decide_eq_true_eq] at hv ⊢
  refine ⟨⟨⟨⟨?_, hv.1.1.1.2⟩, hv.1.1.2⟩, hv.1.2⟩, ?_⟩
  · have := hsub.length_le
    omega
  · have h := (treesB_iff s.ts []).1 hv.2
    exact (treesB_iff _ []).2 ⟨fun t ht => h.1 t (hsub.subset ht), fun t ht o ho => (by simp at ho), h.2.2.sublist hsub⟩
theorem nb_left {ts : List Tree} {l : List Nat} (h : ∀ i ∈ l, i < ts.length) (hn : l.Nodup) {ne : Int} {k at_ : Nat} (hat : l[at_]? = some k) (p : Nat) (hp : p < l.length) : nbB (leftL ts (natsI l)) ne at_ p = nbB ts ne k (l.getD p 0) := by
  have e : l[p]? = some (l.getD p 0) := by simp [List.getD_eq_getElem?_getD, List.getElem?_eq_getElem hp]
  unfold nbB
  rw [left_at h hat, left_at h e]
  have hk : (p == at_) = (l.getD p 0 == k) := by
    have ha : at_ < l.length := (List.getElem?_eq_some_iff.1 hat).1
    by_cases q : p = at_
    · subst q
      rw [hat] at e
      rw [show l.getD p 0 = k from (Option.some.inj e).symm]
      simp
    · have : l.getD p 0 ≠ k := by
        intro hh
        rw [hh] at e
        obtain ⟨p1, e1⟩ := List.getElem?_eq_some_iff.1 e
        obtain ⟨p2, e2⟩ := List.getElem?_eq_some_iff.1 hat
        rcases Nat.lt_trichotomy p at_ with hlt | hlt | hlt
        · exact List.pairwise_iff_getElem.1 hn p at_ p1 p2 hlt (e1.trans e2.symm)
        · exact q hlt
        · exact List.pairwise_iff_getElem.1 hn at_ p p2 p1 hlt (e2.trans e1.symm)
      rw [beq_eq_false_iff_ne.2 q, beq_eq_false_iff_ne.2 this]
  rw [hk]
theorem near_left {ts : List Tree} (g : Nat → Bool) {ne : Int} {k at_ : Nat} (hat : ((List.range ts.length).filter g)[at_]? = some k) : (nearL (leftL ts (natsI ((List.range ts.length).filter g))) ne at_).length ≤ (nearL ts ne k).length := by
  have hlt : ∀ i ∈ (List.range ts.length).filter g, i < ts.length := fun i hi => by simpa using (List.mem_filter.1 hi).1
  have hnd : ((List.range ts.length).filter g).Nodup := List.nodup_range.filter _
  have e1 : nearL (leftL ts (natsI ((List.range ts.length).filter g))) ne at_ = (List.range ((List.range ts.length).filter g).length).filter fun p => nbB ts ne k (((List.range ts.length).filter g).getD p 0) := by
    unfold nearL nearTo
    rw [left_len hlt]
    exact List.filter_congr fun p hp => nb_left hlt hnd hat p (by simpa using hp)
  rw [e1, count_at _ (nbB ts ne k), List.filter_filter]
  unfold nearL nearTo
  rw [← List.countP_eq_length_filter, ← List.countP_eq_length_filter]
  exact List.countP_mono_left fun x _ hx => by
    simp only [Bool.and_eq_true] at hx; exact hx.1
theorem rate_left {s : Stand} (hv : standB s = true) (g : Nat → Bool) {k at_ : Nat} (hat : ((List.range s.ts.length).filter g)[at_]? = some k) :
    rateL s k ≤ rateL { s with ts := leftL s.ts (natsI ((List.range s.ts.length).filter g)) } at_ ∧ rateH s k ≤ rateH { s with ts := leftL s.ts (natsI ((List.range s.ts.length).filter g)) } at_ := by
  have h := near_left g (ne := s.near) hat
  have hp : 0 ≤ s.press := by simp only [standB, headB, Bool.and_eq_true, spanB_iff, frB_iff] at hv; omega
  have hm : s.press * ((nearL (leftL s.ts (natsI ((List.range s.ts.length).filter g))) s.near at_).length : Int) ≤ s.press * ((nearL s.ts s.near k).length : Int) := Int.mul_le_mul_of_nonneg_left (by omega) hp
  unfold rateL rateH takenN
  dsimp only
  omega
theorem first_anti {p q : Nat → Bool} (h : ∀ j, j ≤ 200 → p j = true → q j = true) : firstTo q 201 ≤ firstTo p 201 := by
  obtain ⟨u, eu, a1, a2, a3, a4, a5⟩ := first_facts p
  obtain ⟨v, ev, b1, b2, b3, b4, b5⟩ := first_facts q
  rw [eu, ev]
  rcases Int.lt_or_le 200 u with h1 | h1
  · omega
  · have := b5 u.toNat (by omega) (h _ (by omega) (a4 _ (by omega) (by omega)))
    omega
/-- What Girth, Faces and Ready say of a tree that is left, and of it among all trees. -/
theorem left_more {r : Rule} {s : Stand} (hv : standB s = true) (g : Nat → Bool) {k at_ : Nat} {t : Tree} (ht : s.ts[k]? = some t) (hat : ((List.range s.ts.length).filter g)[at_]? = some k) (y n : Int) (hy : 0 ≤ y) :
    (girthAt s k y).1 ≤ (girthAt { s with ts := leftL s.ts (natsI ((List.range s.ts.length).filter g)) } at_ y).1 ∧ (girthAt s k y).2 ≤ (girthAt { s with ts := leftL s.ts (natsI ((List.range s.ts.length).filter g)) } at_ y).2 ∧
    (facesAt r s k y).1 ≤ (facesAt r { s with ts := leftL s.ts (natsI ((List.range s.ts.length).filter g)) } at_ y).1 ∧ (facesAt r s k y).2 ≤ (facesAt r { s with ts := leftL s.ts (natsI ((List.range s.ts.length).filter g)) } at_ y).2 ∧
    (readyAt r { s with ts := leftL s.ts (natsI ((List.range s.ts.length).filter g)) } at_ n).1 ≤ (readyAt r s k n).1 ∧ (readyAt r { s with ts := leftL s.ts (natsI ((List.range s.ts.length).filter g)) } at_ n).2 ≤ (readyAt r s k n).2 := by
  obtain ⟨h1, h2⟩ := rate_left hv g hat
  have hlt : ∀ i ∈ (List.range s.ts.length).filter g, i < s.ts.length := fun i hi => by simpa using (List.mem_filter.1 hi).1
  have ht2 : (leftL s.ts (natsI ((List.range s.ts.length).filter g)))[at_]? = some t := by rw [left_at hlt hat]; exact ht
  have ek : ((k : Int)).toNat = k := by omega
  have ea : ((at_ : Int)).toNat = at_ := by omega
  unfold girthAt facesAt readyAt
  simp only [ek, ea, ht, ht2]
  have q1 := mul_mono hy h1
  have q2 := mul_mono hy h2
  refine ⟨by omega, by omega, manyN_mono (by omega), manyN_mono (by omega), first_anti fun j _ hj => ?_, first_anti fun j _ hj => ?_⟩
  · exact decide_eq_true (Int.le_trans (reach_yes hj) (manyN_mono (by
      have := mul_mono (y := (j : Int)) (by omega) h2
      omega)))
  · exact decide_eq_true (Int.le_trans (reach_yes hj) (manyN_mono (by
      have := mul_mono (y := (j : Int)) (by omega) h1
      omega)))
end Go.Proofs.YtpkjjiieglebbaaDoor
namespace Go.Proofs.YtpkjjiieglebbaaDoor
open Go Go.RowKit
/-- The trees that are chosen: one, and those that a list names. -/
def chosen (kn : Nat) (bl : List Int) (i : Nat) : Bool := i == kn || decide ((i : Int) ∈ bl)
def someTo (kn : Nat) (bl : List Int) (i : Nat) : List Nat := (List.range i).filter (chosen kn bl)
def atTo (kn : Nat) (bl : List Int) (i : Nat) : Int := if kn < i then ((someTo kn bl kn).length : Int) else -1
theorem someTo_yes {kn : Nat} {bl : List Int} {i : Nat} (h : chosen kn bl i = true) : someTo kn bl (i + 1) = someTo kn bl i ++ [i] := by
  unfold someTo; rw [List.range_succ, List.filter_append]; simp [h]
theorem someTo_no {kn : Nat} {bl : List Int} {i : Nat} (h : chosen kn bl i = false) : someTo kn bl (i + 1) = someTo kn bl i := by
  unfold someTo; rw [List.range_succ, List.filter_append]; simp [h]
theorem someTo_le (kn : Nat) (bl : List Int) (i : Nat) : (someTo kn bl i).length ≤ i := by
  have := List.length_filter_le (chosen kn bl) (List.range i)
  simpa [someTo] using this
theorem someTo_lt {kn : Nat} {bl : List Int} {i : Nat} : ∀ x ∈ someTo kn bl i, x < i := fun x hx => by simpa using (List.mem_filter.1 hx).1
theorem someTo_at (kn : Nat) (bl : List Int) : ∀ d : Nat, (someTo kn bl (kn + 1 + d))[(someTo kn bl kn).length]? = some kn
  | 0 => by
    rw [Nat.add_zero, someTo_yes (by simp [chosen])]
    simp
  | d + 1 => by
    have h := someTo_at kn bl d
    rw [show kn + 1 + (d + 1) = kn + 1 + d + 1 by omega]
    rcases hc : chosen kn bl (kn + 1 + d) with _ | _
    · rw [someTo_no hc]; exact h
    · rw [someTo_yes hc, List.getElem?_append_left (List.getElem?_eq_some_iff.1 h).1]; exact h
theorem someTo_all {kn n : Nat} {bl : List Int} (h : kn < n) : (someTo kn bl n)[(someTo kn bl kn).length]? = some kn := by
  have := someTo_at kn bl (n - (kn + 1))
  rwa [show kn + 1 + (n - (kn + 1)) = n by omega] at this
theorem atTo_self (kn : Nat) (bl : List Int) : atTo kn bl (kn + 1) = ((someTo kn bl kn).length : Int) := by unfold atTo; rw [if_pos (by omega)]
theorem atTo_other {kn : Nat} {bl : List Int} {i : Nat} (h : i ≠ kn) : atTo kn bl (i + 1) = atTo kn bl i := by
  unfold atTo
  by_cases h1 : kn < i
  · rw [if_pos h1, if_pos (by omega)]
  · rw [if_neg h1, if_neg (by omega)]
theorem near_mem {ts : List Tree} {ne : Int} {k i : Nat} (hi : i < ts.length) : (i : Int) ∈ natsI (nearL ts ne k) ↔ nbB ts ne k i = true := by
  unfold natsI nearL nearTo
  rw [List.mem_map]
  constructor
  · rintro ⟨j, hj, e⟩
    obtain rfl : j = i := by omega
    exact (List.mem_filter.1 hj).2
  · intro h
    exact ⟨i, List.mem_filter.2 ⟨by simpa using hi, h⟩, rfl⟩
theorem within_sym (x y u v d : Int) : within x y u v d = within u v x y d := by
  unfold within
  have e1 : x - u = -(u - x) := by omega
  have e2 : y - v = -(v - y) := by omega
  rw [e1, e2, Int.neg_mul_neg, Int.neg_mul_neg]
theorem nb_sym {ts : List Tree} {ne : Int} {k i : Nat} : nbB ts ne i k = nbB ts ne k i := by
  unfold nbB
  cases h1 : ts[i]? <;> cases h2 : ts[k]? <;> simp [within_sym, Bool.beq_comm]
/-- What the law reckons of two trees. -/
theorem nb_reckon {ts : List Tree} {ne : Int} {k i : Nat} {t u : Tree} (ht : ts[k]? = some t) (hu : ts[i]? = some u) (hk : i ≠ k) : nbB ts ne k i = true ↔ (u.x - t.x) * (u.x - t.x) + (u.y - t.y) * (u.y - t.y) ≤ ne * ne := by
  rw [← nb_sym]
  unfold nbB
  rw [ht, hu]
  simp [within, show ¬ k = i from fun e => hk e.symm]
theorem nb_self {ts : List Tree} {ne : Int} {k : Nat} : nbB ts ne k k = false := by
  unfold nbB
  cases ts[k]? <;> simp
theorem kept_zero {n : Int} : ∀ {l : List Nat} {least : Int}, l.Pairwise (· < ·) → (∀ x ∈ l, least ≤ (x : Int) ∧ (x : Int) < n) → keptE n least (natsI l) = 0
  | [], _, _, _ => rfl
  | x :: l, least, hp, hx => by
    rw [List.pairwise_cons] at hp
    have h0 := hx x (by simp)
    show (if frB (x : Int) least (n - 1) then keptE n ((x : Int) + 1) (natsI l) else 12) = 0
    rw [if_pos (frB_iff.2 ⟨h0.1, by omega⟩)]
    exact kept_zero hp.2 fun y hy => ⟨by have := hp.1 y hy; omega, (hx y (by simp [hy])).2⟩
theorem orZ2 {a b : Int} (ha : a = 0) (hb : b = 0) : orE [a, b] = 0 := by subst ha; subst hb; rfl
theorem orZ3 {a b c : Int} (ha : a = 0) (hb : b = 0) (hc : c = 0) : orE [a, b, c] = 0 := by subst ha; subst hb; subst hc; rfl
theorem orZ4 {a b c d : Int} (ha : a = 0) (hb : b = 0) (hc : c = 0) (hd : d = 0) : orE [a, b, c, d] = 0 := by subst ha; subst hb; subst hc; subst hd; rfl
theorem treeZ {n k : Nat} (h : k < n) : treeE (n : Int) (k : Int) = 0 := by unfold treeE; rw [if_pos (frB_iff.2 ⟨by omega, by omega⟩)]
/-- What the law compares: a tree in its stand, and in the one that is left. -/
theorem pairs_facts {r : Rule} {ts : List Tree} {lo hi pr ne : Int} {n kn : Nat} (bl : List Int) {t : Tree} (hr : ruleE r = 0) (hc : checkE ⟨ts, lo, hi, pr, ne⟩ = 0) (hn : n = ts.length) (hk : kn < n) (ht : ts[kn]? = some t) :
    ∃ ts' : List Tree, leftE ⟨ts, lo, hi, pr, ne⟩ (natsI (someTo kn bl n)) = 0 ∧ leftS ⟨ts, lo, hi, pr, ne⟩ (natsI (someTo kn bl n)) = ⟨ts', lo, hi, pr, ne⟩ ∧ ts'.length = (someTo kn bl n).length ∧ ts'[(someTo kn bl kn).length]? = some t ∧
      ∀ y m : Int, (0 ≤ y ∧ y ≤ 200) → (1 ≤ m ∧ m ≤ 3) →
        (girthE ⟨ts, lo, hi, pr, ne⟩ (kn : Int) y = 0 ∧ facesE r ⟨ts, lo, hi, pr, ne⟩ (kn : Int) y = 0 ∧ readyE r ⟨ts, lo, hi, pr, ne⟩ (kn : Int) m = 0) ∧
        (girthE ⟨ts', lo, hi, pr, ne⟩ ((someTo kn bl kn).length : Int) y = 0 ∧ facesE r ⟨ts', lo, hi, pr, ne⟩ ((someTo kn bl kn).length : Int) y = 0 ∧ readyE r ⟨ts', lo, hi, pr, ne⟩ ((someTo kn bl kn).length : Int) m = 0) ∧
        ((girthR ⟨ts, lo, hi, pr, ne⟩ (kn : Int) y).1 ≤ (girthR ⟨ts', lo, hi, pr, ne⟩ ((someTo kn bl kn).length : Int) y).1 ∧ (girthR ⟨ts, lo, hi, pr, ne⟩ (kn : Int) y).2 ≤ (girthR ⟨ts', lo, hi, pr, ne⟩ ((someTo kn bl kn).length : Int) y).2) ∧
        ((facesR r ⟨ts, lo, hi, pr, ne⟩ (kn : Int) y).1 ≤ (facesR r ⟨ts', lo, hi, pr, ne⟩ ((someTo kn bl kn).length : Int) y).1 ∧ (facesR r ⟨ts, lo, hi, pr, ne⟩ (kn : Int) y).2 ≤ (facesR r ⟨ts', lo, hi, pr, ne⟩ ((someTo kn bl kn).length : Int) y).2) ∧
        ((readyR r ⟨ts', lo, hi, pr, ne⟩ ((someTo kn bl kn).length : Int) m).1 ≤ (readyR r ⟨ts, lo, hi, pr, ne⟩ (kn : Int) m).1 ∧ (readyR r ⟨ts', lo, hi, pr, ne⟩ ((someTo kn bl kn).length : Int) m).2 ≤ (readyR r ⟨ts, lo, hi, pr, ne⟩ (kn : Int) m).2) := by
  have hv : standB ⟨ts, lo, hi, pr, ne⟩ = true := by
    unfold checkE at hc
    by_cases h : standB ⟨ts, lo, hi, pr, ne⟩ = true
    · exact h
    · rw [if_neg h] at hc; omega
  subst hn
  have hlt : ∀ i ∈ someTo kn bl ts.length, i < ts.length := fun i hi => someTo_lt i hi
  have hat := someTo_all (bl := bl) hk
  have hle : leftE ⟨ts, lo, hi, pr, ne⟩ (natsI (someTo kn bl ts.length)) = 0 := orZ2 hc (kept_zero (List.pairwise_lt_range.filter _) fun x hx => ⟨by omega, by have := hlt x hx; dsimp only; omega⟩)
  have hlen := left_len hlt
  have hv' : standB ⟨leftL ts (natsI (someTo kn bl ts.length)), lo, hi, pr, ne⟩ = true := left_valid hv (chosen kn bl)
  have hc' : checkE ⟨leftL ts (natsI (someTo kn bl ts.length)), lo, hi, pr, ne⟩ = 0 := by unfold checkE; rw [if_pos hv']
  refine ⟨leftL ts (natsI (someTo kn bl ts.length)), hle, by unfold leftS; rw [if_pos hle], hlen, by rw [left_at hlt hat]; exact ht, fun y m hy hm => ?_⟩
  have hq : (someTo kn bl kn).length < (leftL ts (natsI (someTo kn bl ts.length))).length := by rw [hlen]; exact (List.getElem?_eq_some_iff.1 hat).1
  have g1 : girthE ⟨ts, lo, hi, pr, ne⟩ (kn : Int) y = 0 := orZ3 hc (treeZ hk) (rangeE_zero hy)
  have f1 : facesE r ⟨ts, lo, hi, pr, ne⟩ (kn : Int) y = 0 := orZ4 hr hc (treeZ hk) (rangeE_zero hy)
  have r1 : readyE r ⟨ts, lo, hi, pr, ne⟩ (kn : Int) m = 0 := orZ4 hr hc (treeZ hk) (rangeE_zero hm)
  have g2 : girthE ⟨leftL ts (natsI (someTo kn bl ts.length)), lo, hi, pr, ne⟩ ((someTo kn bl kn).length : Int) y = 0 := orZ3 hc' (treeZ hq) (rangeE_zero hy)
  have f2 : facesE r ⟨leftL ts (natsI (someTo kn bl ts.length)), lo, hi, pr, ne⟩ ((someTo kn bl kn).length : Int) y = 0 := orZ4 hr hc' (treeZ hq) (rangeE_zero hy)
  have r2 : readyE r ⟨leftL ts (natsI (someTo kn bl ts.length)), lo, hi, pr, ne⟩ ((someTo kn bl kn).length : Int) m = 0 := orZ4 hr hc' (treeZ hq) (rangeE_zero hm)
  have M : _ := left_more (r := r) hv (chosen kn bl) (k := kn) (at_ := (someTo kn bl kn).length) ht hat y m hy.1
  refine ⟨⟨g1, f1, r1⟩, ⟨g2, f2, r2⟩, ?_⟩
  unfold girthR facesR readyR
  rw [if_pos g1, if_pos g2, if_pos f1, if_pos f2, if_pos r1, if_pos r2]
  exact ⟨⟨M.1, M.2.1⟩, ⟨M.2.2.1, M.2.2.2.1⟩, M.2.2.2.2⟩
set_option maxHeartbeats 1000000 in
theorem refAt_same (a : Option Addr) (n c : Nat) (l : List Int) (v : Int) (w : World) (hA : IntsAt w a n l) (hn : n ≤ maxLen) :
    Calls Tryd.prog 46 #[.slice a n c, .int .i64 v] w fun e w' => ∃ z : Int, e = .returned (.int .i64 z) ∧ Hid (0 ≤ z ↔ v ∈ l) ∧ w = w' := by
  obtain ⟨hl, hA⟩ := hA
  subst hl
  unfold maxLen at hn
  have hlen : l.length ≤ 9223372036854775807 := by omega
  clear hn
  have HA := Lib.hid hA
  clear hA
  go_enter Tryd.func46, Tryd.ntmps46
  go_wp2_with fail
  go_loop [5] (fun i => ∃ k : Nat, k ≤ l.length ∧ i = .int .i64 k ∧ Hid (v ∉ l.take k)) (fun i => l.length - (intOf i).toNat)
  case atStart => exact ⟨0, Nat.zero_le _, rfl, Lib.hid (by simp)⟩
  case round =>
    obtain ⟨k, hk, rfl, HK⟩ := hrel
    by_cases hlt : k < l.length
    · obtain ⟨x, hx⟩ : ∃ x, l[k]? = some x := ⟨_, List.getElem?_eq_getElem hlt⟩
      rcases HA.out with rfl | ⟨p, off, rfl, hpl, hP⟩
      · simp at hlt
      have c0 := hP k x hx
      rcases hxy : (x == v) with _ | _
      · have HK1 : Hid (v ∉ l.take (k + 1)) := Lib.hid (by
          rw [List.take_add_one, hx]
          simp only [List.mem_append, Option.toList_some, List.mem_singleton, not_or]
          refine ⟨HK.out, fun e => ?_⟩
          subst e
          simp at hxy)
        clear hP hx
        go_wp2_with fail
        go_round
        case rel => exact ⟨k + 1, by omega, by go_num, HK1⟩
        case measure => simp [intOf]; omega
      · have HM : Hid (v ∈ l) := Lib.hid (by
          have : x = v := by simpa using hxy
          rw [← this]; exact List.mem_of_getElem? hx)
        clear hP hx
        go_wp2_with fail
        go_ret; exact ⟨k, rfl, Lib.hid ⟨fun _ => HM.out, fun _ => by omega⟩, rfl⟩
    · have HM : Hid (v ∉ l) := Lib.hid (by
        have := HK.out
        rwa [List.take_of_length_le (by omega)] at this)
      go_wp2_with fail
      go_ret; exact ⟨-1, rfl, Lib.hid ⟨fun h => absurd h (by omega), fun h => absurd h HM.out⟩, rfl⟩
end Go.Proofs.YtpkjjiieglebbaaDoor
