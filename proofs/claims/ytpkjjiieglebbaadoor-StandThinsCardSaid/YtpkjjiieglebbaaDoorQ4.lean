/- The search of Thin finds the worthiest set of trees with a gap, of several the first one. Conditions: girths are not negative; nothing of the program stands here. -/
import Derived.Test.YtpkjjiieglebbaaDoorTN
namespace Go.Proofs.YtpkjjiieglebbaaDoor
open Go Go.RowKit
/-- Does a list come before another one, element by element, a beginning before the whole? -/
def before : List Nat → List Nat → Bool
  | [], [] => false
  | [], _ :: _ => true
  | _ :: _, [] => false
  | a :: x, b :: y => if a = b then before x y else decide (a < b)
theorem before_self : ∀ l, before l l = false
  | [] => rfl
  | a :: x => by simp [before, before_self x]
theorem before_front : ∀ (p x y : List Nat), before (p ++ x) (p ++ y) = before x y
  | [], _, _ => rfl
  | a :: p, x, y => by simp [before, before_front p x y]
theorem before_more (p e : List Nat) : before (p ++ e) p = false := by
  have h := before_front p e []
  rw [List.append_nil] at h
  rw [h]
  cases e <;> rfl
theorem before_less {i j : Nat} (h : i < j) (x y : List Nat) : before (j :: y) (i :: x) = false := by
  simp [before, show ¬ j = i by omega]; omega
theorem before_asymm : ∀ {a b : List Nat}, before a b = false → before b a = false → a = b
  | [], [], _, _ => rfl
  | [], _ :: _, h, _ => by simp [before] at h
  | _ :: _, [], _, h => by simp [before] at h
  | a :: x, b :: y, h1, h2 => by
    by_cases e : a = b
    · subst e
      simp only [before, if_true] at h1 h2
      rw [before_asymm h1 h2]
    · simp only [before, if_neg e, if_neg (fun q => e (Eq.symm q)), decide_eq_false_iff_not] at h1 h2
      omega
def worthL (ts : List Tree) : List Nat → Int
  | [] => 0
  | i :: l => glAt ts i + worthL ts l
theorem worthL_append (ts : List Tree) : ∀ a b, worthL ts (a ++ b) = worthL ts a + worthL ts b
  | [], b => by simp [worthL]
  | i :: a, b => by simp [worthL, worthL_append ts a b]; omega
/-- Indices that increase, of trees with a gap. -/
def goodL (ts : List Tree) (gap : Int) (l : List Nat) : Prop := l.Pairwise (fun k i => k < i ∧ hitB ts gap k i = false) ∧ ∀ i ∈ l, i < ts.length
/-- The lists that go on with a set, by trees from i on. -/
def After (ts : List Tree) (gap : Int) (set : List Nat) (i : Nat) (l : List Nat) : Prop := goodL ts gap l ∧ ∃ e, l = set ++ e ∧ e ≠ [] ∧ ∀ x ∈ e, i ≤ x
/-- What is found of some lists: the first of the worthiest, if it is worth more than what was found before. -/
def Found (ts : List Tree) (C : List Nat → Prop) (st st' : List Nat × Int) : Prop :=
  (st' = st ∧ ∀ l, C l → worthL ts l ≤ st.2) ∨
  (st.2 < st'.2 ∧ C st'.1 ∧ worthL ts st'.1 = st'.2 ∧ ∀ l, C l → worthL ts l < st'.2 ∨ (worthL ts l = st'.2 ∧ before l st'.1 = false))
theorem Found.none {ts : List Tree} {C : List Nat → Prop} {st : List Nat × Int} (h : ∀ l, C l → worthL ts l ≤ st.2) : Found ts C st st := .inl ⟨rfl, h⟩
theorem Found.trans {ts : List Tree} {C D : List Nat → Prop} {a b c : List Nat × Int} (h : Found ts C a b) (k : Found ts D b c) (hCD : ∀ x y, C x → D y → before y x = false) : Found ts (fun l => C l ∨ D l) a c := by
  rcases h with ⟨rfl, h1⟩ | ⟨h1, h2, h3, h4⟩
  · rcases k with ⟨rfl, k1⟩ | ⟨k1, k2, k3, k4⟩
    · exact .inl ⟨rfl, fun l hl => hl.elim (h1 l) (k1 l)⟩
    · refine .inr ⟨k1, .inr k2, k3, fun l hl => ?_⟩
      rcases hl with hl | hl
      · have := h1 l hl; left; omega
      · exact k4 l hl
  · rcases k with ⟨rfl, k1⟩ | ⟨k1, k2, k3, k4⟩
    · refine .inr ⟨h1, .inl h2, h3, fun l hl => ?_⟩
      rcases hl with hl | hl
      · exact h4 l hl
      · have := k1 l hl
        by_cases e : worthL ts l = c.2
        · exact .inr ⟨e, hCD _ _ h2 hl⟩
        · left; omega
    · refine .inr ⟨by omega, .inr k2, k3, fun l hl => ?_⟩
      rcases hl with hl | hl
      · rcases h4 l hl with h | ⟨h, _⟩ <;> (left; omega)
      · exact k4 l hl
theorem Found.same {ts : List Tree} {C D : List Nat → Prop} {a b : List Nat × Int} (h : Found ts C a b) (e : ∀ l, C l ↔ D l) : Found ts D a b := by
  have : C = D := funext fun l => propext (e l)
  rwa [this] at h
theorem worth_tail {ts : List Tree} (hg : ∀ t ∈ ts, 0 ≤ t.gl ∧ t.gl ≤ 4000) : ∀ (e : List Nat) (i : Nat), e.Pairwise (· < ·) → (∀ x ∈ e, i ≤ x ∧ x < ts.length) → worthL ts e ≤ fromL ts i
  | [], i, _, _ => by
    have : 0 ≤ fromL ts i := by
      unfold fromL
      exact (sumL_le _ fun t ht => hg t (List.mem_of_mem_drop ht)).1
    simpa [worthL] using this
  | x :: e, i, hp, hx => by
    rw [List.pairwise_cons] at hp
    have ih := worth_tail hg e (x + 1) hp.2 (fun y hy => ⟨hp.1 y hy, (hx y (by simp [hy])).2⟩)
    have hb := hx x (by simp)
    obtain ⟨t, ht⟩ : ∃ t, ts[x]? = some t := ⟨_, List.getElem?_eq_getElem hb.2⟩
    have h1 := fromL_at ht
    have h2 := fromL_mono ts hg hb.1
    have h3 : glAt ts x = t.gl := by simp [glAt, ht]
    simp only [worthL]
    omega
theorem good_snoc {ts : List Tree} {gap : Int} {set : List Nat} {i : Nat} (h : goodL ts gap set) (hlt : ∀ x ∈ set, x < i) (hi : i < ts.length) (hc : clashG ts gap set i = false) : goodL ts gap (set ++ [i]) := by
  refine ⟨?_, fun x hx => ?_⟩
  · rw [List.pairwise_append]
    refine ⟨h.1, by simp, fun a ha b hb => ?_⟩
    rw [List.mem_singleton] at hb
    subst hb
    refine ⟨hlt a ha, ?_⟩
    simp only [clashG, List.any_eq_false] at hc
    simpa using hc a ha
  · rw [List.mem_append, List.mem_singleton] at hx
    rcases hx with hx | rfl
    · exact h.2 x hx
    · exact hi
theorem after_bound {ts : List Tree} {gap : Int} {set l : List Nat} {i : Nat} (hg : ∀ t ∈ ts, 0 ≤ t.gl ∧ t.gl ≤ 4000) (h : After ts gap set i l) : worthL ts l ≤ worthL ts set + fromL ts i := by
  obtain ⟨⟨h1, h2⟩, e, rfl, _, he⟩ := h
  rw [worthL_append]
  have hp := (List.pairwise_append.1 h1).2.1
  have := worth_tail hg e i (hp.imp fun q => q.1) (fun x hx => ⟨he x hx, h2 x (by simp [hx])⟩)
  omega
/-- A list that goes on from i on is the set with i, one that goes on from that, or one that goes on behind i. -/
theorem after_split {ts : List Tree} {gap : Int} {set : List Nat} {i : Nat} (hgood : goodL ts gap (set ++ [i])) (l : List Nat) :
    (((l = set ++ [i]) ∨ After ts gap (set ++ [i]) (i + 1) l) ∨ After ts gap set (i + 1) l) ↔ After ts gap set i l := by
  constructor
  · rintro ((rfl | ⟨h, e, rfl, hne, he⟩) | ⟨h, e, rfl, hne, he⟩)
    · exact ⟨hgood, [i], rfl, by simp, by simp⟩
    · refine ⟨h, i :: e, by simp, by simp, fun x hx => ?_⟩
      rcases List.mem_cons.1 hx with rfl | hx
      · omega
      · have := he x hx; omega
    · exact ⟨h, e, rfl, hne, fun x hx => by have := he x hx; omega⟩
  · rintro ⟨h, e, rfl, hne, he⟩
    match e, hne with
    | x :: e, _ =>
      have hp := (List.pairwise_append.1 h.1).2.1
      rw [List.pairwise_cons] at hp
      by_cases hx : x = i
      · subst hx
        left
        match e with
        | [] => left; rfl
        | y :: e =>
          right
          refine ⟨h, y :: e, by simp, by simp, fun z hz => ?_⟩
          have := (hp.1 z hz).1; omega
      · right
        refine ⟨h, x :: e, rfl, by simp, fun z hz => ?_⟩
        have h0 := he x (by simp)
        rcases List.mem_cons.1 hz with rfl | hz
        · omega
        · have := (hp.1 z hz).1; omega
theorem after_clash {ts : List Tree} {gap : Int} {set : List Nat} {i : Nat} (hc : clashG ts gap set i = true) (l : List Nat) : After ts gap set (i + 1) l ↔ After ts gap set i l := by
  constructor
  · rintro ⟨h, e, rfl, hne, he⟩
    exact ⟨h, e, rfl, hne, fun x hx => by have := he x hx; omega⟩
  · rintro ⟨h, e, rfl, hne, he⟩
    refine ⟨h, e, rfl, hne, fun x hx => ?_⟩
    have h0 := he x hx
    by_cases hx2 : x = i
    · subst hx2
      obtain ⟨k, hk, hh⟩ := List.any_eq_true.1 hc
      have := (List.pairwise_append.1 h.1).2.2 k hk x hx
      rw [hh] at this
      cases this.2
    · omega
theorem go_found {ts : List Tree} {gap : Int} (hg : ∀ t ∈ ts, 0 ≤ t.gl ∧ t.gl ≤ 4000) : ∀ (m : Nat) (set : List Nat) (worth : Int) (i : Nat) (st : List Nat × Int), m + i = ts.length → goodL ts gap set → (∀ x ∈ set, x < i) → worth = worthL ts set →
    Found ts (After ts gap set i) st (goS ts gap m set worth i st)
  | 0, set, worth, i, st, hm, hgood, hlt, hw => by
    refine Found.none fun l hl => ?_
    obtain ⟨⟨_, h2⟩, e, rfl, hne, he⟩ := hl
    match e, hne with
    | x :: e, _ =>
      have h1 := he x (by simp)
      have h3 := h2 x (by simp)
      omega
  | m + 1, set, worth, i, st, hm, hgood, hlt, hw => by
    unfold goS
    split
    · rename_i hp
      refine Found.none fun l hl => ?_
      have := after_bound hg hl
      omega
    · split
      · rename_i hc
        exact (go_found hg m set worth (i + 1) st (by omega) hgood (fun x hx => by have := hlt x hx; omega) hw).same (after_clash hc)
      · rename_i hc
        have hc' : clashG ts gap set i = false := by simpa using hc
        have hi : i < ts.length := by omega
        have hg2 := good_snoc hgood hlt hi hc'
        have hw2 : worth + glAt ts i = worthL ts (set ++ [i]) := by rw [worthL_append, hw]; simp [worthL]
        have F0 : Found ts (fun l => l = set ++ [i]) st (better (set ++ [i]) (worth + glAt ts i) st) := by
          unfold better
          split
          · rename_i h
            refine .inr ⟨h, rfl, hw2.symm, fun l hl => ?_⟩
            have hl2 : l = set ++ [i] := hl
            subst hl2
            exact .inr ⟨hw2.symm, before_self _⟩
          · rename_i h
            refine Found.none fun l hl => ?_
            have hl2 : l = set ++ [i] := hl
            subst hl2
            omega
        have F1 := go_found hg m (set ++ [i]) (worth + glAt ts i) (i + 1) (better (set ++ [i]) (worth + glAt ts i) st) (by omega) hg2 (fun x hx => by
          rcases List.mem_append.1 hx with hx | hx
          · have := hlt x hx; omega
          · rw [List.mem_singleton] at hx; omega) hw2
        have F2 := go_found hg m set worth (i + 1) (goS ts gap m (set ++ [i]) (worth + glAt ts i) (i + 1) (better (set ++ [i]) (worth + glAt ts i) st)) (by omega) hgood (fun x hx => by have := hlt x hx; omega) hw
        refine ((F0.trans F1 ?_).trans F2 ?_).same (after_split hg2)
        · rintro x y rfl ⟨_, e, rfl, _, _⟩
          exact before_more _ _
        · intro x y hx hy
          obtain ⟨_, e', rfl, hne, he'⟩ := hy
          obtain ⟨e, rfl⟩ : ∃ e, x = set ++ (i :: e) := by
            rcases hx with rfl | ⟨_, e, rfl, _, _⟩
            · exact ⟨[], rfl⟩
            · exact ⟨e, by simp⟩
          rw [before_front]
          match e', hne with
          | z :: e', _ => exact before_less (by have := he' z (by simp); omega) _ _
/-- What Thin says: trees with the gap, of which no others are worth more, nor as much and come before. -/
theorem best_facts {ts : List Tree} {gap : Int} (hg : ∀ t ∈ ts, 1 ≤ t.gl ∧ t.gl ≤ 4000) : goodL ts gap (bestOf ts gap).1 ∧ worthL ts (bestOf ts gap).1 = (bestOf ts gap).2 ∧
    ∀ l, goodL ts gap l → worthL ts l < (bestOf ts gap).2 ∨ (worthL ts l = (bestOf ts gap).2 ∧ before l (bestOf ts gap).1 = false) := by
  have hg0 : ∀ t ∈ ts, 0 ≤ t.gl ∧ t.gl ≤ 4000 := fun t ht => by have := hg t ht; omega
  have hn : goodL ts gap [] := ⟨List.Pairwise.nil, fun i hi => by cases hi⟩
  have F := go_found (gap := gap) hg0 ts.length [] 0 0 ([], 0) (by omega) hn (fun x hx => by cases hx) rfl
  rw [show goS ts gap ts.length [] 0 0 ([], 0) = bestOf ts gap from rfl] at F
  have hA : ∀ l, goodL ts gap l → l ≠ [] → After ts gap [] 0 l := fun l hl hne => ⟨hl, l, rfl, hne, fun _ _ => Nat.zero_le _⟩
  rcases F with ⟨e, h⟩ | ⟨h1, h2, h3, h4⟩
  · rw [e]
    refine ⟨hn, rfl, fun l hl => ?_⟩
    by_cases hne : l = []
    · subst hne; exact .inr ⟨rfl, rfl⟩
    · exfalso
      have hle := h l (hA l hl hne)
      match l, hne with
      | x :: l, _ =>
        have hx := hl.2 x (by simp)
        obtain ⟨t, ht⟩ : ∃ t, ts[x]? = some t := ⟨_, List.getElem?_eq_getElem hx⟩
        have e1 : glAt ts x = t.gl := by simp [glAt, ht]
        have e2 := hg t (List.mem_of_getElem? ht)
        have e3 : ∀ l : List Nat, 0 ≤ worthL ts l := by
          intro l
          induction l with
          | nil => simp [worthL]
          | cons y l ih =>
            have : 0 ≤ glAt ts y := by
              unfold glAt
              split
              · rename_i u hu; have := hg u (List.mem_of_getElem? hu); omega
              · omega
            simp only [worthL]; omega
        have := e3 l
        simp only [worthL] at hle
        omega
  · refine ⟨h2.1, h3, fun l hl => ?_⟩
    by_cases hne : l = []
    · subst hne; left; simpa [worthL] using h1
    · exact h4 l (hA l hl hne)
end Go.Proofs.YtpkjjiieglebbaaDoor
