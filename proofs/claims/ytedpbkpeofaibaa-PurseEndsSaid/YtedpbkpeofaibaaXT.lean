/- Regions that draw, on the shadow: what has come up, what is laid ahead of time, what waiting reads may find. Over any program. Conditions: as each law says. -/
import Derived.Test.YtedpbkpeofaibaaXRa
namespace Go.Proofs.Ytedpbkpeofaibaa
open Go Go.RowKit
set_option linter.unusedSimpArgs false
set_option linter.unusedVariables false
section
variable {ops : Array Oper}
theorem setAll_nil (l : Array Bool) : setAll l [] = l := rfl
theorem setAll_cons (l : Array Bool) (a : Nat) (A : List Nat) : setAll l (a :: A) = setAll (l.setIfInBounds a true) A := rfl
theorem set_comm' (l : Array Bool) (a b : Nat) : (l.setIfInBounds a true).setIfInBounds b true = (l.setIfInBounds b true).setIfInBounds a true := by
  by_cases h : a = b
  · subst h; rfl
  · exact Array.setIfInBounds_comm _ _ h
theorem setAll_set : ∀ (A : List Nat) (l : Array Bool) (i : Nat), setAll (l.setIfInBounds i true) A = (setAll l A).setIfInBounds i true
  | [], _, _ => rfl
  | a :: A, l, i => by
    rw [setAll_cons, setAll_cons, set_comm', setAll_set A]
theorem setAll_perm {A B : List Nat} (h : A.Perm B) : ∀ l, setAll l A = setAll l B := by
  induction h with
  | nil => intro l; rfl
  | cons x _ ih => intro l; rw [setAll_cons, setAll_cons, ih]
  | swap x y A => intro l; rw [setAll_cons, setAll_cons, setAll_cons, setAll_cons, set_comm']
  | trans _ _ h1 h2 => intro l; rw [h1, h2]
theorem set_true_iff (l : Array Bool) (i k : Nat) : ((l.setIfInBounds i true).getD k false = true) ↔ (l.getD k false = true ∨ (k = i ∧ k < l.size)) := by
  by_cases h : i = k
  · subst h
    by_cases hs : i < l.size <;> simp [Array.getD, hs]
  · rw [getD_set_ne false h]
    constructor
    · exact .inl
    · rintro (h' | ⟨h', _⟩)
      · exact h'
      · exact absurd h'.symm h
theorem setAll_size (A : List Nat) (l : Array Bool) : (setAll l A).size = l.size := by
  induction A generalizing l with
  | nil => rfl
  | cons a A ih => rw [setAll_cons, ih]; simp
theorem setAll_true : ∀ (A : List Nat) (l : Array Bool) (k : Nat), ((setAll l A).getD k false = true) ↔ (l.getD k false = true ∨ (k ∈ A ∧ k < l.size))
  | [], l, k => by simp [setAll_nil]
  | a :: A, l, k => by
    rw [setAll_cons, setAll_true A, set_true_iff, List.mem_cons]
    constructor
    · rintro ((h | ⟨rfl, h⟩) | ⟨h, h'⟩)
      · exact .inl h
      · exact .inr ⟨.inl rfl, h⟩
      · exact .inr ⟨.inr h, by simpa using h'⟩
    · rintro (h | ⟨rfl | h, h'⟩)
      · exact .inl (.inl h)
      · exact .inl (.inr ⟨rfl, h'⟩)
      · exact .inr ⟨h, by simpa using h'⟩
/-- Not listed: within the array, and false. -/
theorem unlisted_iff (l : Array Bool) (k : Nat) : l.getD k true = false ↔ (k < l.size ∧ l.getD k false = false) := by
  by_cases h : k < l.size <;> simp [Array.getD, h]
theorem setAll_unlisted {A : List Nat} {l : Array Bool} {k : Nat} : (setAll l A).getD k true = false ↔ (l.getD k true = false ∧ k ∉ A) := by
  rw [unlisted_iff, unlisted_iff, setAll_size, ← Bool.not_eq_true, ← Bool.not_eq_true, setAll_true]
  constructor
  · rintro ⟨h1, h2⟩
    exact ⟨⟨h1, fun h => h2 (.inl h)⟩, fun h => h2 (.inr ⟨h, h1⟩)⟩
  · rintro ⟨⟨h1, h2⟩, h3⟩
    refine ⟨h1, ?_⟩
    rintro (h | ⟨h, _⟩)
    · exact h2 h
    · exact h3 h
theorem setAll_mono {A B : List Nat} (h : ∀ x ∈ A, x ∈ B) {l : Array Bool} {k : Nat} (hk : (setAll l A).getD k false = true) : (setAll l B).getD k false = true := by
  rw [setAll_true] at *
  rcases hk with h' | ⟨h1, h2⟩
  · exact .inl h'
  · exact .inr ⟨h _ h1, h2⟩
/-- What may come up with some of these listed: what may with all of them, or one of the others. -/
theorem ready_le {A E : List Nat} (h : ∀ x ∈ E, x ∈ A) {l : Array Bool} {j : Nat} (hj : j ∈ Region.ready .any ops (setAll l E)) : j ∈ Region.ready .any ops (setAll l A) ∨ (j ∈ A ∧ j ∉ E) := by
  rw [mem_ready] at *
  obtain ⟨h0, o, ho, hall⟩ := hj
  rw [setAll_unlisted] at h0
  by_cases hA : j ∈ A
  · exact .inr ⟨hA, h0.2⟩
  · exact .inl ⟨setAll_unlisted.2 ⟨h0.1, hA⟩, o, ho, fun e he hb => setAll_mono h (hall e he hb)⟩
theorem ready_setAll {E : List Nat} {l : Array Bool} {j : Nat} (hj : j ∈ Region.ready .any ops l) (hE : j ∉ E) : j ∈ Region.ready .any ops (setAll l E) := by
  rw [mem_ready] at *
  obtain ⟨h0, o, ho, hall⟩ := hj
  exact ⟨setAll_unlisted.2 ⟨h0, hE⟩, o, ho, fun e he hb => (setAll_true E l _).2 (.inl (hall e he hb))⟩
end
/-- What is not to be touched, and what was laid ahead of time. -/
def limE (N : Lim) (E : List Nat) : Lim := ⟨N.n, E ++ N.x⟩
section
variable {P : Program} {N : Lim} {G : Gl} {μ : Mu} {h : SH} {w : World} {frz : List Nat}
theorem BlkOk.lim {N M : Lim} (hN : ∀ b, N.new b → b < w.heap.size → M.new b) {j : Nat} {sb : SB} (hb : BlkOk P N μ w j sb) : BlkOk P M μ w j sb := by
  cases sb with
  | row t cs f => obtain ⟨b, κ, cur, sz, h1, h2, h3, h4⟩ := hb; exact ⟨b, κ, cur, sz, h1, hN b h2 (Array.getElem?_eq_some_iff.1 h3).1, h3, h4⟩
  | map es s => obtain ⟨b, κ, ents, cl, h1, h2, h3, h4⟩ := hb; exact ⟨b, κ, ents, cl, h1, hN b h2 (Array.getElem?_eq_some_iff.1 h3).1, h3, h4⟩
  | iter m si se la => obtain ⟨b, κ, mb, κ', h1, h2, h3, h4⟩ := hb; exact ⟨b, κ, mb, κ', h1, hN b h2 (Array.getElem?_eq_some_iff.1 h4).1, h3, h4⟩
  | loop r ts => obtain ⟨b, κ, fn, ts', d, κ', h1, h2, h5, h3, h4⟩ := hb; exact ⟨b, κ, fn, ts', d, κ', h1, hN b h2 (Array.getElem?_eq_some_iff.1 h3).1, h5, h3, h4⟩
  | mark => obtain ⟨b, κ, h1, h2, h3⟩ := hb; exact ⟨b, κ, h1, hN b h2 (Array.getElem?_eq_some_iff.1 h3).1, h3⟩
/-- Less is not to be touched. -/
theorem Den.less {E : List Nat} {b : Nat} (d : Den P (limE N (b :: E)) G μ h w) : Den P (limE N E) G μ h w := by
  refine ⟨⟨d.base.1, fun k hk => d.base.2 k (by simp only [limE, List.cons_append, List.mem_cons] at hk ⊢; exact .inr hk)⟩, fun j sb hj => BlkOk.lim (N := limE N (b :: E)) (M := limE N E) (fun b' hb _ => ⟨hb.1, fun hm => hb.2 (by simp only [limE, List.cons_append, List.mem_cons] at hm ⊢; exact .inr hm)⟩) (d.blk j sb hj), d.old, d.muOld, d.apart, d.kin, d.famLt, d.kinOld, d.glob⟩
/-- A block that is laid ahead of time. -/
theorem Den.lay {E : List Nat} (d : Den P (limE N E) G μ h w) (o : Obj) : Den P (limE N (w.heap.size :: E)) G μ h (w.alloc o) := by
  have hold : ∀ k, k < w.heap.size → (w.alloc o).heap[k]? = w.heap[k]? := fun k hk => Below.heap_alloc w o k hk
  have hsz : (w.alloc o).heap.size = w.heap.size + 1 := by simp
  refine ⟨⟨by rw [hsz]; exact Nat.le_succ_of_le d.base.1, fun k hk => ?_⟩, fun j sb hj => ?_, d.old, d.muOld, d.apart, d.kin, d.famLt, d.kinOld, ?_⟩
  · simp only [limE, List.cons_append, List.mem_cons] at hk
    rw [hsz]
    rcases hk with rfl | hk
    · omega
    · exact Nat.lt_succ_of_lt (d.base.2 k hk)
  · have hk := d.blk j sb hj
    obtain ⟨b', κ', h1, _, h3⟩ := hk.at
    have hb : BlkOk P (limE N (w.heap.size :: E)) μ w j sb := BlkOk.lim (N := limE N E) (M := limE N (w.heap.size :: E)) (fun b hb hlt => ⟨hb.1, fun hm => by
      simp only [limE, List.cons_append, List.mem_cons] at hm
      rcases hm with rfl | hm
      · exact Nat.lt_irrefl _ hlt
      · exact hb.2 hm⟩) hk
    exact hb.keep (Mu.le_refl _) fun b κ'' hb' => hold b (by rw [h1] at hb'; cases hb'; exact h3)
  · exact ⟨d.glob.1, d.glob.2.keep fun b1 hb1 => hold _ (Nat.lt_of_lt_of_le (d.glob.1 b1 hb1) d.base.1)⟩
/-- A block that was laid ahead of time comes up on the shadow. -/
theorem Den.adopt {E : List Nat} {b : Nat} (d : Den P (limE N (b :: E)) G μ h w) (hnd : b ∉ E) (hx : b ∉ N.x) (hn : N.n ≤ b) {t : TypeId} {cur : Array Value} {sz : Nat} (hh : w.heap[b]? = some (.cells cur t (0, 0)))
    (hsz : (P.info? t).map (·.size) = some sz) {κ : Nat} (hcur : cur.size = κ * sz) {cs : List Value} (hg : RelL μ cs cur.toList) :
    μ.le (μ.add h.next b κ) ∧ Den P (limE N E) G (μ.add h.next b κ) (h.push (.row t cs h.next)) w := by
  have hnone := d.muOld h.next (Nat.le_refl _)
  have hle : μ.le (μ.add h.next b κ) := Mu.le_add hnone
  have hnew : (limE N E).new b := ⟨hn, fun hm => by
    simp only [limE, List.mem_append] at hm
    rcases hm with hm | hm
    · exact hnd hm
    · exact hx hm⟩
  have dl := d.less
  have hb : BlkOk P (limE N E) (μ.add h.next b κ) w h.next (.row t cs h.next) :=
    ⟨b, κ, cur, sz, Mu.add_same, hnew, hh, hsz, hcur, by have := hg.length; simp only [Array.length_toList] at this; omega, by
      have hl := hg.length
      rw [← hl, List.take_of_length_le (Nat.le_refl _)]; exact hg.mono hle⟩
  have hnot : ∀ k sk b' κ', h.tr.get k = some sk → μ k = some (b', κ') → b' ≠ b := fun k sk b' κ' hk hm e => by
    obtain ⟨b0, κ0, h1, h2, h3⟩ := (d.blk k sk hk).at
    rw [hm] at h1; cases h1
    exact h2.2 (by simp [limE, e])
  refine ⟨hle, dl.base, ?_, ?_, ?_, ?_, ?_, ?_, ?_, dl.glob⟩
  · intro j sb' hj
    simp only [SH.push_eq, Tr.get_set] at hj
    split at hj
    · rename_i e; subst e; cases hj; exact hb
    · exact (dl.blk j sb' hj).keep hle fun _ _ _ => rfl
  · intro j hj
    simp only [SH.push_eq] at hj ⊢
    rw [Tr.get_set, if_neg (by omega)]
    exact d.old j (by omega)
  · intro j hj
    simp only [SH.push_eq] at hj
    simp only [Mu.add, if_neg (show ¬ j = h.next by omega)]
    exact d.muOld j (by omega)
  · intro i j si sj b1 κ₁ κ₂ hi hj hne hmi hmj
    simp only [SH.push_eq, Tr.get_set] at hi hj
    have key : ∀ k sk b' κ', h.tr.get k = some sk → k ≠ h.next → (μ.add h.next b κ) k = some (b', κ') → μ k = some (b', κ') := fun k sk b' κ' hk hkn hm => by
      simpa only [Mu.add, if_neg hkn] using hm
    by_cases ei : i = h.next <;> by_cases ej : j = h.next
    · subst ei; subst ej
      rw [if_pos rfl] at hi hj
      cases hi; cases hj
      exact hne rfl
    · rw [if_neg ej] at hj
      have := hnot j sj _ _ hj (key j sj b1 κ₂ hj ej hmj)
      rw [ei, Mu.add_same] at hmi
      cases hmi
      exact this rfl
    · rw [if_neg ei] at hi
      have := hnot i si _ _ hi (key i si b1 κ₁ hi ei hmi)
      rw [ej, Mu.add_same] at hmj
      cases hmj
      exact this rfl
    · rw [if_neg ei] at hi
      rw [if_neg ej] at hj
      exact d.apart i j si sj b1 κ₁ κ₂ hi hj hne (key i si b1 κ₁ hi ei hmi) (key j sj b1 κ₂ hj ej hmj)
  · intro j t cs f hj
    simp only [SH.push_eq, Tr.get_set] at hj
    split at hj
    · rename_i e; subst e; cases hj
      show h.next ∈ kinOf _ h.next
      simp [kinOf, SH.push_eq, d.kinOld h.next (Nat.le_refl _)]
    · exact d.kin j t cs f hj
  · intro j t cs f hj
    simp only [SH.push_eq, Tr.get_set] at hj ⊢
    split at hj
    · rename_i e; subst e; cases hj; omega
    · exact Nat.lt_succ_of_lt (d.famLt j t cs f hj)
  · intro f hfl
    exact d.kinOld f (by simp only [SH.push_eq] at hfl; omega)
end
end Go.Proofs.Ytedpbkpeofaibaa
