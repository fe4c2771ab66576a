/- The static plan of a region, by bits: what it finds is so. Over any program. Conditions: as each law says. -/
import Derived.Test.YtedpbkpeofaibaaXV
namespace Go.Proofs.Ytedpbkpeofaibaa
open Go Go.RowKit
set_option linter.unusedSimpArgs false
set_option linter.unusedVariables false
section
variable {ops : Array Oper}
theorem bitN_eq (L k : Nat) : bitN L k = L.testBit k := bit_iff L k
theorem setN_eq (L i : Nat) : setN L i = L ||| 2 ^ i := by
  unfold setN
  show (match L ||| 2 ^ i with
    | 0 => 0
    | m + 1 => m + 1) = _
  generalize L ||| 2 ^ i = x
  cases x <;> rfl
/-- Bits say what has come up. -/
def Msk (l : Array Bool) (L : Nat) : Prop := ∀ k, l.getD k false = L.testBit k
theorem Msk.set {l : Array Bool} {L i : Nat} (h : Msk l L) (hi : i < l.size) : Msk (l.setIfInBounds i true) (setN L i) := fun k => by
  rw [setN_eq, Nat.testBit_or, Nat.testBit_two_pow]
  cases hq : (l.setIfInBounds i true).getD k false with
  | true =>
    rcases (set_true_iff _ _ _).1 hq with h1 | h1
    · rw [← h k, h1]; rfl
    · rw [decide_eq_true h1.1.symm, Bool.or_true]
  | false =>
    have h1 : l.getD k false = false := by
      cases h2 : l.getD k false with
      | false => rfl
      | true => rw [(set_true_iff _ _ _).2 (.inl h2)] at hq; cases hq
    have h2 : ¬ i = k := fun e => by
      subst e
      rw [(set_true_iff _ _ _).2 (.inr ⟨rfl, hi⟩)] at hq; cases hq
    rw [← h k, h1, decide_eq_false h2]; rfl
theorem Msk.all : ∀ (A : List Nat) {l : Array Bool} {L : Nat}, Msk l L → (∀ e ∈ A, e < l.size) → Msk (setAll l A) (setAllN L A)
  | [], _, _, h, _ => h
  | e :: A, l, L, h, hs => by
    rw [setAll_cons]
    exact Msk.all A (h.set (hs e (by simp))) fun x hx => by rw [Array.size_setIfInBounds]; exact hs x (by simp [hx])
theorem dmask_iff : ∀ (es : List Edge) (k : Nat), (dmask es).testBit k = true ↔ ∃ e ∈ es, Region.binds .any e = true ∧ e.on = k
  | [], k => by simp [dmask]
  | e :: es, k => by
    unfold dmask
    cases hb : Region.binds .any e with
    | true =>
      rw [cond_true]
      show (2 ^ e.on ||| dmask es).testBit k = true ↔ _
      rw [Nat.testBit_or, Bool.or_eq_true, Nat.testBit_two_pow, dmask_iff es k]
      simp [hb]
    | false =>
      rw [cond_false, dmask_iff es k]
      simp [hb]
theorem depL_eq : ∀ os : List Oper, depL os = os.map fun o => dmask o.after.toList
  | [] => rfl
  | o :: os => by
    rw [depL, List.map_cons, ← depL_eq os]
    split <;> rename_i h <;> rw [h]
theorem land_iff (d L : Nat) : Nat.beq (Nat.land d L) d = true ↔ ∀ k, d.testBit k = true → L.testBit k = true := by
  rw [Nat.beq_eq]
  constructor
  · intro h k hk
    have h : d &&& L = d := h
    have := congrArg (fun x => x.testBit k) h
    simp only [Nat.testBit_and, hk, Bool.true_and] at this
    exact this
  · intro h
    show d &&& L = d
    apply Nat.eq_of_testBit_eq
    intro k
    rw [Nat.testBit_and]
    cases hk : d.testBit k with
    | false => rfl
    | true => rw [h k hk]; rfl
theorem readyM_iff (L j : Nat) : ∀ (ds : List Nat) (s : Nat), j ∈ readyM ds s L ↔ ∃ k d, ds[k]? = some d ∧ j = s + k ∧ L.testBit j = false ∧ Nat.beq (Nat.land d L) d = true
  | [], s => by simp [readyM]
  | d :: ds, s => by
    unfold readyM
    have ih := readyM_iff L j ds (Nat.succ s)
    have hx : (∃ k d', (d :: ds)[k]? = some d' ∧ j = s + k ∧ L.testBit j = false ∧ Nat.beq (Nat.land d' L) d' = true) ↔ (j = s ∧ L.testBit j = false ∧ Nat.beq (Nat.land d L) d = true) ∨ ∃ k d', ds[k]? = some d' ∧ j = Nat.succ s + k ∧ L.testBit j = false ∧ Nat.beq (Nat.land d' L) d' = true := by
      constructor
      · rintro ⟨k, d', h1, h2, h3, h4⟩
        cases k with
        | zero => simp only [List.getElem?_cons_zero, Option.some.injEq] at h1; subst h1; exact .inl ⟨h2, h3, h4⟩
        | succ k => exact .inr ⟨k, d', by simpa using h1, by omega, h3, h4⟩
      · rintro (⟨h1, h2, h3⟩ | ⟨k, d', h1, h2, h3, h4⟩)
        · exact ⟨0, d, rfl, h1, h2, h3⟩
        · exact ⟨k + 1, d', by simpa using h1, by omega, h3, h4⟩
    rw [hx, ← ih]
    cases hc : (!(bitN L s) && Nat.beq (Nat.land d L) d) with
    | true =>
      rw [cond_true, List.mem_cons]
      simp only [Bool.and_eq_true, Bool.not_eq_true', bitN_eq] at hc
      constructor
      · rintro (h | h)
        · subst h; exact .inl ⟨rfl, hc.1, hc.2⟩
        · exact .inr h
      · rintro (h | h)
        · exact .inl h.1
        · exact .inr h
    | false =>
      rw [cond_false]
      constructor
      · exact .inr
      · rintro (⟨rfl, h2, h3⟩ | h)
        · rw [bitN_eq, h2, h3] at hc; cases hc
        · exact h
theorem readyN_iff {l : Array Bool} {L : Nat} (h : Msk l L) (hs : l.size = ops.size) (j : Nat) : j ∈ readyN ops L ↔ j ∈ Region.ready .any ops l := by
  unfold readyN
  rw [readyM_iff, mem_ready, depL_eq]
  constructor
  · rintro ⟨k, d, h1, h2, h3, h4⟩
    obtain rfl : j = k := by omega
    rw [List.getElem?_map] at h1
    cases ho : ops.toList[j]? with
    | none => simp [ho] at h1
    | some o =>
      simp only [ho, Option.map_some, Option.some.injEq] at h1
      subst h1
      rw [Array.getElem?_toList] at ho
      have hlt := (Array.getElem?_eq_some_iff.1 ho).1
      refine ⟨(unlisted_iff l j).2 ⟨by omega, by rw [h j]; exact h3⟩, o, ho, fun e he hb => ?_⟩
      rw [h e.on]
      exact (land_iff _ _).1 h4 _ ((dmask_iff _ _).2 ⟨e, by simpa using he, hb, rfl⟩)
  · rintro ⟨h1, o, ho, hall⟩
    refine ⟨j, dmask o.after.toList, ?_, by omega, by rw [← h j]; exact getD_none h1, (land_iff _ _).2 fun k hk => ?_⟩
    · rw [List.getElem?_map, Array.getElem?_toList, ho]; rfl
    · obtain ⟨e, he, hb, rfl⟩ := (dmask_iff _ _).1 hk
      rw [← h e.on]
      exact hall e (by simpa using he) hb
theorem memN_iff {A : List Nat} {i : Nat} : memN A i = true ↔ i ∈ A := by
  unfold memN
  rw [List.any_eq_true]
  constructor
  · rintro ⟨k, hk, hb⟩; rw [← Nat.eq_of_beq_eq_true hb]; exact hk
  · exact fun h => ⟨i, h, by simp⟩
theorem freeM_ok {L i : Nat} {oi : Oper} : ∀ (os : List Oper) (ds : List Nat) (s : Nat), freeM ops L i oi os ds s = true → ∀ k oj, os[k]? = some oj → ∃ d, ds[k]? = some d ∧ (Nat.beq (s + k) i || bitN L (s + k) || bitN d i || oi.apart ops oj) = true
  | [], _, _, _, k, oj, hk => by simp at hk
  | _ :: _, [], _, h, _, _, _ => by cases h
  | o :: os, d :: ds, s, h, k, oj, hk => by
    simp only [freeM, Bool.and_eq_true] at h
    cases k with
    | zero => simp only [List.getElem?_cons_zero, Option.some.injEq] at hk; subst hk; exact ⟨d, rfl, h.1⟩
    | succ k =>
      obtain ⟨d', h1, h2⟩ := freeM_ok os ds (Nat.succ s) h.2 k oj (by simpa using hk)
      refine ⟨d', by simpa using h1, ?_⟩
      rw [show s + (k + 1) = Nat.succ s + k from by omega]
      exact h2
theorem freeN_ok {l : Array Bool} {L i : Nat} (hm : Msk l L) (hs : l.size = ops.size) (h : freeN ops L i = true) : Region.free .any ops l i = true := by
  unfold freeN at h
  unfold Region.free
  split at h
  · rename_i oi hoi
    simp only [hoi]
    rw [List.all_eq_true]
    intro j hj
    have hlt := List.mem_range.1 hj
    obtain ⟨d, h1, h2⟩ := freeM_ok _ _ _ h j ops[j] (by rw [Array.getElem?_toList, Array.getElem?_eq_getElem hlt])
    rw [depL_eq, List.getElem?_map, Array.getElem?_toList, Array.getElem?_eq_getElem hlt] at h1
    simp only [Option.map_some, Option.some.injEq] at h1
    subst h1
    simp only [Array.getElem?_eq_getElem hlt]
    rw [Nat.zero_add, Bool.or_eq_true, Bool.or_eq_true, Bool.or_eq_true] at h2
    rw [Bool.or_eq_true, Bool.or_eq_true, Bool.or_eq_true]
    rcases h2 with ((h3 | h3) | h3) | h3
    · exact .inl (.inl (by rw [Nat.eq_of_beq_eq_true h3]; simp))
    · refine .inl (.inr ?_)
      rw [bitN_eq, ← hm j] at h3
      have : j < l.size := by omega
      simpa [Array.getD, this] using h3
    · refine .inr (.inl ?_)
      rw [bitN_eq] at h3
      obtain ⟨e, he, hb, hon⟩ := (dmask_iff _ _).1 h3
      exact Array.any_eq_true'.2 ⟨e, by simpa using he, by rw [hb, hon]; simp⟩
    · exact .inr (.inr h3)
  · cases h
theorem within_ok {A : List Nat} {i : Nat} {r r' : List Nat} (h : ∀ j, j ∈ r' → j ∈ r) (hw : within A i r = true) : within A i r' = true :=
  List.all_eq_true.2 fun j hj => List.all_eq_true.1 hw j (h j hj)
theorem ready_lt {l : Array Bool} {j : Nat} (h : j ∈ Region.ready .any ops l) : j < ops.size := by
  obtain ⟨_, o, ho, _⟩ := mem_ready.1 h
  exact (Array.getElem?_eq_some_iff.1 ho).1
theorem topoN_ok : ∀ (A : List Nat) {l : Array Bool} {L : Nat}, Msk l L → l.size = ops.size → topoN ops A L = true → topo ops A l = true ∧ ∀ e ∈ A, e < ops.size
  | [], _, _, _, _, _ => ⟨rfl, fun e he => by cases he⟩
  | e :: A, l, L, hm, hs, h => by
    simp only [topoN, Bool.and_eq_true, memN_iff] at h
    have hr := (readyN_iff hm hs e).1 h.1
    obtain ⟨h1, h2⟩ := topoN_ok A (hm.set (by rw [hs]; exact ready_lt hr)) (by rw [Array.size_setIfInBounds]; exact hs) h.2
    refine ⟨by simp only [topo, Bool.and_eq_true]; exact ⟨by simpa using hr, h1⟩, fun x hx => ?_⟩
    rcases List.mem_cons.1 hx with rfl | hx
    · exact ready_lt hr
    · exact h2 x hx
theorem pend_sub {A : List Nat} {i x : Nat} (h : x ∈ pend ops A i) : x ∈ A := (List.mem_filter.1 h).1
theorem okEndN_ok {A : List Nat} {l : Array Bool} {L : Nat} (hm : Msk l L) (hs : l.size = ops.size) (h : okEndN ops A L = true) : okEnd ops A l = true ∧ ∀ e ∈ A, e < ops.size := by
  simp only [okEndN, Bool.and_eq_true] at h
  obtain ⟨⟨⟨h1, h2⟩, h3⟩, h4⟩ := h
  obtain ⟨h5, h6⟩ := topoN_ok A hm hs h2
  refine ⟨?_, h6⟩
  simp only [okEnd, Bool.and_eq_true]
  refine ⟨⟨⟨h1, h5⟩, h3⟩, List.all_eq_true.2 fun e he => ?_⟩
  have := List.all_eq_true.1 h4 e he
  simp only [Bool.and_eq_true] at this ⊢
  refine ⟨⟨this.1.1, within_ok (fun j hj => ?_) this.1.2⟩, this.2⟩
  exact (readyN_iff (hm.all _ fun x hx => by rw [hs]; exact h6 x (pend_sub hx)) (by rw [setAll_size]; exact hs) j).2 hj
theorem okPhaseN_ok {A : List Nat} : ∀ (ks : List (Nat × Bool)) {l : Array Bool} {L : Nat}, Msk l L → l.size = ops.size → okPhaseN ops A ks L = true →
    okPhase ops A ks l = true ∧ (∀ e ∈ A, e < ops.size) ∧ Msk (ks.foldl (fun l x => l.setIfInBounds x.1 true) l) (ks.foldl (fun L x => setN L x.1) L)
  | [], l, L, hm, hs, h => let ⟨h1, h2⟩ := okEndN_ok hm hs h; ⟨h1, h2, hm⟩
  | (i, true) :: ks, l, L, hm, hs, h => by
    simp only [okPhaseN, Bool.and_eq_true, memN_iff] at h
    obtain ⟨⟨⟨⟨h1, h2⟩, h3⟩, h4⟩, h5⟩ := h
    have hr := (readyN_iff hm hs i).1 h4
    obtain ⟨g1, g2, g3⟩ := okPhaseN_ok ks (hm.set (by rw [hs]; exact ready_lt hr)) (by rw [Array.size_setIfInBounds]; exact hs) h5
    refine ⟨?_, g2, g3⟩
    simp only [okPhase, Bool.and_eq_true]
    exact ⟨⟨⟨⟨h1, h2⟩, freeN_ok hm hs h3⟩, by simpa using hr⟩, g1⟩
  | (i, false) :: ks, l, L, hm, hs, h => by
    simp only [okPhaseN, Bool.and_eq_true, memN_iff] at h
    obtain ⟨⟨⟨⟨h1, h2⟩, h3⟩, h4⟩, h5⟩ := h
    have hr := (readyN_iff hm hs i).1 h3
    obtain ⟨g1, g2, g3⟩ := okPhaseN_ok ks (hm.set (by rw [hs]; exact ready_lt hr)) (by rw [Array.size_setIfInBounds]; exact hs) h5
    refine ⟨?_, g2, g3⟩
    simp only [okPhase, Bool.and_eq_true]
    refine ⟨⟨⟨⟨h1, h2⟩, by simpa using hr⟩, within_ok (fun j hj => ?_) h4⟩, g1⟩
    exact (readyN_iff (hm.all _ fun x hx => by rw [hs]; exact g2 x (pend_sub hx)) (by rw [setAll_size]; exact hs) j).2 hj
theorem okPhasesN_ok : ∀ (ps : List (List (Nat × Bool) × List Nat)) {l : Array Bool} {L : Nat}, Msk l L → l.size = ops.size → okPhasesN ops ps L = true → okPhases ops ps l = true
  | [], l, L, hm, hs, h => by
    simp only [okPhasesN] at h
    simp only [okPhases, List.isEmpty_iff]
    split at h
    · rename_i hr
      apply List.eq_nil_iff_forall_not_mem.2
      intro j hj
      have := (readyN_iff hm hs j).2 hj
      rw [hr] at this; cases this
    · cases h
  | (ks, A) :: ps, l, L, hm, hs, h => by
    simp only [okPhasesN, Bool.and_eq_true] at h
    obtain ⟨h1, h2, h3⟩ := okPhaseN_ok ks hm hs h.1
    simp only [okPhases, Bool.and_eq_true]
    have hsz : (ks.foldl (fun l x => l.setIfInBounds x.1 true) l).size = ops.size := by
      have : ∀ (ks : List (Nat × Bool)) (l : Array Bool), (ks.foldl (fun l x => l.setIfInBounds x.1 true) l).size = l.size := by
        intro ks
        induction ks with
        | nil => intro l; rfl
        | cons x ks ih => intro l; rw [List.foldl_cons, ih]; simp
      rw [this]; exact hs
    exact ⟨h1, okPhasesN_ok ps (h3.all A fun e he => by rw [hsz]; exact h2 e he) (by rw [setAll_size]; exact hsz) h.2⟩
theorem msk0 : Msk (Array.replicate ops.size false) 0 := fun k => by
  rw [Nat.zero_testBit]
  rcases Nat.lt_or_ge k ops.size with h | h
  · simp [Array.getD, h]
  · simp [Array.getD, Nat.not_lt.2 h]
end
end Go.Proofs.Ytedpbkpeofaibaa
