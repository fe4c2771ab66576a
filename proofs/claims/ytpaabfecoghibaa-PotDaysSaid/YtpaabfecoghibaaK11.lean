/- The static plan of a region, by bits: what it finds is so. Over any program. Conditions: as each law says. -/
import Derived.Test.YtpaabfecoghibaaK10
namespace Go.Proofs.Ytpaabfecoghibaa
open Go Go.RowKit
set_option linter.unusedSimpArgs false
set_option linter.unusedVariables false
section
variable {ops : Array Oper}
theorem bitN_eq (L k : Nat) : bitN L k = L.testBit k := bit_iff L k
theorem setN_eq (L i : Nat) : setN L i = L ||| 2 ^ i := by
  unfold setN
  show (match L ||| 2 ^ i with
    | 0 => 0
    | m + 1 => m + 1) = _
  generalize L ||| 2 ^ i = x
  cases x <;> rfl
/-- Bits say what has come up. -/
def Msk (l : Array Bool) (L : Nat) : Prop := ∀ k, l.getD k false = L.testBit k
theorem Msk.set {l : Array Bool} {L i : Nat} (h : Msk l L) (hi : i < l.size) : Msk (l.setIfInBounds i true) (setN L i) := fun k => by
  rw [setN_eq, Nat.testBit_or, Nat.testBit_two_pow]
  cases hq : (l.setIfInBounds i true).getD k false with
  | true =>
    rcases (set_true_iff _ _ _).1 hq with h1 | h1
    · rw [← h k, h1]; rfl
    · rw [decide_eq_true h1.1.symm, Bool.or_true]
  | false =>
    have h1 : l.getD k false = false := by
      cases h2 : l.getD k false with
      | false => rfl
      | true => rw [(set_true_iff _ _ _).2 (.inl h2)] at hq; cases hq
    have h2 : ¬ i = k := fun e => by
      subst e
      rw [(set_true_iff _ _ _).2 (.inr ⟨rfl, hi⟩)] at hq; cases hq
    rw [← h k, h1, decide_eq_false h2]; rfl
theorem Msk.all : ∀ (A : List Nat) {l : Array Bool} {L : Nat}, Msk l L → (∀ e ∈ A, e < l.size) → Msk (setAll l A) (setAllN L A)
  | [], _, _, h, _ => h
  | e :: A, l, L, h, hs => by
    rw [setAll_cons]
    exact Msk.all A (h.set (hs e (by simp))) fun x hx => by rw [Array.size_setIfInBounds]; exact hs x (by simp [hx])
theorem dmask_iff : ∀ (es : List Edge) (k : Nat), (dmask es).testBit k = true ↔ ∃ e ∈ es, Region.binds .any e = true ∧ e.on = k
  | [], k => by simp [dmask]
  | e :: es, k => by
    unfold dmask
    cases hb : Region.binds .any e with
    | true =>
      rw [cond_true]
      show (2 ^ e.on ||| dmask es).testBit k = true ↔ _
      rw [Nat.testBit_or, Bool.or_eq_true, Nat.testBit_two_pow, dmask_iff es k]
      simp [hb]
    | false =>
      rw [cond_false, dmask_iff es k]
      simp [hb]
theorem depL_eq : ∀ os : List Oper, depL os = os.map fun o => dmask o.after.toList
  | [] => rfl
  | o :: os => by
    rw [depL, List.map_cons, ← depL_eq os]
    split <;> rename_i h <;> rw [h]
theorem land_iff (d L : Nat) : Nat.beq (Nat.land d L) d = true ↔ ∀ k, d.testBit k = true → L.testBit k = true := by
  rw [Nat.beq_eq]
  constructor
  · intro h k hk
    have h : d &&& L = d := h
    have := congrArg (fun x => x.testBit k) h
    simp only [Nat.testBit_and, hk, Bool.true_and] at this
    exact this
  · intro h
    show d &&& L = d
    apply Nat.eq_of_testBit_eq
    intro k
    rw [Nat.testBit_and]
    cases hk : d.testBit k with
    | false => rfl
    | true => rw [h k hk]; rfl
theorem readyM_iff (L j : Nat) : ∀ (ds : List Nat) (s : Nat), j ∈ readyM ds s L ↔ ∃ k d, ds[k]? = some d ∧ j = s + k ∧ L.testBit j = false ∧ Nat.beq (Nat.land d L) d = true
  | [], s => by simp [readyM]
  | d :: ds, s => by
    unfold readyM
    have ih := readyM_iff L j ds (Nat.succ s)
    have hx : (∃ k d', (d :: ds)[k]? = some d' ∧ j = s + k ∧ L.testBit j = false ∧ Nat.beq (Nat.land d' L) d' = true) ↔ (j = s ∧ L.testBit j = false ∧ Nat.beq (Nat.land d L) d = true) ∨ ∃ k d', ds[k]? = some d' ∧ j = Nat.succ s + k ∧ L.testBit j = false ∧ Nat.beq (Nat.land d' L) d' = true := by
      constructor
      · rintro ⟨k, d', h1, h2, h3, h4⟩
        cases k with
        | zero => simp only [List.getElem?_cons_zero, Option.some.injEq] at h1; subst h1; exact .inl ⟨h2, h3, h4⟩
        | succ k => exact .inr ⟨k, d', by simpa using h1, by omega, h3, h4⟩
      · rintro (⟨h1, h2, h3⟩ | ⟨k, d', h1, h2, h3, h4⟩)
        · exact ⟨0, d, rfl, h1, h2, h3⟩
        · exact ⟨k + 1, d', by simpa using h1, by omega, h3, h4⟩
    rw [hx, ← ih]
    cases hc : (!(bitN L s) && Nat.beq (Nat.land d L) d) with
    | true =>
      rw [cond_true, List.mem_cons]
      simp only [Bool.and_eq_true, Bool.not_eq_true', bitN_eq] at hc
      constructor
      · rintro (h | h)
        · subst h; exact .inl ⟨rfl, hc.1, hc.2⟩
        · exact .inr h
      · rintro (h | h)
        · exact .inl h.1
        · exact .inr h
    | false =>
      rw [cond_false]
      constructor
      · exact .inr
      · rintro (⟨rfl, h2, h3⟩ | h)
        · rw [bitN_eq, h2, h3] at hc; cases hc
        · exact h
theorem readyN_iff {l : Array Bool} {L : Nat} (h : Msk l L) (hs : l.size = ops.size) (j : Nat) : j ∈ readyN ops L ↔ j ∈ Region.ready .any ops l := by
  unfold readyN
  rw [readyM_iff, mem_ready, depL_eq]
  constructor
  · rintro ⟨k, d, h1, h2, h3, h4⟩
    obtain rfl : j = k := by omega
    rw [List.getElem?_map] at h1
    cases ho : ops.toList[j]? with
    | none => simp [ho] at h1
    | some o =>
      simp only [ho, Option.map_some, Option.some.injEq] at h1
      subst h1
      rw [Array.getElem?_toList] at ho
      have hlt := (Array.getElem?_eq_some_iff.1 ho).1
      refine ⟨(unlisted_iff l j).2 ⟨by omega, by rw [h j]; exact h3⟩, o, ho, fun e he hb => ?_⟩
      rw [h e.on]
      exact (land_iff _ _).1 h4 _ ((dmask_iff _ _).2 ⟨e, by simpa using he, hb, rfl⟩)
  · rintro ⟨h1, o, ho, hall⟩
    refine ⟨j, dmask o.after.toList, ?_, by omega, by rw [← h j]; exact getD_none h1, (land_iff _ _).2 fun k hk => ?_⟩
    · rw [List.getElem?_map, Array.getElem?_toList, ho]; rfl
    · obtain ⟨e, he, hb, rfl⟩ := (dmask_iff _ _).1 hk
      rw [← h e.on]
      exact hall e (by simpa using he) hb
theorem memN_iff {A : List Nat} {i : Nat} : memN A i = true ↔ i ∈ A := by
  unfold memN
  rw [List.any_eq_true]
  constructor
  · rintro ⟨k, hk, hb⟩; rw [← Nat.eq_of_beq_eq_true hb]; exact hk
  · exact fun h => ⟨i, h, by simp⟩
theorem freeM_ok {L i : Nat} {oi : Oper} : ∀ (os : List Oper) (ds : List Nat) (s : Nat), freeM ops L i oi os ds s = true → ∀ k oj, os[k]? = some oj → ∃ d, ds[k]? = some d ∧ (Nat.beq (s + k) i || bitN L (s + k) || bitN d i || oi.apart ops oj) = true
  | [], _, _, _, k, oj, hk => by simp at hk
  | _ :: _, [], _, h, _, _, _ => by cases h
  | o :: os, d :: ds, s, h, k, oj, hk => by
    simp only [freeM, Bool.and_eq_true] at h
    cases k with
    | zero => simp only [List.getElem?_cons_zero, Option.some.injEq] at hk; subst hk; exact ⟨d, rfl, h.1⟩
    | succ k =>
      obtain ⟨d', h1, h2⟩ := freeM_ok os ds (Nat.succ s) h.2 k oj (by simpa using hk)
      refine ⟨d', by simpa using h1, ?_⟩
      rw [show s + (k + 1) = Nat.succ s + k from by omega]
      exact h2
theorem freeN_ok {l : Array Bool} {L i : Nat} (hm : Msk l L) (hs : l.size = ops.size) (h : freeN ops L i = true) : Region.free .any ops l i = true := by
  unfold freeN at h
  unfold Region.free
  split at h
  · rename_i oi hoi
    simp only [hoi]
    rw [List.all_eq_true]
    intro j hj
    have hlt := List.mem_range.1 hj
    obtain ⟨d, h1, h2⟩ := freeM_ok _ _ _ h j ops[j] (by rw [Array.getElem?_toList, Array.getElem?_eq_getElem hlt])
    rw [depL_eq, List.getElem?_map, Array.getElem?_toList, Array.getElem?_eq_getElem hlt] at h1
    simp only [Option.map_some, Option.some.injEq] at h1
    subst h1
    simp only [Array.getElem?_eq_getElem hlt]
    rw [Nat.zero_add, Bool.or_eq_true, Bool.or_eq_true, Bool.or_eq_true] at h2
    rw [Bool.or_eq_true, Bool.or_eq_true, Bool.or_eq_true]
    rcases h2 with ((h3 | h3) | h3) | h3
    · exact .inl (.inl (by rw [Nat.eq_of_beq_eq_true h3]; simp))
    · refine .inl (.inr ?_)
      rw [bitN_eq, ← hm j] at h3
      have : j < l.size := by omega
      simpa [Array.getD, this] using h3
    · refine .inr (.inl ?_)
      rw [bitN_eq] at h3
      obtain ⟨e, he, hb, hon⟩ := (dmask_iff _ _).1 h3
      exact Array.any_eq_true'.2 ⟨e, by simpa using he, by rw [hb, hon]; simp⟩
    · exact .inr (.inr h3)
  · cases h
theorem within_ok {A : List Nat} {i : Nat} {r r' : List Nat} (h : ∀ j, j ∈ r' → j ∈ r) (hw : within A i r = true) : within A i r' = true :=
  List.all_eq_true.2 fun j hj => List.all_eq_true.1 hw j (h j hj)
theorem ready_lt {l : Array Bool} {j : Nat} (h : j ∈ Region.ready .any ops l) : j < ops.size := by
  obtain ⟨_, o, ho, _⟩ := mem_ready.1 h
  exact (Array.getElem?_eq_some_iff.1 ho).1
theorem topoN_ok : ∀ (A : List Nat) {l : Array Bool} {L : Nat}, Msk l L → l.size = ops.size → topoN ops A L = true → topo ops A l = true ∧ ∀ e ∈ A, e < ops.size
  | [], _, _, _, _, _ => ⟨rfl, fun e he => by cases he⟩
  | e :: A, l, L, hm, hs, h => by
    simp only [topoN, Bool.and_eq_true, memN_iff] at h
    have hr := (readyN_iff hm hs e).1 h.1
    obtain ⟨h1, h2⟩ := topoN_ok A (hm.set (by rw [hs]; exact ready_lt hr)) (by rw [Array.size_setIfInBounds]; exact hs) h.2
    refine ⟨by simp only [topo, Bool.and_eq_true]; exact ⟨by simpa using hr, h1⟩, fun x hx => ?_⟩
    rcases List.mem_cons.1 hx with rfl | hx
    · exact ready_lt hr
    · exact h2 x hx
theorem pend_sub {A : List Nat} {i x : Nat} (h : x ∈ pend ops A i) : x ∈ A := (List.mem_filter.1 h).1
theorem okEndN_ok {A : List Nat} {l : Array Bool} {L : Nat} (hm : Msk l L) (hs : l.size = ops.size) (h : okEndN ops A L = true) : okEnd ops A l = true ∧ ∀ e ∈ A, e < ops.size := by
  simp only [okEndN, Bool.and_eq_true] at h
  obtain ⟨⟨⟨h1, h2⟩, h3⟩, h4⟩ := h
  obtain ⟨h5, h6⟩ := topoN_ok A hm hs h2
  refine ⟨?_, h6⟩
  simp only [okEnd, Bool.and_eq_true]
  refine ⟨⟨⟨h1, h5⟩, h3⟩, List.all_eq_true.2 fun e he => ?_⟩
  have := List.all_eq_true.1 h4 e he
  simp only [Bool.and_eq_true] at this ⊢
  refine ⟨⟨this.1.1, within_ok (fun j hj => ?_) this.1.2⟩, this.2⟩
  exact (readyN_iff (hm.all _ fun x hx => by rw [hs]; exact h6 x (pend_sub hx)) (by rw [setAll_size]; exact hs) j).2 hj
theorem okPhaseN_ok {A : List Nat} : ∀ (ks : List (Nat × Bool)) {l : Array Bool} {L : Nat}, Msk l L → l.size = ops.size → okPhaseN ops A ks L = true →
    okPhase ops A ks l = true ∧ (∀ e ∈ A, e < ops.size) ∧ Msk (ks.foldl (fun l x => l.setIfInBounds x.1 true) l) (ks.foldl (fun L x => setN L x.1) L)
  | [], l, L, hm, hs, h => let ⟨h1, h2⟩ := okEndN_ok hm hs h; ⟨h1, h2, hm⟩
  | (i, true) :: ks, l, L, hm, hs, h => by
    simp only [okPhaseN, Bool.and_eq_true, memN_iff] at h
    obtain ⟨⟨⟨⟨h1, h2⟩, h3⟩, h4⟩, h5⟩ := h
    have hr := (readyN_iff hm hs i).1 h4
    obtain ⟨g1, g2, g3⟩ := okPhaseN_ok ks (hm.set (by rw [hs]; exact ready_lt hr)) (by rw [Array.size_setIfInBounds]; exact hs) h5
    refine ⟨?_, g2, g3⟩
    simp only [okPhase, Bool.and_eq_true]
    exact ⟨⟨⟨⟨h1, h2⟩, freeN_ok hm hs h3⟩, by simpa using hr⟩, g1⟩
  | (i, false) :: ks, l, L, hm, hs, h => by
    simp only [okPhaseN, Bool.and_eq_true, memN_iff] at h
    obtain ⟨⟨⟨⟨h1, h2⟩, h3⟩, h4⟩, h5⟩ := h
    have hr := (readyN_iff hm hs i).1 h3
    obtain ⟨g1, g2, g3⟩ := okPhaseN_ok ks (hm.set (by rw [hs]; exact ready_lt hr)) (by rw [Array.size_setIfInBounds]; exact hs) h5
    refine ⟨?_, g2, g3⟩
    simp only [okPhase, Bool.and_eq_true]
    refine ⟨⟨⟨⟨h1, h2⟩, by simpa using hr⟩, within_ok (fun j hj => ?_) h4⟩, g1⟩
    exact (readyN_iff (hm.all _ fun x hx => by rw [hs]; exact g2 x (pend_sub hx)) (by rw [setAll_size]; exact hs) j).2 hj
theorem okPhasesN_ok : ∀ (ps : List (List (Nat × Bool) × List Nat)) {l : Array Bool} {L : Nat}, Msk l L → l.size = ops.size → okPhasesN ops ps L = true → okPhases ops ps l = true
  | [], l, L, hm, hs, h => by
    simp only [okPhasesN] at h
    simp only [okPhases, List.isEmpty_iff]
    split at h
    · rename_i hr
      apply List.eq_nil_iff_forall_not_mem.2
      intro j hj
      have := (readyN_iff hm hs j).2 hj
      rw [hr] at this; cases this
    · cases h
  | (ks, A) :: ps, l, L, hm, hs, h => by
    simp only [okPhasesN, Bool.and_eq_true] at h
    obtain ⟨h1, h2, h3⟩ := okPhaseN_ok ks hm hs h.1
    simp only [okPhases, Bool.and_eq_true]
    have hsz : (ks.foldl (fun l x => l.setIfInBounds x.1 true) l).size = ops.size := by
      have : ∀ (ks : List (Nat × Bool)) (l : Array Bool), (ks.foldl (fun l x => l.setIfInBounds x.1 true) l).size = l.size := by
        intro ks
        induction ks with
        | nil => intro l; rfl
        | cons x ks ih => intro l; rw [List.foldl_cons, ih]; simp
      rw [this]; exact hs
    exact ⟨h1, okPhasesN_ok ps (h3.all A fun e he => by rw [hsz]; exact h2 e he) (by rw [setAll_size]; exact hsz) h.2⟩
theorem msk0 : Msk (Array.replicate ops.size false) 0 := fun k => by
  rw [Nat.zero_testBit]
  rcases Nat.lt_or_ge k ops.size with h | h
  · simp [Array.getD, h]
  · simp [Array.getD, Nat.not_lt.2 h]
end
end Go.Proofs.Ytpaabfecoghibaa

/- All code is right on the shadow; a closed call that comes to true there does so. Over any program. Conditions: as each law says. -/
namespace Go.Proofs.Ytpaabfecoghibaa
open Go Go.RowKit
set_option linter.unusedSimpArgs false
set_option linter.unusedVariables false
section
variable {P : Program} {N : Lim} {G : Gl} {ops : Array Oper} {F : List (Nat × Nat)} {μ0 : Mu} {w0 : World} {frz : List Nat} {D0 : List Deferred} {rc : Rec} {ro' : Option Nat} {Q : Act → World → Prop} {h0 : SH}
theorem okPhase_end {A : List Nat} : ∀ (ks : List (Nat × Bool)) (l : Array Bool), okPhase ops A ks l = true → okEnd ops A (ks.foldl (fun l x => l.setIfInBounds x.1 true) l) = true
  | [], _, h => h
  | (i, true) :: ks, l, h => by
    simp only [okPhase, Bool.and_eq_true] at h
    exact okPhase_end ks _ h.2
  | (i, false) :: ks, l, h => by
    simp only [okPhase, Bool.and_eq_true] at h
    exact okPhase_end ks _ h.2
theorem foldl_size : ∀ (ks : List (Nat × Bool)) (l : Array Bool), (ks.foldl (fun l x => l.setIfInBounds x.1 true) l).size = l.size
  | [], _ => rfl
  | x :: ks, l => by rw [List.foldl_cons, foldl_size ks]; simp
theorem layAll_get : ∀ (A : List Nat) (ts : Fr) (h : SH) {ts2 : Fr} {h2 : SH}, ts.n ≤ 512 → layAll P ops A ts h = some (ts2, h2) → ts2.n = ts.n ∧ ∀ t, t ∉ dstsOf ops A → ts2.get t = ts.get t
  | [], ts, h, ts2, h2, _, e => by
    simp only [layAll, Option.some.injEq, Prod.mk.injEq] at e
    obtain ⟨rfl, rfl⟩ := e
    exact ⟨rfl, fun _ _ => rfl⟩
  | i :: A, ts, h, ts2, h2, hl, e => by
    simp only [layAll] at e
    split at e
    · rename_i o ho
      split at e
      · rename_i d hd
        have hds : dstsOf ops (i :: A) = d :: dstsOf ops A := by simp [dstsOf, ho, hd]
        have fin : ∀ v h', layAll P ops A (ts.set d v) h' = some (ts2, h2) → ts2.n = ts.n ∧ ∀ t, t ∉ dstsOf ops (i :: A) → ts2.get t = ts.get t := fun v h' e => by
          obtain ⟨h1, h2⟩ := layAll_get A _ _ (by rw [Fr.set_n]; exact hl) e
          refine ⟨h1.trans (Fr.set_n _ _ _), fun t ht => ?_⟩
          rw [hds, List.mem_cons, not_or] at ht
          rw [h2 t ht.2, Fr.get_set _ _ _ _ hl, if_neg (fun e => ht.1 e.1)]
        cases hb : Nat.blt d ts.n with
        | false => rw [hb] at e; cases e
        | true =>
          rw [hb, cond_true] at e
          split at e
          · exact fin _ _ e
          · exact fin _ _ e
          · cases e
      · cases e
    · cases e
theorem layAll_at : ∀ (A : List Nat) (ts : Fr) (h : SH) {ts2 : Fr} {h2 : SH}, ts.n ≤ 512 → layAll P ops A ts h = some (ts2, h2) → noneTwice (dstsOf ops A) = true → ordered ops A = true →
    ∀ e ∈ A, ∃ o d c, ops[e]? = some o ∧ o.dst = some d ∧ eCw P ops o ts2.get = some c ∧ (∃ a, ts2.get d = c.2 a) ∧ d < ts2.n
  | [], _, _, _, _, _, _, _, _, e, he => by cases he
  | i :: A, ts, h, ts2, h2, hl, e, hn, hor, x, hx => by
    have hall := layAll_get (i :: A) ts h hl e
    simp only [layAll] at e
    split at e
    · rename_i o ho
      split at e
      · rename_i d hd
        have hds : dstsOf ops (i :: A) = d :: dstsOf ops A := by simp [dstsOf, ho, hd]
        simp only [ordered, ho, Bool.and_eq_true, List.all_eq_true] at hor
        rw [hds] at hn
        simp only [noneTwice, Bool.and_eq_true] at hn
        have fin : ∀ c a h', eCw P ops o ts.get = some c → d < ts.n → layAll P ops A (ts.set d (c.2 a)) h' = some (ts2, h2) → ∃ o d c, ops[x]? = some o ∧ o.dst = some d ∧ eCw P ops o ts2.get = some c ∧ (∃ a, ts2.get d = c.2 a) ∧ d < ts2.n := fun c a h' hc hdn e => by
          rcases List.mem_cons.1 hx with rfl | hx
          · refine ⟨o, d, c, ho, hd, ?_, ⟨a, ?_⟩, by rw [hall.1]; exact hdn⟩
            · rw [← hc]
              exact eCw_congr fun t ht => hall.2 t fun hm => notIn_spec (hor.1 t hm) ht
            · rw [(layAll_get A _ _ (by rw [Fr.set_n]; exact hl) e).2 d (notIn_spec hn.1), Fr.get_set _ _ _ _ hl, if_pos ⟨rfl, hdn⟩]
          · exact layAll_at A _ _ (by rw [Fr.set_n]; exact hl) e hn.2 hor.2 x hx
        cases hb : Nat.blt d ts.n with
        | false => rw [hb] at e; cases e
        | true =>
          rw [hb, cond_true] at e
          have hdn : d < ts.n := by simpa [Nat.blt_eq] using hb
          split at e
          · rename_i f hc; exact fin (none, f) _ _ hc hdn e
          · rename_i cs t κ f hc; exact fin (some (cs, t, κ), f) _ _ hc hdn e
          · cases e
      · cases e
    · cases e
theorem sta_of {A : List Nat} {l : Array Bool} {ts : Fr} {h : SH} {ts2 : Fr} {h2 : SH} (hl : ts.n ≤ 512) (e : layAll P ops A ts h = some (ts2, h2)) (hok : okEnd ops A l = true) : Sta P ops A ts2 := by
  simp only [okEnd, Bool.and_eq_true, List.all_eq_true] at hok
  obtain ⟨⟨⟨hn, _⟩, hor⟩, hall⟩ := hok
  refine ⟨layAll_at A ts h hl e hn hor, noneTwice_spec hn, fun e1 he1 e2 he2 o o2 d ho ho2 hd hm => ?_, ?_⟩
  · have := (hall e1 he1).2 e2 he2
    simp only [ho, ho2, hd, Bool.or_eq_true] at this
    rcases this with h1 | h1
    · exact absurd hm (notIn_spec h1)
    · exact h1
  · have : ∀ (A : List Nat), ordered ops A = true → ∀ e ∈ A, ∀ o d, ops[e]? = some o → o.dst = some d → d ∉ o.looksAt ops := by
      intro A
      induction A with
      | nil => intro _ e he; cases he
      | cons x A ih =>
        intro hor e he o d ho hd
        simp only [ordered, Bool.and_eq_true] at hor
        rcases List.mem_cons.1 he with rfl | he
        · simp only [ho, List.all_eq_true] at hor
          exact notIn_spec (hor.1 d (dst_mem (by simp) ho hd))
        · exact ih hor.2 e he o d ho hd
    exact this A hor
theorem drawR_get {A : List Nat} {dn1 : List Nat} {ts1 : Fr} {h1 : SH} : ∀ (ks : List (Nat × Bool)) (l : Array Bool) (dn : List Nat) (ts : Fr) (h : SH), ts.n ≤ 512 → okPhase ops A ks l = true → DrawR P G ops h0 F frz ks dn ts h dn1 ts1 h1 → ts1.n = ts.n ∧ ∀ t ∈ usesA ops A, ts1.get t = ts.get t
  | [], _, dn, ts, h, _, _, hd => by
    obtain ⟨_, rfl, _⟩ := hd
    exact ⟨rfl, fun _ _ => rfl⟩
  | (i, b) :: ks, l, dn, ts, h, hl, hok, hd => by
    obtain ⟨o, ho, v, dn', h', hf, hok', hd'⟩ : ∃ o, ops[i]? = some o ∧ ∃ v dn' h', dstFree ops A o = true ∧ okPhase ops A ks (l.setIfInBounds i true) = true ∧ DrawR P G ops h0 F frz ks dn' (putS ts o.dst v) h' dn1 ts1 h1 := by
      cases b with
      | true =>
        obtain ⟨o, ho, hd⟩ := hd
        simp only [okPhase, ho, Bool.and_eq_true] at hok
        rcases hd with ⟨_, _, v, _, hd⟩ | ⟨_, hd⟩
        · exact ⟨o, ho, v, _, _, hok.1.1.1.1.1.2, hok.2, hd⟩
        · exact ⟨o, ho, _, _, _, hok.1.1.1.1.1.2, hok.2, hd⟩
      | false =>
        obtain ⟨o, ho, hd⟩ := hd
        simp only [okPhase, ho, Bool.and_eq_true] at hok
        rcases hd with ⟨_, _, ts', h', ⟨⟨v, rfl⟩, _⟩, hd⟩ | ⟨_, hd⟩
        · exact ⟨o, ho, v, _, _, hok.1.1.1.1.2, hok.2, hd⟩
        · exact ⟨o, ho, _, _, _, hok.1.1.1.1.2, hok.2, hd⟩
    obtain ⟨h1, h2⟩ := drawR_get ks _ _ _ _ (by rw [putS_n]; exact hl) hok' hd'
    exact ⟨h1.trans putS_n, fun t ht => (h2 t ht).trans (putS_ne hl (dstFree_spec hf t ht))⟩
theorem Mid.reA {A B : List Nat} {ts2 ts3 : Fr} {l : Array Bool} {dn : List Nat} {ts : Fr} {h : SH} {μ : Mu} {a : Act} {w : World} (m : Mid P ops N G F μ0 w0 frz D0 A ts2 l dn ts h μ [] a w) (hag : ∀ t ∈ usesA ops B, t ∉ dstsOf ops B → ts3.get t = ts.get t) (hsz : ts3.n = ts.n) : Mid P ops N G F μ0 w0 frz D0 B ts3 l dn ts h μ [] a w :=
  ⟨m.den, m.rel, m.clo, m.le, m.bel, m.kp, m.ss, m.dnl, fun x hx => absurd hx (by simp), m.nd, m.ndb, m.df, hag, hsz, m.ls⟩
/-- What stretches come to. -/
def PhaseR (P : Program) (G : Gl) (ops : Array Oper) (h0 : SH) (F : List (Nat × Nat)) (frz : List Nat) : List (List (Nat × Bool) × List Nat) → List Nat → Fr → SH → Fr → SH → Prop
  | [], _, ts, h, ts', h' => ts' = ts ∧ h' = h
  | (ks, A) :: ps, dn, ts, h, ts', h' => ∃ dn1 ts1 h1, DrawR P G ops h0 F frz ks dn ts h dn1 ts1 h1 ∧ ∃ ts2 h2, layAll P ops A ts1 h1 = some (ts2, h2) ∧ PhaseR P G ops h0 F frz ps dn1 ts2 h2 ts' h'
theorem phasesW_ok [Orc] [OrcOk P] (hG : G.l.all (fun x => x.2.1.toList.all (gr 6)) = true) (hrc : Right P G rc) {k : KF} {r : Value} : ∀ (ps : List (List (Nat × Bool) × List Nat)) (dn : List Nat) (ts : Fr) (h : SH), (∀ p ∈ ps, ∀ x ∈ p.1, x.2 = true → quietAt ops x.1 = true) → (phasesW P G ops ps dn).run rc frz h0 F ts h k = some r →
    ∃ ts' h', k ts' h' = some r ∧ PhaseR P G ops h0 F frz ps dn ts h ts' h'
  | [], _, ts, h, _, e => ⟨ts, h, e, rfl, rfl⟩
  | (ks, A) :: ps, dn, ts, h, hq, e => by
    have e : (stretchW P G ops ks dn).run rc frz h0 F ts h (fun ts' h' => (layW P ops A).run rc frz h0 F ts' h' fun ts' h' => (phasesW P G ops ps (dnAfter ops ks dn)).run rc frz h0 F ts' h' k) = some r := e
    obtain ⟨ts1, h1, hk, hd⟩ := stretchW_ok hG hrc ks _ _ _ (hq (ks, A) (by simp)) e
    have lay : ∃ ts2 h2, layAll P ops A ts1 h1 = some (ts2, h2) ∧ (phasesW P G ops ps (dnAfter ops ks dn)).run rc frz h0 F ts2 h2 k = some r := by
      cases A with
      | nil => exact ⟨ts1, h1, rfl, hk⟩
      | cons a A =>
        exact layK_ok (a :: A) ts1 h1 hk
    obtain ⟨ts2, h2, hl, hk⟩ := lay
    obtain ⟨ts', h', hk', hp⟩ := phasesW_ok hG hrc ps _ _ _ (fun p hp => hq p (by simp [hp])) hk
    exact ⟨ts', h', hk', _, ts1, h1, hd, ts2, h2, hl, hp⟩
theorem okPhase_quiet {A : List Nat} : ∀ (ks : List (Nat × Bool)) (l : Array Bool), okPhase ops A ks l = true → ∀ x ∈ ks, x.2 = true → quietAt ops x.1 = true
  | [], _, _, x, hx, _ => absurd hx (by simp)
  | (i, true) :: ks, l, h, x, hx, hb => by
    simp only [okPhase, Bool.and_eq_true] at h
    rcases List.mem_cons.1 hx with rfl | hx
    · have h1 := h.1.1.1.1
      unfold quietAt
      split at h1
      · rename_i o ho
        rw [Bool.and_eq_true] at h1
        simp only [ho]; exact h1.2
      · cases h1
    · exact okPhase_quiet ks _ h.2 x hx hb
  | (i, false) :: ks, l, h, x, hx, hb => by
    simp only [okPhase, Bool.and_eq_true] at h
    rcases List.mem_cons.1 hx with rfl | hx
    · cases hb
    · exact okPhase_quiet ks _ h.2 x hx hb
theorem okPhases_quiet : ∀ (ps : List (List (Nat × Bool) × List Nat)) (l : Array Bool), okPhases ops ps l = true → ∀ p ∈ ps, ∀ x ∈ p.1, x.2 = true → quietAt ops x.1 = true
  | [], _, _, _, hp, _, _, _ => by cases hp
  | (ks, A) :: ps, l, h, p, hp, x, hx, hb => by
    simp only [okPhases, Bool.and_eq_true] at h
    rcases List.mem_cons.1 hp with rfl | hp
    · exact okPhase_quiet ks l h.1 x hx hb
    · exact okPhases_quiet ps _ h.2 p hp x hx hb
theorem blk_perm {E E' : Laid} (h : E.Perm E') : (blk E).Perm (blk E') := h.flatMap_right _
theorem phases_ok (R : Reg P N G ops F μ0 w0 frz rc h0) {ts' : Fr} {h' : SH} (FIN : ∀ (l : Array Bool) (dn : List Nat) (μ : Mu) (a : Act) (w : World), Mid P ops N G F μ0 w0 frz D0 [] ts' l dn ts' h' μ [] a w → Q a w) :
    ∀ (ps : List (List (Nat × Bool) × List Nat)) (l : Array Bool) (dn : List Nat) (ts : Fr) (h : SH) (μ : Mu) (a : Act) (w : World) (fuel : Nat), okPhases ops ps l = true → PhaseR P G ops h0 F frz ps dn ts h ts' h' → Mid P ops N G F μ0 w0 frz D0 [] ts l dn ts h μ [] a w → lenAll ps ≤ fuel →
      WF (FR ro') 0 P ops (Q0 Q) (SS ops F G μ0 w0) fuel l a w
  | [], l, dn, ts, h, μ, a, w, fuel, hok, hdr, m, hfu => by
    obtain ⟨rfl, rfl⟩ := hdr
    simp only [okPhases, List.isEmpty_iff] at hok
    exact WF_done hok (FIN _ _ _ _ _ m) _
  | (ks, A) :: ps, l, dn, ts, h, μ, a, w, fuel, hok, hdr, m, hfu => by
    simp only [okPhases, Bool.and_eq_true] at hok
    obtain ⟨hok, hoks⟩ := hok
    have hend := okPhase_end ks l hok
    obtain ⟨dn1, ts1, h1, hd, ts2, h2, hlay, hdr⟩ := hdr
    obtain ⟨hn1, hg1⟩ := drawR_get ks l dn ts h m.rel.le hok hd
    have hl1 : ts1.n ≤ 512 := by rw [hn1]; exact m.rel.le
    obtain ⟨hn2, hg2⟩ := layAll_get A ts1 h1 hl1 hlay
    have st := sta_of hl1 hlay hend
    have m1 : Mid P ops N G F μ0 w0 frz D0 A ts2 l dn ts h μ [] a w := m.reA (fun t h1 h2 => (hg2 t h2).trans (hg1 t h1)) (hn2.trans hn1)
    refine phase_ok R st (lenAll ps) (fun fuel' μ' E a' w' m' hf => ?_) fuel ks l dn ts h μ [] a w hok hd rfl m1 (by simp only [lenAll] at hfu ⊢; simp; omega)
    refine end_ok R st hend (lenAll ps) (fun fuel2 μ2 E2 a2 w2 m2 hcomp hf2 => ?_) fuel' μ' E a' w' m' hf
    have hAn : A.Nodup := by
      have : ∀ B : List Nat, (∀ e ∈ B, ∃ o d, ops[e]? = some o ∧ o.dst = some d) → (dstsOf ops B).Nodup → B.Nodup := by
        intro B
        induction B with
        | nil => intro _ _; exact .nil
        | cons x B ih =>
          intro hB hn
          obtain ⟨o, d, ho, hdd⟩ := hB x (by simp)
          have hcons : dstsOf ops (x :: B) = d :: dstsOf ops B := by simp [dstsOf, ho, hdd]
          rw [hcons, List.nodup_cons] at hn
          exact List.nodup_cons.2 ⟨fun hm => hn.1 (dst_mem hm ho hdd), ih (fun e he => hB e (by simp [he])) hn.2⟩
      exact this A (fun e he => let ⟨o, d, _, h1, h2, _⟩ := st.at' e he; ⟨o, d, h1, h2⟩) st.nd
    have hperm : (E2.map (·.1)).Perm A := perm_of_sub m2.nd hAn (fun x hx => by
      obtain ⟨y, hy, rfl⟩ := List.mem_map.1 hx
      exact (m2.laid y hy).1) hcomp
    obtain ⟨E3, hp3, he3⟩ := perm_lift hperm E2 rfl
    have hmem : ∀ b, b ∈ (limE N (blk E3)).x ↔ b ∈ (limE N (blk E2)).x := fun b => by
      simp only [limE, List.mem_append]
      rw [(blk_perm hp3).mem_iff]
    have hden3 : Den P (limE N (blk E3)) G μ2 h1 w2 :=
      ⟨⟨m2.den.base.1, fun k hk => m2.den.base.2 k ((hmem k).1 hk)⟩, fun j sb hj => BlkOk.lim (N := limE N (blk E2)) (M := limE N (blk E3)) (fun b hb _ => ⟨hb.1, fun hm => hb.2 ((hmem b).1 hm)⟩) (m2.den.blk j sb hj), m2.den.old, m2.den.muOld, m2.den.apart, m2.den.kin, m2.den.famLt, m2.den.kinOld, ⟨fun b hb => (m2.den.glob.1 b hb).imp id (fun q => (hmem b).2 q), m2.den.glob.2⟩⟩
    have hor : ordered ops A = true := by
      simp only [okEnd, Bool.and_eq_true] at hend
      exact hend.1.2
    have hval := putE_same (m2.dnd st) (m2.dsize st)
    obtain ⟨μ3, hle3, hd4, hr4⟩ := layAll_ok (P := P) (ops := ops) (N := N) (G := G) (w := w2) (ρ := tm (putE E2 a2).tmps) (ts9 := ts2) (hGB := R.hG0) E3 ts1 h1 μ2 a2 (by rw [he3]; exact hlay) hden3 ((blk_perm hp3).nodup_iff.1 m2.ndb) (fun x hx => (m2.laid x (hp3.mem_iff.2 hx)).2) (fun x hx => hval x (hp3.mem_iff.2 hx)) m2.rel
      (fun t ht => (putE_ne fun y hy => ht y (hp3.mem_iff.1 hy)).symm) (by rw [he3]; exact hor)
    have hact : putE E3.reverse a2 = putE E2 a2 := by
      refine (putE_perm (hp3.trans E3.reverse_perm.symm) (m2.dnd st) a2).symm
    rw [hact] at hr4
    have hLs : setAll (ks.foldl (fun l x => l.setIfInBounds x.1 true) l) (E2.map (·.1)) = setAll (ks.foldl (fun l x => l.setIfInBounds x.1 true) l) A := setAll_perm hperm _
    rw [hLs]
    refine phases_ok R FIN ps _ dn1 ts2 h2 μ3 _ w2 fuel2 hoks hdr ⟨hd4, hr4, ?_, Mu.le_trans m2.le hle3, m2.bel, m2.kp, ?_, fun k hk => ⟨(m2.dnl k hk).1, (setAll_true _ _ _).2 (.inl (m2.dnl k hk).2)⟩, fun x hx => absurd hx (by simp), .nil, .nil, (putE_defers _ _).trans m2.df, fun t ht => by simp [usesA] at ht, rfl, by rw [setAll_size]; exact m2.ls⟩ hf2
    · have := m2.clo
      rw [hLs] at this
      exact this
    · have := m2.ss
      rw [hLs] at this
      exact this
end
/-- **Regions that draw are right.** -/
theorem draw_right [Orc] {P : Program} [OrcOk P] {G : Gl} (hG : G.l.all (fun x => x.2.1.toList.all (gr 6)) = true) : DrawRight P G := by
  intro rc hrc frz ops ts h k r e
  unfold drawD at e
  cases hc : (planD P ops).ok with
  | false => rw [hc] at e; cases e
  | true =>
    rw [hc, cond_true] at e
    simp only [planD, Bool.and_eq_true] at hc
    obtain ⟨⟨⟨⟨hok, hlen⟩, hsel⟩, hndf⟩, hmix⟩ := hc
    have hsel := noSelL_ok hsel
    have hlen := Nat.le_of_ble_eq_true hlen
    have hok := okPhasesN_ok (l := Array.replicate ops.size false) _ msk0 (by simp) hok
    have hps : (planD P ops).ps = phases ops ops.size 0 := rfl
    rw [← hps] at hok hlen
    have hqs := okPhases_quiet _ _ hok
    have key : ∀ F : List (Nat × Nat), frzLive h (F.map (·.2)) = true → frzLive h frz = true → (phasesW P G ops (planD P ops).ps []).run rc frz h F ts h k = some r → ∃ ts' h', k ts' h' = some r ∧ RegR P G frz ops true ts h ts' h' := by
      intro F hl1 hl2 e
      obtain ⟨ts', h', hk, hp⟩ := phasesW_ok hG hrc _ _ _ _ hqs e
      refine ⟨ts', h', hk, fun N μ w a ro' Q id d hts K => ?_⟩
      have hmu : ∀ k, (h.tr.get k).isSome = true → ∃ b κ, μ k = some (b, κ) ∧ b < w.heap.size := fun k hk => by
        obtain ⟨sb, hsb⟩ := Option.isSome_iff_exists.1 hk
        obtain ⟨b, κ, h1, _, h3⟩ := (d.blk k sb hsb).at
        exact ⟨b, κ, h1, h3⟩
      have R : Reg P N G ops F μ w.drew frz rc h := ⟨d.drew, hG, hrc, hsel, hndf, fun x hx => hmu x.2 (List.all_eq_true.1 hl1 x.2 (List.mem_map.2 ⟨x, hx, rfl⟩)), fun k hk b κ hm => by
        obtain ⟨b', κ', h1, h2⟩ := hmu k (List.all_eq_true.1 hl2 k hk)
        rw [hm] at h1; cases h1; exact h2, d.glob.1⟩
      refine Code.wpIn_mono (Q := Q0 (Q .normal)) (fun e a w q => by cases e <;> first | exact q | exact q.elim) ?_
      refine wpIn_region_any hmix (wpAnyIn_of_WF (S := SS ops F G μ w.drew) _ _ _ _ ?_)
      refine phases_ok (D0 := a.defers) R (fun l dn μ' a' w' m => K μ' a' w' ⟨m.le, m.den, (Bel.refl N w).drew.trans m.bel, m.kp⟩ m.rel m.df) (planD P ops).ps _ [] ts h μ a w.drew ops.size hok hp ?_ hlen
      refine ⟨d.drew, hts, ?_, Mu.le_refl _, Bel.refl _ _, Keep.refl, ⟨fun _ _ _ _ _ _ => rfl, fun _ _ => rfl, fun _ _ _ => rfl⟩, fun k hk => absurd hk (by simp), fun x hx => absurd hx (by simp), .nil, .nil, rfl, fun t ht => by simp [usesA] at ht, rfl, by simp⟩
      intro j oj hj hl'
      have hlt : j < ops.size := (Array.getElem?_eq_some_iff.1 hj).1
      simp [setAll_nil, Array.getD, hlt] at hl'
    cases hsm : (planD P ops).simple with
    | true =>
      rw [hsm] at e
      simp only [cond_true] at e
      cases hl : frzLive h frz with
      | false => rw [hl] at e; cases e
      | true => rw [hl, cond_true] at e; exact key [] rfl hl e
    | false =>
      rw [hsm] at e
      simp only [cond_false] at e
      cases hl : (frzLive h ((footX P G ops h (planD P ops).ks ts).map (·.2)) && frzLive h frz) with
      | false => rw [hl] at e; cases e
      | true =>
        rw [hl, cond_true] at e
        rw [Bool.and_eq_true] at hl
        exact key _ hl.1 hl.2 e
/-- **All code that is reckoned on the shadow is right.** -/
theorem exec_right [Orc] {P : Program} [OrcOk P] {G : Gl} (hG : G.l.all (fun x => x.2.1.toList.all (gr 6)) = true) (n : Nat) : Right P G (exec P G n) := (right_exec hG (draw_right hG) n).1
end Go.Proofs.Ytpaabfecoghibaa

/- A closed call that comes to true on the shadow does so in each world, and leaves what was there. Over any program without package variables that it asks for. Conditions: as each law says. -/
namespace Go.Proofs.Ytpaabfecoghibaa
open Go Go.RowKit
set_option linter.unusedSimpArgs false
set_option linter.unusedVariables false
theorem Tr.get_none {α : Type} (n : Nat) : (Tr.nil : Tr α).get n = none := rfl
theorem den0 (P : Program) (w : World) : Den P ⟨w.heap.size, []⟩ gl0 (fun _ => none) sh0 w :=
  Den.mk (by exact ⟨Nat.le_refl _, fun k hk => (List.not_mem_nil hk).elim⟩) (by intro j sb hj; cases hj) (by intro j _; rfl) (by intro j _; rfl) (by intro i j si sj b κ κ' hi; cases hi)
    (by intro j t cs f hj; cases hj) (by intro j t cs f hj; cases hj) (by intro f _; rfl) gl0_glob
theorem bool_rel {μ : Mu} {b : Bool} {v : Value} (h : Rel μ (.bool b) v) : v = .bool b := by
  cases h with
  | ground _ => rfl
/-- **A closed call that comes to true**, where the ends of some calls are known. -/
theorem closed_nullE {T : List (FuncId × Value)} {E : List Ent} {P : Program} {n : Nat} {f : FuncId} (hT : ∀ x ∈ T, NullR P x.1 x.2) (hE : ∀ x ∈ E, EntR P x) (h : isTrue (@runS ⟨T, E, false, 0⟩ P gl0 n f []) = true) : NullR P f (.bool true) := by
  letI : Orc := ⟨T, E, false, 0⟩
  haveI : OrcOk P := ⟨hT, hE⟩
  unfold isTrue at h
  split at h
  · rename_i b hb
    subst h
    unfold runS at hb
    obtain ⟨v, h', hk, hent, hc⟩ := callF_ok (by rfl) (exec_right (by rfl) n) hb
    cases hk
    refine ⟨rfl, hent, fun w => (hc _ _ w #[] (den0 P w) .nil).mono ?_⟩
    rintro e w' ⟨μ', v', rfl, p, hv⟩
    exact ⟨by rw [bool_rel hv], p.bel.low⟩
  · cases h
theorem ent_nil {P : Program} : ∀ x ∈ ([] : List Ent), EntR P x := fun x hx => by cases hx
theorem ent_cons {P : Program} {y : Ent} {E : List Ent} (n : EntR P y) (h : ∀ x ∈ E, EntR P x) : ∀ x ∈ (y :: E), EntR P x := fun x hx => by
  rcases List.mem_cons.1 hx with rfl | hx
  · exact n
  · exact h x hx
theorem closed_null [Orc] {T : List (FuncId × Value)} {P : Program} {n : Nat} {f : FuncId} (hT : ∀ x ∈ T, NullR P x.1 x.2) (h : isTrue (@runS ⟨T, [], false, 0⟩ P gl0 n f []) = true) : NullR P f (.bool true) := closed_nullE hT ent_nil h
/-- What an entry's call comes to, at its own memory; its rows stay as they are. The new row, if there is one, has the number o. -/
def famLow (m : Nat) : Option SB → Bool
  | some (.row _ _ f) => Nat.blt f m
  | _ => false
noncomputable def okRes (m : Nat) (h : SH) (o : Nat) : Option (TypeId × List Value) → Option (List Value)
  | none => some []
  | some r => match h.tr.get o with
    | some (.row t cs f) => cond (decide (t = r.1) && Nat.ble m f && ((List.range m).all fun k => famLow m (h.tr.get k))) (some cs) none
    | _ => none
noncomputable def runE [Orc] (P : Program) (n o : Nat) (x : Ent) : Option Value := callF P gl0 (exec P gl0 n) (List.range x.mem.length) (finfo P x.g) x.args (memSH x.mem { next := 0, tr := .nil, kin := .nil }) fun v h => match okRes x.mem.length h o x.res with
  | some cs => some (.tuple ⟨v :: cs⟩)
  | none => none
/-- What it must come to. -/
def resOf (x : Ent) : List Value := match x.res with
  | none => []
  | some r => r.2
def endOf (o : Nat) (x : Ent) : Value := match x.res with
  | none => x.v
  | some _ => renB o 4 x.v
def fineB : Nat → Value → Bool
  | 0, v => gr 6 v
  | d + 1, v => match v with
    | .slice (some a) _ _ => match a.spot with
      | some 0 => true
      | some 1 => Nat.beq a.off 0
      | _ => false
    | .agg cs => cs.toList.all (fineB d)
    | .tuple cs => cs.toList.all (fineB d)
    | v => gr 6 v
def fineE (x : Ent) : Bool := match x.res with
  | none => gr 6 x.v
  | some r => fineB 4 x.v && r.2.all (gr 6)
theorem renB_rel {μ ν : Mu} {o n b κ : Nat} (ho : μ o = some (b, κ)) (hn : ν n = some (b, κ)) : ∀ (d : Nat) (v v' : Value), fineB d v = true → Rel μ (renB o d v) v' → Rel ν (renB n d v) v'
  | 0, v, v', hf, hr => by
    have hf : gr 6 v = true := hf
    obtain rfl := Rel.eq (show Rel μ v v' from hr) hf
    exact .ground hf
  | d + 1, v, v', hf, hr => by
    have lst : ∀ (l l' : List Value), l.all (fineB d) = true → RelL μ (l.map (renB o d)) l' → RelL ν (l.map (renB n d)) l' := by
      intro l
      induction l with
      | nil => intro l' _ h; cases h; exact .nil
      | cons x l ih =>
        intro l' hl h
        rw [List.all_cons, Bool.and_eq_true] at hl
        rw [List.map_cons] at h ⊢
        cases h with
        | cons hv ht => exact .cons (renB_rel ho hn d _ _ hl.1 hv) (ih _ hl.2 ht)
    cases v with
    | slice oa k c =>
      cases oa with
      | none =>
        have hf : gr 6 (.slice none k c) = true := hf
        obtain rfl := Rel.eq (show Rel μ (.slice none k c) v' from hr) hf
        exact .ground hf
      | some a =>
        obtain ⟨bl, off, sp⟩ := a
        have hr : Rel μ (.slice (some ⟨o, off, sp⟩) k c) v' := hr
        show Rel ν (.slice (some ⟨n, off, sp⟩) k c) v'
        simp only [fineB] at hf
        split at hf
        · cases hr with
          | ground hg => simp [gr] at hg
          | slice hm => rw [ho] at hm; cases hm; exact .slice hn
        · cases hr with
          | ground hg => simp [gr] at hg
          | sliceO hm hk => rw [ho] at hm; cases hm; exact .sliceO hn hk
        · cases hf
    | agg cs =>
      have hr : Rel μ (.agg ⟨cs.toList.map (renB o d)⟩) v' := hr
      obtain ⟨cs', rfl, hl⟩ := agg_rel hr
      exact .agg (lst _ _ hf hl)
    | tuple cs =>
      have hr : Rel μ (.tuple ⟨cs.toList.map (renB o d)⟩) v' := hr
      obtain ⟨cs', rfl, hl⟩ := tuple_rel hr
      exact .tuple (lst _ _ hf hl)
    | _ =>
      simp only [fineB] at hf
      simp only [renB] at hr ⊢
      obtain rfl := hr.eq hf
      exact .ground hf
/-- **An entry is right.** -/
theorem ent_ok {T : List (FuncId × Value)} {E : List Ent} {P : Program} {n o : Nat} {x : Ent} (hT : ∀ x ∈ T, NullR P x.1 x.2) (hE : ∀ x ∈ E, EntR P x) (hf : fineE x = true) (h : @runE ⟨T, E, false, 0⟩ P n o x = some (.tuple ⟨endOf o x :: resOf x⟩)) : EntR P x := by
  letI : Orc := ⟨T, E, false, 0⟩
  haveI : OrcOk P := ⟨hT, hE⟩
  unfold runE at h
  obtain ⟨v, h', hk, hent, hc⟩ := callF_ok (by rfl) (exec_right (by rfl) n) h
  refine ⟨hent, fun μ w bs args' d hbs ha => (hc _ μ w args' d ha).mono ?_⟩
  rintro e w' ⟨μ', v', rfl, p, hv⟩
  have hbel : Below w.heap.size w w' := ⟨p.bel.low.os, p.bel.low.tape, p.bel.low.output, p.bel.low.size, fun k hk => by
    by_cases hm : k ∈ bs
    · obtain ⟨j, κ, h1, h2⟩ := hbs k hm
      exact p.kp j (List.mem_range.2 h1) k κ h2
    · refine p.bel.oth k (List.mem_filter.2 ⟨List.mem_range.2 hk, ?_⟩)
      cases hq : bs.any fun b => Nat.beq b k with
      | false => rfl
      | true =>
        obtain ⟨b, hb, hbk⟩ := List.any_eq_true.1 hq
        exact absurd (by rw [← Nat.eq_of_beq_eq_true hbk]; exact hb) hm⟩
  refine ⟨?_, hbel⟩
  unfold EntE
  cases hr : x.res with
  | none =>
    simp only [hr, okRes, endOf, resOf, Option.some.injEq, Value.tuple.injEq, Array.mk.injEq, List.cons.injEq, and_true] at hk
    simp only [fineE, hr] at hf
    subst hk
    exact ⟨hf, by rw [hv.eq hf]⟩
  | some r =>
    simp only [fineE, hr, Bool.and_eq_true] at hf
    simp only [hr, endOf, resOf] at hk
    split at hk
    · rename_i cs hok
      simp only [Option.some.injEq, Value.tuple.injEq, Array.mk.injEq, List.cons.injEq] at hk
      obtain ⟨rfl, rfl⟩ := hk
      simp only [okRes] at hok
      split at hok
      · rename_i t cs2 f hget
        cases hcnd : (decide (t = r.1) && Nat.ble x.mem.length f && ((List.range x.mem.length).all fun k => famLow x.mem.length (h'.tr.get k))) with
        | false => rw [hcnd] at hok; cases hok
        | true =>
          rw [hcnd, cond_true, Option.some.injEq] at hok
          subst hok
          simp only [Bool.and_eq_true, decide_eq_true_eq] at hcnd
          obtain ⟨⟨rfl, hmf⟩, hall⟩ := hcnd
          have hmf := Nat.le_of_ble_eq_true hmf
          obtain ⟨b, κ, cur, sz, b1, b2, b3, b4, b5, b6, b7⟩ := p.den.blk o _ hget
          refine ⟨hf.2, v', b, κ, cur, sz, rfl, ?_, b3, b4, b5, b6, ?_, fun ν k hk => renB_rel b1 hk 4 _ _ hf.1 hv⟩
          · rcases Nat.lt_or_ge b w.heap.size with hlt | hge
            · exfalso
              by_cases hm : b ∈ bs
              · obtain ⟨j, κ', h1, h2⟩ := hbs b hm
                have hlow := List.all_eq_true.1 hall j (List.mem_range.2 h1)
                unfold famLow at hlow
                split at hlow
                · rename_i t3 cs3 f3 hsj
                  refine p.den.apart j o _ _ b κ' κ hsj hget (fun e => ?_) (p.le _ _ h2) b1
                  simp only [Nat.blt_eq] at hlow
                  simp only [famOf] at e
                  omega
                · cases hlow
              · refine b2.2 (List.mem_filter.2 ⟨List.mem_range.2 hlt, ?_⟩)
                cases hq : bs.any fun b' => Nat.beq b' b with
                | false => rfl
                | true =>
                  obtain ⟨b', hb', hbk⟩ := List.any_eq_true.1 hq
                  exact absurd (by rw [← Nat.eq_of_beq_eq_true hbk]; exact hb') hm
            · exact hge
          · exact ((RelL.eq b7 hf.2).symm).symm
      · cases hok
    · cases hk
theorem null_nil {P : Program} : ∀ x ∈ ([] : List (FuncId × Value)), NullR P x.1 x.2 := fun x hx => by cases hx
theorem null_cons {P : Program} {g : FuncId} {v : Value} {T : List (FuncId × Value)} (n : NullR P g v) (h : ∀ x ∈ T, NullR P x.1 x.2) : ∀ x ∈ ((g, v) :: T), NullR P x.1 x.2 := fun x hx => by
  rcases List.mem_cons.1 hx with rfl | hx
  · exact n
  · exact h x hx
theorem closed_any {P : Program} {f : FuncId} (n : NullR P f (.bool true)) (w : World) :
    CallsIn Fence.wide 0 P f #[] w fun e w' => e = .returned (.bool true) ∧ Below w.heap.size w w' := n.2.2 w
end Go.Proofs.Ytpaabfecoghibaa
