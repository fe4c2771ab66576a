/- A region that draws its order, whose operations compute, read, call and make memory, but store nothing that stood before: whatever the order, each operation finds what those that it waits for have left. Over any program. Conditions: as the law says. -/
import Derived.Test.YtpkjjiieglebbaaDoorR
import Derived.Test.YtpkjjiieglebbaaDoorM
namespace Go.Proofs.YtpkjjiieglebbaaDoor
open Go Go.RowKit
/-- What those of a list that have come up have put, in the list's order. -/
def putSel (vs : Nat → Value) (l : Nat → Bool) : List Oper → Nat → Act → Act
  | [], _, a => a
  | o :: os, k, a => putSel vs l os (k + 1) (if l k = true then a.put o.dst (vs k) else a)
def putAll (vs : Nat → Value) : List Oper → Nat → Act → Act
  | [], _, a => a
  | o :: os, k, a => putAll vs os (k + 1) (a.put o.dst (vs k))
def dstApart (x y : Oper) : Prop := ∀ d, x.dst = some d → y.dst ≠ some d
def apartB : List Oper → Bool
  | [] => true
  | o :: os => os.all (fun p => (match o.dst with | some d => p.dst != some d | none => true)) && apartB os
theorem apartB_spec : ∀ {os : List Oper}, apartB os = true → os.Pairwise dstApart
  | [], _ => List.Pairwise.nil
  | o :: os, h => by
    simp only [apartB, Bool.and_eq_true, List.all_eq_true] at h
    refine List.Pairwise.cons (fun p hp d hd => ?_) (apartB_spec h.2)
    have := h.1 p hp
    rw [hd] at this
    simpa using this
theorem putSel_congr {vs vs' : Nat → Value} {l l' : Nat → Bool} : ∀ (os : List Oper) (k : Nat) (a : Act), (∀ j, k ≤ j → vs j = vs' j ∧ l j = l' j) → putSel vs l os k a = putSel vs' l' os k a
  | [], _, _, _ => rfl
  | o :: os, k, a, h => by
    obtain ⟨h1, h2⟩ := h k (Nat.le_refl _)
    rw [putSel, putSel, h1, h2]
    exact putSel_congr os (k + 1) _ fun j hj => h j (by omega)
theorem putSel_put {vs : Nat → Value} {l : Nat → Bool} {x : Option Tmp} {v : Value} : ∀ (os : List Oper) (k : Nat) (a : Act), (∀ o ∈ os, ∀ d, x = some d → o.dst ≠ some d) → putSel vs l os k (a.put x v) = (putSel vs l os k a).put x v
  | [], _, _, _ => rfl
  | o :: os, k, a, h => by
    rw [putSel, putSel]
    by_cases hl : l k = true
    · rw [if_pos hl, if_pos hl, Act.put_comm a v (vs k) (h o (by simp))]
      exact putSel_put os (k + 1) _ fun p hp => h p (by simp [hp])
    · rw [if_neg hl, if_neg hl]
      exact putSel_put os (k + 1) _ fun p hp => h p (by simp [hp])
def upd {α : Type} (f : Nat → α) (i : Nat) (v : α) : Nat → α := fun j => if j = i then v else f j
theorem putSel_set {vs : Nat → Value} {l : Nat → Bool} {v : Value} {i : Nat} {o : Oper} : ∀ (os : List Oper) (k : Nat) (a : Act), k ≤ i → os[i - k]? = some o → l i = false → os.Pairwise dstApart →
    putSel (upd vs i v) (upd l i true) os k a = (putSel vs l os k a).put o.dst v
  | [], _, _, _, h, _, _ => by simp at h
  | p :: os, k, a, hk, h, hl, hp => by
    rw [List.pairwise_cons] at hp
    rw [putSel, putSel]
    by_cases e : i = k
    · subst e
      simp only [Nat.sub_self, List.getElem?_cons_zero, Option.some.injEq] at h
      subst h
      rw [if_pos (by simp [upd]), if_neg (by rw [hl]; simp), show upd vs i v i = v by simp [upd]]
      rw [putSel_congr (vs := upd vs i v) (vs' := vs) (l := upd l i true) (l' := l) os (i + 1) _ fun j hj => by simp [upd, show j ≠ i by omega]]
      exact putSel_put os (i + 1) a fun q hq d hd => hp.1 q hq d hd
    · rw [show upd vs i v k = vs k by simp [upd, show ¬ k = i by omega], show upd l i true k = l k by simp [upd, show ¬ k = i by omega]]
      refine putSel_set os (k + 1) _ (by omega) ?_ hl hp.2
      rw [show i - k = (i - (k + 1)) + 1 by omega, List.getElem?_cons_succ] at h
      exact h
theorem put_get {a : Act} {x : Option Tmp} {v : Value} {d : Tmp} (h : x ≠ some d) : (a.put x v).tmps[d]? = a.tmps[d]? := by
  cases x with
  | none => rfl
  | some e =>
    show (a.tmps.setIfInBounds e v)[d]? = _
    rw [Array.getElem?_setIfInBounds_ne (fun q => h (by rw [q]))]
theorem put_size {a : Act} {x : Option Tmp} {v : Value} : (a.put x v).tmps.size = a.tmps.size := by
  cases x with
  | none => rfl
  | some e => exact Array.size_setIfInBounds
theorem putSel_other {vs : Nat → Value} {l : Nat → Bool} {d : Tmp} : ∀ (os : List Oper) (k : Nat) (a : Act), (∀ o ∈ os, o.dst ≠ some d) → (putSel vs l os k a).tmps[d]? = a.tmps[d]?
  | [], _, _, _ => rfl
  | o :: os, k, a, h => by
    rw [putSel, putSel_other os (k + 1) _ fun p hp => h p (by simp [hp])]
    split
    · exact put_get (h o (by simp))
    · rfl
theorem putSel_get {vs : Nat → Value} {l : Nat → Bool} {d : Tmp} {j : Nat} {o : Oper} : ∀ (os : List Oper) (k : Nat) (a : Act), k ≤ j → os[j - k]? = some o → o.dst = some d → l j = true → d < a.tmps.size → os.Pairwise dstApart →
    (putSel vs l os k a).tmps[d]? = some (vs j)
  | [], _, _, _, h, _, _, _, _ => by simp at h
  | p :: os, k, a, hk, h, hd, hl, hs, hp => by
    rw [List.pairwise_cons] at hp
    rw [putSel]
    by_cases e : j = k
    · subst e
      simp only [Nat.sub_self, List.getElem?_cons_zero, Option.some.injEq] at h
      subst h
      rw [if_pos hl, putSel_other os (j + 1) _ fun q hq => hp.1 q hq d hd, hd]
      show (a.tmps.setIfInBounds d (vs j))[d]? = _
      rw [Array.getElem?_setIfInBounds_self_of_lt hs]
    · refine putSel_get os (k + 1) _ (by omega) ?_ hd hl ?_ hp.2
      · rw [show j - k = (j - (k + 1)) + 1 by omega, List.getElem?_cons_succ] at h
        exact h
      · split
        · rw [put_size]; exact hs
        · exact hs
theorem putSel_none {vs : Nat → Value} {l : Nat → Bool} : ∀ (os : List Oper) (k : Nat) (a : Act), (∀ j, l j = false) → putSel vs l os k a = a
  | [], _, _, _ => rfl
  | o :: os, k, a, h => by rw [putSel, if_neg (by rw [h]; simp)]; exact putSel_none os (k + 1) a h
theorem putSel_all {vs : Nat → Value} {l : Nat → Bool} : ∀ (os : List Oper) (k : Nat) (a : Act), (∀ j, k ≤ j → j < k + os.length → l j = true) → putSel vs l os k a = putAll vs os k a
  | [], _, _, _ => rfl
  | o :: os, k, a, h => by
    rw [putSel, putAll, if_pos (h k (Nat.le_refl _) (by simp))]
    exact putSel_all os (k + 1) _ fun j h1 h2 => h j (by omega) (by simp; omega)
/-- Each operation waits for operations ahead of it alone, has no guard, and is no select. -/
def plainB (ops : Array Oper) : Bool := (List.range ops.size).all fun i => match ops[i]? with
  | some o => o.guard.isNone && o.after.all fun e => decide (e.on < i)
  | none => true
theorem plainB_spec {ops : Array Oper} (h : plainB ops = true) {i : Nat} {o : Oper} (ho : ops[i]? = some o) : o.guard = none ∧ ∀ e ∈ o.after, e.on < i := by
  simp only [plainB, List.all_eq_true, List.mem_range] at h
  have hi : i < ops.size := by
    rcases Nat.lt_or_ge i ops.size with h' | h'
    · exact h'
    · rw [Array.getElem?_eq_none h'] at ho; cases ho
  have := h i hi
  rw [ho] at this
  simp only [Bool.and_eq_true, Array.all_eq_true_iff_forall_mem, decide_eq_true_eq, Option.isNone_iff_eq_none] at this
  exact ⟨this.1, this.2⟩
section
variable {P : Program} {ops : Array Oper} {Q : Exit → Act → World → Prop}
/-- What is owed of one operation. -/
def StepOk (P : Program) (ops : Array Oper) (Q : Exit → Act → World → Prop) (good : Nat → Value → World → Prop) (n0 : Nat) (w0 : World) (a0 : Act) (i : Nat) (o : Oper) : Prop :=
  ∀ (a : Act) (w : World) (vs : Nat → Value), Below n0 w0 w → (∀ e ∈ o.after, Region.binds .any e = true → good e.on (vs e.on) w ∧ ∀ oe d, opAt ops.toList e.on = some oe → oe.dst = some d → a.tmps[d]? = some (vs e.on)) →
    (∀ d, (∀ p ∈ ops.toList, p.dst ≠ some d) → a.tmps[d]? = a0.tmps[d]?) →
    ∀ K' : Act → World → Prop, Shut (∀ v w', Below w.heap.size w w' → good i v w' → K' (a.put o.dst v) w') → Oper.wp P o a w K' Q
theorem inv_any {good : Nat → Value → World → Prop} {n0 : Nat} {w0 : World} {a0 : Act} (hn0 : n0 ≤ w0.heap.size) (hmono : ∀ i v w w', good i v w → Below w.heap.size w w' → good i v w')
    (hp : plainB ops = true) (hd : apartB ops.toList = true) (hsz : ∀ o ∈ ops.toList, ∀ d, o.dst = some d → d < a0.tmps.size)
    (hstep : ∀ i o, opAt ops.toList i = some o → StepOk P ops Q good n0 w0 a0 i o)
    (hend : ∀ vs w, Below n0 w0 w → (∀ i, i < ops.size → good i (vs i) w) → Q .normal (putAll vs ops.toList 0 a0) w) :
    ∀ (fuel : Nat) (listed : Array Bool) (vs : Nat → Value) (w : World), listed.size = ops.size → listed.toList.count false ≤ fuel → Below n0 w0 w → (∀ i, listed.getD i false = true → good i (vs i) w) →
      wpAny P .any ops Q fuel listed (putSel vs (fun j => listed.getD j false) ops.toList 0 a0) w := by
  have hpw := apartB_spec hd
  -- what is ready, where something has not come up
  have hall : ∀ listed : Array Bool, listed.size = ops.size → Region.ready .any ops listed = [] → ∀ j, j < ops.size → listed.getD j false = true := by
    intro listed hls hr j
    induction j using Nat.strongRecOn with
    | ind j ih =>
      intro hj
      rcases hb : listed.getD j false with _ | _
      · exfalso
        have hm : j ∈ Region.ready .any ops listed := by
          refine mem_ready.2 ⟨?_, ops[j], Array.getElem?_eq_getElem hj, fun e he _ => ?_⟩
          · rw [Array.getD_eq_getD_getElem?, Array.getElem?_eq_getElem (by omega)] at hb ⊢
            simpa using hb
          · have := (plainB_spec hp (Array.getElem?_eq_getElem hj)).2 e he
            exact ih e.on this (by omega)
        rw [hr] at hm; cases hm
      · rfl
  have hdone : ∀ (listed : Array Bool) (vs : Nat → Value) (w : World), listed.size = ops.size → Below n0 w0 w → (∀ i, listed.getD i false = true → good i (vs i) w) → Region.ready .any ops listed = [] → Q .normal (putSel vs (fun j => listed.getD j false) ops.toList 0 a0) w := by
    intro listed vs w hls hB hg hr
    have ha := hall listed hls hr
    rw [putSel_all ops.toList 0 a0 fun j _ h2 => ha j (by simpa using h2)]
    exact hend vs w hB fun i hi => hg i (ha i hi)
  intro fuel
  induction fuel with
  | zero =>
    intro listed vs w hls hc hB hg
    have hr : Region.ready .any ops listed = [] := by
      rcases h : Region.ready .any ops listed with _ | ⟨j, r⟩
      · rfl
      · exfalso
        have hj := (mem_ready.1 (show j ∈ Region.ready .any ops listed by rw [h]; simp)).1
        have hlt : j < listed.size := by
          rcases Nat.lt_or_ge j listed.size with h' | h'
          · exact h'
          · rw [Array.getD_eq_getD_getElem?, Array.getElem?_eq_none h'] at hj; cases hj
        rw [Array.getD_eq_getD_getElem?, Array.getElem?_eq_getElem hlt] at hj
        have hm : false ∈ listed.toList := by
          have : listed[j] = false := by simpa using hj
          rw [← this]; simp
        have := List.count_pos_iff.2 hm
        omega
    exact ⟨hr, hdone listed vs w hls hB hg hr⟩
  | succ fuel ih =>
    intro listed vs w hls hc hB hg
    refine ⟨hdone listed vs w hls hB hg, fun i hi => ?_⟩
    obtain ⟨hun, o, ho, hdep⟩ := mem_ready.1 hi
    have hilt : i < ops.size := by
      rcases Nat.lt_or_ge i ops.size with h' | h'
      · exact h'
      · rw [Array.getElem?_eq_none h'] at ho; cases ho
    have hil : i < listed.size := by omega
    have hif : listed.getD i false = false := by
      rw [Array.getD_eq_getD_getElem?, Array.getElem?_eq_getElem hil] at hun ⊢
      simpa using hun
    have hot : ops.toList[i]? = some o := by simpa using ho
    obtain ⟨hgd, hbef⟩ := plainB_spec hp ho
    refine wpOp_step ho fun K' hK => ?_
    rw [if_pos (by unfold Region.wanted; rw [hgd])]
    refine hstep i o (by rw [opAt_eq]; exact hot) _ w vs hB (fun e he hb => ?_) (fun d hdd => putSel_other _ _ _ hdd) K' (show Shut _ from fun v w' hbw hgv => ?_)
    · have hl := hdep e he hb
      refine ⟨hg e.on hl, fun oe d hoe hde => ?_⟩
      rw [opAt_eq] at hoe
      exact putSel_get ops.toList 0 a0 (Nat.zero_le _) (by simpa using hoe) hde hl (hsz oe (List.mem_of_getElem? hoe) d hde) hpw
    · refine hK _ _ ?_
      have e := putSel_set (vs := vs) (l := fun j => listed.getD j false) (v := v) (i := i) (o := o) ops.toList 0 a0 (Nat.zero_le _) (by simpa using hot) hif hpw
      rw [← e]
      have hfun : upd (fun j => listed.getD j false) i true = fun j => (listed.setIfInBounds i true).getD j false := by
        funext j
        unfold upd
        by_cases hji : j = i
        · subst hji
          rw [if_pos rfl, Array.getD_eq_getD_getElem?, Array.getElem?_setIfInBounds_self_of_lt hil]; rfl
        · rw [if_neg hji]
          show listed.getD j false = _
          rw [Array.getD_eq_getD_getElem?, Array.getD_eq_getD_getElem?, Array.getElem?_setIfInBounds_ne (fun q => hji q.symm)]
      rw [hfun]
      refine ih (listed.setIfInBounds i true) (upd vs i v) w' (by rw [Array.size_setIfInBounds]; exact hls) ?_ (hB.trans (hbw.mono (Nat.le_trans hn0 hB.size))) fun j hj => ?_
      · have hc2 : (listed.setIfInBounds i true).toList = listed.toList.set i true := by simp
        rw [hc2, List.count_set (by simpa using hil)]
        have h0 : listed.toList[i]'(by simpa using hil) = false := by
          rw [Array.getD_eq_getD_getElem?, Array.getElem?_eq_getElem hil] at hif
          simpa using hif
        rw [h0]
        have e1 : (true == false) = false := rfl
        have e2 : (false == false) = true := rfl
        simp only [e1, e2, if_true, Bool.false_eq_true, if_false]
        omega
      · by_cases hji : j = i
        · subst hji; simpa [upd] using hgv
        · have hjl : listed.getD j false = true := by
            rw [Array.getD_eq_getD_getElem?, Array.getElem?_setIfInBounds_ne (fun q => hji q.symm)] at hj
            rw [Array.getD_eq_getD_getElem?]; exact hj
          simpa [upd, hji] using hmono j _ _ _ (hg j hjl) hbw
/-- **THE LAW.** -/
theorem region_inv (good : Nat → Value → World → Prop) {id : Nat} {a0 : Act} {w : World} (hm : P.follows .mixedOrders = true) (hmono : ∀ i v w w', good i v w → Below w.heap.size w w' → good i v w')
    (hp : plainB ops = true) (hd : apartB ops.toList = true) (hsz : ops.toList.all (fun o => match o.dst with | some d => decide (d < a0.tmps.size) | none => true) = true)
    (hstep : ∀ i o, opAt ops.toList i = some o → StepOk P ops Q good w.heap.size w.drew a0 i o)
    (hend : ∀ vs W, Below w.heap.size w.drew W → (∀ i, i < ops.size → good i (vs i) W) → Q .normal (putAll vs ops.toList 0 a0) W) : (Code.region id ops true).wp P Q a0 w := by
  refine wp_region_any hm ?_
  have h := inv_any (P := P) (ops := ops) (Q := Q) (good := good) (n0 := w.heap.size) (w0 := w.drew) (a0 := a0) (Nat.le_refl _) hmono hp hd (fun o ho d hod => by
    have := List.all_eq_true.1 hsz o ho
    rw [hod] at this
    exact of_decide_eq_true this) hstep hend ops.size (Array.replicate ops.size false) (fun _ => undef) w.drew (by simp) (by simp) (Below.refl _ _) (fun i hi => by
      exfalso
      rw [Array.getD_eq_getD_getElem?, Array.getElem?_replicate] at hi
      split at hi <;> simp at hi)
  rw [putSel_none ops.toList 0 a0 (fun j => by
    rw [Array.getD_eq_getD_getElem?, Array.getElem?_replicate]
    split <;> rfl)] at h
  exact h
/-- What is owed of one operation, where what it leaves may be told by what those that it waits for have left. -/
def StepOk2 (P : Program) (ops : Array Oper) (Q : Exit → Act → World → Prop) (good : (Nat → Value) → Nat → World → Prop) (n0 : Nat) (w0 : World) (a0 : Act) (i : Nat) (o : Oper) : Prop :=
  ∀ (a : Act) (w : World) (vs : Nat → Value), Below n0 w0 w → (∀ e ∈ o.after, Region.binds .any e = true → good vs e.on w ∧ ∀ oe d, opAt ops.toList e.on = some oe → oe.dst = some d → a.tmps[d]? = some (vs e.on)) →
    (∀ d, (∀ p ∈ ops.toList, p.dst ≠ some d) → a.tmps[d]? = a0.tmps[d]?) →
    ∀ K' : Act → World → Prop, Shut (∀ v w', Below w.heap.size w w' → good (upd vs i v) i w' → K' (a.put o.dst v) w') → Oper.wp P o a w K' Q
theorem inv_any2 {good : (Nat → Value) → Nat → World → Prop} {n0 : Nat} {w0 : World} {a0 : Act} (hn0 : n0 ≤ w0.heap.size) (hmono : ∀ vs i w w', good vs i w → Below w.heap.size w w' → good vs i w')
    (hloc : ∀ vs vs' i o w, opAt ops.toList i = some o → vs i = vs' i → (∀ e ∈ o.after, Region.binds .any e = true → vs e.on = vs' e.on) → good vs i w → good vs' i w)
    (hp : plainB ops = true) (hd : apartB ops.toList = true) (hsz : ∀ o ∈ ops.toList, ∀ d, o.dst = some d → d < a0.tmps.size)
    (hstep : ∀ i o, opAt ops.toList i = some o → StepOk2 P ops Q good n0 w0 a0 i o)
    (hend : ∀ vs w, Below n0 w0 w → (∀ i, i < ops.size → good vs i w) → Q .normal (putAll vs ops.toList 0 a0) w) :
    ∀ (fuel : Nat) (listed : Array Bool) (vs : Nat → Value) (w : World), listed.size = ops.size → listed.toList.count false ≤ fuel → Below n0 w0 w → (∀ i, listed.getD i false = true → good vs i w) → (∀ i o, ops[i]? = some o → listed.getD i false = true → ∀ e ∈ o.after, Region.binds .any e = true → listed.getD e.on false = true) →
      wpAny P .any ops Q fuel listed (putSel vs (fun j => listed.getD j false) ops.toList 0 a0) w := by
  have hpw := apartB_spec hd
  -- what is ready, where something has not come up
  have hall : ∀ listed : Array Bool, listed.size = ops.size → Region.ready .any ops listed = [] → ∀ j, j < ops.size → listed.getD j false = true := by
    intro listed hls hr j
    induction j using Nat.strongRecOn with
    | ind j ih =>
      intro hj
      rcases hb : listed.getD j false with _ | _
      · exfalso
        have hm : j ∈ Region.ready .any ops listed := by
          refine mem_ready.2 ⟨?_, ops[j], Array.getElem?_eq_getElem hj, fun e he _ => ?_⟩
          · rw [Array.getD_eq_getD_getElem?, Array.getElem?_eq_getElem (by omega)] at hb ⊢
            simpa using hb
          · have := (plainB_spec hp (Array.getElem?_eq_getElem hj)).2 e he
            exact ih e.on this (by omega)
        rw [hr] at hm; cases hm
      · rfl
  have hdone : ∀ (listed : Array Bool) (vs : Nat → Value) (w : World), listed.size = ops.size → Below n0 w0 w → (∀ i, listed.getD i false = true → good vs i w) → Region.ready .any ops listed = [] → Q .normal (putSel vs (fun j => listed.getD j false) ops.toList 0 a0) w := by
    intro listed vs w hls hB hg hr
    have ha := hall listed hls hr
    rw [putSel_all ops.toList 0 a0 fun j _ h2 => ha j (by simpa using h2)]
    exact hend vs w hB fun i hi => hg i (ha i hi)
  intro fuel
  induction fuel with
  | zero =>
    intro listed vs w hls hc hB hg hcl
    have hr : Region.ready .any ops listed = [] := by
      rcases h : Region.ready .any ops listed with _ | ⟨j, r⟩
      · rfl
      · exfalso
        have hj := (mem_ready.1 (show j ∈ Region.ready .any ops listed by rw [h]; simp)).1
        have hlt : j < listed.size := by
          rcases Nat.lt_or_ge j listed.size with h' | h'
          · exact h'
          · rw [Array.getD_eq_getD_getElem?, Array.getElem?_eq_none h'] at hj; cases hj
        rw [Array.getD_eq_getD_getElem?, Array.getElem?_eq_getElem hlt] at hj
        have hm : false ∈ listed.toList := by
          have : listed[j] = false := by simpa using hj
          rw [← this]; simp
        have := List.count_pos_iff.2 hm
        omega
    exact ⟨hr, hdone listed vs w hls hB hg hr⟩
  | succ fuel ih =>
    intro listed vs w hls hc hB hg hcl
    refine ⟨hdone listed vs w hls hB hg, fun i hi => ?_⟩
    obtain ⟨hun, o, ho, hdep⟩ := mem_ready.1 hi
    have hilt : i < ops.size := by
      rcases Nat.lt_or_ge i ops.size with h' | h'
      · exact h'
      · rw [Array.getElem?_eq_none h'] at ho; cases ho
    have hil : i < listed.size := by omega
    have hif : listed.getD i false = false := by
      rw [Array.getD_eq_getD_getElem?, Array.getElem?_eq_getElem hil] at hun ⊢
      simpa using hun
    have hot : ops.toList[i]? = some o := by simpa using ho
    obtain ⟨hgd, hbef⟩ := plainB_spec hp ho
    refine wpOp_step ho fun K' hK => ?_
    rw [if_pos (by unfold Region.wanted; rw [hgd])]
    refine hstep i o (by rw [opAt_eq]; exact hot) _ w vs hB (fun e he hb => ?_) (fun d hdd => putSel_other _ _ _ hdd) K' (show Shut _ from fun v w' hbw hgv => ?_)
    · have hl := hdep e he hb
      refine ⟨hg e.on hl, fun oe d hoe hde => ?_⟩
      rw [opAt_eq] at hoe
      exact putSel_get ops.toList 0 a0 (Nat.zero_le _) (by simpa using hoe) hde hl (hsz oe (List.mem_of_getElem? hoe) d hde) hpw
    · refine hK _ _ ?_
      have e := putSel_set (vs := vs) (l := fun j => listed.getD j false) (v := v) (i := i) (o := o) ops.toList 0 a0 (Nat.zero_le _) (by simpa using hot) hif hpw
      rw [← e]
      have hfun : upd (fun j => listed.getD j false) i true = fun j => (listed.setIfInBounds i true).getD j false := by
        funext j
        unfold upd
        by_cases hji : j = i
        · subst hji
          rw [if_pos rfl, Array.getD_eq_getD_getElem?, Array.getElem?_setIfInBounds_self_of_lt hil]; rfl
        · rw [if_neg hji]
          show listed.getD j false = _
          rw [Array.getD_eq_getD_getElem?, Array.getD_eq_getD_getElem?, Array.getElem?_setIfInBounds_ne (fun q => hji q.symm)]
      rw [hfun]
      refine ih (listed.setIfInBounds i true) (upd vs i v) w' (by rw [Array.size_setIfInBounds]; exact hls) ?_ (hB.trans (hbw.mono (Nat.le_trans hn0 hB.size))) (fun j hj => ?_) (fun j oj hoj hj ed he hbe => ?_)
      · have hc2 : (listed.setIfInBounds i true).toList = listed.toList.set i true := by simp
        rw [hc2, List.count_set (by simpa using hil)]
        have h0 : listed.toList[i]'(by simpa using hil) = false := by
          rw [Array.getD_eq_getD_getElem?, Array.getElem?_eq_getElem hil] at hif
          simpa using hif
        rw [h0]
        have e1 : (true == false) = false := rfl
        have e2 : (false == false) = true := rfl
        simp only [e1, e2, if_true, Bool.false_eq_true, if_false]
        omega
      · by_cases hji : j = i
        · subst hji; exact hgv
        · have hjl : listed.getD j false = true := by
            rw [Array.getD_eq_getD_getElem?, Array.getElem?_setIfInBounds_ne (fun q => hji q.symm)] at hj
            rw [Array.getD_eq_getD_getElem?]; exact hj
          have hjt : j < ops.size := by
            rcases Nat.lt_or_ge j listed.size with h' | h'
            · omega
            · rw [Array.getD_eq_getD_getElem?, Array.getElem?_eq_none h'] at hjl; cases hjl
          refine hloc vs (upd vs i v) j ops[j] w' (by rw [opAt_eq]; simp) (by simp [upd, hji]) (fun e he hbe => ?_) (hmono vs j _ _ (hg j hjl) hbw)
          have hel := hcl j ops[j] (Array.getElem?_eq_getElem hjt) hjl e he hbe
          have hei : e.on ≠ i := fun q => by rw [q, hif] at hel; cases hel
          simp [upd, hei]
      · have key : ∀ k, listed.getD k false = true → (listed.setIfInBounds i true).getD k false = true := fun k hk => by
          by_cases hki : k = i
          · subst hki; rw [Array.getD_eq_getD_getElem?, Array.getElem?_setIfInBounds_self_of_lt hil]; rfl
          · rw [Array.getD_eq_getD_getElem?, Array.getElem?_setIfInBounds_ne (fun q => hki q.symm)]
            rw [Array.getD_eq_getD_getElem?] at hk; exact hk
        by_cases hji : j = i
        · subst hji
          obtain rfl : oj = o := Option.some.inj (hoj.symm.trans ho)
          exact key ed.on (hdep ed he hbe)
        · have hjl : listed.getD j false = true := by
            rw [Array.getD_eq_getD_getElem?, Array.getElem?_setIfInBounds_ne (fun q => hji q.symm)] at hj
            rw [Array.getD_eq_getD_getElem?]; exact hj
          exact key ed.on (hcl j oj hoj hjl ed he hbe)
/-- **THE LAW**, of values that are told by earlier ones. -/
theorem region_inv2 (good : (Nat → Value) → Nat → World → Prop) {id : Nat} {a0 : Act} {w : World} (hm : P.follows .mixedOrders = true) (hmono : ∀ vs i w w', good vs i w → Below w.heap.size w w' → good vs i w')
    (hloc : ∀ vs vs' i o w, opAt ops.toList i = some o → vs i = vs' i → (∀ e ∈ o.after, Region.binds .any e = true → vs e.on = vs' e.on) → good vs i w → good vs' i w)
    (hp : plainB ops = true) (hd : apartB ops.toList = true) (hsz : ops.toList.all (fun o => match o.dst with | some d => decide (d < a0.tmps.size) | none => true) = true)
    (hstep : ∀ i o, opAt ops.toList i = some o → StepOk2 P ops Q good w.heap.size w.drew a0 i o)
    (hend : ∀ vs W, Below w.heap.size w.drew W → (∀ i, i < ops.size → good vs i W) → Q .normal (putAll vs ops.toList 0 a0) W) : (Code.region id ops true).wp P Q a0 w := by
  refine wp_region_any hm ?_
  have h := inv_any2 (P := P) (ops := ops) (Q := Q) (good := good) (n0 := w.heap.size) (w0 := w.drew) (a0 := a0) (Nat.le_refl _) hmono hloc hp hd (fun o ho d hod => by
    have := List.all_eq_true.1 hsz o ho
    rw [hod] at this
    exact of_decide_eq_true this) hstep hend ops.size (Array.replicate ops.size false) (fun _ => undef) w.drew (by simp) (by simp) (Below.refl _ _) (fun i hi => by
      exfalso
      rw [Array.getD_eq_getD_getElem?, Array.getElem?_replicate] at hi
      split at hi <;> simp at hi) (fun i o ho hi => by
      exfalso
      rw [Array.getD_eq_getD_getElem?, Array.getElem?_replicate] at hi
      split at hi <;> simp at hi)
  rw [putSel_none ops.toList 0 a0 (fun j => by
    rw [Array.getD_eq_getD_getElem?, Array.getElem?_replicate]
    split <;> rfl)] at h
  exact h
end
end Go.Proofs.YtpkjjiieglebbaaDoor
