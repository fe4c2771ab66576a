/- Contracts of functions: what is read in memory that was there before, and what a call comes to then: a value, and new rows. Over any program. Conditions: as each law says. -/
import Derived.Test.YtedpbkpeofaibaaTB
namespace Go.Proofs.Ytedpbkpeofaibaa
open Go Go.RowKit
set_option linter.unusedSimpArgs false
set_option linter.unusedVariables false
def notExit : SE → Prop
  | .exit _ => False
  | _ => True
/-- What a call comes to: a value, and new rows, in which its blocks are numbered. -/
structure Res where
  v : Value
  rows : List (TypeId × List Value)
def Reads (f : Nat → Nat → Option Value) (w : World) : Prop := ∀ b o v, f b o = some v → w.cell? ⟨b, o, none⟩ = some v
def ResP (P : Program) (x : Res) (w : World) (e : Ending) (w' : World) : Prop :=
  ∃ (ν : Mu) (v' : Value), e = .returned v' ∧ Below w.heap.size w w' ∧ Rel ν x.v v' ∧ Den P ⟨w.heap.size, []⟩ gl0 ν (memSH x.rows sh0) w'
/-- **A contract.** -/
def FnR (P : Program) (f : Nat → Nat → Option Value) (g : FuncId) (args : List Value) (x : Res) : Prop :=
  (∀ (args' : Array Value) (W : World), (callFunc g args').run P W = .ok (.enter g args') W) ∧ ∀ w, Reads f w → CallsIn Fence.wide 0 P g ⟨args⟩ w (ResP P x w)
/-- How a function's code ends. -/
def EndF (P : Program) (f : Nat → Nat → Option Value) (g : FuncId) (x : Res) : KP := fun e ts h => notExit e ∧ ∃ (v : Value) (js : List Nat), sResults P (glF f) h (finfo P g).res ts = some v ∧ js.length = x.rows.length ∧ RowsOk (fun j => js[j]?) h x.rows 0 [] ∧ SimV (fun j => js[j]?) x.v v
theorem reads_lt {f : Nat → Nat → Option Value} {w : World} (h : Reads f w) : ∀ b, GB (glF f) b → b < w.heap.size := fun b hb => by
  rcases hb with ⟨x, hx, _⟩ | ⟨o, v, e⟩
  · cases hx
  · have h1 := h b o v e
    rcases Nat.lt_or_ge b w.heap.size with hlt | hge
    · exact hlt
    · simp [World.cell?, Array.getElem?_eq_none hge] at h1
theorem den_start (P : Program) {f : Nat → Nat → Option Value} {w : World} (h : Reads f w) : Den P ⟨w.heap.size, []⟩ (glF f) (fun _ => none) sh0 w :=
  Den.mk (by exact ⟨Nat.le_refl _, fun k hk => (List.not_mem_nil hk).elim⟩) (by intro j sb hj; cases hj) (by intro j _; rfl) (by intro j _; rfl) (by intro i j si sj b κ κ' hi; cases hi)
    (by intro j t cs f hj; cases hj) (by intro j t cs f hj; cases hj) (by intro f _; rfl) ⟨reads_lt h, And.intro (fun x hx => absurd hx (by simp)) h⟩
theorem Den.gl0 {P : Program} {N : Lim} {G : Gl} {μ : Mu} {h : SH} {w : World} (d : Den P N G μ h w) : Den P N gl0 μ h w := ⟨d.base, d.blk, d.old, d.muOld, d.apart, d.kin, d.famLt, d.kinOld, gl0_glob⟩
theorem ent_of_ok {P : Program} {g : FuncId} (hok : (finfo P g).ok = true) : ∀ (args' : Array Value) (W : World), (callFunc g args').run P W = .ok (.enter g args') W := by
  obtain ⟨fn, c, f0, a0, hfn, hb, hp⟩ : ∃ fn c f0 a0, P.funcs[g]? = some fn ∧ fn.body = some c ∧ pureOut P (callFunc g #[]) = some (.enter f0 a0) := by
    cases hfn : P.funcs[g]? with
    | none => simp [finfo, hfn] at hok
    | some fn =>
      cases hb : fn.body with
      | none => simp [finfo, hfn, hb] at hok
      | some c =>
        cases hp : pureOut P (callFunc g #[]) with
        | none => simp [finfo, hfn, hb, hp] at hok
        | some y =>
          cases y with
          | enter f0 a0 => exact ⟨fn, c, f0, a0, rfl, hb, rfl⟩
          | _ => simp [finfo, hfn, hb, hp] at hok
  intro args' W
  have := pureOut_run hp W
  simp only [callFunc, Sem.run_bind, run_program, Result.andThen_ok, hfn] at this ⊢
  by_cases hn : (fn.name == "runtime.NumGoroutine") = true
  · rw [if_pos hn] at this; simp at this
  · rw [if_neg hn, if_neg (by simp [hb])]; rfl
theorem fn_J {P : Program} {f : Nat → Nat → Option Value} {g : FuncId} {args : List Value} {x : Res} (hg : args.all (gr 6) = true) (hok : ((finfo P g).ok && Nat.ble args.length (finfo P g).n) = true)
    (j : J P f 0 (finfo P g).body (frL (finfo P g).n args) sh0 (EndF P f g x)) : FnR P f g args x := by
  rw [Bool.and_eq_true] at hok
  obtain ⟨hok, hle⟩ := hok
  have hle := Nat.le_of_ble_eq_true hle
  obtain ⟨fn, c, f0, a0, hfn, hb, hp, hn, hfi⟩ : ∃ fn c f0 a0, P.funcs[g]? = some fn ∧ fn.body = some c ∧ pureOut P (callFunc g #[]) = some (.enter f0 a0) ∧ fn.ntmps ≤ 512 ∧ finfo P g = ⟨Nat.ble fn.ntmps 512, fn.ntmps, c, fn.results.toList⟩ := by
    cases hfn : P.funcs[g]? with
    | none => simp [finfo, hfn] at hok
    | some fn =>
      cases hb : fn.body with
      | none => simp [finfo, hfn, hb] at hok
      | some c =>
        cases hp : pureOut P (callFunc g #[]) with
        | none => simp [finfo, hfn, hb, hp] at hok
        | some y =>
          cases y with
          | enter f0 a0 =>
            have hfi : finfo P g = ⟨Nat.ble fn.ntmps 512, fn.ntmps, c, fn.results.toList⟩ := by simp [finfo, hfn, hb, hp]
            rw [hfi] at hok
            exact ⟨fn, c, f0, a0, rfl, hb, rfl, Nat.le_of_ble_eq_true hok, hfi⟩
          | _ => simp [finfo, hfn, hb, hp] at hok
  have hent : ∀ (args' : Array Value) (W : World), (callFunc g args').run P W = .ok (.enter g args') W := fun args' W => by
    have := pureOut_run hp W
    simp only [callFunc, Sem.run_bind, run_program, Result.andThen_ok, hfn] at this ⊢
    by_cases hn : (fn.name == "runtime.NumGoroutine") = true
    · rw [if_pos hn] at this; simp at this
    · rw [if_neg hn, if_neg (by simp [hb])]; rfl
  unfold EndF at j
  rw [hfi] at j hle
  simp only at j hle
  refine ⟨hent, fun w hw => ?_⟩
  refine callsIn_of_wp_marks hfn hb trivial ?_
  have ha : RelL (fun _ => none) args (⟨args⟩ : Array Value).toList := RelL.refl hg
  refine j _ _ _ w _ (den_start P hw) (relF_frL (RelF.of ha hn hle) hn hle) rfl fun ex ts h' μ' a' w' hk p hts hds => ?_
  obtain ⟨hex, v, js, hres, hjs, hrows, hv0⟩ := hk
  have key : LeavesInM Fence.wide 0 P fn a'.tmps (ResP P x w) a'.defers .returning w' := by
    refine shut_ok (frz := []) [] h' h' _ w' rfl p.den hds fun w2 p2 => ?_
    obtain ⟨v', hv1, hv⟩ := sResults_ok gl_nil p2.den hts hres
    have hlt : ∀ j j', (fun j => js[j]?) j = some j' → j < x.rows.length := fun j j' e => by
      have := (List.getElem?_eq_some_iff.1 e).1
      omega
    refine ⟨v', hv1, muR (fun j => js[j]?) x.rows.length μ', v', rfl, (p.bel.trans p2.bel).low, ?_, (p2.den.ren hlt hrows).gl0⟩
    refine SimV.rel (fun j j' e => ?_) hv0 hv
    unfold muR
    rw [if_pos (hlt j j' e)]
    have e : js[j]? = some j' := e
    show (js[j]?).bind μ' = _
    rw [e]; rfl
  cases ex with
  | normal => exact key
  | exit id => exact hex.elim
  | ret => exact key
/-- Blocks under numbers that are greater by n. -/
def shV (n : Nat) : Nat → Value → Value
  | 0, v => v
  | d + 1, v => match v with
    | .slice (some a) k c => match a.spot with
      | some s => .slice (some ⟨Nat.add n a.block, a.off, some s⟩) k c
      | none => v
    | .pointer (some a) => match a.spot with
      | some s => .pointer (some ⟨Nat.add n a.block, a.off, some s⟩)
      | none => v
    | .agg cs => .agg ⟨cs.toList.map (shV n d)⟩
    | .tuple cs => .tuple ⟨cs.toList.map (shV n d)⟩
    | _ => v
def shOk : Nat → Value → Bool
  | 0, v => gr 6 v
  | d + 1, v => match v with
    | .slice (some a) _ _ => true
    | .pointer (some a) => true
    | .agg cs => cs.toList.all (shOk d)
    | .tuple cs => cs.toList.all (shOk d)
    | v => gr 6 v
theorem shV_rel {ν μ : Mu} {n : Nat} (hm : ∀ i x, ν i = some x → μ (n + i) = some x) : ∀ (d : Nat) (v v' : Value), shOk d v = true → Rel ν v v' → Rel μ (shV n d v) v'
  | 0, v, v', ho, h => by rw [h.eq ho]; exact .ground ho
  | d + 1, v, v', ho, h => by
    have hl : ∀ (l l' : List Value), l.all (shOk d) = true → RelL ν l l' → RelL μ (l.map (shV n d)) l' := by
      intro l
      induction l with
      | nil => intro l' _ h; cases h; exact .nil
      | cons v l ih =>
        intro l' ha h
        rw [List.all_cons, Bool.and_eq_true] at ha
        cases h with
        | cons h t => exact .cons (shV_rel hm d _ _ ha.1 h) (ih _ ha.2 t)
    cases v with
    | slice a k c =>
      cases a with
      | none => rw [h.eq ho]; exact .ground ho
      | some a =>
        obtain ⟨b, o, sp⟩ := a
        cases sp with
        | none =>
          have hg : gr 6 _ = true := (rfl : gr 6 (.slice (some ⟨b, o, none⟩) k c) = true)
          rw [h.eq hg]; exact .ground hg
        | some s =>
          show Rel μ (.slice (some ⟨n + b, o, some s⟩) k c) v'
          cases h with
          | ground hg => simp [gr] at hg
          | slice h => exact .slice (hm _ _ h)
          | sliceO h hn => exact .sliceO (hm _ _ h) hn
          | sliceE => exact .sliceE
          | sliceA h hn => exact .sliceA (hm _ _ h) hn
    | pointer a =>
      cases a with
      | none => rw [h.eq ho]; exact .ground ho
      | some a =>
        obtain ⟨b, o, sp⟩ := a
        cases sp with
        | none =>
          have hg : gr 6 _ = true := (rfl : gr 6 (.pointer (some ⟨b, o, none⟩)) = true)
          rw [h.eq hg]; exact .ground hg
        | some s =>
          show Rel μ (.pointer (some ⟨n + b, o, some s⟩)) v'
          cases h with
          | ground hg => simp [gr] at hg
          | ptr h => exact .ptr (hm _ _ h)
    | agg cs =>
      obtain ⟨cs', rfl, h2⟩ := agg_rel h
      exact .agg (hl _ _ ho h2)
    | tuple cs =>
      obtain ⟨cs', rfl, h2⟩ := tuple_rel h
      exact .tuple (hl _ _ ho h2)
    | _ =>
      have q := Rel.eq h ho
      rw [q]; exact .ground ho
/-- A row that was made elsewhere comes up. -/
theorem Den.adopt1 {P : Program} {N : Lim} {G : Gl} {μ : Mu} {h : SH} {w : World} (d : Den P N G μ h w) {b κ sz : Nat} {t : TypeId} {cur : Array Value} {cs : List Value} (hNb : N.new b) (hnot : ∀ k sk b' κ', h.tr.get k = some sk → μ k = some (b', κ') → b' ≠ b) (hh : w.heap[b]? = some (.cells cur t (0, 0))) (hsz : (P.info? t).map (·.size) = some sz) (hcur : cur.size = κ * sz) (hle : cs.length ≤ cur.size) (hrel : RelL μ cs (cur.toList.take cs.length)) :
    Den P N G (μ.add h.next b κ) (h.push (.row t cs h.next)) w := by
  have hnone := d.muOld h.next (Nat.le_refl _)
  have hmle : μ.le (μ.add h.next b κ) := Mu.le_add hnone
  refine ⟨d.base, ?_, ?_, ?_, ?_, ?_, ?_, ?_, d.glob⟩
  · intro j sb hj
    simp only [SH.push_eq, Tr.get_set] at hj
    split at hj
    · rename_i e; subst e; cases hj
      exact ⟨b, κ, cur, sz, Mu.add_same, hNb, hh, hsz, hcur, hle, hrel.mono hmle⟩
    · exact (d.blk j sb hj).keep hmle fun _ _ _ => rfl
  · intro j hj
    simp only [SH.push_eq] at hj ⊢
    rw [Tr.get_set, if_neg (by omega)]
    exact d.old j (by omega)
  · intro j hj
    simp only [SH.push_eq] at hj
    simp only [Mu.add, if_neg (show ¬ j = h.next by omega)]
    exact d.muOld j (by omega)
  · intro i j si sj b1 κ₁ κ₂ hi hj hne hmi hmj
    simp only [SH.push_eq, Tr.get_set] at hi hj
    have key : ∀ k sk b' κ', h.tr.get k = some sk → k ≠ h.next → (μ.add h.next b κ) k = some (b', κ') → μ k = some (b', κ') := fun k sk b' κ' hk hkn hm => by
      simpa only [Mu.add, if_neg hkn] using hm
    by_cases ei : i = h.next <;> by_cases ej : j = h.next
    · subst ei; subst ej
      rw [if_pos rfl] at hi hj
      cases hi; cases hj
      exact hne rfl
    · rw [if_neg ej] at hj
      have := hnot j sj _ _ hj (key j sj b1 κ₂ hj ej hmj)
      rw [ei, Mu.add_same] at hmi
      cases hmi
      exact this rfl
    · rw [if_neg ei] at hi
      have := hnot i si _ _ hi (key i si b1 κ₁ hi ei hmi)
      rw [ej, Mu.add_same] at hmj
      cases hmj
      exact this rfl
    · rw [if_neg ei] at hi
      rw [if_neg ej] at hj
      exact d.apart i j si sj b1 κ₁ κ₂ hi hj hne (key i si b1 κ₁ hi ei hmi) (key j sj b1 κ₂ hj ej hmj)
  · intro j t cs f hj
    simp only [SH.push_eq, Tr.get_set] at hj
    split at hj
    · rename_i e; subst e; cases hj
      show h.next ∈ kinOf _ h.next
      simp [kinOf, SH.push_eq, d.kinOld h.next (Nat.le_refl _)]
    · exact d.kin j t cs f hj
  · intro j t cs f hj
    simp only [SH.push_eq, Tr.get_set] at hj ⊢
    split at hj
    · rename_i e; subst e; cases hj; omega
    · exact Nat.lt_succ_of_lt (d.famLt j t cs f hj)
  · intro f hf
    simp only [SH.push_eq] at hf ⊢
    exact d.kinOld f (by omega)
/-- All rows of a result come up. -/
theorem Den.adoptAll {P : Program} {N : Lim} {G : Gl} {ν : Mu} {w : World} {n0 : Nat} (hn0 : N.n ≤ n0) (hx0 : ∀ k ∈ N.x, k < n0) : ∀ (rows : List (TypeId × List Value)) (i0 : Nat) (μ : Mu) (h : SH), Den P N G μ h w →
    rows.all (fun r => r.2.all (gr 6)) = true →
    (∀ k sk b κ, h.tr.get k = some sk → μ k = some (b, κ) → b < n0 ∨ ∃ i κ', i < i0 ∧ ν i = some (b, κ')) →
    (∀ i r, rows[i]? = some r → ∃ b κ cur sz, ν (i0 + i) = some (b, κ) ∧ n0 ≤ b ∧ w.heap[b]? = some (.cells cur r.1 (0, 0)) ∧ (P.info? r.1).map (·.size) = some sz ∧ cur.size = κ * sz ∧ r.2.length ≤ cur.size ∧ RelL ν r.2 (cur.toList.take r.2.length)) →
    (∀ i k b κ κ', i < k → k < i0 + rows.length → ν i = some (b, κ) → ν k = some (b, κ') → False) →
    ∃ μ', μ.le μ' ∧ (∀ i, i < rows.length → μ' (h.next + i) = ν (i0 + i)) ∧ Den P N G μ' (memSH rows h) w
  | [], _, μ, h, d, _, _, _, _ => ⟨μ, Mu.le_refl _, fun i hi => absurd hi (Nat.not_lt_zero _), d⟩
  | r :: rows, i0, μ, h, d, hg, hold, hnew, hap => by
    rw [List.all_cons, Bool.and_eq_true] at hg
    obtain ⟨b, κ, cur, sz, h1, h2, h3, h4, h5, h6, h7⟩ := hnew 0 r rfl
    have hrel : RelL μ r.2 (cur.toList.take r.2.length) := by
      rw [h7.eq hg.1]; exact RelL.refl hg.1
    have d1 := d.adopt1 (b := b) (κ := κ) ⟨Nat.le_trans hn0 h2, fun hm => Nat.lt_irrefl _ (Nat.lt_of_lt_of_le (hx0 b hm) h2)⟩ (fun k sk b' κ' hk hm e => by
      subst e
      rcases hold k sk _ _ hk hm with hlt | ⟨i, κ'', hi, hv⟩
      · omega
      · exact hap i i0 _ _ _ hi (by simp) hv h1) h3 h4 h5 h6 hrel
    obtain ⟨μ', g1, g2, g3⟩ := Den.adoptAll hn0 hx0 rows (i0 + 1) _ _ d1 hg.2 (fun k sk b' κ' hk hm => by
      simp only [SH.push_eq, Tr.get_set] at hk
      by_cases e : k = h.next
      · subst e
        rw [Mu.add_same] at hm
        cases hm
        exact .inr ⟨i0, κ, by omega, h1⟩
      · rw [if_neg e] at hk
        simp only [Mu.add, if_neg e] at hm
        rcases hold k sk b' κ' hk hm with hlt | ⟨i, κ'', hi, hv⟩
        · exact .inl hlt
        · exact .inr ⟨i, κ'', by omega, hv⟩) (fun i r' hr => by
        have := hnew (i + 1) r' (by simpa using hr)
        rw [show i0 + 1 + i = i0 + (i + 1) from by omega]
        exact this) (fun i k b κ κ' hik hk => hap i k b κ κ' hik (by simp only [List.length_cons]; omega))
    refine ⟨μ', Mu.le_trans (Mu.le_add (d.muOld _ (Nat.le_refl _))) g1, fun i hi => ?_, g3⟩
    cases i with
    | zero => exact (g1 _ _ Mu.add_same).trans h1.symm
    | succ i =>
      have := g2 i (by simpa using hi)
      simp only [SH.push_eq] at this
      rw [show h.next + (i + 1) = h.next + 1 + i from by omega, this, show i0 + 1 + i = i0 + (i + 1) from by omega]
theorem memSH_keep : ∀ (l : List (TypeId × List Value)) (h : SH) (k : Nat), k < h.next → (memSH l h).tr.get k = h.tr.get k
  | [], h, k, _ => rfl
  | r :: l, h, k, hk => by
    rw [memSH, memSH_keep l _ k (by show k < h.next + 1; omega)]
    simp only [SH.push_eq, Tr.get_set]
    rw [if_neg (by omega)]
theorem memSH_at : ∀ (l : List (TypeId × List Value)) (h : SH) (i : Nat) (r : TypeId × List Value), l[i]? = some r → (memSH l h).tr.get (h.next + i) = some (.row r.1 r.2 (h.next + i))
  | [], h, i, r, e => by simp at e
  | q :: l, h, 0, r, e => by
    obtain rfl : q = r := by simpa using e
    rw [memSH, memSH_keep l _ _ (by show h.next + 0 < h.next + 1; omega)]
    simp only [SH.push_eq, Tr.get_set, Nat.add_zero, if_true]
  | q :: l, h, i + 1, r, e => by
    have := memSH_at l (h.push (.row q.1 q.2 h.next)) i r (by simpa using e)
    rw [show (h.push (.row q.1 q.2 h.next)).next = h.next + 1 from rfl] at this
    rw [memSH, show h.next + (i + 1) = h.next + 1 + i from by omega]
    exact this
/-- What a result's memory is. -/
theorem res_mem {P : Program} {w w' : World} {ν : Mu} {rows : List (TypeId × List Value)} (d : Den P ⟨w.heap.size, []⟩ gl0 ν (memSH rows sh0) w') :
    (∀ i r, rows[i]? = some r → ∃ b κ cur sz, ν i = some (b, κ) ∧ w.heap.size ≤ b ∧ w'.heap[b]? = some (.cells cur r.1 (0, 0)) ∧ (P.info? r.1).map (·.size) = some sz ∧ cur.size = κ * sz ∧ r.2.length ≤ cur.size ∧ RelL ν r.2 (cur.toList.take r.2.length)) ∧
    (∀ i k b κ κ', i < k → k < rows.length → ν i = some (b, κ) → ν k = some (b, κ') → False) := by
  obtain ⟨m1, m2, m3⟩ := memSH_get rows sh0 (fun _ _ => rfl)
  have hget : ∀ i r, rows[i]? = some r → (memSH rows sh0).tr.get i = some (.row r.1 r.2 i) := fun i r hr => by have := memSH_at rows sh0 i r hr; rw [show sh0.next = 0 from rfl, Nat.zero_add] at this; exact this
  refine ⟨fun i r hr => ?_, fun i k b κ κ' hik hk h1 h2 => ?_⟩
  · obtain ⟨b, κ, cur, sz, h1, h2, h3, h4, h5, h6, h7⟩ := d.blk i _ (hget i r hr)
    exact ⟨b, κ, cur, sz, h1, h2.1, h3, h4, h5, h6, h7⟩
  · have hi : i < rows.length := by omega
    refine d.apart i k _ _ b κ κ' (hget i _ (List.getElem?_eq_getElem hi)) (hget k _ (List.getElem?_eq_getElem hk)) (fun e => ?_) h1 h2
    simp only [famOf] at e
    omega
theorem FnR.call {P : Program} {f : Nat → Nat → Option Value} {g : FuncId} {args' : List Value} {x : Res} {N : Lim} {μ : Mu} {h : SH} {w : World} {frz : List Nat} (d : Den P N (glF f) μ h w) (hl : frzLive h frz = true)
    (n : CallsIn Fence.wide 0 P g ⟨args'⟩ w (ResP P x w)) (hp : x.rows.all (fun r => r.2.all (gr 6)) = true) (ho : shOk 4 x.v = true) :
    CallsIn Fence.wide 0 P g ⟨args'⟩ w (CallP P N (glF f) μ frz w (memSH x.rows h) (shV h.next 4 x.v)) := by
  refine n.mono ?_
  rintro e w' ⟨ν, v', rfl, hb, hv, dR⟩
  obtain ⟨r1, r2⟩ := res_mem dR
  obtain ⟨μ', g1, g2, g3⟩ := Den.adoptAll (ν := ν) d.base.1 d.base.2 x.rows 0 μ h (d.below hb) hp (fun k sk b κ hk hm => by
    obtain ⟨b0, κ0, q1, _, q3⟩ := (d.blk k sk hk).at
    rw [hm] at q1; cases q1
    exact .inl q3) (fun i r hr => by rw [Nat.zero_add]; exact r1 i r hr) (fun i k b κ κ' hik hk => r2 i k b κ κ' hik (by omega))
  refine ⟨μ', v', rfl, ⟨g1, g3, ⟨hb.mono d.base.1, fun k hk => hb.block _ (d.base.2 k hk)⟩, fun k hk b κ hm => ?_⟩, ?_⟩
  · obtain ⟨sb, hsb⟩ := Option.isSome_iff_exists.1 (List.all_eq_true.1 hl k hk)
    obtain ⟨b0, κ0, q1, _, q3⟩ := (d.blk k sb hsb).at
    rw [hm] at q1; cases q1
    exact hb.block _ q3
  · refine shV_rel (fun i y hy => ?_) 4 _ _ ho hv
    have hi : i < x.rows.length := by
      rcases Nat.lt_or_ge i x.rows.length with hlt | hge
      · exact hlt
      · obtain ⟨m1, _, _⟩ := memSH_get x.rows sh0 (fun _ _ => rfl)
        have := dR.muOld i (by rw [m1]; show 0 + _ ≤ _; omega)
        rw [this] at hy; cases hy
    rw [g2 i hi, Nat.zero_add]; exact hy
end Go.Proofs.Ytedpbkpeofaibaa
