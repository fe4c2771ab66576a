/- Contracts of functions: what is read in memory that was there before, and what a call comes to then: a value, and new rows. Over any program. Conditions: as each law says. -/
import Derived.Test.YtpaabfecoghibaaK12
namespace Go.Proofs.Ytpaabfecoghibaa
open Go Go.RowKit
set_option linter.unusedSimpArgs false
set_option linter.unusedVariables false
def notExit : SE → Prop
  | .exit _ => False
  | _ => True
/-- What a call comes to: a value, and new rows, in which its blocks are numbered. -/
structure Res where
  v : Value
  rows : List (TypeId × List Value)
def Reads (f : Nat → Nat → Option Value) (w : World) : Prop := ∀ b o v, f b o = some v → ∃ v', w.cell? ⟨b, o, none⟩ = some v' ∧ Rel mu0 v v'
def ResP (P : Program) (x : Res) (w : World) (e : Ending) (w' : World) : Prop :=
  ∃ (ν : Mu) (v' : Value), e = .returned v' ∧ Below w.heap.size w w' ∧ Rel ν x.v v' ∧ Den P ⟨w.heap.size, []⟩ gl0 ν (memSH x.rows sh0) w'
/-- **A contract.** -/
def FnR (P : Program) (f : Nat → Nat → Option Value) (g : FuncId) (args : List Value) (x : Res) : Prop :=
  (∀ (args' : Array Value) (W : World), (callFunc g args').run P W = .ok (.enter g args') W) ∧ ∀ w, Reads f w → ∀ args' : List Value, RelL mu0 args args' → CallsIn Fence.wide 0 P g ⟨args'⟩ w (ResP P x w)
/-- How a function's code ends. -/
def EndF (P : Program) (f : Nat → Nat → Option Value) (g : FuncId) (x : Res) : KP := fun e ts h => notExit e ∧ ∃ (v : Value) (js : List Nat), sResults P (glF f) h (finfo P g).res ts = some v ∧ js.length = x.rows.length ∧ RowsOk (fun j => js[j]?) h x.rows 0 [] ∧ SimV (fun j => js[j]?) x.v v
theorem reads_lt {f : Nat → Nat → Option Value} {w : World} (h : Reads f w) : ∀ b, GB (glF f) b → b < w.heap.size := fun b hb => by
  rcases hb with ⟨x, hx, _⟩ | ⟨o, v, e⟩
  · cases hx
  · obtain ⟨v', h1, _⟩ := h b o v e
    rcases Nat.lt_or_ge b w.heap.size with hlt | hge
    · exact hlt
    · simp [World.cell?, Array.getElem?_eq_none hge] at h1
theorem den_start (P : Program) {f : Nat → Nat → Option Value} {w : World} (h : Reads f w) : Den P ⟨w.heap.size, []⟩ (glF f) (fun _ => none) sh0 w :=
  Den.mk (by exact ⟨Nat.le_refl _, fun k hk => (List.not_mem_nil hk).elim⟩) (by intro j sb hj; cases hj) (by intro j _; rfl) (by intro j _; rfl) (by intro i j si sj b κ κ' hi; cases hi)
    (by intro j t cs f hj; cases hj) (by intro j t cs f hj; cases hj) (by intro f _; rfl) ⟨fun b hb => .inl (reads_lt h b hb), And.intro (fun x hx => absurd hx (by simp)) h⟩
theorem Den.gl0 {P : Program} {N : Lim} {G : Gl} {μ : Mu} {h : SH} {w : World} (d : Den P N G μ h w) : Den P N gl0 μ h w := ⟨d.base, d.blk, d.old, d.muOld, d.apart, d.kin, d.famLt, d.kinOld, gl0_glob⟩
theorem ent_of_ok {P : Program} {g : FuncId} (hok : (finfo P g).ok = true) : ∀ (args' : Array Value) (W : World), (callFunc g args').run P W = .ok (.enter g args') W := by
  obtain ⟨fn, c, f0, a0, hfn, hb, hp⟩ : ∃ fn c f0 a0, P.funcs[g]? = some fn ∧ fn.body = some c ∧ pureOut P (callFunc g #[]) = some (.enter f0 a0) := by
    cases hfn : P.funcs[g]? with
    | none => simp [finfo, hfn] at hok
    | some fn =>
      cases hb : fn.body with
      | none => simp [finfo, hfn, hb] at hok
      | some c =>
        cases hp : pureOut P (callFunc g #[]) with
        | none => simp [finfo, hfn, hb, hp] at hok
        | some y =>
          cases y with
          | enter f0 a0 => exact ⟨fn, c, f0, a0, rfl, hb, rfl⟩
          | _ => simp [finfo, hfn, hb, hp] at hok
  intro args' W
  have := pureOut_run hp W
  simp only [callFunc, Sem.run_bind, run_program, Result.andThen_ok, hfn] at this ⊢
  by_cases hn : (fn.name == "runtime.NumGoroutine") = true
  · rw [if_pos hn] at this; simp at this
  · rw [if_neg hn, if_neg (by simp [hb])]; rfl
theorem fn_J {P : Program} {f : Nat → Nat → Option Value} {g : FuncId} {args : List Value} {x : Res} (hg : args.all (gE 6) = true) (hok : ((finfo P g).ok && Nat.ble args.length (finfo P g).n) = true)
    (j : J P f 0 (finfo P g).body (frL (finfo P g).n args) sh0 (EndF P f g x)) : FnR P f g args x := by
  rw [Bool.and_eq_true] at hok
  obtain ⟨hok, hle⟩ := hok
  have hle := Nat.le_of_ble_eq_true hle
  obtain ⟨fn, c, f0, a0, hfn, hb, hp, hn, hfi⟩ : ∃ fn c f0 a0, P.funcs[g]? = some fn ∧ fn.body = some c ∧ pureOut P (callFunc g #[]) = some (.enter f0 a0) ∧ fn.ntmps ≤ 512 ∧ finfo P g = ⟨Nat.ble fn.ntmps 512, fn.ntmps, c, fn.results.toList⟩ := by
    cases hfn : P.funcs[g]? with
    | none => simp [finfo, hfn] at hok
    | some fn =>
      cases hb : fn.body with
      | none => simp [finfo, hfn, hb] at hok
      | some c =>
        cases hp : pureOut P (callFunc g #[]) with
        | none => simp [finfo, hfn, hb, hp] at hok
        | some y =>
          cases y with
          | enter f0 a0 =>
            have hfi : finfo P g = ⟨Nat.ble fn.ntmps 512, fn.ntmps, c, fn.results.toList⟩ := by simp [finfo, hfn, hb, hp]
            rw [hfi] at hok
            exact ⟨fn, c, f0, a0, rfl, hb, rfl, Nat.le_of_ble_eq_true hok, hfi⟩
          | _ => simp [finfo, hfn, hb, hp] at hok
  have hent : ∀ (args' : Array Value) (W : World), (callFunc g args').run P W = .ok (.enter g args') W := fun args' W => by
    have := pureOut_run hp W
    simp only [callFunc, Sem.run_bind, run_program, Result.andThen_ok, hfn] at this ⊢
    by_cases hn : (fn.name == "runtime.NumGoroutine") = true
    · rw [if_pos hn] at this; simp at this
    · rw [if_neg hn, if_neg (by simp [hb])]; rfl
  unfold EndF at j
  rw [hfi] at j hle
  simp only at j hle
  refine ⟨hent, fun w hw args' ha => ?_⟩
  refine callsIn_of_wp_marks hfn hb trivial ?_
  have ha : RelL mu0 args (⟨args'⟩ : Array Value).toList := ha
  have hsz : (⟨args'⟩ : Array Value).size = args.length := ha.length
  refine j _ _ _ w _ (den_start P hw) (relF_frL (by rw [hsz]; exact RelF.of ha hn hle) hn hle) rfl fun ex ts h' μ' a' w' hk p hts hds => ?_
  obtain ⟨hex, v, js, hres, hjs, hrows, hv0⟩ := hk
  have key : LeavesInM Fence.wide 0 P fn a'.tmps (ResP P x w) a'.defers .returning w' := by
    refine shut_ok (frz := []) [] h' h' _ w' rfl p.den hds fun w2 p2 => ?_
    obtain ⟨v', hv1, hv⟩ := sResults_ok gl_nil p2.den hts hres
    have hlt : ∀ j j', (fun j => js[j]?) j = some j' → j < x.rows.length := fun j j' e => by
      have := (List.getElem?_eq_some_iff.1 e).1
      omega
    refine ⟨v', hv1, muR (fun j => js[j]?) x.rows.length μ', v', rfl, (p.bel.trans p2.bel).low, ?_, (p2.den.ren hlt hrows).gl0⟩
    refine SimV.rel (fun j j' e => ?_) hv0 hv
    unfold muR
    rw [if_pos (hlt j j' e)]
    have e : js[j]? = some j' := e
    show (js[j]?).bind μ' = _
    rw [e]; rfl
  cases ex with
  | normal => exact key
  | exit id => exact hex.elim
  | ret => exact key
/-- Blocks under numbers that are greater by n. -/
def shV (n : Nat) : Nat → Value → Value
  | 0, v => v
  | d + 1, v => match v with
    | .slice (some a) k c => match a.spot with
      | some s => .slice (some ⟨Nat.add n a.block, a.off, some s⟩) k c
      | none => v
    | .pointer (some a) => match a.spot with
      | some s => .pointer (some ⟨Nat.add n a.block, a.off, some s⟩)
      | none => v
    | .agg cs => .agg ⟨cs.toList.map (shV n d)⟩
    | .tuple cs => .tuple ⟨cs.toList.map (shV n d)⟩
    | _ => v
def shOk : Nat → Value → Bool
  | 0, v => gr 6 v
  | d + 1, v => match v with
    | .slice (some a) _ _ => true
    | .pointer (some a) => true
    | .agg cs => cs.toList.all (shOk d)
    | .tuple cs => cs.toList.all (shOk d)
    | v => gr 6 v
theorem shV_rel {ν μ : Mu} {n : Nat} (hm : ∀ i x, ν i = some x → μ (n + i) = some x) : ∀ (d : Nat) (v v' : Value), shOk d v = true → Rel ν v v' → Rel μ (shV n d v) v'
  | 0, v, v', ho, h => by rw [h.eq ho]; exact .ground ho
  | d + 1, v, v', ho, h => by
    have hl : ∀ (l l' : List Value), l.all (shOk d) = true → RelL ν l l' → RelL μ (l.map (shV n d)) l' := by
      intro l
      induction l with
      | nil => intro l' _ h; cases h; exact .nil
      | cons v l ih =>
        intro l' ha h
        rw [List.all_cons, Bool.and_eq_true] at ha
        cases h with
        | cons h t => exact .cons (shV_rel hm d _ _ ha.1 h) (ih _ ha.2 t)
    cases v with
    | slice a k c =>
      cases a with
      | none => rw [h.eq ho]; exact .ground ho
      | some a =>
        obtain ⟨b, o, sp⟩ := a
        cases sp with
        | none =>
          have hg : gr 6 _ = true := (rfl : gr 6 (.slice (some ⟨b, o, none⟩) k c) = true)
          rw [h.eq hg]; exact .ground hg
        | some s =>
          show Rel μ (.slice (some ⟨n + b, o, some s⟩) k c) v'
          cases h with
          | ground hg => simp [gr] at hg
          | slice h => exact .slice (hm _ _ h)
          | sliceO h hn => exact .sliceO (hm _ _ h) hn
          | sliceE => exact .sliceE
          | sliceA h hn => exact .sliceA (hm _ _ h) hn
    | pointer a =>
      cases a with
      | none => rw [h.eq ho]; exact .ground ho
      | some a =>
        obtain ⟨b, o, sp⟩ := a
        cases sp with
        | none =>
          have hg : gr 6 _ = true := (rfl : gr 6 (.pointer (some ⟨b, o, none⟩)) = true)
          rw [h.eq hg]; exact .ground hg
        | some s =>
          show Rel μ (.pointer (some ⟨n + b, o, some s⟩)) v'
          cases h with
          | ground hg => simp [gr] at hg
          | ptr h => exact .ptr (hm _ _ h)
    | agg cs =>
      obtain ⟨cs', rfl, h2⟩ := agg_rel h
      exact .agg (hl _ _ ho h2)
    | tuple cs =>
      obtain ⟨cs', rfl, h2⟩ := tuple_rel h
      exact .tuple (hl _ _ ho h2)
    | _ =>
      have q := Rel.eq h ho
      rw [q]; exact .ground ho
/-- A row that was made elsewhere comes up. -/
theorem Den.adopt1 {P : Program} {N : Lim} {G : Gl} {μ : Mu} {h : SH} {w : World} (d : Den P N G μ h w) {b κ sz : Nat} {t : TypeId} {cur : Array Value} {cs : List Value} (hNb : N.new b) (hnot : ∀ k sk b' κ', h.tr.get k = some sk → μ k = some (b', κ') → b' ≠ b) (hh : w.heap[b]? = some (.cells cur t (0, 0))) (hsz : (P.info? t).map (·.size) = some sz) (hcur : cur.size = κ * sz) (hle : cs.length ≤ cur.size) (hrel : RelL μ cs (cur.toList.take cs.length)) :
    Den P N G (μ.add h.next b κ) (h.push (.row t cs h.next)) w := by
  have hnone := d.muOld h.next (Nat.le_refl _)
  have hmle : μ.le (μ.add h.next b κ) := Mu.le_add hnone
  refine ⟨d.base, ?_, ?_, ?_, ?_, ?_, ?_, ?_, d.glob⟩
  · intro j sb hj
    simp only [SH.push_eq, Tr.get_set] at hj
    split at hj
    · rename_i e; subst e; cases hj
      exact ⟨b, κ, cur, sz, Mu.add_same, hNb, hh, hsz, hcur, hle, hrel.mono hmle⟩
    · exact (d.blk j sb hj).keep hmle fun _ _ _ => rfl
  · intro j hj
    simp only [SH.push_eq] at hj ⊢
    rw [Tr.get_set, if_neg (by omega)]
    exact d.old j (by omega)
  · intro j hj
    simp only [SH.push_eq] at hj
    simp only [Mu.add, if_neg (show ¬ j = h.next by omega)]
    exact d.muOld j (by omega)
  · intro i j si sj b1 κ₁ κ₂ hi hj hne hmi hmj
    simp only [SH.push_eq, Tr.get_set] at hi hj
    have key : ∀ k sk b' κ', h.tr.get k = some sk → k ≠ h.next → (μ.add h.next b κ) k = some (b', κ') → μ k = some (b', κ') := fun k sk b' κ' hk hkn hm => by
      simpa only [Mu.add, if_neg hkn] using hm
    by_cases ei : i = h.next <;> by_cases ej : j = h.next
    · subst ei; subst ej
      rw [if_pos rfl] at hi hj
      cases hi; cases hj
      exact hne rfl
    · rw [if_neg ej] at hj
      have := hnot j sj _ _ hj (key j sj b1 κ₂ hj ej hmj)
      rw [ei, Mu.add_same] at hmi
      cases hmi
      exact this rfl
    · rw [if_neg ei] at hi
      have := hnot i si _ _ hi (key i si b1 κ₁ hi ei hmi)
      rw [ej, Mu.add_same] at hmj
      cases hmj
      exact this rfl
    · rw [if_neg ei] at hi
      rw [if_neg ej] at hj
      exact d.apart i j si sj b1 κ₁ κ₂ hi hj hne (key i si b1 κ₁ hi ei hmi) (key j sj b1 κ₂ hj ej hmj)
  · intro j t cs f hj
    simp only [SH.push_eq, Tr.get_set] at hj
    split at hj
    · rename_i e; subst e; cases hj
      show h.next ∈ kinOf _ h.next
      simp [kinOf, SH.push_eq, d.kinOld h.next (Nat.le_refl _)]
    · exact d.kin j t cs f hj
  · intro j t cs f hj
    simp only [SH.push_eq, Tr.get_set] at hj ⊢
    split at hj
    · rename_i e; subst e; cases hj; omega
    · exact Nat.lt_succ_of_lt (d.famLt j t cs f hj)
  · intro f hf
    simp only [SH.push_eq] at hf ⊢
    exact d.kinOld f (by omega)
/-- All rows of a result come up. -/
theorem Den.adoptAll {P : Program} {N : Lim} {G : Gl} {ν : Mu} {w : World} {n0 : Nat} (hn0 : N.n ≤ n0) (hx0 : ∀ k ∈ N.x, k < n0) : ∀ (rows : List (TypeId × List Value)) (i0 : Nat) (μ : Mu) (h : SH), Den P N G μ h w →
    rows.all (fun r => r.2.all (gr 6)) = true →
    (∀ k sk b κ, h.tr.get k = some sk → μ k = some (b, κ) → b < n0 ∨ ∃ i κ', i < i0 ∧ ν i = some (b, κ')) →
    (∀ i r, rows[i]? = some r → ∃ b κ cur sz, ν (i0 + i) = some (b, κ) ∧ n0 ≤ b ∧ w.heap[b]? = some (.cells cur r.1 (0, 0)) ∧ (P.info? r.1).map (·.size) = some sz ∧ cur.size = κ * sz ∧ r.2.length ≤ cur.size ∧ RelL ν r.2 (cur.toList.take r.2.length)) →
    (∀ i k b κ κ', i < k → k < i0 + rows.length → ν i = some (b, κ) → ν k = some (b, κ') → False) →
    ∃ μ', μ.le μ' ∧ (∀ i, i < rows.length → μ' (h.next + i) = ν (i0 + i)) ∧ Den P N G μ' (memSH rows h) w
  | [], _, μ, h, d, _, _, _, _ => ⟨μ, Mu.le_refl _, fun i hi => absurd hi (Nat.not_lt_zero _), d⟩
  | r :: rows, i0, μ, h, d, hg, hold, hnew, hap => by
    rw [List.all_cons, Bool.and_eq_true] at hg
    obtain ⟨b, κ, cur, sz, h1, h2, h3, h4, h5, h6, h7⟩ := hnew 0 r rfl
    have hrel : RelL μ r.2 (cur.toList.take r.2.length) := by
      rw [h7.eq hg.1]; exact RelL.refl hg.1
    have d1 := d.adopt1 (b := b) (κ := κ) ⟨Nat.le_trans hn0 h2, fun hm => Nat.lt_irrefl _ (Nat.lt_of_lt_of_le (hx0 b hm) h2)⟩ (fun k sk b' κ' hk hm e => by
      subst e
      rcases hold k sk _ _ hk hm with hlt | ⟨i, κ'', hi, hv⟩
      · omega
      · exact hap i i0 _ _ _ hi (by simp) hv h1) h3 h4 h5 h6 hrel
    obtain ⟨μ', g1, g2, g3⟩ := Den.adoptAll hn0 hx0 rows (i0 + 1) _ _ d1 hg.2 (fun k sk b' κ' hk hm => by
      simp only [SH.push_eq, Tr.get_set] at hk
      by_cases e : k = h.next
      · subst e
        rw [Mu.add_same] at hm
        cases hm
        exact .inr ⟨i0, κ, by omega, h1⟩
      · rw [if_neg e] at hk
        simp only [Mu.add, if_neg e] at hm
        rcases hold k sk b' κ' hk hm with hlt | ⟨i, κ'', hi, hv⟩
        · exact .inl hlt
        · exact .inr ⟨i, κ'', by omega, hv⟩) (fun i r' hr => by
        have := hnew (i + 1) r' (by simpa using hr)
        rw [show i0 + 1 + i = i0 + (i + 1) from by omega]
        exact this) (fun i k b κ κ' hik hk => hap i k b κ κ' hik (by simp only [List.length_cons]; omega))
    refine ⟨μ', Mu.le_trans (Mu.le_add (d.muOld _ (Nat.le_refl _))) g1, fun i hi => ?_, g3⟩
    cases i with
    | zero => exact (g1 _ _ Mu.add_same).trans h1.symm
    | succ i =>
      have := g2 i (by simpa using hi)
      simp only [SH.push_eq] at this
      rw [show h.next + (i + 1) = h.next + 1 + i from by omega, this, show i0 + 1 + i = i0 + (i + 1) from by omega]
theorem memSH_keep : ∀ (l : List (TypeId × List Value)) (h : SH) (k : Nat), k < h.next → (memSH l h).tr.get k = h.tr.get k
  | [], h, k, _ => rfl
  | r :: l, h, k, hk => by
    rw [memSH, memSH_keep l _ k (by show k < h.next + 1; omega)]
    simp only [SH.push_eq, Tr.get_set]
    rw [if_neg (by omega)]
theorem memSH_at : ∀ (l : List (TypeId × List Value)) (h : SH) (i : Nat) (r : TypeId × List Value), l[i]? = some r → (memSH l h).tr.get (h.next + i) = some (.row r.1 r.2 (h.next + i))
  | [], h, i, r, e => by simp at e
  | q :: l, h, 0, r, e => by
    obtain rfl : q = r := by simpa using e
    rw [memSH, memSH_keep l _ _ (by show h.next + 0 < h.next + 1; omega)]
    simp only [SH.push_eq, Tr.get_set, Nat.add_zero, if_true]
  | q :: l, h, i + 1, r, e => by
    have := memSH_at l (h.push (.row q.1 q.2 h.next)) i r (by simpa using e)
    rw [show (h.push (.row q.1 q.2 h.next)).next = h.next + 1 from rfl] at this
    rw [memSH, show h.next + (i + 1) = h.next + 1 + i from by omega]
    exact this
/-- What a result's memory is. -/
theorem res_mem {P : Program} {w w' : World} {ν : Mu} {rows : List (TypeId × List Value)} (d : Den P ⟨w.heap.size, []⟩ gl0 ν (memSH rows sh0) w') :
    (∀ i r, rows[i]? = some r → ∃ b κ cur sz, ν i = some (b, κ) ∧ w.heap.size ≤ b ∧ w'.heap[b]? = some (.cells cur r.1 (0, 0)) ∧ (P.info? r.1).map (·.size) = some sz ∧ cur.size = κ * sz ∧ r.2.length ≤ cur.size ∧ RelL ν r.2 (cur.toList.take r.2.length)) ∧
    (∀ i k b κ κ', i < k → k < rows.length → ν i = some (b, κ) → ν k = some (b, κ') → False) := by
  obtain ⟨m1, m2, m3⟩ := memSH_get rows sh0 (fun _ _ => rfl)
  have hget : ∀ i r, rows[i]? = some r → (memSH rows sh0).tr.get i = some (.row r.1 r.2 i) := fun i r hr => by have := memSH_at rows sh0 i r hr; rw [show sh0.next = 0 from rfl, Nat.zero_add] at this; exact this
  refine ⟨fun i r hr => ?_, fun i k b κ κ' hik hk h1 h2 => ?_⟩
  · obtain ⟨b, κ, cur, sz, h1, h2, h3, h4, h5, h6, h7⟩ := d.blk i _ (hget i r hr)
    exact ⟨b, κ, cur, sz, h1, h2.1, h3, h4, h5, h6, h7⟩
  · have hi : i < rows.length := by omega
    refine d.apart i k _ _ b κ κ' (hget i _ (List.getElem?_eq_getElem hi)) (hget k _ (List.getElem?_eq_getElem hk)) (fun e => ?_) h1 h2
    simp only [famOf] at e
    omega
theorem FnR.call {P : Program} {f : Nat → Nat → Option Value} {g : FuncId} {args' : List Value} {x : Res} {N : Lim} {μ : Mu} {h : SH} {w : World} {frz : List Nat} (d : Den P N (glF f) μ h w) (hl : frzLive h frz = true)
    (n : CallsIn Fence.wide 0 P g ⟨args'⟩ w (ResP P x w)) (hp : x.rows.all (fun r => r.2.all (gr 6)) = true) (ho : shOk 4 x.v = true) :
    CallsIn Fence.wide 0 P g ⟨args'⟩ w (CallP P N (glF f) μ frz w (memSH x.rows h) (shV h.next 4 x.v)) := by
  refine n.mono ?_
  rintro e w' ⟨ν, v', rfl, hb, hv, dR⟩
  obtain ⟨r1, r2⟩ := res_mem dR
  obtain ⟨μ', g1, g2, g3⟩ := Den.adoptAll (ν := ν) d.base.1 d.base.2 x.rows 0 μ h (d.below hb) hp (fun k sk b κ hk hm => by
    obtain ⟨b0, κ0, q1, _, q3⟩ := (d.blk k sk hk).at
    rw [hm] at q1; cases q1
    exact .inl q3) (fun i r hr => by rw [Nat.zero_add]; exact r1 i r hr) (fun i k b κ κ' hik hk => r2 i k b κ κ' hik (by omega))
  refine ⟨μ', v', rfl, ⟨g1, g3, ⟨hb.mono d.base.1, fun k hk => hb.block _ (d.base.2 k hk)⟩, fun k hk b κ hm => ?_⟩, ?_⟩
  · obtain ⟨sb, hsb⟩ := Option.isSome_iff_exists.1 (List.all_eq_true.1 hl k hk)
    obtain ⟨b0, κ0, q1, _, q3⟩ := (d.blk k sb hsb).at
    rw [hm] at q1; cases q1
    exact hb.block _ q3
  · refine shV_rel (fun i y hy => ?_) 4 _ _ ho hv
    have hi : i < x.rows.length := by
      rcases Nat.lt_or_ge i x.rows.length with hlt | hge
      · exact hlt
      · obtain ⟨m1, _, _⟩ := memSH_get x.rows sh0 (fun _ _ => rfl)
        have := dR.muOld i (by rw [m1]; show 0 + _ ≤ _; omega)
        rw [this] at hy; cases hy
    rw [g2 i hi, Nat.zero_add]; exact hy
end Go.Proofs.Ytpaabfecoghibaa

/- A run's steps, where numbers and lists are whatever they are, and memory that was there before is read. Over any program. Conditions: as each law says. -/
namespace Go.Proofs.Ytpaabfecoghibaa
open Go Go.RowKit
set_option linter.unusedSimpArgs false
set_option linter.unusedVariables false
/-- Tests, plainly. -/
theorem sbL : (∀ a b : Int, ltI a b = decide (a < b)) ∧ (∀ a b : Int, leI a b = decide (a ≤ b)) ∧ (∀ a b : Int, eqI a b = (a == b)) ∧ (∀ a b : Nat, (Nat.ble a b = true) = (a ≤ b)) ∧ (∀ a b : Nat, (Nat.beq a b = true) = (a = b)) ∧
    (∀ b : Bool, ((!b) = true) = (b = false)) ∧ (∀ b : Bool, ((!b) = false) = (b = true)) ∧ ((!true) = false) ∧ ((!false) = true) ∧ (∀ n : Nat, Int.ofNat n = (n : Int)) ∧ (∀ n : Nat, Nat.succ n = n + 1) ∧ (∀ a b : Nat, Nat.add a b = a + b) ∧ (∀ a b : Nat, Nat.sub a b = a - b) ∧ (∀ a b : Nat, Nat.mul a b = a * b) ∧
    (∀ a b : Int, (¬ a < b) ↔ b ≤ a) ∧ (∀ a b : Int, (¬ a ≤ b) ↔ b < a) ∧ (∀ a b : Nat, (¬ a < b) ↔ b ≤ a) ∧ (∀ a b : Nat, (¬ a ≤ b) ↔ b < a) :=
  ⟨fun a b => ltI_eq a b, fun a b => leI_eq a b, fun a b => eqI_eq a b, fun a b => Nat.ble_eq, fun a b => Nat.beq_eq, fun b => by simp, fun b => by simp, rfl, rfl, fun _ => rfl, fun _ => rfl, fun _ _ => rfl, fun _ _ => rfl, fun _ _ => rfl, fun _ _ => Int.not_lt, fun _ _ => Int.not_le, fun _ _ => Nat.not_lt, fun _ _ => Nat.not_le⟩
section
variable {r y n : An}
theorem t_addC {_ : Orc} {a b : Int} {y : Int → An} (h : y (IntKind.i64.wrap (a + b)) = r) : addC a b y = r := (addC_eq a b y).trans h
theorem t_subC {_ : Orc} {a b : Int} {y : Int → An} (h : y (IntKind.i64.wrap (a - b)) = r) : subC a b y = r := (subC_eq a b y).trans h
theorem t_mulC {_ : Orc} {a b : Int} {y : Int → An} (h : y (IntKind.i64.wrap (a * b)) = r) : mulC a b y = r := (mulC_eq a b y).trans h
theorem t_forceB {_ : Orc} {b : Bool} {y : Bool → An} (h : y b = r) : forceB b y = r := (forceB_eq b y).trans h
theorem t_fB {_ : Orc} {b : Bool} {y : Bool → An} (h : b = true → y true = r) (h' : b = false → y false = r) : forceB b y = r := by
  rw [forceB_eq]
  cases b
  · exact h' rfl
  · exact h rfl
theorem t_fBt {_ : Orc} {b : Bool} {y : Bool → An} (e : b = true) (h : y true = r) : forceB b y = r := by rw [forceB_eq, e]; exact h
theorem t_fBf {_ : Orc} {b : Bool} {y : Bool → An} (e : b = false) (h : y false = r) : forceB b y = r := by rw [forceB_eq, e]; exact h
theorem t_forceN {_ : Orc} {b : Nat} {y : Nat → An} (h : y b = r) : forceN b y = r := (forceN_eq b y).trans h
theorem t_next {_ : Orc} {h : SH} {n : Nat} {y : Nat → An} (e : h.next = n) (k : y n = r) : nextC h y = r := by rw [nextC_eq, e]; exact k
theorem t_bR {_ : Orc} {b : Bool} (h : b = true → y = r) (h' : b = false → n = r) : bR b y n = r := by
  cases b
  · rw [bR_eq]; exact h' rfl
  · rw [bR_eq]; exact h rfl
theorem t_bRt {_ : Orc} {b : Bool} (hb : b = true) (h : y = r) : bR b y n = r := by subst hb; rw [bR_eq]; exact h
theorem t_bRf {_ : Orc} {b : Bool} (hb : b = false) (h : n = r) : bR b y n = r := by subst hb; rw [bR_eq]; exact h
theorem t_lim {_ : Orc} {n' b k K : Nat} (hb : (Nat.blt 0 b && Nat.ble b k) = true) (hK : Nat.ble (Nat.mul K k) 140737488355328 = true) (hn : n' ≤ K) (h : y = r) : bR (Nat.ble n' (limB b)) y n = r := t_bRt (limB_of hb hK hn) h
theorem t_cond {b : Bool} (h : b = true → y = r) (h' : b = false → n = r) : cond b y n = r := by
  cases b
  · exact h' rfl
  · exact h rfl
theorem t_condt {b : Bool} (hb : b = true) (h : y = r) : cond b y n = r := by subst hb; exact h
theorem t_condf {b : Bool} (hb : b = false) (h : n = r) : cond b y n = r := by subst hb; exact h
theorem t_getC {_ : Orc} {l : List Value} {i : Nat} {v : Value} {y : Value → An} (e : l[i]? = some v) (h : y v = r) : getC l y n i = r := by rw [getC_eq, e]; exact h
theorem t_iRp {_ : Orc} {a : Int} {m : Nat} {p q : Nat → An} (e : a = Int.ofNat m) (h : p m = r) : iR a p q = r := by subst e; rw [iR_eq]; exact h
theorem t_iRn {_ : Orc} {a : Int} {m : Nat} {p q : Nat → An} (e : a = Int.negSucc m) (h : q m = r) : iR a p q = r := by subst e; rw [iR_eq]; exact h
theorem t_iR {_ : Orc} {a : Int} {p q : Nat → An} (e : 0 ≤ a) (h : p a.toNat = r) : iR a p q = r := by
  obtain ⟨m, rfl⟩ := Int.eq_ofNat_of_zero_le e
  rw [iR_eq]; exact h
end
theorem t_addN {_ : Orc} {a b : Int} {y : Int → An} {r : An} (hb : -9223372036854775808 ≤ a + b ∧ a + b ≤ 9223372036854775807) (h : y (a + b) = r) : addC a b y = r := by rw [addC_eq, wrap_in hb]; exact h
theorem t_subN {_ : Orc} {a b : Int} {y : Int → An} {r : An} (hb : -9223372036854775808 ≤ a - b ∧ a - b ≤ 9223372036854775807) (h : y (a - b) = r) : subC a b y = r := by rw [subC_eq, wrap_in hb]; exact h
theorem t_mulN {_ : Orc} {a b : Int} {y : Int → An} {r : An} (hb : -9223372036854775808 ≤ a * b ∧ a * b ≤ 9223372036854775807) (h : y (a * b) = r) : mulC a b y = r := by rw [mulC_eq, wrap_in hb]; exact h
theorem t_quo {_ : Orc} {a b : Int} {y : Int → An} {n r : An} (ha : 0 ≤ a ∧ a ≤ 9223372036854775807) (hb : 0 < b) (h : y (a / b) = r) : quoI a b y n = r := by rw [quoI_eq, if_pos ⟨hb, by omega, ha.2⟩, Int.tdiv_eq_ediv_of_nonneg ha.1]; exact h
theorem t_quoN {_ : Orc} {a b : Int} {y : Int → An} {n r : An} (ha : -9223372036854775808 ≤ a ∧ a ≤ 9223372036854775807) (hb : 0 < b) (h : y (a.tdiv b) = r) : quoI a b y n = r := by rw [quoI_eq, if_pos ⟨hb, ha⟩]; exact h
theorem t_rem {_ : Orc} {a b : Int} {y : Int → An} {n r : An} (ha : 0 ≤ a) (hb : 0 < b) (h : y (a % b) = r) : remI a b y n = r := by rw [remI_eq, if_pos hb, Int.tmod_eq_emod_of_nonneg ha]; exact h
theorem t_remN {_ : Orc} {a b : Int} {y : Int → An} {n r : An} (hb : 0 < b) (h : y (a.tmod b) = r) : remI a b y n = r := by rw [remI_eq, if_pos hb]; exact h
theorem t_oA {_ : Orc} {x : Option Addr} {a : Addr} {no : An} {yes : Addr → An} {r : An} (e : x = some a) (h : yes a = r) : oA x no yes = r := by subst e; rw [oA_eq]; exact h
theorem t_old {_ : Orc} {x : Option Value} {v : Value} {yes : Value → An} {no r : An} (e : x = some v) (hg : gE 6 v = true) (h : yes v = r) : oldC x yes no = r := by rw [oldC_eq, e]; simp only [hg, cond_true]; exact h
theorem t_readR {_ : Orc} {f : Nat → Nat → Option Value} {b o n : Nat} {l : List Value} {yes : List Value → An} {no r : An} (e : readO f b o n = some l) (h : yes l = r) : readR f b o n yes no = r := by rw [readR_eq, e]; exact h
section
variable {P : Program} {f : Nat → Nat → Option Value} {m : Nat}
theorem J.skip {ts : Fr} {h : SH} {K : KP} (k : K .normal ts h) : J P f m .skip ts h K := J.run fun _ => kI_of ⟨rfl, k⟩
theorem J.exit {i : Nat} {ts : Fr} {h : SH} {K : KP} (k : K (.exit i) ts h) : J P f m (.exit i) ts h K := J.run fun _ => kI_of ⟨rfl, k⟩
theorem J.ret {ts : Fr} {h : SH} {K : KP} (k : K .ret ts h) : J P f m .ret ts h K := J.run fun _ => kI_of ⟨rfl, k⟩
theorem J.label {i : Nat} {ts : Fr} {h : SH} {K : KP} (k : K .normal ts h) : J P f m (.label i) ts h K := J.run fun _ => kI_of ⟨rfl, k⟩
theorem J.region {id : Nat} {ops : Array Oper} {draw : Bool} {ts : Fr} {h : SH} {K : KP} (e : ∀ z, (@codeW (orcS z) P (glF f) (.region id ops draw)).run (rcI P f) none (List.range m) ts [] h (fun e ts' ds' h' => kI (ds' = [] ∧ K e ts' h')) = some (.bool true)) : J P f m (.region id ops draw) ts h K := J.run e
/-- A call whose end is known, of values without new blocks. -/
theorem t_callG (O : Orc) {frz : List Nat} {g : FuncId} {args args0 : List Value} {h : SH} {k : KV} {x : Res} (hx : FnR P f g args0 x) (ea : args = args0) (ha : args0.all (gE 6) = true) (hl : frzLive h frz = true) (hp : x.rows.all (fun r => r.2.all (gr 6)) = true) (ho : shOk 4 x.v = true)
    (hk : nextC h (fun n => k (shV n 4 x.v) (memSH x.rows h)) = some (.bool true)) : callI P (glF f) frz g args h k = some (.bool true) := by
  subst ea
  rw [nextC_eq] at hk
  unfold callI
  refine if_pos ⟨_, _, hk, hx.1, fun N μ w args' d hr => ?_⟩
  exact FnR.call d hl (hx.2 w d.glob.2.2 args'.toList (hr.reE 6 ha)) hp ho
/-- .. that comes to a value without blocks. -/
theorem t_call0 {frz : List Nat} {g : FuncId} {args args0 : List Value} {h : SH} {k : KV} {v : Value} (hx : FnR P f g args0 ⟨v, []⟩) (ea : args = args0) (ha : args0.all (gE 6) = true) (hl : frzLive h frz = true) (ho : gE 6 v = true)
    (hk : k v h = some (.bool true)) : callI P (glF f) frz g args h k = some (.bool true) := by
  subst ea
  unfold callI
  refine if_pos ⟨v, h, hk, hx.1, fun N μ w args' d hr => ?_⟩
  refine (hx.2 w d.glob.2.2 args'.toList (hr.reE 6 ha)).mono ?_
  rintro e w' ⟨ν, v', rfl, hb, hv, _⟩
  refine ⟨μ, v', rfl, ⟨Mu.le_refl _, d.below hb, ⟨hb.mono d.base.1, fun k hk => hb.block _ (d.base.2 k hk)⟩, fun k hk b κ hm => ?_⟩, hv.reE 6 ho⟩
  obtain ⟨sb, hsb⟩ := Option.isSome_iff_exists.1 (List.all_eq_true.1 hl k hk)
  obtain ⟨b0, κ0, q1, _, q3⟩ := (d.blk k sb hsb).at
  rw [hm] at q1; cases q1
  exact hb.block _ q3
/-- .. to a Bool. -/
theorem t_callB {frz : List Nat} {g : FuncId} {args args0 : List Value} {h : SH} {k : KV} {b : Bool} (hx : FnR P f g args0 ⟨.bool b, []⟩) (ea : args = args0) (ha : args0.all (gE 6) = true) (hl : frzLive h frz = true)
    (h1 : b = true → k (.bool true) h = some (.bool true)) (h2 : b = false → k (.bool false) h = some (.bool true)) : callI P (glF f) frz g args h k = some (.bool true) :=
  t_call0 hx ea ha hl rfl (by cases b; exact h2 rfl; exact h1 rfl)
end
/-- Values whose blocks are looked at: each in a row that is there. -/
def rlV (hh : SH) : Nat → Value → Prop
  | 0, v => gE 6 v = true
  | d + 1, v => match v with
    | .pointer (some a) => match a.spot with
      | none => True
      | some _ => ∃ t cs fam, hh.tr.get a.block = some (.row t cs fam)
    | .slice (some a) _ _ => match a.spot with
      | none => True
      | some 2 => True
      | some _ => ∃ t cs fam, hh.tr.get a.block = some (.row t cs fam)
    | .agg cs => ∀ x ∈ cs.toList, rlV hh d x
    | .func (.func _) a b => (∀ x ∈ a.toList, rlV hh d x) ∧ ∀ x ∈ b.toList, rlV hh d x
    | v => gE 6 v = true
mutual
/-- A value with blocks of new rows, and a true one whose memory is read. -/
inductive RealV (f : Nat → Nat → Option Value) (hh : SH) : Value → Value → Prop
  | ground {v : Value} (hg : gE 6 v = true) : RealV f hh v v
  | ptr {j off b : Nat} {t : TypeId} {cs : List Value} {fam : Nat} (hj : hh.tr.get j = some (.row t cs fam)) (hc : cs.all (gr 6) = true → ∀ i v, cs[i]? = some v → f b i = some v) : RealV f hh (.pointer (some ⟨j, off, some 0⟩)) (.pointer (some ⟨b, off, none⟩))
  | slice {j off s b n c c' : Nat} {t : TypeId} {cs : List Value} {fam : Nat} (hj : hh.tr.get j = some (.row t cs fam)) (hc : cs.all (gr 6) = true → ∀ i v, cs[i]? = some v → f b i = some v) (hn : s = 1 ∨ s = 3 → n ≤ c') (h0 : s = 0 → c = c') : RealV f hh (.slice (some ⟨j, off, some s⟩) n c) (.slice (some ⟨b, off, none⟩) n c')
  | empty {j off c : Nat} : RealV f hh (.slice (some ⟨j, off, some 2⟩) 0 c) (.slice (some ⟨0, 0, some 2⟩) 0 0)
  | agg {l l' : List Value} (h : RealL f hh l l') : RealV f hh (.agg ⟨l⟩) (.agg ⟨l'⟩)
  | func {g : FuncId} {l l' c c' : List Value} (h1 : RealL f hh l l') (h2 : RealL f hh c c') : RealV f hh (.func (.func g) ⟨l⟩ ⟨c⟩) (.func (.func g) ⟨l'⟩ ⟨c'⟩)
inductive RealL (f : Nat → Nat → Option Value) (hh : SH) : List Value → List Value → Prop
  | nil : RealL f hh [] []
  | cons {v v' : Value} {l l' : List Value} (h1 : RealV f hh v v') (h2 : RealL f hh l l') : RealL f hh (v :: l) (v' :: l')
end
section
variable {P : Program} {f : Nat → Nat → Option Value} {N : Lim} {μ : Mu} {h : SH} {w : World}
theorem row_cells (d : Den P N (glF f) μ h w) {j b κ fam : Nat} {t : TypeId} {cs : List Value} (hj : h.tr.get j = some (.row t cs fam)) (hm : μ j = some (b, κ)) (hg : cs.all (gr 6) = true) : ∀ i v, cs[i]? = some v → w.cell? ⟨b, i, none⟩ = some v := fun i v hv => by
  obtain ⟨b0, κ0, cur, sz, h1, h2, h3, h4, h5, h6, h7⟩ := d.blk j _ hj
  rw [hm] at h1; cases h1
  have e := h7.eq hg
  simp only [World.cell?, h3]
  rw [← e, List.getElem?_take] at hv
  split at hv
  · simpa using hv
  · cases hv
/-- What is read behind it: also what new rows hold. -/
def seeF (f : Nat → Nat → Option Value) (w : World) : Nat → Nat → Option Value := fun b o => match f b o with
  | some v => some v
  | none => match w.cell? ⟨b, o, none⟩ with
    | some v => cond (gr 6 v) (some v) none
    | none => none
theorem see_mono {f : Nat → Nat → Option Value} {w : World} : ∀ b o v, f b o = some v → seeF f w b o = some v := fun b o v e => by simp only [seeF, e]
theorem see_reads {f : Nat → Nat → Option Value} {w : World} (hr : Reads f w) : Reads (seeF f w) w := fun b o v e => by
  unfold seeF at e
  cases hf : f b o with
  | some u =>
    simp only [hf, Option.some.injEq] at e
    subst e
    exact hr b o _ hf
  | none =>
    simp only [hf] at e
    split at e
    · rename_i u hu
      cases hg : gr 6 u with
      | false => rw [hg] at e; cases e
      | true =>
        rw [hg] at e
        simp only [cond_true, Option.some.injEq] at e
        subst e
        exact ⟨_, hu, .ground hg⟩
    · cases e
theorem see_row (d : Den P N (glF f) μ h w) {j b κ fam : Nat} {t : TypeId} {cs : List Value} (hj : h.tr.get j = some (.row t cs fam)) (hm : μ j = some (b, κ)) (hg : cs.all (gr 6) = true) : ∀ i v, cs[i]? = some v → seeF f w b i = some v := fun i v hv => by
  have h1 := row_cells d hj hm hg i v hv
  have h2 : f b i = none := by
    cases hf : f b i with
    | none => rfl
    | some u =>
      obtain ⟨b0, κ0, q1, q2, _⟩ := (d.blk j _ hj).at
      rw [hm] at q1; cases q1
      exact absurd rfl (d.globNe (.inr ⟨i, u, hf⟩) q2)
  have h3 : gr 6 v = true := List.all_eq_true.1 hg v (List.mem_of_getElem? hv)
  simp only [seeF, h2, h1, h3, cond_true]
theorem real_list {dep : Nat} (ih : ∀ v v', rlV h dep v → Rel μ v v' → ∃ u, RealV (seeF f w) h v u ∧ Rel mu0 u v') : ∀ {l l' : List Value}, (∀ x ∈ l, rlV h dep x) → RelL μ l l' → ∃ k, RealL (seeF f w) h l k ∧ RelL mu0 k l'
  | _, _, _, .nil => ⟨[], .nil, .nil⟩
  | _, _, hl, .cons r t => by
    obtain ⟨u, h1, h2⟩ := ih _ _ (hl _ (by simp)) r
    obtain ⟨k, h3, h4⟩ := real_list ih (fun x hx => hl x (by simp [hx])) t
    exact ⟨u :: k, .cons h1 h3, .cons h2 h4⟩
theorem real_of (d : Den P N (glF f) μ h w) : ∀ (dep : Nat) (v v' : Value), rlV h dep v → Rel μ v v' → ∃ u, RealV (seeF f w) h v u ∧ Rel mu0 u v'
  | 0, v, v', ho, r => ⟨v, .ground ho, r.reE 6 ho⟩
  | dep + 1, v, v', ho, r => by
    cases r with
    | ground hg => exact ⟨_, .ground (gE_of_gr 6 _ hg), .ground hg⟩
    | ptr hm =>
      obtain ⟨t, cs, fam, hj⟩ := ho
      exact ⟨_, .ptr hj (fun hg => see_row d hj hm hg), .ground rfl⟩
    | slice hm =>
      obtain ⟨t, cs, fam, hj⟩ := ho
      exact ⟨_, .slice hj (fun hg => see_row d hj hm hg) (fun e => by omega) (fun _ => rfl), .ground rfl⟩
    | sliceO hm hn =>
      obtain ⟨t, cs, fam, hj⟩ := ho
      exact ⟨_, .slice hj (fun hg => see_row d hj hm hg) (fun _ => hn) (fun e => by omega), .ground rfl⟩
    | sliceE => exact ⟨_, .empty, .sliceE⟩
    | sliceA hm hn =>
      obtain ⟨t, cs, fam, hj⟩ := ho
      exact ⟨_, .slice hj (fun hg => see_row d hj hm hg) (fun _ => hn) (fun e => by omega), .ground rfl⟩
    | map hm => simp [rlV, gE] at ho
    | yield hm => simp [rlV, gE] at ho
    | func h1 h2 =>
      obtain ⟨k1, q1, q2⟩ := real_list (real_of d dep) ho.1 h1
      obtain ⟨k2, q3, q4⟩ := real_list (real_of d dep) ho.2 h2
      exact ⟨_, .func q1 q3, .func (fi := ⟨k1⟩) (cs := ⟨k2⟩) q2 q4⟩
    | agg h1 =>
      obtain ⟨k1, q1, q2⟩ := real_list (real_of d dep) ho h1
      exact ⟨_, .agg q1, .agg (cs := ⟨k1⟩) q2⟩
    | tuple h1 => have ho : gE 6 (.tuple _) = true := ho; exact ⟨_, .ground ho, (Rel.tuple h1).reE 6 ho⟩
    | iface h1 => have ho : gE 6 (.iface _ _) = true := ho; exact ⟨_, .ground ho, (Rel.iface h1).reE 6 ho⟩
/-- A call whose end is known, of values that may have blocks of new rows. -/
theorem t_callL (O : Orc) {frz : List Nat} {g : FuncId} {args : List Value} {h : SH} {k : KV} {x : Res} (hok : (finfo P g).ok = true)
    (hx : ∀ (f' : Nat → Nat → Option Value) (args' : List Value), (∀ b o v, f b o = some v → f' b o = some v) → RealL f' h args args' → FnR P f' g args' x) (ha : ∀ y ∈ args, rlV h 5 y) (hl : frzLive h frz = true) (hp : x.rows.all (fun r => r.2.all (gr 6)) = true) (ho : shOk 4 x.v = true)
    (hk : nextC h (fun n => k (shV n 4 x.v) (memSH x.rows h)) = some (.bool true)) : callI P (glF f) frz g args h k = some (.bool true) := by
  rw [nextC_eq] at hk
  unfold callI
  refine if_pos ⟨_, _, hk, ent_of_ok hok, fun N μ w args' d hr => ?_⟩
  obtain ⟨k, q1, q2⟩ := real_list (real_of d 5) ha hr
  exact FnR.call d hl ((hx (seeF f w) k see_mono q1).2 w (see_reads d.glob.2.2) args'.toList q2) hp ho
end
section
variable {P : Program} {f : Nat → Nat → Option Value}
def notLoop : Code → Bool
  | .loop _ => false
  | _ => true
end
/-- **A loop**, by what holds at its rounds' starts. -/
theorem LJ.ind {P : Program} {f : Nat → Nat → Option Value} {m : Nat} {x : Code} {ts : Fr} {h : SH} {K : KP} {α : Type} (L : α → List (Option Value)) (M : α → List (TypeId × List Value)) (Inv : α → Prop) (meas : α → Nat) (a0 : α) (s : List Nat) (h0 : Inv a0)
    (hM : (M a0).length = m + s.length) (hr : RowsOk (rhoOf m s) h (M a0) 0 []) (hs : SlotsN (rhoOf m s) (L a0) ts)
    (step : ∀ a, Inv a → ∀ vs, MatchL (L a) vs → (∀ a', Inv a' → meas a' < meas a → ∀ vs, MatchL (L a') vs → LJ P f m x (frL (L a').length vs) (memSH (M a') sh0) K) →
      J P f m x (frL (L a).length vs) (memSH (M a) sh0) (KP.then (fun ts h => LJ P f m x ts h K) K)) : LJ P f m x ts h K := by
  have H : ∀ n a, meas a < n → Inv a → ∀ vs, MatchL (L a) vs → LJ P f m x (frL (L a).length vs) (memSH (M a) sh0) K := by
    intro n
    induction n with
    | zero => intro a ha; omega
    | succ n ih => intro a ha hI vs hv; exact LJ.round (step a hI vs hv fun a' hI' hm vs' hv' => ih a' (by omega) hI' vs' hv')
  exact LJ.ren (L a0) (M a0) s hM hr hs fun vs hv => H _ a0 (Nat.lt_succ_self _) h0 vs hv
/-- What is said of a run's end. -/
theorem kI_go {K : KP} {e : SE} {ts : Fr} {ds : List Nat} {h : SH} (hd : ds = []) (hk : K e ts h) : kI (ds = [] ∧ K e ts h) = some (.bool true) := kI_of ⟨hd, hk⟩
theorem then_normal {n : Fr → SH → Prop} {K : KP} {ts : Fr} {h : SH} (hk : n ts h) : KP.then n K .normal ts h := hk
theorem then_exit {n : Fr → SH → Prop} {K : KP} {i : Nat} {ts : Fr} {h : SH} (hk : K (.exit i) ts h) : KP.then n K (.exit i) ts h := hk
theorem then_ret {n : Fr → SH → Prop} {K : KP} {ts : Fr} {h : SH} (hk : K .ret ts h) : KP.then n K .ret ts h := hk
theorem block_exit {id : Nat} {K : KP} {ts : Fr} {h : SH} (hk : K .normal ts h) : KP.block id K (.exit id) ts h := ⟨fun _ => hk, fun hn => absurd rfl hn⟩
theorem block_normal {id : Nat} {K : KP} {ts : Fr} {h : SH} (hk : K .normal ts h) : KP.block id K .normal ts h := hk
theorem block_ret {id : Nat} {K : KP} {ts : Fr} {h : SH} (hk : K .ret ts h) : KP.block id K .ret ts h := hk
theorem block_exit_ne {id i : Nat} {K : KP} {ts : Fr} {h : SH} (hn : Nat.beq i id = false) (hk : K (.exit i) ts h) : KP.block id K (.exit i) ts h := ⟨fun e => (by rw [e, Nat.beq_refl] at hn; cases hn), fun _ => hk⟩
theorem tup2 {a a' b b' : Value} (h1 : a = a') (h2 : b = b') : Value.tuple ⟨[a, b]⟩ = .tuple ⟨[a', b']⟩ := by subst h1 h2; rfl
theorem tup3 {a a' b b' c c' : Value} (h1 : a = a') (h2 : b = b') (h3 : c = c') : Value.tuple ⟨[a, b, c]⟩ = .tuple ⟨[a', b', c']⟩ := by subst h1 h2 h3; rfl
/-- A function's end, with a value without blocks. -/
theorem endG {P : Program} {f : Nat → Nat → Option Value} {g : FuncId} {x : Res} {e : SE} {ts : Fr} {h : SH} {v : Value} (he : notExit e) (hs : sResults P (glF f) h (finfo P g).res ts = some v) (hr : x.rows = []) (hg : gE 6 x.v = true) (hv : v = x.v) : EndF P f g x e ts h := by
  subst hv
  exact ⟨he, _, [], hs, by rw [hr]; rfl, by rw [hr]; trivial, .ground hg⟩
/-- .. with rows. -/
theorem endN {P : Program} {f : Nat → Nat → Option Value} {g : FuncId} {x : Res} {e : SE} {ts : Fr} {h : SH} {v : Value} (js : List Nat) (he : notExit e) (hs : sResults P (glF f) h (finfo P g).res ts = some v) (hj : js.length = x.rows.length) (hr : RowsOk (fun j => js[j]?) h x.rows 0 []) (hv : SimV (fun j => js[j]?) x.v v) : EndF P f g x e ts h := ⟨he, v, js, hs, hj, hr, hv⟩
end Go.Proofs.Ytpaabfecoghibaa

/- Lists that are read: in memory that was there before, and in new rows that are handed to a call. Over any program. Conditions: as each law says. -/
namespace Go.Proofs.Ytpaabfecoghibaa
open Go Go.RowKit
set_option linter.unusedSimpArgs false
set_option linter.unusedVariables false
def grA (a : Option Addr) (n c : Nat) : Bool := match a with
  | none => Nat.beq n 0 && Nat.beq c 0
  | some a => match a.spot with
    | none => true
    | some s => Nat.beq s 2 && Nat.beq n 0
/-- .. wherever it lies, not as an empty one. -/
def grB (a : Option Addr) (n c : Nat) : Bool := match a with
  | none => Nat.beq n 0 && Nat.beq c 0
  | some a => a.spot.isNone
theorem gr_slice (d : Nat) (a : Option Addr) (n c : Nat) : gr (d + 1) (.slice a n c) = grB a n c := by cases a <;> rfl
theorem gE_slice (d : Nat) (a : Option Addr) (n c : Nat) : gE (d + 1) (.slice a n c) = grA a n c := by cases a <;> rfl
theorem grA_of {a : Option Addr} {n c : Nat} (h : grB a n c = true) : grA a n c = true := by
  cases a with
  | none => exact h
  | some a =>
    obtain ⟨b, o, sp⟩ := a
    cases sp with
    | none => rfl
    | some s => simp [grB] at h
theorem gE_agg (d : Nat) (l : List Value) : gE (d + 1) (.agg ⟨l⟩) = l.all (gE d) := rfl
theorem gE_tup (d : Nat) (l : List Value) : gE (d + 1) (.tuple ⟨l⟩) = l.all (gE d) := rfl
theorem gE_i (d : Nat) (k : IntKind) (n : Int) : gE (d + 1) (.int k n) = true := rfl
theorem gE_b (d : Nat) (b : Bool) : gE (d + 1) (.bool b) = true := rfl
theorem gE_s (d : Nat) (s : ByteArray) : gE (d + 1) (.string s) = true := rfl
/-- What has no new blocks but of empty slices, part by part. -/
theorem gEL : (∀ (d : Nat) (l : List Value), gE (d + 1) (.agg ⟨l⟩) = l.all (gE d)) ∧ (∀ (d : Nat) (l : List Value), gE (d + 1) (.tuple ⟨l⟩) = l.all (gE d)) ∧ (∀ (d : Nat) (a : Option Addr) (n c : Nat), gE (d + 1) (.slice a n c) = grA a n c) ∧
    (∀ (d : Nat) (k : IntKind) (n : Int), gE (d + 1) (.int k n) = true) ∧ (∀ (d : Nat) (b : Bool), gE (d + 1) (.bool b) = true) ∧ (∀ (d : Nat) (s : ByteArray), gE (d + 1) (.string s) = true) := ⟨gE_agg, gE_tup, gE_slice, gE_i, gE_b, gE_s⟩
theorem gr_agg (d : Nat) (l : List Value) : gr (d + 1) (.agg ⟨l⟩) = l.all (gr d) := rfl
theorem gr_tup (d : Nat) (l : List Value) : gr (d + 1) (.tuple ⟨l⟩) = l.all (gr d) := rfl
theorem gr_i (d : Nat) (k : IntKind) (n : Int) : gr (d + 1) (.int k n) = true := rfl
theorem gr_b (d : Nat) (b : Bool) : gr (d + 1) (.bool b) = true := rfl
theorem gr_s (d : Nat) (s : ByteArray) : gr (d + 1) (.string s) = true := rfl
/-- What has no new blocks, part by part. -/
theorem grL : (∀ (d : Nat) (l : List Value), gr (d + 1) (.agg ⟨l⟩) = l.all (gr d)) ∧ (∀ (d : Nat) (l : List Value), gr (d + 1) (.tuple ⟨l⟩) = l.all (gr d)) ∧ (∀ (d : Nat) (a : Option Addr) (n c : Nat), gr (d + 1) (.slice a n c) = grB a n c) ∧
    (∀ (d : Nat) (k : IntKind) (n : Int), gr (d + 1) (.int k n) = true) ∧ (∀ (d : Nat) (b : Bool), gr (d + 1) (.bool b) = true) ∧ (∀ (d : Nat) (s : ByteArray), gr (d + 1) (.string s) = true) ∧ (∀ l k : List Value, appR l k = l ++ k) ∧ (∀ l : List Value, l ++ [] = l) ∧
    (∀ (x : Value) (l k : List Value), (x :: l) ++ k = x :: (l ++ k)) ∧ (∀ l : List Value, [] ++ l = l) ∧ (∀ (p : Value → Bool) (x : Value) (l : List Value), (x :: l).all p = (p x && l.all p)) ∧ (∀ p : Value → Bool, ([] : List Value).all p = true) ∧
    (∀ b : Bool, (b && true) = b) ∧ (∀ b : Bool, (true && b) = b) ∧ (∀ b : Bool, (b && b) = b) ∧ (∀ a b : Bool, ((a && b) = true) = (a = true ∧ b = true)) :=
  ⟨gr_agg, gr_tup, gr_slice, gr_i, gr_b, gr_s, fun l k => appR_eq k l, List.append_nil, fun _ _ _ => rfl, fun _ => rfl, fun _ _ _ => rfl, fun _ => rfl, Bool.and_true, Bool.true_and, Bool.and_self, fun a b => by simp⟩
/-- A slice whose elements are read as a list. -/
structure Sl {α : Type} (f : Nat → Nat → Option Value) (enc : α → List Value) (k : Nat) (a : Option Addr) (n c : Nat) (l : List α) : Prop where
  g : grA a n c = true
  len : l.length = n
  nc : n ≤ c
  le : n ≤ 9223372036854775807
  at' : ∀ i x, l[i]? = some x → ∃ b o, a = some ⟨b, o, none⟩ ∧ ∀ j v, (enc x)[j]? = some v → f b (o + i * k + j) = some v
abbrev encI (x : Int) : List Value := [.int .i64 x]
abbrev Ints (f : Nat → Nat → Option Value) (a : Option Addr) (n c : Nat) (l : List Int) : Prop := Sl f encI 1 a n c l
section
variable {α : Type} {f f' : Nat → Nat → Option Value} {enc : α → List Value} {k : Nat} {a : Option Addr} {n c : Nat} {l : List α}
theorem Sl.mono (h : Sl f enc k a n c l) (hf : ∀ b o v, f b o = some v → f' b o = some v) : Sl f' enc k a n c l := ⟨h.g, h.len, h.nc, h.le, fun i x hx => by
  obtain ⟨b, o, h1, h2⟩ := h.at' i x hx
  exact ⟨b, o, h1, fun j v hv => hf _ _ _ (h2 j v hv)⟩⟩
/-- One that is not empty lies in plain memory. -/
theorem Sl.strong (h : Sl f enc k a n c l) (hn : 0 < n) : grB a n c = true := by
  obtain ⟨x, hx⟩ : ∃ x, l[0]? = some x := ⟨l[0]'(by rw [h.len]; exact hn), List.getElem?_eq_getElem _⟩
  obtain ⟨b, o, rfl, _⟩ := h.at' 0 x hx
  rfl
theorem Sl.nil : Sl f enc k none 0 0 ([] : List α) := ⟨rfl, rfl, Nat.le_refl _, by omega, fun i x hx => by simp at hx⟩
theorem flat_get {enc : α → List Value} (hk : ∀ x, (enc x).length = k) : ∀ (l : List α) (i : Nat) (x : α), l[i]? = some x → ∀ j v, (enc x)[j]? = some v → (l.flatMap enc)[i * k + j]? = some v
  | [], i, x, h => by simp at h
  | y :: l, 0, x, h => fun j v hv => by
    obtain rfl : y = x := by simpa using h
    have hj : j < (enc y).length := (List.getElem?_eq_some_iff.1 hv).1
    rw [List.flatMap_cons, Nat.zero_mul, Nat.zero_add, List.getElem?_append_left hj]; exact hv
  | y :: l, i + 1, x, h => fun j v hv => by
    have := flat_get hk l i x (by simpa using h) j v hv
    rw [List.flatMap_cons, List.getElem?_append_right (by rw [hk, Nat.succ_mul]; omega), hk, Nat.succ_mul]
    rw [show i * k + k + j - k = i * k + j from by omega]; exact this
theorem flat_length {enc : α → List Value} (hk : ∀ x, (enc x).length = k) : ∀ (l : List α), (l.flatMap enc).length = l.length * k
  | [] => by simp
  | y :: l => by rw [List.flatMap_cons, List.length_append, flat_length hk l, hk, List.length_cons, Nat.succ_mul]; omega
theorem flat_gr {enc : α → List Value} (hg : ∀ x, (enc x).all (gr 6) = true) (l : List α) : (l.flatMap enc).all (gr 6) = true := by
  rw [List.all_eq_true]
  intro v hv
  obtain ⟨x, _, hx⟩ := List.mem_flatMap.1 hv
  exact List.all_eq_true.1 (hg x) v hx
/-- A new row, handed to a call. -/
theorem Sl.of_row {cs : List Value} {b c' : Nat} (hc : cs.all (gr 6) = true → ∀ i v, cs[i]? = some v → f b i = some v) (hcs : cs = l.flatMap enc) (hk : ∀ x, (enc x).length = k) (hg : ∀ x, (enc x).all (gr 6) = true) (hn : l.length = n) (hnc : n ≤ c') (hle : n ≤ 9223372036854775807) :
    Sl f enc k (some ⟨b, 0, none⟩) n c' l := ⟨rfl, hn, hnc, hle, fun i x hx => ⟨b, 0, rfl, fun j v hv => by
    subst hcs
    rw [Nat.zero_add]
    exact hc (flat_gr hg l) _ _ (flat_get hk l i x hx j v hv)⟩⟩
end
section
variable {P : Program} {f : Nat → Nat → Option Value}
/-- A call with a new row alone. -/
theorem t_callS {α : Type} {enc : α → List Value} {kk : Nat} (l : List α) {frz : List Nat} {g : FuncId} {args : List Value} {h : SH} {k : KV} {v : Value} {j s n c fam : Nat} {t : TypeId} {cs : List Value}
    (hok : (finfo P g).ok = true) (hx : ∀ f' b c', Sl f' enc kk (some ⟨b, 0, none⟩) n c' l → FnR P f' g [.slice (some ⟨b, 0, none⟩) n c'] ⟨v, []⟩) (ea : args = [.slice (some ⟨j, 0, some s⟩) n c]) (hs : (s = 0 ∧ n ≤ c) ∨ s = 1) (hrow : h.tr.get j = some (.row t cs fam)) (hcs : cs = l.flatMap enc)
    (hk : ∀ x, (enc x).length = kk) (hg : ∀ x, (enc x).all (gr 6) = true) (hn : l.length = n) (hle : n ≤ 9223372036854775807) (hl : frzLive h frz = true) (hv : gr 6 v = true) (hkk : k v h = some (.bool true)) : callI P (glF f) frz g args h k = some (.bool true) := by
  subst ea
  unfold callI
  refine if_pos ⟨v, h, hkk, ent_of_ok hok, fun N μ w args' d hr => ?_⟩
  have ha : ∀ y ∈ [Value.slice (some ⟨j, 0, some s⟩) n c], rlV h 5 y := fun y hy => by
    rw [List.mem_singleton] at hy
    subst hy
    rcases hs with ⟨rfl, _⟩ | rfl <;> exact ⟨t, cs, fam, hrow⟩
  obtain ⟨kx, hre, hre2⟩ := real_list (real_of d 5) ha hr
  have fin : CallsIn Fence.wide 0 P g args' w (ResP P ⟨v, []⟩ w) := by
    refine (?_ : FnR P (seeF f w) g kx ⟨v, []⟩).2 w (see_reads d.glob.2.2) args'.toList hre2
    cases hre with
    | cons h1 h2 =>
      cases h2
      cases h1 with
      | ground hg => simp [gE] at hg; rcases hs with ⟨hs, _⟩ | hs <;> simp [hs] at hg
      | slice hj hc hn' h0 =>
        rw [hrow] at hj; cases hj
        exact (hx _ _ _ (Sl.of_row hc hcs hk hg hn (by rcases hs with ⟨rfl, hq⟩ | rfl; (have := h0 rfl; omega); exact hn' (.inl rfl)) hle))
      | empty => rcases hs with ⟨hs, _⟩ | hs <;> cases hs
  refine fin.mono ?_
  rintro e w' ⟨ν, v', rfl, hb, hv', _⟩
  obtain rfl := hv'.eq hv
  refine ⟨μ, v', rfl, ⟨Mu.le_refl _, d.below hb, ⟨hb.mono d.base.1, fun k hk => hb.block _ (d.base.2 k hk)⟩, fun k hk b κ hm => ?_⟩, .ground hv⟩
  obtain ⟨sb, hsb⟩ := Option.isSome_iff_exists.1 (List.all_eq_true.1 hl k hk)
  obtain ⟨b0, κ0, q1, _, q3⟩ := (d.blk k sb hsb).at
  rw [hm] at q1; cases q1
  exact hb.block _ q3
def orE : List Int → Int
  | [] => 0
  | e :: es => if e = 0 then orE es else e
/-- The first error of some. -/
theorem t_or2 {frz : List Nat} {g : FuncId} {args : List Value} {h : SH} {k : KV} {j fam : Nat} {t : TypeId} {e1 e2 : Int} (hx : ∀ f' a n c es, Ints f' a n c es → FnR P f' g [.slice a n c] ⟨.int .i64 (orE es), []⟩) (hok : (finfo P g).ok = true) (ea : args = [.slice (some ⟨j, 0, some 0⟩) 2 2]) (hrow : h.tr.get j = some (.row t [.int .i64 e1, .int .i64 e2] fam)) (hl : frzLive h frz = true)
    (hkk : k (.int .i64 (orE [e1, e2])) h = some (.bool true)) : callI P (glF f) frz g args h k = some (.bool true) :=
  t_callS [e1, e2] hok (fun f' b c' H => hx _ _ _ _ _ H) ea (.inl ⟨rfl, Nat.le_refl _⟩) hrow rfl (fun _ => rfl) (fun _ => rfl) rfl (by omega) hl rfl hkk
theorem t_or3 {frz : List Nat} {g : FuncId} {args : List Value} {h : SH} {k : KV} {j fam : Nat} {t : TypeId} {e1 e2 e3 : Int} (hx : ∀ f' a n c es, Ints f' a n c es → FnR P f' g [.slice a n c] ⟨.int .i64 (orE es), []⟩) (hok : (finfo P g).ok = true) (ea : args = [.slice (some ⟨j, 0, some 0⟩) 3 3]) (hrow : h.tr.get j = some (.row t [.int .i64 e1, .int .i64 e2, .int .i64 e3] fam)) (hl : frzLive h frz = true)
    (hkk : k (.int .i64 (orE [e1, e2, e3])) h = some (.bool true)) : callI P (glF f) frz g args h k = some (.bool true) :=
  t_callS [e1, e2, e3] hok (fun f' b c' H => hx _ _ _ _ _ H) ea (.inl ⟨rfl, Nat.le_refl _⟩) hrow rfl (fun _ => rfl) (fun _ => rfl) rfl (by omega) hl rfl hkk
theorem t_or4 {frz : List Nat} {g : FuncId} {args : List Value} {h : SH} {k : KV} {j fam : Nat} {t : TypeId} {e1 e2 e3 e4 : Int} (hx : ∀ f' a n c es, Ints f' a n c es → FnR P f' g [.slice a n c] ⟨.int .i64 (orE es), []⟩) (hok : (finfo P g).ok = true) (ea : args = [.slice (some ⟨j, 0, some 0⟩) 4 4]) (hrow : h.tr.get j = some (.row t [.int .i64 e1, .int .i64 e2, .int .i64 e3, .int .i64 e4] fam)) (hl : frzLive h frz = true)
    (hkk : k (.int .i64 (orE [e1, e2, e3, e4])) h = some (.bool true)) : callI P (glF f) frz g args h k = some (.bool true) :=
  t_callS [e1, e2, e3, e4] hok (fun f' b c' H => hx _ _ _ _ _ H) ea (.inl ⟨rfl, Nat.le_refl _⟩) hrow rfl (fun _ => rfl) (fun _ => rfl) rfl (by omega) hl rfl hkk
/-- A contract of closed code. -/
theorem fn_null {g : FuncId} {v : Value} (n : NullR P g v) : FnR P f g [] ⟨v, []⟩ := by
  obtain ⟨hg, hent, hc⟩ := n
  refine ⟨hent, fun w _ args' ha => ?_⟩
  cases ha
  refine (hc w).mono ?_
  rintro e w' ⟨rfl, hb⟩
  exact ⟨fun _ => none, v, rfl, hb, .ground hg, Den.mk (by exact ⟨hb.size, fun k hk => (List.not_mem_nil hk).elim⟩) (by intro j sb hj; cases hj) (by intro j _; rfl) (by intro j _; rfl) (by intro i j si sj b κ κ' hi; cases hi)
    (by intro j t cs f hj; cases hj) (by intro j t cs f hj; cases hj) (by intro f _; rfl) gl0_glob⟩
/-- What a contract says of a call in a world. -/
theorem FnR.callsR {g : FuncId} {args args' : List Value} {v : Value} {w : World} (n : FnR P f g args ⟨v, []⟩) (hr : Reads f w) (ha : RelL mu0 args args') (hv : gr 6 v = true) : Calls P g ⟨args'⟩ w fun e w' => e = .returned v ∧ Below w.heap.size w w' :=
  callsIn_wide.1 ((n.2 w hr args' ha).mono (by
    rintro e w' ⟨ν, v', rfl, hb, hv', _⟩
    exact ⟨by rw [hv'.eq hv], hb⟩))
theorem FnR.calls {g : FuncId} {args : List Value} {v : Value} {w : World} (n : FnR P f g args ⟨v, []⟩) (hr : ∀ b o v, f b o = some v → w.cell? ⟨b, o, none⟩ = some v ∧ gr 6 v = true) (ha : args.all (gr 6) = true) (hv : gr 6 v = true) : Calls P g ⟨args⟩ w fun e w' => e = .returned v ∧ Below w.heap.size w w' :=
  n.callsR (fun b o v e => ⟨v, (hr b o v e).1, .ground (hr b o v e).2⟩) (RelL.refl ha) hv
end
/-- Tests, plainly, and what Lean says of them. -/
theorem sbM : ((∀ a b : Int, ltI a b = decide (a < b)) ∧ (∀ a b : Int, leI a b = decide (a ≤ b)) ∧ (∀ a b : Int, eqI a b = (a == b)) ∧ (∀ a b : Nat, (Nat.ble a b = true) = (a ≤ b)) ∧ (∀ a b : Nat, (Nat.beq a b = true) = (a = b)) ∧
    (∀ b : Bool, ((!b) = true) = (b = false)) ∧ (∀ b : Bool, ((!b) = false) = (b = true)) ∧ ((!true) = false) ∧ ((!false) = true) ∧ (∀ n : Nat, Int.ofNat n = (n : Int)) ∧ (∀ n : Nat, Nat.succ n = n + 1) ∧ (∀ a b : Nat, Nat.add a b = a + b) ∧ (∀ a b : Nat, Nat.sub a b = a - b) ∧ (∀ a b : Nat, Nat.mul a b = a * b) ∧
    (∀ a b : Int, (¬ a < b) ↔ b ≤ a) ∧ (∀ a b : Int, (¬ a ≤ b) ↔ b < a) ∧ (∀ a b : Nat, (¬ a < b) ↔ b ≤ a) ∧ (∀ a b : Nat, (¬ a ≤ b) ↔ b < a)) ∧
    (∀ (p : Prop) [Decidable p], (decide p = true) = p) ∧ (∀ (p : Prop) [Decidable p], (decide p = false) = ¬ p) ∧ (∀ {α : Type} [BEq α] [LawfulBEq α] (a b : α), ((a == b) = true) = (a = b)) ∧ (∀ {α : Type} [BEq α] [LawfulBEq α] (a b : α), ((a == b) = false) = ¬ (a = b)) ∧ (∀ {α : Type} (a b : α), (a ≠ b) = ¬ (a = b)) ∧ (∀ p : Prop, (¬ ¬ p) ↔ p) :=
  ⟨sbL, fun p _ => decide_eq_true_eq, fun p _ => propext decide_eq_false_iff_not, fun a b => propext beq_iff_eq, fun a b => propext beq_eq_false_iff_ne, fun _ _ => rfl, fun _ => Classical.not_not⟩
/- What tactics show by themselves. -/
theorem by_a {P : Prop} (h : P := by assumption) : P := h
theorem by_r {P : Prop} (h : P := by first | rfl | assumption) : P := h
theorem by_o {P : Prop} (h : P := by first | omega | (simp only [Int.ofNat_eq_natCast]; omega)) : P := h
theorem by_l {P : Prop} (h : P := by first | omega | (simp only [sbM]; omega)) : P := h
theorem by_s {P : Prop} (h : P := by simp only [sbM]; omega) : P := h
theorem by_u {P : Prop} (h : P := by first | assumption | (simp only [sbM]; omega)) : P := h
theorem by_k {P : Prop} (h : P := by first | rfl | simp [gE]) : P := h
theorem by_g {P : Prop} (h : P := by first | rfl | ((try simp only [grL, gEL]); repeat' (first | assumption | exact rfl | apply And.intro))) : P := h
theorem by_sb {P : Prop} (h : P := by (refine slotsF rfl rfl ?_; repeat (first | exact AllSl.nil | refine AllSl.no (by (conv => arg 1; whnf); first | exact Or.inl (gx _) | exact junk_b rfl | exact Or.inl by_g) ?_ | refine AllSl.so (by (conv => arg 3; whnf); first | exact SimV.int (by first | rfl | omega) | exact SimV.bool (by first | rfl | assumption) | exact SimV.slice rfl rfl (by first | rfl | omega) (by first | rfl | omega) | exact SimV.ptr rfl rfl | exact SimV.ground rfl | exact SimV.ground by_g | exact SimV.map rfl | exact SimV.func .nil .nil | exact SimV.func .nil (.cons (.ptr rfl rfl) .nil) | exact SimV.func .nil (.cons (.ptr rfl rfl) (.cons (.ptr rfl rfl) .nil))) ?_))) : P := h
theorem by_s0 {P : Prop} (h : P := by (refine slotsF rfl rfl ?_; repeat (first | exact AllSl.nil | refine AllSl.no (by (conv => arg 1; whnf); first | exact junk_b rfl | exact Or.inl by_g) ?_ | refine AllSl.so (by (conv => arg 3; whnf); first | exact SimV.int (by first | rfl | omega) | exact SimV.bool (by first | rfl | assumption) | exact SimV.slice rfl rfl (by first | rfl | omega) (by first | rfl | omega) | exact SimV.ptr rfl rfl | exact SimV.ground rfl | exact SimV.ground by_g | exact SimV.map rfl | exact SimV.func .nil .nil | exact SimV.func .nil (.cons (.ptr rfl rfl) .nil) | exact SimV.func .nil (.cons (.ptr rfl rfl) (.cons (.ptr rfl rfl) .nil))) ?_))) : P := h
end Go.Proofs.Ytpaabfecoghibaa

/- Calls with new rows among their arguments. Over any program. Conditions: as each law says. -/
namespace Go.Proofs.Ytpaabfecoghibaa
open Go Go.RowKit
set_option linter.unusedSimpArgs false
set_option linter.unusedVariables false
section
variable {P : Program} {f : Nat → Nat → Option Value}
theorem relL_mid {μ : Mu} {s : Value} {post : List Value} (hpost : post.all (gE 6) = true) : ∀ {pre l' : List Value}, pre.all (gE 6) = true → RelL μ (pre ++ s :: post) l' → ∃ pre' s' post', RelL mu0 pre pre' ∧ Rel μ s s' ∧ RelL mu0 post post' ∧ l' = pre' ++ s' :: post'
  | [], _, _, .cons h t => ⟨[], _, _, .nil, h, t.reE 6 hpost, rfl⟩
  | v :: pre, _, hp, .cons h t => by
    rw [List.all_cons, Bool.and_eq_true] at hp
    obtain ⟨p', s', q', h1, h2, h3, rfl⟩ := relL_mid hpost hp.2 t
    exact ⟨_ :: p', s', q', .cons (h.reE 6 hp.1) h1, h2, h3, rfl⟩
theorem relL_mid2 {μ : Mu} {s1 s2 : Value} {mid post : List Value} (hmid : mid.all (gE 6) = true) (hpost : post.all (gE 6) = true) : ∀ {pre l' : List Value}, pre.all (gE 6) = true → RelL μ (pre ++ s1 :: (mid ++ s2 :: post)) l' →
    ∃ pre' s1' mid' s2' post', RelL mu0 pre pre' ∧ Rel μ s1 s1' ∧ RelL mu0 mid mid' ∧ Rel μ s2 s2' ∧ RelL mu0 post post' ∧ l' = pre' ++ s1' :: (mid' ++ s2' :: post')
  | [], _, _, .cons h t => by
    obtain ⟨m', s2', q', h1, h2, h3, rfl⟩ := relL_mid hpost hmid t
    exact ⟨[], _, m', s2', q', .nil, h, h1, h2, h3, rfl⟩
  | v :: pre, _, hp, .cons h t => by
    rw [List.all_cons, Bool.and_eq_true] at hp
    obtain ⟨p', s1', m', s2', q', h1, h2, h3, h4, h5, rfl⟩ := relL_mid2 hmid hpost hp.2 t
    exact ⟨_ :: p', s1', m', s2', q', .cons (h.reE 6 hp.1) h1, h2, h3, h4, h5, rfl⟩
/-- A slice of a new row is a list, in memory. -/
theorem sl_of_rel {α : Type} {enc : α → List Value} {kk : Nat} {l : List α} {N : Lim} {μ : Mu} {h : SH} {w : World} (d : Den P N (glF f) μ h w) {j s n c fam : Nat} {t : TypeId} {cs : List Value} {s' : Value} (hr : Rel μ (.slice (some ⟨j, 0, some s⟩) n c) s') (hs : (s = 0 ∧ n ≤ c) ∨ s = 1) (hrow : h.tr.get j = some (.row t cs fam)) (hcs : cs = l.flatMap enc)
    (hk : ∀ x, (enc x).length = kk) (hg : ∀ x, (enc x).all (gr 6) = true) (hn : l.length = n) (hle : n ≤ 9223372036854775807) : ∃ b c', s' = .slice (some ⟨b, 0, none⟩) n c' ∧ Sl (seeF f w) enc kk (some ⟨b, 0, none⟩) n c' l := by
  cases hr with
  | ground hg => simp [gr] at hg
  | slice hm => exact ⟨_, _, rfl, Sl.of_row (fun hg => see_row d hrow hm hg) hcs hk hg hn (by rcases hs with ⟨_, h⟩ | h; exact h; cases h) hle⟩
  | sliceO hm hn' => exact ⟨_, _, rfl, Sl.of_row (fun hg => see_row d hrow hm hg) hcs hk hg hn hn' hle⟩
  | sliceE => rcases hs with ⟨hs, _⟩ | hs <;> cases hs
  | sliceA => rcases hs with ⟨hs, _⟩ | hs <;> cases hs
/-- A call with one new row among its arguments. -/
theorem t_callP (O : Orc) {α : Type} {enc : α → List Value} {kk : Nat} (l : List α) (pre post : List Value) {frz : List Nat} {g : FuncId} {args : List Value} {h : SH} {k : KV} {x : Res} {j s n c fam : Nat} {t : TypeId} {cs : List Value}
    (hok : (finfo P g).ok = true) (hx : ∀ f' b c', (∀ b o v, f b o = some v → f' b o = some v) → Sl f' enc kk (some ⟨b, 0, none⟩) n c' l → FnR P f' g (pre ++ .slice (some ⟨b, 0, none⟩) n c' :: post) x) (ea : args = pre ++ .slice (some ⟨j, 0, some s⟩) n c :: post) (hpre : pre.all (gE 6) = true) (hpost : post.all (gE 6) = true)
    (hs : (s = 0 ∧ n ≤ c) ∨ s = 1) (hrow : h.tr.get j = some (.row t cs fam)) (hcs : cs = l.flatMap enc) (hk : ∀ x, (enc x).length = kk) (hg : ∀ x, (enc x).all (gr 6) = true) (hn : l.length = n) (hle : n ≤ 9223372036854775807) (hl : frzLive h frz = true)
    (hp : x.rows.all (fun r => r.2.all (gr 6)) = true) (ho : shOk 4 x.v = true) (hkk : nextC h (fun m => k (shV m 4 x.v) (memSH x.rows h)) = some (.bool true)) : callI P (glF f) frz g args h k = some (.bool true) := by
  subst ea
  rw [nextC_eq] at hkk
  unfold callI
  refine if_pos ⟨_, _, hkk, ent_of_ok hok, fun N μ w args' d hr => ?_⟩
  obtain ⟨p', s', q', g1, h1, g2, h2⟩ := relL_mid hpost hpre hr
  obtain ⟨b, c', rfl, h4⟩ := sl_of_rel d h1 hs hrow hcs hk hg hn hle
  obtain ⟨args'⟩ := args'
  simp only at h2
  subst h2
  exact FnR.call d hl ((hx _ _ _ see_mono h4).2 w (see_reads d.glob.2.2) _ (g1.append (.cons (.ground rfl) g2))) hp ho
/-- A call with two new rows among its arguments. -/
theorem t_callQ (O : Orc) {α β : Type} {enc : α → List Value} {enc2 : β → List Value} {kk kk2 : Nat} (l : List α) (l2 : List β) (pre mid post : List Value) {frz : List Nat} {g : FuncId} {args : List Value} {h : SH} {k : KV} {x : Res} {j s n c fam j2 s2 n2 c2 fam2 : Nat} {t t2 : TypeId} {cs cs2 : List Value}
    (hok : (finfo P g).ok = true) (hx : ∀ f' b c' b2 c2', (∀ b o v, f b o = some v → f' b o = some v) → Sl f' enc kk (some ⟨b, 0, none⟩) n c' l → Sl f' enc2 kk2 (some ⟨b2, 0, none⟩) n2 c2' l2 → FnR P f' g (pre ++ .slice (some ⟨b, 0, none⟩) n c' :: (mid ++ .slice (some ⟨b2, 0, none⟩) n2 c2' :: post)) x)
    (ea : args = pre ++ .slice (some ⟨j, 0, some s⟩) n c :: (mid ++ .slice (some ⟨j2, 0, some s2⟩) n2 c2 :: post)) (hpre : pre.all (gE 6) = true) (hmid : mid.all (gE 6) = true) (hpost : post.all (gE 6) = true)
    (hs : (s = 0 ∧ n ≤ c) ∨ s = 1) (hrow : h.tr.get j = some (.row t cs fam)) (hcs : cs = l.flatMap enc) (hk : ∀ x, (enc x).length = kk) (hg : ∀ x, (enc x).all (gr 6) = true) (hn : l.length = n) (hle : n ≤ 9223372036854775807)
    (hs2 : (s2 = 0 ∧ n2 ≤ c2) ∨ s2 = 1) (hrow2 : h.tr.get j2 = some (.row t2 cs2 fam2)) (hcs2 : cs2 = l2.flatMap enc2) (hk2 : ∀ x, (enc2 x).length = kk2) (hg2 : ∀ x, (enc2 x).all (gr 6) = true) (hn2 : l2.length = n2) (hle2 : n2 ≤ 9223372036854775807) (hl : frzLive h frz = true)
    (hp : x.rows.all (fun r => r.2.all (gr 6)) = true) (ho : shOk 4 x.v = true) (hkk : nextC h (fun m => k (shV m 4 x.v) (memSH x.rows h)) = some (.bool true)) : callI P (glF f) frz g args h k = some (.bool true) := by
  subst ea
  rw [nextC_eq] at hkk
  unfold callI
  refine if_pos ⟨_, _, hkk, ent_of_ok hok, fun N μ w args' d hr => ?_⟩
  obtain ⟨p', s', m', s2', q', g1, h1, g2, h12, g3, h2⟩ := relL_mid2 hmid hpost hpre hr
  obtain ⟨b, c', rfl, h4⟩ := sl_of_rel d h1 hs hrow hcs hk hg hn hle
  obtain ⟨b2, c2', rfl, h5⟩ := sl_of_rel d h12 hs2 hrow2 hcs2 hk2 hg2 hn2 hle2
  obtain ⟨args'⟩ := args'
  simp only at h2
  subst h2
  exact FnR.call d hl ((hx _ _ _ _ _ see_mono h4 h5).2 w (see_reads d.glob.2.2) _ (g1.append (.cons (.ground rfl) (g2.append (.cons (.ground rfl) g3))))) hp ho
end
/-- A new row that is handed back, if there is anything in it; its slice has no room that is known. -/
def retS (r : Nat) (n : Nat) : List Value → Value
  | [] => .slice none 0 0
  | _ :: _ => .slice (some ⟨r, 0, some 1⟩) n 0
def retR (t : TypeId) : List Value → List (TypeId × List Value)
  | [] => []
  | cs => [(t, cs)]
section
variable {α : Type} {enc : α → List Value} {k : Nat}
/-- The cells of a list's elements, behind each other. -/
def encA (enc : α → List Value) : List α → List Value
  | [] => []
  | x :: l => enc x ++ encA enc l
theorem encA_eq : ∀ l : List α, encA enc l = l.flatMap enc
  | [] => rfl
  | x :: l => by rw [List.flatMap_cons, ← encA_eq l, encA]
theorem encA_gr (hg : ∀ x, (enc x).all (gr 6) = true) (l : List α) : (encA enc l).all (gr 6) = true := by rw [encA_eq]; exact flat_gr hg l
theorem encA_gE (hg : ∀ x, (enc x).all (gr 6) = true) (l : List α) : (encA enc l).all (gE 6) = true := all_gE_of (gE_of_gr 6) (encA_gr hg l)
theorem encA_len (hk : ∀ x, (enc x).length = k) (l : List α) : (encA enc l).length = l.length * k := by rw [encA_eq]; exact flat_length hk l
theorem encA_add (l : List α) (x : α) : encA enc (l ++ [x]) = appR (encA enc l) (enc x) := by
  rw [encA_eq, encA_eq, appR_eq, List.flatMap_append, List.flatMap_cons, List.flatMap_nil, List.append_nil]
end
section
variable {α : Type} {f : Nat → Nat → Option Value} {enc : α → List Value} {k : Nat} {a : Option Addr} {n c : Nat} {l : List α}
theorem flat_at {enc : α → List Value} {k : Nat} (hk : ∀ x, (enc x).length = k) : ∀ (l : List α) (i : Nat) (v : Value), (l.flatMap enc)[i]? = some v → ∃ q j x, i = q * k + j ∧ l[q]? = some x ∧ (enc x)[j]? = some v
  | [], i, v, h => by simp at h
  | y :: l, i, v, h => by
    rw [List.flatMap_cons] at h
    rcases Nat.lt_or_ge i (enc y).length with hlt | hge
    · rw [List.getElem?_append_left hlt] at h
      exact ⟨0, i, y, by omega, rfl, h⟩
    · rw [List.getElem?_append_right hge] at h
      obtain ⟨q, j, x, h1, h2, h3⟩ := flat_at hk l _ v h
      refine ⟨q + 1, j, x, ?_, by simpa using h2, h3⟩
      rw [hk] at h1 hge
      rw [Nat.succ_mul]; omega
/-- All cells of a list that is read. -/
theorem Sl.read {b o : Nat} (h : Sl f enc k (some ⟨b, o, none⟩) n c l) (hk : ∀ x, (enc x).length = k) (hg : ∀ x, (enc x).all (gr 6) = true) : readO f b o (n * k) = some (encA enc l) := by
  refine readO_of _ _ _ ?_ (encA_gr hg l) fun i v hv => ?_
  · rw [encA_len hk, h.len]
  · rw [encA_eq] at hv
    obtain ⟨q, j, x, rfl, h2, h3⟩ := flat_at hk l i v hv
    obtain ⟨b', o', e, hc⟩ := h.at' q x h2
    cases e
    rw [← Nat.add_assoc]
    exact hc j v h3
theorem encA_one (h1 : ∀ x, (enc x).all oneV = true) : allOne (encA enc l) = true := by
  rw [allOne_eq, encA_eq, List.all_eq_true]
  intro v hv
  obtain ⟨x, _, hx⟩ := List.mem_flatMap.1 hv
  exact List.all_eq_true.1 (h1 x) v hx
end
abbrev encP (x : Int × Int) : List Value := [.int .i64 x.1, .int .i64 x.2]
section
variable {P : Program} {f : Nat → Nat → Option Value} {m : Nat}
/-- Frames and memory that are one of a family, under other numbers. -/
def AtS {α : Type} (m : Nat) (L : α → List (Option Value)) (M : α → List (TypeId × List Value)) (Inv : α → Prop) (ts : Fr) (h : SH) : Prop := ∃ (a : α) (s : List Nat), Inv a ∧ (M a).length = m + s.length ∧ RowsOk (rhoOf m s) h (M a) 0 [] ∧ SlotsN (rhoOf m s) (L a) ts
/-- The first k parts of a code, and then n. -/
def JP (P : Program) (f : Nat → Nat → Option Value) (m : Nat) (n : Fr → SH → Prop) : Nat → Code → Fr → SH → KP → Prop
  | 1, .seq x _, ts, h, K => J P f m x ts h (KP.then n K)
  | k + 2, .seq x y, ts, h, K => J P f m x ts h (KP.then (fun ts h => JP P f m n (k + 1) y ts h K) K)
  | _, _, _, _, _ => False
/-- What is behind them. -/
def postC : Nat → Code → Code
  | k + 1, .seq _ y => postC k y
  | _, c => c
theorem JP.one {n : Fr → SH → Prop} {x y : Code} {ts : Fr} {h : SH} {K : KP} (j : J P f m x ts h (KP.then n K)) : JP P f m n 1 (.seq x y) ts h K := j
theorem JP.step {n : Fr → SH → Prop} {k : Nat} {x y : Code} {ts : Fr} {h : SH} {K : KP} (j : J P f m x ts h (KP.then (fun ts h => JP P f m n (k + 1) y ts h K) K)) : JP P f m n (k + 2) (.seq x y) ts h K := j
theorem KP.then_mono {n n' : Fr → SH → Prop} {K : KP} (hn : ∀ ts h, n ts h → n' ts h) (e : SE) (ts : Fr) (h : SH) (k : KP.then n K e ts h) : KP.then n' K e ts h := by
  cases e with
  | normal => exact hn _ _ k
  | ret => exact k
  | exit i => exact k
theorem JP.to {n : Fr → SH → Prop} : ∀ (k : Nat) {c : Code} {ts : Fr} {h : SH} {K : KP}, (∀ ts h, n ts h → J P f m (postC k c) ts h K) → JP P f m n k c ts h K → J P f m c ts h K
  | 0, _, _, _, _, _, j => by simp [JP] at j
  | 1, c, _, _, _, hn, j => by
    cases c with
    | seq x y => exact J.seq (J.mono j (KP.then_mono hn))
    | _ => simp [JP] at j
  | k + 2, c, _, _, _, hn, j => by
    cases c with
    | seq x y => exact J.seq (J.mono j (KP.then_mono fun ts h hj => JP.to (k + 1) hn hj))
    | _ => simp [JP] at j
/-- **A cut**: what follows the first k parts is looked at once, from frames and memory of a family. -/
theorem J.cutN {α : Type} (k : Nat) {c : Code} {ts : Fr} {h : SH} {K : KP} (L : α → List (Option Value)) (M : α → List (TypeId × List Value)) (Inv : α → Prop)
    (hc : ∀ a, Inv a → ∀ vs, MatchL (L a) vs → J P f m (postC k c) (frL (L a).length vs) (memSH (M a) sh0) K) (hx : JP P f m (AtS m L M Inv) k c ts h K) : J P f m c ts h K :=
  JP.to k (fun ts h ⟨a, s, h1, h2, h3, h4⟩ => J.ren (L a) (M a) s h2 h3 h4 (hc a h1)) hx
end
section
variable {P : Program} {f : Nat → Nat → Option Value}
/-- A call with a closure over one new row among its arguments. -/
theorem t_callC (O : Orc) (pre post : List Value) {frz : List Nat} {g0 g : FuncId} {args : List Value} {h : SH} {k : KV} {x : Res} {j fam : Nat} {t : TypeId} {cs : List Value}
    (hok : (finfo P g0).ok = true) (hx : ∀ f' b, (∀ b o v, f b o = some v → f' b o = some v) → (∀ i v, cs[i]? = some v → f' b i = some v) → FnR P f' g0 (pre ++ .func (.func g) ⟨[]⟩ ⟨[.pointer (some ⟨b, 0, none⟩)]⟩ :: post) x)
    (ea : args = pre ++ .func (.func g) ⟨[]⟩ ⟨[.pointer (some ⟨j, 0, some 0⟩)]⟩ :: post) (hpre : pre.all (gE 6) = true) (hpost : post.all (gE 6) = true) (hrow : h.tr.get j = some (.row t cs fam)) (hg : cs.all (gr 6) = true) (hl : frzLive h frz = true)
    (hp : x.rows.all (fun r => r.2.all (gr 6)) = true) (ho : shOk 4 x.v = true) (hkk : nextC h (fun m => k (shV m 4 x.v) (memSH x.rows h)) = some (.bool true)) : callI P (glF f) frz g0 args h k = some (.bool true) := by
  subst ea
  rw [nextC_eq] at hkk
  unfold callI
  refine if_pos ⟨_, _, hkk, ent_of_ok hok, fun N μ w args' d hr => ?_⟩
  obtain ⟨p', s', q', g1, h1, g2, h2⟩ := relL_mid hpost hpre hr
  obtain ⟨b, rfl, hc⟩ : ∃ b, s' = .func (.func g) ⟨[]⟩ ⟨[.pointer (some ⟨b, 0, none⟩)]⟩ ∧ ∀ i v, cs[i]? = some v → seeF f w b i = some v := by
    cases h1 with
    | ground hg => simp [gr] at hg
    | func q1 q2 =>
      rename_i fi' ci'
      obtain ⟨fi'⟩ := fi'
      obtain ⟨ci'⟩ := ci'
      simp only at q1 q2
      cases q1
      cases q2 with
      | cons q3 q4 =>
        cases q4
        cases q3 with
        | ground hg => simp [gr] at hg
        | ptr hm => exact ⟨_, rfl, see_row d hrow hm hg⟩
  obtain ⟨args'⟩ := args'
  simp only at h2
  subst h2
  exact FnR.call d hl ((hx _ _ see_mono hc).2 w (see_reads d.glob.2.2) _ (g1.append (.cons (.ground rfl) g2))) hp ho
end
end Go.Proofs.Ytpaabfecoghibaa
