/- Regions that draw, on the shadow: a family of conditions on worlds; what is taken first; new variables that are laid at any time. Over any program. Conditions: as each law says. -/
import Derived.Test.YtpaabfecoghibaaK8
namespace Go.Proofs.Ytpaabfecoghibaa
open Go Go.RowKit
set_option linter.unusedSimpArgs false
set_option linter.unusedVariables false
section
variable {F : Fence} {n : Nat} {P : Program} {ops : Array Oper} {Q : Exit → Act → World → Prop} {S : Array Bool → World → Prop}
/-- Whatever order is picked from here on, and S of what has come up holds behind each operation. -/
def WF (F : Fence) (n : Nat) (P : Program) (ops : Array Oper) (Q : Exit → Act → World → Prop) (S : Array Bool → World → Prop) : Nat → Array Bool → Act → World → Prop
  | 0, L, a, w => Region.ready .any ops L = [] ∧ Q .normal a w
  | fuel + 1, L, a, w => (Region.ready .any ops L = [] → Q .normal a w) ∧
    ∀ i ∈ Region.ready .any ops L, wpOpIn F n P ops Q i (fun a' w' => S (L.setIfInBounds i true) w' ∧ WF F n P ops Q S fuel (L.setIfInBounds i true) a' w') a w
theorem wpAnyIn_of_WF : ∀ (fuel : Nat) (L : Array Bool) (a : Act) (w : World), WF F n P ops Q S fuel L a w → wpAnyIn F n P .any ops Q fuel L a w
  | 0, _, _, _, h => h
  | fuel + 1, _, _, _, h => ⟨h.1, fun i hi => wpOpIn_mono (fun a' w' h' => wpAnyIn_of_WF fuel _ a' w' h'.2) (h.2 i hi)⟩
/-- A world in which the operation i may come up. -/
def At (ops : Array Oper) (S : Array Bool → World → Prop) (i : Nat) (W : World) : Prop := ∃ L, Closed ops L ∧ L.getD i false = false ∧ S L W
theorem getD_none {L : Array Bool} {i : Nat} (h : L.getD i true = false) : L.getD i false = false := by
  rcases Nat.lt_or_ge i L.size with h' | h'
  · simpa [Array.getD, h'] using h
  · simp [Array.getD, Nat.not_lt.2 h'] at h
theorem WF_first {i : Nat} {oi : Oper} {v : Value} (hro : ∀ (i : Nat) (o : Oper) (ρ : Operand → Value), ops[i]? = some o → o.semAt F.round ρ = execOp ρ o) (hF : ∀ f, F.fn f) (hi : ops[i]? = some oi) (hsel : ∀ (j : Nat) (o : Oper) cs b, ops[j]? = some o → o.op ≠ .select cs b)
    (hQ : ∀ c a w, Q (.panic c) (a.put oi.dst v) w → Q (.panic c) a w) (hS1 : ∀ L W, S (L.setIfInBounds i true) W → S L W) (hS2 : ∀ L W k, S L W → S (L.setIfInBounds k true) W) :
    ∀ (fuel : Nat) (L : Array Bool) (a : Act) (w : World),
      (∀ j oj, ops[j]? = some oj → j ≠ i → L.getD j true = false → (∀ e ∈ oj.after, Region.binds .any e = true → e.on ≠ i) → oi.apart ops oj = true) →
      Closed ops L → i ∈ Region.ready .any ops L → YieldsIf P ops (At ops S i) oi v a → S L w →
      WF F n P ops Q S fuel (L.setIfInBounds i true) (a.put oi.dst v) w → WF F n P ops Q S (fuel + 1) L a w := by
  intro fuel
  induction fuel with
  | zero =>
    intro L a w _ hc hr hy hS H
    refine ⟨fun h => (by rw [h] at hr; cases hr), fun j hj => ?_⟩
    by_cases hji : j = i
    · subst hji; exact yieldsIf_wpOpInX hro hF hi hy ⟨L, hc, getD_none (mem_ready.1 hr).1, hS⟩ ⟨hS2 L w j hS, H⟩
    · have := ready_mono hj hji
      rw [H.1] at this
      cases this
  | succ fuel ih =>
    intro L a w hfree hc hr hy hS H
    refine ⟨fun h => (by rw [h] at hr; cases hr), fun j hj => ?_⟩
    by_cases hji : j = i
    · subst hji; exact yieldsIf_wpOpInX hro hF hi hy ⟨L, hc, getD_none (mem_ready.1 hr).1, hS⟩ ⟨hS2 L w j hS, H⟩
    · have h1 := H.2 j (ready_mono hj hji)
      obtain ⟨hjun, oj, hoj, hall⟩ := mem_ready.1 hj
      have hnot : ∀ e ∈ oj.after, Region.binds .any e = true → e.on ≠ i := fun e he hb heq => by
        have h1 := hall e he hb
        have h0 := getD_none (mem_ready.1 hr).1
        rw [heq, h0] at h1; cases h1
      have h2 := wpOpIn_putIfX hro hF hoj (hfree j oj hoj hji hjun hnot) (fun cs b => hsel i oi cs b hi) (fun cs b => hsel j oj cs b hoj) hQ hy h1
      have hfree' : ∀ k ok, ops[k]? = some ok → k ≠ i → (L.setIfInBounds j true).getD k true = false →
          (∀ e ∈ ok.after, Region.binds .any e = true → e.on ≠ i) → oi.apart ops ok = true := fun k ok hk hki hun hno => by
        refine hfree k ok hk hki ?_ hno
        by_cases hjk : j = k
        · subst hjk; exact hjun
        · rw [getD_set_ne true hjk] at hun; exact hun
      refine wpOpIn_mono (fun a' w' h3 => ?_) h2
      have h4 := h3.2
      rw [Array.setIfInBounds_comm _ _ (Ne.symm hji)] at h4
      have h5 := hS1 _ _ h4.1
      exact ⟨h5, ih (L.setIfInBounds j true) a' w' hfree' (closed_set hc hj) (ready_mono hr (Ne.symm hji)) h3.1 h5 h4.2⟩
end
section
variable {F : Fence} {n : Nat} {P : Program} {ops : Array Oper} {Q : Exit → Act → World → Prop}
/-- What came up ahead of time: number of the operation, where its yield goes, what it yielded, its new block, if there is one. -/
abbrev Laid := List (Nat × Tmp × Value × List Nat)
def putE : Laid → Act → Act
  | [], a => a
  | x :: E, a => (putE E a).put (some x.2.1) x.2.2.1
theorem putE_put {E : Laid} {a : Act} {d : Option Tmp} {v : Value} (h : ∀ x ∈ E, d ≠ some x.2.1) : (putE E a).put d v = putE E (a.put d v) := by
  induction E with
  | nil => rfl
  | cons x E ih =>
    simp only [putE]
    rw [Act.put_comm _ _ _ (fun d' hd => by cases hd; exact h x (by simp)), ih fun y hy => h y (by simp [hy])]
theorem putE_defers (E : Laid) (a : Act) : (putE E a).defers = a.defers := by
  induction E with
  | nil => rfl
  | cons x E ih => simp only [putE]; rw [put_defers', ih]
theorem putE_exec {E : Laid} {o : Oper} (hs : ∀ cs b, o.op ≠ .select cs b) {a : Act} (h : ∀ x ∈ E, x.2.1 ∉ o.looksAt ops) : execOp (putE E a).eval o = execOp a.eval o := by
  induction E with
  | nil => rfl
  | cons x E ih =>
    simp only [putE]
    rw [execOp_put (ops := ops) o hs _ _ _ (fun d hd => by cases hd; exact h x (by simp)), ih fun y hy => h y (by simp [hy])]
theorem putE_wanted {E : Laid} {o : Oper} {a : Act} (h : ∀ x ∈ E, x.2.1 ∉ o.looksAt ops) : Region.wanted o (yielded ops (putE E a).tmps) = Region.wanted o (yielded ops a.tmps) := by
  induction E with
  | nil => rfl
  | cons x E ih =>
    simp only [putE]
    rw [wanted_put o _ _ _ (fun d hd => by cases hd; exact h x (by simp)), ih fun y hy => h y (by simp [hy])]
theorem putE_deferOne {E : Laid} {a : Act} {d : Deferred} : ({ putE E a with defers := d :: (putE E a).defers } : Act) = putE E { a with defers := d :: a.defers } := by
  induction E with
  | nil => rfl
  | cons x E ih => simp only [putE]; rw [Act.put_defers, ih]
theorem uponIn_putE {o : Oper} {E : Laid} {a : Act} {K : Act → World → Prop} (hd : ∀ x ∈ E, o.dst ≠ some x.2.1) {r : Result Next} (h : o.uponIn F n P a (fun a' w' => K (putE E a') w') (fun _ _ _ => False) r) : o.uponIn F n P (putE E a) K Q r := by
  have hp : ∀ v, (putE E a).put o.dst v = putE E (a.put o.dst v) := fun v => putE_put hd
  cases r with
  | ok x w' =>
    cases x <;> simp only [Oper.uponIn] at h ⊢
    case value u => rw [hp]; exact h
    case skip => rw [hp]; exact h
    case defer d => rw [putE_deferOne, putE_put hd]; exact h
    case enter f args =>
      refine ⟨h.1, CallsIn.mono h.2 fun e w'' he => ?_⟩
      cases e with
      | returned u => simp only [hp]; exact he
      | panicked c => exact he.elim
      | outgrown => obtain ⟨_, _, h'⟩ := he; exact h'.elim
    case row row args => exact ⟨h.1, RowsIn.mono h.2 fun u w'' he => by simp only [hp]; exact he⟩
    case round l f tmps assign body =>
      refine ⟨h.1, RoundIn.mono h.2 fun e w'' he => ?_⟩
      cases e with
      | returned u => simp only [hp]; exact he
      | panicked c => exact he.elim
      | outgrown => obtain ⟨_, _, h'⟩ := he; exact h'.elim
  | halt x w' =>
    cases x <;> simp only [Oper.uponIn] at h ⊢
theorem notIn_spec {D : List Nat} {d : Nat} (h : notIn D d = true) : d ∉ D := fun hd => by
  simp only [notIn, List.all_eq_true] at h
  have := h d hd
  simp at this
theorem untouched_spec {D : List Nat} {o : Oper} (h : untouched ops D o = true) : (∀ d ∈ D, d ∉ o.looksAt ops) ∧ ∀ d ∈ D, o.dst ≠ some d := by
  simp only [untouched, Bool.and_eq_true] at h
  obtain ⟨⟨h1, h2⟩, h3⟩ := h
  refine ⟨fun d hd hl => ?_, fun d hd he => ?_⟩
  · rcases List.mem_append.1 hl with hl | hl
    · obtain ⟨x, hx, hxd⟩ := List.mem_filterMap.1 hl
      rw [List.all_eq_true] at h2
      have := h2 x hx
      cases x with
      | tmp t =>
        simp only [Option.some.injEq] at hxd
        subst hxd
        exact notIn_spec this hd
      | _ => cases hxd
    · cases hg : o.guard with
      | none => simp [hg] at hl
      | some g =>
        obtain ⟨j, b⟩ := g
        simp only [hg] at hl h3
        cases hq : (ops[j]?).bind (·.dst) with
        | none => simp [hq] at hl
        | some d' =>
          simp only [hq, Option.toList_some, List.mem_singleton] at hl h3
          subst hl
          exact notIn_spec h3 hd
  · simp only [he] at h1
    exact notIn_spec h1 hd
end
end Go.Proofs.Ytpaabfecoghibaa

/- What may come up ahead of time: what it makes hangs on its operands alone. Over any program. Conditions: as each law says. -/
namespace Go.Proofs.Ytpaabfecoghibaa
open Go Go.RowKit
set_option linter.unusedSimpArgs false
set_option linter.unusedVariables false
def tm (tmps : Array Value) : Nat → Value := fun t => tmps.getD t undef
theorem eval_opv (a : Act) (x : Operand) : a.eval x = opv (tm a.tmps) x := by cases x <;> rfl
theorem opnd_opv (ts : Fr) (x : Operand) : opnd ts x = opv ts.get x := by cases x <;> rfl
section
variable {P : Program} {N : Lim} {G : Gl} {μ : Mu} {ops : Array Oper}
theorem parts_congr {g g' : Nat → Value} : ∀ {l : List (Nat × Operand)}, (∀ x ∈ l, opv g x.2 = opv g' x.2) → (l.map fun p => (p.1, opv g p.2)) = l.map fun p => (p.1, opv g' p.2)
  | [], _ => rfl
  | x :: l, h => by rw [List.map_cons, List.map_cons, h x (by simp), parts_congr fun y hy => h y (by simp [hy])]
theorem part_op {ps : Array (Nat × Operand)} {x : Nat × Operand} (hx : x ∈ ps.toList) : x.2 ∈ (ps.map (·.2)) := by simp only [Array.mem_map]; exact ⟨x, by simpa using hx, rfl⟩
theorem eC_congr {o : Oper} {g g' : Nat → Value} (h : ∀ x ∈ o.op.operands, opv g x = opv g' x) : eC P o g = eC P o g' := by
  unfold eC
  cases ho : o.op <;> try rfl
  case buildSlice t n ps =>
    rw [ho] at h
    simp only
    rw [parts_congr (l := ps.toList) fun x hx => h x.2 (by simp only [Op.operands, List.mem_toArray, List.mem_map]; exact ⟨x, by simpa using hx, rfl⟩)]
  case build t ps =>
    rw [ho] at h
    simp only
    rw [parts_congr (l := ps.toList) fun x hx => h x.2 (by simp only [Op.operands, List.mem_toArray, List.mem_map]; exact ⟨x, by simpa using hx, rfl⟩)]
  case makeSlice t l c =>
    rw [ho] at h
    simp only
    rw [h l (by simp [Op.operands]), h c (by simp [Op.operands])]
  case move x =>
    rw [ho] at h
    simp only
    rw [h x (by simp [Op.operands])]
theorem opv_looks {o : Oper} {g g' : Nat → Value} (h : ∀ t ∈ o.looksAt ops, g t = g' t) : ∀ x ∈ o.op.operands, opv g x = opv g' x := fun x hx => by
  cases x with
  | tmp t => exact h t (List.mem_append_left _ (List.mem_filterMap.2 ⟨.tmp t, by simpa using hx, rfl⟩))
  | _ => rfl
theorem wanted_g {o : Oper} {g g' : Nat → Value} (h : ∀ t ∈ o.looksAt ops, boolOf (g t) = boolOf (g' t)) : Region.wanted o (yieldedG ops g) = Region.wanted o (yieldedG ops g') := by
  unfold Region.wanted
  cases hg : o.guard with
  | none => rfl
  | some q =>
    obtain ⟨j, b⟩ := q
    have : yieldedG ops g j = yieldedG ops g' j := by
      unfold yieldedG
      cases hj : ops[j]? with
      | none => rfl
      | some oj =>
        cases hd : oj.dst with
        | none => simp [hd]
        | some d => simp only [hd]; exact h d (List.mem_append_right _ (by simp [hg, hj, hd]))
    simp only [this]
theorem eCw_congr {o : Oper} {g g' : Nat → Value} (h : ∀ t ∈ o.looksAt ops, g t = g' t) : eCw P ops o g = eCw P ops o g' := by
  unfold eCw
  rw [wanted_g fun t ht => by rw [h t ht], eC_congr (opv_looks h)]
theorem yieldedG_yielded (tmps : Array Value) : yieldedG ops (tm tmps) = yielded ops tmps := by
  funext j
  unfold yieldedG yielded
  cases ops[j]? with
  | none => rfl
  | some o =>
    cases hd : o.dst with
    | none => simp [hd]
    | some d =>
      simp only [hd, Option.bind_some, tm]
      rw [Array.getD_eq_getD_getElem?]
      cases ht : tmps[d]? with
      | none => rfl
      | some v => cases v <;> rfl
/-- What has come of an operation that came up ahead of time. -/
def Came (P : Program) (c : EC) (w : World) (v : Value) (w' : World) : Prop := match c with
  | (none, f) => (∀ a, f a = v) ∧ w' = w
  | (some (cs, t, κ), f) => v = f ⟨w.heap.size, 0, none⟩ ∧ w' = w.alloc (.cells cs.toArray t) ∧ ∃ sz, (P.info? t).map (·.size) = some sz ∧ cs.length = κ * sz
theorem eC_run {o : Oper} {a : Act} {c : EC} (h : eC P o (tm a.tmps) = some c) (w : World) : ∃ v w', (execOp a.eval o).run P w = .ok (.value v) w' ∧ Came P c w v w' := by
  have hev : (fun x => a.eval x) = opv (tm a.tmps) := funext (eval_opv a)
  unfold eC at h
  cases ho : o.op <;> simp only [ho] at h <;> try (cases h; done)
  case alloc t =>
    split at h
    · rename_i i hi
      split at h
      · rename_i z hz
        cases hc : (z.cells.toList.all (gr 6) && Nat.beq z.cells.size i.size) with
        | false => rw [hc] at h; cases h
        | true =>
          simp only [hc, cond_true, Option.some.injEq] at h
          subst h
          simp only [Bool.and_eq_true] at hc
          have h3 := Nat.eq_of_beq_eq_true hc.2
          refine ⟨_, _, ?_, rfl, rfl, i.size, by rw [hi]; rfl, by rw [Array.length_toList]; omega⟩
          simp only [execOp, ho, Instr.alloc, zeroValue, typeInfo, Sem.run_bind, run_program, Result.andThen_ok, hi, Sem.run_pure, hz, newVar, newRow, run_newObj, Array.toArray_toList]
          rfl
      · cases h
    · cases h
  case buildSlice t len ps =>
    split at h
    · rename_i el hu
      split at h
      · rename_i i hi
        split at h
        · rename_i z hz
          cases hc : (z.cells.toList.all (gr 6) && Nat.ble (len * i.size) 65536 && (Nat.blt 0 i.size) && Nat.beq z.cells.size i.size) with
          | false => rw [hc] at h; cases h
          | true =>
            simp only [hc, cond_true] at h
            simp only [Bool.and_eq_true, Nat.blt_eq] at hc
            obtain ⟨⟨⟨h2, h3⟩, h4⟩, h5⟩ := hc
            have h3 := Nat.le_of_ble_eq_true h3
            rw [madeC_eq (by have := Nat.eq_of_beq_eq_true h5; omega)] at h
            split at h
            · rename_i cells hf
              simp only [Option.some.injEq] at h
              subst h
              have hsz : cells.size = len * i.size := by rw [fill_size _ _ _ _ hf, size_madeCells]
              refine ⟨_, _, ?_, rfl, rfl, i.size, by rw [hi]; rfl, by rw [Array.length_toList, hsz]⟩
              have fin : ∀ zz : Array Value, (madeCells z.cells (len * i.size)) = ((Array.range (len * i.size)).map (zz[· % zz.size]!)) →
                  Instr.fill (fun k => some (k * i.size, i.size)) ((Array.range (len * i.size)).map (zz[· % zz.size]!)) (ps.toList.map fun p => (p.1, a.eval p.2)) = some cells := fun zz hz' => by rw [← hz', ← hf]; simp only [eval_opv]
              have e3 : (ps.map fun p => (p.1, a.eval p.2)).toList = ps.toList.map fun p => (p.1, a.eval p.2) := by simp
              simp only [execOp, ho]
              unfold Instr.buildSlice
              simp only [Sem.run_bind, run_underlying hu w, Result.andThen_ok, sizeOf, typeInfo, run_program, hi, Sem.run_pure]
              rw [if_neg (show ¬ len * i.size > 2 ^ 24 by omega)]
              by_cases h0 : len * i.size = 0
              · have := fin #[] (by rw [h0]; simp [madeCells])
                rw [if_pos h0]
                simp only [Sem.run_bind, Sem.run_pure, Result.andThen_ok, e3, this, newRow, run_newObj, Array.toArray_toList]
                rfl
              · have := fin z.cells rfl
                rw [if_neg h0]
                simp only [Sem.run_bind, zeroValue, typeInfo, run_program, Result.andThen_ok, hi, hz, Sem.run_pure, e3, this, newRow, run_newObj, Array.toArray_toList]
                rfl
            · cases h
        · cases h
      · cases h
    · cases h
  case makeSlice t l c0 =>
    split at h
    · rename_i el ln cn hu hln hcn
      obtain ⟨k1, e1⟩ := natV_eq hln
      obtain ⟨k2, e2⟩ := natV_eq hcn
      split at h
      · rename_i i hi
        split at h
        · rename_i z hz
          cases hc : (z.cells.toList.all (gr 6) && Nat.ble ln cn && Nat.ble cn 65536 && Nat.ble i.bytes 65536 && Nat.blt 0 i.size && Nat.beq z.cells.size i.size) with
          | false => rw [hc] at h; cases h
          | true =>
            have hc0 := hc
            simp only [Bool.and_eq_true, Nat.blt_eq] at hc0
            rw [madeC_eq (by have := Nat.eq_of_beq_eq_true hc0.2; omega)] at h
            simp only [hc, cond_true, Option.some.injEq] at h
            subst h
            simp only [Bool.and_eq_true, Nat.blt_eq] at hc
            obtain ⟨⟨⟨⟨⟨h2, h3⟩, h4⟩, h5⟩, h6⟩, h7⟩ := hc
            have h3 := Nat.le_of_ble_eq_true h3
            have h4 := Nat.le_of_ble_eq_true h4
            have h5 := Nat.le_of_ble_eq_true h5
            have hb : (i.bytes : Int) * (cn : Int) ≤ 281474976710656 := by
              have h8 : i.bytes * cn ≤ 65536 * 65536 := Nat.mul_le_mul h5 h4
              have h9 : ((i.bytes * cn : Nat) : Int) ≤ ((65536 * 65536 : Nat) : Int) := Int.ofNat_le.2 h8
              rw [Int.natCast_mul] at h9
              omega
            have hrun := run_make (P := P) w t el i z hu hi hz k1 k2 ln cn (by omega) (by omega) hb (by omega)
            simp only [Int.toNat_natCast] at hrun
            refine ⟨_, _, ?_, rfl, rfl, i.size, by rw [hi]; rfl, by rw [Array.length_toList, size_madeCells]⟩
            simp only [execOp, ho, eval_opv, e1, e2, Sem.run_bind, hrun, Result.andThen_ok, Sem.run_pure, Array.toArray_toList]
        · cases h
      · cases h
    · cases h
  case build t ps =>
    split at h
    · rename_i v hv
      simp only [Option.some.injEq] at h
      subst h
      refine ⟨v, w, ?_, fun _ => rfl, rfl⟩
      unfold sBuild at hv
      split at hv
      · rename_i i hi
        split at hv
        · rename_i z hz
          cases hg : z.cells.toList.all (gr 6) with
          | false => simp [hg] at hv
          | true =>
            simp only [hg, cond_true] at hv
            split at hv
            · rename_i r hr
              cases hv
              have e3 : (ps.map fun p => (p.1, a.eval p.2)).toList = ps.toList.map fun p => (p.1, opv (tm a.tmps) p.2) := by simp [eval_opv]
              have := run_build w t (ps.map fun p => (p.1, a.eval p.2)) r (by rw [e3]; exact hr)
              simp only [execOp, ho, Sem.run_bind, this, Result.andThen_ok, Sem.run_pure]
            · cases hv
        · cases hv
      · cases hv
    · cases h
  case move x =>
    simp only [Option.some.injEq] at h
    subst h
    exact ⟨_, w, by simp [execOp, ho, eval_opv], fun _ => rfl, rfl⟩
/-- How a value looks: how many cells it has; which number, or which truth value it is. -/
structure Shp (v v' : Value) : Prop where
  n : v.cells.size = v'.cells.size
  i : ∀ k m, v = .int k m → v' = .int k m
  b : boolOf v = boolOf v'
theorem Rel.shp {v v' : Value} (h : Rel μ v v') : Shp v v' := ⟨(arr_size (cells_rel h)).symm, fun k m e => by subst e; exact h.eq rfl, boolOf_rel h⟩
theorem Shp.refl (v : Value) : Shp v v := ⟨rfl, fun _ _ e => e, rfl⟩
theorem fill_shp (place : Nat → Option (Nat × Nat)) {g g' : Nat → Value} : ∀ {l : List (Nat × Operand)}, (∀ x ∈ l, Shp (opv g x.2) (opv g' x.2)) → ∀ {c c' r : Array Value}, c.size = c'.size → Instr.fill place c (l.map fun p => (p.1, opv g p.2)) = some r → ∃ r', Instr.fill place c' (l.map fun p => (p.1, opv g' p.2)) = some r' ∧ r.size = r'.size
  | [], _, c, c', r, hc, h => by
    simp only [List.map_nil, Instr.fill, Option.some.injEq] at h
    subst h
    exact ⟨c', rfl, hc⟩
  | x :: l, hs, c, c', r, hc, h => by
    have h1 := (hs x (by simp)).n
    simp only [List.map_cons, Instr.fill] at h ⊢
    cases hp : place x.1 with
    | none => simp [hp] at h
    | some p =>
      simp only [hp] at h ⊢
      split at h
      · cases h
      · rename_i hn
        rw [if_neg (by rw [← h1, ← hc]; exact hn)]
        refine fill_shp place (fun y hy => hs y (by simp [hy])) ?_ h
        have : ∀ (l : List (Value × Nat)) (c : Array Value), (l.foldl (fun (cs : Array Value) x => cs.setIfInBounds (p.1 + x.2) x.1) c).size = c.size := fun l => by
          induction l with
          | nil => intro c; rfl
          | cons x l ih => intro c; rw [List.foldl_cons, ih]; simp
        rw [← Array.foldl_toList, ← Array.foldl_toList]
        exact ((this _ _).trans hc).trans (this _ _).symm
theorem slice_shp (a a' : Addr) (n c : Nat) : Shp (.slice (some a) n c) (.slice (some a') n c) := ⟨rfl, (fun _ _ e => by cases e), rfl⟩
theorem ptr_shp (a a' : Addr) : Shp (.pointer (some a)) (.pointer (some a')) := ⟨rfl, (fun _ _ e => by cases e), rfl⟩
theorem eC_shp {o : Oper} {g g' : Nat → Value} (hs : ∀ x ∈ o.op.operands, Shp (opv g x) (opv g' x)) {c : EC} (h : eC P o g = some c) : ∃ c', eC P o g' = some c' ∧ ∀ a a', Shp (c.2 a) (c'.2 a') := by
  unfold eC at h ⊢
  cases ho : o.op <;> simp only [ho] at h ⊢ <;> try (cases h; done)
  case alloc t =>
    split at h
    · rename_i i hi
      split at h
      · rename_i z hz
        cases hc : (z.cells.toList.all (gr 6) && Nat.beq z.cells.size i.size) with
        | false => rw [hc] at h; cases h
        | true =>
          simp only [hc, cond_true, Option.some.injEq] at h ⊢
          subst h
          exact ⟨_, rfl, fun a a' => ptr_shp a a'⟩
      · cases h
    · cases h
  case buildSlice t len ps =>
    rw [ho] at hs
    split at h
    · rename_i el hu
      split at h
      · rename_i i hi
        split at h
        · rename_i z hz
          cases hc : (z.cells.toList.all (gr 6) && Nat.ble (len * i.size) 65536 && (Nat.blt 0 i.size) && Nat.beq z.cells.size i.size) with
          | false => rw [hc] at h; cases h
          | true =>
            simp only [hc, cond_true] at h ⊢
            split at h
            · rename_i cells hf
              simp only [Option.some.injEq] at h
              subst h
              obtain ⟨r', h1, _⟩ := fill_shp _ (g' := g') (fun x hx => hs x.2 (by simp only [Op.operands, List.mem_toArray, List.mem_map]; exact ⟨x, by simpa using hx, rfl⟩)) rfl hf
              rw [h1]
              exact ⟨_, rfl, fun a a' => slice_shp a a' _ _⟩
            · cases h
        · cases h
      · cases h
    · cases h
  case makeSlice t l c0 =>
    rw [ho] at hs
    split at h
    · rename_i el ln cn hu hln hcn
      obtain ⟨k1, e1⟩ := natV_eq hln
      obtain ⟨k2, e2⟩ := natV_eq hcn
      rw [(hs l (by simp [Op.operands])).i _ _ e1, (hs c0 (by simp [Op.operands])).i _ _ e2]
      simp only [natV]
      split at h
      · rename_i i hi
        split at h
        · rename_i z hz
          cases hc : (z.cells.toList.all (gr 6) && Nat.ble ln cn && Nat.ble cn 65536 && Nat.ble i.bytes 65536 && Nat.blt 0 i.size && Nat.beq z.cells.size i.size) with
          | false => rw [hc] at h; cases h
          | true =>
            simp only [hc, cond_true, Option.some.injEq] at h
            subst h
            simp only [hu, hi, hz, hc, cond_true]
            exact ⟨_, rfl, fun a a' => slice_shp a a' _ _⟩
        · cases h
      · cases h
    · cases h
  case build t ps =>
    rw [ho] at hs
    split at h
    · rename_i v hv
      simp only [Option.some.injEq] at h
      subst h
      have hps : ∀ x ∈ ps.toList, Shp (opv g x.2) (opv g' x.2) := fun x hx => hs x.2 (by simp only [Op.operands, List.mem_toArray, List.mem_map]; exact ⟨x, by simpa using hx, rfl⟩)
      have key : ∃ v', sBuild P t (ps.toList.map fun p => (p.1, opv g' p.2)) = some v' ∧ Shp v v' := by
        unfold sBuild at hv ⊢
        split at hv
        · rename_i i hi
          split at hv
          · rename_i z hz
            cases hg : z.cells.toList.all (gr 6) with
            | false => simp [hg] at hv
            | true =>
              simp only [hg, cond_true] at hv ⊢
              split at hv
              · rename_i r hr
                cases hv
                have : ∃ r', P.built t (ps.toList.map fun p => (p.1, opv g' p.2)) = some r' ∧ r.size = r'.size := by
                  unfold Program.built at hr ⊢
                  cases hu : P.underlying t with
                  | none => simp [hi, hu] at hr
                  | some d =>
                    cases d <;> try (simp [hi, hu] at hr; done)
                    case array n e =>
                      cases he : P.info? e with
                      | none => simp [hi, hu, hz, he] at hr
                      | some ie =>
                        simp only [hi, hu, hz, he] at hr ⊢
                        exact fill_shp _ hps rfl hr
                    case struct fs =>
                      cases hpl : fs.toList.mapM (fun f => (P.info? f.type).map fun i => (f.offset, i.size)) with
                      | none => simp [hi, hu, hz, hpl] at hr
                      | some places =>
                        simp only [hi, hu, hz, hpl] at hr ⊢
                        exact fill_shp _ hps rfl hr
                obtain ⟨r', h1, h2⟩ := this
                rw [h1]
                exact ⟨_, rfl, h2, (fun _ _ e => by cases e), rfl⟩
              · cases hv
          · cases hv
        · cases hv
      obtain ⟨v', h1, h2⟩ := key
      rw [h1]
      exact ⟨_, rfl, fun _ _ => h2⟩
    · cases h
  case move x =>
    rw [ho] at hs
    simp only [Option.some.injEq] at h
    subst h
    exact ⟨_, rfl, fun _ _ => hs x (by simp [Op.operands])⟩
/-- What is made on the shadow stands for what is made in truth. -/
def CRel (μ : Mu) (c c' : EC) : Prop := match c.1, c'.1 with
  | none, none => ∀ a a', Rel μ (c.2 a) (c'.2 a')
  | some (cs, t, κ), some (cs', t', κ') => t = t' ∧ κ = κ' ∧ RelL μ cs cs' ∧ ∀ (ν : Mu) (n b : Nat), ν n = some (b, κ) → Rel ν (c.2 ⟨n, 0, some 0⟩) (c'.2 ⟨b, 0, none⟩)
  | _, _ => False
theorem eC_rel {o : Oper} {g g' : Nat → Value} (hs : ∀ x ∈ o.op.operands, Rel μ (opv g x) (opv g' x)) {c : EC} (h : eC P o g = some c) : ∃ c', eC P o g' = some c' ∧ CRel μ c c' := by
  unfold eC at h ⊢
  cases ho : o.op <;> simp only [ho] at h ⊢ <;> try (cases h; done)
  case alloc t =>
    split at h
    · rename_i i hi
      split at h
      · rename_i z hz
        cases hc : (z.cells.toList.all (gr 6) && Nat.beq z.cells.size i.size) with
        | false => rw [hc] at h; cases h
        | true =>
          simp only [hc, cond_true, Option.some.injEq] at h ⊢
          subst h
          rw [Bool.and_eq_true] at hc
          exact ⟨_, rfl, rfl, rfl, RelL.refl hc.1, fun ν n b hn => .ptr hn⟩
      · cases h
    · cases h
  case buildSlice t len ps =>
    rw [ho] at hs
    split at h
    · rename_i el hu
      split at h
      · rename_i i hi
        split at h
        · rename_i z hz
          cases hc : (z.cells.toList.all (gr 6) && Nat.ble (len * i.size) 65536 && (Nat.blt 0 i.size) && Nat.beq z.cells.size i.size) with
          | false => rw [hc] at h; cases h
          | true =>
            simp only [hc, cond_true] at h ⊢
            simp only [Bool.and_eq_true, Nat.blt_eq] at hc
            obtain ⟨⟨⟨h2, h3⟩, h4⟩, h5⟩ := hc
            have h5 := Nat.eq_of_beq_eq_true h5
            rw [madeC_eq (by omega)] at h ⊢
            split at h
            · rename_i cells hf
              simp only [Option.some.injEq] at h
              subst h
              have hpr : RelP μ (ps.toList.map fun p => (p.1, opv g p.2)) (ps.toList.map fun p => (p.1, opv g' p.2)) := parts_rel fun x hx => hs x.2 (by simp only [Op.operands, List.mem_toArray, List.mem_map]; exact ⟨x, by simpa using hx, rfl⟩)
              obtain ⟨r', hf', hr⟩ := fill_rel _ hpr (RelL.refl (μ := μ) (all_made (n := len * i.size) h2 (by omega))) hf
              rw [hf']
              exact ⟨_, rfl, rfl, rfl, hr, fun ν n b hn => .slice hn⟩
            · cases h
        · cases h
      · cases h
    · cases h
  case makeSlice t l c0 =>
    rw [ho] at hs
    split at h
    · rename_i el ln cn hu hln hcn
      obtain ⟨k1, e1, e1'⟩ := natV_rel hln (hs l (by simp [Op.operands]))
      obtain ⟨k2, e2, e2'⟩ := natV_rel hcn (hs c0 (by simp [Op.operands]))
      rw [e1', e2']
      simp only [natV]
      split at h
      · rename_i i hi
        split at h
        · rename_i z hz
          cases hc : (z.cells.toList.all (gr 6) && Nat.ble ln cn && Nat.ble cn 65536 && Nat.ble i.bytes 65536 && Nat.blt 0 i.size && Nat.beq z.cells.size i.size) with
          | false => rw [hc] at h; cases h
          | true =>
            simp only [hc, cond_true, Option.some.injEq] at h
            subst h
            have hc' := hc
            simp only [Bool.and_eq_true, Nat.blt_eq] at hc'
            obtain ⟨⟨⟨⟨⟨h2, h3⟩, h4⟩, h5⟩, h6⟩, h7⟩ := hc'
            have h7 := Nat.eq_of_beq_eq_true h7
            simp only [hu, hi, hz, hc, cond_true]
            rw [madeC_eq (by omega)]
            exact ⟨_, rfl, rfl, rfl, RelL.refl (all_made h2 (by omega)), fun ν n b hn => .slice hn⟩
        · cases h
      · cases h
    · cases h
  case build t ps =>
    rw [ho] at hs
    split at h
    · rename_i v hv
      simp only [Option.some.injEq] at h
      subst h
      have hpr : RelP μ (ps.toList.map fun p => (p.1, opv g p.2)) (ps.toList.map fun p => (p.1, opv g' p.2)) := parts_rel fun x hx => hs x.2 (by simp only [Op.operands, List.mem_toArray, List.mem_map]; exact ⟨x, by simpa using hx, rfl⟩)
      obtain ⟨v', h1, h2⟩ := sBuild_rel hv hpr
      rw [h1]
      exact ⟨_, rfl, fun _ _ => h2⟩
    · cases h
  case move x =>
    rw [ho] at hs
    simp only [Option.some.injEq] at h
    subst h
    exact ⟨_, rfl, fun _ _ => hs x (by simp [Op.operands])⟩
theorem opv_looks2 {R : Value → Value → Prop} (h0 : ∀ x : Operand, constOk x = true → (∀ t, x ≠ .tmp t) → ∀ g g' : Nat → Value, R (opv g x) (opv g' x)) {o : Oper} {g g' : Nat → Value} (hc : o.op.operands.toList.all constOk = true) (h : ∀ t ∈ o.looksAt ops, R (g t) (g' t)) : ∀ x ∈ o.op.operands, R (opv g x) (opv g' x) := fun x hx => by
  rw [List.all_eq_true] at hc
  have hx' := hc x (by simpa using hx)
  cases x with
  | tmp t => exact h t (List.mem_append_left _ (List.mem_filterMap.2 ⟨.tmp t, by simpa using hx, rfl⟩))
  | const v => exact h0 _ hx' (fun t e => by cases e) g g'
  | global v => exact h0 _ hx' (fun t e => by cases e) g g'
  | func v => exact h0 _ hx' (fun t e => by cases e) g g'
theorem eCw_rel {o : Oper} {g g' : Nat → Value} (hs : ∀ t ∈ o.looksAt ops, Rel μ (g t) (g' t)) {c : EC} (h : eCw P ops o g = some c) : ∃ c', eCw P ops o g' = some c' ∧ CRel μ c c' := by
  unfold eCw at h ⊢
  cases hc : o.op.operands.toList.all constOk with
  | false => rw [hc] at h; cases h
  | true =>
    rw [hc, cond_true] at h
    rw [cond_true, ← wanted_g (g := g) (g' := g') fun t ht => boolOf_rel (hs t ht)]
    cases hw : Region.wanted o (yieldedG ops g) with
    | true =>
      rw [hw, cond_true] at h
      exact eC_rel (opv_looks2 (fun x hx hn g g' => by cases x <;> first | exact (hn _ rfl).elim | exact .ground hx | exact .ground rfl) hc hs) h
    | false =>
      rw [hw, cond_false] at h
      simp only [Option.some.injEq] at h
      subst h
      exact ⟨_, rfl, fun _ _ => .ground rfl⟩
theorem eCw_shp {o : Oper} {g g' : Nat → Value} (hs : ∀ t ∈ o.looksAt ops, Shp (g t) (g' t)) {c : EC} (h : eCw P ops o g = some c) : ∃ c', eCw P ops o g' = some c' ∧ ∀ a a', Shp (c.2 a) (c'.2 a') := by
  unfold eCw at h ⊢
  cases hc : o.op.operands.toList.all constOk with
  | false => rw [hc] at h; cases h
  | true =>
    rw [hc, cond_true] at h
    rw [cond_true, ← wanted_g (g := g) (g' := g') fun t ht => (hs t ht).b]
    cases hw : Region.wanted o (yieldedG ops g) with
    | true =>
      rw [hw, cond_true] at h
      exact eC_shp (opv_looks2 (fun x hx hn g g' => by cases x <;> first | exact (hn _ rfl).elim | exact Shp.refl _) hc hs) h
    | false =>
      rw [hw, cond_false] at h
      simp only [Option.some.injEq] at h
      subst h
      exact ⟨_, rfl, fun _ _ => Shp.refl _⟩
end
end Go.Proofs.Ytpaabfecoghibaa

/- Regions that draw, on the shadow: what has come up, what is laid ahead of time, what waiting reads may find. Over any program. Conditions: as each law says. -/
namespace Go.Proofs.Ytpaabfecoghibaa
open Go Go.RowKit
set_option linter.unusedSimpArgs false
set_option linter.unusedVariables false
section
variable {ops : Array Oper}
theorem setAll_nil (l : Array Bool) : setAll l [] = l := rfl
theorem setAll_cons (l : Array Bool) (a : Nat) (A : List Nat) : setAll l (a :: A) = setAll (l.setIfInBounds a true) A := rfl
theorem set_comm' (l : Array Bool) (a b : Nat) : (l.setIfInBounds a true).setIfInBounds b true = (l.setIfInBounds b true).setIfInBounds a true := by
  by_cases h : a = b
  · subst h; rfl
  · exact Array.setIfInBounds_comm _ _ h
theorem setAll_set : ∀ (A : List Nat) (l : Array Bool) (i : Nat), setAll (l.setIfInBounds i true) A = (setAll l A).setIfInBounds i true
  | [], _, _ => rfl
  | a :: A, l, i => by
    rw [setAll_cons, setAll_cons, set_comm', setAll_set A]
theorem setAll_perm {A B : List Nat} (h : A.Perm B) : ∀ l, setAll l A = setAll l B := by
  induction h with
  | nil => intro l; rfl
  | cons x _ ih => intro l; rw [setAll_cons, setAll_cons, ih]
  | swap x y A => intro l; rw [setAll_cons, setAll_cons, setAll_cons, setAll_cons, set_comm']
  | trans _ _ h1 h2 => intro l; rw [h1, h2]
theorem set_true_iff (l : Array Bool) (i k : Nat) : ((l.setIfInBounds i true).getD k false = true) ↔ (l.getD k false = true ∨ (k = i ∧ k < l.size)) := by
  by_cases h : i = k
  · subst h
    by_cases hs : i < l.size <;> simp [Array.getD, hs]
  · rw [getD_set_ne false h]
    constructor
    · exact .inl
    · rintro (h' | ⟨h', _⟩)
      · exact h'
      · exact absurd h'.symm h
theorem setAll_size (A : List Nat) (l : Array Bool) : (setAll l A).size = l.size := by
  induction A generalizing l with
  | nil => rfl
  | cons a A ih => rw [setAll_cons, ih]; simp
theorem setAll_true : ∀ (A : List Nat) (l : Array Bool) (k : Nat), ((setAll l A).getD k false = true) ↔ (l.getD k false = true ∨ (k ∈ A ∧ k < l.size))
  | [], l, k => by simp [setAll_nil]
  | a :: A, l, k => by
    rw [setAll_cons, setAll_true A, set_true_iff, List.mem_cons]
    constructor
    · rintro ((h | ⟨rfl, h⟩) | ⟨h, h'⟩)
      · exact .inl h
      · exact .inr ⟨.inl rfl, h⟩
      · exact .inr ⟨.inr h, by simpa using h'⟩
    · rintro (h | ⟨rfl | h, h'⟩)
      · exact .inl (.inl h)
      · exact .inl (.inr ⟨rfl, h'⟩)
      · exact .inr ⟨h, by simpa using h'⟩
/-- Not listed: within the array, and false. -/
theorem unlisted_iff (l : Array Bool) (k : Nat) : l.getD k true = false ↔ (k < l.size ∧ l.getD k false = false) := by
  by_cases h : k < l.size <;> simp [Array.getD, h]
theorem setAll_unlisted {A : List Nat} {l : Array Bool} {k : Nat} : (setAll l A).getD k true = false ↔ (l.getD k true = false ∧ k ∉ A) := by
  rw [unlisted_iff, unlisted_iff, setAll_size, ← Bool.not_eq_true, ← Bool.not_eq_true, setAll_true]
  constructor
  · rintro ⟨h1, h2⟩
    exact ⟨⟨h1, fun h => h2 (.inl h)⟩, fun h => h2 (.inr ⟨h, h1⟩)⟩
  · rintro ⟨⟨h1, h2⟩, h3⟩
    refine ⟨h1, ?_⟩
    rintro (h | ⟨h, _⟩)
    · exact h2 h
    · exact h3 h
theorem setAll_mono {A B : List Nat} (h : ∀ x ∈ A, x ∈ B) {l : Array Bool} {k : Nat} (hk : (setAll l A).getD k false = true) : (setAll l B).getD k false = true := by
  rw [setAll_true] at *
  rcases hk with h' | ⟨h1, h2⟩
  · exact .inl h'
  · exact .inr ⟨h _ h1, h2⟩
/-- What may come up with some of these listed: what may with all of them, or one of the others. -/
theorem ready_le {A E : List Nat} (h : ∀ x ∈ E, x ∈ A) {l : Array Bool} {j : Nat} (hj : j ∈ Region.ready .any ops (setAll l E)) : j ∈ Region.ready .any ops (setAll l A) ∨ (j ∈ A ∧ j ∉ E) := by
  rw [mem_ready] at *
  obtain ⟨h0, o, ho, hall⟩ := hj
  rw [setAll_unlisted] at h0
  by_cases hA : j ∈ A
  · exact .inr ⟨hA, h0.2⟩
  · exact .inl ⟨setAll_unlisted.2 ⟨h0.1, hA⟩, o, ho, fun e he hb => setAll_mono h (hall e he hb)⟩
theorem ready_setAll {E : List Nat} {l : Array Bool} {j : Nat} (hj : j ∈ Region.ready .any ops l) (hE : j ∉ E) : j ∈ Region.ready .any ops (setAll l E) := by
  rw [mem_ready] at *
  obtain ⟨h0, o, ho, hall⟩ := hj
  exact ⟨setAll_unlisted.2 ⟨h0, hE⟩, o, ho, fun e he hb => (setAll_true E l _).2 (.inl (hall e he hb))⟩
end
/-- What is not to be touched, and what was laid ahead of time. -/
def limE (N : Lim) (E : List Nat) : Lim := ⟨N.n, E ++ N.x⟩
section
variable {P : Program} {N : Lim} {G : Gl} {μ : Mu} {h : SH} {w : World} {frz : List Nat}
theorem BlkOk.lim {N M : Lim} (hN : ∀ b, N.new b → b < w.heap.size → M.new b) {j : Nat} {sb : SB} (hb : BlkOk P N μ w j sb) : BlkOk P M μ w j sb := by
  cases sb with
  | row t cs f => obtain ⟨b, κ, cur, sz, h1, h2, h3, h4⟩ := hb; exact ⟨b, κ, cur, sz, h1, hN b h2 (Array.getElem?_eq_some_iff.1 h3).1, h3, h4⟩
  | map es s => obtain ⟨b, κ, ents, cl, h1, h2, h3, h4⟩ := hb; exact ⟨b, κ, ents, cl, h1, hN b h2 (Array.getElem?_eq_some_iff.1 h3).1, h3, h4⟩
  | iter m si se la => obtain ⟨b, κ, mb, κ', h1, h2, h3, h4⟩ := hb; exact ⟨b, κ, mb, κ', h1, hN b h2 (Array.getElem?_eq_some_iff.1 h4).1, h3, h4⟩
  | loop r ts => obtain ⟨b, κ, fn, ts', d, κ', h1, h2, h5, h3, h4⟩ := hb; exact ⟨b, κ, fn, ts', d, κ', h1, hN b h2 (Array.getElem?_eq_some_iff.1 h3).1, h5, h3, h4⟩
  | mark => obtain ⟨b, κ, h1, h2, h3⟩ := hb; exact ⟨b, κ, h1, hN b h2 (Array.getElem?_eq_some_iff.1 h3).1, h3⟩
/-- Less is not to be touched. -/
theorem Den.less {E : List Nat} {b : Nat} (d : Den P (limE N (b :: E)) G μ h w) (hGB : ∀ b, GB G b → b < N.n ∨ b ∈ N.x) : Den P (limE N E) G μ h w := by
  refine ⟨⟨d.base.1, fun k hk => d.base.2 k (by simp only [limE, List.cons_append, List.mem_cons] at hk ⊢; exact .inr hk)⟩, fun j sb hj => BlkOk.lim (N := limE N (b :: E)) (M := limE N E) (fun b' hb _ => ⟨hb.1, fun hm => hb.2 (by simp only [limE, List.cons_append, List.mem_cons] at hm ⊢; exact .inr hm)⟩) (d.blk j sb hj), d.old, d.muOld, d.apart, d.kin, d.famLt, d.kinOld, ⟨fun b hb => (hGB b hb).imp id (fun q => by simp only [limE, List.mem_append]; exact .inr q), d.glob.2⟩⟩
/-- A block that is laid ahead of time. -/
theorem Den.lay {E : List Nat} (d : Den P (limE N E) G μ h w) (o : Obj) : Den P (limE N (w.heap.size :: E)) G μ h (w.alloc o) := by
  have hold : ∀ k, k < w.heap.size → (w.alloc o).heap[k]? = w.heap[k]? := fun k hk => Below.heap_alloc w o k hk
  have hsz : (w.alloc o).heap.size = w.heap.size + 1 := by simp
  refine ⟨⟨by rw [hsz]; exact Nat.le_succ_of_le d.base.1, fun k hk => ?_⟩, fun j sb hj => ?_, d.old, d.muOld, d.apart, d.kin, d.famLt, d.kinOld, ?_⟩
  · simp only [limE, List.cons_append, List.mem_cons] at hk
    rw [hsz]
    rcases hk with rfl | hk
    · omega
    · exact Nat.lt_succ_of_lt (d.base.2 k hk)
  · have hk := d.blk j sb hj
    obtain ⟨b', κ', h1, _, h3⟩ := hk.at
    have hb : BlkOk P (limE N (w.heap.size :: E)) μ w j sb := BlkOk.lim (N := limE N E) (M := limE N (w.heap.size :: E)) (fun b hb hlt => ⟨hb.1, fun hm => by
      simp only [limE, List.cons_append, List.mem_cons] at hm
      rcases hm with rfl | hm
      · exact Nat.lt_irrefl _ hlt
      · exact hb.2 hm⟩) hk
    exact hb.keep (Mu.le_refl _) fun b κ'' hb' => hold b (by rw [h1] at hb'; cases hb'; exact h3)
  · exact ⟨fun b hb => (d.glob.1 b hb).imp id (fun q => by simp only [limE, List.cons_append, List.mem_cons] at q ⊢; exact .inr q), d.glob.2.keep fun b1 hb1 => hold _ (d.globLt hb1)⟩
/-- A block that was laid ahead of time comes up on the shadow. -/
theorem Den.adopt {E : List Nat} {b : Nat} (d : Den P (limE N (b :: E)) G μ h w) (hGB : ∀ b, GB G b → b < N.n ∨ b ∈ N.x) (hnd : b ∉ E) (hx : b ∉ N.x) (hn : N.n ≤ b) {t : TypeId} {cur : Array Value} {sz : Nat} (hh : w.heap[b]? = some (.cells cur t (0, 0)))
    (hsz : (P.info? t).map (·.size) = some sz) {κ : Nat} (hcur : cur.size = κ * sz) {cs : List Value} (hg : RelL μ cs cur.toList) :
    μ.le (μ.add h.next b κ) ∧ Den P (limE N E) G (μ.add h.next b κ) (h.push (.row t cs h.next)) w := by
  have hnone := d.muOld h.next (Nat.le_refl _)
  have hle : μ.le (μ.add h.next b κ) := Mu.le_add hnone
  have hnew : (limE N E).new b := ⟨hn, fun hm => by
    simp only [limE, List.mem_append] at hm
    rcases hm with hm | hm
    · exact hnd hm
    · exact hx hm⟩
  have dl := d.less hGB
  have hb : BlkOk P (limE N E) (μ.add h.next b κ) w h.next (.row t cs h.next) :=
    ⟨b, κ, cur, sz, Mu.add_same, hnew, hh, hsz, hcur, by have := hg.length; simp only [Array.length_toList] at this; omega, by
      have hl := hg.length
      rw [← hl, List.take_of_length_le (Nat.le_refl _)]; exact hg.mono hle⟩
  have hnot : ∀ k sk b' κ', h.tr.get k = some sk → μ k = some (b', κ') → b' ≠ b := fun k sk b' κ' hk hm e => by
    obtain ⟨b0, κ0, h1, h2, h3⟩ := (d.blk k sk hk).at
    rw [hm] at h1; cases h1
    exact h2.2 (by simp [limE, e])
  refine ⟨hle, dl.base, ?_, ?_, ?_, ?_, ?_, ?_, ?_, dl.glob⟩
  · intro j sb' hj
    simp only [SH.push_eq, Tr.get_set] at hj
    split at hj
    · rename_i e; subst e; cases hj; exact hb
    · exact (dl.blk j sb' hj).keep hle fun _ _ _ => rfl
  · intro j hj
    simp only [SH.push_eq] at hj ⊢
    rw [Tr.get_set, if_neg (by omega)]
    exact d.old j (by omega)
  · intro j hj
    simp only [SH.push_eq] at hj
    simp only [Mu.add, if_neg (show ¬ j = h.next by omega)]
    exact d.muOld j (by omega)
  · intro i j si sj b1 κ₁ κ₂ hi hj hne hmi hmj
    simp only [SH.push_eq, Tr.get_set] at hi hj
    have key : ∀ k sk b' κ', h.tr.get k = some sk → k ≠ h.next → (μ.add h.next b κ) k = some (b', κ') → μ k = some (b', κ') := fun k sk b' κ' hk hkn hm => by
      simpa only [Mu.add, if_neg hkn] using hm
    by_cases ei : i = h.next <;> by_cases ej : j = h.next
    · subst ei; subst ej
      rw [if_pos rfl] at hi hj
      cases hi; cases hj
      exact hne rfl
    · rw [if_neg ej] at hj
      have := hnot j sj _ _ hj (key j sj b1 κ₂ hj ej hmj)
      rw [ei, Mu.add_same] at hmi
      cases hmi
      exact this rfl
    · rw [if_neg ei] at hi
      have := hnot i si _ _ hi (key i si b1 κ₁ hi ei hmi)
      rw [ej, Mu.add_same] at hmj
      cases hmj
      exact this rfl
    · rw [if_neg ei] at hi
      rw [if_neg ej] at hj
      exact d.apart i j si sj b1 κ₁ κ₂ hi hj hne (key i si b1 κ₁ hi ei hmi) (key j sj b1 κ₂ hj ej hmj)
  · intro j t cs f hj
    simp only [SH.push_eq, Tr.get_set] at hj
    split at hj
    · rename_i e; subst e; cases hj
      show h.next ∈ kinOf _ h.next
      simp [kinOf, SH.push_eq, d.kinOld h.next (Nat.le_refl _)]
    · exact d.kin j t cs f hj
  · intro j t cs f hj
    simp only [SH.push_eq, Tr.get_set] at hj ⊢
    split at hj
    · rename_i e; subst e; cases hj; omega
    · exact Nat.lt_succ_of_lt (d.famLt j t cs f hj)
  · intro f hfl
    exact d.kinOld f (by simp only [SH.push_eq] at hfl; omega)
end
end Go.Proofs.Ytpaabfecoghibaa
