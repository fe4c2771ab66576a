/- Code reckoned on the shadow is right: each operation, regions whose order stands. Over any program. Conditions: as each law says. -/
import Derived.Test.YtgkfllgmjnndhaaXN
namespace Go.Proofs.Ytgkfllgmjnndhaa
open Go Go.RowKit
section
variable {P : Program} {N : Lim} {G : Gl} {μ : Mu} {h : SH} {w : World} {frz : List Nat}
theorem Made.next {s : Sem Value} {v : Value} {h1 : SH} (m : Made P N G μ frz w s v h1) : ∃ μ' v' w', (do pure (Next.value (← s)) : Sem Next).run P w = .ok (.value v') w' ∧ Post P N G μ frz w h1 μ' w' ∧ Rel μ' v v' := by
  obtain ⟨μ', v', w', h1, h2, h3, h4, h5, h6⟩ := m
  exact ⟨μ', v', w', by simp only [Sem.run_bind, h1, Result.andThen_ok, Sem.run_pure], ⟨h2, h3, h5, h6⟩, h4⟩
theorem MadeN.next {s : Sem Value} {v : Value} {h1 : SH} (m : MadeN P N G μ frz w s v h1) : ∃ μ' v' w', (do pure (Next.value (← s)) : Sem Next).run P w = .ok (.value v') w' ∧ Post P N G μ frz w h1 μ' w' ∧ Rel μ' v v' ∧ ∀ k, k < w.heap.size → w'.heap[k]? = w.heap[k]? := by
  obtain ⟨μ', v', w', h1, h2, h3, h4, h5, h6, h7⟩ := m
  exact ⟨μ', v', w', by simp only [Sem.run_bind, h1, Result.andThen_ok, Sem.run_pure], ⟨h2, h3, h5, h6⟩, h4, h7⟩
theorem Done.next {s : Sem Unit} {h1 : SH} (m : Done P N G μ frz w s h1) : ∃ w', (do s; pure Next.skip : Sem Next).run P w = .ok .skip w' ∧ Post P N G μ frz w h1 μ w' := by
  obtain ⟨w', h1, h2, h3, h4⟩ := m
  exact ⟨w', by simp only [Sem.run_bind, h1, Result.andThen_ok, Sem.run_pure], ⟨Mu.le_refl _, h2, h3, h4⟩⟩
/-- A call without arguments comes to this value, in each world. -/
def NullR (P : Program) (g : FuncId) (v : Value) : Prop :=
  gr 6 v = true ∧ (∀ (args' : Array Value) (W : World), (callFunc g args').run P W = .ok (.enter g args') W) ∧ ∀ w, CallsIn Fence.wide 0 P g #[] w fun e w' => e = .returned v ∧ Below w.heap.size w w'
class OrcOk (P : Program) [Orc] : Prop where
  ok : ∀ x ∈ Orc.t, NullR P x.1 x.2
theorem Den.below {w' : World} (d : Den P N G μ h w) (hb : Below w.heap.size w w') : Den P N G μ h w' :=
  ⟨⟨Nat.le_trans d.base.1 hb.size, fun k hk => Nat.lt_of_lt_of_le (d.base.2 k hk) hb.size⟩, fun j sb hj => (d.blk j sb hj).keep (Mu.le_refl _) fun b κ hm => by
    obtain ⟨b', κ', h1, _, h3⟩ := (d.blk j sb hj).at
    rw [hm] at h1; cases h1
    exact hb.block _ h3, d.old, d.muOld, d.apart, d.kin, d.famLt, d.kinOld, fun x hx => by
    obtain ⟨h1, fr, h2⟩ := d.glob x hx
    exact ⟨h1, fr, (hb.block _ (Nat.lt_of_lt_of_le h1 d.base.1)).trans h2⟩⟩
theorem NullR.call {g : FuncId} {v : Value} (n : NullR P g v) (hl : frzLive h frz = true ∨ frz = []) (h0 : SH) (e0 : h0 = h) : CallR P G frz g [] h0 v h0 := by
  subst e0
  obtain ⟨hg, hent, hc⟩ := n
  refine ⟨hent, fun N μ w args' d ha => ?_⟩
  obtain rfl : args' = #[] := by
    have := ha.length
    simp only [Array.length_toList, List.length_nil] at this
    exact Array.eq_empty_of_size_eq_zero this
  refine (hc w).mono ?_
  rintro e w' ⟨rfl, hb⟩
  refine ⟨μ, v, rfl, ⟨Mu.le_refl _, d.below hb, ⟨⟨hb.os, hb.tape, hb.output, hb.size, fun k hk => hb.block k (Nat.lt_of_lt_of_le hk d.base.1)⟩, fun k hk => hb.block k (d.base.2 k hk)⟩, fun k hk b κ hm => ?_⟩, .ground hg⟩
  rcases hl with hl | rfl
  · exact hb.block b (frz_live d hl k hk b κ hm)
  · cases hk
/-- An operation that leaves what was there as it is. -/
def calmB (o : Oper) : Bool := makerB o || quietB o
/-- What is done by steps that yield a value, or none. -/
def Steps1 (P : Program) (N : Lim) (G : Gl) (μ : Mu) (frz : List Nat) (w : World) (ts' : Fr) (h' : SH) (o : Oper) (a : Act) (ts : Fr) (ro' : Option Nat) : Prop :=
  ∀ (K : Act → World → Prop) (Q : Exit → Act → World → Prop), (∀ μ' a' w', Post P N G μ frz w h' μ' w' → RelF μ' ts' a'.tmps → (∃ v', a' = a.put o.dst v') → (calmB o = true → ∀ k, k < w.heap.size → w'.heap[k]? = w.heap[k]?) → K a' w') → o.uponIn (FR ro') 0 P a K Q ((execOp a.eval o).run P w)
theorem steps_value {o : Oper} {a : Act} {ts ts' : Fr} {h' h1 : SH} {v : Value} {ro' : Option Nat} (hts : RelF μ ts a.tmps) (e : fin o ts (some (v, h1)) = some (ts', h'))
    (m : ∃ μ' v' w', (execOp a.eval o).run P w = .ok (.value v') w' ∧ Post P N G μ frz w h1 μ' w' ∧ Rel μ' v v') (hm : calmB o = false) : Steps1 P N G μ frz w ts' h' o a ts ro' := by
  intro K Q k
  obtain ⟨μ', v', w', h1, h2, h3⟩ := m
  simp only [fin, Option.some.injEq, Prod.mk.injEq] at e
  obtain ⟨rfl, rfl⟩ := e
  rw [h1, Oper.uponIn_value]
  exact k μ' _ w' h2 (put_rel (hts.mono h2.le) h3 _) ⟨_, rfl⟩ (fun h => by rw [hm] at h; cases h)
theorem steps_made {o : Oper} {a : Act} {ts ts' : Fr} {h' h1 : SH} {v : Value} {ro' : Option Nat} (hts : RelF μ ts a.tmps) (e : fin o ts (some (v, h1)) = some (ts', h'))
    (m : ∃ μ' v' w', (execOp a.eval o).run P w = .ok (.value v') w' ∧ Post P N G μ frz w h1 μ' w' ∧ Rel μ' v v' ∧ ∀ k, k < w.heap.size → w'.heap[k]? = w.heap[k]?) : Steps1 P N G μ frz w ts' h' o a ts ro' := by
  intro K Q k
  obtain ⟨μ', v', w', h1, h2, h3, h4⟩ := m
  simp only [fin, Option.some.injEq, Prod.mk.injEq] at e
  obtain ⟨rfl, rfl⟩ := e
  rw [h1, Oper.uponIn_value]
  exact k μ' _ w' h2 (put_rel (hts.mono h2.le) h3 _) ⟨_, rfl⟩ (fun _ => h4)
theorem steps_skip {o : Oper} {a : Act} {ts ts' : Fr} {h' h1 : SH} {ro' : Option Nat} (hts : RelF μ ts a.tmps) (e : fin0 o ts (some h1) = some (ts', h'))
    (m : ∃ w', (execOp a.eval o).run P w = .ok .skip w' ∧ Post P N G μ frz w h1 μ w') (hm : calmB o = false) : Steps1 P N G μ frz w ts' h' o a ts ro' := by
  intro K Q k
  obtain ⟨w', h1, h2⟩ := m
  simp only [fin0, Option.some.injEq, Prod.mk.injEq] at e
  obtain ⟨rfl, rfl⟩ := e
  rw [h1, Oper.uponIn_skip]
  exact k μ _ w' h2 (put_rel hts (.ground rfl) _) ⟨_, rfl⟩ (fun h => by rw [hm] at h; cases h)
theorem steps_enter {o : Oper} {a : Act} {ts ts' : Fr} {h' h1 : SH} {v : Value} {ro' : Option Nat} {g : FuncId} {args' : Array Value} (hts : RelF μ ts a.tmps) (e : fin o ts (some (v, h1)) = some (ts', h'))
    (hr : (execOp a.eval o).run P w = .ok (.enter g args') w) (hc : CallsIn Fence.wide 0 P g args' w (CallP P N G μ frz w h1 v)) (hm : calmB o = false) : Steps1 P N G μ frz w ts' h' o a ts ro' := by
  intro K Q k
  simp only [fin, Option.some.injEq, Prod.mk.injEq] at e
  obtain ⟨rfl, rfl⟩ := e
  rw [hr, Oper.uponIn_enter]
  refine ⟨FR_lone, FR_calls (CallsIn.mono hc ?_)⟩
  rintro e w'' ⟨μ', v', rfl, h2, h3⟩
  exact k μ' _ w'' h2 (put_rel (hts.mono h2.le) h3 _) ⟨_, rfl⟩ (fun h => by rw [hm] at h; cases h)
theorem steps_round {o : Oper} {a : Act} {ts ts' : Fr} {h' h1 : SH} {v : Value} {ro' : Option Nat} {b : Nat} {f : FuncId} {tmps : Array Value} {assign body : Code} (hts : RelF μ ts a.tmps) (e : fin o ts (some (v, h1)) = some (ts', h'))
    (hr : (execOp a.eval o).run P w = .ok (.round b f tmps assign body) w) (hc : RoundIn (FR ro') 0 P b f tmps assign body w (CallP P N G μ frz w h1 v)) (hm : calmB o = false) : Steps1 P N G μ frz w ts' h' o a ts ro' := by
  intro K Q k
  simp only [fin, Option.some.injEq, Prod.mk.injEq] at e
  obtain ⟨rfl, rfl⟩ := e
  rw [hr, Oper.uponIn_round]
  refine ⟨FR_lone, RoundIn.mono hc ?_⟩
  rintro e w'' ⟨μ', v', rfl, h2, h3⟩
  exact k μ' _ w'' h2 (put_rel (hts.mono h2.le) h3 _) ⟨_, rfl⟩ (fun h => by rw [hm] at h; cases h)
theorem fin_some {o : Oper} {ts ts' : Fr} {r : Option (Value × SH)} {h' : SH} (e : fin o ts r = some (ts', h')) : ∃ v h1, r = some (v, h1) ∧ fin o ts (some (v, h1)) = some (ts', h') := by
  cases r with
  | none => cases e
  | some x => exact ⟨x.1, x.2, rfl, e⟩
theorem fin0_some {o : Oper} {ts ts' : Fr} {r : Option SH} {h' : SH} (e : fin0 o ts r = some (ts', h')) : ∃ h1, r = some h1 ∧ fin0 o ts (some h1) = some (ts', h') := by
  cases r with
  | none => cases e
  | some x => exact ⟨x, rfl, e⟩
theorem args_rel {ts : Fr} {a : Act} {l : List Operand} (hr : ∀ x ∈ l, Rel μ (opnd ts x) (a.eval x)) : RelL μ (l.map (opnd ts)) (l.map a.eval) := by
  induction l with
  | nil => exact .nil
  | cons x l ih => exact .cons (hr x (by simp)) (ih fun y hy => hr y (by simp [hy]))
theorem steps_pure (hG : G.all (fun x => x.2.1.toList.all (gr 6)) = true) (d : Den P N G μ h w) {o : Oper} {a : Act} {ts ts' : Fr} {h' : SH} {ro' : Option Nat} (hts : RelF μ ts a.tmps) (hr : ∀ x ∈ o.op.operands, Rel μ (opnd ts x) (a.eval x))
    (e : (match pureOp P G h.tr.get (opnd ts) o with
      | some v => some (putS ts o.dst v, h)
      | none => none) = some (ts', h')) : Steps1 P N G μ frz w ts' h' o a ts ro' := by
  split at e
  · rename_i v hv
    cases e
    obtain ⟨v', h1, h2⟩ := pureOp_ok hG ⟨d.blk, fun x hx => (d.glob x hx).2⟩ hv hr
    exact steps_made hts rfl ⟨μ, v', w, h2 w Same.refl, Post.refl d, h1, fun _ _ => rfl⟩
  · cases e
theorem method_ok {t : TypeId} {name : String} {g : FuncId} {v : Value} (e : sInvoke P t name = some g) (n : Nat) (W : World) : (method (n + 1) t v name).run P W = .ok (g, v) W := by
  unfold sInvoke at e
  split at e
  · rename_i i dsc hi hu
    split at e
    · rename_i m hm
      have hnp : ∀ el, dsc ≠ .pointer el := by
        rintro el rfl
        simp at e
      have h2 : m.path.toList = [] ∧ m.func = some (g, false) := by
        split at e
        · cases e
        · rename_i f h1 h2 h3
          cases e
          exact ⟨‹_›, ‹_›⟩
        · cases e
      unfold method
      simp only [typeInfo, Sem.run_bind, run_program, Result.andThen_ok, hi, Sem.run_pure, hm, h2.1, follow, h2.2, receiverAt, run_underlying hu]
      cases dsc <;> first | rfl | exact (hnp _ rfl).elim
    · cases e
  · cases e
/-- An operation. -/
theorem steps_ok (hG : G.all (fun x => x.2.1.toList.all (gr 6)) = true) (d : Den P N G μ h w) {o : Oper} {ts ts' : Fr} {h' : SH} (e : stepOp P G frz o ts h = some (ts', h')) {a : Act} (hts : RelF μ ts a.tmps) (ro' : Option Nat) :
    Steps1 P N G μ frz w ts' h' o a ts ro' := by
  unfold stepOp at e
  cases hc : (notDefer o && o.op.operands.toList.all constOk) with
  | false => rw [hc] at e; cases e
  | true =>
    rw [hc, cond_true] at e
    rw [Bool.and_eq_true, List.all_eq_true] at hc
    have hr : ∀ x ∈ o.op.operands, Rel μ (opnd ts x) (a.eval x) := fun x hx => opnd_rel hts (hc.2 x (by simpa using hx))
    have pure := fun q => steps_pure (frz := frz) (ro' := ro') (h' := h') (ts' := ts') hG d hts hr q
    cases ho : o.op with
    | alloc t =>
      simp only [ho] at e
      obtain ⟨v, h1, e1, e2⟩ := fin_some e
      have := (sAlloc_ok (P := P) (G := G) (frz := frz) d e1).next
      exact steps_made hts e2 (by simpa only [execOp, ho] using this)
    | box t x =>
      simp only [ho] at e hr
      obtain ⟨v, h1, e1, e2⟩ := fin_some e
      have := (sBox_ok (P := P) (G := G) (frz := frz) d e1 (hr x (by simp [Op.operands]))).next
      exact steps_made hts e2 (by simpa only [execOp, ho] using this)
    | buildSlice t n ps =>
      simp only [ho] at e hr
      obtain ⟨v, h1, e1, e2⟩ := fin_some e
      have hpr : RelP μ (ps.toList.map fun p => (p.1, opnd ts p.2)) (ps.toList.map fun p => (p.1, a.eval p.2)) := parts_rel fun x hx => hr x.2 (by simp only [Op.operands, List.mem_toArray, List.mem_map]; exact ⟨x, hx, rfl⟩)
      have := (sBuildSlice_ok (P := P) (G := G) (frz := frz) d e1 hpr).next
      have e3 : (ps.toList.map fun p => (p.1, a.eval p.2)).toArray = ps.map fun p => (p.1, a.eval p.2) := by apply Array.toList_inj.1; simp
      rw [e3] at this
      exact steps_made hts e2 (by simpa only [execOp, ho] using this)
    | makeSlice t l c =>
      simp only [ho] at e hr
      obtain ⟨v, h1, e1, e2⟩ := fin_some e
      have := (sMakeSlice_ok (P := P) (G := G) (frz := frz) d e1 (hr l (by simp [Op.operands])) (hr c (by simp [Op.operands]))).next
      exact steps_made hts e2 (by simpa only [execOp, ho] using this)
    | makeMap t r =>
      cases r with
      | none =>
        simp only [ho] at e
        obtain ⟨v, h1, e1, e2⟩ := fin_some e
        have := (sMakeMap_ok (P := P) (G := G) (frz := frz) (t := t) d e1).next
        exact steps_made hts e2 (by simpa only [execOp, ho, Option.map_none] using this)
      | some r => simp only [ho] at e; exact pure e
    | store t x y =>
      simp only [ho] at e hr
      obtain ⟨h1, e1, e2⟩ := fin0_some e
      have := (sStore_ok (P := P) (G := G) (frz := frz) d e1 (hr x (by simp [Op.operands])) (hr y (by simp [Op.operands]))).next
      exact steps_skip hts e2 (by simpa only [execOp, ho] using this) (by simp [calmB, makerB, quietB, ho])
    | mapUpdate t m k x =>
      simp only [ho] at e hr
      obtain ⟨h1, e1, e2⟩ := fin0_some e
      have := (sMapUpdate_ok (P := P) (G := G) (frz := frz) d e1 (hr m (by simp [Op.operands])) (hr k (by simp [Op.operands])) (hr x (by simp [Op.operands]))).next
      exact steps_skip hts e2 (by simpa only [execOp, ho] using this) (by simp [calmB, makerB, quietB, ho])
    | insert t m k x =>
      simp only [ho] at e hr
      obtain ⟨h1, e1, e2⟩ := fin0_some e
      have := (sMapUpdate_ok (P := P) (G := G) (frz := frz) d e1 (hr m (by simp [Op.operands])) (hr k (by simp [Op.operands])) (hr x (by simp [Op.operands]))).next
      exact steps_skip hts e2 (by simpa only [execOp, ho] using this) (by simp [calmB, makerB, quietB, ho])
    | call c =>
      simp only [ho] at e hr
      split at e
      · rename_i x y hcal hargs
        have ea : c.args = #[x, y] := Array.toList_inj.1 (by simpa using hargs)
        have hx := hr x (by simp only [Op.operands, Call.operands, hcal]; simp [ea])
        have hy := hr y (by simp only [Op.operands, Call.operands, hcal]; simp [ea])
        have fin1 : ∀ v h1, Made P N G μ frz w (Builtin.append_ c.argTypes o.type #[a.eval x, a.eval y]) v h1 → fin o ts (some (v, h1)) = some (ts', h') → Steps1 P N G μ frz w ts' h' o a ts ro' := fun v h1 m e2 =>
          steps_value hts e2 (by simpa only [execOp, ho, resolve, hcal, invoke, builtin, ea, List.map_toArray, List.map_cons, List.map_nil, pure_bind] using m.next) (by simp [calmB, makerB, quietB, ho, hcal])
        split at e
        · rename_i r hap
          exact fin1 r.1 r.2 (sAppend_ok (P := P) (G := G) (frz := frz) d hap hx hy) e
        · obtain ⟨v, h1, e1, e2⟩ := fin_some e
          exact fin1 v h1 (sZeros_ok (P := P) (G := G) (frz := frz) d e1 hx hy) e2
      · rename_i x y hcal hargs
        have ea : c.args = #[x, y] := Array.toList_inj.1 (by simpa using hargs)
        have hx := hr x (by simp only [Op.operands, Call.operands, hcal]; simp [ea])
        have hy := hr y (by simp only [Op.operands, Call.operands, hcal]; simp [ea])
        obtain ⟨v, h1, e1, e2⟩ := fin_some e
        exact steps_value hts e2 (by simpa only [execOp, ho, resolve, hcal, invoke, builtin, ea, List.map_toArray, List.map_cons, List.map_nil, pure_bind] using (sCopy_ok (P := P) (G := G) (frz := frz) (ty0 := o.type) d e1 hx hy).next) (by simp [calmB, makerB, quietB, ho, hcal])
      · rename_i x hcal hargs
        have ea : c.args = #[x] := Array.toList_inj.1 (by simpa using hargs)
        have hx := hr x (by simp only [Op.operands, Call.operands, hcal]; simp [ea])
        obtain ⟨v, h1, e1, e2⟩ := fin_some e
        exact steps_value hts e2 (by simpa only [execOp, ho, resolve, hcal, invoke, builtin, ea, List.map_toArray, List.map_cons, List.map_nil, pure_bind] using (sClear_ok (P := P) (G := G) (frz := frz) (ty0 := o.type) d e1 hx).next) (by simp [calmB, makerB, quietB, ho, hcal])
      · exact pure e
    | _ => simp only [ho] at e; exact pure e
/-- What an operation comes to. -/
def StepR (P : Program) (G : Gl) (frz : List Nat) (o : Oper) (ts : Fr) (h : SH) (ts' : Fr) (h' : SH) : Prop :=
  (∃ v, ts' = putS ts o.dst v) ∧ ∀ (N : Lim) (μ : Mu) (w : World) (a : Act) (ro' : Option Nat), Den P N G μ h w → RelF μ ts a.tmps → Steps1 P N G μ frz w ts' h' o a ts ro'
theorem stepOp_put {P : Program} {G : Gl} {frz : List Nat} {o : Oper} {ts ts' : Fr} {h h' : SH} (e : stepOp P G frz o ts h = some (ts', h')) : ∃ v, ts' = putS ts o.dst v := by
  have f : ∀ r, fin o ts r = some (ts', h') → ∃ v, ts' = putS ts o.dst v := fun r e => by
    cases r with
    | none => cases e
    | some x => simp only [fin, Option.some.injEq, Prod.mk.injEq] at e; exact ⟨x.1, e.1.symm⟩
  have f0 : ∀ r, fin0 o ts r = some (ts', h') → ∃ v, ts' = putS ts o.dst v := fun r e => by
    cases r with
    | none => cases e
    | some x => simp only [fin0, Option.some.injEq, Prod.mk.injEq] at e; exact ⟨_, e.1.symm⟩
  have fp : (match pureOp P G h.tr.get (opnd ts) o with
      | some v => some (putS ts o.dst v, h)
      | none => none) = some (ts', h') → ∃ v, ts' = putS ts o.dst v := fun e => by
    split at e
    · rename_i v hv; cases e; exact ⟨v, rfl⟩
    · cases e
  unfold stepOp at e
  cases hc : (notDefer o && o.op.operands.toList.all constOk) with
  | false => rw [hc] at e; cases e
  | true =>
    rw [hc, cond_true] at e
    split at e <;> first | exact f _ e | exact f0 _ e | exact fp e | skip
    split at e <;> first | exact f _ e | exact fp e | skip
    split at e <;> exact f _ e
theorem argsW_eq (ts : Fr) : ∀ l : List Operand, argsW l ts = l.map (opnd ts)
  | [] => rfl
  | x :: l => by rw [argsW, opK_run, argsW_eq ts l]; rfl
theorem slowW_ok (hG : G.all (fun x => x.2.1.toList.all (gr 6)) = true) {rc : Rec} {o : Oper} {ts : Fr} {k : KF} {r : Value} (e : (slowW P G o).run rc frz ts h k = some r) : notDefer o = true ∧ ∃ ts' h', k ts' h' = some r ∧ StepR P G frz o ts h ts' h' := by
  unfold slowW at e
  simp only at e
  split at e
  · rename_i ts' h' hs
    refine ⟨?_, ts', h', e, stepOp_put hs, fun N μ w a ro' d hts => steps_ok hG d hs hts ro'⟩
    unfold stepOp at hs
    cases hc : (notDefer o && o.op.operands.toList.all constOk) with
    | false => rw [hc] at hs; cases hs
    | true => rw [Bool.and_eq_true] at hc; exact hc.1
  · cases e
theorem moveW_ok (hG : G.all (fun x => x.2.1.toList.all (gr 6)) = true) {rc : Rec} {o : Oper} {x : Operand} (ho : o.op = .move x ∨ o.op = .assign x) {ts : Fr} {k : KF} {r : Value} (e : (moveW x o.dst).run rc frz ts h k = some r) : notDefer o = true ∧ ∃ ts' h', k ts' h' = some r ∧ StepR P G frz o ts h ts' h' := by
  unfold moveW at e
  cases hc : constOk x with
  | false => rw [hc] at e; cases e
  | true =>
    rw [hc] at e
    simp only [cond_true] at e
    rw [dstK_run, opK_run] at e
    refine ⟨by rcases ho with h | h <;> simp [notDefer, h], _, _, e, ⟨_, rfl⟩, fun N μ w a ro' d hts => ?_⟩
    refine steps_ok hG d ?_ hts ro'
    unfold stepOp
    rcases ho with h | h <;> simp [notDefer, h, Op.operands, hc, pureOp]
theorem args_opnd {c : Call} {ts : Fr} {a : Act} (hts : RelF μ ts a.tmps) (h : c.args.toList.all constOk = true) : RelL μ (argsW c.args.toList ts) (c.args.map a.eval).toList := by
  rw [argsW_eq, Array.toList_map]
  rw [List.all_eq_true] at h
  exact args_rel fun x hx => opnd_rel hts (h x hx)
theorem orcF_ok {g : FuncId} {yes : Value → An} {no : An} {r : Value} : ∀ (l : List (FuncId × Value)), orcF g l yes no = some r → (∃ v, (g, v) ∈ l ∧ yes v = some r) ∨ no = some r
  | [], e => .inr e
  | x :: l, e => by
    have e : Bool.rec (motive := fun _ => An) (orcF g l yes no) (yes x.2) (Nat.beq x.1 g) = some r := e
    cases hb : Nat.beq x.1 g with
    | true =>
      rw [hb] at e
      obtain ⟨f, v⟩ := x
      obtain rfl : f = g := Nat.eq_of_beq_eq_true hb
      exact .inl ⟨v, by simp, e⟩
    | false =>
      rw [hb] at e
      rcases orcF_ok l e with ⟨v, h1, h2⟩ | h1
      · exact .inl ⟨v, by simp [h1], h2⟩
      · exact .inr h1
theorem orc_ok [Orc] [OrcOk P] (hG : G.all (fun x => x.2.1.toList.all (gr 6)) = true) {rc : Rec} (hrc : Right P G rc) {g : FuncId} {first args captured : List Value} {k : KV} {r : Value}
    (e : emp args (emp captured (emp first (orcF g Orc.t (fun v => cond (frzLive h frz) (k v h) none) (callF P G rc frz (finfo P g) (first ++ args ++ captured) h k)) (callF P G rc frz (finfo P g) (first ++ args ++ captured) h k)) (callF P G rc frz (finfo P g) (first ++ args ++ captured) h k)) (callF P G rc frz (finfo P g) (first ++ args ++ captured) h k) = some r) :
    ∃ v h', k v h' = some r ∧ CallR P G frz g (first ++ args ++ captured) h v h' := by
  cases args with
  | cons _ _ => exact callF_ok hG hrc e
  | nil =>
    cases captured with
    | cons _ _ => exact callF_ok hG hrc e
    | nil =>
      cases first with
      | cons _ _ => exact callF_ok hG hrc e
      | nil =>
        have e : orcF g Orc.t (fun v => cond (frzLive h frz) (k v h) none) (callF P G rc frz (finfo P g) ([] ++ [] ++ []) h k) = some r := e
        rcases orcF_ok _ e with ⟨v, h1, h2⟩ | h1
        · cases hl : frzLive h frz with
          | false => rw [hl] at h2; cases h2
          | true =>
            rw [hl, cond_true] at h2
            exact ⟨v, h, h2, (OrcOk.ok (P := P) _ h1).call (.inl hl) h rfl⟩
        · exact callF_ok hG hrc h1
theorem callV_ok [Orc] [OrcOk P] (hG : G.all (fun x => x.2.1.toList.all (gr 6)) = true) {rc : Rec} (hrc : Right P G rc) {o : Oper} {c : Call} {f : Operand} (ho : o.op = .call c) (hcal : c.callee = .value f) (hf : constOk f = true) (ha : c.args.toList.all constOk = true) {ts : Fr} {k : KF} {r : Value}
    (e : callV P G rc frz ((opK f).run ts) (argsW c.args.toList ts) h (fun v h' => k ((dstK o.dst).run ts v) h') = some r) : ∃ ts' h', k ts' h' = some r ∧ StepR P G frz o ts h ts' h' := by
  rw [opK_run] at e
  unfold callV at e
  split at e
  · rename_i g fi cs hfv
    obtain ⟨v, h', hk, hent, hcall⟩ := orc_ok hG hrc e
    rw [dstK_run] at hk
    refine ⟨_, _, hk, ⟨_, rfl⟩, fun N μ w a ro' d hts => ?_⟩
    have hff := opnd_rel hts hf
    rw [hfv] at hff
    obtain ⟨fi', cs', hp, h1, h2⟩ := func_rel hff
    have hl := args_opnd hts ha
    have hrel : RelL μ (fi.toList ++ argsW c.args.toList ts ++ cs.toList) (fi' ++ c.args.map a.eval ++ cs').toList := by
      simp only [Array.toList_append]
      exact (h1.append hl).append h2
    refine steps_enter hts rfl ?_ (hcall N μ w _ d hrel) (by simp [calmB, makerB, quietB, ho, hcal])
    simp only [execOp, ho, resolve, hcal, hp, Deferred.ofValue, pure_bind, invoke]
    exact hent _ w
  · rename_i l fi cs hfv
    obtain ⟨v, h', hk, hround⟩ := roundF_ok hrc e
    rw [dstK_run] at hk
    refine ⟨_, _, hk, ⟨_, rfl⟩, fun N μ w a ro' d hts => ?_⟩
    have hff := opnd_rel hts hf
    rw [hfv] at hff
    obtain ⟨b, κ, hp, hb⟩ := yield_rel hff
    obtain ⟨f2, tmps, assign, body, h1, h2⟩ := hround N μ w b κ _ ro' d hb (args_opnd hts ha)
    refine steps_round hts rfl ?_ h2 (by simp [calmB, makerB, quietB, ho, hcal])
    simp only [execOp, ho, resolve, hcal, hp, Deferred.ofValue, pure_bind, invoke, Array.empty_append]
    exact h1
  · cases e
theorem callM_ok (hG : G.all (fun x => x.2.1.toList.all (gr 6)) = true) {rc : Rec} (hrc : Right P G rc) {o : Oper} {c : Call} {f : Operand} {name : String} (ho : o.op = .call c) (hcal : c.callee = .invoke f name) (hf : constOk f = true) (ha : c.args.toList.all constOk = true) {ts : Fr} {k : KF} {r : Value}
    (e : callM P G rc frz ((opK f).run ts) name (argsW c.args.toList ts) h (fun v h' => k ((dstK o.dst).run ts v) h') = some r) : ∃ ts' h', k ts' h' = some r ∧ StepR P G frz o ts h ts' h' := by
  rw [opK_run] at e
  unfold callM at e
  split at e
  · rename_i t v hfv
    split at e
    · rename_i g hg
      obtain ⟨v2, h', hk, hent, hcall⟩ := callF_ok hG hrc e
      rw [dstK_run] at hk
      refine ⟨_, _, hk, ⟨_, rfl⟩, fun N μ w a ro' d hts => ?_⟩
      have hff := opnd_rel hts hf
      rw [hfv] at hff
      obtain ⟨v', hp, hv⟩ := iface_rel hff
      have hl := args_opnd hts ha
      have hrel : RelL μ (v :: argsW c.args.toList ts) (#[v'] ++ c.args.map a.eval).toList := by
        simp only [Array.toList_append, List.singleton_append]
        exact .cons hv hl
      refine steps_enter hts rfl ?_ (hcall N μ w _ d hrel) (by simp [calmB, makerB, quietB, ho, hcal])
      have hm : (method (P.types.size + Made.depth) t v' name).run P w = .ok (g, v') w := method_ok hg _ w
      simp only [execOp, ho, resolve, hcal, hp, pure_bind, invoke]
      have h0 : (#[Value.iface t v'] ++ Array.map a.eval c.args)[0]? = some (.iface t v') := by rw [Array.getElem?_append_left (by simp)]; rfl
      have h1 : (#[Value.iface t v'] ++ Array.map a.eval c.args).extract 1 = Array.map a.eval c.args := by
        apply Array.toList_inj.1
        simp only [Array.toList_extract, Array.toList_append, Array.toList_map]
        simp [List.take_of_length_le]
      simp only [h0, h1, callMethod, Sem.run_bind, run_program, Result.andThen_ok, hm]
      exact hent _ w
    · cases e
  · cases e
theorem pureW_ok (hG : G.all (fun x => x.2.1.toList.all (gr 6)) = true) {rc : Rec} {o : Oper} {ts : Fr} {k : KF} {r : Value} (e : (pureW P G o).run rc frz ts h k = some r) : notDefer o = true ∧ ∃ ts' h', k ts' h' = some r ∧ StepR P G frz o ts h ts' h' := by
  unfold pureW at e
  split at e
  · rename_i p hp
    rcases fastK_ok hp _ _ _ _ _ _ e with ⟨v, h', hk, hs⟩ | hk
    · rw [dstK_run] at hk
      refine ⟨?_, _, _, hk, ⟨_, rfl⟩, fun N μ w a ro' d hts => steps_ok hG d hs hts ro'⟩
      unfold stepOp at hs
      cases hc : (notDefer o && o.op.operands.toList.all constOk) with
      | false => rw [hc] at hs; cases hs
      | true => rw [Bool.and_eq_true] at hc; exact hc.1
    · exact slowW_ok (rc := rc) hG hk
  · exact slowW_ok hG e
/-- **An operation, reckoned.** -/
theorem opW_ok [Orc] [OrcOk P] (hG : G.all (fun x => x.2.1.toList.all (gr 6)) = true) {rc : Rec} (hrc : Right P G rc) {o : Oper} {ts : Fr} {k : KF} {r : Value} (e : (opW P G o).run rc frz ts h k = some r) : notDefer o = true ∧ ∃ ts' h', k ts' h' = some r ∧ StepR P G frz o ts h ts' h' := by
  unfold opW at e
  split at e
  · rename_i x ho; exact moveW_ok hG (.inl ho) e
  · rename_i x ho; exact moveW_ok hG (.inr ho) e
  · rename_i c ho
    have hnd : notDefer o = true := by simp [notDefer, ho]
    split at e
    · rename_i f hcal
      cases hc : (constOk f && c.args.toList.all constOk) with
      | false => rw [hc] at e; cases e
      | true =>
        rw [hc] at e
        rw [Bool.and_eq_true] at hc
        exact ⟨hnd, callV_ok hG hrc ho hcal hc.1 hc.2 e⟩
    · rename_i f name hcal
      cases hc : (constOk f && c.args.toList.all constOk) with
      | false => rw [hc] at e; cases e
      | true =>
        rw [hc] at e
        rw [Bool.and_eq_true] at hc
        exact ⟨hnd, callM_ok hG hrc ho hcal hc.1 hc.2 e⟩
    · exact pureW_ok hG e
  · exact pureW_ok hG e
end
end Go.Proofs.Ytgkfllgmjnndhaa
