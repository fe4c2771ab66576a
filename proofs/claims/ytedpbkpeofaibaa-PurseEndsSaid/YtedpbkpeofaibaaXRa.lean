/- What may come up ahead of time: what it makes hangs on its operands alone. Over any program. Conditions: as each law says. -/
import Derived.Test.YtedpbkpeofaibaaXR
namespace Go.Proofs.Ytedpbkpeofaibaa
open Go Go.RowKit
set_option linter.unusedSimpArgs false
set_option linter.unusedVariables false
def tm (tmps : Array Value) : Nat → Value := fun t => tmps.getD t undef
theorem eval_opv (a : Act) (x : Operand) : a.eval x = opv (tm a.tmps) x := by cases x <;> rfl
theorem opnd_opv (ts : Fr) (x : Operand) : opnd ts x = opv ts.get x := by cases x <;> rfl
section
variable {P : Program} {N : Lim} {G : Gl} {μ : Mu} {ops : Array Oper}
theorem parts_congr {g g' : Nat → Value} : ∀ {l : List (Nat × Operand)}, (∀ x ∈ l, opv g x.2 = opv g' x.2) → (l.map fun p => (p.1, opv g p.2)) = l.map fun p => (p.1, opv g' p.2)
  | [], _ => rfl
  | x :: l, h => by rw [List.map_cons, List.map_cons, h x (by simp), parts_congr fun y hy => h y (by simp [hy])]
theorem part_op {ps : Array (Nat × Operand)} {x : Nat × Operand} (hx : x ∈ ps.toList) : x.2 ∈ (ps.map (·.2)) := by simp only [Array.mem_map]; exact ⟨x, by simpa using hx, rfl⟩
theorem eC_congr {o : Oper} {g g' : Nat → Value} (h : ∀ x ∈ o.op.operands, opv g x = opv g' x) : eC P o g = eC P o g' := by
  unfold eC
  cases ho : o.op <;> try rfl
  case buildSlice t n ps =>
    rw [ho] at h
    simp only
    rw [parts_congr (l := ps.toList) fun x hx => h x.2 (by simp only [Op.operands, List.mem_toArray, List.mem_map]; exact ⟨x, by simpa using hx, rfl⟩)]
  case build t ps =>
    rw [ho] at h
    simp only
    rw [parts_congr (l := ps.toList) fun x hx => h x.2 (by simp only [Op.operands, List.mem_toArray, List.mem_map]; exact ⟨x, by simpa using hx, rfl⟩)]
  case makeSlice t l c =>
    rw [ho] at h
    simp only
    rw [h l (by simp [Op.operands]), h c (by simp [Op.operands])]
  case move x =>
    rw [ho] at h
    simp only
    rw [h x (by simp [Op.operands])]
theorem opv_looks {o : Oper} {g g' : Nat → Value} (h : ∀ t ∈ o.looksAt ops, g t = g' t) : ∀ x ∈ o.op.operands, opv g x = opv g' x := fun x hx => by
  cases x with
  | tmp t => exact h t (List.mem_append_left _ (List.mem_filterMap.2 ⟨.tmp t, by simpa using hx, rfl⟩))
  | _ => rfl
theorem wanted_g {o : Oper} {g g' : Nat → Value} (h : ∀ t ∈ o.looksAt ops, boolOf (g t) = boolOf (g' t)) : Region.wanted o (yieldedG ops g) = Region.wanted o (yieldedG ops g') := by
  unfold Region.wanted
  cases hg : o.guard with
  | none => rfl
  | some q =>
    obtain ⟨j, b⟩ := q
    have : yieldedG ops g j = yieldedG ops g' j := by
      unfold yieldedG
      cases hj : ops[j]? with
      | none => rfl
      | some oj =>
        cases hd : oj.dst with
        | none => simp [hd]
        | some d => simp only [hd]; exact h d (List.mem_append_right _ (by simp [hg, hj, hd]))
    simp only [this]
theorem eCw_congr {o : Oper} {g g' : Nat → Value} (h : ∀ t ∈ o.looksAt ops, g t = g' t) : eCw P ops o g = eCw P ops o g' := by
  unfold eCw
  rw [wanted_g fun t ht => by rw [h t ht], eC_congr (opv_looks h)]
theorem yieldedG_yielded (tmps : Array Value) : yieldedG ops (tm tmps) = yielded ops tmps := by
  funext j
  unfold yieldedG yielded
  cases ops[j]? with
  | none => rfl
  | some o =>
    cases hd : o.dst with
    | none => simp [hd]
    | some d =>
      simp only [hd, Option.bind_some, tm]
      rw [Array.getD_eq_getD_getElem?]
      cases ht : tmps[d]? with
      | none => rfl
      | some v => cases v <;> rfl
/-- What has come of an operation that came up ahead of time. -/
def Came (P : Program) (c : EC) (w : World) (v : Value) (w' : World) : Prop := match c with
  | (none, f) => (∀ a, f a = v) ∧ w' = w
  | (some (cs, t, κ), f) => v = f ⟨w.heap.size, 0, none⟩ ∧ w' = w.alloc (.cells cs.toArray t) ∧ ∃ sz, (P.info? t).map (·.size) = some sz ∧ cs.length = κ * sz
theorem eC_run {o : Oper} {a : Act} {c : EC} (h : eC P o (tm a.tmps) = some c) (w : World) : ∃ v w', (execOp a.eval o).run P w = .ok (.value v) w' ∧ Came P c w v w' := by
  have hev : (fun x => a.eval x) = opv (tm a.tmps) := funext (eval_opv a)
  unfold eC at h
  cases ho : o.op <;> simp only [ho] at h <;> try (cases h; done)
  case alloc t =>
    split at h
    · rename_i i hi
      split at h
      · rename_i z hz
        cases hc : (z.cells.toList.all (gr 6) && Nat.beq z.cells.size i.size) with
        | false => rw [hc] at h; cases h
        | true =>
          simp only [hc, cond_true, Option.some.injEq] at h
          subst h
          simp only [Bool.and_eq_true] at hc
          have h3 := Nat.eq_of_beq_eq_true hc.2
          refine ⟨_, _, ?_, rfl, rfl, i.size, by rw [hi]; rfl, by rw [Array.length_toList]; omega⟩
          simp only [execOp, ho, Instr.alloc, zeroValue, typeInfo, Sem.run_bind, run_program, Result.andThen_ok, hi, Sem.run_pure, hz, newVar, newRow, run_newObj, Array.toArray_toList]
          rfl
      · cases h
    · cases h
  case buildSlice t len ps =>
    split at h
    · rename_i el hu
      split at h
      · rename_i i hi
        split at h
        · rename_i z hz
          cases hc : (z.cells.toList.all (gr 6) && Nat.ble (len * i.size) 65536 && (Nat.blt 0 i.size) && Nat.beq z.cells.size i.size) with
          | false => rw [hc] at h; cases h
          | true =>
            simp only [hc, cond_true] at h
            simp only [Bool.and_eq_true, Nat.blt_eq] at hc
            obtain ⟨⟨⟨h2, h3⟩, h4⟩, h5⟩ := hc
            have h3 := Nat.le_of_ble_eq_true h3
            rw [madeC_eq (by have := Nat.eq_of_beq_eq_true h5; omega)] at h
            split at h
            · rename_i cells hf
              simp only [Option.some.injEq] at h
              subst h
              have hsz : cells.size = len * i.size := by rw [fill_size _ _ _ _ hf, size_madeCells]
              refine ⟨_, _, ?_, rfl, rfl, i.size, by rw [hi]; rfl, by rw [Array.length_toList, hsz]⟩
              have fin : ∀ zz : Array Value, (madeCells z.cells (len * i.size)) = ((Array.range (len * i.size)).map (zz[· % zz.size]!)) →
                  Instr.fill (fun k => some (k * i.size, i.size)) ((Array.range (len * i.size)).map (zz[· % zz.size]!)) (ps.toList.map fun p => (p.1, a.eval p.2)) = some cells := fun zz hz' => by rw [← hz', ← hf]; simp only [eval_opv]
              have e3 : (ps.map fun p => (p.1, a.eval p.2)).toList = ps.toList.map fun p => (p.1, a.eval p.2) := by simp
              simp only [execOp, ho]
              unfold Instr.buildSlice
              simp only [Sem.run_bind, run_underlying hu w, Result.andThen_ok, sizeOf, typeInfo, run_program, hi, Sem.run_pure]
              rw [if_neg (show ¬ len * i.size > 2 ^ 24 by omega)]
              by_cases h0 : len * i.size = 0
              · have := fin #[] (by rw [h0]; simp [madeCells])
                rw [if_pos h0]
                simp only [Sem.run_bind, Sem.run_pure, Result.andThen_ok, e3, this, newRow, run_newObj, Array.toArray_toList]
                rfl
              · have := fin z.cells rfl
                rw [if_neg h0]
                simp only [Sem.run_bind, zeroValue, typeInfo, run_program, Result.andThen_ok, hi, hz, Sem.run_pure, e3, this, newRow, run_newObj, Array.toArray_toList]
                rfl
            · cases h
        · cases h
      · cases h
    · cases h
  case makeSlice t l c0 =>
    split at h
    · rename_i el ln cn hu hln hcn
      obtain ⟨k1, e1⟩ := natV_eq hln
      obtain ⟨k2, e2⟩ := natV_eq hcn
      split at h
      · rename_i i hi
        split at h
        · rename_i z hz
          cases hc : (z.cells.toList.all (gr 6) && Nat.ble ln cn && Nat.ble cn 65536 && Nat.ble i.bytes 65536 && Nat.blt 0 i.size && Nat.beq z.cells.size i.size) with
          | false => rw [hc] at h; cases h
          | true =>
            have hc0 := hc
            simp only [Bool.and_eq_true, Nat.blt_eq] at hc0
            rw [madeC_eq (by have := Nat.eq_of_beq_eq_true hc0.2; omega)] at h
            simp only [hc, cond_true, Option.some.injEq] at h
            subst h
            simp only [Bool.and_eq_true, Nat.blt_eq] at hc
            obtain ⟨⟨⟨⟨⟨h2, h3⟩, h4⟩, h5⟩, h6⟩, h7⟩ := hc
            have h3 := Nat.le_of_ble_eq_true h3
            have h4 := Nat.le_of_ble_eq_true h4
            have h5 := Nat.le_of_ble_eq_true h5
            have hb : (i.bytes : Int) * (cn : Int) ≤ 281474976710656 := by
              have h8 : i.bytes * cn ≤ 65536 * 65536 := Nat.mul_le_mul h5 h4
              have h9 : ((i.bytes * cn : Nat) : Int) ≤ ((65536 * 65536 : Nat) : Int) := Int.ofNat_le.2 h8
              rw [Int.natCast_mul] at h9
              omega
            have hrun := run_make (P := P) w t el i z hu hi hz k1 k2 ln cn (by omega) (by omega) hb (by omega)
            simp only [Int.toNat_natCast] at hrun
            refine ⟨_, _, ?_, rfl, rfl, i.size, by rw [hi]; rfl, by rw [Array.length_toList, size_madeCells]⟩
            simp only [execOp, ho, eval_opv, e1, e2, Sem.run_bind, hrun, Result.andThen_ok, Sem.run_pure, Array.toArray_toList]
        · cases h
      · cases h
    · cases h
  case build t ps =>
    split at h
    · rename_i v hv
      simp only [Option.some.injEq] at h
      subst h
      refine ⟨v, w, ?_, fun _ => rfl, rfl⟩
      unfold sBuild at hv
      split at hv
      · rename_i i hi
        split at hv
        · rename_i z hz
          cases hg : z.cells.toList.all (gr 6) with
          | false => simp [hg] at hv
          | true =>
            simp only [hg, cond_true] at hv
            split at hv
            · rename_i r hr
              cases hv
              have e3 : (ps.map fun p => (p.1, a.eval p.2)).toList = ps.toList.map fun p => (p.1, opv (tm a.tmps) p.2) := by simp [eval_opv]
              have := run_build w t (ps.map fun p => (p.1, a.eval p.2)) r (by rw [e3]; exact hr)
              simp only [execOp, ho, Sem.run_bind, this, Result.andThen_ok, Sem.run_pure]
            · cases hv
        · cases hv
      · cases hv
    · cases h
  case move x =>
    simp only [Option.some.injEq] at h
    subst h
    exact ⟨_, w, by simp [execOp, ho, eval_opv], fun _ => rfl, rfl⟩
/-- How a value looks: how many cells it has; which number, or which truth value it is. -/
structure Shp (v v' : Value) : Prop where
  n : v.cells.size = v'.cells.size
  i : ∀ k m, v = .int k m → v' = .int k m
  b : boolOf v = boolOf v'
theorem Rel.shp {v v' : Value} (h : Rel μ v v') : Shp v v' := ⟨(arr_size (cells_rel h)).symm, fun k m e => by subst e; exact h.eq rfl, boolOf_rel h⟩
theorem Shp.refl (v : Value) : Shp v v := ⟨rfl, fun _ _ e => e, rfl⟩
theorem fill_shp (place : Nat → Option (Nat × Nat)) {g g' : Nat → Value} : ∀ {l : List (Nat × Operand)}, (∀ x ∈ l, Shp (opv g x.2) (opv g' x.2)) → ∀ {c c' r : Array Value}, c.size = c'.size → Instr.fill place c (l.map fun p => (p.1, opv g p.2)) = some r → ∃ r', Instr.fill place c' (l.map fun p => (p.1, opv g' p.2)) = some r' ∧ r.size = r'.size
  | [], _, c, c', r, hc, h => by
    simp only [List.map_nil, Instr.fill, Option.some.injEq] at h
    subst h
    exact ⟨c', rfl, hc⟩
  | x :: l, hs, c, c', r, hc, h => by
    have h1 := (hs x (by simp)).n
    simp only [List.map_cons, Instr.fill] at h ⊢
    cases hp : place x.1 with
    | none => simp [hp] at h
    | some p =>
      simp only [hp] at h ⊢
      split at h
      · cases h
      · rename_i hn
        rw [if_neg (by rw [← h1, ← hc]; exact hn)]
        refine fill_shp place (fun y hy => hs y (by simp [hy])) ?_ h
        have : ∀ (l : List (Value × Nat)) (c : Array Value), (l.foldl (fun (cs : Array Value) x => cs.setIfInBounds (p.1 + x.2) x.1) c).size = c.size := fun l => by
          induction l with
          | nil => intro c; rfl
          | cons x l ih => intro c; rw [List.foldl_cons, ih]; simp
        rw [← Array.foldl_toList, ← Array.foldl_toList]
        exact ((this _ _).trans hc).trans (this _ _).symm
theorem slice_shp (a a' : Addr) (n c : Nat) : Shp (.slice (some a) n c) (.slice (some a') n c) := ⟨rfl, (fun _ _ e => by cases e), rfl⟩
theorem ptr_shp (a a' : Addr) : Shp (.pointer (some a)) (.pointer (some a')) := ⟨rfl, (fun _ _ e => by cases e), rfl⟩
theorem eC_shp {o : Oper} {g g' : Nat → Value} (hs : ∀ x ∈ o.op.operands, Shp (opv g x) (opv g' x)) {c : EC} (h : eC P o g = some c) : ∃ c', eC P o g' = some c' ∧ ∀ a a', Shp (c.2 a) (c'.2 a') := by
  unfold eC at h ⊢
  cases ho : o.op <;> simp only [ho] at h ⊢ <;> try (cases h; done)
  case alloc t =>
    split at h
    · rename_i i hi
      split at h
      · rename_i z hz
        cases hc : (z.cells.toList.all (gr 6) && Nat.beq z.cells.size i.size) with
        | false => rw [hc] at h; cases h
        | true =>
          simp only [hc, cond_true, Option.some.injEq] at h ⊢
          subst h
          exact ⟨_, rfl, fun a a' => ptr_shp a a'⟩
      · cases h
    · cases h
  case buildSlice t len ps =>
    rw [ho] at hs
    split at h
    · rename_i el hu
      split at h
      · rename_i i hi
        split at h
        · rename_i z hz
          cases hc : (z.cells.toList.all (gr 6) && Nat.ble (len * i.size) 65536 && (Nat.blt 0 i.size) && Nat.beq z.cells.size i.size) with
          | false => rw [hc] at h; cases h
          | true =>
            simp only [hc, cond_true] at h ⊢
            split at h
            · rename_i cells hf
              simp only [Option.some.injEq] at h
              subst h
              obtain ⟨r', h1, _⟩ := fill_shp _ (g' := g') (fun x hx => hs x.2 (by simp only [Op.operands, List.mem_toArray, List.mem_map]; exact ⟨x, by simpa using hx, rfl⟩)) rfl hf
              rw [h1]
              exact ⟨_, rfl, fun a a' => slice_shp a a' _ _⟩
            · cases h
        · cases h
      · cases h
    · cases h
  case makeSlice t l c0 =>
    rw [ho] at hs
    split at h
    · rename_i el ln cn hu hln hcn
      obtain ⟨k1, e1⟩ := natV_eq hln
      obtain ⟨k2, e2⟩ := natV_eq hcn
      rw [(hs l (by simp [Op.operands])).i _ _ e1, (hs c0 (by simp [Op.operands])).i _ _ e2]
      simp only [natV]
      split at h
      · rename_i i hi
        split at h
        · rename_i z hz
          cases hc : (z.cells.toList.all (gr 6) && Nat.ble ln cn && Nat.ble cn 65536 && Nat.ble i.bytes 65536 && Nat.blt 0 i.size && Nat.beq z.cells.size i.size) with
          | false => rw [hc] at h; cases h
          | true =>
            simp only [hc, cond_true, Option.some.injEq] at h
            subst h
            simp only [hu, hi, hz, hc, cond_true]
            exact ⟨_, rfl, fun a a' => slice_shp a a' _ _⟩
        · cases h
      · cases h
    · cases h
  case build t ps =>
    rw [ho] at hs
    split at h
    · rename_i v hv
      simp only [Option.some.injEq] at h
      subst h
      have hps : ∀ x ∈ ps.toList, Shp (opv g x.2) (opv g' x.2) := fun x hx => hs x.2 (by simp only [Op.operands, List.mem_toArray, List.mem_map]; exact ⟨x, by simpa using hx, rfl⟩)
      have key : ∃ v', sBuild P t (ps.toList.map fun p => (p.1, opv g' p.2)) = some v' ∧ Shp v v' := by
        unfold sBuild at hv ⊢
        split at hv
        · rename_i i hi
          split at hv
          · rename_i z hz
            cases hg : z.cells.toList.all (gr 6) with
            | false => simp [hg] at hv
            | true =>
              simp only [hg, cond_true] at hv ⊢
              split at hv
              · rename_i r hr
                cases hv
                have : ∃ r', P.built t (ps.toList.map fun p => (p.1, opv g' p.2)) = some r' ∧ r.size = r'.size := by
                  unfold Program.built at hr ⊢
                  cases hu : P.underlying t with
                  | none => simp [hi, hu] at hr
                  | some d =>
                    cases d <;> try (simp [hi, hu] at hr; done)
                    case array n e =>
                      cases he : P.info? e with
                      | none => simp [hi, hu, hz, he] at hr
                      | some ie =>
                        simp only [hi, hu, hz, he] at hr ⊢
                        exact fill_shp _ hps rfl hr
                    case struct fs =>
                      cases hpl : fs.toList.mapM (fun f => (P.info? f.type).map fun i => (f.offset, i.size)) with
                      | none => simp [hi, hu, hz, hpl] at hr
                      | some places =>
                        simp only [hi, hu, hz, hpl] at hr ⊢
                        exact fill_shp _ hps rfl hr
                obtain ⟨r', h1, h2⟩ := this
                rw [h1]
                exact ⟨_, rfl, h2, (fun _ _ e => by cases e), rfl⟩
              · cases hv
          · cases hv
        · cases hv
      obtain ⟨v', h1, h2⟩ := key
      rw [h1]
      exact ⟨_, rfl, fun _ _ => h2⟩
    · cases h
  case move x =>
    rw [ho] at hs
    simp only [Option.some.injEq] at h
    subst h
    exact ⟨_, rfl, fun _ _ => hs x (by simp [Op.operands])⟩
/-- What is made on the shadow stands for what is made in truth. -/
def CRel (μ : Mu) (c c' : EC) : Prop := match c.1, c'.1 with
  | none, none => ∀ a a', Rel μ (c.2 a) (c'.2 a')
  | some (cs, t, κ), some (cs', t', κ') => t = t' ∧ κ = κ' ∧ RelL μ cs cs' ∧ ∀ (ν : Mu) (n b : Nat), ν n = some (b, κ) → Rel ν (c.2 ⟨n, 0, some 0⟩) (c'.2 ⟨b, 0, none⟩)
  | _, _ => False
theorem eC_rel {o : Oper} {g g' : Nat → Value} (hs : ∀ x ∈ o.op.operands, Rel μ (opv g x) (opv g' x)) {c : EC} (h : eC P o g = some c) : ∃ c', eC P o g' = some c' ∧ CRel μ c c' := by
  unfold eC at h ⊢
  cases ho : o.op <;> simp only [ho] at h ⊢ <;> try (cases h; done)
  case alloc t =>
    split at h
    · rename_i i hi
      split at h
      · rename_i z hz
        cases hc : (z.cells.toList.all (gr 6) && Nat.beq z.cells.size i.size) with
        | false => rw [hc] at h; cases h
        | true =>
          simp only [hc, cond_true, Option.some.injEq] at h ⊢
          subst h
          rw [Bool.and_eq_true] at hc
          exact ⟨_, rfl, rfl, rfl, RelL.refl hc.1, fun ν n b hn => .ptr hn⟩
      · cases h
    · cases h
  case buildSlice t len ps =>
    rw [ho] at hs
    split at h
    · rename_i el hu
      split at h
      · rename_i i hi
        split at h
        · rename_i z hz
          cases hc : (z.cells.toList.all (gr 6) && Nat.ble (len * i.size) 65536 && (Nat.blt 0 i.size) && Nat.beq z.cells.size i.size) with
          | false => rw [hc] at h; cases h
          | true =>
            simp only [hc, cond_true] at h ⊢
            simp only [Bool.and_eq_true, Nat.blt_eq] at hc
            obtain ⟨⟨⟨h2, h3⟩, h4⟩, h5⟩ := hc
            have h5 := Nat.eq_of_beq_eq_true h5
            rw [madeC_eq (by omega)] at h ⊢
            split at h
            · rename_i cells hf
              simp only [Option.some.injEq] at h
              subst h
              have hpr : RelP μ (ps.toList.map fun p => (p.1, opv g p.2)) (ps.toList.map fun p => (p.1, opv g' p.2)) := parts_rel fun x hx => hs x.2 (by simp only [Op.operands, List.mem_toArray, List.mem_map]; exact ⟨x, by simpa using hx, rfl⟩)
              obtain ⟨r', hf', hr⟩ := fill_rel _ hpr (RelL.refl (μ := μ) (all_made (n := len * i.size) h2 (by omega))) hf
              rw [hf']
              exact ⟨_, rfl, rfl, rfl, hr, fun ν n b hn => .slice hn⟩
            · cases h
        · cases h
      · cases h
    · cases h
  case makeSlice t l c0 =>
    rw [ho] at hs
    split at h
    · rename_i el ln cn hu hln hcn
      obtain ⟨k1, e1, e1'⟩ := natV_rel hln (hs l (by simp [Op.operands]))
      obtain ⟨k2, e2, e2'⟩ := natV_rel hcn (hs c0 (by simp [Op.operands]))
      rw [e1', e2']
      simp only [natV]
      split at h
      · rename_i i hi
        split at h
        · rename_i z hz
          cases hc : (z.cells.toList.all (gr 6) && Nat.ble ln cn && Nat.ble cn 65536 && Nat.ble i.bytes 65536 && Nat.blt 0 i.size && Nat.beq z.cells.size i.size) with
          | false => rw [hc] at h; cases h
          | true =>
            simp only [hc, cond_true, Option.some.injEq] at h
            subst h
            have hc' := hc
            simp only [Bool.and_eq_true, Nat.blt_eq] at hc'
            obtain ⟨⟨⟨⟨⟨h2, h3⟩, h4⟩, h5⟩, h6⟩, h7⟩ := hc'
            have h7 := Nat.eq_of_beq_eq_true h7
            simp only [hu, hi, hz, hc, cond_true]
            rw [madeC_eq (by omega)]
            exact ⟨_, rfl, rfl, rfl, RelL.refl (all_made h2 (by omega)), fun ν n b hn => .slice hn⟩
        · cases h
      · cases h
    · cases h
  case build t ps =>
    rw [ho] at hs
    split at h
    · rename_i v hv
      simp only [Option.some.injEq] at h
      subst h
      have hpr : RelP μ (ps.toList.map fun p => (p.1, opv g p.2)) (ps.toList.map fun p => (p.1, opv g' p.2)) := parts_rel fun x hx => hs x.2 (by simp only [Op.operands, List.mem_toArray, List.mem_map]; exact ⟨x, by simpa using hx, rfl⟩)
      obtain ⟨v', h1, h2⟩ := sBuild_rel hv hpr
      rw [h1]
      exact ⟨_, rfl, fun _ _ => h2⟩
    · cases h
  case move x =>
    rw [ho] at hs
    simp only [Option.some.injEq] at h
    subst h
    exact ⟨_, rfl, fun _ _ => hs x (by simp [Op.operands])⟩
theorem opv_looks2 {R : Value → Value → Prop} (h0 : ∀ x : Operand, constOk x = true → (∀ t, x ≠ .tmp t) → ∀ g g' : Nat → Value, R (opv g x) (opv g' x)) {o : Oper} {g g' : Nat → Value} (hc : o.op.operands.toList.all constOk = true) (h : ∀ t ∈ o.looksAt ops, R (g t) (g' t)) : ∀ x ∈ o.op.operands, R (opv g x) (opv g' x) := fun x hx => by
  rw [List.all_eq_true] at hc
  have hx' := hc x (by simpa using hx)
  cases x with
  | tmp t => exact h t (List.mem_append_left _ (List.mem_filterMap.2 ⟨.tmp t, by simpa using hx, rfl⟩))
  | const v => exact h0 _ hx' (fun t e => by cases e) g g'
  | global v => exact h0 _ hx' (fun t e => by cases e) g g'
  | func v => exact h0 _ hx' (fun t e => by cases e) g g'
theorem eCw_rel {o : Oper} {g g' : Nat → Value} (hs : ∀ t ∈ o.looksAt ops, Rel μ (g t) (g' t)) {c : EC} (h : eCw P ops o g = some c) : ∃ c', eCw P ops o g' = some c' ∧ CRel μ c c' := by
  unfold eCw at h ⊢
  cases hc : o.op.operands.toList.all constOk with
  | false => rw [hc] at h; cases h
  | true =>
    rw [hc, cond_true] at h
    rw [cond_true, ← wanted_g (g := g) (g' := g') fun t ht => boolOf_rel (hs t ht)]
    cases hw : Region.wanted o (yieldedG ops g) with
    | true =>
      rw [hw, cond_true] at h
      exact eC_rel (opv_looks2 (fun x hx hn g g' => by cases x <;> first | exact (hn _ rfl).elim | exact .ground hx | exact .ground rfl) hc hs) h
    | false =>
      rw [hw, cond_false] at h
      simp only [Option.some.injEq] at h
      subst h
      exact ⟨_, rfl, fun _ _ => .ground rfl⟩
theorem eCw_shp {o : Oper} {g g' : Nat → Value} (hs : ∀ t ∈ o.looksAt ops, Shp (g t) (g' t)) {c : EC} (h : eCw P ops o g = some c) : ∃ c', eCw P ops o g' = some c' ∧ ∀ a a', Shp (c.2 a) (c'.2 a') := by
  unfold eCw at h ⊢
  cases hc : o.op.operands.toList.all constOk with
  | false => rw [hc] at h; cases h
  | true =>
    rw [hc, cond_true] at h
    rw [cond_true, ← wanted_g (g := g) (g' := g') fun t ht => (hs t ht).b]
    cases hw : Region.wanted o (yieldedG ops g) with
    | true =>
      rw [hw, cond_true] at h
      exact eC_shp (opv_looks2 (fun x hx hn g g' => by cases x <;> first | exact (hn _ rfl).elim | exact Shp.refl _) hc hs) h
    | false =>
      rw [hw, cond_false] at h
      simp only [Option.some.injEq] at h
      subst h
      exact ⟨_, rfl, fun _ _ => Shp.refl _⟩
end
end Go.Proofs.Ytedpbkpeofaibaa
