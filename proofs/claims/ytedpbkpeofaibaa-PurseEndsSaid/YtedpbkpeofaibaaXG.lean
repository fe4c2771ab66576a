/- All operations that leave memory as it is, reckoned on the shadow: one function, and that it is right. Over any program. Conditions: as each law says. -/
import Derived.Test.YtedpbkpeofaibaaXFe
namespace Go.Proofs.Ytedpbkpeofaibaa
open Go Go.RowKit
set_option linter.unusedSimpArgs false
set_option linter.unusedVariables false
noncomputable def opnd (ts : Fr) : Operand → Value
  | .tmp t => ts.get t
  | .const v => v
  | .global g => .pointer (some ⟨g, 0, none⟩)
  | .func f => .func (.func f) #[] #[]
def constOk : Operand → Bool
  | .const v => gr 6 v
  | _ => true
def gKind : Op → Bool
  | .binOp .. | .unOp .. | .convert .. | .index .. | .field .. | .nilCheck _ | .slice .. => true
  | .call c => match c.callee with
    | .builtin .len | .builtin .min | .builtin .max | .builtin .cap => true
    | _ => false
  | _ => false
section
variable {P : Program} {N : Lim} {G : Gl} {μ : Mu} {get : Nat → Option SB} {w : World}
theorem opnd_rel {ts : Fr} {a : Act} (h : RelF μ ts a.tmps) {x : Operand} (hc : constOk x = true) : Rel μ (opnd ts x) (a.eval x) := by
  cases x with
  | tmp t => exact h.at' t
  | const v => exact .ground hc
  | global g => exact .ground rfl
  | func f => exact .ground rfl
theorem map_congr_opt {ρ ρ' : Operand → Value} {o : Option Operand} (h : ∀ x ∈ o.toArray, ρ x = ρ' x) : o.map ρ = o.map ρ' := by
  cases o with
  | none => rfl
  | some x => simp [h x (by simp)]
theorem map_congr_arr {ρ ρ' : Operand → Value} {l : Array Operand} (h : ∀ x ∈ l, ρ x = ρ' x) : l.map ρ = l.map ρ' := Array.map_congr_left h
theorem execOp_congr {ρ ρ' : Operand → Value} {o : Oper} (hk : gKind o.op = true) (h : ∀ x ∈ o.op.operands, ρ x = ρ' x) : execOp ρ o = execOp ρ' o := by
  unfold execOp
  cases ho : o.op with
  | binOp op xt x y yt => rw [ho] at h; simp only [Op.operands] at h; simp only [h x (by simp), h y (by simp)]
  | unOp op xt x => rw [ho] at h; simp only [Op.operands] at h; simp only [h x (by simp)]
  | convert s d x => rw [ho] at h; simp only [Op.operands] at h; simp only [h x (by simp)]
  | index xt x ix => rw [ho] at h; simp only [Op.operands] at h; simp only [h x (by simp), h ix (by simp)]
  | field xt x f => rw [ho] at h; simp only [Op.operands] at h; simp only [h x (by simp)]
  | nilCheck x => rw [ho] at h; simp only [Op.operands] at h; simp only [h x (by simp)]
  | slice t x lo hi mx =>
    rw [ho] at h; simp only [Op.operands] at h
    simp only [h x (by simp), map_congr_opt (o := lo) fun x hx => h x (by simp at hx ⊢; simp [hx]), map_congr_opt (o := hi) fun x hx => h x (by simp at hx ⊢; simp [hx]), map_congr_opt (o := mx) fun x hx => h x (by simp at hx ⊢; simp [hx])]
  | call c =>
    rw [ho] at h hk
    simp only [Op.operands, Call.operands] at h
    simp only [gKind] at hk
    have hm : c.args.map ρ = c.args.map ρ' := map_congr_arr fun x hx => h x (by simp [hx])
    cases hc : c.callee with
    | builtin b => simp only [resolve, hc, hm]
    | value f => simp [hc] at hk
    | invoke r n => simp [hc] at hk
  | _ => simp [ho, gKind] at hk
theorem tuple_rel {vs : Array Value} {p : Value} (h : Rel μ (.tuple vs) p) : ∃ vs', p = .tuple vs' ∧ RelL μ vs.toList vs'.toList := by
  cases h with
  | ground hg => exact ⟨vs, rfl, RelL.refl (List.all_eq_true.2 fun x hx => gr_mono 5 x (List.all_eq_true.1 (by simpa only [gr] using hg) x hx))⟩
  | tuple hl => exact ⟨_, rfl, hl⟩
theorem map_rel {ρ ρ' : Operand → Value} {l : Array Operand} (h : ∀ x ∈ l, Rel μ (ρ x) (ρ' x)) : RelL μ (l.map ρ).toList (l.map ρ').toList := by
  obtain ⟨l⟩ := l
  simp only [List.map_toArray]
  induction l with
  | nil => exact .nil
  | cons x l ih => exact .cons (h x (by simp)) (ih fun y hy => h y (by simp at hy ⊢; simp [hy]))
theorem parts_rel {ρ ρ' : Operand → Value} : ∀ {l : List (Nat × Operand)}, (∀ x ∈ l, Rel μ (ρ x.2) (ρ' x.2)) → RelP μ (l.map fun p => (p.1, ρ p.2)) (l.map fun p => (p.1, ρ' p.2))
  | [], _ => .nil
  | x :: l, h => .cons (h x (by simp)) (parts_rel fun y hy => h y (by simp [hy]))
def nilKind : TypeDesc → Value → Value → Bool
  | .slice _, .slice none _ _, .slice (some _) _ _ => true
  | .map _ _, .map none, .map (some _) => true
  | .pointer _, .pointer none, .pointer (some _) => true
  | .func _ _ _, .nilFunc, .func _ _ _ => true
  | _, _, _ => false
def sEqNil (P : Program) (op : BinOp) (t : TypeId) (x y : Value) : Option Value := match P.underlying t with
  | some d => cond (nilKind d x y || nilKind d y x) (match op with
    | .eql => some (.bool false)
    | .neq => some (.bool true)
    | _ => none) none
  | none => none
theorem nilKind_rel {d : TypeDesc} {x y x' y' : Value} (h : nilKind d x y = true) (hx : Rel μ x x') (hy : Rel μ y y') : nilKind d x' y' = true := by
  unfold nilKind at h
  split at h
  · obtain ⟨c, rfl⟩ : ∃ c : Nat × Nat, x' = .slice none c.1 c.2 := by cases hx; exact ⟨(_, _), rfl⟩
    cases hy <;> first | rfl | (rename_i hg; simp [gr] at hg)
  · obtain rfl := hx.eq (by simp [gr])
    cases hy <;> first | rfl | (rename_i hg; simp [gr] at hg)
  · obtain rfl := hx.eq (by simp [gr])
    cases hy <;> rfl
  · obtain rfl := hx.eq (by simp [gr])
    cases hy <;> rfl
  · cases h
theorem run_equal_nil {d : TypeDesc} {t : TypeId} (hu : P.underlying t = some d) {x y : Value} (h : nilKind d x y = true ∨ nilKind d y x = true) (W : World) : (Op.equal t x y).run P W = .ok false W := by
  unfold Op.equal Op.maxDepth
  rw [Op.equalIn]
  simp only [Sem.run_bind, run_underlying hu W, Result.andThen_ok]
  rcases h with h | h <;> (unfold nilKind at h; split at h) <;> first | rfl | (cases h; done)
theorem nilKind_shape {d : TypeDesc} {x y : Value} (h : nilKind d x y = true ∨ nilKind d y x = true) (op : BinOp) (t : TypeId) (a b : Operand) (W : World) :
    (eqGuard op t a b x y).run P W = .ok () W ∧ (op = .eql → binOp op t x y = do pure (.bool (← Op.equal t x y))) ∧ (op = .neq → binOp op t x y = do pure (.bool (!(← Op.equal t x y)))) := by
  rcases h with h | h <;> (unfold nilKind at h; split at h) <;> first | (cases h; done) | skip
  all_goals
    refine ⟨?_, ?_, ?_⟩
    · unfold eqGuard
      split <;> first | rfl | (simp; done) | skip
    · rintro rfl; rfl
    · rintro rfl; rfl
theorem sEqNil_ok {op : BinOp} {t : TypeId} {x y x' y' v : Value} (h : sEqNil P op t x y = some v) (hx : Rel μ x x') (hy : Rel μ y y') (a b : Operand) : Yields P μ get G w (do eqGuard op t a b x' y'; binOp op t x' y') v := by
  unfold sEqNil at h
  split at h
  · rename_i d hu
    cases hc : (nilKind d x y || nilKind d y x) with
    | false => simp [hc] at h
    | true =>
      simp only [hc, cond_true] at h
      have hk : nilKind d x' y' = true ∨ nilKind d y' x' = true := by
        rcases Bool.or_eq_true_iff.1 hc with q | q
        · exact .inl (nilKind_rel q hx hy)
        · exact .inr (nilKind_rel q hy hx)
      have hs := fun W => nilKind_shape (P := P) hk op t a b W
      have he := fun W => run_equal_nil hu hk W
      split at h
      · cases h
        exact ⟨.bool false, .ground rfl, fun W _ => by rw [Sem.run_bind, (hs W).1, Result.andThen_ok, (hs W).2.1 rfl]; simp [he W]⟩
      · cases h
        exact ⟨.bool true, .ground rfl, fun W _ => by rw [Sem.run_bind, (hs W).1, Result.andThen_ok, (hs W).2.2 rfl]; simp [he W]⟩
      · cases h
  · cases h
def sLen (P : Program) (get : Nat → Option SB) (ts : Array TypeId) (x : Value) : Option Value := match ts[0]? with
  | some t => match P.underlying t, x with
    | some (.slice _), .slice _ n _ => some (.int .i64 (n : Int))
    | some (.map _ _), .map r => match mapAt get (.map r) with
      | some es => some (.int .i64 (es.length : Int))
      | none => none
    | _, _ => none
  | none => none
theorem RelM.length {μ : Mu} : ∀ {es : List (Value × Value)} {rs : List MapEntry}, RelM μ es rs → rs.length = es.length
  | [], [], _ => rfl
  | _ :: _, _ :: _, ⟨_, t⟩ => by simp [RelM.length t]
  | [], _ :: _, h => h.elim
  | _ :: _, [], h => h.elim
theorem sLen_ok (hs : Sees P N G μ get w) {ts : Array TypeId} {x p v : Value} {ty : TypeId} (h : sLen P get ts x = some v) (hp : Rel μ x p) : Yields P μ get G w (Builtin.len_ ts ty #[p]) v := by
  unfold sLen at h
  split at h
  · rename_i t ht
    split at h
    · rename_i e a n c hu
      cases h
      obtain ⟨a', c', rfl⟩ : ∃ a' c', p = .slice a' n c' := by
        cases hp <;> exact ⟨_, _, rfl⟩
      exact ⟨_, .ground rfl, fun W _ => by simp [Builtin.len_, ht, run_underlying hu W, goInt]⟩
    · rename_i k e r hu
      split at h
      · rename_i es hes
        cases h
        obtain ⟨rs, hrs, hw⟩ := map_at (G := G) hs hes hp
        have hl := hrs.length
        simp only [Array.length_toList] at hl
        refine ⟨_, .ground rfl, fun W hW => ?_⟩
        rcases hw with ⟨rfl, rfl⟩ | ⟨b, cl, rfl, hb⟩
        · simp at hl; simp [Builtin.len_, ht, run_underlying hu W, goInt, ← hl]
        · simp [Builtin.len_, ht, run_underlying hu W, goInt, getObj_map (hb W hW), hl]
      · cases h
    · cases h
  · cases h
def sCap (P : Program) (ts : Array TypeId) (x : Value) : Option Value := match ts[0]? with
  | some t => match P.underlying t, x with
    | some (.slice _), .slice (some a) _ c => match a.spot with
      | some 0 => some (.int .i64 (c : Int))
      | _ => none
    | _, _ => none
  | none => none
theorem sCap_ok {ts : Array TypeId} {x p v : Value} {ty : TypeId} (h : sCap P ts x = some v) (hp : Rel μ x p) : Yields P μ get G w (Builtin.cap_ ts ty #[p]) v := by
  unfold sCap at h
  split at h
  · rename_i t ht
    split at h
    · rename_i e a n c hu
      obtain ⟨blk, off, sp⟩ := a
      split at h
      · cases h
        rename_i hsp
        simp only at hsp
        subst hsp
        cases hp with
        | ground hg => simp [gr] at hg
        | slice hm => exact ⟨_, .ground rfl, fun W _ => by simp [Builtin.cap_, ht, run_underlying hu W, goInt]⟩
      · cases h
    · cases h
  · cases h
/-- A part of a composite value. -/
def sFieldV (P : Program) (s : TypeId) (f : Nat) : Value → Option Value
  | .agg cs => match P.underlying s with
    | some (.struct fs) => match fs[f]? with
      | some fd => readAt P fd.type cs.toList fd.offset
      | none => none
    | _ => none
  | _ => none
theorem sFieldV_ok {s : TypeId} {f : Nat} {x p v : Value} (h : sFieldV P s f x = some v) (hp : Rel μ x p) : Yields P μ get G w (Instr.field s p f) v := by
  cases x with
  | agg cs =>
    simp only [sFieldV] at h
    split at h
    · rename_i fs hu
      split at h
      · rename_i fd hf
        obtain ⟨cs', rfl, hl⟩ := agg_rel hp
        obtain ⟨v', h1, h2⟩ := run_part_read h hl
        refine ⟨v', h1, fun W _ => ?_⟩
        simp only [Instr.field, Sem.run_bind, run_underlying hu W, Result.andThen_ok, hf, asAgg, Sem.run_pure, h2 W]
      · cases h
    · cases h
  | _ => simp [sFieldV] at h
def sIndexV (P : Program) (t : TypeId) (x ix : Value) : Option Value := match natV ix, P.underlying t, x with
  | some i, some (.array n e), .agg cs => match P.info? e with
    | some it => cond (Nat.blt i n) (readAt P e cs.toList (i * it.size)) none
    | none => none
  | _, _, _ => none
theorem sIndexV_ok {t : TypeId} {x p ix iv v : Value} (h : sIndexV P t x ix = some v) (hp : Rel μ x p) (hi : Rel μ ix iv) : Yields P μ get G w (Instr.index t p iv) v := by
  unfold sIndexV at h
  split at h
  · rename_i i n e cs hn hu
    obtain ⟨k, rfl, rfl⟩ := natV_rel hn hi
    split at h
    · rename_i it hit
      cases hc : Nat.blt i n with
      | false => simp [hc] at h
      | true =>
        simp only [hc, cond_true] at h
        have hlt : i < n := by simp only [Nat.blt_eq] at hc; exact hc
        obtain ⟨cs', rfl, hl⟩ := agg_rel hp
        obtain ⟨v', h1, h2⟩ := run_part_read h hl
        refine ⟨v', h1, fun W _ => ?_⟩
        have h3 : (0 : Int) ≤ (i : Int) ∧ (i : Int) < (n : Int) := ⟨by omega, by omega⟩
        simp only [Instr.index, Sem.run_bind, asIntOf, Sem.run_pure, Result.andThen_ok, run_underlying hu W, h3, and_self, if_true, sizeOf, typeInfo, run_program, hit, Int.toNat_natCast, h2 W]
    · cases h
  · cases h
/-- A value without addresses, out of operands without addresses. -/
def sGround (P : Program) (ρ : Operand → Value) (o : Oper) : Option Value := cond (gKind o.op && o.op.operands.toList.all fun x => gr 6 (ρ x)) (match pureOut P (execOp ρ o) with
  | some (.value v) => cond (gr 6 v) (some v) none
  | _ => none) none
def orElse' (a : Option Value) (b : Unit → Option Value) : Option Value := match a with
  | some v => some v
  | none => b ()
/-- What an operation yields that leaves memory as it is. -/
def pureOp (P : Program) (G : Gl) (get : Nat → Option SB) (ρ : Operand → Value) (o : Oper) : Option Value := match o.op with
  | .move x | .assign x => some (ρ x)
  | .pick c a b => match ρ c with
    | .bool t => some (cond t (ρ a) (ρ b))
    | _ => none
  | .extract t i => match ρ t with
    | .tuple vs => vs.toList[i]?
    | _ => none
  | .load t a => sLoad P G get t (ρ a)
  | .fieldAddr s x f => sField P s f (ρ x)
  | .indexAddr t x ix => orElse' (sIndexA P t (ρ x) (ρ ix)) fun _ => sIndexF P t (ρ x) (ρ ix)
  | .build t parts => sBuild P t (parts.toList.map fun p => (p.1, ρ p.2))
  | .lookup t x ix ok => sLookup P get t (ρ x) (ρ ix) ok
  | .makeFunc (.func f) first captured => some (.func (.func f) (first.map ρ) (captured.map ρ))
  | .makeInterface t x => cond (P.concrete t) (some (.iface t (ρ x))) none
  | .nilCheck x => match ρ x with
    | .pointer (some a) => some (.pointer (some a))
    | .func (.func f) a b => some (.func (.func f) a b)
    | _ => none
  | .slice t x lo hi none => orElse' (sSlice2 P t (ρ x) (lo.map ρ) (hi.map ρ)) fun _ => orElse' (sSliceF P t (ρ x) (lo.map ρ) (hi.map ρ)) fun _ => sGround P ρ o
  | .binOp op t x y _ => orElse' (sEqAgg P op t (ρ x) (ρ y)) fun _ => orElse' (sGround P ρ o) fun _ => sEqNil P op t (ρ x) (ρ y)
  | .call c => match c.callee, c.args.toList with
    | .builtin .len, [x] => orElse' (sLen P get c.argTypes (ρ x)) fun _ => sGround P ρ o
    | .builtin .min, _ | .builtin .max, _ => sGround P ρ o
    | .builtin .cap, [x] => orElse' (sCap P c.argTypes (ρ x)) fun _ => sGround P ρ o
    | _, _ => none
  | .field t x f => orElse' (sFieldV P t f (ρ x)) fun _ => sGround P ρ o
  | .index t x ix => orElse' (sIndexV P t (ρ x) (ρ ix)) fun _ => sGround P ρ o
  | _ => sGround P ρ o
/-- What is said of an operation's yield. -/
def YieldsN (P : Program) (μ : Mu) (get : Nat → Option SB) (G : Gl) (w : World) (s : Sem Next) (v : Value) : Prop :=
  ∃ v', Rel μ v v' ∧ ∀ W, Same μ get G w W → s.run P W = .ok (.value v') W
theorem Yields.next {s : Sem Value} {v : Value} (h : Yields P μ get G w s v) : YieldsN P μ get G w (do pure (.value (← s))) v := by
  obtain ⟨v', h1, h2⟩ := h
  exact ⟨v', h1, fun W hW => by rw [Sem.run_bind, h2 W hW]; rfl⟩
theorem sGround_ok {ρ ρ' : Operand → Value} {o : Oper} {v : Value} (h : sGround P ρ o = some v) (hr : ∀ x ∈ o.op.operands, Rel μ (ρ x) (ρ' x)) : YieldsN P μ get G w (execOp ρ' o) v := by
  unfold sGround at h
  cases hc : (gKind o.op && o.op.operands.toList.all fun x => gr 6 (ρ x)) with
  | false => rw [hc] at h; cases h
  | true =>
    rw [hc] at h
    simp only [cond_true] at h
    rw [Bool.and_eq_true, List.all_eq_true] at hc
    have e : execOp ρ o = execOp ρ' o := execOp_congr hc.1 fun x hx => ((hr x hx).eq (hc.2 x (by simpa using hx))).symm
    split at h
    · rename_i v' hp
      cases hg : gr 6 v' with
      | false => simp [hg] at h
      | true =>
        simp only [hg, cond_true, Option.some.injEq] at h
        subst h
        exact ⟨v', .ground hg, fun W _ => by rw [← e]; exact pureOut_run hp W⟩
    · cases h
theorem orElse_cases {a : Option Value} {b : Unit → Option Value} {v : Value} (h : orElse' a b = some v) : a = some v ∨ b () = some v := by
  unfold orElse' at h
  split at h
  · exact .inl h
  · exact .inr h
theorem pureOp_ok (hG : G.l.all (fun x => x.2.1.toList.all (gr 6)) = true) (hs : Sees P N G μ get w) {ρ ρ' : Operand → Value} {o : Oper} {v : Value} (h : pureOp P G get ρ o = some v) (hr : ∀ x ∈ o.op.operands, Rel μ (ρ x) (ρ' x)) : YieldsN P μ get G w (execOp ρ' o) v := by
  have hgr := fun q => sGround_ok (P := P) (G := G) (get := get) (w := w) (v := v) (o := o) q hr
  unfold pureOp at h
  cases ho : o.op with
  | move x =>
    simp only [ho] at h hr
    cases h
    exact ⟨ρ' x, hr x (by simp [Op.operands]), fun W _ => by simp [execOp, ho]⟩
  | assign x =>
    simp only [ho] at h hr
    cases h
    exact ⟨ρ' x, hr x (by simp [Op.operands]), fun W _ => by simp [execOp, ho]⟩
  | pick c a b =>
    simp only [ho] at h hr
    have hc := hr c (by simp [Op.operands])
    split at h
    · rename_i t ht
      cases h
      rw [ht] at hc
      have hc' := hc.eq rfl
      cases t with
      | true => exact ⟨ρ' a, hr a (by simp [Op.operands]), fun W _ => by simp [execOp, ho, hc', asBool]⟩
      | false => exact ⟨ρ' b, hr b (by simp [Op.operands]), fun W _ => by simp [execOp, ho, hc', asBool]⟩
    · cases h
  | extract t i =>
    simp only [ho] at h hr
    have ht := hr t (by simp [Op.operands])
    split at h
    · rename_i vs hv
      rw [hv] at ht
      obtain ⟨vs', e, hl⟩ := tuple_rel ht
      obtain ⟨v', h1, h2⟩ := hl.get h
      rw [Array.getElem?_toList] at h1
      exact ⟨v', h2, fun W _ => by simp [execOp, ho, e, Instr.extract, h1]⟩
    · cases h
  | load t a =>
    simp only [ho] at h hr
    have := (sLoad_ok hG hs h (hr a (by simp [Op.operands]))).next
    simpa only [execOp, ho] using this
  | fieldAddr s x f =>
    simp only [ho] at h hr
    have := (sField_ok (G := G) (get := get) (w := w) h (hr x (by simp [Op.operands]))).next
    simpa only [execOp, ho] using this
  | indexAddr t x ix =>
    simp only [ho] at h hr
    rcases orElse_cases h with h | h
    · have := (sIndexA_ok (G := G) (get := get) (w := w) h (hr x (by simp [Op.operands])) (hr ix (by simp [Op.operands]))).next
      simpa only [execOp, ho] using this
    · have := (sIndexF_ok (G := G) (get := get) (w := w) h (hr x (by simp [Op.operands])) (hr ix (by simp [Op.operands]))).next
      simpa only [execOp, ho] using this
  | build t parts =>
    simp only [ho] at h hr
    have hpr : RelP μ (parts.toList.map fun p => (p.1, ρ p.2)) (parts.toList.map fun p => (p.1, ρ' p.2)) := parts_rel fun x hx => hr x.2 (by simp only [Op.operands, List.mem_toArray, List.mem_map]; exact ⟨x, hx, rfl⟩)
    have := (sBuild_ok (G := G) (get := get) (w := w) h hpr).next
    have e : (parts.toList.map fun p => (p.1, ρ' p.2)).toArray = parts.map fun p => (p.1, ρ' p.2) := by
      apply Array.toList_inj.1; simp
    rw [e] at this
    simpa only [execOp, ho] using this
  | lookup t x ix ok =>
    simp only [ho] at h hr
    have := (sLookup_ok hs h (hr x (by simp [Op.operands])) (hr ix (by simp [Op.operands]))).next
    simpa only [execOp, ho] using this
  | makeFunc fn first captured =>
    cases fn with
    | func f =>
      simp only [ho] at h hr
      cases h
      refine ⟨.func (.func f) (first.map ρ') (captured.map ρ'), .func (map_rel fun x hx => hr x (by simp [Op.operands, hx])) (map_rel fun x hx => hr x (by simp [Op.operands, hx])), fun W _ => ?_⟩
      simp [execOp, ho, Instr.makeFunc]
    | _ => simp only [ho] at h hr; exact hgr h
  | makeInterface t x =>
    simp only [ho] at h hr
    cases hc : P.concrete t with
    | false => simp [hc] at h
    | true =>
      simp only [hc, cond_true, Option.some.injEq] at h
      subst h
      exact ⟨.iface t (ρ' x), .iface (hr x (by simp [Op.operands])), fun W _ => by simp [execOp, ho, run_makeInterface W t (ρ' x) hc]⟩
  | nilCheck x =>
    simp only [ho] at h hr
    have hx := hr x (by simp [Op.operands])
    split at h
    · rename_i a ha
      cases h
      rw [ha] at hx
      cases hq : ρ' x with
      | pointer b =>
        rw [hq] at hx
        cases b with
        | none => cases hx
        | some b => exact ⟨_, hx, fun W _ => by simp [execOp, ho, hq]⟩
      | _ => rw [hq] at hx; cases hx
    · rename_i f a b hf
      cases h
      rw [hf] at hx
      cases hq : ρ' x with
      | func fn c d =>
        rw [hq] at hx
        have : fn = .func f := by cases hx <;> rfl
        subst this
        exact ⟨_, hx, fun W _ => by simp [execOp, ho, hq]⟩
      | _ => rw [hq] at hx; cases hx
    · cases h
  | slice t x lo hi mx =>
    cases mx with
    | none =>
      simp only [ho] at h hr
      rcases orElse_cases h with h | h
      · have := (sSlice2_ok (G := G) (get := get) (w := w) (low' := lo.map ρ') (high' := hi.map ρ') h (hr x (by simp [Op.operands]))
          (fun v hv => by cases lo with
            | none => cases hv
            | some y => cases hv; exact ⟨_, rfl, hr y (by simp [Op.operands])⟩) (fun e => by cases lo with
            | none => rfl
            | some y => cases e)
          (fun v hv => by cases hi with
            | none => cases hv
            | some y => cases hv; exact ⟨_, rfl, hr y (by simp [Op.operands])⟩) (fun e => by cases hi with
            | none => rfl
            | some y => cases e)).next
        simpa only [execOp, ho, Option.map_none] using this
      · rcases orElse_cases h with h | h
        · have := (sSliceF_ok (G := G) (get := get) (w := w) (low' := lo.map ρ') (high' := hi.map ρ') h (hr x (by simp [Op.operands]))
          (fun v hv => by cases lo with
            | none => cases hv
            | some y => cases hv; exact ⟨_, rfl, hr y (by simp [Op.operands])⟩) (fun e => by cases lo with
            | none => rfl
            | some y => cases e)
          (fun v hv => by cases hi with
            | none => cases hv
            | some y => cases hv; exact ⟨_, rfl, hr y (by simp [Op.operands])⟩) (fun e => by cases hi with
            | none => rfl
            | some y => cases e)).next
          simpa only [execOp, ho, Option.map_none] using this
        · exact hgr h
    | some m => simp only [ho] at h hr; exact hgr h
  | binOp op t x y yt =>
    simp only [ho] at h hr
    rcases orElse_cases h with h | h
    · have := (sEqAgg_ok (G := G) (get := get) (w := w) h (hr x (by simp [Op.operands])) (hr y (by simp [Op.operands])) x y).next
      simpa only [execOp, ho] using this
    rcases orElse_cases h with h | h
    · exact hgr h
    · have := (sEqNil_ok (G := G) (get := get) (w := w) h (hr x (by simp [Op.operands])) (hr y (by simp [Op.operands])) x y).next
      simpa only [execOp, ho] using this
  | call c =>
    simp only [ho] at h hr
    split at h
    · rename_i x hcal hargs
      rcases orElse_cases h with h | h
      · have := (sLen_ok (G := G) (ty := o.type) hs h (hr x (by simp only [Op.operands, Call.operands, hcal]; have : c.args = #[x] := Array.toList_inj.1 (by simpa using hargs); simp [this]))).next
        have e : c.args = #[x] := Array.toList_inj.1 (by simpa using hargs)
        simpa only [execOp, ho, resolve, hcal, invoke, builtin, e, List.map_toArray, List.map_cons, List.map_nil, pure_bind] using this
      · exact hgr h
    · exact hgr h
    · exact hgr h
    · rename_i x hcal hargs
      have e : c.args = #[x] := Array.toList_inj.1 (by simpa using hargs)
      rcases orElse_cases h with h | h
      · have := (sCap_ok (G := G) (get := get) (w := w) (ty := o.type) h (hr x (by simp only [Op.operands, Call.operands, hcal]; simp [e]))).next
        simpa only [execOp, ho, resolve, hcal, invoke, builtin, e, List.map_toArray, List.map_cons, List.map_nil, pure_bind] using this
      · exact hgr h
    · cases h
  | field t x f =>
    simp only [ho] at h hr
    rcases orElse_cases h with h | h
    · have := (sFieldV_ok (G := G) (get := get) (w := w) h (hr x (by simp [Op.operands]))).next
      simpa only [execOp, ho] using this
    · exact hgr h
  | index t x ix =>
    simp only [ho] at h hr
    rcases orElse_cases h with h | h
    · have := (sIndexV_ok (G := G) (get := get) (w := w) h (hr x (by simp [Op.operands])) (hr ix (by simp [Op.operands]))).next
      simpa only [execOp, ho] using this
    · exact hgr h
  | _ => simp only [ho] at h hr; exact hgr h
end
end Go.Proofs.Ytedpbkpeofaibaa
