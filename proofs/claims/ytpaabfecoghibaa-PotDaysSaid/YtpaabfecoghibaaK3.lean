/- All operations that leave memory as it is, reckoned on the shadow: one function, and that it is right. Over any program. Conditions: as each law says. -/
import Derived.Test.YtpaabfecoghibaaK2
import Derived.Laws.MakeOwn
import Derived.RangeFuncRecord
namespace Go.Proofs.Ytpaabfecoghibaa
open Go Go.RowKit
set_option linter.unusedSimpArgs false
set_option linter.unusedVariables false
noncomputable def opnd (ts : Fr) : Operand → Value
  | .tmp t => ts.get t
  | .const v => v
  | .global g => .pointer (some ⟨g, 0, none⟩)
  | .func f => .func (.func f) #[] #[]
def constOk : Operand → Bool
  | .const v => gr 6 v
  | _ => true
def gKind : Op → Bool
  | .binOp .. | .unOp .. | .convert .. | .index .. | .field .. | .nilCheck _ | .slice .. => true
  | .call c => match c.callee with
    | .builtin .len | .builtin .min | .builtin .max | .builtin .cap => true
    | _ => false
  | _ => false
section
variable {P : Program} {N : Lim} {G : Gl} {μ : Mu} {get : Nat → Option SB} {w : World}
theorem opnd_rel {ts : Fr} {a : Act} (h : RelF μ ts a.tmps) {x : Operand} (hc : constOk x = true) : Rel μ (opnd ts x) (a.eval x) := by
  cases x with
  | tmp t => exact h.at' t
  | const v => exact .ground hc
  | global g => exact .ground rfl
  | func f => exact .ground rfl
theorem map_congr_opt {ρ ρ' : Operand → Value} {o : Option Operand} (h : ∀ x ∈ o.toArray, ρ x = ρ' x) : o.map ρ = o.map ρ' := by
  cases o with
  | none => rfl
  | some x => simp [h x (by simp)]
theorem map_congr_arr {ρ ρ' : Operand → Value} {l : Array Operand} (h : ∀ x ∈ l, ρ x = ρ' x) : l.map ρ = l.map ρ' := Array.map_congr_left h
theorem execOp_congr {ρ ρ' : Operand → Value} {o : Oper} (hk : gKind o.op = true) (h : ∀ x ∈ o.op.operands, ρ x = ρ' x) : execOp ρ o = execOp ρ' o := by
  unfold execOp
  cases ho : o.op with
  | binOp op xt x y yt => rw [ho] at h; simp only [Op.operands] at h; simp only [h x (by simp), h y (by simp)]
  | unOp op xt x => rw [ho] at h; simp only [Op.operands] at h; simp only [h x (by simp)]
  | convert s d x => rw [ho] at h; simp only [Op.operands] at h; simp only [h x (by simp)]
  | index xt x ix => rw [ho] at h; simp only [Op.operands] at h; simp only [h x (by simp), h ix (by simp)]
  | field xt x f => rw [ho] at h; simp only [Op.operands] at h; simp only [h x (by simp)]
  | nilCheck x => rw [ho] at h; simp only [Op.operands] at h; simp only [h x (by simp)]
  | slice t x lo hi mx =>
    rw [ho] at h; simp only [Op.operands] at h
    simp only [h x (by simp), map_congr_opt (o := lo) fun x hx => h x (by simp at hx ⊢; simp [hx]), map_congr_opt (o := hi) fun x hx => h x (by simp at hx ⊢; simp [hx]), map_congr_opt (o := mx) fun x hx => h x (by simp at hx ⊢; simp [hx])]
  | call c =>
    rw [ho] at h hk
    simp only [Op.operands, Call.operands] at h
    simp only [gKind] at hk
    have hm : c.args.map ρ = c.args.map ρ' := map_congr_arr fun x hx => h x (by simp [hx])
    cases hc : c.callee with
    | builtin b => simp only [resolve, hc, hm]
    | value f => simp [hc] at hk
    | invoke r n => simp [hc] at hk
  | _ => simp [ho, gKind] at hk
theorem tuple_rel {vs : Array Value} {p : Value} (h : Rel μ (.tuple vs) p) : ∃ vs', p = .tuple vs' ∧ RelL μ vs.toList vs'.toList := by
  cases h with
  | ground hg => exact ⟨vs, rfl, RelL.refl (List.all_eq_true.2 fun x hx => gr_mono 5 x (List.all_eq_true.1 (by simpa only [gr] using hg) x hx))⟩
  | tuple hl => exact ⟨_, rfl, hl⟩
theorem map_rel {ρ ρ' : Operand → Value} {l : Array Operand} (h : ∀ x ∈ l, Rel μ (ρ x) (ρ' x)) : RelL μ (l.map ρ).toList (l.map ρ').toList := by
  obtain ⟨l⟩ := l
  simp only [List.map_toArray]
  induction l with
  | nil => exact .nil
  | cons x l ih => exact .cons (h x (by simp)) (ih fun y hy => h y (by simp at hy ⊢; simp [hy]))
theorem parts_rel {ρ ρ' : Operand → Value} : ∀ {l : List (Nat × Operand)}, (∀ x ∈ l, Rel μ (ρ x.2) (ρ' x.2)) → RelP μ (l.map fun p => (p.1, ρ p.2)) (l.map fun p => (p.1, ρ' p.2))
  | [], _ => .nil
  | x :: l, h => .cons (h x (by simp)) (parts_rel fun y hy => h y (by simp [hy]))
def nilKind : TypeDesc → Value → Value → Bool
  | .slice _, .slice none _ _, .slice (some _) _ _ => true
  | .map _ _, .map none, .map (some _) => true
  | .pointer _, .pointer none, .pointer (some _) => true
  | .func _ _ _, .nilFunc, .func _ _ _ => true
  | _, _, _ => false
def sEqNil (P : Program) (op : BinOp) (t : TypeId) (x y : Value) : Option Value := match P.underlying t with
  | some d => cond (nilKind d x y || nilKind d y x) (match op with
    | .eql => some (.bool false)
    | .neq => some (.bool true)
    | _ => none) none
  | none => none
theorem nilKind_rel {d : TypeDesc} {x y x' y' : Value} (h : nilKind d x y = true) (hx : Rel μ x x') (hy : Rel μ y y') : nilKind d x' y' = true := by
  unfold nilKind at h
  split at h
  · obtain ⟨c, rfl⟩ : ∃ c : Nat × Nat, x' = .slice none c.1 c.2 := by cases hx; exact ⟨(_, _), rfl⟩
    cases hy <;> first | rfl | (rename_i hg; simp [gr] at hg)
  · obtain rfl := hx.eq (by simp [gr])
    cases hy <;> first | rfl | (rename_i hg; simp [gr] at hg)
  · obtain rfl := hx.eq (by simp [gr])
    cases hy <;> rfl
  · obtain rfl := hx.eq (by simp [gr])
    cases hy <;> rfl
  · cases h
theorem run_equal_nil {d : TypeDesc} {t : TypeId} (hu : P.underlying t = some d) {x y : Value} (h : nilKind d x y = true ∨ nilKind d y x = true) (W : World) : (Op.equal t x y).run P W = .ok false W := by
  unfold Op.equal Op.maxDepth
  rw [Op.equalIn]
  simp only [Sem.run_bind, run_underlying hu W, Result.andThen_ok]
  rcases h with h | h <;> (unfold nilKind at h; split at h) <;> first | rfl | (cases h; done)
theorem nilKind_shape {d : TypeDesc} {x y : Value} (h : nilKind d x y = true ∨ nilKind d y x = true) (op : BinOp) (t : TypeId) (a b : Operand) (W : World) :
    (eqGuard op t a b x y).run P W = .ok () W ∧ (op = .eql → binOp op t x y = do pure (.bool (← Op.equal t x y))) ∧ (op = .neq → binOp op t x y = do pure (.bool (!(← Op.equal t x y)))) := by
  rcases h with h | h <;> (unfold nilKind at h; split at h) <;> first | (cases h; done) | skip
  all_goals
    refine ⟨?_, ?_, ?_⟩
    · unfold eqGuard
      split <;> first | rfl | (simp; done) | skip
    · rintro rfl; rfl
    · rintro rfl; rfl
theorem sEqNil_ok {op : BinOp} {t : TypeId} {x y x' y' v : Value} (h : sEqNil P op t x y = some v) (hx : Rel μ x x') (hy : Rel μ y y') (a b : Operand) : Yields P μ get G w (do eqGuard op t a b x' y'; binOp op t x' y') v := by
  unfold sEqNil at h
  split at h
  · rename_i d hu
    cases hc : (nilKind d x y || nilKind d y x) with
    | false => simp [hc] at h
    | true =>
      simp only [hc, cond_true] at h
      have hk : nilKind d x' y' = true ∨ nilKind d y' x' = true := by
        rcases Bool.or_eq_true_iff.1 hc with q | q
        · exact .inl (nilKind_rel q hx hy)
        · exact .inr (nilKind_rel q hy hx)
      have hs := fun W => nilKind_shape (P := P) hk op t a b W
      have he := fun W => run_equal_nil hu hk W
      split at h
      · cases h
        exact ⟨.bool false, .ground rfl, fun W _ => by rw [Sem.run_bind, (hs W).1, Result.andThen_ok, (hs W).2.1 rfl]; simp [he W]⟩
      · cases h
        exact ⟨.bool true, .ground rfl, fun W _ => by rw [Sem.run_bind, (hs W).1, Result.andThen_ok, (hs W).2.2 rfl]; simp [he W]⟩
      · cases h
  · cases h
def sLen (P : Program) (get : Nat → Option SB) (ts : Array TypeId) (x : Value) : Option Value := match ts[0]? with
  | some t => match P.underlying t, x with
    | some (.slice _), .slice _ n _ => some (.int .i64 (n : Int))
    | some (.map _ _), .map r => match mapAt get (.map r) with
      | some es => some (.int .i64 (es.length : Int))
      | none => none
    | _, _ => none
  | none => none
theorem RelM.length {μ : Mu} : ∀ {es : List (Value × Value)} {rs : List MapEntry}, RelM μ es rs → rs.length = es.length
  | [], [], _ => rfl
  | _ :: _, _ :: _, ⟨_, t⟩ => by simp [RelM.length t]
  | [], _ :: _, h => h.elim
  | _ :: _, [], h => h.elim
theorem sLen_ok (hs : Sees P N G μ get w) {ts : Array TypeId} {x p v : Value} {ty : TypeId} (h : sLen P get ts x = some v) (hp : Rel μ x p) : Yields P μ get G w (Builtin.len_ ts ty #[p]) v := by
  unfold sLen at h
  split at h
  · rename_i t ht
    split at h
    · rename_i e a n c hu
      cases h
      obtain ⟨a', c', rfl⟩ : ∃ a' c', p = .slice a' n c' := by
        cases hp <;> exact ⟨_, _, rfl⟩
      exact ⟨_, .ground rfl, fun W _ => by simp [Builtin.len_, ht, run_underlying hu W, goInt]⟩
    · rename_i k e r hu
      split at h
      · rename_i es hes
        cases h
        obtain ⟨rs, hrs, hw⟩ := map_at (G := G) hs hes hp
        have hl := hrs.length
        simp only [Array.length_toList] at hl
        refine ⟨_, .ground rfl, fun W hW => ?_⟩
        rcases hw with ⟨rfl, rfl⟩ | ⟨b, cl, rfl, hb⟩
        · simp at hl; simp [Builtin.len_, ht, run_underlying hu W, goInt, ← hl]
        · simp [Builtin.len_, ht, run_underlying hu W, goInt, getObj_map (hb W hW), hl]
      · cases h
    · cases h
  · cases h
def sCap (P : Program) (ts : Array TypeId) (x : Value) : Option Value := match ts[0]? with
  | some t => match P.underlying t, x with
    | some (.slice _), .slice (some a) _ c => match a.spot with
      | some 0 => some (.int .i64 (c : Int))
      | _ => none
    | _, _ => none
  | none => none
theorem sCap_ok {ts : Array TypeId} {x p v : Value} {ty : TypeId} (h : sCap P ts x = some v) (hp : Rel μ x p) : Yields P μ get G w (Builtin.cap_ ts ty #[p]) v := by
  unfold sCap at h
  split at h
  · rename_i t ht
    split at h
    · rename_i e a n c hu
      obtain ⟨blk, off, sp⟩ := a
      split at h
      · cases h
        rename_i hsp
        simp only at hsp
        subst hsp
        cases hp with
        | ground hg => simp [gr] at hg
        | slice hm => exact ⟨_, .ground rfl, fun W _ => by simp [Builtin.cap_, ht, run_underlying hu W, goInt]⟩
      · cases h
    · cases h
  · cases h
/-- A part of a composite value. -/
def sFieldV (P : Program) (s : TypeId) (f : Nat) : Value → Option Value
  | .agg cs => match P.underlying s with
    | some (.struct fs) => match fs[f]? with
      | some fd => readAt P fd.type cs.toList fd.offset
      | none => none
    | _ => none
  | _ => none
theorem sFieldV_ok {s : TypeId} {f : Nat} {x p v : Value} (h : sFieldV P s f x = some v) (hp : Rel μ x p) : Yields P μ get G w (Instr.field s p f) v := by
  cases x with
  | agg cs =>
    simp only [sFieldV] at h
    split at h
    · rename_i fs hu
      split at h
      · rename_i fd hf
        obtain ⟨cs', rfl, hl⟩ := agg_rel hp
        obtain ⟨v', h1, h2⟩ := run_part_read h hl
        refine ⟨v', h1, fun W _ => ?_⟩
        simp only [Instr.field, Sem.run_bind, run_underlying hu W, Result.andThen_ok, hf, asAgg, Sem.run_pure, h2 W]
      · cases h
    · cases h
  | _ => simp [sFieldV] at h
def sIndexV (P : Program) (t : TypeId) (x ix : Value) : Option Value := match natV ix, P.underlying t, x with
  | some i, some (.array n e), .agg cs => match P.info? e with
    | some it => cond (Nat.blt i n) (readAt P e cs.toList (i * it.size)) none
    | none => none
  | _, _, _ => none
theorem sIndexV_ok {t : TypeId} {x p ix iv v : Value} (h : sIndexV P t x ix = some v) (hp : Rel μ x p) (hi : Rel μ ix iv) : Yields P μ get G w (Instr.index t p iv) v := by
  unfold sIndexV at h
  split at h
  · rename_i i n e cs hn hu
    obtain ⟨k, rfl, rfl⟩ := natV_rel hn hi
    split at h
    · rename_i it hit
      cases hc : Nat.blt i n with
      | false => simp [hc] at h
      | true =>
        simp only [hc, cond_true] at h
        have hlt : i < n := by simp only [Nat.blt_eq] at hc; exact hc
        obtain ⟨cs', rfl, hl⟩ := agg_rel hp
        obtain ⟨v', h1, h2⟩ := run_part_read h hl
        refine ⟨v', h1, fun W _ => ?_⟩
        have h3 : (0 : Int) ≤ (i : Int) ∧ (i : Int) < (n : Int) := ⟨by omega, by omega⟩
        simp only [Instr.index, Sem.run_bind, asIntOf, Sem.run_pure, Result.andThen_ok, run_underlying hu W, h3, and_self, if_true, sizeOf, typeInfo, run_program, hit, Int.toNat_natCast, h2 W]
    · cases h
  · cases h
/-- A value without addresses, out of operands without addresses. -/
def sGround (P : Program) (ρ : Operand → Value) (o : Oper) : Option Value := cond (gKind o.op && o.op.operands.toList.all fun x => gr 6 (ρ x)) (match pureOut P (execOp ρ o) with
  | some (.value v) => cond (gr 6 v) (some v) none
  | _ => none) none
def orElse' (a : Option Value) (b : Unit → Option Value) : Option Value := match a with
  | some v => some v
  | none => b ()
/-- What an operation yields that leaves memory as it is. -/
def pureOp (P : Program) (G : Gl) (get : Nat → Option SB) (ρ : Operand → Value) (o : Oper) : Option Value := match o.op with
  | .move x | .assign x => some (ρ x)
  | .pick c a b => match ρ c with
    | .bool t => some (cond t (ρ a) (ρ b))
    | _ => none
  | .extract t i => match ρ t with
    | .tuple vs => vs.toList[i]?
    | _ => none
  | .load t a => sLoad P G get t (ρ a)
  | .fieldAddr s x f => sField P s f (ρ x)
  | .indexAddr t x ix => orElse' (sIndexA P t (ρ x) (ρ ix)) fun _ => sIndexF P t (ρ x) (ρ ix)
  | .build t parts => sBuild P t (parts.toList.map fun p => (p.1, ρ p.2))
  | .lookup t x ix ok => sLookup P get t (ρ x) (ρ ix) ok
  | .makeFunc (.func f) first captured => some (.func (.func f) (first.map ρ) (captured.map ρ))
  | .makeInterface t x => cond (P.concrete t) (some (.iface t (ρ x))) none
  | .nilCheck x => match ρ x with
    | .pointer (some a) => some (.pointer (some a))
    | .func (.func f) a b => some (.func (.func f) a b)
    | _ => none
  | .slice t x lo hi none => orElse' (sSlice2 P t (ρ x) (lo.map ρ) (hi.map ρ)) fun _ => orElse' (sSliceF P t (ρ x) (lo.map ρ) (hi.map ρ)) fun _ => sGround P ρ o
  | .binOp op t x y _ => orElse' (sEqAgg P op t (ρ x) (ρ y)) fun _ => orElse' (sGround P ρ o) fun _ => sEqNil P op t (ρ x) (ρ y)
  | .call c => match c.callee, c.args.toList with
    | .builtin .len, [x] => orElse' (sLen P get c.argTypes (ρ x)) fun _ => sGround P ρ o
    | .builtin .min, _ | .builtin .max, _ => sGround P ρ o
    | .builtin .cap, [x] => orElse' (sCap P c.argTypes (ρ x)) fun _ => sGround P ρ o
    | _, _ => none
  | .field t x f => orElse' (sFieldV P t f (ρ x)) fun _ => sGround P ρ o
  | .index t x ix => orElse' (sIndexV P t (ρ x) (ρ ix)) fun _ => sGround P ρ o
  | _ => sGround P ρ o
/-- What is said of an operation's yield. -/
def YieldsN (P : Program) (μ : Mu) (get : Nat → Option SB) (G : Gl) (w : World) (s : Sem Next) (v : Value) : Prop :=
  ∃ v', Rel μ v v' ∧ ∀ W, Same μ get G w W → s.run P W = .ok (.value v') W
theorem Yields.next {s : Sem Value} {v : Value} (h : Yields P μ get G w s v) : YieldsN P μ get G w (do pure (.value (← s))) v := by
  obtain ⟨v', h1, h2⟩ := h
  exact ⟨v', h1, fun W hW => by rw [Sem.run_bind, h2 W hW]; rfl⟩
theorem sGround_ok {ρ ρ' : Operand → Value} {o : Oper} {v : Value} (h : sGround P ρ o = some v) (hr : ∀ x ∈ o.op.operands, Rel μ (ρ x) (ρ' x)) : YieldsN P μ get G w (execOp ρ' o) v := by
  unfold sGround at h
  cases hc : (gKind o.op && o.op.operands.toList.all fun x => gr 6 (ρ x)) with
  | false => rw [hc] at h; cases h
  | true =>
    rw [hc] at h
    simp only [cond_true] at h
    rw [Bool.and_eq_true, List.all_eq_true] at hc
    have e : execOp ρ o = execOp ρ' o := execOp_congr hc.1 fun x hx => ((hr x hx).eq (hc.2 x (by simpa using hx))).symm
    split at h
    · rename_i v' hp
      cases hg : gr 6 v' with
      | false => simp [hg] at h
      | true =>
        simp only [hg, cond_true, Option.some.injEq] at h
        subst h
        exact ⟨v', .ground hg, fun W _ => by rw [← e]; exact pureOut_run hp W⟩
    · cases h
theorem orElse_cases {a : Option Value} {b : Unit → Option Value} {v : Value} (h : orElse' a b = some v) : a = some v ∨ b () = some v := by
  unfold orElse' at h
  split at h
  · exact .inl h
  · exact .inr h
theorem pureOp_ok (hG : G.l.all (fun x => x.2.1.toList.all (gr 6)) = true) (hs : Sees P N G μ get w) {ρ ρ' : Operand → Value} {o : Oper} {v : Value} (h : pureOp P G get ρ o = some v) (hr : ∀ x ∈ o.op.operands, Rel μ (ρ x) (ρ' x)) : YieldsN P μ get G w (execOp ρ' o) v := by
  have hgr := fun q => sGround_ok (P := P) (G := G) (get := get) (w := w) (v := v) (o := o) q hr
  unfold pureOp at h
  cases ho : o.op with
  | move x =>
    simp only [ho] at h hr
    cases h
    exact ⟨ρ' x, hr x (by simp [Op.operands]), fun W _ => by simp [execOp, ho]⟩
  | assign x =>
    simp only [ho] at h hr
    cases h
    exact ⟨ρ' x, hr x (by simp [Op.operands]), fun W _ => by simp [execOp, ho]⟩
  | pick c a b =>
    simp only [ho] at h hr
    have hc := hr c (by simp [Op.operands])
    split at h
    · rename_i t ht
      cases h
      rw [ht] at hc
      have hc' := hc.eq rfl
      cases t with
      | true => exact ⟨ρ' a, hr a (by simp [Op.operands]), fun W _ => by simp [execOp, ho, hc', asBool]⟩
      | false => exact ⟨ρ' b, hr b (by simp [Op.operands]), fun W _ => by simp [execOp, ho, hc', asBool]⟩
    · cases h
  | extract t i =>
    simp only [ho] at h hr
    have ht := hr t (by simp [Op.operands])
    split at h
    · rename_i vs hv
      rw [hv] at ht
      obtain ⟨vs', e, hl⟩ := tuple_rel ht
      obtain ⟨v', h1, h2⟩ := hl.get h
      rw [Array.getElem?_toList] at h1
      exact ⟨v', h2, fun W _ => by simp [execOp, ho, e, Instr.extract, h1]⟩
    · cases h
  | load t a =>
    simp only [ho] at h hr
    have := (sLoad_ok hG hs h (hr a (by simp [Op.operands]))).next
    simpa only [execOp, ho] using this
  | fieldAddr s x f =>
    simp only [ho] at h hr
    have := (sField_ok (G := G) (get := get) (w := w) h (hr x (by simp [Op.operands]))).next
    simpa only [execOp, ho] using this
  | indexAddr t x ix =>
    simp only [ho] at h hr
    rcases orElse_cases h with h | h
    · have := (sIndexA_ok (G := G) (get := get) (w := w) h (hr x (by simp [Op.operands])) (hr ix (by simp [Op.operands]))).next
      simpa only [execOp, ho] using this
    · have := (sIndexF_ok (G := G) (get := get) (w := w) h (hr x (by simp [Op.operands])) (hr ix (by simp [Op.operands]))).next
      simpa only [execOp, ho] using this
  | build t parts =>
    simp only [ho] at h hr
    have hpr : RelP μ (parts.toList.map fun p => (p.1, ρ p.2)) (parts.toList.map fun p => (p.1, ρ' p.2)) := parts_rel fun x hx => hr x.2 (by simp only [Op.operands, List.mem_toArray, List.mem_map]; exact ⟨x, hx, rfl⟩)
    have := (sBuild_ok (G := G) (get := get) (w := w) h hpr).next
    have e : (parts.toList.map fun p => (p.1, ρ' p.2)).toArray = parts.map fun p => (p.1, ρ' p.2) := by
      apply Array.toList_inj.1; simp
    rw [e] at this
    simpa only [execOp, ho] using this
  | lookup t x ix ok =>
    simp only [ho] at h hr
    have := (sLookup_ok hs h (hr x (by simp [Op.operands])) (hr ix (by simp [Op.operands]))).next
    simpa only [execOp, ho] using this
  | makeFunc fn first captured =>
    cases fn with
    | func f =>
      simp only [ho] at h hr
      cases h
      refine ⟨.func (.func f) (first.map ρ') (captured.map ρ'), .func (map_rel fun x hx => hr x (by simp [Op.operands, hx])) (map_rel fun x hx => hr x (by simp [Op.operands, hx])), fun W _ => ?_⟩
      simp [execOp, ho, Instr.makeFunc]
    | _ => simp only [ho] at h hr; exact hgr h
  | makeInterface t x =>
    simp only [ho] at h hr
    cases hc : P.concrete t with
    | false => simp [hc] at h
    | true =>
      simp only [hc, cond_true, Option.some.injEq] at h
      subst h
      exact ⟨.iface t (ρ' x), .iface (hr x (by simp [Op.operands])), fun W _ => by simp [execOp, ho, run_makeInterface W t (ρ' x) hc]⟩
  | nilCheck x =>
    simp only [ho] at h hr
    have hx := hr x (by simp [Op.operands])
    split at h
    · rename_i a ha
      cases h
      rw [ha] at hx
      cases hq : ρ' x with
      | pointer b =>
        rw [hq] at hx
        cases b with
        | none => cases hx
        | some b => exact ⟨_, hx, fun W _ => by simp [execOp, ho, hq]⟩
      | _ => rw [hq] at hx; cases hx
    · rename_i f a b hf
      cases h
      rw [hf] at hx
      cases hq : ρ' x with
      | func fn c d =>
        rw [hq] at hx
        have : fn = .func f := by cases hx <;> rfl
        subst this
        exact ⟨_, hx, fun W _ => by simp [execOp, ho, hq]⟩
      | _ => rw [hq] at hx; cases hx
    · cases h
  | slice t x lo hi mx =>
    cases mx with
    | none =>
      simp only [ho] at h hr
      rcases orElse_cases h with h | h
      · have := (sSlice2_ok (G := G) (get := get) (w := w) (low' := lo.map ρ') (high' := hi.map ρ') h (hr x (by simp [Op.operands]))
          (fun v hv => by cases lo with
            | none => cases hv
            | some y => cases hv; exact ⟨_, rfl, hr y (by simp [Op.operands])⟩) (fun e => by cases lo with
            | none => rfl
            | some y => cases e)
          (fun v hv => by cases hi with
            | none => cases hv
            | some y => cases hv; exact ⟨_, rfl, hr y (by simp [Op.operands])⟩) (fun e => by cases hi with
            | none => rfl
            | some y => cases e)).next
        simpa only [execOp, ho, Option.map_none] using this
      · rcases orElse_cases h with h | h
        · have := (sSliceF_ok (G := G) (get := get) (w := w) (low' := lo.map ρ') (high' := hi.map ρ') h (hr x (by simp [Op.operands]))
          (fun v hv => by cases lo with
            | none => cases hv
            | some y => cases hv; exact ⟨_, rfl, hr y (by simp [Op.operands])⟩) (fun e => by cases lo with
            | none => rfl
            | some y => cases e)
          (fun v hv => by cases hi with
            | none => cases hv
            | some y => cases hv; exact ⟨_, rfl, hr y (by simp [Op.operands])⟩) (fun e => by cases hi with
            | none => rfl
            | some y => cases e)).next
          simpa only [execOp, ho, Option.map_none] using this
        · exact hgr h
    | some m => simp only [ho] at h hr; exact hgr h
  | binOp op t x y yt =>
    simp only [ho] at h hr
    rcases orElse_cases h with h | h
    · have := (sEqAgg_ok (G := G) (get := get) (w := w) h (hr x (by simp [Op.operands])) (hr y (by simp [Op.operands])) x y).next
      simpa only [execOp, ho] using this
    rcases orElse_cases h with h | h
    · exact hgr h
    · have := (sEqNil_ok (G := G) (get := get) (w := w) h (hr x (by simp [Op.operands])) (hr y (by simp [Op.operands])) x y).next
      simpa only [execOp, ho] using this
  | call c =>
    simp only [ho] at h hr
    split at h
    · rename_i x hcal hargs
      rcases orElse_cases h with h | h
      · have := (sLen_ok (G := G) (ty := o.type) hs h (hr x (by simp only [Op.operands, Call.operands, hcal]; have : c.args = #[x] := Array.toList_inj.1 (by simpa using hargs); simp [this]))).next
        have e : c.args = #[x] := Array.toList_inj.1 (by simpa using hargs)
        simpa only [execOp, ho, resolve, hcal, invoke, builtin, e, List.map_toArray, List.map_cons, List.map_nil, pure_bind] using this
      · exact hgr h
    · exact hgr h
    · exact hgr h
    · rename_i x hcal hargs
      have e : c.args = #[x] := Array.toList_inj.1 (by simpa using hargs)
      rcases orElse_cases h with h | h
      · have := (sCap_ok (G := G) (get := get) (w := w) (ty := o.type) h (hr x (by simp only [Op.operands, Call.operands, hcal]; simp [e]))).next
        simpa only [execOp, ho, resolve, hcal, invoke, builtin, e, List.map_toArray, List.map_cons, List.map_nil, pure_bind] using this
      · exact hgr h
    · cases h
  | field t x f =>
    simp only [ho] at h hr
    rcases orElse_cases h with h | h
    · have := (sFieldV_ok (G := G) (get := get) (w := w) h (hr x (by simp [Op.operands]))).next
      simpa only [execOp, ho] using this
    · exact hgr h
  | index t x ix =>
    simp only [ho] at h hr
    rcases orElse_cases h with h | h
    · have := (sIndexV_ok (G := G) (get := get) (w := w) h (hr x (by simp [Op.operands])) (hr ix (by simp [Op.operands]))).next
      simpa only [execOp, ho] using this
    · exact hgr h
  | _ => simp only [ho] at h hr; exact hgr h
end
end Go.Proofs.Ytpaabfecoghibaa

/- The operations that make memory, or write it, reckoned on the shadow. Over any program. Conditions: as each law says. -/
namespace Go.Proofs.Ytpaabfecoghibaa
open Go Go.RowKit
set_option linter.unusedSimpArgs false
set_option linter.unusedVariables false
/-- Blocks that must stay as they are. -/
def Keep (μ : Mu) (frz : List Nat) (w w' : World) : Prop := ∀ j ∈ frz, ∀ b κ, μ j = some (b, κ) → w'.heap[b]? = w.heap[b]?
theorem Keep.refl {μ : Mu} {frz : List Nat} {w : World} : Keep μ frz w w := fun _ _ _ _ _ => rfl
theorem Keep.trans {μ ν : Mu} {frz : List Nat} {w w' w'' : World} (h : Keep μ frz w w') (hm : μ.le ν) (k : Keep ν frz w' w'') : Keep μ frz w w'' := fun j hj b κ e => (k j hj b κ (hm _ _ e)).trans (h j hj b κ e)
/-- None of them is of a family. -/
noncomputable def frzOk (h : SH) (frz : List Nat) (f : Nat) : Bool := frz.all fun k => match h.tr.get k with
  | some sb => !(Nat.beq (famOf k sb) f)
  | none => false
section
variable {P : Program} {N : Lim} {G : Gl} {μ : Mu} {h : SH} {w : World} {frz : List Nat}
theorem frz_apart (d : Den P N G μ h w) {j : Nat} {sb : SB} (hj : h.tr.get j = some sb) (hf : frzOk h frz (famOf j sb) = true) {b κ : Nat} (hb : μ j = some (b, κ)) : ∀ k ∈ frz, ∀ b' κ', μ k = some (b', κ') → b' ≠ b := fun k hk b' κ' hm e => by
  subst e
  have := List.all_eq_true.1 hf k hk
  split at this
  · rename_i sk hsk
    refine d.apart k j sk sb b' κ' κ hsk hj (fun e => ?_) hm hb
    rw [e] at this; simp at this
  · cases this
theorem frz_old (d : Den P N G μ h w) {f : Nat} (hf : frzOk h frz f = true) : ∀ k ∈ frz, ∀ b' κ', μ k = some (b', κ') → b' < w.heap.size := fun k hk b' κ' hm => by
  have := List.all_eq_true.1 hf k hk
  split at this
  · rename_i sk hsk
    obtain ⟨b, κ, h1, _, h3⟩ := (d.blk k sk hsk).at
    rw [hm] at h1; cases h1; exact h3
  · cases this
/-- What has come of steps that yield a value. -/
def Made (P : Program) (N : Lim) (G : Gl) (μ : Mu) (frz : List Nat) (w : World) (s : Sem Value) (v : Value) (h' : SH) : Prop :=
  ∃ μ' v' w', s.run P w = .ok v' w' ∧ μ.le μ' ∧ Den P N G μ' h' w' ∧ Rel μ' v v' ∧ Bel N w w' ∧ Keep μ frz w w'
/-- .. and no block that there was has changed. -/
def MadeN (P : Program) (N : Lim) (G : Gl) (μ : Mu) (frz : List Nat) (w : World) (s : Sem Value) (v : Value) (h' : SH) : Prop :=
  ∃ μ' v' w', s.run P w = .ok v' w' ∧ μ.le μ' ∧ Den P N G μ' h' w' ∧ Rel μ' v v' ∧ Bel N w w' ∧ Keep μ frz w w' ∧ ∀ k, k < w.heap.size → w'.heap[k]? = w.heap[k]?
def Done (P : Program) (N : Lim) (G : Gl) (μ : Mu) (frz : List Nat) (w : World) (s : Sem Unit) (h' : SH) : Prop :=
  ∃ w', s.run P w = .ok () w' ∧ Den P N G μ h' w' ∧ Bel N w w' ∧ Keep μ frz w w'
theorem frz_live (d : Den P N G μ h w) (hl : frz.all (fun k => (h.tr.get k).isSome) = true) : ∀ k ∈ frz, ∀ b' κ', μ k = some (b', κ') → b' < w.heap.size := fun k hk b' κ' hm => by
  have := List.all_eq_true.1 hl k hk
  obtain ⟨sk, hsk⟩ := Option.isSome_iff_exists.1 this
  obtain ⟨b, κ, h1, _, h3⟩ := (d.blk k sk hsk).at
  rw [hm] at h1; cases h1; exact h3
noncomputable def frzLive (h : SH) (frz : List Nat) : Bool := frz.all fun k => (h.tr.get k).isSome
/-- A new row. -/
theorem made_row (d : Den P N G μ h w) (hl : frzLive h frz = true) {s : Sem Value} {v' : Value} {t : TypeId} {cur : Array Value} {κ sz n c : Nat} {cs : List Value} (isSl : Bool)
    (hsz : (P.info? t).map (·.size) = some sz) (hcur : cur.size = κ * sz) (hrel : RelL μ cs cur.toList)
    (hv : v' = cond isSl (.slice (some ⟨w.heap.size, 0, none⟩) n c) (.pointer (some ⟨w.heap.size, 0, none⟩))) (hrun : s.run P w = .ok v' (w.alloc (.cells cur t))) :
    MadeN P N G μ frz w s (cond isSl (.slice (some ⟨h.next, 0, some 0⟩) n c) (.pointer (some ⟨h.next, 0, some 0⟩))) (h.push (.row t cs h.next)) := by
  have hnone := d.muOld h.next (Nat.le_refl _)
  have hle : μ.le (μ.add h.next w.heap.size κ) := Mu.le_add hnone
  have hlen := hrel.length
  simp only [Array.length_toList] at hlen
  refine ⟨μ.add h.next w.heap.size κ, v', _, hrun, hle, d.push _ κ _ (fun t' cs' f e => by cases e; rfl) ?_, ?_, (Bel.refl N w).alloc d.base _, fun k hk b κ' hm => ?_, fun k hk => Below.heap_alloc w _ _ hk⟩
  · refine ⟨w.heap.size, κ, cur, sz, Mu.add_same, d.base.new, heap_alloc_new w _, hsz, hcur, by omega, ?_⟩
    rw [← hlen, List.take_of_length_le (by simp)]
    exact hrel.mono hle
  · subst hv
    cases isSl
    · exact .ptr Mu.add_same
    · exact .slice Mu.add_same
  · exact Below.heap_alloc w _ _ (frz_live d hl k hk b κ' hm)
noncomputable def sAlloc (P : Program) (h : SH) (frz : List Nat) (t : TypeId) : Option (Value × SH) := match P.info? t with
  | some i => match i.zero with
    | some z => cond (frzLive h frz && z.cells.toList.all (gr 6) && Nat.beq z.cells.size i.size) (some (.pointer (some ⟨h.next, 0, some 0⟩), h.push (.row t z.cells.toList h.next))) none
    | none => none
  | none => none
theorem sAlloc_ok (d : Den P N G μ h w) {t : TypeId} {v : Value} {h' : SH} (e : sAlloc P h frz t = some (v, h')) : MadeN P N G μ frz w (Instr.alloc t true (.tuple #[])) v h' := by
  unfold sAlloc at e
  split at e
  · rename_i i hi
    split at e
    · rename_i z hz
      cases hc : (frzLive h frz && z.cells.toList.all (gr 6) && Nat.beq z.cells.size i.size) with
      | false => rw [hc] at e; cases e
      | true =>
        simp only [hc, cond_true, Option.some.injEq, Prod.mk.injEq] at e
        obtain ⟨rfl, rfl⟩ := e
        simp only [Bool.and_eq_true] at hc
        obtain ⟨⟨h1, h2⟩, h3⟩ := hc
        have h3 := Nat.eq_of_beq_eq_true h3
        have := made_row (P := P) (G := G) (κ := 1) (n := 0) (c := 0) (s := Instr.alloc t true (.tuple #[])) d h1 false (t := t) (cur := z.cells) (sz := i.size) (by rw [hi]; rfl) (by omega) (RelL.refl h2) rfl (by
          simp only [Instr.alloc, zeroValue, typeInfo, Sem.run_bind, run_program, Result.andThen_ok, hi, Sem.run_pure, hz, newVar, newRow, run_newObj]
          rfl)
        exact this
    · cases e
  · cases e
noncomputable def sBox (P : Program) (h : SH) (frz : List Nat) (t : TypeId) (x : Value) : Option (Value × SH) := match P.info? t with
  | some i => cond (frzLive h frz && Nat.beq x.cells.size i.size) (some (.pointer (some ⟨h.next, 0, some 0⟩), h.push (.row t x.cells.toList h.next))) none
  | none => none
theorem sBox_ok (d : Den P N G μ h w) {t : TypeId} {x x' v : Value} {h' : SH} (e : sBox P h frz t x = some (v, h')) (hx : Rel μ x x') : MadeN P N G μ frz w (Instr.box t x') v h' := by
  unfold sBox at e
  split at e
  · rename_i i hi
    cases hc : (frzLive h frz && Nat.beq x.cells.size i.size) with
    | false => rw [hc] at e; cases e
    | true =>
      simp only [hc, cond_true, Option.some.injEq, Prod.mk.injEq] at e
      obtain ⟨rfl, rfl⟩ := e
      simp only [Bool.and_eq_true] at hc
      have h3 := Nat.eq_of_beq_eq_true hc.2
      have hr := cells_rel hx
      have hs := arr_size hr
      exact made_row (P := P) (G := G) (κ := 1) (n := 0) (c := 0) (s := Instr.box t x') d hc.1 false (t := t) (cur := x'.cells) (sz := i.size) (by rw [hi]; rfl) (by omega) hr rfl (by
        simp only [Instr.box, newVar, newRow, Sem.run_bind, run_newObj, Result.andThen_ok, Sem.run_pure]
        rfl)
  · cases e
/-- So many cells, each like those of one element. -/
def madeL (l : List Value) (n : Nat) : List Value := (List.range n).map fun k => l.getD (k % l.length) undef
def madeC (z : Array Value) (n : Nat) : Array Value := ⟨madeL z.toList n⟩
theorem madeC_eq {z : Array Value} {n : Nat} (h : 0 < z.size) : madeC z n = madeCells z n := by
  apply Array.toList_inj.1
  simp only [madeC, madeL, madeCells, Array.toList_map, Array.toList_range]
  refine List.map_congr_left fun k _ => ?_
  have hk : k % z.size < z.size := Nat.mod_lt _ h
  rw [getElem!_pos z (k % z.size) hk]
  simp only [Array.length_toList, List.getD_eq_getElem?_getD, Array.getElem?_toList]
  rw [Array.getElem?_eq_getElem hk]; rfl
noncomputable def sBuildSlice (P : Program) (h : SH) (frz : List Nat) (t : TypeId) (len : Nat) (parts : List (Nat × Value)) : Option (Value × SH) := match P.underlying t with
  | some (.slice e) => match P.info? e with
    | some i => match i.zero with
      | some z => cond (frzLive h frz && z.cells.toList.all (gr 6) && Nat.ble (len * i.size) 65536 && (Nat.blt 0 i.size) && Nat.beq z.cells.size i.size) (match Instr.fill (fun k => some (k * i.size, i.size)) (madeC z.cells (len * i.size)) parts with
        | some cells => some (.slice (some ⟨h.next, 0, some 0⟩) len len, h.push (.row e cells.toList h.next))
        | none => none) none
      | none => none
    | none => none
  | _ => none
theorem fill_size (place : Nat → Option (Nat × Nat)) : ∀ (ps : List (Nat × Value)) (c r : Array Value), Instr.fill place c ps = some r → r.size = c.size
  | [], c, r, h => by simp only [Instr.fill, Option.some.injEq] at h; rw [h]
  | (i, v) :: ps, c, r, h => by
    simp only [Instr.fill] at h
    cases hp : place i with
    | none => simp [hp] at h
    | some p =>
      simp only [hp] at h
      split at h
      · cases h
      · rw [fill_size place ps _ r h]
        have : ∀ (l : List (Value × Nat)) (c : Array Value), (l.foldl (fun (cs : Array Value) x => cs.setIfInBounds (p.1 + x.2) x.1) c).size = c.size := fun l => by
          induction l with
          | nil => intro c; rfl
          | cons x l ih => intro c; rw [List.foldl_cons, ih]; simp
        rw [← Array.foldl_toList]
        exact this _ _
theorem all_made {z : Array Value} {n : Nat} (h : z.toList.all (gr 6) = true) (h0 : 0 < z.size) : (madeCells z n).toList.all (gr 6) = true := by
  rw [List.all_eq_true] at h ⊢
  intro x hx
  simp only [madeCells, Array.toList_map, Array.toList_range, List.mem_map, List.mem_range] at hx
  obtain ⟨k, _, rfl⟩ := hx
  refine h _ ?_
  rw [getElem!_pos z (k % z.size) (Nat.mod_lt _ h0)]
  simp
theorem sBuildSlice_ok (d : Den P N G μ h w) {t : TypeId} {len : Nat} {ps ps' : List (Nat × Value)} {v : Value} {h' : SH} (e : sBuildSlice P h frz t len ps = some (v, h')) (hp : RelP μ ps ps') : MadeN P N G μ frz w (Instr.buildSlice t len ps'.toArray) v h' := by
  unfold sBuildSlice at e
  split at e
  · rename_i el hu
    split at e
    · rename_i i hi
      split at e
      · rename_i z hz
        cases hc : (frzLive h frz && z.cells.toList.all (gr 6) && Nat.ble (len * i.size) 65536 && (Nat.blt 0 i.size) && Nat.beq z.cells.size i.size) with
        | false => rw [hc] at e; cases e
        | true =>
          simp only [hc, cond_true] at e
          simp only [Bool.and_eq_true, Nat.blt_eq] at hc
          obtain ⟨⟨⟨⟨h1, h2⟩, h3⟩, h4⟩, h5⟩ := hc
          have h3 := Nat.le_of_ble_eq_true h3
          have h5 := Nat.eq_of_beq_eq_true h5
          rw [madeC_eq (by omega)] at e
          split at e
          · rename_i cells hf
            cases e
            obtain ⟨r', hf', hr⟩ := fill_rel _ hp (RelL.refl (μ := μ) (all_made (n := len * i.size) h2 (by omega))) hf
            have hsz : r'.size = len * i.size := by rw [fill_size _ _ _ _ hf', size_madeCells]
            have hrun : (Instr.buildSlice t len ps'.toArray).run P w = .ok (.slice (some ⟨w.heap.size, 0, none⟩) len len) (w.alloc (.cells r' el)) := by
              have fin : ∀ zz : Array Value, (madeCells z.cells (len * i.size)) = ((Array.range (len * i.size)).map (zz[· % zz.size]!)) →
                  Instr.fill (fun k => some (k * i.size, i.size)) ((Array.range (len * i.size)).map (zz[· % zz.size]!)) ps' = some r' := fun zz hz' => by rw [← hz', hf']
              unfold Instr.buildSlice
              simp only [Sem.run_bind, run_underlying hu w, Result.andThen_ok, sizeOf, typeInfo, run_program, hi, Sem.run_pure]
              rw [if_neg (show ¬ len * i.size > 2 ^ 24 by omega)]
              by_cases h0 : len * i.size = 0
              · have := fin #[] (by rw [h0]; simp [madeCells])
                rw [if_pos h0]
                simp only [Sem.run_bind, Sem.run_pure, Result.andThen_ok, this, newRow, run_newObj]
                rfl
              · have := fin z.cells rfl
                rw [if_neg h0]
                simp only [Sem.run_bind, zeroValue, typeInfo, run_program, Result.andThen_ok, hi, hz, Sem.run_pure, this, newRow, run_newObj]
                rfl
            exact made_row (P := P) (G := G) (κ := len) (n := len) (c := len) d h1 true (by rw [hi]; rfl) hsz hr rfl hrun
          · cases e
      · cases e
    · cases e
  · cases e
noncomputable def sMakeSlice (P : Program) (h : SH) (frz : List Nat) (t : TypeId) (l c : Value) : Option (Value × SH) := match P.underlying t, natV l, natV c with
  | some (.slice e), some ln, some cn => match P.info? e with
    | some i => match i.zero with
      | some z => cond (frzLive h frz && z.cells.toList.all (gr 6) && Nat.ble ln cn && Nat.ble cn 65536 && Nat.ble i.bytes 65536 && Nat.blt 0 i.size && Nat.beq z.cells.size i.size) (some (.slice (some ⟨h.next, 0, some 0⟩) ln cn, h.push (.row e (madeC z.cells (cn * i.size)).toList h.next))) none
      | none => none
    | none => none
  | _, _, _ => none
theorem sMakeSlice_ok (d : Den P N G μ h w) {t : TypeId} {l l' c c' v : Value} {h' : SH} (e : sMakeSlice P h frz t l c = some (v, h')) (hl : Rel μ l l') (hcc : Rel μ c c') : MadeN P N G μ frz w (Instr.makeSlice t l' c') v h' := by
  unfold sMakeSlice at e
  split at e
  · rename_i el ln cn hu hln hcn
    obtain ⟨k1, rfl, rfl⟩ := natV_rel hln hl
    obtain ⟨k2, rfl, rfl⟩ := natV_rel hcn hcc
    split at e
    · rename_i i hi
      split at e
      · rename_i z hz
        cases hc : (frzLive h frz && z.cells.toList.all (gr 6) && Nat.ble ln cn && Nat.ble cn 65536 && Nat.ble i.bytes 65536 && Nat.blt 0 i.size && Nat.beq z.cells.size i.size) with
        | false => rw [hc] at e; cases e
        | true =>
          simp only [hc, cond_true] at e
          simp only [Bool.and_eq_true, Nat.blt_eq] at hc
          obtain ⟨⟨⟨⟨⟨⟨h1, h2⟩, h3⟩, h4⟩, h5⟩, h6⟩, h7⟩ := hc
          have h70 := Nat.eq_of_beq_eq_true h7
          rw [madeC_eq (by omega)] at e
          simp only [Option.some.injEq, Prod.mk.injEq] at e
          obtain ⟨rfl, rfl⟩ := e
          have h3 := Nat.le_of_ble_eq_true h3
          have h4 := Nat.le_of_ble_eq_true h4
          have h5 := Nat.le_of_ble_eq_true h5
          have h7 := Nat.eq_of_beq_eq_true h7
          have hb : (i.bytes : Int) * (cn : Int) ≤ 281474976710656 := by
            have h8 : i.bytes * cn ≤ 65536 * 65536 := Nat.mul_le_mul h5 h4
            have h9 : ((i.bytes * cn : Nat) : Int) ≤ ((65536 * 65536 : Nat) : Int) := Int.ofNat_le.2 h8
            rw [Int.natCast_mul] at h9
            omega
          have hrun := run_make (P := P) w t el i z hu hi hz k1 k2 ln cn (by omega) (by omega) hb (by omega)
          simp only [Int.toNat_natCast] at hrun
          exact made_row (P := P) (G := G) (κ := cn) (n := ln) (c := cn) d h1 true (by rw [hi]; rfl) (size_madeCells _ _) (RelL.refl (all_made h2 (by omega))) rfl hrun
      · cases e
    · cases e
  · cases e
noncomputable def sMakeMap (h : SH) (frz : List Nat) : Option (Value × SH) := cond (frzLive h frz) (some (.map (some h.next), h.push (.map [] true))) none
theorem sMakeMap_ok (d : Den P N G μ h w) {t : TypeId} {v : Value} {h' : SH} (e : sMakeMap h frz = some (v, h')) : MadeN P N G μ frz w (Instr.makeMap t none) v h' := by
  unfold sMakeMap at e
  cases hl : frzLive h frz with
  | false => simp [hl] at e
  | true =>
    simp only [hl, cond_true, Option.some.injEq, Prod.mk.injEq] at e
    obtain ⟨rfl, rfl⟩ := e
    have hnone := d.muOld h.next (Nat.le_refl _)
    have hle : μ.le (μ.add h.next w.heap.size 0) := Mu.le_add hnone
    refine ⟨μ.add h.next w.heap.size 0, .map (some w.heap.size), w.alloc (.map #[] 0), rfl, hle, d.push _ 0 _ (fun t' cs' f e => by cases e) ?_, .map Mu.add_same, (Bel.refl N w).alloc d.base _, fun k hk b κ' hm => Below.heap_alloc w _ _ (frz_live d hl k hk b κ' hm), fun k hk => Below.heap_alloc w _ _ hk⟩
    exact ⟨w.heap.size, 0, #[], 0, Mu.add_same, d.base.new, World.alloc_heap_new w _, trivial, fun _ => ⟨rfl, rfl⟩⟩
end
end Go.Proofs.Ytpaabfecoghibaa

/- Stores and changes of maps, reckoned on the shadow. Over any program. Conditions: as each law says. -/
namespace Go.Proofs.Ytpaabfecoghibaa
open Go Go.RowKit
set_option linter.unusedSimpArgs false
set_option linter.unusedVariables false
theorem take_seg {α : Type} (l vs : List α) (off n : Nat) (h1 : off + vs.length ≤ n) (h2 : n ≤ l.length) : (l.take off ++ vs ++ l.drop (off + vs.length)).take n = (l.take n).take off ++ vs ++ (l.take n).drop (off + vs.length) := by
  rw [List.append_assoc, List.take_append, List.take_append, List.length_take, Nat.min_eq_left (by omega), List.take_take, Nat.min_eq_right (by omega), List.take_of_length_le (show vs.length ≤ n - off by omega), List.drop_take, List.take_take, Nat.min_eq_left (by omega), Nat.sub_sub, List.append_assoc]
theorem setObj_map {P : Program} {w : World} {r : Nat} {es : Array MapEntry} {cl : Nat} (o : Obj) (h : w.heap[r]? = some (.map es cl)) : (setObj r o).run P w = .ok () { w with heap := w.heap.setIfInBounds r o } := by simp [setObj, Sem.run, h]
section
variable {P : Program} {N : Lim} {G : Gl} {μ : Mu} {h : SH} {w : World} {frz : List Nat}
/-- A row's cells behind a store into it. -/
theorem row_store {cs vs : List Value} {cur : Array Value} {vs' : List Value} {off : Nat} (hr : RelL μ cs (cur.toList.take cs.length)) (hc : cs.length ≤ cur.size) (hv : RelL μ vs vs') (hle : off + vs.length ≤ cs.length) :
    RelL μ (cs.take off ++ vs ++ cs.drop (off + vs.length)) ((cur.toList.take off ++ vs' ++ cur.toList.drop (off + vs'.length)).toArray.toList.take (cs.take off ++ vs ++ cs.drop (off + vs.length)).length) := by
  have hl := hv.length
  have e1 : (cs.take off ++ vs ++ cs.drop (off + vs.length)).length = cs.length := by simp; omega
  rw [e1]
  have e2 : (cur.toList.take off ++ vs' ++ cur.toList.drop (off + vs'.length)).toArray.toList.take cs.length = (cur.toList.take cs.length).take off ++ vs' ++ (cur.toList.take cs.length).drop (off + vs'.length) := by
    exact take_seg _ _ _ _ (by omega) (by simpa using hc)
  rw [e2, hl]
  exact ((hr.take off).append hv).append (hr.drop _)
noncomputable def sStore (P : Program) (h : SH) (frz : List Nat) (t : TypeId) (a x : Value) : Option SH := match a with
  | .pointer (some a) => match a.spot, h.tr.get a.block, P.info? t with
    | some 0, some (.row ty cs f), some i => cond (frzOk h frz (2 * f) && Nat.beq x.cells.size i.size && x.cells.toList.all oneV && Nat.ble (a.off + x.cells.toList.length) cs.length) (some (h.put a.block (.row ty (cs.take a.off ++ x.cells.toList ++ cs.drop (a.off + x.cells.toList.length)) f))) none
    | _, _, _ => none
  | _ => none
theorem all_one {vs vs' : List Value} (hr : RelL μ vs vs') (ho : vs.all oneV = true) : ∀ v ∈ vs', v.oneCell' = true := by
  intro v hv
  obtain ⟨i, hi, e⟩ := List.getElem_of_mem hv
  have hlen := hr.length
  obtain ⟨v', h1, h2⟩ := hr.get (List.getElem?_eq_getElem (show i < vs.length by omega))
  rw [List.getElem?_eq_getElem hi, e] at h1
  cases h1
  exact h2.one (List.all_eq_true.1 ho _ (List.getElem_mem _))
theorem sStore_ok (d : Den P N G μ h w) {t : TypeId} {a a' x x' : Value} {h' : SH} (e : sStore P h frz t a x = some h') (ha : Rel μ a a') (hx : Rel μ x x') : Done P N G μ frz w (Instr.storeAt t a' x') h' := by
  unfold sStore at e
  split at e
  · rename_i a
    split at e
    · rename_i ty cs f i hsp hget hi
      cases hc : (frzOk h frz (2 * f) && Nat.beq x.cells.size i.size && x.cells.toList.all oneV && Nat.ble (a.off + x.cells.toList.length) cs.length) with
      | false => rw [hc] at e; cases e
      | true =>
        rw [hc] at e
        simp only [cond_true, Option.some.injEq] at e
        subst e
        simp only [Bool.and_eq_true] at hc
        obtain ⟨⟨⟨h1, h2⟩, h3⟩, h4⟩ := hc
        have h2' := Nat.eq_of_beq_eq_true h2
        have h4' := Nat.le_of_ble_eq_true h4
        obtain ⟨blk, off, sp⟩ := a
        simp only at hsp hget h4' ⊢
        subst hsp
        cases ha with
        | ground hg => simp [gr] at hg
        | ptr hm =>
          rename_i b κ
          obtain ⟨b', κ', cur, sz, g1, g2, g3, g4, g5, g6, g7⟩ := d.blk blk _ hget
          rw [hm] at g1; cases g1
          have hv := cells_rel hx
          have hvl := hv.length
          have hone := all_one hv h3
          have hst := run_storeCells_at P b off ty x'.cells.toList 0 cur w g3 (by omega) hone
          simp only [Nat.add_zero] at hst
          have hs' := arr_size hv
          have h5' : off + x.cells.size ≤ cs.length := by simpa using h4'
          have hne : ¬ x'.cells.size ≠ i.size := by omega
          refine ⟨w.setRow b (cur.toList.take off ++ x'.cells.toList ++ cur.toList.drop (off + x'.cells.toList.length)).toArray, ?_, ?_, bel_setRow (Bel.refl N w) g2 _, ?_⟩
          · simp only [Instr.storeAt, Instr.sureAddr, storeVar, sizeOf, typeInfo, Sem.run_bind, Sem.run_pure, run_program, Result.andThen_ok, hi, Sem.run_ite]
            rw [if_neg hne]
            exact hst
          · refine d.put hget ?_ ?_ (fun b2 κ2 hb2 k hk => ?_) ?_
            · rfl
            · exact size_setRow w b _
            · rw [hm] at hb2; cases hb2
              exact setRow_other w b k _ hk
            · refine ⟨b, κ, _, sz, hm, g2, setRow_heap w b cur _ ty _ g3, g4, ?_, ?_, row_store g7 g6 hv h4'⟩
              · rw [← g5]; simp; omega
              · simp; omega
          · intro k hk b2 κ2 hb2
            exact setRow_other w b b2 _ (frz_apart d hget (by simpa [famOf] using h1) hm k hk b2 κ2 hb2)
    · cases e
  · cases e
theorem RelM.set : ∀ {es : List (Value × Value)} {rs : List MapEntry}, RelM μ es rs → ∀ (i : Nat) {k v v' : Value} (f : MapEntry → MapEntry), (∀ e, (f e).key = k ∧ (f e).val = v') → gr 6 k = true → Rel μ v v' → RelM μ (es.set i (k, v)) (rs.modify i f)
  | [], [], _, i, _, _, _, _, _, _, _ => by simp [RelM]
  | x :: es, e :: rs, ⟨h, t⟩, 0, k, v, v', f, hf, hg, hv => by
    simp only [List.set_cons_zero, List.modify_zero_cons]
    exact ⟨⟨(hf e).1, hg, by rw [(hf e).2]; exact hv⟩, t⟩
  | x :: es, e :: rs, ⟨h, t⟩, i + 1, k, v, v', f, hf, hg, hv => by
    simp only [List.set_cons_succ, List.modify_succ_cons]
    exact ⟨h, RelM.set t i f hf hg hv⟩
  | [], _ :: _, h, _, _, _, _, _, _, _, _ => h.elim
  | _ :: _, [], h, _, _, _, _, _, _, _, _ => h.elim
theorem RelM.snoc : ∀ {es : List (Value × Value)} {rs : List MapEntry}, RelM μ es rs → ∀ {k v : Value} {e : MapEntry}, e.key = k → gr 6 k = true → Rel μ v e.val → RelM μ (es ++ [(k, v)]) (rs ++ [e])
  | [], [], _, _k, _v, _e, h1, h2, h3 => ⟨⟨h1, h2, h3⟩, trivial⟩
  | _x :: _es, _y :: _rs, ⟨h, t⟩, _k, _v, _e, h1, h2, h3 => ⟨h, t.snoc h1 h2 h3⟩
  | [], _ :: _, h, _, _, _, _, _, _ => h.elim
  | _ :: _, [], h, _, _, _, _, _, _ => h.elim
theorem RelM.key : ∀ {es : List (Value × Value)} {rs : List MapEntry}, RelM μ es rs → ∀ (i : Nat), (rs[i]?).map (·.key) = (es[i]?).map (·.1)
  | [], [], _, i => by simp
  | x :: es, y :: rs, ⟨h, t⟩, 0 => by simp [h.1]
  | x :: es, y :: rs, ⟨h, t⟩, i + 1 => by simpa using t.key i
  | [], _ :: _, h, _ => h.elim
  | _ :: _, [], h, _ => h.elim
theorem StdM.modify {rs : List MapEntry} {cl : Nat} (h : StdM rs cl) (i : Nat) {f : MapEntry → MapEntry} (hf : ∀ e, (f e).born = e.born) : StdM (rs.modify i f) cl := by
  refine ⟨?_, by rw [List.length_modify]; exact h.2⟩
  rw [List.length_modify, ← h.1]
  apply List.ext_getElem?
  intro n
  simp only [List.getElem?_map, List.getElem?_modify]
  cases rs[n]? with
  | none => rfl
  | some e => by_cases hi : i = n <;> simp [hi, hf]
theorem StdM.snoc {rs : List MapEntry} {cl : Nat} (h : StdM rs cl) {e : MapEntry} (he : e.born = cl) : StdM (rs ++ [e]) (cl + 1) := by
  refine ⟨?_, by simp [h.2]⟩
  rw [List.map_append, h.1, List.length_append, List.length_singleton, List.range_succ]
  simp [he, h.2]
noncomputable def sMapUpdate (P : Program) (h : SH) (frz : List Nat) (t : TypeId) (m k x : Value) : Option SH := match P.underlying t, m with
  | some (.map kt _), .map (some j) => match h.tr.get j with
    | some (.map es s) => cond (frzOk h frz (2 * j + 1) && gr 6 k) (match pureOut P (Instr.checkKey false 10000 kt k), sFind P kt k es with
      | some (), some (some (i, _)) => cond (Instr.sameBits 10000 (((es[i]?).map (·.1)).getD k) k) (some (h.put j (.map (es.set i (k, x)) s))) none
      | some (), some none => some (h.put j (.map (es ++ [(k, x)]) s))
      | _, _ => none) none
    | _ => none
  | _, _ => none
theorem sMapUpdate_ok (d : Den P N G μ h w) {t : TypeId} {m m' k k' x x' : Value} {h' : SH} (e : sMapUpdate P h frz t m k x = some h') (hm : Rel μ m m') (hk : Rel μ k k') (hx : Rel μ x x') : Done P N G μ frz w (Instr.mapUpdate t m' k' x') h' := by
  unfold sMapUpdate at e
  split at e
  · rename_i kt et j hu
    split at e
    · rename_i es s hget
      cases hc : (frzOk h frz (2 * j + 1) && gr 6 k) with
      | false => rw [hc] at e; cases e
      | true =>
        rw [hc] at e
        simp only [cond_true] at e
        rw [Bool.and_eq_true] at hc
        obtain rfl := hk.eq hc.2
        cases hm with
        | ground hg => simp [gr] at hg
        | map hm =>
          rename_i b κ
          obtain ⟨b', κ', ents, cl, g1, g2, g3, g4, g5⟩ := d.blk j _ hget
          rw [hm] at g1; cases g1
          have hlt : b < w.heap.size := (Array.getElem?_eq_some_iff.1 g3).1
          -- a map's block is what it becomes
          have fin : ∀ (es' : List (Value × Value)) (ents' : Array MapEntry) (cl' : Nat), RelM μ es' ents'.toList → (s = true → StdM ents'.toList cl') → (Instr.mapUpdate t (.map (some b)) k' x').run P w = .ok () { w with heap := w.heap.setIfInBounds b (.map ents' cl') } →
              Done P N G μ frz w (Instr.mapUpdate t (.map (some b)) k' x') (h.put j (.map es' s)) := fun es' ents' cl' hr hstd hrun => by
            have hoth : ∀ k, k ≠ b → (w.heap.setIfInBounds b (.map ents' cl'))[k]? = w.heap[k]? := fun k hk => Array.getElem?_setIfInBounds_ne (fun q => hk q.symm)
            refine ⟨_, hrun, ?_, ⟨⟨rfl, rfl, rfl, by simp, fun k hk => hoth k (by have := g2.1; omega)⟩, fun k hk => hoth k (fun e => g2.2 (by rw [← e]; exact hk))⟩, ?_⟩
            · refine d.put hget ?_ ?_ (fun b2 κ2 hb2 k hk => ?_) ?_
              · rfl
              · exact Array.size_setIfInBounds
              · rw [hm] at hb2; cases hb2
                exact hoth k hk
              · exact ⟨b, κ, ents', cl', hm, g2, Array.getElem?_setIfInBounds_self_of_lt hlt, hr, hstd⟩
            · intro k hk b2 κ2 hb2
              exact hoth b2 (frz_apart d hget (by simpa [famOf] using hc.1) hm k hk b2 κ2 hb2)
          split at e
          · rename_i i v0 hck hfd
            cases hsb : Instr.sameBits 10000 (((es[i]?).map (·.1)).getD k') k' with
            | false => rw [hsb] at e; cases e
            | true =>
              rw [hsb] at e
              simp only [cond_true, Option.some.injEq] at e
              subst e
              obtain ⟨r', f1, _, f3⟩ := sFind_ok g4 hfd
              obtain ⟨v2, rfl, _⟩ := f3 _ _ rfl
              have hkey := g4.key i
              rw [Array.getElem?_toList] at hkey
              refine fin _ (ents.modify i fun e => { e with key := k', val := x' }) cl ?_ (fun hs => ?_) ?_
              · rw [Array.toList_modify]
                exact g4.set i _ (fun e => ⟨rfl, rfl⟩) hc.2 hx
              · rw [Array.toList_modify]
                exact StdM.modify (g5 hs) i fun e => rfl
              · simp only [Instr.mapUpdate, Sem.run_bind, run_underlying hu w, Result.andThen_ok, getObj_map g3, pureOut_run hck w, f1 w, Instr.keyThatStays, hkey, hsb, if_true, Sem.run_pure, setObj_map _ g3]
          · rename_i hck hfd
            cases e
            obtain ⟨r', f1, f2, _⟩ := sFind_ok g4 hfd
            obtain rfl := f2 rfl
            refine fin _ (ents.push { key := k', val := x', born := cl }) (cl + 1) ?_ (fun hs => ?_) ?_
            · rw [Array.toList_push]
              exact g4.snoc rfl hc.2 hx
            · rw [Array.toList_push]
              exact StdM.snoc (g5 hs) rfl
            · simp only [Instr.mapUpdate, Sem.run_bind, run_underlying hu w, Result.andThen_ok, getObj_map g3, pureOut_run hck w, f1 w, setObj_map _ g3]
          · cases e
    · cases e
  · cases e
end
end Go.Proofs.Ytpaabfecoghibaa
