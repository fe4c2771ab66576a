/- Code reckoned on the shadow is right: regions whose order stands, ranges over functions, each kind of code but regions that draw. Over any program. Conditions: as each law says. -/
import Derived.Test.YtedpbkpeofaibaaXO
namespace Go.Proofs.Ytedpbkpeofaibaa
open Go Go.RowKit
set_option linter.unusedSimpArgs false
set_option linter.unusedVariables false
section
variable {P : Program} {N : Lim} {G : Gl} {μ : Mu} {h : SH} {w : World} {frz : List Nat}
theorem notDefer_spec {o : Oper} (h : notDefer o = true) : ∀ c, o.op ≠ .defer c := fun c e => by simp [notDefer, e] at h
theorem isB_eq (b : Bool) (v : Value) : isB b v = (boolOf v == some b) := by
  cases v <;> try rfl
  rename_i c
  cases b <;> cases c <;> rfl
theorem guardK_ok {ops : Array Oper} {o : Oper} (ts : Fr) : (guardK ops o = none ∧ Region.wanted o (yieldedS ops ts) = true) ∨ ∃ b, guardK ops o = some b ∧ b.run ts = Region.wanted o (yieldedS ops ts) := by
  unfold guardK Region.wanted
  cases hg : o.guard with
  | none => exact .inl ⟨rfl, rfl⟩
  | some g =>
    obtain ⟨j, b⟩ := g
    refine .inr ?_
    simp only [yieldedS]
    cases ho : ops[j]? with
    | none => exact ⟨_, rfl, rfl⟩
    | some o' =>
      cases hd : o'.dst with
      | none => simp only [hd]; exact ⟨_, rfl, rfl⟩
      | some d =>
        simp only [hd]
        exact ⟨_, rfl, isB_eq b _⟩
/-- Operations one behind the other. -/
def SeqR (P : Program) (G : Gl) (frz : List Nat) (ops : Array Oper) (l : List Nat) (ts : Fr) (h : SH) (ts' : Fr) (h' : SH) : Prop :=
  ∀ (N : Lim) (μ : Mu) (w : World) (a : Act) (ro' : Option Nat) (Q : Exit → Act → World → Prop), Den P N G μ h w → RelF μ ts a.tmps →
    (∀ μ' a' w', Post P N G μ frz w h' μ' w' → RelF μ' ts' a'.tmps → a'.defers = a.defers → Q .normal a' w') → wpOpsIn (FR ro') 0 P ops Q l a w
theorem seqW_ok [Orc] [OrcOk P] (hG : G.l.all (fun x => x.2.1.toList.all (gr 6)) = true) {rc : Rec} (hrc : Right P G rc) {ops : Array Oper} {k : KF} {r : Value} : ∀ (os : List Oper) (i : Nat), ops.toList.drop i = os → ∀ (ts : Fr) (h : SH), (seqW P G ops os).run rc frz ts h k = some r →
    ∃ ts' h', k ts' h' = some r ∧ SeqR P G frz ops (List.range' i os.length) ts h ts' h'
  | [], i, _, ts, h, e => ⟨ts, h, e, fun N μ w a ro' Q d hts K => K μ a w (Post.refl d) hts rfl⟩
  | o :: os, i, hd, ts, h, e => by
    have ho : ops[i]? = some o := by
      have := congrArg (fun l => l[0]?) hd
      simpa using this
    have hd' : ops.toList.drop (i + 1) = os := by
      have := congrArg List.tail hd
      simpa using this
    have e : (joinW (guardK ops o) o.dst (opW P G o) (seqW P G ops os)).run rc frz ts h k = some r := e
    have yes : ∀ (_ : Region.wanted o (yieldedS ops ts) = true), (opW P G o).run rc frz ts h (fun ts' h' => (seqW P G ops os).run rc frz ts' h' k) = some r → ∃ ts' h', k ts' h' = some r ∧ SeqR P G frz ops (List.range' i (o :: os).length) ts h ts' h' := fun hw e => by
      obtain ⟨hnd, ts1, h1, hk, hst⟩ := opW_ok hG hrc e
      obtain ⟨ts', h', hk', hsq⟩ := seqW_ok hG hrc os (i + 1) hd' ts1 h1 hk
      refine ⟨ts', h', hk', fun N μ w a ro' Q d hts K => ?_⟩
      rw [List.length_cons, List.range'_succ]
      unfold wpOpsIn
      rw [yielded_rel hts] at hw
      simp only [ho, hw, if_true]
      refine ⟨fun f _ => FR_fn ro' f, ?_⟩
      rw [Oper.semAt_eq _ _ _ (notDefer_spec hnd)]
      refine hst.2 N μ w a ro' d hts _ Q fun μ1 a1 w1 p1 hts1 hput _ => ?_
      have hd1 : a1.defers = a.defers := by obtain ⟨v', rfl⟩ := hput; exact put_defers' _ _ _
      exact hsq N μ1 w1 a1 ro' Q p1.den hts1 fun μ' a' w' p h1 h2 => K μ' a' w' (p1.trans p) h1 (h2.trans hd1)
    have no : ∀ (_ : Region.wanted o (yieldedS ops ts) = false), (dstC o.dst ts undef fun ts => (seqW P G ops os).run rc frz ts h k) = some r → ∃ ts' h', k ts' h' = some r ∧ SeqR P G frz ops (List.range' i (o :: os).length) ts h ts' h' := fun hw e => by
      rw [dstC_eq] at e
      obtain ⟨ts', h', hk', hsq⟩ := seqW_ok hG hrc os (i + 1) hd' _ h e
      rw [dstK_run] at hsq
      refine ⟨ts', h', hk', fun N μ w a ro' Q d hts K => ?_⟩
      rw [List.length_cons, List.range'_succ]
      unfold wpOpsIn
      rw [yielded_rel hts] at hw
      simp only [ho, hw, Bool.false_eq_true, if_false]
      exact ⟨fun f _ => FR_fn ro' f, hsq N μ w _ ro' Q d (put_rel hts (.ground rfl) _) fun μ' a' w' p h1 h2 => K μ' a' w' p h1 (h2.trans (put_defers' _ _ _))⟩
    rcases guardK_ok (ops := ops) (o := o) ts with ⟨hg, hw⟩ | ⟨b, hg, hb⟩
    · rw [hg] at e
      exact yes hw e
    · rw [hg] at e
      have e : cond (b.run ts) ((opW P G o).run rc frz ts h (fun ts' h' => (seqW P G ops os).run rc frz ts' h' k)) (dstC o.dst ts undef fun ts => (seqW P G ops os).run rc frz ts h k) = some r := e
      cases hw : Region.wanted o (yieldedS ops ts) with
      | true => rw [hb, hw, cond_true] at e; exact yes hw e
      | false => rw [hb, hw, cond_false] at e; exact no hw e
/-- A new mark. -/
theorem push_mark (d : Den P N G μ h w) (hl : frzLive h frz = true) : Post P N G μ frz w (h.push .mark) (μ.add h.next w.heap.size 0) (w.alloc (.deferred (some []))) :=
  ⟨Mu.le_add (d.muOld h.next (Nat.le_refl _)), d.push _ 0 _ (fun t' cs' f e => by cases e) ⟨w.heap.size, 0, Mu.add_same, d.base.new, World.alloc_heap_new w _⟩, (Bel.refl N w).alloc d.base _, fun k hk b κ' hm => Below.heap_alloc w _ _ (frz_live d hl k hk b κ' hm)⟩
/-- A new loop's record. -/
theorem push_loop (d : Den P N G μ h w) (hl : frzLive h frz = true) {r : Loop} {ts : Fr} {fn : Nat} {tmps : Array Value} {dd κd : Nat} (hd : μ r.defers = some (dd, κd)) (hts : RelF μ ts tmps) (o : Obj) (ho : o = .loop { r with fn := fn, tmps := tmps, defers := dd }) :
    Post P N G μ frz w (h.push (.loop r ts)) (μ.add h.next w.heap.size 0) (w.alloc o) := by
  have hle : μ.le (μ.add h.next w.heap.size 0) := Mu.le_add (d.muOld h.next (Nat.le_refl _))
  refine ⟨hle, d.push _ 0 _ (fun t' cs' f e => by cases e) ⟨w.heap.size, 0, fn, tmps, dd, κd, Mu.add_same, d.base.new, hle _ _ hd, ?_, hts.mono hle⟩, (Bel.refl N w).alloc d.base _, fun k hk b κ' hm => Below.heap_alloc w _ _ (frz_live d hl k hk b κ' hm)⟩
  rw [← ho]; exact World.alloc_heap_new w _
theorem frzLive_push (hl : frzLive h frz = true) (_d : Den P N G μ h w) (sb : SB) : frzLive (h.push sb) frz = true := by
  unfold frzLive at *
  rw [List.all_eq_true] at *
  intro k hk
  have := hl k hk
  simp only [SH.push_eq, Tr.get_set]
  split
  · rfl
  · exact this
/-- Behind a range over a function. -/
theorem rangeEnd_ok {rc : Rec} (hrc : Right P G rc) {ro : Option Nat} {l : Nat} {ts : Fr} {ds : List Nat} {h3 : SH} {k : KE} {x : Value} (e : rangeEnd rc ro frz l ts ds h3 k = some x) :
    ∃ ex ts' ds' h', k ex ts' ds' h' = some x ∧ ∀ (N : Lim) (μ3 : Mu) (w w3 : World) (bl κl : Nat) (ro' : Option Nat) (a : Act) (Q : Exit → Act → World → Prop) (μ : Mu), Post P N G μ frz w h3 μ3 w3 → μ3 l = some (bl, κl) → RelF μ3 ts a.tmps → DefR μ3 ds a.defers → RoR μ3 ro ro' →
      (∀ μ' a' w', Post P N G μ frz w h' μ' w' → RelF μ' ts' a'.tmps → DefR μ' ds' a'.defers → Q ex.ex a' w') →
      ∃ (pn : Option Code) (W : World), (Instr.endLoop bl).run P w3 = .ok pn W ∧ (match pn with
        | none => Q .normal a W
        | some c => c.wpIn (FR ro') 0 P Q a W) := by
  unfold rangeEnd at e
  split at e
  · rename_i r tl hgl
    cases hb : (!(isBusy r.state) && frzOk h3 frz (2 * l + 1)) with
    | false => simp [hb] at e
    | true =>
      rw [hb, cond_true] at e
      rw [Bool.and_eq_true] at hb
      have fin : ∀ (N : Lim) (μ3 : Mu) (w w3 : World) (bl κl : Nat) (μ : Mu), Post P N G μ frz w h3 μ3 w3 → μ3 l = some (bl, κl) → ∃ W, (Instr.endLoop bl).run P w3 = .ok r.pending W ∧ Post P N G μ frz w (h3.put l (.loop { r with state := .exhausted } tl)) μ3 W := fun N μ3 w w3 bl κl μ p3 hbl3 => by
        obtain ⟨b0, κ0, fn3, tmps3, dd3, κd3, j1, j2, j3, j4, j5⟩ := p3.den.blk l _ hgl
        rw [hbl3] at j1; cases j1
        have hne : r.state ≠ .busy := fun hq => by simp [hq, isBusy] at hb
        have he := run_endLoop (P := P) j4 hne
        have p4' := put_loop (frz := frz) (r2 := { r with state := .exhausted }) p3.den hgl hb.2 hbl3 rfl fn3 tmps3 dd3 j4 (.loop { state := .exhausted, pending := r.pending, fn := fn3, tmps := tmps3, params := r.params, assign := r.assign, body := r.body, defers := dd3 }) rfl
        exact ⟨_, he, ⟨p3.le, p4'.den, p3.bel.trans p4'.bel, p3.kp.trans p3.le p4'.kp⟩⟩
      split at e
      · rename_i hp
        refine ⟨_, _, _, _, e, fun N μ3 w w3 bl κl ro' a Q μ p3 hbl hts hds hro K => ?_⟩
        obtain ⟨W, h1, h2⟩ := fin N μ3 w w3 bl κl μ p3 hbl
        exact ⟨_, W, h1, by rw [hp]; exact K μ3 a W h2 hts hds⟩
      · rename_i c hp
        obtain ⟨ex, ts', ds', h', hk, hc⟩ := hrc _ _ _ _ _ _ _ _ e
        refine ⟨ex, ts', ds', h', hk, fun N μ3 w w3 bl κl ro' a Q μ p3 hbl hts hds hro K => ?_⟩
        obtain ⟨W, h1, h2⟩ := fin N μ3 w w3 bl κl μ p3 hbl
        refine ⟨_, W, h1, ?_⟩
        rw [hp]
        exact hc N μ3 ro' a W Q h2.den hts hds hro fun μ' a' w' p5 => K μ' a' w' (h2.trans p5)
  · cases e
/-- A range over a function. -/
theorem rangeF_ok (hG : G.l.all (fun x => x.2.1.toList.all (gr 6)) = true) {rc : Rec} (hrc : Right P G rc) {ro : Option Nat} {g : Operand} {ps : Array Tmp} {assign body : Code} {ts : Fr} {ds : List Nat} {k : KE} {x : Value} (hc : constOk g = true)
    (e : rangeF P G rc ro frz ((opK g).run ts) ps assign body ts ds h k = some x) : ∃ ex ts' ds' h', k ex ts' ds' h' = some x ∧ CodeR P G ro frz (.rangeFunc g ps assign body) ts ds h ex ts' ds' h' := by
  rw [opK_run] at e
  unfold rangeF at e
  cases hz : frzLive h frz with
  | false => rw [hz] at e; cases e
  | true =>
    rw [hz, cond_true] at e
    split at e
    · rename_i gf first captured hgv
      -- behind the laying of the record
      have go : ∀ {l : Nat} {dsn : List Nat} {h2 h3 : SH} {v3 : Value} {ex : SE} {ts' : Fr} {ds' : List Nat} {h' : SH}, CallR P G frz gf (first.toList ++ [.func (.yield l) #[] #[]] ++ captured.toList) h2 v3 h3 →
          (∀ (N : Lim) (μ3 : Mu) (w w3 : World) (bl κl : Nat) (ro' : Option Nat) (a : Act) (Q : Exit → Act → World → Prop) (μ : Mu), Post P N G μ frz w h3 μ3 w3 → μ3 l = some (bl, κl) → RelF μ3 ts a.tmps → DefR μ3 dsn a.defers → RoR μ3 ro ro' →
            (∀ μ' a' w', Post P N G μ frz w h' μ' w' → RelF μ' ts' a'.tmps → DefR μ' ds' a'.defers → Q ex.ex a' w') →
            ∃ (pn : Option Code) (W : World), (Instr.endLoop bl).run P w3 = .ok pn W ∧ (match pn with
              | none => Q .normal a W
              | some c => c.wpIn (FR ro') 0 P Q a W)) →
          ∀ {N : Lim} {μ : Mu} {ro' : Option Nat} {a : Act} {w : World} {Q : Exit → Act → World → Prop}, Den P N G μ h w → RelF μ ts a.tmps → RoR μ ro ro' →
          (∀ μ' a' w', Post P N G μ frz w h' μ' w' → RelF μ' ts' a'.tmps → DefR μ' ds' a'.defers → Q ex.ex a' w') →
          ∀ (fn : FuncId) (bl κl : Nat) (μ2 : Mu) (w2 : World) (mark : List Deferred),
          (Instr.enterLoop fn a.tmps ps assign body ro').run P w = .ok (bl, mark) w2 → Post P N G μ frz w h2 μ2 w2 → μ2 l = some (bl, κl) → DefR μ2 dsn (mark ++ a.defers) →
          ∃ (l : Nat) (mark : List Deferred) (w₁ : World) (d : Deferred) (w₁' : World) (f : FuncId) (args : Array Value) (w₂ : World),
            (Instr.enterLoop fn a.tmps ps assign body (FR ro').round).run P w = .ok (l, mark) w₁ ∧
            (resolve a.eval (rangeCall g l) 0).run P w₁ = .ok d w₁' ∧
            (∀ f', Target.leads P w₁' d.target d.args = some f' → (FR ro').fn f') ∧
            (invoke d.target d.args).run P w₁' = .ok (.enter f args) w₂ ∧
            ((FR ro').depth.isSome = true → 1 ≤ 0) ∧
            CallsIn (FR ro') (0 - 1) P f args w₂ (rangePost (FR ro') 0 P l Q { a with defers := mark ++ a.defers }) := by
        intro l dsn h2 h3 v3 ex ts' ds' h' hcall hend N μ ro' a w Q d hts hro K fn bl κl μ2 w2 mark hel p2 hbl hdm
        have hg := opnd_rel hts hc
        rw [hgv] at hg
        obtain ⟨fi', cs', hp, hfi, hcs⟩ := func_rel hg
        refine ⟨bl, mark, w2, { target := .fn (.func gf) cs', args := fi' ++ #[.func (.yield bl) #[] #[]] }, w2, gf, fi' ++ #[.func (.yield bl) #[] #[]] ++ cs', w2, by rw [FR_round]; exact hel, ?_, fun f' _ => FR_fn ro' f', ?_, FR_lone, ?_⟩
        · simp only [resolve, hp, List.map_toArray, List.map_cons, List.map_nil, Deferred.ofValue]
          rfl
        · simp only [invoke]
          exact hcall.1 _ w2
        · have hargs : RelL μ2 (first.toList ++ [.func (.yield l) #[] #[]] ++ captured.toList) (fi' ++ #[Value.func (.yield bl) #[] #[]] ++ cs').toList := by
            simp only [Array.toList_append]
            exact ((hfi.mono p2.le).append (.cons (.yield hbl) .nil)).append (hcs.mono p2.le)
          refine FR_calls (CallsIn.mono (hcall.2 N μ2 w2 _ p2.den hargs) ?_)
          rintro en w3 ⟨μ3, v', rfl, p3, _⟩
          have p13 := p2.trans p3
          obtain ⟨pn, W, h1, h2⟩ := hend N μ3 w w3 bl κl ro' { a with defers := mark ++ a.defers } Q μ p13 (p3.le _ _ hbl) (hts.mono p13.le) (hdm.mono p3.le) (hro.mono p13.le) K
          refine ⟨_, W, h1, ?_⟩
          cases pn with
          | none => exact h2
          | some c => exact h2
      cases ro with
      | none =>
        simp only at e
        obtain ⟨v3, h3, hk3, hcall⟩ := callF_ok hG hrc e
        obtain ⟨ex, ts', ds', h', hk, hend⟩ := rangeEnd_ok (G := G) hrc hk3
        refine ⟨ex, ts', ds', h', hk, fun N μ ro' a w Q d hts hds hro K => ?_⟩
        cases ro' with
        | some _ => exact hro.elim
        | none =>
          refine wpIn_rangeFunc fun fn _ => ?_
          have p1 := push_mark (frz := frz) d hz
          have p2 := push_loop (frz := frz) (r := { state := .ready, pending := none, fn := 0, tmps := #[], params := ps, assign := assign, body := body, defers := h.next }) (fn := fn) p1.den (frzLive_push hz d _) (κd := 0) (show (μ.add h.next w.heap.size 0) h.next = some (w.heap.size, 0) from Mu.add_same) (hts.mono p1.le) _ rfl
          refine go hcall hend d hts hro K fn (w.heap.size + 1) 0 _ _ _ (run_enterLoop_outer _ _ _ _ _) (p1.trans p2) ?_ ⟨w.heap.size, 0, a.defers, rfl, p2.le _ _ Mu.add_same, hds.mono (p1.trans p2).le⟩
          have : (w.alloc (.deferred (some []))).heap.size = w.heap.size + 1 := by simp
          rw [this]
          exact Mu.add_same
      | some l0 =>
        simp only at e
        split at e
        · rename_i r0 tl0 hg0
          obtain ⟨v3, h3, hk3, hcall⟩ := callF_ok hG hrc e
          obtain ⟨ex, ts', ds', h', hk, hend⟩ := rangeEnd_ok (G := G) hrc hk3
          refine ⟨ex, ts', ds', h', hk, fun N μ ro' a w Q d hts hds hro K => ?_⟩
          cases ro' with
          | none => exact hro.elim
          | some b0 =>
            refine wpIn_rangeFunc fun fn _ => ?_
            have hro0 := hro
            obtain ⟨κ0, hb0⟩ := hro
            obtain ⟨b0', κ0', fn0, tmps0, dd0, κd0, j1, j2, j3, j4, j5⟩ := d.blk l0 _ hg0
            rw [hb0] at j1; cases j1
            have p2 := push_loop (frz := frz) (r := { state := .ready, pending := none, fn := 0, tmps := #[], params := ps, assign := assign, body := body, defers := r0.defers }) (fn := fn) d hz j3 hts _ rfl
            exact go hcall hend d hts hro0 K fn w.heap.size 0 _ _ _ (run_enterLoop_inner j4 _ _ _ _ _) p2 Mu.add_same (hds.mono p2.le)
        · cases e
    · cases e
end
end Go.Proofs.Ytedpbkpeofaibaa
