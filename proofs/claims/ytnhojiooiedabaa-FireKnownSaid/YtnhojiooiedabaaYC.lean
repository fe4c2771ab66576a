/- Code whose choices are open is reckoned rightly: regions, ranges over functions, each kind of code; closed calls, and entries. Over any program. Conditions: as each law says. -/
import Derived.Test.YtnhojiooiedabaaYB
import Derived.Test.YtnhojiooiedabaaXX
namespace Go.Proofs.Ytnhojiooiedabaa
open Go Go.RowKit
section
variable {P : Program} {N : Lim} {G : Gl} {μ : Mu} {h : SH} {w : World} {frz : List Nat}
/-- Operations one behind the other. -/
def SeqS (P : Program) (G : Gl) (frz : List Nat) (ops : Array Oper) (l : List Nat) (ts : Fr) (h : SH) (k : KF) (r : Value) : Prop :=
  ∀ (N : Lim) (μ : Mu) (w : World) (a : Act) (ro' : Option Nat) (Q : Exit → Act → World → Prop), Den P N G μ h w → RelF μ ts a.tmps →
    (∀ ts' h' μ' a' w', k ts' h' = some r → Post P N G μ frz w h' μ' w' → RelF μ' ts' a'.tmps → a'.defers = a.defers → Q .normal a' w') → wpOpsIn (FR ro') 0 P ops Q l a w
theorem seqF_ok [Orc] [OrcOk P] (hG : G.all (fun x => x.2.1.toList.all (gr 6)) = true) {rc : Rec} (hrc : RightS P G rc) {ops : Array Oper} {k : KF} {r : Value} : ∀ (os : List Oper) (i : Nat), ops.toList.drop i = os → ∀ (ts : Fr) (h : SH), (seqF P G ops os).run rc frz ts h k = some r →
    SeqS P G frz ops (List.range' i os.length) ts h k r
  | [], i, _, ts, h, e => fun N μ w a ro' Q d hts K => K ts h μ a w e (Post.refl d) hts rfl
  | o :: os, i, hd, ts, h, e => by
    have ho : ops[i]? = some o := by
      have := congrArg (fun l => l[0]?) hd
      simpa using this
    have hd' : ops.toList.drop (i + 1) = os := by
      have := congrArg List.tail hd
      simpa using this
    have e : (joinW (guardK ops o) o.dst (opF P G o) (seqF P G ops os)).run rc frz ts h k = some r := e
    have yes : ∀ (_ : Region.wanted o (yieldedS ops ts) = true), (opF P G o).run rc frz ts h (fun ts' h' => (seqF P G ops os).run rc frz ts' h' k) = some r → SeqS P G frz ops (List.range' i (o :: os).length) ts h k r := fun hw e => by
      obtain ⟨hnd, hst⟩ := opF_ok hG hrc e
      intro N μ w a ro' Q d hts K
      rw [List.length_cons, List.range'_succ]
      unfold wpOpsIn
      rw [yielded_rel hts] at hw
      simp only [ho, hw, if_true]
      refine ⟨fun f _ => FR_fn ro' f, ?_⟩
      rw [Oper.semAt_eq _ _ _ (notDefer_spec hnd)]
      refine hst N μ w a ro' _ Q d hts fun ts1 h1 μ1 a1 w1 hk1 p1 hts1 hd1 => ?_
      exact seqF_ok hG hrc os (i + 1) hd' ts1 h1 hk1 N μ1 w1 a1 ro' Q p1.den hts1 fun ts' h' μ' a' w' hk p h1 h2 => K ts' h' μ' a' w' hk (p1.trans p) h1 (h2.trans hd1)
    have no : ∀ (_ : Region.wanted o (yieldedS ops ts) = false), (seqF P G ops os).run rc frz ((dstK o.dst).run ts undef) h k = some r → SeqS P G frz ops (List.range' i (o :: os).length) ts h k r := fun hw e => by
      have hsq := seqF_ok hG hrc os (i + 1) hd' _ h e
      rw [dstK_run] at hsq
      intro N μ w a ro' Q d hts K
      rw [List.length_cons, List.range'_succ]
      unfold wpOpsIn
      rw [yielded_rel hts] at hw
      simp only [ho, hw, Bool.false_eq_true, if_false]
      exact ⟨fun f _ => FR_fn ro' f, hsq N μ w _ ro' Q d (put_rel hts (.ground rfl) _) fun ts' h' μ' a' w' hk p h1 h2 => K ts' h' μ' a' w' hk p h1 (h2.trans (put_defers' _ _ _))⟩
    rcases guardK_ok (ops := ops) (o := o) ts with ⟨hg, hw⟩ | ⟨b, hg, hb⟩
    · rw [hg] at e
      exact yes hw e
    · rw [hg] at e
      have e : cond (b.run ts) ((opF P G o).run rc frz ts h (fun ts' h' => (seqF P G ops os).run rc frz ts' h' k)) ((seqF P G ops os).run rc frz ((dstK o.dst).run ts undef) h k) = some r := e
      cases hw : Region.wanted o (yieldedS ops ts) with
      | true => rw [hb, hw, cond_true] at e; exact yes hw e
      | false => rw [hb, hw, cond_false] at e; exact no hw e
/-- Behind a range over a function. -/
theorem rangeEnd_okS {rc : Rec} (hrc : RightS P G rc) {ro : Option Nat} {l : Nat} {ts : Fr} {ds : List Nat} {h3 : SH} {k : KE} {x : Value} (e : rangeEnd rc ro frz l ts ds h3 k = some x) :
    ∀ (N : Lim) (μ3 : Mu) (w w3 : World) (bl κl : Nat) (ro' : Option Nat) (a : Act) (Q : Exit → Act → World → Prop) (μ : Mu), Post P N G μ frz w h3 μ3 w3 → μ3 l = some (bl, κl) → RelF μ3 ts a.tmps → DefR μ3 ds a.defers → RoR μ3 ro ro' →
      (∀ ex ts' ds' h' μ' a' w', k ex ts' ds' h' = some x → Post P N G μ frz w h' μ' w' → RelF μ' ts' a'.tmps → DefR μ' ds' a'.defers → Q ex.ex a' w') →
      ∃ (pn : Option Code) (W : World), (Instr.endLoop bl).run P w3 = .ok pn W ∧ (match pn with
        | none => Q .normal a W
        | some c => c.wpIn (FR ro') 0 P Q a W) := by
  unfold rangeEnd at e
  split at e
  · rename_i r tl hgl
    cases hb : (!(isBusy r.state) && frzOk h3 frz (2 * l + 1)) with
    | false => simp [hb] at e
    | true =>
      rw [hb, cond_true] at e
      rw [Bool.and_eq_true] at hb
      intro N μ3 w w3 bl κl ro' a Q μ p3 hbl hts hds hro K
      obtain ⟨W, h1, h2⟩ : ∃ W, (Instr.endLoop bl).run P w3 = .ok r.pending W ∧ Post P N G μ frz w (h3.put l (.loop { r with state := .exhausted } tl)) μ3 W := by
        obtain ⟨b0, κ0, fn3, tmps3, dd3, κd3, j1, j2, j3, j4, j5⟩ := p3.den.blk l _ hgl
        rw [hbl] at j1; cases j1
        have hne : r.state ≠ .busy := fun hq => by simp [hq, isBusy] at hb
        have he := run_endLoop (P := P) j4 hne
        have p4' := put_loop (frz := frz) (r2 := { r with state := .exhausted }) p3.den hgl hb.2 hbl rfl fn3 tmps3 dd3 j4 (.loop { state := .exhausted, pending := r.pending, fn := fn3, tmps := tmps3, params := r.params, assign := r.assign, body := r.body, defers := dd3 }) rfl
        exact ⟨_, he, ⟨p3.le, p4'.den, p3.bel.trans p4'.bel, p3.kp.trans p3.le p4'.kp⟩⟩
      split at e
      · rename_i hp
        exact ⟨_, W, h1, by rw [hp]; exact K .normal _ _ _ μ3 a W e h2 hts hds⟩
      · rename_i c hp
        refine ⟨_, W, h1, ?_⟩
        rw [hp]
        exact hrc _ _ _ _ _ _ _ _ e N μ3 ro' a W Q h2.den hts hds hro fun ex ts' ds' h' μ' a' w' hk p5 => K ex ts' ds' h' μ' a' w' hk (h2.trans p5)
  · cases e
/-- A range over a function. -/
theorem rangeF_okS (hG : G.all (fun x => x.2.1.toList.all (gr 6)) = true) {rc : Rec} (hrc : RightS P G rc) {ro : Option Nat} {g : Operand} {ps : Array Tmp} {assign body : Code} {ts : Fr} {ds : List Nat} {k : KE} {x : Value} (hc : constOk g = true)
    (e : rangeF P G rc ro frz ((opK g).run ts) ps assign body ts ds h k = some x) : CodeS P G ro frz (.rangeFunc g ps assign body) ts ds h k x := by
  rw [opK_run] at e
  unfold rangeF at e
  cases hz : frzLive h frz with
  | false => rw [hz] at e; cases e
  | true =>
    rw [hz, cond_true] at e
    split at e
    · rename_i gf first captured hgv
      have go : ∀ {l : Nat} {dsn : List Nat} {h2 : SH}, CallS P G frz gf (first.toList ++ [.func (.yield l) #[] #[]] ++ captured.toList) h2 (fun _ h3 => rangeEnd rc ro frz l ts dsn h3 k) x →
          ∀ {N : Lim} {μ : Mu} {ro' : Option Nat} {a : Act} {w : World} {Q : Exit → Act → World → Prop}, Den P N G μ h w → RelF μ ts a.tmps → RoR μ ro ro' →
          (∀ ex ts' ds' h' μ' a' w', k ex ts' ds' h' = some x → Post P N G μ frz w h' μ' w' → RelF μ' ts' a'.tmps → DefR μ' ds' a'.defers → Q ex.ex a' w') →
          ∀ (fn : FuncId) (bl κl : Nat) (μ2 : Mu) (w2 : World) (mark : List Deferred),
          (Instr.enterLoop fn a.tmps ps assign body ro').run P w = .ok (bl, mark) w2 → Post P N G μ frz w h2 μ2 w2 → μ2 l = some (bl, κl) → DefR μ2 dsn (mark ++ a.defers) →
          ∃ (l : Nat) (mark : List Deferred) (w₁ : World) (d : Deferred) (w₁' : World) (f : FuncId) (args : Array Value) (w₂ : World),
            (Instr.enterLoop fn a.tmps ps assign body (FR ro').round).run P w = .ok (l, mark) w₁ ∧
            (resolve a.eval (rangeCall g l) 0).run P w₁ = .ok d w₁' ∧
            (∀ f', Target.leads P w₁' d.target d.args = some f' → (FR ro').fn f') ∧
            (invoke d.target d.args).run P w₁' = .ok (.enter f args) w₂ ∧
            ((FR ro').depth.isSome = true → 1 ≤ 0) ∧
            CallsIn (FR ro') (0 - 1) P f args w₂ (rangePost (FR ro') 0 P l Q { a with defers := mark ++ a.defers }) := by
        intro l dsn h2 hcall N μ ro' a w Q d hts hro K fn bl κl μ2 w2 mark hel p2 hbl hdm
        have hg := opnd_rel hts hc
        rw [hgv] at hg
        obtain ⟨fi', cs', hp, hfi, hcs⟩ := func_rel hg
        refine ⟨bl, mark, w2, { target := .fn (.func gf) cs', args := fi' ++ #[.func (.yield bl) #[] #[]] }, w2, gf, fi' ++ #[.func (.yield bl) #[] #[]] ++ cs', w2, by rw [FR_round]; exact hel, ?_, fun f' _ => FR_fn ro' f', ?_, FR_lone, ?_⟩
        · simp only [resolve, hp, List.map_toArray, List.map_cons, List.map_nil, Deferred.ofValue]
          rfl
        · simp only [invoke]
          exact hcall.1 _ w2
        · have hargs : RelL μ2 (first.toList ++ [.func (.yield l) #[] #[]] ++ captured.toList) (fi' ++ #[Value.func (.yield bl) #[] #[]] ++ cs').toList := by
            simp only [Array.toList_append]
            exact ((hfi.mono p2.le).append (.cons (.yield hbl) .nil)).append (hcs.mono p2.le)
          refine FR_calls (CallsIn.mono (hcall.2 N μ2 w2 _ p2.den hargs) ?_)
          rintro en w3 ⟨v3, h3, hk3, μ3, v', rfl, p3, _⟩
          have p13 := p2.trans p3
          obtain ⟨pn, W, h1, h2⟩ := rangeEnd_okS hrc hk3 N μ3 w w3 bl κl ro' { a with defers := mark ++ a.defers } Q μ p13 (p3.le _ _ hbl) (hts.mono p13.le) (hdm.mono p3.le) (hro.mono p13.le) K
          refine ⟨_, W, h1, ?_⟩
          cases pn with
          | none => exact h2
          | some c => exact h2
      cases ro with
      | none =>
        simp only at e
        have hcall := callF_okS hG hrc e
        intro N μ ro' a w Q d hts hds hro K
        cases ro' with
        | some _ => exact hro.elim
        | none =>
          refine wpIn_rangeFunc fun fn _ => ?_
          have p1 := push_mark (frz := frz) d hz
          have p2 := push_loop (frz := frz) (r := { state := .ready, pending := none, fn := 0, tmps := #[], params := ps, assign := assign, body := body, defers := h.next }) (fn := fn) p1.den (frzLive_push hz d _) (κd := 0) (show (μ.add h.next w.heap.size 0) h.next = some (w.heap.size, 0) from Mu.add_same) (hts.mono p1.le) _ rfl
          refine go hcall d hts hro K fn (w.heap.size + 1) 0 _ _ _ (run_enterLoop_outer _ _ _ _ _) (p1.trans p2) ?_ ⟨w.heap.size, 0, a.defers, rfl, p2.le _ _ Mu.add_same, hds.mono (p1.trans p2).le⟩
          have : (w.alloc (.deferred (some []))).heap.size = w.heap.size + 1 := by simp
          rw [this]
          exact Mu.add_same
      | some l0 =>
        simp only at e
        split at e
        · rename_i r0 tl0 hg0
          have hcall := callF_okS hG hrc e
          intro N μ ro' a w Q d hts hds hro K
          cases ro' with
          | none => exact hro.elim
          | some b0 =>
            refine wpIn_rangeFunc fun fn _ => ?_
            have hro0 := hro
            obtain ⟨κ0, hb0⟩ := hro
            obtain ⟨b0', κ0', fn0, tmps0, dd0, κd0, j1, j2, j3, j4, j5⟩ := d.blk l0 _ hg0
            rw [hb0] at j1; cases j1
            have p2 := push_loop (frz := frz) (r := { state := .ready, pending := none, fn := 0, tmps := #[], params := ps, assign := assign, body := body, defers := r0.defers }) (fn := fn) d hz j3 hts _ rfl
            exact go hcall d hts hro0 K fn w.heap.size 0 _ _ _ (run_enterLoop_inner j4 _ _ _ _ _) p2 Mu.add_same (hds.mono p2.le)
        · cases e
    · cases e
def RightLS (P : Program) (G : Gl) (rc : Rec) : Prop := ∀ (ro : Option Nat) (frz : List Nat) (c : Code) (ts : Fr) (ds : List Nat) (h : SH) (k : KE) (r : Value), rc ro frz (.loop c) ts ds h k = some r →
  ∀ (N : Lim) (μ : Mu) (ro' : Option Nat) (a : Act) (w : World) (Q : Exit → Act → World → Prop), Den P N G μ h w → RelF μ ts a.tmps → DefR μ ds a.defers → RoR μ ro ro' →
    (∀ e ts' ds' h' μ' a' w', k e ts' ds' h' = some r → Post P N G μ frz w h' μ' w' → RelF μ' ts' a'.tmps → DefR μ' ds' a'.defers → Q e.ex a' w') → LoopX (FR ro') 0 P c Q a w
theorem regionF_ok [Orc] [OrcOk P] (hG : G.all (fun x => x.2.1.toList.all (gr 6)) = true) {rcD : Rec} (hD : Right P G rcD) {rc : Rec} (hrc : RightS P G rc) {ops : Array Oper} {draw : Bool} {ts : Fr} {k : KF} {r : Value} (e : (regionF P G rcD ops draw).run rc frz ts h k = some r)
    (N : Lim) (μ : Mu) (w : World) (a : Act) (ro' : Option Nat) (Q : Exit → Act → World → Prop) (id : Nat) (d : Den P N G μ h w) (hts : RelF μ ts a.tmps)
    (K : ∀ ts' h' μ' a' w', k ts' h' = some r → Post P N G μ frz w h' μ' w' → RelF μ' ts' a'.tmps → a'.defers = a.defers → Q .normal a' w') : (Code.region id ops draw).wpIn (FR ro') 0 P Q a w := by
  cases draw with
  | true =>
    obtain ⟨ts', h', hk, hr⟩ := draw_right hG rcD hD frz ops ts h k r e
    exact hr N μ w a ro' Q id d hts fun μ' a' w' p h1 h2 => K ts' h' μ' a' w' hk p h1 h2
  | false =>
    have hs := seqF_ok hG hrc ops.toList 0 rfl ts h e N μ w a ro' Q d hts K
    rw [Array.length_toList, ← List.range_eq_range'] at hs
    exact wpIn_region hs
theorem codeF_ok [Orc] [OrcOk P] (hG : G.all (fun x => x.2.1.toList.all (gr 6)) = true) {rcD : Rec} (hD : Right P G rcD) {rc : Rec} (hrc : RightS P G rc) (hl : RightLS P G rc) : ∀ (c : Code) (ro : Option Nat) (frz : List Nat) (ts : Fr) (ds : List Nat) (h : SH) (k : KE) (r : Value), (codeF P G rcD c).run rc ro frz ts ds h k = some r →
    CodeS P G ro frz c ts ds h k r := by
  intro c
  induction c with
  | skip => intro ro frz ts ds h k r e N μ ro' a w Q d hts hds hro K; exact wpIn_skip (K .normal ts ds h μ a w e (Post.refl d) hts hds)
  | label l => intro ro frz ts ds h k r e N μ ro' a w Q d hts hds hro K; exact wpIn_label (K .normal ts ds h μ a w e (Post.refl d) hts hds)
  | ret => intro ro frz ts ds h k r e N μ ro' a w Q d hts hds hro K; exact wpIn_ret (K .ret ts ds h μ a w e (Post.refl d) hts hds)
  | exit id => intro ro frz ts ds h k r e N μ ro' a w Q d hts hds hro K; exact wpIn_exit (K (.exit id) ts ds h μ a w e (Post.refl d) hts hds)
  | seq x y ix iy =>
    intro ro frz ts ds h k r e N μ ro' a w Q d hts hds hro K
    have e : (codeF P G rcD x).run rc ro frz ts ds h (fun e ts' ds' h' => SE.rec (motive := fun _ => An) ((codeF P G rcD y).run rc ro frz ts' ds' h' k) (fun id => k (.exit id) ts' ds' h') (k .ret ts' ds' h') e) = some r := e
    refine wpIn_seq (ix _ _ _ _ _ _ _ e N μ ro' a w _ d hts hds hro fun e1 ts1 ds1 h1 μ1 a1 w1 hk1 p1 hts1 hds1 => ?_)
    cases e1 with
    | normal => exact iy _ _ _ _ _ _ _ hk1 N μ1 ro' a1 w1 Q p1.den hts1 hds1 (hro.mono p1.le) fun e ts' ds' h' μ' a' w' hk p => K e ts' ds' h' μ' a' w' hk (p1.trans p)
    | exit id => exact K _ _ _ _ μ1 a1 w1 hk1 p1 hts1 hds1
    | ret => exact K _ _ _ _ μ1 a1 w1 hk1 p1 hts1 hds1
  | cond x y z iy iz =>
    intro ro frz ts ds h k r e N μ ro' a w Q d hts hds hro K
    have e : (cond (constOk x) (⟨fun rc ro frz ts ds h k => condV ((opK x).run ts) ((codeF P G rcD y).run rc ro frz ts ds h k) ((codeF P G rcD z).run rc ro frz ts ds h k)⟩ : CK) ⟨fun _ _ _ _ _ _ _ => none⟩).run rc ro frz ts ds h k = some r := e
    cases hc : constOk x with
    | false => rw [hc] at e; cases e
    | true =>
      rw [hc] at e
      have e : condV ((opK x).run ts) ((codeF P G rcD y).run rc ro frz ts ds h k) ((codeF P G rcD z).run rc ro frz ts ds h k) = some r := e
      rw [opK_run] at e
      unfold condV at e
      split at e
      · rename_i t ht
        have hb : a.eval x = .bool t := by
          have hr := opnd_rel hts hc
          rw [ht] at hr
          generalize a.eval x = v at hr
          cases hr <;> rfl
        cases t with
        | true => exact wpIn_cond hb (iy _ _ _ _ _ _ _ e N μ ro' a w Q d hts hds hro K)
        | false => exact wpIn_cond hb (iz _ _ _ _ _ _ _ e N μ ro' a w Q d hts hds hro K)
      · cases e
  | block id x ix =>
    intro ro frz ts ds h k r e N μ ro' a w Q d hts hds hro K
    have e : (codeF P G rcD x).run rc ro frz ts ds h (fun e ts' ds' h' => SE.rec (motive := fun _ => An) (k .normal ts' ds' h') (fun id' => cond (Nat.beq id' id) (k .normal ts' ds' h') (k (.exit id') ts' ds' h')) (k .ret ts' ds' h') e) = some r := e
    refine wpIn_block (ix _ _ _ _ _ _ _ e N μ ro' a w _ d hts hds hro fun e1 ts1 ds1 h1 μ1 a1 w1 hk1 p1 hts1 hds1 => ?_)
    cases e1 with
    | normal => exact K _ _ _ _ μ1 a1 w1 hk1 p1 hts1 hds1
    | ret => exact K _ _ _ _ μ1 a1 w1 hk1 p1 hts1 hds1
    | exit id' =>
      have hk2 : cond (Nat.beq id' id) (k .normal ts1 ds1 h1) (k (.exit id') ts1 ds1 h1) = some r := hk1
      clear hk1
      cases hq : Nat.beq id' id with
      | true =>
        rw [hq, cond_true] at hk2
        have := Nat.eq_of_beq_eq_true hq
        subst this
        show Exit.inBlock id' Q (.exit id') a1 w1
        simp only [Exit.inBlock, if_true]
        exact K _ _ _ _ μ1 a1 w1 hk2 p1 hts1 hds1
      | false =>
        rw [hq, cond_false] at hk2
        have hne : id' ≠ id := fun e0 => by subst e0; simp at hq
        show Exit.inBlock id Q (.exit id') a1 w1
        simp only [Exit.inBlock, hne, if_false]
        exact K _ _ _ _ μ1 a1 w1 hk2 p1 hts1 hds1
  | loop x ix =>
    intro ro frz ts ds h k r e N μ ro' a w Q d hts hds hro K
    have e : (codeF P G rcD x).run rc ro frz ts ds h (fun e ts' ds' h' => SE.rec (motive := fun _ => An) (rc ro frz (.loop x) ts' ds' h' k) (fun id => k (.exit id) ts' ds' h') (k .ret ts' ds' h') e) = some r := e
    refine LoopX.wpIn (LoopX.unroll (ix _ _ _ _ _ _ _ e N μ ro' a w _ d hts hds hro fun e1 ts1 ds1 h1 μ1 a1 w1 hk1 p1 hts1 hds1 => ?_))
    cases e1 with
    | normal => exact hl _ _ _ _ _ _ _ _ hk1 N μ1 ro' a1 w1 Q p1.den hts1 hds1 (hro.mono p1.le) fun e ts' ds' h' μ' a' w' hk p => K e ts' ds' h' μ' a' w' hk (p1.trans p)
    | exit id => exact K _ _ _ _ μ1 a1 w1 hk1 p1 hts1 hds1
    | ret => exact K _ _ _ _ μ1 a1 w1 hk1 p1 hts1 hds1
  | scope x ix =>
    intro ro frz ts ds h k r e N μ ro' a w Q d hts hds hro K
    exact wpIn_scopeX (ix _ _ _ _ _ _ _ e N μ ro' a w _ d hts hds hro fun e1 ts1 ds1 h1 μ1 a1 w1 hk1 p1 hts1 hds1 => ⟨ex_goto e1, K e1 ts1 ds1 h1 μ1 a1 w1 hk1 p1 hts1 hds1⟩)
  | region id ops draw =>
    intro ro frz ts ds h k r e N μ ro' a w Q d hts hds hro K
    exact regionF_ok (draw := draw) hG hD hrc e N μ w a ro' Q id d hts fun ts' h' μ' a' w' hk p h1 h2 => K .normal ts' ds h' μ' a' w' hk p h1 (by rw [h2]; exact hds.mono p.le)
  | rangeFunc g ps assign body ia ib =>
    intro ro frz ts ds h k r e
    have e : (cond (constOk g) (⟨fun rc ro frz ts ds h k => rangeF P G rc ro frz ((opK g).run ts) ps assign body ts ds h k⟩ : CK) ⟨fun _ _ _ _ _ _ _ => none⟩).run rc ro frz ts ds h k = some r := e
    cases hc : constOk g with
    | false => rw [hc] at e; cases e
    | true =>
      rw [hc] at e
      exact rangeF_okS hG hrc hc e
  | goto l => intro ro frz ts ds h k r e; cases e
  | refuse s => intro ro frz ts ds h k r e; cases e
theorem loopF_ok [Orc] [OrcOk P] (hG : G.all (fun x => x.2.1.toList.all (gr 6)) = true) {rcD : Rec} (hD : Right P G rcD) {rc : Rec} (hrc : RightS P G rc) (hl : RightLS P G rc) : RightLS P G (fun ro frz c ts ds h k => (codeF P G rcD c).run rc ro frz ts ds h k) := by
  intro ro frz x ts ds h k r e N μ ro' a w Q d hts hds hro K
  have e : (codeF P G rcD x).run rc ro frz ts ds h (fun e ts' ds' h' => SE.rec (motive := fun _ => An) (rc ro frz (.loop x) ts' ds' h' k) (fun id => k (.exit id) ts' ds' h') (k .ret ts' ds' h') e) = some r := e
  refine LoopX.unroll (codeF_ok hG hD hrc hl _ _ _ _ _ _ _ _ e N μ ro' a w _ d hts hds hro fun e1 ts1 ds1 h1 μ1 a1 w1 hk1 p1 hts1 hds1 => ?_)
  cases e1 with
  | normal => exact hl _ _ _ _ _ _ _ _ hk1 N μ1 ro' a1 w1 Q p1.den hts1 hds1 (hro.mono p1.le) fun e ts' ds' h' μ' a' w' hk p => K e ts' ds' h' μ' a' w' hk (p1.trans p)
  | exit id => exact K _ _ _ _ μ1 a1 w1 hk1 p1 hts1 hds1
  | ret => exact K _ _ _ _ μ1 a1 w1 hk1 p1 hts1 hds1
theorem execF_right [Orc] [OrcOk P] (hG : G.all (fun x => x.2.1.toList.all (gr 6)) = true) (nd : Nat) : ∀ n, RightS P G (execF P G nd n) ∧ RightLS P G (execF P G nd n)
  | 0 => ⟨fun _ _ _ _ _ _ _ _ h => (by cases h), fun _ _ _ _ _ _ _ _ h => (by cases h)⟩
  | n + 1 => ⟨fun ro frz c ts ds h k r e => codeF_ok hG (exec_right hG nd) (execF_right hG nd n).1 (execF_right hG nd n).2 c ro frz ts ds h k r e, loopF_ok hG (exec_right hG nd) (execF_right hG nd n).1 (execF_right hG nd n).2⟩
end
/-- What an entry's call comes to at its own memory, whatever is chosen. -/
noncomputable def runEF [Orc] (P : Program) (nd n o : Nat) (x : Ent) : Option Value := callF P [] (execF P [] nd n) (List.range x.mem.length) (finfo P x.g) x.args (memSH x.mem { next := 0, tr := .nil, kin := .nil }) fun v h => match okRes x.mem.length h o x.res with
  | some cs => some (.tuple ⟨v :: cs⟩)
  | none => none
noncomputable def runSF [Orc] (P : Program) (nd n : Nat) (f : FuncId) : Option Value := callF P [] (execF P [] nd n) [] (finfo P f) [] sh0 fun v _ => some v
theorem closed_nullF {T : List (FuncId × Value)} {E : List Ent} {P : Program} {nd n : Nat} {f : FuncId} (hT : ∀ x ∈ T, NullR P x.1 x.2) (hE : ∀ x ∈ E, EntR P x) (h : isTrue (@runSF ⟨T, E⟩ P nd n f) = true) : NullR P f (.bool true) := by
  letI : Orc := ⟨T, E⟩
  haveI : OrcOk P := ⟨hT, hE⟩
  unfold isTrue at h
  split at h
  · rename_i b hb
    subst h
    unfold runSF at hb
    obtain ⟨hent, hc⟩ := callF_okS (by rfl) (execF_right (by rfl) nd n).1 hb
    refine ⟨rfl, hent, fun w => (hc _ _ w #[] (den0 P w) .nil).mono ?_⟩
    rintro e w' ⟨v, h', hk, μ', v', rfl, p, hv⟩
    cases hk
    exact ⟨by rw [bool_rel hv], p.bel.low⟩
  · cases h
/-- **An entry is right**, whatever is chosen. -/
theorem ent_okF {T : List (FuncId × Value)} {E : List Ent} {P : Program} {nd n o : Nat} {x : Ent} (hT : ∀ x ∈ T, NullR P x.1 x.2) (hE : ∀ x ∈ E, EntR P x) (hf : fineE x = true) (h : @runEF ⟨T, E⟩ P nd n o x = some (.tuple ⟨endOf o x :: resOf x⟩)) : EntR P x := by
  letI : Orc := ⟨T, E⟩
  haveI : OrcOk P := ⟨hT, hE⟩
  unfold runEF at h
  obtain ⟨hent, hc⟩ := callF_okS (by rfl) (execF_right (by rfl) nd n).1 h
  refine ⟨hent, fun μ w bs args' d hbs ha => (hc _ μ w args' d ha).mono ?_⟩
  rintro e w' ⟨v, h', hk, μ', v', rfl, p, hv⟩
  have hbel : Below w.heap.size w w' := ⟨p.bel.low.os, p.bel.low.tape, p.bel.low.output, p.bel.low.size, fun k hk => by
    by_cases hm : k ∈ bs
    · obtain ⟨j, κ, h1, h2⟩ := hbs k hm
      exact p.kp j (List.mem_range.2 h1) k κ h2
    · refine p.bel.oth k (List.mem_filter.2 ⟨List.mem_range.2 hk, ?_⟩)
      cases hq : bs.any fun b => Nat.beq b k with
      | false => rfl
      | true =>
        obtain ⟨b, hb, hbk⟩ := List.any_eq_true.1 hq
        exact absurd (by rw [← Nat.eq_of_beq_eq_true hbk]; exact hb) hm⟩
  refine ⟨?_, hbel⟩
  unfold EntE
  cases hr : x.res with
  | none =>
    simp only [hr, okRes, endOf, resOf, Option.some.injEq, Value.tuple.injEq, Array.mk.injEq, List.cons.injEq, and_true] at hk
    simp only [fineE, hr] at hf
    subst hk
    exact ⟨hf, by rw [hv.eq hf]⟩
  | some r =>
    simp only [fineE, hr, Bool.and_eq_true] at hf
    simp only [hr, endOf, resOf] at hk
    split at hk
    · rename_i cs hok
      simp only [Option.some.injEq, Value.tuple.injEq, Array.mk.injEq, List.cons.injEq] at hk
      obtain ⟨rfl, rfl⟩ := hk
      simp only [okRes] at hok
      split at hok
      · rename_i t cs2 f hget
        cases hcnd : (decide (t = r.1) && Nat.ble x.mem.length f && ((List.range x.mem.length).all fun k => famLow x.mem.length (h'.tr.get k))) with
        | false => rw [hcnd] at hok; cases hok
        | true =>
          rw [hcnd, cond_true, Option.some.injEq] at hok
          subst hok
          simp only [Bool.and_eq_true, decide_eq_true_eq] at hcnd
          obtain ⟨⟨rfl, hmf⟩, hall⟩ := hcnd
          have hmf := Nat.le_of_ble_eq_true hmf
          obtain ⟨b, κ, cur, sz, b1, b2, b3, b4, b5, b6, b7⟩ := p.den.blk o _ hget
          refine ⟨hf.2, v', b, κ, cur, sz, rfl, ?_, b3, b4, b5, b6, ?_, fun ν k hk => renB_rel b1 hk 4 _ _ hf.1 hv⟩
          · rcases Nat.lt_or_ge b w.heap.size with hlt | hge
            · exfalso
              by_cases hm : b ∈ bs
              · obtain ⟨j, κ', h1, h2⟩ := hbs b hm
                have hlow := List.all_eq_true.1 hall j (List.mem_range.2 h1)
                unfold famLow at hlow
                split at hlow
                · rename_i t3 cs3 f3 hsj
                  refine p.den.apart j o _ _ b κ' κ hsj hget (fun e => ?_) (p.le _ _ h2) b1
                  simp only [Nat.blt_eq] at hlow
                  simp only [famOf] at e
                  omega
                · cases hlow
              · refine b2.2 (List.mem_filter.2 ⟨List.mem_range.2 hlt, ?_⟩)
                cases hq : bs.any fun b' => Nat.beq b' b with
                | false => rfl
                | true =>
                  obtain ⟨b', hb', hbk⟩ := List.any_eq_true.1 hq
                  exact absurd (by rw [← Nat.eq_of_beq_eq_true hbk]; exact hb') hm
            · exact hge
          · exact ((RelL.eq b7 hf.2).symm).symm
      · cases hok
    · cases hk
end Go.Proofs.Ytnhojiooiedabaa
