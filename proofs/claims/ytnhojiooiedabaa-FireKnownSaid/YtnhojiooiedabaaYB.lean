/- Code whose choices are open, reckoned on the shadow: whatever is chosen, it is answered the same. Calls, rounds, operations, ranges over functions. Over any program. Conditions: as each law says. -/
import Derived.Test.YtnhojiooiedabaaYA
import Derived.Test.YtnhojiooiedabaaXW
namespace Go.Proofs.Ytnhojiooiedabaa
open Go Go.RowKit
/-- An operation, ranges over maps among them. -/
noncomputable def opF [Orc] (P : Program) (G : Gl) (o : Oper) : OK := match o.op with
  | .range t x => cond (constOk x) ⟨fun _ frz ts h k => match sRange P h frz t ((opK x).run ts) with
    | some (v, h') => k ((dstK o.dst).run ts v) h'
    | none => none⟩ ⟨fun _ _ _ _ _ => none⟩
  | .next x b => cond (constOk x && !b) ⟨fun _ frz ts h k => nextK frz h ((opK x).run ts) fun v h' => k ((dstK o.dst).run ts v) h'⟩ ⟨fun _ _ _ _ _ => none⟩
  | .entry x => cond (constOk x) ⟨fun _ _ ts h k => match sEntry h ((opK x).run ts) with
    | some v => k ((dstK o.dst).run ts v) h
    | none => none⟩ ⟨fun _ _ _ _ _ => none⟩
  | _ => opW P G o
noncomputable def seqF [Orc] (P : Program) (G : Gl) (ops : Array Oper) (l : List Oper) : OK := List.rec (motive := fun _ => OK) ⟨fun _ _ ts h k => k ts h⟩ (fun o _ r => joinW (guardK ops o) o.dst (opF P G o) r) l
noncomputable def regionF [Orc] (P : Program) (G : Gl) (rcD : Rec) (ops : Array Oper) (draw : Bool) : OK := cond draw (OK.rec (motive := fun _ => OK) (fun f => ⟨fun _ frz ts h k => f rcD frz ts h k⟩) (drawD P G ops (planD P ops))) (seqF P G ops ops.toList)
noncomputable def codeF [Orc] (P : Program) (G : Gl) (rcD : Rec) (c : Code) : CK := Code.rec (motive := fun _ => CK)
  ⟨fun _ _ _ ts ds h k => k .normal ts ds h⟩
  (fun _ ops draw => ⟨fun rc _ frz ts ds h k => (regionF P G rcD ops draw).run rc frz ts h fun ts' h' => k .normal ts' ds h'⟩)
  (fun _ _ a b => ⟨fun rc ro frz ts ds h k => a.run rc ro frz ts ds h fun e ts' ds' h' => SE.rec (motive := fun _ => An) (b.run rc ro frz ts' ds' h' k) (fun id => k (.exit id) ts' ds' h') (k .ret ts' ds' h') e⟩)
  (fun x _ _ a b => cond (constOk x) ⟨fun rc ro frz ts ds h k => condV ((opK x).run ts) (a.run rc ro frz ts ds h k) (b.run rc ro frz ts ds h k)⟩ ⟨fun _ _ _ _ _ _ _ => none⟩)
  (fun id _ a => ⟨fun rc ro frz ts ds h k => a.run rc ro frz ts ds h fun e ts' ds' h' => SE.rec (motive := fun _ => An) (k .normal ts' ds' h') (fun id' => cond (Nat.beq id' id) (k .normal ts' ds' h') (k (.exit id') ts' ds' h')) (k .ret ts' ds' h') e⟩)
  (fun c a => ⟨fun rc ro frz ts ds h k => a.run rc ro frz ts ds h fun e ts' ds' h' => SE.rec (motive := fun _ => An) (rc ro frz (.loop c) ts' ds' h' k) (fun id => k (.exit id) ts' ds' h') (k .ret ts' ds' h') e⟩)
  (fun g ps assign body _ _ => cond (constOk g) ⟨fun rc ro frz ts ds h k => rangeF P G rc ro frz ((opK g).run ts) ps assign body ts ds h k⟩ ⟨fun _ _ _ _ _ _ _ => none⟩)
  (fun id => ⟨fun _ _ _ ts ds h k => k (.exit id) ts ds h⟩)
  (fun _ a => a)
  (fun _ => ⟨fun _ _ _ ts ds h k => k .normal ts ds h⟩)
  (fun _ => ⟨fun _ _ _ _ _ _ _ => none⟩)
  ⟨fun _ _ _ ts ds h k => k .ret ts ds h⟩
  (fun _ => ⟨fun _ _ _ _ _ _ _ => none⟩) c
noncomputable def execF [Orc] (P : Program) (G : Gl) (nd n : Nat) : Rec := Nat.rec (motive := fun _ => Rec) (fun _ _ _ _ _ _ _ => none) (fun _ ih => fun ro frz c ts ds h k => (codeF P G (exec P G nd) c).run ih ro frz ts ds h k) n
section
variable {P : Program} {N : Lim} {G : Gl} {μ : Mu} {h : SH} {w : World} {frz : List Nat}
/-- A call has come to a value behind which this is answered. -/
def CallPS (P : Program) (N : Lim) (G : Gl) (μ : Mu) (frz : List Nat) (w : World) (k : KV) (r : Value) (e : Ending) (w' : World) : Prop := ∃ v h', k v h' = some r ∧ CallP P N G μ frz w h' v e w'
def CodeS (P : Program) (G : Gl) (ro : Option Nat) (frz : List Nat) (c : Code) (ts : Fr) (ds : List Nat) (h : SH) (k : KE) (r : Value) : Prop :=
  ∀ (N : Lim) (μ : Mu) (ro' : Option Nat) (a : Act) (w : World) (Q : Exit → Act → World → Prop), Den P N G μ h w → RelF μ ts a.tmps → DefR μ ds a.defers → RoR μ ro ro' →
    (∀ e ts' ds' h' μ' a' w', k e ts' ds' h' = some r → Post P N G μ frz w h' μ' w' → RelF μ' ts' a'.tmps → DefR μ' ds' a'.defers → Q e.ex a' w') → c.wpIn (FR ro') 0 P Q a w
def RightS (P : Program) (G : Gl) (rc : Rec) : Prop := ∀ (ro : Option Nat) (frz : List Nat) (c : Code) (ts : Fr) (ds : List Nat) (h : SH) (k : KE) (r : Value), rc ro frz c ts ds h k = some r → CodeS P G ro frz c ts ds h k r
/-- A call comes to a value behind which this is answered. -/
def CallS (P : Program) (G : Gl) (frz : List Nat) (g : FuncId) (args : List Value) (h : SH) (k : KV) (r : Value) : Prop :=
  (∀ (args' : Array Value) (W : World), (callFunc g args').run P W = .ok (.enter g args') W) ∧
  ∀ (N : Lim) (μ : Mu) (w : World) (args' : Array Value), Den P N G μ h w → RelL μ args args'.toList → CallsIn Fence.wide 0 P g args' w (CallPS P N G μ frz w k r)
theorem CallR.toS {g : FuncId} {args : List Value} {k : KV} {r v : Value} {h' : SH} (c : CallR P G frz g args h v h') (hk : k v h' = some r) : CallS P G frz g args h k r :=
  ⟨c.1, fun N μ w args' d ha => (c.2 N μ w args' d ha).mono fun _ _ hc => ⟨v, h', hk, hc⟩⟩
/-- A call. -/
theorem callF_okS (hG : G.all (fun x => x.2.1.toList.all (gr 6)) = true) {rc : Rec} (hrc : RightS P G rc) {g : FuncId} {args : List Value} {k : KV} {r : Value} (e : callF P G rc frz (finfo P g) args h k = some r) :
    CallS P G frz g args h k r := by
  unfold callF at e
  cases hc : ((finfo P g).ok && Nat.ble args.length (finfo P g).n) with
  | false => rw [hc] at e; cases e
  | true =>
    rw [hc, cond_true] at e
    rw [Bool.and_eq_true] at hc
    obtain ⟨hok, hle⟩ := hc
    have hle := Nat.le_of_ble_eq_true hle
    obtain ⟨fn, c, f0, a0, hfn, hb, hp, hn, hfi⟩ : ∃ fn c f0 a0, P.funcs[g]? = some fn ∧ fn.body = some c ∧ pureOut P (callFunc g #[]) = some (.enter f0 a0) ∧ fn.ntmps ≤ 512 ∧ finfo P g = ⟨Nat.ble fn.ntmps 512, fn.ntmps, c, fn.results.toList⟩ := by
      cases hfn : P.funcs[g]? with
      | none => simp [finfo, hfn] at hok
      | some fn =>
        cases hb : fn.body with
        | none => simp [finfo, hfn, hb] at hok
        | some c =>
          cases hp : pureOut P (callFunc g #[]) with
          | none => simp [finfo, hfn, hb, hp] at hok
          | some x =>
            cases x with
            | enter f0 a0 =>
              have hfi : finfo P g = ⟨Nat.ble fn.ntmps 512, fn.ntmps, c, fn.results.toList⟩ := by simp [finfo, hfn, hb, hp]
              rw [hfi] at hok
              exact ⟨fn, c, f0, a0, rfl, hb, rfl, Nat.le_of_ble_eq_true hok, hfi⟩
            | _ => simp [finfo, hfn, hb, hp] at hok
    have hent : ∀ (args' : Array Value) (W : World), (callFunc g args').run P W = .ok (.enter g args') W := fun args' W => by
      have := pureOut_run hp W
      simp only [callFunc, Sem.run_bind, run_program, Result.andThen_ok, hfn] at this ⊢
      by_cases hn : (fn.name == "runtime.NumGoroutine") = true
      · rw [if_pos hn] at this; simp at this
      · rw [if_neg hn, if_neg (by simp [hb])]; rfl
    rw [hfi] at e hle
    simp only at e hle
    refine ⟨hent, fun N μ w args' d ha => ?_⟩
    have hlen := ha.length
    simp only [Array.length_toList] at hlen
    refine callsIn_of_wp_marks hfn hb trivial ?_
    rw [show fn.ntmps - args'.size = fn.ntmps - args.length from by rw [hlen]]
    refine hrc _ _ _ _ _ _ _ _ e N μ none _ w _ d (RelF.of ha hn hle) rfl trivial fun ex ts ds h1 μ' a' w' hk p hts hds => ?_
    have key : (ex.ex = .normal ∨ ex.ex = .ret) → endCall P G frz fn.results.toList ts ds h1 k = some r → LeavesInM Fence.wide 0 P fn a'.tmps (CallPS P N G μ frz w k r) a'.defers .returning w' := by
      intro hex hk
      unfold endCall at hk
      split at hk
      · rename_i h2 hs
        split at hk
        · rename_i v hres
          refine shut_ok ds h1 _ _ w' hs p.den hds fun w2 p2 => ?_
          obtain ⟨v', hv1, hv2⟩ := sResults_ok hG p2.den hts hres
          exact ⟨v', hv1, v, h2, hk, μ', v', rfl, p.trans p2, hv2⟩
        · cases hk
      · cases hk
    cases ex with
    | normal => exact key (.inl rfl) hk
    | exit id => cases hk
    | ret => exact key (.inr rfl) hk
def RoundS (P : Program) (G : Gl) (frz : List Nat) (l : Nat) (args : List Value) (h : SH) (k : KV) (r : Value) : Prop :=
  ∀ (N : Lim) (μ : Mu) (w : World) (b κ : Nat) (args' : Array Value) (ro' : Option Nat), Den P N G μ h w → μ l = some (b, κ) → RelL μ args args'.toList →
    ∃ f tmps assign body, (Instr.yield b args').run P w = .ok (.round b f tmps assign body) w ∧ RoundIn (FR ro') 0 P b f tmps assign body w (CallPS P N G μ frz w k r)
/-- A round. -/
theorem roundF_okS {rc : Rec} (hrc : RightS P G rc) {l : Nat} {args : List Value} {k : KV} {x : Value} (e : roundF rc frz l args h k = some x) : RoundS P G frz l args h k x := by
  unfold roundF at e
  split at e
  · rename_i r tl hg
    cases hs : Nat.beq args.length r.params.size with
    | false => simp [hs] at e
    | true =>
      simp only [hs, cond_true] at e
      have hs := Nat.eq_of_beq_eq_true hs
      intro N μ w b κ args' ro' d hb ha
      obtain ⟨b0, κ0, fn, tmps, dd, κd, i1, i2, i3, i4, i5⟩ := d.blk l _ hg
      rw [hb] at i1; cases i1
      have hlen := ha.length
      simp only [Array.length_toList] at hlen
      refine ⟨_, _, _, _, run_yield i4 (by show args'.size = r.params.size; omega), roundIn_of_wpIn (FR_fn _ _) ?_⟩
      rw [FR_in]
      refine hrc _ _ _ _ _ _ _ _ e N μ (some b) _ w _ d ?_ rfl ⟨κ, hb⟩ fun e1 ts1 ds1 h1 μ1 a1 w1 hk1 p1 hts1 hds1 => ?_
      · have := zipset_rel r.params.toList ha i5
        rw [← Array.foldl_toList, Array.toList_zip]
        exact this
      · unfold roundMid at hk1
        split at hk1
        · split at hk1
          · rename_i r1 tl1 hg1
            cases hc1 : (isReady r1.state && frzOk h1 frz (2 * l + 1)) with
            | false => simp [hc1] at hk1
            | true =>
              simp only [hc1, cond_true] at hk1
              rw [Bool.and_eq_true] at hc1
              have hst : r1.state = .ready := by
                have := hc1.1
                cases hq : r1.state <;> simp_all [isReady]
              have hb1 := p1.le _ _ hb
              obtain ⟨b0, κ0, fn1, tmps1, dd1, κd1, i1, i2, i3, i4, i5⟩ := p1.den.blk l _ hg1
              rw [hb1] at i1; cases i1
              refine ⟨_, run_beginRound i4 hst, ?_⟩
              have q1 := put_loop (frz := frz) p1.den hg1 hc1.2 hb1 (r2 := { r1 with state := .busy }) rfl fn1 tmps1 dd1 i4 (.loop { state := .busy, pending := r1.pending, fn := fn1, tmps := tmps1, params := r1.params, assign := r1.assign, body := r1.body, defers := dd1 }) rfl
              have p2 := p1.trans q1
              have hds1 : a1.defers = [] := hds1
              refine hrc _ _ _ _ _ _ _ _ hk1 N μ1 (some b) a1 _ _ q1.den hts1 (by rw [hds1]; rfl) ⟨κ, hb1⟩ fun ex tsx dsx h3' μ3 a3 w3 hk3 p3 hts3 hds3 => ?_
              have p4 := p2.trans p3
              have hb3 := p4.le _ _ hb
              unfold roundEnd at hk3
              split at hk3
              · split at hk3
                · rename_i r3 tl3 hg3
                  cases hc3 : frzOk h3' frz (2 * l + 1) with
                  | false => simp [hc3] at hk3
                  | true =>
                    simp only [hc3, cond_true] at hk3
                    obtain ⟨b0, κ0, fn3, tmps3, dd3, κd3, j1, j2, j3, j4, j5⟩ := p4.den.blk l _ hg3
                    rw [hb3] at j1; cases j1
                    have fin : ∀ jump : Option Code, jump = ex.jump → ∃ v w', (Instr.endRound b jump).run P w3 = .ok v w' ∧ CallPS P N G μ frz w k x (.returned v) w' := by
                      rintro jump rfl
                      refine ⟨_, _, run_endRound _ j4, _, _, hk3, μ3, _, rfl, p4.trans (put_loop (r2 := { r3 with state := cond ex.jump.isNone .ready .done, pending := ex.jump }) p4.den hg3 hc3 hb3 rfl fn3 tmps3 dd3 j4 _ ?_), .ground rfl⟩
                      cases ex.jump <;> rfl
                    cases ex with
                    | normal => exact fin none rfl
                    | exit id => exact fin (some (.exit id)) rfl
                    | ret => exact fin (some .ret) rfl
                · cases hk3
              · cases hk3
          · cases hk1
        · cases hk1
  · cases e
/-- What an operation comes to, behind which this is answered. -/
def StepS (P : Program) (G : Gl) (frz : List Nat) (o : Oper) (ts : Fr) (h : SH) (k : KF) (r : Value) : Prop :=
  ∀ (N : Lim) (μ : Mu) (w : World) (a : Act) (ro' : Option Nat) (K : Act → World → Prop) (Q : Exit → Act → World → Prop), Den P N G μ h w → RelF μ ts a.tmps →
    (∀ ts' h' μ' a' w', k ts' h' = some r → Post P N G μ frz w h' μ' w' → RelF μ' ts' a'.tmps → a'.defers = a.defers → K a' w') → o.uponIn (FR ro') 0 P a K Q ((execOp a.eval o).run P w)
theorem StepR.toS {o : Oper} {ts ts' : Fr} {h' : SH} {k : KF} {r : Value} (s : StepR P G frz o ts h ts' h') (hk : k ts' h' = some r) : StepS P G frz o ts h k r :=
  fun N μ w a ro' K Q d hts hK => s.2 N μ w a ro' d hts K Q fun μ' a' w' p hr hp _ => hK ts' h' μ' a' w' hk p hr (by obtain ⟨v', rfl⟩ := hp; exact put_defers' _ _ _)
theorem steps_enterS {o : Oper} {a : Act} {ts : Fr} {k : KF} {r : Value} {ro' : Option Nat} {g : FuncId} {args' : Array Value} (hts : RelF μ ts a.tmps)
    (hr : (execOp a.eval o).run P w = .ok (.enter g args') w) (hc : CallsIn Fence.wide 0 P g args' w (CallPS P N G μ frz w (fun v h' => k ((dstK o.dst).run ts v) h') r)) {K : Act → World → Prop} {Q : Exit → Act → World → Prop}
    (hK : ∀ ts' h' μ' a' w', k ts' h' = some r → Post P N G μ frz w h' μ' w' → RelF μ' ts' a'.tmps → a'.defers = a.defers → K a' w') : o.uponIn (FR ro') 0 P a K Q ((execOp a.eval o).run P w) := by
  rw [hr, Oper.uponIn_enter]
  refine ⟨FR_lone, FR_calls (CallsIn.mono hc ?_)⟩
  rintro e w'' ⟨v, h', hk, μ', v', rfl, h2, h3⟩
  have hk : k ((dstK o.dst).run ts v) h' = some r := hk
  rw [dstK_run] at hk
  exact hK _ _ μ' _ w'' hk h2 (put_rel (hts.mono h2.le) h3 _) (put_defers' _ _ _)
theorem orc_okS [Orc] [OrcOk P] (hG : G.all (fun x => x.2.1.toList.all (gr 6)) = true) {rc : Rec} (hrc : RightS P G rc) {g : FuncId} {first args captured : List Value} {k : KV} {r : Value}
    (e : emp captured (emp first (emp args (orcF g Orc.t (fun v => cond (frzLive h frz) (k v h) none) (entF g args h Orc.e (fun v h' => cond (frzLive h frz) (k v h') none) (callF P G rc frz (finfo P g) (first ++ args ++ captured) h k))) (entF g args h Orc.e (fun v h' => cond (frzLive h frz) (k v h') none) (callF P G rc frz (finfo P g) (first ++ args ++ captured) h k))) (callF P G rc frz (finfo P g) (first ++ args ++ captured) h k)) (callF P G rc frz (finfo P g) (first ++ args ++ captured) h k) = some r) :
    CallS P G frz g (first ++ args ++ captured) h k r := by
  cases captured with
  | cons _ _ => exact callF_okS hG hrc e
  | nil =>
    cases first with
    | cons _ _ => exact callF_okS hG hrc e
    | nil =>
      have ent : entF g args h Orc.e (fun v h' => cond (frzLive h frz) (k v h') none) (callF P G rc frz (finfo P g) ([] ++ args ++ []) h k) = some r → CallS P G frz g ([] ++ args ++ []) h k r := fun e => by
        rcases entF_ok _ e with ⟨x, h1, rfl, h3, h4⟩ | h1
        · cases hl : frzLive h frz with
          | false =>
            unfold endE at h4
            split at h4 <;> (rw [hl] at h4; cases h4)
          | true =>
            obtain ⟨v, h', h5, h6⟩ := (OrcOk.eok (P := P) _ h1).call h3 hl h4
            rw [hl, cond_true] at h5
            have h7 : CallR P G frz x.g ([] ++ args ++ []) h v h' := by simpa using h6
            exact h7.toS h5
        · exact callF_okS hG hrc h1
      cases args with
      | cons _ _ => exact ent e
      | nil =>
        have e : orcF g Orc.t (fun v => cond (frzLive h frz) (k v h) none) (entF g [] h Orc.e (fun v h' => cond (frzLive h frz) (k v h') none) (callF P G rc frz (finfo P g) ([] ++ [] ++ []) h k)) = some r := e
        rcases orcF_ok _ e with ⟨v, h1, h2⟩ | h1
        · cases hl : frzLive h frz with
          | false => rw [hl] at h2; cases h2
          | true =>
            rw [hl, cond_true] at h2
            exact CallR.toS ((OrcOk.ok (P := P) _ h1).call (.inl hl) h rfl) h2
        · exact ent h1
theorem callV_okS [Orc] [OrcOk P] (hG : G.all (fun x => x.2.1.toList.all (gr 6)) = true) {rc : Rec} (hrc : RightS P G rc) {o : Oper} {c : Call} {f : Operand} (ho : o.op = .call c) (hcal : c.callee = .value f) (hf : constOk f = true) (ha : c.args.toList.all constOk = true) {ts : Fr} {k : KF} {r : Value}
    (e : callV P G rc frz ((opK f).run ts) (argsW c.args.toList ts) h (fun v h' => k ((dstK o.dst).run ts v) h') = some r) : StepS P G frz o ts h k r := by
  rw [opK_run] at e
  unfold callV at e
  split at e
  · rename_i g fi cs hfv
    obtain ⟨hent, hcall⟩ := orc_okS hG hrc e
    intro N μ w a ro' K Q d hts hK
    have hff := opnd_rel hts hf
    rw [hfv] at hff
    obtain ⟨fi', cs', hp, h1, h2⟩ := func_rel hff
    have hl := args_opnd hts ha
    have hrel : RelL μ (fi.toList ++ argsW c.args.toList ts ++ cs.toList) (fi' ++ c.args.map a.eval ++ cs').toList := by
      simp only [Array.toList_append]
      exact (h1.append hl).append h2
    refine steps_enterS hts ?_ (hcall N μ w _ d hrel) hK
    simp only [execOp, ho, resolve, hcal, hp, Deferred.ofValue, pure_bind, invoke]
    exact hent _ w
  · rename_i l fi cs hfv
    have hround := roundF_okS hrc e
    intro N μ w a ro' K Q d hts hK
    have hff := opnd_rel hts hf
    rw [hfv] at hff
    obtain ⟨b, κ, hp, hb⟩ := yield_rel hff
    obtain ⟨f2, tmps, assign, body, h1, h2⟩ := hround N μ w b κ _ ro' d hb (args_opnd hts ha)
    have hr : (execOp a.eval o).run P w = .ok (.round b f2 tmps assign body) w := by
      simp only [execOp, ho, resolve, hcal, hp, Deferred.ofValue, pure_bind, invoke, Array.empty_append]
      exact h1
    rw [hr, Oper.uponIn_round]
    refine ⟨FR_lone, RoundIn.mono h2 ?_⟩
    rintro e w'' ⟨v, h', hk, μ', v', rfl, h2, h3⟩
    have hk : k ((dstK o.dst).run ts v) h' = some r := hk
    rw [dstK_run] at hk
    exact hK _ _ μ' _ w'' hk h2 (put_rel (hts.mono h2.le) h3 _) (put_defers' _ _ _)
  · cases e
theorem callM_okS (hG : G.all (fun x => x.2.1.toList.all (gr 6)) = true) {rc : Rec} (hrc : RightS P G rc) {o : Oper} {c : Call} {f : Operand} {name : String} (ho : o.op = .call c) (hcal : c.callee = .invoke f name) (hf : constOk f = true) (ha : c.args.toList.all constOk = true) {ts : Fr} {k : KF} {r : Value}
    (e : callM P G rc frz ((opK f).run ts) name (argsW c.args.toList ts) h (fun v h' => k ((dstK o.dst).run ts v) h') = some r) : StepS P G frz o ts h k r := by
  rw [opK_run] at e
  unfold callM at e
  split at e
  · rename_i t v hfv
    split at e
    · rename_i g hg
      obtain ⟨hent, hcall⟩ := callF_okS hG hrc e
      intro N μ w a ro' K Q d hts hK
      have hff := opnd_rel hts hf
      rw [hfv] at hff
      obtain ⟨v', hp, hv⟩ := iface_rel hff
      have hl := args_opnd hts ha
      have hrel : RelL μ (v :: argsW c.args.toList ts) (#[v'] ++ c.args.map a.eval).toList := by
        simp only [Array.toList_append, List.singleton_append]
        exact .cons hv hl
      refine steps_enterS hts ?_ (hcall N μ w _ d hrel) hK
      have hm : (method (P.types.size + Made.depth) t v' name).run P w = .ok (g, v') w := method_ok hg _ w
      simp only [execOp, ho, resolve, hcal, hp, pure_bind, invoke]
      have h0 : (#[Value.iface t v'] ++ Array.map a.eval c.args)[0]? = some (.iface t v') := by rw [Array.getElem?_append_left (by simp)]; rfl
      have h1 : (#[Value.iface t v'] ++ Array.map a.eval c.args).extract 1 = Array.map a.eval c.args := by
        apply Array.toList_inj.1
        simp only [Array.toList_extract, Array.toList_map]
        simp [List.take_of_length_le]
      simp only [h0, h1, callMethod, Sem.run_bind, run_program, Result.andThen_ok, hm]
      exact hent _ w
    · cases e
  · cases e
theorem opW_okS [Orc] [OrcOk P] (hG : G.all (fun x => x.2.1.toList.all (gr 6)) = true) {rc : Rec} (hrc : RightS P G rc) {o : Oper} {ts : Fr} {k : KF} {r : Value} (e : (opW P G o).run rc frz ts h k = some r) : notDefer o = true ∧ StepS P G frz o ts h k r := by
  have det : (notDefer o = true ∧ ∃ ts' h', k ts' h' = some r ∧ StepR P G frz o ts h ts' h') → notDefer o = true ∧ StepS P G frz o ts h k r := fun ⟨h1, _, _, h2, h3⟩ => ⟨h1, h3.toS h2⟩
  unfold opW at e
  split at e
  · rename_i x ho; exact det (moveW_ok hG (.inl ho) e)
  · rename_i x ho; exact det (moveW_ok hG (.inr ho) e)
  · rename_i c ho
    have hnd : notDefer o = true := by simp [notDefer, ho]
    split at e
    · rename_i f hcal
      cases hc : (constOk f && c.args.toList.all constOk) with
      | false => rw [hc] at e; cases e
      | true =>
        rw [hc] at e
        rw [Bool.and_eq_true] at hc
        exact ⟨hnd, callV_okS hG hrc ho hcal hc.1 hc.2 e⟩
    · rename_i f name hcal
      cases hc : (constOk f && c.args.toList.all constOk) with
      | false => rw [hc] at e; cases e
      | true =>
        rw [hc] at e
        rw [Bool.and_eq_true] at hc
        exact ⟨hnd, callM_okS hG hrc ho hcal hc.1 hc.2 e⟩
    · exact det (pureW_ok hG e)
  · exact det (pureW_ok hG e)
/-- **An operation**, ranges over maps among them. -/
theorem opF_ok [Orc] [OrcOk P] (hG : G.all (fun x => x.2.1.toList.all (gr 6)) = true) {rc : Rec} (hrc : RightS P G rc) {o : Oper} {ts : Fr} {k : KF} {r : Value} (e : (opF P G o).run rc frz ts h k = some r) : notDefer o = true ∧ StepS P G frz o ts h k r := by
  unfold opF at e
  split at e
  · rename_i t x ho
    refine ⟨by simp [notDefer, ho], fun N μ w a ro' K Q d hts hK => ?_⟩
    cases hc : constOk x with
    | false => rw [hc] at e; cases e
    | true =>
      rw [hc, cond_true] at e
      simp only [opK_run, dstK_run] at e
      split at e
      · rename_i v h' hs
        obtain ⟨μ', v', w', g1, g2, g3⟩ := (sRange_ok d hs (opnd_rel hts hc)).next
        have hr : (execOp a.eval o).run P w = .ok (.value v') w' := by
          simp only [execOp, ho]
          exact g1
        rw [hr, Oper.uponIn_value]
        exact hK _ _ μ' _ w' e g2 (put_rel (hts.mono g2.le) g3.1 _) (put_defers' _ _ _)
      · cases e
  · rename_i x b ho
    refine ⟨by simp [notDefer, ho], fun N μ w a ro' K Q d hts hK => ?_⟩
    cases hc : (constOk x && !b) with
    | false => rw [hc] at e; cases e
    | true =>
      rw [hc, cond_true] at e
      rw [Bool.and_eq_true, Bool.not_eq_true'] at hc
      obtain ⟨hc, rfl⟩ := hc
      simp only [opK_run, dstK_run] at e
      obtain ⟨v, h', v', w', g1, g2, g3, g4⟩ := nextK_ok d e (opnd_rel hts hc) o.type
      have hr : (execOp a.eval o).run P w = .ok (.value v') w' := by
        simp only [execOp, ho, Sem.run_bind, g2, Result.andThen_ok, Sem.run_pure]
      rw [hr, Oper.uponIn_value]
      exact hK _ _ μ _ w' g1 g3 (put_rel hts g4 _) (put_defers' _ _ _)
  · rename_i x ho
    refine ⟨by simp [notDefer, ho], fun N μ w a ro' K Q d hts hK => ?_⟩
    cases hc : constOk x with
    | false => rw [hc] at e; cases e
    | true =>
      rw [hc, cond_true] at e
      simp only [opK_run, dstK_run] at e
      split at e
      · rename_i v hs
        obtain ⟨v', g1, g2⟩ := sEntry_ok d hs (opnd_rel hts hc)
        have hr : (execOp a.eval o).run P w = .ok (.value v') w := by
          simp only [execOp, ho, Sem.run_bind, g1, Result.andThen_ok, Sem.run_pure]
        rw [hr, Oper.uponIn_value]
        exact hK _ _ μ _ w e (Post.refl d) (put_rel hts g2 _) (put_defers' _ _ _)
      · cases e
  · exact opW_okS hG hrc e
end
end Go.Proofs.Ytnhojiooiedabaa
