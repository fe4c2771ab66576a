/- Code reckoned on the shadow is right: scopes, loops, all code, once regions that draw are. Over any program. Conditions: as each law says. -/
import Derived.Test.YtedpbkpeofaibaaXP
namespace Go.Proofs.Ytedpbkpeofaibaa
open Go Go.RowKit
set_option linter.unusedSimpArgs false
set_option linter.unusedVariables false
section
variable {F : Fence} {n : Nat} {P : Program} {Q : Exit → Act → World → Prop} {a : Act} {w : World}
theorem stepR_scope {b : Frame} {k : List Item} {cs : List Frame} {c : Code} : step P (lone (b.atR a (.code (.scope c) :: k)) cs w) = .next (lone (b.atR a (.code c :: .inScope c :: k)) cs w) :=
  step_lone_go (by simp [stepG, stepG.exec, Frame.atR])
theorem stepR_inScope {b : Frame} {k : List Item} {cs : List Frame} {c : Code} : step P (lone (b.atR a (.inScope c :: k)) cs w) = .next (lone (b.atR a k) cs w) :=
  step_lone_go (by simp [stepG, stepG.exec, Frame.atR])
theorem wpIn_scopeX {c : Code} (h : c.wpIn F n P (fun e a w => (∀ l, e ≠ .goto l) ∧ Q e a w) a w) : (Code.scope c).wpIn F n P Q a w := by
  intro b k cs hro hb hr
  have h0 : (lone (b.atR a (.code (.scope c) :: k)) cs w).fenced P F := fenced_calm hb hr rfl
  obtain ⟨e, a₁, w₁, ⟨hg, hq⟩, harr⟩ := h b (.inScope c :: k) cs hro hb hr
  cases e with
  | normal => exact ⟨.normal, a₁, w₁, hq, .head h0 stepR_scope (StepsIn.trans harr (.one (fenced_calm hb hr rfl) stepR_inScope))⟩
  | exit id =>
    have hx : exitTo id (.inScope c :: k) = exitTo id k := by simp [exitTo]
    exact ⟨.exit id, a₁, w₁, hq, fun k' hk => .head h0 stepR_scope (harr.1 k' (by rw [hx]; exact hk)),
      fun hr' hk => let ⟨k₁, h1, h2⟩ := harr.2 hr' (by rw [hx]; exact hk); ⟨k₁, h1, .head h0 stepR_scope h2⟩⟩
  | goto l => exact (hg l rfl).elim
  | ret => exact ⟨_, a₁, w₁, hq, .of_steps (.one h0 stepR_scope) harr⟩
  | panic ch => exact ⟨_, a₁, w₁, hq, .of_steps (.one h0 stepR_scope) harr⟩
  | outgrown => exact ⟨_, a₁, w₁, hq, .of_steps (.one h0 stepR_scope) harr⟩
/-- A loop that has been entered. -/
def LoopX (F : Fence) (n : Nat) (P : Program) (c : Code) (Q : Exit → Act → World → Prop) (a : Act) (w : World) : Prop :=
  ∀ (b : Frame) (k : List Item) (cs : List Frame), b.roundOf = F.round → F.fn b.fn → F.room (cs.length + 1 + n) →
    ∃ e a' w', Q e a' w' ∧ ArrivesIn (Machine.fenced P F) P (lone (b.atR a (.code c :: .inLoop c :: k)) cs w) b k cs e a' w'
theorem LoopX.wpIn {c : Code} (h : LoopX F n P c Q a w) : (Code.loop c).wpIn F n P Q a w := fun b k cs hro hb hr =>
  let ⟨e, a', w', q, r⟩ := h b k cs hro hb hr; ⟨e, a', w', q, .of_steps (.one (fenced_calm hb hr rfl) stepR_loop) r⟩
theorem LoopX.unroll {c : Code} (h : c.wpIn F n P (Exit.then (LoopX F n P c Q) Q) a w) : LoopX F n P c Q a w := by
  intro b k cs hro hb hr
  obtain ⟨e, a₁, w₁, hq, harr⟩ := h b (.inLoop c :: k) cs hro hb hr
  cases e with
  | normal =>
    obtain ⟨e₂, a₂, w₂, hq₂, harr₂⟩ := hq b k cs hro hb hr
    exact ⟨e₂, a₂, w₂, hq₂, .of_steps (StepsIn.trans harr (.one (fenced_calm hb hr rfl) stepR_inLoop)) harr₂⟩
  | exit id => exact ⟨_, a₁, w₁, hq, .pass (x := .inLoop c) rfl (fun _ _ => .inl (by simp)) harr⟩
  | goto l => exact ⟨_, a₁, w₁, hq, .pass (x := .inLoop c) rfl (fun _ _ => .inl (by simp)) harr⟩
  | ret => exact ⟨_, a₁, w₁, hq, .pass (x := .inLoop c) rfl (fun _ _ => .inl (by simp)) harr⟩
  | panic ch => exact ⟨_, a₁, w₁, hq, .pass (x := .inLoop c) rfl (fun _ _ => .inl (by simp)) harr⟩
  | outgrown => exact ⟨_, a₁, w₁, hq, .pass (x := .inLoop c) rfl (fun _ _ => .inl (by simp)) harr⟩
end
section
variable {P : Program} {G : Gl}
/-- A loop that has been entered is reckoned rightly. -/
def RightL (P : Program) (G : Gl) (rc : Rec) : Prop := ∀ (ro : Option Nat) (frz : List Nat) (c : Code) (ts : Fr) (ds : List Nat) (h : SH) (k : KE) (r : Value), rc ro frz (.loop c) ts ds h k = some r →
  ∃ e ts' ds' h', k e ts' ds' h' = some r ∧ ∀ (N : Lim) (μ : Mu) (ro' : Option Nat) (a : Act) (w : World) (Q : Exit → Act → World → Prop), Den P N G μ h w → RelF μ ts a.tmps → DefR μ ds a.defers → RoR μ ro ro' →
    (∀ μ' a' w', Post P N G μ frz w h' μ' w' → RelF μ' ts' a'.tmps → DefR μ' ds' a'.defers → Q e.ex a' w') → LoopX (FR ro') 0 P c Q a w
def RegR (P : Program) (G : Gl) (frz : List Nat) (ops : Array Oper) (draw : Bool) (ts : Fr) (h : SH) (ts' : Fr) (h' : SH) : Prop :=
  ∀ (N : Lim) (μ : Mu) (w : World) (a : Act) (ro' : Option Nat) (Q : Exit → Act → World → Prop) (id : Nat), Den P N G μ h w → RelF μ ts a.tmps →
    (∀ μ' a' w', Post P N G μ frz w h' μ' w' → RelF μ' ts' a'.tmps → a'.defers = a.defers → Q .normal a' w') → (Code.region id ops draw).wpIn (FR ro') 0 P Q a w
/-- Regions that draw their order are right. -/
def DrawRight [Orc] (P : Program) (G : Gl) : Prop := ∀ (rc : Rec), Right P G rc → ∀ (frz : List Nat) (ops : Array Oper) (ts : Fr) (h : SH) (k : KF) (r : Value), (drawD P G ops (planD P ops)).run rc frz ts h k = some r → ∃ ts' h', k ts' h' = some r ∧ RegR P G frz ops true ts h ts' h'
theorem ex_goto (e : SE) (l : Nat) : e.ex ≠ .goto l := by cases e <;> simp [SE.ex]
theorem regionW_ok [Orc] [OrcOk P] (hG : G.l.all (fun x => x.2.1.toList.all (gr 6)) = true) (hD : DrawRight P G) {rc : Rec} (hrc : Right P G rc) {frz : List Nat} {ops : Array Oper} {draw : Bool} {ts : Fr} {h : SH} {k : KF} {r : Value} (e : (regionW P G ops draw).run rc frz ts h k = some r) : ∃ ts' h', k ts' h' = some r ∧ RegR P G frz ops draw ts h ts' h' := by
  cases draw with
  | true => exact hD rc hrc frz ops ts h k r e
  | false =>
    obtain ⟨ts', h', hk, hs⟩ := seqW_ok hG hrc ops.toList 0 rfl ts h e
    refine ⟨ts', h', hk, fun N μ w a ro' Q id d hts K => ?_⟩
    have := hs N μ w a ro' Q d hts K
    rw [Array.length_toList, ← List.range_eq_range'] at this
    exact wpIn_region this
theorem code_ok [Orc] [OrcOk P] (hG : G.l.all (fun x => x.2.1.toList.all (gr 6)) = true) (hD : DrawRight P G) {rc : Rec} (hrc : Right P G rc) (hl : RightL P G rc) : ∀ (c : Code) (ro : Option Nat) (frz : List Nat) (ts : Fr) (ds : List Nat) (h : SH) (k : KE) (r : Value), (codeW P G c).run rc ro frz ts ds h k = some r →
    ∃ e ts' ds' h', k e ts' ds' h' = some r ∧ CodeR P G ro frz c ts ds h e ts' ds' h' := by
  intro c
  induction c with
  | skip => intro ro frz ts ds h k r e; exact ⟨.normal, ts, ds, h, e, fun N μ ro' a w Q d hts hds hro K => wpIn_skip (K μ a w (Post.refl d) hts hds)⟩
  | label l => intro ro frz ts ds h k r e; exact ⟨.normal, ts, ds, h, e, fun N μ ro' a w Q d hts hds hro K => wpIn_label (K μ a w (Post.refl d) hts hds)⟩
  | ret => intro ro frz ts ds h k r e; exact ⟨.ret, ts, ds, h, e, fun N μ ro' a w Q d hts hds hro K => wpIn_ret (K μ a w (Post.refl d) hts hds)⟩
  | exit id => intro ro frz ts ds h k r e; exact ⟨.exit id, ts, ds, h, e, fun N μ ro' a w Q d hts hds hro K => wpIn_exit (K μ a w (Post.refl d) hts hds)⟩
  | seq x y ix iy =>
    intro ro frz ts ds h k r e
    have e : (codeW P G x).run rc ro frz ts ds h (fun e ts' ds' h' => SE.rec (motive := fun _ => An) ((codeW P G y).run rc ro frz ts' ds' h' k) (fun id => k (.exit id) ts' ds' h') (k .ret ts' ds' h') e) = some r := e
    obtain ⟨e1, ts1, ds1, h1, hk1, c1⟩ := ix _ _ _ _ _ _ _ e
    cases e1 with
    | normal =>
      obtain ⟨e2, ts2, ds2, h2, hk2, c2⟩ := iy _ _ _ _ _ _ _ hk1
      refine ⟨e2, ts2, ds2, h2, hk2, fun N μ ro' a w Q d hts hds hro K => wpIn_seq ?_⟩
      exact c1 N μ ro' a w _ d hts hds hro fun μ1 a1 w1 p1 hts1 hds1 => c2 N μ1 ro' a1 w1 Q p1.den hts1 hds1 (hro.mono p1.le) fun μ' a' w' p => K μ' a' w' (p1.trans p)
    | exit id => exact ⟨_, _, _, _, hk1, fun N μ ro' a w Q d hts hds hro K => wpIn_seq (c1 N μ ro' a w _ d hts hds hro fun μ1 a1 w1 p1 hts1 hds1 => K μ1 a1 w1 p1 hts1 hds1)⟩
    | ret => exact ⟨_, _, _, _, hk1, fun N μ ro' a w Q d hts hds hro K => wpIn_seq (c1 N μ ro' a w _ d hts hds hro fun μ1 a1 w1 p1 hts1 hds1 => K μ1 a1 w1 p1 hts1 hds1)⟩
  | cond x y z iy iz =>
    intro ro frz ts ds h k r e
    have e : (cond (constOk x) (⟨fun rc ro frz ts ds h k => condV ((opK x).run ts) ((codeW P G y).run rc ro frz ts ds h k) ((codeW P G z).run rc ro frz ts ds h k)⟩ : CK) ⟨fun _ _ _ _ _ _ _ => none⟩).run rc ro frz ts ds h k = some r := e
    cases hc : constOk x with
    | false => rw [hc] at e; cases e
    | true =>
      rw [hc] at e
      have e : condV ((opK x).run ts) ((codeW P G y).run rc ro frz ts ds h k) ((codeW P G z).run rc ro frz ts ds h k) = some r := e
      rw [opK_run] at e
      unfold condV at e
      split at e
      · rename_i t ht
        have hb : ∀ {μ : Mu} {a : Act}, RelF μ ts a.tmps → a.eval x = .bool t := fun {μ a} hts => by
          have hr := opnd_rel hts hc
          rw [ht] at hr
          generalize a.eval x = v at hr
          cases hr <;> rfl
        cases t with
        | true =>
          obtain ⟨e1, ts1, ds1, h1, hk1, c1⟩ := iy _ _ _ _ _ _ _ e
          exact ⟨e1, ts1, ds1, h1, hk1, fun N μ ro' a w Q d hts hds hro K => wpIn_cond (hb hts) (c1 N μ ro' a w Q d hts hds hro K)⟩
        | false =>
          obtain ⟨e1, ts1, ds1, h1, hk1, c1⟩ := iz _ _ _ _ _ _ _ e
          exact ⟨e1, ts1, ds1, h1, hk1, fun N μ ro' a w Q d hts hds hro K => wpIn_cond (hb hts) (c1 N μ ro' a w Q d hts hds hro K)⟩
      · cases e
  | block id x ix =>
    intro ro frz ts ds h k r e
    have e : (codeW P G x).run rc ro frz ts ds h (fun e ts' ds' h' => SE.rec (motive := fun _ => An) (k .normal ts' ds' h') (fun id' => cond (Nat.beq id' id) (k .normal ts' ds' h') (k (.exit id') ts' ds' h')) (k .ret ts' ds' h') e) = some r := e
    obtain ⟨e1, ts1, ds1, h1, hk1, c1⟩ := ix _ _ _ _ _ _ _ e
    cases e1 with
    | normal => exact ⟨_, _, _, _, hk1, fun N μ ro' a w Q d hts hds hro K => wpIn_block (c1 N μ ro' a w _ d hts hds hro fun μ1 a1 w1 p1 hts1 hds1 => K μ1 a1 w1 p1 hts1 hds1)⟩
    | ret => exact ⟨_, _, _, _, hk1, fun N μ ro' a w Q d hts hds hro K => wpIn_block (c1 N μ ro' a w _ d hts hds hro fun μ1 a1 w1 p1 hts1 hds1 => K μ1 a1 w1 p1 hts1 hds1)⟩
    | exit id' =>
      have hk2 : cond (Nat.beq id' id) (k .normal ts1 ds1 h1) (k (.exit id') ts1 ds1 h1) = some r := hk1
      clear hk1
      cases hq : Nat.beq id' id with
      | true =>
        rw [hq, cond_true] at hk2
        have := Nat.eq_of_beq_eq_true hq
        subst this
        refine ⟨_, _, _, _, hk2, fun N μ ro' a w Q d hts hds hro K => wpIn_block (c1 N μ ro' a w _ d hts hds hro fun μ1 a1 w1 p1 hts1 hds1 => ?_)⟩
        show Exit.inBlock id' Q (.exit id') a1 w1
        simp only [Exit.inBlock, if_true]
        exact K μ1 a1 w1 p1 hts1 hds1
      | false =>
        rw [hq, cond_false] at hk2
        have hne : id' ≠ id := fun e0 => by subst e0; simp at hq
        refine ⟨_, _, _, _, hk2, fun N μ ro' a w Q d hts hds hro K => wpIn_block (c1 N μ ro' a w _ d hts hds hro fun μ1 a1 w1 p1 hts1 hds1 => ?_)⟩
        show Exit.inBlock id Q (.exit id') a1 w1
        simp only [Exit.inBlock, hne, if_false]
        exact K μ1 a1 w1 p1 hts1 hds1
  | loop x ix =>
    intro ro frz ts ds h k r e
    have e : (codeW P G x).run rc ro frz ts ds h (fun e ts' ds' h' => SE.rec (motive := fun _ => An) (rc ro frz (.loop x) ts' ds' h' k) (fun id => k (.exit id) ts' ds' h') (k .ret ts' ds' h') e) = some r := e
    obtain ⟨e1, ts1, ds1, h1, hk1, c1⟩ := ix _ _ _ _ _ _ _ e
    cases e1 with
    | normal =>
      obtain ⟨e2, ts2, ds2, h2, hk2, c2⟩ := hl _ _ _ _ _ _ _ _ hk1
      exact ⟨e2, ts2, ds2, h2, hk2, fun N μ ro' a w Q d hts hds hro K => LoopX.wpIn (LoopX.unroll (c1 N μ ro' a w _ d hts hds hro fun μ1 a1 w1 p1 hts1 hds1 => c2 N μ1 ro' a1 w1 Q p1.den hts1 hds1 (hro.mono p1.le) fun μ' a' w' p => K μ' a' w' (p1.trans p)))⟩
    | exit id => exact ⟨_, _, _, _, hk1, fun N μ ro' a w Q d hts hds hro K => LoopX.wpIn (LoopX.unroll (c1 N μ ro' a w _ d hts hds hro fun μ1 a1 w1 p1 hts1 hds1 => K μ1 a1 w1 p1 hts1 hds1))⟩
    | ret => exact ⟨_, _, _, _, hk1, fun N μ ro' a w Q d hts hds hro K => LoopX.wpIn (LoopX.unroll (c1 N μ ro' a w _ d hts hds hro fun μ1 a1 w1 p1 hts1 hds1 => K μ1 a1 w1 p1 hts1 hds1))⟩
  | scope x ix =>
    intro ro frz ts ds h k r e
    obtain ⟨e1, ts1, ds1, h1, hk1, c1⟩ := ix _ _ _ _ _ _ _ e
    exact ⟨e1, ts1, ds1, h1, hk1, fun N μ ro' a w Q d hts hds hro K => wpIn_scopeX (c1 N μ ro' a w _ d hts hds hro fun μ1 a1 w1 p1 hts1 hds1 => ⟨ex_goto e1, K μ1 a1 w1 p1 hts1 hds1⟩)⟩
  | region id ops draw =>
    intro ro frz ts ds h k r e
    obtain ⟨ts', h', hk, hr⟩ := regionW_ok (draw := draw) hG hD hrc e
    exact ⟨.normal, ts', ds, h', hk, fun N μ ro' a w Q d hts hds hro K => hr N μ w a ro' Q id d hts fun μ' a' w' p h1 h2 => K μ' a' w' p h1 (by rw [h2]; exact hds.mono p.le)⟩
  | rangeFunc g ps assign body ia ib =>
    intro ro frz ts ds h k r e
    have e : (cond (constOk g) (⟨fun rc ro frz ts ds h k => rangeF P G rc ro frz ((opK g).run ts) ps assign body ts ds h k⟩ : CK) ⟨fun _ _ _ _ _ _ _ => none⟩).run rc ro frz ts ds h k = some r := e
    cases hc : constOk g with
    | false => rw [hc] at e; cases e
    | true =>
      rw [hc] at e
      exact rangeF_ok hG hrc hc e
  | goto l => intro ro frz ts ds h k r e; cases e
  | refuse s => intro ro frz ts ds h k r e; cases e
theorem loop_ok [Orc] [OrcOk P] (hG : G.l.all (fun x => x.2.1.toList.all (gr 6)) = true) (hD : DrawRight P G) {rc : Rec} (hrc : Right P G rc) (hl : RightL P G rc) : RightL P G (fun ro frz c ts ds h k => (codeW P G c).run rc ro frz ts ds h k) := by
  intro ro frz x ts ds h k r e
  have e : (codeW P G x).run rc ro frz ts ds h (fun e ts' ds' h' => SE.rec (motive := fun _ => An) (rc ro frz (.loop x) ts' ds' h' k) (fun id => k (.exit id) ts' ds' h') (k .ret ts' ds' h') e) = some r := e
  obtain ⟨e1, ts1, ds1, h1, hk1, c1⟩ := code_ok hG hD hrc hl _ _ _ _ _ _ _ _ e
  cases e1 with
  | normal =>
    obtain ⟨e2, ts2, ds2, h2, hk2, c2⟩ := hl _ _ _ _ _ _ _ _ hk1
    exact ⟨e2, ts2, ds2, h2, hk2, fun N μ ro' a w Q d hts hds hro K => LoopX.unroll (c1 N μ ro' a w _ d hts hds hro fun μ1 a1 w1 p1 hts1 hds1 => c2 N μ1 ro' a1 w1 Q p1.den hts1 hds1 (hro.mono p1.le) fun μ' a' w' p => K μ' a' w' (p1.trans p))⟩
  | exit id => exact ⟨_, _, _, _, hk1, fun N μ ro' a w Q d hts hds hro K => LoopX.unroll (c1 N μ ro' a w _ d hts hds hro fun μ1 a1 w1 p1 hts1 hds1 => K μ1 a1 w1 p1 hts1 hds1)⟩
  | ret => exact ⟨_, _, _, _, hk1, fun N μ ro' a w Q d hts hds hro K => LoopX.unroll (c1 N μ ro' a w _ d hts hds hro fun μ1 a1 w1 p1 hts1 hds1 => K μ1 a1 w1 p1 hts1 hds1)⟩
theorem right_exec [Orc] [OrcOk P] (hG : G.l.all (fun x => x.2.1.toList.all (gr 6)) = true) (hD : DrawRight P G) : ∀ n, Right P G (exec P G n) ∧ RightL P G (exec P G n)
  | 0 => ⟨fun _ _ _ _ _ _ _ _ h => (by cases h), fun _ _ _ _ _ _ _ _ h => (by cases h)⟩
  | n + 1 => ⟨fun ro frz c ts ds h k r e => code_ok hG hD (right_exec hG hD n).1 (right_exec hG hD n).2 c ro frz ts ds h k r e, loop_ok hG hD (right_exec hG hD n).1 (right_exec hG hD n).2⟩
end
end Go.Proofs.Ytedpbkpeofaibaa
