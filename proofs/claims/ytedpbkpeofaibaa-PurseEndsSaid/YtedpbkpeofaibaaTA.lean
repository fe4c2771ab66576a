/- Code at a memory of its own, whatever numbers and lists stand in it: what it comes to, part by part; loops by what holds at their rounds' starts; states under other numbers of blocks. Over any program. Conditions: as each law says. -/
import Derived.Test.YtedpbkpeofaibaaXX
namespace Go.Proofs.Ytedpbkpeofaibaa
open Go Go.RowKit
set_option linter.unusedSimpArgs false
set_option linter.unusedVariables false
/-- What is read in memory that was there before. -/
abbrev glF (f : Nat → Nat → Option Value) : Gl := ⟨[], f⟩
open Classical in
/-- Code that is left open, but for loops. -/
noncomputable def rcI (P : Program) (f : Nat → Nat → Option Value) : Rec := fun ro frz c ts ds h k => match c with
  | .loop _ => none
  | c => if ∃ e ts' ds' h', k e ts' ds' h' = some (.bool true) ∧ CodeR P (glF f) ro frz c ts ds h e ts' ds' h' then some (.bool true) else none
noncomputable abbrev orcS (z : Nat) : Orc := ⟨[], [], true, z⟩
section
variable {P : Program} {f : Nat → Nat → Option Value}
theorem rcI_right : Right P (glF f) (rcI P f) := fun ro frz c ts ds h k r e => by
  unfold rcI at e
  split at e
  · cases e
  · split at e
    · rename_i hx
      cases e
      exact hx
    · cases e
theorem rcI_rightL : RightL P (glF f) (rcI P f) := fun ro frz c ts ds h k r e => by cases e
theorem orcS_ok {z : Nat} : @OrcOk P (orcS z) := @OrcOk.mk P (orcS z) (fun x hx => by cases hx) (fun x hx => by cases hx)
theorem gl_nil : (glF f).l.all (fun x => x.2.1.toList.all (gr 6)) = true := rfl
open Classical in
/-- Something that is asked for at the end. -/
noncomputable def kI (p : Prop) : An := if p then some (.bool true) else none
theorem kI_some {p : Prop} {r : Value} (h : kI p = some r) : p := by
  unfold kI at h
  split at h
  · assumption
  · cases h
theorem kI_of {p : Prop} (h : p) : kI p = some (.bool true) := by unfold kI; rw [if_pos h]
/-- How a memory has gone on: the first blocks are as they were. -/
structure PostN (P : Program) (f : Nat → Nat → Option Value) (N : Lim) (m : Nat) (μ : Mu) (w : World) (h' : SH) (μ' : Mu) (w' : World) : Prop where
  le : ∀ j, j < m → ∀ x, μ j = some x → μ' j = some x
  den : Den P N (glF f) μ' h' w'
  bel : Bel N w w'
  kp : ∀ j, j < m → ∀ b κ, μ j = some (b, κ) → w'.heap[b]? = w.heap[b]?
theorem PostN.refl {N : Lim} {m : Nat} {μ : Mu} {h : SH} {w : World} (d : Den P N (glF f) μ h w) : PostN P f N m μ w h μ w := ⟨fun _ _ _ e => e, d, Bel.refl N w, fun _ _ _ _ _ => rfl⟩
theorem PostN.trans {N : Lim} {m : Nat} {μ μ1 μ2 : Mu} {h1 h2 : SH} {w w1 w2 : World} (p : PostN P f N m μ w h1 μ1 w1) (q : PostN P f N m μ1 w1 h2 μ2 w2) : PostN P f N m μ w h2 μ2 w2 :=
  ⟨fun j hj x e => q.le j hj x (p.le j hj x e), q.den, p.bel.trans q.bel, fun j hj b κ e => (q.kp j hj b κ (p.le j hj _ e)).trans (p.kp j hj b κ e)⟩
abbrev KP := SE → Fr → SH → Prop
/-- Code comes to what K says. -/
def J (P : Program) (f : Nat → Nat → Option Value) (m : Nat) (c : Code) (ts : Fr) (h : SH) (K : KP) : Prop := ∀ (N : Lim) (μ : Mu) (a : Act) (w : World) (Q : Exit → Act → World → Prop), Den P N (glF f) μ h w → RelF μ ts a.tmps → a.defers = [] →
  (∀ e ts' h' μ' a' w', K e ts' h' → PostN P f N m μ w h' μ' w' → RelF μ' ts' a'.tmps → a'.defers = [] → Q e.ex a' w') → c.wpIn (FR none) 0 P Q a w
/-- A loop that has been entered does. -/
def LJ (P : Program) (f : Nat → Nat → Option Value) (m : Nat) (x : Code) (ts : Fr) (h : SH) (K : KP) : Prop := ∀ (N : Lim) (μ : Mu) (a : Act) (w : World) (Q : Exit → Act → World → Prop), Den P N (glF f) μ h w → RelF μ ts a.tmps → a.defers = [] →
  (∀ e ts' h' μ' a' w', K e ts' h' → PostN P f N m μ w h' μ' w' → RelF μ' ts' a'.tmps → a'.defers = [] → Q e.ex a' w') → LoopX (FR none) 0 P x Q a w
variable {m : Nat} {c x y : Code} {ts : Fr} {h : SH} {K K' : KP}
theorem J.mono (j : J P f m c ts h K) (hk : ∀ e ts h, K e ts h → K' e ts h) : J P f m c ts h K' := fun N μ a w Q d hts hd H => j N μ a w Q d hts hd fun e ts' h' μ' a' w' k => H e ts' h' μ' a' w' (hk _ _ _ k)
/-- By a run. -/
theorem J.run (e : ∀ z, (@codeW (orcS z) P (glF f) c).run (rcI P f) none (List.range m) ts [] h (fun e ts' ds' h' => kI (ds' = [] ∧ K e ts' h')) = some (.bool true)) : J P f m c ts h K := by
  letI : Orc := orcS 0
  have e := e 0
  haveI : OrcOk P := orcS_ok
  obtain ⟨e1, ts1, ds1, h1, hk, cr⟩ := code_ok gl_nil (draw_right gl_nil) rcI_right rcI_rightL _ _ _ _ _ _ _ _ e
  obtain ⟨hds, hk2⟩ := kI_some hk
  subst hds
  intro N μ a w Q d hts hd H
  refine cr N μ none a w Q d hts hd trivial fun μ' a' w' p hts' hd' => H _ _ _ μ' a' w' hk2 ⟨fun j _ x e => p.le j x e, p.den, p.bel, fun j hj b κ e => p.kp j (List.mem_range.2 hj) b κ e⟩ hts' hd'
/-- What comes next, where it does. -/
def KP.then (n : Fr → SH → Prop) (K : KP) : KP := fun e ts h => match e with
  | .normal => n ts h
  | e => K e ts h
theorem J.seq (j : J P f m x ts h (KP.then (fun ts h => J P f m y ts h K) K)) : J P f m (.seq x y) ts h K := fun N μ a w Q d hts hd H => wpIn_seq (j N μ a w _ d hts hd fun e ts1 h1 μ1 a1 w1 hk p hts1 hd1 => by
  cases e with
  | normal => exact hk N μ1 a1 w1 Q p.den hts1 hd1 fun e ts' h' μ' a' w' k q => H e ts' h' μ' a' w' k (p.trans q)
  | exit id => exact H _ _ _ μ1 a1 w1 hk p hts1 hd1
  | ret => exact H _ _ _ μ1 a1 w1 hk p hts1 hd1)
theorem J.cond {o : Operand} {t : Bool} (hc : constOk o = true) (ht : opnd ts o = .bool t) (j1 : t = true → J P f m x ts h K) (j2 : t = false → J P f m y ts h K) : J P f m (.cond o x y) ts h K := fun N μ a w Q d hts hd H => by
  have hb : a.eval o = .bool t := by
    have hr := opnd_rel hts hc
    rw [ht] at hr
    generalize a.eval o = v at hr
    cases hr <;> rfl
  refine wpIn_cond hb ?_
  cases t with
  | true => exact j1 rfl N μ a w Q d hts hd H
  | false => exact j2 rfl N μ a w Q d hts hd H
def KP.block (id : Nat) (K : KP) : KP := fun e ts h => match e with
  | .normal => K .normal ts h
  | .exit i => (i = id → K .normal ts h) ∧ (i ≠ id → K (.exit i) ts h)
  | .ret => K .ret ts h
theorem J.block {id : Nat} (j : J P f m x ts h (KP.block id K)) : J P f m (.block id x) ts h K := fun N μ a w Q d hts hd H => wpIn_block (j N μ a w _ d hts hd fun e ts1 h1 μ1 a1 w1 hk p hts1 hd1 => by
  cases e with
  | normal => exact H _ _ _ μ1 a1 w1 hk p hts1 hd1
  | ret => exact H _ _ _ μ1 a1 w1 hk p hts1 hd1
  | exit i =>
    show Exit.inBlock id Q (.exit i) a1 w1
    by_cases e : i = id
    · simp only [Exit.inBlock, e, if_true]
      exact H _ _ _ μ1 a1 w1 (hk.1 e) p hts1 hd1
    · simp only [Exit.inBlock, e, if_false]
      exact H _ _ _ μ1 a1 w1 (hk.2 e) p hts1 hd1)
theorem J.loop (j : LJ P f m x ts h K) : J P f m (.loop x) ts h K := fun N μ a w Q d hts hd H => LoopX.wpIn (j N μ a w Q d hts hd H)
theorem J.scope (j : J P f m x ts h K) : J P f m (.scope x) ts h K := fun N μ a w Q d hts hd H => wpIn_scopeX (j N μ a w _ d hts hd fun e ts1 h1 μ1 a1 w1 hk p hts1 hd1 => ⟨fun l => ex_goto e l, H _ _ _ μ1 a1 w1 hk p hts1 hd1⟩)
/-- A round, and on. -/
theorem LJ.round (j : J P f m x ts h (KP.then (fun ts h => LJ P f m x ts h K) K)) : LJ P f m x ts h K := fun N μ a w Q d hts hd H => LoopX.unroll (j N μ a w _ d hts hd fun e ts1 h1 μ1 a1 w1 hk p hts1 hd1 => by
  cases e with
  | normal => exact hk N μ1 a1 w1 Q p.den hts1 hd1 fun e ts' h' μ' a' w' k q => H e ts' h' μ' a' w' k (p.trans q)
  | exit id => exact H _ _ _ μ1 a1 w1 hk p hts1 hd1
  | ret => exact H _ _ _ μ1 a1 w1 hk p hts1 hd1)
end
end Go.Proofs.Ytedpbkpeofaibaa
