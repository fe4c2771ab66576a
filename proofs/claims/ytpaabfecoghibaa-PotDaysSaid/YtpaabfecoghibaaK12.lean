/- Code at a memory of its own, whatever numbers and lists stand in it: what it comes to, part by part; loops by what holds at their rounds' starts; states under other numbers of blocks. Over any program. Conditions: as each law says. -/
import Derived.Test.YtpaabfecoghibaaK11
namespace Go.Proofs.Ytpaabfecoghibaa
open Go Go.RowKit
set_option linter.unusedSimpArgs false
set_option linter.unusedVariables false
/-- What is read in memory that was there before. -/
abbrev glF (f : Nat → Nat → Option Value) : Gl := ⟨[], f⟩
open Classical in
/-- Code that is left open, but for loops. -/
noncomputable def rcI (P : Program) (f : Nat → Nat → Option Value) : Rec := fun ro frz c ts ds h k => match c with
  | .loop _ => none
  | c => if ∃ e ts' ds' h', k e ts' ds' h' = some (.bool true) ∧ CodeR P (glF f) ro frz c ts ds h e ts' ds' h' then some (.bool true) else none
noncomputable abbrev orcS (z : Nat) : Orc := ⟨[], [], true, z⟩
section
variable {P : Program} {f : Nat → Nat → Option Value}
theorem rcI_right : Right P (glF f) (rcI P f) := fun ro frz c ts ds h k r e => by
  unfold rcI at e
  split at e
  · cases e
  · split at e
    · rename_i hx
      cases e
      exact hx
    · cases e
theorem rcI_rightL : RightL P (glF f) (rcI P f) := fun ro frz c ts ds h k r e => by cases e
theorem orcS_ok {z : Nat} : @OrcOk P (orcS z) := @OrcOk.mk P (orcS z) (fun x hx => by cases hx) (fun x hx => by cases hx)
theorem gl_nil : (glF f).l.all (fun x => x.2.1.toList.all (gr 6)) = true := rfl
open Classical in
/-- Something that is asked for at the end. -/
noncomputable def kI (p : Prop) : An := if p then some (.bool true) else none
theorem kI_some {p : Prop} {r : Value} (h : kI p = some r) : p := by
  unfold kI at h
  split at h
  · assumption
  · cases h
theorem kI_of {p : Prop} (h : p) : kI p = some (.bool true) := by unfold kI; rw [if_pos h]
/-- How a memory has gone on: the first blocks are as they were. -/
structure PostN (P : Program) (f : Nat → Nat → Option Value) (N : Lim) (m : Nat) (μ : Mu) (w : World) (h' : SH) (μ' : Mu) (w' : World) : Prop where
  le : ∀ j, j < m → ∀ x, μ j = some x → μ' j = some x
  den : Den P N (glF f) μ' h' w'
  bel : Bel N w w'
  kp : ∀ j, j < m → ∀ b κ, μ j = some (b, κ) → w'.heap[b]? = w.heap[b]?
theorem PostN.refl {N : Lim} {m : Nat} {μ : Mu} {h : SH} {w : World} (d : Den P N (glF f) μ h w) : PostN P f N m μ w h μ w := ⟨fun _ _ _ e => e, d, Bel.refl N w, fun _ _ _ _ _ => rfl⟩
theorem PostN.trans {N : Lim} {m : Nat} {μ μ1 μ2 : Mu} {h1 h2 : SH} {w w1 w2 : World} (p : PostN P f N m μ w h1 μ1 w1) (q : PostN P f N m μ1 w1 h2 μ2 w2) : PostN P f N m μ w h2 μ2 w2 :=
  ⟨fun j hj x e => q.le j hj x (p.le j hj x e), q.den, p.bel.trans q.bel, fun j hj b κ e => (q.kp j hj b κ (p.le j hj _ e)).trans (p.kp j hj b κ e)⟩
abbrev KP := SE → Fr → SH → Prop
/-- Code comes to what K says. -/
def J (P : Program) (f : Nat → Nat → Option Value) (m : Nat) (c : Code) (ts : Fr) (h : SH) (K : KP) : Prop := ∀ (N : Lim) (μ : Mu) (a : Act) (w : World) (Q : Exit → Act → World → Prop), Den P N (glF f) μ h w → RelF μ ts a.tmps → a.defers = [] →
  (∀ e ts' h' μ' a' w', K e ts' h' → PostN P f N m μ w h' μ' w' → RelF μ' ts' a'.tmps → a'.defers = [] → Q e.ex a' w') → c.wpIn (FR none) 0 P Q a w
/-- A loop that has been entered does. -/
def LJ (P : Program) (f : Nat → Nat → Option Value) (m : Nat) (x : Code) (ts : Fr) (h : SH) (K : KP) : Prop := ∀ (N : Lim) (μ : Mu) (a : Act) (w : World) (Q : Exit → Act → World → Prop), Den P N (glF f) μ h w → RelF μ ts a.tmps → a.defers = [] →
  (∀ e ts' h' μ' a' w', K e ts' h' → PostN P f N m μ w h' μ' w' → RelF μ' ts' a'.tmps → a'.defers = [] → Q e.ex a' w') → LoopX (FR none) 0 P x Q a w
variable {m : Nat} {c x y : Code} {ts : Fr} {h : SH} {K K' : KP}
theorem J.mono (j : J P f m c ts h K) (hk : ∀ e ts h, K e ts h → K' e ts h) : J P f m c ts h K' := fun N μ a w Q d hts hd H => j N μ a w Q d hts hd fun e ts' h' μ' a' w' k => H e ts' h' μ' a' w' (hk _ _ _ k)
/-- By a run. -/
theorem J.run (e : ∀ z, (@codeW (orcS z) P (glF f) c).run (rcI P f) none (List.range m) ts [] h (fun e ts' ds' h' => kI (ds' = [] ∧ K e ts' h')) = some (.bool true)) : J P f m c ts h K := by
  letI : Orc := orcS 0
  have e := e 0
  haveI : OrcOk P := orcS_ok
  obtain ⟨e1, ts1, ds1, h1, hk, cr⟩ := code_ok gl_nil (draw_right gl_nil) rcI_right rcI_rightL _ _ _ _ _ _ _ _ e
  obtain ⟨hds, hk2⟩ := kI_some hk
  subst hds
  intro N μ a w Q d hts hd H
  refine cr N μ none a w Q d hts hd trivial fun μ' a' w' p hts' hd' => H _ _ _ μ' a' w' hk2 ⟨fun j _ x e => p.le j x e, p.den, p.bel, fun j hj b κ e => p.kp j (List.mem_range.2 hj) b κ e⟩ hts' hd'
/-- What comes next, where it does. -/
def KP.then (n : Fr → SH → Prop) (K : KP) : KP := fun e ts h => match e with
  | .normal => n ts h
  | e => K e ts h
theorem J.seq (j : J P f m x ts h (KP.then (fun ts h => J P f m y ts h K) K)) : J P f m (.seq x y) ts h K := fun N μ a w Q d hts hd H => wpIn_seq (j N μ a w _ d hts hd fun e ts1 h1 μ1 a1 w1 hk p hts1 hd1 => by
  cases e with
  | normal => exact hk N μ1 a1 w1 Q p.den hts1 hd1 fun e ts' h' μ' a' w' k q => H e ts' h' μ' a' w' k (p.trans q)
  | exit id => exact H _ _ _ μ1 a1 w1 hk p hts1 hd1
  | ret => exact H _ _ _ μ1 a1 w1 hk p hts1 hd1)
theorem J.cond {o : Operand} {t : Bool} (hc : constOk o = true) (ht : opnd ts o = .bool t) (j1 : t = true → J P f m x ts h K) (j2 : t = false → J P f m y ts h K) : J P f m (.cond o x y) ts h K := fun N μ a w Q d hts hd H => by
  have hb : a.eval o = .bool t := by
    have hr := opnd_rel hts hc
    rw [ht] at hr
    generalize a.eval o = v at hr
    cases hr <;> rfl
  refine wpIn_cond hb ?_
  cases t with
  | true => exact j1 rfl N μ a w Q d hts hd H
  | false => exact j2 rfl N μ a w Q d hts hd H
def KP.block (id : Nat) (K : KP) : KP := fun e ts h => match e with
  | .normal => K .normal ts h
  | .exit i => (i = id → K .normal ts h) ∧ (i ≠ id → K (.exit i) ts h)
  | .ret => K .ret ts h
theorem J.block {id : Nat} (j : J P f m x ts h (KP.block id K)) : J P f m (.block id x) ts h K := fun N μ a w Q d hts hd H => wpIn_block (j N μ a w _ d hts hd fun e ts1 h1 μ1 a1 w1 hk p hts1 hd1 => by
  cases e with
  | normal => exact H _ _ _ μ1 a1 w1 hk p hts1 hd1
  | ret => exact H _ _ _ μ1 a1 w1 hk p hts1 hd1
  | exit i =>
    show Exit.inBlock id Q (.exit i) a1 w1
    by_cases e : i = id
    · simp only [Exit.inBlock, e, if_true]
      exact H _ _ _ μ1 a1 w1 (hk.1 e) p hts1 hd1
    · simp only [Exit.inBlock, e, if_false]
      exact H _ _ _ μ1 a1 w1 (hk.2 e) p hts1 hd1)
theorem J.loop (j : LJ P f m x ts h K) : J P f m (.loop x) ts h K := fun N μ a w Q d hts hd H => LoopX.wpIn (j N μ a w Q d hts hd H)
theorem J.scope (j : J P f m x ts h K) : J P f m (.scope x) ts h K := fun N μ a w Q d hts hd H => wpIn_scopeX (j N μ a w _ d hts hd fun e ts1 h1 μ1 a1 w1 hk p hts1 hd1 => ⟨fun l => ex_goto e l, H _ _ _ μ1 a1 w1 hk p hts1 hd1⟩)
/-- A round, and on. -/
theorem LJ.round (j : J P f m x ts h (KP.then (fun ts h => LJ P f m x ts h K) K)) : LJ P f m x ts h K := fun N μ a w Q d hts hd H => LoopX.unroll (j N μ a w _ d hts hd fun e ts1 h1 μ1 a1 w1 hk p hts1 hd1 => by
  cases e with
  | normal => exact hk N μ1 a1 w1 Q p.den hts1 hd1 fun e ts' h' μ' a' w' k q => H e ts' h' μ' a' w' k (p.trans q)
  | exit id => exact H _ _ _ μ1 a1 w1 hk p hts1 hd1
  | ret => exact H _ _ _ μ1 a1 w1 hk p hts1 hd1)
end
end Go.Proofs.Ytpaabfecoghibaa

/- A state under other numbers of blocks, of which what is not looked at again is forgotten. Over any program. Conditions: as each law says. -/
namespace Go.Proofs.Ytpaabfecoghibaa
open Go Go.RowKit
set_option linter.unusedSimpArgs false
set_option linter.unusedVariables false
mutual
/-- A value is another one, under other numbers of blocks. -/
inductive SimV (ρ : Nat → Option Nat) : Value → Value → Prop
  | ground {v : Value} (h : gE 6 v = true) : SimV ρ v v
  | int {k : IntKind} {n n' : Int} (h : n = n') : SimV ρ (.int k n) (.int k n')
  | bool {b b' : Bool} (h : b = b') : SimV ρ (.bool b) (.bool b')
  | ptr {j j' off off' : Nat} (h : ρ j = some j') (ho : off = off') : SimV ρ (.pointer (some ⟨j, off, some 0⟩)) (.pointer (some ⟨j', off', some 0⟩))
  | slice {j j' off off' s n n' c c' : Nat} (h : ρ j = some j') (ho : off = off') (hn : n = n') (hc : c = c') : SimV ρ (.slice (some ⟨j, off, some s⟩) n c) (.slice (some ⟨j', off', some s⟩) n' c')
  | map {j j' : Nat} (h : ρ j = some j') : SimV ρ (.map (some j)) (.map (some j'))
  | func {f : FuncId} {a a' b b' : List Value} (h : SimL ρ a a') (h' : SimL ρ b b') : SimV ρ (.func (.func f) ⟨a⟩ ⟨b⟩) (.func (.func f) ⟨a'⟩ ⟨b'⟩)
  | agg {l l' : List Value} (h : SimL ρ l l') : SimV ρ (.agg ⟨l⟩) (.agg ⟨l'⟩)
  | tuple {l l' : List Value} (h : SimL ρ l l') : SimV ρ (.tuple ⟨l⟩) (.tuple ⟨l'⟩)
  | iface {t : TypeId} {v v' : Value} (h : SimV ρ v v') : SimV ρ (.iface t v) (.iface t v')
inductive SimL (ρ : Nat → Option Nat) : List Value → List Value → Prop
  | nil : SimL ρ [] []
  | cons {v v' : Value} {l l' : List Value} (h : SimV ρ v v') (t : SimL ρ l l') : SimL ρ (v :: l) (v' :: l')
end
section
variable {ρ : Nat → Option Nat} {μ ν : Mu}
theorem SimL.ground : ∀ {l : List Value}, l.all (gE 6) = true → SimL ρ l l
  | [], _ => .nil
  | v :: l, h => by
    simp only [List.all_cons, Bool.and_eq_true] at h
    exact .cons (.ground h.1) (SimL.ground h.2)
theorem SimL.of_eq {l l' : List Value} (e : l = l') (h : l.all (gE 6) = true) : SimL ρ l l' := by subst e; exact SimL.ground h
theorem SimL.length : ∀ {l l' : List Value}, SimL ρ l l' → l'.length = l.length
  | _, _, .nil => rfl
  | _, _, .cons _ t => by simp [t.length]
mutual
theorem SimV.rel (hρ : ∀ j j', ρ j = some j' → ν j = μ j') : ∀ {v v' : Value}, SimV ρ v v' → ∀ {w : Value}, Rel μ v' w → Rel ν v w
  | _, _, .ground hg, w, r => r.reE 6 hg
  | _, _, .int e, w, r => by subst e; rw [r.eq rfl]; exact .ground rfl
  | _, _, .bool e, w, r => by subst e; rw [r.eq rfl]; exact .ground rfl
  | _, _, .ptr hj ho, w, r => by
    subst ho
    cases r with
    | ground hg => simp [gr] at hg
    | ptr hm => exact .ptr ((hρ _ _ hj).trans hm)
  | _, _, .slice hj ho hn hc, w, r => by
    subst ho hn hc
    cases r with
    | ground hg => simp [gr] at hg
    | slice hm => exact .slice ((hρ _ _ hj).trans hm)
    | sliceO hm hk => exact .sliceO ((hρ _ _ hj).trans hm) hk
    | sliceE => exact .sliceE
    | sliceA hm hk => exact .sliceA ((hρ _ _ hj).trans hm) hk
  | _, _, .map hj, w, r => by
    cases r with
    | ground hg => simp [gr] at hg
    | map hm => exact .map ((hρ _ _ hj).trans hm)
  | _, _, .func h h', w, r => by
    obtain ⟨fi', cs', rfl, h1, h2⟩ := func_rel r
    exact .func (SimL.rel hρ h h1) (SimL.rel hρ h' h2)
  | _, _, .agg h, w, r => by
    obtain ⟨cs', rfl, hl⟩ := agg_rel r
    exact .agg (SimL.rel hρ h hl)
  | _, _, .tuple h, w, r => by
    obtain ⟨cs', rfl, hl⟩ := tuple_rel r
    exact .tuple (SimL.rel hρ h hl)
  | _, _, .iface h, w, r => by
    obtain ⟨v', rfl, hv⟩ := iface_rel r
    exact .iface (SimV.rel hρ h hv)
theorem SimL.rel (hρ : ∀ j j', ρ j = some j' → ν j = μ j') : ∀ {l l' : List Value}, SimL ρ l l' → ∀ {k : List Value}, RelL μ l' k → RelL ν l k
  | _, _, .nil, _, .nil => .nil
  | _, _, .cons h t, _, .cons r rs => .cons (SimV.rel hρ h r) (SimL.rel hρ t rs)
end
end
/-- The true value holds no numbers: it is told outright. -/
def jB : Nat → Value → Bool
  | 0, _ => false
  | d + 1, v => match v with
    | .map (some _) => false
    | .chan r => r.isNone
    | .func (.yield _) _ _ => false
    | .func _ f c => f.toList.all (jB d) && c.toList.all (jB d)
    | .iface _ x => jB d x
    | .agg cs => cs.toList.all (jB d)
    | .tuple cs => cs.toList.all (jB d)
    | .slice none n c => Nat.beq n 0 && Nat.beq c 0
    | .slice (some a) _ _ => match a.spot with
      | some 2 => false
      | _ => true
    | _ => true
theorem all_gr_of {d e : Nat} (ih : ∀ v, jB d v = true → gr e v = true → gr d v = true) {l : List Value} (h : l.all (jB d) = true) (hg : l.all (gr e) = true) : l.all (gr d) = true := by
  rw [List.all_eq_true] at *
  exact fun x hx => ih x (h x hx) (hg x hx)
theorem gr_of_jB : ∀ (d e : Nat) (v : Value), jB d v = true → gr e v = true → gr d v = true
  | 0, _, _, h, _ => by simp [jB] at h
  | d + 1, 0, _, _, h => by simp [gr] at h
  | d + 1, e + 1, v, h, hg => by
    cases v with
    | func fn f c =>
      cases fn with
      | yield l => simp [gr] at hg
      | _ =>
        simp only [gr, jB, Bool.and_eq_true] at h hg ⊢
        exact ⟨all_gr_of (gr_of_jB d e) h.1 hg.1, all_gr_of (gr_of_jB d e) h.2 hg.2⟩
    | iface t x => simp only [gr, jB] at h hg ⊢; exact gr_of_jB d e x h hg
    | agg cs => simp only [gr, jB] at h hg ⊢; exact all_gr_of (gr_of_jB d e) h hg
    | tuple cs => simp only [gr, jB] at h hg ⊢; exact all_gr_of (gr_of_jB d e) h hg
    | slice a n c => cases a <;> (simp only [gr] at hg ⊢; exact hg)
    | pointer a =>
      cases a with
      | none => rfl
      | some a => simp only [gr] at hg ⊢; exact hg
    | map r => simp only [gr] at hg ⊢; exact hg
    | chan r => simp only [gr] at hg ⊢; exact hg
    | _ => rfl
mutual
theorem jB_rel {μ : Mu} : ∀ {v v' : Value}, Rel μ v v' → ∀ (d : Nat), jB d v = true → gr d v' = true
  | _, _, .ground hg, d, h => gr_of_jB d 6 _ h hg
  | _, _, .ptr _, 0, h => by simp [jB] at h
  | _, _, .ptr _, d + 1, _ => rfl
  | _, _, .slice _, 0, h => by simp [jB] at h
  | _, _, .slice _, d + 1, _ => rfl
  | _, _, .sliceO _ _, 0, h => by simp [jB] at h
  | _, _, .sliceO _ _, d + 1, _ => rfl
  | _, _, .sliceE, 0, h => by simp [jB] at h
  | _, _, .sliceE, d + 1, h => by simp [jB] at h
  | _, _, .sliceA _ _, 0, h => by simp [jB] at h
  | _, _, .sliceA _ _, d + 1, _ => rfl
  | _, _, .map _, 0, h => by simp [jB] at h
  | _, _, .map _, d + 1, h => by simp [jB] at h
  | _, _, .yield _, 0, h => by simp [jB] at h
  | _, _, .yield _, d + 1, h => by simp [jB] at h
  | _, _, .func h1 h2, 0, h => by simp [jB] at h
  | _, _, .func h1 h2, d + 1, h => by
    simp only [jB, gr, Bool.and_eq_true] at h ⊢
    exact ⟨jB_relL h1 d h.1, jB_relL h2 d h.2⟩
  | _, _, .agg h1, 0, h => by simp [jB] at h
  | _, _, .agg h1, d + 1, h => by
    simp only [jB, gr] at h ⊢
    exact jB_relL h1 d h
  | _, _, .tuple h1, 0, h => by simp [jB] at h
  | _, _, .tuple h1, d + 1, h => by
    simp only [jB, gr] at h ⊢
    exact jB_relL h1 d h
  | _, _, .iface h1, 0, h => by simp [jB] at h
  | _, _, .iface h1, d + 1, h => by
    simp only [jB, gr] at h ⊢
    exact jB_rel h1 d h
theorem jB_relL {μ : Mu} : ∀ {l l' : List Value}, RelL μ l l' → ∀ (d : Nat), l.all (jB d) = true → l'.all (gr d) = true
  | _, _, .nil, _, _ => rfl
  | _, _, .cons h t, d, hj => by
    simp only [List.all_cons, Bool.and_eq_true] at hj ⊢
    exact ⟨jB_rel h d hj.1, jB_relL t d hj.2⟩
end
/-- Rows that are there under other numbers, each in a family of its own. -/
def RowsOk (ρ : Nat → Option Nat) (h : SH) : List (TypeId × List Value) → Nat → List Nat → Prop
  | [], _, _ => True
  | r :: l, j, fs => ∃ j' cs' f', ρ j = some j' ∧ h.tr.get j' = some (.row r.1 cs' f') ∧ SimL ρ r.2 cs' ∧ f' ∉ fs ∧ RowsOk ρ h l (j + 1) (f' :: fs)
/-- Each row, with its family. -/
theorem rowsOk_fam {ρ : Nat → Option Nat} {h : SH} : ∀ (l : List (TypeId × List Value)) (j : Nat) (fs : List Nat), RowsOk ρ h l j fs → ∃ F : Nat → Nat,
    (∀ i r, l[i]? = some r → ∃ j' cs', ρ (j + i) = some j' ∧ h.tr.get j' = some (.row r.1 cs' (F i)) ∧ SimL ρ r.2 cs' ∧ F i ∉ fs) ∧ ∀ i k, i < k → k < l.length → F i ≠ F k
  | [], _, _, _ => ⟨fun _ => 0, fun i r h => by simp at h, fun i k h1 h2 => by simp at h2⟩
  | r :: l, j, fs, h => by
    obtain ⟨j', cs', f', h1, h2, h3, hf, ht⟩ := h
    obtain ⟨F, g1, g2⟩ := rowsOk_fam l (j + 1) (f' :: fs) ht
    refine ⟨fun i => match i with
      | 0 => f'
      | i + 1 => F i, fun i q hq => ?_, fun i k hik hk => ?_⟩
    · cases i with
      | zero =>
        obtain rfl : r = q := by simpa using hq
        exact ⟨j', cs', h1, h2, h3, hf⟩
      | succ i =>
        obtain ⟨j2, cs2, q1, q2, q3, q4⟩ := g1 i q (by simpa using hq)
        exact ⟨j2, cs2, by rw [← q1]; congr 1; omega, q2, q3, fun hm => q4 (List.mem_cons_of_mem _ hm)⟩
    · cases k with
      | zero => omega
      | succ k =>
        cases i with
        | zero =>
          have hk' : k < l.length := by simpa using hk
          obtain ⟨j2, cs2, q1, q2, q3, q4⟩ := g1 k l[k] (List.getElem?_eq_getElem hk')
          exact fun e => q4 (by rw [← show f' = F k from e]; simp)
        | succ i => exact g2 i k (by omega) (by simpa using hk)
/-- Where the blocks lie under the other numbers. -/
def muR (ρ : Nat → Option Nat) (n : Nat) (μ : Mu) : Mu := fun j => if j < n then (ρ j).bind μ else none
theorem Den.ren {P : Program} {f : Nat → Nat → Option Value} {N : Lim} {μ : Mu} {h : SH} {w : World} (d : Den P N (glF f) μ h w) {ρ : Nat → Option Nat} {M : List (TypeId × List Value)} (hρ : ∀ j j', ρ j = some j' → j < M.length) (ok : RowsOk ρ h M 0 []) :
    Den P N (glF f) (muR ρ M.length μ) (memSH M sh0) w := by
  obtain ⟨F, hF, hinj⟩ := rowsOk_fam M 0 [] ok
  obtain ⟨m1, m2, m3⟩ := memSH_get M sh0 (fun _ _ => rfl)
  have m1 : (memSH M sh0).next = M.length := by rw [m1]; show 0 + M.length = _; omega
  have hrow : ∀ j sb, (memSH M sh0).tr.get j = some sb → ∃ r j' cs', M[j]? = some r ∧ sb = .row r.1 r.2 j ∧ ρ j = some j' ∧ h.tr.get j' = some (.row r.1 cs' (F j)) ∧ SimL ρ r.2 cs' := fun j sb hj => by
    rcases m3 j sb hj with ⟨h1, _⟩ | ⟨r, _, h2, h3⟩
    · exact absurd h1 (Nat.not_lt_zero _)
    · have h2 : M[j]? = some r := h2
      obtain ⟨j', cs', q1, q2, q3, _⟩ := hF j r h2
      exact ⟨r, j', cs', h2, h3, by rw [← q1]; congr 1; omega, q2, q3⟩
  have hmu : ∀ j j', ρ j = some j' → muR ρ M.length μ j = μ j' := fun j j' e => by
    unfold muR
    rw [if_pos (hρ j j' e), e]; rfl
  refine ⟨d.base, fun j sb hj => ?_, fun j hj => ?_, fun j hj => ?_, fun i j si sj b κ κ' hi hj hne h1 h2 => ?_, fun j t cs f hj => ?_, fun j t cs f hj => ?_, fun f _ => ?_, d.glob⟩
  · obtain ⟨r, j', cs', q1, rfl, q3, q4, q5⟩ := hrow j sb hj
    obtain ⟨b, κ, cur, sz, g1, g2, g3, g4, g5, g6, g7⟩ := d.blk j' _ q4
    have hl := q5.length
    refine ⟨b, κ, cur, sz, by rw [hmu j j' q3]; exact g1, g2, g3, g4, g5, by rw [← hl]; exact g6, ?_⟩
    rw [hl] at g7
    exact SimL.rel (fun j j' e => hmu j j' e) q5 g7
  · cases hg : (memSH M sh0).tr.get j with
    | none => rfl
    | some sb =>
      obtain ⟨r, j', cs', q1, _⟩ := hrow j sb hg
      have := (List.getElem?_eq_some_iff.1 q1).1
      omega
  · rw [m1] at hj
    unfold muR
    rw [if_neg (by omega)]
  · obtain ⟨r, i', cs', q1, rfl, q3, q4, q5⟩ := hrow i si hi
    obtain ⟨r2, j', cs2, p1, rfl, p3, p4, p5⟩ := hrow j sj hj
    rw [hmu i i' q3] at h1
    rw [hmu j j' p3] at h2
    refine d.apart i' j' _ _ b κ κ' q4 p4 (fun e => hne ?_) h1 h2
    simp only [famOf] at e ⊢
    have hi' := (List.getElem?_eq_some_iff.1 q1).1
    have hj' := (List.getElem?_eq_some_iff.1 p1).1
    have : F i = F j := by omega
    rcases Nat.lt_trichotomy i j with hlt | he | hlt
    · exact absurd this (hinj i j hlt hj')
    · rw [he]
    · exact absurd this.symm (hinj j i hlt hi')
  · obtain ⟨r, j', cs', q1, e, _⟩ := hrow j _ hj
    cases e
    have : (memSH M sh0).kin.get j = none := by rw [m2]; rfl
    simp [kinOf, this]
  · obtain ⟨r, j', cs', q1, e, _⟩ := hrow j _ hj
    cases e
    rw [m1]
    exact (List.getElem?_eq_some_iff.1 q1).1
  · rw [m2]; rfl
/-- A frame's values: those that are known, and others that are told outright. -/
def fillL (xs : Nat → Value) : List (Option Value) → Nat → List Value
  | [], _ => []
  | some v :: L, i => v :: fillL xs L (i + 1)
  | none :: L, i => xs i :: fillL xs L (i + 1)
theorem fillL_length (xs : Nat → Value) : ∀ (L : List (Option Value)) (i : Nat), (fillL xs L i).length = L.length
  | [], _ => rfl
  | some v :: L, i => by simp [fillL, fillL_length xs L]
  | none :: L, i => by simp [fillL, fillL_length xs L]
theorem fillL_get (xs : Nat → Value) : ∀ (L : List (Option Value)) (i k : Nat), (fillL xs L i)[k]? = (L[k]?).map fun o => o.getD (xs (i + k))
  | [], _, _ => rfl
  | some v :: L, i, 0 => rfl
  | none :: L, i, 0 => rfl
  | some v :: L, i, k + 1 => by
    simp only [fillL, List.getElem?_cons_succ]
    rw [fillL_get xs L (i + 1) k, show i + 1 + k = i + (k + 1) from by omega]
  | none :: L, i, k + 1 => by
    simp only [fillL, List.getElem?_cons_succ]
    rw [fillL_get xs L (i + 1) k, show i + 1 + k = i + (k + 1) from by omega]
def MatchL (L : List (Option Value)) (vs : List Value) : Prop := ∃ xs : Nat → Value, (∀ i, gE 6 (xs i) = true) ∧ vs = fillL xs L 0
def JunkOk (v : Value) : Prop := gE 6 v = true ∨ jB 6 v = true
theorem junk_b {v : Value} (h : (gE 6 v || jB 6 v) = true) : JunkOk v := by rwa [Bool.or_eq_true] at h
def SlotAt (ρ : Nat → Option Nat) : Option Value → Value → Prop
  | some w, v => SimV ρ w v
  | none, v => JunkOk v
/-- A frame is so, slot by slot, but for those of D, which are written later. -/
structure SlotsD (ρ : Nat → Option Nat) (D : List Nat) (L : List (Option Value)) (ts : Fr) : Prop where
  n : ts.n = L.length
  le : ts.n ≤ 512
  ok : ∀ i o, L[i]? = some o → D.any (fun k => Nat.beq k i) = false → SlotAt ρ o (ts.get i)
abbrev SlotsN (ρ : Nat → Option Nat) (L : List (Option Value)) (ts : Fr) : Prop := SlotsD ρ [] L ts
section
variable {ρ : Nat → Option Nat} {D : List Nat} {L : List (Option Value)} {ts : Fr} {v : Value}
theorem slots_set {d : Nat} (h1 : D.any (fun k => Nat.beq k d) = true ∨ ∃ o, L[d]? = some o ∧ SlotAt ρ o v) (h2 : SlotsD ρ (d :: D) L ts) : SlotsD ρ D L (ts.set d v) := by
  refine ⟨by rw [Fr.set_n]; exact h2.n, by rw [Fr.set_n]; exact h2.le, fun i q hq hD => ?_⟩
  rw [Fr.get_set _ _ _ _ h2.le]
  by_cases e : i = d
  · subst e
    have hd := (List.getElem?_eq_some_iff.1 hq).1
    rw [if_pos ⟨rfl, by have := h2.n; omega⟩]
    rcases h1 with h1 | ⟨o, h1, h3⟩
    · rw [h1] at hD; cases hD
    · rw [h1] at hq; cases hq; exact h3
  · rw [if_neg (fun q => e q.1)]
    refine h2.ok i q hq ?_
    rw [List.any_cons, hD, Bool.or_false]
    cases hb : Nat.beq d i with
    | false => rfl
    | true => exact absurd (Nat.eq_of_beq_eq_true hb).symm e
theorem slots_fs {d : Tmp} (h : (∃ o, L[d]? = some o ∧ SlotAt ρ o v) ∧ SlotsD ρ (d :: D) L ts) : SlotsD ρ D L (ts.set d v) := slots_set (.inr h.1) h.2
theorem slots_fsD {d : Tmp} (h : D.any (fun k => Nat.beq k d) = true ∧ SlotsD ρ (d :: D) L ts) : SlotsD ρ D L (ts.set d v) := slots_set (.inl h.1) h.2
theorem slots_dst {q : Option Tmp} (h : ∃ d, q = some d ∧ (∃ o, L[d]? = some o ∧ SlotAt ρ o v) ∧ SlotsD ρ (d :: D) L ts) : SlotsD ρ D L ((dstK q).run ts v) := by
  obtain ⟨d, rfl, h1, h2⟩ := h
  exact slots_set (.inr h1) h2
theorem slots_putS {q : Option Tmp} (h : ∃ d, q = some d ∧ (∃ o, L[d]? = some o ∧ SlotAt ρ o v) ∧ SlotsD ρ (d :: D) L ts) : SlotsD ρ D L (putS ts q v) := by
  obtain ⟨d, rfl, h1, h2⟩ := h
  exact slots_set (.inr h1) h2
theorem slots_dstD {q : Option Tmp} (h : ∃ d, q = some d ∧ D.any (fun k => Nat.beq k d) = true ∧ SlotsD ρ (d :: D) L ts) : SlotsD ρ D L ((dstK q).run ts v) := by
  obtain ⟨d, rfl, h1, h2⟩ := h
  exact slots_set (.inl h1) h2
theorem slots_putD {q : Option Tmp} (h : ∃ d, q = some d ∧ D.any (fun k => Nat.beq k d) = true ∧ SlotsD ρ (d :: D) L ts) : SlotsD ρ D L (putS ts q v) := by
  obtain ⟨d, rfl, h1, h2⟩ := h
  exact slots_set (.inl h1) h2
theorem slots_non {d : Option Tmp} (h : d = none ∧ SlotsD ρ D L ts) : SlotsD ρ D L ((dstK d).run ts v) := by
  obtain ⟨rfl, h⟩ := h
  exact h
theorem slots_putN {d : Option Tmp} (h : d = none ∧ SlotsD ρ D L ts) : SlotsD ρ D L (putS ts d v) := by
  obtain ⟨rfl, h⟩ := h
  exact h
end
/-- What was so at a round's start. -/
inductive BaseOk (ρ : Nat → Option Nat) (D : List Nat) : Nat → List (Option Value) → List (Option Value) → Prop
  | nil {i : Nat} : BaseOk ρ D i [] []
  | nn {i : Nat} {L L0 : List (Option Value)} (h : BaseOk ρ D (i + 1) L L0) : BaseOk ρ D i (none :: L) (none :: L0)
  | ns {i : Nat} {w : Value} {L L0 : List (Option Value)} (j : JunkOk w) (h : BaseOk ρ D (i + 1) L L0) : BaseOk ρ D i (none :: L) (some w :: L0)
  | ss {i : Nat} {v w : Value} {L L0 : List (Option Value)} (j : SimV ρ v w) (h : BaseOk ρ D (i + 1) L L0) : BaseOk ρ D i (some v :: L) (some w :: L0)
  | dd {i : Nat} {o p : Option Value} {L L0 : List (Option Value)} (j : D.any (fun k => Nat.beq k i) = true) (h : BaseOk ρ D (i + 1) L L0) : BaseOk ρ D i (o :: L) (p :: L0)
theorem base_get {ρ : Nat → Option Nat} {D : List Nat} {xs : Nat → Value} (gx : ∀ i, gE 6 (xs i) = true) {i : Nat} {L L0 : List (Option Value)} (h : BaseOk ρ D i L L0) : L.length = L0.length ∧ ∀ (k : Nat) (o : Option Value), L[k]? = some o → D.any (fun q => Nat.beq q (i + k)) = false → ∃ v, (fillL xs L0 i)[k]? = some v ∧ SlotAt ρ o v := by
  induction h with
  | nil => exact ⟨rfl, fun k o h => by simp at h⟩
  | @nn i L L0 h ih =>
    obtain ⟨h1, h2⟩ := ih
    refine ⟨by simp [h1], fun k o hk hd => ?_⟩
    cases k with
    | zero => simp only [List.getElem?_cons_zero, Option.some.injEq] at hk; subst hk; exact ⟨xs i, rfl, .inl (gx i)⟩
    | succ k => exact h2 k o (by simpa using hk) (by rw [show i + 1 + k = i + (k + 1) from by omega]; exact hd)
  | @ns i w L L0 j h ih =>
    obtain ⟨h1, h2⟩ := ih
    refine ⟨by simp [h1], fun k o hk hd => ?_⟩
    cases k with
    | zero => simp only [List.getElem?_cons_zero, Option.some.injEq] at hk; subst hk; exact ⟨_, rfl, j⟩
    | succ k => exact h2 k o (by simpa using hk) (by rw [show i + 1 + k = i + (k + 1) from by omega]; exact hd)
  | @ss i v w L L0 j h ih =>
    obtain ⟨h1, h2⟩ := ih
    refine ⟨by simp [h1], fun k o hk hd => ?_⟩
    cases k with
    | zero => simp only [List.getElem?_cons_zero, Option.some.injEq] at hk; subst hk; exact ⟨_, rfl, j⟩
    | succ k => exact h2 k o (by simpa using hk) (by rw [show i + 1 + k = i + (k + 1) from by omega]; exact hd)
  | @dd i o p L L0 j h ih =>
    obtain ⟨h1, h2⟩ := ih
    refine ⟨by simp [h1], fun k q hk hd => ?_⟩
    cases k with
    | zero => rw [Nat.add_zero, j] at hd; cases hd
    | succ k =>
      obtain ⟨v, q1, q2⟩ := h2 k q (by simpa using hk) (by rw [show i + 1 + k = i + (k + 1) from by omega]; exact hd)
      refine ⟨v, ?_, q2⟩
      cases p <;> simpa [fillL] using q1
theorem slots_base {ρ : Nat → Option Nat} {D : List Nat} {L L0 : List (Option Value)} {xs : Nat → Value} {n : Nat} (gx : ∀ i, gE 6 (xs i) = true) (hh : (n = L0.length ∧ Nat.ble n 512 = true) ∧ BaseOk ρ D 0 L L0) : SlotsD ρ D L (Fr.of n (fillL xs L0 0)) := by
  obtain ⟨⟨hn, hle⟩, h⟩ := hh
  have hle := Nat.le_of_ble_eq_true hle
  obtain ⟨h1, h2⟩ := base_get gx h
  have hl := fillL_length xs L0 0
  refine ⟨by rw [Fr.of_n _ _ hle]; omega, by rw [Fr.of_n _ _ hle]; exact hle, fun i o hi hd => ?_⟩
  rw [Fr.of_get _ _ hle _ (by omega)]
  obtain ⟨v, q1, q2⟩ := h2 i o hi (by rw [Nat.zero_add]; exact hd)
  rw [List.getD_eq_getElem?_getD, q1]; exact q2
/-- .. at a call's start. -/
theorem slots_args {ρ : Nat → Option Nat} {D : List Nat} {L : List (Option Value)} {args : List Value} {n : Nat} (hh : ∃ k, (n = args.length + k ∧ Nat.ble n 512 = true) ∧ BaseOk ρ D 0 L (args.map some ++ List.replicate k (some undef))) : SlotsD ρ D L (Fr.of n args) := by
  obtain ⟨k, ⟨hn, hle⟩, h⟩ := hh
  have hle := Nat.le_of_ble_eq_true hle
  obtain ⟨h1, h2⟩ := base_get (xs := fun _ => undef) (fun _ => rfl) h
  simp only [List.length_append, List.length_map, List.length_replicate] at h1
  refine ⟨by rw [Fr.of_n _ _ hle]; omega, by rw [Fr.of_n _ _ hle]; exact hle, fun i o hi hd => ?_⟩
  rw [Fr.of_get _ _ hle _ (by omega)]
  obtain ⟨v, q1, q2⟩ := h2 i o hi (by rw [Nat.zero_add]; exact hd)
  rw [fillL_get] at q1
  have : args.getD i undef = v := by
    rw [List.getD_eq_getElem?_getD]
    rcases Nat.lt_or_ge i args.length with hlt | hge
    · rw [List.getElem?_append_left (by simpa using hlt), List.getElem?_map, List.getElem?_eq_getElem hlt] at q1
      rw [List.getElem?_eq_getElem hlt]
      simpa using q1
    · have hlt := (List.getElem?_eq_some_iff.1 hi).1
      rw [List.getElem?_append_right (by simpa using hge), List.getElem?_replicate, if_pos (by simp; omega)] at q1
      rw [List.getElem?_eq_none hge]
      simpa using q1
  rw [this]; exact q2
/-- A frame, laid out at once. -/
noncomputable def o8L (vs : List Value) : O8 Value := ⟨vs.getD 0 undef, vs.getD 1 undef, vs.getD 2 undef, vs.getD 3 undef, vs.getD 4 undef, vs.getD 5 undef, vs.getD 6 undef, vs.getD 7 undef⟩
noncomputable def p8L (vs : List Value) : O8 (O8 Value) := ⟨o8L vs, o8L (vs.drop 8), o8L (vs.drop 16), o8L (vs.drop 24), o8L (vs.drop 32), o8L (vs.drop 40), o8L (vs.drop 48), o8L (vs.drop 56)⟩
noncomputable def frL (n : Nat) (vs : List Value) : Fr := ⟨n, ⟨p8L vs, p8L (vs.drop 64), p8L (vs.drop 128), p8L (vs.drop 192), p8L (vs.drop 256), p8L (vs.drop 320), p8L (vs.drop 384), p8L (vs.drop 448)⟩⟩
theorem lt8 {j : Nat} (h : j < 8) : j = 0 ∨ j = 1 ∨ j = 2 ∨ j = 3 ∨ j = 4 ∨ j = 5 ∨ j = 6 ∨ j = 7 := by omega
theorem getD_drop {α : Type} (l : List α) (k c : Nat) (u : α) : (l.drop k).getD c u = l.getD (k + c) u := by
  rw [List.getD_eq_getElem?_getD, List.getD_eq_getElem?_getD, List.getElem?_drop]
theorem frL_get (n : Nat) (vs : List Value) (i : Nat) : (frL n vs).get i = if i < 512 then vs.getD i undef else undef := by
  unfold Fr.get
  rw [gk_run]
  by_cases hi : i < 512
  · rw [if_pos hi, if_pos hi]
    have h1 : ∀ (j : Nat) (ws : List Value), j < 8 → get8 j (o8L ws) = ws.getD j undef := fun j ws hj => by
      rcases lt8 hj with rfl | rfl | rfl | rfl | rfl | rfl | rfl | rfl <;> rfl
    have h2 : ∀ (j : Nat) (ws : List Value), j < 8 → get8 j (p8L ws) = o8L (ws.drop (8 * j)) := fun j ws hj => by
      rcases lt8 hj with rfl | rfl | rfl | rfl | rfl | rfl | rfl | rfl <;> rfl
    have h3 : ∀ (j : Nat), j < 8 → get8 j (frL n vs).x = p8L (vs.drop (64 * j)) := fun j hj => by
      rcases lt8 hj with rfl | rfl | rfl | rfl | rfl | rfl | rfl | rfl <;> rfl
    unfold getRec
    rw [h3 _ (by omega), h2 _ _ (by omega), h1 _ _ (by omega), getD_drop, getD_drop]
    congr 1; omega
  · rw [if_neg hi, if_neg hi]
theorem relF_frL {μ : Mu} {n : Nat} {vs : List Value} {tmps : Array Value} (h : RelF μ (Fr.of n vs) tmps) (hn : n ≤ 512) (hl : vs.length ≤ n) : RelF μ (frL n vs) tmps := by
  have h1 := h.n
  have h2 := h.le
  rw [Fr.of_n _ _ hn] at h1 h2
  refine ⟨h1, h2, fun i => ?_⟩
  have h3 := h.at' i
  rw [Fr.of_get _ _ hn _ hl] at h3
  rw [frL_get]
  split
  · exact h3
  · rename_i hi
    have e : vs.getD i undef = undef := by rw [List.getD_eq_getElem?_getD, List.getElem?_eq_none (by omega)]; rfl
    rw [e] at h3; exact h3
/-- The frame, too. -/
theorem ren_frame {ρ : Nat → Option Nat} {μ ν : Mu} (hρ : ∀ j j', ρ j = some j' → ν j = μ j') {ts : Fr} {tmps : Array Value} (hr : RelF μ ts tmps) {L : List (Option Value)} (hs : SlotsN ρ L ts) : ∃ vs, MatchL L vs ∧ RelF ν (Fr.of L.length vs) tmps := by
  have hg : ∀ i, ∃ x, gE 6 x = true ∧ (L[i]? = some none → Rel mu0 x (tmps.getD i undef)) := fun i => by
    by_cases hi : L[i]? = some none
    · rcases hs.ok i none hi rfl with h1 | h1
      · exact ⟨_, h1, fun _ => (hr.at' i).reE 6 h1⟩
      · exact ⟨_, gE_of_gr 6 _ (jB_rel (hr.at' i) 6 h1), fun _ => .ground (jB_rel (hr.at' i) 6 h1)⟩
    · exact ⟨undef, rfl, fun e => absurd e hi⟩
  obtain ⟨X, hX⟩ := Classical.axiomOfChoice hg
  refine ⟨fillL X L 0, ⟨_, fun i => (hX i).1, rfl⟩, ?_, ?_, fun i => ?_⟩
  · rw [Fr.of_n _ _ (by have := hs.le; have := hs.n; omega), ← hs.n]; exact hr.n
  · rw [Fr.of_n _ _ (by have := hs.le; have := hs.n; omega), ← hs.n]; exact hs.le
  · rw [Fr.of_get _ _ (by have := hs.le; have := hs.n; omega) _ (by rw [fillL_length]; exact Nat.le_refl _), List.getD_eq_getElem?_getD, fillL_get, Nat.zero_add]
    cases hi : L[i]? with
    | none =>
      have : tmps.getD i undef = undef := by
        have h1 := List.getElem?_eq_none_iff.1 hi
        have h2 := hs.n
        have h3 := hr.n
        have : ¬ i < tmps.size := by omega
        simp [Array.getD, this]
      rw [this]
      exact .ground rfl
    | some o =>
      cases o with
      | some w => exact SimV.rel hρ (hs.ok i _ hi rfl) (hr.at' i)
      | none =>
        simp only [Option.map_some, Option.getD_some, Option.getD_none]
        exact ((hX i).2 hi).mono (fun _ _ e => by cases e)
/-- Slots, one behind the other. -/
inductive AllSl (ρ : Nat → Option Nat) (ts : Fr) : Nat → List (Option Value) → Prop
  | nil {i : Nat} : AllSl ρ ts i []
  | no {i : Nat} {L : List (Option Value)} (j : JunkOk (ts.get i)) (h : AllSl ρ ts (i + 1) L) : AllSl ρ ts i (none :: L)
  | so {i : Nat} {v : Value} {L : List (Option Value)} (j : SimV ρ v (ts.get i)) (h : AllSl ρ ts (i + 1) L) : AllSl ρ ts i (some v :: L)
theorem allSl_get {ρ : Nat → Option Nat} {ts : Fr} {i : Nat} {L : List (Option Value)} (h : AllSl ρ ts i L) : ∀ (k : Nat) (o : Option Value), L[k]? = some o → SlotAt ρ o (ts.get (i + k)) := by
  induction h with
  | nil => intro k o h; simp at h
  | no j h ih =>
    intro k o hk
    cases k with
    | zero => simp only [List.getElem?_cons_zero, Option.some.injEq] at hk; subst hk; exact j
    | succ k => rw [Nat.add_succ, ← Nat.succ_add]; exact ih k o (by simpa using hk)
  | so j h ih =>
    intro k o hk
    cases k with
    | zero => simp only [List.getElem?_cons_zero, Option.some.injEq] at hk; subst hk; exact j
    | succ k => rw [Nat.add_succ, ← Nat.succ_add]; exact ih k o (by simpa using hk)
theorem slotsF {ρ : Nat → Option Nat} {L : List (Option Value)} {ts : Fr} (hn : ts.n = L.length) (hle : Nat.ble ts.n 512 = true) (h : AllSl ρ ts 0 L) : SlotsD ρ [] L ts :=
  ⟨hn, Nat.le_of_ble_eq_true hle, fun i o hi _ => by have := allSl_get h i o hi; rwa [Nat.zero_add] at this⟩
/-- What the state's numbers become: those of the first rows stay. -/
def rhoOf (m : Nat) (s : List Nat) : Nat → Option Nat := fun j => if j < m then some j else s[j - m]?
section
variable {P : Program} {f : Nat → Nat → Option Value} {m : Nat} {c : Code} {ts : Fr} {h : SH} {K : KP}
theorem postN_ren {N : Lim} {s : List Nat} {M : List (TypeId × List Value)} (hM : M.length = m + s.length) {μ μ' : Mu} {w w' : World} {h' : SH} (q : PostN P f N m (muR (rhoOf m s) M.length μ) w h' μ' w') : PostN P f N m μ w h' μ' w' := by
  have e : ∀ j, j < m → muR (rhoOf m s) M.length μ j = μ j := fun j hj => by
    unfold muR rhoOf
    rw [if_pos (by omega), if_pos hj]; rfl
  exact ⟨fun j hj x hx => q.le j hj x (by rw [e j hj]; exact hx), q.den, q.bel, fun j hj b κ hx => q.kp j hj b κ (by rw [e j hj]; exact hx)⟩
theorem rho_lt {s : List Nat} {M : List (TypeId × List Value)} (hM : M.length = m + s.length) : ∀ j j', rhoOf m s j = some j' → j < M.length := fun j j' e => by
  unfold rhoOf at e
  split at e
  · omega
  · have := (List.getElem?_eq_some_iff.1 e).1
    omega
/-- **Under other numbers.** -/
theorem J.ren (L : List (Option Value)) (M : List (TypeId × List Value)) (s : List Nat) (hM : M.length = m + s.length) (hr : RowsOk (rhoOf m s) h M 0 []) (hs : SlotsN (rhoOf m s) L ts)
    (j : ∀ vs, MatchL L vs → J P f m c (frL L.length vs) (memSH M sh0) K) : J P f m c ts h K := fun N μ a w Q d hts hd H => by
  have hmu : ∀ j j', rhoOf m s j = some j' → muR (rhoOf m s) M.length μ j = μ j' := fun j j' e => by
    unfold muR
    rw [if_pos (rho_lt hM j j' e), e]; rfl
  obtain ⟨vs, g1, g2⟩ := ren_frame hmu hts hs
  exact j vs g1 N _ a w Q (d.ren (rho_lt hM) hr) (relF_frL g2 (by have := hs.le; have := hs.n; omega) (by obtain ⟨xs, _, rfl⟩ := g1; rw [fillL_length]; exact Nat.le_refl _)) hd fun e ts' h' μ' a' w' k q => H e ts' h' μ' a' w' k (postN_ren hM q)
theorem LJ.ren (L : List (Option Value)) (M : List (TypeId × List Value)) (s : List Nat) (hM : M.length = m + s.length) (hr : RowsOk (rhoOf m s) h M 0 []) (hs : SlotsN (rhoOf m s) L ts)
    (j : ∀ vs, MatchL L vs → LJ P f m c (frL L.length vs) (memSH M sh0) K) : LJ P f m c ts h K := fun N μ a w Q d hts hd H => by
  have hmu : ∀ j j', rhoOf m s j = some j' → muR (rhoOf m s) M.length μ j = μ j' := fun j j' e => by
    unfold muR
    rw [if_pos (rho_lt hM j j' e), e]; rfl
  obtain ⟨vs, g1, g2⟩ := ren_frame hmu hts hs
  exact j vs g1 N _ a w Q (d.ren (rho_lt hM) hr) (relF_frL g2 (by have := hs.le; have := hs.n; omega) (by obtain ⟨xs, _, rfl⟩ := g1; rw [fillL_length]; exact Nat.le_refl _)) hd fun e ts' h' μ' a' w' k q => H e ts' h' μ' a' w' k (postN_ren hM q)
end
theorem grow_new {h : SH} {t : TypeId} {cs : List Value} {f keep : Nat} : (h.grow t cs f keep).tr.get h.next = some (.row t cs f) := by
  rw [SH.grow_get, if_pos rfl]
theorem grow_old {h : SH} {t : TypeId} {cs : List Value} {f keep k : Nat} {b : SB} (hn : Nat.beq k h.next = false) (hk : (kinOf h f).contains k = false) (hb : h.tr.get k = some b) : (h.grow t cs f keep).tr.get k = some b := by
  rw [SH.grow_get, if_neg (fun e => by rw [e, Nat.beq_refl] at hn; cases hn), if_neg (fun e => by rw [List.contains_eq_mem, decide_eq_false_iff_not] at hk; exact hk e.1), hb]
theorem nin {l : List Nat} {x : Nat} (h : l.contains x = false) : x ∉ l := fun e => by
  rw [← List.contains_iff_mem, h] at e; cases e
end Go.Proofs.Ytpaabfecoghibaa
