/- A loop's rounds in pieces: states written out, a loop that goes on from one to another, entries whose loops are cut. Over any program. Conditions: as each law says. -/
import Derived.Test.YtnhojiooiedabaaYC
namespace Go.Proofs.Ytnhojiooiedabaa
open Go Go.RowKit
/-- A state written out: the frame's values, its marks, the memory. -/
structure St where
  ts : List Value
  ds : List Nat
  next : Nat
  rows : List (Nat × SB)
  kin : List (Nat × List Nat)
noncomputable def St.fr (S : St) : Fr := Fr.of S.ts.length S.ts
noncomputable def layT {α : Type} : List (Nat × α) → Tr α → Tr α
  | [], t => t
  | x :: l, t => layT l (t.set x.1 (some x.2))
noncomputable def St.sh (S : St) : SH := { next := S.next, tr := layT S.rows .nil, kin := layT S.kin .nil }
def eqSB : SB → SB → Bool
  | .row t cs f, .row t' cs' f' => Nat.beq t t' && all2 (eqV 8) cs cs' && Nat.beq f f'
  | .map es s, .map es' s' => all2 (fun x y => eqV 8 x.1 y.1 && eqV 8 x.2 y.2) es es' && decide (s = s')
  | .mark, .mark => true
  | _, _ => false
noncomputable def okFr (ts : Fr) : Nat → List Value → Bool
  | _, [] => true
  | i, v :: l => eqV 8 (ts.get i) v && okFr ts (Nat.succ i) l
noncomputable def okRow (h : SH) (S : St) (x : Nat × SB) : Bool := (match h.tr.get x.1 with
  | some sb => eqSB sb x.2
  | none => false) && Nat.blt x.1 S.next && (match x.2 with
  | .row _ _ f => (kinOf S.sh f).any fun k => Nat.beq k x.1
  | _ => true)
/-- What is so of a state is so of the one that is written out, which may hold less memory. -/
noncomputable def okSt (S : St) (ts : Fr) (ds : List Nat) (h : SH) : Bool := Nat.beq ts.n S.ts.length && okFr ts 0 S.ts && decide (ds = S.ds) && Nat.ble h.next S.next && S.rows.all (okRow h S) && S.kin.all fun x => Nat.blt x.1 S.next
theorem eqSB_eq {a b : SB} (h : eqSB a b = true) : a = b := by
  unfold eqSB at h
  split at h
  · simp only [Bool.and_eq_true] at h
    rw [Nat.eq_of_beq_eq_true h.1.1, all2_eq (eqV_eq 8) h.1.2, Nat.eq_of_beq_eq_true h.2]
  · simp only [Bool.and_eq_true, decide_eq_true_eq] at h
    rw [h.2, all2_eq (fun x y hxy => ?_) h.1]
    rw [Bool.and_eq_true] at hxy
    exact Prod.ext (eqV_eq 8 _ _ hxy.1) (eqV_eq 8 _ _ hxy.2)
  · rfl
  · cases h
theorem layT_get {α : Type} : ∀ (l : List (Nat × α)) (t : Tr α) (j : Nat) {x : α}, (layT l t).get j = some x → (j, x) ∈ l ∨ t.get j = some x
  | [], _, _, _, h => .inr h
  | y :: l, t, j, x, h => by
    rcases layT_get l _ j h with h1 | h1
    · exact .inl (List.mem_cons_of_mem _ h1)
    · rw [Tr.get_set] at h1
      split at h1
      · rename_i e
        cases h1
        exact .inl (by rw [e]; exact List.mem_cons_self)
      · exact .inr h1
theorem okFr_get {ts : Fr} : ∀ (l : List Value) (i : Nat), okFr ts i l = true → ∀ (k : Nat) {v : Value}, l[k]? = some v → ts.get (i + k) = v
  | [], _, _, k, v, h => by simp at h
  | x :: l, i, h, k, v, hv => by
    simp only [okFr, Bool.and_eq_true] at h
    cases k with
    | zero =>
      obtain rfl : x = v := by simpa using hv
      exact eqV_eq 8 _ _ h.1
    | succ k =>
      have := okFr_get l (Nat.succ i) h.2 k (by simpa using hv)
      rw [← this]; congr 1; omega
section
variable {P : Program} {N : Lim} {G : Gl} {μ : Mu} {h : SH} {w : World} {frz : List Nat}
theorem okSt_fr {S : St} {ts : Fr} {ds : List Nat} (ok : okSt S ts ds h = true) {tmps : Array Value} (r : RelF μ ts tmps) : RelF μ S.fr tmps := by
  simp only [okSt, Bool.and_eq_true] at ok
  obtain ⟨⟨⟨⟨⟨h1, h2⟩, _⟩, _⟩, _⟩, _⟩ := ok
  have h1 := Nat.eq_of_beq_eq_true h1
  have hle := r.le
  have hn := r.n
  refine ⟨?_, ?_, fun i => ?_⟩
  · show (Fr.of S.ts.length S.ts).n = _
    rw [Fr.of_n _ _ (by omega)]; omega
  · show (Fr.of S.ts.length S.ts).n ≤ 512
    rw [Fr.of_n _ _ (by omega)]; omega
  · show Rel μ ((Fr.of S.ts.length S.ts).get i) _
    rw [Fr.of_get _ _ (by omega) _ (Nat.le_refl _)]
    rcases Nat.lt_or_ge i S.ts.length with hi | hi
    · have := okFr_get _ _ h2 i (List.getElem?_eq_getElem hi)
      rw [Nat.zero_add] at this
      rw [List.getD_eq_getElem?_getD, List.getElem?_eq_getElem hi, Option.getD_some, ← this]
      exact r.at' i
    · rw [List.getD_eq_getElem?_getD, List.getElem?_eq_none hi, Option.getD_none]
      have : tmps.getD i undef = undef := by
        have : ¬ i < tmps.size := by omega
        simp [Array.getD, this]
      rw [this]
      exact .ground rfl
theorem okSt_ds {S : St} {ts : Fr} {ds : List Nat} (ok : okSt S ts ds h = true) : ds = S.ds := by
  simp only [okSt, Bool.and_eq_true, decide_eq_true_eq] at ok
  exact ok.1.1.1.2
theorem okSt_den {S : St} {ts : Fr} {ds : List Nat} (ok : okSt S ts ds h = true) (d : Den P N G μ h w) : Den P N G μ S.sh w := by
  simp only [okSt, Bool.and_eq_true] at ok
  obtain ⟨⟨⟨_, h4⟩, h5⟩, h6⟩ := ok
  have h4 := Nat.le_of_ble_eq_true h4
  have row : ∀ j sb, S.sh.tr.get j = some sb → h.tr.get j = some sb ∧ j < S.next ∧ ∀ t cs f, sb = .row t cs f → j ∈ kinOf S.sh f := fun j sb hj => by
    rcases layT_get S.rows .nil j hj with hm | hm
    · have := List.all_eq_true.1 h5 _ hm
      simp only [okRow, Bool.and_eq_true] at this
      obtain ⟨⟨a, b⟩, c⟩ := this
      simp only [Nat.blt_eq] at b
      refine ⟨?_, b, fun t cs f e => ?_⟩
      · split at a
        · rename_i sb' hg
          rw [hg, eqSB_eq a]
        · cases a
      · subst e
        obtain ⟨k, hk, hq⟩ := List.any_eq_true.1 c
        rw [← Nat.eq_of_beq_eq_true hq]; exact hk
    · rw [Tr.get_nil] at hm; cases hm
  refine ⟨d.base, fun j sb hj => d.blk j sb (row j sb hj).1, fun j hj => ?_, fun j hj => d.muOld j (by simp only [St.sh] at hj; omega), fun i j si sj b κ κ' hi hj => d.apart i j si sj b κ κ' (row i si hi).1 (row j sj hj).1,
    fun j t cs f hj => (row j _ hj).2.2 t cs f rfl, fun j t cs f hj => Nat.lt_of_lt_of_le (d.famLt j t cs f (row j _ hj).1) h4, fun f hf => ?_, d.glob⟩
  · cases hg : S.sh.tr.get j with
    | none => rfl
    | some sb =>
      have := (row j sb hg).2.1
      simp only [St.sh] at hj
      omega
  · cases hg : S.sh.kin.get f with
    | none => rfl
    | some l =>
      rcases layT_get S.kin .nil f hg with hm | hm
      · have := List.all_eq_true.1 h6 _ hm
        simp only [Nat.blt_eq] at this
        simp only [St.sh] at hf
        omega
      · rw [Tr.get_nil] at hm; cases hm
/-- So many rounds of a loop. -/
noncomputable def roundsW [Orc] (P : Program) (G : Gl) (rc : Rec) (x : Code) (frz : List Nat) (m : Nat) : Fr → List Nat → SH → (Fr → List Nat → SH → An) → An := Nat.rec (motive := fun _ => Fr → List Nat → SH → (Fr → List Nat → SH → An) → An) (fun ts ds h k => k ts ds h)
  (fun _ ih ts ds h k => (codeW P G x).run rc none frz ts ds h fun e ts' ds' h' => SE.rec (motive := fun _ => An) (ih ts' ds' h' k) (fun _ => none) none e) m
/-- A loop that has been entered goes on from a state to another one. -/
def LoopR (P : Program) (G : Gl) (frz : List Nat) (x : Code) (s z : St) : Prop := ∀ (N : Lim) (μ : Mu) (ro' : Option Nat) (a : Act) (w : World) (Q : Exit → Act → World → Prop), Den P N G μ s.sh w → RelF μ s.fr a.tmps → DefR μ s.ds a.defers → RoR μ none ro' →
  (∀ μ' a' w', Post P N G μ frz w z.sh μ' w' → RelF μ' z.fr a'.tmps → DefR μ' z.ds a'.defers → LoopX (FR ro') 0 P x Q a' w') → LoopX (FR ro') 0 P x Q a w
/-- .. and ends so. -/
def LoopE (P : Program) (G : Gl) (frz : List Nat) (x : Code) (s : St) (e : SE) (z : St) : Prop := ∀ (N : Lim) (μ : Mu) (ro' : Option Nat) (a : Act) (w : World) (Q : Exit → Act → World → Prop), Den P N G μ s.sh w → RelF μ s.fr a.tmps → DefR μ s.ds a.defers → RoR μ none ro' →
  (∀ μ' a' w', Post P N G μ frz w z.sh μ' w' → RelF μ' z.fr a'.tmps → DefR μ' z.ds a'.defers → Q e.ex a' w') → LoopX (FR ro') 0 P x Q a w
theorem LoopR.then {x : Code} {s t z : St} {e : SE} (r : LoopR P G frz x s t) (q : LoopE P G frz x t e z) : LoopE P G frz x s e z := fun N μ ro' a w Q d hts hds hro K =>
  r N μ ro' a w Q d hts hds hro fun μ1 a1 w1 p1 hts1 hds1 => q N μ1 ro' a1 w1 Q p1.den hts1 hds1 (hro.mono p1.le) fun μ' a' w' p => K μ' a' w' (p1.trans p)
theorem rounds_ok [Orc] [OrcOk P] (hG : G.all (fun x => x.2.1.toList.all (gr 6)) = true) {rc : Rec} (hrc : Right P G rc) (hl : RightL P G rc) {x : Code} : ∀ (m : Nat) (ts : Fr) (ds : List Nat) (h : SH) {k : Fr → List Nat → SH → An} {r : Value}, roundsW P G rc x frz m ts ds h k = some r →
    ∃ ts' ds' h', k ts' ds' h' = some r ∧ ∀ (N : Lim) (μ : Mu) (ro' : Option Nat) (a : Act) (w : World) (Q : Exit → Act → World → Prop), Den P N G μ h w → RelF μ ts a.tmps → DefR μ ds a.defers → RoR μ none ro' →
      (∀ μ' a' w', Post P N G μ frz w h' μ' w' → RelF μ' ts' a'.tmps → DefR μ' ds' a'.defers → LoopX (FR ro') 0 P x Q a' w') → LoopX (FR ro') 0 P x Q a w
  | 0, ts, ds, h, k, r, e => ⟨ts, ds, h, e, fun N μ ro' a w Q d hts hds hro K => K μ a w (Post.refl d) hts hds⟩
  | m + 1, ts, ds, h, k, r, e => by
    have e : (codeW P G x).run rc none frz ts ds h (fun e ts' ds' h' => SE.rec (motive := fun _ => An) (roundsW P G rc x frz m ts' ds' h' k) (fun _ => none) none e) = some r := e
    obtain ⟨e1, ts1, ds1, h1, hk1, c1⟩ := code_ok hG (draw_right hG) hrc hl _ _ _ _ _ _ _ _ e
    cases e1 with
    | normal =>
      obtain ⟨ts2, ds2, h2, hk2, c2⟩ := rounds_ok hG hrc hl m ts1 ds1 h1 hk1
      exact ⟨ts2, ds2, h2, hk2, fun N μ ro' a w Q d hts hds hro K => LoopX.unroll (c1 N μ ro' a w _ d hts hds hro fun μ1 a1 w1 p1 hts1 hds1 => c2 N μ1 ro' a1 w1 Q p1.den hts1 hds1 (hro.mono p1.le) fun μ' a' w' p => K μ' a' w' (p1.trans p))⟩
    | exit id => cases hk1
    | ret => cases hk1
/-- A piece of a loop. -/
theorem piece_ok {T : List (FuncId × Value)} {E : List Ent} {P : Program} {frz : List Nat} (hT : ∀ x ∈ T, NullR P x.1 x.2) (hE : ∀ x ∈ E, EntR P x) {n m : Nat} {x : Code} {s z : St}
    (e : @roundsW ⟨T, E⟩ P [] (@exec ⟨T, E⟩ P [] n) x frz m s.fr s.ds s.sh (fun ts ds h => cond (okSt z ts ds h) (some (.bool true)) none) = some (.bool true)) : LoopR P [] frz x s z := by
  letI : Orc := ⟨T, E⟩
  haveI : OrcOk P := ⟨hT, hE⟩
  have hG : ([] : Gl).all (fun x => x.2.1.toList.all (gr 6)) = true := rfl
  obtain ⟨ts, ds, h, hk, c⟩ := rounds_ok hG (right_exec hG (draw_right hG) n).1 (right_exec hG (draw_right hG) n).2 m _ _ _ e
  cases hok : okSt z ts ds h with
  | false => rw [hok] at hk; cases hk
  | true => exact fun N μ ro' a w Q d hts hds hro K => c N μ ro' a w Q d hts hds hro fun μ' a' w' p h1 h2 => K μ' a' w' ⟨p.le, okSt_den hok p.den, p.bel, p.kp⟩ (okSt_fr hok h1) (by rw [← okSt_ds hok]; exact h2)
def eqSE : SE → SE → Bool
  | .normal, .normal => true
  | .exit i, .exit j => Nat.beq i j
  | .ret, .ret => true
  | _, _ => false
theorem eqSE_eq {a b : SE} (h : eqSE a b = true) : a = b := by
  unfold eqSE at h
  split at h
  · rfl
  · rw [Nat.eq_of_beq_eq_true h]
  · rfl
  · cases h
/-- The last piece. -/
theorem last_ok {T : List (FuncId × Value)} {E : List Ent} {P : Program} {frz : List Nat} (hT : ∀ x ∈ T, NullR P x.1 x.2) (hE : ∀ x ∈ E, EntR P x) {n : Nat} {x : Code} {s z : St} {e0 : SE}
    (e : @exec ⟨T, E⟩ P [] n none frz (.loop x) s.fr s.ds s.sh (fun e ts ds h => cond (eqSE e e0 && okSt z ts ds h) (some (.bool true)) none) = some (.bool true)) : LoopE P [] frz x s e0 z := by
  letI : Orc := ⟨T, E⟩
  haveI : OrcOk P := ⟨hT, hE⟩
  have hG : ([] : Gl).all (fun x => x.2.1.toList.all (gr 6)) = true := rfl
  obtain ⟨e1, ts, ds, h, hk, c⟩ := (right_exec hG (draw_right hG) n).2 _ _ _ _ _ _ _ _ e
  cases hok : (eqSE e1 e0 && okSt z ts ds h) with
  | false => rw [hok] at hk; cases hk
  | true =>
    rw [Bool.and_eq_true] at hok
    obtain ⟨he, hok⟩ := hok
    have he := eqSE_eq he
    subst he
    exact fun N μ ro' a w Q d hts hds hro K => c N μ ro' a w Q d hts hds hro fun μ' a' w' p h1 h2 => K μ' a' w' ⟨p.le, okSt_den hok p.den, p.bel, p.kp⟩ (okSt_fr hok h1) (by rw [← okSt_ds hok]; exact h2)
/-- A loop whose end is known: the how manieth of those of a body that stand in no loop, where it begins, how and where it ends. -/
structure Cut where
  i : Nat
  s : St
  e : SE
  z : St
def CutR (P : Program) (frz : List Nat) (x : Code) (c : Cut) : Prop := CodeR P [] none frz (.loop x) c.s.fr c.s.ds c.s.sh c.e c.z.fr c.z.ds c.z.sh
theorem LoopE.cut {x : Code} {i : Nat} {s z : St} {e : SE} (q : LoopE P [] frz x s e z) : CutR P frz x ⟨i, s, e, z⟩ := fun N μ ro' a w Q d hts hds hro K => LoopX.wpIn (q N μ ro' a w Q d hts hds hro K)
def loopsIn : Code → Nat
  | .seq a b => loopsIn a + loopsIn b
  | .cond _ a b => loopsIn a + loopsIn b
  | .block _ a => loopsIn a
  | .loop _ => 1
  | .scope a => loopsIn a
  | _ => 0
def loopAt : Code → Nat → Option Code
  | .seq a b, j => cond (Nat.blt j (loopsIn a)) (loopAt a j) (loopAt b (j - loopsIn a))
  | .cond _ a b, j => cond (Nat.blt j (loopsIn a)) (loopAt a j) (loopAt b (j - loopsIn a))
  | .block _ a, j => loopAt a j
  | .loop a, j => cond (Nat.beq j 0) (some a) none
  | .scope a, j => loopAt a j
  | _, _ => none
/-- Code some loops of which have known ends. -/
noncomputable def codeC [Orc] (P : Program) (cuts : List Cut) : Code → Nat → CK
  | .seq a b, i => ⟨fun rc ro frz ts ds h k => (codeC P cuts a i).run rc ro frz ts ds h fun e ts' ds' h' => SE.rec (motive := fun _ => An) ((codeC P cuts b (i + loopsIn a)).run rc ro frz ts' ds' h' k) (fun id => k (.exit id) ts' ds' h') (k .ret ts' ds' h') e⟩
  | .block id a, i => ⟨fun rc ro frz ts ds h k => (codeC P cuts a i).run rc ro frz ts ds h fun e ts' ds' h' => SE.rec (motive := fun _ => An) (k .normal ts' ds' h') (fun id' => cond (Nat.beq id' id) (k .normal ts' ds' h') (k (.exit id') ts' ds' h')) (k .ret ts' ds' h') e⟩
  | .scope a, i => codeC P cuts a i
  | .loop a, i => match cuts.find? (fun c => Nat.beq c.i i) with
    | some c => ⟨fun _ ro _ ts ds h k => match ro with
      | none => cond (okSt c.s ts ds h) (k c.e c.z.fr c.z.ds c.z.sh) none
      | some _ => none⟩
    | none => codeW P [] (.loop a)
  | c, _ => codeW P [] c
theorem codeC_ok [Orc] {P : Program} [OrcOk P] {cuts : List Cut} {rc : Rec} (hrc : Right P [] rc) (hl : RightL P [] rc) {frz : List Nat} : ∀ (c : Code) (i : Nat), (∀ q ∈ cuts, ∀ j x, q.i = i + j → loopAt c j = some x → CutR P frz x q) →
    ∀ (ro : Option Nat) (ts : Fr) (ds : List Nat) (h : SH) (k : KE) (r : Value), (codeC P cuts c i).run rc ro frz ts ds h k = some r → ∃ e ts' ds' h', k e ts' ds' h' = some r ∧ CodeR P [] ro frz c ts ds h e ts' ds' h' := by
  have hG : ([] : Gl).all (fun x => x.2.1.toList.all (gr 6)) = true := rfl
  have hD : DrawRight P [] := draw_right hG
  intro c
  induction c with
  | seq x y ix iy =>
    intro i H ro ts ds h k r e
    have e : (codeC P cuts x i).run rc ro frz ts ds h (fun e ts' ds' h' => SE.rec (motive := fun _ => An) ((codeC P cuts y (i + loopsIn x)).run rc ro frz ts' ds' h' k) (fun id => k (.exit id) ts' ds' h') (k .ret ts' ds' h') e) = some r := e
    have hlt : ∀ (c : Code) (j : Nat) (z : Code), loopAt c j = some z → j < loopsIn c := by
      intro c
      induction c with
      | seq a b ia ib =>
        intro j z hz
        simp only [loopAt] at hz
        cases hb : Nat.blt j (loopsIn a) with
        | true => simp only [Nat.blt_eq] at hb; simp only [loopsIn]; omega
        | false =>
          rw [hb] at hz
          have := ib _ _ hz
          have hb : ¬ j < loopsIn a := fun hq => by rw [← Nat.blt_eq] at hq; rw [hb] at hq; cases hq
          simp only [loopsIn]; omega
      | cond q a b ia ib =>
        intro j z hz
        simp only [loopAt] at hz
        cases hb : Nat.blt j (loopsIn a) with
        | true => simp only [Nat.blt_eq] at hb; simp only [loopsIn]; omega
        | false =>
          rw [hb] at hz
          have := ib _ _ hz
          have hb : ¬ j < loopsIn a := fun hq => by rw [← Nat.blt_eq] at hq; rw [hb] at hq; cases hq
          simp only [loopsIn]; omega
      | block id a ia => intro j z hz; exact ia j z hz
      | scope a ia => intro j z hz; exact ia j z hz
      | loop a ia =>
        intro j z hz
        simp only [loopAt] at hz
        cases hb : Nat.beq j 0 with
        | true => have := Nat.eq_of_beq_eq_true hb; simp only [loopsIn]; omega
        | false => rw [hb] at hz; cases hz
      | _ => intro j z hz; cases hz
    obtain ⟨e1, ts1, ds1, h1, hk1, c1⟩ := ix i (fun q hq j z hi hz => H q hq j z hi (by simp only [loopAt]; rw [show Nat.blt j (loopsIn x) = true from by rw [Nat.blt_eq]; exact hlt x j z hz]; exact hz)) _ _ _ _ _ _ e
    cases e1 with
    | normal =>
      obtain ⟨e2, ts2, ds2, h2, hk2, c2⟩ := iy (i + loopsIn x) (fun q hq j z hi hz => H q hq (loopsIn x + j) z (by omega) (by
        simp only [loopAt]
        rw [show Nat.blt (loopsIn x + j) (loopsIn x) = false from by cases hb : Nat.blt (loopsIn x + j) (loopsIn x) with | false => rfl | true => (simp only [Nat.blt_eq] at hb; omega)]
        rw [cond_false, Nat.add_sub_cancel_left]; exact hz)) _ _ _ _ _ _ hk1
      refine ⟨e2, ts2, ds2, h2, hk2, fun N μ ro' a w Q d hts hds hro K => wpIn_seq ?_⟩
      exact c1 N μ ro' a w _ d hts hds hro fun μ1 a1 w1 p1 hts1 hds1 => c2 N μ1 ro' a1 w1 Q p1.den hts1 hds1 (hro.mono p1.le) fun μ' a' w' p => K μ' a' w' (p1.trans p)
    | exit id => exact ⟨_, _, _, _, hk1, fun N μ ro' a w Q d hts hds hro K => wpIn_seq (c1 N μ ro' a w _ d hts hds hro fun μ1 a1 w1 p1 hts1 hds1 => K μ1 a1 w1 p1 hts1 hds1)⟩
    | ret => exact ⟨_, _, _, _, hk1, fun N μ ro' a w Q d hts hds hro K => wpIn_seq (c1 N μ ro' a w _ d hts hds hro fun μ1 a1 w1 p1 hts1 hds1 => K μ1 a1 w1 p1 hts1 hds1)⟩
  | block id x ix =>
    intro i H ro ts ds h k r e
    have e : (codeC P cuts x i).run rc ro frz ts ds h (fun e ts' ds' h' => SE.rec (motive := fun _ => An) (k .normal ts' ds' h') (fun id' => cond (Nat.beq id' id) (k .normal ts' ds' h') (k (.exit id') ts' ds' h')) (k .ret ts' ds' h') e) = some r := e
    obtain ⟨e1, ts1, ds1, h1, hk1, c1⟩ := ix i H _ _ _ _ _ _ e
    cases e1 with
    | normal => exact ⟨_, _, _, _, hk1, fun N μ ro' a w Q d hts hds hro K => wpIn_block (c1 N μ ro' a w _ d hts hds hro fun μ1 a1 w1 p1 hts1 hds1 => K μ1 a1 w1 p1 hts1 hds1)⟩
    | ret => exact ⟨_, _, _, _, hk1, fun N μ ro' a w Q d hts hds hro K => wpIn_block (c1 N μ ro' a w _ d hts hds hro fun μ1 a1 w1 p1 hts1 hds1 => K μ1 a1 w1 p1 hts1 hds1)⟩
    | exit id' =>
      have hk2 : cond (Nat.beq id' id) (k .normal ts1 ds1 h1) (k (.exit id') ts1 ds1 h1) = some r := hk1
      clear hk1
      cases hq : Nat.beq id' id with
      | true =>
        rw [hq, cond_true] at hk2
        have := Nat.eq_of_beq_eq_true hq
        subst this
        refine ⟨_, _, _, _, hk2, fun N μ ro' a w Q d hts hds hro K => wpIn_block (c1 N μ ro' a w _ d hts hds hro fun μ1 a1 w1 p1 hts1 hds1 => ?_)⟩
        show Exit.inBlock id' Q (.exit id') a1 w1
        simp only [Exit.inBlock, if_true]
        exact K μ1 a1 w1 p1 hts1 hds1
      | false =>
        rw [hq, cond_false] at hk2
        have hne : id' ≠ id := fun e0 => by subst e0; simp at hq
        refine ⟨_, _, _, _, hk2, fun N μ ro' a w Q d hts hds hro K => wpIn_block (c1 N μ ro' a w _ d hts hds hro fun μ1 a1 w1 p1 hts1 hds1 => ?_)⟩
        show Exit.inBlock id Q (.exit id') a1 w1
        simp only [Exit.inBlock, hne, if_false]
        exact K μ1 a1 w1 p1 hts1 hds1
  | scope x ix =>
    intro i H ro ts ds h k r e
    obtain ⟨e1, ts1, ds1, h1, hk1, c1⟩ := ix i H _ _ _ _ _ _ e
    exact ⟨e1, ts1, ds1, h1, hk1, fun N μ ro' a w Q d hts hds hro K => wpIn_scopeX (c1 N μ ro' a w _ d hts hds hro fun μ1 a1 w1 p1 hts1 hds1 => ⟨ex_goto e1, K μ1 a1 w1 p1 hts1 hds1⟩)⟩
  | loop x ix =>
    intro i H ro ts ds h k r e
    simp only [codeC] at e
    split at e
    · rename_i c hf
      have hm := List.mem_of_find?_eq_some hf
      have hq := List.find?_some hf
      have hi := Nat.eq_of_beq_eq_true hq
      cases ro with
      | some l => cases e
      | none =>
        simp only at e
        cases hok : okSt c.s ts ds h with
        | false => rw [hok] at e; cases e
        | true =>
          rw [hok, cond_true] at e
          refine ⟨_, _, _, _, e, fun N μ ro' a w Q d hts hds hro K => ?_⟩
          exact H c hm 0 x (by omega) rfl N μ ro' a w Q (okSt_den hok d) (okSt_fr hok hts) (by rw [← okSt_ds hok]; exact hds) hro K
    · exact code_ok hG hD hrc hl _ _ _ _ _ _ _ _ e
  | _ =>
    intro i H ro ts ds h k r e
    simp only [codeC] at e
    exact code_ok hG hD hrc hl _ _ _ _ _ _ _ _ e
/-- The loop of a function's body. -/
noncomputable def bodyLoop (P : Program) (g : FuncId) (i : Nat) : Code := match loopAt (finfo P g).body i with
  | some x => x
  | none => .skip
noncomputable def recC [Orc] (P : Program) (n : Nat) (cuts : List Cut) : Rec := fun ro frz c ts ds h k => (codeC P cuts c 0).run (exec P [] n) ro frz ts ds h k
noncomputable def runEC [Orc] (P : Program) (n : Nat) (cuts : List Cut) (o : Nat) (x : Ent) : Option Value := callF P [] (recC P n cuts) (List.range x.mem.length) (finfo P x.g) x.args (memSH x.mem { next := 0, tr := .nil, kin := .nil }) fun v h => match okRes x.mem.length h o x.res with
  | some cs => some (.tuple ⟨v :: cs⟩)
  | none => none
/-- **An entry is right** some loops of whose function are cut. -/
theorem ent_okC {T : List (FuncId × Value)} {E : List Ent} {P : Program} {n o : Nat} {x : Ent} (hT : ∀ x ∈ T, NullR P x.1 x.2) (hE : ∀ x ∈ E, EntR P x) {cuts : List Cut} (hc : ∀ q ∈ cuts, CutR P (List.range x.mem.length) (bodyLoop P x.g q.i) q) (hf : fineE x = true) (h : @runEC ⟨T, E⟩ P n cuts o x = some (.tuple ⟨endOf o x :: resOf x⟩)) : EntR P x := by
  letI : Orc := ⟨T, E⟩
  haveI : OrcOk P := ⟨hT, hE⟩
  unfold runEC at h
  have hG : ([] : Gl).all (fun x => x.2.1.toList.all (gr 6)) = true := rfl
  obtain ⟨v, h', hk, hent, hc⟩ := callF_okB hG (fun ro ts ds h k r e => codeC_ok (right_exec hG (draw_right hG) n).1 (right_exec hG (draw_right hG) n).2 _ 0 (fun q hq j z hi hz => by
    have := hc q hq
    rw [show q.i = j from by omega] at this
    unfold bodyLoop at this
    rw [hz] at this
    exact this) ro ts ds h k r e) h
  refine ⟨hent, fun μ w bs args' d hbs ha => (hc _ μ w args' d ha).mono ?_⟩
  rintro e w' ⟨μ', v', rfl, p, hv⟩
  have hbel : Below w.heap.size w w' := ⟨p.bel.low.os, p.bel.low.tape, p.bel.low.output, p.bel.low.size, fun k hk => by
    by_cases hm : k ∈ bs
    · obtain ⟨j, κ, h1, h2⟩ := hbs k hm
      exact p.kp j (List.mem_range.2 h1) k κ h2
    · refine p.bel.oth k (List.mem_filter.2 ⟨List.mem_range.2 hk, ?_⟩)
      cases hq : bs.any fun b => Nat.beq b k with
      | false => rfl
      | true =>
        obtain ⟨b, hb, hbk⟩ := List.any_eq_true.1 hq
        exact absurd (by rw [← Nat.eq_of_beq_eq_true hbk]; exact hb) hm⟩
  refine ⟨?_, hbel⟩
  unfold EntE
  cases hr : x.res with
  | none =>
    simp only [hr, okRes, endOf, resOf, Option.some.injEq, Value.tuple.injEq, Array.mk.injEq, List.cons.injEq, and_true] at hk
    simp only [fineE, hr] at hf
    subst hk
    exact ⟨hf, by rw [hv.eq hf]⟩
  | some r =>
    simp only [fineE, hr, Bool.and_eq_true] at hf
    simp only [hr, endOf, resOf] at hk
    split at hk
    · rename_i cs hok
      simp only [Option.some.injEq, Value.tuple.injEq, Array.mk.injEq, List.cons.injEq] at hk
      obtain ⟨rfl, rfl⟩ := hk
      simp only [okRes] at hok
      split at hok
      · rename_i t cs2 f hget
        cases hcnd : (decide (t = r.1) && Nat.ble x.mem.length f && ((List.range x.mem.length).all fun k => famLow x.mem.length (h'.tr.get k))) with
        | false => rw [hcnd] at hok; cases hok
        | true =>
          rw [hcnd, cond_true, Option.some.injEq] at hok
          subst hok
          simp only [Bool.and_eq_true, decide_eq_true_eq] at hcnd
          obtain ⟨⟨rfl, hmf⟩, hall⟩ := hcnd
          have hmf := Nat.le_of_ble_eq_true hmf
          obtain ⟨b, κ, cur, sz, b1, b2, b3, b4, b5, b6, b7⟩ := p.den.blk o _ hget
          refine ⟨hf.2, v', b, κ, cur, sz, rfl, ?_, b3, b4, b5, b6, ?_, fun ν k hk => renB_rel b1 hk 4 _ _ hf.1 hv⟩
          · rcases Nat.lt_or_ge b w.heap.size with hlt | hge
            · exfalso
              by_cases hm : b ∈ bs
              · obtain ⟨j, κ', h1, h2⟩ := hbs b hm
                have hlow := List.all_eq_true.1 hall j (List.mem_range.2 h1)
                unfold famLow at hlow
                split at hlow
                · rename_i t3 cs3 f3 hsj
                  refine p.den.apart j o _ _ b κ' κ hsj hget (fun e => ?_) (p.le _ _ h2) b1
                  simp only [Nat.blt_eq] at hlow
                  simp only [famOf] at e
                  omega
                · cases hlow
              · refine b2.2 (List.mem_filter.2 ⟨List.mem_range.2 hlt, ?_⟩)
                cases hq : bs.any fun b' => Nat.beq b' b with
                | false => rfl
                | true =>
                  obtain ⟨b', hb', hbk⟩ := List.any_eq_true.1 hq
                  exact absurd (by rw [← Nat.eq_of_beq_eq_true hbk]; exact hb') hm
            · exact hge
          · exact ((RelL.eq b7 hf.2).symm).symm
      · cases hok
    · cases hk
end
end Go.Proofs.Ytnhojiooiedabaa
