/- Code at a memory of its own, of which rows may be laid down for good: what is read grows. Over any program. Conditions: as each law says. -/
import Derived.Test.YtpaabfecoghibaaK13
namespace Go.Proofs.Ytpaabfecoghibaa
open Go Go.RowKit
set_option linter.unusedSimpArgs false
set_option linter.unusedVariables false
abbrev RF := Nat → Nat → Option Value
abbrev KX := RF → KP
/-- What is read has grown. -/
def subF (f f' : RF) : Prop := ∀ b o v, f b o = some v → f' b o = some v
theorem subF.refl (f : RF) : subF f f := fun _ _ _ h => h
theorem subF.trans {f g k : RF} (h : subF f g) (h' : subF g k) : subF f k := fun b o v e => h' b o v (h b o v e)
/-- No less is to be left alone. -/
def Lim.leX (N N' : Lim) : Prop := N'.n = N.n ∧ ∀ b ∈ N.x, b ∈ N'.x
theorem Lim.leX.refl (N : Lim) : N.leX N := ⟨rfl, fun _ h => h⟩
theorem Lim.leX.trans {N N' M : Lim} (h : N.leX N') (k : N'.leX M) : N.leX M := ⟨k.1.trans h.1, fun b hb => k.2 b (h.2 b hb)⟩
theorem Bel.leX {N N' : Lim} {w w' : World} (h : N.leX N') (b : Bel N' w w') : Bel N w w' := ⟨by rw [← h.1]; exact b.low, fun k hk => b.oth k (h.2 k hk)⟩
/-- How a memory has gone on. -/
structure PostX (P : Program) (f : RF) (N : Lim) (w : World) (f' : RF) (N' : Lim) (μ' : Mu) (h' : SH) (w' : World) : Prop where
  sub : subF f f'
  lim : N.leX N'
  den : Den P N' (glF f') μ' h' w'
  bel : Bel N w w'
  new : ∀ b, GB (glF f') b → GB (glF f) b ∨ N.new b
theorem Lim.leX.new {N N' : Lim} (h : N.leX N') {b : Nat} (hb : N'.new b) : N.new b := ⟨by rw [← h.1]; exact hb.1, fun hm => hb.2 (h.2 b hm)⟩
theorem PostX.refl {P : Program} {f : RF} {N : Lim} {μ : Mu} {h : SH} {w : World} (d : Den P N (glF f) μ h w) : PostX P f N w f N μ h w := ⟨subF.refl f, Lim.leX.refl N, d, Bel.refl N w, fun _ hb => .inl hb⟩
theorem PostX.trans {P : Program} {f f1 f2 : RF} {N N1 N2 : Lim} {μ1 μ2 : Mu} {h1 h2 : SH} {w w1 w2 : World} (p : PostX P f N w f1 N1 μ1 h1 w1) (q : PostX P f1 N1 w1 f2 N2 μ2 h2 w2) : PostX P f N w f2 N2 μ2 h2 w2 :=
  ⟨p.sub.trans q.sub, p.lim.trans q.lim, q.den, p.bel.trans (q.bel.leX p.lim), fun b hb => by
    rcases q.new b hb with hb | hb
    · exact p.new b hb
    · exact .inr (p.lim.new hb)⟩
/-- Code comes to what K says. -/
def JX (P : Program) (c : Code) (f : RF) (ts : Fr) (h : SH) (K : KX) : Prop := ∀ (N : Lim) (μ : Mu) (a : Act) (w : World) (Q : Exit → Act → World → Prop), Den P N (glF f) μ h w → RelF μ ts a.tmps → a.defers = [] →
  (∀ f' N' e ts' h' μ' a' w', K f' e ts' h' → PostX P f N w f' N' μ' h' w' → RelF μ' ts' a'.tmps → a'.defers = [] → Q e.ex a' w') → c.wpIn (FR none) 0 P Q a w
def LJX (P : Program) (x : Code) (f : RF) (ts : Fr) (h : SH) (K : KX) : Prop := ∀ (N : Lim) (μ : Mu) (a : Act) (w : World) (Q : Exit → Act → World → Prop), Den P N (glF f) μ h w → RelF μ ts a.tmps → a.defers = [] →
  (∀ f' N' e ts' h' μ' a' w', K f' e ts' h' → PostX P f N w f' N' μ' h' w' → RelF μ' ts' a'.tmps → a'.defers = [] → Q e.ex a' w') → LoopX (FR none) 0 P x Q a w
section
variable {P : Program} {f : RF} {c x y : Code} {ts : Fr} {h : SH} {K K' : KX}
theorem JX.of_J {K0 : KP} (j : J P f 0 c ts h K0) (hk : ∀ e ts h, K0 e ts h → K f e ts h) : JX P c f ts h K := fun N μ a w Q d hts hd H => j N μ a w Q d hts hd fun e ts' h' μ' a' w' k p => H f N e ts' h' μ' a' w' (hk _ _ _ k) ⟨subF.refl f, Lim.leX.refl N, p.den, p.bel, fun _ hb => .inl hb⟩
theorem LJX.of_LJ {K0 : KP} (j : LJ P f 0 c ts h K0) (hk : ∀ e ts h, K0 e ts h → K f e ts h) : LJX P c f ts h K := fun N μ a w Q d hts hd H => j N μ a w Q d hts hd fun e ts' h' μ' a' w' k p => H f N e ts' h' μ' a' w' (hk _ _ _ k) ⟨subF.refl f, Lim.leX.refl N, p.den, p.bel, fun _ hb => .inl hb⟩
theorem JX.mono (j : JX P c f ts h K) (hk : ∀ f e ts h, K f e ts h → K' f e ts h) : JX P c f ts h K' := fun N μ a w Q d hts hd H => j N μ a w Q d hts hd fun f' N' e ts' h' μ' a' w' k => H f' N' e ts' h' μ' a' w' (hk _ _ _ _ k)
theorem JX.seq (j : JX P x f ts h (fun f => KP.then (fun ts h => JX P y f ts h K) (K f))) : JX P (.seq x y) f ts h K := fun N μ a w Q d hts hd H => wpIn_seq (j N μ a w _ d hts hd fun f1 N1 e ts1 h1 μ1 a1 w1 hk p hts1 hd1 => by
  cases e with
  | normal => exact hk N1 μ1 a1 w1 Q p.den hts1 hd1 fun f2 N2 e ts' h' μ' a' w' k q => H f2 N2 e ts' h' μ' a' w' k (p.trans q)
  | exit id => exact H _ _ _ _ _ μ1 a1 w1 hk p hts1 hd1
  | ret => exact H _ _ _ _ _ μ1 a1 w1 hk p hts1 hd1)
theorem JX.cond {o : Operand} {t : Bool} (hc : constOk o = true) (ht : opnd ts o = .bool t) (j1 : t = true → JX P x f ts h K) (j2 : t = false → JX P y f ts h K) : JX P (.cond o x y) f ts h K := fun N μ a w Q d hts hd H => by
  have hb : a.eval o = .bool t := by
    have hr := opnd_rel hts hc
    rw [ht] at hr
    generalize a.eval o = v at hr
    cases hr <;> rfl
  refine wpIn_cond hb ?_
  cases t with
  | true => exact j1 rfl N μ a w Q d hts hd H
  | false => exact j2 rfl N μ a w Q d hts hd H
theorem JX.block {id : Nat} (j : JX P x f ts h (fun f => KP.block id (K f))) : JX P (.block id x) f ts h K := fun N μ a w Q d hts hd H => wpIn_block (j N μ a w _ d hts hd fun f1 N1 e ts1 h1 μ1 a1 w1 hk p hts1 hd1 => by
  cases e with
  | normal => exact H _ _ _ _ _ μ1 a1 w1 hk p hts1 hd1
  | ret => exact H _ _ _ _ _ μ1 a1 w1 hk p hts1 hd1
  | exit i =>
    show Exit.inBlock id Q (.exit i) a1 w1
    by_cases e : i = id
    · simp only [Exit.inBlock, e, if_true]
      exact H _ _ _ _ _ μ1 a1 w1 (hk.1 e) p hts1 hd1
    · simp only [Exit.inBlock, e, if_false]
      exact H _ _ _ _ _ μ1 a1 w1 (hk.2 e) p hts1 hd1)
theorem JX.loop (j : LJX P x f ts h K) : JX P (.loop x) f ts h K := fun N μ a w Q d hts hd H => LoopX.wpIn (j N μ a w Q d hts hd H)
theorem JX.scope (j : JX P x f ts h K) : JX P (.scope x) f ts h K := fun N μ a w Q d hts hd H => wpIn_scopeX (j N μ a w _ d hts hd fun f1 N1 e ts1 h1 μ1 a1 w1 hk p hts1 hd1 => ⟨fun l => ex_goto e l, H _ _ _ _ _ μ1 a1 w1 hk p hts1 hd1⟩)
theorem JX.skip (k : K f .normal ts h) : JX P .skip f ts h K := JX.of_J (J.skip (K := K f) k) fun _ _ _ h => h
theorem JX.exit {i : Nat} (k : K f (.exit i) ts h) : JX P (.exit i) f ts h K := JX.of_J (J.exit (K := K f) k) fun _ _ _ h => h
theorem JX.ret (k : K f .ret ts h) : JX P .ret f ts h K := JX.of_J (J.ret (K := K f) k) fun _ _ _ h => h
theorem JX.label {i : Nat} (k : K f .normal ts h) : JX P (.label i) f ts h K := JX.of_J (J.label (K := K f) k) fun _ _ _ h => h
theorem JX.region {id : Nat} {ops : Array Oper} {draw : Bool} (e : ∀ z, (@codeW (orcS z) P (glF f) (.region id ops draw)).run (rcI P f) none (List.range 0) ts [] h (fun e ts' ds' h' => kI (ds' = [] ∧ K f e ts' h')) = some (.bool true)) : JX P (.region id ops draw) f ts h K :=
  JX.of_J (J.region (K := K f) e) fun _ _ _ h => h
/-- A round, and on. -/
theorem LJX.round (j : JX P x f ts h (fun f => KP.then (fun ts h => LJX P x f ts h K) (K f))) : LJX P x f ts h K := fun N μ a w Q d hts hd H => LoopX.unroll (j N μ a w _ d hts hd fun f1 N1 e ts1 h1 μ1 a1 w1 hk p hts1 hd1 => by
  cases e with
  | normal => exact hk N1 μ1 a1 w1 Q p.den hts1 hd1 fun f2 N2 e ts' h' μ' a' w' k q => H f2 N2 e ts' h' μ' a' w' k (p.trans q)
  | exit id => exact H _ _ _ _ _ μ1 a1 w1 hk p hts1 hd1
  | ret => exact H _ _ _ _ _ μ1 a1 w1 hk p hts1 hd1)
theorem postX_ren {N N' : Lim} {μ' : Mu} {h' : SH} {w w' : World} {f' : RF} (q : PostX P f N w f' N' μ' h' w') : PostX P f N w f' N' μ' h' w' := q
/-- Under other numbers. -/
theorem JX.ren (L : List (Option Value)) (M : List (TypeId × List Value)) (s : List Nat) (hM : M.length = s.length) (hr : RowsOk (rhoOf 0 s) h M 0 []) (hs : SlotsN (rhoOf 0 s) L ts)
    (j : ∀ vs, MatchL L vs → JX P c f (frL L.length vs) (memSH M sh0) K) : JX P c f ts h K := fun N μ a w Q d hts hd H => by
  have hM : M.length = 0 + s.length := by omega
  have hmu : ∀ j j', rhoOf 0 s j = some j' → muR (rhoOf 0 s) M.length μ j = μ j' := fun j j' e => by
    unfold muR
    rw [if_pos (rho_lt hM j j' e), e]; rfl
  obtain ⟨vs, g1, g2⟩ := ren_frame hmu hts hs
  exact j vs g1 N _ a w Q (d.ren (rho_lt hM) hr) (relF_frL g2 (by have := hs.le; have := hs.n; omega) (by obtain ⟨xs, _, rfl⟩ := g1; rw [fillL_length]; exact Nat.le_refl _)) hd H
theorem LJX.ren (L : List (Option Value)) (M : List (TypeId × List Value)) (s : List Nat) (hM : M.length = s.length) (hr : RowsOk (rhoOf 0 s) h M 0 []) (hs : SlotsN (rhoOf 0 s) L ts)
    (j : ∀ vs, MatchL L vs → LJX P c f (frL L.length vs) (memSH M sh0) K) : LJX P c f ts h K := fun N μ a w Q d hts hd H => by
  have hM : M.length = 0 + s.length := by omega
  have hmu : ∀ j j', rhoOf 0 s j = some j' → muR (rhoOf 0 s) M.length μ j = μ j' := fun j j' e => by
    unfold muR
    rw [if_pos (rho_lt hM j j' e), e]; rfl
  obtain ⟨vs, g1, g2⟩ := ren_frame hmu hts hs
  exact j vs g1 N _ a w Q (d.ren (rho_lt hM) hr) (relF_frL g2 (by have := hs.le; have := hs.n; omega) (by obtain ⟨xs, _, rfl⟩ := g1; rw [fillL_length]; exact Nat.le_refl _)) hd H
/-- A loop, by what holds at its rounds' starts. -/
theorem LJX.ind {α : Type} (L : α → List (Option Value)) (M : α → List (TypeId × List Value)) (Inv : α → RF → Prop) (meas : α → Nat) (a0 : α) (s : List Nat) (h0 : Inv a0 f)
    (hM : (M a0).length = s.length) (hr : RowsOk (rhoOf 0 s) h (M a0) 0 []) (hs : SlotsN (rhoOf 0 s) (L a0) ts)
    (step : ∀ a f1, subF f f1 → Inv a f1 → ∀ vs, MatchL (L a) vs → (∀ a' f', subF f1 f' → Inv a' f' → meas a' < meas a → ∀ vs, MatchL (L a') vs → LJX P x f' (frL (L a').length vs) (memSH (M a') sh0) K) →
      JX P x f1 (frL (L a).length vs) (memSH (M a) sh0) (fun f => KP.then (fun ts h => LJX P x f ts h K) (K f))) : LJX P x f ts h K := by
  have H : ∀ n a f1, subF f f1 → meas a < n → Inv a f1 → ∀ vs, MatchL (L a) vs → LJX P x f1 (frL (L a).length vs) (memSH (M a) sh0) K := by
    intro n
    induction n with
    | zero => intro a f1 _ ha; omega
    | succ n ih => intro a f1 hs ha hI vs hv; exact LJX.round (step a f1 hs hI vs hv fun a' f' hs' hI' hm vs' hv' => ih a' f' (hs.trans hs') (by omega) hI' vs' hv')
  exact LJX.ren (L a0) (M a0) s hM hr hs fun vs hv => H _ a0 f (subF.refl f) (Nat.lt_succ_self _) h0 vs hv
end
end Go.Proofs.Ytpaabfecoghibaa

/- Rows that are laid down for good; functions whose results are read there. Over any program. Conditions: as each law says. -/
namespace Go.Proofs.Ytpaabfecoghibaa
open Go Go.RowKit
set_option linter.unusedSimpArgs false
set_option linter.unusedVariables false
/-- A value under other numbers, where a row's slices are laid down. -/
inductive SimZ (ρ : Nat → Option Nat) (z b κ : Nat) : Value → Value → Prop
  | sim {v v' : Value} (h : SimV ρ v v') : SimZ ρ z b κ v v'
  | frz {n n' c : Nat} (hn : n = n') : SimZ ρ z b κ (.slice (some ⟨b, 0, none⟩) n κ) (.slice (some ⟨z, 0, some 1⟩) n' c)
inductive AllZ (ρ : Nat → Option Nat) (z b κ : Nat) (ts : Fr) : Nat → List (Option Value) → Prop
  | nil {i : Nat} : AllZ ρ z b κ ts i []
  | no {i : Nat} {L : List (Option Value)} (j : JunkOk (ts.get i)) (h : AllZ ρ z b κ ts (i + 1) L) : AllZ ρ z b κ ts i (none :: L)
  | so {i : Nat} {v : Value} {L : List (Option Value)} (j : SimZ ρ z b κ v (ts.get i)) (h : AllZ ρ z b κ ts (i + 1) L) : AllZ ρ z b κ ts i (some v :: L)
section
variable {ρ : Nat → Option Nat} {z b κ : Nat} {ts : Fr} {μ ν : Mu}
theorem AllZ.get {i : Nat} {L : List (Option Value)} (h : AllZ ρ z b κ ts i L) : ∀ (k : Nat) (o : Option Value), L[k]? = some o → (o = none → JunkOk (ts.get (i + k))) ∧ ∀ v, o = some v → SimZ ρ z b κ v (ts.get (i + k)) := by
  induction h with
  | nil => intro k o h; simp at h
  | no j h ih =>
    intro k o hk
    cases k with
    | zero => simp only [List.getElem?_cons_zero, Option.some.injEq] at hk; subst hk; exact ⟨fun _ => j, fun v e => by cases e⟩
    | succ k => rw [Nat.add_succ, ← Nat.succ_add]; exact ih k o (by simpa using hk)
  | so j h ih =>
    intro k o hk
    cases k with
    | zero => simp only [List.getElem?_cons_zero, Option.some.injEq] at hk; subst hk; exact ⟨fun e => (by cases e), fun v e => (by cases e; exact j)⟩
    | succ k => rw [Nat.add_succ, ← Nat.succ_add]; exact ih k o (by simpa using hk)
theorem SimZ.rel (hρ : ∀ j j', ρ j = some j' → ν j = μ j') (hm : μ z = some (b, κ)) {v v' w : Value} (s : SimZ ρ z b κ v v') (r : Rel μ v' w) : Rel ν v w := by
  cases s with
  | sim h => exact SimV.rel hρ h r
  | frz hn =>
    subst hn
    cases r with
    | ground hg => simp [gr] at hg
    | sliceO hm' hn' =>
      rw [hm] at hm'; cases hm'
      exact .ground rfl
theorem zen_frame (hρ : ∀ j j', ρ j = some j' → ν j = μ j') (hm : μ z = some (b, κ)) {tmps : Array Value} (hr : RelF μ ts tmps) {L : List (Option Value)} (hn : ts.n = L.length) (hs : AllZ ρ z b κ ts 0 L) : ∃ vs, MatchL L vs ∧ RelF ν (Fr.of L.length vs) tmps := by
  have hle := hr.le
  have hg : ∀ i, ∃ x, gE 6 x = true ∧ (L[i]? = some none → Rel mu0 x (tmps.getD i undef)) := fun i => by
    by_cases hi : L[i]? = some none
    · have hj := (hs.get i none hi).1 rfl
      rw [Nat.zero_add] at hj
      rcases hj with h1 | h1
      · exact ⟨_, h1, fun _ => (hr.at' i).reE 6 h1⟩
      · exact ⟨_, gE_of_gr 6 _ (jB_rel (hr.at' i) 6 h1), fun _ => .ground (jB_rel (hr.at' i) 6 h1)⟩
    · exact ⟨undef, rfl, fun e => absurd e hi⟩
  obtain ⟨X, hX⟩ := Classical.axiomOfChoice hg
  refine ⟨fillL X L 0, ⟨_, fun i => (hX i).1, rfl⟩, ?_, ?_, fun i => ?_⟩
  · rw [Fr.of_n _ _ (by omega), ← hn]; exact hr.n
  · rw [Fr.of_n _ _ (by omega), ← hn]; exact hle
  · rw [Fr.of_get _ _ (by omega) _ (by rw [fillL_length]; exact Nat.le_refl _), List.getD_eq_getElem?_getD, fillL_get, Nat.zero_add]
    cases hi : L[i]? with
    | none =>
      have : tmps.getD i undef = undef := by
        have h1 := List.getElem?_eq_none_iff.1 hi
        have h3 := hr.n
        have : ¬ i < tmps.size := by omega
        simp [Array.getD, this]
      rw [this]
      exact .ground rfl
    | some o =>
      cases o with
      | some w =>
        have hj := (hs.get i _ hi).2 w rfl
        rw [Nat.zero_add] at hj
        exact hj.rel hρ hm (hr.at' i)
      | none =>
        simp only [Option.map_some, Option.getD_some, Option.getD_none]
        exact ((hX i).2 hi).mono (fun _ _ e => by cases e)
end
theorem BlkOk.limX {P : Program} {N M : Lim} {μ : Mu} {w : World} {j : Nat} {sb : SB} (hN : ∀ b κ, μ j = some (b, κ) → N.new b → M.new b) (hb : BlkOk P N μ w j sb) : BlkOk P M μ w j sb := by
  cases sb with
  | row t cs f => obtain ⟨b, κ, cur, sz, h1, h2, h3, h4⟩ := hb; exact ⟨b, κ, cur, sz, h1, hN b κ h1 h2, h3, h4⟩
  | map es s => obtain ⟨b, κ, ents, cl, h1, h2, h3, h4⟩ := hb; exact ⟨b, κ, ents, cl, h1, hN b κ h1 h2, h3, h4⟩
  | iter m si se la => obtain ⟨b, κ, mb, κ', h1, h2, h3, h4⟩ := hb; exact ⟨b, κ, mb, κ', h1, hN b κ h1 h2, h3, h4⟩
  | loop r ts => obtain ⟨b, κ, fn, ts', d, κ', h1, h2, h5, h3, h4⟩ := hb; exact ⟨b, κ, fn, ts', d, κ', h1, hN b κ h1 h2, h5, h3, h4⟩
  | mark => obtain ⟨b, κ, h1, h2, h3⟩ := hb; exact ⟨b, κ, h1, hN b κ h1 h2, h3⟩
section
variable {P : Program} {f : RF} {N : Lim} {μ : Mu} {h : SH} {w : World}
/-- More blocks are left alone, and read. -/
theorem Den.more (d : Den P N (glF f) μ h w) (bs : List Nat) (hbs : ∀ b ∈ bs, b < w.heap.size) (hap : ∀ j sb b' κ', h.tr.get j = some sb → μ j = some (b', κ') → b' ∉ bs) {f' : RF} (hG : ∀ b, GB (glF f') b → GB (glF f) b ∨ b ∈ bs) (hR : Reads f' w) :
    Den P ⟨N.n, bs ++ N.x⟩ (glF f') μ h w := by
  refine ⟨⟨d.base.1, fun k hk => ?_⟩, fun j sb hj => BlkOk.limX (N := N) (M := ⟨N.n, bs ++ N.x⟩) (fun b κ hm hn => ⟨hn.1, fun hx => ?_⟩) (d.blk j sb hj), d.old, d.muOld, d.apart, d.kin, d.famLt, d.kinOld, fun b hb => ?_, And.intro (fun x hx => absurd hx (by simp)) hR⟩
  · rcases List.mem_append.1 hk with hk | hk
    · exact hbs k hk
    · exact d.base.2 k hk
  · rcases List.mem_append.1 hx with hx | hx
    · exact hap j sb b κ hj hm hx
    · exact hn.2 hx
  · rcases hG b hb with hb | hb
    · exact (d.glob.1 b hb).imp id fun q => List.mem_append.2 (.inr q)
    · exact .inr (List.mem_append.2 (.inl hb))
end
theorem rowsOk_fs {ρ : Nat → Option Nat} {h : SH} : ∀ (l : List (TypeId × List Value)) (j : Nat) (fs fs' : List Nat), (∀ x ∈ fs', x ∈ fs) → RowsOk ρ h l j fs → RowsOk ρ h l j fs'
  | [], _, _, _, _, _ => trivial
  | r :: l, j, fs, fs', hs, h => by
    obtain ⟨j', cs', f', h1, h2, h3, hf, ht⟩ := h
    exact ⟨j', cs', f', h1, h2, h3, fun hm => hf (hs _ hm), rowsOk_fs l (j + 1) _ _ (fun x hx => by
      rcases List.mem_cons.1 hx with rfl | hx
      · simp
      · exact List.mem_cons_of_mem _ (hs x hx)) ht⟩
/-- What is read, and a row that was laid down. -/
def addF (f : RF) (b : Nat) (cs : List Value) : RF := fun b' o => match f b' o with
  | some v => some v
  | none => if b' = b then cs[o]? else none
theorem addF_sub {f : RF} {b : Nat} {cs : List Value} : subF f (addF f b cs) := fun b' o v e => by simp only [addF, e]
section
variable {P : Program} {f : RF} {c : Code} {ts : Fr} {h : SH} {K : KX}
/-- The state, in which a row has been laid down. -/
theorem frz_state {N : Lim} {μ : Mu} {w : World} (d : Den P N (glF f) μ h w) {z : Nat} {t : TypeId} {cs : List Value} {fam : Nat} (hz : h.tr.get z = some (.row t cs fam)) (hcs : cs.all (gr 6) = true) (M : List (TypeId × List Value)) (s : List Nat) (hM : M.length = s.length) (hr : RowsOk (rhoOf 0 s) h M 0 [fam]) :
    ∃ b κ, μ z = some (b, κ) ∧ N.new b ∧ (∀ i v, cs[i]? = some v → addF f b cs b i = some v) ∧ (∀ b', GB (glF (addF f b cs)) b' → GB (glF f) b' ∨ b' = b) ∧ (∀ j j', rhoOf 0 s j = some j' → muR (rhoOf 0 s) M.length μ j = μ j') ∧ Den P ⟨N.n, [b] ++ N.x⟩ (glF (addF f b cs)) (muR (rhoOf 0 s) M.length μ) (memSH M sh0) w := by
  have hM : M.length = 0 + s.length := by omega
  obtain ⟨b, κ, cur, sz, g1, g2, g3, g4, g5, g6, g7⟩ := d.blk z _ hz
  have cells := row_cells d hz g1 hcs
  have hnone : ∀ o, f b o = none := fun o => by
    cases hf : f b o with
    | none => rfl
    | some v => exact absurd rfl (d.globNe (.inr ⟨o, v, hf⟩) g2)
  have hGB : ∀ b', GB (glF (addF f b cs)) b' → GB (glF f) b' ∨ b' = b := fun b' hb' => by
    rcases hb' with ⟨x, hx, _⟩ | ⟨o, v, e⟩
    · cases hx
    · have e : addF f b cs b' o = some v := e
      unfold addF at e
      cases hf : f b' o with
      | some u => exact .inl (.inr ⟨o, u, hf⟩)
      | none =>
        rw [hf] at e
        simp only at e
        split at e
        · exact .inr (by assumption)
        · cases e
  have hmu : ∀ j j', rhoOf 0 s j = some j' → muR (rhoOf 0 s) M.length μ j = μ j' := fun j j' e => by
    unfold muR
    rw [if_pos (rho_lt hM j j' e), e]; rfl
  have d1 := d.ren (rho_lt hM) (rowsOk_fs M 0 [fam] [] (fun x hx => by cases hx) hr)
  refine ⟨b, κ, g1, g2, fun i v hv => by simp only [addF, hnone, if_true, hv], hGB, hmu, ?_⟩
  refine d1.more [b] (fun b' hb' => ?_) (fun j sb b' κ' hj hm hb' => ?_) (fun b' hb' => (hGB b' hb').imp id (fun e => by simp [e])) (fun b' o v e => ?_)
  · obtain rfl : b' = b := by simpa using hb'
    exact (Array.getElem?_eq_some_iff.1 g3).1
  · obtain rfl : b' = b := by simpa using hb'
    obtain ⟨F, hF, _⟩ := rowsOk_fam M 0 [fam] hr
    obtain ⟨m1, m2, m3⟩ := memSH_get M sh0 (fun _ _ => rfl)
    rcases m3 j sb hj with ⟨h1, _⟩ | ⟨r, _, h2, h3⟩
    · exact absurd h1 (Nat.not_lt_zero _)
    · have h2 : M[j]? = some r := h2
      obtain ⟨j', cs', q1, q2, q3, q4⟩ := hF j r h2
      rw [Nat.zero_add] at q1
      rw [hmu j j' q1] at hm
      refine d.apart j' z _ _ _ _ _ q2 hz (fun e => q4 ?_) hm g1
      simp only [famOf] at e
      have : F j = fam := by omega
      simp [this]
  · unfold addF at e
    cases hf : f b' o with
    | some u =>
      rw [hf] at e
      simp only [Option.some.injEq] at e
      subst e
      exact d.glob.2.2 b' o _ hf
    | none =>
      rw [hf] at e
      simp only at e
      split at e
      · rename_i hbb
        subst hbb
        exact ⟨v, cells o v e, .ground (List.all_eq_true.1 hcs v (List.mem_of_getElem? e))⟩
      · cases e
theorem postX_frz {N N2 : Lim} {w w' : World} {b : Nat} {cs : List Value} {f2 : RF} {μ' : Mu} {h' : SH} (hN : N.new b) (hGB : ∀ b', GB (glF (addF f b cs)) b' → GB (glF f) b' ∨ b' = b) (q : PostX P (addF f b cs) ⟨N.n, [b] ++ N.x⟩ w f2 N2 μ' h' w') : PostX P f N w f2 N2 μ' h' w' := by
  have hl : N.leX ⟨N.n, [b] ++ N.x⟩ := ⟨rfl, fun x hx => List.mem_append.2 (.inr hx)⟩
  refine ⟨addF_sub.trans q.sub, hl.trans q.lim, q.den, q.bel.leX hl, fun b' hb' => ?_⟩
  rcases q.new b' hb' with hb' | hb'
  · rcases hGB b' hb' with hb' | rfl
    · exact .inl hb'
    · exact .inr hN
  · exact .inr (hl.new hb')
/-- **A row is laid down.** -/
theorem JX.frz (z : Nat) {t : TypeId} {cs : List Value} {fam : Nat} (hz : h.tr.get z = some (.row t cs fam)) (hcs : cs.all (gr 6) = true) (L : Nat → Nat → List (Option Value)) (M : List (TypeId × List Value)) (s : List Nat) (hM : M.length = s.length) (hr : RowsOk (rhoOf 0 s) h M 0 [fam]) (hn : ∀ b κ, ts.n = (L b κ).length) (hs : ∀ b κ, AllZ (rhoOf 0 s) z b κ ts 0 (L b κ))
    (j : ∀ b κ f', subF f f' → (∀ i v, cs[i]? = some v → f' b i = some v) → (∀ i n c, ts.get i = .slice (some ⟨z, 0, some 1⟩) n c → n ≤ κ) → ∀ vs, MatchL (L b κ) vs → JX P c f' (frL (L b κ).length vs) (memSH M sh0) K) : JX P c f ts h K := fun N μ a w Q d hts hd H => by
  obtain ⟨b, κ, g1, g2, g3, g4, g5, d2⟩ := frz_state d hz hcs M s hM hr
  obtain ⟨vs, e1, e2⟩ := zen_frame g5 g1 hts (hn b κ) (hs b κ)
  refine j b κ _ addF_sub g3 (fun i n c e => ?_) vs e1 _ _ a w Q d2 (relF_frL e2 (by have := hts.le; have := hn b κ; omega) (by obtain ⟨xs, _, rfl⟩ := e1; rw [fillL_length]; exact Nat.le_refl _)) hd fun f2 N2 e ts' h' μ' a' w' k q => H f2 N2 e ts' h' μ' a' w' k (postX_frz g2 g4 q)
  have hi := hts.at' i
  rw [e] at hi
  generalize a.tmps.getD i undef = v at hi
  cases hi with
  | ground hg => simp [gr] at hg
  | sliceO hm' hn' => rw [g1] at hm'; cases hm'; exact hn'
theorem LJX.frz (z : Nat) {t : TypeId} {cs : List Value} {fam : Nat} (hz : h.tr.get z = some (.row t cs fam)) (hcs : cs.all (gr 6) = true) (L : Nat → Nat → List (Option Value)) (M : List (TypeId × List Value)) (s : List Nat) (hM : M.length = s.length) (hr : RowsOk (rhoOf 0 s) h M 0 [fam]) (hn : ∀ b κ, ts.n = (L b κ).length) (hs : ∀ b κ, AllZ (rhoOf 0 s) z b κ ts 0 (L b κ))
    (j : ∀ b κ f', subF f f' → (∀ i v, cs[i]? = some v → f' b i = some v) → (∀ i n c, ts.get i = .slice (some ⟨z, 0, some 1⟩) n c → n ≤ κ) → ∀ vs, MatchL (L b κ) vs → LJX P c f' (frL (L b κ).length vs) (memSH M sh0) K) : LJX P c f ts h K := fun N μ a w Q d hts hd H => by
  obtain ⟨b, κ, g1, g2, g3, g4, g5, d2⟩ := frz_state d hz hcs M s hM hr
  obtain ⟨vs, e1, e2⟩ := zen_frame g5 g1 hts (hn b κ) (hs b κ)
  refine j b κ _ addF_sub g3 (fun i n c e => ?_) vs e1 _ _ a w Q d2 (relF_frL e2 (by have := hts.le; have := hn b κ; omega) (by obtain ⟨xs, _, rfl⟩ := e1; rw [fillL_length]; exact Nat.le_refl _)) hd fun f2 N2 e ts' h' μ' a' w' k q => H f2 N2 e ts' h' μ' a' w' k (postX_frz g2 g4 q)
  have hi := hts.at' i
  rw [e] at hi
  generalize a.tmps.getD i undef = v at hi
  cases hi with
  | ground hg => simp [gr] at hg
  | sliceO hm' hn' => rw [g1] at hm'; cases hm'; exact hn'
end
end Go.Proofs.Ytpaabfecoghibaa

/- Contracts of functions whose results are read where they were laid down; calls of them. Over any program. Conditions: as each law says. -/
namespace Go.Proofs.Ytpaabfecoghibaa
open Go Go.RowKit
set_option linter.unusedSimpArgs false
set_option linter.unusedVariables false
def ResX (P : Program) (f : RF) (R : RF → Value → Prop) (w : World) (e : Ending) (w' : World) : Prop :=
  ∃ (f' : RF) (v v' : Value), e = .returned v' ∧ Below w.heap.size w w' ∧ Rel mu0 v v' ∧ gE 6 v = true ∧ subF f f' ∧ Reads f' w' ∧ (∀ b, GB (glF f') b → GB (glF f) b ∨ w.heap.size ≤ b) ∧ R f' v
/-- **A contract** of what is read behind a call. -/
def FnX (P : Program) (f : RF) (g : FuncId) (args : List Value) (R : RF → Value → Prop) : Prop :=
  (∀ (args' : Array Value) (W : World), (callFunc g args').run P W = .ok (.enter g args') W) ∧ ∀ w, Reads f w → ∀ args' : List Value, RelL mu0 args args' → CallsIn Fence.wide 0 P g ⟨args'⟩ w (ResX P f R w)
/-- How a function's code ends. -/
def EndX (P : Program) (g : FuncId) (R : RF → Value → Prop) : KX := fun f e ts h => notExit e ∧ ∃ (v : Value), sResults P (glF f) h (finfo P g).res ts = some v ∧ gE 6 v = true ∧ R f v
theorem fn_JX {P : Program} {f : RF} {g : FuncId} {args : List Value} {R : RF → Value → Prop} (hg : args.all (gE 6) = true) (hok : ((finfo P g).ok && Nat.ble args.length (finfo P g).n) = true)
    (j : JX P (finfo P g).body f (frL (finfo P g).n args) sh0 (EndX P g R)) : FnX P f g args R := by
  rw [Bool.and_eq_true] at hok
  obtain ⟨hok, hle⟩ := hok
  have hle := Nat.le_of_ble_eq_true hle
  obtain ⟨fn, c, f0, a0, hfn, hb, hp, hn, hfi⟩ : ∃ fn c f0 a0, P.funcs[g]? = some fn ∧ fn.body = some c ∧ pureOut P (callFunc g #[]) = some (.enter f0 a0) ∧ fn.ntmps ≤ 512 ∧ finfo P g = ⟨Nat.ble fn.ntmps 512, fn.ntmps, c, fn.results.toList⟩ := by
    cases hfn : P.funcs[g]? with
    | none => simp [finfo, hfn] at hok
    | some fn =>
      cases hb : fn.body with
      | none => simp [finfo, hfn, hb] at hok
      | some c =>
        cases hp : pureOut P (callFunc g #[]) with
        | none => simp [finfo, hfn, hb, hp] at hok
        | some y =>
          cases y with
          | enter f0 a0 =>
            have hfi : finfo P g = ⟨Nat.ble fn.ntmps 512, fn.ntmps, c, fn.results.toList⟩ := by simp [finfo, hfn, hb, hp]
            rw [hfi] at hok
            exact ⟨fn, c, f0, a0, rfl, hb, rfl, Nat.le_of_ble_eq_true hok, hfi⟩
          | _ => simp [finfo, hfn, hb, hp] at hok
  have hent := ent_of_ok (P := P) (g := g) hok
  have j : JX P (finfo P g).body f (frL (finfo P g).n args) sh0 (fun f e ts h => notExit e ∧ ∃ (v : Value), sResults P (glF f) h (finfo P g).res ts = some v ∧ gE 6 v = true ∧ R f v) := j
  rw [hfi] at j hle
  simp only at j hle
  refine ⟨hent, fun w hw args' ha => ?_⟩
  refine callsIn_of_wp_marks hfn hb trivial ?_
  have ha : RelL mu0 args (⟨args'⟩ : Array Value).toList := ha
  have hsz : (⟨args'⟩ : Array Value).size = args.length := ha.length
  refine j _ _ _ w _ (den_start P hw) (relF_frL (by rw [hsz]; exact RelF.of ha hn hle) hn hle) rfl fun f' N' ex ts h' μ' a' w' hk p hts hds => ?_
  obtain ⟨hex, v, hres, hv0, hR⟩ := hk
  have key : LeavesInM Fence.wide 0 P fn a'.tmps (ResX P f R w) a'.defers .returning w' := by
    refine shut_ok (frz := []) [] h' h' _ w' rfl p.den hds fun w2 p2 => ?_
    obtain ⟨v', hv1, hv⟩ := sResults_ok gl_nil p2.den hts hres
    exact ⟨v', hv1, f', v, v', rfl, (p.bel.trans (p2.bel.leX p.lim)).low, hv.reE 6 hv0, hv0, p.sub, p2.den.glob.2.2, fun b hb => (p.new b hb).imp id (fun q => q.1), hR⟩
  cases ex with
  | normal => exact key
  | exit id => exact hex.elim
  | ret => exact key
theorem FnX.toR {P : Program} {f : RF} {g : FuncId} {args : List Value} {rv : Value} (n : FnX P f g args (fun _ v => v = rv)) : FnR P f g args ⟨rv, []⟩ :=
  ⟨n.1, fun w hw args' ha => (n.2 w hw args' ha).mono (by
    rintro e w' ⟨f', v, v', rfl, hb, hv, _, _, _, _, rfl⟩
    exact ⟨mu0, v', rfl, hb, hv, Den.mk (by exact ⟨hb.size, fun k hk => (List.not_mem_nil hk).elim⟩) (by intro j sb hj; cases hj) (by intro j _; rfl) (by intro j _; rfl) (by intro i j si sj b κ κ' hi; cases hi)
      (by intro j t cs f hj; cases hj) (by intro j t cs f hj; cases hj) (by intro f _; rfl) gl0_glob⟩)⟩
/-- Operations one behind the other, and others behind them. -/
def SeqP (P : Program) (G : Gl) (frz : List Nat) (ops : Array Oper) (l l2 : List Nat) (ts : Fr) (h : SH) (ts' : Fr) (h' : SH) : Prop :=
  ∀ (N : Lim) (μ : Mu) (w : World) (a : Act) (ro' : Option Nat) (Q : Exit → Act → World → Prop), Den P N G μ h w → RelF μ ts a.tmps →
    (∀ μ' a' w', Post P N G μ frz w h' μ' w' → RelF μ' ts' a'.tmps → a'.defers = a.defers → wpOpsIn (FR ro') 0 P ops Q l2 a' w') → wpOpsIn (FR ro') 0 P ops Q (l ++ l2) a w
theorem seqW_pre [Orc] {P : Program} [OrcOk P] {G : Gl} {frz : List Nat} (hG : G.l.all (fun x => x.2.1.toList.all (gr 6)) = true) {rc : Rec} (hrc : Right P G rc) {ops : Array Oper} {k : KF} {r : Value} (l2 : List Nat) : ∀ (os : List Oper) (i : Nat), (∀ j o, os[j]? = some o → ops[i + j]? = some o) → ∀ (ts : Fr) (h : SH), (seqW P G ops os).run rc frz ts h k = some r →
    ∃ ts' h', k ts' h' = some r ∧ SeqP P G frz ops (List.range' i os.length) l2 ts h ts' h'
  | [], i, _, ts, h, e => ⟨ts, h, e, fun N μ w a ro' Q d hts K => K μ a w (Post.refl d) hts rfl⟩
  | o :: os, i, hd, ts, h, e => by
    have ho : ops[i]? = some o := hd 0 o rfl
    have hd' : ∀ j o, os[j]? = some o → ops[i + 1 + j]? = some o := fun j o' hj => by
      have := hd (j + 1) o' (by simpa using hj)
      rw [show i + 1 + j = i + (j + 1) from by omega]; exact this
    have e : (joinW (guardK ops o) o.dst (opW P G o) (seqW P G ops os)).run rc frz ts h k = some r := e
    have yes : ∀ (_ : Region.wanted o (yieldedS ops ts) = true), (opW P G o).run rc frz ts h (fun ts' h' => (seqW P G ops os).run rc frz ts' h' k) = some r → ∃ ts' h', k ts' h' = some r ∧ SeqP P G frz ops (List.range' i (o :: os).length) l2 ts h ts' h' := fun hw e => by
      obtain ⟨hnd, ts1, h1, hk, hst⟩ := opW_ok hG hrc e
      obtain ⟨ts', h', hk', hsq⟩ := seqW_pre hG hrc l2 os (i + 1) hd' ts1 h1 hk
      refine ⟨ts', h', hk', fun N μ w a ro' Q d hts K => ?_⟩
      rw [List.length_cons, List.range'_succ, List.cons_append]
      unfold wpOpsIn
      rw [yielded_rel hts] at hw
      simp only [ho, hw, if_true]
      refine ⟨fun f _ => FR_fn ro' f, ?_⟩
      rw [Oper.semAt_eq _ _ _ (notDefer_spec hnd)]
      refine hst.2 N μ w a ro' d hts _ Q fun μ1 a1 w1 p1 hts1 hput _ => ?_
      have hd1 : a1.defers = a.defers := by obtain ⟨v', rfl⟩ := hput; exact put_defers' _ _ _
      exact hsq N μ1 w1 a1 ro' Q p1.den hts1 fun μ' a' w' p h1 h2 => K μ' a' w' (p1.trans p) h1 (h2.trans hd1)
    have no : ∀ (_ : Region.wanted o (yieldedS ops ts) = false), (dstC o.dst ts undef fun ts => (seqW P G ops os).run rc frz ts h k) = some r → ∃ ts' h', k ts' h' = some r ∧ SeqP P G frz ops (List.range' i (o :: os).length) l2 ts h ts' h' := fun hw e => by
      rw [dstC_eq] at e
      obtain ⟨ts', h', hk', hsq⟩ := seqW_pre hG hrc l2 os (i + 1) hd' _ h e
      rw [dstK_run] at hsq
      refine ⟨ts', h', hk', fun N μ w a ro' Q d hts K => ?_⟩
      rw [List.length_cons, List.range'_succ, List.cons_append]
      unfold wpOpsIn
      rw [yielded_rel hts] at hw
      simp only [ho, hw, Bool.false_eq_true, if_false]
      exact ⟨fun f _ => FR_fn ro' f, hsq N μ w _ ro' Q d (put_rel hts (.ground rfl) _) fun μ' a' w' p h1 h2 => K μ' a' w' p h1 (h2.trans (put_defers' _ _ _))⟩
    rcases guardK_ok (ops := ops) (o := o) ts with ⟨hg, hw⟩ | ⟨b, hg, hb⟩
    · rw [hg] at e
      exact yes hw e
    · rw [hg] at e
      have e : cond (b.run ts) ((opW P G o).run rc frz ts h (fun ts' h' => (seqW P G ops os).run rc frz ts' h' k)) (dstC o.dst ts undef fun ts => (seqW P G ops os).run rc frz ts h k) = some r := e
      cases hw : Region.wanted o (yieldedS ops ts) with
      | true => rw [hb, hw, cond_true] at e; exact yes hw e
      | false => rw [hb, hw, cond_false] at e; exact no hw e
end Go.Proofs.Ytpaabfecoghibaa

/- Calls whose results are read where they were laid down. Over any program. Conditions: as each law says. -/
namespace Go.Proofs.Ytpaabfecoghibaa
open Go Go.RowKit
set_option linter.unusedSimpArgs false
set_option linter.unusedVariables false
section
variable {P : Program} {f : RF} {ts : Fr} {h : SH} {K : KX}
/-- What follows a call. -/
def MidK (P : Program) (f : RF) (ops : Array Oper) (post : List Oper) (c : Call) (gx : FuncId) (dst : Option Tmp) (K : KX) (ts1 : Fr) (h1 : SH) : Prop := ∃ (args : List Value) (R : RF → Value → Prop), argsW c.args.toList ts1 = args ∧ args.all (gE 6) = true ∧ FnX P f gx args R ∧
  ∀ f' v, subF f f' → gE 6 v = true → R f' v → ∀ z, (@seqW (orcS z) P (glF f') ops post).run (rcI P f') [] (putS ts1 dst v) h1 (fun ts2 h2 => kI (K f' .normal ts2 h2)) = some (.bool true)
theorem den_called {N : Lim} {μ : Mu} {w w2 : World} (d : Den P N (glF f) μ h w) (hb : Below w.heap.size w w2) {f' : RF} (hrd : Reads f' w2) (hnew : ∀ b, GB (glF f') b → GB (glF f) b ∨ w.heap.size ≤ b) :
    Den P ⟨N.n, List.range' w.heap.size (w2.heap.size - w.heap.size) ++ N.x⟩ (glF f') μ h w2 := by
  refine (d.below hb).more _ (fun b hbm => ?_) (fun j sb b' κ' hj hm hbm => ?_) (fun b hbG => ?_) hrd
  · rw [List.mem_range'_1] at hbm; omega
  · obtain ⟨b0, κ0, q1, _, q3⟩ := (d.blk j sb hj).at
    rw [hm] at q1; cases q1
    rw [List.mem_range'_1] at hbm; omega
  · rcases hnew b hbG with q | q
    · exact .inl q
    · refine .inr ?_
      rw [List.mem_range'_1]
      have := reads_lt hrd b hbG
      omega
/-- **A call** in a region whose order stands. -/
theorem JX.regcall {id : Nat} {ops : Array Oper} (pre post : List Oper) (o : Oper) {c : Call} {gx : FuncId} (hops : ops.toList = pre ++ o :: post) (ho : o.op = .call c) (hcal : c.callee = .value (.func gx)) (hgd : o.guard = none) (ha : c.args.toList.all constOk = true)
    (e : ∀ z, (@seqW (orcS z) P (glF f) ops pre).run (rcI P f) [] ts h (fun ts1 h1 => kI (MidK P f ops post c gx o.dst K ts1 h1)) = some (.bool true)) : JX P (.region id ops false) f ts h K := fun N μ a w Q d hts hd H => by
  letI : Orc := orcS 0
  haveI : OrcOk P := orcS_ok
  have hget : ∀ i : Nat, ops[i]? = (pre ++ o :: post)[i]? := fun i => by rw [← hops, Array.getElem?_toList]
  obtain ⟨ts1, h1, hk, hsq⟩ := seqW_pre (G := glF f) gl_nil rcI_right (List.range' pre.length (post.length + 1)) pre 0 (fun j o' hj => by
    rw [Nat.zero_add, hget, List.getElem?_append_left (List.getElem?_eq_some_iff.1 hj).1]; exact hj) ts h (e 0)
  obtain ⟨args, R, rfl, hargs, hX, hpost⟩ := kI_some hk
  refine wpIn_region ?_
  have hsz : ops.size = pre.length + (post.length + 1) := by rw [← Array.length_toList, hops]; simp
  rw [show List.range ops.size = List.range' 0 pre.length ++ List.range' pre.length (post.length + 1) from by
    rw [hsz, List.range_eq_range', ← List.range'_append_1, Nat.zero_add]]
  refine hsq N μ w a none Q d hts fun μ1 a1 w1 p1 hts1 hd1 => ?_
  rw [List.range'_succ]
  unfold wpOpsIn
  have ho' : ops[pre.length]? = some o := by rw [hget, List.getElem?_append_right (Nat.le_refl _), Nat.sub_self]; rfl
  have hw : Region.wanted o (yielded ops a1.tmps) = true := by simp [Region.wanted, hgd]
  simp only [ho', hw, if_true]
  refine ⟨fun f _ => FR_fn none f, ?_⟩
  rw [Oper.semAt_eq _ _ _ (fun c' hc' => by rw [ho] at hc'; cases hc')]
  have hr : (execOp a1.eval o).run P w1 = .ok (.enter gx (c.args.map a1.eval)) w1 := by
    have h0 := hX.1 (c.args.map a1.eval) w1
    have hp : a1.eval (.func gx) = .func (.func gx) #[] #[] := rfl
    simp only [execOp, ho, resolve, hcal, hp, Deferred.ofValue, pure_bind, invoke, Array.append_empty, Array.empty_append]
    exact h0
  rw [hr, Oper.uponIn_enter]
  refine ⟨FR_lone, FR_calls (CallsIn.mono (hX.2 w1 p1.den.glob.2.2 (c.args.map a1.eval).toList ((args_opnd hts1 ha).reE 6 hargs)) ?_)⟩
  rintro e w2 ⟨f', v, v', rfl, hb, hv, hvg, hsub, hrd, hnew, hR⟩
  have d2 := den_called p1.den hb hrd hnew
  obtain ⟨ts2, h2, hk2, hsq2⟩ := seqW_pre (G := glF f') gl_nil rcI_right [] post (pre.length + 1) (fun j o' hj => by
    rw [hget, List.getElem?_append_right (by omega), show pre.length + 1 + j - pre.length = j + 1 from by omega]; simpa using hj) (putS ts1 o.dst v) h1 (hpost f' v hsub hvg hR 0)
  have := hsq2 _ μ1 w2 (a1.put o.dst v') none Q d2 (put_rel hts1 (hv.mono (fun _ _ e => by cases e)) o.dst) fun μ' a' w' p h1' h2' => by
    have hl : N.leX ⟨N.n, List.range' w1.heap.size (w2.heap.size - w1.heap.size) ++ N.x⟩ := ⟨rfl, fun x hx => List.mem_append.2 (.inr hx)⟩
    show Q .normal a' w'
    refine H f' _ .normal ts2 h2 μ' a' w' (kI_some hk2) ⟨hsub, hl, p.den, (p1.bel.trans ⟨hb.mono p1.den.base.1, fun k hk => hb.block _ (p1.den.base.2 k hk)⟩).trans (p.bel.leX hl), fun b hbG => ?_⟩ h1' (h2'.trans ((put_defers' _ _ _).trans (hd1.trans hd)))
    rcases hnew b hbG with q | q
    · exact .inl q
    · exact .inr ⟨Nat.le_trans p1.den.base.1 q, fun hm => Nat.lt_irrefl _ (Nat.lt_of_lt_of_le (p1.den.base.2 b hm) q)⟩
  rw [List.append_nil] at this
  exact this
end
end Go.Proofs.Ytpaabfecoghibaa

/- Slots where a row is laid down, by themselves. Over any program. Conditions: as each law says. -/
namespace Go.Proofs.Ytpaabfecoghibaa
open Go Go.RowKit
set_option linter.unusedSimpArgs false
set_option linter.unusedVariables false
theorem by_az {P : Prop} (h : P := by (repeat (first | exact AllZ.nil | refine AllZ.no (by (conv => arg 1; whnf); first | exact Or.inl (gx _) | exact junk_b rfl | exact Or.inl by_g) ?_ | refine AllZ.so (by (conv => arg 6; whnf); first | exact SimZ.frz (by first | rfl | omega) | exact SimZ.sim (SimV.int (by first | rfl | omega)) | exact SimZ.sim (SimV.bool (by first | rfl | assumption)) | exact SimZ.sim (SimV.slice rfl rfl (by first | rfl | omega) (by first | rfl | omega)) | exact SimZ.sim (SimV.ptr rfl rfl) | exact SimZ.sim (SimV.ground rfl) | exact SimZ.sim (SimV.ground by_g) | exact SimZ.sim (SimV.func .nil .nil)) ?_))) : P := h
end Go.Proofs.Ytpaabfecoghibaa
