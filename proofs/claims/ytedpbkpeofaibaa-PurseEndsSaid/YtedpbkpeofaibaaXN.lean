/- Code reckoned on the shadow is right: operations, rounds. Over any program. Conditions: as each law says. -/
import Derived.Test.YtedpbkpeofaibaaXM
namespace Go.Proofs.Ytedpbkpeofaibaa
open Go Go.RowKit
set_option linter.unusedSimpArgs false
set_option linter.unusedVariables false
section
variable {P : Program} {N : Lim} {G : Gl} {μ : Mu} {h : SH} {w : World} {frz : List Nat}
theorem func_rel {f : FuncId} {fi cs : Array Value} {p : Value} (h : Rel μ (.func (.func f) fi cs) p) : ∃ fi' cs', p = .func (.func f) fi' cs' ∧ RelL μ fi.toList fi'.toList ∧ RelL μ cs.toList cs'.toList := by
  cases h with
  | ground hg =>
    have hg : fi.toList.all (gr 5) = true ∧ cs.toList.all (gr 5) = true := by simpa only [gr, Bool.and_eq_true] using hg
    exact ⟨fi, cs, rfl, RelL.refl (List.all_eq_true.2 fun x hx => gr_mono 5 x (List.all_eq_true.1 hg.1 x hx)), RelL.refl (List.all_eq_true.2 fun x hx => gr_mono 5 x (List.all_eq_true.1 hg.2 x hx))⟩
  | func h1 h2 => exact ⟨_, _, rfl, h1, h2⟩
theorem yield_rel {l : Nat} {fi cs : Array Value} {p : Value} (h : Rel μ (.func (.yield l) fi cs) p) : ∃ b κ, p = .func (.yield b) #[] #[] ∧ μ l = some (b, κ) := by
  cases h with
  | ground hg => simp [gr] at hg
  | yield h1 => exact ⟨_, _, rfl, h1⟩
theorem iface_rel {t : TypeId} {v p : Value} (h : Rel μ (.iface t v) p) : ∃ v', p = .iface t v' ∧ Rel μ v v' := by
  cases h with
  | ground hg => exact ⟨v, rfl, .ground (gr_mono 5 v (by simpa only [gr] using hg))⟩
  | iface h1 => exact ⟨_, rfl, h1⟩
theorem put_rel {ts : Fr} {a : Act} {v v' : Value} (hts : RelF μ ts a.tmps) (hv : Rel μ v v') (dst : Option Tmp) : RelF μ (putS ts dst v) (a.put dst v').tmps := by
  cases dst with
  | none => exact hts
  | some d => exact hts.set hv d
theorem put_defers' (a : Act) (dst : Option Tmp) (v : Value) : (a.put dst v).defers = a.defers := by cases dst <;> rfl
theorem boolOf_rel {v v' : Value} (h : Rel μ v v') : boolOf v = boolOf v' := by
  cases h <;> rfl
theorem yielded_rel {ops : Array Oper} {ts : Fr} {a : Act} (hts : RelF μ ts a.tmps) : yieldedS ops ts = yielded ops a.tmps := by
  funext j
  unfold yieldedS yielded
  cases ops[j]? with
  | none => rfl
  | some o =>
    cases hd : o.dst with
    | none => simp [hd]
    | some d =>
      simp only [hd, Option.bind_some]
      rw [boolOf_rel (hts.at' d), Array.getD_eq_getD_getElem?]
      cases ht : a.tmps[d]? with
      | none => rfl
      | some v => cases v <;> rfl
theorem zipset_rel : ∀ (ps : List Tmp) {args args' : List Value} (_ : RelL μ args args') {ts : Fr} {tmps : Array Value} (_ : RelF μ ts tmps),
    RelF μ ((ps.zip args).foldl (fun t x => t.set x.1 x.2) ts) ((ps.zip args').foldl (fun tmps x => tmps.setIfInBounds x.1 x.2) tmps)
  | [], _, _, _, _, _, h => by simpa using h
  | p :: ps, _, _, .nil, _, _, h => by simpa using h
  | p :: ps, _, _, .cons hv hl, ts, tmps, h => by
    simp only [List.zip_cons_cons, List.foldl_cons]
    exact zipset_rel ps hl (h.set hv p)
/-- A loop's record is changed. -/
theorem put_loop (d : Den P N G μ h w) {l : Nat} {r r2 : Loop} {tl : Fr} (hg : h.tr.get l = some (.loop r tl)) (hf : frzOk h frz (2 * l + 1) = true) {b κ : Nat} (hb : μ l = some (b, κ))
    (hr : r2.defers = r.defers) (fn : Nat) (tmps : Array Value) (dd : Nat) (hw : w.heap[b]? = some (.loop { r with fn := fn, tmps := tmps, defers := dd })) (o : Obj) (ho : o = .loop { r2 with fn := fn, tmps := tmps, defers := dd }) :
    Post P N G μ frz w (h.put l (.loop r2 tl)) μ (w.putObj b o) := by
  obtain ⟨b0, κ0, fn0, ts0, d0, κd, h1, h2, h3, h4, h5⟩ := d.blk l _ hg
  rw [hb] at h1; cases h1
  rw [hw] at h4
  have h4 : Loop.mk r.state r.pending fn tmps r.params r.assign r.body dd = Loop.mk r.state r.pending fn0 ts0 r.params r.assign r.body d0 := by
    have := Option.some.inj h4; exact Obj.loop.inj this
  obtain ⟨rfl, rfl, rfl⟩ : fn = fn0 ∧ tmps = ts0 ∧ dd = d0 := by cases h4; exact ⟨rfl, rfl, rfl⟩
  have hlt := (Array.getElem?_eq_some_iff.1 hw).1
  refine ⟨Mu.le_refl _, d.put (sb' := .loop r2 tl) hg rfl (by simp) (fun b' κ' hb' k hk => ?_) ?_, below_putObj h2 w o, keep_putObj d hg hf hb o⟩
  · rw [hb] at hb'; cases hb'
    exact World.putObj_heap_other hk
  · exact ⟨b, κ, fn, tmps, dd, κd, hb, h2, by rw [hr]; exact h3, by rw [World.putObj_heap_same hlt, ho], h5⟩
/-- A round comes to a value. -/
def RoundR (P : Program) (G : Gl) (frz : List Nat) (l : Nat) (args : List Value) (h : SH) (v : Value) (h' : SH) : Prop :=
  ∀ (N : Lim) (μ : Mu) (w : World) (b κ : Nat) (args' : Array Value) (ro' : Option Nat), Den P N G μ h w → μ l = some (b, κ) → RelL μ args args'.toList →
    ∃ f tmps assign body, (Instr.yield b args').run P w = .ok (.round b f tmps assign body) w ∧ RoundIn (FR ro') 0 P b f tmps assign body w (CallP P N G μ frz w h' v)
/-- A round. -/
theorem roundF_ok {rc : Rec} (hrc : Right P G rc) {l : Nat} {args : List Value} {k : KV} {x : Value} (e : roundF rc frz l args h k = some x) :
    ∃ v h', k v h' = some x ∧ RoundR P G frz l args h v h' := by
  unfold roundF at e
  split at e
  · rename_i r tl hg
    cases hs : Nat.beq args.length r.params.size with
    | false => simp [hs] at e
    | true =>
      simp only [hs, cond_true] at e
      have hs := Nat.eq_of_beq_eq_true hs
      obtain ⟨e1, ts1, ds1, h1, hk1, c1⟩ := hrc _ _ _ _ _ _ _ _ e
      unfold roundMid at hk1
      split at hk1
      · split at hk1
        · rename_i r1 tl1 hg1
          cases hc1 : (isReady r1.state && frzOk h1 frz (2 * l + 1)) with
          | false => simp [hc1] at hk1
          | true =>
            simp only [hc1, cond_true] at hk1
            rw [Bool.and_eq_true] at hc1
            obtain ⟨ex, tsx, dsx, h3', hk3, c3⟩ := hrc _ _ _ _ _ _ _ _ hk1
            unfold roundEnd at hk3
            split at hk3
            · split at hk3
              · rename_i r3 tl3 hg3
                cases hc3 : frzOk h3' frz (2 * l + 1) with
                | false => simp [hc3] at hk3
                | true =>
                  simp only [hc3, cond_true] at hk3
                  refine ⟨_, _, hk3, fun N μ w b κ args' ro' d hb ha => ?_⟩
                  obtain ⟨b0, κ0, fn, tmps, dd, κd, i1, i2, i3, i4, i5⟩ := d.blk l _ hg
                  rw [hb] at i1; cases i1
                  have hlen := ha.length
                  simp only [Array.length_toList] at hlen
                  refine ⟨_, _, _, _, run_yield i4 (by show args'.size = r.params.size; omega), roundIn_of_wpIn (FR_fn _ _) ?_⟩
                  rw [FR_in]
                  have hst : r1.state = .ready := by
                    have := hc1.1
                    cases hq : r1.state <;> simp_all [isReady]
                  refine c1 N μ (some b) _ w _ d ?_ rfl ⟨κ, hb⟩ fun μ1 a1 w1 p1 hts1 hds1 => ?_
                  · have := zipset_rel r.params.toList ha i5
                    rw [← Array.foldl_toList, Array.toList_zip]
                    exact this
                  · have hb1 := p1.le _ _ hb
                    obtain ⟨b0, κ0, fn1, tmps1, dd1, κd1, i1, i2, i3, i4, i5⟩ := p1.den.blk l _ hg1
                    rw [hb1] at i1; cases i1
                    refine ⟨_, run_beginRound i4 hst, ?_⟩
                    have q1 := put_loop (frz := frz) p1.den hg1 hc1.2 hb1 (r2 := { r1 with state := .busy }) rfl fn1 tmps1 dd1 i4 (.loop { state := .busy, pending := r1.pending, fn := fn1, tmps := tmps1, params := r1.params, assign := r1.assign, body := r1.body, defers := dd1 }) rfl
                    have p2 := p1.trans q1
                    have hds1 : a1.defers = [] := hds1
                    refine c3 N μ1 (some b) a1 _ _ q1.den hts1 (by rw [hds1]; rfl) ⟨κ, hb1⟩ fun μ3 a3 w3 p3 hts3 hds3 => ?_
                    have p4 := p2.trans p3
                    have hb3 := p4.le _ _ hb
                    obtain ⟨b0, κ0, fn3, tmps3, dd3, κd3, j1, j2, j3, j4, j5⟩ := p4.den.blk l _ hg3
                    rw [hb3] at j1; cases j1
                    have fin : ∀ jump : Option Code, jump = ex.jump → ∃ v w', (Instr.endRound b jump).run P w3 = .ok v w' ∧ CallP P N G μ frz w (h3'.put l (.loop { r3 with state := cond ex.jump.isNone .ready .done, pending := ex.jump } tl3)) (.bool ex.jump.isNone) (.returned v) w' := by
                      rintro jump rfl
                      refine ⟨_, _, run_endRound _ j4, μ3, _, rfl, p4.trans (put_loop (r2 := { r3 with state := cond ex.jump.isNone .ready .done, pending := ex.jump }) p4.den hg3 hc3 hb3 rfl fn3 tmps3 dd3 j4 _ ?_), .ground rfl⟩
                      cases ex.jump <;> rfl
                    cases ex with
                    | normal => exact fin none rfl
                    | exit id => exact fin (some (.exit id)) rfl
                    | ret => exact fin (some .ret) rfl
              · cases hk3
            · cases hk3
        · cases hk1
      · cases hk1
  · cases e
end
end Go.Proofs.Ytedpbkpeofaibaa
