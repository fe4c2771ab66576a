/- Code reckoned on the shadow is right: what is owed, how a call ends. Over any program. Conditions: as each law says. -/
import Derived.Test.YtpaabfecoghibaaK6
import Derived.RangeFuncRecord
import Derived.RangeFuncNested
namespace Go.Proofs.Ytpaabfecoghibaa
open Go Go.RowKit
set_option linter.unusedSimpArgs false
set_option linter.unusedVariables false
/-- The fence of a frame that is in a round, or in none. -/
def FR : Option Nat → Fence
  | none => Fence.wide
  | some b => Fence.wide.inRound b
theorem FR_fn (ro : Option Nat) (f : FuncId) : (FR ro).fn f := by cases ro <;> trivial
theorem FR_depth (ro : Option Nat) : (FR ro).depth = none := by cases ro <;> rfl
theorem FR_round (ro : Option Nat) : (FR ro).round = ro := by cases ro <;> rfl
theorem FR_calls {ro : Option Nat} {n : Nat} {P : Program} {f : FuncId} {args : Array Value} {w : World} {R : Ending → World → Prop} (h : CallsIn Fence.wide n P f args w R) : CallsIn (FR ro) n P f args w R := by
  cases ro <;> exact h
theorem FR_in (ro : Option Nat) (l : Nat) : (FR ro).inRound l = FR (some l) := by cases ro <;> rfl
theorem FR_lone {ro : Option Nat} {n : Nat} (h : (FR ro).depth.isSome = true) : 1 ≤ n := by rw [FR_depth] at h; cases h
def DefR (μ : Mu) : List Nat → List Deferred → Prop
  | [], ds => ds = []
  | m :: ms, ds => ∃ b κ rest, ds = { target := .collected b, args := #[] } :: rest ∧ μ m = some (b, κ) ∧ DefR μ ms rest
theorem DefR.mono {μ ν : Mu} (hm : μ.le ν) : ∀ {ms : List Nat} {ds : List Deferred}, DefR μ ms ds → DefR ν ms ds
  | [], _, h => h
  | _ :: _, _, ⟨b, κ, rest, e, h, t⟩ => ⟨b, κ, rest, e, hm _ _ h, t.mono hm⟩
def RoR (μ : Mu) : Option Nat → Option Nat → Prop
  | none, none => True
  | some l, some b => ∃ κ, μ l = some (b, κ)
  | _, _ => False
theorem RoR.mono {μ ν : Mu} (hm : μ.le ν) {r r' : Option Nat} (h : RoR μ r r') : RoR ν r r' := by
  cases r <;> cases r' <;> first | exact h | (obtain ⟨κ, e⟩ := h; exact ⟨κ, hm _ _ e⟩)
section
variable {P : Program} {N : Lim} {G : Gl} {μ : Mu} {h : SH} {w : World} {frz : List Nat}
theorem Post.refl (d : Den P N G μ h w) : Post P N G μ frz w h μ w := ⟨Mu.le_refl _, d, Bel.refl N w, Keep.refl⟩
theorem Post.trans {h1 h2 : SH} {μ1 μ2 : Mu} {w1 w2 : World} (p : Post P N G μ frz w h1 μ1 w1) (q : Post P N G μ1 frz w1 h2 μ2 w2) : Post P N G μ frz w h2 μ2 w2 :=
  ⟨Mu.le_trans p.le q.le, q.den, p.bel.trans q.bel, p.kp.trans p.le q.kp⟩
/-- Code is reckoned rightly. -/
def CodeR (P : Program) (G : Gl) (ro : Option Nat) (frz : List Nat) (c : Code) (ts : Fr) (ds : List Nat) (h : SH) (e : SE) (ts' : Fr) (ds' : List Nat) (h' : SH) : Prop :=
  ∀ (N : Lim) (μ : Mu) (ro' : Option Nat) (a : Act) (w : World) (Q : Exit → Act → World → Prop), Den P N G μ h w → RelF μ ts a.tmps → DefR μ ds a.defers → RoR μ ro ro' →
    (∀ μ' a' w', Post P N G μ frz w h' μ' w' → RelF μ' ts' a'.tmps → DefR μ' ds' a'.defers → Q e.ex a' w') → c.wpIn (FR ro') 0 P Q a w
def Right (P : Program) (G : Gl) (rc : Rec) : Prop := ∀ (ro : Option Nat) (frz : List Nat) (c : Code) (ts : Fr) (ds : List Nat) (h : SH) (k : KE) (r : Value), rc ro frz c ts ds h k = some r →
  ∃ e ts' ds' h', k e ts' ds' h' = some r ∧ CodeR P G ro frz c ts ds h e ts' ds' h'
theorem Den.del (d : Den P N G μ h w) {j : Nat} (hj : h.tr.get j = some .mark) {b κ : Nat} (hb : μ j = some (b, κ)) (o : Obj) : Den P N G μ (h.del j) (w.putObj b o) := by
  obtain ⟨b0, κ0, hm0, hN0, hlt0⟩ := (d.blk j _ hj).at
  rw [hb] at hm0; cases hm0
  have hne : ∀ m sm, (h.del j).tr.get m = some sm → m ≠ j ∧ h.tr.get m = some sm := fun m sm hm => by
    simp only [SH.del_eq, Tr.get_set] at hm
    by_cases e : m = j
    · subst e; simp at hm
    · rw [if_neg e] at hm; exact ⟨e, hm⟩
  refine ⟨⟨by simpa using d.base.1, by simpa using d.base.2⟩, fun m sm hm => ?_, fun m hm => ?_, d.muOld, fun m n sm sn b1 κ1 κ2 hm hn => d.apart m n sm sn b1 κ1 κ2 (hne m sm hm).2 (hne n sn hn).2, fun m t cs f hm => d.kin m t cs f (hne m _ hm).2, fun m t cs f hm => d.famLt m t cs f (hne m _ hm).2, d.kinOld, ?_⟩
  · obtain ⟨h1, h2⟩ := hne m sm hm
    refine (d.blk m sm h2).keep (Mu.le_refl _) fun b1 κ1 hmb => World.putObj_heap_other fun e' => ?_
    subst e'
    refine d.apart m j sm .mark b1 κ1 κ h2 hj (fun e => ?_) hmb hb
    cases sm with
    | row t cs f => simp only [famOf] at e; omega
    | _ => simp only [famOf] at e; omega
  · simp only [SH.del_eq, Tr.get_set] at hm ⊢
    split
    · rfl
    · exact d.old m hm
  · exact ⟨d.glob.1, d.glob.2.keep fun b1 hb1 => World.putObj_heap_other (d.globNe hb1 hN0)⟩
theorem below_putObj {b : Nat} (hN : N.new b) (w : World) (o : Obj) : Bel N w (w.putObj b o) := ⟨⟨rfl, rfl, rfl, by simp, fun k hk => World.putObj_heap_other (by have := hN.1; omega)⟩, fun k hk => World.putObj_heap_other (fun e => hN.2 (by rw [← e]; exact hk))⟩
theorem keep_putObj (d : Den P N G μ h w) {j : Nat} {sb : SB} (hj : h.tr.get j = some sb) (hf : frzOk h frz (famOf j sb) = true) {b κ : Nat} (hb : μ j = some (b, κ)) (o : Obj) : Keep μ frz w (w.putObj b o) :=
  fun k hk b' κ' hm => World.putObj_heap_other (frz_apart d hj hf hb k hk b' κ' hm)
/-- The marks of a frame that leaves. -/
theorem shut_ok {fn : Func} {tmps : Array Value} {R : Ending → World → Prop} : ∀ (ms : List Nat) (h h2 : SH) (ds : List Deferred) (w : World), shutMarks frz ms h = some h2 → Den P N G μ h w → DefR μ ms ds →
    (∀ w2, Post P N G μ frz w h2 μ w2 → LeavesInM Fence.wide 0 P fn tmps R [] .returning w2) → LeavesInM Fence.wide 0 P fn tmps R ds .returning w
  | [], h, h2, ds, w, e, d, hd, K => by
    simp only [shutMarks, Option.some.injEq] at e
    subst e
    rw [show ds = [] from hd]
    exact K w (Post.refl d)
  | m :: ms, h, h2, ds, w, e, d, hd, K => by
    obtain ⟨b, κ, rest, rfl, hm, ht⟩ := hd
    simp only [shutMarks] at e
    split at e
    · rename_i hg
      cases hf : frzOk h frz (2 * m + 1) with
      | false => simp [hf] at e
      | true =>
        simp only [hf, cond_true] at e
        obtain ⟨b0, κ0, hm0, hN, hheap⟩ := d.blk m _ hg
        rw [hm] at hm0; cases hm0
        refine ⟨by simp, .inl ⟨b, _, rfl, run_takeDeferred hheap, ?_⟩⟩
        have p1 : Post P N G μ frz w (h.del m) μ (w.putObj b (.deferred none)) := ⟨Mu.le_refl _, d.del hg hm _, below_putObj hN w _, keep_putObj d hg hf hm _⟩
        exact shut_ok ms _ h2 rest _ e p1.den ht fun w2 p2 => K w2 (p1.trans p2)
    · cases e
def resOne (tmps : Array Value) : ResultVar → Sem Value
  | .tmp t => pure (tmps.getD t undef)
  | .cell a t => do loadVar t (← asAddr (tmps.getD a undef))
theorem getD_rel {ts : Fr} {tmps : Array Value} (h : RelF μ ts tmps) (t : Nat) : Rel μ (ts.get t) (tmps.getD t undef) := h.at' t
theorem sRes_ok (hG : G.l.all (fun x => x.2.1.toList.all (gr 6)) = true) (d : Den P N G μ h w) {ts : Fr} {tmps : Array Value} (hr : RelF μ ts tmps) : ∀ (rs : List ResultVar) (l : List Value), sRes P G h ts rs = some l →
    ∃ l', (rs.mapM (resOne tmps)).run P w = .ok l' w ∧ RelL μ l l'
  | [], l, e => by
    simp only [sRes, Option.some.injEq] at e
    subst e
    exact ⟨[], by simp, .nil⟩
  | .tmp t :: rs, l, e => by
    simp only [sRes] at e
    split at e
    · rename_i l0 h0
      cases e
      obtain ⟨l', h1, h2⟩ := sRes_ok hG d hr rs l0 h0
      refine ⟨tmps.getD t undef :: l', ?_, .cons (getD_rel hr t) h2⟩
      rw [List.mapM_cons]
      simp only [resOne, Sem.run_bind, Sem.run_pure, Result.andThen_ok, h1]
    · cases e
  | .cell a t :: rs, l, e => by
    simp only [sRes] at e
    split at e
    · rename_i v l0 hv h0
      cases e
      obtain ⟨l', h1, h2⟩ := sRes_ok hG d hr rs l0 h0
      have hp := getD_rel hr a
      have hs : Sees P N G μ h.tr.get w := ⟨d.blk, d.glob.2⟩
      obtain ⟨v', hv1, hv2⟩ := sLoad_ok hG hs hv hp
      refine ⟨v' :: l', ?_, .cons hv1 h2⟩
      have hrun := hv2 w Same.refl
      have hone : (resOne tmps (.cell a t)).run P w = .ok v' w := by
        rw [← hrun]
        unfold sLoad at hv
        split at hv
        · rename_i ad he
          rw [he] at hp
          obtain ⟨b, hb⟩ : ∃ b, tmps.getD a undef = .pointer (some b) := by
            generalize tmps.getD a undef = p at hp
            cases hp <;> exact ⟨_, rfl⟩
          simp only [resOne, Instr.loadAt, hb]
          rfl
        · cases hv
      rw [List.mapM_cons]
      simp only [Sem.run_bind, hone, Result.andThen_ok, h1, Sem.run_pure]
    · cases e
theorem sResults_ok (hG : G.l.all (fun x => x.2.1.toList.all (gr 6)) = true) (d : Den P N G μ h w) {fn : Func} {ts : Fr} {tmps : Array Value} (hr : RelF μ ts tmps) {v : Value} (e : sResults P G h fn.results.toList ts = some v) :
    ∃ v', (results fn tmps).run P w = .ok v' w ∧ Rel μ v v' := by
  have hres : ∀ l l', sRes P G h ts fn.results.toList = some l → (fn.results.toList.mapM (resOne tmps)).run P w = .ok l' w → (results fn tmps).run P w = .ok (if h : l'.toArray.size = 1 then l'.toArray[0] else .tuple l'.toArray) w := fun l l' _ h1 => by
    have : results fn tmps = (do
      let vs ← fn.results.mapM (resOne tmps)
      pure (if h : vs.size = 1 then vs[0] else .tuple vs)) := by
      unfold results
      congr 1
    rw [this, Array.mapM_eq_mapM_toList]
    simp only [Sem.run_bind, Sem.run_map, h1, Result.andThen_ok, Sem.run_pure]
  unfold sResults at e
  split at e
  · rename_i v0 h0
    cases e
    obtain ⟨l', h1, h2⟩ := sRes_ok hG d hr _ _ h0
    cases h2 with
    | cons h3 h4 => cases h4; exact ⟨_, hres _ _ h0 h1, by simpa using h3⟩
  · rename_i l hne h0
    cases e
    obtain ⟨l', h1, h2⟩ := sRes_ok hG d hr _ _ h0
    have hl : l'.length ≠ 1 := fun e1 => by
      rw [h2.length] at e1
      match l, e1, hne with
      | [x], _, hne => exact hne x rfl
    refine ⟨_, hres _ _ h0 h1, ?_⟩
    rw [dif_neg (by simpa using hl)]
    exact .tuple (by simpa using h2)
  · cases e
/-- A call, where the function's body is reckoned rightly. -/
theorem callF_okB (hG : G.l.all (fun x => x.2.1.toList.all (gr 6)) = true) {rc : Rec} {g : FuncId} (hrc : ∀ (ro : Option Nat) (ts : Fr) (ds : List Nat) (h : SH) (k : KE) (r : Value), rc ro frz (finfo P g).body ts ds h k = some r → ∃ e ts' ds' h', k e ts' ds' h' = some r ∧ CodeR P G ro frz (finfo P g).body ts ds h e ts' ds' h') {args : List Value} {k : KV} {r : Value} (e : callF P G rc frz (finfo P g) args h k = some r) :
    ∃ v h', k v h' = some r ∧ CallR P G frz g args h v h' := by
  unfold callF at e
  cases hc : ((finfo P g).ok && Nat.ble args.length (finfo P g).n) with
  | false => rw [hc] at e; cases e
  | true =>
    rw [hc, cond_true] at e
    rw [Bool.and_eq_true] at hc
    obtain ⟨hok, hle⟩ := hc
    have hle := Nat.le_of_ble_eq_true hle
    obtain ⟨fn, c, f0, a0, hfn, hb, hp, hn, hfi⟩ : ∃ fn c f0 a0, P.funcs[g]? = some fn ∧ fn.body = some c ∧ pureOut P (callFunc g #[]) = some (.enter f0 a0) ∧ fn.ntmps ≤ 512 ∧ finfo P g = ⟨Nat.ble fn.ntmps 512, fn.ntmps, c, fn.results.toList⟩ := by
      cases hfn : P.funcs[g]? with
      | none => simp [finfo, hfn] at hok
      | some fn =>
        cases hb : fn.body with
        | none => simp [finfo, hfn, hb] at hok
        | some c =>
          cases hp : pureOut P (callFunc g #[]) with
          | none => simp [finfo, hfn, hb, hp] at hok
          | some x =>
            cases x with
            | enter f0 a0 =>
              have hfi : finfo P g = ⟨Nat.ble fn.ntmps 512, fn.ntmps, c, fn.results.toList⟩ := by simp [finfo, hfn, hb, hp]
              rw [hfi] at hok
              exact ⟨fn, c, f0, a0, rfl, hb, rfl, Nat.le_of_ble_eq_true hok, hfi⟩
            | _ => simp [finfo, hfn, hb, hp] at hok
    have hent : ∀ (args' : Array Value) (W : World), (callFunc g args').run P W = .ok (.enter g args') W := fun args' W => by
      have := pureOut_run hp W
      simp only [callFunc, Sem.run_bind, run_program, Result.andThen_ok, hfn] at this ⊢
      by_cases hn : (fn.name == "runtime.NumGoroutine") = true
      · rw [if_pos hn] at this; simp at this
      · rw [if_neg hn, if_neg (by simp [hb])]; rfl
    rw [hfi] at e hle hrc
    simp only at e hle hrc
    obtain ⟨ex, ts, ds, h1, hk, hcr⟩ := hrc _ _ _ _ _ _ e
    have key : (ex.ex = .normal ∨ ex.ex = .ret) → endCall P G frz fn.results.toList ts ds h1 k = some r → ∃ v h', k v h' = some r ∧ CallR P G frz g args h v h' := by
      intro hex hk
      unfold endCall at hk
      split at hk
      · rename_i h2 hs
        split at hk
        · rename_i v hres
          refine ⟨v, h2, hk, hent, fun N μ w args' d ha => ?_⟩
          have hlen := ha.length
          simp only [Array.length_toList] at hlen
          refine callsIn_of_wp_marks hfn hb trivial ?_
          rw [show fn.ntmps - args'.size = fn.ntmps - args.length from by rw [hlen]]
          refine hcr N μ none _ w _ d (RelF.of ha hn hle) rfl trivial fun μ' a' w' p hts hds => ?_
          have hl : LeavesInM Fence.wide 0 P fn a'.tmps (CallP P N G μ frz w h2 v) a'.defers .returning w' := by
            refine shut_ok ds h1 _ _ w' hs p.den hds fun w2 p2 => ?_
            obtain ⟨v', hv1, hv2⟩ := sResults_ok hG p2.den hts hres
            exact ⟨v', hv1, μ', v', rfl, p.trans p2, hv2⟩
          rcases hex with h0 | h0 <;> rw [h0] <;> exact hl
        · cases hk
      · cases hk
    cases ex with
    | normal => exact key (.inl rfl) hk
    | exit id => cases hk
    | ret => exact key (.inr rfl) hk
/-- A call. -/
theorem callF_ok (hG : G.l.all (fun x => x.2.1.toList.all (gr 6)) = true) {rc : Rec} (hrc : Right P G rc) {g : FuncId} {args : List Value} {k : KV} {r : Value} (e : callF P G rc frz (finfo P g) args h k = some r) :
    ∃ v h', k v h' = some r ∧ CallR P G frz g args h v h' := callF_okB hG (fun _ _ _ _ _ _ e => hrc _ _ _ _ _ _ _ _ e) e
end
end Go.Proofs.Ytpaabfecoghibaa

/- Code reckoned on the shadow is right: operations, rounds. Over any program. Conditions: as each law says. -/
namespace Go.Proofs.Ytpaabfecoghibaa
open Go Go.RowKit
set_option linter.unusedSimpArgs false
set_option linter.unusedVariables false
section
variable {P : Program} {N : Lim} {G : Gl} {μ : Mu} {h : SH} {w : World} {frz : List Nat}
theorem func_rel {f : FuncId} {fi cs : Array Value} {p : Value} (h : Rel μ (.func (.func f) fi cs) p) : ∃ fi' cs', p = .func (.func f) fi' cs' ∧ RelL μ fi.toList fi'.toList ∧ RelL μ cs.toList cs'.toList := by
  cases h with
  | ground hg =>
    have hg : fi.toList.all (gr 5) = true ∧ cs.toList.all (gr 5) = true := by simpa only [gr, Bool.and_eq_true] using hg
    exact ⟨fi, cs, rfl, RelL.refl (List.all_eq_true.2 fun x hx => gr_mono 5 x (List.all_eq_true.1 hg.1 x hx)), RelL.refl (List.all_eq_true.2 fun x hx => gr_mono 5 x (List.all_eq_true.1 hg.2 x hx))⟩
  | func h1 h2 => exact ⟨_, _, rfl, h1, h2⟩
theorem yield_rel {l : Nat} {fi cs : Array Value} {p : Value} (h : Rel μ (.func (.yield l) fi cs) p) : ∃ b κ, p = .func (.yield b) #[] #[] ∧ μ l = some (b, κ) := by
  cases h with
  | ground hg => simp [gr] at hg
  | yield h1 => exact ⟨_, _, rfl, h1⟩
theorem iface_rel {t : TypeId} {v p : Value} (h : Rel μ (.iface t v) p) : ∃ v', p = .iface t v' ∧ Rel μ v v' := by
  cases h with
  | ground hg => exact ⟨v, rfl, .ground (gr_mono 5 v (by simpa only [gr] using hg))⟩
  | iface h1 => exact ⟨_, rfl, h1⟩
theorem put_rel {ts : Fr} {a : Act} {v v' : Value} (hts : RelF μ ts a.tmps) (hv : Rel μ v v') (dst : Option Tmp) : RelF μ (putS ts dst v) (a.put dst v').tmps := by
  cases dst with
  | none => exact hts
  | some d => exact hts.set hv d
theorem put_defers' (a : Act) (dst : Option Tmp) (v : Value) : (a.put dst v).defers = a.defers := by cases dst <;> rfl
theorem boolOf_rel {v v' : Value} (h : Rel μ v v') : boolOf v = boolOf v' := by
  cases h <;> rfl
theorem yielded_rel {ops : Array Oper} {ts : Fr} {a : Act} (hts : RelF μ ts a.tmps) : yieldedS ops ts = yielded ops a.tmps := by
  funext j
  unfold yieldedS yielded
  cases ops[j]? with
  | none => rfl
  | some o =>
    cases hd : o.dst with
    | none => simp [hd]
    | some d =>
      simp only [hd, Option.bind_some]
      rw [boolOf_rel (hts.at' d), Array.getD_eq_getD_getElem?]
      cases ht : a.tmps[d]? with
      | none => rfl
      | some v => cases v <;> rfl
theorem zipset_rel : ∀ (ps : List Tmp) {args args' : List Value} (_ : RelL μ args args') {ts : Fr} {tmps : Array Value} (_ : RelF μ ts tmps),
    RelF μ ((ps.zip args).foldl (fun t x => t.set x.1 x.2) ts) ((ps.zip args').foldl (fun tmps x => tmps.setIfInBounds x.1 x.2) tmps)
  | [], _, _, _, _, _, h => by simpa using h
  | p :: ps, _, _, .nil, _, _, h => by simpa using h
  | p :: ps, _, _, .cons hv hl, ts, tmps, h => by
    simp only [List.zip_cons_cons, List.foldl_cons]
    exact zipset_rel ps hl (h.set hv p)
/-- A loop's record is changed. -/
theorem put_loop (d : Den P N G μ h w) {l : Nat} {r r2 : Loop} {tl : Fr} (hg : h.tr.get l = some (.loop r tl)) (hf : frzOk h frz (2 * l + 1) = true) {b κ : Nat} (hb : μ l = some (b, κ))
    (hr : r2.defers = r.defers) (fn : Nat) (tmps : Array Value) (dd : Nat) (hw : w.heap[b]? = some (.loop { r with fn := fn, tmps := tmps, defers := dd })) (o : Obj) (ho : o = .loop { r2 with fn := fn, tmps := tmps, defers := dd }) :
    Post P N G μ frz w (h.put l (.loop r2 tl)) μ (w.putObj b o) := by
  obtain ⟨b0, κ0, fn0, ts0, d0, κd, h1, h2, h3, h4, h5⟩ := d.blk l _ hg
  rw [hb] at h1; cases h1
  rw [hw] at h4
  have h4 : Loop.mk r.state r.pending fn tmps r.params r.assign r.body dd = Loop.mk r.state r.pending fn0 ts0 r.params r.assign r.body d0 := by
    have := Option.some.inj h4; exact Obj.loop.inj this
  obtain ⟨rfl, rfl, rfl⟩ : fn = fn0 ∧ tmps = ts0 ∧ dd = d0 := by cases h4; exact ⟨rfl, rfl, rfl⟩
  have hlt := (Array.getElem?_eq_some_iff.1 hw).1
  refine ⟨Mu.le_refl _, d.put (sb' := .loop r2 tl) hg rfl (by simp) (fun b' κ' hb' k hk => ?_) ?_, below_putObj h2 w o, keep_putObj d hg hf hb o⟩
  · rw [hb] at hb'; cases hb'
    exact World.putObj_heap_other hk
  · exact ⟨b, κ, fn, tmps, dd, κd, hb, h2, by rw [hr]; exact h3, by rw [World.putObj_heap_same hlt, ho], h5⟩
/-- A round comes to a value. -/
def RoundR (P : Program) (G : Gl) (frz : List Nat) (l : Nat) (args : List Value) (h : SH) (v : Value) (h' : SH) : Prop :=
  ∀ (N : Lim) (μ : Mu) (w : World) (b κ : Nat) (args' : Array Value) (ro' : Option Nat), Den P N G μ h w → μ l = some (b, κ) → RelL μ args args'.toList →
    ∃ f tmps assign body, (Instr.yield b args').run P w = .ok (.round b f tmps assign body) w ∧ RoundIn (FR ro') 0 P b f tmps assign body w (CallP P N G μ frz w h' v)
/-- A round. -/
theorem roundF_ok {rc : Rec} (hrc : Right P G rc) {l : Nat} {args : List Value} {k : KV} {x : Value} (e : roundF rc frz l args h k = some x) :
    ∃ v h', k v h' = some x ∧ RoundR P G frz l args h v h' := by
  unfold roundF at e
  split at e
  · rename_i r tl hg
    cases hs : Nat.beq args.length r.params.size with
    | false => simp [hs] at e
    | true =>
      simp only [hs, cond_true] at e
      have hs := Nat.eq_of_beq_eq_true hs
      obtain ⟨e1, ts1, ds1, h1, hk1, c1⟩ := hrc _ _ _ _ _ _ _ _ e
      unfold roundMid at hk1
      split at hk1
      · split at hk1
        · rename_i r1 tl1 hg1
          cases hc1 : (isReady r1.state && frzOk h1 frz (2 * l + 1)) with
          | false => simp [hc1] at hk1
          | true =>
            simp only [hc1, cond_true] at hk1
            rw [Bool.and_eq_true] at hc1
            obtain ⟨ex, tsx, dsx, h3', hk3, c3⟩ := hrc _ _ _ _ _ _ _ _ hk1
            unfold roundEnd at hk3
            split at hk3
            · split at hk3
              · rename_i r3 tl3 hg3
                cases hc3 : frzOk h3' frz (2 * l + 1) with
                | false => simp [hc3] at hk3
                | true =>
                  simp only [hc3, cond_true] at hk3
                  refine ⟨_, _, hk3, fun N μ w b κ args' ro' d hb ha => ?_⟩
                  obtain ⟨b0, κ0, fn, tmps, dd, κd, i1, i2, i3, i4, i5⟩ := d.blk l _ hg
                  rw [hb] at i1; cases i1
                  have hlen := ha.length
                  simp only [Array.length_toList] at hlen
                  refine ⟨_, _, _, _, run_yield i4 (by show args'.size = r.params.size; omega), roundIn_of_wpIn (FR_fn _ _) ?_⟩
                  rw [FR_in]
                  have hst : r1.state = .ready := by
                    have := hc1.1
                    cases hq : r1.state <;> simp_all [isReady]
                  refine c1 N μ (some b) _ w _ d ?_ rfl ⟨κ, hb⟩ fun μ1 a1 w1 p1 hts1 hds1 => ?_
                  · have := zipset_rel r.params.toList ha i5
                    rw [← Array.foldl_toList, Array.toList_zip]
                    exact this
                  · have hb1 := p1.le _ _ hb
                    obtain ⟨b0, κ0, fn1, tmps1, dd1, κd1, i1, i2, i3, i4, i5⟩ := p1.den.blk l _ hg1
                    rw [hb1] at i1; cases i1
                    refine ⟨_, run_beginRound i4 hst, ?_⟩
                    have q1 := put_loop (frz := frz) p1.den hg1 hc1.2 hb1 (r2 := { r1 with state := .busy }) rfl fn1 tmps1 dd1 i4 (.loop { state := .busy, pending := r1.pending, fn := fn1, tmps := tmps1, params := r1.params, assign := r1.assign, body := r1.body, defers := dd1 }) rfl
                    have p2 := p1.trans q1
                    have hds1 : a1.defers = [] := hds1
                    refine c3 N μ1 (some b) a1 _ _ q1.den hts1 (by rw [hds1]; rfl) ⟨κ, hb1⟩ fun μ3 a3 w3 p3 hts3 hds3 => ?_
                    have p4 := p2.trans p3
                    have hb3 := p4.le _ _ hb
                    obtain ⟨b0, κ0, fn3, tmps3, dd3, κd3, j1, j2, j3, j4, j5⟩ := p4.den.blk l _ hg3
                    rw [hb3] at j1; cases j1
                    have fin : ∀ jump : Option Code, jump = ex.jump → ∃ v w', (Instr.endRound b jump).run P w3 = .ok v w' ∧ CallP P N G μ frz w (h3'.put l (.loop { r3 with state := cond ex.jump.isNone .ready .done, pending := ex.jump } tl3)) (.bool ex.jump.isNone) (.returned v) w' := by
                      rintro jump rfl
                      refine ⟨_, _, run_endRound _ j4, μ3, _, rfl, p4.trans (put_loop (r2 := { r3 with state := cond ex.jump.isNone .ready .done, pending := ex.jump }) p4.den hg3 hc3 hb3 rfl fn3 tmps3 dd3 j4 _ ?_), .ground rfl⟩
                      cases ex.jump <;> rfl
                    cases ex with
                    | normal => exact fin none rfl
                    | exit id => exact fin (some (.exit id)) rfl
                    | ret => exact fin (some .ret) rfl
              · cases hk3
            · cases hk3
        · cases hk1
      · cases hk1
  · cases e
end
end Go.Proofs.Ytpaabfecoghibaa
