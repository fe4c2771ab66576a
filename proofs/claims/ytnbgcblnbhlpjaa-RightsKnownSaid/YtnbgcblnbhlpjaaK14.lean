/- Ranges over maps on the shadow: the iterator, its steps in whatever order, the entry of a step. Over any program. Conditions: as each law says. -/
import Derived.Test.YtnbgcblnbhlpjaaK8
import Derived.Maps.RangeRun
import Derived.Test.YtnbgcblnbhlpjaaK11
namespace Go.Proofs.Ytnbgcblnbhlpjaa
open Go Go.RowKit
set_option linter.unusedSimpArgs false
set_option linter.unusedVariables false
/-- Two values are the same. -/
def eqV : Nat → Value → Value → Bool
  | 0, _, _ => false
  | d + 1, v, v' => match v, v' with
    | .int k n, .int k' n' => decide (k = k') && decide (n = n')
    | .bool b, .bool b' => decide (b = b')
    | .string s, .string s' => decide (s = s')
    | .slice none n c, .slice none n' c' => Nat.beq n n' && Nat.beq c c'
    | .pointer none, .pointer none => true
    | .slice (some a) n c, .slice (some a') n' c' => decide (a = a') && Nat.beq n n' && Nat.beq c c'
    | .agg cs, .agg cs' => all2 (eqV d) cs.toList cs'.toList
    | .tuple cs, .tuple cs' => all2 (eqV d) cs.toList cs'.toList
    | .pointer (some a), .pointer (some a') => decide (a = a')
    | .map r, .map r' => decide (r = r')
    | .func (.func f) a b, .func (.func f') a' b' => Nat.beq f f' && all2 (eqV d) a.toList a'.toList && all2 (eqV d) b.toList b'.toList
    | .iface t x, .iface t' x' => Nat.beq t t' && eqV d x x'
    | .nilFunc, .nilFunc => true
    | _, _ => false
theorem all2_eq {α : Type} {f : α → α → Bool} (hf : ∀ x y, f x y = true → x = y) : ∀ {l k : List α}, all2 f l k = true → l = k
  | [], [], _ => rfl
  | x :: l, y :: k, h => by
    simp only [all2, Bool.and_eq_true] at h
    rw [hf _ _ h.1, all2_eq hf h.2]
  | [], _ :: _, h => by cases h
  | _ :: _, [], h => by cases h
theorem eqV_eq : ∀ (d : Nat) (v v' : Value), eqV d v v' = true → v = v'
  | 0, _, _, h => by cases h
  | d + 1, v, v', h => by
    unfold eqV at h
    split at h
    · simp only [Bool.and_eq_true, decide_eq_true_eq] at h
      rw [h.1, h.2]
    · rw [of_decide_eq_true h]
    · rw [of_decide_eq_true h]
    · simp only [Bool.and_eq_true] at h
      rw [Nat.eq_of_beq_eq_true h.1, Nat.eq_of_beq_eq_true h.2]
    · rfl
    · simp only [Bool.and_eq_true, decide_eq_true_eq] at h
      rw [h.1.1, Nat.eq_of_beq_eq_true h.1.2, Nat.eq_of_beq_eq_true h.2]
    · rw [Array.toList_inj.1 (all2_eq (eqV_eq d) h)]
    · rw [Array.toList_inj.1 (all2_eq (eqV_eq d) h)]
    · rw [of_decide_eq_true h]
    · rw [of_decide_eq_true h]
    · simp only [Bool.and_eq_true] at h
      rw [Nat.eq_of_beq_eq_true h.1.1, Array.toList_inj.1 (all2_eq (eqV_eq d) h.1.2), Array.toList_inj.1 (all2_eq (eqV_eq d) h.2)]
    · simp only [Bool.and_eq_true] at h
      rw [Nat.eq_of_beq_eq_true h.1, eqV_eq d _ _ h.2]
    · rfl
    · cases h
/-- Two answers are the same. -/
def sameA : An → An → An
  | some x, some y => cond (eqV 8 x y) (some x) none
  | _, _ => none
/-- Whatever is chosen, the answer is the same. -/
def forkA (f : Nat → An) : List Nat → An
  | [] => none
  | p :: l => match l with
    | [] => f p
    | _ :: _ => sameA (f p) (forkA f l)
theorem sameA_ok {a b : An} {r : Value} (h : sameA a b = some r) : a = some r ∧ b = some r := by
  unfold sameA at h
  split at h
  · rename_i x y
    cases hq : eqV 8 x y with
    | false => rw [hq] at h; cases h
    | true => rw [hq] at h; cases h; rw [← eqV_eq _ _ _ hq]; exact ⟨rfl, rfl⟩
  · cases h
theorem forkA_ok {f : Nat → An} {r : Value} : ∀ {l : List Nat}, forkA f l = some r → ∀ p ∈ l, f p = some r
  | [], h => by cases h
  | [q], h => fun p hp => by
    obtain rfl : p = q := by simpa using hp
    exact h
  | q :: x :: l, h => fun p hp => by
    obtain ⟨h1, h2⟩ := sameA_ok (show sameA (f q) (forkA f (x :: l)) = some r from h)
    rcases List.mem_cons.1 hp with rfl | hp
    · exact h1
    · exact forkA_ok h2 p hp
/-- A range over a map begins. -/
noncomputable def sRange (P : Program) (h : SH) (frz : List Nat) (t : TypeId) (x : Value) : Option (Value × SH) := match P.underlying t, x with
  | some (.map _ _), .map (some j) => match h.tr.get j with
    | some (.map es true) => cond (frzLive h frz) (some (.pointer (some ⟨h.next, 0, some 0⟩), h.push (.iter j es.length [] es.length))) none
    | _ => none
  | _, _ => none
/-- An iterator, and the map that it goes through: the iterator's block, the map's, its entries, the places of those that were there. -/
noncomputable def iterAt (h : SH) : Value → Option (Nat × Nat × List (Value × Value) × List Nat)
  | .pointer (some a) => cond (spot0 a.spot && Nat.beq a.off 0) (match h.tr.get a.block with
    | some (.iter m since seen last) => match h.tr.get m with
      | some (.map es true) => cond (Nat.beq since es.length && Nat.beq last es.length) (some (a.block, m, es, seen)) none
      | _ => none
    | _ => none) none
  | _ => none
/-- The places that are left. -/
def leftP (n : Nat) (seen : List Nat) : List Nat := (List.range n).filter fun p => !(seen.any fun q => Nat.beq q p)
/-- A step. -/
noncomputable def nextK (frz : List Nat) (h : SH) (it : Value) (yes : Value → SH → An) : An := match iterAt h it with
  | some (i, m, es, seen) => match leftP es.length seen with
    | [] => yes (.tuple #[.bool false]) h
    | q :: l => cond (frzOk h frz (2 * i + 1)) (forkA (fun p => match es[p]? with
      | some kv => yes (.tuple #[.bool true, kv.1, kv.2]) (h.put i (.iter m es.length (seen ++ [p]) es.length))
      | none => none) (q :: l)) none
  | none => none
/-- The entry of a step. -/
noncomputable def sEntry (h : SH) (it : Value) : Option Value := match iterAt h it with
  | some (_, _, es, seen) => match seen.getLast? with
    | some p => match es[p]? with
      | some kv => some (.tuple #[kv.1, kv.2])
      | none => none
    | none => none
  | none => none
section
variable {P : Program} {N : Lim} {G : Gl} {μ : Mu} {h : SH} {w : World} {frz : List Nat}
theorem RelM.get {es : List (Value × Value)} {rs : List MapEntry} (hr : RelM μ es rs) : ∀ {i : Nat} {e : MapEntry}, rs[i]? = some e → ∃ kv, es[i]? = some kv ∧ e.key = kv.1 ∧ gr 6 kv.1 = true ∧ Rel μ kv.2 e.val := by
  induction es generalizing rs with
  | nil =>
    cases rs with
    | nil => intro i e he; simp at he
    | cons _ _ => exact hr.elim
  | cons x es ih =>
    cases rs with
    | nil => exact hr.elim
    | cons y rs =>
      intro i e he
      obtain ⟨⟨h1, h2, h3⟩, t⟩ := hr
      cases i with
      | zero =>
        obtain rfl : y = e := by simpa using he
        exact ⟨x, rfl, h1, h2, h3⟩
      | succ i => exact ih t (by simpa using he)
theorem StdM.born {rs : List MapEntry} {cl : Nat} (h : StdM rs cl) {i : Nat} {e : MapEntry} (he : rs[i]? = some e) : e.born = i := by
  have h1 := congrArg (fun l => l[i]?) h.1
  have hlt := (List.getElem?_eq_some_iff.1 he).1
  simp only [List.getElem?_map, he, Option.map_some, List.getElem?_range hlt, Option.some.injEq] at h1
  exact h1
theorem StdM.lt {rs : List MapEntry} {cl : Nat} (h : StdM rs cl) : ∀ e ∈ rs, e.born < cl := fun e he => by
  obtain ⟨i, hi, rfl⟩ := List.getElem_of_mem he
  rw [h.born (List.getElem?_eq_getElem hi), h.2]
  exact hi
theorem StdM.nodup {rs : List MapEntry} {cl : Nat} (h : StdM rs cl) : (rs.map (·.born)).Nodup := by
  rw [h.1]; exact List.nodup_range
theorem sRange_ok (d : Den P N G μ h w) {t : TypeId} {x x' v : Value} {h' : SH} (e : sRange P h frz t x = some (v, h')) (hx : Rel μ x x') : MadeN P N G μ frz w (Instr.range t x') v h' := by
  unfold sRange at e
  split at e
  · rename_i kt et j hu
    split at e
    · rename_i es hget
      cases hl : frzLive h frz with
      | false => rw [hl] at e; cases e
      | true =>
        rw [hl, cond_true] at e
        simp only [Option.some.injEq, Prod.mk.injEq] at e
        obtain ⟨rfl, rfl⟩ := e
        cases hx with
        | ground hg => simp [gr] at hg
        | map hm =>
          rename_i b κ
          obtain ⟨b', κ', ents, cl, g1, g2, g3, g4, g5⟩ := d.blk j _ hget
          rw [hm] at g1; cases g1
          have hs := g5 rfl
          have hlen : cl = es.length := by rw [hs.2]; exact g4.length
          have hnone := d.muOld h.next (Nat.le_refl _)
          have hle : μ.le (μ.add h.next w.heap.size 0) := Mu.le_add hnone
          refine ⟨μ.add h.next w.heap.size 0, _, _, run_range_map w t kt et b ents cl hu g3, hle, d.push _ 0 _ (fun t' cs' f e => by cases e) ?_, .ptr Mu.add_same, (Bel.refl N w).alloc d.base _, fun k hk b κ' hm => Below.heap_alloc w _ _ (frz_live d hl k hk b κ' hm), fun k hk => Below.heap_alloc w _ _ hk⟩
          exact ⟨w.heap.size, 0, b, κ, Mu.add_same, d.base.new, hle _ _ hm, by rw [World.alloc_heap_new, hlen]⟩
    · cases e
  · cases e
/-- What an iterator stands for. -/
theorem iterAt_ok (d : Den P N G μ h w) {it it' : Value} {i m : Nat} {es : List (Value × Value)} {seen : List Nat} (e : iterAt h it = some (i, m, es, seen)) (hx : Rel μ it it') :
    ∃ b κ mb κ' ents, it' = .pointer (some ⟨b, 0, none⟩) ∧ μ i = some (b, κ) ∧ N.new b ∧ μ m = some (mb, κ') ∧ h.tr.get i = some (.iter m es.length seen es.length) ∧ w.heap[b]? = some (.mapIter (some mb) es.length seen.toArray es.length) ∧
      w.heap[mb]? = some (.map ents es.length) ∧ RelM μ es ents.toList ∧ StdM ents.toList es.length := by
  cases it with
  | pointer oa =>
    cases oa with
    | none => cases e
    | some a =>
      simp only [iterAt] at e
      cases hc : (spot0 a.spot && Nat.beq a.off 0) with
      | false => rw [hc] at e; cases e
      | true =>
        rw [hc, cond_true] at e
        rw [Bool.and_eq_true] at hc
        obtain ⟨blk, off, sp⟩ := a
        have hsp := spot0_eq hc.1
        have hoff := Nat.eq_of_beq_eq_true hc.2
        simp only at hsp hoff e
        subst hsp hoff
        split at e
        · rename_i m2 since seen2 last hgi
          split at e
          · rename_i es2 hgm
            cases hc2 : (Nat.beq since es2.length && Nat.beq last es2.length) with
            | false => rw [hc2] at e; cases e
            | true =>
              rw [hc2, cond_true] at e
              rw [Bool.and_eq_true] at hc2
              have e1 := Nat.eq_of_beq_eq_true hc2.1
              have e2 := Nat.eq_of_beq_eq_true hc2.2
              simp only [Option.some.injEq, Prod.mk.injEq] at e
              obtain ⟨rfl, rfl, rfl, rfl⟩ := e
              subst e1 e2
              cases hx with
              | ground hg => simp [gr] at hg
              | ptr hm =>
                rename_i b κ
                obtain ⟨b0, κ0, mb, κ', i1, i2, i3, i4⟩ := d.blk _ _ hgi
                rw [hm] at i1; cases i1
                obtain ⟨b1, κ1, ents, cl, g1, g2, g3, g4, g5⟩ := d.blk _ _ hgm
                rw [i3] at g1; cases g1
                have hs := g5 rfl
                have hlen : cl = es2.length := by rw [hs.2]; exact g4.length
                subst hlen
                exact ⟨b, κ, mb, κ', ents, rfl, hm, i2, i3, hgi, i4, g3, g4, hs⟩
          · cases e
        · cases e
  | _ => cases e
theorem mem_leftP {n : Nat} {seen : List Nat} {p : Nat} : p ∈ leftP n seen ↔ p < n ∧ p ∉ seen := by
  simp only [leftP, List.mem_filter, List.mem_range, Bool.not_eq_true', List.any_eq_false, and_congr_right_iff]
  intro _
  constructor
  · intro h1 h2
    exact h1 p h2 (Nat.beq_refl p)
  · intro h1 q hq hqp
    exact h1 (by rw [← Nat.eq_of_beq_eq_true hqp]; exact hq)
/-- **A step**, in each world: what is answered behind it. -/
theorem nextK_ok (d : Den P N G μ h w) {it it' : Value} {yes : Value → SH → An} {r : Value} (e : nextK frz h it yes = some r) (hx : Rel μ it it') (ty : TypeId) :
    ∃ v h' v' w', yes v h' = some r ∧ (Instr.next it' false ty).run P w = .ok v' w' ∧ Post P N G μ frz w h' μ w' ∧ Rel μ v v' := by
  unfold nextK at e
  split at e
  · rename_i i m es seen hit
    obtain ⟨b, κ, mb, κ', ents, rfl, h1, h2, h3, hgi, h4, h5, h6, h7⟩ := iterAt_ok d hit hx
    have hlen := h6.length
    have hleft : ∀ x ∈ (leftOf ents seen.toArray).toList, ∃ p, p ∈ leftP es.length seen ∧ ents.toList[p]? = some x ∧ x.born = p := fun x hx => by
      simp only [leftOf, Array.toList_filter, List.mem_filter, Bool.not_eq_true'] at hx
      obtain ⟨hxm, hxs⟩ := hx
      obtain ⟨p, hp, rfl⟩ := List.getElem_of_mem hxm
      have hb := h7.born (List.getElem?_eq_getElem hp)
      refine ⟨p, mem_leftP.2 ⟨by omega, fun hq => ?_⟩, List.getElem?_eq_getElem hp, hb⟩
      rw [hb] at hxs
      simp [hq] at hxs
    rcases run_next_at (P := P) w ty b mb es.length es.length seen.toArray ents es.length h4 h5 (fun x hx => h7.lt x hx) (Nat.le_refl _) with ⟨hz, hrun⟩ | ⟨x, hxl, w1, hw1, hrun⟩
    · have hnil : leftP es.length seen = [] := by
        cases hq : leftP es.length seen with
        | nil => rfl
        | cons p l =>
          exfalso
          have hp : p ∈ leftP es.length seen := by rw [hq]; simp
          obtain ⟨hp1, hp2⟩ := mem_leftP.1 hp
          have hlt : p < ents.toList.length := by omega
          have hmem : ents.toList[p] ∈ (leftOf ents seen.toArray).toList := by
            simp only [leftOf, Array.toList_filter, List.mem_filter, Bool.not_eq_true']
            refine ⟨List.getElem_mem hlt, ?_⟩
            rw [h7.born (List.getElem?_eq_getElem hlt)]
            simpa using hp2
          have h0 : (leftOf ents seen.toArray).toList = [] := List.eq_nil_of_length_eq_zero (by simpa using hz)
          rw [h0] at hmem
          cases hmem
      rw [hnil] at e
      exact ⟨_, _, _, _, e, hrun, Post.refl d, .ground rfl⟩
    · obtain ⟨p, hp, hpx, hborn⟩ := hleft x hxl
      obtain ⟨kv, k1, k2, k3, k4⟩ := h6.get hpx
      cases hq : leftP es.length seen with
      | nil => rw [hq] at hp; cases hp
      | cons q l =>
        rw [hq] at e
        simp only at e
        cases hf : frzOk h frz (2 * i + 1) with
        | false => rw [hf] at e; cases e
        | true =>
          rw [hf, cond_true] at e
          have e2 := forkA_ok e p (by rw [← hq]; exact hp)
          simp only [k1] at e2
          have hlt : b < w.heap.size := (Array.getElem?_eq_some_iff.1 h4).1
          have hw1h : w1.heap = w.heap := by rcases hw1 with rfl | rfl <;> rfl
          have hB : Bel N w w1 := by
            rcases hw1 with rfl | rfl
            · exact Bel.refl N _
            · exact (Bel.refl N w).drew
          have d1 : Den P N G μ h w1 := by
            rcases hw1 with rfl | rfl
            · exact d
            · exact d.drew
          generalize hwx : Go.ChangeMaps.setBlock w1 b (.mapIter (some mb) es.length (seen.toArray.push x.born) es.length) = w2 at hrun
          have hoth : ∀ k, k ≠ b → w2.heap[k]? = w1.heap[k]? := fun k hk => by
            rw [← hwx]
            exact Array.getElem?_setIfInBounds_ne (fun q => hk q.symm)
          have hsz : w2.heap.size = w1.heap.size := by rw [← hwx]; exact Array.size_setIfInBounds
          have hself : w2.heap[b]? = some (.mapIter (some mb) es.length (seen ++ [p]).toArray es.length) := by
            rw [← hwx]
            show (w1.heap.setIfInBounds b _)[b]? = _
            rw [Array.getElem?_setIfInBounds_self_of_lt (by rw [hw1h]; exact hlt), hborn]
            simp
          have hbel : Bel N w1 w2 := by
            refine ⟨⟨?_, ?_, ?_, by rw [hsz]; exact Nat.le_refl _, fun k hk => hoth k (by have := h2.1; omega)⟩, fun k hk => hoth k (fun e => h2.2 (by rw [← e]; exact hk))⟩ <;> (rw [← hwx]; rfl)
          refine ⟨_, _, _, w2, e2, hrun, ⟨Mu.le_refl _, ?_, hB.trans hbel, ?_⟩, ?_⟩
          · refine d1.put (sb' := .iter m es.length (seen ++ [p]) es.length) hgi rfl hsz (fun b2 κ2 hb2 k hk => ?_) ⟨b, κ, mb, κ', h1, h2, h3, hself⟩
            rw [h1] at hb2; cases hb2
            exact hoth k hk
          · intro k hk b2 κ2 hb2
            have hne := frz_apart d hgi (by simpa [famOf] using hf) h1 k hk b2 κ2 hb2
            rw [hoth b2 hne, hw1h]
          · rw [k2]
            refine .tuple ?_
            exact .cons (.ground rfl) (.cons (.ground k3) (.cons k4 .nil))
  · cases e
theorem sEntry_ok (d : Den P N G μ h w) {it it' v : Value} (e : sEntry h it = some v) (hx : Rel μ it it') : ∃ v', (Instr.entry it').run P w = .ok v' w ∧ Rel μ v v' := by
  unfold sEntry at e
  split at e
  · rename_i i m es seen hit
    obtain ⟨b, κ, mb, κ', ents, rfl, h1, h2, h3, hgi, h4, h5, h6, h7⟩ := iterAt_ok d hit hx
    split at e
    · rename_i p hp
      split at e
      · rename_i kv hkv
        cases e
        have hlen := h6.length
        have hlt : p < ents.toList.length := by
          have := (List.getElem?_eq_some_iff.1 hkv).1
          omega
        obtain ⟨kv2, k1, k2, k3, k4⟩ := h6.get (List.getElem?_eq_getElem hlt)
        rw [hkv] at k1; cases k1
        have hborn := h7.born (List.getElem?_eq_getElem hlt)
        obtain ⟨l0, hl0⟩ : ∃ l0, seen = l0 ++ [p] := List.getLast?_eq_some_iff.1 hp
        refine ⟨_, run_entry_at (P := P) w b mb es.length l0.toArray ents es.length ents.toList[p] ?_ h5 (List.getElem_mem hlt) h7.nodup, ?_⟩
        · rw [h4, hl0, hborn]; simp
        · rw [k2]
          exact .tuple (.cons (.ground k3) (.cons k4 .nil))
      · cases e
    · cases e
  · cases e
end
end Go.Proofs.Ytnbgcblnbhlpjaa

/- Code whose choices are open, reckoned on the shadow: whatever is chosen, it is answered the same. Calls, rounds, operations, ranges over functions. Over any program. Conditions: as each law says. -/
namespace Go.Proofs.Ytnbgcblnbhlpjaa
open Go Go.RowKit
set_option linter.unusedSimpArgs false
set_option linter.unusedVariables false
/-- An operation, ranges over maps among them. -/
noncomputable def opF [Orc] (P : Program) (G : Gl) (o : Oper) : OK := match o.op with
  | .range t x => cond (constOk x) ⟨fun _ frz ts h k => match sRange P h frz t ((opK x).run ts) with
    | some (v, h') => k ((dstK o.dst).run ts v) h'
    | none => none⟩ ⟨fun _ _ _ _ _ => none⟩
  | .next x b => cond (constOk x && !b) ⟨fun _ frz ts h k => nextK frz h ((opK x).run ts) fun v h' => k ((dstK o.dst).run ts v) h'⟩ ⟨fun _ _ _ _ _ => none⟩
  | .entry x => cond (constOk x) ⟨fun _ _ ts h k => match sEntry h ((opK x).run ts) with
    | some v => k ((dstK o.dst).run ts v) h
    | none => none⟩ ⟨fun _ _ _ _ _ => none⟩
  | _ => opW P G o
noncomputable def seqF [Orc] (P : Program) (G : Gl) (ops : Array Oper) (l : List Oper) : OK := List.rec (motive := fun _ => OK) ⟨fun _ _ ts h k => k ts h⟩ (fun o _ r => joinW (guardK ops o) o.dst (opF P G o) r) l
noncomputable def regionF [Orc] (P : Program) (G : Gl) (rcD : Rec) (ops : Array Oper) (draw : Bool) : OK := cond draw (OK.rec (motive := fun _ => OK) (fun f => ⟨fun _ frz ts h k => f rcD frz ts h k⟩) (drawD P G ops (planD P ops))) (seqF P G ops ops.toList)
noncomputable def codeF [Orc] (P : Program) (G : Gl) (rcD : Rec) (c : Code) : CK := Code.rec (motive := fun _ => CK)
  ⟨fun _ _ _ ts ds h k => k .normal ts ds h⟩
  (fun _ ops draw => ⟨fun rc _ frz ts ds h k => (regionF P G rcD ops draw).run rc frz ts h fun ts' h' => k .normal ts' ds h'⟩)
  (fun _ _ a b => ⟨fun rc ro frz ts ds h k => a.run rc ro frz ts ds h fun e ts' ds' h' => SE.rec (motive := fun _ => An) (b.run rc ro frz ts' ds' h' k) (fun id => k (.exit id) ts' ds' h') (k .ret ts' ds' h') e⟩)
  (fun x _ _ a b => cond (constOk x) ⟨fun rc ro frz ts ds h k => condV ((opK x).run ts) (a.run rc ro frz ts ds h k) (b.run rc ro frz ts ds h k)⟩ ⟨fun _ _ _ _ _ _ _ => none⟩)
  (fun id _ a => ⟨fun rc ro frz ts ds h k => a.run rc ro frz ts ds h fun e ts' ds' h' => SE.rec (motive := fun _ => An) (k .normal ts' ds' h') (fun id' => cond (Nat.beq id' id) (k .normal ts' ds' h') (k (.exit id') ts' ds' h')) (k .ret ts' ds' h') e⟩)
  (fun c a => ⟨fun rc ro frz ts ds h k => a.run rc ro frz ts ds h fun e ts' ds' h' => SE.rec (motive := fun _ => An) (rc ro frz (.loop c) ts' ds' h' k) (fun id => k (.exit id) ts' ds' h') (k .ret ts' ds' h') e⟩)
  (fun g ps assign body _ _ => cond (constOk g) ⟨fun rc ro frz ts ds h k => rangeF P G rc ro frz ((opK g).run ts) ps assign body ts ds h k⟩ ⟨fun _ _ _ _ _ _ _ => none⟩)
  (fun id => ⟨fun _ _ _ ts ds h k => k (.exit id) ts ds h⟩)
  (fun _ a => a)
  (fun _ => ⟨fun _ _ _ ts ds h k => k .normal ts ds h⟩)
  (fun _ => ⟨fun _ _ _ _ _ _ _ => none⟩)
  ⟨fun _ _ _ ts ds h k => k .ret ts ds h⟩
  (fun _ => ⟨fun _ _ _ _ _ _ _ => none⟩) c
noncomputable def execF [Orc] (P : Program) (G : Gl) (nd n : Nat) : Rec := Nat.rec (motive := fun _ => Rec) (fun _ _ _ _ _ _ _ => none) (fun _ ih => fun ro frz c ts ds h k => (codeF P G (exec P G nd) c).run ih ro frz ts ds h k) n
section
variable {P : Program} {N : Lim} {G : Gl} {μ : Mu} {h : SH} {w : World} {frz : List Nat}
/-- A call has come to a value behind which this is answered. -/
def CallPS (P : Program) (N : Lim) (G : Gl) (μ : Mu) (frz : List Nat) (w : World) (k : KV) (r : Value) (e : Ending) (w' : World) : Prop := ∃ v h', k v h' = some r ∧ CallP P N G μ frz w h' v e w'
def CodeS (P : Program) (G : Gl) (ro : Option Nat) (frz : List Nat) (c : Code) (ts : Fr) (ds : List Nat) (h : SH) (k : KE) (r : Value) : Prop :=
  ∀ (N : Lim) (μ : Mu) (ro' : Option Nat) (a : Act) (w : World) (Q : Exit → Act → World → Prop), Den P N G μ h w → RelF μ ts a.tmps → DefR μ ds a.defers → RoR μ ro ro' →
    (∀ e ts' ds' h' μ' a' w', k e ts' ds' h' = some r → Post P N G μ frz w h' μ' w' → RelF μ' ts' a'.tmps → DefR μ' ds' a'.defers → Q e.ex a' w') → c.wpIn (FR ro') 0 P Q a w
def RightS (P : Program) (G : Gl) (rc : Rec) : Prop := ∀ (ro : Option Nat) (frz : List Nat) (c : Code) (ts : Fr) (ds : List Nat) (h : SH) (k : KE) (r : Value), rc ro frz c ts ds h k = some r → CodeS P G ro frz c ts ds h k r
/-- A call comes to a value behind which this is answered. -/
def CallS (P : Program) (G : Gl) (frz : List Nat) (g : FuncId) (args : List Value) (h : SH) (k : KV) (r : Value) : Prop :=
  (∀ (args' : Array Value) (W : World), (callFunc g args').run P W = .ok (.enter g args') W) ∧
  ∀ (N : Lim) (μ : Mu) (w : World) (args' : Array Value), Den P N G μ h w → RelL μ args args'.toList → CallsIn Fence.wide 0 P g args' w (CallPS P N G μ frz w k r)
theorem CallR.toS {g : FuncId} {args : List Value} {k : KV} {r v : Value} {h' : SH} (c : CallR P G frz g args h v h') (hk : k v h' = some r) : CallS P G frz g args h k r :=
  ⟨c.1, fun N μ w args' d ha => (c.2 N μ w args' d ha).mono fun _ _ hc => ⟨v, h', hk, hc⟩⟩
/-- A call. -/
theorem callF_okS (hG : G.l.all (fun x => x.2.1.toList.all (gr 6)) = true) {rc : Rec} (hrc : RightS P G rc) {g : FuncId} {args : List Value} {k : KV} {r : Value} (e : callF P G rc frz (finfo P g) args h k = some r) :
    CallS P G frz g args h k r := by
  unfold callF at e
  cases hc : ((finfo P g).ok && Nat.ble args.length (finfo P g).n) with
  | false => rw [hc] at e; cases e
  | true =>
    rw [hc, cond_true] at e
    rw [Bool.and_eq_true] at hc
    obtain ⟨hok, hle⟩ := hc
    have hle := Nat.le_of_ble_eq_true hle
    obtain ⟨fn, c, f0, a0, hfn, hb, hp, hn, hfi⟩ : ∃ fn c f0 a0, P.funcs[g]? = some fn ∧ fn.body = some c ∧ pureOut P (callFunc g #[]) = some (.enter f0 a0) ∧ fn.ntmps ≤ 512 ∧ finfo P g = ⟨Nat.ble fn.ntmps 512, fn.ntmps, c, fn.results.toList⟩ := by
      cases hfn : P.funcs[g]? with
      | none => simp [finfo, hfn] at hok
      | some fn =>
        cases hb : fn.body with
        | none => simp [finfo, hfn, hb] at hok
        | some c =>
          cases hp : pureOut P (callFunc g #[]) with
          | none => simp [finfo, hfn, hb, hp] at hok
          | some x =>
            cases x with
            | enter f0 a0 =>
              have hfi : finfo P g = ⟨Nat.ble fn.ntmps 512, fn.ntmps, c, fn.results.toList⟩ := by simp [finfo, hfn, hb, hp]
              rw [hfi] at hok
              exact ⟨fn, c, f0, a0, rfl, hb, rfl, Nat.le_of_ble_eq_true hok, hfi⟩
            | _ => simp [finfo, hfn, hb, hp] at hok
    have hent : ∀ (args' : Array Value) (W : World), (callFunc g args').run P W = .ok (.enter g args') W := fun args' W => by
      have := pureOut_run hp W
      simp only [callFunc, Sem.run_bind, run_program, Result.andThen_ok, hfn] at this ⊢
      by_cases hn : (fn.name == "runtime.NumGoroutine") = true
      · rw [if_pos hn] at this; simp at this
      · rw [if_neg hn, if_neg (by simp [hb])]; rfl
    rw [hfi] at e hle
    simp only at e hle
    refine ⟨hent, fun N μ w args' d ha => ?_⟩
    have hlen := ha.length
    simp only [Array.length_toList] at hlen
    refine callsIn_of_wp_marks hfn hb trivial ?_
    rw [show fn.ntmps - args'.size = fn.ntmps - args.length from by rw [hlen]]
    refine hrc _ _ _ _ _ _ _ _ e N μ none _ w _ d (RelF.of ha hn hle) rfl trivial fun ex ts ds h1 μ' a' w' hk p hts hds => ?_
    have key : (ex.ex = .normal ∨ ex.ex = .ret) → endCall P G frz fn.results.toList ts ds h1 k = some r → LeavesInM Fence.wide 0 P fn a'.tmps (CallPS P N G μ frz w k r) a'.defers .returning w' := by
      intro hex hk
      unfold endCall at hk
      split at hk
      · rename_i h2 hs
        split at hk
        · rename_i v hres
          refine shut_ok ds h1 _ _ w' hs p.den hds fun w2 p2 => ?_
          obtain ⟨v', hv1, hv2⟩ := sResults_ok hG p2.den hts hres
          exact ⟨v', hv1, v, h2, hk, μ', v', rfl, p.trans p2, hv2⟩
        · cases hk
      · cases hk
    cases ex with
    | normal => exact key (.inl rfl) hk
    | exit id => cases hk
    | ret => exact key (.inr rfl) hk
def RoundS (P : Program) (G : Gl) (frz : List Nat) (l : Nat) (args : List Value) (h : SH) (k : KV) (r : Value) : Prop :=
  ∀ (N : Lim) (μ : Mu) (w : World) (b κ : Nat) (args' : Array Value) (ro' : Option Nat), Den P N G μ h w → μ l = some (b, κ) → RelL μ args args'.toList →
    ∃ f tmps assign body, (Instr.yield b args').run P w = .ok (.round b f tmps assign body) w ∧ RoundIn (FR ro') 0 P b f tmps assign body w (CallPS P N G μ frz w k r)
/-- A round. -/
theorem roundF_okS {rc : Rec} (hrc : RightS P G rc) {l : Nat} {args : List Value} {k : KV} {x : Value} (e : roundF rc frz l args h k = some x) : RoundS P G frz l args h k x := by
  unfold roundF at e
  split at e
  · rename_i r tl hg
    cases hs : Nat.beq args.length r.params.size with
    | false => simp [hs] at e
    | true =>
      simp only [hs, cond_true] at e
      have hs := Nat.eq_of_beq_eq_true hs
      intro N μ w b κ args' ro' d hb ha
      obtain ⟨b0, κ0, fn, tmps, dd, κd, i1, i2, i3, i4, i5⟩ := d.blk l _ hg
      rw [hb] at i1; cases i1
      have hlen := ha.length
      simp only [Array.length_toList] at hlen
      refine ⟨_, _, _, _, run_yield i4 (by show args'.size = r.params.size; omega), roundIn_of_wpIn (FR_fn _ _) ?_⟩
      rw [FR_in]
      refine hrc _ _ _ _ _ _ _ _ e N μ (some b) _ w _ d ?_ rfl ⟨κ, hb⟩ fun e1 ts1 ds1 h1 μ1 a1 w1 hk1 p1 hts1 hds1 => ?_
      · have := zipset_rel r.params.toList ha i5
        rw [← Array.foldl_toList, Array.toList_zip]
        exact this
      · unfold roundMid at hk1
        split at hk1
        · split at hk1
          · rename_i r1 tl1 hg1
            cases hc1 : (isReady r1.state && frzOk h1 frz (2 * l + 1)) with
            | false => simp [hc1] at hk1
            | true =>
              simp only [hc1, cond_true] at hk1
              rw [Bool.and_eq_true] at hc1
              have hst : r1.state = .ready := by
                have := hc1.1
                cases hq : r1.state <;> simp_all [isReady]
              have hb1 := p1.le _ _ hb
              obtain ⟨b0, κ0, fn1, tmps1, dd1, κd1, i1, i2, i3, i4, i5⟩ := p1.den.blk l _ hg1
              rw [hb1] at i1; cases i1
              refine ⟨_, run_beginRound i4 hst, ?_⟩
              have q1 := put_loop (frz := frz) p1.den hg1 hc1.2 hb1 (r2 := { r1 with state := .busy }) rfl fn1 tmps1 dd1 i4 (.loop { state := .busy, pending := r1.pending, fn := fn1, tmps := tmps1, params := r1.params, assign := r1.assign, body := r1.body, defers := dd1 }) rfl
              have p2 := p1.trans q1
              have hds1 : a1.defers = [] := hds1
              refine hrc _ _ _ _ _ _ _ _ hk1 N μ1 (some b) a1 _ _ q1.den hts1 (by rw [hds1]; rfl) ⟨κ, hb1⟩ fun ex tsx dsx h3' μ3 a3 w3 hk3 p3 hts3 hds3 => ?_
              have p4 := p2.trans p3
              have hb3 := p4.le _ _ hb
              unfold roundEnd at hk3
              split at hk3
              · split at hk3
                · rename_i r3 tl3 hg3
                  cases hc3 : frzOk h3' frz (2 * l + 1) with
                  | false => simp [hc3] at hk3
                  | true =>
                    simp only [hc3, cond_true] at hk3
                    obtain ⟨b0, κ0, fn3, tmps3, dd3, κd3, j1, j2, j3, j4, j5⟩ := p4.den.blk l _ hg3
                    rw [hb3] at j1; cases j1
                    have fin : ∀ jump : Option Code, jump = ex.jump → ∃ v w', (Instr.endRound b jump).run P w3 = .ok v w' ∧ CallPS P N G μ frz w k x (.returned v) w' := by
                      rintro jump rfl
                      refine ⟨_, _, run_endRound _ j4, _, _, hk3, μ3, _, rfl, p4.trans (put_loop (r2 := { r3 with state := cond ex.jump.isNone .ready .done, pending := ex.jump }) p4.den hg3 hc3 hb3 rfl fn3 tmps3 dd3 j4 _ ?_), .ground rfl⟩
                      cases ex.jump <;> rfl
                    cases ex with
                    | normal => exact fin none rfl
                    | exit id => exact fin (some (.exit id)) rfl
                    | ret => exact fin (some .ret) rfl
                · cases hk3
              · cases hk3
          · cases hk1
        · cases hk1
  · cases e
/-- What an operation comes to, behind which this is answered. -/
def StepS (P : Program) (G : Gl) (frz : List Nat) (o : Oper) (ts : Fr) (h : SH) (k : KF) (r : Value) : Prop :=
  ∀ (N : Lim) (μ : Mu) (w : World) (a : Act) (ro' : Option Nat) (K : Act → World → Prop) (Q : Exit → Act → World → Prop), Den P N G μ h w → RelF μ ts a.tmps →
    (∀ ts' h' μ' a' w', k ts' h' = some r → Post P N G μ frz w h' μ' w' → RelF μ' ts' a'.tmps → a'.defers = a.defers → K a' w') → o.uponIn (FR ro') 0 P a K Q ((execOp a.eval o).run P w)
theorem StepR.toS {o : Oper} {ts ts' : Fr} {h' : SH} {k : KF} {r : Value} (s : StepR P G frz o ts h ts' h') (hk : k ts' h' = some r) : StepS P G frz o ts h k r :=
  fun N μ w a ro' K Q d hts hK => s.2 N μ w a ro' d hts K Q fun μ' a' w' p hr hp _ => hK ts' h' μ' a' w' hk p hr (by obtain ⟨v', rfl⟩ := hp; exact put_defers' _ _ _)
theorem steps_enterS {o : Oper} {a : Act} {ts : Fr} {k : KF} {r : Value} {ro' : Option Nat} {g : FuncId} {args' : Array Value} (hts : RelF μ ts a.tmps)
    (hr : (execOp a.eval o).run P w = .ok (.enter g args') w) (hc : CallsIn Fence.wide 0 P g args' w (CallPS P N G μ frz w (fun v h' => k ((dstK o.dst).run ts v) h') r)) {K : Act → World → Prop} {Q : Exit → Act → World → Prop}
    (hK : ∀ ts' h' μ' a' w', k ts' h' = some r → Post P N G μ frz w h' μ' w' → RelF μ' ts' a'.tmps → a'.defers = a.defers → K a' w') : o.uponIn (FR ro') 0 P a K Q ((execOp a.eval o).run P w) := by
  rw [hr, Oper.uponIn_enter]
  refine ⟨FR_lone, FR_calls (CallsIn.mono hc ?_)⟩
  rintro e w'' ⟨v, h', hk, μ', v', rfl, h2, h3⟩
  have hk : k ((dstK o.dst).run ts v) h' = some r := hk
  rw [dstK_run] at hk
  exact hK _ _ μ' _ w'' hk h2 (put_rel (hts.mono h2.le) h3 _) (put_defers' _ _ _)
theorem callA_okS [Orc] (hG : G.l.all (fun x => x.2.1.toList.all (gr 6)) = true) {rc : Rec} (hrc : RightS P G rc) {g : FuncId} {args : List Value} {k : KV} {r : Value} (e : callA P G rc frz g args h k = some r) : CallS P G frz g args h k r := by
  unfold callA at e
  cases hs : Orc.s with
  | true =>
    rw [hs] at e
    obtain ⟨v, h', hk, hc⟩ := callI_ok e
    exact hc.toS hk
  | false => rw [hs] at e; exact callF_okS hG hrc e
theorem orc_okS [Orc] [OrcOk P] (hG : G.l.all (fun x => x.2.1.toList.all (gr 6)) = true) {rc : Rec} (hrc : RightS P G rc) {g : FuncId} {first args captured : List Value} {k : KV} {r : Value}
    (e : emp captured (emp first (emp args (orcF g Orc.t (fun v => cond (frzLive h frz) (k v h) none) (entF g args h Orc.e (fun v h' => cond (frzLive h frz) (k v h') none) (callA P G rc frz g (first ++ args ++ captured) h k))) (entF g args h Orc.e (fun v h' => cond (frzLive h frz) (k v h') none) (callA P G rc frz g (first ++ args ++ captured) h k))) (callA P G rc frz g (first ++ args ++ captured) h k)) (callA P G rc frz g (first ++ args ++ captured) h k) = some r) :
    CallS P G frz g (first ++ args ++ captured) h k r := by
  cases captured with
  | cons _ _ => exact callA_okS hG hrc e
  | nil =>
    cases first with
    | cons _ _ => exact callA_okS hG hrc e
    | nil =>
      have ent : entF g args h Orc.e (fun v h' => cond (frzLive h frz) (k v h') none) (callA P G rc frz g ([] ++ args ++ []) h k) = some r → CallS P G frz g ([] ++ args ++ []) h k r := fun e => by
        rcases entF_ok _ e with ⟨x, h1, rfl, h3, h4⟩ | h1
        · cases hl : frzLive h frz with
          | false =>
            unfold endE at h4
            split at h4 <;> (rw [hl] at h4; cases h4)
          | true =>
            obtain ⟨v, h', h5, h6⟩ := (OrcOk.eok (P := P) _ h1).call h3 hl h4
            rw [hl, cond_true] at h5
            have h7 : CallR P G frz x.g ([] ++ args ++ []) h v h' := by simpa using h6
            exact h7.toS h5
        · exact callA_okS hG hrc h1
      cases args with
      | cons _ _ => exact ent e
      | nil =>
        have e : orcF g Orc.t (fun v => cond (frzLive h frz) (k v h) none) (entF g [] h Orc.e (fun v h' => cond (frzLive h frz) (k v h') none) (callA P G rc frz g ([] ++ [] ++ []) h k)) = some r := e
        rcases orcF_ok _ e with ⟨v, h1, h2⟩ | h1
        · cases hl : frzLive h frz with
          | false => rw [hl] at h2; cases h2
          | true =>
            rw [hl, cond_true] at h2
            exact CallR.toS ((OrcOk.ok (P := P) _ h1).call (.inl hl) h rfl) h2
        · exact ent h1
theorem callV_okS [Orc] [OrcOk P] (hG : G.l.all (fun x => x.2.1.toList.all (gr 6)) = true) {rc : Rec} (hrc : RightS P G rc) {o : Oper} {c : Call} {f : Operand} (ho : o.op = .call c) (hcal : c.callee = .value f) (hf : constOk f = true) (ha : c.args.toList.all constOk = true) {ts : Fr} {k : KF} {r : Value}
    (e : callV P G rc frz ((opK f).run ts) (argsW c.args.toList ts) h (fun v h' => k ((dstK o.dst).run ts v) h') = some r) : StepS P G frz o ts h k r := by
  rw [opK_run] at e
  unfold callV at e
  split at e
  · rename_i g fi cs hfv
    obtain ⟨hent, hcall⟩ := orc_okS hG hrc e
    intro N μ w a ro' K Q d hts hK
    have hff := opnd_rel hts hf
    rw [hfv] at hff
    obtain ⟨fi', cs', hp, h1, h2⟩ := func_rel hff
    have hl := args_opnd hts ha
    have hrel : RelL μ (fi.toList ++ argsW c.args.toList ts ++ cs.toList) (fi' ++ c.args.map a.eval ++ cs').toList := by
      simp only [Array.toList_append]
      exact (h1.append hl).append h2
    refine steps_enterS hts ?_ (hcall N μ w _ d hrel) hK
    simp only [execOp, ho, resolve, hcal, hp, Deferred.ofValue, pure_bind, invoke]
    exact hent _ w
  · rename_i l fi cs hfv
    have hround := roundF_okS hrc e
    intro N μ w a ro' K Q d hts hK
    have hff := opnd_rel hts hf
    rw [hfv] at hff
    obtain ⟨b, κ, hp, hb⟩ := yield_rel hff
    obtain ⟨f2, tmps, assign, body, h1, h2⟩ := hround N μ w b κ _ ro' d hb (args_opnd hts ha)
    have hr : (execOp a.eval o).run P w = .ok (.round b f2 tmps assign body) w := by
      simp only [execOp, ho, resolve, hcal, hp, Deferred.ofValue, pure_bind, invoke, Array.empty_append]
      exact h1
    rw [hr, Oper.uponIn_round]
    refine ⟨FR_lone, RoundIn.mono h2 ?_⟩
    rintro e w'' ⟨v, h', hk, μ', v', rfl, h2, h3⟩
    have hk : k ((dstK o.dst).run ts v) h' = some r := hk
    rw [dstK_run] at hk
    exact hK _ _ μ' _ w'' hk h2 (put_rel (hts.mono h2.le) h3 _) (put_defers' _ _ _)
  · cases e
theorem callM_okS [Orc] (hG : G.l.all (fun x => x.2.1.toList.all (gr 6)) = true) {rc : Rec} (hrc : RightS P G rc) {o : Oper} {c : Call} {f : Operand} {name : String} (ho : o.op = .call c) (hcal : c.callee = .invoke f name) (hf : constOk f = true) (ha : c.args.toList.all constOk = true) {ts : Fr} {k : KF} {r : Value}
    (e : callM P G rc frz ((opK f).run ts) name (argsW c.args.toList ts) h (fun v h' => k ((dstK o.dst).run ts v) h') = some r) : StepS P G frz o ts h k r := by
  rw [opK_run] at e
  unfold callM at e
  split at e
  · rename_i t v hfv
    split at e
    · rename_i g hg
      obtain ⟨hent, hcall⟩ := callA_okS hG hrc e
      intro N μ w a ro' K Q d hts hK
      have hff := opnd_rel hts hf
      rw [hfv] at hff
      obtain ⟨v', hp, hv⟩ := iface_rel hff
      have hl := args_opnd hts ha
      have hrel : RelL μ (v :: argsW c.args.toList ts) (#[v'] ++ c.args.map a.eval).toList := by
        simp only [Array.toList_append, List.singleton_append]
        exact .cons hv hl
      refine steps_enterS hts ?_ (hcall N μ w _ d hrel) hK
      have hm : (method (P.types.size + Made.depth) t v' name).run P w = .ok (g, v') w := method_ok hg _ w
      simp only [execOp, ho, resolve, hcal, hp, pure_bind, invoke]
      have h0 : (#[Value.iface t v'] ++ Array.map a.eval c.args)[0]? = some (.iface t v') := by rw [Array.getElem?_append_left (by simp)]; rfl
      have h1 : (#[Value.iface t v'] ++ Array.map a.eval c.args).extract 1 = Array.map a.eval c.args := by
        apply Array.toList_inj.1
        simp only [Array.toList_extract, Array.toList_map]
        simp [List.take_of_length_le]
      simp only [h0, h1, callMethod, Sem.run_bind, run_program, Result.andThen_ok, hm]
      exact hent _ w
    · cases e
  · cases e
theorem opW_okS [Orc] [OrcOk P] (hG : G.l.all (fun x => x.2.1.toList.all (gr 6)) = true) {rc : Rec} (hrc : RightS P G rc) {o : Oper} {ts : Fr} {k : KF} {r : Value} (e : (opW P G o).run rc frz ts h k = some r) : notDefer o = true ∧ StepS P G frz o ts h k r := by
  have det : (notDefer o = true ∧ ∃ ts' h', k ts' h' = some r ∧ StepR P G frz o ts h ts' h') → notDefer o = true ∧ StepS P G frz o ts h k r := fun ⟨h1, _, _, h2, h3⟩ => ⟨h1, h3.toS h2⟩
  unfold opW at e
  split at e
  · rename_i x ho; exact det (moveW_ok hG (.inl ho) e)
  · rename_i x ho; exact det (moveW_ok hG (.inr ho) e)
  · rename_i c ho
    have hnd : notDefer o = true := by simp [notDefer, ho]
    split at e
    · rename_i f hcal
      cases hc : (constOk f && c.args.toList.all constOk) with
      | false => rw [hc] at e; cases e
      | true =>
        rw [hc] at e
        rw [Bool.and_eq_true] at hc
        simp only [cond_true, dstC_eq] at e
        exact ⟨hnd, callV_okS hG hrc ho hcal hc.1 hc.2 e⟩
    · rename_i f name hcal
      cases hc : (constOk f && c.args.toList.all constOk) with
      | false => rw [hc] at e; cases e
      | true =>
        rw [hc] at e
        rw [Bool.and_eq_true] at hc
        simp only [cond_true, dstC_eq] at e
        exact ⟨hnd, callM_okS hG hrc ho hcal hc.1 hc.2 e⟩
    · exact det (pureW_ok hG e)
  · exact det (pureW_ok hG e)
/-- **An operation**, ranges over maps among them. -/
theorem opF_ok [Orc] [OrcOk P] (hG : G.l.all (fun x => x.2.1.toList.all (gr 6)) = true) {rc : Rec} (hrc : RightS P G rc) {o : Oper} {ts : Fr} {k : KF} {r : Value} (e : (opF P G o).run rc frz ts h k = some r) : notDefer o = true ∧ StepS P G frz o ts h k r := by
  unfold opF at e
  split at e
  · rename_i t x ho
    refine ⟨by simp [notDefer, ho], fun N μ w a ro' K Q d hts hK => ?_⟩
    cases hc : constOk x with
    | false => rw [hc] at e; cases e
    | true =>
      rw [hc, cond_true] at e
      simp only [opK_run, dstK_run] at e
      split at e
      · rename_i v h' hs
        obtain ⟨μ', v', w', g1, g2, g3⟩ := (sRange_ok d hs (opnd_rel hts hc)).next
        have hr : (execOp a.eval o).run P w = .ok (.value v') w' := by
          simp only [execOp, ho]
          exact g1
        rw [hr, Oper.uponIn_value]
        exact hK _ _ μ' _ w' e g2 (put_rel (hts.mono g2.le) g3.1 _) (put_defers' _ _ _)
      · cases e
  · rename_i x b ho
    refine ⟨by simp [notDefer, ho], fun N μ w a ro' K Q d hts hK => ?_⟩
    cases hc : (constOk x && !b) with
    | false => rw [hc] at e; cases e
    | true =>
      rw [hc, cond_true] at e
      rw [Bool.and_eq_true, Bool.not_eq_true'] at hc
      obtain ⟨hc, rfl⟩ := hc
      simp only [opK_run, dstK_run] at e
      obtain ⟨v, h', v', w', g1, g2, g3, g4⟩ := nextK_ok d e (opnd_rel hts hc) o.type
      have hr : (execOp a.eval o).run P w = .ok (.value v') w' := by
        simp only [execOp, ho, Sem.run_bind, g2, Result.andThen_ok, Sem.run_pure]
      rw [hr, Oper.uponIn_value]
      exact hK _ _ μ _ w' g1 g3 (put_rel hts g4 _) (put_defers' _ _ _)
  · rename_i x ho
    refine ⟨by simp [notDefer, ho], fun N μ w a ro' K Q d hts hK => ?_⟩
    cases hc : constOk x with
    | false => rw [hc] at e; cases e
    | true =>
      rw [hc, cond_true] at e
      simp only [opK_run, dstK_run] at e
      split at e
      · rename_i v hs
        obtain ⟨v', g1, g2⟩ := sEntry_ok d hs (opnd_rel hts hc)
        have hr : (execOp a.eval o).run P w = .ok (.value v') w := by
          simp only [execOp, ho, Sem.run_bind, g1, Result.andThen_ok, Sem.run_pure]
        rw [hr, Oper.uponIn_value]
        exact hK _ _ μ _ w e (Post.refl d) (put_rel hts g2 _) (put_defers' _ _ _)
      · cases e
  · exact opW_okS hG hrc e
end
end Go.Proofs.Ytnbgcblnbhlpjaa

/- Code whose choices are open is reckoned rightly: regions, ranges over functions, each kind of code; closed calls, and entries. Over any program. Conditions: as each law says. -/
namespace Go.Proofs.Ytnbgcblnbhlpjaa
open Go Go.RowKit
set_option linter.unusedSimpArgs false
set_option linter.unusedVariables false
section
variable {P : Program} {N : Lim} {G : Gl} {μ : Mu} {h : SH} {w : World} {frz : List Nat}
/-- Operations one behind the other. -/
def SeqS (P : Program) (G : Gl) (frz : List Nat) (ops : Array Oper) (l : List Nat) (ts : Fr) (h : SH) (k : KF) (r : Value) : Prop :=
  ∀ (N : Lim) (μ : Mu) (w : World) (a : Act) (ro' : Option Nat) (Q : Exit → Act → World → Prop), Den P N G μ h w → RelF μ ts a.tmps →
    (∀ ts' h' μ' a' w', k ts' h' = some r → Post P N G μ frz w h' μ' w' → RelF μ' ts' a'.tmps → a'.defers = a.defers → Q .normal a' w') → wpOpsIn (FR ro') 0 P ops Q l a w
theorem seqF_ok [Orc] [OrcOk P] (hG : G.l.all (fun x => x.2.1.toList.all (gr 6)) = true) {rc : Rec} (hrc : RightS P G rc) {ops : Array Oper} {k : KF} {r : Value} : ∀ (os : List Oper) (i : Nat), ops.toList.drop i = os → ∀ (ts : Fr) (h : SH), (seqF P G ops os).run rc frz ts h k = some r →
    SeqS P G frz ops (List.range' i os.length) ts h k r
  | [], i, _, ts, h, e => fun N μ w a ro' Q d hts K => K ts h μ a w e (Post.refl d) hts rfl
  | o :: os, i, hd, ts, h, e => by
    have ho : ops[i]? = some o := by
      have := congrArg (fun l => l[0]?) hd
      simpa using this
    have hd' : ops.toList.drop (i + 1) = os := by
      have := congrArg List.tail hd
      simpa using this
    have e : (joinW (guardK ops o) o.dst (opF P G o) (seqF P G ops os)).run rc frz ts h k = some r := e
    have yes : ∀ (_ : Region.wanted o (yieldedS ops ts) = true), (opF P G o).run rc frz ts h (fun ts' h' => (seqF P G ops os).run rc frz ts' h' k) = some r → SeqS P G frz ops (List.range' i (o :: os).length) ts h k r := fun hw e => by
      obtain ⟨hnd, hst⟩ := opF_ok hG hrc e
      intro N μ w a ro' Q d hts K
      rw [List.length_cons, List.range'_succ]
      unfold wpOpsIn
      rw [yielded_rel hts] at hw
      simp only [ho, hw, if_true]
      refine ⟨fun f _ => FR_fn ro' f, ?_⟩
      rw [Oper.semAt_eq _ _ _ (notDefer_spec hnd)]
      refine hst N μ w a ro' _ Q d hts fun ts1 h1 μ1 a1 w1 hk1 p1 hts1 hd1 => ?_
      exact seqF_ok hG hrc os (i + 1) hd' ts1 h1 hk1 N μ1 w1 a1 ro' Q p1.den hts1 fun ts' h' μ' a' w' hk p h1 h2 => K ts' h' μ' a' w' hk (p1.trans p) h1 (h2.trans hd1)
    have no : ∀ (_ : Region.wanted o (yieldedS ops ts) = false), (seqF P G ops os).run rc frz ((dstK o.dst).run ts undef) h k = some r → SeqS P G frz ops (List.range' i (o :: os).length) ts h k r := fun hw e => by
      have hsq := seqF_ok hG hrc os (i + 1) hd' _ h e
      rw [dstK_run] at hsq
      intro N μ w a ro' Q d hts K
      rw [List.length_cons, List.range'_succ]
      unfold wpOpsIn
      rw [yielded_rel hts] at hw
      simp only [ho, hw, Bool.false_eq_true, if_false]
      exact ⟨fun f _ => FR_fn ro' f, hsq N μ w _ ro' Q d (put_rel hts (.ground rfl) _) fun ts' h' μ' a' w' hk p h1 h2 => K ts' h' μ' a' w' hk p h1 (h2.trans (put_defers' _ _ _))⟩
    rcases guardK_ok (ops := ops) (o := o) ts with ⟨hg, hw⟩ | ⟨b, hg, hb⟩
    · rw [hg] at e
      exact yes hw e
    · rw [hg] at e
      have e : cond (b.run ts) ((opF P G o).run rc frz ts h (fun ts' h' => (seqF P G ops os).run rc frz ts' h' k)) (dstC o.dst ts undef fun ts => (seqF P G ops os).run rc frz ts h k) = some r := e
      rw [dstC_eq] at e
      cases hw : Region.wanted o (yieldedS ops ts) with
      | true => rw [hb, hw, cond_true] at e; exact yes hw e
      | false => rw [hb, hw, cond_false] at e; exact no hw e
/-- Behind a range over a function. -/
theorem rangeEnd_okS {rc : Rec} (hrc : RightS P G rc) {ro : Option Nat} {l : Nat} {ts : Fr} {ds : List Nat} {h3 : SH} {k : KE} {x : Value} (e : rangeEnd rc ro frz l ts ds h3 k = some x) :
    ∀ (N : Lim) (μ3 : Mu) (w w3 : World) (bl κl : Nat) (ro' : Option Nat) (a : Act) (Q : Exit → Act → World → Prop) (μ : Mu), Post P N G μ frz w h3 μ3 w3 → μ3 l = some (bl, κl) → RelF μ3 ts a.tmps → DefR μ3 ds a.defers → RoR μ3 ro ro' →
      (∀ ex ts' ds' h' μ' a' w', k ex ts' ds' h' = some x → Post P N G μ frz w h' μ' w' → RelF μ' ts' a'.tmps → DefR μ' ds' a'.defers → Q ex.ex a' w') →
      ∃ (pn : Option Code) (W : World), (Instr.endLoop bl).run P w3 = .ok pn W ∧ (match pn with
        | none => Q .normal a W
        | some c => c.wpIn (FR ro') 0 P Q a W) := by
  unfold rangeEnd at e
  split at e
  · rename_i r tl hgl
    cases hb : (!(isBusy r.state) && frzOk h3 frz (2 * l + 1)) with
    | false => simp [hb] at e
    | true =>
      rw [hb, cond_true] at e
      rw [Bool.and_eq_true] at hb
      intro N μ3 w w3 bl κl ro' a Q μ p3 hbl hts hds hro K
      obtain ⟨W, h1, h2⟩ : ∃ W, (Instr.endLoop bl).run P w3 = .ok r.pending W ∧ Post P N G μ frz w (h3.put l (.loop { r with state := .exhausted } tl)) μ3 W := by
        obtain ⟨b0, κ0, fn3, tmps3, dd3, κd3, j1, j2, j3, j4, j5⟩ := p3.den.blk l _ hgl
        rw [hbl] at j1; cases j1
        have hne : r.state ≠ .busy := fun hq => by simp [hq, isBusy] at hb
        have he := run_endLoop (P := P) j4 hne
        have p4' := put_loop (frz := frz) (r2 := { r with state := .exhausted }) p3.den hgl hb.2 hbl rfl fn3 tmps3 dd3 j4 (.loop { state := .exhausted, pending := r.pending, fn := fn3, tmps := tmps3, params := r.params, assign := r.assign, body := r.body, defers := dd3 }) rfl
        exact ⟨_, he, ⟨p3.le, p4'.den, p3.bel.trans p4'.bel, p3.kp.trans p3.le p4'.kp⟩⟩
      split at e
      · rename_i hp
        exact ⟨_, W, h1, by rw [hp]; exact K .normal _ _ _ μ3 a W e h2 hts hds⟩
      · rename_i c hp
        refine ⟨_, W, h1, ?_⟩
        rw [hp]
        exact hrc _ _ _ _ _ _ _ _ e N μ3 ro' a W Q h2.den hts hds hro fun ex ts' ds' h' μ' a' w' hk p5 => K ex ts' ds' h' μ' a' w' hk (h2.trans p5)
  · cases e
/-- A range over a function. -/
theorem rangeF_okS (hG : G.l.all (fun x => x.2.1.toList.all (gr 6)) = true) {rc : Rec} (hrc : RightS P G rc) {ro : Option Nat} {g : Operand} {ps : Array Tmp} {assign body : Code} {ts : Fr} {ds : List Nat} {k : KE} {x : Value} (hc : constOk g = true)
    (e : rangeF P G rc ro frz ((opK g).run ts) ps assign body ts ds h k = some x) : CodeS P G ro frz (.rangeFunc g ps assign body) ts ds h k x := by
  rw [opK_run] at e
  unfold rangeF at e
  cases hz : frzLive h frz with
  | false => rw [hz] at e; cases e
  | true =>
    rw [hz, cond_true] at e
    split at e
    · rename_i gf first captured hgv
      have go : ∀ {l : Nat} {dsn : List Nat} {h2 : SH}, CallS P G frz gf (first.toList ++ [.func (.yield l) #[] #[]] ++ captured.toList) h2 (fun _ h3 => rangeEnd rc ro frz l ts dsn h3 k) x →
          ∀ {N : Lim} {μ : Mu} {ro' : Option Nat} {a : Act} {w : World} {Q : Exit → Act → World → Prop}, Den P N G μ h w → RelF μ ts a.tmps → RoR μ ro ro' →
          (∀ ex ts' ds' h' μ' a' w', k ex ts' ds' h' = some x → Post P N G μ frz w h' μ' w' → RelF μ' ts' a'.tmps → DefR μ' ds' a'.defers → Q ex.ex a' w') →
          ∀ (fn : FuncId) (bl κl : Nat) (μ2 : Mu) (w2 : World) (mark : List Deferred),
          (Instr.enterLoop fn a.tmps ps assign body ro').run P w = .ok (bl, mark) w2 → Post P N G μ frz w h2 μ2 w2 → μ2 l = some (bl, κl) → DefR μ2 dsn (mark ++ a.defers) →
          ∃ (l : Nat) (mark : List Deferred) (w₁ : World) (d : Deferred) (w₁' : World) (f : FuncId) (args : Array Value) (w₂ : World),
            (Instr.enterLoop fn a.tmps ps assign body (FR ro').round).run P w = .ok (l, mark) w₁ ∧
            (resolve a.eval (rangeCall g l) 0).run P w₁ = .ok d w₁' ∧
            (∀ f', Target.leads P w₁' d.target d.args = some f' → (FR ro').fn f') ∧
            (invoke d.target d.args).run P w₁' = .ok (.enter f args) w₂ ∧
            ((FR ro').depth.isSome = true → 1 ≤ 0) ∧
            CallsIn (FR ro') (0 - 1) P f args w₂ (rangePost (FR ro') 0 P l Q { a with defers := mark ++ a.defers }) := by
        intro l dsn h2 hcall N μ ro' a w Q d hts hro K fn bl κl μ2 w2 mark hel p2 hbl hdm
        have hg := opnd_rel hts hc
        rw [hgv] at hg
        obtain ⟨fi', cs', hp, hfi, hcs⟩ := func_rel hg
        refine ⟨bl, mark, w2, { target := .fn (.func gf) cs', args := fi' ++ #[.func (.yield bl) #[] #[]] }, w2, gf, fi' ++ #[.func (.yield bl) #[] #[]] ++ cs', w2, by rw [FR_round]; exact hel, ?_, fun f' _ => FR_fn ro' f', ?_, FR_lone, ?_⟩
        · simp only [resolve, hp, List.map_toArray, List.map_cons, List.map_nil, Deferred.ofValue]
          rfl
        · simp only [invoke]
          exact hcall.1 _ w2
        · have hargs : RelL μ2 (first.toList ++ [.func (.yield l) #[] #[]] ++ captured.toList) (fi' ++ #[Value.func (.yield bl) #[] #[]] ++ cs').toList := by
            simp only [Array.toList_append]
            exact ((hfi.mono p2.le).append (.cons (.yield hbl) .nil)).append (hcs.mono p2.le)
          refine FR_calls (CallsIn.mono (hcall.2 N μ2 w2 _ p2.den hargs) ?_)
          rintro en w3 ⟨v3, h3, hk3, μ3, v', rfl, p3, _⟩
          have p13 := p2.trans p3
          obtain ⟨pn, W, h1, h2⟩ := rangeEnd_okS hrc hk3 N μ3 w w3 bl κl ro' { a with defers := mark ++ a.defers } Q μ p13 (p3.le _ _ hbl) (hts.mono p13.le) (hdm.mono p3.le) (hro.mono p13.le) K
          refine ⟨_, W, h1, ?_⟩
          cases pn with
          | none => exact h2
          | some c => exact h2
      cases ro with
      | none =>
        simp only at e
        have hcall := callF_okS hG hrc e
        intro N μ ro' a w Q d hts hds hro K
        cases ro' with
        | some _ => exact hro.elim
        | none =>
          refine wpIn_rangeFunc fun fn _ => ?_
          have p1 := push_mark (frz := frz) d hz
          have p2 := push_loop (frz := frz) (r := { state := .ready, pending := none, fn := 0, tmps := #[], params := ps, assign := assign, body := body, defers := h.next }) (fn := fn) p1.den (frzLive_push hz d _) (κd := 0) (show (μ.add h.next w.heap.size 0) h.next = some (w.heap.size, 0) from Mu.add_same) (hts.mono p1.le) _ rfl
          refine go hcall d hts hro K fn (w.heap.size + 1) 0 _ _ _ (run_enterLoop_outer _ _ _ _ _) (p1.trans p2) ?_ ⟨w.heap.size, 0, a.defers, rfl, p2.le _ _ Mu.add_same, hds.mono (p1.trans p2).le⟩
          have : (w.alloc (.deferred (some []))).heap.size = w.heap.size + 1 := by simp
          rw [this]
          exact Mu.add_same
      | some l0 =>
        simp only at e
        split at e
        · rename_i r0 tl0 hg0
          have hcall := callF_okS hG hrc e
          intro N μ ro' a w Q d hts hds hro K
          cases ro' with
          | none => exact hro.elim
          | some b0 =>
            refine wpIn_rangeFunc fun fn _ => ?_
            have hro0 := hro
            obtain ⟨κ0, hb0⟩ := hro
            obtain ⟨b0', κ0', fn0, tmps0, dd0, κd0, j1, j2, j3, j4, j5⟩ := d.blk l0 _ hg0
            rw [hb0] at j1; cases j1
            have p2 := push_loop (frz := frz) (r := { state := .ready, pending := none, fn := 0, tmps := #[], params := ps, assign := assign, body := body, defers := r0.defers }) (fn := fn) d hz j3 hts _ rfl
            exact go hcall d hts hro0 K fn w.heap.size 0 _ _ _ (run_enterLoop_inner j4 _ _ _ _ _) p2 Mu.add_same (hds.mono p2.le)
        · cases e
    · cases e
def RightLS (P : Program) (G : Gl) (rc : Rec) : Prop := ∀ (ro : Option Nat) (frz : List Nat) (c : Code) (ts : Fr) (ds : List Nat) (h : SH) (k : KE) (r : Value), rc ro frz (.loop c) ts ds h k = some r →
  ∀ (N : Lim) (μ : Mu) (ro' : Option Nat) (a : Act) (w : World) (Q : Exit → Act → World → Prop), Den P N G μ h w → RelF μ ts a.tmps → DefR μ ds a.defers → RoR μ ro ro' →
    (∀ e ts' ds' h' μ' a' w', k e ts' ds' h' = some r → Post P N G μ frz w h' μ' w' → RelF μ' ts' a'.tmps → DefR μ' ds' a'.defers → Q e.ex a' w') → LoopX (FR ro') 0 P c Q a w
theorem regionF_ok [Orc] [OrcOk P] (hG : G.l.all (fun x => x.2.1.toList.all (gr 6)) = true) {rcD : Rec} (hD : Right P G rcD) {rc : Rec} (hrc : RightS P G rc) {ops : Array Oper} {draw : Bool} {ts : Fr} {k : KF} {r : Value} (e : (regionF P G rcD ops draw).run rc frz ts h k = some r)
    (N : Lim) (μ : Mu) (w : World) (a : Act) (ro' : Option Nat) (Q : Exit → Act → World → Prop) (id : Nat) (d : Den P N G μ h w) (hts : RelF μ ts a.tmps)
    (K : ∀ ts' h' μ' a' w', k ts' h' = some r → Post P N G μ frz w h' μ' w' → RelF μ' ts' a'.tmps → a'.defers = a.defers → Q .normal a' w') : (Code.region id ops draw).wpIn (FR ro') 0 P Q a w := by
  cases draw with
  | true =>
    obtain ⟨ts', h', hk, hr⟩ := draw_right hG rcD hD frz ops ts h k r e
    exact hr N μ w a ro' Q id d hts fun μ' a' w' p h1 h2 => K ts' h' μ' a' w' hk p h1 h2
  | false =>
    have hs := seqF_ok hG hrc ops.toList 0 rfl ts h e N μ w a ro' Q d hts K
    rw [Array.length_toList, ← List.range_eq_range'] at hs
    exact wpIn_region hs
theorem codeF_ok [Orc] [OrcOk P] (hG : G.l.all (fun x => x.2.1.toList.all (gr 6)) = true) {rcD : Rec} (hD : Right P G rcD) {rc : Rec} (hrc : RightS P G rc) (hl : RightLS P G rc) : ∀ (c : Code) (ro : Option Nat) (frz : List Nat) (ts : Fr) (ds : List Nat) (h : SH) (k : KE) (r : Value), (codeF P G rcD c).run rc ro frz ts ds h k = some r →
    CodeS P G ro frz c ts ds h k r := by
  intro c
  induction c with
  | skip => intro ro frz ts ds h k r e N μ ro' a w Q d hts hds hro K; exact wpIn_skip (K .normal ts ds h μ a w e (Post.refl d) hts hds)
  | label l => intro ro frz ts ds h k r e N μ ro' a w Q d hts hds hro K; exact wpIn_label (K .normal ts ds h μ a w e (Post.refl d) hts hds)
  | ret => intro ro frz ts ds h k r e N μ ro' a w Q d hts hds hro K; exact wpIn_ret (K .ret ts ds h μ a w e (Post.refl d) hts hds)
  | exit id => intro ro frz ts ds h k r e N μ ro' a w Q d hts hds hro K; exact wpIn_exit (K (.exit id) ts ds h μ a w e (Post.refl d) hts hds)
  | seq x y ix iy =>
    intro ro frz ts ds h k r e N μ ro' a w Q d hts hds hro K
    have e : (codeF P G rcD x).run rc ro frz ts ds h (fun e ts' ds' h' => SE.rec (motive := fun _ => An) ((codeF P G rcD y).run rc ro frz ts' ds' h' k) (fun id => k (.exit id) ts' ds' h') (k .ret ts' ds' h') e) = some r := e
    refine wpIn_seq (ix _ _ _ _ _ _ _ e N μ ro' a w _ d hts hds hro fun e1 ts1 ds1 h1 μ1 a1 w1 hk1 p1 hts1 hds1 => ?_)
    cases e1 with
    | normal => exact iy _ _ _ _ _ _ _ hk1 N μ1 ro' a1 w1 Q p1.den hts1 hds1 (hro.mono p1.le) fun e ts' ds' h' μ' a' w' hk p => K e ts' ds' h' μ' a' w' hk (p1.trans p)
    | exit id => exact K _ _ _ _ μ1 a1 w1 hk1 p1 hts1 hds1
    | ret => exact K _ _ _ _ μ1 a1 w1 hk1 p1 hts1 hds1
  | cond x y z iy iz =>
    intro ro frz ts ds h k r e N μ ro' a w Q d hts hds hro K
    have e : (cond (constOk x) (⟨fun rc ro frz ts ds h k => condV ((opK x).run ts) ((codeF P G rcD y).run rc ro frz ts ds h k) ((codeF P G rcD z).run rc ro frz ts ds h k)⟩ : CK) ⟨fun _ _ _ _ _ _ _ => none⟩).run rc ro frz ts ds h k = some r := e
    cases hc : constOk x with
    | false => rw [hc] at e; cases e
    | true =>
      rw [hc] at e
      have e : condV ((opK x).run ts) ((codeF P G rcD y).run rc ro frz ts ds h k) ((codeF P G rcD z).run rc ro frz ts ds h k) = some r := e
      rw [opK_run] at e
      unfold condV at e
      split at e
      · rename_i t ht
        have hb : a.eval x = .bool t := by
          have hr := opnd_rel hts hc
          rw [ht] at hr
          generalize a.eval x = v at hr
          cases hr <;> rfl
        cases t with
        | true => exact wpIn_cond hb (iy _ _ _ _ _ _ _ e N μ ro' a w Q d hts hds hro K)
        | false => exact wpIn_cond hb (iz _ _ _ _ _ _ _ e N μ ro' a w Q d hts hds hro K)
      · cases e
  | block id x ix =>
    intro ro frz ts ds h k r e N μ ro' a w Q d hts hds hro K
    have e : (codeF P G rcD x).run rc ro frz ts ds h (fun e ts' ds' h' => SE.rec (motive := fun _ => An) (k .normal ts' ds' h') (fun id' => cond (Nat.beq id' id) (k .normal ts' ds' h') (k (.exit id') ts' ds' h')) (k .ret ts' ds' h') e) = some r := e
    refine wpIn_block (ix _ _ _ _ _ _ _ e N μ ro' a w _ d hts hds hro fun e1 ts1 ds1 h1 μ1 a1 w1 hk1 p1 hts1 hds1 => ?_)
    cases e1 with
    | normal => exact K _ _ _ _ μ1 a1 w1 hk1 p1 hts1 hds1
    | ret => exact K _ _ _ _ μ1 a1 w1 hk1 p1 hts1 hds1
    | exit id' =>
      have hk2 : cond (Nat.beq id' id) (k .normal ts1 ds1 h1) (k (.exit id') ts1 ds1 h1) = some r := hk1
      clear hk1
      cases hq : Nat.beq id' id with
      | true =>
        rw [hq, cond_true] at hk2
        have := Nat.eq_of_beq_eq_true hq
        subst this
        show Exit.inBlock id' Q (.exit id') a1 w1
        simp only [Exit.inBlock, if_true]
        exact K _ _ _ _ μ1 a1 w1 hk2 p1 hts1 hds1
      | false =>
        rw [hq, cond_false] at hk2
        have hne : id' ≠ id := fun e0 => by subst e0; simp at hq
        show Exit.inBlock id Q (.exit id') a1 w1
        simp only [Exit.inBlock, hne, if_false]
        exact K _ _ _ _ μ1 a1 w1 hk2 p1 hts1 hds1
  | loop x ix =>
    intro ro frz ts ds h k r e N μ ro' a w Q d hts hds hro K
    have e : (codeF P G rcD x).run rc ro frz ts ds h (fun e ts' ds' h' => SE.rec (motive := fun _ => An) (rc ro frz (.loop x) ts' ds' h' k) (fun id => k (.exit id) ts' ds' h') (k .ret ts' ds' h') e) = some r := e
    refine LoopX.wpIn (LoopX.unroll (ix _ _ _ _ _ _ _ e N μ ro' a w _ d hts hds hro fun e1 ts1 ds1 h1 μ1 a1 w1 hk1 p1 hts1 hds1 => ?_))
    cases e1 with
    | normal => exact hl _ _ _ _ _ _ _ _ hk1 N μ1 ro' a1 w1 Q p1.den hts1 hds1 (hro.mono p1.le) fun e ts' ds' h' μ' a' w' hk p => K e ts' ds' h' μ' a' w' hk (p1.trans p)
    | exit id => exact K _ _ _ _ μ1 a1 w1 hk1 p1 hts1 hds1
    | ret => exact K _ _ _ _ μ1 a1 w1 hk1 p1 hts1 hds1
  | scope x ix =>
    intro ro frz ts ds h k r e N μ ro' a w Q d hts hds hro K
    exact wpIn_scopeX (ix _ _ _ _ _ _ _ e N μ ro' a w _ d hts hds hro fun e1 ts1 ds1 h1 μ1 a1 w1 hk1 p1 hts1 hds1 => ⟨ex_goto e1, K e1 ts1 ds1 h1 μ1 a1 w1 hk1 p1 hts1 hds1⟩)
  | region id ops draw =>
    intro ro frz ts ds h k r e N μ ro' a w Q d hts hds hro K
    exact regionF_ok (draw := draw) hG hD hrc e N μ w a ro' Q id d hts fun ts' h' μ' a' w' hk p h1 h2 => K .normal ts' ds h' μ' a' w' hk p h1 (by rw [h2]; exact hds.mono p.le)
  | rangeFunc g ps assign body ia ib =>
    intro ro frz ts ds h k r e
    have e : (cond (constOk g) (⟨fun rc ro frz ts ds h k => rangeF P G rc ro frz ((opK g).run ts) ps assign body ts ds h k⟩ : CK) ⟨fun _ _ _ _ _ _ _ => none⟩).run rc ro frz ts ds h k = some r := e
    cases hc : constOk g with
    | false => rw [hc] at e; cases e
    | true =>
      rw [hc] at e
      exact rangeF_okS hG hrc hc e
  | goto l => intro ro frz ts ds h k r e; cases e
  | refuse s => intro ro frz ts ds h k r e; cases e
theorem loopF_ok [Orc] [OrcOk P] (hG : G.l.all (fun x => x.2.1.toList.all (gr 6)) = true) {rcD : Rec} (hD : Right P G rcD) {rc : Rec} (hrc : RightS P G rc) (hl : RightLS P G rc) : RightLS P G (fun ro frz c ts ds h k => (codeF P G rcD c).run rc ro frz ts ds h k) := by
  intro ro frz x ts ds h k r e N μ ro' a w Q d hts hds hro K
  have e : (codeF P G rcD x).run rc ro frz ts ds h (fun e ts' ds' h' => SE.rec (motive := fun _ => An) (rc ro frz (.loop x) ts' ds' h' k) (fun id => k (.exit id) ts' ds' h') (k .ret ts' ds' h') e) = some r := e
  refine LoopX.unroll (codeF_ok hG hD hrc hl _ _ _ _ _ _ _ _ e N μ ro' a w _ d hts hds hro fun e1 ts1 ds1 h1 μ1 a1 w1 hk1 p1 hts1 hds1 => ?_)
  cases e1 with
  | normal => exact hl _ _ _ _ _ _ _ _ hk1 N μ1 ro' a1 w1 Q p1.den hts1 hds1 (hro.mono p1.le) fun e ts' ds' h' μ' a' w' hk p => K e ts' ds' h' μ' a' w' hk (p1.trans p)
  | exit id => exact K _ _ _ _ μ1 a1 w1 hk1 p1 hts1 hds1
  | ret => exact K _ _ _ _ μ1 a1 w1 hk1 p1 hts1 hds1
theorem execF_right [Orc] [OrcOk P] (hG : G.l.all (fun x => x.2.1.toList.all (gr 6)) = true) (nd : Nat) : ∀ n, RightS P G (execF P G nd n) ∧ RightLS P G (execF P G nd n)
  | 0 => ⟨fun _ _ _ _ _ _ _ _ h => (by cases h), fun _ _ _ _ _ _ _ _ h => (by cases h)⟩
  | n + 1 => ⟨fun ro frz c ts ds h k r e => codeF_ok hG (exec_right hG nd) (execF_right hG nd n).1 (execF_right hG nd n).2 c ro frz ts ds h k r e, loopF_ok hG (exec_right hG nd) (execF_right hG nd n).1 (execF_right hG nd n).2⟩
end
/-- What an entry's call comes to at its own memory, whatever is chosen. -/
noncomputable def runEF [Orc] (P : Program) (nd n o : Nat) (x : Ent) : Option Value := callF P gl0 (execF P gl0 nd n) (List.range x.mem.length) (finfo P x.g) x.args (memSH x.mem { next := 0, tr := .nil, kin := .nil }) fun v h => match okRes x.mem.length h o x.res with
  | some cs => some (.tuple ⟨v :: cs⟩)
  | none => none
noncomputable def runSF [Orc] (P : Program) (nd n : Nat) (f : FuncId) : Option Value := callF P gl0 (execF P gl0 nd n) [] (finfo P f) [] sh0 fun v _ => some v
theorem closed_nullF {T : List (FuncId × Value)} {E : List Ent} {P : Program} {nd n : Nat} {f : FuncId} (hT : ∀ x ∈ T, NullR P x.1 x.2) (hE : ∀ x ∈ E, EntR P x) (h : isTrue (@runSF ⟨T, E, false, 0⟩ P nd n f) = true) : NullR P f (.bool true) := by
  letI : Orc := ⟨T, E, false, 0⟩
  haveI : OrcOk P := ⟨hT, hE⟩
  unfold isTrue at h
  split at h
  · rename_i b hb
    subst h
    unfold runSF at hb
    obtain ⟨hent, hc⟩ := callF_okS (by rfl) (execF_right (by rfl) nd n).1 hb
    refine ⟨rfl, hent, fun w => (hc _ _ w #[] (den0 P w) .nil).mono ?_⟩
    rintro e w' ⟨v, h', hk, μ', v', rfl, p, hv⟩
    cases hk
    exact ⟨by rw [bool_rel hv], p.bel.low⟩
  · cases h
/-- **An entry is right**, whatever is chosen. -/
theorem ent_okF {T : List (FuncId × Value)} {E : List Ent} {P : Program} {nd n o : Nat} {x : Ent} (hT : ∀ x ∈ T, NullR P x.1 x.2) (hE : ∀ x ∈ E, EntR P x) (hf : fineE x = true) (h : @runEF ⟨T, E, false, 0⟩ P nd n o x = some (.tuple ⟨endOf o x :: resOf x⟩)) : EntR P x := by
  letI : Orc := ⟨T, E, false, 0⟩
  haveI : OrcOk P := ⟨hT, hE⟩
  unfold runEF at h
  obtain ⟨hent, hc⟩ := callF_okS (by rfl) (execF_right (by rfl) nd n).1 h
  refine ⟨hent, fun μ w bs args' d hbs ha => (hc _ μ w args' d ha).mono ?_⟩
  rintro e w' ⟨v, h', hk, μ', v', rfl, p, hv⟩
  have hbel : Below w.heap.size w w' := ⟨p.bel.low.os, p.bel.low.tape, p.bel.low.output, p.bel.low.size, fun k hk => by
    by_cases hm : k ∈ bs
    · obtain ⟨j, κ, h1, h2⟩ := hbs k hm
      exact p.kp j (List.mem_range.2 h1) k κ h2
    · refine p.bel.oth k (List.mem_filter.2 ⟨List.mem_range.2 hk, ?_⟩)
      cases hq : bs.any fun b => Nat.beq b k with
      | false => rfl
      | true =>
        obtain ⟨b, hb, hbk⟩ := List.any_eq_true.1 hq
        exact absurd (by rw [← Nat.eq_of_beq_eq_true hbk]; exact hb) hm⟩
  refine ⟨?_, hbel⟩
  unfold EntE
  cases hr : x.res with
  | none =>
    simp only [hr, okRes, endOf, resOf, Option.some.injEq, Value.tuple.injEq, Array.mk.injEq, List.cons.injEq, and_true] at hk
    simp only [fineE, hr] at hf
    subst hk
    exact ⟨hf, by rw [hv.eq hf]⟩
  | some r =>
    simp only [fineE, hr, Bool.and_eq_true] at hf
    simp only [hr, endOf, resOf] at hk
    split at hk
    · rename_i cs hok
      simp only [Option.some.injEq, Value.tuple.injEq, Array.mk.injEq, List.cons.injEq] at hk
      obtain ⟨rfl, rfl⟩ := hk
      simp only [okRes] at hok
      split at hok
      · rename_i t cs2 f hget
        cases hcnd : (decide (t = r.1) && Nat.ble x.mem.length f && ((List.range x.mem.length).all fun k => famLow x.mem.length (h'.tr.get k))) with
        | false => rw [hcnd] at hok; cases hok
        | true =>
          rw [hcnd, cond_true, Option.some.injEq] at hok
          subst hok
          simp only [Bool.and_eq_true, decide_eq_true_eq] at hcnd
          obtain ⟨⟨rfl, hmf⟩, hall⟩ := hcnd
          have hmf := Nat.le_of_ble_eq_true hmf
          obtain ⟨b, κ, cur, sz, b1, b2, b3, b4, b5, b6, b7⟩ := p.den.blk o _ hget
          refine ⟨hf.2, v', b, κ, cur, sz, rfl, ?_, b3, b4, b5, b6, ?_, fun ν k hk => renB_rel b1 hk 4 _ _ hf.1 hv⟩
          · rcases Nat.lt_or_ge b w.heap.size with hlt | hge
            · exfalso
              by_cases hm : b ∈ bs
              · obtain ⟨j, κ', h1, h2⟩ := hbs b hm
                have hlow := List.all_eq_true.1 hall j (List.mem_range.2 h1)
                unfold famLow at hlow
                split at hlow
                · rename_i t3 cs3 f3 hsj
                  refine p.den.apart j o _ _ b κ' κ hsj hget (fun e => ?_) (p.le _ _ h2) b1
                  simp only [Nat.blt_eq] at hlow
                  simp only [famOf] at e
                  omega
                · cases hlow
              · refine b2.2 (List.mem_filter.2 ⟨List.mem_range.2 hlt, ?_⟩)
                cases hq : bs.any fun b' => Nat.beq b' b with
                | false => rfl
                | true =>
                  obtain ⟨b', hb', hbk⟩ := List.any_eq_true.1 hq
                  exact absurd (by rw [← Nat.eq_of_beq_eq_true hbk]; exact hb') hm
            · exact hge
          · exact ((RelL.eq b7 hf.2).symm).symm
      · cases hok
    · cases hk
end Go.Proofs.Ytnbgcblnbhlpjaa

/- A loop's rounds in pieces: states written out, a loop that goes on from one to another, entries whose loops are cut. Over any program. Conditions: as each law says. -/
namespace Go.Proofs.Ytnbgcblnbhlpjaa
open Go Go.RowKit
set_option linter.unusedSimpArgs false
set_option linter.unusedVariables false
/-- A state written out: the frame's values, its marks, the memory. -/
structure St where
  ts : List Value
  ds : List Nat
  next : Nat
  rows : List (Nat × SB)
  kin : List (Nat × List Nat)
noncomputable def St.fr (S : St) : Fr := Fr.of S.ts.length S.ts
noncomputable def layT {α : Type} : List (Nat × α) → Tr α → Tr α
  | [], t => t
  | x :: l, t => layT l (t.set x.1 (some x.2))
noncomputable def St.sh (S : St) : SH := { next := S.next, tr := layT S.rows .nil, kin := layT S.kin .nil }
def eqSB : SB → SB → Bool
  | .row t cs f, .row t' cs' f' => Nat.beq t t' && all2 (eqV 8) cs cs' && Nat.beq f f'
  | .map es s, .map es' s' => all2 (fun x y => eqV 8 x.1 y.1 && eqV 8 x.2 y.2) es es' && decide (s = s')
  | .mark, .mark => true
  | _, _ => false
noncomputable def okFr (ts : Fr) : Nat → List Value → Bool
  | _, [] => true
  | i, v :: l => eqV 8 (ts.get i) v && okFr ts (Nat.succ i) l
noncomputable def okRow (h : SH) (S : St) (x : Nat × SB) : Bool := (match h.tr.get x.1 with
  | some sb => eqSB sb x.2
  | none => false) && Nat.blt x.1 S.next && (match x.2 with
  | .row _ _ f => (kinOf S.sh f).any fun k => Nat.beq k x.1
  | _ => true)
/-- What is so of a state is so of the one that is written out, which may hold less memory. -/
noncomputable def okSt (S : St) (ts : Fr) (ds : List Nat) (h : SH) : Bool := Nat.beq ts.n S.ts.length && okFr ts 0 S.ts && decide (ds = S.ds) && Nat.ble h.next S.next && S.rows.all (okRow h S) && S.kin.all fun x => Nat.blt x.1 S.next
theorem eqSB_eq {a b : SB} (h : eqSB a b = true) : a = b := by
  unfold eqSB at h
  split at h
  · simp only [Bool.and_eq_true] at h
    rw [Nat.eq_of_beq_eq_true h.1.1, all2_eq (eqV_eq 8) h.1.2, Nat.eq_of_beq_eq_true h.2]
  · simp only [Bool.and_eq_true, decide_eq_true_eq] at h
    rw [h.2, all2_eq (fun x y hxy => ?_) h.1]
    rw [Bool.and_eq_true] at hxy
    exact Prod.ext (eqV_eq 8 _ _ hxy.1) (eqV_eq 8 _ _ hxy.2)
  · rfl
  · cases h
theorem layT_get {α : Type} : ∀ (l : List (Nat × α)) (t : Tr α) (j : Nat) {x : α}, (layT l t).get j = some x → (j, x) ∈ l ∨ t.get j = some x
  | [], _, _, _, h => .inr h
  | y :: l, t, j, x, h => by
    rcases layT_get l _ j h with h1 | h1
    · exact .inl (List.mem_cons_of_mem _ h1)
    · rw [Tr.get_set] at h1
      split at h1
      · rename_i e
        cases h1
        exact .inl (by rw [e]; exact List.mem_cons_self)
      · exact .inr h1
theorem okFr_get {ts : Fr} : ∀ (l : List Value) (i : Nat), okFr ts i l = true → ∀ (k : Nat) {v : Value}, l[k]? = some v → ts.get (i + k) = v
  | [], _, _, k, v, h => by simp at h
  | x :: l, i, h, k, v, hv => by
    simp only [okFr, Bool.and_eq_true] at h
    cases k with
    | zero =>
      obtain rfl : x = v := by simpa using hv
      exact eqV_eq 8 _ _ h.1
    | succ k =>
      have := okFr_get l (Nat.succ i) h.2 k (by simpa using hv)
      rw [← this]; congr 1; omega
section
variable {P : Program} {N : Lim} {G : Gl} {μ : Mu} {h : SH} {w : World} {frz : List Nat}
theorem okSt_fr {S : St} {ts : Fr} {ds : List Nat} (ok : okSt S ts ds h = true) {tmps : Array Value} (r : RelF μ ts tmps) : RelF μ S.fr tmps := by
  simp only [okSt, Bool.and_eq_true] at ok
  obtain ⟨⟨⟨⟨⟨h1, h2⟩, _⟩, _⟩, _⟩, _⟩ := ok
  have h1 := Nat.eq_of_beq_eq_true h1
  have hle := r.le
  have hn := r.n
  refine ⟨?_, ?_, fun i => ?_⟩
  · show (Fr.of S.ts.length S.ts).n = _
    rw [Fr.of_n _ _ (by omega)]; omega
  · show (Fr.of S.ts.length S.ts).n ≤ 512
    rw [Fr.of_n _ _ (by omega)]; omega
  · show Rel μ ((Fr.of S.ts.length S.ts).get i) _
    rw [Fr.of_get _ _ (by omega) _ (Nat.le_refl _)]
    rcases Nat.lt_or_ge i S.ts.length with hi | hi
    · have := okFr_get _ _ h2 i (List.getElem?_eq_getElem hi)
      rw [Nat.zero_add] at this
      rw [List.getD_eq_getElem?_getD, List.getElem?_eq_getElem hi, Option.getD_some, ← this]
      exact r.at' i
    · rw [List.getD_eq_getElem?_getD, List.getElem?_eq_none hi, Option.getD_none]
      have : tmps.getD i undef = undef := by
        have : ¬ i < tmps.size := by omega
        simp [Array.getD, this]
      rw [this]
      exact .ground rfl
theorem okSt_ds {S : St} {ts : Fr} {ds : List Nat} (ok : okSt S ts ds h = true) : ds = S.ds := by
  simp only [okSt, Bool.and_eq_true, decide_eq_true_eq] at ok
  exact ok.1.1.1.2
theorem okSt_den {S : St} {ts : Fr} {ds : List Nat} (ok : okSt S ts ds h = true) (d : Den P N G μ h w) : Den P N G μ S.sh w := by
  simp only [okSt, Bool.and_eq_true] at ok
  obtain ⟨⟨⟨_, h4⟩, h5⟩, h6⟩ := ok
  have h4 := Nat.le_of_ble_eq_true h4
  have row : ∀ j sb, S.sh.tr.get j = some sb → h.tr.get j = some sb ∧ j < S.next ∧ ∀ t cs f, sb = .row t cs f → j ∈ kinOf S.sh f := fun j sb hj => by
    rcases layT_get S.rows .nil j hj with hm | hm
    · have := List.all_eq_true.1 h5 _ hm
      simp only [okRow, Bool.and_eq_true] at this
      obtain ⟨⟨a, b⟩, c⟩ := this
      simp only [Nat.blt_eq] at b
      refine ⟨?_, b, fun t cs f e => ?_⟩
      · split at a
        · rename_i sb' hg
          rw [hg, eqSB_eq a]
        · cases a
      · subst e
        obtain ⟨k, hk, hq⟩ := List.any_eq_true.1 c
        rw [← Nat.eq_of_beq_eq_true hq]; exact hk
    · rw [Tr.get_nil] at hm; cases hm
  refine ⟨d.base, fun j sb hj => d.blk j sb (row j sb hj).1, fun j hj => ?_, fun j hj => d.muOld j (by simp only [St.sh] at hj; omega), fun i j si sj b κ κ' hi hj => d.apart i j si sj b κ κ' (row i si hi).1 (row j sj hj).1,
    fun j t cs f hj => (row j _ hj).2.2 t cs f rfl, fun j t cs f hj => Nat.lt_of_lt_of_le (d.famLt j t cs f (row j _ hj).1) h4, fun f hf => ?_, d.glob⟩
  · cases hg : S.sh.tr.get j with
    | none => rfl
    | some sb =>
      have := (row j sb hg).2.1
      simp only [St.sh] at hj
      omega
  · cases hg : S.sh.kin.get f with
    | none => rfl
    | some l =>
      rcases layT_get S.kin .nil f hg with hm | hm
      · have := List.all_eq_true.1 h6 _ hm
        simp only [Nat.blt_eq] at this
        simp only [St.sh] at hf
        omega
      · rw [Tr.get_nil] at hm; cases hm
/-- So many rounds of a loop. -/
noncomputable def roundsW [Orc] (P : Program) (G : Gl) (rc : Rec) (x : Code) (frz : List Nat) (m : Nat) : Fr → List Nat → SH → (Fr → List Nat → SH → An) → An := Nat.rec (motive := fun _ => Fr → List Nat → SH → (Fr → List Nat → SH → An) → An) (fun ts ds h k => k ts ds h)
  (fun _ ih ts ds h k => (codeW P G x).run rc none frz ts ds h fun e ts' ds' h' => SE.rec (motive := fun _ => An) (ih ts' ds' h' k) (fun _ => none) none e) m
/-- A loop that has been entered goes on from a state to another one. -/
def LoopR (P : Program) (G : Gl) (frz : List Nat) (x : Code) (s z : St) : Prop := ∀ (N : Lim) (μ : Mu) (ro' : Option Nat) (a : Act) (w : World) (Q : Exit → Act → World → Prop), Den P N G μ s.sh w → RelF μ s.fr a.tmps → DefR μ s.ds a.defers → RoR μ none ro' →
  (∀ μ' a' w', Post P N G μ frz w z.sh μ' w' → RelF μ' z.fr a'.tmps → DefR μ' z.ds a'.defers → LoopX (FR ro') 0 P x Q a' w') → LoopX (FR ro') 0 P x Q a w
/-- .. and ends so. -/
def LoopE (P : Program) (G : Gl) (frz : List Nat) (x : Code) (s : St) (e : SE) (z : St) : Prop := ∀ (N : Lim) (μ : Mu) (ro' : Option Nat) (a : Act) (w : World) (Q : Exit → Act → World → Prop), Den P N G μ s.sh w → RelF μ s.fr a.tmps → DefR μ s.ds a.defers → RoR μ none ro' →
  (∀ μ' a' w', Post P N G μ frz w z.sh μ' w' → RelF μ' z.fr a'.tmps → DefR μ' z.ds a'.defers → Q e.ex a' w') → LoopX (FR ro') 0 P x Q a w
theorem LoopR.then {x : Code} {s t z : St} {e : SE} (r : LoopR P G frz x s t) (q : LoopE P G frz x t e z) : LoopE P G frz x s e z := fun N μ ro' a w Q d hts hds hro K =>
  r N μ ro' a w Q d hts hds hro fun μ1 a1 w1 p1 hts1 hds1 => q N μ1 ro' a1 w1 Q p1.den hts1 hds1 (hro.mono p1.le) fun μ' a' w' p => K μ' a' w' (p1.trans p)
theorem rounds_ok [Orc] [OrcOk P] (hG : G.l.all (fun x => x.2.1.toList.all (gr 6)) = true) {rc : Rec} (hrc : Right P G rc) (hl : RightL P G rc) {x : Code} : ∀ (m : Nat) (ts : Fr) (ds : List Nat) (h : SH) {k : Fr → List Nat → SH → An} {r : Value}, roundsW P G rc x frz m ts ds h k = some r →
    ∃ ts' ds' h', k ts' ds' h' = some r ∧ ∀ (N : Lim) (μ : Mu) (ro' : Option Nat) (a : Act) (w : World) (Q : Exit → Act → World → Prop), Den P N G μ h w → RelF μ ts a.tmps → DefR μ ds a.defers → RoR μ none ro' →
      (∀ μ' a' w', Post P N G μ frz w h' μ' w' → RelF μ' ts' a'.tmps → DefR μ' ds' a'.defers → LoopX (FR ro') 0 P x Q a' w') → LoopX (FR ro') 0 P x Q a w
  | 0, ts, ds, h, k, r, e => ⟨ts, ds, h, e, fun N μ ro' a w Q d hts hds hro K => K μ a w (Post.refl d) hts hds⟩
  | m + 1, ts, ds, h, k, r, e => by
    have e : (codeW P G x).run rc none frz ts ds h (fun e ts' ds' h' => SE.rec (motive := fun _ => An) (roundsW P G rc x frz m ts' ds' h' k) (fun _ => none) none e) = some r := e
    obtain ⟨e1, ts1, ds1, h1, hk1, c1⟩ := code_ok hG (draw_right hG) hrc hl _ _ _ _ _ _ _ _ e
    cases e1 with
    | normal =>
      obtain ⟨ts2, ds2, h2, hk2, c2⟩ := rounds_ok hG hrc hl m ts1 ds1 h1 hk1
      exact ⟨ts2, ds2, h2, hk2, fun N μ ro' a w Q d hts hds hro K => LoopX.unroll (c1 N μ ro' a w _ d hts hds hro fun μ1 a1 w1 p1 hts1 hds1 => c2 N μ1 ro' a1 w1 Q p1.den hts1 hds1 (hro.mono p1.le) fun μ' a' w' p => K μ' a' w' (p1.trans p))⟩
    | exit id => cases hk1
    | ret => cases hk1
/-- A piece of a loop. -/
theorem piece_ok {T : List (FuncId × Value)} {E : List Ent} {P : Program} {frz : List Nat} (hT : ∀ x ∈ T, NullR P x.1 x.2) (hE : ∀ x ∈ E, EntR P x) {n m : Nat} {x : Code} {s z : St}
    (e : @roundsW ⟨T, E, false, 0⟩ P gl0 (@exec ⟨T, E, false, 0⟩ P gl0 n) x frz m s.fr s.ds s.sh (fun ts ds h => cond (okSt z ts ds h) (some (.bool true)) none) = some (.bool true)) : LoopR P gl0 frz x s z := by
  letI : Orc := ⟨T, E, false, 0⟩
  haveI : OrcOk P := ⟨hT, hE⟩
  have hG : gl0.l.all (fun x => x.2.1.toList.all (gr 6)) = true := rfl
  obtain ⟨ts, ds, h, hk, c⟩ := rounds_ok hG (right_exec hG (draw_right hG) n).1 (right_exec hG (draw_right hG) n).2 m _ _ _ e
  cases hok : okSt z ts ds h with
  | false => rw [hok] at hk; cases hk
  | true => exact fun N μ ro' a w Q d hts hds hro K => c N μ ro' a w Q d hts hds hro fun μ' a' w' p h1 h2 => K μ' a' w' ⟨p.le, okSt_den hok p.den, p.bel, p.kp⟩ (okSt_fr hok h1) (by rw [← okSt_ds hok]; exact h2)
def eqSE : SE → SE → Bool
  | .normal, .normal => true
  | .exit i, .exit j => Nat.beq i j
  | .ret, .ret => true
  | _, _ => false
theorem eqSE_eq {a b : SE} (h : eqSE a b = true) : a = b := by
  unfold eqSE at h
  split at h
  · rfl
  · rw [Nat.eq_of_beq_eq_true h]
  · rfl
  · cases h
/-- The last piece. -/
theorem last_ok {T : List (FuncId × Value)} {E : List Ent} {P : Program} {frz : List Nat} (hT : ∀ x ∈ T, NullR P x.1 x.2) (hE : ∀ x ∈ E, EntR P x) {n : Nat} {x : Code} {s z : St} {e0 : SE}
    (e : @exec ⟨T, E, false, 0⟩ P gl0 n none frz (.loop x) s.fr s.ds s.sh (fun e ts ds h => cond (eqSE e e0 && okSt z ts ds h) (some (.bool true)) none) = some (.bool true)) : LoopE P gl0 frz x s e0 z := by
  letI : Orc := ⟨T, E, false, 0⟩
  haveI : OrcOk P := ⟨hT, hE⟩
  have hG : gl0.l.all (fun x => x.2.1.toList.all (gr 6)) = true := rfl
  obtain ⟨e1, ts, ds, h, hk, c⟩ := (right_exec hG (draw_right hG) n).2 _ _ _ _ _ _ _ _ e
  cases hok : (eqSE e1 e0 && okSt z ts ds h) with
  | false => rw [hok] at hk; cases hk
  | true =>
    rw [Bool.and_eq_true] at hok
    obtain ⟨he, hok⟩ := hok
    have he := eqSE_eq he
    subst he
    exact fun N μ ro' a w Q d hts hds hro K => c N μ ro' a w Q d hts hds hro fun μ' a' w' p h1 h2 => K μ' a' w' ⟨p.le, okSt_den hok p.den, p.bel, p.kp⟩ (okSt_fr hok h1) (by rw [← okSt_ds hok]; exact h2)
/-- A loop whose end is known: the how manieth of those of a body that stand in no loop, where it begins, how and where it ends. -/
structure Cut where
  i : Nat
  s : St
  e : SE
  z : St
def CutR (P : Program) (frz : List Nat) (x : Code) (c : Cut) : Prop := CodeR P gl0 none frz (.loop x) c.s.fr c.s.ds c.s.sh c.e c.z.fr c.z.ds c.z.sh
theorem LoopE.cut {x : Code} {i : Nat} {s z : St} {e : SE} (q : LoopE P gl0 frz x s e z) : CutR P frz x ⟨i, s, e, z⟩ := fun N μ ro' a w Q d hts hds hro K => LoopX.wpIn (q N μ ro' a w Q d hts hds hro K)
def loopsIn : Code → Nat
  | .seq a b => loopsIn a + loopsIn b
  | .cond _ a b => loopsIn a + loopsIn b
  | .block _ a => loopsIn a
  | .loop _ => 1
  | .scope a => loopsIn a
  | _ => 0
def loopAt : Code → Nat → Option Code
  | .seq a b, j => cond (Nat.blt j (loopsIn a)) (loopAt a j) (loopAt b (j - loopsIn a))
  | .cond _ a b, j => cond (Nat.blt j (loopsIn a)) (loopAt a j) (loopAt b (j - loopsIn a))
  | .block _ a, j => loopAt a j
  | .loop a, j => cond (Nat.beq j 0) (some a) none
  | .scope a, j => loopAt a j
  | _, _ => none
/-- Code some loops of which have known ends. -/
noncomputable def codeC [Orc] (P : Program) (cuts : List Cut) : Code → Nat → CK
  | .seq a b, i => ⟨fun rc ro frz ts ds h k => (codeC P cuts a i).run rc ro frz ts ds h fun e ts' ds' h' => SE.rec (motive := fun _ => An) ((codeC P cuts b (i + loopsIn a)).run rc ro frz ts' ds' h' k) (fun id => k (.exit id) ts' ds' h') (k .ret ts' ds' h') e⟩
  | .block id a, i => ⟨fun rc ro frz ts ds h k => (codeC P cuts a i).run rc ro frz ts ds h fun e ts' ds' h' => SE.rec (motive := fun _ => An) (k .normal ts' ds' h') (fun id' => cond (Nat.beq id' id) (k .normal ts' ds' h') (k (.exit id') ts' ds' h')) (k .ret ts' ds' h') e⟩
  | .scope a, i => codeC P cuts a i
  | .loop a, i => match cuts.find? (fun c => Nat.beq c.i i) with
    | some c => ⟨fun _ ro _ ts ds h k => match ro with
      | none => cond (okSt c.s ts ds h) (k c.e c.z.fr c.z.ds c.z.sh) none
      | some _ => none⟩
    | none => codeW P gl0 (.loop a)
  | c, _ => codeW P gl0 c
theorem codeC_ok [Orc] {P : Program} [OrcOk P] {cuts : List Cut} {rc : Rec} (hrc : Right P gl0 rc) (hl : RightL P gl0 rc) {frz : List Nat} : ∀ (c : Code) (i : Nat), (∀ q ∈ cuts, ∀ j x, q.i = i + j → loopAt c j = some x → CutR P frz x q) →
    ∀ (ro : Option Nat) (ts : Fr) (ds : List Nat) (h : SH) (k : KE) (r : Value), (codeC P cuts c i).run rc ro frz ts ds h k = some r → ∃ e ts' ds' h', k e ts' ds' h' = some r ∧ CodeR P gl0 ro frz c ts ds h e ts' ds' h' := by
  have hG : gl0.l.all (fun x => x.2.1.toList.all (gr 6)) = true := rfl
  have hD : DrawRight P gl0 := draw_right hG
  intro c
  induction c with
  | seq x y ix iy =>
    intro i H ro ts ds h k r e
    have e : (codeC P cuts x i).run rc ro frz ts ds h (fun e ts' ds' h' => SE.rec (motive := fun _ => An) ((codeC P cuts y (i + loopsIn x)).run rc ro frz ts' ds' h' k) (fun id => k (.exit id) ts' ds' h') (k .ret ts' ds' h') e) = some r := e
    have hlt : ∀ (c : Code) (j : Nat) (z : Code), loopAt c j = some z → j < loopsIn c := by
      intro c
      induction c with
      | seq a b ia ib =>
        intro j z hz
        simp only [loopAt] at hz
        cases hb : Nat.blt j (loopsIn a) with
        | true => simp only [Nat.blt_eq] at hb; simp only [loopsIn]; omega
        | false =>
          rw [hb] at hz
          have := ib _ _ hz
          have hb : ¬ j < loopsIn a := fun hq => by rw [← Nat.blt_eq] at hq; rw [hb] at hq; cases hq
          simp only [loopsIn]; omega
      | cond q a b ia ib =>
        intro j z hz
        simp only [loopAt] at hz
        cases hb : Nat.blt j (loopsIn a) with
        | true => simp only [Nat.blt_eq] at hb; simp only [loopsIn]; omega
        | false =>
          rw [hb] at hz
          have := ib _ _ hz
          have hb : ¬ j < loopsIn a := fun hq => by rw [← Nat.blt_eq] at hq; rw [hb] at hq; cases hq
          simp only [loopsIn]; omega
      | block id a ia => intro j z hz; exact ia j z hz
      | scope a ia => intro j z hz; exact ia j z hz
      | loop a ia =>
        intro j z hz
        simp only [loopAt] at hz
        cases hb : Nat.beq j 0 with
        | true => have := Nat.eq_of_beq_eq_true hb; simp only [loopsIn]; omega
        | false => rw [hb] at hz; cases hz
      | _ => intro j z hz; cases hz
    obtain ⟨e1, ts1, ds1, h1, hk1, c1⟩ := ix i (fun q hq j z hi hz => H q hq j z hi (by simp only [loopAt]; rw [show Nat.blt j (loopsIn x) = true from by rw [Nat.blt_eq]; exact hlt x j z hz]; exact hz)) _ _ _ _ _ _ e
    cases e1 with
    | normal =>
      obtain ⟨e2, ts2, ds2, h2, hk2, c2⟩ := iy (i + loopsIn x) (fun q hq j z hi hz => H q hq (loopsIn x + j) z (by omega) (by
        simp only [loopAt]
        rw [show Nat.blt (loopsIn x + j) (loopsIn x) = false from by cases hb : Nat.blt (loopsIn x + j) (loopsIn x) with | false => rfl | true => (simp only [Nat.blt_eq] at hb; omega)]
        rw [cond_false, Nat.add_sub_cancel_left]; exact hz)) _ _ _ _ _ _ hk1
      refine ⟨e2, ts2, ds2, h2, hk2, fun N μ ro' a w Q d hts hds hro K => wpIn_seq ?_⟩
      exact c1 N μ ro' a w _ d hts hds hro fun μ1 a1 w1 p1 hts1 hds1 => c2 N μ1 ro' a1 w1 Q p1.den hts1 hds1 (hro.mono p1.le) fun μ' a' w' p => K μ' a' w' (p1.trans p)
    | exit id => exact ⟨_, _, _, _, hk1, fun N μ ro' a w Q d hts hds hro K => wpIn_seq (c1 N μ ro' a w _ d hts hds hro fun μ1 a1 w1 p1 hts1 hds1 => K μ1 a1 w1 p1 hts1 hds1)⟩
    | ret => exact ⟨_, _, _, _, hk1, fun N μ ro' a w Q d hts hds hro K => wpIn_seq (c1 N μ ro' a w _ d hts hds hro fun μ1 a1 w1 p1 hts1 hds1 => K μ1 a1 w1 p1 hts1 hds1)⟩
  | block id x ix =>
    intro i H ro ts ds h k r e
    have e : (codeC P cuts x i).run rc ro frz ts ds h (fun e ts' ds' h' => SE.rec (motive := fun _ => An) (k .normal ts' ds' h') (fun id' => cond (Nat.beq id' id) (k .normal ts' ds' h') (k (.exit id') ts' ds' h')) (k .ret ts' ds' h') e) = some r := e
    obtain ⟨e1, ts1, ds1, h1, hk1, c1⟩ := ix i H _ _ _ _ _ _ e
    cases e1 with
    | normal => exact ⟨_, _, _, _, hk1, fun N μ ro' a w Q d hts hds hro K => wpIn_block (c1 N μ ro' a w _ d hts hds hro fun μ1 a1 w1 p1 hts1 hds1 => K μ1 a1 w1 p1 hts1 hds1)⟩
    | ret => exact ⟨_, _, _, _, hk1, fun N μ ro' a w Q d hts hds hro K => wpIn_block (c1 N μ ro' a w _ d hts hds hro fun μ1 a1 w1 p1 hts1 hds1 => K μ1 a1 w1 p1 hts1 hds1)⟩
    | exit id' =>
      have hk2 : cond (Nat.beq id' id) (k .normal ts1 ds1 h1) (k (.exit id') ts1 ds1 h1) = some r := hk1
      clear hk1
      cases hq : Nat.beq id' id with
      | true =>
        rw [hq, cond_true] at hk2
        have := Nat.eq_of_beq_eq_true hq
        subst this
        refine ⟨_, _, _, _, hk2, fun N μ ro' a w Q d hts hds hro K => wpIn_block (c1 N μ ro' a w _ d hts hds hro fun μ1 a1 w1 p1 hts1 hds1 => ?_)⟩
        show Exit.inBlock id' Q (.exit id') a1 w1
        simp only [Exit.inBlock, if_true]
        exact K μ1 a1 w1 p1 hts1 hds1
      | false =>
        rw [hq, cond_false] at hk2
        have hne : id' ≠ id := fun e0 => by subst e0; simp at hq
        refine ⟨_, _, _, _, hk2, fun N μ ro' a w Q d hts hds hro K => wpIn_block (c1 N μ ro' a w _ d hts hds hro fun μ1 a1 w1 p1 hts1 hds1 => ?_)⟩
        show Exit.inBlock id Q (.exit id') a1 w1
        simp only [Exit.inBlock, hne, if_false]
        exact K μ1 a1 w1 p1 hts1 hds1
  | scope x ix =>
    intro i H ro ts ds h k r e
    obtain ⟨e1, ts1, ds1, h1, hk1, c1⟩ := ix i H _ _ _ _ _ _ e
    exact ⟨e1, ts1, ds1, h1, hk1, fun N μ ro' a w Q d hts hds hro K => wpIn_scopeX (c1 N μ ro' a w _ d hts hds hro fun μ1 a1 w1 p1 hts1 hds1 => ⟨ex_goto e1, K μ1 a1 w1 p1 hts1 hds1⟩)⟩
  | loop x ix =>
    intro i H ro ts ds h k r e
    simp only [codeC] at e
    split at e
    · rename_i c hf
      have hm := List.mem_of_find?_eq_some hf
      have hq := List.find?_some hf
      have hi := Nat.eq_of_beq_eq_true hq
      cases ro with
      | some l => cases e
      | none =>
        simp only at e
        cases hok : okSt c.s ts ds h with
        | false => rw [hok] at e; cases e
        | true =>
          rw [hok, cond_true] at e
          refine ⟨_, _, _, _, e, fun N μ ro' a w Q d hts hds hro K => ?_⟩
          exact H c hm 0 x (by omega) rfl N μ ro' a w Q (okSt_den hok d) (okSt_fr hok hts) (by rw [← okSt_ds hok]; exact hds) hro K
    · exact code_ok hG hD hrc hl _ _ _ _ _ _ _ _ e
  | _ =>
    intro i H ro ts ds h k r e
    simp only [codeC] at e
    exact code_ok hG hD hrc hl _ _ _ _ _ _ _ _ e
/-- The loop of a function's body. -/
noncomputable def bodyLoop (P : Program) (g : FuncId) (i : Nat) : Code := match loopAt (finfo P g).body i with
  | some x => x
  | none => .skip
noncomputable def recC [Orc] (P : Program) (n : Nat) (cuts : List Cut) : Rec := fun ro frz c ts ds h k => (codeC P cuts c 0).run (exec P gl0 n) ro frz ts ds h k
noncomputable def runEC [Orc] (P : Program) (n : Nat) (cuts : List Cut) (o : Nat) (x : Ent) : Option Value := callF P gl0 (recC P n cuts) (List.range x.mem.length) (finfo P x.g) x.args (memSH x.mem { next := 0, tr := .nil, kin := .nil }) fun v h => match okRes x.mem.length h o x.res with
  | some cs => some (.tuple ⟨v :: cs⟩)
  | none => none
/-- **An entry is right** some loops of whose function are cut. -/
theorem ent_okC {T : List (FuncId × Value)} {E : List Ent} {P : Program} {n o : Nat} {x : Ent} (hT : ∀ x ∈ T, NullR P x.1 x.2) (hE : ∀ x ∈ E, EntR P x) {cuts : List Cut} (hc : ∀ q ∈ cuts, CutR P (List.range x.mem.length) (bodyLoop P x.g q.i) q) (hf : fineE x = true) (h : @runEC ⟨T, E, false, 0⟩ P n cuts o x = some (.tuple ⟨endOf o x :: resOf x⟩)) : EntR P x := by
  letI : Orc := ⟨T, E, false, 0⟩
  haveI : OrcOk P := ⟨hT, hE⟩
  unfold runEC at h
  have hG : gl0.l.all (fun x => x.2.1.toList.all (gr 6)) = true := rfl
  obtain ⟨v, h', hk, hent, hc⟩ := callF_okB hG (fun ro ts ds h k r e => codeC_ok (right_exec hG (draw_right hG) n).1 (right_exec hG (draw_right hG) n).2 _ 0 (fun q hq j z hi hz => by
    have := hc q hq
    rw [show q.i = j from by omega] at this
    unfold bodyLoop at this
    rw [hz] at this
    exact this) ro ts ds h k r e) h
  refine ⟨hent, fun μ w bs args' d hbs ha => (hc _ μ w args' d ha).mono ?_⟩
  rintro e w' ⟨μ', v', rfl, p, hv⟩
  have hbel : Below w.heap.size w w' := ⟨p.bel.low.os, p.bel.low.tape, p.bel.low.output, p.bel.low.size, fun k hk => by
    by_cases hm : k ∈ bs
    · obtain ⟨j, κ, h1, h2⟩ := hbs k hm
      exact p.kp j (List.mem_range.2 h1) k κ h2
    · refine p.bel.oth k (List.mem_filter.2 ⟨List.mem_range.2 hk, ?_⟩)
      cases hq : bs.any fun b => Nat.beq b k with
      | false => rfl
      | true =>
        obtain ⟨b, hb, hbk⟩ := List.any_eq_true.1 hq
        exact absurd (by rw [← Nat.eq_of_beq_eq_true hbk]; exact hb) hm⟩
  refine ⟨?_, hbel⟩
  unfold EntE
  cases hr : x.res with
  | none =>
    simp only [hr, okRes, endOf, resOf, Option.some.injEq, Value.tuple.injEq, Array.mk.injEq, List.cons.injEq, and_true] at hk
    simp only [fineE, hr] at hf
    subst hk
    exact ⟨hf, by rw [hv.eq hf]⟩
  | some r =>
    simp only [fineE, hr, Bool.and_eq_true] at hf
    simp only [hr, endOf, resOf] at hk
    split at hk
    · rename_i cs hok
      simp only [Option.some.injEq, Value.tuple.injEq, Array.mk.injEq, List.cons.injEq] at hk
      obtain ⟨rfl, rfl⟩ := hk
      simp only [okRes] at hok
      split at hok
      · rename_i t cs2 f hget
        cases hcnd : (decide (t = r.1) && Nat.ble x.mem.length f && ((List.range x.mem.length).all fun k => famLow x.mem.length (h'.tr.get k))) with
        | false => rw [hcnd] at hok; cases hok
        | true =>
          rw [hcnd, cond_true, Option.some.injEq] at hok
          subst hok
          simp only [Bool.and_eq_true, decide_eq_true_eq] at hcnd
          obtain ⟨⟨rfl, hmf⟩, hall⟩ := hcnd
          have hmf := Nat.le_of_ble_eq_true hmf
          obtain ⟨b, κ, cur, sz, b1, b2, b3, b4, b5, b6, b7⟩ := p.den.blk o _ hget
          refine ⟨hf.2, v', b, κ, cur, sz, rfl, ?_, b3, b4, b5, b6, ?_, fun ν k hk => renB_rel b1 hk 4 _ _ hf.1 hv⟩
          · rcases Nat.lt_or_ge b w.heap.size with hlt | hge
            · exfalso
              by_cases hm : b ∈ bs
              · obtain ⟨j, κ', h1, h2⟩ := hbs b hm
                have hlow := List.all_eq_true.1 hall j (List.mem_range.2 h1)
                unfold famLow at hlow
                split at hlow
                · rename_i t3 cs3 f3 hsj
                  refine p.den.apart j o _ _ b κ' κ hsj hget (fun e => ?_) (p.le _ _ h2) b1
                  simp only [Nat.blt_eq] at hlow
                  simp only [famOf] at e
                  omega
                · cases hlow
              · refine b2.2 (List.mem_filter.2 ⟨List.mem_range.2 hlt, ?_⟩)
                cases hq : bs.any fun b' => Nat.beq b' b with
                | false => rfl
                | true =>
                  obtain ⟨b', hb', hbk⟩ := List.any_eq_true.1 hq
                  exact absurd (by rw [← Nat.eq_of_beq_eq_true hbk]; exact hb') hm
            · exact hge
          · exact ((RelL.eq b7 hf.2).symm).symm
      · cases hok
    · cases hk
end
end Go.Proofs.Ytnbgcblnbhlpjaa
