/- Ranges over maps on the shadow: the iterator, its steps in whatever order, the entry of a step. Over any program. Conditions: as each law says. -/
import Derived.Test.YtnhojiooiedabaaXQ
import Derived.Maps.RangeRun
namespace Go.Proofs.Ytnhojiooiedabaa
open Go Go.RowKit
/-- Two values are the same. -/
def eqV : Nat → Value → Value → Bool
  | 0, _, _ => false
  | d + 1, v, v' => match v, v' with
    | .int k n, .int k' n' => decide (k = k') && decide (n = n')
    | .bool b, .bool b' => decide (b = b')
    | .string s, .string s' => decide (s = s')
    | .slice none n c, .slice none n' c' => Nat.beq n n' && Nat.beq c c'
    | .pointer none, .pointer none => true
    | .slice (some a) n c, .slice (some a') n' c' => decide (a = a') && Nat.beq n n' && Nat.beq c c'
    | .agg cs, .agg cs' => all2 (eqV d) cs.toList cs'.toList
    | .tuple cs, .tuple cs' => all2 (eqV d) cs.toList cs'.toList
    | .pointer (some a), .pointer (some a') => decide (a = a')
    | .map r, .map r' => decide (r = r')
    | .func (.func f) a b, .func (.func f') a' b' => Nat.beq f f' && all2 (eqV d) a.toList a'.toList && all2 (eqV d) b.toList b'.toList
    | .iface t x, .iface t' x' => Nat.beq t t' && eqV d x x'
    | .nilFunc, .nilFunc => true
    | _, _ => false
theorem all2_eq {α : Type} {f : α → α → Bool} (hf : ∀ x y, f x y = true → x = y) : ∀ {l k : List α}, all2 f l k = true → l = k
  | [], [], _ => rfl
  | x :: l, y :: k, h => by
    simp only [all2, Bool.and_eq_true] at h
    rw [hf _ _ h.1, all2_eq hf h.2]
  | [], _ :: _, h => by cases h
  | _ :: _, [], h => by cases h
theorem eqV_eq : ∀ (d : Nat) (v v' : Value), eqV d v v' = true → v = v'
  | 0, _, _, h => by cases h
  | d + 1, v, v', h => by
    unfold eqV at h
    split at h
    · simp only [Bool.and_eq_true, decide_eq_true_eq] at h
      rw [h.1, h.2]
    · rw [of_decide_eq_true h]
    · rw [of_decide_eq_true h]
    · simp only [Bool.and_eq_true] at h
      rw [Nat.eq_of_beq_eq_true h.1, Nat.eq_of_beq_eq_true h.2]
    · rfl
    · simp only [Bool.and_eq_true, decide_eq_true_eq] at h
      rw [h.1.1, Nat.eq_of_beq_eq_true h.1.2, Nat.eq_of_beq_eq_true h.2]
    · rw [Array.toList_inj.1 (all2_eq (eqV_eq d) h)]
    · rw [Array.toList_inj.1 (all2_eq (eqV_eq d) h)]
    · rw [of_decide_eq_true h]
    · rw [of_decide_eq_true h]
    · simp only [Bool.and_eq_true] at h
      rw [Nat.eq_of_beq_eq_true h.1.1, Array.toList_inj.1 (all2_eq (eqV_eq d) h.1.2), Array.toList_inj.1 (all2_eq (eqV_eq d) h.2)]
    · simp only [Bool.and_eq_true] at h
      rw [Nat.eq_of_beq_eq_true h.1, eqV_eq d _ _ h.2]
    · rfl
    · cases h
/-- Two answers are the same. -/
def sameA : An → An → An
  | some x, some y => cond (eqV 8 x y) (some x) none
  | _, _ => none
/-- Whatever is chosen, the answer is the same. -/
def forkA (f : Nat → An) : List Nat → An
  | [] => none
  | p :: l => match l with
    | [] => f p
    | _ :: _ => sameA (f p) (forkA f l)
theorem sameA_ok {a b : An} {r : Value} (h : sameA a b = some r) : a = some r ∧ b = some r := by
  unfold sameA at h
  split at h
  · rename_i x y
    cases hq : eqV 8 x y with
    | false => rw [hq] at h; cases h
    | true => rw [hq] at h; cases h; rw [← eqV_eq _ _ _ hq]; exact ⟨rfl, rfl⟩
  · cases h
theorem forkA_ok {f : Nat → An} {r : Value} : ∀ {l : List Nat}, forkA f l = some r → ∀ p ∈ l, f p = some r
  | [], h => by cases h
  | [q], h => fun p hp => by
    obtain rfl : p = q := by simpa using hp
    exact h
  | q :: x :: l, h => fun p hp => by
    obtain ⟨h1, h2⟩ := sameA_ok (show sameA (f q) (forkA f (x :: l)) = some r from h)
    rcases List.mem_cons.1 hp with rfl | hp
    · exact h1
    · exact forkA_ok h2 p hp
/-- A range over a map begins. -/
noncomputable def sRange (P : Program) (h : SH) (frz : List Nat) (t : TypeId) (x : Value) : Option (Value × SH) := match P.underlying t, x with
  | some (.map _ _), .map (some j) => match h.tr.get j with
    | some (.map es true) => cond (frzLive h frz) (some (.pointer (some ⟨h.next, 0, some 0⟩), h.push (.iter j es.length [] es.length))) none
    | _ => none
  | _, _ => none
/-- An iterator, and the map that it goes through: the iterator's block, the map's, its entries, the places of those that were there. -/
noncomputable def iterAt (h : SH) : Value → Option (Nat × Nat × List (Value × Value) × List Nat)
  | .pointer (some a) => cond (spot0 a.spot && Nat.beq a.off 0) (match h.tr.get a.block with
    | some (.iter m since seen last) => match h.tr.get m with
      | some (.map es true) => cond (Nat.beq since es.length && Nat.beq last es.length) (some (a.block, m, es, seen)) none
      | _ => none
    | _ => none) none
  | _ => none
/-- The places that are left. -/
def leftP (n : Nat) (seen : List Nat) : List Nat := (List.range n).filter fun p => !(seen.any fun q => Nat.beq q p)
/-- A step. -/
noncomputable def nextK (frz : List Nat) (h : SH) (it : Value) (yes : Value → SH → An) : An := match iterAt h it with
  | some (i, m, es, seen) => match leftP es.length seen with
    | [] => yes (.tuple #[.bool false]) h
    | q :: l => cond (frzOk h frz (2 * i + 1)) (forkA (fun p => match es[p]? with
      | some kv => yes (.tuple #[.bool true, kv.1, kv.2]) (h.put i (.iter m es.length (seen ++ [p]) es.length))
      | none => none) (q :: l)) none
  | none => none
/-- The entry of a step. -/
noncomputable def sEntry (h : SH) (it : Value) : Option Value := match iterAt h it with
  | some (_, _, es, seen) => match seen.getLast? with
    | some p => match es[p]? with
      | some kv => some (.tuple #[kv.1, kv.2])
      | none => none
    | none => none
  | none => none
section
variable {P : Program} {N : Lim} {G : Gl} {μ : Mu} {h : SH} {w : World} {frz : List Nat}
theorem RelM.get {es : List (Value × Value)} {rs : List MapEntry} (hr : RelM μ es rs) : ∀ {i : Nat} {e : MapEntry}, rs[i]? = some e → ∃ kv, es[i]? = some kv ∧ e.key = kv.1 ∧ gr 6 kv.1 = true ∧ Rel μ kv.2 e.val := by
  induction es generalizing rs with
  | nil =>
    cases rs with
    | nil => intro i e he; simp at he
    | cons _ _ => exact hr.elim
  | cons x es ih =>
    cases rs with
    | nil => exact hr.elim
    | cons y rs =>
      intro i e he
      obtain ⟨⟨h1, h2, h3⟩, t⟩ := hr
      cases i with
      | zero =>
        obtain rfl : y = e := by simpa using he
        exact ⟨x, rfl, h1, h2, h3⟩
      | succ i => exact ih t (by simpa using he)
theorem StdM.born {rs : List MapEntry} {cl : Nat} (h : StdM rs cl) {i : Nat} {e : MapEntry} (he : rs[i]? = some e) : e.born = i := by
  have h1 := congrArg (fun l => l[i]?) h.1
  have hlt := (List.getElem?_eq_some_iff.1 he).1
  simp only [List.getElem?_map, he, Option.map_some, List.getElem?_range hlt, Option.some.injEq] at h1
  exact h1
theorem StdM.lt {rs : List MapEntry} {cl : Nat} (h : StdM rs cl) : ∀ e ∈ rs, e.born < cl := fun e he => by
  obtain ⟨i, hi, rfl⟩ := List.getElem_of_mem he
  rw [h.born (List.getElem?_eq_getElem hi), h.2]
  exact hi
theorem StdM.nodup {rs : List MapEntry} {cl : Nat} (h : StdM rs cl) : (rs.map (·.born)).Nodup := by
  rw [h.1]; exact List.nodup_range
theorem sRange_ok (d : Den P N G μ h w) {t : TypeId} {x x' v : Value} {h' : SH} (e : sRange P h frz t x = some (v, h')) (hx : Rel μ x x') : MadeN P N G μ frz w (Instr.range t x') v h' := by
  unfold sRange at e
  split at e
  · rename_i kt et j hu
    split at e
    · rename_i es hget
      cases hl : frzLive h frz with
      | false => rw [hl] at e; cases e
      | true =>
        rw [hl, cond_true] at e
        simp only [Option.some.injEq, Prod.mk.injEq] at e
        obtain ⟨rfl, rfl⟩ := e
        cases hx with
        | ground hg => simp [gr] at hg
        | map hm =>
          rename_i b κ
          obtain ⟨b', κ', ents, cl, g1, g2, g3, g4, g5⟩ := d.blk j _ hget
          rw [hm] at g1; cases g1
          have hs := g5 rfl
          have hlen : cl = es.length := by rw [hs.2]; exact g4.length
          have hnone := d.muOld h.next (Nat.le_refl _)
          have hle : μ.le (μ.add h.next w.heap.size 0) := Mu.le_add hnone
          refine ⟨μ.add h.next w.heap.size 0, _, _, run_range_map w t kt et b ents cl hu g3, hle, d.push _ 0 _ (fun t' cs' f e => by cases e) ?_, .ptr Mu.add_same, (Bel.refl N w).alloc d.base _, fun k hk b κ' hm => Below.heap_alloc w _ _ (frz_live d hl k hk b κ' hm), fun k hk => Below.heap_alloc w _ _ hk⟩
          exact ⟨w.heap.size, 0, b, κ, Mu.add_same, d.base.new, hle _ _ hm, by rw [World.alloc_heap_new, hlen]⟩
    · cases e
  · cases e
/-- What an iterator stands for. -/
theorem iterAt_ok (d : Den P N G μ h w) {it it' : Value} {i m : Nat} {es : List (Value × Value)} {seen : List Nat} (e : iterAt h it = some (i, m, es, seen)) (hx : Rel μ it it') :
    ∃ b κ mb κ' ents, it' = .pointer (some ⟨b, 0, none⟩) ∧ μ i = some (b, κ) ∧ N.new b ∧ μ m = some (mb, κ') ∧ h.tr.get i = some (.iter m es.length seen es.length) ∧ w.heap[b]? = some (.mapIter (some mb) es.length seen.toArray es.length) ∧
      w.heap[mb]? = some (.map ents es.length) ∧ RelM μ es ents.toList ∧ StdM ents.toList es.length := by
  cases it with
  | pointer oa =>
    cases oa with
    | none => cases e
    | some a =>
      simp only [iterAt] at e
      cases hc : (spot0 a.spot && Nat.beq a.off 0) with
      | false => rw [hc] at e; cases e
      | true =>
        rw [hc, cond_true] at e
        rw [Bool.and_eq_true] at hc
        obtain ⟨blk, off, sp⟩ := a
        have hsp := spot0_eq hc.1
        have hoff := Nat.eq_of_beq_eq_true hc.2
        simp only at hsp hoff e
        subst hsp hoff
        split at e
        · rename_i m2 since seen2 last hgi
          split at e
          · rename_i es2 hgm
            cases hc2 : (Nat.beq since es2.length && Nat.beq last es2.length) with
            | false => rw [hc2] at e; cases e
            | true =>
              rw [hc2, cond_true] at e
              rw [Bool.and_eq_true] at hc2
              have e1 := Nat.eq_of_beq_eq_true hc2.1
              have e2 := Nat.eq_of_beq_eq_true hc2.2
              simp only [Option.some.injEq, Prod.mk.injEq] at e
              obtain ⟨rfl, rfl, rfl, rfl⟩ := e
              subst e1 e2
              cases hx with
              | ground hg => simp [gr] at hg
              | ptr hm =>
                rename_i b κ
                obtain ⟨b0, κ0, mb, κ', i1, i2, i3, i4⟩ := d.blk _ _ hgi
                rw [hm] at i1; cases i1
                obtain ⟨b1, κ1, ents, cl, g1, g2, g3, g4, g5⟩ := d.blk _ _ hgm
                rw [i3] at g1; cases g1
                have hs := g5 rfl
                have hlen : cl = es2.length := by rw [hs.2]; exact g4.length
                subst hlen
                exact ⟨b, κ, mb, κ', ents, rfl, hm, i2, i3, hgi, i4, g3, g4, hs⟩
          · cases e
        · cases e
  | _ => cases e
theorem mem_leftP {n : Nat} {seen : List Nat} {p : Nat} : p ∈ leftP n seen ↔ p < n ∧ p ∉ seen := by
  simp only [leftP, List.mem_filter, List.mem_range, Bool.not_eq_true', List.any_eq_false, and_congr_right_iff]
  intro _
  constructor
  · intro h1 h2
    exact h1 p h2 (Nat.beq_refl p)
  · intro h1 q hq hqp
    exact h1 (by rw [← Nat.eq_of_beq_eq_true hqp]; exact hq)
/-- **A step**, in each world: what is answered behind it. -/
theorem nextK_ok (d : Den P N G μ h w) {it it' : Value} {yes : Value → SH → An} {r : Value} (e : nextK frz h it yes = some r) (hx : Rel μ it it') (ty : TypeId) :
    ∃ v h' v' w', yes v h' = some r ∧ (Instr.next it' false ty).run P w = .ok v' w' ∧ Post P N G μ frz w h' μ w' ∧ Rel μ v v' := by
  unfold nextK at e
  split at e
  · rename_i i m es seen hit
    obtain ⟨b, κ, mb, κ', ents, rfl, h1, h2, h3, hgi, h4, h5, h6, h7⟩ := iterAt_ok d hit hx
    have hlen := h6.length
    have hleft : ∀ x ∈ (leftOf ents seen.toArray).toList, ∃ p, p ∈ leftP es.length seen ∧ ents.toList[p]? = some x ∧ x.born = p := fun x hx => by
      simp only [leftOf, Array.toList_filter, List.mem_filter, Bool.not_eq_true'] at hx
      obtain ⟨hxm, hxs⟩ := hx
      obtain ⟨p, hp, rfl⟩ := List.getElem_of_mem hxm
      have hb := h7.born (List.getElem?_eq_getElem hp)
      refine ⟨p, mem_leftP.2 ⟨by omega, fun hq => ?_⟩, List.getElem?_eq_getElem hp, hb⟩
      rw [hb] at hxs
      simp [hq] at hxs
    rcases run_next_at (P := P) w ty b mb es.length es.length seen.toArray ents es.length h4 h5 (fun x hx => h7.lt x hx) (Nat.le_refl _) with ⟨hz, hrun⟩ | ⟨x, hxl, w1, hw1, hrun⟩
    · have hnil : leftP es.length seen = [] := by
        cases hq : leftP es.length seen with
        | nil => rfl
        | cons p l =>
          exfalso
          have hp : p ∈ leftP es.length seen := by rw [hq]; simp
          obtain ⟨hp1, hp2⟩ := mem_leftP.1 hp
          have hlt : p < ents.toList.length := by omega
          have hmem : ents.toList[p] ∈ (leftOf ents seen.toArray).toList := by
            simp only [leftOf, Array.toList_filter, List.mem_filter, Bool.not_eq_true']
            refine ⟨List.getElem_mem hlt, ?_⟩
            rw [h7.born (List.getElem?_eq_getElem hlt)]
            simpa using hp2
          have h0 : (leftOf ents seen.toArray).toList = [] := List.eq_nil_of_length_eq_zero (by simpa using hz)
          rw [h0] at hmem
          cases hmem
      rw [hnil] at e
      exact ⟨_, _, _, _, e, hrun, Post.refl d, .ground rfl⟩
    · obtain ⟨p, hp, hpx, hborn⟩ := hleft x hxl
      obtain ⟨kv, k1, k2, k3, k4⟩ := h6.get hpx
      cases hq : leftP es.length seen with
      | nil => rw [hq] at hp; cases hp
      | cons q l =>
        rw [hq] at e
        simp only at e
        cases hf : frzOk h frz (2 * i + 1) with
        | false => rw [hf] at e; cases e
        | true =>
          rw [hf, cond_true] at e
          have e2 := forkA_ok e p (by rw [← hq]; exact hp)
          simp only [k1] at e2
          have hlt : b < w.heap.size := (Array.getElem?_eq_some_iff.1 h4).1
          have hw1h : w1.heap = w.heap := by rcases hw1 with rfl | rfl <;> rfl
          have hB : Bel N w w1 := by
            rcases hw1 with rfl | rfl
            · exact Bel.refl N _
            · exact (Bel.refl N w).drew
          have d1 : Den P N G μ h w1 := by
            rcases hw1 with rfl | rfl
            · exact d
            · exact d.drew
          generalize hwx : Go.ChangeMaps.setBlock w1 b (.mapIter (some mb) es.length (seen.toArray.push x.born) es.length) = w2 at hrun
          have hoth : ∀ k, k ≠ b → w2.heap[k]? = w1.heap[k]? := fun k hk => by
            rw [← hwx]
            exact Array.getElem?_setIfInBounds_ne (fun q => hk q.symm)
          have hsz : w2.heap.size = w1.heap.size := by rw [← hwx]; exact Array.size_setIfInBounds
          have hself : w2.heap[b]? = some (.mapIter (some mb) es.length (seen ++ [p]).toArray es.length) := by
            rw [← hwx]
            show (w1.heap.setIfInBounds b _)[b]? = _
            rw [Array.getElem?_setIfInBounds_self_of_lt (by rw [hw1h]; exact hlt), hborn]
            simp
          have hbel : Bel N w1 w2 := by
            refine ⟨⟨?_, ?_, ?_, by rw [hsz]; exact Nat.le_refl _, fun k hk => hoth k (by have := h2.1; omega)⟩, fun k hk => hoth k (fun e => h2.2 (by rw [← e]; exact hk))⟩ <;> (rw [← hwx]; rfl)
          refine ⟨_, _, _, w2, e2, hrun, ⟨Mu.le_refl _, ?_, hB.trans hbel, ?_⟩, ?_⟩
          · refine d1.put (sb' := .iter m es.length (seen ++ [p]) es.length) hgi rfl hsz (fun b2 κ2 hb2 k hk => ?_) ⟨b, κ, mb, κ', h1, h2, h3, hself⟩
            rw [h1] at hb2; cases hb2
            exact hoth k hk
          · intro k hk b2 κ2 hb2
            have hne := frz_apart d hgi (by simpa [famOf] using hf) h1 k hk b2 κ2 hb2
            rw [hoth b2 hne, hw1h]
          · rw [k2]
            refine .tuple ?_
            exact .cons (.ground rfl) (.cons (.ground k3) (.cons k4 .nil))
  · cases e
theorem sEntry_ok (d : Den P N G μ h w) {it it' v : Value} (e : sEntry h it = some v) (hx : Rel μ it it') : ∃ v', (Instr.entry it').run P w = .ok v' w ∧ Rel μ v v' := by
  unfold sEntry at e
  split at e
  · rename_i i m es seen hit
    obtain ⟨b, κ, mb, κ', ents, rfl, h1, h2, h3, hgi, h4, h5, h6, h7⟩ := iterAt_ok d hit hx
    split at e
    · rename_i p hp
      split at e
      · rename_i kv hkv
        cases e
        have hlen := h6.length
        have hlt : p < ents.toList.length := by
          have := (List.getElem?_eq_some_iff.1 hkv).1
          omega
        obtain ⟨kv2, k1, k2, k3, k4⟩ := h6.get (List.getElem?_eq_getElem hlt)
        rw [hkv] at k1; cases k1
        have hborn := h7.born (List.getElem?_eq_getElem hlt)
        obtain ⟨l0, hl0⟩ : ∃ l0, seen = l0 ++ [p] := List.getLast?_eq_some_iff.1 hp
        refine ⟨_, run_entry_at (P := P) w b mb es.length l0.toArray ents es.length ents.toList[p] ?_ h5 (List.getElem_mem hlt) h7.nodup, ?_⟩
        · rw [h4, hl0, hborn]; simp
        · rw [k2]
          exact .tuple (.cons (.ground k3) (.cons k4 .nil))
      · cases e
    · cases e
  · cases e
end
end Go.Proofs.Ytnhojiooiedabaa
