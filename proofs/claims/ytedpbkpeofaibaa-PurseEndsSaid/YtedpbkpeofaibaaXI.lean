/- Stores and changes of maps, reckoned on the shadow. Over any program. Conditions: as each law says. -/
import Derived.Test.YtedpbkpeofaibaaXH
namespace Go.Proofs.Ytedpbkpeofaibaa
open Go Go.RowKit
set_option linter.unusedSimpArgs false
set_option linter.unusedVariables false
theorem take_seg {α : Type} (l vs : List α) (off n : Nat) (h1 : off + vs.length ≤ n) (h2 : n ≤ l.length) : (l.take off ++ vs ++ l.drop (off + vs.length)).take n = (l.take n).take off ++ vs ++ (l.take n).drop (off + vs.length) := by
  rw [List.append_assoc, List.take_append, List.take_append, List.length_take, Nat.min_eq_left (by omega), List.take_take, Nat.min_eq_right (by omega), List.take_of_length_le (show vs.length ≤ n - off by omega), List.drop_take, List.take_take, Nat.min_eq_left (by omega), Nat.sub_sub, List.append_assoc]
theorem setObj_map {P : Program} {w : World} {r : Nat} {es : Array MapEntry} {cl : Nat} (o : Obj) (h : w.heap[r]? = some (.map es cl)) : (setObj r o).run P w = .ok () { w with heap := w.heap.setIfInBounds r o } := by simp [setObj, Sem.run, h]
section
variable {P : Program} {N : Lim} {G : Gl} {μ : Mu} {h : SH} {w : World} {frz : List Nat}
/-- A row's cells behind a store into it. -/
theorem row_store {cs vs : List Value} {cur : Array Value} {vs' : List Value} {off : Nat} (hr : RelL μ cs (cur.toList.take cs.length)) (hc : cs.length ≤ cur.size) (hv : RelL μ vs vs') (hle : off + vs.length ≤ cs.length) :
    RelL μ (cs.take off ++ vs ++ cs.drop (off + vs.length)) ((cur.toList.take off ++ vs' ++ cur.toList.drop (off + vs'.length)).toArray.toList.take (cs.take off ++ vs ++ cs.drop (off + vs.length)).length) := by
  have hl := hv.length
  have e1 : (cs.take off ++ vs ++ cs.drop (off + vs.length)).length = cs.length := by simp; omega
  rw [e1]
  have e2 : (cur.toList.take off ++ vs' ++ cur.toList.drop (off + vs'.length)).toArray.toList.take cs.length = (cur.toList.take cs.length).take off ++ vs' ++ (cur.toList.take cs.length).drop (off + vs'.length) := by
    exact take_seg _ _ _ _ (by omega) (by simpa using hc)
  rw [e2, hl]
  exact ((hr.take off).append hv).append (hr.drop _)
noncomputable def sStore (P : Program) (h : SH) (frz : List Nat) (t : TypeId) (a x : Value) : Option SH := match a with
  | .pointer (some a) => match a.spot, h.tr.get a.block, P.info? t with
    | some 0, some (.row ty cs f), some i => cond (frzOk h frz (2 * f) && Nat.beq x.cells.size i.size && x.cells.toList.all oneV && Nat.ble (a.off + x.cells.toList.length) cs.length) (some (h.put a.block (.row ty (cs.take a.off ++ x.cells.toList ++ cs.drop (a.off + x.cells.toList.length)) f))) none
    | _, _, _ => none
  | _ => none
theorem all_one {vs vs' : List Value} (hr : RelL μ vs vs') (ho : vs.all oneV = true) : ∀ v ∈ vs', v.oneCell' = true := by
  intro v hv
  obtain ⟨i, hi, e⟩ := List.getElem_of_mem hv
  have hlen := hr.length
  obtain ⟨v', h1, h2⟩ := hr.get (List.getElem?_eq_getElem (show i < vs.length by omega))
  rw [List.getElem?_eq_getElem hi, e] at h1
  cases h1
  exact h2.one (List.all_eq_true.1 ho _ (List.getElem_mem _))
theorem sStore_ok (d : Den P N G μ h w) {t : TypeId} {a a' x x' : Value} {h' : SH} (e : sStore P h frz t a x = some h') (ha : Rel μ a a') (hx : Rel μ x x') : Done P N G μ frz w (Instr.storeAt t a' x') h' := by
  unfold sStore at e
  split at e
  · rename_i a
    split at e
    · rename_i ty cs f i hsp hget hi
      cases hc : (frzOk h frz (2 * f) && Nat.beq x.cells.size i.size && x.cells.toList.all oneV && Nat.ble (a.off + x.cells.toList.length) cs.length) with
      | false => rw [hc] at e; cases e
      | true =>
        rw [hc] at e
        simp only [cond_true, Option.some.injEq] at e
        subst e
        simp only [Bool.and_eq_true] at hc
        obtain ⟨⟨⟨h1, h2⟩, h3⟩, h4⟩ := hc
        have h2' := Nat.eq_of_beq_eq_true h2
        have h4' := Nat.le_of_ble_eq_true h4
        obtain ⟨blk, off, sp⟩ := a
        simp only at hsp hget h4' ⊢
        subst hsp
        cases ha with
        | ground hg => simp [gr] at hg
        | ptr hm =>
          rename_i b κ
          obtain ⟨b', κ', cur, sz, g1, g2, g3, g4, g5, g6, g7⟩ := d.blk blk _ hget
          rw [hm] at g1; cases g1
          have hv := cells_rel hx
          have hvl := hv.length
          have hone := all_one hv h3
          have hst := run_storeCells_at P b off ty x'.cells.toList 0 cur w g3 (by omega) hone
          simp only [Nat.add_zero] at hst
          have hs' := arr_size hv
          have h5' : off + x.cells.size ≤ cs.length := by simpa using h4'
          have hne : ¬ x'.cells.size ≠ i.size := by omega
          refine ⟨w.setRow b (cur.toList.take off ++ x'.cells.toList ++ cur.toList.drop (off + x'.cells.toList.length)).toArray, ?_, ?_, bel_setRow (Bel.refl N w) g2 _, ?_⟩
          · simp only [Instr.storeAt, Instr.sureAddr, storeVar, sizeOf, typeInfo, Sem.run_bind, Sem.run_pure, run_program, Result.andThen_ok, hi, Sem.run_ite]
            rw [if_neg hne]
            exact hst
          · refine d.put hget ?_ ?_ (fun b2 κ2 hb2 k hk => ?_) ?_
            · rfl
            · exact size_setRow w b _
            · rw [hm] at hb2; cases hb2
              exact setRow_other w b k _ hk
            · refine ⟨b, κ, _, sz, hm, g2, setRow_heap w b cur _ ty _ g3, g4, ?_, ?_, row_store g7 g6 hv h4'⟩
              · rw [← g5]; simp; omega
              · simp; omega
          · intro k hk b2 κ2 hb2
            exact setRow_other w b b2 _ (frz_apart d hget (by simpa [famOf] using h1) hm k hk b2 κ2 hb2)
    · cases e
  · cases e
theorem RelM.set : ∀ {es : List (Value × Value)} {rs : List MapEntry}, RelM μ es rs → ∀ (i : Nat) {k v v' : Value} (f : MapEntry → MapEntry), (∀ e, (f e).key = k ∧ (f e).val = v') → gr 6 k = true → Rel μ v v' → RelM μ (es.set i (k, v)) (rs.modify i f)
  | [], [], _, i, _, _, _, _, _, _, _ => by simp [RelM]
  | x :: es, e :: rs, ⟨h, t⟩, 0, k, v, v', f, hf, hg, hv => by
    simp only [List.set_cons_zero, List.modify_zero_cons]
    exact ⟨⟨(hf e).1, hg, by rw [(hf e).2]; exact hv⟩, t⟩
  | x :: es, e :: rs, ⟨h, t⟩, i + 1, k, v, v', f, hf, hg, hv => by
    simp only [List.set_cons_succ, List.modify_succ_cons]
    exact ⟨h, RelM.set t i f hf hg hv⟩
  | [], _ :: _, h, _, _, _, _, _, _, _, _ => h.elim
  | _ :: _, [], h, _, _, _, _, _, _, _, _ => h.elim
theorem RelM.snoc : ∀ {es : List (Value × Value)} {rs : List MapEntry}, RelM μ es rs → ∀ {k v : Value} {e : MapEntry}, e.key = k → gr 6 k = true → Rel μ v e.val → RelM μ (es ++ [(k, v)]) (rs ++ [e])
  | [], [], _, _k, _v, _e, h1, h2, h3 => ⟨⟨h1, h2, h3⟩, trivial⟩
  | _x :: _es, _y :: _rs, ⟨h, t⟩, _k, _v, _e, h1, h2, h3 => ⟨h, t.snoc h1 h2 h3⟩
  | [], _ :: _, h, _, _, _, _, _, _ => h.elim
  | _ :: _, [], h, _, _, _, _, _, _ => h.elim
theorem RelM.key : ∀ {es : List (Value × Value)} {rs : List MapEntry}, RelM μ es rs → ∀ (i : Nat), (rs[i]?).map (·.key) = (es[i]?).map (·.1)
  | [], [], _, i => by simp
  | x :: es, y :: rs, ⟨h, t⟩, 0 => by simp [h.1]
  | x :: es, y :: rs, ⟨h, t⟩, i + 1 => by simpa using t.key i
  | [], _ :: _, h, _ => h.elim
  | _ :: _, [], h, _ => h.elim
theorem StdM.modify {rs : List MapEntry} {cl : Nat} (h : StdM rs cl) (i : Nat) {f : MapEntry → MapEntry} (hf : ∀ e, (f e).born = e.born) : StdM (rs.modify i f) cl := by
  refine ⟨?_, by rw [List.length_modify]; exact h.2⟩
  rw [List.length_modify, ← h.1]
  apply List.ext_getElem?
  intro n
  simp only [List.getElem?_map, List.getElem?_modify]
  cases rs[n]? with
  | none => rfl
  | some e => by_cases hi : i = n <;> simp [hi, hf]
theorem StdM.snoc {rs : List MapEntry} {cl : Nat} (h : StdM rs cl) {e : MapEntry} (he : e.born = cl) : StdM (rs ++ [e]) (cl + 1) := by
  refine ⟨?_, by simp [h.2]⟩
  rw [List.map_append, h.1, List.length_append, List.length_singleton, List.range_succ]
  simp [he, h.2]
noncomputable def sMapUpdate (P : Program) (h : SH) (frz : List Nat) (t : TypeId) (m k x : Value) : Option SH := match P.underlying t, m with
  | some (.map kt _), .map (some j) => match h.tr.get j with
    | some (.map es s) => cond (frzOk h frz (2 * j + 1) && gr 6 k) (match pureOut P (Instr.checkKey false 10000 kt k), sFind P kt k es with
      | some (), some (some (i, _)) => cond (Instr.sameBits 10000 (((es[i]?).map (·.1)).getD k) k) (some (h.put j (.map (es.set i (k, x)) s))) none
      | some (), some none => some (h.put j (.map (es ++ [(k, x)]) s))
      | _, _ => none) none
    | _ => none
  | _, _ => none
theorem sMapUpdate_ok (d : Den P N G μ h w) {t : TypeId} {m m' k k' x x' : Value} {h' : SH} (e : sMapUpdate P h frz t m k x = some h') (hm : Rel μ m m') (hk : Rel μ k k') (hx : Rel μ x x') : Done P N G μ frz w (Instr.mapUpdate t m' k' x') h' := by
  unfold sMapUpdate at e
  split at e
  · rename_i kt et j hu
    split at e
    · rename_i es s hget
      cases hc : (frzOk h frz (2 * j + 1) && gr 6 k) with
      | false => rw [hc] at e; cases e
      | true =>
        rw [hc] at e
        simp only [cond_true] at e
        rw [Bool.and_eq_true] at hc
        obtain rfl := hk.eq hc.2
        cases hm with
        | ground hg => simp [gr] at hg
        | map hm =>
          rename_i b κ
          obtain ⟨b', κ', ents, cl, g1, g2, g3, g4, g5⟩ := d.blk j _ hget
          rw [hm] at g1; cases g1
          have hlt : b < w.heap.size := (Array.getElem?_eq_some_iff.1 g3).1
          -- a map's block is what it becomes
          have fin : ∀ (es' : List (Value × Value)) (ents' : Array MapEntry) (cl' : Nat), RelM μ es' ents'.toList → (s = true → StdM ents'.toList cl') → (Instr.mapUpdate t (.map (some b)) k' x').run P w = .ok () { w with heap := w.heap.setIfInBounds b (.map ents' cl') } →
              Done P N G μ frz w (Instr.mapUpdate t (.map (some b)) k' x') (h.put j (.map es' s)) := fun es' ents' cl' hr hstd hrun => by
            have hoth : ∀ k, k ≠ b → (w.heap.setIfInBounds b (.map ents' cl'))[k]? = w.heap[k]? := fun k hk => Array.getElem?_setIfInBounds_ne (fun q => hk q.symm)
            refine ⟨_, hrun, ?_, ⟨⟨rfl, rfl, rfl, by simp, fun k hk => hoth k (by have := g2.1; omega)⟩, fun k hk => hoth k (fun e => g2.2 (by rw [← e]; exact hk))⟩, ?_⟩
            · refine d.put hget ?_ ?_ (fun b2 κ2 hb2 k hk => ?_) ?_
              · rfl
              · exact Array.size_setIfInBounds
              · rw [hm] at hb2; cases hb2
                exact hoth k hk
              · exact ⟨b, κ, ents', cl', hm, g2, Array.getElem?_setIfInBounds_self_of_lt hlt, hr, hstd⟩
            · intro k hk b2 κ2 hb2
              exact hoth b2 (frz_apart d hget (by simpa [famOf] using hc.1) hm k hk b2 κ2 hb2)
          split at e
          · rename_i i v0 hck hfd
            cases hsb : Instr.sameBits 10000 (((es[i]?).map (·.1)).getD k') k' with
            | false => rw [hsb] at e; cases e
            | true =>
              rw [hsb] at e
              simp only [cond_true, Option.some.injEq] at e
              subst e
              obtain ⟨r', f1, _, f3⟩ := sFind_ok g4 hfd
              obtain ⟨v2, rfl, _⟩ := f3 _ _ rfl
              have hkey := g4.key i
              rw [Array.getElem?_toList] at hkey
              refine fin _ (ents.modify i fun e => { e with key := k', val := x' }) cl ?_ (fun hs => ?_) ?_
              · rw [Array.toList_modify]
                exact g4.set i _ (fun e => ⟨rfl, rfl⟩) hc.2 hx
              · rw [Array.toList_modify]
                exact StdM.modify (g5 hs) i fun e => rfl
              · simp only [Instr.mapUpdate, Sem.run_bind, run_underlying hu w, Result.andThen_ok, getObj_map g3, pureOut_run hck w, f1 w, Instr.keyThatStays, hkey, hsb, if_true, Sem.run_pure, setObj_map _ g3]
          · rename_i hck hfd
            cases e
            obtain ⟨r', f1, f2, _⟩ := sFind_ok g4 hfd
            obtain rfl := f2 rfl
            refine fin _ (ents.push { key := k', val := x', born := cl }) (cl + 1) ?_ (fun hs => ?_) ?_
            · rw [Array.toList_push]
              exact g4.snoc rfl hc.2 hx
            · rw [Array.toList_push]
              exact StdM.snoc (g5 hs) rfl
            · simp only [Instr.mapUpdate, Sem.run_bind, run_underlying hu w, Result.andThen_ok, getObj_map g3, pureOut_run hck w, f1 w, setObj_map _ g3]
          · cases e
    · cases e
  · cases e
end
end Go.Proofs.Ytedpbkpeofaibaa
