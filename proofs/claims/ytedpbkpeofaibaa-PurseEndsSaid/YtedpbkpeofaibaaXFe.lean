/- Structs and arrays of plain values are compared. Over any program. Conditions: as each law says. -/
import Derived.Test.YtedpbkpeofaibaaXF
import Derived.ChangeKeysEq
namespace Go.Proofs.Ytedpbkpeofaibaa
open Go Go.RowKit
set_option linter.unusedSimpArgs false
set_option linter.unusedVariables false
section
variable {P : Program} {μ : Mu}
theorem agg_rel {cs : Array Value} {p : Value} (h : Rel μ (.agg cs) p) : ∃ cs', p = .agg cs' ∧ RelL μ cs.toList cs'.toList := by
  cases h with
  | ground hg => exact ⟨cs, rfl, RelL.refl (List.all_eq_true.2 fun x hx => gr_mono 5 x (List.all_eq_true.1 (by simpa only [gr] using hg) x hx))⟩
  | agg hl => exact ⟨_, rfl, hl⟩
theorem run_part_read {t : TypeId} {cs : List Value} {off : Nat} {v : Value} {cs' : Array Value} (h : readAt P t cs off = some v) (hr : RelL μ cs cs'.toList) : ∃ v', Rel μ v v' ∧ ∀ W, (part t cs' off).run P W = .ok v' W := by
  unfold readAt at h
  split at h
  · rename_i d i hu hi
    have hagg : ∀ W, (isAgg t).run P W = .ok d.isRow W := fun W => by
      unfold isAgg
      rw [Sem.run_bind, run_underlying hu W]
      cases d <;> rfl
    cases hd : d.isRow with
    | true =>
      simp only [hd, cond_true] at h
      cases hl : Nat.ble (off + i.size) cs.length with
      | false => simp [hl] at h
      | true =>
        simp only [hl, cond_true, Option.some.injEq] at h
        subst h
        have hx : (cs'.extract off (off + i.size)).toList = (cs'.toList.drop off).take i.size := by simp [Array.toList_extract, List.extract]
        refine ⟨.agg (cs'.extract off (off + i.size)), .agg (by rw [hx]; simpa using (hr.drop off).take i.size), fun W => ?_⟩
        unfold part
        simp only [Sem.run_bind, hagg, hd, Result.andThen_ok, if_true, sizeOf, typeInfo, run_program, hi, Sem.run_pure]
    | false =>
      simp only [hd, cond_false] at h
      obtain ⟨v', h1, h2⟩ := hr.get h
      rw [Array.getElem?_toList] at h1
      refine ⟨v', h2, fun W => ?_⟩
      unfold part
      simp only [Sem.run_bind, hagg, hd, Result.andThen_ok, Bool.false_eq_true, if_false, h1, Sem.run_pure]
  · cases h
end
def eqFsB (rec : TypeId → Value → Value → Option Bool) (P : Program) (xs ys : List Value) : List Field → Option Bool
  | [] => some true
  | f :: fs => match (f.name == "_") with
    | true => eqFsB rec P xs ys fs
    | false => match readAt P f.type xs f.offset, readAt P f.type ys f.offset with
      | some a, some b => match rec f.type a b with
        | some true => eqFsB rec P xs ys fs
        | some false => some false
        | none => none
      | _, _ => none
def eqEsB (rec : TypeId → Value → Value → Option Bool) (P : Program) (e : TypeId) (xs ys : List Value) : List Nat → Option Bool
  | [] => some true
  | i :: is => match readAt P e xs (i * P.cellsOf e), readAt P e ys (i * P.cellsOf e) with
    | some a, some b => match rec e a b with
      | some true => eqEsB rec P e xs ys is
      | some false => some false
      | none => none
    | _, _ => none
def eqB (P : Program) : Nat → TypeId → Value → Value → Option Bool
  | 0, _, _, _ => none
  | d + 1, t, x, y => match P.underlying t, x, y with
    | some .bool, .bool a, .bool b => some (a == b)
    | some (.int _), .int k a, .int k' b => cond (decide (k = k')) (some (a == b)) none
    | some .string, .string a, .string b => some (a.toList == b.toList)
    | some (.struct fs), .agg xs, .agg ys => cond (P.stoodInHeld t) none (eqFsB (eqB P d) P xs.toList ys.toList fs.toList)
    | some (.array n e), .agg xs, .agg ys => match P.info? e with
      | some _ => eqEsB (eqB P d) P e xs.toList ys.toList (List.range n)
      | none => none
    | _, _, _ => none
section
variable {P : Program}
theorem readAt_gr {t : TypeId} {cs : List Value} {off : Nat} {v : Value} (h : readAt P t cs off = some v) (hg : cs.all (gr 5) = true) : gr 6 v = true := by
  unfold readAt at h
  split at h
  · rename_i d i _ _
    cases hd : d.isRow with
    | true =>
      simp only [hd, cond_true] at h
      cases hl : Nat.ble (off + i.size) cs.length with
      | false => simp [hl] at h
      | true =>
        simp only [hl, cond_true, Option.some.injEq] at h
        subst h
        simp only [gr]
        rw [List.all_eq_true] at hg ⊢
        exact fun x hx => hg x (List.mem_of_mem_drop (List.mem_of_mem_take (by simpa using hx)))
    | false =>
      simp only [hd, cond_false] at h
      exact gr_mono 5 v (List.all_eq_true.1 hg v (List.mem_of_getElem? h))
  · cases h
theorem run_part_gr {t : TypeId} {cs : Array Value} {off : Nat} {v : Value} (h : readAt P t cs.toList off = some v) (hg : cs.toList.all (gr 5) = true) (W : World) : (part t cs off).run P W = .ok v W := by
  have hl : RelL (fun _ => none) cs.toList cs.toList := RelL.refl (List.all_eq_true.2 fun x hx => gr_mono 5 x (List.all_eq_true.1 hg x hx))
  obtain ⟨v', h1, h2⟩ := run_part_read h hl
  rw [h2 W, h1.eq (readAt_gr h hg)]
theorem agg_gr5 {v : Value} {xs : Array Value} (h : gr 6 v = true) (e : v = .agg xs) : xs.toList.all (gr 5) = true := by subst e; simpa only [gr] using h
theorem eqFsB_ok {rec : TypeId → Value → Value → Option Bool} {D : Nat} (hr : ∀ t a b q, gr 6 a = true → gr 6 b = true → rec t a b = some q → ∀ W, (Op.equalIn D t a b).run P W = .ok q W) {xs ys : Array Value} (hx : xs.toList.all (gr 5) = true) (hy : ys.toList.all (gr 5) = true) :
    ∀ (fs : List Field) (q : Bool), eqFsB rec P xs.toList ys.toList fs = some q → ∀ W, (Op.eqFields D xs ys fs).run P W = .ok q W
  | [], q, h, W => by simp only [eqFsB, Option.some.injEq] at h; subst h; rfl
  | f :: fs, q, h, W => by
    simp only [eqFsB] at h
    simp only [Op.eqFields]
    cases hn : (f.name == "_") with
    | true =>
      rw [hn] at h
      rw [if_neg (by simpa using hn)]
      exact eqFsB_ok hr hx hy fs q h W
    | false =>
      rw [hn] at h
      simp only at h
      rw [if_pos (by simpa using hn)]
      split at h
      · rename_i a b ha hb
        simp only [Sem.run_bind, run_part_gr ha hx, run_part_gr hb hy, Result.andThen_ok]
        split at h
        · rename_i hq
          rw [hr _ _ _ _ (readAt_gr ha hx) (readAt_gr hb hy) hq]
          exact eqFsB_ok hr hx hy fs q h W
        · rename_i hq
          cases h
          rw [hr _ _ _ _ (readAt_gr ha hx) (readAt_gr hb hy) hq]
          rfl
        · cases h
      · cases h
theorem eqEsB_ok {rec : TypeId → Value → Value → Option Bool} {D : Nat} (hr : ∀ t a b q, gr 6 a = true → gr 6 b = true → rec t a b = some q → ∀ W, (Op.equalIn D t a b).run P W = .ok q W) {e : TypeId} {xs ys : Array Value} (hx : xs.toList.all (gr 5) = true) (hy : ys.toList.all (gr 5) = true) :
    ∀ (is : List Nat) (q : Bool), eqEsB rec P e xs.toList ys.toList is = some q → ∀ W, (Op.eqItems D e (P.cellsOf e) xs ys is).run P W = .ok q W
  | [], q, h, W => by simp only [eqEsB, Option.some.injEq] at h; subst h; rfl
  | i :: is, q, h, W => by
    simp only [eqEsB] at h
    simp only [Op.eqItems]
    split at h
    · rename_i a b ha hb
      simp only [Sem.run_bind, run_part_gr ha hx, run_part_gr hb hy, Result.andThen_ok]
      split at h
      · rename_i hq
        rw [hr _ _ _ _ (readAt_gr ha hx) (readAt_gr hb hy) hq]
        exact eqEsB_ok hr hx hy is q h W
      · rename_i hq
        cases h
        rw [hr _ _ _ _ (readAt_gr ha hx) (readAt_gr hb hy) hq]
        rfl
      · cases h
    · cases h
theorem eqB_ok : ∀ (d D : Nat) (t : TypeId) (x y : Value) (q : Bool), d ≤ D → gr 6 x = true → gr 6 y = true → eqB P d t x y = some q → ∀ W, (Op.equalIn D t x y).run P W = .ok q W
  | 0, _, _, _, _, _, _, _, _, h => by simp [eqB] at h
  | d + 1, 0, _, _, _, _, hd, _, _, _ => by omega
  | d + 1, D + 1, t, x, y, q, hd, hx, hy, h => fun W => by
    have hr : ∀ t a b q, gr 6 a = true → gr 6 b = true → eqB P d t a b = some q → ∀ W, (Op.equalIn D t a b).run P W = .ok q W := fun t a b q h1 h2 h3 => eqB_ok d D t a b q (by omega) h1 h2 h3
    simp only [eqB] at h
    split at h
    · rename_i hu
      cases h
      exact run_equalIn_bool' W D t _ _ hu
    · rename_i k0 k a k' b hu
      by_cases e : k = k'
      · subst e
        simp only [decide_true, cond_true, Option.some.injEq] at h
        subst h
        exact run_equalIn_int W D t k _ a b hu
      · simp [e] at h
    · rename_i hu
      cases h
      exact run_equalIn_string W D t _ _ hu
    · rename_i fs xs ys hu
      cases hs : P.stoodInHeld t with
      | true => rw [hs] at h; cases h
      | false =>
        rw [hs, cond_false] at h
        have hf : P.fieldsOf t = fs := by simp [Program.fieldsOf, hu]
        rw [run_equalIn_struct W D t xs ys (by rw [hf]; exact hu) hs, hf]
        exact eqFsB_ok hr (by simpa only [gr] using hx) (by simpa only [gr] using hy) fs.toList q h W
    · rename_i n e xs ys hu
      split at h
      · rename_i it hi
        rw [run_equalIn_array W D xs ys hu hi]
        exact eqEsB_ok hr (by simpa only [gr] using hx) (by simpa only [gr] using hy) _ q h W
      · cases h
    · cases h
end
/-- Two composite values are compared. -/
def sEqAgg (P : Program) (op : BinOp) (t : TypeId) (x y : Value) : Option Value := match x, y with
  | .agg _, .agg _ => cond (P.eqGuardType P.depth t || !(gr 6 x && gr 6 y)) none (match op, eqB P 6 t x y with
    | .eql, some q => some (.bool q)
    | .neq, some q => some (.bool (!q))
    | _, _ => none)
  | _, _ => none
section
variable {P : Program} {N : Lim} {G : Gl} {μ : Mu} {get : Nat → Option SB} {w : World}
theorem sEqAgg_ok {op : BinOp} {t : TypeId} {x y x' y' v : Value} (h : sEqAgg P op t x y = some v) (hx : Rel μ x x') (hy : Rel μ y y') (a b : Operand) : Yields P μ get G w (do eqGuard op t a b x' y'; binOp op t x' y') v := by
  unfold sEqAgg at h
  split at h
  · rename_i xs ys
    cases hc : (P.eqGuardType P.depth t || !(gr 6 (.agg xs) && gr 6 (.agg ys))) with
    | true => rw [hc] at h; cases h
    | false =>
      rw [hc, cond_false] at h
      rw [Bool.or_eq_false_iff, Bool.not_eq_false', Bool.and_eq_true] at hc
      obtain ⟨hg, h1, h2⟩ := hc
      rw [hx.eq h1, hy.eq h2]
      have he : ∀ q, eqB P 6 t (.agg xs) (.agg ys) = some q → ∀ W, (Op.equalIn 10000 t (.agg xs) (.agg ys)).run P W = .ok q W := fun q hq => eqB_ok 6 10000 t _ _ q (by omega) h1 h2 hq
      split at h
      · rename_i q hq
        cases h
        exact ⟨.bool q, .ground rfl, fun W _ => by rw [Sem.run_bind, run_eqGuard_agg W _ _ _ _ _ _ hg, Result.andThen_ok, run_eql_struct, he q hq W]; rfl⟩
      · rename_i q hq
        cases h
        exact ⟨.bool (!q), .ground rfl, fun W _ => by rw [Sem.run_bind, run_eqGuard_agg W _ _ _ _ _ _ hg, Result.andThen_ok, run_neq_struct, he q hq W]; rfl⟩
      · cases h
  · cases h
end
end Go.Proofs.Ytedpbkpeofaibaa
