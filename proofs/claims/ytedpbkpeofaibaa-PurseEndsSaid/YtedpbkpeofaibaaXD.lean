/- The operations that leave memory as it is, reckoned on the shadow: what each yields, in every world in which the blocks that are seen are the same. Over any program. Conditions: as each law says. -/
import Derived.Test.YtedpbkpeofaibaaXB
import Derived.Laws.Build
import Derived.Laws.Slices
import Derived.LoopTactic
namespace Go.Proofs.Ytedpbkpeofaibaa
open Go Go.RowKit
set_option linter.unusedSimpArgs false
set_option linter.unusedVariables false
/-- What a chain of steps that asks no world comes to. -/
def pureOut {α : Type} (P : Program) : Sem α → Option α
  | .pure a => some a
  | .program k => pureOut P (k P)
  | .mark _ k => pureOut P k
  | _ => none
theorem pureOut_run {α : Type} {P : Program} : ∀ {s : Sem α} {a : α}, pureOut P s = some a → ∀ w, s.run P w = .ok a w := by
  intro s
  induction s with
  | pure a => intro b h w; simp only [pureOut, Option.some.injEq] at h; subst h; rfl
  | program k ih => intro b h w; simp only [pureOut] at h; simp only [Sem.run]; exact ih _ h w
  | mark m k ih => intro b h w; simp only [pureOut] at h; simp only [Sem.run]; exact ih h w
  | _ => intro b h; simp [pureOut] at h
/-- Blocks, and variables, that are seen. -/
structure Sees (P : Program) (N : Lim) (G : Gl) (μ : Mu) (get : Nat → Option SB) (w : World) : Prop where
  blk : ∀ j sb, get j = some sb → BlkOk P N μ w j sb
  glob : GW G w
/-- They are the same in another world. -/
def Same (μ : Mu) (get : Nat → Option SB) (G : Gl) (w W : World) : Prop :=
  (∀ j sb, get j = some sb → ∀ b κ, μ j = some (b, κ) → W.heap[b]? = w.heap[b]?) ∧ ∀ b, GB G b → W.heap[b]? = w.heap[b]?
theorem Same.refl {μ : Mu} {get : Nat → Option SB} {G : Gl} {w : World} : Same μ get G w w := ⟨fun _ _ _ _ _ _ => rfl, fun _ _ => rfl⟩
/-- A shadow value that stands for what steps yield. -/
def Yields (P : Program) (μ : Mu) (get : Nat → Option SB) (G : Gl) (w : World) (s : Sem Value) (v : Value) : Prop :=
  ∃ v', Rel μ v v' ∧ ∀ W, Same μ get G w W → s.run P W = .ok v' W
def cellsAt (G : Gl) (get : Nat → Option SB) (a : Addr) : Option (List Value) := match a.spot with
  | some 0 => match get a.block with
    | some (.row _ cs _) => some cs
    | _ => none
  | none => match G.l.find? (fun x => Nat.beq x.1 a.block) with
    | some x => some x.2.1.toList
    | none => none
  | _ => none
section
variable {P : Program} {N : Lim} {G : Gl} {μ : Mu} {get : Nat → Option SB} {w : World}
/-- Cells that are seen lie there, in each world in which they are the same. -/
theorem cells_at (hG : G.l.all (fun x => x.2.1.toList.all (gr 6)) = true) (hs : Sees P N G μ get w) {a : Addr} {cs : List Value} (h : cellsAt G get a = some cs) {p : Value} (hp : Rel μ (.pointer (some a)) p) :
    ∃ b cs', p = .pointer (some ⟨b, a.off, none⟩) ∧ RelL μ cs cs' ∧ ∀ W, Same μ get G w W → ∀ i v, cs'[i]? = some v → W.cell? ⟨b, i, none⟩ = some v := by
  obtain ⟨blk, off, sp⟩ := a
  cases hp with
  | ground hg =>
    have hsp : sp = none := by simpa [gr] using hg
    subst hsp
    simp only [cellsAt] at h
    split at h
    · rename_i x hx
      cases h
      have hmem := List.mem_of_find?_eq_some hx
      have hq := List.find?_some hx
      obtain rfl : x.1 = blk := Nat.eq_of_beq_eq_true hq
      obtain ⟨fr, hw⟩ := hs.glob.1 x hmem
      refine ⟨x.1, x.2.1.toList, rfl, RelL.refl (List.all_eq_true.1 hG x hmem), fun W hW i v hv => ?_⟩
      simp only [World.cell?, (hW.2 _ (.inl ⟨x, hmem, rfl⟩)).trans hw]
      simpa using hv
    · cases h
  | ptr hm =>
    rename_i b κ
    simp only [cellsAt] at h
    split at h
    · rename_i t cs2 f hget
      cases h
      obtain ⟨b', κ', cur, sz, h1, h2, h3, h4, h5, h6, h7⟩ := hs.blk _ _ hget
      rw [hm] at h1; cases h1
      refine ⟨b, cur.toList.take cs.length, rfl, h7, fun W hW i v hv => ?_⟩
      simp only [World.cell?, (hW.1 _ _ hget b κ hm).trans h3]
      rw [List.getElem?_take] at hv
      split at hv
      · simpa using hv
      · cases hv
    · cases h
def readAt (P : Program) (t : TypeId) (cs : List Value) (off : Nat) : Option Value := match P.underlying t, P.info? t with
  | some d, some i => cond d.isRow (cond (Nat.ble (off + i.size) cs.length) (some (.agg ((cs.drop off).take i.size).toArray)) none) cs[off]?
  | _, _ => none
/-- Cells of memory that was there before. -/
def cellsF (f : Nat → Nat → Option Value) (b : Nat) : Nat → Nat → Option (List Value)
  | 0, _ => some []
  | n + 1, o => match f b o with
    | some v => cond (gr 6 v) (match cellsF f b n (o + 1) with
      | some l => some (v :: l)
      | none => none) none
    | none => none
def readF (P : Program) (f : Nat → Nat → Option Value) (t : TypeId) (b o : Nat) : Option Value := match P.underlying t, P.info? t with
  | some d, some i => cond d.isRow (match cellsF f b i.size o with
    | some l => some (.agg l.toArray)
    | none => none) (match f b o with
    | some v => cond (gr 6 v) (some v) none
    | none => none)
  | _, _ => none
theorem cellsF_get {f : Nat → Nat → Option Value} {b : Nat} : ∀ {n o : Nat} {l : List Value}, cellsF f b n o = some l → l.length = n ∧ l.all (gr 6) = true ∧ ∀ i v, l[i]? = some v → f b (o + i) = some v
  | 0, o, l, h => by simp only [cellsF, Option.some.injEq] at h; subst h; exact ⟨rfl, rfl, fun i v hv => by simp at hv⟩
  | n + 1, o, l, h => by
    simp only [cellsF] at h
    split at h
    · rename_i v hv
      cases hg : gr 6 v with
      | false => rw [hg] at h; cases h
      | true =>
        rw [hg, cond_true] at h
        split at h
        · rename_i l' hl
          cases h
          obtain ⟨h1, h2, h3⟩ := cellsF_get hl
          refine ⟨by simp [h1], by simp [hg, h2], fun i u hu => ?_⟩
          cases i with
          | zero => simp only [List.getElem?_cons_zero, Option.some.injEq] at hu; subst hu; exact hv
          | succ i => rw [← h3 i u (by simpa using hu)]; congr 1; omega
        · cases h
    · cases h
def sLoad (P : Program) (G : Gl) (get : Nat → Option SB) (t : TypeId) : Value → Option Value
  | .pointer (some a) => match cellsAt G get a with
    | some cs => readAt P t cs a.off
    | none => match a.spot with
      | none => readF P G.f t a.block a.off
      | some _ => none
  | _ => none
theorem readF_ok (hs : Sees P N G μ get w) {t : TypeId} {b o : Nat} {v : Value} (h : readF P G.f t b o = some v) : Yields P μ get G w (Instr.loadAt t (.pointer (some ⟨b, o, none⟩))) v := by
  have hw : ∀ W, Same μ get G w W → GW G W := fun W hS => hs.glob.keep hS.2
  unfold readF at h
  split at h
  · rename_i d i hu hi
    cases hd : d.isRow with
    | true =>
      simp only [hd, cond_true] at h
      split at h
      · rename_i l hl
        cases h
        obtain ⟨h1, h2, h3⟩ := cellsF_get hl
        refine ⟨.agg l.toArray, .agg (by simpa using RelL.refl h2), fun W hS => ?_⟩
        exact run_loadAt_mid W b o t l d (fun j v hv => (hw W hS).2 b (o + j) v (h3 j v hv)) hu hd (by rw [hi, h1]; rfl)
      · cases h
    | false =>
      simp only [hd, cond_false] at h
      split at h
      · rename_i v' hv
        cases hg : gr 6 v' with
        | false => rw [hg] at h; cases h
        | true =>
          rw [hg] at h
          simp only [cond_true, Option.some.injEq] at h
          subst h
          refine ⟨v', .ground hg, fun W hS => ?_⟩
          have hc := (hw W hS).2 b o v' hv
          have hagg : (isAgg t).run P W = .ok false W := by
            unfold isAgg
            rw [Sem.run_bind, run_underlying hu W]
            cases d <;> first | rfl | simp at hd
          simp only [Instr.loadAt, Instr.sureAddr, Sem.run_bind, Sem.run_pure, Result.andThen_ok, loadVar, hagg, Bool.false_eq_true, if_false, run_load, hc]
      · cases h
  · cases h
theorem sLoad_ok (hG : G.l.all (fun x => x.2.1.toList.all (gr 6)) = true) (hs : Sees P N G μ get w) {t : TypeId} {x p v : Value} (h : sLoad P G get t x = some v) (hp : Rel μ x p) : Yields P μ get G w (Instr.loadAt t p) v := by
  cases x with
  | pointer a =>
    cases a with
    | none => simp [sLoad] at h
    | some a =>
      simp only [sLoad] at h
      split at h
      · rename_i cs hcs
        obtain ⟨b, cs', rfl, hr, hW⟩ := cells_at hG hs hcs hp
        simp only [readAt] at h
        split at h
        · rename_i d i hu hi
          cases hd : d.isRow with
          | true =>
            simp only [hd, cond_true] at h
            cases hl : Nat.ble (a.off + i.size) cs.length with
            | false => simp [hl] at h
            | true =>
              simp only [hl, cond_true, Option.some.injEq] at h
              subst h
              have hle := Nat.le_of_ble_eq_true hl
              have hlen := hr.length
              refine ⟨.agg ((cs'.drop a.off).take i.size).toArray, .agg (by simpa using (hr.drop a.off).take i.size), fun W hS => ?_⟩
              have hlc : ((cs'.drop a.off).take i.size).length = i.size := by rw [List.length_take, List.length_drop]; omega
              refine run_loadAt_mid W b a.off t _ d (fun j v hv => ?_) hu hd (by rw [hi, hlc]; rfl)
              rw [List.getElem?_take] at hv
              split at hv
              · rw [List.getElem?_drop] at hv
                exact hW W hS _ _ hv
              · cases hv
          | false =>
            simp only [hd, cond_false] at h
            obtain ⟨v', h1, h2⟩ := hr.get h
            refine ⟨v', h2, fun W hS => ?_⟩
            have hc := hW W hS _ _ h1
            have hagg : (isAgg t).run P W = .ok false W := by
              unfold isAgg
              rw [Sem.run_bind, run_underlying hu W]
              cases d <;> first | rfl | simp at hd
            simp only [Instr.loadAt, Instr.sureAddr, Sem.run_bind, Sem.run_pure, Result.andThen_ok, loadVar, hagg, Bool.false_eq_true, if_false, run_load, hc]
        · cases h
      · split at h
        · rename_i hsp
          obtain ⟨blk, off, sp⟩ := a
          simp only at hsp
          subst hsp
          have : p = .pointer (some ⟨blk, off, none⟩) := by
            cases hp with
            | ground _ => rfl
          subst this
          exact readF_ok hs h
        · cases h
  | _ => simp [sLoad] at h
def sField (P : Program) (s : TypeId) (f : Nat) : Value → Option Value
  | .pointer (some a) => match P.underlying s with
    | some (.struct fs) => match fs[f]? with
      | some fd => match P.info? fd.type with
        | some i => cond (Nat.beq i.size 0) none (some (.pointer (some { a with off := a.off + fd.offset })))
        | none => none
      | none => none
    | _ => none
  | _ => none
theorem rel_ptr_add {a : Addr} {p : Value} (hp : Rel μ (.pointer (some a)) p) (hsp : a.spot = none ∨ a.spot = some 0) (n : Nat) :
    ∃ b, p = .pointer (some ⟨b, a.off, none⟩) ∧ Rel μ (.pointer (some { a with off := a.off + n })) (.pointer (some ⟨b, a.off + n, none⟩)) := by
  obtain ⟨blk, off, sp⟩ := a
  cases hp with
  | ground hg =>
    have hsp : sp = none := by simpa [gr] using hg
    subst hsp
    exact ⟨blk, rfl, .ground (by simp [gr])⟩
  | ptr hm => exact ⟨_, rfl, .ptr hm⟩
theorem ptr_spot {a : Addr} {p : Value} (hp : Rel μ (.pointer (some a)) p) : a.spot = none ∨ a.spot = some 0 := by
  obtain ⟨blk, off, sp⟩ := a
  cases hp with
  | ground hg => exact .inl (by simpa [gr] using hg)
  | ptr hm => exact .inr rfl
theorem sField_ok {s : TypeId} {f : Nat} {x p v : Value} (h : sField P s f x = some v) (hp : Rel μ x p) : Yields P μ get G w (Instr.fieldAt s p f) v := by
  cases x with
  | pointer a =>
    cases a with
    | none => simp [sField] at h
    | some a =>
      simp only [sField] at h
      split at h
      · rename_i fs hu
        split at h
        · rename_i fd hf
          split at h
          · rename_i i hi
            cases hz : Nat.beq i.size 0 with
            | true => simp [hz] at h
            | false =>
              simp only [hz, cond_false, Option.some.injEq] at h
              subst h
              have hne : i.size ≠ 0 := fun e => by rw [e] at hz; simp at hz
              obtain ⟨b, rfl, hr⟩ := rel_ptr_add hp (ptr_spot hp) fd.offset
              refine ⟨_, hr, fun W _ => ?_⟩
              simp only [Instr.fieldAt, Sem.run_bind, run_underlying hu W, Result.andThen_ok, hf, Instr.sureAddr, Sem.run_pure, fieldPlace, sizeOf, typeInfo, run_program, hi, hne, if_false, Addr.add_mid]
          · cases h
        · cases h
      · cases h
  | _ => simp [sField] at h
end
end Go.Proofs.Ytedpbkpeofaibaa
