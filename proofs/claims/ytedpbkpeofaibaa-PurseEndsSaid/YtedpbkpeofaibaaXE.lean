/- More operations that leave memory as it is, reckoned on the shadow: addresses of elements, slices of slices, lookups in maps, composite values. Over any program. Conditions: as each law says. -/
import Derived.Test.YtedpbkpeofaibaaXD
import Derived.Laws.Tables
namespace Go.Proofs.Ytedpbkpeofaibaa
open Go Go.RowKit
set_option linter.unusedSimpArgs false
set_option linter.unusedVariables false
theorem pureOut_bind {α β : Type} {P : Program} : ∀ (s : Sem α) (f : α → Sem β), pureOut P (s >>= f) = (pureOut P s).bind fun a => pureOut P (f a) := by
  intro s f
  show pureOut P (s.bind f) = _
  induction s with
  | pure a => rfl
  | program k ih => simp only [Sem.bind, pureOut]; exact ih P
  | mark m k ih => simp only [Sem.bind, pureOut]; exact ih
  | _ => rfl
theorem beq_no {a b : Nat} (h : ¬ a = b) : Nat.beq a b = false := by
  cases q : Nat.beq a b with
  | true => exact absurd (Nat.eq_of_beq_eq_true q) h
  | false => rfl
def natV : Value → Option Nat
  | .int _ (.ofNat n) => some n
  | _ => none
theorem natV_eq {v : Value} {n : Nat} (h : natV v = some n) : ∃ k, v = .int k (n : Int) := by
  cases v with
  | int k i =>
    cases i with
    | ofNat m => simp only [natV, Option.some.injEq] at h; subst h; exact ⟨k, rfl⟩
    | negSucc m => simp [natV] at h
  | _ => simp [natV] at h
theorem natV_rel {μ : Mu} {x p : Value} {n : Nat} (h : natV x = some n) (hp : Rel μ x p) : ∃ k, x = .int k (n : Int) ∧ p = .int k (n : Int) := by
  obtain ⟨k, rfl⟩ := natV_eq h
  exact ⟨k, rfl, hp.eq (by simp [gr])⟩
section
variable {P : Program} {N : Lim} {G : Gl} {μ : Mu} {get : Nat → Option SB} {w : World}
/-- The address of an element. -/
def sIndexA (P : Program) (t : TypeId) (x ix : Value) : Option Value := match natV ix, P.underlying t, x with
  | some i, some (.slice e), .slice (some a) n _ => match P.info? e with
    | some it => cond (Nat.blt i n && (match a.spot with | some 0 | some 3 => true | some 1 => Nat.beq a.off 0 | _ => false)) (some (.pointer (some ⟨a.block, a.off + i * it.size, some 0⟩))) none
    | none => none
  | some i, some (.array n e), .pointer (some a) => match P.info? e with
    | some it => cond (Nat.blt i n) (some (.pointer (some { a with off := a.off + i * it.size }))) none
    | none => none
  | _, _, _ => none
theorem rel_slice {a : Addr} {n c : Nat} {p : Value} (hp : Rel μ (.slice (some a) n c) p) (hq : (match a.spot with | some 0 | some 3 => true | some 1 => Nat.beq a.off 0 | _ => false) = true) :
    ∃ b κ c', p = .slice (some ⟨b, a.off, none⟩) n c' ∧ μ a.block = some (b, κ) := by
  obtain ⟨blk, off, sp⟩ := a
  cases hp with
  | ground hg => simp only [gr, Option.isNone_iff_eq_none] at hg; subst hg; simp at hq
  | slice hm => exact ⟨_, _, _, rfl, hm⟩
  | sliceO hm hn => exact ⟨_, _, _, rfl, hm⟩
  | sliceE => simp at hq
  | sliceA hm hn => exact ⟨_, _, _, rfl, hm⟩
theorem sIndexA_ok {t : TypeId} {x p ix iv v : Value} (h : sIndexA P t x ix = some v) (hp : Rel μ x p) (hi : Rel μ ix iv) : Yields P μ get G w (Instr.indexAt t p iv) v := by
  unfold sIndexA at h
  split at h
  · rename_i i e a n _ hn hu
    obtain ⟨k, rfl, rfl⟩ := natV_rel hn hi
    split at h
    · rename_i it hit
      cases hc : (Nat.blt i n && (match a.spot with | some 0 | some 3 => true | some 1 => Nat.beq a.off 0 | _ => false)) with
      | false => simp [hc] at h
      | true =>
        simp only [hc, cond_true, Option.some.injEq] at h
        subst h
        rw [Bool.and_eq_true] at hc
        obtain ⟨b, κ, c', rfl, hm⟩ := rel_slice hp hc.2
        have hlt : i < n := by have := hc.1; simp only [Nat.blt_eq] at this; exact this
        refine ⟨_, .ptr hm, fun W _ => ?_⟩
        have h1 : (0 : Int) ≤ (i : Int) ∧ (i : Int) < (n : Int) := ⟨by omega, by omega⟩
        simp only [Instr.indexAt, Sem.run_bind, asIntOf, Sem.run_pure, Result.andThen_ok, run_underlying hu W, sizeOf, typeInfo, run_program, hit, h1, and_self, if_true, Addr.add_mid, Int.toNat_natCast]
    · cases h
  · rename_i i n e a hn hu
    obtain ⟨k, rfl, rfl⟩ := natV_rel hn hi
    split at h
    · rename_i it hit
      cases hc : Nat.blt i n with
      | false => simp [hc] at h
      | true =>
        simp only [hc, cond_true, Option.some.injEq] at h
        subst h
        have hlt : i < n := by simp only [Nat.blt_eq] at hc; exact hc
        obtain ⟨b, rfl, hr⟩ := rel_ptr_add hp (ptr_spot hp) (i * it.size)
        refine ⟨_, hr, fun W _ => ?_⟩
        have h1 : (0 : Int) ≤ (i : Int) ∧ (i : Int) < (n : Int) := ⟨by omega, by omega⟩
        simp only [Instr.indexAt, Sem.run_bind, asIntOf, Sem.run_pure, Result.andThen_ok, run_underlying hu W, Instr.sureAddr, sizeOf, typeInfo, run_program, hit, h1, and_self, if_true, Addr.add_mid, Int.toNat_natCast]
    · cases h
  · cases h
/-- The address of an element of a slice that was there before. -/
def sIndexF (P : Program) (t : TypeId) (x ix : Value) : Option Value := match natV ix, P.underlying t, x with
  | some i, some (.slice e), .slice (some a) n _ => match P.info? e with
    | some it => cond (Nat.blt i n && a.spot.isNone) (some (.pointer (some ⟨a.block, a.off + i * it.size, none⟩))) none
    | none => none
  | _, _, _ => none
theorem sIndexF_ok {t : TypeId} {x p ix iv v : Value} (h : sIndexF P t x ix = some v) (hp : Rel μ x p) (hi : Rel μ ix iv) : Yields P μ get G w (Instr.indexAt t p iv) v := by
  unfold sIndexF at h
  split at h
  · rename_i i e a n _ hn hu
    obtain ⟨k, rfl, rfl⟩ := natV_rel hn hi
    split at h
    · rename_i it hit
      obtain ⟨blk, off, sp⟩ := a
      cases sp with
      | some s => simp at h
      | none =>
        simp only [Option.isNone_none, Bool.and_true] at h
        cases hc : Nat.blt i n with
        | false => simp [hc] at h
        | true =>
          simp only [hc, cond_true, Option.some.injEq] at h
          subst h
          have hlt : i < n := by simp only [Nat.blt_eq] at hc; exact hc
          rw [hp.eq (by simp [gr])]
          refine ⟨_, .ground (by simp [gr]), fun W _ => ?_⟩
          have h1 : (0 : Int) ≤ (i : Int) ∧ (i : Int) < (n : Int) := ⟨by omega, by omega⟩
          simp only [Instr.indexAt, Sem.run_bind, asIntOf, Sem.run_pure, Result.andThen_ok, run_underlying hu W, sizeOf, typeInfo, run_program, hit, h1, and_self, if_true, Addr.add_mid, Int.toNat_natCast]
    · cases h
  · cases h
def optNat : Option Value → Nat → Option Nat
  | none, d => some d
  | some v, _ => natV v
theorem run_sliceBound {k : IntKind} {i y : Nat} {code : BoundsCode} (h : i ≤ y) (W : World) : (Instr.sliceBound (.int k (i : Int)) y code).run P W = .ok i W := by
  have h1 : (0 : Int) ≤ (i : Int) ∧ (i : Int) ≤ (y : Int) := ⟨by omega, by omega⟩
  simp only [Instr.sliceBound, asIntOf, Sem.run_bind, Sem.run_pure, Result.andThen_ok, h1, and_self, if_true, Int.toNat_natCast]
/-- The bounds of a slice expression without a third number. -/
theorem run_bounds2 {s : Bool} {len cap l h : Nat} {low high low' high' : Option Value} (hl : optNat low 0 = some l) (hh : optNat high len = some h) (rl : ∀ v, low = some v → ∃ v', low' = some v' ∧ Rel μ v v') (rl' : low = none → low' = none)
    (rh : ∀ v, high = some v → ∃ v', high' = some v' ∧ Rel μ v v') (rh' : high = none → high' = none) (h1 : l ≤ h) (h2 : h ≤ cap) (W : World) : (Instr.sliceBounds s len cap low' high' none).run P W = .ok (l, h, cap) W := by
  cases low with
  | none =>
    rw [rl' rfl]
    simp only [optNat, Option.some.injEq] at hl
    subst hl
    cases high with
    | none =>
      rw [rh' rfl]
      simp only [optNat, Option.some.injEq] at hh
      subst hh
      rfl
    | some v =>
      obtain ⟨v', e, hr⟩ := rh v rfl
      obtain ⟨k, rfl, rfl⟩ := natV_rel hh hr
      rw [e]
      simp only [Instr.sliceBounds, Sem.run_bind, Sem.run_pure, Result.andThen_ok, run_sliceBound h2 W]
  | some u =>
    obtain ⟨u', e, hr⟩ := rl u rfl
    obtain ⟨k, rfl, rfl⟩ := natV_rel hl hr
    rw [e]
    cases high with
    | none =>
      rw [rh' rfl]
      simp only [optNat, Option.some.injEq] at hh
      subst hh
      simp only [Instr.sliceBounds, Sem.run_bind, Sem.run_pure, Result.andThen_ok, run_sliceBound h1 W]
    | some v =>
      obtain ⟨v', e, hr⟩ := rh v rfl
      obtain ⟨k, rfl, rfl⟩ := natV_rel hh hr
      rw [e]
      simp only [Instr.sliceBounds, Sem.run_bind, Sem.run_pure, Result.andThen_ok, run_sliceBound h2 W, run_sliceBound h1 W]
/-- A slice of a slice, without a third number. -/
def sSlice2 (P : Program) (t : TypeId) (x : Value) (low high : Option Value) : Option Value := match P.underlying t, x with
  | some (.slice e), .slice (some a) n c => match P.info? e, optNat low 0, optNat high n with
    | some it, some l, some h => cond (Nat.ble l h) (match a.spot with
      | some 0 => cond (Nat.ble h c) (some (.slice (some ⟨a.block, cond (Nat.beq c l) a.off (a.off + l * it.size), some 0⟩) (h - l) (c - l))) none
      | some 1 => cond (Nat.ble h n && Nat.beq a.off 0) (cond (Nat.beq l 0) (some (.slice (some ⟨a.block, 0, some 1⟩) h 0))
          (cond (Nat.beq l n) (some (.slice (some ⟨0, 0, some 2⟩) 0 0)) (some (.slice (some ⟨a.block, l * it.size, some 3⟩) (h - l) 0)))) none
      | some 3 => cond (Nat.ble h n) (cond (Nat.beq l n) (some (.slice (some ⟨0, 0, some 2⟩) 0 0)) (some (.slice (some ⟨a.block, a.off + l * it.size, some 3⟩) (h - l) 0))) none
      | some 2 => cond (Nat.beq h 0) (some (.slice (some ⟨0, 0, some 2⟩) 0 0)) none
      | _ => none) none
    | _, _, _ => none
  | some (.array n e), .pointer (some a) => match P.info? e, optNat low 0, optNat high n, a.spot with
    | some it, some l, some h, some 0 => cond (Nat.ble l h && Nat.ble h n) (some (.slice (some ⟨a.block, cond (Nat.beq n l) a.off (a.off + l * it.size), some 0⟩) (h - l) (n - l))) none
    | _, _, _, _ => none
  | _, _ => none
theorem run_slice_slice {t e : TypeId} {it : TypeInfo} {oa : Option Addr} {n c l h : Nat} {low' high' : Option Value} (hu : P.underlying t = some (.slice e)) (hi : P.info? e = some it) {W : World} (hb : (Instr.sliceBounds true n c low' high' none).run P W = .ok (l, h, c) W) :
    (Instr.sliceAt t (.slice oa n c) low' high' none).run P W = .ok (.slice (if c = l then oa else oa.map (·.add (l * it.size))) (h - l) (c - l)) W := by
  unfold Instr.sliceAt
  simp only [Sem.run_bind, run_underlying hu W, Result.andThen_ok, Instr.slice, hb, sizeOf, typeInfo, run_program, hi, Sem.run_pure]
/-- Where a part of a slice begins. -/
def sliceAd (oa : Option Addr) (c l sz : Nat) : Option Addr := cond (Nat.beq c l) oa (oa.map (·.add (l * sz)))
theorem sliceAd_eq (oa : Option Addr) (c l sz : Nat) : sliceAd oa c l sz = if c = l then oa else oa.map (·.add (l * sz)) := by
  unfold sliceAd
  by_cases e : c = l
  · rw [if_pos e, show Nat.beq c l = true from by rw [Nat.beq_eq]; exact e]; rfl
  · rw [if_neg e, beq_no e]; rfl
/-- A part of a slice that was there before. -/
def sSliceF (P : Program) (t : TypeId) (x : Value) (low high : Option Value) : Option Value := match P.underlying t, x with
  | some (.slice e), .slice oa n c => match P.info? e, optNat low 0, optNat high n with
    | some it, some l, some h => cond (gr 6 (.slice oa n c) && Nat.ble l h && Nat.ble h c) (some (.slice (sliceAd oa c l it.size) (h - l) (c - l))) none
    | _, _, _ => none
  | _, _ => none
theorem sSliceF_ok {t : TypeId} {x p v : Value} {low high low' high' : Option Value} (h : sSliceF P t x low high = some v) (hp : Rel μ x p) (rl : ∀ v, low = some v → ∃ v', low' = some v' ∧ Rel μ v v') (rl' : low = none → low' = none)
    (rh : ∀ v, high = some v → ∃ v', high' = some v' ∧ Rel μ v v') (rh' : high = none → high' = none) : Yields P μ get G w (Instr.sliceAt t p low' high' none) v := by
  unfold sSliceF at h
  split at h
  · rename_i e oa n c hu
    split at h
    · rename_i it l hh hit hl hh'
      cases hc : (gr 6 (.slice oa n c) && Nat.ble l hh && Nat.ble hh c) with
      | false => rw [hc] at h; cases h
      | true =>
        rw [hc] at h
        simp only [cond_true, Option.some.injEq] at h
        subst h
        simp only [Bool.and_eq_true] at hc
        obtain ⟨⟨hg, h1⟩, h2⟩ := hc
        have h1 := Nat.le_of_ble_eq_true h1
        have h2 := Nat.le_of_ble_eq_true h2
        rw [hp.eq hg]
        refine ⟨_, .ground ?_, fun W _ => by rw [run_slice_slice hu hit (run_bounds2 hl hh' rl rl' rh rh' h1 h2 W), sliceAd_eq]⟩
        · cases oa with
          | none =>
            simp only [gr, Bool.and_eq_true, Nat.beq_eq] at hg
            have : sliceAd none c l it.size = none := by unfold sliceAd; cases Nat.beq c l <;> rfl
            rw [this]
            simp only [gr, Bool.and_eq_true, Nat.beq_eq]
            omega
          | some a =>
            obtain ⟨b, o, sp⟩ := a
            simp only [gr, Option.isNone_iff_eq_none] at hg
            subst hg
            unfold sliceAd
            cases Nat.beq c l <;> simp [gr, Addr.add_mid]
    · cases h
  · cases h
theorem sSlice2_ok {t : TypeId} {x p v : Value} {low high low' high' : Option Value} (h : sSlice2 P t x low high = some v) (hp : Rel μ x p) (rl : ∀ v, low = some v → ∃ v', low' = some v' ∧ Rel μ v v') (rl' : low = none → low' = none)
    (rh : ∀ v, high = some v → ∃ v', high' = some v' ∧ Rel μ v v') (rh' : high = none → high' = none) : Yields P μ get G w (Instr.sliceAt t p low' high' none) v := by
  unfold sSlice2 at h
  split at h
  · rename_i e a n c hu
    obtain ⟨blk, off, sp⟩ := a
    split at h
    · rename_i it l hh hit hl hh'
      cases hle : Nat.ble l hh with
      | false => simp [hle] at h
      | true =>
        simp only [hle, cond_true] at h
        have hle' := Nat.le_of_ble_eq_true hle
        cases hp with
        | ground hg => simp only [gr, Option.isNone_iff_eq_none] at hg; subst hg; simp at h
        | slice hm =>
          rename_i b κ
          simp only at h
          cases hc : Nat.ble hh c with
          | false => simp [hc] at h
          | true =>
            simp only [hc, cond_true, Option.some.injEq] at h
            subst h
            have hc' := Nat.le_of_ble_eq_true hc
            refine ⟨.slice (some ⟨b, cond (Nat.beq c l) off (off + l * it.size), none⟩) (hh - l) (c - l), .slice hm, fun W _ => ?_⟩
            rw [run_slice_slice hu hit (run_bounds2 hl hh' rl rl' rh rh' hle' hc' W)]
            by_cases e : c = l
            · subst e; simp
            · have : Nat.beq c l = false := beq_no e
              simp only [if_neg e, this, cond_false, Option.map_some, Addr.add_mid]
        | sliceO hm hn =>
          rename_i b κ
          simp only at h
          cases hc : (Nat.ble hh n && Nat.beq 0 0) with
          | false => rw [hc] at h; cases h
          | true =>
            rw [hc] at h
            simp only [cond_true] at h
            rw [Bool.and_eq_true] at hc
            have hc' := Nat.le_of_ble_eq_true hc.1
            have hrun : ∀ W, (Instr.sliceAt t (.slice (some ⟨b, 0, none⟩) n κ) low' high' none).run P W = _ := fun W => run_slice_slice hu hit (run_bounds2 hl hh' rl rl' rh rh' hle' (Nat.le_trans hc' hn) W)
            by_cases e0 : l = 0
            · subst e0
              simp only [Nat.beq_refl, cond_true, Option.some.injEq] at h
              subst h
              refine ⟨.slice (some ⟨b, 0, none⟩) hh κ, .sliceO hm (Nat.le_trans hc' hn), fun W _ => ?_⟩
              rw [hrun W]
              by_cases e : κ = 0 <;> simp [e, Addr.add]
            · have q0 : Nat.beq l 0 = false := beq_no e0
              simp only [q0, cond_false] at h
              by_cases e1 : l = n
              · subst e1
                simp only [Nat.beq_refl, cond_true, Option.some.injEq] at h
                subst h
                obtain rfl : hh = l := by omega
                by_cases e : κ = hh
                · exact ⟨.slice (some ⟨b, 0, none⟩) 0 (κ - hh), .sliceE, fun W _ => by rw [hrun W]; simp [e]⟩
                · exact ⟨.slice (some ⟨b, 0 + hh * it.size, none⟩) 0 (κ - hh), .sliceE, fun W _ => by rw [hrun W]; simp only [if_neg e, Option.map_some, Addr.add_mid, Nat.sub_self]⟩
              · have q1 : Nat.beq l n = false := beq_no e1
                simp only [q1, cond_false, Option.some.injEq] at h
                subst h
                have hk : κ ≠ l := by omega
                refine ⟨.slice (some ⟨b, l * it.size, none⟩) (hh - l) (κ - l), .sliceA hm (by omega), fun W _ => ?_⟩
                rw [hrun W]
                simp only [if_neg hk, Option.map_some, Addr.add_mid, Nat.zero_add]
        | sliceE =>
          simp only at h
          cases hc : Nat.beq hh 0 with
          | false => simp [hc] at h
          | true =>
            simp only [hc, cond_true, Option.some.injEq] at h
            subst h
            obtain rfl : hh = 0 := Nat.eq_of_beq_eq_true hc
            obtain rfl : l = 0 := by omega
            rename_i a' c'
            refine ⟨.slice (some (if c' = 0 then a' else a'.add 0)) 0 c', .sliceE, fun W _ => ?_⟩
            rw [run_slice_slice hu hit (run_bounds2 hl hh' rl rl' rh rh' hle' (Nat.zero_le _) W)]
            by_cases e : c' = 0 <;> simp [e]
        | sliceA hm hn =>
          rename_i b κ c'
          simp only at h
          cases hc : Nat.ble hh n with
          | false => simp [hc] at h
          | true =>
            simp only [hc, cond_true] at h
            have hc' := Nat.le_of_ble_eq_true hc
            have hrun : ∀ W, (Instr.sliceAt t (.slice (some ⟨b, off, none⟩) n c') low' high' none).run P W = _ := fun W => run_slice_slice hu hit (run_bounds2 hl hh' rl rl' rh rh' hle' (Nat.le_trans hc' hn) W)
            by_cases e1 : l = n
            · subst e1
              simp only [Nat.beq_refl, cond_true, Option.some.injEq] at h
              subst h
              obtain rfl : hh = l := by omega
              by_cases e : c' = hh
              · exact ⟨.slice (some ⟨b, off, none⟩) 0 (c' - hh), .sliceE, fun W _ => by rw [hrun W]; simp [e]⟩
              · exact ⟨.slice (some ⟨b, off + hh * it.size, none⟩) 0 (c' - hh), .sliceE, fun W _ => by rw [hrun W]; simp only [if_neg e, Option.map_some, Addr.add_mid, Nat.sub_self]⟩
            · have q1 : Nat.beq l n = false := beq_no e1
              simp only [q1, cond_false, Option.some.injEq] at h
              subst h
              have hk : c' ≠ l := by omega
              refine ⟨.slice (some ⟨b, off + l * it.size, none⟩) (hh - l) (c' - l), .sliceA hm (by omega), fun W _ => ?_⟩
              rw [hrun W]
              simp only [if_neg hk, Option.map_some, Addr.add_mid]
    · cases h
  · rename_i n e a hu
    split at h
    · rename_i it l hh hit hl hh' hsp
      cases hc : (Nat.ble l hh && Nat.ble hh n) with
      | false => simp [hc] at h
      | true =>
        simp only [hc, cond_true, Option.some.injEq] at h
        subst h
        rw [Bool.and_eq_true] at hc
        obtain ⟨blk, off, sp⟩ := a
        simp only at hsp
        subst hsp
        cases hp with
        | ground hg => simp [gr] at hg
        | ptr hm =>
          rename_i b κ
          refine ⟨.slice (some ⟨b, cond (Nat.beq n l) off (off + l * it.size), none⟩) (hh - l) (n - l), .slice hm, fun W _ => ?_⟩
          unfold Instr.sliceAt
          simp only [Sem.run_bind, run_underlying hu W, Result.andThen_ok, Instr.sureAddr, Sem.run_pure, run_bounds2 (s := false) (P := P) hl hh' rl rl' rh rh' (Nat.le_of_ble_eq_true hc.1) (Nat.le_of_ble_eq_true hc.2) W, sizeOf, typeInfo, run_program, hit]
          by_cases e : n = l
          · subst e; simp
          · have : Nat.beq n l = false := beq_no e
            simp only [if_neg e, this, cond_false, Addr.add_mid]
    · cases h
  · cases h
end
end Go.Proofs.Ytedpbkpeofaibaa
