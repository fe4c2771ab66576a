/- Prices fall: what lots are worth; PurseSettled where there is an error, in memory that was there before. Conditions: as each theorem says. -/
import Derived.Test.YtnkbopfnnbmdaaaGreatQJ
namespace Go.Proofs.YtnkbopfnnbmdaaaGreat
open Go Go.RowKit
attribute [local irreducible] addC subC mulC quoI remI forceN forceB bR getC iR kI callI rcI oldC oA nextC
set_option maxRecDepth 1000000
set_option maxHeartbeats 8000000
set_option linter.unusedVariables false
set_option linter.unusedSimpArgs false
theorem descB_get : ∀ (ps : List Int) (top : Int), descB top ps = true → ∀ (i j : Nat) (p q : Int), i ≤ j → ps[i]? = some p → ps[j]? = some q → q ≤ p
  | [], _, _, i, _, p, _, _, hp, _ => by simp at hp
  | r :: ps, top, h, i, j, p, q, hij, hp, hq => by
    simp only [descB, Bool.and_eq_true, frB_iff] at h
    cases j with
    | zero =>
      obtain rfl : i = 0 := by omega
      rw [hp] at hq; cases hq; exact Int.le_refl _
    | succ j =>
      cases i with
      | zero =>
        simp only [List.getElem?_cons_zero, Option.some.injEq] at hp
        simp only [List.getElem?_cons_succ] at hq
        subst hp
        exact (descB_all ps _ h.2 q (List.mem_of_getElem? hq)).2
      | succ i => exact descB_get ps r h.2 i j p q (by omega) hp hq
theorem priceF_anti {ps : List Int} (h : descB 100000 ps = true) {g g' : Int} (h0 : 0 ≤ g) (h1 : g ≤ g') (h2 : g' ≤ ps.length) : priceF ps g' ≤ priceF ps g := by
  by_cases e : g' = ps.length
  · rw [priceF, if_pos e]; exact (priceF_in (g := g) (descB_all ps 100000 h)).1
  · rw [priceF, priceF, if_neg e, if_neg (by omega), List.getD_eq_getElem?_getD, List.getD_eq_getElem?_getD]
    have hp : ps[g.toNat]? = some ps[g.toNat] := List.getElem?_eq_getElem (by omega)
    have hq : ps[g'.toNat]? = some ps[g'.toNat] := List.getElem?_eq_getElem (by omega)
    rw [hp, hq]
    exact descB_get ps _ h _ _ _ _ (by omega) hp hq
theorem worthF_anti {ps : List Int} (h : descB 100000 ps = true) {x : Lot} (hx : 0 ≤ x.grams) {g g' : Int} (h0 : 0 ≤ g) (h1 : g ≤ g') (h2 : g' ≤ ps.length) : worthF ps x g' ≤ worthF ps x g :=
  Int.ediv_le_ediv (by omega) (Int.mul_le_mul_of_nonneg_left (priceF_anti h h0 h1 h2) hx)
/-- What a family gets for lots, by some grades. -/
def getsF (ps : List Int) (fam : Int) (gr : Lot → Int) : List Lot → Int
  | [] => 0
  | x :: l => (if x.fam = fam then worthF ps x (gr x) else 0) + getsF ps fam gr l
theorem amt_sum {ps : List Int} {part fam : Int} {k : Bool} (x : Lot) : (amtF ps part fam k x).sum = if x.fam = fam then worthF ps x (gradeF k x) else 0 := by
  have e : bilA ps part fam x + bilB ps part fam (gradeF k x) x = if x.fam = fam then worthF ps x (gradeF k x) else 0 := by
    unfold bilA bilB; split <;> omega
  rw [← e]
  unfold amtF
  split
  · rename_i h; rw [h.1, h.2]; rfl
  · simp
theorem brings_gets {ps : List Int} {part fam : Int} {k : Bool} : ∀ l : List Lot, bringsF ps part fam k l = getsF ps fam (gradeF k) l
  | [] => rfl
  | x :: l => by
    have ih := brings_gets (ps := ps) (part := part) (fam := fam) (k := k) l
    unfold bringsF at ih ⊢
    rw [List.flatMap_cons, List.sum_append, ih, getsF, amt_sum]
theorem getsF_nonneg {ps : List Int} {fam np : Int} {gr : Lot → Int} (h : descB 100000 ps = true) : ∀ l : List Lot, l.all (lotB np) = true → 0 ≤ getsF ps fam gr l
  | [], _ => Int.le_refl _
  | x :: l, ha => by
    rw [List.all_cons, Bool.and_eq_true, lotB_iff] at ha
    have ih := getsF_nonneg (fam := fam) (gr := gr) h l ha.2
    have h1 := worthF_in (g := gr x) h ha.1.2.1.1 ha.1.2.1.2
    rw [getsF]
    split <;> omega
/-- What is paid for lots with some grades. -/
def paidF (ps : List Int) (fam : Int) : List (Lot × Int) → Int
  | [] => 0
  | y :: l => (if y.1.fam = fam then worthF ps y.1 y.2 else 0) + paidF ps fam l
theorem paidF_add {ps : List Int} {fam : Int} : ∀ (l : List (Lot × Int)) (y : Lot × Int), paidF ps fam (l ++ [y]) = paidF ps fam l + if y.1.fam = fam then worthF ps y.1 y.2 else 0
  | [], y => by simp [paidF]
  | z :: l, y => by rw [List.cons_append, paidF, paidF, paidF_add l]; omega
theorem paidF_in {ps : List Int} {fam : Int} {np : Int} (hnp : np = ps.length) (h : descB 100000 ps = true) : ∀ (l : List Lot) (gs : List Int), l.all (lotB np) = true → gs.length = l.length → (l.zip gs).all (fun x => frB x.2 x.1.lo x.1.hi) = true →
    getsF ps fam (gradeF true) l ≤ paidF ps fam (l.zip gs) ∧ paidF ps fam (l.zip gs) ≤ getsF ps fam (gradeF false) l
  | [], _, _, _, _ => by simp [paidF, getsF]
  | x :: l, [], _, hl, _ => by simp at hl
  | x :: l, g :: gs, ha, hl, hg => by
    rw [List.all_cons, Bool.and_eq_true, lotB_iff] at ha
    rw [List.zip_cons_cons, List.all_cons, Bool.and_eq_true, frB_iff] at hg
    have ih := paidF_in (fam := fam) hnp h l gs ha.2 (by simpa using hl) hg.2
    rw [List.zip_cons_cons, paidF, getsF, getsF]
    simp only at hg ⊢
    have h1 := worthF_anti h (x := x) (by omega) (g := g) (g' := x.hi) (by omega) (by omega) (by omega)
    have h2 := worthF_anti h (x := x) (by omega) (g := x.lo) (g' := g) (by omega) (by omega) (by omega)
    split
    · have h3 : gradeF true x = x.hi := rfl
      have h4 : gradeF false x = x.lo := rfl
      rw [h3, h4]; omega
    · omega
theorem paidF_bound {ps : List Int} {fam : Int} (h : descB 100000 ps = true) : ∀ (l : List (Lot × Int)), (∀ y ∈ l, 0 ≤ y.1.grams ∧ y.1.grams ≤ 1000000) → 0 ≤ paidF ps fam l ∧ paidF ps fam l ≤ 100000000 * l.length
  | [], _ => by simp [paidF]
  | y :: l, hy => by
    have ih := paidF_bound (fam := fam) h l fun z hz => hy z (List.mem_cons_of_mem _ hz)
    have h1 := hy y (List.mem_cons_self ..)
    have h2 := worthF_in (g := y.2) h h1.1 h1.2
    rw [paidF, List.length_cons]
    split <;> omega
theorem encA_get {α : Type} {enc : α → List Value} {k : Nat} (hk : ∀ x, (enc x).length = k) {l : List α} {i : Nat} {x : α} (h : l[i]? = some x) {j : Nat} {v : Value} (hv : (enc x)[j]? = some v) : (encA enc l)[0 + i * k + j]? = some v := by
  rw [encA_eq, Nat.zero_add]; exact flat_get hk l i x h j v hv
theorem guard28 : Tryz.prog.eqGuardType Tryz.prog.depth 31 = false := by decide +kernel
theorem held28 : Tryz.prog.stoodInHeld 31 = false := by decide +kernel
end Go.Proofs.YtnkbopfnnbmdaaaGreat
