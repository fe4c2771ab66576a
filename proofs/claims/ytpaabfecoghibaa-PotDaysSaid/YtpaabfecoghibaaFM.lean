/- Pots that a plan keeps: plain facts. Conditions: as each theorem says. -/
import Derived.Test.YtpaabfecoghibaaFF
namespace Go.Proofs.Ytpaabfecoghibaa
open Go Go.RowKit
set_option linter.unusedSimpArgs false
set_option linter.unusedVariables false
set_option linter.unusedSectionVars false
def worstW (ds : List Dy) : List Int := ds.map (·.wh)
def worstR (ds : List Dy) : List Int := ds.map (·.rh)
def worstH (ps : List Pt) : List Int := ps.map (·.hi)
def mostD (p : Pt) (base : Int) (ds : List Dy) (d : Nat) : Int := match ds[d]? with
  | some x => gainF false p base x
  | none => 0
/-- The greatest level after so many days, if it never ran over. -/
def aF (p : Pt) (base : Int) (ds : List Dy) (rs : List Rd) (k : Int) : Nat → Int
  | 0 => p.hi
  | d + 1 => (if emB rs k d then 0 else aF p base ds rs k d) + mostD p base ds d
/-- It can't have run over. -/
def okF (p : Pt) (base : Int) (ds : List Dy) (rs : List Rd) (k : Int) : Nat → Bool
  | 0 => true
  | d + 1 => okF p base ds rs k d && decide (aF p base ds rs k (d + 1) ≤ p.size)
/-- When it was emptied last. -/
def lastD (rs : List Rd) (k : Int) : Nat → Int
  | 0 => -1
  | d + 1 => if emB rs k d then (d : Int) else lastD rs k d
theorem lastD_in {rs : List Rd} {k : Int} : ∀ d, -1 ≤ lastD rs k d ∧ lastD rs k d < (d : Int)
  | 0 => by simp [lastD]
  | d + 1 => by
    have := lastD_in (rs := rs) (k := k) d
    unfold lastD
    split <;> omega
theorem worst_trIn {ds : List Dy} (hl : ∀ d ∈ ds, DyOk d) : TrIn (worstW ds) (worstR ds) ds.length := by
  refine ⟨by simp [worstW], by simp [worstR], fun i x hx => ?_, fun i x hx => ?_⟩
  · rw [worstW, List.getElem?_map] at hx
    obtain ⟨d, hd, rfl⟩ := Option.map_eq_some_iff.1 hx
    obtain ⟨w0, w1, w2, _⟩ := hl d (List.mem_of_getElem? hd)
    omega
  · rw [worstR, List.getElem?_map] at hx
    obtain ⟨d, hd, rfl⟩ := Option.map_eq_some_iff.1 hx
    obtain ⟨w0, w1, w2, r0, r1, r2⟩ := hl d (List.mem_of_getElem? hd)
    omega
section
variable {p : Pt} {base k : Int} {ds : List Dy} {rs : List Rd} (hp : PtOk2 p) (hs : 0 ≤ p.size) (hb : 0 ≤ base) (hl : ∀ d ∈ ds, DyOk d)
include hp hs hb hl
theorem keep_step : ∀ d, d ≤ ds.length → (okF p base ds rs k d = true ↔ (yF p base (worstW ds) (worstR ds) p.hi rs k d).vr + (yF p base (worstW ds) (worstR ds) p.hi rs k d).vw = 0) ∧
    (okF p base ds rs k d = true → (yF p base (worstW ds) (worstR ds) p.hi rs k d).lr + (yF p base (worstW ds) (worstR ds) p.hi rs k d).lw = aF p base ds rs k d)
  | 0, _ => by simp [okF, yF, aF]
  | d + 1, hd => by
    obtain ⟨h1, h2⟩ := keep_step d (by omega)
    have hC := yF_in (k := k) (rs := rs) hp.toPtOk hs hb (worst_trIn hl) ⟨by have := hp.l0; have := hp.l1; omega, hp.l2⟩ d (by omega)
    obtain ⟨x, hx⟩ : ∃ x, ds[d]? = some x := ⟨_, List.getElem?_eq_getElem (by omega)⟩
    have hm : mostD p base ds d = resF p.flow base x.wh + p.catc * x.rh := by rw [mostD, hx]; rfl
    have hy : yF p base (worstW ds) (worstR ds) p.hi rs k (d + 1) = stepC p.size (emB rs k d) (resF p.flow base x.wh) (p.catc * x.rh) (yF p base (worstW ds) (worstR ds) p.hi rs k d) := by
      rw [yF, List.getD_eq_getElem?_getD, List.getD_eq_getElem?_getD, worstW, worstR, List.getElem?_map, List.getElem?_map, hx]; rfl
    obtain ⟨w0, w1, w2, r0, r1, r2⟩ := hl x (List.mem_of_getElem? hx)
    have hg := resF_in (warm := x.wh) hp.f0 hp.f1 hb (by omega)
    have hw := watF_in (rain := x.rh) hp.c0 hp.c1 (by omega) r2
    have ha : aF p base ds rs k (d + 1) = (if emB rs k d then 0 else aF p base ds rs k d) + (resF p.flow base x.wh + p.catc * x.rh) := by rw [aF, hm]
    have ho : okF p base ds rs k (d + 1) = (okF p base ds rs k d && decide (aF p base ds rs k (d + 1) ≤ p.size)) := rfl
    rw [hy, ho]
    generalize yF p base (worstW ds) (worstR ds) p.hi rs k d = c at *
    generalize okF p base ds rs k d = ok at *
    generalize aF p base ds rs k (d + 1) = A' at *
    generalize aF p base ds rs k d = A at *
    obtain ⟨⟨c1, c2, c3, c4, c5, c6⟩, _⟩ := hC
    cases hem : emB rs k d <;> cases ok <;> simp only [hem, stepC, fillC, emptC, wetF, lostF, Bool.false_eq_true, if_true, if_false, Bool.and_eq_true, decide_eq_true_eq, true_and, false_and, false_iff, true_iff, forall_const, forall_eq', reduceCtorEq, Bool.false_and, Bool.true_and, false_implies, and_true, implies_true] at * <;> omega
theorem aF_lev {d : Nat} (hd : d < ds.length) : aF p base ds rs k (d + 1) = levF false p base ds (lastD rs k (d + 1)) d := by
  induction d with
  | zero =>
    obtain ⟨x, hx⟩ : ∃ x, ds[0]? = some x := ⟨_, List.getElem?_eq_getElem hd⟩
    have hm : mostD p base ds 0 = gainF false p base x := by rw [mostD, hx]
    have ht : ds.take 1 = [x] := by
      cases ds with
      | nil => simp at hx
      | cons y l => simp at hx; subst hx; rfl
    rw [aF, hm, lastD, levF, ht, aF, lastD]
    cases emB rs k 0 <;> simp [sumG] <;> omega
  | succ d ih =>
    have ih := ih (by omega)
    obtain ⟨x, hx⟩ : ∃ x, ds[d + 1]? = some x := ⟨_, List.getElem?_eq_getElem hd⟩
    have hm : mostD p base ds (d + 1) = gainF false p base x := by rw [mostD, hx]
    have ht : ds.take (d + 1 + 1) = ds.take (d + 1) ++ [x] := by rw [List.take_add_one, hx]; rfl
    have hln : (ds.take (d + 1)).length = d + 1 := by rw [List.length_take]; omega
    rw [aF, hm, lastD, levF, ht]
    have hli := lastD_in (rs := rs) (k := k) (d + 1)
    cases hem : emB rs k (d + 1) with
    | true =>
      simp only [if_true]
      rw [if_neg (by omega), Int.toNat_natCast, List.drop_append_of_le_length (by omega), List.drop_of_length_le (by omega)]
      simp [sumG]
    | false =>
      simp only [Bool.false_eq_true, if_false]
      rw [ih, levF, List.drop_append_of_le_length (by omega), sumG_app]
      simp only [Bool.false_eq_true, if_false]
      omega
end
/-- The pots that a plan keeps, of the first ones. -/
def keepB (ps : List Pt) (base : Int) (ds : List Dy) (rs : List Rd) (k : Nat) : Bool := match ps[k]? with
  | some p => okF p base ds rs k ds.length
  | none => false
def keptF (ps : List Pt) (base : Int) (ds : List Dy) (rs : List Rd) (m : Nat) : List Int := ((List.range m).filter (keepB ps base ds rs)).map (fun (k : Nat) => (k : Int))
theorem keptF_zero {ps : List Pt} {base : Int} {ds : List Dy} {rs : List Rd} : keptF ps base ds rs 0 = [] := rfl
theorem keptF_succ {ps : List Pt} {base : Int} {ds : List Dy} {rs : List Rd} {m : Nat} : keptF ps base ds rs (m + 1) = keptF ps base ds rs m ++ (if keepB ps base ds rs m then [(m : Int)] else []) := by
  rw [keptF, List.range_succ, List.filter_append, List.map_append, keptF]
  congr 1
  cases h : keepB ps base ds rs m <;> simp [h]
theorem keptF_len {ps : List Pt} {base : Int} {ds : List Dy} {rs : List Rd} : ∀ m, (keptF ps base ds rs m).length ≤ m
  | 0 => by simp [keptF_zero]
  | m + 1 => by
    have := keptF_len (ps := ps) (base := base) (ds := ds) (rs := rs) m
    rw [keptF_succ, List.length_append]
    split <;> simp <;> omega
/-- What all pots yield. -/
def yieldsF (ps : List Pt) (base : Int) (W R H : List Int) (rs : List Rd) (nd : Nat) : List Ct := ps.zipIdx.map fun y => yF y.1 base W R (H.getD y.2 0) rs (y.2 : Int) nd
theorem yieldsF_len {ps : List Pt} {base : Int} {W R H : List Int} {rs : List Rd} {nd : Nat} : (yieldsF ps base W R H rs nd).length = ps.length := by simp [yieldsF]
theorem yieldsF_get {ps : List Pt} {base : Int} {W R H : List Int} {rs : List Rd} {nd k : Nat} {p : Pt} {has : Int} (h : ps[k]? = some p) (hv : H[k]? = some has) : (yieldsF ps base W R H rs nd)[k]? = some (yF p base W R has rs k nd) := by
  simp only [yieldsF, List.getElem?_map, List.getElem?_zipIdx, h, Option.map_some, Nat.zero_add, List.getD_eq_getElem?_getD, hv, Option.getD_some]
theorem orE3_z {a b c : Int} : orE [a, b, c] = 0 ↔ a = 0 ∧ b = 0 ∧ c = 0 := by simp only [orE]; split <;> (try split) <;> simp_all
theorem planE_z {rs : List Rd} {np nd : Nat} {hands : Int} : planE rs np nd hands = 0 ↔ PlanOk rs np nd hands := by
  by_cases h : PlanOk rs np nd hands
  · rw [planE_ok h]; simp [h]
  · rw [planE_bad h]; simp [h]
theorem truE_z {W R H : List Int} {ps : List Pt} {ds : List Dy} : truE W R H ps ds = 0 ↔ TrOk W R H ps ds := by
  by_cases h : TrOk W R H ps ds
  · rw [truE_ok h]; simp [h]
  · rw [truE_bad h]; simp [h]
def slY (j : Nat) : List Ct → Nat → Value
  | [], _ => .slice none 0 0
  | _ :: _, m => .slice (some ⟨j, 0, some 1⟩) m 0
def rwY : List Ct → List (TypeId × List Value)
  | [] => []
  | x :: l => [(74, encA encCt (x :: l))]
end Go.Proofs.Ytpaabfecoghibaa
