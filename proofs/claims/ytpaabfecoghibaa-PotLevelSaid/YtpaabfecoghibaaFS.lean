/- PotLevel: levels of truths. Conditions: as each theorem says. -/
import Derived.Test.YtpaabfecoghibaaFR
import Derived.Test.YtpaabfecoghibaaPQ
namespace Go.Proofs.Ytpaabfecoghibaa
open Go Go.RowKit
set_option linter.unusedSimpArgs false
set_option linter.unusedVariables false
theorem resF_mono {flow base w w' : Int} (h0 : 0 ≤ flow) (h : w ≤ w') : resF flow base w ≤ resF flow base w' := by
  unfold resF
  exact Int.mul_le_mul_of_nonneg_left (by split <;> split <;> omega) h0
/-- What comes into a pot on a day, in a truth. -/
def trG (p : Pt) (base : Int) (bits : List Int) (i : Nat) (d : Dy) : Int := resF p.flow base (pickF bits d.wl d.wh (2 * (i : Int))) + p.catc * pickF bits d.rl d.rh (2 * (i : Int) + 1)
theorem trG_in {p : Pt} {base : Int} {bits : List Int} {i : Nat} {d : Dy} (hp : PtOk p) (hd : DyOk d) : gainF true p base d ≤ trG p base bits i d ∧ trG p base bits i d ≤ gainF false p base d := by
  have h1 := pickF_in (bits := bits) (i := 2 * (i : Int)) hd.w1
  have h2 := pickF_in (bits := bits) (i := 2 * (i : Int) + 1) hd.r1
  have a1 := resF_mono (base := base) hp.f0 h1.1
  have a2 := resF_mono (base := base) hp.f0 h1.2
  have a3 := Int.mul_le_mul_of_nonneg_left h2.1 hp.c0
  have a4 := Int.mul_le_mul_of_nonneg_left h2.2 hp.c0
  simp only [gainF, leastF, mostF, trG]
  omega
/-- What is in a pot in front of a day. -/
def accF (k : Bool) (p : Pt) (base : Int) (ds : List Dy) (fr : Int) (d : Nat) : Int := sumG k p base ((ds.take d).drop fr.toNat) + (if fr = -1 then (if k then p.lo else p.hi) else 0)
theorem acc_lev {k : Bool} {p : Pt} {base : Int} {ds : List Dy} {fr : Int} {d : Nat} : levF k p base ds fr d = accF k p base ds fr (d + 1) := rfl
theorem acc_start {k : Bool} {p : Pt} {base : Int} {ds : List Dy} {fr : Int} : accF k p base ds fr fr.toNat = if fr = -1 then (if k then p.lo else p.hi) else 0 := by
  rw [accF, List.drop_of_length_le (by rw [List.length_take]; omega), sumG, List.map_nil, List.sum_nil, Int.zero_add]
theorem acc_step {k : Bool} {p : Pt} {base : Int} {ds : List Dy} {fr : Int} {d : Nat} {x : Dy} (hx : ds[d]? = some x) (h : fr.toNat ≤ d) : accF k p base ds fr (d + 1) = accF k p base ds fr d + gainF k p base x := by
  have hl := (List.getElem?_eq_some_iff.1 hx).1
  rw [accF, accF, List.take_add_one, hx, Option.toList, List.drop_append_of_le_length (by rw [List.length_take]; omega), sumG_app]
  omega
section
variable {p : Pt} {base fr : Int} {ds : List Dy} (hp : PtOk2 p) (hb : 0 ≤ base) (hl : ∀ d ∈ ds, DyOk d)
include hp hb hl
theorem acc_ge {k : Bool} {d e : Nat} (h : fr.toNat ≤ d) (hde : d ≤ e) (he : e ≤ ds.length) : accF k p base ds fr d ≤ accF k p base ds fr e := by
  induction e with
  | zero => obtain rfl : d = 0 := by omega
            exact Int.le_refl _
  | succ e ih =>
    by_cases q : d = e + 1
    · subst q; exact Int.le_refl _
    · have ih := ih (by omega) (by omega)
      obtain ⟨x, hx⟩ : ∃ x, ds[e]? = some x := ⟨_, List.getElem?_eq_getElem (by omega)⟩
      have hg := gain_in (k := k) hp.toPtOk hb (hl x (List.mem_of_getElem? hx))
      rw [acc_step hx (by omega)]
      omega
theorem acc_in {k : Bool} {d : Nat} (h : fr.toNat ≤ d) (hd : d ≤ ds.length) : 0 ≤ accF k p base ds fr d ∧ accF k p base ds fr d ≤ 10000000 + 4000000 * ds.length := by
  have h1 := sumG_in (k := k) hp.toPtOk hb ((ds.take d).drop fr.toNat) (fun x hx => hl x (List.mem_of_mem_take (List.mem_of_mem_drop hx)))
  rw [List.length_drop, List.length_take] at h1
  have := hp.l0
  have := hp.l1
  have := hp.l2
  unfold accF
  split <;> (try split) <;> omega
theorem due_ge {d : Nat} (hd : d < ds.length) (h : dueF p base ds fr ≤ d) : p.size < accF false p base ds fr (d + 1) := by
  obtain ⟨h1, h2⟩ := due_at (p := p) (base := base) (fr := fr) (ds := ds) (by omega)
  rw [acc_lev] at h2
  have := acc_ge (k := false) (fr := fr) (d := dueF p base ds fr + 1) (e := d + 1) hp hb hl (by omega) (by omega) (by omega)
  omega
end
theorem due_in {p : Pt} {base fr : Int} {ds : List Dy} (hf : fr ≤ (ds.length : Int) - 1) (h1 : 1 ≤ ds.length) : dueF p base ds fr ≤ ds.length ∧ fr ≤ (dueF p base ds fr : Int) := by
  have h : dueF p base ds fr ≤ ds.length := by
    have := List.findIdx_le_length (p := fun (j : Nat) => decide (fr ≤ (j : Int)) && overB p base ds fr j) (xs := List.range ds.length)
    rw [List.length_range] at this
    exact this
  refine ⟨h, ?_⟩
  by_cases q : dueF p base ds fr < ds.length
  · exact (due_at q).1
  · omega
end Go.Proofs.Ytpaabfecoghibaa
