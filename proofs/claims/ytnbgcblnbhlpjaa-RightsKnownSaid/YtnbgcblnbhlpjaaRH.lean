/- An entry out of a contract: rights.Glut at the chapter's plots. Conditions: none. -/
import Derived.Test.YtnbgcblnbhlpjaaRG
namespace Go.Proofs.Ytnbgcblnbhlpjaa
open Go Go.RowKit
noncomputable def G01x : Ent := { g := 17, args := [.slice (some ⟨0, 0, some 0⟩) 3 3, .int .i64 1], mem := [(51, [.int .i64 70, .int .i64 80, .int .i64 81, .int .i64 79, .int .i64 75, .int .i64 81, .int .i64 80, .int .i64 80, .int .i64 90])], v := .tuple ⟨[.int .i64 0, .int .i64 0, .int .i64 4]⟩, res := none }
theorem G01_ent : EntR Try.prog G01x := by
  refine ⟨ent_of_ok (by kernel_rfl), fun μ w bs args' d _ hr => ?_⟩
  have ha : ∀ y ∈ G01x.args, rlV (memSH G01x.mem { next := 0, tr := .nil, kin := .nil }) 5 y := fun y hy => by
    simp only [G01x, List.mem_cons, List.not_mem_nil, or_false] at hy
    rcases hy with rfl | rfl
    · exact ⟨_, _, _, rfl⟩
    · rfl
  have d' : Den Try.prog (restOf w bs) (glF (fun _ _ => none)) μ (memSH G01x.mem { next := 0, tr := .nil, kin := .nil }) w := d
  have hre := real_list (real_of d' 5) ha hr
  obtain ⟨args'⟩ := args'
  simp only [G01x] at hre
  cases hre with
  | cons h1 h2 =>
    cases h2 with
    | cons h3 h4 =>
      cases h4
      cases h3 with
      | ground hg =>
        cases h1 with
        | ground hg => simp [gr] at hg
        | slice hj hc hn h0 =>
          cases hj
          obtain rfl := h0 rfl
          have hS : Sl (fun b o => w.cell? ⟨b, o, none⟩) encFp 3 (some ⟨_, 0, none⟩) 3 3 oldL := Sl.of_row hc rfl (fun _ => rfl) (fun _ => rfl) rfl (Nat.le_refl _) (by omega)
          refine ((Glut_fn _ hS).2 w (fun b o v e => e)).mono ?_
          rintro e w' ⟨ν, v', rfl, hb, hv, _⟩
          obtain rfl := hv.eq rfl
          exact ⟨⟨rfl, rfl⟩, hb⟩
end Go.Proofs.Ytnbgcblnbhlpjaa
