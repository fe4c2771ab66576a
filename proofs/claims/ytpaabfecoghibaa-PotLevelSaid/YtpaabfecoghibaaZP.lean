/- Calls with a pointer to a new row among their arguments. Over any program. Conditions: as each law says. -/
import Derived.Test.YtpaabfecoghibaaK13
namespace Go.Proofs.Ytpaabfecoghibaa
open Go Go.RowKit
set_option linter.unusedSimpArgs false
set_option linter.unusedVariables false
section
variable {P : Program} {f : Nat → Nat → Option Value}
theorem t_callPt (O : Orc) (pre post : List Value) {frz : List Nat} {g : FuncId} {args : List Value} {h : SH} {k : KV} {x : Res} {j fam : Nat} {t : TypeId} {cs : List Value}
    (hok : (finfo P g).ok = true) (hx : ∀ f' b, (∀ b o v, f b o = some v → f' b o = some v) → (∀ i v, cs[i]? = some v → f' b i = some v) → FnR P f' g (pre ++ .pointer (some ⟨b, 0, none⟩) :: post) x)
    (ea : args = pre ++ .pointer (some ⟨j, 0, some 0⟩) :: post) (hpre : pre.all (gE 6) = true) (hpost : post.all (gE 6) = true) (hrow : h.tr.get j = some (.row t cs fam)) (hg : cs.all (gr 6) = true) (hl : frzLive h frz = true)
    (hp : x.rows.all (fun r => r.2.all (gr 6)) = true) (ho : shOk 4 x.v = true) (hkk : nextC h (fun m => k (shV m 4 x.v) (memSH x.rows h)) = some (.bool true)) : callI P (glF f) frz g args h k = some (.bool true) := by
  subst ea
  rw [nextC_eq] at hkk
  unfold callI
  refine if_pos ⟨_, _, hkk, ent_of_ok hok, fun N μ w args' d hr => ?_⟩
  obtain ⟨p', s', q', g1, h1, g2, h2⟩ := relL_mid hpost hpre hr
  obtain ⟨b, rfl, hc⟩ : ∃ b, s' = .pointer (some ⟨b, 0, none⟩) ∧ ∀ i v, cs[i]? = some v → seeF f w b i = some v := by
    cases h1 with
    | ground hg => simp [gr] at hg
    | ptr hm => exact ⟨_, rfl, see_row d hrow hm hg⟩
  obtain ⟨args'⟩ := args'
  simp only at h2
  subst h2
  exact FnR.call d hl ((hx _ _ see_mono hc).2 w (see_reads d.glob.2.2) _ (g1.append (.cons (.ground rfl) g2))) hp ho
end
end Go.Proofs.Ytpaabfecoghibaa
