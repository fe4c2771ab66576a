/- Calls with three new rows in an aggregate among their arguments. Over any program. Conditions: as each law says. -/
import Derived.Test.YtpaabfecoghibaaK13
namespace Go.Proofs.Ytpaabfecoghibaa
open Go Go.RowKit
set_option linter.unusedSimpArgs false
set_option linter.unusedVariables false
section
variable {P : Program} {f : Nat → Nat → Option Value}
theorem t_call3 (O : Orc) {α β γ : Type} {enc : α → List Value} {enc2 : β → List Value} {enc3 : γ → List Value} {kk kk2 kk3 : Nat} (l : List α) (l2 : List β) (l3 : List γ) (pre post : List Value) {frz : List Nat} {g : FuncId} {args : List Value} {h : SH} {k : KV} {x : Res} {j s n c fam j2 s2 n2 c2 fam2 j3 s3 n3 c3 fam3 : Nat} {t t2 t3 : TypeId} {cs cs2 cs3 : List Value}
    (hok : (finfo P g).ok = true) (hx : ∀ f' b c' b2 c2' b3 c3', (∀ b o v, f b o = some v → f' b o = some v) → Sl f' enc kk (some ⟨b, 0, none⟩) n c' l → Sl f' enc2 kk2 (some ⟨b2, 0, none⟩) n2 c2' l2 → Sl f' enc3 kk3 (some ⟨b3, 0, none⟩) n3 c3' l3 → FnR P f' g (pre ++ .agg ⟨[.slice (some ⟨b, 0, none⟩) n c', .slice (some ⟨b2, 0, none⟩) n2 c2', .slice (some ⟨b3, 0, none⟩) n3 c3']⟩ :: post) x)
    (ea : args = pre ++ .agg ⟨[.slice (some ⟨j, 0, some s⟩) n c, .slice (some ⟨j2, 0, some s2⟩) n2 c2, .slice (some ⟨j3, 0, some s3⟩) n3 c3]⟩ :: post) (hpre : pre.all (gE 6) = true) (hpost : post.all (gE 6) = true)
    (hs : (s = 0 ∧ n ≤ c) ∨ s = 1) (hrow : h.tr.get j = some (.row t cs fam)) (hcs : cs = l.flatMap enc) (hk : ∀ x, (enc x).length = kk) (hg : ∀ x, (enc x).all (gr 6) = true) (hn : l.length = n) (hle : n ≤ 9223372036854775807)
    (hs2 : (s2 = 0 ∧ n2 ≤ c2) ∨ s2 = 1) (hrow2 : h.tr.get j2 = some (.row t2 cs2 fam2)) (hcs2 : cs2 = l2.flatMap enc2) (hk2 : ∀ x, (enc2 x).length = kk2) (hg2 : ∀ x, (enc2 x).all (gr 6) = true) (hn2 : l2.length = n2) (hle2 : n2 ≤ 9223372036854775807)
    (hs3 : (s3 = 0 ∧ n3 ≤ c3) ∨ s3 = 1) (hrow3 : h.tr.get j3 = some (.row t3 cs3 fam3)) (hcs3 : cs3 = l3.flatMap enc3) (hk3 : ∀ x, (enc3 x).length = kk3) (hg3 : ∀ x, (enc3 x).all (gr 6) = true) (hn3 : l3.length = n3) (hle3 : n3 ≤ 9223372036854775807) (hl : frzLive h frz = true)
    (hp : x.rows.all (fun r => r.2.all (gr 6)) = true) (ho : shOk 4 x.v = true) (hkk : nextC h (fun m => k (shV m 4 x.v) (memSH x.rows h)) = some (.bool true)) : callI P (glF f) frz g args h k = some (.bool true) := by
  subst ea
  rw [nextC_eq] at hkk
  unfold callI
  refine if_pos ⟨_, _, hkk, ent_of_ok hok, fun N μ w args' d hr => ?_⟩
  obtain ⟨p', s', q', g1, h1, g2, h2⟩ := relL_mid hpost hpre hr
  obtain ⟨⟨q⟩, rfl, hq⟩ := agg_rel h1
  simp only at hq
  cases hq with
  | cons r1 hq =>
    cases hq with
    | cons r2 hq =>
      cases hq with
      | cons r3 hq =>
        obtain ⟨b, c', rfl, h4⟩ := sl_of_rel d r1 hs hrow hcs hk hg hn hle
        obtain ⟨b2, c2', rfl, h5⟩ := sl_of_rel d r2 hs2 hrow2 hcs2 hk2 hg2 hn2 hle2
        obtain ⟨b3, c3', rfl, h6⟩ := sl_of_rel d r3 hs3 hrow3 hcs3 hk3 hg3 hn3 hle3
        cases hq
        obtain ⟨args'⟩ := args'
        simp only at h2
        subst h2
        exact FnR.call d hl ((hx _ _ _ _ _ _ _ see_mono h4 h5 h6).2 w (see_reads d.glob.2.2) _ (g1.append (.cons (.ground rfl) g2))) hp ho
end
end Go.Proofs.Ytpaabfecoghibaa
