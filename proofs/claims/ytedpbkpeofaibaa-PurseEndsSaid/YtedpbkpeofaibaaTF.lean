/- Calls with new rows among their arguments. Over any program. Conditions: as each law says. -/
import Derived.Test.YtedpbkpeofaibaaTE
namespace Go.Proofs.Ytedpbkpeofaibaa
open Go Go.RowKit
set_option linter.unusedSimpArgs false
set_option linter.unusedVariables false
section
variable {P : Program} {f : Nat → Nat → Option Value}
theorem relL_ground {μ : Mu} {l l' : List Value} (h : RelL μ l l') (hg : l.all (gr 6) = true) : l' = l := h.eq hg
theorem relL_mid {μ : Mu} {s : Value} {post : List Value} (hpost : post.all (gr 6) = true) : ∀ {pre l' : List Value}, pre.all (gr 6) = true → RelL μ (pre ++ s :: post) l' → ∃ s', Rel μ s s' ∧ l' = pre ++ s' :: post
  | [], _, _, .cons h t => ⟨_, h, by rw [relL_ground t hpost]; rfl⟩
  | v :: pre, _, hp, .cons h t => by
    rw [List.all_cons, Bool.and_eq_true] at hp
    obtain ⟨s', h1, h2⟩ := relL_mid hpost hp.2 t
    exact ⟨s', h1, by rw [h.eq hp.1, h2]; rfl⟩
theorem relL_mid2 {μ : Mu} {s1 s2 : Value} {mid post : List Value} (hmid : mid.all (gr 6) = true) (hpost : post.all (gr 6) = true) : ∀ {pre l' : List Value}, pre.all (gr 6) = true → RelL μ (pre ++ s1 :: (mid ++ s2 :: post)) l' → ∃ s1' s2', Rel μ s1 s1' ∧ Rel μ s2 s2' ∧ l' = pre ++ s1' :: (mid ++ s2' :: post)
  | [], _, _, .cons h t => by
    obtain ⟨s2', h1, h2⟩ := relL_mid hpost hmid t
    exact ⟨_, s2', h, h1, by rw [h2]; rfl⟩
  | v :: pre, _, hp, .cons h t => by
    rw [List.all_cons, Bool.and_eq_true] at hp
    obtain ⟨s1', s2', h1, h2, h3⟩ := relL_mid2 hmid hpost hp.2 t
    exact ⟨s1', s2', h1, h2, by rw [h.eq hp.1, h3]; rfl⟩
/-- A slice of a new row is a list, in memory. -/
theorem sl_of_rel {α : Type} {enc : α → List Value} {kk : Nat} {l : List α} {N : Lim} {μ : Mu} {h : SH} {w : World} (d : Den P N (glF f) μ h w) {j s n c fam : Nat} {t : TypeId} {cs : List Value} {s' : Value} (hr : Rel μ (.slice (some ⟨j, 0, some s⟩) n c) s') (hs : (s = 0 ∧ n ≤ c) ∨ s = 1) (hrow : h.tr.get j = some (.row t cs fam)) (hcs : cs = l.flatMap enc)
    (hk : ∀ x, (enc x).length = kk) (hg : ∀ x, (enc x).all (gr 6) = true) (hn : l.length = n) (hle : n ≤ 9223372036854775807) : ∃ b c', s' = .slice (some ⟨b, 0, none⟩) n c' ∧ Sl (fun b o => w.cell? ⟨b, o, none⟩) enc kk (some ⟨b, 0, none⟩) n c' l := by
  cases hr with
  | ground hg => simp [gr] at hg
  | slice hm => exact ⟨_, _, rfl, Sl.of_row (fun hg => row_cells d hrow hm hg) hcs hk hg hn (by rcases hs with ⟨_, h⟩ | h; exact h; cases h) hle⟩
  | sliceO hm hn' => exact ⟨_, _, rfl, Sl.of_row (fun hg => row_cells d hrow hm hg) hcs hk hg hn hn' hle⟩
  | sliceE => rcases hs with ⟨hs, _⟩ | hs <;> cases hs
  | sliceA => rcases hs with ⟨hs, _⟩ | hs <;> cases hs
/-- A call with one new row among its arguments. -/
theorem t_callP (O : Orc) {α : Type} {enc : α → List Value} {kk : Nat} (l : List α) (pre post : List Value) {frz : List Nat} {g : FuncId} {args : List Value} {h : SH} {k : KV} {x : Res} {j s n c fam : Nat} {t : TypeId} {cs : List Value}
    (hok : (finfo P g).ok = true) (hx : ∀ f' b c', (∀ b o v, f b o = some v → f' b o = some v) → Sl f' enc kk (some ⟨b, 0, none⟩) n c' l → FnR P f' g (pre ++ .slice (some ⟨b, 0, none⟩) n c' :: post) x) (ea : args = pre ++ .slice (some ⟨j, 0, some s⟩) n c :: post) (hpre : pre.all (gr 6) = true) (hpost : post.all (gr 6) = true)
    (hs : (s = 0 ∧ n ≤ c) ∨ s = 1) (hrow : h.tr.get j = some (.row t cs fam)) (hcs : cs = l.flatMap enc) (hk : ∀ x, (enc x).length = kk) (hg : ∀ x, (enc x).all (gr 6) = true) (hn : l.length = n) (hle : n ≤ 9223372036854775807) (hl : frzLive h frz = true)
    (hp : x.rows.all (fun r => r.2.all (gr 6)) = true) (ho : shOk 4 x.v = true) (hkk : nextC h (fun m => k (shV m 4 x.v) (memSH x.rows h)) = some (.bool true)) : callI P (glF f) frz g args h k = some (.bool true) := by
  subst ea
  rw [nextC_eq] at hkk
  unfold callI
  refine if_pos ⟨_, _, hkk, ent_of_ok hok, fun N μ w args' d hr => ?_⟩
  obtain ⟨s', h1, h2⟩ := relL_mid hpost hpre hr
  obtain ⟨b, c', rfl, h4⟩ := sl_of_rel d h1 hs hrow hcs hk hg hn hle
  obtain ⟨args'⟩ := args'
  simp only at h2
  subst h2
  exact FnR.call d hl ((hx _ _ _ (fun b o v e => d.glob.2.2 b o v e) h4).2 w (fun b o v e => e)) hp ho
/-- A call with two new rows among its arguments. -/
theorem t_callQ (O : Orc) {α β : Type} {enc : α → List Value} {enc2 : β → List Value} {kk kk2 : Nat} (l : List α) (l2 : List β) (pre mid post : List Value) {frz : List Nat} {g : FuncId} {args : List Value} {h : SH} {k : KV} {x : Res} {j s n c fam j2 s2 n2 c2 fam2 : Nat} {t t2 : TypeId} {cs cs2 : List Value}
    (hok : (finfo P g).ok = true) (hx : ∀ f' b c' b2 c2', (∀ b o v, f b o = some v → f' b o = some v) → Sl f' enc kk (some ⟨b, 0, none⟩) n c' l → Sl f' enc2 kk2 (some ⟨b2, 0, none⟩) n2 c2' l2 → FnR P f' g (pre ++ .slice (some ⟨b, 0, none⟩) n c' :: (mid ++ .slice (some ⟨b2, 0, none⟩) n2 c2' :: post)) x)
    (ea : args = pre ++ .slice (some ⟨j, 0, some s⟩) n c :: (mid ++ .slice (some ⟨j2, 0, some s2⟩) n2 c2 :: post)) (hpre : pre.all (gr 6) = true) (hmid : mid.all (gr 6) = true) (hpost : post.all (gr 6) = true)
    (hs : (s = 0 ∧ n ≤ c) ∨ s = 1) (hrow : h.tr.get j = some (.row t cs fam)) (hcs : cs = l.flatMap enc) (hk : ∀ x, (enc x).length = kk) (hg : ∀ x, (enc x).all (gr 6) = true) (hn : l.length = n) (hle : n ≤ 9223372036854775807)
    (hs2 : (s2 = 0 ∧ n2 ≤ c2) ∨ s2 = 1) (hrow2 : h.tr.get j2 = some (.row t2 cs2 fam2)) (hcs2 : cs2 = l2.flatMap enc2) (hk2 : ∀ x, (enc2 x).length = kk2) (hg2 : ∀ x, (enc2 x).all (gr 6) = true) (hn2 : l2.length = n2) (hle2 : n2 ≤ 9223372036854775807) (hl : frzLive h frz = true)
    (hp : x.rows.all (fun r => r.2.all (gr 6)) = true) (ho : shOk 4 x.v = true) (hkk : nextC h (fun m => k (shV m 4 x.v) (memSH x.rows h)) = some (.bool true)) : callI P (glF f) frz g args h k = some (.bool true) := by
  subst ea
  rw [nextC_eq] at hkk
  unfold callI
  refine if_pos ⟨_, _, hkk, ent_of_ok hok, fun N μ w args' d hr => ?_⟩
  obtain ⟨s', s2', h1, h12, h2⟩ := relL_mid2 hmid hpost hpre hr
  obtain ⟨b, c', rfl, h4⟩ := sl_of_rel d h1 hs hrow hcs hk hg hn hle
  obtain ⟨b2, c2', rfl, h5⟩ := sl_of_rel d h12 hs2 hrow2 hcs2 hk2 hg2 hn2 hle2
  obtain ⟨args'⟩ := args'
  simp only at h2
  subst h2
  exact FnR.call d hl ((hx _ _ _ _ _ (fun b o v e => d.glob.2.2 b o v e) h4 h5).2 w (fun b o v e => e)) hp ho
end
/-- A new row that is handed back, if there is anything in it; its slice has no room that is known. -/
def retS (r : Nat) (n : Nat) : List Value → Value
  | [] => .slice none 0 0
  | _ :: _ => .slice (some ⟨r, 0, some 1⟩) n 0
def retR (t : TypeId) : List Value → List (TypeId × List Value)
  | [] => []
  | cs => [(t, cs)]
section
variable {α : Type} {enc : α → List Value} {k : Nat}
/-- The cells of a list's elements, behind each other. -/
def encA (enc : α → List Value) : List α → List Value
  | [] => []
  | x :: l => enc x ++ encA enc l
theorem encA_eq : ∀ l : List α, encA enc l = l.flatMap enc
  | [] => rfl
  | x :: l => by rw [List.flatMap_cons, ← encA_eq l, encA]
theorem encA_gr (hg : ∀ x, (enc x).all (gr 6) = true) (l : List α) : (encA enc l).all (gr 6) = true := by rw [encA_eq]; exact flat_gr hg l
theorem encA_len (hk : ∀ x, (enc x).length = k) (l : List α) : (encA enc l).length = l.length * k := by rw [encA_eq]; exact flat_length hk l
theorem encA_add (l : List α) (x : α) : encA enc (l ++ [x]) = appR (encA enc l) (enc x) := by
  rw [encA_eq, encA_eq, appR_eq, List.flatMap_append, List.flatMap_cons, List.flatMap_nil, List.append_nil]
end
abbrev encP (x : Int × Int) : List Value := [.int .i64 x.1, .int .i64 x.2]
end Go.Proofs.Ytedpbkpeofaibaa
