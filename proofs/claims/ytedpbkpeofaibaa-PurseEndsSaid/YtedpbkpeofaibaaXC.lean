/- The shadow of a memory: a row that grows by an append: the new row lies in the old one's block, or in a new one; what others of its family hold behind its end is forgotten. Over any program. Conditions: as each law says. -/
import Derived.Test.YtedpbkpeofaibaaXB
namespace Go.Proofs.Ytedpbkpeofaibaa
open Go Go.RowKit
set_option linter.unusedSimpArgs false
set_option linter.unusedVariables false
noncomputable def longRow (tr : Tr SB) (keep k : Nat) : Bool := match tr.get k with
  | some (.row _ cs _) => !(Nat.ble cs.length keep)
  | _ => false
noncomputable def SH.grow (h : SH) (t : TypeId) (cs : List Value) (f keep : Nat) : SH :=
  { next := h.next + 1, tr := (((kinOf h f).filter (longRow h.tr keep)).foldl (fun t k => t.set k none) h.tr).set h.next (some (.row t cs f)), kin := h.kin.set f (some (h.next :: kinOf h f)) }
section
variable {P : Program} {N : Lim} {G : Gl} {μ : Mu} {h : SH} {w : World}
theorem foldl_set_all {α : Type} : ∀ (l : List Nat) (t : Tr α) (m : Nat), (l.foldl (fun t k => t.set k none) t).get m = if m ∈ l then none else t.get m
  | [], t, m => by simp
  | k :: l, t, m => by
    rw [List.foldl_cons, foldl_set_all l, Tr.get_set]
    by_cases h1 : m ∈ l
    · simp [h1]
    · by_cases h2 : m = k <;> simp [h1, h2]
theorem SH.grow_get (h : SH) (t : TypeId) (cs : List Value) (f keep m : Nat) : (h.grow t cs f keep).tr.get m = if m = h.next then some (.row t cs f) else if m ∈ kinOf h f ∧ longRow h.tr keep m = true then none else h.tr.get m := by
  simp only [SH.grow, Tr.get_set, foldl_set_all, List.mem_filter]
theorem kinOf_grow (h : SH) (t : TypeId) (cs : List Value) (f keep g : Nat) : kinOf (h.grow t cs f keep) g = if g = f then h.next :: kinOf h f else kinOf h g := by
  simp only [kinOf, SH.grow, Tr.get_set]
  by_cases e : g = f
  · subst e; simp
  · simp [e]
/-- The row has grown; its true block is that of the old one, or a new one. -/
theorem Den.grow (d : Den P N G μ h w) {j f : Nat} {t : TypeId} {cs : List Value} (hj : h.tr.get j = some (.row t cs f)) {keep b κ : Nat} (vs : List Value) {w' : World}
    (hs : w.heap.size ≤ w'.heap.size)
    (hb : (∃ κ', μ j = some (b, κ') ∧ (∀ k, k ≠ b → w'.heap[k]? = w.heap[k]?) ∧ ∃ cur cur', w.heap[b]? = some (.cells cur t (0, 0)) ∧ w'.heap[b]? = some (.cells cur' t (0, 0)) ∧ cur'.size = cur.size ∧ cur'.toList.take keep = cur.toList.take keep) ∨
      (b = w.heap.size ∧ ∀ k, k < w.heap.size → w'.heap[k]? = w.heap[k]?))
    (hnew : BlkOk P N (μ.add h.next b κ) w' h.next (.row t vs f)) : Den P N G (μ.add h.next b κ) (h.grow t vs f keep) w' := by
  have hnone := d.muOld h.next (Nat.le_refl _)
  have hle : μ.le (μ.add h.next b κ) := Mu.le_add hnone
  have hjn : j ≠ h.next := fun e => by have := d.lt hj; omega
  obtain ⟨b0, κ0, hm0, hN0, hlt0⟩ := (d.blk j _ hj).at
  have hsub : ∀ m sm, (h.grow t vs f keep).tr.get m = some sm → m ≠ h.next → h.tr.get m = some sm ∧ ¬ (m ∈ kinOf h f ∧ longRow h.tr keep m = true) := fun m sm hm hne => by
    rw [SH.grow_get, if_neg hne] at hm
    split at hm
    · cases hm
    · rename_i hn; exact ⟨hm, hn⟩
  -- where the old ones lie
  have hmu : ∀ k sk b' κ', h.tr.get k = some sk → (μ.add h.next b κ) k = some (b', κ') → k ≠ h.next → μ k = some (b', κ') ∧ b' < w.heap.size := fun k sk b' κ' hk hm hne => by
    simp only [Mu.add, if_neg hne] at hm
    obtain ⟨b1, κ1, h1, _, h3⟩ := (d.blk k sk hk).at
    rw [hm] at h1; cases h1
    exact ⟨hm, h3⟩
  refine ⟨⟨Nat.le_trans d.base.1 hs, fun k hk => Nat.lt_of_lt_of_le (d.base.2 k hk) hs⟩, ?_, ?_, ?_, ?_, ?_, ?_, ?_, ?_⟩
  · intro m sm hm
    by_cases e : m = h.next
    · subst e
      rw [SH.grow_get, if_pos rfl] at hm
      cases hm; exact hnew
    · obtain ⟨h1, h2⟩ := hsub m sm hm e
      have hbm := d.blk m sm h1
      rcases hb with ⟨κ', hmj, hoth, cur, cur', hc, hc', hsz, htk⟩ | ⟨rfl, hoth⟩
      · rw [hm0] at hmj; cases hmj
        by_cases hf : famOf m sm = famOf j (.row t cs f)
        · cases sm with
          | row t2 cs2 f2 =>
            simp only [famOf] at hf
            obtain rfl : f2 = f := by omega
            have hlen : cs2.length ≤ keep := by
              have hk := d.kin m t2 cs2 f2 h1
              have : ¬ longRow h.tr keep m = true := fun q => h2 ⟨hk, q⟩
              simp only [longRow, h1, Bool.not_eq_true'] at this
              cases hq : Nat.ble cs2.length keep with
              | true => exact Nat.le_of_ble_eq_true hq
              | false => exact absurd hq this
            obtain ⟨b2, κ2, cur2, sz2, a1, a2, a3, a4, a5, a6, a7⟩ := hbm
            by_cases eb : b2 = b
            · subst eb
              rw [hc] at a3; cases a3
              refine ⟨b2, κ2, cur', sz2, hle _ _ a1, a2, hc', a4, by rw [hsz]; exact a5, by rw [hsz]; exact a6, ?_⟩
              have : cur'.toList.take cs2.length = cur.toList.take cs2.length := by
                have := congrArg (List.take cs2.length) htk
                rw [List.take_take, List.take_take, Nat.min_eq_left hlen] at this
                exact this
              rw [this]; exact a7.mono hle
            · exact ⟨b2, κ2, cur2, sz2, hle _ _ a1, a2, (hoth b2 eb).trans a3, a4, a5, a6, a7.mono hle⟩
          | _ => simp only [famOf] at hf; omega
        · refine hbm.keep hle fun b' κ' hb' => hoth b' fun eb => ?_
          subst eb
          exact d.apart m j sm _ b' κ' κ0 h1 hj hf hb' hm0
      · refine hbm.keep hle fun b' κ' hb' => hoth b' ?_
        obtain ⟨b1, κ1, q1, _, q3⟩ := hbm.at
        rw [hb'] at q1; cases q1; exact q3
  · intro m hm
    simp only [SH.grow] at hm
    rw [SH.grow_get, if_neg (by omega)]
    split
    · rfl
    · exact d.old m (by omega)
  · intro m hm
    simp only [SH.grow] at hm
    simp only [Mu.add, if_neg (show ¬ m = h.next by omega)]
    exact d.muOld m (by omega)
  · -- two of other families
    have key : ∀ m sm b' κ', (h.grow t vs f keep).tr.get m = some sm → famOf m sm ≠ 2 * f → (μ.add h.next b κ) m = some (b', κ') → b' ≠ b := fun m sm b' κ' hm hf hmm => by
      have hne : m ≠ h.next := fun e => by
        subst e
        rw [SH.grow_get, if_pos rfl] at hm
        cases hm; exact hf rfl
      obtain ⟨h1, _⟩ := hsub m sm hm hne
      obtain ⟨q1, q2⟩ := hmu m sm b' κ' h1 hmm hne
      rcases hb with ⟨κ'', hmj, _⟩ | ⟨rfl, _⟩
      · intro e; subst e
        exact d.apart m j sm _ b' κ' κ'' h1 hj hf q1 hmj
      · omega
    intro m n sm sn b' κ₁ κ₂ hm hn hne h1 h2
    by_cases em : m = h.next
    · subst em
      have e1 := hm
      rw [SH.grow_get, if_pos rfl] at e1
      cases e1
      rw [Mu.add_same] at h1; cases h1
      exact key n sn b κ₂ hn (fun e => hne e.symm) h2 rfl
    · by_cases en : n = h.next
      · subst en
        have e1 := hn
        rw [SH.grow_get, if_pos rfl] at e1
        cases e1
        rw [Mu.add_same] at h2; cases h2
        exact key m sm b κ₁ hm hne h1 rfl
      · exact d.apart m n sm sn b' κ₁ κ₂ (hsub m sm hm em).1 (hsub n sn hn en).1 hne (hmu m sm b' κ₁ (hsub m sm hm em).1 h1 em).1 (hmu n sn b' κ₂ (hsub n sn hn en).1 h2 en).1
  · intro m t2 cs2 f2 hm
    rw [kinOf_grow]
    by_cases em : m = h.next
    · subst em
      rw [SH.grow_get, if_pos rfl] at hm
      cases hm
      rw [if_pos rfl]; simp
    · have := d.kin m t2 cs2 f2 (hsub m _ hm em).1
      split
      · rename_i e; subst e; exact List.mem_cons_of_mem _ this
      · exact this
  · intro m t2 cs2 f2 hm
    by_cases em : m = h.next
    · subst em
      rw [SH.grow_get, if_pos rfl] at hm
      cases hm
      exact Nat.lt_succ_of_lt (d.famLt j t cs f hj)
    · exact Nat.lt_succ_of_lt (d.famLt m t2 cs2 f2 (hsub m _ hm em).1)
  · intro g hg
    simp only [SH.grow] at hg ⊢
    rw [Tr.get_set, if_neg (by have := d.famLt j t cs f hj; omega)]
    exact d.kinOld g (by omega)
  · refine ⟨d.glob.1, d.glob.2.keep fun b0 hb0 => ?_⟩
    have h1 := d.glob.1 b0 hb0
    rcases hb with ⟨κ'', hmj, hoth, _⟩ | ⟨rfl, hoth⟩
    · rw [hm0] at hmj; cases hmj
      exact hoth _ (by have := hN0.1; omega)
    · exact hoth _ (by have := d.base.1; omega)
end
end Go.Proofs.Ytedpbkpeofaibaa
