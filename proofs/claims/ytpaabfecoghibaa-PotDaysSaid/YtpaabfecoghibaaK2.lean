/- The shadow of a memory: a row that grows by an append: the new row lies in the old one's block, or in a new one; what others of its family hold behind its end is forgotten. Over any program. Conditions: as each law says. -/
import Derived.Test.YtpaabfecoghibaaK1
import Derived.Laws.Build
import Derived.Laws.Slices
import Derived.LoopTactic
import Derived.Laws.Tables
import Derived.ChangeKeysEq
namespace Go.Proofs.Ytpaabfecoghibaa
open Go Go.RowKit
set_option linter.unusedSimpArgs false
set_option linter.unusedVariables false
noncomputable def longRow (tr : Tr SB) (keep k : Nat) : Bool := match tr.get k with
  | some (.row _ cs _) => !(Nat.ble cs.length keep)
  | _ => false
noncomputable def SH.grow (h : SH) (t : TypeId) (cs : List Value) (f keep : Nat) : SH :=
  { next := h.next + 1, tr := (((kinOf h f).filter (longRow h.tr keep)).foldl (fun t k => t.set k none) h.tr).set h.next (some (.row t cs f)), kin := h.kin.set f (some (h.next :: kinOf h f)) }
section
variable {P : Program} {N : Lim} {G : Gl} {μ : Mu} {h : SH} {w : World}
theorem foldl_set_all {α : Type} : ∀ (l : List Nat) (t : Tr α) (m : Nat), (l.foldl (fun t k => t.set k none) t).get m = if m ∈ l then none else t.get m
  | [], t, m => by simp
  | k :: l, t, m => by
    rw [List.foldl_cons, foldl_set_all l, Tr.get_set]
    by_cases h1 : m ∈ l
    · simp [h1]
    · by_cases h2 : m = k <;> simp [h1, h2]
theorem SH.grow_get (h : SH) (t : TypeId) (cs : List Value) (f keep m : Nat) : (h.grow t cs f keep).tr.get m = if m = h.next then some (.row t cs f) else if m ∈ kinOf h f ∧ longRow h.tr keep m = true then none else h.tr.get m := by
  simp only [SH.grow, Tr.get_set, foldl_set_all, List.mem_filter]
theorem kinOf_grow (h : SH) (t : TypeId) (cs : List Value) (f keep g : Nat) : kinOf (h.grow t cs f keep) g = if g = f then h.next :: kinOf h f else kinOf h g := by
  simp only [kinOf, SH.grow, Tr.get_set]
  by_cases e : g = f
  · subst e; simp
  · simp [e]
/-- The row has grown; its true block is that of the old one, or a new one. -/
theorem Den.grow (d : Den P N G μ h w) {j f : Nat} {t : TypeId} {cs : List Value} (hj : h.tr.get j = some (.row t cs f)) {keep b κ : Nat} (vs : List Value) {w' : World}
    (hs : w.heap.size ≤ w'.heap.size)
    (hb : (∃ κ', μ j = some (b, κ') ∧ (∀ k, k ≠ b → w'.heap[k]? = w.heap[k]?) ∧ ∃ cur cur', w.heap[b]? = some (.cells cur t (0, 0)) ∧ w'.heap[b]? = some (.cells cur' t (0, 0)) ∧ cur'.size = cur.size ∧ cur'.toList.take keep = cur.toList.take keep) ∨
      (b = w.heap.size ∧ ∀ k, k < w.heap.size → w'.heap[k]? = w.heap[k]?))
    (hnew : BlkOk P N (μ.add h.next b κ) w' h.next (.row t vs f)) : Den P N G (μ.add h.next b κ) (h.grow t vs f keep) w' := by
  have hnone := d.muOld h.next (Nat.le_refl _)
  have hle : μ.le (μ.add h.next b κ) := Mu.le_add hnone
  have hjn : j ≠ h.next := fun e => by have := d.lt hj; omega
  obtain ⟨b0, κ0, hm0, hN0, hlt0⟩ := (d.blk j _ hj).at
  have hsub : ∀ m sm, (h.grow t vs f keep).tr.get m = some sm → m ≠ h.next → h.tr.get m = some sm ∧ ¬ (m ∈ kinOf h f ∧ longRow h.tr keep m = true) := fun m sm hm hne => by
    rw [SH.grow_get, if_neg hne] at hm
    split at hm
    · cases hm
    · rename_i hn; exact ⟨hm, hn⟩
  -- where the old ones lie
  have hmu : ∀ k sk b' κ', h.tr.get k = some sk → (μ.add h.next b κ) k = some (b', κ') → k ≠ h.next → μ k = some (b', κ') ∧ b' < w.heap.size := fun k sk b' κ' hk hm hne => by
    simp only [Mu.add, if_neg hne] at hm
    obtain ⟨b1, κ1, h1, _, h3⟩ := (d.blk k sk hk).at
    rw [hm] at h1; cases h1
    exact ⟨hm, h3⟩
  refine ⟨⟨Nat.le_trans d.base.1 hs, fun k hk => Nat.lt_of_lt_of_le (d.base.2 k hk) hs⟩, ?_, ?_, ?_, ?_, ?_, ?_, ?_, ?_⟩
  · intro m sm hm
    by_cases e : m = h.next
    · subst e
      rw [SH.grow_get, if_pos rfl] at hm
      cases hm; exact hnew
    · obtain ⟨h1, h2⟩ := hsub m sm hm e
      have hbm := d.blk m sm h1
      rcases hb with ⟨κ', hmj, hoth, cur, cur', hc, hc', hsz, htk⟩ | ⟨rfl, hoth⟩
      · rw [hm0] at hmj; cases hmj
        by_cases hf : famOf m sm = famOf j (.row t cs f)
        · cases sm with
          | row t2 cs2 f2 =>
            simp only [famOf] at hf
            obtain rfl : f2 = f := by omega
            have hlen : cs2.length ≤ keep := by
              have hk := d.kin m t2 cs2 f2 h1
              have : ¬ longRow h.tr keep m = true := fun q => h2 ⟨hk, q⟩
              simp only [longRow, h1, Bool.not_eq_true'] at this
              cases hq : Nat.ble cs2.length keep with
              | true => exact Nat.le_of_ble_eq_true hq
              | false => exact absurd hq this
            obtain ⟨b2, κ2, cur2, sz2, a1, a2, a3, a4, a5, a6, a7⟩ := hbm
            by_cases eb : b2 = b
            · subst eb
              rw [hc] at a3; cases a3
              refine ⟨b2, κ2, cur', sz2, hle _ _ a1, a2, hc', a4, by rw [hsz]; exact a5, by rw [hsz]; exact a6, ?_⟩
              have : cur'.toList.take cs2.length = cur.toList.take cs2.length := by
                have := congrArg (List.take cs2.length) htk
                rw [List.take_take, List.take_take, Nat.min_eq_left hlen] at this
                exact this
              rw [this]; exact a7.mono hle
            · exact ⟨b2, κ2, cur2, sz2, hle _ _ a1, a2, (hoth b2 eb).trans a3, a4, a5, a6, a7.mono hle⟩
          | _ => simp only [famOf] at hf; omega
        · refine hbm.keep hle fun b' κ' hb' => hoth b' fun eb => ?_
          subst eb
          exact d.apart m j sm _ b' κ' κ0 h1 hj hf hb' hm0
      · refine hbm.keep hle fun b' κ' hb' => hoth b' ?_
        obtain ⟨b1, κ1, q1, _, q3⟩ := hbm.at
        rw [hb'] at q1; cases q1; exact q3
  · intro m hm
    simp only [SH.grow] at hm
    rw [SH.grow_get, if_neg (by omega)]
    split
    · rfl
    · exact d.old m (by omega)
  · intro m hm
    simp only [SH.grow] at hm
    simp only [Mu.add, if_neg (show ¬ m = h.next by omega)]
    exact d.muOld m (by omega)
  · -- two of other families
    have key : ∀ m sm b' κ', (h.grow t vs f keep).tr.get m = some sm → famOf m sm ≠ 2 * f → (μ.add h.next b κ) m = some (b', κ') → b' ≠ b := fun m sm b' κ' hm hf hmm => by
      have hne : m ≠ h.next := fun e => by
        subst e
        rw [SH.grow_get, if_pos rfl] at hm
        cases hm; exact hf rfl
      obtain ⟨h1, _⟩ := hsub m sm hm hne
      obtain ⟨q1, q2⟩ := hmu m sm b' κ' h1 hmm hne
      rcases hb with ⟨κ'', hmj, _⟩ | ⟨rfl, _⟩
      · intro e; subst e
        exact d.apart m j sm _ b' κ' κ'' h1 hj hf q1 hmj
      · omega
    intro m n sm sn b' κ₁ κ₂ hm hn hne h1 h2
    by_cases em : m = h.next
    · subst em
      have e1 := hm
      rw [SH.grow_get, if_pos rfl] at e1
      cases e1
      rw [Mu.add_same] at h1; cases h1
      exact key n sn b κ₂ hn (fun e => hne e.symm) h2 rfl
    · by_cases en : n = h.next
      · subst en
        have e1 := hn
        rw [SH.grow_get, if_pos rfl] at e1
        cases e1
        rw [Mu.add_same] at h2; cases h2
        exact key m sm b κ₁ hm hne h1 rfl
      · exact d.apart m n sm sn b' κ₁ κ₂ (hsub m sm hm em).1 (hsub n sn hn en).1 hne (hmu m sm b' κ₁ (hsub m sm hm em).1 h1 em).1 (hmu n sn b' κ₂ (hsub n sn hn en).1 h2 en).1
  · intro m t2 cs2 f2 hm
    rw [kinOf_grow]
    by_cases em : m = h.next
    · subst em
      rw [SH.grow_get, if_pos rfl] at hm
      cases hm
      rw [if_pos rfl]; simp
    · have := d.kin m t2 cs2 f2 (hsub m _ hm em).1
      split
      · rename_i e; subst e; exact List.mem_cons_of_mem _ this
      · exact this
  · intro m t2 cs2 f2 hm
    by_cases em : m = h.next
    · subst em
      rw [SH.grow_get, if_pos rfl] at hm
      cases hm
      exact Nat.lt_succ_of_lt (d.famLt j t cs f hj)
    · exact Nat.lt_succ_of_lt (d.famLt m t2 cs2 f2 (hsub m _ hm em).1)
  · intro g hg
    simp only [SH.grow] at hg ⊢
    rw [Tr.get_set, if_neg (by have := d.famLt j t cs f hj; omega)]
    exact d.kinOld g (by omega)
  · refine ⟨d.glob.1, d.glob.2.keep fun b0 hb0 => ?_⟩
    rcases hb with ⟨κ'', hmj, hoth, _⟩ | ⟨rfl, hoth⟩
    · rw [hm0] at hmj; cases hmj
      exact hoth _ (d.globNe hb0 hN0)
    · exact hoth _ (by have := d.globLt hb0; omega)
end
end Go.Proofs.Ytpaabfecoghibaa

/- The operations that leave memory as it is, reckoned on the shadow: what each yields, in every world in which the blocks that are seen are the same. Over any program. Conditions: as each law says. -/
namespace Go.Proofs.Ytpaabfecoghibaa
open Go Go.RowKit
set_option linter.unusedSimpArgs false
set_option linter.unusedVariables false
/-- What a chain of steps that asks no world comes to. -/
def pureOut {α : Type} (P : Program) : Sem α → Option α
  | .pure a => some a
  | .program k => pureOut P (k P)
  | .mark _ k => pureOut P k
  | _ => none
theorem pureOut_run {α : Type} {P : Program} : ∀ {s : Sem α} {a : α}, pureOut P s = some a → ∀ w, s.run P w = .ok a w := by
  intro s
  induction s with
  | pure a => intro b h w; simp only [pureOut, Option.some.injEq] at h; subst h; rfl
  | program k ih => intro b h w; simp only [pureOut] at h; simp only [Sem.run]; exact ih _ h w
  | mark m k ih => intro b h w; simp only [pureOut] at h; simp only [Sem.run]; exact ih h w
  | _ => intro b h; simp [pureOut] at h
/-- Blocks, and variables, that are seen. -/
structure Sees (P : Program) (N : Lim) (G : Gl) (μ : Mu) (get : Nat → Option SB) (w : World) : Prop where
  blk : ∀ j sb, get j = some sb → BlkOk P N μ w j sb
  glob : GW G w
/-- They are the same in another world. -/
def Same (μ : Mu) (get : Nat → Option SB) (G : Gl) (w W : World) : Prop :=
  (∀ j sb, get j = some sb → ∀ b κ, μ j = some (b, κ) → W.heap[b]? = w.heap[b]?) ∧ ∀ b, GB G b → W.heap[b]? = w.heap[b]?
theorem Same.refl {μ : Mu} {get : Nat → Option SB} {G : Gl} {w : World} : Same μ get G w w := ⟨fun _ _ _ _ _ _ => rfl, fun _ _ => rfl⟩
/-- A shadow value that stands for what steps yield. -/
def Yields (P : Program) (μ : Mu) (get : Nat → Option SB) (G : Gl) (w : World) (s : Sem Value) (v : Value) : Prop :=
  ∃ v', Rel μ v v' ∧ ∀ W, Same μ get G w W → s.run P W = .ok v' W
def cellsAt (G : Gl) (get : Nat → Option SB) (a : Addr) : Option (List Value) := match a.spot with
  | some 0 => match get a.block with
    | some (.row _ cs _) => some cs
    | _ => none
  | none => match G.l.find? (fun x => Nat.beq x.1 a.block) with
    | some x => some x.2.1.toList
    | none => none
  | _ => none
section
variable {P : Program} {N : Lim} {G : Gl} {μ : Mu} {get : Nat → Option SB} {w : World}
/-- Cells that are seen lie there, in each world in which they are the same. -/
theorem cells_at (hG : G.l.all (fun x => x.2.1.toList.all (gr 6)) = true) (hs : Sees P N G μ get w) {a : Addr} {cs : List Value} (h : cellsAt G get a = some cs) {p : Value} (hp : Rel μ (.pointer (some a)) p) :
    ∃ b cs', p = .pointer (some ⟨b, a.off, none⟩) ∧ RelL μ cs cs' ∧ ∀ W, Same μ get G w W → ∀ i v, cs'[i]? = some v → W.cell? ⟨b, i, none⟩ = some v := by
  obtain ⟨blk, off, sp⟩ := a
  cases hp with
  | ground hg =>
    have hsp : sp = none := by simpa [gr] using hg
    subst hsp
    simp only [cellsAt] at h
    split at h
    · rename_i x hx
      cases h
      have hmem := List.mem_of_find?_eq_some hx
      have hq := List.find?_some hx
      obtain rfl : x.1 = blk := Nat.eq_of_beq_eq_true hq
      obtain ⟨fr, hw⟩ := hs.glob.1 x hmem
      refine ⟨x.1, x.2.1.toList, rfl, RelL.refl (List.all_eq_true.1 hG x hmem), fun W hW i v hv => ?_⟩
      simp only [World.cell?, (hW.2 _ (.inl ⟨x, hmem, rfl⟩)).trans hw]
      simpa using hv
    · cases h
  | ptr hm =>
    rename_i b κ
    simp only [cellsAt] at h
    split at h
    · rename_i t cs2 f hget
      cases h
      obtain ⟨b', κ', cur, sz, h1, h2, h3, h4, h5, h6, h7⟩ := hs.blk _ _ hget
      rw [hm] at h1; cases h1
      refine ⟨b, cur.toList.take cs.length, rfl, h7, fun W hW i v hv => ?_⟩
      simp only [World.cell?, (hW.1 _ _ hget b κ hm).trans h3]
      rw [List.getElem?_take] at hv
      split at hv
      · simpa using hv
      · cases hv
    · cases h
def readAt (P : Program) (t : TypeId) (cs : List Value) (off : Nat) : Option Value := match P.underlying t, P.info? t with
  | some d, some i => cond d.isRow (cond (Nat.ble (off + i.size) cs.length) (some (.agg ((cs.drop off).take i.size).toArray)) none) cs[off]?
  | _, _ => none
/-- Cells of memory that was there before. -/
def cellsF (f : Nat → Nat → Option Value) (b : Nat) : Nat → Nat → Option (List Value)
  | 0, _ => some []
  | n + 1, o => match f b o with
    | some v => cond (gE 6 v) (match cellsF f b n (o + 1) with
      | some l => some (v :: l)
      | none => none) none
    | none => none
def readF (P : Program) (f : Nat → Nat → Option Value) (t : TypeId) (b o : Nat) : Option Value := match P.underlying t, P.info? t with
  | some d, some i => cond d.isRow (match cellsF f b i.size o with
    | some l => some (.agg l.toArray)
    | none => none) (match f b o with
    | some v => cond (gE 6 v) (some v) none
    | none => none)
  | _, _ => none
theorem cellsF_get {f : Nat → Nat → Option Value} {b : Nat} : ∀ {n o : Nat} {l : List Value}, cellsF f b n o = some l → l.length = n ∧ l.all (gE 6) = true ∧ ∀ i v, l[i]? = some v → f b (o + i) = some v
  | 0, o, l, h => by simp only [cellsF, Option.some.injEq] at h; subst h; exact ⟨rfl, rfl, fun i v hv => by simp at hv⟩
  | n + 1, o, l, h => by
    simp only [cellsF] at h
    split at h
    · rename_i v hv
      cases hg : gE 6 v with
      | false => rw [hg] at h; cases h
      | true =>
        rw [hg, cond_true] at h
        split at h
        · rename_i l' hl
          cases h
          obtain ⟨h1, h2, h3⟩ := cellsF_get hl
          refine ⟨by simp [h1], by simp [hg, h2], fun i u hu => ?_⟩
          cases i with
          | zero => simp only [List.getElem?_cons_zero, Option.some.injEq] at hu; subst hu; exact hv
          | succ i => rw [← h3 i u (by simpa using hu)]; congr 1; omega
        · cases h
    · cases h
def sLoad (P : Program) (G : Gl) (get : Nat → Option SB) (t : TypeId) : Value → Option Value
  | .pointer (some a) => match cellsAt G get a with
    | some cs => readAt P t cs a.off
    | none => match a.spot with
      | none => readF P G.f t a.block a.off
      | some _ => none
  | _ => none
theorem cellsF_rel (hs : Sees P N G μ get w) {b : Nat} : ∀ {n o : Nat} {l : List Value}, cellsF G.f b n o = some l → ∃ l', l'.length = n ∧ RelL μ l l' ∧ ∀ W, Same μ get G w W → ∀ i v, l'[i]? = some v → W.cell? ⟨b, o + i, none⟩ = some v
  | 0, o, l, h => by simp only [cellsF, Option.some.injEq] at h; subst h; exact ⟨[], rfl, .nil, fun W hW i v hv => by simp at hv⟩
  | n + 1, o, l, h => by
    simp only [cellsF] at h
    split at h
    · rename_i v hv
      cases hg : gE 6 v with
      | false => rw [hg] at h; cases h
      | true =>
        rw [hg, cond_true] at h
        split at h
        · rename_i l' hl
          cases h
          obtain ⟨l2, h1, h2, h3⟩ := cellsF_rel hs hl
          obtain ⟨v2, hc0, hr⟩ := hs.glob.2 b o v hv
          refine ⟨v2 :: l2, by simp [h1], .cons (hr.reE 6 hg) h2, fun W hS i u hu => ?_⟩
          cases i with
          | zero =>
            simp only [List.getElem?_cons_zero, Option.some.injEq] at hu
            subst hu
            have h5 := hS.2 b (.inr ⟨o, v, hv⟩)
            simp only [World.cell?, h5] at hc0 ⊢
            exact hc0
          | succ i =>
            have := h3 W hS i u (by simpa using hu)
            rw [show o + (i + 1) = o + 1 + i from by omega]; exact this
        · cases h
    · cases h
theorem readF_ok (hs : Sees P N G μ get w) {t : TypeId} {b o : Nat} {v : Value} (h : readF P G.f t b o = some v) : Yields P μ get G w (Instr.loadAt t (.pointer (some ⟨b, o, none⟩))) v := by
  unfold readF at h
  split at h
  · rename_i d i hu hi
    cases hd : d.isRow with
    | true =>
      simp only [hd, cond_true] at h
      split at h
      · rename_i l hl
        cases h
        obtain ⟨l', h1, h2, h3⟩ := cellsF_rel hs hl
        refine ⟨.agg l'.toArray, .agg (by simpa using h2), fun W hS => ?_⟩
        exact run_loadAt_mid W b o t l' d (fun j v hv => h3 W hS j v hv) hu hd (by rw [hi, h1]; rfl)
      · cases h
    | false =>
      simp only [hd, cond_false] at h
      split at h
      · rename_i v' hv
        cases hg : gE 6 v' with
        | false => rw [hg] at h; cases h
        | true =>
          rw [hg] at h
          simp only [cond_true, Option.some.injEq] at h
          subst h
          obtain ⟨v2, hc0, hr⟩ := hs.glob.2 b o v' hv
          refine ⟨v2, hr.reE 6 hg, fun W hS => ?_⟩
          have hc : W.cell? ⟨b, o, none⟩ = some v2 := by
            have h2 := hS.2 b (.inr ⟨o, v', hv⟩)
            simp only [World.cell?, h2] at hc0 ⊢
            exact hc0
          have hagg : (isAgg t).run P W = .ok false W := by
            unfold isAgg
            rw [Sem.run_bind, run_underlying hu W]
            cases d <;> first | rfl | simp at hd
          simp only [Instr.loadAt, Instr.sureAddr, Sem.run_bind, Sem.run_pure, Result.andThen_ok, loadVar, hagg, Bool.false_eq_true, if_false, run_load, hc]
      · cases h
  · cases h
theorem sLoad_ok (hG : G.l.all (fun x => x.2.1.toList.all (gr 6)) = true) (hs : Sees P N G μ get w) {t : TypeId} {x p v : Value} (h : sLoad P G get t x = some v) (hp : Rel μ x p) : Yields P μ get G w (Instr.loadAt t p) v := by
  cases x with
  | pointer a =>
    cases a with
    | none => simp [sLoad] at h
    | some a =>
      simp only [sLoad] at h
      split at h
      · rename_i cs hcs
        obtain ⟨b, cs', rfl, hr, hW⟩ := cells_at hG hs hcs hp
        simp only [readAt] at h
        split at h
        · rename_i d i hu hi
          cases hd : d.isRow with
          | true =>
            simp only [hd, cond_true] at h
            cases hl : Nat.ble (a.off + i.size) cs.length with
            | false => simp [hl] at h
            | true =>
              simp only [hl, cond_true, Option.some.injEq] at h
              subst h
              have hle := Nat.le_of_ble_eq_true hl
              have hlen := hr.length
              refine ⟨.agg ((cs'.drop a.off).take i.size).toArray, .agg (by simpa using (hr.drop a.off).take i.size), fun W hS => ?_⟩
              have hlc : ((cs'.drop a.off).take i.size).length = i.size := by rw [List.length_take, List.length_drop]; omega
              refine run_loadAt_mid W b a.off t _ d (fun j v hv => ?_) hu hd (by rw [hi, hlc]; rfl)
              rw [List.getElem?_take] at hv
              split at hv
              · rw [List.getElem?_drop] at hv
                exact hW W hS _ _ hv
              · cases hv
          | false =>
            simp only [hd, cond_false] at h
            obtain ⟨v', h1, h2⟩ := hr.get h
            refine ⟨v', h2, fun W hS => ?_⟩
            have hc := hW W hS _ _ h1
            have hagg : (isAgg t).run P W = .ok false W := by
              unfold isAgg
              rw [Sem.run_bind, run_underlying hu W]
              cases d <;> first | rfl | simp at hd
            simp only [Instr.loadAt, Instr.sureAddr, Sem.run_bind, Sem.run_pure, Result.andThen_ok, loadVar, hagg, Bool.false_eq_true, if_false, run_load, hc]
        · cases h
      · split at h
        · rename_i hsp
          obtain ⟨blk, off, sp⟩ := a
          simp only at hsp
          subst hsp
          have : p = .pointer (some ⟨blk, off, none⟩) := by
            cases hp with
            | ground _ => rfl
          subst this
          exact readF_ok hs h
        · cases h
  | _ => simp [sLoad] at h
def sField (P : Program) (s : TypeId) (f : Nat) : Value → Option Value
  | .pointer (some a) => match P.underlying s with
    | some (.struct fs) => match fs[f]? with
      | some fd => match P.info? fd.type with
        | some i => cond (Nat.beq i.size 0) none (some (.pointer (some { a with off := a.off + fd.offset })))
        | none => none
      | none => none
    | _ => none
  | _ => none
theorem rel_ptr_add {a : Addr} {p : Value} (hp : Rel μ (.pointer (some a)) p) (hsp : a.spot = none ∨ a.spot = some 0) (n : Nat) :
    ∃ b, p = .pointer (some ⟨b, a.off, none⟩) ∧ Rel μ (.pointer (some { a with off := a.off + n })) (.pointer (some ⟨b, a.off + n, none⟩)) := by
  obtain ⟨blk, off, sp⟩ := a
  cases hp with
  | ground hg =>
    have hsp : sp = none := by simpa [gr] using hg
    subst hsp
    exact ⟨blk, rfl, .ground (by simp [gr])⟩
  | ptr hm => exact ⟨_, rfl, .ptr hm⟩
theorem ptr_spot {a : Addr} {p : Value} (hp : Rel μ (.pointer (some a)) p) : a.spot = none ∨ a.spot = some 0 := by
  obtain ⟨blk, off, sp⟩ := a
  cases hp with
  | ground hg => exact .inl (by simpa [gr] using hg)
  | ptr hm => exact .inr rfl
theorem sField_ok {s : TypeId} {f : Nat} {x p v : Value} (h : sField P s f x = some v) (hp : Rel μ x p) : Yields P μ get G w (Instr.fieldAt s p f) v := by
  cases x with
  | pointer a =>
    cases a with
    | none => simp [sField] at h
    | some a =>
      simp only [sField] at h
      split at h
      · rename_i fs hu
        split at h
        · rename_i fd hf
          split at h
          · rename_i i hi
            cases hz : Nat.beq i.size 0 with
            | true => simp [hz] at h
            | false =>
              simp only [hz, cond_false, Option.some.injEq] at h
              subst h
              have hne : i.size ≠ 0 := fun e => by rw [e] at hz; simp at hz
              obtain ⟨b, rfl, hr⟩ := rel_ptr_add hp (ptr_spot hp) fd.offset
              refine ⟨_, hr, fun W _ => ?_⟩
              simp only [Instr.fieldAt, Sem.run_bind, run_underlying hu W, Result.andThen_ok, hf, Instr.sureAddr, Sem.run_pure, fieldPlace, sizeOf, typeInfo, run_program, hi, hne, if_false, Addr.add_mid]
          · cases h
        · cases h
      · cases h
  | _ => simp [sField] at h
end
end Go.Proofs.Ytpaabfecoghibaa

/- More operations that leave memory as it is, reckoned on the shadow: addresses of elements, slices of slices, lookups in maps, composite values. Over any program. Conditions: as each law says. -/
namespace Go.Proofs.Ytpaabfecoghibaa
open Go Go.RowKit
set_option linter.unusedSimpArgs false
set_option linter.unusedVariables false
theorem pureOut_bind {α β : Type} {P : Program} : ∀ (s : Sem α) (f : α → Sem β), pureOut P (s >>= f) = (pureOut P s).bind fun a => pureOut P (f a) := by
  intro s f
  show pureOut P (s.bind f) = _
  induction s with
  | pure a => rfl
  | program k ih => simp only [Sem.bind, pureOut]; exact ih P
  | mark m k ih => simp only [Sem.bind, pureOut]; exact ih
  | _ => rfl
theorem beq_no {a b : Nat} (h : ¬ a = b) : Nat.beq a b = false := by
  cases q : Nat.beq a b with
  | true => exact absurd (Nat.eq_of_beq_eq_true q) h
  | false => rfl
def natV : Value → Option Nat
  | .int _ (.ofNat n) => some n
  | _ => none
theorem natV_eq {v : Value} {n : Nat} (h : natV v = some n) : ∃ k, v = .int k (n : Int) := by
  cases v with
  | int k i =>
    cases i with
    | ofNat m => simp only [natV, Option.some.injEq] at h; subst h; exact ⟨k, rfl⟩
    | negSucc m => simp [natV] at h
  | _ => simp [natV] at h
theorem natV_rel {μ : Mu} {x p : Value} {n : Nat} (h : natV x = some n) (hp : Rel μ x p) : ∃ k, x = .int k (n : Int) ∧ p = .int k (n : Int) := by
  obtain ⟨k, rfl⟩ := natV_eq h
  exact ⟨k, rfl, hp.eq (by simp [gr])⟩
section
variable {P : Program} {N : Lim} {G : Gl} {μ : Mu} {get : Nat → Option SB} {w : World}
/-- The address of an element. -/
def sIndexA (P : Program) (t : TypeId) (x ix : Value) : Option Value := match natV ix, P.underlying t, x with
  | some i, some (.slice e), .slice (some a) n _ => match P.info? e with
    | some it => cond (Nat.blt i n && (match a.spot with | some 0 | some 3 => true | some 1 => Nat.beq a.off 0 | _ => false)) (some (.pointer (some ⟨a.block, a.off + i * it.size, some 0⟩))) none
    | none => none
  | some i, some (.array n e), .pointer (some a) => match P.info? e with
    | some it => cond (Nat.blt i n) (some (.pointer (some { a with off := a.off + i * it.size }))) none
    | none => none
  | _, _, _ => none
theorem rel_slice {a : Addr} {n c : Nat} {p : Value} (hp : Rel μ (.slice (some a) n c) p) (hq : (match a.spot with | some 0 | some 3 => true | some 1 => Nat.beq a.off 0 | _ => false) = true) :
    ∃ b κ c', p = .slice (some ⟨b, a.off, none⟩) n c' ∧ μ a.block = some (b, κ) := by
  obtain ⟨blk, off, sp⟩ := a
  cases hp with
  | ground hg => simp only [gr, Option.isNone_iff_eq_none] at hg; subst hg; simp at hq
  | slice hm => exact ⟨_, _, _, rfl, hm⟩
  | sliceO hm hn => exact ⟨_, _, _, rfl, hm⟩
  | sliceE => simp at hq
  | sliceA hm hn => exact ⟨_, _, _, rfl, hm⟩
theorem sIndexA_ok {t : TypeId} {x p ix iv v : Value} (h : sIndexA P t x ix = some v) (hp : Rel μ x p) (hi : Rel μ ix iv) : Yields P μ get G w (Instr.indexAt t p iv) v := by
  unfold sIndexA at h
  split at h
  · rename_i i e a n _ hn hu
    obtain ⟨k, rfl, rfl⟩ := natV_rel hn hi
    split at h
    · rename_i it hit
      cases hc : (Nat.blt i n && (match a.spot with | some 0 | some 3 => true | some 1 => Nat.beq a.off 0 | _ => false)) with
      | false => simp [hc] at h
      | true =>
        simp only [hc, cond_true, Option.some.injEq] at h
        subst h
        rw [Bool.and_eq_true] at hc
        obtain ⟨b, κ, c', rfl, hm⟩ := rel_slice hp hc.2
        have hlt : i < n := by have := hc.1; simp only [Nat.blt_eq] at this; exact this
        refine ⟨_, .ptr hm, fun W _ => ?_⟩
        have h1 : (0 : Int) ≤ (i : Int) ∧ (i : Int) < (n : Int) := ⟨by omega, by omega⟩
        simp only [Instr.indexAt, Sem.run_bind, asIntOf, Sem.run_pure, Result.andThen_ok, run_underlying hu W, sizeOf, typeInfo, run_program, hit, h1, and_self, if_true, Addr.add_mid, Int.toNat_natCast]
    · cases h
  · rename_i i n e a hn hu
    obtain ⟨k, rfl, rfl⟩ := natV_rel hn hi
    split at h
    · rename_i it hit
      cases hc : Nat.blt i n with
      | false => simp [hc] at h
      | true =>
        simp only [hc, cond_true, Option.some.injEq] at h
        subst h
        have hlt : i < n := by simp only [Nat.blt_eq] at hc; exact hc
        obtain ⟨b, rfl, hr⟩ := rel_ptr_add hp (ptr_spot hp) (i * it.size)
        refine ⟨_, hr, fun W _ => ?_⟩
        have h1 : (0 : Int) ≤ (i : Int) ∧ (i : Int) < (n : Int) := ⟨by omega, by omega⟩
        simp only [Instr.indexAt, Sem.run_bind, asIntOf, Sem.run_pure, Result.andThen_ok, run_underlying hu W, Instr.sureAddr, sizeOf, typeInfo, run_program, hit, h1, and_self, if_true, Addr.add_mid, Int.toNat_natCast]
    · cases h
  · cases h
/-- The address of an element of a slice that was there before. -/
def sIndexF (P : Program) (t : TypeId) (x ix : Value) : Option Value := match natV ix, P.underlying t, x with
  | some i, some (.slice e), .slice (some a) n _ => match P.info? e with
    | some it => cond (Nat.blt i n && a.spot.isNone) (some (.pointer (some ⟨a.block, a.off + i * it.size, none⟩))) none
    | none => none
  | _, _, _ => none
theorem sIndexF_ok {t : TypeId} {x p ix iv v : Value} (h : sIndexF P t x ix = some v) (hp : Rel μ x p) (hi : Rel μ ix iv) : Yields P μ get G w (Instr.indexAt t p iv) v := by
  unfold sIndexF at h
  split at h
  · rename_i i e a n _ hn hu
    obtain ⟨k, rfl, rfl⟩ := natV_rel hn hi
    split at h
    · rename_i it hit
      obtain ⟨blk, off, sp⟩ := a
      cases sp with
      | some s => simp at h
      | none =>
        simp only [Option.isNone_none, Bool.and_true] at h
        cases hc : Nat.blt i n with
        | false => simp [hc] at h
        | true =>
          simp only [hc, cond_true, Option.some.injEq] at h
          subst h
          have hlt : i < n := by simp only [Nat.blt_eq] at hc; exact hc
          rw [hp.eq (by simp [gr])]
          refine ⟨_, .ground (by simp [gr]), fun W _ => ?_⟩
          have h1 : (0 : Int) ≤ (i : Int) ∧ (i : Int) < (n : Int) := ⟨by omega, by omega⟩
          simp only [Instr.indexAt, Sem.run_bind, asIntOf, Sem.run_pure, Result.andThen_ok, run_underlying hu W, sizeOf, typeInfo, run_program, hit, h1, and_self, if_true, Addr.add_mid, Int.toNat_natCast]
    · cases h
  · cases h
def optNat : Option Value → Nat → Option Nat
  | none, d => some d
  | some v, _ => natV v
theorem run_sliceBound {k : IntKind} {i y : Nat} {code : BoundsCode} (h : i ≤ y) (W : World) : (Instr.sliceBound (.int k (i : Int)) y code).run P W = .ok i W := by
  have h1 : (0 : Int) ≤ (i : Int) ∧ (i : Int) ≤ (y : Int) := ⟨by omega, by omega⟩
  simp only [Instr.sliceBound, asIntOf, Sem.run_bind, Sem.run_pure, Result.andThen_ok, h1, and_self, if_true, Int.toNat_natCast]
/-- The bounds of a slice expression without a third number. -/
theorem run_bounds2 {s : Bool} {len cap l h : Nat} {low high low' high' : Option Value} (hl : optNat low 0 = some l) (hh : optNat high len = some h) (rl : ∀ v, low = some v → ∃ v', low' = some v' ∧ Rel μ v v') (rl' : low = none → low' = none)
    (rh : ∀ v, high = some v → ∃ v', high' = some v' ∧ Rel μ v v') (rh' : high = none → high' = none) (h1 : l ≤ h) (h2 : h ≤ cap) (W : World) : (Instr.sliceBounds s len cap low' high' none).run P W = .ok (l, h, cap) W := by
  cases low with
  | none =>
    rw [rl' rfl]
    simp only [optNat, Option.some.injEq] at hl
    subst hl
    cases high with
    | none =>
      rw [rh' rfl]
      simp only [optNat, Option.some.injEq] at hh
      subst hh
      rfl
    | some v =>
      obtain ⟨v', e, hr⟩ := rh v rfl
      obtain ⟨k, rfl, rfl⟩ := natV_rel hh hr
      rw [e]
      simp only [Instr.sliceBounds, Sem.run_bind, Sem.run_pure, Result.andThen_ok, run_sliceBound h2 W]
  | some u =>
    obtain ⟨u', e, hr⟩ := rl u rfl
    obtain ⟨k, rfl, rfl⟩ := natV_rel hl hr
    rw [e]
    cases high with
    | none =>
      rw [rh' rfl]
      simp only [optNat, Option.some.injEq] at hh
      subst hh
      simp only [Instr.sliceBounds, Sem.run_bind, Sem.run_pure, Result.andThen_ok, run_sliceBound h1 W]
    | some v =>
      obtain ⟨v', e, hr⟩ := rh v rfl
      obtain ⟨k, rfl, rfl⟩ := natV_rel hh hr
      rw [e]
      simp only [Instr.sliceBounds, Sem.run_bind, Sem.run_pure, Result.andThen_ok, run_sliceBound h2 W, run_sliceBound h1 W]
/-- A slice of a slice, without a third number. -/
def sSlice2 (P : Program) (t : TypeId) (x : Value) (low high : Option Value) : Option Value := match P.underlying t, x with
  | some (.slice e), .slice (some a) n c => match P.info? e, optNat low 0, optNat high n with
    | some it, some l, some h => cond (Nat.ble l h) (match a.spot with
      | some 0 => cond (Nat.ble h c) (some (.slice (some ⟨a.block, cond (Nat.beq c l) a.off (a.off + l * it.size), some 0⟩) (h - l) (c - l))) none
      | some 1 => cond (Nat.ble h n && Nat.beq a.off 0) (cond (Nat.beq l 0) (some (.slice (some ⟨a.block, 0, some 1⟩) h 0))
          (cond (Nat.beq l n) (some (.slice (some ⟨0, 0, some 2⟩) 0 0)) (some (.slice (some ⟨a.block, l * it.size, some 3⟩) (h - l) 0)))) none
      | some 3 => cond (Nat.ble h n) (cond (Nat.beq l n) (some (.slice (some ⟨0, 0, some 2⟩) 0 0)) (some (.slice (some ⟨a.block, a.off + l * it.size, some 3⟩) (h - l) 0))) none
      | some 2 => cond (Nat.beq h 0) (some (.slice (some ⟨0, 0, some 2⟩) 0 0)) none
      | _ => none) none
    | _, _, _ => none
  | some (.array n e), .pointer (some a) => match P.info? e, optNat low 0, optNat high n, a.spot with
    | some it, some l, some h, some 0 => cond (Nat.ble l h && Nat.ble h n) (some (.slice (some ⟨a.block, cond (Nat.beq n l) a.off (a.off + l * it.size), some 0⟩) (h - l) (n - l))) none
    | _, _, _, _ => none
  | _, _ => none
theorem run_slice_slice {t e : TypeId} {it : TypeInfo} {oa : Option Addr} {n c l h : Nat} {low' high' : Option Value} (hu : P.underlying t = some (.slice e)) (hi : P.info? e = some it) {W : World} (hb : (Instr.sliceBounds true n c low' high' none).run P W = .ok (l, h, c) W) :
    (Instr.sliceAt t (.slice oa n c) low' high' none).run P W = .ok (.slice (if c = l then oa else oa.map (·.add (l * it.size))) (h - l) (c - l)) W := by
  unfold Instr.sliceAt
  simp only [Sem.run_bind, run_underlying hu W, Result.andThen_ok, Instr.slice, hb, sizeOf, typeInfo, run_program, hi, Sem.run_pure]
/-- Where a part of a slice begins. -/
def sliceAd (oa : Option Addr) (c l sz : Nat) : Option Addr := cond (Nat.beq c l) oa (oa.map (·.add (l * sz)))
theorem sliceAd_eq (oa : Option Addr) (c l sz : Nat) : sliceAd oa c l sz = if c = l then oa else oa.map (·.add (l * sz)) := by
  unfold sliceAd
  by_cases e : c = l
  · rw [if_pos e, show Nat.beq c l = true from by rw [Nat.beq_eq]; exact e]; rfl
  · rw [if_neg e, beq_no e]; rfl
/-- A part of a slice that was there before. -/
def sSliceF (P : Program) (t : TypeId) (x : Value) (low high : Option Value) : Option Value := match P.underlying t, x with
  | some (.slice e), .slice oa n c => match P.info? e, optNat low 0, optNat high n with
    | some it, some l, some h => cond (gr 6 (.slice oa n c) && Nat.ble l h && Nat.ble h c) (some (.slice (sliceAd oa c l it.size) (h - l) (c - l))) none
    | _, _, _ => none
  | _, _ => none
theorem sSliceF_ok {t : TypeId} {x p v : Value} {low high low' high' : Option Value} (h : sSliceF P t x low high = some v) (hp : Rel μ x p) (rl : ∀ v, low = some v → ∃ v', low' = some v' ∧ Rel μ v v') (rl' : low = none → low' = none)
    (rh : ∀ v, high = some v → ∃ v', high' = some v' ∧ Rel μ v v') (rh' : high = none → high' = none) : Yields P μ get G w (Instr.sliceAt t p low' high' none) v := by
  unfold sSliceF at h
  split at h
  · rename_i e oa n c hu
    split at h
    · rename_i it l hh hit hl hh'
      cases hc : (gr 6 (.slice oa n c) && Nat.ble l hh && Nat.ble hh c) with
      | false => rw [hc] at h; cases h
      | true =>
        rw [hc] at h
        simp only [cond_true, Option.some.injEq] at h
        subst h
        simp only [Bool.and_eq_true] at hc
        obtain ⟨⟨hg, h1⟩, h2⟩ := hc
        have h1 := Nat.le_of_ble_eq_true h1
        have h2 := Nat.le_of_ble_eq_true h2
        rw [hp.eq hg]
        refine ⟨_, .ground ?_, fun W _ => by rw [run_slice_slice hu hit (run_bounds2 hl hh' rl rl' rh rh' h1 h2 W), sliceAd_eq]⟩
        · cases oa with
          | none =>
            simp only [gr, Bool.and_eq_true, Nat.beq_eq] at hg
            have : sliceAd none c l it.size = none := by unfold sliceAd; cases Nat.beq c l <;> rfl
            rw [this]
            simp only [gr, Bool.and_eq_true, Nat.beq_eq]
            omega
          | some a =>
            obtain ⟨b, o, sp⟩ := a
            simp only [gr, Option.isNone_iff_eq_none] at hg
            subst hg
            unfold sliceAd
            cases Nat.beq c l <;> simp [gr, Addr.add_mid]
    · cases h
  · cases h
theorem sSlice2_ok {t : TypeId} {x p v : Value} {low high low' high' : Option Value} (h : sSlice2 P t x low high = some v) (hp : Rel μ x p) (rl : ∀ v, low = some v → ∃ v', low' = some v' ∧ Rel μ v v') (rl' : low = none → low' = none)
    (rh : ∀ v, high = some v → ∃ v', high' = some v' ∧ Rel μ v v') (rh' : high = none → high' = none) : Yields P μ get G w (Instr.sliceAt t p low' high' none) v := by
  unfold sSlice2 at h
  split at h
  · rename_i e a n c hu
    obtain ⟨blk, off, sp⟩ := a
    split at h
    · rename_i it l hh hit hl hh'
      cases hle : Nat.ble l hh with
      | false => simp [hle] at h
      | true =>
        simp only [hle, cond_true] at h
        have hle' := Nat.le_of_ble_eq_true hle
        cases hp with
        | ground hg => simp only [gr, Option.isNone_iff_eq_none] at hg; subst hg; simp at h
        | slice hm =>
          rename_i b κ
          simp only at h
          cases hc : Nat.ble hh c with
          | false => simp [hc] at h
          | true =>
            simp only [hc, cond_true, Option.some.injEq] at h
            subst h
            have hc' := Nat.le_of_ble_eq_true hc
            refine ⟨.slice (some ⟨b, cond (Nat.beq c l) off (off + l * it.size), none⟩) (hh - l) (c - l), .slice hm, fun W _ => ?_⟩
            rw [run_slice_slice hu hit (run_bounds2 hl hh' rl rl' rh rh' hle' hc' W)]
            by_cases e : c = l
            · subst e; simp
            · have : Nat.beq c l = false := beq_no e
              simp only [if_neg e, this, cond_false, Option.map_some, Addr.add_mid]
        | sliceO hm hn =>
          rename_i b κ
          simp only at h
          cases hc : (Nat.ble hh n && Nat.beq 0 0) with
          | false => rw [hc] at h; cases h
          | true =>
            rw [hc] at h
            simp only [cond_true] at h
            rw [Bool.and_eq_true] at hc
            have hc' := Nat.le_of_ble_eq_true hc.1
            have hrun : ∀ W, (Instr.sliceAt t (.slice (some ⟨b, 0, none⟩) n κ) low' high' none).run P W = _ := fun W => run_slice_slice hu hit (run_bounds2 hl hh' rl rl' rh rh' hle' (Nat.le_trans hc' hn) W)
            by_cases e0 : l = 0
            · subst e0
              simp only [Nat.beq_refl, cond_true, Option.some.injEq] at h
              subst h
              refine ⟨.slice (some ⟨b, 0, none⟩) hh κ, .sliceO hm (Nat.le_trans hc' hn), fun W _ => ?_⟩
              rw [hrun W]
              by_cases e : κ = 0 <;> simp [e, Addr.add]
            · have q0 : Nat.beq l 0 = false := beq_no e0
              simp only [q0, cond_false] at h
              by_cases e1 : l = n
              · subst e1
                simp only [Nat.beq_refl, cond_true, Option.some.injEq] at h
                subst h
                obtain rfl : hh = l := by omega
                by_cases e : κ = hh
                · exact ⟨.slice (some ⟨b, 0, none⟩) 0 (κ - hh), .sliceE, fun W _ => by rw [hrun W]; simp [e]⟩
                · exact ⟨.slice (some ⟨b, 0 + hh * it.size, none⟩) 0 (κ - hh), .sliceE, fun W _ => by rw [hrun W]; simp only [if_neg e, Option.map_some, Addr.add_mid, Nat.sub_self]⟩
              · have q1 : Nat.beq l n = false := beq_no e1
                simp only [q1, cond_false, Option.some.injEq] at h
                subst h
                have hk : κ ≠ l := by omega
                refine ⟨.slice (some ⟨b, l * it.size, none⟩) (hh - l) (κ - l), .sliceA hm (by omega), fun W _ => ?_⟩
                rw [hrun W]
                simp only [if_neg hk, Option.map_some, Addr.add_mid, Nat.zero_add]
        | sliceE =>
          simp only at h
          cases hc : Nat.beq hh 0 with
          | false => simp [hc] at h
          | true =>
            simp only [hc, cond_true, Option.some.injEq] at h
            subst h
            obtain rfl : hh = 0 := Nat.eq_of_beq_eq_true hc
            obtain rfl : l = 0 := by omega
            rename_i a' c'
            refine ⟨.slice (some (if c' = 0 then a' else a'.add 0)) 0 c', .sliceE, fun W _ => ?_⟩
            rw [run_slice_slice hu hit (run_bounds2 hl hh' rl rl' rh rh' hle' (Nat.zero_le _) W)]
            by_cases e : c' = 0 <;> simp [e]
        | sliceA hm hn =>
          rename_i b κ c'
          simp only at h
          cases hc : Nat.ble hh n with
          | false => simp [hc] at h
          | true =>
            simp only [hc, cond_true] at h
            have hc' := Nat.le_of_ble_eq_true hc
            have hrun : ∀ W, (Instr.sliceAt t (.slice (some ⟨b, off, none⟩) n c') low' high' none).run P W = _ := fun W => run_slice_slice hu hit (run_bounds2 hl hh' rl rl' rh rh' hle' (Nat.le_trans hc' hn) W)
            by_cases e1 : l = n
            · subst e1
              simp only [Nat.beq_refl, cond_true, Option.some.injEq] at h
              subst h
              obtain rfl : hh = l := by omega
              by_cases e : c' = hh
              · exact ⟨.slice (some ⟨b, off, none⟩) 0 (c' - hh), .sliceE, fun W _ => by rw [hrun W]; simp [e]⟩
              · exact ⟨.slice (some ⟨b, off + hh * it.size, none⟩) 0 (c' - hh), .sliceE, fun W _ => by rw [hrun W]; simp only [if_neg e, Option.map_some, Addr.add_mid, Nat.sub_self]⟩
            · have q1 : Nat.beq l n = false := beq_no e1
              simp only [q1, cond_false, Option.some.injEq] at h
              subst h
              have hk : c' ≠ l := by omega
              refine ⟨.slice (some ⟨b, off + l * it.size, none⟩) (hh - l) (c' - l), .sliceA hm (by omega), fun W _ => ?_⟩
              rw [hrun W]
              simp only [if_neg hk, Option.map_some, Addr.add_mid]
    · cases h
  · rename_i n e a hu
    split at h
    · rename_i it l hh hit hl hh' hsp
      cases hc : (Nat.ble l hh && Nat.ble hh n) with
      | false => simp [hc] at h
      | true =>
        simp only [hc, cond_true, Option.some.injEq] at h
        subst h
        rw [Bool.and_eq_true] at hc
        obtain ⟨blk, off, sp⟩ := a
        simp only at hsp
        subst hsp
        cases hp with
        | ground hg => simp [gr] at hg
        | ptr hm =>
          rename_i b κ
          refine ⟨.slice (some ⟨b, cond (Nat.beq n l) off (off + l * it.size), none⟩) (hh - l) (n - l), .slice hm, fun W _ => ?_⟩
          unfold Instr.sliceAt
          simp only [Sem.run_bind, run_underlying hu W, Result.andThen_ok, Instr.sureAddr, Sem.run_pure, run_bounds2 (s := false) (P := P) hl hh' rl rl' rh rh' (Nat.le_of_ble_eq_true hc.1) (Nat.le_of_ble_eq_true hc.2) W, sizeOf, typeInfo, run_program, hit]
          by_cases e : n = l
          · subst e; simp
          · have : Nat.beq n l = false := beq_no e
            simp only [if_neg e, this, cond_false, Addr.add_mid]
    · cases h
  · cases h
end
end Go.Proofs.Ytpaabfecoghibaa

/- Composite values and lookups in maps, reckoned on the shadow. Over any program. Conditions: as each law says. -/
namespace Go.Proofs.Ytpaabfecoghibaa
open Go Go.RowKit
set_option linter.unusedSimpArgs false
set_option linter.unusedVariables false
theorem gr_mono : ∀ (d : Nat) (v : Value), gr d v = true → gr (d + 1) v = true
  | 0, _, h => by simp [gr] at h
  | d + 1, v, h => by
    have hl : ∀ l : List Value, l.all (gr d) = true → l.all (gr (d + 1)) = true := fun l hl => by
      rw [List.all_eq_true] at hl ⊢
      exact fun x hx => gr_mono d x (hl x hx)
    cases v with
    | func fn f c =>
      cases fn with
      | yield l => simp [gr] at h
      | _ =>
        simp only [gr, Bool.and_eq_true] at h ⊢
        exact ⟨hl _ h.1, hl _ h.2⟩
    | iface t x => simp only [gr] at h ⊢; exact gr_mono d x h
    | agg cs => simp only [gr] at h ⊢; exact hl _ h
    | tuple cs => simp only [gr] at h ⊢; exact hl _ h
    | slice a n c => cases a <;> (simp only [gr] at h ⊢; exact h)
    | pointer a =>
      cases a with
      | none => rfl
      | some a => simp only [gr] at h ⊢; exact h
    | map r => simp only [gr] at h ⊢; exact h
    | chan r => simp only [gr] at h ⊢; exact h
    | _ => rfl
theorem getObj_map {P : Program} {w : World} {r : Nat} {es : Array MapEntry} {cl : Nat} (h : w.heap[r]? = some (.map es cl)) : (getObj r).run P w = .ok (.map es cl) w := by simp [getObj, Sem.run, h]
section
variable {P : Program} {N : Lim} {G : Gl} {μ : Mu} {get : Nat → Option SB} {w : World}
theorem cells_rel {v v' : Value} (h : Rel μ v v') : RelL μ v.cells.toList v'.cells.toList := by
  have one : ∀ {v v' : Value}, v.cells = #[v] → v'.cells = #[v'] → Rel μ v v' → RelL μ v.cells.toList v'.cells.toList := fun h1 h2 h => by
    rw [h1, h2]; exact .cons h .nil
  cases h with
  | ground hg =>
    cases v with
    | agg cs =>
      refine RelL.refl (List.all_eq_true.2 fun x hx => ?_)
      rw [gr] at hg
      exact gr_mono 5 x (List.all_eq_true.1 hg x hx)
    | _ => exact one rfl rfl (.ground hg)
  | agg hl => exact hl
  | ptr hm => exact one rfl rfl (.ptr hm)
  | slice hm => exact one rfl rfl (.slice hm)
  | sliceO hm hn => exact one rfl rfl (.sliceO hm hn)
  | sliceE => exact one rfl rfl .sliceE
  | sliceA hm hn => exact one rfl rfl (.sliceA hm hn)
  | map hm => exact one rfl rfl (.map hm)
  | yield hm => exact one rfl rfl (.yield hm)
  | func h h' => exact one rfl rfl (.func h h')
  | tuple h => exact one rfl rfl (.tuple h)
  | iface h => exact one rfl rfl (.iface h)
inductive RelP (μ : Mu) : List (Nat × Value) → List (Nat × Value) → Prop
  | nil : RelP μ [] []
  | cons {i : Nat} {v v' : Value} {l l' : List (Nat × Value)} (h : Rel μ v v') (t : RelP μ l l') : RelP μ ((i, v) :: l) ((i, v') :: l')
theorem foldset_rel (off : Nat) : ∀ {l l' : List Value}, RelL μ l l' → ∀ (k : Nat) {c c' : Array Value}, RelL μ c.toList c'.toList →
    RelL μ ((l.zipIdx k).foldl (fun (cs : Array Value) x => cs.setIfInBounds (off + x.2) x.1) c).toList ((l'.zipIdx k).foldl (fun (cs : Array Value) x => cs.setIfInBounds (off + x.2) x.1) c').toList
  | _, _, .nil, k, c, c', h => by simpa using h
  | _, _, .cons hv t, k, c, c', h => by
    simp only [List.zipIdx_cons, List.foldl_cons]
    refine foldset_rel off t (k + 1) ?_
    simp only [Array.toList_setIfInBounds]
    exact h.set hv _
theorem arr_size {c c' : Array Value} (h : RelL μ c.toList c'.toList) : c'.size = c.size := by
  have := h.length
  simpa using this
theorem fill_rel (place : Nat → Option (Nat × Nat)) : ∀ {ps ps' : List (Nat × Value)}, RelP μ ps ps' → ∀ {c c' r : Array Value}, RelL μ c.toList c'.toList → Instr.fill place c ps = some r → ∃ r', Instr.fill place c' ps' = some r' ∧ RelL μ r.toList r'.toList
  | _, _, .nil, c, c', r, hc, h => by
    simp only [Instr.fill, Option.some.injEq] at h
    subst h
    exact ⟨c', rfl, hc⟩
  | _, _, .cons (i := i) (v := v) (v' := v') hv t, c, c', r, hc, h => by
    have hcv := cells_rel hv
    have hs := arr_size hcv
    have hs' := arr_size hc
    simp only [Instr.fill] at h ⊢
    cases hp : place i with
    | none => simp [hp] at h
    | some p =>
      obtain ⟨off, size⟩ := p
      simp only [hp, hs, hs'] at h ⊢
      split at h
      · cases h
      · rename_i hn
        rw [if_neg hn]
        refine fill_rel place t ?_ h
        rw [← Array.foldl_toList, ← Array.foldl_toList, Array.toList_zipIdx, Array.toList_zipIdx]
        exact foldset_rel off hcv 0 hc
def sBuild (P : Program) (t : TypeId) (parts : List (Nat × Value)) : Option Value := match P.info? t with
  | some i => match i.zero with
    | some z => cond (z.cells.toList.all (gr 6)) (match P.built t parts with
      | some r => some (.agg r)
      | none => none) none
    | none => none
  | none => none
theorem sBuild_rel {t : TypeId} {ps ps' : List (Nat × Value)} {v : Value} (h : sBuild P t ps = some v) (hp : RelP μ ps ps') : ∃ v', sBuild P t ps' = some v' ∧ Rel μ v v' := by
  unfold sBuild at h ⊢
  cases hi : P.info? t with
  | none => simp [hi] at h
  | some i =>
    cases hz : i.zero with
    | none => simp [hi, hz] at h
    | some z =>
      cases hg : z.cells.toList.all (gr 6) with
      | false => simp [hi, hz, hg] at h
      | true =>
        simp only [hi, hz, hg, cond_true] at h ⊢
        split at h
        · rename_i r hr
          cases h
          have key : ∃ r', P.built t ps' = some r' ∧ RelL μ r.toList r'.toList := by
            unfold Program.built at hr ⊢
            have hzr : RelL μ z.cells.toList z.cells.toList := RelL.refl hg
            cases hu : P.underlying t with
            | none => simp [hi, hu] at hr
            | some d =>
              cases d <;> try (simp [hi, hu] at hr; done)
              case array n e =>
                cases he : P.info? e with
                | none => simp [hi, hu, hz, he] at hr
                | some ie =>
                  simp only [hi, hu, hz, he] at hr ⊢
                  exact fill_rel _ hp hzr hr
              case struct fs =>
                cases hpl : fs.toList.mapM (fun f => (P.info? f.type).map fun i => (f.offset, i.size)) with
                | none => simp [hi, hu, hz, hpl] at hr
                | some places =>
                  simp only [hi, hu, hz, hpl] at hr ⊢
                  exact fill_rel _ hp hzr hr
          obtain ⟨r', h1, h2⟩ := key
          rw [h1]
          exact ⟨.agg r', rfl, .agg h2⟩
        · cases h
theorem sBuild_ok {t : TypeId} {ps ps' : List (Nat × Value)} {v : Value} (h : sBuild P t ps = some v) (hp : RelP μ ps ps') : Yields P μ get G w (Instr.build t ps'.toArray) v := by
  unfold sBuild at h
  cases hi : P.info? t with
  | none => simp [hi] at h
  | some i =>
    cases hz : i.zero with
    | none => simp [hi, hz] at h
    | some z =>
      cases hg : z.cells.toList.all (gr 6) with
      | false => simp [hi, hz, hg] at h
      | true =>
        simp only [hi, hz, hg, cond_true] at h
        split at h
        · rename_i r hr
          cases h
          have key : ∃ r', P.built t ps' = some r' ∧ RelL μ r.toList r'.toList := by
            unfold Program.built at hr ⊢
            have hzr : RelL μ z.cells.toList z.cells.toList := RelL.refl hg
            cases hu : P.underlying t with
            | none => simp [hi, hu] at hr
            | some d =>
              cases d <;> try (simp [hi, hu] at hr; done)
              case array n e =>
                cases he : P.info? e with
                | none => simp [hi, hu, hz, he] at hr
                | some ie =>
                  simp only [hi, hu, hz, he] at hr ⊢
                  exact fill_rel _ hp hzr hr
              case struct fs =>
                cases hpl : fs.toList.mapM (fun f => (P.info? f.type).map fun i => (f.offset, i.size)) with
                | none => simp [hi, hu, hz, hpl] at hr
                | some places =>
                  simp only [hi, hu, hz, hpl] at hr ⊢
                  exact fill_rel _ hp hzr hr
          obtain ⟨r', h1, h2⟩ := key
          exact ⟨.agg r', .agg h2, fun W _ => run_build W t ps'.toArray r' (by simpa using h1)⟩
        · cases h
/-! Maps -/
def toM : List (Value × Value) → List MapEntry := List.map fun x => { key := x.1, val := x.2, born := 0 }
theorem findNow_rel (kind : TypeDesc) (k : Value) : ∀ {es : List (Value × Value)} {rs : List MapEntry}, RelM μ es rs → ∀ (i : Nat),
    (∀ j v, Instr.findNow kind k (toM es) i = some (some (j, v)) → ∃ v', Instr.findNow kind k rs i = some (some (j, v')) ∧ Rel μ v v') ∧
    (Instr.findNow kind k (toM es) i = some none → Instr.findNow kind k rs i = some none) ∧ (Instr.findNow kind k (toM es) i = none → Instr.findNow kind k rs i = none)
  | [], [], _, i => by simp [toM, Instr.findNow]
  | x :: es, e :: rs, ⟨⟨h1, _, h3⟩, t⟩, i => by
    have ih := findNow_rel kind k t (i + 1)
    have hx : toM (x :: es) = { key := x.1, val := x.2, born := 0 } :: toM es := rfl
    rw [hx]
    simp only [Instr.findNow, h1]
    cases hs : Instr.sameNow kind k x.1 with
    | none => simp
    | some b =>
      cases b with
      | true =>
        simp only [Option.some.injEq, Prod.mk.injEq, reduceCtorEq, false_implies, and_self, and_true]
        rintro j v ⟨rfl, rfl⟩
        exact ⟨e.val, ⟨rfl, rfl⟩, h3⟩
      | false => exact ih
  | [], _ :: _, h, _ => h.elim
  | _ :: _, [], h, _ => h.elim
/-- A key asked for, entry by entry. -/
def sAsk (P : Program) (kt : TypeId) (k : Value) : List (Value × Value) → Nat → Option (Option (Nat × Value))
  | [], _ => some none
  | x :: es, i => match pureOut P (Op.equal kt k x.1) with
    | some true => some (some (i, x.2))
    | some false => sAsk P kt k es (i + 1)
    | none => none
def sFind (P : Program) (kt : TypeId) (k : Value) (es : List (Value × Value)) : Option (Option (Nat × Value)) := match P.underlying kt with
  | some kind => match Instr.findNow kind k (toM es) 0 with
    | some r => some r
    | none => sAsk P kt k es 0
  | none => none
theorem sAsk_ok {kt : TypeId} {k : Value} : ∀ {es : List (Value × Value)} {rs : List MapEntry}, RelM μ es rs → ∀ (i : Nat) {r : Option (Nat × Value)}, sAsk P kt k es i = some r →
    ∃ r', (∀ W, (Instr.findAsking kt k rs i).run P W = .ok r' W) ∧ (r = none → r' = none) ∧ ∀ j v, r = some (j, v) → ∃ v', r' = some (j, v') ∧ Rel μ v v'
  | [], [], _, i, r, h => by
    simp only [sAsk, Option.some.injEq] at h
    subst h
    exact ⟨none, fun W => rfl, fun _ => rfl, fun _ _ h => by cases h⟩
  | x :: es, e :: rs, ⟨⟨h1, _, h3⟩, t⟩, i, r, h => by
    simp only [sAsk] at h
    cases hq : pureOut P (Op.equal kt k x.1) with
    | none => simp [hq] at h
    | some b =>
      have hrun := fun W => pureOut_run hq W
      rw [← h1] at hrun
      cases b with
      | true =>
        simp only [hq, Option.some.injEq] at h
        subst h
        exact ⟨some (i, e.val), fun W => by simp only [Instr.findAsking, Sem.run_bind, hrun W, Result.andThen_ok, if_true, Sem.run_pure], (fun h => by cases h), fun j v h => by cases h; exact ⟨e.val, rfl, h3⟩⟩
      | false =>
        simp only [hq] at h
        obtain ⟨r', g1, g2, g3⟩ := sAsk_ok t (i + 1) h
        exact ⟨r', fun W => by simp only [Instr.findAsking, Sem.run_bind, hrun W, Result.andThen_ok, Bool.false_eq_true, if_false]; exact g1 W, g2, g3⟩
  | [], _ :: _, h, _, _, _ => h.elim
  | _ :: _, [], h, _, _, _ => h.elim
theorem sFind_ok {kt : TypeId} {k : Value} {es : List (Value × Value)} {rs : List MapEntry} (hr : RelM μ es rs) {r : Option (Nat × Value)} (h : sFind P kt k es = some r) :
    ∃ r', (∀ W, (Instr.findKey kt k rs).run P W = .ok r' W) ∧ (r = none → r' = none) ∧ ∀ j v, r = some (j, v) → ∃ v', r' = some (j, v') ∧ Rel μ v v' := by
  unfold sFind at h
  cases hu : P.underlying kt with
  | none => simp [hu] at h
  | some kind =>
    simp only [hu] at h
    obtain ⟨f1, f2, f3⟩ := findNow_rel kind k hr 0
    cases hn : Instr.findNow kind k (toM es) 0 with
    | some q =>
      simp only [hn, Option.some.injEq] at h
      subst h
      cases q with
      | none => exact ⟨none, fun W => by simp only [Instr.findKey, Sem.run_bind, run_underlying hu W, Result.andThen_ok, f2 hn, Sem.run_pure], fun _ => rfl, fun _ _ h => by cases h⟩
      | some jv =>
        obtain ⟨v', g1, g2⟩ := f1 jv.1 jv.2 hn
        exact ⟨some (jv.1, v'), fun W => by simp only [Instr.findKey, Sem.run_bind, run_underlying hu W, Result.andThen_ok, g1, Sem.run_pure], (fun h => by cases h), fun j v h => by cases h; exact ⟨v', rfl, g2⟩⟩
    | none =>
      simp only [hn] at h
      obtain ⟨r', g1, g2, g3⟩ := sAsk_ok hr 0 h
      exact ⟨r', fun W => by simp only [Instr.findKey, Sem.run_bind, run_underlying hu W, Result.andThen_ok, f3 hn]; exact g1 W, g2, g3⟩
def mapAt (get : Nat → Option SB) : Value → Option (List (Value × Value))
  | .map none => some []
  | .map (some j) => match get j with
    | some (.map es _) => some es
    | _ => none
  | _ => none
def sLookup (P : Program) (get : Nat → Option SB) (t : TypeId) (x ix : Value) (ok : Bool) : Option Value := match P.underlying t, mapAt get x with
  | some (.map kt et), some es => cond (gr 6 ix) (match pureOut P (Instr.checkKey es.isEmpty 10000 kt ix), sFind P kt ix es with
    | some (), some (some (_, v)) => some (cond ok (.tuple #[v, .bool true]) v)
    | some (), some none => match P.info? et with
      | some i => match i.zero with
        | some z => cond (gr 6 z) (some (cond ok (.tuple #[z, .bool false]) z)) none
        | none => none
      | none => none
    | _, _ => none) none
  | _, _ => none
theorem map_at (hs : Sees P N G μ get w) {x p : Value} {es : List (Value × Value)} (h : mapAt get x = some es) (hp : Rel μ x p) :
    ∃ rs : Array MapEntry, RelM μ es rs.toList ∧ ((p = .map none ∧ rs = #[]) ∨ ∃ b cl, p = .map (some b) ∧ ∀ W, Same μ get G w W → W.heap[b]? = some (.map rs cl)) := by
  cases x with
  | map r =>
    cases r with
    | none =>
      simp only [mapAt, Option.some.injEq] at h
      subst h
      obtain rfl := hp.eq (by simp [gr])
      exact ⟨#[], trivial, .inl ⟨rfl, rfl⟩⟩
    | some j =>
      simp only [mapAt] at h
      split at h
      · rename_i es' hg
        cases h
        obtain ⟨b, κ, ents, cl, h1, h2, h3, h4, _⟩ := hs.blk j _ hg
        cases hp with
        | ground hgr => simp [gr] at hgr
        | map hm =>
          rw [h1] at hm; cases hm
          exact ⟨ents, h4, .inr ⟨b, cl, rfl, fun W hW => (hW.1 j _ hg _ _ h1).trans h3⟩⟩
      · cases h
  | _ => simp [mapAt] at h
theorem isEmpty_rel {es : List (Value × Value)} {rs : Array MapEntry} (h : RelM μ es rs.toList) : rs.isEmpty = es.isEmpty := by
  obtain ⟨l⟩ := rs
  cases es <;> cases l
  · rfl
  · exact h.elim
  · exact h.elim
  · simp
theorem sLookup_ok (hs : Sees P N G μ get w) {t : TypeId} {x p ix iv v : Value} {ok : Bool} (h : sLookup P get t x ix ok = some v) (hp : Rel μ x p) (hi : Rel μ ix iv) : Yields P μ get G w (Instr.lookup t p iv ok) v := by
  unfold sLookup at h
  split at h
  · rename_i kt et es hu hes
    cases hgi : gr 6 ix with
    | false => simp [hgi] at h
    | true =>
      obtain rfl := hi.eq hgi
      simp only [hgi, cond_true] at h
      obtain ⟨rs, hrs, hwhere⟩ := map_at (G := G) hs hes hp
      have hemp := isEmpty_rel hrs
      have body : ∀ (W : World) (r : Option (Nat × Value)), Same μ get G w W → pureOut P (Instr.checkKey es.isEmpty 10000 kt iv) = some () → (∀ W, (Instr.findKey kt iv rs.toList).run P W = .ok r W) →
          (Instr.lookup t p iv ok).run P W = (do
            let (v, ok') ← match r with
              | some (_, v) => pure (v, true)
              | none => do pure (← zeroValue et, false)
            pure (if ok then .tuple #[v, .bool ok'] else v) : Sem Value).run P W := fun W r hW hck hf => by
        have hck' := pureOut_run hck W
        rw [← hemp] at hck'
        have hf' := hf W
        unfold Instr.lookup
        rcases hwhere with ⟨rfl, rfl⟩ | ⟨b, cl, rfl, hb⟩
        · simp only [Sem.run_bind, run_underlying hu W, Result.andThen_ok, Sem.run_pure, hck', hf']
          cases r <;> rfl
        · simp only [Sem.run_bind, run_underlying hu W, Result.andThen_ok, Sem.run_pure, getObj_map (hb W hW), hck', hf']
          cases r <;> rfl
      split at h
      · rename_i j v' hck hfd
        cases h
        obtain ⟨r', g1, _, g3⟩ := sFind_ok hrs hfd
        obtain ⟨v2, rfl, hv⟩ := g3 _ _ rfl
        cases ok with
        | true => exact ⟨.tuple #[v2, .bool true], .tuple (.cons hv (.cons (.ground rfl) .nil)), fun W hW => by rw [body W _ hW hck g1]; rfl⟩
        | false => exact ⟨v2, hv, fun W hW => by rw [body W _ hW hck g1]; rfl⟩
      · rename_i hck hfd
        obtain ⟨r', g1, g2, _⟩ := sFind_ok hrs hfd
        obtain rfl := g2 rfl
        split at h
        · rename_i i hie
          split at h
          · rename_i z hz
            cases hgz : gr 6 z with
            | false => simp [hgz] at h
            | true =>
              simp only [hgz, cond_true, Option.some.injEq] at h
              subst h
              have hzero : ∀ W, (zeroValue et).run P W = .ok z W := fun W => by simp [zeroValue, typeInfo, hie, hz]
              cases ok with
              | true => exact ⟨.tuple #[z, .bool false], .tuple (.cons (.ground hgz) (.cons (.ground rfl) .nil)), fun W hW => by rw [body W _ hW hck g1]; simp [hzero W]⟩
              | false => exact ⟨z, .ground hgz, fun W hW => by rw [body W _ hW hck g1]; simp [hzero W]⟩
          · cases h
        · cases h
      · cases h
  · cases h
end
end Go.Proofs.Ytpaabfecoghibaa

/- Structs and arrays of plain values are compared. Over any program. Conditions: as each law says. -/
namespace Go.Proofs.Ytpaabfecoghibaa
open Go Go.RowKit
set_option linter.unusedSimpArgs false
set_option linter.unusedVariables false
section
variable {P : Program} {μ : Mu}
theorem agg_rel {cs : Array Value} {p : Value} (h : Rel μ (.agg cs) p) : ∃ cs', p = .agg cs' ∧ RelL μ cs.toList cs'.toList := by
  cases h with
  | ground hg => exact ⟨cs, rfl, RelL.refl (List.all_eq_true.2 fun x hx => gr_mono 5 x (List.all_eq_true.1 (by simpa only [gr] using hg) x hx))⟩
  | agg hl => exact ⟨_, rfl, hl⟩
theorem run_part_read {t : TypeId} {cs : List Value} {off : Nat} {v : Value} {cs' : Array Value} (h : readAt P t cs off = some v) (hr : RelL μ cs cs'.toList) : ∃ v', Rel μ v v' ∧ ∀ W, (part t cs' off).run P W = .ok v' W := by
  unfold readAt at h
  split at h
  · rename_i d i hu hi
    have hagg : ∀ W, (isAgg t).run P W = .ok d.isRow W := fun W => by
      unfold isAgg
      rw [Sem.run_bind, run_underlying hu W]
      cases d <;> rfl
    cases hd : d.isRow with
    | true =>
      simp only [hd, cond_true] at h
      cases hl : Nat.ble (off + i.size) cs.length with
      | false => simp [hl] at h
      | true =>
        simp only [hl, cond_true, Option.some.injEq] at h
        subst h
        have hx : (cs'.extract off (off + i.size)).toList = (cs'.toList.drop off).take i.size := by simp [Array.toList_extract, List.extract]
        refine ⟨.agg (cs'.extract off (off + i.size)), .agg (by rw [hx]; simpa using (hr.drop off).take i.size), fun W => ?_⟩
        unfold part
        simp only [Sem.run_bind, hagg, hd, Result.andThen_ok, if_true, sizeOf, typeInfo, run_program, hi, Sem.run_pure]
    | false =>
      simp only [hd, cond_false] at h
      obtain ⟨v', h1, h2⟩ := hr.get h
      rw [Array.getElem?_toList] at h1
      refine ⟨v', h2, fun W => ?_⟩
      unfold part
      simp only [Sem.run_bind, hagg, hd, Result.andThen_ok, Bool.false_eq_true, if_false, h1, Sem.run_pure]
  · cases h
end
def eqFsB (rec : TypeId → Value → Value → Option Bool) (P : Program) (xs ys : List Value) : List Field → Option Bool
  | [] => some true
  | f :: fs => match (f.name == "_") with
    | true => eqFsB rec P xs ys fs
    | false => match readAt P f.type xs f.offset, readAt P f.type ys f.offset with
      | some a, some b => match rec f.type a b with
        | some true => eqFsB rec P xs ys fs
        | some false => some false
        | none => none
      | _, _ => none
def eqEsB (rec : TypeId → Value → Value → Option Bool) (P : Program) (e : TypeId) (xs ys : List Value) : List Nat → Option Bool
  | [] => some true
  | i :: is => match readAt P e xs (i * P.cellsOf e), readAt P e ys (i * P.cellsOf e) with
    | some a, some b => match rec e a b with
      | some true => eqEsB rec P e xs ys is
      | some false => some false
      | none => none
    | _, _ => none
def eqB (P : Program) : Nat → TypeId → Value → Value → Option Bool
  | 0, _, _, _ => none
  | d + 1, t, x, y => match P.underlying t, x, y with
    | some .bool, .bool a, .bool b => some (a == b)
    | some (.int _), .int k a, .int k' b => cond (decide (k = k')) (some (a == b)) none
    | some .string, .string a, .string b => some (a.toList == b.toList)
    | some (.struct fs), .agg xs, .agg ys => cond (P.stoodInHeld t) none (eqFsB (eqB P d) P xs.toList ys.toList fs.toList)
    | some (.array n e), .agg xs, .agg ys => match P.info? e with
      | some _ => eqEsB (eqB P d) P e xs.toList ys.toList (List.range n)
      | none => none
    | _, _, _ => none
section
variable {P : Program}
theorem readAt_gr {t : TypeId} {cs : List Value} {off : Nat} {v : Value} (h : readAt P t cs off = some v) (hg : cs.all (gr 5) = true) : gr 6 v = true := by
  unfold readAt at h
  split at h
  · rename_i d i _ _
    cases hd : d.isRow with
    | true =>
      simp only [hd, cond_true] at h
      cases hl : Nat.ble (off + i.size) cs.length with
      | false => simp [hl] at h
      | true =>
        simp only [hl, cond_true, Option.some.injEq] at h
        subst h
        simp only [gr]
        rw [List.all_eq_true] at hg ⊢
        exact fun x hx => hg x (List.mem_of_mem_drop (List.mem_of_mem_take (by simpa using hx)))
    | false =>
      simp only [hd, cond_false] at h
      exact gr_mono 5 v (List.all_eq_true.1 hg v (List.mem_of_getElem? h))
  · cases h
theorem run_part_gr {t : TypeId} {cs : Array Value} {off : Nat} {v : Value} (h : readAt P t cs.toList off = some v) (hg : cs.toList.all (gr 5) = true) (W : World) : (part t cs off).run P W = .ok v W := by
  have hl : RelL (fun _ => none) cs.toList cs.toList := RelL.refl (List.all_eq_true.2 fun x hx => gr_mono 5 x (List.all_eq_true.1 hg x hx))
  obtain ⟨v', h1, h2⟩ := run_part_read h hl
  rw [h2 W, h1.eq (readAt_gr h hg)]
theorem agg_gr5 {v : Value} {xs : Array Value} (h : gr 6 v = true) (e : v = .agg xs) : xs.toList.all (gr 5) = true := by subst e; simpa only [gr] using h
theorem eqFsB_ok {rec : TypeId → Value → Value → Option Bool} {D : Nat} (hr : ∀ t a b q, gr 6 a = true → gr 6 b = true → rec t a b = some q → ∀ W, (Op.equalIn D t a b).run P W = .ok q W) {xs ys : Array Value} (hx : xs.toList.all (gr 5) = true) (hy : ys.toList.all (gr 5) = true) :
    ∀ (fs : List Field) (q : Bool), eqFsB rec P xs.toList ys.toList fs = some q → ∀ W, (Op.eqFields D xs ys fs).run P W = .ok q W
  | [], q, h, W => by simp only [eqFsB, Option.some.injEq] at h; subst h; rfl
  | f :: fs, q, h, W => by
    simp only [eqFsB] at h
    simp only [Op.eqFields]
    cases hn : (f.name == "_") with
    | true =>
      rw [hn] at h
      rw [if_neg (by simpa using hn)]
      exact eqFsB_ok hr hx hy fs q h W
    | false =>
      rw [hn] at h
      simp only at h
      rw [if_pos (by simpa using hn)]
      split at h
      · rename_i a b ha hb
        simp only [Sem.run_bind, run_part_gr ha hx, run_part_gr hb hy, Result.andThen_ok]
        split at h
        · rename_i hq
          rw [hr _ _ _ _ (readAt_gr ha hx) (readAt_gr hb hy) hq]
          exact eqFsB_ok hr hx hy fs q h W
        · rename_i hq
          cases h
          rw [hr _ _ _ _ (readAt_gr ha hx) (readAt_gr hb hy) hq]
          rfl
        · cases h
      · cases h
theorem eqEsB_ok {rec : TypeId → Value → Value → Option Bool} {D : Nat} (hr : ∀ t a b q, gr 6 a = true → gr 6 b = true → rec t a b = some q → ∀ W, (Op.equalIn D t a b).run P W = .ok q W) {e : TypeId} {xs ys : Array Value} (hx : xs.toList.all (gr 5) = true) (hy : ys.toList.all (gr 5) = true) :
    ∀ (is : List Nat) (q : Bool), eqEsB rec P e xs.toList ys.toList is = some q → ∀ W, (Op.eqItems D e (P.cellsOf e) xs ys is).run P W = .ok q W
  | [], q, h, W => by simp only [eqEsB, Option.some.injEq] at h; subst h; rfl
  | i :: is, q, h, W => by
    simp only [eqEsB] at h
    simp only [Op.eqItems]
    split at h
    · rename_i a b ha hb
      simp only [Sem.run_bind, run_part_gr ha hx, run_part_gr hb hy, Result.andThen_ok]
      split at h
      · rename_i hq
        rw [hr _ _ _ _ (readAt_gr ha hx) (readAt_gr hb hy) hq]
        exact eqEsB_ok hr hx hy is q h W
      · rename_i hq
        cases h
        rw [hr _ _ _ _ (readAt_gr ha hx) (readAt_gr hb hy) hq]
        rfl
      · cases h
    · cases h
theorem eqB_ok : ∀ (d D : Nat) (t : TypeId) (x y : Value) (q : Bool), d ≤ D → gr 6 x = true → gr 6 y = true → eqB P d t x y = some q → ∀ W, (Op.equalIn D t x y).run P W = .ok q W
  | 0, _, _, _, _, _, _, _, _, h => by simp [eqB] at h
  | d + 1, 0, _, _, _, _, hd, _, _, _ => by omega
  | d + 1, D + 1, t, x, y, q, hd, hx, hy, h => fun W => by
    have hr : ∀ t a b q, gr 6 a = true → gr 6 b = true → eqB P d t a b = some q → ∀ W, (Op.equalIn D t a b).run P W = .ok q W := fun t a b q h1 h2 h3 => eqB_ok d D t a b q (by omega) h1 h2 h3
    simp only [eqB] at h
    split at h
    · rename_i hu
      cases h
      exact run_equalIn_bool' W D t _ _ hu
    · rename_i k0 k a k' b hu
      by_cases e : k = k'
      · subst e
        simp only [decide_true, cond_true, Option.some.injEq] at h
        subst h
        exact run_equalIn_int W D t k _ a b hu
      · simp [e] at h
    · rename_i hu
      cases h
      exact run_equalIn_string W D t _ _ hu
    · rename_i fs xs ys hu
      cases hs : P.stoodInHeld t with
      | true => rw [hs] at h; cases h
      | false =>
        rw [hs, cond_false] at h
        have hf : P.fieldsOf t = fs := by simp [Program.fieldsOf, hu]
        rw [run_equalIn_struct W D t xs ys (by rw [hf]; exact hu) hs, hf]
        exact eqFsB_ok hr (by simpa only [gr] using hx) (by simpa only [gr] using hy) fs.toList q h W
    · rename_i n e xs ys hu
      split at h
      · rename_i it hi
        rw [run_equalIn_array W D xs ys hu hi]
        exact eqEsB_ok hr (by simpa only [gr] using hx) (by simpa only [gr] using hy) _ q h W
      · cases h
    · cases h
end
/-- Two composite values are compared. -/
def sEqAgg (P : Program) (op : BinOp) (t : TypeId) (x y : Value) : Option Value := match x, y with
  | .agg _, .agg _ => cond (P.eqGuardType P.depth t || !(gr 6 x && gr 6 y)) none (match op, eqB P 6 t x y with
    | .eql, some q => some (.bool q)
    | .neq, some q => some (.bool (!q))
    | _, _ => none)
  | _, _ => none
section
variable {P : Program} {N : Lim} {G : Gl} {μ : Mu} {get : Nat → Option SB} {w : World}
theorem sEqAgg_ok {op : BinOp} {t : TypeId} {x y x' y' v : Value} (h : sEqAgg P op t x y = some v) (hx : Rel μ x x') (hy : Rel μ y y') (a b : Operand) : Yields P μ get G w (do eqGuard op t a b x' y'; binOp op t x' y') v := by
  unfold sEqAgg at h
  split at h
  · rename_i xs ys
    cases hc : (P.eqGuardType P.depth t || !(gr 6 (.agg xs) && gr 6 (.agg ys))) with
    | true => rw [hc] at h; cases h
    | false =>
      rw [hc, cond_false] at h
      rw [Bool.or_eq_false_iff, Bool.not_eq_false', Bool.and_eq_true] at hc
      obtain ⟨hg, h1, h2⟩ := hc
      rw [hx.eq h1, hy.eq h2]
      have he : ∀ q, eqB P 6 t (.agg xs) (.agg ys) = some q → ∀ W, (Op.equalIn 10000 t (.agg xs) (.agg ys)).run P W = .ok q W := fun q hq => eqB_ok 6 10000 t _ _ q (by omega) h1 h2 hq
      split at h
      · rename_i q hq
        cases h
        exact ⟨.bool q, .ground rfl, fun W _ => by rw [Sem.run_bind, run_eqGuard_agg W _ _ _ _ _ _ hg, Result.andThen_ok, run_eql_struct, he q hq W]; rfl⟩
      · rename_i q hq
        cases h
        exact ⟨.bool (!q), .ground rfl, fun W _ => by rw [Sem.run_bind, run_eqGuard_agg W _ _ _ _ _ _ hg, Result.andThen_ok, run_neq_struct, he q hq W]; rfl⟩
      · cases h
  · cases h
end
end Go.Proofs.Ytpaabfecoghibaa
