/- The operations that make memory, or write it, reckoned on the shadow. Over any program. Conditions: as each law says. -/
import Derived.Test.YtedpbkpeofaibaaXG
import Derived.Test.YtedpbkpeofaibaaXC
import Derived.Laws.MakeOwn
import Derived.RangeFuncRecord
namespace Go.Proofs.Ytedpbkpeofaibaa
open Go Go.RowKit
set_option linter.unusedSimpArgs false
set_option linter.unusedVariables false
/-- Blocks that must stay as they are. -/
def Keep (μ : Mu) (frz : List Nat) (w w' : World) : Prop := ∀ j ∈ frz, ∀ b κ, μ j = some (b, κ) → w'.heap[b]? = w.heap[b]?
theorem Keep.refl {μ : Mu} {frz : List Nat} {w : World} : Keep μ frz w w := fun _ _ _ _ _ => rfl
theorem Keep.trans {μ ν : Mu} {frz : List Nat} {w w' w'' : World} (h : Keep μ frz w w') (hm : μ.le ν) (k : Keep ν frz w' w'') : Keep μ frz w w'' := fun j hj b κ e => (k j hj b κ (hm _ _ e)).trans (h j hj b κ e)
/-- None of them is of a family. -/
noncomputable def frzOk (h : SH) (frz : List Nat) (f : Nat) : Bool := frz.all fun k => match h.tr.get k with
  | some sb => !(Nat.beq (famOf k sb) f)
  | none => false
section
variable {P : Program} {N : Lim} {G : Gl} {μ : Mu} {h : SH} {w : World} {frz : List Nat}
theorem frz_apart (d : Den P N G μ h w) {j : Nat} {sb : SB} (hj : h.tr.get j = some sb) (hf : frzOk h frz (famOf j sb) = true) {b κ : Nat} (hb : μ j = some (b, κ)) : ∀ k ∈ frz, ∀ b' κ', μ k = some (b', κ') → b' ≠ b := fun k hk b' κ' hm e => by
  subst e
  have := List.all_eq_true.1 hf k hk
  split at this
  · rename_i sk hsk
    refine d.apart k j sk sb b' κ' κ hsk hj (fun e => ?_) hm hb
    rw [e] at this; simp at this
  · cases this
theorem frz_old (d : Den P N G μ h w) {f : Nat} (hf : frzOk h frz f = true) : ∀ k ∈ frz, ∀ b' κ', μ k = some (b', κ') → b' < w.heap.size := fun k hk b' κ' hm => by
  have := List.all_eq_true.1 hf k hk
  split at this
  · rename_i sk hsk
    obtain ⟨b, κ, h1, _, h3⟩ := (d.blk k sk hsk).at
    rw [hm] at h1; cases h1; exact h3
  · cases this
/-- What has come of steps that yield a value. -/
def Made (P : Program) (N : Lim) (G : Gl) (μ : Mu) (frz : List Nat) (w : World) (s : Sem Value) (v : Value) (h' : SH) : Prop :=
  ∃ μ' v' w', s.run P w = .ok v' w' ∧ μ.le μ' ∧ Den P N G μ' h' w' ∧ Rel μ' v v' ∧ Bel N w w' ∧ Keep μ frz w w'
/-- .. and no block that there was has changed. -/
def MadeN (P : Program) (N : Lim) (G : Gl) (μ : Mu) (frz : List Nat) (w : World) (s : Sem Value) (v : Value) (h' : SH) : Prop :=
  ∃ μ' v' w', s.run P w = .ok v' w' ∧ μ.le μ' ∧ Den P N G μ' h' w' ∧ Rel μ' v v' ∧ Bel N w w' ∧ Keep μ frz w w' ∧ ∀ k, k < w.heap.size → w'.heap[k]? = w.heap[k]?
def Done (P : Program) (N : Lim) (G : Gl) (μ : Mu) (frz : List Nat) (w : World) (s : Sem Unit) (h' : SH) : Prop :=
  ∃ w', s.run P w = .ok () w' ∧ Den P N G μ h' w' ∧ Bel N w w' ∧ Keep μ frz w w'
theorem frz_live (d : Den P N G μ h w) (hl : frz.all (fun k => (h.tr.get k).isSome) = true) : ∀ k ∈ frz, ∀ b' κ', μ k = some (b', κ') → b' < w.heap.size := fun k hk b' κ' hm => by
  have := List.all_eq_true.1 hl k hk
  obtain ⟨sk, hsk⟩ := Option.isSome_iff_exists.1 this
  obtain ⟨b, κ, h1, _, h3⟩ := (d.blk k sk hsk).at
  rw [hm] at h1; cases h1; exact h3
noncomputable def frzLive (h : SH) (frz : List Nat) : Bool := frz.all fun k => (h.tr.get k).isSome
/-- A new row. -/
theorem made_row (d : Den P N G μ h w) (hl : frzLive h frz = true) {s : Sem Value} {v' : Value} {t : TypeId} {cur : Array Value} {κ sz n c : Nat} {cs : List Value} (isSl : Bool)
    (hsz : (P.info? t).map (·.size) = some sz) (hcur : cur.size = κ * sz) (hrel : RelL μ cs cur.toList)
    (hv : v' = cond isSl (.slice (some ⟨w.heap.size, 0, none⟩) n c) (.pointer (some ⟨w.heap.size, 0, none⟩))) (hrun : s.run P w = .ok v' (w.alloc (.cells cur t))) :
    MadeN P N G μ frz w s (cond isSl (.slice (some ⟨h.next, 0, some 0⟩) n c) (.pointer (some ⟨h.next, 0, some 0⟩))) (h.push (.row t cs h.next)) := by
  have hnone := d.muOld h.next (Nat.le_refl _)
  have hle : μ.le (μ.add h.next w.heap.size κ) := Mu.le_add hnone
  have hlen := hrel.length
  simp only [Array.length_toList] at hlen
  refine ⟨μ.add h.next w.heap.size κ, v', _, hrun, hle, d.push _ κ _ (fun t' cs' f e => by cases e; rfl) ?_, ?_, (Bel.refl N w).alloc d.base _, fun k hk b κ' hm => ?_, fun k hk => Below.heap_alloc w _ _ hk⟩
  · refine ⟨w.heap.size, κ, cur, sz, Mu.add_same, d.base.new, heap_alloc_new w _, hsz, hcur, by omega, ?_⟩
    rw [← hlen, List.take_of_length_le (by simp)]
    exact hrel.mono hle
  · subst hv
    cases isSl
    · exact .ptr Mu.add_same
    · exact .slice Mu.add_same
  · exact Below.heap_alloc w _ _ (frz_live d hl k hk b κ' hm)
noncomputable def sAlloc (P : Program) (h : SH) (frz : List Nat) (t : TypeId) : Option (Value × SH) := match P.info? t with
  | some i => match i.zero with
    | some z => cond (frzLive h frz && z.cells.toList.all (gr 6) && Nat.beq z.cells.size i.size) (some (.pointer (some ⟨h.next, 0, some 0⟩), h.push (.row t z.cells.toList h.next))) none
    | none => none
  | none => none
theorem sAlloc_ok (d : Den P N G μ h w) {t : TypeId} {v : Value} {h' : SH} (e : sAlloc P h frz t = some (v, h')) : MadeN P N G μ frz w (Instr.alloc t true (.tuple #[])) v h' := by
  unfold sAlloc at e
  split at e
  · rename_i i hi
    split at e
    · rename_i z hz
      cases hc : (frzLive h frz && z.cells.toList.all (gr 6) && Nat.beq z.cells.size i.size) with
      | false => rw [hc] at e; cases e
      | true =>
        simp only [hc, cond_true, Option.some.injEq, Prod.mk.injEq] at e
        obtain ⟨rfl, rfl⟩ := e
        simp only [Bool.and_eq_true] at hc
        obtain ⟨⟨h1, h2⟩, h3⟩ := hc
        have h3 := Nat.eq_of_beq_eq_true h3
        have := made_row (P := P) (G := G) (κ := 1) (n := 0) (c := 0) (s := Instr.alloc t true (.tuple #[])) d h1 false (t := t) (cur := z.cells) (sz := i.size) (by rw [hi]; rfl) (by omega) (RelL.refl h2) rfl (by
          simp only [Instr.alloc, zeroValue, typeInfo, Sem.run_bind, run_program, Result.andThen_ok, hi, Sem.run_pure, hz, newVar, newRow, run_newObj]
          rfl)
        exact this
    · cases e
  · cases e
noncomputable def sBox (P : Program) (h : SH) (frz : List Nat) (t : TypeId) (x : Value) : Option (Value × SH) := match P.info? t with
  | some i => cond (frzLive h frz && Nat.beq x.cells.size i.size) (some (.pointer (some ⟨h.next, 0, some 0⟩), h.push (.row t x.cells.toList h.next))) none
  | none => none
theorem sBox_ok (d : Den P N G μ h w) {t : TypeId} {x x' v : Value} {h' : SH} (e : sBox P h frz t x = some (v, h')) (hx : Rel μ x x') : MadeN P N G μ frz w (Instr.box t x') v h' := by
  unfold sBox at e
  split at e
  · rename_i i hi
    cases hc : (frzLive h frz && Nat.beq x.cells.size i.size) with
    | false => rw [hc] at e; cases e
    | true =>
      simp only [hc, cond_true, Option.some.injEq, Prod.mk.injEq] at e
      obtain ⟨rfl, rfl⟩ := e
      simp only [Bool.and_eq_true] at hc
      have h3 := Nat.eq_of_beq_eq_true hc.2
      have hr := cells_rel hx
      have hs := arr_size hr
      exact made_row (P := P) (G := G) (κ := 1) (n := 0) (c := 0) (s := Instr.box t x') d hc.1 false (t := t) (cur := x'.cells) (sz := i.size) (by rw [hi]; rfl) (by omega) hr rfl (by
        simp only [Instr.box, newVar, newRow, Sem.run_bind, run_newObj, Result.andThen_ok, Sem.run_pure]
        rfl)
  · cases e
/-- So many cells, each like those of one element. -/
def madeL (l : List Value) (n : Nat) : List Value := (List.range n).map fun k => l.getD (k % l.length) undef
def madeC (z : Array Value) (n : Nat) : Array Value := ⟨madeL z.toList n⟩
theorem madeC_eq {z : Array Value} {n : Nat} (h : 0 < z.size) : madeC z n = madeCells z n := by
  apply Array.toList_inj.1
  simp only [madeC, madeL, madeCells, Array.toList_map, Array.toList_range]
  refine List.map_congr_left fun k _ => ?_
  have hk : k % z.size < z.size := Nat.mod_lt _ h
  rw [getElem!_pos z (k % z.size) hk]
  simp only [Array.length_toList, List.getD_eq_getElem?_getD, Array.getElem?_toList]
  rw [Array.getElem?_eq_getElem hk]; rfl
noncomputable def sBuildSlice (P : Program) (h : SH) (frz : List Nat) (t : TypeId) (len : Nat) (parts : List (Nat × Value)) : Option (Value × SH) := match P.underlying t with
  | some (.slice e) => match P.info? e with
    | some i => match i.zero with
      | some z => cond (frzLive h frz && z.cells.toList.all (gr 6) && Nat.ble (len * i.size) 65536 && (Nat.blt 0 i.size) && Nat.beq z.cells.size i.size) (match Instr.fill (fun k => some (k * i.size, i.size)) (madeC z.cells (len * i.size)) parts with
        | some cells => some (.slice (some ⟨h.next, 0, some 0⟩) len len, h.push (.row e cells.toList h.next))
        | none => none) none
      | none => none
    | none => none
  | _ => none
theorem fill_size (place : Nat → Option (Nat × Nat)) : ∀ (ps : List (Nat × Value)) (c r : Array Value), Instr.fill place c ps = some r → r.size = c.size
  | [], c, r, h => by simp only [Instr.fill, Option.some.injEq] at h; rw [h]
  | (i, v) :: ps, c, r, h => by
    simp only [Instr.fill] at h
    cases hp : place i with
    | none => simp [hp] at h
    | some p =>
      simp only [hp] at h
      split at h
      · cases h
      · rw [fill_size place ps _ r h]
        have : ∀ (l : List (Value × Nat)) (c : Array Value), (l.foldl (fun (cs : Array Value) x => cs.setIfInBounds (p.1 + x.2) x.1) c).size = c.size := fun l => by
          induction l with
          | nil => intro c; rfl
          | cons x l ih => intro c; rw [List.foldl_cons, ih]; simp
        rw [← Array.foldl_toList]
        exact this _ _
theorem all_made {z : Array Value} {n : Nat} (h : z.toList.all (gr 6) = true) (h0 : 0 < z.size) : (madeCells z n).toList.all (gr 6) = true := by
  rw [List.all_eq_true] at h ⊢
  intro x hx
  simp only [madeCells, Array.toList_map, Array.toList_range, List.mem_map, List.mem_range] at hx
  obtain ⟨k, _, rfl⟩ := hx
  refine h _ ?_
  rw [getElem!_pos z (k % z.size) (Nat.mod_lt _ h0)]
  simp
theorem sBuildSlice_ok (d : Den P N G μ h w) {t : TypeId} {len : Nat} {ps ps' : List (Nat × Value)} {v : Value} {h' : SH} (e : sBuildSlice P h frz t len ps = some (v, h')) (hp : RelP μ ps ps') : MadeN P N G μ frz w (Instr.buildSlice t len ps'.toArray) v h' := by
  unfold sBuildSlice at e
  split at e
  · rename_i el hu
    split at e
    · rename_i i hi
      split at e
      · rename_i z hz
        cases hc : (frzLive h frz && z.cells.toList.all (gr 6) && Nat.ble (len * i.size) 65536 && (Nat.blt 0 i.size) && Nat.beq z.cells.size i.size) with
        | false => rw [hc] at e; cases e
        | true =>
          simp only [hc, cond_true] at e
          simp only [Bool.and_eq_true, Nat.blt_eq] at hc
          obtain ⟨⟨⟨⟨h1, h2⟩, h3⟩, h4⟩, h5⟩ := hc
          have h3 := Nat.le_of_ble_eq_true h3
          have h5 := Nat.eq_of_beq_eq_true h5
          rw [madeC_eq (by omega)] at e
          split at e
          · rename_i cells hf
            cases e
            obtain ⟨r', hf', hr⟩ := fill_rel _ hp (RelL.refl (μ := μ) (all_made (n := len * i.size) h2 (by omega))) hf
            have hsz : r'.size = len * i.size := by rw [fill_size _ _ _ _ hf', size_madeCells]
            have hrun : (Instr.buildSlice t len ps'.toArray).run P w = .ok (.slice (some ⟨w.heap.size, 0, none⟩) len len) (w.alloc (.cells r' el)) := by
              have fin : ∀ zz : Array Value, (madeCells z.cells (len * i.size)) = ((Array.range (len * i.size)).map (zz[· % zz.size]!)) →
                  Instr.fill (fun k => some (k * i.size, i.size)) ((Array.range (len * i.size)).map (zz[· % zz.size]!)) ps' = some r' := fun zz hz' => by rw [← hz', hf']
              unfold Instr.buildSlice
              simp only [Sem.run_bind, run_underlying hu w, Result.andThen_ok, sizeOf, typeInfo, run_program, hi, Sem.run_pure]
              rw [if_neg (show ¬ len * i.size > 2 ^ 24 by omega)]
              by_cases h0 : len * i.size = 0
              · have := fin #[] (by rw [h0]; simp [madeCells])
                rw [if_pos h0]
                simp only [Sem.run_bind, Sem.run_pure, Result.andThen_ok, this, newRow, run_newObj]
                rfl
              · have := fin z.cells rfl
                rw [if_neg h0]
                simp only [Sem.run_bind, zeroValue, typeInfo, run_program, Result.andThen_ok, hi, hz, Sem.run_pure, this, newRow, run_newObj]
                rfl
            exact made_row (P := P) (G := G) (κ := len) (n := len) (c := len) d h1 true (by rw [hi]; rfl) hsz hr rfl hrun
          · cases e
      · cases e
    · cases e
  · cases e
noncomputable def sMakeSlice (P : Program) (h : SH) (frz : List Nat) (t : TypeId) (l c : Value) : Option (Value × SH) := match P.underlying t, natV l, natV c with
  | some (.slice e), some ln, some cn => match P.info? e with
    | some i => match i.zero with
      | some z => cond (frzLive h frz && z.cells.toList.all (gr 6) && Nat.ble ln cn && Nat.ble cn 65536 && Nat.ble i.bytes 65536 && Nat.blt 0 i.size && Nat.beq z.cells.size i.size) (some (.slice (some ⟨h.next, 0, some 0⟩) ln cn, h.push (.row e (madeC z.cells (cn * i.size)).toList h.next))) none
      | none => none
    | none => none
  | _, _, _ => none
theorem sMakeSlice_ok (d : Den P N G μ h w) {t : TypeId} {l l' c c' v : Value} {h' : SH} (e : sMakeSlice P h frz t l c = some (v, h')) (hl : Rel μ l l') (hcc : Rel μ c c') : MadeN P N G μ frz w (Instr.makeSlice t l' c') v h' := by
  unfold sMakeSlice at e
  split at e
  · rename_i el ln cn hu hln hcn
    obtain ⟨k1, rfl, rfl⟩ := natV_rel hln hl
    obtain ⟨k2, rfl, rfl⟩ := natV_rel hcn hcc
    split at e
    · rename_i i hi
      split at e
      · rename_i z hz
        cases hc : (frzLive h frz && z.cells.toList.all (gr 6) && Nat.ble ln cn && Nat.ble cn 65536 && Nat.ble i.bytes 65536 && Nat.blt 0 i.size && Nat.beq z.cells.size i.size) with
        | false => rw [hc] at e; cases e
        | true =>
          simp only [hc, cond_true] at e
          simp only [Bool.and_eq_true, Nat.blt_eq] at hc
          obtain ⟨⟨⟨⟨⟨⟨h1, h2⟩, h3⟩, h4⟩, h5⟩, h6⟩, h7⟩ := hc
          have h70 := Nat.eq_of_beq_eq_true h7
          rw [madeC_eq (by omega)] at e
          simp only [Option.some.injEq, Prod.mk.injEq] at e
          obtain ⟨rfl, rfl⟩ := e
          have h3 := Nat.le_of_ble_eq_true h3
          have h4 := Nat.le_of_ble_eq_true h4
          have h5 := Nat.le_of_ble_eq_true h5
          have h7 := Nat.eq_of_beq_eq_true h7
          have hb : (i.bytes : Int) * (cn : Int) ≤ 281474976710656 := by
            have h8 : i.bytes * cn ≤ 65536 * 65536 := Nat.mul_le_mul h5 h4
            have h9 : ((i.bytes * cn : Nat) : Int) ≤ ((65536 * 65536 : Nat) : Int) := Int.ofNat_le.2 h8
            rw [Int.natCast_mul] at h9
            omega
          have hrun := run_make (P := P) w t el i z hu hi hz k1 k2 ln cn (by omega) (by omega) hb (by omega)
          simp only [Int.toNat_natCast] at hrun
          exact made_row (P := P) (G := G) (κ := cn) (n := ln) (c := cn) d h1 true (by rw [hi]; rfl) (size_madeCells _ _) (RelL.refl (all_made h2 (by omega))) rfl hrun
      · cases e
    · cases e
  · cases e
noncomputable def sMakeMap (h : SH) (frz : List Nat) : Option (Value × SH) := cond (frzLive h frz) (some (.map (some h.next), h.push (.map [] true))) none
theorem sMakeMap_ok (d : Den P N G μ h w) {t : TypeId} {v : Value} {h' : SH} (e : sMakeMap h frz = some (v, h')) : MadeN P N G μ frz w (Instr.makeMap t none) v h' := by
  unfold sMakeMap at e
  cases hl : frzLive h frz with
  | false => simp [hl] at e
  | true =>
    simp only [hl, cond_true, Option.some.injEq, Prod.mk.injEq] at e
    obtain ⟨rfl, rfl⟩ := e
    have hnone := d.muOld h.next (Nat.le_refl _)
    have hle : μ.le (μ.add h.next w.heap.size 0) := Mu.le_add hnone
    refine ⟨μ.add h.next w.heap.size 0, .map (some w.heap.size), w.alloc (.map #[] 0), rfl, hle, d.push _ 0 _ (fun t' cs' f e => by cases e) ?_, .map Mu.add_same, (Bel.refl N w).alloc d.base _, fun k hk b κ' hm => Below.heap_alloc w _ _ (frz_live d hl k hk b κ' hm), fun k hk => Below.heap_alloc w _ _ hk⟩
    exact ⟨w.heap.size, 0, #[], 0, Mu.add_same, d.base.new, World.alloc_heap_new w _, trivial, fun _ => ⟨rfl, rfl⟩⟩
end
end Go.Proofs.Ytedpbkpeofaibaa
