/- A closed call that comes to true on the shadow does so in each world, and leaves what was there. Over any program without package variables that it asks for. Conditions: as each law says. -/
import Derived.Test.YtedpbkpeofaibaaXW
namespace Go.Proofs.Ytedpbkpeofaibaa
open Go Go.RowKit
set_option linter.unusedSimpArgs false
set_option linter.unusedVariables false
theorem Tr.get_none {α : Type} (n : Nat) : (Tr.nil : Tr α).get n = none := rfl
theorem den0 (P : Program) (w : World) : Den P ⟨w.heap.size, []⟩ gl0 (fun _ => none) sh0 w :=
  Den.mk (by exact ⟨Nat.le_refl _, fun k hk => (List.not_mem_nil hk).elim⟩) (by intro j sb hj; cases hj) (by intro j _; rfl) (by intro j _; rfl) (by intro i j si sj b κ κ' hi; cases hi)
    (by intro j t cs f hj; cases hj) (by intro j t cs f hj; cases hj) (by intro f _; rfl) gl0_glob
theorem bool_rel {μ : Mu} {b : Bool} {v : Value} (h : Rel μ (.bool b) v) : v = .bool b := by
  cases h with
  | ground _ => rfl
/-- **A closed call that comes to true**, where the ends of some calls are known. -/
theorem closed_nullE {T : List (FuncId × Value)} {E : List Ent} {P : Program} {n : Nat} {f : FuncId} (hT : ∀ x ∈ T, NullR P x.1 x.2) (hE : ∀ x ∈ E, EntR P x) (h : isTrue (@runS ⟨T, E, false, 0⟩ P gl0 n f []) = true) : NullR P f (.bool true) := by
  letI : Orc := ⟨T, E, false, 0⟩
  haveI : OrcOk P := ⟨hT, hE⟩
  unfold isTrue at h
  split at h
  · rename_i b hb
    subst h
    unfold runS at hb
    obtain ⟨v, h', hk, hent, hc⟩ := callF_ok (by rfl) (exec_right (by rfl) n) hb
    cases hk
    refine ⟨rfl, hent, fun w => (hc _ _ w #[] (den0 P w) .nil).mono ?_⟩
    rintro e w' ⟨μ', v', rfl, p, hv⟩
    exact ⟨by rw [bool_rel hv], p.bel.low⟩
  · cases h
theorem ent_nil {P : Program} : ∀ x ∈ ([] : List Ent), EntR P x := fun x hx => by cases hx
theorem ent_cons {P : Program} {y : Ent} {E : List Ent} (n : EntR P y) (h : ∀ x ∈ E, EntR P x) : ∀ x ∈ (y :: E), EntR P x := fun x hx => by
  rcases List.mem_cons.1 hx with rfl | hx
  · exact n
  · exact h x hx
theorem closed_null [Orc] {T : List (FuncId × Value)} {P : Program} {n : Nat} {f : FuncId} (hT : ∀ x ∈ T, NullR P x.1 x.2) (h : isTrue (@runS ⟨T, [], false, 0⟩ P gl0 n f []) = true) : NullR P f (.bool true) := closed_nullE hT ent_nil h
/-- What an entry's call comes to, at its own memory; its rows stay as they are. The new row, if there is one, has the number o. -/
def famLow (m : Nat) : Option SB → Bool
  | some (.row _ _ f) => Nat.blt f m
  | _ => false
noncomputable def okRes (m : Nat) (h : SH) (o : Nat) : Option (TypeId × List Value) → Option (List Value)
  | none => some []
  | some r => match h.tr.get o with
    | some (.row t cs f) => cond (decide (t = r.1) && Nat.ble m f && ((List.range m).all fun k => famLow m (h.tr.get k))) (some cs) none
    | _ => none
noncomputable def runE [Orc] (P : Program) (n o : Nat) (x : Ent) : Option Value := callF P gl0 (exec P gl0 n) (List.range x.mem.length) (finfo P x.g) x.args (memSH x.mem { next := 0, tr := .nil, kin := .nil }) fun v h => match okRes x.mem.length h o x.res with
  | some cs => some (.tuple ⟨v :: cs⟩)
  | none => none
/-- What it must come to. -/
def resOf (x : Ent) : List Value := match x.res with
  | none => []
  | some r => r.2
def endOf (o : Nat) (x : Ent) : Value := match x.res with
  | none => x.v
  | some _ => renB o 4 x.v
def fineB : Nat → Value → Bool
  | 0, v => gr 6 v
  | d + 1, v => match v with
    | .slice (some a) _ _ => match a.spot with
      | some 0 => true
      | some 1 => Nat.beq a.off 0
      | _ => false
    | .agg cs => cs.toList.all (fineB d)
    | .tuple cs => cs.toList.all (fineB d)
    | v => gr 6 v
def fineE (x : Ent) : Bool := match x.res with
  | none => gr 6 x.v
  | some r => fineB 4 x.v && r.2.all (gr 6)
theorem renB_rel {μ ν : Mu} {o n b κ : Nat} (ho : μ o = some (b, κ)) (hn : ν n = some (b, κ)) : ∀ (d : Nat) (v v' : Value), fineB d v = true → Rel μ (renB o d v) v' → Rel ν (renB n d v) v'
  | 0, v, v', hf, hr => by
    have hf : gr 6 v = true := hf
    obtain rfl := Rel.eq (show Rel μ v v' from hr) hf
    exact .ground hf
  | d + 1, v, v', hf, hr => by
    have lst : ∀ (l l' : List Value), l.all (fineB d) = true → RelL μ (l.map (renB o d)) l' → RelL ν (l.map (renB n d)) l' := by
      intro l
      induction l with
      | nil => intro l' _ h; cases h; exact .nil
      | cons x l ih =>
        intro l' hl h
        rw [List.all_cons, Bool.and_eq_true] at hl
        rw [List.map_cons] at h ⊢
        cases h with
        | cons hv ht => exact .cons (renB_rel ho hn d _ _ hl.1 hv) (ih _ hl.2 ht)
    cases v with
    | slice oa k c =>
      cases oa with
      | none =>
        have hf : gr 6 (.slice none k c) = true := hf
        obtain rfl := Rel.eq (show Rel μ (.slice none k c) v' from hr) hf
        exact .ground hf
      | some a =>
        obtain ⟨bl, off, sp⟩ := a
        have hr : Rel μ (.slice (some ⟨o, off, sp⟩) k c) v' := hr
        show Rel ν (.slice (some ⟨n, off, sp⟩) k c) v'
        simp only [fineB] at hf
        split at hf
        · cases hr with
          | ground hg => simp [gr] at hg
          | slice hm => rw [ho] at hm; cases hm; exact .slice hn
        · cases hr with
          | ground hg => simp [gr] at hg
          | sliceO hm hk => rw [ho] at hm; cases hm; exact .sliceO hn hk
        · cases hf
    | agg cs =>
      have hr : Rel μ (.agg ⟨cs.toList.map (renB o d)⟩) v' := hr
      obtain ⟨cs', rfl, hl⟩ := agg_rel hr
      exact .agg (lst _ _ hf hl)
    | tuple cs =>
      have hr : Rel μ (.tuple ⟨cs.toList.map (renB o d)⟩) v' := hr
      obtain ⟨cs', rfl, hl⟩ := tuple_rel hr
      exact .tuple (lst _ _ hf hl)
    | _ =>
      simp only [fineB] at hf
      simp only [renB] at hr ⊢
      obtain rfl := hr.eq hf
      exact .ground hf
/-- **An entry is right.** -/
theorem ent_ok {T : List (FuncId × Value)} {E : List Ent} {P : Program} {n o : Nat} {x : Ent} (hT : ∀ x ∈ T, NullR P x.1 x.2) (hE : ∀ x ∈ E, EntR P x) (hf : fineE x = true) (h : @runE ⟨T, E, false, 0⟩ P n o x = some (.tuple ⟨endOf o x :: resOf x⟩)) : EntR P x := by
  letI : Orc := ⟨T, E, false, 0⟩
  haveI : OrcOk P := ⟨hT, hE⟩
  unfold runE at h
  obtain ⟨v, h', hk, hent, hc⟩ := callF_ok (by rfl) (exec_right (by rfl) n) h
  refine ⟨hent, fun μ w bs args' d hbs ha => (hc _ μ w args' d ha).mono ?_⟩
  rintro e w' ⟨μ', v', rfl, p, hv⟩
  have hbel : Below w.heap.size w w' := ⟨p.bel.low.os, p.bel.low.tape, p.bel.low.output, p.bel.low.size, fun k hk => by
    by_cases hm : k ∈ bs
    · obtain ⟨j, κ, h1, h2⟩ := hbs k hm
      exact p.kp j (List.mem_range.2 h1) k κ h2
    · refine p.bel.oth k (List.mem_filter.2 ⟨List.mem_range.2 hk, ?_⟩)
      cases hq : bs.any fun b => Nat.beq b k with
      | false => rfl
      | true =>
        obtain ⟨b, hb, hbk⟩ := List.any_eq_true.1 hq
        exact absurd (by rw [← Nat.eq_of_beq_eq_true hbk]; exact hb) hm⟩
  refine ⟨?_, hbel⟩
  unfold EntE
  cases hr : x.res with
  | none =>
    simp only [hr, okRes, endOf, resOf, Option.some.injEq, Value.tuple.injEq, Array.mk.injEq, List.cons.injEq, and_true] at hk
    simp only [fineE, hr] at hf
    subst hk
    exact ⟨hf, by rw [hv.eq hf]⟩
  | some r =>
    simp only [fineE, hr, Bool.and_eq_true] at hf
    simp only [hr, endOf, resOf] at hk
    split at hk
    · rename_i cs hok
      simp only [Option.some.injEq, Value.tuple.injEq, Array.mk.injEq, List.cons.injEq] at hk
      obtain ⟨rfl, rfl⟩ := hk
      simp only [okRes] at hok
      split at hok
      · rename_i t cs2 f hget
        cases hcnd : (decide (t = r.1) && Nat.ble x.mem.length f && ((List.range x.mem.length).all fun k => famLow x.mem.length (h'.tr.get k))) with
        | false => rw [hcnd] at hok; cases hok
        | true =>
          rw [hcnd, cond_true, Option.some.injEq] at hok
          subst hok
          simp only [Bool.and_eq_true, decide_eq_true_eq] at hcnd
          obtain ⟨⟨rfl, hmf⟩, hall⟩ := hcnd
          have hmf := Nat.le_of_ble_eq_true hmf
          obtain ⟨b, κ, cur, sz, b1, b2, b3, b4, b5, b6, b7⟩ := p.den.blk o _ hget
          refine ⟨hf.2, v', b, κ, cur, sz, rfl, ?_, b3, b4, b5, b6, ?_, fun ν k hk => renB_rel b1 hk 4 _ _ hf.1 hv⟩
          · rcases Nat.lt_or_ge b w.heap.size with hlt | hge
            · exfalso
              by_cases hm : b ∈ bs
              · obtain ⟨j, κ', h1, h2⟩ := hbs b hm
                have hlow := List.all_eq_true.1 hall j (List.mem_range.2 h1)
                unfold famLow at hlow
                split at hlow
                · rename_i t3 cs3 f3 hsj
                  refine p.den.apart j o _ _ b κ' κ hsj hget (fun e => ?_) (p.le _ _ h2) b1
                  simp only [Nat.blt_eq] at hlow
                  simp only [famOf] at e
                  omega
                · cases hlow
              · refine b2.2 (List.mem_filter.2 ⟨List.mem_range.2 hlt, ?_⟩)
                cases hq : bs.any fun b' => Nat.beq b' b with
                | false => rfl
                | true =>
                  obtain ⟨b', hb', hbk⟩ := List.any_eq_true.1 hq
                  exact absurd (by rw [← Nat.eq_of_beq_eq_true hbk]; exact hb') hm
            · exact hge
          · exact ((RelL.eq b7 hf.2).symm).symm
      · cases hok
    · cases hk
theorem null_nil {P : Program} : ∀ x ∈ ([] : List (FuncId × Value)), NullR P x.1 x.2 := fun x hx => by cases hx
theorem null_cons {P : Program} {g : FuncId} {v : Value} {T : List (FuncId × Value)} (n : NullR P g v) (h : ∀ x ∈ T, NullR P x.1 x.2) : ∀ x ∈ ((g, v) :: T), NullR P x.1 x.2 := fun x hx => by
  rcases List.mem_cons.1 hx with rfl | hx
  · exact n
  · exact h x hx
theorem closed_any {P : Program} {f : FuncId} (n : NullR P f (.bool true)) (w : World) :
    CallsIn Fence.wide 0 P f #[] w fun e w' => e = .returned (.bool true) ∧ Below w.heap.size w w' := n.2.2 w
end Go.Proofs.Ytedpbkpeofaibaa
