/- A region that draws its order, carried out in one order that is enough: laws over any program (what yields in each world that meets a condition is taken first; a call that alone may come up is carried out). Conditions: as each law says. -/
import Derived.OrdersHeld
import Derived.Deep.RegionHeld3
namespace Go.Proofs.Ytedpbkpeofaibaa
open Go
set_option linter.unusedSimpArgs false
set_option linter.unusedVariables false
section
variable {P : Program} {ops : Array Oper} {Q : Exit → Act → World → Prop} {S : World → Prop}
/-- In this order each operation is taken first (true), or is the only one that may come up (false); behind all of them none is left. -/
def seqOk (ops : Array Oper) : List (Nat × Bool) → Array Bool → Bool
  | [], listed => (Region.ready .any ops listed).isEmpty
  | (i, true) :: ks, listed => Region.free .any ops listed i && (Region.ready .any ops listed).contains i && seqOk ops ks (listed.setIfInBounds i true)
  | (i, false) :: ks, listed => (Region.ready .any ops listed == [i]) && seqOk ops ks (listed.setIfInBounds i true)
/-- What is owed, operation by operation. -/
def SeqW (P : Program) (ops : Array Oper) (Q : Exit → Act → World → Prop) (S : World → Prop) : List (Nat × Bool) → Act → World → Prop
  | [], a, w => Q .normal a w
  | (i, true) :: ks, a, w => ∃ o v, ops[i]? = some o ∧ YieldsIf P ops S o v a ∧ SeqW P ops Q S ks (a.put o.dst v) w
  | (i, false) :: ks, a, w => wpOp P ops Q i (fun a' w' => S w' ∧ SeqW P ops Q S ks a' w') a w
theorem seqW_any (hs : Region.noSelect ops = true) (hQ : ∀ c (a : Act) t w, Q (.panic c) { a with tmps := t } w → Q (.panic c) a w) :
    ∀ (ks : List (Nat × Bool)) (listed : Array Bool) (a : Act) (w : World), seqOk ops ks listed = true → S w → SeqW P ops Q S ks a w → ∀ fuel, ks.length ≤ fuel → wpAnyH P .any ops Q S fuel listed a w
  | [], listed, a, w, hk, _, h, fuel, _ => wpAnyH_done (by simpa [seqOk] using hk) h fuel
  | (i, true) :: ks, listed, a, w, hk, hS, ⟨o, v, ho, hy, h⟩, fuel, hf => by
    obtain ⟨n, rfl⟩ : ∃ n, fuel = n + 1 := ⟨fuel - 1, by simp at hf; omega⟩
    simp only [seqOk, Bool.and_eq_true] at hk
    exact wpAnyH_take ho hs hk.1.1 hk.1.2 (fun c a w h' => by
      cases hd : o.dst with
      | none => simpa [hd, Act.put] using h'
      | some d => rw [hd] at h'; exact hQ c a _ w h') hy hS (seqW_any hs hQ ks _ _ _ hk.2 hS h n (by simpa using hf))
  | (i, false) :: ks, listed, a, w, hk, hS, h, fuel, hf => by
    obtain ⟨n, rfl⟩ : ∃ n, fuel = n + 1 := ⟨fuel - 1, by simp at hf; omega⟩
    simp only [seqOk, Bool.and_eq_true, beq_iff_eq] at hk
    refine wpAnyH_all hk.1 (by simp) fun j hj => ?_
    obtain rfl : j = i := by simpa using hj
    exact wpOp_mono (fun a' w' h' => ⟨h'.1, seqW_any hs hQ ks _ a' w' hk.2 h'.1 h'.2 n (by simpa using hf)⟩) h
/-- The operation of a number, read off the list, so that it stands written out. -/
def opAt : List Oper → Nat → Option Oper
  | [], _ => none
  | o :: _, 0 => some o
  | _ :: os, n + 1 => opAt os n
theorem opAt_eq : ∀ (l : List Oper) (i : Nat), opAt l i = l[i]?
  | [], _ => rfl
  | _ :: _, 0 => rfl
  | _ :: os, n + 1 => by simpa [opAt] using opAt_eq os n
theorem opAt_get {i : Nat} {o : Oper} (h : opAt ops.toList i = some o) : ops[i]? = some o := by rw [opAt_eq] at h; simpa using h
/-- **THE BEGINNING.** -/
theorem region_seq (S : World → Prop) (ks : List (Nat × Bool)) {id : Nat} {a : Act} {w : World} (hm : P.follows .mixedOrders = true) (hs : Region.noSelect ops = true)
    (hk : seqOk ops ks (Array.replicate ops.size false) = true) (hl : (ks.length ≤ ops.size) = True)
    (hQ : ∀ c (a : Act) t w, Q (.panic c) { a with tmps := t } w → Q (.panic c) a w) (hS : S w.drew) (h : SeqW P ops Q S ks a w.drew) : (Code.region id ops true).wp P Q a w :=
  wp_region_held hm (seqW_any hs hQ ks _ a _ hk hS h _ (by rw [hl]; trivial))
theorem SeqW.take {i : Nat} {ks : List (Nat × Bool)} {o : Oper} {v : Value} {a : Act} {w : World} (ho : opAt ops.toList i = some o) (hw : Region.wanted o (yielded ops a.tmps) = true)
    (hv : ∀ W, S W → (execOp a.eval o).run P W = .ok (.value v) W) (h : SeqW P ops Q S ks (a.put o.dst v) w) : SeqW P ops Q S ((i, true) :: ks) a w := ⟨o, v, opAt_get ho, .inl ⟨hw, hv⟩, h⟩
theorem SeqW.skip {i : Nat} {ks : List (Nat × Bool)} {o : Oper} {a : Act} {w : World} (ho : opAt ops.toList i = some o) (hw : Region.wanted o (yielded ops a.tmps) = false)
    (h : SeqW P ops Q S ks (a.put o.dst undef) w) : SeqW P ops Q S ((i, true) :: ks) a w := ⟨o, undef, opAt_get ho, .inr ⟨hw, rfl⟩, h⟩
theorem SeqW.call {i : Nat} {ks : List (Nat × Bool)} {o : Oper} {a : Act} {w : World} (ho : opAt ops.toList i = some o) (hw : Region.wanted o (yielded ops a.tmps) = true)
    (h : ∀ K' : Act → World → Prop, Shut (∀ a w, S w → SeqW P ops Q S ks a w → K' a w) → Oper.wp P o a w K' Q) : SeqW P ops Q S ((i, false) :: ks) a w :=
  wpOp_step (opAt_get ho) fun K' hK => by rw [if_pos hw]; exact h K' fun a w hS hW => hK a w ⟨hS, hW⟩
theorem SeqW.done {a : Act} {w : World} (h : Q .normal a w) : SeqW P ops Q S [] a w := h
end
end Go.Proofs.Ytedpbkpeofaibaa
