/- Composite values, and new rows, laid one part behind the other. Over any program. Conditions: as each law says. -/
import Derived.Test.YtedpbkpeofaibaaXLb
namespace Go.Proofs.Ytedpbkpeofaibaa
open Go Go.RowKit
set_option linter.unusedSimpArgs false
set_option linter.unusedVariables false
inductive All2 {α β : Type} (R : α → β → Prop) : List α → List β → Prop
  | nil : All2 R [] []
  | cons {a : α} {b : β} {l : List α} {k : List β} (h : R a b) (t : All2 R l k) : All2 R (a :: l) (b :: k)
/-- A value's cells, if there are so many. -/
noncomputable def cellsC [Orc] {α : Type} (v : Value) (size : Nat) (yes : List Value → α) (no : α) : α := @Value.rec (fun _ => α) (fun _ => α) (fun _ => α) (fun _ => bR (Nat.beq size 1) (yes [v]) no) (fun _ _ => bR (Nat.beq size 1) (yes [v]) no) (fun _ _ => bR (Nat.beq size 1) (yes [v]) no) (fun _ _ _ => bR (Nat.beq size 1) (yes [v]) no) (fun _ => bR (Nat.beq size 1) (yes [v]) no) (fun _ => bR (Nat.beq size 1) (yes [v]) no) (fun _ _ _ => bR (Nat.beq size 1) (yes [v]) no) (fun _ => bR (Nat.beq size 1) (yes [v]) no) (fun _ => bR (Nat.beq size 1) (yes [v]) no) (fun _ _ _ _ _ => bR (Nat.beq size 1) (yes [v]) no) (bR (Nat.beq size 1) (yes [v]) no) (fun _ _ _ => bR (Nat.beq size 1) (yes [v]) no) (bR (Nat.beq size 1) (yes [v]) no) (fun cs _ => bR (Nat.beq (lenR cs.toList) size) (yes cs.toList) no) (fun _ _ => bR (Nat.beq size 1) (yes [v]) no) (fun _ _ => no) no (fun _ _ _ _ => no) v
theorem cellsC_eq [Orc] {α : Type} (v : Value) (size : Nat) (yes : List Value → α) (no : α) : cellsC v size yes no = if v.cells.size = size then yes v.cells.toList else no := by
  have one : ∀ w : Value, w.cells = #[w] → bR (Nat.beq size 1) (yes [w]) no = if w.cells.size = size then yes w.cells.toList else no := fun w hw => by
    rw [hw, bR_eq]
    by_cases h : size = 1
    · subst h; rfl
    · rw [if_neg (by rw [Nat.beq_eq]; exact h), if_neg (by simp; omega)]
  cases v <;> first | exact one _ rfl | skip
  case agg cs =>
    show bR (Nat.beq (lenR cs.toList) size) (yes cs.toList) no = _
    rw [bR_eq, lenR_eq]
    show (if Nat.beq cs.size size = true then _ else _) = if cs.size = size then _ else _
    by_cases h : cs.size = size
    · rw [if_pos h, if_pos (by rw [Nat.beq_eq]; exact h)]; rfl
    · rw [if_neg h, if_neg (by rw [Nat.beq_eq]; exact h)]
noncomputable def appR {β : Type} (l k : List β) : List β := List.rec (motive := fun _ => List β) k (fun v _ ih => v :: ih) l
theorem appR_eq {β : Type} (k : List β) : ∀ l : List β, appR l k = l ++ k
  | [] => rfl
  | v :: l => by show v :: appR l k = _; rw [appR_eq k l]; rfl
/-- What lies in a row behind its parts' places. -/
def outL (z : List Value) : Nat → List (Nat × List Value) → List Value
  | pos, [] => z.drop pos
  | pos, (off, cs) :: ps => (z.drop pos).take (off - pos) ++ (cs ++ outL z (off + cs.length) ps)
theorem fold_set : ∀ (l : List Value) (k : Nat) (A : Array Value) (off : Nat), off + k + l.length ≤ A.size → ((l.zipIdx k).foldl (fun (cs : Array Value) x => cs.setIfInBounds (off + x.2) x.1) A).toList = A.toList.take (off + k) ++ l ++ A.toList.drop (off + k + l.length)
  | [], k, A, off, _ => by simp
  | v :: l, k, A, off, h => by
    simp only [List.length_cons] at h
    rw [List.zipIdx_cons, List.foldl_cons, fold_set l (k + 1) _ off (by simp; omega)]
    simp only [Array.toList_setIfInBounds, List.length_cons]
    rw [List.set_eq_take_append_cons_drop, if_pos (by simp; omega)]
    have h1 : (A.toList.take (off + k)).length = off + k := by simp; omega
    rw [show off + (k + 1) = (A.toList.take (off + k)).length + 1 from by omega, List.take_append, List.take_of_length_le (by omega), List.drop_append]
    simp only [h1, Nat.add_sub_cancel_left, List.take_succ_cons, List.take_zero]
    rw [List.drop_of_length_le (by omega), List.nil_append, show off + k + 1 + l.length - (off + k) = l.length + 1 from by omega, List.drop_succ_cons, List.drop_drop]
    simp [Nat.add_assoc, Nat.add_comm, Nat.add_left_comm]
/-- A part: where it lies, how large it is. -/
abbrev Seg := Nat × Nat × GK
theorem fill_out {place : Nat → Option (Nat × Nat)} {z : List Value} : ∀ (ps : List (Nat × Value)) (qs : List (Nat × List Value)) (pos : Nat) (pre : List Value) (A : Array Value), A.toList = pre ++ z.drop pos → pre.length = pos → pos ≤ z.length →
    All2 (fun (p : Nat × Value) (q : Nat × List Value) => place p.1 = some (q.1, q.2.length) ∧ p.2.cells.toList = q.2) ps qs → (qs.foldr (fun q (k : Nat → Prop) pos => pos ≤ q.1 ∧ q.1 + q.2.length ≤ z.length ∧ k (q.1 + q.2.length)) (fun _ => True)) pos →
    ∃ R, Instr.fill place A ps = some R ∧ R.toList = pre ++ outL z pos qs
  | [], _, pos, pre, A, hA, _, _, .nil, _ => ⟨A, rfl, hA⟩
  | (i, v) :: ps, _, pos, pre, A, hA, hp, hz, .cons (b := (off, cs)) (k := qs) h1 h2, hok => by
    simp only [List.foldr_cons] at hok
    obtain ⟨g1, g2, g3⟩ := hok
    obtain ⟨hpl, hcs⟩ := h1
    simp only at hpl hcs
    have hsz : A.size = z.length := by
      have := congrArg List.length hA
      simp only [Array.length_toList, List.length_append, List.length_drop] at this
      omega
    have hlen : v.cells.size = cs.length := by rw [← hcs]; simp
    unfold Instr.fill
    simp only [hpl]
    rw [if_neg (by rw [hlen, hsz]; simp; omega)]
    have hset := fold_set v.cells.toList 0 A off (by rw [hcs]; omega)
    have e : (v.cells.zipIdx.foldl (fun (cs : Array Value) (x : Value × Nat) => cs.setIfInBounds (off + x.2) x.1) A).toList = pre ++ (z.drop pos).take (off - pos) ++ cs ++ z.drop (off + cs.length) := by
      rw [← Array.foldl_toList, Array.toList_zipIdx, hset, hcs, hA]
      simp only [Nat.add_zero]
      have t1 : pre.take off = pre := List.take_of_length_le (by omega)
      have d1 : pre.drop (off + cs.length) = [] := List.drop_of_length_le (by omega)
      rw [List.take_append, t1, hp, List.drop_append, d1, List.nil_append, List.drop_drop, hp]
      rw [show pos + (off + cs.length - pos) = off + cs.length from by omega]
    obtain ⟨R, hR1, hR2⟩ := fill_out ps qs (off + cs.length) (pre ++ (z.drop pos).take (off - pos) ++ cs) _ e (by simp; omega) g2 h2 g3
    refine ⟨R, hR1, ?_⟩
    rw [hR2]
    simp [outL]
/-- The parts' cells, one behind the other. -/
structure LK where
  run : Fr → (List Value → An) → An → An
noncomputable def outK [Orc] (z : List Value) : Nat → List Seg → LK
  | pos, [] => cond (Nat.ble z.length pos) ⟨fun _ yes _ => yes []⟩ ⟨fun _ yes _ => yes (z.drop pos)⟩
  | pos, s :: ps => cond (Nat.beq s.1 pos) ⟨fun ts yes no => cellsC (s.2.2.run ts) s.2.1 (fun cs => (outK z (s.1 + s.2.1) ps).run ts (fun rest => yes (appR cs rest)) no) no⟩
    ⟨fun ts yes no => cellsC (s.2.2.run ts) s.2.1 (fun cs => (outK z (s.1 + s.2.1) ps).run ts (fun rest => yes (appR ((z.drop pos).take (s.1 - pos)) (appR cs rest))) no) no⟩
def segOk (n : Nat) : Nat → List Seg → Bool
  | _, [] => true
  | pos, s :: ps => Nat.ble pos s.1 && Nat.ble (s.1 + s.2.1) n && segOk n (s.1 + s.2.1) ps
theorem outK_ok [Orc] {z : List Value} {ts : Fr} {no : An} {r : Value} : ∀ (ps : List Seg) (pos : Nat) (yes : List Value → An), segOk z.length pos ps = true → (outK z pos ps).run ts yes no = some r →
    (∃ qs, All2 (fun (s : Seg) (q : Nat × List Value) => s.1 = q.1 ∧ s.2.1 = q.2.length ∧ (s.2.2.run ts).cells.toList = q.2) ps qs ∧ (qs.foldr (fun q (k : Nat → Prop) pos => pos ≤ q.1 ∧ q.1 + q.2.length ≤ z.length ∧ k (q.1 + q.2.length)) (fun _ => True)) pos ∧ yes (outL z pos qs) = some r) ∨ no = some r
  | [], pos, yes, _, e => by
    refine .inl ⟨[], .nil, trivial, ?_⟩
    unfold outK at e
    cases hb : Nat.ble z.length pos with
    | true =>
      rw [hb] at e
      have := Nat.le_of_ble_eq_true hb
      simp only [outL]
      rw [List.drop_of_length_le this]
      exact e
    | false => rw [hb] at e; exact e
  | s :: ps, pos, yes, hok, e => by
    simp only [segOk, Bool.and_eq_true] at hok
    obtain ⟨⟨h1, h2⟩, h3⟩ := hok
    have h1 := Nat.le_of_ble_eq_true h1
    have h2 := Nat.le_of_ble_eq_true h2
    have key : cellsC (s.2.2.run ts) s.2.1 (fun cs => (outK z (s.1 + s.2.1) ps).run ts (fun rest => yes ((z.drop pos).take (s.1 - pos) ++ (cs ++ rest))) no) no = some r → (∃ qs, All2 (fun (s : Seg) (q : Nat × List Value) => s.1 = q.1 ∧ s.2.1 = q.2.length ∧ (s.2.2.run ts).cells.toList = q.2) (s :: ps) qs ∧ (qs.foldr (fun q (k : Nat → Prop) pos => pos ≤ q.1 ∧ q.1 + q.2.length ≤ z.length ∧ k (q.1 + q.2.length)) (fun _ => True)) pos ∧ yes (outL z pos qs) = some r) ∨ no = some r := fun e => by
      rw [cellsC_eq] at e
      split at e
      · rename_i hsz
        rcases outK_ok ps (s.1 + s.2.1) _ h3 e with ⟨qs, g1, g2, g3⟩ | h
        · have hl : (s.2.2.run ts).cells.toList.length = s.2.1 := by rw [Array.length_toList]; exact hsz
          refine .inl ⟨(s.1, (s.2.2.run ts).cells.toList) :: qs, .cons ⟨rfl, hl.symm, rfl⟩ g1, ?_, ?_⟩
          · simp only [List.foldr_cons]
            exact ⟨h1, by rw [hl]; exact h2, by rw [hl]; exact g2⟩
          · simp only [outL, hl]
            exact g3
        · exact .inr h
      · exact .inr e
    unfold outK at e
    cases hb : Nat.beq s.1 pos with
    | true =>
      rw [hb] at e
      simp only [cond_true, appR_eq] at e
      refine key ?_
      have := Nat.eq_of_beq_eq_true hb
      rw [this, Nat.sub_self, List.take_zero] 
      rw [this] at e
      simpa using e
    | false =>
      rw [hb] at e
      simp only [cond_false, appR_eq] at e
      exact key e
end Go.Proofs.Ytedpbkpeofaibaa
