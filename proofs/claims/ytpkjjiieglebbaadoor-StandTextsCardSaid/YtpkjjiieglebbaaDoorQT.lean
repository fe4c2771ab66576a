/- A text split at a byte, numbers read loosely out of tokens, and a stand read loosely out of a text: just the one that was printed, if its own text is the text. Conditions: the stand is valid. -/
import Derived.Test.YtpkjjiieglebbaaDoorQ7
namespace Go.Proofs.YtpkjjiieglebbaaDoor
open Go Go.RowKit
/-- The parts of a text between separators. -/
def splitL (sep : UInt8) : List UInt8 → List (List UInt8)
  | [] => [[]]
  | c :: l => if c = sep then [] :: splitL sep l else (c :: (splitL sep l).headD []) :: (splitL sep l).tail
theorem splitL_ne (sep : UInt8) : ∀ l, splitL sep l ≠ []
  | [] => by simp [splitL]
  | c :: l => by unfold splitL; split <;> simp
theorem splitL_hit {sep : UInt8} : ∀ (p r : List UInt8), (∀ c ∈ p, c ≠ sep) → splitL sep (p ++ sep :: r) = p :: splitL sep r
  | [], r, _ => by simp [splitL]
  | c :: p, r, h => by
    have hc : c ≠ sep := h c (by simp)
    rw [List.cons_append, splitL, if_neg hc, splitL_hit p r fun x hx => h x (by simp [hx])]
    rfl
theorem splitL_end {sep : UInt8} : ∀ p : List UInt8, (∀ c ∈ p, c ≠ sep) → splitL sep p = [p]
  | [], _ => rfl
  | c :: p, h => by
    have hc : c ≠ sep := h c (by simp)
    rw [splitL, if_neg hc, splitL_end p fun x hx => h x (by simp [hx])]
    rfl
theorem splitL_len (sep : UInt8) : ∀ l : List UInt8, (splitL sep l).length ≤ l.length + 1
  | [] => by simp [splitL]
  | c :: l => by
    have := splitL_len sep l
    unfold splitL
    split
    · simp; omega
    · simp; omega
theorem splitL_part (sep : UInt8) : ∀ l : List UInt8, ∀ x ∈ splitL sep l, x.length ≤ l.length
  | [], x, h => by simp [splitL] at h; simp [h]
  | c :: l, x, h => by
    have hi := splitL_part sep l
    rw [splitL] at h
    split at h
    · simp only [List.mem_cons] at h
      rcases h with rfl | h
      · simp
      · have := hi x h; simp; omega
    · simp only [List.mem_cons] at h
      rcases h with rfl | h
      · rcases hs : splitL sep l with _ | ⟨y, ys⟩
        · simp
        · have := hi y (by rw [hs]; simp)
          simp; omega
      · have := hi x (List.mem_of_mem_tail h)
        simp; omega
theorem join_cons {x y : List UInt8} {r : List (List UInt8)} (sep : UInt8) : Lib.join (x :: y :: r) [sep] = x ++ sep :: Lib.join (y :: r) [sep] := by
  simp [Lib.join, List.intercalate, List.intersperse]
theorem splitL_join {sep : UInt8} : ∀ (x : List UInt8) (xs : List (List UInt8)), (∀ t ∈ x :: xs, ∀ c ∈ t, c ≠ sep) → splitL sep (Lib.join (x :: xs) [sep]) = x :: xs
  | x, [], h => by
    have e : Lib.join [x] [sep] = x := by simp [Lib.join, List.intercalate]
    rw [e, splitL_end x (h x (by simp))]
  | x, y :: r, h => by
    rw [join_cons, splitL_hit x _ (h x (by simp)), splitL_join y r fun t ht => h t (List.mem_cons_of_mem _ ht)]
theorem join_mem {sep c : UInt8} : ∀ (x : List UInt8) (xs : List (List UInt8)), c ∈ Lib.join (x :: xs) [sep] → c = sep ∨ ∃ t ∈ x :: xs, c ∈ t
  | x, [], h => by
    have e : Lib.join [x] [sep] = x := by simp [Lib.join, List.intercalate]
    rw [e] at h
    exact .inr ⟨x, by simp, h⟩
  | x, y :: r, h => by
    rw [join_cons] at h
    simp only [List.mem_append, List.mem_cons] at h
    rcases h with h | h | h
    · exact .inr ⟨x, by simp, h⟩
    · exact .inl h
    · rcases join_mem y r h with h | ⟨t, ht, hc⟩
      · exact .inl h
      · exact .inr ⟨t, List.mem_cons_of_mem _ ht, hc⟩
theorem splitL_lines {sep : UInt8} : ∀ xs : List (List UInt8), (∀ x ∈ xs, ∀ c ∈ x, c ≠ sep) → splitL sep (xs.flatMap (· ++ [sep])) = xs ++ [[]]
  | [], _ => rfl
  | x :: xs, h => by
    rw [List.flatMap_cons, List.append_assoc, List.singleton_append, splitL_hit x _ (h x (by simp)), splitL_lines xs fun t ht => h t (by simp [ht])]
    rfl
/-- The number that a token is; 0: it is none. -/
def readB (l : List UInt8) : Bool := decide (1 ≤ l.length) && (decide (l.length ≤ 6) && (!(decide (1 < l.length) && (l.headD 0 == 48)) && l.all digB))
def readV (l : List UInt8) : Int := if readB l = true then valD l else 0
theorem valD_six {l : List UInt8} (h : l.all digB = true) (h6 : l.length ≤ 6) : 0 ≤ valD l ∧ valD l < 1000000 := by
  have := valD_go l 0 0 (by omega) (by simp) h
  have h2 : (10 : Int) ^ (0 + l.length) ≤ 10 ^ 6 := by
    have : (10 : Nat) ^ (0 + l.length) ≤ 10 ^ 6 := Nat.pow_le_pow_right (by omega) (by omega)
    exact_mod_cast this
  unfold valD
  simp at this h2 ⊢
  omega
theorem readV_range (l : List UInt8) : 0 ≤ readV l ∧ readV l < 1000000 := by
  unfold readV
  split
  · rename_i h
    simp only [readB, Bool.and_eq_true, decide_eq_true_eq] at h
    exact valD_six h.2.2.2 h.2.1
  · omega
theorem readV_num {n : Int} (h : 0 ≤ n ∧ n ≤ 100000) : readV (numL' n) = n := by
  obtain ⟨d1, d2, d3, d4⟩ := dec_facts n.toNat
  have dl := dec_len n.toNat 6 (by omega) (by simp; omega)
  have hl : 0 < (Lib.decDigits n.toNat).length := List.length_pos_iff.2 d3
  rw [num_dec h.1]
  unfold readV
  rw [if_pos ?_, d2]
  · omega
  · simp only [readB, Bool.and_eq_true, decide_eq_true_eq, Bool.not_eq_true', Bool.and_eq_false_iff, decide_eq_false_iff_not]
    refine ⟨by omega, dl, ?_, d1⟩
    by_cases h10 : 10 ≤ n.toNat
    · right
      obtain ⟨c, r, e, hc⟩ := d4 h10
      rw [e]
      simpa using hc
    · left
      rw [Lib.decDigits, dif_pos (by omega)]
      simp
def looseV (t : List (List UInt8)) (i : Nat) : Int := match t[i]? with
  | some x => readV x
  | none => 0
theorem looseV_range (t : List (List UInt8)) (i : Nat) : 0 ≤ looseV t i ∧ looseV t i < 1000000 := by
  unfold looseV
  split
  · exact readV_range _
  · omega
def looseT (l : List UInt8) : Tree := ⟨⟨((splitL 32 l)[1]?.getD []).toArray⟩, looseV (splitL 32 l) 2, looseV (splitL 32 l) 3, looseV (splitL 32 l) 5, looseV (splitL 32 l) 6, looseV (splitL 32 l) 8⟩
def looseTs (ls : List (List UInt8)) : List Tree := (ls.drop 1).dropLast.map looseT
def firstL (l : List UInt8) : List (List UInt8) := splitL 32 ((splitL 10 l).headD [])
def looseS (l : List UInt8) : Stand := ⟨looseTs (splitL 10 l), looseV (firstL l) 2, looseV (firstL l) 3, looseV (firstL l) 5, looseV (firstL l) 7⟩
theorem num_bytes {n : Int} (h : 0 ≤ n) {c : UInt8} (hc : c ∈ numL' n) : c ≠ 32 ∧ c ≠ 10 := by
  rw [num_dec h] at hc
  have := digB_range (List.all_eq_true.1 (dec_facts n.toNat).1 c hc)
  constructor <;> (intro e; subst e; simp at this)
theorem word_bytes {l : List UInt8} (h : wordB l = true) {c : UInt8} (hc : c ∈ l) : c ≠ 32 ∧ c ≠ 10 := by
  simp only [wordB, Bool.and_eq_true, List.all_eq_true] at h
  have := h.2 c hc
  constructor <;> (intro e; subst e; revert this; decide)
def headL (s : Stand) : List (List UInt8) := [[115, 116, 97, 110, 100], [103, 114, 111, 119], numL' s.lo, numL' s.hi, [112, 114, 101, 115, 115], numL' s.press, [110, 101, 97, 114], numL' s.near]
def treeLs (t : Tree) : List (List UInt8) := [[116, 114, 101, 101], t.tag.data.toList, numL' t.x, numL' t.y, [103, 105, 114, 116, 104], numL' t.gl, numL' t.gh, [99, 114, 111, 119, 110], numL' t.cr]
theorem head_map (s : Stand) : (headT s).map (·.data.toList) = headL s := rfl
theorem tree_map (t : Tree) : (treeT t).map (·.data.toList) = treeLs t := rfl
theorem head_bytes {s : Stand} (h : checkE s = 0) : ∀ x ∈ headL s, ∀ c ∈ x, c ≠ 32 ∧ c ≠ 10 := by
  obtain ⟨a1, a2, a3, a4, _, _⟩ := headB_of h
  intro x hx c hc
  simp only [headL, List.mem_cons, List.not_mem_nil, or_false] at hx
  rcases hx with rfl | rfl | rfl | rfl | rfl | rfl | rfl | rfl
  · revert c; decide
  · revert c; decide
  · exact num_bytes (by omega) hc
  · exact num_bytes (by omega) hc
  · revert c; decide
  · exact num_bytes (by omega) hc
  · revert c; decide
  · exact num_bytes (by omega) hc
theorem tree_bytes {t : Tree} (h : treeB t = true) : ∀ x ∈ treeLs t, ∀ c ∈ x, c ≠ 32 ∧ c ≠ 10 := by
  obtain ⟨_, a1, a2, a3, a4, a5⟩ := treeB_nums h
  have hw : wordB t.tag.data.toList = true := by simp only [treeB, Bool.and_eq_true] at h; exact h.1.1.1.1
  intro x hx c hc
  simp only [treeLs, List.mem_cons, List.not_mem_nil, or_false] at hx
  rcases hx with rfl | rfl | rfl | rfl | rfl | rfl | rfl | rfl | rfl
  · revert c; decide
  · exact word_bytes hw hc
  · exact num_bytes (by omega) hc
  · exact num_bytes (by omega) hc
  · revert c; decide
  · exact num_bytes (by omega) hc
  · exact num_bytes (by omega) hc
  · revert c; decide
  · exact num_bytes (by omega) hc
theorem split_head {s : Stand} (h : checkE s = 0) : splitL 32 (Lib.join (headL s) [32]) = headL s :=
  splitL_join _ _ fun t ht c hc => (head_bytes h t ht c hc).1
theorem split_tree {t : Tree} (h : treeB t = true) : splitL 32 (Lib.join (treeLs t) [32]) = treeLs t :=
  splitL_join _ _ fun x hx c hc => (tree_bytes h x hx c hc).1
theorem loose_tree {t : Tree} (h : treeB t = true) : looseT (Lib.join (treeLs t) [32]) = t := by
  obtain ⟨_, a1, a2, a3, a4, a5⟩ := treeB_nums h
  unfold looseT
  rw [split_tree h]
  obtain ⟨tag, x, y, gl, gh, cr⟩ := t
  dsimp only at a1 a2 a3 a4 a5
  simp only [treeLs, looseV, List.getElem?_cons_succ, List.getElem?_cons_zero, Option.getD_some]
  rw [readV_num ⟨a1.1, by omega⟩, readV_num ⟨a2.1, by omega⟩, readV_num ⟨a3.1, by omega⟩, readV_num ⟨a4.1, by omega⟩, readV_num ⟨a5.1, by omega⟩]
theorem print_lines (s : Stand) : printL s = (Lib.join (headL s) [32] :: s.ts.map fun t => Lib.join (treeLs t) [32]).flatMap (· ++ [10]) := by
  unfold printL linesL lineL
  rw [List.flatMap_cons, head_map, List.flatMap_map]
  simp only [tree_map]
theorem loose_print {s : Stand} (h : standB s = true) : looseS (printL s) = s := by
  have hc : checkE s = 0 := by unfold checkE; rw [if_pos h]
  obtain ⟨a1, a2, a3, a4, _, ht⟩ := headB_of hc
  have hsp : splitL 10 (printL s) = (Lib.join (headL s) [32] :: s.ts.map fun t => Lib.join (treeLs t) [32]) ++ [[]] := by
    rw [print_lines]
    refine splitL_lines _ fun x hx c hm => ?_
    simp only [List.mem_cons, List.mem_map] at hx
    rcases hx with rfl | ⟨t, htm, rfl⟩
    · rcases join_mem _ _ hm with rfl | ⟨y, hy, hcy⟩
      · decide
      · exact (head_bytes hc y hy c hcy).2
    · rcases join_mem _ _ hm with rfl | ⟨y, hy, hcy⟩
      · decide
      · exact (tree_bytes (ht t htm) y hy c hcy).2
  have hf : firstL (printL s) = headL s := by unfold firstL; rw [hsp]; exact split_head hc
  have hts : looseTs (splitL 10 (printL s)) = s.ts := by
    rw [hsp]
    unfold looseTs
    rw [List.cons_append, List.drop_succ_cons, List.drop_zero, List.dropLast_concat, List.map_map]
    conv => rhs; rw [← List.map_id s.ts]
    exact List.map_congr_left fun t htm => loose_tree (ht t htm)
  unfold looseS
  rw [hf, hts]
  obtain ⟨ts, lo, hi, pr, ne⟩ := s
  dsimp only at a1 a2 a3 a4
  simp only [headL, looseV, List.getElem?_cons_succ, List.getElem?_cons_zero]
  rw [readV_num ⟨a1.1, by omega⟩, readV_num ⟨a2.1, by omega⟩, readV_num ⟨a3.1, by omega⟩, readV_num ⟨a4.1, by omega⟩]
end Go.Proofs.YtpkjjiieglebbaaDoor
