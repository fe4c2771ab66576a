/- A text that is printed is read as the stand that it is of, and a text that is read is just the one that is printed of what it is read as. Conditions: the stand is valid. -/
import Derived.Test.YtpkjjiieglebbaaDoorPR
import Derived.Test.YtpkjjiieglebbaaDoorRS
namespace Go.Proofs.YtpkjjiieglebbaaDoor
open Go Go.RowKit
theorem dg_val {k : Nat} (h : k < 10) : digB (UInt8.ofNat (48 + k)) = true ∧ ((UInt8.ofNat (48 + k)).toNat : Int) - 48 = k := by
  have e : (UInt8.ofNat (48 + k)).toNat = 48 + k := by rw [UInt8.toNat_ofNat']; omega
  unfold digB
  rw [e]
  exact ⟨by simp; omega, by omega⟩
theorem dec_facts (u : Nat) : (Lib.decDigits u).all digB = true ∧ valD (Lib.decDigits u) = u ∧ Lib.decDigits u ≠ [] ∧ (10 ≤ u → ∃ c r, Lib.decDigits u = c :: r ∧ c ≠ 48) := by
  induction u using Nat.strongRecOn with
  | ind u ih =>
    rw [Lib.decDigits]
    by_cases h : u < 10
    · rw [dif_pos h]
      have := dg_val h
      exact ⟨by rw [List.all_cons, this.1]; rfl, by show 10 * 0 + (((UInt8.ofNat (48 + u)).toNat : Int) - 48) = u; rw [this.2]; omega, by simp, fun h2 => absurd h2 (by omega)⟩
    · rw [dif_neg h]
      obtain ⟨i1, i2, i3, i4⟩ := ih (u / 10) (by omega)
      have hd := dg_val (show u % 10 < 10 by omega)
      refine ⟨by rw [List.all_append, i1, List.all_cons, hd.1]; rfl, by rw [valD_snoc, i2, hd.2]; omega, by simp, fun _ => ?_⟩
      by_cases h2 : 10 ≤ u / 10
      · obtain ⟨c, r, e, hc⟩ := i4 h2
        exact ⟨c, r ++ [UInt8.ofNat (48 + u % 10)], by rw [e]; rfl, hc⟩
      · refine ⟨UInt8.ofNat (48 + u / 10), [UInt8.ofNat (48 + u % 10)], ?_, fun e => ?_⟩
        · rw [Lib.decDigits, dif_pos (by omega)]; rfl
        · have := (dg_val (show u / 10 < 10 by omega)).2
          rw [e] at this
          simp at this
          omega
theorem dec_len (u : Nat) : ∀ k, 1 ≤ k → u < 10 ^ k → (Lib.decDigits u).length ≤ k := by
  induction u using Nat.strongRecOn with
  | ind u ih =>
    intro k hk hu
    rw [Lib.decDigits]
    by_cases h : u < 10
    · rw [dif_pos h]; simpa using hk
    · rw [dif_neg h]
      match k, hk with
      | 1, _ => simp at hu; omega
      | k + 2, _ =>
        have := ih (u / 10) (by omega) (k + 1) (by omega) (by rw [Nat.pow_succ] at hu; omega)
        simp
        omega
theorem digB_range {c : UInt8} (h : digB c = true) : 48 ≤ c.toNat ∧ c.toNat ≤ 57 := by
  simp only [digB, Bool.and_eq_true, decide_eq_true_eq] at h; omega
theorem dec_back : ∀ (n : Nat) (l : List UInt8), l.length = n → l.all digB = true → l ≠ [] → (l.length = 1 ∨ l.head? ≠ some 48) → 0 ≤ valD l ∧ Lib.decDigits (valD l).toNat = l
  | 0, l, hn, _, hne, _ => absurd (List.eq_nil_of_length_eq_zero hn) hne
  | n + 1, l, hn, ha, hne, hz => by
    obtain ⟨l', c, rfl⟩ : ∃ l' c, l = l' ++ [c] := ⟨l.dropLast, l.getLast hne, (List.dropLast_concat_getLast hne).symm⟩
    simp only [List.all_append, List.all_cons, List.all_nil, Bool.and_true, Bool.and_eq_true] at ha
    have hc := digB_range ha.2
    simp only [List.length_append, List.length_singleton] at hn
    rw [valD_snoc]
    have hcof : UInt8.ofNat (48 + (c.toNat - 48)) = c := by
      rw [show 48 + (c.toNat - 48) = c.toNat by omega]; simp
    by_cases h0 : l' = []
    · subst h0
      rw [show valD [] = 0 from rfl]
      refine ⟨by omega, ?_⟩
      rw [Lib.decDigits, dif_pos (by omega)]
      rw [show (10 * (0 : Int) + ((c.toNat : Int) - 48)).toNat = c.toNat - 48 by omega, hcof]
      rfl
    · have hh : l'.head? ≠ some 48 := by
        have hl : (l' ++ [c]).length ≠ 1 := by
          have : 0 < l'.length := List.length_pos_iff.2 h0
          simp; omega
        rcases hz with h | h
        · exact absurd h hl
        · cases l' with
          | nil => exact absurd rfl h0
          | cons d r => simpa using h
      obtain ⟨i1, i2⟩ := dec_back n l' (by omega) ha.1 h0 (.inr hh)
      have hpos : 1 ≤ valD l' := by
        by_cases hv : valD l' = 0
        · rw [hv] at i2
          have e : Lib.decDigits (0 : Int).toNat = [48] := by rw [show (0 : Int).toNat = 0 from rfl, Lib.decDigits, dif_pos (by omega)]; rfl
          rw [e] at i2
          rw [← i2] at hh
          exact absurd rfl hh
        · omega
      refine ⟨by omega, ?_⟩
      rw [Lib.decDigits, dif_neg (by omega)]
      rw [show (10 * valD l' + ((c.toNat : Int) - 48)).toNat / 10 = (valD l').toNat by omega, i2, show (10 * valD l' + ((c.toNat : Int) - 48)).toNat % 10 = c.toNat - 48 by omega, hcof]
def numL' (n : Int) : List UInt8 := (num n).data.toList
theorem num_dec {n : Int} (h : 0 ≤ n) : numL' n = Lib.decDigits n.toNat := by
  unfold numL' num Lib.itoa
  rw [if_neg (by omega)]
theorem nd {c0 c : UInt8} (h : digB c0 = false) (hc : some c0 = some c) : digB c = false := by cases hc; exact h
theorem numL_num {n : Int} {l : List UInt8} (h : 0 ≤ n ∧ n ≤ 100000) (hl : ∀ c, l.head? = some c → digB c = false) : numL (numL' n ++ l) = some (n, l) := by
  obtain ⟨d1, d2, d3, d4⟩ := dec_facts n.toNat
  have dl := dec_len n.toNat 6 (by omega) (by simp; omega)
  rw [num_dec h.1]
  have ht : (Lib.decDigits n.toNat ++ l).takeWhile digB = Lib.decDigits n.toNat := by
    rw [List.takeWhile_append_of_pos (fun a ha => List.all_eq_true.1 d1 a ha)]
    have : l.takeWhile digB = [] := by
      cases l with
      | nil => rfl
      | cons c r => simp [List.takeWhile, hl c rfl]
    rw [this, List.append_nil]
  have hlen : 0 < (Lib.decDigits n.toNat).length := List.length_pos_iff.2 d3
  unfold numL
  have hb : badD (Lib.decDigits n.toNat ++ l) = false := by
    unfold badD
    rw [ht]
    simp only [Bool.or_eq_false_iff, decide_eq_false_iff_not, Bool.and_eq_false_iff]
    refine ⟨by omega, by omega, ?_⟩
    by_cases h10 : 10 ≤ n.toNat
    · right
      obtain ⟨c, r, e, hc⟩ := d4 h10
      rw [e]
      simpa using hc
    · left
      rw [Lib.decDigits, dif_pos (by omega)]
      simp
  rw [if_neg (by rw [hb]; simp), ht, List.take_left, List.drop_left, d2]
  congr 2
  omega
theorem numL_lit {n : Int} (c0 : UInt8) (p q : List UInt8) (h : 0 ≤ n ∧ n ≤ 100000) (hd : digB c0 = false) : numL (numL' n ++ ((c0 :: p) ++ q)) = some (n, (c0 :: p) ++ q) := numL_num h fun _ hc => nd hd hc
theorem numL_back {n : Int} {l l' : List UInt8} (h : numL l = some (n, l')) : l = numL' n ++ l' := by
  unfold numL at h
  split at h
  · cases h
  · rename_i hb
    simp only [Option.some.injEq, Prod.mk.injEq] at h
    obtain ⟨h1, h2⟩ := h
    have hp : l.takeWhile digB <+: l := List.takeWhile_prefix _
    have ht : l.take (l.takeWhile digB).length = l.takeWhile digB := (List.prefix_iff_eq_take.1 hp).symm
    rw [ht] at h1
    simp only [badD, Bool.or_eq_true, Bool.and_eq_true, decide_eq_true_eq, not_or, not_and] at hb
    obtain ⟨b1, b2, b3⟩ := hb
    have hne : l.takeWhile digB ≠ [] := fun e => by rw [e] at b1; simp at b1
    have hd := dec_back _ (l.takeWhile digB) rfl List.all_takeWhile hne (by
      by_cases h1 : (l.takeWhile digB).length = 1
      · exact .inl h1
      · right
        have := b3 (by omega)
        intro e
        apply this
        cases l with
        | nil => simp at e
        | cons c r =>
          by_cases hc : digB c = true
          · simp [List.takeWhile, hc] at e; simpa using e
          · simp [List.takeWhile, hc] at e)
    rw [num_dec (by rw [← h1]; exact hd.1), ← h1, hd.2, ← h2]
    have := List.take_append_drop (l.takeWhile digB).length l
    rw [ht] at this
    exact this.symm
theorem expL_app (p l : List UInt8) : expL p (p ++ l) = some l := by
  unfold expL Lib.trimPrefix Lib.hasPrefix
  rw [if_pos (by simp), if_pos (by simp), List.drop_left]
theorem expL_back {p l l' : List UInt8} (h : expL p l = some l') : l = p ++ l' := by
  unfold expL at h
  split at h
  · rename_i hp
    unfold Lib.trimPrefix at h
    rw [if_pos hp] at h
    unfold Lib.hasPrefix at hp
    obtain ⟨r, rfl⟩ := List.isPrefixOf_iff_prefix.1 hp
    rw [List.drop_left] at h
    rw [Option.some.inj h]
  · cases h
theorem index_at : ∀ (t r : List UInt8), (∀ c ∈ t, c ≠ 32) → Lib.indexByte (t ++ 32 :: r) 32 = t.length
  | [], r, _ => by simp [Lib.indexByte]
  | c :: t, r, h => by
    have ih := index_at t r fun d hd => h d (by simp [hd])
    have hc := h c (by simp)
    rw [List.cons_append, Lib.indexByte, if_neg (by simpa using hc), ih, if_neg (by simp)]
    simp
theorem tagL_app {t r : List UInt8} (h : ∀ c ∈ t, c ≠ 32) : tagL (t ++ ([32] ++ r)) = some (t, [32] ++ r) := by
  show tagL (t ++ 32 :: r) = some (t, 32 :: r)
  unfold tagL
  rw [index_at t r h, if_neg (by omega), show ((t.length : Int)).toNat = t.length by omega, List.take_left, List.drop_left]
theorem tagL_back {l t l' : List UInt8} (h : tagL l = some (t, l')) : l = t ++ l' := by
  unfold tagL at h
  split at h
  · cases h
  · simp only [Option.some.injEq, Prod.mk.injEq] at h
    rw [← h.1, ← h.2, List.take_append_drop]
theorem spanL_app {a b : Int} {l : List UInt8} (ha : 0 ≤ a ∧ a ≤ 100000) (hb : 0 ≤ b ∧ b ≤ 100000) (hl : ∀ c, l.head? = some c → digB c = false) : spanL (numL' a ++ ([32] ++ (numL' b ++ l))) = some ((a, b), l) := by
  unfold spanL
  rw [numL_lit 32 _ _ ha (by decide)]
  simp only [Option.bind_some]
  rw [expL_app]
  simp only [Option.bind_some]
  rw [numL_num hb hl]
  rfl
theorem spanL_lit {a b : Int} (c0 : UInt8) (p q : List UInt8) (ha : 0 ≤ a ∧ a ≤ 100000) (hb : 0 ≤ b ∧ b ≤ 100000) (hd : digB c0 = false) : spanL (numL' a ++ ([32] ++ (numL' b ++ ((c0 :: p) ++ q)))) = some ((a, b), (c0 :: p) ++ q) := spanL_app ha hb fun _ hc => nd hd hc
theorem spanL_back {a b : Int} {l l' : List UInt8} (h : spanL l = some ((a, b), l')) : l = numL' a ++ ([32] ++ (numL' b ++ l')) := by
  obtain ⟨l1, l2, h1, h2, h3⟩ := spanL_some h
  rw [numL_back h1, expL_back h2, numL_back h3]
theorem line_tree (t : Tree) : lineL (treeT t) = [116, 114, 101, 101, 32] ++ (t.tag.data.toList ++ ([32] ++ (numL' t.x ++ ([32] ++ (numL' t.y ++ ([32, 103, 105, 114, 116, 104, 32] ++ (numL' t.gl ++ ([32] ++ (numL' t.gh ++ ([32, 99, 114, 111, 119, 110, 32] ++ (numL' t.cr ++ [10]))))))))))) := by
  simp [lineL, treeT, Lib.join, List.intercalate, List.intersperse, numL']
theorem line_head (s : Stand) : lineL (headT s) = [115, 116, 97, 110, 100, 32, 103, 114, 111, 119, 32] ++ (numL' s.lo ++ ([32] ++ (numL' s.hi ++ ([32, 112, 114, 101, 115, 115, 32] ++ (numL' s.press ++ ([32, 110, 101, 97, 114, 32] ++ (numL' s.near ++ [10]))))))) := by
  simp [lineL, headT, Lib.join, List.intercalate, List.intersperse, numL']
theorem word_blank {l : List UInt8} (h : wordB l = true) : ∀ c ∈ l, c ≠ 32 := fun c hc e => by
  simp only [wordB, Bool.and_eq_true, List.all_eq_true] at h
  have := h.2 c hc
  rw [e] at this
  revert this
  decide
theorem treeL_app {t : Tree} (h : treeB t = true) (r : List UInt8) : treeL (lineL (treeT t) ++ r) = some (t, r) := by
  have hn := treeB_nums h
  have hw : wordB t.tag.data.toList = true := by simp only [treeB, Bool.and_eq_true] at h; exact h.1.1.1.1
  obtain ⟨_, n1, n2, n3, n4, n5⟩ := hn
  rw [line_tree]
  simp only [List.append_assoc]
  unfold treeL
  rw [expL_app]
  simp only [Option.bind_some]
  rw [tagL_app (word_blank hw)]
  simp only [Option.bind_some]
  rw [expL_app]
  simp only [Option.bind_some]
  rw [numL_lit 32 _ _ ⟨n1.1, n1.2⟩ (by decide)]
  simp only [Option.bind_some]
  rw [expL_app]
  simp only [Option.bind_some]
  rw [numL_lit 32 _ _ ⟨n2.1, n2.2⟩ (by decide)]
  simp only [Option.bind_some]
  rw [expL_app]
  simp only [Option.bind_some]
  rw [spanL_lit 32 _ _ ⟨n3.1, by omega⟩ ⟨n4.1, by omega⟩ (by decide)]
  simp only [Option.bind_some]
  rw [expL_app]
  simp only [Option.bind_some]
  rw [numL_lit 10 _ _ ⟨n5.1, by omega⟩ (by decide)]
  simp only [Option.bind_some]
  rw [expL_app]
  rfl
theorem treeL_back {l l' : List UInt8} {u : Tree} (h : treeL l = some (u, l')) : l = lineL (treeT u) ++ l' := by
  obtain ⟨t, x, y, gl, gh, cr, L1, L2, L3, L4, L5, L6, L7, L8, L9, L10, rfl, h1, h2, h3, h4, h5, h6, h7, h8, h9, h10, h11⟩ := treeL_some h
  rw [line_tree, expL_back h1, tagL_back h2, expL_back h3, numL_back h4, expL_back h5, numL_back h6, expL_back h7, spanL_back h8, expL_back h9, numL_back h10, expL_back h11]
  simp only [List.append_assoc]
theorem treesL_app : ∀ (ts : List Tree) (f : Nat), (∀ t ∈ ts, treeB t = true) → (linesL ts).length ≤ f → treesL f (linesL ts) = some ts
  | [], f, _, _ => by cases f <;> rfl
  | t :: ts, f, h, hf => by
    have e : linesL (t :: ts) = lineL (treeT t) ++ linesL ts := by simp [linesL]
    rw [e] at hf ⊢
    have ht := treeL_app (h t (by simp)) (linesL ts)
    have hl := treeL_len ht
    match f, hf with
    | 0, hf => omega
    | f + 1, hf =>
      have ih := treesL_app ts f (fun u hu => h u (by simp [hu])) (by omega)
      match hq : lineL (treeT t) ++ linesL ts, ht with
      | [], ht => rw [line_tree] at hq; simp at hq
      | c :: l, ht =>
        rw [treesL, ht]
        simp [ih]
theorem treesL_back : ∀ (ts : List Tree) (f : Nat) (l : List UInt8), treesL f l = some ts → l = linesL ts
  | [], f, l, h => by rw [treesL_nil h]; rfl
  | u :: ts, f, l, h => by
    obtain ⟨f', l', h1, h2⟩ := treesL_step h
    rw [treeL_back h1, treesL_back ts f' l' h2]
    simp [linesL]
theorem read_print {s : Stand} (h : standB s = true) : readL (printL s) = some s := by
  have hc : checkE s = 0 := by unfold checkE; rw [if_pos h]
  obtain ⟨n1, n2, n3, n4, _, ht⟩ := headB_of hc
  unfold printL
  rw [line_head]
  simp only [List.append_assoc]
  unfold readL
  rw [expL_app]
  simp only [Option.bind_some]
  rw [spanL_lit 32 _ _ ⟨n1.1, by omega⟩ ⟨n2.1, by omega⟩ (by decide)]
  simp only [Option.bind_some]
  rw [expL_app]
  simp only [Option.bind_some]
  rw [numL_lit 32 _ _ ⟨n3.1, by omega⟩ (by decide)]
  simp only [Option.bind_some]
  rw [expL_app]
  simp only [Option.bind_some]
  rw [numL_lit 10 _ _ n4 (by decide)]
  simp only [Option.bind_some]
  rw [expL_app]
  simp only [Option.bind_some]
  rw [treesL_app s.ts _ ht (Nat.le_refl _)]
  rfl
theorem print_read {l : List UInt8} {s : Stand} (h : readL l = some s) : l = printL s := by
  obtain ⟨ts, lo, hi, pr, ne, L1, L2, L3, L4, L5, L6, L7, rfl, h1, h2, h3, h4, h5, h6, h7, h8⟩ := readL_some h
  unfold printL
  rw [line_head, expL_back h1, spanL_back h2, expL_back h3, numL_back h4, expL_back h5, numL_back h6, expL_back h7, treesL_back ts _ L7 h8]
  simp only [List.append_assoc]
end Go.Proofs.YtpkjjiieglebbaaDoor
