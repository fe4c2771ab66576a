/- Histories: the acts in front of a place are one, too; whoever is tapped was planted at least 1000 days before; who can be planted, and felled, at the end. Conditions: none; nothing of the program stands here. -/
import Derived.Test.YtcjmfacdjdegkaaDoorFO
namespace Go.Proofs.YtcjmfacdjdegkaaDoor
open Go Go.RowKit
def stepA (a : Act) (st : Int × Lives) : Option (Int × Lives) :=
  if (frB a.day st.1 36500 && wordB a.tag.data.toList) = true then (afterM (lifeL st.2 a.tag.data.toList).1 (lifeL st.2 a.tag.data.toList).2 a.day a.what).map fun l => (a.day, putL st.2 a.tag l) else none
def runO : List Act → Int × Lives → Option (Int × Lives)
  | [], st => some st
  | a :: r, st => (stepA a st).bind (runO r)
theorem runL_step (a : Act) (r : List Act) (i : Nat) (st : Int × Lives) : runL (a :: r) i st.1 st.2 = match stepA a st with
    | none => ([], [], i, 13)
    | some st' => runL r (i + 1) st'.1 st'.2 := by
  unfold stepA
  rw [runL]
  by_cases h : (frB a.day st.1 36500 && wordB a.tag.data.toList) = true
  · rw [if_pos h, if_pos h]
    cases afterM (lifeL st.2 a.tag.data.toList).1 (lifeL st.2 a.tag.data.toList).2 a.day a.what <;> rfl
  · rw [if_neg h, if_neg h]
theorem runO_append : ∀ (a b : List Act) (st : Int × Lives), runO (a ++ b) st = (runO a st).bind (runO b)
  | [], _, _ => rfl
  | x :: a, b, st => by
    simp only [List.cons_append, runO]
    cases stepA x st with
    | none => rfl
    | some st' => simp [runO_append a b st']
theorem run_some : ∀ (l : List Act) (i : Nat) (st st' : Int × Lives), runO l st = some st' → runL l i st.1 st.2 = (st'.2.map (·.1), st'.2.map (·.2.1), i + l.length, 0)
  | [], i, st, st', h => by
    obtain rfl : st = st' := Option.some.inj h
    simp [runL]
  | a :: r, i, st, st', h => by
    rw [runL_step]
    simp only [runO] at h
    cases hs : stepA a st with
    | none => rw [hs] at h; cases h
    | some s1 =>
      rw [hs] at h
      dsimp only
      rw [run_some r (i + 1) s1 st' h]
      simp; omega
theorem run_none : ∀ (l : List Act) (i : Nat) (st : Int × Lives), runO l st = none → ∃ k, k < l.length ∧ runL l i st.1 st.2 = ([], [], i + k, 13) ∧ (∃ st', runO (l.take k) st = some st') ∧ runL (l.take (k + 1)) i st.1 st.2 = ([], [], i + k, 13)
  | [], i, st, h => by cases h
  | a :: r, i, st, h => by
    simp only [runO] at h
    cases hs : stepA a st with
    | none =>
      refine ⟨0, by simp, ?_, ⟨st, rfl⟩, ?_⟩
      · rw [runL_step, hs]; rfl
      · rw [List.take_succ_cons, runL_step, hs]; rfl
    | some s1 =>
      rw [hs] at h
      obtain ⟨k, h1, h2, ⟨st', h3⟩, h4⟩ := run_none r (i + 1) s1 h
      refine ⟨k + 1, by simp; omega, ?_, ⟨st', ?_⟩, ?_⟩
      · rw [runL_step, hs]
        dsimp only
        rw [h2, show i + 1 + k = i + (k + 1) by omega]
      · rw [List.take_succ_cons]
        simp only [runO, hs, Option.bind_some]
        exact h3
      · rw [List.take_succ_cons, runL_step, hs]
        dsimp only
        rw [h4, show i + 1 + k = i + (k + 1) by omega]
theorem runO_take {l : List Act} {st st' : Int × Lives} (h : runO l st = some st') (m : Nat) : ∃ s1, runO (l.take m) st = some s1 ∧ runO (l.drop m) s1 = some st' := by
  have h2 := runO_append (l.take m) (l.drop m) st
  rw [List.take_append_drop, h] at h2
  cases h3 : runO (l.take m) st with
  | none => rw [h3] at h2; cases h2
  | some s1 => rw [h3] at h2; exact ⟨s1, rfl, h2.symm⟩
/-- The day of the last planting of a tag, or -1. -/
def plantedTo (l : List Act) (t : List UInt8) : Int := l.foldl (fun pl a => if (a.tag.data.toList == t && a.what == 1) = true then a.day else pl) (-1)
theorem planted_snoc (l : List Act) (a : Act) (t : List UInt8) : plantedTo (l ++ [a]) t = if (a.tag.data.toList == t && a.what == 1) = true then a.day else plantedTo l t := by
  unfold plantedTo; rw [List.foldl_append]; rfl
theorem then_cases {st what t : Int} (h : thenM st what = some t) : (what = 1 ∧ st = 0 ∧ t = 1) ∨ (what = 2 ∧ (st = 1 ∨ st = 2 ∨ st = 3) ∧ t = 2) ∨ (what = 3 ∧ st = 2 ∧ t = 3) ∨ (what = 4 ∧ (st = 1 ∨ st = 2 ∨ st = 3) ∧ t = 4) ∨ (what = 5 ∧ (st = 1 ∨ st = 2 ∨ st = 3 ∨ st = 4) ∧ t = 0) := by
  unfold thenM at h
  obtain ⟨c, hc, rfl⟩ := Option.map_eq_some_iff.1 h
  have hm := List.mem_of_find?_eq_some hc
  have hb := List.find?_some hc
  simp only [chgB, Bool.and_eq_true, beq_iff_eq] at hb
  simp only [chgL, List.mem_cons, List.not_mem_nil, or_false] at hm
  rcases hm with rfl | rfl | rfl | rfl | rfl | rfl | rfl | rfl | rfl | rfl | rfl | rfl <;> (dsimp only at hb ⊢; omega)
/-- What holds of the lives after acts. -/
structure Told (l : List Act) (st : Int × Lives) : Prop where
  nodup : (st.2.map (·.1.data.toList)).Nodup
  today : 0 ≤ st.1 ∧ st.1 ≤ 36500
  last : ∀ a, l.getLast? = some a → st.1 = a.day
  some_ : l ≠ [] → st.2 ≠ []
  words : ∀ p ∈ st.2, wordB p.1.data.toList = true ∧ 0 ≤ p.2.1 ∧ p.2.1 ≤ 4
  fits : ∀ p ∈ st.2, ∃ a ∈ l, p.1 = a.tag
  pl : ∀ t, (lifeL st.2 t).1 ≠ 0 → plantedTo l t = (lifeL st.2 t).2 ∧ 0 ≤ plantedTo l t
theorem told_nil : Told [] (0, []) := ⟨by simp, by omega, (fun a h => by simp at h), (fun h => absurd rfl h), (fun p h => by cases h), (fun p h => by cases h), (fun t h => absurd rfl h)⟩
theorem life_range {l : List Act} {st : Int × Lives} (h : Told l st) (t : List UInt8) : 0 ≤ (lifeL st.2 t).1 ∧ (lifeL st.2 t).1 ≤ 4 := by
  unfold lifeL
  cases hf : st.2.find? (isK t) with
  | none => simp
  | some p => exact (h.words p (List.mem_of_find?_eq_some hf)).2
theorem step_facts {a : Act} {st st' : Int × Lives} (h : stepA a st = some st') : (st.1 ≤ a.day ∧ a.day ≤ 36500) ∧ wordB a.tag.data.toList = true ∧ ∃ p, afterM (lifeL st.2 a.tag.data.toList).1 (lifeL st.2 a.tag.data.toList).2 a.day a.what = some p ∧ st' = (a.day, putL st.2 a.tag p) := by
  unfold stepA at h
  split at h
  · rename_i hc
    simp only [Bool.and_eq_true, frB_iff] at hc
    obtain ⟨p, h1, h2⟩ := Option.map_eq_some_iff.1 h
    exact ⟨hc.1, hc.2, p, h1, h2.symm⟩
  · cases h
theorem told_step {l : List Act} {a : Act} {st st' : Int × Lives} (H : Told l st) (h : stepA a st = some st') : Told (l ++ [a]) st' := by
  obtain ⟨hd, hw, p, hp, rfl⟩ := step_facts h
  have hr := life_range H a.tag.data.toList
  have hp' := hp
  unfold afterM at hp
  split at hp
  · cases hp
  rename_i hno
  obtain ⟨t0, ht0, rfl⟩ := Option.map_eq_some_iff.1 hp
  have hcs := then_cases ht0
  have ht04 : 0 ≤ t0 ∧ t0 ≤ 4 := by omega
  have htd := H.today
  refine ⟨put_nodup H.nodup, ⟨by dsimp only; omega, hd.2⟩, fun b hb => ?_, fun _ => ?_, fun q hq => ?_, fun q hq => ?_, fun t ht => ?_⟩
  · rw [List.getLast?_concat] at hb
    cases hb; rfl
  · intro e
    have e' : putL st.2 a.tag (t0, if a.what = 1 then a.day else (lifeL st.2 a.tag.data.toList).2) = [] := e
    unfold putL at e'
    split at e'
    · rename_i hk
      have : st.2 = [] := by simpa using e'
      rw [this] at hk
      simp [knownL] at hk
    · simp at e'
  · dsimp only at hq
    unfold putL at hq
    split at hq
    · obtain ⟨x, hx, rfl⟩ := List.mem_map.1 hq
      have hxw := H.words x hx
      split
      · exact ⟨hxw.1, ht04⟩
      · exact hxw
    · rcases List.mem_append.1 hq with hq | hq
      · exact H.words q hq
      · rw [List.mem_singleton] at hq; subst hq; exact ⟨hw, ht04⟩
  · dsimp only at hq
    unfold putL at hq
    split at hq
    · obtain ⟨x, hx, rfl⟩ := List.mem_map.1 hq
      obtain ⟨b, hb, e⟩ := H.fits x hx
      refine ⟨b, by simp [hb], ?_⟩
      split <;> exact e
    · rcases List.mem_append.1 hq with hq | hq
      · obtain ⟨b, hb, e⟩ := H.fits q hq
        exact ⟨b, by simp [hb], e⟩
      · rw [List.mem_singleton] at hq; subst hq; exact ⟨a, by simp, rfl⟩
  · dsimp only at ht ⊢
    rw [life_put] at ht ⊢
    rw [planted_snoc]
    by_cases e : t = a.tag.data.toList
    · subst e
      rw [if_pos rfl] at ht ⊢
      dsimp only at ht ⊢
      by_cases h1 : a.what = 1
      · rw [if_pos h1, if_pos (by simp [h1])]
        exact ⟨rfl, by omega⟩
      · rw [if_neg h1, if_neg (by simp [h1])]
        exact H.pl _ (by omega)
    · rw [if_neg e] at ht ⊢
      rw [if_neg (by simp only [Bool.and_eq_true, beq_iff_eq]; rintro ⟨e2, _⟩; exact e e2.symm)]
      exact H.pl t ht
theorem told_run : ∀ (n : Nat) (l : List Act), l.length = n → ∀ st, runO l (0, []) = some st → Told l st
  | 0, l, hn, st, h => by
    obtain rfl := List.eq_nil_of_length_eq_zero hn
    obtain rfl : (0, []) = st := Option.some.inj h
    exact told_nil
  | n + 1, l, hn, st, h => by
    have hne : l ≠ [] := fun e => by rw [e] at hn; simp at hn
    obtain ⟨l', a, rfl⟩ : ∃ l' a, l = l' ++ [a] := ⟨l.dropLast, l.getLast hne, (List.dropLast_concat_getLast hne).symm⟩
    rw [runO_append] at h
    cases h1 : runO l' (0, []) with
    | none => rw [h1] at h; cases h
    | some s1 =>
      rw [h1] at h
      simp only [Option.bind_some, runO] at h
      cases h2 : stepA a s1 with
      | none => rw [h2] at h; cases h
      | some s2 =>
        rw [h2] at h
        obtain rfl : s2 = st := by simpa [runO] using h
        exact told_step (told_run n l' (by simpa using hn) s1 h1) h2
/-- Who is tapped was planted at least 1000 days before. -/
theorem open_facts {l : List Act} {st : Int × Lives} (h : runO l (0, []) = some st) {i : Nat} {a : Act} (ha : l[i]? = some a) (hw : a.what = 2) : 0 ≤ plantedTo (l.take i) a.tag.data.toList ∧ plantedTo (l.take i) a.tag.data.toList + 1000 ≤ a.day ∧ a.day ≤ 36500 := by
  obtain ⟨hi, e⟩ := List.getElem?_eq_some_iff.1 ha
  obtain ⟨s1, h1, h2⟩ := runO_take h i
  rw [List.drop_eq_getElem_cons hi, e] at h2
  simp only [runO] at h2
  cases hs : stepA a s1 with
  | none => rw [hs] at h2; cases h2
  | some s2 =>
    have T := told_run _ _ rfl s1 h1
    obtain ⟨hd, _, p, hp, _⟩ := step_facts hs
    unfold afterM at hp
    split at hp
    · cases hp
    rename_i hno
    obtain ⟨t0, ht0, _⟩ := Option.map_eq_some_iff.1 hp
    have hcs := then_cases ht0
    have := T.pl a.tag.data.toList (by omega)
    omega
theorem days_fit {l : List Act} {st : Int × Lives} (h : runO l (0, []) = some st) {i : Nat} {a : Act} (ha : l[i]? = some a) : 0 ≤ a.day ∧ a.day ≤ 36500 := by
  obtain ⟨hi, e⟩ := List.getElem?_eq_some_iff.1 ha
  obtain ⟨s1, h1, h2⟩ := runO_take h i
  rw [List.drop_eq_getElem_cons hi, e] at h2
  simp only [runO] at h2
  cases hs : stepA a s1 with
  | none => rw [hs] at h2; cases h2
  | some s2 =>
    have T := (told_run _ _ rfl s1 h1).today
    have := (step_facts hs).1
    omega
/-- An act more, on the last day, of a tree that is told. -/
theorem one_more {l : List Act} {st : Int × Lives} (h : runO l (0, []) = some st) {k : Nat} {p : ByteArray × (Int × Int)} (hp : st.2[k]? = some p) {a : Act} (ha : l.getLast? = some a) :
    ((runO (l ++ [⟨a.day, p.1, 1⟩]) (0, [])).isSome ↔ p.2.1 = 0) ∧ ((runO (l ++ [⟨a.day, p.1, 5⟩]) (0, [])).isSome ↔ p.2.1 ≠ 0) := by
  have T := told_run _ _ rfl st h
  have hl := life_at T.nodup hp
  have hw := T.words p (List.mem_of_getElem? hp)
  have hd := T.last a ha
  have ht := T.today
  have hc : (frB a.day st.1 36500 && wordB p.1.data.toList) = true := by rw [hw.1, Bool.and_true]; exact frB_iff.2 ⟨by omega, by omega⟩
  have key : ∀ what : Int, what ≠ 2 → ((runO (l ++ [⟨a.day, p.1, what⟩]) (0, [])).isSome ↔ (thenM p.2.1 what).isSome) := fun what h2 => by
    rw [runO_append, h]
    simp only [Option.bind_some, runO]
    unfold stepA
    dsimp only
    rw [if_pos hc, hl]
    unfold afterM
    rw [if_neg (by omega)]
    cases thenM p.2.1 what <;> simp
  rw [key 1 (by omega), key 5 (by omega)]
  obtain ⟨h0, h4⟩ := hw.2
  obtain hs | hs | hs | hs | hs : p.2.1 = 0 ∨ p.2.1 = 1 ∨ p.2.1 = 2 ∨ p.2.1 = 3 ∨ p.2.1 = 4 := by omega
  all_goals (rw [hs]; decide)
end Go.Proofs.YtcjmfacdjdegkaaDoor
