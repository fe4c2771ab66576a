/- Contracts of the reference (how a tree is after an act, where a text is in a list), and what the reference's Follow keeps, act by act, as plain facts. Conditions: states from 0 to 4, acts from 1 to 5; the list lies in memory as told. -/
import Derived.Test.YtcjmfacdjdegkaaDoorQ8
import Derived.Test.YtcjmfacdjdegkaaDoorR3
import Derived.Test.YtcjmfacdjdegkaaDoorR2
import Derived.Test.YtcjmfacdjdegkaaDoorAV
namespace Go.Proofs.YtcjmfacdjdegkaaDoor
open Go Go.RowKit
def thenI (st what : Int) : Int := (thenM st what).getD (-1)
set_option maxHeartbeats 4000000 in
theorem refThen_any (st what : Int) (w : World) (h1 : 0 ≤ st ∧ st ≤ 4) (h2 : 1 ≤ what ∧ what ≤ 5) :
    Calls Tryd.prog 82 #[.int .i64 st, .int .i64 what] w fun e w' => e = .returned (.int .i64 (thenI st what)) ∧ w = w' := by
  obtain rfl | rfl | rfl | rfl | rfl : st = 0 ∨ st = 1 ∨ st = 2 ∨ st = 3 ∨ st = 4 := by omega
  all_goals (obtain rfl | rfl | rfl | rfl | rfl : what = 1 ∨ what = 2 ∨ what = 3 ∨ what = 4 ∨ what = 5 := by omega)
  all_goals
    go_enter Tryd.func82, Tryd.ntmps82
    go_wp2_with fail
    go_ret
    exact ⟨ret_int (by decide), rfl⟩
/-- Where a text is in a list first, or -1. -/
def posOf (ts : List ByteArray) (t : ByteArray) : Nat → Int
  | 0 => -1
  | k + 1 => if posOf ts t k = -1 ∧ (ts[k]?.map fun x => x.data.toList == t.data.toList) = some true then k else posOf ts t k
theorem posOf_range (ts : List ByteArray) (t : ByteArray) : ∀ k, posOf ts t k = -1 ∨ (0 ≤ posOf ts t k ∧ posOf ts t k < k)
  | 0 => .inl rfl
  | k + 1 => by
    unfold posOf
    rcases posOf_range ts t k with h | h
    · split
      · right; omega
      · left; exact h
    · rw [if_neg (by omega)]; right; omega
theorem posOf_none {ts : List ByteArray} {t : ByteArray} : ∀ {k : Nat}, posOf ts t k = -1 → ∀ j x, j < k → ts[j]? = some x → x.data.toList ≠ t.data.toList
  | 0, _, j, _, hj, _ => absurd hj (by omega)
  | k + 1, h, j, x, hj, hx => by
    unfold posOf at h
    split at h
    · omega
    · rename_i hn
      by_cases e : j = k
      · subst e
        intro e2
        exact hn ⟨h, by rw [hx]; show some (x.data.toList == t.data.toList) = some true; rw [e2, beq_self_eq_true]⟩
      · exact posOf_none h j x (by omega) hx
theorem posOf_some {ts : List ByteArray} {t : ByteArray} : ∀ {k : Nat} {j : Nat}, posOf ts t k = j → ∃ x, ts[j]? = some x ∧ x.data.toList = t.data.toList
  | 0, j, h => by unfold posOf at h; omega
  | k + 1, j, h => by
    unfold posOf at h
    split at h
    · rename_i hy
      obtain rfl : k = j := by omega
      obtain ⟨x, hx, e⟩ := Option.map_eq_some_iff.1 hy.2
      exact ⟨x, hx, by simpa using e⟩
    · exact posOf_some h
set_option maxHeartbeats 1000000 in
theorem refAtText_any (a : Option Addr) (n c : Nat) (ts : List ByteArray) (t : ByteArray) (w : World) (hn : n = ts.length) (hn2 : n ≤ 1000) (hA : ts = [] ∨ ∃ b off, a = some ⟨b, off, none⟩ ∧ ∀ (i : Nat) x, ts[i]? = some x → w.cell? ⟨b, off + i, none⟩ = some (.string x)) :
    Calls Tryd.prog 81 #[.slice a n c, .string t] w fun e w' => e = .returned (.int .i64 (posOf ts t ts.length)) ∧ w = w' := by
  subst hn
  have HA := Lib.hid hA
  clear hA
  go_enter Tryd.func81, Tryd.ntmps81
  go_wp2_with fail
  go_loop [5] (fun i => ∃ k : Nat, k ≤ ts.length ∧ i = .int .i64 k ∧ Hid (posOf ts t k = -1)) (fun i => ts.length - (intOf i).toNat)
  case atStart => exact ⟨0, Nat.zero_le _, rfl, Lib.hid rfl⟩
  case round =>
    obtain ⟨k, hk, rfl, HK⟩ := hrel
    by_cases hlt : k < ts.length
    · obtain ⟨x, hx⟩ : ∃ x, ts[k]? = some x := ⟨_, List.getElem?_eq_getElem hlt⟩
      rcases HA.out with rfl | ⟨p, off, rfl, hP⟩
      · simp at hlt
      have c0 := hP k x hx
      have hd1 := Lib.toList_data x
      have hd2 := Lib.toList_data t
      rcases hxy : (x.toList == t.toList) with _ | _
      · have HK1 : Hid (posOf ts t (k + 1) = -1) := Lib.hid (by
          unfold posOf
          rw [if_neg (by rintro ⟨_, h⟩; rw [hx] at h; have h' : some (x.data.toList == t.data.toList) = some true := h; rw [hd1, hd2] at hxy; rw [hxy] at h'; cases h')]
          exact HK.out)
        clear hP hx hd1 hd2
        go_wp2_with fail
        go_round
        case rel => exact ⟨k + 1, by omega, by go_num, HK1⟩
        case measure => simp [intOf]; omega
      · have HM : Hid (posOf ts t ts.length = k) := Lib.hid (by
          have h1 : posOf ts t (k + 1) = k := by
            unfold posOf
            rw [if_pos ⟨HK.out, by rw [hx]; show some (x.data.toList == t.data.toList) = some true; rw [hd1, hd2] at hxy; rw [hxy]⟩]
          have h2 : ∀ d, posOf ts t (k + 1 + d) = k := fun d => by
            induction d with
            | zero => exact h1
            | succ d ih =>
              show posOf ts t (k + 1 + d + 1) = k
              unfold posOf
              rw [if_neg (by omega)]
              exact ih
          have := h2 (ts.length - (k + 1))
          rwa [show k + 1 + (ts.length - (k + 1)) = ts.length by omega] at this)
        clear hP hx hd1 hd2
        go_wp2_with fail
        go_ret; exact ⟨ret_int HM.out.symm, rfl⟩
    · have HM : Hid (posOf ts t ts.length = -1) := Lib.hid (by
        have := HK.out
        rwa [show k = ts.length by omega] at this)
      go_wp2_with fail
      go_ret; exact ⟨ret_int HM.out.symm, rfl⟩
end Go.Proofs.YtcjmfacdjdegkaaDoor
namespace Go.Proofs.YtcjmfacdjdegkaaDoor
open Go Go.RowKit
theorem run_err : ∀ (l : List Act) (i j : Nat) (st st' : Int × Lives) (a : Act), runO (l.take i) st = some st' → l[i]? = some a → stepA a st' = none → runL l j st.1 st.2 = ([], [], j + i, 13)
  | [], i, j, st, st', a, _, ha, _ => by simp at ha
  | x :: r, 0, j, st, st', a, h, ha, hs => by
    obtain rfl : st = st' := Option.some.inj h
    obtain rfl : x = a := by simpa using ha
    rw [runL_step, hs]; rfl
  | x :: r, i + 1, j, st, st', a, h, ha, hs => by
    rw [List.take_succ_cons] at h
    simp only [runO] at h
    cases h1 : stepA x st with
    | none => rw [h1] at h; cases h
    | some s1 =>
      rw [h1] at h
      rw [runL_step, h1]
      dsimp only
      rw [run_err r i (j + 1) s1 st' a h (by simpa using ha) hs, show j + 1 + i = j + (i + 1) by omega]
theorem follow_err {l : List Act} {i : Nat} {st : Int × Lives} {a : Act} (hl : l.length ≤ 256) (h : runO (l.take i) (0, []) = some st) (ha : l[i]? = some a) (hs : stepA a st = none) : followL l = ([], [], i, 13) := by
  unfold followL
  rw [if_neg (by omega), run_err l i 0 (0, []) st a h ha hs, Nat.zero_add]
theorem run_next {l : List Act} {i : Nat} {st st' : Int × Lives} {a : Act} (h : runO (l.take i) (0, []) = some st) (ha : l[i]? = some a) (hs : stepA a st = some st') : runO (l.take (i + 1)) (0, []) = some st' := by
  rw [List.take_add_one, ha, runO_append, h]
  simp [runO, hs]
theorem planted_run : ∀ (n : Nat) (l : List Act), l.length = n → ∀ st, runO l (0, []) = some st → ∀ p ∈ st.2, 0 ≤ p.2.2 ∧ p.2.2 ≤ 36500
  | 0, l, hn, st, h => by
    obtain rfl := List.eq_nil_of_length_eq_zero hn
    obtain rfl : (0, []) = st := Option.some.inj h
    intro p hp; cases hp
  | n + 1, l, hn, st, h => by
    have hne : l ≠ [] := fun e => by rw [e] at hn; simp at hn
    obtain ⟨l', a, rfl⟩ : ∃ l' a, l = l' ++ [a] := ⟨l.dropLast, l.getLast hne, (List.dropLast_concat_getLast hne).symm⟩
    have hl' : l'.length = n := by simpa using hn
    rw [runO_append] at h
    cases h1 : runO l' (0, []) with
    | none => rw [h1] at h; cases h
    | some s1 =>
      rw [h1] at h
      simp only [Option.bind_some, runO] at h
      cases h2 : stepA a s1 with
      | none => rw [h2] at h; cases h
      | some s2 =>
        rw [h2] at h
        obtain rfl : s2 = st := by simpa [runO] using h
        have ih := planted_run n l' hl' s1 h1
        have T := (told_run n l' hl' s1 h1).today
        obtain ⟨hd, _, p, hp, rfl⟩ := step_facts h2
        exact put_planted ih (after_planted hp (life_planted ih _) ⟨by omega, hd.2⟩)
theorem lives_len : ∀ (n : Nat) (l : List Act), l.length = n → ∀ st, runO l (0, []) = some st → st.2.length ≤ n
  | 0, l, hn, st, h => by
    obtain rfl := List.eq_nil_of_length_eq_zero hn
    obtain rfl : (0, []) = st := Option.some.inj h
    exact Nat.le_refl _
  | n + 1, l, hn, st, h => by
    have hne : l ≠ [] := fun e => by rw [e] at hn; simp at hn
    obtain ⟨l', a, rfl⟩ : ∃ l' a, l = l' ++ [a] := ⟨l.dropLast, l.getLast hne, (List.dropLast_concat_getLast hne).symm⟩
    rw [runO_append] at h
    cases h1 : runO l' (0, []) with
    | none => rw [h1] at h; cases h
    | some s1 =>
      rw [h1] at h
      simp only [Option.bind_some, runO] at h
      cases h2 : stepA a s1 with
      | none => rw [h2] at h; cases h
      | some s2 =>
        rw [h2] at h
        obtain rfl : s2 = st := by simpa [runO] using h
        have ih := lives_len n l' (by simpa using hn) s1 h1
        obtain ⟨_, _, p, _, rfl⟩ := step_facts h2
        have := put_len s1.2 a.tag p
        show (putL s1.2 a.tag p).length ≤ n + 1
        omega
/-- A tag that is known: its life is set where it is. -/
theorem put_known {s : Lives} (hn : (s.map (·.1.data.toList)).Nodup) {t : ByteArray} {k : Nat} {p : ByteArray × (Int × Int)} (hp : s[k]? = some p) (hk : p.1.data.toList = t.data.toList) (l : Int × Int) : lifeL s t.data.toList = p.2 ∧ putL s t l = s.set k (p.1, l) := by
  refine ⟨by rw [← hk]; exact life_at hn hp, ?_⟩
  have hkn : knownL s t.data.toList = true := List.any_eq_true.2 ⟨p, List.mem_of_getElem? hp, by simp [isK, hk]⟩
  unfold putL
  rw [if_pos hkn]
  apply List.ext_getElem?
  intro j
  rw [List.getElem?_map, List.getElem?_set]
  by_cases hj : k = j
  · subst hj
    rw [if_pos rfl, hp, Option.map_some, if_pos (show isK t.data.toList p = true by simp only [isK, hk, beq_self_eq_true]), if_pos (List.getElem?_eq_some_iff.1 hp).1]
  · rw [if_neg hj]
    cases hq : s[j]? with
    | none => rfl
    | some q =>
      have hne : isK t.data.toList q = false := by
        simp only [isK, ← hk]
        obtain ⟨h1, e1⟩ := List.getElem?_eq_some_iff.1 hp
        obtain ⟨h2, e2⟩ := List.getElem?_eq_some_iff.1 hq
        rw [beq_eq_false_iff_ne]
        intro e
        have hL : (s.map (·.1.data.toList)).length = s.length := List.length_map _
        rcases Nat.lt_or_gt_of_ne hj with hlt | hlt
        · exact (List.pairwise_iff_getElem.1 hn k j (by omega) (by omega) hlt) (by simp [e1, e2, e])
        · exact (List.pairwise_iff_getElem.1 hn j k (by omega) (by omega) hlt) (by simp [e1, e2, e])
      simp [hne]
theorem put_unknown {s : Lives} {t : ByteArray} (h : ∀ p ∈ s, p.1.data.toList ≠ t.data.toList) (l : Int × Int) : lifeL s t.data.toList = (0, 0) ∧ putL s t l = (s ++ [(t, (0, 0))]).set s.length (t, l) := by
  have hf : s.find? (isK t.data.toList) = none := by
    rw [List.find?_eq_none]
    intro p hp
    simp only [isK, beq_iff_eq]
    exact h p hp
  have hk : ¬ knownL s t.data.toList = true := fun hk => by
    obtain ⟨p, hp, e⟩ := List.any_eq_true.1 hk
    simp only [isK, beq_iff_eq] at e
    exact h p hp e
  refine ⟨by unfold lifeL; rw [hf]; rfl, ?_⟩
  unfold putL
  rw [if_neg hk]
  apply List.ext_getElem?
  intro j
  rw [List.getElem?_set]
  by_cases hj : s.length = j
  · subst hj; simp
  · rw [if_neg hj]
    rcases Nat.lt_or_gt_of_ne hj with hlt | hlt
    · rw [List.getElem?_eq_none (by simp; omega), List.getElem?_eq_none (by simp; omega)]
    · rw [List.getElem?_append_left hlt, List.getElem?_append_left hlt]
theorem map_set_same {s : Lives} {k : Nat} {g : ByteArray} {z : Int × Int} (h : s[k]? = some (g, z)) (z' : Int × Int) : (s.set k (g, z')).map (·.1) = s.map (·.1) := by
  apply List.ext_getElem?
  intro j
  rw [List.getElem?_map, List.getElem?_map, List.getElem?_set]
  by_cases hj : k = j
  · subst hj
    rw [if_pos rfl, if_pos (List.getElem?_eq_some_iff.1 h).1, h]; rfl
  · rw [if_neg hj]
/-- The lives in memory: a tag, how it is, when it was planted. -/
def lifeCells (s : Lives) : List Value := s.flatMap fun p => [.string p.1, .int .i64 p.2.1, .int .i64 p.2.2]
theorem lifeCells_len : ∀ s : Lives, (lifeCells s).length = s.length * 3
  | [] => rfl
  | p :: r => by
    rw [lifeCells, List.flatMap_cons, List.length_append, ← lifeCells, lifeCells_len r]
    simp; omega
theorem lifeCells_snoc (s : Lives) (p : ByteArray × (Int × Int)) : lifeCells (s ++ [p]) = lifeCells s ++ [.string p.1, .int .i64 p.2.1, .int .i64 p.2.2] := by simp [lifeCells]
theorem lifeCells_at : ∀ {s : Lives} {i : Nat} {p : ByteArray × (Int × Int)}, s[i]? = some p → ∀ k, k < 3 → (lifeCells s)[i * 3 + k]? = ([.string p.1, .int .i64 p.2.1, .int .i64 p.2.2] : List Value)[k]?
  | [], _, _, h, _, _ => by cases h
  | u :: r, 0, p, h, k, hk => by
    simp only [List.getElem?_cons_zero, Option.some.injEq] at h
    subst h
    rw [lifeCells, List.flatMap_cons, List.getElem?_append_left (by simp; omega)]
    simp
  | u :: r, i + 1, p, h, k, hk => by
    simp only [List.getElem?_cons_succ] at h
    have ih := lifeCells_at h k hk
    rw [lifeCells, List.flatMap_cons, List.getElem?_append_right (by simp; omega)]
    rw [show (i + 1) * 3 + k - ([.string u.1, .int .i64 u.2.1, .int .i64 u.2.2] : List Value).length = i * 3 + k by simp; omega]
    exact ih
theorem lifeCells_set {s : Lives} {i : Nat} (hi : i < s.length) (p : ByteArray × (Int × Int)) : (((lifeCells s).set (i * 3) (.string p.1)).set (i * 3 + 1) (.int .i64 p.2.1)).set (i * 3 + 2) (.int .i64 p.2.2) = lifeCells (s.set i p) := by
  apply List.ext_getElem?
  intro j
  have hl := lifeCells_len s
  by_cases hj : j < s.length * 3
  · have hs : (s.set i p).length = s.length := by simp
    obtain ⟨q, hq⟩ : ∃ q, (s.set i p)[j / 3]? = some q := ⟨_, List.getElem?_eq_getElem (by omega)⟩
    have h1 := lifeCells_at hq (j % 3) (by omega)
    rw [show j / 3 * 3 + j % 3 = j by omega] at h1
    rw [h1]
    rw [List.getElem?_set] at hq
    simp only [List.getElem?_set, List.length_set]
    by_cases hji : i = j / 3
    · rw [if_pos hji, if_pos hi] at hq
      obtain rfl := Option.some.inj hq
      obtain e | e | e : j % 3 = 0 ∨ j % 3 = 1 ∨ j % 3 = 2 := by omega
      · rw [e, if_neg (by omega), if_neg (by omega), if_pos (by omega), if_pos (by omega)]; rfl
      · rw [e, if_neg (by omega), if_pos (by omega), if_pos (by omega)]; rfl
      · rw [e, if_pos (by omega), if_pos (by omega)]; rfl
    · rw [if_neg hji] at hq
      rw [if_neg (by omega), if_neg (by omega), if_neg (by omega)]
      have h2 := lifeCells_at hq (j % 3) (by omega)
      rw [show j / 3 * 3 + j % 3 = j by omega] at h2
      exact h2
  · rw [List.getElem?_eq_none (by simp only [List.length_set]; omega), List.getElem?_eq_none (by rw [lifeCells_len, List.length_set]; omega)]
end Go.Proofs.YtcjmfacdjdegkaaDoor
