/- Contracts of package stand's worthFrom and checkKept. Conditions: the trees lie in memory as the model says; few of them, of girths that are not below 0. -/
import Derived.Test.YtpkjjiieglebbaaDoorRD
namespace Go.Proofs.YtpkjjiieglebbaaDoor
open Go Go.RowKit
def sumL : List Tree → Int
  | [] => 0
  | t :: r => t.gl + sumL r
def fromL (ts : List Tree) (i : Nat) : Int := sumL (ts.drop i)
theorem sumL_le : ∀ ts : List Tree, (∀ t ∈ ts, 0 ≤ t.gl ∧ t.gl ≤ 4000) → 0 ≤ sumL ts ∧ sumL ts ≤ 4000 * (ts.length : Int)
  | [], _ => by simp [sumL]
  | t :: r, h => by
    have h1 := h t (by simp)
    have h2 := sumL_le r fun u hu => h u (List.mem_cons_of_mem _ hu)
    simp only [sumL, List.length_cons]
    omega
theorem fromL_le (ts : List Tree) (i : Nat) (h : ∀ t ∈ ts, 0 ≤ t.gl ∧ t.gl ≤ 4000) (h14 : ts.length ≤ 14) : 0 ≤ fromL ts i ∧ fromL ts i ≤ 56000 := by
  have := sumL_le (ts.drop i) fun t ht => h t (List.mem_of_mem_drop ht)
  rw [List.length_drop] at this
  unfold fromL
  omega
theorem fromL_at {ts : List Tree} {i : Nat} {t : Tree} (h : ts[i]? = some t) : fromL ts i = t.gl + fromL ts (i + 1) := by
  obtain ⟨hi, rfl⟩ := List.getElem?_eq_some_iff.1 h
  unfold fromL
  rw [List.drop_eq_getElem_cons hi]
  rfl
theorem fromL_end (ts : List Tree) : fromL ts ts.length = 0 := by simp [fromL, sumL]
set_option maxHeartbeats 1000000 in
theorem worthFrom_any (a : Option Addr) (n c : Nat) (ts : List Tree) (w : World) (hT : Trees w a n c ts) (h14 : ts.length ≤ 14) (hgl : ∀ t ∈ ts, 0 ≤ t.gl ∧ t.gl ≤ 4000) :
    Calls Tryd.prog 95 #[.slice a n c] w fun e w' =>
      e = .returned (.slice (some ⟨w.heap.size, 0, none⟩) n n) ∧ (∃ cs : Array Value, cs.size = ts.length ∧ (∀ j, j < ts.length → cs[j]? = some (.int .i64 (fromL ts j))) ∧ Box w' w.heap.size cs 3) ∧ Below w.heap.size w w' := by
  have hT0 := hT
  obtain ⟨hn, hat, htags, hfit, hcap⟩ := hT
  have HN := Lib.hid hn
  have hn14 : n ≤ 14 := by omega
  clear hn
  obtain ⟨i0, hi0, hz0, hz1, hz2⟩ := info_parts info3
  have hmk : ∀ W, (Instr.makeSlice 30 (.int .i64 (n : Int)) (.int .i64 (n : Int))).run Tryd.prog W = .ok (.slice (some ⟨W.heap.size, 0, none⟩) n n) (W.alloc (.cells (madeCells #[.int .i64 0] n) 3)) := fun W => by
    have h := run_make (P := Tryd.prog) W 30 3 i0 (.int .i64 0) (by kernel_rfl) hi0 hz0 .i64 .i64 (n : Int) (n : Int) (by omega) (Int.le_refl _) (by rw [hz2]; omega) (by omega)
    simpa [hz1, Value.cells] using h
  go_enter Tryd.func95, Tryd.ntmps95
  go_wp2_with fail
  have HX : Hid (∀ W, Below w.heap.size w W → Trees W a n c ts) := Lib.hid fun W h => hT0.below h
  clear hT0 hat htags hmk
  go_loopw [4, 5] (fun s i wr => ∃ (k : Nat) (iv : Int) (cs : Array Value), k ≤ n ∧ Hid (iv = (k : Int) - 1) ∧ i = .int .i64 iv ∧ s = .int .i64 (fromL ts k) ∧ cs.size = n ∧ Hid (∀ j, k ≤ j → j < n → cs[j]? = some (.int .i64 (fromL ts j))) ∧ Box wr w.heap.size cs 3 ∧ Below w.heap.size w wr)
    (fun _ i _ => (intOf i + 1).toNat)
  case atStart => exact ⟨n, _, _, Nat.le_refl _, Lib.hid rfl, rfl, by rw [HN.out, fromL_end], size_madeCells _ _, Lib.hid (fun j h1 h2 => by omega), Box.new _ _ _, (Below.refl _ _).alloc (Nat.le_refl _) _⟩
  case round =>
    obtain ⟨k, iv, cs, hk, hiv, rfl, rfl, hcs, HC, hbx, hB⟩ := hrel
    rcases k with _ | m
    · have hiv' := hiv.out
      obtain rfl : iv = -1 := by simpa using hiv'
      clear hiv hiv'
      go_wp2_with fail
      go_ret
      exact ⟨rfl, ⟨cs, by rw [hcs, HN.out], fun j hj => HC.out j (Nat.zero_le _) (by rw [HN.out]; exact hj), hbx⟩, hB⟩
    · have hiv' := hiv.out
      obtain rfl : iv = (m : Int) := by simpa using hiv'
      clear hiv hiv'
      have hHN := HN.out
      obtain ⟨t, ht⟩ : ∃ t, ts[m]? = some t := ⟨_, List.getElem?_eq_getElem (by omega)⟩
      obtain ⟨_, tat, _, _, _⟩ := HX.out wr hB
      rcases tat with rfl | ⟨b, off, rfl, hbl, hTA⟩
      · simp at ht
      obtain ⟨c0, c1, c2, c3, c4, c5⟩ := hTA m t ht
      have hsum := fromL_le ts (m + 1) hgl h14
      have hg := hgl t (List.mem_of_getElem? ht)
      have HF := Lib.hid (fromL_at ht)
      obtain ⟨fr, hfr⟩ : ∃ fr, fr = fromL ts (m + 1) := ⟨_, rfl⟩
      rw [← hfr] at HF hsum ⊢
      obtain ⟨s1, s2⟩ := hsum
      obtain ⟨g1, g2⟩ := hg
      have HH := Lib.hid hHN
      clear hTA ht hgl hHN
      have d0 : wr.cell? ⟨w.heap.size, m, none⟩ = some (cs[m]'(by omega)) := by rw [hbx.cell m]; exact Array.getElem?_eq_getElem _
      have d1 : wr.frozen? ⟨w.heap.size, m, none⟩ = false := hbx.free m
      go_wp2_with fail
      go_roundw
      case rel => exact ⟨m, _, _, by omega, Lib.hid rfl, rfl, by rw [HF.out, hfr, Int.add_comm], by rw [Array.size_setIfInBounds, hcs], Lib.hid (fun j h1 h2 => by
        rw [Array.getElem?_setIfInBounds]
        by_cases hj : m = j
        · subst hj
          rw [if_pos rfl, if_pos (by omega), HF.out, hfr, Int.add_comm]
        · rw [if_neg hj]
          exact HC.out j (by omega) h2), hbx.set m _, hB.setCell (by simp) _⟩
      case measure => simp [intOf]
/-- Which code of an error a list of trees has, from the least index that it may begin with on. -/
def keptE (n : Int) : Int → List Int → Int
  | _, [] => 0
  | least, k :: r => if frB k least (n - 1) then keptE n (k + 1) r else 12
def IntsAt (w : World) (a : Option Addr) (n : Nat) (l : List Int) : Prop :=
  n = l.length ∧ (l = [] ∨ ∃ b off, a = some ⟨b, off, none⟩ ∧ b < w.heap.size ∧ ∀ (i : Nat) (x : Int), l[i]? = some x → w.cell? ⟨b, off + i, none⟩ = some (.int .i64 x))
theorem IntsAt.below {w w' : World} {a : Option Addr} {n : Nat} {l : List Int} (h : IntsAt w a n l) (hb : Below w.heap.size w w') : IntsAt w' a n l :=
  ⟨h.1, h.2.imp id fun ⟨b, off, e, hl, hc⟩ => ⟨b, off, e, Nat.lt_of_lt_of_le hl hb.size, fun i x hx => (hb.cell (by exact hl)).trans (hc i x hx)⟩⟩
set_option maxHeartbeats 1000000 in
theorem checkKept_any (a ka : Option Addr) (n c kn kc : Nat) (l : List Int) (lo hi pr ne : Int) (w : World) (hn : n ≤ 9223372036854775807) (hl : ∀ x ∈ l, -9223372036854775808 ≤ x ∧ x ≤ 9223372036854775807) (hm : kn ≤ maxLen) (hK : IntsAt w ka kn l) :
    Calls Tryd.prog 79 #[.agg #[.slice a n c, .int .i64 lo, .int .i64 hi, .int .i64 pr, .int .i64 ne], .slice ka kn kc] w
      fun e w' => e = .returned (.int .i64 (keptE n 0 l)) ∧ Below w.heap.size w w' := by
  have hK0 := hK
  obtain ⟨hkn, _⟩ := hK
  subst hkn
  have hm' : l.length ≤ 9223372036854775807 := by unfold maxLen at hm; omega
  have HX : Hid (∀ W, Below (w.heap.size + 1) (w.alloc (.cells #[.slice a n c, .int .i64 lo, .int .i64 hi, .int .i64 pr, .int .i64 ne] 29)) W → IntsAt W ka l.length l ∧ Box W w.heap.size #[.slice a n c, .int .i64 lo, .int .i64 hi, .int .i64 pr, .int .i64 ne] 29 ∧ Below w.heap.size w W) := Lib.hid fun W h => by
    have hB : Below w.heap.size w W := ((Below.refl _ w).alloc (Nat.le_refl _) _).trans (h.mono (by omega))
    exact ⟨hK0.below hB, (Box.new w _ _).below h (by omega), hB⟩
  clear hK0
  go_enter Tryd.func79, Tryd.ntmps79
  go_wp2_with fail
  go_loopw [5, 10] (fun s i wr => ∃ (k : Nat) (sv : Int), k ≤ l.length ∧ 0 ≤ sv ∧ sv ≤ n ∧ i = .int .i64 k ∧ s = .int .i64 sv ∧ Hid (keptE n 0 l = keptE n sv (l.drop k)) ∧ Below (w.heap.size + 1) (w.alloc (.cells #[.slice a n c, .int .i64 lo, .int .i64 hi, .int .i64 pr, .int .i64 ne] 29)) wr)
    (fun _ i _ => l.length - (intOf i).toNat)
  case atStart => exact ⟨0, 0, Nat.zero_le _, by omega, by omega, rfl, rfl, Lib.hid rfl, Below.refl _ _⟩
  case round =>
    obtain ⟨k, sv, hk, s1, s2, rfl, rfl, HE, hB⟩ := hrel
    obtain ⟨hI, hbx, hB0⟩ := HX.out wr hB
    by_cases hlt : k < l.length
    · obtain ⟨x, hx⟩ : ∃ x, l[k]? = some x := ⟨_, List.getElem?_eq_getElem hlt⟩
      obtain ⟨x1, x2⟩ := hl x (List.mem_of_getElem? hx)
      rcases hI.2 with rfl | ⟨b, off, rfl, hbl, hcc⟩
      · simp at hlt
      have c0 := hcc k x hx
      have e0 : wr.cell? ⟨w.heap.size, 0, none⟩ = some (.slice a n c) := hbx.cell 0
      have HS : Hid (keptE n sv (l.drop k) = if frB x sv (n - 1) then keptE n (x + 1) (l.drop (k + 1)) else 12) := Lib.hid (by
        rw [List.drop_eq_getElem_cons hlt]
        rw [List.getElem?_eq_getElem hlt] at hx
        simp only [Option.some.injEq] at hx
        rw [hx]; rfl)
      clear hcc hI hx hl
      rcases hf : frB x sv ((n : Int) - 1) with _ | _
      · have HS1 : Hid (keptE n 0 l = 12) := Lib.hid (by rw [HE.out, HS.out, hf]; rfl)
        clear HE HS
        go_wp2_with (go_at_call 62; refine (isFrom_any _ _ _ _).mono ?_; rintro e w' ⟨rfl, rfl⟩)
        go_ret
        exact ⟨by rw [HS1.out]; rfl, hB0⟩
      · have HS1 : Hid (keptE n 0 l = keptE n (x + 1) (l.drop (k + 1))) := Lib.hid (by rw [HE.out, HS.out, hf]; rfl)
        have hf' := frB_iff.1 hf
        obtain ⟨f1, f2⟩ := hf'
        clear HE HS
        go_wp2_with (go_at_call 62; refine (isFrom_any _ _ _ _).mono ?_; rintro e w' ⟨rfl, rfl⟩)
        go_roundw
        case rel => exact ⟨k + 1, x + 1, by omega, by omega, by omega, by go_num, rfl, HS1, hB⟩
        case measure => simp [intOf]; omega
    · have hk' : k = l.length := by omega
      have HS1 : Hid (keptE n 0 l = 0) := Lib.hid (by rw [HE.out, hk', List.drop_length]; rfl)
      clear HE
      go_wp2_with fail
      go_ret
      exact ⟨by rw [HS1.out]; rfl, hB0⟩
end Go.Proofs.YtpkjjiieglebbaaDoor
