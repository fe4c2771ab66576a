/- Contracts of package stand: cmp.Or on codes of errors, the check of a rule, whether two trees are within a distance, how many faces with a girth, the girth after years. Conditions: numbers small enough that nothing wraps round. -/
import Derived.Test.YtpkjjiieglebbaaDoorC
import Derived.Deep.QuietTactic
import Derived.BigQuiet
namespace Go.Proofs.YtpkjjiieglebbaaDoor
open Go.RowKit
set_option maxHeartbeats 400000 in
theorem cmpOr_any (es : List Int) (b n c : Nat) (w : World) (hc : ∀ i, i < es.length → w.cell? ⟨b, i, none⟩ = some (.int .i64 (es[i]?.getD 0))) (hn : es.length = n) (hm : n ≤ 1000) :
    Calls Tryd.prog 53 #[.slice (some ⟨b, 0, none⟩) n c] w fun e w' => e = .returned (.int .i64 (orE es)) ∧ w = w' := by
  subst hn
  go_enter Tryd.func53, Tryd.ntmps53
  go_wp2_with fail
  go_loop [8] (fun i => ∃ k : Nat, k ≤ es.length ∧ i = .int .i64 k ∧ Hid (orE es = orE (es.drop k))) (fun i => es.length - (intOf i).toNat)
  case atStart => exact ⟨0, Nat.zero_le _, rfl, Lib.hid (by simp)⟩
  case round =>
    obtain ⟨k, hk, rfl, HK⟩ := hrel
    by_cases hlt : k < es.length
    · have hck := hc k hlt
      have hst : orE (es.drop k) = if (es[k]?.getD 0) = 0 then orE (es.drop (k + 1)) else es[k]?.getD 0 := by
        rw [List.drop_eq_getElem_cons hlt]; simp [orE, hlt]
      generalize es[k]?.getD 0 = x at hck hst
      rcases hx : (x != 0) with _ | _
      · have HK1 : Hid (orE es = orE (es.drop (k + 1))) := Lib.hid (by rw [HK.out, hst]; simp at hx; simp [hx])
        clear hst HK hc
        go_wp2_with fail
        go_round
        case rel => exact ⟨k + 1, by omega, by go_num, HK1⟩
        case measure => simp [intOf]; omega
      · have HK1 : Hid (orE es = x) := Lib.hid (by rw [HK.out, hst]; simp at hx; simp [hx])
        clear hst HK hc
        go_wp2_with fail
        go_ret
        exact ⟨ret_int HK1.out.symm, rfl⟩
    · have HK1 : Hid (orE es = 0) := Lib.hid (by rw [HK.out, List.drop_of_length_le (by omega)]; rfl)
      clear HK hc
      go_wp2_with fail
      go_ret
      exact ⟨ret_int HK1.out.symm, rfl⟩
theorem index3_0 (a b c : Value) (w : World) : (Instr.index 22 (.agg #[a, b, c]) (.int .i64 0)).run Tryd.prog w = .ok a w := by kernel_rfl
theorem index3_1 (a b c : Value) (w : World) : (Instr.index 22 (.agg #[a, b, c]) (.int .i64 1)).run Tryd.prog w = .ok b w := by kernel_rfl
theorem index3_2 (a b c : Value) (w : World) : (Instr.index 22 (.agg #[a, b, c]) (.int .i64 2)).run Tryd.prog w = .ok c w := by kernel_rfl
set_option maxHeartbeats 1000000 in
theorem checkRule_any (a b c cr : Int) (w : World) :
    Calls Tryd.prog 22 #[.agg #[.int .i64 a, .int .i64 b, .int .i64 c, .int .i64 cr]] w fun e w' => e = .returned (.int .i64 (ruleE ⟨a, b, c, cr⟩)) ∧ Below w.heap.size w w' := by
  have i0 := index3_0 (.int .i64 a) (.int .i64 b) (.int .i64 c)
  have i1 := index3_1 (.int .i64 a) (.int .i64 b) (.int .i64 c)
  have i2 := index3_2 (.int .i64 a) (.int .i64 b) (.int .i64 c)
  rcases h0 : frB cr 0 100 with _ | _
  · have HF : Hid (ruleE ⟨a, b, c, cr⟩ = 11) := Lib.hid (by simp [ruleE, ruleB, h0])
    go_enter Tryd.func22, Tryd.ntmps22
    go_wp2_with (go_at_call 62; refine (isFrom_any _ _ _ _).mono ?_; rintro e w' ⟨rfl, rfl⟩)
    go_ret; exact ⟨ret_int HF.out.symm, (Below.refl _ _).alloc (Nat.le_refl _) _⟩
  go_enter Tryd.func22, Tryd.ntmps22
  go_wp2_with (go_at_call 62; refine (isFrom_any _ _ _ _).mono ?_; rintro e w' ⟨rfl, rfl⟩)
  go_loop [3, 12] (fun l i => (l = .int .i64 1 ∧ i = .int .i64 0) ∨ (l = .int .i64 (a + 1) ∧ i = .int .i64 1 ∧ frB a 1 4000 = true) ∨ (l = .int .i64 (b + 1) ∧ i = .int .i64 2 ∧ frB a 1 4000 = true ∧ frB b (a + 1) 4000 = true) ∨ (l = .int .i64 (c + 1) ∧ i = .int .i64 3 ∧ frB a 1 4000 = true ∧ frB b (a + 1) 4000 = true ∧ frB c (b + 1) 4000 = true)) (fun _ i => 3 - (intOf i).toNat)
  case atStart => exact .inl ⟨rfl, rfl⟩
  case round =>
    rcases hrel with ⟨rfl, rfl⟩ | ⟨rfl, rfl, h1⟩ | ⟨rfl, rfl, h1, h2⟩ | ⟨rfl, rfl, h1, h2, h3⟩
    · rcases h1 : frB a 1 4000 with _ | _
      · have HF : Hid (ruleE ⟨a, b, c, cr⟩ = 11) := Lib.hid (by simp [ruleE, ruleB, h1])
        go_wp2_with (go_at_call 62; refine (isFrom_any _ _ _ _).mono ?_; rintro e w' ⟨rfl, rfl⟩)
        go_ret; exact ⟨ret_int HF.out.symm, (Below.refl _ _).alloc (Nat.le_refl _) _⟩
      · have hb := frB_iff.1 h1
        obtain ⟨hb1, hb2⟩ := hb
        go_wp2_with (go_at_call 62; refine (isFrom_any _ _ _ _).mono ?_; rintro e w' ⟨rfl, rfl⟩)
        go_round
        case rel => exact .inr (.inl ⟨rfl, rfl, trivial⟩)
        case measure => simp [intOf]
    · rcases h2 : frB b (a + 1) 4000 with _ | _
      · have HF : Hid (ruleE ⟨a, b, c, cr⟩ = 11) := Lib.hid (by simp [ruleE, ruleB, h2])
        go_wp2_with (go_at_call 62; refine (isFrom_any _ _ _ _).mono ?_; rintro e w' ⟨rfl, rfl⟩)
        go_ret; exact ⟨ret_int HF.out.symm, (Below.refl _ _).alloc (Nat.le_refl _) _⟩
      · obtain ⟨ha1, ha2⟩ := frB_iff.1 h1
        obtain ⟨hb1, hb2⟩ := frB_iff.1 h2
        go_wp2_with (go_at_call 62; refine (isFrom_any _ _ _ _).mono ?_; rintro e w' ⟨rfl, rfl⟩)
        go_round
        case rel => exact .inr (.inr (.inl ⟨rfl, rfl, h1, trivial⟩))
        case measure => simp [intOf]
    · rcases h3 : frB c (b + 1) 4000 with _ | _
      · have HF : Hid (ruleE ⟨a, b, c, cr⟩ = 11) := Lib.hid (by simp [ruleE, ruleB, h3])
        go_wp2_with (go_at_call 62; refine (isFrom_any _ _ _ _).mono ?_; rintro e w' ⟨rfl, rfl⟩)
        go_ret; exact ⟨ret_int HF.out.symm, (Below.refl _ _).alloc (Nat.le_refl _) _⟩
      · obtain ⟨ha1, ha2⟩ := frB_iff.1 h1
        obtain ⟨hb1, hb2⟩ := frB_iff.1 h2
        obtain ⟨hc1, hc2⟩ := frB_iff.1 h3
        go_wp2_with (go_at_call 62; refine (isFrom_any _ _ _ _).mono ?_; rintro e w' ⟨rfl, rfl⟩)
        go_round
        case rel => exact .inr (.inr (.inr ⟨rfl, rfl, h1, h2, trivial⟩))
        case measure => simp [intOf]
    · have HF : Hid (ruleE ⟨a, b, c, cr⟩ = 0) := Lib.hid (by simp [ruleE, ruleB, h0, h1, h2, h3])
      go_wp2_with (go_at_call 62; refine (isFrom_any _ _ _ _).mono ?_; rintro e w' ⟨rfl, rfl⟩)
      go_ret; exact ⟨ret_int HF.out.symm, (Below.refl _ _).alloc (Nat.le_refl _) _⟩
set_option maxHeartbeats 1000000 in
theorem facesWith_any (tag : ByteArray) (x y gl gh cr rl rh a b c rc g : Int) (w : World) :
    Calls Tryd.prog 93 #[.agg #[.string tag, .int .i64 x, .int .i64 y, .int .i64 gl, .int .i64 gh, .int .i64 cr, .int .i64 rl, .int .i64 rh], .agg #[.int .i64 a, .int .i64 b, .int .i64 c, .int .i64 rc], .int .i64 g] w
      fun e w' => e = .returned (.int .i64 (manyN ⟨a, b, c, rc⟩ cr g)) ∧ Below w.heap.size w w' := by
  have i0 := index3_0 (.int .i64 a) (.int .i64 b) (.int .i64 c)
  have i1 := index3_1 (.int .i64 a) (.int .i64 b) (.int .i64 c)
  have i2 := index3_2 (.int .i64 a) (.int .i64 b) (.int .i64 c)
  by_cases h0 : cr < rc
  · have HF : Hid (manyN ⟨a, b, c, rc⟩ cr g = 0) := Lib.hid (by simp [manyN, h0])
    go_enter Tryd.func93, Tryd.ntmps93
    go_wp2_with fail
    go_ret; exact ⟨ret_int HF.out.symm, ((Below.refl _ _).alloc (Nat.le_refl _) _).alloc (by simp) _⟩
  have HF : Hid (manyN ⟨a, b, c, rc⟩ cr g = (if a ≤ g then 1 else 0) + (if b ≤ g then 1 else 0) + (if c ≤ g then 1 else 0)) := Lib.hid (by simp only [manyN]; rw [if_neg (by omega)])
  go_enter Tryd.func93, Tryd.ntmps93
  go_wp2_with fail
  go_loop [7, 18] (fun f i => ∃ n : Int, f = .int .i64 n ∧ 0 ≤ n ∧ n ≤ 3 ∧ ((i = .int .i64 0 ∧ Hid (n = 0)) ∨ (i = .int .i64 1 ∧ Hid (n = if a ≤ g then 1 else 0)) ∨ (i = .int .i64 2 ∧ Hid (n = (if a ≤ g then 1 else 0) + (if b ≤ g then 1 else 0))) ∨ (i = .int .i64 3 ∧ Hid (n = (if a ≤ g then 1 else 0) + (if b ≤ g then 1 else 0) + (if c ≤ g then 1 else 0))))) (fun _ i => 3 - (intOf i).toNat)
  case atStart => exact ⟨0, rfl, by omega, by omega, .inl ⟨rfl, Lib.hid rfl⟩⟩
  case round =>
    obtain ⟨n, rfl, hn0, hn3, hrel⟩ := hrel
    rcases hrel with ⟨rfl, HN⟩ | ⟨rfl, HN⟩ | ⟨rfl, HN⟩ | ⟨rfl, HN⟩
    · by_cases hg : a ≤ g
      all_goals
        go_wp2_with fail
        go_round
        case rel => exact ⟨_, rfl, by have := HN.out; omega, by have := HN.out; omega, .inr (.inl ⟨rfl, Lib.hid (by have := HN.out; simp [hg]; omega)⟩)⟩
        case measure => simp [intOf]
    · by_cases hg : b ≤ g
      all_goals
        go_wp2_with fail
        go_round
        case rel => exact ⟨_, rfl, by omega, by have := HN.out; split at this <;> omega, .inr (.inr (.inl ⟨rfl, Lib.hid (by have := HN.out; simp [hg]; omega)⟩))⟩
        case measure => simp [intOf]
    · by_cases hg : c ≤ g
      all_goals
        go_wp2_with fail
        go_round
        case rel => exact ⟨_, rfl, by omega, by have := HN.out; split at this <;> split at this <;> omega, .inr (.inr (.inr ⟨rfl, Lib.hid (by have := HN.out; simp [hg]; omega)⟩))⟩
        case measure => simp [intOf]
    · go_wp2_with fail
      go_ret; exact ⟨ret_int (by rw [HF.out]; exact HN.out), ((Below.refl _ _).alloc (Nat.le_refl _) _).alloc (by simp) _⟩
theorem sq_le (p : Int) (h1 : -100000 ≤ p) (h2 : p ≤ 100000) : 0 ≤ p * p ∧ p * p ≤ 10000000000 := by
  constructor
  · rcases Int.le_total 0 p with h | h
    · exact Int.mul_nonneg h h
    · exact Int.mul_nonneg_of_nonpos_of_nonpos h h
  · have h3 : 0 ≤ (100000 - p) * (100000 + p) := Int.mul_nonneg (by omega) (by omega)
    have h4 : (100000 - p) * (100000 + p) = 10000000000 - p * p := by rw [Int.sub_mul, Int.mul_add, Int.mul_add]; omega
    omega
set_option maxHeartbeats 400000 in
theorem isWithin_any (t u : Tree) (d : Int) (w : World) (h1 : 0 ≤ t.x ∧ t.x ≤ 100000 ∧ 0 ≤ t.y ∧ t.y ≤ 100000) (h2 : 0 ≤ u.x ∧ u.x ≤ 100000 ∧ 0 ≤ u.y ∧ u.y ≤ 100000) (h3 : 0 ≤ d ∧ d ≤ 100000) :
    Calls Tryd.prog 91 #[.agg #[.string t.tag, .int .i64 t.x, .int .i64 t.y, .int .i64 t.gl, .int .i64 t.gh, .int .i64 t.cr], .agg #[.string u.tag, .int .i64 u.x, .int .i64 u.y, .int .i64 u.gl, .int .i64 u.gh, .int .i64 u.cr], .int .i64 d] w
      fun e w' => e = .returned (.bool (within t.x t.y u.x u.y d)) ∧ Below w.heap.size w w' := by
  obtain ⟨tag, x, y, gl, gh, cr⟩ := t
  obtain ⟨tag', x', y', gl', gh', cr'⟩ := u
  obtain ⟨a1, a2, a3, a4⟩ := h1
  obtain ⟨b1, b2, b3, b4⟩ := h2
  obtain ⟨d1, d2⟩ := h3
  dsimp only at *
  obtain ⟨q1, q2⟩ := sq_le (x - x') (by omega) (by omega)
  obtain ⟨q3, q4⟩ := sq_le (y - y') (by omega) (by omega)
  obtain ⟨q5, q6⟩ := sq_le d (by omega) (by omega)
  go_enter Tryd.func91, Tryd.ntmps91
  go_wp2_with fail
  go_quiet (fail)
  go_wp2_with fail
  go_ret
  exact ⟨ret_bool (by simp [within]), below_drewN (((Below.refl _ _).alloc (Nat.le_refl _) _).alloc (by simp) _) _⟩
end Go.Proofs.YtpkjjiieglebbaaDoor
