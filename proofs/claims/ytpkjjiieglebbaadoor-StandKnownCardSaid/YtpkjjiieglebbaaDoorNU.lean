/- Contracts of package stand's reader: number. Conditions: a text that fits into memory. -/
import Derived.Test.YtpkjjiieglebbaaDoorTK
namespace Go.Proofs.YtpkjjiieglebbaaDoor
open Go Go.RowKit
def digs (s : ByteArray) : Nat := (s.data.toList.takeWhile digB).length
theorem takeWhile_len {p : UInt8 → Bool} : ∀ (l : List UInt8) (k : Nat), (l.take k).all p = true → (∀ c, l[k]? = some c → p c = false) → k ≤ l.length → (l.takeWhile p).length = k
  | [], k, _, _, hk => by simp at hk; simp [hk]
  | c :: r, 0, _, h2, _ => by
    have := h2 c rfl
    simp [List.takeWhile, this]
  | c :: r, k + 1, h1, h2, hk => by
    simp only [List.take_succ_cons, List.all_cons, Bool.and_eq_true] at h1
    simp only [List.takeWhile, h1.1, List.length_cons]
    rw [takeWhile_len r k h1.2 (fun c hc => h2 c (by simpa using hc)) (by simpa using hk)]
theorem digs_at {s : ByteArray} {k : Nat} (h1 : (s.data.toList.take k).all digB = true) (h2 : k ≤ s.size) (h3 : ∀ h : k < s.size, digB s[k] = false) : k = digs s := by
  unfold digs
  refine (takeWhile_len _ _ h1 (fun c hc => ?_) (by simpa using h2)).symm
  obtain ⟨h, rfl⟩ := List.getElem?_eq_some_iff.1 hc
  exact h3 (by simpa using h)
theorem dig_snoc (s : ByteArray) (k : Nat) (h : k < s.size) : (s.data.toList.take (k + 1)).all digB = ((s.data.toList.take k).all digB && digB s[k]) := by
  rw [List.take_succ_eq_append_getElem (by simpa using h)]; simp; rfl
/-- The number that digits are. -/
def valD (l : List UInt8) : Int := l.foldl (fun n c => 10 * n + ((c.toNat : Int) - 48)) 0
theorem valD_snoc (l : List UInt8) (c : UInt8) : valD (l ++ [c]) = 10 * valD l + ((c.toNat : Int) - 48) := by simp [valD]
theorem valD_go : ∀ (l : List UInt8) (a : Int) (m : Nat), 0 ≤ a → a < 10 ^ m → l.all digB = true → 0 ≤ l.foldl (fun n c => 10 * n + ((c.toNat : Int) - 48)) a ∧ l.foldl (fun n c => 10 * n + ((c.toNat : Int) - 48)) a < 10 ^ (m + l.length)
  | [], a, m, h0, h1, _ => ⟨h0, by simpa using h1⟩
  | c :: r, a, m, h0, h1, h => by
    simp only [List.all_cons, Bool.and_eq_true] at h
    have hc := h.1
    simp only [digB, Bool.and_eq_true, decide_eq_true_eq] at hc
    have := valD_go r (10 * a + ((c.toNat : Int) - 48)) (m + 1) (by omega) (by rw [Int.pow_succ]; omega) h.2
    simp only [List.foldl_cons, List.length_cons]
    rwa [show m + 1 + r.length = m + (r.length + 1) by omega] at this
theorem valD_lt (l : List UInt8) (h : l.all digB = true) (h9 : l.length ≤ 9) : 0 ≤ valD l ∧ valD l < 1000000000 := by
  have := valD_go l 0 0 (Int.le_refl _) (by decide) h
  refine ⟨this.1, Int.lt_of_lt_of_le this.2 ?_⟩
  rw [Nat.zero_add]
  have h2 : (10 : Int) ^ l.length ≤ 10 ^ 9 := by
    obtain ⟨k, hk⟩ := Nat.exists_eq_add_of_le h9
    have h10 : ∀ k : Nat, (1 : Int) ≤ 10 ^ k := fun k => by
      induction k with
      | zero => simp
      | succ k ih => rw [Int.pow_succ]; omega
    rw [hk, Int.pow_add]
    have h1 := h10 k
    have h3 := h10 l.length
    have : (10 : Int) ^ l.length * 1 ≤ 10 ^ l.length * 10 ^ k := Int.mul_le_mul_of_nonneg_left h1 (by omega)
    omega
  exact h2
theorem dig_take (s : ByteArray) : ∀ i, i < digs s → ∃ h : i < s.size, digB s[i] = true := fun i hi => by
  have hp : (s.data.toList.takeWhile digB) <+: s.data.toList := List.takeWhile_prefix _
  have hl : i < s.data.toList.length := Nat.lt_of_lt_of_le hi hp.length_le
  have hs : i < s.size := by simpa using hl
  refine ⟨hs, ?_⟩
  have e : (s.data.toList.takeWhile digB)[i]'hi = s.data.toList[i] := hp.getElem hi
  have hall := List.all_takeWhile (p := digB) (l := s.data.toList)
  have := List.all_eq_true.1 hall _ (List.getElem_mem hi)
  rw [e] at this
  exact this
theorem take_p (Br : Nat) (s : ByteArray) (k : Nat) (w : World) (hs : s.size ≤ maxLen) (hb : Boxed w Br 135 (.string s)) (hk : k ≤ s.size) :
    Calls Tryd.prog 112 #[.pointer (some ⟨Br, 0, none⟩), .int .i64 (k : Int)] w fun e w' =>
      ∃ p : ByteArray, e = .returned (.string p) ∧ p.data.toList = s.data.toList.take k ∧ p.size = k ∧ w' = w.setCell ⟨Br, 0, none⟩ (.string (s.extract k s.size)) := by
  refine (take_any Br s k w hs hb hk).mono ?_
  rintro e w' ⟨rfl, rfl⟩
  exact ⟨_, rfl, by simp, by simp; omega, rfl⟩
theorem p_at {s p : ByteArray} {k i : Nat} (h : p.data.toList = s.data.toList.take k) (hi : i < p.size) (hs : i < s.size) : p[i] = s[i] := by
  have e : p.data.toList[i]? = (s.data.toList.take k)[i]? := by rw [h]
  have hp : i < p.data.toList.length := by simpa using hi
  have hq : i < (s.data.toList.take k).length := by rw [← h]; exact hp
  rw [List.getElem?_eq_getElem hp, List.getElem?_eq_getElem hq, Option.some.injEq, List.getElem_take] at e
  exact e
set_option maxRecDepth 100000 in
set_option maxHeartbeats 1000000 in
theorem number_yes (Br : Nat) (s : ByteArray) (w : World) (hs : s.size ≤ maxLen) (hb : Boxed w Br 135 (.string s)) (h1 : 1 ≤ digs s) (h9 : digs s ≤ 9) (hz : 1 < digs s → ∀ h : 0 < s.size, s[0] ≠ 48) :
    Calls Tryd.prog 103 #[.pointer (some ⟨Br, 0, none⟩)] w fun e w' =>
      e = .returned (.int .i64 (valD (s.data.toList.take (digs s)))) ∧ w' = w.setCell ⟨Br, 0, none⟩ (.string (s.extract (digs s) s.size)) := by
  have c0 := hb.cell
  have hs' : s.size ≤ 9223372036854775807 := by unfold maxLen at hs; omega
  have HB := Lib.hid hb
  clear hb
  go_enter Tryd.func103, Tryd.ntmps103
  go_wp2_with fail
  go_loop [3] (fun t => ∃ k : Nat, k ≤ s.size ∧ t = .int .i64 k ∧ Hid ((s.data.toList.take k).all digB = true)) (fun t => s.size - (intOf t).toNat)
  case atStart => exact ⟨0, Nat.zero_le _, rfl, Lib.hid (by simp)⟩
  case round =>
    obtain ⟨k, hk, rfl, HK⟩ := hrel
    have hend : (∀ h : k < s.size, digB s[k] = false) → Hid (k = digs s) := fun h => Lib.hid (digs_at HK.out hk h)
    have HEND := Lib.hid hend
    clear hend
    rcases hgo : (decide (k < s.size) && digB (s.data.toList.getD k 0)) with _ | _
    rotate_left
    focus
      obtain ⟨hlt, hd⟩ : ∃ h : k < s.size, digB s[k] = true := by
        simp only [Bool.and_eq_true, decide_eq_true_eq] at hgo
        obtain ⟨g1, g2⟩ := hgo
        refine ⟨g1, ?_⟩
        rw [List.getD_eq_getElem?_getD, List.getElem?_eq_getElem (by simpa using g1)] at g2
        exact g2
      clear hgo
      have HK1 : Hid ((s.data.toList.take (k + 1)).all digB = true) := Lib.hid (by rw [dig_snoc s k hlt, HK.out, hd]; rfl)
      go_wp2_with (first | (go_at_call 59; refine (isDigit_any _ _).mono ?_; rintro e w' ⟨rfl, rfl⟩))
      go_round
      case rel => exact ⟨k + 1, by omega, by go_num, HK1⟩
      case measure => simp [intOf]; omega
    have hno : ∀ h : k < s.size, digB s[k] = false := fun h => by
      rw [Bool.and_eq_false_iff] at hgo
      rcases hgo with hgo | hgo
      · simp at hgo; omega
      · rw [List.getD_eq_getElem?_getD, List.getElem?_eq_getElem (by simpa using h)] at hgo
        exact hgo
    have HD := HEND.out hno
    clear hgo HEND
    have kd : k = digs s := HD.out
    have HDT := Lib.hid (dig_take s)
    have hk1 : 1 ≤ k := by omega
    have hk9 : k ≤ 9 := by omega
    have HZ := Lib.hid hz
    have HKD := Lib.hid kd
    clear kd hz h1 h9 HD
    have hk2 : (k : Int) ≤ 1 ∨ 1 < (k : Int) := by omega
    rcases Nat.lt_or_ge k s.size with hlt | hlt <;> rcases hk2 with hk2 | hk2
    all_goals
      go_wp2_with (first
        | (go_at_call 59; refine (isDigit_any _ _).mono ?_; rintro e w' ⟨rfl, rfl⟩)
        | (go_at_call 112; refine (take_p Br s k _ hs HB.out hk).mono ?_; rintro e w' ⟨p, rfl, hp, hpk, rfl⟩; have hz0 : 1 < (k : Int) → ∀ h : 0 < p.size, (((p[0]'h).toNat : Int) == 48) = false := (fun h2 h => by
            have hps := p_at hp h (by omega)
            have := HZ.out (by rw [← HKD.out]; omega) (by omega)
            rw [hps]
            rcases e : (((s[0]'(by omega)).toNat : Int) == 48) with _ | _
            · rfl
            · exact absurd (UInt8.toNat_inj.1 (by have e' : (((s[0]'(by omega)).toNat : Int)) = 48 := (by simpa using e); show _ = 48; omega)) this); have HP := Lib.hid hp; clear hp))
      clear hz0
      go_loop [5, 45] (fun nv iv => ∃ i : Nat, i ≤ k ∧ iv = .int .i64 i ∧ nv = .int .i64 (valD (s.data.toList.take i))) (fun _ iv => k - (intOf iv).toNat)
      case atStart => exact ⟨0, Nat.zero_le _, rfl, by simp [valD]⟩
      case round =>
        obtain ⟨i, hi, rfl, rfl⟩ := hrel
        have hall : (s.data.toList.take i).all digB = true := List.all_eq_true.2 fun c hc => by
          have h2 : c ∈ s.data.toList.take k := (List.take_subset_take_left _ hi) hc
          exact List.all_eq_true.1 HK.out c h2
        have hv := valD_lt _ hall (by rw [List.length_take]; omega)
        by_cases hik : i < k
        · have his : i < s.size := by omega
          have hip : i < p.size := by omega
          have hst : Hid (valD (s.data.toList.take (i + 1)) = 10 * valD (s.data.toList.take i) + ((p[i].toNat : Int) - 48)) := Lib.hid (by
            rw [List.take_succ_eq_append_getElem (by simpa using his), valD_snoc, p_at HP.out hip his]; rfl)
          obtain ⟨v, hvv⟩ : ∃ v, v = valD (s.data.toList.take i) := ⟨_, rfl⟩
          rw [← hvv] at hst hv ⊢
          obtain ⟨v1, v2⟩ := hv
          have hdig : digB p[i] = true := by
            obtain ⟨_, h⟩ := HDT.out i (by rw [← HKD.out]; exact hik)
            rw [p_at HP.out hip his]; exact h
          simp only [digB, Bool.and_eq_true, decide_eq_true_eq] at hdig
          obtain ⟨d1, d2⟩ := hdig
          clear hall
          go_wp2_with fail
          go_round
          case rel => exact ⟨i + 1, by omega, by go_num, by rw [hst.out, hvv]⟩
          case measure => simp [intOf]; omega
        · obtain rfl : i = k := by omega
          go_wp2_with fail
          go_ret
          exact ⟨by rw [← HKD.out]; rfl, by rw [← HKD.out]⟩
set_option maxRecDepth 100000 in
set_option maxHeartbeats 1000000 in
theorem number_no (Br : Nat) (s : ByteArray) (w : World) (hs : s.size ≤ maxLen) (hb : Boxed w Br 135 (.string s)) (hbad : digs s < 1 ∨ 9 < digs s ∨ (1 < digs s ∧ ∃ h : 0 < s.size, s[0] = 48)) :
    Calls Tryd.prog 103 #[.pointer (some ⟨Br, 0, none⟩)] w fun e w' =>
      e = .panicked [{ v := .iface 31 (.int .i64 5), recovered := false }] ∧ w' = w.setCell ⟨Br, 0, none⟩ (.string (s.extract (digs s) s.size)) := by
  have c0 := hb.cell
  have hs' : s.size ≤ 9223372036854775807 := by unfold maxLen at hs; omega
  have HB := Lib.hid hb
  clear hb
  go_enter Tryd.func103, Tryd.ntmps103
  go_wp2_with fail
  go_loop [3] (fun t => ∃ k : Nat, k ≤ s.size ∧ t = .int .i64 k ∧ Hid ((s.data.toList.take k).all digB = true)) (fun t => s.size - (intOf t).toNat)
  case atStart => exact ⟨0, Nat.zero_le _, rfl, Lib.hid (by simp)⟩
  case round =>
    obtain ⟨k, hk, rfl, HK⟩ := hrel
    have hend : (∀ h : k < s.size, digB s[k] = false) → Hid (k = digs s) := fun h => Lib.hid (digs_at HK.out hk h)
    have HEND := Lib.hid hend
    have HBAD := Lib.hid hbad
    clear hend hbad
    rcases hgo : (decide (k < s.size) && digB (s.data.toList.getD k 0)) with _ | _
    rotate_left
    focus
      obtain ⟨hlt, hd⟩ : ∃ h : k < s.size, digB s[k] = true := by
        simp only [Bool.and_eq_true, decide_eq_true_eq] at hgo
        obtain ⟨g1, g2⟩ := hgo
        refine ⟨g1, ?_⟩
        rw [List.getD_eq_getElem?_getD, List.getElem?_eq_getElem (by simpa using g1)] at g2
        exact g2
      clear hgo
      have HK1 : Hid ((s.data.toList.take (k + 1)).all digB = true) := Lib.hid (by rw [dig_snoc s k hlt, HK.out, hd]; rfl)
      go_wp2_with (first | (go_at_call 59; refine (isDigit_any _ _).mono ?_; rintro e w' ⟨rfl, rfl⟩))
      go_round
      case rel => exact ⟨k + 1, by omega, by go_num, HK1⟩
      case measure => simp [intOf]; omega
    have hno : ∀ h : k < s.size, digB s[k] = false := fun h => by
      rw [Bool.and_eq_false_iff] at hgo
      rcases hgo with hgo | hgo
      · simp at hgo; omega
      · rw [List.getD_eq_getElem?_getD, List.getElem?_eq_getElem (by simpa using h)] at hgo
        exact hgo
    have HD := HEND.out hno
    have hcase : (k : Int) < 1 ∨ ((1 ≤ (k : Int) ∧ 9 < (k : Int)) ∨ (1 < (k : Int) ∧ (k : Int) ≤ 9 ∧ ∃ h : 0 < s.size, s[0] = 48)) := by
      have hb := HBAD.out
      have hd := HD.out
      rw [← hd] at hb
      rcases hb with h | h | ⟨h, h2⟩
      · exact .inl (by omega)
      · exact .inr (.inl ⟨by omega, by omega⟩)
      · by_cases h9 : 9 < k
        · exact .inr (.inl ⟨by omega, by omega⟩)
        · exact .inr (.inr ⟨by omega, by omega, h2⟩)
    clear hgo HEND HBAD
    rcases Nat.lt_or_ge k s.size with hlt | hlt <;> rcases hcase with q1 | ⟨q1, q2⟩ | ⟨q1, q2, q3, q4⟩
    all_goals
      try have HQ := Lib.hid q4
      try clear q4
      go_wp2_with (first
        | (go_at_call 59; refine (isDigit_any _ _).mono ?_; rintro e w' ⟨rfl, rfl⟩)
        | (go_at_call 112; refine (take_p Br s k _ hs HB.out hk).mono ?_; rintro e w' ⟨p, rfl, hp, hpk, rfl⟩; have hz0 : ∀ (q : 0 < s.size), Hid (s[0] = 48) → ∀ h : 0 < p.size, (((p[0]'h).toNat : Int) == 48) = true := (fun q h2 h => by
            have hps := p_at hp h q
            rw [hps, h2.out]; rfl); try have hz1 := hz0 q3 HQ; have HP := Lib.hid hp; clear hp hz0))
      exact ⟨rfl, rfl, by rw [← HD.out]⟩
end Go.Proofs.YtpkjjiieglebbaaDoor
