/- Contracts of the reference's small functions: In, Word, Same, SameTexts. Conditions: lists lie in memory as told; texts fit into memory. -/
import Derived.Test.YtpkjjiieglebbaaDoorWF
namespace Go.Proofs.YtpkjjiieglebbaaDoor
open Go Go.RowKit
set_option maxHeartbeats 400000 in
theorem refIn_any (n a b : Int) (w : World) :
    Calls Tryd.prog 45 #[.int .i64 n, .int .i64 a, .int .i64 b] w fun e w' => e = .returned (.bool (frB n a b)) ∧ w = w' := by
  go_enter Tryd.func45, Tryd.ntmps45
  go_wp2
  all_goals (go_ret; exact ⟨by simp [*, frB] <;> omega, rfl⟩)
/-- What In says of a length from 1 to 16. -/
theorem frB_len (k : Nat) : frB (k : Int) 1 16 = (decide (1 ≤ k) && decide (k ≤ 16)) := by
  unfold frB
  congr 1 <;> simp <;> omega
theorem okB_first {c : UInt8} (h : letB c = true) : okB c = true := by simp [okB, h]
set_option maxHeartbeats 1000000 in
theorem refWord_any (s : ByteArray) (w : World) (hs : s.size ≤ maxLen) :
    Calls Tryd.prog 60 #[.string s] w fun e w' => e = .returned (.bool (wordB s.data.toList)) ∧ w = w' := by
  unfold maxLen at hs
  have hsl := size_len s
  rcases h1 : frB (s.size : Int) 1 16 with _ | _
  · have hf : wordB s.data.toList = false := by
      have := frB_len s.size
      rw [h1] at this
      unfold wordB
      rw [size_len, ← this]; rfl
    have HF := Lib.hid hf; clear hf hsl
    go_enter Tryd.func60, Tryd.ntmps60
    go_wp2_with (go_at_call 45; refine (refIn_any _ _ _ _).mono ?_; rintro e w' ⟨rfl, rfl⟩)
    go_ret; exact ⟨by rw [HF.out]; rfl, rfl⟩
  have h2 := frB_iff.1 h1
  have h3 : 0 < s.size := by omega
  have h16 : s.size ≤ 16 := by omega
  clear h2
  have e0 : s.data.toList.headD 0 = s[0] := by
    rcases s with ⟨⟨_ | ⟨c, l⟩⟩⟩
    · simp [ByteArray.size] at h3
    · rfl
  rcases hL1 : decide ((97 : Int) ≤ (s[0].toNat : Int)) with _ | _
  · have hf : wordB s.data.toList = false := by unfold wordB letB; rw [e0, hL1]; simp
    have HF := Lib.hid hf; clear hf hsl e0
    have hc : (s[0].toNat : Int) < 97 := by simpa using hL1
    clear hL1
    go_enter Tryd.func60, Tryd.ntmps60
    go_wp2_with (go_at_call 45; refine (refIn_any _ _ _ _).mono ?_; rintro e w' ⟨rfl, rfl⟩)
    go_ret; exact ⟨by rw [HF.out]; rfl, rfl⟩
  rcases hL2 : decide ((s[0].toNat : Int) ≤ 122) with _ | _
  · have hf : wordB s.data.toList = false := by unfold wordB letB; rw [e0, hL2]; simp
    have HF := Lib.hid hf; clear hf hsl e0
    have hc1 : 97 ≤ (s[0].toNat : Int) := by simpa using hL1
    have hc : 122 < (s[0].toNat : Int) := by simpa using hL2
    clear hL1 hL2
    go_enter Tryd.func60, Tryd.ntmps60
    go_wp2_with (go_at_call 45; refine (refIn_any _ _ _ _).mono ?_; rintro e w' ⟨rfl, rfl⟩)
    go_ret; exact ⟨by rw [HF.out]; rfl, rfl⟩
  have hL : letB s[0] = true := by unfold letB; rw [hL1, hL2]; rfl
  have hc1 : 97 ≤ (s[0].toNat : Int) := by simpa using hL1
  have hc2 : (s[0].toNat : Int) ≤ 122 := by simpa using hL2
  have hW : wordB s.data.toList = s.data.toList.all okB := by
    unfold wordB; rw [e0, hL, size_len]; simp; intros; omega
  have h0 : (s.data.toList.take 1).all okB = true := by
    rw [all_snoc s 0 h3, okB_first hL]; simp
  have HW := Lib.hid hW; have H0 := Lib.hid h0; clear hW hsl e0 hL hL1 hL2 h0
  go_enter Tryd.func60, Tryd.ntmps60
  go_wp2_with (go_at_call 45; refine (refIn_any _ _ _ _).mono ?_; rintro e w' ⟨rfl, rfl⟩)
  go_loop [3] (fun t => ∃ k : Nat, 1 ≤ k ∧ k ≤ s.size ∧ t = .int .i64 k ∧ Hid ((s.data.toList.take k).all okB = true)) (fun t => s.size - (intOf t).toNat)
  case atStart => exact ⟨1, Nat.le_refl _, by omega, rfl, H0⟩
  case round =>
    obtain ⟨k, hk1, hk, rfl, HK⟩ := hrel
    by_cases hlt : k < s.size
    · have hgo : okB s[k] = true → Hid ((s.data.toList.take (k + 1)).all okB = true) := fun h => Lib.hid (by rw [all_snoc s k hlt, HK.out, h]; rfl)
      have hno : okB s[k] = false → Hid (wordB s.data.toList = false) := fun h => Lib.hid (by rw [HW.out]; exact all_no s k hlt h)
      have hr : ((s[k].toNat : Int) ≤ 44) ∨ ((s[k].toNat : Int) = 45) ∨ (46 ≤ (s[k].toNat : Int) ∧ (s[k].toNat : Int) ≤ 47) ∨ (48 ≤ (s[k].toNat : Int) ∧ (s[k].toNat : Int) ≤ 57) ∨ (58 ≤ (s[k].toNat : Int) ∧ (s[k].toNat : Int) ≤ 96) ∨ (97 ≤ (s[k].toNat : Int) ∧ (s[k].toNat : Int) ≤ 122) ∨ (123 ≤ (s[k].toNat : Int)) := by omega
      rcases hr with hr | hr | ⟨hr, hr2⟩ | ⟨hr, hr2⟩ | ⟨hr, hr2⟩ | ⟨hr, hr2⟩ | hr
      · have ho : okB s[k] = false := by simp [okB, letB, digB]; omega
        have HF := hno ho
        have hm : ((s[k].toNat : Int) != 45) = true := by simp; omega
        clear hno hgo HW ho
        go_wp2_with fail
        go_ret; exact ⟨by rw [HF.out]; rfl, rfl⟩
      · have ho : okB s[k] = true := by simp [okB, letB, digB]; omega
        have HK1 := hgo ho
        have hm : ((s[k].toNat : Int) != 45) = false := by simp; omega
        clear hno hgo HW ho
        go_wp2_with fail
        go_round
        case rel => exact ⟨k + 1, by omega, by omega, by go_num, HK1⟩
        case measure => simp [intOf]; omega
      · have ho : okB s[k] = false := by simp [okB, letB, digB]; omega
        have HF := hno ho
        have hm : ((s[k].toNat : Int) != 45) = true := by simp; omega
        clear hno hgo HW ho
        go_wp2_with fail
        go_ret; exact ⟨by rw [HF.out]; rfl, rfl⟩
      · have ho : okB s[k] = true := by simp [okB, letB, digB]; omega
        have HK1 := hgo ho
        have hm : ((s[k].toNat : Int) != 45) = true := by simp; omega
        clear hno hgo HW ho
        go_wp2_with fail
        go_round
        case rel => exact ⟨k + 1, by omega, by omega, by go_num, HK1⟩
        case measure => simp [intOf]; omega
      · have ho : okB s[k] = false := by simp [okB, letB, digB]; omega
        have HF := hno ho
        have hm : ((s[k].toNat : Int) != 45) = true := by simp; omega
        clear hno hgo HW ho
        go_wp2_with fail
        go_ret; exact ⟨by rw [HF.out]; rfl, rfl⟩
      · have ho : okB s[k] = true := by simp [okB, letB, digB]; omega
        have HK1 := hgo ho
        have hm : ((s[k].toNat : Int) != 45) = true := by simp; omega
        clear hno hgo HW ho
        go_wp2_with fail
        go_round
        case rel => exact ⟨k + 1, by omega, by omega, by go_num, HK1⟩
        case measure => simp [intOf]; omega
      · have ho : okB s[k] = false := by simp [okB, letB, digB]; omega
        have HF := hno ho
        have hm : ((s[k].toNat : Int) != 45) = true := by simp; omega
        clear hno hgo HW ho
        go_wp2_with fail
        go_ret; exact ⟨by rw [HF.out]; rfl, rfl⟩
    · have HA : Hid (wordB s.data.toList = true) := Lib.hid (by rw [HW.out]; exact all_whole s k (by omega) HK.out)
      clear HW
      go_wp2
      go_ret
      exact ⟨by rw [HA.out]; rfl, rfl⟩
set_option maxHeartbeats 1000000 in
theorem same_any (a b : Option Addr) (n c n' c' : Nat) (l m : List Int) (w : World) (hA : IntsAt w a n l) (hB : IntsAt w b n' m) (hn : n ≤ maxLen) (hn' : n' ≤ maxLen) :
    Calls Tryd.prog 17 #[.slice a n c, .slice b n' c'] w fun e w' => e = .returned (.bool (decide (l = m))) ∧ Below w.heap.size w w' := by
  obtain ⟨hl, hA⟩ := hA
  obtain ⟨hm, hB⟩ := hB
  subst hl hm
  unfold maxLen at hn hn'
  have hn1 : l.length ≤ 9223372036854775807 := by omega
  have hn2 : m.length ≤ 9223372036854775807 := by omega
  clear hn hn'
  by_cases hne : l.length = m.length
  case neg =>
    have HF : Hid (decide (l = m) = false) := Lib.hid (by simp only [decide_eq_false_iff_not]; intro e; exact hne (by rw [e]))
    clear hA hB
    go_enter Tryd.func17, Tryd.ntmps17
    go_wp2_with fail
    go_ret; exact ⟨ret_bool HF.out.symm, Below.refl _ _⟩
  have HNE := Lib.hid hne
  have hnz : ((l.length : Int) != (m.length : Int)) = false := by simp; omega
  have HX : Hid (∀ W, Below w.heap.size w W → (l = [] ∨ ∃ b off, a = some ⟨b, off, none⟩ ∧ b < W.heap.size ∧ ∀ (i : Nat) (x : Int), l[i]? = some x → W.cell? ⟨b, off + i, none⟩ = some (.int .i64 x)) ∧ (m = [] ∨ ∃ b' off, b = some ⟨b', off, none⟩ ∧ b' < W.heap.size ∧ ∀ (i : Nat) (x : Int), m[i]? = some x → W.cell? ⟨b', off + i, none⟩ = some (.int .i64 x))) := Lib.hid fun W h =>
    ⟨(IntsAt.below (n := l.length) ⟨rfl, hA⟩ h).2, (IntsAt.below (n := m.length) ⟨rfl, hB⟩ h).2⟩
  clear hA hB hne
  go_enter Tryd.func17, Tryd.ntmps17
  go_wp2_with fail
  go_loopw [5] (fun i wr => ∃ k : Nat, k ≤ l.length ∧ i = .int .i64 k ∧ Hid (l.take k = m.take k) ∧ Below w.heap.size w wr) (fun i _ => l.length - (intOf i).toNat)
  case atStart => exact ⟨0, Nat.zero_le _, rfl, Lib.hid rfl, Below.refl _ _⟩
  case round =>
    obtain ⟨k, hk, rfl, HK, hB⟩ := hrel
    have hlen := HNE.out
    by_cases hlt : k < l.length
    · obtain ⟨x, hx⟩ : ∃ x, l[k]? = some x := ⟨_, List.getElem?_eq_getElem hlt⟩
      obtain ⟨y, hy⟩ : ∃ y, m[k]? = some y := ⟨_, List.getElem?_eq_getElem (by omega)⟩
      obtain ⟨hP, hQ⟩ := HX.out wr hB
      rcases hP with rfl | ⟨p, off, rfl, hpl, hP⟩
      · simp at hlt
      rcases hQ with rfl | ⟨q, off', rfl, hql, hQ⟩
      · simp at hy
      have c0 := hP k x hx
      have c1 := hQ k y hy
      have hmk : (k : Int) < (m.length : Int) := by omega
      rcases hxy : (x != y) with _ | _
      · have HK1 : Hid (l.take (k + 1) = m.take (k + 1)) := Lib.hid (by
          rw [List.take_add_one, List.take_add_one, hx, hy, HK.out]
          simp at hxy; rw [hxy])
        clear hP hQ hx hy hlen
        go_wp2_with fail
        go_quiet (fail)
        go_wp2_with fail
        go_roundw
        case rel => exact ⟨k + 1, by omega, by go_num, HK1, below_drewN hB _⟩
        case measure => simp [intOf]; omega
      · have HF : Hid (decide (l = m) = false) := Lib.hid (by
          simp only [decide_eq_false_iff_not]; intro e
          rw [e, hy] at hx
          simp at hx hxy; exact hxy hx.symm)
        clear hP hQ hx hy hlen
        go_wp2_with fail
        go_quiet (fail)
        go_wp2_with fail
        go_ret; exact ⟨ret_bool HF.out.symm, below_drewN hB _⟩
    · have HF : Hid (decide (l = m) = true) := Lib.hid (by
        simp only [decide_eq_true_eq]
        have := HK.out
        rwa [List.take_of_length_le (by omega), List.take_of_length_le (by omega)] at this)
      clear hlen
      go_wp2_with fail
      go_ret; exact ⟨ret_bool HF.out.symm, hB⟩
end Go.Proofs.YtpkjjiieglebbaaDoor
