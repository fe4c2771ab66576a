/- Contracts of the small tests of package stand: letters, digits, words, numbers from a least to a greatest one, spans, trees. Conditions: a string of a length that fits into memory. -/
import Derived.Test.YtpkjjiieglebbaaDoorProg
import Derived.Test.YtpkjjiieglebbaaDoorM
import Derived.WalkKit
import Derived.WalkSpells
import Derived.WalkLawsBesides
import Derived.Lib.Hide
namespace Go.Proofs.YtpkjjiieglebbaaDoor
open Go.RowKit
set_option maxHeartbeats 400000 in
theorem isLetter_any (c : UInt8) (w : World) :
    Calls Tryd.prog 58 #[.int .u8 (c.toNat : Int)] w fun e w' => e = .returned (.bool (letB c)) ∧ w = w' := by
  go_enter Tryd.func58, Tryd.ntmps58
  go_wp2
  all_goals (go_ret; exact ⟨by simp [*, letB] <;> omega, rfl⟩)
set_option maxHeartbeats 400000 in
theorem isDigit_any (c : UInt8) (w : World) :
    Calls Tryd.prog 59 #[.int .u8 (c.toNat : Int)] w fun e w' => e = .returned (.bool (digB c)) ∧ w = w' := by
  go_enter Tryd.func59, Tryd.ntmps59
  go_wp2
  all_goals (go_ret; exact ⟨by simp [*, digB] <;> omega, rfl⟩)
set_option maxHeartbeats 400000 in
theorem isFrom_any (n a b : Int) (w : World) :
    Calls Tryd.prog 62 #[.int .i64 n, .int .i64 a, .int .i64 b] w fun e w' => e = .returned (.bool (frB n a b)) ∧ w = w' := by
  go_enter Tryd.func62, Tryd.ntmps62
  go_wp2
  all_goals (go_ret; exact ⟨by simp [*, frB] <;> omega, rfl⟩)
set_option maxHeartbeats 400000 in
theorem isSpan_any (lo hi a b : Int) (w : World) :
    Calls Tryd.prog 61 #[.agg #[.int .i64 lo, .int .i64 hi], .int .i64 a, .int .i64 b] w fun e w' => e = .returned (.bool (spanB lo hi a b)) ∧ Below w.heap.size w w' := by
  go_enter Tryd.func61, Tryd.ntmps61
  go_wp2
  all_goals (go_ret; exact ⟨by simp [*, spanB] <;> omega, (Below.refl _ _).alloc (Nat.le_refl _) _⟩)
theorem all_snoc (s : ByteArray) (k : Nat) (h : k < s.size) : (s.data.toList.take (k + 1)).all okB = ((s.data.toList.take k).all okB && okB s[k]) := by
  rw [List.take_succ_eq_append_getElem (by simpa using h)]; simp; rfl
theorem size_len (s : ByteArray) : s.data.toList.length = s.size := by simp
theorem all_whole (s : ByteArray) (k : Nat) (h : s.size ≤ k) (ha : (s.data.toList.take k).all okB = true) : s.data.toList.all okB = true := by
  rwa [List.take_of_length_le (by simpa using h)] at ha
theorem all_no (s : ByteArray) (k : Nat) (h : k < s.size) (ho : okB s[k] = false) : s.data.toList.all okB = false := by
  exact List.all_eq_false.2 ⟨s.data.toList[k]'(by simpa using h), List.getElem_mem _, by rw [show s.data.toList[k]'(by simpa using h) = s[k] from rfl, ho]; simp⟩
set_option maxHeartbeats 400000 in
theorem isWord_any (s : ByteArray) (w : World) (hs : s.size ≤ maxLen) :
    Calls Tryd.prog 18 #[.string s] w fun e w' => e = .returned (.bool (wordB s.data.toList)) ∧ w = w' := by
  unfold maxLen at hs
  have hsl := size_len s
  by_cases h1 : s.size < 1
  · have hf : wordB s.data.toList = false := by simp [wordB]; omega
    have HF := Lib.hid hf; clear hf hsl
    go_enter Tryd.func18, Tryd.ntmps18
    go_wp2_with fail
    go_ret; exact ⟨by rw [HF.out]; rfl, rfl⟩
  by_cases h2 : 16 < s.size
  · have hf : wordB s.data.toList = false := by simp [wordB]; omega
    have HF := Lib.hid hf; clear hf hsl
    go_enter Tryd.func18, Tryd.ntmps18
    go_wp2_with fail
    go_ret; exact ⟨by rw [HF.out]; rfl, rfl⟩
  have h3 : 0 < s.size := by omega
  have e0 : s.data.toList.headD 0 = s[0] := by
    rcases s with ⟨⟨_ | ⟨c, l⟩⟩⟩
    · simp [ByteArray.size] at h3
    · rfl
  rcases hL : letB s[0] with _ | _
  · have hf : wordB s.data.toList = false := by unfold wordB; rw [e0, hL]; simp
    have HF := Lib.hid hf; clear hf hsl e0
    go_enter Tryd.func18, Tryd.ntmps18
    go_wp2_with (first | (go_at_call 58; refine (isLetter_any _ _).mono ?_; rintro e w' ⟨rfl, rfl⟩) | (go_at_call 59; refine (isDigit_any _ _).mono ?_; rintro e w' ⟨rfl, rfl⟩))
    go_ret; exact ⟨by rw [HF.out]; rfl, rfl⟩
  have hW : wordB s.data.toList = s.data.toList.all okB := by
    unfold wordB; rw [e0, hL, size_len]; simp; intros; omega
  have HW := Lib.hid hW; clear hW hsl e0
  go_enter Tryd.func18, Tryd.ntmps18
  go_wp2_with (first | (go_at_call 58; refine (isLetter_any _ _).mono ?_; rintro e w' ⟨rfl, rfl⟩) | (go_at_call 59; refine (isDigit_any _ _).mono ?_; rintro e w' ⟨rfl, rfl⟩))
  go_loop [20] (fun t => ∃ k : Nat, k ≤ s.size ∧ t = .int .i64 k ∧ Hid ((s.data.toList.take k).all okB = true)) (fun t => s.size - (intOf t).toNat)
  case atStart => exact ⟨0, Nat.zero_le _, rfl, Lib.hid (by simp)⟩
  case round =>
    obtain ⟨k, hk, rfl, HK⟩ := hrel
    by_cases hlt : k < s.size
    · have hgo : okB s[k] = true → Hid ((s.data.toList.take (k + 1)).all okB = true) := fun h => Lib.hid (by rw [all_snoc s k hlt, HK.out, h]; rfl)
      have hno : okB s[k] = false → Hid (wordB s.data.toList = false) := fun h => Lib.hid (by rw [HW.out]; exact all_no s k hlt h)
      rcases hl : letB s[k] with _ | _
      · rcases hd : digB s[k] with _ | _
        · rcases hm : (((s[k].toNat : Int)) == 45) with _ | _
          · have HF := hno (by simp [okB, hl, hd, hm])
            have hm' : ((s[k].toNat : Int) != 45) = true := by simpa using hm
            clear hno hgo HW
            go_wp2_with (first | (go_at_call 58; refine (isLetter_any _ _).mono ?_; rintro e w' ⟨rfl, rfl⟩) | (go_at_call 59; refine (isDigit_any _ _).mono ?_; rintro e w' ⟨rfl, rfl⟩))
            go_ret; exact ⟨by rw [HF.out]; rfl, rfl⟩
          · have HK1 := hgo (by simp [okB, hm])
            have hm' : ((s[k].toNat : Int) != 45) = false := by simpa using hm
            clear hno hgo HW
            go_wp2_with (first | (go_at_call 58; refine (isLetter_any _ _).mono ?_; rintro e w' ⟨rfl, rfl⟩) | (go_at_call 59; refine (isDigit_any _ _).mono ?_; rintro e w' ⟨rfl, rfl⟩))
            go_round
            case rel => exact ⟨k + 1, by omega, by go_num, HK1⟩
            case measure => simp [intOf]; omega
        · have HK1 := hgo (by simp [okB, hd])
          clear hno hgo HW
          go_wp2_with (first | (go_at_call 58; refine (isLetter_any _ _).mono ?_; rintro e w' ⟨rfl, rfl⟩) | (go_at_call 59; refine (isDigit_any _ _).mono ?_; rintro e w' ⟨rfl, rfl⟩))
          go_round
          case rel => exact ⟨k + 1, by omega, by go_num, HK1⟩
          case measure => simp [intOf]; omega
      · have HK1 := hgo (by simp [okB, hl])
        clear hno hgo HW
        go_wp2_with (first | (go_at_call 58; refine (isLetter_any _ _).mono ?_; rintro e w' ⟨rfl, rfl⟩) | (go_at_call 59; refine (isDigit_any _ _).mono ?_; rintro e w' ⟨rfl, rfl⟩))
        go_round
        case rel => exact ⟨k + 1, by omega, by go_num, HK1⟩
        case measure => simp [intOf]; omega
    · have HA : Hid (wordB s.data.toList = true) := Lib.hid (by rw [HW.out]; exact all_whole s k (by omega) HK.out)
      clear HW
      go_wp2
      go_ret
      exact ⟨by rw [HA.out]; rfl, rfl⟩
end Go.Proofs.YtpkjjiieglebbaaDoor
