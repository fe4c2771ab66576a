/- The law StandBack says true. Conditions: the trees lie in memory as told; the table of powers of ten holds what the text lays; the chapter's examples hold in each world that comes after. -/
import Derived.Test.YtcjmfacdjdegkaaDoorQ7
import Derived.Test.YtcjmfacdjdegkaaDoorPX
import Derived.Test.YtcjmfacdjdegkaaDoorL1
namespace Go.Proofs.YtcjmfacdjdegkaaDoor
open Go Go.RowKit
theorem treesQ_refl : ∀ l : List Tree, treesQ l l = true
  | [] => rfl
  | t :: l => by
    rw [treesQ, treesQ_refl l]
    simp [treeQ, eqT]
theorem standQ_refl (s : Stand) : standQ s s = true := by
  unfold standQ
  rw [treesQ_refl]
  simp
theorem lines_len : ∀ ts : List Tree, (∀ t ∈ ts, treeB t = true) → (linesL ts).length ≤ 1001 * ts.length
  | [], _ => by simp [linesL]
  | t :: ts, h => by
    have h1 := tree_len (h t (by simp))
    have h2 := lines_len ts fun u hu => h u (by simp [hu])
    have e : linesL (t :: ts) = lineL (treeT t) ++ linesL ts := by simp [linesL]
    rw [e, List.length_append]
    unfold lineL
    rw [List.length_append, List.length_singleton, List.length_cons]
    omega
theorem print_len {s : Stand} (h : standB s = true) : (printL s).length ≤ 65536 := by
  have hc : checkE s = 0 := by unfold checkE; rw [if_pos h]
  have h1 := head_len hc
  obtain ⟨_, _, _, _, h14, ht⟩ := headB_of hc
  have h2 := lines_len s.ts ht
  unfold printL lineL
  simp only [List.length_append, List.length_singleton]
  omega
theorem parse_print {s : Stand} (h : standB s = true) : parseS ⟨(printL s).toArray⟩ = (s, 0) := by
  have hl := print_len h
  unfold parseS
  rw [if_neg (by show ¬ 65536 < (printL s).toArray.size; simp only [List.size_toArray]; omega)]
  rw [show readL (⟨(printL s).toArray⟩ : ByteArray).data.toList = some s from read_print h]
  dsimp only
  rw [if_pos h]
theorem parse_back {s : ByteArray} : ((parseS s).2 ≠ 0 ∧ (parseS s).1 = ⟨[], 0, 0, 0, 0⟩) ∨ ((parseS s).2 = 0 ∧ checkE (parseS s).1 = 0 ∧ (⟨(printL (parseS s).1).toArray⟩ : ByteArray) = s) := by
  unfold parseS
  by_cases h1 : 65536 < s.size
  · rw [if_pos h1]; exact .inl ⟨by decide, rfl⟩
  · rw [if_neg h1]
    rcases h2 : readL s.data.toList with _ | S
    · exact .inl ⟨by decide, rfl⟩
    · dsimp only
      by_cases h3 : standB S = true
      · rw [if_pos h3]
        refine .inr ⟨rfl, by unfold checkE; rw [if_pos h3], ?_⟩
        dsimp only
        rw [← print_read h2]
      · rw [if_neg h3]; exact .inl ⟨by decide, rfl⟩
set_option maxRecDepth 100000 in
set_option maxHeartbeats 4000000 in
theorem standBack_any (a : Option Addr) (n c : Nat) (ts : List Tree) (lo hi pr ne : Int) (s : ByteArray) (w : World) (hT : Trees w a n c ts) (hP : Tab w)
    (hWk : ∀ W, Below w.heap.size w W → Calls Tryd.prog 24 #[] W fun e w' => e = .returned (.bool true) ∧ Below W.heap.size W w') :
    Calls Tryd.prog 13 #[.agg #[.slice a n c, .int .i64 lo, .int .i64 hi, .int .i64 pr, .int .i64 ne], .string s] w fun e w' => e = .returned (.bool true) ∧ Below w.heap.size w w' := by
  have HN := Lib.hid hT.len
  have HWk := Lib.hid hWk
  have HX : Hid (∀ W, Below (w.heap.size + 1) (w.alloc (.cells #[.slice a n c, .int .i64 lo, .int .i64 hi, .int .i64 pr, .int .i64 ne] 29)) W → Box W w.heap.size #[.slice a n c, .int .i64 lo, .int .i64 hi, .int .i64 pr, .int .i64 ne] 29 ∧ Trees W a n c ts ∧ Tab W ∧ Below w.heap.size w W ∧ w.heap.size + 1 ≤ W.heap.size) := Lib.hid fun W h => by
    have hB : Below w.heap.size w W := ((Below.refl _ _).alloc (Nat.le_refl _) _).trans (h.mono (by omega))
    exact ⟨(Box.new w _ _).below h (by omega), hT.below hB, hP.below hB, hB, by have := h.size; simpa using this⟩
  clear hT hWk hP
  have hk := parse_back (s := s)
  obtain ⟨PP, hPP⟩ : ∃ p, parseS s = p := ⟨_, rfl⟩
  rw [hPP] at hk
  have HPP := Lib.hid hPP
  obtain ⟨⟨us, l2, h2, p2, n2⟩, PE⟩ := PP
  dsimp only at hk
  have HK := Lib.hid hk
  clear hPP hk
  obtain ⟨cE, hcE⟩ : ∃ v, checkE ⟨ts, lo, hi, pr, ne⟩ = v := ⟨_, rfl⟩
  have HCE := Lib.hid hcE
  by_cases hE : cE = 0
  case neg =>
    have hb : (cE == 0) = false := by simpa using hE
    have HNC : Hid (¬ checkE ⟨ts, lo, hi, pr, ne⟩ = 0) := Lib.hid (by rw [hcE]; exact hE)
    clear hcE hE
    go_enter Tryd.func13, Tryd.ntmps13
    go_wp2_with fail
    refine (print_any a n c ts lo hi pr ne _ (HX.out _ (Below.refl _ _)).2.1 (HX.out _ (Below.refl _ _)).2.2.1).mono ?_
    rw [if_neg HNC.out, HCE.out]
    rintro e w2 ⟨rfl, hb2⟩
    have hS2 : Below (w.heap.size + 1) (w.alloc (.cells #[.slice a n c, .int .i64 lo, .int .i64 hi, .int .i64 pr, .int .i64 ne] 29)) w2 := hb2.mono (by simp)
    have hS4 := hS2
    go_wp2_with fail
    refine (parse_any s _).mono ?_
    rw [HPP.out]
    rintro e w5 ⟨a5, c5, rfl, hT5, hb5⟩
    dsimp only at hT5 ⊢
    have hS5 := hS4.trans (hb5.mono (HX.out _ hS4).2.2.2.2)
    rcases HK.out with ⟨hpe, hz⟩ | ⟨hpe, hc5, hst⟩
    · obtain ⟨rfl, rfl, rfl, rfl, rfl⟩ : us = [] ∧ l2 = 0 ∧ h2 = 0 ∧ p2 = 0 ∧ n2 = 0 := by simpa using hz
      have hb : (PE != 0) = true := by simpa using hpe
      dsimp only [List.length_nil]
      have HW := Lib.hid (HX.out _ (hS5.alloc (HX.out _ hS5).2.2.2.2 (.cells #[.slice a5 0 c5, .int .i64 0, .int .i64 0, .int .i64 0, .int .i64 0] 29))).2.2.2.1
      clear hz hT5
      go_wp2_with (go_at_call 24; refine (HWk.out _ HW.out).mono ?_; rintro e w7 ⟨rfl, hb7⟩)
      go_ret
      exact ⟨rfl, HW.out.trans (hb7.mono HW.out.size)⟩
    · subst hpe
      have HC5 := Lib.hid hc5
      have HST := Lib.hid hst
      have hS6 := hS5.alloc (HX.out _ hS5).2.2.2.2 (.cells #[.slice a5 us.length c5, .int .i64 l2, .int .i64 h2, .int .i64 p2, .int .i64 n2] 29)
      have hT6 := hT5.below ((Below.refl _ w5).alloc (Nat.le_refl _) (.cells #[.slice a5 us.length c5, .int .i64 l2, .int .i64 h2, .int .i64 p2, .int .i64 n2] 29))
      have hP6 := (HX.out _ hS6).2.2.1
      clear hc5 hst hT5
      go_wp2_with fail
      refine (print_any a5 us.length c5 us l2 h2 p2 n2 _ hT6 hP6).mono ?_
      rw [if_pos HC5.out, HST.out, HC5.out]
      rintro e w7 ⟨rfl, hb7⟩
      have hS7 := hS6.trans (hb7.mono (HX.out _ hS6).2.2.2.2)
      have HW := Lib.hid (HX.out _ hS7).2.2.2.1
      clear hT6 hP6
      go_wp2_with (go_at_call 24; refine (HWk.out _ HW.out).mono ?_; rintro e w8 ⟨rfl, hb8⟩)
      go_ret
      exact ⟨rfl, HW.out.trans (hb8.mono HW.out.size)⟩
  case pos =>
    subst hE
    have hv : standB ⟨ts, lo, hi, pr, ne⟩ = true := by
      unfold checkE at hcE
      by_cases h : standB ⟨ts, lo, hi, pr, ne⟩ = true
      · exact h
      · rw [if_neg h] at hcE; omega
    have HPR := Lib.hid (parse_print hv)
    have HSQ := Lib.hid (standQ_refl ⟨ts, lo, hi, pr, ne⟩)
    clear hcE hv
    go_enter Tryd.func13, Tryd.ntmps13
    go_wp2_with fail
    refine (print_any a n c ts lo hi pr ne _ (HX.out _ (Below.refl _ _)).2.1 (HX.out _ (Below.refl _ _)).2.2.1).mono ?_
    rw [if_pos HCE.out, HCE.out]
    rintro e w2 ⟨rfl, hb2⟩
    have hS2 : Below (w.heap.size + 1) (w.alloc (.cells #[.slice a n c, .int .i64 lo, .int .i64 hi, .int .i64 pr, .int .i64 ne] 29)) w2 := hb2.mono (by simp)
    go_wp2_with fail
    refine (parse_any ⟨(printL ⟨ts, lo, hi, pr, ne⟩).toArray⟩ _).mono ?_
    rw [HPR.out]
    rintro e w3 ⟨a3, c3, rfl, hT3, hb3⟩
    dsimp only at hT3 ⊢
    have hS3 := hS2.trans (hb3.mono (HX.out _ hS2).2.2.2.2)
    have hS3a := hS3.alloc (HX.out _ hS3).2.2.2.2 (.cells #[.slice a3 ts.length c3, .int .i64 lo, .int .i64 hi, .int .i64 pr, .int .i64 ne] 29)
    have hT3a := hT3.below ((Below.refl _ w3).alloc (Nat.le_refl _) (.cells #[.slice a3 ts.length c3, .int .i64 lo, .int .i64 hi, .int .i64 pr, .int .i64 ne] 29))
    obtain ⟨x1, x2, _, _, _⟩ := HX.out _ hS3a
    have e0 : (w3.alloc (.cells #[.slice a3 ts.length c3, .int .i64 lo, .int .i64 hi, .int .i64 pr, .int .i64 ne] 29)).cell? ⟨w.heap.size, 0, none⟩ = some (.slice a n c) := x1.cell 0
    have e1 : (w3.alloc (.cells #[.slice a3 ts.length c3, .int .i64 lo, .int .i64 hi, .int .i64 pr, .int .i64 ne] 29)).cell? ⟨w.heap.size, 1, none⟩ = some (.int .i64 lo) := x1.cell 1
    have e2 : (w3.alloc (.cells #[.slice a3 ts.length c3, .int .i64 lo, .int .i64 hi, .int .i64 pr, .int .i64 ne] 29)).cell? ⟨w.heap.size, 2, none⟩ = some (.int .i64 hi) := x1.cell 2
    have e3 : (w3.alloc (.cells #[.slice a3 ts.length c3, .int .i64 lo, .int .i64 hi, .int .i64 pr, .int .i64 ne] 29)).cell? ⟨w.heap.size, 3, none⟩ = some (.int .i64 pr) := x1.cell 3
    have e4 : (w3.alloc (.cells #[.slice a3 ts.length c3, .int .i64 lo, .int .i64 hi, .int .i64 pr, .int .i64 ne] 29)).cell? ⟨w.heap.size, 4, none⟩ = some (.int .i64 ne) := x1.cell 4
    clear hT3 x1
    go_wp2_with fail
    refine (sameStand_any a a3 n c ts.length c3 ts ts lo hi pr ne lo hi pr ne _ x2 hT3a).mono ?_
    rw [HSQ.out]
    rintro e w4 ⟨rfl, hb4⟩
    have hS4 := hS3a.trans (hb4.mono (HX.out _ hS3a).2.2.2.2)
    clear hT3a x2
    clear e0 e1 e2 e3 e4
    go_wp2_with fail
    refine (parse_any s _).mono ?_
    rw [HPP.out]
    rintro e w5 ⟨a5, c5, rfl, hT5, hb5⟩
    dsimp only at hT5 ⊢
    have hS5 := hS4.trans (hb5.mono (HX.out _ hS4).2.2.2.2)
    rcases HK.out with ⟨hpe, hz⟩ | ⟨hpe, hc5, hst⟩
    · obtain ⟨rfl, rfl, rfl, rfl, rfl⟩ : us = [] ∧ l2 = 0 ∧ h2 = 0 ∧ p2 = 0 ∧ n2 = 0 := by simpa using hz
      have hb : (PE != 0) = true := by simpa using hpe
      dsimp only [List.length_nil]
      have HW := Lib.hid (HX.out _ (hS5.alloc (HX.out _ hS5).2.2.2.2 (.cells #[.slice a5 0 c5, .int .i64 0, .int .i64 0, .int .i64 0, .int .i64 0] 29))).2.2.2.1
      clear hz hT5
      go_wp2_with (go_at_call 24; refine (HWk.out _ HW.out).mono ?_; rintro e w7 ⟨rfl, hb7⟩)
      go_ret
      exact ⟨rfl, HW.out.trans (hb7.mono HW.out.size)⟩
    · subst hpe
      have HC5 := Lib.hid hc5
      have HST := Lib.hid hst
      have hS6 := hS5.alloc (HX.out _ hS5).2.2.2.2 (.cells #[.slice a5 us.length c5, .int .i64 l2, .int .i64 h2, .int .i64 p2, .int .i64 n2] 29)
      have hT6 := hT5.below ((Below.refl _ w5).alloc (Nat.le_refl _) (.cells #[.slice a5 us.length c5, .int .i64 l2, .int .i64 h2, .int .i64 p2, .int .i64 n2] 29))
      have hP6 := (HX.out _ hS6).2.2.1
      clear hc5 hst hT5
      go_wp2_with fail
      refine (print_any a5 us.length c5 us l2 h2 p2 n2 _ hT6 hP6).mono ?_
      rw [if_pos HC5.out, HST.out, HC5.out]
      rintro e w7 ⟨rfl, hb7⟩
      have hS7 := hS6.trans (hb7.mono (HX.out _ hS6).2.2.2.2)
      have HW := Lib.hid (HX.out _ hS7).2.2.2.1
      clear hT6 hP6
      go_wp2_with (go_at_call 24; refine (HWk.out _ HW.out).mono ?_; rintro e w8 ⟨rfl, hb8⟩)
      go_ret
      exact ⟨rfl, HW.out.trans (hb8.mono HW.out.size)⟩
end Go.Proofs.YtcjmfacdjdegkaaDoor
