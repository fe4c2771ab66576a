/- The law StandAlive says true. Conditions: the acts lie in memory as told; the variable changes holds what the text lays; the chapter's examples hold in each world that comes after. -/
import Derived.Test.YtcjmfacdjdegkaaDoorAV
namespace Go.Proofs.YtcjmfacdjdegkaaDoor
open Go Go.RowKit
set_option maxRecDepth 100000 in
set_option maxHeartbeats 4000000 in
theorem standAlive_any (a : Option Addr) (n c : Nat) (l : List Act) (m0 : Int) (w : World) (hA : Acts w a n l) (hnc : n ≤ c) (hcm : c ≤ 9223372036854775807) (hnil : a = none → c = 0)
    (hM : -9223372036854775808 ≤ m0 ∧ m0 ≤ 9223372036854775807) (hC : Chg w)
    (hWk : ∀ W, Below w.heap.size w W → Calls Tryd.prog 24 #[] W fun e w' => e = .returned (.bool true) ∧ Below W.heap.size W w') :
    Calls Tryd.prog 12 #[.slice a n c, .int .i64 m0] w fun e w' => e = .returned (.bool true) ∧ Below w.heap.size w w' := by
  have HN := Lib.hid hA.len
  have HTG := Lib.hid hA.tags
  have HWk := Lib.hid hWk
  have hfit := hA.fits
  have HX : Hid (∀ W, Below w.heap.size w W → Acts W a n l ∧ Chg W ∧ w.heap.size ≤ W.heap.size) := Lib.hid fun W h => ⟨hA.below h, hC.below h, h.size⟩
  have HNL := Lib.hid hnil
  clear hA hC hWk hnil
  by_cases h256 : 256 < n
  · have HF : Hid (followL l = ([], [], 0, 3)) := Lib.hid (by unfold followL; rw [if_pos (by rw [← HN.out]; exact h256)])
    have hb1 : decide ((256 : Int) < (n : Int)) = true := by rw [decide_eq_true_iff]; omega
    have hb2 : decide (256 < n) = true := by rw [decide_eq_true_iff]; omega
    clear h256
    go_enter Tryd.func12, Tryd.ntmps12
    go_wp2_with fail
    refine (follow_any a n c l _ (HX.out _ (Below.refl _ _)).1 (HX.out _ (Below.refl _ _)).2.1).mono ?_
    rw [HF.out]
    rintro e w1 ⟨v1, v2, rfl, hr1, hr2, hb1'⟩
    dsimp only [List.length_nil] at hr1 hr2 ⊢
    obtain ⟨a1, c1, rfl⟩ := row_form hr1
    obtain ⟨a2, c2, rfl⟩ := row_form hr2
    have HW := Lib.hid hb1'
    clear hr1 hr2 hb1'
    go_wp2_with (go_at_call 24; refine (HWk.out _ HW.out).mono ?_; rintro e w9 ⟨rfl, hb9⟩)
    go_ret
    exact ⟨rfl, HW.out.trans (hb9.mono HW.out.size)⟩
  have hn256 : n ≤ 256 := by omega
  clear h256
  cases hro : runO l (0, []) with
  | none =>
    obtain ⟨k, hk, hF, hF1, hF2⟩ := follow_bad (by rw [← HN.out]; exact hn256) hro
    rw [← HN.out] at hk
    obtain ⟨b, off, ha⟩ : ∃ b off, a = some ⟨b, off, none⟩ := by
      rcases (HX.out _ (Below.refl _ _)).1.at_ with h | ⟨b, off, h, _⟩
      · have := HN.out; rw [h] at this; simp at this; omega
      · exact ⟨b, off, h⟩
    subst ha
    have HF := Lib.hid hF
    have HF1 := Lib.hid hF1
    have HF2 := Lib.hid hF2
    have HIN : Hid (frB (k : Int) 0 ((n : Int) - 1) = true) := Lib.hid (frB_iff.2 ⟨by omega, by omega⟩)
    have hwn : IntKind.i64.wrap ((n : Int) - 1) = (n : Int) - 1 := by rw [IntKind.wrap_i64]; omega
    have hwk : IntKind.i64.wrap ((k : Int) + 1) = (k : Int) + 1 := by rw [IntKind.wrap_i64]; omega
    have hkc : k ≤ c := by omega
    have hkc1 : k + 1 ≤ c := by omega
    have hk0 : 0 ≤ (k : Int) + 1 := by omega
    have hk2 : (k : Int) + 1 ≤ (c : Int) := by omega
    have hk3 : ((k : Int) + 1).toNat = k + 1 := by omega
    clear hF hF1 hF2 hro
    go_enter Tryd.func12, Tryd.ntmps12
    go_wp2_with fail
    refine (follow_any (some ⟨b, off, none⟩) n c l _ (HX.out _ (Below.refl _ _)).1 (HX.out _ (Below.refl _ _)).2.1).mono ?_
    rw [HF.out]
    rintro e w1 ⟨v1, v2, rfl, hr1, hr2, hb1⟩
    dsimp only [List.length_nil] at hr1 hr2 ⊢
    obtain ⟨a1, c1, rfl⟩ := row_form hr1
    obtain ⟨a2, c2, rfl⟩ := row_form hr2
    obtain ⟨x1, x2, x3⟩ := HX.out _ hb1
    clear hr1 hr2
    go_wp2_with (go_at_call 45; refine (refIn_any _ _ _ _).mono ?_; rw [HIN.out]; rintro e w' ⟨rfl, rfl⟩)
    refine (follow_any (some ⟨b, off, none⟩) k c (l.take k) _ (acts_take x1 k (by omega)) x2).mono ?_
    rw [HF1.out]
    rintro e w2 ⟨v3, v4, rfl, hr3, hr4, hb2⟩
    dsimp only
    obtain ⟨a3, c3, rfl⟩ := row_form hr3
    obtain ⟨a4, c4, rfl⟩ := row_form hr4
    have hS2 := hb1.trans (hb2.mono x3)
    obtain ⟨y1, y2, y3⟩ := HX.out _ hS2
    clear hr3 hr4 x1 x2 x3 hb1 hb2
    go_wp2_with fail
    refine (follow_any (some ⟨b, off, none⟩) (k + 1) c (l.take (k + 1)) _ (acts_take y1 (k + 1) (by omega)) y2).mono ?_
    rw [HF2.out]
    rintro e w3 ⟨v5, v6, rfl, hr5, hr6, hb3⟩
    dsimp only
    obtain ⟨a5, c5, rfl⟩ := row_form hr5
    obtain ⟨a6, c6, rfl⟩ := row_form hr6
    have HW := Lib.hid (hS2.trans (hb3.mono y3))
    clear hr5 hr6 y1 y2 y3 hS2 hb3
    go_wp2_with (go_at_call 24; refine (HWk.out _ HW.out).mono ?_; rintro e w9 ⟨rfl, hb9⟩)
    go_ret
    exact ⟨rfl, HW.out.trans (hb9.mono HW.out.size)⟩
  | some st =>
    have hfg := follow_good (by rw [← HN.out]; exact hn256) hro
    rw [← HN.out] at hfg
    obtain ⟨T, hT⟩ : ∃ T, st.2.length = T := ⟨_, rfl⟩
    have HT1 : Hid ((st.2.map (·.1)).length = T) := Lib.hid (by rw [List.length_map]; exact hT)
    have HT2 : Hid ((st.2.map (·.2.1)).length = T) := Lib.hid (by rw [List.length_map]; exact hT)
    have HF := Lib.hid hfg
    have HRO := Lib.hid hro
    obtain ⟨q, hq⟩ : ∃ q : Nat, modN m0 ((n : Int) + 1) = q := ⟨(modN m0 ((n : Int) + 1)).toNat, by have := modN_range (n := m0) (c := (n : Int) + 1) (by omega); omega⟩
    have hqr := modN_range (n := m0) (c := (n : Int) + 1) (by omega)
    rw [hq] at hqr
    have hqn : q ≤ n := by omega
    have HQ := Lib.hid hq
    have HFQ := Lib.hid (follow_front (by rw [← HN.out]; exact hn256) hro (show q ≤ l.length by rw [← HN.out]; exact hqn))
    have hwn1 : IntKind.i64.wrap ((n : Int) + 1) = (n : Int) + 1 := by rw [IntKind.wrap_i64]; omega
    have hqc : q ≤ c := by omega
    have TD := Lib.hid (told_run _ l rfl st hro)
    have HTT := Lib.hid hT
    clear hfg hro hq hqr hT
    by_cases hn0 : n = 0
    · subst hn0
      rcases a with _ | p
      · have hc0 : c = 0 := HNL.out rfl
        subst hc0
        obtain rfl : q = 0 := by omega
        have HQ0 : Hid (modN m0 1 = 0) := Lib.hid (by unfold modN; rw [if_neg (by omega)]; exact Int.emod_one m0)
        go_enter Tryd.func12, Tryd.ntmps12
        go_wp2_with fail
        refine (follow_any none 0 0 l _ (HX.out _ (Below.refl _ _)).1 (HX.out _ (Below.refl _ _)).2.1).mono ?_
        rw [HF.out]
        rintro e w1 ⟨v1, v2, rfl, hr1, hr2, hb1⟩
        dsimp only at hr1 hr2 ⊢
        rw [HT1.out] at hr1
        rw [HT2.out] at hr2
        obtain ⟨a1, c1, rfl⟩ := row_form hr1
        obtain ⟨a2, c2, rfl⟩ := row_form hr2
        obtain ⟨x1, x2, x3⟩ := HX.out _ hb1
        have HR1 := Lib.hid hr1
        have HR2 := Lib.hid hr2
        clear hr1 hr2
        go_wp2_with (go_at_call 43; refine (refMod_any _ _ _ hM (by omega)).mono ?_; rw [HQ0.out]; rintro e w' ⟨rfl, rfl⟩)
        refine (follow_any none 0 0 (l.take 0) _ (acts_take x1 0 (by omega)) x2).mono ?_
        rw [HFQ.out]
        rintro e w2 ⟨v3, v4, rfl, hr3, hr4, hb2⟩
        dsimp only
        obtain ⟨a3, c3, rfl⟩ := row_form hr3
        obtain ⟨a4, c4, rfl⟩ := row_form hr4
        have hS2 := hb1.trans (hb2.mono x3)
        have hB12 := hb2
        clear hr3 hr4 x1 x2 x3 hb2
        have HW := Lib.hid hS2
        clear hS2 hb1 hB12
        go_wp2_with (first
          | (go_at_call 24; refine (HWk.out _ HW.out).mono ?_; rintro e w9 ⟨rfl, hb9⟩)
          | (go_at_call 43; refine (refMod_any _ _ _ hM (by omega)).mono ?_; rw [HQ0.out]; rintro e w' ⟨rfl, rfl⟩))
        go_ret
        exact ⟨rfl, HW.out.trans (hb9.mono HW.out.size)⟩
      · obtain rfl : q = 0 := by omega
        have HQ0 : Hid (modN m0 1 = 0) := Lib.hid (by unfold modN; rw [if_neg (by omega)]; exact Int.emod_one m0)
        go_enter Tryd.func12, Tryd.ntmps12
        go_wp2_with fail
        refine (follow_any (some p) 0 c l _ (HX.out _ (Below.refl _ _)).1 (HX.out _ (Below.refl _ _)).2.1).mono ?_
        rw [HF.out]
        rintro e w1 ⟨v1, v2, rfl, hr1, hr2, hb1⟩
        dsimp only at hr1 hr2 ⊢
        rw [HT1.out] at hr1
        rw [HT2.out] at hr2
        obtain ⟨a1, c1, rfl⟩ := row_form hr1
        obtain ⟨a2, c2, rfl⟩ := row_form hr2
        obtain ⟨x1, x2, x3⟩ := HX.out _ hb1
        have HR1 := Lib.hid hr1
        have HR2 := Lib.hid hr2
        clear hr1 hr2
        go_wp2_with (go_at_call 43; refine (refMod_any _ _ _ hM (by omega)).mono ?_; rw [HQ0.out]; rintro e w' ⟨rfl, rfl⟩)
        refine (follow_any (some p) 0 c (l.take 0) _ (acts_take x1 0 (by omega)) x2).mono ?_
        rw [HFQ.out]
        rintro e w2 ⟨v3, v4, rfl, hr3, hr4, hb2⟩
        dsimp only
        obtain ⟨a3, c3, rfl⟩ := row_form hr3
        obtain ⟨a4, c4, rfl⟩ := row_form hr4
        have hS2 := hb1.trans (hb2.mono x3)
        have hB12 := hb2
        clear hr3 hr4 x1 x2 x3 hb2
        have HW := Lib.hid hS2
        clear hS2 hb1 hB12
        go_wp2_with (first
          | (go_at_call 24; refine (HWk.out _ HW.out).mono ?_; rintro e w9 ⟨rfl, hb9⟩)
          | (go_at_call 43; refine (refMod_any _ _ _ hM (by omega)).mono ?_; rw [HQ0.out]; rintro e w' ⟨rfl, rfl⟩))
        go_ret
        exact ⟨rfl, HW.out.trans (hb9.mono HW.out.size)⟩
    obtain ⟨b, off, ha⟩ : ∃ b off, a = some ⟨b, off, none⟩ := by
      rcases (HX.out _ (Below.refl _ _)).1.at_ with h | ⟨b, off, h, _⟩
      · have := HN.out; rw [h] at this; simp at this; omega
      · exact ⟨b, off, h⟩
    subst ha
    have hnb : ((n : Int) == 0) = false := by rw [beq_eq_false_iff_ne]; omega
    have hn1 : 0 < n := by omega
    clear hn0
    by_cases h25 : 256 ≤ n
    · have hb5 : decide ((256 : Int) ≤ (n : Int)) = true := by rw [decide_eq_true_iff]; omega
      have hb6 : decide (256 ≤ n) = true := by rw [decide_eq_true_iff]; omega
      go_enter Tryd.func12, Tryd.ntmps12
      go_wp2_with fail
      refine (follow_any (some ⟨b, off, none⟩) n c l _ (HX.out _ (Below.refl _ _)).1 (HX.out _ (Below.refl _ _)).2.1).mono ?_
      rw [HF.out]
      rintro e w1 ⟨v1, v2, rfl, hr1, hr2, hb1⟩
      dsimp only at hr1 hr2 ⊢
      rw [HT1.out] at hr1
      rw [HT2.out] at hr2
      obtain ⟨a1, c1, rfl⟩ := row_form hr1
      obtain ⟨a2, c2, rfl⟩ := row_form hr2
      obtain ⟨x1, x2, x3⟩ := HX.out _ hb1
      have HR1 := Lib.hid hr1
      have HR2 := Lib.hid hr2
      clear hr1 hr2
      go_wp2_with (go_at_call 43; refine (refMod_any _ _ _ hM (by omega)).mono ?_; rw [HQ.out]; rintro e w' ⟨rfl, rfl⟩)
      refine (follow_any (some ⟨b, off, none⟩) q c (l.take q) _ (acts_take x1 q (by omega)) x2).mono ?_
      rw [HFQ.out]
      rintro e w2 ⟨v3, v4, rfl, hr3, hr4, hb2⟩
      dsimp only
      obtain ⟨a3, c3, rfl⟩ := row_form hr3
      obtain ⟨a4, c4, rfl⟩ := row_form hr4
      have hS2 := hb1.trans (hb2.mono x3)
      have hB12 := hb2
      clear hr3 hr4 x1 x2 x3 hb2
      have HW := Lib.hid hS2
      clear hS2 hb1 hB12
      go_wp2_with (first
        | (go_at_call 24; refine (HWk.out _ HW.out).mono ?_; rintro e w9 ⟨rfl, hb9⟩)
        | (go_at_call 43; refine (refMod_any _ _ _ hM (by omega)).mono ?_; rw [HQ.out]; rintro e w' ⟨rfl, rfl⟩))
      go_ret
      exact ⟨rfl, HW.out.trans (hb9.mono HW.out.size)⟩
    have hb5 : decide ((256 : Int) ≤ (n : Int)) = false := by rw [decide_eq_false_iff_not]; omega
    have hb6 : decide (256 ≤ n) = false := by rw [decide_eq_false_iff_not]; omega
    have hlne : l ≠ [] := fun e => by have := HN.out; rw [e] at this; simp at this; omega
    obtain ⟨la, hla⟩ : ∃ la, l.getLast? = some la := by
      cases h : l.getLast? with
      | none => exact absurd (List.getLast?_eq_none_iff.1 h) hlne
      | some x => exact ⟨x, rfl⟩
    have hlai : l[n - 1]? = some la := by rw [HN.out, ← List.getLast?_eq_getElem?]; exact hla
    have hT1 : 1 ≤ T := by
      have h1 := TD.out.some_ hlne
      have h2 := HTT.out
      have := List.length_pos_iff.2 h1
      omega
    obtain ⟨kk, hkk⟩ : ∃ kk : Nat, modN m0 (T : Int) = kk := ⟨(modN m0 (T : Int)).toNat, by have := modN_range (n := m0) (c := (T : Int)) (by omega); omega⟩
    have hkr := modN_range (n := m0) (c := (T : Int)) (by omega)
    rw [hkk] at hkr
    have hkT : kk < T := by omega
    obtain ⟨pk, hpk⟩ : ∃ pk, st.2[kk]? = some pk := ⟨_, List.getElem?_eq_getElem (by have := HTT.out; omega)⟩
    have hcd := alive_codes (by rw [← HN.out]; omega) HRO.out hpk hla
    have hpt : pk.1.size ≤ maxLen := by
      obtain ⟨x, hx, e⟩ := TD.out.fits pk (List.mem_of_getElem? hpk)
      rw [e]; exact HTG.out x hx
    obtain ⟨tk, sk, pl⟩ := pk
    obtain ⟨ld, lt, lw⟩ := la
    dsimp only at hcd hpt
    obtain ⟨E1, hE1⟩ : ∃ z, (followL (l ++ [⟨ld, tk, 1⟩])).2.2.2 = z := ⟨_, rfl⟩
    obtain ⟨E2, hE2⟩ : ∃ z, (followL (l ++ [⟨ld, tk, 5⟩])).2.2.2 = z := ⟨_, rfl⟩
    rw [hE1, hE2] at hcd
    have HCD := Lib.hid hcd
    have HE1 := Lib.hid hE1
    have HE2 := Lib.hid hE2
    have HKK := Lib.hid hkk
    have HPK := Lib.hid hpk
    have HPT := Lib.hid hpt
    have HLA := Lib.hid hlai
    have HNE := Lib.hid hlne
    have hin1 : IntKind.i64.wrap ((n : Int) - 1) = (n : Int) - 1 := by rw [IntKind.wrap_i64]; omega
    have hin2 : ((n : Int) - 1).toNat = n - 1 := by omega
    have hin3 : 0 ≤ (n : Int) - 1 := by omega
    have hin4 : 1 ≤ (n : Int) := by omega
    have hin5 : (n : Int) - 1 < (n : Int) := by omega
    have hn255 : n ≤ 255 := by omega
    clear hcd hE1 hE2 hkk hpk hpt hla hlai hlne hkr h25
    go_enter Tryd.func12, Tryd.ntmps12
    go_wp2_with fail
    refine (follow_any (some ⟨b, off, none⟩) n c l _ (HX.out _ (Below.refl _ _)).1 (HX.out _ (Below.refl _ _)).2.1).mono ?_
    rw [HF.out]
    rintro e w1 ⟨v1, v2, rfl, hr1, hr2, hb1⟩
    dsimp only at hr1 hr2 ⊢
    rw [HT1.out] at hr1
    rw [HT2.out] at hr2
    obtain ⟨a1, c1, rfl⟩ := row_form hr1
    obtain ⟨a2, c2, rfl⟩ := row_form hr2
    obtain ⟨x1, x2, x3⟩ := HX.out _ hb1
    have HR1 := Lib.hid hr1
    have HR2 := Lib.hid hr2
    clear hr1 hr2
    go_wp2_with (go_at_call 43; refine (refMod_any _ _ _ hM (by omega)).mono ?_; rw [HQ.out]; rintro e w' ⟨rfl, rfl⟩)
    refine (follow_any (some ⟨b, off, none⟩) q c (l.take q) _ (acts_take x1 q (by omega)) x2).mono ?_
    rw [HFQ.out]
    rintro e w2 ⟨v3, v4, rfl, hr3, hr4, hb2⟩
    dsimp only
    obtain ⟨a3, c3, rfl⟩ := row_form hr3
    obtain ⟨a4, c4, rfl⟩ := row_form hr4
    have hS2 := hb1.trans (hb2.mono x3)
    have hB12 := hb2
    clear hr3 hr4 x1 x2 x3 hb2
    have hT65 := row_le HR1.out
    unfold maxLen at hT65
    have hrow1 := HR1.out
    have hrow2 := HR2.out
    rcases hrow1.2 with ⟨_, h0⟩ | ⟨g1, cap1, cur1, h1, _, hg1, _, _, _, _⟩
    · omega
    rcases hrow2.2 with ⟨_, h0⟩ | ⟨g2, cap2, cur2, h2, _, hg2, _, _, _, _⟩
    · omega
    simp only [Value.slice.injEq] at h1 h2
    obtain ⟨rfl, _, rfl⟩ := h1
    obtain ⟨rfl, _, rfl⟩ := h2
    have hl1 := lt_of_block hg1
    have hl2 := lt_of_block hg2
    have tc1 : w1.cell? ⟨g1, kk, none⟩ = some (.string tk) := by
      have := hrow1.cells (g := g1) rfl kk (.string tk) (by simp [HPK.out])
      rwa [Addr.add_lit, Nat.zero_add] at this
    have ic1 : w1.cell? ⟨g2, kk, none⟩ = some (.int .i64 sk) := by
      have := hrow2.cells (g := g2) rfl kk (.int .i64 sk) (by simp [HPK.out])
      rwa [Addr.add_lit, Nat.zero_add] at this
    obtain ⟨y1, y2, y3⟩ := HX.out _ hS2
    obtain ⟨bb, boff, hbe, hbl, hAc⟩ := y1.at_.resolve_left HNE.out
    obtain ⟨rfl, rfl⟩ : b = bb ∧ off = boff := by cases hbe; exact ⟨rfl, rfl⟩
    obtain ⟨d0, d1, d2⟩ := hAc (n - 1) ⟨ld, lt, lw⟩ HLA.out
    dsimp only at d0 d1 d2
    have HZ : Hid (∀ W, Below (w2.heap.size + 1) (w2.alloc (.cells #[.int .i64 ld, .string lt, .int .i64 lw] 70)) W → Box W w2.heap.size #[.int .i64 ld, .string lt, .int .i64 lw] 70 ∧ Acts W (some ⟨b, off, none⟩) n l ∧ Chg W ∧ W.cell? ⟨g1, kk, none⟩ = some (.string tk) ∧ W.cell? ⟨g2, kk, none⟩ = some (.int .i64 sk) ∧ Below w.heap.size w W ∧ w2.heap.size + 1 ≤ W.heap.size) := Lib.hid fun W h => by
      have hw12 := hB12.size
      have hB2W : Below w2.heap.size w2 W := ((Below.refl _ _).alloc (Nat.le_refl _) _).trans (h.mono (by omega))
      have hBW : Below w.heap.size w W := hS2.trans (hB2W.mono y3)
      obtain ⟨q1, q2, _⟩ := HX.out _ hBW
      have hB1W : Below w1.heap.size w1 W := hB12.trans (hB2W.mono hw12)
      exact ⟨(Box.new w2 _ _).below h (by omega), q1, q2, (hB1W.cell (by exact hl1)).trans tc1, (hB1W.cell (by exact hl2)).trans ic1, hBW, by have := h.size; simpa using this⟩
    have hg1m : T ≤ 9223372036854775807 := by omega
    clear hbe y1 y2 y3 hrow1 hrow2 hg1 hg2 hl1 hl2 tc1 ic1 HR1 HR2 hS2 hB12 hb1 hbl hAc
    go_wp2_with (first
      | (go_at_call 43; ((with_reducible refine (refMod_any m0 (T : Int) _ hM (by omega)).mono ?_); rw [HKK.out]; rintro e w' ⟨rfl, rfl⟩))
      | (go_at_call 43; refine (refMod_any _ _ _ hM (by omega)).mono ?_; rw [HQ.out]; rintro e w' ⟨rfl, rfl⟩))
    clear d0 d1 d2
    have hS1 : Below (w2.heap.size + 1) (w2.alloc (.cells #[.int .i64 ld, .string lt, .int .i64 lw] 70)) (w2.alloc (.cells #[.int .i64 ld, .string lt, .int .i64 lw] 70)).drew := (Below.refl _ _).drew
    refine region_seq (fun W => Below (w2.heap.size + 1) (w2.alloc (.cells #[.int .i64 ld, .string lt, .int .i64 lw] 70)) W) [(0, true), (1, true), (2, true), (3, true), (4, true), (5, true), (6, true), (7, true), (8, true), (9, true), (10, true), (11, true), (12, true), (13, false), (14, false), (15, false), (16, true), (17, true), (18, true), (19, true), (20, true), (21, true), (22, true), (23, true), (24, true)]
      (by kernel_rfl) (by kernel_rfl) (by kernel_rfl) (by simp) (fun _ _ _ _ h => h) hS1 ?_
    (refine SeqW.take (v := ?_) rfl (by rfl) (fun W hW => ?_) ?_; rotate_left; (go_simp; with_reducible rfl); simp only [Act.put, List.setIfInBounds_toArray, List.set_cons_zero, List.set_cons_succ])
    (refine SeqW.take (v := ?_) rfl (by rfl) (fun W hW => ?_) ?_; rotate_left; (go_simp; with_reducible rfl); simp only [Act.put, List.setIfInBounds_toArray, List.set_cons_zero, List.set_cons_succ])
    (refine SeqW.take (v := ?_) rfl (by rfl) (fun W hW => ?_) ?_; rotate_left; (go_simp; with_reducible rfl); simp only [Act.put, List.setIfInBounds_toArray, List.set_cons_zero, List.set_cons_succ])
    (refine SeqW.take (v := ?_) rfl (by rfl) (fun W hW => ?_) ?_; rotate_left; (go_simp; with_reducible rfl); simp only [Act.put, List.setIfInBounds_toArray, List.set_cons_zero, List.set_cons_succ])
    (refine SeqW.take (v := ?_) rfl (by rfl) (fun W hW => ?_) ?_; rotate_left; (go_simp; with_reducible rfl); simp only [Act.put, List.setIfInBounds_toArray, List.set_cons_zero, List.set_cons_succ])
    (refine SeqW.take (v := ?_) rfl (by rfl) (fun W hW => ?_) ?_; rotate_left; (go_simp; with_reducible rfl); simp only [Act.put, List.setIfInBounds_toArray, List.set_cons_zero, List.set_cons_succ])
    (refine SeqW.take (v := ?_) rfl (by rfl) (fun W hW => ?_) ?_; rotate_left; (go_simp; with_reducible rfl); simp only [Act.put, List.setIfInBounds_toArray, List.set_cons_zero, List.set_cons_succ])
    (refine SeqW.take (v := ?_) rfl (by rfl) (fun W hW => ?_) ?_; rotate_left; (obtain ⟨z1, _, _, z4, _, _, _⟩ := HZ.out W hW; have b0 : W.cell? ⟨w2.heap.size, 0, none⟩ = some (.int .i64 ld) := z1.cell 0; clear z1; go_simp; with_reducible rfl); simp only [Act.put, List.setIfInBounds_toArray, List.set_cons_zero, List.set_cons_succ])
    (refine SeqW.take (v := ?_) rfl (by rfl) (fun W hW => ?_) ?_; rotate_left; (go_simp; with_reducible rfl); simp only [Act.put, List.setIfInBounds_toArray, List.set_cons_zero, List.set_cons_succ])
    (refine SeqW.take (v := ?_) rfl (by rfl) (fun W hW => ?_) ?_; rotate_left; (go_simp; with_reducible rfl); simp only [Act.put, List.setIfInBounds_toArray, List.set_cons_zero, List.set_cons_succ])
    (refine SeqW.take (v := ?_) rfl (by rfl) (fun W hW => ?_) ?_; rotate_left; (go_simp; with_reducible rfl); simp only [Act.put, List.setIfInBounds_toArray, List.set_cons_zero, List.set_cons_succ])
    (refine SeqW.take (v := ?_) rfl (by rfl) (fun W hW => ?_) ?_; rotate_left; (obtain ⟨z1, _, _, z4, _, _, _⟩ := HZ.out W hW; have b0 : W.cell? ⟨w2.heap.size, 0, none⟩ = some (.int .i64 ld) := z1.cell 0; clear z1; go_simp; with_reducible rfl); simp only [Act.put, List.setIfInBounds_toArray, List.set_cons_zero, List.set_cons_succ])
    (refine SeqW.take (v := ?_) rfl (by rfl) (fun W hW => ?_) ?_; rotate_left; (go_simp; with_reducible rfl); simp only [Act.put, List.setIfInBounds_toArray, List.set_cons_zero, List.set_cons_succ])
    (refine SeqW.call rfl (by rfl) (fun K hK => ?_); go_simp)
    have hS1a := hS1.alloc (HZ.out _ hS1).2.2.2.2.2.2 (.cells #[.int .i64 ld, .string tk, .int .i64 1] 70)
    have bT1 := Box.new ((w2.alloc (.cells #[.int .i64 ld, .string lt, .int .i64 lw] 70)).drew) #[.int .i64 ld, .string tk, .int .i64 1] 70
    simp only [World.size_drew, World.size_alloc] at bT1
    refine hK.out _ _ hS1a ?_
    clear hK K
    refine SeqW.call rfl (by rfl) (fun K hK => ?_)
    refine wp_append_acts (.tmp 176) (.tmp 184) rfl b off n 1 ⟨w2.heap.size + 1, 0, none⟩ l ⟨ld, tk, 1⟩ (by rfl) (by rfl) (HZ.out _ hS1a).2.1 hn255 HNE.out HPT.out (bT1.cell 0) (by rw [Addr.add_lit]; exact bT1.cell 1) (by rw [Addr.add_lit]; exact bT1.cell 2) ?_
    intro c8 w8 hA8 hb8
    simp only [World.size_drew, World.size_alloc] at hA8
    have hS1b := hS1a.trans (hb8.mono (HZ.out _ hS1a).2.2.2.2.2.2)
    refine hK.out _ _ hS1b ?_
    clear hK K
    (refine SeqW.call rfl (by rfl) (fun K hK => ?_); go_simp)
    refine (follow_any _ (n + 1) c8 (l ++ [⟨ld, tk, 1⟩]) _ hA8 (HZ.out _ hS1b).2.2.1).mono ?_
    rw [HE1.out]
    rintro e w21 ⟨v5, v6, rfl, hr5, hr6, hb9⟩
    obtain ⟨a5, c5, rfl⟩ := row_form hr5
    obtain ⟨a6, c6, rfl⟩ := row_form hr6
    have hS1c := hS1b.trans (hb9.mono (HZ.out _ hS1b).2.2.2.2.2.2)
    go_simp
    refine hK.out _ _ hS1c ?_
    clear hK K hA8 hb8 hr5 hr6 hb9
    (refine SeqW.take (v := ?_) rfl (by rfl) (fun W hW => ?_) ?_; rotate_left; (go_simp; with_reducible rfl); simp only [Act.put, List.setIfInBounds_toArray, List.set_cons_zero, List.set_cons_succ])
    (refine SeqW.take (v := ?_) rfl (by rfl) (fun W hW => ?_) ?_; rotate_left; (go_simp; with_reducible rfl); simp only [Act.put, List.setIfInBounds_toArray, List.set_cons_zero, List.set_cons_succ])
    (refine SeqW.take (v := ?_) rfl (by rfl) (fun W hW => ?_) ?_; rotate_left; (go_simp; with_reducible rfl); simp only [Act.put, List.setIfInBounds_toArray, List.set_cons_zero, List.set_cons_succ])
    (refine SeqW.take (v := ?_) rfl (by rfl) (fun W hW => ?_) ?_; rotate_left; (go_simp; with_reducible rfl); simp only [Act.put, List.setIfInBounds_toArray, List.set_cons_zero, List.set_cons_succ])
    (refine SeqW.take (v := ?_) rfl (by rfl) (fun W hW => ?_) ?_; rotate_left; (go_simp; with_reducible rfl); simp only [Act.put, List.setIfInBounds_toArray, List.set_cons_zero, List.set_cons_succ])
    (refine SeqW.take (v := ?_) rfl (by rfl) (fun W hW => ?_) ?_; rotate_left; (go_simp; with_reducible rfl); simp only [Act.put, List.setIfInBounds_toArray, List.set_cons_zero, List.set_cons_succ])
    (refine SeqW.take (v := ?_) rfl (by rfl) (fun W hW => ?_) ?_; rotate_left; (go_simp; with_reducible rfl); simp only [Act.put, List.setIfInBounds_toArray, List.set_cons_zero, List.set_cons_succ])
    (refine SeqW.take (v := ?_) rfl (by rfl) (fun W hW => ?_) ?_; rotate_left; (go_simp; with_reducible rfl); simp only [Act.put, List.setIfInBounds_toArray, List.set_cons_zero, List.set_cons_succ])
    (refine SeqW.take (v := ?_) rfl (by rfl) (fun W hW => ?_) ?_; rotate_left; (go_simp; with_reducible rfl); simp only [Act.put, List.setIfInBounds_toArray, List.set_cons_zero, List.set_cons_succ])
    refine SeqW.done ?_
    go_wp2_with fail
    have hS2 : Below (w2.heap.size + 1) (w2.alloc (.cells #[.int .i64 ld, .string lt, .int .i64 lw] 70)) w21.drew := hS1c.drew
    refine region_seq (fun W => Below (w2.heap.size + 1) (w2.alloc (.cells #[.int .i64 ld, .string lt, .int .i64 lw] 70)) W) [(0, true), (1, true), (2, true), (3, true), (4, true), (5, true), (6, true), (7, true), (8, true), (9, true), (10, true), (11, true), (12, true), (13, false), (14, false), (15, false), (16, true), (17, true), (18, true), (19, true), (20, true), (21, true), (22, true), (23, true), (24, true)]
      (by kernel_rfl) (by kernel_rfl) (by kernel_rfl) (by simp) (fun _ _ _ _ h => h) hS2 ?_
    (refine SeqW.take (v := ?_) rfl (by rfl) (fun W hW => ?_) ?_; rotate_left; (go_simp; with_reducible rfl); simp only [Act.put, List.setIfInBounds_toArray, List.set_cons_zero, List.set_cons_succ])
    (refine SeqW.take (v := ?_) rfl (by rfl) (fun W hW => ?_) ?_; rotate_left; (go_simp; with_reducible rfl); simp only [Act.put, List.setIfInBounds_toArray, List.set_cons_zero, List.set_cons_succ])
    (refine SeqW.take (v := ?_) rfl (by rfl) (fun W hW => ?_) ?_; rotate_left; (go_simp; with_reducible rfl); simp only [Act.put, List.setIfInBounds_toArray, List.set_cons_zero, List.set_cons_succ])
    (refine SeqW.take (v := ?_) rfl (by rfl) (fun W hW => ?_) ?_; rotate_left; (go_simp; with_reducible rfl); simp only [Act.put, List.setIfInBounds_toArray, List.set_cons_zero, List.set_cons_succ])
    (refine SeqW.take (v := ?_) rfl (by rfl) (fun W hW => ?_) ?_; rotate_left; (go_simp; with_reducible rfl); simp only [Act.put, List.setIfInBounds_toArray, List.set_cons_zero, List.set_cons_succ])
    (refine SeqW.take (v := ?_) rfl (by rfl) (fun W hW => ?_) ?_; rotate_left; (go_simp; with_reducible rfl); simp only [Act.put, List.setIfInBounds_toArray, List.set_cons_zero, List.set_cons_succ])
    (refine SeqW.take (v := ?_) rfl (by rfl) (fun W hW => ?_) ?_; rotate_left; (go_simp; with_reducible rfl); simp only [Act.put, List.setIfInBounds_toArray, List.set_cons_zero, List.set_cons_succ])
    (refine SeqW.take (v := ?_) rfl (by rfl) (fun W hW => ?_) ?_; rotate_left; (obtain ⟨z1, _, _, z4, _, _, _⟩ := HZ.out W hW; have b0 : W.cell? ⟨w2.heap.size, 0, none⟩ = some (.int .i64 ld) := z1.cell 0; clear z1; go_simp; with_reducible rfl); simp only [Act.put, List.setIfInBounds_toArray, List.set_cons_zero, List.set_cons_succ])
    (refine SeqW.take (v := ?_) rfl (by rfl) (fun W hW => ?_) ?_; rotate_left; (go_simp; with_reducible rfl); simp only [Act.put, List.setIfInBounds_toArray, List.set_cons_zero, List.set_cons_succ])
    (refine SeqW.take (v := ?_) rfl (by rfl) (fun W hW => ?_) ?_; rotate_left; (go_simp; with_reducible rfl); simp only [Act.put, List.setIfInBounds_toArray, List.set_cons_zero, List.set_cons_succ])
    (refine SeqW.take (v := ?_) rfl (by rfl) (fun W hW => ?_) ?_; rotate_left; (go_simp; with_reducible rfl); simp only [Act.put, List.setIfInBounds_toArray, List.set_cons_zero, List.set_cons_succ])
    (refine SeqW.take (v := ?_) rfl (by rfl) (fun W hW => ?_) ?_; rotate_left; (obtain ⟨z1, _, _, z4, _, _, _⟩ := HZ.out W hW; have b0 : W.cell? ⟨w2.heap.size, 0, none⟩ = some (.int .i64 ld) := z1.cell 0; clear z1; go_simp; with_reducible rfl); simp only [Act.put, List.setIfInBounds_toArray, List.set_cons_zero, List.set_cons_succ])
    (refine SeqW.take (v := ?_) rfl (by rfl) (fun W hW => ?_) ?_; rotate_left; (go_simp; with_reducible rfl); simp only [Act.put, List.setIfInBounds_toArray, List.set_cons_zero, List.set_cons_succ])
    (refine SeqW.call rfl (by rfl) (fun K hK => ?_); go_simp)
    have hS2a := hS2.alloc (HZ.out _ hS2).2.2.2.2.2.2 (.cells #[.int .i64 ld, .string tk, .int .i64 5] 70)
    have bT2 := Box.new (w21.drew) #[.int .i64 ld, .string tk, .int .i64 5] 70
    simp only [World.size_drew] at bT2
    refine hK.out _ _ hS2a ?_
    clear hK K
    refine SeqW.call rfl (by rfl) (fun K hK => ?_)
    refine wp_append_acts (.tmp 197) (.tmp 205) rfl b off n 1 ⟨w21.heap.size, 0, none⟩ l ⟨ld, tk, 5⟩ (by rfl) (by rfl) (HZ.out _ hS2a).2.1 hn255 HNE.out HPT.out (bT2.cell 0) (by rw [Addr.add_lit]; exact bT2.cell 1) (by rw [Addr.add_lit]; exact bT2.cell 2) ?_
    intro c8 w8 hA8 hb8
    simp only [World.size_drew, World.size_alloc] at hA8
    have hS2b := hS2a.trans (hb8.mono (HZ.out _ hS2a).2.2.2.2.2.2)
    refine hK.out _ _ hS2b ?_
    clear hK K
    (refine SeqW.call rfl (by rfl) (fun K hK => ?_); go_simp)
    refine (follow_any _ (n + 1) c8 (l ++ [⟨ld, tk, 5⟩]) _ hA8 (HZ.out _ hS2b).2.2.1).mono ?_
    rw [HE2.out]
    rintro e w22 ⟨v5, v6, rfl, hr5, hr6, hb9⟩
    obtain ⟨a5, c5, rfl⟩ := row_form hr5
    obtain ⟨a6, c6, rfl⟩ := row_form hr6
    have hS2c := hS2b.trans (hb9.mono (HZ.out _ hS2b).2.2.2.2.2.2)
    go_simp
    refine hK.out _ _ hS2c ?_
    clear hK K hA8 hb8 hr5 hr6 hb9
    (refine SeqW.take (v := ?_) rfl (by rfl) (fun W hW => ?_) ?_; rotate_left; (go_simp; with_reducible rfl); simp only [Act.put, List.setIfInBounds_toArray, List.set_cons_zero, List.set_cons_succ])
    (refine SeqW.take (v := ?_) rfl (by rfl) (fun W hW => ?_) ?_; rotate_left; (go_simp; with_reducible rfl); simp only [Act.put, List.setIfInBounds_toArray, List.set_cons_zero, List.set_cons_succ])
    (refine SeqW.take (v := ?_) rfl (by rfl) (fun W hW => ?_) ?_; rotate_left; (go_simp; with_reducible rfl); simp only [Act.put, List.setIfInBounds_toArray, List.set_cons_zero, List.set_cons_succ])
    (refine SeqW.take (v := ?_) rfl (by rfl) (fun W hW => ?_) ?_; rotate_left; (go_simp; with_reducible rfl); simp only [Act.put, List.setIfInBounds_toArray, List.set_cons_zero, List.set_cons_succ])
    (refine SeqW.take (v := ?_) rfl (by rfl) (fun W hW => ?_) ?_; rotate_left; (go_simp; with_reducible rfl); simp only [Act.put, List.setIfInBounds_toArray, List.set_cons_zero, List.set_cons_succ])
    (refine SeqW.take (v := ?_) rfl (by rfl) (fun W hW => ?_) ?_; rotate_left; (go_simp; with_reducible rfl); simp only [Act.put, List.setIfInBounds_toArray, List.set_cons_zero, List.set_cons_succ])
    (refine SeqW.take (v := ?_) rfl (by rfl) (fun W hW => ?_) ?_; rotate_left; (go_simp; with_reducible rfl); simp only [Act.put, List.setIfInBounds_toArray, List.set_cons_zero, List.set_cons_succ])
    (refine SeqW.take (v := ?_) rfl (by rfl) (fun W hW => ?_) ?_; rotate_left; (go_simp; with_reducible rfl); simp only [Act.put, List.setIfInBounds_toArray, List.set_cons_zero, List.set_cons_succ])
    (refine SeqW.take (v := ?_) rfl (by rfl) (fun W hW => ?_) ?_; rotate_left; (go_simp; with_reducible rfl); simp only [Act.put, List.setIfInBounds_toArray, List.set_cons_zero, List.set_cons_succ])
    refine SeqW.done ?_
    go_wp2_with fail
    have HB0 := Lib.hid hS2c
    clear hS1 hS1a hS1b hS1c hS2 hS2a hS2b hS2c bT1 bT2
    go_loopw [31, 32] (fun pv iv wr => ∃ (i : Nat) (pv0 : Int), i ≤ n ∧ iv = .int .i64 i ∧ pv = .int .i64 pv0 ∧ -1 ≤ pv0 ∧ pv0 ≤ 36500 ∧ Hid (pv0 = plantedTo (l.take i) tk.data.toList) ∧ Hid (Below (w2.heap.size + 1) (w2.alloc (.cells #[.int .i64 ld, .string lt, .int .i64 lw] 70)) wr)) (fun _ iv _ => n - (intOf iv).toNat)
    case atStart => exact ⟨0, -1, Nat.zero_le _, rfl, rfl, by omega, by omega, Lib.hid rfl, HB0⟩
    case round =>
      obtain ⟨i, pv0, hin, rfl, rfl, hp0, hp1, HPV, HB⟩ := hrel
      obtain ⟨z1, z2, z3, z4, z5, z6, z7⟩ := HZ.out _ HB.out
      by_cases hlt : i < n
      case neg =>
        have HW := Lib.hid z6
        rcases HCD.out with ⟨hs0, rfl, rfl⟩ | ⟨hs0, rfl, rfl⟩
        · have hb1 : (sk == 0) = true := by simpa using hs0
          have hb2 : (sk != 0) = false := by simpa using hs0
          clear z1 z2 z3 z4 z6 hs0
          go_wp2_with (go_at_call 24; refine (HWk.out _ HW.out).mono ?_; rintro e w9 ⟨rfl, hb9⟩)
          go_ret
          exact ⟨rfl, HW.out.trans (hb9.mono HW.out.size)⟩
        · have hb1 : (sk == 0) = false := by simpa using hs0
          have hb2 : (sk != 0) = true := by simpa using hs0
          clear z1 z2 z3 z4 z6 hs0
          go_wp2_with (go_at_call 24; refine (HWk.out _ HW.out).mono ?_; rintro e w9 ⟨rfl, hb9⟩)
          go_ret
          exact ⟨rfl, HW.out.trans (hb9.mono HW.out.size)⟩
      obtain ⟨x, hx⟩ : ∃ x, l[i]? = some x := ⟨_, List.getElem?_eq_getElem (by rw [← HN.out]; exact hlt)⟩
      have hdf := days_fit HRO.out hx
      have hpt := planted_take hx tk.data.toList
      have hop := open_facts HRO.out hx
      obtain ⟨bb, boff, hbe, hbl, hAc⟩ := z2.at_.resolve_left HNE.out
      obtain ⟨rfl, rfl⟩ : b = bb ∧ off = boff := by cases hbe; exact ⟨rfl, rfl⟩
      obtain ⟨f0, f1, f2⟩ := hAc i x hx
      obtain ⟨dy, tg, wh⟩ := x
      dsimp only at hdf hpt hop f0 f1 f2
      have hB := HB.out
      have hD : Hid (tg.toList = tg.data.toList ∧ tk.toList = tk.data.toList) := Lib.hid ⟨Lib.toList_data tg, Lib.toList_data tk⟩
      clear hbe hbl hAc z1 z2 z3 z5 z6 z7 hx
      rcases hteq : (tg.toList == tk.toList) with _ | _
      · have HP : Hid (pv0 = plantedTo (l.take (i + 1)) tk.data.toList) := Lib.hid (by
          rw [hpt, if_neg (by rw [← hD.out.1, ← hD.out.2, hteq]; simp)]; exact HPV.out)
        clear hpt hop
        go_wp2_with fail
        refine region_seq (fun W => ∀ p, W.cell? p = wr.cell? p) [(0, true), (1, true), (2, true), (3, true), (4, true), (5, true), (6, true), (7, true), (8, true), (9, true), (10, true), (11, true), (12, true), (13, true), (14, true), (15, true), (16, true), (17, true)]
          (by kernel_rfl) (by kernel_rfl) (by kernel_rfl) (by simp) (fun _ _ _ _ h => h) (fun _ => rfl) ?_
        (refine SeqW.take (v := ?_) rfl (by rfl) (fun W hW => ?_) ?_; rotate_left; (go_simp; with_reducible rfl); simp only [Act.put, List.setIfInBounds_toArray, List.set_cons_zero, List.set_cons_succ])
        (refine SeqW.take (v := ?_) rfl (by rfl) (fun W hW => ?_) ?_; rotate_left; (go_simp; with_reducible rfl); simp only [Act.put, List.setIfInBounds_toArray, List.set_cons_zero, List.set_cons_succ])
        (refine SeqW.take (v := ?_) rfl (by rfl) (fun W hW => ?_) ?_; rotate_left; (go_simp; with_reducible rfl); simp only [Act.put, List.setIfInBounds_toArray, List.set_cons_zero, List.set_cons_succ])
        (refine SeqW.take (v := ?_) rfl (by rfl) (fun W hW => ?_) ?_; rotate_left; (go_simp; with_reducible rfl); simp only [Act.put, List.setIfInBounds_toArray, List.set_cons_zero, List.set_cons_succ])
        (refine SeqW.take (v := ?_) rfl (by rfl) (fun W hW => ?_) ?_; rotate_left; (have l0 := (hW _).trans f0; have l1 := (hW _).trans f1; have l2 := (hW _).trans f2; have l3 := (hW _).trans z4; go_simp; with_reducible rfl); simp only [Act.put, List.setIfInBounds_toArray, List.set_cons_zero, List.set_cons_succ])
        (refine SeqW.take (v := ?_) rfl (by rfl) (fun W hW => ?_) ?_; rotate_left; (go_simp; with_reducible rfl); simp only [Act.put, List.setIfInBounds_toArray, List.set_cons_zero, List.set_cons_succ])
        (refine SeqW.take (v := ?_) rfl (by rfl) (fun W hW => ?_) ?_; rotate_left; (go_simp; with_reducible rfl); simp only [Act.put, List.setIfInBounds_toArray, List.set_cons_zero, List.set_cons_succ])
        (refine SeqW.take (v := ?_) rfl (by rfl) (fun W hW => ?_) ?_; rotate_left; (go_simp; with_reducible rfl); simp only [Act.put, List.setIfInBounds_toArray, List.set_cons_zero, List.set_cons_succ])
        (refine SeqW.take (v := ?_) rfl (by rfl) (fun W hW => ?_) ?_; rotate_left; (have l0 := (hW _).trans f0; have l1 := (hW _).trans f1; have l2 := (hW _).trans f2; have l3 := (hW _).trans z4; go_simp; with_reducible rfl); simp only [Act.put, List.setIfInBounds_toArray, List.set_cons_zero, List.set_cons_succ])
        (refine SeqW.take (v := ?_) rfl (by rfl) (fun W hW => ?_) ?_; rotate_left; (go_simp; with_reducible rfl); simp only [Act.put, List.setIfInBounds_toArray, List.set_cons_zero, List.set_cons_succ])
        (refine SeqW.take (v := ?_) rfl (by rfl) (fun W hW => ?_) ?_; rotate_left; (go_simp; with_reducible rfl); simp only [Act.put, List.setIfInBounds_toArray, List.set_cons_zero, List.set_cons_succ])
        (refine SeqW.skip rfl (by rfl) ?_; simp only [Act.put, List.setIfInBounds_toArray, List.set_cons_zero, List.set_cons_succ])
        (refine SeqW.skip rfl (by rfl) ?_; simp only [Act.put, List.setIfInBounds_toArray, List.set_cons_zero, List.set_cons_succ])
        (refine SeqW.skip rfl (by rfl) ?_; simp only [Act.put, List.setIfInBounds_toArray, List.set_cons_zero, List.set_cons_succ])
        (refine SeqW.skip rfl (by rfl) ?_; simp only [Act.put, List.setIfInBounds_toArray, List.set_cons_zero, List.set_cons_succ])
        (refine SeqW.skip rfl (by rfl) ?_; simp only [Act.put, List.setIfInBounds_toArray, List.set_cons_zero, List.set_cons_succ])
        (refine SeqW.skip rfl (by rfl) ?_; simp only [Act.put, List.setIfInBounds_toArray, List.set_cons_zero, List.set_cons_succ])
        (refine SeqW.take (v := ?_) rfl (by rfl) (fun W hW => ?_) ?_; rotate_left; (go_simp; with_reducible rfl); simp only [Act.put, List.setIfInBounds_toArray, List.set_cons_zero, List.set_cons_succ])
        refine SeqW.done ?_
        go_wp2_with fail
        refine region_seq (fun W => ∀ p, W.cell? p = wr.cell? p) [(0, true), (1, true), (2, true), (3, true), (4, true), (5, true), (6, true), (7, true), (8, true), (9, true), (10, true), (11, true), (12, true), (13, true), (14, true), (15, true), (16, true), (17, true), (18, true), (19, true), (20, true), (21, true), (22, true), (23, true), (24, true), (25, true), (26, true), (27, true), (28, true), (29, true), (30, true), (31, true)]
          (by kernel_rfl) (by kernel_rfl) (by kernel_rfl) (by simp) (fun _ _ _ _ h => h) (fun _ => rfl) ?_
        (refine SeqW.take (v := ?_) rfl (by rfl) (fun W hW => ?_) ?_; rotate_left; (go_simp; with_reducible rfl); simp only [Act.put, List.setIfInBounds_toArray, List.set_cons_zero, List.set_cons_succ])
        (refine SeqW.take (v := ?_) rfl (by rfl) (fun W hW => ?_) ?_; rotate_left; (go_simp; with_reducible rfl); simp only [Act.put, List.setIfInBounds_toArray, List.set_cons_zero, List.set_cons_succ])
        (refine SeqW.take (v := ?_) rfl (by rfl) (fun W hW => ?_) ?_; rotate_left; (go_simp; with_reducible rfl); simp only [Act.put, List.setIfInBounds_toArray, List.set_cons_zero, List.set_cons_succ])
        (refine SeqW.take (v := ?_) rfl (by rfl) (fun W hW => ?_) ?_; rotate_left; (go_simp; with_reducible rfl); simp only [Act.put, List.setIfInBounds_toArray, List.set_cons_zero, List.set_cons_succ])
        (refine SeqW.take (v := ?_) rfl (by rfl) (fun W hW => ?_) ?_; rotate_left; (have l0 := (hW _).trans f0; have l1 := (hW _).trans f1; have l2 := (hW _).trans f2; have l3 := (hW _).trans z4; go_simp; with_reducible rfl); simp only [Act.put, List.setIfInBounds_toArray, List.set_cons_zero, List.set_cons_succ])
        (refine SeqW.take (v := ?_) rfl (by rfl) (fun W hW => ?_) ?_; rotate_left; (go_simp; with_reducible rfl); simp only [Act.put, List.setIfInBounds_toArray, List.set_cons_zero, List.set_cons_succ])
        (refine SeqW.take (v := ?_) rfl (by rfl) (fun W hW => ?_) ?_; rotate_left; (go_simp; with_reducible rfl); simp only [Act.put, List.setIfInBounds_toArray, List.set_cons_zero, List.set_cons_succ])
        (refine SeqW.take (v := ?_) rfl (by rfl) (fun W hW => ?_) ?_; rotate_left; (go_simp; with_reducible rfl); simp only [Act.put, List.setIfInBounds_toArray, List.set_cons_zero, List.set_cons_succ])
        (refine SeqW.take (v := ?_) rfl (by rfl) (fun W hW => ?_) ?_; rotate_left; (have l0 := (hW _).trans f0; have l1 := (hW _).trans f1; have l2 := (hW _).trans f2; have l3 := (hW _).trans z4; go_simp; with_reducible rfl); simp only [Act.put, List.setIfInBounds_toArray, List.set_cons_zero, List.set_cons_succ])
        (refine SeqW.take (v := ?_) rfl (by rfl) (fun W hW => ?_) ?_; rotate_left; (go_simp; with_reducible rfl); simp only [Act.put, List.setIfInBounds_toArray, List.set_cons_zero, List.set_cons_succ])
        (refine SeqW.take (v := ?_) rfl (by rfl) (fun W hW => ?_) ?_; rotate_left; (go_simp; with_reducible rfl); simp only [Act.put, List.setIfInBounds_toArray, List.set_cons_zero, List.set_cons_succ])
        (refine SeqW.skip rfl (by rfl) ?_; simp only [Act.put, List.setIfInBounds_toArray, List.set_cons_zero, List.set_cons_succ])
        (refine SeqW.skip rfl (by rfl) ?_; simp only [Act.put, List.setIfInBounds_toArray, List.set_cons_zero, List.set_cons_succ])
        (refine SeqW.skip rfl (by rfl) ?_; simp only [Act.put, List.setIfInBounds_toArray, List.set_cons_zero, List.set_cons_succ])
        (refine SeqW.skip rfl (by rfl) ?_; simp only [Act.put, List.setIfInBounds_toArray, List.set_cons_zero, List.set_cons_succ])
        (refine SeqW.skip rfl (by rfl) ?_; simp only [Act.put, List.setIfInBounds_toArray, List.set_cons_zero, List.set_cons_succ])
        (refine SeqW.skip rfl (by rfl) ?_; simp only [Act.put, List.setIfInBounds_toArray, List.set_cons_zero, List.set_cons_succ])
        (refine SeqW.take (v := ?_) rfl (by rfl) (fun W hW => ?_) ?_; rotate_left; (go_simp; with_reducible rfl); simp only [Act.put, List.setIfInBounds_toArray, List.set_cons_zero, List.set_cons_succ])
        (refine SeqW.take (v := ?_) rfl (by rfl) (fun W hW => ?_) ?_; rotate_left; (go_simp; with_reducible rfl); simp only [Act.put, List.setIfInBounds_toArray, List.set_cons_zero, List.set_cons_succ])
        (refine SeqW.skip rfl (by rfl) ?_; simp only [Act.put, List.setIfInBounds_toArray, List.set_cons_zero, List.set_cons_succ])
        (refine SeqW.skip rfl (by rfl) ?_; simp only [Act.put, List.setIfInBounds_toArray, List.set_cons_zero, List.set_cons_succ])
        (refine SeqW.skip rfl (by rfl) ?_; simp only [Act.put, List.setIfInBounds_toArray, List.set_cons_zero, List.set_cons_succ])
        (refine SeqW.skip rfl (by rfl) ?_; simp only [Act.put, List.setIfInBounds_toArray, List.set_cons_zero, List.set_cons_succ])
        (refine SeqW.skip rfl (by rfl) ?_; simp only [Act.put, List.setIfInBounds_toArray, List.set_cons_zero, List.set_cons_succ])
        (refine SeqW.skip rfl (by rfl) ?_; simp only [Act.put, List.setIfInBounds_toArray, List.set_cons_zero, List.set_cons_succ])
        (refine SeqW.skip rfl (by rfl) ?_; simp only [Act.put, List.setIfInBounds_toArray, List.set_cons_zero, List.set_cons_succ])
        (refine SeqW.skip rfl (by rfl) ?_; simp only [Act.put, List.setIfInBounds_toArray, List.set_cons_zero, List.set_cons_succ])
        (refine SeqW.skip rfl (by rfl) ?_; simp only [Act.put, List.setIfInBounds_toArray, List.set_cons_zero, List.set_cons_succ])
        (refine SeqW.skip rfl (by rfl) ?_; simp only [Act.put, List.setIfInBounds_toArray, List.set_cons_zero, List.set_cons_succ])
        (refine SeqW.skip rfl (by rfl) ?_; simp only [Act.put, List.setIfInBounds_toArray, List.set_cons_zero, List.set_cons_succ])
        (refine SeqW.skip rfl (by rfl) ?_; simp only [Act.put, List.setIfInBounds_toArray, List.set_cons_zero, List.set_cons_succ])
        (refine SeqW.take (v := ?_) rfl (by rfl) (fun W hW => ?_) ?_; rotate_left; (go_simp; with_reducible rfl); simp only [Act.put, List.setIfInBounds_toArray, List.set_cons_zero, List.set_cons_succ])
        refine SeqW.done ?_
        go_wp2_with fail
        go_roundw
        case rel => exact ⟨i + 1, pv0, by omega, by go_num, rfl, by omega, by omega, Lib.hid (HP.out), Lib.hid hB.drew.drew⟩
        case measure => simp [intOf]; omega
      · have htd : (tg.data.toList == tk.data.toList) = true := by rw [← hD.out.1, ← hD.out.2]; exact hteq
        have hte : tg.data.toList = tk.data.toList := by simpa using htd
        by_cases hw1 : wh = 1
        · have HP : Hid (dy = plantedTo (l.take (i + 1)) tk.data.toList) := Lib.hid (by rw [hpt, if_pos (by rw [htd, hw1]; rfl)])
          have hb1 : (wh == 1) = true := by simp [hw1]
          have hb2 : (wh == 2) = false := by simp [hw1]
          clear hpt hop hw1 htd hte
          go_wp2_with fail
          refine region_seq (fun W => ∀ p, W.cell? p = wr.cell? p) [(0, true), (1, true), (2, true), (3, true), (4, true), (5, true), (6, true), (7, true), (8, true), (9, true), (10, true), (11, true), (12, true), (13, true), (14, true), (15, true), (16, true), (17, true)]
            (by kernel_rfl) (by kernel_rfl) (by kernel_rfl) (by simp) (fun _ _ _ _ h => h) (fun _ => rfl) ?_
          (refine SeqW.take (v := ?_) rfl (by rfl) (fun W hW => ?_) ?_; rotate_left; (go_simp; with_reducible rfl); simp only [Act.put, List.setIfInBounds_toArray, List.set_cons_zero, List.set_cons_succ])
          (refine SeqW.take (v := ?_) rfl (by rfl) (fun W hW => ?_) ?_; rotate_left; (go_simp; with_reducible rfl); simp only [Act.put, List.setIfInBounds_toArray, List.set_cons_zero, List.set_cons_succ])
          (refine SeqW.take (v := ?_) rfl (by rfl) (fun W hW => ?_) ?_; rotate_left; (go_simp; with_reducible rfl); simp only [Act.put, List.setIfInBounds_toArray, List.set_cons_zero, List.set_cons_succ])
          (refine SeqW.take (v := ?_) rfl (by rfl) (fun W hW => ?_) ?_; rotate_left; (go_simp; with_reducible rfl); simp only [Act.put, List.setIfInBounds_toArray, List.set_cons_zero, List.set_cons_succ])
          (refine SeqW.take (v := ?_) rfl (by rfl) (fun W hW => ?_) ?_; rotate_left; (have l0 := (hW _).trans f0; have l1 := (hW _).trans f1; have l2 := (hW _).trans f2; have l3 := (hW _).trans z4; go_simp; with_reducible rfl); simp only [Act.put, List.setIfInBounds_toArray, List.set_cons_zero, List.set_cons_succ])
          (refine SeqW.take (v := ?_) rfl (by rfl) (fun W hW => ?_) ?_; rotate_left; (go_simp; with_reducible rfl); simp only [Act.put, List.setIfInBounds_toArray, List.set_cons_zero, List.set_cons_succ])
          (refine SeqW.take (v := ?_) rfl (by rfl) (fun W hW => ?_) ?_; rotate_left; (go_simp; with_reducible rfl); simp only [Act.put, List.setIfInBounds_toArray, List.set_cons_zero, List.set_cons_succ])
          (refine SeqW.take (v := ?_) rfl (by rfl) (fun W hW => ?_) ?_; rotate_left; (go_simp; with_reducible rfl); simp only [Act.put, List.setIfInBounds_toArray, List.set_cons_zero, List.set_cons_succ])
          (refine SeqW.take (v := ?_) rfl (by rfl) (fun W hW => ?_) ?_; rotate_left; (have l0 := (hW _).trans f0; have l1 := (hW _).trans f1; have l2 := (hW _).trans f2; have l3 := (hW _).trans z4; go_simp; with_reducible rfl); simp only [Act.put, List.setIfInBounds_toArray, List.set_cons_zero, List.set_cons_succ])
          (refine SeqW.take (v := ?_) rfl (by rfl) (fun W hW => ?_) ?_; rotate_left; (go_simp; with_reducible rfl); simp only [Act.put, List.setIfInBounds_toArray, List.set_cons_zero, List.set_cons_succ])
          (refine SeqW.take (v := ?_) rfl (by rfl) (fun W hW => ?_) ?_; rotate_left; (go_simp; with_reducible rfl); simp only [Act.put, List.setIfInBounds_toArray, List.set_cons_zero, List.set_cons_succ])
          (refine SeqW.take (v := ?_) rfl (by rfl) (fun W hW => ?_) ?_; rotate_left; (go_simp; with_reducible rfl); simp only [Act.put, List.setIfInBounds_toArray, List.set_cons_zero, List.set_cons_succ])
          (refine SeqW.take (v := ?_) rfl (by rfl) (fun W hW => ?_) ?_; rotate_left; (go_simp; with_reducible rfl); simp only [Act.put, List.setIfInBounds_toArray, List.set_cons_zero, List.set_cons_succ])
          (refine SeqW.take (v := ?_) rfl (by rfl) (fun W hW => ?_) ?_; rotate_left; (go_simp; with_reducible rfl); simp only [Act.put, List.setIfInBounds_toArray, List.set_cons_zero, List.set_cons_succ])
          (refine SeqW.take (v := ?_) rfl (by rfl) (fun W hW => ?_) ?_; rotate_left; (go_simp; with_reducible rfl); simp only [Act.put, List.setIfInBounds_toArray, List.set_cons_zero, List.set_cons_succ])
          (refine SeqW.take (v := ?_) rfl (by rfl) (fun W hW => ?_) ?_; rotate_left; (have l0 := (hW _).trans f0; have l1 := (hW _).trans f1; have l2 := (hW _).trans f2; have l3 := (hW _).trans z4; go_simp; with_reducible rfl); simp only [Act.put, List.setIfInBounds_toArray, List.set_cons_zero, List.set_cons_succ])
          (refine SeqW.take (v := ?_) rfl (by rfl) (fun W hW => ?_) ?_; rotate_left; (go_simp; with_reducible rfl); simp only [Act.put, List.setIfInBounds_toArray, List.set_cons_zero, List.set_cons_succ])
          (refine SeqW.take (v := ?_) rfl (by rfl) (fun W hW => ?_) ?_; rotate_left; (go_simp; with_reducible rfl); simp only [Act.put, List.setIfInBounds_toArray, List.set_cons_zero, List.set_cons_succ])
          refine SeqW.done ?_
          have f0' : wr.drew.cell? ⟨b, off + i * 3, none⟩ = some (.int .i64 dy) := f0
          go_wp2_with fail
          refine region_seq (fun W => ∀ p, W.cell? p = wr.cell? p) [(0, true), (1, true), (2, true), (3, true), (4, true), (5, true), (6, true), (7, true), (8, true), (9, true), (10, true), (11, true), (12, true), (13, true), (14, true), (15, true), (16, true), (17, true), (18, true), (19, true), (20, true), (21, true), (22, true), (23, true), (24, true), (25, true), (26, true), (27, true), (28, true), (29, true), (30, true), (31, true)]
            (by kernel_rfl) (by kernel_rfl) (by kernel_rfl) (by simp) (fun _ _ _ _ h => h) (fun _ => rfl) ?_
          (refine SeqW.take (v := ?_) rfl (by rfl) (fun W hW => ?_) ?_; rotate_left; (go_simp; with_reducible rfl); simp only [Act.put, List.setIfInBounds_toArray, List.set_cons_zero, List.set_cons_succ])
          (refine SeqW.take (v := ?_) rfl (by rfl) (fun W hW => ?_) ?_; rotate_left; (go_simp; with_reducible rfl); simp only [Act.put, List.setIfInBounds_toArray, List.set_cons_zero, List.set_cons_succ])
          (refine SeqW.take (v := ?_) rfl (by rfl) (fun W hW => ?_) ?_; rotate_left; (go_simp; with_reducible rfl); simp only [Act.put, List.setIfInBounds_toArray, List.set_cons_zero, List.set_cons_succ])
          (refine SeqW.take (v := ?_) rfl (by rfl) (fun W hW => ?_) ?_; rotate_left; (go_simp; with_reducible rfl); simp only [Act.put, List.setIfInBounds_toArray, List.set_cons_zero, List.set_cons_succ])
          (refine SeqW.take (v := ?_) rfl (by rfl) (fun W hW => ?_) ?_; rotate_left; (have l0 := (hW _).trans f0; have l1 := (hW _).trans f1; have l2 := (hW _).trans f2; have l3 := (hW _).trans z4; go_simp; with_reducible rfl); simp only [Act.put, List.setIfInBounds_toArray, List.set_cons_zero, List.set_cons_succ])
          (refine SeqW.take (v := ?_) rfl (by rfl) (fun W hW => ?_) ?_; rotate_left; (go_simp; with_reducible rfl); simp only [Act.put, List.setIfInBounds_toArray, List.set_cons_zero, List.set_cons_succ])
          (refine SeqW.take (v := ?_) rfl (by rfl) (fun W hW => ?_) ?_; rotate_left; (go_simp; with_reducible rfl); simp only [Act.put, List.setIfInBounds_toArray, List.set_cons_zero, List.set_cons_succ])
          (refine SeqW.take (v := ?_) rfl (by rfl) (fun W hW => ?_) ?_; rotate_left; (go_simp; with_reducible rfl); simp only [Act.put, List.setIfInBounds_toArray, List.set_cons_zero, List.set_cons_succ])
          (refine SeqW.take (v := ?_) rfl (by rfl) (fun W hW => ?_) ?_; rotate_left; (have l0 := (hW _).trans f0; have l1 := (hW _).trans f1; have l2 := (hW _).trans f2; have l3 := (hW _).trans z4; go_simp; with_reducible rfl); simp only [Act.put, List.setIfInBounds_toArray, List.set_cons_zero, List.set_cons_succ])
          (refine SeqW.take (v := ?_) rfl (by rfl) (fun W hW => ?_) ?_; rotate_left; (go_simp; with_reducible rfl); simp only [Act.put, List.setIfInBounds_toArray, List.set_cons_zero, List.set_cons_succ])
          (refine SeqW.take (v := ?_) rfl (by rfl) (fun W hW => ?_) ?_; rotate_left; (go_simp; with_reducible rfl); simp only [Act.put, List.setIfInBounds_toArray, List.set_cons_zero, List.set_cons_succ])
          (refine SeqW.take (v := ?_) rfl (by rfl) (fun W hW => ?_) ?_; rotate_left; (go_simp; with_reducible rfl); simp only [Act.put, List.setIfInBounds_toArray, List.set_cons_zero, List.set_cons_succ])
          (refine SeqW.take (v := ?_) rfl (by rfl) (fun W hW => ?_) ?_; rotate_left; (go_simp; with_reducible rfl); simp only [Act.put, List.setIfInBounds_toArray, List.set_cons_zero, List.set_cons_succ])
          (refine SeqW.take (v := ?_) rfl (by rfl) (fun W hW => ?_) ?_; rotate_left; (go_simp; with_reducible rfl); simp only [Act.put, List.setIfInBounds_toArray, List.set_cons_zero, List.set_cons_succ])
          (refine SeqW.take (v := ?_) rfl (by rfl) (fun W hW => ?_) ?_; rotate_left; (go_simp; with_reducible rfl); simp only [Act.put, List.setIfInBounds_toArray, List.set_cons_zero, List.set_cons_succ])
          (refine SeqW.take (v := ?_) rfl (by rfl) (fun W hW => ?_) ?_; rotate_left; (have l0 := (hW _).trans f0; have l1 := (hW _).trans f1; have l2 := (hW _).trans f2; have l3 := (hW _).trans z4; go_simp; with_reducible rfl); simp only [Act.put, List.setIfInBounds_toArray, List.set_cons_zero, List.set_cons_succ])
          (refine SeqW.take (v := ?_) rfl (by rfl) (fun W hW => ?_) ?_; rotate_left; (go_simp; with_reducible rfl); simp only [Act.put, List.setIfInBounds_toArray, List.set_cons_zero, List.set_cons_succ])
          (refine SeqW.take (v := ?_) rfl (by rfl) (fun W hW => ?_) ?_; rotate_left; (go_simp; with_reducible rfl); simp only [Act.put, List.setIfInBounds_toArray, List.set_cons_zero, List.set_cons_succ])
          (refine SeqW.take (v := ?_) rfl (by rfl) (fun W hW => ?_) ?_; rotate_left; (go_simp; with_reducible rfl); simp only [Act.put, List.setIfInBounds_toArray, List.set_cons_zero, List.set_cons_succ])
          (refine SeqW.skip rfl (by rfl) ?_; simp only [Act.put, List.setIfInBounds_toArray, List.set_cons_zero, List.set_cons_succ])
          (refine SeqW.skip rfl (by rfl) ?_; simp only [Act.put, List.setIfInBounds_toArray, List.set_cons_zero, List.set_cons_succ])
          (refine SeqW.skip rfl (by rfl) ?_; simp only [Act.put, List.setIfInBounds_toArray, List.set_cons_zero, List.set_cons_succ])
          (refine SeqW.skip rfl (by rfl) ?_; simp only [Act.put, List.setIfInBounds_toArray, List.set_cons_zero, List.set_cons_succ])
          (refine SeqW.skip rfl (by rfl) ?_; simp only [Act.put, List.setIfInBounds_toArray, List.set_cons_zero, List.set_cons_succ])
          (refine SeqW.skip rfl (by rfl) ?_; simp only [Act.put, List.setIfInBounds_toArray, List.set_cons_zero, List.set_cons_succ])
          (refine SeqW.skip rfl (by rfl) ?_; simp only [Act.put, List.setIfInBounds_toArray, List.set_cons_zero, List.set_cons_succ])
          (refine SeqW.skip rfl (by rfl) ?_; simp only [Act.put, List.setIfInBounds_toArray, List.set_cons_zero, List.set_cons_succ])
          (refine SeqW.skip rfl (by rfl) ?_; simp only [Act.put, List.setIfInBounds_toArray, List.set_cons_zero, List.set_cons_succ])
          (refine SeqW.skip rfl (by rfl) ?_; simp only [Act.put, List.setIfInBounds_toArray, List.set_cons_zero, List.set_cons_succ])
          (refine SeqW.skip rfl (by rfl) ?_; simp only [Act.put, List.setIfInBounds_toArray, List.set_cons_zero, List.set_cons_succ])
          (refine SeqW.skip rfl (by rfl) ?_; simp only [Act.put, List.setIfInBounds_toArray, List.set_cons_zero, List.set_cons_succ])
          (refine SeqW.take (v := ?_) rfl (by rfl) (fun W hW => ?_) ?_; rotate_left; (go_simp; with_reducible rfl); simp only [Act.put, List.setIfInBounds_toArray, List.set_cons_zero, List.set_cons_succ])
          refine SeqW.done ?_
          go_wp2_with fail
          go_roundw
          case rel => exact ⟨i + 1, dy, by omega, by go_num, rfl, by omega, by omega, Lib.hid (HP.out), Lib.hid hB.drew.drew⟩
          case measure => simp [intOf]; omega
        · have HP : Hid (pv0 = plantedTo (l.take (i + 1)) tk.data.toList) := Lib.hid (by rw [hpt, if_neg (by simp [hw1])]; exact HPV.out)
          have hb1 : (wh == 1) = false := by simpa using hw1
          by_cases hw2 : wh = 2
          · have hb2 : (wh == 2) = true := by simpa using hw2
            have ho := hop hw2
            rw [hte, ← HPV.out] at ho
            have hc1 : decide (pv0 < 0) = false := by rw [decide_eq_false_iff_not]; omega
            have hws : IntKind.i64.wrap (dy - pv0) = dy - pv0 := by rw [IntKind.wrap_i64]; omega
            have hc2 : decide (dy - pv0 < 1000) = false := by rw [decide_eq_false_iff_not]; omega
            clear hpt hop hw1 hw2 htd hte
            go_wp2_with fail
            refine region_seq (fun W => ∀ p, W.cell? p = wr.cell? p) [(0, true), (1, true), (2, true), (3, true), (4, true), (5, true), (6, true), (7, true), (8, true), (9, true), (10, true), (11, true), (12, true), (13, true), (14, true), (15, true), (16, true), (17, true)]
              (by kernel_rfl) (by kernel_rfl) (by kernel_rfl) (by simp) (fun _ _ _ _ h => h) (fun _ => rfl) ?_
            (refine SeqW.take (v := ?_) rfl (by rfl) (fun W hW => ?_) ?_; rotate_left; (go_simp; with_reducible rfl); simp only [Act.put, List.setIfInBounds_toArray, List.set_cons_zero, List.set_cons_succ])
            (refine SeqW.take (v := ?_) rfl (by rfl) (fun W hW => ?_) ?_; rotate_left; (go_simp; with_reducible rfl); simp only [Act.put, List.setIfInBounds_toArray, List.set_cons_zero, List.set_cons_succ])
            (refine SeqW.take (v := ?_) rfl (by rfl) (fun W hW => ?_) ?_; rotate_left; (go_simp; with_reducible rfl); simp only [Act.put, List.setIfInBounds_toArray, List.set_cons_zero, List.set_cons_succ])
            (refine SeqW.take (v := ?_) rfl (by rfl) (fun W hW => ?_) ?_; rotate_left; (go_simp; with_reducible rfl); simp only [Act.put, List.setIfInBounds_toArray, List.set_cons_zero, List.set_cons_succ])
            (refine SeqW.take (v := ?_) rfl (by rfl) (fun W hW => ?_) ?_; rotate_left; (have l0 := (hW _).trans f0; have l1 := (hW _).trans f1; have l2 := (hW _).trans f2; have l3 := (hW _).trans z4; go_simp; with_reducible rfl); simp only [Act.put, List.setIfInBounds_toArray, List.set_cons_zero, List.set_cons_succ])
            (refine SeqW.take (v := ?_) rfl (by rfl) (fun W hW => ?_) ?_; rotate_left; (go_simp; with_reducible rfl); simp only [Act.put, List.setIfInBounds_toArray, List.set_cons_zero, List.set_cons_succ])
            (refine SeqW.take (v := ?_) rfl (by rfl) (fun W hW => ?_) ?_; rotate_left; (go_simp; with_reducible rfl); simp only [Act.put, List.setIfInBounds_toArray, List.set_cons_zero, List.set_cons_succ])
            (refine SeqW.take (v := ?_) rfl (by rfl) (fun W hW => ?_) ?_; rotate_left; (go_simp; with_reducible rfl); simp only [Act.put, List.setIfInBounds_toArray, List.set_cons_zero, List.set_cons_succ])
            (refine SeqW.take (v := ?_) rfl (by rfl) (fun W hW => ?_) ?_; rotate_left; (have l0 := (hW _).trans f0; have l1 := (hW _).trans f1; have l2 := (hW _).trans f2; have l3 := (hW _).trans z4; go_simp; with_reducible rfl); simp only [Act.put, List.setIfInBounds_toArray, List.set_cons_zero, List.set_cons_succ])
            (refine SeqW.take (v := ?_) rfl (by rfl) (fun W hW => ?_) ?_; rotate_left; (go_simp; with_reducible rfl); simp only [Act.put, List.setIfInBounds_toArray, List.set_cons_zero, List.set_cons_succ])
            (refine SeqW.take (v := ?_) rfl (by rfl) (fun W hW => ?_) ?_; rotate_left; (go_simp; with_reducible rfl); simp only [Act.put, List.setIfInBounds_toArray, List.set_cons_zero, List.set_cons_succ])
            (refine SeqW.take (v := ?_) rfl (by rfl) (fun W hW => ?_) ?_; rotate_left; (go_simp; with_reducible rfl); simp only [Act.put, List.setIfInBounds_toArray, List.set_cons_zero, List.set_cons_succ])
            (refine SeqW.take (v := ?_) rfl (by rfl) (fun W hW => ?_) ?_; rotate_left; (go_simp; with_reducible rfl); simp only [Act.put, List.setIfInBounds_toArray, List.set_cons_zero, List.set_cons_succ])
            (refine SeqW.take (v := ?_) rfl (by rfl) (fun W hW => ?_) ?_; rotate_left; (go_simp; with_reducible rfl); simp only [Act.put, List.setIfInBounds_toArray, List.set_cons_zero, List.set_cons_succ])
            (refine SeqW.take (v := ?_) rfl (by rfl) (fun W hW => ?_) ?_; rotate_left; (go_simp; with_reducible rfl); simp only [Act.put, List.setIfInBounds_toArray, List.set_cons_zero, List.set_cons_succ])
            (refine SeqW.take (v := ?_) rfl (by rfl) (fun W hW => ?_) ?_; rotate_left; (have l0 := (hW _).trans f0; have l1 := (hW _).trans f1; have l2 := (hW _).trans f2; have l3 := (hW _).trans z4; go_simp; with_reducible rfl); simp only [Act.put, List.setIfInBounds_toArray, List.set_cons_zero, List.set_cons_succ])
            (refine SeqW.take (v := ?_) rfl (by rfl) (fun W hW => ?_) ?_; rotate_left; (go_simp; with_reducible rfl); simp only [Act.put, List.setIfInBounds_toArray, List.set_cons_zero, List.set_cons_succ])
            (refine SeqW.take (v := ?_) rfl (by rfl) (fun W hW => ?_) ?_; rotate_left; (go_simp; with_reducible rfl); simp only [Act.put, List.setIfInBounds_toArray, List.set_cons_zero, List.set_cons_succ])
            refine SeqW.done ?_
            go_wp2_with fail
            refine region_seq (fun W => ∀ p, W.cell? p = wr.cell? p) [(0, true), (1, true), (2, true), (3, true), (4, true), (5, true), (6, true), (7, true), (8, true), (9, true), (10, true), (11, true), (12, true), (13, true), (14, true), (15, true), (16, true), (17, true), (18, true), (19, true), (20, true), (21, true), (22, true), (23, true), (24, true), (25, true), (26, true), (27, true), (28, true), (29, true), (30, true), (31, true)]
              (by kernel_rfl) (by kernel_rfl) (by kernel_rfl) (by simp) (fun _ _ _ _ h => h) (fun _ => rfl) ?_
            (refine SeqW.take (v := ?_) rfl (by rfl) (fun W hW => ?_) ?_; rotate_left; (go_simp; with_reducible rfl); simp only [Act.put, List.setIfInBounds_toArray, List.set_cons_zero, List.set_cons_succ])
            (refine SeqW.take (v := ?_) rfl (by rfl) (fun W hW => ?_) ?_; rotate_left; (go_simp; with_reducible rfl); simp only [Act.put, List.setIfInBounds_toArray, List.set_cons_zero, List.set_cons_succ])
            (refine SeqW.take (v := ?_) rfl (by rfl) (fun W hW => ?_) ?_; rotate_left; (go_simp; with_reducible rfl); simp only [Act.put, List.setIfInBounds_toArray, List.set_cons_zero, List.set_cons_succ])
            (refine SeqW.take (v := ?_) rfl (by rfl) (fun W hW => ?_) ?_; rotate_left; (go_simp; with_reducible rfl); simp only [Act.put, List.setIfInBounds_toArray, List.set_cons_zero, List.set_cons_succ])
            (refine SeqW.take (v := ?_) rfl (by rfl) (fun W hW => ?_) ?_; rotate_left; (have l0 := (hW _).trans f0; have l1 := (hW _).trans f1; have l2 := (hW _).trans f2; have l3 := (hW _).trans z4; go_simp; with_reducible rfl); simp only [Act.put, List.setIfInBounds_toArray, List.set_cons_zero, List.set_cons_succ])
            (refine SeqW.take (v := ?_) rfl (by rfl) (fun W hW => ?_) ?_; rotate_left; (go_simp; with_reducible rfl); simp only [Act.put, List.setIfInBounds_toArray, List.set_cons_zero, List.set_cons_succ])
            (refine SeqW.take (v := ?_) rfl (by rfl) (fun W hW => ?_) ?_; rotate_left; (go_simp; with_reducible rfl); simp only [Act.put, List.setIfInBounds_toArray, List.set_cons_zero, List.set_cons_succ])
            (refine SeqW.take (v := ?_) rfl (by rfl) (fun W hW => ?_) ?_; rotate_left; (go_simp; with_reducible rfl); simp only [Act.put, List.setIfInBounds_toArray, List.set_cons_zero, List.set_cons_succ])
            (refine SeqW.take (v := ?_) rfl (by rfl) (fun W hW => ?_) ?_; rotate_left; (have l0 := (hW _).trans f0; have l1 := (hW _).trans f1; have l2 := (hW _).trans f2; have l3 := (hW _).trans z4; go_simp; with_reducible rfl); simp only [Act.put, List.setIfInBounds_toArray, List.set_cons_zero, List.set_cons_succ])
            (refine SeqW.take (v := ?_) rfl (by rfl) (fun W hW => ?_) ?_; rotate_left; (go_simp; with_reducible rfl); simp only [Act.put, List.setIfInBounds_toArray, List.set_cons_zero, List.set_cons_succ])
            (refine SeqW.take (v := ?_) rfl (by rfl) (fun W hW => ?_) ?_; rotate_left; (go_simp; with_reducible rfl); simp only [Act.put, List.setIfInBounds_toArray, List.set_cons_zero, List.set_cons_succ])
            (refine SeqW.take (v := ?_) rfl (by rfl) (fun W hW => ?_) ?_; rotate_left; (go_simp; with_reducible rfl); simp only [Act.put, List.setIfInBounds_toArray, List.set_cons_zero, List.set_cons_succ])
            (refine SeqW.take (v := ?_) rfl (by rfl) (fun W hW => ?_) ?_; rotate_left; (go_simp; with_reducible rfl); simp only [Act.put, List.setIfInBounds_toArray, List.set_cons_zero, List.set_cons_succ])
            (refine SeqW.take (v := ?_) rfl (by rfl) (fun W hW => ?_) ?_; rotate_left; (go_simp; with_reducible rfl); simp only [Act.put, List.setIfInBounds_toArray, List.set_cons_zero, List.set_cons_succ])
            (refine SeqW.take (v := ?_) rfl (by rfl) (fun W hW => ?_) ?_; rotate_left; (go_simp; with_reducible rfl); simp only [Act.put, List.setIfInBounds_toArray, List.set_cons_zero, List.set_cons_succ])
            (refine SeqW.take (v := ?_) rfl (by rfl) (fun W hW => ?_) ?_; rotate_left; (have l0 := (hW _).trans f0; have l1 := (hW _).trans f1; have l2 := (hW _).trans f2; have l3 := (hW _).trans z4; go_simp; with_reducible rfl); simp only [Act.put, List.setIfInBounds_toArray, List.set_cons_zero, List.set_cons_succ])
            (refine SeqW.take (v := ?_) rfl (by rfl) (fun W hW => ?_) ?_; rotate_left; (go_simp; with_reducible rfl); simp only [Act.put, List.setIfInBounds_toArray, List.set_cons_zero, List.set_cons_succ])
            (refine SeqW.take (v := ?_) rfl (by rfl) (fun W hW => ?_) ?_; rotate_left; (go_simp; with_reducible rfl); simp only [Act.put, List.setIfInBounds_toArray, List.set_cons_zero, List.set_cons_succ])
            (refine SeqW.take (v := ?_) rfl (by rfl) (fun W hW => ?_) ?_; rotate_left; (go_simp; with_reducible rfl); simp only [Act.put, List.setIfInBounds_toArray, List.set_cons_zero, List.set_cons_succ])
            (refine SeqW.take (v := ?_) rfl (by rfl) (fun W hW => ?_) ?_; rotate_left; (go_simp; with_reducible rfl); simp only [Act.put, List.setIfInBounds_toArray, List.set_cons_zero, List.set_cons_succ])
            (refine SeqW.take (v := ?_) rfl (by rfl) (fun W hW => ?_) ?_; rotate_left; (go_simp; with_reducible rfl); simp only [Act.put, List.setIfInBounds_toArray, List.set_cons_zero, List.set_cons_succ])
            (refine SeqW.take (v := ?_) rfl (by rfl) (fun W hW => ?_) ?_; rotate_left; (go_simp; with_reducible rfl); simp only [Act.put, List.setIfInBounds_toArray, List.set_cons_zero, List.set_cons_succ])
            (refine SeqW.take (v := ?_) rfl (by rfl) (fun W hW => ?_) ?_; rotate_left; (go_simp; with_reducible rfl); simp only [Act.put, List.setIfInBounds_toArray, List.set_cons_zero, List.set_cons_succ])
            (refine SeqW.take (v := ?_) rfl (by rfl) (fun W hW => ?_) ?_; rotate_left; (go_simp; with_reducible rfl); simp only [Act.put, List.setIfInBounds_toArray, List.set_cons_zero, List.set_cons_succ])
            (refine SeqW.take (v := ?_) rfl (by rfl) (fun W hW => ?_) ?_; rotate_left; (go_simp; with_reducible rfl); simp only [Act.put, List.setIfInBounds_toArray, List.set_cons_zero, List.set_cons_succ])
            (refine SeqW.take (v := ?_) rfl (by rfl) (fun W hW => ?_) ?_; rotate_left; (go_simp; with_reducible rfl); simp only [Act.put, List.setIfInBounds_toArray, List.set_cons_zero, List.set_cons_succ])
            (refine SeqW.take (v := ?_) rfl (by rfl) (fun W hW => ?_) ?_; rotate_left; (have l0 := (hW _).trans f0; have l1 := (hW _).trans f1; have l2 := (hW _).trans f2; have l3 := (hW _).trans z4; go_simp; with_reducible rfl); simp only [Act.put, List.setIfInBounds_toArray, List.set_cons_zero, List.set_cons_succ])
            (refine SeqW.take (v := ?_) rfl (by rfl) (fun W hW => ?_) ?_; rotate_left; (go_simp; with_reducible rfl); simp only [Act.put, List.setIfInBounds_toArray, List.set_cons_zero, List.set_cons_succ])
            (refine SeqW.take (v := ?_) rfl (by rfl) (fun W hW => ?_) ?_; rotate_left; (go_simp; with_reducible rfl); simp only [Act.put, List.setIfInBounds_toArray, List.set_cons_zero, List.set_cons_succ])
            (refine SeqW.take (v := ?_) rfl (by rfl) (fun W hW => ?_) ?_; rotate_left; (go_simp; with_reducible rfl); simp only [Act.put, List.setIfInBounds_toArray, List.set_cons_zero, List.set_cons_succ])
            (refine SeqW.take (v := ?_) rfl (by rfl) (fun W hW => ?_) ?_; rotate_left; (go_simp; with_reducible rfl); simp only [Act.put, List.setIfInBounds_toArray, List.set_cons_zero, List.set_cons_succ])
            (refine SeqW.take (v := ?_) rfl (by rfl) (fun W hW => ?_) ?_; rotate_left; (go_simp; with_reducible rfl); simp only [Act.put, List.setIfInBounds_toArray, List.set_cons_zero, List.set_cons_succ])
            refine SeqW.done ?_
            go_wp2_with fail
            go_roundw
            case rel => exact ⟨i + 1, pv0, by omega, by go_num, rfl, by omega, by omega, Lib.hid (HP.out), Lib.hid hB.drew.drew⟩
            case measure => simp [intOf]; omega
          · have hb2 : (wh == 2) = false := by simpa using hw2
            clear hpt hop hw1 hw2 htd hte
            go_wp2_with fail
            refine region_seq (fun W => ∀ p, W.cell? p = wr.cell? p) [(0, true), (1, true), (2, true), (3, true), (4, true), (5, true), (6, true), (7, true), (8, true), (9, true), (10, true), (11, true), (12, true), (13, true), (14, true), (15, true), (16, true), (17, true)]
              (by kernel_rfl) (by kernel_rfl) (by kernel_rfl) (by simp) (fun _ _ _ _ h => h) (fun _ => rfl) ?_
            (refine SeqW.take (v := ?_) rfl (by rfl) (fun W hW => ?_) ?_; rotate_left; (go_simp; with_reducible rfl); simp only [Act.put, List.setIfInBounds_toArray, List.set_cons_zero, List.set_cons_succ])
            (refine SeqW.take (v := ?_) rfl (by rfl) (fun W hW => ?_) ?_; rotate_left; (go_simp; with_reducible rfl); simp only [Act.put, List.setIfInBounds_toArray, List.set_cons_zero, List.set_cons_succ])
            (refine SeqW.take (v := ?_) rfl (by rfl) (fun W hW => ?_) ?_; rotate_left; (go_simp; with_reducible rfl); simp only [Act.put, List.setIfInBounds_toArray, List.set_cons_zero, List.set_cons_succ])
            (refine SeqW.take (v := ?_) rfl (by rfl) (fun W hW => ?_) ?_; rotate_left; (go_simp; with_reducible rfl); simp only [Act.put, List.setIfInBounds_toArray, List.set_cons_zero, List.set_cons_succ])
            (refine SeqW.take (v := ?_) rfl (by rfl) (fun W hW => ?_) ?_; rotate_left; (have l0 := (hW _).trans f0; have l1 := (hW _).trans f1; have l2 := (hW _).trans f2; have l3 := (hW _).trans z4; go_simp; with_reducible rfl); simp only [Act.put, List.setIfInBounds_toArray, List.set_cons_zero, List.set_cons_succ])
            (refine SeqW.take (v := ?_) rfl (by rfl) (fun W hW => ?_) ?_; rotate_left; (go_simp; with_reducible rfl); simp only [Act.put, List.setIfInBounds_toArray, List.set_cons_zero, List.set_cons_succ])
            (refine SeqW.take (v := ?_) rfl (by rfl) (fun W hW => ?_) ?_; rotate_left; (go_simp; with_reducible rfl); simp only [Act.put, List.setIfInBounds_toArray, List.set_cons_zero, List.set_cons_succ])
            (refine SeqW.take (v := ?_) rfl (by rfl) (fun W hW => ?_) ?_; rotate_left; (go_simp; with_reducible rfl); simp only [Act.put, List.setIfInBounds_toArray, List.set_cons_zero, List.set_cons_succ])
            (refine SeqW.take (v := ?_) rfl (by rfl) (fun W hW => ?_) ?_; rotate_left; (have l0 := (hW _).trans f0; have l1 := (hW _).trans f1; have l2 := (hW _).trans f2; have l3 := (hW _).trans z4; go_simp; with_reducible rfl); simp only [Act.put, List.setIfInBounds_toArray, List.set_cons_zero, List.set_cons_succ])
            (refine SeqW.take (v := ?_) rfl (by rfl) (fun W hW => ?_) ?_; rotate_left; (go_simp; with_reducible rfl); simp only [Act.put, List.setIfInBounds_toArray, List.set_cons_zero, List.set_cons_succ])
            (refine SeqW.take (v := ?_) rfl (by rfl) (fun W hW => ?_) ?_; rotate_left; (go_simp; with_reducible rfl); simp only [Act.put, List.setIfInBounds_toArray, List.set_cons_zero, List.set_cons_succ])
            (refine SeqW.take (v := ?_) rfl (by rfl) (fun W hW => ?_) ?_; rotate_left; (go_simp; with_reducible rfl); simp only [Act.put, List.setIfInBounds_toArray, List.set_cons_zero, List.set_cons_succ])
            (refine SeqW.take (v := ?_) rfl (by rfl) (fun W hW => ?_) ?_; rotate_left; (go_simp; with_reducible rfl); simp only [Act.put, List.setIfInBounds_toArray, List.set_cons_zero, List.set_cons_succ])
            (refine SeqW.take (v := ?_) rfl (by rfl) (fun W hW => ?_) ?_; rotate_left; (go_simp; with_reducible rfl); simp only [Act.put, List.setIfInBounds_toArray, List.set_cons_zero, List.set_cons_succ])
            (refine SeqW.take (v := ?_) rfl (by rfl) (fun W hW => ?_) ?_; rotate_left; (go_simp; with_reducible rfl); simp only [Act.put, List.setIfInBounds_toArray, List.set_cons_zero, List.set_cons_succ])
            (refine SeqW.take (v := ?_) rfl (by rfl) (fun W hW => ?_) ?_; rotate_left; (have l0 := (hW _).trans f0; have l1 := (hW _).trans f1; have l2 := (hW _).trans f2; have l3 := (hW _).trans z4; go_simp; with_reducible rfl); simp only [Act.put, List.setIfInBounds_toArray, List.set_cons_zero, List.set_cons_succ])
            (refine SeqW.take (v := ?_) rfl (by rfl) (fun W hW => ?_) ?_; rotate_left; (go_simp; with_reducible rfl); simp only [Act.put, List.setIfInBounds_toArray, List.set_cons_zero, List.set_cons_succ])
            (refine SeqW.take (v := ?_) rfl (by rfl) (fun W hW => ?_) ?_; rotate_left; (go_simp; with_reducible rfl); simp only [Act.put, List.setIfInBounds_toArray, List.set_cons_zero, List.set_cons_succ])
            refine SeqW.done ?_
            go_wp2_with fail
            refine region_seq (fun W => ∀ p, W.cell? p = wr.cell? p) [(0, true), (1, true), (2, true), (3, true), (4, true), (5, true), (6, true), (7, true), (8, true), (9, true), (10, true), (11, true), (12, true), (13, true), (14, true), (15, true), (16, true), (17, true), (18, true), (19, true), (20, true), (21, true), (22, true), (23, true), (24, true), (25, true), (26, true), (27, true), (28, true), (29, true), (30, true), (31, true)]
              (by kernel_rfl) (by kernel_rfl) (by kernel_rfl) (by simp) (fun _ _ _ _ h => h) (fun _ => rfl) ?_
            (refine SeqW.take (v := ?_) rfl (by rfl) (fun W hW => ?_) ?_; rotate_left; (go_simp; with_reducible rfl); simp only [Act.put, List.setIfInBounds_toArray, List.set_cons_zero, List.set_cons_succ])
            (refine SeqW.take (v := ?_) rfl (by rfl) (fun W hW => ?_) ?_; rotate_left; (go_simp; with_reducible rfl); simp only [Act.put, List.setIfInBounds_toArray, List.set_cons_zero, List.set_cons_succ])
            (refine SeqW.take (v := ?_) rfl (by rfl) (fun W hW => ?_) ?_; rotate_left; (go_simp; with_reducible rfl); simp only [Act.put, List.setIfInBounds_toArray, List.set_cons_zero, List.set_cons_succ])
            (refine SeqW.take (v := ?_) rfl (by rfl) (fun W hW => ?_) ?_; rotate_left; (go_simp; with_reducible rfl); simp only [Act.put, List.setIfInBounds_toArray, List.set_cons_zero, List.set_cons_succ])
            (refine SeqW.take (v := ?_) rfl (by rfl) (fun W hW => ?_) ?_; rotate_left; (have l0 := (hW _).trans f0; have l1 := (hW _).trans f1; have l2 := (hW _).trans f2; have l3 := (hW _).trans z4; go_simp; with_reducible rfl); simp only [Act.put, List.setIfInBounds_toArray, List.set_cons_zero, List.set_cons_succ])
            (refine SeqW.take (v := ?_) rfl (by rfl) (fun W hW => ?_) ?_; rotate_left; (go_simp; with_reducible rfl); simp only [Act.put, List.setIfInBounds_toArray, List.set_cons_zero, List.set_cons_succ])
            (refine SeqW.take (v := ?_) rfl (by rfl) (fun W hW => ?_) ?_; rotate_left; (go_simp; with_reducible rfl); simp only [Act.put, List.setIfInBounds_toArray, List.set_cons_zero, List.set_cons_succ])
            (refine SeqW.take (v := ?_) rfl (by rfl) (fun W hW => ?_) ?_; rotate_left; (go_simp; with_reducible rfl); simp only [Act.put, List.setIfInBounds_toArray, List.set_cons_zero, List.set_cons_succ])
            (refine SeqW.take (v := ?_) rfl (by rfl) (fun W hW => ?_) ?_; rotate_left; (have l0 := (hW _).trans f0; have l1 := (hW _).trans f1; have l2 := (hW _).trans f2; have l3 := (hW _).trans z4; go_simp; with_reducible rfl); simp only [Act.put, List.setIfInBounds_toArray, List.set_cons_zero, List.set_cons_succ])
            (refine SeqW.take (v := ?_) rfl (by rfl) (fun W hW => ?_) ?_; rotate_left; (go_simp; with_reducible rfl); simp only [Act.put, List.setIfInBounds_toArray, List.set_cons_zero, List.set_cons_succ])
            (refine SeqW.take (v := ?_) rfl (by rfl) (fun W hW => ?_) ?_; rotate_left; (go_simp; with_reducible rfl); simp only [Act.put, List.setIfInBounds_toArray, List.set_cons_zero, List.set_cons_succ])
            (refine SeqW.take (v := ?_) rfl (by rfl) (fun W hW => ?_) ?_; rotate_left; (go_simp; with_reducible rfl); simp only [Act.put, List.setIfInBounds_toArray, List.set_cons_zero, List.set_cons_succ])
            (refine SeqW.take (v := ?_) rfl (by rfl) (fun W hW => ?_) ?_; rotate_left; (go_simp; with_reducible rfl); simp only [Act.put, List.setIfInBounds_toArray, List.set_cons_zero, List.set_cons_succ])
            (refine SeqW.take (v := ?_) rfl (by rfl) (fun W hW => ?_) ?_; rotate_left; (go_simp; with_reducible rfl); simp only [Act.put, List.setIfInBounds_toArray, List.set_cons_zero, List.set_cons_succ])
            (refine SeqW.take (v := ?_) rfl (by rfl) (fun W hW => ?_) ?_; rotate_left; (go_simp; with_reducible rfl); simp only [Act.put, List.setIfInBounds_toArray, List.set_cons_zero, List.set_cons_succ])
            (refine SeqW.take (v := ?_) rfl (by rfl) (fun W hW => ?_) ?_; rotate_left; (have l0 := (hW _).trans f0; have l1 := (hW _).trans f1; have l2 := (hW _).trans f2; have l3 := (hW _).trans z4; go_simp; with_reducible rfl); simp only [Act.put, List.setIfInBounds_toArray, List.set_cons_zero, List.set_cons_succ])
            (refine SeqW.take (v := ?_) rfl (by rfl) (fun W hW => ?_) ?_; rotate_left; (go_simp; with_reducible rfl); simp only [Act.put, List.setIfInBounds_toArray, List.set_cons_zero, List.set_cons_succ])
            (refine SeqW.take (v := ?_) rfl (by rfl) (fun W hW => ?_) ?_; rotate_left; (go_simp; with_reducible rfl); simp only [Act.put, List.setIfInBounds_toArray, List.set_cons_zero, List.set_cons_succ])
            (refine SeqW.take (v := ?_) rfl (by rfl) (fun W hW => ?_) ?_; rotate_left; (go_simp; with_reducible rfl); simp only [Act.put, List.setIfInBounds_toArray, List.set_cons_zero, List.set_cons_succ])
            (refine SeqW.skip rfl (by rfl) ?_; simp only [Act.put, List.setIfInBounds_toArray, List.set_cons_zero, List.set_cons_succ])
            (refine SeqW.skip rfl (by rfl) ?_; simp only [Act.put, List.setIfInBounds_toArray, List.set_cons_zero, List.set_cons_succ])
            (refine SeqW.skip rfl (by rfl) ?_; simp only [Act.put, List.setIfInBounds_toArray, List.set_cons_zero, List.set_cons_succ])
            (refine SeqW.skip rfl (by rfl) ?_; simp only [Act.put, List.setIfInBounds_toArray, List.set_cons_zero, List.set_cons_succ])
            (refine SeqW.skip rfl (by rfl) ?_; simp only [Act.put, List.setIfInBounds_toArray, List.set_cons_zero, List.set_cons_succ])
            (refine SeqW.skip rfl (by rfl) ?_; simp only [Act.put, List.setIfInBounds_toArray, List.set_cons_zero, List.set_cons_succ])
            (refine SeqW.skip rfl (by rfl) ?_; simp only [Act.put, List.setIfInBounds_toArray, List.set_cons_zero, List.set_cons_succ])
            (refine SeqW.skip rfl (by rfl) ?_; simp only [Act.put, List.setIfInBounds_toArray, List.set_cons_zero, List.set_cons_succ])
            (refine SeqW.skip rfl (by rfl) ?_; simp only [Act.put, List.setIfInBounds_toArray, List.set_cons_zero, List.set_cons_succ])
            (refine SeqW.skip rfl (by rfl) ?_; simp only [Act.put, List.setIfInBounds_toArray, List.set_cons_zero, List.set_cons_succ])
            (refine SeqW.skip rfl (by rfl) ?_; simp only [Act.put, List.setIfInBounds_toArray, List.set_cons_zero, List.set_cons_succ])
            (refine SeqW.skip rfl (by rfl) ?_; simp only [Act.put, List.setIfInBounds_toArray, List.set_cons_zero, List.set_cons_succ])
            (refine SeqW.take (v := ?_) rfl (by rfl) (fun W hW => ?_) ?_; rotate_left; (go_simp; with_reducible rfl); simp only [Act.put, List.setIfInBounds_toArray, List.set_cons_zero, List.set_cons_succ])
            refine SeqW.done ?_
            go_wp2_with fail
            go_roundw
            case rel => exact ⟨i + 1, pv0, by omega, by go_num, rfl, by omega, by omega, Lib.hid (HP.out), Lib.hid hB.drew.drew⟩
            case measure => simp [intOf]; omega
end Go.Proofs.YtcjmfacdjdegkaaDoor
