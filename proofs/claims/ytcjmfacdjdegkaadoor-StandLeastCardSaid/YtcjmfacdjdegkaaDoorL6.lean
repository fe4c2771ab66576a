/- The law StandLeast says true. Conditions: the trees and the numbers lie in memory as told; the chapter's examples hold in each world that comes after. -/
import Derived.Test.YtcjmfacdjdegkaaDoorQ6
import Derived.Test.YtcjmfacdjdegkaaDoorBM
import Derived.Test.YtcjmfacdjdegkaaDoorL1
namespace Go.Proofs.YtcjmfacdjdegkaaDoor
open Go Go.RowKit
set_option maxRecDepth 100000 in
set_option maxHeartbeats 4000000 in
theorem standLeast_any (a : Option Addr) (n c : Nat) (ts : List Tree) (lo hi pr ne gap : Int) (oa : Option Addr) (on oc : Nat) (ol : List Int) (more : Int) (w : World) (hT : Trees w a n c ts) (hOA : IntsAt w oa on ol) (hON : on ≤ maxLen)
    (hMo : -9223372036854775808 ≤ more ∧ more ≤ 9223372036854775807)
    (hWk : ∀ W, Below w.heap.size w W → Calls Tryd.prog 24 #[] W fun e w' => e = .returned (.bool true) ∧ Below W.heap.size W w') :
    Calls Tryd.prog 11 #[.agg #[.slice a n c, .int .i64 lo, .int .i64 hi, .int .i64 pr, .int .i64 ne], .int .i64 gap, .slice oa on oc, .int .i64 more] w fun e w' => e = .returned (.bool true) ∧ Below w.heap.size w w' := by
  have HN := Lib.hid hT.len
  have hfit := hT.fits
  have HWk := Lib.hid hWk
  have HON := Lib.hid hON
  have HX : Hid (∀ W, Below (w.heap.size + 1) (w.alloc (.cells #[.slice a n c, .int .i64 lo, .int .i64 hi, .int .i64 pr, .int .i64 ne] 29)) W → Box W w.heap.size #[.slice a n c, .int .i64 lo, .int .i64 hi, .int .i64 pr, .int .i64 ne] 29 ∧ Trees W a n c ts ∧ IntsAt W oa on ol ∧ Below w.heap.size w W ∧ w.heap.size + 1 ≤ W.heap.size) := Lib.hid fun W h => by
    have hB : Below w.heap.size w W := ((Below.refl _ _).alloc (Nat.le_refl _) _).trans (h.mono (by omega))
    exact ⟨(Box.new w _ _).below h (by omega), hT.below hB, hOA.below hB, hB, by have := h.size; simpa using this⟩
  clear hT hWk hOA hON
  obtain ⟨tE, htE⟩ : ∃ v, thinE ⟨ts, lo, hi, pr, ne⟩ gap = v := ⟨_, rfl⟩
  have HTE := Lib.hid htE
  by_cases hE : tE = 0
  case neg =>
    have hz : thinR ⟨ts, lo, hi, pr, ne⟩ gap = ([], 0) := by unfold thinR; rw [if_neg (by rw [htE]; exact hE)]
    have HR := Lib.hid hz
    have hb : (tE != 0) = true := by simpa using hE
    clear hz htE hE
    go_enter Tryd.func11, Tryd.ntmps11
    go_wp2_with fail
    refine (thin_any a n c ts lo hi pr ne gap _ (HX.out _ (Below.refl _ _)).2.1).mono ?_
    rw [HTE.out, HR.out]
    rintro e w2 ⟨v, rfl, hrow, hb2⟩
    obtain ⟨ka, kc, rfl⟩ := row_form hrow
    have hS2 : Below (w.heap.size + 1) (w.alloc (.cells #[.slice a n c, .int .i64 lo, .int .i64 hi, .int .i64 pr, .int .i64 ne] 29)) w2 := hb2.mono (by simp)
    dsimp only [List.length_nil]
    go_wp2_with (go_at_call 24; refine (HWk.out _ (HX.out _ hS2).2.2.2.1).mono ?_; rintro e w7 ⟨rfl, hb7⟩)
    go_ret
    exact ⟨rfl, (HX.out _ hS2).2.2.2.1.trans (hb7.mono (HX.out _ hS2).2.2.2.1.size)⟩
  subst hE
  have hLe := least_facts htE
  obtain ⟨K, hK⟩ : ∃ K, (thinR ⟨ts, lo, hi, pr, ne⟩ gap).1 = K := ⟨_, rfl⟩
  obtain ⟨wo, hwo⟩ : ∃ wo, (thinR ⟨ts, lo, hi, pr, ne⟩ gap).2 = wo := ⟨_, rfl⟩
  rw [hK, hwo] at hLe
  obtain ⟨m1, m2, m3, m4, m5, m6, m7, m8, m9, m10, m11, m12, m13⟩ := hLe
  have HK := Lib.hid hK
  have HWO := Lib.hid hwo
  have HIN : Hid (frB gap 0 100000 = true) := Lib.hid (frB_iff.2 m2)
  have hn14 : n ≤ 14 := by rw [HN.out]; exact m1
  obtain ⟨d, hd⟩ : ∃ d, modN more 200 = d := ⟨_, rfl⟩
  have hdb := modN_range (n := more) (c := 200) (by omega)
  rw [hd] at hdb
  have HD := Lib.hid hd
  obtain ⟨g2, hg2⟩ : ∃ g, min (100000 : Int) (gap + d) = g := ⟨_, rfl⟩
  have hm11 := m11 g2 (by omega) (by omega)
  have HG2 := Lib.hid hg2
  have HT2 := Lib.hid hm11.1
  obtain ⟨ls, hls⟩ : ∃ x, (thinR ⟨ts, lo, hi, pr, ne⟩ g2).2 = x := ⟨_, rfl⟩
  have hlw : ls ≤ wo := by rw [← hls]; exact hm11.2
  have HLS := Lib.hid hls
  have HT0 := Lib.hid m12
  have HAL : Hid ((thinR ⟨ts, lo, hi, pr, ne⟩ 0).1.length = n) := Lib.hid (by rw [m13, HN.out])
  have M3 := Lib.hid m3
  have M4 := Lib.hid m4
  have M5 := Lib.hid m5
  have M6 := Lib.hid m6
  have M8 := Lib.hid m8
  have M9 := Lib.hid m9
  have M10 := Lib.hid m10
  have M2 := Lib.hid m2
  obtain ⟨i0, hi0, hz0, hz1, hz2⟩ := info_parts info3
  clear htE hK hwo m1 m3 m4 m5 m6 m8 m9 m10 m11 m12 m13 hd hg2 hm11 hls
  go_enter Tryd.func11, Tryd.ntmps11
  go_wp2_with fail
  refine (thin_any a n c ts lo hi pr ne gap _ (HX.out _ (Below.refl _ _)).2.1).mono ?_
  rw [HTE.out, HK.out, HWO.out]
  rintro e w2 ⟨v, rfl, hrow, hb2⟩
  obtain ⟨ka, kc, rfl⟩ := row_form hrow
  have hS2 : Below (w.heap.size + 1) (w.alloc (.cells #[.slice a n c, .int .i64 lo, .int .i64 hi, .int .i64 pr, .int .i64 ne] 29)) w2 := hb2.mono (by simp)
  have hIK : IntsAt w2 ka K.length (natsI K) := ints_of_nats hrow rfl
  have e0 : w2.cell? ⟨w.heap.size, 0, none⟩ = some (.slice a n c) := (HX.out _ hS2).1.cell 0
  have HY : Hid (∀ W, Below w2.heap.size w2 W → Box W w.heap.size #[.slice a n c, .int .i64 lo, .int .i64 hi, .int .i64 pr, .int .i64 ne] 29 ∧ Trees W a n c ts ∧ IntsAt W oa on ol ∧ IntsAt W ka K.length (natsI K) ∧ Below w.heap.size w W ∧ w2.heap.size ≤ W.heap.size ∧ w.heap.size + 1 ≤ w2.heap.size) := Lib.hid fun W h => by
    have hz2 := (HX.out _ hS2).2.2.2.2
    obtain ⟨x1, x2, x3, x4, _⟩ := HX.out W (hS2.trans (h.mono (by omega)))
    exact ⟨x1, x2, x3, hIK.below h, x4, h.size, hz2⟩
  clear hrow hb2 hS2 hIK HX
  go_wp2_with (go_at_call 45; refine (refIn_any _ _ _ _).mono ?_; rw [HIN.out]; rintro e w' ⟨rfl, rfl⟩)
  clear e0
  go_loopw [12, 13] (fun sv iv wr => ∃ (i : Nat) (sa : Option Addr) (sl sc : Nat), i ≤ n ∧ iv = .int .i64 i ∧ sv = .slice sa sl sc ∧ sl ≤ i ∧ Hid (sl = (pickTo ol i).length) ∧ Hid (Below w2.heap.size w2 wr) ∧ Hid (wr.ownsRow w2.heap.size 3 1 (.slice sa sl sc) sl ((pickTo ol i).map fun i : Nat => Value.int .i64 (i : Int)))) (fun _ iv _ => n - (intOf iv).toNat)
  case atStart => exact ⟨0, none, 0, 0, Nat.zero_le _, rfl, rfl, Nat.le_refl _, Lib.hid rfl, Lib.hid (Below.refl _ _), Lib.hid (World.ownsRow_nil _ _ _ _)⟩
  case round =>
    obtain ⟨i, sa, sl, sc, hin, rfl, rfl, hsl, HSL, HB, HO⟩ := hrel
    obtain ⟨y1, y2, y3, y4, y5, y6, y7⟩ := HY.out _ HB.out
    by_cases hlt : i < n
    case pos =>
      have e0 : wr.cell? ⟨w.heap.size, 0, none⟩ = some (.slice a n c) := y1.cell 0
      clear y1 y2 y4 y5
      by_cases hm : (i : Int) ∈ ol
      · have HA : Hid (∀ z : Int, (0 ≤ z ↔ (i : Int) ∈ ol) → 0 ≤ z) := Lib.hid fun z h => h.2 hm
        have HP := Lib.hid (pickTo_yes hm)
        clear hm
        go_wp2_with (first
          | (go_at_call 46; refine (refAt_same oa on oc ol _ _ y3 HON.out).mono ?_; rintro e w' ⟨z1, rfl, hz1, rfl⟩; have hs1 := HA.out z1 hz1.out; clear hz1)
          | (at_builtin; refine wpList_append_own _ rfl _ _ 30 rfl w2.heap.size 3 i0 (.int .i64 0) 1 8 Tryd.underlying30 hi0 hz0 hz1 hz2 rfl (by decide) _ _ _ rfl (HO.out.alloc _) ⟨wr.heap.size, 0, none⟩ 1 1 [.int .i64 (i : Int)] rfl rfl (cell_one_new _ _ _) (by simp [Value.oneCell']) (by unfold maxLen; omega) (by omega) (by simp; omega) ?_; intro v2 w8 hown2 hgrow2 _; obtain ⟨va2, vc2, rfl⟩ := row_form hown2))
        go_roundw
        case rel => exact ⟨i + 1, va2, sl + 1, vc2, by omega, by go_num, rfl, by omega, Lib.hid (by rw [HP.out, List.length_append, ← HSL.out]; rfl), Lib.hid ((HB.out.alloc (by omega) _).grown hgrow2 (by simp; omega) (fun i ei => by have := row_ge HO.out i ei; omega)), Lib.hid (by rw [HP.out, List.map_append]; exact hown2)⟩
        case measure => simp [intOf]; omega
      · have HA : Hid (∀ z : Int, (0 ≤ z ↔ (i : Int) ∈ ol) → z < 0) := Lib.hid fun z h => by
          by_cases h0 : 0 ≤ z
          · exact absurd (h.1 h0) hm
          · omega
        have HP := Lib.hid (pickTo_no hm)
        clear hm
        go_wp2_with (go_at_call 46; refine (refAt_same oa on oc ol _ _ y3 HON.out).mono ?_; rintro e w' ⟨z1, rfl, hz1, rfl⟩; have hs1 := HA.out z1 hz1.out; clear hz1)
        go_roundw
        case rel => exact ⟨i + 1, sa, sl, sc, by omega, by go_num, rfl, by omega, Lib.hid (by rw [HP.out]; exact HSL.out), HB, Lib.hid (by rw [HP.out]; exact HO.out)⟩
        case measure => simp [intOf]; omega
    case neg =>
      obtain rfl : n = i := by omega
      obtain ⟨so, hso⟩ : ∃ so, pickTo ol n = so := ⟨_, rfl⟩
      have hlen : so.length ≤ n := by rw [← hso]; exact pickTo_le ol n
      have HSO := Lib.hid (show so.Pairwise (· < ·) by rw [← hso]; exact pickTo_sorted ol n)
      have HSLT : Hid (∀ i ∈ so, i < ts.length) := Lib.hid fun x hx => by rw [← hso] at hx; have := pickTo_lt x hx; rw [HN.out] at this; exact this
      have hsle : sl = so.length := by rw [HSL.out, hso]
      have hIS : IntsAt wr sa sl (natsI so) := by
        have h := HO.out
        rw [hso] at h
        rw [hsle] at h ⊢
        exact ints_of_nats h rfl
      subst hsle
      have e0 : wr.cell? ⟨w.heap.size, 0, none⟩ = some (.slice a n c) := y1.cell 0
      have e1 : wr.cell? ⟨w.heap.size, 1, none⟩ = some (.int .i64 lo) := y1.cell 1
      have e2 : wr.cell? ⟨w.heap.size, 2, none⟩ = some (.int .i64 hi) := y1.cell 2
      have e3 : wr.cell? ⟨w.heap.size, 3, none⟩ = some (.int .i64 pr) := y1.cell 3
      have e4 : wr.cell? ⟨w.heap.size, 4, none⟩ = some (.int .i64 ne) := y1.cell 4
      clear hso y1 y3 y5 HSL HO
      have hB := HB.out
      go_wp2_with fail
      refine (priced_any a ka n c K.length kc ts lo hi pr ne gap K _ y2 y4 M5.out M6.out (by rw [← HN.out]; exact hn14) M3.out M4.out M2.out m7).mono ?_
      rintro e w3 ⟨z1, ok1, rfl, hp1, hb3⟩
      obtain rfl : ok1 = true := hp1.1.2 M8.out
      obtain rfl : z1 = wo := (hp1.2 rfl).trans M9.out
      have hS3 := hB.trans (hb3.mono y6)
      have hIS3 := hIS.below hb3
      obtain ⟨x1, x2, x3, x4, x5, x6, _⟩ := HY.out _ hS3
      clear e0 e1 e2 e3 e4 hp1 hB hb3 y2 y4 y6 hIS
      have e0 : w3.cell? ⟨w.heap.size, 0, none⟩ = some (.slice a n c) := x1.cell 0
      have e1 : w3.cell? ⟨w.heap.size, 1, none⟩ = some (.int .i64 lo) := x1.cell 1
      have e2 : w3.cell? ⟨w.heap.size, 2, none⟩ = some (.int .i64 hi) := x1.cell 2
      have e3 : w3.cell? ⟨w.heap.size, 3, none⟩ = some (.int .i64 pr) := x1.cell 3
      have e4 : w3.cell? ⟨w.heap.size, 4, none⟩ = some (.int .i64 ne) := x1.cell 4
      clear x1 x3 x5
      go_wp2_with fail
      refine (priced_any a sa n c so.length sc ts lo hi pr ne gap so _ x2 hIS3 HSO.out HSLT.out (by rw [← HN.out]; exact hn14) M3.out M4.out M2.out (by omega)).mono ?_
      rintro e w4 ⟨z2, ok2, rfl, hp2, hb4⟩
      have hS4 := hS3.trans (hb4.mono x6)
      have hIS4 := hIS3.below hb4
      have hIK4 := (HY.out _ hS4).2.2.2.1
      have hz4 := (HY.out _ hS4).2.2.2.2.2.1
      have hkey : ok2 = false ∨ (ok2 = true ∧ z2 < z1) ∨ (ok2 = true ∧ z2 = z1 ∧ before so K = false) := by
        cases ok2
        · exact .inl rfl
        · right
          have hg := hp2.1.1 rfl
          have hw := hp2.2 rfl
          rcases M10.out so hg with h | ⟨h1, h2⟩
          · exact .inl ⟨rfl, by omega⟩
          · exact .inr ⟨rfl, by omega, h2⟩
      clear e0 e1 e2 e3 e4 hp2 hb4 hS3 hIS3 x2 x4 x6
      rcases hkey with rfl | ⟨rfl, hzz⟩ | ⟨rfl, rfl, hbf⟩
      · have hSf := hS4
        go_wp2_with fail
        have hwd : IntKind.i64.wrap (gap + d) = gap + d := by rw [IntKind.wrap_i64]; omega
        refine region_seq (fun W => Below w2.heap.size w2 W) [(0, true), (1, true), (2, true), (3, false), (4, true), (5, true), (6, false), (7, true), (8, true), (9, true), (10, true), (11, true), (12, true), (13, true)]
          (by kernel_rfl) (by kernel_rfl) (by kernel_rfl) (by simp) (fun _ _ _ _ h => h) hSf.drew ?_
        have hSd := hSf.drew
        (refine SeqW.take (v := ?_) rfl (by rfl) (fun W hW => ?_) ?_; rotate_left; (have u1 := (HY.out W hW).1; have l0 : W.cell? ⟨w.heap.size, 0, none⟩ = some (.slice a n c) := u1.cell 0; have l1 : W.cell? ⟨w.heap.size, 1, none⟩ = some (.int .i64 lo) := u1.cell 1; have l2 : W.cell? ⟨w.heap.size, 2, none⟩ = some (.int .i64 hi) := u1.cell 2; have l3 : W.cell? ⟨w.heap.size, 3, none⟩ = some (.int .i64 pr) := u1.cell 3; have l4 : W.cell? ⟨w.heap.size, 4, none⟩ = some (.int .i64 ne) := u1.cell 4; clear u1; go_simp; with_reducible rfl); simp only [Act.put, List.setIfInBounds_toArray, List.set_cons_zero, List.set_cons_succ])
        (refine SeqW.take (v := ?_) rfl (by rfl) (fun W hW => ?_) ?_; rotate_left; (go_simp; with_reducible rfl); simp only [Act.put, List.setIfInBounds_toArray, List.set_cons_zero, List.set_cons_succ])
        (refine SeqW.take (v := ?_) rfl (by rfl) (fun W hW => ?_) ?_; rotate_left; (go_simp; with_reducible rfl); simp only [Act.put, List.setIfInBounds_toArray, List.set_cons_zero, List.set_cons_succ])
        (refine SeqW.call rfl (by rfl) (fun K hK => ?_); go_simp)
        refine (refMod_any _ _ _ hMo (by omega)).mono ?_
        rw [HD.out]
        rintro e w' ⟨rfl, rfl⟩
        go_simp
        refine hK.out _ _ hSd ?_
        clear hK
        (refine SeqW.take (v := ?_) rfl (by rfl) (fun W hW => ?_) ?_; rotate_left; (go_simp; with_reducible rfl); simp only [Act.put, List.setIfInBounds_toArray, List.set_cons_zero, List.set_cons_succ])
        (refine SeqW.take (v := ?_) rfl (by rfl) (fun W hW => ?_) ?_; rotate_left; (go_simp; with_reducible rfl); simp only [Act.put, List.setIfInBounds_toArray, List.set_cons_zero, List.set_cons_succ])
        (refine SeqW.call rfl (by rfl) (fun K hK => ?_); go_simp)
        rw [HG2.out]
        refine (thin_any a n c ts lo hi pr ne g2 _ (HY.out _ hSd).2.1).mono ?_
        rw [HT2.out, HLS.out]
        rintro e w6 ⟨v6, rfl, hrow6, hb6⟩
        obtain ⟨va6, vc6, rfl⟩ := row_form hrow6
        have hS6 := hSd.trans (hb6.mono (HY.out _ hSd).2.2.2.2.2.1)
        go_simp
        refine hK.out _ _ hS6 ?_
        clear hK hrow6
        (refine SeqW.take (v := ?_) rfl (by rfl) (fun W hW => ?_) ?_; rotate_left; (go_simp; with_reducible rfl); simp only [Act.put, List.setIfInBounds_toArray, List.set_cons_zero, List.set_cons_succ])
        (refine SeqW.take (v := ?_) rfl (by rfl) (fun W hW => ?_) ?_; rotate_left; (go_simp; with_reducible rfl); simp only [Act.put, List.setIfInBounds_toArray, List.set_cons_zero, List.set_cons_succ])
        (refine SeqW.take (v := ?_) rfl (by rfl) (fun W hW => ?_) ?_; rotate_left; (go_simp; with_reducible rfl); simp only [Act.put, List.setIfInBounds_toArray, List.set_cons_zero, List.set_cons_succ])
        (refine SeqW.take (v := ?_) rfl (by rfl) (fun W hW => ?_) ?_; rotate_left; (go_simp; with_reducible rfl); simp only [Act.put, List.setIfInBounds_toArray, List.set_cons_zero, List.set_cons_succ])
        (refine SeqW.take (v := ?_) rfl (by rfl) (fun W hW => ?_) ?_; rotate_left; (go_simp; with_reducible rfl); simp only [Act.put, List.setIfInBounds_toArray, List.set_cons_zero, List.set_cons_succ])
        (refine SeqW.take (v := ?_) rfl (by rfl) (fun W hW => ?_) ?_; rotate_left; (go_simp; with_reducible rfl); simp only [Act.put, List.setIfInBounds_toArray, List.set_cons_zero, List.set_cons_succ])
        (refine SeqW.take (v := ?_) rfl (by rfl) (fun W hW => ?_) ?_; rotate_left; (go_simp; with_reducible rfl); simp only [Act.put, List.setIfInBounds_toArray, List.set_cons_zero, List.set_cons_succ])
        refine SeqW.done ?_
        obtain ⟨x1, x2, x3, x4, x5, x6, _⟩ := HY.out _ hS6
        have e0 : w6.cell? ⟨w.heap.size, 0, none⟩ = some (.slice a n c) := x1.cell 0
        have e1 : w6.cell? ⟨w.heap.size, 1, none⟩ = some (.int .i64 lo) := x1.cell 1
        have e2 : w6.cell? ⟨w.heap.size, 2, none⟩ = some (.int .i64 hi) := x1.cell 2
        have e3 : w6.cell? ⟨w.heap.size, 3, none⟩ = some (.int .i64 pr) := x1.cell 3
        have e4 : w6.cell? ⟨w.heap.size, 4, none⟩ = some (.int .i64 ne) := x1.cell 4
        go_wp2_with fail
        refine (thin_any a n c ts lo hi pr ne 0 _ x2).mono ?_
        rw [HT0.out]
        rintro e w8 ⟨v8, rfl, hrow8, hb8⟩
        obtain ⟨va8, vc8, rfl⟩ := row_form hrow8
        rw [HAL.out]
        have hS8 := hS6.trans (hb8.mono x6)
        have f0 : w8.cell? ⟨w.heap.size, 0, none⟩ = some (.slice a n c) := (HY.out _ hS8).1.cell 0
        have HW := Lib.hid (HY.out _ hS8).2.2.2.2.1
        clear e0 e1 e2 e3 e4 hrow8 hb8 x1 x2 x3 x4 x5 x6
        go_wp2_with (go_at_call 24; refine (HWk.out _ HW.out).mono ?_; rintro e w7 ⟨rfl, hb7⟩)
        go_ret
        exact ⟨rfl, HW.out.trans (hb7.mono HW.out.size)⟩
      · have hSf := hS4
        have hq1 : (z2 == z1) = false := by rw [beq_eq_false_iff_ne]; omega
        go_wp2_with fail
        have hwd : IntKind.i64.wrap (gap + d) = gap + d := by rw [IntKind.wrap_i64]; omega
        refine region_seq (fun W => Below w2.heap.size w2 W) [(0, true), (1, true), (2, true), (3, false), (4, true), (5, true), (6, false), (7, true), (8, true), (9, true), (10, true), (11, true), (12, true), (13, true)]
          (by kernel_rfl) (by kernel_rfl) (by kernel_rfl) (by simp) (fun _ _ _ _ h => h) hSf.drew ?_
        have hSd := hSf.drew
        (refine SeqW.take (v := ?_) rfl (by rfl) (fun W hW => ?_) ?_; rotate_left; (have u1 := (HY.out W hW).1; have l0 : W.cell? ⟨w.heap.size, 0, none⟩ = some (.slice a n c) := u1.cell 0; have l1 : W.cell? ⟨w.heap.size, 1, none⟩ = some (.int .i64 lo) := u1.cell 1; have l2 : W.cell? ⟨w.heap.size, 2, none⟩ = some (.int .i64 hi) := u1.cell 2; have l3 : W.cell? ⟨w.heap.size, 3, none⟩ = some (.int .i64 pr) := u1.cell 3; have l4 : W.cell? ⟨w.heap.size, 4, none⟩ = some (.int .i64 ne) := u1.cell 4; clear u1; go_simp; with_reducible rfl); simp only [Act.put, List.setIfInBounds_toArray, List.set_cons_zero, List.set_cons_succ])
        (refine SeqW.take (v := ?_) rfl (by rfl) (fun W hW => ?_) ?_; rotate_left; (go_simp; with_reducible rfl); simp only [Act.put, List.setIfInBounds_toArray, List.set_cons_zero, List.set_cons_succ])
        (refine SeqW.take (v := ?_) rfl (by rfl) (fun W hW => ?_) ?_; rotate_left; (go_simp; with_reducible rfl); simp only [Act.put, List.setIfInBounds_toArray, List.set_cons_zero, List.set_cons_succ])
        (refine SeqW.call rfl (by rfl) (fun K hK => ?_); go_simp)
        refine (refMod_any _ _ _ hMo (by omega)).mono ?_
        rw [HD.out]
        rintro e w' ⟨rfl, rfl⟩
        go_simp
        refine hK.out _ _ hSd ?_
        clear hK
        (refine SeqW.take (v := ?_) rfl (by rfl) (fun W hW => ?_) ?_; rotate_left; (go_simp; with_reducible rfl); simp only [Act.put, List.setIfInBounds_toArray, List.set_cons_zero, List.set_cons_succ])
        (refine SeqW.take (v := ?_) rfl (by rfl) (fun W hW => ?_) ?_; rotate_left; (go_simp; with_reducible rfl); simp only [Act.put, List.setIfInBounds_toArray, List.set_cons_zero, List.set_cons_succ])
        (refine SeqW.call rfl (by rfl) (fun K hK => ?_); go_simp)
        rw [HG2.out]
        refine (thin_any a n c ts lo hi pr ne g2 _ (HY.out _ hSd).2.1).mono ?_
        rw [HT2.out, HLS.out]
        rintro e w6 ⟨v6, rfl, hrow6, hb6⟩
        obtain ⟨va6, vc6, rfl⟩ := row_form hrow6
        have hS6 := hSd.trans (hb6.mono (HY.out _ hSd).2.2.2.2.2.1)
        go_simp
        refine hK.out _ _ hS6 ?_
        clear hK hrow6
        (refine SeqW.take (v := ?_) rfl (by rfl) (fun W hW => ?_) ?_; rotate_left; (go_simp; with_reducible rfl); simp only [Act.put, List.setIfInBounds_toArray, List.set_cons_zero, List.set_cons_succ])
        (refine SeqW.take (v := ?_) rfl (by rfl) (fun W hW => ?_) ?_; rotate_left; (go_simp; with_reducible rfl); simp only [Act.put, List.setIfInBounds_toArray, List.set_cons_zero, List.set_cons_succ])
        (refine SeqW.take (v := ?_) rfl (by rfl) (fun W hW => ?_) ?_; rotate_left; (go_simp; with_reducible rfl); simp only [Act.put, List.setIfInBounds_toArray, List.set_cons_zero, List.set_cons_succ])
        (refine SeqW.take (v := ?_) rfl (by rfl) (fun W hW => ?_) ?_; rotate_left; (go_simp; with_reducible rfl); simp only [Act.put, List.setIfInBounds_toArray, List.set_cons_zero, List.set_cons_succ])
        (refine SeqW.take (v := ?_) rfl (by rfl) (fun W hW => ?_) ?_; rotate_left; (go_simp; with_reducible rfl); simp only [Act.put, List.setIfInBounds_toArray, List.set_cons_zero, List.set_cons_succ])
        (refine SeqW.take (v := ?_) rfl (by rfl) (fun W hW => ?_) ?_; rotate_left; (go_simp; with_reducible rfl); simp only [Act.put, List.setIfInBounds_toArray, List.set_cons_zero, List.set_cons_succ])
        (refine SeqW.take (v := ?_) rfl (by rfl) (fun W hW => ?_) ?_; rotate_left; (go_simp; with_reducible rfl); simp only [Act.put, List.setIfInBounds_toArray, List.set_cons_zero, List.set_cons_succ])
        refine SeqW.done ?_
        obtain ⟨x1, x2, x3, x4, x5, x6, _⟩ := HY.out _ hS6
        have e0 : w6.cell? ⟨w.heap.size, 0, none⟩ = some (.slice a n c) := x1.cell 0
        have e1 : w6.cell? ⟨w.heap.size, 1, none⟩ = some (.int .i64 lo) := x1.cell 1
        have e2 : w6.cell? ⟨w.heap.size, 2, none⟩ = some (.int .i64 hi) := x1.cell 2
        have e3 : w6.cell? ⟨w.heap.size, 3, none⟩ = some (.int .i64 pr) := x1.cell 3
        have e4 : w6.cell? ⟨w.heap.size, 4, none⟩ = some (.int .i64 ne) := x1.cell 4
        go_wp2_with fail
        refine (thin_any a n c ts lo hi pr ne 0 _ x2).mono ?_
        rw [HT0.out]
        rintro e w8 ⟨v8, rfl, hrow8, hb8⟩
        obtain ⟨va8, vc8, rfl⟩ := row_form hrow8
        rw [HAL.out]
        have hS8 := hS6.trans (hb8.mono x6)
        have f0 : w8.cell? ⟨w.heap.size, 0, none⟩ = some (.slice a n c) := (HY.out _ hS8).1.cell 0
        have HW := Lib.hid (HY.out _ hS8).2.2.2.2.1
        clear e0 e1 e2 e3 e4 hrow8 hb8 x1 x2 x3 x4 x5 x6
        go_wp2_with (go_at_call 24; refine (HWk.out _ HW.out).mono ?_; rintro e w7 ⟨rfl, hb7⟩)
        go_ret
        exact ⟨rfl, HW.out.trans (hb7.mono HW.out.size)⟩
      · have HBF := Lib.hid hbf
        clear hbf
        go_wp2_with fail
        refine (refBefore_any sa ka so.length K.length sc kc so K _ hIS4 hIK4 (by omega) (by omega)).mono ?_
        rw [HBF.out]
        rintro e w5 ⟨rfl, hb5⟩
        have hSf := hS4.trans (hb5.mono hz4)
        go_wp2_with fail
        have hwd : IntKind.i64.wrap (gap + d) = gap + d := by rw [IntKind.wrap_i64]; omega
        refine region_seq (fun W => Below w2.heap.size w2 W) [(0, true), (1, true), (2, true), (3, false), (4, true), (5, true), (6, false), (7, true), (8, true), (9, true), (10, true), (11, true), (12, true), (13, true)]
          (by kernel_rfl) (by kernel_rfl) (by kernel_rfl) (by simp) (fun _ _ _ _ h => h) hSf.drew ?_
        have hSd := hSf.drew
        (refine SeqW.take (v := ?_) rfl (by rfl) (fun W hW => ?_) ?_; rotate_left; (have u1 := (HY.out W hW).1; have l0 : W.cell? ⟨w.heap.size, 0, none⟩ = some (.slice a n c) := u1.cell 0; have l1 : W.cell? ⟨w.heap.size, 1, none⟩ = some (.int .i64 lo) := u1.cell 1; have l2 : W.cell? ⟨w.heap.size, 2, none⟩ = some (.int .i64 hi) := u1.cell 2; have l3 : W.cell? ⟨w.heap.size, 3, none⟩ = some (.int .i64 pr) := u1.cell 3; have l4 : W.cell? ⟨w.heap.size, 4, none⟩ = some (.int .i64 ne) := u1.cell 4; clear u1; go_simp; with_reducible rfl); simp only [Act.put, List.setIfInBounds_toArray, List.set_cons_zero, List.set_cons_succ])
        (refine SeqW.take (v := ?_) rfl (by rfl) (fun W hW => ?_) ?_; rotate_left; (go_simp; with_reducible rfl); simp only [Act.put, List.setIfInBounds_toArray, List.set_cons_zero, List.set_cons_succ])
        (refine SeqW.take (v := ?_) rfl (by rfl) (fun W hW => ?_) ?_; rotate_left; (go_simp; with_reducible rfl); simp only [Act.put, List.setIfInBounds_toArray, List.set_cons_zero, List.set_cons_succ])
        (refine SeqW.call rfl (by rfl) (fun K hK => ?_); go_simp)
        refine (refMod_any _ _ _ hMo (by omega)).mono ?_
        rw [HD.out]
        rintro e w' ⟨rfl, rfl⟩
        go_simp
        refine hK.out _ _ hSd ?_
        clear hK
        (refine SeqW.take (v := ?_) rfl (by rfl) (fun W hW => ?_) ?_; rotate_left; (go_simp; with_reducible rfl); simp only [Act.put, List.setIfInBounds_toArray, List.set_cons_zero, List.set_cons_succ])
        (refine SeqW.take (v := ?_) rfl (by rfl) (fun W hW => ?_) ?_; rotate_left; (go_simp; with_reducible rfl); simp only [Act.put, List.setIfInBounds_toArray, List.set_cons_zero, List.set_cons_succ])
        (refine SeqW.call rfl (by rfl) (fun K hK => ?_); go_simp)
        rw [HG2.out]
        refine (thin_any a n c ts lo hi pr ne g2 _ (HY.out _ hSd).2.1).mono ?_
        rw [HT2.out, HLS.out]
        rintro e w6 ⟨v6, rfl, hrow6, hb6⟩
        obtain ⟨va6, vc6, rfl⟩ := row_form hrow6
        have hS6 := hSd.trans (hb6.mono (HY.out _ hSd).2.2.2.2.2.1)
        go_simp
        refine hK.out _ _ hS6 ?_
        clear hK hrow6
        (refine SeqW.take (v := ?_) rfl (by rfl) (fun W hW => ?_) ?_; rotate_left; (go_simp; with_reducible rfl); simp only [Act.put, List.setIfInBounds_toArray, List.set_cons_zero, List.set_cons_succ])
        (refine SeqW.take (v := ?_) rfl (by rfl) (fun W hW => ?_) ?_; rotate_left; (go_simp; with_reducible rfl); simp only [Act.put, List.setIfInBounds_toArray, List.set_cons_zero, List.set_cons_succ])
        (refine SeqW.take (v := ?_) rfl (by rfl) (fun W hW => ?_) ?_; rotate_left; (go_simp; with_reducible rfl); simp only [Act.put, List.setIfInBounds_toArray, List.set_cons_zero, List.set_cons_succ])
        (refine SeqW.take (v := ?_) rfl (by rfl) (fun W hW => ?_) ?_; rotate_left; (go_simp; with_reducible rfl); simp only [Act.put, List.setIfInBounds_toArray, List.set_cons_zero, List.set_cons_succ])
        (refine SeqW.take (v := ?_) rfl (by rfl) (fun W hW => ?_) ?_; rotate_left; (go_simp; with_reducible rfl); simp only [Act.put, List.setIfInBounds_toArray, List.set_cons_zero, List.set_cons_succ])
        (refine SeqW.take (v := ?_) rfl (by rfl) (fun W hW => ?_) ?_; rotate_left; (go_simp; with_reducible rfl); simp only [Act.put, List.setIfInBounds_toArray, List.set_cons_zero, List.set_cons_succ])
        (refine SeqW.take (v := ?_) rfl (by rfl) (fun W hW => ?_) ?_; rotate_left; (go_simp; with_reducible rfl); simp only [Act.put, List.setIfInBounds_toArray, List.set_cons_zero, List.set_cons_succ])
        refine SeqW.done ?_
        obtain ⟨x1, x2, x3, x4, x5, x6, _⟩ := HY.out _ hS6
        have e0 : w6.cell? ⟨w.heap.size, 0, none⟩ = some (.slice a n c) := x1.cell 0
        have e1 : w6.cell? ⟨w.heap.size, 1, none⟩ = some (.int .i64 lo) := x1.cell 1
        have e2 : w6.cell? ⟨w.heap.size, 2, none⟩ = some (.int .i64 hi) := x1.cell 2
        have e3 : w6.cell? ⟨w.heap.size, 3, none⟩ = some (.int .i64 pr) := x1.cell 3
        have e4 : w6.cell? ⟨w.heap.size, 4, none⟩ = some (.int .i64 ne) := x1.cell 4
        go_wp2_with fail
        refine (thin_any a n c ts lo hi pr ne 0 _ x2).mono ?_
        rw [HT0.out]
        rintro e w8 ⟨v8, rfl, hrow8, hb8⟩
        obtain ⟨va8, vc8, rfl⟩ := row_form hrow8
        rw [HAL.out]
        have hS8 := hS6.trans (hb8.mono x6)
        have f0 : w8.cell? ⟨w.heap.size, 0, none⟩ = some (.slice a n c) := (HY.out _ hS8).1.cell 0
        have HW := Lib.hid (HY.out _ hS8).2.2.2.2.1
        clear e0 e1 e2 e3 e4 hrow8 hb8 x1 x2 x3 x4 x5 x6
        go_wp2_with (go_at_call 24; refine (HWk.out _ HW.out).mono ?_; rintro e w7 ⟨rfl, hb7⟩)
        go_ret
        exact ⟨rfl, HW.out.trans (hb7.mono HW.out.size)⟩
end Go.Proofs.YtcjmfacdjdegkaaDoor
