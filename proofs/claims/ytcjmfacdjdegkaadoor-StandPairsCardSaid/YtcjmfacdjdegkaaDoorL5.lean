/- The law StandPairs says true. Conditions: the trees and the numbers lie in memory as told; the chapter's examples hold in each world that comes after. -/
import Derived.Test.YtcjmfacdjdegkaaDoorQ5
import Derived.Test.YtcjmfacdjdegkaaDoorBM
import Derived.Test.YtcjmfacdjdegkaaDoorR2
import Derived.Test.YtcjmfacdjdegkaaDoorL1
namespace Go.Proofs.YtcjmfacdjdegkaaDoor
open Go Go.RowKit
theorem orE_zero2q {a b : Int} (ha : a = 0) (hb : b = 0) : orE [a, b] = 0 := by subst ha; subst hb; rfl
theorem orE_zero4q {a b c d : Int} (ha : a = 0) (hb : b = 0) (hc : c = 0) (hd : d = 0) : orE [a, b, c, d] = 0 := by subst ha; subst hb; subst hc; subst hd; rfl
theorem treeE_zeroq {n : Nat} {k : Nat} (h : k < n) : treeE (n : Int) (k : Int) = 0 := by unfold treeE; rw [if_pos (frB_iff.2 ⟨by omega, by omega⟩)]
set_option maxRecDepth 100000 in
set_option maxHeartbeats 4000000 in
theorem standPairs_any (ra rb rc rr : Int) (a : Option Addr) (n c : Nat) (ts : List Tree) (lo hi pr ne n0 n1 n2 : Int) (ba : Option Addr) (bn bc : Nat) (bl : List Int) (w : World) (hT : Trees w a n c ts)
    (hN0 : -9223372036854775808 ≤ n0 ∧ n0 ≤ 9223372036854775807) (hN1 : -9223372036854775808 ≤ n1 ∧ n1 ≤ 9223372036854775807) (hN2 : -9223372036854775808 ≤ n2 ∧ n2 ≤ 9223372036854775807)
    (hBA : IntsAt w ba bn bl) (hBF : ∀ x ∈ bl, -9223372036854775808 ≤ x ∧ x ≤ 9223372036854775807) (hBN : bn ≤ maxLen)
    (hWk : ∀ W, Below w.heap.size w W → Calls Tryd.prog 24 #[] W fun e w' => e = .returned (.bool true) ∧ Below W.heap.size W w') :
    Calls Tryd.prog 10 #[.agg #[.int .i64 ra, .int .i64 rb, .int .i64 rc, .int .i64 rr], .agg #[.slice a n c, .int .i64 lo, .int .i64 hi, .int .i64 pr, .int .i64 ne], .agg #[.int .i64 n0, .int .i64 n1, .int .i64 n2], .slice ba bn bc] w fun e w' => e = .returned (.bool true) ∧ Below w.heap.size w w' := by
  have HN := Lib.hid hT.len
  have hfit := hT.fits
  have HWk := Lib.hid hWk
  have HBF := Lib.hid hBF
  have HBN := Lib.hid hBN
  have HX : Hid (∀ W, Below (w.heap.size + 1 + 1 + 1) (((w.alloc (.cells #[.int .i64 ra, .int .i64 rb, .int .i64 rc, .int .i64 rr] 24)).alloc (.cells #[.slice a n c, .int .i64 lo, .int .i64 hi, .int .i64 pr, .int .i64 ne] 29)).alloc (.cells #[.int .i64 n0, .int .i64 n1, .int .i64 n2] 22)) W → Box W w.heap.size #[.int .i64 ra, .int .i64 rb, .int .i64 rc, .int .i64 rr] 24 ∧ Box W (w.heap.size + 1) #[.slice a n c, .int .i64 lo, .int .i64 hi, .int .i64 pr, .int .i64 ne] 29 ∧ Box W (w.heap.size + 1 + 1) #[.int .i64 n0, .int .i64 n1, .int .i64 n2] 22 ∧ Trees W a n c ts ∧ IntsAt W ba bn bl ∧ Below w.heap.size w W ∧ w.heap.size + 1 + 1 < W.heap.size) := Lib.hid fun W h => by
    have hB : Below w.heap.size w W := ((((Below.refl _ _).alloc (Nat.le_refl _) _).alloc (by simp) _).alloc (by simp; omega) _).trans (h.mono (by omega))
    have b1 := Box.new (w.alloc (.cells #[.int .i64 ra, .int .i64 rb, .int .i64 rc, .int .i64 rr] 24)) #[.slice a n c, .int .i64 lo, .int .i64 hi, .int .i64 pr, .int .i64 ne] 29
    have b2 := Box.new ((w.alloc (.cells #[.int .i64 ra, .int .i64 rb, .int .i64 rc, .int .i64 rr] 24)).alloc (.cells #[.slice a n c, .int .i64 lo, .int .i64 hi, .int .i64 pr, .int .i64 ne] 29)) #[.int .i64 n0, .int .i64 n1, .int .i64 n2] 22
    simp only [World.size_alloc] at b1 b2
    exact ⟨(((Box.new w _ _).alloc _).alloc _).below h (by omega), (b1.alloc _).below h (by omega), b2.below h (by omega), hT.below hB, hBA.below hB, hB, by have := h.size; simp at this; omega⟩
  have hS0 : Below (w.heap.size + 1 + 1 + 1) (((w.alloc (.cells #[.int .i64 ra, .int .i64 rb, .int .i64 rc, .int .i64 rr] 24)).alloc (.cells #[.slice a n c, .int .i64 lo, .int .i64 hi, .int .i64 pr, .int .i64 ne] 29)).alloc (.cells #[.int .i64 n0, .int .i64 n1, .int .i64 n2] 22)) (((w.alloc (.cells #[.int .i64 ra, .int .i64 rb, .int .i64 rc, .int .i64 rr] 24)).alloc (.cells #[.slice a n c, .int .i64 lo, .int .i64 hi, .int .i64 pr, .int .i64 ne] 29)).alloc (.cells #[.int .i64 n0, .int .i64 n1, .int .i64 n2] 22)) := Below.refl _ _
  clear hT hWk hBA hBF hBN
  obtain ⟨rE, hrE⟩ : ∃ v, ruleE ⟨ra, rb, rc, rr⟩ = v := ⟨_, rfl⟩
  obtain ⟨cE, hcE⟩ : ∃ v, checkE ⟨ts, lo, hi, pr, ne⟩ = v := ⟨_, rfl⟩
  have HRE := Lib.hid hrE
  have HCE := Lib.hid hcE
  by_cases hR0 : rE = 0
  case neg =>
    clear hrE hcE
    have hb : (rE != 0) = true := by simpa using hR0
    go_enter Tryd.func10, Tryd.ntmps10
    go_wp2_with (first
      | (go_at_call 24; refine (HWk.out _ (HX.out _ hSc).2.2.2.2.2.1).mono ?_; rintro e w7 ⟨rfl, hb7⟩)
      | (go_at_call 22; refine (checkRule_any _ _ _ _ _).mono ?_; rw [HRE.out]; rintro e w1 ⟨rfl, hb1⟩; have hSc := hS0.trans (hb1.mono (by simp only [World.size_alloc]; omega))))
    go_ret
    exact ⟨rfl, (HX.out _ hSc).2.2.2.2.2.1.trans (hb7.mono (HX.out _ hSc).2.2.2.2.2.1.size)⟩
  subst hR0
  by_cases hC0 : cE = 0
  case neg =>
    clear hrE hcE
    have hb : (cE != 0) = true := by simpa using hC0
    go_enter Tryd.func10, Tryd.ntmps10
    go_wp2_with (first
      | (go_at_call 24; refine (HWk.out _ (HX.out _ hSc).2.2.2.2.2.1).mono ?_; rintro e w7 ⟨rfl, hb7⟩)
      | (go_at_call 20; refine (check_any a n c ts lo hi pr ne _ (HX.out _ hSd).2.2.2.1).mono ?_; rw [HCE.out]; rintro e w2 ⟨rfl, hb2⟩; have hSc := hSd.trans (hb2.mono (by have := hSd.size; simp only [World.size_alloc] at this; omega)))
      | (go_at_call 22; refine (checkRule_any _ _ _ _ _).mono ?_; rw [HRE.out]; rintro e w1 ⟨rfl, hb1⟩; have hSd := hS0.trans (hb1.mono (by simp only [World.size_alloc]; omega)); have qs := (HX.out _ hSd).2.1; have e0 : w1.cell? ⟨w.heap.size + 1, 0, none⟩ = some (.slice a n c) := qs.cell 0; have e1 : w1.cell? ⟨w.heap.size + 1, 1, none⟩ = some (.int .i64 lo) := qs.cell 1; have e2 : w1.cell? ⟨w.heap.size + 1, 2, none⟩ = some (.int .i64 hi) := qs.cell 2; have e3 : w1.cell? ⟨w.heap.size + 1, 3, none⟩ = some (.int .i64 pr) := qs.cell 3; have e4 : w1.cell? ⟨w.heap.size + 1, 4, none⟩ = some (.int .i64 ne) := qs.cell 4; clear qs))
    go_ret
    exact ⟨rfl, (HX.out _ hSc).2.2.2.2.2.1.trans (hb7.mono (HX.out _ hSc).2.2.2.2.2.1.size)⟩
  subst hC0
  by_cases hn0 : n = 0
  case pos =>
    subst hn0
    clear hrE hcE
    go_enter Tryd.func10, Tryd.ntmps10
    go_wp2_with (first
      | (go_at_call 24; refine (HWk.out _ (HX.out _ hSc).2.2.2.2.2.1).mono ?_; rintro e w7 ⟨rfl, hb7⟩)
      | (go_at_call 20; refine (check_any a 0 c ts lo hi pr ne _ (HX.out _ hSd).2.2.2.1).mono ?_; rw [HCE.out]; rintro e w2 ⟨rfl, hb2⟩; have hSc := hSd.trans (hb2.mono (by have := hSd.size; simp only [World.size_alloc] at this; omega)); clear e0; have e0 : w2.cell? ⟨w.heap.size + 1, 0, none⟩ = some (.slice a 0 c) := (HX.out _ hSc).2.1.cell 0)
      | (go_at_call 22; refine (checkRule_any _ _ _ _ _).mono ?_; rw [HRE.out]; rintro e w1 ⟨rfl, hb1⟩; have hSd := hS0.trans (hb1.mono (by simp only [World.size_alloc]; omega)); have qs := (HX.out _ hSd).2.1; have e0 : w1.cell? ⟨w.heap.size + 1, 0, none⟩ = some (.slice a 0 c) := qs.cell 0; have e1 : w1.cell? ⟨w.heap.size + 1, 1, none⟩ = some (.int .i64 lo) := qs.cell 1; have e2 : w1.cell? ⟨w.heap.size + 1, 2, none⟩ = some (.int .i64 hi) := qs.cell 2; have e3 : w1.cell? ⟨w.heap.size + 1, 3, none⟩ = some (.int .i64 pr) := qs.cell 3; have e4 : w1.cell? ⟨w.heap.size + 1, 4, none⟩ = some (.int .i64 ne) := qs.cell 4; clear qs))
    go_ret
    exact ⟨rfl, (HX.out _ hSc).2.2.2.2.2.1.trans (hb7.mono (HX.out _ hSc).2.2.2.2.2.1.size)⟩
  have hn1 : 0 < n := by omega
  have hv : standB ⟨ts, lo, hi, pr, ne⟩ = true := by
    unfold checkE at hcE
    by_cases h : standB ⟨ts, lo, hi, pr, ne⟩ = true
    · exact h
    · rw [if_neg h] at hcE; omega
  have hnl := HN.out
  have hq0 := modN_range (n := n0) (c := (n : Int)) (by omega)
  obtain ⟨kn, hkn⟩ : ∃ kn : Nat, modN n0 n = kn := ⟨(modN n0 n).toNat, by omega⟩
  rw [hkn] at hq0
  have hklt : kn < n := by omega
  obtain ⟨t, ht⟩ : ∃ t, ts[kn]? = some t := ⟨_, List.getElem?_eq_getElem (by omega)⟩
  have htm : t ∈ ts := List.mem_of_getElem? ht
  obtain ⟨b, off, ha⟩ : ∃ b off, a = some ⟨b, off, none⟩ := by
    rcases (HX.out _ hS0).2.2.2.1.at_ with h | ⟨b, off, h, _⟩
    · simp [h] at ht
    · exact ⟨b, off, h⟩
  subst ha
  have hNE : ∀ i : Nat, i < n → nearE ⟨ts, lo, hi, pr, ne⟩ (i : Int) = 0 := fun i hi => orE_zero2q hcE (treeE_zeroq (by dsimp only; omega))
  have hNR : ∀ i : Nat, i < n → nearR ⟨ts, lo, hi, pr, ne⟩ (i : Int) = nearL ts ne i := fun i hi => by unfold nearR; rw [if_pos (hNE i hi)]; rfl
  have hhd : ts.length ≤ 14 ∧ 0 ≤ lo ∧ lo ≤ 100 ∧ 0 ≤ hi ∧ hi ≤ 100 ∧ 0 ≤ pr ∧ pr ≤ 100 ∧ 0 ≤ ne ∧ ne ≤ 100000 := by
    have := hv
    simp only [standB, headB, Bool.and_eq_true, spanB_iff, frB_iff, decide_eq_true_eq] at this
    omega
  have hok : ∀ t ∈ ts, okTree t := fun t h => okTree_of (treesB_ok [] ts (by simp only [standB, Bool.and_eq_true] at hv; exact hv.2) t h)
  have hn14 : n ≤ 14 := by omega
  obtain ⟨L, hL⟩ : ∃ L, (nearR ⟨ts, lo, hi, pr, ne⟩ (kn : Int)).length = L := ⟨_, rfl⟩
  have hL14 : L ≤ 14 := by
    rw [← hL, hNR kn hklt]
    have := nearTo_len ts ne kn ts.length
    show (nearTo ts ne kn ts.length).length ≤ 14
    omega
  have HV := Lib.hid hv
  have HKN := Lib.hid hkn
  have HT := Lib.hid ht
  have HNE := Lib.hid hNE
  have HNR := Lib.hid hNR
  have HL := Lib.hid hL
  have HOK := Lib.hid hok
  have HKE := Lib.hid (hNE kn hklt)
  have hokt := hok t htm
  unfold okTree at hokt
  obtain ⟨tag, tx, ty, gl, gh, cr⟩ := t
  dsimp only at hokt
  have HHD := Lib.hid hhd
  have hne0 : 0 ≤ ne := hhd.2.2.2.2.2.2.2.1
  have hne1 : ne ≤ 100000 := hhd.2.2.2.2.2.2.2.2
  have hnmax : (n : Int) ≤ 9223372036854775807 := by omega
  obtain ⟨i0, hi0, hz0, hz1, hz2⟩ := info_parts info3
  clear hrE hcE hv hnl hkn ht htm hNE hNR hL hok hq0 hn0 hhd
  have hbW := HX.out _ hS0
  go_enter Tryd.func10, Tryd.ntmps10
  clear hbW
  go_wp2_with (first
    | (go_at_call 15; refine (callsIn_wide.1 (near_in 6 (by omega) (some ⟨b, off, none⟩) n c ts lo hi pr ne (kn : Int) w2 (HX.out _ hSc).2.2.2.1)).mono ?_; rw [HKE.out]; rintro e w3 ⟨v1, rfl, hv1, hb3⟩; obtain ⟨a1, c1, rfl⟩ := row_form hv1.1; rw [HL.out]; have hS3 := hSc.trans (hb3.mono (by have := hSc.size; simp only [World.size_alloc] at this; omega)); clear e0 e1 e2 e3 e4 t0; have e0 : w3.cell? ⟨w.heap.size + 1, 0, none⟩ = some (.slice (some ⟨b, off, none⟩) n c) := (HX.out _ hS3).2.1.cell 0)
    | (go_at_call 43; refine (refMod_any _ _ _ hN0 (by omega)).mono ?_; rw [HKN.out]; rintro e w' ⟨rfl, rfl⟩)
    | (go_at_call 20; refine (check_any (some ⟨b, off, none⟩) n c ts lo hi pr ne _ (HX.out _ hSd).2.2.2.1).mono ?_; rw [HCE.out]; rintro e w2 ⟨rfl, hb2⟩; have hSc := hSd.trans (hb2.mono (by have := hSd.size; simp only [World.size_alloc] at this; omega)); clear e0 e1 e2 e3 e4; have qs := (HX.out _ hSc).2.1; have qn := (HX.out _ hSc).2.2.1; have e0 : w2.cell? ⟨w.heap.size + 1, 0, none⟩ = some (.slice (some ⟨b, off, none⟩) n c) := qs.cell 0; have e1 : w2.cell? ⟨w.heap.size + 1, 1, none⟩ = some (.int .i64 lo) := qs.cell 1; have e2 : w2.cell? ⟨w.heap.size + 1, 2, none⟩ = some (.int .i64 hi) := qs.cell 2; have e3 : w2.cell? ⟨w.heap.size + 1, 3, none⟩ = some (.int .i64 pr) := qs.cell 3; have e4 : w2.cell? ⟨w.heap.size + 1, 4, none⟩ = some (.int .i64 ne) := qs.cell 4; have t0 : w2.cell? ⟨w.heap.size + 1 + 1, 0, none⟩ = some (.int .i64 n0) := qn.cell 0; clear qs qn)
    | (go_at_call 22; refine (checkRule_any _ _ _ _ _).mono ?_; rw [HRE.out]; rintro e w1 ⟨rfl, hb1⟩; have hSd := hS0.trans (hb1.mono (by simp only [World.size_alloc]; omega)); have qs := (HX.out _ hSd).2.1; have e0 : w1.cell? ⟨w.heap.size + 1, 0, none⟩ = some (.slice (some ⟨b, off, none⟩) n c) := qs.cell 0; have e1 : w1.cell? ⟨w.heap.size + 1, 1, none⟩ = some (.int .i64 lo) := qs.cell 1; have e2 : w1.cell? ⟨w.heap.size + 1, 2, none⟩ = some (.int .i64 hi) := qs.cell 2; have e3 : w1.cell? ⟨w.heap.size + 1, 3, none⟩ = some (.int .i64 pr) := qs.cell 3; have e4 : w1.cell? ⟨w.heap.size + 1, 4, none⟩ = some (.int .i64 ne) := qs.cell 4; clear qs))
  have HY : Hid (∀ W, Below w3.heap.size w3 W → Box W w.heap.size #[.int .i64 ra, .int .i64 rb, .int .i64 rc, .int .i64 rr] 24 ∧ Box W (w.heap.size + 1) #[.slice (some ⟨b, off, none⟩) n c, .int .i64 lo, .int .i64 hi, .int .i64 pr, .int .i64 ne] 29 ∧ Box W (w.heap.size + 1 + 1) #[.int .i64 n0, .int .i64 n1, .int .i64 n2] 22 ∧ Trees W (some ⟨b, off, none⟩) n c ts ∧ IntsAt W ba bn bl ∧ IntsAt W a1 L (natsI (nearL ts ne kn)) ∧ TreesAt W b off ts ∧ Below w.heap.size w W ∧ w3.heap.size ≤ W.heap.size ∧ w.heap.size + 1 + 1 < w3.heap.size ∧ b < w3.heap.size) := Lib.hid fun W h => by
    have hz3 := hS3.size
    simp only [World.size_alloc] at hz3
    obtain ⟨x1, x2, x3, x4, x5, x6, x7⟩ := HX.out W (hS3.trans (h.mono (by omega)))
    obtain ⟨_, _, _, y4, _⟩ := HX.out w3 hS3
    have hI1 : IntsAt w3 a1 L (natsI (nearL ts ne kn)) := by
      have h1 := hv1.1
      have h2 : (nearL ts ne kn).length = L := by rw [← HNR.out kn hklt]; exact HL.out
      rw [HNR.out kn hklt] at h1
      rw [← h2]
      exact ints_of_nats h1 rfl
    obtain ⟨bb, boff, hbe, hbl, _⟩ := y4.at_.resolve_left (fun h => by have := HT.out; simp [h] at this)
    obtain ⟨rfl, rfl⟩ : b = bb ∧ off = boff := by simpa using hbe
    obtain ⟨cb, coff, hce, hcl, hTA⟩ := x4.at_.resolve_left (fun h => by have := HT.out; simp [h] at this)
    obtain ⟨rfl, rfl⟩ : b = cb ∧ off = coff := by simpa using hce
    exact ⟨x1, x2, x3, x4, x5, hI1.below h, hTA, x6, h.size, by omega, hbl⟩
  have hzz := (HY.out _ (Below.refl _ _)).2.2.2.2.2.2.2.2.2
  clear e0 hb1 hb2 hb3 hSd hSc hS3 hS0 hv1 HX
  go_loopw [12, 13, 14] (fun sv av iv wr => ∃ (i : Nat) (sa : Option Addr) (sl sc : Nat) (at_ : Int), i ≤ n ∧ iv = .int .i64 i ∧ sv = .slice sa sl sc ∧ av = .int .i64 at_ ∧ sl ≤ i ∧ Hid (sl = (someTo kn bl i).length) ∧ Hid (at_ = atTo kn bl i) ∧ Hid (Below w3.heap.size w3 wr) ∧ Hid (wr.ownsRow w3.heap.size 3 1 (.slice sa sl sc) sl ((someTo kn bl i).map fun i : Nat => Value.int .i64 (i : Int)))) (fun _ _ iv _ => n - (intOf iv).toNat)
  case atStart => exact ⟨0, none, 0, 0, -1, Nat.zero_le _, rfl, rfl, rfl, Nat.le_refl _, Lib.hid rfl, Lib.hid rfl, Lib.hid (Below.refl _ _), Lib.hid (World.ownsRow_nil _ _ _ _)⟩
  case round =>
    obtain ⟨i, sa, sl, sc, at_, hin, rfl, rfl, rfl, hsl, HSL, HAT, HB, HO⟩ := hrel
    by_cases hlt : i < n
    case neg =>
      obtain rfl : n = i := by omega
      obtain ⟨q, hq⟩ : ∃ q, (someTo kn bl kn).length = q := ⟨_, rfl⟩
      obtain ⟨so, hso⟩ : ∃ so, someTo kn bl n = so := ⟨_, rfl⟩
      have hqat := someTo_all (bl := bl) hklt
      rw [hso, hq] at hqat
      have hsl14 : so.length ≤ n := by rw [← hso]; exact someTo_le kn bl n
      obtain ⟨ts', hLE, hLS, hlen', hat', hF⟩ := pairs_facts (r := ⟨ra, rb, rc, rr⟩) bl HRE.out HCE.out HN.out hklt HT.out
      rw [hso] at hLE hLS hlen'
      rw [hq] at hat' hF
      have haq : at_ = (q : Int) := by rw [HAT.out]; unfold atTo; rw [if_pos hklt, hq]
      subst haq
      have hsle : sl = so.length := by rw [HSL.out, hso]
      have hql : q < sl := by rw [hsle]; exact (List.getElem?_eq_some_iff.1 hqat).1
      have hOw := HO.out
      rw [hso] at hOw
      have hIS : IntsAt wr sa sl (natsI so) := by
        rw [hsle] at hOw ⊢
        exact ints_of_nats hOw rfl
      have HFit : Hid (∀ x ∈ natsI so, -9223372036854775808 ≤ x ∧ x ≤ 9223372036854775807) := Lib.hid fun x hx => by
        obtain ⟨j, hj, rfl⟩ := List.mem_map.1 hx
        have : j < n := by rw [← hso] at hj; exact someTo_lt j hj
        omega
      obtain ⟨yr, hyr⟩ : ∃ y, modN n1 201 = y := ⟨_, rfl⟩
      obtain ⟨mm, hmm⟩ : ∃ m, modN n2 3 = m := ⟨_, rfl⟩
      have hyb := modN_range (n := n1) (c := 201) (by omega)
      have hmb := modN_range (n := n2) (c := 3) (by omega)
      rw [hyr] at hyb
      rw [hmm] at hmb
      have HYR := Lib.hid hyr
      have HMM := Lib.hid hmm
      obtain ⟨⟨hg1, hf1, hr1⟩, ⟨hg2, hf2, hr2⟩, ⟨hA1, hA2⟩, ⟨hB1, hB2⟩, ⟨hC1, hC2⟩⟩ := hF yr (1 + mm) ⟨by omega, by omega⟩ ⟨by omega, by omega⟩
      obtain ⟨pg1, hpg1⟩ : ∃ v, (girthR ⟨ts, lo, hi, pr, ne⟩ (kn : Int) yr).1 = v := ⟨_, rfl⟩
      obtain ⟨pg2, hpg2⟩ : ∃ v, (girthR ⟨ts, lo, hi, pr, ne⟩ (kn : Int) yr).2 = v := ⟨_, rfl⟩
      obtain ⟨qg1, hqg1⟩ : ∃ v, (girthR ⟨ts', lo, hi, pr, ne⟩ (q : Int) yr).1 = v := ⟨_, rfl⟩
      obtain ⟨qg2, hqg2⟩ : ∃ v, (girthR ⟨ts', lo, hi, pr, ne⟩ (q : Int) yr).2 = v := ⟨_, rfl⟩
      obtain ⟨pf1, hpf1⟩ : ∃ v, (facesR ⟨ra, rb, rc, rr⟩ ⟨ts, lo, hi, pr, ne⟩ (kn : Int) yr).1 = v := ⟨_, rfl⟩
      obtain ⟨pf2, hpf2⟩ : ∃ v, (facesR ⟨ra, rb, rc, rr⟩ ⟨ts, lo, hi, pr, ne⟩ (kn : Int) yr).2 = v := ⟨_, rfl⟩
      obtain ⟨qf1, hqf1⟩ : ∃ v, (facesR ⟨ra, rb, rc, rr⟩ ⟨ts', lo, hi, pr, ne⟩ (q : Int) yr).1 = v := ⟨_, rfl⟩
      obtain ⟨qf2, hqf2⟩ : ∃ v, (facesR ⟨ra, rb, rc, rr⟩ ⟨ts', lo, hi, pr, ne⟩ (q : Int) yr).2 = v := ⟨_, rfl⟩
      obtain ⟨pr'1, hpr'1⟩ : ∃ v, (readyR ⟨ra, rb, rc, rr⟩ ⟨ts, lo, hi, pr, ne⟩ (kn : Int) (1 + mm)).1 = v := ⟨_, rfl⟩
      obtain ⟨pr'2, hpr'2⟩ : ∃ v, (readyR ⟨ra, rb, rc, rr⟩ ⟨ts, lo, hi, pr, ne⟩ (kn : Int) (1 + mm)).2 = v := ⟨_, rfl⟩
      obtain ⟨qr1, hqr1⟩ : ∃ v, (readyR ⟨ra, rb, rc, rr⟩ ⟨ts', lo, hi, pr, ne⟩ (q : Int) (1 + mm)).1 = v := ⟨_, rfl⟩
      obtain ⟨qr2, hqr2⟩ : ∃ v, (readyR ⟨ra, rb, rc, rr⟩ ⟨ts', lo, hi, pr, ne⟩ (q : Int) (1 + mm)).2 = v := ⟨_, rfl⟩
      rw [hpg1, hqg1] at hA1
      rw [hpg2, hqg2] at hA2
      rw [hpf1, hqf1] at hB1
      rw [hpf2, hqf2] at hB2
      rw [hpr'1, hqr1] at hC1
      rw [hpr'2, hqr2] at hC2
      have Hpg1 := Lib.hid hpg1
      have Hpg2 := Lib.hid hpg2
      have Hqg1 := Lib.hid hqg1
      have Hqg2 := Lib.hid hqg2
      have Hpf1 := Lib.hid hpf1
      have Hpf2 := Lib.hid hpf2
      have Hqf1 := Lib.hid hqf1
      have Hqf2 := Lib.hid hqf2
      have Hpr'1 := Lib.hid hpr'1
      have Hpr'2 := Lib.hid hpr'2
      have Hqr1 := Lib.hid hqr1
      have Hqr2 := Lib.hid hqr2
      have HLE := Lib.hid hLE
      have HLS := Lib.hid hLS
      have Hat' := Lib.hid hat'
      have Hg1 := Lib.hid hg1
      have Hf1 := Lib.hid hf1
      have Hr1 := Lib.hid hr1
      have Hg2 := Lib.hid hg2
      have Hf2 := Lib.hid hf2
      have Hr2 := Lib.hid hr2
      have Hlen' := Lib.hid hlen'
      have Hsle := Lib.hid hsle
      obtain ⟨y1, y2, y3, y4, y5, y6, y7, y8, y9, _, _⟩ := HY.out _ HB.out
      have e0 : wr.cell? ⟨w.heap.size + 1, 0, none⟩ = some (.slice (some ⟨b, off, none⟩) n c) := y2.cell 0
      have e1 : wr.cell? ⟨w.heap.size + 1, 1, none⟩ = some (.int .i64 lo) := y2.cell 1
      have e2 : wr.cell? ⟨w.heap.size + 1, 2, none⟩ = some (.int .i64 hi) := y2.cell 2
      have e3 : wr.cell? ⟨w.heap.size + 1, 3, none⟩ = some (.int .i64 pr) := y2.cell 3
      have e4 : wr.cell? ⟨w.heap.size + 1, 4, none⟩ = some (.int .i64 ne) := y2.cell 4
      have hB := HB.out
      clear hyr hmm hF hLE hLS hat' hg1 hf1 hr1 hg2 hf2 hr2 hlen' hsle hpg1 hpg2 hqg1 hqg2 hpf1 hpf2 hqf1 hqf2 hpr'1 hpr'2 hqr1 hqr2 hqat hq hso hOw y1 y2 y3 y5 y6 y7 y8 HAT HSL
      go_wp2_with fail
      refine (left_any (some ⟨b, off, none⟩) sa n c sl sc ts (natsI so) lo hi pr ne _ y4 HFit.out (by unfold maxLen; omega) hIS).mono ?_
      rw [HLE.out, HLS.out]
      rintro e w4 ⟨a', n', c', rfl, hT', hb4⟩
      dsimp only at hT' ⊢
      have hS4 := hB.trans (hb4.mono y9)
      have hn' : n' = sl := by rw [hT'.len, Hsle.out]; exact Hlen'.out
      subst hn'
      obtain ⟨b', off', hb'⟩ : ∃ b' off', a' = some ⟨b', off', none⟩ := by
        rcases hT'.at_ with h | ⟨b', off', h, _⟩
        · have := Hat'.out; simp [h] at this
        · exact ⟨b', off', h⟩
      subst hb'
      clear e0 e1 e2 e3 e4
      have HZ : Hid (∀ W, Below (w4.heap.size + 1) (w4.alloc (.cells #[.slice (some ⟨b', off', none⟩) n' c', .int .i64 lo, .int .i64 hi, .int .i64 pr, .int .i64 ne] 29)) W → Box W w.heap.size #[.int .i64 ra, .int .i64 rb, .int .i64 rc, .int .i64 rr] 24 ∧ Box W (w.heap.size + 1) #[.slice (some ⟨b, off, none⟩) n c, .int .i64 lo, .int .i64 hi, .int .i64 pr, .int .i64 ne] 29 ∧ Box W (w.heap.size + 1 + 1) #[.int .i64 n0, .int .i64 n1, .int .i64 n2] 22 ∧ Trees W (some ⟨b, off, none⟩) n c ts ∧ TreesAt W b off ts ∧ Box W w4.heap.size #[.slice (some ⟨b', off', none⟩) n' c', .int .i64 lo, .int .i64 hi, .int .i64 pr, .int .i64 ne] 29 ∧ Trees W (some ⟨b', off', none⟩) n' c' ts' ∧ TreesAt W b' off' ts' ∧ Below w.heap.size w W ∧ w4.heap.size + 1 ≤ W.heap.size) := Lib.hid fun W h => by
        have hz4 := hS4.size
        obtain ⟨x1, x2, x3, x4, _, _, x7, x8, _⟩ := HY.out W ((hS4.alloc hz4 _).trans (h.mono (by omega)))
        have hTW : Trees W (some ⟨b', off', none⟩) n' c' ts' := hT'.below (((Below.refl _ _).alloc (Nat.le_refl _) _).trans (h.mono (by omega)))
        obtain ⟨bb, boff, hbe, hbl, hTA⟩ := hTW.at_.resolve_left (fun h => by have := Hat'.out; simp [h] at this)
        obtain ⟨rfl, rfl⟩ : b' = bb ∧ off' = boff := by simpa using hbe
        exact ⟨x1, x2, x3, x4, x7, (Box.new w4 _ _).below h (by omega), hTW, hTA, x8, by have := h.size; simpa using this⟩
      have hS5 : Below (w4.heap.size + 1) (w4.alloc (.cells #[.slice (some ⟨b', off', none⟩) n' c', .int .i64 lo, .int .i64 hi, .int .i64 pr, .int .i64 ne] 29)) (w4.alloc (.cells #[.slice (some ⟨b', off', none⟩) n' c', .int .i64 lo, .int .i64 hi, .int .i64 pr, .int .i64 ne] 29)) := Below.refl _ _
      clear hB hb4 hT' hS4 HY HB hIS HO y4 y9
      go_wp2_with fail
      obtain ⟨wq, hwq⟩ : ∃ wq, (w4.alloc (.cells #[.slice (some ⟨b', off', none⟩) n' c', .int .i64 lo, .int .i64 hi, .int .i64 pr, .int .i64 ne] 29)) = wq := ⟨_, rfl⟩
      obtain ⟨y1, y2, y3, y4, y5, y6, y7, y8, y9, y10⟩ := HZ.out _ hS5
      rw [hwq] at y1 y2 y3 y4 y5 y6 y7 y8 y9 y10 ⊢
      obtain ⟨f0, f1, f2, f3, f4, f5⟩ := y5 kn ⟨tag, tx, ty, gl, gh, cr⟩ HT.out
      obtain ⟨g0, g1, g2, g3, g4, g5⟩ := y8 q ⟨tag, tx, ty, gl, gh, cr⟩ Hat'.out
      dsimp only at f0 f1 f2 f3 f4 f5 g0 g1 g2 g3 g4 g5
      have s0 : wq.cell? ⟨w.heap.size + 1, 0, none⟩ = some (.slice (some ⟨b, off, none⟩) n c) := y2.cell 0
      have s1 : wq.cell? ⟨w4.heap.size, 0, none⟩ = some (.slice (some ⟨b', off', none⟩) n' c') := y6.cell 0
      have hS6 : Below (w4.heap.size + 1) (w4.alloc (.cells #[.slice (some ⟨b', off', none⟩) n' c', .int .i64 lo, .int .i64 hi, .int .i64 pr, .int .i64 ne] 29)) wq.drew := by rw [← hwq]; exact hS5.drew
      clear y1 y2 y3 y4 y5 y6 y7 y8 y9 y10 hS5
      refine region_seq (fun W => ∀ p, W.cell? p = wq.cell? p) [(0, true), (1, true), (2, true), (3, true), (4, true), (5, true), (6, true), (7, true), (8, true), (9, true), (10, true), (11, true), (12, true), (13, true), (14, true), (15, true), (16, true), (17, true), (18, true), (19, true), (20, true), (21, true), (22, true)]
        (by kernel_rfl) (by kernel_rfl) (by kernel_rfl) (by simp) (fun _ _ _ _ h => h) (fun _ => rfl) ?_
      (refine SeqW.take (v := ?_) rfl (by rfl) (fun W hW => ?_) ?_; rotate_left; (go_simp; with_reducible rfl); simp only [Act.put, List.setIfInBounds_toArray, List.set_cons_zero, List.set_cons_succ])
      (refine SeqW.take (v := ?_) rfl (by rfl) (fun W hW => ?_) ?_; rotate_left; (go_simp; with_reducible rfl); simp only [Act.put, List.setIfInBounds_toArray, List.set_cons_zero, List.set_cons_succ])
      (refine SeqW.take (v := ?_) rfl (by rfl) (fun W hW => ?_) ?_; rotate_left; (go_simp; with_reducible rfl); simp only [Act.put, List.setIfInBounds_toArray, List.set_cons_zero, List.set_cons_succ])
      (refine SeqW.take (v := ?_) rfl (by rfl) (fun W hW => ?_) ?_; rotate_left; (go_simp; with_reducible rfl); simp only [Act.put, List.setIfInBounds_toArray, List.set_cons_zero, List.set_cons_succ])
      (refine SeqW.take (v := ?_) rfl (by rfl) (fun W hW => ?_) ?_; rotate_left; (have l0 := (hW _).trans s0; have l1 := (hW _).trans s1; have m0 := (hW _).trans f0; have p0 := (hW _).trans g0; have m1 := (hW _).trans f1; have p1 := (hW _).trans g1; have m2 := (hW _).trans f2; have p2 := (hW _).trans g2; have m3 := (hW _).trans f3; have p3 := (hW _).trans g3; have m4 := (hW _).trans f4; have p4 := (hW _).trans g4; have m5 := (hW _).trans f5; have p5 := (hW _).trans g5; go_simp; with_reducible rfl); simp only [Act.put, List.setIfInBounds_toArray, List.set_cons_zero, List.set_cons_succ])
      (refine SeqW.take (v := ?_) rfl (by rfl) (fun W hW => ?_) ?_; rotate_left; (go_simp; with_reducible rfl); simp only [Act.put, List.setIfInBounds_toArray, List.set_cons_zero, List.set_cons_succ])
      (refine SeqW.take (v := ?_) rfl (by rfl) (fun W hW => ?_) ?_; rotate_left; (go_simp; with_reducible rfl); simp only [Act.put, List.setIfInBounds_toArray, List.set_cons_zero, List.set_cons_succ])
      (refine SeqW.take (v := ?_) rfl (by rfl) (fun W hW => ?_) ?_; rotate_left; (go_simp; with_reducible rfl); simp only [Act.put, List.setIfInBounds_toArray, List.set_cons_zero, List.set_cons_succ])
      (refine SeqW.take (v := ?_) rfl (by rfl) (fun W hW => ?_) ?_; rotate_left; (go_simp; with_reducible rfl); simp only [Act.put, List.setIfInBounds_toArray, List.set_cons_zero, List.set_cons_succ])
      (refine SeqW.take (v := ?_) rfl (by rfl) (fun W hW => ?_) ?_; rotate_left; (go_simp; with_reducible rfl); simp only [Act.put, List.setIfInBounds_toArray, List.set_cons_zero, List.set_cons_succ])
      (refine SeqW.take (v := ?_) rfl (by rfl) (fun W hW => ?_) ?_; rotate_left; (go_simp; with_reducible rfl); simp only [Act.put, List.setIfInBounds_toArray, List.set_cons_zero, List.set_cons_succ])
      (refine SeqW.take (v := ?_) rfl (by rfl) (fun W hW => ?_) ?_; rotate_left; (go_simp; with_reducible rfl); simp only [Act.put, List.setIfInBounds_toArray, List.set_cons_zero, List.set_cons_succ])
      (refine SeqW.take (v := ?_) rfl (by rfl) (fun W hW => ?_) ?_; rotate_left; (have l0 := (hW _).trans s0; have l1 := (hW _).trans s1; have m0 := (hW _).trans f0; have p0 := (hW _).trans g0; have m1 := (hW _).trans f1; have p1 := (hW _).trans g1; have m2 := (hW _).trans f2; have p2 := (hW _).trans g2; have m3 := (hW _).trans f3; have p3 := (hW _).trans g3; have m4 := (hW _).trans f4; have p4 := (hW _).trans g4; have m5 := (hW _).trans f5; have p5 := (hW _).trans g5; go_simp; with_reducible rfl); simp only [Act.put, List.setIfInBounds_toArray, List.set_cons_zero, List.set_cons_succ])
      (refine SeqW.take (v := ?_) rfl (by rfl) (fun W hW => ?_) ?_; rotate_left; (go_simp; with_reducible rfl); simp only [Act.put, List.setIfInBounds_toArray, List.set_cons_zero, List.set_cons_succ])
      (refine SeqW.take (v := ?_) rfl (by rfl) (fun W hW => ?_) ?_; rotate_left; (go_simp; with_reducible rfl); simp only [Act.put, List.setIfInBounds_toArray, List.set_cons_zero, List.set_cons_succ])
      (refine SeqW.take (v := ?_) rfl (by rfl) (fun W hW => ?_) ?_; rotate_left; (have l0 := (hW _).trans s0; have l1 := (hW _).trans s1; have m0 := (hW _).trans f0; have p0 := (hW _).trans g0; have m1 := (hW _).trans f1; have p1 := (hW _).trans g1; have m2 := (hW _).trans f2; have p2 := (hW _).trans g2; have m3 := (hW _).trans f3; have p3 := (hW _).trans g3; have m4 := (hW _).trans f4; have p4 := (hW _).trans g4; have m5 := (hW _).trans f5; have p5 := (hW _).trans g5; go_simp; with_reducible rfl); simp only [Act.put, List.setIfInBounds_toArray, List.set_cons_zero, List.set_cons_succ])
      (refine SeqW.take (v := ?_) rfl (by rfl) (fun W hW => ?_) ?_; rotate_left; (go_simp; with_reducible rfl); simp only [Act.put, List.setIfInBounds_toArray, List.set_cons_zero, List.set_cons_succ])
      (refine SeqW.take (v := ?_) rfl (by rfl) (fun W hW => ?_) ?_; rotate_left; (have l0 := (hW _).trans s0; have l1 := (hW _).trans s1; have m0 := (hW _).trans f0; have p0 := (hW _).trans g0; have m1 := (hW _).trans f1; have p1 := (hW _).trans g1; have m2 := (hW _).trans f2; have p2 := (hW _).trans g2; have m3 := (hW _).trans f3; have p3 := (hW _).trans g3; have m4 := (hW _).trans f4; have p4 := (hW _).trans g4; have m5 := (hW _).trans f5; have p5 := (hW _).trans g5; go_simp; with_reducible rfl); simp only [Act.put, List.setIfInBounds_toArray, List.set_cons_zero, List.set_cons_succ])
      (refine SeqW.take (v := ?_) rfl (by rfl) (fun W hW => ?_) ?_; rotate_left; (go_simp; with_reducible rfl); simp only [Act.put, List.setIfInBounds_toArray, List.set_cons_zero, List.set_cons_succ])
      (refine SeqW.take (v := ?_) rfl (by rfl) (fun W hW => ?_) ?_; rotate_left; (go_simp; with_reducible rfl); simp only [Act.put, List.setIfInBounds_toArray, List.set_cons_zero, List.set_cons_succ])
      (refine SeqW.take (v := ?_) rfl (by rfl) (fun W hW => ?_) ?_; rotate_left; (have l0 := (hW _).trans s0; have l1 := (hW _).trans s1; have m0 := (hW _).trans f0; have p0 := (hW _).trans g0; have m1 := (hW _).trans f1; have p1 := (hW _).trans g1; have m2 := (hW _).trans f2; have p2 := (hW _).trans g2; have m3 := (hW _).trans f3; have p3 := (hW _).trans g3; have m4 := (hW _).trans f4; have p4 := (hW _).trans g4; have m5 := (hW _).trans f5; have p5 := (hW _).trans g5; go_simp; with_reducible rfl); simp only [Act.put, List.setIfInBounds_toArray, List.set_cons_zero, List.set_cons_succ])
      (refine SeqW.take (v := ?_) rfl (by rfl) (fun W hW => ?_) ?_; rotate_left; (go_simp; with_reducible rfl); simp only [Act.put, List.setIfInBounds_toArray, List.set_cons_zero, List.set_cons_succ])
      (refine SeqW.take (v := ?_) rfl (by rfl) (fun W hW => ?_) ?_; rotate_left; (go_simp; with_reducible rfl); simp only [Act.put, List.setIfInBounds_toArray, List.set_cons_zero, List.set_cons_succ])
      refine SeqW.done ?_
      clear f0 f1 f2 f3 f4 f5 g0 g1 g2 g3 g4 g5 s0 s1
      go_wp2_with fail
      obtain ⟨wd, hwd⟩ : ∃ wd, wq.drew = wd := ⟨_, rfl⟩
      rw [hwd] at hS6 ⊢
      clear hwd hwq
      have y3 := (HZ.out _ hS6).2.2.1
      have t1 : wd.cell? ⟨w.heap.size + 1 + 1, 1, none⟩ = some (.int .i64 n1) := y3.cell 1
      have t2 : wd.cell? ⟨w.heap.size + 1 + 1, 2, none⟩ = some (.int .i64 n2) := y3.cell 2
      have hwm : IntKind.i64.wrap (1 + mm) = 1 + mm := by rw [IntKind.wrap_i64]; omega
      clear y3
      refine region_seq (fun W => ∀ p, W.cell? p = wd.cell? p) [(0, true), (1, true), (3, true), (4, true), (2, false), (5, false), (6, true), (7, true), (8, true)]
        (by kernel_rfl) (by kernel_rfl) (by kernel_rfl) (by simp) (fun _ _ _ _ h => h) (fun _ => rfl) ?_
      (refine SeqW.take (v := ?_) rfl (by rfl) (fun W hW => ?_) ?_; rotate_left; (go_simp; with_reducible rfl); simp only [Act.put, List.setIfInBounds_toArray, List.set_cons_zero, List.set_cons_succ])
      (refine SeqW.take (v := ?_) rfl (by rfl) (fun W hW => ?_) ?_; rotate_left; (have l1 := (hW _).trans t1; have l2 := (hW _).trans t2; go_simp; with_reducible rfl); simp only [Act.put, List.setIfInBounds_toArray, List.set_cons_zero, List.set_cons_succ])
      (refine SeqW.take (v := ?_) rfl (by rfl) (fun W hW => ?_) ?_; rotate_left; (go_simp; with_reducible rfl); simp only [Act.put, List.setIfInBounds_toArray, List.set_cons_zero, List.set_cons_succ])
      (refine SeqW.take (v := ?_) rfl (by rfl) (fun W hW => ?_) ?_; rotate_left; (have l1 := (hW _).trans t1; have l2 := (hW _).trans t2; go_simp; with_reducible rfl); simp only [Act.put, List.setIfInBounds_toArray, List.set_cons_zero, List.set_cons_succ])
      (refine SeqW.call rfl (by rfl) (fun K hK => ?_); go_simp)
      refine (refMod_any _ _ _ hN1 (by omega)).mono ?_
      rw [HYR.out]
      rintro e w' ⟨rfl, rfl⟩
      go_simp
      refine hK.out _ _ (fun _ => rfl) ?_
      clear hK K
      (refine SeqW.call rfl (by rfl) (fun K hK => ?_); go_simp)
      refine (refMod_any _ _ _ hN2 (by omega)).mono ?_
      rw [HMM.out]
      rintro e w' ⟨rfl, rfl⟩
      go_simp
      refine hK.out _ _ (fun _ => rfl) ?_
      clear hK K
      (refine SeqW.take (v := ?_) rfl (by rfl) (fun W hW => ?_) ?_; rotate_left; (go_simp; with_reducible rfl); simp only [Act.put, List.setIfInBounds_toArray, List.set_cons_zero, List.set_cons_succ])
      (refine SeqW.take (v := ?_) rfl (by rfl) (fun W hW => ?_) ?_; rotate_left; (go_simp; with_reducible rfl); simp only [Act.put, List.setIfInBounds_toArray, List.set_cons_zero, List.set_cons_succ])
      (refine SeqW.take (v := ?_) rfl (by rfl) (fun W hW => ?_) ?_; rotate_left; (go_simp; with_reducible rfl); simp only [Act.put, List.setIfInBounds_toArray, List.set_cons_zero, List.set_cons_succ])
      refine SeqW.done ?_
      clear t1 t2
      obtain ⟨we, hwe⟩ : ∃ we, wd.drew = we := ⟨_, rfl⟩
      have hSe : Below (w4.heap.size + 1) (w4.alloc (.cells #[.slice (some ⟨b', off', none⟩) n' c', .int .i64 lo, .int .i64 hi, .int .i64 pr, .int .i64 ne] 29)) we := by rw [← hwe]; exact hS6.drew
      rw [hwe]
      clear hwe hS6
      obtain ⟨y1, y2, y3, y4, y5, y6, y7, y8, y9, y10⟩ := HZ.out _ hSe
      have e0 : we.cell? ⟨w.heap.size + 1, 0, none⟩ = some (.slice (some ⟨b, off, none⟩) n c) := y2.cell 0
      have e1 : we.cell? ⟨w.heap.size + 1, 1, none⟩ = some (.int .i64 lo) := y2.cell 1
      have e2 : we.cell? ⟨w.heap.size + 1, 2, none⟩ = some (.int .i64 hi) := y2.cell 2
      have e3 : we.cell? ⟨w.heap.size + 1, 3, none⟩ = some (.int .i64 pr) := y2.cell 3
      have e4 : we.cell? ⟨w.heap.size + 1, 4, none⟩ = some (.int .i64 ne) := y2.cell 4
      clear y1 y2 y3 y5 y6 y8 y9
      go_wp2_with fail
      refine (girth_any (some ⟨b, off, none⟩) n c ts lo hi pr ne _ _ _ y4).mono ?_
      rw [Hpg1.out, Hpg2.out, Hg1.out]
      rintro e w6 ⟨rfl, hb6⟩
      clear e0 e1 e2 e3 e4 y4 y7
      have hS6 := hSe.trans (hb6.mono y10)
      have hz6 := hb6.size
      have hN4 : w4.heap.size + 1 ≤ w6.heap.size := Nat.le_trans y10 hz6
      have hS6a := hS6.alloc (by omega) (.cells #[.int .i64 pg1, .int .i64 pg2] 27)
      clear y10 hSe
      obtain ⟨y1, y2, y3, y4, y5, y6, y7, y8, y9, y10⟩ := HZ.out _ hS6a
      have e0 : (w6.alloc (.cells #[.int .i64 pg1, .int .i64 pg2] 27)).cell? ⟨w4.heap.size, 0, none⟩ = some (.slice (some ⟨b', off', none⟩) n' c') := y6.cell 0
      have e1 : (w6.alloc (.cells #[.int .i64 pg1, .int .i64 pg2] 27)).cell? ⟨w4.heap.size, 1, none⟩ = some (.int .i64 lo) := y6.cell 1
      have e2 : (w6.alloc (.cells #[.int .i64 pg1, .int .i64 pg2] 27)).cell? ⟨w4.heap.size, 2, none⟩ = some (.int .i64 hi) := y6.cell 2
      have e3 : (w6.alloc (.cells #[.int .i64 pg1, .int .i64 pg2] 27)).cell? ⟨w4.heap.size, 3, none⟩ = some (.int .i64 pr) := y6.cell 3
      have e4 : (w6.alloc (.cells #[.int .i64 pg1, .int .i64 pg2] 27)).cell? ⟨w4.heap.size, 4, none⟩ = some (.int .i64 ne) := y6.cell 4
      clear y1 y2 y3 y5 y6 y8 y9
      go_wp2_with fail
      refine (girth_any (some ⟨b', off', none⟩) n' c' ts' lo hi pr ne _ _ _ y7).mono ?_
      rw [Hqg1.out, Hqg2.out, Hg2.out]
      rintro e w7 ⟨rfl, hb7⟩
      clear e0 e1 e2 e3 e4 y4 y7
      have hz7 := hb7.size
      simp only [World.size_alloc] at hz7 y10
      have hS7 := hS6a.trans (hb7.mono (by simp only [World.size_alloc]; omega))
      have hS7a := hS7.alloc (by omega) (.cells #[.int .i64 qg1, .int .i64 qg2] 27)
      have bP : Box (w7.alloc (.cells #[.int .i64 qg1, .int .i64 qg2] 27)) w6.heap.size #[.int .i64 pg1, .int .i64 pg2] 27 := ((Box.new w6 _ _).below hb7 (by simp)).alloc _
      have bQ : Box (w7.alloc (.cells #[.int .i64 qg1, .int .i64 qg2] 27)) w7.heap.size #[.int .i64 qg1, .int .i64 qg2] 27 := Box.new w7 _ _
      have hPQ : w6.heap.size ≠ w7.heap.size := by omega
      clear y10 hS6 hS6a hb6 hb7 hS7
      have p0 : (w7.alloc (.cells #[.int .i64 qg1, .int .i64 qg2] 27)).cell? ⟨w6.heap.size, 0, none⟩ = some (.int .i64 pg1) := bP.cell 0
      have p1 : (w7.alloc (.cells #[.int .i64 qg1, .int .i64 qg2] 27)).cell? ⟨w6.heap.size, 1, none⟩ = some (.int .i64 pg2) := bP.cell 1
      have q0 : (w7.alloc (.cells #[.int .i64 qg1, .int .i64 qg2] 27)).cell? ⟨w7.heap.size, 0, none⟩ = some (.int .i64 qg1) := bQ.cell 0
      have q1 : (w7.alloc (.cells #[.int .i64 qg1, .int .i64 qg2] 27)).cell? ⟨w7.heap.size, 1, none⟩ = some (.int .i64 qg2) := bQ.cell 1
      obtain ⟨y1, y2, y3, y4, y5, y6, y7, y8, y9, y10⟩ := HZ.out _ hS7a
      have r0 : (w7.alloc (.cells #[.int .i64 qg1, .int .i64 qg2] 27)).cell? ⟨w.heap.size, 0, none⟩ = some (.int .i64 ra) := y1.cell 0
      have r1 : (w7.alloc (.cells #[.int .i64 qg1, .int .i64 qg2] 27)).cell? ⟨w.heap.size, 1, none⟩ = some (.int .i64 rb) := y1.cell 1
      have r2 : (w7.alloc (.cells #[.int .i64 qg1, .int .i64 qg2] 27)).cell? ⟨w.heap.size, 2, none⟩ = some (.int .i64 rc) := y1.cell 2
      have r3 : (w7.alloc (.cells #[.int .i64 qg1, .int .i64 qg2] 27)).cell? ⟨w.heap.size, 3, none⟩ = some (.int .i64 rr) := y1.cell 3
      have e0 : (w7.alloc (.cells #[.int .i64 qg1, .int .i64 qg2] 27)).cell? ⟨w.heap.size + 1, 0, none⟩ = some (.slice (some ⟨b, off, none⟩) n c) := y2.cell 0
      have e1 : (w7.alloc (.cells #[.int .i64 qg1, .int .i64 qg2] 27)).cell? ⟨w.heap.size + 1, 1, none⟩ = some (.int .i64 lo) := y2.cell 1
      have e2 : (w7.alloc (.cells #[.int .i64 qg1, .int .i64 qg2] 27)).cell? ⟨w.heap.size + 1, 2, none⟩ = some (.int .i64 hi) := y2.cell 2
      have e3 : (w7.alloc (.cells #[.int .i64 qg1, .int .i64 qg2] 27)).cell? ⟨w.heap.size + 1, 3, none⟩ = some (.int .i64 pr) := y2.cell 3
      have e4 : (w7.alloc (.cells #[.int .i64 qg1, .int .i64 qg2] 27)).cell? ⟨w.heap.size + 1, 4, none⟩ = some (.int .i64 ne) := y2.cell 4
      clear y1 y2 y3 y5 y6 y8 y9
      go_wp2_with fail
      refine (faces_any ra rb rc rr (some ⟨b, off, none⟩) n c ts lo hi pr ne _ _ _ y4).mono ?_
      rw [Hpf1.out, Hpf2.out, Hf1.out]
      rintro e w8 ⟨rfl, hb8⟩
      clear e0 e1 e2 e3 e4 y4 y7 r0 r1 r2 r3
      clear p0 p1 q0 q1
      have hzk := hb8.size
      have hSk := hS7a.trans (hb8.mono y10)
      have cP := bP.below hb8 bP.lt
      have cQ := bQ.below hb8 bQ.lt
      have m0 : w8.cell? ⟨w6.heap.size, 0, none⟩ = some (.int .i64 pg1) := cP.cell 0
      have m1 : w8.cell? ⟨w6.heap.size, 1, none⟩ = some (.int .i64 pg2) := cP.cell 1
      have m2 : w8.frozen? ⟨w6.heap.size, 0, none⟩ = false := cP.free 0
      have m3 : w8.frozen? ⟨w6.heap.size, 1, none⟩ = false := cP.free 1
      have hS8a : Below (w4.heap.size + 1) (w4.alloc (.cells #[.slice (some ⟨b', off', none⟩) n' c', .int .i64 lo, .int .i64 hi, .int .i64 pr, .int .i64 ne] 29)) ((w8.setCell ⟨w6.heap.size, 0, none⟩ (.int .i64 pf1)).setCell ⟨w6.heap.size, 1, none⟩ (.int .i64 pf2)) := (hSk.setCell (p := ⟨w6.heap.size, 0, none⟩) (by dsimp only; omega) (.int .i64 pf1)).setCell (p := ⟨w6.heap.size, 1, none⟩) (by dsimp only; omega) (.int .i64 pf2)
      have dP : Box ((w8.setCell ⟨w6.heap.size, 0, none⟩ (.int .i64 pf1)).setCell ⟨w6.heap.size, 1, none⟩ (.int .i64 pf2)) w6.heap.size #[.int .i64 pf1, .int .i64 pf2] 27 := (cP.set 0 (.int .i64 pf1)).set 1 (.int .i64 pf2)
      have dQ : Box ((w8.setCell ⟨w6.heap.size, 0, none⟩ (.int .i64 pf1)).setCell ⟨w6.heap.size, 1, none⟩ (.int .i64 pf2)) w7.heap.size #[.int .i64 qg1, .int .i64 qg2] 27 := (cQ.other (p := ⟨w6.heap.size, 0, none⟩) (by dsimp only; omega) (.int .i64 pf1)).other (p := ⟨w6.heap.size, 1, none⟩) (by dsimp only; omega) (.int .i64 pf2)
      clear y10 hb8 hSk cP cQ bP bQ hS7a hzk
      have bP := dP
      have bQ := dQ
      clear dP dQ
      have p0 : ((w8.setCell ⟨w6.heap.size, 0, none⟩ (.int .i64 pf1)).setCell ⟨w6.heap.size, 1, none⟩ (.int .i64 pf2)).cell? ⟨w6.heap.size, 0, none⟩ = some (.int .i64 pf1) := bP.cell 0
      have p1 : ((w8.setCell ⟨w6.heap.size, 0, none⟩ (.int .i64 pf1)).setCell ⟨w6.heap.size, 1, none⟩ (.int .i64 pf2)).cell? ⟨w6.heap.size, 1, none⟩ = some (.int .i64 pf2) := bP.cell 1
      have q0 : ((w8.setCell ⟨w6.heap.size, 0, none⟩ (.int .i64 pf1)).setCell ⟨w6.heap.size, 1, none⟩ (.int .i64 pf2)).cell? ⟨w7.heap.size, 0, none⟩ = some (.int .i64 qg1) := bQ.cell 0
      have q1 : ((w8.setCell ⟨w6.heap.size, 0, none⟩ (.int .i64 pf1)).setCell ⟨w6.heap.size, 1, none⟩ (.int .i64 pf2)).cell? ⟨w7.heap.size, 1, none⟩ = some (.int .i64 qg2) := bQ.cell 1
      obtain ⟨y1, y2, y3, y4, y5, y6, y7, y8, y9, y10⟩ := HZ.out _ hS8a
      have r0 : ((w8.setCell ⟨w6.heap.size, 0, none⟩ (.int .i64 pf1)).setCell ⟨w6.heap.size, 1, none⟩ (.int .i64 pf2)).cell? ⟨w.heap.size, 0, none⟩ = some (.int .i64 ra) := y1.cell 0
      have r1 : ((w8.setCell ⟨w6.heap.size, 0, none⟩ (.int .i64 pf1)).setCell ⟨w6.heap.size, 1, none⟩ (.int .i64 pf2)).cell? ⟨w.heap.size, 1, none⟩ = some (.int .i64 rb) := y1.cell 1
      have r2 : ((w8.setCell ⟨w6.heap.size, 0, none⟩ (.int .i64 pf1)).setCell ⟨w6.heap.size, 1, none⟩ (.int .i64 pf2)).cell? ⟨w.heap.size, 2, none⟩ = some (.int .i64 rc) := y1.cell 2
      have r3 : ((w8.setCell ⟨w6.heap.size, 0, none⟩ (.int .i64 pf1)).setCell ⟨w6.heap.size, 1, none⟩ (.int .i64 pf2)).cell? ⟨w.heap.size, 3, none⟩ = some (.int .i64 rr) := y1.cell 3
      have e0 : ((w8.setCell ⟨w6.heap.size, 0, none⟩ (.int .i64 pf1)).setCell ⟨w6.heap.size, 1, none⟩ (.int .i64 pf2)).cell? ⟨w4.heap.size, 0, none⟩ = some (.slice (some ⟨b', off', none⟩) n' c') := y6.cell 0
      have e1 : ((w8.setCell ⟨w6.heap.size, 0, none⟩ (.int .i64 pf1)).setCell ⟨w6.heap.size, 1, none⟩ (.int .i64 pf2)).cell? ⟨w4.heap.size, 1, none⟩ = some (.int .i64 lo) := y6.cell 1
      have e2 : ((w8.setCell ⟨w6.heap.size, 0, none⟩ (.int .i64 pf1)).setCell ⟨w6.heap.size, 1, none⟩ (.int .i64 pf2)).cell? ⟨w4.heap.size, 2, none⟩ = some (.int .i64 hi) := y6.cell 2
      have e3 : ((w8.setCell ⟨w6.heap.size, 0, none⟩ (.int .i64 pf1)).setCell ⟨w6.heap.size, 1, none⟩ (.int .i64 pf2)).cell? ⟨w4.heap.size, 3, none⟩ = some (.int .i64 pr) := y6.cell 3
      have e4 : ((w8.setCell ⟨w6.heap.size, 0, none⟩ (.int .i64 pf1)).setCell ⟨w6.heap.size, 1, none⟩ (.int .i64 pf2)).cell? ⟨w4.heap.size, 4, none⟩ = some (.int .i64 ne) := y6.cell 4
      clear y1 y2 y3 y5 y6 y8 y9
      go_wp2_with fail
      refine (faces_any ra rb rc rr (some ⟨b', off', none⟩) n' c' ts' lo hi pr ne _ _ _ y7).mono ?_
      rw [Hqf1.out, Hqf2.out, Hf2.out]
      rintro e w9 ⟨rfl, hb9⟩
      clear e0 e1 e2 e3 e4 y4 y7 r0 r1 r2 r3
      clear p0 p1 q0 q1
      have hzk := hb9.size
      have hSk := hS8a.trans (hb9.mono y10)
      have cP := bP.below hb9 bP.lt
      have cQ := bQ.below hb9 bQ.lt
      have m0 : w9.cell? ⟨w7.heap.size, 0, none⟩ = some (.int .i64 qg1) := cQ.cell 0
      have m1 : w9.cell? ⟨w7.heap.size, 1, none⟩ = some (.int .i64 qg2) := cQ.cell 1
      have m2 : w9.frozen? ⟨w7.heap.size, 0, none⟩ = false := cQ.free 0
      have m3 : w9.frozen? ⟨w7.heap.size, 1, none⟩ = false := cQ.free 1
      have hS9a : Below (w4.heap.size + 1) (w4.alloc (.cells #[.slice (some ⟨b', off', none⟩) n' c', .int .i64 lo, .int .i64 hi, .int .i64 pr, .int .i64 ne] 29)) ((w9.setCell ⟨w7.heap.size, 0, none⟩ (.int .i64 qf1)).setCell ⟨w7.heap.size, 1, none⟩ (.int .i64 qf2)) := (hSk.setCell (p := ⟨w7.heap.size, 0, none⟩) (by dsimp only; omega) (.int .i64 qf1)).setCell (p := ⟨w7.heap.size, 1, none⟩) (by dsimp only; omega) (.int .i64 qf2)
      have dQ : Box ((w9.setCell ⟨w7.heap.size, 0, none⟩ (.int .i64 qf1)).setCell ⟨w7.heap.size, 1, none⟩ (.int .i64 qf2)) w7.heap.size #[.int .i64 qf1, .int .i64 qf2] 27 := (cQ.set 0 (.int .i64 qf1)).set 1 (.int .i64 qf2)
      have dP : Box ((w9.setCell ⟨w7.heap.size, 0, none⟩ (.int .i64 qf1)).setCell ⟨w7.heap.size, 1, none⟩ (.int .i64 qf2)) w6.heap.size #[.int .i64 pf1, .int .i64 pf2] 27 := (cP.other (p := ⟨w7.heap.size, 0, none⟩) (by dsimp only; omega) (.int .i64 qf1)).other (p := ⟨w7.heap.size, 1, none⟩) (by dsimp only; omega) (.int .i64 qf2)
      clear y10 hb9 hSk cP cQ bP bQ hS8a hzk
      have bP := dP
      have bQ := dQ
      clear dP dQ
      have p0 : ((w9.setCell ⟨w7.heap.size, 0, none⟩ (.int .i64 qf1)).setCell ⟨w7.heap.size, 1, none⟩ (.int .i64 qf2)).cell? ⟨w6.heap.size, 0, none⟩ = some (.int .i64 pf1) := bP.cell 0
      have p1 : ((w9.setCell ⟨w7.heap.size, 0, none⟩ (.int .i64 qf1)).setCell ⟨w7.heap.size, 1, none⟩ (.int .i64 qf2)).cell? ⟨w6.heap.size, 1, none⟩ = some (.int .i64 pf2) := bP.cell 1
      have q0 : ((w9.setCell ⟨w7.heap.size, 0, none⟩ (.int .i64 qf1)).setCell ⟨w7.heap.size, 1, none⟩ (.int .i64 qf2)).cell? ⟨w7.heap.size, 0, none⟩ = some (.int .i64 qf1) := bQ.cell 0
      have q1 : ((w9.setCell ⟨w7.heap.size, 0, none⟩ (.int .i64 qf1)).setCell ⟨w7.heap.size, 1, none⟩ (.int .i64 qf2)).cell? ⟨w7.heap.size, 1, none⟩ = some (.int .i64 qf2) := bQ.cell 1
      obtain ⟨y1, y2, y3, y4, y5, y6, y7, y8, y9, y10⟩ := HZ.out _ hS9a
      have r0 : ((w9.setCell ⟨w7.heap.size, 0, none⟩ (.int .i64 qf1)).setCell ⟨w7.heap.size, 1, none⟩ (.int .i64 qf2)).cell? ⟨w.heap.size, 0, none⟩ = some (.int .i64 ra) := y1.cell 0
      have r1 : ((w9.setCell ⟨w7.heap.size, 0, none⟩ (.int .i64 qf1)).setCell ⟨w7.heap.size, 1, none⟩ (.int .i64 qf2)).cell? ⟨w.heap.size, 1, none⟩ = some (.int .i64 rb) := y1.cell 1
      have r2 : ((w9.setCell ⟨w7.heap.size, 0, none⟩ (.int .i64 qf1)).setCell ⟨w7.heap.size, 1, none⟩ (.int .i64 qf2)).cell? ⟨w.heap.size, 2, none⟩ = some (.int .i64 rc) := y1.cell 2
      have r3 : ((w9.setCell ⟨w7.heap.size, 0, none⟩ (.int .i64 qf1)).setCell ⟨w7.heap.size, 1, none⟩ (.int .i64 qf2)).cell? ⟨w.heap.size, 3, none⟩ = some (.int .i64 rr) := y1.cell 3
      have e0 : ((w9.setCell ⟨w7.heap.size, 0, none⟩ (.int .i64 qf1)).setCell ⟨w7.heap.size, 1, none⟩ (.int .i64 qf2)).cell? ⟨w.heap.size + 1, 0, none⟩ = some (.slice (some ⟨b, off, none⟩) n c) := y2.cell 0
      have e1 : ((w9.setCell ⟨w7.heap.size, 0, none⟩ (.int .i64 qf1)).setCell ⟨w7.heap.size, 1, none⟩ (.int .i64 qf2)).cell? ⟨w.heap.size + 1, 1, none⟩ = some (.int .i64 lo) := y2.cell 1
      have e2 : ((w9.setCell ⟨w7.heap.size, 0, none⟩ (.int .i64 qf1)).setCell ⟨w7.heap.size, 1, none⟩ (.int .i64 qf2)).cell? ⟨w.heap.size + 1, 2, none⟩ = some (.int .i64 hi) := y2.cell 2
      have e3 : ((w9.setCell ⟨w7.heap.size, 0, none⟩ (.int .i64 qf1)).setCell ⟨w7.heap.size, 1, none⟩ (.int .i64 qf2)).cell? ⟨w.heap.size + 1, 3, none⟩ = some (.int .i64 pr) := y2.cell 3
      have e4 : ((w9.setCell ⟨w7.heap.size, 0, none⟩ (.int .i64 qf1)).setCell ⟨w7.heap.size, 1, none⟩ (.int .i64 qf2)).cell? ⟨w.heap.size + 1, 4, none⟩ = some (.int .i64 ne) := y2.cell 4
      clear y1 y2 y3 y5 y6 y8 y9
      go_wp2_with fail
      refine (ready_any ra rb rc rr (some ⟨b, off, none⟩) n c ts lo hi pr ne _ _ _ y4).mono ?_
      rw [Hpr'1.out, Hpr'2.out, Hr1.out]
      rintro e w10 ⟨rfl, hb10⟩
      clear e0 e1 e2 e3 e4 y4 y7 r0 r1 r2 r3
      clear p0 p1 q0 q1
      have hzk := hb10.size
      have hSk := hS9a.trans (hb10.mono y10)
      have cP := bP.below hb10 bP.lt
      have cQ := bQ.below hb10 bQ.lt
      have m0 : w10.cell? ⟨w6.heap.size, 0, none⟩ = some (.int .i64 pf1) := cP.cell 0
      have m1 : w10.cell? ⟨w6.heap.size, 1, none⟩ = some (.int .i64 pf2) := cP.cell 1
      have m2 : w10.frozen? ⟨w6.heap.size, 0, none⟩ = false := cP.free 0
      have m3 : w10.frozen? ⟨w6.heap.size, 1, none⟩ = false := cP.free 1
      have hS10a : Below (w4.heap.size + 1) (w4.alloc (.cells #[.slice (some ⟨b', off', none⟩) n' c', .int .i64 lo, .int .i64 hi, .int .i64 pr, .int .i64 ne] 29)) ((w10.setCell ⟨w6.heap.size, 0, none⟩ (.int .i64 pr'1)).setCell ⟨w6.heap.size, 1, none⟩ (.int .i64 pr'2)) := (hSk.setCell (p := ⟨w6.heap.size, 0, none⟩) (by dsimp only; omega) (.int .i64 pr'1)).setCell (p := ⟨w6.heap.size, 1, none⟩) (by dsimp only; omega) (.int .i64 pr'2)
      have dP : Box ((w10.setCell ⟨w6.heap.size, 0, none⟩ (.int .i64 pr'1)).setCell ⟨w6.heap.size, 1, none⟩ (.int .i64 pr'2)) w6.heap.size #[.int .i64 pr'1, .int .i64 pr'2] 27 := (cP.set 0 (.int .i64 pr'1)).set 1 (.int .i64 pr'2)
      have dQ : Box ((w10.setCell ⟨w6.heap.size, 0, none⟩ (.int .i64 pr'1)).setCell ⟨w6.heap.size, 1, none⟩ (.int .i64 pr'2)) w7.heap.size #[.int .i64 qf1, .int .i64 qf2] 27 := (cQ.other (p := ⟨w6.heap.size, 0, none⟩) (by dsimp only; omega) (.int .i64 pr'1)).other (p := ⟨w6.heap.size, 1, none⟩) (by dsimp only; omega) (.int .i64 pr'2)
      clear y10 hb10 hSk cP cQ bP bQ hS9a hzk
      have bP := dP
      have bQ := dQ
      clear dP dQ
      have p0 : ((w10.setCell ⟨w6.heap.size, 0, none⟩ (.int .i64 pr'1)).setCell ⟨w6.heap.size, 1, none⟩ (.int .i64 pr'2)).cell? ⟨w6.heap.size, 0, none⟩ = some (.int .i64 pr'1) := bP.cell 0
      have p1 : ((w10.setCell ⟨w6.heap.size, 0, none⟩ (.int .i64 pr'1)).setCell ⟨w6.heap.size, 1, none⟩ (.int .i64 pr'2)).cell? ⟨w6.heap.size, 1, none⟩ = some (.int .i64 pr'2) := bP.cell 1
      have q0 : ((w10.setCell ⟨w6.heap.size, 0, none⟩ (.int .i64 pr'1)).setCell ⟨w6.heap.size, 1, none⟩ (.int .i64 pr'2)).cell? ⟨w7.heap.size, 0, none⟩ = some (.int .i64 qf1) := bQ.cell 0
      have q1 : ((w10.setCell ⟨w6.heap.size, 0, none⟩ (.int .i64 pr'1)).setCell ⟨w6.heap.size, 1, none⟩ (.int .i64 pr'2)).cell? ⟨w7.heap.size, 1, none⟩ = some (.int .i64 qf2) := bQ.cell 1
      obtain ⟨y1, y2, y3, y4, y5, y6, y7, y8, y9, y10⟩ := HZ.out _ hS10a
      have r0 : ((w10.setCell ⟨w6.heap.size, 0, none⟩ (.int .i64 pr'1)).setCell ⟨w6.heap.size, 1, none⟩ (.int .i64 pr'2)).cell? ⟨w.heap.size, 0, none⟩ = some (.int .i64 ra) := y1.cell 0
      have r1 : ((w10.setCell ⟨w6.heap.size, 0, none⟩ (.int .i64 pr'1)).setCell ⟨w6.heap.size, 1, none⟩ (.int .i64 pr'2)).cell? ⟨w.heap.size, 1, none⟩ = some (.int .i64 rb) := y1.cell 1
      have r2 : ((w10.setCell ⟨w6.heap.size, 0, none⟩ (.int .i64 pr'1)).setCell ⟨w6.heap.size, 1, none⟩ (.int .i64 pr'2)).cell? ⟨w.heap.size, 2, none⟩ = some (.int .i64 rc) := y1.cell 2
      have r3 : ((w10.setCell ⟨w6.heap.size, 0, none⟩ (.int .i64 pr'1)).setCell ⟨w6.heap.size, 1, none⟩ (.int .i64 pr'2)).cell? ⟨w.heap.size, 3, none⟩ = some (.int .i64 rr) := y1.cell 3
      have e0 : ((w10.setCell ⟨w6.heap.size, 0, none⟩ (.int .i64 pr'1)).setCell ⟨w6.heap.size, 1, none⟩ (.int .i64 pr'2)).cell? ⟨w4.heap.size, 0, none⟩ = some (.slice (some ⟨b', off', none⟩) n' c') := y6.cell 0
      have e1 : ((w10.setCell ⟨w6.heap.size, 0, none⟩ (.int .i64 pr'1)).setCell ⟨w6.heap.size, 1, none⟩ (.int .i64 pr'2)).cell? ⟨w4.heap.size, 1, none⟩ = some (.int .i64 lo) := y6.cell 1
      have e2 : ((w10.setCell ⟨w6.heap.size, 0, none⟩ (.int .i64 pr'1)).setCell ⟨w6.heap.size, 1, none⟩ (.int .i64 pr'2)).cell? ⟨w4.heap.size, 2, none⟩ = some (.int .i64 hi) := y6.cell 2
      have e3 : ((w10.setCell ⟨w6.heap.size, 0, none⟩ (.int .i64 pr'1)).setCell ⟨w6.heap.size, 1, none⟩ (.int .i64 pr'2)).cell? ⟨w4.heap.size, 3, none⟩ = some (.int .i64 pr) := y6.cell 3
      have e4 : ((w10.setCell ⟨w6.heap.size, 0, none⟩ (.int .i64 pr'1)).setCell ⟨w6.heap.size, 1, none⟩ (.int .i64 pr'2)).cell? ⟨w4.heap.size, 4, none⟩ = some (.int .i64 ne) := y6.cell 4
      clear y1 y2 y3 y5 y6 y8 y9
      go_wp2_with fail
      refine (ready_any ra rb rc rr (some ⟨b', off', none⟩) n' c' ts' lo hi pr ne _ _ _ y7).mono ?_
      rw [Hqr1.out, Hqr2.out, Hr2.out]
      rintro e w11 ⟨rfl, hb11⟩
      clear e0 e1 e2 e3 e4 y4 y7 r0 r1 r2 r3
      clear p0 p1 q0 q1
      have hzk := hb11.size
      have hSk := hS10a.trans (hb11.mono y10)
      have cP := bP.below hb11 bP.lt
      have cQ := bQ.below hb11 bQ.lt
      have m0 : w11.cell? ⟨w7.heap.size, 0, none⟩ = some (.int .i64 qf1) := cQ.cell 0
      have m1 : w11.cell? ⟨w7.heap.size, 1, none⟩ = some (.int .i64 qf2) := cQ.cell 1
      have m2 : w11.frozen? ⟨w7.heap.size, 0, none⟩ = false := cQ.free 0
      have m3 : w11.frozen? ⟨w7.heap.size, 1, none⟩ = false := cQ.free 1
      have hS11a : Below (w4.heap.size + 1) (w4.alloc (.cells #[.slice (some ⟨b', off', none⟩) n' c', .int .i64 lo, .int .i64 hi, .int .i64 pr, .int .i64 ne] 29)) ((w11.setCell ⟨w7.heap.size, 0, none⟩ (.int .i64 qr1)).setCell ⟨w7.heap.size, 1, none⟩ (.int .i64 qr2)) := (hSk.setCell (p := ⟨w7.heap.size, 0, none⟩) (by dsimp only; omega) (.int .i64 qr1)).setCell (p := ⟨w7.heap.size, 1, none⟩) (by dsimp only; omega) (.int .i64 qr2)
      have dQ : Box ((w11.setCell ⟨w7.heap.size, 0, none⟩ (.int .i64 qr1)).setCell ⟨w7.heap.size, 1, none⟩ (.int .i64 qr2)) w7.heap.size #[.int .i64 qr1, .int .i64 qr2] 27 := (cQ.set 0 (.int .i64 qr1)).set 1 (.int .i64 qr2)
      have dP : Box ((w11.setCell ⟨w7.heap.size, 0, none⟩ (.int .i64 qr1)).setCell ⟨w7.heap.size, 1, none⟩ (.int .i64 qr2)) w6.heap.size #[.int .i64 pr'1, .int .i64 pr'2] 27 := (cP.other (p := ⟨w7.heap.size, 0, none⟩) (by dsimp only; omega) (.int .i64 qr1)).other (p := ⟨w7.heap.size, 1, none⟩) (by dsimp only; omega) (.int .i64 qr2)
      clear y10 hb11 hSk cP cQ bP bQ hS10a hzk
      have bP := dP
      have bQ := dQ
      clear dP dQ
      have p0 : ((w11.setCell ⟨w7.heap.size, 0, none⟩ (.int .i64 qr1)).setCell ⟨w7.heap.size, 1, none⟩ (.int .i64 qr2)).cell? ⟨w6.heap.size, 0, none⟩ = some (.int .i64 pr'1) := bP.cell 0
      have p1 : ((w11.setCell ⟨w7.heap.size, 0, none⟩ (.int .i64 qr1)).setCell ⟨w7.heap.size, 1, none⟩ (.int .i64 qr2)).cell? ⟨w6.heap.size, 1, none⟩ = some (.int .i64 pr'2) := bP.cell 1
      have q0 : ((w11.setCell ⟨w7.heap.size, 0, none⟩ (.int .i64 qr1)).setCell ⟨w7.heap.size, 1, none⟩ (.int .i64 qr2)).cell? ⟨w7.heap.size, 0, none⟩ = some (.int .i64 qr1) := bQ.cell 0
      have q1 : ((w11.setCell ⟨w7.heap.size, 0, none⟩ (.int .i64 qr1)).setCell ⟨w7.heap.size, 1, none⟩ (.int .i64 qr2)).cell? ⟨w7.heap.size, 1, none⟩ = some (.int .i64 qr2) := bQ.cell 1
      have HW := Lib.hid (HZ.out _ hS11a).2.2.2.2.2.2.2.2.1
      go_wp2_with (go_at_call 24; refine (HWk.out _ HW.out).mono ?_; rintro e w12 ⟨rfl, hb12⟩)
      go_ret
      exact ⟨rfl, HW.out.trans (hb12.mono HW.out.size)⟩
    case pos =>
      obtain ⟨y1, y2, y3, y4, y5, y6, y7, y8, y9, _, _⟩ := HY.out _ HB.out
      obtain ⟨u, hu⟩ : ∃ u, ts[i]? = some u := ⟨_, List.getElem?_eq_getElem (by have := y4.len; omega)⟩
      have hoku := HOK.out u (List.mem_of_getElem? hu)
      unfold okTree at hoku
      have hil : i < ts.length := by have := y4.len; omega
      have hM1 : ((i : Int) ∈ natsI (nearL ts ne kn) ↔ nbB ts ne kn i = true) := near_mem hil
      have hM2 : ((kn : Int) ∈ natsI (nearL ts ne i) ↔ nbB ts ne kn i = true) := by
        rw [near_mem (by have := y4.len; omega), nb_sym]
      have hRK : i ≠ kn → (nbB ts ne kn i = true ↔ (u.x - tx) * (u.x - tx) + (u.y - ty) * (u.y - ty) ≤ ne * ne) := fun h => nb_reckon HT.out hu h
      have hSF : i = kn → nbB ts ne kn i = false := fun h => by rw [h]; exact nb_self
      have HU := Lib.hid hu
      obtain ⟨Li, hLi⟩ : ∃ Li, (nearR ⟨ts, lo, hi, pr, ne⟩ (i : Int)).length = Li := ⟨_, rfl⟩
      have hLi14 : Li ≤ 14 := by
        rw [← hLi, HNR.out i hlt]
        have := nearTo_len ts ne i ts.length
        have hl4 := y4.len
        show (nearTo ts ne i ts.length).length ≤ 14
        omega
      have HLI := Lib.hid hLi
      have HNI := Lib.hid (HNE.out i hlt)
      obtain ⟨utag, ux, uy, ugl, ugh, ucr⟩ := u
      dsimp only at hoku hRK
      have e0 : wr.cell? ⟨w.heap.size + 1, 0, none⟩ = some (.slice (some ⟨b, off, none⟩) n c) := y2.cell 0
      have e1 : wr.cell? ⟨w.heap.size + 1, 1, none⟩ = some (.int .i64 lo) := y2.cell 1
      have e2 : wr.cell? ⟨w.heap.size + 1, 2, none⟩ = some (.int .i64 hi) := y2.cell 2
      have e3 : wr.cell? ⟨w.heap.size + 1, 3, none⟩ = some (.int .i64 pr) := y2.cell 3
      have e4 : wr.cell? ⟨w.heap.size + 1, 4, none⟩ = some (.int .i64 ne) := y2.cell 4
      have HM1 := Lib.hid hM1
      have HM2 := Lib.hid hM2
      have HRK := Lib.hid hRK
      have HSF := Lib.hid hSF
      have hsq : ∀ x y : Int, -100000 ≤ x → x ≤ 100000 → 0 ≤ x * x ∧ x * x ≤ 10000000000 := fun x y h1 h2 => by
        rcases Int.le_total 0 x with h | h
        · exact ⟨Int.mul_nonneg h h, by have := Int.mul_le_mul h2 h2 h (by omega); omega⟩
        · rw [← Int.neg_mul_neg]
          exact ⟨Int.mul_nonneg (by omega) (by omega), by have := Int.mul_le_mul (a := -x) (b := -x) (c := 100000) (d := 100000) (by omega) (by omega) (by omega) (by omega); omega⟩
      have q1 := hsq (ux - tx) 0 (by omega) (by omega)
      have q2 := hsq (uy - ty) 0 (by omega) (by omega)
      have q3 := hsq ne 0 (by omega) (by omega)
      have hw1 : IntKind.i64.wrap (ux - tx) = ux - tx := by rw [IntKind.wrap_i64]; omega
      have hw2 : IntKind.i64.wrap (uy - ty) = uy - ty := by rw [IntKind.wrap_i64]; omega
      have hw3 : IntKind.i64.wrap ((ux - tx) * (ux - tx)) = (ux - tx) * (ux - tx) := by rw [IntKind.wrap_i64]; omega
      have hw4 : IntKind.i64.wrap ((uy - ty) * (uy - ty)) = (uy - ty) * (uy - ty) := by rw [IntKind.wrap_i64]; omega
      have hw5 : IntKind.i64.wrap ((ux - tx) * (ux - tx) + (uy - ty) * (uy - ty)) = (ux - tx) * (ux - tx) + (uy - ty) * (uy - ty) := by rw [IntKind.wrap_i64]; omega
      have hw6 : IntKind.i64.wrap (ne * ne) = ne * ne := by rw [IntKind.wrap_i64]; omega
      have hB := HB.out
      clear hu hM1 hM2 hRK hSF hLi y1 y2 y3 y5 y6 y7 y8 hsq
      go_wp2_with (go_at_call 15; refine (callsIn_wide.1 (near_in 6 (by omega) (some ⟨b, off, none⟩) n c ts lo hi pr ne (i : Int) wr y4)).mono ?_; rw [HNI.out]; rintro e w5 ⟨v2, rfl, hv2, hb5⟩; obtain ⟨a2, c2, rfl⟩ := row_form hv2.1; rw [HLI.out]; have hS5 := hB.trans (hb5.mono y9))
      have hI2 : IntsAt w5 a2 Li (natsI (nearL ts ne i)) := by
        have h1 := hv2.1
        have h2 : (nearL ts ne i).length = Li := by rw [← HNR.out i hlt]; exact HLI.out
        rw [HNR.out i hlt, h2] at h1
        exact ints_of_nats (by rw [h2]; exact h1) h2.symm
      have hO5 : w5.ownsRow w3.heap.size 3 1 (.slice sa sl sc) sl ((someTo kn bl i).map fun i : Nat => Value.int .i64 (i : Int)) := HO.out.kept (grown_of_below hb5) (by cases hv : (Value.slice sa sl sc).ownBlock <;> simp)
      obtain ⟨y1, y2, y3, y4', y5, y6, y7, y8, y9', _, _⟩ := HY.out _ hS5
      obtain ⟨_, f1, f2, _⟩ := y7 i ⟨utag, ux, uy, ugl, ugh, ucr⟩ HU.out
      obtain ⟨_, g1, g2, _⟩ := y7 kn ⟨tag, tx, ty, gl, gh, cr⟩ HT.out
      have k0 : w5.cell? ⟨w.heap.size + 1, 0, none⟩ = some (.slice (some ⟨b, off, none⟩) n c) := y2.cell 0
      have k4 : w5.cell? ⟨w.heap.size + 1, 4, none⟩ = some (.int .i64 ne) := y2.cell 4
      dsimp only at f1 f2 g1 g2
      have HS5 := Lib.hid hS5
      have HO5 := Lib.hid hO5
      clear e0 e1 e2 e3 e4 hv2 hb5 hS5 hO5 y1 y2 y3 y4 y7 y8 hB HB HO y9
      refine region_seq (fun W => ∀ p, W.cell? p = w5.cell? p) [(0, true), (1, true), (2, true), (3, true), (4, true), (5, true), (6, true), (7, true), (8, true), (9, true), (10, true), (11, true), (12, true), (13, true), (14, true), (15, true), (16, true), (17, true), (18, true), (19, true), (20, true), (21, true), (22, true), (23, true), (24, true), (25, true), (26, true), (27, true)]
        (by kernel_rfl) (by kernel_rfl) (by kernel_rfl) (by simp) (fun _ _ _ _ h => h) (fun _ => rfl) ?_
      (refine SeqW.take (v := ?_) rfl (by rfl) (fun W hW => ?_) ?_; rotate_left; (go_simp; with_reducible rfl); simp only [Act.put, List.setIfInBounds_toArray, List.set_cons_zero, List.set_cons_succ])
      (refine SeqW.take (v := ?_) rfl (by rfl) (fun W hW => ?_) ?_; rotate_left; (have l0 := (hW _).trans k0; have l1 := (hW _).trans f1; have l2 := (hW _).trans f2; have l3 := (hW _).trans g1; have l4 := (hW _).trans g2; go_simp; with_reducible rfl); simp only [Act.put, List.setIfInBounds_toArray, List.set_cons_zero, List.set_cons_succ])
      (refine SeqW.take (v := ?_) rfl (by rfl) (fun W hW => ?_) ?_; rotate_left; (go_simp; with_reducible rfl); simp only [Act.put, List.setIfInBounds_toArray, List.set_cons_zero, List.set_cons_succ])
      (refine SeqW.take (v := ?_) rfl (by rfl) (fun W hW => ?_) ?_; rotate_left; (go_simp; with_reducible rfl); simp only [Act.put, List.setIfInBounds_toArray, List.set_cons_zero, List.set_cons_succ])
      (refine SeqW.take (v := ?_) rfl (by rfl) (fun W hW => ?_) ?_; rotate_left; (go_simp; with_reducible rfl); simp only [Act.put, List.setIfInBounds_toArray, List.set_cons_zero, List.set_cons_succ])
      (refine SeqW.take (v := ?_) rfl (by rfl) (fun W hW => ?_) ?_; rotate_left; (have l0 := (hW _).trans k0; have l1 := (hW _).trans f1; have l2 := (hW _).trans f2; have l3 := (hW _).trans g1; have l4 := (hW _).trans g2; go_simp; with_reducible rfl); simp only [Act.put, List.setIfInBounds_toArray, List.set_cons_zero, List.set_cons_succ])
      (refine SeqW.take (v := ?_) rfl (by rfl) (fun W hW => ?_) ?_; rotate_left; (go_simp; with_reducible rfl); simp only [Act.put, List.setIfInBounds_toArray, List.set_cons_zero, List.set_cons_succ])
      (refine SeqW.take (v := ?_) rfl (by rfl) (fun W hW => ?_) ?_; rotate_left; (have l0 := (hW _).trans k0; have l1 := (hW _).trans f1; have l2 := (hW _).trans f2; have l3 := (hW _).trans g1; have l4 := (hW _).trans g2; go_simp; with_reducible rfl); simp only [Act.put, List.setIfInBounds_toArray, List.set_cons_zero, List.set_cons_succ])
      (refine SeqW.take (v := ?_) rfl (by rfl) (fun W hW => ?_) ?_; rotate_left; (go_simp; with_reducible rfl); simp only [Act.put, List.setIfInBounds_toArray, List.set_cons_zero, List.set_cons_succ])
      (refine SeqW.take (v := ?_) rfl (by rfl) (fun W hW => ?_) ?_; rotate_left; (go_simp; with_reducible rfl); simp only [Act.put, List.setIfInBounds_toArray, List.set_cons_zero, List.set_cons_succ])
      (refine SeqW.take (v := ?_) rfl (by rfl) (fun W hW => ?_) ?_; rotate_left; (go_simp; with_reducible rfl); simp only [Act.put, List.setIfInBounds_toArray, List.set_cons_zero, List.set_cons_succ])
      (refine SeqW.take (v := ?_) rfl (by rfl) (fun W hW => ?_) ?_; rotate_left; (have l0 := (hW _).trans k0; have l1 := (hW _).trans f1; have l2 := (hW _).trans f2; have l3 := (hW _).trans g1; have l4 := (hW _).trans g2; go_simp; with_reducible rfl); simp only [Act.put, List.setIfInBounds_toArray, List.set_cons_zero, List.set_cons_succ])
      (refine SeqW.take (v := ?_) rfl (by rfl) (fun W hW => ?_) ?_; rotate_left; (go_simp; with_reducible rfl); simp only [Act.put, List.setIfInBounds_toArray, List.set_cons_zero, List.set_cons_succ])
      (refine SeqW.take (v := ?_) rfl (by rfl) (fun W hW => ?_) ?_; rotate_left; (go_simp; with_reducible rfl); simp only [Act.put, List.setIfInBounds_toArray, List.set_cons_zero, List.set_cons_succ])
      (refine SeqW.take (v := ?_) rfl (by rfl) (fun W hW => ?_) ?_; rotate_left; (have l0 := (hW _).trans k0; have l1 := (hW _).trans f1; have l2 := (hW _).trans f2; have l3 := (hW _).trans g1; have l4 := (hW _).trans g2; go_simp; with_reducible rfl); simp only [Act.put, List.setIfInBounds_toArray, List.set_cons_zero, List.set_cons_succ])
      (refine SeqW.take (v := ?_) rfl (by rfl) (fun W hW => ?_) ?_; rotate_left; (go_simp; with_reducible rfl); simp only [Act.put, List.setIfInBounds_toArray, List.set_cons_zero, List.set_cons_succ])
      (refine SeqW.take (v := ?_) rfl (by rfl) (fun W hW => ?_) ?_; rotate_left; (go_simp; with_reducible rfl); simp only [Act.put, List.setIfInBounds_toArray, List.set_cons_zero, List.set_cons_succ])
      (refine SeqW.take (v := ?_) rfl (by rfl) (fun W hW => ?_) ?_; rotate_left; (go_simp; with_reducible rfl); simp only [Act.put, List.setIfInBounds_toArray, List.set_cons_zero, List.set_cons_succ])
      (refine SeqW.take (v := ?_) rfl (by rfl) (fun W hW => ?_) ?_; rotate_left; (have l0 := (hW _).trans k0; have l1 := (hW _).trans f1; have l2 := (hW _).trans f2; have l3 := (hW _).trans g1; have l4 := (hW _).trans g2; go_simp; with_reducible rfl); simp only [Act.put, List.setIfInBounds_toArray, List.set_cons_zero, List.set_cons_succ])
      (refine SeqW.take (v := ?_) rfl (by rfl) (fun W hW => ?_) ?_; rotate_left; (go_simp; with_reducible rfl); simp only [Act.put, List.setIfInBounds_toArray, List.set_cons_zero, List.set_cons_succ])
      (refine SeqW.take (v := ?_) rfl (by rfl) (fun W hW => ?_) ?_; rotate_left; (have l0 := (hW _).trans k0; have l1 := (hW _).trans f1; have l2 := (hW _).trans f2; have l3 := (hW _).trans g1; have l4 := (hW _).trans g2; go_simp; with_reducible rfl); simp only [Act.put, List.setIfInBounds_toArray, List.set_cons_zero, List.set_cons_succ])
      (refine SeqW.take (v := ?_) rfl (by rfl) (fun W hW => ?_) ?_; rotate_left; (go_simp; with_reducible rfl); simp only [Act.put, List.setIfInBounds_toArray, List.set_cons_zero, List.set_cons_succ])
      (refine SeqW.take (v := ?_) rfl (by rfl) (fun W hW => ?_) ?_; rotate_left; (go_simp; with_reducible rfl); simp only [Act.put, List.setIfInBounds_toArray, List.set_cons_zero, List.set_cons_succ])
      (refine SeqW.take (v := ?_) rfl (by rfl) (fun W hW => ?_) ?_; rotate_left; (go_simp; with_reducible rfl); simp only [Act.put, List.setIfInBounds_toArray, List.set_cons_zero, List.set_cons_succ])
      (refine SeqW.take (v := ?_) rfl (by rfl) (fun W hW => ?_) ?_; rotate_left; (have l0 := (hW _).trans k0; have l1 := (hW _).trans f1; have l2 := (hW _).trans f2; have l3 := (hW _).trans g1; have l4 := (hW _).trans g2; go_simp; with_reducible rfl); simp only [Act.put, List.setIfInBounds_toArray, List.set_cons_zero, List.set_cons_succ])
      (refine SeqW.take (v := ?_) rfl (by rfl) (fun W hW => ?_) ?_; rotate_left; (go_simp; with_reducible rfl); simp only [Act.put, List.setIfInBounds_toArray, List.set_cons_zero, List.set_cons_succ])
      (refine SeqW.take (v := ?_) rfl (by rfl) (fun W hW => ?_) ?_; rotate_left; (go_simp; with_reducible rfl); simp only [Act.put, List.setIfInBounds_toArray, List.set_cons_zero, List.set_cons_succ])
      (refine SeqW.take (v := ?_) rfl (by rfl) (fun W hW => ?_) ?_; rotate_left; (go_simp; with_reducible rfl); simp only [Act.put, List.setIfInBounds_toArray, List.set_cons_zero, List.set_cons_succ])
      refine SeqW.done ?_
      have hI1 : IntsAt w5.drew a1 L (natsI (nearL ts ne kn)) := y6
      have hI2' : IntsAt w5.drew a2 Li (natsI (nearL ts ne i)) := hI2
      have hI3 : IntsAt w5.drew ba bn bl := y5
      have hOq : w5.drew.ownsRow w3.heap.size 3 1 (.slice sa sl sc) sl ((someTo kn bl i).map fun i : Nat => Value.int .i64 (i : Int)) := HO5.out.drew
      have hSq : Below w3.heap.size w3 w5.drew := HS5.out.drew
      have kq : w5.drew.cell? ⟨w.heap.size + 1, 4, none⟩ = some (.int .i64 ne) := k4
      obtain ⟨wq, hwq⟩ : ∃ wq, w5.drew = wq := ⟨_, rfl⟩
      rw [hwq] at hI1 hI2' hI3 hOq hSq kq ⊢
      clear hwq k0 k4 f1 f2 g1 g2 hI2 y5 y6
      have hzq := hSq.size
      have HSQ := Lib.hid hSq
      have HOQ := Lib.hid hOq
      have hnn : ∀ (l : List Int) (v z : Int), (0 ≤ z ↔ v ∈ l) → v ∉ l → z < 0 := fun l v z h1 h2 => by
        by_cases h : 0 ≤ z
        · exact absurd (h1.1 h) h2
        · omega
      have hyy : ∀ (l : List Int) (v z : Int), (0 ≤ z ↔ v ∈ l) → v ∈ l → 0 ≤ z := fun l v z h1 h2 => h1.2 h2
      have HNN := Lib.hid hnn
      have HYY := Lib.hid hyy
      clear hSq hOq hnn hyy
      by_cases hik : i = kn
      · have HCH : Hid (chosen kn bl i = true) := Lib.hid (by simp [chosen, hik])
        have HA1 : Hid (∀ z : Int, (0 ≤ z ↔ (i : Int) ∈ natsI (nearL ts ne kn)) → z < 0) := Lib.hid fun z h => HNN.out _ _ z h (by rw [HM1.out, HSF.out hik]; simp)
        have HA2 : Hid (∀ z : Int, (0 ≤ z ↔ (kn : Int) ∈ natsI (nearL ts ne i)) → z < 0) := Lib.hid fun z h => HNN.out _ _ z h (by rw [HM2.out, HSF.out hik]; simp)
        have hb1 : ((i : Int) == (kn : Int)) = true := by simp [hik]
        have hb2 : ((i : Int) != (kn : Int)) = false := by simp [hik]
        have HIK := Lib.hid hik
        clear hik
        go_wp2_with (first
          | (go_at_call 46; first
              | ((with_reducible refine (refAt_same a1 L c1 _ (i : Int) _ hI1 (by unfold maxLen; omega)).mono ?_); rintro e w' ⟨z1, rfl, hz1, rfl⟩; have hs1 := HA1.out z1 hz1.out; clear hz1)
              | ((with_reducible refine (refAt_same a2 Li c2 _ (kn : Int) _ hI2' (by unfold maxLen; omega)).mono ?_); rintro e w' ⟨z2, rfl, hz2, rfl⟩; have hs2 := HA2.out z2 hz2.out; clear hz2)
              | ((with_reducible refine (refAt_same ba bn bc _ (i : Int) _ hI3 HBN.out).mono ?_); rintro e w' ⟨z3, rfl, hz3, rfl⟩; have hs3 := HA3.out z3 hz3.out; clear hz3))
          | (at_builtin; refine wpList_append_own _ rfl _ _ 30 rfl w3.heap.size 3 i0 (.int .i64 0) 1 8 Tryd.underlying30 hi0 hz0 hz1 hz2 rfl (by decide) _ _ _ rfl (HOQ.out.alloc _) ⟨wq.heap.size, 0, none⟩ 1 1 [.int .i64 (i : Int)] rfl rfl (cell_one_new _ _ _) (by simp [Value.oneCell']) (by unfold maxLen; omega) (by omega) (by simp; omega) ?_; intro v2 w8 hown2 hgrow2 _; obtain ⟨va2, vc2, rfl⟩ := row_form hown2))
        go_roundw
        case rel => exact ⟨i + 1, va2, sl + 1, vc2, (sl : Int), by omega, by go_num, rfl, rfl, by omega, Lib.hid (by rw [someTo_yes HCH.out, List.length_append, ← HSL.out]; rfl), Lib.hid (by rw [HIK.out, atTo_self, HSL.out, HIK.out]), Lib.hid ((HSQ.out.alloc (by omega) _).grown hgrow2 (by simp; omega) (fun i ei => by have := row_ge HOQ.out i ei; omega)), Lib.hid (by rw [someTo_yes HCH.out, List.map_append]; exact hown2)⟩
        case measure => simp [intOf]; omega
      · have hb1 : ((i : Int) == (kn : Int)) = false := by rw [beq_eq_false_iff_ne]; omega
        have hb2 : ((i : Int) != (kn : Int)) = true := by rw [bne_iff_ne]; omega
        have HAT2 : Hid (at_ = atTo kn bl (i + 1)) := Lib.hid (by rw [atTo_other hik]; exact HAT.out)
        have hrk := HRK.out hik
        have hkey : (nbB ts ne kn i = true ∧ (ux - tx) * (ux - tx) + (uy - ty) * (uy - ty) ≤ ne * ne) ∨ (nbB ts ne kn i ≠ true ∧ ne * ne < (ux - tx) * (ux - tx) + (uy - ty) * (uy - ty)) := by
          by_cases h : nbB ts ne kn i = true
          · exact .inl ⟨h, hrk.1 h⟩
          · exact .inr ⟨h, by
              by_cases h2 : (ux - tx) * (ux - tx) + (uy - ty) * (uy - ty) ≤ ne * ne
              · exact absurd (hrk.2 h2) h
              · omega⟩
        clear hrk
        rcases hkey with ⟨hnb, hd⟩ | ⟨hnb, hd⟩
        · have hd2 : decide ((ux - tx) * (ux - tx) + (uy - ty) * (uy - ty) ≤ ne * ne) = true := by simp; omega
          have HA1 : Hid (∀ z : Int, (0 ≤ z ↔ (i : Int) ∈ natsI (nearL ts ne kn)) → 0 ≤ z) := Lib.hid fun z h => HYY.out _ _ z h (by rw [HM1.out]; exact hnb)
          have HA2 : Hid (∀ z : Int, (0 ≤ z ↔ (kn : Int) ∈ natsI (nearL ts ne i)) → 0 ≤ z) := Lib.hid fun z h => HYY.out _ _ z h (by rw [HM2.out]; exact hnb)
          by_cases hkp : (i : Int) ∈ bl
          · have HCH : Hid (chosen kn bl i = true) := Lib.hid (by simp [chosen, hkp])
            have HA3 : Hid (∀ z : Int, (0 ≤ z ↔ (i : Int) ∈ bl) → 0 ≤ z) := Lib.hid fun z h => HYY.out _ _ z h hkp
            clear hkp hik hnb
            go_wp2_with (first
              | (go_at_call 46; first
                  | ((with_reducible refine (refAt_same a1 L c1 _ (i : Int) _ hI1 (by unfold maxLen; omega)).mono ?_); rintro e w' ⟨z1, rfl, hz1, rfl⟩; have hs1 := HA1.out z1 hz1.out; clear hz1)
                  | ((with_reducible refine (refAt_same a2 Li c2 _ (kn : Int) _ hI2' (by unfold maxLen; omega)).mono ?_); rintro e w' ⟨z2, rfl, hz2, rfl⟩; have hs2 := HA2.out z2 hz2.out; clear hz2)
                  | ((with_reducible refine (refAt_same ba bn bc _ (i : Int) _ hI3 HBN.out).mono ?_); rintro e w' ⟨z3, rfl, hz3, rfl⟩; have hs3 := HA3.out z3 hz3.out; clear hz3))
              | (at_builtin; refine wpList_append_own _ rfl _ _ 30 rfl w3.heap.size 3 i0 (.int .i64 0) 1 8 Tryd.underlying30 hi0 hz0 hz1 hz2 rfl (by decide) _ _ _ rfl (HOQ.out.alloc _) ⟨wq.heap.size, 0, none⟩ 1 1 [.int .i64 (i : Int)] rfl rfl (cell_one_new _ _ _) (by simp [Value.oneCell']) (by unfold maxLen; omega) (by omega) (by simp; omega) ?_; intro v2 w8 hown2 hgrow2 _; obtain ⟨va2, vc2, rfl⟩ := row_form hown2))
            go_roundw
            case rel => exact ⟨i + 1, va2, sl + 1, vc2, at_, by omega, by go_num, rfl, rfl, by omega, Lib.hid (by rw [someTo_yes HCH.out, List.length_append, ← HSL.out]; rfl), Lib.hid (HAT2.out), Lib.hid ((HSQ.out.alloc (by omega) _).grown hgrow2 (by simp; omega) (fun i ei => by have := row_ge HOQ.out i ei; omega)), Lib.hid (by rw [someTo_yes HCH.out, List.map_append]; exact hown2)⟩
            case measure => simp [intOf]; omega
          · have HCH : Hid (chosen kn bl i = false) := Lib.hid (by simp [chosen, hkp, hik])
            have HA3 : Hid (∀ z : Int, (0 ≤ z ↔ (i : Int) ∈ bl) → z < 0) := Lib.hid fun z h => HNN.out _ _ z h hkp
            clear hkp hik hnb
            go_wp2_with (go_at_call 46; first
                | ((with_reducible refine (refAt_same a1 L c1 _ (i : Int) _ hI1 (by unfold maxLen; omega)).mono ?_); rintro e w' ⟨z1, rfl, hz1, rfl⟩; have hs1 := HA1.out z1 hz1.out; clear hz1)
                | ((with_reducible refine (refAt_same a2 Li c2 _ (kn : Int) _ hI2' (by unfold maxLen; omega)).mono ?_); rintro e w' ⟨z2, rfl, hz2, rfl⟩; have hs2 := HA2.out z2 hz2.out; clear hz2)
                | ((with_reducible refine (refAt_same ba bn bc _ (i : Int) _ hI3 HBN.out).mono ?_); rintro e w' ⟨z3, rfl, hz3, rfl⟩; have hs3 := HA3.out z3 hz3.out; clear hz3))
            go_roundw
            case rel => exact ⟨i + 1, sa, sl, sc, at_, by omega, by go_num, rfl, rfl, by omega, Lib.hid (by rw [someTo_no HCH.out]; exact HSL.out), Lib.hid (HAT2.out), HSQ, Lib.hid (by rw [someTo_no HCH.out]; exact HOQ.out)⟩
            case measure => simp [intOf]; omega
        · have hd2 : decide ((ux - tx) * (ux - tx) + (uy - ty) * (uy - ty) ≤ ne * ne) = false := by simp; omega
          have HA1 : Hid (∀ z : Int, (0 ≤ z ↔ (i : Int) ∈ natsI (nearL ts ne kn)) → z < 0) := Lib.hid fun z h => HNN.out _ _ z h (by rw [HM1.out]; exact hnb)
          have HA2 : Hid (∀ z : Int, (0 ≤ z ↔ (kn : Int) ∈ natsI (nearL ts ne i)) → z < 0) := Lib.hid fun z h => HNN.out _ _ z h (by rw [HM2.out]; exact hnb)
          by_cases hkp : (i : Int) ∈ bl
          · have HCH : Hid (chosen kn bl i = true) := Lib.hid (by simp [chosen, hkp])
            have HA3 : Hid (∀ z : Int, (0 ≤ z ↔ (i : Int) ∈ bl) → 0 ≤ z) := Lib.hid fun z h => HYY.out _ _ z h hkp
            clear hkp hik hnb
            go_wp2_with (first
              | (go_at_call 46; first
                  | ((with_reducible refine (refAt_same a1 L c1 _ (i : Int) _ hI1 (by unfold maxLen; omega)).mono ?_); rintro e w' ⟨z1, rfl, hz1, rfl⟩; have hs1 := HA1.out z1 hz1.out; clear hz1)
                  | ((with_reducible refine (refAt_same a2 Li c2 _ (kn : Int) _ hI2' (by unfold maxLen; omega)).mono ?_); rintro e w' ⟨z2, rfl, hz2, rfl⟩; have hs2 := HA2.out z2 hz2.out; clear hz2)
                  | ((with_reducible refine (refAt_same ba bn bc _ (i : Int) _ hI3 HBN.out).mono ?_); rintro e w' ⟨z3, rfl, hz3, rfl⟩; have hs3 := HA3.out z3 hz3.out; clear hz3))
              | (at_builtin; refine wpList_append_own _ rfl _ _ 30 rfl w3.heap.size 3 i0 (.int .i64 0) 1 8 Tryd.underlying30 hi0 hz0 hz1 hz2 rfl (by decide) _ _ _ rfl (HOQ.out.alloc _) ⟨wq.heap.size, 0, none⟩ 1 1 [.int .i64 (i : Int)] rfl rfl (cell_one_new _ _ _) (by simp [Value.oneCell']) (by unfold maxLen; omega) (by omega) (by simp; omega) ?_; intro v2 w8 hown2 hgrow2 _; obtain ⟨va2, vc2, rfl⟩ := row_form hown2))
            go_roundw
            case rel => exact ⟨i + 1, va2, sl + 1, vc2, at_, by omega, by go_num, rfl, rfl, by omega, Lib.hid (by rw [someTo_yes HCH.out, List.length_append, ← HSL.out]; rfl), Lib.hid (HAT2.out), Lib.hid ((HSQ.out.alloc (by omega) _).grown hgrow2 (by simp; omega) (fun i ei => by have := row_ge HOQ.out i ei; omega)), Lib.hid (by rw [someTo_yes HCH.out, List.map_append]; exact hown2)⟩
            case measure => simp [intOf]; omega
          · have HCH : Hid (chosen kn bl i = false) := Lib.hid (by simp [chosen, hkp, hik])
            have HA3 : Hid (∀ z : Int, (0 ≤ z ↔ (i : Int) ∈ bl) → z < 0) := Lib.hid fun z h => HNN.out _ _ z h hkp
            clear hkp hik hnb
            go_wp2_with (go_at_call 46; first
                | ((with_reducible refine (refAt_same a1 L c1 _ (i : Int) _ hI1 (by unfold maxLen; omega)).mono ?_); rintro e w' ⟨z1, rfl, hz1, rfl⟩; have hs1 := HA1.out z1 hz1.out; clear hz1)
                | ((with_reducible refine (refAt_same a2 Li c2 _ (kn : Int) _ hI2' (by unfold maxLen; omega)).mono ?_); rintro e w' ⟨z2, rfl, hz2, rfl⟩; have hs2 := HA2.out z2 hz2.out; clear hz2)
                | ((with_reducible refine (refAt_same ba bn bc _ (i : Int) _ hI3 HBN.out).mono ?_); rintro e w' ⟨z3, rfl, hz3, rfl⟩; have hs3 := HA3.out z3 hz3.out; clear hz3))
            go_roundw
            case rel => exact ⟨i + 1, sa, sl, sc, at_, by omega, by go_num, rfl, rfl, by omega, Lib.hid (by rw [someTo_no HCH.out]; exact HSL.out), Lib.hid (HAT2.out), HSQ, Lib.hid (by rw [someTo_no HCH.out]; exact HOQ.out)⟩
            case measure => simp [intOf]; omega
end Go.Proofs.YtcjmfacdjdegkaaDoor
