/- The law StandTrue says true. Conditions: the trees and the numbers lie in memory as told; the chapter's examples hold in each world that comes after. -/
import Derived.Test.YtcjmfacdjdegkaaDoorQ2
import Derived.Test.YtcjmfacdjdegkaaDoorBM
import Derived.Test.YtcjmfacdjdegkaaDoorR0
import Derived.Test.YtcjmfacdjdegkaaDoorR2
import Derived.Test.YtcjmfacdjdegkaaDoorRS
namespace Go.Proofs.YtcjmfacdjdegkaaDoor
open Go Go.RowKit
theorem orE_zero2 {a b : Int} (ha : a = 0) (hb : b = 0) : orE [a, b] = 0 := by subst ha; subst hb; rfl
theorem orE_zero4 {a b c d : Int} (ha : a = 0) (hb : b = 0) (hc : c = 0) (hd : d = 0) : orE [a, b, c, d] = 0 := by subst ha; subst hb; subst hc; subst hd; rfl
theorem treeE_zero {n : Nat} {k : Nat} (h : k < n) : treeE (n : Int) (k : Int) = 0 := by unfold treeE; rw [if_pos (frB_iff.2 ⟨by omega, by omega⟩)]
/-- How many of the girths, of the first k that a rule asks for, are at most this one. -/
def ownI (r : Rule) (cr g k : Int) : Int := if cr < r.cr then 0 else (if 1 ≤ k ∧ r.a ≤ g then 1 else 0) + (if 2 ≤ k ∧ r.b ≤ g then 1 else 0) + (if 3 ≤ k ∧ r.c ≤ g then 1 else 0)
theorem ownI_three (r : Rule) (cr g : Int) : ownI r cr g 3 = manyN r cr g := by
  unfold ownI manyN
  split
  · rfl
  · congr 1
    · congr 1 <;> (congr 1; simp)
    · congr 1; simp
theorem ownI_zero (r : Rule) (cr g : Int) : ownI r cr g 0 = 0 := by unfold ownI; split <;> simp
theorem ownI_low {r : Rule} {cr g : Int} (h : cr < r.cr) (k : Int) : ownI r cr g k = 0 := by unfold ownI; rw [if_pos h]
theorem ownI_one {r : Rule} {cr g : Int} (h : ¬ cr < r.cr) : ownI r cr g 1 = ownI r cr g 0 + if r.a ≤ g then 1 else 0 := by unfold ownI; rw [if_neg h, if_neg h]; simp
theorem ownI_two {r : Rule} {cr g : Int} (h : ¬ cr < r.cr) : ownI r cr g 2 = ownI r cr g 1 + if r.b ≤ g then 1 else 0 := by unfold ownI; rw [if_neg h, if_neg h]; simp
theorem ownI_thr {r : Rule} {cr g : Int} (h : ¬ cr < r.cr) : ownI r cr g 3 = ownI r cr g 2 + if r.c ≤ g then 1 else 0 := by unfold ownI; rw [if_neg h, if_neg h]; simp
set_option maxRecDepth 100000 in
set_option maxHeartbeats 4000000 in
theorem standTrue_any (ra rb rc rr : Int) (a : Option Addr) (n c : Nat) (ts : List Tree) (lo hi pr ne n0 n1 n2 : Int) (ba : Option Addr) (bn bc : Nat) (bl : List Int) (w : World) (hT : Trees w a n c ts)
    (hN0 : -9223372036854775808 ≤ n0 ∧ n0 ≤ 9223372036854775807) (hN1 : -9223372036854775808 ≤ n1 ∧ n1 ≤ 9223372036854775807) (hN2 : -9223372036854775808 ≤ n2 ∧ n2 ≤ 9223372036854775807)
    (hBA : IntsAt w ba bn bl) (hBF : ∀ x ∈ bl, -9223372036854775808 ≤ x ∧ x ≤ 9223372036854775807) (hBN : bn ≤ maxLen)
    (hWk : ∀ W, Below w.heap.size w W → Calls Tryd.prog 24 #[] W fun e w' => e = .returned (.bool true) ∧ Below W.heap.size W w') :
    Calls Tryd.prog 8 #[.agg #[.int .i64 ra, .int .i64 rb, .int .i64 rc, .int .i64 rr], .agg #[.slice a n c, .int .i64 lo, .int .i64 hi, .int .i64 pr, .int .i64 ne], .agg #[.int .i64 n0, .int .i64 n1, .int .i64 n2], .slice ba bn bc] w fun e w' => e = .returned (.bool true) ∧ Below w.heap.size w w' := by
  have HN := Lib.hid hT.len
  have hfit := hT.fits
  have HWk := Lib.hid hWk
  have HBF := Lib.hid hBF
  have HBN := Lib.hid hBN
  have HX : Hid (∀ W, Below (w.heap.size + 1 + 1 + 1) (((w.alloc (.cells #[.int .i64 ra, .int .i64 rb, .int .i64 rc, .int .i64 rr] 24)).alloc (.cells #[.slice a n c, .int .i64 lo, .int .i64 hi, .int .i64 pr, .int .i64 ne] 29)).alloc (.cells #[.int .i64 n0, .int .i64 n1, .int .i64 n2] 22)) W → Box W w.heap.size #[.int .i64 ra, .int .i64 rb, .int .i64 rc, .int .i64 rr] 24 ∧ Box W (w.heap.size + 1) #[.slice a n c, .int .i64 lo, .int .i64 hi, .int .i64 pr, .int .i64 ne] 29 ∧ Box W (w.heap.size + 1 + 1) #[.int .i64 n0, .int .i64 n1, .int .i64 n2] 22 ∧ Trees W a n c ts ∧ IntsAt W ba bn bl ∧ Below w.heap.size w W ∧ w.heap.size + 1 + 1 < W.heap.size) := Lib.hid fun W h => by
    have hB : Below w.heap.size w W := ((((Below.refl _ _).alloc (Nat.le_refl _) _).alloc (by simp) _).alloc (by simp; omega) _).trans (h.mono (by omega))
    have b1 := Box.new (w.alloc (.cells #[.int .i64 ra, .int .i64 rb, .int .i64 rc, .int .i64 rr] 24)) #[.slice a n c, .int .i64 lo, .int .i64 hi, .int .i64 pr, .int .i64 ne] 29
    have b2 := Box.new ((w.alloc (.cells #[.int .i64 ra, .int .i64 rb, .int .i64 rc, .int .i64 rr] 24)).alloc (.cells #[.slice a n c, .int .i64 lo, .int .i64 hi, .int .i64 pr, .int .i64 ne] 29)) #[.int .i64 n0, .int .i64 n1, .int .i64 n2] 22
    simp only [World.size_alloc] at b1 b2
    exact ⟨(((Box.new w _ _).alloc _).alloc _).below h (by omega), (b1.alloc _).below h (by omega), b2.below h (by omega), hT.below hB, hBA.below hB, hB, by have := h.size; simp at this; omega⟩
  have hS0 : Below (w.heap.size + 1 + 1 + 1) (((w.alloc (.cells #[.int .i64 ra, .int .i64 rb, .int .i64 rc, .int .i64 rr] 24)).alloc (.cells #[.slice a n c, .int .i64 lo, .int .i64 hi, .int .i64 pr, .int .i64 ne] 29)).alloc (.cells #[.int .i64 n0, .int .i64 n1, .int .i64 n2] 22)) (((w.alloc (.cells #[.int .i64 ra, .int .i64 rb, .int .i64 rc, .int .i64 rr] 24)).alloc (.cells #[.slice a n c, .int .i64 lo, .int .i64 hi, .int .i64 pr, .int .i64 ne] 29)).alloc (.cells #[.int .i64 n0, .int .i64 n1, .int .i64 n2] 22)) := Below.refl _ _
  clear hT hWk hBA hBF hBN
  obtain ⟨rE, hrE⟩ : ∃ v, ruleE ⟨ra, rb, rc, rr⟩ = v := ⟨_, rfl⟩
  obtain ⟨cE, hcE⟩ : ∃ v, checkE ⟨ts, lo, hi, pr, ne⟩ = v := ⟨_, rfl⟩
  have HRE := Lib.hid hrE
  have HCE := Lib.hid hcE
  by_cases hR0 : rE = 0
  case neg =>
    clear hrE hcE
    have hb : (rE != 0) = true := by simpa using hR0
    go_enter Tryd.func8, Tryd.ntmps8
    go_wp2_with (first
      | (go_at_call 24; refine (HWk.out _ (HX.out _ hSc).2.2.2.2.2.1).mono ?_; rintro e w7 ⟨rfl, hb7⟩)
      | (go_at_call 22; refine (checkRule_any _ _ _ _ _).mono ?_; rw [HRE.out]; rintro e w1 ⟨rfl, hb1⟩; have hSc := hS0.trans (hb1.mono (by simp only [World.size_alloc]; omega))))
    go_ret
    exact ⟨rfl, (HX.out _ hSc).2.2.2.2.2.1.trans (hb7.mono (HX.out _ hSc).2.2.2.2.2.1.size)⟩
  subst hR0
  by_cases hC0 : cE = 0
  case neg =>
    clear hrE hcE
    have hb : (cE != 0) = true := by simpa using hC0
    go_enter Tryd.func8, Tryd.ntmps8
    go_wp2_with (first
      | (go_at_call 24; refine (HWk.out _ (HX.out _ hSc).2.2.2.2.2.1).mono ?_; rintro e w7 ⟨rfl, hb7⟩)
      | (go_at_call 20; refine (check_any a n c ts lo hi pr ne _ (HX.out _ hSd).2.2.2.1).mono ?_; rw [HCE.out]; rintro e w2 ⟨rfl, hb2⟩; have hSc := hSd.trans (hb2.mono (by have := hSd.size; simp only [World.size_alloc] at this; omega)))
      | (go_at_call 22; refine (checkRule_any _ _ _ _ _).mono ?_; rw [HRE.out]; rintro e w1 ⟨rfl, hb1⟩; have hSd := hS0.trans (hb1.mono (by simp only [World.size_alloc]; omega)); have qs := (HX.out _ hSd).2.1; have e0 : w1.cell? ⟨w.heap.size + 1, 0, none⟩ = some (.slice a n c) := qs.cell 0; have e1 : w1.cell? ⟨w.heap.size + 1, 1, none⟩ = some (.int .i64 lo) := qs.cell 1; have e2 : w1.cell? ⟨w.heap.size + 1, 2, none⟩ = some (.int .i64 hi) := qs.cell 2; have e3 : w1.cell? ⟨w.heap.size + 1, 3, none⟩ = some (.int .i64 pr) := qs.cell 3; have e4 : w1.cell? ⟨w.heap.size + 1, 4, none⟩ = some (.int .i64 ne) := qs.cell 4; clear qs))
    go_ret
    exact ⟨rfl, (HX.out _ hSc).2.2.2.2.2.1.trans (hb7.mono (HX.out _ hSc).2.2.2.2.2.1.size)⟩
  subst hC0
  by_cases hn0 : n = 0
  case pos =>
    subst hn0
    clear hrE hcE
    go_enter Tryd.func8, Tryd.ntmps8
    go_wp2_with (first
      | (go_at_call 24; refine (HWk.out _ (HX.out _ hSc).2.2.2.2.2.1).mono ?_; rintro e w7 ⟨rfl, hb7⟩)
      | (go_at_call 20; refine (check_any a 0 c ts lo hi pr ne _ (HX.out _ hSd).2.2.2.1).mono ?_; rw [HCE.out]; rintro e w2 ⟨rfl, hb2⟩; have hSc := hSd.trans (hb2.mono (by have := hSd.size; simp only [World.size_alloc] at this; omega)); clear e0; have e0 : w2.cell? ⟨w.heap.size + 1, 0, none⟩ = some (.slice a 0 c) := (HX.out _ hSc).2.1.cell 0)
      | (go_at_call 22; refine (checkRule_any _ _ _ _ _).mono ?_; rw [HRE.out]; rintro e w1 ⟨rfl, hb1⟩; have hSd := hS0.trans (hb1.mono (by simp only [World.size_alloc]; omega)); have qs := (HX.out _ hSd).2.1; have e0 : w1.cell? ⟨w.heap.size + 1, 0, none⟩ = some (.slice a 0 c) := qs.cell 0; have e1 : w1.cell? ⟨w.heap.size + 1, 1, none⟩ = some (.int .i64 lo) := qs.cell 1; have e2 : w1.cell? ⟨w.heap.size + 1, 2, none⟩ = some (.int .i64 hi) := qs.cell 2; have e3 : w1.cell? ⟨w.heap.size + 1, 3, none⟩ = some (.int .i64 pr) := qs.cell 3; have e4 : w1.cell? ⟨w.heap.size + 1, 4, none⟩ = some (.int .i64 ne) := qs.cell 4; clear qs))
    go_ret
    exact ⟨rfl, (HX.out _ hSc).2.2.2.2.2.1.trans (hb7.mono (HX.out _ hSc).2.2.2.2.2.1.size)⟩
  have hn1 : 0 < n := by omega
  go_enter Tryd.func8, Tryd.ntmps8
  go_wp2_with (first
    | (go_at_call 20; refine (check_any a n c ts lo hi pr ne _ (HX.out _ hSd).2.2.2.1).mono ?_; rw [HCE.out]; rintro e w2 ⟨rfl, hb2⟩; have hSc := hSd.trans (hb2.mono (by have := hSd.size; simp only [World.size_alloc] at this; omega)); clear e0; have e0 : w2.cell? ⟨w.heap.size + 1, 0, none⟩ = some (.slice a n c) := (HX.out _ hSc).2.1.cell 0)
    | (go_at_call 22; refine (checkRule_any _ _ _ _ _).mono ?_; rw [HRE.out]; rintro e w1 ⟨rfl, hb1⟩; have hSd := hS0.trans (hb1.mono (by simp only [World.size_alloc]; omega)); have qs := (HX.out _ hSd).2.1; have e0 : w1.cell? ⟨w.heap.size + 1, 0, none⟩ = some (.slice a n c) := qs.cell 0; have e1 : w1.cell? ⟨w.heap.size + 1, 1, none⟩ = some (.int .i64 lo) := qs.cell 1; have e2 : w1.cell? ⟨w.heap.size + 1, 2, none⟩ = some (.int .i64 hi) := qs.cell 2; have e3 : w1.cell? ⟨w.heap.size + 1, 3, none⟩ = some (.int .i64 pr) := qs.cell 3; have e4 : w1.cell? ⟨w.heap.size + 1, 4, none⟩ = some (.int .i64 ne) := qs.cell 4; clear qs))
  clear e0 e1 e2 e3 e4 hb1 hb2 hSd hS0 hn0
  have z2 := (HX.out _ hSc).2.2.2.2.2.2
  have hv : standB ⟨ts, lo, hi, pr, ne⟩ = true := by
    unfold checkE at hcE
    by_cases h : standB ⟨ts, lo, hi, pr, ne⟩ = true
    · exact h
    · rw [if_neg h] at hcE; omega
  have hnl := HN.out
  have hq0 := modN_range (n := n0) (c := (n : Int)) (by omega)
  have hq1 := modN_range (n := n1) (c := 61) (by omega)
  have hq2 := modN_range (n := n2) (c := 3) (by omega)
  obtain ⟨kn, hkn⟩ : ∃ kn : Nat, modN n0 n = kn := ⟨(modN n0 n).toNat, by omega⟩
  obtain ⟨ys, hys⟩ : ∃ ys : Nat, modN n1 61 = ys := ⟨(modN n1 61).toNat, by omega⟩
  obtain ⟨m, hm⟩ : ∃ m : Int, modN n2 3 = m := ⟨_, rfl⟩
  rw [hkn] at hq0
  rw [hys] at hq1
  rw [hm] at hq2
  have hklt : kn < n := by omega
  have hys60 : ys ≤ 60 := by omega
  obtain ⟨t, ht⟩ : ∃ t, ts[kn]? = some t := ⟨_, List.getElem?_eq_getElem (by omega)⟩
  have htm : t ∈ ts := List.mem_of_getElem? ht
  obtain ⟨b, off, ha⟩ : ∃ b off, a = some ⟨b, off, none⟩ := by
    rcases (HX.out _ hSc).2.2.2.1.at_ with h | ⟨b, off, h, _⟩
    · simp [h] at ht
    · exact ⟨b, off, h⟩
  subst ha
  have hNE : nearE ⟨ts, lo, hi, pr, ne⟩ (kn : Int) = 0 := orE_zero2 hcE (treeE_zero (by dsimp only; omega))
  have hRDE : readyE ⟨ra, rb, rc, rr⟩ ⟨ts, lo, hi, pr, ne⟩ (kn : Int) (1 + m) = 0 := orE_zero4 hrE hcE (treeE_zero (by dsimp only; omega)) (rangeE_zero ⟨by omega, by omega⟩)
  have hGE := ready_girth hRDE
  have hFE := ready_faces hRDE
  have ht' : (⟨ts, lo, hi, pr, ne⟩ : Stand).ts[((kn : Int)).toNat]? = some t := ht
  have hrr := readyR_eq hRDE ht'
  obtain ⟨r1, hr1⟩ : ∃ v, (readyR ⟨ra, rb, rc, rr⟩ ⟨ts, lo, hi, pr, ne⟩ (kn : Int) (1 + m)).1 = v := ⟨_, rfl⟩
  obtain ⟨r2, hr2⟩ : ∃ v, (readyR ⟨ra, rb, rc, rr⟩ ⟨ts, lo, hi, pr, ne⟩ (kn : Int) (1 + m)).2 = v := ⟨_, rfl⟩
  have hu : firstTo (reachP ⟨ra, rb, rc, rr⟩ t.cr (1 + m) t.gh (rateH ⟨ts, lo, hi, pr, ne⟩ kn)) 201 = r1 := by rw [← hr1, hrr]; rfl
  have hw : firstTo (reachP ⟨ra, rb, rc, rr⟩ t.cr (1 + m) t.gl (rateL ⟨ts, lo, hi, pr, ne⟩ kn)) 201 = r2 := by rw [← hr2, hrr]; rfl
  have hrb := rates_of hv kn
  have hrl := rate_le hv kn
  have hsp := span_of hv htm
  have hgb := girth_of hv htm
  have hhd : ts.length ≤ 14 ∧ 0 ≤ lo ∧ lo ≤ 100 ∧ 0 ≤ hi ∧ hi ≤ 100 ∧ 0 ≤ pr ∧ pr ≤ 100 := by
    have := hv
    simp only [standB, headB, Bool.and_eq_true, spanB_iff, frB_iff, decide_eq_true_eq] at this
    omega
  obtain ⟨L, hL⟩ : ∃ L, (nearR ⟨ts, lo, hi, pr, ne⟩ (kn : Int)).length = L := ⟨_, rfl⟩
  have hL14 : L ≤ 14 := by
    rw [← hL]; unfold nearR; rw [if_pos hNE]
    have := nearTo_len ts ne kn ts.length
    show (nearTo ts ne kn ts.length).length ≤ 14
    omega
  have hnn : nearR ⟨ts, lo, hi, pr, ne⟩ (kn : Int) = nearL ts ne kn := by unfold nearR; rw [if_pos hNE]; rfl
  have hRL : max 0 (lo - pr * (L : Int)) = rateL ⟨ts, lo, hi, pr, ne⟩ kn := by
    show _ = max 0 (lo - pr * ((nearL ts ne kn).length : Int)); rw [← hL, hnn]
  have hRH : max 0 (hi - pr * (L : Int)) = rateH ⟨ts, lo, hi, pr, ne⟩ kn := by
    show _ = max 0 (hi - pr * ((nearL ts ne kn).length : Int)); rw [← hL, hnn]
  have hprL : 0 ≤ pr * (L : Int) ∧ pr * (L : Int) ≤ 1400 := ⟨Int.mul_nonneg (by omega) (by omega), by
    have := Int.mul_le_mul (a := pr) (b := (L : Int)) (c := 100) (d := 14) (by omega) (by omega) (by omega) (by omega)
    omega⟩
  obtain ⟨rl, hrlv⟩ : ∃ v, rateL ⟨ts, lo, hi, pr, ne⟩ kn = v := ⟨_, rfl⟩
  obtain ⟨rh, hrhv⟩ : ∃ v, rateH ⟨ts, lo, hi, pr, ne⟩ kn = v := ⟨_, rfl⟩
  rw [hrlv] at hRL hw hrb hrl
  rw [hrhv] at hRH hu hrb hrl
  have HKN := Lib.hid hkn
  have HYS := Lib.hid hys
  have HM := Lib.hid hm
  have HT := Lib.hid ht
  have HNE := Lib.hid hNE
  have HRDE := Lib.hid hRDE
  have HGE := Lib.hid hGE
  have HFE := Lib.hid hFE
  have HR1 := Lib.hid hr1
  have HR2 := Lib.hid hr2
  have HU := Lib.hid hu
  have HV := Lib.hid hw
  have HL := Lib.hid hL
  have HRL := Lib.hid hRL
  have HRH := Lib.hid hRH
  have HRLV := Lib.hid hrlv
  have HRHV := Lib.hid hrhv
  have HSP := Lib.hid hsp
  obtain ⟨tag, tx, ty, gl, gh, cr⟩ := t
  dsimp only at hgb hsp
  have HGB := Lib.hid hgb
  have hS : Below w2.heap.size w2 w2.drew := (Below.refl _ _).drew
  have HQ : Hid (∀ W, Below w2.heap.size w2 W → Below (w.heap.size + 1 + 1 + 1) (((w.alloc (.cells #[.int .i64 ra, .int .i64 rb, .int .i64 rc, .int .i64 rr] 24)).alloc (.cells #[.slice (some ⟨b, off, none⟩) n c, .int .i64 lo, .int .i64 hi, .int .i64 pr, .int .i64 ne] 29)).alloc (.cells #[.int .i64 n0, .int .i64 n1, .int .i64 n2] 22)) W) := Lib.hid fun W h => hSc.trans (h.mono (by omega))
  have hwm : IntKind.i64.wrap (1 + m) = 1 + m := by rw [IntKind.wrap_i64]; omega
  have hnmax : (n : Int) ≤ 9223372036854775807 := by omega
  clear hv hnl hkn hys hm ht htm hNE hRDE hGE hFE ht' hrr hr1 hr2 hu hw hL hnn hRL hRH hrlv hrhv hsp hrE hcE hSc hgb hq0 hq1
  refine region_seq (fun W => Below w2.heap.size w2 W) [(0, true), (1, true), (2, true), (3, true), (4, true), (6, true), (7, true), (9, true), (10, true), (5, false), (8, false), (11, false), (12, true), (13, true), (14, true), (15, true)]
    (by kernel_rfl) (by kernel_rfl) (by kernel_rfl) (by simp) (fun _ _ _ _ h => h) hS ?_
  (refine SeqW.take (v := ?_) rfl (by rfl) (fun W hW => ?_) ?_; rotate_left; (go_simp; with_reducible rfl); simp only [Act.put, List.setIfInBounds_toArray, List.set_cons_zero, List.set_cons_succ])
  (refine SeqW.take (v := ?_) rfl (by rfl) (fun W hW => ?_) ?_; rotate_left; (obtain ⟨_, u1, u2, _⟩ := HX.out W (HQ.out W hW); have s0 : W.cell? ⟨w.heap.size + 1, 0, none⟩ = some (.slice (some ⟨b, off, none⟩) n c) := u1.cell 0; have t0 : W.cell? ⟨w.heap.size + 1 + 1, 0, none⟩ = some (.int .i64 n0) := u2.cell 0; have t1 : W.cell? ⟨w.heap.size + 1 + 1, 1, none⟩ = some (.int .i64 n1) := u2.cell 1; have t2 : W.cell? ⟨w.heap.size + 1 + 1, 2, none⟩ = some (.int .i64 n2) := u2.cell 2; clear u1 u2; go_simp; with_reducible rfl); simp only [Act.put, List.setIfInBounds_toArray, List.set_cons_zero, List.set_cons_succ])
  (refine SeqW.take (v := ?_) rfl (by rfl) (fun W hW => ?_) ?_; rotate_left; (go_simp; with_reducible rfl); simp only [Act.put, List.setIfInBounds_toArray, List.set_cons_zero, List.set_cons_succ])
  (refine SeqW.take (v := ?_) rfl (by rfl) (fun W hW => ?_) ?_; rotate_left; (obtain ⟨_, u1, u2, _⟩ := HX.out W (HQ.out W hW); have s0 : W.cell? ⟨w.heap.size + 1, 0, none⟩ = some (.slice (some ⟨b, off, none⟩) n c) := u1.cell 0; have t0 : W.cell? ⟨w.heap.size + 1 + 1, 0, none⟩ = some (.int .i64 n0) := u2.cell 0; have t1 : W.cell? ⟨w.heap.size + 1 + 1, 1, none⟩ = some (.int .i64 n1) := u2.cell 1; have t2 : W.cell? ⟨w.heap.size + 1 + 1, 2, none⟩ = some (.int .i64 n2) := u2.cell 2; clear u1 u2; go_simp; with_reducible rfl); simp only [Act.put, List.setIfInBounds_toArray, List.set_cons_zero, List.set_cons_succ])
  (refine SeqW.take (v := ?_) rfl (by rfl) (fun W hW => ?_) ?_; rotate_left; (go_simp; with_reducible rfl); simp only [Act.put, List.setIfInBounds_toArray, List.set_cons_zero, List.set_cons_succ])
  (refine SeqW.take (v := ?_) rfl (by rfl) (fun W hW => ?_) ?_; rotate_left; (go_simp; with_reducible rfl); simp only [Act.put, List.setIfInBounds_toArray, List.set_cons_zero, List.set_cons_succ])
  (refine SeqW.take (v := ?_) rfl (by rfl) (fun W hW => ?_) ?_; rotate_left; (obtain ⟨_, u1, u2, _⟩ := HX.out W (HQ.out W hW); have s0 : W.cell? ⟨w.heap.size + 1, 0, none⟩ = some (.slice (some ⟨b, off, none⟩) n c) := u1.cell 0; have t0 : W.cell? ⟨w.heap.size + 1 + 1, 0, none⟩ = some (.int .i64 n0) := u2.cell 0; have t1 : W.cell? ⟨w.heap.size + 1 + 1, 1, none⟩ = some (.int .i64 n1) := u2.cell 1; have t2 : W.cell? ⟨w.heap.size + 1 + 1, 2, none⟩ = some (.int .i64 n2) := u2.cell 2; clear u1 u2; go_simp; with_reducible rfl); simp only [Act.put, List.setIfInBounds_toArray, List.set_cons_zero, List.set_cons_succ])
  (refine SeqW.take (v := ?_) rfl (by rfl) (fun W hW => ?_) ?_; rotate_left; (go_simp; with_reducible rfl); simp only [Act.put, List.setIfInBounds_toArray, List.set_cons_zero, List.set_cons_succ])
  (refine SeqW.take (v := ?_) rfl (by rfl) (fun W hW => ?_) ?_; rotate_left; (obtain ⟨_, u1, u2, _⟩ := HX.out W (HQ.out W hW); have s0 : W.cell? ⟨w.heap.size + 1, 0, none⟩ = some (.slice (some ⟨b, off, none⟩) n c) := u1.cell 0; have t0 : W.cell? ⟨w.heap.size + 1 + 1, 0, none⟩ = some (.int .i64 n0) := u2.cell 0; have t1 : W.cell? ⟨w.heap.size + 1 + 1, 1, none⟩ = some (.int .i64 n1) := u2.cell 1; have t2 : W.cell? ⟨w.heap.size + 1 + 1, 2, none⟩ = some (.int .i64 n2) := u2.cell 2; clear u1 u2; go_simp; with_reducible rfl); simp only [Act.put, List.setIfInBounds_toArray, List.set_cons_zero, List.set_cons_succ])
  (refine SeqW.call rfl (by rfl) (fun K hK => ?_); go_simp)
  refine (refMod_any _ _ _ hN0 hnmax).mono ?_
  rw [HKN.out]
  rintro e w' ⟨rfl, rfl⟩
  go_simp
  refine hK.out _ _ hS ?_
  clear hK K
  (refine SeqW.call rfl (by rfl) (fun K hK => ?_); go_simp)
  refine (refMod_any _ _ _ hN1 (by omega)).mono ?_
  rw [HYS.out]
  rintro e w' ⟨rfl, rfl⟩
  go_simp
  refine hK.out _ _ hS ?_
  clear hK K
  (refine SeqW.call rfl (by rfl) (fun K hK => ?_); go_simp)
  refine (refMod_any _ _ _ hN2 (by omega)).mono ?_
  rw [HM.out]
  rintro e w' ⟨rfl, rfl⟩
  go_simp
  refine hK.out _ _ hS ?_
  clear hK K
  (refine SeqW.take (v := ?_) rfl (by rfl) (fun W hW => ?_) ?_; rotate_left; (go_simp; with_reducible rfl); simp only [Act.put, List.setIfInBounds_toArray, List.set_cons_zero, List.set_cons_succ])
  (refine SeqW.take (v := ?_) rfl (by rfl) (fun W hW => ?_) ?_; rotate_left; (go_simp; with_reducible rfl); simp only [Act.put, List.setIfInBounds_toArray, List.set_cons_zero, List.set_cons_succ])
  (refine SeqW.take (v := ?_) rfl (by rfl) (fun W hW => ?_) ?_; rotate_left; (go_simp; with_reducible rfl); simp only [Act.put, List.setIfInBounds_toArray, List.set_cons_zero, List.set_cons_succ])
  (refine SeqW.take (v := ?_) rfl (by rfl) (fun W hW => ?_) ?_; rotate_left; (go_simp; with_reducible rfl); simp only [Act.put, List.setIfInBounds_toArray, List.set_cons_zero, List.set_cons_succ])
  refine SeqW.done ?_
  obtain ⟨wd, hwd⟩ : ∃ wd, w2.drew = wd := ⟨_, rfl⟩
  have HWD := Lib.hid hwd
  rw [hwd] at hS ⊢
  clear hwd
  obtain ⟨d1, d2, d3, d4, d5, d6, d7⟩ := HX.out _ (HQ.out _ hS)
  have e0 : wd.cell? ⟨w.heap.size + 1, 0, none⟩ = some (.slice (some ⟨b, off, none⟩) n c) := d2.cell 0
  have e1 : wd.cell? ⟨w.heap.size + 1, 1, none⟩ = some (.int .i64 lo) := d2.cell 1
  have e2 : wd.cell? ⟨w.heap.size + 1, 2, none⟩ = some (.int .i64 hi) := d2.cell 2
  have e3 : wd.cell? ⟨w.heap.size + 1, 3, none⟩ = some (.int .i64 pr) := d2.cell 3
  have e4 : wd.cell? ⟨w.heap.size + 1, 4, none⟩ = some (.int .i64 ne) := d2.cell 4
  clear d1 d2 d3 d5 d6
  go_wp2_with (first
    | (go_at_call 29; refine (ready_any ra rb rc rr (some ⟨b, off, none⟩) n c ts lo hi pr ne _ _ _ x4).mono ?_; rw [HR1.out, HR2.out, HRDE.out]; rintro e w4 ⟨rfl, hb4⟩; have hS4 := hS3.trans (hb4.mono hS3.size); clear e0 e1 e2 e3 e4 g0 g1 g2 g3; obtain ⟨y1, y2, y3, y4, y5, y6, y7⟩ := HX.out _ (HQ.out _ hS4); have e0 : (w4.alloc (.cells #[.int .i64 r1, .int .i64 r2] 27)).cell? ⟨w.heap.size + 1, 0, none⟩ = some (.slice (some ⟨b, off, none⟩) n c) := (y2.alloc _).cell 0; have e1 : (w4.alloc (.cells #[.int .i64 r1, .int .i64 r2] 27)).cell? ⟨w.heap.size + 1, 1, none⟩ = some (.int .i64 lo) := (y2.alloc _).cell 1; have e2 : (w4.alloc (.cells #[.int .i64 r1, .int .i64 r2] 27)).cell? ⟨w.heap.size + 1, 2, none⟩ = some (.int .i64 hi) := (y2.alloc _).cell 2; have e3 : (w4.alloc (.cells #[.int .i64 r1, .int .i64 r2] 27)).cell? ⟨w.heap.size + 1, 3, none⟩ = some (.int .i64 pr) := (y2.alloc _).cell 3; have e4 : (w4.alloc (.cells #[.int .i64 r1, .int .i64 r2] 27)).cell? ⟨w.heap.size + 1, 4, none⟩ = some (.int .i64 ne) := (y2.alloc _).cell 4; obtain ⟨bb, boff, hbe, hbl, hTA⟩ := y4.at_.resolve_left (fun h => by have := HT.out; simp [h] at this); obtain ⟨rfl, rfl⟩ : b = bb ∧ off = boff := (by simpa using hbe); obtain ⟨c0, c1', c2, c3, c4, c5⟩ := (hTA.below ((Below.refl _ _).alloc (Nat.le_refl _) (.cells #[.int .i64 r1, .int .i64 r2] 27)) hbl) kn ⟨tag, tx, ty, gl, gh, cr⟩ HT.out; dsimp only at c0 c1' c2 c3 c4 c5; clear y1 y2 y3 y4 y5 y6 hTA hbe)
    | (go_at_call 15; go_loud (refine (callsIn_wide.1 (near_in 6 (by omega) (some ⟨b, off, none⟩) n c ts lo hi pr ne (kn : Int) wd d4)).mono ?_; rw [HNE.out]; rintro e w3 ⟨v1, rfl, hv1, hb3⟩; obtain ⟨a1, c1, rfl⟩ := row_form hv1.1; rw [HL.out]; have hS3 := hS.trans (hb3.mono hS.size); clear e0 e1 e2 e3 e4; obtain ⟨x1, x2, x3, x4, x5, x6, x7⟩ := HX.out _ (HQ.out _ hS3); have g0 : w3.cell? ⟨w.heap.size, 0, none⟩ = some (.int .i64 ra) := x1.cell 0; have g1 : w3.cell? ⟨w.heap.size, 1, none⟩ = some (.int .i64 rb) := x1.cell 1; have g2 : w3.cell? ⟨w.heap.size, 2, none⟩ = some (.int .i64 rc) := x1.cell 2; have g3 : w3.cell? ⟨w.heap.size, 3, none⟩ = some (.int .i64 rr) := x1.cell 3; have e0 : w3.cell? ⟨w.heap.size + 1, 0, none⟩ = some (.slice (some ⟨b, off, none⟩) n c) := x2.cell 0; have e1 : w3.cell? ⟨w.heap.size + 1, 1, none⟩ = some (.int .i64 lo) := x2.cell 1; have e2 : w3.cell? ⟨w.heap.size + 1, 2, none⟩ = some (.int .i64 hi) := x2.cell 2; have e3 : w3.cell? ⟨w.heap.size + 1, 3, none⟩ = some (.int .i64 pr) := x2.cell 3; have e4 : w3.cell? ⟨w.heap.size + 1, 4, none⟩ = some (.int .i64 ne) := x2.cell 4; clear x1 x2 x3 x5 x6)))
  rw [HRL.out, HRH.out]
  have HZ : Hid (∀ W, Below (w4.heap.size + 1 + 1) ((w4.alloc (.cells #[.int .i64 r1, .int .i64 r2] 27)).alloc (.cells #[.string tag, .int .i64 tx, .int .i64 ty, .int .i64 gl, .int .i64 gh, .int .i64 cr] 62)) W → Box W w.heap.size #[.int .i64 ra, .int .i64 rb, .int .i64 rc, .int .i64 rr] 24 ∧ Box W (w.heap.size + 1) #[.slice (some ⟨b, off, none⟩) n c, .int .i64 lo, .int .i64 hi, .int .i64 pr, .int .i64 ne] 29 ∧ Trees W (some ⟨b, off, none⟩) n c ts ∧ IntsAt W ba bn bl ∧ Box W w4.heap.size #[.int .i64 r1, .int .i64 r2] 27 ∧ Box W (w4.heap.size + 1) #[.string tag, .int .i64 tx, .int .i64 ty, .int .i64 gl, .int .i64 gh, .int .i64 cr] 62 ∧ Below w.heap.size w W) := Lib.hid fun W h => by
    obtain ⟨x1, x2, _, x4, x5, x6, _⟩ := HX.out W (HQ.out W (((hS4.alloc hS4.size _).alloc (by have := hS4.size; simp; omega) _).trans (h.mono (by have := hS4.size; omega))))
    have b1 := Box.new (w4.alloc (.cells #[.int .i64 r1, .int .i64 r2] 27)) #[.string tag, .int .i64 tx, .int .i64 ty, .int .i64 gl, .int .i64 gh, .int .i64 cr] 62
    simp only [World.size_alloc] at b1
    exact ⟨x1, x2, x4, x5, ((Box.new w4 _ _).alloc _).below h (by omega), b1.below h (by omega), x6⟩
  have hy7 : w.heap.size + 1 + 1 < w4.heap.size := y7
  have hRb : 0 ≤ rl ∧ rl ≤ rh ∧ rh ≤ 100 := ⟨hrb.1, hrl, hrb.2.2.2⟩
  have hgb := HGB.out
  have hsp := HSP.out
  try dsimp only at hsp
  obtain ⟨d0, hd0⟩ : ∃ d, modN (getN bl 0) (gh - gl + 1) = d := ⟨_, rfl⟩
  have hdr := modN_range (n := getN bl 0) (c := gh - gl + 1) (by omega)
  rw [hd0] at hdr
  have HD0 := Lib.hid hd0
  have hw1 : IntKind.i64.wrap (gh - gl) = gh - gl := by rw [IntKind.wrap_i64]; omega
  have hw2 : IntKind.i64.wrap (gh - gl + 1) = gh - gl + 1 := by rw [IntKind.wrap_i64]; omega
  have hw3 : IntKind.i64.wrap (gl + d0) = gl + d0 := by rw [IntKind.wrap_i64]; omega
  have hS : Below (w4.heap.size + 1 + 1) ((w4.alloc (.cells #[.int .i64 r1, .int .i64 r2] 27)).alloc (.cells #[.string tag, .int .i64 tx, .int .i64 ty, .int .i64 gl, .int .i64 gh, .int .i64 cr] 62)) (((w4.alloc (.cells #[.int .i64 r1, .int .i64 r2] 27)).alloc (.cells #[.string tag, .int .i64 tx, .int .i64 ty, .int .i64 gl, .int .i64 gh, .int .i64 cr] 62))).drew := (Below.refl _ _).drew
  clear hd0 hrb hrl hb3 hS3 hv1 hb4 hS4 e0 e1 e2 e3 e4 c0 c1' c2 c3 c4 c5 x4 y7 d4 d7 x7 hprL HX HQ
  refine region_seq (fun W => Below (w4.heap.size + 1 + 1) ((w4.alloc (.cells #[.int .i64 r1, .int .i64 r2] 27)).alloc (.cells #[.string tag, .int .i64 tx, .int .i64 ty, .int .i64 gl, .int .i64 gh, .int .i64 cr] 62)) W) [(0, true), (1, true), (2, true), (3, true), (5, true), (6, true), (7, true), (8, true), (9, true), (10, true), (11, true), (12, true), (4, false), (13, false), (14, true), (15, true)]
    (by kernel_rfl) (by kernel_rfl) (by kernel_rfl) (by simp) (fun _ _ _ _ h => h) hS ?_
  (refine SeqW.take (v := ?_) rfl (by rfl) (fun W hW => ?_) ?_; rotate_left; (go_simp; with_reducible rfl); simp only [Act.put, List.setIfInBounds_toArray, List.set_cons_zero, List.set_cons_succ])
  (refine SeqW.take (v := ?_) rfl (by rfl) (fun W hW => ?_) ?_; rotate_left; (go_simp; with_reducible rfl); simp only [Act.put, List.setIfInBounds_toArray, List.set_cons_zero, List.set_cons_succ])
  (refine SeqW.take (v := ?_) rfl (by rfl) (fun W hW => ?_) ?_; rotate_left; (obtain ⟨_, _, _, _, _, u6, _⟩ := HZ.out W hW; have s3 : W.cell? ⟨w4.heap.size + 1, 3, none⟩ = some (.int .i64 gl) := u6.cell 3; have s4 : W.cell? ⟨w4.heap.size + 1, 4, none⟩ = some (.int .i64 gh) := u6.cell 4; clear u6; go_simp; with_reducible rfl); simp only [Act.put, List.setIfInBounds_toArray, List.set_cons_zero, List.set_cons_succ])
  (refine SeqW.take (v := ?_) rfl (by rfl) (fun W hW => ?_) ?_; rotate_left; (go_simp; with_reducible rfl); simp only [Act.put, List.setIfInBounds_toArray, List.set_cons_zero, List.set_cons_succ])
  (refine SeqW.take (v := ?_) rfl (by rfl) (fun W hW => ?_) ?_; rotate_left; (go_simp; with_reducible rfl); simp only [Act.put, List.setIfInBounds_toArray, List.set_cons_zero, List.set_cons_succ])
  (refine SeqW.take (v := ?_) rfl (by rfl) (fun W hW => ?_) ?_; rotate_left; (go_simp; with_reducible rfl); simp only [Act.put, List.setIfInBounds_toArray, List.set_cons_zero, List.set_cons_succ])
  (refine SeqW.take (v := ?_) rfl (by rfl) (fun W hW => ?_) ?_; rotate_left; (obtain ⟨_, _, _, _, _, u6, _⟩ := HZ.out W hW; have s3 : W.cell? ⟨w4.heap.size + 1, 3, none⟩ = some (.int .i64 gl) := u6.cell 3; have s4 : W.cell? ⟨w4.heap.size + 1, 4, none⟩ = some (.int .i64 gh) := u6.cell 4; clear u6; go_simp; with_reducible rfl); simp only [Act.put, List.setIfInBounds_toArray, List.set_cons_zero, List.set_cons_succ])
  (refine SeqW.take (v := ?_) rfl (by rfl) (fun W hW => ?_) ?_; rotate_left; (go_simp; with_reducible rfl); simp only [Act.put, List.setIfInBounds_toArray, List.set_cons_zero, List.set_cons_succ])
  (refine SeqW.take (v := ?_) rfl (by rfl) (fun W hW => ?_) ?_; rotate_left; (go_simp; with_reducible rfl); simp only [Act.put, List.setIfInBounds_toArray, List.set_cons_zero, List.set_cons_succ])
  (refine SeqW.take (v := ?_) rfl (by rfl) (fun W hW => ?_) ?_; rotate_left; (obtain ⟨_, _, _, _, _, u6, _⟩ := HZ.out W hW; have s3 : W.cell? ⟨w4.heap.size + 1, 3, none⟩ = some (.int .i64 gl) := u6.cell 3; have s4 : W.cell? ⟨w4.heap.size + 1, 4, none⟩ = some (.int .i64 gh) := u6.cell 4; clear u6; go_simp; with_reducible rfl); simp only [Act.put, List.setIfInBounds_toArray, List.set_cons_zero, List.set_cons_succ])
  (refine SeqW.take (v := ?_) rfl (by rfl) (fun W hW => ?_) ?_; rotate_left; (go_simp; with_reducible rfl); simp only [Act.put, List.setIfInBounds_toArray, List.set_cons_zero, List.set_cons_succ])
  (refine SeqW.take (v := ?_) rfl (by rfl) (fun W hW => ?_) ?_; rotate_left; (go_simp; with_reducible rfl); simp only [Act.put, List.setIfInBounds_toArray, List.set_cons_zero, List.set_cons_succ])
  (refine SeqW.call rfl (by rfl) (fun K hK => ?_); go_simp)
  refine (refGet_any ba bn bc bl 0 _ (by omega) (HZ.out _ hS).2.2.2.1 HBN.out).mono ?_
  rintro e w5 ⟨rfl, hb5⟩
  have hS := hS.trans (hb5.mono (by simp))
  go_simp
  refine hK.out _ _ hS ?_
  clear hK K
  (refine SeqW.call rfl (by rfl) (fun K hK => ?_); go_simp)
  refine (refMod_any _ _ _ (getN_fits HBF.out 0) (by omega)).mono ?_
  rw [HD0.out]
  rintro e w' ⟨rfl, rfl⟩
  go_simp
  refine hK.out _ _ hS ?_
  clear hK K
  (refine SeqW.take (v := ?_) rfl (by rfl) (fun W hW => ?_) ?_; rotate_left; (go_simp; with_reducible rfl); simp only [Act.put, List.setIfInBounds_toArray, List.set_cons_zero, List.set_cons_succ])
  (refine SeqW.take (v := ?_) rfl (by rfl) (fun W hW => ?_) ?_; rotate_left; (go_simp; with_reducible rfl); simp only [Act.put, List.setIfInBounds_toArray, List.set_cons_zero, List.set_cons_succ])
  refine SeqW.done ?_
  have HS5 := Lib.hid hS
  clear hS hb5 hw1 hw2 hw3
  go_wp2_with fail
  go_loopw [19, 20, 21] (fun gv fv yv wr => ∃ (y : Nat) (g f : Int), y ≤ ys + 1 ∧ yv = .int .i64 y ∧ gv = .int .i64 g ∧ fv = .int .i64 f ∧ Hid (TInv ⟨tag, tx, ty, gl, gh, cr⟩ rl rh r1 r2 y g f) ∧ 0 ≤ g ∧ g ≤ 4000 + 100 * (y : Int) ∧ 0 ≤ f ∧ f ≤ 201 ∧ Hid (Below (w4.heap.size + 1 + 1) ((w4.alloc (.cells #[.int .i64 r1, .int .i64 r2] 27)).alloc (.cells #[.string tag, .int .i64 tx, .int .i64 ty, .int .i64 gl, .int .i64 gh, .int .i64 cr] 62)) wr)) (fun _ _ yv _ => ys + 1 - (intOf yv).toNat)
  case atStart =>
    exact ⟨0, gl + d0, 201, by omega, rfl, rfl, rfl, Lib.hid (TInv.first HU.out HV.out ⟨show gl ≤ gl + d0 by omega, show gl + d0 ≤ gh by omega⟩), by omega, by omega, by omega, by omega, HS5⟩
  case round =>
    obtain ⟨y, g, f, hy, rfl, rfl, rfl, HI, hg0, hg1, hf0, hf1, HB⟩ := hrel
    obtain ⟨z1, z2', z3, z4, z5, z6, z7⟩ := HZ.out _ HB.out
    by_cases hlt : y ≤ ys
    case neg =>
      obtain rfl : y = ys + 1 := by omega
      obtain ⟨hd1, hd2, hd3⟩ := HI.out.done
      have p0 : wr.cell? ⟨w4.heap.size, 0, none⟩ = some (.int .i64 r1) := z5.cell 0
      have p1 : wr.cell? ⟨w4.heap.size, 1, none⟩ = some (.int .i64 r2) := z5.cell 1
      have hyx : ¬ ((ys : Int) + 1 ≤ ys) := by omega
      by_cases hq1 : f ≤ r2
      · by_cases hq2 : (ys : Int) < r2
        · clear hd2 hd3 HI z1 z2' z3 z4 z5 z6
          go_wp2_with (go_at_call 24; refine (HWk.out _ z7).mono ?_; rintro e w7 ⟨rfl, hb7⟩)
          go_ret
          exact ⟨rfl, z7.trans (hb7.mono z7.size)⟩
        · have hq4 : f ≤ (ys : Int) := by omega
          clear hd2 hd3 HI z1 z2' z3 z4 z5 z6
          go_wp2_with (go_at_call 24; refine (HWk.out _ z7).mono ?_; rintro e w7 ⟨rfl, hb7⟩)
          go_ret
          exact ⟨rfl, z7.trans (hb7.mono z7.size)⟩
      · have hq3 : (ys : Int) < f := by omega
        have hq2 : (ys : Int) < r2 := by omega
        clear hd2 hd3 HI z1 z2' z3 z4 z5 z6
        go_wp2_with (go_at_call 24; refine (HWk.out _ z7).mono ?_; rintro e w7 ⟨rfl, hb7⟩)
        go_ret
        exact ⟨rfl, z7.trans (hb7.mono z7.size)⟩
    case pos =>
      have hyb : (0 : Int) ≤ (y : Int) ∧ (y : Int) ≤ 200 := ⟨by omega, by omega⟩
      have hge := HGE.out (y : Int) hyb
      have hfe := HFE.out (y : Int) hyb
      have ht' : (⟨ts, lo, hi, pr, ne⟩ : Stand).ts[((kn : Int)).toNat]? = some ⟨tag, tx, ty, gl, gh, cr⟩ := HT.out
      have hgr := girthR_eq hge ht'
      have hfr := facesR_eq hfe ht'
      rw [show ((kn : Int)).toNat = kn by omega, HRLV.out, HRHV.out] at hgr hfr
      dsimp only at hgr hfr
      have hlo := HI.out.lo
      have hhi := HI.out.hi
      have hnow := HI.out.now (r := ⟨ra, rb, rc, rr⟩)
      dsimp only at hlo hhi hnow
      obtain ⟨ga, hga⟩ : ∃ v, gl + (y : Int) * rl = v := ⟨_, rfl⟩
      obtain ⟨gb, hgb'⟩ : ∃ v, gh + (y : Int) * rh = v := ⟨_, rfl⟩
      obtain ⟨fa, hfa⟩ : ∃ v, manyN ⟨ra, rb, rc, rr⟩ cr (gl + (y : Int) * rl) = v := ⟨_, rfl⟩
      obtain ⟨fb, hfb⟩ : ∃ v, manyN ⟨ra, rb, rc, rr⟩ cr (gh + (y : Int) * rh) = v := ⟨_, rfl⟩
      obtain ⟨own, hown⟩ : ∃ v, manyN ⟨ra, rb, rc, rr⟩ cr g = v := ⟨_, rfl⟩
      rw [hfa, hfb] at hfr
      rw [hga, hgb'] at hgr
      rw [hga] at hlo
      rw [hgb'] at hhi
      rw [hfa, hfb, hown] at hnow
      have HGA : Hid ((girthR ⟨ts, lo, hi, pr, ne⟩ (kn : Int) (y : Int)).1 = ga) := Lib.hid (by rw [hgr])
      have HGB2 : Hid ((girthR ⟨ts, lo, hi, pr, ne⟩ (kn : Int) (y : Int)).2 = gb) := Lib.hid (by rw [hgr])
      have HFA : Hid ((facesR ⟨ra, rb, rc, rr⟩ ⟨ts, lo, hi, pr, ne⟩ (kn : Int) (y : Int)).1 = fa) := Lib.hid (by rw [hfr])
      have HFB : Hid ((facesR ⟨ra, rb, rc, rr⟩ ⟨ts, lo, hi, pr, ne⟩ (kn : Int) (y : Int)).2 = fb) := Lib.hid (by rw [hfr])
      have HGEY := Lib.hid hge
      have HFEY := Lib.hid hfe
      have HIN1 : Hid (frB g ga gb = true) := Lib.hid (frB_iff.2 ⟨hlo, hhi⟩)
      have HIN2 : Hid (frB own fa fb = true) := Lib.hid (frB_iff.2 hnow)
      have HOWN : Hid (ownI ⟨ra, rb, rc, rr⟩ cr g 3 = own) := Lib.hid (by rw [ownI_three]; exact hown)
      have hwr : w4.heap.size + 1 + 1 ≤ wr.heap.size := by have := HB.out.size; simpa using this
      obtain ⟨d, hd⟩ : ∃ d, modN (getN bl ((y : Int) + 1)) (rh - rl + 1) = d := ⟨_, rfl⟩
      have hdb := modN_range (n := getN bl ((y : Int) + 1)) (c := rh - rl + 1) (by omega)
      rw [hd] at hdb
      have HD := Lib.hid hd
      have HNX : Hid (∀ f' : Int, f' = (if 1 + m ≤ own then min f (y : Int) else f) → TInv ⟨tag, tx, ty, gl, gh, cr⟩ rl rh r1 r2 (y + 1) (g + (rl + d)) f') := Lib.hid fun f' hf' =>
        TInv.next (r := ⟨ra, rb, rc, rr⟩) (n := 1 + m) (t := ⟨tag, tx, ty, gl, gh, cr⟩) (u := r1) (v := r2) (rl := rl) (rh := rh) (g := g) (f := f) (y := y) (d := rl + d) HU.out HV.out HI.out (by omega) ⟨by omega, by omega⟩ (by dsimp only; rw [hown]; exact hf')
      have hB := HB.out
      clear hge hfe ht' hgr hfr hlo hhi hnow hga hgb' hfa hfb hown hd
      have e0 : wr.cell? ⟨w.heap.size + 1, 0, none⟩ = some (.slice (some ⟨b, off, none⟩) n c) := z2'.cell 0
      have e1 : wr.cell? ⟨w.heap.size + 1, 1, none⟩ = some (.int .i64 lo) := z2'.cell 1
      have e2 : wr.cell? ⟨w.heap.size + 1, 2, none⟩ = some (.int .i64 hi) := z2'.cell 2
      have e3 : wr.cell? ⟨w.heap.size + 1, 3, none⟩ = some (.int .i64 pr) := z2'.cell 3
      have e4 : wr.cell? ⟨w.heap.size + 1, 4, none⟩ = some (.int .i64 ne) := z2'.cell 4
      clear z1 z2' z4 z5 z6 z7 hS
      go_wp2_with (first
        | (go_at_call 27; refine (faces_any ra rb rc rr (some ⟨b, off, none⟩) n c ts lo hi pr ne _ _ _ x3).mono ?_; rw [HFA.out, HFB.out, HFEY.out]; rintro e w6 ⟨rfl, hb6⟩; have hz6 := hb6.size; simp only [World.size_alloc] at hz6; have hS6 := hS5a.trans (hb6.mono (by simp only [World.size_alloc]; omega)); clear e0 e1 e2 e3 e4 r0 r1' r2' r3 x3)
        | (go_at_call 25; refine (girth_any (some ⟨b, off, none⟩) n c ts lo hi pr ne _ _ _ z3).mono ?_; rw [HGA.out, HGB2.out, HGEY.out]; rintro e w5 ⟨rfl, hb5⟩; have hz5 := hb5.size; have hS5 := hB.trans (hb5.mono hwr); have hS5a := hS5.alloc (by omega) (.cells #[.int .i64 ga, .int .i64 gb] 27); obtain ⟨x1, x2, x3, _, _, _, _⟩ := HZ.out _ hS5a; clear e0 e1 e2 e3 e4 z3; have e0 : (w5.alloc (.cells #[.int .i64 ga, .int .i64 gb] 27)).cell? ⟨w.heap.size + 1, 0, none⟩ = some (.slice (some ⟨b, off, none⟩) n c) := x2.cell 0; have e1 : (w5.alloc (.cells #[.int .i64 ga, .int .i64 gb] 27)).cell? ⟨w.heap.size + 1, 1, none⟩ = some (.int .i64 lo) := x2.cell 1; have e2 : (w5.alloc (.cells #[.int .i64 ga, .int .i64 gb] 27)).cell? ⟨w.heap.size + 1, 2, none⟩ = some (.int .i64 hi) := x2.cell 2; have e3 : (w5.alloc (.cells #[.int .i64 ga, .int .i64 gb] 27)).cell? ⟨w.heap.size + 1, 3, none⟩ = some (.int .i64 pr) := x2.cell 3; have e4 : (w5.alloc (.cells #[.int .i64 ga, .int .i64 gb] 27)).cell? ⟨w.heap.size + 1, 4, none⟩ = some (.int .i64 ne) := x2.cell 4; have r0 : (w5.alloc (.cells #[.int .i64 ga, .int .i64 gb] 27)).cell? ⟨w.heap.size, 0, none⟩ = some (.int .i64 ra) := x1.cell 0; have r1' : (w5.alloc (.cells #[.int .i64 ga, .int .i64 gb] 27)).cell? ⟨w.heap.size, 1, none⟩ = some (.int .i64 rb) := x1.cell 1; have r2' : (w5.alloc (.cells #[.int .i64 ga, .int .i64 gb] 27)).cell? ⟨w.heap.size, 2, none⟩ = some (.int .i64 rc) := x1.cell 2; have r3 : (w5.alloc (.cells #[.int .i64 ga, .int .i64 gb] 27)).cell? ⟨w.heap.size, 3, none⟩ = some (.int .i64 rr) := x1.cell 3; clear x1 x2))
      have hS6a := hS6.alloc (by omega) (.cells #[.int .i64 fa, .int .i64 fb] 27)
      have bG : Box (w6.alloc (.cells #[.int .i64 fa, .int .i64 fb] 27)) w5.heap.size #[.int .i64 ga, .int .i64 gb] 27 := ((Box.new w5 _ _).below hb6 (by simp only [World.size_alloc]; omega)).alloc _
      have bF : Box (w6.alloc (.cells #[.int .i64 fa, .int .i64 fb] 27)) w6.heap.size #[.int .i64 fa, .int .i64 fb] 27 := Box.new w6 _ _
      obtain ⟨wq, hwq⟩ : ∃ wq, (w6.alloc (.cells #[.int .i64 fa, .int .i64 fb] 27)) = wq := ⟨_, rfl⟩
      rw [hwq] at hS6a bG bF ⊢
      obtain ⟨y1, _, _, y4, _, y6, _⟩ := HZ.out _ hS6a
      have k0 : wq.cell? ⟨w.heap.size, 0, none⟩ = some (.int .i64 ra) := y1.cell 0
      have k1 : wq.cell? ⟨w.heap.size, 1, none⟩ = some (.int .i64 rb) := y1.cell 1
      have k2 : wq.cell? ⟨w.heap.size, 2, none⟩ = some (.int .i64 rc) := y1.cell 2
      have k3 : wq.cell? ⟨w.heap.size, 3, none⟩ = some (.int .i64 rr) := y1.cell 3
      have k5 : wq.cell? ⟨w4.heap.size + 1, 5, none⟩ = some (.int .i64 cr) := y6.cell 5
      have a0 : wq.cell? ⟨w5.heap.size, 0, none⟩ = some (.int .i64 ga) := bG.cell 0
      have a1' : wq.cell? ⟨w5.heap.size, 1, none⟩ = some (.int .i64 gb) := bG.cell 1
      have b0 : wq.cell? ⟨w6.heap.size, 0, none⟩ = some (.int .i64 fa) := bF.cell 0
      have b1 : wq.cell? ⟨w6.heap.size, 1, none⟩ = some (.int .i64 fb) := bF.cell 1
      have HSQ := Lib.hid hS6a
      have hzq : w4.heap.size + 1 + 1 ≤ wq.heap.size := by have := hS6a.size; simpa using this
      clear hwq hS6a hS6 hS5 hS5a hb5 hb6 bG bF y1 y6 hB HB hz5 hz6 hwr
      go_loop [26, 27] (fun ov iv => ∃ (k o : Int), iv = .int .i64 k ∧ (k = 0 ∨ k = 1 ∨ k = 2 ∨ k = 3) ∧ ov = .int .i64 o ∧ 0 ≤ o ∧ o ≤ k ∧ Hid (ownI ⟨ra, rb, rc, rr⟩ cr g k = o)) (fun _ iv => 3 - (intOf iv).toNat)
      case atStart => exact ⟨0, 0, rfl, .inl rfl, rfl, by omega, by omega, Lib.hid (ownI_zero _ _ _)⟩
      case round =>
        obtain ⟨k, o, rfl, hk, rfl, ho0, ho1, HO⟩ := hrel
        rcases hk with rfl | rfl | rfl | rfl
        · by_cases hcr : rr ≤ cr
          · by_cases hrk : ra ≤ g
            · have HN : Hid (ownI ⟨ra, rb, rc, rr⟩ cr g 1 = o + 1) := Lib.hid (by rw [ownI_one (by dsimp only; omega), HO.out]; dsimp only; rw [if_pos hrk])
              go_wp2_with fail
              go_round
              case rel => exact ⟨1, o + 1, by go_num, by simp, by go_num, by omega, by omega, HN⟩
              case measure => simp [intOf]
            · have HN : Hid (ownI ⟨ra, rb, rc, rr⟩ cr g 1 = o) := Lib.hid (by rw [ownI_one (by dsimp only; omega), HO.out]; dsimp only; rw [if_neg hrk]; omega)
              go_wp2_with fail
              go_round
              case rel => exact ⟨1, o, by go_num, by simp, rfl, by omega, by omega, HN⟩
              case measure => simp [intOf]
          · have HN : Hid (ownI ⟨ra, rb, rc, rr⟩ cr g 1 = o) := Lib.hid (by rw [ownI_low (by dsimp only; omega)]; rw [ownI_low (by dsimp only; omega)] at HO; exact HO.out)
            go_wp2_with fail
            go_round
            case rel => exact ⟨1, o, by go_num, by simp, rfl, by omega, by omega, HN⟩
            case measure => simp [intOf]
        · by_cases hcr : rr ≤ cr
          · by_cases hrk : rb ≤ g
            · have HN : Hid (ownI ⟨ra, rb, rc, rr⟩ cr g 2 = o + 1) := Lib.hid (by rw [ownI_two (by dsimp only; omega), HO.out]; dsimp only; rw [if_pos hrk])
              go_wp2_with fail
              go_round
              case rel => exact ⟨2, o + 1, by go_num, by simp, by go_num, by omega, by omega, HN⟩
              case measure => simp [intOf]
            · have HN : Hid (ownI ⟨ra, rb, rc, rr⟩ cr g 2 = o) := Lib.hid (by rw [ownI_two (by dsimp only; omega), HO.out]; dsimp only; rw [if_neg hrk]; omega)
              go_wp2_with fail
              go_round
              case rel => exact ⟨2, o, by go_num, by simp, rfl, by omega, by omega, HN⟩
              case measure => simp [intOf]
          · have HN : Hid (ownI ⟨ra, rb, rc, rr⟩ cr g 2 = o) := Lib.hid (by rw [ownI_low (by dsimp only; omega)]; rw [ownI_low (by dsimp only; omega)] at HO; exact HO.out)
            go_wp2_with fail
            go_round
            case rel => exact ⟨2, o, by go_num, by simp, rfl, by omega, by omega, HN⟩
            case measure => simp [intOf]
        · by_cases hcr : rr ≤ cr
          · by_cases hrk : rc ≤ g
            · have HN : Hid (ownI ⟨ra, rb, rc, rr⟩ cr g 3 = o + 1) := Lib.hid (by rw [ownI_thr (by dsimp only; omega), HO.out]; dsimp only; rw [if_pos hrk])
              go_wp2_with fail
              go_round
              case rel => exact ⟨3, o + 1, by go_num, by simp, by go_num, by omega, by omega, HN⟩
              case measure => simp [intOf]
            · have HN : Hid (ownI ⟨ra, rb, rc, rr⟩ cr g 3 = o) := Lib.hid (by rw [ownI_thr (by dsimp only; omega), HO.out]; dsimp only; rw [if_neg hrk]; omega)
              go_wp2_with fail
              go_round
              case rel => exact ⟨3, o, by go_num, by simp, rfl, by omega, by omega, HN⟩
              case measure => simp [intOf]
          · have HN : Hid (ownI ⟨ra, rb, rc, rr⟩ cr g 3 = o) := Lib.hid (by rw [ownI_low (by dsimp only; omega)]; rw [ownI_low (by dsimp only; omega)] at HO; exact HO.out)
            go_wp2_with fail
            go_round
            case rel => exact ⟨3, o, by go_num, by simp, rfl, by omega, by omega, HN⟩
            case measure => simp [intOf]
        · obtain rfl : o = own := HO.out.symm.trans HOWN.out
          have hw1 : IntKind.i64.wrap (rh - rl) = rh - rl := by rw [IntKind.wrap_i64]; omega
          have hw2 : IntKind.i64.wrap (rh - rl + 1) = rh - rl + 1 := by rw [IntKind.wrap_i64]; omega
          have hw3 : IntKind.i64.wrap (rl + d) = rl + d := by rw [IntKind.wrap_i64]; omega
          have hw4 : IntKind.i64.wrap (g + (rl + d)) = g + (rl + d) := by rw [IntKind.wrap_i64]; omega
          by_cases hmn : 1 + m ≤ o
          · go_wp2_with (first
              | (go_at_call 43; refine (refMod_any _ _ _ (getN_fits HBF.out _) (by omega)).mono ?_; rw [HD.out]; rintro e w' ⟨rfl, rfl⟩)
              | (go_at_call 44; refine (refGet_any ba bn bc bl _ _ (by omega) y4 HBN.out).mono ?_; rintro e w8 ⟨rfl, hb8⟩; have hS8 := HSQ.out.trans (hb8.mono hzq))
              | (go_at_call 45; refine (refIn_any _ _ _ _).mono ?_; (first | rw [HIN1.out] | rw [HIN2.out]); rintro e w' ⟨rfl, rfl⟩))
            go_roundw
            case rel => exact ⟨y + 1, g + (rl + d), min f (y : Int), by omega, by go_num, rfl, rfl, Lib.hid (HNX.out _ (by rw [if_pos hmn])), by omega, by omega, by omega, by omega, Lib.hid hS8⟩
            case measure => simp [intOf]; omega
          · go_wp2_with (first
              | (go_at_call 43; refine (refMod_any _ _ _ (getN_fits HBF.out _) (by omega)).mono ?_; rw [HD.out]; rintro e w' ⟨rfl, rfl⟩)
              | (go_at_call 44; refine (refGet_any ba bn bc bl _ _ (by omega) y4 HBN.out).mono ?_; rintro e w8 ⟨rfl, hb8⟩; have hS8 := HSQ.out.trans (hb8.mono hzq))
              | (go_at_call 45; refine (refIn_any _ _ _ _).mono ?_; (first | rw [HIN1.out] | rw [HIN2.out]); rintro e w' ⟨rfl, rfl⟩))
            go_roundw
            case rel => exact ⟨y + 1, g + (rl + d), f, by omega, by go_num, rfl, rfl, Lib.hid (HNX.out _ (by rw [if_neg (by omega)])), by omega, by omega, by omega, by omega, Lib.hid hS8⟩
            case measure => simp [intOf]; omega
end Go.Proofs.YtcjmfacdjdegkaaDoor
