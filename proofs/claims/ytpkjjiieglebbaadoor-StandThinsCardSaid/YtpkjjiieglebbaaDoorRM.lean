/- Contract of the reference's Thin. Conditions: the trees lie in memory as the model says; tags fit into memory. -/
import Derived.Test.YtpkjjiieglebbaaDoorRH
import Derived.Test.YtpkjjiieglebbaaDoorPC
import Derived.Test.YtpkjjiieglebbaaDoorWK
namespace Go.Proofs.YtpkjjiieglebbaaDoor
open Go Go.RowKit
theorem ints_natsI {w : World} {base c : Nat} {a : Option Addr} {l : List Nat} (h : w.ownsRow base 3 1 (.slice a l.length c) l.length (l.map fun i : Nat => Value.int .i64 (i : Int))) : IntsAt w a l.length (natsI l) := by
  have e : (l.map fun i : Nat => Value.int .i64 (i : Int)) = (natsI l).map (Value.int .i64) := by simp [natsI]
  rw [e] at h
  exact ints_of_row (l := natsI l) (by rw [show (natsI l).length = l.length by simp [natsI]]; exact h) (by simp [natsI])
def ThinQ (s : Stand) (gap : Int) (w : World) (e : Ending) (w' : World) : Prop := ∃ a c, e = .returned (.tuple #[.slice a (thinR s gap).1.length c, .int .i64 (thinR s gap).2, .int .i64 (thinE s gap)]) ∧ w'.ownsRow w.heap.size 3 1 (.slice a (thinR s gap).1.length c) (thinR s gap).1.length ((thinR s gap).1.map fun i : Nat => Value.int .i64 (i : Int)) ∧ Below w.heap.size w w'
set_option maxRecDepth 100000 in
set_option maxHeartbeats 4000000 in
theorem refThin_any (a : Option Addr) (n c : Nat) (ts : List Tree) (lo hi pr ne gap : Int) (w : World) (hT : Trees w a n c ts) :
    Calls Tryd.prog 32 #[.agg #[.slice a n c, .int .i64 lo, .int .i64 hi, .int .i64 pr, .int .i64 ne], .int .i64 gap] w (ThinQ ⟨ts, lo, hi, pr, ne⟩ gap w) := by
  have hn := hT.len
  subst hn
  have HX : Hid (∀ W, Below (w.heap.size + 1) (w.alloc (.cells #[.slice a ts.length c, .int .i64 lo, .int .i64 hi, .int .i64 pr, .int .i64 ne] 29)) W → Box W w.heap.size #[.slice a ts.length c, .int .i64 lo, .int .i64 hi, .int .i64 pr, .int .i64 ne] 29 ∧ Trees W a ts.length c ts ∧ w.heap.size + 1 ≤ W.heap.size ∧ Below w.heap.size w W) := Lib.hid fun W h => by
    have hB : Below w.heap.size w W := ((Below.refl _ _).alloc (Nat.le_refl _) _).trans (h.mono (by omega))
    exact ⟨(Box.new w _ _).below h (by omega), hT.below hB, by have := h.size; simp at this; omega, hB⟩
  clear hT
  obtain ⟨x, hx⟩ : ∃ x, checkE ⟨ts, lo, hi, pr, ne⟩ = x := ⟨_, rfl⟩
  have HCE := Lib.hid hx
  by_cases h0 : x = 0
  case neg =>
    have HE : Hid (thinE ⟨ts, lo, hi, pr, ne⟩ gap = x) := Lib.hid (by unfold thinE; rw [orE_two, hx, if_neg h0])
    have HR : Hid (thinR ⟨ts, lo, hi, pr, ne⟩ gap = ([], 0)) := Lib.hid (by unfold thinR; rw [if_neg (by rw [HE.out]; exact h0)])
    have hb : (x != 0) = true := by simpa using h0
    clear hx h0
    go_enter Tryd.func32, Tryd.ntmps32
    go_wp2_with (go_at_call 21; refine (refCheck_any a ts.length c ts lo hi pr ne _ (HX.out _ (Below.refl _ _)).2.1).mono ?_; rintro e w1 ⟨rfl, hb1⟩; rw [HCE.out])
    refine bodyPost_ret (v := .tuple #[.slice none 0 0, .int .i64 0, .int .i64 x]) (by simp [results, Tryd.results32, go_sem]) rfl ⟨none, 0, by rw [HR.out, HE.out]; rfl, by rw [HR.out]; exact World.ownsRow_nil _ _ _ _, (HX.out _ (hb1.mono (by simp))).2.2.2⟩
  subst h0
  rcases hg : frB gap 0 100000 with _ | _
  · have HE : Hid (thinE ⟨ts, lo, hi, pr, ne⟩ gap = 7) := Lib.hid (by unfold thinE; rw [orE_two, hx, if_pos rfl]; unfold rangeE; rw [hg]; rfl)
    have HR : Hid (thinR ⟨ts, lo, hi, pr, ne⟩ gap = ([], 0)) := Lib.hid (by unfold thinR; rw [if_neg (by rw [HE.out]; decide)])
    have HG := Lib.hid hg
    clear hx hg
    go_enter Tryd.func32, Tryd.ntmps32
    go_wp2_with (first
      | (go_at_call 21; refine (refCheck_any a ts.length c ts lo hi pr ne _ (HX.out _ (Below.refl _ _)).2.1).mono ?_; rintro e w1 ⟨rfl, hb1⟩; rw [HCE.out])
      | (go_at_call 45; refine (refIn_any _ _ _ _).mono ?_; rw [HG.out]; rintro e w' ⟨rfl, rfl⟩))
    refine bodyPost_ret (v := .tuple #[.slice none 0 0, .int .i64 0, .int .i64 7]) (by simp [results, Tryd.results32, go_sem]) rfl ⟨none, 0, by rw [HR.out, HE.out]; rfl, by rw [HR.out]; exact World.ownsRow_nil _ _ _ _, (HX.out _ (hb1.mono (by simp))).2.2.2⟩
  have HE : Hid (thinE ⟨ts, lo, hi, pr, ne⟩ gap = 0) := Lib.hid (by unfold thinE; rw [orE_two, hx, if_pos rfl]; unfold rangeE; rw [hg]; rfl)
  have HG := Lib.hid hg
  obtain ⟨hv, h14, hok, _⟩ := valid_of hx
  dsimp only at h14 hok
  have hvt : treesB [] ts = true := by simp only [standB, Bool.and_eq_true] at hv; exact hv.2
  have hg1 : ∀ t ∈ ts, 1 ≤ t.gl ∧ t.gl ≤ 4000 := fun t ht => by
    have h := treesB_ok [] ts hvt t ht
    simp only [treeB, Bool.and_eq_true, spanB_iff] at h
    omega
  have HG1 := Lib.hid hg1
  have HOK := Lib.hid hok
  have HGR := Lib.hid (frB_iff.1 hg)
  have HR : Hid (thinR ⟨ts, lo, hi, pr, ne⟩ gap = bestOf ts gap) := Lib.hid (by unfold thinR; rw [if_pos HE.out])
  clear hx hg hv hok hvt hg1
  obtain ⟨N, hN⟩ : ∃ N : Nat, N = 2 ^ ts.length := ⟨_, rfl⟩
  have hN14 : N ≤ 16384 := by
    have : 2 ^ ts.length ≤ 2 ^ 14 := Nat.pow_le_pow_right (by omega) h14
    omega
  have hwp : IntKind.i64.wrap (2 ^ ts.length) = (N : Int) := by
    have e : ((2 : Int) ^ ts.length) = (N : Int) := by rw [hN]; simp
    rw [e, IntKind.wrap_i64]; omega
  have HN := Lib.hid hN
  clear hN
  go_enter Tryd.func32, Tryd.ntmps32
  go_wp2_with (first
    | (go_at_call 21; refine (refCheck_any a ts.length c ts lo hi pr ne _ (HX.out _ (Below.refl _ _)).2.1).mono ?_; rintro e w1 ⟨rfl, hb1⟩; rw [HCE.out])
    | (go_at_call 45; refine (refIn_any _ _ _ _).mono ?_; rw [HG.out]; rintro e w' ⟨rfl, rfl⟩))
  have hS1 : Below (w.heap.size + 1) (w.alloc (.cells #[.slice a ts.length c, .int .i64 lo, .int .i64 hi, .int .i64 pr, .int .i64 ne] 29)) w1 := hb1.mono (by simp)
  clear hb1
  go_loopw [8, 9, 10] (fun bv mv sv wr => ∃ (k : Nat) (bl : List Nat) (m : Int) (va : Option Addr) (vc : Nat), k ≤ N ∧ sv = .int .i64 k ∧ mv = .int .i64 m ∧ bv = .slice va bl.length vc ∧ Hid (BestTo ts gap k bl m) ∧ Hid (wr.ownsRow (w.heap.size + 1) 3 1 (.slice va bl.length vc) bl.length (bl.map fun i : Nat => Value.int .i64 (i : Int))) ∧ Hid (Below (w.heap.size + 1) (w.alloc (.cells #[.slice a ts.length c, .int .i64 lo, .int .i64 hi, .int .i64 pr, .int .i64 ne] 29)) wr)) (fun _ _ sv _ => N - (intOf sv).toNat)
  case atStart => exact ⟨0, [], 0, none, 0, Nat.zero_le _, rfl, rfl, rfl, Lib.hid (best_none _ _), Lib.hid (World.ownsRow_nil _ _ _ _), Lib.hid hS1⟩
  case round =>
    obtain ⟨k, bl, m, va, vc, hk, rfl, rfl, rfl, HB, HO, HW⟩ := hrel
    obtain ⟨y1, y2, y3, y4⟩ := HX.out _ HW.out
    have s0 : wr.cell? ⟨w.heap.size, 0, none⟩ = some (.slice a ts.length c) := y1.cell 0
    by_cases hlt : k < N
    case neg =>
      obtain rfl : k = N := by omega
      have HBE := Lib.hid (best_end h14 (by rw [← HN.out]; exact HB.out) HG1.out)
      clear y1 y2 hS1
      go_wp2_with fail
      refine bodyPost_ret (v := .tuple #[.slice va bl.length vc, .int .i64 m, .int .i64 0]) (by simp [results, Tryd.results32, go_sem]) rfl ?_
      unfold ThinQ
      rw [HR.out, HE.out, HBE.out]
      exact ⟨va, vc, rfl, ownsRow_base HO.out (by omega), y4⟩
    have hkN := Lib.hid (show k < 2 ^ ts.length by rw [← HN.out]; exact hlt)
    obtain ⟨K, hK⟩ : ∃ K, setTo k 14 = K := ⟨_, rfl⟩
    have HKK := Lib.hid hK
    have HKS : Hid (K.Pairwise (· < ·)) := Lib.hid (by rw [← hK]; exact setTo_sorted _ _)
    have HKL : Hid (∀ x ∈ K, x < ts.length) := Lib.hid (fun x hx => by rw [← hK] at hx; exact setTo_lt hkN.out hx)
    have hKl : K.length ≤ 14 := by rw [← hK]; exact setTo_le _ _
    have hbl : bl.length ≤ 14 := by
      have hs := HB.out.good.1.imp (fun {a b} q => q.1)
      have := sorted_len _ 0 ts.length hs (fun x hx => ⟨Nat.zero_le _, HB.out.good.2 x hx⟩)
      omega
    have HGL : Hid (∀ t ∈ ts, 0 ≤ t.gl ∧ t.gl ≤ 4000) := Lib.hid (fun t ht => by have := HG1.out t ht; omega)
    clear y1 y2 y3 y4 hS1 hK
    go_wp2_with fail
    refine (refList_any k _ (by omega)).mono ?_
    rw [HKK.out]
    rintro e w2 ⟨la, lc, rfl, hl2, hb2⟩
    have S2 := HW.out.trans (hb2.mono (HX.out _ HW.out).2.2.1)
    have O2 := ownsRow_below HO.out hb2 (Nat.le_refl _)
    have L2 := ownsRow_base hl2 (show w.heap.size + 1 ≤ wr.heap.size from (HX.out _ HW.out).2.2.1)
    obtain ⟨x2, T2, _, _⟩ := HX.out _ S2
    have x20 : w2.cell? ⟨w.heap.size, 0, none⟩ = some (.slice a ts.length c) := x2.cell 0
    have x21 : w2.cell? ⟨w.heap.size, 1, none⟩ = some (.int .i64 lo) := x2.cell 1
    have x22 : w2.cell? ⟨w.heap.size, 2, none⟩ = some (.int .i64 hi) := x2.cell 2
    have x23 : w2.cell? ⟨w.heap.size, 3, none⟩ = some (.int .i64 pr) := x2.cell 3
    have x24 : w2.cell? ⟨w.heap.size, 4, none⟩ = some (.int .i64 ne) := x2.cell 4
    have HS2 := Lib.hid S2
    have HO2 := Lib.hid O2
    have HL2 := Lib.hid L2
    have HT2 := Lib.hid T2
    clear s0 hl2 hb2 S2 O2 L2 T2 x2
    go_wp2_with fail
    refine (refWorth_any a la ts.length c K.length lc ts lo hi pr ne K _ HT2.out (ints_natsI HL2.out) HKL.out h14 HGL.out hKl).mono ?_
    obtain ⟨z, hz⟩ : ∃ z, worthL ts K = z := ⟨_, rfl⟩
    have HZ := Lib.hid hz
    rw [hz]
    clear hz
    rintro e w3 ⟨rfl, hb3⟩
    have HS3 := Lib.hid (HS2.out.trans (hb3.mono (HX.out _ HS2.out).2.2.1))
    have HO3 := Lib.hid (ownsRow_below HO2.out hb3 (Nat.le_refl _))
    have HL3 := Lib.hid (ownsRow_below HL2.out hb3 (Nat.le_refl _))
    have x3 := (HX.out _ HS3.out).1
    have x30 : w3.cell? ⟨w.heap.size, 0, none⟩ = some (.slice a ts.length c) := x3.cell 0
    have x31 : w3.cell? ⟨w.heap.size, 1, none⟩ = some (.int .i64 lo) := x3.cell 1
    have x32 : w3.cell? ⟨w.heap.size, 2, none⟩ = some (.int .i64 hi) := x3.cell 2
    have x33 : w3.cell? ⟨w.heap.size, 3, none⟩ = some (.int .i64 pr) := x3.cell 3
    have x34 : w3.cell? ⟨w.heap.size, 4, none⟩ = some (.int .i64 ne) := x3.cell 4
    clear x3 x20 x21 x22 x23 x24 hb3 HT2 HS2 HO2 HL2
    have hcmp : m < z ∨ z = m ∨ z < m := by omega
    rcases hcmp with hlt2 | heq | hgt
    · by_cases hG : goodL ts gap K
      · have HGD := Lib.hid hG
        have HN2 : Hid (BestTo ts gap (k + 1) K z) := Lib.hid (by have := best_take HB.out (by rw [HKK.out]; exact hG) (by rw [HKK.out, HZ.out]; exact .inl hlt2); rwa [HKK.out, HZ.out] at this)
        clear hG
        go_wp2_with (go_at_call 78; refine (refGap_any a ts.length c ts lo hi pr ne gap k _ (HX.out _ HS3.out).2.1 hkN.out h14 HOK.out HGR.out).mono ?_; rintro e w5 ⟨ok, rfl, hgood, hb5⟩; obtain rfl : ok = true := hgood.2 (by rw [HKK.out]; exact HGD.out); have HS5 := Lib.hid ((HX.out _ HS3.out).2.2.2.trans (hb5.mono (HX.out _ HS3.out).2.2.2.size)); have S5 := Lib.hid (HS3.out.trans (hb5.mono (HX.out _ HS3.out).2.2.1)); have O5 := Lib.hid (ownsRow_below HO3.out hb5 (Nat.le_refl _)); have L5 := Lib.hid (ownsRow_below HL3.out hb5 (Nat.le_refl _)); clear hgood hb5)
        go_roundw
        case rel => exact ⟨k + 1, K, z, la, lc, by omega, by go_num, rfl, rfl, HN2, L5, S5⟩
        case measure => simp [intOf]; omega
      · have HGD := Lib.hid hG
        have HN2 := Lib.hid (best_leave HB.out (fun h => by rw [HKK.out] at h; exact absurd h hG))
        clear hG
        go_wp2_with (go_at_call 78; refine (refGap_any a ts.length c ts lo hi pr ne gap k _ (HX.out _ HS3.out).2.1 hkN.out h14 HOK.out HGR.out).mono ?_; rintro e w5 ⟨ok, rfl, hgood, hb5⟩; obtain rfl : ok = false := Bool.eq_false_iff.2 (fun h => HGD.out (by rw [← HKK.out]; exact hgood.1 h)); have HS5 := Lib.hid ((HX.out _ HS3.out).2.2.2.trans (hb5.mono (HX.out _ HS3.out).2.2.2.size)); have S5 := Lib.hid (HS3.out.trans (hb5.mono (HX.out _ HS3.out).2.2.1)); have O5 := Lib.hid (ownsRow_below HO3.out hb5 (Nat.le_refl _)); have L5 := Lib.hid (ownsRow_below HL3.out hb5 (Nat.le_refl _)); clear hgood hb5)
        go_roundw
        case rel => exact ⟨k + 1, bl, m, va, vc, by omega, by go_num, rfl, rfl, HN2, O5, S5⟩
        case measure => simp [intOf]; omega
    · subst heq
      have HBF : Hid (∃ v, before K bl = v) := Lib.hid ⟨_, rfl⟩
      obtain ⟨bf, hbf⟩ := HBF.out
      have HBV := Lib.hid hbf
      clear hbf HBF
      rcases bf with _ | _
      · have HN2 := Lib.hid (best_leave HB.out (fun _ => ⟨by rw [HKK.out, HZ.out]; omega, fun h => by rw [HKK.out, HBV.out] at h; exact absurd h.2 (by decide)⟩))
        go_wp2_with (go_at_call 48; refine (refBefore_any la va K.length bl.length lc vc K bl _ (ints_natsI HL3.out) (ints_natsI HO3.out) (by omega) (by omega)).mono ?_; rw [HBV.out]; rintro e w4 ⟨rfl, hb4⟩; have HS4 := Lib.hid (HS3.out.trans (hb4.mono (HX.out _ HS3.out).2.2.1)); have HO4 := Lib.hid (ownsRow_below HO3.out hb4 (Nat.le_refl _)); clear hb4)
        go_roundw
        case rel => exact ⟨k + 1, bl, z, va, vc, by omega, by go_num, rfl, rfl, HN2, HO4, HS4⟩
        case measure => simp [intOf]; omega
      · by_cases hG : goodL ts gap K
        · have HGD := Lib.hid hG
          have HN2 : Hid (BestTo ts gap (k + 1) K z) := Lib.hid (by have := best_take HB.out (by rw [HKK.out]; exact hG) (by rw [HKK.out, HZ.out]; exact .inr ⟨rfl, HBV.out⟩); rwa [HKK.out, HZ.out] at this)
          clear hG
          go_wp2_with (first
              | (go_at_call 48; refine (refBefore_any la va K.length bl.length lc vc K bl _ (ints_natsI HL3.out) (ints_natsI HO3.out) (by omega) (by omega)).mono ?_; rw [HBV.out]; rintro e w4 ⟨rfl, hb4⟩; have HS4 := Lib.hid (HS3.out.trans (hb4.mono (HX.out _ HS3.out).2.2.1)); have HO4 := Lib.hid (ownsRow_below HO3.out hb4 (Nat.le_refl _)); have HL4 := Lib.hid (ownsRow_below HL3.out hb4 (Nat.le_refl _)); have x4 := (HX.out _ HS4.out).1; have x40 : w4.cell? ⟨w.heap.size, 0, none⟩ = some (.slice a ts.length c) := x4.cell 0; have x41 : w4.cell? ⟨w.heap.size, 1, none⟩ = some (.int .i64 lo) := x4.cell 1; have x42 : w4.cell? ⟨w.heap.size, 2, none⟩ = some (.int .i64 hi) := x4.cell 2; have x43 : w4.cell? ⟨w.heap.size, 3, none⟩ = some (.int .i64 pr) := x4.cell 3; have x44 : w4.cell? ⟨w.heap.size, 4, none⟩ = some (.int .i64 ne) := x4.cell 4; clear hb4 x4 x30 x31 x32 x33 x34)
              | (go_at_call 78; refine (refGap_any a ts.length c ts lo hi pr ne gap k _ (HX.out _ HS4.out).2.1 hkN.out h14 HOK.out HGR.out).mono ?_; rintro e w5 ⟨ok, rfl, hgood, hb5⟩; obtain rfl : ok = true := hgood.2 (by rw [HKK.out]; exact HGD.out); have HS5 := Lib.hid ((HX.out _ HS4.out).2.2.2.trans (hb5.mono (HX.out _ HS4.out).2.2.2.size)); have S5 := Lib.hid (HS4.out.trans (hb5.mono (HX.out _ HS4.out).2.2.1)); have O5 := Lib.hid (ownsRow_below HO4.out hb5 (Nat.le_refl _)); have L5 := Lib.hid (ownsRow_below HL4.out hb5 (Nat.le_refl _)); clear hgood hb5))
          go_roundw
          case rel => exact ⟨k + 1, K, z, la, lc, by omega, by go_num, rfl, rfl, HN2, L5, S5⟩
          case measure => simp [intOf]; omega
        · have HGD := Lib.hid hG
          have HN2 := Lib.hid (best_leave HB.out (fun h => by rw [HKK.out] at h; exact absurd h hG))
          clear hG
          go_wp2_with (first
              | (go_at_call 48; refine (refBefore_any la va K.length bl.length lc vc K bl _ (ints_natsI HL3.out) (ints_natsI HO3.out) (by omega) (by omega)).mono ?_; rw [HBV.out]; rintro e w4 ⟨rfl, hb4⟩; have HS4 := Lib.hid (HS3.out.trans (hb4.mono (HX.out _ HS3.out).2.2.1)); have HO4 := Lib.hid (ownsRow_below HO3.out hb4 (Nat.le_refl _)); have HL4 := Lib.hid (ownsRow_below HL3.out hb4 (Nat.le_refl _)); have x4 := (HX.out _ HS4.out).1; have x40 : w4.cell? ⟨w.heap.size, 0, none⟩ = some (.slice a ts.length c) := x4.cell 0; have x41 : w4.cell? ⟨w.heap.size, 1, none⟩ = some (.int .i64 lo) := x4.cell 1; have x42 : w4.cell? ⟨w.heap.size, 2, none⟩ = some (.int .i64 hi) := x4.cell 2; have x43 : w4.cell? ⟨w.heap.size, 3, none⟩ = some (.int .i64 pr) := x4.cell 3; have x44 : w4.cell? ⟨w.heap.size, 4, none⟩ = some (.int .i64 ne) := x4.cell 4; clear hb4 x4 x30 x31 x32 x33 x34)
              | (go_at_call 78; refine (refGap_any a ts.length c ts lo hi pr ne gap k _ (HX.out _ HS4.out).2.1 hkN.out h14 HOK.out HGR.out).mono ?_; rintro e w5 ⟨ok, rfl, hgood, hb5⟩; obtain rfl : ok = false := Bool.eq_false_iff.2 (fun h => HGD.out (by rw [← HKK.out]; exact hgood.1 h)); have HS5 := Lib.hid ((HX.out _ HS4.out).2.2.2.trans (hb5.mono (HX.out _ HS4.out).2.2.2.size)); have S5 := Lib.hid (HS4.out.trans (hb5.mono (HX.out _ HS4.out).2.2.1)); have O5 := Lib.hid (ownsRow_below HO4.out hb5 (Nat.le_refl _)); have L5 := Lib.hid (ownsRow_below HL4.out hb5 (Nat.le_refl _)); clear hgood hb5))
          go_roundw
          case rel => exact ⟨k + 1, bl, z, va, vc, by omega, by go_num, rfl, rfl, HN2, O5, S5⟩
          case measure => simp [intOf]; omega
    · have hq : (z == m) = false := by simp; omega
      have HN2 := Lib.hid (best_leave HB.out (fun _ => ⟨by rw [HKK.out, HZ.out]; omega, fun h => by rw [HKK.out, HZ.out] at h; omega⟩))
      go_wp2_with fail
      go_roundw
      case rel => exact ⟨k + 1, bl, m, va, vc, by omega, by go_num, rfl, rfl, HN2, HO3, HS3⟩
      case measure => simp [intOf]; omega
end Go.Proofs.YtpkjjiieglebbaaDoor
