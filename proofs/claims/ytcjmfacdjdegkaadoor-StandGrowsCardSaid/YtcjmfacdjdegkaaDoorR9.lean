/- Contracts of the reference: Ready. Conditions: the trees lie in memory as the model says; tags fit into memory. -/
import Derived.Test.YtcjmfacdjdegkaaDoorR8
import Derived.Test.YtcjmfacdjdegkaaDoorRD
namespace Go.Proofs.YtcjmfacdjdegkaaDoor
open Go Go.RowKit
theorem readyE_near (r : Rule) (s : Stand) (k y : Int) : readyE r s k y = if ruleE r = 0 then (if nearE s k = 0 then rangeE y 1 3 else nearE s k) else ruleE r := by
  unfold readyE nearE
  simp only [orE]
  by_cases h1 : checkE s = 0
  · by_cases h2 : treeE s.ts.length k = 0
    · by_cases h3 : rangeE y 1 3 = 0 <;> simp [h1, h2, h3]
    · simp [h1, h2]
  · simp [h1]
theorem firstTo_spec (p : Nat → Bool) : ∀ k, k ≤ 201 → (firstTo p k = 201 ∧ ∀ j, j < k → p j = false) ∨ ∃ j : Nat, j < k ∧ firstTo p k = j ∧ p j = true ∧ ∀ i, i < j → p i = false
  | 0, _ => .inl ⟨rfl, fun j h => absurd h (by omega)⟩
  | k + 1, h => by
    rcases firstTo_spec p k (by omega) with ⟨e, hn⟩ | ⟨j, hj, e, hp, hn⟩
    · rcases hk : p k with _ | _
      · refine .inl ⟨by rw [firstTo_no p k hk, e], fun j hj => ?_⟩
        by_cases hjk : j = k
        · rw [hjk]; exact hk
        · exact hn j (by omega)
      · exact .inr ⟨k, by omega, by rw [firstTo_yes p k (by omega) hk, e]; omega, hk, hn⟩
    · refine .inr ⟨j, by omega, ?_, hp, hn⟩
      rcases hk : p k with _ | _
      · rw [firstTo_no p k hk, e]
      · rw [firstTo_yes p k (by omega) hk, e]; omega
/-- The least number from k to 200 for which p says yes; 201, if there is none. -/
def Lo (p : Nat → Bool) (k : Nat) (v : Int) : Prop := (v = 201 ∧ ∀ j, k ≤ j → j < 201 → p j = false) ∨ ∃ j : Nat, v = j ∧ k ≤ j ∧ j < 201 ∧ p j = true ∧ ∀ i, k ≤ i → i < j → p i = false
theorem lo_top (p : Nat → Bool) : Lo p 201 201 := .inl ⟨rfl, fun j h1 h2 => absurd h2 (by omega)⟩
theorem lo_yes {p : Nat → Bool} {k : Nat} (hk : k < 201) (hp : p k = true) : Lo p k (k : Int) := .inr ⟨k, rfl, Nat.le_refl _, hk, hp, fun i h1 h2 => absurd h2 (by omega)⟩
theorem lo_no {p : Nat → Bool} {k : Nat} {v : Int} (hp : p k = false) (h : Lo p (k + 1) v) : Lo p k v := by
  rcases h with ⟨e, hm⟩ | ⟨j, e, h1, h2, h3, hm⟩
  · exact .inl ⟨e, fun j h1 h2 => by
      by_cases hjk : j = k
      · rw [hjk]; exact hp
      · exact hm j (by omega) h2⟩
  · exact .inr ⟨j, e, by omega, h2, h3, fun i h4 h5 => by
      by_cases hik : i = k
      · rw [hik]; exact hp
      · exact hm i (by omega) h5⟩
theorem lo_num {p : Nat → Bool} {k : Nat} {v : Int} (h : Lo p k v) : 0 ≤ v ∧ v ≤ 201 := by
  rcases h with ⟨e, _⟩ | ⟨j, e, _, _, _, _⟩ <;> omega
theorem lo_first {p : Nat → Bool} {v : Int} (h : Lo p 0 v) : v = firstTo p 201 := by
  rcases firstTo_spec p 201 (Nat.le_refl _) with ⟨e, hn⟩ | ⟨j, hj, e, hp, hn⟩
  · rcases h with ⟨rfl, _⟩ | ⟨i, rfl, _, hi, hpi, _⟩
    · exact e.symm
    · have := hn i hi; rw [hpi] at this; cases this
  · rcases h with ⟨rfl, hm⟩ | ⟨i, rfl, _, hi, hpi, hm⟩
    · have := hm j (by omega) hj; rw [hp] at this; cases this
    · rw [e]
      have : i = j := by
        rcases Nat.lt_trichotomy i j with h | h | h
        · have := hn i h; rw [hpi] at this; cases this
        · exact h
        · have := hm j (by omega) h; rw [hp] at this; cases this
      rw [this]
set_option maxRecDepth 100000 in
set_option maxHeartbeats 2000000 in
theorem refReady_any (ra rb rc rr : Int) (a : Option Addr) (n c : Nat) (ts : List Tree) (lo hi pr ne k y : Int) (w : World) (hT : Trees w a n c ts) :
    Calls Tryd.prog 30 #[.agg #[.int .i64 ra, .int .i64 rb, .int .i64 rc, .int .i64 rr], .agg #[.slice a n c, .int .i64 lo, .int .i64 hi, .int .i64 pr, .int .i64 ne], .int .i64 k, .int .i64 y] w fun e w' =>
      e = .returned (.tuple #[.agg #[.int .i64 (readyR ⟨ra, rb, rc, rr⟩ ⟨ts, lo, hi, pr, ne⟩ k y).1, .int .i64 (readyR ⟨ra, rb, rc, rr⟩ ⟨ts, lo, hi, pr, ne⟩ k y).2], .int .i64 (readyE ⟨ra, rb, rc, rr⟩ ⟨ts, lo, hi, pr, ne⟩ k y)]) ∧ Below w.heap.size w w' := by
  have hn := hT.len
  subst hn
  have HX : Hid (∀ W, Below (w.heap.size + 1 + 1 + 1) (((w.alloc (.cells #[.int .i64 ra, .int .i64 rb, .int .i64 rc, .int .i64 rr] 24)).alloc (.cells #[.slice a ts.length c, .int .i64 lo, .int .i64 hi, .int .i64 pr, .int .i64 ne] 29)).alloc (.cells #[.int .i64 0, .int .i64 0] 27)) W → Box W w.heap.size #[.int .i64 ra, .int .i64 rb, .int .i64 rc, .int .i64 rr] 24 ∧ Box W (w.heap.size + 1) #[.slice a ts.length c, .int .i64 lo, .int .i64 hi, .int .i64 pr, .int .i64 ne] 29 ∧ Box W (w.heap.size + 1 + 1) #[.int .i64 0, .int .i64 0] 27 ∧ Trees W a ts.length c ts ∧ Below w.heap.size w W ∧ w.heap.size + 1 + 1 < W.heap.size) := Lib.hid fun W h => by
    have hB : Below w.heap.size w W := ((((Below.refl _ _).alloc (Nat.le_refl _) _).alloc (by simp) _).alloc (by simp; omega) _).trans (h.mono (by omega))
    have b1 := Box.new (w.alloc (.cells #[.int .i64 ra, .int .i64 rb, .int .i64 rc, .int .i64 rr] 24)) #[.slice a ts.length c, .int .i64 lo, .int .i64 hi, .int .i64 pr, .int .i64 ne] 29
    have b2 := Box.new ((w.alloc (.cells #[.int .i64 ra, .int .i64 rb, .int .i64 rc, .int .i64 rr] 24)).alloc (.cells #[.slice a ts.length c, .int .i64 lo, .int .i64 hi, .int .i64 pr, .int .i64 ne] 29)) #[.int .i64 0, .int .i64 0] 27
    simp only [World.size_alloc] at b1 b2
    exact ⟨(((Box.new w _ _).alloc _).alloc _).below h (by omega), (b1.alloc _).below h (by omega), b2.below h (by omega), hT.below hB, hB, by have := h.size; simp at this; omega⟩
  have hS0 : Below (w.heap.size + 1 + 1 + 1) (((w.alloc (.cells #[.int .i64 ra, .int .i64 rb, .int .i64 rc, .int .i64 rr] 24)).alloc (.cells #[.slice a ts.length c, .int .i64 lo, .int .i64 hi, .int .i64 pr, .int .i64 ne] 29)).alloc (.cells #[.int .i64 0, .int .i64 0] 27)) (((w.alloc (.cells #[.int .i64 ra, .int .i64 rb, .int .i64 rc, .int .i64 rr] 24)).alloc (.cells #[.slice a ts.length c, .int .i64 lo, .int .i64 hi, .int .i64 pr, .int .i64 ne] 29)).alloc (.cells #[.int .i64 0, .int .i64 0] 27)) := Below.refl _ _
  clear hT
  obtain ⟨z, hzr⟩ : ∃ z, z = ruleE ⟨ra, rb, rc, rr⟩ := ⟨_, rfl⟩
  obtain ⟨x, hx⟩ : ∃ x, x = nearE ⟨ts, lo, hi, pr, ne⟩ k := ⟨_, rfl⟩
  have HZE := Lib.hid hzr
  have HXE := Lib.hid hx
  have hFE := readyE_near ⟨ra, rb, rc, rr⟩ ⟨ts, lo, hi, pr, ne⟩ k y
  rw [← hzr, ← hx] at hFE
  by_cases hr0 : z = 0
  · have qr : (z != 0) = false := by simpa using hr0
    rw [if_pos hr0] at hFE
    by_cases h0 : x = 0
    · have q0 : (x != 0) = false := by simpa using h0
      rw [if_pos h0] at hFE
      rcases hf : frB y 1 3 with _ | _
      · have hE : readyE ⟨ra, rb, rc, rr⟩ ⟨ts, lo, hi, pr, ne⟩ k y = 7 := by rw [hFE]; unfold rangeE; rw [hf]; rfl
        have HR : Hid (readyR ⟨ra, rb, rc, rr⟩ ⟨ts, lo, hi, pr, ne⟩ k y = (0, 0)) := Lib.hid (by unfold readyR; rw [if_neg (by rw [hE]; omega)])
        have HE := Lib.hid hE
        clear hE hFE hx hzr h0 hr0
        go_enter Tryd.func30, Tryd.ntmps30
        go_wp2_with (first
          | (go_at_call 56; refine (asked_any a ts.length c ts lo hi pr ne k _ (HX.out _ hS1).2.2.2.1).mono ?_; rintro e w2 ⟨rfl, hb2⟩; have hS2 := hS1.trans (hb2.mono (by have := hS1.size; simp at this; omega)); rw [← HXE.out]; have hbz := (HX.out _ hS2).2.2.1; have u0 : w2.cell? ⟨w.heap.size + 1 + 1, 0, none⟩ = some (.int .i64 0) := hbz.cell 0; have u1 : w2.cell? ⟨w.heap.size + 1 + 1, 1, none⟩ = some (.int .i64 0) := hbz.cell 1; have u2 : w2.frozen? ⟨w.heap.size + 1 + 1, 0, none⟩ = false := hbz.free 0; have u3 : w2.frozen? ⟨w.heap.size + 1 + 1, 1, none⟩ = false := hbz.free 1; clear hbz)
          | (go_at_call 23; refine (refRule_any ra rb rc rr _).mono ?_; rintro e w1 ⟨rfl, hb1⟩; have hS1 := hS0.trans (hb1.mono (by simp)); rw [← HZE.out]; have hbs := (HX.out _ hS1).2.1; have e0 : w1.cell? ⟨w.heap.size + 1, 0, none⟩ = some (.slice a ts.length c) := hbs.cell 0; have e1 : w1.cell? ⟨w.heap.size + 1, 1, none⟩ = some (.int .i64 lo) := hbs.cell 1; have e2 : w1.cell? ⟨w.heap.size + 1, 2, none⟩ = some (.int .i64 hi) := hbs.cell 2; have e3 : w1.cell? ⟨w.heap.size + 1, 3, none⟩ = some (.int .i64 pr) := hbs.cell 3; have e4 : w1.cell? ⟨w.heap.size + 1, 4, none⟩ = some (.int .i64 ne) := hbs.cell 4; clear hbs)
          | (go_at_call 45; refine (refIn_any _ _ _ _).mono ?_; rintro e w' ⟨rfl, rfl⟩))
        obtain ⟨_, _, bZ, _, hB2, hz⟩ := HX.out _ hS2
        have bR2 := (bZ.set 0 (.int .i64 0)).set 1 (.int .i64 0)
        have r0 := bR2.cell 0
        have r1 := bR2.cell 1
        simp at r0 r1
        have hB4 := ((hB2.setCell (p := ⟨w.heap.size + 1 + 1, 0, none⟩) (by dsimp only; omega) (.int .i64 0)).setCell (p := ⟨w.heap.size + 1 + 1, 1, none⟩) (by dsimp only; omega) (.int .i64 0))
        refine bodyPost_ret (v := .tuple #[.agg #[.int .i64 0, .int .i64 0], .int .i64 7]) (by simp [results, Tryd.results30, go_sem, r0, r1]) rfl ⟨by rw [HR.out, HE.out], hB4⟩
      · have hE : readyE ⟨ra, rb, rc, rr⟩ ⟨ts, lo, hi, pr, ne⟩ k y = 0 := by rw [hFE]; unfold rangeE; rw [hf]; rfl
        obtain ⟨kn, t, rfl, hkn, ht, hst, hy⟩ := ready_valid hE
        dsimp only at hkn ht
        have HR : Hid (readyR ⟨ra, rb, rc, rr⟩ ⟨ts, lo, hi, pr, ne⟩ kn y = (firstTo (reachP ⟨ra, rb, rc, rr⟩ t.cr y t.gh (rateH ⟨ts, lo, hi, pr, ne⟩ kn)) 201, firstTo (reachP ⟨ra, rb, rc, rr⟩ t.cr y t.gl (rateL ⟨ts, lo, hi, pr, ne⟩ kn)) 201)) := Lib.hid (by
          unfold readyR; rw [if_pos hE]; simp only [readyAt, Int.toNat_natCast, ht])
        have HPH : Hid (∀ g : Nat, (reachP ⟨ra, rb, rc, rr⟩ t.cr y t.gh (rateH ⟨ts, lo, hi, pr, ne⟩ kn)) g = decide (y ≤ (manyN ⟨ra, rb, rc, rr⟩ t.cr (t.gh + (g : Int) * rateH ⟨ts, lo, hi, pr, ne⟩ kn)))) := Lib.hid fun _ => rfl
        have HPL : Hid (∀ g : Nat, (reachP ⟨ra, rb, rc, rr⟩ t.cr y t.gl (rateL ⟨ts, lo, hi, pr, ne⟩ kn)) g = decide (y ≤ (manyN ⟨ra, rb, rc, rr⟩ t.cr (t.gl + (g : Int) * rateL ⟨ts, lo, hi, pr, ne⟩ kn)))) := Lib.hid fun _ => rfl
        generalize (reachP ⟨ra, rb, rc, rr⟩ t.cr y t.gh (rateH ⟨ts, lo, hi, pr, ne⟩ kn)) = ph at HR HPH
        generalize (reachP ⟨ra, rb, rc, rr⟩ t.cr y t.gl (rateL ⟨ts, lo, hi, pr, ne⟩ kn)) = pl at HR HPL
        have HE := Lib.hid hE
        have hTa := (HX.out _ hS0).2.2.2.1.at_
        rcases hTa with rfl | ⟨b, off, rfl, _, _⟩
        · exact absurd hkn (by simp)
        have HT := Lib.hid ht
        have HST := Lib.hid hst
        clear hE hFE hx hzr h0 hr0 ht
        go_enter Tryd.func30, Tryd.ntmps30
        go_wp2_with (first
          | (go_at_call 56; refine (asked_any (some ⟨b, off, none⟩) ts.length c ts lo hi pr ne kn _ (HX.out _ hS1).2.2.2.1).mono ?_; rintro e w2 ⟨rfl, hb2⟩; have hS2 := hS1.trans (hb2.mono (by have := hS1.size; simp at this; omega)); rw [← HXE.out]; have hbr := (HX.out _ hS2).1; have d0 : w2.cell? ⟨w.heap.size, 0, none⟩ = some (.int .i64 ra) := hbr.cell 0; have d1 : w2.cell? ⟨w.heap.size, 1, none⟩ = some (.int .i64 rb) := hbr.cell 1; have d2 : w2.cell? ⟨w.heap.size, 2, none⟩ = some (.int .i64 rc) := hbr.cell 2; have d3 : w2.cell? ⟨w.heap.size, 3, none⟩ = some (.int .i64 rr) := hbr.cell 3; clear hbr; have hbs := (HX.out _ hS2).2.1; have e0 : w2.cell? ⟨w.heap.size + 1, 0, none⟩ = some (.slice (some ⟨b, off, none⟩) ts.length c) := hbs.cell 0; have e1 : w2.cell? ⟨w.heap.size + 1, 1, none⟩ = some (.int .i64 lo) := hbs.cell 1; have e2 : w2.cell? ⟨w.heap.size + 1, 2, none⟩ = some (.int .i64 hi) := hbs.cell 2; have e3 : w2.cell? ⟨w.heap.size + 1, 3, none⟩ = some (.int .i64 pr) := hbs.cell 3; have e4 : w2.cell? ⟨w.heap.size + 1, 4, none⟩ = some (.int .i64 ne) := hbs.cell 4; clear hbs)
          | (go_at_call 23; refine (refRule_any ra rb rc rr _).mono ?_; rintro e w1 ⟨rfl, hb1⟩; have hS1 := hS0.trans (hb1.mono (by simp)); rw [← HZE.out]; have hbs := (HX.out _ hS1).2.1; have e0 : w1.cell? ⟨w.heap.size + 1, 0, none⟩ = some (.slice (some ⟨b, off, none⟩) ts.length c) := hbs.cell 0; have e1 : w1.cell? ⟨w.heap.size + 1, 1, none⟩ = some (.int .i64 lo) := hbs.cell 1; have e2 : w1.cell? ⟨w.heap.size + 1, 2, none⟩ = some (.int .i64 hi) := hbs.cell 2; have e3 : w1.cell? ⟨w.heap.size + 1, 3, none⟩ = some (.int .i64 pr) := hbs.cell 3; have e4 : w1.cell? ⟨w.heap.size + 1, 4, none⟩ = some (.int .i64 ne) := hbs.cell 4; clear hbs)
          | (go_at_call 45; refine (refIn_any _ _ _ _).mono ?_; rintro e w' ⟨rfl, rfl⟩))
        obtain ⟨O, hO⟩ : ∃ O, O = w2.heap.size := ⟨_, rfl⟩
        have hO3 : w.heap.size + 1 + 1 < O := by rw [hO]; exact (HX.out _ hS2).2.2.2.2.2
        have bO0 := Box.new w2 #[.int .i64 201, .int .i64 201] 27
        rw [← hO] at bO0
        have hSO : Below (w.heap.size + 1 + 1 + 1) (((w.alloc (.cells #[.int .i64 ra, .int .i64 rb, .int .i64 rc, .int .i64 rr] 24)).alloc (.cells #[.slice (some ⟨b, off, none⟩) ts.length c, .int .i64 lo, .int .i64 hi, .int .i64 pr, .int .i64 ne] 29)).alloc (.cells #[.int .i64 0, .int .i64 0] 27)) (w2.alloc (.cells #[.int .i64 201, .int .i64 201] 27)) := hS2.alloc (by omega) _
        clear d0 d1 d2 d3 e0 e1 e2 e3 e4
        rw [← hO]
        clear hO
        go_loopw [13] (fun i wr => ∃ g : Nat, g ≤ 201 ∧ i = .int .i64 ((g : Int) - 1) ∧ ∃ L H : Int, Box wr O #[.int .i64 L, .int .i64 H] 27 ∧ Hid (Lo ph g L) ∧ Hid (Lo pl g H) ∧ Below (w.heap.size + 1 + 1 + 1) (((w.alloc (.cells #[.int .i64 ra, .int .i64 rb, .int .i64 rc, .int .i64 rr] 24)).alloc (.cells #[.slice (some ⟨b, off, none⟩) ts.length c, .int .i64 lo, .int .i64 hi, .int .i64 pr, .int .i64 ne] 29)).alloc (.cells #[.int .i64 0, .int .i64 0] 27)) wr) (fun i _ => (intOf i + 1).toNat)
        case atStart => exact ⟨201, by omega, rfl, 201, 201, bO0, Lib.hid (lo_top _), Lib.hid (lo_top _), hSO⟩
        case round =>
          obtain ⟨g', hg', rfl, L, H, bO, HL, HH, hB⟩ := hrel
          clear bO0 hSO
          cases g' with
          | zero =>
            have HLL := Lib.hid (lo_first HL.out)
            have HHH := Lib.hid (lo_first HH.out)
            obtain ⟨l1, l2⟩ := lo_num HL.out
            obtain ⟨h1, h2⟩ := lo_num HH.out
            have n0 : wr.cell? ⟨O, 0, none⟩ = some (.int .i64 L) := bO.cell 0
            have n1 : wr.cell? ⟨O, 1, none⟩ = some (.int .i64 H) := bO.cell 1
            have hbz := (HX.out _ hB).2.2.1; have u0 : wr.cell? ⟨w.heap.size + 1 + 1, 0, none⟩ = some (.int .i64 0) := hbz.cell 0; have u1 : wr.cell? ⟨w.heap.size + 1 + 1, 1, none⟩ = some (.int .i64 0) := hbz.cell 1; have u2 : wr.frozen? ⟨w.heap.size + 1 + 1, 0, none⟩ = false := hbz.free 0; have u3 : wr.frozen? ⟨w.heap.size + 1 + 1, 1, none⟩ = false := hbz.free 1; clear hbz
            have eg : ((0 : Nat) : Int) - 1 = -1 := rfl
            rw [eg]
            go_wp2_with fail
            obtain ⟨_, _, bZ, _, hB2, hz⟩ := HX.out _ hB
            have bR2 := (bZ.set 0 (.int .i64 L)).set 1 (.int .i64 H)
            have r0 := bR2.cell 0
            have r1 := bR2.cell 1
            simp at r0 r1
            have hB4 := ((hB2.setCell (p := ⟨w.heap.size + 1 + 1, 0, none⟩) (by dsimp only; omega) (.int .i64 L)).setCell (p := ⟨w.heap.size + 1 + 1, 1, none⟩) (by dsimp only; omega) (.int .i64 H))
            refine bodyPost_ret (v := .tuple #[.agg #[.int .i64 L, .int .i64 H], .int .i64 0]) (by simp [results, Tryd.results30, go_sem, r0, r1]) rfl ⟨by rw [HR.out, HE.out, HLL.out, HHH.out], hB4⟩
          | succ g =>
            have eg : ((g + 1 : Nat) : Int) - 1 = (g : Int) := by omega
            rw [eg]
            obtain ⟨l1, l2⟩ := lo_num HL.out
            obtain ⟨h1, h2⟩ := lo_num HH.out
            obtain ⟨m1, hm1⟩ : ∃ m, m = (manyN ⟨ra, rb, rc, rr⟩ t.cr (t.gl + (g : Int) * rateL ⟨ts, lo, hi, pr, ne⟩ kn)) := ⟨_, rfl⟩
            obtain ⟨m2, hm2⟩ : ∃ m, m = (manyN ⟨ra, rb, rc, rr⟩ t.cr (t.gh + (g : Int) * rateH ⟨ts, lo, hi, pr, ne⟩ kn)) := ⟨_, rfl⟩
            have HM1 : Hid (m1 = (manyN ⟨ra, rb, rc, rr⟩ t.cr (t.gl + (g : Int) * rateL ⟨ts, lo, hi, pr, ne⟩ kn))) := Lib.hid hm1
            have HM2 : Hid (m2 = (manyN ⟨ra, rb, rc, rr⟩ t.cr (t.gh + (g : Int) * rateH ⟨ts, lo, hi, pr, ne⟩ kn))) := Lib.hid hm2
            clear hm1 hm2
            have hbr := (HX.out _ hB).1; have d0 : wr.cell? ⟨w.heap.size, 0, none⟩ = some (.int .i64 ra) := hbr.cell 0; have d1 : wr.cell? ⟨w.heap.size, 1, none⟩ = some (.int .i64 rb) := hbr.cell 1; have d2 : wr.cell? ⟨w.heap.size, 2, none⟩ = some (.int .i64 rc) := hbr.cell 2; have d3 : wr.cell? ⟨w.heap.size, 3, none⟩ = some (.int .i64 rr) := hbr.cell 3; clear hbr
            have hbs := (HX.out _ hB).2.1; have e0 : wr.cell? ⟨w.heap.size + 1, 0, none⟩ = some (.slice (some ⟨b, off, none⟩) ts.length c) := hbs.cell 0; have e1 : wr.cell? ⟨w.heap.size + 1, 1, none⟩ = some (.int .i64 lo) := hbs.cell 1; have e2 : wr.cell? ⟨w.heap.size + 1, 2, none⟩ = some (.int .i64 hi) := hbs.cell 2; have e3 : wr.cell? ⟨w.heap.size + 1, 3, none⟩ = some (.int .i64 pr) := hbs.cell 3; have e4 : wr.cell? ⟨w.heap.size + 1, 4, none⟩ = some (.int .i64 ne) := hbs.cell 4; clear hbs
            have hbl := bO.lt
            rcases q1 : ph g with _ | _ <;> rcases q2 : pl g with _ | _
            · have t1 : ¬ y ≤ m2 := by rw [HPH.out, ← HM2.out] at q1; simpa using q1
              have t2 : ¬ y ≤ m1 := by rw [HPL.out, ← HM1.out] at q2; simpa using q2
              have HL1 : Hid (Lo ph g L) := Lib.hid (lo_no q1 HL.out)
              have HH1 : Hid (Lo pl g H) := Lib.hid (lo_no q2 HH.out)
              clear q1 q2
              go_wp2_with (go_at_call 73; refine (refFacesOf_any ra rb rc rr b off c kn ts lo hi pr ne (g : Int) t HT.out _ (HX.out _ hB).2.2.2.1 hst ⟨by omega, by omega⟩).mono ?_; rw [← HM1.out, ← HM2.out]; rintro e w3 ⟨rfl, hb3⟩; have hz3 := hb3.size; have bO3 := bO.below hb3 bO.lt; have hB3 := hB.trans (hb3.mono (by have := hB.size; simp at this; omega)); have o0 : w3.cell? ⟨O, 0, none⟩ = some (.int .i64 L) := bO3.cell 0; have o1 : w3.cell? ⟨O, 1, none⟩ = some (.int .i64 H) := bO3.cell 1; have o2 : w3.frozen? ⟨O, 0, none⟩ = false := bO3.free 0; have o3 : w3.frozen? ⟨O, 1, none⟩ = false := bO3.free 1; have k0 : ∀ o, (w3.alloc o).cell? ⟨O, 0, none⟩ = some (.int .i64 L) := fun o => (bO3.alloc o).cell 0; have k1 : ∀ o, (w3.alloc o).cell? ⟨O, 1, none⟩ = some (.int .i64 H) := fun o => (bO3.alloc o).cell 1; have k2 : ∀ o, (w3.alloc o).frozen? ⟨O, 0, none⟩ = false := fun o => (bO3.alloc o).free 0; have k3 : ∀ o, (w3.alloc o).frozen? ⟨O, 1, none⟩ = false := fun o => (bO3.alloc o).free 1; have ne3 : w3.heap.size ≠ O := (by omega))
              have zN := (bO3.alloc (.cells #[.int .i64 m1, .int .i64 m2] 27))
              have zB := hB3.alloc (by omega) (.cells #[.int .i64 m1, .int .i64 m2] 27)
              go_roundw
              case rel => exact ⟨g, by omega, by go_num, L, H, by simpa using zN, HL1, HH1, zB⟩
              case measure => (simp [intOf])
            · have t1 : ¬ y ≤ m2 := by rw [HPH.out, ← HM2.out] at q1; simpa using q1
              have t2 : y ≤ m1 := by rw [HPL.out, ← HM1.out] at q2; simpa using q2
              have HL1 : Hid (Lo ph g L) := Lib.hid (lo_no q1 HL.out)
              have HH1 : Hid (Lo pl g (g : Int)) := Lib.hid (lo_yes (by omega) q2)
              clear q1 q2
              go_wp2_with (go_at_call 73; refine (refFacesOf_any ra rb rc rr b off c kn ts lo hi pr ne (g : Int) t HT.out _ (HX.out _ hB).2.2.2.1 hst ⟨by omega, by omega⟩).mono ?_; rw [← HM1.out, ← HM2.out]; rintro e w3 ⟨rfl, hb3⟩; have hz3 := hb3.size; have bO3 := bO.below hb3 bO.lt; have hB3 := hB.trans (hb3.mono (by have := hB.size; simp at this; omega)); have o0 : w3.cell? ⟨O, 0, none⟩ = some (.int .i64 L) := bO3.cell 0; have o1 : w3.cell? ⟨O, 1, none⟩ = some (.int .i64 H) := bO3.cell 1; have o2 : w3.frozen? ⟨O, 0, none⟩ = false := bO3.free 0; have o3 : w3.frozen? ⟨O, 1, none⟩ = false := bO3.free 1; have k0 : ∀ o, (w3.alloc o).cell? ⟨O, 0, none⟩ = some (.int .i64 L) := fun o => (bO3.alloc o).cell 0; have k1 : ∀ o, (w3.alloc o).cell? ⟨O, 1, none⟩ = some (.int .i64 H) := fun o => (bO3.alloc o).cell 1; have k2 : ∀ o, (w3.alloc o).frozen? ⟨O, 0, none⟩ = false := fun o => (bO3.alloc o).free 0; have k3 : ∀ o, (w3.alloc o).frozen? ⟨O, 1, none⟩ = false := fun o => (bO3.alloc o).free 1; have ne3 : w3.heap.size ≠ O := (by omega))
              have zN := (((bO3.alloc (.cells #[.int .i64 m1, .int .i64 m2] 27)).set 0 (.int .i64 L)).set 1 (.int .i64 (g : Int)))
              have zB := ((((hB3.alloc (by omega) (.cells #[.int .i64 m1, .int .i64 m2] 27)).setCell (p := ⟨O, 0, none⟩) (by dsimp only; omega) (.int .i64 L))).setCell (p := ⟨O, 1, none⟩) (by dsimp only; omega) (.int .i64 (g : Int)))
              go_roundw
              case rel => exact ⟨g, by omega, by go_num, L, (g : Int), by simpa using zN, HL1, HH1, zB⟩
              case measure => (simp [intOf])
            · have t1 : y ≤ m2 := by rw [HPH.out, ← HM2.out] at q1; simpa using q1
              have t2 : ¬ y ≤ m1 := by rw [HPL.out, ← HM1.out] at q2; simpa using q2
              have HL1 : Hid (Lo ph g (g : Int)) := Lib.hid (lo_yes (by omega) q1)
              have HH1 : Hid (Lo pl g H) := Lib.hid (lo_no q2 HH.out)
              clear q1 q2
              go_wp2_with (go_at_call 73; refine (refFacesOf_any ra rb rc rr b off c kn ts lo hi pr ne (g : Int) t HT.out _ (HX.out _ hB).2.2.2.1 hst ⟨by omega, by omega⟩).mono ?_; rw [← HM1.out, ← HM2.out]; rintro e w3 ⟨rfl, hb3⟩; have hz3 := hb3.size; have bO3 := bO.below hb3 bO.lt; have hB3 := hB.trans (hb3.mono (by have := hB.size; simp at this; omega)); have o0 : w3.cell? ⟨O, 0, none⟩ = some (.int .i64 L) := bO3.cell 0; have o1 : w3.cell? ⟨O, 1, none⟩ = some (.int .i64 H) := bO3.cell 1; have o2 : w3.frozen? ⟨O, 0, none⟩ = false := bO3.free 0; have o3 : w3.frozen? ⟨O, 1, none⟩ = false := bO3.free 1; have k0 : ∀ o, (w3.alloc o).cell? ⟨O, 0, none⟩ = some (.int .i64 L) := fun o => (bO3.alloc o).cell 0; have k1 : ∀ o, (w3.alloc o).cell? ⟨O, 1, none⟩ = some (.int .i64 H) := fun o => (bO3.alloc o).cell 1; have k2 : ∀ o, (w3.alloc o).frozen? ⟨O, 0, none⟩ = false := fun o => (bO3.alloc o).free 0; have k3 : ∀ o, (w3.alloc o).frozen? ⟨O, 1, none⟩ = false := fun o => (bO3.alloc o).free 1; have ne3 : w3.heap.size ≠ O := (by omega))
              have zN := (((bO3.alloc (.cells #[.int .i64 m1, .int .i64 m2] 27)).set 0 (.int .i64 (g : Int))).set 1 (.int .i64 H))
              have zB := ((((hB3.alloc (by omega) (.cells #[.int .i64 m1, .int .i64 m2] 27)).setCell (p := ⟨O, 0, none⟩) (by dsimp only; omega) (.int .i64 (g : Int)))).setCell (p := ⟨O, 1, none⟩) (by dsimp only; omega) (.int .i64 H))
              go_roundw
              case rel => exact ⟨g, by omega, by go_num, (g : Int), H, by simpa using zN, HL1, HH1, zB⟩
              case measure => (simp [intOf])
            · have t1 : y ≤ m2 := by rw [HPH.out, ← HM2.out] at q1; simpa using q1
              have t2 : y ≤ m1 := by rw [HPL.out, ← HM1.out] at q2; simpa using q2
              have HL1 : Hid (Lo ph g (g : Int)) := Lib.hid (lo_yes (by omega) q1)
              have HH1 : Hid (Lo pl g (g : Int)) := Lib.hid (lo_yes (by omega) q2)
              clear q1 q2
              go_wp2_with (go_at_call 73; refine (refFacesOf_any ra rb rc rr b off c kn ts lo hi pr ne (g : Int) t HT.out _ (HX.out _ hB).2.2.2.1 hst ⟨by omega, by omega⟩).mono ?_; rw [← HM1.out, ← HM2.out]; rintro e w3 ⟨rfl, hb3⟩; have hz3 := hb3.size; have bO3 := bO.below hb3 bO.lt; have hB3 := hB.trans (hb3.mono (by have := hB.size; simp at this; omega)); have o0 : w3.cell? ⟨O, 0, none⟩ = some (.int .i64 L) := bO3.cell 0; have o1 : w3.cell? ⟨O, 1, none⟩ = some (.int .i64 H) := bO3.cell 1; have o2 : w3.frozen? ⟨O, 0, none⟩ = false := bO3.free 0; have o3 : w3.frozen? ⟨O, 1, none⟩ = false := bO3.free 1; have k0 : ∀ o, (w3.alloc o).cell? ⟨O, 0, none⟩ = some (.int .i64 L) := fun o => (bO3.alloc o).cell 0; have k1 : ∀ o, (w3.alloc o).cell? ⟨O, 1, none⟩ = some (.int .i64 H) := fun o => (bO3.alloc o).cell 1; have k2 : ∀ o, (w3.alloc o).frozen? ⟨O, 0, none⟩ = false := fun o => (bO3.alloc o).free 0; have k3 : ∀ o, (w3.alloc o).frozen? ⟨O, 1, none⟩ = false := fun o => (bO3.alloc o).free 1; have ne3 : w3.heap.size ≠ O := (by omega))
              have zN := (((((bO3.alloc (.cells #[.int .i64 m1, .int .i64 m2] 27)).set 0 (.int .i64 (g : Int))).set 1 (.int .i64 H)).set 0 (.int .i64 (g : Int))).set 1 (.int .i64 (g : Int)))
              have zB := ((((((((hB3.alloc (by omega) (.cells #[.int .i64 m1, .int .i64 m2] 27)).setCell (p := ⟨O, 0, none⟩) (by dsimp only; omega) (.int .i64 (g : Int)))).setCell (p := ⟨O, 1, none⟩) (by dsimp only; omega) (.int .i64 H))).setCell (p := ⟨O, 0, none⟩) (by dsimp only; omega) (.int .i64 (g : Int)))).setCell (p := ⟨O, 1, none⟩) (by dsimp only; omega) (.int .i64 (g : Int)))
              go_roundw
              case rel => exact ⟨g, by omega, by go_num, (g : Int), (g : Int), by simpa using zN, HL1, HH1, zB⟩
              case measure => (simp [intOf])
    · have q0 : (x != 0) = true := by simpa using h0
      rw [if_neg h0] at hFE
      have HR : Hid (readyR ⟨ra, rb, rc, rr⟩ ⟨ts, lo, hi, pr, ne⟩ k y = (0, 0)) := Lib.hid (by unfold readyR; rw [if_neg (by rw [hFE]; exact h0)])
      have HE := Lib.hid hFE
      clear hFE hx hzr h0 hr0
      go_enter Tryd.func30, Tryd.ntmps30
      go_wp2_with (first
        | (go_at_call 56; refine (asked_any a ts.length c ts lo hi pr ne k _ (HX.out _ hS1).2.2.2.1).mono ?_; rintro e w2 ⟨rfl, hb2⟩; have hS2 := hS1.trans (hb2.mono (by have := hS1.size; simp at this; omega)); rw [← HXE.out]; have hbz := (HX.out _ hS2).2.2.1; have u0 : w2.cell? ⟨w.heap.size + 1 + 1, 0, none⟩ = some (.int .i64 0) := hbz.cell 0; have u1 : w2.cell? ⟨w.heap.size + 1 + 1, 1, none⟩ = some (.int .i64 0) := hbz.cell 1; have u2 : w2.frozen? ⟨w.heap.size + 1 + 1, 0, none⟩ = false := hbz.free 0; have u3 : w2.frozen? ⟨w.heap.size + 1 + 1, 1, none⟩ = false := hbz.free 1; clear hbz)
        | (go_at_call 23; refine (refRule_any ra rb rc rr _).mono ?_; rintro e w1 ⟨rfl, hb1⟩; have hS1 := hS0.trans (hb1.mono (by simp)); rw [← HZE.out]; have hbs := (HX.out _ hS1).2.1; have e0 : w1.cell? ⟨w.heap.size + 1, 0, none⟩ = some (.slice a ts.length c) := hbs.cell 0; have e1 : w1.cell? ⟨w.heap.size + 1, 1, none⟩ = some (.int .i64 lo) := hbs.cell 1; have e2 : w1.cell? ⟨w.heap.size + 1, 2, none⟩ = some (.int .i64 hi) := hbs.cell 2; have e3 : w1.cell? ⟨w.heap.size + 1, 3, none⟩ = some (.int .i64 pr) := hbs.cell 3; have e4 : w1.cell? ⟨w.heap.size + 1, 4, none⟩ = some (.int .i64 ne) := hbs.cell 4; clear hbs))
      obtain ⟨_, _, bZ, _, hB2, hz⟩ := HX.out _ hS2
      have bR2 := (bZ.set 0 (.int .i64 0)).set 1 (.int .i64 0)
      have r0 := bR2.cell 0
      have r1 := bR2.cell 1
      simp at r0 r1
      have hB4 := ((hB2.setCell (p := ⟨w.heap.size + 1 + 1, 0, none⟩) (by dsimp only; omega) (.int .i64 0)).setCell (p := ⟨w.heap.size + 1 + 1, 1, none⟩) (by dsimp only; omega) (.int .i64 0))
      refine bodyPost_ret (v := .tuple #[.agg #[.int .i64 0, .int .i64 0], .int .i64 x]) (by simp [results, Tryd.results30, go_sem, r0, r1]) rfl ⟨by rw [HR.out, HE.out], hB4⟩
  · have qr : (z != 0) = true := by simpa using hr0
    rw [if_neg hr0] at hFE
    have HR : Hid (readyR ⟨ra, rb, rc, rr⟩ ⟨ts, lo, hi, pr, ne⟩ k y = (0, 0)) := Lib.hid (by unfold readyR; rw [if_neg (by rw [hFE]; exact hr0)])
    have HE := Lib.hid hFE
    clear hFE hx hzr hr0
    go_enter Tryd.func30, Tryd.ntmps30
    go_wp2_with (go_at_call 23; refine (refRule_any ra rb rc rr _).mono ?_; rintro e w1 ⟨rfl, hb1⟩; have hS1 := hS0.trans (hb1.mono (by simp)); rw [← HZE.out]; have hbz := (HX.out _ hS1).2.2.1; have u0 : w1.cell? ⟨w.heap.size + 1 + 1, 0, none⟩ = some (.int .i64 0) := hbz.cell 0; have u1 : w1.cell? ⟨w.heap.size + 1 + 1, 1, none⟩ = some (.int .i64 0) := hbz.cell 1; have u2 : w1.frozen? ⟨w.heap.size + 1 + 1, 0, none⟩ = false := hbz.free 0; have u3 : w1.frozen? ⟨w.heap.size + 1 + 1, 1, none⟩ = false := hbz.free 1; clear hbz)
    obtain ⟨_, _, bZ, _, hB2, hz⟩ := HX.out _ hS1
    have bR2 := (bZ.set 0 (.int .i64 0)).set 1 (.int .i64 0)
    have r0 := bR2.cell 0
    have r1 := bR2.cell 1
    simp at r0 r1
    have hB4 := ((hB2.setCell (p := ⟨w.heap.size + 1 + 1, 0, none⟩) (by dsimp only; omega) (.int .i64 0)).setCell (p := ⟨w.heap.size + 1 + 1, 1, none⟩) (by dsimp only; omega) (.int .i64 0))
    refine bodyPost_ret (v := .tuple #[.agg #[.int .i64 0, .int .i64 0], .int .i64 z]) (by simp [results, Tryd.results30, go_sem, r0, r1]) rfl ⟨by rw [HR.out, HE.out], hB4⟩
end Go.Proofs.YtcjmfacdjdegkaaDoor
