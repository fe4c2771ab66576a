/- Contracts of the reference: Faces. Conditions: the trees lie in memory as the model says; tags fit into memory. -/
import Derived.Test.YtcjmfacdjdegkaaDoorR7
import Derived.Test.YtcjmfacdjdegkaaDoorFA
namespace Go.Proofs.YtcjmfacdjdegkaaDoor
open Go Go.RowKit
theorem facesE_girth (r : Rule) (s : Stand) (k y : Int) : facesE r s k y = if ruleE r = 0 then girthE s k y else ruleE r := rfl
set_option maxRecDepth 100000 in
set_option maxHeartbeats 2000000 in
theorem refFaces_any (ra rb rc rr : Int) (a : Option Addr) (n c : Nat) (ts : List Tree) (lo hi pr ne k y : Int) (w : World) (hT : Trees w a n c ts) :
    Calls Tryd.prog 28 #[.agg #[.int .i64 ra, .int .i64 rb, .int .i64 rc, .int .i64 rr], .agg #[.slice a n c, .int .i64 lo, .int .i64 hi, .int .i64 pr, .int .i64 ne], .int .i64 k, .int .i64 y] w fun e w' =>
      e = .returned (.tuple #[.agg #[.int .i64 (facesR ⟨ra, rb, rc, rr⟩ ⟨ts, lo, hi, pr, ne⟩ k y).1, .int .i64 (facesR ⟨ra, rb, rc, rr⟩ ⟨ts, lo, hi, pr, ne⟩ k y).2], .int .i64 (facesE ⟨ra, rb, rc, rr⟩ ⟨ts, lo, hi, pr, ne⟩ k y)]) ∧ Below w.heap.size w w' := by
  have hn := hT.len
  subst hn
  have HX : Hid (∀ W, Below (w.heap.size + 1 + 1 + 1) (((w.alloc (.cells #[.int .i64 ra, .int .i64 rb, .int .i64 rc, .int .i64 rr] 24)).alloc (.cells #[.slice a ts.length c, .int .i64 lo, .int .i64 hi, .int .i64 pr, .int .i64 ne] 29)).alloc (.cells #[.int .i64 0, .int .i64 0] 27)) W → Box W w.heap.size #[.int .i64 ra, .int .i64 rb, .int .i64 rc, .int .i64 rr] 24 ∧ Box W (w.heap.size + 1) #[.slice a ts.length c, .int .i64 lo, .int .i64 hi, .int .i64 pr, .int .i64 ne] 29 ∧ Box W (w.heap.size + 1 + 1) #[.int .i64 0, .int .i64 0] 27 ∧ Trees W a ts.length c ts ∧ Below w.heap.size w W ∧ w.heap.size + 1 + 1 < W.heap.size) := Lib.hid fun W h => by
    have hB : Below w.heap.size w W := ((((Below.refl _ _).alloc (Nat.le_refl _) _).alloc (by simp) _).alloc (by simp; omega) _).trans (h.mono (by omega))
    have b1 := Box.new (w.alloc (.cells #[.int .i64 ra, .int .i64 rb, .int .i64 rc, .int .i64 rr] 24)) #[.slice a ts.length c, .int .i64 lo, .int .i64 hi, .int .i64 pr, .int .i64 ne] 29
    have b2 := Box.new ((w.alloc (.cells #[.int .i64 ra, .int .i64 rb, .int .i64 rc, .int .i64 rr] 24)).alloc (.cells #[.slice a ts.length c, .int .i64 lo, .int .i64 hi, .int .i64 pr, .int .i64 ne] 29)) #[.int .i64 0, .int .i64 0] 27
    simp only [World.size_alloc] at b1 b2
    exact ⟨(((Box.new w _ _).alloc _).alloc _).below h (by omega), (b1.alloc _).below h (by omega), b2.below h (by omega), hT.below hB, hB, by have := h.size; simp at this; omega⟩
  have hS0 : Below (w.heap.size + 1 + 1 + 1) (((w.alloc (.cells #[.int .i64 ra, .int .i64 rb, .int .i64 rc, .int .i64 rr] 24)).alloc (.cells #[.slice a ts.length c, .int .i64 lo, .int .i64 hi, .int .i64 pr, .int .i64 ne] 29)).alloc (.cells #[.int .i64 0, .int .i64 0] 27)) (((w.alloc (.cells #[.int .i64 ra, .int .i64 rb, .int .i64 rc, .int .i64 rr] 24)).alloc (.cells #[.slice a ts.length c, .int .i64 lo, .int .i64 hi, .int .i64 pr, .int .i64 ne] 29)).alloc (.cells #[.int .i64 0, .int .i64 0] 27)) := Below.refl _ _
  clear hT
  obtain ⟨z, hzr⟩ : ∃ z, z = ruleE ⟨ra, rb, rc, rr⟩ := ⟨_, rfl⟩
  obtain ⟨x, hx⟩ : ∃ x, x = nearE ⟨ts, lo, hi, pr, ne⟩ k := ⟨_, rfl⟩
  have HZE := Lib.hid hzr
  have HXE := Lib.hid hx
  have hFE := facesE_girth ⟨ra, rb, rc, rr⟩ ⟨ts, lo, hi, pr, ne⟩ k y
  rw [← hzr, girthE_near, ← hx] at hFE
  by_cases hr0 : z = 0
  · have qr : (z != 0) = false := by simpa using hr0
    rw [if_pos hr0] at hFE
    by_cases h0 : x = 0
    · have q0 : (x != 0) = false := by simpa using h0
      rw [if_pos h0] at hFE
      rcases hf : frB y 0 200 with _ | _
      · have hE : facesE ⟨ra, rb, rc, rr⟩ ⟨ts, lo, hi, pr, ne⟩ k y = 7 := by rw [hFE]; unfold rangeE; rw [hf]; rfl
        have HR : Hid (facesR ⟨ra, rb, rc, rr⟩ ⟨ts, lo, hi, pr, ne⟩ k y = (0, 0)) := Lib.hid (by unfold facesR; rw [if_neg (by rw [hE]; omega)])
        have HE := Lib.hid hE
        clear hE hFE hx hzr h0 hr0
        go_enter Tryd.func28, Tryd.ntmps28
        go_wp2_with (first
          | (go_at_call 56; refine (asked_any a ts.length c ts lo hi pr ne k _ (HX.out _ hS1).2.2.2.1).mono ?_; rintro e w2 ⟨rfl, hb2⟩; have hS2 := hS1.trans (hb2.mono (by have := hS1.size; simp at this; omega)); rw [← HXE.out]; have hbz := (HX.out _ hS2).2.2.1; have u0 : w2.cell? ⟨w.heap.size + 1 + 1, 0, none⟩ = some (.int .i64 0) := hbz.cell 0; have u1 : w2.cell? ⟨w.heap.size + 1 + 1, 1, none⟩ = some (.int .i64 0) := hbz.cell 1; have u2 : w2.frozen? ⟨w.heap.size + 1 + 1, 0, none⟩ = false := hbz.free 0; have u3 : w2.frozen? ⟨w.heap.size + 1 + 1, 1, none⟩ = false := hbz.free 1; clear hbz)
          | (go_at_call 23; refine (refRule_any ra rb rc rr _).mono ?_; rintro e w1 ⟨rfl, hb1⟩; have hS1 := hS0.trans (hb1.mono (by simp)); rw [← HZE.out]; have hbs := (HX.out _ hS1).2.1; have e0 : w1.cell? ⟨w.heap.size + 1, 0, none⟩ = some (.slice a ts.length c) := hbs.cell 0; have e1 : w1.cell? ⟨w.heap.size + 1, 1, none⟩ = some (.int .i64 lo) := hbs.cell 1; have e2 : w1.cell? ⟨w.heap.size + 1, 2, none⟩ = some (.int .i64 hi) := hbs.cell 2; have e3 : w1.cell? ⟨w.heap.size + 1, 3, none⟩ = some (.int .i64 pr) := hbs.cell 3; have e4 : w1.cell? ⟨w.heap.size + 1, 4, none⟩ = some (.int .i64 ne) := hbs.cell 4; clear hbs)
          | (go_at_call 45; refine (refIn_any _ _ _ _).mono ?_; rintro e w' ⟨rfl, rfl⟩))
        obtain ⟨_, _, bZ, _, hB2, hz⟩ := HX.out _ hS2
        have bR2 := (bZ.set 0 (.int .i64 0)).set 1 (.int .i64 0)
        have r0 := bR2.cell 0
        have r1 := bR2.cell 1
        simp at r0 r1
        have hB4 := ((hB2.setCell (p := ⟨w.heap.size + 1 + 1, 0, none⟩) (by dsimp only; omega) (.int .i64 0)).setCell (p := ⟨w.heap.size + 1 + 1, 1, none⟩) (by dsimp only; omega) (.int .i64 0))
        refine bodyPost_ret (v := .tuple #[.agg #[.int .i64 0, .int .i64 0], .int .i64 7]) (by simp [results, Tryd.results28, go_sem, r0, r1]) rfl ⟨by rw [HR.out, HE.out], hB4⟩
      · have hE : facesE ⟨ra, rb, rc, rr⟩ ⟨ts, lo, hi, pr, ne⟩ k y = 0 := by rw [hFE]; unfold rangeE; rw [hf]; rfl
        obtain ⟨kn, t, rfl, hkn, ht, hst, hy⟩ := faces_valid hE
        dsimp only at hkn ht
        have HR : Hid (facesR ⟨ra, rb, rc, rr⟩ ⟨ts, lo, hi, pr, ne⟩ kn y = (manyN ⟨ra, rb, rc, rr⟩ t.cr (t.gl + y * rateL ⟨ts, lo, hi, pr, ne⟩ kn), manyN ⟨ra, rb, rc, rr⟩ t.cr (t.gh + y * rateH ⟨ts, lo, hi, pr, ne⟩ kn))) := Lib.hid (by
          unfold facesR; rw [if_pos hE]; simp only [facesAt, Int.toNat_natCast, ht])
        have HE := Lib.hid hE
        have hTa := (HX.out _ hS0).2.2.2.1.at_
        rcases hTa with rfl | ⟨b, off, rfl, _, _⟩
        · exact absurd hkn (by simp)
        have HT := Lib.hid ht
        clear hE hFE hx hzr h0 hr0 ht
        go_enter Tryd.func28, Tryd.ntmps28
        go_wp2_with (first
          | (go_at_call 73; refine (refFacesOf_any ra rb rc rr b off c kn ts lo hi pr ne y t HT.out _ (HX.out _ hS2).2.2.2.1 hst hy).mono ?_; rintro e w3 ⟨rfl, hb3⟩; have hS3 := hS2.trans (hb3.mono (by have := hS2.size; simp at this; omega)); have hbz := (HX.out _ hS3).2.2.1; have u0 : w3.cell? ⟨w.heap.size + 1 + 1, 0, none⟩ = some (.int .i64 0) := hbz.cell 0; have u1 : w3.cell? ⟨w.heap.size + 1 + 1, 1, none⟩ = some (.int .i64 0) := hbz.cell 1; have u2 : w3.frozen? ⟨w.heap.size + 1 + 1, 0, none⟩ = false := hbz.free 0; have u3 : w3.frozen? ⟨w.heap.size + 1 + 1, 1, none⟩ = false := hbz.free 1; clear hbz)
          | (go_at_call 56; refine (asked_any (some ⟨b, off, none⟩) ts.length c ts lo hi pr ne kn _ (HX.out _ hS1).2.2.2.1).mono ?_; rintro e w2 ⟨rfl, hb2⟩; have hS2 := hS1.trans (hb2.mono (by have := hS1.size; simp at this; omega)); rw [← HXE.out]; have hbr := (HX.out _ hS2).1; have d0 : w2.cell? ⟨w.heap.size, 0, none⟩ = some (.int .i64 ra) := hbr.cell 0; have d1 : w2.cell? ⟨w.heap.size, 1, none⟩ = some (.int .i64 rb) := hbr.cell 1; have d2 : w2.cell? ⟨w.heap.size, 2, none⟩ = some (.int .i64 rc) := hbr.cell 2; have d3 : w2.cell? ⟨w.heap.size, 3, none⟩ = some (.int .i64 rr) := hbr.cell 3; clear hbr; have hbs := (HX.out _ hS2).2.1; have e0 : w2.cell? ⟨w.heap.size + 1, 0, none⟩ = some (.slice (some ⟨b, off, none⟩) ts.length c) := hbs.cell 0; have e1 : w2.cell? ⟨w.heap.size + 1, 1, none⟩ = some (.int .i64 lo) := hbs.cell 1; have e2 : w2.cell? ⟨w.heap.size + 1, 2, none⟩ = some (.int .i64 hi) := hbs.cell 2; have e3 : w2.cell? ⟨w.heap.size + 1, 3, none⟩ = some (.int .i64 pr) := hbs.cell 3; have e4 : w2.cell? ⟨w.heap.size + 1, 4, none⟩ = some (.int .i64 ne) := hbs.cell 4; clear hbs)
          | (go_at_call 23; refine (refRule_any ra rb rc rr _).mono ?_; rintro e w1 ⟨rfl, hb1⟩; have hS1 := hS0.trans (hb1.mono (by simp)); rw [← HZE.out]; have hbs := (HX.out _ hS1).2.1; have e0 : w1.cell? ⟨w.heap.size + 1, 0, none⟩ = some (.slice (some ⟨b, off, none⟩) ts.length c) := hbs.cell 0; have e1 : w1.cell? ⟨w.heap.size + 1, 1, none⟩ = some (.int .i64 lo) := hbs.cell 1; have e2 : w1.cell? ⟨w.heap.size + 1, 2, none⟩ = some (.int .i64 hi) := hbs.cell 2; have e3 : w1.cell? ⟨w.heap.size + 1, 3, none⟩ = some (.int .i64 pr) := hbs.cell 3; have e4 : w1.cell? ⟨w.heap.size + 1, 4, none⟩ = some (.int .i64 ne) := hbs.cell 4; clear hbs)
          | (go_at_call 45; refine (refIn_any _ _ _ _).mono ?_; rintro e w' ⟨rfl, rfl⟩))
        obtain ⟨_, _, bZ, _, hB2, hz⟩ := HX.out _ hS3
        have bR2 := (bZ.set 0 (.int .i64 (manyN ⟨ra, rb, rc, rr⟩ t.cr (t.gl + y * rateL ⟨ts, lo, hi, pr, ne⟩ kn)))).set 1 (.int .i64 (manyN ⟨ra, rb, rc, rr⟩ t.cr (t.gh + y * rateH ⟨ts, lo, hi, pr, ne⟩ kn)))
        have r0 := bR2.cell 0
        have r1 := bR2.cell 1
        simp at r0 r1
        have hB4 := ((hB2.setCell (p := ⟨w.heap.size + 1 + 1, 0, none⟩) (by dsimp only; omega) (.int .i64 (manyN ⟨ra, rb, rc, rr⟩ t.cr (t.gl + y * rateL ⟨ts, lo, hi, pr, ne⟩ kn)))).setCell (p := ⟨w.heap.size + 1 + 1, 1, none⟩) (by dsimp only; omega) (.int .i64 (manyN ⟨ra, rb, rc, rr⟩ t.cr (t.gh + y * rateH ⟨ts, lo, hi, pr, ne⟩ kn))))
        refine bodyPost_ret (v := .tuple #[.agg #[.int .i64 (manyN ⟨ra, rb, rc, rr⟩ t.cr (t.gl + y * rateL ⟨ts, lo, hi, pr, ne⟩ kn)), .int .i64 (manyN ⟨ra, rb, rc, rr⟩ t.cr (t.gh + y * rateH ⟨ts, lo, hi, pr, ne⟩ kn))], .int .i64 0]) (by simp [results, Tryd.results28, go_sem, r0, r1]) rfl ⟨by rw [HR.out, HE.out], hB4⟩
    · have q0 : (x != 0) = true := by simpa using h0
      rw [if_neg h0] at hFE
      have HR : Hid (facesR ⟨ra, rb, rc, rr⟩ ⟨ts, lo, hi, pr, ne⟩ k y = (0, 0)) := Lib.hid (by unfold facesR; rw [if_neg (by rw [hFE]; exact h0)])
      have HE := Lib.hid hFE
      clear hFE hx hzr h0 hr0
      go_enter Tryd.func28, Tryd.ntmps28
      go_wp2_with (first
        | (go_at_call 56; refine (asked_any a ts.length c ts lo hi pr ne k _ (HX.out _ hS1).2.2.2.1).mono ?_; rintro e w2 ⟨rfl, hb2⟩; have hS2 := hS1.trans (hb2.mono (by have := hS1.size; simp at this; omega)); rw [← HXE.out]; have hbz := (HX.out _ hS2).2.2.1; have u0 : w2.cell? ⟨w.heap.size + 1 + 1, 0, none⟩ = some (.int .i64 0) := hbz.cell 0; have u1 : w2.cell? ⟨w.heap.size + 1 + 1, 1, none⟩ = some (.int .i64 0) := hbz.cell 1; have u2 : w2.frozen? ⟨w.heap.size + 1 + 1, 0, none⟩ = false := hbz.free 0; have u3 : w2.frozen? ⟨w.heap.size + 1 + 1, 1, none⟩ = false := hbz.free 1; clear hbz)
        | (go_at_call 23; refine (refRule_any ra rb rc rr _).mono ?_; rintro e w1 ⟨rfl, hb1⟩; have hS1 := hS0.trans (hb1.mono (by simp)); rw [← HZE.out]; have hbs := (HX.out _ hS1).2.1; have e0 : w1.cell? ⟨w.heap.size + 1, 0, none⟩ = some (.slice a ts.length c) := hbs.cell 0; have e1 : w1.cell? ⟨w.heap.size + 1, 1, none⟩ = some (.int .i64 lo) := hbs.cell 1; have e2 : w1.cell? ⟨w.heap.size + 1, 2, none⟩ = some (.int .i64 hi) := hbs.cell 2; have e3 : w1.cell? ⟨w.heap.size + 1, 3, none⟩ = some (.int .i64 pr) := hbs.cell 3; have e4 : w1.cell? ⟨w.heap.size + 1, 4, none⟩ = some (.int .i64 ne) := hbs.cell 4; clear hbs))
      obtain ⟨_, _, bZ, _, hB2, hz⟩ := HX.out _ hS2
      have bR2 := (bZ.set 0 (.int .i64 0)).set 1 (.int .i64 0)
      have r0 := bR2.cell 0
      have r1 := bR2.cell 1
      simp at r0 r1
      have hB4 := ((hB2.setCell (p := ⟨w.heap.size + 1 + 1, 0, none⟩) (by dsimp only; omega) (.int .i64 0)).setCell (p := ⟨w.heap.size + 1 + 1, 1, none⟩) (by dsimp only; omega) (.int .i64 0))
      refine bodyPost_ret (v := .tuple #[.agg #[.int .i64 0, .int .i64 0], .int .i64 x]) (by simp [results, Tryd.results28, go_sem, r0, r1]) rfl ⟨by rw [HR.out, HE.out], hB4⟩
  · have qr : (z != 0) = true := by simpa using hr0
    rw [if_neg hr0] at hFE
    have HR : Hid (facesR ⟨ra, rb, rc, rr⟩ ⟨ts, lo, hi, pr, ne⟩ k y = (0, 0)) := Lib.hid (by unfold facesR; rw [if_neg (by rw [hFE]; exact hr0)])
    have HE := Lib.hid hFE
    clear hFE hx hzr hr0
    go_enter Tryd.func28, Tryd.ntmps28
    go_wp2_with (go_at_call 23; refine (refRule_any ra rb rc rr _).mono ?_; rintro e w1 ⟨rfl, hb1⟩; have hS1 := hS0.trans (hb1.mono (by simp)); rw [← HZE.out]; have hbz := (HX.out _ hS1).2.2.1; have u0 : w1.cell? ⟨w.heap.size + 1 + 1, 0, none⟩ = some (.int .i64 0) := hbz.cell 0; have u1 : w1.cell? ⟨w.heap.size + 1 + 1, 1, none⟩ = some (.int .i64 0) := hbz.cell 1; have u2 : w1.frozen? ⟨w.heap.size + 1 + 1, 0, none⟩ = false := hbz.free 0; have u3 : w1.frozen? ⟨w.heap.size + 1 + 1, 1, none⟩ = false := hbz.free 1; clear hbz)
    obtain ⟨_, _, bZ, _, hB2, hz⟩ := HX.out _ hS1
    have bR2 := (bZ.set 0 (.int .i64 0)).set 1 (.int .i64 0)
    have r0 := bR2.cell 0
    have r1 := bR2.cell 1
    simp at r0 r1
    have hB4 := ((hB2.setCell (p := ⟨w.heap.size + 1 + 1, 0, none⟩) (by dsimp only; omega) (.int .i64 0)).setCell (p := ⟨w.heap.size + 1 + 1, 1, none⟩) (by dsimp only; omega) (.int .i64 0))
    refine bodyPost_ret (v := .tuple #[.agg #[.int .i64 0, .int .i64 0], .int .i64 z]) (by simp [results, Tryd.results28, go_sem, r0, r1]) rfl ⟨by rw [HR.out, HE.out], hB4⟩
end Go.Proofs.YtcjmfacdjdegkaaDoor
