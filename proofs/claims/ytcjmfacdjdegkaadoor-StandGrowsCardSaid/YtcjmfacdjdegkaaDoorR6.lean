/- Contracts of the reference: a tree's girth after years, and Girth. Conditions: the trees lie in memory as the model says; tags fit into memory. -/
import Derived.Test.YtcjmfacdjdegkaaDoorR5
import Derived.Test.YtcjmfacdjdegkaaDoorGI
namespace Go.Proofs.YtcjmfacdjdegkaaDoor
open Go Go.RowKit
set_option maxRecDepth 100000 in
set_option maxHeartbeats 2000000 in
theorem refGirthOf_any (b off c kn : Nat) (ts : List Tree) (lo hi pr ne y : Int) (t : Tree) (ht : ts[kn]? = some t) (w : World) (hT : Trees w (some ⟨b, off, none⟩) ts.length c ts) (hst : standB ⟨ts, lo, hi, pr, ne⟩ = true) (hy : 0 ≤ y ∧ y ≤ 200) :
    Calls Tryd.prog 71 #[.agg #[.slice (some ⟨b, off, none⟩) ts.length c, .int .i64 lo, .int .i64 hi, .int .i64 pr, .int .i64 ne], .int .i64 (kn : Int), .int .i64 y] w fun e w' =>
      e = .returned (.agg #[.int .i64 (t.gl + y * rateL ⟨ts, lo, hi, pr, ne⟩ kn), .int .i64 (t.gh + y * rateH ⟨ts, lo, hi, pr, ne⟩ kn)]) ∧ Below w.heap.size w w' := by
  obtain ⟨_, h14, hok, hne1, hne2⟩ := valid_of (s := ⟨ts, lo, hi, pr, ne⟩) (by unfold checkE; rw [if_pos hst])
  dsimp only at h14 hok hne1 hne2
  have hnum : 0 ≤ lo ∧ lo ≤ 100 ∧ 0 ≤ hi ∧ hi ≤ 100 ∧ 0 ≤ pr ∧ pr ≤ 100 := by
    simp only [standB, headB, Bool.and_eq_true, spanB_iff, frB_iff] at hst; omega
  obtain ⟨n1, n2, n3, n4, n5, n6⟩ := hnum
  have hkn : kn < ts.length := (List.getElem?_eq_some_iff.1 ht).1
  obtain ⟨y1, y2⟩ := hy
  obtain ⟨g1, g2, g3, g4⟩ := girth_of hst (List.mem_of_getElem? ht)
  obtain ⟨r1, r2, r3, r4⟩ := rates_of hst kn
  obtain ⟨p1, p2⟩ := mul_le y _ y1 y2 r1 r2
  obtain ⟨p3, p4⟩ := mul_le y _ y1 y2 r3 r4
  have hnl : (nearL ts ne kn).length ≤ ts.length := nearTo_len ts ne kn ts.length
  obtain ⟨m, hm⟩ : ∃ m, m = (nearL ts ne kn).length := ⟨_, rfl⟩
  have HM := Lib.hid hm
  have q1 : 0 ≤ pr * (m : Int) := Int.mul_nonneg n5 (by omega)
  have q2 : pr * (m : Int) ≤ 1400 := by
    have : pr * (m : Int) ≤ 100 * 14 := Int.mul_le_mul n6 (by omega) (by omega) (by omega)
    omega
  have eL : rateL ⟨ts, lo, hi, pr, ne⟩ kn = max 0 (lo - pr * (m : Int)) := by rw [hm]; rfl
  have eH : rateH ⟨ts, lo, hi, pr, ne⟩ kn = max 0 (hi - pr * (m : Int)) := by rw [hm]; rfl
  rw [eL] at p1 p2 r1 r2
  rw [eH] at p3 p4 r3 r4
  rw [eL, eH]
  have HX : Hid (∀ W, Below (w.heap.size + 1 + 1) ((w.alloc (.cells #[.slice (some ⟨b, off, none⟩) ts.length c, .int .i64 lo, .int .i64 hi, .int .i64 pr, .int .i64 ne] 29)).alloc (.cells #[.int .i64 0, .int .i64 0] 27)) W → Box W w.heap.size #[.slice (some ⟨b, off, none⟩) ts.length c, .int .i64 lo, .int .i64 hi, .int .i64 pr, .int .i64 ne] 29 ∧ Box W (w.heap.size + 1) #[.int .i64 0, .int .i64 0] 27 ∧ Trees W (some ⟨b, off, none⟩) ts.length c ts ∧ Below w.heap.size w W ∧ w.heap.size + 1 < W.heap.size) := Lib.hid fun W h => by
    have hB : Below w.heap.size w W := (((Below.refl _ _).alloc (Nat.le_refl _) _).alloc (by simp) _).trans (h.mono (by omega))
    have b1 := Box.new (w.alloc (.cells #[.slice (some ⟨b, off, none⟩) ts.length c, .int .i64 lo, .int .i64 hi, .int .i64 pr, .int .i64 ne] 29)) #[.int .i64 0, .int .i64 0] 27
    rw [World.size_alloc] at b1
    exact ⟨((Box.new w _ _).alloc _).below h (by omega), b1.below h (by omega), hT.below hB, hB, by have := h.size; simp at this; omega⟩
  have HOK := Lib.hid hok
  have HT := Lib.hid ht
  clear hT hok ht eL eH hm hst hnl
  have hS0 : Below (w.heap.size + 1 + 1) ((w.alloc (.cells #[.slice (some ⟨b, off, none⟩) ts.length c, .int .i64 lo, .int .i64 hi, .int .i64 pr, .int .i64 ne] 29)).alloc (.cells #[.int .i64 0, .int .i64 0] 27)) (World.drew ((w.alloc (.cells #[.slice (some ⟨b, off, none⟩) ts.length c, .int .i64 lo, .int .i64 hi, .int .i64 pr, .int .i64 ne] 29)).alloc (.cells #[.int .i64 0, .int .i64 0] 27))) := (Below.refl _ _).drew
  go_enter Tryd.func71, Tryd.ntmps71
  go_wp2_with fail
  refine region_seq (fun W => Below (w.heap.size + 1 + 1) ((w.alloc (.cells #[.slice (some ⟨b, off, none⟩) ts.length c, .int .i64 lo, .int .i64 hi, .int .i64 pr, .int .i64 ne] 29)).alloc (.cells #[.int .i64 0, .int .i64 0] 27)) W) [(0, true), (1, true), (2, true), (3, true), (4, false), (5, true), (6, true), (7, true)]
    (by kernel_rfl) (by kernel_rfl) (by kernel_rfl) (by simp) (fun _ _ _ _ h => h) hS0 ?_
  (refine SeqW.take (v := ?_) rfl (by rfl) (fun W hW => ?_) ?_; rotate_left; (go_simp; with_reducible rfl); simp only [Act.put, List.setIfInBounds_toArray, List.set_cons_zero, List.set_cons_succ])
  (refine SeqW.take (v := ?_) rfl (by rfl) (fun W hW => ?_) ?_; rotate_left; (obtain ⟨q0, _⟩ := HX.out W hW; have b0 : W.cell? ⟨w.heap.size, 0, none⟩ = some (.slice (some ⟨b, off, none⟩) ts.length c) := q0.cell 0; have b1 : W.cell? ⟨w.heap.size, 1, none⟩ = some (.int .i64 lo) := q0.cell 1; have b2 : W.cell? ⟨w.heap.size, 2, none⟩ = some (.int .i64 hi) := q0.cell 2; have b3 : W.cell? ⟨w.heap.size, 3, none⟩ = some (.int .i64 pr) := q0.cell 3; have b4 : W.cell? ⟨w.heap.size, 4, none⟩ = some (.int .i64 ne) := q0.cell 4; clear q0 hW; go_simp; with_reducible rfl); simp only [Act.put, List.setIfInBounds_toArray, List.set_cons_zero, List.set_cons_succ])
  (refine SeqW.take (v := ?_) rfl (by rfl) (fun W hW => ?_) ?_; rotate_left; (obtain ⟨q0, _⟩ := HX.out W hW; have b0 : W.cell? ⟨w.heap.size, 0, none⟩ = some (.slice (some ⟨b, off, none⟩) ts.length c) := q0.cell 0; have b1 : W.cell? ⟨w.heap.size, 1, none⟩ = some (.int .i64 lo) := q0.cell 1; have b2 : W.cell? ⟨w.heap.size, 2, none⟩ = some (.int .i64 hi) := q0.cell 2; have b3 : W.cell? ⟨w.heap.size, 3, none⟩ = some (.int .i64 pr) := q0.cell 3; have b4 : W.cell? ⟨w.heap.size, 4, none⟩ = some (.int .i64 ne) := q0.cell 4; clear q0 hW; go_simp; with_reducible rfl); simp only [Act.put, List.setIfInBounds_toArray, List.set_cons_zero, List.set_cons_succ])
  (refine SeqW.take (v := ?_) rfl (by rfl) (fun W hW => ?_) ?_; rotate_left; (go_simp; with_reducible rfl); simp only [Act.put, List.setIfInBounds_toArray, List.set_cons_zero, List.set_cons_succ])
  refine SeqW.call rfl (by rfl) (fun K hK => ?_); go_simp
  refine (refNear_in (some ⟨b, off, none⟩) c ts lo hi pr ne kn _ (HX.out _ hS0).2.2.1 HOK.out ⟨hne1, hne2⟩ h14 hkn).mono ?_
  rintro e w2 ⟨v, rfl, hv2, hb2⟩
  obtain ⟨va, vc, rfl⟩ := row_form hv2
  clear hv2
  rw [← HM.out]
  have hS2 := hS0.trans (hb2.mono (by simp))
  clear hb2
  go_simp
  refine hK.out _ _ hS2 ?_
  clear hK K
  iterate 3 (refine SeqW.take (v := ?_) rfl (by rfl) (fun W hW => ?_) ?_; rotate_left; (go_simp; with_reducible rfl); simp only [Act.put, List.setIfInBounds_toArray, List.set_cons_zero, List.set_cons_succ])
  refine SeqW.done ?_
  obtain ⟨bS, bZ, hTw, hB2, hz⟩ := HX.out _ hS2
  obtain ⟨tlen, tat, ttags, tfits, tcap⟩ := hTw
  rcases tat with tn | ⟨b', off', tn, hbl, hTA⟩
  · subst tn; exact absurd hkn (by simp)
  cases tn
  have hTb : ∀ o, TreesAt (w2.alloc o) b off ts := fun o => hTA.alloc hbl o
  have hA := hTA kn t HT.out
  obtain ⟨c0, c1, c2, c3, c4, c5⟩ := hA
  have f0 : w2.cell? ⟨w.heap.size, 0, none⟩ = some (.slice (some ⟨b, off, none⟩) ts.length c) := bS.cell 0
  have f1 : ∀ o, (w2.alloc o).cell? ⟨w.heap.size, 1, none⟩ = some (.int .i64 lo) := fun o => (bS.alloc o).cell 1
  have f2 : ∀ o, (w2.alloc o).cell? ⟨w.heap.size, 2, none⟩ = some (.int .i64 hi) := fun o => (bS.alloc o).cell 2
  have z0 : ∀ o, (w2.alloc o).cell? ⟨w.heap.size + 1, 0, none⟩ = some (.int .i64 0) := fun o => (bZ.alloc o).cell 0
  have z1 : ∀ o, (w2.alloc o).cell? ⟨w.heap.size + 1, 1, none⟩ = some (.int .i64 0) := fun o => (bZ.alloc o).cell 1
  have z2 : ∀ o, (w2.alloc o).frozen? ⟨w.heap.size + 1, 0, none⟩ = false := fun o => (bZ.alloc o).free 0
  have z3 : ∀ o, (w2.alloc o).frozen? ⟨w.heap.size + 1, 1, none⟩ = false := fun o => (bZ.alloc o).free 1
  have u0 : w2.cell? ⟨w.heap.size + 1, 0, none⟩ = some (.int .i64 0) := bZ.cell 0
  have u1 : w2.cell? ⟨w.heap.size + 1, 1, none⟩ = some (.int .i64 0) := bZ.cell 1
  have u2 : w2.frozen? ⟨w.heap.size + 1, 0, none⟩ = false := bZ.free 0
  have u3 : w2.frozen? ⟨w.heap.size + 1, 1, none⟩ = false := bZ.free 1
  clear hTb ttags
  go_wp2_with fail
  have bR2 := (bZ.set 0 (.int .i64 (t.gl + y * max 0 (lo - pr * (m : Int))))).set 1 (.int .i64 (t.gh + y * max 0 (hi - pr * (m : Int))))
  have bR3 := bR2.alloc (.cells #[.int .i64 t.gl, .int .i64 t.gh] 27)
  have r0 := bR3.cell 0
  have r1 := bR3.cell 1
  simp only [List.setIfInBounds_toArray, List.set_cons_zero, List.set_cons_succ, List.getElem?_toArray, List.getElem?_cons_zero, List.getElem?_cons_succ] at r0 r1
  clear u0 u1 u2 u3 z0 z1 z2 z3 f0 f1 f2
  have hB4 := ((hB2.setCell (p := ⟨w.heap.size + 1, 0, none⟩) (by dsimp only; omega) (.int .i64 (t.gl + y * max 0 (lo - pr * (m : Int))))).setCell (p := ⟨w.heap.size + 1, 1, none⟩) (by dsimp only; omega) (.int .i64 (t.gh + y * max 0 (hi - pr * (m : Int))))).alloc (by simp; omega) (.cells #[.int .i64 t.gl, .int .i64 t.gh] 27)
  refine bodyPost_ret (v := .agg #[.int .i64 (t.gl + y * max 0 (lo - pr * (m : Int))), .int .i64 (t.gh + y * max 0 (hi - pr * (m : Int)))]) (by simp [results, Tryd.results71, go_sem, r0, r1]) rfl ⟨rfl, hB4⟩
theorem girthE_near (s : Stand) (k y : Int) : girthE s k y = if nearE s k = 0 then rangeE y 0 200 else nearE s k := by
  unfold girthE nearE
  simp only [orE]
  by_cases h1 : checkE s = 0
  · by_cases h2 : treeE s.ts.length k = 0
    · simp [h1, h2]; intro h; exact h.symm
    · simp [h1, h2]
  · simp [h1]
set_option maxRecDepth 100000 in
set_option maxHeartbeats 2000000 in
theorem refGirth_any (a : Option Addr) (n c : Nat) (ts : List Tree) (lo hi pr ne k y : Int) (w : World) (hT : Trees w a n c ts) :
    Calls Tryd.prog 26 #[.agg #[.slice a n c, .int .i64 lo, .int .i64 hi, .int .i64 pr, .int .i64 ne], .int .i64 k, .int .i64 y] w fun e w' =>
      e = .returned (.tuple #[.agg #[.int .i64 (girthR ⟨ts, lo, hi, pr, ne⟩ k y).1, .int .i64 (girthR ⟨ts, lo, hi, pr, ne⟩ k y).2], .int .i64 (girthE ⟨ts, lo, hi, pr, ne⟩ k y)]) ∧ Below w.heap.size w w' := by
  have hn := hT.len
  subst hn
  have HX : Hid (∀ W, Below (w.heap.size + 1 + 1) ((w.alloc (.cells #[.slice a ts.length c, .int .i64 lo, .int .i64 hi, .int .i64 pr, .int .i64 ne] 29)).alloc (.cells #[.int .i64 0, .int .i64 0] 27)) W → Box W w.heap.size #[.slice a ts.length c, .int .i64 lo, .int .i64 hi, .int .i64 pr, .int .i64 ne] 29 ∧ Box W (w.heap.size + 1) #[.int .i64 0, .int .i64 0] 27 ∧ Trees W a ts.length c ts ∧ Below w.heap.size w W ∧ w.heap.size + 1 < W.heap.size) := Lib.hid fun W h => by
    have hB : Below w.heap.size w W := (((Below.refl _ _).alloc (Nat.le_refl _) _).alloc (by simp) _).trans (h.mono (by omega))
    have b1 := Box.new (w.alloc (.cells #[.slice a ts.length c, .int .i64 lo, .int .i64 hi, .int .i64 pr, .int .i64 ne] 29)) #[.int .i64 0, .int .i64 0] 27
    rw [World.size_alloc] at b1
    exact ⟨((Box.new w _ _).alloc _).below h (by omega), b1.below h (by omega), hT.below hB, hB, by have := h.size; simp at this; omega⟩
  have hS0 : Below (w.heap.size + 1 + 1) ((w.alloc (.cells #[.slice a ts.length c, .int .i64 lo, .int .i64 hi, .int .i64 pr, .int .i64 ne] 29)).alloc (.cells #[.int .i64 0, .int .i64 0] 27)) ((w.alloc (.cells #[.slice a ts.length c, .int .i64 lo, .int .i64 hi, .int .i64 pr, .int .i64 ne] 29)).alloc (.cells #[.int .i64 0, .int .i64 0] 27)) := Below.refl _ _
  clear hT
  obtain ⟨x, hx⟩ : ∃ x, x = nearE ⟨ts, lo, hi, pr, ne⟩ k := ⟨_, rfl⟩
  have HXE := Lib.hid hx
  have hGE := girthE_near ⟨ts, lo, hi, pr, ne⟩ k y
  rw [← hx] at hGE
  by_cases h0 : x = 0
  · have q0 : (x != 0) = false := by simpa using h0
    rw [if_pos h0] at hGE
    rcases hf : frB y 0 200 with _ | _
    · have hE : girthE ⟨ts, lo, hi, pr, ne⟩ k y = 7 := by rw [hGE]; unfold rangeE; rw [hf]; rfl
      have HR : Hid (girthR ⟨ts, lo, hi, pr, ne⟩ k y = (0, 0)) := Lib.hid (by unfold girthR; rw [if_neg (by rw [hE]; omega)])
      have HE := Lib.hid hE
      clear hE hGE hx h0
      go_enter Tryd.func26, Tryd.ntmps26
      go_wp2_with (first
        | (go_at_call 56; refine (asked_any a ts.length c ts lo hi pr ne k _ (HX.out _ hS0).2.2.1).mono ?_; rintro e w2 ⟨rfl, hb2⟩; have hS2 := hS0.trans (hb2.mono (by simp)); have hbx := (HX.out _ hS2).2.1; have u0 : w2.cell? ⟨w.heap.size + 1, 0, none⟩ = some (.int .i64 0) := hbx.cell 0; have u1 : w2.cell? ⟨w.heap.size + 1, 1, none⟩ = some (.int .i64 0) := hbx.cell 1; have u2 : w2.frozen? ⟨w.heap.size + 1, 0, none⟩ = false := hbx.free 0; have u3 : w2.frozen? ⟨w.heap.size + 1, 1, none⟩ = false := hbx.free 1; rw [← HXE.out]; clear hbx)
        | (go_at_call 45; refine (refIn_any _ _ _ _).mono ?_; rintro e w' ⟨rfl, rfl⟩))
      obtain ⟨_, bZ, _, hB2, hz⟩ := HX.out _ hS2
      have bR2 := (bZ.set 0 (.int .i64 0)).set 1 (.int .i64 0)
      have r0 := bR2.cell 0
      have r1 := bR2.cell 1
      simp at r0 r1
      have hB4 := ((hB2.setCell (p := ⟨w.heap.size + 1, 0, none⟩) (by dsimp only; omega) (.int .i64 0)).setCell (p := ⟨w.heap.size + 1, 1, none⟩) (by dsimp only; omega) (.int .i64 0))
      refine bodyPost_ret (v := .tuple #[.agg #[.int .i64 0, .int .i64 0], .int .i64 7]) (by simp [results, Tryd.results26, go_sem, r0, r1]) rfl ⟨by rw [HR.out, HE.out], hB4⟩
    · have hE : girthE ⟨ts, lo, hi, pr, ne⟩ k y = 0 := by rw [hGE]; unfold rangeE; rw [hf]; rfl
      obtain ⟨kn, t, rfl, hkn, ht, hst, hy⟩ := girth_valid hE
      dsimp only at hkn ht
      have HR : Hid (girthR ⟨ts, lo, hi, pr, ne⟩ kn y = (t.gl + y * rateL ⟨ts, lo, hi, pr, ne⟩ kn, t.gh + y * rateH ⟨ts, lo, hi, pr, ne⟩ kn)) := Lib.hid (by
        unfold girthR; rw [if_pos hE]; simp only [girthAt, Int.toNat_natCast, ht])
      have HE := Lib.hid hE
      have hTa := (HX.out _ hS0).2.2.1.at_
      rcases hTa with rfl | ⟨b, off, rfl, _, _⟩
      · exact absurd hkn (by simp)
      have HT := Lib.hid ht
      clear hE hGE hx h0 ht
      go_enter Tryd.func26, Tryd.ntmps26
      go_wp2_with (first
        | (go_at_call 71; refine (refGirthOf_any b off c kn ts lo hi pr ne y t HT.out _ (HX.out _ hS2).2.2.1 hst hy).mono ?_; rintro e w3 ⟨rfl, hb3⟩; have hS3 := hS2.trans (hb3.mono (by have := hS2.size; simp at this; omega)); have hby := (HX.out _ hS3).2.1; have v0 : w3.cell? ⟨w.heap.size + 1, 0, none⟩ = some (.int .i64 0) := hby.cell 0; have v1 : w3.cell? ⟨w.heap.size + 1, 1, none⟩ = some (.int .i64 0) := hby.cell 1; have v2 : w3.frozen? ⟨w.heap.size + 1, 0, none⟩ = false := hby.free 0; have v3 : w3.frozen? ⟨w.heap.size + 1, 1, none⟩ = false := hby.free 1; clear hby)
        | (go_at_call 56; refine (asked_any (some ⟨b, off, none⟩) ts.length c ts lo hi pr ne kn _ (HX.out _ hS0).2.2.1).mono ?_; rintro e w2 ⟨rfl, hb2⟩; have hS2 := hS0.trans (hb2.mono (by simp)); have hbx := (HX.out _ hS2).1; have e0 : w2.cell? ⟨w.heap.size, 0, none⟩ = some (.slice (some ⟨b, off, none⟩) ts.length c) := hbx.cell 0; have e1 : w2.cell? ⟨w.heap.size, 1, none⟩ = some (.int .i64 lo) := hbx.cell 1; have e2 : w2.cell? ⟨w.heap.size, 2, none⟩ = some (.int .i64 hi) := hbx.cell 2; have e3 : w2.cell? ⟨w.heap.size, 3, none⟩ = some (.int .i64 pr) := hbx.cell 3; have e4 : w2.cell? ⟨w.heap.size, 4, none⟩ = some (.int .i64 ne) := hbx.cell 4; rw [← HXE.out]; clear hbx)
        | (go_at_call 45; refine (refIn_any _ _ _ _).mono ?_; rintro e w' ⟨rfl, rfl⟩))
      obtain ⟨_, bZ, _, hB2, hz⟩ := HX.out _ hS3
      have bR2 := (bZ.set 0 (.int .i64 (t.gl + y * rateL ⟨ts, lo, hi, pr, ne⟩ kn))).set 1 (.int .i64 (t.gh + y * rateH ⟨ts, lo, hi, pr, ne⟩ kn))
      have r0 := bR2.cell 0
      have r1 := bR2.cell 1
      simp at r0 r1
      have hB4 := ((hB2.setCell (p := ⟨w.heap.size + 1, 0, none⟩) (by dsimp only; omega) (.int .i64 (t.gl + y * rateL ⟨ts, lo, hi, pr, ne⟩ kn))).setCell (p := ⟨w.heap.size + 1, 1, none⟩) (by dsimp only; omega) (.int .i64 (t.gh + y * rateH ⟨ts, lo, hi, pr, ne⟩ kn)))
      refine bodyPost_ret (v := .tuple #[.agg #[.int .i64 (t.gl + y * rateL ⟨ts, lo, hi, pr, ne⟩ kn), .int .i64 (t.gh + y * rateH ⟨ts, lo, hi, pr, ne⟩ kn)], .int .i64 0]) (by simp [results, Tryd.results26, go_sem, r0, r1]) rfl ⟨by rw [HR.out, HE.out], hB4⟩
  · have q0 : (x != 0) = true := by simpa using h0
    rw [if_neg h0] at hGE
    have HR : Hid (girthR ⟨ts, lo, hi, pr, ne⟩ k y = (0, 0)) := Lib.hid (by unfold girthR; rw [if_neg (by rw [hGE]; exact h0)])
    have HE := Lib.hid hGE
    clear hGE hx h0
    go_enter Tryd.func26, Tryd.ntmps26
    go_wp2_with (go_at_call 56; refine (asked_any a ts.length c ts lo hi pr ne k _ (HX.out _ hS0).2.2.1).mono ?_; rintro e w2 ⟨rfl, hb2⟩; have hS2 := hS0.trans (hb2.mono (by simp)); have hbx := (HX.out _ hS2).2.1; have u0 : w2.cell? ⟨w.heap.size + 1, 0, none⟩ = some (.int .i64 0) := hbx.cell 0; have u1 : w2.cell? ⟨w.heap.size + 1, 1, none⟩ = some (.int .i64 0) := hbx.cell 1; have u2 : w2.frozen? ⟨w.heap.size + 1, 0, none⟩ = false := hbx.free 0; have u3 : w2.frozen? ⟨w.heap.size + 1, 1, none⟩ = false := hbx.free 1; rw [← HXE.out]; clear hbx)
    obtain ⟨_, bZ, _, hB2, hz⟩ := HX.out _ hS2
    have bR2 := (bZ.set 0 (.int .i64 0)).set 1 (.int .i64 0)
    have r0 := bR2.cell 0
    have r1 := bR2.cell 1
    simp at r0 r1
    have hB4 := ((hB2.setCell (p := ⟨w.heap.size + 1, 0, none⟩) (by dsimp only; omega) (.int .i64 0)).setCell (p := ⟨w.heap.size + 1, 1, none⟩) (by dsimp only; omega) (.int .i64 0))
    refine bodyPost_ret (v := .tuple #[.agg #[.int .i64 0, .int .i64 0], .int .i64 x]) (by simp [results, Tryd.results26, go_sem, r0, r1]) rfl ⟨by rw [HR.out, HE.out], hB4⟩
end Go.Proofs.YtcjmfacdjdegkaaDoor
