/- Contracts of package stand's Girth, Faces and Ready: what the chapter says, or the code of an error. Conditions: the trees lie in memory as the model says; tags fit into memory. -/
import Derived.Test.YtpkjjiieglebbaaDoorH
namespace Go.Proofs.YtpkjjiieglebbaaDoor
open Go Go.RowKit
/-- What is known of a tree of a stand that is checked. -/
theorem rates_of {s : Stand} (hv : standB s = true) (k : Nat) : 0 ≤ rateL s k ∧ rateL s k ≤ 100 ∧ 0 ≤ rateH s k ∧ rateH s k ≤ 100 := by
  have hnum : s.lo ≤ 100 ∧ s.hi ≤ 100 ∧ 0 ≤ s.press := by
    simp only [standB, headB, Bool.and_eq_true, spanB_iff, frB_iff] at hv; omega
  have hq : 0 ≤ takenN s k := Int.mul_nonneg hnum.2.2 (by omega)
  unfold rateL rateH
  omega
theorem girth_of {s : Stand} (hv : standB s = true) {t : Tree} (ht : t ∈ s.ts) : 0 ≤ t.gl ∧ t.gl ≤ 4000 ∧ 0 ≤ t.gh ∧ t.gh ≤ 4000 := by
  have h := treesB_ok [] s.ts (by simp only [standB, Bool.and_eq_true] at hv; exact hv.2) t ht
  simp only [treeB, Bool.and_eq_true, spanB_iff] at h
  omega
def girthE (s : Stand) (k y : Int) : Int := orE [checkE s, treeE s.ts.length k, rangeE y 0 200]
def girthAt (s : Stand) (k y : Int) : Int × Int := match s.ts[k.toNat]? with
  | some t => (t.gl + y * rateL s k.toNat, t.gh + y * rateH s k.toNat)
  | none => (0, 0)
def girthR (s : Stand) (k y : Int) : Int × Int := if girthE s k y = 0 then girthAt s k y else (0, 0)
theorem girth_valid {s : Stand} {k y : Int} (h : girthE s k y = 0) : ∃ (kn : Nat) (t : Tree), k = kn ∧ kn < s.ts.length ∧ s.ts[kn]? = some t ∧ standB s = true ∧ 0 ≤ y ∧ y ≤ 200 := by
  obtain ⟨h1, h2⟩ := orE_cons_zero h
  obtain ⟨h2, h3⟩ := orE_cons_zero h2
  obtain ⟨h3, _⟩ := orE_cons_zero h3
  obtain ⟨a, b⟩ := tree_valid h2
  have hy : 0 ≤ y ∧ y ≤ 200 := by
    unfold rangeE at h3; split at h3
    · rename_i h4; exact frB_iff.1 h4
    · omega
  exact ⟨k.toNat, s.ts[k.toNat]'(by omega), by omega, by omega, List.getElem?_eq_getElem (by omega), (valid_of h1).1, hy⟩
set_option maxRecDepth 100000 in
set_option maxHeartbeats 2000000 in
theorem girth_any (a : Option Addr) (n c : Nat) (ts : List Tree) (lo hi pr ne k y : Int) (w : World) (hT : Trees w a n c ts) :
    Calls Tryd.prog 25 #[.agg #[.slice a n c, .int .i64 lo, .int .i64 hi, .int .i64 pr, .int .i64 ne], .int .i64 k, .int .i64 y] w fun e w' =>
      e = .returned (.tuple #[.agg #[.int .i64 (girthR ⟨ts, lo, hi, pr, ne⟩ k y).1, .int .i64 (girthR ⟨ts, lo, hi, pr, ne⟩ k y).2], .int .i64 (girthE ⟨ts, lo, hi, pr, ne⟩ k y)]) ∧ Below w.heap.size w w' := by
  have hT0 := hT
  obtain ⟨hn, hat, htags, hfit, hcap⟩ := hT
  have HN := Lib.hid hn
  clear hn
  have HX : Hid (∀ W, Below (w.heap.size + 1 + 1) ((w.alloc (.cells #[.slice a n c, .int .i64 lo, .int .i64 hi, .int .i64 pr, .int .i64 ne] 29)).alloc (.cells #[.int .i64 0, .int .i64 0] 27)) W → Box W w.heap.size #[.slice a n c, .int .i64 lo, .int .i64 hi, .int .i64 pr, .int .i64 ne] 29 ∧ Box W (w.heap.size + 1) #[.int .i64 0, .int .i64 0] 27 ∧ Trees W a n c ts ∧ w.heap.size + 1 < W.heap.size ∧ Below w.heap.size w W) := Lib.hid fun W h => by
    have hB : Below w.heap.size w W := (((Below.refl _ _).alloc (Nat.le_refl _) _).alloc (by simp) _).trans (h.mono (by omega))
    have b1 := Box.new (w.alloc (.cells #[.slice a n c, .int .i64 lo, .int .i64 hi, .int .i64 pr, .int .i64 ne] 29)) #[.int .i64 0, .int .i64 0] 27
    rw [World.size_alloc] at b1
    exact ⟨((Box.new w _ _).alloc _).below h (by omega), b1.below h (by omega), hT0.below hB, by have := h.size; simp at this; omega, hB⟩
  go_enter Tryd.func25, Tryd.ntmps25
  go_wp2_with fail
  refine region_seq (fun W => Below (w.heap.size + 1 + 1) ((w.alloc (.cells #[.slice a n c, .int .i64 lo, .int .i64 hi, .int .i64 pr, .int .i64 ne] 29)).alloc (.cells #[.int .i64 0, .int .i64 0] 27)) W) [(0, true), (2, true), (3, true), (5, true), (1, false), (4, false), (6, false), (7, false), (8, false), (9, true)]
    (by kernel_rfl) (by kernel_rfl) (by kernel_rfl) (by simp) (fun _ _ _ _ h => h) (Below.refl _ _).drew ?_
  (refine SeqW.take (v := ?_) rfl (by rfl) (fun W hW => ?_) ?_; rotate_left; (obtain ⟨q0, _⟩ := HX.out W hW; have b0 : W.cell? ⟨w.heap.size, 0, none⟩ = some (.slice a n c) := q0.cell 0; have b1 : W.cell? ⟨w.heap.size, 1, none⟩ = some (.int .i64 lo) := q0.cell 1; have b2 : W.cell? ⟨w.heap.size, 2, none⟩ = some (.int .i64 hi) := q0.cell 2; have b3 : W.cell? ⟨w.heap.size, 3, none⟩ = some (.int .i64 pr) := q0.cell 3; have b4 : W.cell? ⟨w.heap.size, 4, none⟩ = some (.int .i64 ne) := q0.cell 4; clear q0 hW; go_simp; with_reducible rfl); simp only [Act.put, List.setIfInBounds_toArray, List.set_cons_zero, List.set_cons_succ])
  (refine SeqW.take (v := ?_) rfl (by rfl) (fun W hW => ?_) ?_; rotate_left; (obtain ⟨q0, _⟩ := HX.out W hW; have b0 : W.cell? ⟨w.heap.size, 0, none⟩ = some (.slice a n c) := q0.cell 0; have b1 : W.cell? ⟨w.heap.size, 1, none⟩ = some (.int .i64 lo) := q0.cell 1; have b2 : W.cell? ⟨w.heap.size, 2, none⟩ = some (.int .i64 hi) := q0.cell 2; have b3 : W.cell? ⟨w.heap.size, 3, none⟩ = some (.int .i64 pr) := q0.cell 3; have b4 : W.cell? ⟨w.heap.size, 4, none⟩ = some (.int .i64 ne) := q0.cell 4; clear q0 hW; go_simp; with_reducible rfl); simp only [Act.put, List.setIfInBounds_toArray, List.set_cons_zero, List.set_cons_succ])
  iterate 2 (refine SeqW.take (v := ?_) rfl (by rfl) (fun W hW => ?_) ?_; rotate_left; (go_simp; with_reducible rfl); simp only [Act.put, List.setIfInBounds_toArray, List.set_cons_zero, List.set_cons_succ])
  refine SeqW.call rfl (by rfl) (fun K hK => ?_); go_simp
  refine (check_any a n c ts lo hi pr ne _ (HX.out _ (Below.refl _ _).drew).2.2.1).mono ?_
  rintro e w2 ⟨rfl, hb2⟩
  have hS2 : Below (w.heap.size + 1 + 1) ((w.alloc (.cells #[.slice a n c, .int .i64 lo, .int .i64 hi, .int .i64 pr, .int .i64 ne] 29)).alloc (.cells #[.int .i64 0, .int .i64 0] 27)) w2 := ((Below.refl _ _).drew).trans (hb2.mono (by simp))
  go_simp
  refine hK.out _ _ hS2 ?_
  clear hK K hb2
  refine SeqW.call rfl (by rfl) (fun K hK => ?_); go_simp
  refine (checkTree_any a n c lo hi pr ne k _ hfit).mono ?_
  rintro e w3 ⟨rfl, hb3⟩
  have hS3 : Below (w.heap.size + 1 + 1) ((w.alloc (.cells #[.slice a n c, .int .i64 lo, .int .i64 hi, .int .i64 pr, .int .i64 ne] 29)).alloc (.cells #[.int .i64 0, .int .i64 0] 27)) w3 := hS2.trans (hb3.mono (by have := hS2.size; simpa using this))
  go_simp
  refine hK.out _ _ hS3 ?_
  clear hK K hb3
  refine SeqW.call rfl (by rfl) (fun K hK => ?_); go_simp
  refine (checkRange_any y 0 200 _).mono ?_
  rintro e w' ⟨rfl, rfl⟩
  go_simp
  refine hK.out _ _ hS3 ?_
  clear hK K
  refine SeqW.call rfl (by rfl) (fun K hK => ?_); go_simp
  have hS4 : Below (w.heap.size + 1 + 1) ((w.alloc (.cells #[.slice a n c, .int .i64 lo, .int .i64 hi, .int .i64 pr, .int .i64 ne] 29)).alloc (.cells #[.int .i64 0, .int .i64 0] 27)) (w3.alloc (.cells #[.int .i64 (checkE ⟨ts, lo, hi, pr, ne⟩), .int .i64 (treeE (n : Int) k), .int .i64 (rangeE y 0 200)] 31)) := hS3.alloc (by have := hS3.size; simp at this; omega) _
  have hBx := Box.new w3 #[.int .i64 (checkE ⟨ts, lo, hi, pr, ne⟩), .int .i64 (treeE (n : Int) k), .int .i64 (rangeE y 0 200)] 31
  refine hK.out _ _ hS4 ?_
  clear hK K
  refine SeqW.call rfl (by rfl) (fun K hK => ?_); go_simp
  refine (cmpOr_any [checkE ⟨ts, lo, hi, pr, ne⟩, treeE (n : Int) k, rangeE y 0 200] _ _ _ _ (fun i hi => by
    match i, hi with
    | 0, _ => exact hBx.cell 0
    | 1, _ => exact hBx.cell 1
    | 2, _ => exact hBx.cell 2) rfl (by simp)).mono ?_
  rintro e w' ⟨rfl, rfl⟩
  go_simp
  refine hK.out _ _ hS4 ?_
  clear hK K
  have HE : Hid (orE [checkE ⟨ts, lo, hi, pr, ne⟩, treeE (n : Int) k, rangeE y 0 200] = girthE ⟨ts, lo, hi, pr, ne⟩ k y) := Lib.hid (by rw [HN.out]; rfl)
  rw [HE.out]
  (refine SeqW.take (v := ?_) rfl (by rfl) (fun W hW => ?_) ?_; rotate_left; (go_simp; with_reducible rfl); simp only [Act.put, List.setIfInBounds_toArray, List.set_cons_zero, List.set_cons_succ])
  refine SeqW.done ?_
  obtain ⟨x, hx⟩ : ∃ x, x = girthE ⟨ts, lo, hi, pr, ne⟩ k y := ⟨_, rfl⟩
  rw [← hx]
  have HXE := Lib.hid hx
  generalize hw4 : w3.alloc (.cells #[.int .i64 (checkE ⟨ts, lo, hi, pr, ne⟩), .int .i64 (treeE (n : Int) k), .int .i64 (rangeE y 0 200)] 31) = w4 at hS4 ⊢
  clear hBx hw4 hS3 hS2 hx
  obtain ⟨qB, qR, qT, qz, qb⟩ := HX.out w4 hS4
  have y0 : w4.cell? ⟨w.heap.size + 1, 0, none⟩ = some (.int .i64 0) := qR.cell 0
  have y1 : w4.cell? ⟨w.heap.size + 1, 1, none⟩ = some (.int .i64 0) := qR.cell 1
  have y2 : w4.frozen? ⟨w.heap.size + 1, 0, none⟩ = false := qR.free 0
  have y3 : w4.frozen? ⟨w.heap.size + 1, 1, none⟩ = false := qR.free 1
  rcases h0 : (x != 0) with _ | _
  · have hx0 : x = 0 := by simpa using h0
    have hxE : girthE ⟨ts, lo, hi, pr, ne⟩ k y = 0 := by rw [← HXE.out]; exact hx0
    obtain ⟨kn, t, rfl, hkn, ht, hst, y1', y2'⟩ := girth_valid hxE
    dsimp only at hkn ht
    obtain ⟨rate1, rate2, rate3, rate4⟩ := rates_of hst kn
    have hgt := girth_of hst (List.mem_of_getElem? ht)
    have HR : Hid (girthR ⟨ts, lo, hi, pr, ne⟩ kn y = (t.gl + y * rateL ⟨ts, lo, hi, pr, ne⟩ kn, t.gh + y * rateH ⟨ts, lo, hi, pr, ne⟩ kn)) := Lib.hid (by
      unfold girthR; rw [if_pos hxE]; simp only [girthAt, Int.toNat_natCast, ht])
    obtain ⟨tlen, tat, ttags, tfits, tcap⟩ := qT
    subst tlen
    rcases tat with rfl | ⟨b, off, rfl, hbl, hTA⟩
    · simp at hkn
    have c0 : w4.cell? ⟨w.heap.size, 0, none⟩ = some (.slice (some ⟨b, off, none⟩) ts.length c) := qB.cell 0
    have c1 : w4.cell? ⟨w.heap.size, 1, none⟩ = some (.int .i64 lo) := qB.cell 1
    have c2 : w4.cell? ⟨w.heap.size, 2, none⟩ = some (.int .i64 hi) := qB.cell 2
    have c3 : w4.cell? ⟨w.heap.size, 3, none⟩ = some (.int .i64 pr) := qB.cell 3
    have c4 : w4.cell? ⟨w.heap.size, 4, none⟩ = some (.int .i64 ne) := qB.cell 4
    clear hat HX hS4 HE hT0 HN ttags htags tfits y0 y1 y2 y3
    go_wp2_with (first
      | (go_at_call 69; refine (callsIn_wide.1 (grow_in 6 (by omega) b off c kn ts lo hi pr ne _ t ht hTA hbl hkn hst)).mono ?_; rintro e w5 ⟨rfl, hb5⟩)
      | (go_at_call 70; refine (girthAfter_any _ _ _ _ _ _ _ _ _ _ ⟨y1', y2'⟩ ⟨rate1, rate2, rate3, rate4⟩ hgt).mono ?_; rintro e w6 ⟨rfl, hb6⟩; have qR6 := (qR.below hb5 qz).below hb6 (by have := hb5.size; omega); have z0 := qR6.cell 0; have z1 := qR6.cell 1; have z2 := qR6.free 0; have z3 := qR6.free 1; simp at z0 z1 z2 z3))
    have bR2 := (qR6.set 0 (.int .i64 (t.gl + y * rateL ⟨ts, lo, hi, pr, ne⟩ kn))).set 1 (.int .i64 (t.gh + y * rateH ⟨ts, lo, hi, pr, ne⟩ kn))
    have r0 := bR2.cell 0
    have r1 := bR2.cell 1
    simp at r0 r1
    have hB2 := (((qb.trans (hb5.mono (by omega))).trans (hb6.mono (by have := hb5.size; omega))).setCell (p := ⟨w.heap.size + 1, 0, none⟩) (by dsimp only; omega) (.int .i64 (t.gl + y * rateL ⟨ts, lo, hi, pr, ne⟩ kn))).setCell (p := ⟨w.heap.size + 1, 1, none⟩) (by dsimp only; omega) (.int .i64 (t.gh + y * rateH ⟨ts, lo, hi, pr, ne⟩ kn))
    refine bodyPost_ret (v := .tuple #[.agg #[.int .i64 (t.gl + y * rateL ⟨ts, lo, hi, pr, ne⟩ kn), .int .i64 (t.gh + y * rateH ⟨ts, lo, hi, pr, ne⟩ kn)], .int .i64 0]) (by simp [results, Tryd.results25, go_sem, r0, r1]) rfl ⟨by rw [HR.out, hxE], hB2⟩
  · have HR : Hid (girthR ⟨ts, lo, hi, pr, ne⟩ k y = (0, 0)) := Lib.hid (by unfold girthR; rw [if_neg (by rw [← HXE.out]; simpa using h0)])
    have bR2 := (qR.set 0 (.int .i64 0)).set 1 (.int .i64 0)
    have r0 := bR2.cell 0
    have r1 := bR2.cell 1
    simp at r0 r1
    have hB2 := (qb.setCell (p := ⟨w.heap.size + 1, 0, none⟩) (by dsimp only; omega) (.int .i64 0)).setCell (p := ⟨w.heap.size + 1, 1, none⟩) (by dsimp only; omega) (.int .i64 0)
    go_wp2_with fail
    refine bodyPost_ret (v := .tuple #[.agg #[.int .i64 0, .int .i64 0], .int .i64 x]) (by simp [results, Tryd.results25, go_sem, r0, r1]) rfl ⟨by rw [HR.out, HXE.out], hB2⟩
end Go.Proofs.YtpkjjiieglebbaaDoor
