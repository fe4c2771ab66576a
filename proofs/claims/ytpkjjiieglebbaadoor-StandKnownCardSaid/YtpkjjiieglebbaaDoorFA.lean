/- Contract of package stand's Faces: what the chapter says, or the code of an error. Conditions: the trees lie in memory as the model says; tags fit into memory. -/
import Derived.Test.YtpkjjiieglebbaaDoorGI
namespace Go.Proofs.YtpkjjiieglebbaaDoor
open Go Go.RowKit
def facesE (r : Rule) (s : Stand) (k y : Int) : Int := orE [ruleE r, checkE s, treeE s.ts.length k, rangeE y 0 200]
def facesAt (r : Rule) (s : Stand) (k y : Int) : Int × Int := match s.ts[k.toNat]? with
  | some t => (manyN r t.cr (t.gl + y * rateL s k.toNat), manyN r t.cr (t.gh + y * rateH s k.toNat))
  | none => (0, 0)
def facesR (r : Rule) (s : Stand) (k y : Int) : Int × Int := if facesE r s k y = 0 then facesAt r s k y else (0, 0)
theorem faces_valid {r : Rule} {s : Stand} {k y : Int} (h : facesE r s k y = 0) : ∃ (kn : Nat) (t : Tree), k = kn ∧ kn < s.ts.length ∧ s.ts[kn]? = some t ∧ standB s = true ∧ (0 ≤ y ∧ y ≤ 200) := by
  obtain ⟨_, h⟩ := orE_cons_zero h
  obtain ⟨h1, h2⟩ := orE_cons_zero h
  obtain ⟨h2, h3⟩ := orE_cons_zero h2
  obtain ⟨h3, _⟩ := orE_cons_zero h3
  obtain ⟨a, b⟩ := tree_valid h2
  have hy : (0 ≤ y ∧ y ≤ 200) := by
    unfold rangeE at h3; split at h3
    · rename_i h4; exact frB_iff.1 h4
    · omega
  exact ⟨k.toNat, s.ts[k.toNat]'(by omega), by omega, by omega, List.getElem?_eq_getElem (by omega), (valid_of h1).1, hy⟩
set_option maxRecDepth 100000 in
set_option maxHeartbeats 2000000 in
theorem faces_any (ra rb rc rr : Int) (a : Option Addr) (n c : Nat) (ts : List Tree) (lo hi pr ne k y : Int) (w : World) (hT : Trees w a n c ts) :
    Calls Tryd.prog 27 #[.agg #[.int .i64 ra, .int .i64 rb, .int .i64 rc, .int .i64 rr], .agg #[.slice a n c, .int .i64 lo, .int .i64 hi, .int .i64 pr, .int .i64 ne], .int .i64 k, .int .i64 y] w fun e w' =>
      e = .returned (.tuple #[.agg #[.int .i64 (facesR ⟨ra, rb, rc, rr⟩ ⟨ts, lo, hi, pr, ne⟩ k y).1, .int .i64 (facesR ⟨ra, rb, rc, rr⟩ ⟨ts, lo, hi, pr, ne⟩ k y).2], .int .i64 (facesE ⟨ra, rb, rc, rr⟩ ⟨ts, lo, hi, pr, ne⟩ k y)]) ∧ Below w.heap.size w w' := by
  have hT0 := hT
  obtain ⟨hn, hat, htags, hfit, hcap⟩ := hT
  have HN := Lib.hid hn
  clear hn
  have HX : Hid (∀ W, Below (w.heap.size + 1 + 1 + 1) (((w.alloc (.cells #[.int .i64 ra, .int .i64 rb, .int .i64 rc, .int .i64 rr] 24)).alloc (.cells #[.slice a n c, .int .i64 lo, .int .i64 hi, .int .i64 pr, .int .i64 ne] 29)).alloc (.cells #[.int .i64 0, .int .i64 0] 27)) W → Box W w.heap.size #[.int .i64 ra, .int .i64 rb, .int .i64 rc, .int .i64 rr] 24 ∧ Box W (w.heap.size + 1) #[.slice a n c, .int .i64 lo, .int .i64 hi, .int .i64 pr, .int .i64 ne] 29 ∧ Box W (w.heap.size + 1 + 1) #[.int .i64 0, .int .i64 0] 27 ∧ Trees W a n c ts ∧ w.heap.size + 1 + 1 < W.heap.size ∧ Below w.heap.size w W) := Lib.hid fun W h => by
    have hB : Below w.heap.size w W := ((((Below.refl _ _).alloc (Nat.le_refl _) _).alloc (by simp) _).alloc (by simp; omega) _).trans (h.mono (by omega))
    have b1 := Box.new (w.alloc (.cells #[.int .i64 ra, .int .i64 rb, .int .i64 rc, .int .i64 rr] 24)) #[.slice a n c, .int .i64 lo, .int .i64 hi, .int .i64 pr, .int .i64 ne] 29
    have b2 := Box.new ((w.alloc (.cells #[.int .i64 ra, .int .i64 rb, .int .i64 rc, .int .i64 rr] 24)).alloc (.cells #[.slice a n c, .int .i64 lo, .int .i64 hi, .int .i64 pr, .int .i64 ne] 29)) #[.int .i64 0, .int .i64 0] 27
    simp only [World.size_alloc] at b1 b2
    exact ⟨(((Box.new w _ _).alloc _).alloc _).below h (by omega), (b1.alloc _).below h (by omega), b2.below h (by omega), hT0.below hB, by have := h.size; simp at this; omega, hB⟩
  go_enter Tryd.func27, Tryd.ntmps27
  go_wp2_with fail
  refine region_seq (fun W => Below (w.heap.size + 1 + 1 + 1) (((w.alloc (.cells #[.int .i64 ra, .int .i64 rb, .int .i64 rc, .int .i64 rr] 24)).alloc (.cells #[.slice a n c, .int .i64 lo, .int .i64 hi, .int .i64 pr, .int .i64 ne] 29)).alloc (.cells #[.int .i64 0, .int .i64 0] 27)) W) [(0, true), (2, true), (4, true), (5, true), (7, true), (1, false), (3, false), (6, false), (8, false), (9, false), (10, false), (11, true)]
    (by kernel_rfl) (by kernel_rfl) (by kernel_rfl) (by simp) (fun _ _ _ _ h => h) (Below.refl _ _).drew ?_
  (refine SeqW.take (v := ?_) rfl (by rfl) (fun W hW => ?_) ?_; rotate_left; (obtain ⟨p0, q0, _⟩ := HX.out W hW; have d0 : W.cell? ⟨w.heap.size, 0, none⟩ = some (.int .i64 ra) := p0.cell 0; have d1 : W.cell? ⟨w.heap.size, 1, none⟩ = some (.int .i64 rb) := p0.cell 1; have d2 : W.cell? ⟨w.heap.size, 2, none⟩ = some (.int .i64 rc) := p0.cell 2; have d3 : W.cell? ⟨w.heap.size, 3, none⟩ = some (.int .i64 rr) := p0.cell 3; have b0 : W.cell? ⟨w.heap.size + 1, 0, none⟩ = some (.slice a n c) := q0.cell 0; have b1 : W.cell? ⟨w.heap.size + 1, 1, none⟩ = some (.int .i64 lo) := q0.cell 1; have b2 : W.cell? ⟨w.heap.size + 1, 2, none⟩ = some (.int .i64 hi) := q0.cell 2; have b3 : W.cell? ⟨w.heap.size + 1, 3, none⟩ = some (.int .i64 pr) := q0.cell 3; have b4 : W.cell? ⟨w.heap.size + 1, 4, none⟩ = some (.int .i64 ne) := q0.cell 4; clear p0 q0 hW; go_simp; with_reducible rfl); simp only [Act.put, List.setIfInBounds_toArray, List.set_cons_zero, List.set_cons_succ])
  (refine SeqW.take (v := ?_) rfl (by rfl) (fun W hW => ?_) ?_; rotate_left; (obtain ⟨p0, q0, _⟩ := HX.out W hW; have d0 : W.cell? ⟨w.heap.size, 0, none⟩ = some (.int .i64 ra) := p0.cell 0; have d1 : W.cell? ⟨w.heap.size, 1, none⟩ = some (.int .i64 rb) := p0.cell 1; have d2 : W.cell? ⟨w.heap.size, 2, none⟩ = some (.int .i64 rc) := p0.cell 2; have d3 : W.cell? ⟨w.heap.size, 3, none⟩ = some (.int .i64 rr) := p0.cell 3; have b0 : W.cell? ⟨w.heap.size + 1, 0, none⟩ = some (.slice a n c) := q0.cell 0; have b1 : W.cell? ⟨w.heap.size + 1, 1, none⟩ = some (.int .i64 lo) := q0.cell 1; have b2 : W.cell? ⟨w.heap.size + 1, 2, none⟩ = some (.int .i64 hi) := q0.cell 2; have b3 : W.cell? ⟨w.heap.size + 1, 3, none⟩ = some (.int .i64 pr) := q0.cell 3; have b4 : W.cell? ⟨w.heap.size + 1, 4, none⟩ = some (.int .i64 ne) := q0.cell 4; clear p0 q0 hW; go_simp; with_reducible rfl); simp only [Act.put, List.setIfInBounds_toArray, List.set_cons_zero, List.set_cons_succ])
  (refine SeqW.take (v := ?_) rfl (by rfl) (fun W hW => ?_) ?_; rotate_left; (obtain ⟨p0, q0, _⟩ := HX.out W hW; have d0 : W.cell? ⟨w.heap.size, 0, none⟩ = some (.int .i64 ra) := p0.cell 0; have d1 : W.cell? ⟨w.heap.size, 1, none⟩ = some (.int .i64 rb) := p0.cell 1; have d2 : W.cell? ⟨w.heap.size, 2, none⟩ = some (.int .i64 rc) := p0.cell 2; have d3 : W.cell? ⟨w.heap.size, 3, none⟩ = some (.int .i64 rr) := p0.cell 3; have b0 : W.cell? ⟨w.heap.size + 1, 0, none⟩ = some (.slice a n c) := q0.cell 0; have b1 : W.cell? ⟨w.heap.size + 1, 1, none⟩ = some (.int .i64 lo) := q0.cell 1; have b2 : W.cell? ⟨w.heap.size + 1, 2, none⟩ = some (.int .i64 hi) := q0.cell 2; have b3 : W.cell? ⟨w.heap.size + 1, 3, none⟩ = some (.int .i64 pr) := q0.cell 3; have b4 : W.cell? ⟨w.heap.size + 1, 4, none⟩ = some (.int .i64 ne) := q0.cell 4; clear p0 q0 hW; go_simp; with_reducible rfl); simp only [Act.put, List.setIfInBounds_toArray, List.set_cons_zero, List.set_cons_succ])
  iterate 2 (refine SeqW.take (v := ?_) rfl (by rfl) (fun W hW => ?_) ?_; rotate_left; (go_simp; with_reducible rfl); simp only [Act.put, List.setIfInBounds_toArray, List.set_cons_zero, List.set_cons_succ])
  refine SeqW.call rfl (by rfl) (fun K hK => ?_); go_simp
  refine (checkRule_any ra rb rc rr _).mono ?_
  rintro e w1 ⟨rfl, hb1⟩
  have hS1 : Below (w.heap.size + 1 + 1 + 1) (((w.alloc (.cells #[.int .i64 ra, .int .i64 rb, .int .i64 rc, .int .i64 rr] 24)).alloc (.cells #[.slice a n c, .int .i64 lo, .int .i64 hi, .int .i64 pr, .int .i64 ne] 29)).alloc (.cells #[.int .i64 0, .int .i64 0] 27)) w1 := ((Below.refl _ _).drew).trans (hb1.mono (by simp))
  go_simp
  refine hK.out _ _ hS1 ?_
  clear hK K hb1
  refine SeqW.call rfl (by rfl) (fun K hK => ?_); go_simp
  refine (check_any a n c ts lo hi pr ne _ (HX.out _ hS1).2.2.2.1).mono ?_
  rintro e w2 ⟨rfl, hb2⟩
  have hS2 : Below (w.heap.size + 1 + 1 + 1) (((w.alloc (.cells #[.int .i64 ra, .int .i64 rb, .int .i64 rc, .int .i64 rr] 24)).alloc (.cells #[.slice a n c, .int .i64 lo, .int .i64 hi, .int .i64 pr, .int .i64 ne] 29)).alloc (.cells #[.int .i64 0, .int .i64 0] 27)) w2 := hS1.trans (hb2.mono (by have := hS1.size; simpa using this))
  go_simp
  refine hK.out _ _ hS2 ?_
  clear hK K hb2 hS1
  refine SeqW.call rfl (by rfl) (fun K hK => ?_); go_simp
  refine (checkTree_any a n c lo hi pr ne k _ hfit).mono ?_
  rintro e w3 ⟨rfl, hb3⟩
  have hS3 : Below (w.heap.size + 1 + 1 + 1) (((w.alloc (.cells #[.int .i64 ra, .int .i64 rb, .int .i64 rc, .int .i64 rr] 24)).alloc (.cells #[.slice a n c, .int .i64 lo, .int .i64 hi, .int .i64 pr, .int .i64 ne] 29)).alloc (.cells #[.int .i64 0, .int .i64 0] 27)) w3 := hS2.trans (hb3.mono (by have := hS2.size; simpa using this))
  go_simp
  refine hK.out _ _ hS3 ?_
  clear hK K hb3 hS2
  refine SeqW.call rfl (by rfl) (fun K hK => ?_); go_simp
  refine (checkRange_any y 0 200 _).mono ?_
  rintro e w' ⟨rfl, rfl⟩
  go_simp
  refine hK.out _ _ hS3 ?_
  clear hK K
  refine SeqW.call rfl (by rfl) (fun K hK => ?_); go_simp
  have hS4 : Below (w.heap.size + 1 + 1 + 1) (((w.alloc (.cells #[.int .i64 ra, .int .i64 rb, .int .i64 rc, .int .i64 rr] 24)).alloc (.cells #[.slice a n c, .int .i64 lo, .int .i64 hi, .int .i64 pr, .int .i64 ne] 29)).alloc (.cells #[.int .i64 0, .int .i64 0] 27)) (w3.alloc (.cells #[.int .i64 (ruleE ⟨ra, rb, rc, rr⟩), .int .i64 (checkE ⟨ts, lo, hi, pr, ne⟩), .int .i64 (treeE (n : Int) k), .int .i64 (rangeE y 0 200)] 31)) := hS3.alloc (by have := hS3.size; simp at this; omega) _
  have hBx := Box.new w3 #[.int .i64 (ruleE ⟨ra, rb, rc, rr⟩), .int .i64 (checkE ⟨ts, lo, hi, pr, ne⟩), .int .i64 (treeE (n : Int) k), .int .i64 (rangeE y 0 200)] 31
  refine hK.out _ _ hS4 ?_
  clear hK K
  refine SeqW.call rfl (by rfl) (fun K hK => ?_); go_simp
  refine (cmpOr_any [ruleE ⟨ra, rb, rc, rr⟩, checkE ⟨ts, lo, hi, pr, ne⟩, treeE (n : Int) k, rangeE y 0 200] _ _ _ _ (fun i hi => by
    match i, hi with
    | 0, _ => exact hBx.cell 0
    | 1, _ => exact hBx.cell 1
    | 2, _ => exact hBx.cell 2
    | 3, _ => exact hBx.cell 3) rfl (by simp)).mono ?_
  rintro e w' ⟨rfl, rfl⟩
  go_simp
  refine hK.out _ _ hS4 ?_
  clear hK K
  have HE : Hid (orE [ruleE ⟨ra, rb, rc, rr⟩, checkE ⟨ts, lo, hi, pr, ne⟩, treeE (n : Int) k, rangeE y 0 200] = facesE ⟨ra, rb, rc, rr⟩ ⟨ts, lo, hi, pr, ne⟩ k y) := Lib.hid (by rw [HN.out]; rfl)
  rw [HE.out]
  (refine SeqW.take (v := ?_) rfl (by rfl) (fun W hW => ?_) ?_; rotate_left; (go_simp; with_reducible rfl); simp only [Act.put, List.setIfInBounds_toArray, List.set_cons_zero, List.set_cons_succ])
  refine SeqW.done ?_
  obtain ⟨x, hx⟩ : ∃ x, x = facesE ⟨ra, rb, rc, rr⟩ ⟨ts, lo, hi, pr, ne⟩ k y := ⟨_, rfl⟩
  rw [← hx]
  have HXE := Lib.hid hx
  generalize hw4 : w3.alloc (.cells #[.int .i64 (ruleE ⟨ra, rb, rc, rr⟩), .int .i64 (checkE ⟨ts, lo, hi, pr, ne⟩), .int .i64 (treeE (n : Int) k), .int .i64 (rangeE y 0 200)] 31) = w4 at hS4 ⊢
  clear hBx hw4 hS3 hx
  obtain ⟨qA, qB, qR, qT, qz, qb⟩ := HX.out w4 hS4
  have y0 : w4.cell? ⟨w.heap.size + 1 + 1, 0, none⟩ = some (.int .i64 0) := qR.cell 0
  have y1 : w4.cell? ⟨w.heap.size + 1 + 1, 1, none⟩ = some (.int .i64 0) := qR.cell 1
  have y2 : w4.frozen? ⟨w.heap.size + 1 + 1, 0, none⟩ = false := qR.free 0
  have y3 : w4.frozen? ⟨w.heap.size + 1 + 1, 1, none⟩ = false := qR.free 1
  rcases h0 : (x != 0) with _ | _
  · have hx0 : x = 0 := by simpa using h0
    have hxE : facesE ⟨ra, rb, rc, rr⟩ ⟨ts, lo, hi, pr, ne⟩ k y = 0 := by rw [← HXE.out]; exact hx0
    obtain ⟨kn, t, rfl, hkn, ht, hst, hyr⟩ := faces_valid hxE
    dsimp only at hkn ht
    have hrate := rates_of hst kn
    have hgt := girth_of hst (List.mem_of_getElem? ht)
    obtain ⟨z1, hz1⟩ : ∃ z, z = (facesAt ⟨ra, rb, rc, rr⟩ ⟨ts, lo, hi, pr, ne⟩ kn y).1 := ⟨_, rfl⟩
    obtain ⟨z2, hz2⟩ : ∃ z, z = (facesAt ⟨ra, rb, rc, rr⟩ ⟨ts, lo, hi, pr, ne⟩ kn y).2 := ⟨_, rfl⟩
    have HR : Hid (facesR ⟨ra, rb, rc, rr⟩ ⟨ts, lo, hi, pr, ne⟩ kn y = (z1, z2)) := Lib.hid (by
      unfold facesR; rw [if_pos hxE, hz1, hz2])
    simp only [facesAt, Int.toNat_natCast, ht] at hz1 hz2
    have HZ1 := Lib.hid hz1
    have HZ2 := Lib.hid hz2
    obtain ⟨tlen, tat, ttags, tfits, tcap⟩ := qT
    subst tlen
    rcases tat with rfl | ⟨b, off, rfl, hbl, hTA⟩
    · simp at hkn
    clear hat HX hS4 HE hT0 HN ttags htags tfits y0 y1 y2 y3 hz1 hz2
    go_wp2_with fail
    refine region_seq (fun W => Box W w.heap.size #[.int .i64 ra, .int .i64 rb, .int .i64 rc, .int .i64 rr] 24 ∧ Box W (w.heap.size + 1) #[.slice (some ⟨b, off, none⟩) ts.length c, .int .i64 lo, .int .i64 hi, .int .i64 pr, .int .i64 ne] 29) [(0, true), (1, true), (3, true), (4, true), (2, false), (5, false), (6, false), (7, true)]
      (by kernel_rfl) (by kernel_rfl) (by kernel_rfl) (by simp) (fun _ _ _ _ h => h) ⟨qA.drew, qB.drew⟩ ?_
    (refine SeqW.take (v := ?_) rfl (by rfl) (fun W hW => ?_) ?_; rotate_left; (obtain ⟨p0, q0⟩ := hW; have d0 : W.cell? ⟨w.heap.size, 0, none⟩ = some (.int .i64 ra) := p0.cell 0; have d1 : W.cell? ⟨w.heap.size, 1, none⟩ = some (.int .i64 rb) := p0.cell 1; have d2 : W.cell? ⟨w.heap.size, 2, none⟩ = some (.int .i64 rc) := p0.cell 2; have d3 : W.cell? ⟨w.heap.size, 3, none⟩ = some (.int .i64 rr) := p0.cell 3; have b0 : W.cell? ⟨w.heap.size + 1, 0, none⟩ = some (.slice (some ⟨b, off, none⟩) ts.length c) := q0.cell 0; have b1 : W.cell? ⟨w.heap.size + 1, 1, none⟩ = some (.int .i64 lo) := q0.cell 1; have b2 : W.cell? ⟨w.heap.size + 1, 2, none⟩ = some (.int .i64 hi) := q0.cell 2; have b3 : W.cell? ⟨w.heap.size + 1, 3, none⟩ = some (.int .i64 pr) := q0.cell 3; have b4 : W.cell? ⟨w.heap.size + 1, 4, none⟩ = some (.int .i64 ne) := q0.cell 4; clear p0 q0; go_simp; with_reducible rfl); simp only [Act.put, List.setIfInBounds_toArray, List.set_cons_zero, List.set_cons_succ])
    (refine SeqW.take (v := ?_) rfl (by rfl) (fun W hW => ?_) ?_; rotate_left; (go_simp; with_reducible rfl); simp only [Act.put, List.setIfInBounds_toArray, List.set_cons_zero, List.set_cons_succ])
    (refine SeqW.take (v := ?_) rfl (by rfl) (fun W hW => ?_) ?_; rotate_left; (obtain ⟨p0, q0⟩ := hW; have d0 : W.cell? ⟨w.heap.size, 0, none⟩ = some (.int .i64 ra) := p0.cell 0; have d1 : W.cell? ⟨w.heap.size, 1, none⟩ = some (.int .i64 rb) := p0.cell 1; have d2 : W.cell? ⟨w.heap.size, 2, none⟩ = some (.int .i64 rc) := p0.cell 2; have d3 : W.cell? ⟨w.heap.size, 3, none⟩ = some (.int .i64 rr) := p0.cell 3; have b0 : W.cell? ⟨w.heap.size + 1, 0, none⟩ = some (.slice (some ⟨b, off, none⟩) ts.length c) := q0.cell 0; have b1 : W.cell? ⟨w.heap.size + 1, 1, none⟩ = some (.int .i64 lo) := q0.cell 1; have b2 : W.cell? ⟨w.heap.size + 1, 2, none⟩ = some (.int .i64 hi) := q0.cell 2; have b3 : W.cell? ⟨w.heap.size + 1, 3, none⟩ = some (.int .i64 pr) := q0.cell 3; have b4 : W.cell? ⟨w.heap.size + 1, 4, none⟩ = some (.int .i64 ne) := q0.cell 4; clear p0 q0; go_simp; with_reducible rfl); simp only [Act.put, List.setIfInBounds_toArray, List.set_cons_zero, List.set_cons_succ])
    (refine SeqW.take (v := ?_) rfl (by rfl) (fun W hW => ?_) ?_; rotate_left; (go_simp; with_reducible rfl); simp only [Act.put, List.setIfInBounds_toArray, List.set_cons_zero, List.set_cons_succ])
    refine SeqW.call rfl (by rfl) (fun K hK => ?_); go_simp
    refine (callsIn_wide.1 (grow_in 6 (by omega) b off c kn ts lo hi pr ne _ t ht (hTA.below (Below.refl _ _).drew hbl) hbl hkn hst)).mono ?_
    rintro e w5 ⟨rfl, hb5⟩
    have hb5' : Below w4.heap.size w4 w5 := ((Below.refl _ _).drew).trans (hb5.mono (by simp))
    have hz5 := hb5'.size
    go_simp
    refine hK.out _ _ ⟨qA.below hb5' (by omega), qB.below hb5' (by omega)⟩ ?_
    clear hK K hb5
    refine SeqW.call rfl (by rfl) (fun K hK => ?_); go_simp
    refine (facesAfter_any _ _ _ _ _ _ _ _ _ _ _ _ _ _ hyr hrate hgt).mono ?_
    rintro e w6 ⟨rfl, hb6⟩
    rw [← HZ1.out, ← HZ2.out]
    have qA6 := (qA.below hb5' (by omega)).below hb6 (by omega)
    have qB6 := (qB.below hb5' (by omega)).below hb6 (by omega)
    have qR6 := (qR.below hb5' (by omega)).below hb6 (by omega)
    go_simp
    refine hK.out _ _ ⟨qA6, qB6⟩ ?_
    clear hK K
    have m0 := qR6.cell 0; have m1 := qR6.cell 1; have m2 := qR6.free 0; have m3 := qR6.free 1
    simp at m0 m1 m2 m3
    refine SeqW.call rfl (by rfl) (fun K hK => ?_); go_simp
    refine hK.out _ _ ⟨(qA6.other (by dsimp only; omega) _).other (by dsimp only; omega) _, (qB6.other (by dsimp only; omega) _).other (by dsimp only; omega) _⟩ ?_
    clear hK K
    (refine SeqW.take (v := ?_) rfl (by rfl) (fun W hW => ?_) ?_; rotate_left; (go_simp; with_reducible rfl); simp only [Act.put, List.setIfInBounds_toArray, List.set_cons_zero, List.set_cons_succ])
    refine SeqW.done ?_
    have bR2 := (qR6.set 0 (.int .i64 z1)).set 1 (.int .i64 z2)
    have r0 := bR2.cell 0
    have r1 := bR2.cell 1
    simp at r0 r1
    have hB2 := (((qb.trans (hb5'.mono (by omega))).trans (hb6.mono (by omega))).setCell (p := ⟨w.heap.size + 1 + 1, 0, none⟩) (by dsimp only; omega) (.int .i64 z1)).setCell (p := ⟨w.heap.size + 1 + 1, 1, none⟩) (by dsimp only; omega) (.int .i64 z2)
    go_wp2_with fail
    refine bodyPost_ret (v := .tuple #[.agg #[.int .i64 z1, .int .i64 z2], .int .i64 0]) (by simp [results, Tryd.results27, go_sem, r0, r1]) rfl ⟨by rw [HR.out, hxE], hB2⟩
  · have HR : Hid (facesR ⟨ra, rb, rc, rr⟩ ⟨ts, lo, hi, pr, ne⟩ k y = (0, 0)) := Lib.hid (by unfold facesR; rw [if_neg (by rw [← HXE.out]; simpa using h0)])
    have bR2 := (qR.set 0 (.int .i64 0)).set 1 (.int .i64 0)
    have r0 := bR2.cell 0
    have r1 := bR2.cell 1
    simp at r0 r1
    have hB2 := (qb.setCell (p := ⟨w.heap.size + 1 + 1, 0, none⟩) (by dsimp only; omega) (.int .i64 0)).setCell (p := ⟨w.heap.size + 1 + 1, 1, none⟩) (by dsimp only; omega) (.int .i64 0)
    go_wp2_with fail
    refine bodyPost_ret (v := .tuple #[.agg #[.int .i64 0, .int .i64 0], .int .i64 x]) (by simp [results, Tryd.results27, go_sem, r0, r1]) rfl ⟨by rw [HR.out, HXE.out], hB2⟩
end Go.Proofs.YtpkjjiieglebbaaDoor
