/- The law StandWords says true. Conditions: the trees lie in memory as told; texts fit into memory; the variable changes and the table of powers of ten hold what the text lays. -/
import Derived.Test.YtpkjjiieglebbaaDoorR5
import Derived.Test.YtpkjjiieglebbaaDoorWO
namespace Go.Proofs.YtpkjjiieglebbaaDoor
open Go Go.RowKit
theorem nats_ints (l : List Nat) : (l.map fun i : Nat => Value.int .i64 (i : Int)) = (l.map fun i : Nat => (i : Int)).map (Value.int .i64) := by
  rw [List.map_map]; rfl
theorem ints_of_nats {w : World} {base n c : Nat} {a : Option Addr} {l : List Nat} (h : w.ownsRow base 3 1 (.slice a n c) l.length (l.map fun i : Nat => Value.int .i64 (i : Int))) (hn : n = l.length) : IntsAt w a n (l.map fun i : Nat => (i : Int)) := by
  rw [nats_ints] at h
  exact ints_of_row (l := l.map fun i : Nat => (i : Int)) (by rw [List.length_map]; exact h) (by rw [List.length_map]; exact hn)
set_option maxRecDepth 100000 in
set_option maxHeartbeats 4000000 in
theorem standWords_any (s : ByteArray) (ra rb rc rr : Int) (a : Option Addr) (n c : Nat) (ts : List Tree) (lo hi pr ne k : Int) (w : World) (hs : s.size ≤ maxLen) (hT : Trees w a n c ts) (hC : Chg w) (hP : Tab w) :
    Calls Tryd.prog 3 #[.string s, .agg #[.int .i64 ra, .int .i64 rb, .int .i64 rc, .int .i64 rr], .agg #[.slice a n c, .int .i64 lo, .int .i64 hi, .int .i64 pr, .int .i64 ne], .int .i64 k] w fun e w' => e = .returned (.bool true) ∧ Below w.heap.size w w' := by
  have HX0 : Hid (∀ W, Below (w.heap.size + 1 + 1) ((w.alloc (.cells #[.int .i64 ra, .int .i64 rb, .int .i64 rc, .int .i64 rr] 24)).alloc (.cells #[.slice a n c, .int .i64 lo, .int .i64 hi, .int .i64 pr, .int .i64 ne] 29)) W → Box W w.heap.size #[.int .i64 ra, .int .i64 rb, .int .i64 rc, .int .i64 rr] 24 ∧ Box W (w.heap.size + 1) #[.slice a n c, .int .i64 lo, .int .i64 hi, .int .i64 pr, .int .i64 ne] 29 ∧ Trees W a n c ts ∧ Below w.heap.size w W ∧ w.heap.size + 1 < W.heap.size) := Lib.hid fun W h => by
    have hB : Below w.heap.size w W := (((Below.refl _ _).alloc (Nat.le_refl _) _).alloc (by simp) _).trans (h.mono (by omega))
    have b1 := Box.new (w.alloc (.cells #[.int .i64 ra, .int .i64 rb, .int .i64 rc, .int .i64 rr] 24)) #[.slice a n c, .int .i64 lo, .int .i64 hi, .int .i64 pr, .int .i64 ne] 29
    rw [World.size_alloc] at b1
    exact ⟨((Box.new w _ _).alloc _).below h (by omega), b1.below h (by omega), hT.below hB, hB, by have := h.size; simp at this; omega⟩
  have HG : Hid (∀ W, Below w.heap.size w W → Chg W ∧ Tab W) := Lib.hid fun W h => ⟨hC.below h, hP.below h⟩
  have hS0 : Below (w.heap.size + 1 + 1) ((w.alloc (.cells #[.int .i64 ra, .int .i64 rb, .int .i64 rc, .int .i64 rr] 24)).alloc (.cells #[.slice a n c, .int .i64 lo, .int .i64 hi, .int .i64 pr, .int .i64 ne] 29)) ((w.alloc (.cells #[.int .i64 ra, .int .i64 rb, .int .i64 rc, .int .i64 rr] 24)).alloc (.cells #[.slice a n c, .int .i64 lo, .int .i64 hi, .int .i64 pr, .int .i64 ne] 29)) := Below.refl _ _
  clear hT hC hP
  go_enter Tryd.func3, Tryd.ntmps3
  go_wp2_with (first
    | (go_at_call 16; refine (refNear_any a n c ts lo hi pr ne k _ (HX0.out _ hS1).2.2.1).mono ?_; rintro e w2 ⟨v2, rfl, hv2, hb2⟩; obtain ⟨a2, c2, rfl⟩ := row_form hv2)
    | (go_at_call 15; refine (callsIn_wide.1 (near_in 6 (by omega) a n c ts lo hi pr ne k _ (HX0.out _ hS0).2.2.1)).mono ?_; rintro e w1 ⟨v1, rfl, hv1, hb1⟩; obtain ⟨a1, c1, rfl⟩ := row_form hv1.1; have hS1 := hS0.trans (hb1.mono (by simp)); have hbx := (HX0.out _ hS1).2.1; have e0 : w1.cell? ⟨w.heap.size + 1, 0, none⟩ = some (.slice a n c) := hbx.cell 0; have e1 : w1.cell? ⟨w.heap.size + 1, 1, none⟩ = some (.int .i64 lo) := hbx.cell 1; have e2 : w1.cell? ⟨w.heap.size + 1, 2, none⟩ = some (.int .i64 hi) := hbx.cell 2; have e3 : w1.cell? ⟨w.heap.size + 1, 3, none⟩ = some (.int .i64 pr) := hbx.cell 3; have e4 : w1.cell? ⟨w.heap.size + 1, 4, none⟩ = some (.int .i64 ne) := hbx.cell 4; clear hbx))
  have hz1 := (HX0.out _ hS1).2.2.2.2
  have hS2 := hS1.trans (hb2.mono (by omega))
  have hz2 := (HX0.out _ hS2).2.2.2.2
  have HX : Hid (∀ W, Below w2.heap.size w2 W → Box W w.heap.size #[.int .i64 ra, .int .i64 rb, .int .i64 rc, .int .i64 rr] 24 ∧ Box W (w.heap.size + 1) #[.slice a n c, .int .i64 lo, .int .i64 hi, .int .i64 pr, .int .i64 ne] 29 ∧ Trees W a n c ts ∧ IntsAt W a1 (nearR ⟨ts, lo, hi, pr, ne⟩ k).length ((nearR ⟨ts, lo, hi, pr, ne⟩ k).map fun i : Nat => (i : Int)) ∧ IntsAt W a2 (nearR ⟨ts, lo, hi, pr, ne⟩ k).length ((nearR ⟨ts, lo, hi, pr, ne⟩ k).map fun i : Nat => (i : Int)) ∧ Below w.heap.size w W) := Lib.hid fun W h => by
    obtain ⟨p1, p2, p3, p4, _⟩ := HX0.out _ (hS2.trans (h.mono (by omega)))
    exact ⟨p1, p2, p3, ((ints_of_nats hv1.1 rfl).below hb2).below h, (ints_of_nats hv2 rfl).below h, p4⟩
  have hS : Below w2.heap.size w2 w2.drew := (Below.refl _ _).drew
  have hln : (nearR ⟨ts, lo, hi, pr, ne⟩ k).length ≤ maxLen := by
    unfold nearR
    split
    · have := nearTo_len ts ne k.toNat ts.length
      rename_i hE
      obtain ⟨_, _, _, h14, _⟩ := near_valid hE
      dsimp only at h14
      show (nearTo ts ne k.toNat ts.length).length ≤ maxLen
      unfold maxLen; omega
    · simp
  clear hv1 hv2 hb1 hb2 hS0 hS1 hS2 HX0 e0 e1 e2 e3 e4
  refine region_seq (fun W => Below w2.heap.size w2 W) [(0, true), (1, true), (2, false), (3, true), (4, true), (5, true), (6, true), (7, true), (8, true), (9, true), (11, true), (10, false), (12, false), (13, true), (14, true), (15, true), (16, true), (18, true), (17, false), (19, false), (20, true), (21, true), (22, true), (23, true), (25, true), (24, false), (26, false), (27, true), (28, true), (29, true), (30, false), (31, true), (32, true)]
    (by kernel_rfl) (by kernel_rfl) (by kernel_rfl) (by simp) (fun _ _ _ _ h => h) hS ?_
  iterate 2 (refine SeqW.take (v := ?_) rfl (by rfl) (fun W hW => ?_) ?_; rotate_left; (go_simp; with_reducible rfl); simp only [Act.put, List.setIfInBounds_toArray, List.set_cons_zero, List.set_cons_succ])
  refine SeqW.call rfl (by rfl) (fun K hK => ?_); go_simp
  refine (same_any a1 a2 _ c1 _ c2 _ _ _ (HX.out _ hS).2.2.2.1 (HX.out _ hS).2.2.2.2.1 hln hln).mono ?_
  rintro e w3 ⟨rfl, hb⟩
  have hS := hS.trans (hb.mono hS.size)
  (go_simp; refine hK.out _ _ hS ?_; clear hK K)
  iterate 8 (refine SeqW.take (v := ?_) rfl (by rfl) (fun W hW => ?_) ?_; rotate_left; (go_simp; with_reducible rfl); simp only [Act.put, List.setIfInBounds_toArray, List.set_cons_zero, List.set_cons_succ])
  refine SeqW.call rfl (by rfl) (fun K hK => ?_); go_simp
  refine (isWord_any s _ hs).mono ?_
  rintro e w' ⟨rfl, rfl⟩
  (go_simp; refine hK.out _ _ hS ?_; clear hK K)
  refine SeqW.call rfl (by rfl) (fun K hK => ?_); go_simp
  refine (refIsWord_any s _ hs).mono ?_
  rintro e w' ⟨rfl, rfl⟩
  (go_simp; refine hK.out _ _ hS ?_; clear hK K)
  iterate 3 (refine SeqW.take (v := ?_) rfl (by rfl) (fun W hW => ?_) ?_; rotate_left; (go_simp; with_reducible rfl); simp only [Act.put, List.setIfInBounds_toArray, List.set_cons_zero, List.set_cons_succ])
  (refine SeqW.take (v := ?_) rfl (by rfl) (fun W hW => ?_) ?_; rotate_left; (have q0 := (HX.out W hW).2.1; have b0 : W.cell? ⟨w.heap.size + 1, 0, none⟩ = some (.slice a n c) := q0.cell 0; have b1 : W.cell? ⟨w.heap.size + 1, 1, none⟩ = some (.int .i64 lo) := q0.cell 1; have b2 : W.cell? ⟨w.heap.size + 1, 2, none⟩ = some (.int .i64 hi) := q0.cell 2; have b3 : W.cell? ⟨w.heap.size + 1, 3, none⟩ = some (.int .i64 pr) := q0.cell 3; have b4 : W.cell? ⟨w.heap.size + 1, 4, none⟩ = some (.int .i64 ne) := q0.cell 4; clear q0 hW; go_simp; with_reducible rfl); simp only [Act.put, List.setIfInBounds_toArray, List.set_cons_zero, List.set_cons_succ])
  (refine SeqW.take (v := ?_) rfl (by rfl) (fun W hW => ?_) ?_; rotate_left; (have q0 := (HX.out W hW).2.1; have b0 : W.cell? ⟨w.heap.size + 1, 0, none⟩ = some (.slice a n c) := q0.cell 0; have b1 : W.cell? ⟨w.heap.size + 1, 1, none⟩ = some (.int .i64 lo) := q0.cell 1; have b2 : W.cell? ⟨w.heap.size + 1, 2, none⟩ = some (.int .i64 hi) := q0.cell 2; have b3 : W.cell? ⟨w.heap.size + 1, 3, none⟩ = some (.int .i64 pr) := q0.cell 3; have b4 : W.cell? ⟨w.heap.size + 1, 4, none⟩ = some (.int .i64 ne) := q0.cell 4; clear q0 hW; go_simp; with_reducible rfl); simp only [Act.put, List.setIfInBounds_toArray, List.set_cons_zero, List.set_cons_succ])
  refine SeqW.call rfl (by rfl) (fun K hK => ?_); go_simp
  refine (check_any a n c ts lo hi pr ne _ (HX.out _ hS).2.2.1).mono ?_
  rintro e w4 ⟨rfl, hb4⟩
  have hS := hS.trans (hb4.mono hS.size)
  (go_simp; refine hK.out _ _ hS ?_; clear hK K)
  refine SeqW.call rfl (by rfl) (fun K hK => ?_); go_simp
  refine (refCheck_any a n c ts lo hi pr ne _ (HX.out _ hS).2.2.1).mono ?_
  rintro e w5 ⟨rfl, hb5⟩
  have hS := hS.trans (hb5.mono hS.size)
  (go_simp; refine hK.out _ _ hS ?_; clear hK K)
  iterate 3 (refine SeqW.take (v := ?_) rfl (by rfl) (fun W hW => ?_) ?_; rotate_left; (go_simp; with_reducible rfl); simp only [Act.put, List.setIfInBounds_toArray, List.set_cons_zero, List.set_cons_succ])
  (refine SeqW.take (v := ?_) rfl (by rfl) (fun W hW => ?_) ?_; rotate_left; (have q0 := (HX.out W hW).1; have b0 : W.cell? ⟨w.heap.size, 0, none⟩ = some (.int .i64 ra) := q0.cell 0; have b1 : W.cell? ⟨w.heap.size, 1, none⟩ = some (.int .i64 rb) := q0.cell 1; have b2 : W.cell? ⟨w.heap.size, 2, none⟩ = some (.int .i64 rc) := q0.cell 2; have b3 : W.cell? ⟨w.heap.size, 3, none⟩ = some (.int .i64 rr) := q0.cell 3; clear q0 hW; go_simp; with_reducible rfl); simp only [Act.put, List.setIfInBounds_toArray, List.set_cons_zero, List.set_cons_succ])
  (refine SeqW.take (v := ?_) rfl (by rfl) (fun W hW => ?_) ?_; rotate_left; (have q0 := (HX.out W hW).1; have b0 : W.cell? ⟨w.heap.size, 0, none⟩ = some (.int .i64 ra) := q0.cell 0; have b1 : W.cell? ⟨w.heap.size, 1, none⟩ = some (.int .i64 rb) := q0.cell 1; have b2 : W.cell? ⟨w.heap.size, 2, none⟩ = some (.int .i64 rc) := q0.cell 2; have b3 : W.cell? ⟨w.heap.size, 3, none⟩ = some (.int .i64 rr) := q0.cell 3; clear q0 hW; go_simp; with_reducible rfl); simp only [Act.put, List.setIfInBounds_toArray, List.set_cons_zero, List.set_cons_succ])
  refine SeqW.call rfl (by rfl) (fun K hK => ?_); go_simp
  refine (checkRule_any ra rb rc rr _).mono ?_
  rintro e w6 ⟨rfl, hb6⟩
  have hS := hS.trans (hb6.mono hS.size)
  (go_simp; refine hK.out _ _ hS ?_; clear hK K)
  refine SeqW.call rfl (by rfl) (fun K hK => ?_); go_simp
  refine (refRule_any ra rb rc rr _).mono ?_
  rintro e w7 ⟨rfl, hb7⟩
  have hS := hS.trans (hb7.mono hS.size)
  (go_simp; refine hK.out _ _ hS ?_; clear hK K)
  iterate 3 (refine SeqW.take (v := ?_) rfl (by rfl) (fun W hW => ?_) ?_; rotate_left; (go_simp; with_reducible rfl); simp only [Act.put, List.setIfInBounds_toArray, List.set_cons_zero, List.set_cons_succ])
  refine SeqW.call rfl (by rfl) (fun K hK => ?_); go_simp
  refine (works_any _ (HG.out _ (HX.out _ hS).2.2.2.2.2).1 (HG.out _ (HX.out _ hS).2.2.2.2.2).2).mono ?_
  rintro e w8 ⟨rfl, hb8⟩
  have hS := hS.trans (hb8.mono hS.size)
  (go_simp; refine hK.out _ _ hS ?_; clear hK K)
  iterate 2 (refine SeqW.take (v := ?_) rfl (by rfl) (fun W hW => ?_) ?_; rotate_left; (go_simp; with_reducible rfl); simp only [Act.put, List.setIfInBounds_toArray, List.set_cons_zero, List.set_cons_succ])
  refine SeqW.done ?_
  go_wp2_with fail
  go_ret
  exact ⟨rfl, (HX.out _ hS).2.2.2.2.2⟩
end Go.Proofs.YtpkjjiieglebbaaDoor
