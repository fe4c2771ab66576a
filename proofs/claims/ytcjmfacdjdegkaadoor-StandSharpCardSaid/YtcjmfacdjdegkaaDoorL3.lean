/- The law StandSharp says true. Conditions: the trees lie in memory as told; the chapter's examples hold in each world that comes after. -/
import Derived.Test.YtcjmfacdjdegkaaDoorQ1
import Derived.Test.YtcjmfacdjdegkaaDoorRP
import Derived.Test.YtcjmfacdjdegkaaDoorBM
import Derived.Test.YtcjmfacdjdegkaaDoorR0
namespace Go.Proofs.YtcjmfacdjdegkaaDoor
open Go Go.RowKit
set_option maxRecDepth 100000 in
set_option maxHeartbeats 4000000 in
theorem standSharp_any (ra rb rc rr : Int) (a : Option Addr) (n c : Nat) (ts : List Tree) (lo hi pr ne n0 n1 n2 : Int) (w : World) (hT : Trees w a n c ts) (hN : -9223372036854775808 ≤ n1 ∧ n1 ≤ 9223372036854775807)
    (hWk : ∀ W, Below w.heap.size w W → Calls Tryd.prog 24 #[] W fun e w' => e = .returned (.bool true) ∧ Below W.heap.size W w') :
    Calls Tryd.prog 9 #[.agg #[.int .i64 ra, .int .i64 rb, .int .i64 rc, .int .i64 rr], .agg #[.slice a n c, .int .i64 lo, .int .i64 hi, .int .i64 pr, .int .i64 ne], .agg #[.int .i64 n0, .int .i64 n1, .int .i64 n2]] w fun e w' => e = .returned (.bool true) ∧ Below w.heap.size w w' := by
  have HN := Lib.hid hT.len
  have hfit := hT.fits
  have HWk := Lib.hid hWk
  have HX : Hid (∀ W, Below (w.heap.size + 1 + 1 + 1) (((w.alloc (.cells #[.int .i64 ra, .int .i64 rb, .int .i64 rc, .int .i64 rr] 24)).alloc (.cells #[.slice a n c, .int .i64 lo, .int .i64 hi, .int .i64 pr, .int .i64 ne] 29)).alloc (.cells #[.int .i64 n0, .int .i64 n1, .int .i64 n2] 22)) W → Box W w.heap.size #[.int .i64 ra, .int .i64 rb, .int .i64 rc, .int .i64 rr] 24 ∧ Box W (w.heap.size + 1) #[.slice a n c, .int .i64 lo, .int .i64 hi, .int .i64 pr, .int .i64 ne] 29 ∧ Box W (w.heap.size + 1 + 1) #[.int .i64 n0, .int .i64 n1, .int .i64 n2] 22 ∧ Trees W a n c ts ∧ Below w.heap.size w W ∧ w.heap.size + 1 + 1 < W.heap.size) := Lib.hid fun W h => by
    have hB : Below w.heap.size w W := ((((Below.refl _ _).alloc (Nat.le_refl _) _).alloc (by simp) _).alloc (by simp; omega) _).trans (h.mono (by omega))
    have b1 := Box.new (w.alloc (.cells #[.int .i64 ra, .int .i64 rb, .int .i64 rc, .int .i64 rr] 24)) #[.slice a n c, .int .i64 lo, .int .i64 hi, .int .i64 pr, .int .i64 ne] 29
    have b2 := Box.new ((w.alloc (.cells #[.int .i64 ra, .int .i64 rb, .int .i64 rc, .int .i64 rr] 24)).alloc (.cells #[.slice a n c, .int .i64 lo, .int .i64 hi, .int .i64 pr, .int .i64 ne] 29)) #[.int .i64 n0, .int .i64 n1, .int .i64 n2] 22
    simp only [World.size_alloc] at b1 b2
    exact ⟨(((Box.new w _ _).alloc _).alloc _).below h (by omega), (b1.alloc _).below h (by omega), b2.below h (by omega), hT.below hB, hB, by have := h.size; simp at this; omega⟩
  have hS0 : Below (w.heap.size + 1 + 1 + 1) (((w.alloc (.cells #[.int .i64 ra, .int .i64 rb, .int .i64 rc, .int .i64 rr] 24)).alloc (.cells #[.slice a n c, .int .i64 lo, .int .i64 hi, .int .i64 pr, .int .i64 ne] 29)).alloc (.cells #[.int .i64 n0, .int .i64 n1, .int .i64 n2] 22)) (((w.alloc (.cells #[.int .i64 ra, .int .i64 rb, .int .i64 rc, .int .i64 rr] 24)).alloc (.cells #[.slice a n c, .int .i64 lo, .int .i64 hi, .int .i64 pr, .int .i64 ne] 29)).alloc (.cells #[.int .i64 n0, .int .i64 n1, .int .i64 n2] 22)) := Below.refl _ _
  clear hT hWk
  obtain ⟨r1, hr1⟩ : ∃ v, (readyR ⟨ra, rb, rc, rr⟩ ⟨ts, lo, hi, pr, ne⟩ n0 n2).1 = v := ⟨_, rfl⟩
  obtain ⟨r2, hr2⟩ : ∃ v, (readyR ⟨ra, rb, rc, rr⟩ ⟨ts, lo, hi, pr, ne⟩ n0 n2).2 = v := ⟨_, rfl⟩
  obtain ⟨rE, hrE⟩ : ∃ v, readyE ⟨ra, rb, rc, rr⟩ ⟨ts, lo, hi, pr, ne⟩ n0 n2 = v := ⟨_, rfl⟩
  have HR1 := Lib.hid hr1
  have HR2 := Lib.hid hr2
  have HRE := Lib.hid hrE
  by_cases hE : rE = 0
  case neg =>
    have hz : r1 = 0 ∧ r2 = 0 := by
      rw [← hr1, ← hr2]; unfold readyR; rw [if_neg (by rw [hrE]; exact hE)]; exact ⟨rfl, rfl⟩
    obtain ⟨rfl, rfl⟩ := hz
    clear hr1 hr2 hrE
    have hb : (rE != 0) = true := by simpa using hE
    go_enter Tryd.func9, Tryd.ntmps9
    go_wp2_with (first
      | (go_at_call 24; refine (HWk.out _ (HX.out _ (hS1.alloc (by have := hS1.size; simp at this; omega) _)).2.2.2.2.1).mono ?_; rintro e w7 ⟨rfl, hb7⟩)
      | (go_at_call 29; refine (ready_any ra rb rc rr a n c ts lo hi pr ne n0 n2 _ (HX.out _ hS0).2.2.2.1).mono ?_; rw [HR1.out, HR2.out, HRE.out]; rintro e w1 ⟨rfl, hb1⟩; have hz1 := hb1.size; simp only [World.size_alloc] at hz1; have hS1 := hS0.trans (hb1.mono (by simp only [World.size_alloc]; omega))))
    go_ret
    exact ⟨rfl, ((HX.out _ hS1).2.2.2.2.1.alloc (by omega) _).trans (hb7.mono (by simp only [World.size_alloc]; omega))⟩
  subst hE
  obtain ⟨kn, t, rfl, hkl, ht, hv, hn2⟩ := ready_valid hrE
  dsimp only at hkl ht
  have hSh := sharp_of hrE
  rw [hr1, hr2] at hSh
  have hle := hSh.le
  have HSh := Lib.hid hSh
  have HFE := Lib.hid (ready_faces hrE)
  have HGE := Lib.hid (ready_girth hrE)
  have hnl := HN.out
  have HI1 : Hid (frB r1 0 r2 = true) := Lib.hid (frB_iff.2 ⟨by omega, by omega⟩)
  have HI2 : Hid (frB kn 0 ((n : Int) - 1) = true) := Lib.hid (frB_iff.2 ⟨by omega, by omega⟩)
  have hl1 : 0 ≤ r1 := hle.1
  have hl2 : r1 ≤ r2 := hle.2.1
  have hl3 : r2 ≤ 201 := hle.2.2
  have HKL := Lib.hid hkl
  have HT1 := Lib.hid ht
  clear hr1 hr2 hrE hSh ht hnl hv hn2 hle hkl
  go_enter Tryd.func9, Tryd.ntmps9
  go_wp2_with (first
    | (go_at_call 29; refine (ready_any ra rb rc rr a n c ts lo hi pr ne kn n2 _ (HX.out _ hS0).2.2.2.1).mono ?_; rw [HR1.out, HR2.out, HRE.out]; rintro e w1 ⟨rfl, hb1⟩; have hz1 := hb1.size; simp only [World.size_alloc] at hz1; have hS1 := hS0.trans (hb1.mono (by simp only [World.size_alloc]; omega)); have q := (HX.out _ hS1).2.2.1.alloc (.cells #[.int .i64 r1, .int .i64 r2] 27); have t0 : ((w1.alloc (.cells #[.int .i64 r1, .int .i64 r2] 27))).cell? ⟨w.heap.size + 1 + 1, 0, none⟩ = some (.int .i64 kn) := q.cell 0; have q2 := (HX.out _ hS1).2.1.alloc (.cells #[.int .i64 r1, .int .i64 r2] 27); have s0 : ((w1.alloc (.cells #[.int .i64 r1, .int .i64 r2] 27))).cell? ⟨w.heap.size + 1, 0, none⟩ = some (.slice a n c) := q2.cell 0; clear q q2)
    | (go_at_call 45; refine (refIn_any _ _ _ _).mono ?_; (first | rw [HI1.out] | rw [HI2.out]); rintro e w' ⟨rfl, rfl⟩))
  have HY : Hid (∀ W, Below (w1.heap.size + 1 + 1) ((w1.alloc (.cells #[.int .i64 r1, .int .i64 r2] 27)).alloc (.cells #[.int .i64 (r1 - 1), .int .i64 r1, .int .i64 (r2 - 1), .int .i64 r2] 3)) W → Box W w.heap.size #[.int .i64 ra, .int .i64 rb, .int .i64 rc, .int .i64 rr] 24 ∧ Box W (w.heap.size + 1) #[.slice a n c, .int .i64 lo, .int .i64 hi, .int .i64 pr, .int .i64 ne] 29 ∧ Box W (w.heap.size + 1 + 1) #[.int .i64 kn, .int .i64 n1, .int .i64 n2] 22 ∧ Trees W a n c ts ∧ Box W (w1.heap.size + 1) #[.int .i64 (r1 - 1), .int .i64 r1, .int .i64 (r2 - 1), .int .i64 r2] 3 ∧ Below w.heap.size w W ∧ w1.heap.size + 1 + 1 ≤ W.heap.size) := Lib.hid fun W h => by
    obtain ⟨e1, e2, e3, e4, e5, e6⟩ := HX.out W (((hS1.alloc (by omega) _).alloc (by simp; omega) _).trans (h.mono (by omega)))
    have b1 := Box.new (w1.alloc (.cells #[.int .i64 r1, .int .i64 r2] 27)) #[.int .i64 (r1 - 1), .int .i64 r1, .int .i64 (r2 - 1), .int .i64 r2] 3
    simp only [World.size_alloc] at b1
    exact ⟨e1, e2, e3, e4, b1.below h (by omega), e5, by have := h.size; simp at this; omega⟩
  have hHZ := Lib.hid hz1
  clear hb1 hS1 hz1 t0 s0 HX hS0
  go_loopw [10] (fun i wr => Below (w1.heap.size + 1 + 1) ((w1.alloc (.cells #[.int .i64 r1, .int .i64 r2] 27)).alloc (.cells #[.int .i64 (r1 - 1), .int .i64 r1, .int .i64 (r2 - 1), .int .i64 r2] 3)) wr ∧ (i = .int .i64 0 ∨ i = .int .i64 1 ∨ i = .int .i64 2 ∨ i = .int .i64 3 ∨ i = .int .i64 4)) (fun i _ => 4 - (intOf i).toNat)
  case atStart => exact ⟨Below.refl _ _, .inl rfl⟩
  case round =>
    obtain ⟨hb, hrel⟩ := hrel
    obtain ⟨y1, y2, y3, y4, y5, y6, y7⟩ := HY.out wr hb
    rcases hrel with rfl | rfl | rfl | rfl | rfl
    · obtain ⟨v, hv⟩ : ∃ v : Int, v = r1 - 1 := ⟨_, rfl⟩
      have HV := Lib.hid hv
      have cv : wr.cell? ⟨w1.heap.size + 1, 0, none⟩ = some (.int .i64 v) := by rw [hv]; exact y5.cell 0
      have HC : Hid (0 ≤ v → v ≤ 200 → (facesR ⟨ra, rb, rc, rr⟩ ⟨ts, lo, hi, pr, ne⟩ kn v).2 < n2) := Lib.hid fun h0 h1 => HSh.out.a v HV.out h0 h1
      clear hv
      rcases hI : frB v 0 200 with _ | _
      · have HI := Lib.hid hI
        clear hI
        go_wp2_with (go_at_call 45; refine (refIn_any _ _ _ _).mono ?_; rw [HI.out]; rintro e w' ⟨rfl, rfl⟩)
        go_roundw
        case rel => exact ⟨hb, by simp⟩
        case measure => simp [intOf]
      · have HI := Lib.hid hI
        obtain ⟨hv0, hv2⟩ := frB_iff.1 hI
        have hf := HFE.out v ⟨hv0, hv2⟩
        have hcv := HC.out hv0 hv2
        clear hI HC
        obtain ⟨f1, hf1⟩ : ∃ z, (facesR ⟨ra, rb, rc, rr⟩ ⟨ts, lo, hi, pr, ne⟩ kn v).1 = z := ⟨_, rfl⟩
        obtain ⟨f2, hf2⟩ : ∃ z, (facesR ⟨ra, rb, rc, rr⟩ ⟨ts, lo, hi, pr, ne⟩ kn v).2 = z := ⟨_, rfl⟩
        have hcv2 : f2 < n2 := by rw [← hf2]; exact hcv
        clear hcv
        have HF := Lib.hid hf
        have HF1 := Lib.hid hf1
        have HF2 := Lib.hid hf2
        clear hf hf1 hf2
        have hz := hHZ.out
        go_wp2_with (go_at_call 45; refine (refIn_any _ _ _ _).mono ?_; rw [HI.out]; rintro e w' ⟨rfl, rfl⟩)
        refine region_planS (fun W => Box W w.heap.size #[.int .i64 ra, .int .i64 rb, .int .i64 rc, .int .i64 rr] 24 ∧ Box W (w.heap.size + 1) #[.slice a n c, .int .i64 lo, .int .i64 hi, .int .i64 pr, .int .i64 ne] 29 ∧ Box W (w.heap.size + 1 + 1) #[.int .i64 kn, .int .i64 n1, .int .i64 n2] 22 ∧ Box W (w1.heap.size + 1) #[.int .i64 (r1 - 1), .int .i64 r1, .int .i64 (r2 - 1), .int .i64 r2] 3) (.take 0 (.take 1 (.take 2 (.take 3 (.take 4 (.take 5 (.take 6 (.take 7 (.two 8 12 (.take 9 (.take 10 (.take 11 (.one 12 (.one 13 (.take 14 .done)))))) (.one 8 (.take 9 (.take 10 (.take 11 (.one 13 (.take 14 .done)))))))))))))))
          (by kernel_rfl) (by kernel_rfl) (by kernel_rfl) (by simp [Plan.depth]) (fun _ _ _ _ h => h) ⟨y1, y2, y3, y5⟩ ?_
        (refine PlanS.free (v := ?_) rfl (by rfl) (fun W hW => ?_) ?_; rotate_left; (obtain ⟨q0, q1, q2, q3⟩ := hW; have a0 : W.cell? ⟨w.heap.size, 0, none⟩ = some (.int .i64 ra) := q0.cell 0; have a1 : W.cell? ⟨w.heap.size, 1, none⟩ = some (.int .i64 rb) := q0.cell 1; have a2 : W.cell? ⟨w.heap.size, 2, none⟩ = some (.int .i64 rc) := q0.cell 2; have a3 : W.cell? ⟨w.heap.size, 3, none⟩ = some (.int .i64 rr) := q0.cell 3; have b0 : W.cell? ⟨w.heap.size + 1, 0, none⟩ = some (.slice a n c) := q1.cell 0; have b1 : W.cell? ⟨w.heap.size + 1, 1, none⟩ = some (.int .i64 lo) := q1.cell 1; have b2 : W.cell? ⟨w.heap.size + 1, 2, none⟩ = some (.int .i64 hi) := q1.cell 2; have b3 : W.cell? ⟨w.heap.size + 1, 3, none⟩ = some (.int .i64 pr) := q1.cell 3; have b4 : W.cell? ⟨w.heap.size + 1, 4, none⟩ = some (.int .i64 ne) := q1.cell 4; have d0 : W.cell? ⟨w.heap.size + 1 + 1, 0, none⟩ = some (.int .i64 kn) := q2.cell 0; have cv : W.cell? ⟨w1.heap.size + 1, 0, none⟩ = some (.int .i64 v) := (by rw [HV.out]; exact q3.cell 0); clear q0 q1 q2 q3; go_simp; with_reducible rfl); simp only [Act.put, List.setIfInBounds_toArray, List.set_cons_zero, List.set_cons_succ])
        (refine PlanS.free (v := ?_) rfl (by rfl) (fun W hW => ?_) ?_; rotate_left; (obtain ⟨q0, q1, q2, q3⟩ := hW; have a0 : W.cell? ⟨w.heap.size, 0, none⟩ = some (.int .i64 ra) := q0.cell 0; have a1 : W.cell? ⟨w.heap.size, 1, none⟩ = some (.int .i64 rb) := q0.cell 1; have a2 : W.cell? ⟨w.heap.size, 2, none⟩ = some (.int .i64 rc) := q0.cell 2; have a3 : W.cell? ⟨w.heap.size, 3, none⟩ = some (.int .i64 rr) := q0.cell 3; have b0 : W.cell? ⟨w.heap.size + 1, 0, none⟩ = some (.slice a n c) := q1.cell 0; have b1 : W.cell? ⟨w.heap.size + 1, 1, none⟩ = some (.int .i64 lo) := q1.cell 1; have b2 : W.cell? ⟨w.heap.size + 1, 2, none⟩ = some (.int .i64 hi) := q1.cell 2; have b3 : W.cell? ⟨w.heap.size + 1, 3, none⟩ = some (.int .i64 pr) := q1.cell 3; have b4 : W.cell? ⟨w.heap.size + 1, 4, none⟩ = some (.int .i64 ne) := q1.cell 4; have d0 : W.cell? ⟨w.heap.size + 1 + 1, 0, none⟩ = some (.int .i64 kn) := q2.cell 0; have cv : W.cell? ⟨w1.heap.size + 1, 0, none⟩ = some (.int .i64 v) := (by rw [HV.out]; exact q3.cell 0); clear q0 q1 q2 q3; go_simp; with_reducible rfl); simp only [Act.put, List.setIfInBounds_toArray, List.set_cons_zero, List.set_cons_succ])
        (refine PlanS.free (v := ?_) rfl (by rfl) (fun W hW => ?_) ?_; rotate_left; (obtain ⟨q0, q1, q2, q3⟩ := hW; have a0 : W.cell? ⟨w.heap.size, 0, none⟩ = some (.int .i64 ra) := q0.cell 0; have a1 : W.cell? ⟨w.heap.size, 1, none⟩ = some (.int .i64 rb) := q0.cell 1; have a2 : W.cell? ⟨w.heap.size, 2, none⟩ = some (.int .i64 rc) := q0.cell 2; have a3 : W.cell? ⟨w.heap.size, 3, none⟩ = some (.int .i64 rr) := q0.cell 3; have b0 : W.cell? ⟨w.heap.size + 1, 0, none⟩ = some (.slice a n c) := q1.cell 0; have b1 : W.cell? ⟨w.heap.size + 1, 1, none⟩ = some (.int .i64 lo) := q1.cell 1; have b2 : W.cell? ⟨w.heap.size + 1, 2, none⟩ = some (.int .i64 hi) := q1.cell 2; have b3 : W.cell? ⟨w.heap.size + 1, 3, none⟩ = some (.int .i64 pr) := q1.cell 3; have b4 : W.cell? ⟨w.heap.size + 1, 4, none⟩ = some (.int .i64 ne) := q1.cell 4; have d0 : W.cell? ⟨w.heap.size + 1 + 1, 0, none⟩ = some (.int .i64 kn) := q2.cell 0; have cv : W.cell? ⟨w1.heap.size + 1, 0, none⟩ = some (.int .i64 v) := (by rw [HV.out]; exact q3.cell 0); clear q0 q1 q2 q3; go_simp; with_reducible rfl); simp only [Act.put, List.setIfInBounds_toArray, List.set_cons_zero, List.set_cons_succ])
        (refine PlanS.free (v := ?_) rfl (by rfl) (fun W hW => ?_) ?_; rotate_left; (obtain ⟨q0, q1, q2, q3⟩ := hW; have a0 : W.cell? ⟨w.heap.size, 0, none⟩ = some (.int .i64 ra) := q0.cell 0; have a1 : W.cell? ⟨w.heap.size, 1, none⟩ = some (.int .i64 rb) := q0.cell 1; have a2 : W.cell? ⟨w.heap.size, 2, none⟩ = some (.int .i64 rc) := q0.cell 2; have a3 : W.cell? ⟨w.heap.size, 3, none⟩ = some (.int .i64 rr) := q0.cell 3; have b0 : W.cell? ⟨w.heap.size + 1, 0, none⟩ = some (.slice a n c) := q1.cell 0; have b1 : W.cell? ⟨w.heap.size + 1, 1, none⟩ = some (.int .i64 lo) := q1.cell 1; have b2 : W.cell? ⟨w.heap.size + 1, 2, none⟩ = some (.int .i64 hi) := q1.cell 2; have b3 : W.cell? ⟨w.heap.size + 1, 3, none⟩ = some (.int .i64 pr) := q1.cell 3; have b4 : W.cell? ⟨w.heap.size + 1, 4, none⟩ = some (.int .i64 ne) := q1.cell 4; have d0 : W.cell? ⟨w.heap.size + 1 + 1, 0, none⟩ = some (.int .i64 kn) := q2.cell 0; have cv : W.cell? ⟨w1.heap.size + 1, 0, none⟩ = some (.int .i64 v) := (by rw [HV.out]; exact q3.cell 0); clear q0 q1 q2 q3; go_simp; with_reducible rfl); simp only [Act.put, List.setIfInBounds_toArray, List.set_cons_zero, List.set_cons_succ])
        (refine PlanS.free (v := ?_) rfl (by rfl) (fun W hW => ?_) ?_; rotate_left; (obtain ⟨q0, q1, q2, q3⟩ := hW; have a0 : W.cell? ⟨w.heap.size, 0, none⟩ = some (.int .i64 ra) := q0.cell 0; have a1 : W.cell? ⟨w.heap.size, 1, none⟩ = some (.int .i64 rb) := q0.cell 1; have a2 : W.cell? ⟨w.heap.size, 2, none⟩ = some (.int .i64 rc) := q0.cell 2; have a3 : W.cell? ⟨w.heap.size, 3, none⟩ = some (.int .i64 rr) := q0.cell 3; have b0 : W.cell? ⟨w.heap.size + 1, 0, none⟩ = some (.slice a n c) := q1.cell 0; have b1 : W.cell? ⟨w.heap.size + 1, 1, none⟩ = some (.int .i64 lo) := q1.cell 1; have b2 : W.cell? ⟨w.heap.size + 1, 2, none⟩ = some (.int .i64 hi) := q1.cell 2; have b3 : W.cell? ⟨w.heap.size + 1, 3, none⟩ = some (.int .i64 pr) := q1.cell 3; have b4 : W.cell? ⟨w.heap.size + 1, 4, none⟩ = some (.int .i64 ne) := q1.cell 4; have d0 : W.cell? ⟨w.heap.size + 1 + 1, 0, none⟩ = some (.int .i64 kn) := q2.cell 0; have cv : W.cell? ⟨w1.heap.size + 1, 0, none⟩ = some (.int .i64 v) := (by rw [HV.out]; exact q3.cell 0); clear q0 q1 q2 q3; go_simp; with_reducible rfl); simp only [Act.put, List.setIfInBounds_toArray, List.set_cons_zero, List.set_cons_succ])
        (refine PlanS.free (v := ?_) rfl (by rfl) (fun W hW => ?_) ?_; rotate_left; (obtain ⟨q0, q1, q2, q3⟩ := hW; have a0 : W.cell? ⟨w.heap.size, 0, none⟩ = some (.int .i64 ra) := q0.cell 0; have a1 : W.cell? ⟨w.heap.size, 1, none⟩ = some (.int .i64 rb) := q0.cell 1; have a2 : W.cell? ⟨w.heap.size, 2, none⟩ = some (.int .i64 rc) := q0.cell 2; have a3 : W.cell? ⟨w.heap.size, 3, none⟩ = some (.int .i64 rr) := q0.cell 3; have b0 : W.cell? ⟨w.heap.size + 1, 0, none⟩ = some (.slice a n c) := q1.cell 0; have b1 : W.cell? ⟨w.heap.size + 1, 1, none⟩ = some (.int .i64 lo) := q1.cell 1; have b2 : W.cell? ⟨w.heap.size + 1, 2, none⟩ = some (.int .i64 hi) := q1.cell 2; have b3 : W.cell? ⟨w.heap.size + 1, 3, none⟩ = some (.int .i64 pr) := q1.cell 3; have b4 : W.cell? ⟨w.heap.size + 1, 4, none⟩ = some (.int .i64 ne) := q1.cell 4; have d0 : W.cell? ⟨w.heap.size + 1 + 1, 0, none⟩ = some (.int .i64 kn) := q2.cell 0; have cv : W.cell? ⟨w1.heap.size + 1, 0, none⟩ = some (.int .i64 v) := (by rw [HV.out]; exact q3.cell 0); clear q0 q1 q2 q3; go_simp; with_reducible rfl); simp only [Act.put, List.setIfInBounds_toArray, List.set_cons_zero, List.set_cons_succ])
        (refine PlanS.free (v := ?_) rfl (by rfl) (fun W hW => ?_) ?_; rotate_left; (obtain ⟨q0, q1, q2, q3⟩ := hW; have a0 : W.cell? ⟨w.heap.size, 0, none⟩ = some (.int .i64 ra) := q0.cell 0; have a1 : W.cell? ⟨w.heap.size, 1, none⟩ = some (.int .i64 rb) := q0.cell 1; have a2 : W.cell? ⟨w.heap.size, 2, none⟩ = some (.int .i64 rc) := q0.cell 2; have a3 : W.cell? ⟨w.heap.size, 3, none⟩ = some (.int .i64 rr) := q0.cell 3; have b0 : W.cell? ⟨w.heap.size + 1, 0, none⟩ = some (.slice a n c) := q1.cell 0; have b1 : W.cell? ⟨w.heap.size + 1, 1, none⟩ = some (.int .i64 lo) := q1.cell 1; have b2 : W.cell? ⟨w.heap.size + 1, 2, none⟩ = some (.int .i64 hi) := q1.cell 2; have b3 : W.cell? ⟨w.heap.size + 1, 3, none⟩ = some (.int .i64 pr) := q1.cell 3; have b4 : W.cell? ⟨w.heap.size + 1, 4, none⟩ = some (.int .i64 ne) := q1.cell 4; have d0 : W.cell? ⟨w.heap.size + 1 + 1, 0, none⟩ = some (.int .i64 kn) := q2.cell 0; have cv : W.cell? ⟨w1.heap.size + 1, 0, none⟩ = some (.int .i64 v) := (by rw [HV.out]; exact q3.cell 0); clear q0 q1 q2 q3; go_simp; with_reducible rfl); simp only [Act.put, List.setIfInBounds_toArray, List.set_cons_zero, List.set_cons_succ])
        (refine PlanS.free (v := ?_) rfl (by rfl) (fun W hW => ?_) ?_; rotate_left; (obtain ⟨q0, q1, q2, q3⟩ := hW; have a0 : W.cell? ⟨w.heap.size, 0, none⟩ = some (.int .i64 ra) := q0.cell 0; have a1 : W.cell? ⟨w.heap.size, 1, none⟩ = some (.int .i64 rb) := q0.cell 1; have a2 : W.cell? ⟨w.heap.size, 2, none⟩ = some (.int .i64 rc) := q0.cell 2; have a3 : W.cell? ⟨w.heap.size, 3, none⟩ = some (.int .i64 rr) := q0.cell 3; have b0 : W.cell? ⟨w.heap.size + 1, 0, none⟩ = some (.slice a n c) := q1.cell 0; have b1 : W.cell? ⟨w.heap.size + 1, 1, none⟩ = some (.int .i64 lo) := q1.cell 1; have b2 : W.cell? ⟨w.heap.size + 1, 2, none⟩ = some (.int .i64 hi) := q1.cell 2; have b3 : W.cell? ⟨w.heap.size + 1, 3, none⟩ = some (.int .i64 pr) := q1.cell 3; have b4 : W.cell? ⟨w.heap.size + 1, 4, none⟩ = some (.int .i64 ne) := q1.cell 4; have d0 : W.cell? ⟨w.heap.size + 1 + 1, 0, none⟩ = some (.int .i64 kn) := q2.cell 0; have cv : W.cell? ⟨w1.heap.size + 1, 0, none⟩ = some (.int .i64 v) := (by rw [HV.out]; exact q3.cell 0); clear q0 q1 q2 q3; go_simp; with_reducible rfl); simp only [Act.put, List.setIfInBounds_toArray, List.set_cons_zero, List.set_cons_succ])
        refine ⟨?_, ?_⟩
        · (refine wpOp_planS rfl (by rfl) (fun K hK => ?_); go_simp)
          refine (faces_any ra rb rc rr a n c ts lo hi pr ne _ _ _ (y4.below (Below.refl _ _).drew)).mono ?_; rw [HF1.out, HF2.out, HF.out]; rintro e w2 ⟨rfl, hb2⟩
          have hB2 : Below wr.heap.size wr w2 := ((Below.refl _ _).drew).trans (hb2.mono (by simp))
          have z2 := hB2.size
          have x1 := y1.below hB2 (by omega)
          have x2 := y2.below hB2 (by omega)
          have x3 := y3.below hB2 (by omega)
          have x5 := y5.below hB2 (by omega)
          go_simp
          refine hK.out _ _ ⟨x1, x2, x3, x5⟩ ?_
          clear hK K hb2
          (refine PlanS.free (v := ?_) rfl (by rfl) (fun W hW => ?_) ?_; rotate_left; (go_simp; with_reducible rfl); simp only [Act.put, List.setIfInBounds_toArray, List.set_cons_zero, List.set_cons_succ])
          (refine PlanS.free (v := ?_) rfl (by rfl) (fun W hW => ?_) ?_; rotate_left; (go_simp; with_reducible rfl); simp only [Act.put, List.setIfInBounds_toArray, List.set_cons_zero, List.set_cons_succ])
          (refine PlanS.free (v := ?_) rfl (by rfl) (fun W hW => ?_) ?_; rotate_left; (go_simp; with_reducible rfl); simp only [Act.put, List.setIfInBounds_toArray, List.set_cons_zero, List.set_cons_succ])
          (refine PlanS.call rfl (by rfl) (fun K hK => ?_); go_simp)
          refine hK.out _ _ ⟨x1.alloc _, x2.alloc _, x3.alloc _, x5.alloc _⟩ ?_
          clear hK K
          have bN := Box.new w2 #[.int .i64 0, .int .i64 0] 27
          have m0 := bN.cell 0; have m1 := bN.cell 1; have m2 := bN.free 0; have m3 := bN.free 1
          simp at m0 m1 m2 m3
          (refine PlanS.call rfl (by rfl) (fun K hK => ?_); go_simp)
          refine hK.out _ _ ⟨x1.alloc _, x2.alloc _, x3.alloc _, x5.alloc _⟩ ?_
          clear hK K
          have bR := Box.new w2 #[.int .i64 f1, .int .i64 f2] 27
          have g0 := bR.cell 0; have g1 := bR.cell 1
          have g2 := (x3.alloc (.cells #[.int .i64 f1, .int .i64 f2] 27)).cell 2
          simp at g0 g1 g2
          clear m0 m1 m2 m3
          (refine PlanS.free (v := ?_) rfl (by rfl) (fun W hW => ?_) ?_; rotate_left; (go_simp; with_reducible rfl); simp only [Act.put, List.setIfInBounds_toArray, List.set_cons_zero, List.set_cons_succ])
          refine PlanS.end' ?_
          have hN := (hb.trans (hB2.mono (by omega))).alloc (by omega) (.cells #[.int .i64 f1, .int .i64 f2] 27)
          go_wp2_with fail
          go_roundw
          case rel => exact ⟨hN, by simp⟩
          case measure => simp [intOf]
        · (refine wpOp_planS rfl (by rfl) (fun K hK => ?_); go_simp)
          refine hK.out _ _ ⟨y1.alloc _, y2.alloc _, y3.alloc _, y5.alloc _⟩ ?_
          clear hK K
          (refine PlanS.call rfl (by rfl) (fun K hK => ?_); go_simp)
          refine (faces_any ra rb rc rr a n c ts lo hi pr ne _ _ _ (y4.below ((Below.refl _ _).drew.alloc (by simp) _))).mono ?_; rw [HF1.out, HF2.out, HF.out]; rintro e w2 ⟨rfl, hb2⟩
          have hB2 : Below wr.heap.size wr w2 := ((Below.refl _ _).drew.alloc (by simp) _).trans (hb2.mono (by simp))
          have z2 := hb2.size
          simp at z2
          have x1 := y1.below hB2 (by omega)
          have x2 := y2.below hB2 (by omega)
          have x3 := y3.below hB2 (by omega)
          have x5 := y5.below hB2 (by omega)
          have bN := (Box.new wr.drew #[.int .i64 0, .int .i64 0] 27).below hb2 (by simp)
          have m0 := bN.cell 0; have m1 := bN.cell 1; have m2 := bN.free 0; have m3 := bN.free 1
          simp at m0 m1 m2 m3
          go_simp
          refine hK.out _ _ ⟨x1, x2, x3, x5⟩ ?_
          clear hK K hb2
          (refine PlanS.free (v := ?_) rfl (by rfl) (fun W hW => ?_) ?_; rotate_left; (go_simp; with_reducible rfl); simp only [Act.put, List.setIfInBounds_toArray, List.set_cons_zero, List.set_cons_succ])
          (refine PlanS.free (v := ?_) rfl (by rfl) (fun W hW => ?_) ?_; rotate_left; (go_simp; with_reducible rfl); simp only [Act.put, List.setIfInBounds_toArray, List.set_cons_zero, List.set_cons_succ])
          (refine PlanS.free (v := ?_) rfl (by rfl) (fun W hW => ?_) ?_; rotate_left; (go_simp; with_reducible rfl); simp only [Act.put, List.setIfInBounds_toArray, List.set_cons_zero, List.set_cons_succ])
          (refine PlanS.call rfl (by rfl) (fun K hK => ?_); go_simp)
          refine hK.out _ _ ⟨(x1.other (by dsimp only; omega) _).other (by dsimp only; omega) _, (x2.other (by dsimp only; omega) _).other (by dsimp only; omega) _, (x3.other (by dsimp only; omega) _).other (by dsimp only; omega) _, (x5.other (by dsimp only; omega) _).other (by dsimp only; omega) _⟩ ?_
          clear hK K
          have bR := (bN.set 0 (.int .i64 f1)).set 1 (.int .i64 f2)
          have g0 := bR.cell 0; have g1 := bR.cell 1
          have g2 := ((x3.other (p := ⟨wr.heap.size, 0, none⟩) (by dsimp only; omega) (.int .i64 f1)).other (p := ⟨wr.heap.size, 1, none⟩) (by dsimp only; omega) (.int .i64 f2)).cell 2
          simp at g0 g1 g2
          clear m0 m1 m2 m3
          (refine PlanS.free (v := ?_) rfl (by rfl) (fun W hW => ?_) ?_; rotate_left; (go_simp; with_reducible rfl); simp only [Act.put, List.setIfInBounds_toArray, List.set_cons_zero, List.set_cons_succ])
          refine PlanS.end' ?_
          have hN := ((hb.trans (hB2.mono (by omega))).setCell (p := ⟨wr.heap.size, 0, none⟩) (by dsimp only; omega) (.int .i64 f1)).setCell (p := ⟨wr.heap.size, 1, none⟩) (by dsimp only; omega) (.int .i64 f2)
          go_wp2_with fail
          go_roundw
          case rel => exact ⟨hN, by simp⟩
          case measure => simp [intOf]
    · obtain ⟨v, hv⟩ : ∃ v : Int, v = r1 := ⟨_, rfl⟩
      have HV := Lib.hid hv
      have cv : wr.cell? ⟨w1.heap.size + 1, 1, none⟩ = some (.int .i64 v) := by rw [hv]; exact y5.cell 1
      have HC : Hid (0 ≤ v → v ≤ 200 → n2 ≤ (facesR ⟨ra, rb, rc, rr⟩ ⟨ts, lo, hi, pr, ne⟩ kn v).2) := Lib.hid fun h0 h1 => HSh.out.b v HV.out h1
      clear hv
      rcases hI : frB v 0 200 with _ | _
      · have HI := Lib.hid hI
        clear hI
        go_wp2_with (go_at_call 45; refine (refIn_any _ _ _ _).mono ?_; rw [HI.out]; rintro e w' ⟨rfl, rfl⟩)
        go_roundw
        case rel => exact ⟨hb, by simp⟩
        case measure => simp [intOf]
      · have HI := Lib.hid hI
        obtain ⟨hv0, hv2⟩ := frB_iff.1 hI
        have hf := HFE.out v ⟨hv0, hv2⟩
        have hcv := HC.out hv0 hv2
        clear hI HC
        obtain ⟨f1, hf1⟩ : ∃ z, (facesR ⟨ra, rb, rc, rr⟩ ⟨ts, lo, hi, pr, ne⟩ kn v).1 = z := ⟨_, rfl⟩
        obtain ⟨f2, hf2⟩ : ∃ z, (facesR ⟨ra, rb, rc, rr⟩ ⟨ts, lo, hi, pr, ne⟩ kn v).2 = z := ⟨_, rfl⟩
        have hcv2 : n2 ≤ f2 := by rw [← hf2]; exact hcv
        clear hcv
        have HF := Lib.hid hf
        have HF1 := Lib.hid hf1
        have HF2 := Lib.hid hf2
        clear hf hf1 hf2
        have hz := hHZ.out
        go_wp2_with (go_at_call 45; refine (refIn_any _ _ _ _).mono ?_; rw [HI.out]; rintro e w' ⟨rfl, rfl⟩)
        refine region_planS (fun W => Box W w.heap.size #[.int .i64 ra, .int .i64 rb, .int .i64 rc, .int .i64 rr] 24 ∧ Box W (w.heap.size + 1) #[.slice a n c, .int .i64 lo, .int .i64 hi, .int .i64 pr, .int .i64 ne] 29 ∧ Box W (w.heap.size + 1 + 1) #[.int .i64 kn, .int .i64 n1, .int .i64 n2] 22 ∧ Box W (w1.heap.size + 1) #[.int .i64 (r1 - 1), .int .i64 r1, .int .i64 (r2 - 1), .int .i64 r2] 3) (.take 0 (.take 1 (.take 2 (.take 3 (.take 4 (.take 5 (.take 6 (.take 7 (.two 8 12 (.take 9 (.take 10 (.take 11 (.one 12 (.one 13 (.take 14 .done)))))) (.one 8 (.take 9 (.take 10 (.take 11 (.one 13 (.take 14 .done)))))))))))))))
          (by kernel_rfl) (by kernel_rfl) (by kernel_rfl) (by simp [Plan.depth]) (fun _ _ _ _ h => h) ⟨y1, y2, y3, y5⟩ ?_
        (refine PlanS.free (v := ?_) rfl (by rfl) (fun W hW => ?_) ?_; rotate_left; (obtain ⟨q0, q1, q2, q3⟩ := hW; have a0 : W.cell? ⟨w.heap.size, 0, none⟩ = some (.int .i64 ra) := q0.cell 0; have a1 : W.cell? ⟨w.heap.size, 1, none⟩ = some (.int .i64 rb) := q0.cell 1; have a2 : W.cell? ⟨w.heap.size, 2, none⟩ = some (.int .i64 rc) := q0.cell 2; have a3 : W.cell? ⟨w.heap.size, 3, none⟩ = some (.int .i64 rr) := q0.cell 3; have b0 : W.cell? ⟨w.heap.size + 1, 0, none⟩ = some (.slice a n c) := q1.cell 0; have b1 : W.cell? ⟨w.heap.size + 1, 1, none⟩ = some (.int .i64 lo) := q1.cell 1; have b2 : W.cell? ⟨w.heap.size + 1, 2, none⟩ = some (.int .i64 hi) := q1.cell 2; have b3 : W.cell? ⟨w.heap.size + 1, 3, none⟩ = some (.int .i64 pr) := q1.cell 3; have b4 : W.cell? ⟨w.heap.size + 1, 4, none⟩ = some (.int .i64 ne) := q1.cell 4; have d0 : W.cell? ⟨w.heap.size + 1 + 1, 0, none⟩ = some (.int .i64 kn) := q2.cell 0; have cv : W.cell? ⟨w1.heap.size + 1, 1, none⟩ = some (.int .i64 v) := (by rw [HV.out]; exact q3.cell 1); clear q0 q1 q2 q3; go_simp; with_reducible rfl); simp only [Act.put, List.setIfInBounds_toArray, List.set_cons_zero, List.set_cons_succ])
        (refine PlanS.free (v := ?_) rfl (by rfl) (fun W hW => ?_) ?_; rotate_left; (obtain ⟨q0, q1, q2, q3⟩ := hW; have a0 : W.cell? ⟨w.heap.size, 0, none⟩ = some (.int .i64 ra) := q0.cell 0; have a1 : W.cell? ⟨w.heap.size, 1, none⟩ = some (.int .i64 rb) := q0.cell 1; have a2 : W.cell? ⟨w.heap.size, 2, none⟩ = some (.int .i64 rc) := q0.cell 2; have a3 : W.cell? ⟨w.heap.size, 3, none⟩ = some (.int .i64 rr) := q0.cell 3; have b0 : W.cell? ⟨w.heap.size + 1, 0, none⟩ = some (.slice a n c) := q1.cell 0; have b1 : W.cell? ⟨w.heap.size + 1, 1, none⟩ = some (.int .i64 lo) := q1.cell 1; have b2 : W.cell? ⟨w.heap.size + 1, 2, none⟩ = some (.int .i64 hi) := q1.cell 2; have b3 : W.cell? ⟨w.heap.size + 1, 3, none⟩ = some (.int .i64 pr) := q1.cell 3; have b4 : W.cell? ⟨w.heap.size + 1, 4, none⟩ = some (.int .i64 ne) := q1.cell 4; have d0 : W.cell? ⟨w.heap.size + 1 + 1, 0, none⟩ = some (.int .i64 kn) := q2.cell 0; have cv : W.cell? ⟨w1.heap.size + 1, 1, none⟩ = some (.int .i64 v) := (by rw [HV.out]; exact q3.cell 1); clear q0 q1 q2 q3; go_simp; with_reducible rfl); simp only [Act.put, List.setIfInBounds_toArray, List.set_cons_zero, List.set_cons_succ])
        (refine PlanS.free (v := ?_) rfl (by rfl) (fun W hW => ?_) ?_; rotate_left; (obtain ⟨q0, q1, q2, q3⟩ := hW; have a0 : W.cell? ⟨w.heap.size, 0, none⟩ = some (.int .i64 ra) := q0.cell 0; have a1 : W.cell? ⟨w.heap.size, 1, none⟩ = some (.int .i64 rb) := q0.cell 1; have a2 : W.cell? ⟨w.heap.size, 2, none⟩ = some (.int .i64 rc) := q0.cell 2; have a3 : W.cell? ⟨w.heap.size, 3, none⟩ = some (.int .i64 rr) := q0.cell 3; have b0 : W.cell? ⟨w.heap.size + 1, 0, none⟩ = some (.slice a n c) := q1.cell 0; have b1 : W.cell? ⟨w.heap.size + 1, 1, none⟩ = some (.int .i64 lo) := q1.cell 1; have b2 : W.cell? ⟨w.heap.size + 1, 2, none⟩ = some (.int .i64 hi) := q1.cell 2; have b3 : W.cell? ⟨w.heap.size + 1, 3, none⟩ = some (.int .i64 pr) := q1.cell 3; have b4 : W.cell? ⟨w.heap.size + 1, 4, none⟩ = some (.int .i64 ne) := q1.cell 4; have d0 : W.cell? ⟨w.heap.size + 1 + 1, 0, none⟩ = some (.int .i64 kn) := q2.cell 0; have cv : W.cell? ⟨w1.heap.size + 1, 1, none⟩ = some (.int .i64 v) := (by rw [HV.out]; exact q3.cell 1); clear q0 q1 q2 q3; go_simp; with_reducible rfl); simp only [Act.put, List.setIfInBounds_toArray, List.set_cons_zero, List.set_cons_succ])
        (refine PlanS.free (v := ?_) rfl (by rfl) (fun W hW => ?_) ?_; rotate_left; (obtain ⟨q0, q1, q2, q3⟩ := hW; have a0 : W.cell? ⟨w.heap.size, 0, none⟩ = some (.int .i64 ra) := q0.cell 0; have a1 : W.cell? ⟨w.heap.size, 1, none⟩ = some (.int .i64 rb) := q0.cell 1; have a2 : W.cell? ⟨w.heap.size, 2, none⟩ = some (.int .i64 rc) := q0.cell 2; have a3 : W.cell? ⟨w.heap.size, 3, none⟩ = some (.int .i64 rr) := q0.cell 3; have b0 : W.cell? ⟨w.heap.size + 1, 0, none⟩ = some (.slice a n c) := q1.cell 0; have b1 : W.cell? ⟨w.heap.size + 1, 1, none⟩ = some (.int .i64 lo) := q1.cell 1; have b2 : W.cell? ⟨w.heap.size + 1, 2, none⟩ = some (.int .i64 hi) := q1.cell 2; have b3 : W.cell? ⟨w.heap.size + 1, 3, none⟩ = some (.int .i64 pr) := q1.cell 3; have b4 : W.cell? ⟨w.heap.size + 1, 4, none⟩ = some (.int .i64 ne) := q1.cell 4; have d0 : W.cell? ⟨w.heap.size + 1 + 1, 0, none⟩ = some (.int .i64 kn) := q2.cell 0; have cv : W.cell? ⟨w1.heap.size + 1, 1, none⟩ = some (.int .i64 v) := (by rw [HV.out]; exact q3.cell 1); clear q0 q1 q2 q3; go_simp; with_reducible rfl); simp only [Act.put, List.setIfInBounds_toArray, List.set_cons_zero, List.set_cons_succ])
        (refine PlanS.free (v := ?_) rfl (by rfl) (fun W hW => ?_) ?_; rotate_left; (obtain ⟨q0, q1, q2, q3⟩ := hW; have a0 : W.cell? ⟨w.heap.size, 0, none⟩ = some (.int .i64 ra) := q0.cell 0; have a1 : W.cell? ⟨w.heap.size, 1, none⟩ = some (.int .i64 rb) := q0.cell 1; have a2 : W.cell? ⟨w.heap.size, 2, none⟩ = some (.int .i64 rc) := q0.cell 2; have a3 : W.cell? ⟨w.heap.size, 3, none⟩ = some (.int .i64 rr) := q0.cell 3; have b0 : W.cell? ⟨w.heap.size + 1, 0, none⟩ = some (.slice a n c) := q1.cell 0; have b1 : W.cell? ⟨w.heap.size + 1, 1, none⟩ = some (.int .i64 lo) := q1.cell 1; have b2 : W.cell? ⟨w.heap.size + 1, 2, none⟩ = some (.int .i64 hi) := q1.cell 2; have b3 : W.cell? ⟨w.heap.size + 1, 3, none⟩ = some (.int .i64 pr) := q1.cell 3; have b4 : W.cell? ⟨w.heap.size + 1, 4, none⟩ = some (.int .i64 ne) := q1.cell 4; have d0 : W.cell? ⟨w.heap.size + 1 + 1, 0, none⟩ = some (.int .i64 kn) := q2.cell 0; have cv : W.cell? ⟨w1.heap.size + 1, 1, none⟩ = some (.int .i64 v) := (by rw [HV.out]; exact q3.cell 1); clear q0 q1 q2 q3; go_simp; with_reducible rfl); simp only [Act.put, List.setIfInBounds_toArray, List.set_cons_zero, List.set_cons_succ])
        (refine PlanS.free (v := ?_) rfl (by rfl) (fun W hW => ?_) ?_; rotate_left; (obtain ⟨q0, q1, q2, q3⟩ := hW; have a0 : W.cell? ⟨w.heap.size, 0, none⟩ = some (.int .i64 ra) := q0.cell 0; have a1 : W.cell? ⟨w.heap.size, 1, none⟩ = some (.int .i64 rb) := q0.cell 1; have a2 : W.cell? ⟨w.heap.size, 2, none⟩ = some (.int .i64 rc) := q0.cell 2; have a3 : W.cell? ⟨w.heap.size, 3, none⟩ = some (.int .i64 rr) := q0.cell 3; have b0 : W.cell? ⟨w.heap.size + 1, 0, none⟩ = some (.slice a n c) := q1.cell 0; have b1 : W.cell? ⟨w.heap.size + 1, 1, none⟩ = some (.int .i64 lo) := q1.cell 1; have b2 : W.cell? ⟨w.heap.size + 1, 2, none⟩ = some (.int .i64 hi) := q1.cell 2; have b3 : W.cell? ⟨w.heap.size + 1, 3, none⟩ = some (.int .i64 pr) := q1.cell 3; have b4 : W.cell? ⟨w.heap.size + 1, 4, none⟩ = some (.int .i64 ne) := q1.cell 4; have d0 : W.cell? ⟨w.heap.size + 1 + 1, 0, none⟩ = some (.int .i64 kn) := q2.cell 0; have cv : W.cell? ⟨w1.heap.size + 1, 1, none⟩ = some (.int .i64 v) := (by rw [HV.out]; exact q3.cell 1); clear q0 q1 q2 q3; go_simp; with_reducible rfl); simp only [Act.put, List.setIfInBounds_toArray, List.set_cons_zero, List.set_cons_succ])
        (refine PlanS.free (v := ?_) rfl (by rfl) (fun W hW => ?_) ?_; rotate_left; (obtain ⟨q0, q1, q2, q3⟩ := hW; have a0 : W.cell? ⟨w.heap.size, 0, none⟩ = some (.int .i64 ra) := q0.cell 0; have a1 : W.cell? ⟨w.heap.size, 1, none⟩ = some (.int .i64 rb) := q0.cell 1; have a2 : W.cell? ⟨w.heap.size, 2, none⟩ = some (.int .i64 rc) := q0.cell 2; have a3 : W.cell? ⟨w.heap.size, 3, none⟩ = some (.int .i64 rr) := q0.cell 3; have b0 : W.cell? ⟨w.heap.size + 1, 0, none⟩ = some (.slice a n c) := q1.cell 0; have b1 : W.cell? ⟨w.heap.size + 1, 1, none⟩ = some (.int .i64 lo) := q1.cell 1; have b2 : W.cell? ⟨w.heap.size + 1, 2, none⟩ = some (.int .i64 hi) := q1.cell 2; have b3 : W.cell? ⟨w.heap.size + 1, 3, none⟩ = some (.int .i64 pr) := q1.cell 3; have b4 : W.cell? ⟨w.heap.size + 1, 4, none⟩ = some (.int .i64 ne) := q1.cell 4; have d0 : W.cell? ⟨w.heap.size + 1 + 1, 0, none⟩ = some (.int .i64 kn) := q2.cell 0; have cv : W.cell? ⟨w1.heap.size + 1, 1, none⟩ = some (.int .i64 v) := (by rw [HV.out]; exact q3.cell 1); clear q0 q1 q2 q3; go_simp; with_reducible rfl); simp only [Act.put, List.setIfInBounds_toArray, List.set_cons_zero, List.set_cons_succ])
        (refine PlanS.free (v := ?_) rfl (by rfl) (fun W hW => ?_) ?_; rotate_left; (obtain ⟨q0, q1, q2, q3⟩ := hW; have a0 : W.cell? ⟨w.heap.size, 0, none⟩ = some (.int .i64 ra) := q0.cell 0; have a1 : W.cell? ⟨w.heap.size, 1, none⟩ = some (.int .i64 rb) := q0.cell 1; have a2 : W.cell? ⟨w.heap.size, 2, none⟩ = some (.int .i64 rc) := q0.cell 2; have a3 : W.cell? ⟨w.heap.size, 3, none⟩ = some (.int .i64 rr) := q0.cell 3; have b0 : W.cell? ⟨w.heap.size + 1, 0, none⟩ = some (.slice a n c) := q1.cell 0; have b1 : W.cell? ⟨w.heap.size + 1, 1, none⟩ = some (.int .i64 lo) := q1.cell 1; have b2 : W.cell? ⟨w.heap.size + 1, 2, none⟩ = some (.int .i64 hi) := q1.cell 2; have b3 : W.cell? ⟨w.heap.size + 1, 3, none⟩ = some (.int .i64 pr) := q1.cell 3; have b4 : W.cell? ⟨w.heap.size + 1, 4, none⟩ = some (.int .i64 ne) := q1.cell 4; have d0 : W.cell? ⟨w.heap.size + 1 + 1, 0, none⟩ = some (.int .i64 kn) := q2.cell 0; have cv : W.cell? ⟨w1.heap.size + 1, 1, none⟩ = some (.int .i64 v) := (by rw [HV.out]; exact q3.cell 1); clear q0 q1 q2 q3; go_simp; with_reducible rfl); simp only [Act.put, List.setIfInBounds_toArray, List.set_cons_zero, List.set_cons_succ])
        refine ⟨?_, ?_⟩
        · (refine wpOp_planS rfl (by rfl) (fun K hK => ?_); go_simp)
          refine (faces_any ra rb rc rr a n c ts lo hi pr ne _ _ _ (y4.below (Below.refl _ _).drew)).mono ?_; rw [HF1.out, HF2.out, HF.out]; rintro e w2 ⟨rfl, hb2⟩
          have hB2 : Below wr.heap.size wr w2 := ((Below.refl _ _).drew).trans (hb2.mono (by simp))
          have z2 := hB2.size
          have x1 := y1.below hB2 (by omega)
          have x2 := y2.below hB2 (by omega)
          have x3 := y3.below hB2 (by omega)
          have x5 := y5.below hB2 (by omega)
          go_simp
          refine hK.out _ _ ⟨x1, x2, x3, x5⟩ ?_
          clear hK K hb2
          (refine PlanS.free (v := ?_) rfl (by rfl) (fun W hW => ?_) ?_; rotate_left; (go_simp; with_reducible rfl); simp only [Act.put, List.setIfInBounds_toArray, List.set_cons_zero, List.set_cons_succ])
          (refine PlanS.free (v := ?_) rfl (by rfl) (fun W hW => ?_) ?_; rotate_left; (go_simp; with_reducible rfl); simp only [Act.put, List.setIfInBounds_toArray, List.set_cons_zero, List.set_cons_succ])
          (refine PlanS.free (v := ?_) rfl (by rfl) (fun W hW => ?_) ?_; rotate_left; (go_simp; with_reducible rfl); simp only [Act.put, List.setIfInBounds_toArray, List.set_cons_zero, List.set_cons_succ])
          (refine PlanS.call rfl (by rfl) (fun K hK => ?_); go_simp)
          refine hK.out _ _ ⟨x1.alloc _, x2.alloc _, x3.alloc _, x5.alloc _⟩ ?_
          clear hK K
          have bN := Box.new w2 #[.int .i64 0, .int .i64 0] 27
          have m0 := bN.cell 0; have m1 := bN.cell 1; have m2 := bN.free 0; have m3 := bN.free 1
          simp at m0 m1 m2 m3
          (refine PlanS.call rfl (by rfl) (fun K hK => ?_); go_simp)
          refine hK.out _ _ ⟨x1.alloc _, x2.alloc _, x3.alloc _, x5.alloc _⟩ ?_
          clear hK K
          have bR := Box.new w2 #[.int .i64 f1, .int .i64 f2] 27
          have g0 := bR.cell 0; have g1 := bR.cell 1
          have g2 := (x3.alloc (.cells #[.int .i64 f1, .int .i64 f2] 27)).cell 2
          simp at g0 g1 g2
          clear m0 m1 m2 m3
          (refine PlanS.free (v := ?_) rfl (by rfl) (fun W hW => ?_) ?_; rotate_left; (go_simp; with_reducible rfl); simp only [Act.put, List.setIfInBounds_toArray, List.set_cons_zero, List.set_cons_succ])
          refine PlanS.end' ?_
          have hN := (hb.trans (hB2.mono (by omega))).alloc (by omega) (.cells #[.int .i64 f1, .int .i64 f2] 27)
          go_wp2_with fail
          go_roundw
          case rel => exact ⟨hN, by simp⟩
          case measure => simp [intOf]
        · (refine wpOp_planS rfl (by rfl) (fun K hK => ?_); go_simp)
          refine hK.out _ _ ⟨y1.alloc _, y2.alloc _, y3.alloc _, y5.alloc _⟩ ?_
          clear hK K
          (refine PlanS.call rfl (by rfl) (fun K hK => ?_); go_simp)
          refine (faces_any ra rb rc rr a n c ts lo hi pr ne _ _ _ (y4.below ((Below.refl _ _).drew.alloc (by simp) _))).mono ?_; rw [HF1.out, HF2.out, HF.out]; rintro e w2 ⟨rfl, hb2⟩
          have hB2 : Below wr.heap.size wr w2 := ((Below.refl _ _).drew.alloc (by simp) _).trans (hb2.mono (by simp))
          have z2 := hb2.size
          simp at z2
          have x1 := y1.below hB2 (by omega)
          have x2 := y2.below hB2 (by omega)
          have x3 := y3.below hB2 (by omega)
          have x5 := y5.below hB2 (by omega)
          have bN := (Box.new wr.drew #[.int .i64 0, .int .i64 0] 27).below hb2 (by simp)
          have m0 := bN.cell 0; have m1 := bN.cell 1; have m2 := bN.free 0; have m3 := bN.free 1
          simp at m0 m1 m2 m3
          go_simp
          refine hK.out _ _ ⟨x1, x2, x3, x5⟩ ?_
          clear hK K hb2
          (refine PlanS.free (v := ?_) rfl (by rfl) (fun W hW => ?_) ?_; rotate_left; (go_simp; with_reducible rfl); simp only [Act.put, List.setIfInBounds_toArray, List.set_cons_zero, List.set_cons_succ])
          (refine PlanS.free (v := ?_) rfl (by rfl) (fun W hW => ?_) ?_; rotate_left; (go_simp; with_reducible rfl); simp only [Act.put, List.setIfInBounds_toArray, List.set_cons_zero, List.set_cons_succ])
          (refine PlanS.free (v := ?_) rfl (by rfl) (fun W hW => ?_) ?_; rotate_left; (go_simp; with_reducible rfl); simp only [Act.put, List.setIfInBounds_toArray, List.set_cons_zero, List.set_cons_succ])
          (refine PlanS.call rfl (by rfl) (fun K hK => ?_); go_simp)
          refine hK.out _ _ ⟨(x1.other (by dsimp only; omega) _).other (by dsimp only; omega) _, (x2.other (by dsimp only; omega) _).other (by dsimp only; omega) _, (x3.other (by dsimp only; omega) _).other (by dsimp only; omega) _, (x5.other (by dsimp only; omega) _).other (by dsimp only; omega) _⟩ ?_
          clear hK K
          have bR := (bN.set 0 (.int .i64 f1)).set 1 (.int .i64 f2)
          have g0 := bR.cell 0; have g1 := bR.cell 1
          have g2 := ((x3.other (p := ⟨wr.heap.size, 0, none⟩) (by dsimp only; omega) (.int .i64 f1)).other (p := ⟨wr.heap.size, 1, none⟩) (by dsimp only; omega) (.int .i64 f2)).cell 2
          simp at g0 g1 g2
          clear m0 m1 m2 m3
          (refine PlanS.free (v := ?_) rfl (by rfl) (fun W hW => ?_) ?_; rotate_left; (go_simp; with_reducible rfl); simp only [Act.put, List.setIfInBounds_toArray, List.set_cons_zero, List.set_cons_succ])
          refine PlanS.end' ?_
          have hN := ((hb.trans (hB2.mono (by omega))).setCell (p := ⟨wr.heap.size, 0, none⟩) (by dsimp only; omega) (.int .i64 f1)).setCell (p := ⟨wr.heap.size, 1, none⟩) (by dsimp only; omega) (.int .i64 f2)
          go_wp2_with fail
          go_roundw
          case rel => exact ⟨hN, by simp⟩
          case measure => simp [intOf]
    · obtain ⟨v, hv⟩ : ∃ v : Int, v = r2 - 1 := ⟨_, rfl⟩
      have HV := Lib.hid hv
      have cv : wr.cell? ⟨w1.heap.size + 1, 2, none⟩ = some (.int .i64 v) := by rw [hv]; exact y5.cell 2
      have HC : Hid (0 ≤ v → v ≤ 200 → (facesR ⟨ra, rb, rc, rr⟩ ⟨ts, lo, hi, pr, ne⟩ kn v).1 < n2) := Lib.hid fun h0 h1 => HSh.out.c v HV.out h0 h1
      clear hv
      rcases hI : frB v 0 200 with _ | _
      · have HI := Lib.hid hI
        clear hI
        go_wp2_with (go_at_call 45; refine (refIn_any _ _ _ _).mono ?_; rw [HI.out]; rintro e w' ⟨rfl, rfl⟩)
        go_roundw
        case rel => exact ⟨hb, by simp⟩
        case measure => simp [intOf]
      · have HI := Lib.hid hI
        obtain ⟨hv0, hv2⟩ := frB_iff.1 hI
        have hf := HFE.out v ⟨hv0, hv2⟩
        have hcv := HC.out hv0 hv2
        clear hI HC
        obtain ⟨f1, hf1⟩ : ∃ z, (facesR ⟨ra, rb, rc, rr⟩ ⟨ts, lo, hi, pr, ne⟩ kn v).1 = z := ⟨_, rfl⟩
        obtain ⟨f2, hf2⟩ : ∃ z, (facesR ⟨ra, rb, rc, rr⟩ ⟨ts, lo, hi, pr, ne⟩ kn v).2 = z := ⟨_, rfl⟩
        have hcv2 : f1 < n2 := by rw [← hf1]; exact hcv
        clear hcv
        have HF := Lib.hid hf
        have HF1 := Lib.hid hf1
        have HF2 := Lib.hid hf2
        clear hf hf1 hf2
        have hz := hHZ.out
        go_wp2_with (go_at_call 45; refine (refIn_any _ _ _ _).mono ?_; rw [HI.out]; rintro e w' ⟨rfl, rfl⟩)
        refine region_planS (fun W => Box W w.heap.size #[.int .i64 ra, .int .i64 rb, .int .i64 rc, .int .i64 rr] 24 ∧ Box W (w.heap.size + 1) #[.slice a n c, .int .i64 lo, .int .i64 hi, .int .i64 pr, .int .i64 ne] 29 ∧ Box W (w.heap.size + 1 + 1) #[.int .i64 kn, .int .i64 n1, .int .i64 n2] 22 ∧ Box W (w1.heap.size + 1) #[.int .i64 (r1 - 1), .int .i64 r1, .int .i64 (r2 - 1), .int .i64 r2] 3) (.take 0 (.take 1 (.take 2 (.take 3 (.take 4 (.take 5 (.take 6 (.take 7 (.two 8 12 (.take 9 (.take 10 (.take 11 (.one 12 (.one 13 (.take 14 .done)))))) (.one 8 (.take 9 (.take 10 (.take 11 (.one 13 (.take 14 .done)))))))))))))))
          (by kernel_rfl) (by kernel_rfl) (by kernel_rfl) (by simp [Plan.depth]) (fun _ _ _ _ h => h) ⟨y1, y2, y3, y5⟩ ?_
        (refine PlanS.free (v := ?_) rfl (by rfl) (fun W hW => ?_) ?_; rotate_left; (obtain ⟨q0, q1, q2, q3⟩ := hW; have a0 : W.cell? ⟨w.heap.size, 0, none⟩ = some (.int .i64 ra) := q0.cell 0; have a1 : W.cell? ⟨w.heap.size, 1, none⟩ = some (.int .i64 rb) := q0.cell 1; have a2 : W.cell? ⟨w.heap.size, 2, none⟩ = some (.int .i64 rc) := q0.cell 2; have a3 : W.cell? ⟨w.heap.size, 3, none⟩ = some (.int .i64 rr) := q0.cell 3; have b0 : W.cell? ⟨w.heap.size + 1, 0, none⟩ = some (.slice a n c) := q1.cell 0; have b1 : W.cell? ⟨w.heap.size + 1, 1, none⟩ = some (.int .i64 lo) := q1.cell 1; have b2 : W.cell? ⟨w.heap.size + 1, 2, none⟩ = some (.int .i64 hi) := q1.cell 2; have b3 : W.cell? ⟨w.heap.size + 1, 3, none⟩ = some (.int .i64 pr) := q1.cell 3; have b4 : W.cell? ⟨w.heap.size + 1, 4, none⟩ = some (.int .i64 ne) := q1.cell 4; have d0 : W.cell? ⟨w.heap.size + 1 + 1, 0, none⟩ = some (.int .i64 kn) := q2.cell 0; have cv : W.cell? ⟨w1.heap.size + 1, 2, none⟩ = some (.int .i64 v) := (by rw [HV.out]; exact q3.cell 2); clear q0 q1 q2 q3; go_simp; with_reducible rfl); simp only [Act.put, List.setIfInBounds_toArray, List.set_cons_zero, List.set_cons_succ])
        (refine PlanS.free (v := ?_) rfl (by rfl) (fun W hW => ?_) ?_; rotate_left; (obtain ⟨q0, q1, q2, q3⟩ := hW; have a0 : W.cell? ⟨w.heap.size, 0, none⟩ = some (.int .i64 ra) := q0.cell 0; have a1 : W.cell? ⟨w.heap.size, 1, none⟩ = some (.int .i64 rb) := q0.cell 1; have a2 : W.cell? ⟨w.heap.size, 2, none⟩ = some (.int .i64 rc) := q0.cell 2; have a3 : W.cell? ⟨w.heap.size, 3, none⟩ = some (.int .i64 rr) := q0.cell 3; have b0 : W.cell? ⟨w.heap.size + 1, 0, none⟩ = some (.slice a n c) := q1.cell 0; have b1 : W.cell? ⟨w.heap.size + 1, 1, none⟩ = some (.int .i64 lo) := q1.cell 1; have b2 : W.cell? ⟨w.heap.size + 1, 2, none⟩ = some (.int .i64 hi) := q1.cell 2; have b3 : W.cell? ⟨w.heap.size + 1, 3, none⟩ = some (.int .i64 pr) := q1.cell 3; have b4 : W.cell? ⟨w.heap.size + 1, 4, none⟩ = some (.int .i64 ne) := q1.cell 4; have d0 : W.cell? ⟨w.heap.size + 1 + 1, 0, none⟩ = some (.int .i64 kn) := q2.cell 0; have cv : W.cell? ⟨w1.heap.size + 1, 2, none⟩ = some (.int .i64 v) := (by rw [HV.out]; exact q3.cell 2); clear q0 q1 q2 q3; go_simp; with_reducible rfl); simp only [Act.put, List.setIfInBounds_toArray, List.set_cons_zero, List.set_cons_succ])
        (refine PlanS.free (v := ?_) rfl (by rfl) (fun W hW => ?_) ?_; rotate_left; (obtain ⟨q0, q1, q2, q3⟩ := hW; have a0 : W.cell? ⟨w.heap.size, 0, none⟩ = some (.int .i64 ra) := q0.cell 0; have a1 : W.cell? ⟨w.heap.size, 1, none⟩ = some (.int .i64 rb) := q0.cell 1; have a2 : W.cell? ⟨w.heap.size, 2, none⟩ = some (.int .i64 rc) := q0.cell 2; have a3 : W.cell? ⟨w.heap.size, 3, none⟩ = some (.int .i64 rr) := q0.cell 3; have b0 : W.cell? ⟨w.heap.size + 1, 0, none⟩ = some (.slice a n c) := q1.cell 0; have b1 : W.cell? ⟨w.heap.size + 1, 1, none⟩ = some (.int .i64 lo) := q1.cell 1; have b2 : W.cell? ⟨w.heap.size + 1, 2, none⟩ = some (.int .i64 hi) := q1.cell 2; have b3 : W.cell? ⟨w.heap.size + 1, 3, none⟩ = some (.int .i64 pr) := q1.cell 3; have b4 : W.cell? ⟨w.heap.size + 1, 4, none⟩ = some (.int .i64 ne) := q1.cell 4; have d0 : W.cell? ⟨w.heap.size + 1 + 1, 0, none⟩ = some (.int .i64 kn) := q2.cell 0; have cv : W.cell? ⟨w1.heap.size + 1, 2, none⟩ = some (.int .i64 v) := (by rw [HV.out]; exact q3.cell 2); clear q0 q1 q2 q3; go_simp; with_reducible rfl); simp only [Act.put, List.setIfInBounds_toArray, List.set_cons_zero, List.set_cons_succ])
        (refine PlanS.free (v := ?_) rfl (by rfl) (fun W hW => ?_) ?_; rotate_left; (obtain ⟨q0, q1, q2, q3⟩ := hW; have a0 : W.cell? ⟨w.heap.size, 0, none⟩ = some (.int .i64 ra) := q0.cell 0; have a1 : W.cell? ⟨w.heap.size, 1, none⟩ = some (.int .i64 rb) := q0.cell 1; have a2 : W.cell? ⟨w.heap.size, 2, none⟩ = some (.int .i64 rc) := q0.cell 2; have a3 : W.cell? ⟨w.heap.size, 3, none⟩ = some (.int .i64 rr) := q0.cell 3; have b0 : W.cell? ⟨w.heap.size + 1, 0, none⟩ = some (.slice a n c) := q1.cell 0; have b1 : W.cell? ⟨w.heap.size + 1, 1, none⟩ = some (.int .i64 lo) := q1.cell 1; have b2 : W.cell? ⟨w.heap.size + 1, 2, none⟩ = some (.int .i64 hi) := q1.cell 2; have b3 : W.cell? ⟨w.heap.size + 1, 3, none⟩ = some (.int .i64 pr) := q1.cell 3; have b4 : W.cell? ⟨w.heap.size + 1, 4, none⟩ = some (.int .i64 ne) := q1.cell 4; have d0 : W.cell? ⟨w.heap.size + 1 + 1, 0, none⟩ = some (.int .i64 kn) := q2.cell 0; have cv : W.cell? ⟨w1.heap.size + 1, 2, none⟩ = some (.int .i64 v) := (by rw [HV.out]; exact q3.cell 2); clear q0 q1 q2 q3; go_simp; with_reducible rfl); simp only [Act.put, List.setIfInBounds_toArray, List.set_cons_zero, List.set_cons_succ])
        (refine PlanS.free (v := ?_) rfl (by rfl) (fun W hW => ?_) ?_; rotate_left; (obtain ⟨q0, q1, q2, q3⟩ := hW; have a0 : W.cell? ⟨w.heap.size, 0, none⟩ = some (.int .i64 ra) := q0.cell 0; have a1 : W.cell? ⟨w.heap.size, 1, none⟩ = some (.int .i64 rb) := q0.cell 1; have a2 : W.cell? ⟨w.heap.size, 2, none⟩ = some (.int .i64 rc) := q0.cell 2; have a3 : W.cell? ⟨w.heap.size, 3, none⟩ = some (.int .i64 rr) := q0.cell 3; have b0 : W.cell? ⟨w.heap.size + 1, 0, none⟩ = some (.slice a n c) := q1.cell 0; have b1 : W.cell? ⟨w.heap.size + 1, 1, none⟩ = some (.int .i64 lo) := q1.cell 1; have b2 : W.cell? ⟨w.heap.size + 1, 2, none⟩ = some (.int .i64 hi) := q1.cell 2; have b3 : W.cell? ⟨w.heap.size + 1, 3, none⟩ = some (.int .i64 pr) := q1.cell 3; have b4 : W.cell? ⟨w.heap.size + 1, 4, none⟩ = some (.int .i64 ne) := q1.cell 4; have d0 : W.cell? ⟨w.heap.size + 1 + 1, 0, none⟩ = some (.int .i64 kn) := q2.cell 0; have cv : W.cell? ⟨w1.heap.size + 1, 2, none⟩ = some (.int .i64 v) := (by rw [HV.out]; exact q3.cell 2); clear q0 q1 q2 q3; go_simp; with_reducible rfl); simp only [Act.put, List.setIfInBounds_toArray, List.set_cons_zero, List.set_cons_succ])
        (refine PlanS.free (v := ?_) rfl (by rfl) (fun W hW => ?_) ?_; rotate_left; (obtain ⟨q0, q1, q2, q3⟩ := hW; have a0 : W.cell? ⟨w.heap.size, 0, none⟩ = some (.int .i64 ra) := q0.cell 0; have a1 : W.cell? ⟨w.heap.size, 1, none⟩ = some (.int .i64 rb) := q0.cell 1; have a2 : W.cell? ⟨w.heap.size, 2, none⟩ = some (.int .i64 rc) := q0.cell 2; have a3 : W.cell? ⟨w.heap.size, 3, none⟩ = some (.int .i64 rr) := q0.cell 3; have b0 : W.cell? ⟨w.heap.size + 1, 0, none⟩ = some (.slice a n c) := q1.cell 0; have b1 : W.cell? ⟨w.heap.size + 1, 1, none⟩ = some (.int .i64 lo) := q1.cell 1; have b2 : W.cell? ⟨w.heap.size + 1, 2, none⟩ = some (.int .i64 hi) := q1.cell 2; have b3 : W.cell? ⟨w.heap.size + 1, 3, none⟩ = some (.int .i64 pr) := q1.cell 3; have b4 : W.cell? ⟨w.heap.size + 1, 4, none⟩ = some (.int .i64 ne) := q1.cell 4; have d0 : W.cell? ⟨w.heap.size + 1 + 1, 0, none⟩ = some (.int .i64 kn) := q2.cell 0; have cv : W.cell? ⟨w1.heap.size + 1, 2, none⟩ = some (.int .i64 v) := (by rw [HV.out]; exact q3.cell 2); clear q0 q1 q2 q3; go_simp; with_reducible rfl); simp only [Act.put, List.setIfInBounds_toArray, List.set_cons_zero, List.set_cons_succ])
        (refine PlanS.free (v := ?_) rfl (by rfl) (fun W hW => ?_) ?_; rotate_left; (obtain ⟨q0, q1, q2, q3⟩ := hW; have a0 : W.cell? ⟨w.heap.size, 0, none⟩ = some (.int .i64 ra) := q0.cell 0; have a1 : W.cell? ⟨w.heap.size, 1, none⟩ = some (.int .i64 rb) := q0.cell 1; have a2 : W.cell? ⟨w.heap.size, 2, none⟩ = some (.int .i64 rc) := q0.cell 2; have a3 : W.cell? ⟨w.heap.size, 3, none⟩ = some (.int .i64 rr) := q0.cell 3; have b0 : W.cell? ⟨w.heap.size + 1, 0, none⟩ = some (.slice a n c) := q1.cell 0; have b1 : W.cell? ⟨w.heap.size + 1, 1, none⟩ = some (.int .i64 lo) := q1.cell 1; have b2 : W.cell? ⟨w.heap.size + 1, 2, none⟩ = some (.int .i64 hi) := q1.cell 2; have b3 : W.cell? ⟨w.heap.size + 1, 3, none⟩ = some (.int .i64 pr) := q1.cell 3; have b4 : W.cell? ⟨w.heap.size + 1, 4, none⟩ = some (.int .i64 ne) := q1.cell 4; have d0 : W.cell? ⟨w.heap.size + 1 + 1, 0, none⟩ = some (.int .i64 kn) := q2.cell 0; have cv : W.cell? ⟨w1.heap.size + 1, 2, none⟩ = some (.int .i64 v) := (by rw [HV.out]; exact q3.cell 2); clear q0 q1 q2 q3; go_simp; with_reducible rfl); simp only [Act.put, List.setIfInBounds_toArray, List.set_cons_zero, List.set_cons_succ])
        (refine PlanS.free (v := ?_) rfl (by rfl) (fun W hW => ?_) ?_; rotate_left; (obtain ⟨q0, q1, q2, q3⟩ := hW; have a0 : W.cell? ⟨w.heap.size, 0, none⟩ = some (.int .i64 ra) := q0.cell 0; have a1 : W.cell? ⟨w.heap.size, 1, none⟩ = some (.int .i64 rb) := q0.cell 1; have a2 : W.cell? ⟨w.heap.size, 2, none⟩ = some (.int .i64 rc) := q0.cell 2; have a3 : W.cell? ⟨w.heap.size, 3, none⟩ = some (.int .i64 rr) := q0.cell 3; have b0 : W.cell? ⟨w.heap.size + 1, 0, none⟩ = some (.slice a n c) := q1.cell 0; have b1 : W.cell? ⟨w.heap.size + 1, 1, none⟩ = some (.int .i64 lo) := q1.cell 1; have b2 : W.cell? ⟨w.heap.size + 1, 2, none⟩ = some (.int .i64 hi) := q1.cell 2; have b3 : W.cell? ⟨w.heap.size + 1, 3, none⟩ = some (.int .i64 pr) := q1.cell 3; have b4 : W.cell? ⟨w.heap.size + 1, 4, none⟩ = some (.int .i64 ne) := q1.cell 4; have d0 : W.cell? ⟨w.heap.size + 1 + 1, 0, none⟩ = some (.int .i64 kn) := q2.cell 0; have cv : W.cell? ⟨w1.heap.size + 1, 2, none⟩ = some (.int .i64 v) := (by rw [HV.out]; exact q3.cell 2); clear q0 q1 q2 q3; go_simp; with_reducible rfl); simp only [Act.put, List.setIfInBounds_toArray, List.set_cons_zero, List.set_cons_succ])
        refine ⟨?_, ?_⟩
        · (refine wpOp_planS rfl (by rfl) (fun K hK => ?_); go_simp)
          refine (faces_any ra rb rc rr a n c ts lo hi pr ne _ _ _ (y4.below (Below.refl _ _).drew)).mono ?_; rw [HF1.out, HF2.out, HF.out]; rintro e w2 ⟨rfl, hb2⟩
          have hB2 : Below wr.heap.size wr w2 := ((Below.refl _ _).drew).trans (hb2.mono (by simp))
          have z2 := hB2.size
          have x1 := y1.below hB2 (by omega)
          have x2 := y2.below hB2 (by omega)
          have x3 := y3.below hB2 (by omega)
          have x5 := y5.below hB2 (by omega)
          go_simp
          refine hK.out _ _ ⟨x1, x2, x3, x5⟩ ?_
          clear hK K hb2
          (refine PlanS.free (v := ?_) rfl (by rfl) (fun W hW => ?_) ?_; rotate_left; (go_simp; with_reducible rfl); simp only [Act.put, List.setIfInBounds_toArray, List.set_cons_zero, List.set_cons_succ])
          (refine PlanS.free (v := ?_) rfl (by rfl) (fun W hW => ?_) ?_; rotate_left; (go_simp; with_reducible rfl); simp only [Act.put, List.setIfInBounds_toArray, List.set_cons_zero, List.set_cons_succ])
          (refine PlanS.free (v := ?_) rfl (by rfl) (fun W hW => ?_) ?_; rotate_left; (go_simp; with_reducible rfl); simp only [Act.put, List.setIfInBounds_toArray, List.set_cons_zero, List.set_cons_succ])
          (refine PlanS.call rfl (by rfl) (fun K hK => ?_); go_simp)
          refine hK.out _ _ ⟨x1.alloc _, x2.alloc _, x3.alloc _, x5.alloc _⟩ ?_
          clear hK K
          have bN := Box.new w2 #[.int .i64 0, .int .i64 0] 27
          have m0 := bN.cell 0; have m1 := bN.cell 1; have m2 := bN.free 0; have m3 := bN.free 1
          simp at m0 m1 m2 m3
          (refine PlanS.call rfl (by rfl) (fun K hK => ?_); go_simp)
          refine hK.out _ _ ⟨x1.alloc _, x2.alloc _, x3.alloc _, x5.alloc _⟩ ?_
          clear hK K
          have bR := Box.new w2 #[.int .i64 f1, .int .i64 f2] 27
          have g0 := bR.cell 0; have g1 := bR.cell 1
          have g2 := (x3.alloc (.cells #[.int .i64 f1, .int .i64 f2] 27)).cell 2
          simp at g0 g1 g2
          clear m0 m1 m2 m3
          (refine PlanS.free (v := ?_) rfl (by rfl) (fun W hW => ?_) ?_; rotate_left; (go_simp; with_reducible rfl); simp only [Act.put, List.setIfInBounds_toArray, List.set_cons_zero, List.set_cons_succ])
          refine PlanS.end' ?_
          have hN := (hb.trans (hB2.mono (by omega))).alloc (by omega) (.cells #[.int .i64 f1, .int .i64 f2] 27)
          go_wp2_with fail
          go_roundw
          case rel => exact ⟨hN, by simp⟩
          case measure => simp [intOf]
        · (refine wpOp_planS rfl (by rfl) (fun K hK => ?_); go_simp)
          refine hK.out _ _ ⟨y1.alloc _, y2.alloc _, y3.alloc _, y5.alloc _⟩ ?_
          clear hK K
          (refine PlanS.call rfl (by rfl) (fun K hK => ?_); go_simp)
          refine (faces_any ra rb rc rr a n c ts lo hi pr ne _ _ _ (y4.below ((Below.refl _ _).drew.alloc (by simp) _))).mono ?_; rw [HF1.out, HF2.out, HF.out]; rintro e w2 ⟨rfl, hb2⟩
          have hB2 : Below wr.heap.size wr w2 := ((Below.refl _ _).drew.alloc (by simp) _).trans (hb2.mono (by simp))
          have z2 := hb2.size
          simp at z2
          have x1 := y1.below hB2 (by omega)
          have x2 := y2.below hB2 (by omega)
          have x3 := y3.below hB2 (by omega)
          have x5 := y5.below hB2 (by omega)
          have bN := (Box.new wr.drew #[.int .i64 0, .int .i64 0] 27).below hb2 (by simp)
          have m0 := bN.cell 0; have m1 := bN.cell 1; have m2 := bN.free 0; have m3 := bN.free 1
          simp at m0 m1 m2 m3
          go_simp
          refine hK.out _ _ ⟨x1, x2, x3, x5⟩ ?_
          clear hK K hb2
          (refine PlanS.free (v := ?_) rfl (by rfl) (fun W hW => ?_) ?_; rotate_left; (go_simp; with_reducible rfl); simp only [Act.put, List.setIfInBounds_toArray, List.set_cons_zero, List.set_cons_succ])
          (refine PlanS.free (v := ?_) rfl (by rfl) (fun W hW => ?_) ?_; rotate_left; (go_simp; with_reducible rfl); simp only [Act.put, List.setIfInBounds_toArray, List.set_cons_zero, List.set_cons_succ])
          (refine PlanS.free (v := ?_) rfl (by rfl) (fun W hW => ?_) ?_; rotate_left; (go_simp; with_reducible rfl); simp only [Act.put, List.setIfInBounds_toArray, List.set_cons_zero, List.set_cons_succ])
          (refine PlanS.call rfl (by rfl) (fun K hK => ?_); go_simp)
          refine hK.out _ _ ⟨(x1.other (by dsimp only; omega) _).other (by dsimp only; omega) _, (x2.other (by dsimp only; omega) _).other (by dsimp only; omega) _, (x3.other (by dsimp only; omega) _).other (by dsimp only; omega) _, (x5.other (by dsimp only; omega) _).other (by dsimp only; omega) _⟩ ?_
          clear hK K
          have bR := (bN.set 0 (.int .i64 f1)).set 1 (.int .i64 f2)
          have g0 := bR.cell 0; have g1 := bR.cell 1
          have g2 := ((x3.other (p := ⟨wr.heap.size, 0, none⟩) (by dsimp only; omega) (.int .i64 f1)).other (p := ⟨wr.heap.size, 1, none⟩) (by dsimp only; omega) (.int .i64 f2)).cell 2
          simp at g0 g1 g2
          clear m0 m1 m2 m3
          (refine PlanS.free (v := ?_) rfl (by rfl) (fun W hW => ?_) ?_; rotate_left; (go_simp; with_reducible rfl); simp only [Act.put, List.setIfInBounds_toArray, List.set_cons_zero, List.set_cons_succ])
          refine PlanS.end' ?_
          have hN := ((hb.trans (hB2.mono (by omega))).setCell (p := ⟨wr.heap.size, 0, none⟩) (by dsimp only; omega) (.int .i64 f1)).setCell (p := ⟨wr.heap.size, 1, none⟩) (by dsimp only; omega) (.int .i64 f2)
          go_wp2_with fail
          go_roundw
          case rel => exact ⟨hN, by simp⟩
          case measure => simp [intOf]
    · obtain ⟨v, hv⟩ : ∃ v : Int, v = r2 := ⟨_, rfl⟩
      have HV := Lib.hid hv
      have cv : wr.cell? ⟨w1.heap.size + 1, 3, none⟩ = some (.int .i64 v) := by rw [hv]; exact y5.cell 3
      have HC : Hid (0 ≤ v → v ≤ 200 → n2 ≤ (facesR ⟨ra, rb, rc, rr⟩ ⟨ts, lo, hi, pr, ne⟩ kn v).1) := Lib.hid fun h0 h1 => HSh.out.d v HV.out h1
      clear hv
      rcases hI : frB v 0 200 with _ | _
      · have HI := Lib.hid hI
        clear hI
        go_wp2_with (go_at_call 45; refine (refIn_any _ _ _ _).mono ?_; rw [HI.out]; rintro e w' ⟨rfl, rfl⟩)
        go_roundw
        case rel => exact ⟨hb, by simp⟩
        case measure => simp [intOf]
      · have HI := Lib.hid hI
        obtain ⟨hv0, hv2⟩ := frB_iff.1 hI
        have hf := HFE.out v ⟨hv0, hv2⟩
        have hcv := HC.out hv0 hv2
        clear hI HC
        obtain ⟨f1, hf1⟩ : ∃ z, (facesR ⟨ra, rb, rc, rr⟩ ⟨ts, lo, hi, pr, ne⟩ kn v).1 = z := ⟨_, rfl⟩
        obtain ⟨f2, hf2⟩ : ∃ z, (facesR ⟨ra, rb, rc, rr⟩ ⟨ts, lo, hi, pr, ne⟩ kn v).2 = z := ⟨_, rfl⟩
        have hcv2 : n2 ≤ f1 := by rw [← hf1]; exact hcv
        clear hcv
        have HF := Lib.hid hf
        have HF1 := Lib.hid hf1
        have HF2 := Lib.hid hf2
        clear hf hf1 hf2
        have hz := hHZ.out
        go_wp2_with (go_at_call 45; refine (refIn_any _ _ _ _).mono ?_; rw [HI.out]; rintro e w' ⟨rfl, rfl⟩)
        refine region_planS (fun W => Box W w.heap.size #[.int .i64 ra, .int .i64 rb, .int .i64 rc, .int .i64 rr] 24 ∧ Box W (w.heap.size + 1) #[.slice a n c, .int .i64 lo, .int .i64 hi, .int .i64 pr, .int .i64 ne] 29 ∧ Box W (w.heap.size + 1 + 1) #[.int .i64 kn, .int .i64 n1, .int .i64 n2] 22 ∧ Box W (w1.heap.size + 1) #[.int .i64 (r1 - 1), .int .i64 r1, .int .i64 (r2 - 1), .int .i64 r2] 3) (.take 0 (.take 1 (.take 2 (.take 3 (.take 4 (.take 5 (.take 6 (.take 7 (.two 8 12 (.take 9 (.take 10 (.take 11 (.one 12 (.one 13 (.take 14 .done)))))) (.one 8 (.take 9 (.take 10 (.take 11 (.one 13 (.take 14 .done)))))))))))))))
          (by kernel_rfl) (by kernel_rfl) (by kernel_rfl) (by simp [Plan.depth]) (fun _ _ _ _ h => h) ⟨y1, y2, y3, y5⟩ ?_
        (refine PlanS.free (v := ?_) rfl (by rfl) (fun W hW => ?_) ?_; rotate_left; (obtain ⟨q0, q1, q2, q3⟩ := hW; have a0 : W.cell? ⟨w.heap.size, 0, none⟩ = some (.int .i64 ra) := q0.cell 0; have a1 : W.cell? ⟨w.heap.size, 1, none⟩ = some (.int .i64 rb) := q0.cell 1; have a2 : W.cell? ⟨w.heap.size, 2, none⟩ = some (.int .i64 rc) := q0.cell 2; have a3 : W.cell? ⟨w.heap.size, 3, none⟩ = some (.int .i64 rr) := q0.cell 3; have b0 : W.cell? ⟨w.heap.size + 1, 0, none⟩ = some (.slice a n c) := q1.cell 0; have b1 : W.cell? ⟨w.heap.size + 1, 1, none⟩ = some (.int .i64 lo) := q1.cell 1; have b2 : W.cell? ⟨w.heap.size + 1, 2, none⟩ = some (.int .i64 hi) := q1.cell 2; have b3 : W.cell? ⟨w.heap.size + 1, 3, none⟩ = some (.int .i64 pr) := q1.cell 3; have b4 : W.cell? ⟨w.heap.size + 1, 4, none⟩ = some (.int .i64 ne) := q1.cell 4; have d0 : W.cell? ⟨w.heap.size + 1 + 1, 0, none⟩ = some (.int .i64 kn) := q2.cell 0; have cv : W.cell? ⟨w1.heap.size + 1, 3, none⟩ = some (.int .i64 v) := (by rw [HV.out]; exact q3.cell 3); clear q0 q1 q2 q3; go_simp; with_reducible rfl); simp only [Act.put, List.setIfInBounds_toArray, List.set_cons_zero, List.set_cons_succ])
        (refine PlanS.free (v := ?_) rfl (by rfl) (fun W hW => ?_) ?_; rotate_left; (obtain ⟨q0, q1, q2, q3⟩ := hW; have a0 : W.cell? ⟨w.heap.size, 0, none⟩ = some (.int .i64 ra) := q0.cell 0; have a1 : W.cell? ⟨w.heap.size, 1, none⟩ = some (.int .i64 rb) := q0.cell 1; have a2 : W.cell? ⟨w.heap.size, 2, none⟩ = some (.int .i64 rc) := q0.cell 2; have a3 : W.cell? ⟨w.heap.size, 3, none⟩ = some (.int .i64 rr) := q0.cell 3; have b0 : W.cell? ⟨w.heap.size + 1, 0, none⟩ = some (.slice a n c) := q1.cell 0; have b1 : W.cell? ⟨w.heap.size + 1, 1, none⟩ = some (.int .i64 lo) := q1.cell 1; have b2 : W.cell? ⟨w.heap.size + 1, 2, none⟩ = some (.int .i64 hi) := q1.cell 2; have b3 : W.cell? ⟨w.heap.size + 1, 3, none⟩ = some (.int .i64 pr) := q1.cell 3; have b4 : W.cell? ⟨w.heap.size + 1, 4, none⟩ = some (.int .i64 ne) := q1.cell 4; have d0 : W.cell? ⟨w.heap.size + 1 + 1, 0, none⟩ = some (.int .i64 kn) := q2.cell 0; have cv : W.cell? ⟨w1.heap.size + 1, 3, none⟩ = some (.int .i64 v) := (by rw [HV.out]; exact q3.cell 3); clear q0 q1 q2 q3; go_simp; with_reducible rfl); simp only [Act.put, List.setIfInBounds_toArray, List.set_cons_zero, List.set_cons_succ])
        (refine PlanS.free (v := ?_) rfl (by rfl) (fun W hW => ?_) ?_; rotate_left; (obtain ⟨q0, q1, q2, q3⟩ := hW; have a0 : W.cell? ⟨w.heap.size, 0, none⟩ = some (.int .i64 ra) := q0.cell 0; have a1 : W.cell? ⟨w.heap.size, 1, none⟩ = some (.int .i64 rb) := q0.cell 1; have a2 : W.cell? ⟨w.heap.size, 2, none⟩ = some (.int .i64 rc) := q0.cell 2; have a3 : W.cell? ⟨w.heap.size, 3, none⟩ = some (.int .i64 rr) := q0.cell 3; have b0 : W.cell? ⟨w.heap.size + 1, 0, none⟩ = some (.slice a n c) := q1.cell 0; have b1 : W.cell? ⟨w.heap.size + 1, 1, none⟩ = some (.int .i64 lo) := q1.cell 1; have b2 : W.cell? ⟨w.heap.size + 1, 2, none⟩ = some (.int .i64 hi) := q1.cell 2; have b3 : W.cell? ⟨w.heap.size + 1, 3, none⟩ = some (.int .i64 pr) := q1.cell 3; have b4 : W.cell? ⟨w.heap.size + 1, 4, none⟩ = some (.int .i64 ne) := q1.cell 4; have d0 : W.cell? ⟨w.heap.size + 1 + 1, 0, none⟩ = some (.int .i64 kn) := q2.cell 0; have cv : W.cell? ⟨w1.heap.size + 1, 3, none⟩ = some (.int .i64 v) := (by rw [HV.out]; exact q3.cell 3); clear q0 q1 q2 q3; go_simp; with_reducible rfl); simp only [Act.put, List.setIfInBounds_toArray, List.set_cons_zero, List.set_cons_succ])
        (refine PlanS.free (v := ?_) rfl (by rfl) (fun W hW => ?_) ?_; rotate_left; (obtain ⟨q0, q1, q2, q3⟩ := hW; have a0 : W.cell? ⟨w.heap.size, 0, none⟩ = some (.int .i64 ra) := q0.cell 0; have a1 : W.cell? ⟨w.heap.size, 1, none⟩ = some (.int .i64 rb) := q0.cell 1; have a2 : W.cell? ⟨w.heap.size, 2, none⟩ = some (.int .i64 rc) := q0.cell 2; have a3 : W.cell? ⟨w.heap.size, 3, none⟩ = some (.int .i64 rr) := q0.cell 3; have b0 : W.cell? ⟨w.heap.size + 1, 0, none⟩ = some (.slice a n c) := q1.cell 0; have b1 : W.cell? ⟨w.heap.size + 1, 1, none⟩ = some (.int .i64 lo) := q1.cell 1; have b2 : W.cell? ⟨w.heap.size + 1, 2, none⟩ = some (.int .i64 hi) := q1.cell 2; have b3 : W.cell? ⟨w.heap.size + 1, 3, none⟩ = some (.int .i64 pr) := q1.cell 3; have b4 : W.cell? ⟨w.heap.size + 1, 4, none⟩ = some (.int .i64 ne) := q1.cell 4; have d0 : W.cell? ⟨w.heap.size + 1 + 1, 0, none⟩ = some (.int .i64 kn) := q2.cell 0; have cv : W.cell? ⟨w1.heap.size + 1, 3, none⟩ = some (.int .i64 v) := (by rw [HV.out]; exact q3.cell 3); clear q0 q1 q2 q3; go_simp; with_reducible rfl); simp only [Act.put, List.setIfInBounds_toArray, List.set_cons_zero, List.set_cons_succ])
        (refine PlanS.free (v := ?_) rfl (by rfl) (fun W hW => ?_) ?_; rotate_left; (obtain ⟨q0, q1, q2, q3⟩ := hW; have a0 : W.cell? ⟨w.heap.size, 0, none⟩ = some (.int .i64 ra) := q0.cell 0; have a1 : W.cell? ⟨w.heap.size, 1, none⟩ = some (.int .i64 rb) := q0.cell 1; have a2 : W.cell? ⟨w.heap.size, 2, none⟩ = some (.int .i64 rc) := q0.cell 2; have a3 : W.cell? ⟨w.heap.size, 3, none⟩ = some (.int .i64 rr) := q0.cell 3; have b0 : W.cell? ⟨w.heap.size + 1, 0, none⟩ = some (.slice a n c) := q1.cell 0; have b1 : W.cell? ⟨w.heap.size + 1, 1, none⟩ = some (.int .i64 lo) := q1.cell 1; have b2 : W.cell? ⟨w.heap.size + 1, 2, none⟩ = some (.int .i64 hi) := q1.cell 2; have b3 : W.cell? ⟨w.heap.size + 1, 3, none⟩ = some (.int .i64 pr) := q1.cell 3; have b4 : W.cell? ⟨w.heap.size + 1, 4, none⟩ = some (.int .i64 ne) := q1.cell 4; have d0 : W.cell? ⟨w.heap.size + 1 + 1, 0, none⟩ = some (.int .i64 kn) := q2.cell 0; have cv : W.cell? ⟨w1.heap.size + 1, 3, none⟩ = some (.int .i64 v) := (by rw [HV.out]; exact q3.cell 3); clear q0 q1 q2 q3; go_simp; with_reducible rfl); simp only [Act.put, List.setIfInBounds_toArray, List.set_cons_zero, List.set_cons_succ])
        (refine PlanS.free (v := ?_) rfl (by rfl) (fun W hW => ?_) ?_; rotate_left; (obtain ⟨q0, q1, q2, q3⟩ := hW; have a0 : W.cell? ⟨w.heap.size, 0, none⟩ = some (.int .i64 ra) := q0.cell 0; have a1 : W.cell? ⟨w.heap.size, 1, none⟩ = some (.int .i64 rb) := q0.cell 1; have a2 : W.cell? ⟨w.heap.size, 2, none⟩ = some (.int .i64 rc) := q0.cell 2; have a3 : W.cell? ⟨w.heap.size, 3, none⟩ = some (.int .i64 rr) := q0.cell 3; have b0 : W.cell? ⟨w.heap.size + 1, 0, none⟩ = some (.slice a n c) := q1.cell 0; have b1 : W.cell? ⟨w.heap.size + 1, 1, none⟩ = some (.int .i64 lo) := q1.cell 1; have b2 : W.cell? ⟨w.heap.size + 1, 2, none⟩ = some (.int .i64 hi) := q1.cell 2; have b3 : W.cell? ⟨w.heap.size + 1, 3, none⟩ = some (.int .i64 pr) := q1.cell 3; have b4 : W.cell? ⟨w.heap.size + 1, 4, none⟩ = some (.int .i64 ne) := q1.cell 4; have d0 : W.cell? ⟨w.heap.size + 1 + 1, 0, none⟩ = some (.int .i64 kn) := q2.cell 0; have cv : W.cell? ⟨w1.heap.size + 1, 3, none⟩ = some (.int .i64 v) := (by rw [HV.out]; exact q3.cell 3); clear q0 q1 q2 q3; go_simp; with_reducible rfl); simp only [Act.put, List.setIfInBounds_toArray, List.set_cons_zero, List.set_cons_succ])
        (refine PlanS.free (v := ?_) rfl (by rfl) (fun W hW => ?_) ?_; rotate_left; (obtain ⟨q0, q1, q2, q3⟩ := hW; have a0 : W.cell? ⟨w.heap.size, 0, none⟩ = some (.int .i64 ra) := q0.cell 0; have a1 : W.cell? ⟨w.heap.size, 1, none⟩ = some (.int .i64 rb) := q0.cell 1; have a2 : W.cell? ⟨w.heap.size, 2, none⟩ = some (.int .i64 rc) := q0.cell 2; have a3 : W.cell? ⟨w.heap.size, 3, none⟩ = some (.int .i64 rr) := q0.cell 3; have b0 : W.cell? ⟨w.heap.size + 1, 0, none⟩ = some (.slice a n c) := q1.cell 0; have b1 : W.cell? ⟨w.heap.size + 1, 1, none⟩ = some (.int .i64 lo) := q1.cell 1; have b2 : W.cell? ⟨w.heap.size + 1, 2, none⟩ = some (.int .i64 hi) := q1.cell 2; have b3 : W.cell? ⟨w.heap.size + 1, 3, none⟩ = some (.int .i64 pr) := q1.cell 3; have b4 : W.cell? ⟨w.heap.size + 1, 4, none⟩ = some (.int .i64 ne) := q1.cell 4; have d0 : W.cell? ⟨w.heap.size + 1 + 1, 0, none⟩ = some (.int .i64 kn) := q2.cell 0; have cv : W.cell? ⟨w1.heap.size + 1, 3, none⟩ = some (.int .i64 v) := (by rw [HV.out]; exact q3.cell 3); clear q0 q1 q2 q3; go_simp; with_reducible rfl); simp only [Act.put, List.setIfInBounds_toArray, List.set_cons_zero, List.set_cons_succ])
        (refine PlanS.free (v := ?_) rfl (by rfl) (fun W hW => ?_) ?_; rotate_left; (obtain ⟨q0, q1, q2, q3⟩ := hW; have a0 : W.cell? ⟨w.heap.size, 0, none⟩ = some (.int .i64 ra) := q0.cell 0; have a1 : W.cell? ⟨w.heap.size, 1, none⟩ = some (.int .i64 rb) := q0.cell 1; have a2 : W.cell? ⟨w.heap.size, 2, none⟩ = some (.int .i64 rc) := q0.cell 2; have a3 : W.cell? ⟨w.heap.size, 3, none⟩ = some (.int .i64 rr) := q0.cell 3; have b0 : W.cell? ⟨w.heap.size + 1, 0, none⟩ = some (.slice a n c) := q1.cell 0; have b1 : W.cell? ⟨w.heap.size + 1, 1, none⟩ = some (.int .i64 lo) := q1.cell 1; have b2 : W.cell? ⟨w.heap.size + 1, 2, none⟩ = some (.int .i64 hi) := q1.cell 2; have b3 : W.cell? ⟨w.heap.size + 1, 3, none⟩ = some (.int .i64 pr) := q1.cell 3; have b4 : W.cell? ⟨w.heap.size + 1, 4, none⟩ = some (.int .i64 ne) := q1.cell 4; have d0 : W.cell? ⟨w.heap.size + 1 + 1, 0, none⟩ = some (.int .i64 kn) := q2.cell 0; have cv : W.cell? ⟨w1.heap.size + 1, 3, none⟩ = some (.int .i64 v) := (by rw [HV.out]; exact q3.cell 3); clear q0 q1 q2 q3; go_simp; with_reducible rfl); simp only [Act.put, List.setIfInBounds_toArray, List.set_cons_zero, List.set_cons_succ])
        refine ⟨?_, ?_⟩
        · (refine wpOp_planS rfl (by rfl) (fun K hK => ?_); go_simp)
          refine (faces_any ra rb rc rr a n c ts lo hi pr ne _ _ _ (y4.below (Below.refl _ _).drew)).mono ?_; rw [HF1.out, HF2.out, HF.out]; rintro e w2 ⟨rfl, hb2⟩
          have hB2 : Below wr.heap.size wr w2 := ((Below.refl _ _).drew).trans (hb2.mono (by simp))
          have z2 := hB2.size
          have x1 := y1.below hB2 (by omega)
          have x2 := y2.below hB2 (by omega)
          have x3 := y3.below hB2 (by omega)
          have x5 := y5.below hB2 (by omega)
          go_simp
          refine hK.out _ _ ⟨x1, x2, x3, x5⟩ ?_
          clear hK K hb2
          (refine PlanS.free (v := ?_) rfl (by rfl) (fun W hW => ?_) ?_; rotate_left; (go_simp; with_reducible rfl); simp only [Act.put, List.setIfInBounds_toArray, List.set_cons_zero, List.set_cons_succ])
          (refine PlanS.free (v := ?_) rfl (by rfl) (fun W hW => ?_) ?_; rotate_left; (go_simp; with_reducible rfl); simp only [Act.put, List.setIfInBounds_toArray, List.set_cons_zero, List.set_cons_succ])
          (refine PlanS.free (v := ?_) rfl (by rfl) (fun W hW => ?_) ?_; rotate_left; (go_simp; with_reducible rfl); simp only [Act.put, List.setIfInBounds_toArray, List.set_cons_zero, List.set_cons_succ])
          (refine PlanS.call rfl (by rfl) (fun K hK => ?_); go_simp)
          refine hK.out _ _ ⟨x1.alloc _, x2.alloc _, x3.alloc _, x5.alloc _⟩ ?_
          clear hK K
          have bN := Box.new w2 #[.int .i64 0, .int .i64 0] 27
          have m0 := bN.cell 0; have m1 := bN.cell 1; have m2 := bN.free 0; have m3 := bN.free 1
          simp at m0 m1 m2 m3
          (refine PlanS.call rfl (by rfl) (fun K hK => ?_); go_simp)
          refine hK.out _ _ ⟨x1.alloc _, x2.alloc _, x3.alloc _, x5.alloc _⟩ ?_
          clear hK K
          have bR := Box.new w2 #[.int .i64 f1, .int .i64 f2] 27
          have g0 := bR.cell 0; have g1 := bR.cell 1
          have g2 := (x3.alloc (.cells #[.int .i64 f1, .int .i64 f2] 27)).cell 2
          simp at g0 g1 g2
          clear m0 m1 m2 m3
          (refine PlanS.free (v := ?_) rfl (by rfl) (fun W hW => ?_) ?_; rotate_left; (go_simp; with_reducible rfl); simp only [Act.put, List.setIfInBounds_toArray, List.set_cons_zero, List.set_cons_succ])
          refine PlanS.end' ?_
          have hN := (hb.trans (hB2.mono (by omega))).alloc (by omega) (.cells #[.int .i64 f1, .int .i64 f2] 27)
          go_wp2_with fail
          go_roundw
          case rel => exact ⟨hN, by simp⟩
          case measure => simp [intOf]
        · (refine wpOp_planS rfl (by rfl) (fun K hK => ?_); go_simp)
          refine hK.out _ _ ⟨y1.alloc _, y2.alloc _, y3.alloc _, y5.alloc _⟩ ?_
          clear hK K
          (refine PlanS.call rfl (by rfl) (fun K hK => ?_); go_simp)
          refine (faces_any ra rb rc rr a n c ts lo hi pr ne _ _ _ (y4.below ((Below.refl _ _).drew.alloc (by simp) _))).mono ?_; rw [HF1.out, HF2.out, HF.out]; rintro e w2 ⟨rfl, hb2⟩
          have hB2 : Below wr.heap.size wr w2 := ((Below.refl _ _).drew.alloc (by simp) _).trans (hb2.mono (by simp))
          have z2 := hb2.size
          simp at z2
          have x1 := y1.below hB2 (by omega)
          have x2 := y2.below hB2 (by omega)
          have x3 := y3.below hB2 (by omega)
          have x5 := y5.below hB2 (by omega)
          have bN := (Box.new wr.drew #[.int .i64 0, .int .i64 0] 27).below hb2 (by simp)
          have m0 := bN.cell 0; have m1 := bN.cell 1; have m2 := bN.free 0; have m3 := bN.free 1
          simp at m0 m1 m2 m3
          go_simp
          refine hK.out _ _ ⟨x1, x2, x3, x5⟩ ?_
          clear hK K hb2
          (refine PlanS.free (v := ?_) rfl (by rfl) (fun W hW => ?_) ?_; rotate_left; (go_simp; with_reducible rfl); simp only [Act.put, List.setIfInBounds_toArray, List.set_cons_zero, List.set_cons_succ])
          (refine PlanS.free (v := ?_) rfl (by rfl) (fun W hW => ?_) ?_; rotate_left; (go_simp; with_reducible rfl); simp only [Act.put, List.setIfInBounds_toArray, List.set_cons_zero, List.set_cons_succ])
          (refine PlanS.free (v := ?_) rfl (by rfl) (fun W hW => ?_) ?_; rotate_left; (go_simp; with_reducible rfl); simp only [Act.put, List.setIfInBounds_toArray, List.set_cons_zero, List.set_cons_succ])
          (refine PlanS.call rfl (by rfl) (fun K hK => ?_); go_simp)
          refine hK.out _ _ ⟨(x1.other (by dsimp only; omega) _).other (by dsimp only; omega) _, (x2.other (by dsimp only; omega) _).other (by dsimp only; omega) _, (x3.other (by dsimp only; omega) _).other (by dsimp only; omega) _, (x5.other (by dsimp only; omega) _).other (by dsimp only; omega) _⟩ ?_
          clear hK K
          have bR := (bN.set 0 (.int .i64 f1)).set 1 (.int .i64 f2)
          have g0 := bR.cell 0; have g1 := bR.cell 1
          have g2 := ((x3.other (p := ⟨wr.heap.size, 0, none⟩) (by dsimp only; omega) (.int .i64 f1)).other (p := ⟨wr.heap.size, 1, none⟩) (by dsimp only; omega) (.int .i64 f2)).cell 2
          simp at g0 g1 g2
          clear m0 m1 m2 m3
          (refine PlanS.free (v := ?_) rfl (by rfl) (fun W hW => ?_) ?_; rotate_left; (go_simp; with_reducible rfl); simp only [Act.put, List.setIfInBounds_toArray, List.set_cons_zero, List.set_cons_succ])
          refine PlanS.end' ?_
          have hN := ((hb.trans (hB2.mono (by omega))).setCell (p := ⟨wr.heap.size, 0, none⟩) (by dsimp only; omega) (.int .i64 f1)).setCell (p := ⟨wr.heap.size, 1, none⟩) (by dsimp only; omega) (.int .i64 f2)
          go_wp2_with fail
          go_roundw
          case rel => exact ⟨hN, by simp⟩
          case measure => simp [intOf]
    · obtain ⟨y, hy⟩ : ∃ y, modN n1 200 = y := ⟨_, rfl⟩
      have HM := Lib.hid hy
      have hyr : 0 ≤ y ∧ y < 200 := by rw [← hy]; exact modN_range (by omega)
      clear hy
      obtain ⟨t2, ht2, _, _, hc0, q1, q2, q3, q4, q5, q6⟩ := girth_steps (s := ⟨ts, lo, hi, pr, ne⟩) (k := (kn : Int)) (HGE.out 0 ⟨by omega, by omega⟩) hyr
      rw [Int.toNat_natCast] at ht2
      dsimp only at ht2
      obtain ⟨tag, tx, ty, gl, gh, cr⟩ := t2
      dsimp only at hc0
      have hkl := HKL.out
      have hnl := HN.out
      have hkn : kn < n := by omega
      obtain ⟨b, off, rfl, hbl, hTA⟩ : ∃ b off, a = some ⟨b, off, none⟩ ∧ b < wr.heap.size ∧ TreesAt wr b off ts := by
        rcases y4.at_ with h | h
        · simp [h] at ht2
        · exact h
      obtain ⟨A1, hA1⟩ : ∃ z, (girthR ⟨ts, lo, hi, pr, ne⟩ kn y).1 = z := ⟨_, rfl⟩
      obtain ⟨A2, hA2⟩ : ∃ z, (girthR ⟨ts, lo, hi, pr, ne⟩ kn y).2 = z := ⟨_, rfl⟩
      obtain ⟨B1, hB1⟩ : ∃ z, (girthR ⟨ts, lo, hi, pr, ne⟩ kn (y + 1)).1 = z := ⟨_, rfl⟩
      obtain ⟨B2, hB2⟩ : ∃ z, (girthR ⟨ts, lo, hi, pr, ne⟩ kn (y + 1)).2 = z := ⟨_, rfl⟩
      simp only [hA1, hA2, hB1, hB2] at q1 q2 q3 q4 q5 q6
      have HT2 := Lib.hid ht2
      have HA1 := Lib.hid hA1
      have HA2 := Lib.hid hA2
      have HAE := Lib.hid (HGE.out y ⟨by omega, by omega⟩)
      have HB1 := Lib.hid hB1
      have HB2 := Lib.hid hB2
      have HBE := Lib.hid (HGE.out (y + 1) ⟨by omega, by omega⟩)
      have HC1 : Hid ((girthR ⟨ts, lo, hi, pr, ne⟩ kn 0).1 = gl) := Lib.hid (by rw [hc0])
      have HC2 : Hid ((girthR ⟨ts, lo, hi, pr, ne⟩ kn 0).2 = gh) := Lib.hid (by rw [hc0])
      have HCE := Lib.hid (HGE.out 0 ⟨by omega, by omega⟩)
      have e0 : wr.cell? ⟨w.heap.size + 1, 0, none⟩ = some (.slice (some ⟨b, off, none⟩) n c) := y2.cell 0
      have e1 : wr.cell? ⟨w.heap.size + 1, 1, none⟩ = some (.int .i64 lo) := y2.cell 1
      have e2 : wr.cell? ⟨w.heap.size + 1, 2, none⟩ = some (.int .i64 hi) := y2.cell 2
      have e3 : wr.cell? ⟨w.heap.size + 1, 3, none⟩ = some (.int .i64 pr) := y2.cell 3
      have e4 : wr.cell? ⟨w.heap.size + 1, 4, none⟩ = some (.int .i64 ne) := y2.cell 4
      have t0 : wr.cell? ⟨w.heap.size + 1 + 1, 0, none⟩ = some (.int .i64 kn) := y3.cell 0
      have t1 : wr.cell? ⟨w.heap.size + 1 + 1, 1, none⟩ = some (.int .i64 n1) := y3.cell 1
      clear ht2 hA1 hA2 hB1 hB2 hc0 hkl hnl y1 y2 y3 y5 y6
      go_wp2_with (first
        | (go_at_call 43; refine (refMod_any _ _ _ hN (by omega)).mono ?_; rw [HM.out]; rintro e w' ⟨rfl, rfl⟩)
        | (go_at_call 25; refine (girth_any (some ⟨b, off, none⟩) n c ts lo hi pr ne _ _ _ (HY.out _ hS3b).2.2.2.1).mono ?_; rw [HC1.out, HC2.out, HCE.out]; rintro e w4 ⟨rfl, hb4⟩; have hz4 := hb4.size; simp only [World.size_alloc] at hz4; have hS4 := hS3b.trans (hb4.mono (by simp only [World.size_alloc]; omega)); clear e0 e1 e2 e3 e4 t0; have hS4b := hS4.alloc (by omega) (.cells #[.int .i64 gl, .int .i64 gh] 27))
        | (go_at_call 25; refine (girth_any (some ⟨b, off, none⟩) n c ts lo hi pr ne _ _ _ (HY.out _ hS2b).2.2.2.1).mono ?_; rw [HB1.out, HB2.out, HBE.out]; rintro e w3 ⟨rfl, hb3⟩; have hz3 := hb3.size; simp only [World.size_alloc] at hz3; have hS3 := hS2b.trans (hb3.mono (by simp only [World.size_alloc]; omega)); obtain ⟨x1, x2, x3, x4, x5, x6, x8⟩ := HY.out w3 hS3; clear e0 e1 e2 e3 e4 t0; have e0 : (w3.alloc (.cells #[.int .i64 B1, .int .i64 B2] 27)).cell? ⟨w.heap.size + 1, 0, none⟩ = some (.slice (some ⟨b, off, none⟩) n c) := (x2.alloc _).cell 0; have e1 : (w3.alloc (.cells #[.int .i64 B1, .int .i64 B2] 27)).cell? ⟨w.heap.size + 1, 1, none⟩ = some (.int .i64 lo) := (x2.alloc _).cell 1; have e2 : (w3.alloc (.cells #[.int .i64 B1, .int .i64 B2] 27)).cell? ⟨w.heap.size + 1, 2, none⟩ = some (.int .i64 hi) := (x2.alloc _).cell 2; have e3 : (w3.alloc (.cells #[.int .i64 B1, .int .i64 B2] 27)).cell? ⟨w.heap.size + 1, 3, none⟩ = some (.int .i64 pr) := (x2.alloc _).cell 3; have e4 : (w3.alloc (.cells #[.int .i64 B1, .int .i64 B2] 27)).cell? ⟨w.heap.size + 1, 4, none⟩ = some (.int .i64 ne) := (x2.alloc _).cell 4; have t0 : (w3.alloc (.cells #[.int .i64 B1, .int .i64 B2] 27)).cell? ⟨w.heap.size + 1 + 1, 0, none⟩ = some (.int .i64 kn) := (x3.alloc _).cell 0; clear x1 x2 x3 x4 x5 x6; have hS3b := hS3.alloc (by omega) (.cells #[.int .i64 B1, .int .i64 B2] 27))
        | (go_at_call 25; refine (girth_any (some ⟨b, off, none⟩) n c ts lo hi pr ne _ _ _ y4).mono ?_; rw [HA1.out, HA2.out, HAE.out]; rintro e w2 ⟨rfl, hb2⟩; have hz2 := hb2.size; have hS2 := hb.trans (hb2.mono (by omega)); obtain ⟨x1, x2, x3, x4, x5, x6, x7⟩ := HY.out w2 hS2; clear e0 e1 e2 e3 e4 t0 t1; have e0 : (w2.alloc (.cells #[.int .i64 A1, .int .i64 A2] 27)).cell? ⟨w.heap.size + 1, 0, none⟩ = some (.slice (some ⟨b, off, none⟩) n c) := (x2.alloc _).cell 0; have e1 : (w2.alloc (.cells #[.int .i64 A1, .int .i64 A2] 27)).cell? ⟨w.heap.size + 1, 1, none⟩ = some (.int .i64 lo) := (x2.alloc _).cell 1; have e2 : (w2.alloc (.cells #[.int .i64 A1, .int .i64 A2] 27)).cell? ⟨w.heap.size + 1, 2, none⟩ = some (.int .i64 hi) := (x2.alloc _).cell 2; have e3 : (w2.alloc (.cells #[.int .i64 A1, .int .i64 A2] 27)).cell? ⟨w.heap.size + 1, 3, none⟩ = some (.int .i64 pr) := (x2.alloc _).cell 3; have e4 : (w2.alloc (.cells #[.int .i64 A1, .int .i64 A2] 27)).cell? ⟨w.heap.size + 1, 4, none⟩ = some (.int .i64 ne) := (x2.alloc _).cell 4; have t0 : (w2.alloc (.cells #[.int .i64 A1, .int .i64 A2] 27)).cell? ⟨w.heap.size + 1 + 1, 0, none⟩ = some (.int .i64 kn) := (x3.alloc _).cell 0; clear x1 x2 x3 x4 x5 x6; have hS2b := hS2.alloc (by omega) (.cells #[.int .i64 A1, .int .i64 A2] 27)))
      have HZ : Hid (∀ W, Below (w4.heap.size + 1) (w4.alloc (.cells #[.int .i64 gl, .int .i64 gh] 27)) W → Box W (w.heap.size + 1) #[.slice (some ⟨b, off, none⟩) n c, .int .i64 lo, .int .i64 hi, .int .i64 pr, .int .i64 ne] 29 ∧ Box W (w.heap.size + 1 + 1) #[.int .i64 kn, .int .i64 n1, .int .i64 n2] 22 ∧ Box W w2.heap.size #[.int .i64 A1, .int .i64 A2] 27 ∧ Box W w3.heap.size #[.int .i64 B1, .int .i64 B2] 27 ∧ Box W w4.heap.size #[.int .i64 gl, .int .i64 gh] 27 ∧ TreesAt W b off ts ∧ Below w.heap.size w W) := Lib.hid fun W h => by
        have hR2 : Below wr.heap.size wr W := (((((((Below.refl _ _).trans hb2).alloc (by omega) _).trans (hb3.mono (by simp only [World.size_alloc]; omega))).alloc (by omega) _).trans (hb4.mono (by simp only [World.size_alloc]; omega))).alloc (by omega) _).trans (h.mono (by omega))
        obtain ⟨_, x2, x3, _, _, x6, _⟩ := HY.out W (hb.trans (hR2.mono (by omega)))
        have bA := Box.new w2 #[.int .i64 A1, .int .i64 A2] 27
        have bB := Box.new w3 #[.int .i64 B1, .int .i64 B2] 27
        have bC := Box.new w4 #[.int .i64 gl, .int .i64 gh] 27
        exact ⟨x2, x3, (((bA.below hb3 (by simp only [World.size_alloc]; omega)).alloc _).below hb4 (by simp only [World.size_alloc]; omega)).alloc _ |>.below h (by omega), ((bB.below hb4 (by simp only [World.size_alloc]; omega)).alloc _).below h (by omega), bC.below h (by omega), hTA.below hR2 hbl, x6⟩
      have hS : Below (w4.heap.size + 1) (w4.alloc (.cells #[.int .i64 gl, .int .i64 gh] 27)) (w4.alloc (.cells #[.int .i64 gl, .int .i64 gh] 27)).drew := (Below.refl _ _).drew
      have hw1 : IntKind.i64.wrap (B1 - A1) = B1 - A1 := by rw [IntKind.wrap_i64]; omega
      have hw2 : IntKind.i64.wrap (B2 - A2) = B2 - A2 := by rw [IntKind.wrap_i64]; omega
      clear hb hb2 hb3 hb4 hS2 hS2b hS3 hS3b hS4 hS4b hTA hbl HY
      refine region_seq (fun W => Below (w4.heap.size + 1) (w4.alloc (.cells #[.int .i64 gl, .int .i64 gh] 27)) W) [(0, true), (1, true), (2, true), (3, true), (4, true), (5, true), (6, true), (7, true), (8, true), (9, true), (10, true), (11, true), (12, true), (13, true), (14, true), (15, true), (16, true), (17, true), (18, true), (19, true), (20, true), (21, true), (22, true), (23, true), (24, true), (25, true), (26, true), (27, true), (28, true), (29, true), (30, true), (31, true), (32, false), (33, true), (34, true), (35, true), (36, true), (37, true), (38, true), (39, true), (40, true), (41, true), (42, true), (43, true), (44, true), (45, true), (46, true), (47, true), (48, true), (49, true), (50, false), (51, true), (52, true)]
        (by kernel_rfl) (by kernel_rfl) (by kernel_rfl) (by simp) (fun _ _ _ _ h => h) hS ?_
      (refine SeqW.take (v := ?_) rfl (by rfl) (fun W hW => ?_) ?_; rotate_left; (go_simp; with_reducible rfl); simp only [Act.put, List.setIfInBounds_toArray, List.set_cons_zero, List.set_cons_succ])
      (refine SeqW.take (v := ?_) rfl (by rfl) (fun W hW => ?_) ?_; rotate_left; (go_simp; with_reducible rfl); simp only [Act.put, List.setIfInBounds_toArray, List.set_cons_zero, List.set_cons_succ])
      (refine SeqW.take (v := ?_) rfl (by rfl) (fun W hW => ?_) ?_; rotate_left; (go_simp; with_reducible rfl); simp only [Act.put, List.setIfInBounds_toArray, List.set_cons_zero, List.set_cons_succ])
      (refine SeqW.take (v := ?_) rfl (by rfl) (fun W hW => ?_) ?_; rotate_left; (go_simp; with_reducible rfl); simp only [Act.put, List.setIfInBounds_toArray, List.set_cons_zero, List.set_cons_succ])
      (refine SeqW.take (v := ?_) rfl (by rfl) (fun W hW => ?_) ?_; rotate_left; (go_simp; with_reducible rfl); simp only [Act.put, List.setIfInBounds_toArray, List.set_cons_zero, List.set_cons_succ])
      (refine SeqW.take (v := ?_) rfl (by rfl) (fun W hW => ?_) ?_; rotate_left; (go_simp; with_reducible rfl); simp only [Act.put, List.setIfInBounds_toArray, List.set_cons_zero, List.set_cons_succ])
      (refine SeqW.take (v := ?_) rfl (by rfl) (fun W hW => ?_) ?_; rotate_left; (go_simp; with_reducible rfl); simp only [Act.put, List.setIfInBounds_toArray, List.set_cons_zero, List.set_cons_succ])
      (refine SeqW.take (v := ?_) rfl (by rfl) (fun W hW => ?_) ?_; rotate_left; (go_simp; with_reducible rfl); simp only [Act.put, List.setIfInBounds_toArray, List.set_cons_zero, List.set_cons_succ])
      (refine SeqW.take (v := ?_) rfl (by rfl) (fun W hW => ?_) ?_; rotate_left; (go_simp; with_reducible rfl); simp only [Act.put, List.setIfInBounds_toArray, List.set_cons_zero, List.set_cons_succ])
      (refine SeqW.take (v := ?_) rfl (by rfl) (fun W hW => ?_) ?_; rotate_left; (go_simp; with_reducible rfl); simp only [Act.put, List.setIfInBounds_toArray, List.set_cons_zero, List.set_cons_succ])
      (refine SeqW.take (v := ?_) rfl (by rfl) (fun W hW => ?_) ?_; rotate_left; (go_simp; with_reducible rfl); simp only [Act.put, List.setIfInBounds_toArray, List.set_cons_zero, List.set_cons_succ])
      (refine SeqW.take (v := ?_) rfl (by rfl) (fun W hW => ?_) ?_; rotate_left; (obtain ⟨u1, u2, u3, u4, u5, u6, _⟩ := HZ.out W hW; have s0 : W.cell? ⟨w.heap.size + 1, 0, none⟩ = some (.slice (some ⟨b, off, none⟩) n c) := u1.cell 0; have t0 : W.cell? ⟨w.heap.size + 1 + 1, 0, none⟩ = some (.int .i64 kn) := u2.cell 0; have a0 : W.cell? ⟨w2.heap.size, 0, none⟩ = some (.int .i64 A1) := u3.cell 0; have a1 : W.cell? ⟨w2.heap.size, 1, none⟩ = some (.int .i64 A2) := u3.cell 1; have b0 : W.cell? ⟨w3.heap.size, 0, none⟩ = some (.int .i64 B1) := u4.cell 0; have b1 : W.cell? ⟨w3.heap.size, 1, none⟩ = some (.int .i64 B2) := u4.cell 1; have d0 : W.cell? ⟨w4.heap.size, 0, none⟩ = some (.int .i64 gl) := u5.cell 0; have d1 : W.cell? ⟨w4.heap.size, 1, none⟩ = some (.int .i64 gh) := u5.cell 1; obtain ⟨_, _, _, c3, c4, _⟩ := u6 kn ⟨tag, tx, ty, gl, gh, cr⟩ HT2.out; clear u1 u2 u3 u4 u5 u6; go_simp; with_reducible rfl); simp only [Act.put, List.setIfInBounds_toArray, List.set_cons_zero, List.set_cons_succ])
      (refine SeqW.take (v := ?_) rfl (by rfl) (fun W hW => ?_) ?_; rotate_left; (go_simp; with_reducible rfl); simp only [Act.put, List.setIfInBounds_toArray, List.set_cons_zero, List.set_cons_succ])
      (refine SeqW.take (v := ?_) rfl (by rfl) (fun W hW => ?_) ?_; rotate_left; (obtain ⟨u1, u2, u3, u4, u5, u6, _⟩ := HZ.out W hW; have s0 : W.cell? ⟨w.heap.size + 1, 0, none⟩ = some (.slice (some ⟨b, off, none⟩) n c) := u1.cell 0; have t0 : W.cell? ⟨w.heap.size + 1 + 1, 0, none⟩ = some (.int .i64 kn) := u2.cell 0; have a0 : W.cell? ⟨w2.heap.size, 0, none⟩ = some (.int .i64 A1) := u3.cell 0; have a1 : W.cell? ⟨w2.heap.size, 1, none⟩ = some (.int .i64 A2) := u3.cell 1; have b0 : W.cell? ⟨w3.heap.size, 0, none⟩ = some (.int .i64 B1) := u4.cell 0; have b1 : W.cell? ⟨w3.heap.size, 1, none⟩ = some (.int .i64 B2) := u4.cell 1; have d0 : W.cell? ⟨w4.heap.size, 0, none⟩ = some (.int .i64 gl) := u5.cell 0; have d1 : W.cell? ⟨w4.heap.size, 1, none⟩ = some (.int .i64 gh) := u5.cell 1; obtain ⟨_, _, _, c3, c4, _⟩ := u6 kn ⟨tag, tx, ty, gl, gh, cr⟩ HT2.out; clear u1 u2 u3 u4 u5 u6; go_simp; with_reducible rfl); simp only [Act.put, List.setIfInBounds_toArray, List.set_cons_zero, List.set_cons_succ])
      (refine SeqW.take (v := ?_) rfl (by rfl) (fun W hW => ?_) ?_; rotate_left; (go_simp; with_reducible rfl); simp only [Act.put, List.setIfInBounds_toArray, List.set_cons_zero, List.set_cons_succ])
      (refine SeqW.take (v := ?_) rfl (by rfl) (fun W hW => ?_) ?_; rotate_left; (obtain ⟨u1, u2, u3, u4, u5, u6, _⟩ := HZ.out W hW; have s0 : W.cell? ⟨w.heap.size + 1, 0, none⟩ = some (.slice (some ⟨b, off, none⟩) n c) := u1.cell 0; have t0 : W.cell? ⟨w.heap.size + 1 + 1, 0, none⟩ = some (.int .i64 kn) := u2.cell 0; have a0 : W.cell? ⟨w2.heap.size, 0, none⟩ = some (.int .i64 A1) := u3.cell 0; have a1 : W.cell? ⟨w2.heap.size, 1, none⟩ = some (.int .i64 A2) := u3.cell 1; have b0 : W.cell? ⟨w3.heap.size, 0, none⟩ = some (.int .i64 B1) := u4.cell 0; have b1 : W.cell? ⟨w3.heap.size, 1, none⟩ = some (.int .i64 B2) := u4.cell 1; have d0 : W.cell? ⟨w4.heap.size, 0, none⟩ = some (.int .i64 gl) := u5.cell 0; have d1 : W.cell? ⟨w4.heap.size, 1, none⟩ = some (.int .i64 gh) := u5.cell 1; obtain ⟨_, _, _, c3, c4, _⟩ := u6 kn ⟨tag, tx, ty, gl, gh, cr⟩ HT2.out; clear u1 u2 u3 u4 u5 u6; go_simp; with_reducible rfl); simp only [Act.put, List.setIfInBounds_toArray, List.set_cons_zero, List.set_cons_succ])
      (refine SeqW.take (v := ?_) rfl (by rfl) (fun W hW => ?_) ?_; rotate_left; (obtain ⟨u1, u2, u3, u4, u5, u6, _⟩ := HZ.out W hW; have s0 : W.cell? ⟨w.heap.size + 1, 0, none⟩ = some (.slice (some ⟨b, off, none⟩) n c) := u1.cell 0; have t0 : W.cell? ⟨w.heap.size + 1 + 1, 0, none⟩ = some (.int .i64 kn) := u2.cell 0; have a0 : W.cell? ⟨w2.heap.size, 0, none⟩ = some (.int .i64 A1) := u3.cell 0; have a1 : W.cell? ⟨w2.heap.size, 1, none⟩ = some (.int .i64 A2) := u3.cell 1; have b0 : W.cell? ⟨w3.heap.size, 0, none⟩ = some (.int .i64 B1) := u4.cell 0; have b1 : W.cell? ⟨w3.heap.size, 1, none⟩ = some (.int .i64 B2) := u4.cell 1; have d0 : W.cell? ⟨w4.heap.size, 0, none⟩ = some (.int .i64 gl) := u5.cell 0; have d1 : W.cell? ⟨w4.heap.size, 1, none⟩ = some (.int .i64 gh) := u5.cell 1; obtain ⟨_, _, _, c3, c4, _⟩ := u6 kn ⟨tag, tx, ty, gl, gh, cr⟩ HT2.out; clear u1 u2 u3 u4 u5 u6; go_simp; with_reducible rfl); simp only [Act.put, List.setIfInBounds_toArray, List.set_cons_zero, List.set_cons_succ])
      (refine SeqW.take (v := ?_) rfl (by rfl) (fun W hW => ?_) ?_; rotate_left; (go_simp; with_reducible rfl); simp only [Act.put, List.setIfInBounds_toArray, List.set_cons_zero, List.set_cons_succ])
      (refine SeqW.take (v := ?_) rfl (by rfl) (fun W hW => ?_) ?_; rotate_left; (obtain ⟨u1, u2, u3, u4, u5, u6, _⟩ := HZ.out W hW; have s0 : W.cell? ⟨w.heap.size + 1, 0, none⟩ = some (.slice (some ⟨b, off, none⟩) n c) := u1.cell 0; have t0 : W.cell? ⟨w.heap.size + 1 + 1, 0, none⟩ = some (.int .i64 kn) := u2.cell 0; have a0 : W.cell? ⟨w2.heap.size, 0, none⟩ = some (.int .i64 A1) := u3.cell 0; have a1 : W.cell? ⟨w2.heap.size, 1, none⟩ = some (.int .i64 A2) := u3.cell 1; have b0 : W.cell? ⟨w3.heap.size, 0, none⟩ = some (.int .i64 B1) := u4.cell 0; have b1 : W.cell? ⟨w3.heap.size, 1, none⟩ = some (.int .i64 B2) := u4.cell 1; have d0 : W.cell? ⟨w4.heap.size, 0, none⟩ = some (.int .i64 gl) := u5.cell 0; have d1 : W.cell? ⟨w4.heap.size, 1, none⟩ = some (.int .i64 gh) := u5.cell 1; obtain ⟨_, _, _, c3, c4, _⟩ := u6 kn ⟨tag, tx, ty, gl, gh, cr⟩ HT2.out; clear u1 u2 u3 u4 u5 u6; go_simp; with_reducible rfl); simp only [Act.put, List.setIfInBounds_toArray, List.set_cons_zero, List.set_cons_succ])
      (refine SeqW.take (v := ?_) rfl (by rfl) (fun W hW => ?_) ?_; rotate_left; (go_simp; with_reducible rfl); simp only [Act.put, List.setIfInBounds_toArray, List.set_cons_zero, List.set_cons_succ])
      (refine SeqW.take (v := ?_) rfl (by rfl) (fun W hW => ?_) ?_; rotate_left; (go_simp; with_reducible rfl); simp only [Act.put, List.setIfInBounds_toArray, List.set_cons_zero, List.set_cons_succ])
      (refine SeqW.take (v := ?_) rfl (by rfl) (fun W hW => ?_) ?_; rotate_left; (go_simp; with_reducible rfl); simp only [Act.put, List.setIfInBounds_toArray, List.set_cons_zero, List.set_cons_succ])
      (refine SeqW.take (v := ?_) rfl (by rfl) (fun W hW => ?_) ?_; rotate_left; (go_simp; with_reducible rfl); simp only [Act.put, List.setIfInBounds_toArray, List.set_cons_zero, List.set_cons_succ])
      (refine SeqW.take (v := ?_) rfl (by rfl) (fun W hW => ?_) ?_; rotate_left; (obtain ⟨u1, u2, u3, u4, u5, u6, _⟩ := HZ.out W hW; have s0 : W.cell? ⟨w.heap.size + 1, 0, none⟩ = some (.slice (some ⟨b, off, none⟩) n c) := u1.cell 0; have t0 : W.cell? ⟨w.heap.size + 1 + 1, 0, none⟩ = some (.int .i64 kn) := u2.cell 0; have a0 : W.cell? ⟨w2.heap.size, 0, none⟩ = some (.int .i64 A1) := u3.cell 0; have a1 : W.cell? ⟨w2.heap.size, 1, none⟩ = some (.int .i64 A2) := u3.cell 1; have b0 : W.cell? ⟨w3.heap.size, 0, none⟩ = some (.int .i64 B1) := u4.cell 0; have b1 : W.cell? ⟨w3.heap.size, 1, none⟩ = some (.int .i64 B2) := u4.cell 1; have d0 : W.cell? ⟨w4.heap.size, 0, none⟩ = some (.int .i64 gl) := u5.cell 0; have d1 : W.cell? ⟨w4.heap.size, 1, none⟩ = some (.int .i64 gh) := u5.cell 1; obtain ⟨_, _, _, c3, c4, _⟩ := u6 kn ⟨tag, tx, ty, gl, gh, cr⟩ HT2.out; clear u1 u2 u3 u4 u5 u6; go_simp; with_reducible rfl); simp only [Act.put, List.setIfInBounds_toArray, List.set_cons_zero, List.set_cons_succ])
      (refine SeqW.take (v := ?_) rfl (by rfl) (fun W hW => ?_) ?_; rotate_left; (go_simp; with_reducible rfl); simp only [Act.put, List.setIfInBounds_toArray, List.set_cons_zero, List.set_cons_succ])
      (refine SeqW.take (v := ?_) rfl (by rfl) (fun W hW => ?_) ?_; rotate_left; (obtain ⟨u1, u2, u3, u4, u5, u6, _⟩ := HZ.out W hW; have s0 : W.cell? ⟨w.heap.size + 1, 0, none⟩ = some (.slice (some ⟨b, off, none⟩) n c) := u1.cell 0; have t0 : W.cell? ⟨w.heap.size + 1 + 1, 0, none⟩ = some (.int .i64 kn) := u2.cell 0; have a0 : W.cell? ⟨w2.heap.size, 0, none⟩ = some (.int .i64 A1) := u3.cell 0; have a1 : W.cell? ⟨w2.heap.size, 1, none⟩ = some (.int .i64 A2) := u3.cell 1; have b0 : W.cell? ⟨w3.heap.size, 0, none⟩ = some (.int .i64 B1) := u4.cell 0; have b1 : W.cell? ⟨w3.heap.size, 1, none⟩ = some (.int .i64 B2) := u4.cell 1; have d0 : W.cell? ⟨w4.heap.size, 0, none⟩ = some (.int .i64 gl) := u5.cell 0; have d1 : W.cell? ⟨w4.heap.size, 1, none⟩ = some (.int .i64 gh) := u5.cell 1; obtain ⟨_, _, _, c3, c4, _⟩ := u6 kn ⟨tag, tx, ty, gl, gh, cr⟩ HT2.out; clear u1 u2 u3 u4 u5 u6; go_simp; with_reducible rfl); simp only [Act.put, List.setIfInBounds_toArray, List.set_cons_zero, List.set_cons_succ])
      (refine SeqW.take (v := ?_) rfl (by rfl) (fun W hW => ?_) ?_; rotate_left; (go_simp; with_reducible rfl); simp only [Act.put, List.setIfInBounds_toArray, List.set_cons_zero, List.set_cons_succ])
      (refine SeqW.take (v := ?_) rfl (by rfl) (fun W hW => ?_) ?_; rotate_left; (go_simp; with_reducible rfl); simp only [Act.put, List.setIfInBounds_toArray, List.set_cons_zero, List.set_cons_succ])
      (refine SeqW.take (v := ?_) rfl (by rfl) (fun W hW => ?_) ?_; rotate_left; (obtain ⟨u1, u2, u3, u4, u5, u6, _⟩ := HZ.out W hW; have s0 : W.cell? ⟨w.heap.size + 1, 0, none⟩ = some (.slice (some ⟨b, off, none⟩) n c) := u1.cell 0; have t0 : W.cell? ⟨w.heap.size + 1 + 1, 0, none⟩ = some (.int .i64 kn) := u2.cell 0; have a0 : W.cell? ⟨w2.heap.size, 0, none⟩ = some (.int .i64 A1) := u3.cell 0; have a1 : W.cell? ⟨w2.heap.size, 1, none⟩ = some (.int .i64 A2) := u3.cell 1; have b0 : W.cell? ⟨w3.heap.size, 0, none⟩ = some (.int .i64 B1) := u4.cell 0; have b1 : W.cell? ⟨w3.heap.size, 1, none⟩ = some (.int .i64 B2) := u4.cell 1; have d0 : W.cell? ⟨w4.heap.size, 0, none⟩ = some (.int .i64 gl) := u5.cell 0; have d1 : W.cell? ⟨w4.heap.size, 1, none⟩ = some (.int .i64 gh) := u5.cell 1; obtain ⟨_, _, _, c3, c4, _⟩ := u6 kn ⟨tag, tx, ty, gl, gh, cr⟩ HT2.out; clear u1 u2 u3 u4 u5 u6; go_simp; with_reducible rfl); simp only [Act.put, List.setIfInBounds_toArray, List.set_cons_zero, List.set_cons_succ])
      (refine SeqW.take (v := ?_) rfl (by rfl) (fun W hW => ?_) ?_; rotate_left; (go_simp; with_reducible rfl); simp only [Act.put, List.setIfInBounds_toArray, List.set_cons_zero, List.set_cons_succ])
      (refine SeqW.take (v := ?_) rfl (by rfl) (fun W hW => ?_) ?_; rotate_left; (obtain ⟨u1, u2, u3, u4, u5, u6, _⟩ := HZ.out W hW; have s0 : W.cell? ⟨w.heap.size + 1, 0, none⟩ = some (.slice (some ⟨b, off, none⟩) n c) := u1.cell 0; have t0 : W.cell? ⟨w.heap.size + 1 + 1, 0, none⟩ = some (.int .i64 kn) := u2.cell 0; have a0 : W.cell? ⟨w2.heap.size, 0, none⟩ = some (.int .i64 A1) := u3.cell 0; have a1 : W.cell? ⟨w2.heap.size, 1, none⟩ = some (.int .i64 A2) := u3.cell 1; have b0 : W.cell? ⟨w3.heap.size, 0, none⟩ = some (.int .i64 B1) := u4.cell 0; have b1 : W.cell? ⟨w3.heap.size, 1, none⟩ = some (.int .i64 B2) := u4.cell 1; have d0 : W.cell? ⟨w4.heap.size, 0, none⟩ = some (.int .i64 gl) := u5.cell 0; have d1 : W.cell? ⟨w4.heap.size, 1, none⟩ = some (.int .i64 gh) := u5.cell 1; obtain ⟨_, _, _, c3, c4, _⟩ := u6 kn ⟨tag, tx, ty, gl, gh, cr⟩ HT2.out; clear u1 u2 u3 u4 u5 u6; go_simp; with_reducible rfl); simp only [Act.put, List.setIfInBounds_toArray, List.set_cons_zero, List.set_cons_succ])
      (refine SeqW.take (v := ?_) rfl (by rfl) (fun W hW => ?_) ?_; rotate_left; (go_simp; with_reducible rfl); simp only [Act.put, List.setIfInBounds_toArray, List.set_cons_zero, List.set_cons_succ])
      (refine SeqW.call rfl (by rfl) (fun K hK => ?_); go_simp)
      refine (refIn_any _ _ _ _).mono ?_
      rw [show frB (B1 - A1) 0 (B2 - A2) = true from frB_iff.2 ⟨q1, q2⟩]
      rintro e w' ⟨rfl, rfl⟩
      go_simp
      refine hK.out _ _ hS ?_
      clear hK K
      (refine SeqW.take (v := ?_) rfl (by rfl) (fun W hW => ?_) ?_; rotate_left; (go_simp; with_reducible rfl); simp only [Act.put, List.setIfInBounds_toArray, List.set_cons_zero, List.set_cons_succ])
      (refine SeqW.take (v := ?_) rfl (by rfl) (fun W hW => ?_) ?_; rotate_left; (go_simp; with_reducible rfl); simp only [Act.put, List.setIfInBounds_toArray, List.set_cons_zero, List.set_cons_succ])
      (refine SeqW.take (v := ?_) rfl (by rfl) (fun W hW => ?_) ?_; rotate_left; (go_simp; with_reducible rfl); simp only [Act.put, List.setIfInBounds_toArray, List.set_cons_zero, List.set_cons_succ])
      (refine SeqW.take (v := ?_) rfl (by rfl) (fun W hW => ?_) ?_; rotate_left; (obtain ⟨u1, u2, u3, u4, u5, u6, _⟩ := HZ.out W hW; have s0 : W.cell? ⟨w.heap.size + 1, 0, none⟩ = some (.slice (some ⟨b, off, none⟩) n c) := u1.cell 0; have t0 : W.cell? ⟨w.heap.size + 1 + 1, 0, none⟩ = some (.int .i64 kn) := u2.cell 0; have a0 : W.cell? ⟨w2.heap.size, 0, none⟩ = some (.int .i64 A1) := u3.cell 0; have a1 : W.cell? ⟨w2.heap.size, 1, none⟩ = some (.int .i64 A2) := u3.cell 1; have b0 : W.cell? ⟨w3.heap.size, 0, none⟩ = some (.int .i64 B1) := u4.cell 0; have b1 : W.cell? ⟨w3.heap.size, 1, none⟩ = some (.int .i64 B2) := u4.cell 1; have d0 : W.cell? ⟨w4.heap.size, 0, none⟩ = some (.int .i64 gl) := u5.cell 0; have d1 : W.cell? ⟨w4.heap.size, 1, none⟩ = some (.int .i64 gh) := u5.cell 1; obtain ⟨_, _, _, c3, c4, _⟩ := u6 kn ⟨tag, tx, ty, gl, gh, cr⟩ HT2.out; clear u1 u2 u3 u4 u5 u6; go_simp; with_reducible rfl); simp only [Act.put, List.setIfInBounds_toArray, List.set_cons_zero, List.set_cons_succ])
      (refine SeqW.take (v := ?_) rfl (by rfl) (fun W hW => ?_) ?_; rotate_left; (go_simp; with_reducible rfl); simp only [Act.put, List.setIfInBounds_toArray, List.set_cons_zero, List.set_cons_succ])
      (refine SeqW.take (v := ?_) rfl (by rfl) (fun W hW => ?_) ?_; rotate_left; (obtain ⟨u1, u2, u3, u4, u5, u6, _⟩ := HZ.out W hW; have s0 : W.cell? ⟨w.heap.size + 1, 0, none⟩ = some (.slice (some ⟨b, off, none⟩) n c) := u1.cell 0; have t0 : W.cell? ⟨w.heap.size + 1 + 1, 0, none⟩ = some (.int .i64 kn) := u2.cell 0; have a0 : W.cell? ⟨w2.heap.size, 0, none⟩ = some (.int .i64 A1) := u3.cell 0; have a1 : W.cell? ⟨w2.heap.size, 1, none⟩ = some (.int .i64 A2) := u3.cell 1; have b0 : W.cell? ⟨w3.heap.size, 0, none⟩ = some (.int .i64 B1) := u4.cell 0; have b1 : W.cell? ⟨w3.heap.size, 1, none⟩ = some (.int .i64 B2) := u4.cell 1; have d0 : W.cell? ⟨w4.heap.size, 0, none⟩ = some (.int .i64 gl) := u5.cell 0; have d1 : W.cell? ⟨w4.heap.size, 1, none⟩ = some (.int .i64 gh) := u5.cell 1; obtain ⟨_, _, _, c3, c4, _⟩ := u6 kn ⟨tag, tx, ty, gl, gh, cr⟩ HT2.out; clear u1 u2 u3 u4 u5 u6; go_simp; with_reducible rfl); simp only [Act.put, List.setIfInBounds_toArray, List.set_cons_zero, List.set_cons_succ])
      (refine SeqW.take (v := ?_) rfl (by rfl) (fun W hW => ?_) ?_; rotate_left; (go_simp; with_reducible rfl); simp only [Act.put, List.setIfInBounds_toArray, List.set_cons_zero, List.set_cons_succ])
      (refine SeqW.take (v := ?_) rfl (by rfl) (fun W hW => ?_) ?_; rotate_left; (go_simp; with_reducible rfl); simp only [Act.put, List.setIfInBounds_toArray, List.set_cons_zero, List.set_cons_succ])
      (refine SeqW.take (v := ?_) rfl (by rfl) (fun W hW => ?_) ?_; rotate_left; (go_simp; with_reducible rfl); simp only [Act.put, List.setIfInBounds_toArray, List.set_cons_zero, List.set_cons_succ])
      (refine SeqW.take (v := ?_) rfl (by rfl) (fun W hW => ?_) ?_; rotate_left; (go_simp; with_reducible rfl); simp only [Act.put, List.setIfInBounds_toArray, List.set_cons_zero, List.set_cons_succ])
      (refine SeqW.take (v := ?_) rfl (by rfl) (fun W hW => ?_) ?_; rotate_left; (go_simp; with_reducible rfl); simp only [Act.put, List.setIfInBounds_toArray, List.set_cons_zero, List.set_cons_succ])
      (refine SeqW.take (v := ?_) rfl (by rfl) (fun W hW => ?_) ?_; rotate_left; (obtain ⟨u1, u2, u3, u4, u5, u6, _⟩ := HZ.out W hW; have s0 : W.cell? ⟨w.heap.size + 1, 0, none⟩ = some (.slice (some ⟨b, off, none⟩) n c) := u1.cell 0; have t0 : W.cell? ⟨w.heap.size + 1 + 1, 0, none⟩ = some (.int .i64 kn) := u2.cell 0; have a0 : W.cell? ⟨w2.heap.size, 0, none⟩ = some (.int .i64 A1) := u3.cell 0; have a1 : W.cell? ⟨w2.heap.size, 1, none⟩ = some (.int .i64 A2) := u3.cell 1; have b0 : W.cell? ⟨w3.heap.size, 0, none⟩ = some (.int .i64 B1) := u4.cell 0; have b1 : W.cell? ⟨w3.heap.size, 1, none⟩ = some (.int .i64 B2) := u4.cell 1; have d0 : W.cell? ⟨w4.heap.size, 0, none⟩ = some (.int .i64 gl) := u5.cell 0; have d1 : W.cell? ⟨w4.heap.size, 1, none⟩ = some (.int .i64 gh) := u5.cell 1; obtain ⟨_, _, _, c3, c4, _⟩ := u6 kn ⟨tag, tx, ty, gl, gh, cr⟩ HT2.out; clear u1 u2 u3 u4 u5 u6; go_simp; with_reducible rfl); simp only [Act.put, List.setIfInBounds_toArray, List.set_cons_zero, List.set_cons_succ])
      (refine SeqW.take (v := ?_) rfl (by rfl) (fun W hW => ?_) ?_; rotate_left; (go_simp; with_reducible rfl); simp only [Act.put, List.setIfInBounds_toArray, List.set_cons_zero, List.set_cons_succ])
      (refine SeqW.take (v := ?_) rfl (by rfl) (fun W hW => ?_) ?_; rotate_left; (obtain ⟨u1, u2, u3, u4, u5, u6, _⟩ := HZ.out W hW; have s0 : W.cell? ⟨w.heap.size + 1, 0, none⟩ = some (.slice (some ⟨b, off, none⟩) n c) := u1.cell 0; have t0 : W.cell? ⟨w.heap.size + 1 + 1, 0, none⟩ = some (.int .i64 kn) := u2.cell 0; have a0 : W.cell? ⟨w2.heap.size, 0, none⟩ = some (.int .i64 A1) := u3.cell 0; have a1 : W.cell? ⟨w2.heap.size, 1, none⟩ = some (.int .i64 A2) := u3.cell 1; have b0 : W.cell? ⟨w3.heap.size, 0, none⟩ = some (.int .i64 B1) := u4.cell 0; have b1 : W.cell? ⟨w3.heap.size, 1, none⟩ = some (.int .i64 B2) := u4.cell 1; have d0 : W.cell? ⟨w4.heap.size, 0, none⟩ = some (.int .i64 gl) := u5.cell 0; have d1 : W.cell? ⟨w4.heap.size, 1, none⟩ = some (.int .i64 gh) := u5.cell 1; obtain ⟨_, _, _, c3, c4, _⟩ := u6 kn ⟨tag, tx, ty, gl, gh, cr⟩ HT2.out; clear u1 u2 u3 u4 u5 u6; go_simp; with_reducible rfl); simp only [Act.put, List.setIfInBounds_toArray, List.set_cons_zero, List.set_cons_succ])
      (refine SeqW.take (v := ?_) rfl (by rfl) (fun W hW => ?_) ?_; rotate_left; (go_simp; with_reducible rfl); simp only [Act.put, List.setIfInBounds_toArray, List.set_cons_zero, List.set_cons_succ])
      (refine SeqW.take (v := ?_) rfl (by rfl) (fun W hW => ?_) ?_; rotate_left; (go_simp; with_reducible rfl); simp only [Act.put, List.setIfInBounds_toArray, List.set_cons_zero, List.set_cons_succ])
      (refine SeqW.take (v := ?_) rfl (by rfl) (fun W hW => ?_) ?_; rotate_left; (go_simp; with_reducible rfl); simp only [Act.put, List.setIfInBounds_toArray, List.set_cons_zero, List.set_cons_succ])
      (refine SeqW.call rfl (by rfl) (fun K hK => ?_); go_simp)
      refine (HWk.out _ (HZ.out _ hS).2.2.2.2.2.2).mono ?_
      rintro e w7 ⟨rfl, hb7⟩
      have hS7 := hS.trans (hb7.mono (by simp))
      go_simp
      refine hK.out _ _ hS7 ?_
      clear hK K
      (refine SeqW.take (v := ?_) rfl (by rfl) (fun W hW => ?_) ?_; rotate_left; (go_simp; with_reducible rfl); simp only [Act.put, List.setIfInBounds_toArray, List.set_cons_zero, List.set_cons_succ])
      (refine SeqW.take (v := ?_) rfl (by rfl) (fun W hW => ?_) ?_; rotate_left; (go_simp; with_reducible rfl); simp only [Act.put, List.setIfInBounds_toArray, List.set_cons_zero, List.set_cons_succ])
      refine SeqW.done ?_
      go_wp2_with fail
      go_ret
      exact ⟨rfl, (HZ.out _ hS7).2.2.2.2.2.2⟩
end Go.Proofs.YtcjmfacdjdegkaaDoor
