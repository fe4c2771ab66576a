/- Contracts of the reference: words, spans, trees, checks. Conditions: the trees lie in memory as the model says; texts fit into memory. -/
import Derived.Test.YtpkjjiieglebbaaDoorR1
namespace Go.Proofs.YtpkjjiieglebbaaDoor
open Go Go.RowKit
set_option maxHeartbeats 400000 in
theorem refSpan_any (lo hi a b : Int) (w : World) :
    Calls Tryd.prog 65 #[.agg #[.int .i64 lo, .int .i64 hi], .int .i64 a, .int .i64 b] w fun e w' => e = .returned (.bool (spanB lo hi a b)) ∧ Below w.heap.size w w' := by
  go_enter Tryd.func65, Tryd.ntmps65
  go_wp2
  all_goals (go_ret; exact ⟨by simp [*, spanB] <;> omega, (Below.refl _ _).alloc (Nat.le_refl _) _⟩)
set_option maxHeartbeats 400000 in
theorem refTree_any (tag : ByteArray) (x y gl gh cr : Int) (w : World) (hs : tag.size ≤ maxLen) :
    Calls Tryd.prog 66 #[.agg #[.string tag, .int .i64 x, .int .i64 y, .int .i64 gl, .int .i64 gh, .int .i64 cr]] w
      fun e w' => e = .returned (.bool (treeB ⟨tag, x, y, gl, gh, cr⟩)) ∧ Below w.heap.size w w' := by
  rcases h1 : wordB tag.data.toList with _ | _
  · go_enter Tryd.func66, Tryd.ntmps66
    go_wp2_with (first | (go_at_call 45; refine (refIn_any _ _ _ _).mono ?_; rintro e w' ⟨rfl, rfl⟩) | (go_at_call 60; refine (refWord_any _ _ hs).mono ?_; rintro e w' ⟨rfl, rfl⟩) | (go_at_call 65; refine (refSpan_any _ _ _ _ _).mono ?_; rintro e w1 ⟨rfl, hb1⟩; obtain ⟨hc1, hf1⟩ := bcell hb1))
    go_ret; exact ⟨ret_bool (by simp [treeB, h1]), (Below.refl _ _).alloc (Nat.le_refl _) _⟩
  rcases h2 : frB x 0 100000 with _ | _
  · go_enter Tryd.func66, Tryd.ntmps66
    go_wp2_with (first | (go_at_call 45; refine (refIn_any _ _ _ _).mono ?_; rintro e w' ⟨rfl, rfl⟩) | (go_at_call 60; refine (refWord_any _ _ hs).mono ?_; rintro e w' ⟨rfl, rfl⟩) | (go_at_call 65; refine (refSpan_any _ _ _ _ _).mono ?_; rintro e w1 ⟨rfl, hb1⟩; obtain ⟨hc1, hf1⟩ := bcell hb1))
    go_ret; exact ⟨ret_bool (by simp [treeB, h2]), (Below.refl _ _).alloc (Nat.le_refl _) _⟩
  rcases h3 : frB y 0 100000 with _ | _
  · go_enter Tryd.func66, Tryd.ntmps66
    go_wp2_with (first | (go_at_call 45; refine (refIn_any _ _ _ _).mono ?_; rintro e w' ⟨rfl, rfl⟩) | (go_at_call 60; refine (refWord_any _ _ hs).mono ?_; rintro e w' ⟨rfl, rfl⟩) | (go_at_call 65; refine (refSpan_any _ _ _ _ _).mono ?_; rintro e w1 ⟨rfl, hb1⟩; obtain ⟨hc1, hf1⟩ := bcell hb1))
    go_ret; exact ⟨ret_bool (by simp [treeB, h3]), (Below.refl _ _).alloc (Nat.le_refl _) _⟩
  rcases h4 : spanB gl gh 1 4000 with _ | _
  · go_enter Tryd.func66, Tryd.ntmps66
    go_wp2_with (first | (go_at_call 45; refine (refIn_any _ _ _ _).mono ?_; rintro e w' ⟨rfl, rfl⟩) | (go_at_call 60; refine (refWord_any _ _ hs).mono ?_; rintro e w' ⟨rfl, rfl⟩) | (go_at_call 65; refine (refSpan_any _ _ _ _ _).mono ?_; rintro e w1 ⟨rfl, hb1⟩; obtain ⟨hc1, hf1⟩ := bcell hb1))
    go_ret; exact ⟨ret_bool (by simp [treeB, h4]), ((Below.refl _ _).alloc (Nat.le_refl _) _).trans (hb1.mono (by simp))⟩
  rcases h5 : frB cr 0 100 with _ | _
  all_goals
    go_enter Tryd.func66, Tryd.ntmps66
    go_wp2_with (first | (go_at_call 45; refine (refIn_any _ _ _ _).mono ?_; rintro e w' ⟨rfl, rfl⟩) | (go_at_call 60; refine (refWord_any _ _ hs).mono ?_; rintro e w' ⟨rfl, rfl⟩) | (go_at_call 65; refine (refSpan_any _ _ _ _ _).mono ?_; rintro e w1 ⟨rfl, hb1⟩; obtain ⟨hc1, hf1⟩ := bcell hb1))
    go_ret; exact ⟨ret_bool (by simp [treeB, h1, h2, h3, h4, h5]), ((Below.refl _ _).alloc (Nat.le_refl _) _).trans (hb1.mono (by simp))⟩
theorem refIsWord_any (s : ByteArray) (w : World) (hs : s.size ≤ maxLen) :
    Calls Tryd.prog 19 #[.string s] w fun e w' => e = .returned (.bool (wordB s.data.toList)) ∧ w = w' := by
  go_enter Tryd.func19, Tryd.ntmps19
  go_wp2_with (go_at_call 60; refine (refWord_any _ _ hs).mono ?_; rintro e w' ⟨rfl, rfl⟩)
  go_ret; exact ⟨rfl, rfl⟩
def okA (a b c cr : Int) : Nat → Bool
  | 1 => frB a 1 4000 && frB cr 0 100
  | 2 => (frB a 1 4000 && frB cr 0 100) && frB b (a + 1) 4000
  | _ => ((frB a 1 4000 && frB cr 0 100) && frB b (a + 1) 4000) && frB c (b + 1) 4000
theorem okA_end (a b c cr : Int) : ruleB ⟨a, b, c, cr⟩ = okA a b c cr 3 := by
  simp only [ruleB, okA]
  cases frB cr 0 100 <;> cases frB a 1 4000 <;> rfl
theorem okA_2 (a b c cr : Int) : okA a b c cr 2 = (okA a b c cr 1 && frB b (a + 1) 4000) := rfl
theorem okA_3 (a b c cr : Int) : okA a b c cr 3 = (okA a b c cr 2 && frB c (b + 1) 4000) := rfl
theorem WRAP {n : Int} (h1 : -9223372036854775808 ≤ n) (h2 : n ≤ 9223372036854775807) : IntKind.i64.wrap n = n := by rw [IntKind.wrap_i64]; omega
set_option maxRecDepth 100000 in
set_option maxHeartbeats 2000000 in
theorem refRule_any (a b c cr : Int) (w : World) :
    Calls Tryd.prog 23 #[.agg #[.int .i64 a, .int .i64 b, .int .i64 c, .int .i64 cr]] w fun e w' => e = .returned (.int .i64 (ruleE ⟨a, b, c, cr⟩)) ∧ Below w.heap.size w w' := by
  have HX : Hid (∀ W, Below (w.heap.size + 1) (w.alloc (.cells #[.int .i64 a, .int .i64 b, .int .i64 c, .int .i64 cr] 24)) W → Box W w.heap.size #[.int .i64 a, .int .i64 b, .int .i64 c, .int .i64 cr] 24 ∧ Below w.heap.size w W) := Lib.hid fun W h =>
    ⟨(Box.new w _ _).below h (by omega), ((Below.refl _ _).alloc (Nat.le_refl _) _).trans (h.mono (by omega))⟩
  rcases h1 : frB a 1 4000 with _ | _
  all_goals rcases h2 : frB cr 0 100 with _ | _
  all_goals
    go_enter Tryd.func23, Tryd.ntmps23
    go_wp2_with (go_at_call 45; refine (refIn_any _ _ _ _).mono ?_; rintro e w' ⟨rfl, rfl⟩)
    go_loopw [3, 4] (fun o i wr => ∃ (k : Nat) (ok : Bool), (k = 1 ∨ k = 2 ∨ k = 3) ∧ i = .int .i64 k ∧ o = .bool ok ∧ Hid (ok = okA a b c cr k) ∧ Below (w.heap.size + 1) (w.alloc (.cells #[.int .i64 a, .int .i64 b, .int .i64 c, .int .i64 cr] 24)) wr) (fun _ i _ => 3 - (intOf i).toNat)
    case atStart => exact ⟨1, _, .inl rfl, rfl, rfl, Lib.hid (by simp [okA, h1, h2]), Below.refl _ _⟩
    case round =>
      obtain ⟨k, ok, hk, rfl, rfl, HK, hB⟩ := hrel
      obtain ⟨bx, hB0⟩ := HX.out wr hB
      have HB := Lib.hid bx
      clear bx
      rcases hk with rfl | rfl | rfl
      · cases ok with
        | false =>
          go_wp2_with fail
          refine region_seq (fun W => Box W w.heap.size #[.int .i64 a, .int .i64 b, .int .i64 c, .int .i64 cr] 24) [(0, true), (1, true), (2, true), (3, true), (4, true), (5, true), (6, true), (7, true), (8, true), (9, true), (10, true), (11, true), (12, true), (13, true), (14, true)]
            (by kernel_rfl) (by kernel_rfl) (by kernel_rfl) (by simp) (fun _ _ _ _ h => h) HB.out.drew ?_
          iterate 2 (refine SeqW.take (v := ?_) rfl (by rfl) (fun W hW => ?_) ?_; rotate_left; (go_simp; with_reducible rfl); simp only [Act.put, List.setIfInBounds_toArray, List.set_cons_zero, List.set_cons_succ])
          iterate 11 (refine SeqW.skip rfl (by rfl) ?_; simp only [Act.put, List.setIfInBounds_toArray, List.set_cons_zero, List.set_cons_succ])
          iterate 2 (refine SeqW.take (v := ?_) rfl (by rfl) (fun W hW => ?_) ?_; rotate_left; (go_simp; with_reducible rfl); simp only [Act.put, List.setIfInBounds_toArray, List.set_cons_zero, List.set_cons_succ])
          refine SeqW.done ?_
          go_wp2_with fail
          go_roundw
          case rel => exact ⟨2, false, .inr (.inl rfl), rfl, rfl, Lib.hid (by have := HK.out; rw [okA_2, ← this]; rfl), hB.drew⟩
          case measure => simp [intOf]
        | true =>
          have h := HK.out.symm
          
          have hb := Lib.hid h
          obtain ⟨ha1, ha2⟩ : 1 ≤ a ∧ a ≤ 4000 := frB_iff.1 ((Bool.and_eq_true _ _).mp h).1
          clear h
          go_wp2_with fail
          refine region_seq (fun W => Box W w.heap.size #[.int .i64 a, .int .i64 b, .int .i64 c, .int .i64 cr] 24) [(0, true), (1, true), (2, true), (3, true), (4, true), (5, true), (6, true), (7, true), (8, true), (9, true), (10, true), (11, true), (12, false), (13, true), (14, true)]
            (by kernel_rfl) (by kernel_rfl) (by kernel_rfl) (by simp) (fun _ _ _ _ h => h) HB.out.drew ?_
          iterate 5 (refine SeqW.take (v := ?_) rfl (by rfl) (fun W hW => ?_) ?_; rotate_left; (go_simp; with_reducible rfl); simp only [Act.put, List.setIfInBounds_toArray, List.set_cons_zero, List.set_cons_succ])
          (refine SeqW.take (v := ?_) rfl (by rfl) (fun W hW => ?_) ?_; rotate_left; (have b0 : W.cell? ⟨w.heap.size, 0, none⟩ = some (.int .i64 a) := hW.cell 0; have b1 : W.cell? ⟨w.heap.size, 1, none⟩ = some (.int .i64 b) := hW.cell 1; have b2 : W.cell? ⟨w.heap.size, 2, none⟩ = some (.int .i64 c) := hW.cell 2; clear hW; go_simp; with_reducible rfl); simp only [Act.put, List.setIfInBounds_toArray, List.set_cons_zero, List.set_cons_succ])
          iterate 2 (refine SeqW.take (v := ?_) rfl (by rfl) (fun W hW => ?_) ?_; rotate_left; (go_simp; with_reducible rfl); simp only [Act.put, List.setIfInBounds_toArray, List.set_cons_zero, List.set_cons_succ])
          rw [WRAP (n := 0) (by omega) (by omega)]
          iterate 2 (refine SeqW.take (v := ?_) rfl (by rfl) (fun W hW => ?_) ?_; rotate_left; (go_simp; with_reducible rfl); simp only [Act.put, List.setIfInBounds_toArray, List.set_cons_zero, List.set_cons_succ])
          (refine SeqW.take (v := ?_) rfl (by rfl) (fun W hW => ?_) ?_; rotate_left; (have b0 : W.cell? ⟨w.heap.size, 0, none⟩ = some (.int .i64 a) := hW.cell 0; have b1 : W.cell? ⟨w.heap.size, 1, none⟩ = some (.int .i64 b) := hW.cell 1; have b2 : W.cell? ⟨w.heap.size, 2, none⟩ = some (.int .i64 c) := hW.cell 2; clear hW; go_simp; with_reducible rfl); simp only [Act.put, List.setIfInBounds_toArray, List.set_cons_zero, List.set_cons_succ])
          (refine SeqW.take (v := ?_) rfl (by rfl) (fun W hW => ?_) ?_; rotate_left; (go_simp; with_reducible rfl); simp only [Act.put, List.setIfInBounds_toArray, List.set_cons_zero, List.set_cons_succ])
          refine SeqW.call rfl (by rfl) (fun K hK => ?_)
          go_simp
          rw [WRAP (n := a + 1) (by omega) (by omega)]
          refine (refIn_any b (a + 1) 4000 _).mono ?_
          rintro e w' ⟨rfl, rfl⟩
          go_simp
          refine hK.out _ _ HB.out.drew ?_
          clear hK K
          iterate 2 (refine SeqW.take (v := ?_) rfl (by rfl) (fun W hW => ?_) ?_; rotate_left; (go_simp; with_reducible rfl); simp only [Act.put, List.setIfInBounds_toArray, List.set_cons_zero, List.set_cons_succ])
          refine SeqW.done ?_
          go_wp2_with fail
          go_roundw
          case rel => exact ⟨2, _, .inr (.inl rfl), rfl, rfl, Lib.hid (by have := HK.out; rw [okA_2, ← this]; rfl), hB.drew⟩
          case measure => simp [intOf]
      · cases ok with
        | false =>
          go_wp2_with fail
          refine region_seq (fun W => Box W w.heap.size #[.int .i64 a, .int .i64 b, .int .i64 c, .int .i64 cr] 24) [(0, true), (1, true), (2, true), (3, true), (4, true), (5, true), (6, true), (7, true), (8, true), (9, true), (10, true), (11, true), (12, true), (13, true), (14, true)]
            (by kernel_rfl) (by kernel_rfl) (by kernel_rfl) (by simp) (fun _ _ _ _ h => h) HB.out.drew ?_
          iterate 2 (refine SeqW.take (v := ?_) rfl (by rfl) (fun W hW => ?_) ?_; rotate_left; (go_simp; with_reducible rfl); simp only [Act.put, List.setIfInBounds_toArray, List.set_cons_zero, List.set_cons_succ])
          iterate 11 (refine SeqW.skip rfl (by rfl) ?_; simp only [Act.put, List.setIfInBounds_toArray, List.set_cons_zero, List.set_cons_succ])
          iterate 2 (refine SeqW.take (v := ?_) rfl (by rfl) (fun W hW => ?_) ?_; rotate_left; (go_simp; with_reducible rfl); simp only [Act.put, List.setIfInBounds_toArray, List.set_cons_zero, List.set_cons_succ])
          refine SeqW.done ?_
          go_wp2_with fail
          go_roundw
          case rel => exact ⟨3, false, .inr (.inr rfl), rfl, rfl, Lib.hid (by have := HK.out; rw [okA_3, ← this]; rfl), hB.drew⟩
          case measure => simp [intOf]
        | true =>
          have h := HK.out.symm
          rw [okA_2] at h
          have hb := Lib.hid h
          obtain ⟨ha1, ha2⟩ : 1 ≤ b ∧ b ≤ 4000 := by have q := (Bool.and_eq_true _ _).mp h; have p := frB_iff.1 ((Bool.and_eq_true _ _).mp q.1).1; have r := frB_iff.1 q.2; omega
          clear h
          go_wp2_with fail
          refine region_seq (fun W => Box W w.heap.size #[.int .i64 a, .int .i64 b, .int .i64 c, .int .i64 cr] 24) [(0, true), (1, true), (2, true), (3, true), (4, true), (5, true), (6, true), (7, true), (8, true), (9, true), (10, true), (11, true), (12, false), (13, true), (14, true)]
            (by kernel_rfl) (by kernel_rfl) (by kernel_rfl) (by simp) (fun _ _ _ _ h => h) HB.out.drew ?_
          iterate 5 (refine SeqW.take (v := ?_) rfl (by rfl) (fun W hW => ?_) ?_; rotate_left; (go_simp; with_reducible rfl); simp only [Act.put, List.setIfInBounds_toArray, List.set_cons_zero, List.set_cons_succ])
          (refine SeqW.take (v := ?_) rfl (by rfl) (fun W hW => ?_) ?_; rotate_left; (have b0 : W.cell? ⟨w.heap.size, 0, none⟩ = some (.int .i64 a) := hW.cell 0; have b1 : W.cell? ⟨w.heap.size, 1, none⟩ = some (.int .i64 b) := hW.cell 1; have b2 : W.cell? ⟨w.heap.size, 2, none⟩ = some (.int .i64 c) := hW.cell 2; clear hW; go_simp; with_reducible rfl); simp only [Act.put, List.setIfInBounds_toArray, List.set_cons_zero, List.set_cons_succ])
          iterate 2 (refine SeqW.take (v := ?_) rfl (by rfl) (fun W hW => ?_) ?_; rotate_left; (go_simp; with_reducible rfl); simp only [Act.put, List.setIfInBounds_toArray, List.set_cons_zero, List.set_cons_succ])
          rw [WRAP (n := 1) (by omega) (by omega)]
          iterate 2 (refine SeqW.take (v := ?_) rfl (by rfl) (fun W hW => ?_) ?_; rotate_left; (go_simp; with_reducible rfl); simp only [Act.put, List.setIfInBounds_toArray, List.set_cons_zero, List.set_cons_succ])
          (refine SeqW.take (v := ?_) rfl (by rfl) (fun W hW => ?_) ?_; rotate_left; (have b0 : W.cell? ⟨w.heap.size, 0, none⟩ = some (.int .i64 a) := hW.cell 0; have b1 : W.cell? ⟨w.heap.size, 1, none⟩ = some (.int .i64 b) := hW.cell 1; have b2 : W.cell? ⟨w.heap.size, 2, none⟩ = some (.int .i64 c) := hW.cell 2; clear hW; go_simp; with_reducible rfl); simp only [Act.put, List.setIfInBounds_toArray, List.set_cons_zero, List.set_cons_succ])
          (refine SeqW.take (v := ?_) rfl (by rfl) (fun W hW => ?_) ?_; rotate_left; (go_simp; with_reducible rfl); simp only [Act.put, List.setIfInBounds_toArray, List.set_cons_zero, List.set_cons_succ])
          refine SeqW.call rfl (by rfl) (fun K hK => ?_)
          go_simp
          rw [WRAP (n := b + 1) (by omega) (by omega)]
          refine (refIn_any c (b + 1) 4000 _).mono ?_
          rintro e w' ⟨rfl, rfl⟩
          go_simp
          refine hK.out _ _ HB.out.drew ?_
          clear hK K
          iterate 2 (refine SeqW.take (v := ?_) rfl (by rfl) (fun W hW => ?_) ?_; rotate_left; (go_simp; with_reducible rfl); simp only [Act.put, List.setIfInBounds_toArray, List.set_cons_zero, List.set_cons_succ])
          refine SeqW.done ?_
          go_wp2_with fail
          go_roundw
          case rel => exact ⟨3, _, .inr (.inr rfl), rfl, rfl, Lib.hid (by have := HK.out; rw [okA_3, ← this]; rfl), hB.drew⟩
          case measure => simp [intOf]
      · have HE : Hid (ruleE ⟨a, b, c, cr⟩ = if ok then 0 else 11) := Lib.hid (by unfold ruleE; rw [okA_end, ← HK.out])
        cases ok
        · go_wp2_with fail
          go_ret; exact ⟨ret_int HE.out.symm, hB0⟩
        · go_wp2_with fail
          go_ret; exact ⟨ret_int HE.out.symm, hB0⟩
end Go.Proofs.YtpkjjiieglebbaaDoor
