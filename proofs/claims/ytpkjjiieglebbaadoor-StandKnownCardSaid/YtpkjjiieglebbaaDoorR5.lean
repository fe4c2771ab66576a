/- Contracts of the reference: how far trees are apart, neighbours, and Near. Conditions: the trees lie in memory as the model says; tags fit into memory. -/
import Derived.Test.YtpkjjiieglebbaaDoorR4
import Derived.Test.YtpkjjiieglebbaaDoorD
import Derived.Test.YtpkjjiieglebbaaDoorNE
import Derived.Test.YtpkjjiieglebbaaDoorPA
namespace Go.Proofs.YtpkjjiieglebbaaDoor
open Go Go.RowKit
set_option maxHeartbeats 400000 in
theorem apart_any (t u : Tree) (d : Int) (w : World) (h1 : 0 ≤ t.x ∧ t.x ≤ 100000 ∧ 0 ≤ t.y ∧ t.y ≤ 100000) (h2 : 0 ≤ u.x ∧ u.x ≤ 100000 ∧ 0 ≤ u.y ∧ u.y ≤ 100000) (h3 : 0 ≤ d ∧ d ≤ 100000) :
    Calls Tryd.prog 92 #[.agg #[.string t.tag, .int .i64 t.x, .int .i64 t.y, .int .i64 t.gl, .int .i64 t.gh, .int .i64 t.cr], .agg #[.string u.tag, .int .i64 u.x, .int .i64 u.y, .int .i64 u.gl, .int .i64 u.gh, .int .i64 u.cr], .int .i64 d] w
      fun e w' => e = .returned (.bool (within t.x t.y u.x u.y d)) ∧ Below w.heap.size w w' := by
  obtain ⟨tag, x, y, gl, gh, cr⟩ := t
  obtain ⟨tag', x', y', gl', gh', cr'⟩ := u
  obtain ⟨a1, a2, a3, a4⟩ := h1
  obtain ⟨b1, b2, b3, b4⟩ := h2
  obtain ⟨d1, d2⟩ := h3
  dsimp only at *
  obtain ⟨q1, q2⟩ := sq_le (x - x') (by omega) (by omega)
  obtain ⟨q3, q4⟩ := sq_le (y - y') (by omega) (by omega)
  obtain ⟨q5, q6⟩ := sq_le d (by omega) (by omega)
  go_enter Tryd.func92, Tryd.ntmps92
  go_wp2_with fail
  go_quiet (fail)
  go_wp2_with fail
  go_ret
  exact ⟨ret_bool (by simp [within]), below_drewN (((Below.refl _ _).alloc (Nat.le_refl _) _).alloc (by simp) _) _⟩
theorem within_comm (x y u v d : Int) : within x y u v d = within u v x y d := by
  unfold within
  have e1 : (x - u) * (x - u) = (u - x) * (u - x) := by rw [← Int.neg_mul_neg, Int.neg_sub]
  have e2 : (y - v) * (y - v) = (v - y) * (v - y) := by rw [← Int.neg_mul_neg, Int.neg_sub]
  rw [e1, e2]
theorem nearTo_snoc (ts : List Tree) (ne : Int) (k i : Nat) : nearTo ts ne k (i + 1) = nearTo ts ne k i ++ (if nbB ts ne k i then [i] else []) := by
  unfold nearTo
  rw [List.range_succ, List.filter_append]
  cases h : nbB ts ne k i <;> simp [h]
set_option maxRecDepth 100000 in
set_option maxHeartbeats 4000000 in
theorem refNear_in (a : Option Addr) (c : Nat) (ts : List Tree) (lo hi pr ne : Int) (kn : Nat) (w : World) (hT : Trees w a ts.length c ts) (hok : ∀ t ∈ ts, okTree t) (hne : 0 ≤ ne ∧ ne ≤ 100000) (h14 : ts.length ≤ 14) (hk : kn < ts.length) :
    Calls Tryd.prog 57 #[.agg #[.slice a ts.length c, .int .i64 lo, .int .i64 hi, .int .i64 pr, .int .i64 ne], .int .i64 (kn : Int)] w fun e w' =>
      ∃ v, e = .returned v ∧ w'.ownsRow w.heap.size 3 1 v (nearL ts ne kn).length ((nearL ts ne kn).map fun i : Nat => Value.int .i64 (i : Int)) ∧ Below w.heap.size w w' := by
  have hfit := hT.fits
  have HX : Hid (∀ W, Below (w.heap.size + 1) (w.alloc (.cells #[.slice a ts.length c, .int .i64 lo, .int .i64 hi, .int .i64 pr, .int .i64 ne] 29)) W → Box W w.heap.size #[.slice a ts.length c, .int .i64 lo, .int .i64 hi, .int .i64 pr, .int .i64 ne] 29 ∧ Trees W a ts.length c ts ∧ Below w.heap.size w W ∧ w.heap.size < W.heap.size) := Lib.hid fun W h => by
    have hB : Below w.heap.size w W := ((Below.refl _ _).alloc (Nat.le_refl _) _).trans (h.mono (by omega))
    exact ⟨(Box.new w _ _).below h (by omega), hT.below hB, hB, by have := h.size; simp at this; omega⟩
  have hS0 : Below (w.heap.size + 1) (w.alloc (.cells #[.slice a ts.length c, .int .i64 lo, .int .i64 hi, .int .i64 pr, .int .i64 ne] 29)) (w.alloc (.cells #[.slice a ts.length c, .int .i64 lo, .int .i64 hi, .int .i64 pr, .int .i64 ne] 29)) := Below.refl _ _
  obtain ⟨u, hu⟩ : ∃ u, ts[kn]? = some u := ⟨_, List.getElem?_eq_getElem hk⟩
  have hou := Lib.hid (hok u (List.mem_of_getElem? hu))
  have HOK := Lib.hid hok
  have HNE := Lib.hid hne
  obtain ⟨i0, hi0, hz0, hz1, hz2⟩ := info_parts info3
  rcases hT.at_ with rfl | ⟨b, off, rfl, hbl, hTw⟩
  · simp at hk
  have HTw : Hid (∀ W, Below w.heap.size w W → TreesAt W b off ts) := Lib.hid fun W h => hTw.below h hbl
  clear hT hok hne hTw
  go_enter Tryd.func57, Tryd.ntmps57
  go_wp2_with fail
  go_loopg [5, 6] ts.length (fun g o iv wr => ∃ (i : Nat) (va : Option Addr) (vc : Nat), i + g = ts.length ∧ iv = .int .i64 i ∧ o = .slice va (nearTo ts ne kn i).length vc ∧ Hid (wr.ownsRow (w.heap.size + 1) 3 1 (.slice va (nearTo ts ne kn i).length vc) (nearTo ts ne kn i).length ((nearTo ts ne kn i).map fun i : Nat => Value.int .i64 (i : Int))) ∧ Below (w.heap.size + 1) (w.alloc (.cells #[.slice (some ⟨b, off, none⟩) ts.length c, .int .i64 lo, .int .i64 hi, .int .i64 pr, .int .i64 ne] 29)) wr)
  case atStart => exact ⟨0, none, 0, by omega, rfl, rfl, Lib.hid (World.ownsRow_nil _ _ _ _), hS0⟩
  case round =>
    obtain ⟨i, va, vc, hig, rfl, rfl, HR, hB⟩ := hrel
    obtain ⟨bx, _, hB0, hz⟩ := HX.out wr hB
    have hbz : b < wr.heap.size := by omega
    have e0 : wr.cell? ⟨w.heap.size, 0, none⟩ = some (.slice (some ⟨b, off, none⟩) ts.length c) := bx.cell 0
    cases gk with
    | zero =>
      have hil : i = ts.length := by omega
      clear bx
      go_wp2_with fail
      go_ret
      have e : nearL ts ne kn = nearTo ts ne kn i := by rw [hil]; rfl
      refine ⟨.slice va (nearTo ts ne kn i).length vc, rfl, ?_, hB0⟩
      rw [e]
      exact ownsRow_base HR.out (show w.heap.size ≤ w.heap.size + 1 by omega)
    | succ g =>
      have hlt : i < ts.length := by omega
      obtain ⟨t, ht⟩ : ∃ t, ts[i]? = some t := ⟨_, List.getElem?_eq_getElem hlt⟩
      have hot := HOK.out t (List.mem_of_getElem? ht)
      have hS : Box wr.drew w.heap.size #[.slice (some ⟨b, off, none⟩) ts.length c, .int .i64 lo, .int .i64 hi, .int .i64 pr, .int .i64 ne] 29 ∧ TreesAt wr.drew b off ts := ⟨bx.drew, HTw.out _ hB0.drew⟩
      have hlen : (nearTo ts ne kn i).length ≤ i := by
        unfold nearTo
        have := List.length_filter_le (nbB ts ne kn) (List.range i)
        simpa using this
      clear bx
      by_cases hik : i = kn
      · have HN : Hid (nearTo ts ne kn (i + 1) = nearTo ts ne kn i) := Lib.hid (by rw [nearTo_snoc]; simp [nbB, hu, hik])
        have hq : ((i : Int) != (kn : Int)) = false := by simp; omega
        go_wp2_with fail
        refine region_seq (fun W => Box W w.heap.size #[.slice (some ⟨b, off, none⟩) ts.length c, .int .i64 lo, .int .i64 hi, .int .i64 pr, .int .i64 ne] 29 ∧ TreesAt W b off ts) [(0, true), (1, true), (2, true), (3, true), (4, true), (5, true), (6, true), (7, true), (8, true), (9, true), (10, true), (11, true), (12, true), (13, true), (14, true), (15, true), (16, true), (17, true)]
          (by kernel_rfl) (by kernel_rfl) (by kernel_rfl) (by simp) (fun _ _ _ _ h => h) hS ?_
        iterate 4 (refine SeqW.take (v := ?_) rfl (by rfl) (fun W hW => ?_) ?_; rotate_left; (go_simp; with_reducible rfl); simp only [Act.put, List.setIfInBounds_toArray, List.set_cons_zero, List.set_cons_succ])
        iterate 13 (refine SeqW.skip rfl (by rfl) ?_; simp only [Act.put, List.setIfInBounds_toArray, List.set_cons_zero, List.set_cons_succ])
        (refine SeqW.take (v := ?_) rfl (by rfl) (fun W hW => ?_) ?_; rotate_left; (go_simp; with_reducible rfl); simp only [Act.put, List.setIfInBounds_toArray, List.set_cons_zero, List.set_cons_succ])
        refine SeqW.done ?_
        go_wp2_with fail
        go_roundg g
        case rel => exact ⟨i + 1, va, vc, by omega, by go_num, by rw [HN.out], Lib.hid (by rw [HN.out]; exact HR.out.drew), hB.drew⟩
        case measure => omega
      · have hq : ((i : Int) != (kn : Int)) = true := by simp; omega
        have hnb : nbB ts ne kn i = within t.x t.y u.x u.y ne := by
          unfold nbB
          rw [hu, ht]
          simp only [show (i == kn) = false by simpa using hik, Bool.not_false, Bool.true_and]
          exact within_comm _ _ _ _ _
        go_wp2_with fail
        refine region_seq (fun W => Box W w.heap.size #[.slice (some ⟨b, off, none⟩) ts.length c, .int .i64 lo, .int .i64 hi, .int .i64 pr, .int .i64 ne] 29 ∧ TreesAt W b off ts) [(0, true), (1, true), (2, true), (3, true), (4, true), (5, true), (6, true), (7, true), (8, true), (9, true), (10, true), (11, true), (12, true), (13, true), (14, true), (15, true), (16, false), (17, true)]
          (by kernel_rfl) (by kernel_rfl) (by kernel_rfl) (by simp) (fun _ _ _ _ h => h) hS ?_
        iterate 5 (refine SeqW.take (v := ?_) rfl (by rfl) (fun W hW => ?_) ?_; rotate_left; (go_simp; with_reducible rfl); simp only [Act.put, List.setIfInBounds_toArray, List.set_cons_zero, List.set_cons_succ])
        (refine SeqW.take (v := ?_) rfl (by rfl) (fun W hW => ?_) ?_; rotate_left; (obtain ⟨q0, q1⟩ := hW; have b0 : W.cell? ⟨w.heap.size, 0, none⟩ = some (.slice (some ⟨b, off, none⟩) ts.length c) := q0.cell 0; have b4 : W.cell? ⟨w.heap.size, 4, none⟩ = some (.int .i64 ne) := q0.cell 4; obtain ⟨c0, c1, c2, c3, c4, c5⟩ := q1 i t ht; obtain ⟨d0, d1, d2, d3, d4, d5⟩ := q1 kn u hu; clear q0 q1; go_simp; with_reducible rfl); simp only [Act.put, List.setIfInBounds_toArray, List.set_cons_zero, List.set_cons_succ])
        iterate 2 (refine SeqW.take (v := ?_) rfl (by rfl) (fun W hW => ?_) ?_; rotate_left; (go_simp; with_reducible rfl); simp only [Act.put, List.setIfInBounds_toArray, List.set_cons_zero, List.set_cons_succ])
        (refine SeqW.take (v := ?_) rfl (by rfl) (fun W hW => ?_) ?_; rotate_left; (obtain ⟨q0, q1⟩ := hW; have b0 : W.cell? ⟨w.heap.size, 0, none⟩ = some (.slice (some ⟨b, off, none⟩) ts.length c) := q0.cell 0; have b4 : W.cell? ⟨w.heap.size, 4, none⟩ = some (.int .i64 ne) := q0.cell 4; obtain ⟨c0, c1, c2, c3, c4, c5⟩ := q1 i t ht; obtain ⟨d0, d1, d2, d3, d4, d5⟩ := q1 kn u hu; clear q0 q1; go_simp; with_reducible rfl); simp only [Act.put, List.setIfInBounds_toArray, List.set_cons_zero, List.set_cons_succ])
        (refine SeqW.take (v := ?_) rfl (by rfl) (fun W hW => ?_) ?_; rotate_left; (go_simp; with_reducible rfl); simp only [Act.put, List.setIfInBounds_toArray, List.set_cons_zero, List.set_cons_succ])
        (refine SeqW.take (v := ?_) rfl (by rfl) (fun W hW => ?_) ?_; rotate_left; (obtain ⟨q0, q1⟩ := hW; have b0 : W.cell? ⟨w.heap.size, 0, none⟩ = some (.slice (some ⟨b, off, none⟩) ts.length c) := q0.cell 0; have b4 : W.cell? ⟨w.heap.size, 4, none⟩ = some (.int .i64 ne) := q0.cell 4; obtain ⟨c0, c1, c2, c3, c4, c5⟩ := q1 i t ht; obtain ⟨d0, d1, d2, d3, d4, d5⟩ := q1 kn u hu; clear q0 q1; go_simp; with_reducible rfl); simp only [Act.put, List.setIfInBounds_toArray, List.set_cons_zero, List.set_cons_succ])
        iterate 2 (refine SeqW.take (v := ?_) rfl (by rfl) (fun W hW => ?_) ?_; rotate_left; (go_simp; with_reducible rfl); simp only [Act.put, List.setIfInBounds_toArray, List.set_cons_zero, List.set_cons_succ])
        (refine SeqW.take (v := ?_) rfl (by rfl) (fun W hW => ?_) ?_; rotate_left; (obtain ⟨q0, q1⟩ := hW; have b0 : W.cell? ⟨w.heap.size, 0, none⟩ = some (.slice (some ⟨b, off, none⟩) ts.length c) := q0.cell 0; have b4 : W.cell? ⟨w.heap.size, 4, none⟩ = some (.int .i64 ne) := q0.cell 4; obtain ⟨c0, c1, c2, c3, c4, c5⟩ := q1 i t ht; obtain ⟨d0, d1, d2, d3, d4, d5⟩ := q1 kn u hu; clear q0 q1; go_simp; with_reducible rfl); simp only [Act.put, List.setIfInBounds_toArray, List.set_cons_zero, List.set_cons_succ])
        (refine SeqW.take (v := ?_) rfl (by rfl) (fun W hW => ?_) ?_; rotate_left; (go_simp; with_reducible rfl); simp only [Act.put, List.setIfInBounds_toArray, List.set_cons_zero, List.set_cons_succ])
        (refine SeqW.take (v := ?_) rfl (by rfl) (fun W hW => ?_) ?_; rotate_left; (obtain ⟨q0, q1⟩ := hW; have b0 : W.cell? ⟨w.heap.size, 0, none⟩ = some (.slice (some ⟨b, off, none⟩) ts.length c) := q0.cell 0; have b4 : W.cell? ⟨w.heap.size, 4, none⟩ = some (.int .i64 ne) := q0.cell 4; obtain ⟨c0, c1, c2, c3, c4, c5⟩ := q1 i t ht; obtain ⟨d0, d1, d2, d3, d4, d5⟩ := q1 kn u hu; clear q0 q1; go_simp; with_reducible rfl); simp only [Act.put, List.setIfInBounds_toArray, List.set_cons_zero, List.set_cons_succ])
        refine SeqW.call rfl (by rfl) (fun K hK => ?_)
        go_simp
        refine (apart_any t u ne _ hot hou.out HNE.out).mono ?_
        rintro e w2 ⟨rfl, hb2⟩
        have hS2 : Box w2 w.heap.size #[.slice (some ⟨b, off, none⟩) ts.length c, .int .i64 lo, .int .i64 hi, .int .i64 pr, .int .i64 ne] 29 ∧ TreesAt w2 b off ts := ⟨hS.1.below hb2 hS.1.lt, hS.2.below hb2 (by simp; exact hbz)⟩
        go_simp
        refine hK.out _ _ hS2 ?_
        clear hK K
        have hB2 := hB.drew.trans (hb2.mono (by simp; omega))
        have hR2 := Lib.hid (ownsRow_below HR.out.drew hb2 (Nat.le_refl _))
        have hzw := hb2.size
        simp only [World.size_drew] at hzw
        clear hb2
        (refine SeqW.take (v := ?_) rfl (by rfl) (fun W hW => ?_) ?_; rotate_left; (go_simp; with_reducible rfl); simp only [Act.put, List.setIfInBounds_toArray, List.set_cons_zero, List.set_cons_succ])
        refine SeqW.done ?_
        rcases hw : within t.x t.y u.x u.y ne with _ | _
        · have HN : Hid (nearTo ts ne kn (i + 1) = nearTo ts ne kn i) := Lib.hid (by rw [nearTo_snoc, hnb, hw]; simp)
          go_wp2_with fail
          go_roundg g
          case rel => exact ⟨i + 1, va, vc, by omega, by go_num, by rw [HN.out], Lib.hid (by rw [HN.out]; exact hR2.out), hB2⟩
          case measure => omega
        · have HN : Hid (nearTo ts ne kn (i + 1) = nearTo ts ne kn i ++ [i]) := Lib.hid (by rw [nearTo_snoc, hnb, hw]; simp)
          go_wp2_with (at_builtin; refine wpList_append_own _ rfl _ _ 30 rfl (w.heap.size + 1) 3 i0 (.int .i64 0) 1 8 Tryd.underlying30 hi0 hz0 hz1 hz2 rfl (by decide) _ _ _ rfl (hR2.out.alloc _) ⟨w2.heap.size, 0, none⟩ 1 1 [.int .i64 (i : Int)] rfl rfl (cell_one_new _ _ _) (by simp [Value.oneCell']) (by unfold maxLen; omega) (by omega) (by simp; omega) ?_; intro v3 w3 hown3 hgrow3 _; obtain ⟨va3, vc3, rfl⟩ := row_form hown3)
          go_roundg g
          case rel => exact ⟨i + 1, va3, vc3, by omega, by go_num, by rw [HN.out, List.length_append, List.length_singleton], Lib.hid (by rw [HN.out, List.length_append, List.length_singleton, List.map_append]; exact hown3), (hB2.alloc (by omega) _).grown hgrow3 (by simp; omega) (fun j ej => by have := row_ge hR2.out j ej; omega)⟩
          case measure => omega
set_option maxHeartbeats 1000000 in
theorem asked_any (a : Option Addr) (n c : Nat) (ts : List Tree) (lo hi pr ne k : Int) (w : World) (hT : Trees w a n c ts) :
    Calls Tryd.prog 56 #[.agg #[.slice a n c, .int .i64 lo, .int .i64 hi, .int .i64 pr, .int .i64 ne], .int .i64 k] w fun e w' =>
      e = .returned (.int .i64 (nearE ⟨ts, lo, hi, pr, ne⟩ k)) ∧ Below w.heap.size w w' := by
  have hn := hT.len
  subst hn
  have hfit := hT.fits
  have HX : Hid (∀ W, Below (w.heap.size + 1) (w.alloc (.cells #[.slice a ts.length c, .int .i64 lo, .int .i64 hi, .int .i64 pr, .int .i64 ne] 29)) W → Box W w.heap.size #[.slice a ts.length c, .int .i64 lo, .int .i64 hi, .int .i64 pr, .int .i64 ne] 29 ∧ Trees W a ts.length c ts ∧ Below w.heap.size w W) := Lib.hid fun W h => by
    have hB : Below w.heap.size w W := ((Below.refl _ _).alloc (Nat.le_refl _) _).trans (h.mono (by omega))
    exact ⟨(Box.new w _ _).below h (by omega), hT.below hB, hB⟩
  have hS0 : Below (w.heap.size + 1) (w.alloc (.cells #[.slice a ts.length c, .int .i64 lo, .int .i64 hi, .int .i64 pr, .int .i64 ne] 29)) (w.alloc (.cells #[.slice a ts.length c, .int .i64 lo, .int .i64 hi, .int .i64 pr, .int .i64 ne] 29)) := Below.refl _ _
  clear hT
  obtain ⟨x, hx⟩ : ∃ x, x = checkE ⟨ts, lo, hi, pr, ne⟩ := ⟨_, rfl⟩
  have HXE := Lib.hid hx
  have HO : Hid (nearE ⟨ts, lo, hi, pr, ne⟩ k = if x = 0 then treeE (ts.length : Int) k else x) := Lib.hid (by unfold nearE; rw [orE_two, ← hx])
  clear hx
  by_cases h0 : x = 0
  · have q0 : (x != 0) = false := by simpa using h0
    have HO1 : Hid (nearE ⟨ts, lo, hi, pr, ne⟩ k = treeE (ts.length : Int) k) := Lib.hid (by rw [HO.out, if_pos h0])
    clear h0 HO
    rcases hf : frB k 0 ((ts.length : Int) - 1) with _ | _
    · have HF : Hid (nearE ⟨ts, lo, hi, pr, ne⟩ k = 12) := Lib.hid (by rw [HO1.out]; unfold treeE; rw [hf]; rfl)
      go_enter Tryd.func56, Tryd.ntmps56
      go_wp2_with (first
        | (go_at_call 21; refine (refCheck_any a ts.length c ts lo hi pr ne _ (HX.out _ hS0).2.1).mono ?_; rintro e w2 ⟨rfl, hb2⟩; have hS2 := hS0.trans (hb2.mono (by simp)); have e0 : w2.cell? ⟨w.heap.size, 0, none⟩ = some (.slice a ts.length c) := (HX.out _ hS2).1.cell 0; rw [← HXE.out])
        | (go_at_call 45; refine (refIn_any _ _ _ _).mono ?_; rintro e w' ⟨rfl, rfl⟩))
      go_ret; exact ⟨ret_int HF.out.symm, (HX.out _ hS2).2.2⟩
    · have HF : Hid (nearE ⟨ts, lo, hi, pr, ne⟩ k = 0) := Lib.hid (by rw [HO1.out]; unfold treeE; rw [hf]; rfl)
      go_enter Tryd.func56, Tryd.ntmps56
      go_wp2_with (first
        | (go_at_call 21; refine (refCheck_any a ts.length c ts lo hi pr ne _ (HX.out _ hS0).2.1).mono ?_; rintro e w2 ⟨rfl, hb2⟩; have hS2 := hS0.trans (hb2.mono (by simp)); have e0 : w2.cell? ⟨w.heap.size, 0, none⟩ = some (.slice a ts.length c) := (HX.out _ hS2).1.cell 0; rw [← HXE.out])
        | (go_at_call 45; refine (refIn_any _ _ _ _).mono ?_; rintro e w' ⟨rfl, rfl⟩))
      go_ret; exact ⟨ret_int HF.out.symm, (HX.out _ hS2).2.2⟩
  · have q0 : (x != 0) = true := by simpa using h0
    have HO1 : Hid (nearE ⟨ts, lo, hi, pr, ne⟩ k = x) := Lib.hid (by rw [HO.out, if_neg h0])
    clear h0 HO
    go_enter Tryd.func56, Tryd.ntmps56
    go_wp2_with (go_at_call 21; refine (refCheck_any a ts.length c ts lo hi pr ne _ (HX.out _ hS0).2.1).mono ?_; rintro e w2 ⟨rfl, hb2⟩; have hS2 := hS0.trans (hb2.mono (by simp)); rw [← HXE.out])
    go_ret; exact ⟨ret_int HO1.out.symm, (HX.out _ hS2).2.2⟩
set_option maxHeartbeats 1000000 in
theorem refNear_any (a : Option Addr) (n c : Nat) (ts : List Tree) (lo hi pr ne k : Int) (w : World) (hT : Trees w a n c ts) :
    Calls Tryd.prog 16 #[.agg #[.slice a n c, .int .i64 lo, .int .i64 hi, .int .i64 pr, .int .i64 ne], .int .i64 k] w fun e w' =>
      ∃ v, e = .returned (.tuple #[v, .int .i64 (nearE ⟨ts, lo, hi, pr, ne⟩ k)]) ∧ w'.ownsRow w.heap.size 3 1 v (nearR ⟨ts, lo, hi, pr, ne⟩ k).length ((nearR ⟨ts, lo, hi, pr, ne⟩ k).map fun i : Nat => Value.int .i64 (i : Int)) ∧ Below w.heap.size w w' := by
  have hn := hT.len
  subst hn
  have HX : Hid (∀ W, Below (w.heap.size + 1) (w.alloc (.cells #[.slice a ts.length c, .int .i64 lo, .int .i64 hi, .int .i64 pr, .int .i64 ne] 29)) W → Box W w.heap.size #[.slice a ts.length c, .int .i64 lo, .int .i64 hi, .int .i64 pr, .int .i64 ne] 29 ∧ Trees W a ts.length c ts ∧ Below w.heap.size w W) := Lib.hid fun W h => by
    have hB : Below w.heap.size w W := ((Below.refl _ _).alloc (Nat.le_refl _) _).trans (h.mono (by omega))
    exact ⟨(Box.new w _ _).below h (by omega), hT.below hB, hB⟩
  have hS0 : Below (w.heap.size + 1) (w.alloc (.cells #[.slice a ts.length c, .int .i64 lo, .int .i64 hi, .int .i64 pr, .int .i64 ne] 29)) (w.alloc (.cells #[.slice a ts.length c, .int .i64 lo, .int .i64 hi, .int .i64 pr, .int .i64 ne] 29)) := Below.refl _ _
  clear hT
  obtain ⟨x, hx⟩ : ∃ x, x = nearE ⟨ts, lo, hi, pr, ne⟩ k := ⟨_, rfl⟩
  have HXE := Lib.hid hx
  rw [← hx]
  by_cases h0 : x = 0
  · have q0 : (x != 0) = false := by simpa using h0
    have hE : nearE ⟨ts, lo, hi, pr, ne⟩ k = 0 := by rw [← hx]; exact h0
    obtain ⟨kn, rfl, hkn, h14, hok, hne⟩ := near_valid hE
    dsimp only at hkn h14 hok hne
    have HR : Hid (nearR ⟨ts, lo, hi, pr, ne⟩ kn = nearL ts ne kn) := Lib.hid (by unfold nearR; rw [if_pos hE]; rfl)
    have H0 := Lib.hid h0
    clear hE hx h0
    go_enter Tryd.func16, Tryd.ntmps16
    go_wp2_with (first
      | (go_at_call 57; refine (refNear_in a c ts lo hi pr ne kn _ (HX.out _ hS2).2.1 hok hne h14 hkn).mono ?_; rintro e w3 ⟨v, rfl, hv, hb3⟩)
      | (go_at_call 56; refine (asked_any a ts.length c ts lo hi pr ne kn _ (HX.out _ hS0).2.1).mono ?_; rintro e w2 ⟨rfl, hb2⟩; have hS2 := hS0.trans (hb2.mono (by simp)); have hbx := (HX.out _ hS2).1; have e0 : w2.cell? ⟨w.heap.size, 0, none⟩ = some (.slice a ts.length c) := hbx.cell 0; have e1 : w2.cell? ⟨w.heap.size, 1, none⟩ = some (.int .i64 lo) := hbx.cell 1; have e2 : w2.cell? ⟨w.heap.size, 2, none⟩ = some (.int .i64 hi) := hbx.cell 2; have e3 : w2.cell? ⟨w.heap.size, 3, none⟩ = some (.int .i64 pr) := hbx.cell 3; have e4 : w2.cell? ⟨w.heap.size, 4, none⟩ = some (.int .i64 ne) := hbx.cell 4; rw [← HXE.out]; clear hbx))
    have hbw := (HX.out _ hS2).2.2
    refine bodyPost_ret (v := .tuple #[v, .int .i64 0]) (by simp [results, Tryd.results16, go_sem]) rfl ⟨v, by rw [H0.out], ?_, hbw.trans (hb3.mono hbw.size)⟩
    rw [HR.out]
    exact ownsRow_base hv hbw.size
  · have q0 : (x != 0) = true := by simpa using h0
    have HR : Hid (nearR ⟨ts, lo, hi, pr, ne⟩ k = []) := Lib.hid (by unfold nearR; rw [if_neg (by rw [← hx]; exact h0)])
    clear hx h0
    go_enter Tryd.func16, Tryd.ntmps16
    go_wp2_with (go_at_call 56; refine (asked_any a ts.length c ts lo hi pr ne k _ (HX.out _ hS0).2.1).mono ?_; rintro e w2 ⟨rfl, hb2⟩; have hS2 := hS0.trans (hb2.mono (by simp)); rw [← HXE.out])
    refine bodyPost_ret (v := .tuple #[.slice none 0 0, .int .i64 x]) (by simp [results, Tryd.results16, go_sem]) rfl ⟨.slice none 0 0, rfl, ?_, (HX.out _ hS2).2.2⟩
    rw [HR.out]
    exact World.ownsRow_nil _ _ _ _
end Go.Proofs.YtpkjjiieglebbaaDoor
