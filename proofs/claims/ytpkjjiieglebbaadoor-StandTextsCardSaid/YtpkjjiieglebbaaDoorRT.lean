/- Contracts of the reference's text, Print and Parse. Conditions: the trees lie in memory as the model says. -/
import Derived.Test.YtpkjjiieglebbaaDoorRL
import Derived.Test.YtpkjjiieglebbaaDoorPX
import Derived.Test.YtpkjjiieglebbaaDoorR4
namespace Go.Proofs.YtpkjjiieglebbaaDoor
open Go Go.RowKit
theorem refDigitsI_any (n : Int) (w : World) (h : 0 ≤ n ∧ n ≤ 100000) :
    Calls Tryd.prog 101 #[.int .i64 n] w fun e w' => ∃ d : ByteArray, e = .returned (.string d) ∧ d.data.toList = numL' n ∧ d.size ≤ 7 ∧ Below w.heap.size w w' := by
  obtain ⟨k, rfl⟩ : ∃ k : Nat, n = k := ⟨n.toNat, by omega⟩
  refine (refDigits_any 6 k w (by simp; omega) (by omega)).mono ?_
  rintro e w' ⟨rfl, hb⟩
  have hl := dec_len7 (n := k) (by omega)
  exact ⟨_, rfl, by rw [num_dec h.1]; rfl, by rw [← size_len]; exact hl, hb⟩
set_option maxRecDepth 100000 in
set_option maxHeartbeats 4000000 in
theorem refText_any (a : Option Addr) (n c : Nat) (ts : List Tree) (lo hi pr ne : Int) (w : World) (hT : Trees w a n c ts) (hE : checkE ⟨ts, lo, hi, pr, ne⟩ = 0) :
    Calls Tryd.prog 85 #[.agg #[.slice a n c, .int .i64 lo, .int .i64 hi, .int .i64 pr, .int .i64 ne]] w fun e w' => e = .returned (.string ⟨(printL ⟨ts, lo, hi, pr, ne⟩).toArray⟩) ∧ Below w.heap.size w w' := by
  have hn := hT.len
  subst hn
  have HX : Hid (∀ W, Below (w.heap.size + 1) ((w.alloc (.cells #[.slice a ts.length c, .int .i64 lo, .int .i64 hi, .int .i64 pr, .int .i64 ne] 29))) W → Box W w.heap.size #[.slice a ts.length c, .int .i64 lo, .int .i64 hi, .int .i64 pr, .int .i64 ne] 29 ∧ Trees W a ts.length c ts ∧ Below w.heap.size w W ∧ w.heap.size + 1 ≤ W.heap.size) := Lib.hid fun W h => by
    have hB : Below w.heap.size w W := ((Below.refl _ _).alloc (Nat.le_refl _) _).trans (h.mono (by omega))
    exact ⟨(Box.new w _ _).below h (by omega), hT.below hB, hB, by have := h.size; simp at this; omega⟩
  clear hT
  obtain ⟨⟨n1, n2⟩, ⟨n3, n4⟩, ⟨n5, n6⟩, ⟨n7, n8⟩, h14, hTB⟩ := headB_of hE
  dsimp only at n1 n2 n3 n4 n5 n6 n7 n8 h14 hTB
  have HTB := Lib.hid hTB
  have HHL := Lib.hid (head_len hE)
  clear hTB hE
  go_enter Tryd.func85, Tryd.ntmps85
  go_wp2_with fail
  have hS1 : Below (w.heap.size + 1) ((w.alloc (.cells #[.slice a ts.length c, .int .i64 lo, .int .i64 hi, .int .i64 pr, .int .i64 ne] 29))) ((w.alloc (.cells #[.slice a ts.length c, .int .i64 lo, .int .i64 hi, .int .i64 pr, .int .i64 ne] 29))).drew := (Below.refl _ _).drew
  refine region_seq (fun W => Below (w.heap.size + 1) ((w.alloc (.cells #[.slice a ts.length c, .int .i64 lo, .int .i64 hi, .int .i64 pr, .int .i64 ne] 29))) W) [(0, true), (1, true), (2, true), (6, true), (7, true), (8, true), (12, true), (13, true), (17, true), (18, true), (3, false), (4, true), (5, true), (9, false), (10, true), (11, true), (14, false), (15, true), (16, true), (19, false), (20, true), (21, true), (22, true)]
    (by kernel_rfl) (by kernel_rfl) (by kernel_rfl) (by simp) (fun _ _ _ _ h => h) hS1 ?_
  iterate 2 (refine SeqW.take (v := ?_) rfl (by rfl) (fun W hW => ?_) ?_; rotate_left; (go_simp; with_reducible rfl); simp only [Act.put, List.setIfInBounds_toArray, List.set_cons_zero, List.set_cons_succ])
  (refine SeqW.take (v := ?_) rfl (by rfl) (fun W hW => ?_) ?_; rotate_left; (obtain ⟨q0, _⟩ := HX.out W hW; have b1 : W.cell? ⟨w.heap.size, 1, none⟩ = some (.int .i64 lo) := q0.cell 1; have b2 : W.cell? ⟨w.heap.size, 2, none⟩ = some (.int .i64 hi) := q0.cell 2; have b3 : W.cell? ⟨w.heap.size, 3, none⟩ = some (.int .i64 pr) := q0.cell 3; have b4 : W.cell? ⟨w.heap.size, 4, none⟩ = some (.int .i64 ne) := q0.cell 4; clear q0 hW; go_simp; with_reducible rfl); simp only [Act.put, List.setIfInBounds_toArray, List.set_cons_zero, List.set_cons_succ])
  iterate 2 (refine SeqW.take (v := ?_) rfl (by rfl) (fun W hW => ?_) ?_; rotate_left; (go_simp; with_reducible rfl); simp only [Act.put, List.setIfInBounds_toArray, List.set_cons_zero, List.set_cons_succ])
  (refine SeqW.take (v := ?_) rfl (by rfl) (fun W hW => ?_) ?_; rotate_left; (obtain ⟨q0, _⟩ := HX.out W hW; have b1 : W.cell? ⟨w.heap.size, 1, none⟩ = some (.int .i64 lo) := q0.cell 1; have b2 : W.cell? ⟨w.heap.size, 2, none⟩ = some (.int .i64 hi) := q0.cell 2; have b3 : W.cell? ⟨w.heap.size, 3, none⟩ = some (.int .i64 pr) := q0.cell 3; have b4 : W.cell? ⟨w.heap.size, 4, none⟩ = some (.int .i64 ne) := q0.cell 4; clear q0 hW; go_simp; with_reducible rfl); simp only [Act.put, List.setIfInBounds_toArray, List.set_cons_zero, List.set_cons_succ])
  (refine SeqW.take (v := ?_) rfl (by rfl) (fun W hW => ?_) ?_; rotate_left; (go_simp; with_reducible rfl); simp only [Act.put, List.setIfInBounds_toArray, List.set_cons_zero, List.set_cons_succ])
  (refine SeqW.take (v := ?_) rfl (by rfl) (fun W hW => ?_) ?_; rotate_left; (obtain ⟨q0, _⟩ := HX.out W hW; have b1 : W.cell? ⟨w.heap.size, 1, none⟩ = some (.int .i64 lo) := q0.cell 1; have b2 : W.cell? ⟨w.heap.size, 2, none⟩ = some (.int .i64 hi) := q0.cell 2; have b3 : W.cell? ⟨w.heap.size, 3, none⟩ = some (.int .i64 pr) := q0.cell 3; have b4 : W.cell? ⟨w.heap.size, 4, none⟩ = some (.int .i64 ne) := q0.cell 4; clear q0 hW; go_simp; with_reducible rfl); simp only [Act.put, List.setIfInBounds_toArray, List.set_cons_zero, List.set_cons_succ])
  (refine SeqW.take (v := ?_) rfl (by rfl) (fun W hW => ?_) ?_; rotate_left; (go_simp; with_reducible rfl); simp only [Act.put, List.setIfInBounds_toArray, List.set_cons_zero, List.set_cons_succ])
  (refine SeqW.take (v := ?_) rfl (by rfl) (fun W hW => ?_) ?_; rotate_left; (obtain ⟨q0, _⟩ := HX.out W hW; have b1 : W.cell? ⟨w.heap.size, 1, none⟩ = some (.int .i64 lo) := q0.cell 1; have b2 : W.cell? ⟨w.heap.size, 2, none⟩ = some (.int .i64 hi) := q0.cell 2; have b3 : W.cell? ⟨w.heap.size, 3, none⟩ = some (.int .i64 pr) := q0.cell 3; have b4 : W.cell? ⟨w.heap.size, 4, none⟩ = some (.int .i64 ne) := q0.cell 4; clear q0 hW; go_simp; with_reducible rfl); simp only [Act.put, List.setIfInBounds_toArray, List.set_cons_zero, List.set_cons_succ])
  refine SeqW.call rfl (by rfl) (fun K hK => ?_); go_simp
  refine (refDigitsI_any lo _ (by omega)).mono ?_
  rintro e w2 ⟨d1, rfl, hd1, zd1, hb⟩
  have Hd1 := Lib.hid hd1
  have hS2 : Below (w.heap.size + 1) ((w.alloc (.cells #[.slice a ts.length c, .int .i64 lo, .int .i64 hi, .int .i64 pr, .int .i64 ne] 29))) w2 := hS1.trans (hb.mono (by simp))
  go_simp
  refine hK.out _ _ hS2 ?_
  clear hK K hb hd1 hS1
  iterate 2 (refine SeqW.take (v := ?_) rfl (by rfl) (fun W hW => ?_) ?_; rotate_left; (go_simp; rw [if_neg (by first | omega | (simp only [ByteArray.size_append]; omega) | (simp only [ByteArray.size_append]; simp [ByteArray.size] at *; omega))]); simp only [Act.put, List.setIfInBounds_toArray, List.set_cons_zero, List.set_cons_succ])
  refine SeqW.call rfl (by rfl) (fun K hK => ?_); go_simp
  refine (refDigitsI_any hi _ (by omega)).mono ?_
  rintro e w3 ⟨d2, rfl, hd2, zd2, hb⟩
  have Hd2 := Lib.hid hd2
  have hS3 : Below (w.heap.size + 1) ((w.alloc (.cells #[.slice a ts.length c, .int .i64 lo, .int .i64 hi, .int .i64 pr, .int .i64 ne] 29))) w3 := hS2.trans (hb.mono (by have := hS2.size; simpa using this))
  go_simp
  refine hK.out _ _ hS3 ?_
  clear hK K hb hd2 hS2
  iterate 2 (refine SeqW.take (v := ?_) rfl (by rfl) (fun W hW => ?_) ?_; rotate_left; (go_simp; rw [if_neg (by first | omega | (simp only [ByteArray.size_append]; omega) | (simp only [ByteArray.size_append]; simp [ByteArray.size] at *; omega))]); simp only [Act.put, List.setIfInBounds_toArray, List.set_cons_zero, List.set_cons_succ])
  refine SeqW.call rfl (by rfl) (fun K hK => ?_); go_simp
  refine (refDigitsI_any pr _ (by omega)).mono ?_
  rintro e w4 ⟨d3, rfl, hd3, zd3, hb⟩
  have Hd3 := Lib.hid hd3
  have hS4 : Below (w.heap.size + 1) ((w.alloc (.cells #[.slice a ts.length c, .int .i64 lo, .int .i64 hi, .int .i64 pr, .int .i64 ne] 29))) w4 := hS3.trans (hb.mono (by have := hS3.size; simpa using this))
  go_simp
  refine hK.out _ _ hS4 ?_
  clear hK K hb hd3 hS3
  iterate 2 (refine SeqW.take (v := ?_) rfl (by rfl) (fun W hW => ?_) ?_; rotate_left; (go_simp; rw [if_neg (by first | omega | (simp only [ByteArray.size_append]; omega) | (simp only [ByteArray.size_append]; simp [ByteArray.size] at *; omega))]); simp only [Act.put, List.setIfInBounds_toArray, List.set_cons_zero, List.set_cons_succ])
  refine SeqW.call rfl (by rfl) (fun K hK => ?_); go_simp
  refine (refDigitsI_any ne _ (by omega)).mono ?_
  rintro e w5 ⟨d4, rfl, hd4, zd4, hb⟩
  have Hd4 := Lib.hid hd4
  have hS5 : Below (w.heap.size + 1) ((w.alloc (.cells #[.slice a ts.length c, .int .i64 lo, .int .i64 hi, .int .i64 pr, .int .i64 ne] 29))) w5 := hS4.trans (hb.mono (by have := hS4.size; simpa using this))
  go_simp
  refine hK.out _ _ hS5 ?_
  clear hK K hb hd4 hS4
  iterate 2 (refine SeqW.take (v := ?_) rfl (by rfl) (fun W hW => ?_) ?_; rotate_left; (go_simp; rw [if_neg (by first | omega | (simp only [ByteArray.size_append]; omega) | (simp only [ByteArray.size_append]; simp [ByteArray.size] at *; omega))]); simp only [Act.put, List.setIfInBounds_toArray, List.set_cons_zero, List.set_cons_succ])
  (refine SeqW.take (v := ?_) rfl (by rfl) (fun W hW => ?_) ?_; rotate_left; (go_simp; with_reducible rfl); simp only [Act.put, List.setIfInBounds_toArray, List.set_cons_zero, List.set_cons_succ])
  refine SeqW.done ?_
  obtain ⟨T0, hT0⟩ : ∃ T0 : ByteArray, T0 = (⟨#[115, 116, 97, 110, 100, 32, 103, 114, 111, 119, 32]⟩ ++ d1 ++ ⟨#[32]⟩ ++ d2 ++ ⟨#[32, 112, 114, 101, 115, 115, 32]⟩ ++ d3 ++ ⟨#[32, 110, 101, 97, 114, 32]⟩ ++ d4 ++ ⟨#[10]⟩ : ByteArray) := ⟨_, rfl⟩
  rw [← hT0]
  have HT0 : Hid (T0.data.toList = lineL (headT ⟨ts, lo, hi, pr, ne⟩)) := Lib.hid (by
    rw [hT0, line_head]
    simp only [ByteArray.data_append, Array.toList_append, Hd1.out, Hd2.out, Hd3.out, Hd4.out, List.append_assoc])
  have hTz : T0.size ≤ 1001 * (0 + 1) := by
    have := HHL.out
    rw [← size_len, HT0.out]
    simp only [lineL, List.length_append, List.length_singleton]; omega
  clear hT0 zd1 zd2 zd3 zd4
  have HB5 := (HX.out _ hS5)
  have s0 : w5.cell? ⟨w.heap.size, 0, none⟩ = some (.slice a ts.length c) := HB5.1.cell 0
  clear HB5
  go_wp2_with fail
  go_loopw [3, 4] (fun tv iv wr => ∃ (k : Nat) (T : ByteArray), k ≤ ts.length ∧ iv = .int .i64 k ∧ tv = .string T ∧ Hid (T.data.toList = lineL (headT ⟨ts, lo, hi, pr, ne⟩) ++ linesL (ts.take k)) ∧ T.size ≤ 1001 * (k + 1) ∧ Below (w.heap.size + 1) ((w.alloc (.cells #[.slice a ts.length c, .int .i64 lo, .int .i64 hi, .int .i64 pr, .int .i64 ne] 29))) wr) (fun _ iv _ => ts.length - (intOf iv).toNat)
  case atStart => exact ⟨0, T0, Nat.zero_le _, rfl, rfl, Lib.hid (by rw [HT0.out]; simp [linesL]), hTz, hS5⟩
  case round =>
    obtain ⟨k, T, hk, rfl, rfl, HT, hz, hB⟩ := hrel
    clear hTz HT0 hS5 s0
    obtain ⟨bX, hTr, hB0, hz0⟩ := HX.out wr hB
    have s0 : wr.cell? ⟨w.heap.size, 0, none⟩ = some (.slice a ts.length c) := bX.cell 0
    by_cases hlt : k < ts.length
    case neg =>
      go_wp2_with fail
      go_ret
      refine ⟨?_, hB0⟩
      have e : T = ⟨(printL ⟨ts, lo, hi, pr, ne⟩).toArray⟩ := by
        apply ByteArray.ext; apply Array.ext'
        rw [HT.out, List.take_of_length_le (by omega)]; rfl
      rw [← e]; rfl
    obtain ⟨t, ht⟩ : ∃ t, ts[k]? = some t := ⟨_, List.getElem?_eq_getElem hlt⟩
    have htb := HTB.out t (List.mem_of_getElem? ht)
    obtain ⟨b, off, rfl, hbl, hTA⟩ := hTr.at_.resolve_left (fun h => by subst h; simp at hlt)
    obtain ⟨c0, c1, c2, c3, c4, c5⟩ := hTA k t ht
    have HST : Hid (linesL (ts.take (k + 1)) = linesL (ts.take k) ++ lineL (treeT t)) := Lib.hid (by rw [List.take_add_one, ht]; simp [linesL])
    have HLN := Lib.hid (line_tree t)
    have HTL := Lib.hid (tree_len htb)
    obtain ⟨t0, ⟨t1, t2⟩, ⟨t3, t4⟩, ⟨t5, t6⟩, ⟨t7, t8⟩, ⟨t9, t10⟩⟩ := treeB_nums htb
    obtain ⟨tag, x, y, gl, gh, cr⟩ := t
    dsimp only at t0 t1 t2 t3 t4 t5 t6 t7 t8 t9 t10 c0 c1 c2 c3 c4 c5
    have HR : Hid (∀ W, Below (wr.heap.size + 1) ((wr.alloc (.cells #[.string tag, .int .i64 x, .int .i64 y, .int .i64 gl, .int .i64 gh, .int .i64 cr] 62))) W → Box W wr.heap.size #[.string tag, .int .i64 x, .int .i64 y, .int .i64 gl, .int .i64 gh, .int .i64 cr] 62 ∧ Below wr.heap.size wr W) := Lib.hid fun W h => by
      have hbb : Below wr.heap.size wr W := ((Below.refl _ _).alloc (Nat.le_refl _) _).trans (h.mono (by omega))
      exact ⟨(Box.new wr _ _).below h (by omega), hbb⟩
    clear hTA hTr ht htb bX
    go_wp2_with fail
    have hR1 : Below (wr.heap.size + 1) ((wr.alloc (.cells #[.string tag, .int .i64 x, .int .i64 y, .int .i64 gl, .int .i64 gh, .int .i64 cr] 62))) ((wr.alloc (.cells #[.string tag, .int .i64 x, .int .i64 y, .int .i64 gl, .int .i64 gh, .int .i64 cr] 62))).drew := (Below.refl _ _).drew
    refine region_seq (fun W => Below (wr.heap.size + 1) ((wr.alloc (.cells #[.string tag, .int .i64 x, .int .i64 y, .int .i64 gl, .int .i64 gh, .int .i64 cr] 62))) W) [(0, true), (1, true), (2, true), (3, true), (4, true), (5, true), (6, true), (10, true), (11, true), (15, true), (16, true), (17, true), (21, true), (22, true), (23, true), (27, true), (28, true), (7, false), (8, true), (9, true), (12, false), (13, true), (14, true), (18, false), (19, true), (20, true), (24, false), (25, true), (26, true), (29, false), (30, true), (31, true), (32, true), (33, true)]
      (by kernel_rfl) (by kernel_rfl) (by kernel_rfl) (by simp) (fun _ _ _ _ h => h) hR1 ?_
    iterate 2 (refine SeqW.take (v := ?_) rfl (by rfl) (fun W hW => ?_) ?_; rotate_left; (go_simp; with_reducible rfl); simp only [Act.put, List.setIfInBounds_toArray, List.set_cons_zero, List.set_cons_succ])
    (refine SeqW.take (v := ?_) rfl (by rfl) (fun W hW => ?_) ?_; rotate_left; (obtain ⟨q0, _⟩ := HR.out W hW; have b0 : W.cell? ⟨wr.heap.size, 0, none⟩ = some (.string tag) := q0.cell 0; have b1 : W.cell? ⟨wr.heap.size, 1, none⟩ = some (.int .i64 x) := q0.cell 1; have b2 : W.cell? ⟨wr.heap.size, 2, none⟩ = some (.int .i64 y) := q0.cell 2; have b3 : W.cell? ⟨wr.heap.size, 3, none⟩ = some (.int .i64 gl) := q0.cell 3; have b4 : W.cell? ⟨wr.heap.size, 4, none⟩ = some (.int .i64 gh) := q0.cell 4; have b5 : W.cell? ⟨wr.heap.size, 5, none⟩ = some (.int .i64 cr) := q0.cell 5; clear q0 hW; go_simp; with_reducible rfl); simp only [Act.put, List.setIfInBounds_toArray, List.set_cons_zero, List.set_cons_succ])
    iterate 2 (refine SeqW.take (v := ?_) rfl (by rfl) (fun W hW => ?_) ?_; rotate_left; (go_simp; rw [if_neg (by first | omega | (simp only [ByteArray.size_append]; omega) | (simp only [ByteArray.size_append]; simp [ByteArray.size] at *; omega))]); simp only [Act.put, List.setIfInBounds_toArray, List.set_cons_zero, List.set_cons_succ])
    (refine SeqW.take (v := ?_) rfl (by rfl) (fun W hW => ?_) ?_; rotate_left; (go_simp; with_reducible rfl); simp only [Act.put, List.setIfInBounds_toArray, List.set_cons_zero, List.set_cons_succ])
    (refine SeqW.take (v := ?_) rfl (by rfl) (fun W hW => ?_) ?_; rotate_left; (obtain ⟨q0, _⟩ := HR.out W hW; have b0 : W.cell? ⟨wr.heap.size, 0, none⟩ = some (.string tag) := q0.cell 0; have b1 : W.cell? ⟨wr.heap.size, 1, none⟩ = some (.int .i64 x) := q0.cell 1; have b2 : W.cell? ⟨wr.heap.size, 2, none⟩ = some (.int .i64 y) := q0.cell 2; have b3 : W.cell? ⟨wr.heap.size, 3, none⟩ = some (.int .i64 gl) := q0.cell 3; have b4 : W.cell? ⟨wr.heap.size, 4, none⟩ = some (.int .i64 gh) := q0.cell 4; have b5 : W.cell? ⟨wr.heap.size, 5, none⟩ = some (.int .i64 cr) := q0.cell 5; clear q0 hW; go_simp; with_reducible rfl); simp only [Act.put, List.setIfInBounds_toArray, List.set_cons_zero, List.set_cons_succ])
    (refine SeqW.take (v := ?_) rfl (by rfl) (fun W hW => ?_) ?_; rotate_left; (go_simp; with_reducible rfl); simp only [Act.put, List.setIfInBounds_toArray, List.set_cons_zero, List.set_cons_succ])
    (refine SeqW.take (v := ?_) rfl (by rfl) (fun W hW => ?_) ?_; rotate_left; (obtain ⟨q0, _⟩ := HR.out W hW; have b0 : W.cell? ⟨wr.heap.size, 0, none⟩ = some (.string tag) := q0.cell 0; have b1 : W.cell? ⟨wr.heap.size, 1, none⟩ = some (.int .i64 x) := q0.cell 1; have b2 : W.cell? ⟨wr.heap.size, 2, none⟩ = some (.int .i64 y) := q0.cell 2; have b3 : W.cell? ⟨wr.heap.size, 3, none⟩ = some (.int .i64 gl) := q0.cell 3; have b4 : W.cell? ⟨wr.heap.size, 4, none⟩ = some (.int .i64 gh) := q0.cell 4; have b5 : W.cell? ⟨wr.heap.size, 5, none⟩ = some (.int .i64 cr) := q0.cell 5; clear q0 hW; go_simp; with_reducible rfl); simp only [Act.put, List.setIfInBounds_toArray, List.set_cons_zero, List.set_cons_succ])
    iterate 2 (refine SeqW.take (v := ?_) rfl (by rfl) (fun W hW => ?_) ?_; rotate_left; (go_simp; with_reducible rfl); simp only [Act.put, List.setIfInBounds_toArray, List.set_cons_zero, List.set_cons_succ])
    (refine SeqW.take (v := ?_) rfl (by rfl) (fun W hW => ?_) ?_; rotate_left; (obtain ⟨q0, _⟩ := HR.out W hW; have b0 : W.cell? ⟨wr.heap.size, 0, none⟩ = some (.string tag) := q0.cell 0; have b1 : W.cell? ⟨wr.heap.size, 1, none⟩ = some (.int .i64 x) := q0.cell 1; have b2 : W.cell? ⟨wr.heap.size, 2, none⟩ = some (.int .i64 y) := q0.cell 2; have b3 : W.cell? ⟨wr.heap.size, 3, none⟩ = some (.int .i64 gl) := q0.cell 3; have b4 : W.cell? ⟨wr.heap.size, 4, none⟩ = some (.int .i64 gh) := q0.cell 4; have b5 : W.cell? ⟨wr.heap.size, 5, none⟩ = some (.int .i64 cr) := q0.cell 5; clear q0 hW; go_simp; with_reducible rfl); simp only [Act.put, List.setIfInBounds_toArray, List.set_cons_zero, List.set_cons_succ])
    iterate 2 (refine SeqW.take (v := ?_) rfl (by rfl) (fun W hW => ?_) ?_; rotate_left; (go_simp; with_reducible rfl); simp only [Act.put, List.setIfInBounds_toArray, List.set_cons_zero, List.set_cons_succ])
    (refine SeqW.take (v := ?_) rfl (by rfl) (fun W hW => ?_) ?_; rotate_left; (obtain ⟨q0, _⟩ := HR.out W hW; have b0 : W.cell? ⟨wr.heap.size, 0, none⟩ = some (.string tag) := q0.cell 0; have b1 : W.cell? ⟨wr.heap.size, 1, none⟩ = some (.int .i64 x) := q0.cell 1; have b2 : W.cell? ⟨wr.heap.size, 2, none⟩ = some (.int .i64 y) := q0.cell 2; have b3 : W.cell? ⟨wr.heap.size, 3, none⟩ = some (.int .i64 gl) := q0.cell 3; have b4 : W.cell? ⟨wr.heap.size, 4, none⟩ = some (.int .i64 gh) := q0.cell 4; have b5 : W.cell? ⟨wr.heap.size, 5, none⟩ = some (.int .i64 cr) := q0.cell 5; clear q0 hW; go_simp; with_reducible rfl); simp only [Act.put, List.setIfInBounds_toArray, List.set_cons_zero, List.set_cons_succ])
    (refine SeqW.take (v := ?_) rfl (by rfl) (fun W hW => ?_) ?_; rotate_left; (go_simp; with_reducible rfl); simp only [Act.put, List.setIfInBounds_toArray, List.set_cons_zero, List.set_cons_succ])
    (refine SeqW.take (v := ?_) rfl (by rfl) (fun W hW => ?_) ?_; rotate_left; (obtain ⟨q0, _⟩ := HR.out W hW; have b0 : W.cell? ⟨wr.heap.size, 0, none⟩ = some (.string tag) := q0.cell 0; have b1 : W.cell? ⟨wr.heap.size, 1, none⟩ = some (.int .i64 x) := q0.cell 1; have b2 : W.cell? ⟨wr.heap.size, 2, none⟩ = some (.int .i64 y) := q0.cell 2; have b3 : W.cell? ⟨wr.heap.size, 3, none⟩ = some (.int .i64 gl) := q0.cell 3; have b4 : W.cell? ⟨wr.heap.size, 4, none⟩ = some (.int .i64 gh) := q0.cell 4; have b5 : W.cell? ⟨wr.heap.size, 5, none⟩ = some (.int .i64 cr) := q0.cell 5; clear q0 hW; go_simp; with_reducible rfl); simp only [Act.put, List.setIfInBounds_toArray, List.set_cons_zero, List.set_cons_succ])
    refine SeqW.call rfl (by rfl) (fun K hK => ?_); go_simp
    refine (refDigitsI_any x _ (by omega)).mono ?_
    rintro e v2 ⟨e1, rfl, he1, ze1, hb⟩
    have He1 := Lib.hid he1
    have hR2 : Below (wr.heap.size + 1) ((wr.alloc (.cells #[.string tag, .int .i64 x, .int .i64 y, .int .i64 gl, .int .i64 gh, .int .i64 cr] 62))) v2 := hR1.trans (hb.mono (by simp))
    go_simp
    refine hK.out _ _ hR2 ?_
    clear hK K hb he1 hR1
    iterate 2 (refine SeqW.take (v := ?_) rfl (by rfl) (fun W hW => ?_) ?_; rotate_left; (go_simp; rw [if_neg (by first | omega | (simp only [ByteArray.size_append]; omega) | (simp only [ByteArray.size_append]; simp [ByteArray.size] at *; omega))]); simp only [Act.put, List.setIfInBounds_toArray, List.set_cons_zero, List.set_cons_succ])
    refine SeqW.call rfl (by rfl) (fun K hK => ?_); go_simp
    refine (refDigitsI_any y _ (by omega)).mono ?_
    rintro e v3 ⟨e2, rfl, he2, ze2, hb⟩
    have He2 := Lib.hid he2
    have hR3 : Below (wr.heap.size + 1) ((wr.alloc (.cells #[.string tag, .int .i64 x, .int .i64 y, .int .i64 gl, .int .i64 gh, .int .i64 cr] 62))) v3 := hR2.trans (hb.mono (by have := hR2.size; simpa using this))
    go_simp
    refine hK.out _ _ hR3 ?_
    clear hK K hb he2 hR2
    iterate 2 (refine SeqW.take (v := ?_) rfl (by rfl) (fun W hW => ?_) ?_; rotate_left; (go_simp; rw [if_neg (by first | omega | (simp only [ByteArray.size_append]; omega) | (simp only [ByteArray.size_append]; simp [ByteArray.size] at *; omega))]); simp only [Act.put, List.setIfInBounds_toArray, List.set_cons_zero, List.set_cons_succ])
    refine SeqW.call rfl (by rfl) (fun K hK => ?_); go_simp
    refine (refDigitsI_any gl _ (by omega)).mono ?_
    rintro e v4 ⟨e3, rfl, he3, ze3, hb⟩
    have He3 := Lib.hid he3
    have hR4 : Below (wr.heap.size + 1) ((wr.alloc (.cells #[.string tag, .int .i64 x, .int .i64 y, .int .i64 gl, .int .i64 gh, .int .i64 cr] 62))) v4 := hR3.trans (hb.mono (by have := hR3.size; simpa using this))
    go_simp
    refine hK.out _ _ hR4 ?_
    clear hK K hb he3 hR3
    iterate 2 (refine SeqW.take (v := ?_) rfl (by rfl) (fun W hW => ?_) ?_; rotate_left; (go_simp; rw [if_neg (by first | omega | (simp only [ByteArray.size_append]; omega) | (simp only [ByteArray.size_append]; simp [ByteArray.size] at *; omega))]); simp only [Act.put, List.setIfInBounds_toArray, List.set_cons_zero, List.set_cons_succ])
    refine SeqW.call rfl (by rfl) (fun K hK => ?_); go_simp
    refine (refDigitsI_any gh _ (by omega)).mono ?_
    rintro e v5 ⟨e4, rfl, he4, ze4, hb⟩
    have He4 := Lib.hid he4
    have hR5 : Below (wr.heap.size + 1) ((wr.alloc (.cells #[.string tag, .int .i64 x, .int .i64 y, .int .i64 gl, .int .i64 gh, .int .i64 cr] 62))) v5 := hR4.trans (hb.mono (by have := hR4.size; simpa using this))
    go_simp
    refine hK.out _ _ hR5 ?_
    clear hK K hb he4 hR4
    iterate 2 (refine SeqW.take (v := ?_) rfl (by rfl) (fun W hW => ?_) ?_; rotate_left; (go_simp; rw [if_neg (by first | omega | (simp only [ByteArray.size_append]; omega) | (simp only [ByteArray.size_append]; simp [ByteArray.size] at *; omega))]); simp only [Act.put, List.setIfInBounds_toArray, List.set_cons_zero, List.set_cons_succ])
    refine SeqW.call rfl (by rfl) (fun K hK => ?_); go_simp
    refine (refDigitsI_any cr _ (by omega)).mono ?_
    rintro e v6 ⟨e5, rfl, he5, ze5, hb⟩
    have He5 := Lib.hid he5
    have hR6 : Below (wr.heap.size + 1) ((wr.alloc (.cells #[.string tag, .int .i64 x, .int .i64 y, .int .i64 gl, .int .i64 gh, .int .i64 cr] 62))) v6 := hR5.trans (hb.mono (by have := hR5.size; simpa using this))
    go_simp
    refine hK.out _ _ hR6 ?_
    clear hK K hb he5 hR5
    iterate 3 (refine SeqW.take (v := ?_) rfl (by rfl) (fun W hW => ?_) ?_; rotate_left; (go_simp; rw [if_neg (by first | omega | (simp only [ByteArray.size_append]; omega) | (simp only [ByteArray.size_append]; simp [ByteArray.size] at *; omega))]); simp only [Act.put, List.setIfInBounds_toArray, List.set_cons_zero, List.set_cons_succ])
    (refine SeqW.take (v := ?_) rfl (by rfl) (fun W hW => ?_) ?_; rotate_left; (go_simp; with_reducible rfl); simp only [Act.put, List.setIfInBounds_toArray, List.set_cons_zero, List.set_cons_succ])
    refine SeqW.done ?_
    obtain ⟨Lb, hLb⟩ : ∃ Lb : ByteArray, Lb = (⟨#[116, 114, 101, 101, 32]⟩ ++ tag ++ ⟨#[32]⟩ ++ e1 ++ ⟨#[32]⟩ ++ e2 ++ ⟨#[32, 103, 105, 114, 116, 104, 32]⟩ ++ e3 ++ ⟨#[32]⟩ ++ e4 ++ ⟨#[32, 99, 114, 111, 119, 110, 32]⟩ ++ e5 ++ ⟨#[10]⟩ : ByteArray) := ⟨_, rfl⟩
    rw [← hLb]
    have HLb : Hid (Lb.data.toList = lineL (treeT ⟨tag, x, y, gl, gh, cr⟩)) := Lib.hid (by
      rw [hLb, HLN.out]
      simp only [ByteArray.data_append, Array.toList_append, He1.out, He2.out, He3.out, He4.out, He5.out, List.append_assoc])
    have hLz : Lb.size ≤ 1001 := by
      have := HTL.out
      rw [← size_len, HLb.out]
      simp only [lineL, List.length_append, List.length_singleton]; omega
    clear hLb ze1 ze2 ze3 ze4 ze5
    go_wp2_with fail
    go_roundw
    case rel => exact ⟨k + 1, T ++ Lb, by omega, by go_num, rfl, Lib.hid (by rw [ByteArray.data_append, Array.toList_append, HT.out, HLb.out, HST.out, List.append_assoc]), by rw [ByteArray.size_append]; omega, hB.trans ((HR.out _ hR6).2.mono (by omega))⟩
    case measure => simp [intOf]; omega
end Go.Proofs.YtpkjjiieglebbaaDoor
