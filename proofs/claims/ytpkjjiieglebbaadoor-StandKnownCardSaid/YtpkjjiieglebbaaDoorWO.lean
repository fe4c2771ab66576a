/- Contract of the laws' works: it says true. Conditions: the variable changes and the table of powers of ten hold what the text lays. -/
import Derived.Test.YtpkjjiieglebbaaDoorWK
namespace Go.Proofs.YtpkjjiieglebbaaDoor
open Go Go.RowKit
theorem ints_new1 (w : World) (x : Int) : IntsAt (w.alloc (.cells #[.int .i64 x] 3)) (some ⟨w.heap.size, 0, none⟩) 1 [x] :=
  ⟨rfl, .inr ⟨w.heap.size, 0, rfl, by simp, fun i y hy => by
    match i, hy with
    | 0, hy => cases hy; exact (Box.new w #[.int .i64 x] 3).cell 0
    | _ + 1, hy => cases hy⟩⟩
theorem ints_new2 (w : World) (x y : Int) : IntsAt (w.alloc (.cells #[.int .i64 x, .int .i64 y] 3)) (some ⟨w.heap.size, 0, none⟩) 2 [x, y] :=
  ⟨rfl, .inr ⟨w.heap.size, 0, rfl, by simp, fun i z hz => by
    match i, hz with
    | 0, hz => cases hz; exact (Box.new w #[.int .i64 x, .int .i64 y] 3).cell 0
    | 1, hz => cases hz; exact (Box.new w #[.int .i64 x, .int .i64 y] 3).cell 1
    | _ + 2, hz => cases hz⟩⟩
theorem ints_new2' (w : World) (m : Nat) (x y : Int) (hm : m = w.heap.size) : IntsAt (w.alloc (.cells #[.int .i64 x, .int .i64 y] 3)) (some ⟨m, 0, none⟩) 2 [x, y] := by
  subst hm; exact ints_new2 w x y
theorem texts_new1 (w : World) (x : ByteArray) : TextsAt (w.alloc (.cells #[.string x] 9)) (some ⟨w.heap.size, 0, none⟩) 1 [x] :=
  ⟨rfl, .inr ⟨w.heap.size, 0, rfl, by simp, fun i z hz => by
    match i, hz with
    | 0, hz => cases hz; exact (Box.new w #[.string x] 9).cell 0
    | _ + 1, hz => cases hz⟩⟩
theorem max2 : (2 : Nat) ≤ maxLen := by unfold maxLen; omega
theorem max1 : (1 : Nat) ≤ maxLen := by unfold maxLen; omega
theorem below_new {w : World} (o : Obj) : Below w.heap.size w (w.alloc o) := (Below.refl _ _).alloc (Nat.le_refl _) o
theorem exO_same : standQ ⟨exO.ts, 8, 12, 3, 30⟩ ⟨exO.ts, 8, 12, 3, 30⟩ = true := by
  unfold standQ
  rw [treesQ_self]
  simp
set_option maxRecDepth 100000 in
set_option maxHeartbeats 4000000 in
theorem works_any (w : World) (hC : Chg w) (hP : Tab w) :
    Calls Tryd.prog 24 #[] w fun e w' => e = .returned (.bool true) ∧ Below w.heap.size w w' := by
  have hB0 := Lib.hid (Below.refl w.heap.size w)
  have HC := Lib.hid (fun W (h : Below w.heap.size w W) => hC.below h)
  have HP := Lib.hid (fun W (h : Below w.heap.size w W) => hP.below h)
  clear hC hP
  go_enter Tryd.func24, Tryd.ntmps24
  go_wp2_with (first
    | (go_at_call 29; refine (ready_ex _ _ hT9).mono ?_; rintro e w10 ⟨rfl, hb⟩; have hB10 := Lib.hid (hB9.out.trans (hb.mono hB9.out.size)); have I110 := Lib.hid (I19.out.below hb); have b3_10 := Lib.hid (b3_9.out.below hb b3_9.out.lt); have b5_10 := Lib.hid (b5_9.out.below hb b5_9.out.lt); clear hb; have hB10a := Lib.hid (hB10.out.alloc hB10.out.size (.cells #[.int .i64 22, .int .i64 50] 27)); have I110a := Lib.hid (I110.out.below (below_new (.cells #[.int .i64 22, .int .i64 50] 27))); have b3_10a := Lib.hid (b3_10.out.alloc (.cells #[.int .i64 22, .int .i64 50] 27)); have b5_10a := Lib.hid (b5_10.out.alloc (.cells #[.int .i64 22, .int .i64 50] 27)); have b7_10a := Lib.hid (Box.new w10 #[.int .i64 22, .int .i64 50] 27))
    | (go_at_call 49; refine (trees_any _).mono ?_; rintro e w9 ⟨B9, rfl, hT9, hb⟩; have hB9 := Lib.hid (hB8.out.trans (hb.mono hB8.out.size)); have I19 := Lib.hid (I18.out.below hb); have b3_9 := Lib.hid (b3_8.out.below hb b3_8.out.lt); have b5_9 := Lib.hid (b5_8.out.below hb b5_8.out.lt); clear hb)
    | (go_at_call 51; refine (rule_any _).mono ?_; rintro e w8 ⟨rfl, hb⟩; have hB8 := Lib.hid (hB7a.out.trans (hb.mono hB7a.out.size)); have I18 := Lib.hid (I17a.out.below hb); have b3_8 := Lib.hid (b3_7a.out.below hb b3_7a.out.lt); have b5_8 := Lib.hid (b5_7a.out.below hb b5_7a.out.lt); clear hb)
    | (go_at_call 27; refine (faces_ex _ _ hT6).mono ?_; rintro e w7 ⟨rfl, hb⟩; have hB7 := Lib.hid (hB6.out.trans (hb.mono hB6.out.size)); have I17 := Lib.hid (I16.out.below hb); have b3_7 := Lib.hid (b3_6.out.below hb b3_6.out.lt); clear hb; have hB7a := Lib.hid (hB7.out.alloc hB7.out.size (.cells #[.int .i64 0, .int .i64 1] 27)); have I17a := Lib.hid (I17.out.below (below_new (.cells #[.int .i64 0, .int .i64 1] 27))); have b3_7a := Lib.hid (b3_7.out.alloc (.cells #[.int .i64 0, .int .i64 1] 27)); have b5_7a := Lib.hid (Box.new w7 #[.int .i64 0, .int .i64 1] 27))
    | (go_at_call 49; refine (trees_any _).mono ?_; rintro e w6 ⟨B6, rfl, hT6, hb⟩; have hB6 := Lib.hid (hB5.out.trans (hb.mono hB5.out.size)); have I16 := Lib.hid (I15.out.below hb); have b3_6 := Lib.hid (b3_5.out.below hb b3_5.out.lt); clear hb)
    | (go_at_call 51; refine (rule_any _).mono ?_; rintro e w5 ⟨rfl, hb⟩; have hB5 := Lib.hid (hB4a.out.trans (hb.mono hB4a.out.size)); have I15 := Lib.hid (I14a.out.below hb); have b3_5 := Lib.hid (b3_4a.out.below hb b3_4a.out.lt); clear hb)
    | (go_at_call 25; refine (girth_ex _ _ hT3).mono ?_; rintro e w4 ⟨rfl, hb⟩; have hB4 := Lib.hid (hB3.out.trans (hb.mono hB3.out.size)); have I14 := Lib.hid (I13.out.below hb); clear hb; have hB4a := Lib.hid (hB4.out.alloc hB4.out.size (.cells #[.int .i64 1020, .int .i64 1060] 27)); have I14a := Lib.hid (I14.out.below (below_new (.cells #[.int .i64 1020, .int .i64 1060] 27))); have b3_4a := Lib.hid (Box.new w4 #[.int .i64 1020, .int .i64 1060] 27))
    | (go_at_call 49; refine (trees_any _).mono ?_; rintro e w3 ⟨B3, rfl, hT3, hb⟩; have hB3 := Lib.hid (hB2.out.trans (hb.mono hB2.out.size)); have I13 := Lib.hid (I12.out.below hb); clear hb)
    | (go_at_call 15; refine (near_ex _ _ hT1).mono ?_; rintro e w2 ⟨a1, c1, rfl, hI, hb⟩; have hB2 := Lib.hid (hB1.out.trans (hb.mono hB1.out.size)); have I12 := Lib.hid hI; clear hb)
    | (go_at_call 49; refine (trees_any _).mono ?_; rintro e w1 ⟨B1, rfl, hT1, hb⟩; have hB1 := Lib.hid (hB0.out.trans (hb.mono hB0.out.size)); clear hb))
  have HX : Hid (∀ W, Below ((w10.alloc (.cells #[.int .i64 22, .int .i64 50] 27))).heap.size (w10.alloc (.cells #[.int .i64 22, .int .i64 50] 27)) W → Below w.heap.size w W ∧ IntsAt W a1 2 [0, 2] ∧ Box W w4.heap.size #[.int .i64 1020, .int .i64 1060] 27 ∧ Box W w7.heap.size #[.int .i64 0, .int .i64 1] 27 ∧ Box W w10.heap.size #[.int .i64 22, .int .i64 50] 27) := Lib.hid fun W h =>
    ⟨hB10a.out.trans (h.mono hB10a.out.size), I110a.out.below h, b3_10a.out.below h b3_10a.out.lt, b5_10a.out.below h b5_10a.out.lt, b7_10a.out.below h b7_10a.out.lt⟩
  have hS0 : Below ((w10.alloc (.cells #[.int .i64 22, .int .i64 50] 27))).heap.size (w10.alloc (.cells #[.int .i64 22, .int .i64 50] 27)) ((w10.alloc (.cells #[.int .i64 22, .int .i64 50] 27))).drew := (Below.refl _ _).drew
  refine region_seq (fun W => Below ((w10.alloc (.cells #[.int .i64 22, .int .i64 50] 27))).heap.size (w10.alloc (.cells #[.int .i64 22, .int .i64 50] 27)) W) [(0, true), (1, true), (2, true), (3, true), (4, true), (5, true), (6, true), (7, true), (8, true), (9, true), (10, true), (11, true), (12, true), (13, true), (14, true), (15, true), (16, false), (17, false), (18, true), (19, true), (20, true), (21, true), (22, false), (23, true), (24, true), (25, true), (26, true), (27, false), (28, true), (29, true), (30, true), (31, true), (32, false), (33, true), (34, true), (35, true), (36, false), (37, true), (38, true)]
    (by kernel_rfl) (by kernel_rfl) (by kernel_rfl) (by simp) (fun _ _ _ _ h => h) hS0 ?_
  iterate 16 (refine SeqW.take (v := ?_) rfl (by rfl) (fun W hW => ?_) ?_; rotate_left; (go_simp; with_reducible rfl); simp only [Act.put, List.setIfInBounds_toArray, List.set_cons_zero, List.set_cons_succ])
  refine SeqW.call rfl (by rfl) (fun K hK => ?_); go_simp
  have hS1 := hS0.alloc (by simp) (.cells #[.int .i64 0, .int .i64 2] 3)
  refine hK.out _ _ hS1 ?_
  clear hK K
  refine SeqW.call rfl (by rfl) (fun K hK => ?_); go_simp
  refine (same_any a1 (some ⟨_, 0, none⟩) 2 c1 2 2 [0, 2] [0, 2] _ (HX.out _ hS1).2.1 (ints_new2' _ _ 0 2 (by simp)) max2 max2).mono ?_
  rintro e v1 ⟨rfl, hb⟩
  have hS2 := hS1.trans (hb.mono hS1.size)
  go_simp
  refine hK.out _ _ hS2 ?_
  clear hK K hb hS1
  iterate 3 (refine SeqW.take (v := ?_) rfl (by rfl) (fun W hW => ?_) ?_; rotate_left; (go_simp; with_reducible rfl); simp only [Act.put, List.setIfInBounds_toArray, List.set_cons_zero, List.set_cons_succ])
  (refine SeqW.take (v := ?_) rfl (by rfl) (fun W hW => ?_) ?_; rotate_left; (have q := HX.out W hW; have b0 : W.cell? ⟨w4.heap.size, 0, none⟩ = some (.int .i64 1020) := q.2.2.1.cell 0; have b1 : W.cell? ⟨w4.heap.size, 1, none⟩ = some (.int .i64 1060) := q.2.2.1.cell 1; clear q hW; go_simp; with_reducible rfl); simp only [Act.put, List.setIfInBounds_toArray, List.set_cons_zero, List.set_cons_succ])
  refine SeqW.call rfl (by rfl) (fun K hK => ?_); go_simp
  refine (to_any 1020 1060 _).mono ?_
  rintro e v2 ⟨rfl, hb⟩
  have hS3 := hS2.trans (hb.mono hS2.size)
  go_simp
  refine hK.out _ _ hS3 ?_
  clear hK K hb hS2
  iterate 3 (refine SeqW.take (v := ?_) rfl (by rfl) (fun W hW => ?_) ?_; rotate_left; (go_simp; with_reducible rfl); simp only [Act.put, List.setIfInBounds_toArray, List.set_cons_zero, List.set_cons_succ])
  (refine SeqW.take (v := ?_) rfl (by rfl) (fun W hW => ?_) ?_; rotate_left; (have q := HX.out W hW; have b0 : W.cell? ⟨w7.heap.size, 0, none⟩ = some (.int .i64 0) := q.2.2.2.1.cell 0; have b1 : W.cell? ⟨w7.heap.size, 1, none⟩ = some (.int .i64 1) := q.2.2.2.1.cell 1; clear q hW; go_simp; with_reducible rfl); simp only [Act.put, List.setIfInBounds_toArray, List.set_cons_zero, List.set_cons_succ])
  refine SeqW.call rfl (by rfl) (fun K hK => ?_); go_simp
  refine (to_any 0 1 _).mono ?_
  rintro e v3 ⟨rfl, hb⟩
  have hS4 := hS3.trans (hb.mono hS3.size)
  go_simp
  refine hK.out _ _ hS4 ?_
  clear hK K hb hS3
  iterate 3 (refine SeqW.take (v := ?_) rfl (by rfl) (fun W hW => ?_) ?_; rotate_left; (go_simp; with_reducible rfl); simp only [Act.put, List.setIfInBounds_toArray, List.set_cons_zero, List.set_cons_succ])
  (refine SeqW.take (v := ?_) rfl (by rfl) (fun W hW => ?_) ?_; rotate_left; (have q := HX.out W hW; have b0 : W.cell? ⟨w10.heap.size, 0, none⟩ = some (.int .i64 22) := q.2.2.2.2.cell 0; have b1 : W.cell? ⟨w10.heap.size, 1, none⟩ = some (.int .i64 50) := q.2.2.2.2.cell 1; clear q hW; go_simp; with_reducible rfl); simp only [Act.put, List.setIfInBounds_toArray, List.set_cons_zero, List.set_cons_succ])
  refine SeqW.call rfl (by rfl) (fun K hK => ?_); go_simp
  refine (to_any 22 50 _).mono ?_
  rintro e v4 ⟨rfl, hb⟩
  have hS5 := hS4.trans (hb.mono hS4.size)
  go_simp
  refine hK.out _ _ hS5 ?_
  clear hK K hb hS4
  iterate 3 (refine SeqW.take (v := ?_) rfl (by rfl) (fun W hW => ?_) ?_; rotate_left; (go_simp; with_reducible rfl); simp only [Act.put, List.setIfInBounds_toArray, List.set_cons_zero, List.set_cons_succ])
  refine SeqW.call rfl (by rfl) (fun K hK => ?_); go_simp
  refine (isWord_any ⟨#[97, 45, 49]⟩ _ (by decide +kernel)).mono ?_
  rintro e w' ⟨rfl, rfl⟩
  go_simp
  refine hK.out _ _ hS5 ?_
  clear hK K
  iterate 2 (refine SeqW.take (v := ?_) rfl (by rfl) (fun W hW => ?_) ?_; rotate_left; (go_simp; with_reducible rfl); simp only [Act.put, List.setIfInBounds_toArray, List.set_cons_zero, List.set_cons_succ])
  refine SeqW.done ?_
  have hBz := Lib.hid (HX.out _ hS5).1
  clear hS5 hS0 HX 
  go_wp2_with (first
    | (go_at_call 17; refine (same_any a15 (some ⟨_, 0, none⟩) 1 c15 1 1 [1] [1] _ I1521a.out I121a.out max1 max1).mono ?_; rintro e w22 ⟨rfl, hb⟩; have hB22 := Lib.hid (hB21a.out.trans (hb.mono hB21a.out.size)); have I922 := Lib.hid (I921a.out.below hb); have O122 := Lib.hid (O121a.out.below hb); have b11_22 := Lib.hid (b11_21a.out.below hb b11_21a.out.lt); have O322 := Lib.hid (O321a.out.below hb); have b13_22 := Lib.hid (b13_21a.out.below hb b13_21a.out.lt); have X1422 := Lib.hid (X1421a.out.below hb); have I1522 := Lib.hid (I1521a.out.below hb); have X122 := Lib.hid (X121a.out.below hb); have I122 := Lib.hid (I121a.out.below hb); clear hb)
    | (go_at_call 38; refine (sameTexts_any a14 (some ⟨_, 0, none⟩) 1 c14 1 1 [⟨#[120]⟩] [⟨#[120]⟩] _ X1420a.out X120a.out max1 max1).mono ?_; rintro e w21 ⟨rfl, hb⟩; have hB21 := Lib.hid (hB20a.out.trans (hb.mono hB20a.out.size)); have I921 := Lib.hid (I920a.out.below hb); have O121 := Lib.hid (O120a.out.below hb); have b11_21 := Lib.hid (b11_20a.out.below hb b11_20a.out.lt); have O321 := Lib.hid (O320a.out.below hb); have b13_21 := Lib.hid (b13_20a.out.below hb b13_20a.out.lt); have X1421 := Lib.hid (X1420a.out.below hb); have I1521 := Lib.hid (I1520a.out.below hb); have X121 := Lib.hid (X120a.out.below hb); clear hb; rw [textsB_self]; have hB21a := Lib.hid (hB21.out.alloc hB21.out.size (.cells #[.int .i64 1] 3)); have I921a := Lib.hid (I921.out.below (below_new (.cells #[.int .i64 1] 3))); have O121a := Lib.hid (O121.out.below (below_new (.cells #[.int .i64 1] 3))); have b11_21a := Lib.hid (b11_21.out.alloc (.cells #[.int .i64 1] 3)); have O321a := Lib.hid (O321.out.below (below_new (.cells #[.int .i64 1] 3))); have b13_21a := Lib.hid (b13_21.out.alloc (.cells #[.int .i64 1] 3)); have X1421a := Lib.hid (X1421.out.below (below_new (.cells #[.int .i64 1] 3))); have I1521a := Lib.hid (I1521.out.below (below_new (.cells #[.int .i64 1] 3))); have X121a := Lib.hid (X121.out.below (below_new (.cells #[.int .i64 1] 3))); have I121a := Lib.hid (ints_new1 w21 1))
    | (go_at_call 36; refine (follow_ex _ _ hA (HC.out _ hB19.out)).mono ?_; rintro e w20 ⟨a14, c14, a15, c15, rfl, hX14, hI, hb⟩; have hB20 := Lib.hid (hB19.out.trans (hb.mono hB19.out.size)); have I920 := Lib.hid (I919.out.below hb); have O120 := Lib.hid (O119.out.below hb); have b11_20 := Lib.hid (b11_19.out.below hb b11_19.out.lt); have O320 := Lib.hid (O319.out.below hb); have b13_20 := Lib.hid (b13_19.out.below hb b13_19.out.lt); have X1420 := Lib.hid hX14; have I1520 := Lib.hid hI; clear hb; have hB20a := Lib.hid (hB20.out.alloc hB20.out.size (.cells #[.string ⟨#[120]⟩] 9)); have I920a := Lib.hid (I920.out.below (below_new (.cells #[.string ⟨#[120]⟩] 9))); have O120a := Lib.hid (O120.out.below (below_new (.cells #[.string ⟨#[120]⟩] 9))); have b11_20a := Lib.hid (b11_20.out.alloc (.cells #[.string ⟨#[120]⟩] 9)); have O320a := Lib.hid (O320.out.below (below_new (.cells #[.string ⟨#[120]⟩] 9))); have b13_20a := Lib.hid (b13_20.out.alloc (.cells #[.string ⟨#[120]⟩] 9)); have X1420a := Lib.hid (X1420.out.below (below_new (.cells #[.string ⟨#[120]⟩] 9))); have I1520a := Lib.hid (I1520.out.below (below_new (.cells #[.string ⟨#[120]⟩] 9))); have X120a := Lib.hid (texts_new1 w20 ⟨#[120]⟩))
    | (go_at_call 67; refine (acts_any _).mono ?_; rintro e w19 ⟨rfl, hA, hb⟩; have hB19 := Lib.hid (hB18.out.trans (hb.mono hB18.out.size)); have I919 := Lib.hid (I918.out.below hb); have O119 := Lib.hid (O118.out.below hb); have b11_19 := Lib.hid (b11_18.out.below hb b11_18.out.lt); have O319 := Lib.hid (O318.out.below hb); have b13_19 := Lib.hid (b13_18.out.below hb b13_18.out.lt); clear hb)
    | (go_at_call 35; refine (sameStand_any a13 a11 n13 c13 n11 c11 exO.ts exO.ts 8 12 3 30 8 12 3 30 _ O317.out O117.out).mono ?_; rintro e w18 ⟨rfl, hb⟩; have hB18 := Lib.hid (hB17.out.trans (hb.mono hB17.out.size)); have I918 := Lib.hid (I917.out.below hb); have O118 := Lib.hid (O117.out.below hb); have b11_18 := Lib.hid (b11_17.out.below hb b11_17.out.lt); have O318 := Lib.hid (O317.out.below hb); have b13_18 := Lib.hid (b13_17.out.below hb b13_17.out.lt); clear hb; rw [exO_same])
    | (go_at_call 17; refine (same_any a9 (some ⟨_, 0, none⟩) 2 c9 2 2 [0, 2] [0, 2] _ I916aa.out I216aa.out max2 max2).mono ?_; rintro e w17 ⟨rfl, hb⟩; have hB17 := Lib.hid (hB16aa.out.trans (hb.mono hB16aa.out.size)); have I917 := Lib.hid (I916aa.out.below hb); have O117 := Lib.hid (O116aa.out.below hb); have b11_17 := Lib.hid (b11_16aa.out.below hb b11_16aa.out.lt); have O317 := Lib.hid (O316aa.out.below hb); have b13_17 := Lib.hid (b13_16aa.out.below hb b13_16aa.out.lt); have I217 := Lib.hid (I216aa.out.below hb); clear hb; have e0 : w17.cell? ⟨w16.heap.size, 0, none⟩ = some (.slice a13 n13 c13) := b13_17.out.cell 0; have g0 : w17.cell? ⟨w14.heap.size, 0, none⟩ = some (.slice a11 n11 c11) := b11_17.out.cell 0; have e1 : w17.cell? ⟨w16.heap.size, 1, none⟩ = some (.int .i64 8) := b13_17.out.cell 1; have g1 : w17.cell? ⟨w14.heap.size, 1, none⟩ = some (.int .i64 8) := b11_17.out.cell 1; have e2 : w17.cell? ⟨w16.heap.size, 2, none⟩ = some (.int .i64 12) := b13_17.out.cell 2; have g2 : w17.cell? ⟨w14.heap.size, 2, none⟩ = some (.int .i64 12) := b11_17.out.cell 2; have e3 : w17.cell? ⟨w16.heap.size, 3, none⟩ = some (.int .i64 3) := b13_17.out.cell 3; have g3 : w17.cell? ⟨w14.heap.size, 3, none⟩ = some (.int .i64 3) := b11_17.out.cell 3; have e4 : w17.cell? ⟨w16.heap.size, 4, none⟩ = some (.int .i64 30) := b13_17.out.cell 4; have g4 : w17.cell? ⟨w14.heap.size, 4, none⟩ = some (.int .i64 30) := b11_17.out.cell 4)
    | (go_at_call 41; refine (parse_ex _).mono ?_; rintro e w16 ⟨a13, n13, c13, rfl, hO, hb⟩; have hB16 := Lib.hid (hB15.out.trans (hb.mono hB15.out.size)); have I916 := Lib.hid (I915.out.below hb); have O116 := Lib.hid (O115.out.below hb); have b11_16 := Lib.hid (b11_15.out.below hb b11_15.out.lt); have O316 := Lib.hid hO; clear hb; have hB16a := Lib.hid (hB16.out.alloc hB16.out.size (.cells #[.slice a13 n13 c13, .int .i64 8, .int .i64 12, .int .i64 3, .int .i64 30] 29)); have I916a := Lib.hid (I916.out.below (below_new (.cells #[.slice a13 n13 c13, .int .i64 8, .int .i64 12, .int .i64 3, .int .i64 30] 29))); have O116a := Lib.hid (O116.out.below (below_new (.cells #[.slice a13 n13 c13, .int .i64 8, .int .i64 12, .int .i64 3, .int .i64 30] 29))); have b11_16a := Lib.hid (b11_16.out.alloc (.cells #[.slice a13 n13 c13, .int .i64 8, .int .i64 12, .int .i64 3, .int .i64 30] 29)); have O316a := Lib.hid (O316.out.below (below_new (.cells #[.slice a13 n13 c13, .int .i64 8, .int .i64 12, .int .i64 3, .int .i64 30] 29))); have b13_16a := Lib.hid (Box.new w16 #[.slice a13 n13 c13, .int .i64 8, .int .i64 12, .int .i64 3, .int .i64 30] 29); have hB16aa := Lib.hid (hB16a.out.alloc hB16a.out.size (.cells #[.int .i64 0, .int .i64 2] 3)); have I916aa := Lib.hid (I916a.out.below (below_new (.cells #[.int .i64 0, .int .i64 2] 3))); have O116aa := Lib.hid (O116a.out.below (below_new (.cells #[.int .i64 0, .int .i64 2] 3))); have b11_16aa := Lib.hid (b11_16a.out.alloc (.cells #[.int .i64 0, .int .i64 2] 3)); have O316aa := Lib.hid (O316a.out.below (below_new (.cells #[.int .i64 0, .int .i64 2] 3))); have b13_16aa := Lib.hid (b13_16a.out.alloc (.cells #[.int .i64 0, .int .i64 2] 3)); have I216aa := Lib.hid (ints_new2' (w16.alloc (.cells #[.slice a13 n13 c13, .int .i64 8, .int .i64 12, .int .i64 3, .int .i64 30] 29)) (w16.heap.size + 1) 0 2 (by simp)))
    | (go_at_call 39; refine (print_ex a11 n11 c11 _ O114a.out (HP.out _ hB14a.out)).mono ?_; rintro e w15 ⟨rfl, hb⟩; have hB15 := Lib.hid (hB14a.out.trans (hb.mono hB14a.out.size)); have I915 := Lib.hid (I914a.out.below hb); have O115 := Lib.hid (O114a.out.below hb); have b11_15 := Lib.hid (b11_14a.out.below hb b11_14a.out.lt); clear hb)
    | (go_at_call 33; refine (left_ex _ (some ⟨_, 0, none⟩) _ (hT13.below (below_new _)) I013a.out).mono ?_; rintro e w14 ⟨a11, n11, c11, rfl, hO, hb⟩; have hB14 := Lib.hid (hB13a.out.trans (hb.mono hB13a.out.size)); have I914 := Lib.hid (I913a.out.below hb); have I014 := Lib.hid (I013a.out.below hb); have O114 := Lib.hid hO; clear hb; have hB14a := Lib.hid (hB14.out.alloc hB14.out.size (.cells #[.slice a11 n11 c11, .int .i64 8, .int .i64 12, .int .i64 3, .int .i64 30] 29)); have I914a := Lib.hid (I914.out.below (below_new (.cells #[.slice a11 n11 c11, .int .i64 8, .int .i64 12, .int .i64 3, .int .i64 30] 29))); have O114a := Lib.hid (O114.out.below (below_new (.cells #[.slice a11 n11 c11, .int .i64 8, .int .i64 12, .int .i64 3, .int .i64 30] 29))); have b11_14a := Lib.hid (Box.new w14 #[.slice a11 n11 c11, .int .i64 8, .int .i64 12, .int .i64 3, .int .i64 30] 29); have e0 : ((w14.alloc (.cells #[.slice a11 n11 c11, .int .i64 8, .int .i64 12, .int .i64 3, .int .i64 30] 29))).cell? ⟨w14.heap.size, 0, none⟩ = some (.slice a11 n11 c11) := b11_14a.out.cell 0)
    | (go_at_call 49; refine (trees_any _).mono ?_; rintro e w13 ⟨B13, rfl, hT13, hb⟩; have hB13 := Lib.hid (hB12.out.trans (hb.mono hB12.out.size)); have I913 := Lib.hid (I912.out.below hb); clear hb; have hB13a := Lib.hid (hB13.out.alloc hB13.out.size (.cells #[.int .i64 0] 3)); have I913a := Lib.hid (I913.out.below (below_new (.cells #[.int .i64 0] 3))); have I013a := Lib.hid (ints_new1 w13 0))
    | (go_at_call 31; refine (thin_ex _ _ hT11).mono ?_; rintro e w12 ⟨a9, c9, rfl, hI, hb⟩; have hB12 := Lib.hid (hB11.out.trans (hb.mono hB11.out.size)); have I912 := Lib.hid hI; clear hb)
    | (go_at_call 49; refine (trees_any _).mono ?_; rintro e w11 ⟨B11, rfl, hT11, hb⟩; have hB11 := Lib.hid (hBz.out.trans (hb.mono hBz.out.size)); clear hb))
  go_ret
  exact ⟨rfl, hB22.out⟩
end Go.Proofs.YtpkjjiieglebbaaDoor
