/- Contracts of the reference: how many faces a tree may have with a girth, and after years. Conditions: the trees lie in memory as the model says; tags fit into memory. -/
import Derived.Test.YtcjmfacdjdegkaaDoorR6
namespace Go.Proofs.YtcjmfacdjdegkaaDoor
open Go Go.RowKit
set_option maxHeartbeats 1000000 in
theorem refMany_any (tag : ByteArray) (x y gl gh cr a b c rc g : Int) (w : World) :
    Calls Tryd.prog 94 #[.agg #[.int .i64 a, .int .i64 b, .int .i64 c, .int .i64 rc], .agg #[.string tag, .int .i64 x, .int .i64 y, .int .i64 gl, .int .i64 gh, .int .i64 cr], .int .i64 g] w
      fun e w' => e = .returned (.int .i64 (manyN ⟨a, b, c, rc⟩ cr g)) ∧ Below w.heap.size w w' := by
  by_cases h0 : cr < rc
  · have HF : Hid (manyN ⟨a, b, c, rc⟩ cr g = 0) := Lib.hid (by simp [manyN, h0])
    go_enter Tryd.func94, Tryd.ntmps94
    go_wp2_with fail
    go_loop [7, 8] (fun f i => f = .int .i64 0 ∧ (i = .int .i64 0 ∨ i = .int .i64 1 ∨ i = .int .i64 2 ∨ i = .int .i64 3)) (fun _ i => 3 - (intOf i).toNat)
    case atStart => exact ⟨rfl, .inl rfl⟩
    case round =>
      obtain ⟨rfl, rfl | rfl | rfl | rfl⟩ := hrel
      · go_wp2_with fail
        go_round
        case rel => exact ⟨rfl, .inr (.inl rfl)⟩
        case measure => simp [intOf]
      · go_wp2_with fail
        go_round
        case rel => exact ⟨rfl, .inr (.inr (.inl rfl))⟩
        case measure => simp [intOf]
      · go_wp2_with fail
        go_round
        case rel => exact ⟨rfl, .inr (.inr (.inr rfl))⟩
        case measure => simp [intOf]
      · go_wp2_with fail
        go_ret; exact ⟨ret_int HF.out.symm, ((Below.refl _ _).alloc (Nat.le_refl _) _).alloc (by simp) _⟩
  have HF : Hid (manyN ⟨a, b, c, rc⟩ cr g = (if a ≤ g then 1 else 0) + (if b ≤ g then 1 else 0) + (if c ≤ g then 1 else 0)) := Lib.hid (by simp only [manyN]; rw [if_neg (by omega)])
  go_enter Tryd.func94, Tryd.ntmps94
  go_wp2_with fail
  go_loop [7, 8] (fun f i => ∃ n : Int, f = .int .i64 n ∧ 0 ≤ n ∧ n ≤ 3 ∧ ((i = .int .i64 0 ∧ Hid (n = 0)) ∨ (i = .int .i64 1 ∧ Hid (n = if a ≤ g then 1 else 0)) ∨ (i = .int .i64 2 ∧ Hid (n = (if a ≤ g then 1 else 0) + (if b ≤ g then 1 else 0))) ∨ (i = .int .i64 3 ∧ Hid (n = (if a ≤ g then 1 else 0) + (if b ≤ g then 1 else 0) + (if c ≤ g then 1 else 0))))) (fun _ i => 3 - (intOf i).toNat)
  case atStart => exact ⟨0, rfl, by omega, by omega, .inl ⟨rfl, Lib.hid rfl⟩⟩
  case round =>
    obtain ⟨n, rfl, hn0, hn3, hrel⟩ := hrel
    rcases hrel with ⟨rfl, HN⟩ | ⟨rfl, HN⟩ | ⟨rfl, HN⟩ | ⟨rfl, HN⟩
    · by_cases hg : a ≤ g
      all_goals
        go_wp2_with fail
        go_round
        case rel => exact ⟨_, rfl, by have := HN.out; omega, by have := HN.out; omega, .inr (.inl ⟨rfl, Lib.hid (by have := HN.out; simp [hg]; omega)⟩)⟩
        case measure => simp [intOf]
    · by_cases hg : b ≤ g
      all_goals
        go_wp2_with fail
        go_round
        case rel => exact ⟨_, rfl, by omega, by have := HN.out; split at this <;> omega, .inr (.inr (.inl ⟨rfl, Lib.hid (by have := HN.out; simp [hg]; omega)⟩))⟩
        case measure => simp [intOf]
    · by_cases hg : c ≤ g
      all_goals
        go_wp2_with fail
        go_round
        case rel => exact ⟨_, rfl, by omega, by have := HN.out; split at this <;> split at this <;> omega, .inr (.inr (.inr ⟨rfl, Lib.hid (by have := HN.out; simp [hg]; omega)⟩))⟩
        case measure => simp [intOf]
    · go_wp2_with fail
      go_ret; exact ⟨ret_int (by rw [HF.out]; exact HN.out), ((Below.refl _ _).alloc (Nat.le_refl _) _).alloc (by simp) _⟩
set_option maxRecDepth 100000 in
set_option maxHeartbeats 2000000 in
theorem refFacesOf_any (ra rb rc rr : Int) (b off c kn : Nat) (ts : List Tree) (lo hi pr ne y : Int) (t : Tree) (ht : ts[kn]? = some t) (w : World) (hT : Trees w (some ⟨b, off, none⟩) ts.length c ts) (hst : standB ⟨ts, lo, hi, pr, ne⟩ = true) (hy : 0 ≤ y ∧ y ≤ 200) :
    Calls Tryd.prog 73 #[.agg #[.int .i64 ra, .int .i64 rb, .int .i64 rc, .int .i64 rr], .agg #[.slice (some ⟨b, off, none⟩) ts.length c, .int .i64 lo, .int .i64 hi, .int .i64 pr, .int .i64 ne], .int .i64 (kn : Int), .int .i64 y] w fun e w' =>
      e = .returned (.agg #[.int .i64 (manyN ⟨ra, rb, rc, rr⟩ t.cr (t.gl + y * rateL ⟨ts, lo, hi, pr, ne⟩ kn)), .int .i64 (manyN ⟨ra, rb, rc, rr⟩ t.cr (t.gh + y * rateH ⟨ts, lo, hi, pr, ne⟩ kn))]) ∧ Below w.heap.size w w' := by
  have hkn : kn < ts.length := (List.getElem?_eq_some_iff.1 ht).1
  obtain ⟨gL, hgL⟩ : ∃ g, g = t.gl + y * rateL ⟨ts, lo, hi, pr, ne⟩ kn := ⟨_, rfl⟩
  obtain ⟨gH, hgH⟩ : ∃ g, g = t.gh + y * rateH ⟨ts, lo, hi, pr, ne⟩ kn := ⟨_, rfl⟩
  have HgL := Lib.hid hgL
  have HgH := Lib.hid hgH
  rw [← hgL, ← hgH]
  have HT := Lib.hid ht
  have hat := hT.at_
  rcases hat with h | ⟨b', off', h, hbl, hTA⟩
  · subst h; exact absurd hkn (by simp)
  cases h
  have HT0 : Hid (∀ W, Below w.heap.size w W → Trees W (some ⟨b, off, none⟩) ts.length c ts) := Lib.hid fun W h => hT.below h
  clear hgL hgH ht hT
  go_enter Tryd.func73, Tryd.ntmps73
  go_wp2_with (go_at_call 71; refine (refGirthOf_any b off c kn ts lo hi pr ne y t HT.out _ (HT0.out _ ((((Below.refl _ _).alloc (Nat.le_refl _) _).alloc (by simp) _).alloc (by simp; omega) _)) hst hy).mono ?_; rw [← HgL.out, ← HgH.out]; rintro e w1 ⟨rfl, hb1⟩; have hz1 := hb1.size)
  simp only [World.size_alloc] at hz1 hb1
  have bR := (((Box.new w #[.int .i64 ra, .int .i64 rb, .int .i64 rc, .int .i64 rr] 24).alloc (.cells #[.slice (some ⟨b, off, none⟩) ts.length c, .int .i64 lo, .int .i64 hi, .int .i64 pr, .int .i64 ne] 29)).alloc (.cells #[.int .i64 0, .int .i64 0] 27)).below hb1 (by omega)
  have bS := ((Box.new (w.alloc (.cells #[.int .i64 ra, .int .i64 rb, .int .i64 rc, .int .i64 rr] 24)) #[.slice (some ⟨b, off, none⟩) ts.length c, .int .i64 lo, .int .i64 hi, .int .i64 pr, .int .i64 ne] 29).alloc (.cells #[.int .i64 0, .int .i64 0] 27)).below hb1 (by simp)
  have bZ := (Box.new ((w.alloc (.cells #[.int .i64 ra, .int .i64 rb, .int .i64 rc, .int .i64 rr] 24)).alloc (.cells #[.slice (some ⟨b, off, none⟩) ts.length c, .int .i64 lo, .int .i64 hi, .int .i64 pr, .int .i64 ne] 29)) #[.int .i64 0, .int .i64 0] 27).below hb1 (by simp)
  simp only [World.size_alloc] at bS bZ
  have hB1 : Below w.heap.size w w1 := ((((Below.refl _ w).alloc (Nat.le_refl _) _).alloc (by simp) _).alloc (by simp; omega) _).trans (hb1.mono (by omega))
  have tA : TreesAt w1 b off ts := hTA.below hB1 hbl
  clear hb1 hTA
  refine region_seq (fun W => Box W w.heap.size #[.int .i64 ra, .int .i64 rb, .int .i64 rc, .int .i64 rr] 24 ∧ Box W (w.heap.size + 1) #[.slice (some ⟨b, off, none⟩) ts.length c, .int .i64 lo, .int .i64 hi, .int .i64 pr, .int .i64 ne] 29 ∧ Box W w1.heap.size #[.int .i64 gL, .int .i64 gH] 27 ∧ TreesAt W b off ts) [(0, true), (1, true), (2, true), (3, true), (4, true), (5, true), (6, true), (7, true), (9, true), (10, true), (11, true), (12, true), (13, true), (14, true), (15, true), (16, true), (8, false), (17, false), (18, true), (19, false)]
    (by kernel_rfl) (by kernel_rfl) (by kernel_rfl) (by simp) (fun _ _ _ _ h => h) ⟨bR.alloc _, bS.alloc _, Box.new w1 _ _, tA.alloc (by omega) _⟩ ?_
  iterate 16 (refine SeqW.take (v := ?_) rfl (by rfl) (fun W hW => ?_) ?_; rotate_left; (obtain ⟨p0, p1, p2, p3⟩ := hW; have d0 : W.cell? ⟨w.heap.size, 0, none⟩ = some (.int .i64 ra) := p0.cell 0; have d1 : W.cell? ⟨w.heap.size, 1, none⟩ = some (.int .i64 rb) := p0.cell 1; have d2 : W.cell? ⟨w.heap.size, 2, none⟩ = some (.int .i64 rc) := p0.cell 2; have d3 : W.cell? ⟨w.heap.size, 3, none⟩ = some (.int .i64 rr) := p0.cell 3; have b0 : W.cell? ⟨w.heap.size + 1, 0, none⟩ = some (.slice (some ⟨b, off, none⟩) ts.length c) := p1.cell 0; have g0 : W.cell? ⟨w1.heap.size, 0, none⟩ = some (.int .i64 gL) := p2.cell 0; have g1 : W.cell? ⟨w1.heap.size, 1, none⟩ = some (.int .i64 gH) := p2.cell 1; obtain ⟨c0, c1, c2, c3, c4, c5⟩ := p3 kn t HT.out; clear p0 p1 p2 p3; go_simp; with_reducible rfl); simp only [Act.put, List.setIfInBounds_toArray, List.set_cons_zero, List.set_cons_succ])
  refine SeqW.call rfl (by rfl) (fun K hK => ?_); go_simp
  refine (refMany_any _ _ _ _ _ _ _ _ _ _ _ _).mono ?_
  rintro e w2 ⟨rfl, hb2⟩
  have hz2 := hb2.size
  simp at hz2
  go_simp
  have bR2 := (bR.alloc (.cells #[.int .i64 gL, .int .i64 gH] 27)).drew.below hb2 (by simp; omega)
  have bS2 := (bS.alloc (.cells #[.int .i64 gL, .int .i64 gH] 27)).drew.below hb2 (by simp; omega)
  have bZ2 := (bZ.alloc (.cells #[.int .i64 gL, .int .i64 gH] 27)).drew.below hb2 (by simp; omega)
  have bN2 := (Box.new w1 #[.int .i64 gL, .int .i64 gH] 27).drew.below hb2 (by simp)
  have tA2 : TreesAt w2 b off ts := TreesAt.below (w := World.drew (w1.alloc (.cells #[.int .i64 gL, .int .i64 gH] 27))) (tA.alloc (by omega) _) hb2 (by simp; omega)
  have hB2 : Below w.heap.size w w2 := ((hB1.alloc (by omega) _).drew).trans (hb2.mono (by simp; omega))
  refine hK.out _ _ ⟨bR2, bS2, bN2, tA2⟩ ?_
  clear hK K hb2
  refine SeqW.call rfl (by rfl) (fun K hK => ?_); go_simp
  refine (refMany_any _ _ _ _ _ _ _ _ _ _ _ _).mono ?_
  rintro e w3 ⟨rfl, hb3⟩
  have hz3 := hb3.size
  go_simp
  have bR3 := bR2.below hb3 (by omega)
  have bS3 := bS2.below hb3 (by omega)
  have bZ3 := bZ2.below hb3 (by omega)
  have bN3 := bN2.below hb3 (by omega)
  have tA3 : TreesAt w3 b off ts := tA2.below hb3 (by omega)
  have hB3 : Below w.heap.size w w3 := hB2.trans (hb3.mono (by omega))
  refine hK.out _ _ ⟨bR3, bS3, bN3, tA3⟩ ?_
  clear hK K hb3
  (refine SeqW.take (v := ?_) rfl (by rfl) (fun W hW => ?_) ?_; rotate_left; (obtain ⟨p0, p1, p2, p3⟩ := hW; have d0 : W.cell? ⟨w.heap.size, 0, none⟩ = some (.int .i64 ra) := p0.cell 0; have d1 : W.cell? ⟨w.heap.size, 1, none⟩ = some (.int .i64 rb) := p0.cell 1; have d2 : W.cell? ⟨w.heap.size, 2, none⟩ = some (.int .i64 rc) := p0.cell 2; have d3 : W.cell? ⟨w.heap.size, 3, none⟩ = some (.int .i64 rr) := p0.cell 3; have b0 : W.cell? ⟨w.heap.size + 1, 0, none⟩ = some (.slice (some ⟨b, off, none⟩) ts.length c) := p1.cell 0; have g0 : W.cell? ⟨w1.heap.size, 0, none⟩ = some (.int .i64 gL) := p2.cell 0; have g1 : W.cell? ⟨w1.heap.size, 1, none⟩ = some (.int .i64 gH) := p2.cell 1; obtain ⟨c0, c1, c2, c3, c4, c5⟩ := p3 kn t HT.out; clear p0 p1 p2 p3; go_simp; with_reducible rfl); simp only [Act.put, List.setIfInBounds_toArray, List.set_cons_zero, List.set_cons_succ])
  have y0 : w3.cell? ⟨w.heap.size + 1 + 1, 0, none⟩ = some (.int .i64 0) := bZ3.cell 0
  have y1 : w3.cell? ⟨w.heap.size + 1 + 1, 1, none⟩ = some (.int .i64 0) := bZ3.cell 1
  have y2 : w3.frozen? ⟨w.heap.size + 1 + 1, 0, none⟩ = false := bZ3.free 0
  have y3 : w3.frozen? ⟨w.heap.size + 1 + 1, 1, none⟩ = false := bZ3.free 1
  refine SeqW.call rfl (by rfl) (fun K hK => ?_); go_simp
  refine hK.out _ _ ⟨(bR3.other (by dsimp only; omega) _).other (by dsimp only; omega) _, (bS3.other (by dsimp only; omega) _).other (by dsimp only; omega) _, (bN3.other (by dsimp only; omega) _).other (by dsimp only; omega) _, tA3.below (((Below.refl w.heap.size w3).setCell (p := ⟨w.heap.size + 1 + 1, 0, none⟩) (by dsimp only; omega) (.int .i64 (manyN ⟨ra, rb, rc, rr⟩ t.cr gL))).setCell (p := ⟨w.heap.size + 1 + 1, 1, none⟩) (by dsimp only; omega) (.int .i64 (manyN ⟨ra, rb, rc, rr⟩ t.cr gH))) hbl⟩ ?_
  clear hK K
  refine SeqW.done ?_
  have hR2 := (bZ3.set 0 (.int .i64 (manyN ⟨ra, rb, rc, rr⟩ t.cr gL))).set 1 (.int .i64 (manyN ⟨ra, rb, rc, rr⟩ t.cr gH))
  have r0 := hR2.cell 0
  have r1 := hR2.cell 1
  simp at r0 r1
  have hB4 := (hB3.setCell (p := ⟨w.heap.size + 1 + 1, 0, none⟩) (by dsimp only; omega) (.int .i64 (manyN ⟨ra, rb, rc, rr⟩ t.cr gL))).setCell (p := ⟨w.heap.size + 1 + 1, 1, none⟩) (by dsimp only; omega) (.int .i64 (manyN ⟨ra, rb, rc, rr⟩ t.cr gH))
  clear y0 y1 y2 y3
  go_wp2_with fail
  refine bodyPost_ret (v := .agg #[.int .i64 (manyN ⟨ra, rb, rc, rr⟩ t.cr gL), .int .i64 (manyN ⟨ra, rb, rc, rr⟩ t.cr gH)]) (by simp [results, Tryd.results73, go_sem, r0, r1]) rfl ⟨rfl, hB4⟩
end Go.Proofs.YtcjmfacdjdegkaaDoor
