/- Contracts of package stand: a tree's girth and its faces after years, when it is ready, and the calls Girth, Faces and Ready. Conditions: numbers small enough that nothing wraps round; the trees lie in memory as the model says. -/
import Derived.Test.YtpkjjiieglebbaaDoorG
namespace Go.Proofs.YtpkjjiieglebbaaDoor
open Go Go.RowKit
theorem mul_le (y r : Int) (h1 : 0 ≤ y) (h2 : y ≤ 200) (h3 : 0 ≤ r) (h4 : r ≤ 100) : 0 ≤ y * r ∧ y * r ≤ 20000 :=
  ⟨Int.mul_nonneg h1 h3, by have : y * r ≤ 200 * 100 := Int.mul_le_mul h2 h4 h3 (by omega); omega⟩
set_option maxHeartbeats 400000 in
theorem girthAfter_any (tag : ByteArray) (x y gl gh cr rl rh n : Int) (w : World) (hn : 0 ≤ n ∧ n ≤ 200) (hr : 0 ≤ rl ∧ rl ≤ 100 ∧ 0 ≤ rh ∧ rh ≤ 100) (hg : 0 ≤ gl ∧ gl ≤ 4000 ∧ 0 ≤ gh ∧ gh ≤ 4000) :
    Calls Tryd.prog 70 #[.agg #[.string tag, .int .i64 x, .int .i64 y, .int .i64 gl, .int .i64 gh, .int .i64 cr, .int .i64 rl, .int .i64 rh], .int .i64 n] w
      fun e w' => e = .returned (.agg #[.int .i64 (gl + n * rl), .int .i64 (gh + n * rh)]) ∧ Below w.heap.size w w' := by
  obtain ⟨n1, n2⟩ := hn
  obtain ⟨r1, r2, r3, r4⟩ := hr
  obtain ⟨g1, g2, g3, g4⟩ := hg
  obtain ⟨p1, p2⟩ := mul_le n rl n1 n2 r1 r2
  obtain ⟨p3, p4⟩ := mul_le n rh n1 n2 r3 r4
  go_enter Tryd.func70, Tryd.ntmps70
  go_wp2_with fail
  refine bodyPost_ret (v := .agg #[.int .i64 (gl + n * rl), .int .i64 (gh + n * rh)]) (by simp [results, Tryd.results70, go_sem]) rfl ⟨rfl, ?_⟩
  exact ((Below.refl _ _).alloc (Nat.le_refl _) _).alloc (by simp) _
set_option maxHeartbeats 1000000 in
theorem facesAfter_any (tag : ByteArray) (x y gl gh cr rl rh a b c rc n : Int) (w : World) (hn : 0 ≤ n ∧ n ≤ 200) (hr : 0 ≤ rl ∧ rl ≤ 100 ∧ 0 ≤ rh ∧ rh ≤ 100) (hg : 0 ≤ gl ∧ gl ≤ 4000 ∧ 0 ≤ gh ∧ gh ≤ 4000) :
    Calls Tryd.prog 72 #[.agg #[.string tag, .int .i64 x, .int .i64 y, .int .i64 gl, .int .i64 gh, .int .i64 cr, .int .i64 rl, .int .i64 rh], .agg #[.int .i64 a, .int .i64 b, .int .i64 c, .int .i64 rc], .int .i64 n] w
      fun e w' => e = .returned (.agg #[.int .i64 (manyN ⟨a, b, c, rc⟩ cr (gl + n * rl)), .int .i64 (manyN ⟨a, b, c, rc⟩ cr (gh + n * rh))]) ∧ Below w.heap.size w w' := by
  go_enter Tryd.func72, Tryd.ntmps72
  go_wp2_with (go_at_call 70; refine (girthAfter_any tag x y gl gh cr rl rh n _ hn hr hg).mono ?_; rintro e w1 ⟨rfl, hb1⟩; have hz1 := hb1.size)
  simp only [World.size_alloc] at hz1 hb1
  have bG := (((Box.new w #[.string tag, .int .i64 x, .int .i64 y, .int .i64 gl, .int .i64 gh, .int .i64 cr, .int .i64 rl, .int .i64 rh] 90).alloc (.cells #[.int .i64 a, .int .i64 b, .int .i64 c, .int .i64 rc] 24)).alloc (.cells #[.int .i64 0, .int .i64 0] 27)).below hb1 (by omega)
  have bR := ((Box.new (w.alloc (.cells #[.string tag, .int .i64 x, .int .i64 y, .int .i64 gl, .int .i64 gh, .int .i64 cr, .int .i64 rl, .int .i64 rh] 90)) #[.int .i64 a, .int .i64 b, .int .i64 c, .int .i64 rc] 24).alloc (.cells #[.int .i64 0, .int .i64 0] 27)).below hb1 (by simp)
  have bZ := (Box.new ((w.alloc (.cells #[.string tag, .int .i64 x, .int .i64 y, .int .i64 gl, .int .i64 gh, .int .i64 cr, .int .i64 rl, .int .i64 rh] 90)).alloc (.cells #[.int .i64 a, .int .i64 b, .int .i64 c, .int .i64 rc] 24)) #[.int .i64 0, .int .i64 0] 27).below hb1 (by simp)
  simp only [World.size_alloc] at bR bZ
  have hB1 : Below w.heap.size w w1 := ((((Below.refl _ w).alloc (Nat.le_refl _) _).alloc (by simp) _).alloc (by simp; omega) _).trans (hb1.mono (by omega))
  clear hb1
  refine region_seq (fun W => Box W w.heap.size #[.string tag, .int .i64 x, .int .i64 y, .int .i64 gl, .int .i64 gh, .int .i64 cr, .int .i64 rl, .int .i64 rh] 90 ∧ Box W (w.heap.size + 1) #[.int .i64 a, .int .i64 b, .int .i64 c, .int .i64 rc] 24 ∧ Box W w1.heap.size #[.int .i64 (gl + n * rl), .int .i64 (gh + n * rh)] 27) [(0, true), (1, true), (2, true), (3, true), (5, true), (6, true), (7, true), (8, true), (4, false), (9, false), (10, true), (11, false)]
    (by kernel_rfl) (by kernel_rfl) (by kernel_rfl) (by simp) (fun _ _ _ _ h => h) ⟨bG.alloc _, bR.alloc _, Box.new w1 _ _⟩ ?_
  iterate 8 (refine SeqW.take (v := ?_) rfl (by rfl) (fun W hW => ?_) ?_; rotate_left; (obtain ⟨q0, q1, q2⟩ := hW; have b0 : W.cell? ⟨w.heap.size, 0, none⟩ = some (.string tag) := q0.cell 0; have b1 : W.cell? ⟨w.heap.size, 1, none⟩ = some (.int .i64 x) := q0.cell 1; have b2 : W.cell? ⟨w.heap.size, 2, none⟩ = some (.int .i64 y) := q0.cell 2; have b3 : W.cell? ⟨w.heap.size, 3, none⟩ = some (.int .i64 gl) := q0.cell 3; have b4 : W.cell? ⟨w.heap.size, 4, none⟩ = some (.int .i64 gh) := q0.cell 4; have b5 : W.cell? ⟨w.heap.size, 5, none⟩ = some (.int .i64 cr) := q0.cell 5; have b6 : W.cell? ⟨w.heap.size, 6, none⟩ = some (.int .i64 rl) := q0.cell 6; have b7 : W.cell? ⟨w.heap.size, 7, none⟩ = some (.int .i64 rh) := q0.cell 7; have d0 : W.cell? ⟨w.heap.size + 1, 0, none⟩ = some (.int .i64 a) := q1.cell 0; have d1 : W.cell? ⟨w.heap.size + 1, 1, none⟩ = some (.int .i64 b) := q1.cell 1; have d2 : W.cell? ⟨w.heap.size + 1, 2, none⟩ = some (.int .i64 c) := q1.cell 2; have d3 : W.cell? ⟨w.heap.size + 1, 3, none⟩ = some (.int .i64 rc) := q1.cell 3; have f0 : W.cell? ⟨w1.heap.size, 0, none⟩ = some (.int .i64 (gl + n * rl)) := q2.cell 0; have f1 : W.cell? ⟨w1.heap.size, 1, none⟩ = some (.int .i64 (gh + n * rh)) := q2.cell 1; clear q0 q1 q2; go_simp; with_reducible rfl); simp only [Act.put, List.setIfInBounds_toArray, List.set_cons_zero, List.set_cons_succ])
  refine SeqW.call rfl (by rfl) (fun K hK => ?_); go_simp
  refine (facesWith_any _ _ _ _ _ _ _ _ _ _ _ _ _ _).mono ?_
  rintro e w2 ⟨rfl, hb2⟩
  have hz2 := hb2.size
  simp at hz2
  go_simp
  have bG2 := (bG.alloc (.cells #[.int .i64 (gl + n * rl), .int .i64 (gh + n * rh)] 27)).drew.below hb2 (by simp; omega)
  have bR2 := (bR.alloc (.cells #[.int .i64 (gl + n * rl), .int .i64 (gh + n * rh)] 27)).drew.below hb2 (by simp; omega)
  have bZ2 := (bZ.alloc (.cells #[.int .i64 (gl + n * rl), .int .i64 (gh + n * rh)] 27)).drew.below hb2 (by simp; omega)
  have bN2 := (Box.new w1 #[.int .i64 (gl + n * rl), .int .i64 (gh + n * rh)] 27).drew.below hb2 (by simp)
  have hB2 : Below w.heap.size w w2 := ((hB1.alloc (by omega) _).drew).trans (hb2.mono (by simp; omega))
  refine hK.out _ _ ⟨bG2, bR2, bN2⟩ ?_
  clear hK K hb2
  refine SeqW.call rfl (by rfl) (fun K hK => ?_); go_simp
  refine (facesWith_any _ _ _ _ _ _ _ _ _ _ _ _ _ _).mono ?_
  rintro e w3 ⟨rfl, hb3⟩
  have hz3 := hb3.size
  go_simp
  have bG3 := bG2.below hb3 (by omega)
  have bR3 := bR2.below hb3 (by omega)
  have bZ3 := bZ2.below hb3 (by omega)
  have bN3 := bN2.below hb3 (by omega)
  have hB3 : Below w.heap.size w w3 := hB2.trans (hb3.mono (by omega))
  refine hK.out _ _ ⟨bG3, bR3, bN3⟩ ?_
  clear hK K hb3
  (refine SeqW.take (v := ?_) rfl (by rfl) (fun W hW => ?_) ?_; rotate_left; (go_simp; with_reducible rfl); simp only [Act.put, List.setIfInBounds_toArray, List.set_cons_zero, List.set_cons_succ])
  have y0 : w3.cell? ⟨w.heap.size + 1 + 1, 0, none⟩ = some (.int .i64 0) := bZ3.cell 0
  have y1 : w3.cell? ⟨w.heap.size + 1 + 1, 1, none⟩ = some (.int .i64 0) := bZ3.cell 1
  have y2 : w3.frozen? ⟨w.heap.size + 1 + 1, 0, none⟩ = false := bZ3.free 0
  have y3 : w3.frozen? ⟨w.heap.size + 1 + 1, 1, none⟩ = false := bZ3.free 1
  refine SeqW.call rfl (by rfl) (fun K hK => ?_); go_simp
  refine hK.out _ _ ⟨(bG3.other (by dsimp only; omega) _).other (by dsimp only; omega) _, (bR3.other (by dsimp only; omega) _).other (by dsimp only; omega) _, (bN3.other (by dsimp only; omega) _).other (by dsimp only; omega) _⟩ ?_
  clear hK K
  refine SeqW.done ?_
  have hR2 := (bZ3.set 0 (.int .i64 (manyN ⟨a, b, c, rc⟩ cr (gl + n * rl)))).set 1 (.int .i64 (manyN ⟨a, b, c, rc⟩ cr (gh + n * rh)))
  have r0 := hR2.cell 0
  have r1 := hR2.cell 1
  simp at r0 r1
  have hB4 := (hB3.setCell (p := ⟨w.heap.size + 1 + 1, 0, none⟩) (by dsimp only; omega) (.int .i64 (manyN ⟨a, b, c, rc⟩ cr (gl + n * rl)))).setCell (p := ⟨w.heap.size + 1 + 1, 1, none⟩) (by dsimp only; omega) (.int .i64 (manyN ⟨a, b, c, rc⟩ cr (gh + n * rh)))
  clear y0 y1 y2 y3
  go_wp2_with fail
  refine bodyPost_ret (v := .agg #[.int .i64 (manyN ⟨a, b, c, rc⟩ cr (gl + n * rl)), .int .i64 (manyN ⟨a, b, c, rc⟩ cr (gh + n * rh))]) (by simp [results, Tryd.results72, go_sem, r0, r1]) rfl ⟨rfl, hB4⟩
theorem frB_nat (k : Nat) (h : k ≤ 200) : 0 ≤ (k : Int) ∧ (k : Int) ≤ 200 := by omega
theorem firstTo_yes (p : Nat → Bool) (k : Nat) (hk : k < 201) (hp : p k = true) : firstTo p (k + 1) = min (firstTo p k) (k : Int) := by
  rcases firstTo_le p k (by omega) with h | h
  · simp only [firstTo, h, hp]; simp; omega
  · have : ¬ firstTo p k = 201 := by omega
    simp only [firstTo, this]; simp; omega
theorem firstTo_no (p : Nat → Bool) (k : Nat) (hp : p k = false) : firstTo p (k + 1) = firstTo p k := by
  simp [firstTo, hp]
set_option maxRecDepth 100000 in
set_option maxHeartbeats 2000000 in
theorem readyFor_any (tag : ByteArray) (x y gl gh cr rl rh a b c rc f : Int) (w : World) (hr : 0 ≤ rl ∧ rl ≤ 100 ∧ 0 ≤ rh ∧ rh ≤ 100) (hg : 0 ≤ gl ∧ gl ≤ 4000 ∧ 0 ≤ gh ∧ gh ≤ 4000) :
    Calls Tryd.prog 74 #[.agg #[.string tag, .int .i64 x, .int .i64 y, .int .i64 gl, .int .i64 gh, .int .i64 cr, .int .i64 rl, .int .i64 rh], .agg #[.int .i64 a, .int .i64 b, .int .i64 c, .int .i64 rc], .int .i64 f] w
      fun e w' => e = .returned (.agg #[.int .i64 (firstTo (reachP ⟨a, b, c, rc⟩ cr f gh rh) 201), .int .i64 (firstTo (reachP ⟨a, b, c, rc⟩ cr f gl rl) 201)]) ∧ Below w.heap.size w w' := by
  have HPH : Hid (∀ k : Nat, reachP ⟨a, b, c, rc⟩ cr f gh rh k = decide (f ≤ manyN ⟨a, b, c, rc⟩ cr (gh + k * rh))) := Lib.hid fun k => rfl
  have HPL : Hid (∀ k : Nat, reachP ⟨a, b, c, rc⟩ cr f gl rl k = decide (f ≤ manyN ⟨a, b, c, rc⟩ cr (gl + k * rl))) := Lib.hid fun k => rfl
  generalize reachP ⟨a, b, c, rc⟩ cr f gh rh = ph at *
  generalize reachP ⟨a, b, c, rc⟩ cr f gl rl = pl at *
  have bG := ((Box.new w #[.string tag, .int .i64 x, .int .i64 y, .int .i64 gl, .int .i64 gh, .int .i64 cr, .int .i64 rl, .int .i64 rh] 90).alloc (.cells #[.int .i64 a, .int .i64 b, .int .i64 c, .int .i64 rc] 24)).alloc (.cells #[.int .i64 0, .int .i64 0] 27) |>.alloc (.cells #[.int .i64 201, .int .i64 201] 27)
  have bR := ((Box.new (w.alloc (.cells #[.string tag, .int .i64 x, .int .i64 y, .int .i64 gl, .int .i64 gh, .int .i64 cr, .int .i64 rl, .int .i64 rh] 90)) #[.int .i64 a, .int .i64 b, .int .i64 c, .int .i64 rc] 24).alloc (.cells #[.int .i64 0, .int .i64 0] 27)).alloc (.cells #[.int .i64 201, .int .i64 201] 27)
  have bZ := (Box.new ((w.alloc (.cells #[.string tag, .int .i64 x, .int .i64 y, .int .i64 gl, .int .i64 gh, .int .i64 cr, .int .i64 rl, .int .i64 rh] 90)).alloc (.cells #[.int .i64 a, .int .i64 b, .int .i64 c, .int .i64 rc] 24)) #[.int .i64 0, .int .i64 0] 27).alloc (.cells #[.int .i64 201, .int .i64 201] 27)
  have bN := Box.new (((w.alloc (.cells #[.string tag, .int .i64 x, .int .i64 y, .int .i64 gl, .int .i64 gh, .int .i64 cr, .int .i64 rl, .int .i64 rh] 90)).alloc (.cells #[.int .i64 a, .int .i64 b, .int .i64 c, .int .i64 rc] 24)).alloc (.cells #[.int .i64 0, .int .i64 0] 27)) #[.int .i64 201, .int .i64 201] 27
  simp only [World.size_alloc] at bR bZ bN
  have HG := Lib.hid bG
  have HR := Lib.hid bR
  have HZ := Lib.hid bZ
  have HN := Lib.hid bN
  clear bG bR bZ bN
  go_enter Tryd.func74, Tryd.ntmps74
  go_wp2_with fail
  go_loopw [11] (fun i wr => ∃ k : Nat, k ≤ 201 ∧ i = .int .i64 k ∧ Box wr w.heap.size #[.string tag, .int .i64 x, .int .i64 y, .int .i64 gl, .int .i64 gh, .int .i64 cr, .int .i64 rl, .int .i64 rh] 90 ∧ Box wr (w.heap.size + 1) #[.int .i64 a, .int .i64 b, .int .i64 c, .int .i64 rc] 24 ∧ Box wr (w.heap.size + 1 + 1) #[.int .i64 0, .int .i64 0] 27 ∧
      (∃ L H : Int, Box wr (w.heap.size + 1 + 1 + 1) #[.int .i64 L, .int .i64 H] 27 ∧ Hid (L = firstTo ph k) ∧ Hid (H = firstTo pl k)) ∧ Below w.heap.size w wr) (fun i _ => 201 - (intOf i).toNat)
  case atStart => exact ⟨0, by omega, rfl, HG.out, HR.out, HZ.out, ⟨201, 201, HN.out, Lib.hid rfl, Lib.hid rfl⟩, ((((Below.refl _ w).alloc (Nat.le_refl _) _).alloc (by simp) _).alloc (by simp; omega) _).alloc (by simp; omega) _⟩
  case round =>
    obtain ⟨k, hk, rfl, bG, bR, bZ, ⟨L, H, bN, HL, HH⟩, hB⟩ := hrel
    clear HG HR HZ HN
    have b0 : wr.cell? ⟨w.heap.size, 0, none⟩ = some (.string tag) := bG.cell 0
    have b1 : wr.cell? ⟨w.heap.size, 1, none⟩ = some (.int .i64 x) := bG.cell 1
    have b2 : wr.cell? ⟨w.heap.size, 2, none⟩ = some (.int .i64 y) := bG.cell 2
    have b3 : wr.cell? ⟨w.heap.size, 3, none⟩ = some (.int .i64 gl) := bG.cell 3
    have b4 : wr.cell? ⟨w.heap.size, 4, none⟩ = some (.int .i64 gh) := bG.cell 4
    have b5 : wr.cell? ⟨w.heap.size, 5, none⟩ = some (.int .i64 cr) := bG.cell 5
    have b6 : wr.cell? ⟨w.heap.size, 6, none⟩ = some (.int .i64 rl) := bG.cell 6
    have b7 : wr.cell? ⟨w.heap.size, 7, none⟩ = some (.int .i64 rh) := bG.cell 7
    have d0 : wr.cell? ⟨w.heap.size + 1, 0, none⟩ = some (.int .i64 a) := bR.cell 0
    have d1 : wr.cell? ⟨w.heap.size + 1, 1, none⟩ = some (.int .i64 b) := bR.cell 1
    have d2 : wr.cell? ⟨w.heap.size + 1, 2, none⟩ = some (.int .i64 c) := bR.cell 2
    have d3 : wr.cell? ⟨w.heap.size + 1, 3, none⟩ = some (.int .i64 rc) := bR.cell 3
    have n0 : wr.cell? ⟨w.heap.size + 1 + 1 + 1, 0, none⟩ = some (.int .i64 L) := bN.cell 0
    have n1 : wr.cell? ⟨w.heap.size + 1 + 1 + 1, 1, none⟩ = some (.int .i64 H) := bN.cell 1
    by_cases hlt : k < 201
    · have hl : 0 ≤ L ∧ L ≤ 201 := by rw [HL.out]; rcases firstTo_le ph k (by omega) with h | h <;> omega
      have hh : 0 ≤ H ∧ H ≤ 201 := by rw [HH.out]; rcases firstTo_le pl k (by omega) with h | h <;> omega
      obtain ⟨l1, l2⟩ := hl
      obtain ⟨h1, h2⟩ := hh
      have hbl := bN.lt
      rcases q1 : ph k with _ | _ <;> rcases q2 : pl k with _ | _
      · have t1 : ¬ f ≤ manyN ⟨a, b, c, rc⟩ cr (gh + k * rh) := by rw [HPH.out] at q1; simpa using q1
        have t2 : ¬ f ≤ manyN ⟨a, b, c, rc⟩ cr (gl + k * rl) := by rw [HPL.out] at q2; simpa using q2
        have HL1 : Hid (firstTo ph (k + 1) = L) := Lib.hid (by rw [firstTo_no ph k q1, ← HL.out])
        have HH1 : Hid (firstTo pl (k + 1) = H) := Lib.hid (by rw [firstTo_no pl k q2, ← HH.out])
        clear q1 q2 HL HH
        go_wp2_with (go_at_call 72; refine (facesAfter_any tag x y gl gh cr rl rh a b c rc k _ (frB_nat k (by omega)) hr hg).mono ?_; rintro e w2 ⟨rfl, hb2⟩; have hz2 := hb2.size; obtain ⟨hc2, hf2⟩ := bcell hb2; have m0 : ∀ o, (w2.alloc o).cell? ⟨w.heap.size + 1 + 1 + 1, 0, none⟩ = some (.int .i64 L) := fun o => ((bN.below hb2 bN.lt).alloc o).cell 0; have m1 : ∀ o, (w2.alloc o).cell? ⟨w.heap.size + 1 + 1 + 1, 1, none⟩ = some (.int .i64 H) := fun o => ((bN.below hb2 bN.lt).alloc o).cell 1; have m2 : ∀ o, (w2.alloc o).frozen? ⟨w.heap.size + 1 + 1 + 1, 0, none⟩ = false := fun o => ((bN.below hb2 bN.lt).alloc o).free 0; have m3 : ∀ o, (w2.alloc o).frozen? ⟨w.heap.size + 1 + 1 + 1, 1, none⟩ = false := fun o => ((bN.below hb2 bN.lt).alloc o).free 1; have ne2 : w2.heap.size ≠ w.heap.size + 1 + 1 + 1 := (by omega))
        all_goals
          have zG := (bG.below hb2 bG.lt).alloc (.cells #[.int .i64 (manyN ⟨a, b, c, rc⟩ cr (gl + k * rl)), .int .i64 (manyN ⟨a, b, c, rc⟩ cr (gh + k * rh))] 27)
          have zR := (bR.below hb2 bR.lt).alloc (.cells #[.int .i64 (manyN ⟨a, b, c, rc⟩ cr (gl + k * rl)), .int .i64 (manyN ⟨a, b, c, rc⟩ cr (gh + k * rh))] 27)
          have zZ := (bZ.below hb2 bZ.lt).alloc (.cells #[.int .i64 (manyN ⟨a, b, c, rc⟩ cr (gl + k * rl)), .int .i64 (manyN ⟨a, b, c, rc⟩ cr (gh + k * rh))] 27)
          have zN := (bN.below hb2 bN.lt).alloc (.cells #[.int .i64 (manyN ⟨a, b, c, rc⟩ cr (gl + k * rl)), .int .i64 (manyN ⟨a, b, c, rc⟩ cr (gh + k * rh))] 27)
          have zB := (hB.trans (hb2.mono (by omega))).alloc (by omega) (.cells #[.int .i64 (manyN ⟨a, b, c, rc⟩ cr (gl + k * rl)), .int .i64 (manyN ⟨a, b, c, rc⟩ cr (gh + k * rh))] 27)
          go_roundw
          case rel => exact ⟨k + 1, by omega, by go_num, zG, zR, zZ, ⟨_, _, by simpa using zN, Lib.hid (by have := HL1.out; omega), Lib.hid (by have := HH1.out; omega)⟩, zB⟩
          case measure => simp [intOf]; omega
      · have t1 : ¬ f ≤ manyN ⟨a, b, c, rc⟩ cr (gh + k * rh) := by rw [HPH.out] at q1; simpa using q1
        have t2 : f ≤ manyN ⟨a, b, c, rc⟩ cr (gl + k * rl) := by rw [HPL.out] at q2; simpa using q2
        have HL1 : Hid (firstTo ph (k + 1) = L) := Lib.hid (by rw [firstTo_no ph k q1, ← HL.out])
        have HH1 : Hid (firstTo pl (k + 1) = min H (k : Int)) := Lib.hid (by rw [firstTo_yes pl k hlt q2, ← HH.out])
        clear q1 q2 HL HH
        go_wp2_with (go_at_call 72; refine (facesAfter_any tag x y gl gh cr rl rh a b c rc k _ (frB_nat k (by omega)) hr hg).mono ?_; rintro e w2 ⟨rfl, hb2⟩; have hz2 := hb2.size; obtain ⟨hc2, hf2⟩ := bcell hb2; have m0 : ∀ o, (w2.alloc o).cell? ⟨w.heap.size + 1 + 1 + 1, 0, none⟩ = some (.int .i64 L) := fun o => ((bN.below hb2 bN.lt).alloc o).cell 0; have m1 : ∀ o, (w2.alloc o).cell? ⟨w.heap.size + 1 + 1 + 1, 1, none⟩ = some (.int .i64 H) := fun o => ((bN.below hb2 bN.lt).alloc o).cell 1; have m2 : ∀ o, (w2.alloc o).frozen? ⟨w.heap.size + 1 + 1 + 1, 0, none⟩ = false := fun o => ((bN.below hb2 bN.lt).alloc o).free 0; have m3 : ∀ o, (w2.alloc o).frozen? ⟨w.heap.size + 1 + 1 + 1, 1, none⟩ = false := fun o => ((bN.below hb2 bN.lt).alloc o).free 1; have ne2 : w2.heap.size ≠ w.heap.size + 1 + 1 + 1 := (by omega))
        all_goals
          have zG := (bG.below hb2 bG.lt).alloc (.cells #[.int .i64 (manyN ⟨a, b, c, rc⟩ cr (gl + k * rl)), .int .i64 (manyN ⟨a, b, c, rc⟩ cr (gh + k * rh))] 27)
          have zR := (bR.below hb2 bR.lt).alloc (.cells #[.int .i64 (manyN ⟨a, b, c, rc⟩ cr (gl + k * rl)), .int .i64 (manyN ⟨a, b, c, rc⟩ cr (gh + k * rh))] 27)
          have zZ := (bZ.below hb2 bZ.lt).alloc (.cells #[.int .i64 (manyN ⟨a, b, c, rc⟩ cr (gl + k * rl)), .int .i64 (manyN ⟨a, b, c, rc⟩ cr (gh + k * rh))] 27)
          have zN := (bN.below hb2 bN.lt).alloc (.cells #[.int .i64 (manyN ⟨a, b, c, rc⟩ cr (gl + k * rl)), .int .i64 (manyN ⟨a, b, c, rc⟩ cr (gh + k * rh))] 27)
          have zB := (hB.trans (hb2.mono (by omega))).alloc (by omega) (.cells #[.int .i64 (manyN ⟨a, b, c, rc⟩ cr (gl + k * rl)), .int .i64 (manyN ⟨a, b, c, rc⟩ cr (gh + k * rh))] 27)
          go_roundw
          case rel => exact ⟨k + 1, by omega, by go_num, (zG).other (by dsimp only; omega) _, (zR).other (by dsimp only; omega) _, (zZ).other (by dsimp only; omega) _, ⟨_, _, by simpa using (zN).set 1 _, Lib.hid (by have := HL1.out; omega), Lib.hid (by have := HH1.out; omega)⟩, (zB).setCell (by dsimp only; omega) _⟩
          case measure => simp [intOf]; omega
      · have t1 : f ≤ manyN ⟨a, b, c, rc⟩ cr (gh + k * rh) := by rw [HPH.out] at q1; simpa using q1
        have t2 : ¬ f ≤ manyN ⟨a, b, c, rc⟩ cr (gl + k * rl) := by rw [HPL.out] at q2; simpa using q2
        have HL1 : Hid (firstTo ph (k + 1) = min L (k : Int)) := Lib.hid (by rw [firstTo_yes ph k hlt q1, ← HL.out])
        have HH1 : Hid (firstTo pl (k + 1) = H) := Lib.hid (by rw [firstTo_no pl k q2, ← HH.out])
        clear q1 q2 HL HH
        go_wp2_with (go_at_call 72; refine (facesAfter_any tag x y gl gh cr rl rh a b c rc k _ (frB_nat k (by omega)) hr hg).mono ?_; rintro e w2 ⟨rfl, hb2⟩; have hz2 := hb2.size; obtain ⟨hc2, hf2⟩ := bcell hb2; have m0 : ∀ o, (w2.alloc o).cell? ⟨w.heap.size + 1 + 1 + 1, 0, none⟩ = some (.int .i64 L) := fun o => ((bN.below hb2 bN.lt).alloc o).cell 0; have m1 : ∀ o, (w2.alloc o).cell? ⟨w.heap.size + 1 + 1 + 1, 1, none⟩ = some (.int .i64 H) := fun o => ((bN.below hb2 bN.lt).alloc o).cell 1; have m2 : ∀ o, (w2.alloc o).frozen? ⟨w.heap.size + 1 + 1 + 1, 0, none⟩ = false := fun o => ((bN.below hb2 bN.lt).alloc o).free 0; have m3 : ∀ o, (w2.alloc o).frozen? ⟨w.heap.size + 1 + 1 + 1, 1, none⟩ = false := fun o => ((bN.below hb2 bN.lt).alloc o).free 1; have ne2 : w2.heap.size ≠ w.heap.size + 1 + 1 + 1 := (by omega))
        all_goals
          have zG := (bG.below hb2 bG.lt).alloc (.cells #[.int .i64 (manyN ⟨a, b, c, rc⟩ cr (gl + k * rl)), .int .i64 (manyN ⟨a, b, c, rc⟩ cr (gh + k * rh))] 27)
          have zR := (bR.below hb2 bR.lt).alloc (.cells #[.int .i64 (manyN ⟨a, b, c, rc⟩ cr (gl + k * rl)), .int .i64 (manyN ⟨a, b, c, rc⟩ cr (gh + k * rh))] 27)
          have zZ := (bZ.below hb2 bZ.lt).alloc (.cells #[.int .i64 (manyN ⟨a, b, c, rc⟩ cr (gl + k * rl)), .int .i64 (manyN ⟨a, b, c, rc⟩ cr (gh + k * rh))] 27)
          have zN := (bN.below hb2 bN.lt).alloc (.cells #[.int .i64 (manyN ⟨a, b, c, rc⟩ cr (gl + k * rl)), .int .i64 (manyN ⟨a, b, c, rc⟩ cr (gh + k * rh))] 27)
          have zB := (hB.trans (hb2.mono (by omega))).alloc (by omega) (.cells #[.int .i64 (manyN ⟨a, b, c, rc⟩ cr (gl + k * rl)), .int .i64 (manyN ⟨a, b, c, rc⟩ cr (gh + k * rh))] 27)
          go_roundw
          case rel => exact ⟨k + 1, by omega, by go_num, (zG).other (by dsimp only; omega) _, (zR).other (by dsimp only; omega) _, (zZ).other (by dsimp only; omega) _, ⟨_, _, by simpa using (zN).set 0 _, Lib.hid (by have := HL1.out; omega), Lib.hid (by have := HH1.out; omega)⟩, (zB).setCell (by dsimp only; omega) _⟩
          case measure => simp [intOf]; omega
      · have t1 : f ≤ manyN ⟨a, b, c, rc⟩ cr (gh + k * rh) := by rw [HPH.out] at q1; simpa using q1
        have t2 : f ≤ manyN ⟨a, b, c, rc⟩ cr (gl + k * rl) := by rw [HPL.out] at q2; simpa using q2
        have HL1 : Hid (firstTo ph (k + 1) = min L (k : Int)) := Lib.hid (by rw [firstTo_yes ph k hlt q1, ← HL.out])
        have HH1 : Hid (firstTo pl (k + 1) = min H (k : Int)) := Lib.hid (by rw [firstTo_yes pl k hlt q2, ← HH.out])
        clear q1 q2 HL HH
        go_wp2_with (go_at_call 72; refine (facesAfter_any tag x y gl gh cr rl rh a b c rc k _ (frB_nat k (by omega)) hr hg).mono ?_; rintro e w2 ⟨rfl, hb2⟩; have hz2 := hb2.size; obtain ⟨hc2, hf2⟩ := bcell hb2; have m0 : ∀ o, (w2.alloc o).cell? ⟨w.heap.size + 1 + 1 + 1, 0, none⟩ = some (.int .i64 L) := fun o => ((bN.below hb2 bN.lt).alloc o).cell 0; have m1 : ∀ o, (w2.alloc o).cell? ⟨w.heap.size + 1 + 1 + 1, 1, none⟩ = some (.int .i64 H) := fun o => ((bN.below hb2 bN.lt).alloc o).cell 1; have m2 : ∀ o, (w2.alloc o).frozen? ⟨w.heap.size + 1 + 1 + 1, 0, none⟩ = false := fun o => ((bN.below hb2 bN.lt).alloc o).free 0; have m3 : ∀ o, (w2.alloc o).frozen? ⟨w.heap.size + 1 + 1 + 1, 1, none⟩ = false := fun o => ((bN.below hb2 bN.lt).alloc o).free 1; have ne2 : w2.heap.size ≠ w.heap.size + 1 + 1 + 1 := (by omega))
        all_goals
          have zG := (bG.below hb2 bG.lt).alloc (.cells #[.int .i64 (manyN ⟨a, b, c, rc⟩ cr (gl + k * rl)), .int .i64 (manyN ⟨a, b, c, rc⟩ cr (gh + k * rh))] 27)
          have zR := (bR.below hb2 bR.lt).alloc (.cells #[.int .i64 (manyN ⟨a, b, c, rc⟩ cr (gl + k * rl)), .int .i64 (manyN ⟨a, b, c, rc⟩ cr (gh + k * rh))] 27)
          have zZ := (bZ.below hb2 bZ.lt).alloc (.cells #[.int .i64 (manyN ⟨a, b, c, rc⟩ cr (gl + k * rl)), .int .i64 (manyN ⟨a, b, c, rc⟩ cr (gh + k * rh))] 27)
          have zN := (bN.below hb2 bN.lt).alloc (.cells #[.int .i64 (manyN ⟨a, b, c, rc⟩ cr (gl + k * rl)), .int .i64 (manyN ⟨a, b, c, rc⟩ cr (gh + k * rh))] 27)
          have zB := (hB.trans (hb2.mono (by omega))).alloc (by omega) (.cells #[.int .i64 (manyN ⟨a, b, c, rc⟩ cr (gl + k * rl)), .int .i64 (manyN ⟨a, b, c, rc⟩ cr (gh + k * rh))] 27)
          go_roundw
          case rel => exact ⟨k + 1, by omega, by go_num, ((zG).other (by dsimp only; omega) _).other (by dsimp only; omega) _, ((zR).other (by dsimp only; omega) _).other (by dsimp only; omega) _, ((zZ).other (by dsimp only; omega) _).other (by dsimp only; omega) _, ⟨_, _, by simpa using ((zN).set 0 _).set 1 _, Lib.hid (by have := HL1.out; omega), Lib.hid (by have := HH1.out; omega)⟩, ((zB).setCell (by dsimp only; omega) _).setCell (by dsimp only; omega) _⟩
          case measure => simp [intOf]; omega
    · obtain rfl : k = 201 := by omega
      have z0 : wr.cell? ⟨w.heap.size + 1 + 1, 0, none⟩ = some (.int .i64 0) := bZ.cell 0
      have z1 : wr.cell? ⟨w.heap.size + 1 + 1, 1, none⟩ = some (.int .i64 0) := bZ.cell 1
      have z2 : wr.frozen? ⟨w.heap.size + 1 + 1, 0, none⟩ = false := bZ.free 0
      have z3 : wr.frozen? ⟨w.heap.size + 1 + 1, 1, none⟩ = false := bZ.free 1
      have hB2 := (hB.setCell (p := ⟨w.heap.size + 1 + 1, 0, none⟩) (by dsimp only; omega) (.int .i64 L)).setCell (p := ⟨w.heap.size + 1 + 1, 1, none⟩) (by dsimp only; omega) (.int .i64 H)
      have bZ2 := (bZ.set 0 (.int .i64 L)).set 1 (.int .i64 H)
      have r0 := bZ2.cell 0
      have r1 := bZ2.cell 1
      simp at r0 r1
      go_wp2_with fail
      refine bodyPost_ret (v := .agg #[.int .i64 L, .int .i64 H]) (by simp [results, Tryd.results74, go_sem, r0, r1]) rfl ⟨by rw [HL.out, HH.out], hB2⟩
end Go.Proofs.YtpkjjiieglebbaaDoor
