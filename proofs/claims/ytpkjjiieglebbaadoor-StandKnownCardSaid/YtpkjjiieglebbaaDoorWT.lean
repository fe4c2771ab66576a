/- The contract of package stand's worthiest. Conditions: few trees, in memory as the model says, of coordinates and girths within their bounds; the gap too. -/
import Derived.Test.YtpkjjiieglebbaaDoorSW
namespace Go.Proofs.YtpkjjiieglebbaaDoor
open Go Go.RowKit
def bestOf (ts : List Tree) (gap : Int) : List Nat × Int := goS ts gap ts.length [] 0 0 ([], 0)
theorem start_any (a : Option Addr) (c : Nat) (ts : List Tree) (gap : Int) (w w1 : World) (cs : Array Value) (hT : Trees w a ts.length c ts) (h14 : ts.length ≤ 14) (hok : ∀ t ∈ ts, okTree t) (hgl : ∀ t ∈ ts, 0 ≤ t.gl ∧ t.gl ≤ 4000) (hgap : 0 ≤ gap ∧ gap ≤ 100000)
    (hfr : ∀ j, j < ts.length → cs[j]? = some (.int .i64 (fromL ts j))) (hrow : Box w1 (w.heap.size + 1 + 1 + 1 + 1) cs 3) (hb1 : Below (w.heap.size + 1 + 1 + 1 + 1) (((((w.alloc (.cells #[.slice a ts.length c] 25)).alloc (.cells #[.int .i64 gap] 3)).alloc (.cells #[.slice none 0 0] 30)).alloc (.cells #[.int .i64 0] 3))) w1) :
    Calls Tryd.prog 96 #[.slice none 0 0, .int .i64 0, .int .i64 0, .pointer (some ⟨w.heap.size + 1 + 1 + 1, 0, none⟩), .pointer (some ⟨w.heap.size + 1 + 1, 0, none⟩), .pointer (some ⟨w.heap.size, 0, none⟩), .pointer (some ⟨w1.heap.size, 0, none⟩), .pointer (some ⟨w.heap.size + 1, 0, none⟩), .pointer (some ⟨w1.heap.size + 1, 0, none⟩)] (((w1.alloc (.cells #[.slice (some ⟨w.heap.size + 1 + 1 + 1 + 1, 0, none⟩) ts.length ts.length] 30)).alloc (.cells #[.func (.func 96) #[] #[.pointer (some ⟨w.heap.size + 1 + 1 + 1, 0, none⟩), .pointer (some ⟨w.heap.size + 1 + 1, 0, none⟩), .pointer (some ⟨w.heap.size, 0, none⟩), .pointer (some ⟨w1.heap.size, 0, none⟩), .pointer (some ⟨w.heap.size + 1, 0, none⟩), .pointer (some ⟨w1.heap.size + 1, 0, none⟩)]] 125))) fun e W' =>
      e = .returned (.tuple #[]) ∧ ∃ a' c', Boxed W' (w.heap.size + 1 + 1) 30 (.slice a' (bestOf ts gap).1.length c') ∧ Boxed W' (w.heap.size + 1 + 1 + 1) 3 (.int .i64 (bestOf ts gap).2) ∧
        W'.ownsRow (w.heap.size + 1 + 1 + 1 + 1) 3 1 (.slice a' (bestOf ts gap).1.length c') (bestOf ts gap).1.length ((bestOf ts gap).1.map fun i : Nat => Value.int .i64 (i : Int)) ∧ Below w.heap.size w W' := by
  have hz1 : w.heap.size + 1 + 1 + 1 + 1 < w1.heap.size := hrow.lt
  have k0 : Boxed (((((w.alloc (.cells #[.slice a ts.length c] 25)).alloc (.cells #[.int .i64 gap] 3)).alloc (.cells #[.slice none 0 0] 30)).alloc (.cells #[.int .i64 0] 3))) w.heap.size 25 (.slice a ts.length c) := (((Boxed.new w _ _).alloc _).alloc _).alloc _
  have k1 : Boxed (((((w.alloc (.cells #[.slice a ts.length c] 25)).alloc (.cells #[.int .i64 gap] 3)).alloc (.cells #[.slice none 0 0] 30)).alloc (.cells #[.int .i64 0] 3))) (w.heap.size + 1) 3 (.int .i64 gap) := by
    have := ((Boxed.new (w.alloc (.cells #[.slice a ts.length c] 25)) 3 (.int .i64 gap)).alloc (.cells #[.slice none 0 0] 30)).alloc (.cells #[.int .i64 0] 3)
    simpa using this
  have k2 : Boxed (((((w.alloc (.cells #[.slice a ts.length c] 25)).alloc (.cells #[.int .i64 gap] 3)).alloc (.cells #[.slice none 0 0] 30)).alloc (.cells #[.int .i64 0] 3))) (w.heap.size + 1 + 1) 30 (.slice none 0 0) := by
    have := (Boxed.new ((w.alloc (.cells #[.slice a ts.length c] 25)).alloc (.cells #[.int .i64 gap] 3)) 30 (.slice none 0 0)).alloc (.cells #[.int .i64 0] 3)
    simpa using this
  have k3 : Boxed (((((w.alloc (.cells #[.slice a ts.length c] 25)).alloc (.cells #[.int .i64 gap] 3)).alloc (.cells #[.slice none 0 0] 30)).alloc (.cells #[.int .i64 0] 3))) (w.heap.size + 1 + 1 + 1) 3 (.int .i64 0) := by
    have := Boxed.new (((w.alloc (.cells #[.slice a ts.length c] 25)).alloc (.cells #[.int .i64 gap] 3)).alloc (.cells #[.slice none 0 0] 30)) 3 (.int .i64 0)
    simpa using this
  have hB4 : Below w.heap.size w (((((w.alloc (.cells #[.slice a ts.length c] 25)).alloc (.cells #[.int .i64 gap] 3)).alloc (.cells #[.slice none 0 0] 30)).alloc (.cells #[.int .i64 0] 3))) := ((((Below.refl _ w).alloc (Nat.le_refl _) _).alloc (by simp) _).alloc (by simp; omega) _).alloc (by simp; omega) _
  have hB1 : Below w.heap.size w w1 := hB4.trans (hb1.mono (by omega))
  have j0 : Boxed w1 w.heap.size 25 (.slice a ts.length c) := boxed_of k0 (hb1.block _ (by omega))
  have j1 : Boxed w1 (w.heap.size + 1) 3 (.int .i64 gap) := boxed_of k1 (hb1.block _ (by omega))
  have j2 : Boxed w1 (w.heap.size + 1 + 1) 30 (.slice none 0 0) := boxed_of k2 (hb1.block _ (by omega))
  have j3 : Boxed w1 (w.heap.size + 1 + 1 + 1) 3 (.int .i64 0) := boxed_of k3 (hb1.block _ (by omega))
  clear k0 k1 k2 k3 hB4 hb1
  have hB0 : Below w.heap.size w (((w1.alloc (.cells #[.slice (some ⟨w.heap.size + 1 + 1 + 1 + 1, 0, none⟩) ts.length ts.length] 30)).alloc (.cells #[.func (.func 96) #[] #[.pointer (some ⟨w.heap.size + 1 + 1 + 1, 0, none⟩), .pointer (some ⟨w.heap.size + 1 + 1, 0, none⟩), .pointer (some ⟨w.heap.size, 0, none⟩), .pointer (some ⟨w1.heap.size, 0, none⟩), .pointer (some ⟨w.heap.size + 1, 0, none⟩), .pointer (some ⟨w1.heap.size + 1, 0, none⟩)]] 125))) := (hB1.alloc (by omega) _).alloc (by simp; omega) _
  obtain ⟨b, off, hab, hbl, hTA⟩ : ∃ b off, (0 < ts.length → a = some ⟨b, off, none⟩) ∧ b ≤ w.heap.size ∧ TreesAt (((w1.alloc (.cells #[.slice (some ⟨w.heap.size + 1 + 1 + 1 + 1, 0, none⟩) ts.length ts.length] 30)).alloc (.cells #[.func (.func 96) #[] #[.pointer (some ⟨w.heap.size + 1 + 1 + 1, 0, none⟩), .pointer (some ⟨w.heap.size + 1 + 1, 0, none⟩), .pointer (some ⟨w.heap.size, 0, none⟩), .pointer (some ⟨w1.heap.size, 0, none⟩), .pointer (some ⟨w.heap.size + 1, 0, none⟩), .pointer (some ⟨w1.heap.size + 1, 0, none⟩)]] 125))) b off ts := by
    rcases hT.at_ with rfl | ⟨b, off, rfl, hl, hTA⟩
    · exact ⟨w.heap.size, 0, fun h => absurd h (by simp), Nat.le_refl _, fun i t h => by simp at h⟩
    · exact ⟨b, off, fun _ => rfl, by omega, hTA.below hB0 hl⟩
  have j5 : Boxed (((w1.alloc (.cells #[.slice (some ⟨w.heap.size + 1 + 1 + 1 + 1, 0, none⟩) ts.length ts.length] 30)).alloc (.cells #[.func (.func 96) #[] #[.pointer (some ⟨w.heap.size + 1 + 1 + 1, 0, none⟩), .pointer (some ⟨w.heap.size + 1 + 1, 0, none⟩), .pointer (some ⟨w.heap.size, 0, none⟩), .pointer (some ⟨w1.heap.size, 0, none⟩), .pointer (some ⟨w.heap.size + 1, 0, none⟩), .pointer (some ⟨w1.heap.size + 1, 0, none⟩)]] 125))) (w1.heap.size + 1) 125 (.func (.func 96) #[] #[.pointer (some ⟨w.heap.size + 1 + 1 + 1, 0, none⟩), .pointer (some ⟨w.heap.size + 1 + 1, 0, none⟩), .pointer (some ⟨w.heap.size, 0, none⟩), .pointer (some ⟨w1.heap.size, 0, none⟩), .pointer (some ⟨w.heap.size + 1, 0, none⟩), .pointer (some ⟨w1.heap.size + 1, 0, none⟩)]) := by
    have := Boxed.new (w1.alloc (.cells #[.slice (some ⟨w.heap.size + 1 + 1 + 1 + 1, 0, none⟩) ts.length ts.length] 30)) 125 (.func (.func 96) #[] #[.pointer (some ⟨w.heap.size + 1 + 1 + 1, 0, none⟩), .pointer (some ⟨w.heap.size + 1 + 1, 0, none⟩), .pointer (some ⟨w.heap.size, 0, none⟩), .pointer (some ⟨w1.heap.size, 0, none⟩), .pointer (some ⟨w.heap.size + 1, 0, none⟩), .pointer (some ⟨w1.heap.size + 1, 0, none⟩)])
    simpa using this
  have hz0 : (((w1.alloc (.cells #[.slice (some ⟨w.heap.size + 1 + 1 + 1 + 1, 0, none⟩) ts.length ts.length] 30)).alloc (.cells #[.func (.func 96) #[] #[.pointer (some ⟨w.heap.size + 1 + 1 + 1, 0, none⟩), .pointer (some ⟨w.heap.size + 1 + 1, 0, none⟩), .pointer (some ⟨w.heap.size, 0, none⟩), .pointer (some ⟨w1.heap.size, 0, none⟩), .pointer (some ⟨w.heap.size + 1, 0, none⟩), .pointer (some ⟨w1.heap.size + 1, 0, none⟩)]] 125))).heap.size = w1.heap.size + 1 + 1 := by simp
  have hF : Fix (((w1.alloc (.cells #[.slice (some ⟨w.heap.size + 1 + 1 + 1 + 1, 0, none⟩) ts.length ts.length] 30)).alloc (.cells #[.func (.func 96) #[] #[.pointer (some ⟨w.heap.size + 1 + 1 + 1, 0, none⟩), .pointer (some ⟨w.heap.size + 1 + 1, 0, none⟩), .pointer (some ⟨w.heap.size, 0, none⟩), .pointer (some ⟨w1.heap.size, 0, none⟩), .pointer (some ⟨w.heap.size + 1, 0, none⟩), .pointer (some ⟨w1.heap.size + 1, 0, none⟩)]] 125))) (w1.heap.size + 1 + 1) (w.heap.size + 1 + 1 + 1) (w.heap.size + 1 + 1) w.heap.size w1.heap.size (w.heap.size + 1) (w1.heap.size + 1) b off c (w.heap.size + 1 + 1 + 1 + 1) ts.length a ts gap cs :=
    ⟨(j0.alloc _).alloc _, hab, (Boxed.new w1 _ _).alloc _, (j1.alloc _).alloc _, j5, (hrow.alloc _).alloc _, hTA, hfr, by omega, by omega, by omega, by omega⟩
  have hA : At (((w1.alloc (.cells #[.slice (some ⟨w.heap.size + 1 + 1 + 1 + 1, 0, none⟩) ts.length ts.length] 30)).alloc (.cells #[.func (.func 96) #[] #[.pointer (some ⟨w.heap.size + 1 + 1 + 1, 0, none⟩), .pointer (some ⟨w.heap.size + 1 + 1, 0, none⟩), .pointer (some ⟨w.heap.size, 0, none⟩), .pointer (some ⟨w1.heap.size, 0, none⟩), .pointer (some ⟨w.heap.size + 1, 0, none⟩), .pointer (some ⟨w1.heap.size + 1, 0, none⟩)]] 125))) w.heap.size (w1.heap.size + 1 + 1) (w.heap.size + 1 + 1 + 1) (w.heap.size + 1 + 1) (((w1.alloc (.cells #[.slice (some ⟨w.heap.size + 1 + 1 + 1 + 1, 0, none⟩) ts.length ts.length] 30)).alloc (.cells #[.func (.func 96) #[] #[.pointer (some ⟨w.heap.size + 1 + 1 + 1, 0, none⟩), .pointer (some ⟨w.heap.size + 1 + 1, 0, none⟩), .pointer (some ⟨w.heap.size, 0, none⟩), .pointer (some ⟨w1.heap.size, 0, none⟩), .pointer (some ⟨w.heap.size + 1, 0, none⟩), .pointer (some ⟨w1.heap.size + 1, 0, none⟩)]] 125))) (.slice none 0 0) (.slice none 0 0) [] [] 0 :=
    ⟨Below.refl _ _, fun _ _ _ _ => rfl, by omega, (j3.alloc _).alloc _, (j2.alloc _).alloc _, World.ownsRow_nil _ _ _ _, fun j h => by simp [Value.ownBlock] at h, World.ownsRow_nil _ _ _ _⟩
  have hs := search_any hF hok hgl h14 hgap (bb := w.heap.size) (by omega) (by omega) (by omega) ts.length _ _ [] [] 0 0 0 _ (by omega) hA (by simp) (Nat.zero_le _) (Int.le_refl _) (by have := fromL_le ts 0 hgl h14; omega)
  refine hs.mono ?_
  rintro e W' ⟨rfl, hBest⟩
  obtain ⟨vb', hA', hT'⟩ := hBest.get
  have hg : goS ts gap ts.length [] 0 0 (better [] 0 ([], 0)) = bestOf ts gap := by simp [bestOf, better]
  rw [hg] at hA'
  obtain ⟨a', c', rfl⟩ := row_shape hA'.brow
  exact ⟨rfl, a', c', hA'.bbest, hA'.bmost, ownsRow_base hA'.brow (by omega), hB0.trans hA'.bel⟩
set_option maxRecDepth 100000 in
set_option maxHeartbeats 2000000 in
theorem worthiest_any (a : Option Addr) (n c : Nat) (ts : List Tree) (gap : Int) (w : World) (hT : Trees w a n c ts) (h14 : ts.length ≤ 14) (hok : ∀ t ∈ ts, okTree t) (hgl : ∀ t ∈ ts, 0 ≤ t.gl ∧ t.gl ≤ 4000) (hgap : 0 ≤ gap ∧ gap ≤ 100000) :
    Calls Tryd.prog 75 #[.slice a n c, .int .i64 gap] w fun e w' =>
      ∃ v, e = .returned (.tuple #[v, .int .i64 (bestOf ts gap).2]) ∧ w'.ownsRow w.heap.size 3 1 v (bestOf ts gap).1.length ((bestOf ts gap).1.map fun i : Nat => Value.int .i64 (i : Int)) ∧ Below w.heap.size w w' := by
  have HT := Lib.hid hT
  have hn := hT.len
  subst hn
  have t0 : Box (((((w.alloc (.cells #[.slice a ts.length c] 25)).alloc (.cells #[.int .i64 gap] 3)).alloc (.cells #[.slice none 0 0] 30)).alloc (.cells #[.int .i64 0] 3))) w.heap.size #[.slice a ts.length c] 25 := (((Box.new w _ _).alloc _).alloc _).alloc _
  have hB4 : Below w.heap.size w (((((w.alloc (.cells #[.slice a ts.length c] 25)).alloc (.cells #[.int .i64 gap] 3)).alloc (.cells #[.slice none 0 0] 30)).alloc (.cells #[.int .i64 0] 3))) := ((((Below.refl _ w).alloc (Nat.le_refl _) _).alloc (by simp) _).alloc (by simp; omega) _).alloc (by simp; omega) _
  clear hT
  have hmf : ∀ (fn : Fn) (first cap : Array Value) (W : World), (Instr.makeFunc fn first cap).run Tryd.prog W = .ok (.func fn first cap) W := fun _ _ _ _ => rfl
  have hst : ∀ (p : Addr) (fn : Fn) (f cp : Array Value) (W : World), (store p (.func fn f cp)).run Tryd.prog W = stored Tryd.prog W p (.func fn f cp) .plain := fun p fn f cp W => run_store _ _ _ _ _ rfl
  go_enter Tryd.func75, Tryd.ntmps75
  go_wp2_with (first
    | (go_at_call 95; refine (worthFrom_any a ts.length c ts _ (HT.out.below hB4) h14 hgl).mono ?_; rintro e w1 ⟨rfl, ⟨cs, hcs, hfr, hrow⟩, hb1⟩; have y0 : ∀ o1 : Obj, ((w1.alloc o1).alloc (.cells #[.nilFunc] 125)).cell? ⟨w1.heap.size + 1, 0, none⟩ = some .nilFunc := (fun o1 => by simp); have y1 : ∀ o1 : Obj, ((w1.alloc o1).alloc (.cells #[.nilFunc] 125)).frozen? ⟨w1.heap.size + 1, 0, none⟩ = false := (fun o1 => by simp); have hz4 : (((((w.alloc (.cells #[.slice a ts.length c] 25)).alloc (.cells #[.int .i64 gap] 3)).alloc (.cells #[.slice none 0 0] 30)).alloc (.cells #[.int .i64 0] 3))).heap.size = w.heap.size + 1 + 1 + 1 + 1 := (by simp); have HSRC := Lib.hid (start_any a c ts gap w w1 cs HT.out h14 hok hgl hgap hfr (by rw [hz4] at hrow; exact hrow) (by rw [hz4] at hb1; exact hb1)); clear hb1 hrow hz4)
    | (go_at_call 96; refine HSRC.out.mono ?_; rintro e w2 ⟨rfl, a', c', x1, x2, x3, x4⟩; have y2 := x1.cell; have y3 := x2.cell; have y4 := x1.frozen; have y5 := x2.frozen))
  clear y2 y3 y4 y5 HSRC hmf hst y0 y1 t0 hB4
  obtain ⟨k, hk⟩ : ∃ k, k = (bestOf ts gap).1.length := ⟨_, rfl⟩
  rw [← hk] at x1
  have hst : ∀ W : World, W.ownsRow (w.heap.size + 1 + 1 + 1 + 1) 3 1 (.slice a' (bestOf ts gap).1.length c') (bestOf ts gap).1.length ((bestOf ts gap).1.map fun i : Nat => Value.int .i64 (i : Int)) → ∀ (p : Addr) (u : Value), p.block < w.heap.size + 1 + 1 + 1 + 1 → (W.setCell p u).ownsRow (w.heap.size + 1 + 1 + 1 + 1) 3 1 (.slice a' (bestOf ts gap).1.length c') (bestOf ts gap).1.length ((bestOf ts gap).1.map fun i : Nat => Value.int .i64 (i : Int)) :=
    fun W h p u hp => ownsRow_keep h fun j hj => Below.heap_setCell _ _ _ j (by have := (ownsRow_lt h hj).2; omega)
  have HST := Lib.hid hst
  clear hst
  obtain ⟨m, hm⟩ : ∃ m, m = (bestOf ts gap).2 := ⟨_, rfl⟩
  rw [← hm] at x2
  have HKK := Lib.hid hk
  have HMM := Lib.hid hm
  clear hk hm
  refine region_seq (fun W => Boxed W (w.heap.size + 1 + 1) 30 (.slice a' k c') ∧ Boxed W (w.heap.size + 1 + 1 + 1) 3 (.int .i64 m) ∧ W.ownsRow (w.heap.size + 1 + 1 + 1 + 1) 3 1 (.slice a' (bestOf ts gap).1.length c') (bestOf ts gap).1.length ((bestOf ts gap).1.map fun i : Nat => Value.int .i64 (i : Int)) ∧ Below w.heap.size w W) [(0, true), (1, true), (2, false), (3, false)]
    (by kernel_rfl) (by kernel_rfl) (by kernel_rfl) (by simp) (fun _ _ _ _ h => h) ⟨x1, x2, ownsRow_keep x3 fun _ _ => rfl, x4.drew⟩ ?_
  iterate 2 (refine SeqW.take (v := ?_) rfl (by rfl) (fun W' hW => ?_) ?_; rotate_left; (have g1 := hW.1.cell; have g2 := hW.2.1.cell; clear hW; go_simp; with_reducible rfl); simp only [Act.put, List.setIfInBounds_toArray, List.set_cons_zero, List.set_cons_succ])
  have g1 : w2.drew.cell? ⟨w.heap.size + 1 + 1, 0, none⟩ = some (.slice a' k c') := x1.cell
  have g2 : w2.drew.frozen? ⟨w.heap.size + 1 + 1, 0, none⟩ = false := x1.frozen
  have z1 : Boxed (w2.setCell ⟨w.heap.size + 1 + 1, 0, none⟩ (.slice a' k c')) (w.heap.size + 1 + 1) 30 (.slice a' k c') := Boxed.set _ x1
  have z2 : Boxed (w2.setCell ⟨w.heap.size + 1 + 1, 0, none⟩ (.slice a' k c')) (w.heap.size + 1 + 1 + 1) 3 (.int .i64 m) := x2.other (by omega) _
  have z3 := HST.out w2 x3 ⟨w.heap.size + 1 + 1, 0, none⟩ (.slice a' k c') (by dsimp only; omega)
  have z4 := x4.setCell (p := ⟨w.heap.size + 1 + 1, 0, none⟩) (by dsimp only; omega) (.slice a' k c')
  clear x1 x2 x3 x4
  refine SeqW.call rfl (by rfl) (fun K hK => ?_); go_simp
  refine hK.out _ _ ⟨z1, z2, ownsRow_keep z3 fun _ _ => rfl, z4.drew⟩ ?_
  clear hK K g1 g2
  have g1 := z2.cell
  have g2 := z2.frozen
  have u1 := z1.other (B' := w.heap.size + 1 + 1 + 1) (by omega) (.int .i64 m)
  have u2 := Boxed.set (.int .i64 m) z2
  have u3 := HST.out _ z3 ⟨w.heap.size + 1 + 1 + 1, 0, none⟩ (.int .i64 m) (by dsimp only; omega)
  have u4 := z4.setCell (p := ⟨w.heap.size + 1 + 1 + 1, 0, none⟩) (by dsimp only; omega) (.int .i64 m)
  clear z1 z2 z3 z4
  refine SeqW.call rfl (by rfl) (fun K hK => ?_); go_simp
  refine hK.out _ _ ⟨u1, u2, ownsRow_keep u3 fun _ _ => rfl, u4.drew⟩ ?_
  clear hK K g1 g2
  refine SeqW.done ?_
  have r0 := u1.cell
  have r1 := u2.cell
  go_wp2_with fail
  refine bodyPost_ret (v := .tuple #[.slice a' k c', .int .i64 m]) (by simp [results, Tryd.results75, go_sem, r0, r1]) rfl ⟨.slice a' k c', by rw [HMM.out], ?_, u4.drew⟩
  have u5 := ownsRow_base (ownsRow_keep u3 (W' := (((w2.setCell ⟨w.heap.size + 1 + 1, 0, none⟩ (.slice a' k c')).setCell ⟨w.heap.size + 1 + 1 + 1, 0, none⟩ (.int .i64 m))).drew) fun _ _ => rfl) (show w.heap.size ≤ w.heap.size + 1 + 1 + 1 + 1 by omega)
  rw [← HKK.out] at u5 ⊢
  exact u5
end Go.Proofs.YtpkjjiieglebbaaDoor
