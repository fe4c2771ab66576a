/- Contract of package stand's Parse where the text has the form. Condition: a text of at most 65536 bytes. -/
import Derived.Test.YtpkjjiieglebbaaDoorRS
import Derived.Recover
import Derived.Defers
namespace Go.Proofs.YtpkjjiieglebbaaDoor
open Go Go.RowKit
theorem treeCells_at : ∀ {ts : List Tree} {i : Nat} {t : Tree}, ts[i]? = some t → ∀ k, k < 6 → (treeCells ts)[i * 6 + k]? = ([.string t.tag, .int .i64 t.x, .int .i64 t.y, .int .i64 t.gl, .int .i64 t.gh, .int .i64 t.cr] : List Value)[k]?
  | [], _, _, h, _, _ => by cases h
  | u :: r, 0, t, h, k, hk => by
    simp only [List.getElem?_cons_zero, Option.some.injEq] at h
    subst h
    rw [treeCells, List.flatMap_cons, List.getElem?_append_left (by simp; omega)]
    simp
  | u :: r, i + 1, t, h, k, hk => by
    simp only [List.getElem?_cons_succ] at h
    have ih := treeCells_at h k hk
    rw [treeCells, List.flatMap_cons, List.getElem?_append_right (by simp; omega)]
    rw [show (i + 1) * 6 + k - ([.string u.tag, .int .i64 u.x, .int .i64 u.y, .int .i64 u.gl, .int .i64 u.gh, .int .i64 u.cr] : List Value).length = i * 6 + k by simp; omega]
    exact ih
theorem trees_of_row {w : World} {base n c : Nat} {a : Option Addr} {ts : List Tree} (h : w.ownsRow base 62 6 (.slice a n c) ts.length (treeCells ts)) (hn : n = ts.length) (ht : ∀ t ∈ ts, t.tag.size ≤ maxLen) (hl : ts.length ≤ 1000000) : Trees w a n c ts := by
  subst hn
  refine ⟨rfl, ?_, ht, by omega, ?_⟩
  · rcases h.2 with ⟨h1, h2⟩ | ⟨g, cap, cur, h1, h2, h3, h4, h5, h6, h7⟩
    · left; exact List.eq_nil_of_length_eq_zero h2
    · right
      simp only [Value.slice.injEq] at h1
      obtain ⟨rfl, _, rfl⟩ := h1
      refine ⟨g, 0, rfl, lt_of_block h3, fun i t hi => ?_⟩
      have hil : i < ts.length := (List.getElem?_eq_some_iff.1 hi).1
      have cell : ∀ k, k < 6 → w.cell? ⟨g, 0 + i * 6 + k, none⟩ = ([.string t.tag, .int .i64 t.x, .int .i64 t.y, .int .i64 t.gl, .int .i64 t.gh, .int .i64 t.cr] : List Value)[k]? := fun k hk => by
        rw [← treeCells_at hi k hk, ← h7, List.getElem?_take, if_pos (by omega), Nat.zero_add]
        simp [World.cell?, h3]
      exact ⟨cell 0 (by omega), cell 1 (by omega), cell 2 (by omega), cell 3 (by omega), cell 4 (by omega), cell 5 (by omega)⟩
  · rcases h.2 with ⟨h1, h2⟩ | ⟨g, cap, cur, h1, h2, h3, h4, h5, h6, h7⟩
    · omega
    · simp only [Value.slice.injEq] at h1
      obtain ⟨_, _, rfl⟩ := h1
      exact h4
theorem catch_idle (p q : Addr) (w : World) :
    CallsD Tryd.prog 86 #[.pointer (some p), .pointer (some q)] .returning w fun e u' w' => e = .returned (.tuple #[]) ∧ u' = .returning ∧ w' = w := by
  refine callsD_of_wpS Tryd.func86 rfl fun c₀ cs hu => ?_
  apply wpS_seq
  apply wpS_region
  simp [wpOpsS, go_sem, recoverD, hu, Tryd.ntmps86, Exit.thenS]
  refine wpS_cond (t := false) (by simp [Act.eval, Array.replicate]) ?_
  simp only [Bool.false_eq_true, if_false]
  refine wpS_of_wp (wp_skip ?_)
  cases c₀
  simp_all [bodyPostS, results, Tryd.results86]
theorem readL_tags {l : List UInt8} {S : Stand} (h : readL l = some S) : ∀ t ∈ S.ts, t.tag.size ≤ l.length := by
  obtain ⟨ts, lo, hi, pr, ne, L1, L2, L3, L4, L5, L6, L7, rfl, h1, h2, h3, h4, h5, h6, h7, h8⟩ := readL_some h
  intro t ht
  have := treesL_tags h8 t ht
  have := expL_len h1; have := spanL_len h2; have := expL_len h3; have := numL_len h4; have := expL_len h5; have := numL_len h6; have := expL_len h7
  omega
theorem ownsRow_below {W W' : World} {b : Nat} {e : TypeId} {size : Nat} {v : Value} {k : Nat} {xs : List Value} (h : W.ownsRow b e size v k xs) {n : Nat} (hb : Below n W W') (hn : W.heap.size ≤ n) : W'.ownsRow b e size v k xs := by
  refine ⟨h.1, ?_⟩
  rcases h.2 with h0 | ⟨g, cap, cur, e1, h2, h3, h4⟩
  · exact .inl h0
  · exact .inr ⟨g, cap, cur, e1, h2, (hb.block g (by have := lt_of_block h3; omega)).trans h3, h4⟩
set_option maxRecDepth 100000 in
set_option maxHeartbeats 4000000 in
theorem parse_ok {s : ByteArray} {S : Stand} (w : World) (hs : s.size ≤ 65536) (h : readL s.data.toList = some S) (hS : standB S = true) :
    Calls Tryd.prog 41 #[.string s] w fun e w' => ∃ v, e = .returned (.tuple #[.agg #[v, .int .i64 S.lo, .int .i64 S.hi, .int .i64 S.press, .int .i64 S.near], .int .i64 0]) ∧ w'.ownsRow w.heap.size 62 6 v S.ts.length (treeCells S.ts) ∧ Below w.heap.size w w' := by
  have hmf : ∀ (fn : Fn) (first cap : Array Value) (w : World), (Instr.makeFunc fn first cap).run Tryd.prog w = .ok (.func fn first cap) w := fun _ _ _ _ => rfl
  have hC : Hid (checkE S = 0) := Lib.hid (by unfold checkE; rw [hS]; rfl)
  have HT : Hid (∀ t ∈ S.ts, t.tag.size ≤ maxLen) := Lib.hid fun t ht => by have := readL_tags h t ht; rw [size_len] at this; exact fits_of (by omega)
  have D0 := Lib.hid ((Box.new w #[.slice none 0 0, .int .i64 0, .int .i64 0, .int .i64 0, .int .i64 0] 29).alloc (.cells #[.int .i64 0] 31))
  have e0 := Box.new (w.alloc (.cells #[.slice none 0 0, .int .i64 0, .int .i64 0, .int .i64 0, .int .i64 0] 29)) #[.int .i64 0] 31
  rw [World.size_alloc] at e0
  have E0 := Lib.hid e0
  have B0 := Lib.hid (((Below.refl w.heap.size w).alloc (Nat.le_refl _) (.cells #[.slice none 0 0, .int .i64 0, .int .i64 0, .int .i64 0, .int .i64 0] 29)).alloc (by simp) (.cells #[.int .i64 0] 31))
  clear e0
  go_enter_defers Tryd.func41, Tryd.ntmps41
  go_wp2_with (first | (go_at_call 20; refine (check_any va S.ts.length vc S.ts S.lo S.hi S.press S.near (put5 w1 w.heap.size (.slice va S.ts.length vc) (.int .i64 S.lo) (.int .i64 S.hi) (.int .i64 S.press) (.int .i64 S.near)) (trees_of_row HO.out rfl HT.out (by omega))).mono ?_; rintro e w2 ⟨rfl, hb2⟩; rw [hC.out]; have z2 := hb2.size; rw [hzp] at hb2 z2; have D2 := HD.out.below hb2 (by omega); have E2 := HE.out.below hb2 (by omega); have b0 : w2.cell? ⟨w.heap.size, 0, none⟩ = some (.slice va S.ts.length vc) := D2.cell 0; have b1 : w2.cell? ⟨w.heap.size, 1, none⟩ = some (.int .i64 S.lo) := D2.cell 1; have b2 : w2.cell? ⟨w.heap.size, 2, none⟩ = some (.int .i64 S.hi) := D2.cell 2; have b3 : w2.cell? ⟨w.heap.size, 3, none⟩ = some (.int .i64 S.press) := D2.cell 3; have b4 : w2.cell? ⟨w.heap.size, 4, none⟩ = some (.int .i64 S.near) := D2.cell 4; have g0 : w2.frozen? ⟨w.heap.size, 0, none⟩ = false := D2.free 0; have g1 : w2.frozen? ⟨w.heap.size, 1, none⟩ = false := D2.free 1; have g2 : w2.frozen? ⟨w.heap.size, 2, none⟩ = false := D2.free 2; have g3 : w2.frozen? ⟨w.heap.size, 3, none⟩ = false := D2.free 3; have g4 : w2.frozen? ⟨w.heap.size, 4, none⟩ = false := D2.free 4; have x0 : w2.cell? ⟨w.heap.size + 1, 0, none⟩ = some (.int .i64 0) := E2.cell 0; have x1 : w2.frozen? ⟨w.heap.size + 1, 0, none⟩ = false := E2.free 0; have HO2 := Lib.hid (ownsRow_below HO.out hb2 (Nat.le_of_eq hzp)); have HB2 := Lib.hid (HB.out.trans (hb2.mono (by omega))); have HD2 := Lib.hid D2; have HE2 := Lib.hid E2; clear D2 E2 hb2) | (go_at_call 87; refine (readStand_rd _ hs h).mono ?_; rintro e w1 ⟨v, rfl, ho, hln, hb⟩; obtain ⟨va, vc, rfl⟩ := row_form ho; have z1 := hb.size; have hz1 : (((w.alloc (.cells #[.slice none 0 0, .int .i64 0, .int .i64 0, .int .i64 0, .int .i64 0] 29)).alloc (.cells #[.int .i64 0] 31))).heap.size = w.heap.size + 1 + 1 := (by simp); rw [hz1] at hb ho z1; have D1 := D0.out.below hb (by omega); have E1 := E0.out.below hb (by omega); have d0 : w1.cell? ⟨w.heap.size, 0, none⟩ = some (.slice none 0 0) := D1.cell 0; have d1 : w1.cell? ⟨w.heap.size, 1, none⟩ = some (.int .i64 0) := D1.cell 1; have d2 : w1.cell? ⟨w.heap.size, 2, none⟩ = some (.int .i64 0) := D1.cell 2; have d3 : w1.cell? ⟨w.heap.size, 3, none⟩ = some (.int .i64 0) := D1.cell 3; have d4 : w1.cell? ⟨w.heap.size, 4, none⟩ = some (.int .i64 0) := D1.cell 4; have q0 : w1.frozen? ⟨w.heap.size, 0, none⟩ = false := D1.free 0; have q1 : w1.frozen? ⟨w.heap.size, 1, none⟩ = false := D1.free 1; have q2 : w1.frozen? ⟨w.heap.size, 2, none⟩ = false := D1.free 2; have q3 : w1.frozen? ⟨w.heap.size, 3, none⟩ = false := D1.free 3; have q4 : w1.frozen? ⟨w.heap.size, 4, none⟩ = false := D1.free 4; have HD := Lib.hid (put5.box D1 (.slice va S.ts.length vc) (.int .i64 S.lo) (.int .i64 S.hi) (.int .i64 S.press) (.int .i64 S.near)); have HE := Lib.hid (put5.other E1 (B := w.heap.size) (by omega) (.slice va S.ts.length vc) (.int .i64 S.lo) (.int .i64 S.hi) (.int .i64 S.press) (.int .i64 S.near)); have HO := Lib.hid (ownsRow_put5 ho (B := w.heap.size) (by omega) (.slice va S.ts.length vc) (.int .i64 S.lo) (.int .i64 S.hi) (.int .i64 S.press) (.int .i64 S.near)); have HB := Lib.hid (put5.below (B0.out.trans (hb.mono (by omega))) (Nat.le_refl _) (.slice va S.ts.length vc) (.int .i64 S.lo) (.int .i64 S.hi) (.int .i64 S.press) (.int .i64 S.near)); have hzp : (put5 w1 w.heap.size (.slice va S.ts.length vc) (.int .i64 S.lo) (.int .i64 S.hi) (.int .i64 S.press) (.int .i64 S.near)).heap.size = w1.heap.size := (by simp [put5]); clear ho hb D1 E1))
  refine leaves_cons (f := 86) (args := #[.pointer (some ⟨w.heap.size, 0, none⟩), .pointer (some ⟨w.heap.size + 1, 0, none⟩)]) (by simp) (by simp [go_sem]) ?_
  refine (catch_idle ⟨w.heap.size, 0, none⟩ ⟨w.heap.size + 1, 0, none⟩ _).mono ?_
  rintro e u' w'' ⟨rfl, rfl, rfl⟩
  have bR := (put5.box HD2.out (.slice va S.ts.length vc) (.int .i64 S.lo) (.int .i64 S.hi) (.int .i64 S.press) (.int .i64 S.near)).other (p := ⟨w.heap.size + 1, 0, none⟩) (by dsimp only; omega) (.int .i64 0)
  have eR := (put5.other HE2.out (B := w.heap.size) (by omega) (.slice va S.ts.length vc) (.int .i64 S.lo) (.int .i64 S.hi) (.int .i64 S.press) (.int .i64 S.near)).set 0 (.int .i64 0)
  have r0 := bR.cell 0; have r1 := bR.cell 1; have r2 := bR.cell 2; have r3 := bR.cell 3; have r4 := bR.cell 4; have r5 := eR.cell 0
  simp [put5] at r0 r1 r2 r3 r4 r5
  simp [Leaves, settle, results, Tryd.results41, go_sem, r0, r1, r2, r3, r4, r5]
  exact ⟨ownsRow_base (ownsRow_setCell (ownsRow_put5 HO2.out (B := w.heap.size) (by omega) _ _ _ _ _) (p := ⟨w.heap.size + 1, 0, none⟩) (by dsimp only; omega) _) (by omega), (put5.below HB2.out (Nat.le_refl _) _ _ _ _ _).setCell (by dsimp only; omega) _⟩
end Go.Proofs.YtpkjjiieglebbaaDoor
