/- Contract of package stand's Parse, whatever the text is. Condition: a text that fits into memory. -/
import Derived.Test.YtpkjjiieglebbaaDoorRX
namespace Go.Proofs.YtpkjjiieglebbaaDoor
open Go Go.RowKit
theorem catch_err (B D : Nat) (v0 v1 v2 v3 v4 d0 : Value) (w : World) (hB : Box w B #[v0, v1, v2, v3, v4] 29) (hD : Box w D #[d0] 31) (hne : B ≠ D) :
    CallsD Tryd.prog 86 #[.pointer (some ⟨B, 0, none⟩), .pointer (some ⟨D, 0, none⟩)] (.panicking [{ v := .iface 31 (.int .i64 5), recovered := false }]) w fun e u' w' =>
      e = .returned (.tuple #[]) ∧ u' = .panicking [{ v := .iface 31 (.int .i64 5), recovered := true }] ∧ w' = (put5 w B (.slice none 0 0) (.int .i64 0) (.int .i64 0) (.int .i64 0) (.int .i64 0)).setCell ⟨D, 0, none⟩ (.int .i64 5) := by
  have c0 : w.cell? ⟨B, 0, none⟩ = some v0 := hB.cell 0
  have c1 : w.cell? ⟨B, 1, none⟩ = some v1 := hB.cell 1
  have c2 : w.cell? ⟨B, 2, none⟩ = some v2 := hB.cell 2
  have c3 : w.cell? ⟨B, 3, none⟩ = some v3 := hB.cell 3
  have c4 : w.cell? ⟨B, 4, none⟩ = some v4 := hB.cell 4
  have q0 : w.frozen? ⟨B, 0, none⟩ = false := hB.free 0
  have q1 : w.frozen? ⟨B, 1, none⟩ = false := hB.free 1
  have q2 : w.frozen? ⟨B, 2, none⟩ = false := hB.free 2
  have q3 : w.frozen? ⟨B, 3, none⟩ = false := hB.free 3
  have q4 : w.frozen? ⟨B, 4, none⟩ = false := hB.free 4
  have x0 : w.cell? ⟨D, 0, none⟩ = some d0 := hD.cell 0
  have x1 : w.frozen? ⟨D, 0, none⟩ = false := hD.free 0
  have hne2 : D ≠ B := fun e => hne e.symm
  refine callsD_of_wpS Tryd.func86 rfl fun c₀ cs hu => ?_
  apply wpS_seq
  apply wpS_region
  simp [wpOpsS, go_sem, recoverD, hu, Tryd.ntmps86, Exit.thenS]
  refine wpS_cond (t := true) (by simp [Act.eval, Array.replicate]) ?_
  simp only [if_true]
  apply wpS_region
  simp [wpOpsS, go_sem, c0, c1, c2, c3, c4, q0, q1, q2, q3, q4, x0, x1, bodyPostS, results, Tryd.results86, put5]
set_option maxRecDepth 100000 in
set_option maxHeartbeats 4000000 in
theorem parse_big {s : ByteArray} (w : World) (hs : 65536 < s.size) :
    Calls Tryd.prog 41 #[.string s] w fun e w' => e = .returned (.tuple #[.agg #[.slice none 0 0, .int .i64 0, .int .i64 0, .int .i64 0, .int .i64 0], .int .i64 3]) ∧ Below w.heap.size w w' := by
  have hmf : ∀ (fn : Fn) (first cap : Array Value) (w : World), (Instr.makeFunc fn first cap).run Tryd.prog w = .ok (.func fn first cap) w := fun _ _ _ _ => rfl
  have hb2 : decide (65536 < s.size) = true := by rw [decide_eq_true_iff]; exact hs
  have hb3 : decide ((65536 : Int) < (s.size : Int)) = true := by rw [decide_eq_true_iff]; omega
  clear hs
  go_enter_defers Tryd.func41, Tryd.ntmps41
  go_wp2_with fail
  simp [bodyPostD, Leaves, results, Tryd.results41, go_sem]
  exact ((Below.refl w.heap.size w).alloc (Nat.le_refl _) _).alloc (by simp) _
set_option maxRecDepth 100000 in
set_option maxHeartbeats 4000000 in
theorem parse_bad {s : ByteArray} (w : World) (hs : s.size ≤ 65536) (h : readL s.data.toList = none) :
    Calls Tryd.prog 41 #[.string s] w fun e w' => e = .returned (.tuple #[.agg #[.slice none 0 0, .int .i64 0, .int .i64 0, .int .i64 0, .int .i64 0], .int .i64 5]) ∧ Below w.heap.size w w' := by
  have hmf : ∀ (fn : Fn) (first cap : Array Value) (w : World), (Instr.makeFunc fn first cap).run Tryd.prog w = .ok (.func fn first cap) w := fun _ _ _ _ => rfl
  have D0 := Lib.hid ((Box.new w #[.slice none 0 0, .int .i64 0, .int .i64 0, .int .i64 0, .int .i64 0] 29).alloc (.cells #[.int .i64 0] 31))
  have e0 := Box.new (w.alloc (.cells #[.slice none 0 0, .int .i64 0, .int .i64 0, .int .i64 0, .int .i64 0] 29)) #[.int .i64 0] 31
  rw [World.size_alloc] at e0
  have E0 := Lib.hid e0
  have B0 := Lib.hid (((Below.refl w.heap.size w).alloc (Nat.le_refl _) (.cells #[.slice none 0 0, .int .i64 0, .int .i64 0, .int .i64 0, .int .i64 0] 29)).alloc (by simp) (.cells #[.int .i64 0] 31))
  clear e0
  go_enter_defers Tryd.func41, Tryd.ntmps41
  go_wp2_with (go_at_call 87; refine (readStand_er _ hs h).mono ?_; rintro e w1 ⟨rfl, hb⟩; have hz1 : (((w.alloc (.cells #[.slice none 0 0, .int .i64 0, .int .i64 0, .int .i64 0, .int .i64 0] 29)).alloc (.cells #[.int .i64 0] 31))).heap.size = w.heap.size + 1 + 1 := (by simp); rw [hz1] at hb; have HB1 := Lib.hid hb; clear hb; unfold errV)
  have hb := HB1.out
  have D1 := D0.out.below hb (by omega)
  have E1 := E0.out.below hb (by omega)
  refine leaves_cons (f := 86) (args := #[.pointer (some ⟨w.heap.size, 0, none⟩), .pointer (some ⟨w.heap.size + 1, 0, none⟩)]) (by simp) (by simp [go_sem]) ?_
  refine (catch_err w.heap.size (w.heap.size + 1) _ _ _ _ _ _ _ D1 E1 (by omega)).mono ?_
  rintro e u' w'' ⟨rfl, rfl, rfl⟩
  have bR := (put5.box D1 (.slice none 0 0) (.int .i64 0) (.int .i64 0) (.int .i64 0) (.int .i64 0)).other (p := ⟨w.heap.size + 1, 0, none⟩) (by dsimp only; omega) (.int .i64 5)
  have eR := (put5.other E1 (B := w.heap.size) (by omega) (.slice none 0 0) (.int .i64 0) (.int .i64 0) (.int .i64 0) (.int .i64 0)).set 0 (.int .i64 5)
  have r0 := bR.cell 0; have r1 := bR.cell 1; have r2 := bR.cell 2; have r3 := bR.cell 3; have r4 := bR.cell 4; have r5 := eR.cell 0
  simp [put5] at r0 r1 r2 r3 r4 r5
  simp [Leaves, settle, results, Tryd.results41, go_sem, r0, r1, r2, r3, r4, r5, put5]
  exact (put5.below (B0.out.trans (hb.mono (by omega))) (Nat.le_refl _) _ _ _ _ _).setCell (by dsimp only; omega) _
set_option maxRecDepth 100000 in
set_option maxHeartbeats 4000000 in
theorem parse_wrong {s : ByteArray} {S : Stand} (w : World) (hs : s.size ≤ 65536) (h : readL s.data.toList = some S) (hS : standB S = false) :
    Calls Tryd.prog 41 #[.string s] w fun e w' => e = .returned (.tuple #[.agg #[.slice none 0 0, .int .i64 0, .int .i64 0, .int .i64 0, .int .i64 0], .int .i64 5]) ∧ Below w.heap.size w w' := by
  have hmf : ∀ (fn : Fn) (first cap : Array Value) (w : World), (Instr.makeFunc fn first cap).run Tryd.prog w = .ok (.func fn first cap) w := fun _ _ _ _ => rfl
  have hC : Hid (checkE S = 10) := Lib.hid (by unfold checkE; rw [hS]; rfl)
  have HT : Hid (∀ t ∈ S.ts, t.tag.size ≤ maxLen) := Lib.hid fun t ht => by have := readL_tags h t ht; rw [size_len] at this; exact fits_of (by omega)
  have D0 := Lib.hid ((Box.new w #[.slice none 0 0, .int .i64 0, .int .i64 0, .int .i64 0, .int .i64 0] 29).alloc (.cells #[.int .i64 0] 31))
  have e0 := Box.new (w.alloc (.cells #[.slice none 0 0, .int .i64 0, .int .i64 0, .int .i64 0, .int .i64 0] 29)) #[.int .i64 0] 31
  rw [World.size_alloc] at e0
  have E0 := Lib.hid e0
  have B0 := Lib.hid (((Below.refl w.heap.size w).alloc (Nat.le_refl _) (.cells #[.slice none 0 0, .int .i64 0, .int .i64 0, .int .i64 0, .int .i64 0] 29)).alloc (by simp) (.cells #[.int .i64 0] 31))
  clear e0
  go_enter_defers Tryd.func41, Tryd.ntmps41
  go_wp2_with (first | (go_at_call 20; refine (check_any va S.ts.length vc S.ts S.lo S.hi S.press S.near (put5 w1 w.heap.size (.slice va S.ts.length vc) (.int .i64 S.lo) (.int .i64 S.hi) (.int .i64 S.press) (.int .i64 S.near)) (trees_of_row HO.out rfl HT.out (by omega))).mono ?_; rintro e w2 ⟨rfl, hb2⟩; rw [hC.out]; have z2 := hb2.size; rw [hzp] at hb2 z2; have D2 := HD.out.below hb2 (by omega); have E2 := HE.out.below hb2 (by omega); have b0 : w2.cell? ⟨w.heap.size, 0, none⟩ = some (.slice va S.ts.length vc) := D2.cell 0; have b1 : w2.cell? ⟨w.heap.size, 1, none⟩ = some (.int .i64 S.lo) := D2.cell 1; have b2 : w2.cell? ⟨w.heap.size, 2, none⟩ = some (.int .i64 S.hi) := D2.cell 2; have b3 : w2.cell? ⟨w.heap.size, 3, none⟩ = some (.int .i64 S.press) := D2.cell 3; have b4 : w2.cell? ⟨w.heap.size, 4, none⟩ = some (.int .i64 S.near) := D2.cell 4; have g0 : w2.frozen? ⟨w.heap.size, 0, none⟩ = false := D2.free 0; have g1 : w2.frozen? ⟨w.heap.size, 1, none⟩ = false := D2.free 1; have g2 : w2.frozen? ⟨w.heap.size, 2, none⟩ = false := D2.free 2; have g3 : w2.frozen? ⟨w.heap.size, 3, none⟩ = false := D2.free 3; have g4 : w2.frozen? ⟨w.heap.size, 4, none⟩ = false := D2.free 4; have x0 : w2.cell? ⟨w.heap.size + 1, 0, none⟩ = some (.int .i64 0) := E2.cell 0; have x1 : w2.frozen? ⟨w.heap.size + 1, 0, none⟩ = false := E2.free 0; have HO2 := Lib.hid (ownsRow_below HO.out hb2 (Nat.le_of_eq hzp)); have HB2 := Lib.hid (HB.out.trans (hb2.mono (by omega))); have HD2 := Lib.hid D2; have HE2 := Lib.hid E2; clear D2 E2 hb2) | (go_at_call 87; refine (readStand_rd _ hs h).mono ?_; rintro e w1 ⟨v, rfl, ho, hln, hb⟩; obtain ⟨va, vc, rfl⟩ := row_form ho; have z1 := hb.size; have hz1 : (((w.alloc (.cells #[.slice none 0 0, .int .i64 0, .int .i64 0, .int .i64 0, .int .i64 0] 29)).alloc (.cells #[.int .i64 0] 31))).heap.size = w.heap.size + 1 + 1 := (by simp); rw [hz1] at hb ho z1; have D1 := D0.out.below hb (by omega); have E1 := E0.out.below hb (by omega); have d0 : w1.cell? ⟨w.heap.size, 0, none⟩ = some (.slice none 0 0) := D1.cell 0; have d1 : w1.cell? ⟨w.heap.size, 1, none⟩ = some (.int .i64 0) := D1.cell 1; have d2 : w1.cell? ⟨w.heap.size, 2, none⟩ = some (.int .i64 0) := D1.cell 2; have d3 : w1.cell? ⟨w.heap.size, 3, none⟩ = some (.int .i64 0) := D1.cell 3; have d4 : w1.cell? ⟨w.heap.size, 4, none⟩ = some (.int .i64 0) := D1.cell 4; have q0 : w1.frozen? ⟨w.heap.size, 0, none⟩ = false := D1.free 0; have q1 : w1.frozen? ⟨w.heap.size, 1, none⟩ = false := D1.free 1; have q2 : w1.frozen? ⟨w.heap.size, 2, none⟩ = false := D1.free 2; have q3 : w1.frozen? ⟨w.heap.size, 3, none⟩ = false := D1.free 3; have q4 : w1.frozen? ⟨w.heap.size, 4, none⟩ = false := D1.free 4; have HD := Lib.hid (put5.box D1 (.slice va S.ts.length vc) (.int .i64 S.lo) (.int .i64 S.hi) (.int .i64 S.press) (.int .i64 S.near)); have HE := Lib.hid (put5.other E1 (B := w.heap.size) (by omega) (.slice va S.ts.length vc) (.int .i64 S.lo) (.int .i64 S.hi) (.int .i64 S.press) (.int .i64 S.near)); have HO := Lib.hid (ownsRow_put5 ho (B := w.heap.size) (by omega) (.slice va S.ts.length vc) (.int .i64 S.lo) (.int .i64 S.hi) (.int .i64 S.press) (.int .i64 S.near)); have HB := Lib.hid (put5.below (B0.out.trans (hb.mono (by omega))) (Nat.le_refl _) (.slice va S.ts.length vc) (.int .i64 S.lo) (.int .i64 S.hi) (.int .i64 S.press) (.int .i64 S.near)); have hzp : (put5 w1 w.heap.size (.slice va S.ts.length vc) (.int .i64 S.lo) (.int .i64 S.hi) (.int .i64 S.press) (.int .i64 S.near)).heap.size = w1.heap.size := (by simp [put5]); clear ho hb D1 E1))
  refine leaves_cons (f := 86) (args := #[.pointer (some ⟨w.heap.size, 0, none⟩), .pointer (some ⟨w.heap.size + 1, 0, none⟩)]) (by simp) (by simp [go_sem]) ?_
  refine (catch_idle ⟨w.heap.size, 0, none⟩ ⟨w.heap.size + 1, 0, none⟩ _).mono ?_
  rintro e u' w'' ⟨rfl, rfl, rfl⟩
  have bR := (put5.box HD2.out (.slice none 0 0) (.int .i64 0) (.int .i64 0) (.int .i64 0) (.int .i64 0)).other (p := ⟨w.heap.size + 1, 0, none⟩) (by dsimp only; omega) (.int .i64 5)
  have eR := (put5.other HE2.out (B := w.heap.size) (by omega) (.slice none 0 0) (.int .i64 0) (.int .i64 0) (.int .i64 0) (.int .i64 0)).set 0 (.int .i64 5)
  have r0 := bR.cell 0; have r1 := bR.cell 1; have r2 := bR.cell 2; have r3 := bR.cell 3; have r4 := bR.cell 4; have r5 := eR.cell 0
  simp [put5] at r0 r1 r2 r3 r4 r5
  simp [Leaves, settle, results, Tryd.results41, go_sem, r0, r1, r2, r3, r4, r5]
  exact (put5.below HB2.out (Nat.le_refl _) _ _ _ _ _).setCell (by dsimp only; omega) _
/-- What Parse says. -/
def parseS (s : ByteArray) : Stand × Int :=
  if 65536 < s.size then (⟨[], 0, 0, 0, 0⟩, 3) else
    match readL s.data.toList with
    | some S => if standB S = true then (S, 0) else (⟨[], 0, 0, 0, 0⟩, 5)
    | none => (⟨[], 0, 0, 0, 0⟩, 5)
theorem trees_nil (w : World) : Trees w none 0 0 [] := ⟨rfl, .inl rfl, (fun _ h => by cases h), by omega, by omega⟩
theorem parse_any (s : ByteArray) (w : World) :
    Calls Tryd.prog 41 #[.string s] w fun e w' => ∃ a c, e = .returned (.tuple #[.agg #[.slice a (parseS s).1.ts.length c, .int .i64 (parseS s).1.lo, .int .i64 (parseS s).1.hi, .int .i64 (parseS s).1.press, .int .i64 (parseS s).1.near], .int .i64 (parseS s).2]) ∧ Trees w' a (parseS s).1.ts.length c (parseS s).1.ts ∧ Below w.heap.size w w' := by
  by_cases h1 : 65536 < s.size
  · have e : parseS s = (⟨[], 0, 0, 0, 0⟩, 3) := by unfold parseS; rw [if_pos h1]
    rw [e]
    refine (parse_big w h1).mono ?_
    rintro e w' ⟨rfl, hb⟩
    exact ⟨none, 0, rfl, trees_nil _, hb⟩
  · rcases h2 : readL s.data.toList with _ | S
    · have e : parseS s = (⟨[], 0, 0, 0, 0⟩, 5) := by unfold parseS; rw [if_neg h1, h2]
      rw [e]
      refine (parse_bad w (by omega) h2).mono ?_
      rintro e w' ⟨rfl, hb⟩
      exact ⟨none, 0, rfl, trees_nil _, hb⟩
    · rcases h3 : standB S with _ | _
      · have e : parseS s = (⟨[], 0, 0, 0, 0⟩, 5) := by unfold parseS; rw [if_neg h1, h2]; dsimp only; rw [if_neg (by rw [h3]; simp)]
        rw [e]
        refine (parse_wrong w (by omega) h2 h3).mono ?_
        rintro e w' ⟨rfl, hb⟩
        exact ⟨none, 0, rfl, trees_nil _, hb⟩
      · have e : parseS s = (S, 0) := by unfold parseS; rw [if_neg h1, h2]; dsimp only; rw [if_pos h3]
        rw [e]
        have ht := readL_tags h2
        have hl : S.ts.length ≤ 14 := (valid_of (show checkE S = 0 by unfold checkE; rw [if_pos h3])).2.1
        refine (parse_ok w (by omega) h2 h3).mono ?_
        rintro e w' ⟨v, rfl, ho, hb⟩
        obtain ⟨a, c, rfl⟩ := row_form ho
        exact ⟨a, c, rfl, trees_of_row ho rfl (fun t h => by have := ht t h; rw [size_len] at this; exact fits_of (by omega)) (by show S.ts.length ≤ 1000000; omega), hb⟩
end Go.Proofs.YtpkjjiieglebbaaDoor
