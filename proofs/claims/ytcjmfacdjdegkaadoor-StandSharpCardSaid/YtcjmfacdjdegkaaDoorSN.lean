/- Contracts of package stand's reader: span and tag. Conditions: a text that fits into memory. -/
import Derived.Test.YtcjmfacdjdegkaaDoorSP
namespace Go.Proofs.YtcjmfacdjdegkaaDoor
open Go Go.RowKit
theorem spanL_some {l l3 : List UInt8} {a b : Int} (h : spanL l = some ((a, b), l3)) : ∃ l1 l2, numL l = some (a, l1) ∧ expL [32] l1 = some l2 ∧ numL l2 = some (b, l3) := by
  unfold spanL at h
  rcases e1 : numL l with _ | ⟨a', l1⟩
  · rw [e1] at h; cases h
  · rw [e1] at h
    simp only [Option.bind_some] at h
    rcases e2 : expL [32] l1 with _ | l2
    · rw [e2] at h; cases h
    · rw [e2] at h
      simp only [Option.bind_some] at h
      rcases e3 : numL l2 with _ | ⟨b', l3'⟩
      · rw [e3] at h; cases h
      · rw [e3] at h
        simp only [Option.bind_some, Option.some.injEq, Prod.mk.injEq] at h
        obtain ⟨⟨rfl, rfl⟩, rfl⟩ := h
        exact ⟨l1, l2, rfl, e2, e3⟩
theorem spanL_none {l : List UInt8} (h : spanL l = none) : numL l = none ∨ (∃ a l1, numL l = some (a, l1) ∧ (expL [32] l1 = none ∨ ∃ l2, expL [32] l1 = some l2 ∧ numL l2 = none)) := by
  unfold spanL at h
  rcases e1 : numL l with _ | ⟨a', l1⟩
  · exact .inl rfl
  · rw [e1] at h
    simp only [Option.bind_some] at h
    refine .inr ⟨a', l1, rfl, ?_⟩
    rcases e2 : expL [32] l1 with _ | l2
    · exact .inl rfl
    · rw [e2] at h
      simp only [Option.bind_some] at h
      refine .inr ⟨l2, rfl, ?_⟩
      rcases e3 : numL l2 with _ | ⟨b', l3'⟩
      · rfl
      · rw [e3] at h; cases h
theorem Rd.alloc {Br : Nat} {w W : World} {o : Obj} {l : List UInt8} (h : Rd Br (w.alloc o) W l) (hlt : Br < w.heap.size) : Rd Br w W l :=
  ⟨h.box, ((Below.refl Br w).alloc (Nat.le_of_lt hlt) o).trans h.bel, fun x hx hn => (h.old x (by simp; omega) hn).trans (Below.heap_alloc w o x hx)⟩
theorem Rd.new {Br : Nat} {w W : World} {l : List UInt8} (h : Rd Br w W l) (hlt : Br < w.heap.size) (q : Nat) (i : Nat) (hq : w.heap.size ≤ q) (v : Value) : Rd Br w (W.setCell ⟨q, i, none⟩ v) l := by
  obtain ⟨s, hb, hl, hs⟩ := h.box
  have ho : ∀ x, x < w.heap.size → (W.setCell ⟨q, i, none⟩ v).heap[x]? = W.heap[x]? := fun x hx => Below.heap_setCell _ _ _ x (by show x ≠ q; omega)
  exact ⟨⟨s, boxed_of hb (ho Br hlt), hl, hs⟩, h.bel.setCell (by show Br ≤ q; omega) v, fun x hx hn => (ho x hx).trans (h.old x hx hn)⟩
set_option maxRecDepth 100000 in
set_option maxHeartbeats 1000000 in
theorem span_rd {s : ByteArray} {a b : Int} {l : List UInt8} (Br : Nat) (w : World) (hs : s.size ≤ 65536) (hb : Boxed w Br 135 (.string s)) (h : spanL s.data.toList = some ((a, b), l)) :
    Calls Tryd.prog 104 #[.pointer (some ⟨Br, 0, none⟩)] w fun e w' => e = .returned (.agg #[.int .i64 a, .int .i64 b]) ∧ Rd Br w w' l := by
  obtain ⟨l1, l2, h1, h2, h3⟩ := spanL_some h
  have HB := Lib.hid (hb.alloc (.cells #[.int .i64 0, .int .i64 0] 27))
  have HB0 := Lib.hid hb
  have H1 := Lib.hid h1
  have hlt := hb.lt
  clear h h1 hb
  go_enter Tryd.func104, Tryd.ntmps104
  go_wp2_with (first
    | (go_at_call 103; refine (number_rd Br _ hs HB.out H1.out).mono ?_; rintro e w1 ⟨rfl, r1⟩; obtain ⟨s1, x1, y1, z1⟩ := r1.box; have R1 := Lib.hid r1; have X1 := Lib.hid x1; clear r1 x1)
    | (go_at_call 102; refine (expect_rd (p := ⟨#[32]⟩) (l := l2) Br _ z1 X1.out (by rw [y1]; exact h2)).mono ?_; rintro e w2 ⟨rfl, r2⟩; obtain ⟨s2, x2, y2, z2⟩ := r2.box; have R2 := Lib.hid r2; have X2 := Lib.hid x2; clear r2 x2)
    | (go_at_call 103; refine (number_rd Br _ z2 X2.out (by rw [y2]; exact h3)).mono ?_; rintro e w3 ⟨rfl, r3⟩; have R3 := Lib.hid ((R1.out.trans R2.out).trans r3); clear r3;
        have k0 : Box w3 w.heap.size #[.int .i64 0, .int .i64 0] 27 := (R3.out.old _ (by simp) (by omega)).trans (Box.new w _ _); have q0 : w3.cell? ⟨w.heap.size, 0, none⟩ = some (.int .i64 0) := k0.cell 0; have q1 : w3.cell? ⟨w.heap.size, 1, none⟩ = some (.int .i64 0) := k0.cell 1; have q2 : w3.frozen? ⟨w.heap.size, 0, none⟩ = false := k0.free 0; have q3 : w3.frozen? ⟨w.heap.size, 1, none⟩ = false := k0.free 1; have K0 := Lib.hid k0; clear k0))
  have bR2 := (K0.out.set 0 (.int .i64 a)).set 1 (.int .i64 b)
  have r0 := bR2.cell 0
  have r1 := bR2.cell 1
  simp at r0 r1
  exact bodyPost_ret (v := .agg #[.int .i64 a, .int .i64 b]) (by simp [results, Tryd.results104, go_sem, r0, r1]) rfl ⟨rfl, ((R3.out.alloc hlt).new hlt _ _ (Nat.le_refl _) _).new hlt _ _ (Nat.le_refl _) _⟩
set_option maxRecDepth 100000 in
set_option maxHeartbeats 1000000 in
theorem span_er {s : ByteArray} (Br : Nat) (w : World) (hs : s.size ≤ 65536) (hb : Boxed w Br 135 (.string s)) (h : spanL s.data.toList = none) :
    Calls Tryd.prog 104 #[.pointer (some ⟨Br, 0, none⟩)] w fun e w' => e = errV ∧ Below Br w w' := by
  have HB := Lib.hid (hb.alloc (.cells #[.int .i64 0, .int .i64 0] 27))
  have hlt := hb.lt
  have HA := Lib.hid ((Below.refl Br w).alloc (Nat.le_of_lt hlt) (.cells #[.int .i64 0, .int .i64 0] 27))
  rcases spanL_none h with h1 | ⟨a, l1, h1, h2 | ⟨l2, h2, h3⟩⟩
  all_goals
    have H1 := Lib.hid h1
    clear h h1 hb
    go_enter Tryd.func104, Tryd.ntmps104
    go_wp2_with (first
      | (go_at_call 103; refine (number_rd Br _ hs HB.out H1.out).mono ?_; rintro e w1 ⟨rfl, r1⟩; obtain ⟨s1, x1, y1, z1⟩ := r1.box; have R1 := Lib.hid r1; have X1 := Lib.hid x1; clear r1 x1)
      | (go_at_call 103; refine (number_er Br _ hs HB.out H1.out).mono ?_; rintro e w1 ⟨rfl, r1⟩; have RE := Lib.hid (HA.out.trans r1); clear r1; unfold errV)
      | (go_at_call 102; refine (expect_rd (p := ⟨#[32]⟩) (l := l2) Br _ z1 X1.out (by rw [y1]; exact h2)).mono ?_; rintro e w2 ⟨rfl, r2⟩; obtain ⟨s2, x2, y2, z2⟩ := r2.box; have R2 := Lib.hid r2; have X2 := Lib.hid x2; clear r2 x2)
      | (go_at_call 102; refine (expect_er (p := ⟨#[32]⟩) Br _ X1.out (by rw [y1]; exact h2)).mono ?_; rintro e w2 ⟨rfl, r2⟩; have RE := Lib.hid ((HA.out.trans R1.out.bel).trans r2); clear r2; unfold errV)
      | (go_at_call 103; refine (number_er Br _ z2 X2.out (by rw [y2]; exact h3)).mono ?_; rintro e w3 ⟨rfl, r3⟩; have RE := Lib.hid (((HA.out.trans R1.out.bel).trans R2.out.bel).trans r3); clear r3; unfold errV))
    exact ⟨rfl, rfl, RE.out⟩
end Go.Proofs.YtcjmfacdjdegkaaDoor
