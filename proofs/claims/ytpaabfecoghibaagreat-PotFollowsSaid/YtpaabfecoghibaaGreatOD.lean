/- From the reading of a plan to rounds in memory: slices in slices; those without elements may lie wherever they do. Conditions: none beyond the reading. -/
import Derived.Test.YtpaabfecoghibaaGreatOC
namespace Go.Proofs.YtpaabfecoghibaaGreat
open Go Go.RowKit Go.ChangeShapes Go.WideShapes Go.ChangeAt Go.Deep
set_option linter.unusedSimpArgs false
set_option linter.unusedVariables false
section
variable {H : Type} {encH : TypeId × Value → H} {w : World} {base : Nat} {sp : Nat → Bool} {held : Bool}
set_option maxRecDepth 100000 in
theorem op_round {v : Value} {fuel : Nat} {x : DataW H × List MemPlace} (h : DataW.trod encH Tryz.prog w base sp held fuel 37 [v] = some x) : ∃ r : Rd, canV v = some (.slice r.a r.n r.c) ∧ Ints (canF w) r.a r.n r.c r.l := by
  rcases open_slice1 Tryz.underlying37 cInt h with ⟨e, _⟩ | ⟨a, len, cap, m, n, V, D, Pl, e, _, hlc, hcm, hm, _, hel⟩
  · simp only [List.cons.injEq, and_true] at e
    subst e
    exact ⟨⟨none, 0, 0, []⟩, rfl, Sl.nil⟩
  · simp only [List.cons.injEq, and_true] at e
    subst e
    have hle : len ≤ m := by rw [hm]; split <;> omega
    obtain ⟨b, off, spot⟩ := a
    rcases Nat.eq_zero_or_pos len with rfl | hpos
    · cases spot with
      | none => exact ⟨⟨some ⟨b, off, none⟩, 0, cap, []⟩, rfl, ⟨rfl, rfl, Nat.zero_le _, Nat.zero_le _, fun i x hx => by simp at hx⟩⟩
      | some s => exact ⟨⟨some ⟨0, 0, some 2⟩, 0, 0, []⟩, rfl, ⟨rfl, rfl, Nat.le_refl _, Nat.zero_le _, fun i x hx => by simp at hx⟩⟩
    · obtain rfl : spot = none := World.cell?_spot (hel 0 (by omega)).1
      have each : ∀ i, i < len → ∃ t : Int, w.cell? ⟨b, off + i, none⟩ = some (.int .i64 t) := fun i hi => by
        obtain ⟨h1, h2⟩ := hel i (by omega)
        obtain ⟨t, ht⟩ := op_int h2
        simp only [List.cons.injEq, and_true] at ht
        rw [Addr.add_lit, ht] at h1
        exact ⟨t, h1⟩
      obtain ⟨F, hF⟩ : ∃ F : Nat → Int, ∀ i, i < len → w.cell? ⟨b, off + i, none⟩ = some (.int .i64 (F i)) :=
        ⟨fun i => if h : i < len then Classical.choose (each i h) else 0, fun i h => by dsimp only; rw [dif_pos h]; exact Classical.choose_spec (each i h)⟩
      refine ⟨⟨some ⟨b, off, none⟩, len, cap, (List.range len).map F⟩, rfl, rfl, by simp, hlc, by dsimp only; unfold maxLen at hcm; omega, fun i x hx => ⟨b, off, rfl, ?_⟩⟩
      obtain ⟨hil, rfl⟩ : i < len ∧ x = F i := by
        rw [List.getElem?_map] at hx
        by_cases hi : i < len
        · simp [List.getElem?_range hi] at hx; exact ⟨hi, hx.symm⟩
        · simp [hi] at hx
      intro j v hv
      cases j with
      | zero =>
        simp only [List.getElem?_cons_zero, Option.some.injEq] at hv
        subst hv
        rw [Nat.mul_one, Nat.add_zero]
        exact canF_gr (hF i hil) rfl
      | succ j => simp at hv
set_option maxRecDepth 100000 in
theorem op_plan {r : Reach} {b0 : Nat} {v : Value} {d : DataW H} {p : List MemPlace} (hval : Value.okWide Tryz.prog w r b0 40 v) (h : DataW.Trod encH Tryz.prog w base sp held 40 v d p) :
    ∃ a n c rs, v = .slice a n c ∧ Rds (canF w) a n c rs := by
  obtain ⟨a0, n0, c0, rfl⟩ := okWide_slice Tryz.underlying40 hval
  obtain ⟨fuel, hf⟩ := h
  have hval : Cell.okWide Tryz.prog w r b0 40 (.slice a0 n0 c0) := by simpa only [Value.okWide, Tryz.underlying40] using hval
  rcases open_slice1 Tryz.underlying40 cInts hf with ⟨e, _⟩ | ⟨a, len, cap, m, n, V, D, Pl, e, _, hlc, hcm, hm, _, hel⟩
  · simp only [Value.cells, List.cons.injEq, and_true] at e
    refine ⟨none, 0, 0, [], e, Sl.nil, fun r hr => by cases hr⟩
  · simp only [Value.cells, List.cons.injEq, and_true, Value.slice.injEq] at e
    obtain ⟨rfl, rfl, rfl⟩ := e
    have hspot : a.spot = none := by
      simp only [Cell.okWide, Tryz.underlying40, Cell.ok] at hval
      exact hval.2.2.2.1
    have hle : n0 ≤ m := by rw [hm]; split <;> omega
    obtain ⟨b, off, spot⟩ := a
    simp only at hspot
    subst hspot
    have each : ∀ i, i < n0 → ∃ t : Rd, canF w b (off + i) = some (.slice t.a t.n t.c) ∧ Ints (canF w) t.a t.n t.c t.l := fun i hi => by
      obtain ⟨h1, h2⟩ := hel i (by omega)
      obtain ⟨t, ht1, ht2⟩ := op_round h2
      rw [Addr.add_lit] at h1
      exact ⟨t, by simp only [canF, h1, ht1], ht2⟩
    obtain ⟨F, hF⟩ : ∃ F : Nat → Rd, ∀ i, i < n0 → canF w b (off + i) = some (.slice (F i).a (F i).n (F i).c) ∧ Ints (canF w) (F i).a (F i).n (F i).c (F i).l :=
      ⟨fun i => if h : i < n0 then Classical.choose (each i h) else default, fun i h => by dsimp only; rw [dif_pos h]; exact Classical.choose_spec (each i h)⟩
    have hin : ∀ i x, ((List.range n0).map F)[i]? = some x → i < n0 ∧ x = F i := fun i x hx => by
      rw [List.getElem?_map] at hx
      by_cases hi : i < n0
      · simp [List.getElem?_range hi] at hx; exact ⟨hi, hx.symm⟩
      · simp [hi] at hx
    refine ⟨some ⟨b, off, none⟩, n0, c0, (List.range n0).map F, rfl, ⟨rfl, by simp, hlc, by unfold maxLen at hcm; omega, fun i x hx => ⟨b, off, rfl, ?_⟩⟩, fun r hr => ?_⟩
    · obtain ⟨hil, rfl⟩ := hin i x hx
      intro j v hv
      cases j with
      | zero =>
        simp only [List.getElem?_cons_zero, Option.some.injEq] at hv
        subst hv
        rw [Nat.mul_one, Nat.add_zero]
        exact (hF i hil).1
      | succ j => simp at hv
    · obtain ⟨i, hi⟩ := List.mem_iff_getElem?.1 hr
      obtain ⟨hil, rfl⟩ := hin i r hi
      exact (hF i hil).2
end
end Go.Proofs.YtpaabfecoghibaaGreat
