/- From the reading of numbers to a list in memory: where it lies, and how long it can be. Conditions: none beyond the reading. -/
import Derived.Test.YtpaabfecoghibaaOB
import Derived.SizedLaws
namespace Go.Proofs.Ytpaabfecoghibaa
open Go Go.RowKit Go.ChangeShapes Go.WideShapes Go.ChangeAt Go.Deep
set_option linter.unusedSimpArgs false
set_option linter.unusedVariables false
theorem cArr2 : Try.prog.cellsOf 26 = 2 := by kernel_rfl
theorem bytesInt : Try.prog.bytesOf 3 = 8 := by kernel_rfl
section
variable {H : Type} {encH : TypeId × Value → H} {w : World} {base : Nat} {sp : Nat → Bool} {held : Bool}
set_option maxRecDepth 100000 in
theorem op_bits {r : Reach} {b0 : Nat} {v : Value} {d : DataW H} {p : List MemPlace} (hval : Value.okWide Try.prog w r b0 27 v) (h : DataW.Trod encH Try.prog w base sp held 27 v d p) :
    ∃ a n c l, v = .slice a n c ∧ Ints (canF w) a n c l ∧ grB a n c = true ∧ (n = 0 ∨ ∃ elems spare, d = .slice elems spare ∧ elems.length = n) := by
  obtain ⟨a0, n0, c0, rfl⟩ := okWide_slice Try.underlying27 hval
  obtain ⟨fuel, hf⟩ := h
  have hval : Cell.okWide Try.prog w r b0 27 (.slice a0 n0 c0) := by simpa only [Value.okWide, Try.underlying27] using hval
  rcases open_slice1 Try.underlying27 cInt hf with ⟨e, _⟩ | ⟨a, len, cap, m, n, V, D, Pl, e, _, hlc, hcm, hm, hx, hel⟩
  · simp only [Value.cells, List.cons.injEq, and_true, Value.slice.injEq] at e
    obtain ⟨rfl, rfl, rfl⟩ := e
    exact ⟨none, 0, 0, [], rfl, Sl.nil, rfl, .inl rfl⟩
  · simp only [Value.cells, List.cons.injEq, and_true, Value.slice.injEq] at e
    obtain ⟨rfl, rfl, rfl⟩ := e
    have hspot : a.spot = none := by
      simp only [Cell.okWide, Try.underlying27, Cell.ok] at hval
      exact hval.2.2.2.1
    have hle : n0 ≤ m := by rw [hm]; split <;> omega
    obtain ⟨b, off, spot⟩ := a
    simp only at hspot
    subst hspot
    have each : ∀ i, i < n0 → ∃ t : Int, w.cell? ⟨b, off + i, none⟩ = some (.int .i64 t) := fun i hi => by
      obtain ⟨h1, h2⟩ := hel i (by omega)
      obtain ⟨t, ht⟩ := op_int h2
      simp only [List.cons.injEq, and_true] at ht
      rw [Addr.add_lit, ht] at h1
      exact ⟨t, h1⟩
    obtain ⟨F, hF⟩ : ∃ F : Nat → Int, ∀ i, i < n0 → w.cell? ⟨b, off + i, none⟩ = some (.int .i64 (F i)) :=
      ⟨fun i => if h : i < n0 then Classical.choose (each i h) else 0, fun i h => by dsimp only; rw [dif_pos h]; exact Classical.choose_spec (each i h)⟩
    refine ⟨some ⟨b, off, none⟩, n0, c0, (List.range n0).map F, rfl, ⟨rfl, by simp, hlc, by unfold maxLen at hcm; omega, fun i x hx => ⟨b, off, rfl, ?_⟩⟩, rfl, .inr ⟨_, _, (Prod.mk.injEq _ _ _ _).mp hx |>.1, by simp⟩⟩
    obtain ⟨hil, rfl⟩ : i < n0 ∧ x = F i := by
      rw [List.getElem?_map] at hx
      by_cases hi : i < n0
      · simp [List.getElem?_range hi] at hx; exact ⟨hi, hx.symm⟩
      · simp [hi] at hx
    intro j v hv
    cases j with
    | zero =>
      simp only [List.getElem?_cons_zero, Option.some.injEq] at hv
      subst hv
      rw [Nat.mul_one, Nat.add_zero]
      exact canF_gr (hF i hil) rfl
    | succ j => simp at hv
set_option maxRecDepth 100000 in
theorem op_arr2 {r : Reach} {b0 : Nat} {v : Value} {d : DataW H} {p : List MemPlace} (hval : Value.okWide Try.prog w r b0 26 v) (h : DataW.Trod encH Try.prog w base sp held 26 v d p) : ∃ x y, v = .agg ⟨[.int .i64 x, .int .i64 y]⟩ := by
  simp only [Value.okWide, Try.underlying26] at hval
  obtain ⟨cs, rfl, _, _⟩ := hval
  obtain ⟨fuel, h⟩ := h
  obtain ⟨cs⟩ := cs
  obtain ⟨zs, m, _, _, hl2, hz, hg⟩ := DataW.trod_array Try.underlying26 h
  rw [cArr2] at hl2
  match cs, hl2 with
  | [c0, c1], _ =>
    obtain ⟨y0, d0⟩ : ∃ y, zs[0]? = some y := ⟨_, List.getElem?_eq_getElem (by omega)⟩
    obtain ⟨y1, d1⟩ : ∃ y, zs[1]? = some y := ⟨_, List.getElem?_eq_getElem (by omega)⟩
    have g0 := (hg 0 (by omega)).trans d0
    have g1 := (hg 1 (by omega)).trans d1
    simp only [cInt, Nat.mul_one, Value.cells, List.drop_zero, List.drop_succ_cons, List.take_succ_cons, List.take_zero] at g0 g1
    obtain ⟨p0, h0⟩ := op_int g0
    obtain ⟨p1, h1⟩ := op_int g1
    simp only [List.cons.injEq, and_true] at h0 h1
    exact ⟨p0, p1, by rw [h0, h1]⟩
end
end Go.Proofs.Ytpaabfecoghibaa
