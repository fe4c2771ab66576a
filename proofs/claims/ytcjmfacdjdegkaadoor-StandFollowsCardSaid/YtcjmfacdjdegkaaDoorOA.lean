/- From the reading of arguments to the cells: acts. Conditions: none beyond the reading. -/
import Derived.Test.YtcjmfacdjdegkaaDoorCA
namespace Go.Proofs.YtcjmfacdjdegkaaDoor
open Go Go.RowKit Go.ChangeShapes Go.WideShapes Go.ChangeAt Go.Deep
theorem cAct : Tryd.prog.cellsOf 70 = 3 := by kernel_rfl
section
variable {H : Type} {enc : TypeId × Value → H} {w : World} {base : Nat} {sp : Nat → Bool} {held : Bool} {fuel : Nat} {cs : List Value} {x : DataW H × List MemPlace}
set_option maxRecDepth 100000 in
theorem op_act (h : DataW.trod enc Tryd.prog w base sp held fuel 70 cs = some x) : ∃ t : Act, cs = [.int .i64 t.day, .string t.tag, .int .i64 t.what] ∧ t.tag.size ≤ maxLen := by
  obtain ⟨xs, n, _, _, hl, hx, hf⟩ := DataW.trod_struct Tryd.underlying70 h
  rw [cAct] at hl
  match cs, hl with
  | [c0, c1, c2], _ =>
    have hx2 : xs.length = 3 := hx
    obtain ⟨y0, e0⟩ : ∃ y, xs[0]? = some y := ⟨_, List.getElem?_eq_getElem (by omega)⟩
    obtain ⟨y1, e1⟩ : ∃ y, xs[1]? = some y := ⟨_, List.getElem?_eq_getElem (by omega)⟩
    obtain ⟨y2, e2⟩ : ∃ y, xs[2]? = some y := ⟨_, List.getElem?_eq_getElem (by omega)⟩
    have f0 := (hf 0 _ rfl).trans e0
    have f1 := (hf 1 _ rfl).trans e1
    have f2 := (hf 2 _ rfl).trans e2
    simp only [List.getElem_toArray, List.getElem_cons_zero, List.getElem_cons_succ, cInt, cStr, List.drop_zero, List.drop_succ_cons, List.take_succ_cons, List.take_zero] at f0 f1 f2
    obtain ⟨p0, h0, _⟩ := op_int f0
    obtain ⟨s, h1, _, hs⟩ := DataW.trod_string Tryd.underlying9 f1
    obtain ⟨p2, h2, _⟩ := op_int f2
    simp only [List.cons.injEq, and_true] at h0 h1 h2
    exact ⟨⟨p0, s, p2⟩, by rw [h0, h1, h2], hs⟩
/-- Acts are read: they lie in memory as they are read. -/
theorem trod_acts (h : DataW.trod enc Tryd.prog w base sp held fuel 50 cs = some x) : ∃ a n c l, cs = [.slice a n c] ∧ (Acts w a n l ∧ n ≤ c ∧ c ≤ 9223372036854775807 ∧ (a = none → c = 0)) := by
  rcases open_slice Tryd.underlying50 h with ⟨rfl, _⟩ | ⟨a, len, cap, m, n, D, Pl, rfl, _, hlc, hcm, hm, _, hel⟩
  · exact ⟨none, 0, 0, [], rfl, ⟨rfl, .inl rfl, (fun _ h => (by cases h)), (by omega)⟩, Nat.le_refl _, by omega, fun _ => rfl⟩
  · have hle : len ≤ m := by rw [hm]; split <;> omega
    have each : ∀ i, i < len → ∃ t : Act, t.tag.size ≤ maxLen ∧ ∀ k, k < 3 → w.cell? ((a.add (i * 3)).add k) = ([.int .i64 t.day, .string t.tag, .int .i64 t.what] : List Value)[k]? := fun i hi => by
      obtain ⟨cs', h1, h2⟩ := hel i (by omega)
      rw [cAct] at h1
      obtain ⟨t, rfl, ht⟩ := op_act h2
      exact ⟨t, ht, fun k hk => (World.cells?_some h1).2.2 k hk⟩
    refine ⟨some a, len, cap, ?_⟩
    let F : Nat → Act := fun i => if h : i < len then Classical.choose (each i h) else ⟨0, ⟨#[]⟩, 0⟩
    have hF : ∀ i (h : i < len), (F i).tag.size ≤ maxLen ∧ ∀ k, k < 3 → w.cell? ((a.add (i * 3)).add k) = ([.int .i64 (F i).day, .string (F i).tag, .int .i64 (F i).what] : List Value)[k]? := fun i h => by
      have e : F i = Classical.choose (each i h) := dif_pos h
      rw [e]
      exact Classical.choose_spec (each i h)
    refine ⟨(List.range len).map F, rfl, ⟨by simp, ?_, fun t ht => ?_, by unfold maxLen at hcm; omega⟩, hlc, by unfold maxLen at hcm; omega, fun h => by cases h⟩
    · by_cases h0 : len = 0
      · left; subst h0; rfl
      · right
        have hc := (hF 0 (by omega)).2 0 (by omega)
        obtain ⟨b, off, spot⟩ := a
        have hspot : spot = none := by simpa [Addr.add] using World.cell?_spot hc
        subst hspot
        simp only [Addr.add_lit] at hc hF
        refine ⟨b, off, rfl, Nat.lt_of_not_le (fun hn => by simp [World.cell?, Array.getElem?_eq_none hn] at hc), fun i t ht => ?_⟩
        obtain ⟨hil, rfl⟩ : i < len ∧ t = F i := by
          rw [List.getElem?_map] at ht
          by_cases hi : i < len
          · simp [List.getElem?_range hi] at ht; exact ⟨hi, ht.symm⟩
          · simp [hi] at ht
        have q := (hF i hil).2
        exact ⟨q 0 (by omega), q 1 (by omega), q 2 (by omega)⟩
    · obtain ⟨i, hi, rfl⟩ := List.mem_map.1 ht
      exact (hF i (by simpa using hi)).1
set_option maxRecDepth 100000 in
theorem op_acts {v : Value} {d : DataW H} {p : List MemPlace} {r : Reach} {b0 : Nat} (hval : Value.okWide Tryd.prog w r b0 50 v) (h : DataW.Trod enc Tryd.prog w base sp held 50 v d p) : ∃ a n c l, v = .slice a n c ∧ (Acts w a n l ∧ n ≤ c ∧ c ≤ 9223372036854775807 ∧ (a = none → c = 0)) := by
  obtain ⟨a0, len, cap, rfl⟩ := okWide_slice Tryd.underlying50 hval
  obtain ⟨fuel, hf⟩ := h
  obtain ⟨a, n, c, l, e, hI⟩ := trod_acts hf
  simp only [Value.cells, List.cons.injEq, and_true] at e
  exact ⟨a, n, c, l, e, hI⟩
end
end Go.Proofs.YtcjmfacdjdegkaaDoor
