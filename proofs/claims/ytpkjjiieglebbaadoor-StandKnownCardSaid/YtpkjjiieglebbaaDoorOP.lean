/- From the reading of arguments to the cells: numbers, spans, rules, trees, stands. Conditions: none beyond the reading. -/
import Derived.Test.YtpkjjiieglebbaaDoorL1
import Derived.ProofKit
import Derived.OpenShut
import Derived.Deep.Slices
namespace Go.Proofs.YtpkjjiieglebbaaDoor
open Go Go.RowKit Go.ChangeShapes Go.WideShapes Go.Deep
theorem cInt : Tryd.prog.cellsOf 3 = 1 := by kernel_rfl
theorem cStr : Tryd.prog.cellsOf 9 = 1 := by kernel_rfl
theorem cSpan : Tryd.prog.cellsOf 27 = 2 := by kernel_rfl
theorem cTree : Tryd.prog.cellsOf 62 = 6 := by kernel_rfl
theorem cTrees : Tryd.prog.cellsOf 25 = 1 := by kernel_rfl
theorem cStand : Tryd.prog.cellsOf 29 = 5 := by kernel_rfl
theorem cArr3 : Tryd.prog.cellsOf 22 = 3 := by kernel_rfl
theorem cRule : Tryd.prog.cellsOf 24 = 4 := by kernel_rfl
section
variable {H : Type} {enc : TypeId × Value → H} {w : World} {base : Nat} {sp : Nat → Bool} {held : Bool} {fuel : Nat} {cs : List Value} {x : DataW H × List MemPlace}
theorem op_int (h : DataW.trod enc Tryd.prog w base sp held fuel 3 cs = some x) : ∃ n, cs = [.int .i64 n] ∧ (-9223372036854775808 ≤ n ∧ n ≤ 9223372036854775807) := by
  obtain ⟨n, rfl, _, hw⟩ := DataW.trod_int Tryd.underlying3 h
  exact ⟨n, rfl, (by simpa [Lit.wf, show IntKind.i64.min = -9223372036854775808 from rfl] using hw)⟩
set_option maxRecDepth 100000 in
theorem op_span (h : DataW.trod enc Tryd.prog w base sp held fuel 27 cs = some x) : ∃ p q, cs = [.int .i64 p, .int .i64 q] := by
  obtain ⟨xs, n, _, _, hl, hx, hf⟩ := DataW.trod_struct Tryd.underlying27 h
  rw [cSpan] at hl
  match cs, hl with
  | [c0, c1], _ =>
    have hx2 : xs.length = 2 := hx
    obtain ⟨y0, e0⟩ : ∃ y, xs[0]? = some y := ⟨_, List.getElem?_eq_getElem (by omega)⟩
    obtain ⟨y1, e1⟩ : ∃ y, xs[1]? = some y := ⟨_, List.getElem?_eq_getElem (by omega)⟩
    have f0 := (hf 0 _ rfl).trans e0
    have f1 := (hf 1 _ rfl).trans e1
    simp only [List.getElem_toArray, List.getElem_cons_zero, List.getElem_cons_succ, cInt, List.drop_zero, List.drop_succ_cons, List.take_succ_cons, List.take_zero] at f0 f1
    obtain ⟨p, hp, _⟩ := op_int f0
    obtain ⟨q, hq, _⟩ := op_int f1
    simp only [List.cons.injEq, and_true] at hp hq
    exact ⟨p, q, by rw [hp, hq]⟩
set_option maxRecDepth 100000 in
theorem op_tree (h : DataW.trod enc Tryd.prog w base sp held fuel 62 cs = some x) :
    ∃ t : Tree, cs = [.string t.tag, .int .i64 t.x, .int .i64 t.y, .int .i64 t.gl, .int .i64 t.gh, .int .i64 t.cr] ∧ t.tag.size ≤ maxLen := by
  obtain ⟨xs, n, _, _, hl, hx, hf⟩ := DataW.trod_struct Tryd.underlying62 h
  rw [cTree] at hl
  match cs, hl with
  | [c0, c1, c2, c3, c4, c5], _ =>
    have hx2 : xs.length = 5 := hx
    obtain ⟨y0, e0⟩ : ∃ y, xs[0]? = some y := ⟨_, List.getElem?_eq_getElem (by omega)⟩
    obtain ⟨y1, e1⟩ : ∃ y, xs[1]? = some y := ⟨_, List.getElem?_eq_getElem (by omega)⟩
    obtain ⟨y2, e2⟩ : ∃ y, xs[2]? = some y := ⟨_, List.getElem?_eq_getElem (by omega)⟩
    obtain ⟨y3, e3⟩ : ∃ y, xs[3]? = some y := ⟨_, List.getElem?_eq_getElem (by omega)⟩
    obtain ⟨y4, e4⟩ : ∃ y, xs[4]? = some y := ⟨_, List.getElem?_eq_getElem (by omega)⟩
    have f0 := (hf 0 _ rfl).trans e0
    have f1 := (hf 1 _ rfl).trans e1
    have f2 := (hf 2 _ rfl).trans e2
    have f3 := (hf 3 _ rfl).trans e3
    have f4 := (hf 4 _ rfl).trans e4
    simp only [List.getElem_toArray, List.getElem_cons_zero, List.getElem_cons_succ, cInt, cStr, cSpan, List.drop_zero, List.drop_succ_cons, List.take_succ_cons, List.take_zero] at f0 f1 f2 f3 f4
    obtain ⟨s, h0, _, hs⟩ := DataW.trod_string Tryd.underlying9 f0
    obtain ⟨p1, h1, _⟩ := op_int f1
    obtain ⟨p2, h2, _⟩ := op_int f2
    obtain ⟨p3, p4, h3⟩ := op_span f3
    obtain ⟨p5, h5, _⟩ := op_int f4
    simp only [List.cons.injEq, and_true] at h0 h1 h2 h3 h5
    exact ⟨⟨s, p1, p2, p3, p4, p5⟩, by rw [h0, h1, h2, h3.1, h3.2, h5], hs⟩
set_option maxRecDepth 100000 in
theorem op_rule (h : DataW.trod enc Tryd.prog w base sp held fuel 24 cs = some x) : ∃ a b c r, cs = [.int .i64 a, .int .i64 b, .int .i64 c, .int .i64 r] := by
  obtain ⟨xs, n, _, _, hl, hx, hf⟩ := DataW.trod_struct Tryd.underlying24 h
  rw [cRule] at hl
  match cs, hl with
  | [c0, c1, c2, c3], _ =>
    have hx2 : xs.length = 2 := hx
    obtain ⟨y0, e0⟩ : ∃ y, xs[0]? = some y := ⟨_, List.getElem?_eq_getElem (by omega)⟩
    obtain ⟨y1, e1⟩ : ∃ y, xs[1]? = some y := ⟨_, List.getElem?_eq_getElem (by omega)⟩
    have f0 := (hf 0 _ rfl).trans e0
    have f1 := (hf 1 _ rfl).trans e1
    simp only [List.getElem_toArray, List.getElem_cons_zero, List.getElem_cons_succ, cInt, cArr3, List.drop_zero, List.drop_succ_cons, List.take_succ_cons, List.take_zero] at f0 f1
    obtain ⟨zs, m, _, _, hl2, hz, hg⟩ := DataW.trod_array Tryd.underlying22 f0
    obtain ⟨z0, d0⟩ : ∃ y, zs[0]? = some y := ⟨_, List.getElem?_eq_getElem (by omega)⟩
    obtain ⟨z1, d1⟩ : ∃ y, zs[1]? = some y := ⟨_, List.getElem?_eq_getElem (by omega)⟩
    obtain ⟨z2, d2⟩ : ∃ y, zs[2]? = some y := ⟨_, List.getElem?_eq_getElem (by omega)⟩
    have g0 := (hg 0 (by omega)).trans d0
    have g1 := (hg 1 (by omega)).trans d1
    have g2 := (hg 2 (by omega)).trans d2
    simp only [cInt, Nat.mul_one, List.drop_zero, List.drop_succ_cons, List.take_succ_cons, List.take_zero] at g0 g1 g2
    obtain ⟨p0, h0, _⟩ := op_int g0
    obtain ⟨p1, h1, _⟩ := op_int g1
    obtain ⟨p2, h2, _⟩ := op_int g2
    obtain ⟨p3, h3, _⟩ := op_int f1
    simp only [List.cons.injEq, and_true] at h0 h1 h2 h3
    exact ⟨p0, p1, p2, p3, by rw [h0, h1, h2, h3]⟩
theorem op_trees (h : DataW.trod enc Tryd.prog w base sp held fuel 25 cs = some x) : ∃ a n c ts, cs = [.slice a n c] ∧ Trees w a n c ts := by
  rcases open_slice Tryd.underlying25 h with ⟨rfl, _⟩ | ⟨a, len, cap, m, n, D, Pl, rfl, _, hlc, hcm, hm, _, hel⟩
  · exact ⟨none, 0, 0, [], rfl, ⟨rfl, .inl rfl, fun _ h => (by cases h), (by omega), Nat.le_refl _⟩⟩
  · have hle : len ≤ m := by rw [hm]; split <;> omega
    have each : ∀ i, i < len → ∃ t : Tree, t.tag.size ≤ maxLen ∧ ∀ k, k < 6 → w.cell? ((a.add (i * 6)).add k) = ([.string t.tag, .int .i64 t.x, .int .i64 t.y, .int .i64 t.gl, .int .i64 t.gh, .int .i64 t.cr] : List Value)[k]? := fun i hi => by
      obtain ⟨cs', h1, h2⟩ := hel i (by omega)
      rw [cTree] at h1
      obtain ⟨t, rfl, ht⟩ := op_tree h2
      exact ⟨t, ht, fun k hk => (World.cells?_some h1).2.2 k hk⟩
    refine ⟨some a, len, cap, ?_⟩
    let F : Nat → Tree := fun i => if h : i < len then Classical.choose (each i h) else ⟨⟨#[]⟩, 0, 0, 0, 0, 0⟩
    have hF : ∀ i (h : i < len), (F i).tag.size ≤ maxLen ∧ ∀ k, k < 6 → w.cell? ((a.add (i * 6)).add k) = ([.string (F i).tag, .int .i64 (F i).x, .int .i64 (F i).y, .int .i64 (F i).gl, .int .i64 (F i).gh, .int .i64 (F i).cr] : List Value)[k]? := fun i h => by
      have e : F i = Classical.choose (each i h) := dif_pos h
      rw [e]
      exact Classical.choose_spec (each i h)
    refine ⟨(List.range len).map F, rfl, by simp, ?_, fun t ht => ?_, by unfold maxLen at hcm; omega, hlc⟩
    · by_cases h0 : len = 0
      · left; subst h0; rfl
      · right
        have hc := (hF 0 (by omega)).2 0 (by omega)
        obtain ⟨b, off, spot⟩ := a
        have hspot : spot = none := by simpa [Addr.add] using World.cell?_spot hc
        subst hspot
        simp only [Addr.add_lit] at hc hF
        refine ⟨b, off, rfl, Nat.lt_of_not_le (fun hn => by simp [World.cell?, Array.getElem?_eq_none hn] at hc), fun i t ht => ?_⟩
        obtain ⟨hil, rfl⟩ : i < len ∧ t = F i := by
          rw [List.getElem?_map] at ht
          by_cases hi : i < len
          · simp [List.getElem?_range hi] at ht; exact ⟨hi, ht.symm⟩
          · simp [hi] at ht
        have q := (hF i hil).2
        exact ⟨q 0 (by omega), q 1 (by omega), q 2 (by omega), q 3 (by omega), q 4 (by omega), q 5 (by omega)⟩
    · obtain ⟨i, hi, rfl⟩ := List.mem_map.1 ht
      exact (hF i (by simpa using hi)).1
set_option maxRecDepth 100000 in
theorem op_stand (h : DataW.trod enc Tryd.prog w base sp held fuel 29 cs = some x) : ∃ a n c ts lo hi pr ne, cs = [.slice a n c, .int .i64 lo, .int .i64 hi, .int .i64 pr, .int .i64 ne] ∧ Trees w a n c ts := by
  obtain ⟨xs, n, _, _, hl, hx, hf⟩ := DataW.trod_struct Tryd.underlying29 h
  rw [cStand] at hl
  match cs, hl with
  | [c0, c1, c2, c3, c4], _ =>
    have hx2 : xs.length = 4 := hx
    obtain ⟨y0, e0⟩ : ∃ y, xs[0]? = some y := ⟨_, List.getElem?_eq_getElem (by omega)⟩
    obtain ⟨y1, e1⟩ : ∃ y, xs[1]? = some y := ⟨_, List.getElem?_eq_getElem (by omega)⟩
    obtain ⟨y2, e2⟩ : ∃ y, xs[2]? = some y := ⟨_, List.getElem?_eq_getElem (by omega)⟩
    obtain ⟨y3, e3⟩ : ∃ y, xs[3]? = some y := ⟨_, List.getElem?_eq_getElem (by omega)⟩
    have f0 := (hf 0 _ rfl).trans e0
    have f1 := (hf 1 _ rfl).trans e1
    have f2 := (hf 2 _ rfl).trans e2
    have f3 := (hf 3 _ rfl).trans e3
    simp only [List.getElem_toArray, List.getElem_cons_zero, List.getElem_cons_succ, cInt, cTrees, cSpan, List.drop_zero, List.drop_succ_cons, List.take_succ_cons, List.take_zero] at f0 f1 f2 f3
    obtain ⟨a, n', c, ts, h0, hT⟩ := op_trees f0
    obtain ⟨p1, p2, h1⟩ := op_span f1
    obtain ⟨p3, h3, _⟩ := op_int f2
    obtain ⟨p4, h4, _⟩ := op_int f3
    simp only [List.cons.injEq, and_true] at h0 h1 h3 h4
    exact ⟨a, n', c, ts, p1, p2, p3, p4, by rw [h0, h1.1, h1.2, h3, h4], hT⟩
end
end Go.Proofs.YtpkjjiieglebbaaDoor
