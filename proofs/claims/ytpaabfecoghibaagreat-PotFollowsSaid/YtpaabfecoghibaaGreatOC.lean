/- From the reading of arguments to truths and plans in memory. Conditions: none beyond the reading. -/
import Derived.Test.YtpaabfecoghibaaGreatOB
import Derived.Test.YtpaabfecoghibaaGreatFC
namespace Go.Proofs.YtpaabfecoghibaaGreat
open Go Go.RowKit Go.ChangeShapes Go.WideShapes Go.ChangeAt Go.Deep
set_option linter.unusedSimpArgs false
set_option linter.unusedVariables false
theorem cInts : Tryz.prog.cellsOf 37 = 1 := by kernel_rfl
theorem cTruth : Tryz.prog.cellsOf 39 = 3 := by kernel_rfl
theorem cPlan : Tryz.prog.cellsOf 40 = 1 := by kernel_rfl
theorem tsTruth : Tryz.prog.cellTypes Tryz.prog.depth 39 = some [37, 37, 37] := by kernel_rfl
section
variable {H : Type} {encH : TypeId × Value → H} {w : World} {base : Nat} {sp : Nat → Bool} {held : Bool}
theorem op_int1 {fuel : Nat} {cs : List Value} {x : DataW H × List MemPlace} (h : DataW.trod encH Tryz.prog w base sp held fuel 3 cs = some x) : ∃ a : Int, cs = encI a := op_int h
set_option maxRecDepth 100000 in
theorem op_ints {r : Reach} {b0 : Nat} {v : Value} (hval : Cell.okWide Tryz.prog w r b0 37 v) {fuel : Nat} {x : DataW H × List MemPlace} (h : DataW.trod encH Tryz.prog w base sp held fuel 37 [v] = some x) :
    ∃ a n c l, v = .slice a n c ∧ Ints (fun b o => w.cell? ⟨b, o, none⟩) a n c l := sl_open Tryz.underlying37 cInt (enc := encI) (fun _ => rfl) (by omega) op_int1 hval h
set_option maxRecDepth 100000 in
theorem op_truth {r : Reach} {b0 : Nat} {v : Value} {d : DataW H} {p : List MemPlace} (hval : Value.okWide Tryz.prog w r b0 39 v) (h : DataW.Trod encH Tryz.prog w base sp held 39 v d p) :
    ∃ aw nw cw ar nr cr ah nh ch W R HH, v = .agg ⟨encTr aw nw cw ar nr cr ah nh ch⟩ ∧ Ints (fun b o => w.cell? ⟨b, o, none⟩) aw nw cw W ∧ Ints (fun b o => w.cell? ⟨b, o, none⟩) ar nr cr R ∧ Ints (fun b o => w.cell? ⟨b, o, none⟩) ah nh ch HH := by
  simp only [Value.okWide, Tryz.underlying39] at hval
  obtain ⟨cs, rfl, _, ts, hts, _, hrow⟩ := hval
  rw [tsTruth] at hts
  cases hts
  obtain ⟨fuel, h⟩ := h
  obtain ⟨cs⟩ := cs
  obtain ⟨xs, n, _, _, hl, hx, hf⟩ := DataW.trod_struct Tryz.underlying39 h
  rw [cTruth] at hl
  match cs, hl with
  | [c0, c1, c2], _ =>
    have hx2 : xs.length = 3 := hx
    obtain ⟨y0, e0⟩ : ∃ y, xs[0]? = some y := ⟨_, List.getElem?_eq_getElem (by omega)⟩
    obtain ⟨y1, e1⟩ : ∃ y, xs[1]? = some y := ⟨_, List.getElem?_eq_getElem (by omega)⟩
    obtain ⟨y2, e2⟩ : ∃ y, xs[2]? = some y := ⟨_, List.getElem?_eq_getElem (by omega)⟩
    have f0 := (hf 0 _ rfl).trans e0
    have f1 := (hf 1 _ rfl).trans e1
    have f2 := (hf 2 _ rfl).trans e2
    simp only [List.getElem_toArray, List.getElem_cons_zero, List.getElem_cons_succ, cInts, Value.cells, List.drop_zero, List.drop_succ_cons, List.take_succ_cons, List.take_zero] at f0 f1 f2
    obtain ⟨u0, hu0, hc0⟩ := hrow 0 c0 rfl
    obtain ⟨u1, hu1, hc1⟩ := hrow 1 c1 rfl
    obtain ⟨u2, hu2, hc2⟩ := hrow 2 c2 rfl
    simp only [List.length_cons, List.length_nil, List.getElem?_cons_zero, List.getElem?_cons_succ, Nat.reduceAdd, Nat.reduceMod, Nat.zero_add, Nat.zero_mod, Option.some.injEq] at hu0 hu1 hu2
    subst hu0 hu1 hu2
    obtain ⟨a, n, c, l, rfl, hL⟩ := op_ints hc0 f0
    obtain ⟨a2, n2, c2, l2, rfl, hL2⟩ := op_ints hc1 f1
    obtain ⟨a3, n3, c3, l3, rfl, hL3⟩ := op_ints hc2 f2
    exact ⟨a, n, c, a2, n2, c2, a3, n3, c3, l, l2, l3, rfl, hL, hL2, hL3⟩
end
end Go.Proofs.YtpaabfecoghibaaGreat
