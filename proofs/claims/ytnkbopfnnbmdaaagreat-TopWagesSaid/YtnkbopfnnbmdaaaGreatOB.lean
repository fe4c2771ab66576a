/- From the reading of arguments to lists in memory. Conditions: none beyond the reading. -/
import Derived.Test.YtnkbopfnnbmdaaaGreatRows
import Derived.Test.YtnkbopfnnbmdaaaGreatQC
import Derived.ProofKit
import Derived.OpenShut
import Derived.Deep.Slices
import Derived.Deep.DeepHandedRow
import Derived.Lib.LaidTab
namespace Go.Proofs.YtnkbopfnnbmdaaaGreat
open Go Go.RowKit Go.ChangeShapes Go.WideShapes Go.ChangeAt Go.Deep
set_option linter.unusedSimpArgs false
set_option linter.unusedVariables false
theorem own : ownKnob Tryz.prog.godebug = none := by kernel_rfl
theorem laidOut : laidOutB Tryz.prog = true := by kernel_rfl
theorem cInt : Tryz.prog.cellsOf 3 = 1 := by kernel_rfl
/-- A world for the witness: the settled one. -/
noncomputable def laidWorldq (os : Os) : World := World.holding Tryz.prog os ⟨#[], #[], []⟩
section
variable {H : Type} {encH : TypeId × Value → H} {w : World} {base : Nat} {sp : Nat → Bool} {held : Bool}
theorem op_int {fuel : Nat} {cs : List Value} {x : DataW H × List MemPlace} (h : DataW.trod encH Tryz.prog w base sp held fuel 3 cs = some x) : ∃ n, cs = [.int .i64 n] := by
  obtain ⟨n, rfl, _, hw⟩ := DataW.trod_int Tryz.underlying3 h
  exact ⟨n, rfl⟩

set_option maxRecDepth 100000 in
theorem sl_open {α : Type} [Inhabited α] {enc : α → List Value} {k : Nat} {tS tE : TypeId} (hu : Tryz.prog.underlying tS = some (.slice tE)) (hc : Tryz.prog.cellsOf tE = k) (hk : ∀ a, (enc a).length = k) (hk0 : 0 < k)
    (hel : ∀ {fuel : Nat} {cs : List Value} {x : DataW H × List MemPlace}, DataW.trod encH Tryz.prog w base sp held fuel tE cs = some x → ∃ a : α, cs = enc a) {r : Reach} {b0 : Nat} {v : Value} (hval : Cell.okWide Tryz.prog w r b0 tS v)
    {fuel : Nat} {x : DataW H × List MemPlace} (h : DataW.trod encH Tryz.prog w base sp held fuel tS [v] = some x) : ∃ a n c l, v = .slice a n c ∧ Sl (fun b o => w.cell? ⟨b, o, none⟩) enc k a n c l := by
  rcases open_slice hu h with ⟨e, _⟩ | ⟨a, len, cap, m, n, D, Pl, e, _, hlc, hcm, hm, _, hel'⟩
  · simp only [List.cons.injEq, and_true] at e
    exact ⟨none, 0, 0, [], e, Sl.nil⟩
  · simp only [List.cons.injEq, and_true] at e
    subst e
    have hspot : a.spot = none := by
      simp only [Cell.okWide, hu, Cell.ok] at hval
      exact hval.2.2.2.1
    obtain ⟨b, off, spot⟩ := a
    simp only at hspot
    subst hspot
    have hle : len ≤ m := by rw [hm]; split <;> omega
    have each : ∀ i, i < len → ∃ t : α, ∀ j v, (enc t)[j]? = some v → w.cell? ⟨b, off + i * k + j, none⟩ = some v := fun i hi => by
      obtain ⟨cs', h1, h2⟩ := hel' i (by omega)
      rw [hc] at h1
      obtain ⟨t, rfl⟩ := hel h2
      refine ⟨t, fun j v hv => ?_⟩
      have hj : j < k := by rw [← hk t]; exact (List.getElem?_eq_some_iff.1 hv).1
      have := (World.cells?_some h1).2.2 j hj
      simp only [Addr.add_lit] at this
      rw [this]; exact hv
    let F : Nat → α := fun i => if h : i < len then Classical.choose (each i h) else default
    have hF : ∀ i (h : i < len), ∀ j v, (enc (F i))[j]? = some v → w.cell? ⟨b, off + i * k + j, none⟩ = some v := fun i h => by
      have e : F i = Classical.choose (each i h) := dif_pos h
      rw [e]
      exact Classical.choose_spec (each i h)
    refine ⟨some ⟨b, off, none⟩, len, cap, (List.range len).map F, rfl, rfl, by simp, hlc, by unfold maxLen at hcm; omega, fun i x hx => ⟨b, off, rfl, ?_⟩⟩
    obtain ⟨hil, rfl⟩ : i < len ∧ x = F i := by
      rw [List.getElem?_map] at hx
      by_cases hi : i < len
      · simp [List.getElem?_range hi] at hx; exact ⟨hi, hx.symm⟩
      · simp [hi] at hx
    exact hF i hil
set_option maxRecDepth 100000 in
theorem sl_arg {α : Type} [Inhabited α] {enc : α → List Value} {k : Nat} {tS tE : TypeId} (hu : Tryz.prog.underlying tS = some (.slice tE)) (hc : Tryz.prog.cellsOf tE = k) (hk : ∀ a, (enc a).length = k) (hk0 : 0 < k)
    (hel : ∀ {fuel : Nat} {cs : List Value} {x : DataW H × List MemPlace}, DataW.trod encH Tryz.prog w base sp held fuel tE cs = some x → ∃ a : α, cs = enc a) {r : Reach} {b0 : Nat} {v : Value} {d : DataW H} {p : List MemPlace} (hval : Value.okWide Tryz.prog w r b0 tS v)
    (h : DataW.Trod encH Tryz.prog w base sp held tS v d p) : ∃ a n c l, v = .slice a n c ∧ Sl (fun b o => w.cell? ⟨b, o, none⟩) enc k a n c l := by
  obtain ⟨a0, n0, c0, rfl⟩ := okWide_slice hu hval
  obtain ⟨fuel, hf⟩ := h
  refine sl_open hu hc hk hk0 hel (r := r) (b0 := b0) ?_ hf
  simpa only [Value.okWide, hu] using hval
end
theorem trodAll_blockq {H : Type} {enc : TypeId × Value → H} {W W' : World} (hb : Below W.heap.size W W') {t : TypeId} {ts : List TypeId} {v : Value} {vs : List Value} {d : DataW H} {ds : List (DataW H)} {p q : List MemPlace}
    (hr : Tryz.prog.readableRec t = true) (hrow : t < Tryz.prog.types.size) (h : DataW.Trod enc Tryz.prog W 0 (fun _ => true) true t v d p) (hlt : ∀ x ∈ p, x.block < W.heap.size)
    (hrest : DataW.TrodAll enc Tryz.prog W' 0 (fun b => decide (b < W.heap.size)) true ts vs ds q) : DataW.TrodAll enc Tryz.prog W' 0 (fun b => decide (b < W.heap.size)) true (t :: ts) (v :: vs) (d :: ds) (p ++ q) :=
  trodAll_cons_mk (Below.trod laidOut hr hrow h hb hlt) hrest
theorem cSpan : Tryz.prog.cellsOf 31 = 2 := by kernel_rfl
theorem cLot : Tryz.prog.cellsOf 38 = 4 := by kernel_rfl
theorem cAccount : Tryz.prog.cellsOf 27 = 2 := by kernel_rfl
theorem tsAccount : Tryz.prog.cellTypes Tryz.prog.depth 27 = some [3, 22] := by kernel_rfl
theorem cRates : Tryz.prog.cellsOf 24 = 2 := by kernel_rfl
theorem cInts : Tryz.prog.cellsOf 22 = 1 := by kernel_rfl
theorem tsRates : Tryz.prog.cellTypes Tryz.prog.depth 24 = some [22, 3] := by kernel_rfl
instance : Inhabited Lot := ⟨⟨0, 0, 0, 0⟩⟩
section
variable {H : Type} {encH : TypeId × Value → H} {w : World} {base : Nat} {sp : Nat → Bool} {held : Bool}
set_option maxRecDepth 100000 in
theorem op_span {fuel : Nat} {cs : List Value} {x : DataW H × List MemPlace} (h : DataW.trod encH Tryz.prog w base sp held fuel 31 cs = some x) : ∃ p q, cs = [.int .i64 p, .int .i64 q] := by
  obtain ⟨xs, n, _, _, hl, hx, hf⟩ := DataW.trod_struct Tryz.underlying31 h
  rw [cSpan] at hl
  match cs, hl with
  | [c0, c1], _ =>
    have hx2 : xs.length = 2 := hx
    obtain ⟨y0, e0⟩ : ∃ y, xs[0]? = some y := ⟨_, List.getElem?_eq_getElem (by omega)⟩
    obtain ⟨y1, e1⟩ : ∃ y, xs[1]? = some y := ⟨_, List.getElem?_eq_getElem (by omega)⟩
    have f0 := (hf 0 _ rfl).trans e0
    have f1 := (hf 1 _ rfl).trans e1
    simp only [List.getElem_toArray, List.getElem_cons_zero, List.getElem_cons_succ, cInt, List.drop_zero, List.drop_succ_cons, List.take_succ_cons, List.take_zero] at f0 f1
    obtain ⟨p, hp⟩ := op_int f0
    obtain ⟨q, hq⟩ := op_int f1
    simp only [List.cons.injEq, and_true] at hp hq
    exact ⟨p, q, by rw [hp, hq]⟩
set_option maxRecDepth 100000 in
theorem op_lot {fuel : Nat} {cs : List Value} {x : DataW H × List MemPlace} (h : DataW.trod encH Tryz.prog w base sp held fuel 38 cs = some x) : ∃ t : Lot, cs = encL t := by
  obtain ⟨xs, n, _, _, hl, hx, hf⟩ := DataW.trod_struct Tryz.underlying38 h
  rw [cLot] at hl
  match cs, hl with
  | [c0, c1, c2, c3], _ =>
    have hx2 : xs.length = 3 := hx
    obtain ⟨y0, e0⟩ : ∃ y, xs[0]? = some y := ⟨_, List.getElem?_eq_getElem (by omega)⟩
    obtain ⟨y1, e1⟩ : ∃ y, xs[1]? = some y := ⟨_, List.getElem?_eq_getElem (by omega)⟩
    obtain ⟨y2, e2⟩ : ∃ y, xs[2]? = some y := ⟨_, List.getElem?_eq_getElem (by omega)⟩
    have f0 := (hf 0 _ rfl).trans e0
    have f1 := (hf 1 _ rfl).trans e1
    have f2 := (hf 2 _ rfl).trans e2
    simp only [List.getElem_toArray, List.getElem_cons_zero, List.getElem_cons_succ, cInt, cSpan, List.drop_zero, List.drop_succ_cons, List.take_succ_cons, List.take_zero] at f0 f1 f2
    obtain ⟨p, hp⟩ := op_int f0
    obtain ⟨q, hq⟩ := op_int f1
    obtain ⟨r, s, hr⟩ := op_span f2
    simp only [List.cons.injEq, and_true] at hp hq hr
    exact ⟨⟨p, q, r, s⟩, by rw [hp, hq, hr.1, hr.2]⟩
set_option maxRecDepth 100000 in
theorem op_lots {r : Reach} {b0 : Nat} {v : Value} {d : DataW H} {p : List MemPlace} (hval : Value.okWide Tryz.prog w r b0 25 v) (h : DataW.Trod encH Tryz.prog w base sp held 25 v d p) :
    ∃ a n c l, v = .slice a n c ∧ Lots (fun b o => w.cell? ⟨b, o, none⟩) a n c l := sl_arg Tryz.underlying25 cLot (fun _ => rfl) (by omega) op_lot hval h
set_option maxRecDepth 100000 in
theorem op_ints {r : Reach} {b0 : Nat} {v : Value} {d : DataW H} {p : List MemPlace} (hval : Value.okWide Tryz.prog w r b0 22 v) (h : DataW.Trod encH Tryz.prog w base sp held 22 v d p) :
    ∃ a n c l, v = .slice a n c ∧ Ints (fun b o => w.cell? ⟨b, o, none⟩) a n c l := sl_arg Tryz.underlying22 cInt (fun _ => rfl) (by omega) op_int hval h
set_option maxRecDepth 100000 in
theorem op_rates {r : Reach} {b0 : Nat} {v : Value} {d : DataW H} {p : List MemPlace} (hval : Value.okWide Tryz.prog w r b0 24 v) (h : DataW.Trod encH Tryz.prog w base sp held 24 v d p) :
    ∃ a n c ps part, v = .agg ⟨[.slice a n c, .int .i64 part]⟩ ∧ Ints (fun b o => w.cell? ⟨b, o, none⟩) a n c ps := by
  simp only [Value.okWide, Tryz.underlying24] at hval
  obtain ⟨cs, rfl, _, ts, hts, _, hrow⟩ := hval
  rw [tsRates] at hts
  cases hts
  obtain ⟨fuel, h⟩ := h
  obtain ⟨cs⟩ := cs
  obtain ⟨xs, n, _, _, hl, hx, hf⟩ := DataW.trod_struct Tryz.underlying24 h
  rw [cRates] at hl
  match cs, hl with
  | [c0, c1], _ =>
    have hx2 : xs.length = 2 := hx
    obtain ⟨y0, e0⟩ : ∃ y, xs[0]? = some y := ⟨_, List.getElem?_eq_getElem (by omega)⟩
    obtain ⟨y1, e1⟩ : ∃ y, xs[1]? = some y := ⟨_, List.getElem?_eq_getElem (by omega)⟩
    have f0 := (hf 0 _ rfl).trans e0
    have f1 := (hf 1 _ rfl).trans e1
    simp only [List.getElem_toArray, List.getElem_cons_zero, List.getElem_cons_succ, cInt, cInts, Value.cells, List.drop_zero, List.drop_succ_cons, List.take_succ_cons, List.take_zero] at f0 f1
    obtain ⟨q, hq⟩ := op_int f1
    simp only [List.cons.injEq, and_true] at hq
    subst hq
    obtain ⟨u, hu, hc⟩ := hrow 0 c0 rfl
    simp only [List.length_cons, List.length_nil, Nat.zero_mod, List.getElem?_cons_zero, Option.some.injEq] at hu
    subst hu
    obtain ⟨a, n, c, l, rfl, hL⟩ := sl_open Tryz.underlying22 cInt (enc := encI) (fun _ => rfl) (by omega) op_int hc f0
    exact ⟨a, n, c, l, q, rfl, hL⟩
set_option maxRecDepth 100000 in
theorem op_account {r : Reach} {b0 : Nat} {v : Value} {d : DataW H} {p : List MemPlace} (hval : Value.okWide Tryz.prog w r b0 27 v) (h : DataW.Trod encH Tryz.prog w base sp held 27 v d p) :
    ∃ a n c ds keep, v = .agg ⟨[.int .i64 keep, .slice a n c]⟩ ∧ Ints (fun b o => w.cell? ⟨b, o, none⟩) a n c ds := by
  simp only [Value.okWide, Tryz.underlying27] at hval
  obtain ⟨cs, rfl, _, ts, hts, _, hrow⟩ := hval
  rw [tsAccount] at hts
  cases hts
  obtain ⟨fuel, h⟩ := h
  obtain ⟨cs⟩ := cs
  obtain ⟨xs, n, _, _, hl, hx, hf⟩ := DataW.trod_struct Tryz.underlying27 h
  rw [cAccount] at hl
  match cs, hl with
  | [c0, c1], _ =>
    have hx2 : xs.length = 2 := hx
    obtain ⟨y0, e0⟩ : ∃ y, xs[0]? = some y := ⟨_, List.getElem?_eq_getElem (by omega)⟩
    obtain ⟨y1, e1⟩ : ∃ y, xs[1]? = some y := ⟨_, List.getElem?_eq_getElem (by omega)⟩
    have f0 := (hf 0 _ rfl).trans e0
    have f1 := (hf 1 _ rfl).trans e1
    simp only [List.getElem_toArray, List.getElem_cons_zero, List.getElem_cons_succ, cInt, cInts, Value.cells, List.drop_zero, List.drop_succ_cons, List.take_succ_cons, List.take_zero] at f0 f1
    obtain ⟨q, hq⟩ := op_int f0
    simp only [List.cons.injEq, and_true] at hq
    subst hq
    obtain ⟨u, hu, hc⟩ := hrow 1 c1 rfl
    simp only [List.length_cons, List.length_nil, List.getElem?_cons_zero, List.getElem?_cons_succ, Nat.reduceAdd, Nat.reduceMod, Nat.zero_add, Option.some.injEq] at hu
    subst hu
    obtain ⟨a, n, c, l, rfl, hL⟩ := sl_open Tryz.underlying22 cInt (enc := encI) (fun _ => rfl) (by omega) op_int hc f1
    exact ⟨a, n, c, l, q, rfl, hL⟩
set_option maxRecDepth 100000 in
end
end Go.Proofs.YtnkbopfnnbmdaaaGreat
