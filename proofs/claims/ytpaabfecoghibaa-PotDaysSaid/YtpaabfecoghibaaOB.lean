/- From the reading of arguments to runs of pots in memory. Conditions: none beyond the reading. -/
import Derived.Test.YtpaabfecoghibaaRows
import Derived.Test.YtpaabfecoghibaaPB
import Derived.ProofKit
import Derived.OpenShut
import Derived.Deep.Slices
import Derived.Deep.DeepHandedRow
import Derived.Lib.LaidTab
namespace Go.Proofs.Ytpaabfecoghibaa
open Go Go.RowKit Go.ChangeShapes Go.WideShapes Go.ChangeAt Go.Deep
set_option linter.unusedSimpArgs false
set_option linter.unusedVariables false
/-- How a cell is told: an empty slice without its place. -/
def canV (v : Value) : Option Value := cond (gr 6 v) (some v) (match v with
  | .slice (some _) 0 _ => some (.slice (some ⟨0, 0, some 2⟩) 0 0)
  | _ => none)
def canF (w : World) : Nat → Nat → Option Value := fun b o => match w.cell? ⟨b, o, none⟩ with
  | some v => canV v
  | none => none
theorem canV_rel {v u : Value} (h : canV v = some u) : Rel mu0 u v := by
  unfold canV at h
  cases hg : gr 6 v with
  | true => rw [hg] at h; simp only [cond_true, Option.some.injEq] at h; subst h; exact .ground hg
  | false =>
    rw [hg] at h
    simp only [cond_false] at h
    split at h
    · simp only [Option.some.injEq] at h; subst h; exact .sliceE
    · cases h
theorem canF_reads (w : World) : Reads (canF w) w := fun b o u e => by
  unfold canF at e
  split at e
  · rename_i v hv
    exact ⟨v, hv, canV_rel e⟩
  · cases e
theorem canF_gr {w : World} {b o : Nat} {v : Value} (h : w.cell? ⟨b, o, none⟩ = some v) (hg : gr 6 v = true) : canF w b o = some v := by
  simp only [canF, h, canV, hg, cond_true]
theorem Sl.can {α : Type} {enc : α → List Value} {w : World} {k n c : Nat} {a : Option Addr} {l : List α} (h : Sl (fun b o => w.cell? ⟨b, o, none⟩) enc k a n c l) (hg : ∀ x, (enc x).all (gr 6) = true) : Sl (canF w) enc k a n c l := ⟨h.g, h.len, h.nc, h.le, fun i x hx => by
  obtain ⟨b, o, h1, h2⟩ := h.at' i x hx
  exact ⟨b, o, h1, fun j v hv => canF_gr (h2 j v hv) (List.all_eq_true.1 (hg x) v (List.mem_of_getElem? hv))⟩⟩
theorem slE {a : Option Addr} {n c : Nat} (h : grA a n c = true) : Rel mu0 (.slice a n c) (.slice a n c) := by
  cases a with
  | none => exact .ground h
  | some a =>
    obtain ⟨b, o, sp⟩ := a
    cases sp with
    | none => exact .ground rfl
    | some s =>
      simp only [grA, Bool.and_eq_true, Nat.beq_eq] at h
      obtain ⟨rfl, rfl⟩ := h
      exact .sliceE
theorem own : ownKnob Try.prog.godebug = none := by kernel_rfl
theorem laidOut : laidOutB Try.prog = true := by kernel_rfl
theorem cInt : Try.prog.cellsOf 3 = 1 := by kernel_rfl
/-- A world for the witness: the settled one. -/
noncomputable def laidWorldq (os : Os) : World := World.holding Try.prog os ⟨#[], #[], []⟩
section
variable {H : Type} {encH : TypeId × Value → H} {w : World} {base : Nat} {sp : Nat → Bool} {held : Bool}
theorem op_int {fuel : Nat} {cs : List Value} {x : DataW H × List MemPlace} (h : DataW.trod encH Try.prog w base sp held fuel 3 cs = some x) : ∃ n, cs = [.int .i64 n] := by
  obtain ⟨n, rfl, _, hw⟩ := DataW.trod_int Try.underlying3 h
  exact ⟨n, rfl⟩

set_option maxRecDepth 100000 in
theorem sl_open {α : Type} [Inhabited α] {enc : α → List Value} {k : Nat} {tS tE : TypeId} (hu : Try.prog.underlying tS = some (.slice tE)) (hc : Try.prog.cellsOf tE = k) (hk : ∀ a, (enc a).length = k) (hk0 : 0 < k)
    (hel : ∀ {fuel : Nat} {cs : List Value} {x : DataW H × List MemPlace}, DataW.trod encH Try.prog w base sp held fuel tE cs = some x → ∃ a : α, cs = enc a) {r : Reach} {b0 : Nat} {v : Value} (hval : Cell.okWide Try.prog w r b0 tS v)
    {fuel : Nat} {x : DataW H × List MemPlace} (h : DataW.trod encH Try.prog w base sp held fuel tS [v] = some x) : ∃ a n c l, v = .slice a n c ∧ Sl (fun b o => w.cell? ⟨b, o, none⟩) enc k a n c l := by
  rcases open_slice hu h with ⟨e, _⟩ | ⟨a, len, cap, m, n, D, Pl, e, _, hlc, hcm, hm, _, hel'⟩
  · simp only [List.cons.injEq, and_true] at e
    exact ⟨none, 0, 0, [], e, Sl.nil⟩
  · simp only [List.cons.injEq, and_true] at e
    subst e
    have hspot : a.spot = none := by
      simp only [Cell.okWide, hu, Cell.ok] at hval
      exact hval.2.2.2.1
    obtain ⟨b, off, spot⟩ := a
    simp only at hspot
    subst hspot
    have hle : len ≤ m := by rw [hm]; split <;> omega
    have each : ∀ i, i < len → ∃ t : α, ∀ j v, (enc t)[j]? = some v → w.cell? ⟨b, off + i * k + j, none⟩ = some v := fun i hi => by
      obtain ⟨cs', h1, h2⟩ := hel' i (by omega)
      rw [hc] at h1
      obtain ⟨t, rfl⟩ := hel h2
      refine ⟨t, fun j v hv => ?_⟩
      have hj : j < k := by rw [← hk t]; exact (List.getElem?_eq_some_iff.1 hv).1
      have := (World.cells?_some h1).2.2 j hj
      simp only [Addr.add_lit] at this
      rw [this]; exact hv
    let F : Nat → α := fun i => if h : i < len then Classical.choose (each i h) else default
    have hF : ∀ i (h : i < len), ∀ j v, (enc (F i))[j]? = some v → w.cell? ⟨b, off + i * k + j, none⟩ = some v := fun i h => by
      have e : F i = Classical.choose (each i h) := dif_pos h
      rw [e]
      exact Classical.choose_spec (each i h)
    refine ⟨some ⟨b, off, none⟩, len, cap, (List.range len).map F, rfl, rfl, by simp, hlc, by unfold maxLen at hcm; omega, fun i x hx => ⟨b, off, rfl, ?_⟩⟩
    obtain ⟨hil, rfl⟩ : i < len ∧ x = F i := by
      rw [List.getElem?_map] at hx
      by_cases hi : i < len
      · simp [List.getElem?_range hi] at hx; exact ⟨hi, hx.symm⟩
      · simp [hi] at hx
    exact hF i hil
set_option maxRecDepth 100000 in
theorem sl_arg {α : Type} [Inhabited α] {enc : α → List Value} {k : Nat} {tS tE : TypeId} (hu : Try.prog.underlying tS = some (.slice tE)) (hc : Try.prog.cellsOf tE = k) (hk : ∀ a, (enc a).length = k) (hk0 : 0 < k)
    (hel : ∀ {fuel : Nat} {cs : List Value} {x : DataW H × List MemPlace}, DataW.trod encH Try.prog w base sp held fuel tE cs = some x → ∃ a : α, cs = enc a) {r : Reach} {b0 : Nat} {v : Value} {d : DataW H} {p : List MemPlace} (hval : Value.okWide Try.prog w r b0 tS v)
    (h : DataW.Trod encH Try.prog w base sp held tS v d p) : ∃ a n c l, v = .slice a n c ∧ Sl (fun b o => w.cell? ⟨b, o, none⟩) enc k a n c l := by
  obtain ⟨a0, n0, c0, rfl⟩ := okWide_slice hu hval
  obtain ⟨fuel, hf⟩ := h
  refine sl_open hu hc hk hk0 hel (r := r) (b0 := b0) ?_ hf
  simpa only [Value.okWide, hu] using hval
end
theorem trodAll_blockq {H : Type} {enc : TypeId × Value → H} {W W' : World} (hb : Below W.heap.size W W') {t : TypeId} {ts : List TypeId} {v : Value} {vs : List Value} {d : DataW H} {ds : List (DataW H)} {p q : List MemPlace}
    (hr : Try.prog.readableRec t = true) (hrow : t < Try.prog.types.size) (h : DataW.Trod enc Try.prog W 0 (fun _ => true) true t v d p) (hlt : ∀ x ∈ p, x.block < W.heap.size)
    (hrest : DataW.TrodAll enc Try.prog W' 0 (fun b => decide (b < W.heap.size)) true ts vs ds q) : DataW.TrodAll enc Try.prog W' 0 (fun b => decide (b < W.heap.size)) true (t :: ts) (v :: vs) (d :: ds) (p ++ q) :=
  trodAll_cons_mk (Below.trod laidOut hr hrow h hb hlt) hrest
theorem cStr : Try.prog.cellsOf 9 = 1 := by kernel_rfl
theorem cSpan : Try.prog.cellsOf 35 = 2 := by kernel_rfl
theorem cPot : Try.prog.cellsOf 37 = 8 := by kernel_rfl
theorem cDay : Try.prog.cellsOf 42 = 4 := by kernel_rfl
theorem cArr3 : Try.prog.cellsOf 46 = 3 := by kernel_rfl
theorem cRun : Try.prog.cellsOf 25 = 4 := by kernel_rfl
theorem cPots : Try.prog.cellsOf 22 = 1 := by kernel_rfl
theorem cDays : Try.prog.cellsOf 23 = 1 := by kernel_rfl
theorem tsRun : Try.prog.cellTypes Try.prog.depth 25 = some [22, 23, 3, 3] := by kernel_rfl
instance : Inhabited Pt := ⟨⟨⟨#[]⟩, 0, 0, 0, 0, 0, 0, 0⟩⟩
instance : Inhabited Dy := ⟨⟨0, 0, 0, 0⟩⟩
section
variable {H : Type} {encH : TypeId × Value → H} {w : World} {base : Nat} {sp : Nat → Bool} {held : Bool}
set_option maxRecDepth 100000 in
theorem op_span {fuel : Nat} {cs : List Value} {x : DataW H × List MemPlace} (h : DataW.trod encH Try.prog w base sp held fuel 35 cs = some x) : ∃ p q, cs = [.int .i64 p, .int .i64 q] := by
  obtain ⟨xs, n, _, _, hl, hx, hf⟩ := DataW.trod_struct Try.underlying35 h
  rw [cSpan] at hl
  match cs, hl with
  | [c0, c1], _ =>
    have hx2 : xs.length = 2 := hx
    obtain ⟨y0, e0⟩ : ∃ y, xs[0]? = some y := ⟨_, List.getElem?_eq_getElem (by omega)⟩
    obtain ⟨y1, e1⟩ : ∃ y, xs[1]? = some y := ⟨_, List.getElem?_eq_getElem (by omega)⟩
    have f0 := (hf 0 _ rfl).trans e0
    have f1 := (hf 1 _ rfl).trans e1
    simp only [List.getElem_toArray, List.getElem_cons_zero, List.getElem_cons_succ, cInt, List.drop_zero, List.drop_succ_cons, List.take_succ_cons, List.take_zero] at f0 f1
    obtain ⟨p, hp⟩ := op_int f0
    obtain ⟨q, hq⟩ := op_int f1
    simp only [List.cons.injEq, and_true] at hp hq
    exact ⟨p, q, by rw [hp, hq]⟩
theorem op_str {fuel : Nat} {cs : List Value} {x : DataW H × List MemPlace} (h : DataW.trod encH Try.prog w base sp held fuel 9 cs = some x) : ∃ s, cs = [.string s] := by
  obtain ⟨s, rfl, _⟩ := DataW.trod_string Try.underlying9 h
  exact ⟨s, rfl⟩
set_option maxRecDepth 100000 in
theorem op_pot {fuel : Nat} {cs : List Value} {x : DataW H × List MemPlace} (h : DataW.trod encH Try.prog w base sp held fuel 37 cs = some x) : ∃ t : Pt, cs = encPt t := by
  obtain ⟨xs, n, _, _, hl, hx, hf⟩ := DataW.trod_struct Try.underlying37 h
  rw [cPot] at hl
  match cs, hl with
  | [c0, c1, c2, c3, c4, c5, c6, c7], _ =>
    have hx2 : xs.length = 7 := hx
    obtain ⟨y0, e0⟩ : ∃ y, xs[0]? = some y := ⟨_, List.getElem?_eq_getElem (by omega)⟩
    obtain ⟨y1, e1⟩ : ∃ y, xs[1]? = some y := ⟨_, List.getElem?_eq_getElem (by omega)⟩
    obtain ⟨y2, e2⟩ : ∃ y, xs[2]? = some y := ⟨_, List.getElem?_eq_getElem (by omega)⟩
    obtain ⟨y3, e3⟩ : ∃ y, xs[3]? = some y := ⟨_, List.getElem?_eq_getElem (by omega)⟩
    obtain ⟨y4, e4⟩ : ∃ y, xs[4]? = some y := ⟨_, List.getElem?_eq_getElem (by omega)⟩
    obtain ⟨y5, e5⟩ : ∃ y, xs[5]? = some y := ⟨_, List.getElem?_eq_getElem (by omega)⟩
    obtain ⟨y6, e6⟩ : ∃ y, xs[6]? = some y := ⟨_, List.getElem?_eq_getElem (by omega)⟩
    have f0 := (hf 0 _ rfl).trans e0
    have f1 := (hf 1 _ rfl).trans e1
    have f2 := (hf 2 _ rfl).trans e2
    have f3 := (hf 3 _ rfl).trans e3
    have f4 := (hf 4 _ rfl).trans e4
    have f5 := (hf 5 _ rfl).trans e5
    have f6 := (hf 6 _ rfl).trans e6
    simp only [List.getElem_toArray, List.getElem_cons_zero, List.getElem_cons_succ, cInt, cStr, cSpan, List.drop_zero, List.drop_succ_cons, List.take_succ_cons, List.take_zero] at f0 f1 f2 f3 f4 f5 f6
    obtain ⟨t, h0⟩ := op_str f0
    obtain ⟨p1, h1⟩ := op_int f1
    obtain ⟨p2, h2⟩ := op_int f2
    obtain ⟨p3, h3⟩ := op_int f3
    obtain ⟨p4, p5, h4⟩ := op_span f4
    obtain ⟨p6, h6⟩ := op_int f5
    obtain ⟨p7, h7⟩ := op_int f6
    simp only [List.cons.injEq, and_true] at h0 h1 h2 h3 h4 h6 h7
    exact ⟨⟨t, p1, p2, p3, p4, p5, p6, p7⟩, by rw [h0, h1, h2, h3, h4.1, h4.2, h6, h7]⟩
set_option maxRecDepth 100000 in
theorem op_day {fuel : Nat} {cs : List Value} {x : DataW H × List MemPlace} (h : DataW.trod encH Try.prog w base sp held fuel 42 cs = some x) : ∃ t : Dy, cs = encDy t := by
  obtain ⟨xs, n, _, _, hl, hx, hf⟩ := DataW.trod_struct Try.underlying42 h
  rw [cDay] at hl
  match cs, hl with
  | [c0, c1, c2, c3], _ =>
    have hx2 : xs.length = 2 := hx
    obtain ⟨y0, e0⟩ : ∃ y, xs[0]? = some y := ⟨_, List.getElem?_eq_getElem (by omega)⟩
    obtain ⟨y1, e1⟩ : ∃ y, xs[1]? = some y := ⟨_, List.getElem?_eq_getElem (by omega)⟩
    have f0 := (hf 0 _ rfl).trans e0
    have f1 := (hf 1 _ rfl).trans e1
    simp only [List.getElem_toArray, List.getElem_cons_zero, List.getElem_cons_succ, cInt, cSpan, List.drop_zero, List.drop_succ_cons, List.take_succ_cons, List.take_zero] at f0 f1
    obtain ⟨p0, p1, h0⟩ := op_span f0
    obtain ⟨p2, p3, h1⟩ := op_span f1
    simp only [List.cons.injEq, and_true] at h0 h1
    exact ⟨⟨p0, p1, p2, p3⟩, by rw [h0.1, h0.2, h1.1, h1.2]⟩
set_option maxRecDepth 100000 in
theorem op_run {r : Reach} {b0 : Nat} {v : Value} {d : DataW H} {p : List MemPlace} (hval : Value.okWide Try.prog w r b0 25 v) (h : DataW.Trod encH Try.prog w base sp held 25 v d p) :
    ∃ a n c a2 n2 c2 ps ds base hands, v = .agg ⟨encRun a n c a2 n2 c2 base hands⟩ ∧ Pts (fun b o => w.cell? ⟨b, o, none⟩) a n c ps ∧ Dys (fun b o => w.cell? ⟨b, o, none⟩) a2 n2 c2 ds := by
  simp only [Value.okWide, Try.underlying25] at hval
  obtain ⟨cs, rfl, _, ts, hts, _, hrow⟩ := hval
  rw [tsRun] at hts
  cases hts
  obtain ⟨fuel, h⟩ := h
  obtain ⟨cs⟩ := cs
  obtain ⟨xs, n, _, _, hl, hx, hf⟩ := DataW.trod_struct Try.underlying25 h
  rw [cRun] at hl
  match cs, hl with
  | [c0, c1, c2, c3], _ =>
    have hx2 : xs.length = 4 := hx
    obtain ⟨y0, e0⟩ : ∃ y, xs[0]? = some y := ⟨_, List.getElem?_eq_getElem (by omega)⟩
    obtain ⟨y1, e1⟩ : ∃ y, xs[1]? = some y := ⟨_, List.getElem?_eq_getElem (by omega)⟩
    obtain ⟨y2, e2⟩ : ∃ y, xs[2]? = some y := ⟨_, List.getElem?_eq_getElem (by omega)⟩
    obtain ⟨y3, e3⟩ : ∃ y, xs[3]? = some y := ⟨_, List.getElem?_eq_getElem (by omega)⟩
    have f0 := (hf 0 _ rfl).trans e0
    have f1 := (hf 1 _ rfl).trans e1
    have f2 := (hf 2 _ rfl).trans e2
    have f3 := (hf 3 _ rfl).trans e3
    simp only [List.getElem_toArray, List.getElem_cons_zero, List.getElem_cons_succ, cInt, cPots, cDays, Value.cells, List.drop_zero, List.drop_succ_cons, List.take_succ_cons, List.take_zero] at f0 f1 f2 f3
    obtain ⟨q2, hq2⟩ := op_int f2
    obtain ⟨q3, hq3⟩ := op_int f3
    simp only [List.cons.injEq, and_true] at hq2 hq3
    subst hq2 hq3
    obtain ⟨u0, hu0, hc0⟩ := hrow 0 c0 rfl
    obtain ⟨u1, hu1, hc1⟩ := hrow 1 c1 rfl
    simp only [List.length_cons, List.length_nil, List.getElem?_cons_zero, List.getElem?_cons_succ, Nat.reduceAdd, Nat.reduceMod, Nat.zero_add, Nat.zero_mod, Option.some.injEq] at hu0 hu1
    subst hu0 hu1
    obtain ⟨a, n, c, l, rfl, hL⟩ := sl_open Try.underlying22 cPot (enc := encPt) (fun _ => rfl) (by omega) op_pot hc0 f0
    obtain ⟨a2, n2, c2, l2, rfl, hL2⟩ := sl_open Try.underlying23 cDay (enc := encDy) (fun _ => rfl) (by omega) op_day hc1 f1
    exact ⟨a, n, c, a2, n2, c2, l, l2, q2, q3, rfl, hL, hL2⟩
set_option maxRecDepth 100000 in
theorem op_arr3 {r : Reach} {b0 : Nat} {v : Value} {d : DataW H} {p : List MemPlace} (hval : Value.okWide Try.prog w r b0 46 v) (h : DataW.Trod encH Try.prog w base sp held 46 v d p) : ∃ x y z, v = .agg ⟨[.int .i64 x, .int .i64 y, .int .i64 z]⟩ := by
  simp only [Value.okWide, Try.underlying46] at hval
  obtain ⟨cs, rfl, _, _⟩ := hval
  obtain ⟨fuel, h⟩ := h
  obtain ⟨cs⟩ := cs
  obtain ⟨zs, m, _, _, hl2, hz, hg⟩ := DataW.trod_array Try.underlying46 h
  rw [cArr3] at hl2
  match cs, hl2 with
  | [c0, c1, c2], _ =>
    obtain ⟨y0, d0⟩ : ∃ y, zs[0]? = some y := ⟨_, List.getElem?_eq_getElem (by omega)⟩
    obtain ⟨y1, d1⟩ : ∃ y, zs[1]? = some y := ⟨_, List.getElem?_eq_getElem (by omega)⟩
    obtain ⟨y2, d2⟩ : ∃ y, zs[2]? = some y := ⟨_, List.getElem?_eq_getElem (by omega)⟩
    have g0 := (hg 0 (by omega)).trans d0
    have g1 := (hg 1 (by omega)).trans d1
    have g2 := (hg 2 (by omega)).trans d2
    simp only [cInt, Nat.mul_one, Value.cells, List.drop_zero, List.drop_succ_cons, List.take_succ_cons, List.take_zero] at g0 g1 g2
    obtain ⟨p0, h0⟩ := op_int g0
    obtain ⟨p1, h1⟩ := op_int g1
    obtain ⟨p2, h2⟩ := op_int g2
    simp only [List.cons.injEq, and_true] at h0 h1 h2
    exact ⟨p0, p1, p2, by rw [h0, h1, h2]⟩
end
end Go.Proofs.Ytpaabfecoghibaa
