/- What the rows' lists of package variables give, and a world that holds them. Conditions: none. -/
import Derived.Test.YtpkjjiieglebbaaDoorOP
import Derived.Test.YtpkjjiieglebbaaDoorCards
import Derived.Test.YtpkjjiieglebbaaDoorTie
import Derived.Deep.DeepHandedRow
import Derived.Lib.LaidTab
namespace Go.Proofs.YtpkjjiieglebbaaDoor
open Go Go.RowKit Go.ChangeShapes Go.WideShapes Go.ChangeAt
theorem own : ownKnob Tryd.prog.godebug = none := by kernel_rfl
theorem laidOut : laidOutB Tryd.prog = true := by kernel_rfl
theorem gTabType : (Tryd.prog.globals[1]?).map (·.type) = some 164 := by kernel_rfl
theorem cTab : Tryd.prog.cellsOf 164 = 20 := by kernel_rfl
theorem cU64 : Tryd.prog.cellsOf 154 = 1 := by kernel_rfl
theorem gChg : Tryd.prog.globalNamed "pinaster/stand.changes" = some 0 := by kernel_rfl
theorem gChgType : (Tryd.prog.globals[0]?).map (·.type) = some 131 := by kernel_rfl
theorem cChange : Tryd.prog.cellsOf 130 = 3 := by kernel_rfl
theorem cChanges : Tryd.prog.cellsOf 131 = 36 := by kernel_rfl
theorem cArr2 : Tryd.prog.cellsOf 128 = 2 := by kernel_rfl
/-- The list of the package variables of this seat's rows. -/
def laidL : List (String × DataW Unit) := Rows.standWordsRow.laid
theorem tab_of {W : World} (h : laidMetH Tryd.prog laidL W) : Tab W :=
  Lib.tabIs_of_head (rest := []) gTab gTabType Tryd.underlying164 Tryd.underlying154 cU64 cTab (laidMet.filter (fun x => x.1 == "internal/strconv.uint64pow10") h)
section
variable {H : Type} {enc : TypeId × Value → H} {w : World} {base : Nat} {sp : Nat → Bool} {held : Bool} {fuel : Nat} {cs : List Value}
set_option maxRecDepth 100000 in
theorem op_change {p : List MemPlace} {a b c : Int} (h : DataW.trod enc Tryd.prog w base sp held fuel 130 cs = some (.agg [.agg [.lit (.int .i64 a), .lit (.int .i64 b)], .lit (.int .i64 c)], p)) : cs = [.int .i64 a, .int .i64 b, .int .i64 c] := by
  obtain ⟨xs, n, _, hx, hl, hxl, hf⟩ := DataW.trod_struct Tryd.underlying130 h
  rw [cChange] at hl
  match cs, hl with
  | [c0, c1, c2], _ =>
    have hx2 : xs.length = 2 := hxl
    match xs, hx2 with
    | [y0, y1], _ =>
      simp only [List.map_cons, List.map_nil, Prod.mk.injEq, DataW.agg.injEq, List.cons.injEq, and_true] at hx
      have f0 := hf 0 _ rfl
      have f1 := hf 1 _ rfl
      simp only [List.getElem_toArray, List.getElem_cons_zero, List.getElem_cons_succ, cInt, cArr2, List.drop_zero, List.drop_succ_cons, List.take_succ_cons, List.take_zero, List.getElem?_cons_zero, List.getElem?_cons_succ] at f0 f1
      obtain ⟨zs, m, _, hz, hl2, hzl, hg⟩ := DataW.trod_array Tryd.underlying128 f0
      match zs, hzl with
      | [z0, z1], _ =>
        have g0 := hg 0 (by omega)
        have g1 := hg 1 (by omega)
        simp only [cInt, Nat.mul_one, List.drop_zero, List.drop_succ_cons, List.take_succ_cons, List.take_zero, List.getElem?_cons_zero, List.getElem?_cons_succ] at g0 g1
        obtain ⟨p0, h0, e0, _⟩ := DataW.trod_int Tryd.underlying3 g0
        obtain ⟨p1, h1, e1, _⟩ := DataW.trod_int Tryd.underlying3 g1
        obtain ⟨p2, h2, e2, _⟩ := DataW.trod_int Tryd.underlying3 f1
        subst e0 e1 e2
        rw [hz] at hx
        simp only [List.cons.injEq, and_true] at h0 h1 h2
        simp only [List.map_cons, List.map_nil, DataW.agg.injEq, List.cons.injEq, DataW.lit.injEq, Lit.int.injEq, true_and, and_true] at hx
        rw [h0, h1, h2, hx.1.1.1, hx.1.1.2, hx.1.2]
theorem rows3 : ∀ (L : List (Int × Int × Int)) (cs : List Value), cs.length = 3 * L.length → (∀ i c, L[i]? = some c → (cs.drop (i * 3)).take 3 = [.int .i64 c.1, .int .i64 c.2.1, .int .i64 c.2.2]) → cs = L.flatMap fun c => [.int .i64 c.1, .int .i64 c.2.1, .int .i64 c.2.2]
  | [], cs, hl, _ => by simpa using hl
  | c :: L, cs, hl, h => by
    have h0 := h 0 c rfl
    simp only [Nat.zero_mul, List.drop_zero] at h0
    have ih := rows3 L (cs.drop 3) (by simp at hl ⊢; omega) (fun i d hd => by
      have := h (i + 1) d (by simpa using hd)
      rw [List.drop_drop, show 3 + i * 3 = (i + 1) * 3 by omega]; exact this)
    rw [List.flatMap_cons, ← h0, ← ih, List.take_append_drop]
end
theorem chg_of {W : World} (h : laidMetH Tryd.prog laidL W) : Chg W := by
  have h' : laidMet Tryd.prog [("pinaster/stand.changes", Rows.laid_pinaster_stand_changes)] W := laidMet.filter (fun x => x.1 == "pinaster/stand.changes") h
  obtain ⟨ps, ⟨g', t', cs, fuel, p, q, hg', ht', hvar, hd, _, _⟩, _⟩ := h'
  obtain rfl := Option.some.inj (gChg.symm.trans hg')
  obtain rfl := Option.some.inj (gChgType.symm.trans ht')
  obtain ⟨xs, m, _, hx, hl, hxl, hf⟩ := DataW.trod_array Tryd.underlying131 hd
  rw [cChanges] at hl
  have hdata : xs.map (·.1) = chgL.map fun c => (.agg [.agg [.lit (.int .i64 c.1), .lit (.int .i64 c.2.1)], .lit (.int .i64 c.2.2)] : DataW Unit) := by
    have := congrArg Prod.fst hx
    simp only at this
    exact (DataW.agg.inj (this : Rows.laid_pinaster_stand_changes = _)).symm
  have hcs : cs.toList = chgV := rows3 chgL cs.toList (by rw [hl]; rfl) (fun i c hc => by
    have hi : i < 12 := (List.getElem?_eq_some_iff.1 hc).1
    have f := hf i hi
    rw [cChange] at f
    obtain ⟨y, hy⟩ : ∃ y, xs[i]? = some y := ⟨_, List.getElem?_eq_getElem (by omega)⟩
    have e : y.1 = (.agg [.agg [.lit (.int .i64 c.1), .lit (.int .i64 c.2.1)], .lit (.int .i64 c.2.2)] : DataW Unit) := by
      have := congrArg (·[i]?) hdata
      simp only [List.getElem?_map, hy, hc, Option.map_some, Option.some.injEq] at this
      exact this
    rw [hy] at f
    obtain ⟨d, pl⟩ := y
    dsimp only at e
    subst e
    exact op_change f)
  unfold World.var? at hvar
  rw [gChg] at hvar
  simp only [Option.bind_some] at hvar
  split at hvar
  · rename_i cs' t fr hb
    simp only [Option.some.injEq] at hvar
    subst hvar
    exact ⟨t, fr, by rw [hb, ← hcs]⟩
  · cases hvar
end Go.Proofs.YtpkjjiieglebbaaDoor
namespace Go.Proofs.YtpkjjiieglebbaaDoor
open Go Go.RowKit Go.ChangeShapes Go.WideShapes Go.ChangeAt Go.Deep
theorem wf_int {n : Int} (h : (Lit.int .i64 n).wf = true) : -9223372036854775808 ≤ n ∧ n ≤ 9223372036854775807 := by
  simpa [Lit.wf, show IntKind.i64.min = -9223372036854775808 from rfl] using h
section
variable {H : Type} {enc : TypeId × Value → H} {w : World} {base : Nat} {sp : Nat → Bool} {held : Bool} {fuel : Nat} {cs : List Value} {x : DataW H × List MemPlace}
def Fits (n : Int) : Prop := -9223372036854775808 ≤ n ∧ n ≤ 9223372036854775807
set_option maxRecDepth 100000 in
theorem op_arr3w (h : DataW.trod enc Tryd.prog w base sp held fuel 22 cs = some x) : ∃ p q r, cs = [.int .i64 p, .int .i64 q, .int .i64 r] ∧ (Fits p ∧ Fits q ∧ Fits r) := by
  obtain ⟨zs, m, _, _, hl2, hz, hg⟩ := DataW.trod_array Tryd.underlying22 h
  rw [cArr3] at hl2
  match cs, hl2 with
  | [c0, c1, c2], _ =>
    obtain ⟨z0, d0⟩ : ∃ y, zs[0]? = some y := ⟨_, List.getElem?_eq_getElem (by omega)⟩
    obtain ⟨z1, d1⟩ : ∃ y, zs[1]? = some y := ⟨_, List.getElem?_eq_getElem (by omega)⟩
    obtain ⟨z2, d2⟩ : ∃ y, zs[2]? = some y := ⟨_, List.getElem?_eq_getElem (by omega)⟩
    have g0 := (hg 0 (by omega)).trans d0
    have g1 := (hg 1 (by omega)).trans d1
    have g2 := (hg 2 (by omega)).trans d2
    simp only [cInt, Nat.mul_one, List.drop_zero, List.drop_succ_cons, List.take_succ_cons, List.take_zero] at g0 g1 g2
    obtain ⟨p0, h0, w0⟩ := op_int g0
    obtain ⟨p1, h1, w1⟩ := op_int g1
    obtain ⟨p2, h2, w2⟩ := op_int g2
    simp only [List.cons.injEq, and_true] at h0 h1 h2
    exact ⟨p0, p1, p2, by rw [h0, h1, h2], w0, w1, w2⟩
/-- A list of numbers is read: it lies in memory as it is read. -/
theorem trod_ints (h : DataW.trod enc Tryd.prog w base sp held fuel 30 cs = some x) : ∃ a n c l, cs = [.slice a n c] ∧ IntsAt w a n l ∧ (∀ x ∈ l, Fits x) ∧ n ≤ maxLen := by
  rcases open_slice Tryd.underlying30 h with ⟨rfl, _⟩ | ⟨a, len, cap, m, n, D, Pl, rfl, _, hlc, hcm, hm, _, hel⟩
  · exact ⟨none, 0, 0, [], rfl, ⟨rfl, .inl rfl⟩, fun _ h => (by cases h), by omega⟩
  · have hle : len ≤ m := by rw [hm]; split <;> omega
    have each : ∀ i, i < len → ∃ t : Int, Fits t ∧ w.cell? (a.add i) = some (.int .i64 t) := fun i hi => by
      obtain ⟨cs', h1, h2⟩ := hel i (by omega)
      rw [cInt] at h1
      obtain ⟨t, rfl, ht⟩ := op_int h2
      refine ⟨t, ht, ?_⟩
      have := (World.cells?_some h1).2.2 0 (by omega)
      rw [show (a.add (i * 1)).add 0 = a.add i by rw [Nat.mul_one]; rfl] at this
      exact this
    refine ⟨some a, len, cap, ?_⟩
    let F : Nat → Int := fun i => if h : i < len then Classical.choose (each i h) else 0
    have hF : ∀ i (h : i < len), Fits (F i) ∧ w.cell? (a.add i) = some (.int .i64 (F i)) := fun i h => by
      have e : F i = Classical.choose (each i h) := dif_pos h
      rw [e]
      exact Classical.choose_spec (each i h)
    refine ⟨(List.range len).map F, rfl, ⟨by simp, ?_⟩, fun t ht => ?_, by omega⟩
    · by_cases h0 : len = 0
      · left; subst h0; rfl
      · right
        have hc := (hF 0 (by omega)).2
        obtain ⟨b, off, spot⟩ := a
        have hspot : spot = none := by simpa [Addr.add] using World.cell?_spot hc
        subst hspot
        simp only [Addr.add_lit] at hc hF
        refine ⟨b, off, rfl, Nat.lt_of_not_le (fun hn => by simp [World.cell?, Array.getElem?_eq_none hn] at hc), fun i t ht => ?_⟩
        obtain ⟨hil, rfl⟩ : i < len ∧ t = F i := by
          rw [List.getElem?_map] at ht
          by_cases hi : i < len
          · simp [List.getElem?_range hi] at ht; exact ⟨hi, ht.symm⟩
          · simp [hi] at ht
        exact (hF i hil).2
    · obtain ⟨i, hi, rfl⟩ := List.mem_map.1 ht
      exact (hF i (by simpa using hi)).1
set_option maxRecDepth 100000 in
theorem op_ints {v : Value} {d : DataW H} {p : List MemPlace} {r : Reach} {b0 : Nat} (hval : Value.okWide Tryd.prog w r b0 30 v) (h : DataW.Trod enc Tryd.prog w base sp held 30 v d p) : ∃ a n c l, v = .slice a n c ∧ IntsAt w a n l ∧ (∀ x ∈ l, Fits x) ∧ n ≤ maxLen := by
  obtain ⟨a0, len, cap, rfl⟩ := okWide_slice Tryd.underlying30 hval
  obtain ⟨fuel, hf⟩ := h
  obtain ⟨a, n, c, l, e, hI, hw, hm⟩ := trod_ints hf
  simp only [Value.cells, List.cons.injEq, and_true] at e
  exact ⟨a, n, c, l, e, hI, hw, hm⟩
end
theorem trodAll_blockq {H : Type} {enc : TypeId × Value → H} {W W' : World} (hb : Below W.heap.size W W') {t : TypeId} {ts : List TypeId} {v : Value} {vs : List Value} {d : DataW H} {ds : List (DataW H)} {p q : List MemPlace}
    (hr : Tryd.prog.readableRec t = true) (hrow : t < Tryd.prog.types.size) (h : DataW.Trod enc Tryd.prog W 0 (fun _ => true) true t v d p) (hlt : ∀ x ∈ p, x.block < W.heap.size)
    (hrest : DataW.TrodAll enc Tryd.prog W' 0 (fun b => decide (b < W.heap.size)) true ts vs ds q) : DataW.TrodAll enc Tryd.prog W' 0 (fun b => decide (b < W.heap.size)) true (t :: ts) (v :: vs) (d :: ds) (p ++ q) :=
  trodAll_cons_mk (Below.trod laidOut hr hrow h hb hlt) hrest
end Go.Proofs.YtpkjjiieglebbaaDoor
namespace Go.Proofs.YtpkjjiieglebbaaDoor
open Go Go.RowKit
def tab32q : List Int := [0, 1, 28, 2, 29, 14, 24, 3, 30, 22, 20, 15, 25, 17, 4, 8, 31, 27, 13, 23, 21, 19, 16, 7, 26, 12, 18, 6, 11, 5, 10, 9]
def tab64q : List Int := [0, 1, 56, 2, 57, 49, 28, 3, 61, 58, 42, 50, 38, 29, 17, 4, 62, 47, 59, 36, 45, 43, 51, 22, 53, 39, 33, 30, 24, 18, 12, 5, 63, 55, 48, 27, 60, 41, 37, 16, 46, 35, 44, 21, 52, 32, 23, 11, 54, 26, 40, 15, 34, 20, 31, 10, 25, 14, 19, 9, 13, 8, 7, 6]
def pow10q : List Int := [1, 10, 100, 1000, 10000, 100000, 1000000, 10000000, 100000000, 1000000000, 10000000000, 100000000000, 1000000000000, 10000000000000, 100000000000000, 1000000000000000, 10000000000000000, 100000000000000000, 1000000000000000000, 10000000000000000000]
def laidWithq (h : Array Obj) (g : Nat) (cs : Array Value) : Array Obj := h.modify g fun
  | .cells _ t frozen => .cells cs t frozen
  | o => o
/-- A world for the witness: the settled one, the listed variables holding what their initialisers lay. -/
noncomputable def laidWorldq (os : Os) : World :=
  { World.holding Tryd.prog os ⟨#[], #[], []⟩ with heap := laidWithq (laidWithq (laidWithq (laidWithq (World.holding Tryd.prog os ⟨#[], #[], []⟩).heap
      0 chgV.toArray) 1 (pow10q.map fun z => Value.int .u64 z).toArray)
      3 (tab32q.map fun z => Value.int .u8 z).toArray) 4 (tab64q.map fun z => Value.int .u8 z).toArray }
end Go.Proofs.YtpkjjiieglebbaaDoor
