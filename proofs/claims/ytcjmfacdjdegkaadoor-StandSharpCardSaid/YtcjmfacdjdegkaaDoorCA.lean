/- What the rows' lists of package variables give, and a world that holds them. Conditions: none. -/
import Derived.Test.YtcjmfacdjdegkaaDoorOP
import Derived.Test.YtcjmfacdjdegkaaDoorCards
import Derived.Test.YtcjmfacdjdegkaaDoorTie
import Derived.Deep.DeepHandedRow
import Derived.Lib.LaidTab
namespace Go.Proofs.YtcjmfacdjdegkaaDoor
open Go Go.RowKit Go.ChangeShapes Go.WideShapes Go.ChangeAt
theorem own : ownKnob Tryd.prog.godebug = none := by kernel_rfl
theorem laidOut : laidOutB Tryd.prog = true := by kernel_rfl
theorem gTabType : (Tryd.prog.globals[1]?).map (·.type) = some 164 := by kernel_rfl
theorem cTab : Tryd.prog.cellsOf 164 = 20 := by kernel_rfl
theorem cU64 : Tryd.prog.cellsOf 154 = 1 := by kernel_rfl
theorem gChg : Tryd.prog.globalNamed "pinaster/stand.changes" = some 0 := by kernel_rfl
theorem gChgType : (Tryd.prog.globals[0]?).map (·.type) = some 131 := by kernel_rfl
theorem cChange : Tryd.prog.cellsOf 130 = 3 := by kernel_rfl
theorem cChanges : Tryd.prog.cellsOf 131 = 36 := by kernel_rfl
theorem cArr2 : Tryd.prog.cellsOf 128 = 2 := by kernel_rfl
/-- The list of the package variables of this seat's rows. -/
def laidL : List (String × DataW Unit) := Rows.standWordsRow.laid
theorem tab_of {W : World} (h : laidMetH Tryd.prog laidL W) : Tab W :=
  Lib.tabIs_of_head (rest := []) gTab gTabType Tryd.underlying164 Tryd.underlying154 cU64 cTab (laidMet.filter (fun x => x.1 == "internal/strconv.uint64pow10") h)
section
variable {H : Type} {enc : TypeId × Value → H} {w : World} {base : Nat} {sp : Nat → Bool} {held : Bool} {fuel : Nat} {cs : List Value}
set_option maxRecDepth 100000 in
theorem op_change {p : List MemPlace} {a b c : Int} (h : DataW.trod enc Tryd.prog w base sp held fuel 130 cs = some (.agg [.agg [.lit (.int .i64 a), .lit (.int .i64 b)], .lit (.int .i64 c)], p)) : cs = [.int .i64 a, .int .i64 b, .int .i64 c] := by
  obtain ⟨xs, n, _, hx, hl, hxl, hf⟩ := DataW.trod_struct Tryd.underlying130 h
  rw [cChange] at hl
  match cs, hl with
  | [c0, c1, c2], _ =>
    have hx2 : xs.length = 2 := hxl
    match xs, hx2 with
    | [y0, y1], _ =>
      simp only [List.map_cons, List.map_nil, Prod.mk.injEq, DataW.agg.injEq, List.cons.injEq, and_true] at hx
      have f0 := hf 0 _ rfl
      have f1 := hf 1 _ rfl
      simp only [List.getElem_toArray, List.getElem_cons_zero, List.getElem_cons_succ, cInt, cArr2, List.drop_zero, List.drop_succ_cons, List.take_succ_cons, List.take_zero, List.getElem?_cons_zero, List.getElem?_cons_succ] at f0 f1
      obtain ⟨zs, m, _, hz, hl2, hzl, hg⟩ := DataW.trod_array Tryd.underlying128 f0
      match zs, hzl with
      | [z0, z1], _ =>
        have g0 := hg 0 (by omega)
        have g1 := hg 1 (by omega)
        simp only [cInt, Nat.mul_one, List.drop_zero, List.drop_succ_cons, List.take_succ_cons, List.take_zero, List.getElem?_cons_zero, List.getElem?_cons_succ] at g0 g1
        obtain ⟨p0, h0, e0, _⟩ := DataW.trod_int Tryd.underlying3 g0
        obtain ⟨p1, h1, e1, _⟩ := DataW.trod_int Tryd.underlying3 g1
        obtain ⟨p2, h2, e2, _⟩ := DataW.trod_int Tryd.underlying3 f1
        subst e0 e1 e2
        rw [hz] at hx
        simp only [List.cons.injEq, and_true] at h0 h1 h2
        simp only [List.map_cons, List.map_nil, DataW.agg.injEq, List.cons.injEq, DataW.lit.injEq, Lit.int.injEq, true_and, and_true] at hx
        rw [h0, h1, h2, hx.1.1.1, hx.1.1.2, hx.1.2]
theorem rows3 : ∀ (L : List (Int × Int × Int)) (cs : List Value), cs.length = 3 * L.length → (∀ i c, L[i]? = some c → (cs.drop (i * 3)).take 3 = [.int .i64 c.1, .int .i64 c.2.1, .int .i64 c.2.2]) → cs = L.flatMap fun c => [.int .i64 c.1, .int .i64 c.2.1, .int .i64 c.2.2]
  | [], cs, hl, _ => by simpa using hl
  | c :: L, cs, hl, h => by
    have h0 := h 0 c rfl
    simp only [Nat.zero_mul, List.drop_zero] at h0
    have ih := rows3 L (cs.drop 3) (by simp at hl ⊢; omega) (fun i d hd => by
      have := h (i + 1) d (by simpa using hd)
      rw [List.drop_drop, show 3 + i * 3 = (i + 1) * 3 by omega]; exact this)
    rw [List.flatMap_cons, ← h0, ← ih, List.take_append_drop]
end
theorem chg_of {W : World} (h : laidMetH Tryd.prog laidL W) : Chg W := by
  have h' : laidMet Tryd.prog [("pinaster/stand.changes", Rows.laid_pinaster_stand_changes)] W := laidMet.filter (fun x => x.1 == "pinaster/stand.changes") h
  obtain ⟨ps, ⟨g', t', cs, fuel, p, q, hg', ht', hvar, hd, _, _⟩, _⟩ := h'
  obtain rfl := Option.some.inj (gChg.symm.trans hg')
  obtain rfl := Option.some.inj (gChgType.symm.trans ht')
  obtain ⟨xs, m, _, hx, hl, hxl, hf⟩ := DataW.trod_array Tryd.underlying131 hd
  rw [cChanges] at hl
  have hdata : xs.map (·.1) = chgL.map fun c => (.agg [.agg [.lit (.int .i64 c.1), .lit (.int .i64 c.2.1)], .lit (.int .i64 c.2.2)] : DataW Unit) := by
    have := congrArg Prod.fst hx
    simp only at this
    exact (DataW.agg.inj (this : Rows.laid_pinaster_stand_changes = _)).symm
  have hcs : cs.toList = chgV := rows3 chgL cs.toList (by rw [hl]; rfl) (fun i c hc => by
    have hi : i < 12 := (List.getElem?_eq_some_iff.1 hc).1
    have f := hf i hi
    rw [cChange] at f
    obtain ⟨y, hy⟩ : ∃ y, xs[i]? = some y := ⟨_, List.getElem?_eq_getElem (by omega)⟩
    have e : y.1 = (.agg [.agg [.lit (.int .i64 c.1), .lit (.int .i64 c.2.1)], .lit (.int .i64 c.2.2)] : DataW Unit) := by
      have := congrArg (·[i]?) hdata
      simp only [List.getElem?_map, hy, hc, Option.map_some, Option.some.injEq] at this
      exact this
    rw [hy] at f
    obtain ⟨d, pl⟩ := y
    dsimp only at e
    subst e
    exact op_change f)
  unfold World.var? at hvar
  rw [gChg] at hvar
  simp only [Option.bind_some] at hvar
  split at hvar
  · rename_i cs' t fr hb
    simp only [Option.some.injEq] at hvar
    subst hvar
    exact ⟨t, fr, by rw [hb, ← hcs]⟩
  · cases hvar
end Go.Proofs.YtcjmfacdjdegkaaDoor
