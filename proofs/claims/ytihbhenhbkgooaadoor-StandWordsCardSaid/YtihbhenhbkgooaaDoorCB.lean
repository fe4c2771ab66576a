/- StandWords: for every input the law returns true, and each argument reads afterwards as it read before; the package variables that its row lists hold what the program's text lays. Conditions: none beyond the row's own. -/
import Derived.Test.YtihbhenhbkgooaaDoorCA
namespace Go.Proofs.YtihbhenhbkgooaaDoor
open Go Go.RowKit Go.ChangeShapes Go.WideShapes Go.ChangeAt
open Go.ChangeMaps (open_string shut_string)
theorem trodAll_blocks {H : Type} {enc : TypeId × Value → H} {W W' : World} (hb : Below W.heap.size W W') {t : TypeId} {ts : List TypeId} {v : Value} {vs : List Value} {d : DataW H} {ds : List (DataW H)} {p q : List MemPlace}
    (hr : Tryd.prog.readableRec t = true) (hrow : t < Tryd.prog.types.size) (h : DataW.Trod enc Tryd.prog W 0 (fun _ => true) true t v d p) (hlt : ∀ x ∈ p, x.block < W.heap.size)
    (hrest : DataW.TrodAll enc Tryd.prog W' 0 (fun b => decide (b < W.heap.size)) true ts vs ds q) : DataW.TrodAll enc Tryd.prog W' 0 (fun b => decide (b < W.heap.size)) true (t :: ts) (v :: vs) (d :: ds) (p ++ q) :=
  trodAll_cons_mk (Below.trod laidOut hr hrow h hb hlt) hrest
set_option maxRecDepth 100000 in
theorem standWords_contract (H : Type) (enc : TypeId × Value → H) (W : World) (base : Nat) (args : Array Value) (ds gs : List (DataW H)) (before : List MemPlace)
    (hval : ∀ (j : Nat) t v, Tryd.f3.params[j]? = some t → args[j]? = some v → Value.okWide Tryd.prog W .any base t v)
    (hW : DataW.Whole enc Tryd.prog Tryd.f3.params.toList Rows.standWordsSpec.vars false W args.toList ds gs before) (hL : laidMetH Tryd.prog Rows.standWordsRow.laid W) :
    Calls Tryd.prog 3 args W fun e W' => ∃ v, e = .returned v ∧ Rows.standWordsSpec.post enc Tryd.prog Tryd.f3 false true false false W args v W' := by
  have hW' := hW
  obtain ⟨p, q, hA0, hV, rfl, hfz, hnd⟩ := hW
  have hA : DataW.TrodAll enc Tryd.prog W 0 (fun _ => true) true Tryd.f3.params.toList args.toList ds p := hA0
  rw [Tryd.params3] at hA hval
  obtain ⟨v0, vs0, d0, ds0, p0, q0, hargs, rfl, rfl, h0, r0⟩ := trodAll_cons hA
  obtain ⟨v1, vs1, d1, ds1, p1, q1, rfl, rfl, rfl, h1, r1⟩ := trodAll_cons r0
  obtain ⟨v2, vs2, d2, ds2, p2, q2, rfl, rfl, rfl, h2, r2⟩ := trodAll_cons r1
  obtain ⟨v3, vs3, d3, ds3, p3, q3, rfl, rfl, rfl, h3, r3⟩ := trodAll_cons r2
  obtain ⟨rfl, rfl, rfl⟩ := trodAll_nil r3
  obtain rfl : args = #[v0, v1, v2, v3] := by cases args; simp_all
  obtain ⟨rfl, rfl⟩ := trodVars_none hV
  have k0 := h0; have k1 := h1; have k2 := h2; have k3 := h3
  obtain ⟨s, rfl, rfl, rfl, hmax⟩ := open_string Tryd.underlying9 (hval 0 9 v0 rfl rfl) h0
  have o1 := hval 1 24 v1 rfl rfl
  have o2 := hval 2 29 v2 rfl rfl
  simp only [Value.okWide, Tryd.underlying24] at o1
  simp only [Value.okWide, Tryd.underlying29] at o2
  obtain ⟨cs1, rfl, _⟩ := o1
  obtain ⟨cs2, rfl, _⟩ := o2
  obtain ⟨k, rfl, rfl, rfl, wk⟩ := open_int Tryd.underlying3 (hval 3 3 v3 rfl rfl) h3
  obtain ⟨f1, h1⟩ := h1
  obtain ⟨f2, h2⟩ := h2
  obtain ⟨ra, rb, rc, rr, e1⟩ := op_rule h1
  obtain ⟨a, n, c, ts, lo, hi, pr, ne, e2, hT⟩ := op_stand h2
  obtain rfl : cs1 = #[.int .i64 ra, .int .i64 rb, .int .i64 rc, .int .i64 rr] := Array.ext' e1
  obtain rfl : cs2 = #[.slice a n c, .int .i64 lo, .int .i64 hi, .int .i64 pr, .int .i64 ne] := Array.ext' e2
  have hlt : ∀ x ∈ ([] ++ (p1 ++ (p2 ++ ([] ++ [])))) ++ ([] : List MemPlace), x.block < W.heap.size := fun x hx => by simpa using hW'.lt x hx
  refine (standWords_any s ra rb rc rr a n c ts lo hi pr ne k W hmax hT (chg_of hL) (tab_of hL)).mono fun e W' ⟨he, hb⟩ => ?_
  subst he
  exact ⟨_, rfl, _, _, _, [], _, [], hW', trodAll_cons_mk (shut_bool Tryd.underlying4 _) trodAll_mk0,
    trodAll_blocks hb (by kernel_rfl) (of_decide_eq_true (by kernel_rfl)) k0 (fun x hx => by cases hx)
      (trodAll_blocks hb (by kernel_rfl) (of_decide_eq_true (by kernel_rfl)) k1 (fun x hx => hlt x (by simp [hx]))
        (trodAll_blocks hb (by kernel_rfl) (of_decide_eq_true (by kernel_rfl)) k2 (fun x hx => hlt x (by simp [hx]))
          (trodAll_blocks hb (by kernel_rfl) (of_decide_eq_true (by kernel_rfl)) k3 (fun x hx => by cases hx) trodAll_mk0))),
    rfl, hb.frame _, fun h => by cases h⟩
end Go.Proofs.YtihbhenhbkgooaaDoor
