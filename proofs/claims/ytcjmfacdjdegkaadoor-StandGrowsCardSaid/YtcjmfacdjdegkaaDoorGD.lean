/- StandGrows: for every input the law returns true, and each argument reads afterwards as it read before; the package variables that its row lists hold what the program's text lays. Conditions: none beyond the row's own. -/
import Derived.Test.YtcjmfacdjdegkaaDoorCA
import Derived.Test.YtcjmfacdjdegkaaDoorL2
namespace Go.Proofs.YtcjmfacdjdegkaaDoor
open Go Go.RowKit Go.ChangeShapes Go.WideShapes Go.ChangeAt
set_option maxRecDepth 100000 in
theorem op_arr3 {H : Type} {enc : TypeId × Value → H} {w : World} {base : Nat} {sp : Nat → Bool} {held : Bool} {fuel : Nat} {cs : List Value} {x : DataW H × List MemPlace} (h : DataW.trod enc Tryd.prog w base sp held fuel 22 cs = some x) : ∃ p q r, cs = [.int .i64 p, .int .i64 q, .int .i64 r] := by
  obtain ⟨zs, m, _, _, hl2, hz, hg⟩ := DataW.trod_array Tryd.underlying22 h
  rw [cArr3] at hl2
  match cs, hl2 with
  | [c0, c1, c2], _ =>
    obtain ⟨z0, d0⟩ : ∃ y, zs[0]? = some y := ⟨_, List.getElem?_eq_getElem (by omega)⟩
    obtain ⟨z1, d1⟩ : ∃ y, zs[1]? = some y := ⟨_, List.getElem?_eq_getElem (by omega)⟩
    obtain ⟨z2, d2⟩ : ∃ y, zs[2]? = some y := ⟨_, List.getElem?_eq_getElem (by omega)⟩
    have g0 := (hg 0 (by omega)).trans d0
    have g1 := (hg 1 (by omega)).trans d1
    have g2 := (hg 2 (by omega)).trans d2
    simp only [cInt, Nat.mul_one, List.drop_zero, List.drop_succ_cons, List.take_succ_cons, List.take_zero] at g0 g1 g2
    obtain ⟨p0, h0, _⟩ := op_int g0
    obtain ⟨p1, h1, _⟩ := op_int g1
    obtain ⟨p2, h2, _⟩ := op_int g2
    simp only [List.cons.injEq, and_true] at h0 h1 h2
    exact ⟨p0, p1, p2, by rw [h0, h1, h2]⟩
theorem trodAll_block {H : Type} {enc : TypeId × Value → H} {W W' : World} (hb : Below W.heap.size W W') {t : TypeId} {ts : List TypeId} {v : Value} {vs : List Value} {d : DataW H} {ds : List (DataW H)} {p q : List MemPlace}
    (hr : Tryd.prog.readableRec t = true) (hrow : t < Tryd.prog.types.size) (h : DataW.Trod enc Tryd.prog W 0 (fun _ => true) true t v d p) (hlt : ∀ x ∈ p, x.block < W.heap.size)
    (hrest : DataW.TrodAll enc Tryd.prog W' 0 (fun b => decide (b < W.heap.size)) true ts vs ds q) : DataW.TrodAll enc Tryd.prog W' 0 (fun b => decide (b < W.heap.size)) true (t :: ts) (v :: vs) (d :: ds) (p ++ q) :=
  trodAll_cons_mk (Below.trod laidOut hr hrow h hb hlt) hrest
set_option maxRecDepth 100000 in
theorem standGrows_contract (H : Type) (enc : TypeId × Value → H) (W : World) (base : Nat) (args : Array Value) (ds gs : List (DataW H)) (before : List MemPlace)
    (hval : ∀ (j : Nat) t v, Tryd.f4.params[j]? = some t → args[j]? = some v → Value.okWide Tryd.prog W .any base t v)
    (hW : DataW.Whole enc Tryd.prog Tryd.f4.params.toList Rows.standGrowsSpec.vars false W args.toList ds gs before) (hL : laidMetH Tryd.prog Rows.standGrowsRow.laid W) :
    Calls Tryd.prog 4 args W fun e W' => ∃ v, e = .returned v ∧ Rows.standGrowsSpec.post enc Tryd.prog Tryd.f4 false true false false W args v W' := by
  have hW' := hW
  obtain ⟨p, q, hA0, hV, rfl, hfz, hnd⟩ := hW
  have hA : DataW.TrodAll enc Tryd.prog W 0 (fun _ => true) true Tryd.f4.params.toList args.toList ds p := hA0
  rw [Tryd.params4] at hA hval
  obtain ⟨v1, vs1, d1, ds1, p1, q1, hargs, rfl, rfl, h1, r1⟩ := trodAll_cons hA
  obtain ⟨v2, vs2, d2, ds2, p2, q2, rfl, rfl, rfl, h2, r2⟩ := trodAll_cons r1
  obtain ⟨v3, vs3, d3, ds3, p3, q3, rfl, rfl, rfl, h3, r3⟩ := trodAll_cons r2
  obtain ⟨rfl, rfl, rfl⟩ := trodAll_nil r3
  obtain rfl : args = #[v1, v2, v3] := by cases args; simp_all
  obtain ⟨rfl, rfl⟩ := trodVars_none hV
  have k1 := h1; have k2 := h2; have k3 := h3
  have o1 := hval 0 24 v1 rfl rfl
  have o2 := hval 1 29 v2 rfl rfl
  have o3 := hval 2 22 v3 rfl rfl
  simp only [Value.okWide, Tryd.underlying24] at o1
  simp only [Value.okWide, Tryd.underlying29] at o2
  simp only [Value.okWide, Tryd.underlying22] at o3
  obtain ⟨cs1, rfl, _⟩ := o1
  obtain ⟨cs2, rfl, _⟩ := o2
  obtain ⟨cs3, rfl, _⟩ := o3
  obtain ⟨f1, h1⟩ := h1
  obtain ⟨f2, h2⟩ := h2
  obtain ⟨f3, h3⟩ := h3
  obtain ⟨ra, rb, rc, rr, e1⟩ := op_rule h1
  obtain ⟨a, n, c, ts, lo, hi, pr, ne, e2, hT⟩ := op_stand h2
  obtain ⟨n0, n1, n2, e3⟩ := op_arr3 h3
  obtain rfl : cs1 = #[.int .i64 ra, .int .i64 rb, .int .i64 rc, .int .i64 rr] := Array.ext' e1
  obtain rfl : cs2 = #[.slice a n c, .int .i64 lo, .int .i64 hi, .int .i64 pr, .int .i64 ne] := Array.ext' e2
  obtain rfl : cs3 = #[.int .i64 n0, .int .i64 n1, .int .i64 n2] := Array.ext' e3
  have hlt : ∀ x ∈ (p1 ++ (p2 ++ (p3 ++ []))) ++ ([] : List MemPlace), x.block < W.heap.size := fun x hx => by simpa using hW'.lt x hx
  refine (standGrows_any ra rb rc rr a n c ts lo hi pr ne n0 n1 n2 W hT (chg_of hL) (tab_of hL)).mono fun e W' ⟨he, hb⟩ => ?_
  subst he
  exact ⟨_, rfl, _, _, _, [], _, [], hW', trodAll_cons_mk (shut_bool Tryd.underlying4 _) trodAll_mk0,
    trodAll_block hb (by kernel_rfl) (of_decide_eq_true (by kernel_rfl)) k1 (fun x hx => hlt x (by simp [hx]))
      (trodAll_block hb (by kernel_rfl) (of_decide_eq_true (by kernel_rfl)) k2 (fun x hx => hlt x (by simp [hx]))
        (trodAll_block hb (by kernel_rfl) (of_decide_eq_true (by kernel_rfl)) k3 (fun x hx => hlt x (by simp [hx])) trodAll_mk0)),
    rfl, hb.frame _, fun h => by cases h⟩
def tab32 : List Int := [0, 1, 28, 2, 29, 14, 24, 3, 30, 22, 20, 15, 25, 17, 4, 8, 31, 27, 13, 23, 21, 19, 16, 7, 26, 12, 18, 6, 11, 5, 10, 9]
def tab64 : List Int := [0, 1, 56, 2, 57, 49, 28, 3, 61, 58, 42, 50, 38, 29, 17, 4, 62, 47, 59, 36, 45, 43, 51, 22, 53, 39, 33, 30, 24, 18, 12, 5, 63, 55, 48, 27, 60, 41, 37, 16, 46, 35, 44, 21, 52, 32, 23, 11, 54, 26, 40, 15, 34, 20, 31, 10, 25, 14, 19, 9, 13, 8, 7, 6]
def pow10 : List Int := [1, 10, 100, 1000, 10000, 100000, 1000000, 10000000, 100000000, 1000000000, 10000000000, 100000000000, 1000000000000, 10000000000000, 100000000000000, 1000000000000000, 10000000000000000, 100000000000000000, 1000000000000000000, 10000000000000000000]
def laidWith (h : Array Obj) (g : Nat) (cs : Array Value) : Array Obj := h.modify g fun
  | .cells _ t frozen => .cells cs t frozen
  | o => o
/-- A world for the witness: the settled one, the listed variables holding what their initialisers lay. -/
noncomputable def laidWorld (os : Os) : World :=
  { World.holding Tryd.prog os ⟨#[], #[], []⟩ with heap := laidWith (laidWith (laidWith (laidWith (World.holding Tryd.prog os ⟨#[], #[], []⟩).heap
      0 chgV.toArray) 1 (pow10.map fun z => Value.int .u64 z).toArray)
      3 (tab32.map fun z => Value.int .u8 z).toArray) 4 (tab64.map fun z => Value.int .u8 z).toArray }
theorem standGrows_laid (os : Os) : laidMet Tryd.prog Rows.standGrowsRow.laid ((laidWorld os).forCall (fun _ _ => 0) ⟨#[], #[.agg #[.int .i64 0, .int .i64 0, .int .i64 0, .int .i64 0], .agg #[.slice none 0 0, .int .i64 0, .int .i64 0, .int .i64 0, .int .i64 0], .agg #[.int .i64 0, .int .i64 0, .int .i64 0]], []⟩).memory :=
  laidMet_of_run' 8 (by kernel_rfl) (by kernel_rfl)
theorem standGrows_reads (os : Os) {H : Type} (enc : TypeId × Value → H) : ∃ places, DataW.whole enc Tryd.prog ((laidWorld os).forCall (fun _ _ => 0) ⟨#[], #[.agg #[.int .i64 0, .int .i64 0, .int .i64 0, .int .i64 0], .agg #[.slice none 0 0, .int .i64 0, .int .i64 0, .int .i64 0, .int .i64 0], .agg #[.int .i64 0, .int .i64 0, .int .i64 0]], []⟩).memory Tryd.f4.params.toList Rows.standGrowsSpec.vars false (#[.agg #[.int .i64 0, .int .i64 0, .int .i64 0, .int .i64 0], .agg #[.slice none 0 0, .int .i64 0, .int .i64 0, .int .i64 0, .int .i64 0], .agg #[.int .i64 0, .int .i64 0, .int .i64 0]] : Array Value).toList 8 = some ([.agg [.agg [.lit (.int .i64 0), .lit (.int .i64 0), .lit (.int .i64 0)], .lit (.int .i64 0)], .agg [.nil, .agg [.lit (.int .i64 0), .lit (.int .i64 0)], .lit (.int .i64 0), .lit (.int .i64 0)], .agg [.lit (.int .i64 0), .lit (.int .i64 0), .lit (.int .i64 0)]], [], places) :=
  ⟨[], by kernel_rfl⟩
set_option maxRecDepth 100000 in
theorem standGrows_lifted (os : Os) (started : os.Started) (H : Type) (enc : TypeId × Value → H) (F : Stop.Interp) :
    ReturnsInHanded {} Tryd.checked os 4 .any ((OpenSpec.ofChange Rows.standGrowsSpec).preRow enc Tryd.prog Tryd.f4 Rows.standGrowsRow.domain false Rows.standGrowsRow.laid) (((OpenSpec.ofChange Rows.standGrowsSpec).at F).post enc Tryd.prog Tryd.f4 false true false false) := by
  obtain ⟨places, hx⟩ := standGrows_reads os enc
  refine returnsInHanded_of_row (C := Tryd.checked) (s := OpenSpec.ofChange Rows.standGrowsSpec) own started (by kernel_rfl) Tryd.func4
    (witness_row_at (enc := enc) (C := Tryd.checked) false (laidWorld os) #[.agg #[.int .i64 0, .int .i64 0, .int .i64 0, .int .i64 0], .agg #[.slice none 0 0, .int .i64 0, .int .i64 0, .int .i64 0, .int .i64 0], .agg #[.int .i64 0, .int .i64 0, .int .i64 0]] rfl (by kernel_rfl) (by kernel_rfl) (by kernel_rfl)
      (OpenSpec.preRow_of_cond 8 hx (by kernel_rfl) (fun k hk => by cases hk) (by kernel_rfl) (standGrows_laid os))) ?_
  intro W base args ds gs before hval hW _ _ _ hL _ _
  exact standGrows_contract H enc W base args ds gs before hval hW hL
set_option maxRecDepth 100000 in
theorem standGrows_said : Rows.StandGrowsSaid :=
  OpenClaim.holds_of_cond 4 Tryd.f4 rfl rfl rfl rfl rfl rfl rfl ⟨rfl, rfl, rfl, rfl, rfl⟩ rfl rfl rfl rfl rfl (by kernel_rfl) Tryd.func4 (by kernel_rfl)
    (of_decide_eq_true (by kernel_rfl)) (by unfold Func.isWrapper; first | (rw [if_pos (by decide +kernel)]; kernel_rfl) | (rw [if_neg (by decide +kernel)]; exact ⟨rfl, rfl⟩))
    (fun os started H enc _ F => by rw [OpenClaim.pre_eq_preRow]; exact standGrows_lifted os started H enc F)
theorem standGrows_plain (f : FuncId) (fn : Func) (hf : Tryd.pinned.checked.prog.funcNamed "pinaster/pinasterlaw01.StandGrows" = some f) (hfn : Tryd.pinned.checked.prog.funcs[f]? = some fn) :
    false = Tryd.pinned.checked.prog.looks [] ∧ ∀ (j : Nat) t, fn.params[j]? = some t → Tryd.pinned.checked.prog.wantsStandIn t = false := by
  obtain rfl : f = 4 := Option.some.inj ((show Tryd.prog.funcNamed "pinaster/pinasterlaw01.StandGrows" = some 4 by kernel_rfl).symm.trans hf) |>.symm
  obtain rfl : fn = Tryd.f4 := (Option.some.inj (Tryd.func4.symm.trans hfn)).symm
  refine ⟨by kernel_rfl, fun j t ht => ?_⟩
  rw [Tryd.params4] at ht
  have hm := Array.mem_of_getElem? ht
  simp only [List.mem_toArray, List.mem_cons, List.not_mem_nil, or_false] at hm
  rcases hm with rfl | rfl | rfl
  · exact (show Tryd.prog.wantsStandIn 24 = false by kernel_rfl)
  · exact (show Tryd.prog.wantsStandIn 29 = false by kernel_rfl)
  · exact (show Tryd.prog.wantsStandIn 22 = false by kernel_rfl)
/-- The card: whatever the input is, the law StandGrows returns true. -/
theorem standGrows_card : Rows.StandGrowsCardSaid :=
  Claim7.holds_tied_plain_at .later [] _ _ _ _ standGrows_said (fun _ h => by cases h) (by kernel_rfl) (fun _ h => by cases h) standGrows_row_tie rfl ⟨rfl, rfl⟩ (by kernel_rfl) rfl standGrows_plain (by kernel_rfl)
end Go.Proofs.YtcjmfacdjdegkaaDoor
