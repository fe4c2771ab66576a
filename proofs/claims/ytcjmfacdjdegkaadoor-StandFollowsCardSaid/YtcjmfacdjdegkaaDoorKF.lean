/- StandFollows: for every input the law returns true, and each argument reads afterwards as it read before; the package variables that its row lists hold what the program's text lays (tied by the card). Conditions: none beyond the row's own. -/
import Derived.Test.YtcjmfacdjdegkaaDoorCA
import Derived.Test.YtcjmfacdjdegkaaDoorOA
import Derived.Test.YtcjmfacdjdegkaaDoorRG
import Derived.Test.YtcjmfacdjdegkaaDoorL1
namespace Go.Proofs.YtcjmfacdjdegkaaDoor
open Go Go.RowKit
theorem follow_size (l : List Act) : (followL l).1.length ≤ 256 ∧ (followL l).2.1.length ≤ 256 := by
  by_cases h : 256 < l.length
  · unfold followL
    rw [if_pos h]
    simp
  · cases hro : runO l (0, []) with
    | none =>
      obtain ⟨k, _, hF, _, _⟩ := follow_bad (by omega) hro
      rw [hF]
      simp
    | some st =>
      have hl := lives_len _ l rfl st hro
      rw [follow_good (by omega) hro]
      simp only [List.length_map]
      omega
set_option maxRecDepth 100000 in
set_option maxHeartbeats 2000000 in
theorem standFollows_any (a : Option Addr) (n c : Nat) (l : List Act) (w : World) (hA : Acts w a n l) (hC : Chg w)
    (hWk : ∀ W, Below w.heap.size w W → Calls Tryd.prog 24 #[] W fun e w' => e = .returned (.bool true) ∧ Below W.heap.size W w') :
    Calls Tryd.prog 6 #[.slice a n c] w fun e w' => e = .returned (.bool true) ∧ Below w.heap.size w w' := by
  have HWk := Lib.hid hWk
  have HX : Hid (∀ W, Below w.heap.size w W → Acts W a n l ∧ Chg W ∧ w.heap.size ≤ W.heap.size) := Lib.hid fun W h => ⟨hA.below h, hC.below h, h.size⟩
  obtain ⟨hz1, hz2⟩ := follow_size l
  obtain ⟨⟨ts, is, m, er⟩, hF⟩ : ∃ q, followL l = q := ⟨_, rfl⟩
  rw [hF] at hz1 hz2
  dsimp only at hz1 hz2
  have HF := Lib.hid hF
  have hm1 : ts.length ≤ maxLen := Nat.le_trans hz1 (by decide)
  have hm2 : is.length ≤ maxLen := Nat.le_trans hz2 (by decide)
  have HTS := Lib.hid (textsB_self ts)
  clear hA hC hWk hF
  go_enter Tryd.func6, Tryd.ntmps6
  go_wp2_with fail
  refine (follow_any a n c l _ (HX.out _ (Below.refl _ _)).1 (HX.out _ (Below.refl _ _)).2.1).mono ?_
  rw [HF.out]
  rintro e w1 ⟨v1, v2, rfl, hr1, hr2, hb1⟩
  dsimp only at hr1 hr2 ⊢
  obtain ⟨a1, c1, rfl⟩ := row_form hr1
  obtain ⟨a2, c2, rfl⟩ := row_form hr2
  obtain ⟨x1, x2, x3⟩ := HX.out _ hb1
  have t1 := texts_of_row hr1 rfl
  have i1 := ints_of_row hr2 rfl
  clear hr1 hr2 x2
  go_wp2_with fail
  refine (refFollow_any a n c l _ x1).mono ?_
  rw [HF.out]
  rintro e w2 ⟨v3, v4, rfl, hr3, hr4, hb2⟩
  dsimp only at hr3 hr4 ⊢
  obtain ⟨a3, c3, rfl⟩ := row_form hr3
  obtain ⟨a4, c4, rfl⟩ := row_form hr4
  have t2 := Lib.hid (texts_of_row hr3 rfl)
  have i2 := Lib.hid (ints_of_row hr4 rfl)
  have t3 := Lib.hid (t1.below hb2)
  have i3 := Lib.hid (i1.below hb2)
  have HW2 := Lib.hid (hb1.trans (hb2.mono x3))
  have HS2 := Lib.hid (HX.out _ HW2.out).2.2
  clear hr3 hr4 x1 x3 t1 i1 hb1 hb2
  go_wp2_with fail
  refine (sameTexts_any _ _ _ _ _ _ _ _ _ t3.out t2.out hm1 hm1).mono ?_
  rw [HTS.out]
  rintro e w3 ⟨rfl, hb3⟩
  have HW3 := Lib.hid (HW2.out.trans (hb3.mono HS2.out))
  have i4 := Lib.hid (i2.out.below hb3)
  have i5 := Lib.hid (i3.out.below hb3)
  have HS3 := Lib.hid (HX.out _ HW3.out).2.2
  clear hb3
  go_wp2_with fail
  refine (same_any _ _ _ _ _ _ _ _ _ i5.out i4.out hm2 hm2).mono ?_
  rw [show decide (is = is) = true from decide_eq_true rfl]
  rintro e w4 ⟨rfl, hb4⟩
  have HW := Lib.hid (HW3.out.trans (hb4.mono HS3.out))
  clear hb4
  go_wp2_with (go_at_call 24; refine (HWk.out _ HW.out).mono ?_; rintro e w9 ⟨rfl, hb9⟩)
  go_ret
  exact ⟨rfl, HW.out.trans (hb9.mono HW.out.size)⟩
end Go.Proofs.YtcjmfacdjdegkaaDoor
namespace Go.Proofs.YtcjmfacdjdegkaaDoor
open Go Go.RowKit Go.ChangeShapes Go.WideShapes Go.ChangeAt Go.Deep
open Go.ChangeMaps (open_string shut_string)
set_option maxRecDepth 100000 in
theorem standFollows_contract (H : Type) (enc : TypeId × Value → H) (W : World) (base : Nat) (args : Array Value) (ds gs : List (DataW H)) (before : List MemPlace)
    (hval : ∀ (j : Nat) t v, Tryd.f6.params[j]? = some t → args[j]? = some v → Value.okWide Tryd.prog W .any base t v)
    (hW : DataW.Whole enc Tryd.prog Tryd.f6.params.toList Rows.standFollowsSpec.vars false W args.toList ds gs before) (hL : laidMetH Tryd.prog Rows.standFollowsRow.laid W) :
    Calls Tryd.prog 6 args W fun e W' => ∃ v, e = .returned v ∧ Rows.standFollowsSpec.post enc Tryd.prog Tryd.f6 false true false false W args v W' := by
  have hW' := hW
  obtain ⟨p, q, hA0, hV, rfl, hfz, hnd⟩ := hW
  have hA : DataW.TrodAll enc Tryd.prog W 0 (fun _ => true) true Tryd.f6.params.toList args.toList ds p := hA0
  rw [Tryd.params6] at hA hval
  obtain ⟨v1, vs1, d1, ds1, p1, q1, hargs, rfl, rfl, h1, r1⟩ := trodAll_cons hA
  obtain ⟨rfl, rfl, rfl⟩ := trodAll_nil r1
  obtain rfl : args = #[v1] := by cases args; simp_all
  obtain ⟨rfl, rfl⟩ := trodVars_none hV
  have k1 := h1
  obtain ⟨a, n, c, l, rfl, x1⟩ := op_acts (hval 0 50 v1 rfl rfl) h1
  have hlt : ∀ x ∈ (p1 ++ []) ++ ([] : List MemPlace), x.block < W.heap.size := fun x hx => by simpa using hW'.lt x hx
  refine (standFollows_any a n c l W x1.1 (chg_of hL) (fun W' h => works_any W' ((chg_of hL).below h) ((tab_of hL).below h))).mono fun e W' ⟨he, hb⟩ => ?_
  subst he
  exact ⟨_, rfl, _, _, _, [], _, [], hW', trodAll_cons_mk (shut_bool Tryd.underlying4 _) trodAll_mk0,
    (trodAll_blockq hb (by kernel_rfl) (of_decide_eq_true (by kernel_rfl)) k1 (fun x hx => hlt x (by simp [hx])) trodAll_mk0),
    rfl, hb.frame _, fun h => by cases h⟩
theorem standFollows_laid (os : Os) : laidMet Tryd.prog Rows.standFollowsRow.laid ((laidWorldq os).forCall (fun _ _ => 0) ⟨#[], #[.slice none 0 0], []⟩).memory :=
  laidMet_of_run' 8 (by kernel_rfl) (by kernel_rfl)
theorem standFollows_reads (os : Os) {H : Type} (enc : TypeId × Value → H) : ∃ places, DataW.whole enc Tryd.prog ((laidWorldq os).forCall (fun _ _ => 0) ⟨#[], #[.slice none 0 0], []⟩).memory Tryd.f6.params.toList Rows.standFollowsSpec.vars false (#[.slice none 0 0] : Array Value).toList 8 = some ([.nil], [], places) :=
  ⟨[], by kernel_rfl⟩
set_option maxRecDepth 100000 in
theorem standFollows_lifted (os : Os) (started : os.Started) (H : Type) (enc : TypeId × Value → H) (F : Stop.Interp) :
    ReturnsInHanded {} Tryd.checked os 6 .any ((OpenSpec.ofChange Rows.standFollowsSpec).preRow enc Tryd.prog Tryd.f6 Rows.standFollowsRow.domain false Rows.standFollowsRow.laid) (((OpenSpec.ofChange Rows.standFollowsSpec).at F).post enc Tryd.prog Tryd.f6 false true false false) := by
  obtain ⟨places, hx⟩ := standFollows_reads os enc
  refine returnsInHanded_of_row (C := Tryd.checked) (s := OpenSpec.ofChange Rows.standFollowsSpec) own started (by kernel_rfl) Tryd.func6
    (witness_row_at (enc := enc) (C := Tryd.checked) false (laidWorldq os) #[.slice none 0 0] rfl (by kernel_rfl) (by kernel_rfl) (by kernel_rfl)
      (OpenSpec.preRow_of_cond 8 hx (by kernel_rfl) (fun k hk => by cases hk) (by kernel_rfl) (standFollows_laid os))) ?_
  intro W base args ds gs before hval hW _ _ _ hL _ _
  exact standFollows_contract H enc W base args ds gs before hval hW hL
set_option maxRecDepth 100000 in
theorem standFollows_said : Rows.StandFollowsSaid :=
  OpenClaim.holds_of_cond 6 Tryd.f6 rfl rfl rfl rfl rfl rfl rfl ⟨rfl, rfl, rfl, rfl, rfl⟩ rfl rfl rfl rfl rfl (by kernel_rfl) Tryd.func6 (by kernel_rfl)
    (of_decide_eq_true (by kernel_rfl)) (by unfold Func.isWrapper; first | (rw [if_pos (by decide +kernel)]; kernel_rfl) | (rw [if_neg (by decide +kernel)]; exact ⟨rfl, rfl⟩))
    (fun os started H enc _ F => by rw [OpenClaim.pre_eq_preRow]; exact standFollows_lifted os started H enc F)
theorem standFollows_plain (f : FuncId) (fn : Func) (hf : Tryd.pinned.checked.prog.funcNamed "pinaster/pinasterlaw01.StandFollows" = some f) (hfn : Tryd.pinned.checked.prog.funcs[f]? = some fn) :
    false = Tryd.pinned.checked.prog.looks [] ∧ ∀ (j : Nat) t, fn.params[j]? = some t → Tryd.pinned.checked.prog.wantsStandIn t = false := by
  obtain rfl : f = 6 := Option.some.inj ((show Tryd.prog.funcNamed "pinaster/pinasterlaw01.StandFollows" = some 6 by kernel_rfl).symm.trans hf) |>.symm
  obtain rfl : fn = Tryd.f6 := (Option.some.inj (Tryd.func6.symm.trans hfn)).symm
  refine ⟨by kernel_rfl, fun j t ht => ?_⟩
  rw [Tryd.params6] at ht
  have hm := Array.mem_of_getElem? ht
  simp only [List.mem_toArray, List.mem_cons, List.not_mem_nil, or_false] at hm
  obtain rfl := hm
  · exact (show Tryd.prog.wantsStandIn 50 = false by kernel_rfl)
/-- The card: whatever the input is, the law StandFollows returns true. -/
theorem standFollows_card : Rows.StandFollowsCardSaid :=
  Claim7.holds_tied_plain_at .later [] _ _ _ _ standFollows_said (fun _ h => by cases h) (by kernel_rfl) (fun _ h => by cases h) standFollows_row_tie rfl ⟨rfl, rfl⟩ (by kernel_rfl) rfl standFollows_plain (by kernel_rfl)
end Go.Proofs.YtcjmfacdjdegkaaDoor
