/- StandThins: for every input the law returns true, and each argument reads afterwards as it read before; the package variables that its row lists hold what the program's text lays (tied by the card). Conditions: none beyond the row's own. -/
import Derived.Test.YtpkjjiieglebbaaDoorCA
import Derived.Test.YtpkjjiieglebbaaDoorRM
import Derived.Test.YtpkjjiieglebbaaDoorRQ
namespace Go.Proofs.YtpkjjiieglebbaaDoor
open Go Go.RowKit
theorem standQ_self' (s : Stand) : standQ s s = true := by
  unfold standQ
  rw [treesQ_self]
  simp
set_option maxRecDepth 100000 in
set_option maxHeartbeats 4000000 in
theorem standThins_any (a : Option Addr) (n c : Nat) (ts : List Tree) (lo hi pr ne gap : Int) (oa : Option Addr) (on oc : Nat) (ol : List Int) (w : World) (hT : Trees w a n c ts) (hO : IntsAt w oa on ol) (hof : ∀ x ∈ ol, -9223372036854775808 ≤ x ∧ x ≤ 9223372036854775807) (hom : on ≤ maxLen)
    (hWk : ∀ W, Below w.heap.size w W → Calls Tryd.prog 24 #[] W fun e w' => e = .returned (.bool true) ∧ Below W.heap.size W w') :
    Calls Tryd.prog 5 #[.agg #[.slice a n c, .int .i64 lo, .int .i64 hi, .int .i64 pr, .int .i64 ne], .int .i64 gap, .slice oa on oc] w fun e w' => e = .returned (.bool true) ∧ Below w.heap.size w w' := by
  have HWk := Lib.hid hWk
  have HOF := Lib.hid hof
  have HX : Hid (∀ W, Below (w.heap.size + 1) (w.alloc (.cells #[.slice a n c, .int .i64 lo, .int .i64 hi, .int .i64 pr, .int .i64 ne] 29)) W → Box W w.heap.size #[.slice a n c, .int .i64 lo, .int .i64 hi, .int .i64 pr, .int .i64 ne] 29 ∧ Trees W a n c ts ∧ IntsAt W oa on ol ∧ w.heap.size + 1 ≤ W.heap.size ∧ Below w.heap.size w W) := Lib.hid fun W h => by
    have hB : Below w.heap.size w W := ((Below.refl _ _).alloc (Nat.le_refl _) _).trans (h.mono (by omega))
    exact ⟨(Box.new w _ _).below h (by omega), hT.below hB, hO.below hB, by have := h.size; simpa using this, hB⟩
  clear hT hO hWk hof
  obtain ⟨TR, hTR⟩ : ∃ p, thinR ⟨ts, lo, hi, pr, ne⟩ gap = p := ⟨_, rfl⟩
  obtain ⟨TE, hTE⟩ : ∃ p, thinE ⟨ts, lo, hi, pr, ne⟩ gap = p := ⟨_, rfl⟩
  obtain ⟨LS, hLS⟩ : ∃ p, leftS ⟨ts, lo, hi, pr, ne⟩ ol = p := ⟨_, rfl⟩
  obtain ⟨LE, hLE⟩ : ∃ p, leftE ⟨ts, lo, hi, pr, ne⟩ ol = p := ⟨_, rfl⟩
  have hkl : TR.1.length ≤ 14 := by
    by_cases h : thinE ⟨ts, lo, hi, pr, ne⟩ gap = 0
    · have := (least_facts h).len; rwa [hTR] at this
    · have : thinR ⟨ts, lo, hi, pr, ne⟩ gap = ([], 0) := by unfold thinR; rw [if_neg h]
      rw [← hTR, this]; simp
  have hTRm : TR.1.length ≤ maxLen := by unfold maxLen; omega
  obtain ⟨tl, tz⟩ := TR
  obtain ⟨us, l2, h2, p2, n2⟩ := LS
  have HTR := Lib.hid hTR
  have HTE := Lib.hid hTE
  have HLS := Lib.hid hLS
  have HLE := Lib.hid hLE
  have HSQ := Lib.hid (standQ_self' ⟨us, l2, h2, p2, n2⟩)
  clear hTR hTE hLS hLE hkl
  dsimp only at hTRm
  go_enter Tryd.func5, Tryd.ntmps5
  go_wp2_with fail
  refine (thin_any a n c ts lo hi pr ne gap _ (HX.out _ (Below.refl _ _)).2.1).mono ?_
  rw [HTR.out, HTE.out]
  rintro e w1 ⟨v1, rfl, hr1, hb1⟩
  dsimp only at hr1 ⊢
  obtain ⟨a1, c1, rfl⟩ := row_form hr1
  have S1 : Below (w.heap.size + 1) (w.alloc (.cells #[.slice a n c, .int .i64 lo, .int .i64 hi, .int .i64 pr, .int .i64 ne] 29)) w1 := hb1.mono (by simp)
  have i1 := ints_natsI hr1
  have T1 := (HX.out _ S1).2.1
  have X1 := (HX.out _ S1).1
  have e0 : w1.cell? ⟨w.heap.size, 0, none⟩ = some (.slice a n c) := X1.cell 0
  have e1 : w1.cell? ⟨w.heap.size, 1, none⟩ = some (.int .i64 lo) := X1.cell 1
  have e2 : w1.cell? ⟨w.heap.size, 2, none⟩ = some (.int .i64 hi) := X1.cell 2
  have e3 : w1.cell? ⟨w.heap.size, 3, none⟩ = some (.int .i64 pr) := X1.cell 3
  have e4 : w1.cell? ⟨w.heap.size, 4, none⟩ = some (.int .i64 ne) := X1.cell 4
  have HS1 := Lib.hid S1
  clear hr1 hb1 X1 S1
  go_wp2_with fail
  refine (refThin_any a n c ts lo hi pr ne gap _ T1).mono ?_
  unfold ThinQ
  rw [HTR.out, HTE.out]
  rintro e w2 ⟨a2, c2, rfl, hr2, hb2⟩
  dsimp only at hr2 ⊢
  have HS2 := Lib.hid (HS1.out.trans (hb2.mono (HX.out _ HS1.out).2.2.2.1))
  have i2 := Lib.hid (ints_natsI hr2)
  have i3 := Lib.hid (i1.below hb2)
  clear hr2 hb2 T1 i1 e0 e1 e2 e3 e4
  go_wp2_with fail
  refine (same_any _ _ _ _ _ _ _ _ _ i3.out i2.out hTRm hTRm).mono ?_
  rw [show decide (natsI tl = natsI tl) = true from decide_eq_true rfl]
  rintro e w3 ⟨rfl, hb3⟩
  have S3 := HS2.out.trans (hb3.mono (HX.out _ HS2.out).2.2.2.1)
  obtain ⟨X3, T3, I3, z3, _⟩ := HX.out _ S3
  have e0 : w3.cell? ⟨w.heap.size, 0, none⟩ = some (.slice a n c) := X3.cell 0
  have e1 : w3.cell? ⟨w.heap.size, 1, none⟩ = some (.int .i64 lo) := X3.cell 1
  have e2 : w3.cell? ⟨w.heap.size, 2, none⟩ = some (.int .i64 hi) := X3.cell 2
  have e3 : w3.cell? ⟨w.heap.size, 3, none⟩ = some (.int .i64 pr) := X3.cell 3
  have e4 : w3.cell? ⟨w.heap.size, 4, none⟩ = some (.int .i64 ne) := X3.cell 4
  have HS3 := Lib.hid S3
  clear hb3 X3 S3 i2 i3
  go_wp2_with fail
  refine (left_any a oa n c on oc ts ol lo hi pr ne _ T3 HOF.out hom I3).mono ?_
  rw [HLS.out, HLE.out]
  rintro e w4 ⟨a4, n4, c4, rfl, hT4, hb4⟩
  dsimp only at hT4 ⊢
  have S4 := HS3.out.trans (hb4.mono z3)
  have S4a := S4.alloc (HX.out _ S4).2.2.2.1 (.cells #[.slice a4 n4 c4, .int .i64 l2, .int .i64 h2, .int .i64 p2, .int .i64 n2] 29)
  have T4a := Lib.hid (hT4.below ((Below.refl _ w4).alloc (Nat.le_refl _) (.cells #[.slice a4 n4 c4, .int .i64 l2, .int .i64 h2, .int .i64 p2, .int .i64 n2] 29)))
  have B4a := Lib.hid (Box.new w4 #[.slice a4 n4 c4, .int .i64 l2, .int .i64 h2, .int .i64 p2, .int .i64 n2] 29)
  obtain ⟨X4, T4, I4, z4, _⟩ := HX.out _ S4a
  have g0 : (w4.alloc (.cells #[.slice a4 n4 c4, .int .i64 l2, .int .i64 h2, .int .i64 p2, .int .i64 n2] 29)).cell? ⟨w.heap.size, 0, none⟩ = some (.slice a n c) := X4.cell 0
  have g1 : (w4.alloc (.cells #[.slice a4 n4 c4, .int .i64 l2, .int .i64 h2, .int .i64 p2, .int .i64 n2] 29)).cell? ⟨w.heap.size, 1, none⟩ = some (.int .i64 lo) := X4.cell 1
  have g2 : (w4.alloc (.cells #[.slice a4 n4 c4, .int .i64 l2, .int .i64 h2, .int .i64 p2, .int .i64 n2] 29)).cell? ⟨w.heap.size, 2, none⟩ = some (.int .i64 hi) := X4.cell 2
  have g3 : (w4.alloc (.cells #[.slice a4 n4 c4, .int .i64 l2, .int .i64 h2, .int .i64 p2, .int .i64 n2] 29)).cell? ⟨w.heap.size, 3, none⟩ = some (.int .i64 pr) := X4.cell 3
  have g4 : (w4.alloc (.cells #[.slice a4 n4 c4, .int .i64 l2, .int .i64 h2, .int .i64 p2, .int .i64 n2] 29)).cell? ⟨w.heap.size, 4, none⟩ = some (.int .i64 ne) := X4.cell 4
  have HS4 := Lib.hid S4a
  clear hT4 hb4 X4 S4 S4a e0 e1 e2 e3 e4 T3 I3
  go_wp2_with fail
  refine (refLeft_any a oa n c on oc ts ol lo hi pr ne _ T4 hom I4).mono ?_
  unfold LeftQ
  rw [HLS.out, HLE.out]
  rintro e w5 ⟨a5, n5, c5, rfl, hT5, hb5⟩
  dsimp only at hT5 ⊢
  have S5 := HS4.out.trans (hb5.mono z4)
  have S5a := S5.alloc (HX.out _ S5).2.2.2.1 (.cells #[.slice a5 n5 c5, .int .i64 l2, .int .i64 h2, .int .i64 p2, .int .i64 n2] 29)
  have T5a := hT5.below ((Below.refl _ w5).alloc (Nat.le_refl _) (.cells #[.slice a5 n5 c5, .int .i64 l2, .int .i64 h2, .int .i64 p2, .int .i64 n2] 29))
  have T5b := (T4a.out.below hb5).below ((Below.refl _ w5).alloc (Nat.le_refl _) (.cells #[.slice a5 n5 c5, .int .i64 l2, .int .i64 h2, .int .i64 p2, .int .i64 n2] 29))
  have B5 := (B4a.out.below hb5 (by simp)).alloc (.cells #[.slice a5 n5 c5, .int .i64 l2, .int .i64 h2, .int .i64 p2, .int .i64 n2] 29)
  have k0 : (w5.alloc (.cells #[.slice a5 n5 c5, .int .i64 l2, .int .i64 h2, .int .i64 p2, .int .i64 n2] 29)).cell? ⟨w4.heap.size, 0, none⟩ = some (.slice a4 n4 c4) := B5.cell 0
  have k1 : (w5.alloc (.cells #[.slice a5 n5 c5, .int .i64 l2, .int .i64 h2, .int .i64 p2, .int .i64 n2] 29)).cell? ⟨w4.heap.size, 1, none⟩ = some (.int .i64 l2) := B5.cell 1
  have k2 : (w5.alloc (.cells #[.slice a5 n5 c5, .int .i64 l2, .int .i64 h2, .int .i64 p2, .int .i64 n2] 29)).cell? ⟨w4.heap.size, 2, none⟩ = some (.int .i64 h2) := B5.cell 2
  have k3 : (w5.alloc (.cells #[.slice a5 n5 c5, .int .i64 l2, .int .i64 h2, .int .i64 p2, .int .i64 n2] 29)).cell? ⟨w4.heap.size, 3, none⟩ = some (.int .i64 p2) := B5.cell 3
  have k4 : (w5.alloc (.cells #[.slice a5 n5 c5, .int .i64 l2, .int .i64 h2, .int .i64 p2, .int .i64 n2] 29)).cell? ⟨w4.heap.size, 4, none⟩ = some (.int .i64 n2) := B5.cell 4
  have HS5 := Lib.hid S5a
  clear hT5 hb5 B5 S5 S5a g0 g1 g2 g3 g4 T4 I4 T4a B4a
  go_wp2_with fail
  refine (sameStand_any a4 a5 n4 c4 n5 c5 us us l2 h2 p2 n2 l2 h2 p2 n2 _ T5b T5a).mono ?_
  rw [HSQ.out]
  rintro e w6 ⟨rfl, hb6⟩
  have HW := Lib.hid (HX.out _ (HS5.out.trans (hb6.mono (HX.out _ HS5.out).2.2.2.1))).2.2.2.2
  clear hb6 T5a T5b k0 k1 k2 k3 k4
  go_wp2_with (go_at_call 24; refine (HWk.out _ HW.out).mono ?_; rintro e w9 ⟨rfl, hb9⟩)
  go_ret
  exact ⟨rfl, HW.out.trans (hb9.mono HW.out.size)⟩
end Go.Proofs.YtpkjjiieglebbaaDoor
namespace Go.Proofs.YtpkjjiieglebbaaDoor
open Go Go.RowKit Go.ChangeShapes Go.WideShapes Go.ChangeAt Go.Deep
open Go.ChangeMaps (open_string shut_string)
set_option maxRecDepth 100000 in
theorem standThins_contract (H : Type) (enc : TypeId × Value → H) (W : World) (base : Nat) (args : Array Value) (ds gs : List (DataW H)) (before : List MemPlace)
    (hval : ∀ (j : Nat) t v, Tryd.f5.params[j]? = some t → args[j]? = some v → Value.okWide Tryd.prog W .any base t v)
    (hW : DataW.Whole enc Tryd.prog Tryd.f5.params.toList Rows.standThinsSpec.vars false W args.toList ds gs before) (hL : laidMetH Tryd.prog Rows.standThinsRow.laid W) :
    Calls Tryd.prog 5 args W fun e W' => ∃ v, e = .returned v ∧ Rows.standThinsSpec.post enc Tryd.prog Tryd.f5 false true false false W args v W' := by
  have hW' := hW
  obtain ⟨p, q, hA0, hV, rfl, hfz, hnd⟩ := hW
  have hA : DataW.TrodAll enc Tryd.prog W 0 (fun _ => true) true Tryd.f5.params.toList args.toList ds p := hA0
  rw [Tryd.params5] at hA hval
  obtain ⟨v1, vs1, d1, ds1, p1, q1, hargs, rfl, rfl, h1, r1⟩ := trodAll_cons hA
  obtain ⟨v2, vs2, d2, ds2, p2, q2, rfl, rfl, rfl, h2, r2⟩ := trodAll_cons r1
  obtain ⟨v3, vs3, d3, ds3, p3, q3, rfl, rfl, rfl, h3, r3⟩ := trodAll_cons r2
  obtain ⟨rfl, rfl, rfl⟩ := trodAll_nil r3
  obtain rfl : args = #[v1, v2, v3] := by cases args; simp_all
  obtain ⟨rfl, rfl⟩ := trodVars_none hV
  have k1 := h1
  have k2 := h2
  have k3 := h3
  have o1 := hval 0 29 v1 rfl rfl
  simp only [Value.okWide, Tryd.underlying29] at o1
  obtain ⟨cs1, rfl, _⟩ := o1
  obtain ⟨f1, h1⟩ := h1
  obtain ⟨a, n, c, ts, lo, hi, pr, ne, e1, hT⟩ := op_stand h1
  obtain rfl : cs1 = #[.slice a n c, .int .i64 lo, .int .i64 hi, .int .i64 pr, .int .i64 ne] := Array.ext' e1
  obtain ⟨gap, rfl, rfl, rfl, w2⟩ := open_int Tryd.underlying3 (hval 1 3 v2 rfl rfl) h2
  obtain ⟨oa, on, oc, ol, rfl, x3, y3, z3⟩ := op_ints (hval 2 30 v3 rfl rfl) h3
  have hlt : ∀ x ∈ (p1 ++ ([] ++ (p3 ++ []))) ++ ([] : List MemPlace), x.block < W.heap.size := fun x hx => by simpa using hW'.lt x hx
  refine (standThins_any a n c ts lo hi pr ne gap oa on oc ol W hT x3 y3 z3 (fun W' h => works_any W' ((chg_of hL).below h) ((tab_of hL).below h))).mono fun e W' ⟨he, hb⟩ => ?_
  subst he
  exact ⟨_, rfl, _, _, _, [], _, [], hW', trodAll_cons_mk (shut_bool Tryd.underlying4 _) trodAll_mk0,
    (trodAll_blockq hb (by kernel_rfl) (of_decide_eq_true (by kernel_rfl)) k1 (fun x hx => hlt x (by simp [hx])) (trodAll_blockq hb (by kernel_rfl) (of_decide_eq_true (by kernel_rfl)) k2 (fun x hx => by cases hx) (trodAll_blockq hb (by kernel_rfl) (of_decide_eq_true (by kernel_rfl)) k3 (fun x hx => hlt x (by simp [hx])) trodAll_mk0))),
    rfl, hb.frame _, fun h => by cases h⟩
theorem standThins_laid (os : Os) : laidMet Tryd.prog Rows.standThinsRow.laid ((laidWorldq os).forCall (fun _ _ => 0) ⟨#[], #[.agg #[.slice none 0 0, .int .i64 0, .int .i64 0, .int .i64 0, .int .i64 0], .int .i64 0, .slice none 0 0], []⟩).memory :=
  laidMet_of_run' 8 (by kernel_rfl) (by kernel_rfl)
theorem standThins_reads (os : Os) {H : Type} (enc : TypeId × Value → H) : ∃ places, DataW.whole enc Tryd.prog ((laidWorldq os).forCall (fun _ _ => 0) ⟨#[], #[.agg #[.slice none 0 0, .int .i64 0, .int .i64 0, .int .i64 0, .int .i64 0], .int .i64 0, .slice none 0 0], []⟩).memory Tryd.f5.params.toList Rows.standThinsSpec.vars false (#[.agg #[.slice none 0 0, .int .i64 0, .int .i64 0, .int .i64 0, .int .i64 0], .int .i64 0, .slice none 0 0] : Array Value).toList 8 = some ([.agg [.nil, .agg [.lit (.int .i64 0), .lit (.int .i64 0)], .lit (.int .i64 0), .lit (.int .i64 0)], .lit (.int .i64 0), .nil], [], places) :=
  ⟨[], by kernel_rfl⟩
set_option maxRecDepth 100000 in
theorem standThins_lifted (os : Os) (started : os.Started) (H : Type) (enc : TypeId × Value → H) (F : Stop.Interp) :
    ReturnsInHanded {} Tryd.checked os 5 .any ((OpenSpec.ofChange Rows.standThinsSpec).preRow enc Tryd.prog Tryd.f5 Rows.standThinsRow.domain false Rows.standThinsRow.laid) (((OpenSpec.ofChange Rows.standThinsSpec).at F).post enc Tryd.prog Tryd.f5 false true false false) := by
  obtain ⟨places, hx⟩ := standThins_reads os enc
  refine returnsInHanded_of_row (C := Tryd.checked) (s := OpenSpec.ofChange Rows.standThinsSpec) own started (by kernel_rfl) Tryd.func5
    (witness_row_at (enc := enc) (C := Tryd.checked) false (laidWorldq os) #[.agg #[.slice none 0 0, .int .i64 0, .int .i64 0, .int .i64 0, .int .i64 0], .int .i64 0, .slice none 0 0] rfl (by kernel_rfl) (by kernel_rfl) (by kernel_rfl)
      (OpenSpec.preRow_of_cond 8 hx (by kernel_rfl) (fun k hk => by cases hk) (by kernel_rfl) (standThins_laid os))) ?_
  intro W base args ds gs before hval hW _ _ _ hL _ _
  exact standThins_contract H enc W base args ds gs before hval hW hL
set_option maxRecDepth 100000 in
theorem standThins_said : Rows.StandThinsSaid :=
  OpenClaim.holds_of_cond 5 Tryd.f5 rfl rfl rfl rfl rfl rfl rfl ⟨rfl, rfl, rfl, rfl, rfl⟩ rfl rfl rfl rfl rfl (by kernel_rfl) Tryd.func5 (by kernel_rfl)
    (of_decide_eq_true (by kernel_rfl)) (by unfold Func.isWrapper; first | (rw [if_pos (by decide +kernel)]; kernel_rfl) | (rw [if_neg (by decide +kernel)]; exact ⟨rfl, rfl⟩))
    (fun os started H enc _ F => by rw [OpenClaim.pre_eq_preRow]; exact standThins_lifted os started H enc F)
theorem standThins_plain (f : FuncId) (fn : Func) (hf : Tryd.pinned.checked.prog.funcNamed "pinaster/pinasterlaw01.StandThins" = some f) (hfn : Tryd.pinned.checked.prog.funcs[f]? = some fn) :
    false = Tryd.pinned.checked.prog.looks [] ∧ ∀ (j : Nat) t, fn.params[j]? = some t → Tryd.pinned.checked.prog.wantsStandIn t = false := by
  obtain rfl : f = 5 := Option.some.inj ((show Tryd.prog.funcNamed "pinaster/pinasterlaw01.StandThins" = some 5 by kernel_rfl).symm.trans hf) |>.symm
  obtain rfl : fn = Tryd.f5 := (Option.some.inj (Tryd.func5.symm.trans hfn)).symm
  refine ⟨by kernel_rfl, fun j t ht => ?_⟩
  rw [Tryd.params5] at ht
  have hm := Array.mem_of_getElem? ht
  simp only [List.mem_toArray, List.mem_cons, List.not_mem_nil, or_false] at hm
  rcases hm with rfl | rfl | rfl
  · exact (show Tryd.prog.wantsStandIn 29 = false by kernel_rfl)
  · exact (show Tryd.prog.wantsStandIn 3 = false by kernel_rfl)
  · exact (show Tryd.prog.wantsStandIn 30 = false by kernel_rfl)
/-- The card: whatever the input is, the law StandThins returns true. -/
theorem standThins_card : Rows.StandThinsCardSaid :=
  Claim7.holds_tied_plain_at .later [] _ _ _ _ standThins_said (fun _ h => by cases h) (by kernel_rfl) (fun _ h => by cases h) standThins_row_tie rfl ⟨rfl, rfl⟩ (by kernel_rfl) rfl standThins_plain (by kernel_rfl)
end Go.Proofs.YtpkjjiieglebbaaDoor
