/- StandTexts: for every input the law returns true, and each argument reads afterwards as it read before; the package variables that its row lists hold what the program's text lays (tied by the card). Conditions: none beyond the row's own. -/
import Derived.Test.YtpkjjiieglebbaaDoorCA
import Derived.Test.YtpkjjiieglebbaaDoorRP
namespace Go.Proofs.YtpkjjiieglebbaaDoor
open Go Go.RowKit
theorem standQ_self2 (s : Stand) : standQ s s = true := by
  unfold standQ
  rw [treesQ_self]
  simp
set_option maxRecDepth 100000 in
set_option maxHeartbeats 4000000 in
theorem standTexts_any (a : Option Addr) (n c : Nat) (ts : List Tree) (lo hi pr ne : Int) (s : ByteArray) (w : World) (hT : Trees w a n c ts) (hP : Tab w)
    (hWk : ∀ W, Below w.heap.size w W → Calls Tryd.prog 24 #[] W fun e w' => e = .returned (.bool true) ∧ Below W.heap.size W w') :
    Calls Tryd.prog 7 #[.agg #[.slice a n c, .int .i64 lo, .int .i64 hi, .int .i64 pr, .int .i64 ne], .string s] w fun e w' => e = .returned (.bool true) ∧ Below w.heap.size w w' := by
  have HWk := Lib.hid hWk
  have HX : Hid (∀ W, Below (w.heap.size + 1) (w.alloc (.cells #[.slice a n c, .int .i64 lo, .int .i64 hi, .int .i64 pr, .int .i64 ne] 29)) W → Box W w.heap.size #[.slice a n c, .int .i64 lo, .int .i64 hi, .int .i64 pr, .int .i64 ne] 29 ∧ Trees W a n c ts ∧ Tab W ∧ w.heap.size + 1 ≤ W.heap.size ∧ Below w.heap.size w W) := Lib.hid fun W h => by
    have hB : Below w.heap.size w W := ((Below.refl _ _).alloc (Nat.le_refl _) _).trans (h.mono (by omega))
    exact ⟨(Box.new w _ _).below h (by omega), hT.below hB, hP.below hB, by have := h.size; simpa using this, hB⟩
  clear hT hP hWk
  obtain ⟨PT, hPT⟩ : ∃ p : ByteArray, (if checkE ⟨ts, lo, hi, pr, ne⟩ = 0 then ⟨(printL ⟨ts, lo, hi, pr, ne⟩).toArray⟩ else ⟨#[]⟩) = p := ⟨_, rfl⟩
  obtain ⟨PE, hPE⟩ : ∃ p, checkE ⟨ts, lo, hi, pr, ne⟩ = p := ⟨_, rfl⟩
  obtain ⟨QS, hQS⟩ : ∃ p, parseS s = p := ⟨_, rfl⟩
  have HPT := Lib.hid hPT
  have HPE := Lib.hid hPE
  have HQS := Lib.hid hQS
  obtain ⟨⟨us, l2, h2, p2, n2⟩, QE⟩ := QS
  have HSQ := Lib.hid (standQ_self2 ⟨us, l2, h2, p2, n2⟩)
  clear hPT hPE hQS
  go_enter Tryd.func7, Tryd.ntmps7
  go_wp2_with fail
  refine (print_any a n c ts lo hi pr ne _ (HX.out _ (Below.refl _ _)).2.1 (HX.out _ (Below.refl _ _)).2.2.1).mono ?_
  rw [HPT.out, HPE.out]
  rintro e w1 ⟨rfl, hb1⟩
  have S1 : Below (w.heap.size + 1) (w.alloc (.cells #[.slice a n c, .int .i64 lo, .int .i64 hi, .int .i64 pr, .int .i64 ne] 29)) w1 := hb1.mono (by simp)
  obtain ⟨X1, T1, _, z1, _⟩ := HX.out _ S1
  have e0 : w1.cell? ⟨w.heap.size, 0, none⟩ = some (.slice a n c) := X1.cell 0
  have e1 : w1.cell? ⟨w.heap.size, 1, none⟩ = some (.int .i64 lo) := X1.cell 1
  have e2 : w1.cell? ⟨w.heap.size, 2, none⟩ = some (.int .i64 hi) := X1.cell 2
  have e3 : w1.cell? ⟨w.heap.size, 3, none⟩ = some (.int .i64 pr) := X1.cell 3
  have e4 : w1.cell? ⟨w.heap.size, 4, none⟩ = some (.int .i64 ne) := X1.cell 4
  have HS1 := Lib.hid S1
  clear hb1 X1 S1
  go_wp2_with fail
  refine (refPrint_any a n c ts lo hi pr ne _ T1).mono ?_
  rw [HPT.out, HPE.out]
  rintro e w2 ⟨rfl, hb2⟩
  have HS2 := Lib.hid (HS1.out.trans (hb2.mono z1))
  have z2 := (HX.out _ HS2.out).2.2.2.1
  clear hb2 T1 e0 e1 e2 e3 e4
  go_wp2_with fail
  refine (parse_any s _).mono ?_
  rw [HQS.out]
  rintro e w4 ⟨a4, c4, rfl, hT4, hb4⟩
  dsimp only at hT4 ⊢
  have S4 := HS2.out.trans (hb4.mono z2)
  have HS4 := Lib.hid (S4.alloc (HX.out _ S4).2.2.2.1 (.cells #[.slice a4 us.length c4, .int .i64 l2, .int .i64 h2, .int .i64 p2, .int .i64 n2] 29))
  have T4a := Lib.hid (hT4.below ((Below.refl _ w4).alloc (Nat.le_refl _) (.cells #[.slice a4 us.length c4, .int .i64 l2, .int .i64 h2, .int .i64 p2, .int .i64 n2] 29)))
  have B4a := Lib.hid (Box.new w4 #[.slice a4 us.length c4, .int .i64 l2, .int .i64 h2, .int .i64 p2, .int .i64 n2] 29)
  have z4 := (HX.out _ HS4.out).2.2.2.1
  clear hT4 hb4 S4
  go_wp2_with fail
  refine (refParse_any s _).mono ?_
  unfold ParseQ
  rw [HQS.out]
  rintro e w5 ⟨a5, c5, rfl, hT5, hb5⟩
  dsimp only at hT5 ⊢
  have S5 := HS4.out.trans (hb5.mono z4)
  have HS5 := Lib.hid (S5.alloc (HX.out _ S5).2.2.2.1 (.cells #[.slice a5 us.length c5, .int .i64 l2, .int .i64 h2, .int .i64 p2, .int .i64 n2] 29))
  have T5a := hT5.below ((Below.refl _ w5).alloc (Nat.le_refl _) (.cells #[.slice a5 us.length c5, .int .i64 l2, .int .i64 h2, .int .i64 p2, .int .i64 n2] 29))
  have T5b := (T4a.out.below hb5).below ((Below.refl _ w5).alloc (Nat.le_refl _) (.cells #[.slice a5 us.length c5, .int .i64 l2, .int .i64 h2, .int .i64 p2, .int .i64 n2] 29))
  have B5 := (B4a.out.below hb5 (by simp)).alloc (.cells #[.slice a5 us.length c5, .int .i64 l2, .int .i64 h2, .int .i64 p2, .int .i64 n2] 29)
  have k0 : (w5.alloc (.cells #[.slice a5 us.length c5, .int .i64 l2, .int .i64 h2, .int .i64 p2, .int .i64 n2] 29)).cell? ⟨w4.heap.size, 0, none⟩ = some (.slice a4 us.length c4) := B5.cell 0
  have k1 : (w5.alloc (.cells #[.slice a5 us.length c5, .int .i64 l2, .int .i64 h2, .int .i64 p2, .int .i64 n2] 29)).cell? ⟨w4.heap.size, 1, none⟩ = some (.int .i64 l2) := B5.cell 1
  have k2 : (w5.alloc (.cells #[.slice a5 us.length c5, .int .i64 l2, .int .i64 h2, .int .i64 p2, .int .i64 n2] 29)).cell? ⟨w4.heap.size, 2, none⟩ = some (.int .i64 h2) := B5.cell 2
  have k3 : (w5.alloc (.cells #[.slice a5 us.length c5, .int .i64 l2, .int .i64 h2, .int .i64 p2, .int .i64 n2] 29)).cell? ⟨w4.heap.size, 3, none⟩ = some (.int .i64 p2) := B5.cell 3
  have k4 : (w5.alloc (.cells #[.slice a5 us.length c5, .int .i64 l2, .int .i64 h2, .int .i64 p2, .int .i64 n2] 29)).cell? ⟨w4.heap.size, 4, none⟩ = some (.int .i64 n2) := B5.cell 4
  clear hT5 hb5 B5 S5 T4a B4a
  go_wp2_with fail
  refine (sameStand_any a4 a5 us.length c4 us.length c5 us us l2 h2 p2 n2 l2 h2 p2 n2 _ T5b T5a).mono ?_
  rw [HSQ.out]
  rintro e w6 ⟨rfl, hb6⟩
  have HW := Lib.hid (HX.out _ (HS5.out.trans (hb6.mono (HX.out _ HS5.out).2.2.2.1))).2.2.2.2
  clear hb6 T5a T5b k0 k1 k2 k3 k4
  go_wp2_with (go_at_call 24; refine (HWk.out _ HW.out).mono ?_; rintro e w9 ⟨rfl, hb9⟩)
  go_ret
  exact ⟨rfl, HW.out.trans (hb9.mono HW.out.size)⟩
end Go.Proofs.YtpkjjiieglebbaaDoor
namespace Go.Proofs.YtpkjjiieglebbaaDoor
open Go Go.RowKit Go.ChangeShapes Go.WideShapes Go.ChangeAt Go.Deep
open Go.ChangeMaps (open_string shut_string)
set_option maxRecDepth 100000 in
theorem standTexts_contract (H : Type) (enc : TypeId × Value → H) (W : World) (base : Nat) (args : Array Value) (ds gs : List (DataW H)) (before : List MemPlace)
    (hval : ∀ (j : Nat) t v, Tryd.f7.params[j]? = some t → args[j]? = some v → Value.okWide Tryd.prog W .any base t v)
    (hW : DataW.Whole enc Tryd.prog Tryd.f7.params.toList Rows.standTextsSpec.vars false W args.toList ds gs before) (hL : laidMetH Tryd.prog Rows.standTextsRow.laid W) :
    Calls Tryd.prog 7 args W fun e W' => ∃ v, e = .returned v ∧ Rows.standTextsSpec.post enc Tryd.prog Tryd.f7 false true false false W args v W' := by
  have hW' := hW
  obtain ⟨p, q, hA0, hV, rfl, hfz, hnd⟩ := hW
  have hA : DataW.TrodAll enc Tryd.prog W 0 (fun _ => true) true Tryd.f7.params.toList args.toList ds p := hA0
  rw [Tryd.params7] at hA hval
  obtain ⟨v1, vs1, d1, ds1, p1, q1, hargs, rfl, rfl, h1, r1⟩ := trodAll_cons hA
  obtain ⟨v2, vs2, d2, ds2, p2, q2, rfl, rfl, rfl, h2, r2⟩ := trodAll_cons r1
  obtain ⟨rfl, rfl, rfl⟩ := trodAll_nil r2
  obtain rfl : args = #[v1, v2] := by cases args; simp_all
  obtain ⟨rfl, rfl⟩ := trodVars_none hV
  have k1 := h1
  have k2 := h2
  have o1 := hval 0 29 v1 rfl rfl
  simp only [Value.okWide, Tryd.underlying29] at o1
  obtain ⟨cs1, rfl, _⟩ := o1
  obtain ⟨f1, h1⟩ := h1
  obtain ⟨a, n, c, ts, lo, hi, pr, ne, e1, hT⟩ := op_stand h1
  obtain rfl : cs1 = #[.slice a n c, .int .i64 lo, .int .i64 hi, .int .i64 pr, .int .i64 ne] := Array.ext' e1
  obtain ⟨s, rfl, rfl, rfl, w2⟩ := open_string Tryd.underlying9 (hval 1 9 v2 rfl rfl) h2
  have hlt : ∀ x ∈ (p1 ++ ([] ++ [])) ++ ([] : List MemPlace), x.block < W.heap.size := fun x hx => by simpa using hW'.lt x hx
  refine (standTexts_any a n c ts lo hi pr ne s W hT (tab_of hL) (fun W' h => works_any W' ((chg_of hL).below h) ((tab_of hL).below h))).mono fun e W' ⟨he, hb⟩ => ?_
  subst he
  exact ⟨_, rfl, _, _, _, [], _, [], hW', trodAll_cons_mk (shut_bool Tryd.underlying4 _) trodAll_mk0,
    (trodAll_blockq hb (by kernel_rfl) (of_decide_eq_true (by kernel_rfl)) k1 (fun x hx => hlt x (by simp [hx])) (trodAll_blockq hb (by kernel_rfl) (of_decide_eq_true (by kernel_rfl)) k2 (fun x hx => by cases hx) trodAll_mk0)),
    rfl, hb.frame _, fun h => by cases h⟩
theorem standTexts_laid (os : Os) : laidMet Tryd.prog Rows.standTextsRow.laid ((laidWorldq os).forCall (fun _ _ => 0) ⟨#[], #[.agg #[.slice none 0 0, .int .i64 0, .int .i64 0, .int .i64 0, .int .i64 0], .string .empty], []⟩).memory :=
  laidMet_of_run' 8 (by kernel_rfl) (by kernel_rfl)
theorem standTexts_reads (os : Os) {H : Type} (enc : TypeId × Value → H) : ∃ places, DataW.whole enc Tryd.prog ((laidWorldq os).forCall (fun _ _ => 0) ⟨#[], #[.agg #[.slice none 0 0, .int .i64 0, .int .i64 0, .int .i64 0, .int .i64 0], .string .empty], []⟩).memory Tryd.f7.params.toList Rows.standTextsSpec.vars false (#[.agg #[.slice none 0 0, .int .i64 0, .int .i64 0, .int .i64 0, .int .i64 0], .string .empty] : Array Value).toList 8 = some ([.agg [.nil, .agg [.lit (.int .i64 0), .lit (.int .i64 0)], .lit (.int .i64 0), .lit (.int .i64 0)], .lit (.string [])], [], places) :=
  ⟨[], by kernel_rfl⟩
set_option maxRecDepth 100000 in
theorem standTexts_lifted (os : Os) (started : os.Started) (H : Type) (enc : TypeId × Value → H) (F : Stop.Interp) :
    ReturnsInHanded {} Tryd.checked os 7 .any ((OpenSpec.ofChange Rows.standTextsSpec).preRow enc Tryd.prog Tryd.f7 Rows.standTextsRow.domain false Rows.standTextsRow.laid) (((OpenSpec.ofChange Rows.standTextsSpec).at F).post enc Tryd.prog Tryd.f7 false true false false) := by
  obtain ⟨places, hx⟩ := standTexts_reads os enc
  refine returnsInHanded_of_row (C := Tryd.checked) (s := OpenSpec.ofChange Rows.standTextsSpec) own started (by kernel_rfl) Tryd.func7
    (witness_row_at (enc := enc) (C := Tryd.checked) false (laidWorldq os) #[.agg #[.slice none 0 0, .int .i64 0, .int .i64 0, .int .i64 0, .int .i64 0], .string .empty] rfl (by kernel_rfl) (by kernel_rfl) (by kernel_rfl)
      (OpenSpec.preRow_of_cond 8 hx (by kernel_rfl) (fun k hk => by cases hk) (by kernel_rfl) (standTexts_laid os))) ?_
  intro W base args ds gs before hval hW _ _ _ hL _ _
  exact standTexts_contract H enc W base args ds gs before hval hW hL
set_option maxRecDepth 100000 in
theorem standTexts_said : Rows.StandTextsSaid :=
  OpenClaim.holds_of_cond 7 Tryd.f7 rfl rfl rfl rfl rfl rfl rfl ⟨rfl, rfl, rfl, rfl, rfl⟩ rfl rfl rfl rfl rfl (by kernel_rfl) Tryd.func7 (by kernel_rfl)
    (of_decide_eq_true (by kernel_rfl)) (by unfold Func.isWrapper; first | (rw [if_pos (by decide +kernel)]; kernel_rfl) | (rw [if_neg (by decide +kernel)]; exact ⟨rfl, rfl⟩))
    (fun os started H enc _ F => by rw [OpenClaim.pre_eq_preRow]; exact standTexts_lifted os started H enc F)
theorem standTexts_plain (f : FuncId) (fn : Func) (hf : Tryd.pinned.checked.prog.funcNamed "pinaster/pinasterlaw01.StandTexts" = some f) (hfn : Tryd.pinned.checked.prog.funcs[f]? = some fn) :
    false = Tryd.pinned.checked.prog.looks [] ∧ ∀ (j : Nat) t, fn.params[j]? = some t → Tryd.pinned.checked.prog.wantsStandIn t = false := by
  obtain rfl : f = 7 := Option.some.inj ((show Tryd.prog.funcNamed "pinaster/pinasterlaw01.StandTexts" = some 7 by kernel_rfl).symm.trans hf) |>.symm
  obtain rfl : fn = Tryd.f7 := (Option.some.inj (Tryd.func7.symm.trans hfn)).symm
  refine ⟨by kernel_rfl, fun j t ht => ?_⟩
  rw [Tryd.params7] at ht
  have hm := Array.mem_of_getElem? ht
  simp only [List.mem_toArray, List.mem_cons, List.not_mem_nil, or_false] at hm
  rcases hm with rfl | rfl
  · exact (show Tryd.prog.wantsStandIn 29 = false by kernel_rfl)
  · exact (show Tryd.prog.wantsStandIn 9 = false by kernel_rfl)
/-- The card: whatever the input is, the law StandTexts returns true. -/
theorem standTexts_card : Rows.StandTextsCardSaid :=
  Claim7.holds_tied_plain_at .later [] _ _ _ _ standTexts_said (fun _ h => by cases h) (by kernel_rfl) (fun _ h => by cases h) standTexts_row_tie rfl ⟨rfl, rfl⟩ (by kernel_rfl) rfl standTexts_plain (by kernel_rfl)
end Go.Proofs.YtpkjjiieglebbaaDoor
