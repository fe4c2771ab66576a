/- PurseBills, in memory that was there before. Conditions: as each theorem says. -/
import Derived.Test.YtlcdifeiinpaiaaGreatVD
namespace Go.Proofs.YtlcdifeiinpaiaaGreat
open Go Go.RowKit
attribute [local irreducible] addC subC mulC quoI remI forceN forceB bR getC iR kI callI rcI oldC oA nextC
set_option maxRecDepth 1000000
set_option maxHeartbeats 8000000
set_option linter.unusedVariables false
set_option linter.unusedSimpArgs false
theorem rowg1 {α : Type} (t : TypeId) (enc : α → List Value) (hg : ∀ x, (enc x).all (gr 6) = true) (l : List α) : ([(t, encA enc l)] : List (TypeId × List Value)).all (fun r => r.2.all (gr 6)) = true := by show ((encA enc l).all (gr 6) && true) = true; rw [encA_gr hg]; rfl
section
variable (f : Nat → Nat → Option Value)
theorem Settle_all {a a2 a3 : Option Addr} {n c n2 c2 n3 c3 : Nat} {ps gs : List Int} {l : List Lot} (part : Int) (hP : Ints f a n c ps) (hL : Lots f a2 n2 c2 l) (hG : Ints f a3 n3 c3 gs) : FnR Tryz.prog f 9 [.agg ⟨[.slice a n c, .int .i64 part]⟩, .slice a2 n2 c2, .slice a3 n3 c3] ⟨.tuple ⟨[slB 0 (billsV ps part l gs) l.length, .int .i64 (settleE ps part l gs)]⟩, (rwB (24, [.slice a n c, .int .i64 part]) (billsV ps part l gs)).tail⟩ := by
  by_cases h : settleE ps part l gs = 0
  · have h1 := Settle_fn f part hP hL hG h
    rw [billsV, if_pos h, h]; exact h1
  · have h1 := Settle_err f part hP hL hG h
    rw [billsV, if_neg h]; exact h1
theorem bills_nil {a a2 a3 : Option Addr} {n c n2 c2 n3 c3 : Nat} {ps gs : List Int} {l : List Lot} (part fam : Int) (x0 : Lot) (hx0 : l.head? = some x0 ∨ (l = [] ∧ x0 = ⟨0, 0, 0, 0⟩)) (hP : Ints f a n c ps) (hL : Lots f a2 n2 c2 l) (hG : Ints f a3 n3 c3 gs) (hwk : FnR Tryz.prog f 13 [] ⟨.bool true, []⟩) (hbv : billsV ps part l gs = []) :
    FnR Tryz.prog f 3 [.agg ⟨[.slice a n c, .int .i64 part]⟩, .slice a2 n2 c2, .slice a3 n3 c3, .int .i64 fam] ⟨.bool true, []⟩ := by
  have hg := hP.g
  have hg2 := hL.g
  have hg3 := hG.g
  have hGu := guard28
  have hHe := held28
  have hlen2 := hL.len
  have hat2 := hL.at'
  have hA := Advance_fn f part x0 hP
  have hRA := RAdvance_fn f part x0 hP
  have hC := Check_fn f part hP
  have hRC := RCheck_fn f part hP
  have hS := Settle_all f part hP hL hG
  have hRS := RSettle_fn f part hP hL hG
  have hU := Sure_fn f part fam hP hL
  have hRU := RSure_fn f part fam hP hL
  rw [hbv] at hS hRS
  generalize advV ps part x0 = v1 at hA hRA
  generalize advE ps part x0 = v2 at hA hRA
  generalize ratesE ps part = v3 at hC hRC
  generalize settleE ps part l gs = v4 at hS hRS
  generalize sureV ps part fam true l = v5 at hU hRU
  generalize sureV ps part fam false l = v6 at hU hRU
  generalize sureE ps part fam l = v7 at hU hRU
  have hS : FnR Tryz.prog f 9 [.agg ⟨[.slice a n c, .int .i64 part]⟩, .slice a2 n2 c2, .slice a3 n3 c3] ⟨.tuple ⟨[.slice none 0 0, .int .i64 v4]⟩, []⟩ := hS
  have hRS : FnR Tryz.prog f 10 [.agg ⟨[.slice a n c, .int .i64 part]⟩, .slice a2 n2 c2, .slice a3 n3 c3] ⟨.tuple ⟨[.slice none 0 0, .int .i64 v4]⟩, []⟩ := hRS
  rcases hx0 with hx0 | ⟨rfl, rfl⟩
  · cases l with
    | nil => cases hx0
    | cons x l =>
      cases hx0
      simp only [List.length_cons] at hlen2
      obtain ⟨b, o, ha, hc⟩ := hat2 0 _ rfl
      have hc0 := hc 0 _ rfl
      have hc1 := hc 1 _ rfl
      have hc2 := hc 2 _ rfl
      have hc3 := hc 3 _ rfl
      subst ha
      refine fn_J by_g rfl ?_
      (repeat' (first | refine J.seq ?_ | refine J.block ?_ | refine J.scope ?_ | (refine J.region (fun z => ?_); (conv => lhs; whnf)) | (refine J.cond rfl rfl (fun hq => ?_) (fun hq => ?_) <;> (try simp only [sbM, reduceCtorEq, frB_iff, frB_no] at hq) <;> (try (have hqt : hq = True.intro := rfl; clear hqt hq)) <;> (try (exact absurd trivial hq)) <;> (try (exfalso; omega))) | refine J.exit ?_ | refine J.ret ?_ | refine J.skip ?_ | refine J.label ?_ | (with_reducible first | refine then_normal ?_ | refine then_exit ?_ | refine then_ret ?_ | refine block_exit ?_ | refine block_normal ?_ | refine block_ret ?_ | refine block_exit_ne rfl ?_ | refine kI_go rfl ?_) | ((first | (apply t_next; focus ((conv => lhs; whnf); try exact rfl)) | refine t_forceN ?_ | refine t_addN by_o ?_ | refine t_subN by_o ?_ | refine t_mulN by_o ?_ | refine t_quo by_o by_o ?_ | refine t_rem by_o by_o ?_ | refine t_quoN by_o by_o ?_ | refine t_remN by_o ?_ | refine t_addC ?_ | refine t_subC ?_ | refine t_mulC ?_ | refine t_bRt rfl ?_ | refine t_bRf rfl ?_ | refine t_getC rfl ?_ | refine t_getC (by (first | exact hb0 | exact hb1)) ?_ | refine t_iRp rfl ?_ | refine t_iR by_o ?_ | refine t_iRn rfl ?_ | refine t_fBt rfl ?_ | refine t_fBf rfl ?_ | refine t_fBt by_s ?_ | refine t_fBf by_s ?_ | refine t_bRt by_u ?_ | refine t_bRf by_u ?_ | refine t_oA rfl ?_ | refine t_oA by_a ?_ | refine t_old by_a by_r ?_ | refine t_call0 (hA) rfl by_g rfl by_k ?_ | refine t_call0 (hRA) rfl by_g rfl by_k ?_ | refine t_call0 (hC) rfl by_g rfl by_k ?_ | refine t_call0 (hRC) rfl by_g rfl by_k ?_ | refine t_call0 (hS) rfl by_g rfl by_k ?_ | refine t_call0 (hRS) rfl by_g rfl by_k ?_ | refine t_call0 (hU) rfl by_g rfl by_k ?_ | refine t_call0 (hRU) rfl by_g rfl by_k ?_ | refine t_call0 (hwk) rfl by_g rfl by_k ?_); (conv => lhs; whnf)) | ((first | refine t_fB (fun hq => ?_) (fun hq => ?_) | refine t_bR (fun hq => ?_) (fun hq => ?_)) <;> (try simp only [sbM, reduceCtorEq, frB_iff, frB_no] at hq) <;> (try (have hqt : hq = True.intro := rfl; clear hqt hq)) <;> (try (exact absurd trivial hq)) <;> (try (exfalso; omega)) <;> (conv => lhs; whnf))))
      refine J.loop (LJ.ind (fun _ : Nat => [none, some (.slice (some ⟨b, o, none⟩) n2 c2), none, some (.int .i64 fam), some (.pointer (some ⟨0, 0, some 0⟩)), none, none, none, none, none, none, none, none, none, some (.slice none 0 0), some (.slice none 0 0), some (.int .i64 0), none, none, none, none, none, none, none, none, none, none, none, none, none, none, none, none, none, none, none, none, none, none, none, none, none, none, none, none, none, none, none, none, none, none, none, none, none, none, none, none, none, none, none, none, none, none, none, none, none, none, none, none, none, none, none, none, none, none, none, none, none, none, none, none, none, none, none, none, none, none, none, none, none, none, none, none, none, none, none, none, none, none, none, none, none, none, none, none, none, none, none, none, none, none, none, none, none, none, none]) (fun _ => [(24, [.slice a n c, .int .i64 part])]) (fun _ => True) (fun q => q) 0 [0] trivial rfl ?_ ?_ ?_)
      · exact ⟨_, _, _, rfl, rfl, SimL.ground (l := [.slice a n c, .int .i64 part]) by_g, nin rfl, trivial⟩
      · exact by_s0
      · rintro i _ vs ⟨xs, gx, rfl⟩ IH
        (repeat' (first | refine J.seq ?_ | refine J.block ?_ | refine J.scope ?_ | (refine J.region (fun z => ?_); (conv => lhs; whnf)) | (refine J.cond rfl rfl (fun hq => ?_) (fun hq => ?_) <;> (try simp only [sbM, reduceCtorEq, frB_iff, frB_no] at hq) <;> (try (have hqt : hq = True.intro := rfl; clear hqt hq)) <;> (try (exact absurd trivial hq)) <;> (try (exfalso; omega))) | refine J.exit ?_ | refine J.ret ?_ | refine J.skip ?_ | refine J.label ?_ | (with_reducible first | refine then_normal ?_ | refine then_exit ?_ | refine then_ret ?_ | refine block_exit ?_ | refine block_normal ?_ | refine block_ret ?_ | refine block_exit_ne rfl ?_ | refine kI_go rfl ?_) | ((first | (apply t_next; focus ((conv => lhs; whnf); try exact rfl)) | refine t_forceN ?_ | refine t_addN by_o ?_ | refine t_subN by_o ?_ | refine t_mulN by_o ?_ | refine t_quo by_o by_o ?_ | refine t_rem by_o by_o ?_ | refine t_quoN by_o by_o ?_ | refine t_remN by_o ?_ | refine t_addC ?_ | refine t_subC ?_ | refine t_mulC ?_ | refine t_bRt rfl ?_ | refine t_bRf rfl ?_ | refine t_getC rfl ?_ | refine t_getC (by (first | exact hb0 | exact hb1)) ?_ | refine t_iRp rfl ?_ | refine t_iR by_o ?_ | refine t_iRn rfl ?_ | refine t_fBt rfl ?_ | refine t_fBf rfl ?_ | refine t_fBt by_s ?_ | refine t_fBf by_s ?_ | refine t_bRt by_u ?_ | refine t_bRf by_u ?_ | refine t_oA rfl ?_ | refine t_oA by_a ?_ | refine t_old by_a by_r ?_ | refine t_call0 (hA) rfl by_g rfl by_k ?_ | refine t_call0 (hRA) rfl by_g rfl by_k ?_ | refine t_call0 (hC) rfl by_g rfl by_k ?_ | refine t_call0 (hRC) rfl by_g rfl by_k ?_ | refine t_call0 (hS) rfl by_g rfl by_k ?_ | refine t_call0 (hRS) rfl by_g rfl by_k ?_ | refine t_call0 (hU) rfl by_g rfl by_k ?_ | refine t_call0 (hRU) rfl by_g rfl by_k ?_ | refine t_call0 (hwk) rfl by_g rfl by_k ?_); (conv => lhs; whnf)) | ((first | refine t_fB (fun hq => ?_) (fun hq => ?_) | refine t_bR (fun hq => ?_) (fun hq => ?_)) <;> (try simp only [sbM, reduceCtorEq, frB_iff, frB_no] at hq) <;> (try (have hqt : hq = True.intro := rfl; clear hqt hq)) <;> (try (exact absurd trivial hq)) <;> (try (exfalso; omega)) <;> (conv => lhs; whnf))))
        (refine endG trivial rfl rfl by_g ?_; (conv => lhs; whnf))
  · simp only [List.length_nil] at hlen2
    refine fn_J by_g rfl ?_
    (repeat' (first | refine J.seq ?_ | refine J.block ?_ | refine J.scope ?_ | (refine J.region (fun z => ?_); (conv => lhs; whnf)) | (refine J.cond rfl rfl (fun hq => ?_) (fun hq => ?_) <;> (try simp only [sbM, reduceCtorEq, frB_iff, frB_no] at hq) <;> (try (have hqt : hq = True.intro := rfl; clear hqt hq)) <;> (try (exact absurd trivial hq)) <;> (try (exfalso; omega))) | refine J.exit ?_ | refine J.ret ?_ | refine J.skip ?_ | refine J.label ?_ | (with_reducible first | refine then_normal ?_ | refine then_exit ?_ | refine then_ret ?_ | refine block_exit ?_ | refine block_normal ?_ | refine block_ret ?_ | refine block_exit_ne rfl ?_ | refine kI_go rfl ?_) | ((first | (apply t_next; focus ((conv => lhs; whnf); try exact rfl)) | refine t_forceN ?_ | refine t_addN by_o ?_ | refine t_subN by_o ?_ | refine t_mulN by_o ?_ | refine t_quo by_o by_o ?_ | refine t_rem by_o by_o ?_ | refine t_quoN by_o by_o ?_ | refine t_remN by_o ?_ | refine t_addC ?_ | refine t_subC ?_ | refine t_mulC ?_ | refine t_bRt rfl ?_ | refine t_bRf rfl ?_ | refine t_getC rfl ?_ | refine t_getC (by (first | exact hb0 | exact hb1)) ?_ | refine t_iRp rfl ?_ | refine t_iR by_o ?_ | refine t_iRn rfl ?_ | refine t_fBt rfl ?_ | refine t_fBf rfl ?_ | refine t_fBt by_s ?_ | refine t_fBf by_s ?_ | refine t_bRt by_u ?_ | refine t_bRf by_u ?_ | refine t_oA rfl ?_ | refine t_oA by_a ?_ | refine t_old by_a by_r ?_ | refine t_call0 (hA) rfl by_g rfl by_k ?_ | refine t_call0 (hRA) rfl by_g rfl by_k ?_ | refine t_call0 (hC) rfl by_g rfl by_k ?_ | refine t_call0 (hRC) rfl by_g rfl by_k ?_ | refine t_call0 (hS) rfl by_g rfl by_k ?_ | refine t_call0 (hRS) rfl by_g rfl by_k ?_ | refine t_call0 (hU) rfl by_g rfl by_k ?_ | refine t_call0 (hRU) rfl by_g rfl by_k ?_ | refine t_call0 (hwk) rfl by_g rfl by_k ?_); (conv => lhs; whnf)) | ((first | refine t_fB (fun hq => ?_) (fun hq => ?_) | refine t_bR (fun hq => ?_) (fun hq => ?_)) <;> (try simp only [sbM, reduceCtorEq, frB_iff, frB_no] at hq) <;> (try (have hqt : hq = True.intro := rfl; clear hqt hq)) <;> (try (exact absurd trivial hq)) <;> (try (exfalso; omega)) <;> (conv => lhs; whnf))))
    refine J.loop (LJ.ind (fun _ : Nat => [none, some (.slice (a2) n2 c2), none, some (.int .i64 fam), some (.pointer (some ⟨0, 0, some 0⟩)), none, none, none, none, none, none, none, none, none, some (.slice none 0 0), some (.slice none 0 0), some (.int .i64 0), none, none, none, none, none, none, none, none, none, none, none, none, none, none, none, none, none, none, none, none, none, none, none, none, none, none, none, none, none, none, none, none, none, none, none, none, none, none, none, none, none, none, none, none, none, none, none, none, none, none, none, none, none, none, none, none, none, none, none, none, none, none, none, none, none, none, none, none, none, none, none, none, none, none, none, none, none, none, none, none, none, none, none, none, none, none, none, none, none, none, none, none, none, none, none, none, none, none, none]) (fun _ => [(24, [.slice a n c, .int .i64 part])]) (fun _ => True) (fun q => q) 0 [0] trivial rfl ?_ ?_ ?_)
    · exact ⟨_, _, _, rfl, rfl, SimL.ground (l := [.slice a n c, .int .i64 part]) by_g, nin rfl, trivial⟩
    · exact by_s0
    · rintro i _ vs ⟨xs, gx, rfl⟩ IH
      (repeat' (first | refine J.seq ?_ | refine J.block ?_ | refine J.scope ?_ | (refine J.region (fun z => ?_); (conv => lhs; whnf)) | (refine J.cond rfl rfl (fun hq => ?_) (fun hq => ?_) <;> (try simp only [sbM, reduceCtorEq, frB_iff, frB_no] at hq) <;> (try (have hqt : hq = True.intro := rfl; clear hqt hq)) <;> (try (exact absurd trivial hq)) <;> (try (exfalso; omega))) | refine J.exit ?_ | refine J.ret ?_ | refine J.skip ?_ | refine J.label ?_ | (with_reducible first | refine then_normal ?_ | refine then_exit ?_ | refine then_ret ?_ | refine block_exit ?_ | refine block_normal ?_ | refine block_ret ?_ | refine block_exit_ne rfl ?_ | refine kI_go rfl ?_) | ((first | (apply t_next; focus ((conv => lhs; whnf); try exact rfl)) | refine t_forceN ?_ | refine t_addN by_o ?_ | refine t_subN by_o ?_ | refine t_mulN by_o ?_ | refine t_quo by_o by_o ?_ | refine t_rem by_o by_o ?_ | refine t_quoN by_o by_o ?_ | refine t_remN by_o ?_ | refine t_addC ?_ | refine t_subC ?_ | refine t_mulC ?_ | refine t_bRt rfl ?_ | refine t_bRf rfl ?_ | refine t_getC rfl ?_ | refine t_getC (by (first | exact hb0 | exact hb1)) ?_ | refine t_iRp rfl ?_ | refine t_iR by_o ?_ | refine t_iRn rfl ?_ | refine t_fBt rfl ?_ | refine t_fBf rfl ?_ | refine t_fBt by_s ?_ | refine t_fBf by_s ?_ | refine t_bRt by_u ?_ | refine t_bRf by_u ?_ | refine t_oA rfl ?_ | refine t_oA by_a ?_ | refine t_old by_a by_r ?_ | refine t_call0 (hA) rfl by_g rfl by_k ?_ | refine t_call0 (hRA) rfl by_g rfl by_k ?_ | refine t_call0 (hC) rfl by_g rfl by_k ?_ | refine t_call0 (hRC) rfl by_g rfl by_k ?_ | refine t_call0 (hS) rfl by_g rfl by_k ?_ | refine t_call0 (hRS) rfl by_g rfl by_k ?_ | refine t_call0 (hU) rfl by_g rfl by_k ?_ | refine t_call0 (hRU) rfl by_g rfl by_k ?_ | refine t_call0 (hwk) rfl by_g rfl by_k ?_); (conv => lhs; whnf)) | ((first | refine t_fB (fun hq => ?_) (fun hq => ?_) | refine t_bR (fun hq => ?_) (fun hq => ?_)) <;> (try simp only [sbM, reduceCtorEq, frB_iff, frB_no] at hq) <;> (try (have hqt : hq = True.intro := rfl; clear hqt hq)) <;> (try (exact absurd trivial hq)) <;> (try (exfalso; omega)) <;> (conv => lhs; whnf))))
      (refine endG trivial rfl rfl by_g ?_; (conv => lhs; whnf))
theorem bills_cons {a a2 a3 : Option Addr} {n c n2 c2 n3 c3 : Nat} {ps gs : List Int} {x0 : Lot} {lt : List Lot} {b0 : Int × Int} {bt : List (Int × Int)} (part fam : Int) (hP : Ints f a n c ps) (hL : Lots f a2 n2 c2 (x0 :: lt)) (hG : Ints f a3 n3 c3 gs) (hwk : FnR Tryz.prog f 13 [] ⟨.bool true, []⟩) (hbv : billsV ps part (x0 :: lt) gs = b0 :: bt) (hbl : (b0 :: bt).length = n2) :
    FnR Tryz.prog f 3 [.agg ⟨[.slice a n c, .int .i64 part]⟩, .slice a2 n2 c2, .slice a3 n3 c3, .int .i64 fam] ⟨.bool true, []⟩ := by
  have hg := hP.g
  have hg2 := hL.g
  have hg3 := hG.g
  have hGu := guard28
  have hHe := held28
  have hGb := guard43
  have hHb := held43
  have hlen2 := hL.len
  have hle2 := hL.le
  have hat2 := hL.at'
  have hA := Advance_fn f part x0 hP
  have hRA := RAdvance_fn f part x0 hP
  have hC := Check_fn f part hP
  have hRC := RCheck_fn f part hP
  have hS := Settle_all f part hP hL hG
  have hRS := RSettle_fn f part hP hL hG
  have hU := Sure_fn f part fam hP hL
  have hRU := RSure_fn f part fam hP hL
  rw [hbv, hlen2] at hS hRS
  generalize advV ps part x0 = v1 at hA hRA
  generalize advE ps part x0 = v2 at hA hRA
  generalize ratesE ps part = v3 at hC hRC
  generalize settleE ps part (x0 :: lt) gs = v4 at hS hRS
  generalize sureV ps part fam true (x0 :: lt) = v5 at hU hRU
  generalize sureV ps part fam false (x0 :: lt) = v6 at hU hRU
  generalize sureE ps part fam (x0 :: lt) = v7 at hU hRU
  have hS : FnR Tryz.prog f 9 [.agg ⟨[.slice a n c, .int .i64 part]⟩, .slice a2 n2 c2, .slice a3 n3 c3] ⟨.tuple ⟨[.slice (some ⟨0, 0, some 1⟩) n2 0, .int .i64 v4]⟩, [(38, encA encP (b0 :: bt))]⟩ := hS
  have hRS : FnR Tryz.prog f 10 [.agg ⟨[.slice a n c, .int .i64 part]⟩, .slice a2 n2 c2, .slice a3 n3 c3] ⟨.tuple ⟨[.slice (some ⟨0, 0, some 1⟩) n2 0, .int .i64 v4]⟩, [(38, encA encP (b0 :: bt))]⟩ := hRS
  simp only [List.length_cons] at hlen2
  obtain ⟨b, o, ha, hc⟩ := hat2 0 _ rfl
  have hc0 := hc 0 _ rfl
  have hc1 := hc 1 _ rfl
  have hc2 := hc 2 _ rfl
  have hc3 := hc 3 _ rfl
  subst ha
  refine fn_J by_g rfl ?_
  (repeat' (first | refine J.seq ?_ | refine J.block ?_ | refine J.scope ?_ | (refine J.region (fun z => ?_); (conv => lhs; whnf)) | (refine J.cond rfl rfl (fun hq => ?_) (fun hq => ?_) <;> (try simp only [sbM, reduceCtorEq, frB_iff, frB_no] at hq) <;> (try (have hqt : hq = True.intro := rfl; clear hqt hq)) <;> (try (exact absurd trivial hq)) <;> (try (exfalso; omega))) | refine J.exit ?_ | refine J.ret ?_ | refine J.skip ?_ | refine J.label ?_ | (with_reducible first | refine then_normal ?_ | refine then_exit ?_ | refine then_ret ?_ | refine block_exit ?_ | refine block_normal ?_ | refine block_ret ?_ | refine block_exit_ne rfl ?_ | refine kI_go rfl ?_) | ((first | (apply t_next; focus ((conv => lhs; whnf); try exact rfl)) | refine t_forceN ?_ | refine t_addN by_o ?_ | refine t_subN by_o ?_ | refine t_mulN by_o ?_ | refine t_quo by_o by_o ?_ | refine t_rem by_o by_o ?_ | refine t_quoN by_o by_o ?_ | refine t_remN by_o ?_ | refine t_addC ?_ | refine t_subC ?_ | refine t_mulC ?_ | refine t_bRt rfl ?_ | refine t_bRf rfl ?_ | refine t_getC rfl ?_ | refine t_getC (by (first | exact hb0 | exact hb1)) ?_ | refine t_iRp rfl ?_ | refine t_iR by_o ?_ | refine t_iRn rfl ?_ | refine t_fBt rfl ?_ | refine t_fBf rfl ?_ | refine t_fBt by_s ?_ | refine t_fBf by_s ?_ | refine t_bRt by_u ?_ | refine t_bRf by_u ?_ | refine t_oA rfl ?_ | refine t_oA by_a ?_ | refine t_old by_a by_r ?_ | refine t_call0 (hA) rfl by_g rfl by_k ?_ | refine t_call0 (hRA) rfl by_g rfl by_k ?_ | refine t_call0 (hC) rfl by_g rfl by_k ?_ | refine t_call0 (hRC) rfl by_g rfl by_k ?_ | refine t_callG (orcS z) (hS) rfl by_g rfl (by first | rfl | (exact rowg1 _ _ (fun _ => rfl) _) | exact by_g) rfl ?_ | refine t_callG (orcS z) (hRS) rfl by_g rfl (by first | rfl | (exact rowg1 _ _ (fun _ => rfl) _) | exact by_g) rfl ?_ | refine t_call0 (hU) rfl by_g rfl by_k ?_ | refine t_call0 (hRU) rfl by_g rfl by_k ?_ | refine t_call0 (hwk) rfl by_g rfl by_k ?_); (conv => lhs; whnf)) | ((first | refine t_fB (fun hq => ?_) (fun hq => ?_) | refine t_bR (fun hq => ?_) (fun hq => ?_)) <;> (try simp only [sbM, reduceCtorEq, frB_iff, frB_no] at hq) <;> (try (have hqt : hq = True.intro := rfl; clear hqt hq)) <;> (try (exact absurd trivial hq)) <;> (try (exfalso; omega)) <;> (conv => lhs; whnf))))
  refine J.loop (LJ.ind (fun i : Nat => [none, some (.slice (some ⟨b, o, none⟩) n2 c2), none, some (.int .i64 fam), some (.pointer (some ⟨0, 0, some 0⟩)), none, none, none, none, none, none, none, none, none, some (.slice (some ⟨1, 0, some 1⟩) n2 0), some (.slice (some ⟨2, 0, some 1⟩) n2 0), some (.int .i64 (i : Int)), none, none, none, none, none, none, none, none, none, none, none, none, none, none, none, none, none, none, none, none, none, none, none, none, none, none, none, none, none, none, none, none, none, none, none, none, none, none, none, none, none, none, none, none, none, none, none, none, none, none, none, none, none, none, none, none, none, none, none, none, none, none, none, none, none, none, none, none, none, none, none, none, none, none, none, none, none, none, none, none, none, none, none, none, none, none, none, none, none, none, none, none, none, none, none, none, none, none, none]) (fun _ => [(24, [.slice a n c, .int .i64 part]), (38, encA encP (b0 :: bt)), (38, encA encP (b0 :: bt))]) (fun i => i ≤ n2) (fun i => n2 - i) 0 [0, 2, 3] (Nat.zero_le _) rfl ?_ ?_ ?_)
  · exact ⟨_, _, _, rfl, rfl, SimL.ground (l := [.slice a n c, .int .i64 part]) by_g, nin rfl, _, _, _, rfl, rfl, SimL.of_eq (l := encA encP (b0 :: bt)) rfl (encA_gr (fun _ => rfl) _), nin rfl, _, _, _, rfl, rfl, SimL.of_eq (l := encA encP (b0 :: bt)) rfl (encA_gr (fun _ => rfl) _), nin rfl, trivial⟩
  · exact by_s0
  · rintro i hi vs ⟨xs, gx, rfl⟩ IH
    by_cases hin : i < n2
    · obtain ⟨y, hy⟩ : ∃ y, (b0 :: bt)[i]? = some y := ⟨_, List.getElem?_eq_getElem (by omega)⟩
      have hb0 := encA_get (enc := encP) (k := 2) (fun _ => rfl) hy (j := 0) rfl
      have hb1 := encA_get (enc := encP) (k := 2) (fun _ => rfl) hy (j := 1) rfl
      (repeat' (first | refine J.seq ?_ | refine J.block ?_ | refine J.scope ?_ | (refine J.region (fun z => ?_); (conv => lhs; whnf)) | (refine J.cond rfl rfl (fun hq => ?_) (fun hq => ?_) <;> (try simp only [sbM, reduceCtorEq, frB_iff, frB_no] at hq) <;> (try (have hqt : hq = True.intro := rfl; clear hqt hq)) <;> (try (exact absurd trivial hq)) <;> (try (exfalso; omega))) | refine J.exit ?_ | refine J.ret ?_ | refine J.skip ?_ | refine J.label ?_ | (with_reducible first | refine then_normal ?_ | refine then_exit ?_ | refine then_ret ?_ | refine block_exit ?_ | refine block_normal ?_ | refine block_ret ?_ | refine block_exit_ne rfl ?_ | refine kI_go rfl ?_) | ((first | (apply t_next; focus ((conv => lhs; whnf); try exact rfl)) | refine t_forceN ?_ | refine t_addN by_o ?_ | refine t_subN by_o ?_ | refine t_mulN by_o ?_ | refine t_quo by_o by_o ?_ | refine t_rem by_o by_o ?_ | refine t_quoN by_o by_o ?_ | refine t_remN by_o ?_ | refine t_addC ?_ | refine t_subC ?_ | refine t_mulC ?_ | refine t_bRt rfl ?_ | refine t_bRf rfl ?_ | refine t_getC rfl ?_ | refine t_getC (by (first | exact hb0 | exact hb1)) ?_ | refine t_iRp rfl ?_ | refine t_iR by_o ?_ | refine t_iRn rfl ?_ | refine t_fBt rfl ?_ | refine t_fBf rfl ?_ | refine t_fBt by_s ?_ | refine t_fBf by_s ?_ | refine t_bRt by_u ?_ | refine t_bRf by_u ?_ | refine t_oA rfl ?_ | refine t_oA by_a ?_ | refine t_old by_a by_r ?_ | refine t_call0 (hA) rfl by_g rfl by_k ?_ | refine t_call0 (hRA) rfl by_g rfl by_k ?_ | refine t_call0 (hC) rfl by_g rfl by_k ?_ | refine t_call0 (hRC) rfl by_g rfl by_k ?_ | refine t_callG (orcS z) (hS) rfl by_g rfl (by first | rfl | (exact rowg1 _ _ (fun _ => rfl) _) | exact by_g) rfl ?_ | refine t_callG (orcS z) (hRS) rfl by_g rfl (by first | rfl | (exact rowg1 _ _ (fun _ => rfl) _) | exact by_g) rfl ?_ | refine t_call0 (hU) rfl by_g rfl by_k ?_ | refine t_call0 (hRU) rfl by_g rfl by_k ?_ | refine t_call0 (hwk) rfl by_g rfl by_k ?_); (conv => lhs; whnf)) | ((first | refine t_fB (fun hq => ?_) (fun hq => ?_) | refine t_bR (fun hq => ?_) (fun hq => ?_)) <;> (try simp only [sbM, reduceCtorEq, frB_iff, frB_no] at hq) <;> (try (have hqt : hq = True.intro := rfl; clear hqt hq)) <;> (try (exact absurd trivial hq)) <;> (try (exfalso; omega)) <;> (conv => lhs; whnf))))
      refine LJ.ren _ [(24, [.slice a n c, .int .i64 part]), (38, encA encP (b0 :: bt)), (38, encA encP (b0 :: bt))] [0, 1, 2] rfl ⟨_, _, _, rfl, rfl, SimL.ground (l := [.slice a n c, .int .i64 part]) by_g, nin rfl, _, _, _, rfl, rfl, SimL.of_eq (l := encA encP (b0 :: bt)) rfl (encA_gr (fun _ => rfl) _), nin rfl, _, _, _, rfl, rfl, SimL.of_eq (l := encA encP (b0 :: bt)) rfl (encA_gr (fun _ => rfl) _), nin rfl, trivial⟩ ?_ (IH (i + 1) (by omega) (by omega))
      exact by_sb
    · (repeat' (first | refine J.seq ?_ | refine J.block ?_ | refine J.scope ?_ | (refine J.region (fun z => ?_); (conv => lhs; whnf)) | (refine J.cond rfl rfl (fun hq => ?_) (fun hq => ?_) <;> (try simp only [sbM, reduceCtorEq, frB_iff, frB_no] at hq) <;> (try (have hqt : hq = True.intro := rfl; clear hqt hq)) <;> (try (exact absurd trivial hq)) <;> (try (exfalso; omega))) | refine J.exit ?_ | refine J.ret ?_ | refine J.skip ?_ | refine J.label ?_ | (with_reducible first | refine then_normal ?_ | refine then_exit ?_ | refine then_ret ?_ | refine block_exit ?_ | refine block_normal ?_ | refine block_ret ?_ | refine block_exit_ne rfl ?_ | refine kI_go rfl ?_) | ((first | (apply t_next; focus ((conv => lhs; whnf); try exact rfl)) | refine t_forceN ?_ | refine t_addN by_o ?_ | refine t_subN by_o ?_ | refine t_mulN by_o ?_ | refine t_quo by_o by_o ?_ | refine t_rem by_o by_o ?_ | refine t_quoN by_o by_o ?_ | refine t_remN by_o ?_ | refine t_addC ?_ | refine t_subC ?_ | refine t_mulC ?_ | refine t_bRt rfl ?_ | refine t_bRf rfl ?_ | refine t_getC rfl ?_ | refine t_getC (by (first | exact hb0 | exact hb1)) ?_ | refine t_iRp rfl ?_ | refine t_iR by_o ?_ | refine t_iRn rfl ?_ | refine t_fBt rfl ?_ | refine t_fBf rfl ?_ | refine t_fBt by_s ?_ | refine t_fBf by_s ?_ | refine t_bRt by_u ?_ | refine t_bRf by_u ?_ | refine t_oA rfl ?_ | refine t_oA by_a ?_ | refine t_old by_a by_r ?_ | refine t_call0 (hA) rfl by_g rfl by_k ?_ | refine t_call0 (hRA) rfl by_g rfl by_k ?_ | refine t_call0 (hC) rfl by_g rfl by_k ?_ | refine t_call0 (hRC) rfl by_g rfl by_k ?_ | refine t_callG (orcS z) (hS) rfl by_g rfl (by first | rfl | (exact rowg1 _ _ (fun _ => rfl) _) | exact by_g) rfl ?_ | refine t_callG (orcS z) (hRS) rfl by_g rfl (by first | rfl | (exact rowg1 _ _ (fun _ => rfl) _) | exact by_g) rfl ?_ | refine t_call0 (hU) rfl by_g rfl by_k ?_ | refine t_call0 (hRU) rfl by_g rfl by_k ?_ | refine t_call0 (hwk) rfl by_g rfl by_k ?_); (conv => lhs; whnf)) | ((first | refine t_fB (fun hq => ?_) (fun hq => ?_) | refine t_bR (fun hq => ?_) (fun hq => ?_)) <;> (try simp only [sbM, reduceCtorEq, frB_iff, frB_no] at hq) <;> (try (have hqt : hq = True.intro := rfl; clear hqt hq)) <;> (try (exact absurd trivial hq)) <;> (try (exfalso; omega)) <;> (conv => lhs; whnf))))
      (refine endG trivial rfl rfl by_g ?_; (conv => lhs; whnf))
/-- **PurseBills** returns true, whatever its arguments are. -/
theorem purseBills_any {a a2 a3 : Option Addr} {n c n2 c2 n3 c3 : Nat} {ps gs : List Int} {l : List Lot} (part fam : Int) (hP : Ints f a n c ps) (hL : Lots f a2 n2 c2 l) (hG : Ints f a3 n3 c3 gs) (hwk : FnR Tryz.prog f 13 [] ⟨.bool true, []⟩) :
    FnR Tryz.prog f 3 [.agg ⟨[.slice a n c, .int .i64 part]⟩, .slice a2 n2 c2, .slice a3 n3 c3, .int .i64 fam] ⟨.bool true, []⟩ := by
  cases l with
  | nil =>
    refine bills_nil f part fam ⟨0, 0, 0, 0⟩ (.inr ⟨rfl, rfl⟩) hP hL hG hwk ?_
    rw [billsV]; split <;> simp [billsF]
  | cons x l =>
    cases h : billsV ps part (x :: l) gs with
    | nil => exact bills_nil f part fam x (.inl rfl) hP hL hG hwk h
    | cons b0 bt =>
      refine bills_cons f part fam hP hL hG hwk h ?_
      have hs : settleE ps part (x :: l) gs = 0 := by
        rw [billsV] at h; split at h
        · assumption
        · cases h
      have h2 := congrArg List.length h
      rw [billsV, if_pos hs, billsF, List.length_map, List.length_zip] at h2
      rw [settle_rl] at hs
      have hT := truthE_z.1 (or2_z.1 hs).2
      rw [truthB, Bool.and_eq_true, decide_eq_true_eq] at hT
      have := hL.len
      omega
end
end Go.Proofs.YtlcdifeiinpaiaaGreat
