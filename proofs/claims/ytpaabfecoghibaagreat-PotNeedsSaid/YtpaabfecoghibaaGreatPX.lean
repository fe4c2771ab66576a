/- PotNeeds, in memory that was there before. Conditions: as each theorem says. -/
import Derived.Test.YtpaabfecoghibaaGreatPV
namespace Go.Proofs.YtpaabfecoghibaaGreat
open Go Go.RowKit
attribute [local irreducible] addC subC mulC quoI remI forceN forceB bR getC iR kI callI rcI oldC oA nextC
set_option maxRecDepth 1000000
set_option maxHeartbeats 8000000
set_option linter.unusedVariables false
set_option linter.unusedSimpArgs false
section
variable (f : Nat → Nat → Option Value)
/-- **PotNeeds** returns true, whatever its arguments are. -/
theorem potNeeds_any {a a2 : Option Addr} {n c n2 c2 : Nat} {ps : List Pt} {ds : List Dy} (base hands x y z : Int) (hP : Pts f a n c ps) (hD : Dys f a2 n2 c2 ds) (hwk : FnR Tryz.prog f 13 [] ⟨.bool true, []⟩) :
    FnR Tryz.prog f 5 [.agg ⟨encRun a n c a2 n2 c2 base hands⟩, .agg ⟨[.int .i64 x, .int .i64 y, .int .i64 z]⟩] ⟨.bool true, []⟩ := by
  have hg := hP.g
  have hg2 := hD.g
  obtain ⟨v1, e1, hN1, hN2⟩ : ∃ v1 e1 : Int, FnR Tryz.prog f 20 [.agg ⟨encRun a n c a2 n2 c2 base hands⟩, .int .i64 x, .int .i64 y, .int .i64 z] ⟨.tuple ⟨[.int .i64 v1, .int .i64 e1]⟩, []⟩ ∧ FnR Tryz.prog f 21 [.agg ⟨encRun a n c a2 n2 c2 base hands⟩, .int .i64 x, .int .i64 y, .int .i64 z] ⟨.tuple ⟨[.int .i64 v1, .int .i64 e1]⟩, []⟩ := by
    by_cases h : nedE ps ds base hands x y z = 0
    · have h' := h
      rw [nedE, orE2_z] at h'
      obtain ⟨⟨hx0, hx1⟩, ⟨hz0, hz1⟩, hy0, hy1⟩ := askE_z.1 h'.2
      obtain ⟨k, rfl⟩ := Int.eq_ofNat_of_zero_le hx0
      obtain ⟨u, rfl⟩ := Int.eq_ofNat_of_zero_le hy0
      obtain ⟨d, rfl⟩ := Int.eq_ofNat_of_zero_le hz0
      obtain ⟨p, hk⟩ : ∃ p, ps[k]? = some p := ⟨_, List.getElem?_eq_getElem (by omega)⟩
      exact ⟨_, _, Need_fn f base hands k u d p hP hD h hk, RNeed_fn f base hands k u d p hP hD h hk⟩
    · exact ⟨_, _, Need_err f base hands x y z hP hD h, RNeed_err f base hands x y z hP hD h⟩
  obtain ⟨v3, v4, e2, hS1, hS2⟩ : ∃ v3 v4 e2 : Int, FnR Tryz.prog f 22 [.agg ⟨encRun a n c a2 n2 c2 base hands⟩] ⟨.tuple ⟨[.int .i64 v3, .int .i64 v4, .int .i64 e2]⟩, []⟩ ∧ FnR Tryz.prog f 23 [.agg ⟨encRun a n c a2 n2 c2 base hands⟩] ⟨.tuple ⟨[.int .i64 v3, .int .i64 v4, .int .i64 e2]⟩, []⟩ := by
    by_cases h : potsE ps ds base hands = 0
    · obtain ⟨a3, x3, e3, hS⟩ := isShort_ex ps base ds hands
      exact ⟨_, _, _, Short_fn f base hands a3 x3 e3 hP hD h hS, RShort_fn f base hands a3 x3 e3 hP hD h hS⟩
    · exact ⟨_, _, _, Short_err f base hands hP hD h, RShort_err f base hands hP hD h⟩
  refine fn_J by_g rfl ?_
  (repeat' (first | refine J.seq ?_ | refine JP.one ?_ | refine JP.step ?_ | refine J.block ?_ | refine J.scope ?_ | (refine J.region (fun z => ?_); (conv => lhs; whnf)) | (refine J.cond rfl rfl (fun hq => ?_) (fun hq => ?_) <;> (try simp only [sbM, reduceCtorEq, frS_iff, frS_no] at hq) <;> (try (have hqt : hq = True.intro := rfl; clear hqt hq)) <;> (try (exact absurd trivial hq)) <;> (try (exfalso; omega))) | refine J.exit ?_ | refine J.ret ?_ | refine J.skip ?_ | refine J.label ?_ | (with_reducible first | refine then_normal ?_ | refine then_exit ?_ | refine then_ret ?_ | refine block_exit ?_ | refine block_normal ?_ | refine block_ret ?_ | refine block_exit_ne rfl ?_ | refine kI_go rfl ?_) | ((first | (apply t_next; focus ((conv => lhs; whnf); try exact rfl)) | refine t_forceN ?_ | refine t_addN by_o ?_ | refine t_subN by_o ?_ | refine t_mulN by_o ?_ | refine t_quo by_o by_o ?_ | refine t_rem by_o by_o ?_ | refine t_quoN by_o by_o ?_ | refine t_remN by_o ?_ | refine t_addC ?_ | refine t_subC ?_ | refine t_mulC ?_ | refine t_bRt rfl ?_ | refine t_bRf rfl ?_ | refine t_getC rfl ?_ | refine t_getC by_a ?_ | refine t_iRp rfl ?_ | refine t_iR by_o ?_ | refine t_iRn rfl ?_ | refine t_fBt rfl ?_ | refine t_fBf rfl ?_ | refine t_fBt by_s ?_ | refine t_fBf by_s ?_ | refine t_bRt by_u ?_ | refine t_bRf by_u ?_ | refine t_oA rfl ?_ | refine t_oA by_a ?_ | refine t_old by_a by_r ?_ | refine t_call0 (hN1) rfl by_g rfl by_k ?_ | refine t_call0 (hN2) rfl by_g rfl by_k ?_ | refine t_call0 (hS1) rfl by_g rfl by_k ?_ | refine t_call0 (hS2) rfl by_g rfl by_k ?_ | refine t_call0 (hwk) rfl by_g rfl by_k ?_); (conv => lhs; whnf)) | ((first | refine t_fB (fun hq => ?_) (fun hq => ?_) | refine t_bR (fun hq => ?_) (fun hq => ?_)) <;> (try simp only [sbM, reduceCtorEq, frS_iff, frS_no] at hq) <;> (try (have hqt : hq = True.intro := rfl; clear hqt hq)) <;> (try (exact absurd trivial hq)) <;> (try (exfalso; omega)) <;> (conv => lhs; whnf))))
  (refine endG trivial rfl rfl by_g ?_; (conv => lhs; whnf))
end
end Go.Proofs.YtpaabfecoghibaaGreat
