/- PotLevels, in memory that was there before. Conditions: as each theorem says. -/
import Derived.Test.YtfpojfjnelnjdaaGreatPM
namespace Go.Proofs.YtfpojfjnelnjdaaGreat
open Go Go.RowKit
attribute [local irreducible] addC subC mulC quoI remI forceN forceB bR getC iR kI callI rcI oldC oA nextC
set_option maxRecDepth 1000000
set_option maxHeartbeats 8000000
set_option linter.unusedVariables false
set_option linter.unusedSimpArgs false
theorem guardSp : Tryz.prog.eqGuardType Tryz.prog.depth 28 = false := by decide +kernel
theorem heldSp : Tryz.prog.stoodInHeld 28 = false := by decide +kernel
section
variable (f : Nat → Nat → Option Value)
/-- **PotLevels** returns true, whatever its arguments are. -/
theorem potLevels_any {a a2 : Option Addr} {n c n2 c2 : Nat} {ps : List Pt} {ds : List Dy} (base hands x y z : Int) (hP : Pts f a n c ps) (hD : Dys f a2 n2 c2 ds) (hwk : FnR Tryz.prog f 13 [] ⟨.bool true, []⟩) :
    FnR Tryz.prog f 3 [.agg ⟨encRun a n c a2 n2 c2 base hands⟩, .agg ⟨[.int .i64 x, .int .i64 y, .int .i64 z]⟩] ⟨.bool true, []⟩ := by
  have hg := hP.g
  have hg2 := hD.g
  have hGu := guardSp
  have hHe := heldSp
  obtain ⟨v1, v2, e1, hL1, hL2⟩ : ∃ v1 v2 e1 : Int, FnR Tryz.prog f 7 [.agg ⟨encRun a n c a2 n2 c2 base hands⟩, .int .i64 x, .int .i64 y, .int .i64 z] ⟨.tuple ⟨[.agg ⟨[.int .i64 v1, .int .i64 v2]⟩, .int .i64 e1]⟩, []⟩ ∧ FnR Tryz.prog f 8 [.agg ⟨encRun a n c a2 n2 c2 base hands⟩, .int .i64 x, .int .i64 y, .int .i64 z] ⟨.tuple ⟨[.agg ⟨[.int .i64 v1, .int .i64 v2]⟩, .int .i64 e1]⟩, []⟩ := by
    by_cases h : levE ps ds base hands x y z = 0
    · have h' := h
      rw [levE, orE2_z] at h'
      obtain ⟨⟨hx0, hx1⟩, ⟨hz0, hz1⟩, _⟩ := askE_z.1 h'.2
      obtain ⟨k, rfl⟩ := Int.eq_ofNat_of_zero_le hx0
      obtain ⟨d, rfl⟩ := Int.eq_ofNat_of_zero_le hz0
      obtain ⟨p, hk⟩ : ∃ p, ps[k]? = some p := ⟨_, List.getElem?_eq_getElem (by omega)⟩
      exact ⟨_, _, _, Level_fn f base hands y k d p hP hD h hk, RLevel_fn f base hands y k d p hP hD h hk⟩
    · exact ⟨_, _, _, Level_err f base hands x y z hP hD h, RLevel_err f base hands x y z hP hD h⟩
  obtain ⟨v3, e2, hD1, hD2⟩ : ∃ v3 e2 : Int, FnR Tryz.prog f 11 [.agg ⟨encRun a n c a2 n2 c2 base hands⟩, .int .i64 x, .int .i64 y] ⟨.tuple ⟨[.int .i64 v3, .int .i64 e2]⟩, []⟩ ∧ FnR Tryz.prog f 12 [.agg ⟨encRun a n c a2 n2 c2 base hands⟩, .int .i64 x, .int .i64 y] ⟨.tuple ⟨[.int .i64 v3, .int .i64 e2]⟩, []⟩ := by
    by_cases h : levE ps ds base hands x y ((ds.length : Int) - 1) = 0
    · have h' := h
      rw [levE, orE2_z] at h'
      obtain ⟨⟨hx0, hx1⟩, _⟩ := askE_z.1 h'.2
      obtain ⟨k, rfl⟩ := Int.eq_ofNat_of_zero_le hx0
      obtain ⟨p, hk⟩ : ∃ p, ps[k]? = some p := ⟨_, List.getElem?_eq_getElem (by omega)⟩
      exact ⟨_, _, Due_fn f base hands y k p hP hD h hk, RDue_fn f base hands y k p hP hD h hk⟩
    · exact ⟨_, _, Due_err f base hands x y hP hD h, RDue_err f base hands x y hP hD h⟩
  have hC1 := Check_fn f base hands hP hD
  have hC2 := RCheck_fn f base hands hP hD
  generalize potsE ps ds base hands = e3 at hC1 hC2
  refine fn_J by_g rfl ?_
  (repeat' (first | refine J.seq ?_ | refine JP.one ?_ | refine JP.step ?_ | refine J.block ?_ | refine J.scope ?_ | (refine J.region (fun z => ?_); (conv => lhs; whnf)) | (refine J.cond rfl rfl (fun hq => ?_) (fun hq => ?_) <;> (try simp only [sbM, reduceCtorEq, frS_iff, frS_no] at hq) <;> (try (have hqt : hq = True.intro := rfl; clear hqt hq)) <;> (try (exact absurd trivial hq)) <;> (try (exfalso; omega))) | refine J.exit ?_ | refine J.ret ?_ | refine J.skip ?_ | refine J.label ?_ | (with_reducible first | refine then_normal ?_ | refine then_exit ?_ | refine then_ret ?_ | refine block_exit ?_ | refine block_normal ?_ | refine block_ret ?_ | refine block_exit_ne rfl ?_ | refine kI_go rfl ?_) | ((first | (apply t_next; focus ((conv => lhs; whnf); try exact rfl)) | refine t_forceN ?_ | refine t_addN by_o ?_ | refine t_subN by_o ?_ | refine t_mulN by_o ?_ | refine t_quo by_o by_o ?_ | refine t_rem by_o by_o ?_ | refine t_quoN by_o by_o ?_ | refine t_remN by_o ?_ | refine t_addC ?_ | refine t_subC ?_ | refine t_mulC ?_ | refine t_bRt rfl ?_ | refine t_bRf rfl ?_ | refine t_getC rfl ?_ | refine t_getC by_a ?_ | refine t_iRp rfl ?_ | refine t_iR by_o ?_ | refine t_iRn rfl ?_ | refine t_fBt rfl ?_ | refine t_fBf rfl ?_ | refine t_fBt by_s ?_ | refine t_fBf by_s ?_ | refine t_bRt by_u ?_ | refine t_bRf by_u ?_ | refine t_oA rfl ?_ | refine t_oA by_a ?_ | refine t_old by_a by_r ?_ | refine t_call0 (hL1) rfl by_g rfl by_k ?_ | refine t_call0 (hL2) rfl by_g rfl by_k ?_ | refine t_call0 (hC1) rfl by_g rfl by_k ?_ | refine t_call0 (hC2) rfl by_g rfl by_k ?_ | refine t_call0 (hD1) rfl by_g rfl by_k ?_ | refine t_call0 (hD2) rfl by_g rfl by_k ?_ | refine t_call0 (hwk) rfl by_g rfl by_k ?_); (conv => lhs; whnf)) | ((first | refine t_fB (fun hq => ?_) (fun hq => ?_) | refine t_bR (fun hq => ?_) (fun hq => ?_)) <;> (try simp only [sbM, reduceCtorEq, frS_iff, frS_no] at hq) <;> (try (have hqt : hq = True.intro := rfl; clear hqt hq)) <;> (try (exact absurd trivial hq)) <;> (try (exfalso; omega)) <;> (conv => lhs; whnf))))
  (refine endG trivial rfl rfl by_g ?_; (conv => lhs; whnf))
end
end Go.Proofs.YtfpojfjnelnjdaaGreat
