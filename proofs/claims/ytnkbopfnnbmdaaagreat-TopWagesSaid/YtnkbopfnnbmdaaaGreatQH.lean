/- Package purse: advances, truths, bills of lots. Conditions: as each theorem says. -/
import Derived.Test.YtnkbopfnnbmdaaaGreatQF
import Derived.Test.YtnkbopfnnbmdaaaGreatK13
namespace Go.Proofs.YtnkbopfnnbmdaaaGreat
open Go Go.RowKit
attribute [local irreducible] addC subC mulC quoI remI forceN forceB bR getC iR kI callI rcI oldC oA nextC
set_option maxRecDepth 1000000
set_option maxHeartbeats 8000000
set_option linter.unusedVariables false
set_option linter.unusedSimpArgs false
def truthB (l : List Lot) (gs : List Int) : Bool := decide (gs.length = l.length) && (l.zip gs).all (fun x => frB x.2 x.1.lo x.1.hi)
def truthE (l : List Lot) (gs : List Int) : Int := if truthB l gs then 0 else 82
section
variable (f : Nat → Nat → Option Value)
theorem checkTruth_fn {a a2 : Option Addr} {n c n2 c2 : Nat} {l : List Lot} {gs : List Int} (hL : Lots f a n c l) (hG : Ints f a2 n2 c2 gs) : FnR Tryz.prog f 21 [.slice a n c, .slice a2 n2 c2] ⟨.int .i64 (truthE l gs), []⟩ := by
  obtain ⟨hg, hlen, hnc, hle, hat⟩ := hL
  obtain ⟨hg2, hlen2, hnc2, hle2, hat2⟩ := hG
  refine fn_J by_g rfl ?_
  (repeat' (first | refine J.seq ?_ | refine JP.one ?_ | refine JP.step ?_ | refine J.block ?_ | refine J.scope ?_ | (refine J.region (fun z => ?_); (conv => lhs; whnf)) | (refine J.cond rfl rfl (fun hq => ?_) (fun hq => ?_) <;> (try simp only [sbM, reduceCtorEq, frB_iff, frB_no, gradeB_iff, gradeB_no, famE_z] at hq) <;> (try (have hqt : hq = True.intro := rfl; clear hqt hq)) <;> (try (exact absurd trivial hq)) <;> (try (exfalso; omega))) | refine J.exit ?_ | refine J.ret ?_ | refine J.skip ?_ | refine J.label ?_ | (with_reducible first | refine then_normal ?_ | refine then_exit ?_ | refine then_ret ?_ | refine block_exit ?_ | refine block_normal ?_ | refine block_ret ?_ | refine block_exit_ne rfl ?_ | refine kI_go rfl ?_) | ((first | (apply t_next; focus ((conv => lhs; whnf); try exact rfl)) | refine t_forceN ?_ | refine t_addN by_o ?_ | refine t_subN by_o ?_ | refine t_mulN by_o ?_ | refine t_quo by_o by_o ?_ | refine t_rem by_o by_o ?_ | refine t_quoN by_o by_o ?_ | refine t_remN by_o ?_ | refine t_addC ?_ | refine t_subC ?_ | refine t_mulC ?_ | refine t_bRt rfl ?_ | refine t_bRf rfl ?_ | refine t_getC rfl ?_ | refine t_getC by_a ?_ | refine t_iRp rfl ?_ | refine t_iR by_o ?_ | refine t_iRn rfl ?_ | refine t_fBt rfl ?_ | refine t_fBf rfl ?_ | refine t_fBt by_s ?_ | refine t_fBf by_s ?_ | refine t_bRt by_u ?_ | refine t_bRf by_u ?_ | refine t_oA rfl ?_ | refine t_oA by_a ?_ | refine t_old by_a by_r ?_); (conv => lhs; whnf)) | ((first | refine t_fB (fun hq => ?_) (fun hq => ?_) | refine t_bR (fun hq => ?_) (fun hq => ?_) | (first | refine t_callB (isFrom_fn _ _ _ _) rfl by_g rfl (fun hq => ?_) (fun hq => ?_))) <;> (try simp only [sbM, reduceCtorEq, frB_iff, frB_no, gradeB_iff, gradeB_no, famE_z] at hq) <;> (try (have hqt : hq = True.intro := rfl; clear hqt hq)) <;> (try (exact absurd trivial hq)) <;> (try (exfalso; omega)) <;> (conv => lhs; whnf))))
  · (refine endG trivial rfl rfl by_g ?_; (conv => lhs; whnf)); rw [truthE, truthB, decide_eq_false (by omega)]; rfl
  · refine J.loop (LJ.ind (fun i : Nat => [none, some (.slice a2 n2 c2), none, none, none, none, none, none, none, none, none, none, some (.slice a n c), some (.int .i64 (n : Int)), some (.int .i64 (i : Int)), none, none, none, none, none, none, none, none, none, none, none, none, none, none, none, none, none]) (fun _ => []) (fun i => i ≤ n ∧ ((l.zip gs).take i).all (fun x => frB x.2 x.1.lo x.1.hi) = true) (fun i => n - i) 0 [] ⟨Nat.zero_le _, rfl⟩ rfl trivial ?_ ?_)
    · exact by_s0
    · rintro i ⟨hi, hd⟩ vs ⟨xs, gx, rfl⟩ IH
      by_cases hin : i < n
      · obtain ⟨x, hx⟩ : ∃ x, l[i]? = some x := ⟨_, List.getElem?_eq_getElem (by omega)⟩
        obtain ⟨g, hgi⟩ : ∃ g, gs[i]? = some g := ⟨_, List.getElem?_eq_getElem (by omega)⟩
        obtain ⟨b, o, ha, hc⟩ := hat i _ hx
        have hc0 := hc 0 _ rfl
        have hc1 := hc 1 _ rfl
        have hc2 := hc 2 _ rfl
        have hc3 := hc 3 _ rfl
        obtain ⟨b2, o2, ha2, hcg⟩ := hat2 i _ hgi
        have hcg0 := hcg 0 _ rfl
        have hz : (l.zip gs)[i]? = some (x, g) := by rw [List.getElem?_zip_eq_some]; exact ⟨hx, hgi⟩
        have htk : (l.zip gs).take (i + 1) = (l.zip gs).take i ++ [(x, g)] := by rw [List.take_add_one, hz]; rfl
        (repeat' (first | refine J.seq ?_ | refine JP.one ?_ | refine JP.step ?_ | refine J.block ?_ | refine J.scope ?_ | (refine J.region (fun z => ?_); (conv => lhs; whnf)) | (refine J.cond rfl rfl (fun hq => ?_) (fun hq => ?_) <;> (try simp only [sbM, reduceCtorEq, frB_iff, frB_no, gradeB_iff, gradeB_no, famE_z] at hq) <;> (try (have hqt : hq = True.intro := rfl; clear hqt hq)) <;> (try (exact absurd trivial hq)) <;> (try (exfalso; omega))) | refine J.exit ?_ | refine J.ret ?_ | refine J.skip ?_ | refine J.label ?_ | (with_reducible first | refine then_normal ?_ | refine then_exit ?_ | refine then_ret ?_ | refine block_exit ?_ | refine block_normal ?_ | refine block_ret ?_ | refine block_exit_ne rfl ?_ | refine kI_go rfl ?_) | ((first | (apply t_next; focus ((conv => lhs; whnf); try exact rfl)) | refine t_forceN ?_ | refine t_addN by_o ?_ | refine t_subN by_o ?_ | refine t_mulN by_o ?_ | refine t_quo by_o by_o ?_ | refine t_rem by_o by_o ?_ | refine t_quoN by_o by_o ?_ | refine t_remN by_o ?_ | refine t_addC ?_ | refine t_subC ?_ | refine t_mulC ?_ | refine t_bRt rfl ?_ | refine t_bRf rfl ?_ | refine t_getC rfl ?_ | refine t_getC by_a ?_ | refine t_iRp rfl ?_ | refine t_iR by_o ?_ | refine t_iRn rfl ?_ | refine t_fBt rfl ?_ | refine t_fBf rfl ?_ | refine t_fBt by_s ?_ | refine t_fBf by_s ?_ | refine t_bRt by_u ?_ | refine t_bRf by_u ?_ | refine t_oA rfl ?_ | refine t_oA by_a ?_ | refine t_old by_a by_r ?_); (conv => lhs; whnf)) | ((first | refine t_fB (fun hq => ?_) (fun hq => ?_) | refine t_bR (fun hq => ?_) (fun hq => ?_) | (first | refine t_callB (isFrom_fn _ _ _ _) rfl by_g rfl (fun hq => ?_) (fun hq => ?_))) <;> (try simp only [sbM, reduceCtorEq, frB_iff, frB_no, gradeB_iff, gradeB_no, famE_z] at hq) <;> (try (have hqt : hq = True.intro := rfl; clear hqt hq)) <;> (try (exact absurd trivial hq)) <;> (try (exfalso; omega)) <;> (conv => lhs; whnf))))
        all_goals first
          | (refine LJ.ren _ [] [] rfl trivial ?_ (IH (i + 1) ⟨hin, ?_⟩ ?_)
             · exact by_sb
             · rw [htk, List.all_append, hd, Bool.true_and, List.all_cons, List.all_nil, Bool.and_true, frB_iff]; assumption
             · show n - (i + 1) < n - i; omega)
          | ((refine endG trivial rfl rfl by_g ?_; (conv => lhs; whnf))
             have hno : (l.zip gs).all (fun x => frB x.2 x.1.lo x.1.hi) = false := List.all_eq_false.2 ⟨(x, g), List.mem_of_getElem? hz, by rw [frB_iff]; assumption⟩
             simp [truthE, truthB, hno])
      · (repeat' (first | refine J.seq ?_ | refine JP.one ?_ | refine JP.step ?_ | refine J.block ?_ | refine J.scope ?_ | (refine J.region (fun z => ?_); (conv => lhs; whnf)) | (refine J.cond rfl rfl (fun hq => ?_) (fun hq => ?_) <;> (try simp only [sbM, reduceCtorEq, frB_iff, frB_no, gradeB_iff, gradeB_no, famE_z] at hq) <;> (try (have hqt : hq = True.intro := rfl; clear hqt hq)) <;> (try (exact absurd trivial hq)) <;> (try (exfalso; omega))) | refine J.exit ?_ | refine J.ret ?_ | refine J.skip ?_ | refine J.label ?_ | (with_reducible first | refine then_normal ?_ | refine then_exit ?_ | refine then_ret ?_ | refine block_exit ?_ | refine block_normal ?_ | refine block_ret ?_ | refine block_exit_ne rfl ?_ | refine kI_go rfl ?_) | ((first | (apply t_next; focus ((conv => lhs; whnf); try exact rfl)) | refine t_forceN ?_ | refine t_addN by_o ?_ | refine t_subN by_o ?_ | refine t_mulN by_o ?_ | refine t_quo by_o by_o ?_ | refine t_rem by_o by_o ?_ | refine t_quoN by_o by_o ?_ | refine t_remN by_o ?_ | refine t_addC ?_ | refine t_subC ?_ | refine t_mulC ?_ | refine t_bRt rfl ?_ | refine t_bRf rfl ?_ | refine t_getC rfl ?_ | refine t_getC by_a ?_ | refine t_iRp rfl ?_ | refine t_iR by_o ?_ | refine t_iRn rfl ?_ | refine t_fBt rfl ?_ | refine t_fBf rfl ?_ | refine t_fBt by_s ?_ | refine t_fBf by_s ?_ | refine t_bRt by_u ?_ | refine t_bRf by_u ?_ | refine t_oA rfl ?_ | refine t_oA by_a ?_ | refine t_old by_a by_r ?_); (conv => lhs; whnf)) | ((first | refine t_fB (fun hq => ?_) (fun hq => ?_) | refine t_bR (fun hq => ?_) (fun hq => ?_) | (first | refine t_callB (isFrom_fn _ _ _ _) rfl by_g rfl (fun hq => ?_) (fun hq => ?_))) <;> (try simp only [sbM, reduceCtorEq, frB_iff, frB_no, gradeB_iff, gradeB_no, famE_z] at hq) <;> (try (have hqt : hq = True.intro := rfl; clear hqt hq)) <;> (try (exact absurd trivial hq)) <;> (try (exfalso; omega)) <;> (conv => lhs; whnf))))
        (refine endG trivial rfl rfl by_g ?_; (conv => lhs; whnf)); rw [List.take_of_length_le (by simp; omega)] at hd; simp only [truthE, truthB, hd]; simp; omega
end
end Go.Proofs.YtnkbopfnnbmdaaaGreat
