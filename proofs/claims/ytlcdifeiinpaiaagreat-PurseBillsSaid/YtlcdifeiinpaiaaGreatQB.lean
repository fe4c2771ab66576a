/- Package purse: rates are checked. Conditions: as each theorem says. -/
import Derived.Test.YtlcdifeiinpaiaaGreatQA
namespace Go.Proofs.YtlcdifeiinpaiaaGreat
open Go Go.RowKit
attribute [local irreducible] addC subC mulC quoI remI forceN forceB bR getC iR kI callI rcI oldC oA nextC
set_option maxRecDepth 1000000
set_option maxHeartbeats 8000000
set_option linter.unusedVariables false
set_option linter.unusedSimpArgs false
def descB : Int → List Int → Bool
  | _, [] => true
  | top, p :: ps => frB p 0 top && descB p ps
def ratesB (ps : List Int) (part : Int) : Bool := frB ps.length 1 8 && frB part 0 1000 && descB 100000 ps
def ratesE (ps : List Int) (part : Int) : Int := if ratesB ps part then 0 else 80
section
variable (f : Nat → Nat → Option Value)
theorem Check_fn {a : Option Addr} {n c : Nat} {ps : List Int} (part : Int) (hP : Ints f a n c ps) : FnR Tryz.prog f 7 [.agg ⟨[.slice a n c, .int .i64 part]⟩] ⟨.int .i64 (ratesE ps part), []⟩ := by
  obtain ⟨hg, hlen, hnc, hle, hat⟩ := hP
  refine fn_J by_g rfl ?_
  (repeat' (first | refine J.seq ?_ | refine J.block ?_ | refine J.scope ?_ | (refine J.region (fun z => ?_); (conv => lhs; whnf)) | (refine J.cond rfl rfl (fun hq => ?_) (fun hq => ?_) <;> (try simp only [sbM, reduceCtorEq, frB_iff, frB_no] at hq) <;> (try (have hqt : hq = True.intro := rfl; clear hqt hq)) <;> (try (exact absurd trivial hq)) <;> (try (exfalso; omega))) | refine J.exit ?_ | refine J.ret ?_ | refine J.skip ?_ | refine J.label ?_ | (with_reducible first | refine then_normal ?_ | refine then_exit ?_ | refine then_ret ?_ | refine block_exit ?_ | refine block_normal ?_ | refine block_ret ?_ | refine block_exit_ne rfl ?_ | refine kI_go rfl ?_) | ((first | (apply t_next; focus ((conv => lhs; whnf); try exact rfl)) | refine t_forceN ?_ | refine t_addN by_o ?_ | refine t_subN by_o ?_ | refine t_mulN by_o ?_ | refine t_quo by_o by_o ?_ | refine t_rem by_o by_o ?_ | refine t_quoN by_o by_o ?_ | refine t_remN by_o ?_ | refine t_addC ?_ | refine t_subC ?_ | refine t_mulC ?_ | refine t_bRt rfl ?_ | refine t_bRf rfl ?_ | refine t_getC rfl ?_ | refine t_getC by_a ?_ | refine t_iRp rfl ?_ | refine t_iR by_o ?_ | refine t_iRn rfl ?_ | refine t_fBt rfl ?_ | refine t_fBf rfl ?_ | refine t_fBt by_s ?_ | refine t_fBf by_s ?_ | refine t_bRt by_u ?_ | refine t_bRf by_u ?_ | refine t_oA rfl ?_ | refine t_oA by_a ?_ | refine t_old by_a by_r ?_); (conv => lhs; whnf)) | ((first | refine t_fB (fun hq => ?_) (fun hq => ?_) | refine t_bR (fun hq => ?_) (fun hq => ?_) | (first | refine t_callB (isFrom_fn _ _ _ _) rfl by_g rfl (fun hq => ?_) (fun hq => ?_) | refine t_callB (In_fn _ _ _ _) rfl by_g rfl (fun hq => ?_) (fun hq => ?_))) <;> (try simp only [sbM, reduceCtorEq, frB_iff, frB_no] at hq) <;> (try (have hqt : hq = True.intro := rfl; clear hqt hq)) <;> (try (exact absurd trivial hq)) <;> (try (exfalso; omega)) <;> (conv => lhs; whnf))))
  · refine J.loop (LJ.ind (fun x : Nat × Int => [none, none, none, some (.int .i64 x.2), none, none, none, none, none, none, none, none, none, none, none, none, none, none, some (.slice a n c), some (.int .i64 (n : Int)), some (.int .i64 (x.1 : Int)), none, none, none, none, none, none, none, none, none]) (fun _ => []) (fun x => x.1 ≤ n ∧ descB 100000 ps = descB x.2 (ps.drop x.1)) (fun x => n - x.1) (0, 100000) [] ⟨Nat.zero_le _, rfl⟩ rfl trivial ?_ ?_)
    · exact by_s0
    · rintro ⟨i, top⟩ ⟨hi, hd⟩ vs ⟨xs, gx, rfl⟩ IH
      simp only at hi hd
      by_cases hin : i < n
      · have hx : ps[i]? = some ps[i] := List.getElem?_eq_getElem (by omega)
        obtain ⟨b, o, ha, hc⟩ := hat i _ hx
        have hc0 := hc 0 _ rfl
        have hdr : ps.drop i = ps[i] :: ps.drop (i + 1) := List.drop_eq_getElem_cons (by omega)
        (repeat' (first | refine J.seq ?_ | refine J.block ?_ | refine J.scope ?_ | (refine J.region (fun z => ?_); (conv => lhs; whnf)) | (refine J.cond rfl rfl (fun hq => ?_) (fun hq => ?_) <;> (try simp only [sbM, reduceCtorEq, frB_iff, frB_no] at hq) <;> (try (have hqt : hq = True.intro := rfl; clear hqt hq)) <;> (try (exact absurd trivial hq)) <;> (try (exfalso; omega))) | refine J.exit ?_ | refine J.ret ?_ | refine J.skip ?_ | refine J.label ?_ | (with_reducible first | refine then_normal ?_ | refine then_exit ?_ | refine then_ret ?_ | refine block_exit ?_ | refine block_normal ?_ | refine block_ret ?_ | refine block_exit_ne rfl ?_ | refine kI_go rfl ?_) | ((first | (apply t_next; focus ((conv => lhs; whnf); try exact rfl)) | refine t_forceN ?_ | refine t_addN by_o ?_ | refine t_subN by_o ?_ | refine t_mulN by_o ?_ | refine t_quo by_o by_o ?_ | refine t_rem by_o by_o ?_ | refine t_quoN by_o by_o ?_ | refine t_remN by_o ?_ | refine t_addC ?_ | refine t_subC ?_ | refine t_mulC ?_ | refine t_bRt rfl ?_ | refine t_bRf rfl ?_ | refine t_getC rfl ?_ | refine t_getC by_a ?_ | refine t_iRp rfl ?_ | refine t_iR by_o ?_ | refine t_iRn rfl ?_ | refine t_fBt rfl ?_ | refine t_fBf rfl ?_ | refine t_fBt by_s ?_ | refine t_fBf by_s ?_ | refine t_bRt by_u ?_ | refine t_bRf by_u ?_ | refine t_oA rfl ?_ | refine t_oA by_a ?_ | refine t_old by_a by_r ?_); (conv => lhs; whnf)) | ((first | refine t_fB (fun hq => ?_) (fun hq => ?_) | refine t_bR (fun hq => ?_) (fun hq => ?_) | (first | refine t_callB (isFrom_fn _ _ _ _) rfl by_g rfl (fun hq => ?_) (fun hq => ?_) | refine t_callB (In_fn _ _ _ _) rfl by_g rfl (fun hq => ?_) (fun hq => ?_))) <;> (try simp only [sbM, reduceCtorEq, frB_iff, frB_no] at hq) <;> (try (have hqt : hq = True.intro := rfl; clear hqt hq)) <;> (try (exact absurd trivial hq)) <;> (try (exfalso; omega)) <;> (conv => lhs; whnf))))
        · refine LJ.ren _ [] [] rfl trivial ?_ (IH (i + 1, ps[i]) ⟨hin, ?_⟩ ?_)
          · exact by_sb
          · rw [hd, hdr, descB]; simp [frB, *]
          · simp only; omega
        · (refine endG trivial rfl rfl by_g ?_; (conv => lhs; whnf)); simp only [ratesE, ratesB, hd, hdr, descB, frB, hlen]; simp; omega
      · (repeat' (first | refine J.seq ?_ | refine J.block ?_ | refine J.scope ?_ | (refine J.region (fun z => ?_); (conv => lhs; whnf)) | (refine J.cond rfl rfl (fun hq => ?_) (fun hq => ?_) <;> (try simp only [sbM, reduceCtorEq, frB_iff, frB_no] at hq) <;> (try (have hqt : hq = True.intro := rfl; clear hqt hq)) <;> (try (exact absurd trivial hq)) <;> (try (exfalso; omega))) | refine J.exit ?_ | refine J.ret ?_ | refine J.skip ?_ | refine J.label ?_ | (with_reducible first | refine then_normal ?_ | refine then_exit ?_ | refine then_ret ?_ | refine block_exit ?_ | refine block_normal ?_ | refine block_ret ?_ | refine block_exit_ne rfl ?_ | refine kI_go rfl ?_) | ((first | (apply t_next; focus ((conv => lhs; whnf); try exact rfl)) | refine t_forceN ?_ | refine t_addN by_o ?_ | refine t_subN by_o ?_ | refine t_mulN by_o ?_ | refine t_quo by_o by_o ?_ | refine t_rem by_o by_o ?_ | refine t_quoN by_o by_o ?_ | refine t_remN by_o ?_ | refine t_addC ?_ | refine t_subC ?_ | refine t_mulC ?_ | refine t_bRt rfl ?_ | refine t_bRf rfl ?_ | refine t_getC rfl ?_ | refine t_getC by_a ?_ | refine t_iRp rfl ?_ | refine t_iR by_o ?_ | refine t_iRn rfl ?_ | refine t_fBt rfl ?_ | refine t_fBf rfl ?_ | refine t_fBt by_s ?_ | refine t_fBf by_s ?_ | refine t_bRt by_u ?_ | refine t_bRf by_u ?_ | refine t_oA rfl ?_ | refine t_oA by_a ?_ | refine t_old by_a by_r ?_); (conv => lhs; whnf)) | ((first | refine t_fB (fun hq => ?_) (fun hq => ?_) | refine t_bR (fun hq => ?_) (fun hq => ?_) | (first | refine t_callB (isFrom_fn _ _ _ _) rfl by_g rfl (fun hq => ?_) (fun hq => ?_) | refine t_callB (In_fn _ _ _ _) rfl by_g rfl (fun hq => ?_) (fun hq => ?_))) <;> (try simp only [sbM, reduceCtorEq, frB_iff, frB_no] at hq) <;> (try (have hqt : hq = True.intro := rfl; clear hqt hq)) <;> (try (exact absurd trivial hq)) <;> (try (exfalso; omega)) <;> (conv => lhs; whnf))))
        (refine endG trivial rfl rfl by_g ?_; (conv => lhs; whnf)); have hd0 : ps.drop i = [] := List.drop_of_length_le (by omega)
        simp only [ratesE, ratesB, hd, hd0, descB, frB, hlen]; simp; omega
  all_goals ((refine endG trivial rfl rfl by_g ?_; (conv => lhs; whnf)); simp only [ratesE, ratesB, frB, hlen]; simp; omega)
end
end Go.Proofs.YtlcdifeiinpaiaaGreat
