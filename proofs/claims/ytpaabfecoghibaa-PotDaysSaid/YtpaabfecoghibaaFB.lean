/- Plans are checked. Conditions: as each theorem says. -/
import Derived.Test.YtpaabfecoghibaaFA
namespace Go.Proofs.Ytpaabfecoghibaa
open Go Go.RowKit
attribute [local irreducible] addC subC mulC quoI remI forceN forceB bR getC iR kI callI rcI oldC oA nextC readR
set_option maxRecDepth 1000000
set_option maxHeartbeats 8000000
set_option linter.unusedVariables false
set_option linter.unusedSimpArgs false
section
variable (f : Nat → Nat → Option Value)
theorem checkPlan_fn {a a2 a3 : Option Addr} {n c n2 c2 n3 c3 : Nat} {rs : List Rd} (base hands : Int) (hg : grA a n c = true) (hg2 : grA a2 n2 c2 = true) (hR : Rds f a3 n3 c3 rs) (hn : n ≤ 9223372036854775807) (hn2 : n2 ≤ 9223372036854775807) :
    FnR Try.prog f 32 [.agg ⟨encRun a n c a2 n2 c2 base hands⟩, .slice a3 n3 c3] ⟨.int .i64 (planE rs n n2 hands), []⟩ := by
  obtain ⟨⟨hg3, hlen, hnc, hle, hat⟩, hin'⟩ := hR
  refine fn_J by_g rfl ?_
  (repeat' (first | refine J.seq ?_ | refine JP.one ?_ | refine JP.step ?_ | refine J.block ?_ | refine J.scope ?_ | (refine J.region (fun z => ?_); (conv => lhs; whnf)) | (refine J.cond rfl rfl (fun hq => ?_) (fun hq => ?_) <;> (try simp only [sbM, reduceCtorEq, frS_iff, frS_no] at hq) <;> (try (have hqt : hq = True.intro := rfl; clear hqt hq)) <;> (try (exact absurd trivial hq)) <;> (try (exfalso; omega))) | refine J.exit ?_ | refine J.ret ?_ | refine J.skip ?_ | refine J.label ?_ | (with_reducible first | refine then_normal ?_ | refine then_exit ?_ | refine then_ret ?_ | refine block_exit ?_ | refine block_normal ?_ | refine block_ret ?_ | refine block_exit_ne rfl ?_ | refine kI_go rfl ?_) | ((first | (apply t_next; focus ((conv => lhs; whnf); try exact rfl)) | refine t_forceN ?_ | refine t_addN by_o ?_ | refine t_subN by_o ?_ | refine t_mulN by_o ?_ | refine t_quo by_o by_o ?_ | refine t_rem by_o by_o ?_ | refine t_quoN by_o by_o ?_ | refine t_remN by_o ?_ | refine t_addC ?_ | refine t_subC ?_ | refine t_mulC ?_ | refine t_bRt rfl ?_ | refine t_bRf rfl ?_ | refine t_lim (k := 8) (K := 17592186044416) rfl rfl by_o ?_ | refine t_lim (k := 65536) (K := 2147483648) rfl rfl by_o ?_ | refine t_getC rfl ?_ | refine t_getC by_a ?_ | refine t_iRp rfl ?_ | refine t_iR by_o ?_ | refine t_iRn rfl ?_ | refine t_fBt rfl ?_ | refine t_fBf rfl ?_ | refine t_fBt by_s ?_ | refine t_fBf by_s ?_ | refine t_bRt by_u ?_ | refine t_bRf by_u ?_ | refine t_oA rfl ?_ | refine t_oA by_a ?_ | refine t_old by_a by_r ?_ | refine t_readR by_a ?_ | refine t_bRt (encA_one (fun _ => rfl)) ?_); (conv => lhs; whnf)) | ((first | refine t_fB (fun hq => ?_) (fun hq => ?_) | refine t_bR (fun hq => ?_) (fun hq => ?_) | (first | refine t_callB (isIncreasing_fn _ ((n : Int) - 1) hI (by omega)) rfl by_g rfl (fun hq => ?_) (fun hq => ?_))) <;> (try simp only [sbM, reduceCtorEq, frS_iff, frS_no] at hq) <;> (try (have hqt : hq = True.intro := rfl; clear hqt hq)) <;> (try (exact absurd trivial hq)) <;> (try (exfalso; omega)) <;> (conv => lhs; whnf))))
  all_goals first
    | (rw [planE_bad (fun h => by have := h.1; omega)]
       (refine endG trivial rfl rfl by_g ?_; (conv => lhs; whnf))
       done)
    | skip
  refine J.loop (LJ.ind (fun i : Nat => [none, none, some (.pointer (some ⟨0, 0, some 0⟩)), none, none, none, none, none, none, none, none, none, none, some (.slice a3 n3 c3), some (.int .i64 (n3 : Int)), some (.int .i64 (i : Int)), none, none, none, none, none, none, none, none, none, none, none, none, none, none, none, none, none, none]) (fun _ => [(25, encRun a n c a2 n2 c2 base hands)]) (fun i => i ≤ n3 ∧ ∀ (j : Nat) (r : Rd), j < i → rs[j]? = some r → (r.n : Int) ≤ hands ∧ IncP r.l ((n : Int) - 1)) (fun i => n3 - i) 0 [0] ⟨Nat.zero_le _, fun j r h => absurd h (Nat.not_lt_zero _)⟩ rfl ?_ ?_ ?_)
  · exact ⟨_, _, _, rfl, rfl, SimL.of_eq rfl by_g, nin rfl, trivial⟩
  · exact by_s0
  · rintro i ⟨hi, hd⟩ vs ⟨xs, gx, rfl⟩ IH
    by_cases hin : i < n3
    · obtain ⟨r, hx⟩ : ∃ r, rs[i]? = some r := ⟨_, List.getElem?_eq_getElem (by omega)⟩
      have hI := hin' r (List.mem_of_getElem? hx)
      have hgI := hI.g
      have hgv := gr_ints hI
      obtain ⟨b, o, ha, hc⟩ := hat i _ hx
      have hc0 := hc 0 _ rfl
      have hle' := hI.le
      subst ha
      (repeat' (first | refine J.seq ?_ | refine JP.one ?_ | refine JP.step ?_ | refine J.block ?_ | refine J.scope ?_ | (refine J.region (fun z => ?_); (conv => lhs; whnf)) | (refine J.cond rfl rfl (fun hq => ?_) (fun hq => ?_) <;> (try simp only [sbM, reduceCtorEq, frS_iff, frS_no] at hq) <;> (try (have hqt : hq = True.intro := rfl; clear hqt hq)) <;> (try (exact absurd trivial hq)) <;> (try (exfalso; omega))) | refine J.exit ?_ | refine J.ret ?_ | refine J.skip ?_ | refine J.label ?_ | (with_reducible first | refine then_normal ?_ | refine then_exit ?_ | refine then_ret ?_ | refine block_exit ?_ | refine block_normal ?_ | refine block_ret ?_ | refine block_exit_ne rfl ?_ | refine kI_go rfl ?_) | ((first | (apply t_next; focus ((conv => lhs; whnf); try exact rfl)) | refine t_forceN ?_ | refine t_addN by_o ?_ | refine t_subN by_o ?_ | refine t_mulN by_o ?_ | refine t_quo by_o by_o ?_ | refine t_rem by_o by_o ?_ | refine t_quoN by_o by_o ?_ | refine t_remN by_o ?_ | refine t_addC ?_ | refine t_subC ?_ | refine t_mulC ?_ | refine t_bRt rfl ?_ | refine t_bRf rfl ?_ | refine t_lim (k := 8) (K := 17592186044416) rfl rfl by_o ?_ | refine t_lim (k := 65536) (K := 2147483648) rfl rfl by_o ?_ | refine t_getC rfl ?_ | refine t_getC by_a ?_ | refine t_iRp rfl ?_ | refine t_iR by_o ?_ | refine t_iRn rfl ?_ | refine t_fBt rfl ?_ | refine t_fBf rfl ?_ | refine t_fBt by_s ?_ | refine t_fBf by_s ?_ | refine t_bRt by_u ?_ | refine t_bRf by_u ?_ | refine t_oA rfl ?_ | refine t_oA by_a ?_ | refine t_old by_a by_r ?_ | refine t_readR by_a ?_ | refine t_bRt (encA_one (fun _ => rfl)) ?_); (conv => lhs; whnf)) | ((first | refine t_fB (fun hq => ?_) (fun hq => ?_) | refine t_bR (fun hq => ?_) (fun hq => ?_) | (first | refine t_callB (isIncreasing_fn _ ((n : Int) - 1) hI (by omega)) rfl by_g rfl (fun hq => ?_) (fun hq => ?_))) <;> (try simp only [sbM, reduceCtorEq, frS_iff, frS_no] at hq) <;> (try (have hqt : hq = True.intro := rfl; clear hqt hq)) <;> (try (exact absurd trivial hq)) <;> (try (exfalso; omega)) <;> (conv => lhs; whnf))))
      all_goals first
        | (rw [planE_bad (fun h => by have := (h.2 i r hx).1; omega)]
           (refine endG trivial rfl rfl by_g ?_; (conv => lhs; whnf))
           done)
        | (rw [planE_bad (fun h => incS_no.1 (by assumption) (h.2 i r hx).2)]
           (refine endG trivial rfl rfl by_g ?_; (conv => lhs; whnf))
           done)
        | (refine LJ.ren _ [(25, encRun a n c a2 n2 c2 base hands)] [0] rfl ⟨_, _, _, rfl, rfl, SimL.of_eq rfl by_g, nin rfl, trivial⟩ ?_ (IH (i + 1) ⟨hin, fun j z hj hz => ?_⟩ (by omega))
           · exact by_sb
           · by_cases e : j = i
             · subst e; rw [hx] at hz; cases hz; exact ⟨by omega, incS_iff.1 (by assumption)⟩
             · exact hd j z (by omega) hz)
    · rw [planE_ok ⟨by omega, fun j r hr => hd j r (by have := (List.getElem?_eq_some_iff.1 hr).1; omega) hr⟩]
      (repeat' (first | refine J.seq ?_ | refine JP.one ?_ | refine JP.step ?_ | refine J.block ?_ | refine J.scope ?_ | (refine J.region (fun z => ?_); (conv => lhs; whnf)) | (refine J.cond rfl rfl (fun hq => ?_) (fun hq => ?_) <;> (try simp only [sbM, reduceCtorEq, frS_iff, frS_no] at hq) <;> (try (have hqt : hq = True.intro := rfl; clear hqt hq)) <;> (try (exact absurd trivial hq)) <;> (try (exfalso; omega))) | refine J.exit ?_ | refine J.ret ?_ | refine J.skip ?_ | refine J.label ?_ | (with_reducible first | refine then_normal ?_ | refine then_exit ?_ | refine then_ret ?_ | refine block_exit ?_ | refine block_normal ?_ | refine block_ret ?_ | refine block_exit_ne rfl ?_ | refine kI_go rfl ?_) | ((first | (apply t_next; focus ((conv => lhs; whnf); try exact rfl)) | refine t_forceN ?_ | refine t_addN by_o ?_ | refine t_subN by_o ?_ | refine t_mulN by_o ?_ | refine t_quo by_o by_o ?_ | refine t_rem by_o by_o ?_ | refine t_quoN by_o by_o ?_ | refine t_remN by_o ?_ | refine t_addC ?_ | refine t_subC ?_ | refine t_mulC ?_ | refine t_bRt rfl ?_ | refine t_bRf rfl ?_ | refine t_lim (k := 8) (K := 17592186044416) rfl rfl by_o ?_ | refine t_lim (k := 65536) (K := 2147483648) rfl rfl by_o ?_ | refine t_getC rfl ?_ | refine t_getC by_a ?_ | refine t_iRp rfl ?_ | refine t_iR by_o ?_ | refine t_iRn rfl ?_ | refine t_fBt rfl ?_ | refine t_fBf rfl ?_ | refine t_fBt by_s ?_ | refine t_fBf by_s ?_ | refine t_bRt by_u ?_ | refine t_bRf by_u ?_ | refine t_oA rfl ?_ | refine t_oA by_a ?_ | refine t_old by_a by_r ?_ | refine t_readR by_a ?_ | refine t_bRt (encA_one (fun _ => rfl)) ?_); (conv => lhs; whnf)) | ((first | refine t_fB (fun hq => ?_) (fun hq => ?_) | refine t_bR (fun hq => ?_) (fun hq => ?_) | (first | refine t_callB (isIncreasing_fn _ ((n : Int) - 1) hI (by omega)) rfl by_g rfl (fun hq => ?_) (fun hq => ?_))) <;> (try simp only [sbM, reduceCtorEq, frS_iff, frS_no] at hq) <;> (try (have hqt : hq = True.intro := rfl; clear hqt hq)) <;> (try (exact absurd trivial hq)) <;> (try (exfalso; omega)) <;> (conv => lhs; whnf))))
      (refine endG trivial rfl rfl by_g ?_; (conv => lhs; whnf))
end
end Go.Proofs.Ytpaabfecoghibaa
