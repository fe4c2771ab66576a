/- The law's truths: what numbers choose. Conditions: as each theorem says. -/
import Derived.Test.YtpaabfecoghibaaQG
import Derived.Test.YtpaabfecoghibaaZP
namespace Go.Proofs.Ytpaabfecoghibaa
open Go Go.RowKit
attribute [local irreducible] addC subC mulC quoI remI forceN forceB bR getC iR kI callI rcI oldC oA nextC readR
set_option maxRecDepth 1000000
set_option maxHeartbeats 8000000
set_option linter.unusedVariables false
set_option linter.unusedSimpArgs false
def pickF (bits : List Int) (lo hi : Int) (i : Int) : Int := if bits = [] then hi else lo + modF (elemF bits i) (hi - lo + 1)
theorem pickF_in {bits : List Int} {lo hi i : Int} (h : lo ≤ hi) : lo ≤ pickF bits lo hi i ∧ pickF bits lo hi i ≤ hi := by
  have := modF_in (n := elemF bits i) (c := hi - lo + 1) (by omega)
  unfold pickF
  split <;> omega
section
variable (f : Nat → Nat → Option Value)
theorem pick_fn {ab : Option Addr} {nb cb b : Nat} {bits : List Int} (lo hi i : Int) (hc0 : f b 0 = some (.slice ab nb cb)) (hB : Ints f ab nb cb bits) (h0 : 0 ≤ lo) (h1 : lo ≤ hi) (h2 : hi ≤ 10000000) :
    FnR Try.prog f 27 [.agg ⟨[.int .i64 lo, .int .i64 hi]⟩, .int .i64 i, .pointer (some ⟨b, 0, none⟩)] ⟨.int .i64 (pickF bits lo hi i), []⟩ := by
  have hg := hB.g
  have hgv := gr_ints hB
  have hlen := hB.len
  have hm := modF_in (n := elemF bits i) (c := hi - lo + 1) (by omega)
  refine fn_J by_g rfl ?_
  (repeat' (first | refine J.seq ?_ | refine JP.one ?_ | refine JP.step ?_ | refine J.block ?_ | refine J.scope ?_ | (refine J.region (fun z => ?_); (conv => lhs; whnf)) | (refine J.cond rfl rfl (fun hq => ?_) (fun hq => ?_) <;> (try simp only [sbM, reduceCtorEq, frS_iff, frS_no] at hq) <;> (try (have hqt : hq = True.intro := rfl; clear hqt hq)) <;> (try (exact absurd trivial hq)) <;> (try (exfalso; omega))) | refine J.exit ?_ | refine J.ret ?_ | refine J.skip ?_ | refine J.label ?_ | (with_reducible first | refine then_normal ?_ | refine then_exit ?_ | refine then_ret ?_ | refine block_exit ?_ | refine block_normal ?_ | refine block_ret ?_ | refine block_exit_ne rfl ?_ | refine kI_go rfl ?_) | ((first | (apply t_next; focus ((conv => lhs; whnf); try exact rfl)) | refine t_forceN ?_ | refine t_addN by_o ?_ | refine t_subN by_o ?_ | refine t_mulN by_o ?_ | refine t_quo by_o by_o ?_ | refine t_rem by_o by_o ?_ | refine t_quoN by_o by_o ?_ | refine t_remN by_o ?_ | refine t_addC ?_ | refine t_subC ?_ | refine t_mulC ?_ | refine t_bRt rfl ?_ | refine t_bRf rfl ?_ | refine t_lim (k := 8) (K := 17592186044416) rfl rfl by_o ?_ | refine t_lim (k := 65536) (K := 2147483648) rfl rfl by_o ?_ | refine t_getC rfl ?_ | refine t_getC by_a ?_ | refine t_iRp rfl ?_ | refine t_iR by_o ?_ | refine t_iRn rfl ?_ | refine t_fBt rfl ?_ | refine t_fBf rfl ?_ | refine t_fBt by_s ?_ | refine t_fBf by_s ?_ | refine t_bRt by_u ?_ | refine t_bRf by_u ?_ | refine t_oA rfl ?_ | refine t_oA by_a ?_ | refine t_old by_a by_r ?_ | refine t_readR by_a ?_ | refine t_bRt (encA_one (fun _ => rfl)) ?_ | refine t_call0 (Mod_fn _ (elemF bits i) (hi - lo + 1) (by omega)) rfl by_g rfl by_k ?_ | refine t_call0 (Get_fn _ i hB) rfl by_g rfl by_k ?_); (conv => lhs; whnf)) | ((first | refine t_fB (fun hq => ?_) (fun hq => ?_) | refine t_bR (fun hq => ?_) (fun hq => ?_)) <;> (try simp only [sbM, reduceCtorEq, frS_iff, frS_no] at hq) <;> (try (have hqt : hq = True.intro := rfl; clear hqt hq)) <;> (try (exact absurd trivial hq)) <;> (try (exfalso; omega)) <;> (conv => lhs; whnf))))
  all_goals first
    | ((refine endG trivial rfl rfl by_g ?_; (conv => lhs; whnf)); rw [pickF, if_pos (List.length_eq_zero_iff.1 (by omega))]; done)
    | ((refine endG trivial rfl rfl by_g ?_; (conv => lhs; whnf)); rw [pickF, if_neg (fun e => by rw [e] at hlen; simp at hlen; omega)]; done)
end
end Go.Proofs.Ytpaabfecoghibaa
