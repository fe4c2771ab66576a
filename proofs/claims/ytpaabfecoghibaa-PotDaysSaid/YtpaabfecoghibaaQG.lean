/- Helpers of the reference: remainders, quotients, elements, sums. Conditions: as each theorem says. -/
import Derived.Test.YtpaabfecoghibaaFM
namespace Go.Proofs.Ytpaabfecoghibaa
open Go Go.RowKit
attribute [local irreducible] addC subC mulC quoI remI forceN forceB bR getC iR kI callI rcI oldC oA nextC readR
set_option maxRecDepth 1000000
set_option maxHeartbeats 8000000
set_option linter.unusedVariables false
set_option linter.unusedSimpArgs false
def modF (n c : Int) : Int := if c < 1 then 0 else n % c
theorem modF_in {n c : Int} (h : 1 ≤ c) : 0 ≤ modF n c ∧ modF n c < c := by
  unfold modF
  rw [if_neg (by omega)]
  exact ⟨Int.emod_nonneg _ (by omega), Int.emod_lt_of_pos _ (by omega)⟩
theorem tmod_two {n c : Int} (hn : n < 0) (h : 0 < c) : n.tmod c ≤ 0 ∧ -c < n.tmod c ∧ (n.tmod c = 0 → n % c = 0) ∧ (n.tmod c < 0 → n.tmod c + c = n % c) := by
  have e : n.tmod c = n % c - _ := Int.tmod_eq_emod
  have h1 := Int.emod_nonneg n (show c ≠ 0 by omega)
  have h2 := Int.emod_lt_of_pos n h
  split at e
  · rename_i h3
    rcases h3 with h3 | h3
    · omega
    · have := Int.emod_eq_zero_of_dvd h3; omega
  · rename_i h3
    have h4 : n % c ≠ 0 := fun e0 => h3 (.inr (Int.dvd_of_emod_eq_zero e0))
    omega
def elemF (l : List Int) (i : Int) : Int := if l = [] then 0 else l.getD (modF i l.length).toNat 0
theorem down_lo {a b : Int} (hb : 0 < b) : -((b - 1 - a) / b) = a / b := by
  have h1 := Int.mul_ediv_add_emod a b
  have h2 := Int.emod_nonneg a (show b ≠ 0 by omega)
  have h3 := Int.emod_lt_of_pos a hb
  have e : b - 1 - a = (b - 1 - a % b) + b * (-(a / b)) := by rw [Int.mul_neg]; omega
  rw [e, Int.add_mul_ediv_left _ _ (by omega), Int.ediv_eq_zero_of_lt (by omega) (by omega)]; omega
section
variable (f : Nat → Nat → Option Value)
theorem Mod_fn (n c : Int) (hcm : c ≤ 9223372036854775807) : FnR Try.prog f 28 [.int .i64 n, .int .i64 c] ⟨.int .i64 (modF n c), []⟩ := by
  by_cases hn : 0 ≤ n
  · refine fn_J rfl rfl ?_
    (repeat' (first | refine J.seq ?_ | refine JP.one ?_ | refine JP.step ?_ | refine J.block ?_ | refine J.scope ?_ | (refine J.region (fun z => ?_); (conv => lhs; whnf)) | (refine J.cond rfl rfl (fun hq => ?_) (fun hq => ?_) <;> (try simp only [sbM, reduceCtorEq] at hq) <;> (try (have hqt : hq = True.intro := rfl; clear hqt hq)) <;> (try (exact absurd trivial hq)) <;> (try (exfalso; omega))) | refine J.exit ?_ | refine J.ret ?_ | refine J.skip ?_ | refine J.label ?_ | (with_reducible first | refine then_normal ?_ | refine then_exit ?_ | refine then_ret ?_ | refine block_exit ?_ | refine block_normal ?_ | refine block_ret ?_ | refine block_exit_ne rfl ?_ | refine kI_go rfl ?_) | ((first | (apply t_next; focus ((conv => lhs; whnf); try exact rfl)) | refine t_forceN ?_ | refine t_addN by_o ?_ | refine t_subN by_o ?_ | refine t_mulN by_o ?_ | refine t_quo by_o by_o ?_ | refine t_rem by_o by_o ?_ | refine t_quoN by_o by_o ?_ | refine t_remN by_o ?_ | refine t_addC ?_ | refine t_subC ?_ | refine t_mulC ?_ | refine t_bRt rfl ?_ | refine t_bRf rfl ?_ | refine t_lim (k := 8) (K := 17592186044416) rfl rfl by_o ?_ | refine t_lim (k := 65536) (K := 2147483648) rfl rfl by_o ?_ | refine t_getC rfl ?_ | refine t_getC by_a ?_ | refine t_iRp rfl ?_ | refine t_iR by_o ?_ | refine t_iRn rfl ?_ | refine t_fBt rfl ?_ | refine t_fBf rfl ?_ | refine t_fBt by_s ?_ | refine t_fBf by_s ?_ | refine t_bRt by_u ?_ | refine t_bRf by_u ?_ | refine t_oA rfl ?_ | refine t_oA by_a ?_ | refine t_old by_a by_r ?_ | refine t_readR by_a ?_ | refine t_bRt (encA_one (fun _ => rfl)) ?_); (conv => lhs; whnf)) | ((first | refine t_fB (fun hq => ?_) (fun hq => ?_) | refine t_bR (fun hq => ?_) (fun hq => ?_)) <;> (try simp only [sbM, reduceCtorEq] at hq) <;> (try (have hqt : hq = True.intro := rfl; clear hqt hq)) <;> (try (exact absurd trivial hq)) <;> (try (exfalso; omega)) <;> (conv => lhs; whnf))))
    · (refine endG trivial rfl rfl by_g ?_; (conv => lhs; whnf)); rw [modF, if_pos (by omega)]
    · have := Int.emod_nonneg n (show c ≠ 0 by omega); omega
    · (refine endG trivial rfl rfl by_g ?_; (conv => lhs; whnf)); rw [modF, if_neg (by omega)]
  · by_cases hc : c < 1
    · refine fn_J rfl rfl ?_
      (repeat' (first | refine J.seq ?_ | refine JP.one ?_ | refine JP.step ?_ | refine J.block ?_ | refine J.scope ?_ | (refine J.region (fun z => ?_); (conv => lhs; whnf)) | (refine J.cond rfl rfl (fun hq => ?_) (fun hq => ?_) <;> (try simp only [sbM, reduceCtorEq] at hq) <;> (try (have hqt : hq = True.intro := rfl; clear hqt hq)) <;> (try (exact absurd trivial hq)) <;> (try (exfalso; omega))) | refine J.exit ?_ | refine J.ret ?_ | refine J.skip ?_ | refine J.label ?_ | (with_reducible first | refine then_normal ?_ | refine then_exit ?_ | refine then_ret ?_ | refine block_exit ?_ | refine block_normal ?_ | refine block_ret ?_ | refine block_exit_ne rfl ?_ | refine kI_go rfl ?_) | ((first | (apply t_next; focus ((conv => lhs; whnf); try exact rfl)) | refine t_forceN ?_ | refine t_addN by_o ?_ | refine t_subN by_o ?_ | refine t_mulN by_o ?_ | refine t_quo by_o by_o ?_ | refine t_rem by_o by_o ?_ | refine t_quoN by_o by_o ?_ | refine t_remN by_o ?_ | refine t_addC ?_ | refine t_subC ?_ | refine t_mulC ?_ | refine t_bRt rfl ?_ | refine t_bRf rfl ?_ | refine t_lim (k := 8) (K := 17592186044416) rfl rfl by_o ?_ | refine t_lim (k := 65536) (K := 2147483648) rfl rfl by_o ?_ | refine t_getC rfl ?_ | refine t_getC by_a ?_ | refine t_iRp rfl ?_ | refine t_iR by_o ?_ | refine t_iRn rfl ?_ | refine t_fBt rfl ?_ | refine t_fBf rfl ?_ | refine t_fBt by_s ?_ | refine t_fBf by_s ?_ | refine t_bRt by_u ?_ | refine t_bRf by_u ?_ | refine t_oA rfl ?_ | refine t_oA by_a ?_ | refine t_old by_a by_r ?_ | refine t_readR by_a ?_ | refine t_bRt (encA_one (fun _ => rfl)) ?_); (conv => lhs; whnf)) | ((first | refine t_fB (fun hq => ?_) (fun hq => ?_) | refine t_bR (fun hq => ?_) (fun hq => ?_)) <;> (try simp only [sbM, reduceCtorEq] at hq) <;> (try (have hqt : hq = True.intro := rfl; clear hqt hq)) <;> (try (exact absurd trivial hq)) <;> (try (exfalso; omega)) <;> (conv => lhs; whnf))))
      (refine endG trivial rfl rfl by_g ?_; (conv => lhs; whnf)); rw [modF, if_pos (by omega)]
    · have h2 := tmod_two (n := n) (c := c) (by omega) (by omega)
      refine fn_J rfl rfl ?_
      (repeat' (first | refine J.seq ?_ | refine JP.one ?_ | refine JP.step ?_ | refine J.block ?_ | refine J.scope ?_ | (refine J.region (fun z => ?_); (conv => lhs; whnf)) | (refine J.cond rfl rfl (fun hq => ?_) (fun hq => ?_) <;> (try simp only [sbM, reduceCtorEq] at hq) <;> (try (have hqt : hq = True.intro := rfl; clear hqt hq)) <;> (try (exact absurd trivial hq)) <;> (try (exfalso; omega))) | refine J.exit ?_ | refine J.ret ?_ | refine J.skip ?_ | refine J.label ?_ | (with_reducible first | refine then_normal ?_ | refine then_exit ?_ | refine then_ret ?_ | refine block_exit ?_ | refine block_normal ?_ | refine block_ret ?_ | refine block_exit_ne rfl ?_ | refine kI_go rfl ?_) | ((first | (apply t_next; focus ((conv => lhs; whnf); try exact rfl)) | refine t_forceN ?_ | refine t_addN by_o ?_ | refine t_subN by_o ?_ | refine t_mulN by_o ?_ | refine t_quo by_o by_o ?_ | refine t_rem by_o by_o ?_ | refine t_quoN by_o by_o ?_ | refine t_remN by_o ?_ | refine t_addC ?_ | refine t_subC ?_ | refine t_mulC ?_ | refine t_bRt rfl ?_ | refine t_bRf rfl ?_ | refine t_lim (k := 8) (K := 17592186044416) rfl rfl by_o ?_ | refine t_lim (k := 65536) (K := 2147483648) rfl rfl by_o ?_ | refine t_getC rfl ?_ | refine t_getC by_a ?_ | refine t_iRp rfl ?_ | refine t_iR by_o ?_ | refine t_iRn rfl ?_ | refine t_fBt rfl ?_ | refine t_fBf rfl ?_ | refine t_fBt by_s ?_ | refine t_fBf by_s ?_ | refine t_bRt by_u ?_ | refine t_bRf by_u ?_ | refine t_oA rfl ?_ | refine t_oA by_a ?_ | refine t_old by_a by_r ?_ | refine t_readR by_a ?_ | refine t_bRt (encA_one (fun _ => rfl)) ?_); (conv => lhs; whnf)) | ((first | refine t_fB (fun hq => ?_) (fun hq => ?_) | refine t_bR (fun hq => ?_) (fun hq => ?_)) <;> (try simp only [sbM, reduceCtorEq] at hq) <;> (try (have hqt : hq = True.intro := rfl; clear hqt hq)) <;> (try (exact absurd trivial hq)) <;> (try (exfalso; omega)) <;> (conv => lhs; whnf))))
      · (refine endG trivial rfl rfl by_g ?_; (conv => lhs; whnf)); rw [modF, if_neg (by omega)]; exact congrArg (Value.int .i64) (h2.2.2.2 (by omega))
      · (refine endG trivial rfl rfl by_g ?_; (conv => lhs; whnf)); rw [modF, if_neg (by omega)]; exact congrArg (Value.int .i64) (by rw [h2.2.2.1 (by omega)]; omega)
theorem Get_fn {a : Option Addr} {n c : Nat} {l : List Int} (i : Int) (hL : Ints f a n c l) : FnR Try.prog f 29 [.slice a n c, .int .i64 i] ⟨.int .i64 (elemF l i), []⟩ := by
  obtain ⟨hg, hlen, hnc, hle, hat⟩ := hL
  by_cases h0 : n = 0
  · refine fn_J by_g rfl ?_
    (repeat' (first | refine J.seq ?_ | refine JP.one ?_ | refine JP.step ?_ | refine J.block ?_ | refine J.scope ?_ | (refine J.region (fun z => ?_); (conv => lhs; whnf)) | (refine J.cond rfl rfl (fun hq => ?_) (fun hq => ?_) <;> (try simp only [sbM, reduceCtorEq] at hq) <;> (try (have hqt : hq = True.intro := rfl; clear hqt hq)) <;> (try (exact absurd trivial hq)) <;> (try (exfalso; omega))) | refine J.exit ?_ | refine J.ret ?_ | refine J.skip ?_ | refine J.label ?_ | (with_reducible first | refine then_normal ?_ | refine then_exit ?_ | refine then_ret ?_ | refine block_exit ?_ | refine block_normal ?_ | refine block_ret ?_ | refine block_exit_ne rfl ?_ | refine kI_go rfl ?_) | ((first | (apply t_next; focus ((conv => lhs; whnf); try exact rfl)) | refine t_forceN ?_ | refine t_addN by_o ?_ | refine t_subN by_o ?_ | refine t_mulN by_o ?_ | refine t_quo by_o by_o ?_ | refine t_rem by_o by_o ?_ | refine t_quoN by_o by_o ?_ | refine t_remN by_o ?_ | refine t_addC ?_ | refine t_subC ?_ | refine t_mulC ?_ | refine t_bRt rfl ?_ | refine t_bRf rfl ?_ | refine t_lim (k := 8) (K := 17592186044416) rfl rfl by_o ?_ | refine t_lim (k := 65536) (K := 2147483648) rfl rfl by_o ?_ | refine t_getC rfl ?_ | refine t_getC by_a ?_ | refine t_iRp rfl ?_ | refine t_iR by_o ?_ | refine t_iRn rfl ?_ | refine t_fBt rfl ?_ | refine t_fBf rfl ?_ | refine t_fBt by_s ?_ | refine t_fBf by_s ?_ | refine t_bRt by_u ?_ | refine t_bRf by_u ?_ | refine t_oA rfl ?_ | refine t_oA by_a ?_ | refine t_old by_a by_r ?_ | refine t_readR by_a ?_ | refine t_bRt (encA_one (fun _ => rfl)) ?_ | refine t_call0 (Mod_fn _ _ (n : Int) (by omega)) rfl by_g rfl by_k ?_); (conv => lhs; whnf)) | ((first | refine t_fB (fun hq => ?_) (fun hq => ?_) | refine t_bR (fun hq => ?_) (fun hq => ?_)) <;> (try simp only [sbM, reduceCtorEq] at hq) <;> (try (have hqt : hq = True.intro := rfl; clear hqt hq)) <;> (try (exact absurd trivial hq)) <;> (try (exfalso; omega)) <;> (conv => lhs; whnf))))
    (refine endG trivial rfl rfl by_g ?_; (conv => lhs; whnf)); rw [elemF, if_pos (List.length_eq_zero_iff.1 (by omega))]
  · have hm := modF_in (n := i) (c := n) (by omega)
    obtain ⟨x, hx⟩ : ∃ x, l[(modF i n).toNat]? = some x := ⟨_, List.getElem?_eq_getElem (by omega)⟩
    obtain ⟨b, o, ha, hc⟩ := hat _ _ hx
    have hc0 := hc 0 _ rfl
    refine fn_J by_g rfl ?_
    (repeat' (first | refine J.seq ?_ | refine JP.one ?_ | refine JP.step ?_ | refine J.block ?_ | refine J.scope ?_ | (refine J.region (fun z => ?_); (conv => lhs; whnf)) | (refine J.cond rfl rfl (fun hq => ?_) (fun hq => ?_) <;> (try simp only [sbM, reduceCtorEq] at hq) <;> (try (have hqt : hq = True.intro := rfl; clear hqt hq)) <;> (try (exact absurd trivial hq)) <;> (try (exfalso; omega))) | refine J.exit ?_ | refine J.ret ?_ | refine J.skip ?_ | refine J.label ?_ | (with_reducible first | refine then_normal ?_ | refine then_exit ?_ | refine then_ret ?_ | refine block_exit ?_ | refine block_normal ?_ | refine block_ret ?_ | refine block_exit_ne rfl ?_ | refine kI_go rfl ?_) | ((first | (apply t_next; focus ((conv => lhs; whnf); try exact rfl)) | refine t_forceN ?_ | refine t_addN by_o ?_ | refine t_subN by_o ?_ | refine t_mulN by_o ?_ | refine t_quo by_o by_o ?_ | refine t_rem by_o by_o ?_ | refine t_quoN by_o by_o ?_ | refine t_remN by_o ?_ | refine t_addC ?_ | refine t_subC ?_ | refine t_mulC ?_ | refine t_bRt rfl ?_ | refine t_bRf rfl ?_ | refine t_lim (k := 8) (K := 17592186044416) rfl rfl by_o ?_ | refine t_lim (k := 65536) (K := 2147483648) rfl rfl by_o ?_ | refine t_getC rfl ?_ | refine t_getC by_a ?_ | refine t_iRp rfl ?_ | refine t_iR by_o ?_ | refine t_iRn rfl ?_ | refine t_fBt rfl ?_ | refine t_fBf rfl ?_ | refine t_fBt by_s ?_ | refine t_fBf by_s ?_ | refine t_bRt by_u ?_ | refine t_bRf by_u ?_ | refine t_oA rfl ?_ | refine t_oA by_a ?_ | refine t_old by_a by_r ?_ | refine t_readR by_a ?_ | refine t_bRt (encA_one (fun _ => rfl)) ?_ | refine t_call0 (Mod_fn _ _ (n : Int) (by omega)) rfl by_g rfl by_k ?_); (conv => lhs; whnf)) | ((first | refine t_fB (fun hq => ?_) (fun hq => ?_) | refine t_bR (fun hq => ?_) (fun hq => ?_)) <;> (try simp only [sbM, reduceCtorEq] at hq) <;> (try (have hqt : hq = True.intro := rfl; clear hqt hq)) <;> (try (exact absurd trivial hq)) <;> (try (exfalso; omega)) <;> (conv => lhs; whnf))))
    (refine endG trivial rfl rfl by_g ?_; (conv => lhs; whnf)); rw [elemF, if_neg (fun e => h0 (by rw [← hlen, e]; rfl)), List.getD_eq_getElem?_getD, hlen, hx]; rfl
end
end Go.Proofs.Ytpaabfecoghibaa
