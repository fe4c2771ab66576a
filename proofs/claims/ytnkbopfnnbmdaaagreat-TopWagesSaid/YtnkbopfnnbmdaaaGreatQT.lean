/- Package purse: what an income pays. Conditions: as each theorem says. -/
import Derived.Test.YtnkbopfnnbmdaaaGreatQS
namespace Go.Proofs.YtnkbopfnnbmdaaaGreat
open Go Go.RowKit
attribute [local irreducible] addC subC mulC quoI remI forceN forceB bR getC iR kI callI rcI oldC oA nextC
set_option maxRecDepth 1000000
set_option maxHeartbeats 8000000
set_option linter.unusedVariables false
set_option linter.unusedSimpArgs false
theorem orP_z {a b : Int} : orE [a, b] = 0 ↔ a = 0 ∧ b = 0 := by simp only [orE]; split <;> simp_all
theorem accE_z {keep : Int} {ds : List Int} : accE keep ds = 0 ↔ accB keep ds = true := by unfold accE; split <;> simp_all
theorem rangeE_z {n a b : Int} : rangeE n a b = 0 ↔ frB n a b = true := by unfold rangeE; split <;> simp_all
theorem rowp1 {α : Type} (t : TypeId) (enc : α → List Value) (hg : ∀ x, (enc x).all (gr 6) = true) (l : List α) : ([(t, encA enc l)] : List (TypeId × List Value)).all (fun r => r.2.all (gr 6)) = true := by show ((encA enc l).all (gr 6) && true) = true; rw [encA_gr hg]; rfl
def payE (keep : Int) (ds : List Int) (income : Int) : Int := orE [accE keep ds, rangeE income 0 1000000000]
theorem payF_in : ∀ (left : Int) (ds : List Int), 0 ≤ left → (∀ d ∈ ds, 0 ≤ d) → ∀ y ∈ payF left ds, 0 ≤ y ∧ y ≤ left
  | _, [], _, _, y, hy => by simp [payF] at hy
  | left, e :: ds, h, hd, y, hy => by
    have he := hd e (List.mem_cons_self ..)
    rw [payF] at hy
    rcases List.mem_cons.1 hy with rfl | hy
    · split <;> omega
    · have ih := payF_in (left - (if left < e then left else e)) ds (by split <;> omega) (fun d h => hd d (List.mem_cons_of_mem _ h)) y hy
      split at ih <;> omega
theorem payF_sum : ∀ (left : Int) (ds : List Int), (payF left ds).sum = left - leftF left ds
  | left, [] => by simp [payF, leftF]
  | left, e :: ds => by rw [payF, List.sum_cons, payF_sum, leftF]; omega
theorem sum_le {B : Int} : ∀ l : List Int, (∀ y ∈ l, 0 ≤ y ∧ y ≤ B) → 0 ≤ l.sum ∧ l.sum ≤ l.length * B
  | [], _ => by simp
  | y :: l, h => by
    have h1 := h y (List.mem_cons_self ..)
    have h2 := sum_le l fun z hz => h z (List.mem_cons_of_mem _ hz)
    rw [List.sum_cons, List.length_cons, Int.natCast_add, Int.add_mul]
    omega
theorem accB_iff {keep : Int} {ds : List Int} : accB keep ds = true ↔ (0 ≤ keep ∧ keep ≤ 1000) ∧ ds.length ≤ 5 ∧ ∀ d ∈ ds, 0 ≤ d ∧ d ≤ 1000000000 := by
  simp [accB, frB_iff, and_assoc, List.all_eq_true]
theorem spareF_in {keep income : Int} (hk0 : 0 ≤ keep) (hk1 : keep ≤ 1000) (hi0 : 0 ≤ income) : 0 ≤ spareF keep income ∧ spareF keep income ≤ income := by
  have hm := Int.mul_nonneg hi0 (show 0 ≤ 1000 - keep by omega)
  have hm2 : income * (1000 - keep) ≤ income * 1000 := Int.mul_le_mul_of_nonneg_left (by omega) hi0
  unfold spareF; omega
section
variable (f : Nat → Nat → Option Value)
theorem Pay_err {a : Option Addr} {n c : Nat} {ds : List Int} (keep income : Int) (hD : Ints f a n c ds) (hne : payE keep ds income ≠ 0) : FnR Tryz.prog f 10 [.agg ⟨[.int .i64 keep, .slice a n c]⟩, .int .i64 income] ⟨.tuple ⟨[.slice none 0 0, .int .i64 0, .int .i64 (payE keep ds income)]⟩, []⟩ := by
  have hg := hD.g
  have hne' := hne
  rw [payE, ne_eq, orP_z, accE_z, rangeE_z, frB_iff] at hne
  refine fn_J by_g rfl ?_
  (repeat' (first | refine J.seq ?_ | refine JP.one ?_ | refine JP.step ?_ | refine J.block ?_ | refine J.scope ?_ | (refine J.region (fun z => ?_); (conv => lhs; whnf)) | (refine J.cond rfl rfl (fun hq => ?_) (fun hq => ?_) <;> (try simp only [sbM, reduceCtorEq, frB_iff, frB_no, orP_z, accE_z, rangeE_z] at hq) <;> (try (have hqt : hq = True.intro := rfl; clear hqt hq)) <;> (try (exact absurd trivial hq)) <;> (try (exfalso; omega))) | refine J.exit ?_ | refine J.ret ?_ | refine J.skip ?_ | refine J.label ?_ | (with_reducible first | refine then_normal ?_ | refine then_exit ?_ | refine then_ret ?_ | refine block_exit ?_ | refine block_normal ?_ | refine block_ret ?_ | refine block_exit_ne rfl ?_ | refine kI_go rfl ?_) | ((first | (apply t_next; focus ((conv => lhs; whnf); try exact rfl)) | refine t_forceN ?_ | refine t_addN by_o ?_ | refine t_subN by_o ?_ | refine t_mulN by_o ?_ | refine t_quo by_o by_o ?_ | refine t_rem by_o by_o ?_ | refine t_quoN by_o by_o ?_ | refine t_remN by_o ?_ | refine t_addC ?_ | refine t_subC ?_ | refine t_mulC ?_ | refine t_bRt rfl ?_ | refine t_bRf rfl ?_ | refine t_getC rfl ?_ | refine t_getC by_a ?_ | refine t_iRp rfl ?_ | refine t_iR by_o ?_ | refine t_iRn rfl ?_ | refine t_fBt rfl ?_ | refine t_fBf rfl ?_ | refine t_fBt by_s ?_ | refine t_fBf by_s ?_ | refine t_bRt by_u ?_ | refine t_bRf by_u ?_ | refine t_oA rfl ?_ | refine t_oA by_a ?_ | refine t_old by_a by_r ?_ | refine t_call0 (checkAccount_fn _ keep hD) rfl by_g rfl by_k ?_ | refine t_call0 (checkRange_fn _ _ _ _) rfl by_g rfl by_k ?_ | refine t_or2 (fun f' a n c es H => Or_fn f' H) rfl rfl rfl rfl ?_ | refine t_callG (orcS z) (hpay) rfl by_g rfl (by first | rfl | (exact rowp1 _ _ (fun _ => rfl) _) | exact by_g) rfl ?_ | refine t_call0 (hsum0) rfl by_g rfl by_k ?_ | refine t_callP (orcS z) (g0 :: gt) [] [] rfl hsum rfl rfl rfl (.inr rfl) rfl (encA_eq _) (fun _ => rfl) (fun _ => rfl) hgl (by omega) rfl rfl rfl ?_); (conv => lhs; whnf)) | ((first | refine t_fB (fun hq => ?_) (fun hq => ?_) | refine t_bR (fun hq => ?_) (fun hq => ?_)) <;> (try simp only [sbM, reduceCtorEq, frB_iff, frB_no, orP_z, accE_z, rangeE_z] at hq) <;> (try (have hqt : hq = True.intro := rfl; clear hqt hq)) <;> (try (exact absurd trivial hq)) <;> (try (exfalso; omega)) <;> (conv => lhs; whnf))))
  · (refine endG trivial rfl rfl by_g ?_; refine tup3 ?_ ?_ ?_ <;> (conv => lhs; whnf))
    rfl
  all_goals (exact absurd hq hne)
theorem Pay_nil {a : Option Addr} {n c : Nat} (keep income : Int) (hD : Ints f a n c []) (hez : payE keep [] income = 0) : FnR Tryz.prog f 10 [.agg ⟨[.int .i64 keep, .slice a n c]⟩, .int .i64 income] ⟨.tuple ⟨[.slice none 0 0, .int .i64 income, .int .i64 0]⟩, []⟩ := by
  have hg := hD.g
  rw [payE, orP_z, accE_z, rangeE_z, frB_iff] at hez
  have hez' := hez
  obtain ⟨hacc, hi0, hi1⟩ := hez
  obtain ⟨⟨hk0, hk1⟩, _, _⟩ := accB_iff.1 hacc
  have hn0 : n = 0 := hD.len.symm
  subst hn0
  have hpay := pay_fn f keep income hD hk0 hk1 hi0 (by omega) (fun d h => by cases h) (by omega)
  have hpay : FnR Tryz.prog f 25 [.agg ⟨[.int .i64 keep, .slice a 0 c]⟩, .int .i64 income] ⟨.slice none 0 0, []⟩ := hpay
  have hsum0 : FnR Tryz.prog f 26 [.slice none 0 0] ⟨.int .i64 0, []⟩ := sum_fn f Sl.nil (fun i hi => by cases i with | zero => exact ⟨by decide, by decide⟩ | succ i => cases hi)
  refine fn_J by_g rfl ?_
  (repeat' (first | refine J.seq ?_ | refine JP.one ?_ | refine JP.step ?_ | refine J.block ?_ | refine J.scope ?_ | (refine J.region (fun z => ?_); (conv => lhs; whnf)) | (refine J.cond rfl rfl (fun hq => ?_) (fun hq => ?_) <;> (try simp only [sbM, reduceCtorEq, frB_iff, frB_no, orP_z, accE_z, rangeE_z] at hq) <;> (try (have hqt : hq = True.intro := rfl; clear hqt hq)) <;> (try (exact absurd trivial hq)) <;> (try (exfalso; omega))) | refine J.exit ?_ | refine J.ret ?_ | refine J.skip ?_ | refine J.label ?_ | (with_reducible first | refine then_normal ?_ | refine then_exit ?_ | refine then_ret ?_ | refine block_exit ?_ | refine block_normal ?_ | refine block_ret ?_ | refine block_exit_ne rfl ?_ | refine kI_go rfl ?_) | ((first | (apply t_next; focus ((conv => lhs; whnf); try exact rfl)) | refine t_forceN ?_ | refine t_addN by_o ?_ | refine t_subN by_o ?_ | refine t_mulN by_o ?_ | refine t_quo by_o by_o ?_ | refine t_rem by_o by_o ?_ | refine t_quoN by_o by_o ?_ | refine t_remN by_o ?_ | refine t_addC ?_ | refine t_subC ?_ | refine t_mulC ?_ | refine t_bRt rfl ?_ | refine t_bRf rfl ?_ | refine t_getC rfl ?_ | refine t_getC by_a ?_ | refine t_iRp rfl ?_ | refine t_iR by_o ?_ | refine t_iRn rfl ?_ | refine t_fBt rfl ?_ | refine t_fBf rfl ?_ | refine t_fBt by_s ?_ | refine t_fBf by_s ?_ | refine t_bRt by_u ?_ | refine t_bRf by_u ?_ | refine t_oA rfl ?_ | refine t_oA by_a ?_ | refine t_old by_a by_r ?_ | refine t_call0 (checkAccount_fn _ keep hD) rfl by_g rfl by_k ?_ | refine t_call0 (checkRange_fn _ _ _ _) rfl by_g rfl by_k ?_ | refine t_or2 (fun f' a n c es H => Or_fn f' H) rfl rfl rfl rfl ?_ | refine t_callG (orcS z) (hpay) rfl by_g rfl (by first | rfl | (exact rowp1 _ _ (fun _ => rfl) _) | exact by_g) rfl ?_ | refine t_call0 (hsum0) rfl by_g rfl by_k ?_ | refine t_callP (orcS z) (g0 :: gt) [] [] rfl hsum rfl rfl rfl (.inr rfl) rfl (encA_eq _) (fun _ => rfl) (fun _ => rfl) hgl (by omega) rfl rfl rfl ?_); (conv => lhs; whnf)) | ((first | refine t_fB (fun hq => ?_) (fun hq => ?_) | refine t_bR (fun hq => ?_) (fun hq => ?_)) <;> (try simp only [sbM, reduceCtorEq, frB_iff, frB_no, orP_z, accE_z, rangeE_z] at hq) <;> (try (have hqt : hq = True.intro := rfl; clear hqt hq)) <;> (try (exact absurd trivial hq)) <;> (try (exfalso; omega)) <;> (conv => lhs; whnf))))
  · exact absurd hez' hq
  · (refine endG trivial rfl rfl by_g ?_; refine tup3 ?_ ?_ ?_ <;> (conv => lhs; whnf))
    rw [Int.sub_zero]
theorem Pay_fn {a : Option Addr} {n c : Nat} {ds : List Int} {g0 : Int} {gt : List Int} (keep income : Int) (hD : Ints f a n c ds) (hez : payE keep ds income = 0) (hgs : payF (spareF keep income) ds = g0 :: gt) : FnR Tryz.prog f 10 [.agg ⟨[.int .i64 keep, .slice a n c]⟩, .int .i64 income] ⟨.tuple ⟨[.slice (some ⟨0, 0, some 1⟩) n 0, .int .i64 (income - (g0 :: gt).sum), .int .i64 0]⟩, [(3, encA encI (g0 :: gt))]⟩ := by
  have hg := hD.g
  have hle := hD.le
  have hlen := hD.len
  rw [payE, orP_z, accE_z, rangeE_z, frB_iff] at hez
  have hez' := hez
  obtain ⟨hacc, hi0, hi1⟩ := hez
  obtain ⟨⟨hk0, hk1⟩, hn5, hds⟩ := accB_iff.1 hacc
  have hpay := pay_fn f keep income hD hk0 hk1 hi0 (by omega) (fun d h => (hds d h).1) (by omega)
  have hsp := spareF_in hk0 hk1 hi0
  have hin := payF_in _ _ hsp.1 (fun d h => (hds d h).1)
  have hln := payF_len (spareF keep income) ds
  rw [hgs] at hpay hin hln
  have hgl : (g0 :: gt).length = n := by omega
  have hpay : FnR Tryz.prog f 25 [.agg ⟨[.int .i64 keep, .slice a n c]⟩, .int .i64 income] ⟨.slice (some ⟨0, 0, some 1⟩) n 0, [(3, encA encI (g0 :: gt))]⟩ := hpay
  have hs := sum_le (g0 :: gt) hin
  have hsum : ∀ f' b c', (∀ b o v, f b o = some v → f' b o = some v) → Ints f' (some ⟨b, 0, none⟩) n c' (g0 :: gt) → FnR Tryz.prog f' 26 ([] ++ [.slice (some ⟨b, 0, none⟩) n c']) ⟨.int .i64 (g0 :: gt).sum, []⟩ := fun f' b c' _ H => sum_fn f' H fun i hi => by
    have h1 := sum_le ((g0 :: gt).take i) fun y hy => hin y (List.mem_of_mem_take hy)
    have h2 : ((g0 :: gt).take i).length ≤ 5 := by rw [List.length_take]; omega
    have h3 : (((g0 :: gt).take i).length : Int) * spareF keep income ≤ 5 * spareF keep income := Int.mul_le_mul_of_nonneg_right (by omega) hsp.1
    omega
  have hs5 : ((g0 :: gt).length : Int) * spareF keep income ≤ 5 * spareF keep income := Int.mul_le_mul_of_nonneg_right (by omega) hsp.1
  generalize (g0 :: gt).sum = sm at *
  refine fn_J by_g rfl ?_
  (repeat' (first | refine J.seq ?_ | refine JP.one ?_ | refine JP.step ?_ | refine J.block ?_ | refine J.scope ?_ | (refine J.region (fun z => ?_); (conv => lhs; whnf)) | (refine J.cond rfl rfl (fun hq => ?_) (fun hq => ?_) <;> (try simp only [sbM, reduceCtorEq, frB_iff, frB_no, orP_z, accE_z, rangeE_z] at hq) <;> (try (have hqt : hq = True.intro := rfl; clear hqt hq)) <;> (try (exact absurd trivial hq)) <;> (try (exfalso; omega))) | refine J.exit ?_ | refine J.ret ?_ | refine J.skip ?_ | refine J.label ?_ | (with_reducible first | refine then_normal ?_ | refine then_exit ?_ | refine then_ret ?_ | refine block_exit ?_ | refine block_normal ?_ | refine block_ret ?_ | refine block_exit_ne rfl ?_ | refine kI_go rfl ?_) | ((first | (apply t_next; focus ((conv => lhs; whnf); try exact rfl)) | refine t_forceN ?_ | refine t_addN by_o ?_ | refine t_subN by_o ?_ | refine t_mulN by_o ?_ | refine t_quo by_o by_o ?_ | refine t_rem by_o by_o ?_ | refine t_quoN by_o by_o ?_ | refine t_remN by_o ?_ | refine t_addC ?_ | refine t_subC ?_ | refine t_mulC ?_ | refine t_bRt rfl ?_ | refine t_bRf rfl ?_ | refine t_getC rfl ?_ | refine t_getC by_a ?_ | refine t_iRp rfl ?_ | refine t_iR by_o ?_ | refine t_iRn rfl ?_ | refine t_fBt rfl ?_ | refine t_fBf rfl ?_ | refine t_fBt by_s ?_ | refine t_fBf by_s ?_ | refine t_bRt by_u ?_ | refine t_bRf by_u ?_ | refine t_oA rfl ?_ | refine t_oA by_a ?_ | refine t_old by_a by_r ?_ | refine t_call0 (checkAccount_fn _ keep hD) rfl by_g rfl by_k ?_ | refine t_call0 (checkRange_fn _ _ _ _) rfl by_g rfl by_k ?_ | refine t_or2 (fun f' a n c es H => Or_fn f' H) rfl rfl rfl rfl ?_ | refine t_callG (orcS z) (hpay) rfl by_g rfl (by first | rfl | (exact rowp1 _ _ (fun _ => rfl) _) | exact by_g) rfl ?_ | refine t_call0 (hsum0) rfl by_g rfl by_k ?_ | refine t_callP (orcS z) (g0 :: gt) [] [] rfl hsum rfl rfl rfl (.inr rfl) rfl (encA_eq _) (fun _ => rfl) (fun _ => rfl) hgl (by omega) rfl rfl rfl ?_); (conv => lhs; whnf)) | ((first | refine t_fB (fun hq => ?_) (fun hq => ?_) | refine t_bR (fun hq => ?_) (fun hq => ?_)) <;> (try simp only [sbM, reduceCtorEq, frB_iff, frB_no, orP_z, accE_z, rangeE_z] at hq) <;> (try (have hqt : hq = True.intro := rfl; clear hqt hq)) <;> (try (exact absurd trivial hq)) <;> (try (exfalso; omega)) <;> (conv => lhs; whnf))))
  · exact absurd hez' hq
  · refine endN [2] trivial rfl rfl ⟨_, _, _, rfl, rfl, SimL.of_eq (l := encA encI (g0 :: gt)) rfl (encA_gr (fun _ => rfl) _), nin rfl, trivial⟩ ?_
    exact SimV.tuple (.cons (SimV.slice rfl rfl rfl rfl) (.cons (.int rfl) (.cons (.int rfl) .nil)))
end
end Go.Proofs.YtnkbopfnnbmdaaaGreat
