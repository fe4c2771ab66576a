/- Package purse: the least income that pays so many debts. Conditions: as each theorem says. -/
import Derived.Test.YtlcdifeiinpaiaaGreatQU
namespace Go.Proofs.YtlcdifeiinpaiaaGreat
open Go Go.RowKit
attribute [local irreducible] addC subC mulC quoI remI forceN forceB bR getC iR kI callI rcI oldC oA nextC
set_option maxRecDepth 1000000
set_option maxHeartbeats 8000000
set_option linter.unusedVariables false
set_option linter.unusedSimpArgs false
theorem real_clo {f' : Nat → Nat → Option Value} {hh : SH} {n : Int} {g : FuncId} {j1 j2 : Nat} {args' : List Value} (h : RealL f' hh [.int .i64 n, .func (.func g) ⟨[]⟩ ⟨[.pointer (some ⟨j1, 0, some 0⟩), .pointer (some ⟨j2, 0, some 0⟩)]⟩] args') {t1 t2 : TypeId} {cs1 cs2 : List Value} {f1 f2 : Nat}
    (r1 : hh.tr.get j1 = some (.row t1 cs1 f1)) (r2 : hh.tr.get j2 = some (.row t2 cs2 f2)) (g1 : cs1.all (gr 6) = true) (g2 : cs2.all (gr 6) = true) :
    ∃ b1 b2, args' = [.int .i64 n, .func (.func g) ⟨[]⟩ ⟨[.pointer (some ⟨b1, 0, none⟩), .pointer (some ⟨b2, 0, none⟩)]⟩] ∧ (∀ i v, cs1[i]? = some v → f' b1 i = some v) ∧ (∀ i v, cs2[i]? = some v → f' b2 i = some v) := by
  cases h with
  | cons h1 h2 =>
    cases h1
    cases h2 with
    | cons h3 h4 =>
      cases h4
      cases h3 with
      | ground hg => simp [gr] at hg
      | func q1 q2 =>
        cases q1
        cases q2 with
        | cons q3 q4 =>
          cases q4 with
          | cons q5 q6 =>
            cases q6
            cases q3 with
            | ground hg => simp [gr] at hg
            | ptr hj hc =>
              cases q5 with
              | ground hg => simp [gr] at hg
              | ptr hj2 hc2 =>
                rw [r1] at hj; cases hj
                rw [r2] at hj2; cases hj2
                exact ⟨_, _, rfl, hc g1, hc2 g2⟩
/-- A call with a closure over two new rows. -/
theorem t_callF {P : Program} {f : Nat → Nat → Option Value} (O : Orc) {frz : List Nat} {g0 g : FuncId} {args : List Value} {h : SH} {k : KV} {x : Res} {n : Int} {j1 j2 f1 f2 : Nat} {t1 t2 : TypeId} {cs1 cs2 : List Value} (hok : (finfo P g0).ok = true)
    (ea : args = [.int .i64 n, .func (.func g) ⟨[]⟩ ⟨[.pointer (some ⟨j1, 0, some 0⟩), .pointer (some ⟨j2, 0, some 0⟩)]⟩]) (r1 : h.tr.get j1 = some (.row t1 cs1 f1)) (r2 : h.tr.get j2 = some (.row t2 cs2 f2)) (g1 : cs1.all (gr 6) = true) (g2 : cs2.all (gr 6) = true)
    (hx : ∀ f' b1 b2, (∀ b o v, f b o = some v → f' b o = some v) → (∀ i v, cs1[i]? = some v → f' b1 i = some v) → (∀ i v, cs2[i]? = some v → f' b2 i = some v) → FnR P f' g0 [.int .i64 n, .func (.func g) ⟨[]⟩ ⟨[.pointer (some ⟨b1, 0, none⟩), .pointer (some ⟨b2, 0, none⟩)]⟩] x)
    (hl : frzLive h frz = true) (hp : x.rows.all (fun r => r.2.all (gr 6)) = true) (ho : shOk 4 x.v = true) (hk : nextC h (fun n => k (shV n 4 x.v) (memSH x.rows h)) = some (.bool true)) : callI P (glF f) frz g0 args h k = some (.bool true) := by
  subst ea
  refine t_callL O hok (fun f' args' hm hre => ?_) ?_ hl hp ho hk
  · obtain ⟨b1, b2, rfl, q1, q2⟩ := real_clo hre r1 r2 g1 g2
    exact hx f' b1 b2 hm q1 q2
  · intro y hy
    rcases List.mem_cons.1 hy with rfl | hy
    · rfl
    · obtain rfl := List.mem_singleton.1 hy
      refine ⟨fun x hx => (by cases hx), fun x hx => ?_⟩
      rcases List.mem_cons.1 hx with rfl | hx
      · exact ⟨_, _, _, r1⟩
      · obtain rfl := List.mem_singleton.1 hx
        exact ⟨_, _, _, r2⟩
section
variable (f : Nat → Nat → Option Value)
theorem enough1_fn {a : Option Addr} {n c b1 b2 : Nat} (keep debts m : Int) (hg : grA a n c = true) (hk0 : 0 ≤ keep) (hk1 : keep ≤ 1000) (hm0 : 0 ≤ m) (hm1 : m < 1000000001) (h10 : f b1 0 = some (.int .i64 keep)) (h11 : f b1 1 = some (.slice a n c)) (h20 : f b2 0 = some (.int .i64 debts)) :
    FnR Tryz.prog f 49 [.int .i64 m, .pointer (some ⟨b1, 0, none⟩), .pointer (some ⟨b2, 0, none⟩)] ⟨.bool (decide (debts ≤ spareF keep m)), []⟩ := by
  have hgs : gr 6 (.slice a n c) = true := by rw [gr_slice]; exact hg
  refine fn_J rfl rfl ?_
  (repeat' (first | refine J.seq ?_ | refine JP.one ?_ | refine JP.step ?_ | refine J.block ?_ | refine J.scope ?_ | (refine J.region (fun z => ?_); (conv => lhs; whnf)) | (refine J.cond rfl rfl (fun hq => ?_) (fun hq => ?_) <;> (try simp only [sbM, reduceCtorEq, frB_iff, frB_no, orP_z, accE_z, rangeE_z] at hq) <;> (try (have hqt : hq = True.intro := rfl; clear hqt hq)) <;> (try (exact absurd trivial hq)) <;> (try (exfalso; omega))) | refine J.exit ?_ | refine J.ret ?_ | refine J.skip ?_ | refine J.label ?_ | (with_reducible first | refine then_normal ?_ | refine then_exit ?_ | refine then_ret ?_ | refine block_exit ?_ | refine block_normal ?_ | refine block_ret ?_ | refine block_exit_ne rfl ?_ | refine kI_go rfl ?_) | ((first | (apply t_next; focus ((conv => lhs; whnf); try exact rfl)) | refine t_forceN ?_ | refine t_addN by_o ?_ | refine t_subN by_o ?_ | refine t_mulN by_o ?_ | refine t_quo by_o by_o ?_ | refine t_rem by_o by_o ?_ | refine t_quoN by_o by_o ?_ | refine t_remN by_o ?_ | refine t_addC ?_ | refine t_subC ?_ | refine t_mulC ?_ | refine t_bRt rfl ?_ | refine t_bRf rfl ?_ | refine t_getC rfl ?_ | refine t_getC by_a ?_ | refine t_iRp rfl ?_ | refine t_iR by_o ?_ | refine t_iRn rfl ?_ | refine t_fBt rfl ?_ | refine t_fBf rfl ?_ | refine t_fBt by_s ?_ | refine t_fBf by_s ?_ | refine t_bRt by_u ?_ | refine t_bRf by_u ?_ | refine t_oA rfl ?_ | refine t_oA by_a ?_ | refine t_old by_a by_r ?_ | refine t_call0 (spare_fn _ keep m hg hk0 hk1 hm0 (by omega)) rfl by_g rfl by_k ?_); (conv => lhs; whnf)) | ((first | refine t_fB (fun hq => ?_) (fun hq => ?_) | refine t_bR (fun hq => ?_) (fun hq => ?_)) <;> (try simp only [sbM, reduceCtorEq, frB_iff, frB_no, orP_z, accE_z, rangeE_z] at hq) <;> (try (have hqt : hq = True.intro := rfl; clear hqt hq)) <;> (try (exact absurd trivial hq)) <;> (try (exfalso; omega)) <;> (conv => lhs; whnf))))
  all_goals ((refine endG trivial rfl rfl by_g ?_; (conv => lhs; whnf)); first | rw [decide_eq_true (by omega)] | rw [decide_eq_false (by omega)])
def enoE (keep : Int) (ds : List Int) (many : Int) : Int := orE [accE keep ds, rangeE many 0 ds.length]
theorem Enough_err {a : Option Addr} {n c : Nat} {ds : List Int} (keep many : Int) (hD : Ints f a n c ds) (hne : enoE keep ds many ≠ 0) : FnR Tryz.prog f 17 [.agg ⟨[.int .i64 keep, .slice a n c]⟩, .int .i64 many] ⟨.tuple ⟨[.int .i64 0, .int .i64 (enoE keep ds many)]⟩, []⟩ := by
  have hg := hD.g
  have hlen := hD.len
  rw [enoE, hlen] at hne ⊢
  have hne' := hne
  rw [ne_eq, orP_z, accE_z, rangeE_z, frB_iff] at hne
  refine fn_J by_g rfl ?_
  (repeat' (first | refine J.seq ?_ | refine JP.one ?_ | refine JP.step ?_ | refine J.block ?_ | refine J.scope ?_ | (refine J.region (fun z => ?_); (conv => lhs; whnf)) | (refine J.cond rfl rfl (fun hq => ?_) (fun hq => ?_) <;> (try simp only [sbM, reduceCtorEq, frB_iff, frB_no, orP_z, accE_z, rangeE_z] at hq) <;> (try (have hqt : hq = True.intro := rfl; clear hqt hq)) <;> (try (exact absurd trivial hq)) <;> (try (exfalso; omega))) | refine J.exit ?_ | refine J.ret ?_ | refine J.skip ?_ | refine J.label ?_ | (with_reducible first | refine then_normal ?_ | refine then_exit ?_ | refine then_ret ?_ | refine block_exit ?_ | refine block_normal ?_ | refine block_ret ?_ | refine block_exit_ne rfl ?_ | refine kI_go rfl ?_) | ((first | (apply t_next; focus ((conv => lhs; whnf); try exact rfl)) | refine t_forceN ?_ | refine t_addN by_o ?_ | refine t_subN by_o ?_ | refine t_mulN by_o ?_ | refine t_quo by_o by_o ?_ | refine t_rem by_o by_o ?_ | refine t_quoN by_o by_o ?_ | refine t_remN by_o ?_ | refine t_addC ?_ | refine t_subC ?_ | refine t_mulC ?_ | refine t_bRt rfl ?_ | refine t_bRf rfl ?_ | refine t_getC rfl ?_ | refine t_getC by_a ?_ | refine t_iRp rfl ?_ | refine t_iR by_o ?_ | refine t_iRn rfl ?_ | refine t_fBt rfl ?_ | refine t_fBf rfl ?_ | refine t_fBt by_s ?_ | refine t_fBf by_s ?_ | refine t_bRt by_u ?_ | refine t_bRf by_u ?_ | refine t_oA rfl ?_ | refine t_oA by_a ?_ | refine t_old by_a by_r ?_ | refine t_call0 (checkAccount_fn _ keep hD) rfl by_g rfl by_k ?_ | refine t_call0 (checkRange_fn _ many 0 n) rfl by_g rfl by_k ?_ | refine t_or2 (fun f' a n c es H => Or_fn f' H) rfl rfl rfl rfl ?_ | refine t_call0 (sum_fn _ hDp hsm) rfl by_g rfl by_k ?_); (conv => lhs; whnf)) | ((first | refine t_fB (fun hq => ?_) (fun hq => ?_) | refine t_bR (fun hq => ?_) (fun hq => ?_)) <;> (try simp only [sbM, reduceCtorEq, frB_iff, frB_no, orP_z, accE_z, rangeE_z] at hq) <;> (try (have hqt : hq = True.intro := rfl; clear hqt hq)) <;> (try (exact absurd trivial hq)) <;> (try (exfalso; omega)) <;> (conv => lhs; whnf))))
  · (refine endG trivial rfl rfl by_g ?_; refine tup2 ?_ ?_ <;> (conv => lhs; whnf)) <;> rfl
  all_goals (exact absurd hq hne)
theorem Enough_fn {a : Option Addr} {n c : Nat} {ds : List Int} (keep r : Int) (many : Nat) (hD : Ints f a n c ds) (hez : enoE keep ds many = 0) (hr0 : 0 ≤ r) (hr1 : r ≤ 1000000001) (hr : ∀ m, 0 ≤ m → m < 1000000001 → ((ds.take many).sum ≤ spareF keep m ↔ r ≤ m)) :
    FnR Tryz.prog f 17 [.agg ⟨[.int .i64 keep, .slice a n c]⟩, .int .i64 many] ⟨.tuple ⟨[.int .i64 (if r ≤ 1000000000 then r else 0), .int .i64 (if r ≤ 1000000000 then 0 else 4)]⟩, []⟩ := by
  have hg := hD.g
  have hlen := hD.len
  have hle := hD.le
  rw [enoE, hlen, orP_z, accE_z, rangeE_z, frB_iff] at hez
  have hez' := hez
  obtain ⟨hacc, hm0, hm1⟩ := hez
  obtain ⟨⟨hk0, hk1⟩, hn5, hds⟩ := accB_iff.1 hacc
  have hgc : a = none → n = 0 ∧ c = 0 := fun e => by
    subst e
    have h1 : (Nat.beq n 0 && Nat.beq c 0) = true := hg
    rw [Bool.and_eq_true, Nat.beq_eq, Nat.beq_eq] at h1
    exact h1
  have hgm : grA a many c = true := by
    cases a with
    | none => obtain ⟨h1, h2⟩ := hgc rfl; have h3 : many = 0 := by omega
              subst h2 h3; rfl
    | some a => exact hg
  have hnc := hD.nc
  have hgs : grS a n c = true := by cases a <;> exact hg
  have hDp : Ints f a many c (ds.take many) := ⟨hgm, by rw [List.length_take]; omega, by have := hD.nc; omega, by omega, fun i x hx => hD.at' i x (by rw [List.getElem?_take] at hx; split at hx; exact hx; cases hx)⟩
  have hsm : ∀ i, i ≤ (ds.take many).length → -4000000000000000000 ≤ ((ds.take many).take i).sum ∧ ((ds.take many).take i).sum ≤ 4000000000000000000 := fun i hi => by
    have h1 := sum_le (B := 1000000000) ((ds.take many).take i) fun y hy => hds y (List.mem_of_mem_take (List.mem_of_mem_take hy))
    have h2 : ((ds.take many).take i).length ≤ 5 := by rw [List.length_take, List.length_take]; omega
    omega
  refine fn_J by_g rfl ?_
  (repeat' (first | refine J.seq ?_ | refine JP.one ?_ | refine JP.step ?_ | refine J.block ?_ | refine J.scope ?_ | (refine J.region (fun z => ?_); (conv => lhs; whnf)) | (refine J.cond rfl rfl (fun hq => ?_) (fun hq => ?_) <;> (try simp only [sbM, reduceCtorEq, frB_iff, frB_no, orP_z, accE_z, rangeE_z] at hq) <;> (try (have hqt : hq = True.intro := rfl; clear hqt hq)) <;> (try (exact absurd trivial hq)) <;> (try (exfalso; omega))) | refine J.exit ?_ | refine J.ret ?_ | refine J.skip ?_ | refine J.label ?_ | (with_reducible first | refine then_normal ?_ | refine then_exit ?_ | refine then_ret ?_ | refine block_exit ?_ | refine block_normal ?_ | refine block_ret ?_ | refine block_exit_ne rfl ?_ | refine kI_go rfl ?_) | ((first | (apply t_next; focus ((conv => lhs; whnf); try exact rfl)) | refine t_forceN ?_ | refine t_addN by_o ?_ | refine t_subN by_o ?_ | refine t_mulN by_o ?_ | refine t_quo by_o by_o ?_ | refine t_rem by_o by_o ?_ | refine t_quoN by_o by_o ?_ | refine t_remN by_o ?_ | refine t_addC ?_ | refine t_subC ?_ | refine t_mulC ?_ | refine t_bRt rfl ?_ | refine t_bRf rfl ?_ | refine t_getC rfl ?_ | refine t_getC by_a ?_ | refine t_iRp rfl ?_ | refine t_iR by_o ?_ | refine t_iRn rfl ?_ | refine t_fBt rfl ?_ | refine t_fBf rfl ?_ | refine t_fBt by_s ?_ | refine t_fBf by_s ?_ | refine t_bRt by_u ?_ | refine t_bRf by_u ?_ | refine t_oA rfl ?_ | refine t_oA by_a ?_ | refine t_old by_a by_r ?_ | refine t_call0 (checkAccount_fn _ keep hD) rfl by_g rfl by_k ?_ | refine t_call0 (checkRange_fn _ many 0 n) rfl by_g rfl by_k ?_ | refine t_or2 (fun f' a n c es H => Or_fn f' H) rfl rfl rfl rfl ?_ | refine t_call0 (sum_fn _ hDp hsm) rfl by_g rfl by_k ?_); (conv => lhs; whnf)) | ((first | refine t_fB (fun hq => ?_) (fun hq => ?_) | refine t_bR (fun hq => ?_) (fun hq => ?_)) <;> (try simp only [sbM, reduceCtorEq, frB_iff, frB_no, orP_z, accE_z, rangeE_z] at hq) <;> (try (have hqt : hq = True.intro := rfl; clear hqt hq)) <;> (try (exact absurd trivial hq)) <;> (try (exfalso; omega)) <;> (conv => lhs; whnf))))
  · exact absurd hez' hq
  have hsa : sliceAd a c 0 1 = a := by rw [sliceAd_eq]; split; rfl; cases a <;> rfl
  refine t_call0 (v := .int .i64 (ds.take many).sum) (sum_fn _ hDp hsm) ?_ by_g rfl rfl ?_
  · show [Value.slice (sliceAd a c 0 1) _ _] = _
    rw [hsa]; rfl
  · (conv => lhs; whnf)
    (repeat' (first | refine J.seq ?_ | refine JP.one ?_ | refine JP.step ?_ | refine J.block ?_ | refine J.scope ?_ | (refine J.region (fun z => ?_); (conv => lhs; whnf)) | (refine J.cond rfl rfl (fun hq => ?_) (fun hq => ?_) <;> (try simp only [sbM, reduceCtorEq, frB_iff, frB_no, orP_z, accE_z, rangeE_z] at hq) <;> (try (have hqt : hq = True.intro := rfl; clear hqt hq)) <;> (try (exact absurd trivial hq)) <;> (try (exfalso; omega))) | refine J.exit ?_ | refine J.ret ?_ | refine J.skip ?_ | refine J.label ?_ | (with_reducible first | refine then_normal ?_ | refine then_exit ?_ | refine then_ret ?_ | refine block_exit ?_ | refine block_normal ?_ | refine block_ret ?_ | refine block_exit_ne rfl ?_ | refine kI_go rfl ?_) | ((first | (apply t_next; focus ((conv => lhs; whnf); try exact rfl)) | refine t_forceN ?_ | refine t_addN by_o ?_ | refine t_subN by_o ?_ | refine t_mulN by_o ?_ | refine t_quo by_o by_o ?_ | refine t_rem by_o by_o ?_ | refine t_quoN by_o by_o ?_ | refine t_remN by_o ?_ | refine t_addC ?_ | refine t_subC ?_ | refine t_mulC ?_ | refine t_bRt rfl ?_ | refine t_bRf rfl ?_ | refine t_getC rfl ?_ | refine t_getC by_a ?_ | refine t_iRp rfl ?_ | refine t_iR by_o ?_ | refine t_iRn rfl ?_ | refine t_fBt rfl ?_ | refine t_fBf rfl ?_ | refine t_fBt by_s ?_ | refine t_fBf by_s ?_ | refine t_bRt by_u ?_ | refine t_bRf by_u ?_ | refine t_oA rfl ?_ | refine t_oA by_a ?_ | refine t_old by_a by_r ?_ | refine t_call0 (checkAccount_fn _ keep hD) rfl by_g rfl by_k ?_ | refine t_call0 (checkRange_fn _ many 0 n) rfl by_g rfl by_k ?_ | refine t_or2 (fun f' a n c es H => Or_fn f' H) rfl rfl rfl rfl ?_ | refine t_call0 (sum_fn _ hDp hsm) rfl by_g rfl by_k ?_); (conv => lhs; whnf)) | ((first | refine t_fB (fun hq => ?_) (fun hq => ?_) | refine t_bR (fun hq => ?_) (fun hq => ?_)) <;> (try simp only [sbM, reduceCtorEq, frB_iff, frB_no, orP_z, accE_z, rangeE_z] at hq) <;> (try (have hqt : hq = True.intro := rfl; clear hqt hq)) <;> (try (exact absurd trivial hq)) <;> (try (exfalso; omega)) <;> (conv => lhs; whnf))))
    refine t_callF (x := ⟨.int .i64 r, []⟩) (orcS z) (j1 := 0) (j2 := 2) rfl rfl rfl rfl (by show [Value.int .i64 keep, Value.slice a n c].all (gr 6) = true; exact by_g) rfl (fun f' b1 b2 hm c1 c2 => search_fn f' 1000000001 r hr0 hr1 (by omega) (fun m h0 h1 => ?_)) rfl rfl rfl ?_
    · have h2 := enough1_fn f' keep (ds.take many).sum m hg hk0 hk1 h0 h1 (c1 0 _ rfl) (c1 1 _ rfl) (c2 0 _ rfl)
      rw [decide_eq_decide.2 (hr m h0 h1)] at h2
      exact h2
    · (conv => lhs; whnf)
      (repeat' (first | refine J.seq ?_ | refine JP.one ?_ | refine JP.step ?_ | refine J.block ?_ | refine J.scope ?_ | (refine J.region (fun z => ?_); (conv => lhs; whnf)) | (refine J.cond rfl rfl (fun hq => ?_) (fun hq => ?_) <;> (try simp only [sbM, reduceCtorEq, frB_iff, frB_no, orP_z, accE_z, rangeE_z] at hq) <;> (try (have hqt : hq = True.intro := rfl; clear hqt hq)) <;> (try (exact absurd trivial hq)) <;> (try (exfalso; omega))) | refine J.exit ?_ | refine J.ret ?_ | refine J.skip ?_ | refine J.label ?_ | (with_reducible first | refine then_normal ?_ | refine then_exit ?_ | refine then_ret ?_ | refine block_exit ?_ | refine block_normal ?_ | refine block_ret ?_ | refine block_exit_ne rfl ?_ | refine kI_go rfl ?_) | ((first | (apply t_next; focus ((conv => lhs; whnf); try exact rfl)) | refine t_forceN ?_ | refine t_addN by_o ?_ | refine t_subN by_o ?_ | refine t_mulN by_o ?_ | refine t_quo by_o by_o ?_ | refine t_rem by_o by_o ?_ | refine t_quoN by_o by_o ?_ | refine t_remN by_o ?_ | refine t_addC ?_ | refine t_subC ?_ | refine t_mulC ?_ | refine t_bRt rfl ?_ | refine t_bRf rfl ?_ | refine t_getC rfl ?_ | refine t_getC by_a ?_ | refine t_iRp rfl ?_ | refine t_iR by_o ?_ | refine t_iRn rfl ?_ | refine t_fBt rfl ?_ | refine t_fBf rfl ?_ | refine t_fBt by_s ?_ | refine t_fBf by_s ?_ | refine t_bRt by_u ?_ | refine t_bRf by_u ?_ | refine t_oA rfl ?_ | refine t_oA by_a ?_ | refine t_old by_a by_r ?_ | refine t_call0 (checkAccount_fn _ keep hD) rfl by_g rfl by_k ?_ | refine t_call0 (checkRange_fn _ many 0 n) rfl by_g rfl by_k ?_ | refine t_or2 (fun f' a n c es H => Or_fn f' H) rfl rfl rfl rfl ?_ | refine t_call0 (sum_fn _ hDp hsm) rfl by_g rfl by_k ?_); (conv => lhs; whnf)) | ((first | refine t_fB (fun hq => ?_) (fun hq => ?_) | refine t_bR (fun hq => ?_) (fun hq => ?_)) <;> (try simp only [sbM, reduceCtorEq, frB_iff, frB_no, orP_z, accE_z, rangeE_z] at hq) <;> (try (have hqt : hq = True.intro := rfl; clear hqt hq)) <;> (try (exact absurd trivial hq)) <;> (try (exfalso; omega)) <;> (conv => lhs; whnf))))
      · (refine endG trivial rfl rfl by_g ?_; refine tup2 ?_ ?_ <;> (conv => lhs; whnf))
        · rw [if_neg (by omega)]
        · rw [if_neg (by omega)]
      · (refine endG trivial rfl rfl by_g ?_; refine tup2 ?_ ?_ <;> (conv => lhs; whnf))
        · rw [if_pos (by omega)]
        · rw [if_pos (by omega)]
end
end Go.Proofs.YtlcdifeiinpaiaaGreat
