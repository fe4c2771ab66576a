/- Package pot: Level and Due. Conditions: as each theorem says. -/
import Derived.Test.YtpaabfecoghibaaPH
namespace Go.Proofs.Ytpaabfecoghibaa
open Go Go.RowKit
attribute [local irreducible] addC subC mulC quoI remI forceN forceB bR getC iR kI callI rcI oldC oA nextC readR
set_option maxRecDepth 1000000
set_option maxHeartbeats 8000000
set_option linter.unusedVariables false
set_option linter.unusedSimpArgs false
noncomputable def levE (ps : List Pt) (ds : List Dy) (base hands pot fr to : Int) : Int := orE [potsE ps ds base hands, askE ps.length ds.length pot (-1) fr to]
/-- What holds of a valid run. -/
theorem run_ok {ps : List Pt} {ds : List Dy} {base hands : Int} (h : potsE ps ds base hands = 0) : ps.length ≤ 6 ∧ (1 ≤ ds.length ∧ ds.length ≤ 8) ∧ (0 ≤ base ∧ base ≤ 500) ∧ (∀ (i : Nat) (p : Pt), ps[i]? = some p → PtOk2 p) ∧ ∀ d ∈ ds, DyOk d := by
  obtain ⟨h1, h2, h3, _, h5, h6⟩ := potsE_z.1 h
  exact ⟨h1, h2, h3, fun i p hp => ptOk_of (h5 i p hp).1, fun d hd => by obtain ⟨i, hi⟩ := List.mem_iff_getElem?.1 hd; exact dyOk_of (h6 i d hi)⟩
section
variable (f : Nat → Nat → Option Value)
theorem Level_err {a a2 : Option Addr} {n c n2 c2 : Nat} {ps : List Pt} {ds : List Dy} (base hands pot fr day : Int) (hP : Pts f a n c ps) (hD : Dys f a2 n2 c2 ds) (hne : levE ps ds base hands pot fr day ≠ 0) :
    FnR Try.prog f 10 [.agg ⟨encRun a n c a2 n2 c2 base hands⟩, .int .i64 pot, .int .i64 fr, .int .i64 day] ⟨.tuple ⟨[.agg ⟨[.int .i64 0, .int .i64 0]⟩, .int .i64 (levE ps ds base hands pot fr day)]⟩, []⟩ := by
  have hg := hP.g
  have hg2 := hD.g
  have hle := hP.le
  have hle2 := hD.le
  rw [levE, hP.len, hD.len] at hne ⊢
  have hne' := hne
  rw [ne_eq, orE2_z] at hne'
  refine fn_J by_g rfl ?_
  (repeat' (first | refine J.seq ?_ | refine JP.one ?_ | refine JP.step ?_ | refine J.block ?_ | refine J.scope ?_ | (refine J.region (fun z => ?_); (conv => lhs; whnf)) | (refine J.cond rfl rfl (fun hq => ?_) (fun hq => ?_) <;> (try simp only [sbM, reduceCtorEq, frS_iff, frS_no, orE2_z] at hq) <;> (try (have hqt : hq = True.intro := rfl; clear hqt hq)) <;> (try (exact absurd trivial hq)) <;> (try (exfalso; omega))) | refine J.exit ?_ | refine J.ret ?_ | refine J.skip ?_ | refine J.label ?_ | (with_reducible first | refine then_normal ?_ | refine then_exit ?_ | refine then_ret ?_ | refine block_exit ?_ | refine block_normal ?_ | refine block_ret ?_ | refine block_exit_ne rfl ?_ | refine kI_go rfl ?_) | ((first | (apply t_next; focus ((conv => lhs; whnf); try exact rfl)) | refine t_forceN ?_ | refine t_addN by_o ?_ | refine t_subN by_o ?_ | refine t_mulN by_o ?_ | refine t_quo by_o by_o ?_ | refine t_rem by_o by_o ?_ | refine t_quoN by_o by_o ?_ | refine t_remN by_o ?_ | refine t_addC ?_ | refine t_subC ?_ | refine t_mulC ?_ | refine t_bRt rfl ?_ | refine t_bRf rfl ?_ | refine t_lim (k := 8) (K := 17592186044416) rfl rfl by_o ?_ | refine t_lim (k := 65536) (K := 2147483648) rfl rfl by_o ?_ | refine t_getC rfl ?_ | refine t_getC by_a ?_ | refine t_iRp rfl ?_ | refine t_iR by_o ?_ | refine t_iRn rfl ?_ | refine t_fBt rfl ?_ | refine t_fBf rfl ?_ | refine t_fBt by_s ?_ | refine t_fBf by_s ?_ | refine t_bRt by_u ?_ | refine t_bRf by_u ?_ | refine t_oA rfl ?_ | refine t_oA by_a ?_ | refine t_old by_a by_r ?_ | refine t_readR by_a ?_ | refine t_bRt (encA_one (fun _ => rfl)) ?_ | refine t_call0 (Check_fn _ base hands hP hD) rfl by_g rfl by_k ?_ | refine t_call0 (checkPot_fn _ base hands pot (-1) fr day hg hg2 hle hle2) rfl by_g rfl by_k ?_ | refine t_or2 (fun f' a n c es H => Or_fn f' H) rfl rfl rfl rfl ?_); (conv => lhs; whnf)) | ((first | refine t_fB (fun hq => ?_) (fun hq => ?_) | refine t_bR (fun hq => ?_) (fun hq => ?_)) <;> (try simp only [sbM, reduceCtorEq, frS_iff, frS_no, orE2_z] at hq) <;> (try (have hqt : hq = True.intro := rfl; clear hqt hq)) <;> (try (exact absurd trivial hq)) <;> (try (exfalso; omega)) <;> (conv => lhs; whnf))))
  all_goals first
    | ((refine endG trivial rfl rfl by_g ?_; refine tup2 ?_ ?_ <;> (conv => lhs; whnf)) <;> rfl)
    | (exfalso; exact hne' (by assumption))
theorem Level_fn {a a2 : Option Addr} {n c n2 c2 : Nat} {ps : List Pt} {ds : List Dy} (base hands fr : Int) (k day : Nat) (p : Pt) (hP : Pts f a n c ps) (hD : Dys f a2 n2 c2 ds) (hez : levE ps ds base hands k fr day = 0) (hk : ps[k]? = some p) :
    FnR Try.prog f 10 [.agg ⟨encRun a n c a2 n2 c2 base hands⟩, .int .i64 (k : Int), .int .i64 fr, .int .i64 (day : Int)] ⟨.tuple ⟨[.agg ⟨[.int .i64 (levF true p base ds fr day), .int .i64 (levF false p base ds fr day)]⟩, .int .i64 0]⟩, []⟩ := by
  have hg := hP.g
  have hg2 := hD.g
  have hle := hP.le
  have hle2 := hD.le
  rw [levE, hP.len, hD.len, orE2_z] at hez
  have hez' := hez
  obtain ⟨h1, h2⟩ := hez
  obtain ⟨_, hn8, ⟨hb, hb1⟩, hpt, hl⟩ := run_ok h1
  have hn8 : n2 ≤ 8 := by rw [← hD.len]; exact hn8.2
  have hp := hpt k p hk
  obtain ⟨_, h3, hf0, hf1⟩ := askE_z.1 h2
  have hdn : day < n2 := by omega
  refine fn_J by_g rfl ?_
  (repeat' (first | refine J.seq ?_ | refine JP.one ?_ | refine JP.step ?_ | refine J.block ?_ | refine J.scope ?_ | (refine J.region (fun z => ?_); (conv => lhs; whnf)) | (refine J.cond rfl rfl (fun hq => ?_) (fun hq => ?_) <;> (try simp only [sbM, reduceCtorEq, frS_iff, frS_no, orE2_z] at hq) <;> (try (have hqt : hq = True.intro := rfl; clear hqt hq)) <;> (try (exact absurd trivial hq)) <;> (try (exfalso; omega))) | refine J.exit ?_ | refine J.ret ?_ | refine J.skip ?_ | refine J.label ?_ | (with_reducible first | refine then_normal ?_ | refine then_exit ?_ | refine then_ret ?_ | refine block_exit ?_ | refine block_normal ?_ | refine block_ret ?_ | refine block_exit_ne rfl ?_ | refine kI_go rfl ?_) | ((first | (apply t_next; focus ((conv => lhs; whnf); try exact rfl)) | refine t_forceN ?_ | refine t_addN by_o ?_ | refine t_subN by_o ?_ | refine t_mulN by_o ?_ | refine t_quo by_o by_o ?_ | refine t_rem by_o by_o ?_ | refine t_quoN by_o by_o ?_ | refine t_remN by_o ?_ | refine t_addC ?_ | refine t_subC ?_ | refine t_mulC ?_ | refine t_bRt rfl ?_ | refine t_bRf rfl ?_ | refine t_lim (k := 8) (K := 17592186044416) rfl rfl by_o ?_ | refine t_lim (k := 65536) (K := 2147483648) rfl rfl by_o ?_ | refine t_getC rfl ?_ | refine t_getC by_a ?_ | refine t_iRp rfl ?_ | refine t_iR by_o ?_ | refine t_iRn rfl ?_ | refine t_fBt rfl ?_ | refine t_fBf rfl ?_ | refine t_fBt by_s ?_ | refine t_fBf by_s ?_ | refine t_bRt by_u ?_ | refine t_bRf by_u ?_ | refine t_oA rfl ?_ | refine t_oA by_a ?_ | refine t_old by_a by_r ?_ | refine t_readR by_a ?_ | refine t_bRt (encA_one (fun _ => rfl)) ?_ | refine t_call0 (Check_fn _ base hands hP hD) rfl by_g rfl by_k ?_ | refine t_call0 (checkPot_fn _ base hands (k : Int) (-1) fr (day : Int) hg hg2 hle hle2) rfl by_g rfl by_k ?_ | refine t_or2 (fun f' a n c es H => Or_fn f' H) rfl rfl rfl rfl ?_ | refine t_call0 (hang_fn _ base hands k p hP hg2 hk) rfl by_g rfl by_g ?_ | refine t_call0 (level_fn _ p base fr day hD hp hb hb1 hl hn8 hf0 hf1 hdn) rfl by_g rfl by_k ?_); (conv => lhs; whnf)) | ((first | refine t_fB (fun hq => ?_) (fun hq => ?_) | refine t_bR (fun hq => ?_) (fun hq => ?_)) <;> (try simp only [sbM, reduceCtorEq, frS_iff, frS_no, orE2_z] at hq) <;> (try (have hqt : hq = True.intro := rfl; clear hqt hq)) <;> (try (exact absurd trivial hq)) <;> (try (exfalso; omega)) <;> (conv => lhs; whnf))))
  all_goals first
    | (exfalso; exact absurd hez' (by assumption))
    | ((refine endG trivial rfl rfl by_g ?_; refine tup2 ?_ ?_ <;> (conv => lhs; whnf)) <;> rfl)
theorem Due_err {a a2 : Option Addr} {n c n2 c2 : Nat} {ps : List Pt} {ds : List Dy} (base hands pot fr : Int) (hP : Pts f a n c ps) (hD : Dys f a2 n2 c2 ds) (hne : levE ps ds base hands pot fr ((ds.length : Int) - 1) ≠ 0) :
    FnR Try.prog f 5 [.agg ⟨encRun a n c a2 n2 c2 base hands⟩, .int .i64 pot, .int .i64 fr] ⟨.tuple ⟨[.int .i64 0, .int .i64 (levE ps ds base hands pot fr ((ds.length : Int) - 1))]⟩, []⟩ := by
  have hg := hP.g
  have hg2 := hD.g
  have hle := hP.le
  have hle2 := hD.le
  rw [levE, hP.len, hD.len] at hne ⊢
  have hne' := hne
  rw [ne_eq, orE2_z] at hne'
  refine fn_J by_g rfl ?_
  (repeat' (first | refine J.seq ?_ | refine JP.one ?_ | refine JP.step ?_ | refine J.block ?_ | refine J.scope ?_ | (refine J.region (fun z => ?_); (conv => lhs; whnf)) | (refine J.cond rfl rfl (fun hq => ?_) (fun hq => ?_) <;> (try simp only [sbM, reduceCtorEq, frS_iff, frS_no, orE2_z] at hq) <;> (try (have hqt : hq = True.intro := rfl; clear hqt hq)) <;> (try (exact absurd trivial hq)) <;> (try (exfalso; omega))) | refine J.exit ?_ | refine J.ret ?_ | refine J.skip ?_ | refine J.label ?_ | (with_reducible first | refine then_normal ?_ | refine then_exit ?_ | refine then_ret ?_ | refine block_exit ?_ | refine block_normal ?_ | refine block_ret ?_ | refine block_exit_ne rfl ?_ | refine kI_go rfl ?_) | ((first | (apply t_next; focus ((conv => lhs; whnf); try exact rfl)) | refine t_forceN ?_ | refine t_addN by_o ?_ | refine t_subN by_o ?_ | refine t_mulN by_o ?_ | refine t_quo by_o by_o ?_ | refine t_rem by_o by_o ?_ | refine t_quoN by_o by_o ?_ | refine t_remN by_o ?_ | refine t_addC ?_ | refine t_subC ?_ | refine t_mulC ?_ | refine t_bRt rfl ?_ | refine t_bRf rfl ?_ | refine t_lim (k := 8) (K := 17592186044416) rfl rfl by_o ?_ | refine t_lim (k := 65536) (K := 2147483648) rfl rfl by_o ?_ | refine t_getC rfl ?_ | refine t_getC by_a ?_ | refine t_iRp rfl ?_ | refine t_iR by_o ?_ | refine t_iRn rfl ?_ | refine t_fBt rfl ?_ | refine t_fBf rfl ?_ | refine t_fBt by_s ?_ | refine t_fBf by_s ?_ | refine t_bRt by_u ?_ | refine t_bRf by_u ?_ | refine t_oA rfl ?_ | refine t_oA by_a ?_ | refine t_old by_a by_r ?_ | refine t_readR by_a ?_ | refine t_bRt (encA_one (fun _ => rfl)) ?_ | refine t_call0 (Check_fn _ base hands hP hD) rfl by_g rfl by_k ?_ | refine t_call0 (checkPot_fn _ base hands pot (-1) fr ((n2 : Int) - 1) hg hg2 hle hle2) rfl by_g rfl by_k ?_ | refine t_or2 (fun f' a n c es H => Or_fn f' H) rfl rfl rfl rfl ?_); (conv => lhs; whnf)) | ((first | refine t_fB (fun hq => ?_) (fun hq => ?_) | refine t_bR (fun hq => ?_) (fun hq => ?_)) <;> (try simp only [sbM, reduceCtorEq, frS_iff, frS_no, orE2_z] at hq) <;> (try (have hqt : hq = True.intro := rfl; clear hqt hq)) <;> (try (exact absurd trivial hq)) <;> (try (exfalso; omega)) <;> (conv => lhs; whnf))))
  all_goals first
    | ((refine endG trivial rfl rfl by_g ?_; refine tup2 ?_ ?_ <;> (conv => lhs; whnf)) <;> rfl)
    | (exfalso; exact hne' (by assumption))
theorem Due_fn {a a2 : Option Addr} {n c n2 c2 : Nat} {ps : List Pt} {ds : List Dy} (base hands fr : Int) (k : Nat) (p : Pt) (hP : Pts f a n c ps) (hD : Dys f a2 n2 c2 ds) (hez : levE ps ds base hands k fr ((ds.length : Int) - 1) = 0) (hk : ps[k]? = some p) :
    FnR Try.prog f 5 [.agg ⟨encRun a n c a2 n2 c2 base hands⟩, .int .i64 (k : Int), .int .i64 fr] ⟨.tuple ⟨[.int .i64 (dueF p base ds fr : Nat), .int .i64 0]⟩, []⟩ := by
  have hg := hP.g
  have hg2 := hD.g
  have hle := hP.le
  have hle2 := hD.le
  rw [levE, hP.len, hD.len, orE2_z] at hez
  have hez' := hez
  obtain ⟨h1, h2⟩ := hez
  obtain ⟨_, hn8, ⟨hb, hb1⟩, hpt, hl⟩ := run_ok h1
  have hn8 : n2 ≤ 8 := by rw [← hD.len]; exact hn8.2
  have hp := hpt k p hk
  obtain ⟨_, h3, hf0, hf1⟩ := askE_z.1 h2
  refine fn_J by_g rfl ?_
  (repeat' (first | refine J.seq ?_ | refine JP.one ?_ | refine JP.step ?_ | refine J.block ?_ | refine J.scope ?_ | (refine J.region (fun z => ?_); (conv => lhs; whnf)) | (refine J.cond rfl rfl (fun hq => ?_) (fun hq => ?_) <;> (try simp only [sbM, reduceCtorEq, frS_iff, frS_no, orE2_z] at hq) <;> (try (have hqt : hq = True.intro := rfl; clear hqt hq)) <;> (try (exact absurd trivial hq)) <;> (try (exfalso; omega))) | refine J.exit ?_ | refine J.ret ?_ | refine J.skip ?_ | refine J.label ?_ | (with_reducible first | refine then_normal ?_ | refine then_exit ?_ | refine then_ret ?_ | refine block_exit ?_ | refine block_normal ?_ | refine block_ret ?_ | refine block_exit_ne rfl ?_ | refine kI_go rfl ?_) | ((first | (apply t_next; focus ((conv => lhs; whnf); try exact rfl)) | refine t_forceN ?_ | refine t_addN by_o ?_ | refine t_subN by_o ?_ | refine t_mulN by_o ?_ | refine t_quo by_o by_o ?_ | refine t_rem by_o by_o ?_ | refine t_quoN by_o by_o ?_ | refine t_remN by_o ?_ | refine t_addC ?_ | refine t_subC ?_ | refine t_mulC ?_ | refine t_bRt rfl ?_ | refine t_bRf rfl ?_ | refine t_lim (k := 8) (K := 17592186044416) rfl rfl by_o ?_ | refine t_lim (k := 65536) (K := 2147483648) rfl rfl by_o ?_ | refine t_getC rfl ?_ | refine t_getC by_a ?_ | refine t_iRp rfl ?_ | refine t_iR by_o ?_ | refine t_iRn rfl ?_ | refine t_fBt rfl ?_ | refine t_fBf rfl ?_ | refine t_fBt by_s ?_ | refine t_fBf by_s ?_ | refine t_bRt by_u ?_ | refine t_bRf by_u ?_ | refine t_oA rfl ?_ | refine t_oA by_a ?_ | refine t_old by_a by_r ?_ | refine t_readR by_a ?_ | refine t_bRt (encA_one (fun _ => rfl)) ?_ | refine t_call0 (Check_fn _ base hands hP hD) rfl by_g rfl by_k ?_ | refine t_call0 (checkPot_fn _ base hands (k : Int) (-1) fr ((n2 : Int) - 1) hg hg2 hle hle2) rfl by_g rfl by_k ?_ | refine t_or2 (fun f' a n c es H => Or_fn f' H) rfl rfl rfl rfl ?_ | refine t_call0 (hang_fn _ base hands k p hP hg2 hk) rfl by_g rfl by_g ?_ | refine t_call0 (due_fn _ p base fr hD hp hb hb1 hl hn8 hf0) rfl by_g rfl by_k ?_); (conv => lhs; whnf)) | ((first | refine t_fB (fun hq => ?_) (fun hq => ?_) | refine t_bR (fun hq => ?_) (fun hq => ?_)) <;> (try simp only [sbM, reduceCtorEq, frS_iff, frS_no, orE2_z] at hq) <;> (try (have hqt : hq = True.intro := rfl; clear hqt hq)) <;> (try (exact absurd trivial hq)) <;> (try (exfalso; omega)) <;> (conv => lhs; whnf))))
  all_goals first
    | (exfalso; exact absurd hez' (by assumption))
    | ((refine endG trivial rfl rfl by_g ?_; refine tup2 ?_ ?_ <;> (conv => lhs; whnf)) <;> rfl)
end
end Go.Proofs.Ytpaabfecoghibaa
