/- The reference of layer 3: what comes into a pot, levels. Conditions: as each theorem says. -/
import Derived.Test.YtpaabfecoghibaaGreatPI
import Derived.Test.YtpaabfecoghibaaGreatPE
namespace Go.Proofs.YtpaabfecoghibaaGreat
open Go Go.RowKit
attribute [local irreducible] addC subC mulC quoI remI forceN forceB bR getC iR kI callI rcI oldC oA nextC readR
set_option maxRecDepth 1000000
set_option maxHeartbeats 8000000
set_option linter.unusedVariables false
set_option linter.unusedSimpArgs false
section
variable (f : Nat → Nat → Option Value)
theorem Rresin_fn {a a2 : Option Addr} {n c n2 c2 : Nat} {ps : List Pt} (base hands warm : Int) (k : Nat) (p : Pt) (hP : Pts f a n c ps) (hg2 : grA a2 n2 c2 = true) (hk : ps[k]? = some p) (h0 : 0 ≤ p.flow) (h1 : p.flow ≤ 1000) (hb : 0 ≤ base) (hb1 : base ≤ 500) (hw0 : 0 ≤ warm) (hw : warm ≤ 2000) :
    FnR Tryz.prog f 85 [.agg ⟨encRun a n c a2 n2 c2 base hands⟩, .int .i64 (k : Int), .int .i64 warm] ⟨.int .i64 (resF p.flow base warm), []⟩ := by
  have hm := resF_in h0 h1 hb hw
  have hg := hP.g
  have hlen := hP.len
  have hkl := (List.getElem?_eq_some_iff.1 hk).1
  obtain ⟨b, o, ha, hc⟩ := hP.at' k _ hk
  have hc6 := hc 6 _ rfl
  subst ha
  by_cases hq0 : 0 < warm - base
  · rw [resF, if_pos hq0] at hm
    refine fn_J by_g rfl ?_
    (repeat' (first | refine J.seq ?_ | refine JP.one ?_ | refine JP.step ?_ | refine J.block ?_ | refine J.scope ?_ | (refine J.region (fun z => ?_); (conv => lhs; whnf)) | (refine J.cond rfl rfl (fun hq => ?_) (fun hq => ?_) <;> (try simp only [sbM, reduceCtorEq, frS_iff, frS_no] at hq) <;> (try (have hqt : hq = True.intro := rfl; clear hqt hq)) <;> (try (exact absurd trivial hq)) <;> (try (exfalso; omega))) | refine J.exit ?_ | refine J.ret ?_ | refine J.skip ?_ | refine J.label ?_ | (with_reducible first | refine then_normal ?_ | refine then_exit ?_ | refine then_ret ?_ | refine block_exit ?_ | refine block_normal ?_ | refine block_ret ?_ | refine block_exit_ne rfl ?_ | refine kI_go rfl ?_) | ((first | (apply t_next; focus ((conv => lhs; whnf); try exact rfl)) | refine t_forceN ?_ | refine t_addN by_o ?_ | refine t_subN by_o ?_ | refine t_mulN (by first | omega | (have := hm; omega)) ?_ | refine t_quo (by first | omega | (have := hm; omega)) by_o ?_ | refine t_rem by_o by_o ?_ | refine t_quoN by_o by_o ?_ | refine t_remN by_o ?_ | refine t_addC ?_ | refine t_subC ?_ | refine t_mulC ?_ | refine t_bRt rfl ?_ | refine t_bRf rfl ?_ | refine t_lim (k := 8) (K := 17592186044416) rfl rfl by_o ?_ | refine t_lim (k := 65536) (K := 2147483648) rfl rfl by_o ?_ | refine t_getC rfl ?_ | refine t_getC by_a ?_ | refine t_iRp rfl ?_ | refine t_iR by_o ?_ | refine t_iRn rfl ?_ | refine t_fBt rfl ?_ | refine t_fBf rfl ?_ | refine t_fBt by_s ?_ | refine t_fBf by_s ?_ | refine t_bRt by_u ?_ | refine t_bRf by_u ?_ | refine t_oA rfl ?_ | refine t_oA by_a ?_ | refine t_old by_a by_r ?_ | refine t_readR by_a ?_ | refine t_bRt (encA_one (fun _ => rfl)) ?_); (conv => lhs; whnf)) | ((first | refine t_fB (fun hq => ?_) (fun hq => ?_) | refine t_bR (fun hq => ?_) (fun hq => ?_)) <;> (try simp only [sbM, reduceCtorEq, frS_iff, frS_no] at hq) <;> (try (have hqt : hq = True.intro := rfl; clear hqt hq)) <;> (try (exact absurd trivial hq)) <;> (try (exfalso; omega)) <;> (conv => lhs; whnf))))
    (refine endG trivial rfl rfl by_g ?_; (conv => lhs; whnf)); rw [resF, if_pos hq0]
  · refine fn_J by_g rfl ?_
    (repeat' (first | refine J.seq ?_ | refine JP.one ?_ | refine JP.step ?_ | refine J.block ?_ | refine J.scope ?_ | (refine J.region (fun z => ?_); (conv => lhs; whnf)) | (refine J.cond rfl rfl (fun hq => ?_) (fun hq => ?_) <;> (try simp only [sbM, reduceCtorEq, frS_iff, frS_no] at hq) <;> (try (have hqt : hq = True.intro := rfl; clear hqt hq)) <;> (try (exact absurd trivial hq)) <;> (try (exfalso; omega))) | refine J.exit ?_ | refine J.ret ?_ | refine J.skip ?_ | refine J.label ?_ | (with_reducible first | refine then_normal ?_ | refine then_exit ?_ | refine then_ret ?_ | refine block_exit ?_ | refine block_normal ?_ | refine block_ret ?_ | refine block_exit_ne rfl ?_ | refine kI_go rfl ?_) | ((first | (apply t_next; focus ((conv => lhs; whnf); try exact rfl)) | refine t_forceN ?_ | refine t_addN by_o ?_ | refine t_subN by_o ?_ | refine t_mulN (by first | omega | (have := hm; omega)) ?_ | refine t_quo (by first | omega | (have := hm; omega)) by_o ?_ | refine t_rem by_o by_o ?_ | refine t_quoN by_o by_o ?_ | refine t_remN by_o ?_ | refine t_addC ?_ | refine t_subC ?_ | refine t_mulC ?_ | refine t_bRt rfl ?_ | refine t_bRf rfl ?_ | refine t_lim (k := 8) (K := 17592186044416) rfl rfl by_o ?_ | refine t_lim (k := 65536) (K := 2147483648) rfl rfl by_o ?_ | refine t_getC rfl ?_ | refine t_getC by_a ?_ | refine t_iRp rfl ?_ | refine t_iR by_o ?_ | refine t_iRn rfl ?_ | refine t_fBt rfl ?_ | refine t_fBf rfl ?_ | refine t_fBt by_s ?_ | refine t_fBf by_s ?_ | refine t_bRt by_u ?_ | refine t_bRf by_u ?_ | refine t_oA rfl ?_ | refine t_oA by_a ?_ | refine t_old by_a by_r ?_ | refine t_readR by_a ?_ | refine t_bRt (encA_one (fun _ => rfl)) ?_); (conv => lhs; whnf)) | ((first | refine t_fB (fun hq => ?_) (fun hq => ?_) | refine t_bR (fun hq => ?_) (fun hq => ?_)) <;> (try simp only [sbM, reduceCtorEq, frS_iff, frS_no] at hq) <;> (try (have hqt : hq = True.intro := rfl; clear hqt hq)) <;> (try (exact absurd trivial hq)) <;> (try (exfalso; omega)) <;> (conv => lhs; whnf))))
    all_goals ((refine endG trivial rfl rfl by_g ?_; (conv => lhs; whnf)); rw [resF, if_neg hq0])
theorem Rwater_fn {a a2 : Option Addr} {n c n2 c2 : Nat} {ps : List Pt} (base hands rain : Int) (k : Nat) (p : Pt) (hP : Pts f a n c ps) (hg2 : grA a2 n2 c2 = true) (hk : ps[k]? = some p) (h0 : 0 ≤ p.catc) (h1 : p.catc ≤ 1000) (hr : 0 ≤ rain) (hr1 : rain ≤ 2000) :
    FnR Tryz.prog f 86 [.agg ⟨encRun a n c a2 n2 c2 base hands⟩, .int .i64 (k : Int), .int .i64 rain] ⟨.int .i64 (p.catc * rain), []⟩ := by
  have hm := watF_in h0 h1 hr hr1
  have hg := hP.g
  have hlen := hP.len
  have hkl := (List.getElem?_eq_some_iff.1 hk).1
  obtain ⟨b, o, ha, hc⟩ := hP.at' k _ hk
  have hc7 := hc 7 _ rfl
  subst ha
  refine fn_J by_g rfl ?_
  (repeat' (first | refine J.seq ?_ | refine JP.one ?_ | refine JP.step ?_ | refine J.block ?_ | refine J.scope ?_ | (refine J.region (fun z => ?_); (conv => lhs; whnf)) | (refine J.cond rfl rfl (fun hq => ?_) (fun hq => ?_) <;> (try simp only [sbM, reduceCtorEq, frS_iff, frS_no] at hq) <;> (try (have hqt : hq = True.intro := rfl; clear hqt hq)) <;> (try (exact absurd trivial hq)) <;> (try (exfalso; omega))) | refine J.exit ?_ | refine J.ret ?_ | refine J.skip ?_ | refine J.label ?_ | (with_reducible first | refine then_normal ?_ | refine then_exit ?_ | refine then_ret ?_ | refine block_exit ?_ | refine block_normal ?_ | refine block_ret ?_ | refine block_exit_ne rfl ?_ | refine kI_go rfl ?_) | ((first | (apply t_next; focus ((conv => lhs; whnf); try exact rfl)) | refine t_forceN ?_ | refine t_addN by_o ?_ | refine t_subN by_o ?_ | refine t_mulN (by first | omega | (have := hm; omega)) ?_ | refine t_quo (by first | omega | (have := hm; omega)) by_o ?_ | refine t_rem by_o by_o ?_ | refine t_quoN by_o by_o ?_ | refine t_remN by_o ?_ | refine t_addC ?_ | refine t_subC ?_ | refine t_mulC ?_ | refine t_bRt rfl ?_ | refine t_bRf rfl ?_ | refine t_lim (k := 8) (K := 17592186044416) rfl rfl by_o ?_ | refine t_lim (k := 65536) (K := 2147483648) rfl rfl by_o ?_ | refine t_getC rfl ?_ | refine t_getC by_a ?_ | refine t_iRp rfl ?_ | refine t_iR by_o ?_ | refine t_iRn rfl ?_ | refine t_fBt rfl ?_ | refine t_fBf rfl ?_ | refine t_fBt by_s ?_ | refine t_fBf by_s ?_ | refine t_bRt by_u ?_ | refine t_bRf by_u ?_ | refine t_oA rfl ?_ | refine t_oA by_a ?_ | refine t_old by_a by_r ?_ | refine t_readR by_a ?_ | refine t_bRt (encA_one (fun _ => rfl)) ?_); (conv => lhs; whnf)) | ((first | refine t_fB (fun hq => ?_) (fun hq => ?_) | refine t_bR (fun hq => ?_) (fun hq => ?_)) <;> (try simp only [sbM, reduceCtorEq, frS_iff, frS_no] at hq) <;> (try (have hqt : hq = True.intro := rfl; clear hqt hq)) <;> (try (exact absurd trivial hq)) <;> (try (exfalso; omega)) <;> (conv => lhs; whnf))))
  (refine endG trivial rfl rfl by_g ?_; (conv => lhs; whnf))
theorem Rleast_fn {a a2 : Option Addr} {n c n2 c2 : Nat} {ps : List Pt} {ds : List Dy} (base hands : Int) (k i : Nat) (p : Pt) (d : Dy) (hP : Pts f a n c ps) (hD : Dys f a2 n2 c2 ds) (hk : ps[k]? = some p) (hi : ds[i]? = some d) (hp : PtOk p) (hb : 0 ≤ base) (hb1 : base ≤ 500) (hd : DyOk d) :
    FnR Tryz.prog f 62 [.agg ⟨encRun a n c a2 n2 c2 base hands⟩, .int .i64 (k : Int), .int .i64 (i : Int)] ⟨.int .i64 (gainF true p base d), []⟩ := by
  have hg := hP.g
  have hg2 := hD.g
  have hlen2 := hD.len
  have hil := (List.getElem?_eq_some_iff.1 hi).1
  obtain ⟨w0, w1, w2, r0, r1, r2⟩ := hd
  have a1 := resF_in (warm := d.wl) hp.f0 hp.f1 hb (by omega)
  have a2' := watF_in (rain := d.rl) hp.c0 hp.c1 (by omega) (by omega)
  obtain ⟨b, o, ha, hc⟩ := hD.at' i _ hi
  have hc0 := hc 0 _ rfl
  have hc2 := hc 2 _ rfl
  subst ha
  refine fn_J by_g rfl ?_
  (repeat' (first | refine J.seq ?_ | refine JP.one ?_ | refine JP.step ?_ | refine J.block ?_ | refine J.scope ?_ | (refine J.region (fun z => ?_); (conv => lhs; whnf)) | (refine J.cond rfl rfl (fun hq => ?_) (fun hq => ?_) <;> (try simp only [sbM, reduceCtorEq, frS_iff, frS_no] at hq) <;> (try (have hqt : hq = True.intro := rfl; clear hqt hq)) <;> (try (exact absurd trivial hq)) <;> (try (exfalso; omega))) | refine J.exit ?_ | refine J.ret ?_ | refine J.skip ?_ | refine J.label ?_ | (with_reducible first | refine then_normal ?_ | refine then_exit ?_ | refine then_ret ?_ | refine block_exit ?_ | refine block_normal ?_ | refine block_ret ?_ | refine block_exit_ne rfl ?_ | refine kI_go rfl ?_) | ((first | (apply t_next; focus ((conv => lhs; whnf); try exact rfl)) | refine t_forceN ?_ | refine t_addN by_o ?_ | refine t_subN by_o ?_ | refine t_mulN (by first | omega | (have := hm; omega)) ?_ | refine t_quo (by first | omega | (have := hm; omega)) by_o ?_ | refine t_rem by_o by_o ?_ | refine t_quoN by_o by_o ?_ | refine t_remN by_o ?_ | refine t_addC ?_ | refine t_subC ?_ | refine t_mulC ?_ | refine t_bRt rfl ?_ | refine t_bRf rfl ?_ | refine t_lim (k := 8) (K := 17592186044416) rfl rfl by_o ?_ | refine t_lim (k := 65536) (K := 2147483648) rfl rfl by_o ?_ | refine t_getC rfl ?_ | refine t_getC by_a ?_ | refine t_iRp rfl ?_ | refine t_iR by_o ?_ | refine t_iRn rfl ?_ | refine t_fBt rfl ?_ | refine t_fBf rfl ?_ | refine t_fBt by_s ?_ | refine t_fBf by_s ?_ | refine t_bRt by_u ?_ | refine t_bRf by_u ?_ | refine t_oA rfl ?_ | refine t_oA by_a ?_ | refine t_old by_a by_r ?_ | refine t_readR by_a ?_ | refine t_bRt (encA_one (fun _ => rfl)) ?_ | refine t_call0 (Rresin_fn _ base hands d.wl k p hP hg2 hk hp.f0 hp.f1 hb hb1 (by omega) (by omega)) rfl by_g rfl by_k ?_ | refine t_call0 (Rwater_fn _ base hands d.rl k p hP hg2 hk hp.c0 hp.c1 (by omega) (by omega)) rfl by_g rfl by_k ?_); (conv => lhs; whnf)) | ((first | refine t_fB (fun hq => ?_) (fun hq => ?_) | refine t_bR (fun hq => ?_) (fun hq => ?_)) <;> (try simp only [sbM, reduceCtorEq, frS_iff, frS_no] at hq) <;> (try (have hqt : hq = True.intro := rfl; clear hqt hq)) <;> (try (exact absurd trivial hq)) <;> (try (exfalso; omega)) <;> (conv => lhs; whnf))))
  (refine endG trivial rfl rfl by_g ?_; (conv => lhs; whnf))
  rfl
theorem Rmost_fn {a a2 : Option Addr} {n c n2 c2 : Nat} {ps : List Pt} {ds : List Dy} (base hands : Int) (k i : Nat) (p : Pt) (d : Dy) (hP : Pts f a n c ps) (hD : Dys f a2 n2 c2 ds) (hk : ps[k]? = some p) (hi : ds[i]? = some d) (hp : PtOk p) (hb : 0 ≤ base) (hb1 : base ≤ 500) (hd : DyOk d) :
    FnR Tryz.prog f 63 [.agg ⟨encRun a n c a2 n2 c2 base hands⟩, .int .i64 (k : Int), .int .i64 (i : Int)] ⟨.int .i64 (gainF false p base d), []⟩ := by
  have hg := hP.g
  have hg2 := hD.g
  have hlen2 := hD.len
  have hil := (List.getElem?_eq_some_iff.1 hi).1
  obtain ⟨w0, w1, w2, r0, r1, r2⟩ := hd
  have a1 := resF_in (warm := d.wh) hp.f0 hp.f1 hb (by omega)
  have a2' := watF_in (rain := d.rh) hp.c0 hp.c1 (by omega) (by omega)
  obtain ⟨b, o, ha, hc⟩ := hD.at' i _ hi
  have hc1 := hc 1 _ rfl
  have hc3 := hc 3 _ rfl
  subst ha
  refine fn_J by_g rfl ?_
  (repeat' (first | refine J.seq ?_ | refine JP.one ?_ | refine JP.step ?_ | refine J.block ?_ | refine J.scope ?_ | (refine J.region (fun z => ?_); (conv => lhs; whnf)) | (refine J.cond rfl rfl (fun hq => ?_) (fun hq => ?_) <;> (try simp only [sbM, reduceCtorEq, frS_iff, frS_no] at hq) <;> (try (have hqt : hq = True.intro := rfl; clear hqt hq)) <;> (try (exact absurd trivial hq)) <;> (try (exfalso; omega))) | refine J.exit ?_ | refine J.ret ?_ | refine J.skip ?_ | refine J.label ?_ | (with_reducible first | refine then_normal ?_ | refine then_exit ?_ | refine then_ret ?_ | refine block_exit ?_ | refine block_normal ?_ | refine block_ret ?_ | refine block_exit_ne rfl ?_ | refine kI_go rfl ?_) | ((first | (apply t_next; focus ((conv => lhs; whnf); try exact rfl)) | refine t_forceN ?_ | refine t_addN by_o ?_ | refine t_subN by_o ?_ | refine t_mulN (by first | omega | (have := hm; omega)) ?_ | refine t_quo (by first | omega | (have := hm; omega)) by_o ?_ | refine t_rem by_o by_o ?_ | refine t_quoN by_o by_o ?_ | refine t_remN by_o ?_ | refine t_addC ?_ | refine t_subC ?_ | refine t_mulC ?_ | refine t_bRt rfl ?_ | refine t_bRf rfl ?_ | refine t_lim (k := 8) (K := 17592186044416) rfl rfl by_o ?_ | refine t_lim (k := 65536) (K := 2147483648) rfl rfl by_o ?_ | refine t_getC rfl ?_ | refine t_getC by_a ?_ | refine t_iRp rfl ?_ | refine t_iR by_o ?_ | refine t_iRn rfl ?_ | refine t_fBt rfl ?_ | refine t_fBf rfl ?_ | refine t_fBt by_s ?_ | refine t_fBf by_s ?_ | refine t_bRt by_u ?_ | refine t_bRf by_u ?_ | refine t_oA rfl ?_ | refine t_oA by_a ?_ | refine t_old by_a by_r ?_ | refine t_readR by_a ?_ | refine t_bRt (encA_one (fun _ => rfl)) ?_ | refine t_call0 (Rresin_fn _ base hands d.wh k p hP hg2 hk hp.f0 hp.f1 hb hb1 (by omega) (by omega)) rfl by_g rfl by_k ?_ | refine t_call0 (Rwater_fn _ base hands d.rh k p hP hg2 hk hp.c0 hp.c1 (by omega) (by omega)) rfl by_g rfl by_k ?_); (conv => lhs; whnf)) | ((first | refine t_fB (fun hq => ?_) (fun hq => ?_) | refine t_bR (fun hq => ?_) (fun hq => ?_)) <;> (try simp only [sbM, reduceCtorEq, frS_iff, frS_no] at hq) <;> (try (have hqt : hq = True.intro := rfl; clear hqt hq)) <;> (try (exact absurd trivial hq)) <;> (try (exfalso; omega)) <;> (conv => lhs; whnf))))
  (refine endG trivial rfl rfl by_g ?_; (conv => lhs; whnf))
  rfl
theorem Rasked_fn {a a2 : Option Addr} {n c n2 c2 : Nat} {ps : List Pt} {ds : List Dy} (base hands pot fr least to : Int) (hP : Pts f a n c ps) (hD : Dys f a2 n2 c2 ds) :
    FnR Tryz.prog f 32 [.agg ⟨encRun a n c a2 n2 c2 base hands⟩, .int .i64 pot, .int .i64 fr, .int .i64 least, .int .i64 to] ⟨.int .i64 (orE [potsE ps ds base hands, askE ps.length ds.length pot least fr to]), []⟩ := by
  have hg := hP.g
  have hg2 := hD.g
  have hle := hP.le
  have hle2 := hD.le
  rw [hP.len, hD.len]
  refine fn_J by_g rfl ?_
  (repeat' (first | refine J.seq ?_ | refine JP.one ?_ | refine JP.step ?_ | refine J.block ?_ | refine J.scope ?_ | (refine J.region (fun z => ?_); (conv => lhs; whnf)) | (refine J.cond rfl rfl (fun hq => ?_) (fun hq => ?_) <;> (try simp only [sbM, reduceCtorEq, frS_iff, frS_no] at hq) <;> (try (have hqt : hq = True.intro := rfl; clear hqt hq)) <;> (try (exact absurd trivial hq)) <;> (try (exfalso; omega))) | refine J.exit ?_ | refine J.ret ?_ | refine J.skip ?_ | refine J.label ?_ | (with_reducible first | refine then_normal ?_ | refine then_exit ?_ | refine then_ret ?_ | refine block_exit ?_ | refine block_normal ?_ | refine block_ret ?_ | refine block_exit_ne rfl ?_ | refine kI_go rfl ?_) | ((first | (apply t_next; focus ((conv => lhs; whnf); try exact rfl)) | refine t_forceN ?_ | refine t_addN by_o ?_ | refine t_subN by_o ?_ | refine t_mulN (by first | omega | (have := hm; omega)) ?_ | refine t_quo (by first | omega | (have := hm; omega)) by_o ?_ | refine t_rem by_o by_o ?_ | refine t_quoN by_o by_o ?_ | refine t_remN by_o ?_ | refine t_addC ?_ | refine t_subC ?_ | refine t_mulC ?_ | refine t_bRt rfl ?_ | refine t_bRf rfl ?_ | refine t_lim (k := 8) (K := 17592186044416) rfl rfl by_o ?_ | refine t_lim (k := 65536) (K := 2147483648) rfl rfl by_o ?_ | refine t_getC rfl ?_ | refine t_getC by_a ?_ | refine t_iRp rfl ?_ | refine t_iR by_o ?_ | refine t_iRn rfl ?_ | refine t_fBt rfl ?_ | refine t_fBf rfl ?_ | refine t_fBt by_s ?_ | refine t_fBf by_s ?_ | refine t_bRt by_u ?_ | refine t_bRf by_u ?_ | refine t_oA rfl ?_ | refine t_oA by_a ?_ | refine t_old by_a by_r ?_ | refine t_readR by_a ?_ | refine t_bRt (encA_one (fun _ => rfl)) ?_ | refine t_call0 (RCheck_fn _ base hands hP hD) rfl by_g rfl by_k ?_); (conv => lhs; whnf)) | ((first | refine t_fB (fun hq => ?_) (fun hq => ?_) | refine t_bR (fun hq => ?_) (fun hq => ?_) | (first | refine t_callB (In_fn _ _ _ _) rfl by_g rfl (fun hq => ?_) (fun hq => ?_))) <;> (try simp only [sbM, reduceCtorEq, frS_iff, frS_no] at hq) <;> (try (have hqt : hq = True.intro := rfl; clear hqt hq)) <;> (try (exact absurd trivial hq)) <;> (try (exfalso; omega)) <;> (conv => lhs; whnf))))
  all_goals first
    | ((refine endG trivial rfl rfl by_g ?_; (conv => lhs; whnf)); rw [orE2_err _ _ (by assumption)])
    | ((refine endG trivial rfl rfl by_g ?_; (conv => lhs; whnf)); rw [show potsE ps ds base hands = 0 by assumption, orE2_ok, askE_z.2 ⟨by omega, by omega, by omega⟩])
    | ((refine endG trivial rfl rfl by_g ?_; (conv => lhs; whnf)); rw [show potsE ps ds base hands = 0 by assumption, orE2_ok, askE_no (by omega)])
end
end Go.Proofs.YtpaabfecoghibaaGreat
