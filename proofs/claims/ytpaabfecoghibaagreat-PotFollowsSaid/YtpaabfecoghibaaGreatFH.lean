/- The reference of layer 3: what a pot yields. Conditions: as each theorem says. -/
import Derived.Test.YtpaabfecoghibaaGreatFF
import Derived.Test.YtpaabfecoghibaaGreatPJ
namespace Go.Proofs.YtpaabfecoghibaaGreat
open Go Go.RowKit
attribute [local irreducible] addC subC mulC quoI remI forceN forceB bR getC iR kI callI rcI oldC oA nextC readR
set_option maxRecDepth 1000000
set_option maxHeartbeats 8000000
set_option linter.unusedVariables false
set_option linter.unusedSimpArgs false
section
variable (f : Nat → Nat → Option Value)
theorem Ryield_fn {a a2 a3 aw ar ah : Option Addr} {n c n2 c2 n3 c3 nw cw nr cr nh ch : Nat} {ps : List Pt} {ds : List Dy} {W R H : List Int} {rs : List Rd} (base hands has : Int) (k : Nat) (p : Pt) (hP : Pts f a n c ps) (hD : Dys f a2 n2 c2 ds) (hk : ps[k]? = some p)
    (hW : Ints f aw nw cw W) (hR : Ints f ar nr cr R) (hH : Ints f ah nh ch H) (hT : TrIn W R ds.length) (hv : H[k]? = some has) (hh : 0 ≤ has ∧ has ≤ 10000000) (hRd : Rds f a3 n3 c3 rs) (h3 : rs.length = ds.length) (hp : PtOk p) (hs : 1 ≤ p.size ∧ p.size ≤ 10000000) (hb : 0 ≤ base) (hb1 : base ≤ 500) (hn8 : n2 ≤ 8) :
    FnR Tryz.prog f 52 [.agg ⟨encRun a n c a2 n2 c2 base hands⟩, .int .i64 (k : Int), .agg ⟨encTr aw nw cw ar nr cr ah nh ch⟩, .slice a3 n3 c3] ⟨.agg ⟨encCt (yF p base W R has rs k n2)⟩, []⟩ := by
  have hg := hP.g
  have hlenP := hP.len
  have hkl := (List.getElem?_eq_some_iff.1 hk).1
  obtain ⟨bp, op, hap, hcp⟩ := hP.at' k _ hk
  have hc3 := hcp 3 _ rfl
  clear hcp
  obtain ⟨hg2, hlen2, hnc2, hle2, hat2⟩ := hD
  obtain ⟨hgw, hlenw, hncw, hlew, hatw⟩ := hW
  obtain ⟨hgr, hlenr, hncr, hler, hatr⟩ := hR
  obtain ⟨hgh, hlenh, hnch, hleh, hath⟩ := hH
  obtain ⟨⟨hg3, hlen3, hnc3, hle3, hat3⟩, hin'⟩ := hRd
  have hTw := hT.lw
  have hTr := hT.lr
  have hkh := (List.getElem?_eq_some_iff.1 hv).1
  obtain ⟨bh, oh, hah, hch⟩ := hath k _ hv
  have hch0 := hch 0 _ rfl
  subst hah hap
  clear hath hch
  refine fn_J by_g rfl ?_
  (repeat' (first | refine J.seq ?_ | refine JP.one ?_ | refine JP.step ?_ | refine J.block ?_ | refine J.scope ?_ | (refine J.region (fun z => ?_); (conv => lhs; whnf)) | (refine J.cond rfl rfl (fun hq => ?_) (fun hq => ?_) <;> (try simp only [sbM, reduceCtorEq, frS_iff, frS_no] at hq) <;> (try (have hqt : hq = True.intro := rfl; clear hqt hq)) <;> (try (exact absurd trivial hq)) <;> (try (exfalso; omega))) | refine J.exit ?_ | refine J.ret ?_ | refine J.skip ?_ | refine J.label ?_ | (with_reducible first | refine then_normal ?_ | refine then_exit ?_ | refine then_ret ?_ | refine block_exit ?_ | refine block_normal ?_ | refine block_ret ?_ | refine block_exit_ne rfl ?_ | refine kI_go rfl ?_) | ((first | (apply t_next; focus ((conv => lhs; whnf); try exact rfl)) | refine t_forceN ?_ | refine t_addN by_o ?_ | refine t_subN by_o ?_ | refine t_mulN by_o ?_ | refine t_quo by_o by_o ?_ | refine t_rem by_o by_o ?_ | refine t_quoN by_o by_o ?_ | refine t_remN by_o ?_ | refine t_addC ?_ | refine t_subC ?_ | refine t_mulC ?_ | refine t_bRt rfl ?_ | refine t_bRf rfl ?_ | refine t_lim (k := 8) (K := 17592186044416) rfl rfl by_o ?_ | refine t_lim (k := 65536) (K := 2147483648) rfl rfl by_o ?_ | refine t_getC rfl ?_ | refine t_getC by_a ?_ | refine t_iRp rfl ?_ | refine t_iR by_o ?_ | refine t_iRn rfl ?_ | refine t_fBt rfl ?_ | refine t_fBf rfl ?_ | refine t_fBt by_s ?_ | refine t_fBf by_s ?_ | refine t_bRt by_u ?_ | refine t_bRf by_u ?_ | refine t_oA rfl ?_ | refine t_oA by_a ?_ | refine t_old by_a by_r ?_ | refine t_readR by_a ?_ | refine t_bRt (encA_one (fun _ => rfl)) ?_ | refine t_call0 (At_fn _ (k : Int) hI) rfl by_g rfl by_k ?_ | refine t_call0 (Rresin_fn _ base hands w k p hP hg2 hk hp.f0 hp.f1 hb hb1 (by omega) (by omega)) rfl by_g rfl by_k ?_ | refine t_call0 (Rwater_fn _ base hands rn k p hP hg2 hk hp.c0 hp.c1 (by omega) (by omega)) rfl by_g rfl by_k ?_); (conv => lhs; whnf)) | ((first | refine t_fB (fun hq => ?_) (fun hq => ?_) | refine t_bR (fun hq => ?_) (fun hq => ?_)) <;> (try simp only [sbM, reduceCtorEq, frS_iff, frS_no] at hq) <;> (try (have hqt : hq = True.intro := rfl; clear hqt hq)) <;> (try (exact absurd trivial hq)) <;> (try (exfalso; omega)) <;> (conv => lhs; whnf))))
  refine J.loop (LJ.ind (fun d : Nat => [none, some (.int .i64 (k : Int)), none, some (.slice a3 n3 c3), some (.pointer (some ⟨0, 0, some 0⟩)), none, some (.pointer (some ⟨1, 0, some 0⟩)), none, some (.pointer (some ⟨2, 0, some 0⟩)), some (.pointer (some ⟨3, 0, some 0⟩)), some (.int .i64 (d : Int)), none, none, none, none, none, none, none, none, none, none, none, none, none, none, none, none, none, none, none, none, none, none, none, none, none, none, none, none, none, none, none, none, none, none, none, none, none, none, none, none, none, none, none, none, none, none, none, none, none, none, none, none, none, none, none, none, none, none, none, none, none, none, none, none, none, none, none, none, none, none, none, none, none, none, none, none, none, none, none, none, none, none, none, none, none, none, none, none, none, none, none, none, none, none, none, none, none, none, none, none, none, none]) (fun d => [(25, encRun (some ⟨bp, op, none⟩) n c a2 n2 c2 base hands), (39, encTr aw nw cw ar nr cr (some ⟨bh, oh, none⟩) nh ch), (58, [.int .i64 0, .int .i64 0, .int .i64 0, .int .i64 0, .int .i64 0, .int .i64 0]), (58, encCt (yF p base W R has rs k d))]) (fun d => d ≤ n2) (fun d => n2 - d) 0 [0, 1, 2, 3] (Nat.zero_le _) rfl (by exact ⟨_, _, _, rfl, rfl, SimL.of_eq rfl by_g, nin rfl, _, _, _, rfl, rfl, SimL.of_eq rfl by_g, nin rfl, _, _, _, rfl, rfl, SimL.of_eq rfl by_g, nin rfl, _, _, _, rfl, rfl, SimL.of_eq rfl by_g, nin rfl, trivial⟩) (by exact by_s0) ?_)
  rintro d hd vs ⟨xs, gx, rfl⟩ IH
  have hC := yF_in (k := (k : Int)) (rs := rs) hp (by omega) hb hT hh d (by omega)
  by_cases hin : d < n2
  · obtain ⟨⟨ra, rn', rc, rl⟩, hx⟩ : ∃ r, rs[d]? = some r := ⟨_, List.getElem?_eq_getElem (by omega)⟩
    obtain ⟨w, hw⟩ : ∃ w, W[d]? = some w := ⟨_, List.getElem?_eq_getElem (by omega)⟩
    obtain ⟨rn, hr⟩ : ∃ r, R[d]? = some r := ⟨_, List.getElem?_eq_getElem (by omega)⟩
    have hwi := hT.w d w hw
    have hri := hT.r d rn hr
    have hI : Ints f ra rn' rc rl := hin' _ (List.mem_of_getElem? hx)
    have hgI := hI.g
    have hgv := gr_ints hI
    obtain ⟨b, o, ha, hc⟩ := hat3 d _ hx
    have hc0 : f b (o + d * 1 + 0) = some (.slice ra rn' rc) := hc 0 _ rfl
    obtain ⟨bw, ow, haw, hcw⟩ := hatw d _ hw
    have hcw0 := hcw 0 _ rfl
    obtain ⟨br, or', har, hcr⟩ := hatr d _ hr
    have hcr0 := hcr 0 _ rfl
    have hst : yF p base W R has rs k (d + 1) = stepC p.size (inB rl k) (resF p.flow base w) (p.catc * rn) (yF p base W R has rs k d) := by
      rw [yF, emB_at hx, List.getD_eq_getElem?_getD, List.getD_eq_getElem?_getD, hw, hr]; rfl
    have hgb := resF_in (warm := w) hp.f0 hp.f1 hb (by omega)
    have hwb := watF_in (rain := rn) hp.c0 hp.c1 hri.1 hri.2
    have hem1 : 0 ≤ atF rl k → inB rl k = true := atF_ge.1
    have hem2 : atF rl k < 0 → inB rl k = false := atF_lt.1
    subst ha haw har
    clear hat2 hatw hatr hat3 hc hcw hcr
    generalize yF p base W R has rs k d = cc at *
    obtain ⟨c1, c2', c3', c4, c5, c6⟩ := cc
    unfold CtIn at hC
    dsimp only at hC
    (repeat' (first | refine J.seq ?_ | refine JP.one ?_ | refine JP.step ?_ | refine J.block ?_ | refine J.scope ?_ | (refine J.region (fun z => ?_); (conv => lhs; whnf)) | (refine J.cond rfl rfl (fun hq => ?_) (fun hq => ?_) <;> (try simp only [sbM, reduceCtorEq, frS_iff, frS_no] at hq) <;> (try (have hqt : hq = True.intro := rfl; clear hqt hq)) <;> (try (exact absurd trivial hq)) <;> (try (exfalso; omega))) | refine J.exit ?_ | refine J.ret ?_ | refine J.skip ?_ | refine J.label ?_ | (with_reducible first | refine then_normal ?_ | refine then_exit ?_ | refine then_ret ?_ | refine block_exit ?_ | refine block_normal ?_ | refine block_ret ?_ | refine block_exit_ne rfl ?_ | refine kI_go rfl ?_) | ((first | (apply t_next; focus ((conv => lhs; whnf); try exact rfl)) | refine t_forceN ?_ | refine t_addN by_o ?_ | refine t_subN by_o ?_ | refine t_mulN by_o ?_ | refine t_quo by_o by_o ?_ | refine t_rem by_o by_o ?_ | refine t_quoN by_o by_o ?_ | refine t_remN by_o ?_ | refine t_addC ?_ | refine t_subC ?_ | refine t_mulC ?_ | refine t_bRt rfl ?_ | refine t_bRf rfl ?_ | refine t_lim (k := 8) (K := 17592186044416) rfl rfl by_o ?_ | refine t_lim (k := 65536) (K := 2147483648) rfl rfl by_o ?_ | refine t_getC rfl ?_ | refine t_getC by_a ?_ | refine t_iRp rfl ?_ | refine t_iR by_o ?_ | refine t_iRn rfl ?_ | refine t_fBt rfl ?_ | refine t_fBf rfl ?_ | refine t_fBt by_s ?_ | refine t_fBf by_s ?_ | refine t_bRt by_u ?_ | refine t_bRf by_u ?_ | refine t_oA rfl ?_ | refine t_oA by_a ?_ | refine t_old by_a by_r ?_ | refine t_readR by_a ?_ | refine t_bRt (encA_one (fun _ => rfl)) ?_ | refine t_call0 (At_fn _ (k : Int) hI) rfl by_g rfl by_k ?_ | refine t_call0 (Rresin_fn _ base hands w k p hP hg2 hk hp.f0 hp.f1 hb hb1 (by omega) (by omega)) rfl by_g rfl by_k ?_ | refine t_call0 (Rwater_fn _ base hands rn k p hP hg2 hk hp.c0 hp.c1 (by omega) (by omega)) rfl by_g rfl by_k ?_); (conv => lhs; whnf)) | ((first | refine t_fB (fun hq => ?_) (fun hq => ?_) | refine t_bR (fun hq => ?_) (fun hq => ?_)) <;> (try simp only [sbM, reduceCtorEq, frS_iff, frS_no] at hq) <;> (try (have hqt : hq = True.intro := rfl; clear hqt hq)) <;> (try (exact absurd trivial hq)) <;> (try (exfalso; omega)) <;> (conv => lhs; whnf))))
    all_goals first
      | (rw [hem1 (by omega)] at hst
         simp only [stepC, if_true] at hst
         refine LJ.ren _ [(25, encRun (some ⟨bp, op, none⟩) n c a2 n2 c2 base hands), (39, encTr (some ⟨bw, ow, none⟩) nw cw (some ⟨br, or', none⟩) nr cr (some ⟨bh, oh, none⟩) nh ch), (58, [.int .i64 0, .int .i64 0, .int .i64 0, .int .i64 0, .int .i64 0, .int .i64 0]), (58, encCt (yF p base W R has rs k (d + 1)))] [0, 1, 2, 3] rfl (by exact ⟨_, _, _, rfl, rfl, SimL.of_eq rfl by_g, nin rfl, _, _, _, rfl, rfl, SimL.of_eq rfl by_g, nin rfl, _, _, _, rfl, rfl, SimL.of_eq rfl by_g, nin rfl, _, _, _, rfl, rfl, SimL.of_eq (by rw [hst]; exact cells6 (by first | rfl | (simp only [fillC, emptC, wetF, lostF]; omega) | (dsimp only [fillC, emptC])) (by first | rfl | (simp only [fillC, emptC, wetF, lostF]; omega) | (dsimp only [fillC, emptC])) (by first | rfl | (simp only [fillC, emptC, wetF, lostF]; omega) | (dsimp only [fillC, emptC])) (by first | rfl | (simp only [fillC, emptC, wetF, lostF]; omega) | (dsimp only [fillC, emptC])) (by first | rfl | (simp only [fillC, emptC, wetF, lostF]; omega) | (dsimp only [fillC, emptC])) (by first | rfl | (simp only [fillC, emptC, wetF, lostF]; omega) | (dsimp only [fillC, emptC]))) by_g, nin rfl, trivial⟩) (by exact by_sb) (IH (d + 1) (by omega) (by omega)))
      | (rw [hem2 (by omega)] at hst
         simp only [stepC, Bool.false_eq_true, if_false] at hst
         refine LJ.ren _ [(25, encRun (some ⟨bp, op, none⟩) n c a2 n2 c2 base hands), (39, encTr (some ⟨bw, ow, none⟩) nw cw (some ⟨br, or', none⟩) nr cr (some ⟨bh, oh, none⟩) nh ch), (58, [.int .i64 0, .int .i64 0, .int .i64 0, .int .i64 0, .int .i64 0, .int .i64 0]), (58, encCt (yF p base W R has rs k (d + 1)))] [0, 1, 2, 3] rfl (by exact ⟨_, _, _, rfl, rfl, SimL.of_eq rfl by_g, nin rfl, _, _, _, rfl, rfl, SimL.of_eq rfl by_g, nin rfl, _, _, _, rfl, rfl, SimL.of_eq rfl by_g, nin rfl, _, _, _, rfl, rfl, SimL.of_eq (by rw [hst]; exact cells6 (by first | rfl | (simp only [fillC, emptC, wetF, lostF]; omega) | (dsimp only [fillC, emptC])) (by first | rfl | (simp only [fillC, emptC, wetF, lostF]; omega) | (dsimp only [fillC, emptC])) (by first | rfl | (simp only [fillC, emptC, wetF, lostF]; omega) | (dsimp only [fillC, emptC])) (by first | rfl | (simp only [fillC, emptC, wetF, lostF]; omega) | (dsimp only [fillC, emptC])) (by first | rfl | (simp only [fillC, emptC, wetF, lostF]; omega) | (dsimp only [fillC, emptC])) (by first | rfl | (simp only [fillC, emptC, wetF, lostF]; omega) | (dsimp only [fillC, emptC]))) by_g, nin rfl, trivial⟩) (by exact by_sb) (IH (d + 1) (by omega) (by omega)))
  · obtain rfl : d = n2 := by omega
    (repeat' (first | refine J.seq ?_ | refine JP.one ?_ | refine JP.step ?_ | refine J.block ?_ | refine J.scope ?_ | (refine J.region (fun z => ?_); (conv => lhs; whnf)) | (refine J.cond rfl rfl (fun hq => ?_) (fun hq => ?_) <;> (try simp only [sbM, reduceCtorEq, frS_iff, frS_no] at hq) <;> (try (have hqt : hq = True.intro := rfl; clear hqt hq)) <;> (try (exact absurd trivial hq)) <;> (try (exfalso; omega))) | refine J.exit ?_ | refine J.ret ?_ | refine J.skip ?_ | refine J.label ?_ | (with_reducible first | refine then_normal ?_ | refine then_exit ?_ | refine then_ret ?_ | refine block_exit ?_ | refine block_normal ?_ | refine block_ret ?_ | refine block_exit_ne rfl ?_ | refine kI_go rfl ?_) | ((first | (apply t_next; focus ((conv => lhs; whnf); try exact rfl)) | refine t_forceN ?_ | refine t_addN by_o ?_ | refine t_subN by_o ?_ | refine t_mulN by_o ?_ | refine t_quo by_o by_o ?_ | refine t_rem by_o by_o ?_ | refine t_quoN by_o by_o ?_ | refine t_remN by_o ?_ | refine t_addC ?_ | refine t_subC ?_ | refine t_mulC ?_ | refine t_bRt rfl ?_ | refine t_bRf rfl ?_ | refine t_lim (k := 8) (K := 17592186044416) rfl rfl by_o ?_ | refine t_lim (k := 65536) (K := 2147483648) rfl rfl by_o ?_ | refine t_getC rfl ?_ | refine t_getC by_a ?_ | refine t_iRp rfl ?_ | refine t_iR by_o ?_ | refine t_iRn rfl ?_ | refine t_fBt rfl ?_ | refine t_fBf rfl ?_ | refine t_fBt by_s ?_ | refine t_fBf by_s ?_ | refine t_bRt by_u ?_ | refine t_bRf by_u ?_ | refine t_oA rfl ?_ | refine t_oA by_a ?_ | refine t_old by_a by_r ?_ | refine t_readR by_a ?_ | refine t_bRt (encA_one (fun _ => rfl)) ?_ | refine t_call0 (At_fn _ (k : Int) hI) rfl by_g rfl by_k ?_ | refine t_call0 (Rresin_fn _ base hands w k p hP hg2 hk hp.f0 hp.f1 hb hb1 (by omega) (by omega)) rfl by_g rfl by_k ?_ | refine t_call0 (Rwater_fn _ base hands rn k p hP hg2 hk hp.c0 hp.c1 (by omega) (by omega)) rfl by_g rfl by_k ?_); (conv => lhs; whnf)) | ((first | refine t_fB (fun hq => ?_) (fun hq => ?_) | refine t_bR (fun hq => ?_) (fun hq => ?_)) <;> (try simp only [sbM, reduceCtorEq, frS_iff, frS_no] at hq) <;> (try (have hqt : hq = True.intro := rfl; clear hqt hq)) <;> (try (exact absurd trivial hq)) <;> (try (exfalso; omega)) <;> (conv => lhs; whnf))))
    (refine endG trivial rfl rfl by_g ?_; (conv => lhs; whnf))
    rfl
end
end Go.Proofs.YtpaabfecoghibaaGreat
