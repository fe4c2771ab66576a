/- Truths are checked. Conditions: as each theorem says. -/
import Derived.Test.YtpaabfecoghibaaFA
namespace Go.Proofs.Ytpaabfecoghibaa
open Go Go.RowKit
attribute [local irreducible] addC subC mulC quoI remI forceN forceB bR getC iR kI callI rcI oldC oA nextC readR
set_option maxRecDepth 1000000
set_option maxHeartbeats 8000000
set_option linter.unusedVariables false
set_option linter.unusedSimpArgs false
/-- A truth is one of a run. -/
def TrOk (W R H : List Int) (ps : List Pt) (ds : List Dy) : Prop := W.length = ds.length ∧ R.length = ds.length ∧ H.length = ps.length ∧ (∀ (i : Nat) (d : Dy) (w r : Int), ds[i]? = some d → W[i]? = some w → R[i]? = some r → (d.wl ≤ w ∧ w ≤ d.wh) ∧ (d.rl ≤ r ∧ r ≤ d.rh)) ∧ ∀ (i : Nat) (p : Pt) (h : Int), ps[i]? = some p → H[i]? = some h → p.lo ≤ h ∧ h ≤ p.hi
open Classical in
noncomputable def trB (W R H : List Int) (ps : List Pt) (ds : List Dy) : Bool := decide (TrOk W R H ps ds)
theorem trB_iff {W R H : List Int} {ps : List Pt} {ds : List Dy} : trB W R H ps ds = true ↔ TrOk W R H ps ds := by simp [trB]
theorem trB_no {W R H : List Int} {ps : List Pt} {ds : List Dy} : trB W R H ps ds = false ↔ ¬ TrOk W R H ps ds := by simp [trB]
noncomputable def truE (W R H : List Int) (ps : List Pt) (ds : List Dy) : Int := if trB W R H ps ds = true then 0 else 33
theorem truE_ok {W R H : List Int} {ps : List Pt} {ds : List Dy} (h : TrOk W R H ps ds) : truE W R H ps ds = 0 := by rw [truE, if_pos (trB_iff.2 h)]
theorem truE_bad {W R H : List Int} {ps : List Pt} {ds : List Dy} (h : ¬ TrOk W R H ps ds) : truE W R H ps ds = 33 := by rw [truE, if_neg (fun q => h (trB_iff.1 q))]
abbrev encTr (aw : Option Addr) (nw cw : Nat) (ar : Option Addr) (nr cr : Nat) (ah : Option Addr) (nh ch : Nat) : List Value := [.slice aw nw cw, .slice ar nr cr, .slice ah nh ch]
section
variable (f : Nat → Nat → Option Value)
theorem isIn_fn (x lo hi : Int) : FnR Try.prog f 73 [.int .i64 x, .agg ⟨[.int .i64 lo, .int .i64 hi]⟩] ⟨.bool (frS x lo hi), []⟩ := by
  refine fn_J by_g rfl ?_
  (repeat' (first | refine J.seq ?_ | refine JP.one ?_ | refine JP.step ?_ | refine J.block ?_ | refine J.scope ?_ | (refine J.region (fun z => ?_); (conv => lhs; whnf)) | (refine J.cond rfl rfl (fun hq => ?_) (fun hq => ?_) <;> (try simp only [sbM, reduceCtorEq, frS_iff, frS_no] at hq) <;> (try (have hqt : hq = True.intro := rfl; clear hqt hq)) <;> (try (exact absurd trivial hq)) <;> (try (exfalso; omega))) | refine J.exit ?_ | refine J.ret ?_ | refine J.skip ?_ | refine J.label ?_ | (with_reducible first | refine then_normal ?_ | refine then_exit ?_ | refine then_ret ?_ | refine block_exit ?_ | refine block_normal ?_ | refine block_ret ?_ | refine block_exit_ne rfl ?_ | refine kI_go rfl ?_) | ((first | (apply t_next; focus ((conv => lhs; whnf); try exact rfl)) | refine t_forceN ?_ | refine t_addN by_o ?_ | refine t_subN by_o ?_ | refine t_mulN by_o ?_ | refine t_quo by_o by_o ?_ | refine t_rem by_o by_o ?_ | refine t_quoN by_o by_o ?_ | refine t_remN by_o ?_ | refine t_addC ?_ | refine t_subC ?_ | refine t_mulC ?_ | refine t_bRt rfl ?_ | refine t_bRf rfl ?_ | refine t_lim (k := 8) (K := 17592186044416) rfl rfl by_o ?_ | refine t_lim (k := 65536) (K := 2147483648) rfl rfl by_o ?_ | refine t_getC rfl ?_ | refine t_getC by_a ?_ | refine t_iRp rfl ?_ | refine t_iR by_o ?_ | refine t_iRn rfl ?_ | refine t_fBt rfl ?_ | refine t_fBf rfl ?_ | refine t_fBt by_s ?_ | refine t_fBf by_s ?_ | refine t_bRt by_u ?_ | refine t_bRf by_u ?_ | refine t_oA rfl ?_ | refine t_oA by_a ?_ | refine t_old by_a by_r ?_ | refine t_readR by_a ?_ | refine t_bRt (encA_one (fun _ => rfl)) ?_); (conv => lhs; whnf)) | ((first | refine t_fB (fun hq => ?_) (fun hq => ?_) | refine t_bR (fun hq => ?_) (fun hq => ?_) | (first | refine t_callB (isFrom_fn _ _ _ _) rfl by_g rfl (fun hq => ?_) (fun hq => ?_))) <;> (try simp only [sbM, reduceCtorEq, frS_iff, frS_no] at hq) <;> (try (have hqt : hq = True.intro := rfl; clear hqt hq)) <;> (try (exact absurd trivial hq)) <;> (try (exfalso; omega)) <;> (conv => lhs; whnf))))
  · (refine endG trivial rfl rfl by_g ?_; (conv => lhs; whnf)); rw [frS_iff.2 (by assumption)]
  · (refine endG trivial rfl rfl by_g ?_; (conv => lhs; whnf)); rw [frS_no.2 (by assumption)]
theorem checkTruth_fn {a a2 aw ar ah : Option Addr} {n c n2 c2 nw cw nr cr nh ch : Nat} {ps : List Pt} {ds : List Dy} {W R H : List Int} (base hands : Int) (hP : Pts f a n c ps) (hD : Dys f a2 n2 c2 ds) (hW : Ints f aw nw cw W) (hR : Ints f ar nr cr R) (hH : Ints f ah nh ch H) :
    FnR Try.prog f 48 [.agg ⟨encRun a n c a2 n2 c2 base hands⟩, .agg ⟨encTr aw nw cw ar nr cr ah nh ch⟩] ⟨.int .i64 (truE W R H ps ds), []⟩ := by
  obtain ⟨hg, hlen, hnc, hle, hat⟩ := hP
  obtain ⟨hg2, hlen2, hnc2, hle2, hat2⟩ := hD
  obtain ⟨hgw, hlenw, hncw, hlew, hatw⟩ := hW
  obtain ⟨hgr, hlenr, hncr, hler, hatr⟩ := hR
  obtain ⟨hgh, hlenh, hnch, hleh, hath⟩ := hH
  refine fn_J by_g rfl ?_
  (repeat' (first | refine J.seq ?_ | refine JP.one ?_ | refine JP.step ?_ | refine J.block ?_ | refine J.scope ?_ | (refine J.region (fun z => ?_); (conv => lhs; whnf)) | (refine J.cond rfl rfl (fun hq => ?_) (fun hq => ?_) <;> (try simp only [sbM, reduceCtorEq, frS_iff, frS_no] at hq) <;> (try (have hqt : hq = True.intro := rfl; clear hqt hq)) <;> (try (exact absurd trivial hq)) <;> (try (exfalso; omega))) | refine J.exit ?_ | refine J.ret ?_ | refine J.skip ?_ | refine J.label ?_ | (with_reducible first | refine then_normal ?_ | refine then_exit ?_ | refine then_ret ?_ | refine block_exit ?_ | refine block_normal ?_ | refine block_ret ?_ | refine block_exit_ne rfl ?_ | refine kI_go rfl ?_) | ((first | (apply t_next; focus ((conv => lhs; whnf); try exact rfl)) | refine t_forceN ?_ | refine t_addN by_o ?_ | refine t_subN by_o ?_ | refine t_mulN by_o ?_ | refine t_quo by_o by_o ?_ | refine t_rem by_o by_o ?_ | refine t_quoN by_o by_o ?_ | refine t_remN by_o ?_ | refine t_addC ?_ | refine t_subC ?_ | refine t_mulC ?_ | refine t_bRt rfl ?_ | refine t_bRf rfl ?_ | refine t_lim (k := 8) (K := 17592186044416) rfl rfl by_o ?_ | refine t_lim (k := 65536) (K := 2147483648) rfl rfl by_o ?_ | refine t_getC rfl ?_ | refine t_getC by_a ?_ | refine t_iRp rfl ?_ | refine t_iR by_o ?_ | refine t_iRn rfl ?_ | refine t_fBt rfl ?_ | refine t_fBf rfl ?_ | refine t_fBt by_s ?_ | refine t_fBf by_s ?_ | refine t_bRt by_u ?_ | refine t_bRf by_u ?_ | refine t_oA rfl ?_ | refine t_oA by_a ?_ | refine t_old by_a by_r ?_ | refine t_readR by_a ?_ | refine t_bRt (encA_one (fun _ => rfl)) ?_); (conv => lhs; whnf)) | ((first | refine t_fB (fun hq => ?_) (fun hq => ?_) | refine t_bR (fun hq => ?_) (fun hq => ?_) | (first | refine t_callB (isIn_fn _ _ _ _) rfl by_g rfl (fun hq => ?_) (fun hq => ?_))) <;> (try simp only [sbM, reduceCtorEq, frS_iff, frS_no] at hq) <;> (try (have hqt : hq = True.intro := rfl; clear hqt hq)) <;> (try (exact absurd trivial hq)) <;> (try (exfalso; omega)) <;> (conv => lhs; whnf))))
  all_goals first
    | (rw [truE_bad (fun h => by have := h.1; have := h.2.1; have := h.2.2.1; omega)]
       (refine endG trivial rfl rfl by_g ?_; (conv => lhs; whnf))
       done)
    | skip
  refine J.loop (LJ.ind (fun i : Nat => [none, none, some (.pointer (some ⟨0, 0, some 0⟩)), some (.pointer (some ⟨1, 0, some 0⟩)), none, none, none, none, none, none, none, none, none, none, none, none, none, none, none, none, none, none, none, none, none, none, none, none, none, none, none, none, none, none, none, some (.slice a2 n2 c2), some (.int .i64 (n2 : Int)), some (.int .i64 (i : Int)), none, none, none, none, none, none, none, none, none, none, none, none, none, none, none, none, none, none, none, none, none, none, none, none, none, none, none, none, none, none, none, none, none, none, none, none, none, none, none, none, none, none, none]) (fun _ => [(25, encRun a n c a2 n2 c2 base hands), (39, encTr aw nw cw ar nr cr ah nh ch)]) (fun i => i ≤ n2 ∧ ∀ (j : Nat) (d : Dy) (w r : Int), j < i → ds[j]? = some d → W[j]? = some w → R[j]? = some r → (d.wl ≤ w ∧ w ≤ d.wh) ∧ (d.rl ≤ r ∧ r ≤ d.rh)) (fun i => n2 - i) 0 [0, 1] ⟨Nat.zero_le _, fun j d w r h => absurd h (Nat.not_lt_zero _)⟩ rfl ?_ ?_ ?_)
  · exact ⟨_, _, _, rfl, rfl, SimL.of_eq rfl by_g, nin rfl, _, _, _, rfl, rfl, SimL.of_eq rfl by_g, nin rfl, trivial⟩
  · exact by_s0
  · rintro i ⟨hi, hd⟩ vs ⟨xs, gx, rfl⟩ IH
    by_cases hin : i < n2
    · obtain ⟨d, hx⟩ : ∃ d, ds[i]? = some d := ⟨_, List.getElem?_eq_getElem (by omega)⟩
      obtain ⟨w, hw⟩ : ∃ w, W[i]? = some w := ⟨_, List.getElem?_eq_getElem (by omega)⟩
      obtain ⟨r, hr⟩ : ∃ r, R[i]? = some r := ⟨_, List.getElem?_eq_getElem (by omega)⟩
      obtain ⟨b, o, ha, hc⟩ := hat2 i _ hx
      have hc0 := hc 0 _ rfl
      have hc1 := hc 1 _ rfl
      have hc2 := hc 2 _ rfl
      have hc3 := hc 3 _ rfl
      obtain ⟨bw, ow, haw, hcw⟩ := hatw i _ hw
      have hcw0 := hcw 0 _ rfl
      obtain ⟨br, or', har, hcr⟩ := hatr i _ hr
      have hcr0 := hcr 0 _ rfl
      subst ha haw har
      (repeat' (first | refine J.seq ?_ | refine JP.one ?_ | refine JP.step ?_ | refine J.block ?_ | refine J.scope ?_ | (refine J.region (fun z => ?_); (conv => lhs; whnf)) | (refine J.cond rfl rfl (fun hq => ?_) (fun hq => ?_) <;> (try simp only [sbM, reduceCtorEq, frS_iff, frS_no] at hq) <;> (try (have hqt : hq = True.intro := rfl; clear hqt hq)) <;> (try (exact absurd trivial hq)) <;> (try (exfalso; omega))) | refine J.exit ?_ | refine J.ret ?_ | refine J.skip ?_ | refine J.label ?_ | (with_reducible first | refine then_normal ?_ | refine then_exit ?_ | refine then_ret ?_ | refine block_exit ?_ | refine block_normal ?_ | refine block_ret ?_ | refine block_exit_ne rfl ?_ | refine kI_go rfl ?_) | ((first | (apply t_next; focus ((conv => lhs; whnf); try exact rfl)) | refine t_forceN ?_ | refine t_addN by_o ?_ | refine t_subN by_o ?_ | refine t_mulN by_o ?_ | refine t_quo by_o by_o ?_ | refine t_rem by_o by_o ?_ | refine t_quoN by_o by_o ?_ | refine t_remN by_o ?_ | refine t_addC ?_ | refine t_subC ?_ | refine t_mulC ?_ | refine t_bRt rfl ?_ | refine t_bRf rfl ?_ | refine t_lim (k := 8) (K := 17592186044416) rfl rfl by_o ?_ | refine t_lim (k := 65536) (K := 2147483648) rfl rfl by_o ?_ | refine t_getC rfl ?_ | refine t_getC by_a ?_ | refine t_iRp rfl ?_ | refine t_iR by_o ?_ | refine t_iRn rfl ?_ | refine t_fBt rfl ?_ | refine t_fBf rfl ?_ | refine t_fBt by_s ?_ | refine t_fBf by_s ?_ | refine t_bRt by_u ?_ | refine t_bRf by_u ?_ | refine t_oA rfl ?_ | refine t_oA by_a ?_ | refine t_old by_a by_r ?_ | refine t_readR by_a ?_ | refine t_bRt (encA_one (fun _ => rfl)) ?_); (conv => lhs; whnf)) | ((first | refine t_fB (fun hq => ?_) (fun hq => ?_) | refine t_bR (fun hq => ?_) (fun hq => ?_) | (first | refine t_callB (isIn_fn _ _ _ _) rfl by_g rfl (fun hq => ?_) (fun hq => ?_))) <;> (try simp only [sbM, reduceCtorEq, frS_iff, frS_no] at hq) <;> (try (have hqt : hq = True.intro := rfl; clear hqt hq)) <;> (try (exact absurd trivial hq)) <;> (try (exfalso; omega)) <;> (conv => lhs; whnf))))
      all_goals first
        | (rw [truE_bad (fun h => by have := h.2.2.2.1 i d w r hx hw hr; omega)]
           (refine endG trivial rfl rfl by_g ?_; (conv => lhs; whnf))
           done)
        | (refine LJ.ren _ [(25, encRun a n c (some ⟨b, o, none⟩) n2 c2 base hands), (39, encTr (some ⟨bw, ow, none⟩) nw cw (some ⟨br, or', none⟩) nr cr ah nh ch)] [0, 1] rfl ⟨_, _, _, rfl, rfl, SimL.of_eq rfl by_g, nin rfl, _, _, _, rfl, rfl, SimL.of_eq rfl by_g, nin rfl, trivial⟩ ?_ (IH (i + 1) ⟨hin, fun j d2 w2 r2 hj h1 h2 h3 => ?_⟩ (by omega))
           · exact by_sb
           · by_cases e : j = i
             · subst e; rw [hx] at h1; rw [hw] at h2; rw [hr] at h3; cases h1; cases h2; cases h3; omega
             · exact hd j d2 w2 r2 (by omega) h1 h2 h3)
    · have hdays : ∀ (j : Nat) (d : Dy) (w r : Int), ds[j]? = some d → W[j]? = some w → R[j]? = some r → (d.wl ≤ w ∧ w ≤ d.wh) ∧ (d.rl ≤ r ∧ r ≤ d.rh) := fun j d w r h => hd j d w r (by have := (List.getElem?_eq_some_iff.1 h).1; omega) h
      clear IH
      (repeat' (first | refine J.seq ?_ | refine JP.one ?_ | refine JP.step ?_ | refine J.block ?_ | refine J.scope ?_ | (refine J.region (fun z => ?_); (conv => lhs; whnf)) | (refine J.cond rfl rfl (fun hq => ?_) (fun hq => ?_) <;> (try simp only [sbM, reduceCtorEq, frS_iff, frS_no] at hq) <;> (try (have hqt : hq = True.intro := rfl; clear hqt hq)) <;> (try (exact absurd trivial hq)) <;> (try (exfalso; omega))) | refine J.exit ?_ | refine J.ret ?_ | refine J.skip ?_ | refine J.label ?_ | (with_reducible first | refine then_normal ?_ | refine then_exit ?_ | refine then_ret ?_ | refine block_exit ?_ | refine block_normal ?_ | refine block_ret ?_ | refine block_exit_ne rfl ?_ | refine kI_go rfl ?_) | ((first | (apply t_next; focus ((conv => lhs; whnf); try exact rfl)) | refine t_forceN ?_ | refine t_addN by_o ?_ | refine t_subN by_o ?_ | refine t_mulN by_o ?_ | refine t_quo by_o by_o ?_ | refine t_rem by_o by_o ?_ | refine t_quoN by_o by_o ?_ | refine t_remN by_o ?_ | refine t_addC ?_ | refine t_subC ?_ | refine t_mulC ?_ | refine t_bRt rfl ?_ | refine t_bRf rfl ?_ | refine t_lim (k := 8) (K := 17592186044416) rfl rfl by_o ?_ | refine t_lim (k := 65536) (K := 2147483648) rfl rfl by_o ?_ | refine t_getC rfl ?_ | refine t_getC by_a ?_ | refine t_iRp rfl ?_ | refine t_iR by_o ?_ | refine t_iRn rfl ?_ | refine t_fBt rfl ?_ | refine t_fBf rfl ?_ | refine t_fBt by_s ?_ | refine t_fBf by_s ?_ | refine t_bRt by_u ?_ | refine t_bRf by_u ?_ | refine t_oA rfl ?_ | refine t_oA by_a ?_ | refine t_old by_a by_r ?_ | refine t_readR by_a ?_ | refine t_bRt (encA_one (fun _ => rfl)) ?_); (conv => lhs; whnf)) | ((first | refine t_fB (fun hq => ?_) (fun hq => ?_) | refine t_bR (fun hq => ?_) (fun hq => ?_) | (first | refine t_callB (isIn_fn _ _ _ _) rfl by_g rfl (fun hq => ?_) (fun hq => ?_))) <;> (try simp only [sbM, reduceCtorEq, frS_iff, frS_no] at hq) <;> (try (have hqt : hq = True.intro := rfl; clear hqt hq)) <;> (try (exact absurd trivial hq)) <;> (try (exfalso; omega)) <;> (conv => lhs; whnf))))
      refine J.loop (LJ.ind (fun i : Nat => [none, none, none, some (.pointer (some ⟨0, 0, some 0⟩)), none, none, none, none, none, none, none, none, none, none, none, none, none, none, none, none, none, none, none, none, none, none, none, none, none, none, none, none, none, none, none, none, none, none, none, none, none, none, none, none, none, none, none, none, none, none, none, none, none, none, none, none, none, none, none, none, none, none, none, none, some (.slice a n c), some (.int .i64 (n : Int)), some (.int .i64 (i : Int)), none, none, none, none, none, none, none, none, none, none, none, none, none, none]) (fun _ => [(39, encTr aw nw cw ar nr cr ah nh ch)]) (fun i => i ≤ n ∧ ∀ (j : Nat) (p : Pt) (h : Int), j < i → ps[j]? = some p → H[j]? = some h → p.lo ≤ h ∧ h ≤ p.hi) (fun i => n - i) 0 [1] ⟨Nat.zero_le _, fun j d w h => absurd h (Nat.not_lt_zero _)⟩ rfl ?_ ?_ ?_)
      · exact ⟨_, _, _, rfl, rfl, SimL.of_eq rfl by_g, nin rfl, trivial⟩
      · exact by_sb
      · rintro u ⟨hu, hd2⟩ vs ⟨ys, gy, rfl⟩ IH
        have gx := gy
        by_cases hun : u < n
        · obtain ⟨p, hx⟩ : ∃ p, ps[u]? = some p := ⟨_, List.getElem?_eq_getElem (by omega)⟩
          obtain ⟨h, hh⟩ : ∃ h, H[u]? = some h := ⟨_, List.getElem?_eq_getElem (by omega)⟩
          obtain ⟨b, o, ha, hc⟩ := hat u _ hx
          have hc0 := hc 0 _ rfl
          have hc1 := hc 1 _ rfl
          have hc2 := hc 2 _ rfl
          have hc3 := hc 3 _ rfl
          have hc4 := hc 4 _ rfl
          have hc5 := hc 5 _ rfl
          have hc6 := hc 6 _ rfl
          have hc7 := hc 7 _ rfl
          obtain ⟨bh, oh, hah, hch⟩ := hath u _ hh
          have hch0 := hch 0 _ rfl
          subst ha hah
          (repeat' (first | refine J.seq ?_ | refine JP.one ?_ | refine JP.step ?_ | refine J.block ?_ | refine J.scope ?_ | (refine J.region (fun z => ?_); (conv => lhs; whnf)) | (refine J.cond rfl rfl (fun hq => ?_) (fun hq => ?_) <;> (try simp only [sbM, reduceCtorEq, frS_iff, frS_no] at hq) <;> (try (have hqt : hq = True.intro := rfl; clear hqt hq)) <;> (try (exact absurd trivial hq)) <;> (try (exfalso; omega))) | refine J.exit ?_ | refine J.ret ?_ | refine J.skip ?_ | refine J.label ?_ | (with_reducible first | refine then_normal ?_ | refine then_exit ?_ | refine then_ret ?_ | refine block_exit ?_ | refine block_normal ?_ | refine block_ret ?_ | refine block_exit_ne rfl ?_ | refine kI_go rfl ?_) | ((first | (apply t_next; focus ((conv => lhs; whnf); try exact rfl)) | refine t_forceN ?_ | refine t_addN by_o ?_ | refine t_subN by_o ?_ | refine t_mulN by_o ?_ | refine t_quo by_o by_o ?_ | refine t_rem by_o by_o ?_ | refine t_quoN by_o by_o ?_ | refine t_remN by_o ?_ | refine t_addC ?_ | refine t_subC ?_ | refine t_mulC ?_ | refine t_bRt rfl ?_ | refine t_bRf rfl ?_ | refine t_lim (k := 8) (K := 17592186044416) rfl rfl by_o ?_ | refine t_lim (k := 65536) (K := 2147483648) rfl rfl by_o ?_ | refine t_getC rfl ?_ | refine t_getC by_a ?_ | refine t_iRp rfl ?_ | refine t_iR by_o ?_ | refine t_iRn rfl ?_ | refine t_fBt rfl ?_ | refine t_fBf rfl ?_ | refine t_fBt by_s ?_ | refine t_fBf by_s ?_ | refine t_bRt by_u ?_ | refine t_bRf by_u ?_ | refine t_oA rfl ?_ | refine t_oA by_a ?_ | refine t_old by_a by_r ?_ | refine t_readR by_a ?_ | refine t_bRt (encA_one (fun _ => rfl)) ?_); (conv => lhs; whnf)) | ((first | refine t_fB (fun hq => ?_) (fun hq => ?_) | refine t_bR (fun hq => ?_) (fun hq => ?_) | (first | refine t_callB (isIn_fn _ _ _ _) rfl by_g rfl (fun hq => ?_) (fun hq => ?_))) <;> (try simp only [sbM, reduceCtorEq, frS_iff, frS_no] at hq) <;> (try (have hqt : hq = True.intro := rfl; clear hqt hq)) <;> (try (exact absurd trivial hq)) <;> (try (exfalso; omega)) <;> (conv => lhs; whnf))))
          all_goals first
            | (rw [truE_bad (fun q => by have := q.2.2.2.2 u p h hx hh; omega)]
               (refine endG trivial rfl rfl by_g ?_; (conv => lhs; whnf))
               done)
            | (refine LJ.ren _ [(39, encTr aw nw cw ar nr cr (some ⟨bh, oh, none⟩) nh ch)] [0] rfl ⟨_, _, _, rfl, rfl, SimL.of_eq rfl by_g, nin rfl, trivial⟩ ?_ (IH (u + 1) ⟨hun, fun j p2 h2 hj h1 h3 => ?_⟩ (by omega))
               · exact by_sb
               · by_cases e : j = u
                 · subst e; rw [hx] at h1; rw [hh] at h3; cases h1; cases h3; omega
                 · exact hd2 j p2 h2 (by omega) h1 h3)
        · rw [truE_ok ⟨by omega, by omega, by omega, hdays, fun j p h hj => hd2 j p h (by have := (List.getElem?_eq_some_iff.1 hj).1; omega) hj⟩]
          (repeat' (first | refine J.seq ?_ | refine JP.one ?_ | refine JP.step ?_ | refine J.block ?_ | refine J.scope ?_ | (refine J.region (fun z => ?_); (conv => lhs; whnf)) | (refine J.cond rfl rfl (fun hq => ?_) (fun hq => ?_) <;> (try simp only [sbM, reduceCtorEq, frS_iff, frS_no] at hq) <;> (try (have hqt : hq = True.intro := rfl; clear hqt hq)) <;> (try (exact absurd trivial hq)) <;> (try (exfalso; omega))) | refine J.exit ?_ | refine J.ret ?_ | refine J.skip ?_ | refine J.label ?_ | (with_reducible first | refine then_normal ?_ | refine then_exit ?_ | refine then_ret ?_ | refine block_exit ?_ | refine block_normal ?_ | refine block_ret ?_ | refine block_exit_ne rfl ?_ | refine kI_go rfl ?_) | ((first | (apply t_next; focus ((conv => lhs; whnf); try exact rfl)) | refine t_forceN ?_ | refine t_addN by_o ?_ | refine t_subN by_o ?_ | refine t_mulN by_o ?_ | refine t_quo by_o by_o ?_ | refine t_rem by_o by_o ?_ | refine t_quoN by_o by_o ?_ | refine t_remN by_o ?_ | refine t_addC ?_ | refine t_subC ?_ | refine t_mulC ?_ | refine t_bRt rfl ?_ | refine t_bRf rfl ?_ | refine t_lim (k := 8) (K := 17592186044416) rfl rfl by_o ?_ | refine t_lim (k := 65536) (K := 2147483648) rfl rfl by_o ?_ | refine t_getC rfl ?_ | refine t_getC by_a ?_ | refine t_iRp rfl ?_ | refine t_iR by_o ?_ | refine t_iRn rfl ?_ | refine t_fBt rfl ?_ | refine t_fBf rfl ?_ | refine t_fBt by_s ?_ | refine t_fBf by_s ?_ | refine t_bRt by_u ?_ | refine t_bRf by_u ?_ | refine t_oA rfl ?_ | refine t_oA by_a ?_ | refine t_old by_a by_r ?_ | refine t_readR by_a ?_ | refine t_bRt (encA_one (fun _ => rfl)) ?_); (conv => lhs; whnf)) | ((first | refine t_fB (fun hq => ?_) (fun hq => ?_) | refine t_bR (fun hq => ?_) (fun hq => ?_) | (first | refine t_callB (isIn_fn _ _ _ _) rfl by_g rfl (fun hq => ?_) (fun hq => ?_))) <;> (try simp only [sbM, reduceCtorEq, frS_iff, frS_no] at hq) <;> (try (have hqt : hq = True.intro := rfl; clear hqt hq)) <;> (try (exact absurd trivial hq)) <;> (try (exfalso; omega)) <;> (conv => lhs; whnf))))
          (refine endG trivial rfl rfl by_g ?_; (conv => lhs; whnf))
end
end Go.Proofs.Ytpaabfecoghibaa
