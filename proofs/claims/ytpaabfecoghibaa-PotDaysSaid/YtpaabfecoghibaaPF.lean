/- Package pot: what comes into a pot on a day, at least and at most; sums of days. Conditions: as each theorem says. -/
import Derived.Test.YtpaabfecoghibaaPC
namespace Go.Proofs.Ytpaabfecoghibaa
open Go Go.RowKit
attribute [local irreducible] addC subC mulC quoI remI forceN forceB bR getC iR kI callI rcI oldC oA nextC readR
set_option maxRecDepth 1000000
set_option maxHeartbeats 8000000
set_option linter.unusedVariables false
set_option linter.unusedSimpArgs false
/-- What comes into a pot on a day: at least (true), at most (false). -/
def gainF (k : Bool) (p : Pt) (base : Int) (d : Dy) : Int := match k with
  | true => leastF p base d
  | false => mostF p base d
def gainId : Bool → FuncId
  | true => 50
  | false => 51
structure PtOk (p : Pt) : Prop where
  f0 : 0 ≤ p.flow
  f1 : p.flow ≤ 1000
  c0 : 0 ≤ p.catc
  c1 : p.catc ≤ 1000
structure DyOk (d : Dy) : Prop where
  w0 : 0 ≤ d.wl
  w1 : d.wl ≤ d.wh
  w2 : d.wh ≤ 500
  r0 : 0 ≤ d.rl
  r1 : d.rl ≤ d.rh
  r2 : d.rh ≤ 2000
theorem gain_in {k : Bool} {p : Pt} {base : Int} {d : Dy} (hp : PtOk p) (hb : 0 ≤ base) (hd : DyOk d) : 0 ≤ gainF k p base d ∧ gainF k p base d ≤ 4000000 := by
  obtain ⟨h1, h2, h3, h4⟩ := hp
  obtain ⟨w0, w1, w2, r0, r1, r2⟩ := hd
  cases k
  · have a := resF_in (warm := d.wh) h1 h2 hb (by omega)
    have b := watF_in (rain := d.rh) h3 h4 (by omega) (by omega)
    show 0 ≤ mostF p base d ∧ mostF p base d ≤ 4000000
    unfold mostF; omega
  · have a := resF_in (warm := d.wl) h1 h2 hb (by omega)
    have b := watF_in (rain := d.rl) h3 h4 (by omega) (by omega)
    show 0 ≤ leastF p base d ∧ leastF p base d ≤ 4000000
    unfold leastF; omega
theorem dyOk_of {d : Dy} (h : dyB d = true) : DyOk d := by
  rw [dyB, Bool.and_eq_true, spanB_iff, spanB_iff] at h
  obtain ⟨⟨h1, h2, h3⟩, h4, h5, h6⟩ := h
  exact ⟨h1, h3, h2, h4, h6, h5⟩
section
variable (f : Nat → Nat → Option Value)
theorem least_fn {a : Option Addr} {n c : Nat} (p : Pt) (base : Int) (d : Dy) (hg : grA a n c = true) (hp : PtOk p) (hb : 0 ≤ base) (hb1 : base ≤ 500) (hd : DyOk d) : FnR Try.prog f 50 [.agg ⟨encH p base a n c⟩, .agg ⟨encDy d⟩] ⟨.int .i64 (leastF p base d), []⟩ := by
  obtain ⟨w0, w1, w2, r0, r1, r2⟩ := hd
  have a1 := resF_in (warm := d.wl) hp.f0 hp.f1 hb (by omega)
  have a2 := watF_in (rain := d.rl) hp.c0 hp.c1 (by omega) (by omega)
  refine fn_J by_g rfl ?_
  (repeat' (first | refine J.seq ?_ | refine JP.one ?_ | refine JP.step ?_ | refine J.block ?_ | refine J.scope ?_ | (refine J.region (fun z => ?_); (conv => lhs; whnf)) | (refine J.cond rfl rfl (fun hq => ?_) (fun hq => ?_) <;> (try simp only [sbM, reduceCtorEq, frS_iff, frS_no] at hq) <;> (try (have hqt : hq = True.intro := rfl; clear hqt hq)) <;> (try (exact absurd trivial hq)) <;> (try (exfalso; omega))) | refine J.exit ?_ | refine J.ret ?_ | refine J.skip ?_ | refine J.label ?_ | (with_reducible first | refine then_normal ?_ | refine then_exit ?_ | refine then_ret ?_ | refine block_exit ?_ | refine block_normal ?_ | refine block_ret ?_ | refine block_exit_ne rfl ?_ | refine kI_go rfl ?_) | ((first | (apply t_next; focus ((conv => lhs; whnf); try exact rfl)) | refine t_forceN ?_ | refine t_addN by_o ?_ | refine t_subN by_o ?_ | refine t_mulN by_o ?_ | refine t_quo by_o by_o ?_ | refine t_rem by_o by_o ?_ | refine t_quoN by_o by_o ?_ | refine t_remN by_o ?_ | refine t_addC ?_ | refine t_subC ?_ | refine t_mulC ?_ | refine t_bRt rfl ?_ | refine t_bRf rfl ?_ | refine t_lim (k := 8) (K := 17592186044416) rfl rfl by_o ?_ | refine t_lim (k := 65536) (K := 2147483648) rfl rfl by_o ?_ | refine t_getC rfl ?_ | refine t_getC by_a ?_ | refine t_iRp rfl ?_ | refine t_iR by_o ?_ | refine t_iRn rfl ?_ | refine t_fBt rfl ?_ | refine t_fBf rfl ?_ | refine t_fBt by_s ?_ | refine t_fBf by_s ?_ | refine t_bRt by_u ?_ | refine t_bRf by_u ?_ | refine t_oA rfl ?_ | refine t_oA by_a ?_ | refine t_old by_a by_r ?_ | refine t_readR by_a ?_ | refine t_bRt (encA_one (fun _ => rfl)) ?_ | refine t_call0 (resin_fn _ p base d.wl hg hp.f0 hp.f1 hb hb1 (by omega) (by omega)) rfl by_g rfl by_k ?_ | refine t_call0 (water_fn _ p base d.rl hg hp.c0 hp.c1 (by omega) (by omega)) rfl by_g rfl by_k ?_); (conv => lhs; whnf)) | ((first | refine t_fB (fun hq => ?_) (fun hq => ?_) | refine t_bR (fun hq => ?_) (fun hq => ?_)) <;> (try simp only [sbM, reduceCtorEq, frS_iff, frS_no] at hq) <;> (try (have hqt : hq = True.intro := rfl; clear hqt hq)) <;> (try (exact absurd trivial hq)) <;> (try (exfalso; omega)) <;> (conv => lhs; whnf))))
  (refine endG trivial rfl rfl by_g ?_; (conv => lhs; whnf))
  rfl
theorem most_fn {a : Option Addr} {n c : Nat} (p : Pt) (base : Int) (d : Dy) (hg : grA a n c = true) (hp : PtOk p) (hb : 0 ≤ base) (hb1 : base ≤ 500) (hd : DyOk d) : FnR Try.prog f 51 [.agg ⟨encH p base a n c⟩, .agg ⟨encDy d⟩] ⟨.int .i64 (mostF p base d), []⟩ := by
  obtain ⟨w0, w1, w2, r0, r1, r2⟩ := hd
  have a1 := resF_in (warm := d.wh) hp.f0 hp.f1 hb (by omega)
  have a2 := watF_in (rain := d.rh) hp.c0 hp.c1 (by omega) (by omega)
  refine fn_J by_g rfl ?_
  (repeat' (first | refine J.seq ?_ | refine JP.one ?_ | refine JP.step ?_ | refine J.block ?_ | refine J.scope ?_ | (refine J.region (fun z => ?_); (conv => lhs; whnf)) | (refine J.cond rfl rfl (fun hq => ?_) (fun hq => ?_) <;> (try simp only [sbM, reduceCtorEq, frS_iff, frS_no] at hq) <;> (try (have hqt : hq = True.intro := rfl; clear hqt hq)) <;> (try (exact absurd trivial hq)) <;> (try (exfalso; omega))) | refine J.exit ?_ | refine J.ret ?_ | refine J.skip ?_ | refine J.label ?_ | (with_reducible first | refine then_normal ?_ | refine then_exit ?_ | refine then_ret ?_ | refine block_exit ?_ | refine block_normal ?_ | refine block_ret ?_ | refine block_exit_ne rfl ?_ | refine kI_go rfl ?_) | ((first | (apply t_next; focus ((conv => lhs; whnf); try exact rfl)) | refine t_forceN ?_ | refine t_addN by_o ?_ | refine t_subN by_o ?_ | refine t_mulN by_o ?_ | refine t_quo by_o by_o ?_ | refine t_rem by_o by_o ?_ | refine t_quoN by_o by_o ?_ | refine t_remN by_o ?_ | refine t_addC ?_ | refine t_subC ?_ | refine t_mulC ?_ | refine t_bRt rfl ?_ | refine t_bRf rfl ?_ | refine t_lim (k := 8) (K := 17592186044416) rfl rfl by_o ?_ | refine t_lim (k := 65536) (K := 2147483648) rfl rfl by_o ?_ | refine t_getC rfl ?_ | refine t_getC by_a ?_ | refine t_iRp rfl ?_ | refine t_iR by_o ?_ | refine t_iRn rfl ?_ | refine t_fBt rfl ?_ | refine t_fBf rfl ?_ | refine t_fBt by_s ?_ | refine t_fBf by_s ?_ | refine t_bRt by_u ?_ | refine t_bRf by_u ?_ | refine t_oA rfl ?_ | refine t_oA by_a ?_ | refine t_old by_a by_r ?_ | refine t_readR by_a ?_ | refine t_bRt (encA_one (fun _ => rfl)) ?_ | refine t_call0 (resin_fn _ p base d.wh hg hp.f0 hp.f1 hb hb1 (by omega) (by omega)) rfl by_g rfl by_k ?_ | refine t_call0 (water_fn _ p base d.rh hg hp.c0 hp.c1 (by omega) (by omega)) rfl by_g rfl by_k ?_); (conv => lhs; whnf)) | ((first | refine t_fB (fun hq => ?_) (fun hq => ?_) | refine t_bR (fun hq => ?_) (fun hq => ?_)) <;> (try simp only [sbM, reduceCtorEq, frS_iff, frS_no] at hq) <;> (try (have hqt : hq = True.intro := rfl; clear hqt hq)) <;> (try (exact absurd trivial hq)) <;> (try (exfalso; omega)) <;> (conv => lhs; whnf))))
  (refine endG trivial rfl rfl by_g ?_; (conv => lhs; whnf))
  rfl
theorem gain_fn {a : Option Addr} {n c : Nat} (k : Bool) (p : Pt) (base : Int) (d : Dy) (hg : grA a n c = true) (hp : PtOk p) (hb : 0 ≤ base) (hb1 : base ≤ 500) (hd : DyOk d) : FnR Try.prog f (gainId k) [.agg ⟨encH p base a n c⟩, .agg ⟨encDy d⟩] ⟨.int .i64 (gainF k p base d), []⟩ := by
  cases k
  · exact most_fn f p base d hg hp hb hb1 hd
  · exact least_fn f p base d hg hp hb hb1 hd
def sumG (k : Bool) (p : Pt) (base : Int) (l : List Dy) : Int := (l.map (gainF k p base)).sum
theorem sumG_app {k : Bool} {p : Pt} {base : Int} (l : List Dy) (d : Dy) : sumG k p base (l ++ [d]) = sumG k p base l + gainF k p base d := by simp [sumG]
theorem sumG_in {k : Bool} {p : Pt} {base : Int} (hp : PtOk p) (hb : 0 ≤ base) : ∀ l : List Dy, (∀ d ∈ l, DyOk d) → 0 ≤ sumG k p base l ∧ sumG k p base l ≤ 4000000 * l.length
  | [], _ => by simp [sumG]
  | d :: l, h => by
    have h1 := sumG_in (k := k) hp hb l fun x hx => h x (List.mem_cons_of_mem _ hx)
    have h2 := gain_in (k := k) hp hb (h d List.mem_cons_self)
    simp only [sumG, List.map_cons, List.sum_cons, List.length_cons] at h1 ⊢
    omega
theorem total_fn {a a2 : Option Addr} {n c n2 c2 : Nat} {l : List Dy} (k : Bool) (p : Pt) (base : Int) (hg : grA a n c = true) (hD : Dys f a2 n2 c2 l) (hp : PtOk p) (hb : 0 ≤ base) (hb1 : base ≤ 500) (hl : ∀ d ∈ l, DyOk d) (hn : n2 ≤ 1000) :
    FnR Try.prog f 49 [.agg ⟨encH p base a n c⟩, .slice a2 n2 c2, .func (.func (gainId k)) ⟨[]⟩ ⟨[]⟩] ⟨.int .i64 (sumG k p base l), []⟩ := by
  obtain ⟨hg2, hlen, hnc, hle, hat⟩ := hD
  refine fn_J by_g rfl ?_
  (repeat' (first | refine J.seq ?_ | refine JP.one ?_ | refine JP.step ?_ | refine J.block ?_ | refine J.scope ?_ | (refine J.region (fun z => ?_); (conv => lhs; whnf)) | (refine J.cond rfl rfl (fun hq => ?_) (fun hq => ?_) <;> (try simp only [sbM, reduceCtorEq, frS_iff, frS_no] at hq) <;> (try (have hqt : hq = True.intro := rfl; clear hqt hq)) <;> (try (exact absurd trivial hq)) <;> (try (exfalso; omega))) | refine J.exit ?_ | refine J.ret ?_ | refine J.skip ?_ | refine J.label ?_ | (with_reducible first | refine then_normal ?_ | refine then_exit ?_ | refine then_ret ?_ | refine block_exit ?_ | refine block_normal ?_ | refine block_ret ?_ | refine block_exit_ne rfl ?_ | refine kI_go rfl ?_) | ((first | (apply t_next; focus ((conv => lhs; whnf); try exact rfl)) | refine t_forceN ?_ | refine t_addN by_o ?_ | refine t_subN by_o ?_ | refine t_mulN by_o ?_ | refine t_quo by_o by_o ?_ | refine t_rem by_o by_o ?_ | refine t_quoN by_o by_o ?_ | refine t_remN by_o ?_ | refine t_addC ?_ | refine t_subC ?_ | refine t_mulC ?_ | refine t_bRt rfl ?_ | refine t_bRf rfl ?_ | refine t_lim (k := 8) (K := 17592186044416) rfl rfl by_o ?_ | refine t_lim (k := 65536) (K := 2147483648) rfl rfl by_o ?_ | refine t_getC rfl ?_ | refine t_getC by_a ?_ | refine t_iRp rfl ?_ | refine t_iR by_o ?_ | refine t_iRn rfl ?_ | refine t_fBt rfl ?_ | refine t_fBf rfl ?_ | refine t_fBt by_s ?_ | refine t_fBf by_s ?_ | refine t_bRt by_u ?_ | refine t_bRf by_u ?_ | refine t_oA rfl ?_ | refine t_oA by_a ?_ | refine t_old by_a by_r ?_ | refine t_readR by_a ?_ | refine t_bRt (encA_one (fun _ => rfl)) ?_ | refine t_call0 (gain_fn _ k p base d hg hp hb hb1 hdo) rfl by_g rfl by_k ?_); (conv => lhs; whnf)) | ((first | refine t_fB (fun hq => ?_) (fun hq => ?_) | refine t_bR (fun hq => ?_) (fun hq => ?_)) <;> (try simp only [sbM, reduceCtorEq, frS_iff, frS_no] at hq) <;> (try (have hqt : hq = True.intro := rfl; clear hqt hq)) <;> (try (exact absurd trivial hq)) <;> (try (exfalso; omega)) <;> (conv => lhs; whnf))))
  refine J.loop (LJ.ind (fun q : Nat × Int => [none, none, some (.func (.func (gainId k)) ⟨[]⟩ ⟨[]⟩), some (.pointer (some ⟨0, 0, some 0⟩)), none, none, none, some (.int .i64 q.2), none, none, some (.slice a2 n2 c2), some (.int .i64 (n2 : Int)), some (.int .i64 (q.1 : Int)), none, none, none, none, none, none, none, none, none, none, none]) (fun _ => [(58, encH p base a n c)]) (fun q => q.1 ≤ n2 ∧ q.2 = sumG k p base (l.take q.1)) (fun q => n2 - q.1) (0, 0) [0] ⟨Nat.zero_le _, rfl⟩ rfl ?_ ?_ ?_)
  · exact ⟨_, _, _, rfl, rfl, SimL.ground (l := encH p base a n c) by_g, nin rfl, trivial⟩
  · exact by_s0
  · rintro ⟨i, s⟩ ⟨hi, hs⟩ vs ⟨xs, gx, rfl⟩ IH
    simp only at hi hs
    by_cases hin : i < n2
    · obtain ⟨d, hx⟩ : ∃ d, l[i]? = some d := ⟨_, List.getElem?_eq_getElem (by omega)⟩
      obtain ⟨b, o, ha, hc⟩ := hat i _ hx
      have hc0 := hc 0 _ rfl
      have hc1 := hc 1 _ rfl
      have hc2 := hc 2 _ rfl
      have hc3 := hc 3 _ rfl
      have hdo := hl d (List.mem_of_getElem? hx)
      have htk : l.take (i + 1) = l.take i ++ [d] := by rw [List.take_add_one, hx]; rfl
      have hs1 := sumG_in (k := k) hp hb (l.take i) fun x hx => hl x (List.mem_of_mem_take hx)
      rw [← hs, List.length_take] at hs1
      have hg1 := gain_in (k := k) hp hb hdo
      have hadd := sumG_app (k := k) (p := p) (base := base) (l.take i) d
      rw [← htk, ← hs] at hadd
      subst ha
      (repeat' (first | refine J.seq ?_ | refine JP.one ?_ | refine JP.step ?_ | refine J.block ?_ | refine J.scope ?_ | (refine J.region (fun z => ?_); (conv => lhs; whnf)) | (refine J.cond rfl rfl (fun hq => ?_) (fun hq => ?_) <;> (try simp only [sbM, reduceCtorEq, frS_iff, frS_no] at hq) <;> (try (have hqt : hq = True.intro := rfl; clear hqt hq)) <;> (try (exact absurd trivial hq)) <;> (try (exfalso; omega))) | refine J.exit ?_ | refine J.ret ?_ | refine J.skip ?_ | refine J.label ?_ | (with_reducible first | refine then_normal ?_ | refine then_exit ?_ | refine then_ret ?_ | refine block_exit ?_ | refine block_normal ?_ | refine block_ret ?_ | refine block_exit_ne rfl ?_ | refine kI_go rfl ?_) | ((first | (apply t_next; focus ((conv => lhs; whnf); try exact rfl)) | refine t_forceN ?_ | refine t_addN by_o ?_ | refine t_subN by_o ?_ | refine t_mulN by_o ?_ | refine t_quo by_o by_o ?_ | refine t_rem by_o by_o ?_ | refine t_quoN by_o by_o ?_ | refine t_remN by_o ?_ | refine t_addC ?_ | refine t_subC ?_ | refine t_mulC ?_ | refine t_bRt rfl ?_ | refine t_bRf rfl ?_ | refine t_lim (k := 8) (K := 17592186044416) rfl rfl by_o ?_ | refine t_lim (k := 65536) (K := 2147483648) rfl rfl by_o ?_ | refine t_getC rfl ?_ | refine t_getC by_a ?_ | refine t_iRp rfl ?_ | refine t_iR by_o ?_ | refine t_iRn rfl ?_ | refine t_fBt rfl ?_ | refine t_fBf rfl ?_ | refine t_fBt by_s ?_ | refine t_fBf by_s ?_ | refine t_bRt by_u ?_ | refine t_bRf by_u ?_ | refine t_oA rfl ?_ | refine t_oA by_a ?_ | refine t_old by_a by_r ?_ | refine t_readR by_a ?_ | refine t_bRt (encA_one (fun _ => rfl)) ?_ | refine t_call0 (gain_fn _ k p base d hg hp hb hb1 hdo) rfl by_g rfl by_k ?_); (conv => lhs; whnf)) | ((first | refine t_fB (fun hq => ?_) (fun hq => ?_) | refine t_bR (fun hq => ?_) (fun hq => ?_)) <;> (try simp only [sbM, reduceCtorEq, frS_iff, frS_no] at hq) <;> (try (have hqt : hq = True.intro := rfl; clear hqt hq)) <;> (try (exact absurd trivial hq)) <;> (try (exfalso; omega)) <;> (conv => lhs; whnf))))
      refine LJ.ren _ [(58, encH p base a n c)] [0] rfl ⟨_, _, _, rfl, rfl, SimL.ground (l := encH p base a n c) by_g, nin rfl, trivial⟩ ?_ (IH (i + 1, s + gainF k p base d) ⟨hin, hadd.symm⟩ (by dsimp only; omega))
      exact by_sb
    · (repeat' (first | refine J.seq ?_ | refine JP.one ?_ | refine JP.step ?_ | refine J.block ?_ | refine J.scope ?_ | (refine J.region (fun z => ?_); (conv => lhs; whnf)) | (refine J.cond rfl rfl (fun hq => ?_) (fun hq => ?_) <;> (try simp only [sbM, reduceCtorEq, frS_iff, frS_no] at hq) <;> (try (have hqt : hq = True.intro := rfl; clear hqt hq)) <;> (try (exact absurd trivial hq)) <;> (try (exfalso; omega))) | refine J.exit ?_ | refine J.ret ?_ | refine J.skip ?_ | refine J.label ?_ | (with_reducible first | refine then_normal ?_ | refine then_exit ?_ | refine then_ret ?_ | refine block_exit ?_ | refine block_normal ?_ | refine block_ret ?_ | refine block_exit_ne rfl ?_ | refine kI_go rfl ?_) | ((first | (apply t_next; focus ((conv => lhs; whnf); try exact rfl)) | refine t_forceN ?_ | refine t_addN by_o ?_ | refine t_subN by_o ?_ | refine t_mulN by_o ?_ | refine t_quo by_o by_o ?_ | refine t_rem by_o by_o ?_ | refine t_quoN by_o by_o ?_ | refine t_remN by_o ?_ | refine t_addC ?_ | refine t_subC ?_ | refine t_mulC ?_ | refine t_bRt rfl ?_ | refine t_bRf rfl ?_ | refine t_lim (k := 8) (K := 17592186044416) rfl rfl by_o ?_ | refine t_lim (k := 65536) (K := 2147483648) rfl rfl by_o ?_ | refine t_getC rfl ?_ | refine t_getC by_a ?_ | refine t_iRp rfl ?_ | refine t_iR by_o ?_ | refine t_iRn rfl ?_ | refine t_fBt rfl ?_ | refine t_fBf rfl ?_ | refine t_fBt by_s ?_ | refine t_fBf by_s ?_ | refine t_bRt by_u ?_ | refine t_bRf by_u ?_ | refine t_oA rfl ?_ | refine t_oA by_a ?_ | refine t_old by_a by_r ?_ | refine t_readR by_a ?_ | refine t_bRt (encA_one (fun _ => rfl)) ?_ | refine t_call0 (gain_fn _ k p base d hg hp hb hb1 hdo) rfl by_g rfl by_k ?_); (conv => lhs; whnf)) | ((first | refine t_fB (fun hq => ?_) (fun hq => ?_) | refine t_bR (fun hq => ?_) (fun hq => ?_)) <;> (try simp only [sbM, reduceCtorEq, frS_iff, frS_no] at hq) <;> (try (have hqt : hq = True.intro := rfl; clear hqt hq)) <;> (try (exact absurd trivial hq)) <;> (try (exfalso; omega)) <;> (conv => lhs; whnf))))
      (refine endG trivial rfl rfl by_g ?_; (conv => lhs; whnf))
      rw [hs, List.take_of_length_le (by omega)]
end
end Go.Proofs.Ytpaabfecoghibaa
