/- Drops; what a pot yields, day by day. Conditions: as each theorem says. -/
import Derived.Test.YtpaabfecoghibaaFC
namespace Go.Proofs.Ytpaabfecoghibaa
open Go Go.RowKit
attribute [local irreducible] addC subC mulC quoI remI forceN forceB bR getC iR kI callI rcI oldC oA nextC readR
set_option maxRecDepth 1000000
set_option maxHeartbeats 8000000
set_option linter.unusedVariables false
set_option linter.unusedSimpArgs false
/-- What was carried away, what ran over, what is left: resin and water. -/
structure Ct where
  cr : Int
  cw : Int
  vr : Int
  vw : Int
  lr : Int
  lw : Int
abbrev encCt (c : Ct) : List Value := [.int .i64 c.cr, .int .i64 c.cw, .int .i64 c.vr, .int .i64 c.vw, .int .i64 c.lr, .int .i64 c.lw]
def emptC (c : Ct) : Ct := ⟨c.cr + c.lr, c.cw + c.lw, c.vr, c.vw, 0, 0⟩
def lostF (r w size : Int) : Int := max 0 (r + w - size)
def wetF (r w size : Int) : Int := min (lostF r w size) w
def fillC (size g w : Int) (c : Ct) : Ct := ⟨c.cr, c.cw, c.vr + (lostF (c.lr + g) (c.lw + w) size - wetF (c.lr + g) (c.lw + w) size), c.vw + wetF (c.lr + g) (c.lw + w) size, c.lr + g - (lostF (c.lr + g) (c.lw + w) size - wetF (c.lr + g) (c.lw + w) size), c.lw + w - wetF (c.lr + g) (c.lw + w) size⟩
def stepC (size : Int) (em : Bool) (g w : Int) (c : Ct) : Ct := fillC size g w (if em then emptC c else c)
/-- A pot is emptied on a day. -/
def emB (rs : List Rd) (k : Int) (d : Nat) : Bool := match rs[d]? with
  | some r => inB r.l k
  | none => false
theorem emB_at {rs : List Rd} {k : Int} {d : Nat} {r : Rd} (h : rs[d]? = some r) : emB rs k d = inB r.l k := by rw [emB, h]
/-- What it yields in so many days. -/
def yF (p : Pt) (base : Int) (W R : List Int) (has : Int) (rs : List Rd) (k : Int) : Nat → Ct
  | 0 => ⟨0, 0, 0, 0, has, 0⟩
  | d + 1 => stepC p.size (emB rs k d) (resF p.flow base (W.getD d 0)) (p.catc * R.getD d 0) (yF p base W R has rs k d)
/-- Contents that can be after so many days. -/
def CtIn (d : Nat) (c : Ct) : Prop := (0 ≤ c.cr ∧ 0 ≤ c.cw ∧ 0 ≤ c.vr ∧ 0 ≤ c.vw ∧ 0 ≤ c.lr ∧ 0 ≤ c.lw) ∧ c.cr + c.vr + c.lr ≤ 10000000 + 2000000 * (d : Int) ∧ c.cw + c.vw + c.lw ≤ 2000000 * (d : Int)
theorem fill_in {size g w : Int} {c : Ct} {d : Nat} (h : CtIn d c) (hs : 0 ≤ size) (hg : 0 ≤ g ∧ g ≤ 2000000) (hw : 0 ≤ w ∧ w ≤ 2000000) : CtIn (d + 1) (fillC size g w c) := by
  obtain ⟨⟨h1, h2, h3, h4, h5, h6⟩, h7, h8⟩ := h
  unfold CtIn fillC wetF lostF
  dsimp only
  omega
theorem empt_in {c : Ct} {d : Nat} (h : CtIn d c) : CtIn d (emptC c) := by
  obtain ⟨⟨h1, h2, h3, h4, h5, h6⟩, h7, h8⟩ := h
  unfold CtIn emptC
  dsimp only
  omega
theorem step_in {size g w : Int} {c : Ct} {d : Nat} {em : Bool} (h : CtIn d c) (hs : 0 ≤ size) (hg : 0 ≤ g ∧ g ≤ 2000000) (hw : 0 ≤ w ∧ w ≤ 2000000) : CtIn (d + 1) (stepC size em g w c) := by
  unfold stepC
  split
  · exact fill_in (empt_in h) hs hg hw
  · exact fill_in h hs hg hw
/-- Numbers of a truth that can be followed. -/
structure TrIn (W R : List Int) (nd : Nat) : Prop where
  lw : W.length = nd
  lr : R.length = nd
  w : ∀ (i : Nat) (x : Int), W[i]? = some x → 0 ≤ x ∧ x ≤ 500
  r : ∀ (i : Nat) (x : Int), R[i]? = some x → 0 ≤ x ∧ x ≤ 2000
theorem trIn_of {W R H : List Int} {ps : List Pt} {ds : List Dy} (h : TrOk W R H ps ds) (hl : ∀ d ∈ ds, DyOk d) : TrIn W R ds.length := by
  obtain ⟨h1, h2, _, h4, _⟩ := h
  refine ⟨h1, h2, fun i x hx => ?_, fun i x hx => ?_⟩
  · have hi := (List.getElem?_eq_some_iff.1 hx).1
    obtain ⟨d, hd⟩ : ∃ d, ds[i]? = some d := ⟨_, List.getElem?_eq_getElem (by omega)⟩
    obtain ⟨r, hr⟩ : ∃ r, R[i]? = some r := ⟨_, List.getElem?_eq_getElem (by omega)⟩
    obtain ⟨w0, w1, w2, r0, r1, r2⟩ := hl d (List.mem_of_getElem? hd)
    have := h4 i d x r hd hx hr
    omega
  · have hi := (List.getElem?_eq_some_iff.1 hx).1
    obtain ⟨d, hd⟩ : ∃ d, ds[i]? = some d := ⟨_, List.getElem?_eq_getElem (by omega)⟩
    obtain ⟨w, hw⟩ : ∃ w, W[i]? = some w := ⟨_, List.getElem?_eq_getElem (by omega)⟩
    obtain ⟨w0, w1, w2, r0, r1, r2⟩ := hl d (List.mem_of_getElem? hd)
    have := h4 i d w x hd hw hx
    omega
theorem yF_in {p : Pt} {base : Int} {W R : List Int} {has k : Int} {rs : List Rd} (hp : PtOk p) (hs : 0 ≤ p.size) (hb : 0 ≤ base) {nd : Nat} (hT : TrIn W R nd) (hh : 0 ≤ has ∧ has ≤ 10000000) : ∀ d, d ≤ nd → CtIn d (yF p base W R has rs k d)
  | 0, _ => by unfold CtIn yF; dsimp only; omega
  | d + 1, hd => by
    have ih := yF_in (k := k) (rs := rs) hp hs hb hT hh d (by omega)
    obtain ⟨w, hw⟩ : ∃ w, W[d]? = some w := ⟨_, List.getElem?_eq_getElem (by have := hT.lw; omega)⟩
    obtain ⟨r, hr⟩ : ∃ r, R[d]? = some r := ⟨_, List.getElem?_eq_getElem (by have := hT.lr; omega)⟩
    have h1 := hT.w d w hw
    have h2 := hT.r d r hr
    rw [yF, List.getD_eq_getElem?_getD, List.getD_eq_getElem?_getD, hw, hr]
    exact step_in ih hs (resF_in hp.f0 hp.f1 hb (by simp only [Option.getD_some]; omega)) (watF_in hp.c0 hp.c1 (by simp only [Option.getD_some]; omega) (by simp only [Option.getD_some]; omega))
theorem agg2 {a b c d : Int} (h1 : a = c) (h2 : b = d) : Value.agg ⟨[.int .i64 a, .int .i64 b]⟩ = .agg ⟨[.int .i64 c, .int .i64 d]⟩ := by subst h1 h2; rfl
theorem cells6 {a b c d e g a' b' c' d' e' g' : Int} (h1 : a = a') (h2 : b = b') (h3 : c = c') (h4 : d = d') (h5 : e = e') (h6 : g = g') : [Value.int .i64 a, .int .i64 b, .int .i64 c, .int .i64 d, .int .i64 e, .int .i64 g] = [.int .i64 a', .int .i64 b', .int .i64 c', .int .i64 d', .int .i64 e', .int .i64 g'] := by subst h1 h2 h3 h4 h5 h6; rfl
section
variable (f : Nat → Nat → Option Value)
theorem plus_fn (a b c d : Int) (h1 : -1000000000 ≤ a ∧ a ≤ 1000000000) (h2 : -1000000000 ≤ b ∧ b ≤ 1000000000) (h3 : -1000000000 ≤ c ∧ c ≤ 1000000000) (h4 : -1000000000 ≤ d ∧ d ≤ 1000000000) : FnR Try.prog f 54 [.agg ⟨[.int .i64 a, .int .i64 b]⟩, .agg ⟨[.int .i64 c, .int .i64 d]⟩] ⟨.agg ⟨[.int .i64 (a + c), .int .i64 (b + d)]⟩, []⟩ := by
  refine fn_J by_g rfl ?_
  (repeat' (first | refine J.seq ?_ | refine JP.one ?_ | refine JP.step ?_ | refine J.block ?_ | refine J.scope ?_ | (refine J.region (fun z => ?_); (conv => lhs; whnf)) | (refine J.cond rfl rfl (fun hq => ?_) (fun hq => ?_) <;> (try simp only [sbM, reduceCtorEq, frS_iff, frS_no] at hq) <;> (try (have hqt : hq = True.intro := rfl; clear hqt hq)) <;> (try (exact absurd trivial hq)) <;> (try (exfalso; omega))) | refine J.exit ?_ | refine J.ret ?_ | refine J.skip ?_ | refine J.label ?_ | (with_reducible first | refine then_normal ?_ | refine then_exit ?_ | refine then_ret ?_ | refine block_exit ?_ | refine block_normal ?_ | refine block_ret ?_ | refine block_exit_ne rfl ?_ | refine kI_go rfl ?_) | ((first | (apply t_next; focus ((conv => lhs; whnf); try exact rfl)) | refine t_forceN ?_ | refine t_addN by_o ?_ | refine t_subN by_o ?_ | refine t_mulN by_o ?_ | refine t_quo by_o by_o ?_ | refine t_rem by_o by_o ?_ | refine t_quoN by_o by_o ?_ | refine t_remN by_o ?_ | refine t_addC ?_ | refine t_subC ?_ | refine t_mulC ?_ | refine t_bRt rfl ?_ | refine t_bRf rfl ?_ | refine t_lim (k := 8) (K := 17592186044416) rfl rfl by_o ?_ | refine t_lim (k := 65536) (K := 2147483648) rfl rfl by_o ?_ | refine t_getC rfl ?_ | refine t_getC by_a ?_ | refine t_iRp rfl ?_ | refine t_iR by_o ?_ | refine t_iRn rfl ?_ | refine t_fBt rfl ?_ | refine t_fBf rfl ?_ | refine t_fBt by_s ?_ | refine t_fBf by_s ?_ | refine t_bRt by_u ?_ | refine t_bRf by_u ?_ | refine t_oA rfl ?_ | refine t_oA by_a ?_ | refine t_old by_a by_r ?_ | refine t_readR by_a ?_ | refine t_bRt (encA_one (fun _ => rfl)) ?_); (conv => lhs; whnf)) | ((first | refine t_fB (fun hq => ?_) (fun hq => ?_) | refine t_bR (fun hq => ?_) (fun hq => ?_)) <;> (try simp only [sbM, reduceCtorEq, frS_iff, frS_no] at hq) <;> (try (have hqt : hq = True.intro := rfl; clear hqt hq)) <;> (try (exact absurd trivial hq)) <;> (try (exfalso; omega)) <;> (conv => lhs; whnf))))
  (refine endG trivial rfl rfl by_g ?_; (conv => lhs; whnf))
  rfl
theorem less_fn (a b c d : Int) (h1 : -1000000000 ≤ a ∧ a ≤ 1000000000) (h2 : -1000000000 ≤ b ∧ b ≤ 1000000000) (h3 : -1000000000 ≤ c ∧ c ≤ 1000000000) (h4 : -1000000000 ≤ d ∧ d ≤ 1000000000) : FnR Try.prog f 58 [.agg ⟨[.int .i64 a, .int .i64 b]⟩, .agg ⟨[.int .i64 c, .int .i64 d]⟩] ⟨.agg ⟨[.int .i64 (a - c), .int .i64 (b - d)]⟩, []⟩ := by
  refine fn_J by_g rfl ?_
  (repeat' (first | refine J.seq ?_ | refine JP.one ?_ | refine JP.step ?_ | refine J.block ?_ | refine J.scope ?_ | (refine J.region (fun z => ?_); (conv => lhs; whnf)) | (refine J.cond rfl rfl (fun hq => ?_) (fun hq => ?_) <;> (try simp only [sbM, reduceCtorEq, frS_iff, frS_no] at hq) <;> (try (have hqt : hq = True.intro := rfl; clear hqt hq)) <;> (try (exact absurd trivial hq)) <;> (try (exfalso; omega))) | refine J.exit ?_ | refine J.ret ?_ | refine J.skip ?_ | refine J.label ?_ | (with_reducible first | refine then_normal ?_ | refine then_exit ?_ | refine then_ret ?_ | refine block_exit ?_ | refine block_normal ?_ | refine block_ret ?_ | refine block_exit_ne rfl ?_ | refine kI_go rfl ?_) | ((first | (apply t_next; focus ((conv => lhs; whnf); try exact rfl)) | refine t_forceN ?_ | refine t_addN by_o ?_ | refine t_subN by_o ?_ | refine t_mulN by_o ?_ | refine t_quo by_o by_o ?_ | refine t_rem by_o by_o ?_ | refine t_quoN by_o by_o ?_ | refine t_remN by_o ?_ | refine t_addC ?_ | refine t_subC ?_ | refine t_mulC ?_ | refine t_bRt rfl ?_ | refine t_bRf rfl ?_ | refine t_lim (k := 8) (K := 17592186044416) rfl rfl by_o ?_ | refine t_lim (k := 65536) (K := 2147483648) rfl rfl by_o ?_ | refine t_getC rfl ?_ | refine t_getC by_a ?_ | refine t_iRp rfl ?_ | refine t_iR by_o ?_ | refine t_iRn rfl ?_ | refine t_fBt rfl ?_ | refine t_fBf rfl ?_ | refine t_fBt by_s ?_ | refine t_fBf by_s ?_ | refine t_bRt by_u ?_ | refine t_bRf by_u ?_ | refine t_oA rfl ?_ | refine t_oA by_a ?_ | refine t_old by_a by_r ?_ | refine t_readR by_a ?_ | refine t_bRt (encA_one (fun _ => rfl)) ?_); (conv => lhs; whnf)) | ((first | refine t_fB (fun hq => ?_) (fun hq => ?_) | refine t_bR (fun hq => ?_) (fun hq => ?_)) <;> (try simp only [sbM, reduceCtorEq, frS_iff, frS_no] at hq) <;> (try (have hqt : hq = True.intro := rfl; clear hqt hq)) <;> (try (exact absurd trivial hq)) <;> (try (exfalso; omega)) <;> (conv => lhs; whnf))))
  (refine endG trivial rfl rfl by_g ?_; (conv => lhs; whnf))
  rfl
theorem above_fn (a b s : Int) (h1 : -1000000000 ≤ a ∧ a ≤ 1000000000) (h2 : -1000000000 ≤ b ∧ b ≤ 1000000000) (h3 : -1000000000 ≤ s ∧ s ≤ 1000000000) : FnR Try.prog f 57 [.agg ⟨[.int .i64 a, .int .i64 b]⟩, .int .i64 s] ⟨.agg ⟨[.int .i64 (lostF a b s - wetF a b s), .int .i64 (wetF a b s)]⟩, []⟩ := by
  refine fn_J by_g rfl ?_
  (repeat' (first | refine J.seq ?_ | refine JP.one ?_ | refine JP.step ?_ | refine J.block ?_ | refine J.scope ?_ | (refine J.region (fun z => ?_); (conv => lhs; whnf)) | (refine J.cond rfl rfl (fun hq => ?_) (fun hq => ?_) <;> (try simp only [sbM, reduceCtorEq, frS_iff, frS_no] at hq) <;> (try (have hqt : hq = True.intro := rfl; clear hqt hq)) <;> (try (exact absurd trivial hq)) <;> (try (exfalso; omega))) | refine J.exit ?_ | refine J.ret ?_ | refine J.skip ?_ | refine J.label ?_ | (with_reducible first | refine then_normal ?_ | refine then_exit ?_ | refine then_ret ?_ | refine block_exit ?_ | refine block_normal ?_ | refine block_ret ?_ | refine block_exit_ne rfl ?_ | refine kI_go rfl ?_) | ((first | (apply t_next; focus ((conv => lhs; whnf); try exact rfl)) | refine t_forceN ?_ | refine t_addN by_o ?_ | refine t_subN by_o ?_ | refine t_mulN by_o ?_ | refine t_quo by_o by_o ?_ | refine t_rem by_o by_o ?_ | refine t_quoN by_o by_o ?_ | refine t_remN by_o ?_ | refine t_addC ?_ | refine t_subC ?_ | refine t_mulC ?_ | refine t_bRt rfl ?_ | refine t_bRf rfl ?_ | refine t_lim (k := 8) (K := 17592186044416) rfl rfl by_o ?_ | refine t_lim (k := 65536) (K := 2147483648) rfl rfl by_o ?_ | refine t_getC rfl ?_ | refine t_getC by_a ?_ | refine t_iRp rfl ?_ | refine t_iR by_o ?_ | refine t_iRn rfl ?_ | refine t_fBt rfl ?_ | refine t_fBf rfl ?_ | refine t_fBt by_s ?_ | refine t_fBf by_s ?_ | refine t_bRt by_u ?_ | refine t_bRf by_u ?_ | refine t_oA rfl ?_ | refine t_oA by_a ?_ | refine t_old by_a by_r ?_ | refine t_readR by_a ?_ | refine t_bRt (encA_one (fun _ => rfl)) ?_); (conv => lhs; whnf)) | ((first | refine t_fB (fun hq => ?_) (fun hq => ?_) | refine t_bR (fun hq => ?_) (fun hq => ?_)) <;> (try simp only [sbM, reduceCtorEq, frS_iff, frS_no] at hq) <;> (try (have hqt : hq = True.intro := rfl; clear hqt hq)) <;> (try (exact absurd trivial hq)) <;> (try (exfalso; omega)) <;> (conv => lhs; whnf))))
  all_goals
    (refine endG trivial rfl rfl by_g ?_; (conv => lhs; whnf))
    exact agg2 (by unfold wetF lostF; omega) (by unfold wetF lostF; omega)
end
end Go.Proofs.Ytpaabfecoghibaa
