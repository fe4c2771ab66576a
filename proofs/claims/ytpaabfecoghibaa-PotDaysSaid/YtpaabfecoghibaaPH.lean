/- Package pot: what runs over, days on which pots are due, pots that are asked for. Conditions: as each theorem says. -/
import Derived.Test.YtpaabfecoghibaaPG
import Derived.Test.YtpaabfecoghibaaPO
namespace Go.Proofs.Ytpaabfecoghibaa
open Go Go.RowKit
attribute [local irreducible] addC subC mulC quoI remI forceN forceB bR getC iR kI callI rcI oldC oA nextC readR
set_option maxRecDepth 1000000
set_option maxHeartbeats 8000000
set_option linter.unusedVariables false
set_option linter.unusedSimpArgs false
/-- The least (true) or the greatest (false) level of a pot. -/
def levF (k : Bool) (p : Pt) (base : Int) (ds : List Dy) (fr : Int) (day : Nat) : Int := sumG k p base ((ds.take (day + 1)).drop fr.toNat) + (if fr = -1 then (if k then p.lo else p.hi) else 0)
def overB (p : Pt) (base : Int) (ds : List Dy) (fr : Int) (day : Nat) : Bool := decide (p.size < levF false p base ds fr day)
def dueF (p : Pt) (base : Int) (ds : List Dy) (fr : Int) : Nat := (List.range ds.length).findIdx fun (j : Nat) => decide (fr ≤ (j : Int)) && overB p base ds fr j
theorem due_some {p : Pt} {base fr : Int} {ds : List Dy} {i : Nat} (hi : i < ds.length) (h1 : fr ≤ (i : Int)) (h2 : overB p base ds fr i = true) (h3 : ∀ j : Nat, j < i → ¬ (fr ≤ (j : Int) ∧ overB p base ds fr j = true)) : dueF p base ds fr = i := by
  rw [dueF, List.findIdx_eq (by simpa using hi)]
  simp only [List.getElem_range]
  exact ⟨by simp [h1, h2], fun j hj => by have := h3 j hj; simp only [Bool.and_eq_false_iff, decide_eq_false_iff_not]; by_cases e : fr ≤ (j : Int); exact .inr (by simpa [e] using this); exact .inl e⟩
theorem due_none {p : Pt} {base fr : Int} {ds : List Dy} (h3 : ∀ j : Nat, j < ds.length → ¬ (fr ≤ (j : Int) ∧ overB p base ds fr j = true)) : dueF p base ds fr = ds.length := by
  rw [dueF, List.findIdx_eq_length_of_false (fun j hj => by
    have := h3 j (List.mem_range.1 hj)
    simp only [Bool.and_eq_false_iff, decide_eq_false_iff_not]; by_cases e : fr ≤ (j : Int); exact .inr (by simpa [e] using this); exact .inl e)]
  simp
structure PtOk2 (p : Pt) : Prop extends PtOk p where
  l0 : 0 ≤ p.lo
  l1 : p.lo ≤ p.hi
  l2 : p.hi ≤ 10000000
theorem ptOk_of {p : Pt} (h : ptB p = true) : PtOk2 p := by
  simp only [ptB, Bool.and_eq_true, frS_iff, spanB_iff] at h
  obtain ⟨⟨⟨⟨⟨⟨_, _⟩, _⟩, hs⟩, h1⟩, h2⟩, h3⟩ := h
  exact ⟨⟨h2.1, h2.2, h3.1, h3.2⟩, h1.1, h1.2.2, by omega⟩
section
variable (f : Nat → Nat → Option Value)
theorem level_fn {a : Option Addr} {n c : Nat} {ds : List Dy} (p : Pt) (base fr : Int) (day : Nat) (hD : Dys f a n c ds) (hp : PtOk2 p) (hb : 0 ≤ base) (hb1 : base ≤ 500) (hl : ∀ d ∈ ds, DyOk d) (hn : n ≤ 8) (hf0 : -1 ≤ fr) (hf1 : fr ≤ (day : Int)) (hdn : day < n) :
    FnR Try.prog f 30 [.agg ⟨encH p base a n c⟩, .int .i64 fr, .int .i64 (day : Int)] ⟨.agg ⟨[.int .i64 (levF true p base ds fr day), .int .i64 (levF false p base ds fr day)]⟩, []⟩ := by
  by_cases h : fr = -1
  · subst h
    exact level_fn1 f p base day hD hp.toPtOk hb hb1 hl hn hdn hp.l0 hp.l1 hp.l2
  · obtain ⟨u, rfl⟩ := Int.eq_ofNat_of_zero_le (show 0 ≤ fr by omega)
    have h1 := level_fn0 f p base u day hD hp.toPtOk hb hb1 hl hn (by omega) hdn
    simp only [levF, if_neg h, Int.add_zero, Int.toNat_natCast]
    exact h1
theorem canRunOver_fn {a : Option Addr} {n c : Nat} {ds : List Dy} (p : Pt) (base fr : Int) (day : Nat) (hD : Dys f a n c ds) (hp : PtOk2 p) (hb : 0 ≤ base) (hb1 : base ≤ 500) (hl : ∀ d ∈ ds, DyOk d) (hn : n ≤ 8) (hf0 : -1 ≤ fr) (hf1 : fr ≤ (day : Int)) (hdn : day < n) :
    FnR Try.prog f 39 [.agg ⟨encH p base a n c⟩, .int .i64 fr, .int .i64 (day : Int)] ⟨.bool (overB p base ds fr day), []⟩ := by
  have hg := hD.g
  refine fn_J by_g rfl ?_
  (repeat' (first | refine J.seq ?_ | refine JP.one ?_ | refine JP.step ?_ | refine J.block ?_ | refine J.scope ?_ | (refine J.region (fun z => ?_); (conv => lhs; whnf)) | (refine J.cond rfl rfl (fun hq => ?_) (fun hq => ?_) <;> (try simp only [sbM, reduceCtorEq, frS_iff, frS_no] at hq) <;> (try (have hqt : hq = True.intro := rfl; clear hqt hq)) <;> (try (exact absurd trivial hq)) <;> (try (exfalso; omega))) | refine J.exit ?_ | refine J.ret ?_ | refine J.skip ?_ | refine J.label ?_ | (with_reducible first | refine then_normal ?_ | refine then_exit ?_ | refine then_ret ?_ | refine block_exit ?_ | refine block_normal ?_ | refine block_ret ?_ | refine block_exit_ne rfl ?_ | refine kI_go rfl ?_) | ((first | (apply t_next; focus ((conv => lhs; whnf); try exact rfl)) | refine t_forceN ?_ | refine t_addN by_o ?_ | refine t_subN by_o ?_ | refine t_mulN by_o ?_ | refine t_quo by_o by_o ?_ | refine t_rem by_o by_o ?_ | refine t_quoN by_o by_o ?_ | refine t_remN by_o ?_ | refine t_addC ?_ | refine t_subC ?_ | refine t_mulC ?_ | refine t_bRt rfl ?_ | refine t_bRf rfl ?_ | refine t_lim (k := 8) (K := 17592186044416) rfl rfl by_o ?_ | refine t_lim (k := 65536) (K := 2147483648) rfl rfl by_o ?_ | refine t_getC rfl ?_ | refine t_getC by_a ?_ | refine t_iRp rfl ?_ | refine t_iR by_o ?_ | refine t_iRn rfl ?_ | refine t_fBt rfl ?_ | refine t_fBf rfl ?_ | refine t_fBt by_s ?_ | refine t_fBf by_s ?_ | refine t_bRt by_u ?_ | refine t_bRf by_u ?_ | refine t_oA rfl ?_ | refine t_oA by_a ?_ | refine t_old by_a by_r ?_ | refine t_readR by_a ?_ | refine t_bRt (encA_one (fun _ => rfl)) ?_ | refine t_call0 (level_fn _ p base fr day hD hp hb hb1 hl hn hf0 hf1 hdn) rfl by_g rfl by_k ?_); (conv => lhs; whnf)) | ((first | refine t_fB (fun hq => ?_) (fun hq => ?_) | refine t_bR (fun hq => ?_) (fun hq => ?_)) <;> (try simp only [sbM, reduceCtorEq, frS_iff, frS_no] at hq) <;> (try (have hqt : hq = True.intro := rfl; clear hqt hq)) <;> (try (exact absurd trivial hq)) <;> (try (exfalso; omega)) <;> (conv => lhs; whnf))))
  all_goals ((refine endG trivial rfl rfl by_g ?_; (conv => lhs; whnf)); simp [overB]; omega)
theorem due_fn {a : Option Addr} {n c : Nat} {ds : List Dy} (p : Pt) (base fr : Int) (hD : Dys f a n c ds) (hp : PtOk2 p) (hb : 0 ≤ base) (hb1 : base ≤ 500) (hl : ∀ d ∈ ds, DyOk d) (hn : n ≤ 8) (hf0 : -1 ≤ fr) :
    FnR Try.prog f 19 [.agg ⟨encH p base a n c⟩, .int .i64 fr] ⟨.int .i64 (dueF p base ds fr : Nat), []⟩ := by
  have hg := hD.g
  have hlen := hD.len
  refine fn_J by_g rfl ?_
  (repeat' (first | refine J.seq ?_ | refine JP.one ?_ | refine JP.step ?_ | refine J.block ?_ | refine J.scope ?_ | (refine J.region (fun z => ?_); (conv => lhs; whnf)) | (refine J.cond rfl rfl (fun hq => ?_) (fun hq => ?_) <;> (try simp only [sbM, reduceCtorEq, frS_iff, frS_no] at hq) <;> (try (have hqt : hq = True.intro := rfl; clear hqt hq)) <;> (try (exact absurd trivial hq)) <;> (try (exfalso; omega))) | refine J.exit ?_ | refine J.ret ?_ | refine J.skip ?_ | refine J.label ?_ | (with_reducible first | refine then_normal ?_ | refine then_exit ?_ | refine then_ret ?_ | refine block_exit ?_ | refine block_normal ?_ | refine block_ret ?_ | refine block_exit_ne rfl ?_ | refine kI_go rfl ?_) | ((first | (apply t_next; focus ((conv => lhs; whnf); try exact rfl)) | refine t_forceN ?_ | refine t_addN by_o ?_ | refine t_subN by_o ?_ | refine t_mulN by_o ?_ | refine t_quo by_o by_o ?_ | refine t_rem by_o by_o ?_ | refine t_quoN by_o by_o ?_ | refine t_remN by_o ?_ | refine t_addC ?_ | refine t_subC ?_ | refine t_mulC ?_ | refine t_bRt rfl ?_ | refine t_bRf rfl ?_ | refine t_lim (k := 8) (K := 17592186044416) rfl rfl by_o ?_ | refine t_lim (k := 65536) (K := 2147483648) rfl rfl by_o ?_ | refine t_getC rfl ?_ | refine t_getC by_a ?_ | refine t_iRp rfl ?_ | refine t_iR by_o ?_ | refine t_iRn rfl ?_ | refine t_fBt rfl ?_ | refine t_fBf rfl ?_ | refine t_fBt by_s ?_ | refine t_fBf by_s ?_ | refine t_bRt by_u ?_ | refine t_bRf by_u ?_ | refine t_oA rfl ?_ | refine t_oA by_a ?_ | refine t_old by_a by_r ?_ | refine t_readR by_a ?_ | refine t_bRt (encA_one (fun _ => rfl)) ?_); (conv => lhs; whnf)) | ((first | refine t_fB (fun hq => ?_) (fun hq => ?_) | refine t_bR (fun hq => ?_) (fun hq => ?_) | (first | refine t_callB (canRunOver_fn _ p base fr i hD hp hb hb1 hl hn hf0 (by omega) hin) rfl by_g rfl (fun hq => ?_) (fun hq => ?_))) <;> (try simp only [sbM, reduceCtorEq, frS_iff, frS_no] at hq) <;> (try (have hqt : hq = True.intro := rfl; clear hqt hq)) <;> (try (exact absurd trivial hq)) <;> (try (exfalso; omega)) <;> (conv => lhs; whnf))))
  refine J.loop (LJ.ind (fun i : Nat => [none, some (.int .i64 fr), some (.pointer (some ⟨0, 0, some 0⟩)), none, none, none, none, none, some (.int .i64 (n : Int)), some (.int .i64 (i : Int)), none, none, none, none, none, none, none, none, none, none, none, none, none, none, none, none]) (fun _ => [(58, encH p base a n c)]) (fun i => i ≤ n ∧ ∀ j, j < i → ¬ (fr ≤ (j : Int) ∧ overB p base ds fr j = true)) (fun i => n - i) 0 [0] ⟨Nat.zero_le _, fun j h => absurd h (Nat.not_lt_zero _)⟩ rfl ?_ ?_ ?_)
  · exact ⟨_, _, _, rfl, rfl, SimL.ground (l := encH p base a n c) by_g, nin rfl, trivial⟩
  · exact by_s0
  · rintro i ⟨hi, hw⟩ vs ⟨xs, gx, rfl⟩ IH
    by_cases hin : i < n
    · (repeat' (first | refine J.seq ?_ | refine JP.one ?_ | refine JP.step ?_ | refine J.block ?_ | refine J.scope ?_ | (refine J.region (fun z => ?_); (conv => lhs; whnf)) | (refine J.cond rfl rfl (fun hq => ?_) (fun hq => ?_) <;> (try simp only [sbM, reduceCtorEq, frS_iff, frS_no] at hq) <;> (try (have hqt : hq = True.intro := rfl; clear hqt hq)) <;> (try (exact absurd trivial hq)) <;> (try (exfalso; omega))) | refine J.exit ?_ | refine J.ret ?_ | refine J.skip ?_ | refine J.label ?_ | (with_reducible first | refine then_normal ?_ | refine then_exit ?_ | refine then_ret ?_ | refine block_exit ?_ | refine block_normal ?_ | refine block_ret ?_ | refine block_exit_ne rfl ?_ | refine kI_go rfl ?_) | ((first | (apply t_next; focus ((conv => lhs; whnf); try exact rfl)) | refine t_forceN ?_ | refine t_addN by_o ?_ | refine t_subN by_o ?_ | refine t_mulN by_o ?_ | refine t_quo by_o by_o ?_ | refine t_rem by_o by_o ?_ | refine t_quoN by_o by_o ?_ | refine t_remN by_o ?_ | refine t_addC ?_ | refine t_subC ?_ | refine t_mulC ?_ | refine t_bRt rfl ?_ | refine t_bRf rfl ?_ | refine t_lim (k := 8) (K := 17592186044416) rfl rfl by_o ?_ | refine t_lim (k := 65536) (K := 2147483648) rfl rfl by_o ?_ | refine t_getC rfl ?_ | refine t_getC by_a ?_ | refine t_iRp rfl ?_ | refine t_iR by_o ?_ | refine t_iRn rfl ?_ | refine t_fBt rfl ?_ | refine t_fBf rfl ?_ | refine t_fBt by_s ?_ | refine t_fBf by_s ?_ | refine t_bRt by_u ?_ | refine t_bRf by_u ?_ | refine t_oA rfl ?_ | refine t_oA by_a ?_ | refine t_old by_a by_r ?_ | refine t_readR by_a ?_ | refine t_bRt (encA_one (fun _ => rfl)) ?_); (conv => lhs; whnf)) | ((first | refine t_fB (fun hq => ?_) (fun hq => ?_) | refine t_bR (fun hq => ?_) (fun hq => ?_) | (first | refine t_callB (canRunOver_fn _ p base fr i hD hp hb hb1 hl hn hf0 (by omega) hin) rfl by_g rfl (fun hq => ?_) (fun hq => ?_))) <;> (try simp only [sbM, reduceCtorEq, frS_iff, frS_no] at hq) <;> (try (have hqt : hq = True.intro := rfl; clear hqt hq)) <;> (try (exact absurd trivial hq)) <;> (try (exfalso; omega)) <;> (conv => lhs; whnf))))
      all_goals first
        | (refine LJ.ren _ [(58, encH p base a n c)] [0] rfl ⟨_, _, _, rfl, rfl, SimL.ground (l := encH p base a n c) by_g, nin rfl, trivial⟩ ?_ (IH (i + 1) ⟨hin, fun j hj => ?_⟩ (by omega))
           · exact by_sb
           · by_cases e : j = i
             · subst e; rintro ⟨h1, h2⟩; first | omega | (rw [hq] at h2; cases h2)
             · exact hw j (by omega))
        | ((refine endG trivial rfl rfl by_g ?_; (conv => lhs; whnf))
           rw [due_some (by omega) (by omega) hq hw])
    · (repeat' (first | refine J.seq ?_ | refine JP.one ?_ | refine JP.step ?_ | refine J.block ?_ | refine J.scope ?_ | (refine J.region (fun z => ?_); (conv => lhs; whnf)) | (refine J.cond rfl rfl (fun hq => ?_) (fun hq => ?_) <;> (try simp only [sbM, reduceCtorEq, frS_iff, frS_no] at hq) <;> (try (have hqt : hq = True.intro := rfl; clear hqt hq)) <;> (try (exact absurd trivial hq)) <;> (try (exfalso; omega))) | refine J.exit ?_ | refine J.ret ?_ | refine J.skip ?_ | refine J.label ?_ | (with_reducible first | refine then_normal ?_ | refine then_exit ?_ | refine then_ret ?_ | refine block_exit ?_ | refine block_normal ?_ | refine block_ret ?_ | refine block_exit_ne rfl ?_ | refine kI_go rfl ?_) | ((first | (apply t_next; focus ((conv => lhs; whnf); try exact rfl)) | refine t_forceN ?_ | refine t_addN by_o ?_ | refine t_subN by_o ?_ | refine t_mulN by_o ?_ | refine t_quo by_o by_o ?_ | refine t_rem by_o by_o ?_ | refine t_quoN by_o by_o ?_ | refine t_remN by_o ?_ | refine t_addC ?_ | refine t_subC ?_ | refine t_mulC ?_ | refine t_bRt rfl ?_ | refine t_bRf rfl ?_ | refine t_lim (k := 8) (K := 17592186044416) rfl rfl by_o ?_ | refine t_lim (k := 65536) (K := 2147483648) rfl rfl by_o ?_ | refine t_getC rfl ?_ | refine t_getC by_a ?_ | refine t_iRp rfl ?_ | refine t_iR by_o ?_ | refine t_iRn rfl ?_ | refine t_fBt rfl ?_ | refine t_fBf rfl ?_ | refine t_fBt by_s ?_ | refine t_fBf by_s ?_ | refine t_bRt by_u ?_ | refine t_bRf by_u ?_ | refine t_oA rfl ?_ | refine t_oA by_a ?_ | refine t_old by_a by_r ?_ | refine t_readR by_a ?_ | refine t_bRt (encA_one (fun _ => rfl)) ?_); (conv => lhs; whnf)) | ((first | refine t_fB (fun hq => ?_) (fun hq => ?_) | refine t_bR (fun hq => ?_) (fun hq => ?_) | (first | refine t_callB (canRunOver_fn _ p base fr i hD hp hb hb1 hl hn hf0 (by omega) hin) rfl by_g rfl (fun hq => ?_) (fun hq => ?_))) <;> (try simp only [sbM, reduceCtorEq, frS_iff, frS_no] at hq) <;> (try (have hqt : hq = True.intro := rfl; clear hqt hq)) <;> (try (exact absurd trivial hq)) <;> (try (exfalso; omega)) <;> (conv => lhs; whnf))))
      (refine endG trivial rfl rfl by_g ?_; (conv => lhs; whnf))
      rw [due_none (fun j hj => hw j (by omega)), hlen]
      rfl
theorem hang_fn {a a2 : Option Addr} {n c n2 c2 : Nat} {ps : List Pt} (base hands : Int) (k : Nat) (p : Pt) (hP : Pts f a n c ps) (hg2 : grA a2 n2 c2 = true) (hk : ps[k]? = some p) :
    FnR Try.prog f 18 [.agg ⟨encRun a n c a2 n2 c2 base hands⟩, .int .i64 (k : Int)] ⟨.agg ⟨encH p base a2 n2 c2⟩, []⟩ := by
  have hg := hP.g
  have hlen := hP.len
  have hkl := (List.getElem?_eq_some_iff.1 hk).1
  obtain ⟨b, o, ha, hc⟩ := hP.at' k _ hk
  have hc0 := hc 0 _ rfl
  have hc1 := hc 1 _ rfl
  have hc2 := hc 2 _ rfl
  have hc3 := hc 3 _ rfl
  have hc4 := hc 4 _ rfl
  have hc5 := hc 5 _ rfl
  have hc6 := hc 6 _ rfl
  have hc7 := hc 7 _ rfl
  subst ha
  refine fn_J by_g rfl ?_
  (repeat' (first | refine J.seq ?_ | refine JP.one ?_ | refine JP.step ?_ | refine J.block ?_ | refine J.scope ?_ | (refine J.region (fun z => ?_); (conv => lhs; whnf)) | (refine J.cond rfl rfl (fun hq => ?_) (fun hq => ?_) <;> (try simp only [sbM, reduceCtorEq, frS_iff, frS_no] at hq) <;> (try (have hqt : hq = True.intro := rfl; clear hqt hq)) <;> (try (exact absurd trivial hq)) <;> (try (exfalso; omega))) | refine J.exit ?_ | refine J.ret ?_ | refine J.skip ?_ | refine J.label ?_ | (with_reducible first | refine then_normal ?_ | refine then_exit ?_ | refine then_ret ?_ | refine block_exit ?_ | refine block_normal ?_ | refine block_ret ?_ | refine block_exit_ne rfl ?_ | refine kI_go rfl ?_) | ((first | (apply t_next; focus ((conv => lhs; whnf); try exact rfl)) | refine t_forceN ?_ | refine t_addN by_o ?_ | refine t_subN by_o ?_ | refine t_mulN by_o ?_ | refine t_quo by_o by_o ?_ | refine t_rem by_o by_o ?_ | refine t_quoN by_o by_o ?_ | refine t_remN by_o ?_ | refine t_addC ?_ | refine t_subC ?_ | refine t_mulC ?_ | refine t_bRt rfl ?_ | refine t_bRf rfl ?_ | refine t_lim (k := 8) (K := 17592186044416) rfl rfl by_o ?_ | refine t_lim (k := 65536) (K := 2147483648) rfl rfl by_o ?_ | refine t_getC rfl ?_ | refine t_getC by_a ?_ | refine t_iRp rfl ?_ | refine t_iR by_o ?_ | refine t_iRn rfl ?_ | refine t_fBt rfl ?_ | refine t_fBf rfl ?_ | refine t_fBt by_s ?_ | refine t_fBf by_s ?_ | refine t_bRt by_u ?_ | refine t_bRf by_u ?_ | refine t_oA rfl ?_ | refine t_oA by_a ?_ | refine t_old by_a by_r ?_ | refine t_readR by_a ?_ | refine t_bRt (encA_one (fun _ => rfl)) ?_); (conv => lhs; whnf)) | ((first | refine t_fB (fun hq => ?_) (fun hq => ?_) | refine t_bR (fun hq => ?_) (fun hq => ?_) | (first | refine t_callB (canRunOver_fn _ p base fr i hD hp hb hb1 hl hn hf0 (by omega) hin) rfl by_g rfl (fun hq => ?_) (fun hq => ?_))) <;> (try simp only [sbM, reduceCtorEq, frS_iff, frS_no] at hq) <;> (try (have hqt : hq = True.intro := rfl; clear hqt hq)) <;> (try (exact absurd trivial hq)) <;> (try (exfalso; omega)) <;> (conv => lhs; whnf))))
  (refine endG trivial rfl rfl by_g ?_; (conv => lhs; whnf))
  rfl
def askE (np nd pot least fr to : Int) : Int := if frS pot 0 (np - 1) && frS to 0 (nd - 1) && frS fr least to then 0 else 31
theorem askE_z {np nd pot least fr to : Int} : askE np nd pot least fr to = 0 ↔ (0 ≤ pot ∧ pot ≤ np - 1) ∧ (0 ≤ to ∧ to ≤ nd - 1) ∧ (least ≤ fr ∧ fr ≤ to) := by
  unfold askE
  rw [← frS_iff, ← frS_iff, ← frS_iff]
  split <;> simp_all
theorem askE_no {np nd pot least fr to : Int} (h : ¬ ((0 ≤ pot ∧ pot ≤ np - 1) ∧ (0 ≤ to ∧ to ≤ nd - 1) ∧ (least ≤ fr ∧ fr ≤ to))) : askE np nd pot least fr to = 31 := by
  rw [← askE_z] at h
  unfold askE at h ⊢
  split <;> simp_all
theorem checkPot_fn {a a2 : Option Addr} {n c n2 c2 : Nat} (base hands pot least fr to : Int) (hg : grA a n c = true) (hg2 : grA a2 n2 c2 = true) (hn : n ≤ 9223372036854775807) (hn2 : n2 ≤ 9223372036854775807) :
    FnR Try.prog f 17 [.agg ⟨encRun a n c a2 n2 c2 base hands⟩, .int .i64 pot, .int .i64 least, .int .i64 fr, .int .i64 to] ⟨.int .i64 (askE n n2 pot least fr to), []⟩ := by
  refine fn_J by_g rfl ?_
  (repeat' (first | refine J.seq ?_ | refine JP.one ?_ | refine JP.step ?_ | refine J.block ?_ | refine J.scope ?_ | (refine J.region (fun z => ?_); (conv => lhs; whnf)) | (refine J.cond rfl rfl (fun hq => ?_) (fun hq => ?_) <;> (try simp only [sbM, reduceCtorEq, frS_iff, frS_no] at hq) <;> (try (have hqt : hq = True.intro := rfl; clear hqt hq)) <;> (try (exact absurd trivial hq)) <;> (try (exfalso; omega))) | refine J.exit ?_ | refine J.ret ?_ | refine J.skip ?_ | refine J.label ?_ | (with_reducible first | refine then_normal ?_ | refine then_exit ?_ | refine then_ret ?_ | refine block_exit ?_ | refine block_normal ?_ | refine block_ret ?_ | refine block_exit_ne rfl ?_ | refine kI_go rfl ?_) | ((first | (apply t_next; focus ((conv => lhs; whnf); try exact rfl)) | refine t_forceN ?_ | refine t_addN by_o ?_ | refine t_subN by_o ?_ | refine t_mulN by_o ?_ | refine t_quo by_o by_o ?_ | refine t_rem by_o by_o ?_ | refine t_quoN by_o by_o ?_ | refine t_remN by_o ?_ | refine t_addC ?_ | refine t_subC ?_ | refine t_mulC ?_ | refine t_bRt rfl ?_ | refine t_bRf rfl ?_ | refine t_lim (k := 8) (K := 17592186044416) rfl rfl by_o ?_ | refine t_lim (k := 65536) (K := 2147483648) rfl rfl by_o ?_ | refine t_getC rfl ?_ | refine t_getC by_a ?_ | refine t_iRp rfl ?_ | refine t_iR by_o ?_ | refine t_iRn rfl ?_ | refine t_fBt rfl ?_ | refine t_fBf rfl ?_ | refine t_fBt by_s ?_ | refine t_fBf by_s ?_ | refine t_bRt by_u ?_ | refine t_bRf by_u ?_ | refine t_oA rfl ?_ | refine t_oA by_a ?_ | refine t_old by_a by_r ?_ | refine t_readR by_a ?_ | refine t_bRt (encA_one (fun _ => rfl)) ?_); (conv => lhs; whnf)) | ((first | refine t_fB (fun hq => ?_) (fun hq => ?_) | refine t_bR (fun hq => ?_) (fun hq => ?_) | (first | refine t_callB (isFrom_fn _ _ _ _) rfl by_g rfl (fun hq => ?_) (fun hq => ?_))) <;> (try simp only [sbM, reduceCtorEq, frS_iff, frS_no] at hq) <;> (try (have hqt : hq = True.intro := rfl; clear hqt hq)) <;> (try (exact absurd trivial hq)) <;> (try (exfalso; omega)) <;> (conv => lhs; whnf))))
  all_goals first
    | ((refine endG trivial rfl rfl by_g ?_; (conv => lhs; whnf)); rw [askE_z.2 ⟨by omega, by omega, by omega⟩])
    | ((refine endG trivial rfl rfl by_g ?_; (conv => lhs; whnf)); rw [askE_no (by omega)])
end
end Go.Proofs.Ytpaabfecoghibaa
