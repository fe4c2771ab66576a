/- Package pot: levels. Conditions: as each theorem says. -/
import Derived.Test.YtpaabfecoghibaaPF
import Derived.Test.YtpaabfecoghibaaPD
namespace Go.Proofs.Ytpaabfecoghibaa
open Go Go.RowKit
attribute [local irreducible] addC subC mulC quoI remI forceN forceB bR getC iR kI callI rcI oldC oA nextC readR
set_option maxRecDepth 1000000
set_option maxHeartbeats 8000000
set_option linter.unusedVariables false
set_option linter.unusedSimpArgs false
theorem Sl.sub {α : Type} {f : Nat → Nat → Option Value} {enc : α → List Value} {k : Nat} {a : Option Addr} {n c u v : Nat} {l : List α} (h : Sl f enc k a n c l) (h0 : 0 < n) (h1 : u ≤ v) (h2 : v ≤ n) : Sl f enc k (sliceAd a c u k) (v - u) (c - u) ((l.take v).drop u) := by
  have hst := h.strong h0
  obtain ⟨hg, hlen, hnc, hle, hat⟩ := h
  have hat' : ∀ i x, ((l.take v).drop u)[i]? = some x → l[u + i]? = some x := fun i x hx => by
    rw [List.getElem?_drop, List.getElem?_take] at hx
    split at hx
    · exact hx
    · cases hx
  rw [sliceAd_eq]
  split
  · rename_i e
    refine ⟨?_, by rw [List.length_drop, List.length_take]; omega, by omega, by omega, fun i x hx => ?_⟩
    · cases a with
      | none => rw [show v - u = 0 by omega, show c - u = 0 by omega]; rfl
      | some a => exact grA_of hst
    · have h3 := (List.getElem?_eq_some_iff.1 (hat' i x hx)).1
      omega
  · rename_i e
    cases a with
    | none =>
      have h3 : (Nat.beq n 0 && Nat.beq c 0) = true := hg
      rw [Bool.and_eq_true, Nat.beq_eq, Nat.beq_eq] at h3
      omega
    | some a =>
      obtain ⟨b, o, s⟩ := a
      obtain rfl : s = none := by cases s <;> first | rfl | cases hst
      rw [Option.map_some, Addr.add_mid]
      refine ⟨rfl, by rw [List.length_drop, List.length_take]; omega, by omega, by omega, fun i x hx => ?_⟩
      obtain ⟨b', o', ha, hc⟩ := hat (u + i) x (hat' i x hx)
      cases ha
      refine ⟨b, o + u * k, rfl, fun j w hw => ?_⟩
      have := hc j w hw
      rw [Nat.add_mul, ← Nat.add_assoc] at this
      exact this
section
variable (f : Nat → Nat → Option Value)
theorem level_fn0 {a : Option Addr} {n c : Nat} {ds : List Dy} (p : Pt) (base : Int) (u day : Nat) (hD : Dys f a n c ds) (hp : PtOk p) (hb : 0 ≤ base) (hb1 : base ≤ 500) (hl : ∀ d ∈ ds, DyOk d) (hn : n ≤ 8) (hud : u ≤ day) (hdn : day < n) :
    FnR Try.prog f 30 [.agg ⟨encH p base a n c⟩, .int .i64 (u : Int), .int .i64 (day : Int)] ⟨.agg ⟨[.int .i64 (sumG true p base ((ds.take (day + 1)).drop u)), .int .i64 (sumG false p base ((ds.take (day + 1)).drop u))]⟩, []⟩ := by
  have hg := hD.g
  have hnc := hD.nc
  have hgs : grS a n c = true := (gr_slice 5 a n c).trans (hD.strong (by omega))
  have hsub := hD.sub (u := u) (v := day + 1) (by omega) (by omega) (by omega)
  have hls : ∀ d ∈ (ds.take (day + 1)).drop u, DyOk d := fun d h => hl d (List.mem_of_mem_take (List.mem_of_mem_drop h))
  refine fn_J by_g rfl ?_
  (repeat' (first | refine J.seq ?_ | refine JP.one ?_ | refine JP.step ?_ | refine J.block ?_ | refine J.scope ?_ | (refine J.region (fun z => ?_); (conv => lhs; whnf)) | (refine J.cond rfl rfl (fun hq => ?_) (fun hq => ?_) <;> (try simp only [sbM, reduceCtorEq, frS_iff, frS_no] at hq) <;> (try (have hqt : hq = True.intro := rfl; clear hqt hq)) <;> (try (exact absurd trivial hq)) <;> (try (exfalso; omega))) | refine J.exit ?_ | refine J.ret ?_ | refine J.skip ?_ | refine J.label ?_ | (with_reducible first | refine then_normal ?_ | refine then_exit ?_ | refine then_ret ?_ | refine block_exit ?_ | refine block_normal ?_ | refine block_ret ?_ | refine block_exit_ne rfl ?_ | refine kI_go rfl ?_) | ((first | (apply t_next; focus ((conv => lhs; whnf); try exact rfl)) | refine t_forceN ?_ | refine t_addN by_o ?_ | refine t_subN by_o ?_ | refine t_mulN by_o ?_ | refine t_quo by_o by_o ?_ | refine t_rem by_o by_o ?_ | refine t_quoN by_o by_o ?_ | refine t_remN by_o ?_ | refine t_addC ?_ | refine t_subC ?_ | refine t_mulC ?_ | refine t_bRt rfl ?_ | refine t_bRf rfl ?_ | refine t_lim (k := 8) (K := 17592186044416) rfl rfl by_o ?_ | refine t_lim (k := 65536) (K := 2147483648) rfl rfl by_o ?_ | refine t_getC rfl ?_ | refine t_getC by_a ?_ | refine t_iRp rfl ?_ | refine t_iR by_o ?_ | refine t_iRn rfl ?_ | refine t_fBt rfl ?_ | refine t_fBf rfl ?_ | refine t_fBt by_s ?_ | refine t_fBf by_s ?_ | refine t_bRt by_u ?_ | refine t_bRf by_u ?_ | refine t_oA rfl ?_ | refine t_oA by_a ?_ | refine t_old by_a by_r ?_ | refine t_readR by_a ?_ | refine t_bRt (encA_one (fun _ => rfl)) ?_ | refine t_call0 (hT1) rfl by_g rfl by_k ?_ | refine t_call0 (hT2) rfl by_g rfl by_k ?_); (conv => lhs; whnf)) | ((first | refine t_fB (fun hq => ?_) (fun hq => ?_) | refine t_bR (fun hq => ?_) (fun hq => ?_)) <;> (try simp only [sbM, reduceCtorEq, frS_iff, frS_no] at hq) <;> (try (have hqt : hq = True.intro := rfl; clear hqt hq)) <;> (try (exact absurd trivial hq)) <;> (try (exfalso; omega)) <;> (conv => lhs; whnf))))
  · generalize hs0 : sliceAd a c u _ = a'
    have hs1 : sliceAd a c u 4 = a' := hs0
    rw [hs1] at hsub
    have hT1 := total_fn f true p base hg hsub hp hb hb1 hls (by omega)
    have hT2 := total_fn f false p base hg hsub hp hb hb1 hls (by omega)
    have hgs2 := hsub.g
    generalize sumG true p base ((ds.take (day + 1)).drop u) = lo at *
    generalize sumG false p base ((ds.take (day + 1)).drop u) = hi at *
    clear hs0 hs1
    (repeat' (first | refine J.seq ?_ | refine JP.one ?_ | refine JP.step ?_ | refine J.block ?_ | refine J.scope ?_ | (refine J.region (fun z => ?_); (conv => lhs; whnf)) | (refine J.cond rfl rfl (fun hq => ?_) (fun hq => ?_) <;> (try simp only [sbM, reduceCtorEq, frS_iff, frS_no] at hq) <;> (try (have hqt : hq = True.intro := rfl; clear hqt hq)) <;> (try (exact absurd trivial hq)) <;> (try (exfalso; omega))) | refine J.exit ?_ | refine J.ret ?_ | refine J.skip ?_ | refine J.label ?_ | (with_reducible first | refine then_normal ?_ | refine then_exit ?_ | refine then_ret ?_ | refine block_exit ?_ | refine block_normal ?_ | refine block_ret ?_ | refine block_exit_ne rfl ?_ | refine kI_go rfl ?_) | ((first | (apply t_next; focus ((conv => lhs; whnf); try exact rfl)) | refine t_forceN ?_ | refine t_addN by_o ?_ | refine t_subN by_o ?_ | refine t_mulN by_o ?_ | refine t_quo by_o by_o ?_ | refine t_rem by_o by_o ?_ | refine t_quoN by_o by_o ?_ | refine t_remN by_o ?_ | refine t_addC ?_ | refine t_subC ?_ | refine t_mulC ?_ | refine t_bRt rfl ?_ | refine t_bRf rfl ?_ | refine t_lim (k := 8) (K := 17592186044416) rfl rfl by_o ?_ | refine t_lim (k := 65536) (K := 2147483648) rfl rfl by_o ?_ | refine t_getC rfl ?_ | refine t_getC by_a ?_ | refine t_iRp rfl ?_ | refine t_iR by_o ?_ | refine t_iRn rfl ?_ | refine t_fBt rfl ?_ | refine t_fBf rfl ?_ | refine t_fBt by_s ?_ | refine t_fBf by_s ?_ | refine t_bRt by_u ?_ | refine t_bRf by_u ?_ | refine t_oA rfl ?_ | refine t_oA by_a ?_ | refine t_old by_a by_r ?_ | refine t_readR by_a ?_ | refine t_bRt (encA_one (fun _ => rfl)) ?_ | refine t_call0 (hT1) rfl by_g rfl by_k ?_ | refine t_call0 (hT2) rfl by_g rfl by_k ?_); (conv => lhs; whnf)) | ((first | refine t_fB (fun hq => ?_) (fun hq => ?_) | refine t_bR (fun hq => ?_) (fun hq => ?_)) <;> (try simp only [sbM, reduceCtorEq, frS_iff, frS_no] at hq) <;> (try (have hqt : hq = True.intro := rfl; clear hqt hq)) <;> (try (exact absurd trivial hq)) <;> (try (exfalso; omega)) <;> (conv => lhs; whnf))))
    (refine endG trivial rfl rfl by_g ?_; (conv => lhs; whnf))
    rfl
  · obtain rfl : u = 0 := by omega
    generalize hs0 : sliceAd a c 0 _ = a'
    have hs1 : sliceAd a c 0 4 = a' := hs0
    rw [hs1] at hsub
    have hT1 := total_fn f true p base hg hsub hp hb hb1 hls (by omega)
    have hT2 := total_fn f false p base hg hsub hp hb hb1 hls (by omega)
    have hgs2 := hsub.g
    generalize sumG true p base ((ds.take (day + 1)).drop 0) = lo at *
    generalize sumG false p base ((ds.take (day + 1)).drop 0) = hi at *
    clear hs0 hs1
    (repeat' (first | refine J.seq ?_ | refine JP.one ?_ | refine JP.step ?_ | refine J.block ?_ | refine J.scope ?_ | (refine J.region (fun z => ?_); (conv => lhs; whnf)) | (refine J.cond rfl rfl (fun hq => ?_) (fun hq => ?_) <;> (try simp only [sbM, reduceCtorEq, frS_iff, frS_no] at hq) <;> (try (have hqt : hq = True.intro := rfl; clear hqt hq)) <;> (try (exact absurd trivial hq)) <;> (try (exfalso; omega))) | refine J.exit ?_ | refine J.ret ?_ | refine J.skip ?_ | refine J.label ?_ | (with_reducible first | refine then_normal ?_ | refine then_exit ?_ | refine then_ret ?_ | refine block_exit ?_ | refine block_normal ?_ | refine block_ret ?_ | refine block_exit_ne rfl ?_ | refine kI_go rfl ?_) | ((first | (apply t_next; focus ((conv => lhs; whnf); try exact rfl)) | refine t_forceN ?_ | refine t_addN by_o ?_ | refine t_subN by_o ?_ | refine t_mulN by_o ?_ | refine t_quo by_o by_o ?_ | refine t_rem by_o by_o ?_ | refine t_quoN by_o by_o ?_ | refine t_remN by_o ?_ | refine t_addC ?_ | refine t_subC ?_ | refine t_mulC ?_ | refine t_bRt rfl ?_ | refine t_bRf rfl ?_ | refine t_lim (k := 8) (K := 17592186044416) rfl rfl by_o ?_ | refine t_lim (k := 65536) (K := 2147483648) rfl rfl by_o ?_ | refine t_getC rfl ?_ | refine t_getC by_a ?_ | refine t_iRp rfl ?_ | refine t_iR by_o ?_ | refine t_iRn rfl ?_ | refine t_fBt rfl ?_ | refine t_fBf rfl ?_ | refine t_fBt by_s ?_ | refine t_fBf by_s ?_ | refine t_bRt by_u ?_ | refine t_bRf by_u ?_ | refine t_oA rfl ?_ | refine t_oA by_a ?_ | refine t_old by_a by_r ?_ | refine t_readR by_a ?_ | refine t_bRt (encA_one (fun _ => rfl)) ?_ | refine t_call0 (hT1) rfl by_g rfl by_k ?_ | refine t_call0 (hT2) rfl by_g rfl by_k ?_); (conv => lhs; whnf)) | ((first | refine t_fB (fun hq => ?_) (fun hq => ?_) | refine t_bR (fun hq => ?_) (fun hq => ?_)) <;> (try simp only [sbM, reduceCtorEq, frS_iff, frS_no] at hq) <;> (try (have hqt : hq = True.intro := rfl; clear hqt hq)) <;> (try (exact absurd trivial hq)) <;> (try (exfalso; omega)) <;> (conv => lhs; whnf))))
    (refine endG trivial rfl rfl by_g ?_; (conv => lhs; whnf))
    rfl
theorem level_fn1 {a : Option Addr} {n c : Nat} {ds : List Dy} (p : Pt) (base : Int) (day : Nat) (hD : Dys f a n c ds) (hp : PtOk p) (hb : 0 ≤ base) (hb1 : base ≤ 500) (hl : ∀ d ∈ ds, DyOk d) (hn : n ≤ 8) (hdn : day < n) (hlo : 0 ≤ p.lo) (hlh : p.lo ≤ p.hi) (hhi : p.hi ≤ 10000000) :
    FnR Try.prog f 30 [.agg ⟨encH p base a n c⟩, .int .i64 (-1), .int .i64 (day : Int)] ⟨.agg ⟨[.int .i64 (sumG true p base (ds.take (day + 1)) + p.lo), .int .i64 (sumG false p base (ds.take (day + 1)) + p.hi)]⟩, []⟩ := by
  have hg := hD.g
  have hnc := hD.nc
  have hgs : grS a n c = true := (gr_slice 5 a n c).trans (hD.strong (by omega))
  have hsub := hD.sub (u := 0) (v := day + 1) (by omega) (by omega) (by omega)
  rw [List.drop_zero] at hsub
  have hls : ∀ d ∈ ds.take (day + 1), DyOk d := fun d h => hl d (List.mem_of_mem_take h)
  have hb3 := sumG_in (k := true) hp hb _ hls
  have hb4 := sumG_in (k := false) hp hb _ hls
  rw [List.length_take, hD.len] at hb3 hb4
  refine fn_J by_g rfl ?_
  (repeat' (first | refine J.seq ?_ | refine JP.one ?_ | refine JP.step ?_ | refine J.block ?_ | refine J.scope ?_ | (refine J.region (fun z => ?_); (conv => lhs; whnf)) | (refine J.cond rfl rfl (fun hq => ?_) (fun hq => ?_) <;> (try simp only [sbM, reduceCtorEq, frS_iff, frS_no] at hq) <;> (try (have hqt : hq = True.intro := rfl; clear hqt hq)) <;> (try (exact absurd trivial hq)) <;> (try (exfalso; omega))) | refine J.exit ?_ | refine J.ret ?_ | refine J.skip ?_ | refine J.label ?_ | (with_reducible first | refine then_normal ?_ | refine then_exit ?_ | refine then_ret ?_ | refine block_exit ?_ | refine block_normal ?_ | refine block_ret ?_ | refine block_exit_ne rfl ?_ | refine kI_go rfl ?_) | ((first | (apply t_next; focus ((conv => lhs; whnf); try exact rfl)) | refine t_forceN ?_ | refine t_addN by_o ?_ | refine t_subN by_o ?_ | refine t_mulN by_o ?_ | refine t_quo by_o by_o ?_ | refine t_rem by_o by_o ?_ | refine t_quoN by_o by_o ?_ | refine t_remN by_o ?_ | refine t_addC ?_ | refine t_subC ?_ | refine t_mulC ?_ | refine t_bRt rfl ?_ | refine t_bRf rfl ?_ | refine t_lim (k := 8) (K := 17592186044416) rfl rfl by_o ?_ | refine t_lim (k := 65536) (K := 2147483648) rfl rfl by_o ?_ | refine t_getC rfl ?_ | refine t_getC by_a ?_ | refine t_iRp rfl ?_ | refine t_iR by_o ?_ | refine t_iRn rfl ?_ | refine t_fBt rfl ?_ | refine t_fBf rfl ?_ | refine t_fBt by_s ?_ | refine t_fBf by_s ?_ | refine t_bRt by_u ?_ | refine t_bRf by_u ?_ | refine t_oA rfl ?_ | refine t_oA by_a ?_ | refine t_old by_a by_r ?_ | refine t_readR by_a ?_ | refine t_bRt (encA_one (fun _ => rfl)) ?_ | refine t_call0 (hT1) rfl by_g rfl by_k ?_ | refine t_call0 (hT2) rfl by_g rfl by_k ?_); (conv => lhs; whnf)) | ((first | refine t_fB (fun hq => ?_) (fun hq => ?_) | refine t_bR (fun hq => ?_) (fun hq => ?_)) <;> (try simp only [sbM, reduceCtorEq, frS_iff, frS_no] at hq) <;> (try (have hqt : hq = True.intro := rfl; clear hqt hq)) <;> (try (exact absurd trivial hq)) <;> (try (exfalso; omega)) <;> (conv => lhs; whnf))))
  generalize hs0 : sliceAd a c 0 _ = a'
  have hs1 : sliceAd a c 0 4 = a' := hs0
  rw [hs1] at hsub
  have hT1 := total_fn f true p base hg hsub hp hb hb1 hls (by omega)
  have hT2 := total_fn f false p base hg hsub hp hb hb1 hls (by omega)
  have hgs2 := hsub.g
  generalize sumG true p base (ds.take (day + 1)) = lo at *
  generalize sumG false p base (ds.take (day + 1)) = hi at *
  clear hs0 hs1
  (repeat' (first | refine J.seq ?_ | refine JP.one ?_ | refine JP.step ?_ | refine J.block ?_ | refine J.scope ?_ | (refine J.region (fun z => ?_); (conv => lhs; whnf)) | (refine J.cond rfl rfl (fun hq => ?_) (fun hq => ?_) <;> (try simp only [sbM, reduceCtorEq, frS_iff, frS_no] at hq) <;> (try (have hqt : hq = True.intro := rfl; clear hqt hq)) <;> (try (exact absurd trivial hq)) <;> (try (exfalso; omega))) | refine J.exit ?_ | refine J.ret ?_ | refine J.skip ?_ | refine J.label ?_ | (with_reducible first | refine then_normal ?_ | refine then_exit ?_ | refine then_ret ?_ | refine block_exit ?_ | refine block_normal ?_ | refine block_ret ?_ | refine block_exit_ne rfl ?_ | refine kI_go rfl ?_) | ((first | (apply t_next; focus ((conv => lhs; whnf); try exact rfl)) | refine t_forceN ?_ | refine t_addN by_o ?_ | refine t_subN by_o ?_ | refine t_mulN by_o ?_ | refine t_quo by_o by_o ?_ | refine t_rem by_o by_o ?_ | refine t_quoN by_o by_o ?_ | refine t_remN by_o ?_ | refine t_addC ?_ | refine t_subC ?_ | refine t_mulC ?_ | refine t_bRt rfl ?_ | refine t_bRf rfl ?_ | refine t_lim (k := 8) (K := 17592186044416) rfl rfl by_o ?_ | refine t_lim (k := 65536) (K := 2147483648) rfl rfl by_o ?_ | refine t_getC rfl ?_ | refine t_getC by_a ?_ | refine t_iRp rfl ?_ | refine t_iR by_o ?_ | refine t_iRn rfl ?_ | refine t_fBt rfl ?_ | refine t_fBf rfl ?_ | refine t_fBt by_s ?_ | refine t_fBf by_s ?_ | refine t_bRt by_u ?_ | refine t_bRf by_u ?_ | refine t_oA rfl ?_ | refine t_oA by_a ?_ | refine t_old by_a by_r ?_ | refine t_readR by_a ?_ | refine t_bRt (encA_one (fun _ => rfl)) ?_ | refine t_call0 (hT1) rfl by_g rfl by_k ?_ | refine t_call0 (hT2) rfl by_g rfl by_k ?_); (conv => lhs; whnf)) | ((first | refine t_fB (fun hq => ?_) (fun hq => ?_) | refine t_bR (fun hq => ?_) (fun hq => ?_)) <;> (try simp only [sbM, reduceCtorEq, frS_iff, frS_no] at hq) <;> (try (have hqt : hq = True.intro := rfl; clear hqt hq)) <;> (try (exact absurd trivial hq)) <;> (try (exfalso; omega)) <;> (conv => lhs; whnf))))
  (refine endG trivial rfl rfl by_g ?_; (conv => lhs; whnf))
  rfl
end
end Go.Proofs.Ytpaabfecoghibaa
