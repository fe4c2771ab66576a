/- Package pot, and its reference: how often a pot must be emptied. Conditions: as each theorem says. -/
import Derived.Test.YtpaabfecoghibaaPQ
import Derived.Test.YtpaabfecoghibaaPL
namespace Go.Proofs.Ytpaabfecoghibaa
open Go Go.RowKit
attribute [local irreducible] addC subC mulC quoI remI forceN forceB bR getC iR kI callI rcI oldC oA nextC readR
set_option maxRecDepth 1000000
set_option maxHeartbeats 8000000
set_option linter.unusedVariables false
set_option linter.unusedSimpArgs false
theorem by_sbPT {P : Prop} (h : P := by (refine slotsF rfl rfl ?_; repeat (first | exact AllSl.nil | refine AllSl.no (by (conv => arg 1; whnf); first | exact Or.inl (gx _) | exact junk_b rfl | exact Or.inl by_g) ?_ | refine AllSl.so (by (conv => arg 3; whnf); first | exact SimV.int (by first | rfl | omega | (simp [hL])) | exact SimV.bool (by first | rfl | assumption | (simp [hL])) | exact SimV.slice rfl rfl (by first | rfl | omega) (by first | rfl | omega) | exact SimV.ptr rfl rfl | exact SimV.ground rfl | exact SimV.ground by_g | exact SimV.map rfl | exact SimV.func .nil .nil | exact SimV.func .nil (.cons (.ptr rfl rfl) .nil) | exact SimV.func .nil (.cons (.ptr rfl rfl) (.cons (.ptr rfl rfl) .nil)) | fail) ?_))) : P := h
theorem by_s0PT {P : Prop} (h : P := by (refine slotsF rfl rfl ?_; repeat (first | exact AllSl.nil | refine AllSl.no (by (conv => arg 1; whnf); first | exact junk_b rfl | exact Or.inl by_g) ?_ | refine AllSl.so (by (conv => arg 3; whnf); first | exact SimV.int (by first | rfl | omega | (simp [hL])) | exact SimV.bool (by first | rfl | assumption | (simp [hL])) | exact SimV.slice rfl rfl (by first | rfl | omega) (by first | rfl | omega) | exact SimV.ptr rfl rfl | exact SimV.ground rfl | exact SimV.ground by_g | exact SimV.map rfl | exact SimV.func .nil .nil | exact SimV.func .nil (.cons (.ptr rfl rfl) .nil) | exact SimV.func .nil (.cons (.ptr rfl rfl) (.cons (.ptr rfl rfl) .nil)) | fail) ?_))) : P := h
section
variable (f : Nat → Nat → Option Value)
theorem need_fn {a : Option Addr} {n c : Nat} {ds : List Dy} (p : Pt) (base : Int) (fr to : Nat) (hD : Dys f a n c ds) (hp : PtOk2 p) (hb : 0 ≤ base) (hb1 : base ≤ 500) (hl : ∀ d ∈ ds, DyOk d) (hn8 : n ≤ 8) (hft : fr ≤ to) (htn : to < n) :
    FnR Try.prog f 31 [.agg ⟨encH p base a n c⟩, .int .i64 (fr : Int), .int .i64 (to : Int)] ⟨.int .i64 (needV p base ds fr to), []⟩ := by
  have hg := hD.g
  have hlen := hD.len
  have htl : to < ds.length := by omega
  obtain ⟨last0, hcase⟩ : ∃ last0 : Int, (fr = 0 ∧ last0 = -1) ∨ (fr ≠ 0 ∧ last0 = fr) := by
    by_cases h : fr = 0
    · exact ⟨-1, .inl ⟨h, rfl⟩⟩
    · exact ⟨fr, .inr ⟨h, rfl⟩⟩
  have hneed : needO p base ds fr to = runN p.size (rstL p base ds last0.toNat to) (h0F p last0) := by
    rcases hcase with ⟨rfl, rfl⟩ | ⟨h, rfl⟩
    · rfl
    · rw [needO, h0F, if_neg h, if_neg (by omega), Int.toNat_natCast]
  rcases hcase with ⟨hf0, hL⟩ | ⟨hf0, hL⟩
  all_goals
    refine fn_J by_g rfl ?_
    (repeat' (first | refine J.seq ?_ | refine JP.one ?_ | refine JP.step ?_ | refine J.block ?_ | refine J.scope ?_ | (refine J.region (fun z => ?_); (conv => lhs; whnf)) | (refine J.cond rfl rfl (fun hq => ?_) (fun hq => ?_) <;> (try simp only [sbM, reduceCtorEq, frS_iff, frS_no] at hq) <;> (try (have hqt : hq = True.intro := rfl; clear hqt hq)) <;> (try (exact absurd trivial hq)) <;> (try (exfalso; omega))) | refine J.exit ?_ | refine J.ret ?_ | refine J.skip ?_ | refine J.label ?_ | (with_reducible first | refine then_normal ?_ | refine then_exit ?_ | refine then_ret ?_ | refine block_exit ?_ | refine block_normal ?_ | refine block_ret ?_ | refine block_exit_ne rfl ?_ | refine kI_go rfl ?_) | ((first | (apply t_next; focus ((conv => lhs; whnf); try exact rfl)) | refine t_forceN ?_ | refine t_addN by_o ?_ | refine t_subN by_o ?_ | refine t_mulN by_o ?_ | refine t_quo by_o by_o ?_ | refine t_rem by_o by_o ?_ | refine t_quoN by_o by_o ?_ | refine t_remN by_o ?_ | refine t_addC ?_ | refine t_subC ?_ | refine t_mulC ?_ | refine t_bRt rfl ?_ | refine t_bRf rfl ?_ | refine t_lim (k := 8) (K := 17592186044416) rfl rfl by_o ?_ | refine t_lim (k := 65536) (K := 2147483648) rfl rfl by_o ?_ | refine t_getC rfl ?_ | refine t_getC by_a ?_ | refine t_iRp rfl ?_ | refine t_iR by_o ?_ | refine t_iRn rfl ?_ | refine t_fBt rfl ?_ | refine t_fBf rfl ?_ | refine t_fBt by_s ?_ | refine t_fBf by_s ?_ | refine t_bRt by_u ?_ | refine t_bRf by_u ?_ | refine t_oA rfl ?_ | refine t_oA by_a ?_ | refine t_old by_a by_r ?_ | refine t_readR by_a ?_ | refine t_bRt (encA_one (fun _ => rfl)) ?_ | refine t_call0 (due_fn _ p base (-1) hD hp hb hb1 hl hn8 (by omega)) rfl by_g rfl by_k ?_ | refine t_call0 (due_fn _ p base (fr : Int) hD hp hb hb1 hl hn8 (by omega)) rfl by_g rfl by_k ?_ | refine t_call0 (due_fn _ p base (d : Int) hD hp hb hb1 hl hn8 (by omega)) rfl by_g rfl by_k ?_); (conv => lhs; whnf)) | ((first | refine t_fB (fun hq => ?_) (fun hq => ?_) | refine t_bR (fun hq => ?_) (fun hq => ?_)) <;> (try simp only [sbM, reduceCtorEq, frS_iff, frS_no] at hq) <;> (try (have hqt : hq = True.intro := rfl; clear hqt hq)) <;> (try (exact absurd trivial hq)) <;> (try (exfalso; omega)) <;> (conv => lhs; whnf))))
    refine J.loop (LJ.ind (fun q : Int × Nat => [none, some (.int .i64 (fr : Int)), some (.int .i64 (to : Int)), some (.pointer (some ⟨0, 0, some 0⟩)), none, none, none, some (.int .i64 q.1), some (.int .i64 (q.2 : Int)), some (.int .i64 (dueF p base ds q.1 : Nat)), none, none, none, none, none, none, none, none, none, none, none, none, none, none, none, none, none, none, none, none, none, none, none]) (fun _ => [(58, encH p base a n c)]) (fun q => -1 ≤ q.1 ∧ q.1 ≤ (to : Int) ∧ (q.2 : Int) ≤ q.1 + 1 ∧ needO p base ds fr to = (runN p.size (rstL p base ds q.1.toNat to) (h0F p q.1)).map (· + q.2)) (fun q => ((to : Int) - q.1).toNat) (last0, 0) [0] ⟨by dsimp only; omega, by dsimp only; omega, by dsimp only; omega, by rw [hneed]; simp⟩ rfl ?_ ?_ ?_)
    · exact ⟨_, _, _, rfl, rfl, SimL.ground (l := encH p base a n c) by_g, nin rfl, trivial⟩
    · exact by_s0PT
    · rintro ⟨last, times⟩ ⟨h0, h1, h2, h3⟩ vs ⟨xs, gx, rfl⟩ IH
      dsimp only at h0 h1 h2 h3
      have ha := need_a hp hb hl htl h0 h1
      have hb' := need_b hp hb hl htl h0 h1
      have hc := need_c hp hb hl htl h0 h1
      have hge : dueF p base ds last ≤ to → last ≤ (dueF p base ds last : Int) := fun h => (due_at (by omega)).1
      dsimp only
      generalize dueF p base ds last = d at *
      clear hL
      (repeat' (first | refine J.seq ?_ | refine JP.one ?_ | refine JP.step ?_ | refine J.block ?_ | refine J.scope ?_ | (refine J.region (fun z => ?_); (conv => lhs; whnf)) | (refine J.cond rfl rfl (fun hq => ?_) (fun hq => ?_) <;> (try simp only [sbM, reduceCtorEq, frS_iff, frS_no] at hq) <;> (try (have hqt : hq = True.intro := rfl; clear hqt hq)) <;> (try (exact absurd trivial hq)) <;> (try (exfalso; omega))) | refine J.exit ?_ | refine J.ret ?_ | refine J.skip ?_ | refine J.label ?_ | (with_reducible first | refine then_normal ?_ | refine then_exit ?_ | refine then_ret ?_ | refine block_exit ?_ | refine block_normal ?_ | refine block_ret ?_ | refine block_exit_ne rfl ?_ | refine kI_go rfl ?_) | ((first | (apply t_next; focus ((conv => lhs; whnf); try exact rfl)) | refine t_forceN ?_ | refine t_addN by_o ?_ | refine t_subN by_o ?_ | refine t_mulN by_o ?_ | refine t_quo by_o by_o ?_ | refine t_rem by_o by_o ?_ | refine t_quoN by_o by_o ?_ | refine t_remN by_o ?_ | refine t_addC ?_ | refine t_subC ?_ | refine t_mulC ?_ | refine t_bRt rfl ?_ | refine t_bRf rfl ?_ | refine t_lim (k := 8) (K := 17592186044416) rfl rfl by_o ?_ | refine t_lim (k := 65536) (K := 2147483648) rfl rfl by_o ?_ | refine t_getC rfl ?_ | refine t_getC by_a ?_ | refine t_iRp rfl ?_ | refine t_iR by_o ?_ | refine t_iRn rfl ?_ | refine t_fBt rfl ?_ | refine t_fBf rfl ?_ | refine t_fBt by_s ?_ | refine t_fBf by_s ?_ | refine t_bRt by_u ?_ | refine t_bRf by_u ?_ | refine t_oA rfl ?_ | refine t_oA by_a ?_ | refine t_old by_a by_r ?_ | refine t_readR by_a ?_ | refine t_bRt (encA_one (fun _ => rfl)) ?_ | refine t_call0 (due_fn _ p base (-1) hD hp hb hb1 hl hn8 (by omega)) rfl by_g rfl by_k ?_ | refine t_call0 (due_fn _ p base (fr : Int) hD hp hb hb1 hl hn8 (by omega)) rfl by_g rfl by_k ?_ | refine t_call0 (due_fn _ p base (d : Int) hD hp hb hb1 hl hn8 (by omega)) rfl by_g rfl by_k ?_); (conv => lhs; whnf)) | ((first | refine t_fB (fun hq => ?_) (fun hq => ?_) | refine t_bR (fun hq => ?_) (fun hq => ?_)) <;> (try simp only [sbM, reduceCtorEq, frS_iff, frS_no] at hq) <;> (try (have hqt : hq = True.intro := rfl; clear hqt hq)) <;> (try (exact absurd trivial hq)) <;> (try (exfalso; omega)) <;> (conv => lhs; whnf))))
      all_goals first
        | (refine LJ.ren _ [(58, encH p base a n c)] [0] rfl ⟨_, _, _, rfl, rfl, SimL.ground (l := encH p base a n c) by_g, nin rfl, trivial⟩ ?_ (IH ((d : Int), times + 1) ⟨by dsimp only; omega, by dsimp only; omega, by dsimp only; omega, ?_⟩ (by dsimp only; omega))
           · exact by_sbPT
           · rw [h3, hc (by omega) (by omega)]
             dsimp only
             rw [Int.toNat_natCast, show h0F p (d : Int) = 0 from if_neg (by omega), Option.map_map]
             congr 1; funext x; simp; omega)
        | ((refine endG trivial rfl rfl by_g ?_; (conv => lhs; whnf))
           rw [needV_none (by rw [h3, hb' (by omega) (by omega)]; rfl)])
        | ((refine endG trivial rfl rfl by_g ?_; (conv => lhs; whnf))
           rw [needV_some (n := times) (by rw [h3, ha (by omega)]; simp)])
end
end Go.Proofs.Ytpaabfecoghibaa
