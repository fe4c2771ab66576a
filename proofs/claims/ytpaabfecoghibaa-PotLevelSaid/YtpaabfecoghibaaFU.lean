/- PotLevel: from the truth on. Conditions: as each theorem says. -/
import Derived.Test.YtpaabfecoghibaaFT
namespace Go.Proofs.Ytpaabfecoghibaa
open Go Go.RowKit
attribute [local irreducible] addC subC mulC quoI remI forceN forceB bR getC iR kI callI rcI oldC oA nextC readR
set_option maxRecDepth 1000000
set_option maxHeartbeats 8000000
set_option linter.unusedVariables false
set_option linter.unusedSimpArgs false
theorem by_sbFU {P : Prop} (h : P := by (refine slotsF rfl rfl ?_; repeat (first | exact AllSl.nil | refine AllSl.no (by (conv => arg 1; whnf); first | exact Or.inl (gx _) | exact junk_b rfl | exact Or.inl by_g) ?_ | refine AllSl.so (by (conv => arg 3; whnf); first | exact SimV.int (by first | rfl | omega | (dsimp only; omega)) | exact SimV.bool (by first | rfl | assumption | (dsimp only; omega)) | exact SimV.slice rfl rfl (by first | rfl | omega) (by first | rfl | omega) | exact SimV.ptr rfl rfl | exact SimV.ground rfl | exact SimV.ground by_g | exact SimV.map rfl | exact SimV.func .nil .nil | exact SimV.func .nil (.cons (.ptr rfl rfl) .nil) | exact SimV.func .nil (.cons (.ptr rfl rfl) (.cons (.ptr rfl rfl) .nil)) | fail) ?_))) : P := h
theorem by_s0FU {P : Prop} (h : P := by (refine slotsF rfl rfl ?_; repeat (first | exact AllSl.nil | refine AllSl.no (by (conv => arg 1; whnf); first | exact junk_b rfl | exact Or.inl by_g) ?_ | refine AllSl.so (by (conv => arg 3; whnf); first | exact SimV.int (by first | rfl | omega | (dsimp only; omega)) | exact SimV.bool (by first | rfl | assumption | (dsimp only; omega)) | exact SimV.slice rfl rfl (by first | rfl | omega) (by first | rfl | omega) | exact SimV.ptr rfl rfl | exact SimV.ground rfl | exact SimV.ground by_g | exact SimV.map rfl | exact SimV.func .nil .nil | exact SimV.func .nil (.cons (.ptr rfl rfl) .nil) | exact SimV.func .nil (.cons (.ptr rfl rfl) (.cons (.ptr rfl rfl) .nil)) | fail) ?_))) : P := h
section
variable (f : Nat → Nat → Option Value)
theorem level_rest {a a2 : Option Addr} {n c n2 c2 : Nat} {ps : List Pt} {ds : List Dy} {bits : List Int} (base hands fr : Int) (k : Nat) (p : Pt) (q0 : Nat) (h0 : Int) (hP : Pts f a n c ps) (hD : Dys f a2 n2 c2 ds) (hez : levE ps ds base hands k fr ((ds.length : Int) - 1) = 0) (hk : ps[k]? = some p) (hwk : FnR Try.prog f 7 [] ⟨.bool true, []⟩)
    (hq0 : (fr = -1 ∧ q0 = 0 ∧ h0 = pickF bits p.lo p.hi (3 * (k : Int))) ∨ (fr = (q0 : Int) ∧ h0 = 0)) (vs : List Value) (hv : MatchL (levL ((dueF p base ds fr : Nat) : Int)) vs) :
    J Try.prog f 0 (postC 5 (finfo Try.prog 3).body) (frL (levL ((dueF p base ds fr : Nat) : Int)).length vs) (memSH (levM a n c a2 n2 c2 base hands k fr p (truW ds bits) (truR ds bits) (truH ps bits)) sh0) (EndF Try.prog f 3 ⟨.bool true, []⟩) := by
  obtain ⟨xs, gx, rfl⟩ := hv
  have hg := hP.g
  have hg2 := hD.g
  have hlen := hP.len
  have hlen2 := hD.len
  have hat2 := hD.at'
  have hez2 := hez
  rw [levE, orE2_z] at hez
  obtain ⟨h1, h2⟩ := hez
  obtain ⟨hn6, hn8, ⟨hb, hb1⟩, hpt, hl⟩ := run_ok h1
  obtain ⟨⟨hk0, hk1⟩, _, hf0, hf1⟩ := askE_z.1 h2
  have hp := hpt k p hk
  have hpl := hp.l0
  have hpl1 := hp.l1
  have hpl2 := hp.l2
  have hcH := enc_get (truH_get (bits := bits) hk)
  have hph := pickF_in (bits := bits) (i := 3 * (k : Int)) hp.l1
  have hst1 := acc_start (k := true) (p := p) (base := base) (ds := ds) (fr := fr)
  have hst2 := acc_start (k := false) (p := p) (base := base) (ds := ds) (fr := fr)
  generalize pickF bits p.lo p.hi (3 * (k : Int)) = vh at *
  obtain ⟨hd1, hd2⟩ := due_in (p := p) (base := base) (ds := ds) hf1 hn8.1
  have hqs : fr.toNat = q0 ∧ q0 ≤ n2 ∧ accF true p base ds fr q0 ≤ h0 ∧ h0 ≤ accF false p base ds fr q0 := by
    rcases hq0 with ⟨rfl, rfl, rfl⟩ | ⟨rfl, rfl⟩
    · simp only [if_true, Bool.false_eq_true, if_false] at hst1 hst2
      refine ⟨rfl, Nat.zero_le _, ?_, ?_⟩
      · show accF true p base ds (-1) (-1 : Int).toNat ≤ _; omega
      · show _ ≤ accF false p base ds (-1) (-1 : Int).toNat; omega
    · rw [if_neg (by omega)] at hst1 hst2
      rw [Int.toNat_natCast] at hst1 hst2 ⊢
      exact ⟨rfl, by omega, by omega, by omega⟩
  obtain ⟨hfq, hqn, hs1, hs2⟩ := hqs
  have hq3 : (fr = -1 ∧ q0 = 0 ∧ h0 = vh ∧ accF false p base ds fr q0 = p.hi) ∨ (fr = (q0 : Int) ∧ h0 = 0 ∧ accF false p base ds fr q0 = 0) := by
    rw [hfq] at hst2
    rcases hq0 with ⟨e1, e2, e3⟩ | ⟨e1, e2⟩
    · rw [if_pos e1, if_neg (by decide)] at hst2
      exact .inl ⟨e1, e2, e3, hst2⟩
    · rw [if_neg (by omega)] at hst2
      exact .inr ⟨e1, e2, hst2⟩
  clear hst1 hst2 hq0
  rcases hq3 with ⟨e1, e2, e3, e4⟩ | ⟨e1, e2, e3⟩
  all_goals (repeat' (first | refine J.seq ?_ | refine JP.one ?_ | refine JP.step ?_ | refine J.block ?_ | refine J.scope ?_ | (refine J.region (fun z => ?_); (conv => lhs; whnf)) | (refine J.cond rfl rfl (fun hq => ?_) (fun hq => ?_) <;> (try simp only [sbM, reduceCtorEq, frS_iff, frS_no] at hq) <;> (try (have hqt : hq = True.intro := rfl; clear hqt hq)) <;> (try (exact absurd trivial hq)) <;> (try (exfalso; omega))) | refine J.exit ?_ | refine J.ret ?_ | refine J.skip ?_ | refine J.label ?_ | (with_reducible first | refine then_normal ?_ | refine then_exit ?_ | refine then_ret ?_ | refine block_exit ?_ | refine block_normal ?_ | refine block_ret ?_ | refine block_exit_ne rfl ?_ | refine kI_go rfl ?_) | ((first | (apply t_next; focus ((conv => lhs; whnf); try exact rfl)) | refine t_forceN ?_ | refine t_addN by_o ?_ | refine t_subN by_o ?_ | refine t_mulN by_o ?_ | refine t_quo by_o by_o ?_ | refine t_rem by_o by_o ?_ | refine t_quoN by_o by_o ?_ | refine t_remN by_o ?_ | refine t_addC ?_ | refine t_subC ?_ | refine t_mulC ?_ | refine t_bRt rfl ?_ | refine t_bRf rfl ?_ | refine t_lim (k := 8) (K := 17592186044416) rfl rfl by_o ?_ | refine t_lim (k := 65536) (K := 2147483648) rfl rfl by_o ?_ | refine t_getC rfl ?_ | refine t_getC (by (first | exact hcH | assumption)) ?_ | refine t_iRp rfl ?_ | refine t_iR by_o ?_ | refine t_iRn rfl ?_ | refine t_fBt rfl ?_ | refine t_fBf rfl ?_ | refine t_fBt by_s ?_ | refine t_fBf by_s ?_ | refine t_bRt by_u ?_ | refine t_bRf by_u ?_ | refine t_oA rfl ?_ | refine t_oA by_a ?_ | refine t_old by_a by_r ?_ | refine t_readR by_a ?_ | refine t_bRt (encA_one (fun _ => rfl)) ?_); (conv => lhs; whnf)) | ((first | refine t_fB (fun hq => ?_) (fun hq => ?_) | refine t_bR (fun hq => ?_) (fun hq => ?_)) <;> (try simp only [sbM, reduceCtorEq, frS_iff, frS_no] at hq) <;> (try (have hqt : hq = True.intro := rfl; clear hqt hq)) <;> (try (exact absurd trivial hq)) <;> (try (exfalso; omega)) <;> (conv => lhs; whnf))))
  all_goals refine J.loop (LJ.ren (levL2 ((dueF p base ds fr : Nat) : Int) h0 (accF false p base ds fr q0) q0) (levM a n c a2 n2 c2 base hands k fr p (truW ds bits) (truR ds bits) (truH ps bits)) [0, 1, 2, 3, 4, 5, 6] rfl (by exact ⟨_, _, _, rfl, rfl, SimL.of_eq rfl by_g, nin rfl, _, _, _, rfl, rfl, SimL.of_eq rfl by_g, nin rfl, _, _, _, rfl, rfl, SimL.of_eq rfl by_g, nin rfl, _, _, _, rfl, rfl, .cons (.slice rfl rfl rfl rfl) (.cons (.slice rfl rfl rfl rfl) (.cons (.slice rfl rfl rfl rfl) .nil)), nin rfl, _, _, _, rfl, rfl, SimL.of_eq rfl (encA_gE (fun _ => rfl) _), nin rfl, _, _, _, rfl, rfl, SimL.of_eq rfl (encA_gE (fun _ => rfl) _), nin rfl, _, _, _, rfl, rfl, SimL.of_eq rfl (encA_gE (fun _ => rfl) _), nin rfl, trivial⟩) (by exact by_sbFU) (fun vs hv => level_loop f base hands fr k p q0 h0 hP hD hez2 hk hwk hfq hqn hs1 hs2 vs hv))
end
end Go.Proofs.Ytpaabfecoghibaa
