/- Package purse: advances, truths, bills of lots. Conditions: as each theorem says. -/
import Derived.Test.YtnkbopfnnbmdaaaGreatQH
import Derived.Test.YtnkbopfnnbmdaaaGreatK13
namespace Go.Proofs.YtnkbopfnnbmdaaaGreat
open Go Go.RowKit
attribute [local irreducible] addC subC mulC quoI remI forceN forceB bR getC iR kI callI rcI oldC oA nextC
set_option maxRecDepth 1000000
set_option maxHeartbeats 8000000
set_option linter.unusedVariables false
set_option linter.unusedSimpArgs false
theorem or2_z {a b : Int} : orE [a, b] = 0 ↔ a = 0 ∧ b = 0 := by simp only [orE]; split <;> simp_all
theorem or3_z {a b c : Int} : orE [a, b, c] = 0 ↔ a = 0 ∧ b = 0 ∧ c = 0 := by simp only [orE]; split <;> (try split) <;> simp_all
theorem ratesE_z {ps : List Int} {part : Int} : ratesE ps part = 0 ↔ ratesB ps part = true := by unfold ratesE; split <;> simp_all
theorem lotsE_z {np : Int} {l : List Lot} : lotsE np l = 0 ↔ l.length ≤ 32 ∧ l.all (lotB np) = true := by
  unfold lotsE
  split <;> rename_i h <;> rw [Bool.and_eq_true, decide_eq_true_eq] at h
  · exact ⟨fun _ => h, fun _ => rfl⟩
  · exact ⟨fun e => (by cases e), fun e => absurd e h⟩
theorem truthE_z {l : List Lot} {gs : List Int} : truthE l gs = 0 ↔ truthB l gs = true := by unfold truthE; split <;> simp_all
theorem ratesB_iff {ps : List Int} {part : Int} : ratesB ps part = true ↔ (1 ≤ (ps.length : Int) ∧ (ps.length : Int) ≤ 8) ∧ (0 ≤ part ∧ part ≤ 1000) ∧ descB 100000 ps = true := by simp [ratesB, frB_iff, and_assoc]
def advE (ps : List Int) (part : Int) (x : Lot) : Int := orE [ratesE ps part, lotsE ps.length [x]]
def advV (ps : List Int) (part : Int) (x : Lot) : Int := if advE ps part x = 0 then advF ps part x else 0
section
variable (f : Nat → Nat → Option Value)
def sureE (ps : List Int) (part fam : Int) (l : List Lot) : Int := orE [ratesE ps part, lotsE ps.length l, famE fam]
def sureV (ps : List Int) (part fam : Int) (k : Bool) (l : List Lot) : Int := if sureE ps part fam l = 0 then bringsF ps part fam k l else 0
theorem Sure_fn {a a2 : Option Addr} {n c n2 c2 : Nat} {ps : List Int} {l : List Lot} (part fam : Int) (hP : Ints f a n c ps) (hL : Lots f a2 n2 c2 l) : FnR Tryz.prog f 6 [.agg ⟨[.slice a n c, .int .i64 part]⟩, .slice a2 n2 c2, .int .i64 fam] ⟨.tuple ⟨[.agg ⟨[.int .i64 (sureV ps part fam true l), .int .i64 (sureV ps part fam false l)]⟩, .int .i64 (sureE ps part fam l)]⟩, []⟩ := by
  have hg := hP.g
  have hg2 := hL.g
  refine fn_J by_g rfl ?_
  (repeat' (first | refine J.seq ?_ | refine JP.one ?_ | refine JP.step ?_ | refine J.block ?_ | refine J.scope ?_ | (refine J.region (fun z => ?_); (conv => lhs; whnf)) | (refine J.cond rfl rfl (fun hq => ?_) (fun hq => ?_) <;> (try simp only [sbM, reduceCtorEq, frB_iff, frB_no, gradeB_iff, gradeB_no, famE_z, or2_z, or3_z, ratesE_z, lotsE_z, truthE_z] at hq) <;> (try (have hqt : hq = True.intro := rfl; clear hqt hq)) <;> (try (exact absurd trivial hq)) <;> (try (exfalso; omega))) | refine J.exit ?_ | refine J.ret ?_ | refine J.skip ?_ | refine J.label ?_ | (with_reducible first | refine then_normal ?_ | refine then_exit ?_ | refine then_ret ?_ | refine block_exit ?_ | refine block_normal ?_ | refine block_ret ?_ | refine block_exit_ne rfl ?_ | refine kI_go rfl ?_) | ((first | (apply t_next; focus ((conv => lhs; whnf); try exact rfl)) | refine t_forceN ?_ | refine t_addN by_o ?_ | refine t_subN by_o ?_ | refine t_mulN by_o ?_ | refine t_quo by_o by_o ?_ | refine t_rem by_o by_o ?_ | refine t_quoN by_o by_o ?_ | refine t_remN by_o ?_ | refine t_addC ?_ | refine t_subC ?_ | refine t_mulC ?_ | refine t_bRt rfl ?_ | refine t_bRf rfl ?_ | refine t_getC rfl ?_ | refine t_getC by_a ?_ | refine t_iRp rfl ?_ | refine t_iR by_o ?_ | refine t_iRn rfl ?_ | refine t_fBt rfl ?_ | refine t_fBf rfl ?_ | refine t_fBt by_s ?_ | refine t_fBf by_s ?_ | refine t_bRt by_u ?_ | refine t_bRf by_u ?_ | refine t_oA rfl ?_ | refine t_oA by_a ?_ | refine t_old by_a by_r ?_ | refine t_call0 (Check_fn _ _ hP) rfl by_g rfl by_k ?_ | refine t_call0 (checkLots_fn _ _ hg hL) rfl by_g rfl by_k ?_ | refine t_call0 (checkFamily_fn _ _) rfl by_g rfl by_k ?_ | refine t_or3 (fun f' a n c es H => Or_fn f' H) rfl rfl rfl rfl ?_ | refine t_call0 (brings_fn _ _ _ true hP hd hp0 hp1 hL hl hmax) rfl by_g rfl by_k ?_ | refine t_call0 (brings_fn _ _ _ false hP hd hp0 hp1 hL hl hmax) rfl by_g rfl by_k ?_); (conv => lhs; whnf)) | ((first | refine t_fB (fun hq => ?_) (fun hq => ?_) | refine t_bR (fun hq => ?_) (fun hq => ?_)) <;> (try simp only [sbM, reduceCtorEq, frB_iff, frB_no, gradeB_iff, gradeB_no, famE_z, or2_z, or3_z, ratesE_z, lotsE_z, truthE_z] at hq) <;> (try (have hqt : hq = True.intro := rfl; clear hqt hq)) <;> (try (exact absurd trivial hq)) <;> (try (exfalso; omega)) <;> (conv => lhs; whnf))))
  · have hne : ¬ sureE ps part fam l = 0 := by rw [sureE, hP.len, or3_z, ratesE_z, lotsE_z, famE_z]; exact hq
    (refine endG trivial rfl rfl by_g ?_; refine tup2 ?_ ?_ <;> (conv => lhs; whnf))
    · rw [sureV, sureV, if_neg hne, if_neg hne]; rfl
    · rw [sureE, hP.len]
  · have hez : sureE ps part fam l = 0 := by rw [sureE, hP.len, or3_z, ratesE_z, lotsE_z, famE_z]; exact hq
    obtain ⟨hr, ⟨hlm, hl⟩, hfm⟩ := hq
    obtain ⟨_, ⟨hp0, hp1⟩, hd⟩ := ratesB_iff.1 hr
    have hmax : n2 ≤ 30000 := by rw [← hL.len]; omega
    (repeat' (first | refine J.seq ?_ | refine JP.one ?_ | refine JP.step ?_ | refine J.block ?_ | refine J.scope ?_ | (refine J.region (fun z => ?_); (conv => lhs; whnf)) | (refine J.cond rfl rfl (fun hq => ?_) (fun hq => ?_) <;> (try simp only [sbM, reduceCtorEq, frB_iff, frB_no, gradeB_iff, gradeB_no, famE_z, or2_z, or3_z, ratesE_z, lotsE_z, truthE_z] at hq) <;> (try (have hqt : hq = True.intro := rfl; clear hqt hq)) <;> (try (exact absurd trivial hq)) <;> (try (exfalso; omega))) | refine J.exit ?_ | refine J.ret ?_ | refine J.skip ?_ | refine J.label ?_ | (with_reducible first | refine then_normal ?_ | refine then_exit ?_ | refine then_ret ?_ | refine block_exit ?_ | refine block_normal ?_ | refine block_ret ?_ | refine block_exit_ne rfl ?_ | refine kI_go rfl ?_) | ((first | (apply t_next; focus ((conv => lhs; whnf); try exact rfl)) | refine t_forceN ?_ | refine t_addN by_o ?_ | refine t_subN by_o ?_ | refine t_mulN by_o ?_ | refine t_quo by_o by_o ?_ | refine t_rem by_o by_o ?_ | refine t_quoN by_o by_o ?_ | refine t_remN by_o ?_ | refine t_addC ?_ | refine t_subC ?_ | refine t_mulC ?_ | refine t_bRt rfl ?_ | refine t_bRf rfl ?_ | refine t_getC rfl ?_ | refine t_getC by_a ?_ | refine t_iRp rfl ?_ | refine t_iR by_o ?_ | refine t_iRn rfl ?_ | refine t_fBt rfl ?_ | refine t_fBf rfl ?_ | refine t_fBt by_s ?_ | refine t_fBf by_s ?_ | refine t_bRt by_u ?_ | refine t_bRf by_u ?_ | refine t_oA rfl ?_ | refine t_oA by_a ?_ | refine t_old by_a by_r ?_ | refine t_call0 (Check_fn _ _ hP) rfl by_g rfl by_k ?_ | refine t_call0 (checkLots_fn _ _ hg hL) rfl by_g rfl by_k ?_ | refine t_call0 (checkFamily_fn _ _) rfl by_g rfl by_k ?_ | refine t_or3 (fun f' a n c es H => Or_fn f' H) rfl rfl rfl rfl ?_ | refine t_call0 (brings_fn _ _ _ true hP hd hp0 hp1 hL hl hmax) rfl by_g rfl by_k ?_ | refine t_call0 (brings_fn _ _ _ false hP hd hp0 hp1 hL hl hmax) rfl by_g rfl by_k ?_); (conv => lhs; whnf)) | ((first | refine t_fB (fun hq => ?_) (fun hq => ?_) | refine t_bR (fun hq => ?_) (fun hq => ?_)) <;> (try simp only [sbM, reduceCtorEq, frB_iff, frB_no, gradeB_iff, gradeB_no, famE_z, or2_z, or3_z, ratesE_z, lotsE_z, truthE_z] at hq) <;> (try (have hqt : hq = True.intro := rfl; clear hqt hq)) <;> (try (exact absurd trivial hq)) <;> (try (exfalso; omega)) <;> (conv => lhs; whnf))))
    (refine endG trivial rfl rfl by_g ?_; refine tup2 ?_ ?_ <;> (conv => lhs; whnf))
    · rw [sureV, sureV, if_pos hez, if_pos hez]; rfl
    · rw [hez]
end
end Go.Proofs.YtnkbopfnnbmdaaaGreat
