/- The reference of layer 8: what a family surely gets. Conditions: as each theorem says. -/
import Derived.Test.YtlcdifeiinpaiaaGreatVC
import Derived.Test.YtlcdifeiinpaiaaGreatQN
namespace Go.Proofs.YtlcdifeiinpaiaaGreat
open Go Go.RowKit
attribute [local irreducible] addC subC mulC quoI remI forceN forceB bR getC iR kI callI rcI oldC oA nextC
set_option maxRecDepth 1000000
set_option maxHeartbeats 8000000
set_option linter.unusedVariables false
set_option linter.unusedSimpArgs false
theorem by_sbVD {P : Prop} (h : P := by (refine slotsF rfl rfl ?_; repeat (first | exact AllSl.nil | refine AllSl.no (by (conv => arg 1; whnf); first | exact Or.inl (gx _) | exact junk_b rfl | exact Or.inl by_g) ?_ | refine AllSl.so (by (conv => arg 3; whnf); first | exact SimV.int (by first | rfl | omega | (dsimp only; omega)) | exact SimV.bool (by first | rfl | assumption | (dsimp only; omega)) | exact SimV.slice rfl rfl (by first | rfl | omega) (by first | rfl | omega) | exact SimV.ptr rfl rfl | exact SimV.ground rfl | exact SimV.ground by_g | exact SimV.map rfl | exact SimV.func .nil .nil | exact SimV.func .nil (.cons (.ptr rfl rfl) .nil) | exact SimV.func .nil (.cons (.ptr rfl rfl) (.cons (.ptr rfl rfl) .nil)) | fail) ?_))) : P := h
theorem by_s0VD {P : Prop} (h : P := by (refine slotsF rfl rfl ?_; repeat (first | exact AllSl.nil | refine AllSl.no (by (conv => arg 1; whnf); first | exact junk_b rfl | exact Or.inl by_g) ?_ | refine AllSl.so (by (conv => arg 3; whnf); first | exact SimV.int (by first | rfl | omega | (dsimp only; omega)) | exact SimV.bool (by first | rfl | assumption | (dsimp only; omega)) | exact SimV.slice rfl rfl (by first | rfl | omega) (by first | rfl | omega) | exact SimV.ptr rfl rfl | exact SimV.ground rfl | exact SimV.ground by_g | exact SimV.map rfl | exact SimV.func .nil .nil | exact SimV.func .nil (.cons (.ptr rfl rfl) .nil) | exact SimV.func .nil (.cons (.ptr rfl rfl) (.cons (.ptr rfl rfl) .nil)) | fail) ?_))) : P := h
theorem sure_rl {ps : List Int} {part fam : Int} {l : List Lot} : sureE ps part fam l = orE [rlE ps part l, famE fam] := by
  simp only [sureE, rlE, orE]; split <;> simp_all
theorem brings_app {ps : List Int} {part fam : Int} {k : Bool} (l : List Lot) (x : Lot) : bringsF ps part fam k (l ++ [x]) = bringsF ps part fam k l + if x.fam = fam then worthF ps x (gradeF k x) else 0 := by
  rw [bringsF, bringsF, List.flatMap_append, List.sum_append, List.flatMap_cons, List.flatMap_nil, List.append_nil, amt_sum]
def rsuI (ps : List Int) (part fam : Int) (l : List Lot) (q : Nat × Int × Int) : Prop := q.1 ≤ l.length ∧ q.2.1 = bringsF ps part fam true (l.take q.1) ∧ q.2.2 = bringsF ps part fam false (l.take q.1) ∧ 0 ≤ q.2.1 ∧ q.2.1 ≤ q.1 * 100000000 ∧ 0 ≤ q.2.2 ∧ q.2.2 ≤ q.1 * 100000000
section
variable (f : Nat → Nat → Option Value)
theorem RSure_fn {a a2 : Option Addr} {n c n2 c2 : Nat} {ps : List Int} {l : List Lot} (part fam : Int) (hP : Ints f a n c ps) (hL : Lots f a2 n2 c2 l) : FnR Tryz.prog f 12 [.agg ⟨[.slice a n c, .int .i64 part]⟩, .slice a2 n2 c2, .int .i64 fam] ⟨.tuple ⟨[.agg ⟨[.int .i64 (sureV ps part fam true l), .int .i64 (sureV ps part fam false l)]⟩, .int .i64 (sureE ps part fam l)]⟩, []⟩ := by
  have hg := hP.g
  have hg2 := hL.g
  have hlen2 := hL.len
  have hle2 := hL.le
  have hat2 := hL.at'
  refine fn_J by_g rfl ?_
  (repeat' (first | refine J.seq ?_ | refine J.block ?_ | refine J.scope ?_ | (refine J.region (fun z => ?_); (conv => lhs; whnf)) | (refine J.cond rfl rfl (fun hq => ?_) (fun hq => ?_) <;> (try simp only [sbM, reduceCtorEq, frB_iff, frB_no] at hq) <;> (try (have hqt : hq = True.intro := rfl; clear hqt hq)) <;> (try (exact absurd trivial hq)) <;> (try (exfalso; omega))) | refine J.exit ?_ | refine J.ret ?_ | refine J.skip ?_ | refine J.label ?_ | (with_reducible first | refine then_normal ?_ | refine then_exit ?_ | refine then_ret ?_ | refine block_exit ?_ | refine block_normal ?_ | refine block_ret ?_ | refine block_exit_ne rfl ?_ | refine kI_go rfl ?_) | ((first | (apply t_next; focus ((conv => lhs; whnf); try exact rfl)) | refine t_forceN ?_ | refine t_addN by_o ?_ | refine t_subN by_o ?_ | refine t_mulN by_o ?_ | refine t_quo by_o by_o ?_ | refine t_rem by_o by_o ?_ | refine t_quoN by_o by_o ?_ | refine t_remN by_o ?_ | refine t_addC ?_ | refine t_subC ?_ | refine t_mulC ?_ | refine t_bRt rfl ?_ | refine t_bRf rfl ?_ | refine t_getC rfl ?_ | refine t_getC by_a ?_ | refine t_iRp rfl ?_ | refine t_iR by_o ?_ | refine t_iRn rfl ?_ | refine t_fBt rfl ?_ | refine t_fBf rfl ?_ | refine t_fBt by_s ?_ | refine t_fBf by_s ?_ | refine t_bRt by_u ?_ | refine t_bRf by_u ?_ | refine t_oA rfl ?_ | refine t_oA by_a ?_ | refine t_old by_a by_r ?_ | refine t_call0 (Rlots_fn _ _ hP hL) rfl by_g rfl by_k ?_ | refine t_call0 (Rworth_fn _ _ _ _ hP hd hx0 hx1 hl0 (by omega)) rfl by_g rfl by_k ?_ | refine t_call0 (Rworth_fn _ _ _ _ hP hd hx0 hx1 hl1 hh1) rfl by_g rfl by_k ?_); (conv => lhs; whnf)) | ((first | refine t_fB (fun hq => ?_) (fun hq => ?_) | refine t_bR (fun hq => ?_) (fun hq => ?_) | (first | refine t_callB (In_fn _ _ _ _) rfl by_g rfl (fun hq => ?_) (fun hq => ?_))) <;> (try simp only [sbM, reduceCtorEq, frB_iff, frB_no] at hq) <;> (try (have hqt : hq = True.intro := rfl; clear hqt hq)) <;> (try (exact absurd trivial hq)) <;> (try (exfalso; omega)) <;> (conv => lhs; whnf))))
  · have hs : sureE ps part fam l = rlE ps part l := by rw [sure_rl, orE_err _ _ hq]
    rw [sureV, sureV, if_neg (by rw [hs]; exact hq), if_neg (by rw [hs]; exact hq), hs]
    (refine endG trivial rfl rfl by_g ?_; refine tup2 ?_ ?_ <;> (conv => lhs; whnf)) <;> rfl
  · have hz : rlE ps part l = 0 := by assumption
    have hs : sureE ps part fam l = 0 := by rw [sure_rl, hz, famE_z.2 (by assumption)]; rfl
    rw [sureV, sureV, if_pos hs, if_pos hs, hs]
    obtain ⟨hr, hlm, hl⟩ := rlE_z.1 hz
    obtain ⟨_, ⟨hp0, hp1⟩, hd⟩ := ratesB_iff.1 hr
    refine J.loop (LJ.ind (fun q : Nat × Int × Int => [none, some (.slice a2 n2 c2), some (.int .i64 fam), some (.pointer (some ⟨0, 0, some 0⟩)), none, none, some (.pointer (some ⟨1, 0, some 0⟩)), none, none, some (.pointer (some ⟨2, 0, some 0⟩)), some (.int .i64 (q.1 : Int)), none, none, none, none, none, none, none, none, none, none, none, none, none, none, none, none, none, none, none, none, none, none, none, none, none, none, none, none, none, none, none, none, none, none, none, none, none, none, none, none, none, none, none, none, none, none, none, none, none, none, none, none, none, none, none, none]) (fun q => [(24, [.slice a n c, .int .i64 part]), (27, [.int .i64 0, .int .i64 0]), (27, [.int .i64 q.2.1, .int .i64 q.2.2])]) (rsuI ps part fam l) (fun q => n2 - q.1) (0, 0, 0) [0, 1, 2] ⟨Nat.zero_le _, rfl, rfl, Int.le_refl _, Int.le_refl _, Int.le_refl _, Int.le_refl _⟩ rfl ?_ ?_ ?_)
    · exact ⟨_, _, _, rfl, rfl, SimL.ground (l := [.slice a n c, .int .i64 part]) by_g, nin rfl, _, _, _, rfl, rfl, SimL.of_eq (l := [.int .i64 0, .int .i64 0]) rfl rfl, nin rfl, _, _, _, rfl, rfl, SimL.of_eq (l := [.int .i64 0, .int .i64 0]) rfl rfl, nin rfl, trivial⟩
    · exact by_s0VD
    · rintro ⟨i, lo, hi⟩ ⟨hi2, hlo, hhi, h1, h2, h3, h4⟩ vs ⟨xs, gx, rfl⟩ IH
      simp only at hi2 hlo hhi h1 h2 h3 h4
      by_cases hin : i < n2
      · obtain ⟨x, hx⟩ : ∃ x, l[i]? = some x := ⟨_, List.getElem?_eq_getElem (by omega)⟩
        obtain ⟨b, o, ha, hc⟩ := hat2 i _ hx
        have hc0 := hc 0 _ rfl
        have hc1 := hc 1 _ rfl
        have hc2 := hc 2 _ rfl
        have hc3 := hc 3 _ rfl
        have htk : l.take (i + 1) = l.take i ++ [x] := by rw [List.take_add_one, hx]; rfl
        have hok1 := List.all_eq_true.1 hl _ (List.mem_of_getElem? hx)
        rw [lotB_iff] at hok1
        obtain ⟨hfm, ⟨hx0, hx1⟩, hl0, hlh, hh1⟩ := hok1
        have hl1 : 0 ≤ x.hi := by omega
        have hw1 := worthF_in (g := x.hi) hd hx0 hx1
        have hw2 := worthF_in (g := x.lo) hd hx0 hx1
        have hba := fun k => brings_app (ps := ps) (part := part) (fam := fam) (k := k) (l.take i) x
        rw [← htk] at hba
        subst ha
        clear hl hr
        (repeat' (first | refine J.seq ?_ | refine J.block ?_ | refine J.scope ?_ | (refine J.region (fun z => ?_); (conv => lhs; whnf)) | (refine J.cond rfl rfl (fun hq => ?_) (fun hq => ?_) <;> (try simp only [sbM, reduceCtorEq, frB_iff, frB_no] at hq) <;> (try (have hqt : hq = True.intro := rfl; clear hqt hq)) <;> (try (exact absurd trivial hq)) <;> (try (exfalso; omega))) | refine J.exit ?_ | refine J.ret ?_ | refine J.skip ?_ | refine J.label ?_ | (with_reducible first | refine then_normal ?_ | refine then_exit ?_ | refine then_ret ?_ | refine block_exit ?_ | refine block_normal ?_ | refine block_ret ?_ | refine block_exit_ne rfl ?_ | refine kI_go rfl ?_) | ((first | (apply t_next; focus ((conv => lhs; whnf); try exact rfl)) | refine t_forceN ?_ | refine t_addN by_o ?_ | refine t_subN by_o ?_ | refine t_mulN by_o ?_ | refine t_quo by_o by_o ?_ | refine t_rem by_o by_o ?_ | refine t_quoN by_o by_o ?_ | refine t_remN by_o ?_ | refine t_addC ?_ | refine t_subC ?_ | refine t_mulC ?_ | refine t_bRt rfl ?_ | refine t_bRf rfl ?_ | refine t_getC rfl ?_ | refine t_getC by_a ?_ | refine t_iRp rfl ?_ | refine t_iR by_o ?_ | refine t_iRn rfl ?_ | refine t_fBt rfl ?_ | refine t_fBf rfl ?_ | refine t_fBt by_s ?_ | refine t_fBf by_s ?_ | refine t_bRt by_u ?_ | refine t_bRf by_u ?_ | refine t_oA rfl ?_ | refine t_oA by_a ?_ | refine t_old by_a by_r ?_ | refine t_call0 (Rlots_fn _ _ hP hL) rfl by_g rfl by_k ?_ | refine t_call0 (Rworth_fn _ _ _ _ hP hd hx0 hx1 hl0 (by omega)) rfl by_g rfl by_k ?_ | refine t_call0 (Rworth_fn _ _ _ _ hP hd hx0 hx1 hl1 hh1) rfl by_g rfl by_k ?_); (conv => lhs; whnf)) | ((first | refine t_fB (fun hq => ?_) (fun hq => ?_) | refine t_bR (fun hq => ?_) (fun hq => ?_) | (first | refine t_callB (In_fn _ _ _ _) rfl by_g rfl (fun hq => ?_) (fun hq => ?_))) <;> (try simp only [sbM, reduceCtorEq, frB_iff, frB_no] at hq) <;> (try (have hqt : hq = True.intro := rfl; clear hqt hq)) <;> (try (exact absurd trivial hq)) <;> (try (exfalso; omega)) <;> (conv => lhs; whnf))))
        · refine LJ.ren _ [(24, [.slice a n c, .int .i64 part]), (27, [.int .i64 0, .int .i64 0]), (27, [.int .i64 (lo + worthF ps x x.hi), .int .i64 (hi + worthF ps x x.lo)])] [0, 1, 2] rfl ⟨_, _, _, rfl, rfl, SimL.ground (l := [.slice a n c, .int .i64 part]) by_g, nin rfl, _, _, _, rfl, rfl, SimL.of_eq (l := [.int .i64 0, .int .i64 0]) rfl rfl, nin rfl, _, _, _, rfl, rfl, SimL.of_eq (l := [.int .i64 (lo + worthF ps x x.hi), .int .i64 (hi + worthF ps x x.lo)]) rfl rfl, nin rfl, trivial⟩ ?_ (IH (i + 1, lo + worthF ps x x.hi, hi + worthF ps x x.lo) ⟨by show i + 1 ≤ l.length; omega, by rw [hba, if_pos hq, hlo]; rfl, by rw [hba, if_pos hq, hhi]; rfl, by dsimp only; omega, by dsimp only; omega, by dsimp only; omega, by dsimp only; omega⟩ ?_)
          · exact by_sbVD
          · show n2 - (i + 1) < n2 - i; omega
        · refine LJ.ren _ [(24, [.slice a n c, .int .i64 part]), (27, [.int .i64 0, .int .i64 0]), (27, [.int .i64 (lo), .int .i64 (hi)])] [0, 1, 2] rfl ⟨_, _, _, rfl, rfl, SimL.ground (l := [.slice a n c, .int .i64 part]) by_g, nin rfl, _, _, _, rfl, rfl, SimL.of_eq (l := [.int .i64 0, .int .i64 0]) rfl rfl, nin rfl, _, _, _, rfl, rfl, SimL.of_eq (l := [.int .i64 (lo), .int .i64 (hi)]) rfl rfl, nin rfl, trivial⟩ ?_ (IH (i + 1, lo, hi) ⟨by show i + 1 ≤ l.length; omega, by rw [hba, if_neg hq, hlo]; simp, by rw [hba, if_neg hq, hhi]; simp, by dsimp only; omega, by dsimp only; omega, by dsimp only; omega, by dsimp only; omega⟩ ?_)
          · exact by_sbVD
          · show n2 - (i + 1) < n2 - i; omega
      · (repeat' (first | refine J.seq ?_ | refine J.block ?_ | refine J.scope ?_ | (refine J.region (fun z => ?_); (conv => lhs; whnf)) | (refine J.cond rfl rfl (fun hq => ?_) (fun hq => ?_) <;> (try simp only [sbM, reduceCtorEq, frB_iff, frB_no] at hq) <;> (try (have hqt : hq = True.intro := rfl; clear hqt hq)) <;> (try (exact absurd trivial hq)) <;> (try (exfalso; omega))) | refine J.exit ?_ | refine J.ret ?_ | refine J.skip ?_ | refine J.label ?_ | (with_reducible first | refine then_normal ?_ | refine then_exit ?_ | refine then_ret ?_ | refine block_exit ?_ | refine block_normal ?_ | refine block_ret ?_ | refine block_exit_ne rfl ?_ | refine kI_go rfl ?_) | ((first | (apply t_next; focus ((conv => lhs; whnf); try exact rfl)) | refine t_forceN ?_ | refine t_addN by_o ?_ | refine t_subN by_o ?_ | refine t_mulN by_o ?_ | refine t_quo by_o by_o ?_ | refine t_rem by_o by_o ?_ | refine t_quoN by_o by_o ?_ | refine t_remN by_o ?_ | refine t_addC ?_ | refine t_subC ?_ | refine t_mulC ?_ | refine t_bRt rfl ?_ | refine t_bRf rfl ?_ | refine t_getC rfl ?_ | refine t_getC by_a ?_ | refine t_iRp rfl ?_ | refine t_iR by_o ?_ | refine t_iRn rfl ?_ | refine t_fBt rfl ?_ | refine t_fBf rfl ?_ | refine t_fBt by_s ?_ | refine t_fBf by_s ?_ | refine t_bRt by_u ?_ | refine t_bRf by_u ?_ | refine t_oA rfl ?_ | refine t_oA by_a ?_ | refine t_old by_a by_r ?_ | refine t_call0 (Rlots_fn _ _ hP hL) rfl by_g rfl by_k ?_ | refine t_call0 (Rworth_fn _ _ _ _ hP hd hx0 hx1 hl0 (by omega)) rfl by_g rfl by_k ?_ | refine t_call0 (Rworth_fn _ _ _ _ hP hd hx0 hx1 hl1 hh1) rfl by_g rfl by_k ?_); (conv => lhs; whnf)) | ((first | refine t_fB (fun hq => ?_) (fun hq => ?_) | refine t_bR (fun hq => ?_) (fun hq => ?_) | (first | refine t_callB (In_fn _ _ _ _) rfl by_g rfl (fun hq => ?_) (fun hq => ?_))) <;> (try simp only [sbM, reduceCtorEq, frB_iff, frB_no] at hq) <;> (try (have hqt : hq = True.intro := rfl; clear hqt hq)) <;> (try (exact absurd trivial hq)) <;> (try (exfalso; omega)) <;> (conv => lhs; whnf))))
        rw [List.take_of_length_le (by omega)] at hlo hhi
        rw [← hlo, ← hhi]
        (refine endG trivial rfl rfl by_g ?_; refine tup2 ?_ ?_ <;> (conv => lhs; whnf)) <;> rfl
  · have hz : rlE ps part l = 0 := by assumption
    have hs : sureE ps part fam l = 81 := by rw [sure_rl, hz, famE, frB_no.2 (by assumption)]; rfl
    rw [sureV, sureV, if_neg (by rw [hs]; omega), if_neg (by rw [hs]; omega), hs]
    (refine endG trivial rfl rfl by_g ?_; refine tup2 ?_ ?_ <;> (conv => lhs; whnf)) <;> rfl
end
end Go.Proofs.YtlcdifeiinpaiaaGreat
