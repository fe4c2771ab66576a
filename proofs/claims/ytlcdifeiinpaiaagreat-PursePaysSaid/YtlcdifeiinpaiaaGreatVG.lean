/- The reference of layer 8: the least income that is enough; PursePays, in memory that was there before. Conditions: as each theorem says. -/
import Derived.Test.YtlcdifeiinpaiaaGreatVF
namespace Go.Proofs.YtlcdifeiinpaiaaGreat
open Go Go.RowKit
attribute [local irreducible] addC subC mulC quoI remI forceN forceB bR getC iR kI callI rcI oldC oA nextC
set_option maxRecDepth 1000000
set_option maxHeartbeats 8000000
set_option linter.unusedVariables false
set_option linter.unusedSimpArgs false
theorem by_sbVG {P : Prop} (h : P := by (refine slotsF rfl rfl ?_; repeat (first | exact AllSl.nil | refine AllSl.no (by (conv => arg 1; whnf); first | exact Or.inl (gx _) | exact junk_b rfl | exact Or.inl by_g) ?_ | refine AllSl.so (by (conv => arg 3; whnf); first | exact SimV.int (by first | rfl | omega | (dsimp only; omega)) | exact SimV.bool (by first | rfl | assumption | (dsimp only; omega)) | exact SimV.slice rfl rfl (by first | rfl | omega) (by first | rfl | omega) | exact SimV.ptr rfl rfl | exact SimV.ground rfl | exact SimV.ground by_g | exact SimV.map rfl | exact SimV.func .nil .nil | exact SimV.func .nil (.cons (.ptr rfl rfl) .nil) | exact SimV.func .nil (.cons (.ptr rfl rfl) (.cons (.ptr rfl rfl) .nil)) | fail) ?_))) : P := h
theorem by_s0VG {P : Prop} (h : P := by (refine slotsF rfl rfl ?_; repeat (first | exact AllSl.nil | refine AllSl.no (by (conv => arg 1; whnf); first | exact junk_b rfl | exact Or.inl by_g) ?_ | refine AllSl.so (by (conv => arg 3; whnf); first | exact SimV.int (by first | rfl | omega | (dsimp only; omega)) | exact SimV.bool (by first | rfl | assumption | (dsimp only; omega)) | exact SimV.slice rfl rfl (by first | rfl | omega) (by first | rfl | omega) | exact SimV.ptr rfl rfl | exact SimV.ground rfl | exact SimV.ground by_g | exact SimV.map rfl | exact SimV.func .nil .nil | exact SimV.func .nil (.cons (.ptr rfl rfl) .nil) | exact SimV.func .nil (.cons (.ptr rfl rfl) (.cons (.ptr rfl rfl) .nil)) | fail) ?_))) : P := h
theorem least_r (p : Nat → Prop) (hp : ∀ i j, i ≤ j → p i → p j) : ∀ N : Nat, ∃ r, r ≤ N ∧ ∀ m, m < N → (p m ↔ r ≤ m)
  | 0 => ⟨0, Nat.le_refl _, fun m h => absurd h (Nat.not_lt_zero _)⟩
  | N + 1 => by
    obtain ⟨r, h1, h2⟩ := least_r p hp N
    by_cases h : p N
    · refine ⟨r, by omega, fun m hm => ?_⟩
      by_cases e : m = N
      · subst e; exact ⟨fun _ => h1, fun _ => h⟩
      · exact h2 m (by omega)
    · refine ⟨if r = N then N + 1 else r, by split <;> omega, fun m hm => ?_⟩
      by_cases e : m = N
      · subst e
        refine ⟨fun q => absurd q h, fun q => ?_⟩
        split at q
        · omega
        · exact absurd (hp r m (by omega) ((h2 r (by omega)).2 (Nat.le_refl _))) h
      · have h3 := h2 m (by omega)
        split
        · rename_i e2
          exact ⟨fun q => by have := h3.1 q; omega, fun q => by omega⟩
        · exact h3
theorem spare_r {keep D : Int} (h0 : 0 ≤ keep) (h1 : keep ≤ 1000) : ∃ r : Int, 0 ≤ r ∧ r ≤ 1000000001 ∧ ∀ m, 0 ≤ m → m < 1000000001 → (D ≤ spareF keep m ↔ r ≤ m) := by
  obtain ⟨r, q1, q2⟩ := least_r (fun m => D ≤ spareF keep (m : Int)) (fun i j hij h => Int.le_trans h (spare_mono h0 h1 (by omega))) 1000000001
  refine ⟨r, by omega, by omega, fun m hm0 hm1 => ?_⟩
  have := q2 m.toNat (by omega)
  rw [Int.toNat_of_nonneg hm0] at this
  rw [this]; omega
section
variable (f : Nat → Nat → Option Value)
theorem REnough_err {a : Option Addr} {n c : Nat} {ds : List Int} (keep many : Int) (hD : Ints f a n c ds) (hne : enoE keep ds many ≠ 0) : FnR Tryz.prog f 18 [.agg ⟨[.int .i64 keep, .slice a n c]⟩, .int .i64 many] ⟨.tuple ⟨[.int .i64 0, .int .i64 (enoE keep ds many)]⟩, []⟩ := by
  have hg := hD.g
  have hlen := hD.len
  have hle := hD.le
  by_cases hacc : accE keep ds = 0
  · have hm : ¬ (0 ≤ many ∧ many ≤ n) := fun h => hne (by rw [enoE, orP_z, rangeE_z, frB_iff, hlen]; exact ⟨hacc, h⟩)
    rw [enoE, hacc, rangeE, frB_no.2 (by rw [hlen]; exact hm)]
    refine fn_J by_g rfl ?_
    (repeat' (first | refine J.seq ?_ | refine JP.one ?_ | refine JP.step ?_ | refine J.block ?_ | refine J.scope ?_ | (refine J.region (fun z => ?_); (conv => lhs; whnf)) | (refine J.cond rfl rfl (fun hq => ?_) (fun hq => ?_) <;> (try simp only [sbM, reduceCtorEq, frB_iff, frB_no] at hq) <;> (try (have hqt : hq = True.intro := rfl; clear hqt hq)) <;> (try (exact absurd trivial hq)) <;> (try (exfalso; omega))) | refine J.exit ?_ | refine J.ret ?_ | refine J.skip ?_ | refine J.label ?_ | (with_reducible first | refine then_normal ?_ | refine then_exit ?_ | refine then_ret ?_ | refine block_exit ?_ | refine block_normal ?_ | refine block_ret ?_ | refine block_exit_ne rfl ?_ | refine kI_go rfl ?_) | ((first | (apply t_next; focus ((conv => lhs; whnf); try exact rfl)) | refine t_forceN ?_ | refine t_addN by_o ?_ | refine t_subN by_o ?_ | refine t_mulN by_o ?_ | refine t_quo by_o by_o ?_ | refine t_rem by_o by_o ?_ | refine t_quoN by_o by_o ?_ | refine t_remN by_o ?_ | refine t_addC ?_ | refine t_subC ?_ | refine t_mulC ?_ | refine t_bRt rfl ?_ | refine t_bRf rfl ?_ | refine t_getC rfl ?_ | refine t_getC by_a ?_ | refine t_iRp rfl ?_ | refine t_iR by_o ?_ | refine t_iRn rfl ?_ | refine t_fBt rfl ?_ | refine t_fBf rfl ?_ | refine t_fBt by_s ?_ | refine t_fBf by_s ?_ | refine t_bRt by_u ?_ | refine t_bRf by_u ?_ | refine t_oA rfl ?_ | refine t_oA by_a ?_ | refine t_old by_a by_r ?_ | refine t_call0 (Raccount_fn _ _ hD) rfl by_g rfl by_k ?_); (conv => lhs; whnf)) | ((first | refine t_fB (fun hq => ?_) (fun hq => ?_) | refine t_bR (fun hq => ?_) (fun hq => ?_) | (first | refine t_callB (In_fn _ _ _ _) rfl by_g rfl (fun hq => ?_) (fun hq => ?_))) <;> (try simp only [sbM, reduceCtorEq, frB_iff, frB_no] at hq) <;> (try (have hqt : hq = True.intro := rfl; clear hqt hq)) <;> (try (exact absurd trivial hq)) <;> (try (exfalso; omega)) <;> (conv => lhs; whnf))))
    (refine endG trivial rfl rfl by_g ?_; refine tup2 ?_ ?_ <;> (conv => lhs; whnf)) <;> rfl
  · have he : enoE keep ds many = accE keep ds := by rw [enoE, orF_err _ _ hacc]
    rw [he]
    refine fn_J by_g rfl ?_
    (repeat' (first | refine J.seq ?_ | refine JP.one ?_ | refine JP.step ?_ | refine J.block ?_ | refine J.scope ?_ | (refine J.region (fun z => ?_); (conv => lhs; whnf)) | (refine J.cond rfl rfl (fun hq => ?_) (fun hq => ?_) <;> (try simp only [sbM, reduceCtorEq, frB_iff, frB_no] at hq) <;> (try (have hqt : hq = True.intro := rfl; clear hqt hq)) <;> (try (exact absurd trivial hq)) <;> (try (exfalso; omega))) | refine J.exit ?_ | refine J.ret ?_ | refine J.skip ?_ | refine J.label ?_ | (with_reducible first | refine then_normal ?_ | refine then_exit ?_ | refine then_ret ?_ | refine block_exit ?_ | refine block_normal ?_ | refine block_ret ?_ | refine block_exit_ne rfl ?_ | refine kI_go rfl ?_) | ((first | (apply t_next; focus ((conv => lhs; whnf); try exact rfl)) | refine t_forceN ?_ | refine t_addN by_o ?_ | refine t_subN by_o ?_ | refine t_mulN by_o ?_ | refine t_quo by_o by_o ?_ | refine t_rem by_o by_o ?_ | refine t_quoN by_o by_o ?_ | refine t_remN by_o ?_ | refine t_addC ?_ | refine t_subC ?_ | refine t_mulC ?_ | refine t_bRt rfl ?_ | refine t_bRf rfl ?_ | refine t_getC rfl ?_ | refine t_getC by_a ?_ | refine t_iRp rfl ?_ | refine t_iR by_o ?_ | refine t_iRn rfl ?_ | refine t_fBt rfl ?_ | refine t_fBf rfl ?_ | refine t_fBt by_s ?_ | refine t_fBf by_s ?_ | refine t_bRt by_u ?_ | refine t_bRf by_u ?_ | refine t_oA rfl ?_ | refine t_oA by_a ?_ | refine t_old by_a by_r ?_ | refine t_call0 (Raccount_fn _ _ hD) rfl by_g rfl by_k ?_); (conv => lhs; whnf)) | ((first | refine t_fB (fun hq => ?_) (fun hq => ?_) | refine t_bR (fun hq => ?_) (fun hq => ?_) | (first | refine t_callB (In_fn _ _ _ _) rfl by_g rfl (fun hq => ?_) (fun hq => ?_))) <;> (try simp only [sbM, reduceCtorEq, frB_iff, frB_no] at hq) <;> (try (have hqt : hq = True.intro := rfl; clear hqt hq)) <;> (try (exact absurd trivial hq)) <;> (try (exfalso; omega)) <;> (conv => lhs; whnf))))
    (refine endG trivial rfl rfl by_g ?_; refine tup2 ?_ ?_ <;> (conv => lhs; whnf)) <;> rfl
theorem REnough_fn {a : Option Addr} {n c : Nat} {ds : List Int} (keep r : Int) (many : Nat) (hD : Ints f a n c ds) (hez : enoE keep ds many = 0) (hr0 : 0 ≤ r) (hr1 : r ≤ 1000000001) (hr : ∀ m, 0 ≤ m → m < 1000000001 → ((ds.take many).sum ≤ spareF keep m ↔ r ≤ m)) :
    FnR Tryz.prog f 18 [.agg ⟨[.int .i64 keep, .slice a n c]⟩, .int .i64 many] ⟨.tuple ⟨[.int .i64 (if r ≤ 1000000000 then r else 0), .int .i64 (if r ≤ 1000000000 then 0 else 4)]⟩, []⟩ := by
  have hg := hD.g
  have hlen := hD.len
  have hle := hD.le
  rw [enoE, hlen, orP_z, rangeE_z, frB_iff] at hez
  obtain ⟨hacc, hm0, hm1⟩ := hez
  obtain ⟨⟨hk0, hk1⟩, hn5, hds⟩ := accB_iff.1 (accE_z.1 hacc)
  have hgc : a = none → n = 0 ∧ c = 0 := fun e => by
    subst e
    have h1 : (Nat.beq n 0 && Nat.beq c 0) = true := hg
    rw [Bool.and_eq_true, Nat.beq_eq, Nat.beq_eq] at h1
    exact h1
  have hgm : grA a many c = true := by
    cases a with
    | none => obtain ⟨h1, h2⟩ := hgc rfl; have h3 : many = 0 := by omega
              subst h2 h3; rfl
    | some a => exact hg
  have hnc := hD.nc
  have hgs : grS a n c = true := by cases a <;> exact hg
  have hDp : Ints f a many c (ds.take many) := ⟨hgm, by rw [List.length_take]; omega, by have := hD.nc; omega, by omega, fun i x hx => hD.at' i x (by rw [List.getElem?_take] at hx; split at hx; exact hx; cases hx)⟩
  have hsm : ∀ i, i ≤ (ds.take many).length → -4000000000000000000 ≤ ((ds.take many).take i).sum ∧ ((ds.take many).take i).sum ≤ 4000000000000000000 := fun i hi => by
    have h1 := sum_le (B := 1000000000) ((ds.take many).take i) fun y hy => hds y (List.mem_of_mem_take (List.mem_of_mem_take hy))
    have h2 : ((ds.take many).take i).length ≤ 5 := by rw [List.length_take, List.length_take]; omega
    omega
  have hb := hr 1000000000 (by omega) (by omega)
  refine fn_J by_g rfl ?_
  (repeat' (first | refine J.seq ?_ | refine JP.one ?_ | refine JP.step ?_ | refine J.block ?_ | refine J.scope ?_ | (refine J.region (fun z => ?_); (conv => lhs; whnf)) | (refine J.cond rfl rfl (fun hq => ?_) (fun hq => ?_) <;> (try simp only [sbM, reduceCtorEq, frB_iff, frB_no] at hq) <;> (try (have hqt : hq = True.intro := rfl; clear hqt hq)) <;> (try (exact absurd trivial hq)) <;> (try (exfalso; omega))) | refine J.exit ?_ | refine J.ret ?_ | refine J.skip ?_ | refine J.label ?_ | (with_reducible first | refine then_normal ?_ | refine then_exit ?_ | refine then_ret ?_ | refine block_exit ?_ | refine block_normal ?_ | refine block_ret ?_ | refine block_exit_ne rfl ?_ | refine kI_go rfl ?_) | ((first | (apply t_next; focus ((conv => lhs; whnf); try exact rfl)) | refine t_forceN ?_ | refine t_addN by_o ?_ | refine t_subN by_o ?_ | refine t_mulN by_o ?_ | refine t_quo by_o by_o ?_ | refine t_rem by_o by_o ?_ | refine t_quoN by_o by_o ?_ | refine t_remN by_o ?_ | refine t_addC ?_ | refine t_subC ?_ | refine t_mulC ?_ | refine t_bRt rfl ?_ | refine t_bRf rfl ?_ | refine t_getC rfl ?_ | refine t_getC by_a ?_ | refine t_iRp rfl ?_ | refine t_iR by_o ?_ | refine t_iRn rfl ?_ | refine t_fBt rfl ?_ | refine t_fBf rfl ?_ | refine t_fBt by_s ?_ | refine t_fBf by_s ?_ | refine t_bRt by_u ?_ | refine t_bRf by_u ?_ | refine t_oA rfl ?_ | refine t_oA by_a ?_ | refine t_old by_a by_r ?_ | refine t_call0 (Raccount_fn _ _ hD) rfl by_g rfl by_k ?_ | refine t_call0 (Rfree_fn _ _ _ hg hk0 hk1 (by omega) (by omega)) rfl by_g rfl by_k ?_); (conv => lhs; whnf)) | ((first | refine t_fB (fun hq => ?_) (fun hq => ?_) | refine t_bR (fun hq => ?_) (fun hq => ?_) | (first | refine t_callB (In_fn _ _ _ _) rfl by_g rfl (fun hq => ?_) (fun hq => ?_))) <;> (try simp only [sbM, reduceCtorEq, frB_iff, frB_no] at hq) <;> (try (have hqt : hq = True.intro := rfl; clear hqt hq)) <;> (try (exact absurd trivial hq)) <;> (try (exfalso; omega)) <;> (conv => lhs; whnf))))
  have hsa : sliceAd a c 0 1 = a := by rw [sliceAd_eq]; split; rfl; cases a <;> rfl
  generalize hs0 : sliceAd a c 0 _ = a'
  obtain rfl : a = a' := hsa.symm.trans hs0
  refine t_call0 (v := .int .i64 (ds.take many).sum) (Sum_fn _ hDp hsm) rfl by_g rfl rfl ?_
  · (conv => lhs; whnf)
    generalize (ds.take many).sum = D at *
    (repeat' (first | refine J.seq ?_ | refine JP.one ?_ | refine JP.step ?_ | refine J.block ?_ | refine J.scope ?_ | (refine J.region (fun z => ?_); (conv => lhs; whnf)) | (refine J.cond rfl rfl (fun hq => ?_) (fun hq => ?_) <;> (try simp only [sbM, reduceCtorEq, frB_iff, frB_no] at hq) <;> (try (have hqt : hq = True.intro := rfl; clear hqt hq)) <;> (try (exact absurd trivial hq)) <;> (try (exfalso; omega))) | refine J.exit ?_ | refine J.ret ?_ | refine J.skip ?_ | refine J.label ?_ | (with_reducible first | refine then_normal ?_ | refine then_exit ?_ | refine then_ret ?_ | refine block_exit ?_ | refine block_normal ?_ | refine block_ret ?_ | refine block_exit_ne rfl ?_ | refine kI_go rfl ?_) | ((first | (apply t_next; focus ((conv => lhs; whnf); try exact rfl)) | refine t_forceN ?_ | refine t_addN by_o ?_ | refine t_subN by_o ?_ | refine t_mulN by_o ?_ | refine t_quo by_o by_o ?_ | refine t_rem by_o by_o ?_ | refine t_quoN by_o by_o ?_ | refine t_remN by_o ?_ | refine t_addC ?_ | refine t_subC ?_ | refine t_mulC ?_ | refine t_bRt rfl ?_ | refine t_bRf rfl ?_ | refine t_getC rfl ?_ | refine t_getC by_a ?_ | refine t_iRp rfl ?_ | refine t_iR by_o ?_ | refine t_iRn rfl ?_ | refine t_fBt rfl ?_ | refine t_fBf rfl ?_ | refine t_fBt by_s ?_ | refine t_fBf by_s ?_ | refine t_bRt by_u ?_ | refine t_bRf by_u ?_ | refine t_oA rfl ?_ | refine t_oA by_a ?_ | refine t_old by_a by_r ?_ | refine t_call0 (Raccount_fn _ _ hD) rfl by_g rfl by_k ?_ | refine t_call0 (Rfree_fn _ _ _ hg hk0 hk1 (by omega) (by omega)) rfl by_g rfl by_k ?_); (conv => lhs; whnf)) | ((first | refine t_fB (fun hq => ?_) (fun hq => ?_) | refine t_bR (fun hq => ?_) (fun hq => ?_) | (first | refine t_callB (In_fn _ _ _ _) rfl by_g rfl (fun hq => ?_) (fun hq => ?_))) <;> (try simp only [sbM, reduceCtorEq, frB_iff, frB_no] at hq) <;> (try (have hqt : hq = True.intro := rfl; clear hqt hq)) <;> (try (exact absurd trivial hq)) <;> (try (exfalso; omega)) <;> (conv => lhs; whnf))))
    · (refine endG trivial rfl rfl by_g ?_; refine tup2 ?_ ?_ <;> (conv => lhs; whnf))
      · rw [if_neg (by omega)]
      · rw [if_neg (by omega)]
    · refine J.loop (LJ.ind (fun q : Int × Int => [none, none, some (.pointer (some ⟨0, 0, some 0⟩)), none, none, none, none, some (.int .i64 D), some (.int .i64 q.1), some (.int .i64 q.2), none, none, none, none, none, none, none, none, none, none, none, none, none, none, none, none, none, none, none, none, none, none, none, none, none, none, none, none, none, none, none, none, none, none, none, none, none]) (fun _ => [(44, [.int .i64 keep, .slice a n c])]) (fun q => 0 ≤ q.1 ∧ q.1 ≤ r ∧ r ≤ q.2 ∧ q.2 ≤ 1000000000) (fun q => (q.2 - q.1).toNat) (0, 1000000000) [0] ⟨Int.le_refl _, hr0, by omega, Int.le_refl _⟩ rfl ?_ ?_ ?_)
      · exact ⟨_, _, _, rfl, rfl, SimL.of_eq (l := [.int .i64 keep, .slice a n c]) rfl by_g, nin rfl, trivial⟩
      · exact by_s0VG
      · rintro ⟨lo, hi⟩ ⟨h1, h2, h3, h4⟩ vs ⟨xs, gx, rfl⟩ IH
        simp only at h1 h2 h3 h4
        by_cases hlt : lo < hi
        · have hmid := hr ((lo + hi) / 2) (by omega) (by omega)
          (repeat' (first | refine J.seq ?_ | refine JP.one ?_ | refine JP.step ?_ | refine J.block ?_ | refine J.scope ?_ | (refine J.region (fun z => ?_); (conv => lhs; whnf)) | (refine J.cond rfl rfl (fun hq => ?_) (fun hq => ?_) <;> (try simp only [sbM, reduceCtorEq, frB_iff, frB_no] at hq) <;> (try (have hqt : hq = True.intro := rfl; clear hqt hq)) <;> (try (exact absurd trivial hq)) <;> (try (exfalso; omega))) | refine J.exit ?_ | refine J.ret ?_ | refine J.skip ?_ | refine J.label ?_ | (with_reducible first | refine then_normal ?_ | refine then_exit ?_ | refine then_ret ?_ | refine block_exit ?_ | refine block_normal ?_ | refine block_ret ?_ | refine block_exit_ne rfl ?_ | refine kI_go rfl ?_) | ((first | (apply t_next; focus ((conv => lhs; whnf); try exact rfl)) | refine t_forceN ?_ | refine t_addN by_o ?_ | refine t_subN by_o ?_ | refine t_mulN by_o ?_ | refine t_quo by_o by_o ?_ | refine t_rem by_o by_o ?_ | refine t_quoN by_o by_o ?_ | refine t_remN by_o ?_ | refine t_addC ?_ | refine t_subC ?_ | refine t_mulC ?_ | refine t_bRt rfl ?_ | refine t_bRf rfl ?_ | refine t_getC rfl ?_ | refine t_getC by_a ?_ | refine t_iRp rfl ?_ | refine t_iR by_o ?_ | refine t_iRn rfl ?_ | refine t_fBt rfl ?_ | refine t_fBf rfl ?_ | refine t_fBt by_s ?_ | refine t_fBf by_s ?_ | refine t_bRt by_u ?_ | refine t_bRf by_u ?_ | refine t_oA rfl ?_ | refine t_oA by_a ?_ | refine t_old by_a by_r ?_ | refine t_call0 (Raccount_fn _ _ hD) rfl by_g rfl by_k ?_ | refine t_call0 (Rfree_fn _ _ _ hg hk0 hk1 (by omega) (by omega)) rfl by_g rfl by_k ?_); (conv => lhs; whnf)) | ((first | refine t_fB (fun hq => ?_) (fun hq => ?_) | refine t_bR (fun hq => ?_) (fun hq => ?_) | (first | refine t_callB (In_fn _ _ _ _) rfl by_g rfl (fun hq => ?_) (fun hq => ?_))) <;> (try simp only [sbM, reduceCtorEq, frB_iff, frB_no] at hq) <;> (try (have hqt : hq = True.intro := rfl; clear hqt hq)) <;> (try (exact absurd trivial hq)) <;> (try (exfalso; omega)) <;> (conv => lhs; whnf))))
          · refine LJ.ren _ [(44, [.int .i64 keep, .slice a n c])] [0] rfl ⟨_, _, _, rfl, rfl, SimL.of_eq (l := [.int .i64 keep, .slice a n c]) rfl by_g, nin rfl, trivial⟩ ?_ (IH (lo, (lo + hi) / 2) ⟨h1, h2, by dsimp only; omega, by dsimp only; omega⟩ (by dsimp only; omega))
            exact by_sbVG
          · refine LJ.ren _ [(44, [.int .i64 keep, .slice a n c])] [0] rfl ⟨_, _, _, rfl, rfl, SimL.of_eq (l := [.int .i64 keep, .slice a n c]) rfl by_g, nin rfl, trivial⟩ ?_ (IH ((lo + hi) / 2 + 1, hi) ⟨by dsimp only; omega, by dsimp only; omega, h3, h4⟩ (by dsimp only; omega))
            exact by_sbVG
        · (repeat' (first | refine J.seq ?_ | refine JP.one ?_ | refine JP.step ?_ | refine J.block ?_ | refine J.scope ?_ | (refine J.region (fun z => ?_); (conv => lhs; whnf)) | (refine J.cond rfl rfl (fun hq => ?_) (fun hq => ?_) <;> (try simp only [sbM, reduceCtorEq, frB_iff, frB_no] at hq) <;> (try (have hqt : hq = True.intro := rfl; clear hqt hq)) <;> (try (exact absurd trivial hq)) <;> (try (exfalso; omega))) | refine J.exit ?_ | refine J.ret ?_ | refine J.skip ?_ | refine J.label ?_ | (with_reducible first | refine then_normal ?_ | refine then_exit ?_ | refine then_ret ?_ | refine block_exit ?_ | refine block_normal ?_ | refine block_ret ?_ | refine block_exit_ne rfl ?_ | refine kI_go rfl ?_) | ((first | (apply t_next; focus ((conv => lhs; whnf); try exact rfl)) | refine t_forceN ?_ | refine t_addN by_o ?_ | refine t_subN by_o ?_ | refine t_mulN by_o ?_ | refine t_quo by_o by_o ?_ | refine t_rem by_o by_o ?_ | refine t_quoN by_o by_o ?_ | refine t_remN by_o ?_ | refine t_addC ?_ | refine t_subC ?_ | refine t_mulC ?_ | refine t_bRt rfl ?_ | refine t_bRf rfl ?_ | refine t_getC rfl ?_ | refine t_getC by_a ?_ | refine t_iRp rfl ?_ | refine t_iR by_o ?_ | refine t_iRn rfl ?_ | refine t_fBt rfl ?_ | refine t_fBf rfl ?_ | refine t_fBt by_s ?_ | refine t_fBf by_s ?_ | refine t_bRt by_u ?_ | refine t_bRf by_u ?_ | refine t_oA rfl ?_ | refine t_oA by_a ?_ | refine t_old by_a by_r ?_ | refine t_call0 (Raccount_fn _ _ hD) rfl by_g rfl by_k ?_ | refine t_call0 (Rfree_fn _ _ _ hg hk0 hk1 (by omega) (by omega)) rfl by_g rfl by_k ?_); (conv => lhs; whnf)) | ((first | refine t_fB (fun hq => ?_) (fun hq => ?_) | refine t_bR (fun hq => ?_) (fun hq => ?_) | (first | refine t_callB (In_fn _ _ _ _) rfl by_g rfl (fun hq => ?_) (fun hq => ?_))) <;> (try simp only [sbM, reduceCtorEq, frB_iff, frB_no] at hq) <;> (try (have hqt : hq = True.intro := rfl; clear hqt hq)) <;> (try (exact absurd trivial hq)) <;> (try (exfalso; omega)) <;> (conv => lhs; whnf))))
          (refine endG trivial rfl rfl by_g ?_; refine tup2 ?_ ?_ <;> (conv => lhs; whnf))
          · rw [if_pos (by omega)]; exact congrArg (Value.int .i64) (by omega)
          · rw [if_pos (by omega)]
theorem pays_nil {a : Option Addr} {n c : Nat} {ds : List Int} (keep income many v w : Int) (hD : Ints f a n c ds) (hwk : FnR Tryz.prog f 13 [] ⟨.bool true, []⟩) (hpv : payV keep ds income = []) (hE : FnR Tryz.prog f 17 [.agg ⟨[.int .i64 keep, .slice a n c]⟩, .int .i64 many] ⟨.tuple ⟨[.int .i64 v, .int .i64 w]⟩, []⟩) (hRE : FnR Tryz.prog f 18 [.agg ⟨[.int .i64 keep, .slice a n c]⟩, .int .i64 many] ⟨.tuple ⟨[.int .i64 v, .int .i64 w]⟩, []⟩) :
    FnR Tryz.prog f 4 [.agg ⟨[.int .i64 keep, .slice a n c]⟩, .int .i64 income, .int .i64 many] ⟨.bool true, []⟩ := by
  have hg := hD.g
  have hS := Pay_all f keep income hD
  have hRS := RPay_fn f keep income hD
  rw [hpv] at hS hRS
  generalize cashV keep ds income = v1 at hS hRS
  generalize payE keep ds income = v2 at hS hRS
  have hS : FnR Tryz.prog f 14 [.agg ⟨[.int .i64 keep, .slice a n c]⟩, .int .i64 income] ⟨.tuple ⟨[.slice none 0 0, .int .i64 v1, .int .i64 v2]⟩, []⟩ := hS
  have hRS : FnR Tryz.prog f 15 [.agg ⟨[.int .i64 keep, .slice a n c]⟩, .int .i64 income] ⟨.tuple ⟨[.slice none 0 0, .int .i64 v1, .int .i64 v2]⟩, []⟩ := hRS
  refine fn_J by_g rfl ?_
  (repeat' (first | refine J.seq ?_ | refine JP.one ?_ | refine JP.step ?_ | refine J.block ?_ | refine J.scope ?_ | (refine J.region (fun z => ?_); (conv => lhs; whnf)) | (refine J.cond rfl rfl (fun hq => ?_) (fun hq => ?_) <;> (try simp only [sbM, reduceCtorEq, frB_iff, frB_no] at hq) <;> (try (have hqt : hq = True.intro := rfl; clear hqt hq)) <;> (try (exact absurd trivial hq)) <;> (try (exfalso; omega))) | refine J.exit ?_ | refine J.ret ?_ | refine J.skip ?_ | refine J.label ?_ | (with_reducible first | refine then_normal ?_ | refine then_exit ?_ | refine then_ret ?_ | refine block_exit ?_ | refine block_normal ?_ | refine block_ret ?_ | refine block_exit_ne rfl ?_ | refine kI_go rfl ?_) | ((first | (apply t_next; focus ((conv => lhs; whnf); try exact rfl)) | refine t_forceN ?_ | refine t_addN by_o ?_ | refine t_subN by_o ?_ | refine t_mulN by_o ?_ | refine t_quo by_o by_o ?_ | refine t_rem by_o by_o ?_ | refine t_quoN by_o by_o ?_ | refine t_remN by_o ?_ | refine t_addC ?_ | refine t_subC ?_ | refine t_mulC ?_ | refine t_bRt rfl ?_ | refine t_bRf rfl ?_ | refine t_getC rfl ?_ | refine t_getC by_a ?_ | refine t_iRp rfl ?_ | refine t_iR by_o ?_ | refine t_iRn rfl ?_ | refine t_fBt rfl ?_ | refine t_fBf rfl ?_ | refine t_fBt by_s ?_ | refine t_fBf by_s ?_ | refine t_bRt by_u ?_ | refine t_bRf by_u ?_ | refine t_oA rfl ?_ | refine t_oA by_a ?_ | refine t_old by_a by_r ?_ | refine t_call0 (hS) rfl by_g rfl by_k ?_ | refine t_call0 (hRS) rfl by_g rfl by_k ?_ | refine t_call0 (hE) rfl by_g rfl by_k ?_ | refine t_call0 (hRE) rfl by_g rfl by_k ?_ | refine t_call0 (hwk) rfl by_g rfl by_k ?_ | refine t_call0 (Same_fn f Sl.nil Sl.nil) rfl by_g rfl by_k ?_); (conv => lhs; whnf)) | ((first | refine t_fB (fun hq => ?_) (fun hq => ?_) | refine t_bR (fun hq => ?_) (fun hq => ?_)) <;> (try simp only [sbM, reduceCtorEq, frB_iff, frB_no] at hq) <;> (try (have hqt : hq = True.intro := rfl; clear hqt hq)) <;> (try (exact absurd trivial hq)) <;> (try (exfalso; omega)) <;> (conv => lhs; whnf))))
  (refine endG trivial rfl rfl by_g ?_; (conv => lhs; whnf))
theorem pays_cons {a : Option Addr} {n c : Nat} {ds gt : List Int} {g0 : Int} (keep income many v w : Int) (hD : Ints f a n c ds) (hwk : FnR Tryz.prog f 13 [] ⟨.bool true, []⟩) (hpv : payV keep ds income = g0 :: gt) (hgl : (g0 :: gt).length = n) (hE : FnR Tryz.prog f 17 [.agg ⟨[.int .i64 keep, .slice a n c]⟩, .int .i64 many] ⟨.tuple ⟨[.int .i64 v, .int .i64 w]⟩, []⟩) (hRE : FnR Tryz.prog f 18 [.agg ⟨[.int .i64 keep, .slice a n c]⟩, .int .i64 many] ⟨.tuple ⟨[.int .i64 v, .int .i64 w]⟩, []⟩) :
    FnR Tryz.prog f 4 [.agg ⟨[.int .i64 keep, .slice a n c]⟩, .int .i64 income, .int .i64 many] ⟨.bool true, []⟩ := by
  have hg := hD.g
  have hle := hD.le
  have hS := Pay_all f keep income hD
  have hRS := RPay_fn f keep income hD
  rw [hpv] at hS hRS
  generalize cashV keep ds income = v1 at hS hRS
  generalize payE keep ds income = v2 at hS hRS
  have hS : FnR Tryz.prog f 14 [.agg ⟨[.int .i64 keep, .slice a n c]⟩, .int .i64 income] ⟨.tuple ⟨[.slice (some ⟨0, 0, some 1⟩) n 0, .int .i64 v1, .int .i64 v2]⟩, [(3, encA encI (g0 :: gt))]⟩ := hS
  have hRS : FnR Tryz.prog f 15 [.agg ⟨[.int .i64 keep, .slice a n c]⟩, .int .i64 income] ⟨.tuple ⟨[.slice (some ⟨0, 0, some 1⟩) n 0, .int .i64 v1, .int .i64 v2]⟩, [(3, encA encI (g0 :: gt))]⟩ := hRS
  refine fn_J by_g rfl ?_
  (repeat' (first | refine J.seq ?_ | refine JP.one ?_ | refine JP.step ?_ | refine J.block ?_ | refine J.scope ?_ | (refine J.region (fun z => ?_); (conv => lhs; whnf)) | (refine J.cond rfl rfl (fun hq => ?_) (fun hq => ?_) <;> (try simp only [sbM, reduceCtorEq, frB_iff, frB_no] at hq) <;> (try (have hqt : hq = True.intro := rfl; clear hqt hq)) <;> (try (exact absurd trivial hq)) <;> (try (exfalso; omega))) | refine J.exit ?_ | refine J.ret ?_ | refine J.skip ?_ | refine J.label ?_ | (with_reducible first | refine then_normal ?_ | refine then_exit ?_ | refine then_ret ?_ | refine block_exit ?_ | refine block_normal ?_ | refine block_ret ?_ | refine block_exit_ne rfl ?_ | refine kI_go rfl ?_) | ((first | (apply t_next; focus ((conv => lhs; whnf); try exact rfl)) | refine t_forceN ?_ | refine t_addN by_o ?_ | refine t_subN by_o ?_ | refine t_mulN by_o ?_ | refine t_quo by_o by_o ?_ | refine t_rem by_o by_o ?_ | refine t_quoN by_o by_o ?_ | refine t_remN by_o ?_ | refine t_addC ?_ | refine t_subC ?_ | refine t_mulC ?_ | refine t_bRt rfl ?_ | refine t_bRf rfl ?_ | refine t_getC rfl ?_ | refine t_getC by_a ?_ | refine t_iRp rfl ?_ | refine t_iR by_o ?_ | refine t_iRn rfl ?_ | refine t_fBt rfl ?_ | refine t_fBf rfl ?_ | refine t_fBt by_s ?_ | refine t_fBf by_s ?_ | refine t_bRt by_u ?_ | refine t_bRf by_u ?_ | refine t_oA rfl ?_ | refine t_oA by_a ?_ | refine t_old by_a by_r ?_ | refine t_callG (orcS z) (hS) rfl by_g rfl (by first | rfl | (exact rowp1 _ _ (fun _ => rfl) _) | exact by_g) rfl ?_ | refine t_callG (orcS z) (hRS) rfl by_g rfl (by first | rfl | (exact rowp1 _ _ (fun _ => rfl) _) | exact by_g) rfl ?_ | refine t_call0 (hE) rfl by_g rfl by_k ?_ | refine t_call0 (hRE) rfl by_g rfl by_k ?_ | refine t_call0 (hwk) rfl by_g rfl by_k ?_ | refine t_callQ (orcS z) (g0 :: gt) (g0 :: gt) [] [] [] rfl (fun f' b c' b2 c2' hm H H2 => Same_fn f' H H2) rfl rfl rfl rfl (.inr rfl) rfl (encA_eq _) (fun _ => rfl) (fun _ => rfl) hgl (by omega) (.inr rfl) rfl (encA_eq _) (fun _ => rfl) (fun _ => rfl) hgl (by omega) rfl rfl rfl ?_); (conv => lhs; whnf)) | ((first | refine t_fB (fun hq => ?_) (fun hq => ?_) | refine t_bR (fun hq => ?_) (fun hq => ?_)) <;> (try simp only [sbM, reduceCtorEq, frB_iff, frB_no] at hq) <;> (try (have hqt : hq = True.intro := rfl; clear hqt hq)) <;> (try (exact absurd trivial hq)) <;> (try (exfalso; omega)) <;> (conv => lhs; whnf))))
  (refine endG trivial rfl rfl by_g ?_; (conv => lhs; whnf))
/-- **PursePays** returns true, whatever its arguments are. -/
theorem pursePays_any {a : Option Addr} {n c : Nat} {ds : List Int} (keep income many : Int) (hD : Ints f a n c ds) (hwk : FnR Tryz.prog f 13 [] ⟨.bool true, []⟩) :
    FnR Tryz.prog f 4 [.agg ⟨[.int .i64 keep, .slice a n c]⟩, .int .i64 income, .int .i64 many] ⟨.bool true, []⟩ := by
  have key : ∃ v w : Int, FnR Tryz.prog f 17 [.agg ⟨[.int .i64 keep, .slice a n c]⟩, .int .i64 many] ⟨.tuple ⟨[.int .i64 v, .int .i64 w]⟩, []⟩ ∧ FnR Tryz.prog f 18 [.agg ⟨[.int .i64 keep, .slice a n c]⟩, .int .i64 many] ⟨.tuple ⟨[.int .i64 v, .int .i64 w]⟩, []⟩ := by
    by_cases h : enoE keep ds many = 0
    · have hz := h
      rw [enoE, orP_z, rangeE_z, frB_iff] at hz
      obtain ⟨hacc, hm0, hm1⟩ := hz
      obtain ⟨⟨hk0, hk1⟩, hn5, hds⟩ := accB_iff.1 (accE_z.1 hacc)
      obtain ⟨m, rfl⟩ := Int.eq_ofNat_of_zero_le hm0
      obtain ⟨r, hr0, hr1, hr⟩ := spare_r (D := (ds.take m).sum) hk0 hk1
      exact ⟨_, _, Enough_fn f keep r m hD h hr0 hr1 hr, REnough_fn f keep r m hD h hr0 hr1 hr⟩
    · exact ⟨_, _, Enough_err f keep many hD h, REnough_err f keep many hD h⟩
  obtain ⟨v, w, hE, hRE⟩ := key
  cases h : payV keep ds income with
  | nil => exact pays_nil f keep income many v w hD hwk h hE hRE
  | cons g0 gt =>
    refine pays_cons f keep income many v w hD hwk h ?_ hE hRE
    have h2 := congrArg List.length h
    rw [payV] at h2
    split at h2
    · rw [payF_len, hD.len] at h2; exact h2.symm
    · cases h2
end
end Go.Proofs.YtlcdifeiinpaiaaGreat
