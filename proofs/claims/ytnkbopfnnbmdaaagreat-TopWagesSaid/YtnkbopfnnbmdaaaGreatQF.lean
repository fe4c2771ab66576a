/- Package purse: what lots bring a family. Conditions: as each theorem says. -/
import Derived.Test.YtnkbopfnnbmdaaaGreatQE
namespace Go.Proofs.YtnkbopfnnbmdaaaGreat
open Go Go.RowKit
attribute [local irreducible] addC subC mulC quoI remI forceN forceB bR getC iR kI callI rcI oldC oA nextC
set_option maxRecDepth 1000000
set_option maxHeartbeats 8000000
set_option linter.unusedVariables false
set_option linter.unusedSimpArgs false
section
variable (f : Nat → Nat → Option Value)
/-- The two amounts of a bill for a family. -/
def bilA (ps : List Int) (part fam : Int) (x : Lot) : Int := if x.fam = fam then advF ps part x else 0
def bilB (ps : List Int) (part fam g : Int) (x : Lot) : Int := if x.fam = fam then worthF ps x g - advF ps part x else 0
theorem billTo2_fn {a : Option Addr} {n c : Nat} {ps : List Int} (part fam g : Int) (x : Lot) (hP : Ints f a n c ps) (hd : descB 100000 ps = true) (hp0 : 0 ≤ part) (hp1 : part ≤ 1000) (hx0 : 0 ≤ x.grams) (hx1 : x.grams ≤ 1000000) (hh0 : 0 ≤ x.hi) (hh1 : x.hi ≤ ps.length) (h0 : 0 ≤ g) (h1 : g ≤ ps.length) : FnR Tryz.prog f 30 [.agg ⟨[.slice a n c, .int .i64 part]⟩, .int .i64 fam, .agg ⟨encL x⟩, .int .i64 g] ⟨.agg ⟨[.int .i64 (bilA ps part fam x), .int .i64 (bilB ps part fam g x)]⟩, []⟩ := by
  have h := billTo_fn f part fam g x hP hd hp0 hp1 hx0 hx1 hh0 hh1 h0 h1
  unfold bilA bilB
  unfold billToV at h
  split at h
  · rename_i e; rw [if_pos e, if_pos e]; exact h
  · rename_i e; rw [if_neg e, if_neg e]; exact h
/-- The grade by which a lot is counted. -/
def gradeF : Bool → Lot → Int
  | true, x => x.hi
  | false, x => x.lo
def gradeId : Bool → FuncId
  | true => 16
  | false => 17
theorem grade_fn (k : Bool) (x : Lot) : FnR Tryz.prog f (gradeId k) [.agg ⟨encL x⟩] ⟨.int .i64 (gradeF k x), []⟩ := by
  cases k
  · exact Sure2_fn f x
  · exact Sure1_fn f x
def amtF (ps : List Int) (part fam : Int) (k : Bool) (x : Lot) : List Int :=
  if bilA ps part fam x = 0 ∧ bilB ps part fam (gradeF k x) x = 0 then [] else [bilA ps part fam x, bilB ps part fam (gradeF k x) x]
def bringsF (ps : List Int) (part fam : Int) (k : Bool) (l : List Lot) : Int := (l.flatMap (amtF ps part fam k)).sum
theorem guard43 : Tryz.prog.eqGuardType Tryz.prog.depth 43 = false := by decide +kernel
theorem held43 : Tryz.prog.stoodInHeld 43 = false := by decide +kernel
def encIs (l : List Int) : List Value := l.map (Value.int .i64)
theorem encIs_eq : ∀ l : List Int, encIs l = l.flatMap encI
  | [] => rfl
  | x :: l => by rw [List.flatMap_cons, ← encIs_eq l]; rfl
theorem encIs_gr : ∀ l : List Int, (encIs l).all (gr 6) = true
  | [] => rfl
  | x :: l => by show (gr 6 (.int .i64 x) && (encIs l).all (gr 6)) = true; rw [encIs_gr l]; rfl
theorem encIs_len (l : List Int) : (encIs l).length = l.length := List.length_map _
theorem encIs_add (a : Int) (l : List Int) (A B : Int) : encIs (a :: (l ++ [A, B])) = appR (encIs (a :: l)) [.int .i64 A, .int .i64 B] := by rw [appR_eq]; simp [encIs]
theorem sum_in {B : Int} : ∀ l : List Int, (∀ y ∈ l, -B ≤ y ∧ y ≤ B) → -(l.length * B) ≤ l.sum ∧ l.sum ≤ l.length * B
  | [], _ => by simp
  | y :: l, h => by
    have h1 := h y (List.mem_cons_self ..)
    have h2 := sum_in l fun z hz => h z (List.mem_cons_of_mem _ hz)
    rw [List.sum_cons, List.length_cons, Int.natCast_add, Int.add_mul]
    omega
theorem sum_take_in {l : List Int} (h : ∀ y ∈ l, -100000000 ≤ y ∧ y ≤ 100000000) (hl : l.length ≤ 60000) (i : Nat) (_ : i ≤ l.length) : -4000000000000000000 ≤ (l.take i).sum ∧ (l.take i).sum ≤ 4000000000000000000 := by
  have h1 := sum_in (B := 100000000) (l.take i) fun y hy => h y (List.mem_of_mem_take hy)
  have h2 : (l.take i).length ≤ 60000 := by rw [List.length_take]; omega
  omega
theorem amt_in {ps : List Int} {part fam : Int} {k : Bool} {x : Lot} (hd : descB 100000 ps = true) (hp0 : 0 ≤ part) (hp1 : part ≤ 1000) (hx0 : 0 ≤ x.grams) (hx1 : x.grams ≤ 1000000) : ∀ y ∈ amtF ps part fam k x, -100000000 ≤ y ∧ y ≤ 100000000 := by
  intro y hy
  have h1 := advF_in (x := x) hd hx0 hx1 hp0 hp1
  have h2 := worthF_in (g := x.hi) (x := x) hd hx0 hx1
  have h3 := worthF_in (g := gradeF k x) (x := x) hd hx0 hx1
  unfold amtF at hy
  split at hy
  · cases hy
  · simp only [List.mem_cons, List.not_mem_nil, or_false] at hy
    unfold bilA bilB at hy
    split at hy <;> omega
def sl9 : List Int → Nat → Value
  | [], _ => .slice none 0 0
  | _ :: _, m => .slice (some ⟨1, 0, some 1⟩) m 0
def rw9 (r : TypeId × List Value) : List Int → List (TypeId × List Value)
  | [] => [r]
  | x :: l => [r, (3, encIs (x :: l))]
theorem brings_fn {a a2 : Option Addr} {n c n2 c2 : Nat} {ps : List Int} {l : List Lot} (part fam : Int) (k : Bool) (hP : Ints f a n c ps) (hd : descB 100000 ps = true) (hp0 : 0 ≤ part) (hp1 : part ≤ 1000) (hL : Lots f a2 n2 c2 l) (hok : l.all (lotB n) = true) (hmax : n2 ≤ 30000) : FnR Tryz.prog f 18 [.agg ⟨[.slice a n c, .int .i64 part]⟩, .slice a2 n2 c2, .int .i64 fam, .func (.func (gradeId k)) ⟨[]⟩ ⟨[]⟩] ⟨.int .i64 (bringsF ps part fam k l), []⟩ := by
  have hg := hP.g
  have hG := guard43
  have hH := held43
  have hS0 : FnR Tryz.prog f 26 [.slice none 0 0] ⟨.int .i64 0, []⟩ := sum_fn f Sl.nil (fun i hi => by cases i with | zero => exact ⟨by decide, by decide⟩ | succ i => cases hi)
  obtain ⟨hg2, hlen, hnc, hle, hat⟩ := hL
  refine fn_J by_g rfl ?_
  (repeat' (first | refine J.seq ?_ | refine JP.one ?_ | refine JP.step ?_ | refine J.block ?_ | refine J.scope ?_ | (refine J.region (fun z => ?_); (conv => lhs; whnf)) | (refine J.cond rfl rfl (fun hq => ?_) (fun hq => ?_) <;> (try simp only [sbM, reduceCtorEq, frB_iff, frB_no, gradeB_iff, gradeB_no, famE_z] at hq) <;> (try (have hqt : hq = True.intro := rfl; clear hqt hq)) <;> (try (exact absurd trivial hq)) <;> (try (exfalso; omega))) | refine J.exit ?_ | refine J.ret ?_ | refine J.skip ?_ | refine J.label ?_ | (with_reducible first | refine then_normal ?_ | refine then_exit ?_ | refine then_ret ?_ | refine block_exit ?_ | refine block_normal ?_ | refine block_ret ?_ | refine block_exit_ne rfl ?_ | refine kI_go rfl ?_) | ((first | (apply t_next; focus ((conv => lhs; whnf); try exact rfl)) | refine t_forceN ?_ | refine t_addN by_o ?_ | refine t_subN by_o ?_ | refine t_mulN by_o ?_ | refine t_quo by_o by_o ?_ | refine t_rem by_o by_o ?_ | refine t_quoN by_o by_o ?_ | refine t_remN by_o ?_ | refine t_addC ?_ | refine t_subC ?_ | refine t_mulC ?_ | refine t_bRt rfl ?_ | refine t_bRf rfl ?_ | refine t_getC rfl ?_ | refine t_getC by_a ?_ | refine t_iRp rfl ?_ | refine t_iR by_o ?_ | refine t_iRn rfl ?_ | refine t_fBt rfl ?_ | refine t_fBf rfl ?_ | refine t_fBt by_s ?_ | refine t_fBf by_s ?_ | refine t_bRt by_u ?_ | refine t_bRt (by (first | (rw [lenR_eq, encIs_len, Nat.beq_eq, List.length_cons]; show ns.length + 1 = m * 1; omega) | (rw [lenR_eq, encIs_len, Nat.ble_eq, List.length_cons]; show ns.length + 1 ≤ m * 1; omega) | (rw [lenR_eq, Nat.beq_eq]; simp; omega))) ?_ | refine t_bRf by_u ?_ | refine t_oA rfl ?_ | refine t_oA by_a ?_ | refine t_old by_a by_r ?_ | refine t_call0 (grade_fn _ k x) rfl by_g rfl by_k ?_ | refine t_call0 (billTo2_fn _ _ _ _ _ hP hd hp0 hp1 hx0 hx1 hh0 hh1 (by omega) (by omega)) rfl by_g rfl by_k ?_ | refine t_call0 (hS0) rfl by_g rfl by_k ?_); (conv => lhs; whnf)) | ((first | refine t_fB (fun hq => ?_) (fun hq => ?_) | refine t_bR (fun hq => ?_) (fun hq => ?_)) <;> (try simp only [sbM, reduceCtorEq, frB_iff, frB_no, gradeB_iff, gradeB_no, famE_z] at hq) <;> (try (have hqt : hq = True.intro := rfl; clear hqt hq)) <;> (try (exact absurd trivial hq)) <;> (try (exfalso; omega)) <;> (conv => lhs; whnf))))
  refine J.loop (LJ.ind (fun x : Nat × List Int × Nat => [none, none, some (.int .i64 fam), some (.func (.func (gradeId k)) ⟨[]⟩ ⟨[]⟩), some (.pointer (some ⟨0, 0, some 0⟩)), none, none, none, none, some (sl9 x.2.1 x.2.2), none, none, none, some (.slice a2 n2 c2), some (.int .i64 (n2 : Int)), some (.int .i64 (x.1 : Int)), none, none, none, none, none, none, none, none, none, none, none, none, none, none, none, none, none, none, none, none, none, none, none]) (fun x => rw9 (54, [.slice a n c, .int .i64 part]) x.2.1) (fun x => x.1 ≤ n2 ∧ x.2.1 = (l.take x.1).flatMap (amtF ps part fam k) ∧ x.2.2 = x.2.1.length ∧ x.2.1.length ≤ 2 * x.1) (fun x => n2 - x.1) (0, [], 0) [0] ⟨Nat.zero_le _, rfl, rfl, Nat.le_refl _⟩ rfl ?_ ?_ ?_)
  · exact ⟨_, _, _, rfl, rfl, SimL.ground (l := [.slice a n c, .int .i64 part]) by_g, by simp, trivial⟩
  · exact by_s0
  · rintro ⟨i, ns, m⟩ ⟨hi, hns, hm, hml⟩ vs ⟨xs, gx, rfl⟩ IH
    simp only at hi hns hm hml
    cases ns with
    | nil =>
      by_cases hin : i < n2
      · obtain ⟨x, hx⟩ : ∃ x, l[i]? = some x := ⟨_, List.getElem?_eq_getElem (by omega)⟩
        obtain ⟨b, o, ha, hc⟩ := hat i _ hx
        have hc0 := hc 0 _ rfl
        have hc1 := hc 1 _ rfl
        have hc2 := hc 2 _ rfl
        have hc3 := hc 3 _ rfl
        have hok1 := List.all_eq_true.1 hok _ (List.mem_of_getElem? hx)
        rw [lotB_iff] at hok1
        obtain ⟨hf, ⟨hx0, hx1⟩, hl0, hlh, hh1⟩ := hok1
        have hh0 : 0 ≤ x.hi := by omega
        rw [← hP.len] at hh1
        have hgk : 0 ≤ gradeF k x ∧ gradeF k x ≤ ps.length := by cases k <;> (show 0 ≤ _ ∧ _ ≤ _; simp only [gradeF]; omega)
        have hgk0 := hgk.1
        have hgk1 := hgk.2
        have htk : (l.take (i + 1)).flatMap (amtF ps part fam k) = [] ++ amtF ps part fam k x := by rw [List.take_add_one, hx, List.flatMap_append, ← hns]; simp
        (repeat' (first | refine J.seq ?_ | refine JP.one ?_ | refine JP.step ?_ | refine J.block ?_ | refine J.scope ?_ | (refine J.region (fun z => ?_); (conv => lhs; whnf)) | (refine J.cond rfl rfl (fun hq => ?_) (fun hq => ?_) <;> (try simp only [sbM, reduceCtorEq, frB_iff, frB_no, gradeB_iff, gradeB_no, famE_z] at hq) <;> (try (have hqt : hq = True.intro := rfl; clear hqt hq)) <;> (try (exact absurd trivial hq)) <;> (try (exfalso; omega))) | refine J.exit ?_ | refine J.ret ?_ | refine J.skip ?_ | refine J.label ?_ | (with_reducible first | refine then_normal ?_ | refine then_exit ?_ | refine then_ret ?_ | refine block_exit ?_ | refine block_normal ?_ | refine block_ret ?_ | refine block_exit_ne rfl ?_ | refine kI_go rfl ?_) | ((first | (apply t_next; focus ((conv => lhs; whnf); try exact rfl)) | refine t_forceN ?_ | refine t_addN by_o ?_ | refine t_subN by_o ?_ | refine t_mulN by_o ?_ | refine t_quo by_o by_o ?_ | refine t_rem by_o by_o ?_ | refine t_quoN by_o by_o ?_ | refine t_remN by_o ?_ | refine t_addC ?_ | refine t_subC ?_ | refine t_mulC ?_ | refine t_bRt rfl ?_ | refine t_bRf rfl ?_ | refine t_getC rfl ?_ | refine t_getC by_a ?_ | refine t_iRp rfl ?_ | refine t_iR by_o ?_ | refine t_iRn rfl ?_ | refine t_fBt rfl ?_ | refine t_fBf rfl ?_ | refine t_fBt by_s ?_ | refine t_fBf by_s ?_ | refine t_bRt by_u ?_ | refine t_bRt (by (first | (rw [lenR_eq, encIs_len, Nat.beq_eq, List.length_cons]; show ns.length + 1 = m * 1; omega) | (rw [lenR_eq, encIs_len, Nat.ble_eq, List.length_cons]; show ns.length + 1 ≤ m * 1; omega) | (rw [lenR_eq, Nat.beq_eq]; simp; omega))) ?_ | refine t_bRf by_u ?_ | refine t_oA rfl ?_ | refine t_oA by_a ?_ | refine t_old by_a by_r ?_ | refine t_call0 (grade_fn _ k x) rfl by_g rfl by_k ?_ | refine t_call0 (billTo2_fn _ _ _ _ _ hP hd hp0 hp1 hx0 hx1 hh0 hh1 (by omega) (by omega)) rfl by_g rfl by_k ?_ | refine t_call0 (hS0) rfl by_g rfl by_k ?_); (conv => lhs; whnf)) | ((first | refine t_fB (fun hq => ?_) (fun hq => ?_) | refine t_bR (fun hq => ?_) (fun hq => ?_)) <;> (try simp only [sbM, reduceCtorEq, frB_iff, frB_no, gradeB_iff, gradeB_no, famE_z] at hq) <;> (try (have hqt : hq = True.intro := rfl; clear hqt hq)) <;> (try (exact absurd trivial hq)) <;> (try (exfalso; omega)) <;> (conv => lhs; whnf))))
        · refine LJ.ren _ (rw9 (54, [.slice a n c, .int .i64 part]) []) [0] rfl ⟨_, _, _, rfl, rfl, SimL.ground (l := [.slice a n c, .int .i64 part]) by_g, by simp, trivial⟩ ?_ (IH (i + 1, [], 0) ⟨hin, ?_, rfl, Nat.zero_le _⟩ ?_)
          · exact by_sb
          · show [] = (l.take (i + 1)).flatMap (amtF ps part fam k)
            rw [htk, amtF, if_pos ⟨by assumption, by assumption⟩]; rfl
          · show n2 - (i + 1) < n2 - i; omega
        all_goals (
          refine LJ.ren _ (rw9 (54, [.slice a n c, .int .i64 part]) [bilA ps part fam x, bilB ps part fam (gradeF k x) x]) [0, 4] rfl ⟨_, _, _, rfl, rfl, SimL.ground (l := [.slice a n c, .int .i64 part]) by_g, by simp, _, _, _, rfl, rfl, SimL.of_eq (l := encIs [bilA ps part fam x, bilB ps part fam (gradeF k x) x]) rfl (encIs_gr _), (by show (4 : Nat) ∉ [0]; decide), trivial⟩ ?_ (IH (i + 1, [bilA ps part fam x, bilB ps part fam (gradeF k x) x], 2) ⟨hin, ?_, rfl, (by show 2 ≤ 2 * (i + 1); omega)⟩ ?_)
          · exact by_sb
          · show [bilA ps part fam x, bilB ps part fam (gradeF k x) x] = (l.take (i + 1)).flatMap (amtF ps part fam k)
            rw [htk, amtF, if_neg (fun h => by first | exact hq h.2 | exact hq h.1)]; rfl
          · show n2 - (i + 1) < n2 - i; omega)
      · (repeat' (first | refine J.seq ?_ | refine JP.one ?_ | refine JP.step ?_ | refine J.block ?_ | refine J.scope ?_ | (refine J.region (fun z => ?_); (conv => lhs; whnf)) | (refine J.cond rfl rfl (fun hq => ?_) (fun hq => ?_) <;> (try simp only [sbM, reduceCtorEq, frB_iff, frB_no, gradeB_iff, gradeB_no, famE_z] at hq) <;> (try (have hqt : hq = True.intro := rfl; clear hqt hq)) <;> (try (exact absurd trivial hq)) <;> (try (exfalso; omega))) | refine J.exit ?_ | refine J.ret ?_ | refine J.skip ?_ | refine J.label ?_ | (with_reducible first | refine then_normal ?_ | refine then_exit ?_ | refine then_ret ?_ | refine block_exit ?_ | refine block_normal ?_ | refine block_ret ?_ | refine block_exit_ne rfl ?_ | refine kI_go rfl ?_) | ((first | (apply t_next; focus ((conv => lhs; whnf); try exact rfl)) | refine t_forceN ?_ | refine t_addN by_o ?_ | refine t_subN by_o ?_ | refine t_mulN by_o ?_ | refine t_quo by_o by_o ?_ | refine t_rem by_o by_o ?_ | refine t_quoN by_o by_o ?_ | refine t_remN by_o ?_ | refine t_addC ?_ | refine t_subC ?_ | refine t_mulC ?_ | refine t_bRt rfl ?_ | refine t_bRf rfl ?_ | refine t_getC rfl ?_ | refine t_getC by_a ?_ | refine t_iRp rfl ?_ | refine t_iR by_o ?_ | refine t_iRn rfl ?_ | refine t_fBt rfl ?_ | refine t_fBf rfl ?_ | refine t_fBt by_s ?_ | refine t_fBf by_s ?_ | refine t_bRt by_u ?_ | refine t_bRt (by (first | (rw [lenR_eq, encIs_len, Nat.beq_eq, List.length_cons]; show ns.length + 1 = m * 1; omega) | (rw [lenR_eq, encIs_len, Nat.ble_eq, List.length_cons]; show ns.length + 1 ≤ m * 1; omega) | (rw [lenR_eq, Nat.beq_eq]; simp; omega))) ?_ | refine t_bRf by_u ?_ | refine t_oA rfl ?_ | refine t_oA by_a ?_ | refine t_old by_a by_r ?_ | refine t_call0 (grade_fn _ k x) rfl by_g rfl by_k ?_ | refine t_call0 (billTo2_fn _ _ _ _ _ hP hd hp0 hp1 hx0 hx1 hh0 hh1 (by omega) (by omega)) rfl by_g rfl by_k ?_ | refine t_call0 (hS0) rfl by_g rfl by_k ?_); (conv => lhs; whnf)) | ((first | refine t_fB (fun hq => ?_) (fun hq => ?_) | refine t_bR (fun hq => ?_) (fun hq => ?_)) <;> (try simp only [sbM, reduceCtorEq, frB_iff, frB_no, gradeB_iff, gradeB_no, famE_z] at hq) <;> (try (have hqt : hq = True.intro := rfl; clear hqt hq)) <;> (try (exact absurd trivial hq)) <;> (try (exfalso; omega)) <;> (conv => lhs; whnf))))
        (refine endG trivial rfl rfl by_g ?_; (conv => lhs; whnf))
        rw [List.take_of_length_le (by omega)] at hns
        rw [bringsF, ← hns]; rfl
    | cons a0 ns =>
      simp only [List.length_cons] at hm hml
      by_cases hin : i < n2
      · obtain ⟨x, hx⟩ : ∃ x, l[i]? = some x := ⟨_, List.getElem?_eq_getElem (by omega)⟩
        obtain ⟨b, o, ha, hc⟩ := hat i _ hx
        have hc0 := hc 0 _ rfl
        have hc1 := hc 1 _ rfl
        have hc2 := hc 2 _ rfl
        have hc3 := hc 3 _ rfl
        have hok1 := List.all_eq_true.1 hok _ (List.mem_of_getElem? hx)
        rw [lotB_iff] at hok1
        obtain ⟨hf, ⟨hx0, hx1⟩, hl0, hlh, hh1⟩ := hok1
        have hh0 : 0 ≤ x.hi := by omega
        rw [← hP.len] at hh1
        have hgk : 0 ≤ gradeF k x ∧ gradeF k x ≤ ps.length := by cases k <;> (show 0 ≤ _ ∧ _ ≤ _; simp only [gradeF]; omega)
        have hgk0 := hgk.1
        have hgk1 := hgk.2
        have htk : (l.take (i + 1)).flatMap (amtF ps part fam k) = (a0 :: ns) ++ amtF ps part fam k x := by rw [List.take_add_one, hx, List.flatMap_append, ← hns]; simp
        (repeat' (first | refine J.seq ?_ | refine JP.one ?_ | refine JP.step ?_ | refine J.block ?_ | refine J.scope ?_ | (refine J.region (fun z => ?_); (conv => lhs; whnf)) | (refine J.cond rfl rfl (fun hq => ?_) (fun hq => ?_) <;> (try simp only [sbM, reduceCtorEq, frB_iff, frB_no, gradeB_iff, gradeB_no, famE_z] at hq) <;> (try (have hqt : hq = True.intro := rfl; clear hqt hq)) <;> (try (exact absurd trivial hq)) <;> (try (exfalso; omega))) | refine J.exit ?_ | refine J.ret ?_ | refine J.skip ?_ | refine J.label ?_ | (with_reducible first | refine then_normal ?_ | refine then_exit ?_ | refine then_ret ?_ | refine block_exit ?_ | refine block_normal ?_ | refine block_ret ?_ | refine block_exit_ne rfl ?_ | refine kI_go rfl ?_) | ((first | (apply t_next; focus ((conv => lhs; whnf); try exact rfl)) | refine t_forceN ?_ | refine t_addN by_o ?_ | refine t_subN by_o ?_ | refine t_mulN by_o ?_ | refine t_quo by_o by_o ?_ | refine t_rem by_o by_o ?_ | refine t_quoN by_o by_o ?_ | refine t_remN by_o ?_ | refine t_addC ?_ | refine t_subC ?_ | refine t_mulC ?_ | refine t_bRt rfl ?_ | refine t_bRf rfl ?_ | refine t_getC rfl ?_ | refine t_getC by_a ?_ | refine t_iRp rfl ?_ | refine t_iR by_o ?_ | refine t_iRn rfl ?_ | refine t_fBt rfl ?_ | refine t_fBf rfl ?_ | refine t_fBt by_s ?_ | refine t_fBf by_s ?_ | refine t_bRt by_u ?_ | refine t_bRt (by (first | (rw [lenR_eq, encIs_len, Nat.beq_eq, List.length_cons]; show ns.length + 1 = m * 1; omega) | (rw [lenR_eq, encIs_len, Nat.ble_eq, List.length_cons]; show ns.length + 1 ≤ m * 1; omega) | (rw [lenR_eq, Nat.beq_eq]; simp; omega))) ?_ | refine t_bRf by_u ?_ | refine t_oA rfl ?_ | refine t_oA by_a ?_ | refine t_old by_a by_r ?_ | refine t_call0 (grade_fn _ k x) rfl by_g rfl by_k ?_ | refine t_call0 (billTo2_fn _ _ _ _ _ hP hd hp0 hp1 hx0 hx1 hh0 hh1 (by omega) (by omega)) rfl by_g rfl by_k ?_ | refine t_call0 (hS0) rfl by_g rfl by_k ?_); (conv => lhs; whnf)) | ((first | refine t_fB (fun hq => ?_) (fun hq => ?_) | refine t_bR (fun hq => ?_) (fun hq => ?_)) <;> (try simp only [sbM, reduceCtorEq, frB_iff, frB_no, gradeB_iff, gradeB_no, famE_z] at hq) <;> (try (have hqt : hq = True.intro := rfl; clear hqt hq)) <;> (try (exact absurd trivial hq)) <;> (try (exfalso; omega)) <;> (conv => lhs; whnf))))
        · refine LJ.ren _ (rw9 (54, [.slice a n c, .int .i64 part]) (a0 :: ns)) [0, 1] rfl ⟨_, _, _, rfl, rfl, SimL.ground (l := [.slice a n c, .int .i64 part]) by_g, by simp, _, _, _, rfl, rfl, SimL.ground (l := encIs (a0 :: ns)) (encIs_gr _), (by show (1 : Nat) ∉ [0]; decide), trivial⟩ ?_ (IH (i + 1, a0 :: ns, m) ⟨hin, ?_, hm, (by show ns.length + 1 ≤ 2 * (i + 1); omega)⟩ ?_)
          · exact by_sb
          · show a0 :: ns = (l.take (i + 1)).flatMap (amtF ps part fam k)
            rw [htk, amtF, if_pos ⟨by assumption, by assumption⟩, List.append_nil]
          · show n2 - (i + 1) < n2 - i; omega
        all_goals (
          refine LJ.ren _ (rw9 (54, [.slice a n c, .int .i64 part]) (a0 :: (ns ++ [bilA ps part fam x, bilB ps part fam (gradeF k x) x]))) [0, 5] rfl ⟨_, _, _, rfl, rfl, SimL.ground (l := [.slice a n c, .int .i64 part]) by_g, by simp, _, _, _, rfl, rfl, SimL.of_eq (l := encIs (a0 :: (ns ++ [bilA ps part fam x, bilB ps part fam (gradeF k x) x]))) (encIs_add _ _ _ _) (encIs_gr _), (by show (1 : Nat) ∉ [0]; decide), trivial⟩ ?_ (IH (i + 1, a0 :: (ns ++ [bilA ps part fam x, bilB ps part fam (gradeF k x) x]), m + 2) ⟨hin, ?_, (by show m + 2 = (ns ++ [bilA ps part fam x, bilB ps part fam (gradeF k x) x]).length + 1; simp; omega), (by show (ns ++ [bilA ps part fam x, bilB ps part fam (gradeF k x) x]).length + 1 ≤ 2 * (i + 1); simp; omega)⟩ ?_)
          · exact by_sb
          · show a0 :: (ns ++ [bilA ps part fam x, bilB ps part fam (gradeF k x) x]) = (l.take (i + 1)).flatMap (amtF ps part fam k)
            rw [htk, amtF, if_neg (fun h => by first | exact hq h.2 | exact hq h.1)]; rfl
          · show n2 - (i + 1) < n2 - i; omega)
      · (repeat' (first | refine J.seq ?_ | refine JP.one ?_ | refine JP.step ?_ | refine J.block ?_ | refine J.scope ?_ | (refine J.region (fun z => ?_); (conv => lhs; whnf)) | (refine J.cond rfl rfl (fun hq => ?_) (fun hq => ?_) <;> (try simp only [sbM, reduceCtorEq, frB_iff, frB_no, gradeB_iff, gradeB_no, famE_z] at hq) <;> (try (have hqt : hq = True.intro := rfl; clear hqt hq)) <;> (try (exact absurd trivial hq)) <;> (try (exfalso; omega))) | refine J.exit ?_ | refine J.ret ?_ | refine J.skip ?_ | refine J.label ?_ | (with_reducible first | refine then_normal ?_ | refine then_exit ?_ | refine then_ret ?_ | refine block_exit ?_ | refine block_normal ?_ | refine block_ret ?_ | refine block_exit_ne rfl ?_ | refine kI_go rfl ?_) | ((first | (apply t_next; focus ((conv => lhs; whnf); try exact rfl)) | refine t_forceN ?_ | refine t_addN by_o ?_ | refine t_subN by_o ?_ | refine t_mulN by_o ?_ | refine t_quo by_o by_o ?_ | refine t_rem by_o by_o ?_ | refine t_quoN by_o by_o ?_ | refine t_remN by_o ?_ | refine t_addC ?_ | refine t_subC ?_ | refine t_mulC ?_ | refine t_bRt rfl ?_ | refine t_bRf rfl ?_ | refine t_getC rfl ?_ | refine t_getC by_a ?_ | refine t_iRp rfl ?_ | refine t_iR by_o ?_ | refine t_iRn rfl ?_ | refine t_fBt rfl ?_ | refine t_fBf rfl ?_ | refine t_fBt by_s ?_ | refine t_fBf by_s ?_ | refine t_bRt by_u ?_ | refine t_bRt (by (first | (rw [lenR_eq, encIs_len, Nat.beq_eq, List.length_cons]; show ns.length + 1 = m * 1; omega) | (rw [lenR_eq, encIs_len, Nat.ble_eq, List.length_cons]; show ns.length + 1 ≤ m * 1; omega) | (rw [lenR_eq, Nat.beq_eq]; simp; omega))) ?_ | refine t_bRf by_u ?_ | refine t_oA rfl ?_ | refine t_oA by_a ?_ | refine t_old by_a by_r ?_ | refine t_call0 (grade_fn _ k x) rfl by_g rfl by_k ?_ | refine t_call0 (billTo2_fn _ _ _ _ _ hP hd hp0 hp1 hx0 hx1 hh0 hh1 (by omega) (by omega)) rfl by_g rfl by_k ?_ | refine t_call0 (hS0) rfl by_g rfl by_k ?_); (conv => lhs; whnf)) | ((first | refine t_fB (fun hq => ?_) (fun hq => ?_) | refine t_bR (fun hq => ?_) (fun hq => ?_)) <;> (try simp only [sbM, reduceCtorEq, frB_iff, frB_no, gradeB_iff, gradeB_no, famE_z] at hq) <;> (try (have hqt : hq = True.intro := rfl; clear hqt hq)) <;> (try (exact absurd trivial hq)) <;> (try (exfalso; omega)) <;> (conv => lhs; whnf))))
        refine t_callS (a0 :: ns) rfl (fun f' b c' hs => sum_fn f' hs (sum_take_in ?_ ?_)) rfl (.inr rfl) rfl (encIs_eq _) (fun _ => rfl) (fun _ => rfl) ?_ ?_ rfl rfl ?_
        · intro y hy
          rw [hns] at hy
          obtain ⟨z, hz, hy⟩ := List.mem_flatMap.1 hy
          have hz1 := List.all_eq_true.1 hok _ (List.mem_of_mem_take hz)
          rw [lotB_iff] at hz1
          exact amt_in hd hp0 hp1 hz1.2.1.1 hz1.2.1.2 y hy
        · rw [List.length_cons]; omega
        · show ns.length + 1 = m; omega
        · show m ≤ 9223372036854775807; omega
        · (conv => lhs; whnf)
          (repeat' (first | refine J.seq ?_ | refine JP.one ?_ | refine JP.step ?_ | refine J.block ?_ | refine J.scope ?_ | (refine J.region (fun z => ?_); (conv => lhs; whnf)) | (refine J.cond rfl rfl (fun hq => ?_) (fun hq => ?_) <;> (try simp only [sbM, reduceCtorEq, frB_iff, frB_no, gradeB_iff, gradeB_no, famE_z] at hq) <;> (try (have hqt : hq = True.intro := rfl; clear hqt hq)) <;> (try (exact absurd trivial hq)) <;> (try (exfalso; omega))) | refine J.exit ?_ | refine J.ret ?_ | refine J.skip ?_ | refine J.label ?_ | (with_reducible first | refine then_normal ?_ | refine then_exit ?_ | refine then_ret ?_ | refine block_exit ?_ | refine block_normal ?_ | refine block_ret ?_ | refine block_exit_ne rfl ?_ | refine kI_go rfl ?_) | ((first | (apply t_next; focus ((conv => lhs; whnf); try exact rfl)) | refine t_forceN ?_ | refine t_addN by_o ?_ | refine t_subN by_o ?_ | refine t_mulN by_o ?_ | refine t_quo by_o by_o ?_ | refine t_rem by_o by_o ?_ | refine t_quoN by_o by_o ?_ | refine t_remN by_o ?_ | refine t_addC ?_ | refine t_subC ?_ | refine t_mulC ?_ | refine t_bRt rfl ?_ | refine t_bRf rfl ?_ | refine t_getC rfl ?_ | refine t_getC by_a ?_ | refine t_iRp rfl ?_ | refine t_iR by_o ?_ | refine t_iRn rfl ?_ | refine t_fBt rfl ?_ | refine t_fBf rfl ?_ | refine t_fBt by_s ?_ | refine t_fBf by_s ?_ | refine t_bRt by_u ?_ | refine t_bRt (by (first | (rw [lenR_eq, encIs_len, Nat.beq_eq, List.length_cons]; show ns.length + 1 = m * 1; omega) | (rw [lenR_eq, encIs_len, Nat.ble_eq, List.length_cons]; show ns.length + 1 ≤ m * 1; omega) | (rw [lenR_eq, Nat.beq_eq]; simp; omega))) ?_ | refine t_bRf by_u ?_ | refine t_oA rfl ?_ | refine t_oA by_a ?_ | refine t_old by_a by_r ?_ | refine t_call0 (grade_fn _ k x) rfl by_g rfl by_k ?_ | refine t_call0 (billTo2_fn _ _ _ _ _ hP hd hp0 hp1 hx0 hx1 hh0 hh1 (by omega) (by omega)) rfl by_g rfl by_k ?_ | refine t_call0 (hS0) rfl by_g rfl by_k ?_); (conv => lhs; whnf)) | ((first | refine t_fB (fun hq => ?_) (fun hq => ?_) | refine t_bR (fun hq => ?_) (fun hq => ?_)) <;> (try simp only [sbM, reduceCtorEq, frB_iff, frB_no, gradeB_iff, gradeB_no, famE_z] at hq) <;> (try (have hqt : hq = True.intro := rfl; clear hqt hq)) <;> (try (exact absurd trivial hq)) <;> (try (exfalso; omega)) <;> (conv => lhs; whnf))))
          (refine endG trivial rfl rfl by_g ?_; (conv => lhs; whnf))
          rw [List.take_of_length_le (by omega)] at hns
          rw [bringsF, ← hns]
end
end Go.Proofs.YtnkbopfnnbmdaaaGreat
