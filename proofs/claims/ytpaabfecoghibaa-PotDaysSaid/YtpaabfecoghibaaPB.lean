/- Package pot: tags that are there; a run is checked. Conditions: as each theorem says. -/
import Derived.Test.YtpaabfecoghibaaPA
namespace Go.Proofs.Ytpaabfecoghibaa
open Go Go.RowKit
attribute [local irreducible] addC subC mulC quoI remI forceN forceB bR getC iR kI callI rcI oldC oA nextC readR
set_option maxRecDepth 1000000
set_option maxHeartbeats 8000000
set_option linter.unusedVariables false
set_option linter.unusedSimpArgs false
def hasT (l : List Pt) (s : ByteArray) : Bool := l.any fun y => y.tag.toList == s.toList
/-- A run is valid. -/
def RunOk (ps : List Pt) (ds : List Dy) (base hands : Int) : Prop := ps.length ≤ 6 ∧ (1 ≤ ds.length ∧ ds.length ≤ 8) ∧ (0 ≤ base ∧ base ≤ 500) ∧ (0 ≤ hands ∧ hands ≤ 3) ∧ (∀ (i : Nat) (x : Pt), ps[i]? = some x → ptB x = true ∧ hasT (ps.take i) x.tag = false) ∧ ∀ (i : Nat) (d : Dy), ds[i]? = some d → dyB d = true
open Classical in
noncomputable def potsE (ps : List Pt) (ds : List Dy) (base hands : Int) : Int := if RunOk ps ds base hands then 0 else 30
theorem potsE_ok {ps : List Pt} {ds : List Dy} {base hands : Int} (h : RunOk ps ds base hands) : potsE ps ds base hands = 0 := if_pos h
theorem potsE_no {ps : List Pt} {ds : List Dy} {base hands : Int} (h : ¬ RunOk ps ds base hands) : potsE ps ds base hands = 30 := if_neg h
theorem potsE_z {ps : List Pt} {ds : List Dy} {base hands : Int} : potsE ps ds base hands = 0 ↔ RunOk ps ds base hands := by
  by_cases h : RunOk ps ds base hands
  · rw [potsE_ok h]; simp [h]
  · rw [potsE_no h]; simp [h]
abbrev encRun (a : Option Addr) (n c : Nat) (a2 : Option Addr) (n2 c2 : Nat) (base hands : Int) : List Value := [.slice a n c, .slice a2 n2 c2, .int .i64 base, .int .i64 hands]
def idxF (p : Pt → Bool) (l : List Pt) : Int := match l.findIdx? p with
  | some i => (i : Int)
  | none => -1
theorem idxF_some {p : Pt → Bool} {l : List Pt} {i : Nat} {x : Pt} (hx : l[i]? = some x) (hp : p x = true) (hn : ∀ (j : Nat) (y : Pt), l[j]? = some y → j < i → p y = false) : idxF p l = i := by
  obtain ⟨hi, rfl⟩ := List.getElem?_eq_some_iff.1 hx
  rw [idxF, List.findIdx?_eq_some_iff_getElem.2 ⟨hi, hp, fun j hj => by rw [hn j _ (List.getElem?_eq_getElem (by omega)) hj]; simp⟩]
theorem idxF_none {p : Pt → Bool} {l : List Pt} (hn : ∀ (j : Nat) (y : Pt), l[j]? = some y → p y = false) : idxF p l = -1 := by
  rw [idxF, List.findIdx?_eq_none_iff.2 fun x hx => by obtain ⟨j, hj⟩ := List.mem_iff_getElem?.1 hx; exact hn j x hj]
theorem idxF_any {p : Pt → Bool} {l : List Pt} : 0 ≤ idxF p l ↔ l.any p = true := by
  unfold idxF
  cases h : l.findIdx? p with
  | none =>
    rw [List.findIdx?_eq_none_iff] at h
    simp only [List.any_eq_true]
    refine ⟨fun e => absurd e (by decide), fun ⟨x, hx, hp⟩ => ?_⟩
    rw [h x hx] at hp; cases hp
  | some i =>
    obtain ⟨hi, hp, _⟩ := List.findIdx?_eq_some_iff_getElem.1 h
    simp only [List.any_eq_true]
    exact ⟨fun _ => ⟨l[i], List.getElem_mem _, hp⟩, fun _ => by omega⟩
section
variable (f : Nat → Nat → Option Value)
theorem IndexFunc_fn {a : Option Addr} {n c b : Nat} {l : List Pt} {g : FuncId} (p : Pt → Bool) (hL : Pts f a n c l) (hF : ∀ x ∈ l, FnR Try.prog f g [.agg ⟨encPt x⟩, .pointer (some ⟨b, 0, none⟩)] ⟨.bool (p x), []⟩) :
    FnR Try.prog f 76 [.slice a n c, .func (.func g) ⟨[]⟩ ⟨[.pointer (some ⟨b, 0, none⟩)]⟩] ⟨.int .i64 (idxF p l), []⟩ := by
  obtain ⟨hg, hlen, hnc, hle, hat⟩ := hL
  refine fn_J by_g rfl ?_
  (repeat' (first | refine J.seq ?_ | refine JP.one ?_ | refine JP.step ?_ | refine J.block ?_ | refine J.scope ?_ | (refine J.region (fun z => ?_); (conv => lhs; whnf)) | (refine J.cond rfl rfl (fun hq => ?_) (fun hq => ?_) <;> (try simp only [sbM, reduceCtorEq, frS_iff, frS_no] at hq) <;> (try (have hqt : hq = True.intro := rfl; clear hqt hq)) <;> (try (exact absurd trivial hq)) <;> (try (exfalso; omega))) | refine J.exit ?_ | refine J.ret ?_ | refine J.skip ?_ | refine J.label ?_ | (with_reducible first | refine then_normal ?_ | refine then_exit ?_ | refine then_ret ?_ | refine block_exit ?_ | refine block_normal ?_ | refine block_ret ?_ | refine block_exit_ne rfl ?_ | refine kI_go rfl ?_) | ((first | (apply t_next; focus ((conv => lhs; whnf); try exact rfl)) | refine t_forceN ?_ | refine t_addN by_o ?_ | refine t_subN by_o ?_ | refine t_mulN by_o ?_ | refine t_quo by_o by_o ?_ | refine t_rem by_o by_o ?_ | refine t_quoN by_o by_o ?_ | refine t_remN by_o ?_ | refine t_addC ?_ | refine t_subC ?_ | refine t_mulC ?_ | refine t_bRt rfl ?_ | refine t_bRf rfl ?_ | refine t_lim (k := 8) (K := 17592186044416) rfl rfl by_o ?_ | refine t_lim (k := 65536) (K := 2147483648) rfl rfl by_o ?_ | refine t_getC rfl ?_ | refine t_getC by_a ?_ | refine t_iRp rfl ?_ | refine t_iR by_o ?_ | refine t_iRn rfl ?_ | refine t_fBt rfl ?_ | refine t_fBf rfl ?_ | refine t_fBt by_s ?_ | refine t_fBf by_s ?_ | refine t_bRt by_u ?_ | refine t_bRf by_u ?_ | refine t_oA rfl ?_ | refine t_oA by_a ?_ | refine t_old by_a by_r ?_ | refine t_readR by_a ?_ | refine t_bRt (encA_one (fun _ => rfl)) ?_); (conv => lhs; whnf)) | ((first | refine t_fB (fun hq => ?_) (fun hq => ?_) | refine t_bR (fun hq => ?_) (fun hq => ?_) | (first | refine t_callB (hF x (List.mem_of_getElem? hx)) rfl by_g rfl (fun hq => ?_) (fun hq => ?_))) <;> (try simp only [sbM, reduceCtorEq, frS_iff, frS_no] at hq) <;> (try (have hqt : hq = True.intro := rfl; clear hqt hq)) <;> (try (exact absurd trivial hq)) <;> (try (exfalso; omega)) <;> (conv => lhs; whnf))))
  refine J.loop (LJ.ind (fun i : Nat => [some (.slice a n c), some (.func (.func g) ⟨[]⟩ ⟨[.pointer (some ⟨b, 0, none⟩)]⟩), none, none, none, none, none, some (.int .i64 (n : Int)), some (.int .i64 (i : Int)), none, none, none, none, none, none, none, none, none, none]) (fun _ => []) (fun i => i ≤ n ∧ ∀ (j : Nat) (y : Pt), l[j]? = some y → j < i → p y = false) (fun i => n - i) 0 [] ⟨Nat.zero_le _, fun j y _ h => absurd h (Nat.not_lt_zero _)⟩ rfl trivial ?_ ?_)
  · exact by_s0
  · rintro i ⟨hi, hd⟩ vs ⟨xs, gx, rfl⟩ IH
    by_cases hin : i < n
    · obtain ⟨x, hx⟩ : ∃ x, l[i]? = some x := ⟨_, List.getElem?_eq_getElem (by omega)⟩
      obtain ⟨b2, o, ha, hc⟩ := hat i _ hx
      have hc0 := hc 0 _ rfl
      have hc1 := hc 1 _ rfl
      have hc2 := hc 2 _ rfl
      have hc3 := hc 3 _ rfl
      have hc4 := hc 4 _ rfl
      have hc5 := hc 5 _ rfl
      have hc6 := hc 6 _ rfl
      have hc7 := hc 7 _ rfl
      subst ha
      (repeat' (first | refine J.seq ?_ | refine JP.one ?_ | refine JP.step ?_ | refine J.block ?_ | refine J.scope ?_ | (refine J.region (fun z => ?_); (conv => lhs; whnf)) | (refine J.cond rfl rfl (fun hq => ?_) (fun hq => ?_) <;> (try simp only [sbM, reduceCtorEq, frS_iff, frS_no] at hq) <;> (try (have hqt : hq = True.intro := rfl; clear hqt hq)) <;> (try (exact absurd trivial hq)) <;> (try (exfalso; omega))) | refine J.exit ?_ | refine J.ret ?_ | refine J.skip ?_ | refine J.label ?_ | (with_reducible first | refine then_normal ?_ | refine then_exit ?_ | refine then_ret ?_ | refine block_exit ?_ | refine block_normal ?_ | refine block_ret ?_ | refine block_exit_ne rfl ?_ | refine kI_go rfl ?_) | ((first | (apply t_next; focus ((conv => lhs; whnf); try exact rfl)) | refine t_forceN ?_ | refine t_addN by_o ?_ | refine t_subN by_o ?_ | refine t_mulN by_o ?_ | refine t_quo by_o by_o ?_ | refine t_rem by_o by_o ?_ | refine t_quoN by_o by_o ?_ | refine t_remN by_o ?_ | refine t_addC ?_ | refine t_subC ?_ | refine t_mulC ?_ | refine t_bRt rfl ?_ | refine t_bRf rfl ?_ | refine t_lim (k := 8) (K := 17592186044416) rfl rfl by_o ?_ | refine t_lim (k := 65536) (K := 2147483648) rfl rfl by_o ?_ | refine t_getC rfl ?_ | refine t_getC by_a ?_ | refine t_iRp rfl ?_ | refine t_iR by_o ?_ | refine t_iRn rfl ?_ | refine t_fBt rfl ?_ | refine t_fBf rfl ?_ | refine t_fBt by_s ?_ | refine t_fBf by_s ?_ | refine t_bRt by_u ?_ | refine t_bRf by_u ?_ | refine t_oA rfl ?_ | refine t_oA by_a ?_ | refine t_old by_a by_r ?_ | refine t_readR by_a ?_ | refine t_bRt (encA_one (fun _ => rfl)) ?_); (conv => lhs; whnf)) | ((first | refine t_fB (fun hq => ?_) (fun hq => ?_) | refine t_bR (fun hq => ?_) (fun hq => ?_) | (first | refine t_callB (hF x (List.mem_of_getElem? hx)) rfl by_g rfl (fun hq => ?_) (fun hq => ?_))) <;> (try simp only [sbM, reduceCtorEq, frS_iff, frS_no] at hq) <;> (try (have hqt : hq = True.intro := rfl; clear hqt hq)) <;> (try (exact absurd trivial hq)) <;> (try (exfalso; omega)) <;> (conv => lhs; whnf))))
      · (refine endG trivial rfl rfl by_g ?_; (conv => lhs; whnf))
        rw [idxF_some hx hq hd]
      · refine LJ.ren _ [] [] rfl trivial ?_ (IH (i + 1) ⟨hin, fun j y hj hji => ?_⟩ (by omega))
        · exact by_sb
        · by_cases e : j = i
          · subst e; rw [hx] at hj; cases hj; exact hq
          · exact hd j y hj (by omega)
    · (repeat' (first | refine J.seq ?_ | refine JP.one ?_ | refine JP.step ?_ | refine J.block ?_ | refine J.scope ?_ | (refine J.region (fun z => ?_); (conv => lhs; whnf)) | (refine J.cond rfl rfl (fun hq => ?_) (fun hq => ?_) <;> (try simp only [sbM, reduceCtorEq, frS_iff, frS_no] at hq) <;> (try (have hqt : hq = True.intro := rfl; clear hqt hq)) <;> (try (exact absurd trivial hq)) <;> (try (exfalso; omega))) | refine J.exit ?_ | refine J.ret ?_ | refine J.skip ?_ | refine J.label ?_ | (with_reducible first | refine then_normal ?_ | refine then_exit ?_ | refine then_ret ?_ | refine block_exit ?_ | refine block_normal ?_ | refine block_ret ?_ | refine block_exit_ne rfl ?_ | refine kI_go rfl ?_) | ((first | (apply t_next; focus ((conv => lhs; whnf); try exact rfl)) | refine t_forceN ?_ | refine t_addN by_o ?_ | refine t_subN by_o ?_ | refine t_mulN by_o ?_ | refine t_quo by_o by_o ?_ | refine t_rem by_o by_o ?_ | refine t_quoN by_o by_o ?_ | refine t_remN by_o ?_ | refine t_addC ?_ | refine t_subC ?_ | refine t_mulC ?_ | refine t_bRt rfl ?_ | refine t_bRf rfl ?_ | refine t_lim (k := 8) (K := 17592186044416) rfl rfl by_o ?_ | refine t_lim (k := 65536) (K := 2147483648) rfl rfl by_o ?_ | refine t_getC rfl ?_ | refine t_getC by_a ?_ | refine t_iRp rfl ?_ | refine t_iR by_o ?_ | refine t_iRn rfl ?_ | refine t_fBt rfl ?_ | refine t_fBf rfl ?_ | refine t_fBt by_s ?_ | refine t_fBf by_s ?_ | refine t_bRt by_u ?_ | refine t_bRf by_u ?_ | refine t_oA rfl ?_ | refine t_oA by_a ?_ | refine t_old by_a by_r ?_ | refine t_readR by_a ?_ | refine t_bRt (encA_one (fun _ => rfl)) ?_); (conv => lhs; whnf)) | ((first | refine t_fB (fun hq => ?_) (fun hq => ?_) | refine t_bR (fun hq => ?_) (fun hq => ?_) | (first | refine t_callB (hF x (List.mem_of_getElem? hx)) rfl by_g rfl (fun hq => ?_) (fun hq => ?_))) <;> (try simp only [sbM, reduceCtorEq, frS_iff, frS_no] at hq) <;> (try (have hqt : hq = True.intro := rfl; clear hqt hq)) <;> (try (exact absurd trivial hq)) <;> (try (exfalso; omega)) <;> (conv => lhs; whnf))))
      (refine endG trivial rfl rfl by_g ?_; (conv => lhs; whnf))
      rw [idxF_none fun j y hj => hd j y hj (by have := (List.getElem?_eq_some_iff.1 hj).1; omega)]
theorem ContainsFunc_fn {a : Option Addr} {n c b : Nat} {l : List Pt} {g : FuncId} (p : Pt → Bool) (hL : Pts f a n c l) (hF : ∀ x ∈ l, FnR Try.prog f g [.agg ⟨encPt x⟩, .pointer (some ⟨b, 0, none⟩)] ⟨.bool (p x), []⟩) :
    FnR Try.prog f 60 [.slice a n c, .func (.func g) ⟨[]⟩ ⟨[.pointer (some ⟨b, 0, none⟩)]⟩] ⟨.bool (l.any p), []⟩ := by
  have hg := hL.g
  refine fn_J by_g rfl ?_
  (repeat' (first | refine J.seq ?_ | refine JP.one ?_ | refine JP.step ?_ | refine J.block ?_ | refine J.scope ?_ | (refine J.region (fun z => ?_); (conv => lhs; whnf)) | (refine J.cond rfl rfl (fun hq => ?_) (fun hq => ?_) <;> (try simp only [sbM, reduceCtorEq, frS_iff, frS_no] at hq) <;> (try (have hqt : hq = True.intro := rfl; clear hqt hq)) <;> (try (exact absurd trivial hq)) <;> (try (exfalso; omega))) | refine J.exit ?_ | refine J.ret ?_ | refine J.skip ?_ | refine J.label ?_ | (with_reducible first | refine then_normal ?_ | refine then_exit ?_ | refine then_ret ?_ | refine block_exit ?_ | refine block_normal ?_ | refine block_ret ?_ | refine block_exit_ne rfl ?_ | refine kI_go rfl ?_) | ((first | (apply t_next; focus ((conv => lhs; whnf); try exact rfl)) | refine t_forceN ?_ | refine t_addN by_o ?_ | refine t_subN by_o ?_ | refine t_mulN by_o ?_ | refine t_quo by_o by_o ?_ | refine t_rem by_o by_o ?_ | refine t_quoN by_o by_o ?_ | refine t_remN by_o ?_ | refine t_addC ?_ | refine t_subC ?_ | refine t_mulC ?_ | refine t_bRt rfl ?_ | refine t_bRf rfl ?_ | refine t_lim (k := 8) (K := 17592186044416) rfl rfl by_o ?_ | refine t_lim (k := 65536) (K := 2147483648) rfl rfl by_o ?_ | refine t_getC rfl ?_ | refine t_getC by_a ?_ | refine t_iRp rfl ?_ | refine t_iR by_o ?_ | refine t_iRn rfl ?_ | refine t_fBt rfl ?_ | refine t_fBf rfl ?_ | refine t_fBt by_s ?_ | refine t_fBf by_s ?_ | refine t_bRt by_u ?_ | refine t_bRf by_u ?_ | refine t_oA rfl ?_ | refine t_oA by_a ?_ | refine t_old by_a by_r ?_ | refine t_readR by_a ?_ | refine t_bRt (encA_one (fun _ => rfl)) ?_ | refine t_call0 (IndexFunc_fn _ p hL hF) rfl by_g rfl by_k ?_); (conv => lhs; whnf)) | ((first | refine t_fB (fun hq => ?_) (fun hq => ?_) | refine t_bR (fun hq => ?_) (fun hq => ?_)) <;> (try simp only [sbM, reduceCtorEq, frS_iff, frS_no] at hq) <;> (try (have hqt : hq = True.intro := rfl; clear hqt hq)) <;> (try (exact absurd trivial hq)) <;> (try (exfalso; omega)) <;> (conv => lhs; whnf))))
  · (refine endG trivial rfl rfl by_g ?_; (conv => lhs; whnf)); rw [idxF_any.1 hq]
  · (refine endG trivial rfl rfl by_g ?_; (conv => lhs; whnf)); rw [show l.any p = false from by rw [← Bool.not_eq_true, ← idxF_any]; omega]
theorem hasTag1_fn {b : Nat} (x : Pt) (s : ByteArray) (hs : f b 0 = some (.string s)) : FnR Try.prog f 61 [.agg ⟨encPt x⟩, .pointer (some ⟨b, 0, none⟩)] ⟨.bool (x.tag.toList == s.toList), []⟩ := by
  refine fn_J by_g rfl ?_
  (repeat' (first | refine J.seq ?_ | refine JP.one ?_ | refine JP.step ?_ | refine J.block ?_ | refine J.scope ?_ | (refine J.region (fun z => ?_); (conv => lhs; whnf)) | (refine J.cond rfl rfl (fun hq => ?_) (fun hq => ?_) <;> (try simp only [sbM, reduceCtorEq, frS_iff, frS_no] at hq) <;> (try (have hqt : hq = True.intro := rfl; clear hqt hq)) <;> (try (exact absurd trivial hq)) <;> (try (exfalso; omega))) | refine J.exit ?_ | refine J.ret ?_ | refine J.skip ?_ | refine J.label ?_ | (with_reducible first | refine then_normal ?_ | refine then_exit ?_ | refine then_ret ?_ | refine block_exit ?_ | refine block_normal ?_ | refine block_ret ?_ | refine block_exit_ne rfl ?_ | refine kI_go rfl ?_) | ((first | (apply t_next; focus ((conv => lhs; whnf); try exact rfl)) | refine t_forceN ?_ | refine t_addN by_o ?_ | refine t_subN by_o ?_ | refine t_mulN by_o ?_ | refine t_quo by_o by_o ?_ | refine t_rem by_o by_o ?_ | refine t_quoN by_o by_o ?_ | refine t_remN by_o ?_ | refine t_addC ?_ | refine t_subC ?_ | refine t_mulC ?_ | refine t_bRt rfl ?_ | refine t_bRf rfl ?_ | refine t_lim (k := 8) (K := 17592186044416) rfl rfl by_o ?_ | refine t_lim (k := 65536) (K := 2147483648) rfl rfl by_o ?_ | refine t_getC rfl ?_ | refine t_getC by_a ?_ | refine t_iRp rfl ?_ | refine t_iR by_o ?_ | refine t_iRn rfl ?_ | refine t_fBt rfl ?_ | refine t_fBf rfl ?_ | refine t_fBt by_s ?_ | refine t_fBf by_s ?_ | refine t_bRt by_u ?_ | refine t_bRf by_u ?_ | refine t_oA rfl ?_ | refine t_oA by_a ?_ | refine t_old by_a by_r ?_ | refine t_readR by_a ?_ | refine t_bRt (encA_one (fun _ => rfl)) ?_ | refine t_call0 (IndexFunc_fn _ p hL hF) rfl by_g rfl by_k ?_); (conv => lhs; whnf)) | ((first | refine t_fB (fun hq => ?_) (fun hq => ?_) | refine t_bR (fun hq => ?_) (fun hq => ?_)) <;> (try simp only [sbM, reduceCtorEq, frS_iff, frS_no] at hq) <;> (try (have hqt : hq = True.intro := rfl; clear hqt hq)) <;> (try (exact absurd trivial hq)) <;> (try (exfalso; omega)) <;> (conv => lhs; whnf))))
  all_goals ((refine endG trivial rfl rfl by_g ?_; (conv => lhs; whnf)); simp [*])
theorem hasTag_fn {a : Option Addr} {n c : Nat} {l : List Pt} (s : ByteArray) (hL : Pts f a n c l) : FnR Try.prog f 37 [.slice a n c, .string s] ⟨.bool (hasT l s), []⟩ := by
  have hg := hL.g
  refine fn_J by_g rfl ?_
  (repeat' (first | refine J.seq ?_ | refine JP.one ?_ | refine JP.step ?_ | refine J.block ?_ | refine J.scope ?_ | (refine J.region (fun z => ?_); (conv => lhs; whnf)) | (refine J.cond rfl rfl (fun hq => ?_) (fun hq => ?_) <;> (try simp only [sbM, reduceCtorEq, frS_iff, frS_no] at hq) <;> (try (have hqt : hq = True.intro := rfl; clear hqt hq)) <;> (try (exact absurd trivial hq)) <;> (try (exfalso; omega))) | refine J.exit ?_ | refine J.ret ?_ | refine J.skip ?_ | refine J.label ?_ | (with_reducible first | refine then_normal ?_ | refine then_exit ?_ | refine then_ret ?_ | refine block_exit ?_ | refine block_normal ?_ | refine block_ret ?_ | refine block_exit_ne rfl ?_ | refine kI_go rfl ?_) | ((first | (apply t_next; focus ((conv => lhs; whnf); try exact rfl)) | refine t_forceN ?_ | refine t_addN by_o ?_ | refine t_subN by_o ?_ | refine t_mulN by_o ?_ | refine t_quo by_o by_o ?_ | refine t_rem by_o by_o ?_ | refine t_quoN by_o by_o ?_ | refine t_remN by_o ?_ | refine t_addC ?_ | refine t_subC ?_ | refine t_mulC ?_ | refine t_bRt rfl ?_ | refine t_bRf rfl ?_ | refine t_lim (k := 8) (K := 17592186044416) rfl rfl by_o ?_ | refine t_lim (k := 65536) (K := 2147483648) rfl rfl by_o ?_ | refine t_getC rfl ?_ | refine t_getC by_a ?_ | refine t_iRp rfl ?_ | refine t_iR by_o ?_ | refine t_iRn rfl ?_ | refine t_fBt rfl ?_ | refine t_fBf rfl ?_ | refine t_fBt by_s ?_ | refine t_fBf by_s ?_ | refine t_bRt by_u ?_ | refine t_bRf by_u ?_ | refine t_oA rfl ?_ | refine t_oA by_a ?_ | refine t_old by_a by_r ?_ | refine t_readR by_a ?_ | refine t_bRt (encA_one (fun _ => rfl)) ?_ | refine t_callC (orcS z) [.slice a n c] [] (cs := [.string s]) rfl (fun f' b hm hc => ContainsFunc_fn f' (fun y => y.tag.toList == s.toList) (hL.mono hm) (fun x _ => hasTag1_fn f' x s (hc 0 _ rfl))) rfl by_g rfl rfl rfl rfl rfl rfl ?_); (conv => lhs; whnf)) | ((first | refine t_fB (fun hq => ?_) (fun hq => ?_) | refine t_bR (fun hq => ?_) (fun hq => ?_)) <;> (try simp only [sbM, reduceCtorEq, frS_iff, frS_no] at hq) <;> (try (have hqt : hq = True.intro := rfl; clear hqt hq)) <;> (try (exact absurd trivial hq)) <;> (try (exfalso; omega)) <;> (conv => lhs; whnf))))
  (refine endG trivial rfl rfl by_g ?_; (conv => lhs; whnf))
  rfl
end
end Go.Proofs.Ytpaabfecoghibaa
