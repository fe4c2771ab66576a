/- TopWages: the grades that numbers choose; where there is an error, in memory that was there before. Conditions: as each theorem says. -/
import Derived.Test.YtnkbopfnnbmdaaaGreatQN
import Derived.Test.YtnkbopfnnbmdaaaGreatQX
import Derived.Test.YtnkbopfnnbmdaaaGreatQ0
import Derived.Test.YtnkbopfnnbmdaaaGreatQG
namespace Go.Proofs.YtnkbopfnnbmdaaaGreat
open Go Go.RowKit
attribute [local irreducible] addC subC mulC quoI remI forceN forceB bR getC iR kI callI rcI oldC oA nextC
set_option maxRecDepth 1000000
set_option maxHeartbeats 8000000
set_option linter.unusedVariables false
set_option linter.unusedSimpArgs false
theorem encG_get {α : Type} {enc : α → List Value} {k : Nat} (hk : ∀ x, (enc x).length = k) {l : List α} {i : Nat} {x : α} (h : l[i]? = some x) {j : Nat} {v : Value} (hv : (enc x)[j]? = some v) : (encA enc l)[0 + i * k + j]? = some v := by
  rw [encA_eq, Nat.zero_add]; exact flat_get hk l i x h j v hv
theorem rowg1 {α : Type} (t : TypeId) (enc : α → List Value) (hg : ∀ x, (enc x).all (gr 6) = true) (l : List α) : ([(t, encA enc l)] : List (TypeId × List Value)).all (fun r => r.2.all (gr 6)) = true := by show ((encA enc l).all (gr 6) && true) = true; rw [encA_gr hg]; rfl
/-- The grade that numbers choose of a lot. -/
def pickW (ns : List Int) (x : Lot) (i : Nat) : Int := x.lo + modF (elemF ns ((i : Int) + 1)) (x.hi - x.lo + 1)
def gsW (l : List Lot) (ns : List Int) : List Int := l.zipIdx.map fun y => pickW ns y.1 y.2
theorem gsW_len (l : List Lot) (ns : List Int) : (gsW l ns).length = l.length := by simp [gsW]
theorem gsW_get {l : List Lot} {ns : List Int} {i : Nat} {x : Lot} (h : l[i]? = some x) : (gsW l ns)[i]? = some (pickW ns x i) := by
  simp only [gsW, List.getElem?_map, List.getElem?_zipIdx, h, Option.map_some, Nat.zero_add]
theorem pickW_in {ns : List Int} {x : Lot} {i : Nat} (h : x.lo ≤ x.hi) : x.lo ≤ pickW ns x i ∧ pickW ns x i ≤ x.hi := by
  have := modF_in (n := elemF ns ((i : Int) + 1)) (c := x.hi - x.lo + 1) (by omega)
  unfold pickW; omega
def slI (j : Nat) : List Int → Nat → Value
  | [], _ => .slice none 0 0
  | _ :: _, m => .slice (some ⟨j, 0, some 1⟩) m 0
def rwG (B : List (TypeId × List Value)) : List Int → List (TypeId × List Value)
  | [] => B
  | x :: l => B ++ [(3, encA encI (x :: l))]
section
variable (f : Nat → Nat → Option Value)
theorem of08_fn (lo hi n : Int) (h0 : 0 ≤ lo) (h1 : lo ≤ hi) (h2 : hi ≤ 100) : FnR Tryz.prog f 8 [.agg ⟨[.int .i64 lo, .int .i64 hi]⟩, .int .i64 n] ⟨.int .i64 (lo + modF n (hi - lo + 1)), []⟩ := by
  have hm := modF_in (n := n) (c := hi - lo + 1) (by omega)
  refine fn_J by_g rfl ?_
  (repeat' (first | refine J.seq ?_ | refine JP.one ?_ | refine JP.step ?_ | refine J.block ?_ | refine J.scope ?_ | (refine J.region (fun z => ?_); (conv => lhs; whnf)) | (refine J.cond rfl rfl (fun hq => ?_) (fun hq => ?_) <;> (try simp only [sbM, reduceCtorEq, frB_iff, frB_no] at hq) <;> (try (have hqt : hq = True.intro := rfl; clear hqt hq)) <;> (try (exact absurd trivial hq)) <;> (try (exfalso; omega))) | refine J.exit ?_ | refine J.ret ?_ | refine J.skip ?_ | refine J.label ?_ | (with_reducible first | refine then_normal ?_ | refine then_exit ?_ | refine then_ret ?_ | refine block_exit ?_ | refine block_normal ?_ | refine block_ret ?_ | refine block_exit_ne rfl ?_ | refine kI_go rfl ?_) | ((first | (apply t_next; focus ((conv => lhs; whnf); try exact rfl)) | refine t_forceN ?_ | refine t_addN by_o ?_ | refine t_subN by_o ?_ | refine t_mulN by_o ?_ | refine t_quo by_o by_o ?_ | refine t_rem by_o by_o ?_ | refine t_quoN by_o by_o ?_ | refine t_remN by_o ?_ | refine t_addC ?_ | refine t_subC ?_ | refine t_mulC ?_ | refine t_bRt rfl ?_ | refine t_bRf rfl ?_ | refine t_getC rfl ?_ | refine t_getC by_a ?_ | refine t_iRp rfl ?_ | refine t_iR by_o ?_ | refine t_iRn rfl ?_ | refine t_fBt rfl ?_ | refine t_fBf rfl ?_ | refine t_fBt by_s ?_ | refine t_fBf by_s ?_ | refine t_bRt by_u ?_ | refine t_bRf by_u ?_ | refine t_oA rfl ?_ | refine t_oA by_a ?_ | refine t_old by_a by_r ?_ | refine t_call0 (Mod_fn _ n (hi - lo + 1) (by omega)) rfl by_g rfl by_k ?_); (conv => lhs; whnf)) | ((first | refine t_fB (fun hq => ?_) (fun hq => ?_) | refine t_bR (fun hq => ?_) (fun hq => ?_)) <;> (try simp only [sbM, reduceCtorEq, frB_iff, frB_no] at hq) <;> (try (have hqt : hq = True.intro := rfl; clear hqt hq)) <;> (try (exact absurd trivial hq)) <;> (try (exfalso; omega)) <;> (conv => lhs; whnf))))
  (refine endG trivial rfl rfl by_g ?_; (conv => lhs; whnf))
theorem wages_err {a a2 a3 a4 : Option Addr} {n c n2 c2 n3 c3 n4 c4 : Nat} {ps ds ns : List Int} {l : List Lot} (part keep : Int) (hP : Ints f a n c ps) (hL : Lots f a2 n2 c2 l) (hD : Ints f a4 n4 c4 ds) (hB : Ints f a3 n3 c3 ns) (hwk : FnR Tryz.prog f 7 [] ⟨.bool true, []⟩)
    (hne : sureE ps part (modF (elemF ns 0) 8) l ≠ 0 ∨ 1000000000 < sureV ps part (modF (elemF ns 0) 8) false l) :
    FnR Tryz.prog f 3 [.agg ⟨[.slice a n c, .int .i64 part]⟩, .slice a2 n2 c2, .agg ⟨[.int .i64 keep, .slice a4 n4 c4]⟩, .slice a3 n3 c3] ⟨.bool true, []⟩ := by
  have hg := hP.g
  have hg2 := hL.g
  have hg3 := hB.g
  have hg4 := hD.g
  have hGu := guard28
  have hHe := held28
  have hS := Sure_fn f part (modF (elemF ns 0) 8) hP hL
  by_cases hez : sureE ps part (modF (elemF ns 0) 8) l = 0
  · have hbig := hne.resolve_left (fun h => h hez)
    rw [hez] at hS
    generalize sureV ps part (modF (elemF ns 0) 8) true l = lo at hS
    generalize sureV ps part (modF (elemF ns 0) 8) false l = hi at hS hbig
    refine fn_J by_g rfl ?_
    (repeat' (first | refine J.seq ?_ | refine JP.one ?_ | refine JP.step ?_ | refine J.block ?_ | refine J.scope ?_ | (refine J.region (fun z => ?_); (conv => lhs; whnf)) | (refine J.cond rfl rfl (fun hq => ?_) (fun hq => ?_) <;> (try simp only [sbM, reduceCtorEq, frB_iff, frB_no] at hq) <;> (try (have hqt : hq = True.intro := rfl; clear hqt hq)) <;> (try (exact absurd trivial hq)) <;> (try (exfalso; omega))) | refine J.exit ?_ | refine J.ret ?_ | refine J.skip ?_ | refine J.label ?_ | (with_reducible first | refine then_normal ?_ | refine then_exit ?_ | refine then_ret ?_ | refine block_exit ?_ | refine block_normal ?_ | refine block_ret ?_ | refine block_exit_ne rfl ?_ | refine kI_go rfl ?_) | ((first | (apply t_next; focus ((conv => lhs; whnf); try exact rfl)) | refine t_forceN ?_ | refine t_addN by_o ?_ | refine t_subN by_o ?_ | refine t_mulN by_o ?_ | refine t_quo by_o by_o ?_ | refine t_rem by_o by_o ?_ | refine t_quoN by_o by_o ?_ | refine t_remN by_o ?_ | refine t_addC ?_ | refine t_subC ?_ | refine t_mulC ?_ | refine t_bRt rfl ?_ | refine t_bRf rfl ?_ | refine t_getC rfl ?_ | refine t_getC by_a ?_ | refine t_iRp rfl ?_ | refine t_iR by_o ?_ | refine t_iRn rfl ?_ | refine t_fBt rfl ?_ | refine t_fBf rfl ?_ | refine t_fBt by_s ?_ | refine t_fBf by_s ?_ | refine t_bRt by_u ?_ | refine t_bRf by_u ?_ | refine t_oA rfl ?_ | refine t_oA by_a ?_ | refine t_old by_a by_r ?_ | refine t_call0 (Get_fn _ 0 hB) rfl by_g rfl by_k ?_ | refine t_call0 (Mod_fn _ (elemF ns 0) 8 (by omega)) rfl by_g rfl by_k ?_ | refine t_call0 (hS) rfl by_g rfl by_k ?_ | refine t_call0 (hwk) rfl by_g rfl by_k ?_); (conv => lhs; whnf)) | ((first | refine t_fB (fun hq => ?_) (fun hq => ?_) | refine t_bR (fun hq => ?_) (fun hq => ?_)) <;> (try simp only [sbM, reduceCtorEq, frB_iff, frB_no] at hq) <;> (try (have hqt : hq = True.intro := rfl; clear hqt hq)) <;> (try (exact absurd trivial hq)) <;> (try (exfalso; omega)) <;> (conv => lhs; whnf))))
    all_goals ((refine endG trivial rfl rfl by_g ?_; (conv => lhs; whnf)))
  · have hv : ∀ k, sureV ps part (modF (elemF ns 0) 8) k l = 0 := fun k => by rw [sureV, if_neg hez]
    rw [hv, hv] at hS
    clear hv hne
    generalize sureE ps part (modF (elemF ns 0) 8) l = e at hS hez
    refine fn_J by_g rfl ?_
    (repeat' (first | refine J.seq ?_ | refine JP.one ?_ | refine JP.step ?_ | refine J.block ?_ | refine J.scope ?_ | (refine J.region (fun z => ?_); (conv => lhs; whnf)) | (refine J.cond rfl rfl (fun hq => ?_) (fun hq => ?_) <;> (try simp only [sbM, reduceCtorEq, frB_iff, frB_no] at hq) <;> (try (have hqt : hq = True.intro := rfl; clear hqt hq)) <;> (try (exact absurd trivial hq)) <;> (try (exfalso; omega))) | refine J.exit ?_ | refine J.ret ?_ | refine J.skip ?_ | refine J.label ?_ | (with_reducible first | refine then_normal ?_ | refine then_exit ?_ | refine then_ret ?_ | refine block_exit ?_ | refine block_normal ?_ | refine block_ret ?_ | refine block_exit_ne rfl ?_ | refine kI_go rfl ?_) | ((first | (apply t_next; focus ((conv => lhs; whnf); try exact rfl)) | refine t_forceN ?_ | refine t_addN by_o ?_ | refine t_subN by_o ?_ | refine t_mulN by_o ?_ | refine t_quo by_o by_o ?_ | refine t_rem by_o by_o ?_ | refine t_quoN by_o by_o ?_ | refine t_remN by_o ?_ | refine t_addC ?_ | refine t_subC ?_ | refine t_mulC ?_ | refine t_bRt rfl ?_ | refine t_bRf rfl ?_ | refine t_getC rfl ?_ | refine t_getC by_a ?_ | refine t_iRp rfl ?_ | refine t_iR by_o ?_ | refine t_iRn rfl ?_ | refine t_fBt rfl ?_ | refine t_fBf rfl ?_ | refine t_fBt by_s ?_ | refine t_fBf by_s ?_ | refine t_bRt by_u ?_ | refine t_bRf by_u ?_ | refine t_oA rfl ?_ | refine t_oA by_a ?_ | refine t_old by_a by_r ?_ | refine t_call0 (Get_fn _ 0 hB) rfl by_g rfl by_k ?_ | refine t_call0 (Mod_fn _ (elemF ns 0) 8 (by omega)) rfl by_g rfl by_k ?_ | refine t_call0 (hS) rfl by_g rfl by_k ?_ | refine t_call0 (hwk) rfl by_g rfl by_k ?_); (conv => lhs; whnf)) | ((first | refine t_fB (fun hq => ?_) (fun hq => ?_) | refine t_bR (fun hq => ?_) (fun hq => ?_)) <;> (try simp only [sbM, reduceCtorEq, frB_iff, frB_no] at hq) <;> (try (have hqt : hq = True.intro := rfl; clear hqt hq)) <;> (try (exact absurd trivial hq)) <;> (try (exfalso; omega)) <;> (conv => lhs; whnf))))
    all_goals ((refine endG trivial rfl rfl by_g ?_; (conv => lhs; whnf)))
end
end Go.Proofs.YtnkbopfnnbmdaaaGreat
