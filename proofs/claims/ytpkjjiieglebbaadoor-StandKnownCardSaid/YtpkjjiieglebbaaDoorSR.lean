/- The contract of the search of package stand's worthiest: a function that calls itself, over what it captured. Conditions: few trees, of coordinates and girths within their bounds; the gap too; what it captured lies as it is made. -/
import Derived.Test.YtpkjjiieglebbaaDoorAP
namespace Go.Proofs.YtpkjjiieglebbaaDoor
open Go Go.RowKit
def hitB (ts : List Tree) (gap : Int) (k i : Nat) : Bool :=
  match ts[k]?, ts[i]? with
  | some a, some b => within a.x a.y b.x b.y gap
  | _, _ => false
def clashG (ts : List Tree) (gap : Int) (set : List Nat) (i : Nat) : Bool := set.any fun k => hitB ts gap k i
def glAt (ts : List Tree) (i : Nat) : Int := match ts[i]? with
  | some t => t.gl
  | none => 0
def better (set : List Nat) (worth : Int) (st : List Nat × Int) : List Nat × Int := if st.2 < worth then (set, worth) else st
/-- What the search has found when it has tried the trees from i on, m of them. -/
def goS (ts : List Tree) (gap : Int) : Nat → List Nat → Int → Nat → List Nat × Int → List Nat × Int
  | 0, _, _, _, st => st
  | m + 1, set, worth, i, st =>
    if worth + fromL ts i ≤ st.2 then st
    else if clashG ts gap set i then goS ts gap m set worth (i + 1) st
    else goS ts gap m set worth (i + 1) (goS ts gap m (set ++ [i]) (worth + glAt ts i) (i + 1) (better (set ++ [i]) (worth + glAt ts i) st))
/-- What the search finds out of what it stands at. -/
structure Fix (w0 : World) (B0 Bm Bb Bt Bf Bg Bs b off c F fc : Nat) (a : Option Addr) (ts : List Tree) (gap : Int) (cs : Array Value) : Prop where
  tr : Boxed w0 Bt 25 (.slice a ts.length c)
  at_ : 0 < ts.length → a = some ⟨b, off, none⟩
  fr : Boxed w0 Bf 30 (.slice (some ⟨F, 0, none⟩) ts.length fc)
  gp : Boxed w0 Bg 3 (.int .i64 gap)
  fn : Boxed w0 Bs 125 (.func (.func 96) #[] #[.pointer (some ⟨Bm, 0, none⟩), .pointer (some ⟨Bb, 0, none⟩), .pointer (some ⟨Bt, 0, none⟩), .pointer (some ⟨Bf, 0, none⟩), .pointer (some ⟨Bg, 0, none⟩), .pointer (some ⟨Bs, 0, none⟩)])
  row : Box w0 F cs 3
  trees : TreesAt w0 b off ts
  from_ : ∀ j, j < ts.length → cs[j]? = some (.int .i64 (fromL ts j))
  lt : Bt < B0 ∧ Bf < B0 ∧ Bg < B0 ∧ Bs < B0 ∧ F < B0 ∧ b < B0
  neM : Bt ≠ Bm ∧ Bf ≠ Bm ∧ Bg ≠ Bm ∧ Bs ≠ Bm ∧ F ≠ Bm ∧ b ≠ Bm
  neB : Bt ≠ Bb ∧ Bf ≠ Bb ∧ Bg ≠ Bb ∧ Bs ≠ Bb ∧ F ≠ Bb ∧ b ≠ Bb
  mb : Bm ≠ Bb ∧ Bm < B0 ∧ Bb < B0
def SameBut (B0 Bm Bb : Nat) (w0 W : World) : Prop := ∀ x, x < B0 → x ≠ Bm → x ≠ Bb → W.heap[x]? = w0.heap[x]?
structure At (w0 : World) (bb B0 Bm Bb : Nat) (W : World) (vb v : Value) (xs best : List Nat) (most : Int) : Prop where
  bel : Below bb w0 W
  same : SameBut B0 Bm Bb w0 W
  size : B0 ≤ W.heap.size
  bmost : Boxed W Bm 3 (.int .i64 most)
  bbest : Boxed W Bb 30 vb
  brow : W.ownsRow B0 3 1 vb best.length (best.map fun i : Nat => Value.int .i64 (i : Int))
  apart : ∀ j, vb.ownBlock = some j → v.ownBlock ≠ some j
  bset : W.ownsRow B0 3 1 v xs.length (xs.map fun i : Nat => Value.int .i64 (i : Int))
/-- What a call changes of a world: what the best is, and what lies behind its own set. -/
structure Turns (Bm Bb : Nat) (w W : World) (vb vb' v : Value) : Prop where
  size : w.heap.size ≤ W.heap.size
  old : ∀ x, x < w.heap.size → x ≠ Bm → x ≠ Bb → v.ownBlock ≠ some x → W.heap[x]? = w.heap[x]?
  fresh : vb' = vb ∨ ∀ j, vb'.ownBlock = some j → w.heap.size ≤ j
theorem Turns.refl (Bm Bb : Nat) (w : World) (vb v : Value) : Turns Bm Bb w w vb vb v := ⟨Nat.le_refl _, fun _ _ _ _ _ => rfl, .inl rfl⟩
theorem ownsRow_keep {W W' : World} {B : Nat} {e : TypeId} {v : Value} {k : Nat} {xs : List Value} (h : W.ownsRow B e 1 v k xs) (hb : ∀ j, v.ownBlock = some j → W'.heap[j]? = W.heap[j]?) : W'.ownsRow B e 1 v k xs := by
  refine ⟨h.1, ?_⟩
  rcases h.2 with h2 | ⟨g, cap, cur, rfl, h1, h2, h3⟩
  · exact .inl h2
  · exact .inr ⟨g, cap, cur, rfl, h1, (hb g rfl).trans h2, h3⟩
theorem ownsRow_lt {W : World} {B : Nat} {e : TypeId} {v : Value} {k : Nat} {xs : List Value} (h : W.ownsRow B e 1 v k xs) {j : Nat} (hj : v.ownBlock = some j) : j < W.heap.size ∧ B ≤ j := by
  rcases h.2 with ⟨rfl, _⟩ | ⟨g, cap, cur, rfl, h1, h2, h3⟩
  · simp [Value.ownBlock] at hj
  · simp [Value.ownBlock] at hj
    subst hj
    exact ⟨(Array.getElem?_eq_some_iff.1 h2).1, h1⟩
theorem boxed_of {W W' : World} {B : Nat} {t : TypeId} {v : Value} (h : Boxed W B t v) (he : W'.heap[B]? = W.heap[B]?) : Boxed W' B t v := he.trans h
/-- Behind a call that only lays memory of its own. -/
theorem At.below {w0 W W' : World} {bb B0 Bm Bb : Nat} {vb v : Value} {xs best : List Nat} {most : Int} (h : At w0 bb B0 Bm Bb W vb v xs best most) (hb : Below W.heap.size W W') (_hm : Bm < B0) (_hbb : Bb < B0) (hbs : bb ≤ B0) : At w0 bb B0 Bm Bb W' vb v xs best most :=
  ⟨h.bel.trans (hb.mono (Nat.le_trans hbs h.size)), fun x hx h1 h2 => (hb.block x (Nat.lt_of_lt_of_le hx h.size)).trans (h.same x hx h1 h2), Nat.le_trans h.size hb.size,
    boxed_of h.bmost (hb.block _ h.bmost.lt), boxed_of h.bbest (hb.block _ h.bbest.lt), ownsRow_keep h.brow fun j hj => hb.block j (ownsRow_lt h.brow hj).1, h.apart, ownsRow_keep h.bset fun j hj => hb.block j (ownsRow_lt h.bset hj).1⟩
theorem Turns.below {Bm Bb : Nat} {w W W' : World} {vb vb' v : Value} (h : Turns Bm Bb w W vb vb' v) (hb : Below W.heap.size W W') : Turns Bm Bb w W' vb vb' v :=
  ⟨Nat.le_trans h.size hb.size, fun x hx h1 h2 h3 => (hb.block x (Nat.lt_of_lt_of_le hx h.size)).trans (h.old x hx h1 h2 h3), h.fresh⟩
/-- Behind the store of a new best. -/
theorem At.new {w0 W W1 : World} {bb B0 Bm Bb : Nat} {vb v v' : Value} {xs best : List Nat} {most worth : Int} (h : At w0 bb B0 Bm Bb W vb v xs best most) (hb : Below W.heap.size W W1) (hr : W1.ownsRow W.heap.size 3 1 v' xs.length (xs.map fun i : Nat => Value.int .i64 (i : Int)))
    (hm : Bm < B0) (hbb : Bb < B0) (hbs : bb ≤ B0) (hbm : bb ≤ Bm) (hbB : bb ≤ Bb) (hne : Bm ≠ Bb) :
    At w0 bb B0 Bm Bb ((W1.setCell ⟨Bb, 0, none⟩ v').setCell ⟨Bm, 0, none⟩ (.int .i64 worth)) v' v xs xs worth := by
  have h1 := h.below hb hm hbb hbs
  have ho : ∀ x, x ≠ Bm → x ≠ Bb → ((W1.setCell ⟨Bb, 0, none⟩ v').setCell ⟨Bm, 0, none⟩ (.int .i64 worth)).heap[x]? = W1.heap[x]? := fun x a b => (Below.heap_setCell _ _ _ x (by exact a)).trans (Below.heap_setCell _ _ _ x (by exact b))
  refine ⟨(h1.bel.setCell (by exact hbB) _).setCell (by exact hbm) _, fun x hx a b => (ho x a b).trans (h1.same x hx a b), by simpa using h1.size, ?_, ?_, ?_, ?_, ?_⟩
  · exact Boxed.set _ (h1.bmost.other hne _)
  · exact (Boxed.set v' h1.bbest).other (fun e => hne e.symm) _
  · refine ownsRow_base (ownsRow_keep hr fun j hj => ho j ?_ ?_) h.size
    · have := (ownsRow_lt hr hj).2; have := h.size; omega
    · have := (ownsRow_lt hr hj).2; have := h.size; omega
  · intro j hj hv
    have a := (ownsRow_lt hr hj).2
    have b := (ownsRow_lt h.bset hv).1
    omega
  · exact ownsRow_keep h1.bset fun j hj => ho j (by have := (ownsRow_lt h1.bset hj).2; omega) (by have := (ownsRow_lt h1.bset hj).2; omega)
theorem Turns.new {w W W1 : World} {Bm Bb : Nat} {vb vb1 v v' : Value} {worth : Int} {k : Nat} {xs : List Value} (h : Turns Bm Bb w W vb vb1 v) (hb : Below W.heap.size W W1) (hr : W1.ownsRow W.heap.size 3 1 v' k xs) :
    Turns Bm Bb w ((W1.setCell ⟨Bb, 0, none⟩ v').setCell ⟨Bm, 0, none⟩ (.int .i64 worth)) vb v' v :=
  ⟨by have := h.size; have := hb.size; simp; omega, fun x hx a b c => ((Below.heap_setCell _ _ _ x (by exact a)).trans (Below.heap_setCell _ _ _ x (by exact b))).trans ((h.below hb).old x hx a b c),
    .inr fun j hj => Nat.le_trans h.size (ownsRow_lt hr hj).2⟩
/-- What an append of one element to the set leaves. -/
structure Pushed (W W1 W2 : World) (B0 : Nat) (v v' : Value) (xs : List Nat) (i : Nat) : Prop where
  bel : Below W.heap.size W W1
  now : W2.ownsRow B0 3 1 v' (xs.length + 1) (xs.map (fun i : Nat => Value.int .i64 (i : Int)) ++ [.int .i64 (i : Int)])
  kept : W2.ownsRow B0 3 1 v xs.length (xs.map fun i : Nat => Value.int .i64 (i : Int))
  grown : W1.grownBy W2 v.ownBlock
  cases : v'.ownBlock = v.ownBlock ∧ (∀ W : World, W.ownsRow B0 3 1 v' (xs.length + 1) (xs.map (fun i : Nat => Value.int .i64 (i : Int)) ++ [.int .i64 (i : Int)]) → W.ownsRow B0 3 1 v xs.length (xs.map fun i : Nat => Value.int .i64 (i : Int))) ∨ v'.ownBlock = some W1.heap.size ∧ W1.grownBy W2 none
theorem Pushed.block {W W1 W2 : World} {B0 : Nat} {v v' : Value} {xs : List Nat} {i : Nat} (h : Pushed W W1 W2 B0 v v' xs i) {x : Nat} (hx : x < W.heap.size) (hv : v.ownBlock ≠ some x) : W2.heap[x]? = W.heap[x]? :=
  (h.grown.block x (Nat.lt_of_lt_of_le hx h.bel.size) (fun e => hv e.symm)).trans (h.bel.block x hx)
theorem At.push {w0 W W1 W2 : World} {bb B0 Bm Bb : Nat} {vb v v' : Value} {xs best : List Nat} {most : Int} {i : Nat} (h : At w0 bb B0 Bm Bb W vb v xs best most) (hp : Pushed W W1 W2 B0 v v' xs i) (hm : Bm < B0) (hbb : Bb < B0) (hbs : bb ≤ B0) :
    At w0 bb B0 Bm Bb W2 vb v' (xs ++ [i]) best most := by
  have hz := h.size
  have hv : ∀ x, x < B0 → v.ownBlock ≠ some x := fun x hx e => by have := (ownsRow_lt h.bset e).2; omega
  refine ⟨h.bel.trans ⟨hp.grown.os.trans hp.bel.os, hp.grown.tape.trans hp.bel.tape, hp.grown.output.trans hp.bel.output, Nat.le_trans hp.bel.size hp.grown.size, fun k hk => hp.block (by omega) (hv k (by omega))⟩,
    fun x hx a b => (hp.block (by omega) (hv x hx)).trans (h.same x hx a b), by have := hp.bel.size; have := hp.grown.size; omega, boxed_of h.bmost (hp.block h.bmost.lt (hv _ hm)), boxed_of h.bbest (hp.block h.bbest.lt (hv _ hbb)), ?_, ?_, ?_⟩
  · exact ownsRow_keep h.brow fun j hj => hp.block (ownsRow_lt h.brow hj).1 (h.apart j hj)
  · intro j hj e
    rcases hp.cases with ⟨c, _⟩ | ⟨c, _⟩
    · rw [c] at e; exact h.apart j hj e
    · rw [c] at e
      have := (ownsRow_lt h.brow hj).1
      have := hp.bel.size
      cases e
      omega
  · simpa using hp.now
theorem At.pop {w0 W W1 W2 W3 : World} {bb B0 Bm Bb : Nat} {vb vb' v v' : Value} {xs best best' : List Nat} {most most' : Int} {i : Nat} (h : At w0 bb B0 Bm Bb W vb v xs best most) (hp : Pushed W W1 W2 B0 v v' xs i)
    (h3 : At w0 bb B0 Bm Bb W3 vb' v' (xs ++ [i]) best' most') (ht : Turns Bm Bb W2 W3 vb vb' v') (hm : Bm < B0) (hbb : Bb < B0) : At w0 bb B0 Bm Bb W3 vb' v xs best' most' := by
  refine ⟨h3.bel, h3.same, h3.size, h3.bmost, h3.bbest, h3.brow, ?_, ?_⟩
  · intro j hj e
    rcases ht.fresh with rfl | hf
    · exact h.apart j hj e
    · have := hf j hj
      have := (ownsRow_lt h.bset e).1
      have := hp.bel.size
      have := hp.grown.size
      omega
  · rcases hp.cases with ⟨_, c⟩ | ⟨c, _⟩
    · exact c W3 (by simpa using h3.bset)
    · refine ownsRow_keep hp.kept fun j hj => ht.old j (ownsRow_lt hp.kept hj).1 ?_ ?_ ?_
      · have := (ownsRow_lt h.bset hj).2; omega
      · have := (ownsRow_lt h.bset hj).2; omega
      · rw [c]
        intro e
        have := (ownsRow_lt h.bset hj).1
        have := hp.bel.size
        cases e
        omega
theorem Turns.call {w W W1 W2 W3 : World} {B0 Bm Bb : Nat} {vb0 vb vb' v v' : Value} {xs : List Nat} {i : Nat} (h : Turns Bm Bb w W vb0 vb v) (hp : Pushed W W1 W2 B0 v v' xs i) (ht : Turns Bm Bb W2 W3 vb vb' v') : Turns Bm Bb w W3 vb0 vb' v := by
  have a := h.size; have b := hp.bel.size; have c := hp.grown.size; have d := ht.size
  refine ⟨by omega, fun x hx e1 e2 e3 => ((ht.old x (by omega) e1 e2 ?_).trans (hp.block (by omega) e3)).trans (h.old x hx e1 e2 e3), ?_⟩
  · rcases hp.cases with ⟨k, _⟩ | ⟨k, _⟩
    · rw [k]; exact e3
    · rw [k]; intro e; cases e; omega
  · rcases ht.fresh with rfl | hf
    · exact h.fresh
    · exact .inr fun j hj => by have := hf j hj; omega
end Go.Proofs.YtpkjjiieglebbaaDoor
