/- The shadow of a memory: blocks, and how a shadow memory stands for a true one; new blocks, stores, growing rows. Over any program. Conditions: as each law says. -/
import Derived.Test.YtedpbkpeofaibaaXA
import Derived.Laws.CopyRow
import Derived.Laws.CopyOwn
import Derived.LoopTactic
namespace Go.Proofs.Ytedpbkpeofaibaa
open Go Go.RowKit
set_option linter.unusedSimpArgs false
set_option linter.unusedVariables false
/-- What is not to be touched: all blocks below n, and some more. -/
structure Lim where
  n : Nat
  x : List Nat
def Lim.new (N : Lim) (b : Nat) : Prop := N.n ≤ b ∧ b ∉ N.x
def Base (N : Lim) (w : World) : Prop := N.n ≤ w.heap.size ∧ ∀ k ∈ N.x, k < w.heap.size
theorem Base.new {N : Lim} {w : World} (h : Base N w) : N.new w.heap.size := ⟨h.1, fun hk => Nat.lt_irrefl _ (h.2 _ hk)⟩
/-- It has not been touched. -/
structure Bel (N : Lim) (w w' : World) : Prop where
  low : Below N.n w w'
  oth : ∀ k ∈ N.x, w'.heap[k]? = w.heap[k]?
theorem Bel.refl (N : Lim) (w : World) : Bel N w w := ⟨Below.refl _ _, fun _ _ => rfl⟩
theorem Bel.trans {N : Lim} {a b c : World} (h : Bel N a b) (k : Bel N b c) : Bel N a c := ⟨h.low.trans k.low, fun i hi => (k.oth i hi).trans (h.oth i hi)⟩
theorem Bel.drew {N : Lim} {a w : World} (h : Bel N a w) : Bel N a w.drew := ⟨h.low.drew, h.oth⟩
theorem Bel.alloc {N : Lim} {a w : World} (h : Bel N a w) (hB : Base N w) (o : Obj) : Bel N a (w.alloc o) := ⟨h.low.alloc hB.1 o, fun k hk => (Below.heap_alloc w o k (hB.2 k hk)).trans (h.oth k hk)⟩
theorem bel_setRow {N : Lim} {g : Nat} {w0 w : World} (hb : Bel N w0 w) (hg : N.new g) (cs : Array Value) : Bel N w0 (w.setRow g cs) :=
  ⟨below_setRow hb.low hg.1 cs, fun k hk => (setRow_other w g k cs (fun e => hg.2 (by rw [← e]; exact hk))).trans (hb.oth k hk)⟩
/-- A shadow frame stands for a true one. -/
structure RelF (μ : Mu) (F : Fr) (tmps : Array Value) : Prop where
  n : F.n = tmps.size
  le : F.n ≤ 512
  at' : ∀ i, Rel μ (F.get i) (tmps.getD i undef)
theorem RelF.mono {μ ν : Mu} (hm : μ.le ν) {F : Fr} {tmps : Array Value} (h : RelF μ F tmps) : RelF ν F tmps := ⟨h.n, h.le, fun i => (h.at' i).mono hm⟩
theorem RelF.set {μ : Mu} {F : Fr} {tmps : Array Value} (h : RelF μ F tmps) {v v' : Value} (hv : Rel μ v v') (d : Nat) : RelF μ (F.set d v) (tmps.setIfInBounds d v') := by
  refine ⟨by rw [Fr.set_n, h.n]; simp, by rw [Fr.set_n]; exact h.le, fun i => ?_⟩
  rw [Fr.get_set _ _ _ _ h.le]
  by_cases e : i = d ∧ d < F.n
  · obtain ⟨rfl, hd⟩ := e
    rw [if_pos ⟨rfl, hd⟩]
    rw [h.n] at hd
    simpa [Array.getD, hd] using hv
  · rw [if_neg e]
    have : (tmps.setIfInBounds d v').getD i undef = tmps.getD i undef := by
      rw [h.n] at e
      by_cases hi : i = d
      · subst hi
        have : ¬ i < tmps.size := fun hlt => e ⟨rfl, hlt⟩
        simp [Array.getD, this]
      · simp [Array.getD_eq_getD_getElem?, Array.getElem?_setIfInBounds_ne (Ne.symm hi)]
    rw [this]
    exact h.at' i
theorem RelF.of {μ : Mu} {args : List Value} {args' : Array Value} (h : RelL μ args args'.toList) {n : Nat} (hn : n ≤ 512) (hl : args.length ≤ n) : RelF μ (Fr.of n args) (args' ++ Array.replicate (n - args.length) undef) := by
  have hlen := h.length
  simp only [Array.length_toList] at hlen
  refine ⟨by rw [Fr.of_n _ _ hn]; simp; omega, by rw [Fr.of_n _ _ hn]; exact hn, fun i => ?_⟩
  rw [Fr.of_get _ _ hn _ hl]
  rcases Nat.lt_or_ge i args.length with hi | hi
  · obtain ⟨v', h1, h2⟩ := h.get (List.getElem?_eq_getElem hi)
    rw [List.getD_eq_getElem?_getD, List.getElem?_eq_getElem hi, Option.getD_some]
    rw [Array.getElem?_toList] at h1
    rw [Array.getD_eq_getD_getElem?, Array.getElem?_append_left (by omega), h1]
    exact h2
  · rw [List.getD_eq_getElem?_getD, List.getElem?_eq_none hi, Option.getD_none]
    have : (args' ++ Array.replicate (n - args.length) undef).getD i undef = undef := by
      rw [Array.getD_eq_getD_getElem?, Array.getElem?_append_right (by omega)]
      by_cases h2 : i - args'.size < n - args.length
      · rw [Array.getElem?_replicate, if_pos h2]; rfl
      · rw [Array.getElem?_replicate, if_neg h2]; rfl
    rw [this]
    exact .ground rfl
/-- A shadow block. -/
inductive SB where
  | row (t : TypeId) (cs : List Value) (fam : Nat)
  | map (es : List (Value × Value)) (std : Bool)
  | loop (r : Loop) (ts : Fr)
  | mark
  | iter (m since : Nat) (seen : List Nat) (last : Nat)
structure SH where
  next : Nat
  tr : Tr SB
  kin : Tr (List Nat)
def famOf (j : Nat) : SB → Nat
  | .row _ _ f => 2 * f
  | _ => 2 * j + 1
noncomputable def kinOf (h : SH) (f : Nat) : List Nat := match h.kin.get f with
  | some l => l
  | none => [f]
def RelM (μ : Mu) : List (Value × Value) → List MapEntry → Prop
  | [], [] => True
  | x :: es, e :: rs => (e.key = x.1 ∧ gr 6 x.1 = true ∧ Rel μ x.2 e.val) ∧ RelM μ es rs
  | _, _ => False
theorem RelM.mono {μ ν : Mu} (hm : μ.le ν) : ∀ {es : List (Value × Value)} {rs : List MapEntry}, RelM μ es rs → RelM ν es rs
  | [], [], _ => trivial
  | _ :: _, _ :: _, ⟨⟨h1, h2, h3⟩, t⟩ => ⟨⟨h1, h2, h3.mono hm⟩, RelM.mono hm t⟩
  | [], _ :: _, h => h.elim
  | _ :: _, [], h => h.elim
/-- The other blocks of a family: rows that may lie in the same true block. -/
noncomputable def kinSB (h : SH) : SB → List Nat
  | .row _ _ f => kinOf h f
  | _ => []
/-- The entries were laid one behind the other, and none is gone: each one's stamp is its place. -/
def StdM (rs : List MapEntry) (clock : Nat) : Prop := rs.map (·.born) = List.range rs.length ∧ clock = rs.length
/-- A block is as its shadow says. -/
def BlkOk (P : Program) (N : Lim) (μ : Mu) (w : World) (j : Nat) : SB → Prop
  | .row t cs _ => ∃ b κ cur sz, μ j = some (b, κ) ∧ N.new b ∧ w.heap[b]? = some (.cells cur t (0, 0)) ∧ (P.info? t).map (·.size) = some sz ∧ cur.size = κ * sz ∧ cs.length ≤ cur.size ∧ RelL μ cs (cur.toList.take cs.length)
  | .map es s => ∃ b κ ents clock, μ j = some (b, κ) ∧ N.new b ∧ w.heap[b]? = some (.map ents clock) ∧ RelM μ es ents.toList ∧ (s = true → StdM ents.toList clock)
  | .iter m since seen last => ∃ b κ mb κ', μ j = some (b, κ) ∧ N.new b ∧ μ m = some (mb, κ') ∧ w.heap[b]? = some (.mapIter (some mb) since seen.toArray last)
  | .loop r ts => ∃ b κ fn ts' d κ', μ j = some (b, κ) ∧ N.new b ∧ μ r.defers = some (d, κ') ∧ w.heap[b]? = some (.loop { r with fn := fn, tmps := ts', defers := d }) ∧ RelF μ ts ts'
  | .mark => ∃ b κ, μ j = some (b, κ) ∧ N.new b ∧ w.heap[b]? = some (.deferred (some []))
theorem BlkOk.at {P : Program} {N : Lim} {μ : Mu} {w : World} {j : Nat} {sb : SB} (h : BlkOk P N μ w j sb) : ∃ b κ, μ j = some (b, κ) ∧ N.new b ∧ b < w.heap.size := by
  cases sb with
  | row t cs f => obtain ⟨b, κ, cur, sz, h1, h2, h3, _⟩ := h; exact ⟨b, κ, h1, h2, (Array.getElem?_eq_some_iff.1 h3).1⟩
  | map es s => obtain ⟨b, κ, ents, cl, h1, h2, h3, _⟩ := h; exact ⟨b, κ, h1, h2, (Array.getElem?_eq_some_iff.1 h3).1⟩
  | iter m si se la => obtain ⟨b, κ, mb, κ', h1, h2, h3, h4⟩ := h; exact ⟨b, κ, h1, h2, (Array.getElem?_eq_some_iff.1 h4).1⟩
  | loop r ts => obtain ⟨b, κ, fn, ts', d, κ', h1, h2, _, h3, _⟩ := h; exact ⟨b, κ, h1, h2, (Array.getElem?_eq_some_iff.1 h3).1⟩
  | mark => obtain ⟨b, κ, h1, h2, h3⟩ := h; exact ⟨b, κ, h1, h2, (Array.getElem?_eq_some_iff.1 h3).1⟩
/-- It stays so in a world in which its true block is the same. -/
theorem BlkOk.keep {P : Program} {N : Lim} {μ ν : Mu} {w w' : World} {j : Nat} {sb : SB} (h : BlkOk P N μ w j sb) (hm : μ.le ν) (hk : ∀ b κ, μ j = some (b, κ) → w'.heap[b]? = w.heap[b]?) : BlkOk P N ν w' j sb := by
  cases sb with
  | row t cs f =>
    obtain ⟨b, κ, cur, sz, h1, h2, h3, h4, h5, h6, h7⟩ := h
    exact ⟨b, κ, cur, sz, hm _ _ h1, h2, (hk b κ h1).trans h3, h4, h5, h6, h7.mono hm⟩
  | map es s =>
    obtain ⟨b, κ, ents, cl, h1, h2, h3, h4, h5⟩ := h
    exact ⟨b, κ, ents, cl, hm _ _ h1, h2, (hk b κ h1).trans h3, h4.mono hm, h5⟩
  | iter m si se la =>
    obtain ⟨b, κ, mb, κ', h1, h2, h3, h4⟩ := h
    exact ⟨b, κ, mb, κ', hm _ _ h1, h2, hm _ _ h3, (hk b κ h1).trans h4⟩
  | loop r ts =>
    obtain ⟨b, κ, fn, ts', d, κ', h1, h2, h3, h4, h5⟩ := h
    exact ⟨b, κ, fn, ts', d, κ', hm _ _ h1, h2, hm _ _ h3, (hk b κ h1).trans h4, h5.mono hm⟩
  | mark =>
    obtain ⟨b, κ, h1, h2, h3⟩ := h
    exact ⟨b, κ, hm _ _ h1, h2, (hk b κ h1).trans h3⟩
/-- What package-level variables hold, and what is read in memory that was there before. -/
structure Gl where
  l : List (Nat × Array Value × TypeId)
  f : Nat → Nat → Option Value
abbrev gl0 : Gl := ⟨[], fun _ _ => none⟩
/-- A block of which it tells. -/
def GB (G : Gl) (b : Nat) : Prop := (∃ x ∈ G.l, x.1 = b) ∨ ∃ o v, G.f b o = some v
/-- A world is so. -/
def GW (G : Gl) (w : World) : Prop := (∀ x ∈ G.l, ∃ fr, w.heap[x.1]? = some (.cells x.2.1 x.2.2 fr)) ∧ ∀ b o v, G.f b o = some v → w.cell? ⟨b, o, none⟩ = some v
theorem GW.keep {G : Gl} {w w' : World} (h : GW G w) (k : ∀ b, GB G b → w'.heap[b]? = w.heap[b]?) : GW G w' :=
  ⟨fun x hx => by
    obtain ⟨fr, h1⟩ := h.1 x hx
    exact ⟨fr, (k _ (.inl ⟨x, hx, rfl⟩)).trans h1⟩, fun b o v e => by
    have h1 := h.2 b o v e
    have h2 := k b (.inr ⟨o, v, e⟩)
    simp only [World.cell?, h2] at h1 ⊢
    exact h1⟩
theorem gl0_no {b : Nat} (h : GB gl0 b) : False := by
  rcases h with ⟨x, hx, _⟩ | ⟨o, v, h⟩
  · cases hx
  · cases h
theorem gl0_w (w : World) : GW gl0 w := And.intro (fun x hx => absurd hx (by simp)) (fun b o v e => by simp at e)
theorem gl0_glob {n : Nat} {w : World} : (∀ b, GB gl0 b → b < n) ∧ GW gl0 w := And.intro (fun _ h => (gl0_no h).elim) (gl0_w w)
/-- A shadow memory stands for a true one; N: what was there before ends there. -/
structure Den (P : Program) (N : Lim) (G : Gl) (μ : Mu) (h : SH) (w : World) : Prop where
  base : Base N w
  blk : ∀ j sb, h.tr.get j = some sb → BlkOk P N μ w j sb
  old : ∀ j, h.next ≤ j → h.tr.get j = none
  muOld : ∀ j, h.next ≤ j → μ j = none
  apart : ∀ i j si sj b κ κ', h.tr.get i = some si → h.tr.get j = some sj → famOf i si ≠ famOf j sj → μ i = some (b, κ) → μ j = some (b, κ') → False
  kin : ∀ j t cs f, h.tr.get j = some (.row t cs f) → j ∈ kinOf h f
  famLt : ∀ j t cs f, h.tr.get j = some (.row t cs f) → f < h.next
  kinOld : ∀ f, h.next ≤ f → h.kin.get f = none
  glob : (∀ b, GB G b → b < N.n) ∧ GW G w
section
variable {P : Program} {N : Lim} {G : Gl} {μ : Mu} {h : SH} {w : World}
theorem Den.drew (d : Den P N G μ h w) : Den P N G μ h w.drew := ⟨d.base, fun j sb hj => (d.blk j sb hj).keep (Mu.le_refl _) (fun _ _ _ => rfl), d.old, d.muOld, d.apart, d.kin, d.famLt, d.kinOld, d.glob⟩
theorem Den.lt (d : Den P N G μ h w) {j : Nat} {sb : SB} (hj : h.tr.get j = some sb) : j < h.next := by
  rcases Nat.lt_or_ge j h.next with h' | h'
  · exact h'
  · rw [d.old j h'] at hj; cases hj
/-- The numbers of blocks, one more. -/
def Mu.add (μ : Mu) (j b κ : Nat) : Mu := fun i => if i = j then some (b, κ) else μ i
theorem Mu.add_same {μ : Mu} {j b κ : Nat} : (μ.add j b κ) j = some (b, κ) := by simp [Mu.add]
theorem Mu.le_add {μ : Mu} {j b κ : Nat} (h : μ j = none) : μ.le (μ.add j b κ) := fun i x e => by
  by_cases hi : i = j
  · subst hi; rw [h] at e; cases e
  · simpa [Mu.add, hi] using e
noncomputable def SH.push (h : SH) (sb : SB) : SH := SH.rec (motive := fun _ => SH) (fun n t k => ⟨Nat.add n 1, t.set n (some sb), k⟩) h
theorem SH.push_eq (h : SH) (sb : SB) : h.push sb = { next := h.next + 1, tr := h.tr.set h.next (some sb), kin := h.kin } := rfl
/-- A new block. -/
theorem Den.push (d : Den P N G μ h w) (o : Obj) (κ : Nat) (sb : SB) (hf : ∀ t cs f, sb = .row t cs f → f = h.next) (hb : BlkOk P N (μ.add h.next w.heap.size κ) (w.alloc o) h.next sb) :
    Den P N G (μ.add h.next w.heap.size κ) (h.push sb) (w.alloc o) := by
  have hnone := d.muOld h.next (Nat.le_refl _)
  have hle : μ.le (μ.add h.next w.heap.size κ) := Mu.le_add hnone
  have hold : ∀ k, k < w.heap.size → (w.alloc o).heap[k]? = w.heap[k]? := fun k hk => Below.heap_alloc w o k hk
  have hsz : (w.alloc o).heap.size = w.heap.size + 1 := by simp
  refine ⟨?_, ?_, ?_, ?_, ?_, ?_, ?_, ?_, ?_⟩
  · exact ⟨by rw [hsz]; exact Nat.le_succ_of_le d.base.1, fun k hk => by rw [hsz]; exact Nat.lt_succ_of_lt (d.base.2 k hk)⟩
  · intro j sb' hj
    simp only [SH.push_eq, Tr.get_set] at hj
    split at hj
    · rename_i e; subst e; cases hj; exact hb
    · have hk := d.blk j sb' hj
      obtain ⟨b', κ', h1, _, h3⟩ := hk.at
      exact hk.keep hle fun b κ'' hb' => hold b (by rw [h1] at hb'; cases hb'; exact h3)
  · intro j hj
    simp only [SH.push_eq] at hj ⊢
    rw [Tr.get_set, if_neg (by omega)]
    exact d.old j (by omega)
  · intro j hj
    simp only [SH.push_eq] at hj
    simp only [Mu.add, if_neg (show ¬ j = h.next by omega)]
    exact d.muOld j (by omega)
  · intro i j si sj b κ₁ κ₂ hi hj hne hmi hmj
    simp only [SH.push_eq, Tr.get_set] at hi hj
    have key : ∀ k sk b' κ', h.tr.get k = some sk → k ≠ h.next → (μ.add h.next w.heap.size κ) k = some (b', κ') → μ k = some (b', κ') ∧ b' < w.heap.size := fun k sk b' κ' hk hkn hm => by
      simp only [Mu.add, if_neg hkn] at hm
      obtain ⟨b0, κ0, h1, _, h3⟩ := (d.blk k sk hk).at
      rw [hm] at h1; cases h1
      exact ⟨hm, h3⟩
    by_cases ei : i = h.next <;> by_cases ej : j = h.next
    · subst ei; subst ej
      rw [if_pos rfl] at hi hj
      cases hi; cases hj
      exact hne rfl
    · rw [if_neg ej] at hj
      have := key j sj b κ₂ hj ej hmj
      rw [ei, Mu.add_same] at hmi
      cases hmi
      exact absurd this.2 (Nat.lt_irrefl _)
    · rw [if_neg ei] at hi
      have := key i si b κ₁ hi ei hmi
      rw [ej, Mu.add_same] at hmj
      cases hmj
      exact absurd this.2 (Nat.lt_irrefl _)
    · rw [if_neg ei] at hi
      rw [if_neg ej] at hj
      exact d.apart i j si sj b κ₁ κ₂ hi hj hne (key i si b κ₁ hi ei hmi).1 (key j sj b κ₂ hj ej hmj).1
  · intro j t cs f hj
    simp only [SH.push_eq, Tr.get_set] at hj
    split at hj
    · rename_i e; subst e; cases hj
      obtain rfl := hf t cs f rfl
      show h.next ∈ kinOf _ h.next
      simp [kinOf, SH.push_eq, d.kinOld h.next (Nat.le_refl _)]
    · exact d.kin j t cs f hj
  · intro j t cs f hj
    simp only [SH.push_eq, Tr.get_set] at hj ⊢
    split at hj
    · rename_i e; subst e; cases hj; rw [hf t cs f rfl]; omega
    · exact Nat.lt_succ_of_lt (d.famLt j t cs f hj)
  · intro f hfl
    exact d.kinOld f (by simp only [SH.push_eq] at hfl; omega)
  · exact ⟨d.glob.1, d.glob.2.keep fun b hb => hold _ (Nat.lt_of_lt_of_le (d.glob.1 b hb) d.base.1)⟩
/-- The other blocks of a family are struck, one of them is what it becomes. -/
noncomputable def SH.put (h : SH) (j : Nat) (sb : SB) : SH := SH.rec (motive := fun _ => SH) (fun n t k => ⟨n, ((kinSB ⟨n, t, k⟩ sb).foldl (fun t k => cond (Nat.beq k j) t (t.set k none)) t).set j (some sb), k⟩) h
theorem SH.put_eq (h : SH) (j : Nat) (sb : SB) : h.put j sb = { h with tr := ((kinSB h sb).foldl (fun t k => cond (Nat.beq k j) t (t.set k none)) h.tr).set j (some sb) } := rfl
theorem foldl_set_none {α : Type} (j : Nat) : ∀ (l : List Nat) (t : Tr α) (m : Nat), m ≠ j → (l.foldl (fun t k => cond (Nat.beq k j) t (t.set k none)) t).get m = if m ∈ l then none else t.get m
  | [], t, m, _ => by simp
  | k :: l, t, m, hm => by
    rw [List.foldl_cons, foldl_set_none j l _ _ hm]
    by_cases h1 : m ∈ l
    · simp [h1]
    · cases hk : Nat.beq k j with
      | true =>
        have : m ≠ k := fun e => hm (e.trans (Nat.eq_of_beq_eq_true hk))
        simp [h1, this]
      | false =>
        rw [cond_false, Tr.get_set]
        by_cases h2 : m = k <;> simp [h1, h2]
theorem SH.put_get (h : SH) (j : Nat) (sb : SB) (m : Nat) : (h.put j sb).tr.get m = if m = j then some sb else if m ∈ kinSB h sb then none else h.tr.get m := by
  simp only [SH.put_eq, Tr.get_set]
  by_cases e : m = j
  · simp [e]
  · rw [if_neg e, if_neg e, foldl_set_none j _ _ _ e]
/-- A change of one true block. -/
theorem Den.put (d : Den P N G μ h w) {j : Nat} {sb sb' : SB} (hj : h.tr.get j = some sb) (hfam : famOf j sb' = famOf j sb) {w' : World}
    (hs : w'.heap.size = w.heap.size) (hk : ∀ b κ, μ j = some (b, κ) → ∀ k, k ≠ b → w'.heap[k]? = w.heap[k]?) (hb : BlkOk P N μ w' j sb') : Den P N G μ (h.put j sb') w' := by
  obtain ⟨b0, κ0, hm0, hN0, hlt0⟩ := (d.blk j sb hj).at
  have hsub : ∀ m sm, (h.put j sb').tr.get m = some sm → m ≠ j → h.tr.get m = some sm ∧ famOf m sm ≠ famOf j sb := fun m sm hm hne => by
    rw [SH.put_get, if_neg hne] at hm
    split at hm
    · cases hm
    · rename_i hn
      refine ⟨hm, fun e => ?_⟩
      rw [← hfam] at e
      cases sm with
      | row t cs f =>
        cases sb' with
        | row t' cs' f' =>
          simp only [famOf] at e
          obtain rfl : f = f' := by omega
          exact hn (d.kin m t cs f hm)
        | _ => simp only [famOf] at e; omega
      | _ => cases sb' <;> simp only [famOf] at e <;> omega
  have hlt : ∀ k, k < N.n → w'.heap[k]? = w.heap[k]? := fun k hkN => hk b0 κ0 hm0 k (by have := hN0.1; omega)
  refine ⟨⟨by rw [hs]; exact d.base.1, by rw [hs]; exact d.base.2⟩, ?_, ?_, d.muOld, ?_, ?_, ?_, d.kinOld, ?_⟩
  · intro m sm hm
    by_cases e : m = j
    · subst e
      rw [SH.put_get, if_pos rfl] at hm
      cases hm; exact hb
    · obtain ⟨h1, h2⟩ := hsub m sm hm e
      refine (d.blk m sm h1).keep (Mu.le_refl _) fun b κ hmb => hk b0 κ0 hm0 b fun e' => ?_
      subst e'
      exact d.apart m j sm sb b κ κ0 h1 hj h2 hmb hm0
  · intro m hm
    have : m ≠ j := fun e => by have := d.lt hj; subst e; simp only [SH.put_eq] at hm; omega
    rw [SH.put_get, if_neg this]
    split
    · rfl
    · exact d.old m hm
  · intro m n sm sn b κ κ' hm hn hne h1 h2
    have fj : ∀ k sk, (h.put j sb').tr.get k = some sk → ∃ sk', h.tr.get k = some sk' ∧ famOf k sk' = famOf k sk := fun k sk hk => by
      by_cases e : k = j
      · subst e
        rw [SH.put_get, if_pos rfl] at hk
        cases hk
        exact ⟨sb, hj, hfam.symm⟩
      · exact ⟨sk, (hsub k sk hk e).1, rfl⟩
    obtain ⟨sm', a1, a2⟩ := fj m sm hm
    obtain ⟨sn', b1, b2⟩ := fj n sn hn
    exact d.apart m n sm' sn' b κ κ' a1 b1 (by rw [a2, b2]; exact hne) h1 h2
  · intro m t cs f hm
    by_cases e : m = j
    · subst e
      rw [SH.put_get, if_pos rfl] at hm
      cases hm
      cases sb with
      | row t' cs' f' =>
        simp only [famOf] at hfam
        obtain rfl : f = f' := by omega
        exact d.kin m t' cs' f hj
      | _ => simp only [famOf] at hfam; omega
    · exact d.kin m t cs f (hsub m _ hm e).1
  · intro m t cs f hm
    by_cases e : m = j
    · subst e
      rw [SH.put_get, if_pos rfl] at hm
      cases hm
      cases sb with
      | row t' cs' f' =>
        simp only [famOf] at hfam
        obtain rfl : f = f' := by omega
        exact d.famLt m t' cs' f hj
      | _ => simp only [famOf] at hfam; omega
    · exact d.famLt m t cs f (hsub m _ hm e).1
  · exact ⟨d.glob.1, d.glob.2.keep fun b hb => hlt _ (d.glob.1 b hb)⟩
end
end Go.Proofs.Ytedpbkpeofaibaa
