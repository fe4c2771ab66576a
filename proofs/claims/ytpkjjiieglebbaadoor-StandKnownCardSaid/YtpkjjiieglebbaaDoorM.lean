/- The plain model of layer 1: trees, stands, rules, and what the chapter says of them, as Lean functions on numbers and lists of bytes. Conditions: none; nothing of the program stands here. -/
import Derived.WalkKit
namespace Go.Proofs.YtpkjjiieglebbaaDoor
open Go.RowKit
structure Tree where
  tag : ByteArray
  x : Int
  y : Int
  gl : Int
  gh : Int
  cr : Int
structure Stand where
  ts : List Tree
  lo : Int
  hi : Int
  press : Int
  near : Int
structure Rule where
  a : Int
  b : Int
  c : Int
  cr : Int
def frB (n a b : Int) : Bool := decide (a ≤ n) && decide (n ≤ b)
def spanB (lo hi a b : Int) : Bool := decide (a ≤ lo) && decide (hi ≤ b) && decide (lo ≤ hi)
def letB (c : UInt8) : Bool := decide (97 ≤ (c.toNat : Int)) && decide ((c.toNat : Int) ≤ 122)
def digB (c : UInt8) : Bool := decide (48 ≤ (c.toNat : Int)) && decide ((c.toNat : Int) ≤ 57)
def okB (c : UInt8) : Bool := letB c || digB c || (c.toNat : Int) == 45
def wordB (l : List UInt8) : Bool := decide (1 ≤ l.length) && decide (l.length ≤ 16) && letB (l.headD 0) && l.all okB
def treeB (t : Tree) : Bool := wordB t.tag.data.toList && frB t.x 0 100000 && frB t.y 0 100000 && spanB t.gl t.gh 1 4000 && frB t.cr 0 100
def ruleB (r : Rule) : Bool := frB r.cr 0 100 && frB r.a 1 4000 && frB r.b (r.a + 1) 4000 && frB r.c (r.b + 1) 4000
/-- A tree has the tag or the place of another one. -/
def clash (t o : Tree) : Bool := (o.tag.toList == t.tag.toList) || (o.x == t.x && o.y == t.y)
/-- The trees are valid, and none clashes with one in front of it. -/
def treesB : List Tree → List Tree → Bool
  | _, [] => true
  | front, t :: rest => treeB t && !front.any (clash t) && treesB (front ++ [t]) rest
def headB (s : Stand) : Bool := decide (s.ts.length ≤ 14) && spanB s.lo s.hi 0 100 && frB s.press 0 100 && frB s.near 0 100000
def standB (s : Stand) : Bool := headB s && treesB [] s.ts
def checkE (s : Stand) : Int := if standB s then 0 else 10
def ruleE (r : Rule) : Int := if ruleB r then 0 else 11
def treeE (n k : Int) : Int := if frB k 0 (n - 1) then 0 else 12
def rangeE (n a b : Int) : Int := if frB n a b then 0 else 7
def orE : List Int → Int
  | [] => 0
  | e :: es => if e = 0 then orE es else e
/-- How many of the girths that a rule asks for are at most this one. -/
def manyN (r : Rule) (cr g : Int) : Int := if cr < r.cr then 0 else (if r.a ≤ g then 1 else 0) + (if r.b ≤ g then 1 else 0) + (if r.c ≤ g then 1 else 0)
def within (x y u v d : Int) : Bool := decide ((x - u) * (x - u) + (y - v) * (y - v) ≤ d * d)
/-- Is the tree i a neighbour of the tree k? -/
def nbB (ts : List Tree) (ne : Int) (k i : Nat) : Bool :=
  match ts[k]?, ts[i]? with
  | some t, some u => !(i == k) && within t.x t.y u.x u.y ne
  | _, _ => false
def nearTo (ts : List Tree) (ne : Int) (k j : Nat) : List Nat := (List.range j).filter (nbB ts ne k)
def nearL (ts : List Tree) (ne : Int) (k : Nat) : List Nat := nearTo ts ne k ts.length
def takenN (s : Stand) (k : Nat) : Int := s.press * (nearL s.ts s.near k).length
def rateL (s : Stand) (k : Nat) : Int := max 0 (s.lo - takenN s k)
def rateH (s : Stand) (k : Nat) : Int := max 0 (s.hi - takenN s k)
/-- The first of the numbers below k for which p says yes; 201, if there is none. -/
def firstTo (p : Nat → Bool) : Nat → Int
  | 0 => 201
  | k + 1 => if firstTo p k = 201 && p k then k else firstTo p k
def reachP (r : Rule) (cr f g d : Int) (k : Nat) : Bool := decide (f ≤ manyN r cr (g + k * d))
theorem firstTo_le (p : Nat → Bool) : ∀ k, k ≤ 201 → (firstTo p k = 201 ∨ (0 ≤ firstTo p k ∧ firstTo p k < k))
  | 0, _ => .inl rfl
  | k + 1, h => by
    rcases firstTo_le p k (by omega) with h1 | h1
    · simp only [firstTo, h1]
      by_cases hp : p k
      · simp [hp]; omega
      · simp [hp]
    · right
      have : ¬ firstTo p k = 201 := by omega
      simp only [firstTo, this]; simp; omega
theorem frB_iff {n a b : Int} : frB n a b = true ↔ a ≤ n ∧ n ≤ b := by simp [frB]
theorem spanB_iff {lo hi a b : Int} : spanB lo hi a b = true ↔ a ≤ lo ∧ hi ≤ b ∧ lo ≤ hi := by simp [spanB, and_assoc]
/-- What a contract leaves of old memory, as two rules for the walk. -/
theorem bcell {W w1 : World} (hb : Below W.heap.size W w1) : (∀ b o, b < W.heap.size → w1.cell? ⟨b, o, none⟩ = W.cell? ⟨b, o, none⟩) ∧ (∀ b o, b < W.heap.size → w1.frozen? ⟨b, o, none⟩ = W.frozen? ⟨b, o, none⟩) :=
  ⟨fun b o h => hb.cell (p := ⟨b, o, none⟩) h, fun b o h => hb.frozen (p := ⟨b, o, none⟩) h⟩
theorem ret_int {k : IntKind} {a b : Int} (h : a = b) : Ending.returned (.int k a) = .returned (.int k b) := by rw [h]
theorem ret_bool {a b : Bool} (h : a = b) : Ending.returned (.bool a) = .returned (.bool b) := by rw [h]
/-- A block of memory, whole. -/
def Box (w : World) (b : Nat) (cs : Array Value) (t : TypeId) : Prop := w.heap[b]? = some (.cells cs t (0, 0))
theorem Box.new (w : World) (cs : Array Value) (t : TypeId) : Box (w.alloc (.cells cs t)) w.heap.size cs t := by unfold Box; show (w.heap.push _)[w.heap.size]? = _; simp
theorem Box.lt {w : World} {b : Nat} {cs : Array Value} {t : TypeId} (h : Box w b cs t) : b < w.heap.size := lt_of_block h
theorem Box.cell {w : World} {b : Nat} {cs : Array Value} {t : TypeId} (h : Box w b cs t) (i : Nat) : w.cell? ⟨b, i, none⟩ = cs[i]? := by simp [World.cell?, show w.heap[b]? = _ from h]
theorem Box.free {w : World} {b : Nat} {cs : Array Value} {t : TypeId} (h : Box w b cs t) (i : Nat) : w.frozen? ⟨b, i, none⟩ = false := by simp [World.frozen?, show w.heap[b]? = _ from h]
theorem Box.below {w w' : World} {b B : Nat} {cs : Array Value} {t : TypeId} (h : Box w b cs t) (hb : Below B w w') (hlt : b < B) : Box w' b cs t := (hb.block b hlt).trans h
theorem Box.alloc {w : World} {b : Nat} {cs : Array Value} {t : TypeId} (h : Box w b cs t) (o : Obj) : Box (w.alloc o) b cs t := (Below.heap_alloc w o b h.lt).trans h
theorem Box.drew {w : World} {b : Nat} {cs : Array Value} {t : TypeId} (h : Box w b cs t) : Box w.drew b cs t := h
theorem Box.other {w : World} {b : Nat} {cs : Array Value} {t : TypeId} (h : Box w b cs t) {p : Addr} (hp : p.block ≠ b) (u : Value) : Box (w.setCell p u) b cs t := (Below.heap_setCell w p u b (fun e => hp e.symm)).trans h
theorem Box.set {w : World} {b : Nat} {cs : Array Value} {t : TypeId} (h : Box w b cs t) (i : Nat) (u : Value) : Box (w.setCell ⟨b, i, none⟩ u) b (cs.setIfInBounds i u) t := by
  unfold Box at *
  simp only [World.setCell, Array.getElem?_modify, h]
  simp
end Go.Proofs.YtpkjjiieglebbaaDoor
