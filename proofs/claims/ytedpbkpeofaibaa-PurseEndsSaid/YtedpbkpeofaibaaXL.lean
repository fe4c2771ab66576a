/- A program's code, reckoned on the shadow: operations, regions, code. Definitions alone. -/
import Derived.Test.YtedpbkpeofaibaaXLc
namespace Go.Proofs.Ytedpbkpeofaibaa
open Go Go.RowKit
set_option linter.unusedSimpArgs false
set_option linter.unusedVariables false
noncomputable def argsW : List Operand → Fr → List Value
  | [], _ => []
  | x :: l, ts => (opK x).run ts :: argsW l ts
/-- The fast way may decline what the slow one does. -/
def halfB (o : Oper) : Bool := match o.op with
  | .slice .. | .binOp .. | .call _ | .store .. => true
  | _ => false
/-- The slow way, but in open runs where the fast one is all. -/
noncomputable def slowX [Orc] (o : Oper) (a : An) : An := cond (Orc.s && !(halfB o)) none a
theorem slowX_some [Orc] {o : Oper} {a : An} {r : Value} (h : slowX o a = some r) : a = some r := by
  unfold slowX at h
  cases hc : (Orc.s && !(halfB o)) with
  | true => rw [hc] at h; cases h
  | false => rw [hc] at h; exact h
/-- By the fast way, where there is one. -/
noncomputable def pureW [Orc] (P : Program) (G : Gl) (o : Oper) : OK := match fastK P G o with
  | some p => ⟨fun _ frz ts h k => p.run frz ts h (fun v h' => forceV v fun v => dstC o.dst ts v fun ts => k ts h') (slowX o (match stepOp P G frz o ts h with
    | some (ts', h') => k ts' h'
    | none => none))⟩
  | none => slowW P G o
noncomputable def opW [Orc] (P : Program) (G : Gl) (o : Oper) : OK := match o.op with
  | .move x => moveW x o.dst
  | .assign x => moveW x o.dst
  | .call c => (match c.callee with
    | .value f => cond (constOk f && c.args.toList.all constOk) ⟨fun rc frz ts h k => callV P G rc frz ((opK f).run ts) (argsW c.args.toList ts) h fun v h' => dstC o.dst ts v fun ts => k ts h'⟩ ⟨fun _ _ _ _ _ => none⟩
    | .invoke r name => cond (constOk r && c.args.toList.all constOk) ⟨fun rc frz ts h k => callM P G rc frz ((opK r).run ts) name (argsW c.args.toList ts) h fun v h' => dstC o.dst ts v fun ts => k ts h'⟩ ⟨fun _ _ _ _ _ => none⟩
    | _ => pureW P G o)
  | _ => pureW P G o
/-- An operation that may be taken first, if it may. -/
def quietB (o : Oper) : Bool := match o.op with
  | .alloc _ | .box .. | .buildSlice .. | .makeSlice .. | .makeMap .. | .store .. | .mapUpdate .. | .insert .. => false
  | .call c => match c.callee with
    | .builtin .len | .builtin .min | .builtin .max | .builtin .cap => true
    | _ => false
  | _ => true
/-- Operations that may come up at any time of a stretch, ahead of others: what they yield hangs on their operands alone, or is a new row of memory. -/
def earlyAt (ops : Array Oper) (i : Nat) : Bool := match ops[i]? with
  | some o => o.dst.isSome && (match o.op with
    | .alloc _ | .buildSlice .. | .makeSlice .. | .build .. | .move _ => true
    | _ => false)
  | none => false
/-- What an operation that may come up ahead of time makes: what the new row holds, if there is one, and for how many elements it has room; what is yielded, by its address. -/
abbrev EC := Option (List Value × TypeId × Nat) × (Addr → Value)
def opv (g : Nat → Value) : Operand → Value
  | .tmp t => g t
  | .const v => v
  | .global b => .pointer (some ⟨b, 0, none⟩)
  | .func f => .func (.func f) #[] #[]
def eC (P : Program) (o : Oper) (g : Nat → Value) : Option EC := match o.op with
  | .alloc t => match P.info? t with
    | some i => match i.zero with
      | some z => cond (z.cells.toList.all (gr 6) && Nat.beq z.cells.size i.size) (some (some (z.cells.toList, t, 1), fun a => .pointer (some a))) none
      | none => none
    | none => none
  | .buildSlice t len ps => match P.underlying t with
    | some (.slice e) => match P.info? e with
      | some i => match i.zero with
        | some z => cond (z.cells.toList.all (gr 6) && Nat.ble (len * i.size) 65536 && (Nat.blt 0 i.size) && Nat.beq z.cells.size i.size) (match Instr.fill (fun k => some (k * i.size, i.size)) (madeC z.cells (len * i.size)) (ps.toList.map fun p => (p.1, opv g p.2)) with
          | some cells => some (some (cells.toList, e, len), fun a => .slice (some a) len len)
          | none => none) none
        | none => none
      | none => none
    | _ => none
  | .makeSlice t l c => match P.underlying t, natV (opv g l), natV (opv g c) with
    | some (.slice e), some ln, some cn => match P.info? e with
      | some i => match i.zero with
        | some z => cond (z.cells.toList.all (gr 6) && Nat.ble ln cn && Nat.ble cn 65536 && Nat.ble i.bytes 65536 && Nat.blt 0 i.size && Nat.beq z.cells.size i.size) (some (some ((madeC z.cells (cn * i.size)).toList, e, cn), fun a => .slice (some a) ln cn)) none
        | none => none
      | none => none
    | _, _, _ => none
  | .build t ps => match sBuild P t (ps.toList.map fun p => (p.1, opv g p.2)) with
    | some v => some (none, fun _ => v)
    | none => none
  | .move x => some (none, fun _ => opv g x)
  | _ => none
noncomputable def yieldedG (ops : Array Oper) (g : Nat → Value) (j : Nat) : Option Bool := match ops[j]? with
  | some o => match o.dst with
    | some d => boolOf (g d)
    | none => none
  | none => none
noncomputable def eCw (P : Program) (ops : Array Oper) (o : Oper) (g : Nat → Value) : Option EC := cond (o.op.operands.toList.all constOk) (cond (Region.wanted o (yieldedG ops g)) (eC P o g) (some (none, fun _ => undef))) none
def dstsOf (ops : Array Oper) (A : List Nat) : List Nat := A.filterMap fun i => (ops[i]?).bind (·.dst)
def usesA (ops : Array Oper) (A : List Nat) : List Nat := A.flatMap fun e => match ops[e]? with
  | some o => o.looksAt ops
  | none => []
def notIn (D : List Nat) (d : Nat) : Bool := D.all fun e => !(Nat.beq e d)
def untouched (ops : Array Oper) (D : List Nat) (o : Oper) : Bool :=
  (match o.dst with
    | some d => notIn D d
    | none => true) && (o.op.operands.toList.all fun x => match x with
    | .tmp t => notIn D t
    | _ => true) && (match o.guard with
    | some (j, _) => match (ops[j]?).bind (·.dst) with
      | some d => notIn D d
      | none => true
    | none => true)
def setAll (l : Array Bool) (A : List Nat) : Array Bool := A.foldl (fun l i => l.setIfInBounds i true) l
def quietAt (ops : Array Oper) (i : Nat) : Bool := match ops[i]? with
  | some o => quietB o
  | none => false
def noneTwice : List Nat → Bool
  | [] => true
  | d :: l => notIn l d && noneTwice l
/-- Those of A that do not wait for i. -/
def pend (ops : Array Oper) (A : List Nat) (i : Nat) : List Nat := A.filter fun k => !(waits ops i (ops.size + 1) k) && !(Nat.beq k i)
def within (A : List Nat) (i : Nat) (l : List Nat) : Bool := l.all fun j => Nat.beq j i || A.any fun k => Nat.beq k j
def topo (ops : Array Oper) : List Nat → Array Bool → Bool
  | [], _ => true
  | e :: A, l => (Region.ready .any ops l).contains e && topo ops A (l.setIfInBounds e true)
def dstFree (ops : Array Oper) (A : List Nat) (o : Oper) : Bool := match o.dst with
  | some d => notIn (usesA ops A) d
  | none => true
/-- Each looks at nothing that comes up with it or behind it. -/
def ordered (ops : Array Oper) : List Nat → Bool
  | [] => true
  | e :: A => (match ops[e]? with
    | some o => (dstsOf ops (e :: A)).all fun d => notIn (o.looksAt ops) d
    | none => false) && ordered ops A
def okEnd (ops : Array Oper) (A : List Nat) (l : Array Bool) : Bool := noneTwice (dstsOf ops A) && topo ops A l && ordered ops A && A.all fun e => earlyAt ops e && within A e (Region.ready .any ops (setAll l (pend ops A e))) && A.all fun e2 => match ops[e]?, ops[e2]? with
  | some o, some o2 => (match o.dst with
    | some d => notIn (o2.looksAt ops) d || waits ops e (ops.size + 1) e2
    | none => true)
  | _, _ => false
/-- The order of one stretch is enough. -/
def okPhase (ops : Array Oper) (A : List Nat) : List (Nat × Bool) → Array Bool → Bool
  | [], l => okEnd ops A l
  | (i, true) :: ks, l => (match ops[i]? with
    | some o => untouched ops (dstsOf ops A) o && dstFree ops A o && quietB o
    | none => false) && notIn A i && Region.free .any ops l i && (Region.ready .any ops l).contains i && okPhase ops A ks (l.setIfInBounds i true)
  | (i, false) :: ks, l => (match ops[i]? with
    | some o => untouched ops (dstsOf ops A) o && dstFree ops A o
    | none => false) && notIn A i && (Region.ready .any ops l).contains i && within A i (Region.ready .any ops (setAll l (pend ops A i))) && okPhase ops A ks (l.setIfInBounds i true)
def okPhases (ops : Array Oper) : List (List (Nat × Bool) × List Nat) → Array Bool → Bool
  | [], l => (Region.ready .any ops l).isEmpty
  | (ks, A) :: ps, l => okPhase ops A ks l && okPhases ops ps (setAll (ks.foldl (fun l x => l.setIfInBounds x.1 true) l) A)
def lenAll : List (List (Nat × Bool) × List Nat) → Nat
  | [] => 0
  | (ks, A) :: ps => ks.length + A.length + lenAll ps
/-- What may change memory. -/
def loudL (ops : Array Oper) : List Nat := (List.range ops.size).filter fun m => !(quietAt ops m) && !(makerAt ops m)
/-- It reads memory, and waits for something that may change it. -/
def lateRead (ops : Array Oper) (i : Nat) : Bool := match ops[i]? with
  | some o => (match o.op with
    | .load .. | .lookup .. | .call _ => true
    | _ => false) && (loudL ops).any fun m => waits ops m (ops.size + 1) i
  | none => false
/-- What has come up, as the bits of a number: so that the kernel is fast. -/
def dmask : List Edge → Nat
  | [] => 0
  | e :: l => cond (Region.binds .any e) (Nat.lor (Nat.pow 2 e.on) (dmask l)) (dmask l)
def depL : List Oper → List Nat
  | [] => []
  | o :: os => match dmask o.after.toList with
    | 0 => 0 :: depL os
    | m + 1 => (m + 1) :: depL os
def bitN (L k : Nat) : Bool := Nat.beq (Nat.mod (Nat.shiftRight L k) 2) 1
def readyM : List Nat → Nat → Nat → List Nat
  | [], _, _ => []
  | d :: ds, s, L => cond (!(bitN L s) && Nat.beq (Nat.land d L) d) (s :: readyM ds (Nat.succ s) L) (readyM ds (Nat.succ s) L)
def readyN (ops : Array Oper) (L : Nat) : List Nat := readyM (depL ops.toList) 0 L
def setN (L i : Nat) : Nat := match Nat.lor L (Nat.pow 2 i) with
  | 0 => 0
  | m + 1 => m + 1
def setAllN (L : Nat) (A : List Nat) : Nat := A.foldl setN L
def freeM (ops : Array Oper) (L i : Nat) (oi : Oper) : List Oper → List Nat → Nat → Bool
  | oj :: os, d :: ds, s => (Nat.beq s i || bitN L s || bitN d i || oi.apart ops oj) && freeM ops L i oi os ds (Nat.succ s)
  | [], _, _ => true
  | _, [], _ => false
def freeN (ops : Array Oper) (L i : Nat) : Bool := match ops[i]? with
  | some oi => freeM ops L i oi ops.toList (depL ops.toList) 0
  | none => false
def memN (A : List Nat) (i : Nat) : Bool := A.any fun k => Nat.beq k i
def topoN (ops : Array Oper) : List Nat → Nat → Bool
  | [], _ => true
  | e :: A, L => memN (readyN ops L) e && topoN ops A (setN L e)
def okEndN (ops : Array Oper) (A : List Nat) (L : Nat) : Bool := noneTwice (dstsOf ops A) && topoN ops A L && ordered ops A && A.all fun e => earlyAt ops e && within A e (readyN ops (setAllN L (pend ops A e))) && A.all fun e2 => match ops[e]?, ops[e2]? with
  | some o, some o2 => (match o.dst with
    | some d => notIn (o2.looksAt ops) d || waits ops e (ops.size + 1) e2
    | none => true)
  | _, _ => false
def okPhaseN (ops : Array Oper) (A : List Nat) : List (Nat × Bool) → Nat → Bool
  | [], L => okEndN ops A L
  | (i, true) :: ks, L => (match ops[i]? with
    | some o => untouched ops (dstsOf ops A) o && dstFree ops A o && quietB o
    | none => false) && notIn A i && freeN ops L i && memN (readyN ops L) i && okPhaseN ops A ks (setN L i)
  | (i, false) :: ks, L => (match ops[i]? with
    | some o => untouched ops (dstsOf ops A) o && dstFree ops A o
    | none => false) && notIn A i && memN (readyN ops L) i && within A i (readyN ops (setAllN L (pend ops A i))) && okPhaseN ops A ks (setN L i)
def okPhasesN (ops : Array Oper) : List (List (Nat × Bool) × List Nat) → Nat → Bool
  | [], L => match readyN ops L with
    | [] => true
    | _ => false
  | (ks, A) :: ps, L => okPhaseN ops A ks L && okPhasesN ops ps (setAllN (ks.foldl (fun L x => setN L x.1) L) A)
/-- All that may come up ahead of time from here on. -/
def closure (ops : Array Oper) : Nat → Nat → List Nat
  | 0, _ => []
  | n + 1, l => match (readyN ops l).find? (earlyAt ops) with
    | some i => i :: closure ops n (setN l i)
    | none => []
/-- Operations that come up one behind the other while A may come up at any time. -/
def freeOf (ops : Array Oper) (A : List Nat) (i : Nat) : Bool := match ops[i]? with
  | some o => untouched ops (dstsOf ops A) o && dstFree ops A o
  | none => false
def alongside (ops : Array Oper) (A : List Nat) : Nat → Nat → List (Nat × Bool)
  | 0, _ => []
  | n + 1, l =>
    let r := (readyN ops l).filter fun i => !(A.any fun k => Nat.beq k i)
    match r.find? (fun i => freeOf ops A i && quietAt ops i && freeN ops l i) with
    | some i => (i, true) :: alongside ops A n (setN l i)
    | none => match r with
      | [i] => cond (freeOf ops A i && within A i (readyN ops (setAllN l (pend ops A i)))) ((i, false) :: alongside ops A n (setN l i)) []
      | _ => []
/-- One stretch: what is taken first, and what comes up alone; or what comes up while others may at any time. -/
def phase (ops : Array Oper) : Nat → Bool → Nat → List (Nat × Bool) × List Nat
  | 0, _, _ => ([], [])
  | n + 1, s, l =>
    let r := readyN ops l
    match r.find? (fun i => quietAt ops i && !(lateRead ops i) && freeN ops l i) with
    | some i => let q := phase ops n true (setN l i); ((i, true) :: q.1, q.2)
    | none => match r with
      | [i] => cond (earlyAt ops i && !(quietAt ops i)) (cond s ([], []) ([], closure ops ops.size l)) (let q := phase ops n true (setN l i); ((i, false) :: q.1, q.2))
      | _ => match r.find? (fun i => quietAt ops i && freeN ops l i) with
        | some i => let q := phase ops n true (setN l i); ((i, true) :: q.1, q.2)
        | none => match closure ops ops.size l with
          | [] => ([], [])
          | A => cond s ([], []) (alongside ops A (ops.size + 1) l, A)
/-- All that may come up ahead of time from here on, but for one. -/
def closureX (ops : Array Oper) (x : Nat) : Nat → Nat → List Nat
  | 0, _ => []
  | n + 1, l => match (readyN ops l).find? (fun i => earlyAt ops i && !(Nat.beq i x)) with
    | some i => i :: closureX ops x n (setN l i)
    | none => []
/-- One comes up alone, while the others that are ready may at any time. -/
def alone (ops : Array Oper) (l i : Nat) : List (Nat × Bool) × List Nat :=
  let A := closureX ops i ops.size l
  ((i, false) :: alongside ops A (ops.size + 1) (setN l i), A)
def better (ops : Array Oper) (l : Nat) (p : List (Nat × Bool) × List Nat) : List (Nat × Bool) × List Nat := cond (okPhaseN ops p.2 p.1 l) p (match ((readyN ops l).map (alone ops l)).find? (fun q => okPhaseN ops q.2 q.1 l) with
  | some q => q
  | none => p)
def phases (ops : Array Oper) : Nat → Nat → List (List (Nat × Bool) × List Nat)
  | 0, _ => []
  | n + 1, l => match phase ops (ops.size + 1) false l with
    | ([], []) => []
    | (ks0, A0) => (fun p => p :: phases ops n (setAllN (p.1.foldl (fun l x => setN l x.1) l) p.2)) (better ops l (ks0, A0))
/-- What may have come up ahead of time comes up on the shadow. -/
noncomputable def layAll (P : Program) (ops : Array Oper) : List Nat → Fr → SH → Option (Fr × SH)
  | [], ts, h => some (ts, h)
  | i :: A, ts, h => match ops[i]? with
    | some o => match o.dst with
      | some d => cond (Nat.blt d ts.n) (match eCw P ops o ts.get with
        | some (none, f) => layAll P ops A (ts.set d (f ⟨0, 0, none⟩)) h
        | some (some (cs, t, _), f) => layAll P ops A (ts.set d (f ⟨h.next, 0, some 0⟩)) (h.push (.row t cs h.next))
        | none => none) none
      | none => none
    | none => none
noncomputable def getF (F : List Nat) (h : SH) (j : Nat) : Option SB := cond (F.any fun k => Nat.beq k j) (h.tr.get j) none
/-- The blocks that are read by what is taken first, each with the operation that reads it. -/
noncomputable def footOf (P : Program) (G : Gl) (ops : Array Oper) (h : SH) : List (Nat × Bool) → Fr → List (Nat × Nat) → List (Nat × Nat)
  | [], _, F => F
  | (i, b) :: ks, ts, F => match ops[i]? with
    | none => footOf P G ops h ks ts F
    | some o => cond b (footOf P G ops h ks (putS ts o.dst (match pureOp P G h.tr.get (opnd ts) o with
        | some v => v
        | none => undef)) (match o.op with
        | .load _ a => match opnd ts a with
          | .pointer (some a) => cond (a.spot.isSome && (h.tr.get a.block).isSome) ((i, a.block) :: F) F
          | _ => F
        | .lookup _ x _ _ => match opnd ts x with
          | .map (some j) => cond ((h.tr.get j).isSome) ((i, j) :: F) F
          | _ => F
        | .call c => match c.args.toList with
          | [x] => match opnd ts x with
            | .map (some j) => cond ((h.tr.get j).isSome) ((i, j) :: F) F
            | _ => F
          | _ => F
        | _ => F)) (footOf P G ops h ks (putS ts o.dst undef) F)
/-- In which block what an operand points to lies, as far as it is seen at once. -/
noncomputable def blkO (ts : Fr) (bl : List (Nat × Option Nat)) (x : Operand) : Option Nat := match x with
  | .tmp t => match bl.find? (fun p => Nat.beq p.1 t) with
    | some p => p.2
    | none => match ts.get t with
      | .pointer (some a) => cond a.spot.isSome (some a.block) none
      | .slice (some a) _ _ => cond a.spot.isSome (some a.block) none
      | .map r => r
      | _ => none
  | _ => none
noncomputable def footL (ops : Array Oper) (h : SH) (ts : Fr) : List (Nat × Bool) → List (Nat × Option Nat) → List (Nat × Nat) → List (Nat × Nat)
  | [], _, F => F
  | (i, b) :: ks, bl, F => match ops[i]? with
    | none => footL ops h ts ks bl F
    | some o =>
      let at' := fun (v : Option Nat) => match o.dst with
        | some d => (d, v) :: bl
        | none => bl
      let add := fun (x : Operand) => match blkO ts bl x with
        | some j => cond ((h.tr.get j).isSome) ((i, j) :: F) F
        | none => F
      cond b (match o.op with
        | .load _ a => footL ops h ts ks (at' none) (add a)
        | .lookup _ x _ _ => footL ops h ts ks (at' none) (add x)
        | .fieldAddr _ x _ => footL ops h ts ks (at' (blkO ts bl x)) F
        | .indexAddr _ x _ => footL ops h ts ks (at' (blkO ts bl x)) F
        | .move x => footL ops h ts ks (at' (blkO ts bl x)) F
        | .assign x => footL ops h ts ks (at' (blkO ts bl x)) F
        | .nilCheck x => footL ops h ts ks (at' (blkO ts bl x)) F
        | .slice _ x _ _ _ => footL ops h ts ks (at' (blkO ts bl x)) F
        | .call c => match c.args.toList with
          | [.tmp t] => match ts.get t with
            | .map (some j) => footL ops h ts ks (at' none) (cond ((h.tr.get j).isSome) ((i, j) :: F) F)
            | _ => footL ops h ts ks (at' none) F
          | _ => footL ops h ts ks (at' none) F
        | _ => footL ops h ts ks (at' none) F) (footL ops h ts ks (at' none) F)
noncomputable def footX [Orc] (P : Program) (G : Gl) (ops : Array Oper) (h : SH) (ks : List (Nat × Bool)) (ts : Fr) : List (Nat × Nat) := cond Orc.s (footL ops h ts ks [] []) (footOf P G ops h ks ts [])
/-- The blocks that must stay as they are behind these operations: those of reads for which none of them waits. -/
def waitsN (ops : Array Oper) (dn : List Nat) : Nat × Nat → Bool
  | (i, _) => dn.all fun k => !(waits ops i (ops.size + 1) k)
def guardF (ops : Array Oper) (F : List (Nat × Nat)) (dn : List Nat) : List Nat := (F.filter (waitsN ops dn)).map (·.2)
def doneBy (o : Oper) (i : Nat) (dn : List Nat) : List Nat := cond (quietB o) dn (i :: dn)
/-- A guard. -/
structure BK where
  run : Fr → Bool
noncomputable def isB (b : Bool) (v : Value) : Bool := match v with
  | .bool c => cond b c (!c)
  | _ => false
noncomputable def guardK (ops : Array Oper) (o : Oper) : Option BK := match o.guard with
  | none => none
  | some (j, b) => match ops[j]? with
    | some o => match o.dst with
      | some d => some ⟨fun ts => isB b ((gk d).run ts)⟩
      | none => some ⟨fun _ => false⟩
    | none => some ⟨fun _ => false⟩
noncomputable def joinW [Orc] (g : Option BK) (d : Option Tmp) (s r : OK) : OK := match g with
  | none => ⟨fun rc frz ts h k => s.run rc frz ts h fun ts' h' => r.run rc frz ts' h' k⟩
  | some b => ⟨fun rc frz ts h k => cond (b.run ts) (s.run rc frz ts h fun ts' h' => r.run rc frz ts' h' k) (dstC d ts undef fun ts => r.run rc frz ts h k)⟩
/-- Operations one behind the other. -/
noncomputable def seqW [Orc] (P : Program) (G : Gl) (ops : Array Oper) (l : List Oper) : OK := List.rec (motive := fun _ => OK) ⟨fun _ _ ts h k => k ts h⟩ (fun o _ r => joinW (guardK ops o) o.dst (opW P G o) r) l
/-- The operation's yield may be asked while something that may change memory, and does not wait for it, has come up. -/
def exposed (ops : Array Oper) (i : Nat) : Bool := (loudL ops).any fun m => !(waits ops i (ops.size + 1) m)
/-- A step of a region that draws: the memory at the region's start, the blocks that are read, what is there now. -/
structure WK where
  run : Rec → List Nat → SH → List (Nat × Nat) → Fr → SH → KF → An
noncomputable def gW [Orc] (g : Option BK) (d : Option Tmp) (s : WK) : WK := match g with
  | none => s
  | some b => ⟨fun rc frz h0 F ts h k => cond (b.run ts) (s.run rc frz h0 F ts h k) (dstC d ts undef fun ts => k ts h)⟩
noncomputable def slowQ (P : Program) (G : Gl) (o : Oper) : WK := ⟨fun _ _ h0 _ ts h k => match stepOp P G [] o ts h0 with
  | some (ts', _) => k ts' h
  | none => none⟩
noncomputable def fastQ [Orc] (P : Program) (G : Gl) (o : Oper) (p : HK) : WK := ⟨fun _ _ h0 _ ts h k => p.run [] ts h0 (fun v _ => forceV v fun v => dstC o.dst ts v fun ts => k ts h) (slowX o (match stepOp P G [] o ts h0 with
  | some (ts', _) => k ts' h
  | none => none))⟩
noncomputable def moveQ [Orc] (x : Operand) (d : Option Tmp) : WK := cond (constOk x) ⟨fun _ _ _ _ ts h k => forceV ((opK x).run ts) fun v => dstC d ts v fun ts => k ts h⟩ ⟨fun _ _ _ _ _ _ _ => none⟩
noncomputable def qW [Orc] (P : Program) (G : Gl) (o : Oper) : WK := match o.op with
  | .move x => moveQ x o.dst
  | .assign x => moveQ x o.dst
  | _ => match fastK P G o with
    | some p => fastQ P G o p
    | none => slowQ P G o
/-- A load of memory that was there before. -/
noncomputable def eLoad [Orc] (P : Program) (G : Gl) (get : Nat → Option SB) (o : Oper) (ts : Fr) (yes : Value → An) (no : An) : An := match o.op with
  | .load t a => match P.underlying t, P.info? t with
    | some d, some i => vPtr ((opK a).run ts) (fun b of s => spotR s (nilR G.l (cond d.isRow (cellsK G.f b i.size of (fun l => yes (.agg l.toArray)) no) (oldC (G.f b of) yes no)) no) fun s => bR (Nat.beq s 0) (rowR (get b) (fun _ cs _ => cond d.isRow (rowC cs i.size of (fun l => yes (.agg l.toArray)) no) (getC cs yes no of)) no) no) no
    | _, _ => no
  | _ => no
theorem eLoad_ok [Orc] {P : Program} {G : Gl} {o : Oper} {ts : Fr} {yes : Value → An} {no : An} {r : Value} (get : Nat → Option SB) (e : eLoad P G get o ts yes no = some r) : (∃ v, pureOp P G get (opnd ts) o = some v ∧ yes v = some r) ∨ no = some r := by
  unfold eLoad at e
  split at e
  · rename_i t a ho
    have old : ∀ b of v, opnd ts a = .pointer (some ⟨b, of, none⟩) → G.l = [] → readF P G.f t b of = some v → pureOp P G get (opnd ts) o = some v := fun b of v hv hl hr => by
      simp only [pureOp, ho, hv, sLoad, cellsAt, hl, List.find?_nil, hr]
    split at e
    · rename_i d i hu hi
      simp only [vPtr_eq, spotR_eq, nilR_eq, opK_run] at e
      split at e
      · rename_i b of s hv
        cases s with
        | some s =>
          simp only [bR_eq, rowR_eq] at e
          split at e
          · rename_i h0
            have h0 := Nat.eq_of_beq_eq_true h0
            subst h0
            split at e
            · rename_i ty cs f hg
              cases hd : d.isRow with
              | true =>
                rw [hd, cond_true] at e
                rcases rowC_ok e with ⟨hle, e⟩ | e
                · refine .inl ⟨_, ?_, e⟩
                  simp only [pureOp, ho, hv, sLoad, cellsAt, hg, readAt, hu, hi, hd, cond_true]
                  rw [Nat.ble_eq_true_of_le hle]; rfl
                · exact .inr e
              | false =>
                rw [hd, cond_false, getC_eq] at e
                split at e
                · rename_i v hcell
                  refine .inl ⟨v, ?_, e⟩
                  simp only [pureOp, ho, hv, sLoad, cellsAt, hg, readAt, hu, hi, hd, cond_false, hcell]
                · exact .inr e
            · exact .inr e
          · exact .inr e
        | none =>
          simp only at e
          split at e
          · rename_i hl
            cases hd : d.isRow with
            | true =>
              rw [hd, cond_true] at e
              rcases cellsK_ok _ _ _ e with ⟨l, h1, h2⟩ | h2
              · exact .inl ⟨_, old b of _ hv hl (by simp only [readF, hu, hi, hd, cond_true, h1]), h2⟩
              · exact .inr h2
            | false =>
              rw [hd, cond_false, oldC_eq] at e
              cases hf : G.f b of with
              | none => rw [hf] at e; exact .inr e
              | some v =>
                rw [hf] at e
                simp only at e
                cases hg : gr 6 v with
                | false => rw [hg] at e; exact .inr e
                | true =>
                  rw [hg, cond_true] at e
                  exact .inl ⟨_, old b of _ hv hl (by simp only [readF, hu, hi, hd, cond_false, hf, hg, cond_true]), e⟩
          · exact .inr e
      · exact .inr e
    · exact .inr e
  · exact .inr e
noncomputable def eW [Orc] (P : Program) (G : Gl) (o : Oper) (i : Nat) : WK := ⟨fun _ _ _ F ts h k => cond (o.op.operands.toList.all constOk) (eLoad P G (getF ((F.filter fun x => Nat.beq x.1 i).map (·.2)) h) o ts (fun v => forceV v fun v => dstC o.dst ts v fun ts => k ts h) (match pureOp P G (getF ((F.filter fun x => Nat.beq x.1 i).map (·.2)) h) (opnd ts) o with
  | some v => k (putS ts o.dst v) h
  | none => none)) none⟩
noncomputable def nW [Orc] (P : Program) (G : Gl) (ops : Array Oper) (o : Oper) (dn : List Nat) : WK := ⟨fun rc frz _ F ts h k => (opW P G o).run rc (nilR F frz (guardF ops F dn ++ frz)) ts h k⟩
noncomputable def joinWK (a r : WK) : WK := ⟨fun rc frz h0 F ts h k => a.run rc frz h0 F ts h fun ts' h' => r.run rc frz h0 F ts' h' k⟩
/-- It asks memory. -/
def asksB (o : Oper) : Bool := match o.op with
  | .load .. | .lookup .. | .call _ => true
  | _ => false
def asksAt (ops : Array Oper) (i : Nat) : Bool := match ops[i]? with
  | some o => asksB o
  | none => false
noncomputable def stepWK [Orc] (P : Program) (G : Gl) (ops : Array Oper) (i : Nat) (b : Bool) (dn : List Nat) (o : Oper) : WK := gW (guardK ops o) o.dst (cond b (cond (asksB o && exposed ops i) (eW P G o i) (qW P G o)) (nW P G ops o (doneBy o i dn)))
noncomputable def stretchW [Orc] (P : Program) (G : Gl) (ops : Array Oper) : List (Nat × Bool) → List Nat → WK
  | [], _ => ⟨fun _ _ _ _ ts h k => k ts h⟩
  | (i, b) :: ks, dn => match ops[i]? with
    | some o => joinWK (stepWK P G ops i b dn o) (stretchW P G ops ks (cond b dn (doneBy o i dn)))
    | none => ⟨fun _ _ _ _ _ _ _ => none⟩
def dnAfter (ops : Array Oper) : List (Nat × Bool) → List Nat → List Nat
  | [], dn => dn
  | (i, b) :: ks, dn => match ops[i]? with
    | some o => dnAfter ops ks (cond b dn (doneBy o i dn))
    | none => dn
/-- A fast way of what may have come up ahead of time. -/
noncomputable def makerK [Orc] (P : Program) (o : Oper) : Option HK := match o.guard with
  | some _ => none
  | none => cond (o.op.operands.toList.all constOk) (match o.op with
    | .buildSlice t n ps => buildSliceK P t n ps.toList
    | .build t ps => buildK P t ps.toList
    | _ => none) none
/-- One of them comes up. -/
noncomputable def lay1 (P : Program) (ops : Array Oper) (o : Oper) (d : Nat) (ts : Fr) (h : SH) : Option (Fr × SH) := match eCw P ops o ts.get with
  | some (none, f) => some (ts.set d (f ⟨0, 0, none⟩), h)
  | some (some (cs, t, _), f) => some (ts.set d (f ⟨h.next, 0, some 0⟩), h.push (.row t cs h.next))
  | none => none
structure LYK where
  run : Fr → SH → KF → An
noncomputable def layS (P : Program) (ops : Array Oper) (o : Oper) (d : Nat) (r : LYK) : LYK := ⟨fun ts h k => match lay1 P ops o d ts h with
  | some (ts', h') => r.run ts' h' k
  | none => none⟩
noncomputable def layF [Orc] (p : HK) (d : Nat) (r s : LYK) : LYK := ⟨fun ts h k => p.run [] ts h (fun v h' => forceV v fun v => dstC (some d) ts v fun ts => r.run ts h' k) (s.run ts h k)⟩
noncomputable def layK [Orc] (P : Program) (ops : Array Oper) : List Nat → LYK
  | [] => ⟨fun ts h k => k ts h⟩
  | i :: A => match ops[i]? with
    | some o => match o.dst with
      | some d => match makerK P o with
        | some p => (fun q : LYK => ⟨fun ts h k => cond (Nat.blt d ts.n) (q.run ts h k) none⟩) (layF p d (layK P ops A) (layS P ops o d (layK P ops A)))
        | none => (fun q : LYK => ⟨fun ts h k => cond (Nat.blt d ts.n) (q.run ts h k) none⟩) (layS P ops o d (layK P ops A))
      | none => ⟨fun _ _ _ => none⟩
    | none => ⟨fun _ _ _ => none⟩
theorem opv_get (ts : Fr) : opv ts.get = opnd ts := by funext x; cases x <;> rfl
theorem eCw_none {P : Program} {ops : Array Oper} {o : Oper} {g : Nat → Value} (hg : o.guard = none) (hc : o.op.operands.toList.all constOk = true) : eCw P ops o g = eC P o g := by
  have hw : Region.wanted o (yieldedG ops g) = true := by simp only [Region.wanted, hg]
  unfold eCw
  rw [hc, hw]; rfl
theorem makerK_ok [Orc] {P : Program} {ops : Array Oper} {o : Oper} {d : Nat} {p : HK} (hp : makerK P o = some p) {ts : Fr} {h : SH} {yes : KV} {no : An} {r : Value} (e : p.run [] ts h yes no = some r) :
    (∃ v h', yes v h' = some r ∧ lay1 P ops o d ts h = some (ts.set d v, h')) ∨ no = some r := by
  unfold makerK at hp
  split at hp
  · cases hp
  · rename_i hg
    cases hc : o.op.operands.toList.all constOk with
    | false => rw [hc] at hp; cases hp
    | true =>
      rw [hc, cond_true] at hp
      have hE := eCw_none (P := P) (ops := ops) (g := ts.get) hg hc
      unfold lay1
      rw [hE]
      split at hp
      · rename_i t len parts ho
        unfold buildSliceK at hp
        split at hp
        · rename_i el hu
          split at hp
          · rename_i i hi
            split at hp
            · rename_i z hz
              split at hp
              · rename_i segs hs
                cases hq : (z.cells.toList.all (gr 6) && Nat.ble (len * i.size) 65536 && (Nat.blt 0 i.size) && Nat.beq z.cells.size i.size && segOk (madeC z.cells (len * i.size)).toList.length 0 segs) with
                | false => rw [hq] at hp; cases hp
                | true =>
                  rw [hq] at hp
                  simp only [cond_true, Option.some.injEq] at hp
                  subst hp
                  simp only [Bool.and_eq_true] at hq
                  obtain ⟨⟨⟨⟨q1, q2⟩, q3⟩, q4⟩, q5⟩ := hq
                  simp only [bR_eq] at e
                  split at e
                  · rcases outK_ok segs 0 _ q5 e with ⟨qs, h1, h2, h3⟩ | hn
                    · rw [nextC_eq] at h3
                      refine .inl ⟨_, _, h3, ?_⟩
                      obtain ⟨R, hR1, hR2⟩ := fill_out (place := fun k => some (k * i.size, i.size)) (z := (madeC z.cells (len * i.size)).toList) _ qs 0 [] (madeC z.cells (len * i.size)) (by simp) rfl (Nat.zero_le _) (segsOf_all _ _ _ hs h1) h2
                      have hall : (z.cells.toList.all (gr 6) && Nat.ble (len * i.size) 65536 && (Nat.blt 0 i.size) && Nat.beq z.cells.size i.size) = true := by
                        simp only [Bool.and_eq_true]
                        exact ⟨⟨⟨q1, q2⟩, q3⟩, q4⟩
                      simp only [eC, ho, hu, hi, hz, hall, cond_true, opv_get, hR1, hR2, List.nil_append]
                    · exact .inr hn
                  · exact .inr e
              · cases hp
            · cases hp
          · cases hp
        · cases hp
      · rename_i t parts ho
        unfold buildK at hp
        split at hp
        · rename_i it fields hi hu
          split at hp
          · rename_i z places hz hpl
            split at hp
            · rename_i segs hs
              cases hq : (z.cells.toList.all (gr 6) && segOk z.cells.toList.length 0 segs) with
              | false => rw [hq] at hp; cases hp
              | true =>
                rw [hq] at hp
                simp only [cond_true, Option.some.injEq] at hp
                subst hp
                rw [Bool.and_eq_true] at hq
                rcases outK_ok segs 0 _ hq.2 e with ⟨qs, h1, h2, h3⟩ | hn
                · refine .inl ⟨_, _, h3, ?_⟩
                  obtain ⟨R, hR1, hR2⟩ := fill_out (place := (places.toArray[·]?)) (z := z.cells.toList) _ qs 0 [] z.cells (by simp) rfl (Nat.zero_le _) (segsOf_all _ _ _ hs h1) h2
                  have hb : sBuild P t (parts.toList.map fun p => (p.1, opnd ts p.2)) = some (.agg ⟨outL z.cells.toList 0 qs⟩) := by
                    simp only [sBuild, hi, hz, hq.1, cond_true, Program.built, hu, hpl, hR1]
                    congr 2
                    exact Array.toList_inj.1 (by rw [hR2]; rfl)
                  simp only [eC, ho, opv_get, hb]
                · exact .inr hn
            · cases hp
          · cases hp
        · cases hp
      · cases hp
theorem layK_ok [Orc] {P : Program} {ops : Array Oper} {k : KF} {r : Value} : ∀ (A : List Nat) (ts : Fr) (h : SH), (layK P ops A).run ts h k = some r → ∃ ts2 h2, layAll P ops A ts h = some (ts2, h2) ∧ k ts2 h2 = some r
  | [], ts, h, e => ⟨ts, h, rfl, e⟩
  | i :: A, ts, h, e => by
    unfold layK at e
    unfold layAll
    cases ho : ops[i]? with
    | none => rw [ho] at e; cases e
    | some o =>
      rw [ho] at e
      simp only at e ⊢
      cases hd : o.dst with
      | none => rw [hd] at e; cases e
      | some d =>
        rw [hd] at e
        simp only at e ⊢
        have key : Nat.blt d ts.n = true → ∀ ts' h', lay1 P ops o d ts h = some (ts', h') → (layK P ops A).run ts' h' k = some r → ∃ ts2 h2, cond (Nat.blt d ts.n) (match eCw P ops o ts.get with
            | some (none, f) => layAll P ops A (ts.set d (f ⟨0, 0, none⟩)) h
            | some (some (cs, t, _), f) => layAll P ops A (ts.set d (f ⟨h.next, 0, some 0⟩)) (h.push (.row t cs h.next))
            | none => none) none = some (ts2, h2) ∧ k ts2 h2 = some r := fun hb ts' h' h1 h2 => by
          rw [hb, cond_true]
          unfold lay1 at h1
          split at h1
          · cases h1; exact layK_ok A _ _ h2
          · cases h1; exact layK_ok A _ _ h2
          · cases h1
        have slow : Nat.blt d ts.n = true → (layS P ops o d (layK P ops A)).run ts h k = some r → ∃ ts2 h2, cond (Nat.blt d ts.n) (match eCw P ops o ts.get with
            | some (none, f) => layAll P ops A (ts.set d (f ⟨0, 0, none⟩)) h
            | some (some (cs, t, _), f) => layAll P ops A (ts.set d (f ⟨h.next, 0, some 0⟩)) (h.push (.row t cs h.next))
            | none => none) none = some (ts2, h2) ∧ k ts2 h2 = some r := fun hb e => by
          unfold layS at e
          simp only at e
          split at e
          · rename_i ts' h' hl; exact key hb ts' h' hl e
          · cases e
        cases hm : makerK P o with
        | none =>
          rw [hm] at e
          cases hb : Nat.blt d ts.n with
          | false => simp only [hb, cond_false] at e; cases e
          | true => simp only [hb, cond_true] at e; have := slow hb e; rw [hb] at this; exact this
        | some p =>
          rw [hm] at e
          cases hb : Nat.blt d ts.n with
          | false => simp only [hb, cond_false] at e; cases e
          | true =>
            simp only [hb, cond_true] at e
            rcases makerK_ok (ops := ops) (d := d) hm e with ⟨v, h', h1, h2⟩ | h1
            · rw [forceV_eq, dstC_eq] at h1
              have := key hb _ _ h2 h1; rw [hb] at this; exact this
            · have := slow hb h1; rw [hb] at this; exact this
noncomputable def layW [Orc] (P : Program) (ops : Array Oper) (A : List Nat) : WK := match A with
  | [] => ⟨fun _ _ _ _ ts h k => k ts h⟩
  | _ :: _ => (fun q : LYK => ⟨fun _ _ _ _ ts h k => q.run ts h k⟩) (layK P ops A)
noncomputable def phasesW [Orc] (P : Program) (G : Gl) (ops : Array Oper) : List (List (Nat × Bool) × List Nat) → List Nat → WK
  | [], _ => ⟨fun _ _ _ _ ts h k => k ts h⟩
  | (ks, A) :: ps, dn => joinWK (stretchW P G ops ks dn) (joinWK (layW P ops A) (phasesW P G ops ps (dnAfter ops ks dn)))
/-- The order of a region that draws it; no order, if none is enough. -/
structure DK where
  ok : Bool
  simple : Bool
  ps : List (List (Nat × Bool) × List Nat)
  ks : List (Nat × Bool)
/-- None waits for channels. -/
def noSel (o : Oper) : Bool := match o.op with
  | .select .. => false
  | _ => true
def noSelL (ops : Array Oper) : Bool := ops.toList.all noSel
theorem noSelL_ok {ops : Array Oper} (h : noSelL ops = true) : Region.noSelect ops = true := by
  unfold Region.noSelect
  rw [← Array.all_toList]
  exact h
noncomputable def planD (P : Program) (ops : Array Oper) : DK :=
  let ps := phases ops ops.size 0
  ⟨okPhasesN ops ps 0 && Nat.ble (lenAll ps) ops.size && noSelL ops && ops.toList.all notDefer && P.follows .mixedOrders, (ps.flatMap (·.1)).all fun x => !(x.2 && (asksAt ops x.1 && exposed ops x.1)), ps, ps.flatMap (·.1)⟩
noncomputable def drawD [Orc] (P : Program) (G : Gl) (ops : Array Oper) (d : DK) : OK :=
  cond d.ok (cond d.simple ⟨fun rc frz ts h k => cond (frzLive h frz) ((phasesW P G ops d.ps []).run rc frz h [] ts h k) none⟩
    ⟨fun rc frz ts h k => let F := footX P G ops h d.ks ts
      cond (frzLive h (F.map (·.2)) && frzLive h frz) ((phasesW P G ops d.ps []).run rc frz h F ts h k) none⟩) ⟨fun _ _ _ _ _ => none⟩
noncomputable def regionW [Orc] (P : Program) (G : Gl) (ops : Array Oper) (draw : Bool) : OK := cond draw (drawD P G ops (planD P ops)) (seqW P G ops ops.toList)
/-- Code. -/
structure CK where
  run : Rec → Option Nat → List Nat → Fr → List Nat → SH → KE → An
noncomputable def condV (v : Value) (a b : An) : An := match v with
  | .bool t => cond t a b
  | _ => none
noncomputable def rangeEnd (rc : Rec) (ro : Option Nat) (frz : List Nat) (l : Nat) (ts : Fr) (ds : List Nat) (h3 : SH) (k : KE) : An := match h3.tr.get l with
  | some (.loop r tl) => cond (!(isBusy r.state) && frzOk h3 frz (2 * l + 1)) (match r.pending with
    | none => k .normal ts ds (h3.put l (.loop { r with state := .exhausted } tl))
    | some c => rc ro frz c ts ds (h3.put l (.loop { r with state := .exhausted } tl)) k) none
  | _ => none
noncomputable def rangeF (P : Program) (G : Gl) (rc : Rec) (ro : Option Nat) (frz : List Nat) (f : Value) (ps : Array Tmp) (assign body : Code) (ts : Fr) (ds : List Nat) (h : SH) (k : KE) : An :=
  cond (frzLive h frz) (match f with
  | .func (.func gf) first captured => match ro with
    | none => callF P G rc frz (finfo P gf) (first.toList ++ [.func (.yield (h.next + 1)) #[] #[]] ++ captured.toList) ((h.push .mark).push (.loop { state := .ready, pending := none, fn := 0, tmps := #[], params := ps, assign := assign, body := body, defers := h.next } ts)) fun _ h3 => rangeEnd rc ro frz (h.next + 1) ts (h.next :: ds) h3 k
    | some l0 => match h.tr.get l0 with
      | some (.loop r0 _) => callF P G rc frz (finfo P gf) (first.toList ++ [.func (.yield h.next) #[] #[]] ++ captured.toList) (h.push (.loop { state := .ready, pending := none, fn := 0, tmps := #[], params := ps, assign := assign, body := body, defers := r0.defers } ts)) fun _ h3 => rangeEnd rc ro frz h.next ts ds h3 k
      | _ => none
  | _ => none) none
noncomputable def codeW [Orc] (P : Program) (G : Gl) (c : Code) : CK := Code.rec (motive := fun _ => CK)
  ⟨fun _ _ _ ts ds h k => k .normal ts ds h⟩
  (fun _ ops draw => ⟨fun rc _ frz ts ds h k => (regionW P G ops draw).run rc frz ts h fun ts' h' => k .normal ts' ds h'⟩)
  (fun _ _ a b => ⟨fun rc ro frz ts ds h k => a.run rc ro frz ts ds h fun e ts' ds' h' => SE.rec (motive := fun _ => An) (b.run rc ro frz ts' ds' h' k) (fun id => k (.exit id) ts' ds' h') (k .ret ts' ds' h') e⟩)
  (fun x _ _ a b => cond (constOk x) ⟨fun rc ro frz ts ds h k => condV ((opK x).run ts) (a.run rc ro frz ts ds h k) (b.run rc ro frz ts ds h k)⟩ ⟨fun _ _ _ _ _ _ _ => none⟩)
  (fun id _ a => ⟨fun rc ro frz ts ds h k => a.run rc ro frz ts ds h fun e ts' ds' h' => SE.rec (motive := fun _ => An) (k .normal ts' ds' h') (fun id' => cond (Nat.beq id' id) (k .normal ts' ds' h') (k (.exit id') ts' ds' h')) (k .ret ts' ds' h') e⟩)
  (fun c a => ⟨fun rc ro frz ts ds h k => a.run rc ro frz ts ds h fun e ts' ds' h' => SE.rec (motive := fun _ => An) (rc ro frz (.loop c) ts' ds' h' k) (fun id => k (.exit id) ts' ds' h') (k .ret ts' ds' h') e⟩)
  (fun g ps assign body _ _ => cond (constOk g) ⟨fun rc ro frz ts ds h k => rangeF P G rc ro frz ((opK g).run ts) ps assign body ts ds h k⟩ ⟨fun _ _ _ _ _ _ _ => none⟩)
  (fun id => ⟨fun _ _ _ ts ds h k => k (.exit id) ts ds h⟩)
  (fun _ a => a)
  (fun _ => ⟨fun _ _ _ ts ds h k => k .normal ts ds h⟩)
  (fun _ => ⟨fun _ _ _ _ _ _ _ => none⟩)
  ⟨fun _ _ _ ts ds h k => k .ret ts ds h⟩
  (fun _ => ⟨fun _ _ _ _ _ _ _ => none⟩) c
noncomputable def exec [Orc] (P : Program) (G : Gl) (n : Nat) : Rec := Nat.rec (motive := fun _ => Rec) (fun _ _ _ _ _ _ _ => none) (fun _ ih => fun ro frz c ts ds h k => (codeW P G c).run ih ro frz ts ds h k) n
/-- A shadow memory in which nothing is yet. -/
def sh0 : SH := { next := 0, tr := .nil, kin := .nil }
/-- What a closed call comes to. -/
noncomputable def runS [Orc] (P : Program) (G : Gl) (n : Nat) (f : FuncId) (args : List Value) : Option Value := callF P G (exec P G n) [] (finfo P f) args sh0 fun v _ => some v
noncomputable def isTrue (o : Option Value) : Bool := match o with
  | some (.bool b) => b
  | _ => false
end Go.Proofs.Ytedpbkpeofaibaa
