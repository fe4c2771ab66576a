/- The fast ways together. Definitions alone. -/
import Derived.Test.YtedpbkpeofaibaaXLd
namespace Go.Proofs.Ytedpbkpeofaibaa
open Go Go.RowKit
set_option linter.unusedSimpArgs false
set_option linter.unusedVariables false
noncomputable def segsOf (place : Nat → Option (Nat × Nat)) : List (Nat × Operand) → Option (List Seg)
  | [] => some []
  | (i, x) :: ps => match place i, segsOf place ps with
    | some (off, size), some l => some ((off, size, opK x) :: l)
    | _, _ => none
noncomputable def buildK [Orc] (P : Program) (t : TypeId) (parts : List (Nat × Operand)) : Option HK := match P.info? t, P.underlying t with
  | some it, some (.struct fields) => match it.zero, fields.toList.mapM (fun f => (P.info? f.type).map fun i => (f.offset, i.size)) with
    | some z, some places => match segsOf (places.toArray[·]?) parts with
      | some segs => cond (z.cells.toList.all (gr 6) && segOk z.cells.toList.length 0 segs) (some ⟨fun _ ts h yes no => (outK z.cells.toList 0 segs).run ts (fun l => yes (.agg ⟨l⟩) h) no⟩) none
      | none => none
    | _, _ => none
  | _, _ => none
noncomputable def buildSliceK [Orc] (P : Program) (t : TypeId) (len : Nat) (parts : List (Nat × Operand)) : Option HK := match P.underlying t with
  | some (.slice e) => match P.info? e with
    | some i => match i.zero with
      | some z => match segsOf (fun k => some (k * i.size, i.size)) parts with
        | some segs => cond (z.cells.toList.all (gr 6) && Nat.ble (len * i.size) 65536 && (Nat.blt 0 i.size) && Nat.beq z.cells.size i.size && segOk (madeC z.cells (len * i.size)).toList.length 0 segs)
          (some ⟨fun frz ts h yes no => bR (frzLive h frz) ((outK (madeC z.cells (len * i.size)).toList 0 segs).run ts (fun l => nextC h fun n => yes (.slice (some ⟨n, 0, some 0⟩) len len) (h.push (.row e l n))) no) no⟩) none
        | none => none
      | none => none
    | none => none
  | _ => none
noncomputable def boxK [Orc] (P : Program) (t : TypeId) (gx : GK) : Option HK := match P.info? t with
  | some i => some ⟨fun frz ts h yes no => bR (frzLive h frz) (cellsC (gx.run ts) i.size (fun l => nextC h fun n => yes (.pointer (some ⟨n, 0, some 0⟩)) (h.push (.row t l n))) no) no⟩
  | none => none
noncomputable def allOne (l : List Value) : Bool := List.rec (motive := fun _ => Bool) true (fun v _ ih => vAgg v false ih) l
noncomputable def storeAK [Orc] (P : Program) (t : TypeId) (ga gx : GK) : Option HK := match P.info? t with
  | some i => some ⟨fun frz ts h yes no => nilR frz (vPtr (ga.run ts) (fun b o s => oR s no fun s => bR (Nat.beq s 0) (rowR (h.tr.get b) (fun ty cs f => cellsC (gx.run ts) i.size (fun l => bR (allOne l) (bR (Nat.ble (Nat.add o i.size) (lenR cs)) (yes undef (h.put b (.row ty (appR (cs.take o) (appR l (cs.drop (Nat.add o i.size)))) f))) no) no) no) no) no) no) no⟩
  | none => none
noncomputable def notK [Orc] (gx : GK) : HK := ⟨fun _ ts h yes no => vBool (gx.run ts) (fun b => bR b (yes (.bool false) h) (yes (.bool true) h)) no⟩
noncomputable def minK [Orc] (gx gy : GK) : HK := bin2 gx gy fun a b yes => bR (ltI b a) (yes (.int .i64 b)) (yes (.int .i64 a))
noncomputable def maxK [Orc] (gx gy : GK) : HK := bin2 gx gy fun a b yes => bR (ltI a b) (yes (.int .i64 b)) (yes (.int .i64 a))
noncomputable def vTup {α : Type} (v : Value) (yes : List Value → α) (no : α) : α := @Value.rec (fun _ => α) (fun _ => α) (fun _ => α) (fun _ => no) (fun _ _ => no) (fun _ _ => no) (fun _ _ _ => no) (fun _ => no) (fun _ => no) (fun _ _ _ => no) (fun _ => no) (fun _ => no) (fun _ _ _ _ _ => no) no (fun _ _ _ => no) no (fun _ _ => no) (fun vs _ => yes vs.toList) (fun _ _ => no) no (fun _ _ _ _ => no) v
noncomputable def extractK [Orc] (gx : GK) (i : Nat) : HK := ⟨fun _ ts h yes no => vTup (gx.run ts) (fun l => getC l (fun v => yes v h) no i) no⟩
noncomputable def listK : List Operand → Fr → List Value
  | [], _ => []
  | x :: l, ts => (opK x).run ts :: listK l ts
noncomputable def makeFuncK (f : FuncId) (first captured : List Operand) : HK := ⟨fun _ ts h yes _ => yes (.func (.func f) ⟨listK first ts⟩ ⟨listK captured ts⟩) h⟩
/-- The rows of a family that are longer. -/
noncomputable def longS [Orc] (tr : Tr SB) (keep : Nat) (l : List Nat) (k : List Nat → An) : An := List.rec (motive := fun _ => (List Nat → An) → An) (fun k => k []) (fun x _ ih k => rowR (tr.get x) (fun _ cs _ => bR (Nat.ble (lenR cs) keep) (ih k) (ih fun l => k (x :: l))) (ih k)) l k
theorem longS_eq [Orc] (tr : Tr SB) (keep : Nat) : ∀ (l : List Nat) (k : List Nat → An), longS tr keep l k = k (l.filter (longRow tr keep))
  | [], _ => rfl
  | x :: l, k => by
    show rowR (tr.get x) (fun _ cs _ => bR (Nat.ble (lenR cs) keep) (longS tr keep l k) (longS tr keep l fun l => k (x :: l))) (longS tr keep l k) = _
    rw [rowR_eq, longS_eq tr keep l, longS_eq tr keep l, List.filter_cons]
    cases hx : tr.get x with
    | none => simp [longRow, hx]
    | some sb =>
      cases sb with
      | row t cs f =>
        simp only [longRow, hx, bR_eq, lenR_eq]
        cases Nat.ble cs.length keep <;> rfl
      | _ => simp [longRow, hx]
noncomputable def SH.growL (h : SH) (ls : List Nat) (t : TypeId) (cs : List Value) (f : Nat) : SH :=
  SH.rec (motive := fun _ => SH) (fun n tr kin => ⟨Nat.add n 1, (ls.foldl (fun t k => t.set k none) tr).set n (some (.row t cs f)), kin.set f (some (n :: kinOf ⟨n, tr, kin⟩ f))⟩) h
theorem growL_eq (h : SH) (t : TypeId) (cs : List Value) (f keep : Nat) : h.growL ((kinOf h f).filter (longRow h.tr keep)) t cs f = h.grow t cs f keep := rfl
/-- An append of a whole row to nil, or to a whole row of one's own. -/
noncomputable def appS [Orc] (size : Nat) (e : TypeId) (frz : List Nat) (h : SH) (v : Value) (csx : List Value) (m : Nat) (yes : KV) (no : An) : An := vSlice v (fun as n c => Option.rec (motive := fun _ => An) (bR (Nat.beq n 0 && Nat.beq c 0) (nextC h fun q => yes (.slice (some ⟨q, 0, some 1⟩) m 0) (h.push (.row e csx q))) no)
  (fun a => Addr.rec (motive := fun _ => An) (fun b o s => oR s no fun s => bR (Nat.beq s 1) (bR (Nat.beq o 0) (rowR (h.tr.get b) (fun ty cs f => bR (Nat.beq ty e) (bR (Nat.ble n 65536) (bR (Nat.beq (lenR cs) (Nat.mul n size)) (bR (frzOk h frz (2 * f)) (nextC h fun q => longS h.tr (Nat.mul n size) (kinOf h f) fun ls => yes (.slice (some ⟨q, 0, some 1⟩) (Nat.add n m) 0) (h.growL ls e (appR cs csx) f)) no) no) no) no) no) no) no) a) as) no
noncomputable def appendK [Orc] (P : Program) (ts : Array TypeId) (gs gx : GK) : Option HK := match ts.toList with
  | [t, t'] => match P.underlying t with
    | some (.slice e) => match P.info? e with
      | some i => match i.zero with
        | some z => cond (Nat.beq t t' && Nat.blt 0 i.size && Nat.beq z.cells.size i.size && Nat.ble i.bytes 65536) (some ⟨fun frz ts h yes no => bR (frzLive h frz) (vSlice (gx.run ts) (fun ax m _ => oR ax no fun ax => Addr.rec (motive := fun _ => An) (fun bx ox sx => oR sx no fun sx => bR (Nat.beq sx 0) (bR (Nat.beq ox 0) (rowR (h.tr.get bx) (fun _ csx _ => bR (Nat.beq (lenR csx) (Nat.mul m i.size)) (bR (Nat.blt 0 m && Nat.ble m 65536) (bR (allOne csx) (appS i.size e frz h (gs.run ts) csx m yes no) no) no) no) no) no) no) ax) no) no⟩) none
        | none => none
      | none => none
    | _ => none
  | _ => none
noncomputable def fastK [Orc] (P : Program) (G : Gl) (o : Oper) : Option HK := cond (o.op.operands.toList.all constOk) (match o.op with
  | .binOp op t x y _ => match P.underlying t with
    | some (.struct _) => eqK P op t (opK x) (opK y)
    | some (.array _ _) => eqK P op t (opK x) (opK y)
    | _ => binK op (opK x) (opK y)
  | .pick c a b => some (pickK (opK c) (opK a) (opK b))
  | .load t a => loadK P G t (opK a)
  | .slice t x lo hi none => sliceK P t (opK x) (lo.map opK) (hi.map opK)
  | .fieldAddr s x f => fieldK P s f (opK x)
  | .indexAddr t x i => indexK P t (opK x) (opK i)
  | .store t a x => match storeK P t (opK a) (opK x) with
    | some p => some p
    | none => storeAK P t (opK a) (opK x)
  | .box t x => boxK P t (opK x)
  | .alloc t => allocK P t
  | .unOp .not _ x => some (notK (opK x))
  | .extract x i => some (extractK (opK x) i)
  | .makeFunc (.func f) first captured => some (makeFuncK f first.toList captured.toList)
  | .build t parts => buildK P t parts.toList
  | .buildSlice t n parts => buildSliceK P t n parts.toList
  | .call c => match c.callee, c.args.toList with
    | .builtin .len, [x] => lenK P c.argTypes (opK x)
    | .builtin .append, [s, x] => appendK P c.argTypes (opK s) (opK x)
    | .builtin .min, [x, y] => some (minK (opK x) (opK y))
    | .builtin .max, [x, y] => some (maxK (opK x) (opK y))
    | _, _ => none
  | _ => none) none
end Go.Proofs.Ytedpbkpeofaibaa
