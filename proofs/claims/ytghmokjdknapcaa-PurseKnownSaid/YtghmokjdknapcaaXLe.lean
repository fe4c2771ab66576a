/- The fast ways together. Definitions alone. -/
import Derived.Test.YtghmokjdknapcaaXLd
namespace Go.Proofs.Ytghmokjdknapcaa
open Go Go.RowKit
noncomputable def segsOf (place : Nat → Option (Nat × Nat)) : List (Nat × Operand) → Option (List Seg)
  | [] => some []
  | (i, x) :: ps => match place i, segsOf place ps with
    | some (off, size), some l => some ((off, size, opK x) :: l)
    | _, _ => none
noncomputable def buildK (P : Program) (t : TypeId) (parts : List (Nat × Operand)) : Option HK := match P.info? t, P.underlying t with
  | some it, some (.struct fields) => match it.zero, fields.toList.mapM (fun f => (P.info? f.type).map fun i => (f.offset, i.size)) with
    | some z, some places => match segsOf (places.toArray[·]?) parts with
      | some segs => cond (z.cells.toList.all (gr 6) && segOk z.cells.toList.length 0 segs) (some ⟨fun _ ts h yes no => (outK z.cells.toList 0 segs).run ts (fun l => yes (.agg ⟨l⟩) h) no⟩) none
      | none => none
    | _, _ => none
  | _, _ => none
noncomputable def buildSliceK (P : Program) (t : TypeId) (len : Nat) (parts : List (Nat × Operand)) : Option HK := match P.underlying t with
  | some (.slice e) => match P.info? e with
    | some i => match i.zero with
      | some z => match segsOf (fun k => some (k * i.size, i.size)) parts with
        | some segs => cond (z.cells.toList.all (gr 6) && Nat.ble (len * i.size) 65536 && (Nat.blt 0 i.size) && Nat.beq z.cells.size i.size && segOk (madeCells z.cells (len * i.size)).toList.length 0 segs)
          (some ⟨fun frz ts h yes no => nilR frz ((outK (madeCells z.cells (len * i.size)).toList 0 segs).run ts (fun l => forceN h.next fun n => yes (.slice (some ⟨n, 0, some 0⟩) len len) (h.push (.row e l n))) no) no⟩) none
        | none => none
      | none => none
    | none => none
  | _ => none
noncomputable def boxK (P : Program) (t : TypeId) (gx : GK) : Option HK := match P.info? t with
  | some i => some ⟨fun frz ts h yes no => nilR frz (cellsC (gx.run ts) i.size (fun l => forceN h.next fun n => yes (.pointer (some ⟨n, 0, some 0⟩)) (h.push (.row t l n))) no) no⟩
  | none => none
noncomputable def allOne (l : List Value) : Bool := List.rec (motive := fun _ => Bool) true (fun v _ ih => vAgg v false ih) l
noncomputable def storeAK (P : Program) (t : TypeId) (ga gx : GK) : Option HK := match P.info? t with
  | some i => some ⟨fun frz ts h yes no => nilR frz (vPtr (ga.run ts) (fun b o s => oR s no fun s => bR (Nat.beq s 0) (rowR (h.tr.get b) (fun ty cs f => cellsC (gx.run ts) i.size (fun l => bR (allOne l) (bR (Nat.ble (Nat.add o i.size) (lenR cs)) (yes undef (h.put b (.row ty (appR (cs.take o) (appR l (cs.drop (Nat.add o i.size)))) f))) no) no) no) no) no) no) no⟩
  | none => none
noncomputable def notK (gx : GK) : HK := ⟨fun _ ts h yes no => vBool (gx.run ts) (fun b => bR b (yes (.bool false) h) (yes (.bool true) h)) no⟩
noncomputable def minK (gx gy : GK) : HK := bin2 gx gy fun a b yes => bR (ltI b a) (yes (.int .i64 b)) (yes (.int .i64 a))
noncomputable def maxK (gx gy : GK) : HK := bin2 gx gy fun a b yes => bR (ltI a b) (yes (.int .i64 b)) (yes (.int .i64 a))
noncomputable def vTup {α : Type} (v : Value) (yes : List Value → α) (no : α) : α := @Value.rec (fun _ => α) (fun _ => α) (fun _ => α) (fun _ => no) (fun _ _ => no) (fun _ _ => no) (fun _ _ _ => no) (fun _ => no) (fun _ => no) (fun _ _ _ => no) (fun _ => no) (fun _ => no) (fun _ _ _ _ _ => no) no (fun _ _ _ => no) no (fun _ _ => no) (fun vs _ => yes vs.toList) (fun _ _ => no) no (fun _ _ _ _ => no) v
noncomputable def extractK (gx : GK) (i : Nat) : HK := ⟨fun _ ts h yes no => vTup (gx.run ts) (fun l => getC l (fun v => yes v h) no i) no⟩
noncomputable def listK : List Operand → Fr → List Value
  | [], _ => []
  | x :: l, ts => (opK x).run ts :: listK l ts
noncomputable def makeFuncK (f : FuncId) (first captured : List Operand) : HK := ⟨fun _ ts h yes _ => yes (.func (.func f) ⟨listK first ts⟩ ⟨listK captured ts⟩) h⟩
noncomputable def fastK (P : Program) (o : Oper) : Option HK := cond (o.op.operands.toList.all constOk) (match o.op with
  | .binOp op _ x y _ => binK op (opK x) (opK y)
  | .pick c a b => some (pickK (opK c) (opK a) (opK b))
  | .load t a => loadK P t (opK a)
  | .fieldAddr s x f => fieldK P s f (opK x)
  | .indexAddr t x i => indexK P t (opK x) (opK i)
  | .store t a x => match storeK P t (opK a) (opK x) with
    | some p => some p
    | none => storeAK P t (opK a) (opK x)
  | .box t x => boxK P t (opK x)
  | .alloc t => allocK P t
  | .unOp .not _ x => some (notK (opK x))
  | .extract x i => some (extractK (opK x) i)
  | .makeFunc (.func f) first captured => some (makeFuncK f first.toList captured.toList)
  | .build t parts => buildK P t parts.toList
  | .buildSlice t n parts => buildSliceK P t n parts.toList
  | .call c => match c.callee, c.args.toList with
    | .builtin .len, [x] => lenK P c.argTypes (opK x)
    | .builtin .min, [x, y] => some (minK (opK x) (opK y))
    | .builtin .max, [x, y] => some (maxK (opK x) (opK y))
    | _, _ => none
  | _ => none) none
end Go.Proofs.Ytghmokjdknapcaa
