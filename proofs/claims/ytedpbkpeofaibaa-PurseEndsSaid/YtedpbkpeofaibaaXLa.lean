/- A program's code, reckoned on the shadow: what is done, step by step, each with what is to be done behind it. Definitions alone. -/
import Derived.Test.YtedpbkpeofaibaaXJ
import Derived.Test.YtedpbkpeofaibaaXK
import Derived.RangeFuncRecord
namespace Go.Proofs.Ytedpbkpeofaibaa
open Go Go.RowKit
set_option linter.unusedSimpArgs false
set_option linter.unusedVariables false
/-- How code is left. -/
inductive SE where
  | normal
  | exit (id : Nat)
  | ret
def SE.ex : SE → Exit
  | .normal => .normal
  | .exit id => .exit id
  | .ret => .ret
def SE.jump : SE → Option Code
  | .normal => none
  | .exit id => some (.exit id)
  | .ret => some .ret
/-- The answer of a whole run. -/
abbrev An := Option Value
abbrev KE := SE → Fr → List Nat → SH → An
abbrev KF := Fr → SH → An
abbrev KV := Value → SH → An
abbrev Rec := Option Nat → List Nat → Code → Fr → List Nat → SH → KE → An
noncomputable def putS (ts : Fr) (dst : Option Tmp) (v : Value) : Fr := match dst with
  | some d => ts.set d v
  | none => ts
noncomputable def boolOf (v : Value) : Option Bool := match v with
  | .bool b => some b
  | _ => none
noncomputable def yieldedS (ops : Array Oper) (ts : Fr) (j : Nat) : Option Bool := match ops[j]? with
  | some o => match o.dst with
    | some d => boolOf (ts.get d)
    | none => none
  | none => none
noncomputable def SH.del (h : SH) (j : Nat) : SH := SH.rec (motive := fun _ => SH) (fun n t k => ⟨n, t.set j none, k⟩) h
theorem SH.del_eq (h : SH) (j : Nat) : h.del j = { h with tr := h.tr.set j none } := rfl
noncomputable def shutMarks (frz : List Nat) : List Nat → SH → Option SH
  | [], h => some h
  | m :: ms, h => match h.tr.get m with
    | some .mark => cond (frzOk h frz (2 * m + 1)) (shutMarks frz ms (h.del m)) none
    | _ => none
noncomputable def sRes (P : Program) (G : Gl) (h : SH) (ts : Fr) : List ResultVar → Option (List Value)
  | [] => some []
  | .tmp t :: rs => match sRes P G h ts rs with
    | some l => some (ts.get t :: l)
    | none => none
  | .cell a t :: rs => match sLoad P G h.tr.get t (ts.get a), sRes P G h ts rs with
    | some v, some l => some (v :: l)
    | _, _ => none
noncomputable def sResults (P : Program) (G : Gl) (h : SH) (rs : List ResultVar) (ts : Fr) : Option Value := match sRes P G h ts rs with
  | some [v] => some v
  | some l => some (.tuple l.toArray)
  | none => none
/-- What is so of a function. -/
structure FInfo where
  ok : Bool
  n : Nat
  body : Code
  res : List ResultVar
noncomputable def finfo (P : Program) (g : FuncId) : FInfo := match P.funcs[g]? with
  | some fn => match fn.body, pureOut P (callFunc g #[]) with
    | some c, some (.enter _ _) => ⟨Nat.ble fn.ntmps 512, fn.ntmps, c, fn.results.toList⟩
    | _, _ => ⟨false, 0, .skip, []⟩
  | none => ⟨false, 0, .skip, []⟩
noncomputable def endCall (P : Program) (G : Gl) (frz : List Nat) (rs : List ResultVar) (ts : Fr) (ds : List Nat) (h : SH) (k : KV) : An := match shutMarks frz ds h with
  | some h2 => match sResults P G h2 rs ts with
    | some v => k v h2
    | none => none
  | none => none
/-- A call. -/
noncomputable def callF (P : Program) (G : Gl) (rc : Rec) (frz : List Nat) (fi : FInfo) (args : List Value) (h : SH) (k : KV) : An :=
  cond (fi.ok && Nat.ble args.length fi.n) (rc none frz fi.body (Fr.of fi.n args) [] h fun e ts ds h1 => match e with
    | .exit _ => none
    | _ => endCall P G frz fi.res ts ds h1 k) none
def isReady : LoopState → Bool
  | .ready => true
  | _ => false
def isBusy : LoopState → Bool
  | .busy => true
  | _ => false
noncomputable def roundEnd (frz : List Nat) (l : Nat) (e : SE) (ds : List Nat) (h3 : SH) (k : KV) : An := match ds with
  | [] => match h3.tr.get l with
    | some (.loop r3 tl3) => cond (frzOk h3 frz (2 * l + 1)) (k (.bool e.jump.isNone) (h3.put l (.loop { r3 with state := cond e.jump.isNone .ready .done, pending := e.jump } tl3))) none
    | _ => none
  | _ :: _ => none
noncomputable def roundMid (rc : Rec) (frz : List Nat) (l : Nat) (body : Code) (e : SE) (ts1 : Fr) (ds : List Nat) (h1 : SH) (k : KV) : An := match e, ds with
  | .normal, [] => match h1.tr.get l with
    | some (.loop r1 tl1) => cond (isReady r1.state && frzOk h1 frz (2 * l + 1)) (rc (some l) frz body ts1 [] (h1.put l (.loop { r1 with state := .busy } tl1)) fun e _ ds h3 => roundEnd frz l e ds h3 k) none
    | _ => none
  | _, _ => none
/-- A round of a range over a function. -/
noncomputable def roundF (rc : Rec) (frz : List Nat) (l : Nat) (args : List Value) (h : SH) (k : KV) : An := match h.tr.get l with
  | some (.loop r tl) => cond (Nat.beq args.length r.params.size) (rc (some l) frz r.assign ((r.params.toList.zip args).foldl (fun t x => t.set x.1 x.2) tl) [] h fun e ts1 ds h1 => roundMid rc frz l r.body e ts1 ds h1 k) none
  | _ => none
noncomputable def fin (o : Oper) (ts : Fr) : Option (Value × SH) → Option (Fr × SH)
  | some (v, h) => some (putS ts o.dst v, h)
  | none => none
noncomputable def fin0 (o : Oper) (ts : Fr) : Option SH → Option (Fr × SH)
  | some h => some (putS ts o.dst undef, h)
  | none => none
def notDefer (o : Oper) : Bool := match o.op with
  | .defer _ => false
  | _ => true
/-- The function of a method that an interface's value bears, where it is its type's own. -/
def sInvoke (P : Program) (t : TypeId) (name : String) : Option FuncId := match P.info? t, P.underlying t with
  | some i, some d => match i.methods.find? (·.name == name) with
    | some m => match m.path.toList, m.func, d with
      | _, _, .pointer _ => none
      | [], some (f, false), _ => some f
      | _, _, _ => none
    | none => none
  | _, _ => none
/-- It makes memory, and changes none. -/
def makerB (o : Oper) : Bool := match o.op with
  | .alloc _ | .box .. | .buildSlice .. | .makeSlice .. | .makeMap _ none => true
  | _ => false
def makerAt (ops : Array Oper) (i : Nat) : Bool := match ops[i]? with
  | some o => makerB o
  | none => false
/-- An operation that makes no call. -/
noncomputable def stepOp (P : Program) (G : Gl) (frz : List Nat) (o : Oper) (ts : Fr) (h : SH) : Option (Fr × SH) := cond (notDefer o && o.op.operands.toList.all constOk) (match o.op with
  | .alloc t => fin o ts (sAlloc P h frz t)
  | .box t x => fin o ts (sBox P h frz t (opnd ts x))
  | .buildSlice t n ps => fin o ts (sBuildSlice P h frz t n (ps.toList.map fun p => (p.1, opnd ts p.2)))
  | .makeSlice t l c => fin o ts (sMakeSlice P h frz t (opnd ts l) (opnd ts c))
  | .makeMap _ none => fin o ts (sMakeMap h frz)
  | .store t a x => fin0 o ts (sStore P h frz t (opnd ts a) (opnd ts x))
  | .mapUpdate t m k x => fin0 o ts (sMapUpdate P h frz t (opnd ts m) (opnd ts k) (opnd ts x))
  | .insert t m k x => fin0 o ts (sMapUpdate P h frz t (opnd ts m) (opnd ts k) (opnd ts x))
  | .call c => match c.callee, c.args.toList with
    | .builtin .append, [s, x] => match sAppend P h frz c.argTypes (opnd ts s) (opnd ts x) with
      | some r => fin o ts (some r)
      | none => fin o ts (sZeros P h frz c.argTypes (opnd ts s) (opnd ts x))
    | .builtin .copy, [d, s] => fin o ts (sCopy P h frz c.argTypes (opnd ts d) (opnd ts s))
    | .builtin .clear, [x] => fin o ts (sClear P h frz c.argTypes (opnd ts x))
    | _, _ => match pureOp P G h.tr.get (opnd ts) o with
      | some v => some (putS ts o.dst v, h)
      | none => none
  | _ => match pureOp P G h.tr.get (opnd ts) o with
    | some v => some (putS ts o.dst v, h)
    | none => none) none
/-- A call whose end is known: the function, its arguments, the rows that they reach (numbered as they come up), and what it comes to: a value without addresses, or one whose addresses are all in one new row, which holds none; it changes nothing. -/
structure Ent where
  g : FuncId
  args : List Value
  mem : List (TypeId × List Value)
  v : Value
  res : Option (TypeId × List Value)
/-- A value whose addresses are in the block n. -/
def renB (n : Nat) : Nat → Value → Value
  | 0, v => v
  | d + 1, v => match v with
    | .slice (some a) k c => .slice (some ⟨n, a.off, a.spot⟩) k c
    | .agg cs => .agg ⟨cs.toList.map (renB n d)⟩
    | .tuple cs => .tuple ⟨cs.toList.map (renB n d)⟩
    | _ => v
/-- Calls whose end is known: those without arguments, and others; s: each other call is left open: whatever is so of it. -/
class Orc where
  t : List (FuncId × Value)
  e : List Ent
  s : Bool
  z : Nat
/-- How a memory has gone on. -/
structure Post (P : Program) (N : Lim) (G : Gl) (μ : Mu) (frz : List Nat) (w : World) (h' : SH) (μ' : Mu) (w' : World) : Prop where
  le : μ.le μ'
  den : Den P N G μ' h' w'
  bel : Bel N w w'
  kp : Keep μ frz w w'
/-- A call has come to a value. -/
def CallP (P : Program) (N : Lim) (G : Gl) (μ : Mu) (frz : List Nat) (w : World) (h' : SH) (v : Value) (e : Ending) (w' : World) : Prop :=
  ∃ μ' v', e = .returned v' ∧ Post P N G μ frz w h' μ' w' ∧ Rel μ' v v'
/-- A call comes to a value. -/
def CallR (P : Program) (G : Gl) (frz : List Nat) (g : FuncId) (args : List Value) (h : SH) (v : Value) (h' : SH) : Prop :=
  (∀ (args' : Array Value) (W : World), (callFunc g args').run P W = .ok (.enter g args') W) ∧
  ∀ (N : Lim) (μ : Mu) (w : World) (args' : Array Value), Den P N G μ h w → RelL μ args args'.toList → CallsIn Fence.wide 0 P g args' w (CallP P N G μ frz w h' v)
open Classical in
/-- A call that is left open: it comes to what it comes to. -/
noncomputable def callI (P : Program) (G : Gl) (frz : List Nat) (g : FuncId) (args : List Value) (h : SH) (k : KV) : An := if ∃ v h', k v h' = some (.bool true) ∧ CallR P G frz g args h v h' then some (.bool true) else none
/-- The blocks that a value reaches at once. -/
def blocksV : Nat → Value → List Nat
  | 0, _ => []
  | d + 1, v => match v with
    | .pointer (some a) => [a.block]
    | .slice (some a) _ _ => [a.block]
    | .agg cs => cs.toList.flatMap (blocksV d)
    | .func _ a b => a.toList.flatMap (blocksV d) ++ b.toList.flatMap (blocksV d)
    | _ => []
def addNew : List Nat → List Nat → List Nat
  | js, [] => js
  | js, j :: l => cond (js.any fun k => Nat.beq k j) (addNew js l) (addNew (js ++ [j]) l)
noncomputable def rowAt (h : SH) (j : Nat) : List Value := rowR' (h.tr.get j)
where rowR' (x : Option SB) : List Value := match x with
  | some (.row _ cs _) => cs
  | _ => []
noncomputable def reachJ (h : SH) : Nat → List Nat → List Nat → List Nat
  | 0, _, js => js
  | n + 1, i, js => match i with
    | [] => js
    | j :: rest => (fun js2 => reachJ h n (rest ++ js2.drop js.length) js2) (addNew js ((rowAt h j).flatMap (blocksV 6)))
noncomputable def reachA (h : SH) (args : List Value) : List Nat := (fun js => reachJ h 24 js js) (addNew [] (args.flatMap (blocksV 6)))
def nthO : List Nat → Nat → Option Nat
  | [], _ => none
  | j :: _, 0 => some j
  | _ :: l, n + 1 => nthO l n
def isAt (js : List Nat) (k j : Nat) : Bool := match nthO js k with
  | some i => Nat.beq i j
  | none => false
def all2 {α β : Type} (f : α → β → Bool) : List α → List β → Bool
  | [], [] => true
  | x :: l, y :: k => f x y && all2 f l k
  | _, _ => false
def spot0 : Option Nat → Bool
  | some 0 => true
  | _ => false
def spot1 : Option Nat → Bool
  | some 1 => true
  | _ => false
/-- A value is another one, but for the numbers of blocks. -/
def simV (js : List Nat) : Nat → Value → Value → Bool
  | 0, _, _ => false
  | d + 1, v, v' => match v, v' with
    | .int k n, .int k' n' => decide (k = k') && decide (n = n')
    | .bool b, .bool b' => decide (b = b')
    | .string s, .string s' => decide (s = s')
    | .slice none n c, .slice none n' c' => Nat.beq n 0 && Nat.beq c 0 && Nat.beq n' 0 && Nat.beq c' 0
    | .pointer none, .pointer none => true
    | .slice (some a) n c, .slice (some a') n' c' => Nat.beq a.off a'.off && Nat.beq n n' && isAt js a.block a'.block && ((spot0 a.spot && spot0 a'.spot && Nat.beq c c') || (spot1 a.spot && spot1 a'.spot && Nat.beq a.off 0))
    | .pointer (some a), .pointer (some a') => spot0 a.spot && spot0 a'.spot && Nat.beq a.off a'.off && isAt js a.block a'.block
    | .agg cs, .agg cs' => all2 (simV js d) cs.toList cs'.toList
    | .func (.func f) a b, .func (.func f') a' b' => Nat.beq f f' && all2 (simV js d) a.toList a'.toList && all2 (simV js d) b.toList b'.toList
    | _, _ => false
noncomputable def rowsOk (h : SH) (js : List Nat) : List (TypeId × List Value) → List Nat → List Nat → Bool
  | [], [], _ => true
  | r :: rs, j :: l, fs => match h.tr.get j with
    | some (.row t cs f) => decide (t = r.1) && all2 (simV js 6) r.2 cs && (fs.all fun k => !(Nat.beq k f)) && rowsOk h js rs l (f :: fs)
    | _ => false
  | _, _, _ => false
noncomputable def entOk (x : Ent) (args : List Value) (h : SH) : Bool := (fun js => all2 (simV js 6) x.args args && rowsOk h js x.mem js []) (reachA h args)
noncomputable def endE (h : SH) (x : Ent) (yes : Value → SH → An) : An := match x.res with
  | none => yes x.v h
  | some r => yes (renB h.next 4 x.v) (h.push (.row r.1 r.2 h.next))
noncomputable def entF (g : FuncId) (args : List Value) (h : SH) (l : List Ent) (yes : Value → SH → An) (no : An) : An := List.rec (motive := fun _ => An) no (fun x _ ih => Bool.rec (motive := fun _ => An) ih (Bool.rec (motive := fun _ => An) ih (endE h x yes) (entOk x args h)) (Nat.beq x.g g)) l
noncomputable def orcF (g : FuncId) (l : List (FuncId × Value)) (yes : Value → An) (no : An) : An := List.rec (motive := fun _ => An) no (fun x _ ih => Bool.rec (motive := fun _ => An) ih (yes x.2) (Nat.beq x.1 g)) l
noncomputable def emp {α : Type} (l : List α) (yes no : An) : An := List.rec (motive := fun _ => An) yes (fun _ _ _ => no) l
noncomputable def callA [Orc] (P : Program) (G : Gl) (rc : Rec) (frz : List Nat) (g : FuncId) (args : List Value) (h : SH) (k : KV) : An := cond Orc.s (callI P G frz g args h k) (callF P G rc frz (finfo P g) args h k)
/-- What is called, and how it goes on. -/
noncomputable def callV [Orc] (P : Program) (G : Gl) (rc : Rec) (frz : List Nat) (f : Value) (args : List Value) (h : SH) (k : KV) : An := match f with
  | .func (.func g) first captured => (fun c => emp captured.toList (emp first.toList ((fun c2 => emp args (orcF g Orc.t (fun v => cond (frzLive h frz) (k v h) none) c2) c2) (entF g args h Orc.e (fun v h' => cond (frzLive h frz) (k v h') none) c)) c) c) (callA P G rc frz g (first.toList ++ args ++ captured.toList) h k)
  | .func (.yield l) _ _ => roundF rc frz l args h k
  | _ => none
noncomputable def callM [Orc] (P : Program) (G : Gl) (rc : Rec) (frz : List Nat) (r : Value) (name : String) (args : List Value) (h : SH) (k : KV) : An := match r with
  | .iface t v => match sInvoke P t name with
    | some g => callA P G rc frz g (v :: args) h k
    | none => none
  | _ => none
/-- An operation. -/
structure OK where
  run : Rec → List Nat → Fr → SH → KF → An
noncomputable def opK : Operand → GK
  | .tmp t => gk t
  | .const v => ⟨fun _ => v⟩
  | .global g => ⟨fun _ => .pointer (some ⟨g, 0, none⟩)⟩
  | .func f => ⟨fun _ => .func (.func f) #[] #[]⟩
noncomputable def dstK : Option Tmp → SK
  | some d => sk d
  | none => ⟨fun F _ => F⟩
noncomputable def slowW (P : Program) (G : Gl) (o : Oper) : OK := ⟨fun _ frz ts h k => match stepOp P G frz o ts h with
  | some (ts', h') => k ts' h'
  | none => none⟩
/-- A value is looked at before one goes on. -/
noncomputable def forceV {α : Type} (v : Value) (f : Value → α) : α := @Value.rec (fun _ => α) (fun _ => α) (fun _ => α) (fun b => f (.bool b)) (fun k n => f (.int k n)) (fun k b => f (.float k b)) (fun k a b => f (.complex k a b)) (fun s => f (.string s)) (fun a => f (.pointer a)) (fun a n c => f (.slice a n c)) (fun r => f (.map r)) (fun r => f (.chan r)) (fun g a b _ _ => f (.func g a b)) (f .nilFunc) (fun t x _ => f (.iface t x)) (f .nilIface) (fun cs _ => f (.agg cs)) (fun vs _ => f (.tuple vs)) (fun _ x => x) (f .nilFunc) (fun _ _ _ x => x) v
theorem forceV_eq {α : Type} (v : Value) (f : Value → α) : forceV v f = f v := by cases v <;> rfl
/-- A frame in which a slot is written, laid out anew. -/
noncomputable def set8C {α β : Type} (j : Nat) (o : O8 α) (upd : α → (α → β) → β) (k : O8 α → β) : β := O8.rec (motive := fun _ => β) (fun a b c d e f g h => match j with
  | 0 => upd a fun a => k ⟨a, b, c, d, e, f, g, h⟩
  | 1 => upd b fun b => k ⟨a, b, c, d, e, f, g, h⟩
  | 2 => upd c fun c => k ⟨a, b, c, d, e, f, g, h⟩
  | 3 => upd d fun d => k ⟨a, b, c, d, e, f, g, h⟩
  | 4 => upd e fun e => k ⟨a, b, c, d, e, f, g, h⟩
  | 5 => upd f fun f => k ⟨a, b, c, d, e, f, g, h⟩
  | 6 => upd g fun g => k ⟨a, b, c, d, e, f, g, h⟩
  | _ => upd h fun h => k ⟨a, b, c, d, e, f, g, h⟩) o
theorem set8C_eq {α β : Type} (j : Nat) (o : O8 α) (u : α → α) (upd : α → (α → β) → β) (hu : ∀ a k, upd a k = k (u a)) (k : O8 α → β) : set8C j o upd k = k (set8 j o (u (get8 j o))) := by
  cases o
  match j with
  | 0 => exact hu _ _
  | 1 => exact hu _ _
  | 2 => exact hu _ _
  | 3 => exact hu _ _
  | 4 => exact hu _ _
  | 5 => exact hu _ _
  | 6 => exact hu _ _
  | j + 7 => exact hu _ _
noncomputable def setC {β : Type} (i : Nat) (F : Fr) (v : Value) (k : Fr → β) : β := Fr.rec (motive := fun _ => β) (fun n x => cond (Nat.blt i 512 && Nat.blt i n) (set8C (i / 64 % 8) x (fun p kp => set8C (i / 8 % 8) p (fun q kq => set8C (i % 8) q (fun _ kv => kv v) kq) kp) (fun x' => k ⟨n, x'⟩)) (k ⟨n, x⟩)) F
theorem setC_eq {β : Type} (i : Nat) (F : Fr) (v : Value) (k : Fr → β) : setC i F v k = k (F.set i v) := by
  unfold Fr.set
  rw [sk_run]
  cases F with
  | mk n x =>
    unfold setC
    simp only
    cases hb : (Nat.blt i 512 && Nat.blt i n) with
    | false =>
      rw [cond_false, if_neg (fun e => by rw [Bool.and_eq_false_iff] at hb; rcases hb with h | h <;> (rw [← Bool.not_eq_true, Nat.blt_eq] at h; omega))]
    | true =>
      rw [Bool.and_eq_true, Nat.blt_eq, Nat.blt_eq] at hb
      rw [cond_true, if_pos hb, set8C_eq _ _ (fun p => set8 (i / 8 % 8) p (set8 (i % 8) (get8 (i / 8 % 8) p) v)) _ (fun p kp => ?_)]
      · rfl
      · rw [set8C_eq _ _ (fun q => set8 (i % 8) q v) _ (fun q kq => ?_)]
        rw [set8C_eq _ _ (fun _ => v) _ (fun _ _ => rfl)]
noncomputable def dstC [Orc] {β : Type} (d : Option Tmp) (ts : Fr) (v : Value) (k : Fr → β) : β := cond Orc.s (match d with
  | some i => setC i ts v k
  | none => k ts) (k ((dstK d).run ts v))
theorem dstC_eq [Orc] {β : Type} (d : Option Tmp) (ts : Fr) (v : Value) (k : Fr → β) : dstC d ts v k = k ((dstK d).run ts v) := by
  unfold dstC
  cases h : Orc.s with
  | false => rfl
  | true =>
    cases d with
    | none => rfl
    | some i => exact setC_eq i ts v k
noncomputable def moveW [Orc] (x : Operand) (d : Option Tmp) : OK := cond (constOk x) ⟨fun _ _ ts h k => forceV ((opK x).run ts) fun v => dstC d ts v fun ts => k ts h⟩ ⟨fun _ _ _ _ _ => none⟩
end Go.Proofs.Ytedpbkpeofaibaa
