/- The fast ways are right. Over any program. Conditions: as each law says. -/
import Derived.Test.YtedpbkpeofaibaaXLe
namespace Go.Proofs.Ytedpbkpeofaibaa
open Go Go.RowKit
set_option linter.unusedSimpArgs false
set_option linter.unusedVariables false
section
variable {P : Program} {G : Gl} {o : Oper} {p : HK}
theorem oR_eq {α β : Type} (x : Option β) (no : α) (yes : β → α) : oR x no yes = match x with
  | some v => yes v
  | none => no := by cases x <;> rfl
theorem nilR_eq {α β : Type} (l : List β) (yes no : α) : nilR l yes no = match l with
  | [] => yes
  | _ :: _ => no := by cases l <;> rfl
theorem natC_eq [Orc] {α : Type} (v : Value) (yes : Nat → α) (no : α) : natC v yes no = match natV v with
  | some n => yes n
  | none => no := by
  unfold natC
  rw [vInt_eq]
  cases v with
  | int k i => simp only [iR_eq]; cases i <;> rfl
  | _ => rfl
/-- A result that leaves memory as it is. -/
theorem pureW_step {frz : List Nat} {ts : Fr} {h : SH} {v : Value} (hc : o.op.operands.toList.all constOk = true) (hk : ∀ (X : Option (Fr × SH)), (match pureOp P G h.tr.get (opnd ts) o with
      | some v => some (putS ts o.dst v, h)
      | none => none) = X → stepOp P G frz o ts h = cond (notDefer o && o.op.operands.toList.all constOk) X none) (hd : notDefer o = true) (hp : pureOp P G h.tr.get (opnd ts) o = some v) : stepOp P G frz o ts h = some (putS ts o.dst v, h) := by
  rw [hk (some (putS ts o.dst v, h)) (by rw [hp]), hd, hc]; rfl
theorem pick_ok [Orc] {c a b : Operand} (ho : o.op = .pick c a b) (hc : o.op.operands.toList.all constOk = true) : HKok P G o (pickK (opK c) (opK a) (opK b)) := by
  intro frz ts h yes no r e
  unfold pickK at e
  simp only [vBool_eq, bR_eq, opK_run] at e
  split at e
  · rename_i t ht
    have fin : ∀ v, (cond t (opnd ts a) (opnd ts b)) = v → stepOp P G frz o ts h = some (putS ts o.dst v, h) := fun v hv =>
      pureW_step hc (fun X hX => by unfold stepOp; simp only [ho]; rw [← hX]; rfl) (by simp [notDefer, ho]) (by simp only [pureOp, ho, ht, hv])
    cases t with
    | true => exact .inl ⟨_, _, e, fin _ rfl⟩
    | false => exact .inl ⟨_, _, e, fin _ rfl⟩
  · exact .inr e
theorem binOp_ok [Orc] {op : BinOp} {t : TypeId} {x y : Operand} {yt : TypeId} (ho : o.op = .binOp op t x y yt) (hc : o.op.operands.toList.all constOk = true) (hp : binK op (opK x) (opK y) = some p) : HKok P G o p := by
  intro frz ts h yes no r e
  rcases binK_ok hp e with ⟨a, b, v, hx, hy, hv, hk⟩ | hk
  · rw [opK_run] at hx hy
    exact .inl ⟨v, h, hk, pureW_step hc (fun X hX => by unfold stepOp; simp only [ho]; rw [← hX]; rfl) (by simp [notDefer, ho]) (bin_pure ho hx hy hv)⟩
  · exact .inr hk
theorem eqFsC_ok [Orc] {rec : EqC} {recB : TypeId → Value → Value → Option Bool} {no : An} {r : Value} (hr : ∀ t a b yes, rec t a b yes no = some r → (∃ q, recB t a b = some q ∧ yes q = some r) ∨ no = some r) {xs ys : List Value} {yes : Bool → An} :
    ∀ fs : List Field, eqFsC rec P xs ys yes no fs = some r → (∃ q, eqFsB recB P xs ys fs = some q ∧ yes q = some r) ∨ no = some r
  | [], e => .inl ⟨true, rfl, e⟩
  | f :: fs, e => by
    have e : bR (f.name == "_") (eqFsC rec P xs ys yes no fs) (oR (readAt P f.type xs f.offset) no fun a => oR (readAt P f.type ys f.offset) no fun b => rec f.type a b (fun q => bR q (eqFsC rec P xs ys yes no fs) (yes false)) no) = some r := e
    simp only [bR_eq, oR_eq] at e
    cases hn : (f.name == "_") with
    | true =>
      rw [hn, if_pos rfl] at e
      rcases eqFsC_ok hr fs e with ⟨q, h1, h2⟩ | h
      · exact .inl ⟨q, by simp only [eqFsB, hn]; exact h1, h2⟩
      · exact .inr h
    | false =>
      rw [hn, if_neg (by simp)] at e
      cases ha : readAt P f.type xs f.offset with
      | none => rw [ha] at e; exact .inr e
      | some a =>
        rw [ha] at e
        simp only at e
        cases hb : readAt P f.type ys f.offset with
        | none => rw [hb] at e; exact .inr e
        | some b =>
          rw [hb] at e
          simp only at e
          rcases hr _ _ _ _ e with ⟨q, h1, h2⟩ | h
          · cases q with
            | true =>
              rw [if_pos rfl] at h2
              rcases eqFsC_ok hr fs h2 with ⟨q, h3, h4⟩ | h
              · exact .inl ⟨q, by simp only [eqFsB, hn, ha, hb, h1]; exact h3, h4⟩
              · exact .inr h
            | false => exact .inl ⟨false, by simp only [eqFsB, hn, ha, hb, h1], by simpa using h2⟩
          · exact .inr h
theorem eqEsC_ok [Orc] {rec : EqC} {recB : TypeId → Value → Value → Option Bool} {no : An} {r : Value} (hr : ∀ t a b yes, rec t a b yes no = some r → (∃ q, recB t a b = some q ∧ yes q = some r) ∨ no = some r) {e : TypeId} {xs ys : List Value} {yes : Bool → An} :
    ∀ is : List Nat, eqEsC rec P e xs ys yes no is = some r → (∃ q, eqEsB recB P e xs ys is = some q ∧ yes q = some r) ∨ no = some r
  | [], h => .inl ⟨true, rfl, h⟩
  | i :: is, h => by
    have h : (oR (readAt P e xs (i * P.cellsOf e)) no fun a => oR (readAt P e ys (i * P.cellsOf e)) no fun b => rec e a b (fun q => bR q (eqEsC rec P e xs ys yes no is) (yes false)) no) = some r := h
    simp only [bR_eq, oR_eq] at h
    cases ha : readAt P e xs (i * P.cellsOf e) with
    | none => rw [ha] at h; exact .inr h
    | some a =>
      rw [ha] at h
      simp only at h
      cases hb : readAt P e ys (i * P.cellsOf e) with
      | none => rw [hb] at h; exact .inr h
      | some b =>
        rw [hb] at h
        simp only at h
        rcases hr _ _ _ _ h with ⟨q, h1, h2⟩ | h
        · cases q with
          | true =>
            rw [if_pos rfl] at h2
            rcases eqEsC_ok hr is h2 with ⟨q, h3, h4⟩ | h
            · exact .inl ⟨q, by simp only [eqEsB, ha, hb, h1]; exact h3, h4⟩
            · exact .inr h
          | false => exact .inl ⟨false, by simp only [eqEsB, ha, hb, h1], by simpa using h2⟩
        · exact .inr h
theorem eqC_ok [Orc] {no : An} {r : Value} : ∀ (d : Nat) (t : TypeId) (x y : Value) (yes : Bool → An), eqC P d t x y yes no = some r → (∃ q, eqB P d t x y = some q ∧ yes q = some r) ∨ no = some r
  | 0, _, _, _, _, e => .inr e
  | d + 1, t, x, y, yes, e => by
    change (match P.underlying t with
      | some .bool => vBool x (fun a => vBool y (fun b => yes (a == b)) no) no
      | some (.int _) => vInt x (fun k a => vInt y (fun k' b => bR (decide (k = k')) (yes (eqI a b)) no) no) no
      | some .string => vStr x (fun a => vStr y (fun b => yes (a.toList == b.toList)) no) no
      | some (.struct fs) => vRow x (fun xs => vRow y (fun ys => bR (P.stoodInHeld t) no (eqFsC (eqC P d) P xs ys yes no fs.toList)) no) no
      | some (.array n e) => match P.info? e with
        | some _ => vRow x (fun xs => vRow y (fun ys => eqEsC (eqC P d) P e xs ys yes no (List.range n)) no) no
        | none => no
      | _ => no) = some r at e
    split at e
    · rename_i hu
      simp only [vBool_eq] at e
      split at e
      · rename_i a
        split at e
        · rename_i b
          exact .inl ⟨a == b, by simp only [eqB, hu], e⟩
        · exact .inr e
      · exact .inr e
    · rename_i k0 hu
      simp only [vInt_eq, bR_eq] at e
      split at e
      · rename_i k a
        split at e
        · rename_i k' b
          split at e
          · rename_i hk
            rw [eqI_eq] at e
            exact .inl ⟨a == b, by simp only [eqB, hu, hk, cond_true], e⟩
          · exact .inr e
        · exact .inr e
      · exact .inr e
    · rename_i hu
      simp only [vStr_eq] at e
      split at e
      · rename_i a
        split at e
        · rename_i b
          exact .inl ⟨a.toList == b.toList, by simp only [eqB, hu], e⟩
        · exact .inr e
      · exact .inr e
    · rename_i fs hu
      simp only [vRow_eq, bR_eq] at e
      split at e
      · split at e
        · rename_i xs _ ys
          cases hs : P.stoodInHeld t with
          | true => rw [hs, if_pos rfl] at e; exact .inr e
          | false =>
            rw [hs, if_neg (by simp)] at e
            rcases eqFsC_ok (fun t a b yes e => eqC_ok d t a b yes e) _ e with ⟨q, h1, h2⟩ | h
            · exact .inl ⟨q, by simp only [eqB, hu, hs, cond_false]; exact h1, h2⟩
            · exact .inr h
        · exact .inr e
      · exact .inr e
    · rename_i n el hu
      split at e
      · rename_i it hi
        simp only [vRow_eq] at e
        split at e
        · split at e
          · rename_i xs _ ys
            rcases eqEsC_ok (fun t a b yes e => eqC_ok d t a b yes e) _ e with ⟨q, h1, h2⟩ | h
            · exact .inl ⟨q, by simp only [eqB, hu, hi]; exact h1, h2⟩
            · exact .inr h
          · exact .inr e
        · exact .inr e
      · exact .inr e
    · exact .inr e
theorem eqAgg_ok [Orc] {op : BinOp} {t : TypeId} {x y : Operand} {yt : TypeId} (ho : o.op = .binOp op t x y yt) (hc : o.op.operands.toList.all constOk = true) (hp : eqK P op t (opK x) (opK y) = some p) : HKok P G o p := by
  intro frz ts h yes no r e
  unfold eqK at hp
  cases hg : P.eqGuardType P.depth t with
  | true =>
    split at hp
    · simp only [Option.some.injEq] at hp
      subst hp
      simp only [bR_eq, hg, cond_true] at e
      exact .inr e
    · simp only [Option.some.injEq] at hp
      subst hp
      simp only [bR_eq, hg, cond_true] at e
      exact .inr e
    · cases hp
  | false =>
    have fin : ∀ xs ys q, opnd ts x = .agg xs → opnd ts y = .agg ys → (gr 6 (.agg xs) && gr 6 (.agg ys)) = true → eqB P 6 t (.agg xs) (.agg ys) = some q → ∀ v, (op = .eql → v = .bool q) → (op = .neq → v = .bool (!q)) → (op = .eql ∨ op = .neq) → stepOp P G frz o ts h = some (putS ts o.dst v, h) := fun xs ys q hx hy h1 h2 v e1 e2 hop =>
      pureW_step hc (fun X hX => by unfold stepOp; simp only [ho]; rw [← hX]; rfl) (by simp [notDefer, ho]) (by
        unfold pureOp
        rcases hop with rfl | rfl
        · simp only [ho, hx, hy, sEqAgg, hg, h1, Bool.not_true, Bool.or_self, cond_false, h2, orElse', e1 rfl]
        · simp only [ho, hx, hy, sEqAgg, hg, h1, Bool.not_true, Bool.or_self, cond_false, h2, orElse', e2 rfl])
    split at hp
    · simp only [Option.some.injEq] at hp
      subst hp
      simp only [vRow_eq, bR_eq, forceB_eq, opK_run, hg, Bool.false_eq_true, reduceIte] at e
      split at e
      · rename_i xs hx
        split at e
        · rename_i ys hy
          split at e
          · rename_i h1
            rcases eqC_ok _ _ _ _ _ e with ⟨q, h2, h3⟩ | h3
            · exact .inl ⟨_, _, h3, fin xs ys q hx hy h1 h2 _ (fun _ => rfl) (fun e => by cases e) (.inl rfl)⟩
            · exact .inr h3
          · exact .inr e
        · exact .inr e
      · exact .inr e
    · simp only [Option.some.injEq] at hp
      subst hp
      simp only [vRow_eq, bR_eq, forceB_eq, opK_run, hg, Bool.false_eq_true, reduceIte] at e
      split at e
      · rename_i xs hx
        split at e
        · rename_i ys hy
          split at e
          · rename_i h1
            rcases eqC_ok _ _ _ _ _ e with ⟨q, h2, h3⟩ | h3
            · exact .inl ⟨_, _, h3, fin xs ys q hx hy h1 h2 _ (fun e => by cases e) (fun _ => rfl) (.inr rfl)⟩
            · exact .inr h3
          · exact .inr e
        · exact .inr e
      · exact .inr e
    · cases hp
theorem load_ok [Orc] {t : TypeId} {a : Operand} (ho : o.op = .load t a) (hc : o.op.operands.toList.all constOk = true) (hp : loadK P G t (opK a) = some p) : HKok P G o p := by
  intro frz ts h yes no r e
  have fin : ∀ v, sLoad P G h.tr.get t (opnd ts a) = some v → stepOp P G frz o ts h = some (putS ts o.dst v, h) := fun v hv =>
    pureW_step hc (fun X hX => by unfold stepOp; simp only [ho]; rw [← hX]; rfl) (by simp [notDefer, ho]) (by simp only [pureOp, ho, hv])
  have old : ∀ b of v, opnd ts a = .pointer (some ⟨b, of, none⟩) → G.l = [] → readF P G.f t b of = some v → stepOp P G frz o ts h = some (putS ts o.dst v, h) := fun b of v hv hl hr => by
    refine fin v ?_
    simp only [hv, sLoad, cellsAt, hl, List.find?_nil, hr]
  unfold loadK at hp
  split at hp
  · rename_i d i hu hi
    cases hd : d.isRow with
    | true =>
      simp only [hd, cond_true, Option.some.injEq] at hp
      subst hp
      simp only [vPtr_eq, spotR_eq, nilR_eq, bR_eq, rowR_eq, opK_run] at e
      split at e
      · rename_i b of s hv
        cases s with
        | none =>
          simp only at e
          split at e
          · rename_i hl
            rcases cellsK_ok _ _ _ e with ⟨l, h1, h2⟩ | h2
            · exact .inl ⟨_, _, h2, old b of _ hv hl (by simp only [readF, hu, hi, hd, cond_true, h1])⟩
            · exact .inr h2
          · exact .inr e
        | some s' =>
          simp only at e
          split at e
          · rename_i h0
            have h0 := Nat.eq_of_beq_eq_true h0
            subst h0
            split at e
            · rename_i ty cs f hg
              rcases rowC_ok e with ⟨hle, e⟩ | e
              · refine .inl ⟨_, _, e, fin _ ?_⟩
                simp only [hv, sLoad, cellsAt, hg, readAt, hu, hi, hd, cond_true]
                rw [Nat.ble_eq_true_of_le hle]; rfl
              · exact .inr e
            · exact .inr e
          · exact .inr e
      · exact .inr e
    | false =>
      simp only [hd, cond_false, Option.some.injEq] at hp
      subst hp
      simp only [vPtr_eq, spotR_eq, nilR_eq, bR_eq, rowR_eq, getC_eq, oldC_eq, opK_run] at e
      split at e
      · rename_i b of s hv
        cases s with
        | none =>
          simp only at e
          split at e
          · rename_i hl
            cases hf : G.f b of with
            | none => rw [hf] at e; exact .inr e
            | some v =>
              rw [hf] at e
              simp only at e
              cases hg : gr 6 v with
              | false => rw [hg] at e; exact .inr e
              | true =>
                rw [hg, cond_true] at e
                exact .inl ⟨_, _, e, old b of _ hv hl (by simp only [readF, hu, hi, hd, cond_false, hf, hg, cond_true])⟩
          · exact .inr e
        | some s' =>
          simp only at e
          split at e
          · rename_i h0
            have h0 := Nat.eq_of_beq_eq_true h0
            subst h0
            split at e
            · rename_i ty cs f hg
              split at e
              · rename_i v hcell
                refine .inl ⟨_, _, e, fin _ ?_⟩
                simp only [hv, sLoad, cellsAt, hg, readAt, hu, hi, hd, cond_false, hcell]
              · exact .inr e
            · exact .inr e
          · exact .inr e
      · exact .inr e
  · cases hp
theorem field_ok [Orc] {s : TypeId} {x : Operand} {f : Nat} (ho : o.op = .fieldAddr s x f) (hc : o.op.operands.toList.all constOk = true) (hp : fieldK P s f (opK x) = some p) : HKok P G o p := by
  intro frz ts h yes no r e
  have fin : ∀ v, sField P s f (opnd ts x) = some v → stepOp P G frz o ts h = some (putS ts o.dst v, h) := fun v hv =>
    pureW_step hc (fun X hX => by unfold stepOp; simp only [ho]; rw [← hX]; rfl) (by simp [notDefer, ho]) (by simp only [pureOp, ho, hv])
  unfold fieldK at hp
  split at hp
  · rename_i fs hu
    split at hp
    · rename_i fd hf
      split at hp
      · rename_i i hi
        cases hz : Nat.beq i.size 0 with
        | true => rw [hz] at hp; cases hp
        | false =>
          simp only [hz, cond_false, Option.some.injEq] at hp
          subst hp
          simp only [vPtr_eq, forceN_eq, opK_run] at e
          split at e
          · rename_i b of sp hv
            refine .inl ⟨_, _, e, fin _ ?_⟩
            simp only [hv, sField, hu, hf, hi, hz, cond_false]; rfl
          · exact .inr e
      · cases hp
    · cases hp
  · cases hp
theorem index_ok [Orc] {t : TypeId} {x i : Operand} (ho : o.op = .indexAddr t x i) (hc : o.op.operands.toList.all constOk = true) (hp : indexK P t (opK x) (opK i) = some p) : HKok P G o p := by
  intro frz ts h yes no r e
  have fin : ∀ v, sIndexA P t (opnd ts x) (opnd ts i) = some v → stepOp P G frz o ts h = some (putS ts o.dst v, h) := fun v hv =>
    pureW_step hc (fun X hX => by unfold stepOp; simp only [ho]; rw [← hX]; rfl) (by simp [notDefer, ho]) (by simp only [pureOp, ho, hv, orElse'])
  have finF : ∀ v, sIndexA P t (opnd ts x) (opnd ts i) = none → sIndexF P t (opnd ts x) (opnd ts i) = some v → stepOp P G frz o ts h = some (putS ts o.dst v, h) := fun v hv hv2 =>
    pureW_step hc (fun X hX => by unfold stepOp; simp only [ho]; rw [← hX]; rfl) (by simp [notDefer, ho]) (by simp only [pureOp, ho, hv, hv2, orElse'])
  unfold indexK at hp
  split at hp
  · rename_i el hu
    split at hp
    · rename_i it hi
      simp only [Option.some.injEq] at hp
      subst hp
      simp only [natC_eq, vSlice_eq, oA_eq, spotR_eq, bR_eq, forceN_eq, opK_run] at e
      split at e
      · rename_i n hn
        split at e
        · rename_i a m c hv
          cases a with
          | none => exact .inr e
          | some ad =>
            obtain ⟨b, of, sp⟩ := ad
            simp only at e
            split at e
            · rename_i hlt
              cases sp with
              | none =>
                simp only at e
                refine .inl ⟨_, _, e, finF _ ?_ ?_⟩
                · simp only [hv, sIndexA, hn, hu, hi, Bool.and_false, cond_false]
                · simp only [hv, sIndexF, hn, hu, hi]
                  rw [show Nat.blt n m = Nat.ble (Nat.succ n) m from rfl, hlt]; rfl
              | some s =>
                simp only at e
                split at e
                · rename_i h0
                  rw [Bool.or_eq_true, Bool.and_eq_true] at h0
                  refine .inl ⟨_, _, e, fin _ ?_⟩
                  simp only [hv, sIndexA, hn, hu, hi]
                  rw [show Nat.blt n m = Nat.ble (Nat.succ n) m from rfl, hlt]
                  rcases h0 with h0 | ⟨h0, h1⟩
                  · have h0 := Nat.eq_of_beq_eq_true h0
                    subst h0
                    rfl
                  · have h0 := Nat.eq_of_beq_eq_true h0
                    have h1 := Nat.eq_of_beq_eq_true h1
                    subst h0 h1
                    rfl
                · exact .inr e
            · exact .inr e
        · exact .inr e
      · exact .inr e
    · cases hp
  · rename_i m el hu
    split at hp
    · rename_i it hi
      simp only [Option.some.injEq] at hp
      subst hp
      simp only [natC_eq, vPtr_eq, bR_eq, forceN_eq, opK_run] at e
      split at e
      · rename_i n hn
        split at e
        · rename_i b of sp hv
          split at e
          · rename_i hlt
            refine .inl ⟨_, _, e, fin _ ?_⟩
            simp only [hv, sIndexA, hn, hu, hi]
            rw [show Nat.blt n m = Nat.ble (Nat.succ n) m from rfl, hlt]; rfl
          · exact .inr e
        · exact .inr e
      · exact .inr e
    · cases hp
  · cases hp
theorem bndC_ok [Orc] {lo : Option Operand} {d : Nat} {ts : Fr} {yes : Nat → An} {no : An} {r : Value} (e : bndC (lo.map opK) d ts yes no = some r) : (∃ l, optNat (lo.map (opnd ts)) d = some l ∧ yes l = some r) ∨ no = some r := by
  cases lo with
  | none => exact .inl ⟨d, rfl, e⟩
  | some x =>
    have e : natC ((opK x).run ts) yes no = some r := e
    rw [natC_eq, opK_run] at e
    split at e
    · rename_i n hn
      exact .inl ⟨n, hn, e⟩
    · exact .inr e
theorem slice_ok [Orc] {t : TypeId} {x : Operand} {lo hi : Option Operand} (ho : o.op = .slice t x lo hi none) (hc : o.op.operands.toList.all constOk = true) (hp : sliceK P t (opK x) (lo.map opK) (hi.map opK) = some p) : HKok P G o p := by
  intro frz ts h yes no r e
  have fin : ∀ v, sSlice2 P t (opnd ts x) (lo.map (opnd ts)) (hi.map (opnd ts)) = none → sSliceF P t (opnd ts x) (lo.map (opnd ts)) (hi.map (opnd ts)) = some v → stepOp P G frz o ts h = some (putS ts o.dst v, h) := fun v hv hv2 =>
    pureW_step hc (fun X hX => by unfold stepOp; simp only [ho]; rw [← hX]; rfl) (by simp [notDefer, ho]) (by simp only [pureOp, ho, hv, hv2, orElse'])
  unfold sliceK at hp
  split at hp
  · rename_i el hu
    split at hp
    · rename_i it hit
      simp only [Option.some.injEq] at hp
      subst hp
      simp only [vSlice_eq, bR_eq, forceN_eq, opK_run] at e
      split at e
      · rename_i oa n c hv
        split at e
        · rename_i hg
          rcases bndC_ok e with ⟨l, hl, e⟩ | e
          · rcases bndC_ok e with ⟨hh, hhi, e⟩ | e
            · split at e
              · rename_i h1
                split at e
                · rename_i h2
                  refine .inl ⟨_, _, e, fin _ ?_ ?_⟩
                  · cases oa with
                    | none => simp only [hv, sSlice2, hu]
                    | some a =>
                      obtain ⟨b, o, sp⟩ := a
                      have hsp : sp = none := by simpa [grS, gr] using hg
                      subst hsp
                      simp only [hv, sSlice2, hu, hit, hl, hhi]
                      cases Nat.ble l hh <;> rfl
                  · simp only [hv, sSliceF, hu, hit, hl, hhi, show gr 6 (.slice oa n c) = true from hg, h1, h2, Bool.and_self, cond_true]
                    rfl
                · exact .inr e
              · exact .inr e
            · exact .inr e
          · exact .inr e
        · exact .inr e
      · exact .inr e
    · cases hp
  · cases hp
theorem len_ok [Orc] {c : Call} {x : Operand} (ho : o.op = .call c) (hcal : c.callee = .builtin .len) (hargs : c.args.toList = [x]) (hc : o.op.operands.toList.all constOk = true) (hp : lenK P c.argTypes (opK x) = some p) : HKok P G o p := by
  intro frz ts h yes no r e
  have fin : ∀ v, sLen P h.tr.get c.argTypes (opnd ts x) = some v → stepOp P G frz o ts h = some (putS ts o.dst v, h) := fun v hv =>
    pureW_step hc (fun X hX => by unfold stepOp; simp only [ho, hcal, hargs]; rw [← hX]; rfl) (by simp [notDefer, ho]) (by simp only [pureOp, ho, hcal, hargs, hv, orElse'])
  unfold lenK at hp
  split at hp
  · rename_i t ht
    split at hp
    · rename_i el hu
      simp only [Option.some.injEq] at hp
      subst hp
      simp only [vSlice_eq, forceN_eq, opK_run] at e
      split at e
      · rename_i a n c' hv
        refine .inl ⟨_, _, e, fin _ ?_⟩
        simp only [hv, sLen, ht, hu]; rfl
      · exact .inr e
    · cases hp
  · cases hp
theorem cells_one {v : Value} (h : oneV v = true) : v.cells = #[v] := by
  cases v <;> first | rfl | simp [oneV] at h
theorem vAgg_one {α : Type} (v : Value) (yes no : α) : vAgg v yes no = if oneV v = true then no else yes := by cases v <;> rfl
theorem store_ok [Orc] {t : TypeId} {a x : Operand} (ho : o.op = .store t a x) (hc : o.op.operands.toList.all constOk = true) (hp : storeK P t (opK a) (opK x) = some p) : HKok P G o p := by
  intro frz ts h yes no r e
  unfold storeK at hp
  split at hp
  · rename_i i hi
    cases hz : Nat.beq i.size 1 with
    | false => rw [hz] at hp; cases hp
    | true =>
      simp only [hz, cond_true, Option.some.injEq] at hp
      subst hp
      have hz := Nat.eq_of_beq_eq_true hz
      simp only [nilR_eq, vPtr_eq, oR_eq, bR_eq, rowR_eq, vAgg_one, opK_run] at e
      split at e
      · split at e
        · rename_i b of sp hv
          cases sp with
          | none => exact .inr e
          | some s =>
            simp only at e
            split at e
            · rename_i h0
              have h0 := Nat.eq_of_beq_eq_true h0
              subst h0
              split at e
              · rename_i ty cs f hg
                split at e
                · rename_i hone
                  split at e
                  · rename_i hle
                    rw [lenR_eq] at hle
                    refine .inl ⟨_, _, e, ?_⟩
                    have hlt := Nat.le_of_ble_eq_true hle
                    unfold stepOp
                    have hcn := cells_one hone
                    have hsl : sStore P h [] t (opnd ts a) (opnd ts x) = some (h.put b (.row ty (setR cs of (opnd ts x)) f)) := by
                      simp only [hv, sStore, hg, hi, hcn]
                      have hall : (frzOk h [] (2 * f) && Nat.beq (#[opnd ts x] : Array Value).size i.size && (#[opnd ts x] : Array Value).toList.all oneV && Nat.ble (of + (#[opnd ts x] : Array Value).toList.length) cs.length) = true := by
                        simp only [List.all_cons, List.all_nil, hone, Bool.and_true, Bool.and_eq_true]
                        refine ⟨⟨rfl, ?_⟩, hle⟩
                        rw [hz]; rfl
                      rw [hall, cond_true, setR_eq]
                      congr 3
                      rw [List.set_eq_take_append_cons_drop, if_pos (by omega)]
                      simp
                    rw [hc]
                    simp only [ho, notDefer, Bool.true_and, cond_true, hsl, fin0]
                  · exact .inr e
                · exact .inr e
              · exact .inr e
            · exact .inr e
        · exact .inr e
      · exact .inr e
  · cases hp
theorem allOne_eq : ∀ l : List Value, allOne l = l.all oneV
  | [] => rfl
  | v :: l => by
    show vAgg v false (allOne l) = _
    rw [vAgg_one, allOne_eq l, List.all_cons]
    cases oneV v <;> rfl
theorem storeA_ok [Orc] {t : TypeId} {a x : Operand} (ho : o.op = .store t a x) (hc : o.op.operands.toList.all constOk = true) (hp : storeAK P t (opK a) (opK x) = some p) : HKok P G o p := by
  intro frz ts h yes no r e
  unfold storeAK at hp
  split at hp
  · rename_i i hi
    simp only [Option.some.injEq] at hp
    subst hp
    simp only [nilR_eq, vPtr_eq, oR_eq, bR_eq, rowR_eq, cellsC_eq, allOne_eq, opK_run] at e
    split at e
    · split at e
      · rename_i b of sp hv
        cases sp with
        | none => exact .inr e
        | some s =>
          simp only at e
          split at e
          · rename_i h0
            have h0 := Nat.eq_of_beq_eq_true h0
            subst h0
            split at e
            · rename_i ty cs f hg
              split at e
              · rename_i hsz
                split at e
                · rename_i hone
                  split at e
                  · rename_i hle
                    rw [lenR_eq] at hle
                    refine .inl ⟨_, _, e, ?_⟩
                    unfold stepOp
                    have hsl : sStore P h [] t (opnd ts a) (opnd ts x) = some (h.put b (.row ty (appR (cs.take of) (appR (opnd ts x).cells.toList (cs.drop (Nat.add of i.size)))) f)) := by
                      simp only [hv, sStore, hg, hi]
                      have hall : (frzOk h [] (2 * f) && Nat.beq (opnd ts x).cells.size i.size && (opnd ts x).cells.toList.all oneV && Nat.ble (of + (opnd ts x).cells.toList.length) cs.length) = true := by
                        simp only [Bool.and_eq_true]
                        refine ⟨⟨⟨rfl, by rw [Nat.beq_eq]; exact hsz⟩, hone⟩, ?_⟩
                        rw [Array.length_toList, hsz]; exact hle
                      rw [hall, cond_true, appR_eq, appR_eq, Array.length_toList, hsz]
                      simp
                    rw [hc]
                    simp only [ho, notDefer, Bool.true_and, cond_true, hsl, fin0]
                  · exact .inr e
                · exact .inr e
              · exact .inr e
            · exact .inr e
          · exact .inr e
      · exact .inr e
    · exact .inr e
  · cases hp
theorem box_ok [Orc] {t : TypeId} {x : Operand} (ho : o.op = .box t x) (hc : o.op.operands.toList.all constOk = true) (hp : boxK P t (opK x) = some p) : HKok P G o p := by
  intro frz ts h yes no r e
  unfold boxK at hp
  split at hp
  · rename_i i hi
    simp only [Option.some.injEq] at hp
    subst hp
    simp only [bR_eq, cellsC_eq, forceN_eq, nextC_eq, opK_run] at e
    split at e
    · rename_i hl
      split at e
      · rename_i hsz
        refine .inl ⟨_, _, e, ?_⟩
        unfold stepOp
        have hsl : sBox P h frz t (opnd ts x) = some (.pointer (some ⟨h.next, 0, some 0⟩), h.push (.row t (opnd ts x).cells.toList h.next)) := by
          simp only [sBox, hi]
          have hall : (frzLive h frz && Nat.beq (opnd ts x).cells.size i.size) = true := by rw [Bool.and_eq_true]; exact ⟨hl, by rw [Nat.beq_eq]; exact hsz⟩
          rw [hall]; rfl
        rw [hc]
        simp only [ho, notDefer, Bool.true_and, cond_true, hsl, fin]
      · exact .inr e
    · exact .inr e
  · cases hp
theorem segsOf_all {place : Nat → Option (Nat × Nat)} {ts : Fr} : ∀ (ps : List (Nat × Operand)) (segs : List Seg) (qs : List (Nat × List Value)), segsOf place ps = some segs → All2 (fun (s : Seg) (q : Nat × List Value) => s.1 = q.1 ∧ s.2.1 = q.2.length ∧ (s.2.2.run ts).cells.toList = q.2) segs qs →
    All2 (fun (p : Nat × Value) (q : Nat × List Value) => place p.1 = some (q.1, q.2.length) ∧ p.2.cells.toList = q.2) (ps.map fun p => (p.1, opnd ts p.2)) qs
  | [], _, _, h, ha => by
    simp only [segsOf, Option.some.injEq] at h
    subst h
    cases ha
    exact .nil
  | (i, x) :: ps, segs, qs, h, ha => by
    simp only [segsOf] at h
    split at h
    · rename_i off size l hpl hl
      simp only [Option.some.injEq] at h
      subst h
      cases ha with
      | cons h1 h2 =>
        obtain ⟨g1, g2, g3⟩ := h1
        simp only at g1 g2 g3
        refine .cons ⟨?_, ?_⟩ (segsOf_all ps l _ hl h2)
        · simp only; rw [hpl, g1, g2]
        · simp only; rw [← opK_run]; exact g3
    · cases h
theorem build_ok [Orc] {t : TypeId} {parts : Array (Nat × Operand)} (ho : o.op = .build t parts) (hc : o.op.operands.toList.all constOk = true) (hp : buildK P t parts.toList = some p) : HKok P G o p := by
  intro frz ts h yes no r e
  have fin : ∀ v, sBuild P t (parts.toList.map fun p => (p.1, opnd ts p.2)) = some v → stepOp P G frz o ts h = some (putS ts o.dst v, h) := fun v hv =>
    pureW_step hc (fun X hX => by unfold stepOp; simp only [ho]; rw [← hX]; rfl) (by simp [notDefer, ho]) (by simp only [pureOp, ho, hv])
  unfold buildK at hp
  split at hp
  · rename_i it fields hi hu
    split at hp
    · rename_i z places hz hpl
      split at hp
      · rename_i segs hs
        cases hq : (z.cells.toList.all (gr 6) && segOk z.cells.toList.length 0 segs) with
        | false => rw [hq] at hp; cases hp
        | true =>
          rw [hq] at hp
          simp only [cond_true, Option.some.injEq] at hp
          subst hp
          rw [Bool.and_eq_true] at hq
          rcases outK_ok segs 0 _ hq.2 e with ⟨qs, h1, h2, h3⟩ | hn
          · refine .inl ⟨_, _, h3, fin _ ?_⟩
            obtain ⟨R, hR1, hR2⟩ := fill_out (place := (places.toArray[·]?)) (z := z.cells.toList) _ qs 0 [] z.cells (by simp) rfl (Nat.zero_le _) (segsOf_all _ _ _ hs h1) h2
            simp only [sBuild, hi, hz, hq.1, cond_true, Program.built, hu, hpl, hR1]
            congr 2
            exact Array.toList_inj.1 (by rw [hR2]; rfl)
          · exact .inr hn
      · cases hp
    · cases hp
  · cases hp
theorem buildSlice_ok [Orc] {t : TypeId} {len : Nat} {parts : Array (Nat × Operand)} (ho : o.op = .buildSlice t len parts) (hc : o.op.operands.toList.all constOk = true) (hp : buildSliceK P t len parts.toList = some p) : HKok P G o p := by
  intro frz ts h yes no r e
  unfold buildSliceK at hp
  split at hp
  · rename_i el hu
    split at hp
    · rename_i i hi
      split at hp
      · rename_i z hz
        split at hp
        · rename_i segs hs
          cases hq : (z.cells.toList.all (gr 6) && Nat.ble (len * i.size) 65536 && (Nat.blt 0 i.size) && Nat.beq z.cells.size i.size && segOk (madeC z.cells (len * i.size)).toList.length 0 segs) with
          | false => rw [hq] at hp; cases hp
          | true =>
            rw [hq] at hp
            simp only [cond_true, Option.some.injEq] at hp
            subst hp
            simp only [Bool.and_eq_true] at hq
            obtain ⟨⟨⟨⟨q1, q2⟩, q3⟩, q4⟩, q5⟩ := hq
            simp only [bR_eq] at e
            split at e
            · rename_i hl
              rcases outK_ok segs 0 _ q5 e with ⟨qs, h1, h2, h3⟩ | hn
              · rw [nextC_eq] at h3
                refine .inl ⟨_, _, h3, ?_⟩
                obtain ⟨R, hR1, hR2⟩ := fill_out (place := fun k => some (k * i.size, i.size)) (z := (madeC z.cells (len * i.size)).toList) _ qs 0 [] (madeC z.cells (len * i.size)) (by simp) rfl (Nat.zero_le _) (segsOf_all _ _ _ hs h1) h2
                unfold stepOp
                have hsl : sBuildSlice P h frz t len (parts.toList.map fun p => (p.1, opnd ts p.2)) = some (.slice (some ⟨h.next, 0, some 0⟩) len len, h.push (.row el (outL (madeC z.cells (len * i.size)).toList 0 qs) h.next)) := by
                  simp only [sBuildSlice, hu, hi, hz]
                  have hall : (frzLive h frz && z.cells.toList.all (gr 6) && Nat.ble (len * i.size) 65536 && (Nat.blt 0 i.size) && Nat.beq z.cells.size i.size) = true := by
                    simp only [Bool.and_eq_true]
                    exact ⟨⟨⟨⟨hl, q1⟩, q2⟩, q3⟩, q4⟩
                  rw [hall, cond_true, hR1]
                  simp only [hR2, List.nil_append]
                rw [hc]
                simp only [ho, notDefer, Bool.true_and, cond_true, hsl, fin]
              · exact .inr hn
            · exact .inr e
        · cases hp
      · cases hp
    · cases hp
  · cases hp
theorem alloc_ok [Orc] {t : TypeId} (ho : o.op = .alloc t) (hc : o.op.operands.toList.all constOk = true) (hp : allocK P t = some p) : HKok P G o p := by
  intro frz ts h yes no r e
  unfold allocK at hp
  split at hp
  · rename_i i hi
    split at hp
    · rename_i z hz
      cases hq : (z.cells.toList.all (gr 6) && Nat.beq z.cells.size i.size) with
      | false => rw [hq] at hp; cases hp
      | true =>
        simp only [hq, cond_true, Option.some.injEq] at hp
        subst hp
        simp only [bR_eq, forceN_eq, nextC_eq] at e
        split at e
        · rename_i hl
          refine .inl ⟨_, _, e, ?_⟩
          unfold stepOp
          rw [Bool.and_eq_true] at hq
          have hsl : sAlloc P h frz t = some (.pointer (some ⟨h.next, 0, some 0⟩), h.push (.row t z.cells.toList h.next)) := by
            simp only [sAlloc, hi, hz]
            have hall : (frzLive h frz && z.cells.toList.all (gr 6) && Nat.beq z.cells.size i.size) = true := by rw [hl, hq.1, hq.2]; rfl
            rw [hall]; rfl
          rw [hc]
          simp only [ho, notDefer, Bool.true_and, cond_true, hsl, fin]
        · exact .inr e
    · cases hp
  · cases hp
theorem not_ok [Orc] {t : TypeId} {x : Operand} (ho : o.op = .unOp .not t x) (hc : o.op.operands.toList.all constOk = true) : HKok P G o (notK (opK x)) := by
  intro frz ts h yes no r e
  unfold notK at e
  simp only [vBool_eq, bR_eq, opK_run] at e
  split at e
  · rename_i b hb
    have fin : stepOp P G frz o ts h = some (putS ts o.dst (.bool (!b)), h) := by
      refine pureW_step hc (fun X hX => by unfold stepOp; simp only [ho]; rw [← hX]; rfl) (by simp [notDefer, ho]) ?_
      have key : sGround P (opnd ts) o = some (.bool (!b)) := ground_pure (_get := h.tr.get) (by simp [ho, gKind]) (by simp [ho, Op.operands, hb, gr_bool]) (by simp only [execOp, ho, hb]; rfl) rfl
      unfold pureOp
      simp only [ho, key]
    cases b with
    | true => exact .inl ⟨_, _, e, fin⟩
    | false => exact .inl ⟨_, _, e, fin⟩
  · exact .inr e
theorem minmax_ok {c : Call} {x y : Operand} (ho : o.op = .call c) (hargs : c.args.toList = [x, y]) (hc : o.op.operands.toList.all constOk = true) {f : Int → Int → (Value → An) → An} {g : Int → Int → Value} (hf : ∀ a b yes, f a b yes = yes (g a b)) (hg : ∀ a b, gr 6 (g a b) = true)
    (hcal : c.callee = .builtin .min ∧ (∀ a b, (Builtin.min2 (.int .i64 a) (.int .i64 b) : Sem Value) = pure (g a b)) ∨ c.callee = .builtin .max ∧ (∀ a b, (Builtin.max2 (.int .i64 a) (.int .i64 b) : Sem Value) = pure (g a b))) : HKok P G o (bin2 (opK x) (opK y) f) := by
  intro frz ts h yes no r e
  rcases bin2_ok hf e with ⟨a, b, hx, hy, hk⟩ | hk
  · rw [opK_run] at hx hy
    refine .inl ⟨_, _, hk, ?_⟩
    have ea : c.args = #[x, y] := Array.toList_inj.1 (by simpa using hargs)
    have hops : (o.op.operands.toList.all fun z => gr 6 (opnd ts z)) = true := by
      rcases hcal with ⟨hcal, _⟩ | ⟨hcal, _⟩ <;> simp [ho, Op.operands, Call.operands, hcal, ea, hx, hy, gr_int]
    have hkind : gKind o.op = true := by rcases hcal with ⟨hcal, _⟩ | ⟨hcal, _⟩ <;> simp [ho, gKind, hcal]
    have hrun : pureOut P (execOp (opnd ts) o) = some (.value (g a b)) := by
      rcases hcal with ⟨hcal, h2⟩ | ⟨hcal, h2⟩
      · simp only [execOp, ho, resolve, hcal, invoke, builtin, ea, List.map_toArray, List.map_cons, List.map_nil, pure_bind, hx, hy, Builtin.min_, List.foldlM_cons, List.foldlM_nil, h2, bind_pure]
        rfl
      · simp only [execOp, ho, resolve, hcal, invoke, builtin, ea, List.map_toArray, List.map_cons, List.map_nil, pure_bind, hx, hy, Builtin.max_, List.foldlM_cons, List.foldlM_nil, h2, bind_pure]
        rfl
    have key : sGround P (opnd ts) o = some (g a b) := ground_pure (_get := h.tr.get) hkind hops hrun (hg a b)
    rcases hcal with ⟨hcal, _⟩ | ⟨hcal, _⟩
    · exact pureW_step hc (fun X hX => by unfold stepOp; simp only [ho, hcal, hargs]; rw [← hX]; rfl) (by simp [notDefer, ho]) (by unfold pureOp; simp only [ho, hcal, hargs, key])
    · exact pureW_step hc (fun X hX => by unfold stepOp; simp only [ho, hcal, hargs]; rw [← hX]; rfl) (by simp [notDefer, ho]) (by unfold pureOp; simp only [ho, hcal, hargs, key])
  · exact .inr hk
theorem vTup_eq {α : Type} (v : Value) (yes : List Value → α) (no : α) : vTup v yes no = match v with
  | .tuple vs => yes vs.toList
  | _ => no := by cases v <;> rfl
theorem extract_ok [Orc] {x : Operand} {i : Nat} (ho : o.op = .extract x i) (hc : o.op.operands.toList.all constOk = true) : HKok P G o (extractK (opK x) i) := by
  intro frz ts h yes no r e
  unfold extractK at e
  simp only [vTup_eq, getC_eq, opK_run] at e
  split at e
  · rename_i vs hv
    split at e
    · rename_i v hi
      exact .inl ⟨_, _, e, pureW_step hc (fun X hX => by unfold stepOp; simp only [ho]; rw [← hX]; rfl) (by simp [notDefer, ho]) (by simp only [pureOp, ho, hv, hi])⟩
    · exact .inr e
  · exact .inr e
theorem listK_eq (ts : Fr) : ∀ l : List Operand, listK l ts = l.map (opnd ts)
  | [] => rfl
  | x :: l => by rw [listK, opK_run, listK_eq ts l]; rfl
theorem makeFunc_ok {f : FuncId} {first captured : Array Operand} (ho : o.op = .makeFunc (.func f) first captured) (hc : o.op.operands.toList.all constOk = true) : HKok P G o (makeFuncK f first.toList captured.toList) := by
  intro frz ts h yes no r e
  unfold makeFuncK at e
  simp only [listK_eq] at e
  refine .inl ⟨_, _, e, pureW_step hc (fun X hX => by unfold stepOp; simp only [ho]; rw [← hX]; rfl) (by simp [notDefer, ho]) ?_⟩
  simp only [pureOp, ho, Option.some.injEq, Value.func.injEq, true_and]
  exact ⟨Array.toList_inj.1 (by simp), Array.toList_inj.1 (by simp)⟩
theorem append_ok [Orc] {c : Call} {s x : Operand} (ho : o.op = .call c) (hcal : c.callee = .builtin .append) (hargs : c.args.toList = [s, x]) (hc : o.op.operands.toList.all constOk = true) (hp : appendK P c.argTypes (opK s) (opK x) = some p) : HKok P G o p := by
  intro frz ts h yes no r e
  have fin' : ∀ v h', sAppend P h frz c.argTypes (opnd ts s) (opnd ts x) = some (v, h') → stepOp P G frz o ts h = some (putS ts o.dst v, h') := fun v h' hv => by
    unfold stepOp
    rw [hc]
    simp only [ho, notDefer, Bool.true_and, cond_true, hcal, hargs, hv, fin]
  unfold appendK at hp
  split at hp
  · rename_i t t' hts
    split at hp
    · rename_i el hu
      split at hp
      · rename_i i hi
        split at hp
        · rename_i z hz
          cases hq : (Nat.beq t t' && Nat.blt 0 i.size && Nat.beq z.cells.size i.size && Nat.ble i.bytes 65536) with
          | false => rw [hq] at hp; cases hp
          | true =>
            simp only [hq, cond_true, Option.some.injEq] at hp
            subst hp
            simp only [Bool.and_eq_true] at hq
            obtain ⟨⟨⟨q1, q2⟩, q3⟩, q4⟩ := hq
            simp only [bR_eq, vSlice_eq, oR_eq, opK_run] at e
            split at e
            · rename_i hl
              split at e
              · rename_i ax m cx hx
                cases ax with
                | none => exact .inr e
                | some ad =>
                  obtain ⟨bx, ox, sx⟩ := ad
                  simp only at e
                  cases sx with
                  | none => exact .inr e
                  | some sx =>
                    simp only at e
                    split at e
                    · rename_i hsx
                      have hsx := Nat.eq_of_beq_eq_true hsx
                      subst hsx
                      split at e
                      · rename_i hox
                        have hox := Nat.eq_of_beq_eq_true hox
                        subst hox
                        rw [rowR_eq] at e
                        split at e
                        · rename_i tx csx fx hgx
                          split at e
                          · rename_i hlen
                            rw [lenR_eq] at hlen
                            have hlen := Nat.eq_of_beq_eq_true hlen
                            split at e
                            · rename_i hm
                              rw [Bool.and_eq_true] at hm
                              split at e
                              · rename_i hone
                                rw [allOne_eq] at hone
                                have hnews : sNews h i.size (opnd ts x) = some (m, csx) := by
                                  rw [hx]
                                  simp only [sNews, rowPart, hgx, Nat.zero_add]
                                  rw [show Nat.ble (m * i.size) csx.length = true from by rw [Nat.ble_eq, hlen]; exact Nat.le_refl _]
                                  simp only [cond_true, List.drop_zero, Option.map_some]
                                  rw [List.take_of_length_le (by rw [hlen]; exact Nat.le_refl _)]
                                have hm0 : Nat.beq m 0 = false := by
                                  cases m with
                                  | zero => simp at hm
                                  | succ m => rfl
                                unfold appS at e
                                simp only [vSlice_eq, oR_eq, bR_eq] at e
                                split at e
                                · rename_i sa n cn hs
                                  cases sa with
                                  | none =>
                                    simp only at e
                                    split at e
                                    · rename_i hn
                                      rw [Bool.and_eq_true] at hn
                                      have hn0 := Nat.eq_of_beq_eq_true hn.1
                                      have hc0 := Nat.eq_of_beq_eq_true hn.2
                                      subst hn0 hc0
                                      rw [nextC_eq] at e
                                      refine .inl ⟨_, _, e, fin' _ _ ?_⟩
                                      unfold sAppend
                                      simp only [hts, q1, hu, hi, hz, hnews, hs, cond_true]
                                      rw [hl, q2, q3, q4, hone, hm.2, hm0]; rfl
                                    · exact .inr e
                                  | some ad =>
                                    obtain ⟨b, of, sp⟩ := ad
                                    simp only at e
                                    cases sp with
                                    | none => exact .inr e
                                    | some sp =>
                                      simp only at e
                                      split at e
                                      · rename_i hsp
                                        have hsp := Nat.eq_of_beq_eq_true hsp
                                        subst hsp
                                        split at e
                                        · rename_i hof
                                          have hof' := Nat.eq_of_beq_eq_true hof
                                          subst hof'
                                          rw [rowR_eq] at e
                                          split at e
                                          · rename_i ty cs f hg
                                            split at e
                                            · rename_i hty
                                              split at e
                                              · rename_i hn6
                                                split at e
                                                · rename_i hln
                                                  rw [lenR_eq] at hln
                                                  have hln := Nat.eq_of_beq_eq_true hln
                                                  split at e
                                                  · rename_i hfz
                                                    rw [nextC_eq, longS_eq, growL_eq, appR_eq] at e
                                                    refine .inl ⟨_, _, e, fin' _ _ ?_⟩
                                                    unfold sAppend
                                                    simp only [hts, q1, hu, hi, hz, hnews, hs, cond_true]
                                                    rw [hl, q2, q3, q4, hone, hm.2, hm0]
                                                    simp only [Bool.and_true, cond_true, cond_false, hn6, hg]
                                                    rw [show Nat.ble (n * i.size) cs.length = true from by rw [Nat.ble_eq, hln]; exact Nat.le_refl _, hty, hfz]
                                                    simp only [Nat.beq_refl, Bool.and_true, cond_true]
                                                    rw [List.take_of_length_le (by rw [hln]; exact Nat.le_refl _)]
                                                    rfl
                                                  · exact .inr e
                                                · exact .inr e
                                              · exact .inr e
                                            · exact .inr e
                                          · exact .inr e
                                        · exact .inr e
                                      · exact .inr e
                                · exact .inr e
                              · exact .inr e
                            · exact .inr e
                          · exact .inr e
                        · exact .inr e
                      · exact .inr e
                    · exact .inr e
              · exact .inr e
            · exact .inr e
        · cases hp
      · cases hp
    · cases hp
  · cases hp
theorem fastK_ok [Orc] (hp : fastK P G o = some p) : HKok P G o p := by
  unfold fastK at hp
  cases hc : o.op.operands.toList.all constOk with
  | false => rw [hc] at hp; cases hp
  | true =>
    rw [hc, cond_true] at hp
    split at hp
    · rename_i op t x y yt ho
      split at hp
      · exact eqAgg_ok ho hc hp
      · exact eqAgg_ok ho hc hp
      · exact binOp_ok ho hc hp
    · rename_i c a b ho
      cases hp
      exact pick_ok ho hc
    · rename_i t a ho; exact load_ok ho hc hp
    · rename_i t x lo hi ho; exact slice_ok ho hc hp
    · rename_i s x f ho; exact field_ok ho hc hp
    · rename_i t x i ho; exact index_ok ho hc hp
    · rename_i t a x ho
      split at hp
      · rename_i p' hp'
        cases hp
        exact store_ok ho hc hp'
      · exact storeA_ok ho hc hp
    · rename_i t x ho; exact box_ok ho hc hp
    · rename_i t ho; exact alloc_ok ho hc hp
    · rename_i t x ho
      cases hp
      exact not_ok ho hc
    · rename_i x i ho
      cases hp
      exact extract_ok ho hc
    · rename_i f first captured ho
      cases hp
      exact makeFunc_ok ho hc
    · rename_i t parts ho; exact build_ok ho hc hp
    · rename_i t n parts ho; exact buildSlice_ok ho hc hp
    · rename_i c ho
      split at hp
      · rename_i x hcal hargs; exact len_ok ho hcal hargs hc hp
      · rename_i s x hcal hargs; exact append_ok ho hcal hargs hc hp
      · rename_i x y hcal hargs
        cases hp
        exact minmax_ok (g := fun a b => .int .i64 (if b < a then b else a)) ho hargs hc (fun a b yes => by
          rw [bR_eq, ltI_eq]
          by_cases h : b < a <;> simp [h]) (fun a b => rfl) (.inl ⟨hcal, fun a b => rfl⟩)
      · rename_i x y hcal hargs
        cases hp
        exact minmax_ok (g := fun a b => .int .i64 (if a < b then b else a)) ho hargs hc (fun a b yes => by
          rw [bR_eq, ltI_eq]
          by_cases h : a < b <;> simp [h]) (fun a b => rfl) (.inr ⟨hcal, fun a b => rfl⟩)
      · cases hp
    · cases hp
end
end Go.Proofs.Ytedpbkpeofaibaa
