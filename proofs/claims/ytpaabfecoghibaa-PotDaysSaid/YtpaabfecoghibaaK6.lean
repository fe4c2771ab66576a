/- The fast ways are right. Over any program. Conditions: as each law says. -/
import Derived.Test.YtpaabfecoghibaaK5
namespace Go.Proofs.Ytpaabfecoghibaa
open Go Go.RowKit
set_option linter.unusedSimpArgs false
set_option linter.unusedVariables false
section
variable {P : Program} {G : Gl} {o : Oper} {p : HK}
theorem oR_eq {α β : Type} (x : Option β) (no : α) (yes : β → α) : oR x no yes = match x with
  | some v => yes v
  | none => no := by cases x <;> rfl
theorem nilR_eq {α β : Type} (l : List β) (yes no : α) : nilR l yes no = match l with
  | [] => yes
  | _ :: _ => no := by cases l <;> rfl
theorem natC_eq [Orc] {α : Type} (v : Value) (yes : Nat → α) (no : α) : natC v yes no = match natV v with
  | some n => yes n
  | none => no := by
  unfold natC
  rw [vInt_eq]
  cases v with
  | int k i => simp only [iR_eq]; cases i <;> rfl
  | _ => rfl
/-- A result that leaves memory as it is. -/
theorem pureW_step {frz : List Nat} {ts : Fr} {h : SH} {v : Value} (hc : o.op.operands.toList.all constOk = true) (hk : ∀ (X : Option (Fr × SH)), (match pureOp P G h.tr.get (opnd ts) o with
      | some v => some (putS ts o.dst v, h)
      | none => none) = X → stepOp P G frz o ts h = cond (notDefer o && o.op.operands.toList.all constOk) X none) (hd : notDefer o = true) (hp : pureOp P G h.tr.get (opnd ts) o = some v) : stepOp P G frz o ts h = some (putS ts o.dst v, h) := by
  rw [hk (some (putS ts o.dst v, h)) (by rw [hp]), hd, hc]; rfl
theorem pick_ok [Orc] {c a b : Operand} (ho : o.op = .pick c a b) (hc : o.op.operands.toList.all constOk = true) : HKok P G o (pickK (opK c) (opK a) (opK b)) := by
  intro frz ts h yes no r e
  unfold pickK at e
  simp only [vBool_eq, bR_eq, opK_run] at e
  split at e
  · rename_i t ht
    have fin : ∀ v, (cond t (opnd ts a) (opnd ts b)) = v → stepOp P G frz o ts h = some (putS ts o.dst v, h) := fun v hv =>
      pureW_step hc (fun X hX => by unfold stepOp; simp only [ho]; rw [← hX]; rfl) (by simp [notDefer, ho]) (by simp only [pureOp, ho, ht, hv])
    cases t with
    | true => exact .inl ⟨_, _, e, fin _ rfl⟩
    | false => exact .inl ⟨_, _, e, fin _ rfl⟩
  · exact .inr e
theorem binOp_ok [Orc] {op : BinOp} {t : TypeId} {x y : Operand} {yt : TypeId} (ho : o.op = .binOp op t x y yt) (hc : o.op.operands.toList.all constOk = true) (hp : binK op (opK x) (opK y) = some p) : HKok P G o p := by
  intro frz ts h yes no r e
  rcases binK_ok hp e with ⟨a, b, v, hx, hy, hv, hk⟩ | hk
  · rw [opK_run] at hx hy
    exact .inl ⟨v, h, hk, pureW_step hc (fun X hX => by unfold stepOp; simp only [ho]; rw [← hX]; rfl) (by simp [notDefer, ho]) (bin_pure ho hx hy hv)⟩
  · exact .inr hk
theorem eqFsC_ok [Orc] {rec : EqC} {recB : TypeId → Value → Value → Option Bool} {no : An} {r : Value} (hr : ∀ t a b yes, rec t a b yes no = some r → (∃ q, recB t a b = some q ∧ yes q = some r) ∨ no = some r) {xs ys : List Value} {yes : Bool → An} :
    ∀ fs : List Field, eqFsC rec P xs ys yes no fs = some r → (∃ q, eqFsB recB P xs ys fs = some q ∧ yes q = some r) ∨ no = some r
  | [], e => .inl ⟨true, rfl, e⟩
  | f :: fs, e => by
    have e : bR (f.name == "_") (eqFsC rec P xs ys yes no fs) (oR (readAt P f.type xs f.offset) no fun a => oR (readAt P f.type ys f.offset) no fun b => rec f.type a b (fun q => bR q (eqFsC rec P xs ys yes no fs) (yes false)) no) = some r := e
    simp only [bR_eq, oR_eq] at e
    cases hn : (f.name == "_") with
    | true =>
      rw [hn, if_pos rfl] at e
      rcases eqFsC_ok hr fs e with ⟨q, h1, h2⟩ | h
      · exact .inl ⟨q, by simp only [eqFsB, hn]; exact h1, h2⟩
      · exact .inr h
    | false =>
      rw [hn, if_neg (by simp)] at e
      cases ha : readAt P f.type xs f.offset with
      | none => rw [ha] at e; exact .inr e
      | some a =>
        rw [ha] at e
        simp only at e
        cases hb : readAt P f.type ys f.offset with
        | none => rw [hb] at e; exact .inr e
        | some b =>
          rw [hb] at e
          simp only at e
          rcases hr _ _ _ _ e with ⟨q, h1, h2⟩ | h
          · cases q with
            | true =>
              rw [if_pos rfl] at h2
              rcases eqFsC_ok hr fs h2 with ⟨q, h3, h4⟩ | h
              · exact .inl ⟨q, by simp only [eqFsB, hn, ha, hb, h1]; exact h3, h4⟩
              · exact .inr h
            | false => exact .inl ⟨false, by simp only [eqFsB, hn, ha, hb, h1], by simpa using h2⟩
          · exact .inr h
theorem eqEsC_ok [Orc] {rec : EqC} {recB : TypeId → Value → Value → Option Bool} {no : An} {r : Value} (hr : ∀ t a b yes, rec t a b yes no = some r → (∃ q, recB t a b = some q ∧ yes q = some r) ∨ no = some r) {e : TypeId} {xs ys : List Value} {yes : Bool → An} :
    ∀ is : List Nat, eqEsC rec P e xs ys yes no is = some r → (∃ q, eqEsB recB P e xs ys is = some q ∧ yes q = some r) ∨ no = some r
  | [], h => .inl ⟨true, rfl, h⟩
  | i :: is, h => by
    have h : (oR (readAt P e xs (i * P.cellsOf e)) no fun a => oR (readAt P e ys (i * P.cellsOf e)) no fun b => rec e a b (fun q => bR q (eqEsC rec P e xs ys yes no is) (yes false)) no) = some r := h
    simp only [bR_eq, oR_eq] at h
    cases ha : readAt P e xs (i * P.cellsOf e) with
    | none => rw [ha] at h; exact .inr h
    | some a =>
      rw [ha] at h
      simp only at h
      cases hb : readAt P e ys (i * P.cellsOf e) with
      | none => rw [hb] at h; exact .inr h
      | some b =>
        rw [hb] at h
        simp only at h
        rcases hr _ _ _ _ h with ⟨q, h1, h2⟩ | h
        · cases q with
          | true =>
            rw [if_pos rfl] at h2
            rcases eqEsC_ok hr is h2 with ⟨q, h3, h4⟩ | h
            · exact .inl ⟨q, by simp only [eqEsB, ha, hb, h1]; exact h3, h4⟩
            · exact .inr h
          | false => exact .inl ⟨false, by simp only [eqEsB, ha, hb, h1], by simpa using h2⟩
        · exact .inr h
theorem eqC_ok [Orc] {no : An} {r : Value} : ∀ (d : Nat) (t : TypeId) (x y : Value) (yes : Bool → An), eqC P d t x y yes no = some r → (∃ q, eqB P d t x y = some q ∧ yes q = some r) ∨ no = some r
  | 0, _, _, _, _, e => .inr e
  | d + 1, t, x, y, yes, e => by
    change (match P.underlying t with
      | some .bool => vBool x (fun a => vBool y (fun b => yes (a == b)) no) no
      | some (.int _) => vInt x (fun k a => vInt y (fun k' b => bR (decide (k = k')) (yes (eqI a b)) no) no) no
      | some .string => vStr x (fun a => vStr y (fun b => yes (a.toList == b.toList)) no) no
      | some (.struct fs) => vRow x (fun xs => vRow y (fun ys => bR (P.stoodInHeld t) no (eqFsC (eqC P d) P xs ys yes no fs.toList)) no) no
      | some (.array n e) => match P.info? e with
        | some _ => vRow x (fun xs => vRow y (fun ys => eqEsC (eqC P d) P e xs ys yes no (List.range n)) no) no
        | none => no
      | _ => no) = some r at e
    split at e
    · rename_i hu
      simp only [vBool_eq] at e
      split at e
      · rename_i a
        split at e
        · rename_i b
          exact .inl ⟨a == b, by simp only [eqB, hu], e⟩
        · exact .inr e
      · exact .inr e
    · rename_i k0 hu
      simp only [vInt_eq, bR_eq] at e
      split at e
      · rename_i k a
        split at e
        · rename_i k' b
          split at e
          · rename_i hk
            rw [eqI_eq] at e
            exact .inl ⟨a == b, by simp only [eqB, hu, hk, cond_true], e⟩
          · exact .inr e
        · exact .inr e
      · exact .inr e
    · rename_i hu
      simp only [vStr_eq] at e
      split at e
      · rename_i a
        split at e
        · rename_i b
          exact .inl ⟨a.toList == b.toList, by simp only [eqB, hu], e⟩
        · exact .inr e
      · exact .inr e
    · rename_i fs hu
      simp only [vRow_eq, bR_eq] at e
      split at e
      · split at e
        · rename_i xs _ ys
          cases hs : P.stoodInHeld t with
          | true => rw [hs, if_pos rfl] at e; exact .inr e
          | false =>
            rw [hs, if_neg (by simp)] at e
            rcases eqFsC_ok (fun t a b yes e => eqC_ok d t a b yes e) _ e with ⟨q, h1, h2⟩ | h
            · exact .inl ⟨q, by simp only [eqB, hu, hs, cond_false]; exact h1, h2⟩
            · exact .inr h
        · exact .inr e
      · exact .inr e
    · rename_i n el hu
      split at e
      · rename_i it hi
        simp only [vRow_eq] at e
        split at e
        · split at e
          · rename_i xs _ ys
            rcases eqEsC_ok (fun t a b yes e => eqC_ok d t a b yes e) _ e with ⟨q, h1, h2⟩ | h
            · exact .inl ⟨q, by simp only [eqB, hu, hi]; exact h1, h2⟩
            · exact .inr h
          · exact .inr e
        · exact .inr e
      · exact .inr e
    · exact .inr e
theorem eqAgg_ok [Orc] {op : BinOp} {t : TypeId} {x y : Operand} {yt : TypeId} (ho : o.op = .binOp op t x y yt) (hc : o.op.operands.toList.all constOk = true) (hp : eqK P op t (opK x) (opK y) = some p) : HKok P G o p := by
  intro frz ts h yes no r e
  unfold eqK at hp
  cases hg : P.eqGuardType P.depth t with
  | true =>
    split at hp
    · simp only [Option.some.injEq] at hp
      subst hp
      simp only [bR_eq, hg, cond_true] at e
      exact .inr e
    · simp only [Option.some.injEq] at hp
      subst hp
      simp only [bR_eq, hg, cond_true] at e
      exact .inr e
    · cases hp
  | false =>
    have fin : ∀ xs ys q, opnd ts x = .agg xs → opnd ts y = .agg ys → (gr 6 (.agg xs) && gr 6 (.agg ys)) = true → eqB P 6 t (.agg xs) (.agg ys) = some q → ∀ v, (op = .eql → v = .bool q) → (op = .neq → v = .bool (!q)) → (op = .eql ∨ op = .neq) → stepOp P G frz o ts h = some (putS ts o.dst v, h) := fun xs ys q hx hy h1 h2 v e1 e2 hop =>
      pureW_step hc (fun X hX => by unfold stepOp; simp only [ho]; rw [← hX]; rfl) (by simp [notDefer, ho]) (by
        unfold pureOp
        rcases hop with rfl | rfl
        · simp only [ho, hx, hy, sEqAgg, hg, h1, Bool.not_true, Bool.or_self, cond_false, h2, orElse', e1 rfl]
        · simp only [ho, hx, hy, sEqAgg, hg, h1, Bool.not_true, Bool.or_self, cond_false, h2, orElse', e2 rfl])
    split at hp
    · simp only [Option.some.injEq] at hp
      subst hp
      simp only [vRow_eq, bR_eq, forceB_eq, opK_run, hg, Bool.false_eq_true, reduceIte] at e
      split at e
      · rename_i xs hx
        split at e
        · rename_i ys hy
          split at e
          · rename_i h1
            rcases eqC_ok _ _ _ _ _ e with ⟨q, h2, h3⟩ | h3
            · exact .inl ⟨_, _, h3, fin xs ys q hx hy h1 h2 _ (fun _ => rfl) (fun e => by cases e) (.inl rfl)⟩
            · exact .inr h3
          · exact .inr e
        · exact .inr e
      · exact .inr e
    · simp only [Option.some.injEq] at hp
      subst hp
      simp only [vRow_eq, bR_eq, forceB_eq, opK_run, hg, Bool.false_eq_true, reduceIte] at e
      split at e
      · rename_i xs hx
        split at e
        · rename_i ys hy
          split at e
          · rename_i h1
            rcases eqC_ok _ _ _ _ _ e with ⟨q, h2, h3⟩ | h3
            · exact .inl ⟨_, _, h3, fin xs ys q hx hy h1 h2 _ (fun e => by cases e) (fun _ => rfl) (.inr rfl)⟩
            · exact .inr h3
          · exact .inr e
        · exact .inr e
      · exact .inr e
    · cases hp
theorem load_ok [Orc] {t : TypeId} {a : Operand} (ho : o.op = .load t a) (hc : o.op.operands.toList.all constOk = true) (hp : loadK P G t (opK a) = some p) : HKok P G o p := by
  intro frz ts h yes no r e
  have fin : ∀ v, sLoad P G h.tr.get t (opnd ts a) = some v → stepOp P G frz o ts h = some (putS ts o.dst v, h) := fun v hv =>
    pureW_step hc (fun X hX => by unfold stepOp; simp only [ho]; rw [← hX]; rfl) (by simp [notDefer, ho]) (by simp only [pureOp, ho, hv])
  have old : ∀ b of v, opnd ts a = .pointer (some ⟨b, of, none⟩) → G.l = [] → readF P G.f t b of = some v → stepOp P G frz o ts h = some (putS ts o.dst v, h) := fun b of v hv hl hr => by
    refine fin v ?_
    simp only [hv, sLoad, cellsAt, hl, List.find?_nil, hr]
  unfold loadK at hp
  split at hp
  · rename_i d i hu hi
    cases hd : d.isRow with
    | true =>
      simp only [hd, cond_true, Option.some.injEq] at hp
      subst hp
      simp only [vPtr_eq, spotR_eq, nilR_eq, bR_eq, rowR_eq, opK_run] at e
      split at e
      · rename_i b of s hv
        cases s with
        | none =>
          simp only at e
          split at e
          · rename_i hl
            rcases cellsK_ok _ _ _ e with ⟨l, h1, h2⟩ | h2
            · exact .inl ⟨_, _, h2, old b of _ hv hl (by simp only [readF, hu, hi, hd, cond_true, h1])⟩
            · exact .inr h2
          · exact .inr e
        | some s' =>
          simp only at e
          split at e
          · rename_i h0
            have h0 := Nat.eq_of_beq_eq_true h0
            subst h0
            split at e
            · rename_i ty cs f hg
              rcases rowC_ok e with ⟨hle, e⟩ | e
              · refine .inl ⟨_, _, e, fin _ ?_⟩
                simp only [hv, sLoad, cellsAt, hg, readAt, hu, hi, hd, cond_true]
                rw [Nat.ble_eq_true_of_le hle]; rfl
              · exact .inr e
            · exact .inr e
          · exact .inr e
      · exact .inr e
    | false =>
      simp only [hd, cond_false, Option.some.injEq] at hp
      subst hp
      simp only [vPtr_eq, spotR_eq, nilR_eq, bR_eq, rowR_eq, getC_eq, oldC_eq, opK_run] at e
      split at e
      · rename_i b of s hv
        cases s with
        | none =>
          simp only at e
          split at e
          · rename_i hl
            cases hf : G.f b of with
            | none => rw [hf] at e; exact .inr e
            | some v =>
              rw [hf] at e
              simp only at e
              cases hg : gE 6 v with
              | false => rw [hg] at e; exact .inr e
              | true =>
                rw [hg, cond_true] at e
                exact .inl ⟨_, _, e, old b of _ hv hl (by simp only [readF, hu, hi, hd, cond_false, hf, hg, cond_true])⟩
          · exact .inr e
        | some s' =>
          simp only at e
          split at e
          · rename_i h0
            have h0 := Nat.eq_of_beq_eq_true h0
            subst h0
            split at e
            · rename_i ty cs f hg
              split at e
              · rename_i v hcell
                refine .inl ⟨_, _, e, fin _ ?_⟩
                simp only [hv, sLoad, cellsAt, hg, readAt, hu, hi, hd, cond_false, hcell]
              · exact .inr e
            · exact .inr e
          · exact .inr e
      · exact .inr e
  · cases hp
theorem field_ok [Orc] {s : TypeId} {x : Operand} {f : Nat} (ho : o.op = .fieldAddr s x f) (hc : o.op.operands.toList.all constOk = true) (hp : fieldK P s f (opK x) = some p) : HKok P G o p := by
  intro frz ts h yes no r e
  have fin : ∀ v, sField P s f (opnd ts x) = some v → stepOp P G frz o ts h = some (putS ts o.dst v, h) := fun v hv =>
    pureW_step hc (fun X hX => by unfold stepOp; simp only [ho]; rw [← hX]; rfl) (by simp [notDefer, ho]) (by simp only [pureOp, ho, hv])
  unfold fieldK at hp
  split at hp
  · rename_i fs hu
    split at hp
    · rename_i fd hf
      split at hp
      · rename_i i hi
        cases hz : Nat.beq i.size 0 with
        | true => rw [hz] at hp; cases hp
        | false =>
          simp only [hz, cond_false, Option.some.injEq] at hp
          subst hp
          simp only [vPtr_eq, forceN_eq, opK_run] at e
          split at e
          · rename_i b of sp hv
            refine .inl ⟨_, _, e, fin _ ?_⟩
            simp only [hv, sField, hu, hf, hi, hz, cond_false]; rfl
          · exact .inr e
      · cases hp
    · cases hp
  · cases hp
theorem index_ok [Orc] {t : TypeId} {x i : Operand} (ho : o.op = .indexAddr t x i) (hc : o.op.operands.toList.all constOk = true) (hp : indexK P t (opK x) (opK i) = some p) : HKok P G o p := by
  intro frz ts h yes no r e
  have fin : ∀ v, sIndexA P t (opnd ts x) (opnd ts i) = some v → stepOp P G frz o ts h = some (putS ts o.dst v, h) := fun v hv =>
    pureW_step hc (fun X hX => by unfold stepOp; simp only [ho]; rw [← hX]; rfl) (by simp [notDefer, ho]) (by simp only [pureOp, ho, hv, orElse'])
  have finF : ∀ v, sIndexA P t (opnd ts x) (opnd ts i) = none → sIndexF P t (opnd ts x) (opnd ts i) = some v → stepOp P G frz o ts h = some (putS ts o.dst v, h) := fun v hv hv2 =>
    pureW_step hc (fun X hX => by unfold stepOp; simp only [ho]; rw [← hX]; rfl) (by simp [notDefer, ho]) (by simp only [pureOp, ho, hv, hv2, orElse'])
  unfold indexK at hp
  split at hp
  · rename_i el hu
    split at hp
    · rename_i it hi
      simp only [Option.some.injEq] at hp
      subst hp
      simp only [natC_eq, vSlice_eq, oA_eq, spotR_eq, bR_eq, forceN_eq, opK_run] at e
      split at e
      · rename_i n hn
        split at e
        · rename_i a m c hv
          cases a with
          | none => exact .inr e
          | some ad =>
            obtain ⟨b, of, sp⟩ := ad
            simp only at e
            split at e
            · rename_i hlt
              cases sp with
              | none =>
                simp only at e
                refine .inl ⟨_, _, e, finF _ ?_ ?_⟩
                · simp only [hv, sIndexA, hn, hu, hi, Bool.and_false, cond_false]
                · simp only [hv, sIndexF, hn, hu, hi]
                  rw [show Nat.blt n m = Nat.ble (Nat.succ n) m from rfl, hlt]; rfl
              | some s =>
                simp only at e
                split at e
                · rename_i h0
                  rw [Bool.or_eq_true, Bool.and_eq_true] at h0
                  refine .inl ⟨_, _, e, fin _ ?_⟩
                  simp only [hv, sIndexA, hn, hu, hi]
                  rw [show Nat.blt n m = Nat.ble (Nat.succ n) m from rfl, hlt]
                  rcases h0 with h0 | ⟨h0, h1⟩
                  · have h0 := Nat.eq_of_beq_eq_true h0
                    subst h0
                    rfl
                  · have h0 := Nat.eq_of_beq_eq_true h0
                    have h1 := Nat.eq_of_beq_eq_true h1
                    subst h0 h1
                    rfl
                · exact .inr e
            · exact .inr e
        · exact .inr e
      · exact .inr e
    · cases hp
  · rename_i m el hu
    split at hp
    · rename_i it hi
      simp only [Option.some.injEq] at hp
      subst hp
      simp only [natC_eq, vPtr_eq, bR_eq, forceN_eq, opK_run] at e
      split at e
      · rename_i n hn
        split at e
        · rename_i b of sp hv
          split at e
          · rename_i hlt
            refine .inl ⟨_, _, e, fin _ ?_⟩
            simp only [hv, sIndexA, hn, hu, hi]
            rw [show Nat.blt n m = Nat.ble (Nat.succ n) m from rfl, hlt]; rfl
          · exact .inr e
        · exact .inr e
      · exact .inr e
    · cases hp
  · cases hp
theorem bndC_ok [Orc] {lo : Option Operand} {d : Nat} {ts : Fr} {yes : Nat → An} {no : An} {r : Value} (e : bndC (lo.map opK) d ts yes no = some r) : (∃ l, optNat (lo.map (opnd ts)) d = some l ∧ yes l = some r) ∨ no = some r := by
  cases lo with
  | none => exact .inl ⟨d, rfl, e⟩
  | some x =>
    have e : natC ((opK x).run ts) yes no = some r := e
    rw [natC_eq, opK_run] at e
    split at e
    · rename_i n hn
      exact .inl ⟨n, hn, e⟩
    · exact .inr e
theorem slice_ok [Orc] {t : TypeId} {x : Operand} {lo hi : Option Operand} (ho : o.op = .slice t x lo hi none) (hc : o.op.operands.toList.all constOk = true) (hp : sliceK P t (opK x) (lo.map opK) (hi.map opK) = some p) : HKok P G o p := by
  intro frz ts h yes no r e
  have fin : ∀ v, sSlice2 P t (opnd ts x) (lo.map (opnd ts)) (hi.map (opnd ts)) = none → sSliceF P t (opnd ts x) (lo.map (opnd ts)) (hi.map (opnd ts)) = some v → stepOp P G frz o ts h = some (putS ts o.dst v, h) := fun v hv hv2 =>
    pureW_step hc (fun X hX => by unfold stepOp; simp only [ho]; rw [← hX]; rfl) (by simp [notDefer, ho]) (by simp only [pureOp, ho, hv, hv2, orElse'])
  unfold sliceK at hp
  split at hp
  · rename_i el hu
    split at hp
    · rename_i it hit
      simp only [Option.some.injEq] at hp
      subst hp
      simp only [vSlice_eq, bR_eq, forceN_eq, opK_run] at e
      split at e
      · rename_i oa n c hv
        split at e
        · rename_i hg
          rcases bndC_ok e with ⟨l, hl, e⟩ | e
          · rcases bndC_ok e with ⟨hh, hhi, e⟩ | e
            · split at e
              · rename_i h1
                split at e
                · rename_i h2
                  refine .inl ⟨_, _, e, fin _ ?_ ?_⟩
                  · cases oa with
                    | none => simp only [hv, sSlice2, hu]
                    | some a =>
                      obtain ⟨b, o, sp⟩ := a
                      have hsp : sp = none := by simpa [grS, gr] using hg
                      subst hsp
                      simp only [hv, sSlice2, hu, hit, hl, hhi]
                      cases Nat.ble l hh <;> rfl
                  · simp only [hv, sSliceF, hu, hit, hl, hhi, show gr 6 (.slice oa n c) = true from hg, h1, h2, Bool.and_self, cond_true]
                    rfl
                · exact .inr e
              · exact .inr e
            · exact .inr e
          · exact .inr e
        · exact .inr e
      · exact .inr e
    · cases hp
  · cases hp
theorem pureOut_under {t : TypeId} {d : TypeDesc} (hu : P.underlying t = some d) : pureOut P (Go.underlying t) = some d := by
  unfold Go.underlying
  rw [pureOut_bind, show pureOut P (Go.program) = some P from rfl, Option.bind_some, hu]
  rfl
theorem len_ok [Orc] {c : Call} {x : Operand} (ho : o.op = .call c) (hcal : c.callee = .builtin .len) (hargs : c.args.toList = [x]) (hc : o.op.operands.toList.all constOk = true) (hp : lenK P c.argTypes (opK x) = some p) : HKok P G o p := by
  intro frz ts h yes no r e
  have fin : ∀ v, sLen P h.tr.get c.argTypes (opnd ts x) = some v → stepOp P G frz o ts h = some (putS ts o.dst v, h) := fun v hv =>
    pureW_step hc (fun X hX => by unfold stepOp; simp only [ho, hcal, hargs]; rw [← hX]; rfl) (by simp [notDefer, ho]) (by simp only [pureOp, ho, hcal, hargs, hv, orElse'])
  unfold lenK at hp
  split at hp
  · rename_i t ht
    split at hp
    · rename_i el hu
      simp only [Option.some.injEq] at hp
      subst hp
      simp only [vSlice_eq, forceN_eq, opK_run] at e
      split at e
      · rename_i a n c' hv
        refine .inl ⟨_, _, e, fin _ ?_⟩
        simp only [hv, sLen, ht, hu]; rfl
      · exact .inr e
    · rename_i hu
      simp only [Option.some.injEq] at hp
      subst hp
      simp only [vStr_eq, opK_run] at e
      split at e
      · rename_i s hv
        refine .inl ⟨_, _, e, ?_⟩
        have ea : c.args = #[x] := Array.toList_inj.1 (by simpa using hargs)
        have hops : (o.op.operands.toList.all fun z => gr 6 (opnd ts z)) = true := by
          simp [ho, Op.operands, Call.operands, hcal, ea, hv, gr]
        have ht' : c.argTypes[0]? = some t := ht
        have hrun : pureOut P (execOp (opnd ts) o) = some (.value (.int .i64 (Int.ofNat s.size))) := by
          simp only [execOp, ho, resolve, hcal, invoke, builtin, ea, List.map_toArray, List.map_cons, List.map_nil, pure_bind, hv, Builtin.len_, ht']
          have h0 : (#[Value.string s] : Array Value)[0]? = some (.string s) := rfl
          simp only [h0, pureOut_bind, pureOut_under hu, Option.bind_some]
          rfl
        have key : sGround P (opnd ts) o = some (.int .i64 (Int.ofNat s.size)) := ground_pure (_get := h.tr.get) (by simp [ho, gKind, hcal]) hops hrun rfl
        have hs : sLen P h.tr.get c.argTypes (opnd ts x) = none := by simp only [hv, sLen, ht, hu]
        exact pureW_step hc (fun X hX => by unfold stepOp; simp only [ho, hcal, hargs]; rw [← hX]; rfl) (by simp [notDefer, ho]) (by unfold pureOp; simp only [ho, hcal, hargs, hs, key, orElse'])
      · exact .inr e
    · cases hp
  · cases hp
theorem cells_one {v : Value} (h : oneV v = true) : v.cells = #[v] := by
  cases v <;> first | rfl | simp [oneV] at h
theorem vAgg_one {α : Type} (v : Value) (yes no : α) : vAgg v yes no = if oneV v = true then no else yes := by cases v <;> rfl
theorem store_ok [Orc] {t : TypeId} {a x : Operand} (ho : o.op = .store t a x) (hc : o.op.operands.toList.all constOk = true) (hp : storeK P t (opK a) (opK x) = some p) : HKok P G o p := by
  intro frz ts h yes no r e
  unfold storeK at hp
  split at hp
  · rename_i i hi
    cases hz : Nat.beq i.size 1 with
    | false => rw [hz] at hp; cases hp
    | true =>
      simp only [hz, cond_true, Option.some.injEq] at hp
      subst hp
      have hz := Nat.eq_of_beq_eq_true hz
      simp only [nilR_eq, vPtr_eq, oR_eq, bR_eq, rowR_eq, vAgg_one, opK_run] at e
      split at e
      · split at e
        · rename_i b of sp hv
          cases sp with
          | none => exact .inr e
          | some s =>
            simp only at e
            split at e
            · rename_i h0
              have h0 := Nat.eq_of_beq_eq_true h0
              subst h0
              split at e
              · rename_i ty cs f hg
                split at e
                · rename_i hone
                  split at e
                  · rename_i hle
                    rw [lenR_eq] at hle
                    refine .inl ⟨_, _, e, ?_⟩
                    have hlt := Nat.le_of_ble_eq_true hle
                    unfold stepOp
                    have hcn := cells_one hone
                    have hsl : sStore P h [] t (opnd ts a) (opnd ts x) = some (h.put b (.row ty (setR cs of (opnd ts x)) f)) := by
                      simp only [hv, sStore, hg, hi, hcn]
                      have hall : (frzOk h [] (2 * f) && Nat.beq (#[opnd ts x] : Array Value).size i.size && (#[opnd ts x] : Array Value).toList.all oneV && Nat.ble (of + (#[opnd ts x] : Array Value).toList.length) cs.length) = true := by
                        simp only [List.all_cons, List.all_nil, hone, Bool.and_true, Bool.and_eq_true]
                        refine ⟨⟨rfl, ?_⟩, hle⟩
                        rw [hz]; rfl
                      rw [hall, cond_true, setR_eq]
                      congr 3
                      rw [List.set_eq_take_append_cons_drop, if_pos (by omega)]
                      simp
                    rw [hc]
                    simp only [ho, notDefer, Bool.true_and, cond_true, hsl, fin0]
                  · exact .inr e
                · exact .inr e
              · exact .inr e
            · exact .inr e
        · exact .inr e
      · exact .inr e
  · cases hp
theorem allOne_eq : ∀ l : List Value, allOne l = l.all oneV
  | [] => rfl
  | v :: l => by
    show vAgg v false (allOne l) = _
    rw [vAgg_one, allOne_eq l, List.all_cons]
    cases oneV v <;> rfl
theorem storeA_ok [Orc] {t : TypeId} {a x : Operand} (ho : o.op = .store t a x) (hc : o.op.operands.toList.all constOk = true) (hp : storeAK P t (opK a) (opK x) = some p) : HKok P G o p := by
  intro frz ts h yes no r e
  unfold storeAK at hp
  split at hp
  · rename_i i hi
    simp only [Option.some.injEq] at hp
    subst hp
    simp only [nilR_eq, vPtr_eq, oR_eq, bR_eq, rowR_eq, cellsC_eq, allOne_eq, opK_run] at e
    split at e
    · split at e
      · rename_i b of sp hv
        cases sp with
        | none => exact .inr e
        | some s =>
          simp only at e
          split at e
          · rename_i h0
            have h0 := Nat.eq_of_beq_eq_true h0
            subst h0
            split at e
            · rename_i ty cs f hg
              split at e
              · rename_i hsz
                split at e
                · rename_i hone
                  split at e
                  · rename_i hle
                    rw [lenR_eq] at hle
                    refine .inl ⟨_, _, e, ?_⟩
                    unfold stepOp
                    have hsl : sStore P h [] t (opnd ts a) (opnd ts x) = some (h.put b (.row ty (appR (cs.take of) (appR (opnd ts x).cells.toList (cs.drop (Nat.add of i.size)))) f)) := by
                      simp only [hv, sStore, hg, hi]
                      have hall : (frzOk h [] (2 * f) && Nat.beq (opnd ts x).cells.size i.size && (opnd ts x).cells.toList.all oneV && Nat.ble (of + (opnd ts x).cells.toList.length) cs.length) = true := by
                        simp only [Bool.and_eq_true]
                        refine ⟨⟨⟨rfl, by rw [Nat.beq_eq]; exact hsz⟩, hone⟩, ?_⟩
                        rw [Array.length_toList, hsz]; exact hle
                      rw [hall, cond_true, appR_eq, appR_eq, Array.length_toList, hsz]
                      simp
                    rw [hc]
                    simp only [ho, notDefer, Bool.true_and, cond_true, hsl, fin0]
                  · exact .inr e
                · exact .inr e
              · exact .inr e
            · exact .inr e
          · exact .inr e
      · exact .inr e
    · exact .inr e
  · cases hp
theorem box_ok [Orc] {t : TypeId} {x : Operand} (ho : o.op = .box t x) (hc : o.op.operands.toList.all constOk = true) (hp : boxK P t (opK x) = some p) : HKok P G o p := by
  intro frz ts h yes no r e
  unfold boxK at hp
  split at hp
  · rename_i i hi
    simp only [Option.some.injEq] at hp
    subst hp
    simp only [bR_eq, cellsC_eq, forceN_eq, nextC_eq, opK_run] at e
    split at e
    · rename_i hl
      split at e
      · rename_i hsz
        refine .inl ⟨_, _, e, ?_⟩
        unfold stepOp
        have hsl : sBox P h frz t (opnd ts x) = some (.pointer (some ⟨h.next, 0, some 0⟩), h.push (.row t (opnd ts x).cells.toList h.next)) := by
          simp only [sBox, hi]
          have hall : (frzLive h frz && Nat.beq (opnd ts x).cells.size i.size) = true := by rw [Bool.and_eq_true]; exact ⟨hl, by rw [Nat.beq_eq]; exact hsz⟩
          rw [hall]; rfl
        rw [hc]
        simp only [ho, notDefer, Bool.true_and, cond_true, hsl, fin]
      · exact .inr e
    · exact .inr e
  · cases hp
theorem segsOf_all {place : Nat → Option (Nat × Nat)} {ts : Fr} : ∀ (ps : List (Nat × Operand)) (segs : List Seg) (qs : List (Nat × List Value)), segsOf place ps = some segs → All2 (fun (s : Seg) (q : Nat × List Value) => s.1 = q.1 ∧ s.2.1 = q.2.length ∧ (s.2.2.run ts).cells.toList = q.2) segs qs →
    All2 (fun (p : Nat × Value) (q : Nat × List Value) => place p.1 = some (q.1, q.2.length) ∧ p.2.cells.toList = q.2) (ps.map fun p => (p.1, opnd ts p.2)) qs
  | [], _, _, h, ha => by
    simp only [segsOf, Option.some.injEq] at h
    subst h
    cases ha
    exact .nil
  | (i, x) :: ps, segs, qs, h, ha => by
    simp only [segsOf] at h
    split at h
    · rename_i off size l hpl hl
      simp only [Option.some.injEq] at h
      subst h
      cases ha with
      | cons h1 h2 =>
        obtain ⟨g1, g2, g3⟩ := h1
        simp only at g1 g2 g3
        refine .cons ⟨?_, ?_⟩ (segsOf_all ps l _ hl h2)
        · simp only; rw [hpl, g1, g2]
        · simp only; rw [← opK_run]; exact g3
    · cases h
theorem build_ok [Orc] {t : TypeId} {parts : Array (Nat × Operand)} (ho : o.op = .build t parts) (hc : o.op.operands.toList.all constOk = true) (hp : buildK P t parts.toList = some p) : HKok P G o p := by
  intro frz ts h yes no r e
  have fin : ∀ v, sBuild P t (parts.toList.map fun p => (p.1, opnd ts p.2)) = some v → stepOp P G frz o ts h = some (putS ts o.dst v, h) := fun v hv =>
    pureW_step hc (fun X hX => by unfold stepOp; simp only [ho]; rw [← hX]; rfl) (by simp [notDefer, ho]) (by simp only [pureOp, ho, hv])
  unfold buildK at hp
  split at hp
  · rename_i it fields hi hu
    split at hp
    · rename_i z places hz hpl
      split at hp
      · rename_i segs hs
        cases hq : (z.cells.toList.all (gr 6) && segOk z.cells.toList.length 0 segs) with
        | false => rw [hq] at hp; cases hp
        | true =>
          rw [hq] at hp
          simp only [cond_true, Option.some.injEq] at hp
          subst hp
          rw [Bool.and_eq_true] at hq
          rcases outK_ok segs 0 _ hq.2 e with ⟨qs, h1, h2, h3⟩ | hn
          · refine .inl ⟨_, _, h3, fin _ ?_⟩
            obtain ⟨R, hR1, hR2⟩ := fill_out (place := (places.toArray[·]?)) (z := z.cells.toList) _ qs 0 [] z.cells (by simp) rfl (Nat.zero_le _) (segsOf_all _ _ _ hs h1) h2
            simp only [sBuild, hi, hz, hq.1, cond_true, Program.built, hu, hpl, hR1]
            congr 2
            exact Array.toList_inj.1 (by rw [hR2]; rfl)
          · exact .inr hn
      · cases hp
    · cases hp
  · cases hp
theorem buildSlice_ok [Orc] {t : TypeId} {len : Nat} {parts : Array (Nat × Operand)} (ho : o.op = .buildSlice t len parts) (hc : o.op.operands.toList.all constOk = true) (hp : buildSliceK P t len parts.toList = some p) : HKok P G o p := by
  intro frz ts h yes no r e
  unfold buildSliceK at hp
  split at hp
  · rename_i el hu
    split at hp
    · rename_i i hi
      split at hp
      · rename_i z hz
        split at hp
        · rename_i segs hs
          cases hq : (z.cells.toList.all (gr 6) && Nat.ble (len * i.size) 65536 && (Nat.blt 0 i.size) && Nat.beq z.cells.size i.size && segOk (madeC z.cells (len * i.size)).toList.length 0 segs) with
          | false => rw [hq] at hp; cases hp
          | true =>
            rw [hq] at hp
            simp only [cond_true, Option.some.injEq] at hp
            subst hp
            simp only [Bool.and_eq_true] at hq
            obtain ⟨⟨⟨⟨q1, q2⟩, q3⟩, q4⟩, q5⟩ := hq
            simp only [bR_eq] at e
            split at e
            · rename_i hl
              rcases outK_ok segs 0 _ q5 e with ⟨qs, h1, h2, h3⟩ | hn
              · rw [nextC_eq] at h3
                refine .inl ⟨_, _, h3, ?_⟩
                obtain ⟨R, hR1, hR2⟩ := fill_out (place := fun k => some (k * i.size, i.size)) (z := (madeC z.cells (len * i.size)).toList) _ qs 0 [] (madeC z.cells (len * i.size)) (by simp) rfl (Nat.zero_le _) (segsOf_all _ _ _ hs h1) h2
                unfold stepOp
                have hsl : sBuildSlice P h frz t len (parts.toList.map fun p => (p.1, opnd ts p.2)) = some (.slice (some ⟨h.next, 0, some 0⟩) len len, h.push (.row el (outL (madeC z.cells (len * i.size)).toList 0 qs) h.next)) := by
                  simp only [sBuildSlice, hu, hi, hz]
                  have hall : (frzLive h frz && z.cells.toList.all (gr 6) && Nat.ble (len * i.size) 65536 && (Nat.blt 0 i.size) && Nat.beq z.cells.size i.size) = true := by
                    simp only [Bool.and_eq_true]
                    exact ⟨⟨⟨⟨hl, q1⟩, q2⟩, q3⟩, q4⟩
                  rw [hall, cond_true, hR1]
                  simp only [hR2, List.nil_append]
                rw [hc]
                simp only [ho, notDefer, Bool.true_and, cond_true, hsl, fin]
              · exact .inr hn
            · exact .inr e
        · cases hp
      · cases hp
    · cases hp
  · cases hp
theorem alloc_ok [Orc] {t : TypeId} (ho : o.op = .alloc t) (hc : o.op.operands.toList.all constOk = true) (hp : allocK P t = some p) : HKok P G o p := by
  intro frz ts h yes no r e
  unfold allocK at hp
  split at hp
  · rename_i i hi
    split at hp
    · rename_i z hz
      cases hq : (z.cells.toList.all (gr 6) && Nat.beq z.cells.size i.size) with
      | false => rw [hq] at hp; cases hp
      | true =>
        simp only [hq, cond_true, Option.some.injEq] at hp
        subst hp
        simp only [bR_eq, forceN_eq, nextC_eq] at e
        split at e
        · rename_i hl
          refine .inl ⟨_, _, e, ?_⟩
          unfold stepOp
          rw [Bool.and_eq_true] at hq
          have hsl : sAlloc P h frz t = some (.pointer (some ⟨h.next, 0, some 0⟩), h.push (.row t z.cells.toList h.next)) := by
            simp only [sAlloc, hi, hz]
            have hall : (frzLive h frz && z.cells.toList.all (gr 6) && Nat.beq z.cells.size i.size) = true := by rw [hl, hq.1, hq.2]; rfl
            rw [hall]; rfl
          rw [hc]
          simp only [ho, notDefer, Bool.true_and, cond_true, hsl, fin]
        · exact .inr e
    · cases hp
  · cases hp
theorem not_ok [Orc] {t : TypeId} {x : Operand} (ho : o.op = .unOp .not t x) (hc : o.op.operands.toList.all constOk = true) : HKok P G o (notK (opK x)) := by
  intro frz ts h yes no r e
  unfold notK at e
  simp only [vBool_eq, bR_eq, opK_run] at e
  split at e
  · rename_i b hb
    have fin : stepOp P G frz o ts h = some (putS ts o.dst (.bool (!b)), h) := by
      refine pureW_step hc (fun X hX => by unfold stepOp; simp only [ho]; rw [← hX]; rfl) (by simp [notDefer, ho]) ?_
      have key : sGround P (opnd ts) o = some (.bool (!b)) := ground_pure (_get := h.tr.get) (by simp [ho, gKind]) (by simp [ho, Op.operands, hb, gr_bool]) (by simp only [execOp, ho, hb]; rfl) rfl
      unfold pureOp
      simp only [ho, key]
    cases b with
    | true => exact .inl ⟨_, _, e, fin⟩
    | false => exact .inl ⟨_, _, e, fin⟩
  · exact .inr e
theorem minmax_ok {c : Call} {x y : Operand} (ho : o.op = .call c) (hargs : c.args.toList = [x, y]) (hc : o.op.operands.toList.all constOk = true) {f : Int → Int → (Value → An) → An} {g : Int → Int → Value} (hf : ∀ a b yes, f a b yes = yes (g a b)) (hg : ∀ a b, gr 6 (g a b) = true)
    (hcal : c.callee = .builtin .min ∧ (∀ a b, (Builtin.min2 (.int .i64 a) (.int .i64 b) : Sem Value) = pure (g a b)) ∨ c.callee = .builtin .max ∧ (∀ a b, (Builtin.max2 (.int .i64 a) (.int .i64 b) : Sem Value) = pure (g a b))) : HKok P G o (bin2 (opK x) (opK y) f) := by
  intro frz ts h yes no r e
  rcases bin2_ok hf e with ⟨a, b, hx, hy, hk⟩ | hk
  · rw [opK_run] at hx hy
    refine .inl ⟨_, _, hk, ?_⟩
    have ea : c.args = #[x, y] := Array.toList_inj.1 (by simpa using hargs)
    have hops : (o.op.operands.toList.all fun z => gr 6 (opnd ts z)) = true := by
      rcases hcal with ⟨hcal, _⟩ | ⟨hcal, _⟩ <;> simp [ho, Op.operands, Call.operands, hcal, ea, hx, hy, gr_int]
    have hkind : gKind o.op = true := by rcases hcal with ⟨hcal, _⟩ | ⟨hcal, _⟩ <;> simp [ho, gKind, hcal]
    have hrun : pureOut P (execOp (opnd ts) o) = some (.value (g a b)) := by
      rcases hcal with ⟨hcal, h2⟩ | ⟨hcal, h2⟩
      · simp only [execOp, ho, resolve, hcal, invoke, builtin, ea, List.map_toArray, List.map_cons, List.map_nil, pure_bind, hx, hy, Builtin.min_, List.foldlM_cons, List.foldlM_nil, h2, bind_pure]
        rfl
      · simp only [execOp, ho, resolve, hcal, invoke, builtin, ea, List.map_toArray, List.map_cons, List.map_nil, pure_bind, hx, hy, Builtin.max_, List.foldlM_cons, List.foldlM_nil, h2, bind_pure]
        rfl
    have key : sGround P (opnd ts) o = some (g a b) := ground_pure (_get := h.tr.get) hkind hops hrun (hg a b)
    rcases hcal with ⟨hcal, _⟩ | ⟨hcal, _⟩
    · exact pureW_step hc (fun X hX => by unfold stepOp; simp only [ho, hcal, hargs]; rw [← hX]; rfl) (by simp [notDefer, ho]) (by unfold pureOp; simp only [ho, hcal, hargs, key])
    · exact pureW_step hc (fun X hX => by unfold stepOp; simp only [ho, hcal, hargs]; rw [← hX]; rfl) (by simp [notDefer, ho]) (by unfold pureOp; simp only [ho, hcal, hargs, key])
  · exact .inr hk
theorem vTup_eq {α : Type} (v : Value) (yes : List Value → α) (no : α) : vTup v yes no = match v with
  | .tuple vs => yes vs.toList
  | _ => no := by cases v <;> rfl
theorem extract_ok [Orc] {x : Operand} {i : Nat} (ho : o.op = .extract x i) (hc : o.op.operands.toList.all constOk = true) : HKok P G o (extractK (opK x) i) := by
  intro frz ts h yes no r e
  unfold extractK at e
  simp only [vTup_eq, getC_eq, opK_run] at e
  split at e
  · rename_i vs hv
    split at e
    · rename_i v hi
      exact .inl ⟨_, _, e, pureW_step hc (fun X hX => by unfold stepOp; simp only [ho]; rw [← hX]; rfl) (by simp [notDefer, ho]) (by simp only [pureOp, ho, hv, hi])⟩
    · exact .inr e
  · exact .inr e
theorem listK_eq (ts : Fr) : ∀ l : List Operand, listK l ts = l.map (opnd ts)
  | [] => rfl
  | x :: l => by rw [listK, opK_run, listK_eq ts l]; rfl
theorem makeFunc_ok {f : FuncId} {first captured : Array Operand} (ho : o.op = .makeFunc (.func f) first captured) (hc : o.op.operands.toList.all constOk = true) : HKok P G o (makeFuncK f first.toList captured.toList) := by
  intro frz ts h yes no r e
  unfold makeFuncK at e
  simp only [listK_eq] at e
  refine .inl ⟨_, _, e, pureW_step hc (fun X hX => by unfold stepOp; simp only [ho]; rw [← hX]; rfl) (by simp [notDefer, ho]) ?_⟩
  simp only [pureOp, ho, Option.some.injEq, Value.func.injEq, true_and]
  exact ⟨Array.toList_inj.1 (by simp), Array.toList_inj.1 (by simp)⟩
section
variable {G : Gl} {h : SH} {frz : List Nat} {at' : Array TypeId} {t t' el : TypeId} {i : TypeInfo} {z : Value} (hts : at'.toList = [t, t']) (q1 : Nat.beq t t' = true) (hu : P.underlying t = some (.slice el)) (hi : P.info? el = some i) (hz : i.zero = some z) (hl : frzLive h frz = true) (q2 : Nat.blt 0 i.size = true) (q3 : Nat.beq z.cells.size i.size = true) (q4 : Nat.ble i.bytes 65536 = true)
include hts q1 hu hi hz hl q2 q3 q4
theorem appZ_ok [Orc] {s x : Value} {csx : List Value} (hnews : sNews G h i.size x = some (0, csx)) (hone : csx.all oneV = true) {yes : KV} {no : An} {r : Value} (e : appZ h s yes no = some r) : (∃ v h', yes v h' = some r ∧ sAppend P G h frz at' s x = some (v, h')) ∨ no = some r := by
  unfold appZ at e
  simp only [vSlice_eq, bR_eq, oR_eq] at e
  split at e
  · rename_i sa n c
    cases sa with
    | none =>
      simp only at e
      split at e
      · rename_i hn
        rw [Bool.and_eq_true] at hn
        obtain rfl := Nat.eq_of_beq_eq_true hn.1
        obtain rfl := Nat.eq_of_beq_eq_true hn.2
        refine .inl ⟨_, _, e, ?_⟩
        unfold sAppend
        simp only [hts, q1, hu, hi, hz, hnews, cond_true]
        rw [hl, q2, q3, q4, hone]; rfl
      · exact .inr e
    | some ad =>
      obtain ⟨b, of, sp⟩ := ad
      simp only at e
      cases sp with
      | none =>
        simp only at e
        split at e
        · rename_i hnc
          refine .inl ⟨_, _, e, ?_⟩
          unfold sAppend
          simp only [hts, q1, hu, hi, hz, hnews, cond_true]
          rw [hl, q2, q3, q4, hone]
          simp only [Bool.and_true, Nat.beq_refl, hnc, cond_true]; rfl
        · exact .inr e
      | some sp =>
        simp only at e
        split at e
        · rename_i hsp
          obtain rfl := Nat.eq_of_beq_eq_true hsp
          split at e
          · rename_i hnc
            refine .inl ⟨_, _, e, ?_⟩
            unfold sAppend
            simp only [hts, q1, hu, hi, hz, hnews, cond_true]
            rw [hl, q2, q3, q4, hone]
            simp only [Bool.and_true, Nat.beq_refl, hnc, cond_true]; rfl
          · exact .inr e
        · rename_i hsp
          refine .inl ⟨_, _, e, ?_⟩
          unfold sAppend
          simp only [hts, q1, hu, hi, hz, hnews, cond_true]
          rw [hl, q2, q3, q4, hone]
          cases sp with
          | zero => exact absurd rfl hsp
          | succ sp => rfl
  · exact .inr e
theorem appN_ok [Orc] {s x : Value} {m : Nat} {csx : List Value} (hnews : sNews G h i.size x = some (m, csx)) {yes : KV} {no : An} {r : Value} (e : appN i.size i.bytes el frz h s csx m yes no = some r) : (∃ v h', yes v h' = some r ∧ sAppend P G h frz at' s x = some (v, h')) ∨ no = some r := by
  unfold appN at e
  simp only [bR_eq] at e
  split at e
  · rename_i hone
    rw [allOne_eq] at hone
    split at e
    · rename_i hm6
      split at e
      · rename_i hm0
        obtain rfl := Nat.eq_of_beq_eq_true hm0
        exact appZ_ok hts q1 hu hi hz hl q2 q3 q4 hnews hone e
      · rename_i hm0
        have hm0 : Nat.beq m 0 = false := (Bool.not_eq_true _).mp hm0
        unfold appS at e
        simp only [vSlice_eq, oR_eq, bR_eq] at e
        split at e
        · rename_i sa n cn
          cases sa with
          | none =>
            simp only at e
            split at e
            · rename_i hn
              rw [Bool.and_eq_true] at hn
              have hn0 := Nat.eq_of_beq_eq_true hn.1
              have hc0 := Nat.eq_of_beq_eq_true hn.2
              subst hn0 hc0
              rw [nextC_eq] at e
              refine .inl ⟨_, _, e, ?_⟩
              unfold sAppend
              simp only [hts, q1, hu, hi, hz, hnews, cond_true]
              rw [hl, q2, q3, q4, hone, hm6, hm0]; rfl
            · exact .inr e
          | some ad =>
            obtain ⟨b, of, sp⟩ := ad
            simp only at e
            cases sp with
            | none =>
              simp only at e
              split at e
              · rename_i hn
                rw [Bool.and_eq_true] at hn
                have hn0 := Nat.eq_of_beq_eq_true hn.1
                have hc0 := Nat.eq_of_beq_eq_true hn.2
                subst hn0 hc0
                rw [nextC_eq] at e
                refine .inl ⟨_, _, e, ?_⟩
                unfold sAppend
                simp only [hts, q1, hu, hi, hz, hnews, cond_true]
                rw [hl, q2, q3, q4, hone, hm6, hm0]
                simp only [Bool.and_true, cond_true, cond_false, show Nat.ble (m + 0) (limB i.bytes) = true from hm6]; rfl
              · exact .inr e
            | some sp =>
              simp only at e
              split at e
              · rename_i hsp
                have hsp := Nat.eq_of_beq_eq_true hsp
                subst hsp
                split at e
                · rename_i hof
                  have hof' := Nat.eq_of_beq_eq_true hof
                  subst hof'
                  rw [rowR_eq] at e
                  split at e
                  · rename_i ty cs f hg
                    split at e
                    · rename_i hty
                      split at e
                      · rename_i hn6
                        split at e
                        · rename_i hln
                          rw [lenR_eq] at hln
                          have hln := Nat.eq_of_beq_eq_true hln
                          split at e
                          · rename_i hfz
                            rw [nextC_eq, longS_eq, growL_eq, appR_eq] at e
                            refine .inl ⟨_, _, e, ?_⟩
                            unfold sAppend
                            simp only [hts, q1, hu, hi, hz, hnews, cond_true]
                            rw [hl, q2, q3, q4, hone, hm6, hm0]
                            simp only [Bool.and_true, cond_true, cond_false, hn6, hg]
                            rw [show Nat.ble (n * i.size) cs.length = true from by rw [Nat.ble_eq, hln]; exact Nat.le_refl _, hty, hfz]
                            simp only [Nat.beq_refl, Bool.and_true, cond_true]
                            rw [List.take_of_length_le (by rw [hln]; exact Nat.le_refl _)]
                            rfl
                          · exact .inr e
                        · exact .inr e
                      · exact .inr e
                    · exact .inr e
                  · exact .inr e
                · exact .inr e
              · split at e
                · rename_i hsp
                  have hsp := Nat.eq_of_beq_eq_true hsp
                  subst hsp
                  split at e
                  · rename_i hof
                    have hof' := Nat.eq_of_beq_eq_true hof
                    subst hof'
                    rw [rowR_eq] at e
                    split at e
                    · rename_i ty cs f hg
                      split at e
                      · rename_i hn6
                        split at e
                        · exact .inr e
                        · rename_i hroom
                          split at e
                          · rename_i hln
                            rw [lenR_eq] at hln
                            have hln := Nat.eq_of_beq_eq_true hln
                            rw [nextC_eq, appR_eq] at e
                            refine .inl ⟨_, _, e, ?_⟩
                            have hroom' : Nat.ble (n + m) cn = false := (Bool.not_eq_true _).mp hroom
                            unfold sAppend
                            simp only [hts, q1, hu, hi, hz, hnews, cond_true]
                            rw [hl, q2, q3, q4, hone, hm6, hm0]
                            simp only [Bool.and_true, cond_true, cond_false, hn6, hg, hroom', rowPart, Nat.zero_add]
                            rw [show Nat.ble (n * i.size) cs.length = true from by rw [Nat.ble_eq, hln]; exact Nat.le_refl _]
                            simp only [cond_true, List.drop_zero]
                            rw [List.take_of_length_le (by rw [hln]; exact Nat.le_refl _)]
                            rfl
                          · exact .inr e
                      · exact .inr e
                    · exact .inr e
                  · exact .inr e
                · exact .inr e
        · exact .inr e
    · exact .inr e
  · exact .inr e
end
theorem append_ok [Orc] {c : Call} {s x : Operand} (ho : o.op = .call c) (hcal : c.callee = .builtin .append) (hargs : c.args.toList = [s, x]) (hc : o.op.operands.toList.all constOk = true) (hp : appendK P G c.argTypes (opK s) (opK x) = some p) : HKok P G o p := by
  intro frz ts h yes no r e
  have fin' : ∀ v h', sAppend P G h frz c.argTypes (opnd ts s) (opnd ts x) = some (v, h') → stepOp P G frz o ts h = some (putS ts o.dst v, h') := fun v h' hv => by
    unfold stepOp
    rw [hc]
    simp only [ho, notDefer, Bool.true_and, cond_true, hcal, hargs, hv, fin]
  have fin2 : (∃ v h', yes v h' = some r ∧ sAppend P G h frz c.argTypes (opnd ts s) (opnd ts x) = some (v, h')) ∨ no = some r → (∃ v h', yes v h' = some r ∧ stepOp P G frz o ts h = some (putS ts o.dst v, h')) ∨ no = some r := fun q => by
    rcases q with ⟨v, h', q1, q2⟩ | q
    · exact .inl ⟨v, h', q1, fin' v h' q2⟩
    · exact .inr q
  unfold appendK at hp
  split at hp
  · rename_i t t' hts
    split at hp
    · rename_i el hu
      split at hp
      · rename_i i hi
        split at hp
        · rename_i z hz
          cases hq : (Nat.beq t t' && Nat.blt 0 i.size && Nat.beq z.cells.size i.size && Nat.ble i.bytes 65536) with
          | false => rw [hq] at hp; cases hp
          | true =>
            simp only [hq, cond_true, Option.some.injEq] at hp
            subst hp
            simp only [Bool.and_eq_true] at hq
            obtain ⟨⟨⟨q1, q2⟩, q3⟩, q4⟩ := hq
            simp only [bR_eq, vSlice_eq, oR_eq, opK_run] at e
            split at e
            · rename_i hl
              split at e
              · rename_i ax m cx hx
                cases ax with
                | none =>
                  simp only at e
                  split at e
                  · rename_i hmc
                    rw [Bool.and_eq_true] at hmc
                    obtain rfl := Nat.eq_of_beq_eq_true hmc.1
                    obtain rfl := Nat.eq_of_beq_eq_true hmc.2
                    exact fin2 (appZ_ok hts q1 hu hi hz hl q2 q3 q4 (csx := []) (by rw [hx]; rfl) rfl e)
                  · exact .inr e
                | some ad =>
                  obtain ⟨bx, ox, sx⟩ := ad
                  simp only at e
                  cases sx with
                  | none =>
                    simp only [readR_eq] at e
                    split at e
                    · rename_i l hr
                      exact fin2 (appN_ok hts q1 hu hi hz hl q2 q3 q4 (by rw [hx]; simp only [sNews]; rw [show readO G.f bx ox (m * i.size) = some l from hr]; rfl) e)
                    · exact .inr e
                  | some sx =>
                    simp only at e
                    split at e
                    · rename_i hsx
                      have hsx := Nat.eq_of_beq_eq_true hsx
                      subst hsx
                      split at e
                      · rename_i hox
                        have hox := Nat.eq_of_beq_eq_true hox
                        subst hox
                        rw [rowR_eq] at e
                        split at e
                        · rename_i tx csx fx hgx
                          split at e
                          · rename_i hlen
                            rw [lenR_eq] at hlen
                            have hlen := Nat.eq_of_beq_eq_true hlen
                            refine fin2 (appN_ok hts q1 hu hi hz hl q2 q3 q4 ?_ e)
                            rw [hx]
                            simp only [sNews, rowPart, hgx, Nat.zero_add]
                            rw [show Nat.ble (m * i.size) csx.length = true from by rw [Nat.ble_eq, hlen]; exact Nat.le_refl _]
                            simp only [cond_true, List.drop_zero, Option.map_some]
                            rw [List.take_of_length_le (by rw [hlen]; exact Nat.le_refl _)]
                          · exact .inr e
                        · exact .inr e
                      · exact .inr e
                    · exact .inr e
              · exact .inr e
            · exact .inr e
        · cases hp
      · cases hp
    · cases hp
  · cases hp
theorem ground_step {frz : List Nat} {ts : Fr} {h : SH} {v : Value} (hc : o.op.operands.toList.all constOk = true) (hk : gKind o.op = true) (ha : (o.op.operands.toList.all fun x => gr 6 (opnd ts x)) = true) (hr : pureOut P (execOp (opnd ts) o) = some (.value v)) (hg : gr 6 v = true)
    (hs : ∀ X : Option (Fr × SH), (match pureOp P G h.tr.get (opnd ts) o with
      | some v => some (putS ts o.dst v, h)
      | none => none) = X → stepOp P G frz o ts h = cond (notDefer o && o.op.operands.toList.all constOk) X none) (hd : notDefer o = true) (hp : sGround P (opnd ts) o = some v → pureOp P G h.tr.get (opnd ts) o = some v) : stepOp P G frz o ts h = some (putS ts o.dst v, h) :=
  pureW_step hc hs hd (hp (ground_pure (_get := h.tr.get) hk ha hr hg))
theorem cmp8_ok [Orc] {op : BinOp} {t : TypeId} {x y : Operand} {yt : TypeId} (ho : o.op = .binOp op t x y yt) (hc : o.op.operands.toList.all constOk = true) (hp : cmp8K op (opK x) (opK y) = some p) : HKok P G o p := by
  have fin : ∀ {f : Int → Int → Bool}, (∀ (ρ : Operand → Value) (a b : Int), ρ x = .int .u8 a → ρ y = .int .u8 b → pureOut P (execOp ρ o) = some (.value (.bool (f a b)))) → HKok P G o (bin8 (opK x) (opK y) f) := fun {f} hf frz ts h yes no r e => by
    unfold bin8 at e
    simp only [vInt_eq, k8_eq, forceB_eq, opK_run] at e
    split at e
    · rename_i k a hx
      split at e
      · rename_i hk
        subst hk
        split at e
        · rename_i k' b hy
          split at e
          · rename_i hk
            subst hk
            refine .inl ⟨_, _, e, ?_⟩
            exact ground_step hc (by simp [ho, gKind]) (by simp [ho, Op.operands, hx, hy, gr_int]) (hf _ a b hx hy) rfl (fun X hX => by unfold stepOp; simp only [ho]; rw [← hX]; rfl) (by simp [notDefer, ho]) (fun hg => by unfold pureOp; simp only [ho, hx, hy, sEqAgg, hg, orElse'])
          · exact .inr e
        · exact .inr e
      · exact .inr e
    · exact .inr e
  cases op <;> simp only [cmp8K, Option.some.injEq, reduceCtorEq] at hp <;> subst hp <;> refine fin fun ρ a b hx hy => ?_ <;> simp [execOp, ho, hx, hy, eqGuard, Go.binOp, Op.intCmp, pureOut_pure, bne, ltI_eq, leI_eq, eqI_eq]
theorem strEq_ok [Orc] {op : BinOp} {t : TypeId} {x y : Operand} {yt : TypeId} (ho : o.op = .binOp op t x y yt) (hc : o.op.operands.toList.all constOk = true) (hp : strEqK op (opK x) (opK y) = some p) : HKok P G o p := by
  have fin : ∀ {q : ByteArray → ByteArray → Bool}, (∀ (ρ : Operand → Value) (a b : ByteArray), ρ x = .string a → ρ y = .string b → pureOut P (execOp ρ o) = some (.value (.bool (q a b)))) →
      HKok P G o ⟨fun _ ts h yes no => vStr ((opK x).run ts) (fun a => vStr ((opK y).run ts) (fun b => forceB (q a b) fun q => yes (.bool q) h) no) no⟩ := fun {q} hf frz ts h yes no r e => by
    simp only [vStr_eq, forceB_eq, opK_run] at e
    split at e
    · rename_i a hx
      split at e
      · rename_i b hy
        refine .inl ⟨_, _, e, ?_⟩
        exact ground_step hc (by simp [ho, gKind]) (by simp [ho, Op.operands, hx, hy, gr]) (hf _ a b hx hy) rfl (fun X hX => by unfold stepOp; simp only [ho]; rw [← hX]; rfl) (by simp [notDefer, ho]) (fun hg => by unfold pureOp; simp only [ho, hx, hy, sEqAgg, hg, orElse'])
      · exact .inr e
    · exact .inr e
  cases op <;> simp only [strEqK, Option.some.injEq, reduceCtorEq] at hp <;> subst hp <;> refine fin fun ρ a b hx hy => ?_ <;> simp [execOp, ho, hx, hy, eqGuard, Go.binOp, Op.stringOp, pureOut_pure]
theorem strIx_ok [Orc] {t : TypeId} {x i : Operand} (ho : o.op = .index t x i) (hc : o.op.operands.toList.all constOk = true) (hu : P.underlying t = some .string) : HKok P G o (strIxK (opK x) (opK i)) := by
  intro frz ts h yes no r e
  unfold strIxK at e
  simp only [natC_eq, vStr_eq, bR_eq, opK_run] at e
  split at e
  · rename_i n hn
    split at e
    · rename_i s hx
      split at e
      · rename_i hlt
        have hlt := Nat.le_of_ble_eq_true hlt
        obtain ⟨k, hi⟩ : ∃ k, opnd ts i = .int k (n : Int) := by
          revert hn
          unfold natV
          split
          · intro q; cases q; exact ⟨_, by assumption⟩
          · intro q; cases q
        refine .inl ⟨_, _, e, ?_⟩
        have hb : s[n]? = some s[n] := getElem?_pos s n hlt
        refine ground_step hc (by simp [ho, gKind]) (by simp [ho, Op.operands, hx, hi, gr]) ?_ rfl (fun X hX => by unfold stepOp; simp only [ho]; rw [← hX]; rfl) (by simp [notDefer, ho]) (fun hg => by unfold pureOp; simp only [ho, hx, hi, sIndexV, hu, natV, hg, orElse'])
        simp only [execOp, ho, Instr.index, hx, hi, asIntOf, pure_bind, pureOut_bind, pureOut_under hu, Option.bind_some]
        simp [hb, byteI, pureOut_pure, pureOut_bind]
      · exact .inr e
    · exact .inr e
  · exact .inr e
theorem fastK_ok [Orc] (hp : fastK P G o = some p) : HKok P G o p := by
  unfold fastK at hp
  cases hc : o.op.operands.toList.all constOk with
  | false => rw [hc] at hp; cases hp
  | true =>
    rw [hc, cond_true] at hp
    split at hp
    · rename_i op t x y yt ho
      split at hp
      · exact eqAgg_ok ho hc hp
      · exact eqAgg_ok ho hc hp
      · exact strEq_ok ho hc hp
      · exact cmp8_ok ho hc hp
      · exact binOp_ok ho hc hp
    · rename_i c a b ho
      cases hp
      exact pick_ok ho hc
    · rename_i t a ho; exact load_ok ho hc hp
    · rename_i t x lo hi ho; exact slice_ok ho hc hp
    · rename_i s x f ho; exact field_ok ho hc hp
    · rename_i t x i ho; exact index_ok ho hc hp
    · rename_i t x i ho
      split at hp
      · rename_i hu
        cases hp
        exact strIx_ok ho hc hu
      · cases hp
    · rename_i t a x ho
      split at hp
      · rename_i p' hp'
        cases hp
        exact store_ok ho hc hp'
      · exact storeA_ok ho hc hp
    · rename_i t x ho; exact box_ok ho hc hp
    · rename_i t ho; exact alloc_ok ho hc hp
    · rename_i t x ho
      cases hp
      exact not_ok ho hc
    · rename_i x i ho
      cases hp
      exact extract_ok ho hc
    · rename_i f first captured ho
      cases hp
      exact makeFunc_ok ho hc
    · rename_i t parts ho; exact build_ok ho hc hp
    · rename_i t n parts ho; exact buildSlice_ok ho hc hp
    · rename_i c ho
      split at hp
      · rename_i x hcal hargs; exact len_ok ho hcal hargs hc hp
      · rename_i s x hcal hargs; exact append_ok ho hcal hargs hc hp
      · rename_i x y hcal hargs
        cases hp
        exact minmax_ok (g := fun a b => .int .i64 (if b < a then b else a)) ho hargs hc (fun a b yes => by
          rw [bR_eq, ltI_eq]
          by_cases h : b < a <;> simp [h]) (fun a b => rfl) (.inl ⟨hcal, fun a b => rfl⟩)
      · rename_i x y hcal hargs
        cases hp
        exact minmax_ok (g := fun a b => .int .i64 (if a < b then b else a)) ho hargs hc (fun a b yes => by
          rw [bR_eq, ltI_eq]
          by_cases h : a < b <;> simp [h]) (fun a b => rfl) (.inr ⟨hcal, fun a b => rfl⟩)
      · cases hp
    · cases hp
end
end Go.Proofs.Ytpaabfecoghibaa

/- A program's code, reckoned on the shadow: operations, regions, code. Definitions alone. -/
namespace Go.Proofs.Ytpaabfecoghibaa
open Go Go.RowKit
set_option linter.unusedSimpArgs false
set_option linter.unusedVariables false
noncomputable def argsW : List Operand → Fr → List Value
  | [], _ => []
  | x :: l, ts => (opK x).run ts :: argsW l ts
/-- The fast way may decline what the slow one does. -/
def halfB (o : Oper) : Bool := match o.op with
  | .slice .. | .binOp .. | .call _ | .store .. => true
  | _ => false
/-- The slow way, but in open runs where the fast one is all. -/
noncomputable def slowX [Orc] (o : Oper) (a : An) : An := cond (Orc.s && !(halfB o)) none a
theorem slowX_some [Orc] {o : Oper} {a : An} {r : Value} (h : slowX o a = some r) : a = some r := by
  unfold slowX at h
  cases hc : (Orc.s && !(halfB o)) with
  | true => rw [hc] at h; cases h
  | false => rw [hc] at h; exact h
/-- By the fast way, where there is one. -/
noncomputable def pureW [Orc] (P : Program) (G : Gl) (o : Oper) : OK := match fastK P G o with
  | some p => ⟨fun _ frz ts h k => p.run frz ts h (fun v h' => forceV v fun v => dstC o.dst ts v fun ts => k ts h') (slowX o (match stepOp P G frz o ts h with
    | some (ts', h') => k ts' h'
    | none => none))⟩
  | none => slowW P G o
noncomputable def opW [Orc] (P : Program) (G : Gl) (o : Oper) : OK := match o.op with
  | .move x => moveW x o.dst
  | .assign x => moveW x o.dst
  | .call c => (match c.callee with
    | .value f => cond (constOk f && c.args.toList.all constOk) ⟨fun rc frz ts h k => callV P G rc frz ((opK f).run ts) (argsW c.args.toList ts) h fun v h' => dstC o.dst ts v fun ts => k ts h'⟩ ⟨fun _ _ _ _ _ => none⟩
    | .invoke r name => cond (constOk r && c.args.toList.all constOk) ⟨fun rc frz ts h k => callM P G rc frz ((opK r).run ts) name (argsW c.args.toList ts) h fun v h' => dstC o.dst ts v fun ts => k ts h'⟩ ⟨fun _ _ _ _ _ => none⟩
    | _ => pureW P G o)
  | _ => pureW P G o
/-- An operation that may be taken first, if it may. -/
def quietB (o : Oper) : Bool := match o.op with
  | .alloc _ | .box .. | .buildSlice .. | .makeSlice .. | .makeMap .. | .store .. | .mapUpdate .. | .insert .. => false
  | .call c => match c.callee with
    | .builtin .len | .builtin .min | .builtin .max | .builtin .cap => true
    | _ => false
  | _ => true
/-- Operations that may come up at any time of a stretch, ahead of others: what they yield hangs on their operands alone, or is a new row of memory. -/
def earlyAt (ops : Array Oper) (i : Nat) : Bool := match ops[i]? with
  | some o => o.dst.isSome && (match o.op with
    | .alloc _ | .buildSlice .. | .makeSlice .. | .build .. | .move _ => true
    | _ => false)
  | none => false
/-- What an operation that may come up ahead of time makes: what the new row holds, if there is one, and for how many elements it has room; what is yielded, by its address. -/
abbrev EC := Option (List Value × TypeId × Nat) × (Addr → Value)
def opv (g : Nat → Value) : Operand → Value
  | .tmp t => g t
  | .const v => v
  | .global b => .pointer (some ⟨b, 0, none⟩)
  | .func f => .func (.func f) #[] #[]
def eC (P : Program) (o : Oper) (g : Nat → Value) : Option EC := match o.op with
  | .alloc t => match P.info? t with
    | some i => match i.zero with
      | some z => cond (z.cells.toList.all (gr 6) && Nat.beq z.cells.size i.size) (some (some (z.cells.toList, t, 1), fun a => .pointer (some a))) none
      | none => none
    | none => none
  | .buildSlice t len ps => match P.underlying t with
    | some (.slice e) => match P.info? e with
      | some i => match i.zero with
        | some z => cond (z.cells.toList.all (gr 6) && Nat.ble (len * i.size) 65536 && (Nat.blt 0 i.size) && Nat.beq z.cells.size i.size) (match Instr.fill (fun k => some (k * i.size, i.size)) (madeC z.cells (len * i.size)) (ps.toList.map fun p => (p.1, opv g p.2)) with
          | some cells => some (some (cells.toList, e, len), fun a => .slice (some a) len len)
          | none => none) none
        | none => none
      | none => none
    | _ => none
  | .makeSlice t l c => match P.underlying t, natV (opv g l), natV (opv g c) with
    | some (.slice e), some ln, some cn => match P.info? e with
      | some i => match i.zero with
        | some z => cond (z.cells.toList.all (gr 6) && Nat.ble ln cn && Nat.ble cn 65536 && Nat.ble i.bytes 65536 && Nat.blt 0 i.size && Nat.beq z.cells.size i.size) (some (some ((madeC z.cells (cn * i.size)).toList, e, cn), fun a => .slice (some a) ln cn)) none
        | none => none
      | none => none
    | _, _, _ => none
  | .build t ps => match sBuild P t (ps.toList.map fun p => (p.1, opv g p.2)) with
    | some v => some (none, fun _ => v)
    | none => none
  | .move x => some (none, fun _ => opv g x)
  | _ => none
noncomputable def yieldedG (ops : Array Oper) (g : Nat → Value) (j : Nat) : Option Bool := match ops[j]? with
  | some o => match o.dst with
    | some d => boolOf (g d)
    | none => none
  | none => none
noncomputable def eCw (P : Program) (ops : Array Oper) (o : Oper) (g : Nat → Value) : Option EC := cond (o.op.operands.toList.all constOk) (cond (Region.wanted o (yieldedG ops g)) (eC P o g) (some (none, fun _ => undef))) none
def dstsOf (ops : Array Oper) (A : List Nat) : List Nat := A.filterMap fun i => (ops[i]?).bind (·.dst)
def usesA (ops : Array Oper) (A : List Nat) : List Nat := A.flatMap fun e => match ops[e]? with
  | some o => o.looksAt ops
  | none => []
def notIn (D : List Nat) (d : Nat) : Bool := D.all fun e => !(Nat.beq e d)
def untouched (ops : Array Oper) (D : List Nat) (o : Oper) : Bool :=
  (match o.dst with
    | some d => notIn D d
    | none => true) && (o.op.operands.toList.all fun x => match x with
    | .tmp t => notIn D t
    | _ => true) && (match o.guard with
    | some (j, _) => match (ops[j]?).bind (·.dst) with
      | some d => notIn D d
      | none => true
    | none => true)
def setAll (l : Array Bool) (A : List Nat) : Array Bool := A.foldl (fun l i => l.setIfInBounds i true) l
def quietAt (ops : Array Oper) (i : Nat) : Bool := match ops[i]? with
  | some o => quietB o
  | none => false
def noneTwice : List Nat → Bool
  | [] => true
  | d :: l => notIn l d && noneTwice l
/-- Those of A that do not wait for i. -/
def pend (ops : Array Oper) (A : List Nat) (i : Nat) : List Nat := A.filter fun k => !(waits ops i (ops.size + 1) k) && !(Nat.beq k i)
def within (A : List Nat) (i : Nat) (l : List Nat) : Bool := l.all fun j => Nat.beq j i || A.any fun k => Nat.beq k j
def topo (ops : Array Oper) : List Nat → Array Bool → Bool
  | [], _ => true
  | e :: A, l => (Region.ready .any ops l).contains e && topo ops A (l.setIfInBounds e true)
def dstFree (ops : Array Oper) (A : List Nat) (o : Oper) : Bool := match o.dst with
  | some d => notIn (usesA ops A) d
  | none => true
/-- Each looks at nothing that comes up with it or behind it. -/
def ordered (ops : Array Oper) : List Nat → Bool
  | [] => true
  | e :: A => (match ops[e]? with
    | some o => (dstsOf ops (e :: A)).all fun d => notIn (o.looksAt ops) d
    | none => false) && ordered ops A
def okEnd (ops : Array Oper) (A : List Nat) (l : Array Bool) : Bool := noneTwice (dstsOf ops A) && topo ops A l && ordered ops A && A.all fun e => earlyAt ops e && within A e (Region.ready .any ops (setAll l (pend ops A e))) && A.all fun e2 => match ops[e]?, ops[e2]? with
  | some o, some o2 => (match o.dst with
    | some d => notIn (o2.looksAt ops) d || waits ops e (ops.size + 1) e2
    | none => true)
  | _, _ => false
/-- The order of one stretch is enough. -/
def okPhase (ops : Array Oper) (A : List Nat) : List (Nat × Bool) → Array Bool → Bool
  | [], l => okEnd ops A l
  | (i, true) :: ks, l => (match ops[i]? with
    | some o => untouched ops (dstsOf ops A) o && dstFree ops A o && quietB o
    | none => false) && notIn A i && Region.free .any ops l i && (Region.ready .any ops l).contains i && okPhase ops A ks (l.setIfInBounds i true)
  | (i, false) :: ks, l => (match ops[i]? with
    | some o => untouched ops (dstsOf ops A) o && dstFree ops A o
    | none => false) && notIn A i && (Region.ready .any ops l).contains i && within A i (Region.ready .any ops (setAll l (pend ops A i))) && okPhase ops A ks (l.setIfInBounds i true)
def okPhases (ops : Array Oper) : List (List (Nat × Bool) × List Nat) → Array Bool → Bool
  | [], l => (Region.ready .any ops l).isEmpty
  | (ks, A) :: ps, l => okPhase ops A ks l && okPhases ops ps (setAll (ks.foldl (fun l x => l.setIfInBounds x.1 true) l) A)
def lenAll : List (List (Nat × Bool) × List Nat) → Nat
  | [] => 0
  | (ks, A) :: ps => ks.length + A.length + lenAll ps
/-- What may change memory. -/
def loudL (ops : Array Oper) : List Nat := (List.range ops.size).filter fun m => !(quietAt ops m) && !(makerAt ops m)
/-- It reads memory, and waits for something that may change it. -/
def lateRead (ops : Array Oper) (i : Nat) : Bool := match ops[i]? with
  | some o => (match o.op with
    | .load .. | .lookup .. | .call _ => true
    | _ => false) && (loudL ops).any fun m => waits ops m (ops.size + 1) i
  | none => false
/-- What has come up, as the bits of a number: so that the kernel is fast. -/
def dmask : List Edge → Nat
  | [] => 0
  | e :: l => cond (Region.binds .any e) (Nat.lor (Nat.pow 2 e.on) (dmask l)) (dmask l)
def depL : List Oper → List Nat
  | [] => []
  | o :: os => match dmask o.after.toList with
    | 0 => 0 :: depL os
    | m + 1 => (m + 1) :: depL os
def bitN (L k : Nat) : Bool := Nat.beq (Nat.mod (Nat.shiftRight L k) 2) 1
def readyM : List Nat → Nat → Nat → List Nat
  | [], _, _ => []
  | d :: ds, s, L => cond (!(bitN L s) && Nat.beq (Nat.land d L) d) (s :: readyM ds (Nat.succ s) L) (readyM ds (Nat.succ s) L)
def readyN (ops : Array Oper) (L : Nat) : List Nat := readyM (depL ops.toList) 0 L
def setN (L i : Nat) : Nat := match Nat.lor L (Nat.pow 2 i) with
  | 0 => 0
  | m + 1 => m + 1
def setAllN (L : Nat) (A : List Nat) : Nat := A.foldl setN L
def freeM (ops : Array Oper) (L i : Nat) (oi : Oper) : List Oper → List Nat → Nat → Bool
  | oj :: os, d :: ds, s => (Nat.beq s i || bitN L s || bitN d i || oi.apart ops oj) && freeM ops L i oi os ds (Nat.succ s)
  | [], _, _ => true
  | _, [], _ => false
def freeN (ops : Array Oper) (L i : Nat) : Bool := match ops[i]? with
  | some oi => freeM ops L i oi ops.toList (depL ops.toList) 0
  | none => false
def memN (A : List Nat) (i : Nat) : Bool := A.any fun k => Nat.beq k i
def topoN (ops : Array Oper) : List Nat → Nat → Bool
  | [], _ => true
  | e :: A, L => memN (readyN ops L) e && topoN ops A (setN L e)
def okEndN (ops : Array Oper) (A : List Nat) (L : Nat) : Bool := noneTwice (dstsOf ops A) && topoN ops A L && ordered ops A && A.all fun e => earlyAt ops e && within A e (readyN ops (setAllN L (pend ops A e))) && A.all fun e2 => match ops[e]?, ops[e2]? with
  | some o, some o2 => (match o.dst with
    | some d => notIn (o2.looksAt ops) d || waits ops e (ops.size + 1) e2
    | none => true)
  | _, _ => false
def okPhaseN (ops : Array Oper) (A : List Nat) : List (Nat × Bool) → Nat → Bool
  | [], L => okEndN ops A L
  | (i, true) :: ks, L => (match ops[i]? with
    | some o => untouched ops (dstsOf ops A) o && dstFree ops A o && quietB o
    | none => false) && notIn A i && freeN ops L i && memN (readyN ops L) i && okPhaseN ops A ks (setN L i)
  | (i, false) :: ks, L => (match ops[i]? with
    | some o => untouched ops (dstsOf ops A) o && dstFree ops A o
    | none => false) && notIn A i && memN (readyN ops L) i && within A i (readyN ops (setAllN L (pend ops A i))) && okPhaseN ops A ks (setN L i)
def okPhasesN (ops : Array Oper) : List (List (Nat × Bool) × List Nat) → Nat → Bool
  | [], L => match readyN ops L with
    | [] => true
    | _ => false
  | (ks, A) :: ps, L => okPhaseN ops A ks L && okPhasesN ops ps (setAllN (ks.foldl (fun L x => setN L x.1) L) A)
/-- All that may come up ahead of time from here on. -/
def closure (ops : Array Oper) : Nat → Nat → List Nat
  | 0, _ => []
  | n + 1, l => match (readyN ops l).find? (earlyAt ops) with
    | some i => i :: closure ops n (setN l i)
    | none => []
/-- Operations that come up one behind the other while A may come up at any time. -/
def freeOf (ops : Array Oper) (A : List Nat) (i : Nat) : Bool := match ops[i]? with
  | some o => untouched ops (dstsOf ops A) o && dstFree ops A o
  | none => false
def alongside (ops : Array Oper) (A : List Nat) : Nat → Nat → List (Nat × Bool)
  | 0, _ => []
  | n + 1, l =>
    let r := (readyN ops l).filter fun i => !(A.any fun k => Nat.beq k i)
    match r.find? (fun i => freeOf ops A i && quietAt ops i && freeN ops l i) with
    | some i => (i, true) :: alongside ops A n (setN l i)
    | none => match r with
      | [i] => cond (freeOf ops A i && within A i (readyN ops (setAllN l (pend ops A i)))) ((i, false) :: alongside ops A n (setN l i)) []
      | _ => []
/-- One stretch: what is taken first, and what comes up alone; or what comes up while others may at any time. -/
def phase (ops : Array Oper) : Nat → Bool → Nat → List (Nat × Bool) × List Nat
  | 0, _, _ => ([], [])
  | n + 1, s, l =>
    let r := readyN ops l
    match r.find? (fun i => quietAt ops i && !(lateRead ops i) && freeN ops l i) with
    | some i => let q := phase ops n true (setN l i); ((i, true) :: q.1, q.2)
    | none => match r with
      | [i] => cond (earlyAt ops i && !(quietAt ops i)) (cond s ([], []) ([], closure ops ops.size l)) (let q := phase ops n true (setN l i); ((i, false) :: q.1, q.2))
      | _ => match r.find? (fun i => quietAt ops i && freeN ops l i) with
        | some i => let q := phase ops n true (setN l i); ((i, true) :: q.1, q.2)
        | none => match closure ops ops.size l with
          | [] => ([], [])
          | A => cond s ([], []) (alongside ops A (ops.size + 1) l, A)
/-- All that may come up ahead of time from here on, but for one. -/
def closureX (ops : Array Oper) (x : Nat) : Nat → Nat → List Nat
  | 0, _ => []
  | n + 1, l => match (readyN ops l).find? (fun i => earlyAt ops i && !(Nat.beq i x)) with
    | some i => i :: closureX ops x n (setN l i)
    | none => []
/-- One comes up alone, while the others that are ready may at any time. -/
def alone (ops : Array Oper) (l i : Nat) : List (Nat × Bool) × List Nat :=
  let A := closureX ops i ops.size l
  ((i, false) :: alongside ops A (ops.size + 1) (setN l i), A)
def better (ops : Array Oper) (l : Nat) (p : List (Nat × Bool) × List Nat) : List (Nat × Bool) × List Nat := cond (okPhaseN ops p.2 p.1 l) p (match ((readyN ops l).map (alone ops l)).find? (fun q => okPhaseN ops q.2 q.1 l) with
  | some q => q
  | none => p)
def phases (ops : Array Oper) : Nat → Nat → List (List (Nat × Bool) × List Nat)
  | 0, _ => []
  | n + 1, l => match phase ops (ops.size + 1) false l with
    | ([], []) => []
    | (ks0, A0) => (fun p => p :: phases ops n (setAllN (p.1.foldl (fun l x => setN l x.1) l) p.2)) (better ops l (ks0, A0))
/-- What may have come up ahead of time comes up on the shadow. -/
noncomputable def layAll (P : Program) (ops : Array Oper) : List Nat → Fr → SH → Option (Fr × SH)
  | [], ts, h => some (ts, h)
  | i :: A, ts, h => match ops[i]? with
    | some o => match o.dst with
      | some d => cond (Nat.blt d ts.n) (match eCw P ops o ts.get with
        | some (none, f) => layAll P ops A (ts.set d (f ⟨0, 0, none⟩)) h
        | some (some (cs, t, _), f) => layAll P ops A (ts.set d (f ⟨h.next, 0, some 0⟩)) (h.push (.row t cs h.next))
        | none => none) none
      | none => none
    | none => none
noncomputable def getF (F : List Nat) (h : SH) (j : Nat) : Option SB := cond (F.any fun k => Nat.beq k j) (h.tr.get j) none
/-- The blocks that are read by what is taken first, each with the operation that reads it. -/
noncomputable def footOf (P : Program) (G : Gl) (ops : Array Oper) (h : SH) : List (Nat × Bool) → Fr → List (Nat × Nat) → List (Nat × Nat)
  | [], _, F => F
  | (i, b) :: ks, ts, F => match ops[i]? with
    | none => footOf P G ops h ks ts F
    | some o => cond b (footOf P G ops h ks (putS ts o.dst (match pureOp P G h.tr.get (opnd ts) o with
        | some v => v
        | none => undef)) (match o.op with
        | .load _ a => match opnd ts a with
          | .pointer (some a) => cond (a.spot.isSome && (h.tr.get a.block).isSome) ((i, a.block) :: F) F
          | _ => F
        | .lookup _ x _ _ => match opnd ts x with
          | .map (some j) => cond ((h.tr.get j).isSome) ((i, j) :: F) F
          | _ => F
        | .call c => match c.args.toList with
          | [x] => match opnd ts x with
            | .map (some j) => cond ((h.tr.get j).isSome) ((i, j) :: F) F
            | _ => F
          | _ => F
        | _ => F)) (footOf P G ops h ks (putS ts o.dst undef) F)
/-- In which block what an operand points to lies, as far as it is seen at once. -/
noncomputable def blkO (ts : Fr) (bl : List (Nat × Option Nat)) (x : Operand) : Option Nat := match x with
  | .tmp t => match bl.find? (fun p => Nat.beq p.1 t) with
    | some p => p.2
    | none => match ts.get t with
      | .pointer (some a) => cond a.spot.isSome (some a.block) none
      | .slice (some a) _ _ => cond a.spot.isSome (some a.block) none
      | .map r => r
      | _ => none
  | _ => none
noncomputable def footL (ops : Array Oper) (h : SH) (ts : Fr) : List (Nat × Bool) → List (Nat × Option Nat) → List (Nat × Nat) → List (Nat × Nat)
  | [], _, F => F
  | (i, b) :: ks, bl, F => match ops[i]? with
    | none => footL ops h ts ks bl F
    | some o =>
      let at' := fun (v : Option Nat) => match o.dst with
        | some d => (d, v) :: bl
        | none => bl
      let add := fun (x : Operand) => match blkO ts bl x with
        | some j => cond ((h.tr.get j).isSome) ((i, j) :: F) F
        | none => F
      cond b (match o.op with
        | .load _ a => footL ops h ts ks (at' none) (add a)
        | .lookup _ x _ _ => footL ops h ts ks (at' none) (add x)
        | .fieldAddr _ x _ => footL ops h ts ks (at' (blkO ts bl x)) F
        | .indexAddr _ x _ => footL ops h ts ks (at' (blkO ts bl x)) F
        | .move x => footL ops h ts ks (at' (blkO ts bl x)) F
        | .assign x => footL ops h ts ks (at' (blkO ts bl x)) F
        | .nilCheck x => footL ops h ts ks (at' (blkO ts bl x)) F
        | .slice _ x _ _ _ => footL ops h ts ks (at' (blkO ts bl x)) F
        | .call c => match c.args.toList with
          | [.tmp t] => match bl.find? (fun p => Nat.beq p.1 t) with
            | some _ => footL ops h ts ks (at' none) F
            | none => match ts.get t with
              | .map (some j) => footL ops h ts ks (at' none) (cond ((h.tr.get j).isSome) ((i, j) :: F) F)
              | _ => footL ops h ts ks (at' none) F
          | _ => footL ops h ts ks (at' none) F
        | _ => footL ops h ts ks (at' none) F) (footL ops h ts ks (at' none) F)
noncomputable def footX [Orc] (P : Program) (G : Gl) (ops : Array Oper) (h : SH) (ks : List (Nat × Bool)) (ts : Fr) : List (Nat × Nat) := cond Orc.s (footL ops h ts ks [] []) (footOf P G ops h ks ts [])
/-- The blocks that must stay as they are behind these operations: those of reads for which none of them waits. -/
def waitsN (ops : Array Oper) (dn : List Nat) : Nat × Nat → Bool
  | (i, _) => dn.all fun k => !(waits ops i (ops.size + 1) k)
def guardF (ops : Array Oper) (F : List (Nat × Nat)) (dn : List Nat) : List Nat := (F.filter (waitsN ops dn)).map (·.2)
def doneBy (o : Oper) (i : Nat) (dn : List Nat) : List Nat := cond (quietB o) dn (i :: dn)
/-- A guard. -/
structure BK where
  run : Fr → Bool
noncomputable def isB (b : Bool) (v : Value) : Bool := match v with
  | .bool c => cond b c (!c)
  | _ => false
noncomputable def guardK (ops : Array Oper) (o : Oper) : Option BK := match o.guard with
  | none => none
  | some (j, b) => match ops[j]? with
    | some o => match o.dst with
      | some d => some ⟨fun ts => isB b ((gk d).run ts)⟩
      | none => some ⟨fun _ => false⟩
    | none => some ⟨fun _ => false⟩
noncomputable def joinW [Orc] (g : Option BK) (d : Option Tmp) (s r : OK) : OK := match g with
  | none => ⟨fun rc frz ts h k => s.run rc frz ts h fun ts' h' => r.run rc frz ts' h' k⟩
  | some b => ⟨fun rc frz ts h k => cond (b.run ts) (s.run rc frz ts h fun ts' h' => r.run rc frz ts' h' k) (dstC d ts undef fun ts => r.run rc frz ts h k)⟩
/-- Operations one behind the other. -/
noncomputable def seqW [Orc] (P : Program) (G : Gl) (ops : Array Oper) (l : List Oper) : OK := List.rec (motive := fun _ => OK) ⟨fun _ _ ts h k => k ts h⟩ (fun o _ r => joinW (guardK ops o) o.dst (opW P G o) r) l
/-- The operation's yield may be asked while something that may change memory, and does not wait for it, has come up. -/
def exposed (ops : Array Oper) (i : Nat) : Bool := (loudL ops).any fun m => !(waits ops i (ops.size + 1) m)
/-- A step of a region that draws: the memory at the region's start, the blocks that are read, what is there now. -/
structure WK where
  run : Rec → List Nat → SH → List (Nat × Nat) → Fr → SH → KF → An
noncomputable def gW [Orc] (g : Option BK) (d : Option Tmp) (s : WK) : WK := match g with
  | none => s
  | some b => ⟨fun rc frz h0 F ts h k => cond (b.run ts) (s.run rc frz h0 F ts h k) (dstC d ts undef fun ts => k ts h)⟩
noncomputable def slowQ (P : Program) (G : Gl) (o : Oper) : WK := ⟨fun _ _ h0 _ ts h k => match stepOp P G [] o ts h0 with
  | some (ts', _) => k ts' h
  | none => none⟩
noncomputable def fastQ [Orc] (P : Program) (G : Gl) (o : Oper) (p : HK) : WK := ⟨fun _ _ h0 _ ts h k => p.run [] ts h0 (fun v _ => forceV v fun v => dstC o.dst ts v fun ts => k ts h) (slowX o (match stepOp P G [] o ts h0 with
  | some (ts', _) => k ts' h
  | none => none))⟩
noncomputable def moveQ [Orc] (x : Operand) (d : Option Tmp) : WK := cond (constOk x) ⟨fun _ _ _ _ ts h k => forceV ((opK x).run ts) fun v => dstC d ts v fun ts => k ts h⟩ ⟨fun _ _ _ _ _ _ _ => none⟩
noncomputable def qW [Orc] (P : Program) (G : Gl) (o : Oper) : WK := match o.op with
  | .move x => moveQ x o.dst
  | .assign x => moveQ x o.dst
  | _ => match fastK P G o with
    | some p => fastQ P G o p
    | none => slowQ P G o
/-- A load of memory that was there before. -/
noncomputable def eLoad [Orc] (P : Program) (G : Gl) (get : Nat → Option SB) (o : Oper) (ts : Fr) (yes : Value → An) (no : An) : An := match o.op with
  | .load t a => match P.underlying t, P.info? t with
    | some d, some i => vPtr ((opK a).run ts) (fun b of s => spotR s (nilR G.l (cond d.isRow (cellsK G.f b i.size of (fun l => yes (.agg l.toArray)) no) (oldC (G.f b of) yes no)) no) fun s => bR (Nat.beq s 0) (rowR (get b) (fun _ cs _ => cond d.isRow (rowC cs i.size of (fun l => yes (.agg l.toArray)) no) (getC cs yes no of)) no) no) no
    | _, _ => no
  | _ => no
theorem eLoad_ok [Orc] {P : Program} {G : Gl} {o : Oper} {ts : Fr} {yes : Value → An} {no : An} {r : Value} (get : Nat → Option SB) (e : eLoad P G get o ts yes no = some r) : (∃ v, pureOp P G get (opnd ts) o = some v ∧ yes v = some r) ∨ no = some r := by
  unfold eLoad at e
  split at e
  · rename_i t a ho
    have old : ∀ b of v, opnd ts a = .pointer (some ⟨b, of, none⟩) → G.l = [] → readF P G.f t b of = some v → pureOp P G get (opnd ts) o = some v := fun b of v hv hl hr => by
      simp only [pureOp, ho, hv, sLoad, cellsAt, hl, List.find?_nil, hr]
    split at e
    · rename_i d i hu hi
      simp only [vPtr_eq, spotR_eq, nilR_eq, opK_run] at e
      split at e
      · rename_i b of s hv
        cases s with
        | some s =>
          simp only [bR_eq, rowR_eq] at e
          split at e
          · rename_i h0
            have h0 := Nat.eq_of_beq_eq_true h0
            subst h0
            split at e
            · rename_i ty cs f hg
              cases hd : d.isRow with
              | true =>
                rw [hd, cond_true] at e
                rcases rowC_ok e with ⟨hle, e⟩ | e
                · refine .inl ⟨_, ?_, e⟩
                  simp only [pureOp, ho, hv, sLoad, cellsAt, hg, readAt, hu, hi, hd, cond_true]
                  rw [Nat.ble_eq_true_of_le hle]; rfl
                · exact .inr e
              | false =>
                rw [hd, cond_false, getC_eq] at e
                split at e
                · rename_i v hcell
                  refine .inl ⟨v, ?_, e⟩
                  simp only [pureOp, ho, hv, sLoad, cellsAt, hg, readAt, hu, hi, hd, cond_false, hcell]
                · exact .inr e
            · exact .inr e
          · exact .inr e
        | none =>
          simp only at e
          split at e
          · rename_i hl
            cases hd : d.isRow with
            | true =>
              rw [hd, cond_true] at e
              rcases cellsK_ok _ _ _ e with ⟨l, h1, h2⟩ | h2
              · exact .inl ⟨_, old b of _ hv hl (by simp only [readF, hu, hi, hd, cond_true, h1]), h2⟩
              · exact .inr h2
            | false =>
              rw [hd, cond_false, oldC_eq] at e
              cases hf : G.f b of with
              | none => rw [hf] at e; exact .inr e
              | some v =>
                rw [hf] at e
                simp only at e
                cases hg : gE 6 v with
                | false => rw [hg] at e; exact .inr e
                | true =>
                  rw [hg, cond_true] at e
                  exact .inl ⟨_, old b of _ hv hl (by simp only [readF, hu, hi, hd, cond_false, hf, hg, cond_true]), e⟩
          · exact .inr e
      · exact .inr e
    · exact .inr e
  · exact .inr e
noncomputable def eW [Orc] (P : Program) (G : Gl) (o : Oper) (i : Nat) : WK := ⟨fun _ _ _ F ts h k => cond (o.op.operands.toList.all constOk) (eLoad P G (getF ((F.filter fun x => Nat.beq x.1 i).map (·.2)) h) o ts (fun v => forceV v fun v => dstC o.dst ts v fun ts => k ts h) (match pureOp P G (getF ((F.filter fun x => Nat.beq x.1 i).map (·.2)) h) (opnd ts) o with
  | some v => k (putS ts o.dst v) h
  | none => none)) none⟩
noncomputable def nW [Orc] (P : Program) (G : Gl) (ops : Array Oper) (o : Oper) (dn : List Nat) : WK := ⟨fun rc frz _ F ts h k => (opW P G o).run rc (nilR F frz (guardF ops F dn ++ frz)) ts h k⟩
noncomputable def joinWK (a r : WK) : WK := ⟨fun rc frz h0 F ts h k => a.run rc frz h0 F ts h fun ts' h' => r.run rc frz h0 F ts' h' k⟩
/-- It asks memory. -/
def asksB (o : Oper) : Bool := match o.op with
  | .load .. | .lookup .. | .call _ => true
  | _ => false
def asksAt (ops : Array Oper) (i : Nat) : Bool := match ops[i]? with
  | some o => asksB o
  | none => false
noncomputable def stepWK [Orc] (P : Program) (G : Gl) (ops : Array Oper) (i : Nat) (b : Bool) (dn : List Nat) (o : Oper) : WK := gW (guardK ops o) o.dst (cond b (cond (asksB o && exposed ops i) (eW P G o i) (qW P G o)) (nW P G ops o (doneBy o i dn)))
noncomputable def stretchW [Orc] (P : Program) (G : Gl) (ops : Array Oper) : List (Nat × Bool) → List Nat → WK
  | [], _ => ⟨fun _ _ _ _ ts h k => k ts h⟩
  | (i, b) :: ks, dn => match ops[i]? with
    | some o => joinWK (stepWK P G ops i b dn o) (stretchW P G ops ks (cond b dn (doneBy o i dn)))
    | none => ⟨fun _ _ _ _ _ _ _ => none⟩
def dnAfter (ops : Array Oper) : List (Nat × Bool) → List Nat → List Nat
  | [], dn => dn
  | (i, b) :: ks, dn => match ops[i]? with
    | some o => dnAfter ops ks (cond b dn (doneBy o i dn))
    | none => dn
/-- A fast way of what may have come up ahead of time. -/
noncomputable def makerK [Orc] (P : Program) (o : Oper) : Option HK := match o.guard with
  | some _ => none
  | none => cond (o.op.operands.toList.all constOk) (match o.op with
    | .buildSlice t n ps => buildSliceK P t n ps.toList
    | .build t ps => buildK P t ps.toList
    | _ => none) none
/-- One of them comes up. -/
noncomputable def lay1 (P : Program) (ops : Array Oper) (o : Oper) (d : Nat) (ts : Fr) (h : SH) : Option (Fr × SH) := match eCw P ops o ts.get with
  | some (none, f) => some (ts.set d (f ⟨0, 0, none⟩), h)
  | some (some (cs, t, _), f) => some (ts.set d (f ⟨h.next, 0, some 0⟩), h.push (.row t cs h.next))
  | none => none
structure LYK where
  run : Fr → SH → KF → An
noncomputable def layS (P : Program) (ops : Array Oper) (o : Oper) (d : Nat) (r : LYK) : LYK := ⟨fun ts h k => match lay1 P ops o d ts h with
  | some (ts', h') => r.run ts' h' k
  | none => none⟩
noncomputable def layF [Orc] (p : HK) (d : Nat) (r s : LYK) : LYK := ⟨fun ts h k => p.run [] ts h (fun v h' => forceV v fun v => dstC (some d) ts v fun ts => r.run ts h' k) (s.run ts h k)⟩
noncomputable def layK [Orc] (P : Program) (ops : Array Oper) : List Nat → LYK
  | [] => ⟨fun ts h k => k ts h⟩
  | i :: A => match ops[i]? with
    | some o => match o.dst with
      | some d => match makerK P o with
        | some p => (fun q : LYK => ⟨fun ts h k => cond (Nat.blt d ts.n) (q.run ts h k) none⟩) (layF p d (layK P ops A) (layS P ops o d (layK P ops A)))
        | none => (fun q : LYK => ⟨fun ts h k => cond (Nat.blt d ts.n) (q.run ts h k) none⟩) (layS P ops o d (layK P ops A))
      | none => ⟨fun _ _ _ => none⟩
    | none => ⟨fun _ _ _ => none⟩
theorem opv_get (ts : Fr) : opv ts.get = opnd ts := by funext x; cases x <;> rfl
theorem eCw_none {P : Program} {ops : Array Oper} {o : Oper} {g : Nat → Value} (hg : o.guard = none) (hc : o.op.operands.toList.all constOk = true) : eCw P ops o g = eC P o g := by
  have hw : Region.wanted o (yieldedG ops g) = true := by simp only [Region.wanted, hg]
  unfold eCw
  rw [hc, hw]; rfl
theorem makerK_ok [Orc] {P : Program} {ops : Array Oper} {o : Oper} {d : Nat} {p : HK} (hp : makerK P o = some p) {ts : Fr} {h : SH} {yes : KV} {no : An} {r : Value} (e : p.run [] ts h yes no = some r) :
    (∃ v h', yes v h' = some r ∧ lay1 P ops o d ts h = some (ts.set d v, h')) ∨ no = some r := by
  unfold makerK at hp
  split at hp
  · cases hp
  · rename_i hg
    cases hc : o.op.operands.toList.all constOk with
    | false => rw [hc] at hp; cases hp
    | true =>
      rw [hc, cond_true] at hp
      have hE := eCw_none (P := P) (ops := ops) (g := ts.get) hg hc
      unfold lay1
      rw [hE]
      split at hp
      · rename_i t len parts ho
        unfold buildSliceK at hp
        split at hp
        · rename_i el hu
          split at hp
          · rename_i i hi
            split at hp
            · rename_i z hz
              split at hp
              · rename_i segs hs
                cases hq : (z.cells.toList.all (gr 6) && Nat.ble (len * i.size) 65536 && (Nat.blt 0 i.size) && Nat.beq z.cells.size i.size && segOk (madeC z.cells (len * i.size)).toList.length 0 segs) with
                | false => rw [hq] at hp; cases hp
                | true =>
                  rw [hq] at hp
                  simp only [cond_true, Option.some.injEq] at hp
                  subst hp
                  simp only [Bool.and_eq_true] at hq
                  obtain ⟨⟨⟨⟨q1, q2⟩, q3⟩, q4⟩, q5⟩ := hq
                  simp only [bR_eq] at e
                  split at e
                  · rcases outK_ok segs 0 _ q5 e with ⟨qs, h1, h2, h3⟩ | hn
                    · rw [nextC_eq] at h3
                      refine .inl ⟨_, _, h3, ?_⟩
                      obtain ⟨R, hR1, hR2⟩ := fill_out (place := fun k => some (k * i.size, i.size)) (z := (madeC z.cells (len * i.size)).toList) _ qs 0 [] (madeC z.cells (len * i.size)) (by simp) rfl (Nat.zero_le _) (segsOf_all _ _ _ hs h1) h2
                      have hall : (z.cells.toList.all (gr 6) && Nat.ble (len * i.size) 65536 && (Nat.blt 0 i.size) && Nat.beq z.cells.size i.size) = true := by
                        simp only [Bool.and_eq_true]
                        exact ⟨⟨⟨q1, q2⟩, q3⟩, q4⟩
                      simp only [eC, ho, hu, hi, hz, hall, cond_true, opv_get, hR1, hR2, List.nil_append]
                    · exact .inr hn
                  · exact .inr e
              · cases hp
            · cases hp
          · cases hp
        · cases hp
      · rename_i t parts ho
        unfold buildK at hp
        split at hp
        · rename_i it fields hi hu
          split at hp
          · rename_i z places hz hpl
            split at hp
            · rename_i segs hs
              cases hq : (z.cells.toList.all (gr 6) && segOk z.cells.toList.length 0 segs) with
              | false => rw [hq] at hp; cases hp
              | true =>
                rw [hq] at hp
                simp only [cond_true, Option.some.injEq] at hp
                subst hp
                rw [Bool.and_eq_true] at hq
                rcases outK_ok segs 0 _ hq.2 e with ⟨qs, h1, h2, h3⟩ | hn
                · refine .inl ⟨_, _, h3, ?_⟩
                  obtain ⟨R, hR1, hR2⟩ := fill_out (place := (places.toArray[·]?)) (z := z.cells.toList) _ qs 0 [] z.cells (by simp) rfl (Nat.zero_le _) (segsOf_all _ _ _ hs h1) h2
                  have hb : sBuild P t (parts.toList.map fun p => (p.1, opnd ts p.2)) = some (.agg ⟨outL z.cells.toList 0 qs⟩) := by
                    simp only [sBuild, hi, hz, hq.1, cond_true, Program.built, hu, hpl, hR1]
                    congr 2
                    exact Array.toList_inj.1 (by rw [hR2]; rfl)
                  simp only [eC, ho, opv_get, hb]
                · exact .inr hn
            · cases hp
          · cases hp
        · cases hp
      · cases hp
theorem layK_ok [Orc] {P : Program} {ops : Array Oper} {k : KF} {r : Value} : ∀ (A : List Nat) (ts : Fr) (h : SH), (layK P ops A).run ts h k = some r → ∃ ts2 h2, layAll P ops A ts h = some (ts2, h2) ∧ k ts2 h2 = some r
  | [], ts, h, e => ⟨ts, h, rfl, e⟩
  | i :: A, ts, h, e => by
    unfold layK at e
    unfold layAll
    cases ho : ops[i]? with
    | none => rw [ho] at e; cases e
    | some o =>
      rw [ho] at e
      simp only at e ⊢
      cases hd : o.dst with
      | none => rw [hd] at e; cases e
      | some d =>
        rw [hd] at e
        simp only at e ⊢
        have key : Nat.blt d ts.n = true → ∀ ts' h', lay1 P ops o d ts h = some (ts', h') → (layK P ops A).run ts' h' k = some r → ∃ ts2 h2, cond (Nat.blt d ts.n) (match eCw P ops o ts.get with
            | some (none, f) => layAll P ops A (ts.set d (f ⟨0, 0, none⟩)) h
            | some (some (cs, t, _), f) => layAll P ops A (ts.set d (f ⟨h.next, 0, some 0⟩)) (h.push (.row t cs h.next))
            | none => none) none = some (ts2, h2) ∧ k ts2 h2 = some r := fun hb ts' h' h1 h2 => by
          rw [hb, cond_true]
          unfold lay1 at h1
          split at h1
          · cases h1; exact layK_ok A _ _ h2
          · cases h1; exact layK_ok A _ _ h2
          · cases h1
        have slow : Nat.blt d ts.n = true → (layS P ops o d (layK P ops A)).run ts h k = some r → ∃ ts2 h2, cond (Nat.blt d ts.n) (match eCw P ops o ts.get with
            | some (none, f) => layAll P ops A (ts.set d (f ⟨0, 0, none⟩)) h
            | some (some (cs, t, _), f) => layAll P ops A (ts.set d (f ⟨h.next, 0, some 0⟩)) (h.push (.row t cs h.next))
            | none => none) none = some (ts2, h2) ∧ k ts2 h2 = some r := fun hb e => by
          unfold layS at e
          simp only at e
          split at e
          · rename_i ts' h' hl; exact key hb ts' h' hl e
          · cases e
        cases hm : makerK P o with
        | none =>
          rw [hm] at e
          cases hb : Nat.blt d ts.n with
          | false => simp only [hb, cond_false] at e; cases e
          | true => simp only [hb, cond_true] at e; have := slow hb e; rw [hb] at this; exact this
        | some p =>
          rw [hm] at e
          cases hb : Nat.blt d ts.n with
          | false => simp only [hb, cond_false] at e; cases e
          | true =>
            simp only [hb, cond_true] at e
            rcases makerK_ok (ops := ops) (d := d) hm e with ⟨v, h', h1, h2⟩ | h1
            · rw [forceV_eq, dstC_eq] at h1
              have := key hb _ _ h2 h1; rw [hb] at this; exact this
            · have := slow hb h1; rw [hb] at this; exact this
noncomputable def layW [Orc] (P : Program) (ops : Array Oper) (A : List Nat) : WK := match A with
  | [] => ⟨fun _ _ _ _ ts h k => k ts h⟩
  | _ :: _ => (fun q : LYK => ⟨fun _ _ _ _ ts h k => q.run ts h k⟩) (layK P ops A)
noncomputable def phasesW [Orc] (P : Program) (G : Gl) (ops : Array Oper) : List (List (Nat × Bool) × List Nat) → List Nat → WK
  | [], _ => ⟨fun _ _ _ _ ts h k => k ts h⟩
  | (ks, A) :: ps, dn => joinWK (stretchW P G ops ks dn) (joinWK (layW P ops A) (phasesW P G ops ps (dnAfter ops ks dn)))
/-- The order of a region that draws it; no order, if none is enough. -/
structure DK where
  ok : Bool
  simple : Bool
  ps : List (List (Nat × Bool) × List Nat)
  ks : List (Nat × Bool)
/-- None waits for channels. -/
def noSel (o : Oper) : Bool := match o.op with
  | .select .. => false
  | _ => true
def noSelL (ops : Array Oper) : Bool := ops.toList.all noSel
theorem noSelL_ok {ops : Array Oper} (h : noSelL ops = true) : Region.noSelect ops = true := by
  unfold Region.noSelect
  rw [← Array.all_toList]
  exact h
noncomputable def planD (P : Program) (ops : Array Oper) : DK :=
  let ps := phases ops ops.size 0
  ⟨okPhasesN ops ps 0 && Nat.ble (lenAll ps) ops.size && noSelL ops && ops.toList.all notDefer && P.follows .mixedOrders, (ps.flatMap (·.1)).all fun x => !(x.2 && (asksAt ops x.1 && exposed ops x.1)), ps, ps.flatMap (·.1)⟩
noncomputable def drawD [Orc] (P : Program) (G : Gl) (ops : Array Oper) (d : DK) : OK :=
  cond d.ok (cond d.simple ⟨fun rc frz ts h k => cond (frzLive h frz) ((phasesW P G ops d.ps []).run rc frz h [] ts h k) none⟩
    ⟨fun rc frz ts h k => let F := footX P G ops h d.ks ts
      cond (frzLive h (F.map (·.2)) && frzLive h frz) ((phasesW P G ops d.ps []).run rc frz h F ts h k) none⟩) ⟨fun _ _ _ _ _ => none⟩
noncomputable def regionW [Orc] (P : Program) (G : Gl) (ops : Array Oper) (draw : Bool) : OK := cond draw (drawD P G ops (planD P ops)) (seqW P G ops ops.toList)
/-- Code. -/
structure CK where
  run : Rec → Option Nat → List Nat → Fr → List Nat → SH → KE → An
noncomputable def condV (v : Value) (a b : An) : An := match v with
  | .bool t => cond t a b
  | _ => none
noncomputable def rangeEnd (rc : Rec) (ro : Option Nat) (frz : List Nat) (l : Nat) (ts : Fr) (ds : List Nat) (h3 : SH) (k : KE) : An := match h3.tr.get l with
  | some (.loop r tl) => cond (!(isBusy r.state) && frzOk h3 frz (2 * l + 1)) (match r.pending with
    | none => k .normal ts ds (h3.put l (.loop { r with state := .exhausted } tl))
    | some c => rc ro frz c ts ds (h3.put l (.loop { r with state := .exhausted } tl)) k) none
  | _ => none
noncomputable def rangeF (P : Program) (G : Gl) (rc : Rec) (ro : Option Nat) (frz : List Nat) (f : Value) (ps : Array Tmp) (assign body : Code) (ts : Fr) (ds : List Nat) (h : SH) (k : KE) : An :=
  cond (frzLive h frz) (match f with
  | .func (.func gf) first captured => match ro with
    | none => callF P G rc frz (finfo P gf) (first.toList ++ [.func (.yield (h.next + 1)) #[] #[]] ++ captured.toList) ((h.push .mark).push (.loop { state := .ready, pending := none, fn := 0, tmps := #[], params := ps, assign := assign, body := body, defers := h.next } ts)) fun _ h3 => rangeEnd rc ro frz (h.next + 1) ts (h.next :: ds) h3 k
    | some l0 => match h.tr.get l0 with
      | some (.loop r0 _) => callF P G rc frz (finfo P gf) (first.toList ++ [.func (.yield h.next) #[] #[]] ++ captured.toList) (h.push (.loop { state := .ready, pending := none, fn := 0, tmps := #[], params := ps, assign := assign, body := body, defers := r0.defers } ts)) fun _ h3 => rangeEnd rc ro frz h.next ts ds h3 k
      | _ => none
  | _ => none) none
noncomputable def codeW [Orc] (P : Program) (G : Gl) (c : Code) : CK := Code.rec (motive := fun _ => CK)
  ⟨fun _ _ _ ts ds h k => k .normal ts ds h⟩
  (fun _ ops draw => ⟨fun rc _ frz ts ds h k => (regionW P G ops draw).run rc frz ts h fun ts' h' => k .normal ts' ds h'⟩)
  (fun _ _ a b => ⟨fun rc ro frz ts ds h k => a.run rc ro frz ts ds h fun e ts' ds' h' => SE.rec (motive := fun _ => An) (b.run rc ro frz ts' ds' h' k) (fun id => k (.exit id) ts' ds' h') (k .ret ts' ds' h') e⟩)
  (fun x _ _ a b => cond (constOk x) ⟨fun rc ro frz ts ds h k => condV ((opK x).run ts) (a.run rc ro frz ts ds h k) (b.run rc ro frz ts ds h k)⟩ ⟨fun _ _ _ _ _ _ _ => none⟩)
  (fun id _ a => ⟨fun rc ro frz ts ds h k => a.run rc ro frz ts ds h fun e ts' ds' h' => SE.rec (motive := fun _ => An) (k .normal ts' ds' h') (fun id' => cond (Nat.beq id' id) (k .normal ts' ds' h') (k (.exit id') ts' ds' h')) (k .ret ts' ds' h') e⟩)
  (fun c a => ⟨fun rc ro frz ts ds h k => a.run rc ro frz ts ds h fun e ts' ds' h' => SE.rec (motive := fun _ => An) (rc ro frz (.loop c) ts' ds' h' k) (fun id => k (.exit id) ts' ds' h') (k .ret ts' ds' h') e⟩)
  (fun g ps assign body _ _ => cond (constOk g) ⟨fun rc ro frz ts ds h k => rangeF P G rc ro frz ((opK g).run ts) ps assign body ts ds h k⟩ ⟨fun _ _ _ _ _ _ _ => none⟩)
  (fun id => ⟨fun _ _ _ ts ds h k => k (.exit id) ts ds h⟩)
  (fun _ a => a)
  (fun _ => ⟨fun _ _ _ ts ds h k => k .normal ts ds h⟩)
  (fun _ => ⟨fun _ _ _ _ _ _ _ => none⟩)
  ⟨fun _ _ _ ts ds h k => k .ret ts ds h⟩
  (fun _ => ⟨fun _ _ _ _ _ _ _ => none⟩) c
noncomputable def exec [Orc] (P : Program) (G : Gl) (n : Nat) : Rec := Nat.rec (motive := fun _ => Rec) (fun _ _ _ _ _ _ _ => none) (fun _ ih => fun ro frz c ts ds h k => (codeW P G c).run ih ro frz ts ds h k) n
/-- A shadow memory in which nothing is yet. -/
def sh0 : SH := { next := 0, tr := .nil, kin := .nil }
/-- What a closed call comes to. -/
noncomputable def runS [Orc] (P : Program) (G : Gl) (n : Nat) (f : FuncId) (args : List Value) : Option Value := callF P G (exec P G n) [] (finfo P f) args sh0 fun v _ => some v
noncomputable def isTrue (o : Option Value) : Bool := match o with
  | some (.bool b) => b
  | _ => false
end Go.Proofs.Ytpaabfecoghibaa
