/- Composite values and lookups in maps, reckoned on the shadow. Over any program. Conditions: as each law says. -/
import Derived.Test.YtedpbkpeofaibaaXE
namespace Go.Proofs.Ytedpbkpeofaibaa
open Go Go.RowKit
set_option linter.unusedSimpArgs false
set_option linter.unusedVariables false
theorem gr_mono : ∀ (d : Nat) (v : Value), gr d v = true → gr (d + 1) v = true
  | 0, _, h => by simp [gr] at h
  | d + 1, v, h => by
    have hl : ∀ l : List Value, l.all (gr d) = true → l.all (gr (d + 1)) = true := fun l hl => by
      rw [List.all_eq_true] at hl ⊢
      exact fun x hx => gr_mono d x (hl x hx)
    cases v with
    | func fn f c =>
      cases fn with
      | yield l => simp [gr] at h
      | _ =>
        simp only [gr, Bool.and_eq_true] at h ⊢
        exact ⟨hl _ h.1, hl _ h.2⟩
    | iface t x => simp only [gr] at h ⊢; exact gr_mono d x h
    | agg cs => simp only [gr] at h ⊢; exact hl _ h
    | tuple cs => simp only [gr] at h ⊢; exact hl _ h
    | slice a n c => cases a <;> (simp only [gr] at h ⊢; exact h)
    | pointer a =>
      cases a with
      | none => rfl
      | some a => simp only [gr] at h ⊢; exact h
    | map r => simp only [gr] at h ⊢; exact h
    | chan r => simp only [gr] at h ⊢; exact h
    | _ => rfl
theorem getObj_map {P : Program} {w : World} {r : Nat} {es : Array MapEntry} {cl : Nat} (h : w.heap[r]? = some (.map es cl)) : (getObj r).run P w = .ok (.map es cl) w := by simp [getObj, Sem.run, h]
section
variable {P : Program} {N : Lim} {G : Gl} {μ : Mu} {get : Nat → Option SB} {w : World}
theorem cells_rel {v v' : Value} (h : Rel μ v v') : RelL μ v.cells.toList v'.cells.toList := by
  have one : ∀ {v v' : Value}, v.cells = #[v] → v'.cells = #[v'] → Rel μ v v' → RelL μ v.cells.toList v'.cells.toList := fun h1 h2 h => by
    rw [h1, h2]; exact .cons h .nil
  cases h with
  | ground hg =>
    cases v with
    | agg cs =>
      refine RelL.refl (List.all_eq_true.2 fun x hx => ?_)
      rw [gr] at hg
      exact gr_mono 5 x (List.all_eq_true.1 hg x hx)
    | _ => exact one rfl rfl (.ground hg)
  | agg hl => exact hl
  | ptr hm => exact one rfl rfl (.ptr hm)
  | slice hm => exact one rfl rfl (.slice hm)
  | sliceO hm hn => exact one rfl rfl (.sliceO hm hn)
  | sliceE => exact one rfl rfl .sliceE
  | sliceA hm hn => exact one rfl rfl (.sliceA hm hn)
  | map hm => exact one rfl rfl (.map hm)
  | yield hm => exact one rfl rfl (.yield hm)
  | func h h' => exact one rfl rfl (.func h h')
  | tuple h => exact one rfl rfl (.tuple h)
  | iface h => exact one rfl rfl (.iface h)
inductive RelP (μ : Mu) : List (Nat × Value) → List (Nat × Value) → Prop
  | nil : RelP μ [] []
  | cons {i : Nat} {v v' : Value} {l l' : List (Nat × Value)} (h : Rel μ v v') (t : RelP μ l l') : RelP μ ((i, v) :: l) ((i, v') :: l')
theorem foldset_rel (off : Nat) : ∀ {l l' : List Value}, RelL μ l l' → ∀ (k : Nat) {c c' : Array Value}, RelL μ c.toList c'.toList →
    RelL μ ((l.zipIdx k).foldl (fun (cs : Array Value) x => cs.setIfInBounds (off + x.2) x.1) c).toList ((l'.zipIdx k).foldl (fun (cs : Array Value) x => cs.setIfInBounds (off + x.2) x.1) c').toList
  | _, _, .nil, k, c, c', h => by simpa using h
  | _, _, .cons hv t, k, c, c', h => by
    simp only [List.zipIdx_cons, List.foldl_cons]
    refine foldset_rel off t (k + 1) ?_
    simp only [Array.toList_setIfInBounds]
    exact h.set hv _
theorem arr_size {c c' : Array Value} (h : RelL μ c.toList c'.toList) : c'.size = c.size := by
  have := h.length
  simpa using this
theorem fill_rel (place : Nat → Option (Nat × Nat)) : ∀ {ps ps' : List (Nat × Value)}, RelP μ ps ps' → ∀ {c c' r : Array Value}, RelL μ c.toList c'.toList → Instr.fill place c ps = some r → ∃ r', Instr.fill place c' ps' = some r' ∧ RelL μ r.toList r'.toList
  | _, _, .nil, c, c', r, hc, h => by
    simp only [Instr.fill, Option.some.injEq] at h
    subst h
    exact ⟨c', rfl, hc⟩
  | _, _, .cons (i := i) (v := v) (v' := v') hv t, c, c', r, hc, h => by
    have hcv := cells_rel hv
    have hs := arr_size hcv
    have hs' := arr_size hc
    simp only [Instr.fill] at h ⊢
    cases hp : place i with
    | none => simp [hp] at h
    | some p =>
      obtain ⟨off, size⟩ := p
      simp only [hp, hs, hs'] at h ⊢
      split at h
      · cases h
      · rename_i hn
        rw [if_neg hn]
        refine fill_rel place t ?_ h
        rw [← Array.foldl_toList, ← Array.foldl_toList, Array.toList_zipIdx, Array.toList_zipIdx]
        exact foldset_rel off hcv 0 hc
def sBuild (P : Program) (t : TypeId) (parts : List (Nat × Value)) : Option Value := match P.info? t with
  | some i => match i.zero with
    | some z => cond (z.cells.toList.all (gr 6)) (match P.built t parts with
      | some r => some (.agg r)
      | none => none) none
    | none => none
  | none => none
theorem sBuild_rel {t : TypeId} {ps ps' : List (Nat × Value)} {v : Value} (h : sBuild P t ps = some v) (hp : RelP μ ps ps') : ∃ v', sBuild P t ps' = some v' ∧ Rel μ v v' := by
  unfold sBuild at h ⊢
  cases hi : P.info? t with
  | none => simp [hi] at h
  | some i =>
    cases hz : i.zero with
    | none => simp [hi, hz] at h
    | some z =>
      cases hg : z.cells.toList.all (gr 6) with
      | false => simp [hi, hz, hg] at h
      | true =>
        simp only [hi, hz, hg, cond_true] at h ⊢
        split at h
        · rename_i r hr
          cases h
          have key : ∃ r', P.built t ps' = some r' ∧ RelL μ r.toList r'.toList := by
            unfold Program.built at hr ⊢
            have hzr : RelL μ z.cells.toList z.cells.toList := RelL.refl hg
            cases hu : P.underlying t with
            | none => simp [hi, hu] at hr
            | some d =>
              cases d <;> try (simp [hi, hu] at hr; done)
              case array n e =>
                cases he : P.info? e with
                | none => simp [hi, hu, hz, he] at hr
                | some ie =>
                  simp only [hi, hu, hz, he] at hr ⊢
                  exact fill_rel _ hp hzr hr
              case struct fs =>
                cases hpl : fs.toList.mapM (fun f => (P.info? f.type).map fun i => (f.offset, i.size)) with
                | none => simp [hi, hu, hz, hpl] at hr
                | some places =>
                  simp only [hi, hu, hz, hpl] at hr ⊢
                  exact fill_rel _ hp hzr hr
          obtain ⟨r', h1, h2⟩ := key
          rw [h1]
          exact ⟨.agg r', rfl, .agg h2⟩
        · cases h
theorem sBuild_ok {t : TypeId} {ps ps' : List (Nat × Value)} {v : Value} (h : sBuild P t ps = some v) (hp : RelP μ ps ps') : Yields P μ get G w (Instr.build t ps'.toArray) v := by
  unfold sBuild at h
  cases hi : P.info? t with
  | none => simp [hi] at h
  | some i =>
    cases hz : i.zero with
    | none => simp [hi, hz] at h
    | some z =>
      cases hg : z.cells.toList.all (gr 6) with
      | false => simp [hi, hz, hg] at h
      | true =>
        simp only [hi, hz, hg, cond_true] at h
        split at h
        · rename_i r hr
          cases h
          have key : ∃ r', P.built t ps' = some r' ∧ RelL μ r.toList r'.toList := by
            unfold Program.built at hr ⊢
            have hzr : RelL μ z.cells.toList z.cells.toList := RelL.refl hg
            cases hu : P.underlying t with
            | none => simp [hi, hu] at hr
            | some d =>
              cases d <;> try (simp [hi, hu] at hr; done)
              case array n e =>
                cases he : P.info? e with
                | none => simp [hi, hu, hz, he] at hr
                | some ie =>
                  simp only [hi, hu, hz, he] at hr ⊢
                  exact fill_rel _ hp hzr hr
              case struct fs =>
                cases hpl : fs.toList.mapM (fun f => (P.info? f.type).map fun i => (f.offset, i.size)) with
                | none => simp [hi, hu, hz, hpl] at hr
                | some places =>
                  simp only [hi, hu, hz, hpl] at hr ⊢
                  exact fill_rel _ hp hzr hr
          obtain ⟨r', h1, h2⟩ := key
          exact ⟨.agg r', .agg h2, fun W _ => run_build W t ps'.toArray r' (by simpa using h1)⟩
        · cases h
/-! Maps -/
def toM : List (Value × Value) → List MapEntry := List.map fun x => { key := x.1, val := x.2, born := 0 }
theorem findNow_rel (kind : TypeDesc) (k : Value) : ∀ {es : List (Value × Value)} {rs : List MapEntry}, RelM μ es rs → ∀ (i : Nat),
    (∀ j v, Instr.findNow kind k (toM es) i = some (some (j, v)) → ∃ v', Instr.findNow kind k rs i = some (some (j, v')) ∧ Rel μ v v') ∧
    (Instr.findNow kind k (toM es) i = some none → Instr.findNow kind k rs i = some none) ∧ (Instr.findNow kind k (toM es) i = none → Instr.findNow kind k rs i = none)
  | [], [], _, i => by simp [toM, Instr.findNow]
  | x :: es, e :: rs, ⟨⟨h1, _, h3⟩, t⟩, i => by
    have ih := findNow_rel kind k t (i + 1)
    have hx : toM (x :: es) = { key := x.1, val := x.2, born := 0 } :: toM es := rfl
    rw [hx]
    simp only [Instr.findNow, h1]
    cases hs : Instr.sameNow kind k x.1 with
    | none => simp
    | some b =>
      cases b with
      | true =>
        simp only [Option.some.injEq, Prod.mk.injEq, reduceCtorEq, false_implies, and_self, and_true]
        rintro j v ⟨rfl, rfl⟩
        exact ⟨e.val, ⟨rfl, rfl⟩, h3⟩
      | false => exact ih
  | [], _ :: _, h, _ => h.elim
  | _ :: _, [], h, _ => h.elim
/-- A key asked for, entry by entry. -/
def sAsk (P : Program) (kt : TypeId) (k : Value) : List (Value × Value) → Nat → Option (Option (Nat × Value))
  | [], _ => some none
  | x :: es, i => match pureOut P (Op.equal kt k x.1) with
    | some true => some (some (i, x.2))
    | some false => sAsk P kt k es (i + 1)
    | none => none
def sFind (P : Program) (kt : TypeId) (k : Value) (es : List (Value × Value)) : Option (Option (Nat × Value)) := match P.underlying kt with
  | some kind => match Instr.findNow kind k (toM es) 0 with
    | some r => some r
    | none => sAsk P kt k es 0
  | none => none
theorem sAsk_ok {kt : TypeId} {k : Value} : ∀ {es : List (Value × Value)} {rs : List MapEntry}, RelM μ es rs → ∀ (i : Nat) {r : Option (Nat × Value)}, sAsk P kt k es i = some r →
    ∃ r', (∀ W, (Instr.findAsking kt k rs i).run P W = .ok r' W) ∧ (r = none → r' = none) ∧ ∀ j v, r = some (j, v) → ∃ v', r' = some (j, v') ∧ Rel μ v v'
  | [], [], _, i, r, h => by
    simp only [sAsk, Option.some.injEq] at h
    subst h
    exact ⟨none, fun W => rfl, fun _ => rfl, fun _ _ h => by cases h⟩
  | x :: es, e :: rs, ⟨⟨h1, _, h3⟩, t⟩, i, r, h => by
    simp only [sAsk] at h
    cases hq : pureOut P (Op.equal kt k x.1) with
    | none => simp [hq] at h
    | some b =>
      have hrun := fun W => pureOut_run hq W
      rw [← h1] at hrun
      cases b with
      | true =>
        simp only [hq, Option.some.injEq] at h
        subst h
        exact ⟨some (i, e.val), fun W => by simp only [Instr.findAsking, Sem.run_bind, hrun W, Result.andThen_ok, if_true, Sem.run_pure], (fun h => by cases h), fun j v h => by cases h; exact ⟨e.val, rfl, h3⟩⟩
      | false =>
        simp only [hq] at h
        obtain ⟨r', g1, g2, g3⟩ := sAsk_ok t (i + 1) h
        exact ⟨r', fun W => by simp only [Instr.findAsking, Sem.run_bind, hrun W, Result.andThen_ok, Bool.false_eq_true, if_false]; exact g1 W, g2, g3⟩
  | [], _ :: _, h, _, _, _ => h.elim
  | _ :: _, [], h, _, _, _ => h.elim
theorem sFind_ok {kt : TypeId} {k : Value} {es : List (Value × Value)} {rs : List MapEntry} (hr : RelM μ es rs) {r : Option (Nat × Value)} (h : sFind P kt k es = some r) :
    ∃ r', (∀ W, (Instr.findKey kt k rs).run P W = .ok r' W) ∧ (r = none → r' = none) ∧ ∀ j v, r = some (j, v) → ∃ v', r' = some (j, v') ∧ Rel μ v v' := by
  unfold sFind at h
  cases hu : P.underlying kt with
  | none => simp [hu] at h
  | some kind =>
    simp only [hu] at h
    obtain ⟨f1, f2, f3⟩ := findNow_rel kind k hr 0
    cases hn : Instr.findNow kind k (toM es) 0 with
    | some q =>
      simp only [hn, Option.some.injEq] at h
      subst h
      cases q with
      | none => exact ⟨none, fun W => by simp only [Instr.findKey, Sem.run_bind, run_underlying hu W, Result.andThen_ok, f2 hn, Sem.run_pure], fun _ => rfl, fun _ _ h => by cases h⟩
      | some jv =>
        obtain ⟨v', g1, g2⟩ := f1 jv.1 jv.2 hn
        exact ⟨some (jv.1, v'), fun W => by simp only [Instr.findKey, Sem.run_bind, run_underlying hu W, Result.andThen_ok, g1, Sem.run_pure], (fun h => by cases h), fun j v h => by cases h; exact ⟨v', rfl, g2⟩⟩
    | none =>
      simp only [hn] at h
      obtain ⟨r', g1, g2, g3⟩ := sAsk_ok hr 0 h
      exact ⟨r', fun W => by simp only [Instr.findKey, Sem.run_bind, run_underlying hu W, Result.andThen_ok, f3 hn]; exact g1 W, g2, g3⟩
def mapAt (get : Nat → Option SB) : Value → Option (List (Value × Value))
  | .map none => some []
  | .map (some j) => match get j with
    | some (.map es _) => some es
    | _ => none
  | _ => none
def sLookup (P : Program) (get : Nat → Option SB) (t : TypeId) (x ix : Value) (ok : Bool) : Option Value := match P.underlying t, mapAt get x with
  | some (.map kt et), some es => cond (gr 6 ix) (match pureOut P (Instr.checkKey es.isEmpty 10000 kt ix), sFind P kt ix es with
    | some (), some (some (_, v)) => some (cond ok (.tuple #[v, .bool true]) v)
    | some (), some none => match P.info? et with
      | some i => match i.zero with
        | some z => cond (gr 6 z) (some (cond ok (.tuple #[z, .bool false]) z)) none
        | none => none
      | none => none
    | _, _ => none) none
  | _, _ => none
theorem map_at (hs : Sees P N G μ get w) {x p : Value} {es : List (Value × Value)} (h : mapAt get x = some es) (hp : Rel μ x p) :
    ∃ rs : Array MapEntry, RelM μ es rs.toList ∧ ((p = .map none ∧ rs = #[]) ∨ ∃ b cl, p = .map (some b) ∧ ∀ W, Same μ get G w W → W.heap[b]? = some (.map rs cl)) := by
  cases x with
  | map r =>
    cases r with
    | none =>
      simp only [mapAt, Option.some.injEq] at h
      subst h
      obtain rfl := hp.eq (by simp [gr])
      exact ⟨#[], trivial, .inl ⟨rfl, rfl⟩⟩
    | some j =>
      simp only [mapAt] at h
      split at h
      · rename_i es' hg
        cases h
        obtain ⟨b, κ, ents, cl, h1, h2, h3, h4, _⟩ := hs.blk j _ hg
        cases hp with
        | ground hgr => simp [gr] at hgr
        | map hm =>
          rw [h1] at hm; cases hm
          exact ⟨ents, h4, .inr ⟨b, cl, rfl, fun W hW => (hW.1 j _ hg _ _ h1).trans h3⟩⟩
      · cases h
  | _ => simp [mapAt] at h
theorem isEmpty_rel {es : List (Value × Value)} {rs : Array MapEntry} (h : RelM μ es rs.toList) : rs.isEmpty = es.isEmpty := by
  obtain ⟨l⟩ := rs
  cases es <;> cases l
  · rfl
  · exact h.elim
  · exact h.elim
  · simp
theorem sLookup_ok (hs : Sees P N G μ get w) {t : TypeId} {x p ix iv v : Value} {ok : Bool} (h : sLookup P get t x ix ok = some v) (hp : Rel μ x p) (hi : Rel μ ix iv) : Yields P μ get G w (Instr.lookup t p iv ok) v := by
  unfold sLookup at h
  split at h
  · rename_i kt et es hu hes
    cases hgi : gr 6 ix with
    | false => simp [hgi] at h
    | true =>
      obtain rfl := hi.eq hgi
      simp only [hgi, cond_true] at h
      obtain ⟨rs, hrs, hwhere⟩ := map_at (G := G) hs hes hp
      have hemp := isEmpty_rel hrs
      have body : ∀ (W : World) (r : Option (Nat × Value)), Same μ get G w W → pureOut P (Instr.checkKey es.isEmpty 10000 kt iv) = some () → (∀ W, (Instr.findKey kt iv rs.toList).run P W = .ok r W) →
          (Instr.lookup t p iv ok).run P W = (do
            let (v, ok') ← match r with
              | some (_, v) => pure (v, true)
              | none => do pure (← zeroValue et, false)
            pure (if ok then .tuple #[v, .bool ok'] else v) : Sem Value).run P W := fun W r hW hck hf => by
        have hck' := pureOut_run hck W
        rw [← hemp] at hck'
        have hf' := hf W
        unfold Instr.lookup
        rcases hwhere with ⟨rfl, rfl⟩ | ⟨b, cl, rfl, hb⟩
        · simp only [Sem.run_bind, run_underlying hu W, Result.andThen_ok, Sem.run_pure, hck', hf']
          cases r <;> rfl
        · simp only [Sem.run_bind, run_underlying hu W, Result.andThen_ok, Sem.run_pure, getObj_map (hb W hW), hck', hf']
          cases r <;> rfl
      split at h
      · rename_i j v' hck hfd
        cases h
        obtain ⟨r', g1, _, g3⟩ := sFind_ok hrs hfd
        obtain ⟨v2, rfl, hv⟩ := g3 _ _ rfl
        cases ok with
        | true => exact ⟨.tuple #[v2, .bool true], .tuple (.cons hv (.cons (.ground rfl) .nil)), fun W hW => by rw [body W _ hW hck g1]; rfl⟩
        | false => exact ⟨v2, hv, fun W hW => by rw [body W _ hW hck g1]; rfl⟩
      · rename_i hck hfd
        obtain ⟨r', g1, g2, _⟩ := sFind_ok hrs hfd
        obtain rfl := g2 rfl
        split at h
        · rename_i i hie
          split at h
          · rename_i z hz
            cases hgz : gr 6 z with
            | false => simp [hgz] at h
            | true =>
              simp only [hgz, cond_true, Option.some.injEq] at h
              subst h
              have hzero : ∀ W, (zeroValue et).run P W = .ok z W := fun W => by simp [zeroValue, typeInfo, hie, hz]
              cases ok with
              | true => exact ⟨.tuple #[z, .bool false], .tuple (.cons (.ground hgz) (.cons (.ground rfl) .nil)), fun W hW => by rw [body W _ hW hck g1]; simp [hzero W]⟩
              | false => exact ⟨z, .ground hgz, fun W hW => by rw [body W _ hW hck g1]; simp [hzero W]⟩
          · cases h
        · cases h
      · cases h
  · cases h
end
end Go.Proofs.Ytedpbkpeofaibaa
