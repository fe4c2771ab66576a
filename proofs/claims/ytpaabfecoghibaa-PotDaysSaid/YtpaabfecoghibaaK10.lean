/- Regions that draw, on the shadow: they are right. Over any program. Conditions: as each law says. -/
import Derived.Test.YtpaabfecoghibaaK9
namespace Go.Proofs.Ytpaabfecoghibaa
open Go Go.RowKit
set_option linter.unusedSimpArgs false
set_option linter.unusedVariables false
/-- What waiting reads may find is as at the start. -/
structure SS (ops : Array Oper) (F : List (Nat × Nat)) (G : Gl) (μ0 : Mu) (w0 : World) (L : Array Bool) (W : World) : Prop where
  fr : ∀ x ∈ F, (∀ m, L.getD m false = true → quietAt ops m = false → waits ops x.1 (ops.size + 1) m = false) → ∀ b κ, μ0 x.2 = some (b, κ) → W.heap[b]? = w0.heap[b]?
  gl : ∀ b, GB G b → W.heap[b]? = w0.heap[b]?
  calm : (∀ m, m < ops.size → L.getD m false = true → quietAt ops m = false → makerAt ops m = true) → ∀ b, b < w0.heap.size → W.heap[b]? = w0.heap[b]?
theorem SS.mono {ops : Array Oper} {F : List (Nat × Nat)} {G : Gl} {μ0 : Mu} {w0 W : World} {L : Array Bool} (k : Nat) (h : SS ops F G μ0 w0 L W) : SS ops F G μ0 w0 (L.setIfInBounds k true) W :=
  ⟨fun x hx hw => h.fr x hx fun m hm => hw m ((set_true_iff _ _ _).2 (.inl hm)), h.gl, fun hq => h.calm fun m hs hm => hq m hs ((set_true_iff _ _ _).2 (.inl hm))⟩
theorem SS.quiet {ops : Array Oper} {F : List (Nat × Nat)} {G : Gl} {μ0 : Mu} {w0 W : World} {L : Array Bool} {i : Nat} (hq : quietAt ops i = true) (h : SS ops F G μ0 w0 (L.setIfInBounds i true) W) : SS ops F G μ0 w0 L W :=
  ⟨fun x hx hw => h.fr x hx (fun m hm hn => by
    rcases (set_true_iff _ _ _).1 hm with h' | h'
    · exact hw m h' hn
    · rw [h'.1, hq] at hn
      exact absurd hn (by simp)), h.gl, fun hc => h.calm fun m hs hm hn => by
    rcases (set_true_iff _ _ _).1 hm with h' | h'
    · exact hc m hs h' hn
    · rw [h'.1, hq] at hn
      exact absurd hn (by simp)⟩
def blk (E : Laid) : List Nat := E.flatMap (·.2.2.2)
theorem blk_cons (x : Nat × Tmp × Value × List Nat) (E : Laid) : blk (x :: E) = x.2.2.2 ++ blk E := rfl
theorem mem_blk {E : Laid} {b : Nat} : b ∈ blk E ↔ ∃ x ∈ E, b ∈ x.2.2.2 := by simp [blk, List.mem_flatMap]
/-- What an operation that came up ahead of time has made is there. -/
def LaidC (P : Program) (N : Lim) (w : World) (c : EC) (v : Value) (bs : List Nat) : Prop := match c with
  | (none, f) => (∀ a, f a = v) ∧ bs = []
  | (some (cs, t, κ), f) => ∃ b sz, bs = [b] ∧ v = f ⟨b, 0, none⟩ ∧ w.heap[b]? = some (.cells cs.toArray t (0, 0)) ∧ (P.info? t).map (·.size) = some sz ∧ cs.length = κ * sz ∧ N.n ≤ b ∧ b ∉ N.x
def LaidOk (P : Program) (ops : Array Oper) (N : Lim) (w : World) (ρ : Nat → Value) (ts2 : Fr) (x : Nat × Tmp × Value × List Nat) : Prop :=
  ∃ o c, ops[x.1]? = some o ∧ o.dst = some x.2.1 ∧ eCw P ops o ρ = some c ∧ Shp (ts2.get x.2.1) x.2.2.1 ∧ LaidC P N w c x.2.2.1 x.2.2.2
theorem LaidC.keep {P : Program} {N : Lim} {w w' : World} {c : EC} {v : Value} {bs : List Nat} (h : LaidC P N w c v bs) (hk : ∀ b ∈ bs, w'.heap[b]? = w.heap[b]?) : LaidC P N w' c v bs := by
  obtain ⟨c0, f⟩ := c
  cases c0 with
  | none => exact h
  | some q =>
    obtain ⟨cs, t, κ⟩ := q
    obtain ⟨b, sz, rfl, h1, h2, h3⟩ := h
    exact ⟨b, sz, rfl, h1, (hk b (by simp)).trans h2, h3⟩
theorem LaidC.lt {P : Program} {N : Lim} {w : World} {c : EC} {v : Value} {bs : List Nat} (h : LaidC P N w c v bs) : ∀ b ∈ bs, b < w.heap.size := by
  obtain ⟨c0, f⟩ := c
  cases c0 with
  | none => obtain ⟨_, rfl⟩ := h; intro b hb; cases hb
  | some q =>
    obtain ⟨cs, t, κ⟩ := q
    obtain ⟨b, sz, rfl, h1, h2, h3⟩ := h
    intro b' hb
    obtain rfl : b' = b := by simpa using hb
    exact (Array.getElem?_eq_some_iff.1 h2).1
/-- What is so of those that may come up ahead of time, whatever comes. -/
structure Sta (P : Program) (ops : Array Oper) (A : List Nat) (ts2 : Fr) : Prop where
  at' : ∀ e ∈ A, ∃ o d c, ops[e]? = some o ∧ o.dst = some d ∧ eCw P ops o ts2.get = some c ∧ (∃ a, ts2.get d = c.2 a) ∧ d < ts2.n
  nd : (dstsOf ops A).Nodup
  dep : ∀ e ∈ A, ∀ e2 ∈ A, ∀ o o2 d, ops[e]? = some o → ops[e2]? = some o2 → o.dst = some d → d ∈ o2.looksAt ops → waits ops e (ops.size + 1) e2 = true
  self : ∀ e ∈ A, ∀ o d, ops[e]? = some o → o.dst = some d → d ∉ o.looksAt ops
/-- In the middle of a region. -/
structure Mid (P : Program) (ops : Array Oper) (N : Lim) (G : Gl) (F : List (Nat × Nat)) (μ0 : Mu) (w0 : World) (frz : List Nat) (D0 : List Deferred) (A : List Nat) (ts2 : Fr) (l : Array Bool) (dn : List Nat) (ts : Fr) (h : SH) (μ : Mu) (E : Laid) (a : Act) (w : World) : Prop where
  den : Den P (limE N (blk E)) G μ h w
  rel : RelF μ ts a.tmps
  clo : Closed ops (setAll l (E.map (·.1)))
  le : μ0.le μ
  bel : Bel N w0 w
  kp : Keep μ0 frz w0 w
  ss : SS ops F G μ0 w0 (setAll l (E.map (·.1))) w
  dnl : ∀ k ∈ dn, quietAt ops k = false ∧ l.getD k false = true
  laid : ∀ x ∈ E, x.1 ∈ A ∧ LaidOk P ops N w (tm (putE E a).tmps) ts2 x
  nd : (E.map (·.1)).Nodup
  ndb : (blk E).Nodup
  df : a.defers = D0
  agr : ∀ t ∈ usesA ops A, t ∉ dstsOf ops A → ts2.get t = ts.get t
  sz : ts2.n = ts.n
  ls : l.size = ops.size
def Q0 (Q : Act → World → Prop) : Exit → Act → World → Prop
  | .normal, a, w => Q a w
  | _, _, _ => False
theorem sub_length : ∀ {A B : List Nat}, A.Nodup → (∀ x ∈ A, x ∈ B) → A.length ≤ B.length
  | [], _, _, _ => by simp
  | a :: A, B, hn, hs => by
    rw [List.nodup_cons] at hn
    have hm : a ∈ B := hs a (by simp)
    have := sub_length (A := A) (B := B.erase a) hn.2 fun x hx => (List.mem_erase_of_ne (fun e => hn.1 (by rw [← e]; exact hx))).2 (hs x (by simp [hx]))
    rw [List.length_erase_of_mem hm] at this
    have : 0 < B.length := List.length_pos_of_mem hm
    simp only [List.length_cons]
    omega
theorem perm_of_sub : ∀ {A B : List Nat}, A.Nodup → B.Nodup → (∀ x ∈ A, x ∈ B) → (∀ x ∈ B, x ∈ A) → A.Perm B := fun ha hb h1 h2 =>
  (List.perm_ext_iff_of_nodup ha hb).2 fun x => ⟨h1 x, h2 x⟩
theorem perm_lift {α β : Type} {f : α → β} {l1 l2 : List β} (h : l1.Perm l2) : ∀ E : List α, E.map f = l1 → ∃ E', E.Perm E' ∧ E'.map f = l2 := by
  induction h with
  | nil => intro E hE; exact ⟨E, .refl _, hE⟩
  | cons x _ ih =>
    intro E hE
    cases E with
    | nil => simp at hE
    | cons y E =>
      simp only [List.map_cons, List.cons.injEq] at hE
      obtain ⟨E', h1, h2⟩ := ih E hE.2
      exact ⟨y :: E', h1.cons y, by simp [hE.1, h2]⟩
  | swap x y l =>
    intro E hE
    match E, hE with
    | a :: b :: E, hE =>
      simp only [List.map_cons, List.cons.injEq] at hE
      exact ⟨b :: a :: E, .swap .., by simp [hE.1, hE.2.1, hE.2.2]⟩
  | trans _ _ h1 h2 =>
    intro E hE
    obtain ⟨E1, p1, e1⟩ := h1 E hE
    obtain ⟨E2, p2, e2⟩ := h2 E1 e1
    exact ⟨E2, p1.trans p2, e2⟩
theorem putE_perm {E E' : Laid} (h : E.Perm E') : (E.map (·.2.1)).Nodup → ∀ a, putE E a = putE E' a := by
  induction h with
  | nil => intro _ a; rfl
  | cons x _ ih =>
    intro hn a
    simp only [List.map_cons, List.nodup_cons] at hn
    simp only [putE, ih hn.2]
  | swap x y l =>
    intro hn a
    simp only [List.map_cons, List.nodup_cons, List.mem_cons, not_or] at hn
    simp only [putE]
    exact Act.put_comm _ _ _ fun d hd he => hn.1.1 (by rw [Option.some.injEq] at hd he; rw [he, hd])
  | trans p1 _ h1 h2 =>
    intro hn a
    rw [h1 hn, h2 ((p1.map _).nodup_iff.1 hn)]
theorem putE_last (E : Laid) (x : Nat × Tmp × Value × List Nat) (a : Act) : putE (E ++ [x]) a = putE E (a.put (some x.2.1) x.2.2.1) := by
  induction E with
  | nil => rfl
  | cons y E ih => simp only [List.cons_append, putE, ih]
theorem noneTwice_spec : ∀ {l : List Nat}, noneTwice l = true → l.Nodup
  | [], _ => .nil
  | d :: l, h => by
    simp only [noneTwice, Bool.and_eq_true] at h
    exact List.nodup_cons.2 ⟨notIn_spec h.1, noneTwice_spec h.2⟩
section
variable {P : Program} {N : Lim} {G : Gl} {ops : Array Oper} {F : List (Nat × Nat)} {μ0 : Mu} {w0 : World} {frz : List Nat} {D0 : List Deferred}
theorem dst_mem {A : List Nat} {e : Nat} {o : Oper} {d : Tmp} (he : e ∈ A) (ho : ops[e]? = some o) (hd : o.dst = some d) : d ∈ dstsOf ops A := List.mem_filterMap.2 ⟨e, he, by simp [ho, hd]⟩
theorem tm_put_ne {a : Act} {d t : Tmp} {v : Value} (h : t ≠ d) : tm (a.put (some d) v).tmps t = tm a.tmps t := by
  simp only [tm, Act.put, Array.getD_eq_getD_getElem?]
  rw [Array.getElem?_setIfInBounds_ne (Ne.symm h)]
theorem tm_put_same {a : Act} {d : Tmp} {v : Value} (h : d < a.tmps.size) : tm (a.put (some d) v).tmps d = v := by
  simp only [tm, Act.put, Array.getD_eq_getD_getElem?]
  rw [Array.getElem?_setIfInBounds_self_of_lt h]; rfl
theorem putE_size (E : Laid) (a : Act) : (putE E a).tmps.size = a.tmps.size := by
  induction E with
  | nil => rfl
  | cons x E ih => simp only [putE, Act.put, Array.size_setIfInBounds, ih]
theorem putE_ne {E : Laid} {a : Act} {t : Tmp} (h : ∀ x ∈ E, t ≠ x.2.1) : tm (putE E a).tmps t = tm a.tmps t := by
  induction E with
  | nil => rfl
  | cons x E ih => simp only [putE]; rw [tm_put_ne (h x (by simp)), ih fun y hy => h y (by simp [hy])]
theorem putE_same {E : Laid} {a : Act} : (E.map (·.2.1)).Nodup → (∀ x ∈ E, x.2.1 < a.tmps.size) → ∀ x ∈ E, tm (putE E a).tmps x.2.1 = x.2.2.1 := by
  induction E with
  | nil => intro _ _ x hx; cases hx
  | cons y E ih =>
    intro hn hl x hx
    simp only [List.map_cons, List.nodup_cons] at hn
    simp only [putE]
    rcases List.mem_cons.1 hx with rfl | hx
    · exact tm_put_same (by rw [putE_size]; exact hl x (by simp))
    · rw [tm_put_ne (fun e => hn.1 (List.mem_map.2 ⟨x, hx, e⟩))]
      exact ih hn.2 (fun z hz => hl z (by simp [hz])) x hx
theorem laid_dsts {E : Laid} (h : ∀ x ∈ E, ∃ o, ops[x.1]? = some o ∧ o.dst = some x.2.1) : E.map (·.2.1) = dstsOf ops (E.map (·.1)) := by
  induction E with
  | nil => rfl
  | cons x E ih =>
    obtain ⟨o, h1, h2⟩ := h x (by simp)
    rw [List.map_cons, List.map_cons, ih fun y hy => h y (by simp [hy])]
    simp [dstsOf, h1, h2]
/-- What came up ahead of time comes up on the shadow. -/
theorem layAll_ok {w : World} {ρ : Nat → Value} {ts9 : Fr} (hGB : ∀ b, GB G b → b < N.n ∨ b ∈ N.x) : ∀ (E : Laid) (ts : Fr) (h : SH) (μ : Mu) (a : Act) {ts2 : Fr} {h2 : SH}, layAll P ops (E.map (·.1)) ts h = some (ts2, h2) → Den P (limE N (blk E)) G μ h w → (blk E).Nodup → (∀ x ∈ E, LaidOk P ops N w ρ ts9 x) → (∀ x ∈ E, ρ x.2.1 = x.2.2.1) → RelF μ ts a.tmps →
    (∀ t, (∀ y ∈ E, t ≠ y.2.1) → tm a.tmps t = ρ t) → ordered ops (E.map (·.1)) = true →
    ∃ μ2, μ.le μ2 ∧ Den P N G μ2 h2 w ∧ RelF μ2 ts2 (putE E.reverse a).tmps
  | [], ts, h, μ, a, ts2, h2, e, d, _, _, _, hr, _, _ => by
    simp only [List.map_nil, layAll, Option.some.injEq, Prod.mk.injEq] at e
    obtain ⟨rfl, rfl⟩ := e
    exact ⟨μ, Mu.le_refl _, d, hr⟩
  | x :: E, ts, h, μ, a, ts2, h2, e, d, hnd, hl, hρ, hr, hag, hor => by
    obtain ⟨o, c', ho, hdst, hc', _, hlc⟩ := hl x (by simp)
    have hds : (x :: E).map (·.2.1) = dstsOf ops ((x :: E).map (·.1)) := laid_dsts fun y hy => let ⟨o, _, h1, h2, _⟩ := hl y hy; ⟨o, h1, h2⟩
    simp only [List.map_cons, ordered, Bool.and_eq_true, ho] at hor
    obtain ⟨ho1, hor⟩ := hor
    have hds' : dstsOf ops (x.1 :: E.map (·.1)) = (x :: E).map (·.2.1) := hds.symm
    rw [hds', List.all_eq_true] at ho1
    have hlook : ∀ t ∈ o.looksAt ops, tm a.tmps t = ρ t := fun t ht => hag t fun y hy e => by
      have := notIn_spec (ho1 y.2.1 (List.mem_map.2 ⟨y, hy, rfl⟩))
      rw [e] at ht; exact this ht
    simp only [List.map_cons, layAll, ho, hdst] at e
    cases hdn : Nat.blt x.2.1 ts.n with
    | false => rw [hdn] at e; cases e
    | true =>
      rw [hdn, cond_true] at e
      have hsz : x.2.1 < a.tmps.size := by rw [← hr.n]; simpa [Nat.blt_eq] using hdn
      have hput : ∀ v, v = x.2.2.1 → ∀ t, (∀ y ∈ E, t ≠ y.2.1) → tm (a.put (some x.2.1) v).tmps t = ρ t := fun v hv t ht => by
        by_cases htx : t = x.2.1
        · subst htx; rw [tm_put_same hsz, hv, hρ x (by simp)]
        · rw [tm_put_ne htx]
          exact hag t fun y hy => by
            rcases List.mem_cons.1 hy with rfl | hy
            · exact htx
            · exact ht y hy
      have hcr : ∀ c, eCw P ops o ts.get = some c → CRel μ c c' := fun c hc => by
        obtain ⟨c2, h1, h2⟩ := eCw_rel (g' := tm a.tmps) (fun t _ => hr.at' t) hc
        rw [eCw_congr hlook, hc'] at h1
        cases h1; exact h2
      split at e
      · rename_i f hc
        have hcr := hcr _ hc
        obtain ⟨c0, f'⟩ := c'
        cases c0 with
        | some q => exact hcr.elim
        | none =>
          obtain ⟨hf, hbs⟩ := hlc
          obtain ⟨μ2, h1, h2, h3⟩ := layAll_ok hGB E _ _ _ (a.put (some x.2.1) x.2.2.1) e (by rw [blk_cons, hbs] at d; exact d) (by rw [blk_cons, hbs] at hnd; exact hnd) (fun y hy => hl y (by simp [hy])) (fun y hy => hρ y (by simp [hy]))
            (hr.set (by rw [← hf ⟨0, 0, none⟩]; exact hcr _ _) _) (hput _ rfl) hor
          exact ⟨μ2, h1, h2, by rw [List.reverse_cons, putE_last]; exact h3⟩
      · rename_i cs t κ f hc
        have hcr := hcr _ hc
        obtain ⟨c0, f'⟩ := c'
        cases c0 with
        | none => exact hcr.elim
        | some q =>
          obtain ⟨cs', t', κ'⟩ := q
          obtain ⟨b, sz, hbs, hv, hheap, hsz2, hlen, hn, hx⟩ := hlc
          obtain ⟨rfl, rfl, hrel, hval⟩ : t = t' ∧ κ = κ' ∧ RelL μ cs cs' ∧ _ := hcr
          rw [blk_cons, hbs] at d hnd
          simp only [List.singleton_append, List.nodup_cons] at hnd
          obtain ⟨hle, d'⟩ := Den.adopt (E := blk E) (b := b) (by simpa using d) hGB hnd.1 hx hn hheap hsz2 (κ := κ) (by simpa using hlen) (cs := cs) (by simpa using hrel)
          obtain ⟨μ2, h1, h2, h3⟩ := layAll_ok hGB E _ _ _ (a.put (some x.2.1) x.2.2.1) e d' hnd.2 (fun y hy => hl y (by simp [hy])) (fun y hy => hρ y (by simp [hy]))
            ((hr.mono hle).set (by rw [hv]; exact hval _ _ _ Mu.add_same) _) (hput _ rfl) hor
          exact ⟨μ2, Mu.le_trans hle h1, h2, by rw [List.reverse_cons, putE_last]; exact h3⟩
      · cases e
theorem WF_done {Fn : Fence} {n : Nat} {Q : Exit → Act → World → Prop} {S : Array Bool → World → Prop} {L : Array Bool} {a : Act} {w : World} (hr : Region.ready .any ops L = []) (h : Q .normal a w) : ∀ fuel, WF Fn n P ops Q S fuel L a w
  | 0 => ⟨hr, h⟩
  | _ + 1 => ⟨fun _ => h, by rw [hr]; simp⟩
/-- An operation comes up ahead of time. -/
theorem wp_early {ro' : Option Nat} {Q : Exit → Act → World → Prop} {e : Nat} {o : Oper} {d : Tmp} {c : EC} (ho : ops[e]? = some o) (hnd : notDefer o = true) (hd : o.dst = some d) {K : Act → World → Prop} {a : Act} {w : World} (h : eCw P ops o (tm a.tmps) = some c)
    (k : ∀ v w', Came P c w v w' → K (a.put (some d) v) w') : wpOpIn (FR ro') 0 P ops Q e K a w := by
  unfold eCw at h
  cases hc : o.op.operands.toList.all constOk with
  | false => rw [hc] at h; cases h
  | true =>
    rw [hc, cond_true, yieldedG_yielded] at h
    unfold wpOpIn
    simp only [ho]
    cases hw : Region.wanted o (yielded ops a.tmps) with
    | true =>
      rw [hw, cond_true] at h
      obtain ⟨v, w', h1, h2⟩ := eC_run h w
      simp only [if_true]
      refine ⟨fun f _ => FR_fn ro' f, ?_⟩
      rw [Oper.semAt_eq _ _ _ (notDefer_spec hnd), h1, Oper.uponIn_value, hd]
      exact k v w' h2
    | false =>
      rw [hw, cond_false] at h
      simp only [Option.some.injEq] at h
      subst h
      simp only [Bool.false_eq_true, if_false]
      refine ⟨fun f _ => FR_fn ro' f, ?_⟩
      rw [hd]
      exact k undef w ⟨fun _ => rfl, rfl⟩
theorem Mid.lay {A : List Nat} {ts2 : Fr} {l : Array Bool} {dn : List Nat} {ts : Fr} {h : SH} {μ : Mu} {E : Laid} {a : Act} {w : World} (m : Mid P ops N G F μ0 w0 frz D0 A ts2 l dn ts h μ E a w) (st : Sta P ops A ts2) (hG0 : ∀ b, GB G b → b < N.n ∨ b ∈ N.x) (hfl : ∀ k ∈ frz, ∀ b κ, μ0 k = some (b, κ) → b < w.heap.size)
    (hFl : ∀ x ∈ F, ∀ b κ, μ0 x.2 = some (b, κ) → b < w.heap.size)
    {j : Nat} {o : Oper} {d : Tmp} {c : EC} (hj : j ∈ A) (hjE : j ∉ E.map (·.1)) (hr : j ∈ Region.ready .any ops (setAll l (E.map (·.1)))) (ho : ops[j]? = some o) (hd : o.dst = some d) (hc : eCw P ops o (tm (putE E a).tmps) = some c) {v : Value} {w' : World} (hcm : Came P c w v w') (hshp : Shp (ts2.get d) v) :
    ∃ bs, Mid P ops N G F μ0 w0 frz D0 A ts2 l dn ts h μ ((j, d, v, bs) :: E) a w' := by
  have hlaidA : ∀ x ∈ E, ∃ o, ops[x.1]? = some o ∧ o.dst = some x.2.1 := fun x hx => let ⟨_, o, _, h1, h2, _⟩ := m.laid x hx; ⟨o, h1, h2⟩
  have hun : (setAll l (E.map (·.1))).getD j false = false := getD_none (mem_ready.1 hr).1
  have hdE : ∀ x ∈ E, d ≠ x.2.1 := fun x hx e => by
    obtain ⟨o', h1, h2⟩ := hlaidA x hx
    have hxj : x.1 ≠ j := fun e' => hjE (List.mem_map.2 ⟨x, hx, e'⟩)
    have hx1 := (m.laid x hx).1
    have key : ∀ (B : List Nat), (dstsOf ops B).Nodup → x.1 ∈ B → j ∈ B → False := by
      intro B
      induction B with
      | nil => intro _ h; cases h
      | cons y B ih =>
        intro hn h3 h4
        cases hy : (ops[y]?).bind (·.dst) with
        | none =>
          have h3' : x.1 ∈ B := by
            rcases List.mem_cons.1 h3 with h5 | h5
            · rw [← h5, h1] at hy; simp [h2] at hy
            · exact h5
          have h4' : j ∈ B := by
            rcases List.mem_cons.1 h4 with h5 | h5
            · rw [← h5, ho] at hy; simp [hd] at hy
            · exact h5
          exact ih (by simpa [dstsOf, hy] using hn) h3' h4'
        | some dy =>
          have hc2 : dstsOf ops (y :: B) = dy :: dstsOf ops B := by simp [dstsOf, hy]
          rw [hc2, List.nodup_cons] at hn
          rcases List.mem_cons.1 h3 with h5 | h5 <;> rcases List.mem_cons.1 h4 with h6 | h6
          · exact hxj (h5.trans h6.symm)
          · rw [← h5, h1] at hy
            simp only [Option.bind_some, h2, Option.some.injEq] at hy
            exact hn.1 (by rw [← hy, ← e]; exact dst_mem h6 ho hd)
          · rw [← h6, ho] at hy
            simp only [Option.bind_some, hd, Option.some.injEq] at hy
            exact hn.1 (by rw [← hy, e]; exact dst_mem h5 h1 h2)
          · exact ih hn.2 h5 h6
    exact key A st.nd hx1 hj
  have hlookE : ∀ x ∈ E, ∀ o', ops[x.1]? = some o' → d ∉ o'.looksAt ops := fun x hx o' ho' hm => by
    have := st.dep j hj x.1 (m.laid x hx).1 o o' d ho ho' hd hm
    have h1 := (waits_not m.clo hun _ _ this).1
    have h2 := (setAll_true (E.map (·.1)) l x.1).2 (.inr ⟨List.mem_map.2 ⟨x, hx, rfl⟩, by rw [m.ls]; exact (Array.getElem?_eq_some_iff.1 ho').1⟩)
    rw [h1] at h2
    cases h2
  have hself := st.self j hj o d ho hd
  have hnew : ∀ bs, (∀ t, t ≠ d → tm (putE ((j, d, v, bs) :: E) a).tmps t = tm (putE E a).tmps t) := fun bs t ht => by
    simp only [putE]; exact tm_put_ne ht
  have hset : ∀ bs, setAll l ((((j, d, v, bs) :: E : Laid)).map (·.1)) = (setAll l (E.map (·.1))).setIfInBounds j true := fun bs => by
    rw [List.map_cons, setAll_cons, setAll_set]
  have hold : ∀ k, k < w.heap.size → w'.heap[k]? = w.heap[k]? := fun k hk => by
    obtain ⟨c0, f⟩ := c
    cases c0 with
    | none => obtain ⟨_, rfl⟩ := hcm; rfl
    | some q => obtain ⟨cs, t, κ⟩ := q; obtain ⟨_, rfl, _⟩ := hcm; exact Below.heap_alloc w _ k hk
  have hb : ∀ x ∈ E, ∀ b ∈ x.2.2.2, b < w.heap.size := fun x hx => by
    obtain ⟨_, o', c', _, _, _, _, h1⟩ := m.laid x hx
    exact h1.lt
  have hbN : Base N w := ⟨m.den.base.1, fun k hk => m.den.base.2 k (by simp [limE, hk])⟩
  have hbel : Bel N w0 w' := by
    obtain ⟨c0, f⟩ := c
    cases c0 with
    | none => obtain ⟨_, rfl⟩ := hcm; exact m.bel
    | some q => obtain ⟨cs, t, κ⟩ := q; obtain ⟨_, rfl, _⟩ := hcm; exact m.bel.alloc hbN _
  have hlaid : ∀ bs, LaidC P N w' c v bs → ∀ x ∈ ((j, d, v, bs) :: E : Laid), x.1 ∈ A ∧ LaidOk P ops N w' (tm (putE ((j, d, v, bs) :: E) a).tmps) ts2 x := fun bs hlc x hx => by
    rcases List.mem_cons.1 hx with rfl | hx
    · refine ⟨hj, o, c, ho, hd, ?_, hshp, hlc⟩
      rw [← hc]
      exact eCw_congr fun t ht => hnew bs t fun e => hself (by rw [← e]; exact ht)
    · obtain ⟨h1, o', c', h2, h3, h4, h5, h6⟩ := m.laid x hx
      refine ⟨h1, o', c', h2, h3, ?_, h5, h6.keep fun b hbx => hold b (hb x hx b hbx)⟩
      rw [← h4]
      exact eCw_congr fun t ht => hnew bs t fun e => hlookE x hx o' h2 (by rw [← e]; exact ht)
  have hss : ∀ bs, SS ops F G μ0 w0 (setAll l ((((j, d, v, bs) :: E : Laid)).map (·.1))) w' := fun bs => by
    rw [hset]
    exact ⟨fun x hx hw b κ hm => (hold b (hFl x hx b κ hm)).trans ((m.ss.mono j).fr x hx hw b κ hm), fun x hx => (hold _ (m.den.globLt hx)).trans (m.ss.gl x hx), fun hq b hb0 => (hold b (Nat.lt_of_lt_of_le hb0 m.bel.low.size)).trans ((m.ss.mono j).calm hq b hb0)⟩
  have fin : ∀ bs, Den P (limE N (blk ((j, d, v, bs) :: E))) G μ h w' → LaidC P N w' c v bs → (blk ((j, d, v, bs) :: E)).Nodup → Mid P ops N G F μ0 w0 frz D0 A ts2 l dn ts h μ ((j, d, v, bs) :: E) a w' := fun bs hden hlc hndb =>
    ⟨hden, m.rel, by rw [hset]; exact closed_set m.clo hr, m.le, hbel, fun k hk b κ hm => (hold b (hfl k hk b κ hm)).trans (m.kp k hk b κ hm), hss bs, m.dnl, hlaid bs hlc, by rw [List.map_cons, List.nodup_cons]; exact ⟨hjE, m.nd⟩, hndb, m.df, m.agr, m.sz, m.ls⟩
  obtain ⟨c0, f⟩ := c
  cases c0 with
  | none =>
    obtain ⟨hf, rfl⟩ := hcm
    exact ⟨[], fin [] m.den ⟨hf, rfl⟩ m.ndb⟩
  | some q =>
    obtain ⟨cs, t, κ⟩ := q
    obtain ⟨hv, rfl, sz, h1, h2⟩ := hcm
    refine ⟨[w.heap.size], fin _ (by rw [blk_cons]; exact m.den.lay _) ⟨_, sz, rfl, hv, World.alloc_heap_new w _, h1, h2, hbN.1, fun hk => Nat.lt_irrefl _ (hbN.2 _ hk)⟩ ?_⟩
    rw [blk_cons]
    simp only [List.singleton_append, List.nodup_cons]
    refine ⟨fun hm => ?_, m.ndb⟩
    obtain ⟨x, hx, he⟩ := mem_blk.1 hm
    exact Nat.lt_irrefl _ (hb x hx _ he)
end
end Go.Proofs.Ytpaabfecoghibaa

/- Regions that draw, on the shadow, are right; so all code is. Over any program. Conditions: as each law says. -/
namespace Go.Proofs.Ytpaabfecoghibaa
open Go Go.RowKit
set_option linter.unusedSimpArgs false
set_option linter.unusedVariables false
section
variable {P : Program} {N : Lim} {G : Gl} {ops : Array Oper} {F : List (Nat × Nat)} {μ0 : Mu} {w0 : World} {frz : List Nat} {D0 : List Deferred}
theorem getF_some {Fi : List Nat} {h : SH} {j : Nat} {sb : SB} (e : getF Fi h j = some sb) : j ∈ Fi ∧ h.tr.get j = some sb := by
  unfold getF at e
  cases hc : Fi.any fun k => Nat.beq k j with
  | false => rw [hc] at e; cases e
  | true =>
    rw [hc, cond_true] at e
    obtain ⟨k, hk, hkj⟩ := List.any_eq_true.1 hc
    exact ⟨by rw [← Nat.eq_of_beq_eq_true hkj]; exact hk, e⟩
theorem mem_ready_none {l : Array Bool} {i : Nat} (h : i ∈ Region.ready .any ops l) : l.getD i false = false := getD_none (mem_ready.1 h).1
/-- A quiet operation yields the same at any time. -/
theorem quiet_yields (hG : G.l.all (fun x => x.2.1.toList.all (gr 6)) = true) (hF0 : ∀ x ∈ F, ∃ b κ, μ0 x.2 = some (b, κ)) {A : List Nat} {ts2 : Fr} {l : Array Bool} {dn : List Nat} {ts : Fr} {h : SH} {μ : Mu} {E : Laid} {a : Act} {w : World}
    (m : Mid P ops N G F μ0 w0 frz D0 A ts2 l dn ts h μ E a w) {i : Nat} {o : Oper} (hr : i ∈ Region.ready .any ops (setAll l (E.map (·.1)))) {v : Value}
    (hc : o.op.operands.toList.all constOk = true) (hp : pureOp P G (getF ((F.filter fun x => Nat.beq x.1 i).map (·.2)) h) (opnd ts) o = some v) :
    ∃ v', Rel μ v v' ∧ ∀ W, At ops (SS ops F G μ0 w0) i W → (execOp a.eval o).run P W = .ok (.value v') W := by
  have hs : Sees P (limE N (blk E)) G μ (getF ((F.filter fun x => Nat.beq x.1 i).map (·.2)) h) w := ⟨fun j sb hj => m.den.blk j sb (getF_some hj).2, m.den.glob.2⟩
  rw [List.all_eq_true] at hc
  obtain ⟨v', h1, h2⟩ := pureOp_ok hG hs hp fun x hx => opnd_rel m.rel (hc x (by simpa using hx))
  refine ⟨v', h1, fun W hW => h2 W ?_⟩
  obtain ⟨L, hcl, hli, hss⟩ := hW
  have key : ∀ (L : Array Bool) (W : World), Closed ops L → L.getD i false = false → SS ops F G μ0 w0 L W → ∀ j sb, getF ((F.filter fun x => Nat.beq x.1 i).map (·.2)) h j = some sb → ∀ b κ, μ j = some (b, κ) → W.heap[b]? = w0.heap[b]? := fun L W hcl hli hss j sb hj b κ hm => by
    obtain ⟨x, hx, hxj⟩ := List.mem_map.1 (getF_some hj).1
    rw [List.mem_filter] at hx
    have hxi : x.1 = i := Nat.eq_of_beq_eq_true hx.2
    obtain ⟨b0, κ0, hm0⟩ := hF0 x hx.1
    have := m.le _ _ hm0
    rw [hxj, hm] at this
    cases this
    refine hss.fr x hx.1 (fun k hk _ => ?_) b κ hm0
    cases hw : waits ops x.1 (ops.size + 1) k with
    | false => rfl
    | true =>
      have := (waits_not hcl (by rw [hxi]; exact hli) _ _ hw).1
      rw [hk] at this; cases this
  exact ⟨fun j sb hj b κ hm => (key L W hcl hli hss j sb hj b κ hm).trans (key _ w m.clo (mem_ready_none hr) m.ss j sb hj b κ hm).symm, fun x hx => (hss.gl x hx).trans (m.ss.gl x hx).symm⟩
theorem exposed_not {i : Nat} (he : exposed ops i = false) {L : Array Bool} (hcl : Closed ops L) (hli : L.getD i false = false) : ∀ m, m < ops.size → L.getD m false = true → quietAt ops m = false → makerAt ops m = true := fun m hs hm hq => by
  cases ha : makerAt ops m with
  | true => rfl
  | false =>
    have hw : waits ops i (ops.size + 1) m = true := by
      cases hw : waits ops i (ops.size + 1) m with
      | true => rfl
      | false =>
        have : exposed ops i = true := List.any_eq_true.2 ⟨m, List.mem_filter.2 ⟨List.mem_range.2 hs, by rw [hq, ha]; rfl⟩, by rw [hw]; rfl⟩
        rw [he] at this; cases this
    have := (waits_not hcl hli _ _ hw).1
    rw [hm] at this; cases this
/-- A quiet operation that no change of memory comes before yields what it would at the start. -/
theorem quiet_yields0 (hG : G.l.all (fun x => x.2.1.toList.all (gr 6)) = true) {h0 : SH} (d0 : Den P N G μ0 h0 w0) {A : List Nat} {ts2 : Fr} {l : Array Bool} {dn : List Nat} {ts : Fr} {h : SH} {μ : Mu} {E : Laid} {a : Act} {w : World}
    (m : Mid P ops N G F μ0 w0 frz D0 A ts2 l dn ts h μ E a w) {i : Nat} {o : Oper} (hr : i ∈ Region.ready .any ops (setAll l (E.map (·.1)))) (he : exposed ops i = false) {v : Value}
    (hc : o.op.operands.toList.all constOk = true) (hp : pureOp P G h0.tr.get (opnd ts) o = some v) :
    ∃ v', Rel μ v v' ∧ ∀ W, At ops (SS ops F G μ0 w0) i W → (execOp a.eval o).run P W = .ok (.value v') W := by
  have calm : ∀ (L : Array Bool) (W : World), Closed ops L → L.getD i false = false → SS ops F G μ0 w0 L W → ∀ b, b < w0.heap.size → W.heap[b]? = w0.heap[b]? := fun L W hcl hli hss => hss.calm (exposed_not he hcl hli)
  have cw := calm _ w m.clo (mem_ready_none hr) m.ss
  have at0 : ∀ j sb, h0.tr.get j = some sb → ∃ b κ, μ0 j = some (b, κ) ∧ b < w0.heap.size := fun j sb hj => by
    obtain ⟨b, κ, h1, _, h3⟩ := (d0.blk j sb hj).at
    exact ⟨b, κ, h1, h3⟩
  have hs : Sees P N G μ h0.tr.get w := ⟨fun j sb hj => (d0.blk j sb hj).keep m.le fun b κ hm => by
    obtain ⟨b', κ', h1, h2⟩ := at0 j sb hj
    rw [hm] at h1; cases h1
    exact cw b h2, m.den.glob.2⟩
  rw [List.all_eq_true] at hc
  obtain ⟨v', h1, h2⟩ := pureOp_ok hG hs hp fun x hx => opnd_rel m.rel (hc x (by simpa using hx))
  refine ⟨v', h1, fun W hW => h2 W ?_⟩
  obtain ⟨L, hcl, hli, hss⟩ := hW
  refine ⟨fun j sb hj b κ hm => ?_, fun x hx => (hss.gl x hx).trans (m.ss.gl x hx).symm⟩
  obtain ⟨b', κ', h1, h2⟩ := at0 j sb hj
  have := m.le _ _ h1
  rw [hm] at this; cases this
  exact (calm L W hcl hli hss b h2).trans (cw b h2).symm
theorem Bel.lim {E : List Nat} {w w' : World} (h : Bel (limE N E) w w') : Bel N w w' ∧ ∀ k ∈ E, w'.heap[k]? = w.heap[k]? :=
  ⟨⟨h.low, fun k hk => h.oth k (by simp [limE, hk])⟩, fun k hk => h.oth k (by simp [limE, hk])⟩
theorem guardF_mem {F : List (Nat × Nat)} {dn : List Nat} {x : Nat × Nat} (hx : x ∈ F) (h : ∀ k ∈ dn, waits ops x.1 (ops.size + 1) k = false) : x.2 ∈ guardF ops F dn := by
  unfold guardF
  refine List.mem_map.2 ⟨x, List.mem_filter.2 ⟨hx, ?_⟩, rfl⟩
  show (dn.all fun k => !(waits ops x.1 (ops.size + 1) k)) = true
  rw [List.all_eq_true]
  intro k hk
  rw [h k hk]; rfl
theorem Mid.dsts {A : List Nat} {ts2 : Fr} {l : Array Bool} {dn : List Nat} {ts : Fr} {h : SH} {μ : Mu} {E : Laid} {a : Act} {w : World} (m : Mid P ops N G F μ0 w0 frz D0 A ts2 l dn ts h μ E a w) : ∀ x ∈ E, x.2.1 ∈ dstsOf ops A := fun x hx =>
  let ⟨h1, _o, _, h2, h3, _⟩ := m.laid x hx; dst_mem h1 h2 h3
theorem Mid.unt {A : List Nat} {ts2 : Fr} {l : Array Bool} {dn : List Nat} {ts : Fr} {h : SH} {μ : Mu} {E : Laid} {a : Act} {w : World} (m : Mid P ops N G F μ0 w0 frz D0 A ts2 l dn ts h μ E a w) {o : Oper} (hu : untouched ops (dstsOf ops A) o = true) : (∀ x ∈ E, x.2.1 ∉ o.looksAt ops) ∧ ∀ x ∈ E, o.dst ≠ some x.2.1 :=
  ⟨fun x hx => (untouched_spec hu).1 _ (m.dsts x hx), fun x hx => (untouched_spec hu).2 _ (m.dsts x hx)⟩
theorem dstFree_spec {A : List Nat} {o : Oper} (h : dstFree ops A o = true) : ∀ t ∈ usesA ops A, o.dst ≠ some t := fun t ht e => by
  simp only [dstFree, e] at h
  exact notIn_spec h ht
theorem uses_mem {A : List Nat} {e : Nat} {o : Oper} {t : Tmp} (he : e ∈ A) (ho : ops[e]? = some o) (ht : t ∈ o.looksAt ops) : t ∈ usesA ops A := List.mem_flatMap.2 ⟨e, he, by simp only [ho]; exact ht⟩
theorem putS_ne {ts : Fr} {d : Option Tmp} {v : Value} {t : Tmp} (hl : ts.n ≤ 512) (h : d ≠ some t) : (putS ts d v).get t = ts.get t := by
  cases d with
  | none => rfl
  | some d =>
    show (ts.set d v).get t = _
    rw [Fr.get_set _ _ _ _ hl, if_neg (fun e => h (by rw [e.1]))]
theorem putS_n {ts : Fr} {d : Option Tmp} {v : Value} : (putS ts d v).n = ts.n := by
  cases d with
  | none => rfl
  | some d => exact Fr.set_n _ _ _
/-- What came up ahead of time is as it was behind a yield that it does not look at. -/
theorem Mid.relaid {A : List Nat} {ts2 : Fr} {l : Array Bool} {dn : List Nat} {ts : Fr} {h : SH} {μ : Mu} {E : Laid} {a : Act} {w : World} (m : Mid P ops N G F μ0 w0 frz D0 A ts2 l dn ts h μ E a w) {o : Oper} (hu : untouched ops (dstsOf ops A) o = true) (hf : dstFree ops A o = true) {v' : Value} {w' : World} (hk : ∀ b ∈ blk E, w'.heap[b]? = w.heap[b]?) :
    ∀ x ∈ E, x.1 ∈ A ∧ LaidOk P ops N w' (tm (putE E (a.put o.dst v')).tmps) ts2 x := fun x hx => by
  obtain ⟨h1, o', c, h2, h3, h4, h5, h6⟩ := m.laid x hx
  refine ⟨h1, o', c, h2, h3, ?_, h5, h6.keep fun b hb => hk b (mem_blk.2 ⟨x, hx, hb⟩)⟩
  rw [← h4]
  refine eCw_congr fun t ht => ?_
  rw [← putE_put (m.unt hu).2]
  cases hd : o.dst with
  | none => rfl
  | some d => exact tm_put_ne fun e => dstFree_spec hf t (uses_mem h1 h2 ht) (by rw [hd, e])
/-- Behind an operation that is taken first. -/
theorem Mid.quiet {A : List Nat} {ts2 : Fr} {l : Array Bool} {dn : List Nat} {ts : Fr} {h : SH} {μ : Mu} {E : Laid} {a : Act} {w : World} (m : Mid P ops N G F μ0 w0 frz D0 A ts2 l dn ts h μ E a w) {i : Nat} {o : Oper} (hu : Go.Proofs.Ytpaabfecoghibaa.untouched ops (dstsOf ops A) o = true) (hf : dstFree ops A o = true) (hr : i ∈ Region.ready .any ops (setAll l (E.map (·.1)))) {vS v' : Value} (hv : Rel μ vS v') :
    Mid P ops N G F μ0 w0 frz D0 A ts2 (l.setIfInBounds i true) dn (putS ts o.dst vS) h μ E (a.put o.dst v') w :=
  ⟨m.den, put_rel m.rel hv _, by rw [setAll_set]; exact closed_set m.clo hr, m.le, m.bel, m.kp, by rw [setAll_set]; exact m.ss.mono i, fun k hk => ⟨(m.dnl k hk).1, (set_true_iff _ _ _).2 (.inl (m.dnl k hk).2)⟩, m.relaid hu hf fun _ _ => rfl, m.nd, m.ndb, (put_defers' _ _ _).trans m.df,
    fun t h1 h2 => (m.agr t h1 h2).trans (putS_ne m.rel.le (dstFree_spec hf t h1)).symm, m.sz.trans putS_n.symm, by rw [Array.size_setIfInBounds]; exact m.ls⟩
/-- Behind an operation that is not taken first. -/
theorem Mid.next {A : List Nat} {ts2 : Fr} {l : Array Bool} {dn : List Nat} {ts : Fr} {h h' : SH} {μ μ' : Mu} {E : Laid} {a : Act} {w w' : World} (m : Mid P ops N G F μ0 w0 frz D0 A ts2 l dn ts h μ E a w) (_hF0 : ∀ x ∈ F, ∃ b κ, μ0 x.2 = some (b, κ)) (hG0 : ∀ b, GB G b → b < N.n ∨ b ∈ N.x)
    {i : Nat} {o : Oper} (ho : ops[i]? = some o) (hu : Go.Proofs.Ytpaabfecoghibaa.untouched ops (dstsOf ops A) o = true) (hf : dstFree ops A o = true) (hmk : calmB o = true → ∀ k, k < w.heap.size → w'.heap[k]? = w.heap[k]?) (hr : i ∈ Region.ready .any ops (setAll l (E.map (·.1)))) {vS v' : Value}
    (p : Post P (limE N (blk E)) G μ (guardF ops F (doneBy o i dn) ++ frz) w h' μ' w') (hts : RelF μ' (putS ts o.dst vS) (a.put o.dst v').tmps) :
    Mid P ops N G F μ0 w0 frz D0 A ts2 (l.setIfInBounds i true) (doneBy o i dn) (putS ts o.dst vS) h' μ' E (a.put o.dst v') w' := by
  obtain ⟨hb, hbE⟩ := Bel.lim p.bel
  have hil : i < l.size := by rw [m.ls]; exact (Array.getElem?_eq_some_iff.1 ho).1
  have hset := setAll_set (E.map (·.1)) l i
  have hdn : ∀ k ∈ doneBy o i dn, quietAt ops k = false ∧ (l.setIfInBounds i true).getD k false = true := fun k hk => by
    unfold doneBy at hk
    have old : ∀ k ∈ dn, quietAt ops k = false ∧ (l.setIfInBounds i true).getD k false = true := fun k hk => ⟨(m.dnl k hk).1, (set_true_iff _ _ _).2 (.inl (m.dnl k hk).2)⟩
    cases hq : quietB o with
    | true => rw [hq, cond_true] at hk; exact old k hk
    | false =>
      rw [hq, cond_false] at hk
      rcases List.mem_cons.1 hk with rfl | hk
      · exact ⟨by simp [quietAt, ho, hq], (set_true_iff _ _ _).2 (.inr ⟨rfl, hil⟩)⟩
      · exact old k hk
  refine ⟨p.den, hts, by rw [hset]; exact closed_set m.clo hr, Mu.le_trans m.le p.le, m.bel.trans hb, m.kp.trans m.le (fun k hk => p.kp k (List.mem_append_right _ hk)), ?_, hdn, m.relaid hu hf hbE, m.nd, m.ndb, (put_defers' _ _ _).trans m.df,
    fun t h1 h2 => (m.agr t h1 h2).trans (putS_ne m.rel.le (dstFree_spec hf t h1)).symm, m.sz.trans putS_n.symm, by rw [Array.size_setIfInBounds]; exact m.ls⟩
  rw [hset]
  refine ⟨fun x hx hw b κ hm => ?_, fun x hx => ((hG0 x hx).elim (fun q => hb.low.block _ q) (fun q => hb.oth _ q)).trans (m.ss.gl x hx), fun hq => ?_⟩
  rotate_left
  · have hcb : calmB o = true := by
      cases hqo : quietB o with
      | true => simp [calmB, hqo]
      | false =>
        have hmi : makerAt ops i = true := hq i (Array.getElem?_eq_some_iff.1 ho).1 (by rw [← hset]; exact (setAll_true _ _ _).2 (.inl ((set_true_iff _ _ _).2 (.inr ⟨rfl, hil⟩)))) (by simp [quietAt, ho, hqo])
        have hmb : makerB o = true := by simpa [makerAt, ho] using hmi
        simp [calmB, hmb]
    exact fun b hb0 => (hmk hcb b (Nat.lt_of_lt_of_le hb0 m.bel.low.size)).trans ((m.ss.mono i).calm hq b hb0)
  refine (p.kp x.2 (List.mem_append_left _ (guardF_mem hx fun k hk => ?_)) b κ (m.le _ _ hm)).trans ((m.ss.mono i).fr x hx hw b κ hm)
  obtain ⟨h1, h2⟩ := hdn k hk
  refine hw k ?_ h1
  rw [← hset]
  exact (setAll_true _ _ _).2 (.inl h2)
/-- Those that came up ahead of time do not wait for what has not come up. -/
theorem Mid.pend {A : List Nat} {ts2 : Fr} {l : Array Bool} {dn : List Nat} {ts : Fr} {h : SH} {μ : Mu} {E : Laid} {a : Act} {w : World} (m : Mid P ops N G F μ0 w0 frz D0 A ts2 l dn ts h μ E a w) {i : Nat} (hi : (setAll l (E.map (·.1))).getD i false = false) (hiE : i ∉ E.map (·.1)) : ∀ x ∈ E.map (·.1), x ∈ Go.Proofs.Ytpaabfecoghibaa.pend ops A i := fun x hx => by
  obtain ⟨y, hy, rfl⟩ := List.mem_map.1 hx
  obtain ⟨h1, o, c, h2, _⟩ := m.laid y hy
  refine List.mem_filter.2 ⟨h1, ?_⟩
  rw [Bool.and_eq_true]
  constructor
  · cases hw : waits ops i (ops.size + 1) y.1 with
    | false => rfl
    | true =>
      have h3 := (waits_not m.clo hi _ _ hw).1
      have h4 := (setAll_true (E.map (·.1)) l y.1).2 (.inr ⟨hx, by rw [m.ls]; exact (Array.getElem?_eq_some_iff.1 h2).1⟩)
      rw [h3] at h4; cases h4
  · cases hb : Nat.beq y.1 i with
    | false => rfl
    | true => exact absurd hx (by rw [Nat.eq_of_beq_eq_true hb]; exact hiE)
theorem within_spec {A : List Nat} {i : Nat} {l : List Nat} (h : within A i l = true) : ∀ j ∈ l, j = i ∨ j ∈ A := fun j hj => by
  have := List.all_eq_true.1 h j hj
  rw [Bool.or_eq_true] at this
  rcases this with h1 | h1
  · exact .inl (Nat.eq_of_beq_eq_true h1)
  · obtain ⟨k, hk, hkj⟩ := List.any_eq_true.1 h1
    exact .inr (by rw [← Nat.eq_of_beq_eq_true hkj]; exact hk)
/-- What is ready is the next one, or may come up ahead of time. -/
theorem Mid.who {A : List Nat} {ts2 : Fr} {l : Array Bool} {dn : List Nat} {ts : Fr} {h : SH} {μ : Mu} {E : Laid} {a : Act} {w : World} (m : Mid P ops N G F μ0 w0 frz D0 A ts2 l dn ts h μ E a w) {i : Nat} (hi : (setAll l (E.map (·.1))).getD i false = false) (hiE : i ∉ E.map (·.1)) (hw : within A i (Region.ready .any ops (setAll l (Go.Proofs.Ytpaabfecoghibaa.pend ops A i))) = true)
    {j : Nat} (hj : j ∈ Region.ready .any ops (setAll l (E.map (·.1)))) : j = i ∨ (j ∈ A ∧ j ∉ E.map (·.1)) := by
  have hjE : j ∉ E.map (·.1) := fun hm => (setAll_unlisted.1 (mem_ready.1 hj).1).2 hm
  rcases ready_le (A := Go.Proofs.Ytpaabfecoghibaa.pend ops A i) (m.pend hi hiE) hj with h1 | h1
  · rcases within_spec hw j h1 with h2 | h2
    · exact .inl h2
    · exact .inr ⟨h2, hjE⟩
  · exact .inr ⟨(List.mem_filter.1 h1.1).1, hjE⟩
theorem Mid.dnd {A : List Nat} {ts2 : Fr} {l : Array Bool} {dn : List Nat} {ts : Fr} {h : SH} {μ : Mu} {E : Laid} {a : Act} {w : World} (m : Mid P ops N G F μ0 w0 frz D0 A ts2 l dn ts h μ E a w) (st : Sta P ops A ts2) : (E.map (·.2.1)).Nodup := by
  rw [laid_dsts fun x hx => let ⟨_, o, _, h1, h2, _⟩ := m.laid x hx; ⟨o, h1, h2⟩]
  have : ∀ (B C : List Nat), (∀ x ∈ B, x ∈ C) → B.Nodup → (∀ x ∈ B, ∃ o d, ops[x]? = some o ∧ o.dst = some d) → (dstsOf ops C).Nodup → (dstsOf ops B).Nodup := by
    intro B C
    induction B with
    | nil => intro _ _ _ _; exact .nil
    | cons x B ih =>
      intro hs hn hd hC
      obtain ⟨o, d, h1, h2⟩ := hd x (by simp)
      have hc : dstsOf ops (x :: B) = d :: dstsOf ops B := by simp [dstsOf, h1, h2]
      rw [List.nodup_cons] at hn
      rw [hc, List.nodup_cons]
      refine ⟨fun hm => ?_, ih (fun y hy => hs y (by simp [hy])) hn.2 (fun y hy => hd y (by simp [hy])) hC⟩
      obtain ⟨y, hy, hyd⟩ := List.mem_filterMap.1 hm
      obtain ⟨o', d', h3, h4⟩ := hd y (by simp [hy])
      simp only [h3, Option.bind_some, h4, Option.some.injEq] at hyd
      subst hyd
      have inj : ∀ (C : List Nat), (dstsOf ops C).Nodup → x ∈ C → y ∈ C → x = y := by
        intro C
        induction C with
        | nil => intro _ h; cases h
        | cons z C ih2 =>
          intro hn2 hx2 hy2
          cases hz : (ops[z]?).bind (·.dst) with
          | none =>
            have hx3 : x ∈ C := by
              rcases List.mem_cons.1 hx2 with h5 | h5
              · rw [← h5, h1] at hz; simp [h2] at hz
              · exact h5
            have hy3 : y ∈ C := by
              rcases List.mem_cons.1 hy2 with h5 | h5
              · rw [← h5, h3] at hz; simp [h4] at hz
              · exact h5
            exact ih2 (by simpa [dstsOf, hz] using hn2) hx3 hy3
          | some dz =>
            have hcz : dstsOf ops (z :: C) = dz :: dstsOf ops C := by simp [dstsOf, hz]
            rw [hcz, List.nodup_cons] at hn2
            rcases List.mem_cons.1 hx2 with h5 | h5 <;> rcases List.mem_cons.1 hy2 with h6 | h6
            · exact h5.trans h6.symm
            · rw [← h5, h1] at hz
              simp only [Option.bind_some, h2, Option.some.injEq] at hz
              exact absurd (by rw [← hz]; exact dst_mem h6 h3 h4) hn2.1
            · rw [← h6, h3] at hz
              simp only [Option.bind_some, h4, Option.some.injEq] at hz
              exact absurd (by rw [← hz]; exact dst_mem h5 h1 h2) hn2.1
            · exact ih2 hn2.2 h5 h6
      have := inj C hC (hs x (by simp)) (hs y (by simp [hy]))
      exact hn.1 (by rw [this]; exact hy)
  exact this _ A (fun x hx => by obtain ⟨y, hy, rfl⟩ := List.mem_map.1 hx; exact (m.laid y hy).1) m.nd (fun x hx => by
    obtain ⟨y, hy, rfl⟩ := List.mem_map.1 hx
    obtain ⟨_, o, _, h1, h2, _⟩ := m.laid y hy
    exact ⟨o, y.2.1, h1, h2⟩) st.nd
theorem Mid.dsize {A : List Nat} {ts2 : Fr} {l : Array Bool} {dn : List Nat} {ts : Fr} {h : SH} {μ : Mu} {E : Laid} {a : Act} {w : World} (m : Mid P ops N G F μ0 w0 frz D0 A ts2 l dn ts h μ E a w) (st : Sta P ops A ts2) : ∀ x ∈ E, x.2.1 < a.tmps.size := fun x hx => by
  obtain ⟨h1, o', _, h2, h3, _⟩ := m.laid x hx
  obtain ⟨o2, d2, _, h4, h5, _, _, h6⟩ := st.at' x.1 h1
  rw [h2] at h4; cases h4
  rw [h3] at h5; cases h5
  rw [← m.rel.n, ← m.sz]; exact h6
/-- One that may come up ahead of time does, whatever else has. -/
theorem Mid.early {A : List Nat} {ts2 : Fr} {l : Array Bool} {dn : List Nat} {ts : Fr} {h : SH} {μ : Mu} {E : Laid} {a : Act} {w : World} (m : Mid P ops N G F μ0 w0 frz D0 A ts2 l dn ts h μ E a w) (st : Sta P ops A ts2) (hl : ∀ e ∈ A, l.getD e false = false) {j : Nat} (hj : j ∈ A) (hr : j ∈ Region.ready .any ops (setAll l (E.map (·.1)))) :
    ∃ o d c, ops[j]? = some o ∧ o.dst = some d ∧ eCw P ops o (tm (putE E a).tmps) = some c ∧ ∀ v w', Came P c w v w' → Shp (ts2.get d) v := by
  obtain ⟨o, d, c, ho, hd, hc, ⟨ad, hv⟩, hn⟩ := st.at' j hj
  have hsame := m.dnd st
  have hsize := m.dsize st
  have hshp : ∀ t ∈ o.looksAt ops, Shp (ts2.get t) (tm (putE E a).tmps t) := fun t ht => by
    by_cases htd : t ∈ dstsOf ops A
    · obtain ⟨e, he, hed⟩ := List.mem_filterMap.1 htd
      cases hoe : ops[e]? with
      | none => simp [hoe] at hed
      | some oe =>
        simp only [hoe, Option.bind_some] at hed
        have hw := st.dep e he j hj oe o t hoe ho hed ht
        have hle : (setAll l (E.map (·.1))).getD e false = true := by
          cases hq : (setAll l (E.map (·.1))).getD e false with
          | true => rfl
          | false => exact absurd hr (waits_not m.clo hq _ _ hw).2
        rcases (setAll_true _ _ _).1 hle with h1 | h1
        · rw [hl e he] at h1; cases h1
        · obtain ⟨x, hx, hxe⟩ := List.mem_map.1 h1.1
          obtain ⟨_, o', _, h2, h3, _, h5, _⟩ := m.laid x hx
          rw [hxe, hoe] at h2; cases h2
          rw [hed] at h3; cases h3
          rw [putE_same hsame hsize x hx]
          exact h5
    · rw [m.agr t (uses_mem hj ho ht) htd, putE_ne fun x hx e => htd (by rw [e]; exact m.dsts x hx)]
      exact (m.rel.at' t).shp
  obtain ⟨c', h1, h2⟩ := eCw_shp hshp hc
  refine ⟨o, d, c', ho, hd, h1, fun v w' hcm => ?_⟩
  rw [hv]
  obtain ⟨c0, f⟩ := c'
  cases c0 with
  | none => rw [← hcm.1 ad]; exact h2 ad ad
  | some q => obtain ⟨cs, t, κ⟩ := q; rw [hcm.1]; exact h2 _ _
end
section
variable {P : Program} {N : Lim} {G : Gl} {ops : Array Oper} {F : List (Nat × Nat)} {μ0 : Mu} {w0 : World} {frz : List Nat} {D0 : List Deferred} {rc : Rec} {ro' : Option Nat} {Q : Act → World → Prop} {h0 : SH}
/-- What is so of a region as a whole. -/
structure Reg (P : Program) (N : Lim) (G : Gl) (ops : Array Oper) (F : List (Nat × Nat)) (μ0 : Mu) (w0 : World) (frz : List Nat) (rc : Rec) (h0 : SH) : Prop where
  den0 : Den P N G μ0 h0 w0
  hG : G.l.all (fun x => x.2.1.toList.all (gr 6)) = true
  hrc : Right P G rc
  sel : Region.noSelect ops = true
  ndf : ops.toList.all notDefer = true
  hF0 : ∀ x ∈ F, ∃ b κ, μ0 x.2 = some (b, κ) ∧ b < w0.heap.size
  hZ0 : ∀ k ∈ frz, ∀ b κ, μ0 k = some (b, κ) → b < w0.heap.size
  hG0 : ∀ b, GB G b → b < N.n ∨ b ∈ N.x
theorem Reg.f0 (R : Reg P N G ops F μ0 w0 frz rc h0) : ∀ x ∈ F, ∃ b κ, μ0 x.2 = some (b, κ) := fun x hx => let ⟨b, κ, h, _⟩ := R.hF0 x hx; ⟨b, κ, h⟩
theorem Reg.lay (R : Reg P N G ops F μ0 w0 frz rc h0) {A : List Nat} {ts2 : Fr} {l : Array Bool} {dn : List Nat} {ts : Fr} {h : SH} {μ : Mu} {E : Laid} {a : Act} {w : World} (m : Mid P ops N G F μ0 w0 frz D0 A ts2 l dn ts h μ E a w) (st : Sta P ops A ts2) (hl : ∀ e ∈ A, l.getD e false = false)
    {j : Nat} (hj : j ∈ A) (hr : j ∈ Region.ready .any ops (setAll l (E.map (·.1)))) {K : Act → World → Prop} {Q : Exit → Act → World → Prop} (k : ∀ x w', x.1 = j → Mid P ops N G F μ0 w0 frz D0 A ts2 l dn ts h μ (x :: E) a w' → K (putE (x :: E) a) w') : wpOpIn (FR ro') 0 P ops Q j K (putE E a) w := by
  obtain ⟨o, d, c, ho, hd, hc, hs⟩ := m.early st hl hj hr
  have hjE : j ∉ E.map (·.1) := fun hm => (setAll_unlisted.1 (mem_ready.1 hr).1).2 hm
  refine wp_early ho (List.all_eq_true.1 R.ndf o (by simpa using Array.mem_of_getElem? ho)) hd hc fun v w' hcm => ?_
  obtain ⟨bs, m'⟩ := m.lay st R.hG0 (fun k hk b κ hm => Nat.lt_of_lt_of_le (R.hZ0 k hk b κ hm) m.bel.low.size) (fun x hx b κ hm => by
    obtain ⟨b', κ', h1, h2⟩ := R.hF0 x hx
    rw [hm] at h1; cases h1
    exact Nat.lt_of_lt_of_le h2 m.bel.low.size) hj hjE hr ho hd hc hcm (hs v w' hcm)
  exact k (j, d, v, bs) w' rfl m'
/-- What a stretch comes to. -/
def DrawR (P : Program) (G : Gl) (ops : Array Oper) (h0 : SH) (F : List (Nat × Nat)) (frz : List Nat) : List (Nat × Bool) → List Nat → Fr → SH → List Nat → Fr → SH → Prop
  | [], dn, ts, h, dn1, ts1, h1 => dn1 = dn ∧ ts1 = ts ∧ h1 = h
  | (i, true) :: rest, dn, ts, h, dn1, ts1, h1 => ∃ o, ops[i]? = some o ∧
    ((Region.wanted o (yieldedS ops ts) = true ∧ o.op.operands.toList.all constOk = true ∧ ∃ v, (pureOp P G (getF ((F.filter fun x => Nat.beq x.1 i).map (·.2)) h) (opnd ts) o = some v ∨ exposed ops i = false ∧ pureOp P G h0.tr.get (opnd ts) o = some v) ∧ DrawR P G ops h0 F frz rest dn (putS ts o.dst v) h dn1 ts1 h1) ∨
      (Region.wanted o (yieldedS ops ts) = false ∧ DrawR P G ops h0 F frz rest dn (putS ts o.dst undef) h dn1 ts1 h1))
  | (i, false) :: rest, dn, ts, h, dn1, ts1, h1 => ∃ o, ops[i]? = some o ∧
    ((Region.wanted o (yieldedS ops ts) = true ∧ notDefer o = true ∧ ∃ ts' h', StepR P G (guardF ops F (doneBy o i dn) ++ frz) o ts h ts' h' ∧ DrawR P G ops h0 F frz rest (doneBy o i dn) ts' h' dn1 ts1 h1) ∨
      (Region.wanted o (yieldedS ops ts) = false ∧ DrawR P G ops h0 F frz rest (doneBy o i dn) (putS ts o.dst undef) h dn1 ts1 h1))
theorem quiet_step {o : Oper} (hq : quietB o = true) {frz : List Nat} {ts ts' : Fr} {h h' : SH} (e : stepOp P G frz o ts h = some (ts', h')) : o.op.operands.toList.all constOk = true ∧ ∃ v, pureOp P G h.tr.get (opnd ts) o = some v ∧ ts' = putS ts o.dst v := by
  unfold stepOp at e
  cases hc : (notDefer o && o.op.operands.toList.all constOk) with
  | false => rw [hc] at e; cases e
  | true =>
    rw [hc, cond_true] at e
    rw [Bool.and_eq_true] at hc
    refine ⟨hc.2, ?_⟩
    have fin : (match pureOp P G h.tr.get (opnd ts) o with
      | some v => some (putS ts o.dst v, h)
      | none => none) = some (ts', h') → ∃ v, pureOp P G h.tr.get (opnd ts) o = some v ∧ ts' = putS ts o.dst v := fun e => by
      split at e
      · rename_i v hv
        cases e
        exact ⟨v, hv, rfl⟩
      · cases e
    cases ho : o.op <;> simp only [ho] at e <;> first | exact fin e | (simp [quietB, ho] at hq; done) | skip
    rename_i c
    split at e
    · rename_i x y hcal _; simp [quietB, ho, hcal] at hq
    · rename_i x y hcal _; simp [quietB, ho, hcal] at hq
    · rename_i x hcal _; simp [quietB, ho, hcal] at hq
    · exact fin e
theorem qW_ok [Orc] {o : Oper} (hq : quietB o = true) {rc : Rec} {h0 : SH} {ts : Fr} {h : SH} {k : KF} {r : Value} (e : (qW P G o).run rc frz h0 F ts h k = some r) :
    o.op.operands.toList.all constOk = true ∧ ∃ v, pureOp P G h0.tr.get (opnd ts) o = some v ∧ k (putS ts o.dst v) h = some r := by
  have mv : ∀ {x : Operand}, (o.op = .move x ∨ o.op = .assign x) → (moveQ x o.dst).run rc frz h0 F ts h k = some r → o.op.operands.toList.all constOk = true ∧ ∃ v, pureOp P G h0.tr.get (opnd ts) o = some v ∧ k (putS ts o.dst v) h = some r := fun {x} ho e => by
    unfold moveQ at e
    cases hc : constOk x with
    | false => rw [hc] at e; cases e
    | true =>
      rw [hc] at e
      simp only [cond_true, forceV_eq, dstC_eq] at e
      rw [dstK_run, opK_run] at e
      refine ⟨by rcases ho with h | h <;> simp [h, Op.operands, hc], _, ?_, e⟩
      rcases ho with h | h <;> simp [pureOp, h]
  have slow : (match stepOp P G [] o ts h0 with
    | some (ts', _) => k ts' h
    | none => none) = some r → o.op.operands.toList.all constOk = true ∧ ∃ v, pureOp P G h0.tr.get (opnd ts) o = some v ∧ k (putS ts o.dst v) h = some r := fun e => by
    split at e
    · rename_i ts' h' hs
      obtain ⟨h1, v, h2, rfl⟩ := quiet_step hq hs
      exact ⟨h1, v, h2, e⟩
    · cases e
  unfold qW at e
  split at e
  · rename_i x ho; exact mv (.inl ho) e
  · rename_i x ho; exact mv (.inr ho) e
  · split at e
    · rename_i p hp
      rcases fastK_ok (G := G) hp _ _ _ _ _ _ e with ⟨v, h', hk, hs⟩ | hk
      · obtain ⟨h1, v', h2, h3⟩ := quiet_step hq hs
        simp only [forceV_eq, dstC_eq] at hk
        rw [dstK_run, h3] at hk
        exact ⟨h1, v', h2, hk⟩
      · exact slow (slowX_some hk)
    · exact slow e
theorem asks_not {o : Oper} (h : asksB o = false) {get get' : Nat → Option SB} {ρ : Operand → Value} : pureOp P G get ρ o = pureOp P G get' ρ o := by
  unfold pureOp
  cases ho : o.op <;> first | rfl | (simp [asksB, ho] at h; done) | skip
  case makeFunc fn a b => cases fn <;> rfl
  case slice t x lo hi mx => cases mx <;> rfl
theorem stretchW_ok [Orc] [OrcOk P] (hG : G.l.all (fun x => x.2.1.toList.all (gr 6)) = true) {rc : Rec} (hrc : Right P G rc) {h0 : SH} {k : KF} {r : Value} : ∀ (ks : List (Nat × Bool)) (dn : List Nat) (ts : Fr) (h : SH), (∀ x ∈ ks, x.2 = true → quietAt ops x.1 = true) → (stretchW P G ops ks dn).run rc frz h0 F ts h k = some r →
    ∃ ts1 h1, k ts1 h1 = some r ∧ DrawR P G ops h0 F frz ks dn ts h (dnAfter ops ks dn) ts1 h1
  | [], dn, ts, h, _, e => ⟨ts, h, e, rfl, rfl, rfl⟩
  | (i, b) :: ks, dn, ts, h, hqs, e => by
    unfold stretchW at e
    cases ho : ops[i]? with
    | none => simp only [ho] at e; cases e
    | some o =>
      simp only [ho] at e
      have e : (stepWK P G ops i b dn o).run rc frz h0 F ts h (fun ts' h' => (stretchW P G ops ks (cond b dn (doneBy o i dn))).run rc frz h0 F ts' h' k) = some r := e
      have hqs' : ∀ x ∈ ks, x.2 = true → quietAt ops x.1 = true := fun x hx => hqs x (by simp [hx])
      have hdn : dnAfter ops ((i, b) :: ks) dn = dnAfter ops ks (cond b dn (doneBy o i dn)) := by simp only [dnAfter, ho]
      rw [hdn]
      have no : Region.wanted o (yieldedS ops ts) = false → (dstC o.dst ts undef fun ts => (stretchW P G ops ks (cond b dn (doneBy o i dn))).run rc frz h0 F ts h k) = some r → ∃ ts1 h1, k ts1 h1 = some r ∧ DrawR P G ops h0 F frz ((i, b) :: ks) dn ts h (dnAfter ops ks (cond b dn (doneBy o i dn))) ts1 h1 := fun hw e => by
        rw [dstC_eq, dstK_run] at e
        obtain ⟨ts1, h1, hk, hd⟩ := stretchW_ok hG hrc ks _ _ _ hqs' e
        refine ⟨ts1, h1, hk, ?_⟩
        cases b with
        | true => exact ⟨o, ho, .inr ⟨hw, hd⟩⟩
        | false => exact ⟨o, ho, .inr ⟨hw, hd⟩⟩
      have yes : Region.wanted o (yieldedS ops ts) = true → (cond b (cond (asksB o && exposed ops i) (eW P G o i) (qW P G o)) (nW P G ops o (doneBy o i dn))).run rc frz h0 F ts h (fun ts' h' => (stretchW P G ops ks (cond b dn (doneBy o i dn))).run rc frz h0 F ts' h' k) = some r →
          ∃ ts1 h1, k ts1 h1 = some r ∧ DrawR P G ops h0 F frz ((i, b) :: ks) dn ts h (dnAfter ops ks (cond b dn (doneBy o i dn))) ts1 h1 := fun hw e => by
        cases b with
        | true =>
          simp only [cond_true] at e
          cases hx : (asksB o && exposed ops i) with
          | true =>
            rw [hx, cond_true] at e
            unfold eW at e
            simp only at e
            cases hc : o.op.operands.toList.all constOk with
            | false => rw [hc] at e; cases e
            | true =>
              rw [hc, cond_true] at e
              rcases eLoad_ok (getF ((F.filter fun x => Nat.beq x.1 i).map (·.2)) h) e with ⟨v, hv, e⟩ | e
              · rw [forceV_eq, dstC_eq, dstK_run] at e
                obtain ⟨ts1, h1, hk, hd⟩ := stretchW_ok hG hrc ks _ _ _ hqs' e
                exact ⟨ts1, h1, hk, o, ho, .inl ⟨hw, hc, v, .inl hv, hd⟩⟩
              · split at e
                · rename_i v hv
                  obtain ⟨ts1, h1, hk, hd⟩ := stretchW_ok hG hrc ks _ _ _ hqs' e
                  exact ⟨ts1, h1, hk, o, ho, .inl ⟨hw, hc, v, .inl hv, hd⟩⟩
                · cases e
          | false =>
            rw [hx, cond_false] at e
            have hq : quietB o = true := by
              have := hqs (i, true) (by simp) rfl
              simpa [quietAt, ho] using this
            obtain ⟨hc, v, hv, hk⟩ := qW_ok hq e
            obtain ⟨ts1, h1, hk, hd⟩ := stretchW_ok hG hrc ks _ _ _ hqs' hk
            rcases Bool.and_eq_false_iff.1 hx with hx | hx
            · exact ⟨ts1, h1, hk, o, ho, .inl ⟨hw, hc, v, .inl ((asks_not hx).trans hv), hd⟩⟩
            · exact ⟨ts1, h1, hk, o, ho, .inl ⟨hw, hc, v, .inr ⟨hx, hv⟩, hd⟩⟩
        | false =>
          simp only [cond_false] at e
          unfold nW at e
          simp only at e
          have hn : nilR F frz (guardF ops F (doneBy o i dn) ++ frz) = guardF ops F (doneBy o i dn) ++ frz := by
            cases F with
            | nil => rfl
            | cons x F => rfl
          rw [hn] at e
          obtain ⟨hnd, ts', h', hk', hst⟩ := opW_ok hG hrc e
          obtain ⟨ts1, h1, hk, hd⟩ := stretchW_ok hG hrc ks _ _ _ hqs' hk'
          exact ⟨ts1, h1, hk, o, ho, .inl ⟨hw, hnd, ts', h', hst, hd⟩⟩
      unfold stepWK gW at e
      rcases guardK_ok (ops := ops) (o := o) ts with ⟨hg, hw⟩ | ⟨bk, hg, hb⟩
      · rw [hg] at e
        exact yes hw e
      · rw [hg] at e
        simp only at e
        cases hw : Region.wanted o (yieldedS ops ts) with
        | true => rw [hb, hw, cond_true] at e; exact yes hw e
        | false => rw [hb, hw, cond_false] at e; exact no hw e
theorem topo_un : ∀ (A : List Nat) (l : Array Bool), topo ops A l = true → ∀ e ∈ A, l.getD e false = false
  | [], _, _, e, he => by cases he
  | e :: A, l, h, x, hx => by
    simp only [topo, Bool.and_eq_true] at h
    rcases List.mem_cons.1 hx with rfl | hx
    · exact getD_none (mem_ready.1 (by simpa using h.1)).1
    · have := topo_un A _ h.2 x hx
      cases hq : l.getD x false with
      | false => rfl
      | true => rw [(set_true_iff _ _ _).2 (.inl hq)] at this; cases this
theorem okPhase_un {A : List Nat} : ∀ (ks : List (Nat × Bool)) (l : Array Bool), okPhase ops A ks l = true → ∀ e ∈ A, l.getD e false = false
  | [], l, h => by
    simp only [okPhase, okEnd, Bool.and_eq_true] at h
    exact topo_un A l h.1.1.2
  | (i, true) :: ks, l, h => fun e he => by
    simp only [okPhase, Bool.and_eq_true] at h
    have := okPhase_un ks _ h.2 e he
    cases hq : l.getD e false with
    | false => rfl
    | true => rw [(set_true_iff _ _ _).2 (.inl hq)] at this; cases this
  | (i, false) :: ks, l, h => fun e he => by
    simp only [okPhase, Bool.and_eq_true] at h
    have := okPhase_un ks _ h.2 e he
    cases hq : l.getD e false with
    | false => rfl
    | true => rw [(set_true_iff _ _ _).2 (.inl hq)] at this; cases this
/-- A stretch. -/
theorem phase_ok (R : Reg P N G ops F μ0 w0 frz rc h0) {A : List Nat} {ts2 : Fr} (st : Sta P ops A ts2) {lk : Array Bool} {dn1 : List Nat} {ts1 : Fr} {h1 : SH} (rest : Nat)
    (END : ∀ (fuel : Nat) (μ : Mu) (E : Laid) (a : Act) (w : World), Mid P ops N G F μ0 w0 frz D0 A ts2 lk dn1 ts1 h1 μ E a w → A.length + rest ≤ fuel + E.length → WF (FR ro') 0 P ops (Q0 Q) (SS ops F G μ0 w0) fuel (setAll lk (E.map (·.1))) (putE E a) w) :
    ∀ (fuel : Nat) (ks : List (Nat × Bool)) (l : Array Bool) (dn : List Nat) (ts : Fr) (h : SH) (μ : Mu) (E : Laid) (a : Act) (w : World), okPhase ops A ks l = true → DrawR P G ops h0 F frz ks dn ts h dn1 ts1 h1 → lk = ks.foldl (fun l x => l.setIfInBounds x.1 true) l →
      Mid P ops N G F μ0 w0 frz D0 A ts2 l dn ts h μ E a w → ks.length + A.length + rest ≤ fuel + E.length → WF (FR ro') 0 P ops (Q0 Q) (SS ops F G μ0 w0) fuel (setAll l (E.map (·.1))) (putE E a) w := by
  have hEA : ∀ {l dn ts h μ} {E : Laid} {a w}, Mid P ops N G F μ0 w0 frz D0 A ts2 l dn ts h μ E a w → E.length ≤ A.length := fun {l dn ts h μ E a w} m => by
    have := sub_length m.nd fun x hx => by
      obtain ⟨y, hy, rfl⟩ := List.mem_map.1 hx
      exact (m.laid y hy).1
    simpa using this
  intro fuel
  induction fuel with
  | zero =>
    intro ks l dn ts h μ E a w hok hdr hlk m hfu
    have := hEA m
    have : ks = [] := List.length_eq_zero_iff.1 (by omega)
    subst this
    obtain ⟨rfl, rfl, rfl⟩ := hdr
    subst hlk
    exact END 0 μ E a w m (by simpa using hfu)
  | succ fuel ih =>
    intro ks l dn ts h μ E a w hok hdr hlk m hfu
    match ks, hok, hdr, hlk, hfu with
    | [], _, hdr, hlk, hfu =>
      obtain ⟨rfl, rfl, rfl⟩ := hdr
      subst hlk
      exact END _ μ E a w m (by simpa using hfu)
    | (i, true) :: ks, hok, hdr, hlk, hfu =>
      simp only [okPhase, Bool.and_eq_true] at hok
      obtain ⟨⟨⟨⟨hok1, hiA⟩, hfree⟩, hrd⟩, hok⟩ := hok
      have hiA := notIn_spec hiA
      have hiE : i ∉ E.map (·.1) := fun hm => by
        obtain ⟨y, hy, rfl⟩ := List.mem_map.1 hm
        exact hiA (m.laid y hy).1
      have hrl : i ∈ Region.ready .any ops l := by simpa using hrd
      have hr := ready_setAll hrl hiE
      cases ho : ops[i]? with
      | none => simp [ho] at hok1
      | some o =>
        simp only [ho, Bool.and_eq_true] at hok1
        obtain ⟨⟨hun, hdf⟩, hqb⟩ := hok1
        obtain ⟨hu1, hu2⟩ := m.unt hun
        have hqa : quietAt ops i = true := by simp [quietAt, ho, hqb]
        obtain ⟨o', ho', hdr⟩ := hdr
        rw [ho] at ho'
        cases ho'
        rw [yielded_rel m.rel] at hdr
        have step : ∀ (vS v' : Value), Rel μ vS v' → YieldsIf P ops (At ops (SS ops F G μ0 w0) i) o v' (putE E a) → DrawR P G ops h0 F frz ks dn (putS ts o.dst vS) h dn1 ts1 h1 → WF (FR ro') 0 P ops (Q0 Q) (SS ops F G μ0 w0) (fuel + 1) (setAll l (E.map (·.1))) (putE E a) w := fun vS v' hv hy hd => by
          refine WF_first (v := v') (fun i' o' ρ h' => Oper.semAt_eq _ _ _ (notDefer_spec (List.all_eq_true.1 R.ndf o' (by simpa using Array.mem_of_getElem? h')))) (FR_fn ro') ho (Region.noSelect_spec R.sel) (fun c a w hq => hq.elim)
            (fun L W hS => hS.quiet hqa) (fun L W k hS => hS.mono k) fuel _ _ _ (fun j oj hj hne hu hno => Region.free_spec ho hfree j oj hj hne (setAll_unlisted.1 hu).1 hno) m.clo hr hy m.ss ?_
          rw [← setAll_set, putE_put hu2]
          exact ih ks (l.setIfInBounds i true) dn _ h μ E _ w hok hd (by rw [hlk]; rfl) (m.quiet hun hdf hr hv) (by simp only [List.length_cons] at hfu; omega)
        rcases hdr with ⟨hw, hco, v, hp, hdr⟩ | ⟨hw, hdr⟩
        · obtain ⟨v', h1, h2⟩ : ∃ v', Rel μ v v' ∧ ∀ W, At ops (SS ops F G μ0 w0) i W → (execOp a.eval o).run P W = .ok (.value v') W := by
            rcases hp with hp | ⟨hx, hp⟩
            · exact quiet_yields R.hG R.f0 m hr hco hp
            · exact quiet_yields0 R.hG R.den0 m hr hx hco hp
          exact step v v' h1 (.inl ⟨by rw [putE_wanted hu1]; exact hw, fun W hW => by rw [putE_exec (ops := ops) (Region.noSelect_spec R.sel i o · · ho) hu1]; exact h2 W hW⟩) hdr
        · exact step undef undef (.ground rfl) (.inr ⟨by rw [putE_wanted hu1]; exact hw, rfl⟩) hdr
    | (i, false) :: ks, hok, hdr, hlk, hfu =>
      have hok0 := hok
      have hAl := okPhase_un _ _ hok
      simp only [okPhase, Bool.and_eq_true] at hok
      obtain ⟨⟨⟨⟨hun, hiA⟩, hrd⟩, hone⟩, hok⟩ := hok
      have hiA := notIn_spec hiA
      have hiE : i ∉ E.map (·.1) := fun hm => by
        obtain ⟨y, hy, rfl⟩ := List.mem_map.1 hm
        exact hiA (m.laid y hy).1
      have hrl : i ∈ Region.ready .any ops l := by simpa using hrd
      have hr := ready_setAll hrl hiE
      refine ⟨fun h0 => (by rw [h0] at hr; cases hr), fun j hj => ?_⟩
      rcases m.who (getD_none (mem_ready.1 hr).1) hiE hone hj with rfl | ⟨hjA, hjE⟩
      · cases ho : ops[j]? with
        | none => simp [ho] at hun
        | some o =>
          simp only [ho, Bool.and_eq_true] at hun
          obtain ⟨hun, hdf⟩ := hun
          obtain ⟨hu1, hu2⟩ := m.unt hun
          obtain ⟨o', ho', hdr⟩ := hdr
          rw [ho] at ho'
          cases ho'
          rw [yielded_rel m.rel] at hdr
          unfold wpOpIn
          simp only [ho]
          rw [putE_wanted hu1]
          have fin : ∀ (vS v' : Value) (h' : SH) (μ' : Mu) (w' : World), DrawR P G ops h0 F frz ks (doneBy o j dn) (putS ts o.dst vS) h' dn1 ts1 h1 → Post P (limE N (blk E)) G μ (guardF ops F (doneBy o j dn) ++ frz) w h' μ' w' → RelF μ' (putS ts o.dst vS) (a.put o.dst v').tmps → (calmB o = true → ∀ k, k < w.heap.size → w'.heap[k]? = w.heap[k]?) →
              SS ops F G μ0 w0 ((setAll l (E.map (·.1))).setIfInBounds j true) w' ∧ WF (FR ro') 0 P ops (Q0 Q) (SS ops F G μ0 w0) fuel ((setAll l (E.map (·.1))).setIfInBounds j true) (putE E (a.put o.dst v')) w' := fun vS v' h' μ' w' hd p hts hmk => by
            have m' := m.next R.f0 R.hG0 ho hun hdf hmk hr p hts
            rw [← setAll_set]
            exact ⟨m'.ss, ih ks _ _ _ h' μ' E _ w' hok hd (by rw [hlk]; rfl) m' (by simp only [List.length_cons] at hfu; omega)⟩
          rcases hdr with ⟨hw, hnd, ts', h', hst, hdr⟩ | ⟨hw, hdr⟩
          · obtain ⟨⟨vS, rfl⟩, hst⟩ := hst
            simp only [hw, if_true]
            refine ⟨fun f _ => FR_fn ro' f, ?_⟩
            rw [Oper.semAt_eq _ _ _ (notDefer_spec hnd), putE_exec (ops := ops) (Region.noSelect_spec R.sel j o · · ho) hu1]
            refine uponIn_putE (K := fun a' w' => SS ops F G μ0 w0 ((setAll l (E.map (·.1))).setIfInBounds j true) w' ∧ WF (FR ro') 0 P ops (Q0 Q) (SS ops F G μ0 w0) fuel ((setAll l (E.map (·.1))).setIfInBounds j true) a' w') hu2 ?_
            refine hst _ μ w a ro' m.den m.rel _ _ fun μ' a' w' p hts hput hmk => ?_
            obtain ⟨v', rfl⟩ := hput
            exact fin vS v' h' μ' w' hdr p hts hmk
          · simp only [hw, Bool.false_eq_true, if_false]
            rw [putE_put hu2]
            exact ⟨fun f _ => FR_fn ro' f, fin undef undef h μ w hdr (Post.refl m.den) (put_rel m.rel (.ground rfl) _) (fun _ _ _ => rfl)⟩
      · refine R.lay m st hAl hjA hj fun x w' hxj m' => ?_
        have hset : setAll l ((x :: E : Laid).map (·.1)) = (setAll l (E.map (·.1))).setIfInBounds j true := by
          rw [List.map_cons, setAll_cons, setAll_set, hxj]
        rw [← hset]
        exact ⟨m'.ss, ih ((i, false) :: ks) l dn ts h μ _ a _ hok0 hdr hlk m' (by simp only [List.length_cons] at hfu ⊢; omega)⟩
theorem set_idem {L : Array Bool} {e : Nat} (h : L.getD e false = true) : L.setIfInBounds e true = L := by
  have hlt : e < L.size := by
    rcases Nat.lt_or_ge e L.size with h' | h'
    · exact h'
    · simp [Array.getD, Nat.not_lt.2 h'] at h
  apply Array.ext_getElem?
  intro i
  by_cases hie : e = i
  · subst hie
    rw [Array.getElem?_setIfInBounds_self_of_lt hlt, Array.getElem?_eq_getElem hlt]
    simp only [Array.getD, hlt, dite_true] at h
    exact congrArg some h.symm
  · rw [Array.getElem?_setIfInBounds_ne hie]
theorem topo_first {E : List Nat} : ∀ (A : List Nat) (l : Array Bool), topo ops A l = true → (∀ e ∈ E, e < l.size) → (∃ e ∈ A, e ∉ E) → ∃ e ∈ A, e ∉ E ∧ e ∈ Region.ready .any ops (setAll l E)
  | [], _, _, _, ⟨e, he, _⟩ => by cases he
  | x :: A, l, h, hs, ⟨e, he, hn⟩ => by
    simp only [topo, Bool.and_eq_true] at h
    by_cases hx : x ∈ E
    · have he' : e ∈ A := by
        rcases List.mem_cons.1 he with rfl | he
        · exact absurd hx hn
        · exact he
      obtain ⟨e2, h1, h2, h3⟩ := topo_first A _ h.2 (fun e he => by rw [Array.size_setIfInBounds]; exact hs e he) ⟨e, he', hn⟩
      refine ⟨e2, by simp [h1], h2, ?_⟩
      rw [setAll_set, set_idem ((setAll_true _ _ _).2 (.inr ⟨hx, hs x hx⟩))] at h3
      exact h3
    · exact ⟨x, by simp, hx, ready_setAll (by simpa using h.1) hx⟩
/-- Its end: what may have come up ahead of time. -/
theorem end_ok (R : Reg P N G ops F μ0 w0 frz rc h0) {A : List Nat} {ts2 : Fr} (st : Sta P ops A ts2) {l : Array Bool} {dn : List Nat} {ts : Fr} {h : SH} (hok : okEnd ops A l = true) (rest : Nat)
    (NEXT : ∀ (fuel : Nat) (μ : Mu) (E : Laid) (a : Act) (w : World), Mid P ops N G F μ0 w0 frz D0 A ts2 l dn ts h μ E a w → (∀ e ∈ A, e ∈ E.map (·.1)) → rest ≤ fuel → WF (FR ro') 0 P ops (Q0 Q) (SS ops F G μ0 w0) fuel (setAll l (E.map (·.1))) (putE E a) w) :
    ∀ (fuel : Nat) (μ : Mu) (E : Laid) (a : Act) (w : World), Mid P ops N G F μ0 w0 frz D0 A ts2 l dn ts h μ E a w → A.length + rest ≤ fuel + E.length → WF (FR ro') 0 P ops (Q0 Q) (SS ops F G μ0 w0) fuel (setAll l (E.map (·.1))) (putE E a) w := by
  simp only [okEnd, Bool.and_eq_true] at hok
  obtain ⟨⟨⟨_, htopo⟩, _⟩, hall⟩ := hok
  rw [List.all_eq_true] at hall
  have hAl := topo_un A l htopo
  intro fuel
  induction fuel with
  | zero =>
    intro μ E a w m hfu
    have hsub : ∀ x ∈ E.map (·.1), x ∈ A := fun x hx => by
      obtain ⟨y, hy, rfl⟩ := List.mem_map.1 hx
      exact (m.laid y hy).1
    refine NEXT 0 μ E a w m (fun e he => ?_) ?_
    · by_cases hm : e ∈ E.map (·.1)
      · exact hm
      · have := sub_length (A := e :: E.map (·.1)) (B := A) (List.nodup_cons.2 ⟨hm, m.nd⟩) (fun x hx => by
          rcases List.mem_cons.1 hx with rfl | hx
          · exact he
          · exact hsub x hx)
        simp at this
        omega
    · have := sub_length m.nd hsub
      simp at this
      omega
  | succ fuel ih =>
    intro μ E a w m hfu
    have hsub : ∀ x ∈ E.map (·.1), x ∈ A := fun x hx => by
      obtain ⟨y, hy, rfl⟩ := List.mem_map.1 hx
      exact (m.laid y hy).1
    by_cases hAE : ∀ e ∈ A, e ∈ E.map (·.1)
    · refine NEXT _ μ E a w m hAE ?_
      have := sub_length m.nd hsub
      simp at this
      omega
    · obtain ⟨e, he, hnE, hre⟩ := topo_first (E := E.map (·.1)) A l htopo (fun x hx => by
        obtain ⟨y, hy, rfl⟩ := List.mem_map.1 hx
        obtain ⟨_, o, _, h1, _⟩ := m.laid y hy
        rw [m.ls]; exact (Array.getElem?_eq_some_iff.1 h1).1) (by simpa using hAE)
      refine ⟨fun h0 => (by rw [h0] at hre; cases hre), fun j hj => ?_⟩
      have hjA : j ∈ A := by
        have h1 := hall e he
        simp only [Bool.and_eq_true] at h1
        rcases m.who (getD_none (mem_ready.1 hre).1) hnE h1.1.2 hj with rfl | h2
        · exact he
        · exact h2.1
      refine R.lay m st hAl hjA hj fun x w' hxj m' => ?_
      have hset : setAll l ((x :: E : Laid).map (·.1)) = (setAll l (E.map (·.1))).setIfInBounds j true := by
        rw [List.map_cons, setAll_cons, setAll_set, hxj]
      rw [← hset]
      exact ⟨m'.ss, ih μ _ a _ m' (by simp only [List.length_cons]; omega)⟩
end
end Go.Proofs.Ytpaabfecoghibaa
