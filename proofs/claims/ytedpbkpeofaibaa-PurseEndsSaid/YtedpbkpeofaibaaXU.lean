/- Regions that draw, on the shadow: they are right. Over any program. Conditions: as each law says. -/
import Derived.Test.YtedpbkpeofaibaaXT
namespace Go.Proofs.Ytedpbkpeofaibaa
open Go Go.RowKit
set_option linter.unusedSimpArgs false
set_option linter.unusedVariables false
/-- What waiting reads may find is as at the start. -/
structure SS (ops : Array Oper) (F : List (Nat × Nat)) (G : Gl) (μ0 : Mu) (w0 : World) (L : Array Bool) (W : World) : Prop where
  fr : ∀ x ∈ F, (∀ m, L.getD m false = true → quietAt ops m = false → waits ops x.1 (ops.size + 1) m = false) → ∀ b κ, μ0 x.2 = some (b, κ) → W.heap[b]? = w0.heap[b]?
  gl : ∀ b, GB G b → W.heap[b]? = w0.heap[b]?
  calm : (∀ m, m < ops.size → L.getD m false = true → quietAt ops m = false → makerAt ops m = true) → ∀ b, b < w0.heap.size → W.heap[b]? = w0.heap[b]?
theorem SS.mono {ops : Array Oper} {F : List (Nat × Nat)} {G : Gl} {μ0 : Mu} {w0 W : World} {L : Array Bool} (k : Nat) (h : SS ops F G μ0 w0 L W) : SS ops F G μ0 w0 (L.setIfInBounds k true) W :=
  ⟨fun x hx hw => h.fr x hx fun m hm => hw m ((set_true_iff _ _ _).2 (.inl hm)), h.gl, fun hq => h.calm fun m hs hm => hq m hs ((set_true_iff _ _ _).2 (.inl hm))⟩
theorem SS.quiet {ops : Array Oper} {F : List (Nat × Nat)} {G : Gl} {μ0 : Mu} {w0 W : World} {L : Array Bool} {i : Nat} (hq : quietAt ops i = true) (h : SS ops F G μ0 w0 (L.setIfInBounds i true) W) : SS ops F G μ0 w0 L W :=
  ⟨fun x hx hw => h.fr x hx (fun m hm hn => by
    rcases (set_true_iff _ _ _).1 hm with h' | h'
    · exact hw m h' hn
    · rw [h'.1, hq] at hn
      exact absurd hn (by simp)), h.gl, fun hc => h.calm fun m hs hm hn => by
    rcases (set_true_iff _ _ _).1 hm with h' | h'
    · exact hc m hs h' hn
    · rw [h'.1, hq] at hn
      exact absurd hn (by simp)⟩
def blk (E : Laid) : List Nat := E.flatMap (·.2.2.2)
theorem blk_cons (x : Nat × Tmp × Value × List Nat) (E : Laid) : blk (x :: E) = x.2.2.2 ++ blk E := rfl
theorem mem_blk {E : Laid} {b : Nat} : b ∈ blk E ↔ ∃ x ∈ E, b ∈ x.2.2.2 := by simp [blk, List.mem_flatMap]
/-- What an operation that came up ahead of time has made is there. -/
def LaidC (P : Program) (N : Lim) (w : World) (c : EC) (v : Value) (bs : List Nat) : Prop := match c with
  | (none, f) => (∀ a, f a = v) ∧ bs = []
  | (some (cs, t, κ), f) => ∃ b sz, bs = [b] ∧ v = f ⟨b, 0, none⟩ ∧ w.heap[b]? = some (.cells cs.toArray t (0, 0)) ∧ (P.info? t).map (·.size) = some sz ∧ cs.length = κ * sz ∧ N.n ≤ b ∧ b ∉ N.x
def LaidOk (P : Program) (ops : Array Oper) (N : Lim) (w : World) (ρ : Nat → Value) (ts2 : Fr) (x : Nat × Tmp × Value × List Nat) : Prop :=
  ∃ o c, ops[x.1]? = some o ∧ o.dst = some x.2.1 ∧ eCw P ops o ρ = some c ∧ Shp (ts2.get x.2.1) x.2.2.1 ∧ LaidC P N w c x.2.2.1 x.2.2.2
theorem LaidC.keep {P : Program} {N : Lim} {w w' : World} {c : EC} {v : Value} {bs : List Nat} (h : LaidC P N w c v bs) (hk : ∀ b ∈ bs, w'.heap[b]? = w.heap[b]?) : LaidC P N w' c v bs := by
  obtain ⟨c0, f⟩ := c
  cases c0 with
  | none => exact h
  | some q =>
    obtain ⟨cs, t, κ⟩ := q
    obtain ⟨b, sz, rfl, h1, h2, h3⟩ := h
    exact ⟨b, sz, rfl, h1, (hk b (by simp)).trans h2, h3⟩
theorem LaidC.lt {P : Program} {N : Lim} {w : World} {c : EC} {v : Value} {bs : List Nat} (h : LaidC P N w c v bs) : ∀ b ∈ bs, b < w.heap.size := by
  obtain ⟨c0, f⟩ := c
  cases c0 with
  | none => obtain ⟨_, rfl⟩ := h; intro b hb; cases hb
  | some q =>
    obtain ⟨cs, t, κ⟩ := q
    obtain ⟨b, sz, rfl, h1, h2, h3⟩ := h
    intro b' hb
    obtain rfl : b' = b := by simpa using hb
    exact (Array.getElem?_eq_some_iff.1 h2).1
/-- What is so of those that may come up ahead of time, whatever comes. -/
structure Sta (P : Program) (ops : Array Oper) (A : List Nat) (ts2 : Fr) : Prop where
  at' : ∀ e ∈ A, ∃ o d c, ops[e]? = some o ∧ o.dst = some d ∧ eCw P ops o ts2.get = some c ∧ (∃ a, ts2.get d = c.2 a) ∧ d < ts2.n
  nd : (dstsOf ops A).Nodup
  dep : ∀ e ∈ A, ∀ e2 ∈ A, ∀ o o2 d, ops[e]? = some o → ops[e2]? = some o2 → o.dst = some d → d ∈ o2.looksAt ops → waits ops e (ops.size + 1) e2 = true
  self : ∀ e ∈ A, ∀ o d, ops[e]? = some o → o.dst = some d → d ∉ o.looksAt ops
/-- In the middle of a region. -/
structure Mid (P : Program) (ops : Array Oper) (N : Lim) (G : Gl) (F : List (Nat × Nat)) (μ0 : Mu) (w0 : World) (frz : List Nat) (D0 : List Deferred) (A : List Nat) (ts2 : Fr) (l : Array Bool) (dn : List Nat) (ts : Fr) (h : SH) (μ : Mu) (E : Laid) (a : Act) (w : World) : Prop where
  den : Den P (limE N (blk E)) G μ h w
  rel : RelF μ ts a.tmps
  clo : Closed ops (setAll l (E.map (·.1)))
  le : μ0.le μ
  bel : Bel N w0 w
  kp : Keep μ0 frz w0 w
  ss : SS ops F G μ0 w0 (setAll l (E.map (·.1))) w
  dnl : ∀ k ∈ dn, quietAt ops k = false ∧ l.getD k false = true
  laid : ∀ x ∈ E, x.1 ∈ A ∧ LaidOk P ops N w (tm (putE E a).tmps) ts2 x
  nd : (E.map (·.1)).Nodup
  ndb : (blk E).Nodup
  df : a.defers = D0
  agr : ∀ t ∈ usesA ops A, t ∉ dstsOf ops A → ts2.get t = ts.get t
  sz : ts2.n = ts.n
  ls : l.size = ops.size
def Q0 (Q : Act → World → Prop) : Exit → Act → World → Prop
  | .normal, a, w => Q a w
  | _, _, _ => False
theorem sub_length : ∀ {A B : List Nat}, A.Nodup → (∀ x ∈ A, x ∈ B) → A.length ≤ B.length
  | [], _, _, _ => by simp
  | a :: A, B, hn, hs => by
    rw [List.nodup_cons] at hn
    have hm : a ∈ B := hs a (by simp)
    have := sub_length (A := A) (B := B.erase a) hn.2 fun x hx => (List.mem_erase_of_ne (fun e => hn.1 (by rw [← e]; exact hx))).2 (hs x (by simp [hx]))
    rw [List.length_erase_of_mem hm] at this
    have : 0 < B.length := List.length_pos_of_mem hm
    simp only [List.length_cons]
    omega
theorem perm_of_sub : ∀ {A B : List Nat}, A.Nodup → B.Nodup → (∀ x ∈ A, x ∈ B) → (∀ x ∈ B, x ∈ A) → A.Perm B := fun ha hb h1 h2 =>
  (List.perm_ext_iff_of_nodup ha hb).2 fun x => ⟨h1 x, h2 x⟩
theorem perm_lift {α β : Type} {f : α → β} {l1 l2 : List β} (h : l1.Perm l2) : ∀ E : List α, E.map f = l1 → ∃ E', E.Perm E' ∧ E'.map f = l2 := by
  induction h with
  | nil => intro E hE; exact ⟨E, .refl _, hE⟩
  | cons x _ ih =>
    intro E hE
    cases E with
    | nil => simp at hE
    | cons y E =>
      simp only [List.map_cons, List.cons.injEq] at hE
      obtain ⟨E', h1, h2⟩ := ih E hE.2
      exact ⟨y :: E', h1.cons y, by simp [hE.1, h2]⟩
  | swap x y l =>
    intro E hE
    match E, hE with
    | a :: b :: E, hE =>
      simp only [List.map_cons, List.cons.injEq] at hE
      exact ⟨b :: a :: E, .swap .., by simp [hE.1, hE.2.1, hE.2.2]⟩
  | trans _ _ h1 h2 =>
    intro E hE
    obtain ⟨E1, p1, e1⟩ := h1 E hE
    obtain ⟨E2, p2, e2⟩ := h2 E1 e1
    exact ⟨E2, p1.trans p2, e2⟩
theorem putE_perm {E E' : Laid} (h : E.Perm E') : (E.map (·.2.1)).Nodup → ∀ a, putE E a = putE E' a := by
  induction h with
  | nil => intro _ a; rfl
  | cons x _ ih =>
    intro hn a
    simp only [List.map_cons, List.nodup_cons] at hn
    simp only [putE, ih hn.2]
  | swap x y l =>
    intro hn a
    simp only [List.map_cons, List.nodup_cons, List.mem_cons, not_or] at hn
    simp only [putE]
    exact Act.put_comm _ _ _ fun d hd he => hn.1.1 (by rw [Option.some.injEq] at hd he; rw [he, hd])
  | trans p1 _ h1 h2 =>
    intro hn a
    rw [h1 hn, h2 ((p1.map _).nodup_iff.1 hn)]
theorem putE_last (E : Laid) (x : Nat × Tmp × Value × List Nat) (a : Act) : putE (E ++ [x]) a = putE E (a.put (some x.2.1) x.2.2.1) := by
  induction E with
  | nil => rfl
  | cons y E ih => simp only [List.cons_append, putE, ih]
theorem noneTwice_spec : ∀ {l : List Nat}, noneTwice l = true → l.Nodup
  | [], _ => .nil
  | d :: l, h => by
    simp only [noneTwice, Bool.and_eq_true] at h
    exact List.nodup_cons.2 ⟨notIn_spec h.1, noneTwice_spec h.2⟩
section
variable {P : Program} {N : Lim} {G : Gl} {ops : Array Oper} {F : List (Nat × Nat)} {μ0 : Mu} {w0 : World} {frz : List Nat} {D0 : List Deferred}
theorem dst_mem {A : List Nat} {e : Nat} {o : Oper} {d : Tmp} (he : e ∈ A) (ho : ops[e]? = some o) (hd : o.dst = some d) : d ∈ dstsOf ops A := List.mem_filterMap.2 ⟨e, he, by simp [ho, hd]⟩
theorem tm_put_ne {a : Act} {d t : Tmp} {v : Value} (h : t ≠ d) : tm (a.put (some d) v).tmps t = tm a.tmps t := by
  simp only [tm, Act.put, Array.getD_eq_getD_getElem?]
  rw [Array.getElem?_setIfInBounds_ne (Ne.symm h)]
theorem tm_put_same {a : Act} {d : Tmp} {v : Value} (h : d < a.tmps.size) : tm (a.put (some d) v).tmps d = v := by
  simp only [tm, Act.put, Array.getD_eq_getD_getElem?]
  rw [Array.getElem?_setIfInBounds_self_of_lt h]; rfl
theorem putE_size (E : Laid) (a : Act) : (putE E a).tmps.size = a.tmps.size := by
  induction E with
  | nil => rfl
  | cons x E ih => simp only [putE, Act.put, Array.size_setIfInBounds, ih]
theorem putE_ne {E : Laid} {a : Act} {t : Tmp} (h : ∀ x ∈ E, t ≠ x.2.1) : tm (putE E a).tmps t = tm a.tmps t := by
  induction E with
  | nil => rfl
  | cons x E ih => simp only [putE]; rw [tm_put_ne (h x (by simp)), ih fun y hy => h y (by simp [hy])]
theorem putE_same {E : Laid} {a : Act} : (E.map (·.2.1)).Nodup → (∀ x ∈ E, x.2.1 < a.tmps.size) → ∀ x ∈ E, tm (putE E a).tmps x.2.1 = x.2.2.1 := by
  induction E with
  | nil => intro _ _ x hx; cases hx
  | cons y E ih =>
    intro hn hl x hx
    simp only [List.map_cons, List.nodup_cons] at hn
    simp only [putE]
    rcases List.mem_cons.1 hx with rfl | hx
    · exact tm_put_same (by rw [putE_size]; exact hl x (by simp))
    · rw [tm_put_ne (fun e => hn.1 (List.mem_map.2 ⟨x, hx, e⟩))]
      exact ih hn.2 (fun z hz => hl z (by simp [hz])) x hx
theorem laid_dsts {E : Laid} (h : ∀ x ∈ E, ∃ o, ops[x.1]? = some o ∧ o.dst = some x.2.1) : E.map (·.2.1) = dstsOf ops (E.map (·.1)) := by
  induction E with
  | nil => rfl
  | cons x E ih =>
    obtain ⟨o, h1, h2⟩ := h x (by simp)
    rw [List.map_cons, List.map_cons, ih fun y hy => h y (by simp [hy])]
    simp [dstsOf, h1, h2]
/-- What came up ahead of time comes up on the shadow. -/
theorem layAll_ok {w : World} {ρ : Nat → Value} {ts9 : Fr} : ∀ (E : Laid) (ts : Fr) (h : SH) (μ : Mu) (a : Act) {ts2 : Fr} {h2 : SH}, layAll P ops (E.map (·.1)) ts h = some (ts2, h2) → Den P (limE N (blk E)) G μ h w → (blk E).Nodup → (∀ x ∈ E, LaidOk P ops N w ρ ts9 x) → (∀ x ∈ E, ρ x.2.1 = x.2.2.1) → RelF μ ts a.tmps →
    (∀ t, (∀ y ∈ E, t ≠ y.2.1) → tm a.tmps t = ρ t) → ordered ops (E.map (·.1)) = true →
    ∃ μ2, μ.le μ2 ∧ Den P N G μ2 h2 w ∧ RelF μ2 ts2 (putE E.reverse a).tmps
  | [], ts, h, μ, a, ts2, h2, e, d, _, _, _, hr, _, _ => by
    simp only [List.map_nil, layAll, Option.some.injEq, Prod.mk.injEq] at e
    obtain ⟨rfl, rfl⟩ := e
    exact ⟨μ, Mu.le_refl _, d, hr⟩
  | x :: E, ts, h, μ, a, ts2, h2, e, d, hnd, hl, hρ, hr, hag, hor => by
    obtain ⟨o, c', ho, hdst, hc', _, hlc⟩ := hl x (by simp)
    have hds : (x :: E).map (·.2.1) = dstsOf ops ((x :: E).map (·.1)) := laid_dsts fun y hy => let ⟨o, _, h1, h2, _⟩ := hl y hy; ⟨o, h1, h2⟩
    simp only [List.map_cons, ordered, Bool.and_eq_true, ho] at hor
    obtain ⟨ho1, hor⟩ := hor
    have hds' : dstsOf ops (x.1 :: E.map (·.1)) = (x :: E).map (·.2.1) := hds.symm
    rw [hds', List.all_eq_true] at ho1
    have hlook : ∀ t ∈ o.looksAt ops, tm a.tmps t = ρ t := fun t ht => hag t fun y hy e => by
      have := notIn_spec (ho1 y.2.1 (List.mem_map.2 ⟨y, hy, rfl⟩))
      rw [e] at ht; exact this ht
    simp only [List.map_cons, layAll, ho, hdst] at e
    cases hdn : Nat.blt x.2.1 ts.n with
    | false => rw [hdn] at e; cases e
    | true =>
      rw [hdn, cond_true] at e
      have hsz : x.2.1 < a.tmps.size := by rw [← hr.n]; simpa [Nat.blt_eq] using hdn
      have hput : ∀ v, v = x.2.2.1 → ∀ t, (∀ y ∈ E, t ≠ y.2.1) → tm (a.put (some x.2.1) v).tmps t = ρ t := fun v hv t ht => by
        by_cases htx : t = x.2.1
        · subst htx; rw [tm_put_same hsz, hv, hρ x (by simp)]
        · rw [tm_put_ne htx]
          exact hag t fun y hy => by
            rcases List.mem_cons.1 hy with rfl | hy
            · exact htx
            · exact ht y hy
      have hcr : ∀ c, eCw P ops o ts.get = some c → CRel μ c c' := fun c hc => by
        obtain ⟨c2, h1, h2⟩ := eCw_rel (g' := tm a.tmps) (fun t _ => hr.at' t) hc
        rw [eCw_congr hlook, hc'] at h1
        cases h1; exact h2
      split at e
      · rename_i f hc
        have hcr := hcr _ hc
        obtain ⟨c0, f'⟩ := c'
        cases c0 with
        | some q => exact hcr.elim
        | none =>
          obtain ⟨hf, hbs⟩ := hlc
          obtain ⟨μ2, h1, h2, h3⟩ := layAll_ok E _ _ _ (a.put (some x.2.1) x.2.2.1) e (by rw [blk_cons, hbs] at d; exact d) (by rw [blk_cons, hbs] at hnd; exact hnd) (fun y hy => hl y (by simp [hy])) (fun y hy => hρ y (by simp [hy]))
            (hr.set (by rw [← hf ⟨0, 0, none⟩]; exact hcr _ _) _) (hput _ rfl) hor
          exact ⟨μ2, h1, h2, by rw [List.reverse_cons, putE_last]; exact h3⟩
      · rename_i cs t κ f hc
        have hcr := hcr _ hc
        obtain ⟨c0, f'⟩ := c'
        cases c0 with
        | none => exact hcr.elim
        | some q =>
          obtain ⟨cs', t', κ'⟩ := q
          obtain ⟨b, sz, hbs, hv, hheap, hsz2, hlen, hn, hx⟩ := hlc
          obtain ⟨rfl, rfl, hrel, hval⟩ : t = t' ∧ κ = κ' ∧ RelL μ cs cs' ∧ _ := hcr
          rw [blk_cons, hbs] at d hnd
          simp only [List.singleton_append, List.nodup_cons] at hnd
          obtain ⟨hle, d'⟩ := Den.adopt (E := blk E) (b := b) (by simpa using d) hnd.1 hx hn hheap hsz2 (κ := κ) (by simpa using hlen) (cs := cs) (by simpa using hrel)
          obtain ⟨μ2, h1, h2, h3⟩ := layAll_ok E _ _ _ (a.put (some x.2.1) x.2.2.1) e d' hnd.2 (fun y hy => hl y (by simp [hy])) (fun y hy => hρ y (by simp [hy]))
            ((hr.mono hle).set (by rw [hv]; exact hval _ _ _ Mu.add_same) _) (hput _ rfl) hor
          exact ⟨μ2, Mu.le_trans hle h1, h2, by rw [List.reverse_cons, putE_last]; exact h3⟩
      · cases e
theorem WF_done {Fn : Fence} {n : Nat} {Q : Exit → Act → World → Prop} {S : Array Bool → World → Prop} {L : Array Bool} {a : Act} {w : World} (hr : Region.ready .any ops L = []) (h : Q .normal a w) : ∀ fuel, WF Fn n P ops Q S fuel L a w
  | 0 => ⟨hr, h⟩
  | _ + 1 => ⟨fun _ => h, by rw [hr]; simp⟩
/-- An operation comes up ahead of time. -/
theorem wp_early {ro' : Option Nat} {Q : Exit → Act → World → Prop} {e : Nat} {o : Oper} {d : Tmp} {c : EC} (ho : ops[e]? = some o) (hnd : notDefer o = true) (hd : o.dst = some d) {K : Act → World → Prop} {a : Act} {w : World} (h : eCw P ops o (tm a.tmps) = some c)
    (k : ∀ v w', Came P c w v w' → K (a.put (some d) v) w') : wpOpIn (FR ro') 0 P ops Q e K a w := by
  unfold eCw at h
  cases hc : o.op.operands.toList.all constOk with
  | false => rw [hc] at h; cases h
  | true =>
    rw [hc, cond_true, yieldedG_yielded] at h
    unfold wpOpIn
    simp only [ho]
    cases hw : Region.wanted o (yielded ops a.tmps) with
    | true =>
      rw [hw, cond_true] at h
      obtain ⟨v, w', h1, h2⟩ := eC_run h w
      simp only [if_true]
      refine ⟨fun f _ => FR_fn ro' f, ?_⟩
      rw [Oper.semAt_eq _ _ _ (notDefer_spec hnd), h1, Oper.uponIn_value, hd]
      exact k v w' h2
    | false =>
      rw [hw, cond_false] at h
      simp only [Option.some.injEq] at h
      subst h
      simp only [Bool.false_eq_true, if_false]
      refine ⟨fun f _ => FR_fn ro' f, ?_⟩
      rw [hd]
      exact k undef w ⟨fun _ => rfl, rfl⟩
theorem Mid.lay {A : List Nat} {ts2 : Fr} {l : Array Bool} {dn : List Nat} {ts : Fr} {h : SH} {μ : Mu} {E : Laid} {a : Act} {w : World} (m : Mid P ops N G F μ0 w0 frz D0 A ts2 l dn ts h μ E a w) (st : Sta P ops A ts2) (hG0 : ∀ b, GB G b → b < N.n) (hfl : ∀ k ∈ frz, ∀ b κ, μ0 k = some (b, κ) → b < w.heap.size)
    (hFl : ∀ x ∈ F, ∀ b κ, μ0 x.2 = some (b, κ) → b < w.heap.size)
    {j : Nat} {o : Oper} {d : Tmp} {c : EC} (hj : j ∈ A) (hjE : j ∉ E.map (·.1)) (hr : j ∈ Region.ready .any ops (setAll l (E.map (·.1)))) (ho : ops[j]? = some o) (hd : o.dst = some d) (hc : eCw P ops o (tm (putE E a).tmps) = some c) {v : Value} {w' : World} (hcm : Came P c w v w') (hshp : Shp (ts2.get d) v) :
    ∃ bs, Mid P ops N G F μ0 w0 frz D0 A ts2 l dn ts h μ ((j, d, v, bs) :: E) a w' := by
  have hlaidA : ∀ x ∈ E, ∃ o, ops[x.1]? = some o ∧ o.dst = some x.2.1 := fun x hx => let ⟨_, o, _, h1, h2, _⟩ := m.laid x hx; ⟨o, h1, h2⟩
  have hun : (setAll l (E.map (·.1))).getD j false = false := getD_none (mem_ready.1 hr).1
  have hdE : ∀ x ∈ E, d ≠ x.2.1 := fun x hx e => by
    obtain ⟨o', h1, h2⟩ := hlaidA x hx
    have hxj : x.1 ≠ j := fun e' => hjE (List.mem_map.2 ⟨x, hx, e'⟩)
    have hx1 := (m.laid x hx).1
    have key : ∀ (B : List Nat), (dstsOf ops B).Nodup → x.1 ∈ B → j ∈ B → False := by
      intro B
      induction B with
      | nil => intro _ h; cases h
      | cons y B ih =>
        intro hn h3 h4
        cases hy : (ops[y]?).bind (·.dst) with
        | none =>
          have h3' : x.1 ∈ B := by
            rcases List.mem_cons.1 h3 with h5 | h5
            · rw [← h5, h1] at hy; simp [h2] at hy
            · exact h5
          have h4' : j ∈ B := by
            rcases List.mem_cons.1 h4 with h5 | h5
            · rw [← h5, ho] at hy; simp [hd] at hy
            · exact h5
          exact ih (by simpa [dstsOf, hy] using hn) h3' h4'
        | some dy =>
          have hc2 : dstsOf ops (y :: B) = dy :: dstsOf ops B := by simp [dstsOf, hy]
          rw [hc2, List.nodup_cons] at hn
          rcases List.mem_cons.1 h3 with h5 | h5 <;> rcases List.mem_cons.1 h4 with h6 | h6
          · exact hxj (h5.trans h6.symm)
          · rw [← h5, h1] at hy
            simp only [Option.bind_some, h2, Option.some.injEq] at hy
            exact hn.1 (by rw [← hy, ← e]; exact dst_mem h6 ho hd)
          · rw [← h6, ho] at hy
            simp only [Option.bind_some, hd, Option.some.injEq] at hy
            exact hn.1 (by rw [← hy, e]; exact dst_mem h5 h1 h2)
          · exact ih hn.2 h5 h6
    exact key A st.nd hx1 hj
  have hlookE : ∀ x ∈ E, ∀ o', ops[x.1]? = some o' → d ∉ o'.looksAt ops := fun x hx o' ho' hm => by
    have := st.dep j hj x.1 (m.laid x hx).1 o o' d ho ho' hd hm
    have h1 := (waits_not m.clo hun _ _ this).1
    have h2 := (setAll_true (E.map (·.1)) l x.1).2 (.inr ⟨List.mem_map.2 ⟨x, hx, rfl⟩, by rw [m.ls]; exact (Array.getElem?_eq_some_iff.1 ho').1⟩)
    rw [h1] at h2
    cases h2
  have hself := st.self j hj o d ho hd
  have hnew : ∀ bs, (∀ t, t ≠ d → tm (putE ((j, d, v, bs) :: E) a).tmps t = tm (putE E a).tmps t) := fun bs t ht => by
    simp only [putE]; exact tm_put_ne ht
  have hset : ∀ bs, setAll l ((((j, d, v, bs) :: E : Laid)).map (·.1)) = (setAll l (E.map (·.1))).setIfInBounds j true := fun bs => by
    rw [List.map_cons, setAll_cons, setAll_set]
  have hold : ∀ k, k < w.heap.size → w'.heap[k]? = w.heap[k]? := fun k hk => by
    obtain ⟨c0, f⟩ := c
    cases c0 with
    | none => obtain ⟨_, rfl⟩ := hcm; rfl
    | some q => obtain ⟨cs, t, κ⟩ := q; obtain ⟨_, rfl, _⟩ := hcm; exact Below.heap_alloc w _ k hk
  have hb : ∀ x ∈ E, ∀ b ∈ x.2.2.2, b < w.heap.size := fun x hx => by
    obtain ⟨_, o', c', _, _, _, _, h1⟩ := m.laid x hx
    exact h1.lt
  have hbN : Base N w := ⟨m.den.base.1, fun k hk => m.den.base.2 k (by simp [limE, hk])⟩
  have hbel : Bel N w0 w' := by
    obtain ⟨c0, f⟩ := c
    cases c0 with
    | none => obtain ⟨_, rfl⟩ := hcm; exact m.bel
    | some q => obtain ⟨cs, t, κ⟩ := q; obtain ⟨_, rfl, _⟩ := hcm; exact m.bel.alloc hbN _
  have hlaid : ∀ bs, LaidC P N w' c v bs → ∀ x ∈ ((j, d, v, bs) :: E : Laid), x.1 ∈ A ∧ LaidOk P ops N w' (tm (putE ((j, d, v, bs) :: E) a).tmps) ts2 x := fun bs hlc x hx => by
    rcases List.mem_cons.1 hx with rfl | hx
    · refine ⟨hj, o, c, ho, hd, ?_, hshp, hlc⟩
      rw [← hc]
      exact eCw_congr fun t ht => hnew bs t fun e => hself (by rw [← e]; exact ht)
    · obtain ⟨h1, o', c', h2, h3, h4, h5, h6⟩ := m.laid x hx
      refine ⟨h1, o', c', h2, h3, ?_, h5, h6.keep fun b hbx => hold b (hb x hx b hbx)⟩
      rw [← h4]
      exact eCw_congr fun t ht => hnew bs t fun e => hlookE x hx o' h2 (by rw [← e]; exact ht)
  have hss : ∀ bs, SS ops F G μ0 w0 (setAll l ((((j, d, v, bs) :: E : Laid)).map (·.1))) w' := fun bs => by
    rw [hset]
    exact ⟨fun x hx hw b κ hm => (hold b (hFl x hx b κ hm)).trans ((m.ss.mono j).fr x hx hw b κ hm), fun x hx => (hold _ (Nat.lt_of_lt_of_le (hG0 x hx) hbN.1)).trans (m.ss.gl x hx), fun hq b hb0 => (hold b (Nat.lt_of_lt_of_le hb0 m.bel.low.size)).trans ((m.ss.mono j).calm hq b hb0)⟩
  have fin : ∀ bs, Den P (limE N (blk ((j, d, v, bs) :: E))) G μ h w' → LaidC P N w' c v bs → (blk ((j, d, v, bs) :: E)).Nodup → Mid P ops N G F μ0 w0 frz D0 A ts2 l dn ts h μ ((j, d, v, bs) :: E) a w' := fun bs hden hlc hndb =>
    ⟨hden, m.rel, by rw [hset]; exact closed_set m.clo hr, m.le, hbel, fun k hk b κ hm => (hold b (hfl k hk b κ hm)).trans (m.kp k hk b κ hm), hss bs, m.dnl, hlaid bs hlc, by rw [List.map_cons, List.nodup_cons]; exact ⟨hjE, m.nd⟩, hndb, m.df, m.agr, m.sz, m.ls⟩
  obtain ⟨c0, f⟩ := c
  cases c0 with
  | none =>
    obtain ⟨hf, rfl⟩ := hcm
    exact ⟨[], fin [] m.den ⟨hf, rfl⟩ m.ndb⟩
  | some q =>
    obtain ⟨cs, t, κ⟩ := q
    obtain ⟨hv, rfl, sz, h1, h2⟩ := hcm
    refine ⟨[w.heap.size], fin _ (by rw [blk_cons]; exact m.den.lay _) ⟨_, sz, rfl, hv, World.alloc_heap_new w _, h1, h2, hbN.1, fun hk => Nat.lt_irrefl _ (hbN.2 _ hk)⟩ ?_⟩
    rw [blk_cons]
    simp only [List.singleton_append, List.nodup_cons]
    refine ⟨fun hm => ?_, m.ndb⟩
    obtain ⟨x, hx, he⟩ := mem_blk.1 hm
    exact Nat.lt_irrefl _ (hb x hx _ he)
end
end Go.Proofs.Ytedpbkpeofaibaa
