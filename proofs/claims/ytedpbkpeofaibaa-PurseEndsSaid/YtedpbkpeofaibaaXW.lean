/- All code is right on the shadow; a closed call that comes to true there does so. Over any program. Conditions: as each law says. -/
import Derived.Test.YtedpbkpeofaibaaXVa
namespace Go.Proofs.Ytedpbkpeofaibaa
open Go Go.RowKit
set_option linter.unusedSimpArgs false
set_option linter.unusedVariables false
section
variable {P : Program} {N : Lim} {G : Gl} {ops : Array Oper} {F : List (Nat × Nat)} {μ0 : Mu} {w0 : World} {frz : List Nat} {D0 : List Deferred} {rc : Rec} {ro' : Option Nat} {Q : Act → World → Prop} {h0 : SH}
theorem okPhase_end {A : List Nat} : ∀ (ks : List (Nat × Bool)) (l : Array Bool), okPhase ops A ks l = true → okEnd ops A (ks.foldl (fun l x => l.setIfInBounds x.1 true) l) = true
  | [], _, h => h
  | (i, true) :: ks, l, h => by
    simp only [okPhase, Bool.and_eq_true] at h
    exact okPhase_end ks _ h.2
  | (i, false) :: ks, l, h => by
    simp only [okPhase, Bool.and_eq_true] at h
    exact okPhase_end ks _ h.2
theorem foldl_size : ∀ (ks : List (Nat × Bool)) (l : Array Bool), (ks.foldl (fun l x => l.setIfInBounds x.1 true) l).size = l.size
  | [], _ => rfl
  | x :: ks, l => by rw [List.foldl_cons, foldl_size ks]; simp
theorem layAll_get : ∀ (A : List Nat) (ts : Fr) (h : SH) {ts2 : Fr} {h2 : SH}, ts.n ≤ 512 → layAll P ops A ts h = some (ts2, h2) → ts2.n = ts.n ∧ ∀ t, t ∉ dstsOf ops A → ts2.get t = ts.get t
  | [], ts, h, ts2, h2, _, e => by
    simp only [layAll, Option.some.injEq, Prod.mk.injEq] at e
    obtain ⟨rfl, rfl⟩ := e
    exact ⟨rfl, fun _ _ => rfl⟩
  | i :: A, ts, h, ts2, h2, hl, e => by
    simp only [layAll] at e
    split at e
    · rename_i o ho
      split at e
      · rename_i d hd
        have hds : dstsOf ops (i :: A) = d :: dstsOf ops A := by simp [dstsOf, ho, hd]
        have fin : ∀ v h', layAll P ops A (ts.set d v) h' = some (ts2, h2) → ts2.n = ts.n ∧ ∀ t, t ∉ dstsOf ops (i :: A) → ts2.get t = ts.get t := fun v h' e => by
          obtain ⟨h1, h2⟩ := layAll_get A _ _ (by rw [Fr.set_n]; exact hl) e
          refine ⟨h1.trans (Fr.set_n _ _ _), fun t ht => ?_⟩
          rw [hds, List.mem_cons, not_or] at ht
          rw [h2 t ht.2, Fr.get_set _ _ _ _ hl, if_neg (fun e => ht.1 e.1)]
        cases hb : Nat.blt d ts.n with
        | false => rw [hb] at e; cases e
        | true =>
          rw [hb, cond_true] at e
          split at e
          · exact fin _ _ e
          · exact fin _ _ e
          · cases e
      · cases e
    · cases e
theorem layAll_at : ∀ (A : List Nat) (ts : Fr) (h : SH) {ts2 : Fr} {h2 : SH}, ts.n ≤ 512 → layAll P ops A ts h = some (ts2, h2) → noneTwice (dstsOf ops A) = true → ordered ops A = true →
    ∀ e ∈ A, ∃ o d c, ops[e]? = some o ∧ o.dst = some d ∧ eCw P ops o ts2.get = some c ∧ (∃ a, ts2.get d = c.2 a) ∧ d < ts2.n
  | [], _, _, _, _, _, _, _, _, e, he => by cases he
  | i :: A, ts, h, ts2, h2, hl, e, hn, hor, x, hx => by
    have hall := layAll_get (i :: A) ts h hl e
    simp only [layAll] at e
    split at e
    · rename_i o ho
      split at e
      · rename_i d hd
        have hds : dstsOf ops (i :: A) = d :: dstsOf ops A := by simp [dstsOf, ho, hd]
        simp only [ordered, ho, Bool.and_eq_true, List.all_eq_true] at hor
        rw [hds] at hn
        simp only [noneTwice, Bool.and_eq_true] at hn
        have fin : ∀ c a h', eCw P ops o ts.get = some c → d < ts.n → layAll P ops A (ts.set d (c.2 a)) h' = some (ts2, h2) → ∃ o d c, ops[x]? = some o ∧ o.dst = some d ∧ eCw P ops o ts2.get = some c ∧ (∃ a, ts2.get d = c.2 a) ∧ d < ts2.n := fun c a h' hc hdn e => by
          rcases List.mem_cons.1 hx with rfl | hx
          · refine ⟨o, d, c, ho, hd, ?_, ⟨a, ?_⟩, by rw [hall.1]; exact hdn⟩
            · rw [← hc]
              exact eCw_congr fun t ht => hall.2 t fun hm => notIn_spec (hor.1 t hm) ht
            · rw [(layAll_get A _ _ (by rw [Fr.set_n]; exact hl) e).2 d (notIn_spec hn.1), Fr.get_set _ _ _ _ hl, if_pos ⟨rfl, hdn⟩]
          · exact layAll_at A _ _ (by rw [Fr.set_n]; exact hl) e hn.2 hor.2 x hx
        cases hb : Nat.blt d ts.n with
        | false => rw [hb] at e; cases e
        | true =>
          rw [hb, cond_true] at e
          have hdn : d < ts.n := by simpa [Nat.blt_eq] using hb
          split at e
          · rename_i f hc; exact fin (none, f) _ _ hc hdn e
          · rename_i cs t κ f hc; exact fin (some (cs, t, κ), f) _ _ hc hdn e
          · cases e
      · cases e
    · cases e
theorem sta_of {A : List Nat} {l : Array Bool} {ts : Fr} {h : SH} {ts2 : Fr} {h2 : SH} (hl : ts.n ≤ 512) (e : layAll P ops A ts h = some (ts2, h2)) (hok : okEnd ops A l = true) : Sta P ops A ts2 := by
  simp only [okEnd, Bool.and_eq_true, List.all_eq_true] at hok
  obtain ⟨⟨⟨hn, _⟩, hor⟩, hall⟩ := hok
  refine ⟨layAll_at A ts h hl e hn hor, noneTwice_spec hn, fun e1 he1 e2 he2 o o2 d ho ho2 hd hm => ?_, ?_⟩
  · have := (hall e1 he1).2 e2 he2
    simp only [ho, ho2, hd, Bool.or_eq_true] at this
    rcases this with h1 | h1
    · exact absurd hm (notIn_spec h1)
    · exact h1
  · have : ∀ (A : List Nat), ordered ops A = true → ∀ e ∈ A, ∀ o d, ops[e]? = some o → o.dst = some d → d ∉ o.looksAt ops := by
      intro A
      induction A with
      | nil => intro _ e he; cases he
      | cons x A ih =>
        intro hor e he o d ho hd
        simp only [ordered, Bool.and_eq_true] at hor
        rcases List.mem_cons.1 he with rfl | he
        · simp only [ho, List.all_eq_true] at hor
          exact notIn_spec (hor.1 d (dst_mem (by simp) ho hd))
        · exact ih hor.2 e he o d ho hd
    exact this A hor
theorem drawR_get {A : List Nat} {dn1 : List Nat} {ts1 : Fr} {h1 : SH} : ∀ (ks : List (Nat × Bool)) (l : Array Bool) (dn : List Nat) (ts : Fr) (h : SH), ts.n ≤ 512 → okPhase ops A ks l = true → DrawR P G ops h0 F frz ks dn ts h dn1 ts1 h1 → ts1.n = ts.n ∧ ∀ t ∈ usesA ops A, ts1.get t = ts.get t
  | [], _, dn, ts, h, _, _, hd => by
    obtain ⟨_, rfl, _⟩ := hd
    exact ⟨rfl, fun _ _ => rfl⟩
  | (i, b) :: ks, l, dn, ts, h, hl, hok, hd => by
    obtain ⟨o, ho, v, dn', h', hf, hok', hd'⟩ : ∃ o, ops[i]? = some o ∧ ∃ v dn' h', dstFree ops A o = true ∧ okPhase ops A ks (l.setIfInBounds i true) = true ∧ DrawR P G ops h0 F frz ks dn' (putS ts o.dst v) h' dn1 ts1 h1 := by
      cases b with
      | true =>
        obtain ⟨o, ho, hd⟩ := hd
        simp only [okPhase, ho, Bool.and_eq_true] at hok
        rcases hd with ⟨_, _, v, _, hd⟩ | ⟨_, hd⟩
        · exact ⟨o, ho, v, _, _, hok.1.1.1.1.1.2, hok.2, hd⟩
        · exact ⟨o, ho, _, _, _, hok.1.1.1.1.1.2, hok.2, hd⟩
      | false =>
        obtain ⟨o, ho, hd⟩ := hd
        simp only [okPhase, ho, Bool.and_eq_true] at hok
        rcases hd with ⟨_, _, ts', h', ⟨⟨v, rfl⟩, _⟩, hd⟩ | ⟨_, hd⟩
        · exact ⟨o, ho, v, _, _, hok.1.1.1.1.2, hok.2, hd⟩
        · exact ⟨o, ho, _, _, _, hok.1.1.1.1.2, hok.2, hd⟩
    obtain ⟨h1, h2⟩ := drawR_get ks _ _ _ _ (by rw [putS_n]; exact hl) hok' hd'
    exact ⟨h1.trans putS_n, fun t ht => (h2 t ht).trans (putS_ne hl (dstFree_spec hf t ht))⟩
theorem Mid.reA {A B : List Nat} {ts2 ts3 : Fr} {l : Array Bool} {dn : List Nat} {ts : Fr} {h : SH} {μ : Mu} {a : Act} {w : World} (m : Mid P ops N G F μ0 w0 frz D0 A ts2 l dn ts h μ [] a w) (hag : ∀ t ∈ usesA ops B, t ∉ dstsOf ops B → ts3.get t = ts.get t) (hsz : ts3.n = ts.n) : Mid P ops N G F μ0 w0 frz D0 B ts3 l dn ts h μ [] a w :=
  ⟨m.den, m.rel, m.clo, m.le, m.bel, m.kp, m.ss, m.dnl, fun x hx => absurd hx (by simp), m.nd, m.ndb, m.df, hag, hsz, m.ls⟩
/-- What stretches come to. -/
def PhaseR (P : Program) (G : Gl) (ops : Array Oper) (h0 : SH) (F : List (Nat × Nat)) (frz : List Nat) : List (List (Nat × Bool) × List Nat) → List Nat → Fr → SH → Fr → SH → Prop
  | [], _, ts, h, ts', h' => ts' = ts ∧ h' = h
  | (ks, A) :: ps, dn, ts, h, ts', h' => ∃ dn1 ts1 h1, DrawR P G ops h0 F frz ks dn ts h dn1 ts1 h1 ∧ ∃ ts2 h2, layAll P ops A ts1 h1 = some (ts2, h2) ∧ PhaseR P G ops h0 F frz ps dn1 ts2 h2 ts' h'
theorem phasesW_ok [Orc] [OrcOk P] (hG : G.l.all (fun x => x.2.1.toList.all (gr 6)) = true) (hrc : Right P G rc) {k : KF} {r : Value} : ∀ (ps : List (List (Nat × Bool) × List Nat)) (dn : List Nat) (ts : Fr) (h : SH), (∀ p ∈ ps, ∀ x ∈ p.1, x.2 = true → quietAt ops x.1 = true) → (phasesW P G ops ps dn).run rc frz h0 F ts h k = some r →
    ∃ ts' h', k ts' h' = some r ∧ PhaseR P G ops h0 F frz ps dn ts h ts' h'
  | [], _, ts, h, _, e => ⟨ts, h, e, rfl, rfl⟩
  | (ks, A) :: ps, dn, ts, h, hq, e => by
    have e : (stretchW P G ops ks dn).run rc frz h0 F ts h (fun ts' h' => (layW P ops A).run rc frz h0 F ts' h' fun ts' h' => (phasesW P G ops ps (dnAfter ops ks dn)).run rc frz h0 F ts' h' k) = some r := e
    obtain ⟨ts1, h1, hk, hd⟩ := stretchW_ok hG hrc ks _ _ _ (hq (ks, A) (by simp)) e
    have lay : ∃ ts2 h2, layAll P ops A ts1 h1 = some (ts2, h2) ∧ (phasesW P G ops ps (dnAfter ops ks dn)).run rc frz h0 F ts2 h2 k = some r := by
      cases A with
      | nil => exact ⟨ts1, h1, rfl, hk⟩
      | cons a A =>
        exact layK_ok (a :: A) ts1 h1 hk
    obtain ⟨ts2, h2, hl, hk⟩ := lay
    obtain ⟨ts', h', hk', hp⟩ := phasesW_ok hG hrc ps _ _ _ (fun p hp => hq p (by simp [hp])) hk
    exact ⟨ts', h', hk', _, ts1, h1, hd, ts2, h2, hl, hp⟩
theorem okPhase_quiet {A : List Nat} : ∀ (ks : List (Nat × Bool)) (l : Array Bool), okPhase ops A ks l = true → ∀ x ∈ ks, x.2 = true → quietAt ops x.1 = true
  | [], _, _, x, hx, _ => absurd hx (by simp)
  | (i, true) :: ks, l, h, x, hx, hb => by
    simp only [okPhase, Bool.and_eq_true] at h
    rcases List.mem_cons.1 hx with rfl | hx
    · have h1 := h.1.1.1.1
      unfold quietAt
      split at h1
      · rename_i o ho
        rw [Bool.and_eq_true] at h1
        simp only [ho]; exact h1.2
      · cases h1
    · exact okPhase_quiet ks _ h.2 x hx hb
  | (i, false) :: ks, l, h, x, hx, hb => by
    simp only [okPhase, Bool.and_eq_true] at h
    rcases List.mem_cons.1 hx with rfl | hx
    · cases hb
    · exact okPhase_quiet ks _ h.2 x hx hb
theorem okPhases_quiet : ∀ (ps : List (List (Nat × Bool) × List Nat)) (l : Array Bool), okPhases ops ps l = true → ∀ p ∈ ps, ∀ x ∈ p.1, x.2 = true → quietAt ops x.1 = true
  | [], _, _, _, hp, _, _, _ => by cases hp
  | (ks, A) :: ps, l, h, p, hp, x, hx, hb => by
    simp only [okPhases, Bool.and_eq_true] at h
    rcases List.mem_cons.1 hp with rfl | hp
    · exact okPhase_quiet ks l h.1 x hx hb
    · exact okPhases_quiet ps _ h.2 p hp x hx hb
theorem blk_perm {E E' : Laid} (h : E.Perm E') : (blk E).Perm (blk E') := h.flatMap_right _
theorem phases_ok (R : Reg P N G ops F μ0 w0 frz rc h0) {ts' : Fr} {h' : SH} (FIN : ∀ (l : Array Bool) (dn : List Nat) (μ : Mu) (a : Act) (w : World), Mid P ops N G F μ0 w0 frz D0 [] ts' l dn ts' h' μ [] a w → Q a w) :
    ∀ (ps : List (List (Nat × Bool) × List Nat)) (l : Array Bool) (dn : List Nat) (ts : Fr) (h : SH) (μ : Mu) (a : Act) (w : World) (fuel : Nat), okPhases ops ps l = true → PhaseR P G ops h0 F frz ps dn ts h ts' h' → Mid P ops N G F μ0 w0 frz D0 [] ts l dn ts h μ [] a w → lenAll ps ≤ fuel →
      WF (FR ro') 0 P ops (Q0 Q) (SS ops F G μ0 w0) fuel l a w
  | [], l, dn, ts, h, μ, a, w, fuel, hok, hdr, m, hfu => by
    obtain ⟨rfl, rfl⟩ := hdr
    simp only [okPhases, List.isEmpty_iff] at hok
    exact WF_done hok (FIN _ _ _ _ _ m) _
  | (ks, A) :: ps, l, dn, ts, h, μ, a, w, fuel, hok, hdr, m, hfu => by
    simp only [okPhases, Bool.and_eq_true] at hok
    obtain ⟨hok, hoks⟩ := hok
    have hend := okPhase_end ks l hok
    obtain ⟨dn1, ts1, h1, hd, ts2, h2, hlay, hdr⟩ := hdr
    obtain ⟨hn1, hg1⟩ := drawR_get ks l dn ts h m.rel.le hok hd
    have hl1 : ts1.n ≤ 512 := by rw [hn1]; exact m.rel.le
    obtain ⟨hn2, hg2⟩ := layAll_get A ts1 h1 hl1 hlay
    have st := sta_of hl1 hlay hend
    have m1 : Mid P ops N G F μ0 w0 frz D0 A ts2 l dn ts h μ [] a w := m.reA (fun t h1 h2 => (hg2 t h2).trans (hg1 t h1)) (hn2.trans hn1)
    refine phase_ok R st (lenAll ps) (fun fuel' μ' E a' w' m' hf => ?_) fuel ks l dn ts h μ [] a w hok hd rfl m1 (by simp only [lenAll] at hfu ⊢; simp; omega)
    refine end_ok R st hend (lenAll ps) (fun fuel2 μ2 E2 a2 w2 m2 hcomp hf2 => ?_) fuel' μ' E a' w' m' hf
    have hAn : A.Nodup := by
      have : ∀ B : List Nat, (∀ e ∈ B, ∃ o d, ops[e]? = some o ∧ o.dst = some d) → (dstsOf ops B).Nodup → B.Nodup := by
        intro B
        induction B with
        | nil => intro _ _; exact .nil
        | cons x B ih =>
          intro hB hn
          obtain ⟨o, d, ho, hdd⟩ := hB x (by simp)
          have hcons : dstsOf ops (x :: B) = d :: dstsOf ops B := by simp [dstsOf, ho, hdd]
          rw [hcons, List.nodup_cons] at hn
          exact List.nodup_cons.2 ⟨fun hm => hn.1 (dst_mem hm ho hdd), ih (fun e he => hB e (by simp [he])) hn.2⟩
      exact this A (fun e he => let ⟨o, d, _, h1, h2, _⟩ := st.at' e he; ⟨o, d, h1, h2⟩) st.nd
    have hperm : (E2.map (·.1)).Perm A := perm_of_sub m2.nd hAn (fun x hx => by
      obtain ⟨y, hy, rfl⟩ := List.mem_map.1 hx
      exact (m2.laid y hy).1) hcomp
    obtain ⟨E3, hp3, he3⟩ := perm_lift hperm E2 rfl
    have hmem : ∀ b, b ∈ (limE N (blk E3)).x ↔ b ∈ (limE N (blk E2)).x := fun b => by
      simp only [limE, List.mem_append]
      rw [(blk_perm hp3).mem_iff]
    have hden3 : Den P (limE N (blk E3)) G μ2 h1 w2 :=
      ⟨⟨m2.den.base.1, fun k hk => m2.den.base.2 k ((hmem k).1 hk)⟩, fun j sb hj => BlkOk.lim (N := limE N (blk E2)) (M := limE N (blk E3)) (fun b hb _ => ⟨hb.1, fun hm => hb.2 ((hmem b).1 hm)⟩) (m2.den.blk j sb hj), m2.den.old, m2.den.muOld, m2.den.apart, m2.den.kin, m2.den.famLt, m2.den.kinOld, m2.den.glob⟩
    have hor : ordered ops A = true := by
      simp only [okEnd, Bool.and_eq_true] at hend
      exact hend.1.2
    have hval := putE_same (m2.dnd st) (m2.dsize st)
    obtain ⟨μ3, hle3, hd4, hr4⟩ := layAll_ok (P := P) (ops := ops) (N := N) (G := G) (w := w2) (ρ := tm (putE E2 a2).tmps) (ts9 := ts2) E3 ts1 h1 μ2 a2 (by rw [he3]; exact hlay) hden3 ((blk_perm hp3).nodup_iff.1 m2.ndb) (fun x hx => (m2.laid x (hp3.mem_iff.2 hx)).2) (fun x hx => hval x (hp3.mem_iff.2 hx)) m2.rel
      (fun t ht => (putE_ne fun y hy => ht y (hp3.mem_iff.1 hy)).symm) (by rw [he3]; exact hor)
    have hact : putE E3.reverse a2 = putE E2 a2 := by
      refine (putE_perm (hp3.trans E3.reverse_perm.symm) (m2.dnd st) a2).symm
    rw [hact] at hr4
    have hLs : setAll (ks.foldl (fun l x => l.setIfInBounds x.1 true) l) (E2.map (·.1)) = setAll (ks.foldl (fun l x => l.setIfInBounds x.1 true) l) A := setAll_perm hperm _
    rw [hLs]
    refine phases_ok R FIN ps _ dn1 ts2 h2 μ3 _ w2 fuel2 hoks hdr ⟨hd4, hr4, ?_, Mu.le_trans m2.le hle3, m2.bel, m2.kp, ?_, fun k hk => ⟨(m2.dnl k hk).1, (setAll_true _ _ _).2 (.inl (m2.dnl k hk).2)⟩, fun x hx => absurd hx (by simp), .nil, .nil, (putE_defers _ _).trans m2.df, fun t ht => by simp [usesA] at ht, rfl, by rw [setAll_size]; exact m2.ls⟩ hf2
    · have := m2.clo
      rw [hLs] at this
      exact this
    · have := m2.ss
      rw [hLs] at this
      exact this
end
/-- **Regions that draw are right.** -/
theorem draw_right [Orc] {P : Program} [OrcOk P] {G : Gl} (hG : G.l.all (fun x => x.2.1.toList.all (gr 6)) = true) : DrawRight P G := by
  intro rc hrc frz ops ts h k r e
  unfold drawD at e
  cases hc : (planD P ops).ok with
  | false => rw [hc] at e; cases e
  | true =>
    rw [hc, cond_true] at e
    simp only [planD, Bool.and_eq_true] at hc
    obtain ⟨⟨⟨⟨hok, hlen⟩, hsel⟩, hndf⟩, hmix⟩ := hc
    have hsel := noSelL_ok hsel
    have hlen := Nat.le_of_ble_eq_true hlen
    have hok := okPhasesN_ok (l := Array.replicate ops.size false) _ msk0 (by simp) hok
    have hps : (planD P ops).ps = phases ops ops.size 0 := rfl
    rw [← hps] at hok hlen
    have hqs := okPhases_quiet _ _ hok
    have key : ∀ F : List (Nat × Nat), frzLive h (F.map (·.2)) = true → frzLive h frz = true → (phasesW P G ops (planD P ops).ps []).run rc frz h F ts h k = some r → ∃ ts' h', k ts' h' = some r ∧ RegR P G frz ops true ts h ts' h' := by
      intro F hl1 hl2 e
      obtain ⟨ts', h', hk, hp⟩ := phasesW_ok hG hrc _ _ _ _ hqs e
      refine ⟨ts', h', hk, fun N μ w a ro' Q id d hts K => ?_⟩
      have hmu : ∀ k, (h.tr.get k).isSome = true → ∃ b κ, μ k = some (b, κ) ∧ b < w.heap.size := fun k hk => by
        obtain ⟨sb, hsb⟩ := Option.isSome_iff_exists.1 hk
        obtain ⟨b, κ, h1, _, h3⟩ := (d.blk k sb hsb).at
        exact ⟨b, κ, h1, h3⟩
      have R : Reg P N G ops F μ w.drew frz rc h := ⟨d.drew, hG, hrc, hsel, hndf, fun x hx => hmu x.2 (List.all_eq_true.1 hl1 x.2 (List.mem_map.2 ⟨x, hx, rfl⟩)), fun k hk b κ hm => by
        obtain ⟨b', κ', h1, h2⟩ := hmu k (List.all_eq_true.1 hl2 k hk)
        rw [hm] at h1; cases h1; exact h2, d.glob.1⟩
      refine Code.wpIn_mono (Q := Q0 (Q .normal)) (fun e a w q => by cases e <;> first | exact q | exact q.elim) ?_
      refine wpIn_region_any hmix (wpAnyIn_of_WF (S := SS ops F G μ w.drew) _ _ _ _ ?_)
      refine phases_ok (D0 := a.defers) R (fun l dn μ' a' w' m => K μ' a' w' ⟨m.le, m.den, (Bel.refl N w).drew.trans m.bel, m.kp⟩ m.rel m.df) (planD P ops).ps _ [] ts h μ a w.drew ops.size hok hp ?_ hlen
      refine ⟨d.drew, hts, ?_, Mu.le_refl _, Bel.refl _ _, Keep.refl, ⟨fun _ _ _ _ _ _ => rfl, fun _ _ => rfl, fun _ _ _ => rfl⟩, fun k hk => absurd hk (by simp), fun x hx => absurd hx (by simp), .nil, .nil, rfl, fun t ht => by simp [usesA] at ht, rfl, by simp⟩
      intro j oj hj hl'
      have hlt : j < ops.size := (Array.getElem?_eq_some_iff.1 hj).1
      simp [setAll_nil, Array.getD, hlt] at hl'
    cases hsm : (planD P ops).simple with
    | true =>
      rw [hsm] at e
      simp only [cond_true] at e
      cases hl : frzLive h frz with
      | false => rw [hl] at e; cases e
      | true => rw [hl, cond_true] at e; exact key [] rfl hl e
    | false =>
      rw [hsm] at e
      simp only [cond_false] at e
      cases hl : (frzLive h ((footX P G ops h (planD P ops).ks ts).map (·.2)) && frzLive h frz) with
      | false => rw [hl] at e; cases e
      | true =>
        rw [hl, cond_true] at e
        rw [Bool.and_eq_true] at hl
        exact key _ hl.1 hl.2 e
/-- **All code that is reckoned on the shadow is right.** -/
theorem exec_right [Orc] {P : Program} [OrcOk P] {G : Gl} (hG : G.l.all (fun x => x.2.1.toList.all (gr 6)) = true) (n : Nat) : Right P G (exec P G n) := (right_exec hG (draw_right hG) n).1
end Go.Proofs.Ytedpbkpeofaibaa
