/- PotLevel: what follows the truth. Conditions: as each theorem says. -/
import Derived.Test.YtpaabfecoghibaaFS
import Derived.Test.YtpaabfecoghibaaPI
namespace Go.Proofs.Ytpaabfecoghibaa
open Go Go.RowKit
attribute [local irreducible] addC subC mulC quoI remI forceN forceB bR getC iR kI callI rcI oldC oA nextC readR
set_option maxRecDepth 1000000
set_option maxHeartbeats 8000000
set_option linter.unusedVariables false
set_option linter.unusedSimpArgs false
theorem by_sbFT {P : Prop} (h : P := by (refine slotsF rfl rfl ?_; repeat (first | exact AllSl.nil | refine AllSl.no (by (conv => arg 1; whnf); first | exact Or.inl (gx _) | exact junk_b rfl | exact Or.inl by_g) ?_ | refine AllSl.so (by (conv => arg 3; whnf); first | exact SimV.int (by first | rfl | omega | (dsimp only; omega)) | exact SimV.bool (by first | rfl | assumption | (dsimp only; omega)) | exact SimV.slice rfl rfl (by first | rfl | omega) (by first | rfl | omega) | exact SimV.ptr rfl rfl | exact SimV.ground rfl | exact SimV.ground by_g | exact SimV.map rfl | exact SimV.func .nil .nil | exact SimV.func .nil (.cons (.ptr rfl rfl) .nil) | exact SimV.func .nil (.cons (.ptr rfl rfl) (.cons (.ptr rfl rfl) .nil)) | fail) ?_))) : P := h
theorem by_s0FT {P : Prop} (h : P := by (refine slotsF rfl rfl ?_; repeat (first | exact AllSl.nil | refine AllSl.no (by (conv => arg 1; whnf); first | exact junk_b rfl | exact Or.inl by_g) ?_ | refine AllSl.so (by (conv => arg 3; whnf); first | exact SimV.int (by first | rfl | omega | (dsimp only; omega)) | exact SimV.bool (by first | rfl | assumption | (dsimp only; omega)) | exact SimV.slice rfl rfl (by first | rfl | omega) (by first | rfl | omega) | exact SimV.ptr rfl rfl | exact SimV.ground rfl | exact SimV.ground by_g | exact SimV.map rfl | exact SimV.func .nil .nil | exact SimV.func .nil (.cons (.ptr rfl rfl) .nil) | exact SimV.func .nil (.cons (.ptr rfl rfl) (.cons (.ptr rfl rfl) .nil)) | fail) ?_))) : P := h
theorem enc_get {l : List Int} {i : Nat} {v : Int} (h : l[i]? = some v) : (encA encI l)[0 + i * 1]? = some (.int .i64 v) := by
  rw [encA_eq, Nat.zero_add, Nat.mul_one]
  have := flat_get (enc := encI) (k := 1) (fun _ => rfl) l i v h 0 _ rfl
  rwa [Nat.mul_one, Nat.add_zero] at this
theorem resF_pos {flow base warm : Int} : (0 < warm - base → resF flow base warm = flow * (warm - base)) ∧ (warm - base ≤ 0 → resF flow base warm = 0) := by
  constructor
  · intro h; rw [resF, if_pos h]
  · intro h; rw [resF, if_neg (by omega), Int.mul_zero]
def levL (due : Int) : List (Option Value) := [none, none, none, some (.pointer (some ⟨0, 0, some 0⟩)), some (.pointer (some ⟨1, 0, some 0⟩)), none, none, some (.int .i64 due), none, some (.pointer (some ⟨2, 0, some 0⟩)), some (.pointer (some ⟨3, 0, some 0⟩)), none, none, none, none, none, none, none, none, none, none, none, none, none, none, none, none, none, none, none, none, none, none, none, none, none, none, none, none, none, none, none, none, none, none, none, none, none, none, none, none, none, none, none, none, none, none, none, none, none, none, none, none, none, none, none, none, none, none, none, none, none, none, none, none, none, none, none, none, none, none, none, none, none, none, none, none, none, none, none, none, none, none, none, none, none, none, none, none, none, none, none, none, none, none, none, none, none, none, none, none, none, none, none, none, none, none, none, none, none, none, none, none, none, none, none, none, none, none, none, none, none, none, none, none, none, none, none, none, none, none, none, none, none, none, none, none, none, none, none, none, none, none, none, none, none, none, none, none, none, none, none, none, none, none, none, none, none, none, none, none, none, none, none, none, none, none, none, none, none, none, none, none, none, none, none, none, none, none, none, none]
def levM (a : Option Addr) (n c : Nat) (a2 : Option Addr) (n2 c2 : Nat) (base hands x fr : Int) (p : Pt) (W R H : List Int) : List (TypeId × List Value) :=
  [(25, encRun a n c a2 n2 c2 base hands), (26, [.int .i64 x, .int .i64 fr]), (37, encPt p), (39, [.slice (some ⟨4, 0, some 1⟩) n2 0, .slice (some ⟨5, 0, some 1⟩) n2 0, .slice (some ⟨6, 0, some 1⟩) n 0]), (3, encA encI W), (3, encA encI R), (3, encA encI H)]
def levL2 (due has most : Int) (d : Nat) : List (Option Value) := [none, none, none, some (.pointer (some ⟨0, 0, some 0⟩)), some (.pointer (some ⟨1, 0, some 0⟩)), none, none, some (.int .i64 due), none, some (.pointer (some ⟨2, 0, some 0⟩)), some (.pointer (some ⟨3, 0, some 0⟩)), some (.int .i64 has), some (.int .i64 most), some (.int .i64 (d : Int)), none, none, none, none, none, none, none, none, none, none, none, none, none, none, none, none, none, none, none, none, none, none, none, none, none, none, none, none, none, none, none, none, none, none, none, none, none, none, none, none, none, none, none, none, none, none, none, none, none, none, none, none, none, none, none, none, none, none, none, none, none, none, none, none, none, none, none, none, none, none, none, none, none, none, none, none, none, none, none, none, none, none, none, none, none, none, none, none, none, none, none, none, none, none, none, none, none, none, none, none, none, none, none, none, none, none, none, none, none, none, none, none, none, none, none, none, none, none, none, none, none, none, none, none, none, none, none, none, none, none, none, none, none, none, none, none, none, none, none, none, none, none, none, none, none, none, none, none, none, none, none, none, none, none, none, none, none, none, none, none, none, none, none, none, none, none, none, none, none, none, none, none, none, none, none, none, none]
/-- The loops of a code, in their order. -/
def findLoop : Code → List Code
  | .seq a b => findLoop a ++ findLoop b
  | .block _ c => findLoop c
  | .loop c => [c]
  | .scope c => findLoop c
  | .cond _ a b => findLoop a ++ findLoop b
  | _ => []
noncomputable def levX : Code := (findLoop (finfo Try.prog 3).body).headD .skip
noncomputable abbrev levK (f : Nat → Nat → Option Value) : KP := KP.block 0 (KP.then (fun ts h => J Try.prog f 0 (postC 8 (finfo Try.prog 3).body) ts h (EndF Try.prog f 3 ⟨.bool true, []⟩)) (EndF Try.prog f 3 ⟨.bool true, []⟩))
section
variable (f : Nat → Nat → Option Value)
theorem level_loop {a a2 : Option Addr} {n c n2 c2 : Nat} {ps : List Pt} {ds : List Dy} {bits : List Int} (base hands fr : Int) (k : Nat) (p : Pt) (q0 : Nat) (h0 : Int) (hP : Pts f a n c ps) (hD : Dys f a2 n2 c2 ds) (hez : levE ps ds base hands k fr ((ds.length : Int) - 1) = 0) (hk : ps[k]? = some p) (hwk : FnR Try.prog f 7 [] ⟨.bool true, []⟩)
    (hfq : fr.toNat = q0) (hqn : q0 ≤ n2) (hs1 : accF true p base ds fr q0 ≤ h0) (hs2 : h0 ≤ accF false p base ds fr q0) (vs : List Value) (hv : MatchL (levL2 ((dueF p base ds fr : Nat) : Int) h0 (accF false p base ds fr q0) q0) vs) :
    LJ Try.prog f 0 levX (frL (levL2 ((dueF p base ds fr : Nat) : Int) h0 (accF false p base ds fr q0) q0).length vs) (memSH (levM a n c a2 n2 c2 base hands k fr p (truW ds bits) (truR ds bits) (truH ps bits)) sh0) (levK f) := by
  obtain ⟨xs, gx, rfl⟩ := hv
  have hg := hP.g
  have hg2 := hD.g
  have hlen := hP.len
  have hlen2 := hD.len
  have hat2 := hD.at'
  rw [levE, orE2_z] at hez
  obtain ⟨h1, h2⟩ := hez
  obtain ⟨hn6, hn8, ⟨hb, hb1⟩, hpt, hl⟩ := run_ok h1
  obtain ⟨⟨hk0, hk1⟩, _, hf0, hf1⟩ := askE_z.1 h2
  have hp := hpt k p hk
  have hpl := hp.l0
  have hpl1 := hp.l1
  have hpl2 := hp.l2
  refine LJ.ind (fun q : Nat × Int => levL2 ((dueF p base ds fr : Nat) : Int) q.2 (accF false p base ds fr q.1) q.1) (fun _ => (levM a n c a2 n2 c2 base hands k fr p (truW ds bits) (truR ds bits) (truH ps bits))) (fun q => q0 ≤ q.1 ∧ q.1 ≤ n2 ∧ accF true p base ds fr q.1 ≤ q.2 ∧ q.2 ≤ accF false p base ds fr q.1) (fun q => n2 - q.1) (q0, h0) [0, 1, 2, 3, 4, 5, 6] ⟨Nat.le_refl _, hqn, hs1, hs2⟩ rfl (by exact ⟨_, _, _, rfl, rfl, SimL.of_eq rfl by_g, nin rfl, _, _, _, rfl, rfl, SimL.of_eq rfl by_g, nin rfl, _, _, _, rfl, rfl, SimL.of_eq rfl by_g, nin rfl, _, _, _, rfl, rfl, .cons (.slice rfl rfl rfl rfl) (.cons (.slice rfl rfl rfl rfl) (.cons (.slice rfl rfl rfl rfl) .nil)), nin rfl, _, _, _, rfl, rfl, SimL.of_eq rfl (encA_gE (fun _ => rfl) _), nin rfl, _, _, _, rfl, rfl, SimL.of_eq rfl (encA_gE (fun _ => rfl) _), nin rfl, _, _, _, rfl, rfl, SimL.of_eq rfl (encA_gE (fun _ => rfl) _), nin rfl, trivial⟩) (by exact by_sbFT) ?_
  rintro ⟨d, has⟩ ⟨hd0, hdn, hlo, hhi⟩ vs ⟨ys, gy, rfl⟩ IH
  have gx := gy
  dsimp only at hd0 hdn hlo hhi
  dsimp only
  by_cases hin : d < n2
  · obtain ⟨x, hx⟩ : ∃ x, ds[d]? = some x := ⟨_, List.getElem?_eq_getElem (by omega)⟩
    have hdo := hl x (List.mem_of_getElem? hx)
    have hlv : levE ps ds base hands k fr d = 0 := by
      rw [levE, orE2_z]
      exact ⟨h1, askE_z.2 ⟨⟨hk0, hk1⟩, ⟨by omega, by omega⟩, by omega, by omega⟩⟩
    have hLv := Level_fn f base hands fr k d p hP hD hlv hk
    rw [acc_lev, acc_lev] at hLv
    have hcW := enc_get (truW_get (bits := bits) hx)
    have hcR := enc_get (truR_get (bits := bits) hx)
    have a1 := acc_step (k := true) (p := p) (base := base) (fr := fr) hx (by omega)
    have a2' := acc_step (k := false) (p := p) (base := base) (fr := fr) hx (by omega)
    have b1 := acc_in (k := true) (fr := fr) (d := d) hp hb hl (by omega) (by omega)
    have b2 := acc_in (k := false) (fr := fr) (d := d) hp hb hl (by omega) (by omega)
    have t1 := trG_in (base := base) (bits := bits) (i := d) hp.toPtOk hdo
    have hpw := pickF_in (bits := bits) (i := 2 * (d : Int)) hdo.w1
    have hpr := pickF_in (bits := bits) (i := 2 * (d : Int) + 1) hdo.r1
    have w0 := hdo.w0
    have w2 := hdo.w2
    have r0 := hdo.r0
    have r2 := hdo.r2
    simp only [gainF, mostF, trG] at a1 a2' t1
    generalize pickF bits x.wl x.wh (2 * (d : Int)) = vw at *
    generalize pickF bits x.rl x.rh (2 * (d : Int) + 1) = vr at *
    have hA := resF_in (warm := vw) hp.f0 hp.f1 hb (by omega)
    have hA1 := resF_pos (flow := p.flow) (base := base) (warm := vw)
    have hM := resF_in (warm := x.wh) hp.f0 hp.f1 hb (by omega)
    have hM1 := resF_pos (flow := p.flow) (base := base) (warm := x.wh)
    have hC := watF_in (rain := vr) hp.c0 hp.c1 (by omega) (by omega)
    have hC2 := watF_in (rain := x.rh) hp.c0 hp.c1 (by omega) (by omega)
    have hu : ∀ due : Nat, due = dueF p base ds fr → (d < due → accF false p base ds fr (d + 1) ≤ p.size) ∧ (due ≤ d → p.size < accF false p base ds fr (d + 1)) := fun due e => by
      subst e
      exact ⟨fun h => due_lt h (by omega), fun h => due_ge hp hb hl (by omega) h⟩
    have hu := hu _ rfl
    generalize dueF p base ds fr = du at *
    generalize resF p.flow base vw = rv at *
    generalize resF p.flow base x.wh = rm at *
    generalize leastF p base x = gl at *
    generalize hB1 : accF true p base ds fr (d + 1) = B1 at *
    generalize hB2 : accF false p base ds fr (d + 1) = B2 at *
    obtain ⟨b, o, ha, hc⟩ := hat2 d _ hx
    have hc0 := hc 0 _ rfl
    have hc1 := hc 1 _ rfl
    have hc2 := hc 2 _ rfl
    have hc3 := hc 3 _ rfl
    subst ha
    clear hat2
    obtain ⟨hu1, hu2⟩ := hu
    rcases Nat.lt_or_ge d du with hdd | hdd
    · have hu1 := hu1 hdd
      clear hu2
      (repeat' (first | refine J.seq ?_ | refine JP.one ?_ | refine JP.step ?_ | refine J.block ?_ | refine J.scope ?_ | (refine J.region (fun z => ?_); (conv => lhs; whnf)) | (refine J.cond rfl rfl (fun hq => ?_) (fun hq => ?_) <;> (try simp only [sbM, reduceCtorEq, frS_iff, frS_no] at hq) <;> (try (have hqt : hq = True.intro := rfl; clear hqt hq)) <;> (try (exact absurd trivial hq)) <;> (try (exfalso; omega))) | refine J.exit ?_ | refine J.ret ?_ | refine J.skip ?_ | refine J.label ?_ | (with_reducible first | refine then_normal ?_ | refine then_exit ?_ | refine then_ret ?_ | refine block_exit ?_ | refine block_normal ?_ | refine block_ret ?_ | refine block_exit_ne rfl ?_ | refine kI_go rfl ?_) | ((first | (apply t_next; focus ((conv => lhs; whnf); try exact rfl)) | refine t_forceN ?_ | refine t_addN by_o ?_ | refine t_subN by_o ?_ | refine t_mulN by_o ?_ | refine t_quo by_o by_o ?_ | refine t_rem by_o by_o ?_ | refine t_quoN by_o by_o ?_ | refine t_remN by_o ?_ | refine t_addC ?_ | refine t_subC ?_ | refine t_mulC ?_ | refine t_bRt rfl ?_ | refine t_bRf rfl ?_ | refine t_lim (k := 8) (K := 17592186044416) rfl rfl by_o ?_ | refine t_lim (k := 65536) (K := 2147483648) rfl rfl by_o ?_ | refine t_getC rfl ?_ | refine t_getC (by (first | exact hcW | exact hcR | exact hcH | assumption)) ?_ | refine t_iRp rfl ?_ | refine t_iR by_o ?_ | refine t_iRn rfl ?_ | refine t_fBt rfl ?_ | refine t_fBf rfl ?_ | refine t_fBt by_s ?_ | refine t_fBf by_s ?_ | refine t_bRt by_u ?_ | refine t_bRf by_u ?_ | refine t_oA rfl ?_ | refine t_oA by_a ?_ | refine t_old by_a by_r ?_ | refine t_readR by_a ?_ | refine t_bRt (encA_one (fun _ => rfl)) ?_ | refine t_call0 (hLv) rfl by_g rfl by_k ?_ | refine t_call0 (hwk) rfl by_g rfl by_k ?_); (conv => lhs; whnf)) | ((first | refine t_fB (fun hq => ?_) (fun hq => ?_) | refine t_bR (fun hq => ?_) (fun hq => ?_) | (first | refine t_callB (In_fn _ _ _ _) rfl by_g rfl (fun hq => ?_) (fun hq => ?_))) <;> (try simp only [sbM, reduceCtorEq, frS_iff, frS_no] at hq) <;> (try (have hqt : hq = True.intro := rfl; clear hqt hq)) <;> (try (exact absurd trivial hq)) <;> (try (exfalso; omega)) <;> (conv => lhs; whnf))))
      all_goals refine LJ.ren _ (levM a n c (some ⟨b, o, none⟩) n2 c2 base hands k fr p (truW ds bits) (truR ds bits) (truH ps bits)) [0, 1, 2, 3, 4, 5, 6] rfl (by exact ⟨_, _, _, rfl, rfl, SimL.of_eq rfl by_g, nin rfl, _, _, _, rfl, rfl, SimL.of_eq rfl by_g, nin rfl, _, _, _, rfl, rfl, SimL.of_eq rfl by_g, nin rfl, _, _, _, rfl, rfl, .cons (.slice rfl rfl rfl rfl) (.cons (.slice rfl rfl rfl rfl) (.cons (.slice rfl rfl rfl rfl) .nil)), nin rfl, _, _, _, rfl, rfl, SimL.of_eq rfl (encA_gE (fun _ => rfl) _), nin rfl, _, _, _, rfl, rfl, SimL.of_eq rfl (encA_gE (fun _ => rfl) _), nin rfl, _, _, _, rfl, rfl, SimL.of_eq rfl (encA_gE (fun _ => rfl) _), nin rfl, trivial⟩) (by exact by_sbFT) (IH (d + 1, has + (rv + p.catc * vr)) ⟨by dsimp only; omega, by dsimp only; omega, by dsimp only; omega, by dsimp only; omega⟩ (by dsimp only; omega))
    · have hu2 := hu2 hdd
      clear hu1
      (repeat' (first | refine J.seq ?_ | refine JP.one ?_ | refine JP.step ?_ | refine J.block ?_ | refine J.scope ?_ | (refine J.region (fun z => ?_); (conv => lhs; whnf)) | (refine J.cond rfl rfl (fun hq => ?_) (fun hq => ?_) <;> (try simp only [sbM, reduceCtorEq, frS_iff, frS_no] at hq) <;> (try (have hqt : hq = True.intro := rfl; clear hqt hq)) <;> (try (exact absurd trivial hq)) <;> (try (exfalso; omega))) | refine J.exit ?_ | refine J.ret ?_ | refine J.skip ?_ | refine J.label ?_ | (with_reducible first | refine then_normal ?_ | refine then_exit ?_ | refine then_ret ?_ | refine block_exit ?_ | refine block_normal ?_ | refine block_ret ?_ | refine block_exit_ne rfl ?_ | refine kI_go rfl ?_) | ((first | (apply t_next; focus ((conv => lhs; whnf); try exact rfl)) | refine t_forceN ?_ | refine t_addN by_o ?_ | refine t_subN by_o ?_ | refine t_mulN by_o ?_ | refine t_quo by_o by_o ?_ | refine t_rem by_o by_o ?_ | refine t_quoN by_o by_o ?_ | refine t_remN by_o ?_ | refine t_addC ?_ | refine t_subC ?_ | refine t_mulC ?_ | refine t_bRt rfl ?_ | refine t_bRf rfl ?_ | refine t_lim (k := 8) (K := 17592186044416) rfl rfl by_o ?_ | refine t_lim (k := 65536) (K := 2147483648) rfl rfl by_o ?_ | refine t_getC rfl ?_ | refine t_getC (by (first | exact hcW | exact hcR | exact hcH | assumption)) ?_ | refine t_iRp rfl ?_ | refine t_iR by_o ?_ | refine t_iRn rfl ?_ | refine t_fBt rfl ?_ | refine t_fBf rfl ?_ | refine t_fBt by_s ?_ | refine t_fBf by_s ?_ | refine t_bRt by_u ?_ | refine t_bRf by_u ?_ | refine t_oA rfl ?_ | refine t_oA by_a ?_ | refine t_old by_a by_r ?_ | refine t_readR by_a ?_ | refine t_bRt (encA_one (fun _ => rfl)) ?_ | refine t_call0 (hLv) rfl by_g rfl by_k ?_ | refine t_call0 (hwk) rfl by_g rfl by_k ?_); (conv => lhs; whnf)) | ((first | refine t_fB (fun hq => ?_) (fun hq => ?_) | refine t_bR (fun hq => ?_) (fun hq => ?_) | (first | refine t_callB (In_fn _ _ _ _) rfl by_g rfl (fun hq => ?_) (fun hq => ?_))) <;> (try simp only [sbM, reduceCtorEq, frS_iff, frS_no] at hq) <;> (try (have hqt : hq = True.intro := rfl; clear hqt hq)) <;> (try (exact absurd trivial hq)) <;> (try (exfalso; omega)) <;> (conv => lhs; whnf))))
      all_goals refine LJ.ren _ (levM a n c (some ⟨b, o, none⟩) n2 c2 base hands k fr p (truW ds bits) (truR ds bits) (truH ps bits)) [0, 1, 2, 3, 4, 5, 6] rfl (by exact ⟨_, _, _, rfl, rfl, SimL.of_eq rfl by_g, nin rfl, _, _, _, rfl, rfl, SimL.of_eq rfl by_g, nin rfl, _, _, _, rfl, rfl, SimL.of_eq rfl by_g, nin rfl, _, _, _, rfl, rfl, .cons (.slice rfl rfl rfl rfl) (.cons (.slice rfl rfl rfl rfl) (.cons (.slice rfl rfl rfl rfl) .nil)), nin rfl, _, _, _, rfl, rfl, SimL.of_eq rfl (encA_gE (fun _ => rfl) _), nin rfl, _, _, _, rfl, rfl, SimL.of_eq rfl (encA_gE (fun _ => rfl) _), nin rfl, _, _, _, rfl, rfl, SimL.of_eq rfl (encA_gE (fun _ => rfl) _), nin rfl, trivial⟩) (by exact by_sbFT) (IH (d + 1, has + (rv + p.catc * vr)) ⟨by dsimp only; omega, by dsimp only; omega, by dsimp only; omega, by dsimp only; omega⟩ (by dsimp only; omega))
  · obtain rfl : d = n2 := by omega
    (repeat' (first | refine J.seq ?_ | refine JP.one ?_ | refine JP.step ?_ | refine J.block ?_ | refine J.scope ?_ | (refine J.region (fun z => ?_); (conv => lhs; whnf)) | (refine J.cond rfl rfl (fun hq => ?_) (fun hq => ?_) <;> (try simp only [sbM, reduceCtorEq, frS_iff, frS_no] at hq) <;> (try (have hqt : hq = True.intro := rfl; clear hqt hq)) <;> (try (exact absurd trivial hq)) <;> (try (exfalso; omega))) | refine J.exit ?_ | refine J.ret ?_ | refine J.skip ?_ | refine J.label ?_ | (with_reducible first | refine then_normal ?_ | refine then_exit ?_ | refine then_ret ?_ | refine block_exit ?_ | refine block_normal ?_ | refine block_ret ?_ | refine block_exit_ne rfl ?_ | refine kI_go rfl ?_) | ((first | (apply t_next; focus ((conv => lhs; whnf); try exact rfl)) | refine t_forceN ?_ | refine t_addN by_o ?_ | refine t_subN by_o ?_ | refine t_mulN by_o ?_ | refine t_quo by_o by_o ?_ | refine t_rem by_o by_o ?_ | refine t_quoN by_o by_o ?_ | refine t_remN by_o ?_ | refine t_addC ?_ | refine t_subC ?_ | refine t_mulC ?_ | refine t_bRt rfl ?_ | refine t_bRf rfl ?_ | refine t_lim (k := 8) (K := 17592186044416) rfl rfl by_o ?_ | refine t_lim (k := 65536) (K := 2147483648) rfl rfl by_o ?_ | refine t_getC rfl ?_ | refine t_getC (by (first | exact hcW | exact hcR | exact hcH | assumption)) ?_ | refine t_iRp rfl ?_ | refine t_iR by_o ?_ | refine t_iRn rfl ?_ | refine t_fBt rfl ?_ | refine t_fBf rfl ?_ | refine t_fBt by_s ?_ | refine t_fBf by_s ?_ | refine t_bRt by_u ?_ | refine t_bRf by_u ?_ | refine t_oA rfl ?_ | refine t_oA by_a ?_ | refine t_old by_a by_r ?_ | refine t_readR by_a ?_ | refine t_bRt (encA_one (fun _ => rfl)) ?_ | refine t_call0 (hLv) rfl by_g rfl by_k ?_ | refine t_call0 (hwk) rfl by_g rfl by_k ?_); (conv => lhs; whnf)) | ((first | refine t_fB (fun hq => ?_) (fun hq => ?_) | refine t_bR (fun hq => ?_) (fun hq => ?_) | (first | refine t_callB (In_fn _ _ _ _) rfl by_g rfl (fun hq => ?_) (fun hq => ?_))) <;> (try simp only [sbM, reduceCtorEq, frS_iff, frS_no] at hq) <;> (try (have hqt : hq = True.intro := rfl; clear hqt hq)) <;> (try (exact absurd trivial hq)) <;> (try (exfalso; omega)) <;> (conv => lhs; whnf))))
    (refine endG trivial rfl rfl by_g ?_; (conv => lhs; whnf))
end
end Go.Proofs.Ytpaabfecoghibaa
