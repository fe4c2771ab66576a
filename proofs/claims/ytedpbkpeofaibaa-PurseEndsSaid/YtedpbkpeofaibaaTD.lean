/- A run's steps, where numbers and lists are whatever they are, and memory that was there before is read. Over any program. Conditions: as each law says. -/
import Derived.Test.YtedpbkpeofaibaaTC
namespace Go.Proofs.Ytedpbkpeofaibaa
open Go Go.RowKit
set_option linter.unusedSimpArgs false
set_option linter.unusedVariables false
/-- Tests, plainly. -/
theorem sbL : (∀ a b : Int, ltI a b = decide (a < b)) ∧ (∀ a b : Int, leI a b = decide (a ≤ b)) ∧ (∀ a b : Int, eqI a b = (a == b)) ∧ (∀ a b : Nat, (Nat.ble a b = true) = (a ≤ b)) ∧ (∀ a b : Nat, (Nat.beq a b = true) = (a = b)) ∧
    (∀ b : Bool, ((!b) = true) = (b = false)) ∧ (∀ b : Bool, ((!b) = false) = (b = true)) ∧ ((!true) = false) ∧ ((!false) = true) ∧ (∀ n : Nat, Int.ofNat n = (n : Int)) ∧ (∀ n : Nat, Nat.succ n = n + 1) ∧ (∀ a b : Nat, Nat.add a b = a + b) ∧ (∀ a b : Nat, Nat.sub a b = a - b) ∧ (∀ a b : Nat, Nat.mul a b = a * b) ∧
    (∀ a b : Int, (¬ a < b) ↔ b ≤ a) ∧ (∀ a b : Int, (¬ a ≤ b) ↔ b < a) ∧ (∀ a b : Nat, (¬ a < b) ↔ b ≤ a) ∧ (∀ a b : Nat, (¬ a ≤ b) ↔ b < a) :=
  ⟨fun a b => ltI_eq a b, fun a b => leI_eq a b, fun a b => eqI_eq a b, fun a b => Nat.ble_eq, fun a b => Nat.beq_eq, fun b => by simp, fun b => by simp, rfl, rfl, fun _ => rfl, fun _ => rfl, fun _ _ => rfl, fun _ _ => rfl, fun _ _ => rfl, fun _ _ => Int.not_lt, fun _ _ => Int.not_le, fun _ _ => Nat.not_lt, fun _ _ => Nat.not_le⟩
section
variable {r y n : An}
theorem t_addC {_ : Orc} {a b : Int} {y : Int → An} (h : y (IntKind.i64.wrap (a + b)) = r) : addC a b y = r := (addC_eq a b y).trans h
theorem t_subC {_ : Orc} {a b : Int} {y : Int → An} (h : y (IntKind.i64.wrap (a - b)) = r) : subC a b y = r := (subC_eq a b y).trans h
theorem t_mulC {_ : Orc} {a b : Int} {y : Int → An} (h : y (IntKind.i64.wrap (a * b)) = r) : mulC a b y = r := (mulC_eq a b y).trans h
theorem t_forceB {_ : Orc} {b : Bool} {y : Bool → An} (h : y b = r) : forceB b y = r := (forceB_eq b y).trans h
theorem t_fB {_ : Orc} {b : Bool} {y : Bool → An} (h : b = true → y true = r) (h' : b = false → y false = r) : forceB b y = r := by
  rw [forceB_eq]
  cases b
  · exact h' rfl
  · exact h rfl
theorem t_fBt {_ : Orc} {b : Bool} {y : Bool → An} (e : b = true) (h : y true = r) : forceB b y = r := by rw [forceB_eq, e]; exact h
theorem t_fBf {_ : Orc} {b : Bool} {y : Bool → An} (e : b = false) (h : y false = r) : forceB b y = r := by rw [forceB_eq, e]; exact h
theorem t_forceN {_ : Orc} {b : Nat} {y : Nat → An} (h : y b = r) : forceN b y = r := (forceN_eq b y).trans h
theorem t_next {_ : Orc} {h : SH} {n : Nat} {y : Nat → An} (e : h.next = n) (k : y n = r) : nextC h y = r := by rw [nextC_eq, e]; exact k
theorem t_bR {_ : Orc} {b : Bool} (h : b = true → y = r) (h' : b = false → n = r) : bR b y n = r := by
  cases b
  · rw [bR_eq]; exact h' rfl
  · rw [bR_eq]; exact h rfl
theorem t_bRt {_ : Orc} {b : Bool} (hb : b = true) (h : y = r) : bR b y n = r := by subst hb; rw [bR_eq]; exact h
theorem t_bRf {_ : Orc} {b : Bool} (hb : b = false) (h : n = r) : bR b y n = r := by subst hb; rw [bR_eq]; exact h
theorem t_cond {b : Bool} (h : b = true → y = r) (h' : b = false → n = r) : cond b y n = r := by
  cases b
  · exact h' rfl
  · exact h rfl
theorem t_condt {b : Bool} (hb : b = true) (h : y = r) : cond b y n = r := by subst hb; exact h
theorem t_condf {b : Bool} (hb : b = false) (h : n = r) : cond b y n = r := by subst hb; exact h
theorem t_getC {_ : Orc} {l : List Value} {i : Nat} {v : Value} {y : Value → An} (e : l[i]? = some v) (h : y v = r) : getC l y n i = r := by rw [getC_eq, e]; exact h
theorem t_iRp {_ : Orc} {a : Int} {m : Nat} {p q : Nat → An} (e : a = Int.ofNat m) (h : p m = r) : iR a p q = r := by subst e; rw [iR_eq]; exact h
theorem t_iRn {_ : Orc} {a : Int} {m : Nat} {p q : Nat → An} (e : a = Int.negSucc m) (h : q m = r) : iR a p q = r := by subst e; rw [iR_eq]; exact h
theorem t_iR {_ : Orc} {a : Int} {p q : Nat → An} (e : 0 ≤ a) (h : p a.toNat = r) : iR a p q = r := by
  obtain ⟨m, rfl⟩ := Int.eq_ofNat_of_zero_le e
  rw [iR_eq]; exact h
end
theorem t_addN {_ : Orc} {a b : Int} {y : Int → An} {r : An} (hb : -9223372036854775808 ≤ a + b ∧ a + b ≤ 9223372036854775807) (h : y (a + b) = r) : addC a b y = r := by rw [addC_eq, wrap_in hb]; exact h
theorem t_subN {_ : Orc} {a b : Int} {y : Int → An} {r : An} (hb : -9223372036854775808 ≤ a - b ∧ a - b ≤ 9223372036854775807) (h : y (a - b) = r) : subC a b y = r := by rw [subC_eq, wrap_in hb]; exact h
theorem t_mulN {_ : Orc} {a b : Int} {y : Int → An} {r : An} (hb : -9223372036854775808 ≤ a * b ∧ a * b ≤ 9223372036854775807) (h : y (a * b) = r) : mulC a b y = r := by rw [mulC_eq, wrap_in hb]; exact h
theorem t_quo {_ : Orc} {a b : Int} {y : Int → An} {n r : An} (ha : 0 ≤ a ∧ a ≤ 9223372036854775807) (hb : 0 < b) (h : y (a / b) = r) : quoI a b y n = r := by rw [quoI_eq, if_pos ⟨hb, by omega, ha.2⟩, Int.tdiv_eq_ediv_of_nonneg ha.1]; exact h
theorem t_quoN {_ : Orc} {a b : Int} {y : Int → An} {n r : An} (ha : -9223372036854775808 ≤ a ∧ a ≤ 9223372036854775807) (hb : 0 < b) (h : y (a.tdiv b) = r) : quoI a b y n = r := by rw [quoI_eq, if_pos ⟨hb, ha⟩]; exact h
theorem t_rem {_ : Orc} {a b : Int} {y : Int → An} {n r : An} (ha : 0 ≤ a) (hb : 0 < b) (h : y (a % b) = r) : remI a b y n = r := by rw [remI_eq, if_pos hb, Int.tmod_eq_emod_of_nonneg ha]; exact h
theorem t_remN {_ : Orc} {a b : Int} {y : Int → An} {n r : An} (hb : 0 < b) (h : y (a.tmod b) = r) : remI a b y n = r := by rw [remI_eq, if_pos hb]; exact h
theorem t_oA {_ : Orc} {x : Option Addr} {a : Addr} {no : An} {yes : Addr → An} {r : An} (e : x = some a) (h : yes a = r) : oA x no yes = r := by subst e; rw [oA_eq]; exact h
theorem t_old {_ : Orc} {x : Option Value} {v : Value} {yes : Value → An} {no r : An} (e : x = some v) (hg : gr 6 v = true) (h : yes v = r) : oldC x yes no = r := by rw [oldC_eq, e]; simp only [hg, cond_true]; exact h
section
variable {P : Program} {f : Nat → Nat → Option Value} {m : Nat}
theorem J.skip {ts : Fr} {h : SH} {K : KP} (k : K .normal ts h) : J P f m .skip ts h K := J.run fun _ => kI_of ⟨rfl, k⟩
theorem J.exit {i : Nat} {ts : Fr} {h : SH} {K : KP} (k : K (.exit i) ts h) : J P f m (.exit i) ts h K := J.run fun _ => kI_of ⟨rfl, k⟩
theorem J.ret {ts : Fr} {h : SH} {K : KP} (k : K .ret ts h) : J P f m .ret ts h K := J.run fun _ => kI_of ⟨rfl, k⟩
theorem J.label {i : Nat} {ts : Fr} {h : SH} {K : KP} (k : K .normal ts h) : J P f m (.label i) ts h K := J.run fun _ => kI_of ⟨rfl, k⟩
theorem J.region {id : Nat} {ops : Array Oper} {draw : Bool} {ts : Fr} {h : SH} {K : KP} (e : ∀ z, (@codeW (orcS z) P (glF f) (.region id ops draw)).run (rcI P f) none (List.range m) ts [] h (fun e ts' ds' h' => kI (ds' = [] ∧ K e ts' h')) = some (.bool true)) : J P f m (.region id ops draw) ts h K := J.run e
/-- A call whose end is known, of values without new blocks. -/
theorem t_callG (O : Orc) {frz : List Nat} {g : FuncId} {args args0 : List Value} {h : SH} {k : KV} {x : Res} (hx : FnR P f g args0 x) (ea : args = args0) (ha : args0.all (gr 6) = true) (hl : frzLive h frz = true) (hp : x.rows.all (fun r => r.2.all (gr 6)) = true) (ho : shOk 4 x.v = true)
    (hk : nextC h (fun n => k (shV n 4 x.v) (memSH x.rows h)) = some (.bool true)) : callI P (glF f) frz g args h k = some (.bool true) := by
  subst ea
  rw [nextC_eq] at hk
  unfold callI
  refine if_pos ⟨_, _, hk, hx.1, fun N μ w args' d hr => ?_⟩
  have : args' = ⟨args⟩ := Array.toList_inj.1 (hr.eq ha)
  subst this
  exact FnR.call d hl (hx.2 w d.glob.2.2) hp ho
/-- .. that comes to a value without blocks. -/
theorem t_call0 {frz : List Nat} {g : FuncId} {args args0 : List Value} {h : SH} {k : KV} {v : Value} (hx : FnR P f g args0 ⟨v, []⟩) (ea : args = args0) (ha : args0.all (gr 6) = true) (hl : frzLive h frz = true) (ho : gr 6 v = true)
    (hk : k v h = some (.bool true)) : callI P (glF f) frz g args h k = some (.bool true) := by
  subst ea
  unfold callI
  refine if_pos ⟨v, h, hk, hx.1, fun N μ w args' d hr => ?_⟩
  have : args' = ⟨args⟩ := Array.toList_inj.1 (hr.eq ha)
  subst this
  refine (hx.2 w d.glob.2.2).mono ?_
  rintro e w' ⟨ν, v', rfl, hb, hv, _⟩
  obtain rfl := hv.eq ho
  refine ⟨μ, v', rfl, ⟨Mu.le_refl _, d.below hb, ⟨hb.mono d.base.1, fun k hk => hb.block _ (d.base.2 k hk)⟩, fun k hk b κ hm => ?_⟩, .ground ho⟩
  obtain ⟨sb, hsb⟩ := Option.isSome_iff_exists.1 (List.all_eq_true.1 hl k hk)
  obtain ⟨b0, κ0, q1, _, q3⟩ := (d.blk k sb hsb).at
  rw [hm] at q1; cases q1
  exact hb.block _ q3
/-- .. to a Bool. -/
theorem t_callB {frz : List Nat} {g : FuncId} {args args0 : List Value} {h : SH} {k : KV} {b : Bool} (hx : FnR P f g args0 ⟨.bool b, []⟩) (ea : args = args0) (ha : args0.all (gr 6) = true) (hl : frzLive h frz = true)
    (h1 : b = true → k (.bool true) h = some (.bool true)) (h2 : b = false → k (.bool false) h = some (.bool true)) : callI P (glF f) frz g args h k = some (.bool true) :=
  t_call0 hx ea ha hl rfl (by cases b; exact h2 rfl; exact h1 rfl)
end
/-- Values whose blocks are looked at: each in a row that is there. -/
def rlV (hh : SH) : Nat → Value → Prop
  | 0, v => gr 6 v = true
  | d + 1, v => match v with
    | .pointer (some a) => match a.spot with
      | none => True
      | some _ => ∃ t cs fam, hh.tr.get a.block = some (.row t cs fam)
    | .slice (some a) _ _ => match a.spot with
      | none => True
      | some 2 => True
      | some _ => ∃ t cs fam, hh.tr.get a.block = some (.row t cs fam)
    | .agg cs => ∀ x ∈ cs.toList, rlV hh d x
    | .func (.func _) a b => (∀ x ∈ a.toList, rlV hh d x) ∧ ∀ x ∈ b.toList, rlV hh d x
    | v => gr 6 v = true
mutual
/-- A value with blocks of new rows, and a true one whose memory is read. -/
inductive RealV (f : Nat → Nat → Option Value) (hh : SH) : Value → Value → Prop
  | ground {v : Value} (hg : gr 6 v = true) : RealV f hh v v
  | ptr {j off b : Nat} {t : TypeId} {cs : List Value} {fam : Nat} (hj : hh.tr.get j = some (.row t cs fam)) (hc : cs.all (gr 6) = true → ∀ i v, cs[i]? = some v → f b i = some v) : RealV f hh (.pointer (some ⟨j, off, some 0⟩)) (.pointer (some ⟨b, off, none⟩))
  | slice {j off s b n c c' : Nat} {t : TypeId} {cs : List Value} {fam : Nat} (hj : hh.tr.get j = some (.row t cs fam)) (hc : cs.all (gr 6) = true → ∀ i v, cs[i]? = some v → f b i = some v) (hn : s = 1 ∨ s = 3 → n ≤ c') (h0 : s = 0 → c = c') : RealV f hh (.slice (some ⟨j, off, some s⟩) n c) (.slice (some ⟨b, off, none⟩) n c')
  | empty {a : Addr} {j off c c' : Nat} : RealV f hh (.slice (some ⟨j, off, some 2⟩) 0 c) (.slice (some a) 0 c')
  | agg {l l' : List Value} (h : RealL f hh l l') : RealV f hh (.agg ⟨l⟩) (.agg ⟨l'⟩)
  | func {g : FuncId} {l l' c c' : List Value} (h1 : RealL f hh l l') (h2 : RealL f hh c c') : RealV f hh (.func (.func g) ⟨l⟩ ⟨c⟩) (.func (.func g) ⟨l'⟩ ⟨c'⟩)
inductive RealL (f : Nat → Nat → Option Value) (hh : SH) : List Value → List Value → Prop
  | nil : RealL f hh [] []
  | cons {v v' : Value} {l l' : List Value} (h1 : RealV f hh v v') (h2 : RealL f hh l l') : RealL f hh (v :: l) (v' :: l')
end
section
variable {P : Program} {f : Nat → Nat → Option Value} {N : Lim} {μ : Mu} {h : SH} {w : World}
theorem row_cells (d : Den P N (glF f) μ h w) {j b κ fam : Nat} {t : TypeId} {cs : List Value} (hj : h.tr.get j = some (.row t cs fam)) (hm : μ j = some (b, κ)) (hg : cs.all (gr 6) = true) : ∀ i v, cs[i]? = some v → w.cell? ⟨b, i, none⟩ = some v := fun i v hv => by
  obtain ⟨b0, κ0, cur, sz, h1, h2, h3, h4, h5, h6, h7⟩ := d.blk j _ hj
  rw [hm] at h1; cases h1
  have e := h7.eq hg
  simp only [World.cell?, h3]
  rw [← e, List.getElem?_take] at hv
  split at hv
  · simpa using hv
  · cases hv
theorem real_list {dep : Nat} (ih : ∀ v v', rlV h dep v → Rel μ v v' → RealV (fun b o => w.cell? ⟨b, o, none⟩) h v v') : ∀ {l l' : List Value}, (∀ x ∈ l, rlV h dep x) → RelL μ l l' → RealL (fun b o => w.cell? ⟨b, o, none⟩) h l l'
  | _, _, _, .nil => .nil
  | _, _, hl, .cons r t => .cons (ih _ _ (hl _ (by simp)) r) (real_list ih (fun x hx => hl x (by simp [hx])) t)
theorem real_of (d : Den P N (glF f) μ h w) : ∀ (dep : Nat) (v v' : Value), rlV h dep v → Rel μ v v' → RealV (fun b o => w.cell? ⟨b, o, none⟩) h v v'
  | 0, v, v', ho, r => by rw [r.eq ho]; exact .ground ho
  | dep + 1, v, v', ho, r => by
    cases r with
    | ground hg => exact .ground hg
    | ptr hm =>
      obtain ⟨t, cs, fam, hj⟩ := ho
      exact .ptr hj (fun hg => row_cells d hj hm hg)
    | slice hm =>
      obtain ⟨t, cs, fam, hj⟩ := ho
      exact .slice hj (fun hg => row_cells d hj hm hg) (fun e => by omega) (fun _ => rfl)
    | sliceO hm hn =>
      obtain ⟨t, cs, fam, hj⟩ := ho
      exact .slice hj (fun hg => row_cells d hj hm hg) (fun _ => hn) (fun e => by omega)
    | sliceE => exact .empty
    | sliceA hm hn =>
      obtain ⟨t, cs, fam, hj⟩ := ho
      exact .slice hj (fun hg => row_cells d hj hm hg) (fun _ => hn) (fun e => by omega)
    | map hm => simp [rlV, gr] at ho
    | yield hm => simp [rlV, gr] at ho
    | func h1 h2 => exact .func (real_list (real_of d dep) ho.1 h1) (real_list (real_of d dep) ho.2 h2)
    | agg h1 => exact .agg (real_list (real_of d dep) ho h1)
    | tuple h1 => have ho : gr 6 (.tuple _) = true := ho; rw [(Rel.tuple h1).eq ho]; exact .ground ho
    | iface h1 => have ho : gr 6 (.iface _ _) = true := ho; rw [(Rel.iface h1).eq ho]; exact .ground ho
/-- A call whose end is known, of values that may have blocks of new rows. -/
theorem t_callL (O : Orc) {frz : List Nat} {g : FuncId} {args : List Value} {h : SH} {k : KV} {x : Res} (hok : (finfo P g).ok = true)
    (hx : ∀ (f' : Nat → Nat → Option Value) (args' : List Value), (∀ b o v, f b o = some v → f' b o = some v) → RealL f' h args args' → FnR P f' g args' x) (ha : ∀ y ∈ args, rlV h 5 y) (hl : frzLive h frz = true) (hp : x.rows.all (fun r => r.2.all (gr 6)) = true) (ho : shOk 4 x.v = true)
    (hk : nextC h (fun n => k (shV n 4 x.v) (memSH x.rows h)) = some (.bool true)) : callI P (glF f) frz g args h k = some (.bool true) := by
  rw [nextC_eq] at hk
  unfold callI
  refine if_pos ⟨_, _, hk, ent_of_ok hok, fun N μ w args' d hr => ?_⟩
  have hf := hx (fun b o => w.cell? ⟨b, o, none⟩) args'.toList (fun b o v e => d.glob.2.2 b o v e) (real_list (real_of d 5) ha hr)
  exact FnR.call d hl (hf.2 w (fun b o v e => e)) hp ho
end
section
variable {P : Program} {f : Nat → Nat → Option Value}
def notLoop : Code → Bool
  | .loop _ => false
  | _ => true
end
/-- **A loop**, by what holds at its rounds' starts. -/
theorem LJ.ind {P : Program} {f : Nat → Nat → Option Value} {m : Nat} {x : Code} {ts : Fr} {h : SH} {K : KP} {α : Type} (L : α → List (Option Value)) (M : α → List (TypeId × List Value)) (Inv : α → Prop) (meas : α → Nat) (a0 : α) (s : List Nat) (h0 : Inv a0)
    (hM : (M a0).length = m + s.length) (hr : RowsOk (rhoOf m s) h (M a0) 0 []) (hs : SlotsN (rhoOf m s) (L a0) ts)
    (step : ∀ a, Inv a → ∀ vs, MatchL (L a) vs → (∀ a', Inv a' → meas a' < meas a → ∀ vs, MatchL (L a') vs → LJ P f m x (frL (L a').length vs) (memSH (M a') sh0) K) →
      J P f m x (frL (L a).length vs) (memSH (M a) sh0) (KP.then (fun ts h => LJ P f m x ts h K) K)) : LJ P f m x ts h K := by
  have H : ∀ n a, meas a < n → Inv a → ∀ vs, MatchL (L a) vs → LJ P f m x (frL (L a).length vs) (memSH (M a) sh0) K := by
    intro n
    induction n with
    | zero => intro a ha; omega
    | succ n ih => intro a ha hI vs hv; exact LJ.round (step a hI vs hv fun a' hI' hm vs' hv' => ih a' (by omega) hI' vs' hv')
  exact LJ.ren (L a0) (M a0) s hM hr hs fun vs hv => H _ a0 (Nat.lt_succ_self _) h0 vs hv
/-- What is said of a run's end. -/
theorem kI_go {K : KP} {e : SE} {ts : Fr} {ds : List Nat} {h : SH} (hd : ds = []) (hk : K e ts h) : kI (ds = [] ∧ K e ts h) = some (.bool true) := kI_of ⟨hd, hk⟩
theorem then_normal {n : Fr → SH → Prop} {K : KP} {ts : Fr} {h : SH} (hk : n ts h) : KP.then n K .normal ts h := hk
theorem then_exit {n : Fr → SH → Prop} {K : KP} {i : Nat} {ts : Fr} {h : SH} (hk : K (.exit i) ts h) : KP.then n K (.exit i) ts h := hk
theorem then_ret {n : Fr → SH → Prop} {K : KP} {ts : Fr} {h : SH} (hk : K .ret ts h) : KP.then n K .ret ts h := hk
theorem block_exit {id : Nat} {K : KP} {ts : Fr} {h : SH} (hk : K .normal ts h) : KP.block id K (.exit id) ts h := ⟨fun _ => hk, fun hn => absurd rfl hn⟩
theorem block_normal {id : Nat} {K : KP} {ts : Fr} {h : SH} (hk : K .normal ts h) : KP.block id K .normal ts h := hk
theorem block_ret {id : Nat} {K : KP} {ts : Fr} {h : SH} (hk : K .ret ts h) : KP.block id K .ret ts h := hk
theorem block_exit_ne {id i : Nat} {K : KP} {ts : Fr} {h : SH} (hn : Nat.beq i id = false) (hk : K (.exit i) ts h) : KP.block id K (.exit i) ts h := ⟨fun e => (by rw [e, Nat.beq_refl] at hn; cases hn), fun _ => hk⟩
theorem tup2 {a a' b b' : Value} (h1 : a = a') (h2 : b = b') : Value.tuple ⟨[a, b]⟩ = .tuple ⟨[a', b']⟩ := by subst h1 h2; rfl
theorem tup3 {a a' b b' c c' : Value} (h1 : a = a') (h2 : b = b') (h3 : c = c') : Value.tuple ⟨[a, b, c]⟩ = .tuple ⟨[a', b', c']⟩ := by subst h1 h2 h3; rfl
/-- A function's end, with a value without blocks. -/
theorem endG {P : Program} {f : Nat → Nat → Option Value} {g : FuncId} {x : Res} {e : SE} {ts : Fr} {h : SH} {v : Value} (he : notExit e) (hs : sResults P (glF f) h (finfo P g).res ts = some v) (hr : x.rows = []) (hg : gr 6 x.v = true) (hv : v = x.v) : EndF P f g x e ts h := by
  subst hv
  exact ⟨he, _, [], hs, by rw [hr]; rfl, by rw [hr]; trivial, .ground hg⟩
/-- .. with rows. -/
theorem endN {P : Program} {f : Nat → Nat → Option Value} {g : FuncId} {x : Res} {e : SE} {ts : Fr} {h : SH} {v : Value} (js : List Nat) (he : notExit e) (hs : sResults P (glF f) h (finfo P g).res ts = some v) (hj : js.length = x.rows.length) (hr : RowsOk (fun j => js[j]?) h x.rows 0 []) (hv : SimV (fun j => js[j]?) x.v v) : EndF P f g x e ts h := ⟨he, v, js, hs, hj, hr, hv⟩
end Go.Proofs.Ytedpbkpeofaibaa
