/- PotDays: no plan that keeps a pot empties it less often than its need. Conditions: as each theorem says. -/
import Derived.Test.YtpaabfecoghibaaPQ
import Derived.Test.YtpaabfecoghibaaFM
namespace Go.Proofs.Ytpaabfecoghibaa
open Go Go.RowKit
set_option linter.unusedSimpArgs false
set_option linter.unusedVariables false
/-- With these emptyings it does not run over. -/
def keepsL (s : Int) : List Int → List Bool → Int → Prop
  | [], _, _ => True
  | g :: gs, es, a => (if es.headD false then 0 else a) + g ≤ s ∧ keepsL s gs es.tail ((if es.headD false then 0 else a) + g)
def cntL : List Int → List Bool → Nat
  | [], _ => 0
  | _ :: gs, es => (if es.headD false then 1 else 0) + cntL gs es.tail
theorem keepsL_cons {s g a : Int} {gs : List Int} {b : Bool} {es : List Bool} : keepsL s (g :: gs) (b :: es) a = ((if b then 0 else a) + g ≤ s ∧ keepsL s gs es ((if b then 0 else a) + g)) := rfl
theorem cntL_cons {g : Int} {gs : List Int} {b : Bool} {es : List Bool} : cntL (g :: gs) (b :: es) = (if b then 1 else 0) + cntL gs es := rfl
/-- What waits as long as it can is never behind. -/
theorem run_ahead {s : Int} : ∀ (L : List Int) (es : List Bool) (a h : Int), (∀ g ∈ L, 0 ≤ g) → 0 ≤ a → keepsL s L es a →
    (h ≤ a → ∃ m, runN s L h = some m ∧ m ≤ cntL L es) ∧ ∃ m, runN s L h = some m ∧ m ≤ cntL L es + 1
  | [], es, a, h, _, _, _ => ⟨fun _ => ⟨0, rfl, Nat.zero_le _⟩, ⟨0, rfl, Nat.zero_le _⟩⟩
  | g :: gs, es, a, h, hg, ha, ⟨h1, h2⟩ => by
    have hg0 := hg g List.mem_cons_self
    generalize hb : es.headD false = b at h1 h2
    have hgs := fun x hx => hg x (List.mem_cons_of_mem _ hx)
    have ha' : 0 ≤ (if b then 0 else a) + g := by cases b <;> simp <;> omega
    have ih := fun h => run_ahead gs es.tail _ h hgs ha' h2
    have hge : g ≤ (if b then 0 else a) + g := by cases b <;> simp <;> omega
    have hns : ¬ s < g := by omega
    simp only [cntL, runN, if_neg hns, hb]
    constructor
    · intro hle
      by_cases hov : s < h + g
      · rw [if_pos hov]
        cases b with
        | false => simp only [Bool.false_eq_true, if_false] at h1; omega
        | true =>
          obtain ⟨m, hm1, hm2⟩ := (ih g).1 (by simp)
          exact ⟨m + 1, by rw [hm1]; rfl, by simp; omega⟩
      · rw [if_neg hov]
        cases b with
        | false =>
          obtain ⟨m, hm1, hm2⟩ := (ih (h + g)).1 (by simp only [Bool.false_eq_true, if_false]; omega)
          exact ⟨m, hm1, by simp; omega⟩
        | true =>
          obtain ⟨m, hm1, hm2⟩ := (ih (h + g)).2
          exact ⟨m, hm1, by simp; omega⟩
    · by_cases hov : s < h + g
      · rw [if_pos hov]
        obtain ⟨m, hm1, hm2⟩ := (ih g).1 hge
        exact ⟨m + 1, by rw [hm1]; rfl, by omega⟩
      · rw [if_neg hov]
        obtain ⟨m, hm1, hm2⟩ := (ih (h + g)).2
        exact ⟨m, hm1, by omega⟩
theorem runN_snoc {s g : Int} : ∀ (L : List Int) (h : Int), (runN s L h = none → runN s (L ++ [g]) h = none) ∧ ∀ m, runN s L h = some m → runN s (L ++ [g]) h = none ∨ runN s (L ++ [g]) h = some m ∨ runN s (L ++ [g]) h = some (m + 1)
  | [], h => by
    refine ⟨fun e => by simp [runN] at e, fun m e => ?_⟩
    simp only [runN, Option.some.injEq] at e
    subst e
    simp only [List.nil_append, runN]
    split
    · exact .inl rfl
    · split
      · exact .inr (.inr rfl)
      · exact .inr (.inl rfl)
  | x :: L, h => by
    simp only [List.cons_append, runN]
    split
    · exact ⟨fun _ => rfl, fun m e => by cases e⟩
    · split
      · obtain ⟨h1, h2⟩ := runN_snoc (s := s) (g := g) L x
        refine ⟨fun e => ?_, fun m e => ?_⟩
        · rw [h1 (by simpa using e)]; rfl
        · obtain ⟨k, hk, rfl⟩ := Option.map_eq_some_iff.1 e
          rcases h2 k hk with q | q | q
          · exact .inl (by rw [q]; rfl)
          · exact .inr (.inl (by rw [q]; rfl))
          · exact .inr (.inr (by rw [q]; rfl))
      · exact runN_snoc L (h + x)
section
variable {p : Pt} {base : Int} {ds : List Dy}
theorem rst_snoc {fr to : Nat} {x : Dy} (hx : ds[to + 1]? = some x) (h : fr ≤ to + 1) : rstL p base ds fr (to + 1) = rstL p base ds fr to ++ [gainF false p base x] := by
  have hl := (List.getElem?_eq_some_iff.1 hx).1
  rw [rstL, rstL, List.take_add_one (i := to + 1), hx, Option.toList, List.drop_append_of_le_length (by rw [List.length_take]; omega), List.map_append]
  rfl
/-- The need of one day more. -/
theorem need_more {fr to : Nat} (hto : to + 1 < ds.length) (h : fr ≤ to) : needV p base ds fr to ≤ needV p base ds fr (to + 1) ∧ (needV p base ds fr (to + 1) ≤ needV p base ds fr to + 1 ∨ needV p base ds fr (to + 1) = ((to + 1 : Nat) : Int) - fr + 2) := by
  obtain ⟨x, hx⟩ : ∃ x, ds[to + 1]? = some x := ⟨_, List.getElem?_eq_getElem hto⟩
  obtain ⟨h1, h2⟩ := runN_snoc (s := p.size) (g := gainF false p base x) (rstL p base ds fr to) (if fr = 0 then p.hi else 0)
  have e : needO p base ds fr (to + 1) = runN p.size (rstL p base ds fr to ++ [gainF false p base x]) (if fr = 0 then p.hi else 0) := by rw [needO, rst_snoc hx (by omega)]
  cases hm : needO p base ds fr to with
  | none =>
    have q := h1 hm
    rw [← e] at q
    simp only [needV, hm, q]
    omega
  | some m =>
    have hlen := runN_le _ _ _ hm
    rw [rstL_len (by omega)] at hlen
    rcases h2 m hm with q | q | q <;> rw [← e] at q
    · rw [needV_some hm, needV_none q]; omega
    · rw [needV_some hm, needV_some q]; omega
    · rw [needV_some hm, needV_some q]; omega
theorem need_in {fr to : Nat} (hto : to < ds.length) (h : fr ≤ to) : 0 ≤ needV p base ds fr to ∧ needV p base ds fr to ≤ (to : Int) - fr + 2 := by
  cases hm : needO p base ds fr to with
  | none => simp only [needV, hm]; omega
  | some m =>
    have hlen := runN_le _ _ _ hm
    rw [rstL_len hto] at hlen
    simp only [needV, hm]; omega
def flagsF (rs : List Rd) (k : Int) (fr to : Nat) : List Bool := (List.range (to + 1 - fr)).map fun i => emB rs k (fr + i)
theorem flags_cons {rs : List Rd} {k : Int} {fr to : Nat} (h : fr ≤ to) : flagsF rs k fr to = emB rs k fr :: flagsF rs k (fr + 1) to := by
  rw [flagsF, show to + 1 - fr = (to + 1 - (fr + 1)) + 1 from by omega, List.range_succ_eq_map, List.map_cons, flagsF, List.map_map]
  congr 1
  exact List.map_congr_left fun i _ => by simp only [Function.comp]; congr 1; omega
/-- How often it is emptied on some days. -/
def manyF (rs : List Rd) (k : Int) (fr : Nat) : Nat → Nat
  | 0 => 0
  | j + 1 => manyF rs k fr j + (if emB rs k (fr + j) then 1 else 0)
theorem many_cons {rs : List Rd} {k : Int} (fr : Nat) : ∀ j, manyF rs k fr (j + 1) = (if emB rs k fr then 1 else 0) + manyF rs k (fr + 1) j
  | 0 => by simp [manyF]
  | j + 1 => by
    rw [manyF, many_cons fr j, manyF, show fr + (j + 1) = fr + 1 + j from by omega]; omega
theorem keeps_of {rs : List Rd} {k : Int} (hok : ∀ d, d < ds.length → aF p base ds rs k (d + 1) ≤ p.size) : ∀ (j fr : Nat), fr + j < ds.length + 1 → 0 < j → keepsL p.size (rstL p base ds fr (fr + j - 1)) (flagsF rs k fr (fr + j - 1)) (aF p base ds rs k fr) ∧ cntL (rstL p base ds fr (fr + j - 1)) (flagsF rs k fr (fr + j - 1)) = manyF rs k fr j
  | 0, fr, _, h => absurd h (by omega)
  | j + 1, fr, hj, _ => by
    obtain ⟨x, hx⟩ : ∃ x, ds[fr]? = some x := ⟨_, List.getElem?_eq_getElem (by omega)⟩
    have hm : mostD p base ds fr = gainF false p base x := by rw [mostD, hx]
    have ha : aF p base ds rs k (fr + 1) = (if emB rs k fr then 0 else aF p base ds rs k fr) + gainF false p base x := by rw [aF, hm]
    have h1 := hok fr (by omega)
    rw [rstL_cons hx (by omega), flags_cons (by omega), many_cons]
    rw [keepsL_cons, cntL_cons, ← ha]
    rcases Nat.eq_zero_or_pos j with rfl | hpos
    · have : rstL p base ds (fr + 1) (fr + (0 + 1) - 1) = [] := by rw [show fr + (0 + 1) - 1 = fr from by omega]; exact rstL_nil
      rw [this]
      exact ⟨⟨h1, trivial⟩, by simp [cntL, manyF]⟩
    · obtain ⟨h2, h3⟩ := keeps_of hok j (fr + 1) (by omega) hpos
      rw [show fr + 1 + j - 1 = fr + (j + 1) - 1 from by omega] at h2 h3
      exact ⟨⟨h1, h2⟩, by rw [h3]⟩
/-- **Each plan that keeps a pot empties it at least as often as its need.** -/
theorem need_least {rs : List Rd} {k : Int} (hp : PtOk2 p) (hb : 0 ≤ base) (hl : ∀ d ∈ ds, DyOk d) (hok : okF p base ds rs k ds.length = true) {fr to : Nat} (hto : to < ds.length) (h : fr ≤ to) : needV p base ds fr to ≤ manyF rs k fr (to + 1 - fr) := by
  have hall : ∀ n, okF p base ds rs k n = true → ∀ d, d < n → aF p base ds rs k (d + 1) ≤ p.size := by
    intro n
    induction n with
    | zero => intro _ d hd; omega
    | succ n ih =>
      intro hn d hd
      simp only [okF, Bool.and_eq_true, decide_eq_true_eq] at hn
      by_cases q : d = n
      · subst q; exact hn.2
      · exact ih hn.1 d (by omega)
  have hok := hall _ hok
  have hge : ∀ n, n ≤ ds.length → 0 ≤ aF p base ds rs k n := by
    intro n
    induction n with
    | zero => intro _; have := hp.l0; have := hp.l1; simp only [aF]; omega
    | succ n ih =>
      intro hn
      have ih := ih (by omega)
      obtain ⟨x, hx⟩ : ∃ x, ds[n]? = some x := ⟨_, List.getElem?_eq_getElem (by omega)⟩
      have hg := gain_in (k := false) hp.toPtOk hb (hl x (List.mem_of_getElem? hx))
      have hm : mostD p base ds n = gainF false p base x := by rw [mostD, hx]
      rw [aF, hm]
      split <;> omega
  obtain ⟨h2, h3⟩ := keeps_of (rs := rs) (k := k) hok (to + 1 - fr) fr (by omega) (by omega)
  rw [show fr + (to + 1 - fr) - 1 = to from by omega] at h2 h3
  obtain ⟨m, hm1, hm2⟩ := (run_ahead _ _ _ (if fr = 0 then p.hi else 0) (rst_ge hp hb hl) (hge fr (by omega)) h2).1 (by
    split
    · rename_i e; subst e; exact Int.le_refl _
    · exact hge fr (by omega))
  rw [needV_some (n := m) hm1]
  omega
end
end Go.Proofs.Ytpaabfecoghibaa
