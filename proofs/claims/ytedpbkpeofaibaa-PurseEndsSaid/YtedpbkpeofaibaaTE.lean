/- Lists that are read: in memory that was there before, and in new rows that are handed to a call. Over any program. Conditions: as each law says. -/
import Derived.Test.YtedpbkpeofaibaaTD
namespace Go.Proofs.Ytedpbkpeofaibaa
open Go Go.RowKit
set_option linter.unusedSimpArgs false
set_option linter.unusedVariables false
def grA (a : Option Addr) (n c : Nat) : Bool := match a with
  | none => Nat.beq n 0 && Nat.beq c 0
  | some a => a.spot.isNone
theorem gr_slice (d : Nat) (a : Option Addr) (n c : Nat) : gr (d + 1) (.slice a n c) = grA a n c := by cases a <;> rfl
theorem gr_agg (d : Nat) (l : List Value) : gr (d + 1) (.agg ⟨l⟩) = l.all (gr d) := rfl
theorem gr_tup (d : Nat) (l : List Value) : gr (d + 1) (.tuple ⟨l⟩) = l.all (gr d) := rfl
theorem gr_i (d : Nat) (k : IntKind) (n : Int) : gr (d + 1) (.int k n) = true := rfl
theorem gr_b (d : Nat) (b : Bool) : gr (d + 1) (.bool b) = true := rfl
theorem gr_s (d : Nat) (s : ByteArray) : gr (d + 1) (.string s) = true := rfl
/-- What has no new blocks, part by part. -/
theorem grL : (∀ (d : Nat) (l : List Value), gr (d + 1) (.agg ⟨l⟩) = l.all (gr d)) ∧ (∀ (d : Nat) (l : List Value), gr (d + 1) (.tuple ⟨l⟩) = l.all (gr d)) ∧ (∀ (d : Nat) (a : Option Addr) (n c : Nat), gr (d + 1) (.slice a n c) = grA a n c) ∧
    (∀ (d : Nat) (k : IntKind) (n : Int), gr (d + 1) (.int k n) = true) ∧ (∀ (d : Nat) (b : Bool), gr (d + 1) (.bool b) = true) ∧ (∀ (d : Nat) (s : ByteArray), gr (d + 1) (.string s) = true) ∧ (∀ l k : List Value, appR l k = l ++ k) ∧ (∀ l : List Value, l ++ [] = l) ∧
    (∀ (x : Value) (l k : List Value), (x :: l) ++ k = x :: (l ++ k)) ∧ (∀ l : List Value, [] ++ l = l) ∧ (∀ (p : Value → Bool) (x : Value) (l : List Value), (x :: l).all p = (p x && l.all p)) ∧ (∀ p : Value → Bool, ([] : List Value).all p = true) ∧
    (∀ b : Bool, (b && true) = b) ∧ (∀ b : Bool, (true && b) = b) ∧ (∀ b : Bool, (b && b) = b) ∧ (∀ a b : Bool, ((a && b) = true) = (a = true ∧ b = true)) :=
  ⟨gr_agg, gr_tup, gr_slice, gr_i, gr_b, gr_s, fun l k => appR_eq k l, List.append_nil, fun _ _ _ => rfl, fun _ => rfl, fun _ _ _ => rfl, fun _ => rfl, Bool.and_true, Bool.true_and, Bool.and_self, fun a b => by simp⟩
/-- A slice whose elements are read as a list. -/
structure Sl {α : Type} (f : Nat → Nat → Option Value) (enc : α → List Value) (k : Nat) (a : Option Addr) (n c : Nat) (l : List α) : Prop where
  g : grA a n c = true
  len : l.length = n
  nc : n ≤ c
  le : n ≤ 9223372036854775807
  at' : ∀ i x, l[i]? = some x → ∃ b o, a = some ⟨b, o, none⟩ ∧ ∀ j v, (enc x)[j]? = some v → f b (o + i * k + j) = some v
abbrev encI (x : Int) : List Value := [.int .i64 x]
abbrev Ints (f : Nat → Nat → Option Value) (a : Option Addr) (n c : Nat) (l : List Int) : Prop := Sl f encI 1 a n c l
section
variable {α : Type} {f f' : Nat → Nat → Option Value} {enc : α → List Value} {k : Nat} {a : Option Addr} {n c : Nat} {l : List α}
theorem Sl.mono (h : Sl f enc k a n c l) (hf : ∀ b o v, f b o = some v → f' b o = some v) : Sl f' enc k a n c l := ⟨h.g, h.len, h.nc, h.le, fun i x hx => by
  obtain ⟨b, o, h1, h2⟩ := h.at' i x hx
  exact ⟨b, o, h1, fun j v hv => hf _ _ _ (h2 j v hv)⟩⟩
theorem Sl.nil : Sl f enc k none 0 0 ([] : List α) := ⟨rfl, rfl, Nat.le_refl _, by omega, fun i x hx => by simp at hx⟩
theorem flat_get {enc : α → List Value} (hk : ∀ x, (enc x).length = k) : ∀ (l : List α) (i : Nat) (x : α), l[i]? = some x → ∀ j v, (enc x)[j]? = some v → (l.flatMap enc)[i * k + j]? = some v
  | [], i, x, h => by simp at h
  | y :: l, 0, x, h => fun j v hv => by
    obtain rfl : y = x := by simpa using h
    have hj : j < (enc y).length := (List.getElem?_eq_some_iff.1 hv).1
    rw [List.flatMap_cons, Nat.zero_mul, Nat.zero_add, List.getElem?_append_left hj]; exact hv
  | y :: l, i + 1, x, h => fun j v hv => by
    have := flat_get hk l i x (by simpa using h) j v hv
    rw [List.flatMap_cons, List.getElem?_append_right (by rw [hk, Nat.succ_mul]; omega), hk, Nat.succ_mul]
    rw [show i * k + k + j - k = i * k + j from by omega]; exact this
theorem flat_length {enc : α → List Value} (hk : ∀ x, (enc x).length = k) : ∀ (l : List α), (l.flatMap enc).length = l.length * k
  | [] => by simp
  | y :: l => by rw [List.flatMap_cons, List.length_append, flat_length hk l, hk, List.length_cons, Nat.succ_mul]; omega
theorem flat_gr {enc : α → List Value} (hg : ∀ x, (enc x).all (gr 6) = true) (l : List α) : (l.flatMap enc).all (gr 6) = true := by
  rw [List.all_eq_true]
  intro v hv
  obtain ⟨x, _, hx⟩ := List.mem_flatMap.1 hv
  exact List.all_eq_true.1 (hg x) v hx
/-- A new row, handed to a call. -/
theorem Sl.of_row {cs : List Value} {b c' : Nat} (hc : cs.all (gr 6) = true → ∀ i v, cs[i]? = some v → f b i = some v) (hcs : cs = l.flatMap enc) (hk : ∀ x, (enc x).length = k) (hg : ∀ x, (enc x).all (gr 6) = true) (hn : l.length = n) (hnc : n ≤ c') (hle : n ≤ 9223372036854775807) :
    Sl f enc k (some ⟨b, 0, none⟩) n c' l := ⟨rfl, hn, hnc, hle, fun i x hx => ⟨b, 0, rfl, fun j v hv => by
    subst hcs
    rw [Nat.zero_add]
    exact hc (flat_gr hg l) _ _ (flat_get hk l i x hx j v hv)⟩⟩
end
section
variable {P : Program} {f : Nat → Nat → Option Value}
/-- A call with a new row alone. -/
theorem t_callS {α : Type} {enc : α → List Value} {kk : Nat} (l : List α) {frz : List Nat} {g : FuncId} {args : List Value} {h : SH} {k : KV} {v : Value} {j s n c fam : Nat} {t : TypeId} {cs : List Value}
    (hok : (finfo P g).ok = true) (hx : ∀ f' b c', Sl f' enc kk (some ⟨b, 0, none⟩) n c' l → FnR P f' g [.slice (some ⟨b, 0, none⟩) n c'] ⟨v, []⟩) (ea : args = [.slice (some ⟨j, 0, some s⟩) n c]) (hs : (s = 0 ∧ n ≤ c) ∨ s = 1) (hrow : h.tr.get j = some (.row t cs fam)) (hcs : cs = l.flatMap enc)
    (hk : ∀ x, (enc x).length = kk) (hg : ∀ x, (enc x).all (gr 6) = true) (hn : l.length = n) (hle : n ≤ 9223372036854775807) (hl : frzLive h frz = true) (hv : gr 6 v = true) (hkk : k v h = some (.bool true)) : callI P (glF f) frz g args h k = some (.bool true) := by
  subst ea
  unfold callI
  refine if_pos ⟨v, h, hkk, ent_of_ok hok, fun N μ w args' d hr => ?_⟩
  have ha : ∀ y ∈ [Value.slice (some ⟨j, 0, some s⟩) n c], rlV h 5 y := fun y hy => by
    rw [List.mem_singleton] at hy
    subst hy
    rcases hs with ⟨rfl, _⟩ | rfl <;> exact ⟨t, cs, fam, hrow⟩
  have hre := real_list (real_of d 5) ha hr
  have fin : CallsIn Fence.wide 0 P g args' w (ResP P ⟨v, []⟩ w) := by
    obtain ⟨args'⟩ := args'
    simp only at hre
    cases hre with
    | cons h1 h2 =>
      cases h2
      cases h1 with
      | ground hg => simp [gr] at hg
      | slice hj hc hn' h0 =>
        rw [hrow] at hj; cases hj
        exact (hx _ _ _ (Sl.of_row hc hcs hk hg hn (by rcases hs with ⟨rfl, hq⟩ | rfl; (have := h0 rfl; omega); exact hn' (.inl rfl)) hle)).2 w (fun b o v e => e)
      | empty => rcases hs with ⟨hs, _⟩ | hs <;> cases hs
  refine fin.mono ?_
  rintro e w' ⟨ν, v', rfl, hb, hv', _⟩
  obtain rfl := hv'.eq hv
  refine ⟨μ, v', rfl, ⟨Mu.le_refl _, d.below hb, ⟨hb.mono d.base.1, fun k hk => hb.block _ (d.base.2 k hk)⟩, fun k hk b κ hm => ?_⟩, .ground hv⟩
  obtain ⟨sb, hsb⟩ := Option.isSome_iff_exists.1 (List.all_eq_true.1 hl k hk)
  obtain ⟨b0, κ0, q1, _, q3⟩ := (d.blk k sb hsb).at
  rw [hm] at q1; cases q1
  exact hb.block _ q3
def orE : List Int → Int
  | [] => 0
  | e :: es => if e = 0 then orE es else e
/-- The first error of some. -/
theorem t_or2 {frz : List Nat} {g : FuncId} {args : List Value} {h : SH} {k : KV} {j fam : Nat} {t : TypeId} {e1 e2 : Int} (hx : ∀ f' a n c es, Ints f' a n c es → FnR P f' g [.slice a n c] ⟨.int .i64 (orE es), []⟩) (hok : (finfo P g).ok = true) (ea : args = [.slice (some ⟨j, 0, some 0⟩) 2 2]) (hrow : h.tr.get j = some (.row t [.int .i64 e1, .int .i64 e2] fam)) (hl : frzLive h frz = true)
    (hkk : k (.int .i64 (orE [e1, e2])) h = some (.bool true)) : callI P (glF f) frz g args h k = some (.bool true) :=
  t_callS [e1, e2] hok (fun f' b c' H => hx _ _ _ _ _ H) ea (.inl ⟨rfl, Nat.le_refl _⟩) hrow rfl (fun _ => rfl) (fun _ => rfl) rfl (by omega) hl rfl hkk
theorem t_or3 {frz : List Nat} {g : FuncId} {args : List Value} {h : SH} {k : KV} {j fam : Nat} {t : TypeId} {e1 e2 e3 : Int} (hx : ∀ f' a n c es, Ints f' a n c es → FnR P f' g [.slice a n c] ⟨.int .i64 (orE es), []⟩) (hok : (finfo P g).ok = true) (ea : args = [.slice (some ⟨j, 0, some 0⟩) 3 3]) (hrow : h.tr.get j = some (.row t [.int .i64 e1, .int .i64 e2, .int .i64 e3] fam)) (hl : frzLive h frz = true)
    (hkk : k (.int .i64 (orE [e1, e2, e3])) h = some (.bool true)) : callI P (glF f) frz g args h k = some (.bool true) :=
  t_callS [e1, e2, e3] hok (fun f' b c' H => hx _ _ _ _ _ H) ea (.inl ⟨rfl, Nat.le_refl _⟩) hrow rfl (fun _ => rfl) (fun _ => rfl) rfl (by omega) hl rfl hkk
theorem t_or4 {frz : List Nat} {g : FuncId} {args : List Value} {h : SH} {k : KV} {j fam : Nat} {t : TypeId} {e1 e2 e3 e4 : Int} (hx : ∀ f' a n c es, Ints f' a n c es → FnR P f' g [.slice a n c] ⟨.int .i64 (orE es), []⟩) (hok : (finfo P g).ok = true) (ea : args = [.slice (some ⟨j, 0, some 0⟩) 4 4]) (hrow : h.tr.get j = some (.row t [.int .i64 e1, .int .i64 e2, .int .i64 e3, .int .i64 e4] fam)) (hl : frzLive h frz = true)
    (hkk : k (.int .i64 (orE [e1, e2, e3, e4])) h = some (.bool true)) : callI P (glF f) frz g args h k = some (.bool true) :=
  t_callS [e1, e2, e3, e4] hok (fun f' b c' H => hx _ _ _ _ _ H) ea (.inl ⟨rfl, Nat.le_refl _⟩) hrow rfl (fun _ => rfl) (fun _ => rfl) rfl (by omega) hl rfl hkk
/-- A contract of closed code. -/
theorem fn_null {g : FuncId} {v : Value} (n : NullR P g v) : FnR P f g [] ⟨v, []⟩ := by
  obtain ⟨hg, hent, hc⟩ := n
  refine ⟨hent, fun w _ => (hc w).mono ?_⟩
  rintro e w' ⟨rfl, hb⟩
  exact ⟨fun _ => none, v, rfl, hb, .ground hg, Den.mk (by exact ⟨hb.size, fun k hk => (List.not_mem_nil hk).elim⟩) (by intro j sb hj; cases hj) (by intro j _; rfl) (by intro j _; rfl) (by intro i j si sj b κ κ' hi; cases hi)
    (by intro j t cs f hj; cases hj) (by intro j t cs f hj; cases hj) (by intro f _; rfl) gl0_glob⟩
/-- What a contract says of a call in a world. -/
theorem FnR.calls {g : FuncId} {args : List Value} {v : Value} {w : World} (n : FnR P f g args ⟨v, []⟩) (hr : Reads f w) (hv : gr 6 v = true) : Calls P g ⟨args⟩ w fun e w' => e = .returned v ∧ Below w.heap.size w w' :=
  callsIn_wide.1 ((n.2 w hr).mono (by
    rintro e w' ⟨ν, v', rfl, hb, hv', _⟩
    exact ⟨by rw [hv'.eq hv], hb⟩))
end
end Go.Proofs.Ytedpbkpeofaibaa
