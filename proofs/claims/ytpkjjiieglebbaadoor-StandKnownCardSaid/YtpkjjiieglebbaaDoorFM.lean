/- The plain model of histories, and the map of lives that follows it. Conditions: none. -/
import Derived.Test.YtpkjjiieglebbaaDoorAF
import Derived.Test.YtpkjjiieglebbaaDoorSW
import Derived.Maps.OwnSet
import Derived.StringKeys
namespace Go.Proofs.YtpkjjiieglebbaaDoor
open Go Go.RowKit Go.Maps Go.WideMaps
structure Act where
  day : Int
  tag : ByteArray
  what : Int
abbrev Lives := List (ByteArray × (Int × Int))
def isK (k : List UInt8) (p : ByteArray × (Int × Int)) : Bool := p.1.data.toList == k
def lifeL (s : Lives) (k : List UInt8) : Int × Int := ((s.find? (isK k)).map (·.2)).getD (0, 0)
def knownL (s : Lives) (k : List UInt8) : Bool := s.any (isK k)
def putL (s : Lives) (t : ByteArray) (l : Int × Int) : Lives := if knownL s t.data.toList then s.map (fun p => if isK t.data.toList p then (p.1, l) else p) else s ++ [(t, l)]
/-- What a history comes to, act by act: the tags, the states, where, and the code. -/
def runL : List Act → Nat → Int → Lives → List ByteArray × List Int × Nat × Int
  | [], i, _, s => (s.map (·.1), s.map (·.2.1), i, 0)
  | a :: r, i, today, s =>
    if frB a.day today 36500 && wordB a.tag.data.toList then
      match afterM (lifeL s a.tag.data.toList).1 (lifeL s a.tag.data.toList).2 a.day a.what with
      | none => ([], [], i, 13)
      | some l => runL r (i + 1) a.day (putL s a.tag l)
    else ([], [], i, 13)
def followL (l : List Act) : List ByteArray × List Int × Nat × Int := if 256 < l.length then ([], [], 0, 3) else runL l 0 0 []
def lifeD (p : Int × Int) : DataW Unit := .agg [.lit (.int .i64 p.1), .lit (.int .i64 p.2)]
theorem lifeD_inj {p q : Int × Int} (h : lifeD p = lifeD q) : p = q := by
  simp only [lifeD, DataW.agg.injEq, List.cons.injEq, DataW.lit.injEq, Lit.int.injEq, and_true, true_and] at h
  exact Prod.ext h.1 h.2
/-- How a life reads. -/
def lifeR : Value → Option (DataW Unit × List MemPlace)
  | .agg ⟨[.int .i64 a, .int .i64 b]⟩ => some (lifeD (a, b), [])
  | _ => none
theorem lifeR_mk (a b : Int) : lifeR (.agg #[.int .i64 a, .int .i64 b]) = some (lifeD (a, b), []) := rfl
theorem lifeR_inv {v : Value} {d : DataW Unit} {ps : List MemPlace} (h : lifeR v = some (d, ps)) : ∃ a b, v = .agg #[.int .i64 a, .int .i64 b] ∧ d = lifeD (a, b) := by
  unfold lifeR at h
  split at h
  · simp only [Option.some.injEq, Prod.mk.injEq] at h
    exact ⟨_, _, rfl, h.1.symm⟩
  · cases h
/-- The map reads as the lives. -/
def MapIs (D : DataW Unit) (s : Lives) : Prop := IsMap D ∧ ∀ k : List UInt8, Maps.has D (.string k) = knownL s k ∧ D.atKey (.string k) (lifeD (0, 0)) = lifeD (lifeL s k)
theorem mapIs_nil : MapIs (.map []) [] := ⟨isMap_empty, fun _ => ⟨rfl, rfl⟩⟩
theorem isK_self (t : ByteArray) (l : Int × Int) : isK t.data.toList (t, l) = true := by simp [isK]
theorem known_put (s : Lives) (t : ByteArray) (l : Int × Int) (k : List UInt8) : knownL (putL s t l) k = (k == t.data.toList || knownL s k) := by
  unfold putL
  split
  · rename_i h
    have e : knownL (s.map (fun p => if isK t.data.toList p then (p.1, l) else p)) k = knownL s k := by
      unfold knownL
      rw [List.any_map]
      congr 1
      funext p
      simp only [Function.comp, isK]
      by_cases hh : (p.1.data.toList == t.data.toList) = true <;> simp [hh]
    rw [e]
    by_cases hk : k = t.data.toList
    · rw [hk, h]; simp
    · simp [hk]
  · unfold knownL
    rw [List.any_append]
    simp only [List.any_cons, List.any_nil, Bool.or_false, isK]
    rw [Bool.or_comm]
    congr 1
    exact Bool.beq_comm
theorem life_put (s : Lives) (t : ByteArray) (l : Int × Int) (k : List UInt8) : lifeL (putL s t l) k = if k = t.data.toList then l else lifeL s k := by
  unfold putL lifeL
  split
  · rename_i h
    rw [List.find?_map]
    by_cases hk : k = t.data.toList
    · subst hk
      rw [if_pos rfl]
      have e : (isK t.data.toList ∘ fun p => if isK t.data.toList p = true then (p.1, l) else p) = isK t.data.toList := by
        funext p; simp only [Function.comp, isK]; by_cases hh : (p.1.data.toList == t.data.toList) = true <;> simp [hh]
      rw [e]
      unfold knownL at h
      obtain ⟨p, hp, hpk⟩ := List.any_eq_true.1 h
      cases hf : s.find? (isK t.data.toList) with
      | none => exact absurd hpk (by simpa using List.find?_eq_none.1 hf p hp)
      | some q => simp [List.find?_some hf]
    · rw [if_neg hk]
      have e : (isK k ∘ fun p => if isK t.data.toList p = true then (p.1, l) else p) = isK k := by
        funext p; simp only [Function.comp, isK]; by_cases hh : (p.1.data.toList == t.data.toList) = true <;> simp [hh]
      rw [e]
      cases hf : s.find? (isK k) with
      | none => rfl
      | some q =>
        have hq := List.find?_some hf
        have : isK t.data.toList q = false := by
          simp only [isK, beq_iff_eq] at hq ⊢
          rw [hq]; simpa using hk
        simp [this]
  · rename_i h
    rw [List.find?_append]
    by_cases hk : k = t.data.toList
    · subst hk
      rw [if_pos rfl]
      have : s.find? (isK t.data.toList) = none := by
        rw [List.find?_eq_none]
        intro p hp hpk
        exact h (List.any_eq_true.2 ⟨p, hp, hpk⟩)
      rw [this]; simp [isK_self]
    · rw [if_neg hk]
      have : isK k (t, l) = false := by simp only [isK]; simpa using fun e => hk e.symm
      cases hf : s.find? (isK k) <;> simp [this]
theorem isKey_string (k : List UInt8) : WideAt.IsKeyLit (.string k) := by
  first | exact trivial | simp [WideAt.IsKeyLit]
theorem MapIs.put {D : DataW Unit} {s : Lives} (h : MapIs D s) (t : ByteArray) (l : Int × Int) : MapIs (D.put (.string t.data.toList) (lifeD l)) (putL s t l) := by
  refine ⟨h.1.put _ _, fun k => ?_⟩
  rw [known_put, life_put]
  by_cases hk : k = t.data.toList
  · subst hk
    exact ⟨by rw [has_put_same h.1 (isKey_string _)]; simp, by rw [atKey_put_same h.1 (isKey_string _), if_pos rfl]⟩
  · have hne : Lit.string k ≠ Lit.string t.data.toList := fun e => hk (by simpa using e)
    exact ⟨by rw [has_put_other hne, (h.2 k).1]; simp [hk], by rw [atKey_put_other hne, if_neg hk, (h.2 k).2]⟩
theorem put_len (s : Lives) (t : ByteArray) (l : Int × Int) : (putL s t l).length ≤ s.length + 1 := by
  unfold putL; split <;> simp
theorem put_planted {s : Lives} {t : ByteArray} {l : Int × Int} (h : ∀ p ∈ s, 0 ≤ p.2.2 ∧ p.2.2 ≤ 36500) (hl : 0 ≤ l.2 ∧ l.2 ≤ 36500) : ∀ p ∈ putL s t l, 0 ≤ p.2.2 ∧ p.2.2 ≤ 36500 := by
  intro p hp
  unfold putL at hp
  split at hp
  · obtain ⟨q, hq, rfl⟩ := List.mem_map.1 hp
    split
    · exact hl
    · exact h q hq
  · rcases List.mem_append.1 hp with hp | hp
    · exact h p hp
    · simp only [List.mem_singleton] at hp; subst hp; exact hl
theorem life_planted {s : Lives} (h : ∀ p ∈ s, 0 ≤ p.2.2 ∧ p.2.2 ≤ 36500) (k : List UInt8) : 0 ≤ (lifeL s k).2 ∧ (lifeL s k).2 ≤ 36500 := by
  unfold lifeL
  cases hf : s.find? (isK k) with
  | none => simp
  | some p => exact h p (List.mem_of_find?_eq_some hf)
theorem after_planted {st pl day what : Int} {l : Int × Int} (h : afterM st pl day what = some l) (hp : 0 ≤ pl ∧ pl ≤ 36500) (hd : 0 ≤ day ∧ day ≤ 36500) : 0 ≤ l.2 ∧ l.2 ≤ 36500 := by
  unfold afterM at h
  split at h
  · cases h
  · obtain ⟨t, _, rfl⟩ := Option.map_eq_some_iff.1 h
    dsimp only
    split <;> assumption
theorem put_tags_known {s : Lives} {t : ByteArray} {l : Int × Int} (h : knownL s t.data.toList = true) : (putL s t l).map (·.1) = s.map (·.1) := by
  unfold putL
  rw [if_pos h, List.map_map]
  congr 1
  funext p
  simp only [Function.comp]
  split <;> rfl
theorem put_tags_new {s : Lives} {t : ByteArray} {l : Int × Int} (h : knownL s t.data.toList = false) : (putL s t l).map (·.1) = s.map (·.1) ++ [t] := by
  unfold putL
  rw [if_neg (by simp [h])]; simp
theorem ownsMap_below {W W' : World} {P : Program} {k : TypeId} {R : Value → Option (DataW Unit × List MemPlace)} {b n : Nat} {D : DataW Unit} (h : W.ownsMap P k R b n D) {m : Nat} (hb : Below m W W') (hm : b < m) : W'.ownsMap P k R b n D := by
  obtain ⟨es, clock, h1, h2⟩ := h
  exact ⟨es, clock, (hb.block _ hm).trans h1, h2⟩
theorem lawS : Keyed Tryd.prog 9 := string_keyed Tryd.underlying9
theorem zeroLife (w : World) : (zeroValue 104).run Tryd.prog w = .ok (.agg #[.int .i64 0, .int .i64 0]) w := by kernel_rfl
/-- 'm[k]' with 'ok', the shape written out. -/
theorem look_ok {w : World} {ops : Array Oper} {rest : List Oper} {o : Oper} {a : _root_.Go.Act} {Q : Exit → _root_.Go.Act → World → Prop} (hg : o.guard = none) (m x : Operand) (hop : o.op = Op.lookup 102 m x true)
    (b n : Nat) (D : DataW Unit) (s : Lives) (hM : MapIs D s) (hm : a.eval m = .map (some b)) (hown : w.ownsMap Tryd.prog 9 lifeR b n D) (t : ByteArray) (hx : a.eval x = .string t) (ht : t.size ≤ maxLen)
    (hK : wpList Tryd.prog ops Q rest (a.put o.dst (.tuple #[.agg #[.int .i64 (lifeL s t.data.toList).1, .int .i64 (lifeL s t.data.toList).2], .bool (knownL s t.data.toList)])) w) : wpList Tryd.prog ops Q (o :: rest) a w :=
  wpList_lookup_own_ok w hg m x _ hop 9 104 lawS Tryd.underlying102 lifeR (zeroLife w) (lifeD (0, 0)) [] (lifeR_mk 0 0) b n D hm hown _ (.string t.data.toList) hx (keyOf_string_mk Tryd.underlying9 ht) (fun v ps hv => by
    rw [(hM.2 _).2] at hv
    obtain ⟨p, q, rfl, hd⟩ := lifeR_inv hv
    have e := lifeD_inj hd
    rw [(hM.2 _).1]
    rw [e] at hK
    exact hK)
/-- 'm[k]' without 'ok', over any program. -/
theorem wpList_lookup_own_any {P : Program} (w : World) {ops : Array Oper} {rest : List Oper} {o : Oper} {a : _root_.Go.Act} {Q : Exit → _root_.Go.Act → World → Prop}
    (hg : o.guard = none) (m x : Operand) (t : TypeId) (hop : o.op = Op.lookup t m x false)
    (k e : TypeId) (K : Keyed P k) (ht : P.underlying t = some (.map k e)) (R : Value → Option (DataW Unit × List MemPlace)) {z : Value} (hz : (zeroValue e).run P w = .ok z w) (zd : DataW Unit) (zp : List MemPlace) (hzd : R z = some (zd, zp)) (b n : Nat) (D : DataW Unit)
    (hm : a.eval m = .map (some b)) (hown : w.ownsMap P k R b n D) (key : Value) (kl : Lit) (hx : a.eval x = key) (hkey : keyOf P k key = some kl)
    (hK : ∀ v ps, R v = some (D.atKey kl zd, ps) → wpList P ops Q rest (a.put o.dst v) w) : wpList P ops Q (o :: rest) a w := by
  refine wpList_plain hg fun K' hK' => ?_
  obtain ⟨v, ps, hrun, hv⟩ := hown.lookup K ht hz hzd hkey
  unfold Oper.wp
  simp [execOp, hop, hm, hx, hrun, Result.andThen]
  exact hK' _ _ (hK v ps hv)
/-- 'm[k]' without 'ok'. -/
theorem look_plain {w : World} {ops : Array Oper} {rest : List Oper} {o : Oper} {a : _root_.Go.Act} {Q : Exit → _root_.Go.Act → World → Prop} (hg : o.guard = none) (m x : Operand) (hop : o.op = Op.lookup 102 m x false)
    (b n : Nat) (D : DataW Unit) (s : Lives) (hM : MapIs D s) (hm : a.eval m = .map (some b)) (hown : w.ownsMap Tryd.prog 9 lifeR b n D) (t : ByteArray) (hx : a.eval x = .string t) (ht : t.size ≤ maxLen)
    (hK : wpList Tryd.prog ops Q rest (a.put o.dst (.agg #[.int .i64 (lifeL s t.data.toList).1, .int .i64 (lifeL s t.data.toList).2])) w) : wpList Tryd.prog ops Q (o :: rest) a w :=
  wpList_lookup_own_any w hg m x _ hop 9 104 lawS Tryd.underlying102 lifeR (zeroLife w) (lifeD (0, 0)) [] (lifeR_mk 0 0) b n D hm hown _ (.string t.data.toList) hx (keyOf_string_mk Tryd.underlying9 ht) (fun v ps hv => by
    rw [(hM.2 _).2] at hv
    obtain ⟨p, q, rfl, hd⟩ := lifeR_inv hv
    have e := lifeD_inj hd
    rw [e] at hK
    exact hK)
end Go.Proofs.YtpkjjiieglebbaaDoor
