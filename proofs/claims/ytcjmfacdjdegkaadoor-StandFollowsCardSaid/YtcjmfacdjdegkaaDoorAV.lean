/- Acts in memory: a part of them, and one more behind them in new memory; and what Follow says of a history, as plain facts. Conditions: the acts lie in memory as told. -/
import Derived.Test.YtcjmfacdjdegkaaDoorQ8
import Derived.Test.YtcjmfacdjdegkaaDoorQ5
import Derived.Test.YtcjmfacdjdegkaaDoorBM
import Derived.Test.YtcjmfacdjdegkaaDoorL1
namespace Go.Proofs.YtcjmfacdjdegkaaDoor
open Go Go.RowKit
def actCells (l : List Act) : List Value := l.flatMap fun t => [.int .i64 t.day, .string t.tag, .int .i64 t.what]
theorem actCells_at : ∀ {l : List Act} {i : Nat} {t : Act}, l[i]? = some t → ∀ k, k < 3 → (actCells l)[i * 3 + k]? = ([.int .i64 t.day, .string t.tag, .int .i64 t.what] : List Value)[k]?
  | [], _, _, h, _, _ => by cases h
  | u :: r, 0, t, h, k, hk => by
    simp only [List.getElem?_cons_zero, Option.some.injEq] at h
    subst h
    rw [actCells, List.flatMap_cons, List.getElem?_append_left (by simp; omega)]
    simp
  | u :: r, i + 1, t, h, k, hk => by
    simp only [List.getElem?_cons_succ] at h
    have ih := actCells_at h k hk
    rw [actCells, List.flatMap_cons, List.getElem?_append_right (by simp; omega)]
    rw [show (i + 1) * 3 + k - ([.int .i64 u.day, .string u.tag, .int .i64 u.what] : List Value).length = i * 3 + k by simp; omega]
    exact ih
theorem actCells_len : ∀ l : List Act, (actCells l).length = l.length * 3
  | [] => rfl
  | u :: r => by
    rw [actCells, List.flatMap_cons, List.length_append, ← actCells, actCells_len r]
    simp; omega
theorem acts_take {w : World} {a : Option Addr} {n : Nat} {l : List Act} (h : Acts w a n l) (m : Nat) (hm : m ≤ n) : Acts w a m (l.take m) := by
  have hn := h.len
  refine ⟨by rw [List.length_take]; omega, ?_, fun t ht => h.tags t (List.mem_of_mem_take ht), by have := h.fits; omega⟩
  rcases h.at_ with h0 | ⟨b, off, e, hl, hc⟩
  · left; rw [h0]; simp
  · right
    refine ⟨b, off, e, hl, fun i t hi => hc i t ?_⟩
    rw [List.getElem?_take] at hi
    split at hi
    · exact hi
    · cases hi
theorem infoAct : (Tryd.prog.info? 70).map (fun i => (i.zero.map fun v => v.cells.size, i.size, i.bytes)) = some (some 3, 3, 32) := by kernel_rfl
theorem append_acts {w : World} (b off n c2 : Nat) (ad : Addr) (l : List Act) (x : Act) (ty : TypeId) (hA : Acts w (some ⟨b, off, none⟩) n l) (hn : n ≤ 255) (hne : l ≠ []) (hx : x.tag.size ≤ maxLen)
    (h0 : w.cell? ad = some (.int .i64 x.day)) (h1 : w.cell? (ad.add 1) = some (.string x.tag)) (h2 : w.cell? (ad.add 2) = some (.int .i64 x.what)) :
    ∃ c' w', (Builtin.append_ #[50, 50] ty #[.slice (some ⟨b, off, none⟩) n n, .slice (some ad) 1 c2]).run Tryd.prog w = .ok (.slice (some ⟨w.heap.size, 0, none⟩) (n + 1) c') w' ∧ Acts w' (some ⟨w.heap.size, 0, none⟩) (n + 1) (l ++ [x]) ∧ Below w.heap.size w w' := by
  obtain ⟨i0, hi0, hzz⟩ := Option.map_eq_some_iff.1 infoAct
  simp only [Prod.mk.injEq, Option.map_eq_some_iff] at hzz
  obtain ⟨⟨z, hz0, hzs⟩, hz1, hz2⟩ := hzz
  have hlen := hA.len
  obtain ⟨b', off', e, hbl, hc⟩ := hA.at_.resolve_left hne
  obtain ⟨rfl, rfl⟩ : b = b' ∧ off = off' := by cases e; exact ⟨rfl, rfl⟩
  have hnl : (actCells l).length = n * i0.size := by rw [actCells_len, hz1, hlen]
  have holds : ∀ j v, (actCells l)[j]? = some v → w.cell? ((⟨b, off, none⟩ : Addr).add j) = some v := fun j v hj => by
    have hjl := (List.getElem?_eq_some_iff.1 hj).1
    rw [actCells_len] at hjl
    obtain ⟨t, ht⟩ : ∃ t, l[j / 3]? = some t := ⟨_, List.getElem?_eq_getElem (by omega)⟩
    have h := actCells_at ht (j % 3) (by omega)
    rw [show j / 3 * 3 + j % 3 = j by omega, hj] at h
    obtain ⟨q0, q1, q2⟩ := hc (j / 3) t ht
    rw [Addr.add_lit]
    obtain e | e | e : j % 3 = 0 ∨ j % 3 = 1 ∨ j % 3 = 2 := by omega
    · rw [e] at h; simp at h; rw [h, show off + j = off + j / 3 * 3 by omega]; exact q0
    · rw [e] at h; simp at h; rw [h, show off + j = off + j / 3 * 3 + 1 by omega]; exact q1
    · rw [e] at h; simp at h; rw [h, show off + j = off + j / 3 * 3 + 2 by omega]; exact q2
  have hnews : ∀ (j : Nat) (v : Value), ([.int .i64 x.day, .string x.tag, .int .i64 x.what] : List Value)[j]? = some v → w.cell? (ad.add j) = some v := fun j v hj => by
    match j, hj with
    | 0, hj => simp at hj; subst hj; simpa [Addr.add] using h0
    | 1, hj => simp at hj; subst hj; exact h1
    | 2, hj => simp at hj; subst hj; exact h2
  have hfit : Builtin.nextslicecap (n + 1) n * i0.bytes ≤ 281474976710656 := growslice_fits (by omega) (by rw [hz2]; omega)
  have hr := run_append_grow (P := Tryd.prog) w 50 ty 70 i0 z Tryd.underlying50 hi0 hz0 ⟨b, off, none⟩ n n (actCells l) hnl holds ad 1 c2 [.int .i64 x.day, .string x.tag, .int .i64 x.what] (by rw [hz1]; rfl) hnews (by omega) (by omega) hfit
  refine ⟨_, _, hr, ⟨by simp [hlen], .inr ⟨w.heap.size, 0, rfl, by simp, fun i t hi => ?_⟩, fun t ht => ?_, by omega⟩, (Below.refl w.heap.size w).drew.alloc (Nat.le_refl _) _⟩
  · have hb := heap_alloc_new w.drew (.cells ((actCells l).toArray ++ ([.int .i64 x.day, .string x.tag, .int .i64 x.what] : List Value).toArray ++ Builtin.zeroCells z.cells (grownCap w (n + 1) n 70 - (n + 1))) 70)
    have hil : i < (l ++ [x]).length := (List.getElem?_eq_some_iff.1 hi).1
    have cell : ∀ k, k < 3 → (w.drew.alloc (.cells ((actCells l).toArray ++ ([.int .i64 x.day, .string x.tag, .int .i64 x.what] : List Value).toArray ++ Builtin.zeroCells z.cells (grownCap w (n + 1) n 70 - (n + 1))) 70)).cell? ⟨w.heap.size, 0 + i * 3 + k, none⟩ = ([.int .i64 t.day, .string t.tag, .int .i64 t.what] : List Value)[k]? := fun k hk => by
      rw [← actCells_at hi k hk]
      have e1 : actCells (l ++ [x]) = actCells l ++ [.int .i64 x.day, .string x.tag, .int .i64 x.what] := by simp [actCells]
      have hlt : i * 3 + k < (actCells (l ++ [x])).length := by rw [actCells_len]; omega
      rw [show (0 + i * 3 + k) = i * 3 + k by omega]
      have hb' : (w.drew.alloc (.cells ((actCells l).toArray ++ ([.int .i64 x.day, .string x.tag, .int .i64 x.what] : List Value).toArray ++ Builtin.zeroCells z.cells (grownCap w (n + 1) n 70 - (n + 1))) 70)).heap[w.heap.size]? = some _ := hb
      simp only [World.cell?, hb']
      rw [e1] at hlt ⊢
      simp only [Option.isSome_none, Bool.false_eq_true, if_false]
      rw [Array.getElem?_append_left (by simpa using hlt)]
      simp
    exact ⟨cell 0 (by omega), cell 1 (by omega), cell 2 (by omega)⟩
  · rcases List.mem_append.1 ht with h | h
    · exact hA.tags t h
    · rw [List.mem_singleton] at h; subst h; exact hx
/-- What the law asks of a history that cannot be. -/
theorem follow_bad {l : List Act} (h : l.length ≤ 256) (hr : runO l (0, []) = none) : ∃ k, k < l.length ∧ followL l = ([], [], k, 13) ∧ (followL (l.take k)).2.2 = (k, 0) ∧ (followL (l.take (k + 1))).2.2 = (k, 13) := by
  obtain ⟨k, h1, h2, ⟨st', h3⟩, h4⟩ := run_none l 0 (0, []) hr
  rw [Nat.zero_add] at h2 h4
  have h5 := run_some (l.take k) 0 (0, []) st' h3
  refine ⟨k, h1, ?_, ?_, ?_⟩
  · unfold followL; rw [if_neg (by omega)]; exact h2
  · unfold followL; rw [if_neg (by rw [List.length_take]; omega)]
    rw [h5]
    simp; omega
  · unfold followL; rw [if_neg (by rw [List.length_take]; omega)]
    rw [h4]
theorem follow_good {l : List Act} {st : Int × Lives} (h : l.length ≤ 256) (hr : runO l (0, []) = some st) : followL l = (st.2.map (·.1), st.2.map (·.2.1), l.length, 0) := by
  unfold followL; rw [if_neg (by omega), run_some l 0 (0, []) st hr, Nat.zero_add]
theorem follow_front {l : List Act} {st : Int × Lives} (h : l.length ≤ 256) (hr : runO l (0, []) = some st) {m : Nat} (hm : m ≤ l.length) : (followL (l.take m)).2.2 = (m, 0) := by
  obtain ⟨s1, h1, _⟩ := runO_take hr m
  rw [follow_good (by rw [List.length_take]; omega) h1]
  simp; omega
theorem follow_code {l : List Act} (h : l.length ≤ 256) : ((followL l).2.2.2 = 0 ↔ (runO l (0, [])).isSome) ∧ ((followL l).2.2.2 = 0 ∨ (followL l).2.2.2 = 13) := by
  cases hr : runO l (0, []) with
  | none =>
    obtain ⟨k, _, e, _⟩ := follow_bad h hr
    rw [e]; simp
  | some st => rw [follow_good h hr]; simp
theorem wp_append_acts {w : World} {o : Oper} {ac : _root_.Go.Act} {K : _root_.Go.Act → World → Prop} {Q : Exit → _root_.Go.Act → World → Prop} (s x : Operand) (ho : o.op = .call { callee := .builtin .append, args := #[s, x], argTypes := #[50, 50] })
    (b off n c2 : Nat) (ad : Addr) (l : List Act) (y : Act) (hs : ac.eval s = .slice (some ⟨b, off, none⟩) n n) (hx : ac.eval x = .slice (some ad) 1 c2) (hA : Acts w (some ⟨b, off, none⟩) n l) (hn : n ≤ 255) (hne : l ≠ []) (hy : y.tag.size ≤ maxLen)
    (h0 : w.cell? ad = some (.int .i64 y.day)) (h1 : w.cell? (ad.add 1) = some (.string y.tag)) (h2 : w.cell? (ad.add 2) = some (.int .i64 y.what))
    (h : ∀ c' w', Acts w' (some ⟨w.heap.size, 0, none⟩) (n + 1) (l ++ [y]) → Below w.heap.size w w' → K (ac.put o.dst (.slice (some ⟨w.heap.size, 0, none⟩) (n + 1) c')) w') :
    o.wp Tryd.prog ac w K Q := by
  obtain ⟨c', w', hr, h3, h4⟩ := append_acts b off n c2 ad l y o.type hA hn hne hy h0 h1 h2
  unfold Oper.wp execOp
  simp only [ho, resolve, invoke, builtin, Sem.run_bind, Sem.run_pure, Result.andThen_ok, List.map_toArray, List.map_cons, List.map_nil, hs, hx, hr]
  exact h c' w' h3 h4
theorem row_le {W : World} {b : Nat} {e : TypeId} {size : Nat} {v : Value} {k : Nat} {xs : List Value} (h : W.ownsRow b e size v k xs) : k ≤ maxLen := by
  rcases h.2 with ⟨_, rfl⟩ | ⟨g, cap, cur, _, _, _, h4, h5, _⟩
  · omega
  · omega
theorem planted_take {l : List Act} {i : Nat} {a : Act} (h : l[i]? = some a) (t : List UInt8) : plantedTo (l.take (i + 1)) t = if (a.tag.data.toList == t && a.what == 1) = true then a.day else plantedTo (l.take i) t := by
  rw [List.take_add_one, h]
  exact planted_snoc _ _ _
/-- What is asked of an act more: planted where there is none, felled where there is one. -/
theorem alive_codes {l : List Act} {st : Int × Lives} (hl : l.length ≤ 255) (h : runO l (0, []) = some st) {k : Nat} {p : ByteArray × (Int × Int)} (hp : st.2[k]? = some p) {a : Act} (ha : l.getLast? = some a) :
    (p.2.1 = 0 ∧ (followL (l ++ [⟨a.day, p.1, 1⟩])).2.2.2 = 0 ∧ (followL (l ++ [⟨a.day, p.1, 5⟩])).2.2.2 = 13) ∨ (p.2.1 ≠ 0 ∧ (followL (l ++ [⟨a.day, p.1, 1⟩])).2.2.2 = 13 ∧ (followL (l ++ [⟨a.day, p.1, 5⟩])).2.2.2 = 0) := by
  obtain ⟨h1, h2⟩ := one_more h hp ha
  have c1 := follow_code (l := l ++ [⟨a.day, p.1, 1⟩]) (by simp; omega)
  have c2 := follow_code (l := l ++ [⟨a.day, p.1, 5⟩]) (by simp; omega)
  rw [h1] at c1
  rw [h2] at c2
  by_cases e : p.2.1 = 0
  · exact .inl ⟨e, c1.1.2 e, c2.2.resolve_left fun q => (c2.1.1 q) e⟩
  · exact .inr ⟨e, c1.2.resolve_left fun q => e (c1.1.1 q), c2.1.2 e⟩
end Go.Proofs.YtcjmfacdjdegkaaDoor
