/- Contracts of the reference's sets: Bit, list, worth, gap. Conditions: sets below 2 to the 14; trees lie in memory as told, few of them, of coordinates and girths within their bounds. -/
import Derived.Test.YtpkjjiieglebbaaDoorQ6
import Derived.Test.YtpkjjiieglebbaaDoorR5
namespace Go.Proofs.YtpkjjiieglebbaaDoor
open Go Go.RowKit
theorem bits_any (p : Nat → Bool) : ∀ n : Nat, ∃ s, s < 2 ^ n ∧ ∀ i, i < n → s.testBit i = p i
  | 0 => ⟨0, by simp, fun i h => absurd h (by omega)⟩
  | n + 1 => by
    obtain ⟨s, hs, h⟩ := bits_any p n
    rcases hp : p n with _ | _
    · refine ⟨s, by rw [Nat.pow_succ]; omega, fun i hi => ?_⟩
      by_cases e : i = n
      · subst e; rw [hp]; exact Nat.testBit_lt_two_pow hs
      · exact h i (by omega)
    · refine ⟨2 ^ n + s, by rw [Nat.pow_succ]; omega, fun i hi => ?_⟩
      by_cases e : i = n
      · subst e; rw [hp, Nat.testBit_two_pow_add_eq, Nat.testBit_lt_two_pow hs]; rfl
      · rw [Nat.testBit_two_pow_add_gt (by omega)]; exact h i (by omega)
/-- The elements of a set, up to a number. -/
def setTo (s i : Nat) : List Nat := (List.range i).filter fun k => s.testBit k
theorem setTo_yes {s i : Nat} (h : s.testBit i = true) : setTo s (i + 1) = setTo s i ++ [i] := by
  unfold setTo; rw [List.range_succ, List.filter_append]; simp [h]
theorem setTo_no {s i : Nat} (h : s.testBit i = false) : setTo s (i + 1) = setTo s i := by
  unfold setTo; rw [List.range_succ, List.filter_append]; simp [h]
theorem setTo_sorted (s i : Nat) : (setTo s i).Pairwise (· < ·) := List.pairwise_lt_range.filter _
theorem setTo_le (s i : Nat) : (setTo s i).length ≤ i := by
  have := List.length_filter_le (fun k => s.testBit k) (List.range i)
  simpa [setTo] using this
theorem setTo_mem {s i x : Nat} : x ∈ setTo s i ↔ x < i ∧ s.testBit x = true := by simp [setTo]
theorem setTo_lt {s n x : Nat} (hs : s < 2 ^ n) (h : x ∈ setTo s 14) : x < n := by
  have h2 := (setTo_mem.1 h).2
  by_cases hx : x < n
  · exact hx
  · rw [Nat.testBit_lt_two_pow (Nat.lt_of_lt_of_le hs (Nat.pow_le_pow_right (by omega) (by omega)))] at h2
    cases h2
theorem sorted_eq : ∀ {a b : List Nat}, a.Pairwise (· < ·) → b.Pairwise (· < ·) → (∀ x, x ∈ a ↔ x ∈ b) → a = b
  | [], [], _, _, _ => rfl
  | [], y :: b, _, _, h => by have := (h y).2 (by simp); cases this
  | x :: a, [], _, _, h => by have := (h x).1 (by simp); cases this
  | x :: a, y :: b, ha, hb, h => by
    rw [List.pairwise_cons] at ha hb
    have hxy : x = y := by
      rcases List.mem_cons.1 ((h x).1 (by simp)) with e | e
      · exact e
      · rcases List.mem_cons.1 ((h y).2 (by simp)) with e' | e'
        · exact e'.symm
        · have := hb.1 x e; have := ha.1 y e'; omega
    subst hxy
    congr 1
    refine sorted_eq ha.2 hb.2 fun z => ⟨fun hz => ?_, fun hz => ?_⟩
    · rcases List.mem_cons.1 ((h z).1 (by simp [hz])) with e | e
      · subst e; exact absurd (ha.1 z hz) (by omega)
      · exact e
    · rcases List.mem_cons.1 ((h z).2 (by simp [hz])) with e | e
      · subst e; exact absurd (hb.1 z hz) (by omega)
      · exact e
theorem set_of {n : Nat} (hn : n ≤ 14) {l : List Nat} (hl : l.Pairwise (· < ·)) (hb : ∀ x ∈ l, x < n) : ∃ s, s < 2 ^ n ∧ setTo s 14 = l := by
  obtain ⟨s, hs, h⟩ := bits_any (fun i => decide (i ∈ l)) n
  refine ⟨s, hs, sorted_eq (setTo_sorted _ _) hl fun x => ?_⟩
  rw [setTo_mem]
  constructor
  · rintro ⟨_, hx⟩
    by_cases hxn : x < n
    · rw [h x hxn] at hx; exact of_decide_eq_true hx
    · rw [Nat.testBit_lt_two_pow (Nat.lt_of_lt_of_le hs (Nat.pow_le_pow_right (by omega) (by omega)))] at hx
      cases hx
  · intro hx
    exact ⟨by have := hb x hx; omega, by rw [h x (hb x hx)]; exact decide_eq_true hx⟩
/-- What is best of the sets below a number: none of them is better, and it is one of those with the gap. -/
structure BestTo (ts : List Tree) (gap : Int) (k : Nat) (b : List Nat) (m : Int) : Prop where
  good : goodL ts gap b
  worth : worthL ts b = m
  most : ∀ s, s < k → goodL ts gap (setTo s 14) → worthL ts (setTo s 14) < m ∨ (worthL ts (setTo s 14) = m ∧ before (setTo s 14) b = false)
theorem best_none (ts : List Tree) (gap : Int) : BestTo ts gap 0 [] 0 := ⟨⟨List.Pairwise.nil, fun i hi => by cases hi⟩, rfl, fun s h => absurd h (by omega)⟩
theorem before_trans : ∀ {a b c : List Nat}, before b a = false → before c b = false → before c a = false
  | _, [], c, _, h2 => by
    cases c with
    | nil => rename_i a h1; cases a with
      | nil => rfl
      | cons => simp [before] at h1
    | cons z c => rename_i a h1; cases a with
      | nil => rfl
      | cons => simp [before] at h1
  | [], y :: b, c, h1, h2 => by cases c with
    | nil => rfl
    | cons => rfl
  | x :: a, y :: b, [], h1, h2 => by simp [before] at h2
  | x :: a, y :: b, z :: c, h1, h2 => by
    simp only [before] at h1 h2 ⊢
    by_cases e1 : y = x
    · subst e1
      rw [if_pos rfl] at h1
      by_cases e2 : z = y
      · subst e2
        rw [if_pos rfl] at h2 ⊢
        exact before_trans h1 h2
      · rw [if_neg e2] at h2 ⊢; exact h2
    · rw [if_neg e1] at h1
      by_cases e2 : z = y
      · subst e2
        rw [if_neg e1]; exact h1
      · rw [if_neg e2] at h2
        simp only [decide_eq_false_iff_not] at h1 h2
        by_cases e3 : z = x
        · omega
        · rw [if_neg e3]; simp; omega
theorem before_not : ∀ {a b : List Nat}, before a b = true → before b a = false
  | [], [], h => by simp [before] at h
  | [], _ :: _, _ => rfl
  | _ :: _, [], h => by simp [before] at h
  | x :: a, y :: b, h => by
    simp only [before] at h ⊢
    by_cases e : x = y
    · subst e; rw [if_pos rfl] at h ⊢; exact before_not h
    · rw [if_neg e] at h
      rw [if_neg fun q => e q.symm]
      simp at h ⊢; omega
/-- A set that is better, with the gap. -/
theorem best_take {ts : List Tree} {gap : Int} {k : Nat} {b : List Nat} {m : Int} (h : BestTo ts gap k b m) (hg : goodL ts gap (setTo k 14))
    (hb : m < worthL ts (setTo k 14) ∨ (worthL ts (setTo k 14) = m ∧ before (setTo k 14) b = true)) : BestTo ts gap (k + 1) (setTo k 14) (worthL ts (setTo k 14)) := by
  refine ⟨hg, rfl, fun s hs hgs => ?_⟩
  by_cases e : s = k
  · subst e; exact .inr ⟨rfl, before_self _⟩
  · rcases h.most s (by omega) hgs with h1 | ⟨h1, h2⟩
    · left; omega
    · rcases hb with hb | ⟨hb, hb2⟩
      · left; omega
      · exact .inr ⟨by omega, before_trans (before_not hb2) h2⟩
/-- A set that is not better, or has not the gap. -/
theorem best_leave {ts : List Tree} {gap : Int} {k : Nat} {b : List Nat} {m : Int} (h : BestTo ts gap k b m)
    (hb : goodL ts gap (setTo k 14) → ¬ (m < worthL ts (setTo k 14)) ∧ ¬ (worthL ts (setTo k 14) = m ∧ before (setTo k 14) b = true)) : BestTo ts gap (k + 1) b m := by
  refine ⟨h.good, h.worth, fun s hs hgs => ?_⟩
  by_cases e : s = k
  · subst e
    obtain ⟨h1, h2⟩ := hb hgs
    by_cases e1 : worthL ts (setTo s 14) < m
    · exact .inl e1
    · refine .inr ⟨by omega, ?_⟩
      rcases hbf : before (setTo s 14) b with _ | _
      · rfl
      · exact absurd ⟨by omega, hbf⟩ h2
  · exact h.most s (by omega) hgs
theorem best_end {ts : List Tree} {gap : Int} {b : List Nat} {m : Int} (h14 : ts.length ≤ 14) (h : BestTo ts gap (2 ^ ts.length) b m) (hg : ∀ t ∈ ts, 1 ≤ t.gl ∧ t.gl ≤ 4000) : bestOf ts gap = (b, m) := by
  obtain ⟨b1, b2, b3⟩ := best_facts (ts := ts) (gap := gap) hg
  obtain ⟨s, hs, es⟩ := set_of h14 (b1.1.imp fun {a b} q => q.1) b1.2
  have h1 := b3 b h.good
  have h2 := h.most s hs (by rw [es]; exact b1)
  rw [es] at h2
  rw [h.worth] at h1
  rw [b2] at h2
  have e : m = (bestOf ts gap).2 := by omega
  have f1 : before b (bestOf ts gap).1 = false := by
    rcases h1 with h1 | h1
    · omega
    · exact h1.2
  have f2 : before (bestOf ts gap).1 b = false := by
    rcases h2 with h2 | h2
    · omega
    · exact h2.2
  rw [before_asymm f1 f2, e]
/-- Where two of a list are too near, the list has not the gap. -/
theorem good_pair {ts : List Tree} {gap : Int} {l : List Nat} (h : goodL ts gap l) {i k : Nat} (hi : i ∈ l) (hk : k ∈ l) (hlt : k < i) : hitB ts gap k i = false := by
  obtain ⟨p, hp, rfl⟩ := List.mem_iff_getElem.1 hk
  obtain ⟨q, hq, rfl⟩ := List.mem_iff_getElem.1 hi
  have hpq : p < q := by
    by_cases hqp : q < p
    · have := (List.pairwise_iff_getElem.1 h.1 q p hq hp hqp).1
      omega
    · by_cases e : p = q
      · subst e; omega
      · omega
  exact (List.pairwise_iff_getElem.1 h.1 p q hp hq hpq).2
theorem good_of {ts : List Tree} {gap : Int} {l : List Nat} (hs : l.Pairwise (· < ·)) (hb : ∀ x ∈ l, x < ts.length) (h : ∀ i ∈ l, ∀ k ∈ l, k < i → hitB ts gap k i = false) : goodL ts gap l := by
  refine ⟨?_, hb⟩
  rw [List.pairwise_iff_getElem] at hs ⊢
  intro p q hp hq hpq
  exact ⟨hs p q hp hq hpq, h _ (List.getElem_mem hq) _ (List.getElem_mem hp) (hs p q hp hq hpq)⟩
end Go.Proofs.YtpkjjiieglebbaaDoor
namespace Go.Proofs.YtpkjjiieglebbaaDoor
open Go Go.RowKit
theorem SeqW.nocall {P : Program} {ops : Array Oper} {Q : Exit → _root_.Go.Act → World → Prop} {S : World → Prop} {i : Nat} {ks : List (Nat × Bool)} {o : Oper} {a : _root_.Go.Act} {w : World} (ho : opAt ops.toList i = some o) (hw : Region.wanted o (yielded ops a.tmps) = false) (hS : S w)
    (h : SeqW P ops Q S ks (a.put o.dst undef) w) : SeqW P ops Q S ((i, false) :: ks) a w :=
  wpOp_step (opAt_get ho) fun K' hK => by rw [if_neg (by rw [hw]; decide)]; exact hK _ _ ⟨hS, h⟩
theorem bit_test {s k : Nat} : (((s : Int) / 2 ^ k).tmod 2 == 1) = s.testBit k := by
  rw [Nat.testBit_eq_decide_div_mod_eq]
  have e : ((s : Int) / 2 ^ k) = ((s / 2 ^ k : Nat) : Int) := by simp
  rw [e, Int.tmod_eq_emod_of_nonneg (Int.natCast_nonneg _), Bool.eq_iff_iff]
  simp only [beq_iff_eq, decide_eq_true_eq]
  omega
theorem refBit_any (s k : Nat) (w : World) (_hs : s ≤ 16384) (hk : k ≤ 14) :
    Calls Tryd.prog 98 #[.int .i64 (s : Int), .int .i64 (k : Int)] w fun e w' => e = .returned (.bool (s.testBit k)) ∧ w = w' := by
  have HB := Lib.hid (bit_test (s := s) (k := k))
  go_enter Tryd.func98, Tryd.ntmps98
  go_wp2_with fail
  go_ret
  exact ⟨by rw [← HB.out]; rfl, rfl⟩
set_option maxHeartbeats 1000000 in
theorem refList_any (s : Nat) (w : World) (hs : s ≤ 16384) :
    Calls Tryd.prog 76 #[.int .i64 (s : Int)] w fun e w' => ∃ a c, e = .returned (.slice a (setTo s 14).length c) ∧
      w'.ownsRow w.heap.size 3 1 (.slice a (setTo s 14).length c) (setTo s 14).length ((setTo s 14).map fun i : Nat => Value.int .i64 (i : Int)) ∧ Below w.heap.size w w' := by
  obtain ⟨i0, hi0, hz0, hz1, hz2⟩ := info_parts info3
  go_enter Tryd.func76, Tryd.ntmps76
  go_wp2_with fail
  go_loopg [3, 4] 14 (fun g o iv wr => ∃ (i : Nat) (va : Option Addr) (vc : Nat), i + g = 14 ∧ iv = .int .i64 i ∧ o = .slice va (setTo s i).length vc ∧ Hid (wr.ownsRow w.heap.size 3 1 (.slice va (setTo s i).length vc) (setTo s i).length ((setTo s i).map fun i : Nat => Value.int .i64 (i : Int))) ∧ Below w.heap.size w wr)
  case atStart => exact ⟨0, none, 0, by omega, rfl, rfl, Lib.hid (World.ownsRow_nil _ _ _ _), Below.refl _ _⟩
  case round =>
    obtain ⟨i, va, vc, hig, rfl, rfl, HR, hB⟩ := hrel
    cases gk with
    | zero =>
      obtain rfl : i = 14 := by omega
      go_wp2_with fail
      go_ret
      exact ⟨va, vc, rfl, HR.out, hB⟩
    | succ g =>
      have hi : i < 14 := by omega
      have hi' : (i : Int) < 14 := by omega
      have hl := setTo_le s i
      have hsz := hB.size
      rcases hb : s.testBit i with _ | _
      · have HN := Lib.hid (setTo_no hb)
        have HBB := Lib.hid hb
        clear hb
        go_wp2_with (go_at_call 98; refine (refBit_any s i _ (by omega) (by omega)).mono ?_; rw [HBB.out]; rintro e w' ⟨rfl, rfl⟩)
        go_roundg g
        case rel => exact ⟨i + 1, va, vc, by omega, by go_num, by rw [HN.out], Lib.hid (by rw [HN.out]; exact HR.out), hB⟩
        case measure => omega
      · have HN := Lib.hid (setTo_yes hb)
        have HBB := Lib.hid hb
        clear hb
        go_wp2_with (first
          | (go_at_call 98; refine (refBit_any s i _ (by omega) (by omega)).mono ?_; rw [HBB.out]; rintro e w' ⟨rfl, rfl⟩)
          | (at_builtin; refine wpList_append_own _ rfl _ _ 30 rfl w.heap.size 3 i0 (.int .i64 0) 1 8 Tryd.underlying30 hi0 hz0 hz1 hz2 rfl (by decide) _ _ _ rfl (HR.out.alloc _) ⟨wr.heap.size, 0, none⟩ 1 1 [.int .i64 (i : Int)] rfl rfl (cell_one_new _ _ _) (by simp [Value.oneCell']) (by unfold maxLen; omega) (by omega) (by simp; omega) ?_; intro v2 w2 hown2 hgrow2 _; obtain ⟨va2, vc2, rfl⟩ := row_form hown2))
        go_roundg g
        case rel => exact ⟨i + 1, va2, vc2, by omega, by go_num, by rw [HN.out, List.length_append, List.length_singleton], Lib.hid (by rw [HN.out, List.length_append, List.length_singleton, List.map_append]; exact hown2), (hB.alloc (by omega) _).grown hgrow2 (by simp; omega) (fun j ej => by have := row_ge HR.out j ej; omega)⟩
        case measure => omega
set_option maxHeartbeats 1000000 in
theorem refWorth_any (a la : Option Addr) (n c ln lc : Nat) (ts : List Tree) (lo hi pr ne : Int) (l : List Nat) (w : World) (hT : Trees w a n c ts) (hL : IntsAt w la ln (natsI l)) (hlt : ∀ i ∈ l, i < ts.length)
    (h14 : ts.length ≤ 14) (hgl : ∀ t ∈ ts, 0 ≤ t.gl ∧ t.gl ≤ 4000) (hll : l.length ≤ 14) :
    Calls Tryd.prog 77 #[.agg #[.slice a n c, .int .i64 lo, .int .i64 hi, .int .i64 pr, .int .i64 ne], .slice la ln lc] w fun e w' => e = .returned (.int .i64 (worthL ts l)) ∧ Below w.heap.size w w' := by
  have hln : ln = l.length := by rw [hL.1]; simp [natsI]
  subst hln
  have HTn := Lib.hid hT.len
  have HLT := Lib.hid hlt
  have HGL := Lib.hid hgl
  have hn14 : n ≤ 14 := by rw [hT.len]; exact h14
  have HX : Hid (∀ W, Below (w.heap.size + 1) (w.alloc (.cells #[.slice a n c, .int .i64 lo, .int .i64 hi, .int .i64 pr, .int .i64 ne] 29)) W → Box W w.heap.size #[.slice a n c, .int .i64 lo, .int .i64 hi, .int .i64 pr, .int .i64 ne] 29 ∧ Trees W a n c ts ∧ IntsAt W la l.length (natsI l) ∧ Below w.heap.size w W) := Lib.hid fun W h => by
    have hB : Below w.heap.size w W := ((Below.refl _ _).alloc (Nat.le_refl _) _).trans (h.mono (by omega))
    exact ⟨(Box.new w _ _).below h (by omega), hT.below hB, hL.below hB, hB⟩
  clear hT hL hlt hgl h14
  go_enter Tryd.func77, Tryd.ntmps77
  go_wp2_with fail
  go_loopw [5, 6] (fun nv iv wr => ∃ (i : Nat) (z : Int), i ≤ l.length ∧ iv = .int .i64 i ∧ nv = .int .i64 z ∧ 0 ≤ z ∧ z ≤ 4000 * (i : Int) ∧ Hid (z = worthL ts (l.take i)) ∧ Below (w.heap.size + 1) (w.alloc (.cells #[.slice a n c, .int .i64 lo, .int .i64 hi, .int .i64 pr, .int .i64 ne] 29)) wr) (fun _ iv _ => l.length - (intOf iv).toNat)
  case atStart => exact ⟨0, 0, Nat.zero_le _, rfl, rfl, by omega, by omega, Lib.hid rfl, Below.refl _ _⟩
  case round =>
    obtain ⟨i, z, hi1, rfl, rfl, hz0, hz1, HZ, hB⟩ := hrel
    by_cases hil : i < l.length
    case neg =>
      obtain rfl : i = l.length := by omega
      have HZ2 : Hid (z = worthL ts l) := Lib.hid (by rw [HZ.out, List.take_length])
      go_wp2_with fail
      go_ret
      exact ⟨by rw [← HZ2.out]; rfl, (HX.out _ hB).2.2.2⟩
    obtain ⟨x, hx⟩ : ∃ x, l[i]? = some x := ⟨_, List.getElem?_eq_getElem hil⟩
    have hxt := HLT.out x (List.mem_of_getElem? hx)
    obtain ⟨u, hu⟩ : ∃ u, ts[x]? = some u := ⟨_, List.getElem?_eq_getElem hxt⟩
    have hgu := HGL.out u (List.mem_of_getElem? hu)
    obtain ⟨y1, y2, y3, y4⟩ := HX.out _ hB
    obtain ⟨b, off, ha, hbl, hTA⟩ := y2.at_.resolve_left (fun h => by simp [h] at hu)
    subst ha
    obtain ⟨lb, loff, hla, hlbl, hLA⟩ := y3.2.resolve_left (fun h => by have := natsI_at l i x hx; simp [h] at this)
    subst hla
    have hWT := worth_take (ts := ts) hx hu
    have hxn : x < n := by rw [HTn.out]; exact hxt
    obtain ⟨utag, ux, uy, ugl, ugh, ucr⟩ := u
    dsimp only at hgu hWT
    obtain ⟨_, _, _, f3, _, _⟩ := hTA x _ hu
    dsimp only at f3
    have s0 : wr.cell? ⟨w.heap.size, 0, none⟩ = some (.slice (some ⟨b, off, none⟩) n c) := y1.cell 0
    have c1 : wr.cell? ⟨lb, loff + i, none⟩ = some (.int .i64 (x : Int)) := hLA i _ (natsI_at l i x hx)
    have HZN : Hid (z + ugl = worthL ts (l.take (i + 1))) := Lib.hid (by rw [hWT, HZ.out])
    have hwz : IntKind.i64.wrap (z + ugl) = z + ugl := by rw [IntKind.wrap_i64]; omega
    clear hWT hu hx y1 y2 y3 y4 hTA hLA
    go_wp2_with fail
    refine region_seq (fun W => ∀ p, W.cell? p = wr.cell? p) [(0, true), (1, true), (2, true), (3, true), (4, true), (5, true), (6, true), (7, true), (8, true), (9, true), (10, true), (11, true), (12, true)]
      (by kernel_rfl) (by kernel_rfl) (by kernel_rfl) (by simp) (fun _ _ _ _ h => h) (fun _ => rfl) ?_
    iterate 13 (refine SeqW.take (v := ?_) rfl (by rfl) (fun W hW => ?_) ?_; rotate_left; (go_simp; with_reducible rfl); simp only [Act.put, List.setIfInBounds_toArray, List.set_cons_zero, List.set_cons_succ])
    refine SeqW.done ?_
    go_wp2_with fail
    go_roundw
    case rel => exact ⟨i + 1, z + ugl, by omega, by go_num, rfl, by omega, by omega, HZN, hB.drew⟩
    case measure => simp [intOf]; omega
/-- What gap looks at: pairs of a set, up to (i, k). -/
def GapTo (ts : List Tree) (far : Int) (s i k : Nat) : Prop := ∀ p q, (p < i ∨ (p = i ∧ q < k)) → q < p → s.testBit p = true → s.testBit q = true → hitB ts far q p = false
theorem gapTo_next {ts : List Tree} {far : Int} {s i k : Nat} (h : GapTo ts far s i k) (h2 : s.testBit i = true → s.testBit k = true → hitB ts far k i = false) : GapTo ts far s i (k + 1) := fun p q hpq hlt hp hq => by
  by_cases e : p = i ∧ q = k
  · obtain ⟨rfl, rfl⟩ := e; exact h2 hp hq
  · exact h p q (by omega) hlt hp hq
theorem gapTo_row {ts : List Tree} {far : Int} {s i : Nat} (h : GapTo ts far s i i) : GapTo ts far s (i + 1) 0 := fun p q hpq hlt hp hq => h p q (by omega) hlt hp hq
theorem gapTo_good {ts : List Tree} {far : Int} {s : Nat} (hs : s < 2 ^ ts.length) (h : GapTo ts far s ts.length 0) : goodL ts far (setTo s 14) :=
  good_of (setTo_sorted _ _) (fun _ hx => setTo_lt hs hx) fun i hi k hk hlt => h i k (.inl (setTo_lt hs hi)) hlt (setTo_mem.1 hi).2 (setTo_mem.1 hk).2
theorem gap_not {ts : List Tree} {far : Int} {s i k : Nat} (h14 : ts.length ≤ 14) (hi : i < ts.length) (hk : k < i) (h1 : s.testBit i = true) (h2 : s.testBit k = true) (h3 : hitB ts far k i = true) : ¬ goodL ts far (setTo s 14) := fun h => by
  have := good_pair h (setTo_mem.2 ⟨by omega, h1⟩) (setTo_mem.2 ⟨by omega, h2⟩) hk
  rw [h3] at this; cases this
def GapQ (ts : List Tree) (far : Int) (s : Nat) (w : World) (e : Ending) (w' : World) : Prop := ∃ ok : Bool, e = .returned (.bool ok) ∧ (ok = true ↔ goodL ts far (setTo s 14)) ∧ Below w.heap.size w w'
set_option maxRecDepth 100000 in
set_option maxHeartbeats 4000000 in
theorem refGap_any (a : Option Addr) (n c : Nat) (ts : List Tree) (lo hi pr ne far : Int) (s : Nat) (w : World) (hT : Trees w a n c ts) (hs : s < 2 ^ ts.length) (h14 : ts.length ≤ 14) (hok : ∀ t ∈ ts, okTree t) (hfar : 0 ≤ far ∧ far ≤ 100000) :
    Calls Tryd.prog 78 #[.agg #[.slice a n c, .int .i64 lo, .int .i64 hi, .int .i64 pr, .int .i64 ne], .int .i64 (s : Int), .int .i64 far] w (GapQ ts far s w) := by
  have HTn := hT.len
  subst HTn
  have hs14 : s ≤ 16384 := by
    have : 2 ^ ts.length ≤ 2 ^ 14 := Nat.pow_le_pow_right (by omega) h14
    omega
  have HS := Lib.hid hs
  have HOK := Lib.hid hok
  have HF := Lib.hid hfar
  have HX : Hid (∀ W, Below (w.heap.size + 1) (w.alloc (.cells #[.slice a ts.length c, .int .i64 lo, .int .i64 hi, .int .i64 pr, .int .i64 ne] 29)) W → Box W w.heap.size #[.slice a ts.length c, .int .i64 lo, .int .i64 hi, .int .i64 pr, .int .i64 ne] 29 ∧ Trees W a ts.length c ts ∧ Below w.heap.size w W) := Lib.hid fun W h => by
    have hB : Below w.heap.size w W := ((Below.refl _ _).alloc (Nat.le_refl _) _).trans (h.mono (by omega))
    exact ⟨(Box.new w _ _).below h (by omega), hT.below hB, hB⟩
  clear hT hok hs
  go_enter Tryd.func78, Tryd.ntmps78
  go_wp2_with fail
  go_loopw [7] (fun iv wr => ∃ i : Nat, i ≤ ts.length ∧ iv = .int .i64 i ∧ Hid (GapTo ts far s i 0) ∧ Below (w.heap.size + 1) (w.alloc (.cells #[.slice a ts.length c, .int .i64 lo, .int .i64 hi, .int .i64 pr, .int .i64 ne] 29)) wr) (fun iv _ => ts.length - (intOf iv).toNat)
  case atStart => exact ⟨0, Nat.zero_le _, rfl, Lib.hid (fun p q h => absurd h (by omega)), Below.refl _ _⟩
  case round =>
    obtain ⟨i, hi1, rfl, HG, hB⟩ := hrel
    obtain ⟨wo, rfl⟩ : ∃ wo : World, wo = wr := ⟨_, rfl⟩
    have s0 : wo.cell? ⟨w.heap.size, 0, none⟩ = some (.slice a ts.length c) := (HX.out _ hB).1.cell 0
    by_cases hil : i < ts.length
    case neg =>
      obtain rfl : i = ts.length := by omega
      have HGG := Lib.hid (gapTo_good HS.out HG.out)
      go_wp2_with fail
      go_ret
      exact ⟨true, rfl, ⟨fun _ => HGG.out, fun _ => rfl⟩, (HX.out _ hB).2.2⟩
    obtain ⟨t, ht⟩ : ∃ t, ts[i]? = some t := ⟨_, List.getElem?_eq_getElem hil⟩
    have hot := Lib.hid (HOK.out t (List.mem_of_getElem? ht))
    have HTI := Lib.hid ht
    clear ht
    go_wp2_with fail
    go_loopw [8] (fun kv wr => ∃ k : Nat, k ≤ i ∧ kv = .int .i64 k ∧ Hid (GapTo ts far s i k) ∧ Below (w.heap.size + 1) (w.alloc (.cells #[.slice a ts.length c, .int .i64 lo, .int .i64 hi, .int .i64 pr, .int .i64 ne] 29)) wr) (fun kv _ => i - (intOf kv).toNat)
    case atStart => exact ⟨0, Nat.zero_le _, rfl, HG, hB⟩
    case round =>
      obtain ⟨k, hk1, rfl, HK, hBk⟩ := hrel
      clear s0
      by_cases hki : k < i
      case neg =>
        obtain rfl : k = i := by omega
        have HN := Lib.hid (gapTo_row HK.out)
        go_wp2_with fail
        go_roundw
        case rel => exact ⟨k + 1, by omega, by go_num, HN, hBk⟩
        case measure => simp [intOf]; omega
      obtain ⟨u, hu⟩ : ∃ u, ts[k]? = some u := ⟨_, List.getElem?_eq_getElem (by omega)⟩
      have hou := Lib.hid (HOK.out u (List.mem_of_getElem? hu))
      have ht := HTI.out
      have hkl : k < ts.length := by omega
      obtain ⟨y1, y2, y3⟩ := HX.out _ hBk
      obtain ⟨b, off, ha, hbl, hTA⟩ := y2.at_.resolve_left (fun h => by simp [h] at hu)
      subst ha
      have hSX : Box wr.drew w.heap.size #[.slice (some ⟨b, off, none⟩) ts.length c, .int .i64 lo, .int .i64 hi, .int .i64 pr, .int .i64 ne] 29 ∧ TreesAt wr.drew b off ts := ⟨y1.drew, hTA.drew⟩
      clear y1 y2 hTA
      rcases hb1 : s.testBit i with _ | _
      · have B1 := Lib.hid hb1
        have HKN := Lib.hid (gapTo_next HK.out (fun h => by rw [hb1] at h; cases h))
        clear hb1 hu ht
        go_wp2_with fail
        refine region_seq (fun W => Box W w.heap.size #[.slice (some ⟨b, off, none⟩) ts.length c, .int .i64 lo, .int .i64 hi, .int .i64 pr, .int .i64 ne] 29 ∧ TreesAt W b off ts) [(0, true), (1, true), (2, false), (3, true), (4, true), (5, true), (6, false), (7, true), (8, true), (9, true), (10, true), (11, true), (12, true), (13, true), (14, true), (15, true), (16, true), (17, true), (18, true), (19, true), (20, false), (21, true)]
          (by kernel_rfl) (by kernel_rfl) (by kernel_rfl) (by simp) (fun _ _ _ _ h => h) hSX ?_
        iterate 2 (refine SeqW.take (v := ?_) rfl (by rfl) (fun W hW => ?_) ?_; rotate_left; (go_simp; with_reducible rfl); simp only [Act.put, List.setIfInBounds_toArray, List.set_cons_zero, List.set_cons_succ])
        refine SeqW.call rfl (by rfl) (fun K hK => ?_)
        go_simp
        refine (refBit_any s i _ hs14 (by omega)).mono ?_
        rw [B1.out]
        rintro e w' ⟨rfl, rfl⟩
        go_simp
        refine hK.out _ _ hSX ?_
        clear hK K
        (refine SeqW.take (v := ?_) rfl (by rfl) (fun W hW => ?_) ?_; rotate_left; (go_simp; with_reducible rfl); simp only [Act.put, List.setIfInBounds_toArray, List.set_cons_zero, List.set_cons_succ])
        iterate 2 (refine SeqW.skip rfl (by rfl) ?_; simp only [Act.put, List.setIfInBounds_toArray, List.set_cons_zero, List.set_cons_succ])
        refine SeqW.nocall rfl (by rfl) hSX ?_
        simp only [Act.put, List.setIfInBounds_toArray, List.set_cons_zero, List.set_cons_succ]
        iterate 2 (refine SeqW.take (v := ?_) rfl (by rfl) (fun W hW => ?_) ?_; rotate_left; (go_simp; with_reducible rfl); simp only [Act.put, List.setIfInBounds_toArray, List.set_cons_zero, List.set_cons_succ])
        iterate 11 (refine SeqW.skip rfl (by rfl) ?_; simp only [Act.put, List.setIfInBounds_toArray, List.set_cons_zero, List.set_cons_succ])
        refine SeqW.nocall rfl (by rfl) hSX ?_
        simp only [Act.put, List.setIfInBounds_toArray, List.set_cons_zero, List.set_cons_succ]
        (refine SeqW.take (v := ?_) rfl (by rfl) (fun W hW => ?_) ?_; rotate_left; (go_simp; with_reducible rfl); simp only [Act.put, List.setIfInBounds_toArray, List.set_cons_zero, List.set_cons_succ])
        refine SeqW.done ?_
        go_wp2_with fail
        go_roundw
        case rel => exact ⟨k + 1, by omega, by go_num, HKN, hBk.drew⟩
        case measure => simp [intOf]; omega
      · rcases hb2 : s.testBit k with _ | _
        · have B1 := Lib.hid hb1
          have B2 := Lib.hid hb2
          have HKN := Lib.hid (gapTo_next HK.out (fun _ h => by rw [hb2] at h; cases h))
          clear hb1 hb2 hu ht
          go_wp2_with fail
          refine region_seq (fun W => Box W w.heap.size #[.slice (some ⟨b, off, none⟩) ts.length c, .int .i64 lo, .int .i64 hi, .int .i64 pr, .int .i64 ne] 29 ∧ TreesAt W b off ts) [(0, true), (1, true), (2, false), (3, true), (4, true), (5, true), (6, false), (7, true), (8, true), (9, true), (10, true), (11, true), (12, true), (13, true), (14, true), (15, true), (16, true), (17, true), (18, true), (19, true), (20, false), (21, true)]
            (by kernel_rfl) (by kernel_rfl) (by kernel_rfl) (by simp) (fun _ _ _ _ h => h) hSX ?_
          iterate 2 (refine SeqW.take (v := ?_) rfl (by rfl) (fun W hW => ?_) ?_; rotate_left; (go_simp; with_reducible rfl); simp only [Act.put, List.setIfInBounds_toArray, List.set_cons_zero, List.set_cons_succ])
          refine SeqW.call rfl (by rfl) (fun K hK => ?_)
          go_simp
          refine (refBit_any s i _ hs14 (by omega)).mono ?_
          rw [B1.out]
          rintro e w' ⟨rfl, rfl⟩
          go_simp
          refine hK.out _ _ hSX ?_
          clear hK K
          (refine SeqW.take (v := ?_) rfl (by rfl) (fun W hW => ?_) ?_; rotate_left; (go_simp; with_reducible rfl); simp only [Act.put, List.setIfInBounds_toArray, List.set_cons_zero, List.set_cons_succ])
          iterate 2 (refine SeqW.take (v := ?_) rfl (by rfl) (fun W hW => ?_) ?_; rotate_left; (go_simp; with_reducible rfl); simp only [Act.put, List.setIfInBounds_toArray, List.set_cons_zero, List.set_cons_succ])
          refine SeqW.call rfl (by rfl) (fun K hK => ?_)
          go_simp
          refine (refBit_any s k _ hs14 (by omega)).mono ?_
          rw [B2.out]
          rintro e w' ⟨rfl, rfl⟩
          go_simp
          refine hK.out _ _ hSX ?_
          clear hK K
          iterate 2 (refine SeqW.take (v := ?_) rfl (by rfl) (fun W hW => ?_) ?_; rotate_left; (go_simp; with_reducible rfl); simp only [Act.put, List.setIfInBounds_toArray, List.set_cons_zero, List.set_cons_succ])
          iterate 11 (refine SeqW.skip rfl (by rfl) ?_; simp only [Act.put, List.setIfInBounds_toArray, List.set_cons_zero, List.set_cons_succ])
          refine SeqW.nocall rfl (by rfl) hSX ?_
          simp only [Act.put, List.setIfInBounds_toArray, List.set_cons_zero, List.set_cons_succ]
          (refine SeqW.take (v := ?_) rfl (by rfl) (fun W hW => ?_) ?_; rotate_left; (go_simp; with_reducible rfl); simp only [Act.put, List.setIfInBounds_toArray, List.set_cons_zero, List.set_cons_succ])
          refine SeqW.done ?_
          go_wp2_with fail
          go_roundw
          case rel => exact ⟨k + 1, by omega, by go_num, HKN, hBk.drew⟩
          case measure => simp [intOf]; omega
        · have B1 := Lib.hid hb1
          have B2 := Lib.hid hb2
          have HIT : Hid (hitB ts far k i = within t.x t.y u.x u.y far) := Lib.hid (by unfold hitB; rw [hu, ht]; exact within_comm _ _ _ _ _)
          have hbl2 : b < wr.heap.size := hbl
          clear hb1 hb2
          go_wp2_with fail
          refine region_seq (fun W => Box W w.heap.size #[.slice (some ⟨b, off, none⟩) ts.length c, .int .i64 lo, .int .i64 hi, .int .i64 pr, .int .i64 ne] 29 ∧ TreesAt W b off ts) [(0, true), (1, true), (2, false), (3, true), (4, true), (5, true), (6, false), (7, true), (8, true), (9, true), (10, true), (11, true), (12, true), (13, true), (14, true), (15, true), (16, true), (17, true), (18, true), (19, true), (20, false), (21, true)]
            (by kernel_rfl) (by kernel_rfl) (by kernel_rfl) (by simp) (fun _ _ _ _ h => h) hSX ?_
          iterate 2 (refine SeqW.take (v := ?_) rfl (by rfl) (fun W hW => ?_) ?_; rotate_left; (go_simp; with_reducible rfl); simp only [Act.put, List.setIfInBounds_toArray, List.set_cons_zero, List.set_cons_succ])
          refine SeqW.call rfl (by rfl) (fun K hK => ?_)
          go_simp
          refine (refBit_any s i _ hs14 (by omega)).mono ?_
          rw [B1.out]
          rintro e w' ⟨rfl, rfl⟩
          go_simp
          refine hK.out _ _ hSX ?_
          clear hK K
          (refine SeqW.take (v := ?_) rfl (by rfl) (fun W hW => ?_) ?_; rotate_left; (go_simp; with_reducible rfl); simp only [Act.put, List.setIfInBounds_toArray, List.set_cons_zero, List.set_cons_succ])
          iterate 2 (refine SeqW.take (v := ?_) rfl (by rfl) (fun W hW => ?_) ?_; rotate_left; (go_simp; with_reducible rfl); simp only [Act.put, List.setIfInBounds_toArray, List.set_cons_zero, List.set_cons_succ])
          refine SeqW.call rfl (by rfl) (fun K hK => ?_)
          go_simp
          refine (refBit_any s k _ hs14 (by omega)).mono ?_
          rw [B2.out]
          rintro e w' ⟨rfl, rfl⟩
          go_simp
          refine hK.out _ _ hSX ?_
          clear hK K
          iterate 3 (refine SeqW.take (v := ?_) rfl (by rfl) (fun W hW => ?_) ?_; rotate_left; (go_simp; with_reducible rfl); simp only [Act.put, List.setIfInBounds_toArray, List.set_cons_zero, List.set_cons_succ])
          (refine SeqW.take (v := ?_) rfl (by rfl) (fun W hW => ?_) ?_; rotate_left; (obtain ⟨q0, q1⟩ := hW; have b0 : W.cell? ⟨w.heap.size, 0, none⟩ = some (.slice (some ⟨b, off, none⟩) ts.length c) := q0.cell 0; obtain ⟨c0, c1, c2, c3, c4, c5⟩ := q1 i t ht; obtain ⟨d0, d1, d2, d3, d4, d5⟩ := q1 k u hu; clear q0 q1; go_simp; with_reducible rfl); simp only [Act.put, List.setIfInBounds_toArray, List.set_cons_zero, List.set_cons_succ])
          iterate 2 (refine SeqW.take (v := ?_) rfl (by rfl) (fun W hW => ?_) ?_; rotate_left; (go_simp; with_reducible rfl); simp only [Act.put, List.setIfInBounds_toArray, List.set_cons_zero, List.set_cons_succ])
          (refine SeqW.take (v := ?_) rfl (by rfl) (fun W hW => ?_) ?_; rotate_left; (obtain ⟨q0, q1⟩ := hW; have b0 : W.cell? ⟨w.heap.size, 0, none⟩ = some (.slice (some ⟨b, off, none⟩) ts.length c) := q0.cell 0; obtain ⟨c0, c1, c2, c3, c4, c5⟩ := q1 i t ht; obtain ⟨d0, d1, d2, d3, d4, d5⟩ := q1 k u hu; clear q0 q1; go_simp; with_reducible rfl); simp only [Act.put, List.setIfInBounds_toArray, List.set_cons_zero, List.set_cons_succ])
          (refine SeqW.take (v := ?_) rfl (by rfl) (fun W hW => ?_) ?_; rotate_left; (go_simp; with_reducible rfl); simp only [Act.put, List.setIfInBounds_toArray, List.set_cons_zero, List.set_cons_succ])
          (refine SeqW.take (v := ?_) rfl (by rfl) (fun W hW => ?_) ?_; rotate_left; (obtain ⟨q0, q1⟩ := hW; have b0 : W.cell? ⟨w.heap.size, 0, none⟩ = some (.slice (some ⟨b, off, none⟩) ts.length c) := q0.cell 0; obtain ⟨c0, c1, c2, c3, c4, c5⟩ := q1 i t ht; obtain ⟨d0, d1, d2, d3, d4, d5⟩ := q1 k u hu; clear q0 q1; go_simp; with_reducible rfl); simp only [Act.put, List.setIfInBounds_toArray, List.set_cons_zero, List.set_cons_succ])
          iterate 2 (refine SeqW.take (v := ?_) rfl (by rfl) (fun W hW => ?_) ?_; rotate_left; (go_simp; with_reducible rfl); simp only [Act.put, List.setIfInBounds_toArray, List.set_cons_zero, List.set_cons_succ])
          (refine SeqW.take (v := ?_) rfl (by rfl) (fun W hW => ?_) ?_; rotate_left; (obtain ⟨q0, q1⟩ := hW; have b0 : W.cell? ⟨w.heap.size, 0, none⟩ = some (.slice (some ⟨b, off, none⟩) ts.length c) := q0.cell 0; obtain ⟨c0, c1, c2, c3, c4, c5⟩ := q1 i t ht; obtain ⟨d0, d1, d2, d3, d4, d5⟩ := q1 k u hu; clear q0 q1; go_simp; with_reducible rfl); simp only [Act.put, List.setIfInBounds_toArray, List.set_cons_zero, List.set_cons_succ])
          (refine SeqW.take (v := ?_) rfl (by rfl) (fun W hW => ?_) ?_; rotate_left; (go_simp; with_reducible rfl); simp only [Act.put, List.setIfInBounds_toArray, List.set_cons_zero, List.set_cons_succ])
          refine SeqW.call rfl (by rfl) (fun K hK => ?_)
          go_simp
          refine (apart_any t u far _ hot.out hou.out HF.out).mono ?_
          rintro e w2 ⟨rfl, hb2⟩
          have hS2 : Box w2 w.heap.size #[.slice (some ⟨b, off, none⟩) ts.length c, .int .i64 lo, .int .i64 hi, .int .i64 pr, .int .i64 ne] 29 ∧ TreesAt w2 b off ts := ⟨hSX.1.below hb2 hSX.1.lt, hSX.2.below hb2 (by simp; exact hbl2)⟩
          go_simp
          refine hK.out _ _ hS2 ?_
          clear hK K
          have hB2 := hBk.drew.trans (hb2.mono (by have := hBk.size; simpa using this))
          clear hb2
          (refine SeqW.take (v := ?_) rfl (by rfl) (fun W hW => ?_) ?_; rotate_left; (go_simp; with_reducible rfl); simp only [Act.put, List.setIfInBounds_toArray, List.set_cons_zero, List.set_cons_succ])
          refine SeqW.done ?_
          rcases hw : within t.x t.y u.x u.y far with _ | _
          · have HKN := Lib.hid (gapTo_next HK.out (fun _ _ => by rw [HIT.out, hw]))
            go_wp2_with fail
            go_roundw
            case rel => exact ⟨k + 1, by omega, by go_num, HKN, hB2⟩
            case measure => simp [intOf]; omega
          · have HNG := Lib.hid (gap_not (far := far) h14 hil hki B1.out B2.out (by rw [HIT.out, hw]))
            go_wp2_with fail
            go_ret
            exact ⟨false, rfl, ⟨fun h => (by cases h), fun h => absurd h HNG.out⟩, (HX.out _ hB2).2.2⟩
end Go.Proofs.YtpkjjiieglebbaaDoor
