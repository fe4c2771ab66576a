/- Contracts of the laws' helpers Before and priced. Conditions: lists of indices lie in memory as told; the trees too, with coordinates within their bounds. -/
import Derived.Test.YtpkjjiieglebbaaDoorQ4
import Derived.Test.YtpkjjiieglebbaaDoorQ5
import Derived.Test.YtpkjjiieglebbaaDoorR2
namespace Go.Proofs.YtpkjjiieglebbaaDoor
open Go Go.RowKit
theorem before_drop {l m : List Nat} {k x y : Nat} (hx : l[k]? = some x) (hy : m[k]? = some y) : before (l.drop k) (m.drop k) = if x = y then before (l.drop (k + 1)) (m.drop (k + 1)) else decide (x < y) := by
  obtain ⟨h1, e1⟩ := List.getElem?_eq_some_iff.1 hx
  obtain ⟨h2, e2⟩ := List.getElem?_eq_some_iff.1 hy
  rw [List.drop_eq_getElem_cons h1, List.drop_eq_getElem_cons h2, e1, e2]
  rfl
theorem before_end {l m : List Nat} (h : l = [] ∨ m = []) : before l m = decide (l.length < m.length) := by
  rcases h with rfl | rfl
  · cases m <;> simp [before]
  · cases l <;> simp [before]
set_option maxHeartbeats 1000000 in
theorem refBefore_any (pa pb : Option Addr) (na nb ca cb : Nat) (l m : List Nat) (w : World) (hA : IntsAt w pa na (natsI l)) (hB : IntsAt w pb nb (natsI m)) (hl : l.length ≤ 1000) (_hm : m.length ≤ 1000) :
    Calls Tryd.prog 48 #[.slice pa na ca, .slice pb nb cb] w fun e w' => e = .returned (.bool (before l m)) ∧ Below w.heap.size w w' := by
  have hna : na = l.length := by rw [hA.1]; simp [natsI]
  have hnb : nb = m.length := by rw [hB.1]; simp [natsI]
  subst hna
  subst hnb
  have HA := Lib.hid hA
  have HB := Lib.hid hB
  clear hA hB
  go_enter Tryd.func48, Tryd.ntmps48
  go_wp2_with fail
  go_loopw [5] (fun iv wr => ∃ k : Nat, k ≤ l.length ∧ k ≤ m.length ∧ iv = .int .i64 k ∧ Hid (before l m = before (l.drop k) (m.drop k)) ∧ Hid (Below w.heap.size w wr)) (fun iv _ => l.length - (intOf iv).toNat)
  case atStart => exact ⟨0, Nat.zero_le _, Nat.zero_le _, rfl, Lib.hid rfl, Lib.hid (Below.refl _ _)⟩
  case round =>
    obtain ⟨k, hk1, hk2, rfl, HK, HW⟩ := hrel
    by_cases h1 : k < l.length
    case neg =>
      have HE : Hid (before l m = decide (l.length < m.length)) := Lib.hid (by
        have hkl : k = l.length := by omega
        rw [HK.out, before_end (.inl (by rw [hkl, List.drop_length]))]
        simp only [List.length_drop]
        congr 1
        apply propext
        omega)
      go_wp2_with fail
      go_ret
      rw [HE.out]
      exact ⟨by first | rfl | (congr 2; simp), HW.out⟩
    by_cases h2 : k < m.length
    case neg =>
      have HE : Hid (before l m = false) := Lib.hid (by
        have hkl : k = m.length := by omega
        rw [HK.out, before_end (.inr (by rw [hkl, List.drop_length]))]
        simp only [List.length_drop, decide_eq_false_iff_not]
        omega)
      have hlm : ¬ l.length < m.length := by omega
      go_wp2_with fail
      go_ret
      rw [HE.out]
      exact ⟨by first | rfl | (congr 2; simp; omega), HW.out⟩
    obtain ⟨x, hx⟩ : ∃ x, l[k]? = some x := ⟨_, List.getElem?_eq_getElem h1⟩
    obtain ⟨y, hy⟩ : ∃ y, m[k]? = some y := ⟨_, List.getElem?_eq_getElem h2⟩
    have hd := before_drop hx hy
    rcases HA.out.2 with h | ⟨b1, o1, rfl, hl1, hc1⟩
    · have := natsI_at l k x hx; simp [h] at this
    rcases HB.out.2 with h | ⟨b2, o2, rfl, hl2, hc2⟩
    · have := natsI_at m k y hy; simp [h] at this
    have c1 : wr.cell? ⟨b1, o1 + k, none⟩ = some (.int .i64 (x : Int)) := (HW.out.cell (by exact hl1)).trans (hc1 k _ (natsI_at l k x hx))
    have c2 : wr.cell? ⟨b2, o2 + k, none⟩ = some (.int .i64 (y : Int)) := (HW.out.cell (by exact hl2)).trans (hc2 k _ (natsI_at m k y hy))
    clear hx hy hc1 hc2
    by_cases hxy : x = y
    · subst hxy
      have HN : Hid (before l m = before (l.drop (k + 1)) (m.drop (k + 1))) := Lib.hid (by rw [HK.out, hd, if_pos rfl])
      clear hd
      go_wp2_with fail
      refine region_seq (fun W => ∀ p, W.cell? p = wr.cell? p) [(0, true), (1, true), (2, true), (3, true), (4, true), (5, true), (6, true), (7, true), (8, true)]
        (by kernel_rfl) (by kernel_rfl) (by kernel_rfl) (by simp) (fun _ _ _ _ h => h) (fun _ => rfl) ?_
      (refine SeqW.take (v := ?_) rfl (by rfl) (fun W hW => ?_) ?_; rotate_left; (go_simp; with_reducible rfl); simp only [Act.put, List.setIfInBounds_toArray, List.set_cons_zero, List.set_cons_succ])
      (refine SeqW.take (v := ?_) rfl (by rfl) (fun W hW => ?_) ?_; rotate_left; (go_simp; with_reducible rfl); simp only [Act.put, List.setIfInBounds_toArray, List.set_cons_zero, List.set_cons_succ])
      (refine SeqW.take (v := ?_) rfl (by rfl) (fun W hW => ?_) ?_; rotate_left; (go_simp; with_reducible rfl); simp only [Act.put, List.setIfInBounds_toArray, List.set_cons_zero, List.set_cons_succ])
      (refine SeqW.take (v := ?_) rfl (by rfl) (fun W hW => ?_) ?_; rotate_left; (have l0 := (hW _).trans c1; have l1 := (hW _).trans c2; go_simp; with_reducible rfl); simp only [Act.put, List.setIfInBounds_toArray, List.set_cons_zero, List.set_cons_succ])
      (refine SeqW.take (v := ?_) rfl (by rfl) (fun W hW => ?_) ?_; rotate_left; (go_simp; with_reducible rfl); simp only [Act.put, List.setIfInBounds_toArray, List.set_cons_zero, List.set_cons_succ])
      (refine SeqW.take (v := ?_) rfl (by rfl) (fun W hW => ?_) ?_; rotate_left; (go_simp; with_reducible rfl); simp only [Act.put, List.setIfInBounds_toArray, List.set_cons_zero, List.set_cons_succ])
      (refine SeqW.take (v := ?_) rfl (by rfl) (fun W hW => ?_) ?_; rotate_left; (go_simp; with_reducible rfl); simp only [Act.put, List.setIfInBounds_toArray, List.set_cons_zero, List.set_cons_succ])
      (refine SeqW.take (v := ?_) rfl (by rfl) (fun W hW => ?_) ?_; rotate_left; (have l0 := (hW _).trans c1; have l1 := (hW _).trans c2; go_simp; with_reducible rfl); simp only [Act.put, List.setIfInBounds_toArray, List.set_cons_zero, List.set_cons_succ])
      (refine SeqW.take (v := ?_) rfl (by rfl) (fun W hW => ?_) ?_; rotate_left; (go_simp; with_reducible rfl); simp only [Act.put, List.setIfInBounds_toArray, List.set_cons_zero, List.set_cons_succ])
      refine SeqW.done ?_
      go_wp2_with fail
      go_roundw
      case rel => exact ⟨k + 1, by omega, by omega, by go_num, HN, Lib.hid HW.out.drew⟩
      case measure => simp [intOf]; omega
    · have HN : Hid (before l m = decide (x < y)) := Lib.hid (by rw [HK.out, hd, if_neg hxy])
      have hb : ((x : Int) != (y : Int)) = true := by rw [bne_iff_ne]; omega
      clear hd
      go_wp2_with fail
      refine region_seq (fun W => ∀ p, W.cell? p = wr.cell? p) [(0, true), (1, true), (2, true), (3, true), (4, true), (5, true), (6, true), (7, true), (8, true)]
        (by kernel_rfl) (by kernel_rfl) (by kernel_rfl) (by simp) (fun _ _ _ _ h => h) (fun _ => rfl) ?_
      (refine SeqW.take (v := ?_) rfl (by rfl) (fun W hW => ?_) ?_; rotate_left; (go_simp; with_reducible rfl); simp only [Act.put, List.setIfInBounds_toArray, List.set_cons_zero, List.set_cons_succ])
      (refine SeqW.take (v := ?_) rfl (by rfl) (fun W hW => ?_) ?_; rotate_left; (go_simp; with_reducible rfl); simp only [Act.put, List.setIfInBounds_toArray, List.set_cons_zero, List.set_cons_succ])
      (refine SeqW.take (v := ?_) rfl (by rfl) (fun W hW => ?_) ?_; rotate_left; (go_simp; with_reducible rfl); simp only [Act.put, List.setIfInBounds_toArray, List.set_cons_zero, List.set_cons_succ])
      (refine SeqW.take (v := ?_) rfl (by rfl) (fun W hW => ?_) ?_; rotate_left; (have l0 := (hW _).trans c1; have l1 := (hW _).trans c2; go_simp; with_reducible rfl); simp only [Act.put, List.setIfInBounds_toArray, List.set_cons_zero, List.set_cons_succ])
      (refine SeqW.take (v := ?_) rfl (by rfl) (fun W hW => ?_) ?_; rotate_left; (go_simp; with_reducible rfl); simp only [Act.put, List.setIfInBounds_toArray, List.set_cons_zero, List.set_cons_succ])
      (refine SeqW.take (v := ?_) rfl (by rfl) (fun W hW => ?_) ?_; rotate_left; (go_simp; with_reducible rfl); simp only [Act.put, List.setIfInBounds_toArray, List.set_cons_zero, List.set_cons_succ])
      (refine SeqW.take (v := ?_) rfl (by rfl) (fun W hW => ?_) ?_; rotate_left; (go_simp; with_reducible rfl); simp only [Act.put, List.setIfInBounds_toArray, List.set_cons_zero, List.set_cons_succ])
      (refine SeqW.take (v := ?_) rfl (by rfl) (fun W hW => ?_) ?_; rotate_left; (have l0 := (hW _).trans c1; have l1 := (hW _).trans c2; go_simp; with_reducible rfl); simp only [Act.put, List.setIfInBounds_toArray, List.set_cons_zero, List.set_cons_succ])
      (refine SeqW.take (v := ?_) rfl (by rfl) (fun W hW => ?_) ?_; rotate_left; (go_simp; with_reducible rfl); simp only [Act.put, List.setIfInBounds_toArray, List.set_cons_zero, List.set_cons_succ])
      refine SeqW.done ?_
      go_wp2_with fail
      refine region_seq (fun W => ∀ p, W.cell? p = wr.cell? p) [(0, true), (1, true), (2, true), (3, true), (4, true), (5, true), (6, true), (7, true), (8, true), (9, true)]
        (by kernel_rfl) (by kernel_rfl) (by kernel_rfl) (by simp) (fun _ _ _ _ h => h) (fun _ => rfl) ?_
      (refine SeqW.take (v := ?_) rfl (by rfl) (fun W hW => ?_) ?_; rotate_left; (go_simp; with_reducible rfl); simp only [Act.put, List.setIfInBounds_toArray, List.set_cons_zero, List.set_cons_succ])
      (refine SeqW.take (v := ?_) rfl (by rfl) (fun W hW => ?_) ?_; rotate_left; (go_simp; with_reducible rfl); simp only [Act.put, List.setIfInBounds_toArray, List.set_cons_zero, List.set_cons_succ])
      (refine SeqW.take (v := ?_) rfl (by rfl) (fun W hW => ?_) ?_; rotate_left; (go_simp; with_reducible rfl); simp only [Act.put, List.setIfInBounds_toArray, List.set_cons_zero, List.set_cons_succ])
      (refine SeqW.take (v := ?_) rfl (by rfl) (fun W hW => ?_) ?_; rotate_left; (have l0 := (hW _).trans c1; have l1 := (hW _).trans c2; go_simp; with_reducible rfl); simp only [Act.put, List.setIfInBounds_toArray, List.set_cons_zero, List.set_cons_succ])
      (refine SeqW.take (v := ?_) rfl (by rfl) (fun W hW => ?_) ?_; rotate_left; (go_simp; with_reducible rfl); simp only [Act.put, List.setIfInBounds_toArray, List.set_cons_zero, List.set_cons_succ])
      (refine SeqW.take (v := ?_) rfl (by rfl) (fun W hW => ?_) ?_; rotate_left; (go_simp; with_reducible rfl); simp only [Act.put, List.setIfInBounds_toArray, List.set_cons_zero, List.set_cons_succ])
      (refine SeqW.take (v := ?_) rfl (by rfl) (fun W hW => ?_) ?_; rotate_left; (go_simp; with_reducible rfl); simp only [Act.put, List.setIfInBounds_toArray, List.set_cons_zero, List.set_cons_succ])
      (refine SeqW.take (v := ?_) rfl (by rfl) (fun W hW => ?_) ?_; rotate_left; (have l0 := (hW _).trans c1; have l1 := (hW _).trans c2; go_simp; with_reducible rfl); simp only [Act.put, List.setIfInBounds_toArray, List.set_cons_zero, List.set_cons_succ])
      (refine SeqW.take (v := ?_) rfl (by rfl) (fun W hW => ?_) ?_; rotate_left; (go_simp; with_reducible rfl); simp only [Act.put, List.setIfInBounds_toArray, List.set_cons_zero, List.set_cons_succ])
      (refine SeqW.take (v := ?_) rfl (by rfl) (fun W hW => ?_) ?_; rotate_left; (go_simp; with_reducible rfl); simp only [Act.put, List.setIfInBounds_toArray, List.set_cons_zero, List.set_cons_succ])
      refine SeqW.done ?_
      go_wp2_with fail
      go_ret
      rw [HN.out]
      exact ⟨by first | rfl | (congr 2; simp), HW.out.drew.drew⟩
theorem ad_inj {b b' off off' : Nat} (h : some (⟨b, off, none⟩ : Addr) = some ⟨b', off', none⟩) : b = b' ∧ off = off' := by cases h; exact ⟨rfl, rfl⟩
theorem hit_sym (ts : List Tree) (gap : Int) (i k : Nat) : hitB ts gap i k = hitB ts gap k i := by
  unfold hitB
  cases h1 : ts[i]? <;> cases h2 : ts[k]? <;> simp [within_sym]
theorem hit_reckon {ts : List Tree} {gap : Int} {k i : Nat} {t u : Tree} (ht : ts[k]? = some t) (hu : ts[i]? = some u) : hitB ts gap k i = decide ((u.x - t.x) * (u.x - t.x) + (u.y - t.y) * (u.y - t.y) ≤ gap * gap) := by
  rw [← hit_sym]
  unfold hitB
  rw [ht, hu]
  rfl
/-- The first i of a list are a gap apart. -/
def Apart (ts : List Tree) (gap : Int) (l : List Nat) (i : Nat) : Prop := ∀ p q x y, p < q → q < i → l[p]? = some x → l[q]? = some y → hitB ts gap x y = false
/-- So is the one at i from the first k. -/
def ApartOf (ts : List Tree) (gap : Int) (l : List Nat) (i k : Nat) : Prop := ∀ p x y, p < k → l[p]? = some x → l[i]? = some y → hitB ts gap x y = false
theorem apart_next {ts : List Tree} {gap : Int} {l : List Nat} {i : Nat} (h : Apart ts gap l i) (h2 : ApartOf ts gap l i i) : Apart ts gap l (i + 1) := fun p q x y hp hq hx hy => by
  by_cases e : q = i
  · subst e; exact h2 p x y hp hx hy
  · exact h p q x y hp (by omega) hx hy
theorem apart_good {ts : List Tree} {gap : Int} {l : List Nat} (h : Apart ts gap l l.length) (hs : l.Pairwise (· < ·)) (hl : ∀ i ∈ l, i < ts.length) : goodL ts gap l := by
  refine ⟨List.pairwise_iff_getElem.2 fun p q hp hq hpq => ⟨List.pairwise_iff_getElem.1 hs p q hp hq hpq, ?_⟩, hl⟩
  exact h p q _ _ hpq hq (List.getElem?_eq_getElem hp) (List.getElem?_eq_getElem hq)
theorem good_not {ts : List Tree} {gap : Int} {l : List Nat} {p q x y : Nat} (hpq : p < q) (hx : l[p]? = some x) (hy : l[q]? = some y) (h : hitB ts gap x y = true) : ¬ goodL ts gap l := fun hg => by
  obtain ⟨h1, e1⟩ := List.getElem?_eq_some_iff.1 hx
  obtain ⟨h2, e2⟩ := List.getElem?_eq_some_iff.1 hy
  have := (List.pairwise_iff_getElem.1 hg.1 p q h1 h2 hpq).2
  rw [e1, e2, h] at this
  cases this
theorem worth_take {ts : List Tree} {l : List Nat} {i x : Nat} {t : Tree} (hx : l[i]? = some x) (ht : ts[x]? = some t) : worthL ts (l.take (i + 1)) = worthL ts (l.take i) + t.gl := by
  rw [List.take_add_one, hx, worthL_append]
  simp [worthL, glAt, ht]
theorem sq_bound {x : Int} (h1 : -100000 ≤ x) (h2 : x ≤ 100000) : 0 ≤ x * x ∧ x * x ≤ 10000000000 := by
  rcases Int.le_total 0 x with h | h
  · exact ⟨Int.mul_nonneg h h, by have := Int.mul_le_mul h2 h2 h (by omega); omega⟩
  · rw [← Int.neg_mul_neg]
    exact ⟨Int.mul_nonneg (by omega) (by omega), by have := Int.mul_le_mul (a := -x) (b := -x) (c := 100000) (d := 100000) (by omega) (by omega) (by omega) (by omega); omega⟩
/-- What priced says. -/
def Priced (ts : List Tree) (gap : Int) (l : List Nat) (z : Int) (ok : Bool) : Prop := (ok = true ↔ goodL ts gap l) ∧ (ok = true → z = worthL ts l)
set_option maxRecDepth 100000 in
set_option maxHeartbeats 4000000 in
theorem priced_any (a la : Option Addr) (n c ln lc : Nat) (ts : List Tree) (lo hi pr ne gap : Int) (l : List Nat) (w : World) (hT : Trees w a n c ts) (hL : IntsAt w la ln (natsI l)) (hs : l.Pairwise (· < ·)) (hlt : ∀ i ∈ l, i < ts.length)
    (h14 : ts.length ≤ 14) (hok : ∀ t ∈ ts, okTree t) (hgl : ∀ t ∈ ts, 0 ≤ t.gl ∧ t.gl ≤ 4000) (hgap : 0 ≤ gap ∧ gap ≤ 100000) (hll : l.length ≤ 14) :
    Calls Tryd.prog 47 #[.agg #[.slice a n c, .int .i64 lo, .int .i64 hi, .int .i64 pr, .int .i64 ne], .slice la ln lc, .int .i64 gap] w fun e w' => ∃ z ok, e = .returned (.tuple #[.int .i64 z, .bool ok]) ∧ Priced ts gap l z ok ∧ Below w.heap.size w w' := by
  have hln : ln = l.length := by rw [hL.1]; simp [natsI]
  subst hln
  have HTn := Lib.hid hT.len
  have HS := Lib.hid hs
  have HLT := Lib.hid hlt
  have HOK := Lib.hid hok
  have HGL := Lib.hid hgl
  have hn14 : n ≤ 14 := by rw [hT.len]; exact h14
  have HX : Hid (∀ W, Below (w.heap.size + 1) (w.alloc (.cells #[.slice a n c, .int .i64 lo, .int .i64 hi, .int .i64 pr, .int .i64 ne] 29)) W → Box W w.heap.size #[.slice a n c, .int .i64 lo, .int .i64 hi, .int .i64 pr, .int .i64 ne] 29 ∧ Trees W a n c ts ∧ IntsAt W la l.length (natsI l) ∧ Below w.heap.size w W ∧ w.heap.size + 1 ≤ W.heap.size) := Lib.hid fun W h => by
    have hB : Below w.heap.size w W := ((Below.refl _ _).alloc (Nat.le_refl _) _).trans (h.mono (by omega))
    exact ⟨(Box.new w _ _).below h (by omega), hT.below hB, hL.below hB, hB, by have := h.size; simpa using this⟩
  obtain ⟨g1, g2⟩ := hgap
  have q3 := sq_bound (x := gap) (by omega) g2
  have hw6 : IntKind.i64.wrap (gap * gap) = gap * gap := by rw [IntKind.wrap_i64]; omega
  have hwn : IntKind.i64.wrap ((n : Int) - 1) = (n : Int) - 1 := by rw [IntKind.wrap_i64]; omega
  clear hT hL hs hlt hok hgl h14
  go_enter Tryd.func47, Tryd.ntmps47
  go_wp2_with fail
  go_loopw [8, 9] (fun nv iv wr => ∃ (i : Nat) (z : Int), i ≤ l.length ∧ iv = .int .i64 i ∧ nv = .int .i64 z ∧ 0 ≤ z ∧ z ≤ 4000 * (i : Int) ∧ Hid (z = worthL ts (l.take i)) ∧ Hid (Apart ts gap l i) ∧ Hid (Below (w.heap.size + 1) (w.alloc (.cells #[.slice a n c, .int .i64 lo, .int .i64 hi, .int .i64 pr, .int .i64 ne] 29)) wr)) (fun _ iv _ => l.length - (intOf iv).toNat)
  case atStart => exact ⟨0, 0, Nat.zero_le _, rfl, rfl, by omega, by omega, Lib.hid rfl, Lib.hid (fun p q x y _ h => absurd h (by omega)), Lib.hid (Below.refl _ _)⟩
  case round =>
    obtain ⟨i, z, hi1, rfl, rfl, hz0, hz1, HZ, HA, HB⟩ := hrel
    by_cases hil : i < l.length
    case neg =>
      obtain rfl : i = l.length := by omega
      have HG := Lib.hid (apart_good HA.out HS.out HLT.out)
      have HZ2 : Hid (z = worthL ts l) := Lib.hid (by rw [HZ.out, List.take_length])
      go_wp2_with fail
      refine bodyPost_ret (v := .tuple #[.int .i64 z, .bool true]) (by simp [results, Tryd.results47, go_sem]) rfl ⟨z, true, rfl, ⟨⟨fun _ => HG.out, fun _ => rfl⟩, fun _ => HZ2.out⟩, (HX.out _ HB.out).2.2.2.1⟩
    obtain ⟨x, hx⟩ : ∃ x, l[i]? = some x := ⟨_, List.getElem?_eq_getElem hil⟩
    have hxm : x ∈ l := List.mem_of_getElem? hx
    have hxt := HLT.out x hxm
    obtain ⟨u, hu⟩ : ∃ u, ts[x]? = some u := ⟨_, List.getElem?_eq_getElem hxt⟩
    have hum := List.mem_of_getElem? hu
    have hou := HOK.out u hum
    have hgu := HGL.out u hum
    unfold okTree at hou
    obtain ⟨y1, y2, y3, y4, y5⟩ := HX.out _ HB.out
    obtain ⟨b, off, ha, hbl, hTA⟩ := y2.at_.resolve_left (fun h => by simp [h] at hu)
    subst ha
    obtain ⟨lb, loff, hla, hlbl, hLA⟩ := y3.2.resolve_left (fun h => by have := natsI_at l i x hx; simp [h] at this)
    subst hla
    have hWT := worth_take (ts := ts) hx hu
    have hxn : x < n := by rw [HTn.out]; exact hxt
    have HU := Lib.hid hu
    have HX1 := Lib.hid hx
    have HIN : Hid (frB (x : Int) 0 ((n : Int) - 1) = true) := Lib.hid (frB_iff.2 ⟨by omega, by omega⟩)
    obtain ⟨utag, ux, uy, ugl, ugh, ucr⟩ := u
    dsimp only at hou hgu hWT
    obtain ⟨f0, f1, f2, f3, _, _⟩ := hTA x _ hu
    dsimp only at f0 f1 f2 f3
    have s0 : wr.cell? ⟨w.heap.size, 0, none⟩ = some (.slice (some ⟨b, off, none⟩) n c) := y1.cell 0
    have c1 : wr.cell? ⟨lb, loff + i, none⟩ = some (.int .i64 (x : Int)) := hLA i _ (natsI_at l i x hx)
    have HZN : Hid (z + ugl = worthL ts (l.take (i + 1))) := Lib.hid (by rw [hWT, HZ.out])
    have hB := HB.out
    have hwz : IntKind.i64.wrap (z + ugl) = z + ugl := by rw [IntKind.wrap_i64]; omega
    have HLA := Lib.hid hLA
    clear hWT hu hx hxm hum y1 y2 y3 y4 hTA hLA
    rcases Nat.eq_zero_or_pos i with hi0 | hi0
    · have hile : (i : Int) ≤ 0 := by omega
      have hib : decide ((0 : Int) < (i : Int)) = false := by rw [decide_eq_false_iff_not]; omega
      have hib2 : decide (0 < i) = false := by rw [decide_eq_false_iff_not]; omega
      clear hi0
      go_wp2_with fail
      refine region_seq (fun W => ∀ p, W.cell? p = wr.cell? p) [(0, true), (1, true), (2, true), (3, true), (4, true), (5, true), (6, true), (7, true), (8, false), (9, true), (10, true), (11, true), (12, true), (13, true), (14, true), (15, true), (16, true), (17, true), (18, true), (19, true), (20, true), (21, true), (22, true), (23, true), (24, true), (25, true)]
        (by kernel_rfl) (by kernel_rfl) (by kernel_rfl) (by simp) (fun _ _ _ _ h => h) (fun _ => rfl) ?_
      (refine SeqW.take (v := ?_) rfl (by rfl) (fun W hW => ?_) ?_; rotate_left; (go_simp; with_reducible rfl); simp only [Act.put, List.setIfInBounds_toArray, List.set_cons_zero, List.set_cons_succ])
      (refine SeqW.take (v := ?_) rfl (by rfl) (fun W hW => ?_) ?_; rotate_left; (go_simp; with_reducible rfl); simp only [Act.put, List.setIfInBounds_toArray, List.set_cons_zero, List.set_cons_succ])
      (refine SeqW.take (v := ?_) rfl (by rfl) (fun W hW => ?_) ?_; rotate_left; (go_simp; with_reducible rfl); simp only [Act.put, List.setIfInBounds_toArray, List.set_cons_zero, List.set_cons_succ])
      (refine SeqW.take (v := ?_) rfl (by rfl) (fun W hW => ?_) ?_; rotate_left; (have l0 := (hW _).trans s0; have l1 := (hW _).trans c1; go_simp; with_reducible rfl); simp only [Act.put, List.setIfInBounds_toArray, List.set_cons_zero, List.set_cons_succ])
      (refine SeqW.take (v := ?_) rfl (by rfl) (fun W hW => ?_) ?_; rotate_left; (go_simp; with_reducible rfl); simp only [Act.put, List.setIfInBounds_toArray, List.set_cons_zero, List.set_cons_succ])
      (refine SeqW.take (v := ?_) rfl (by rfl) (fun W hW => ?_) ?_; rotate_left; (have l0 := (hW _).trans s0; have l1 := (hW _).trans c1; go_simp; with_reducible rfl); simp only [Act.put, List.setIfInBounds_toArray, List.set_cons_zero, List.set_cons_succ])
      (refine SeqW.take (v := ?_) rfl (by rfl) (fun W hW => ?_) ?_; rotate_left; (go_simp; with_reducible rfl); simp only [Act.put, List.setIfInBounds_toArray, List.set_cons_zero, List.set_cons_succ])
      (refine SeqW.take (v := ?_) rfl (by rfl) (fun W hW => ?_) ?_; rotate_left; (go_simp; with_reducible rfl); simp only [Act.put, List.setIfInBounds_toArray, List.set_cons_zero, List.set_cons_succ])
      (refine SeqW.call rfl (by rfl) (fun K hK => ?_); go_simp)
      refine (refIn_any _ _ _ _).mono ?_
      rw [HIN.out]
      rintro e w' ⟨rfl, rfl⟩
      go_simp
      refine hK.out _ _ (fun _ => rfl) ?_
      clear hK K
      (refine SeqW.take (v := ?_) rfl (by rfl) (fun W hW => ?_) ?_; rotate_left; (go_simp; with_reducible rfl); simp only [Act.put, List.setIfInBounds_toArray, List.set_cons_zero, List.set_cons_succ])
      (refine SeqW.take (v := ?_) rfl (by rfl) (fun W hW => ?_) ?_; rotate_left; (go_simp; with_reducible rfl); simp only [Act.put, List.setIfInBounds_toArray, List.set_cons_zero, List.set_cons_succ])
      (refine SeqW.take (v := ?_) rfl (by rfl) (fun W hW => ?_) ?_; rotate_left; (go_simp; with_reducible rfl); simp only [Act.put, List.setIfInBounds_toArray, List.set_cons_zero, List.set_cons_succ])
      (refine SeqW.take (v := ?_) rfl (by rfl) (fun W hW => ?_) ?_; rotate_left; (go_simp; with_reducible rfl); simp only [Act.put, List.setIfInBounds_toArray, List.set_cons_zero, List.set_cons_succ])
      (refine SeqW.take (v := ?_) rfl (by rfl) (fun W hW => ?_) ?_; rotate_left; (go_simp; with_reducible rfl); simp only [Act.put, List.setIfInBounds_toArray, List.set_cons_zero, List.set_cons_succ])
      (refine SeqW.skip rfl (by rfl) ?_; simp only [Act.put, List.setIfInBounds_toArray, List.set_cons_zero, List.set_cons_succ])
      (refine SeqW.skip rfl (by rfl) ?_; simp only [Act.put, List.setIfInBounds_toArray, List.set_cons_zero, List.set_cons_succ])
      (refine SeqW.skip rfl (by rfl) ?_; simp only [Act.put, List.setIfInBounds_toArray, List.set_cons_zero, List.set_cons_succ])
      (refine SeqW.skip rfl (by rfl) ?_; simp only [Act.put, List.setIfInBounds_toArray, List.set_cons_zero, List.set_cons_succ])
      (refine SeqW.skip rfl (by rfl) ?_; simp only [Act.put, List.setIfInBounds_toArray, List.set_cons_zero, List.set_cons_succ])
      (refine SeqW.skip rfl (by rfl) ?_; simp only [Act.put, List.setIfInBounds_toArray, List.set_cons_zero, List.set_cons_succ])
      (refine SeqW.skip rfl (by rfl) ?_; simp only [Act.put, List.setIfInBounds_toArray, List.set_cons_zero, List.set_cons_succ])
      (refine SeqW.skip rfl (by rfl) ?_; simp only [Act.put, List.setIfInBounds_toArray, List.set_cons_zero, List.set_cons_succ])
      (refine SeqW.skip rfl (by rfl) ?_; simp only [Act.put, List.setIfInBounds_toArray, List.set_cons_zero, List.set_cons_succ])
      (refine SeqW.skip rfl (by rfl) ?_; simp only [Act.put, List.setIfInBounds_toArray, List.set_cons_zero, List.set_cons_succ])
      (refine SeqW.take (v := ?_) rfl (by rfl) (fun W hW => ?_) ?_; rotate_left; (go_simp; with_reducible rfl); simp only [Act.put, List.setIfInBounds_toArray, List.set_cons_zero, List.set_cons_succ])
      (refine SeqW.take (v := ?_) rfl (by rfl) (fun W hW => ?_) ?_; rotate_left; (go_simp; with_reducible rfl); simp only [Act.put, List.setIfInBounds_toArray, List.set_cons_zero, List.set_cons_succ])
      refine SeqW.done ?_
      go_wp2_with fail
      have s0' : wr.drew.cell? ⟨w.heap.size, 0, none⟩ = some (.slice (some ⟨b, off, none⟩) n c) := s0
      have c1' : wr.drew.cell? ⟨lb, loff + i, none⟩ = some (.int .i64 (x : Int)) := c1
      have f3' : wr.drew.cell? ⟨b, off + x * 6 + 3, none⟩ = some (.int .i64 ugl) := f3
      refine region_seq (fun W => ∀ p, W.cell? p = wr.drew.cell? p) [(0, true), (1, true), (2, true), (3, true), (4, true), (5, true), (6, true), (7, true), (8, true), (9, true), (10, true), (11, true), (12, true)]
        (by kernel_rfl) (by kernel_rfl) (by kernel_rfl) (by simp) (fun _ _ _ _ h => h) (fun _ => rfl) ?_
      (refine SeqW.take (v := ?_) rfl (by rfl) (fun W hW => ?_) ?_; rotate_left; (go_simp; with_reducible rfl); simp only [Act.put, List.setIfInBounds_toArray, List.set_cons_zero, List.set_cons_succ])
      (refine SeqW.take (v := ?_) rfl (by rfl) (fun W hW => ?_) ?_; rotate_left; (go_simp; with_reducible rfl); simp only [Act.put, List.setIfInBounds_toArray, List.set_cons_zero, List.set_cons_succ])
      (refine SeqW.take (v := ?_) rfl (by rfl) (fun W hW => ?_) ?_; rotate_left; (have l0 := (hW _).trans s0'; have l1 := (hW _).trans c1'; have l2 := (hW _).trans f3'; go_simp; with_reducible rfl); simp only [Act.put, List.setIfInBounds_toArray, List.set_cons_zero, List.set_cons_succ])
      (refine SeqW.take (v := ?_) rfl (by rfl) (fun W hW => ?_) ?_; rotate_left; (go_simp; with_reducible rfl); simp only [Act.put, List.setIfInBounds_toArray, List.set_cons_zero, List.set_cons_succ])
      (refine SeqW.take (v := ?_) rfl (by rfl) (fun W hW => ?_) ?_; rotate_left; (go_simp; with_reducible rfl); simp only [Act.put, List.setIfInBounds_toArray, List.set_cons_zero, List.set_cons_succ])
      (refine SeqW.take (v := ?_) rfl (by rfl) (fun W hW => ?_) ?_; rotate_left; (go_simp; with_reducible rfl); simp only [Act.put, List.setIfInBounds_toArray, List.set_cons_zero, List.set_cons_succ])
      (refine SeqW.take (v := ?_) rfl (by rfl) (fun W hW => ?_) ?_; rotate_left; (have l0 := (hW _).trans s0'; have l1 := (hW _).trans c1'; have l2 := (hW _).trans f3'; go_simp; with_reducible rfl); simp only [Act.put, List.setIfInBounds_toArray, List.set_cons_zero, List.set_cons_succ])
      (refine SeqW.take (v := ?_) rfl (by rfl) (fun W hW => ?_) ?_; rotate_left; (go_simp; with_reducible rfl); simp only [Act.put, List.setIfInBounds_toArray, List.set_cons_zero, List.set_cons_succ])
      (refine SeqW.take (v := ?_) rfl (by rfl) (fun W hW => ?_) ?_; rotate_left; (go_simp; with_reducible rfl); simp only [Act.put, List.setIfInBounds_toArray, List.set_cons_zero, List.set_cons_succ])
      (refine SeqW.take (v := ?_) rfl (by rfl) (fun W hW => ?_) ?_; rotate_left; (go_simp; with_reducible rfl); simp only [Act.put, List.setIfInBounds_toArray, List.set_cons_zero, List.set_cons_succ])
      (refine SeqW.take (v := ?_) rfl (by rfl) (fun W hW => ?_) ?_; rotate_left; (have l0 := (hW _).trans s0'; have l1 := (hW _).trans c1'; have l2 := (hW _).trans f3'; go_simp; with_reducible rfl); simp only [Act.put, List.setIfInBounds_toArray, List.set_cons_zero, List.set_cons_succ])
      (refine SeqW.take (v := ?_) rfl (by rfl) (fun W hW => ?_) ?_; rotate_left; (go_simp; with_reducible rfl); simp only [Act.put, List.setIfInBounds_toArray, List.set_cons_zero, List.set_cons_succ])
      (refine SeqW.take (v := ?_) rfl (by rfl) (fun W hW => ?_) ?_; rotate_left; (go_simp; with_reducible rfl); simp only [Act.put, List.setIfInBounds_toArray, List.set_cons_zero, List.set_cons_succ])
      refine SeqW.done ?_
      go_wp2_with fail
      go_loopw [10] (fun kv wx => ∃ k : Nat, k ≤ i ∧ kv = .int .i64 k ∧ Hid (ApartOf ts gap l i k) ∧ Hid (Below (w.heap.size + 1) (w.alloc (.cells #[.slice (some ⟨b, off, none⟩) n c, .int .i64 lo, .int .i64 hi, .int .i64 pr, .int .i64 ne] 29)) wx)) (fun kv _ => i - (intOf kv).toNat)
      case atStart => exact ⟨0, Nat.zero_le _, rfl, Lib.hid (fun p x y h => absurd h (by omega)), Lib.hid hB.drew.drew⟩
      case round =>
        obtain ⟨k, hk, rfl, HK, HBK⟩ := hrel
        clear hB s0 c1 f0 f1 f2 f3 y5 hbl hlbl
        by_cases hki : k < i
        case neg =>
          obtain rfl : k = i := by omega
          have HAN := Lib.hid (apart_next HA.out HK.out)
          go_wp2_with fail
          go_roundw
          case rel => exact ⟨k + 1, z + ugl, by omega, by go_num, rfl, by omega, by omega, HZN, HAN, HBK⟩
          case measure => simp [intOf]; omega
        obtain ⟨v, hv⟩ : ∃ v, l[k]? = some v := ⟨_, List.getElem?_eq_getElem (by omega)⟩
        have hvt := HLT.out v (List.mem_of_getElem? hv)
        obtain ⟨t, ht⟩ : ∃ t, ts[v]? = some t := ⟨_, List.getElem?_eq_getElem hvt⟩
        have hot := HOK.out t (List.mem_of_getElem? ht)
        unfold okTree at hot
        have hvn : v < n := by rw [HTn.out]; exact hvt
        have hkl : k < l.length := by omega
        have hrk := hit_reckon (gap := gap) ht HU.out
        obtain ⟨z1, z2, z3, z4, z5⟩ := HX.out _ HBK.out
        obtain ⟨b', off', ha', hbl', hTA⟩ := z2.at_.resolve_left (fun h => by simp [h] at ht)
        obtain ⟨rfl, rfl⟩ := ad_inj ha'
        obtain ⟨lb', loff', hla', hlbl', hLA⟩ := z3.2.resolve_left (fun h => by have := natsI_at l i x HX1.out; simp [h] at this)
        obtain ⟨rfl, rfl⟩ := ad_inj hla'
        obtain ⟨_, f1, f2, _, _, _⟩ := hTA x _ HU.out
        obtain ⟨_, g1', g2', _, _, _⟩ := hTA v _ ht
        obtain ⟨ttag, tx, ty, tgl, tgh, tcr⟩ := t
        dsimp only at hot hrk f1 f2 g1' g2'
        have s0 : wr.cell? ⟨w.heap.size, 0, none⟩ = some (.slice (some ⟨b, off, none⟩) n c) := z1.cell 0
        have c1 : wr.cell? ⟨lb, loff + i, none⟩ = some (.int .i64 (x : Int)) := hLA i _ (natsI_at l i x HX1.out)
        have c2 : wr.cell? ⟨lb, loff + k, none⟩ = some (.int .i64 (v : Int)) := hLA k _ (natsI_at l k v hv)
        have q1 := sq_bound (x := ux - tx) (by omega) (by omega)
        have q2 := sq_bound (x := uy - ty) (by omega) (by omega)
        have hw1 : IntKind.i64.wrap (ux - tx) = ux - tx := by rw [IntKind.wrap_i64]; omega
        have hw2 : IntKind.i64.wrap (uy - ty) = uy - ty := by rw [IntKind.wrap_i64]; omega
        have hw3 : IntKind.i64.wrap ((ux - tx) * (ux - tx)) = (ux - tx) * (ux - tx) := by rw [IntKind.wrap_i64]; omega
        have hw4 : IntKind.i64.wrap ((uy - ty) * (uy - ty)) = (uy - ty) * (uy - ty) := by rw [IntKind.wrap_i64]; omega
        have hw5 : IntKind.i64.wrap ((ux - tx) * (ux - tx) + (uy - ty) * (uy - ty)) = (ux - tx) * (ux - tx) + (uy - ty) * (uy - ty) := by rw [IntKind.wrap_i64]; omega
        have HV := Lib.hid hv
        have HBe := HBK.out
        clear z1 z2 z3 hTA hLA ht hla' ha' hv
        rcases hd : decide ((ux - tx) * (ux - tx) + (uy - ty) * (uy - ty) ≤ gap * gap) with _ | _
        · have hd' : gap * gap < (ux - tx) * (ux - tx) + (uy - ty) * (uy - ty) := by have := of_decide_eq_false hd; omega
          have HKN : Hid (ApartOf ts gap l i (k + 1)) := Lib.hid fun p x' y' hp hx' hy' => by
            by_cases e : p = k
            · subst e
              obtain rfl : v = x' := Option.some.inj (HV.out.symm.trans hx')
              obtain rfl : x = y' := Option.some.inj (HX1.out.symm.trans hy')
              rw [hrk]; exact hd
            · exact HK.out p x' y' (by omega) hx' hy'
          clear hrk
          go_wp2_with fail
          refine region_seq (fun W => ∀ p, W.cell? p = wr.cell? p) [(0, true), (1, true), (2, true), (3, true), (4, true), (5, true), (6, true), (7, true), (8, true), (9, true), (10, true), (11, true), (12, true), (13, true), (14, true), (15, true), (16, true), (17, true), (18, true), (19, true), (20, true), (21, true), (22, true), (23, true), (24, true), (25, true), (26, true), (27, true), (28, true), (29, true), (30, true), (31, true), (32, true), (33, true), (34, true), (35, true), (36, true), (37, true), (38, true), (39, true)]
            (by kernel_rfl) (by kernel_rfl) (by kernel_rfl) (by simp) (fun _ _ _ _ h => h) (fun _ => rfl) ?_
          (refine SeqW.take (v := ?_) rfl (by rfl) (fun W hW => ?_) ?_; rotate_left; (go_simp; with_reducible rfl); simp only [Act.put, List.setIfInBounds_toArray, List.set_cons_zero, List.set_cons_succ])
          (refine SeqW.take (v := ?_) rfl (by rfl) (fun W hW => ?_) ?_; rotate_left; (have l0 := (hW _).trans s0; have l1 := (hW _).trans c1; have l2 := (hW _).trans c2; have l3 := (hW _).trans f1; have l4 := (hW _).trans f2; have l5 := (hW _).trans g1'; have l6 := (hW _).trans g2'; go_simp; with_reducible rfl); simp only [Act.put, List.setIfInBounds_toArray, List.set_cons_zero, List.set_cons_succ])
          (refine SeqW.take (v := ?_) rfl (by rfl) (fun W hW => ?_) ?_; rotate_left; (go_simp; with_reducible rfl); simp only [Act.put, List.setIfInBounds_toArray, List.set_cons_zero, List.set_cons_succ])
          (refine SeqW.take (v := ?_) rfl (by rfl) (fun W hW => ?_) ?_; rotate_left; (go_simp; with_reducible rfl); simp only [Act.put, List.setIfInBounds_toArray, List.set_cons_zero, List.set_cons_succ])
          (refine SeqW.take (v := ?_) rfl (by rfl) (fun W hW => ?_) ?_; rotate_left; (go_simp; with_reducible rfl); simp only [Act.put, List.setIfInBounds_toArray, List.set_cons_zero, List.set_cons_succ])
          (refine SeqW.take (v := ?_) rfl (by rfl) (fun W hW => ?_) ?_; rotate_left; (have l0 := (hW _).trans s0; have l1 := (hW _).trans c1; have l2 := (hW _).trans c2; have l3 := (hW _).trans f1; have l4 := (hW _).trans f2; have l5 := (hW _).trans g1'; have l6 := (hW _).trans g2'; go_simp; with_reducible rfl); simp only [Act.put, List.setIfInBounds_toArray, List.set_cons_zero, List.set_cons_succ])
          (refine SeqW.take (v := ?_) rfl (by rfl) (fun W hW => ?_) ?_; rotate_left; (go_simp; with_reducible rfl); simp only [Act.put, List.setIfInBounds_toArray, List.set_cons_zero, List.set_cons_succ])
          (refine SeqW.take (v := ?_) rfl (by rfl) (fun W hW => ?_) ?_; rotate_left; (go_simp; with_reducible rfl); simp only [Act.put, List.setIfInBounds_toArray, List.set_cons_zero, List.set_cons_succ])
          (refine SeqW.take (v := ?_) rfl (by rfl) (fun W hW => ?_) ?_; rotate_left; (have l0 := (hW _).trans s0; have l1 := (hW _).trans c1; have l2 := (hW _).trans c2; have l3 := (hW _).trans f1; have l4 := (hW _).trans f2; have l5 := (hW _).trans g1'; have l6 := (hW _).trans g2'; go_simp; with_reducible rfl); simp only [Act.put, List.setIfInBounds_toArray, List.set_cons_zero, List.set_cons_succ])
          (refine SeqW.take (v := ?_) rfl (by rfl) (fun W hW => ?_) ?_; rotate_left; (go_simp; with_reducible rfl); simp only [Act.put, List.setIfInBounds_toArray, List.set_cons_zero, List.set_cons_succ])
          (refine SeqW.take (v := ?_) rfl (by rfl) (fun W hW => ?_) ?_; rotate_left; (have l0 := (hW _).trans s0; have l1 := (hW _).trans c1; have l2 := (hW _).trans c2; have l3 := (hW _).trans f1; have l4 := (hW _).trans f2; have l5 := (hW _).trans g1'; have l6 := (hW _).trans g2'; go_simp; with_reducible rfl); simp only [Act.put, List.setIfInBounds_toArray, List.set_cons_zero, List.set_cons_succ])
          (refine SeqW.take (v := ?_) rfl (by rfl) (fun W hW => ?_) ?_; rotate_left; (go_simp; with_reducible rfl); simp only [Act.put, List.setIfInBounds_toArray, List.set_cons_zero, List.set_cons_succ])
          (refine SeqW.take (v := ?_) rfl (by rfl) (fun W hW => ?_) ?_; rotate_left; (go_simp; with_reducible rfl); simp only [Act.put, List.setIfInBounds_toArray, List.set_cons_zero, List.set_cons_succ])
          (refine SeqW.take (v := ?_) rfl (by rfl) (fun W hW => ?_) ?_; rotate_left; (go_simp; with_reducible rfl); simp only [Act.put, List.setIfInBounds_toArray, List.set_cons_zero, List.set_cons_succ])
          (refine SeqW.take (v := ?_) rfl (by rfl) (fun W hW => ?_) ?_; rotate_left; (have l0 := (hW _).trans s0; have l1 := (hW _).trans c1; have l2 := (hW _).trans c2; have l3 := (hW _).trans f1; have l4 := (hW _).trans f2; have l5 := (hW _).trans g1'; have l6 := (hW _).trans g2'; go_simp; with_reducible rfl); simp only [Act.put, List.setIfInBounds_toArray, List.set_cons_zero, List.set_cons_succ])
          (refine SeqW.take (v := ?_) rfl (by rfl) (fun W hW => ?_) ?_; rotate_left; (go_simp; with_reducible rfl); simp only [Act.put, List.setIfInBounds_toArray, List.set_cons_zero, List.set_cons_succ])
          (refine SeqW.take (v := ?_) rfl (by rfl) (fun W hW => ?_) ?_; rotate_left; (go_simp; with_reducible rfl); simp only [Act.put, List.setIfInBounds_toArray, List.set_cons_zero, List.set_cons_succ])
          (refine SeqW.take (v := ?_) rfl (by rfl) (fun W hW => ?_) ?_; rotate_left; (have l0 := (hW _).trans s0; have l1 := (hW _).trans c1; have l2 := (hW _).trans c2; have l3 := (hW _).trans f1; have l4 := (hW _).trans f2; have l5 := (hW _).trans g1'; have l6 := (hW _).trans g2'; go_simp; with_reducible rfl); simp only [Act.put, List.setIfInBounds_toArray, List.set_cons_zero, List.set_cons_succ])
          (refine SeqW.take (v := ?_) rfl (by rfl) (fun W hW => ?_) ?_; rotate_left; (go_simp; with_reducible rfl); simp only [Act.put, List.setIfInBounds_toArray, List.set_cons_zero, List.set_cons_succ])
          (refine SeqW.take (v := ?_) rfl (by rfl) (fun W hW => ?_) ?_; rotate_left; (go_simp; with_reducible rfl); simp only [Act.put, List.setIfInBounds_toArray, List.set_cons_zero, List.set_cons_succ])
          (refine SeqW.take (v := ?_) rfl (by rfl) (fun W hW => ?_) ?_; rotate_left; (have l0 := (hW _).trans s0; have l1 := (hW _).trans c1; have l2 := (hW _).trans c2; have l3 := (hW _).trans f1; have l4 := (hW _).trans f2; have l5 := (hW _).trans g1'; have l6 := (hW _).trans g2'; go_simp; with_reducible rfl); simp only [Act.put, List.setIfInBounds_toArray, List.set_cons_zero, List.set_cons_succ])
          (refine SeqW.take (v := ?_) rfl (by rfl) (fun W hW => ?_) ?_; rotate_left; (go_simp; with_reducible rfl); simp only [Act.put, List.setIfInBounds_toArray, List.set_cons_zero, List.set_cons_succ])
          (refine SeqW.take (v := ?_) rfl (by rfl) (fun W hW => ?_) ?_; rotate_left; (go_simp; with_reducible rfl); simp only [Act.put, List.setIfInBounds_toArray, List.set_cons_zero, List.set_cons_succ])
          (refine SeqW.take (v := ?_) rfl (by rfl) (fun W hW => ?_) ?_; rotate_left; (go_simp; with_reducible rfl); simp only [Act.put, List.setIfInBounds_toArray, List.set_cons_zero, List.set_cons_succ])
          (refine SeqW.take (v := ?_) rfl (by rfl) (fun W hW => ?_) ?_; rotate_left; (have l0 := (hW _).trans s0; have l1 := (hW _).trans c1; have l2 := (hW _).trans c2; have l3 := (hW _).trans f1; have l4 := (hW _).trans f2; have l5 := (hW _).trans g1'; have l6 := (hW _).trans g2'; go_simp; with_reducible rfl); simp only [Act.put, List.setIfInBounds_toArray, List.set_cons_zero, List.set_cons_succ])
          (refine SeqW.take (v := ?_) rfl (by rfl) (fun W hW => ?_) ?_; rotate_left; (go_simp; with_reducible rfl); simp only [Act.put, List.setIfInBounds_toArray, List.set_cons_zero, List.set_cons_succ])
          (refine SeqW.take (v := ?_) rfl (by rfl) (fun W hW => ?_) ?_; rotate_left; (go_simp; with_reducible rfl); simp only [Act.put, List.setIfInBounds_toArray, List.set_cons_zero, List.set_cons_succ])
          (refine SeqW.take (v := ?_) rfl (by rfl) (fun W hW => ?_) ?_; rotate_left; (have l0 := (hW _).trans s0; have l1 := (hW _).trans c1; have l2 := (hW _).trans c2; have l3 := (hW _).trans f1; have l4 := (hW _).trans f2; have l5 := (hW _).trans g1'; have l6 := (hW _).trans g2'; go_simp; with_reducible rfl); simp only [Act.put, List.setIfInBounds_toArray, List.set_cons_zero, List.set_cons_succ])
          (refine SeqW.take (v := ?_) rfl (by rfl) (fun W hW => ?_) ?_; rotate_left; (go_simp; with_reducible rfl); simp only [Act.put, List.setIfInBounds_toArray, List.set_cons_zero, List.set_cons_succ])
          (refine SeqW.take (v := ?_) rfl (by rfl) (fun W hW => ?_) ?_; rotate_left; (have l0 := (hW _).trans s0; have l1 := (hW _).trans c1; have l2 := (hW _).trans c2; have l3 := (hW _).trans f1; have l4 := (hW _).trans f2; have l5 := (hW _).trans g1'; have l6 := (hW _).trans g2'; go_simp; with_reducible rfl); simp only [Act.put, List.setIfInBounds_toArray, List.set_cons_zero, List.set_cons_succ])
          (refine SeqW.take (v := ?_) rfl (by rfl) (fun W hW => ?_) ?_; rotate_left; (go_simp; with_reducible rfl); simp only [Act.put, List.setIfInBounds_toArray, List.set_cons_zero, List.set_cons_succ])
          (refine SeqW.take (v := ?_) rfl (by rfl) (fun W hW => ?_) ?_; rotate_left; (go_simp; with_reducible rfl); simp only [Act.put, List.setIfInBounds_toArray, List.set_cons_zero, List.set_cons_succ])
          (refine SeqW.take (v := ?_) rfl (by rfl) (fun W hW => ?_) ?_; rotate_left; (go_simp; with_reducible rfl); simp only [Act.put, List.setIfInBounds_toArray, List.set_cons_zero, List.set_cons_succ])
          (refine SeqW.take (v := ?_) rfl (by rfl) (fun W hW => ?_) ?_; rotate_left; (have l0 := (hW _).trans s0; have l1 := (hW _).trans c1; have l2 := (hW _).trans c2; have l3 := (hW _).trans f1; have l4 := (hW _).trans f2; have l5 := (hW _).trans g1'; have l6 := (hW _).trans g2'; go_simp; with_reducible rfl); simp only [Act.put, List.setIfInBounds_toArray, List.set_cons_zero, List.set_cons_succ])
          (refine SeqW.take (v := ?_) rfl (by rfl) (fun W hW => ?_) ?_; rotate_left; (go_simp; with_reducible rfl); simp only [Act.put, List.setIfInBounds_toArray, List.set_cons_zero, List.set_cons_succ])
          (refine SeqW.take (v := ?_) rfl (by rfl) (fun W hW => ?_) ?_; rotate_left; (go_simp; with_reducible rfl); simp only [Act.put, List.setIfInBounds_toArray, List.set_cons_zero, List.set_cons_succ])
          (refine SeqW.take (v := ?_) rfl (by rfl) (fun W hW => ?_) ?_; rotate_left; (have l0 := (hW _).trans s0; have l1 := (hW _).trans c1; have l2 := (hW _).trans c2; have l3 := (hW _).trans f1; have l4 := (hW _).trans f2; have l5 := (hW _).trans g1'; have l6 := (hW _).trans g2'; go_simp; with_reducible rfl); simp only [Act.put, List.setIfInBounds_toArray, List.set_cons_zero, List.set_cons_succ])
          (refine SeqW.take (v := ?_) rfl (by rfl) (fun W hW => ?_) ?_; rotate_left; (go_simp; with_reducible rfl); simp only [Act.put, List.setIfInBounds_toArray, List.set_cons_zero, List.set_cons_succ])
          (refine SeqW.take (v := ?_) rfl (by rfl) (fun W hW => ?_) ?_; rotate_left; (go_simp; with_reducible rfl); simp only [Act.put, List.setIfInBounds_toArray, List.set_cons_zero, List.set_cons_succ])
          (refine SeqW.take (v := ?_) rfl (by rfl) (fun W hW => ?_) ?_; rotate_left; (go_simp; with_reducible rfl); simp only [Act.put, List.setIfInBounds_toArray, List.set_cons_zero, List.set_cons_succ])
          refine SeqW.done ?_
          go_wp2_with fail
          go_roundw
          case rel => exact ⟨k + 1, by omega, by go_num, HKN, Lib.hid HBe.drew⟩
          case measure => simp [intOf]; omega
        · have hd' : (ux - tx) * (ux - tx) + (uy - ty) * (uy - ty) ≤ gap * gap := of_decide_eq_true hd
          have HNG := Lib.hid (good_not (ts := ts) (gap := gap) hki HV.out HX1.out (by rw [hrk]; exact hd))
          clear hrk
          go_wp2_with fail
          refine region_seq (fun W => ∀ p, W.cell? p = wr.cell? p) [(0, true), (1, true), (2, true), (3, true), (4, true), (5, true), (6, true), (7, true), (8, true), (9, true), (10, true), (11, true), (12, true), (13, true), (14, true), (15, true), (16, true), (17, true), (18, true), (19, true), (20, true), (21, true), (22, true), (23, true), (24, true), (25, true), (26, true), (27, true), (28, true), (29, true), (30, true), (31, true), (32, true), (33, true), (34, true), (35, true), (36, true), (37, true), (38, true), (39, true)]
            (by kernel_rfl) (by kernel_rfl) (by kernel_rfl) (by simp) (fun _ _ _ _ h => h) (fun _ => rfl) ?_
          (refine SeqW.take (v := ?_) rfl (by rfl) (fun W hW => ?_) ?_; rotate_left; (go_simp; with_reducible rfl); simp only [Act.put, List.setIfInBounds_toArray, List.set_cons_zero, List.set_cons_succ])
          (refine SeqW.take (v := ?_) rfl (by rfl) (fun W hW => ?_) ?_; rotate_left; (have l0 := (hW _).trans s0; have l1 := (hW _).trans c1; have l2 := (hW _).trans c2; have l3 := (hW _).trans f1; have l4 := (hW _).trans f2; have l5 := (hW _).trans g1'; have l6 := (hW _).trans g2'; go_simp; with_reducible rfl); simp only [Act.put, List.setIfInBounds_toArray, List.set_cons_zero, List.set_cons_succ])
          (refine SeqW.take (v := ?_) rfl (by rfl) (fun W hW => ?_) ?_; rotate_left; (go_simp; with_reducible rfl); simp only [Act.put, List.setIfInBounds_toArray, List.set_cons_zero, List.set_cons_succ])
          (refine SeqW.take (v := ?_) rfl (by rfl) (fun W hW => ?_) ?_; rotate_left; (go_simp; with_reducible rfl); simp only [Act.put, List.setIfInBounds_toArray, List.set_cons_zero, List.set_cons_succ])
          (refine SeqW.take (v := ?_) rfl (by rfl) (fun W hW => ?_) ?_; rotate_left; (go_simp; with_reducible rfl); simp only [Act.put, List.setIfInBounds_toArray, List.set_cons_zero, List.set_cons_succ])
          (refine SeqW.take (v := ?_) rfl (by rfl) (fun W hW => ?_) ?_; rotate_left; (have l0 := (hW _).trans s0; have l1 := (hW _).trans c1; have l2 := (hW _).trans c2; have l3 := (hW _).trans f1; have l4 := (hW _).trans f2; have l5 := (hW _).trans g1'; have l6 := (hW _).trans g2'; go_simp; with_reducible rfl); simp only [Act.put, List.setIfInBounds_toArray, List.set_cons_zero, List.set_cons_succ])
          (refine SeqW.take (v := ?_) rfl (by rfl) (fun W hW => ?_) ?_; rotate_left; (go_simp; with_reducible rfl); simp only [Act.put, List.setIfInBounds_toArray, List.set_cons_zero, List.set_cons_succ])
          (refine SeqW.take (v := ?_) rfl (by rfl) (fun W hW => ?_) ?_; rotate_left; (go_simp; with_reducible rfl); simp only [Act.put, List.setIfInBounds_toArray, List.set_cons_zero, List.set_cons_succ])
          (refine SeqW.take (v := ?_) rfl (by rfl) (fun W hW => ?_) ?_; rotate_left; (have l0 := (hW _).trans s0; have l1 := (hW _).trans c1; have l2 := (hW _).trans c2; have l3 := (hW _).trans f1; have l4 := (hW _).trans f2; have l5 := (hW _).trans g1'; have l6 := (hW _).trans g2'; go_simp; with_reducible rfl); simp only [Act.put, List.setIfInBounds_toArray, List.set_cons_zero, List.set_cons_succ])
          (refine SeqW.take (v := ?_) rfl (by rfl) (fun W hW => ?_) ?_; rotate_left; (go_simp; with_reducible rfl); simp only [Act.put, List.setIfInBounds_toArray, List.set_cons_zero, List.set_cons_succ])
          (refine SeqW.take (v := ?_) rfl (by rfl) (fun W hW => ?_) ?_; rotate_left; (have l0 := (hW _).trans s0; have l1 := (hW _).trans c1; have l2 := (hW _).trans c2; have l3 := (hW _).trans f1; have l4 := (hW _).trans f2; have l5 := (hW _).trans g1'; have l6 := (hW _).trans g2'; go_simp; with_reducible rfl); simp only [Act.put, List.setIfInBounds_toArray, List.set_cons_zero, List.set_cons_succ])
          (refine SeqW.take (v := ?_) rfl (by rfl) (fun W hW => ?_) ?_; rotate_left; (go_simp; with_reducible rfl); simp only [Act.put, List.setIfInBounds_toArray, List.set_cons_zero, List.set_cons_succ])
          (refine SeqW.take (v := ?_) rfl (by rfl) (fun W hW => ?_) ?_; rotate_left; (go_simp; with_reducible rfl); simp only [Act.put, List.setIfInBounds_toArray, List.set_cons_zero, List.set_cons_succ])
          (refine SeqW.take (v := ?_) rfl (by rfl) (fun W hW => ?_) ?_; rotate_left; (go_simp; with_reducible rfl); simp only [Act.put, List.setIfInBounds_toArray, List.set_cons_zero, List.set_cons_succ])
          (refine SeqW.take (v := ?_) rfl (by rfl) (fun W hW => ?_) ?_; rotate_left; (have l0 := (hW _).trans s0; have l1 := (hW _).trans c1; have l2 := (hW _).trans c2; have l3 := (hW _).trans f1; have l4 := (hW _).trans f2; have l5 := (hW _).trans g1'; have l6 := (hW _).trans g2'; go_simp; with_reducible rfl); simp only [Act.put, List.setIfInBounds_toArray, List.set_cons_zero, List.set_cons_succ])
          (refine SeqW.take (v := ?_) rfl (by rfl) (fun W hW => ?_) ?_; rotate_left; (go_simp; with_reducible rfl); simp only [Act.put, List.setIfInBounds_toArray, List.set_cons_zero, List.set_cons_succ])
          (refine SeqW.take (v := ?_) rfl (by rfl) (fun W hW => ?_) ?_; rotate_left; (go_simp; with_reducible rfl); simp only [Act.put, List.setIfInBounds_toArray, List.set_cons_zero, List.set_cons_succ])
          (refine SeqW.take (v := ?_) rfl (by rfl) (fun W hW => ?_) ?_; rotate_left; (have l0 := (hW _).trans s0; have l1 := (hW _).trans c1; have l2 := (hW _).trans c2; have l3 := (hW _).trans f1; have l4 := (hW _).trans f2; have l5 := (hW _).trans g1'; have l6 := (hW _).trans g2'; go_simp; with_reducible rfl); simp only [Act.put, List.setIfInBounds_toArray, List.set_cons_zero, List.set_cons_succ])
          (refine SeqW.take (v := ?_) rfl (by rfl) (fun W hW => ?_) ?_; rotate_left; (go_simp; with_reducible rfl); simp only [Act.put, List.setIfInBounds_toArray, List.set_cons_zero, List.set_cons_succ])
          (refine SeqW.take (v := ?_) rfl (by rfl) (fun W hW => ?_) ?_; rotate_left; (go_simp; with_reducible rfl); simp only [Act.put, List.setIfInBounds_toArray, List.set_cons_zero, List.set_cons_succ])
          (refine SeqW.take (v := ?_) rfl (by rfl) (fun W hW => ?_) ?_; rotate_left; (have l0 := (hW _).trans s0; have l1 := (hW _).trans c1; have l2 := (hW _).trans c2; have l3 := (hW _).trans f1; have l4 := (hW _).trans f2; have l5 := (hW _).trans g1'; have l6 := (hW _).trans g2'; go_simp; with_reducible rfl); simp only [Act.put, List.setIfInBounds_toArray, List.set_cons_zero, List.set_cons_succ])
          (refine SeqW.take (v := ?_) rfl (by rfl) (fun W hW => ?_) ?_; rotate_left; (go_simp; with_reducible rfl); simp only [Act.put, List.setIfInBounds_toArray, List.set_cons_zero, List.set_cons_succ])
          (refine SeqW.take (v := ?_) rfl (by rfl) (fun W hW => ?_) ?_; rotate_left; (go_simp; with_reducible rfl); simp only [Act.put, List.setIfInBounds_toArray, List.set_cons_zero, List.set_cons_succ])
          (refine SeqW.take (v := ?_) rfl (by rfl) (fun W hW => ?_) ?_; rotate_left; (go_simp; with_reducible rfl); simp only [Act.put, List.setIfInBounds_toArray, List.set_cons_zero, List.set_cons_succ])
          (refine SeqW.take (v := ?_) rfl (by rfl) (fun W hW => ?_) ?_; rotate_left; (have l0 := (hW _).trans s0; have l1 := (hW _).trans c1; have l2 := (hW _).trans c2; have l3 := (hW _).trans f1; have l4 := (hW _).trans f2; have l5 := (hW _).trans g1'; have l6 := (hW _).trans g2'; go_simp; with_reducible rfl); simp only [Act.put, List.setIfInBounds_toArray, List.set_cons_zero, List.set_cons_succ])
          (refine SeqW.take (v := ?_) rfl (by rfl) (fun W hW => ?_) ?_; rotate_left; (go_simp; with_reducible rfl); simp only [Act.put, List.setIfInBounds_toArray, List.set_cons_zero, List.set_cons_succ])
          (refine SeqW.take (v := ?_) rfl (by rfl) (fun W hW => ?_) ?_; rotate_left; (go_simp; with_reducible rfl); simp only [Act.put, List.setIfInBounds_toArray, List.set_cons_zero, List.set_cons_succ])
          (refine SeqW.take (v := ?_) rfl (by rfl) (fun W hW => ?_) ?_; rotate_left; (have l0 := (hW _).trans s0; have l1 := (hW _).trans c1; have l2 := (hW _).trans c2; have l3 := (hW _).trans f1; have l4 := (hW _).trans f2; have l5 := (hW _).trans g1'; have l6 := (hW _).trans g2'; go_simp; with_reducible rfl); simp only [Act.put, List.setIfInBounds_toArray, List.set_cons_zero, List.set_cons_succ])
          (refine SeqW.take (v := ?_) rfl (by rfl) (fun W hW => ?_) ?_; rotate_left; (go_simp; with_reducible rfl); simp only [Act.put, List.setIfInBounds_toArray, List.set_cons_zero, List.set_cons_succ])
          (refine SeqW.take (v := ?_) rfl (by rfl) (fun W hW => ?_) ?_; rotate_left; (have l0 := (hW _).trans s0; have l1 := (hW _).trans c1; have l2 := (hW _).trans c2; have l3 := (hW _).trans f1; have l4 := (hW _).trans f2; have l5 := (hW _).trans g1'; have l6 := (hW _).trans g2'; go_simp; with_reducible rfl); simp only [Act.put, List.setIfInBounds_toArray, List.set_cons_zero, List.set_cons_succ])
          (refine SeqW.take (v := ?_) rfl (by rfl) (fun W hW => ?_) ?_; rotate_left; (go_simp; with_reducible rfl); simp only [Act.put, List.setIfInBounds_toArray, List.set_cons_zero, List.set_cons_succ])
          (refine SeqW.take (v := ?_) rfl (by rfl) (fun W hW => ?_) ?_; rotate_left; (go_simp; with_reducible rfl); simp only [Act.put, List.setIfInBounds_toArray, List.set_cons_zero, List.set_cons_succ])
          (refine SeqW.take (v := ?_) rfl (by rfl) (fun W hW => ?_) ?_; rotate_left; (go_simp; with_reducible rfl); simp only [Act.put, List.setIfInBounds_toArray, List.set_cons_zero, List.set_cons_succ])
          (refine SeqW.take (v := ?_) rfl (by rfl) (fun W hW => ?_) ?_; rotate_left; (have l0 := (hW _).trans s0; have l1 := (hW _).trans c1; have l2 := (hW _).trans c2; have l3 := (hW _).trans f1; have l4 := (hW _).trans f2; have l5 := (hW _).trans g1'; have l6 := (hW _).trans g2'; go_simp; with_reducible rfl); simp only [Act.put, List.setIfInBounds_toArray, List.set_cons_zero, List.set_cons_succ])
          (refine SeqW.take (v := ?_) rfl (by rfl) (fun W hW => ?_) ?_; rotate_left; (go_simp; with_reducible rfl); simp only [Act.put, List.setIfInBounds_toArray, List.set_cons_zero, List.set_cons_succ])
          (refine SeqW.take (v := ?_) rfl (by rfl) (fun W hW => ?_) ?_; rotate_left; (go_simp; with_reducible rfl); simp only [Act.put, List.setIfInBounds_toArray, List.set_cons_zero, List.set_cons_succ])
          (refine SeqW.take (v := ?_) rfl (by rfl) (fun W hW => ?_) ?_; rotate_left; (have l0 := (hW _).trans s0; have l1 := (hW _).trans c1; have l2 := (hW _).trans c2; have l3 := (hW _).trans f1; have l4 := (hW _).trans f2; have l5 := (hW _).trans g1'; have l6 := (hW _).trans g2'; go_simp; with_reducible rfl); simp only [Act.put, List.setIfInBounds_toArray, List.set_cons_zero, List.set_cons_succ])
          (refine SeqW.take (v := ?_) rfl (by rfl) (fun W hW => ?_) ?_; rotate_left; (go_simp; with_reducible rfl); simp only [Act.put, List.setIfInBounds_toArray, List.set_cons_zero, List.set_cons_succ])
          (refine SeqW.take (v := ?_) rfl (by rfl) (fun W hW => ?_) ?_; rotate_left; (go_simp; with_reducible rfl); simp only [Act.put, List.setIfInBounds_toArray, List.set_cons_zero, List.set_cons_succ])
          (refine SeqW.take (v := ?_) rfl (by rfl) (fun W hW => ?_) ?_; rotate_left; (go_simp; with_reducible rfl); simp only [Act.put, List.setIfInBounds_toArray, List.set_cons_zero, List.set_cons_succ])
          refine SeqW.done ?_
          go_wp2_with fail
          refine bodyPost_ret (v := .tuple #[.int .i64 0, .bool false]) (by simp [results, Tryd.results47, go_sem]) rfl ⟨0, false, rfl, ⟨⟨(fun h => by cases h), fun h => absurd h HNG.out⟩, (fun h => by cases h)⟩, z4.trans (Below.refl _ _).drew⟩
    · obtain ⟨v0, hv0⟩ : ∃ v0, l[i - 1]? = some v0 := ⟨_, List.getElem?_eq_getElem (by omega)⟩
      have hv0x : v0 < x := by
        obtain ⟨h1, e1⟩ := List.getElem?_eq_some_iff.1 hv0
        obtain ⟨h2, e2⟩ := List.getElem?_eq_some_iff.1 HX1.out
        have := List.pairwise_iff_getElem.1 HS.out (i - 1) i h1 h2 (by omega)
        omega
      have c0 : wr.cell? ⟨lb, loff + (i - 1), none⟩ = some (.int .i64 (v0 : Int)) := HLA.out (i - 1) _ (natsI_at l (i - 1) v0 hv0)
      have hi1' : IntKind.i64.wrap ((i : Int) - 1) = (i : Int) - 1 := by rw [IntKind.wrap_i64]; omega
      have hin1 : ((i : Int) - 1).toNat = i - 1 := by omega
      have hin0 : 0 ≤ (i : Int) - 1 := by omega
      have hin2 : 1 ≤ (i : Int) := by omega
      have hin3 : (i : Int) - 1 < (l.length : Int) := by omega
      have hib : decide ((0 : Int) < (i : Int)) = true := by rw [decide_eq_true_iff]; omega
      have hib2 : decide (0 < i) = true := by rw [decide_eq_true_iff]; omega
      have hge : decide ((x : Int) ≤ (v0 : Int)) = false := by rw [decide_eq_false_iff_not]; omega
      have hge2 : decide (x ≤ v0) = false := by rw [decide_eq_false_iff_not]; omega
      clear hv0
      go_wp2_with fail
      refine region_seq (fun W => ∀ p, W.cell? p = wr.cell? p) [(0, true), (1, true), (2, true), (3, true), (4, true), (5, true), (6, true), (7, true), (8, false), (9, true), (10, true), (11, true), (12, true), (13, true), (14, true), (15, true), (16, true), (17, true), (18, true), (19, true), (20, true), (21, true), (22, true), (23, true), (24, true), (25, true)]
        (by kernel_rfl) (by kernel_rfl) (by kernel_rfl) (by simp) (fun _ _ _ _ h => h) (fun _ => rfl) ?_
      (refine SeqW.take (v := ?_) rfl (by rfl) (fun W hW => ?_) ?_; rotate_left; (go_simp; with_reducible rfl); simp only [Act.put, List.setIfInBounds_toArray, List.set_cons_zero, List.set_cons_succ])
      (refine SeqW.take (v := ?_) rfl (by rfl) (fun W hW => ?_) ?_; rotate_left; (go_simp; with_reducible rfl); simp only [Act.put, List.setIfInBounds_toArray, List.set_cons_zero, List.set_cons_succ])
      (refine SeqW.take (v := ?_) rfl (by rfl) (fun W hW => ?_) ?_; rotate_left; (go_simp; with_reducible rfl); simp only [Act.put, List.setIfInBounds_toArray, List.set_cons_zero, List.set_cons_succ])
      (refine SeqW.take (v := ?_) rfl (by rfl) (fun W hW => ?_) ?_; rotate_left; (have l0 := (hW _).trans s0; have l1 := (hW _).trans c1; have l2 := (hW _).trans c0; go_simp; with_reducible rfl); simp only [Act.put, List.setIfInBounds_toArray, List.set_cons_zero, List.set_cons_succ])
      (refine SeqW.take (v := ?_) rfl (by rfl) (fun W hW => ?_) ?_; rotate_left; (go_simp; with_reducible rfl); simp only [Act.put, List.setIfInBounds_toArray, List.set_cons_zero, List.set_cons_succ])
      (refine SeqW.take (v := ?_) rfl (by rfl) (fun W hW => ?_) ?_; rotate_left; (have l0 := (hW _).trans s0; have l1 := (hW _).trans c1; have l2 := (hW _).trans c0; go_simp; with_reducible rfl); simp only [Act.put, List.setIfInBounds_toArray, List.set_cons_zero, List.set_cons_succ])
      (refine SeqW.take (v := ?_) rfl (by rfl) (fun W hW => ?_) ?_; rotate_left; (go_simp; with_reducible rfl); simp only [Act.put, List.setIfInBounds_toArray, List.set_cons_zero, List.set_cons_succ])
      (refine SeqW.take (v := ?_) rfl (by rfl) (fun W hW => ?_) ?_; rotate_left; (go_simp; with_reducible rfl); simp only [Act.put, List.setIfInBounds_toArray, List.set_cons_zero, List.set_cons_succ])
      (refine SeqW.call rfl (by rfl) (fun K hK => ?_); go_simp)
      refine (refIn_any _ _ _ _).mono ?_
      rw [HIN.out]
      rintro e w' ⟨rfl, rfl⟩
      go_simp
      refine hK.out _ _ (fun _ => rfl) ?_
      clear hK K
      (refine SeqW.take (v := ?_) rfl (by rfl) (fun W hW => ?_) ?_; rotate_left; (go_simp; with_reducible rfl); simp only [Act.put, List.setIfInBounds_toArray, List.set_cons_zero, List.set_cons_succ])
      (refine SeqW.take (v := ?_) rfl (by rfl) (fun W hW => ?_) ?_; rotate_left; (go_simp; with_reducible rfl); simp only [Act.put, List.setIfInBounds_toArray, List.set_cons_zero, List.set_cons_succ])
      (refine SeqW.take (v := ?_) rfl (by rfl) (fun W hW => ?_) ?_; rotate_left; (go_simp; with_reducible rfl); simp only [Act.put, List.setIfInBounds_toArray, List.set_cons_zero, List.set_cons_succ])
      (refine SeqW.take (v := ?_) rfl (by rfl) (fun W hW => ?_) ?_; rotate_left; (go_simp; with_reducible rfl); simp only [Act.put, List.setIfInBounds_toArray, List.set_cons_zero, List.set_cons_succ])
      (refine SeqW.take (v := ?_) rfl (by rfl) (fun W hW => ?_) ?_; rotate_left; (go_simp; with_reducible rfl); simp only [Act.put, List.setIfInBounds_toArray, List.set_cons_zero, List.set_cons_succ])
      (refine SeqW.take (v := ?_) rfl (by rfl) (fun W hW => ?_) ?_; rotate_left; (go_simp; with_reducible rfl); simp only [Act.put, List.setIfInBounds_toArray, List.set_cons_zero, List.set_cons_succ])
      (refine SeqW.take (v := ?_) rfl (by rfl) (fun W hW => ?_) ?_; rotate_left; (go_simp; with_reducible rfl); simp only [Act.put, List.setIfInBounds_toArray, List.set_cons_zero, List.set_cons_succ])
      (refine SeqW.take (v := ?_) rfl (by rfl) (fun W hW => ?_) ?_; rotate_left; (go_simp; with_reducible rfl); simp only [Act.put, List.setIfInBounds_toArray, List.set_cons_zero, List.set_cons_succ])
      (refine SeqW.take (v := ?_) rfl (by rfl) (fun W hW => ?_) ?_; rotate_left; (go_simp; with_reducible rfl); simp only [Act.put, List.setIfInBounds_toArray, List.set_cons_zero, List.set_cons_succ])
      (refine SeqW.take (v := ?_) rfl (by rfl) (fun W hW => ?_) ?_; rotate_left; (have l0 := (hW _).trans s0; have l1 := (hW _).trans c1; have l2 := (hW _).trans c0; go_simp; with_reducible rfl); simp only [Act.put, List.setIfInBounds_toArray, List.set_cons_zero, List.set_cons_succ])
      (refine SeqW.take (v := ?_) rfl (by rfl) (fun W hW => ?_) ?_; rotate_left; (go_simp; with_reducible rfl); simp only [Act.put, List.setIfInBounds_toArray, List.set_cons_zero, List.set_cons_succ])
      (refine SeqW.take (v := ?_) rfl (by rfl) (fun W hW => ?_) ?_; rotate_left; (go_simp; with_reducible rfl); simp only [Act.put, List.setIfInBounds_toArray, List.set_cons_zero, List.set_cons_succ])
      (refine SeqW.take (v := ?_) rfl (by rfl) (fun W hW => ?_) ?_; rotate_left; (go_simp; with_reducible rfl); simp only [Act.put, List.setIfInBounds_toArray, List.set_cons_zero, List.set_cons_succ])
      (refine SeqW.take (v := ?_) rfl (by rfl) (fun W hW => ?_) ?_; rotate_left; (have l0 := (hW _).trans s0; have l1 := (hW _).trans c1; have l2 := (hW _).trans c0; go_simp; with_reducible rfl); simp only [Act.put, List.setIfInBounds_toArray, List.set_cons_zero, List.set_cons_succ])
      (refine SeqW.take (v := ?_) rfl (by rfl) (fun W hW => ?_) ?_; rotate_left; (go_simp; with_reducible rfl); simp only [Act.put, List.setIfInBounds_toArray, List.set_cons_zero, List.set_cons_succ])
      (refine SeqW.take (v := ?_) rfl (by rfl) (fun W hW => ?_) ?_; rotate_left; (go_simp; with_reducible rfl); simp only [Act.put, List.setIfInBounds_toArray, List.set_cons_zero, List.set_cons_succ])
      (refine SeqW.take (v := ?_) rfl (by rfl) (fun W hW => ?_) ?_; rotate_left; (go_simp; with_reducible rfl); simp only [Act.put, List.setIfInBounds_toArray, List.set_cons_zero, List.set_cons_succ])
      refine SeqW.done ?_
      go_wp2_with fail
      have s0' : wr.drew.cell? ⟨w.heap.size, 0, none⟩ = some (.slice (some ⟨b, off, none⟩) n c) := s0
      have c1' : wr.drew.cell? ⟨lb, loff + i, none⟩ = some (.int .i64 (x : Int)) := c1
      have f3' : wr.drew.cell? ⟨b, off + x * 6 + 3, none⟩ = some (.int .i64 ugl) := f3
      refine region_seq (fun W => ∀ p, W.cell? p = wr.drew.cell? p) [(0, true), (1, true), (2, true), (3, true), (4, true), (5, true), (6, true), (7, true), (8, true), (9, true), (10, true), (11, true), (12, true)]
        (by kernel_rfl) (by kernel_rfl) (by kernel_rfl) (by simp) (fun _ _ _ _ h => h) (fun _ => rfl) ?_
      (refine SeqW.take (v := ?_) rfl (by rfl) (fun W hW => ?_) ?_; rotate_left; (go_simp; with_reducible rfl); simp only [Act.put, List.setIfInBounds_toArray, List.set_cons_zero, List.set_cons_succ])
      (refine SeqW.take (v := ?_) rfl (by rfl) (fun W hW => ?_) ?_; rotate_left; (go_simp; with_reducible rfl); simp only [Act.put, List.setIfInBounds_toArray, List.set_cons_zero, List.set_cons_succ])
      (refine SeqW.take (v := ?_) rfl (by rfl) (fun W hW => ?_) ?_; rotate_left; (have l0 := (hW _).trans s0'; have l1 := (hW _).trans c1'; have l2 := (hW _).trans f3'; go_simp; with_reducible rfl); simp only [Act.put, List.setIfInBounds_toArray, List.set_cons_zero, List.set_cons_succ])
      (refine SeqW.take (v := ?_) rfl (by rfl) (fun W hW => ?_) ?_; rotate_left; (go_simp; with_reducible rfl); simp only [Act.put, List.setIfInBounds_toArray, List.set_cons_zero, List.set_cons_succ])
      (refine SeqW.take (v := ?_) rfl (by rfl) (fun W hW => ?_) ?_; rotate_left; (go_simp; with_reducible rfl); simp only [Act.put, List.setIfInBounds_toArray, List.set_cons_zero, List.set_cons_succ])
      (refine SeqW.take (v := ?_) rfl (by rfl) (fun W hW => ?_) ?_; rotate_left; (go_simp; with_reducible rfl); simp only [Act.put, List.setIfInBounds_toArray, List.set_cons_zero, List.set_cons_succ])
      (refine SeqW.take (v := ?_) rfl (by rfl) (fun W hW => ?_) ?_; rotate_left; (have l0 := (hW _).trans s0'; have l1 := (hW _).trans c1'; have l2 := (hW _).trans f3'; go_simp; with_reducible rfl); simp only [Act.put, List.setIfInBounds_toArray, List.set_cons_zero, List.set_cons_succ])
      (refine SeqW.take (v := ?_) rfl (by rfl) (fun W hW => ?_) ?_; rotate_left; (go_simp; with_reducible rfl); simp only [Act.put, List.setIfInBounds_toArray, List.set_cons_zero, List.set_cons_succ])
      (refine SeqW.take (v := ?_) rfl (by rfl) (fun W hW => ?_) ?_; rotate_left; (go_simp; with_reducible rfl); simp only [Act.put, List.setIfInBounds_toArray, List.set_cons_zero, List.set_cons_succ])
      (refine SeqW.take (v := ?_) rfl (by rfl) (fun W hW => ?_) ?_; rotate_left; (go_simp; with_reducible rfl); simp only [Act.put, List.setIfInBounds_toArray, List.set_cons_zero, List.set_cons_succ])
      (refine SeqW.take (v := ?_) rfl (by rfl) (fun W hW => ?_) ?_; rotate_left; (have l0 := (hW _).trans s0'; have l1 := (hW _).trans c1'; have l2 := (hW _).trans f3'; go_simp; with_reducible rfl); simp only [Act.put, List.setIfInBounds_toArray, List.set_cons_zero, List.set_cons_succ])
      (refine SeqW.take (v := ?_) rfl (by rfl) (fun W hW => ?_) ?_; rotate_left; (go_simp; with_reducible rfl); simp only [Act.put, List.setIfInBounds_toArray, List.set_cons_zero, List.set_cons_succ])
      (refine SeqW.take (v := ?_) rfl (by rfl) (fun W hW => ?_) ?_; rotate_left; (go_simp; with_reducible rfl); simp only [Act.put, List.setIfInBounds_toArray, List.set_cons_zero, List.set_cons_succ])
      refine SeqW.done ?_
      go_wp2_with fail
      go_loopw [10] (fun kv wx => ∃ k : Nat, k ≤ i ∧ kv = .int .i64 k ∧ Hid (ApartOf ts gap l i k) ∧ Hid (Below (w.heap.size + 1) (w.alloc (.cells #[.slice (some ⟨b, off, none⟩) n c, .int .i64 lo, .int .i64 hi, .int .i64 pr, .int .i64 ne] 29)) wx)) (fun kv _ => i - (intOf kv).toNat)
      case atStart => exact ⟨0, Nat.zero_le _, rfl, Lib.hid (fun p x y h => absurd h (by omega)), Lib.hid hB.drew.drew⟩
      case round =>
        obtain ⟨k, hk, rfl, HK, HBK⟩ := hrel
        clear hB s0 c1 f0 f1 f2 f3 y5 hbl hlbl
        by_cases hki : k < i
        case neg =>
          obtain rfl : k = i := by omega
          have HAN := Lib.hid (apart_next HA.out HK.out)
          go_wp2_with fail
          go_roundw
          case rel => exact ⟨k + 1, z + ugl, by omega, by go_num, rfl, by omega, by omega, HZN, HAN, HBK⟩
          case measure => simp [intOf]; omega
        obtain ⟨v, hv⟩ : ∃ v, l[k]? = some v := ⟨_, List.getElem?_eq_getElem (by omega)⟩
        have hvt := HLT.out v (List.mem_of_getElem? hv)
        obtain ⟨t, ht⟩ : ∃ t, ts[v]? = some t := ⟨_, List.getElem?_eq_getElem hvt⟩
        have hot := HOK.out t (List.mem_of_getElem? ht)
        unfold okTree at hot
        have hvn : v < n := by rw [HTn.out]; exact hvt
        have hkl : k < l.length := by omega
        have hrk := hit_reckon (gap := gap) ht HU.out
        obtain ⟨z1, z2, z3, z4, z5⟩ := HX.out _ HBK.out
        obtain ⟨b', off', ha', hbl', hTA⟩ := z2.at_.resolve_left (fun h => by simp [h] at ht)
        obtain ⟨rfl, rfl⟩ := ad_inj ha'
        obtain ⟨lb', loff', hla', hlbl', hLA⟩ := z3.2.resolve_left (fun h => by have := natsI_at l i x HX1.out; simp [h] at this)
        obtain ⟨rfl, rfl⟩ := ad_inj hla'
        obtain ⟨_, f1, f2, _, _, _⟩ := hTA x _ HU.out
        obtain ⟨_, g1', g2', _, _, _⟩ := hTA v _ ht
        obtain ⟨ttag, tx, ty, tgl, tgh, tcr⟩ := t
        dsimp only at hot hrk f1 f2 g1' g2'
        have s0 : wr.cell? ⟨w.heap.size, 0, none⟩ = some (.slice (some ⟨b, off, none⟩) n c) := z1.cell 0
        have c1 : wr.cell? ⟨lb, loff + i, none⟩ = some (.int .i64 (x : Int)) := hLA i _ (natsI_at l i x HX1.out)
        have c2 : wr.cell? ⟨lb, loff + k, none⟩ = some (.int .i64 (v : Int)) := hLA k _ (natsI_at l k v hv)
        have q1 := sq_bound (x := ux - tx) (by omega) (by omega)
        have q2 := sq_bound (x := uy - ty) (by omega) (by omega)
        have hw1 : IntKind.i64.wrap (ux - tx) = ux - tx := by rw [IntKind.wrap_i64]; omega
        have hw2 : IntKind.i64.wrap (uy - ty) = uy - ty := by rw [IntKind.wrap_i64]; omega
        have hw3 : IntKind.i64.wrap ((ux - tx) * (ux - tx)) = (ux - tx) * (ux - tx) := by rw [IntKind.wrap_i64]; omega
        have hw4 : IntKind.i64.wrap ((uy - ty) * (uy - ty)) = (uy - ty) * (uy - ty) := by rw [IntKind.wrap_i64]; omega
        have hw5 : IntKind.i64.wrap ((ux - tx) * (ux - tx) + (uy - ty) * (uy - ty)) = (ux - tx) * (ux - tx) + (uy - ty) * (uy - ty) := by rw [IntKind.wrap_i64]; omega
        have HV := Lib.hid hv
        have HBe := HBK.out
        clear z1 z2 z3 hTA hLA ht hla' ha' hv
        rcases hd : decide ((ux - tx) * (ux - tx) + (uy - ty) * (uy - ty) ≤ gap * gap) with _ | _
        · have hd' : gap * gap < (ux - tx) * (ux - tx) + (uy - ty) * (uy - ty) := by have := of_decide_eq_false hd; omega
          have HKN : Hid (ApartOf ts gap l i (k + 1)) := Lib.hid fun p x' y' hp hx' hy' => by
            by_cases e : p = k
            · subst e
              obtain rfl : v = x' := Option.some.inj (HV.out.symm.trans hx')
              obtain rfl : x = y' := Option.some.inj (HX1.out.symm.trans hy')
              rw [hrk]; exact hd
            · exact HK.out p x' y' (by omega) hx' hy'
          clear hrk
          go_wp2_with fail
          refine region_seq (fun W => ∀ p, W.cell? p = wr.cell? p) [(0, true), (1, true), (2, true), (3, true), (4, true), (5, true), (6, true), (7, true), (8, true), (9, true), (10, true), (11, true), (12, true), (13, true), (14, true), (15, true), (16, true), (17, true), (18, true), (19, true), (20, true), (21, true), (22, true), (23, true), (24, true), (25, true), (26, true), (27, true), (28, true), (29, true), (30, true), (31, true), (32, true), (33, true), (34, true), (35, true), (36, true), (37, true), (38, true), (39, true)]
            (by kernel_rfl) (by kernel_rfl) (by kernel_rfl) (by simp) (fun _ _ _ _ h => h) (fun _ => rfl) ?_
          (refine SeqW.take (v := ?_) rfl (by rfl) (fun W hW => ?_) ?_; rotate_left; (go_simp; with_reducible rfl); simp only [Act.put, List.setIfInBounds_toArray, List.set_cons_zero, List.set_cons_succ])
          (refine SeqW.take (v := ?_) rfl (by rfl) (fun W hW => ?_) ?_; rotate_left; (have l0 := (hW _).trans s0; have l1 := (hW _).trans c1; have l2 := (hW _).trans c2; have l3 := (hW _).trans f1; have l4 := (hW _).trans f2; have l5 := (hW _).trans g1'; have l6 := (hW _).trans g2'; go_simp; with_reducible rfl); simp only [Act.put, List.setIfInBounds_toArray, List.set_cons_zero, List.set_cons_succ])
          (refine SeqW.take (v := ?_) rfl (by rfl) (fun W hW => ?_) ?_; rotate_left; (go_simp; with_reducible rfl); simp only [Act.put, List.setIfInBounds_toArray, List.set_cons_zero, List.set_cons_succ])
          (refine SeqW.take (v := ?_) rfl (by rfl) (fun W hW => ?_) ?_; rotate_left; (go_simp; with_reducible rfl); simp only [Act.put, List.setIfInBounds_toArray, List.set_cons_zero, List.set_cons_succ])
          (refine SeqW.take (v := ?_) rfl (by rfl) (fun W hW => ?_) ?_; rotate_left; (go_simp; with_reducible rfl); simp only [Act.put, List.setIfInBounds_toArray, List.set_cons_zero, List.set_cons_succ])
          (refine SeqW.take (v := ?_) rfl (by rfl) (fun W hW => ?_) ?_; rotate_left; (have l0 := (hW _).trans s0; have l1 := (hW _).trans c1; have l2 := (hW _).trans c2; have l3 := (hW _).trans f1; have l4 := (hW _).trans f2; have l5 := (hW _).trans g1'; have l6 := (hW _).trans g2'; go_simp; with_reducible rfl); simp only [Act.put, List.setIfInBounds_toArray, List.set_cons_zero, List.set_cons_succ])
          (refine SeqW.take (v := ?_) rfl (by rfl) (fun W hW => ?_) ?_; rotate_left; (go_simp; with_reducible rfl); simp only [Act.put, List.setIfInBounds_toArray, List.set_cons_zero, List.set_cons_succ])
          (refine SeqW.take (v := ?_) rfl (by rfl) (fun W hW => ?_) ?_; rotate_left; (go_simp; with_reducible rfl); simp only [Act.put, List.setIfInBounds_toArray, List.set_cons_zero, List.set_cons_succ])
          (refine SeqW.take (v := ?_) rfl (by rfl) (fun W hW => ?_) ?_; rotate_left; (have l0 := (hW _).trans s0; have l1 := (hW _).trans c1; have l2 := (hW _).trans c2; have l3 := (hW _).trans f1; have l4 := (hW _).trans f2; have l5 := (hW _).trans g1'; have l6 := (hW _).trans g2'; go_simp; with_reducible rfl); simp only [Act.put, List.setIfInBounds_toArray, List.set_cons_zero, List.set_cons_succ])
          (refine SeqW.take (v := ?_) rfl (by rfl) (fun W hW => ?_) ?_; rotate_left; (go_simp; with_reducible rfl); simp only [Act.put, List.setIfInBounds_toArray, List.set_cons_zero, List.set_cons_succ])
          (refine SeqW.take (v := ?_) rfl (by rfl) (fun W hW => ?_) ?_; rotate_left; (have l0 := (hW _).trans s0; have l1 := (hW _).trans c1; have l2 := (hW _).trans c2; have l3 := (hW _).trans f1; have l4 := (hW _).trans f2; have l5 := (hW _).trans g1'; have l6 := (hW _).trans g2'; go_simp; with_reducible rfl); simp only [Act.put, List.setIfInBounds_toArray, List.set_cons_zero, List.set_cons_succ])
          (refine SeqW.take (v := ?_) rfl (by rfl) (fun W hW => ?_) ?_; rotate_left; (go_simp; with_reducible rfl); simp only [Act.put, List.setIfInBounds_toArray, List.set_cons_zero, List.set_cons_succ])
          (refine SeqW.take (v := ?_) rfl (by rfl) (fun W hW => ?_) ?_; rotate_left; (go_simp; with_reducible rfl); simp only [Act.put, List.setIfInBounds_toArray, List.set_cons_zero, List.set_cons_succ])
          (refine SeqW.take (v := ?_) rfl (by rfl) (fun W hW => ?_) ?_; rotate_left; (go_simp; with_reducible rfl); simp only [Act.put, List.setIfInBounds_toArray, List.set_cons_zero, List.set_cons_succ])
          (refine SeqW.take (v := ?_) rfl (by rfl) (fun W hW => ?_) ?_; rotate_left; (have l0 := (hW _).trans s0; have l1 := (hW _).trans c1; have l2 := (hW _).trans c2; have l3 := (hW _).trans f1; have l4 := (hW _).trans f2; have l5 := (hW _).trans g1'; have l6 := (hW _).trans g2'; go_simp; with_reducible rfl); simp only [Act.put, List.setIfInBounds_toArray, List.set_cons_zero, List.set_cons_succ])
          (refine SeqW.take (v := ?_) rfl (by rfl) (fun W hW => ?_) ?_; rotate_left; (go_simp; with_reducible rfl); simp only [Act.put, List.setIfInBounds_toArray, List.set_cons_zero, List.set_cons_succ])
          (refine SeqW.take (v := ?_) rfl (by rfl) (fun W hW => ?_) ?_; rotate_left; (go_simp; with_reducible rfl); simp only [Act.put, List.setIfInBounds_toArray, List.set_cons_zero, List.set_cons_succ])
          (refine SeqW.take (v := ?_) rfl (by rfl) (fun W hW => ?_) ?_; rotate_left; (have l0 := (hW _).trans s0; have l1 := (hW _).trans c1; have l2 := (hW _).trans c2; have l3 := (hW _).trans f1; have l4 := (hW _).trans f2; have l5 := (hW _).trans g1'; have l6 := (hW _).trans g2'; go_simp; with_reducible rfl); simp only [Act.put, List.setIfInBounds_toArray, List.set_cons_zero, List.set_cons_succ])
          (refine SeqW.take (v := ?_) rfl (by rfl) (fun W hW => ?_) ?_; rotate_left; (go_simp; with_reducible rfl); simp only [Act.put, List.setIfInBounds_toArray, List.set_cons_zero, List.set_cons_succ])
          (refine SeqW.take (v := ?_) rfl (by rfl) (fun W hW => ?_) ?_; rotate_left; (go_simp; with_reducible rfl); simp only [Act.put, List.setIfInBounds_toArray, List.set_cons_zero, List.set_cons_succ])
          (refine SeqW.take (v := ?_) rfl (by rfl) (fun W hW => ?_) ?_; rotate_left; (have l0 := (hW _).trans s0; have l1 := (hW _).trans c1; have l2 := (hW _).trans c2; have l3 := (hW _).trans f1; have l4 := (hW _).trans f2; have l5 := (hW _).trans g1'; have l6 := (hW _).trans g2'; go_simp; with_reducible rfl); simp only [Act.put, List.setIfInBounds_toArray, List.set_cons_zero, List.set_cons_succ])
          (refine SeqW.take (v := ?_) rfl (by rfl) (fun W hW => ?_) ?_; rotate_left; (go_simp; with_reducible rfl); simp only [Act.put, List.setIfInBounds_toArray, List.set_cons_zero, List.set_cons_succ])
          (refine SeqW.take (v := ?_) rfl (by rfl) (fun W hW => ?_) ?_; rotate_left; (go_simp; with_reducible rfl); simp only [Act.put, List.setIfInBounds_toArray, List.set_cons_zero, List.set_cons_succ])
          (refine SeqW.take (v := ?_) rfl (by rfl) (fun W hW => ?_) ?_; rotate_left; (go_simp; with_reducible rfl); simp only [Act.put, List.setIfInBounds_toArray, List.set_cons_zero, List.set_cons_succ])
          (refine SeqW.take (v := ?_) rfl (by rfl) (fun W hW => ?_) ?_; rotate_left; (have l0 := (hW _).trans s0; have l1 := (hW _).trans c1; have l2 := (hW _).trans c2; have l3 := (hW _).trans f1; have l4 := (hW _).trans f2; have l5 := (hW _).trans g1'; have l6 := (hW _).trans g2'; go_simp; with_reducible rfl); simp only [Act.put, List.setIfInBounds_toArray, List.set_cons_zero, List.set_cons_succ])
          (refine SeqW.take (v := ?_) rfl (by rfl) (fun W hW => ?_) ?_; rotate_left; (go_simp; with_reducible rfl); simp only [Act.put, List.setIfInBounds_toArray, List.set_cons_zero, List.set_cons_succ])
          (refine SeqW.take (v := ?_) rfl (by rfl) (fun W hW => ?_) ?_; rotate_left; (go_simp; with_reducible rfl); simp only [Act.put, List.setIfInBounds_toArray, List.set_cons_zero, List.set_cons_succ])
          (refine SeqW.take (v := ?_) rfl (by rfl) (fun W hW => ?_) ?_; rotate_left; (have l0 := (hW _).trans s0; have l1 := (hW _).trans c1; have l2 := (hW _).trans c2; have l3 := (hW _).trans f1; have l4 := (hW _).trans f2; have l5 := (hW _).trans g1'; have l6 := (hW _).trans g2'; go_simp; with_reducible rfl); simp only [Act.put, List.setIfInBounds_toArray, List.set_cons_zero, List.set_cons_succ])
          (refine SeqW.take (v := ?_) rfl (by rfl) (fun W hW => ?_) ?_; rotate_left; (go_simp; with_reducible rfl); simp only [Act.put, List.setIfInBounds_toArray, List.set_cons_zero, List.set_cons_succ])
          (refine SeqW.take (v := ?_) rfl (by rfl) (fun W hW => ?_) ?_; rotate_left; (have l0 := (hW _).trans s0; have l1 := (hW _).trans c1; have l2 := (hW _).trans c2; have l3 := (hW _).trans f1; have l4 := (hW _).trans f2; have l5 := (hW _).trans g1'; have l6 := (hW _).trans g2'; go_simp; with_reducible rfl); simp only [Act.put, List.setIfInBounds_toArray, List.set_cons_zero, List.set_cons_succ])
          (refine SeqW.take (v := ?_) rfl (by rfl) (fun W hW => ?_) ?_; rotate_left; (go_simp; with_reducible rfl); simp only [Act.put, List.setIfInBounds_toArray, List.set_cons_zero, List.set_cons_succ])
          (refine SeqW.take (v := ?_) rfl (by rfl) (fun W hW => ?_) ?_; rotate_left; (go_simp; with_reducible rfl); simp only [Act.put, List.setIfInBounds_toArray, List.set_cons_zero, List.set_cons_succ])
          (refine SeqW.take (v := ?_) rfl (by rfl) (fun W hW => ?_) ?_; rotate_left; (go_simp; with_reducible rfl); simp only [Act.put, List.setIfInBounds_toArray, List.set_cons_zero, List.set_cons_succ])
          (refine SeqW.take (v := ?_) rfl (by rfl) (fun W hW => ?_) ?_; rotate_left; (have l0 := (hW _).trans s0; have l1 := (hW _).trans c1; have l2 := (hW _).trans c2; have l3 := (hW _).trans f1; have l4 := (hW _).trans f2; have l5 := (hW _).trans g1'; have l6 := (hW _).trans g2'; go_simp; with_reducible rfl); simp only [Act.put, List.setIfInBounds_toArray, List.set_cons_zero, List.set_cons_succ])
          (refine SeqW.take (v := ?_) rfl (by rfl) (fun W hW => ?_) ?_; rotate_left; (go_simp; with_reducible rfl); simp only [Act.put, List.setIfInBounds_toArray, List.set_cons_zero, List.set_cons_succ])
          (refine SeqW.take (v := ?_) rfl (by rfl) (fun W hW => ?_) ?_; rotate_left; (go_simp; with_reducible rfl); simp only [Act.put, List.setIfInBounds_toArray, List.set_cons_zero, List.set_cons_succ])
          (refine SeqW.take (v := ?_) rfl (by rfl) (fun W hW => ?_) ?_; rotate_left; (have l0 := (hW _).trans s0; have l1 := (hW _).trans c1; have l2 := (hW _).trans c2; have l3 := (hW _).trans f1; have l4 := (hW _).trans f2; have l5 := (hW _).trans g1'; have l6 := (hW _).trans g2'; go_simp; with_reducible rfl); simp only [Act.put, List.setIfInBounds_toArray, List.set_cons_zero, List.set_cons_succ])
          (refine SeqW.take (v := ?_) rfl (by rfl) (fun W hW => ?_) ?_; rotate_left; (go_simp; with_reducible rfl); simp only [Act.put, List.setIfInBounds_toArray, List.set_cons_zero, List.set_cons_succ])
          (refine SeqW.take (v := ?_) rfl (by rfl) (fun W hW => ?_) ?_; rotate_left; (go_simp; with_reducible rfl); simp only [Act.put, List.setIfInBounds_toArray, List.set_cons_zero, List.set_cons_succ])
          (refine SeqW.take (v := ?_) rfl (by rfl) (fun W hW => ?_) ?_; rotate_left; (go_simp; with_reducible rfl); simp only [Act.put, List.setIfInBounds_toArray, List.set_cons_zero, List.set_cons_succ])
          refine SeqW.done ?_
          go_wp2_with fail
          go_roundw
          case rel => exact ⟨k + 1, by omega, by go_num, HKN, Lib.hid HBe.drew⟩
          case measure => simp [intOf]; omega
        · have hd' : (ux - tx) * (ux - tx) + (uy - ty) * (uy - ty) ≤ gap * gap := of_decide_eq_true hd
          have HNG := Lib.hid (good_not (ts := ts) (gap := gap) hki HV.out HX1.out (by rw [hrk]; exact hd))
          clear hrk
          go_wp2_with fail
          refine region_seq (fun W => ∀ p, W.cell? p = wr.cell? p) [(0, true), (1, true), (2, true), (3, true), (4, true), (5, true), (6, true), (7, true), (8, true), (9, true), (10, true), (11, true), (12, true), (13, true), (14, true), (15, true), (16, true), (17, true), (18, true), (19, true), (20, true), (21, true), (22, true), (23, true), (24, true), (25, true), (26, true), (27, true), (28, true), (29, true), (30, true), (31, true), (32, true), (33, true), (34, true), (35, true), (36, true), (37, true), (38, true), (39, true)]
            (by kernel_rfl) (by kernel_rfl) (by kernel_rfl) (by simp) (fun _ _ _ _ h => h) (fun _ => rfl) ?_
          (refine SeqW.take (v := ?_) rfl (by rfl) (fun W hW => ?_) ?_; rotate_left; (go_simp; with_reducible rfl); simp only [Act.put, List.setIfInBounds_toArray, List.set_cons_zero, List.set_cons_succ])
          (refine SeqW.take (v := ?_) rfl (by rfl) (fun W hW => ?_) ?_; rotate_left; (have l0 := (hW _).trans s0; have l1 := (hW _).trans c1; have l2 := (hW _).trans c2; have l3 := (hW _).trans f1; have l4 := (hW _).trans f2; have l5 := (hW _).trans g1'; have l6 := (hW _).trans g2'; go_simp; with_reducible rfl); simp only [Act.put, List.setIfInBounds_toArray, List.set_cons_zero, List.set_cons_succ])
          (refine SeqW.take (v := ?_) rfl (by rfl) (fun W hW => ?_) ?_; rotate_left; (go_simp; with_reducible rfl); simp only [Act.put, List.setIfInBounds_toArray, List.set_cons_zero, List.set_cons_succ])
          (refine SeqW.take (v := ?_) rfl (by rfl) (fun W hW => ?_) ?_; rotate_left; (go_simp; with_reducible rfl); simp only [Act.put, List.setIfInBounds_toArray, List.set_cons_zero, List.set_cons_succ])
          (refine SeqW.take (v := ?_) rfl (by rfl) (fun W hW => ?_) ?_; rotate_left; (go_simp; with_reducible rfl); simp only [Act.put, List.setIfInBounds_toArray, List.set_cons_zero, List.set_cons_succ])
          (refine SeqW.take (v := ?_) rfl (by rfl) (fun W hW => ?_) ?_; rotate_left; (have l0 := (hW _).trans s0; have l1 := (hW _).trans c1; have l2 := (hW _).trans c2; have l3 := (hW _).trans f1; have l4 := (hW _).trans f2; have l5 := (hW _).trans g1'; have l6 := (hW _).trans g2'; go_simp; with_reducible rfl); simp only [Act.put, List.setIfInBounds_toArray, List.set_cons_zero, List.set_cons_succ])
          (refine SeqW.take (v := ?_) rfl (by rfl) (fun W hW => ?_) ?_; rotate_left; (go_simp; with_reducible rfl); simp only [Act.put, List.setIfInBounds_toArray, List.set_cons_zero, List.set_cons_succ])
          (refine SeqW.take (v := ?_) rfl (by rfl) (fun W hW => ?_) ?_; rotate_left; (go_simp; with_reducible rfl); simp only [Act.put, List.setIfInBounds_toArray, List.set_cons_zero, List.set_cons_succ])
          (refine SeqW.take (v := ?_) rfl (by rfl) (fun W hW => ?_) ?_; rotate_left; (have l0 := (hW _).trans s0; have l1 := (hW _).trans c1; have l2 := (hW _).trans c2; have l3 := (hW _).trans f1; have l4 := (hW _).trans f2; have l5 := (hW _).trans g1'; have l6 := (hW _).trans g2'; go_simp; with_reducible rfl); simp only [Act.put, List.setIfInBounds_toArray, List.set_cons_zero, List.set_cons_succ])
          (refine SeqW.take (v := ?_) rfl (by rfl) (fun W hW => ?_) ?_; rotate_left; (go_simp; with_reducible rfl); simp only [Act.put, List.setIfInBounds_toArray, List.set_cons_zero, List.set_cons_succ])
          (refine SeqW.take (v := ?_) rfl (by rfl) (fun W hW => ?_) ?_; rotate_left; (have l0 := (hW _).trans s0; have l1 := (hW _).trans c1; have l2 := (hW _).trans c2; have l3 := (hW _).trans f1; have l4 := (hW _).trans f2; have l5 := (hW _).trans g1'; have l6 := (hW _).trans g2'; go_simp; with_reducible rfl); simp only [Act.put, List.setIfInBounds_toArray, List.set_cons_zero, List.set_cons_succ])
          (refine SeqW.take (v := ?_) rfl (by rfl) (fun W hW => ?_) ?_; rotate_left; (go_simp; with_reducible rfl); simp only [Act.put, List.setIfInBounds_toArray, List.set_cons_zero, List.set_cons_succ])
          (refine SeqW.take (v := ?_) rfl (by rfl) (fun W hW => ?_) ?_; rotate_left; (go_simp; with_reducible rfl); simp only [Act.put, List.setIfInBounds_toArray, List.set_cons_zero, List.set_cons_succ])
          (refine SeqW.take (v := ?_) rfl (by rfl) (fun W hW => ?_) ?_; rotate_left; (go_simp; with_reducible rfl); simp only [Act.put, List.setIfInBounds_toArray, List.set_cons_zero, List.set_cons_succ])
          (refine SeqW.take (v := ?_) rfl (by rfl) (fun W hW => ?_) ?_; rotate_left; (have l0 := (hW _).trans s0; have l1 := (hW _).trans c1; have l2 := (hW _).trans c2; have l3 := (hW _).trans f1; have l4 := (hW _).trans f2; have l5 := (hW _).trans g1'; have l6 := (hW _).trans g2'; go_simp; with_reducible rfl); simp only [Act.put, List.setIfInBounds_toArray, List.set_cons_zero, List.set_cons_succ])
          (refine SeqW.take (v := ?_) rfl (by rfl) (fun W hW => ?_) ?_; rotate_left; (go_simp; with_reducible rfl); simp only [Act.put, List.setIfInBounds_toArray, List.set_cons_zero, List.set_cons_succ])
          (refine SeqW.take (v := ?_) rfl (by rfl) (fun W hW => ?_) ?_; rotate_left; (go_simp; with_reducible rfl); simp only [Act.put, List.setIfInBounds_toArray, List.set_cons_zero, List.set_cons_succ])
          (refine SeqW.take (v := ?_) rfl (by rfl) (fun W hW => ?_) ?_; rotate_left; (have l0 := (hW _).trans s0; have l1 := (hW _).trans c1; have l2 := (hW _).trans c2; have l3 := (hW _).trans f1; have l4 := (hW _).trans f2; have l5 := (hW _).trans g1'; have l6 := (hW _).trans g2'; go_simp; with_reducible rfl); simp only [Act.put, List.setIfInBounds_toArray, List.set_cons_zero, List.set_cons_succ])
          (refine SeqW.take (v := ?_) rfl (by rfl) (fun W hW => ?_) ?_; rotate_left; (go_simp; with_reducible rfl); simp only [Act.put, List.setIfInBounds_toArray, List.set_cons_zero, List.set_cons_succ])
          (refine SeqW.take (v := ?_) rfl (by rfl) (fun W hW => ?_) ?_; rotate_left; (go_simp; with_reducible rfl); simp only [Act.put, List.setIfInBounds_toArray, List.set_cons_zero, List.set_cons_succ])
          (refine SeqW.take (v := ?_) rfl (by rfl) (fun W hW => ?_) ?_; rotate_left; (have l0 := (hW _).trans s0; have l1 := (hW _).trans c1; have l2 := (hW _).trans c2; have l3 := (hW _).trans f1; have l4 := (hW _).trans f2; have l5 := (hW _).trans g1'; have l6 := (hW _).trans g2'; go_simp; with_reducible rfl); simp only [Act.put, List.setIfInBounds_toArray, List.set_cons_zero, List.set_cons_succ])
          (refine SeqW.take (v := ?_) rfl (by rfl) (fun W hW => ?_) ?_; rotate_left; (go_simp; with_reducible rfl); simp only [Act.put, List.setIfInBounds_toArray, List.set_cons_zero, List.set_cons_succ])
          (refine SeqW.take (v := ?_) rfl (by rfl) (fun W hW => ?_) ?_; rotate_left; (go_simp; with_reducible rfl); simp only [Act.put, List.setIfInBounds_toArray, List.set_cons_zero, List.set_cons_succ])
          (refine SeqW.take (v := ?_) rfl (by rfl) (fun W hW => ?_) ?_; rotate_left; (go_simp; with_reducible rfl); simp only [Act.put, List.setIfInBounds_toArray, List.set_cons_zero, List.set_cons_succ])
          (refine SeqW.take (v := ?_) rfl (by rfl) (fun W hW => ?_) ?_; rotate_left; (have l0 := (hW _).trans s0; have l1 := (hW _).trans c1; have l2 := (hW _).trans c2; have l3 := (hW _).trans f1; have l4 := (hW _).trans f2; have l5 := (hW _).trans g1'; have l6 := (hW _).trans g2'; go_simp; with_reducible rfl); simp only [Act.put, List.setIfInBounds_toArray, List.set_cons_zero, List.set_cons_succ])
          (refine SeqW.take (v := ?_) rfl (by rfl) (fun W hW => ?_) ?_; rotate_left; (go_simp; with_reducible rfl); simp only [Act.put, List.setIfInBounds_toArray, List.set_cons_zero, List.set_cons_succ])
          (refine SeqW.take (v := ?_) rfl (by rfl) (fun W hW => ?_) ?_; rotate_left; (go_simp; with_reducible rfl); simp only [Act.put, List.setIfInBounds_toArray, List.set_cons_zero, List.set_cons_succ])
          (refine SeqW.take (v := ?_) rfl (by rfl) (fun W hW => ?_) ?_; rotate_left; (have l0 := (hW _).trans s0; have l1 := (hW _).trans c1; have l2 := (hW _).trans c2; have l3 := (hW _).trans f1; have l4 := (hW _).trans f2; have l5 := (hW _).trans g1'; have l6 := (hW _).trans g2'; go_simp; with_reducible rfl); simp only [Act.put, List.setIfInBounds_toArray, List.set_cons_zero, List.set_cons_succ])
          (refine SeqW.take (v := ?_) rfl (by rfl) (fun W hW => ?_) ?_; rotate_left; (go_simp; with_reducible rfl); simp only [Act.put, List.setIfInBounds_toArray, List.set_cons_zero, List.set_cons_succ])
          (refine SeqW.take (v := ?_) rfl (by rfl) (fun W hW => ?_) ?_; rotate_left; (have l0 := (hW _).trans s0; have l1 := (hW _).trans c1; have l2 := (hW _).trans c2; have l3 := (hW _).trans f1; have l4 := (hW _).trans f2; have l5 := (hW _).trans g1'; have l6 := (hW _).trans g2'; go_simp; with_reducible rfl); simp only [Act.put, List.setIfInBounds_toArray, List.set_cons_zero, List.set_cons_succ])
          (refine SeqW.take (v := ?_) rfl (by rfl) (fun W hW => ?_) ?_; rotate_left; (go_simp; with_reducible rfl); simp only [Act.put, List.setIfInBounds_toArray, List.set_cons_zero, List.set_cons_succ])
          (refine SeqW.take (v := ?_) rfl (by rfl) (fun W hW => ?_) ?_; rotate_left; (go_simp; with_reducible rfl); simp only [Act.put, List.setIfInBounds_toArray, List.set_cons_zero, List.set_cons_succ])
          (refine SeqW.take (v := ?_) rfl (by rfl) (fun W hW => ?_) ?_; rotate_left; (go_simp; with_reducible rfl); simp only [Act.put, List.setIfInBounds_toArray, List.set_cons_zero, List.set_cons_succ])
          (refine SeqW.take (v := ?_) rfl (by rfl) (fun W hW => ?_) ?_; rotate_left; (have l0 := (hW _).trans s0; have l1 := (hW _).trans c1; have l2 := (hW _).trans c2; have l3 := (hW _).trans f1; have l4 := (hW _).trans f2; have l5 := (hW _).trans g1'; have l6 := (hW _).trans g2'; go_simp; with_reducible rfl); simp only [Act.put, List.setIfInBounds_toArray, List.set_cons_zero, List.set_cons_succ])
          (refine SeqW.take (v := ?_) rfl (by rfl) (fun W hW => ?_) ?_; rotate_left; (go_simp; with_reducible rfl); simp only [Act.put, List.setIfInBounds_toArray, List.set_cons_zero, List.set_cons_succ])
          (refine SeqW.take (v := ?_) rfl (by rfl) (fun W hW => ?_) ?_; rotate_left; (go_simp; with_reducible rfl); simp only [Act.put, List.setIfInBounds_toArray, List.set_cons_zero, List.set_cons_succ])
          (refine SeqW.take (v := ?_) rfl (by rfl) (fun W hW => ?_) ?_; rotate_left; (have l0 := (hW _).trans s0; have l1 := (hW _).trans c1; have l2 := (hW _).trans c2; have l3 := (hW _).trans f1; have l4 := (hW _).trans f2; have l5 := (hW _).trans g1'; have l6 := (hW _).trans g2'; go_simp; with_reducible rfl); simp only [Act.put, List.setIfInBounds_toArray, List.set_cons_zero, List.set_cons_succ])
          (refine SeqW.take (v := ?_) rfl (by rfl) (fun W hW => ?_) ?_; rotate_left; (go_simp; with_reducible rfl); simp only [Act.put, List.setIfInBounds_toArray, List.set_cons_zero, List.set_cons_succ])
          (refine SeqW.take (v := ?_) rfl (by rfl) (fun W hW => ?_) ?_; rotate_left; (go_simp; with_reducible rfl); simp only [Act.put, List.setIfInBounds_toArray, List.set_cons_zero, List.set_cons_succ])
          (refine SeqW.take (v := ?_) rfl (by rfl) (fun W hW => ?_) ?_; rotate_left; (go_simp; with_reducible rfl); simp only [Act.put, List.setIfInBounds_toArray, List.set_cons_zero, List.set_cons_succ])
          refine SeqW.done ?_
          go_wp2_with fail
          refine bodyPost_ret (v := .tuple #[.int .i64 0, .bool false]) (by simp [results, Tryd.results47, go_sem]) rfl ⟨0, false, rfl, ⟨⟨(fun h => by cases h), fun h => absurd h HNG.out⟩, (fun h => by cases h)⟩, z4.trans (Below.refl _ _).drew⟩
end Go.Proofs.YtpkjjiieglebbaaDoor
