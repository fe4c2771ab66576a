/- Contracts of package stand: the growing of a tree, its girth and its faces after years. Conditions: a valid stand, an index of one of its trees; numbers small enough that nothing wraps round. -/
import Derived.Test.YtpkjjiieglebbaaDoorNE
namespace Go.Proofs.YtpkjjiieglebbaaDoor
open Go Go.RowKit Go.Shelf
attribute [local go_sem] Oper.semAt_some
theorem own_box {β : Type} (b : Nat) (cs : Array Value) (t : TypeId) : Own (fun (_ : β) W => Box W b cs t) := fun s X Y row h hg hr =>
  (hg.block b h.lt (fun e => by obtain ⟨o, ho, hc⟩ := hr b e.symm; rw [show X.heap[b]? = _ from h] at ho; cases ho; cases hc)).trans h
theorem own_boxed {β : Type} (b : Nat) (v : β → Value) (t : TypeId) : Own (fun (s : β) W => Boxed W b t (v s)) := fun s X Y row h hg hr =>
  h.kept hg (fun e => by obtain ⟨o, ho, hc⟩ := hr b e.symm; rw [show X.heap[b]? = _ from h] at ho; cases ho; cases hc)
/-- A world in which a block of eight cells has been written over, a draw behind it. -/
def W8 (W : World) (B : Nat) (a0 a1 a2 a3 a4 a5 a6 a7 : Value) : World :=
  ((((((((W.setCell ⟨B, 0, none⟩ a0).setCell ⟨B, 1, none⟩ a1).setCell ⟨B, 2, none⟩ a2).setCell ⟨B, 3, none⟩ a3).setCell ⟨B, 4, none⟩ a4).setCell ⟨B, 5, none⟩ a5).setCell ⟨B, 6, none⟩ a6).setCell ⟨B, 7, none⟩ a7).drew
theorem W8.box {W : World} {B : Nat} {z0 z1 z2 z3 z4 z5 z6 z7 : Value} {T : TypeId} (h : Box W B #[z0, z1, z2, z3, z4, z5, z6, z7] T) (a0 a1 a2 a3 a4 a5 a6 a7 : Value) : Box (W8 W B a0 a1 a2 a3 a4 a5 a6 a7) B #[a0, a1, a2, a3, a4, a5, a6, a7] T := by
  have := ((((((((h.set 0 a0).set 1 a1).set 2 a2).set 3 a3).set 4 a4).set 5 a5).set 6 a6).set 7 a7).drew
  unfold W8
  simpa using this
theorem W8.other {W : World} {B D : Nat} (hD : D ≠ B) (a0 a1 a2 a3 a4 a5 a6 a7 : Value) : (W8 W B a0 a1 a2 a3 a4 a5 a6 a7).heap[D]? = W.heap[D]? := by
  unfold W8
  have e : ∀ X : World, X.drew.heap = X.heap := fun _ => rfl
  rw [e, Below.heap_setCell _ _ _ D hD, Below.heap_setCell _ _ _ D hD, Below.heap_setCell _ _ _ D hD, Below.heap_setCell _ _ _ D hD, Below.heap_setCell _ _ _ D hD, Below.heap_setCell _ _ _ D hD, Below.heap_setCell _ _ _ D hD, Below.heap_setCell _ _ _ D hD]
theorem W8.below {W w : World} {B n : Nat} (h : Below n w W) (hB : n ≤ B) (a0 a1 a2 a3 a4 a5 a6 a7 : Value) : Below n w (W8 W B a0 a1 a2 a3 a4 a5 a6 a7) :=
  ((((((((h.setCell (p := ⟨B, 0, none⟩) hB a0).setCell (p := ⟨B, 1, none⟩) hB a1).setCell (p := ⟨B, 2, none⟩) hB a2).setCell (p := ⟨B, 3, none⟩) hB a3).setCell (p := ⟨B, 4, none⟩) hB a4).setCell (p := ⟨B, 5, none⟩) hB a5).setCell (p := ⟨B, 6, none⟩) hB a6).setCell (p := ⟨B, 7, none⟩) hB a7).drew
theorem ret_grow {a0 a1 a2 a3 a4 a5 : Value} {x y u v : Int} (h1 : x = u) (h2 : y = v) : Ending.returned (.agg #[a0, a1, a2, a3, a4, a5, .int .i64 x, .int .i64 y]) = .returned (.agg #[a0, a1, a2, a3, a4, a5, .int .i64 u, .int .i64 v]) := by rw [h1, h2]
theorem grow_results {W : World} {B : Nat} {a0 a1 a2 a3 a4 a5 a6 a7 : Value} (hR : Box W B #[a0, a1, a2, a3, a4, a5, a6, a7] 90) (tmps : Array Value) (h4 : tmps[4]?.getD undef = .pointer (some ⟨B, 0, none⟩)) :
    (results Tryd.f69 tmps).run Tryd.prog W = .ok (.agg #[a0, a1, a2, a3, a4, a5, a6, a7]) W := by
  have c0 : W.cell? ⟨B, 0, none⟩ = some a0 := hR.cell 0
  have c1 : W.cell? ⟨B, 1, none⟩ = some a1 := hR.cell 1
  have c2 : W.cell? ⟨B, 2, none⟩ = some a2 := hR.cell 2
  have c3 : W.cell? ⟨B, 3, none⟩ = some a3 := hR.cell 3
  have c4 : W.cell? ⟨B, 4, none⟩ = some a4 := hR.cell 4
  have c5 : W.cell? ⟨B, 5, none⟩ = some a5 := hR.cell 5
  have c6 : W.cell? ⟨B, 6, none⟩ = some a6 := hR.cell 6
  have c7 : W.cell? ⟨B, 7, none⟩ = some a7 := hR.cell 7
  simp [results, Tryd.results69, go_sem, h4, c0, c1, c2, c3, c4, c5, c6, c7]
set_option maxRecDepth 100000 in
set_option maxHeartbeats 2000000 in
theorem grow_in (m : Nat) (hm : 6 ≤ m) (b off c kn : Nat) (ts : List Tree) (lo hi pr ne : Int) (w : World) (t : Tree) (ht : ts[kn]? = some t) (hT : TreesAt w b off ts) (hl : b < w.heap.size) (hkn : kn < ts.length)
    (hv : standB ⟨ts, lo, hi, pr, ne⟩ = true) :
    CallsIn Fence.wide m Tryd.prog 69 #[.agg #[.slice (some ⟨b, off, none⟩) ts.length c, .int .i64 lo, .int .i64 hi, .int .i64 pr, .int .i64 ne], .int .i64 (kn : Int)] w fun e w' =>
      e = .returned (.agg #[.string t.tag, .int .i64 t.x, .int .i64 t.y, .int .i64 t.gl, .int .i64 t.gh, .int .i64 t.cr, .int .i64 (rateL ⟨ts, lo, hi, pr, ne⟩ kn), .int .i64 (rateH ⟨ts, lo, hi, pr, ne⟩ kn)]) ∧ Below w.heap.size w w' := by
  have h1 : 1 ≤ m := by omega
  obtain ⟨_, h14, hok, hne1, hne2⟩ := valid_of (s := ⟨ts, lo, hi, pr, ne⟩) (by unfold checkE; rw [if_pos hv])
  dsimp only at h14 hok hne1 hne2
  have hnum : 0 ≤ lo ∧ lo ≤ 100 ∧ 0 ≤ hi ∧ hi ≤ 100 ∧ 0 ≤ pr ∧ pr ≤ 100 := by
    simp only [standB, headB, Bool.and_eq_true, spanB_iff, frB_iff] at hv; omega
  obtain ⟨n1, n2, n3, n4, n5, n6⟩ := hnum
  clear hv
  refine callsIn_of_wp_marks Tryd.func69 rfl trivial ?_ rfl
  simp only [Tryd.ntmps69, List.size_toArray, List.length_cons, List.length_nil, Nat.reduceAdd, Nat.reduceSub, Array.replicate_succ, Array.replicate_zero, List.push_toArray, List.append_toArray, List.nil_append, List.cons_append]
  gi_wp2_with (refine ⟨trivial, ?_⟩; gi_at_call 55; refine (neighbours_in (m - 1) _ _ _ _ _ _ _ _ _).mono ?_; rintro e w' ⟨rfl, rfl⟩)
  have hsz := @World.size_alloc
  have b0 := ((((Box.new w #[.slice (some ⟨b, off, none⟩) ts.length c, .int .i64 lo, .int .i64 hi, .int .i64 pr, .int .i64 ne] 29).alloc (.cells #[.string { data := #[] }, .int .i64 0, .int .i64 0, .int .i64 0, .int .i64 0, .int .i64 0, .int .i64 0, .int .i64 0] 90)).alloc (.cells #[.int .i64 0] 3)).alloc (.cells #[.slice (some ⟨b, off, none⟩) ts.length c, .int .i64 lo, .int .i64 hi, .int .i64 pr, .int .i64 ne] 29)).alloc (.cells #[.int .i64 (kn : Int)] 3)
  have b1 := (((Box.new (w.alloc (.cells #[.slice (some ⟨b, off, none⟩) ts.length c, .int .i64 lo, .int .i64 hi, .int .i64 pr, .int .i64 ne] 29)) #[.string { data := #[] }, .int .i64 0, .int .i64 0, .int .i64 0, .int .i64 0, .int .i64 0, .int .i64 0, .int .i64 0] 90).alloc (.cells #[.int .i64 0] 3)).alloc (.cells #[.slice (some ⟨b, off, none⟩) ts.length c, .int .i64 lo, .int .i64 hi, .int .i64 pr, .int .i64 ne] 29)).alloc (.cells #[.int .i64 (kn : Int)] 3)
  have b2 := ((Boxed.new ((w.alloc (.cells #[.slice (some ⟨b, off, none⟩) ts.length c, .int .i64 lo, .int .i64 hi, .int .i64 pr, .int .i64 ne] 29)).alloc (.cells #[.string { data := #[] }, .int .i64 0, .int .i64 0, .int .i64 0, .int .i64 0, .int .i64 0, .int .i64 0, .int .i64 0] 90)) 3 (.int .i64 0)).alloc (.cells #[.slice (some ⟨b, off, none⟩) ts.length c, .int .i64 lo, .int .i64 hi, .int .i64 pr, .int .i64 ne] 29)).alloc (.cells #[.int .i64 (kn : Int)] 3)
  have b3 := (Box.new (((w.alloc (.cells #[.slice (some ⟨b, off, none⟩) ts.length c, .int .i64 lo, .int .i64 hi, .int .i64 pr, .int .i64 ne] 29)).alloc (.cells #[.string { data := #[] }, .int .i64 0, .int .i64 0, .int .i64 0, .int .i64 0, .int .i64 0, .int .i64 0, .int .i64 0] 90)).alloc (.cells #[.int .i64 0] 3)) #[.slice (some ⟨b, off, none⟩) ts.length c, .int .i64 lo, .int .i64 hi, .int .i64 pr, .int .i64 ne] 29).alloc (.cells #[.int .i64 (kn : Int)] 3)
  have b4 := Box.new ((((w.alloc (.cells #[.slice (some ⟨b, off, none⟩) ts.length c, .int .i64 lo, .int .i64 hi, .int .i64 pr, .int .i64 ne] 29)).alloc (.cells #[.string { data := #[] }, .int .i64 0, .int .i64 0, .int .i64 0, .int .i64 0, .int .i64 0, .int .i64 0, .int .i64 0] 90)).alloc (.cells #[.int .i64 0] 3)).alloc (.cells #[.slice (some ⟨b, off, none⟩) ts.length c, .int .i64 lo, .int .i64 hi, .int .i64 pr, .int .i64 ne] 29)) #[.int .i64 (kn : Int)] 3
  have hB5 : Below w.heap.size w (((((w.alloc (.cells #[.slice (some ⟨b, off, none⟩) ts.length c, .int .i64 lo, .int .i64 hi, .int .i64 pr, .int .i64 ne] 29)).alloc (.cells #[.string { data := #[] }, .int .i64 0, .int .i64 0, .int .i64 0, .int .i64 0, .int .i64 0, .int .i64 0, .int .i64 0] 90)).alloc (.cells #[.int .i64 0] 3)).alloc (.cells #[.slice (some ⟨b, off, none⟩) ts.length c, .int .i64 lo, .int .i64 hi, .int .i64 pr, .int .i64 ne] 29)).alloc (.cells #[.int .i64 (kn : Int)] 3)) := (((((Below.refl _ w).alloc (Nat.le_refl _) _).alloc (by simp) _).alloc (by simp; omega) _).alloc (by simp; omega) _).alloc (by simp; omega) _
  have hz5 : (((((w.alloc (.cells #[.slice (some ⟨b, off, none⟩) ts.length c, .int .i64 lo, .int .i64 hi, .int .i64 pr, .int .i64 ne] 29)).alloc (.cells #[.string { data := #[] }, .int .i64 0, .int .i64 0, .int .i64 0, .int .i64 0, .int .i64 0, .int .i64 0, .int .i64 0] 90)).alloc (.cells #[.int .i64 0] 3)).alloc (.cells #[.slice (some ⟨b, off, none⟩) ts.length c, .int .i64 lo, .int .i64 hi, .int .i64 pr, .int .i64 ne] 29)).alloc (.cells #[.int .i64 (kn : Int)] 3)).heap.size = w.heap.size + 1 + 1 + 1 + 1 + 1 := by simp
  simp only [hsz] at b0 b1 b2 b3 b4
  have hT5 := hT.below hB5 hl
  clear hsz
  generalize ((((w.alloc (.cells #[.slice (some ⟨b, off, none⟩) ts.length c, .int .i64 lo, .int .i64 hi, .int .i64 pr, .int .i64 ne] 29)).alloc (.cells #[.string { data := #[] }, .int .i64 0, .int .i64 0, .int .i64 0, .int .i64 0, .int .i64 0, .int .i64 0, .int .i64 0] 90)).alloc (.cells #[.int .i64 0] 3)).alloc (.cells #[.slice (some ⟨b, off, none⟩) ts.length c, .int .i64 lo, .int .i64 hi, .int .i64 pr, .int .i64 ne] 29)).alloc (.cells #[.int .i64 (kn : Int)] 3) = w5 at *
  have hnl := nearTo_len ts ne kn ts.length
  refine wpIn_rangeFunc_ownG rfl h1 (gf := 90) (lb := #[.pointer (some ⟨w.heap.size + 1 + 1 + 1, 0, none⟩), .pointer (some ⟨w.heap.size + 1 + 1 + 1 + 1, 0, none⟩)]) rfl trivial (enters_of Tryd.func90 (by kernel_rfl) rfl)
    (neighbours_stops (m - 1) (by omega) (w.heap.size + 1 + 1 + 1) (w.heap.size + 1 + 1 + 1 + 1) b off c kn lo hi pr ne ts (fun x => x < w.heap.size ∨ x = w.heap.size + 1 + 1 + 1 ∨ x = w.heap.size + 1 + 1 + 1 + 1) h14 hkn hok ⟨hne1, hne2⟩ (.inl hl) (.inr (.inl rfl)) (.inr (.inr rfl)) w5 (fun x hx => by omega) b3 b4 hT5)
    keep_t (keep_b (fun x hx => by omega)) (Below.refl _ _) (fun _ => rfl)
    (fun pre W => Boxed W (w.heap.size + 1 + 1) 3 (.int .i64 (pr * (pre.length : Int))) ∧ Box W w.heap.size #[.slice (some ⟨b, off, none⟩) ts.length c, .int .i64 lo, .int .i64 hi, .int .i64 pr, .int .i64 ne] 29 ∧ Box W (w.heap.size + 1) #[.string { data := #[] }, .int .i64 0, .int .i64 0, .int .i64 0, .int .i64 0, .int .i64 0, .int .i64 0, .int .i64 0] 90 ∧ Below w.heap.size w W)
    (fun _ _ _ => False) ?hI (fun _ _ _ _ _ hs _ _ => hs) ⟨by simpa using b2, b0, b1, hB5⟩ ?a1 ?assign ?body ?done ?stop
  case hI =>
    exact OwnFrom.and (Own.from (own_boxed (w.heap.size + 1 + 1) (fun pre : List Nat => .int .i64 (pr * (pre.length : Int))) 3) _) (OwnFrom.and (Own.from (own_box _ _ _) _) (OwnFrom.and (Own.from (own_box _ _ _) _) (ownFrom_below (Nat.le_refl _) (by omega))))
  case assign =>
    intro l x W K hK
    gi_wp2
    exact hK
  case body =>
    rintro l pre x W ⟨hv, hX, hZ, hB⟩ hlt
    have hc := hv.cell
    have hf := hv.frozen
    have hc3 : W.cell? ⟨w.heap.size, 3, none⟩ = some (.int .i64 pr) := hX.cell 3
    have hpl : 0 ≤ pr * (pre.length : Int) ∧ pr * (pre.length : Int) ≤ 1400 := ⟨Int.mul_nonneg n5 (by omega), by
      have : pr * (pre.length : Int) ≤ 100 * 14 := Int.mul_le_mul n6 (by omega) (by omega) (by omega)
      omega⟩
    obtain ⟨p1, p2⟩ := hpl
    have hst : Hid (pr * (pre.length : Int) + pr = pr * ((pre ++ [x]).length : Int)) := Lib.hid (by rw [List.length_append, List.length_singleton, Int.natCast_add, Int.mul_add]; simp)
    gi_wp2
    refine ⟨(KeepsOthers.setCell _ _ _).from _, fun y hy => Below.heap_setCell _ _ _ y (by dsimp only; omega), ?_, hX.other (by dsimp only; omega) _, hZ.other (by dsimp only; omega) _, hB.setCell (by dsimp only; omega) _⟩
    rw [← hst.out]
    exact hv.set _
  case done =>
    rintro D ys W hD rfl ⟨hv, hX, hZ, hB⟩ hK
    have hc := hv.cell
    have e0 : W.cell? ⟨w.heap.size, 0, none⟩ = some (.slice (some ⟨b, off, none⟩) ts.length c) := hX.cell 0
    have e1 : W.cell? ⟨w.heap.size, 1, none⟩ = some (.int .i64 lo) := hX.cell 1
    have e2 : W.cell? ⟨w.heap.size, 2, none⟩ = some (.int .i64 hi) := hX.cell 2
    obtain ⟨q, hq⟩ : ∃ q, q = pr * ((nearL ts ne kn).length : Int) := ⟨_, rfl⟩
    have hql : 0 ≤ q ∧ q ≤ 1400 := by
      rw [hq]
      exact ⟨Int.mul_nonneg n5 (by omega), by
        have : pr * ((nearL ts ne kn).length : Int) ≤ 100 * 14 := Int.mul_le_mul n6 (by unfold nearL; omega) (by omega) (by omega)
        omega⟩
    obtain ⟨q1, q2⟩ := hql
    rw [← hq] at hc
    have HL : Hid (rateL ⟨ts, lo, hi, pr, ne⟩ kn = max 0 (lo - q)) := Lib.hid (by rw [hq]; rfl)
    have HH : Hid (rateH ⟨ts, lo, hi, pr, ne⟩ kn = max 0 (hi - q)) := Lib.hid (by rw [hq]; rfl)
    have HT := Lib.hid ht
    have hTW := hT.below hB hl
    obtain ⟨t0, t1, t2, t3, t4, t5⟩ := hTW kn t ht
    clear hq ht
    have hzW : w5.heap.size ≤ W.heap.size := by
      have := (Array.getElem?_eq_some_iff.1 hK).1
      omega
    gi_wp2_with fail
    all_goals
      have f0 : ∀ o, (W.alloc o).cell? ⟨w.heap.size, 0, none⟩ = some (.slice (some ⟨b, off, none⟩) ts.length c) := fun o => (hX.alloc o).cell 0
      have z0 : ∀ o, (W.alloc o).cell? ⟨w.heap.size + 1, 0, none⟩ = some (.string { data := #[] }) := fun o => (hZ.alloc o).cell 0
      have y0 : ∀ o, (W.alloc o).frozen? ⟨w.heap.size + 1, 0, none⟩ = false := fun o => (hZ.alloc o).free 0
      have z1 : ∀ o, (W.alloc o).cell? ⟨w.heap.size + 1, 1, none⟩ = some (.int .i64 0) := fun o => (hZ.alloc o).cell 1
      have y1 : ∀ o, (W.alloc o).frozen? ⟨w.heap.size + 1, 1, none⟩ = false := fun o => (hZ.alloc o).free 1
      have z2 : ∀ o, (W.alloc o).cell? ⟨w.heap.size + 1, 2, none⟩ = some (.int .i64 0) := fun o => (hZ.alloc o).cell 2
      have y2 : ∀ o, (W.alloc o).frozen? ⟨w.heap.size + 1, 2, none⟩ = false := fun o => (hZ.alloc o).free 2
      have z3 : ∀ o, (W.alloc o).cell? ⟨w.heap.size + 1, 3, none⟩ = some (.int .i64 0) := fun o => (hZ.alloc o).cell 3
      have y3 : ∀ o, (W.alloc o).frozen? ⟨w.heap.size + 1, 3, none⟩ = false := fun o => (hZ.alloc o).free 3
      have z4 : ∀ o, (W.alloc o).cell? ⟨w.heap.size + 1, 4, none⟩ = some (.int .i64 0) := fun o => (hZ.alloc o).cell 4
      have y4 : ∀ o, (W.alloc o).frozen? ⟨w.heap.size + 1, 4, none⟩ = false := fun o => (hZ.alloc o).free 4
      have z5 : ∀ o, (W.alloc o).cell? ⟨w.heap.size + 1, 5, none⟩ = some (.int .i64 0) := fun o => (hZ.alloc o).cell 5
      have y5 : ∀ o, (W.alloc o).frozen? ⟨w.heap.size + 1, 5, none⟩ = false := fun o => (hZ.alloc o).free 5
      have z6 : ∀ o, (W.alloc o).cell? ⟨w.heap.size + 1, 6, none⟩ = some (.int .i64 0) := fun o => (hZ.alloc o).cell 6
      have y6 : ∀ o, (W.alloc o).frozen? ⟨w.heap.size + 1, 6, none⟩ = false := fun o => (hZ.alloc o).free 6
      have z7 : ∀ o, (W.alloc o).cell? ⟨w.heap.size + 1, 7, none⟩ = some (.int .i64 0) := fun o => (hZ.alloc o).cell 7
      have y7 : ∀ o, (W.alloc o).frozen? ⟨w.heap.size + 1, 7, none⟩ = false := fun o => (hZ.alloc o).free 7
      have hTa := fun o => (hTW.alloc (by omega) o) kn t HT.out
      have u0 : ∀ o, (W.alloc o).cell? ⟨b, off + kn * 6, none⟩ = some (.string t.tag) := fun o => (hTa o).1
      have u1 : ∀ o, (W.alloc o).cell? ⟨b, off + kn * 6 + 1, none⟩ = some (.int .i64 t.x) := fun o => (hTa o).2.1
      have u2 : ∀ o, (W.alloc o).cell? ⟨b, off + kn * 6 + 2, none⟩ = some (.int .i64 t.y) := fun o => (hTa o).2.2.1
      have u3 : ∀ o, (W.alloc o).cell? ⟨b, off + kn * 6 + 3, none⟩ = some (.int .i64 t.gl) := fun o => (hTa o).2.2.2.1
      have u4 : ∀ o, (W.alloc o).cell? ⟨b, off + kn * 6 + 4, none⟩ = some (.int .i64 t.gh) := fun o => (hTa o).2.2.2.2.1
      have u5 : ∀ o, (W.alloc o).cell? ⟨b, off + kn * 6 + 5, none⟩ = some (.int .i64 t.cr) := fun o => (hTa o).2.2.2.2.2
      clear hTa
      refine wpIn_noPanic ?_
      refine regionIn_seqM (fun W' => W' = (W.alloc (.cells #[.int .i64 _, .int .i64 _] 27)).drew) [(0, true), (1, true), (2, true), (3, true), (4, true), (5, true), (6, true)] 7 10 []
        rfl (fun _ => trivial) (by kernel_rfl) (by kernel_rfl) (by kernel_rfl) (by simp) (fun _ _ _ _ h => h) rfl ?_
      iterate 7 (refine SeqM.take (v := ?_) rfl (by rfl) (fun W' hW' => ?_) ?_; rotate_left; (subst hW'; go_simp; with_reducible rfl); simp only [Act.put, List.setIfInBounds_toArray, List.set_cons_zero, List.set_cons_succ])
      refine SeqM.last rfl (by rfl) (fun K hK2 => ?_)
      go_simp
      have hDne : D ≠ w.heap.size + 1 := by omega
      have hR := fun rl rh o => W8.box (hZ.alloc o) (.string t.tag) (.int .i64 t.x) (.int .i64 t.y) (.int .i64 t.gl) (.int .i64 t.gh) (.int .i64 t.cr) (.int .i64 rl) (.int .i64 rh)
      have hD2 := fun rl rh o => (W8.other (W := W.alloc o) hDne (.string t.tag) (.int .i64 t.x) (.int .i64 t.y) (.int .i64 t.gl) (.int .i64 t.gh) (.int .i64 t.cr) (.int .i64 rl) (.int .i64 rh)).trans ((Below.heap_alloc W o D (Array.getElem?_eq_some_iff.1 hK).1).trans hK)
      have hBB := fun rl rh o => W8.below (hB.alloc (show w.heap.size ≤ W.heap.size by omega) o) (show w.heap.size ≤ w.heap.size + 1 by omega) (.string t.tag) (.int .i64 t.x) (.int .i64 t.y) (.int .i64 t.gl) (.int .i64 t.gh) (.int .i64 t.cr) (.int .i64 rl) (.int .i64 rh)
      have HR := Lib.hid hR
      have HD2 := Lib.hid hD2
      have HBB := Lib.hid hBB
      clear hR hD2 hBB
      refine hK2.out _ _ ?_
      refine SeqIn.doneNP ?_
      clear f0 z0 z1 z2 z3 z4 z5 z6 z7 y0 y1 y2 y3 y4 y5 y6 y7 u0 u1 u2 u3 u4 u5
      gi_wp2_with fail
      refine ⟨by simp, .inl ⟨_, _, rfl, run_takeDeferred (HD2.out _ _ _), ?_⟩⟩
      refine ⟨_, grow_results ((World.putObj_heap_other hDne.symm).trans (HR.out _ _ _)) _ rfl, ?_, (HBB.out _ _ _).trans (belowK_b (w := w) (Nat.le_refl _) _ D _ _ (by omega) (HD2.out _ _ _) rfl rfl)⟩
      exact ret_grow (by rw [HL.out]; omega) (by rw [HH.out]; omega)
  case stop =>
    rintro D c pre W _ _ h _
    exact h.elim
end Go.Proofs.YtpkjjiieglebbaaDoor
