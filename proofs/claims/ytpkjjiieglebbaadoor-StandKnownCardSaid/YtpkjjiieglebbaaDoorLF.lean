/- Contract of package stand's Left. Conditions: the trees and the list lie in memory as the model says; tags fit into memory. -/
import Derived.Test.YtpkjjiieglebbaaDoorWF
namespace Go.Proofs.YtpkjjiieglebbaaDoor
open Go Go.RowKit
theorem infoTree : (Tryd.prog.info? 62).map (fun i => (i.zero.map fun v => v.cells.size, i.size, i.bytes)) = some (some 6, 6, 56) := by kernel_rfl
theorem keptE_zero {n : Int} : ∀ {l : List Int} {least : Int}, keptE n least l = 0 → 0 ≤ least → least ≤ n → (l.length : Int) ≤ n - least ∧ ∀ x ∈ l, least ≤ x ∧ x < n
  | [], least, _, _, h2 => ⟨by simp; omega, fun _ h => by cases h⟩
  | k :: r, least, h, h0, h2 => by
    unfold keptE at h
    split at h
    · rename_i hf
      have hf := frB_iff.1 hf
      have ih := keptE_zero h (by omega) (by omega)
      refine ⟨by rw [List.length_cons]; omega, fun x hx => ?_⟩
      rcases List.mem_cons.1 hx with rfl | hx
      · omega
      · have := ih.2 x hx; omega
    · omega
def leftE (s : Stand) (l : List Int) : Int := orE [checkE s, keptE s.ts.length 0 l]
def leftL (ts : List Tree) (l : List Int) : List Tree := l.filterMap fun x => ts[x.toNat]?
def leftS (s : Stand) (l : List Int) : Stand := if leftE s l = 0 then { s with ts := leftL s.ts l } else ⟨[], 0, 0, 0, 0⟩
theorem leftL_len {ts : List Tree} : ∀ {l : List Int}, (∀ x ∈ l, 0 ≤ x ∧ x < (ts.length : Int)) → (leftL ts l).length = l.length
  | [], _ => rfl
  | x :: r, h => by
    have hx := h x (by simp)
    have ih := leftL_len (ts := ts) (l := r) fun y hy => h y (List.mem_cons_of_mem _ hy)
    unfold leftL at *
    rw [List.filterMap_cons, List.getElem?_eq_getElem (by omega)]
    simp [ih]
theorem leftL_at {ts : List Tree} : ∀ {l : List Int} {k : Nat} {x : Int}, (∀ x ∈ l, 0 ≤ x ∧ x < (ts.length : Int)) → l[k]? = some x → (leftL ts l)[k]? = ts[x.toNat]?
  | [], _, _, _, h => by cases h
  | y :: r, k, x, h, hk => by
    have hy := h y (by simp)
    have e : leftL ts (y :: r) = ts[y.toNat]'(by omega) :: leftL ts r := by unfold leftL; rw [List.filterMap_cons, List.getElem?_eq_getElem (by omega)]
    rw [e]
    cases k with
    | zero =>
      simp at hk
      subst hk
      simp [List.getElem?_eq_getElem (show y.toNat < ts.length by omega)]
    | succ k =>
      simp at hk
      simpa using leftL_at (fun z hz => h z (List.mem_cons_of_mem _ hz)) hk
theorem leftL_mem {ts : List Tree} {l : List Int} {t : Tree} (h : t ∈ leftL ts l) : t ∈ ts := by
  unfold leftL at h
  obtain ⟨x, _, hx⟩ := List.mem_filterMap.1 h
  exact List.mem_of_getElem? hx
/-- The cells of a tree in a row. -/
def TreeCells (cs : Array Value) (j : Nat) (t : Tree) : Prop :=
  cs[j * 6]? = some (.string t.tag) ∧ cs[j * 6 + 1]? = some (.int .i64 t.x) ∧ cs[j * 6 + 2]? = some (.int .i64 t.y) ∧ cs[j * 6 + 3]? = some (.int .i64 t.gl) ∧ cs[j * 6 + 4]? = some (.int .i64 t.gh) ∧ cs[j * 6 + 5]? = some (.int .i64 t.cr)
def putTree (cs : Array Value) (k : Nat) (t : Tree) : Array Value :=
  (((((cs.setIfInBounds (k * 6) (.string t.tag)).setIfInBounds (k * 6 + 1) (.int .i64 t.x)).setIfInBounds (k * 6 + 2) (.int .i64 t.y)).setIfInBounds (k * 6 + 3) (.int .i64 t.gl)).setIfInBounds (k * 6 + 4) (.int .i64 t.gh)).setIfInBounds (k * 6 + 5) (.int .i64 t.cr)
theorem size_putTree (cs : Array Value) (k : Nat) (t : Tree) : (putTree cs k t).size = cs.size := by simp [putTree]
theorem putTree_at {cs : Array Value} {k : Nat} {t : Tree} (h : k * 6 + 5 < cs.size) : TreeCells (putTree cs k t) k t := by
  unfold TreeCells putTree
  simp only [Array.getElem?_setIfInBounds, Array.size_setIfInBounds]
  refine ⟨?_, ?_, ?_, ?_, ?_, ?_⟩ <;> simp <;> omega
theorem putTree_other {cs : Array Value} {k j : Nat} {t u : Tree} (hj : j ≠ k) (h : TreeCells cs j u) : TreeCells (putTree cs k t) j u := by
  obtain ⟨h0, h1, h2, h3, h4, h5⟩ := h
  have a : ∀ i, i < 6 → (putTree cs k t)[j * 6 + i]? = cs[j * 6 + i]? := fun i hi => by
    unfold putTree
    simp only [Array.getElem?_setIfInBounds, Array.size_setIfInBounds]
    repeat (rw [if_neg (by omega)])
  exact ⟨(a 0 (by omega)).trans h0, (a 1 (by omega)).trans h1, (a 2 (by omega)).trans h2, (a 3 (by omega)).trans h3, (a 4 (by omega)).trans h4, (a 5 (by omega)).trans h5⟩
theorem treesAt_box {w : World} {b : Nat} {cs : Array Value} {ts : List Tree} (hb : Box w b cs 62) (h : ∀ j t, ts[j]? = some t → TreeCells cs j t) : TreesAt w b 0 ts := fun i t ht => by
  obtain ⟨h0, h1, h2, h3, h4, h5⟩ := h i t ht
  simp only [Nat.zero_add]
  exact ⟨(hb.cell _).trans h0, (hb.cell _).trans h1, (hb.cell _).trans h2, (hb.cell _).trans h3, (hb.cell _).trans h4, (hb.cell _).trans h5⟩
def put5 (W : World) (B : Nat) (v0 v1 v2 v3 v4 : Value) : World :=
  ((((W.setCell ⟨B, 0, none⟩ v0).setCell ⟨B, 1, none⟩ v1).setCell ⟨B, 2, none⟩ v2).setCell ⟨B, 3, none⟩ v3).setCell ⟨B, 4, none⟩ v4
theorem put5.box {W : World} {B : Nat} {z0 z1 z2 z3 z4 : Value} {T : TypeId} (h : Box W B #[z0, z1, z2, z3, z4] T) (v0 v1 v2 v3 v4 : Value) : Box (put5 W B v0 v1 v2 v3 v4) B #[v0, v1, v2, v3, v4] T := by
  have := ((((h.set 0 v0).set 1 v1).set 2 v2).set 3 v3).set 4 v4
  unfold put5
  simpa using this
theorem put5.other {W : World} {B D : Nat} {cs : Array Value} {T : TypeId} (h : Box W D cs T) (hD : B ≠ D) (v0 v1 v2 v3 v4 : Value) : Box (put5 W B v0 v1 v2 v3 v4) D cs T :=
  ((((h.other (by exact hD) v0).other (by exact hD) v1).other (by exact hD) v2).other (by exact hD) v3).other (by exact hD) v4
theorem put5.below {W w : World} {B n : Nat} (h : Below n w W) (hB : n ≤ B) (v0 v1 v2 v3 v4 : Value) : Below n w (put5 W B v0 v1 v2 v3 v4) :=
  ((((h.setCell (by exact hB) v0).setCell (by exact hB) v1).setCell (by exact hB) v2).setCell (by exact hB) v3).setCell (by exact hB) v4
theorem stand_results {W : World} {B : Nat} {v0 v1 v2 v3 v4 z0 z1 z2 z3 z4 : Value} (hR : Box W B #[z0, z1, z2, z3, z4] 29) (tmps : Array Value) (x : Int) (h4 : tmps[4]?.getD undef = .pointer (some ⟨B, 0, none⟩)) (h5 : tmps[5]?.getD undef = .int .i64 x) :
    (results Tryd.f33 tmps).run Tryd.prog (put5 W B v0 v1 v2 v3 v4) = .ok (.tuple #[.agg #[v0, v1, v2, v3, v4], .int .i64 x]) (put5 W B v0 v1 v2 v3 v4) := by
  have b := put5.box hR v0 v1 v2 v3 v4
  have c0 := b.cell 0; have c1 := b.cell 1; have c2 := b.cell 2; have c3 := b.cell 3; have c4 := b.cell 4
  simp at c0 c1 c2 c3 c4
  simp [results, Tryd.results33, go_sem, c0, c1, c2, c3, c4, h4, h5]
set_option maxRecDepth 100000 in
set_option maxHeartbeats 2000000 in
theorem left_any (a ka : Option Addr) (n c kn kc : Nat) (ts : List Tree) (l : List Int) (lo hi pr ne : Int) (w : World) (hT : Trees w a n c ts) (hl : ∀ x ∈ l, -9223372036854775808 ≤ x ∧ x ≤ 9223372036854775807) (hm : kn ≤ maxLen) (hK : IntsAt w ka kn l) :
    Calls Tryd.prog 33 #[.agg #[.slice a n c, .int .i64 lo, .int .i64 hi, .int .i64 pr, .int .i64 ne], .slice ka kn kc] w fun e w' =>
      ∃ a' n' c', e = .returned (.tuple #[.agg #[.slice a' n' c', .int .i64 (leftS ⟨ts, lo, hi, pr, ne⟩ l).lo, .int .i64 (leftS ⟨ts, lo, hi, pr, ne⟩ l).hi, .int .i64 (leftS ⟨ts, lo, hi, pr, ne⟩ l).press, .int .i64 (leftS ⟨ts, lo, hi, pr, ne⟩ l).near], .int .i64 (leftE ⟨ts, lo, hi, pr, ne⟩ l)]) ∧
        Trees w' a' n' c' (leftS ⟨ts, lo, hi, pr, ne⟩ l).ts ∧ Below w.heap.size w w' := by
  have hT0 := hT
  have hK0 := hK
  obtain ⟨hn, hat, htags, hfit, hcap⟩ := hT
  obtain ⟨hkn, _⟩ := hK
  have HN := Lib.hid hn
  have HKN := Lib.hid hkn
  have hkm : kn ≤ 9223372036854775807 := by unfold maxLen at hm; omega
  clear hn hkn
  have HTG := Lib.hid htags
  have HX : Hid (∀ W, Below (w.heap.size + 1 + 1) (((w.alloc (.cells #[.slice a n c, .int .i64 lo, .int .i64 hi, .int .i64 pr, .int .i64 ne] 29)).alloc (.cells #[.slice none 0 0, .int .i64 0, .int .i64 0, .int .i64 0, .int .i64 0] 29))) W → Box W w.heap.size #[.slice a n c, .int .i64 lo, .int .i64 hi, .int .i64 pr, .int .i64 ne] 29 ∧ Box W (w.heap.size + 1) #[.slice none 0 0, .int .i64 0, .int .i64 0, .int .i64 0, .int .i64 0] 29 ∧ Trees W a n c ts ∧ IntsAt W ka kn l ∧ w.heap.size + 1 < W.heap.size ∧ Below w.heap.size w W) := Lib.hid fun W h => by
    have hB : Below w.heap.size w W := (((Below.refl _ _).alloc (Nat.le_refl _) _).alloc (by simp) _).trans (h.mono (by omega))
    have b1 := Box.new (w.alloc (.cells #[.slice a n c, .int .i64 lo, .int .i64 hi, .int .i64 pr, .int .i64 ne] 29)) #[.slice none 0 0, .int .i64 0, .int .i64 0, .int .i64 0, .int .i64 0] 29
    rw [World.size_alloc] at b1
    exact ⟨((Box.new w _ _).alloc _).below h (by omega), b1.below h (by omega), hT0.below hB, hK0.below hB, by have := h.size; simp at this; omega, hB⟩
  go_enter Tryd.func33, Tryd.ntmps33
  go_wp2_with fail
  refine region_seq (fun W => Below (w.heap.size + 1 + 1) (((w.alloc (.cells #[.slice a n c, .int .i64 lo, .int .i64 hi, .int .i64 pr, .int .i64 ne] 29)).alloc (.cells #[.slice none 0 0, .int .i64 0, .int .i64 0, .int .i64 0, .int .i64 0] 29))) W) [(0, true), (2, true), (3, true), (1, false), (4, false), (5, false), (6, false), (7, true)]
    (by kernel_rfl) (by kernel_rfl) (by kernel_rfl) (by simp) (fun _ _ _ _ h => h) (Below.refl _ _).drew ?_
  (refine SeqW.take (v := ?_) rfl (by rfl) (fun W hW => ?_) ?_; rotate_left; (obtain ⟨q0, _⟩ := HX.out W hW; have b0 : W.cell? ⟨w.heap.size, 0, none⟩ = some (.slice a n c) := q0.cell 0; have b1 : W.cell? ⟨w.heap.size, 1, none⟩ = some (.int .i64 lo) := q0.cell 1; have b2 : W.cell? ⟨w.heap.size, 2, none⟩ = some (.int .i64 hi) := q0.cell 2; have b3 : W.cell? ⟨w.heap.size, 3, none⟩ = some (.int .i64 pr) := q0.cell 3; have b4 : W.cell? ⟨w.heap.size, 4, none⟩ = some (.int .i64 ne) := q0.cell 4; clear q0 hW; go_simp; with_reducible rfl); simp only [Act.put, List.setIfInBounds_toArray, List.set_cons_zero, List.set_cons_succ])
  (refine SeqW.take (v := ?_) rfl (by rfl) (fun W hW => ?_) ?_; rotate_left; (obtain ⟨q0, _⟩ := HX.out W hW; have b0 : W.cell? ⟨w.heap.size, 0, none⟩ = some (.slice a n c) := q0.cell 0; have b1 : W.cell? ⟨w.heap.size, 1, none⟩ = some (.int .i64 lo) := q0.cell 1; have b2 : W.cell? ⟨w.heap.size, 2, none⟩ = some (.int .i64 hi) := q0.cell 2; have b3 : W.cell? ⟨w.heap.size, 3, none⟩ = some (.int .i64 pr) := q0.cell 3; have b4 : W.cell? ⟨w.heap.size, 4, none⟩ = some (.int .i64 ne) := q0.cell 4; clear q0 hW; go_simp; with_reducible rfl); simp only [Act.put, List.setIfInBounds_toArray, List.set_cons_zero, List.set_cons_succ])
  (refine SeqW.take (v := ?_) rfl (by rfl) (fun W hW => ?_) ?_; rotate_left; (go_simp; with_reducible rfl); simp only [Act.put, List.setIfInBounds_toArray, List.set_cons_zero, List.set_cons_succ])
  refine SeqW.call rfl (by rfl) (fun K hK => ?_); go_simp
  refine (check_any a n c ts lo hi pr ne _ (HX.out _ (Below.refl _ _).drew).2.2.1).mono ?_
  rintro e w2 ⟨rfl, hb2⟩
  have hS2 : Below (w.heap.size + 1 + 1) (((w.alloc (.cells #[.slice a n c, .int .i64 lo, .int .i64 hi, .int .i64 pr, .int .i64 ne] 29)).alloc (.cells #[.slice none 0 0, .int .i64 0, .int .i64 0, .int .i64 0, .int .i64 0] 29))) w2 := ((Below.refl _ _).drew).trans (hb2.mono (by simp))
  go_simp
  refine hK.out _ _ hS2 ?_
  clear hK K hb2
  refine SeqW.call rfl (by rfl) (fun K hK => ?_); go_simp
  refine (checkKept_any a ka n c kn kc l lo hi pr ne _ hfit hl hm (HX.out _ hS2).2.2.2.1).mono ?_
  rintro e w3 ⟨rfl, hb3⟩
  have hS3 : Below (w.heap.size + 1 + 1) (((w.alloc (.cells #[.slice a n c, .int .i64 lo, .int .i64 hi, .int .i64 pr, .int .i64 ne] 29)).alloc (.cells #[.slice none 0 0, .int .i64 0, .int .i64 0, .int .i64 0, .int .i64 0] 29))) w3 := hS2.trans (hb3.mono (by have := hS2.size; simpa using this))
  go_simp
  refine hK.out _ _ hS3 ?_
  clear hK K hb3 hS2
  refine SeqW.call rfl (by rfl) (fun K hK => ?_); go_simp
  have hS4 : Below (w.heap.size + 1 + 1) (((w.alloc (.cells #[.slice a n c, .int .i64 lo, .int .i64 hi, .int .i64 pr, .int .i64 ne] 29)).alloc (.cells #[.slice none 0 0, .int .i64 0, .int .i64 0, .int .i64 0, .int .i64 0] 29))) (w3.alloc (.cells #[.int .i64 (checkE ⟨ts, lo, hi, pr, ne⟩), .int .i64 (keptE (n : Int) 0 l)] 31)) := hS3.alloc (by have := hS3.size; simp at this; omega) _
  have hBx := Box.new w3 #[.int .i64 (checkE ⟨ts, lo, hi, pr, ne⟩), .int .i64 (keptE (n : Int) 0 l)] 31
  refine hK.out _ _ hS4 ?_
  clear hK K
  refine SeqW.call rfl (by rfl) (fun K hK => ?_); go_simp
  refine (cmpOr_any [checkE ⟨ts, lo, hi, pr, ne⟩, keptE (n : Int) 0 l] _ _ _ _ (fun i hi => by
    match i, hi with
    | 0, _ => exact hBx.cell 0
    | 1, _ => exact hBx.cell 1) rfl (by simp)).mono ?_
  rintro e w' ⟨rfl, rfl⟩
  go_simp
  refine hK.out _ _ hS4 ?_
  clear hK K
  have HE : Hid (orE [checkE ⟨ts, lo, hi, pr, ne⟩, keptE (n : Int) 0 l] = leftE ⟨ts, lo, hi, pr, ne⟩ l) := Lib.hid (by rw [HN.out]; rfl)
  rw [HE.out]
  (refine SeqW.take (v := ?_) rfl (by rfl) (fun W hW => ?_) ?_; rotate_left; (go_simp; with_reducible rfl); simp only [Act.put, List.setIfInBounds_toArray, List.set_cons_zero, List.set_cons_succ])
  refine SeqW.done ?_
  obtain ⟨x, hx⟩ : ∃ x, x = leftE ⟨ts, lo, hi, pr, ne⟩ l := ⟨_, rfl⟩
  rw [← hx]
  have HXE := Lib.hid hx
  generalize hw4 : w3.alloc (.cells #[.int .i64 (checkE ⟨ts, lo, hi, pr, ne⟩), .int .i64 (keptE (n : Int) 0 l)] 31) = w4 at hS4 ⊢
  clear hBx hw4 hS3 hx HE
  obtain ⟨qB, qR, qT, qK, qz, qb⟩ := HX.out w4 hS4
  clear hat htags hT0 hK0 HX
  have y0 : w4.cell? ⟨w.heap.size + 1, 0, none⟩ = some (.slice none 0 0) := qR.cell 0
  have y1 : w4.cell? ⟨w.heap.size + 1, 1, none⟩ = some (.int .i64 0) := qR.cell 1
  have y2 : w4.cell? ⟨w.heap.size + 1, 2, none⟩ = some (.int .i64 0) := qR.cell 2
  have y3 : w4.cell? ⟨w.heap.size + 1, 3, none⟩ = some (.int .i64 0) := qR.cell 3
  have y4 : w4.cell? ⟨w.heap.size + 1, 4, none⟩ = some (.int .i64 0) := qR.cell 4
  have g0 : w4.frozen? ⟨w.heap.size + 1, 0, none⟩ = false := qR.free 0
  have g1 : w4.frozen? ⟨w.heap.size + 1, 1, none⟩ = false := qR.free 1
  have g2 : w4.frozen? ⟨w.heap.size + 1, 2, none⟩ = false := qR.free 2
  have g3 : w4.frozen? ⟨w.heap.size + 1, 3, none⟩ = false := qR.free 3
  have g4 : w4.frozen? ⟨w.heap.size + 1, 4, none⟩ = false := qR.free 4
  rcases h0 : (x != 0) with _ | _
  · have hx0 : x = 0 := by simpa using h0
    have hxE : leftE ⟨ts, lo, hi, pr, ne⟩ l = 0 := by rw [← HXE.out]; exact hx0
    obtain ⟨hE1, hE2⟩ := orE_cons_zero hxE
    obtain ⟨hE2, _⟩ := orE_cons_zero hE2
    obtain ⟨_, h14, _, _, _⟩ := valid_of hE1
    dsimp only at h14 hE2
    obtain ⟨hlen, hin⟩ := keptE_zero hE2 (by omega) (by omega)
    have hk14 : kn ≤ 14 := by have := HKN.out; omega
    have hn14 : n ≤ 14 := by have := HN.out; omega
    obtain ⟨iT, hiT⟩ : ∃ i, Tryd.prog.info? 62 = some i := by
      have h := infoTree
      rcases e : Tryd.prog.info? 62 with _ | i
      · rw [e] at h; cases h
      · exact ⟨i, rfl⟩
    have hT3 := infoTree
    rw [hiT] at hT3
    simp only [Option.map_some, Option.some.injEq, Prod.mk.injEq] at hT3
    obtain ⟨hz1, hz2, hz3⟩ := hT3
    obtain ⟨zt, hzt⟩ : ∃ z, iT.zero = some z := by
      rcases e : iT.zero with _ | z
      · rw [e] at hz1; cases hz1
      · exact ⟨z, rfl⟩
    obtain ⟨zc, hzc⟩ : ∃ zc, zc = zt.cells := ⟨_, rfl⟩
    have hmk : ∀ W, (Instr.makeSlice 25 (.int .i64 (kn : Int)) (.int .i64 (kn : Int))).run Tryd.prog W = .ok (.slice (some ⟨W.heap.size, 0, none⟩) kn kn) (W.alloc (.cells (madeCells zc (kn * 6)) 62)) := fun W => by
      have h := run_make (P := Tryd.prog) W 25 62 iT zt (by kernel_rfl) hiT hzt .i64 .i64 (kn : Int) (kn : Int) (by omega) (Int.le_refl _) (by rw [hz3]; omega) (by omega)
      rw [hzc]; simpa [hz2] using h
    clear hzc hz1 hz2 hz3 hzt hiT
    have HR : Hid (leftS ⟨ts, lo, hi, pr, ne⟩ l = ⟨leftL ts l, lo, hi, pr, ne⟩) := Lib.hid (by unfold leftS; rw [if_pos hxE])
    have HIN := Lib.hid hin
    clear hE1 hE2 hxE hin
    go_wp2_with fail
    have hX2 : Hid (∀ W, Below (w4.heap.size) w4 W → Box W w.heap.size #[.slice a n c, .int .i64 lo, .int .i64 hi, .int .i64 pr, .int .i64 ne] 29 ∧ Box W (w.heap.size + 1) #[.slice none 0 0, .int .i64 0, .int .i64 0, .int .i64 0, .int .i64 0] 29 ∧ Trees W a n c ts ∧ IntsAt W ka kn l ∧ Below w.heap.size w W) := Lib.hid fun W h =>
      ⟨qB.below h (by omega), qR.below h (by omega), qT.below h, qK.below h, qb.trans (h.mono (by omega))⟩
    clear hmk
    go_loopw [26] (fun i wr => ∃ (k : Nat) (cs : Array Value), k ≤ kn ∧ i = .int .i64 k ∧ cs.size = kn * 6 ∧ Hid (∀ j t, j < k → (leftL ts l)[j]? = some t → TreeCells cs j t) ∧ Box wr w4.heap.size cs 62 ∧ Below w4.heap.size w4 wr) (fun i _ => kn - (intOf i).toNat)
    case atStart => exact ⟨0, _, Nat.zero_le _, rfl, size_madeCells _ _, Lib.hid (fun j t h => by omega), Box.new _ _ _, (Below.refl _ _).alloc (Nat.le_refl _) _⟩
    case round =>
      obtain ⟨k, cs, hk, rfl, hcs, HC, hbx, hB⟩ := hrel
      obtain ⟨pB, pR, pT, pK, pb⟩ := hX2.out wr hB
      have e0 : wr.cell? ⟨w.heap.size, 0, none⟩ = some (.slice a n c) := pB.cell 0
      by_cases hlt : k < kn
      · have hkn := HKN.out
        obtain ⟨v, hv⟩ : ∃ v, l[k]? = some v := ⟨_, List.getElem?_eq_getElem (by omega)⟩
        have hvin := HIN.out v (List.mem_of_getElem? hv)
        obtain ⟨m, rfl⟩ : ∃ m : Nat, v = m := ⟨v.toNat, by omega⟩
        have hmn : m < n := by have := HN.out; omega
        obtain ⟨t, ht⟩ : ∃ t, ts[m]? = some t := ⟨_, List.getElem?_eq_getElem (by have := HN.out; omega)⟩
        have hlt' : (leftL ts l)[k]? = some t := by rw [leftL_at HIN.out hv]; exact ht
        rcases pK.2 with rfl | ⟨kb, ko, rfl, kl, kc'⟩
        · simp at hv
        have f0 := kc' k _ hv
        rcases pT.at_ with rfl | ⟨b, off, rfl, hbl, hTA⟩
        · simp at ht
        obtain ⟨c0, c1, c2, c3, c4, c5⟩ := hTA m t ht
        have HLT := Lib.hid hlt'
        clear hTA kc' hv hvin ht hlt' hkn
        have d0 : wr.cell? ⟨w4.heap.size, k * 6, none⟩ = some (cs[k * 6]'(by omega)) := by rw [hbx.cell]; exact Array.getElem?_eq_getElem _
        have d1 : wr.cell? ⟨w4.heap.size, k * 6 + 1, none⟩ = some (cs[k * 6 + 1]'(by omega)) := by rw [hbx.cell]; exact Array.getElem?_eq_getElem _
        have d2 : wr.cell? ⟨w4.heap.size, k * 6 + 2, none⟩ = some (cs[k * 6 + 2]'(by omega)) := by rw [hbx.cell]; exact Array.getElem?_eq_getElem _
        have d3 : wr.cell? ⟨w4.heap.size, k * 6 + 3, none⟩ = some (cs[k * 6 + 3]'(by omega)) := by rw [hbx.cell]; exact Array.getElem?_eq_getElem _
        have d4 : wr.cell? ⟨w4.heap.size, k * 6 + 4, none⟩ = some (cs[k * 6 + 4]'(by omega)) := by rw [hbx.cell]; exact Array.getElem?_eq_getElem _
        have d5 : wr.cell? ⟨w4.heap.size, k * 6 + 5, none⟩ = some (cs[k * 6 + 5]'(by omega)) := by rw [hbx.cell]; exact Array.getElem?_eq_getElem _
        have h0' : wr.frozen? ⟨w4.heap.size, k * 6, none⟩ = false := hbx.free _
        have h1' : wr.frozen? ⟨w4.heap.size, k * 6 + 1, none⟩ = false := hbx.free _
        have h2' : wr.frozen? ⟨w4.heap.size, k * 6 + 2, none⟩ = false := hbx.free _
        have h3' : wr.frozen? ⟨w4.heap.size, k * 6 + 3, none⟩ = false := hbx.free _
        have h4' : wr.frozen? ⟨w4.heap.size, k * 6 + 4, none⟩ = false := hbx.free _
        have h5' : wr.frozen? ⟨w4.heap.size, k * 6 + 5, none⟩ = false := hbx.free _
        go_wp2_with fail
        go_roundw
        case rel => exact ⟨k + 1, putTree cs k t, by omega, by go_num, by rw [size_putTree, hcs], Lib.hid (fun j u h1 h2 => by
            by_cases hj : j = k
            · subst hj
              rw [HLT.out] at h2
              cases h2
              exact putTree_at (by omega)
            · exact putTree_other hj (HC.out j u (by omega) h2)),
          (((((hbx.set _ _).set _ _).set _ _).set _ _).set _ _).set _ _, (((((hB.setCell (by simp) _).setCell (by simp) _).setCell (by simp) _).setCell (by simp) _).setCell (by simp) _).setCell (by simp) _⟩
        case measure => simp [intOf]; omega
      · obtain rfl : k = kn := by omega
        have e1 : wr.cell? ⟨w.heap.size, 1, none⟩ = some (.int .i64 lo) := pB.cell 1
        have e2 : wr.cell? ⟨w.heap.size, 2, none⟩ = some (.int .i64 hi) := pB.cell 2
        have e3 : wr.cell? ⟨w.heap.size, 3, none⟩ = some (.int .i64 pr) := pB.cell 3
        have e4 : wr.cell? ⟨w.heap.size, 4, none⟩ = some (.int .i64 ne) := pB.cell 4
        have e5 : wr.frozen? ⟨w.heap.size, 0, none⟩ = false := pB.free 0
        have z0 : wr.cell? ⟨w.heap.size + 1, 0, none⟩ = some (.slice none 0 0) := pR.cell 0
        have z1 : wr.cell? ⟨w.heap.size + 1, 1, none⟩ = some (.int .i64 0) := pR.cell 1
        have z2 : wr.cell? ⟨w.heap.size + 1, 2, none⟩ = some (.int .i64 0) := pR.cell 2
        have z3 : wr.cell? ⟨w.heap.size + 1, 3, none⟩ = some (.int .i64 0) := pR.cell 3
        have z4 : wr.cell? ⟨w.heap.size + 1, 4, none⟩ = some (.int .i64 0) := pR.cell 4
        have f0 : wr.frozen? ⟨w.heap.size + 1, 0, none⟩ = false := pR.free 0
        have f1 : wr.frozen? ⟨w.heap.size + 1, 1, none⟩ = false := pR.free 1
        have f2 : wr.frozen? ⟨w.heap.size + 1, 2, none⟩ = false := pR.free 2
        have f3 : wr.frozen? ⟨w.heap.size + 1, 3, none⟩ = false := pR.free 3
        have f4 : wr.frozen? ⟨w.heap.size + 1, 4, none⟩ = false := pR.free 4
        go_wp2_with fail
        have hTA := treesAt_box (ts := leftL ts l) hbx (fun j t hj => HC.out j t (by have := (List.getElem?_eq_some_iff.1 hj).1; rw [leftL_len HIN.out] at this; rw [HKN.out]; exact this) hj)
        have hBf := put5.below ((pb.setCell (p := ⟨w.heap.size, 0, none⟩) (Nat.le_refl _) (.slice (some ⟨w4.heap.size, 0, none⟩) k k))) (B := w.heap.size + 1) (by omega) (.slice (some ⟨w4.heap.size, 0, none⟩) k k) (.int .i64 lo) (.int .i64 hi) (.int .i64 pr) (.int .i64 ne)
        have hbx2 := put5.other (hbx.other (p := ⟨w.heap.size, 0, none⟩) (by dsimp only; omega) (.slice (some ⟨w4.heap.size, 0, none⟩) k k)) (B := w.heap.size + 1) (by omega) (.slice (some ⟨w4.heap.size, 0, none⟩) k k) (.int .i64 lo) (.int .i64 hi) (.int .i64 pr) (.int .i64 ne)
        have hTA := treesAt_box (ts := leftL ts l) hbx2 (fun j t hj => HC.out j t (by have := (List.getElem?_eq_some_iff.1 hj).1; rw [leftL_len HIN.out] at this; rw [HKN.out]; exact this) hj)
        refine bodyPost_ret (stand_results (pR.other (p := ⟨w.heap.size, 0, none⟩) (by dsimp only; omega) _) _ 0 rfl rfl) rfl ⟨some ⟨w4.heap.size, 0, none⟩, k, k, by rw [HR.out, ← HXE.out, hx0], ?_, hBf⟩
        rw [HR.out]
        exact ⟨by rw [leftL_len HIN.out]; exact HKN.out, .inr ⟨_, _, rfl, hbx2.lt, hTA⟩, fun t h => HTG.out t (leftL_mem h), (by omega), (by omega)⟩
  · have HR : Hid (leftS ⟨ts, lo, hi, pr, ne⟩ l = ⟨[], 0, 0, 0, 0⟩) := Lib.hid (by unfold leftS; rw [if_neg (by rw [← HXE.out]; simpa using h0)])
    go_wp2_with fail
    refine bodyPost_ret (stand_results qR _ x rfl rfl) rfl ⟨none, 0, 0, by rw [HR.out, ← HXE.out], ?_, put5.below qb (by omega) _ _ _ _ _⟩
    rw [HR.out]
    exact ⟨rfl, .inl rfl, fun t h => (by cases h), (by omega), (by omega)⟩
end Go.Proofs.YtpkjjiieglebbaaDoor
