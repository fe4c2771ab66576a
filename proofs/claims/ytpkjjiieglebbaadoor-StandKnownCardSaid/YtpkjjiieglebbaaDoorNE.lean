/- The contract of package stand's Near: the neighbours of a tree, or the code of an error. Conditions: the trees lie in memory as the model says; tags fit into memory. -/
import Derived.Test.YtpkjjiieglebbaaDoorN
import Derived.Maps.AppendAt
namespace Go.Proofs.YtpkjjiieglebbaaDoor
open Go Go.RowKit Go.Shelf
attribute [local go_sem] Oper.semAt_some
theorem orE_two (x y : Int) : orE [x, y] = if x = 0 then y else x := by
  by_cases h : x = 0 <;> by_cases h2 : y = 0 <;> simp [orE, h, h2]
theorem info3 : (Tryd.prog.info? 3).map (fun i => (i.zero, i.size, i.bytes)) = some (some (.int .i64 0), 1, 8) := by kernel_rfl
/-- What lies below a base, a box apart, lies as it lay behind an append whose value goes into the box. -/
theorem appended_keep {W w1 : World} {n₀ B : Nat} {t e : TypeId} {size : Nat} {v v' : Value} {k m : Nat} {xs ys : List Value} {tmp : Obj}
    (hv : Boxed W B t v) (hte : t ≠ e) (hrow : W.ownsRow n₀ e size v k xs) (hn₀ : n₀ ≤ W.heap.size)
    (hown' : w1.ownsRow n₀ e size v' m ys) (hgrow : (W.alloc tmp).grownBy w1 v.ownBlock) :
    Boxed w1 B t v ∧ Boxed (w1.setCell ⟨B, 0, none⟩ v') B t v' ∧ (w1.setCell ⟨B, 0, none⟩ v').ownsRow n₀ e size v' m ys ∧ KeepsOthers W (w1.setCell ⟨B, 0, none⟩ v') ∧
      (∀ x, x < n₀ → x ≠ B → (w1.setCell ⟨B, 0, none⟩ v').heap[x]? = W.heap[x]?) ∧ (∀ B0, B0 ≤ n₀ → B0 ≤ B → Below B0 W (w1.setCell ⟨B, 0, none⟩ v')) := by
  have hv1 : Boxed w1 B t v := (hv.alloc tmp).kept hgrow (hv.not_row hte hrow)
  have hnr : ∀ j, v.ownBlock = some j → n₀ ≤ j := fun j ej => by
    rcases hrow.2 with ⟨rfl, _⟩ | ⟨g, cap, cur, rfl, hb, _, _⟩
    · simp [Value.ownBlock] at ej
    · obtain rfl : g = j := by simpa [Value.ownBlock] using ej
      exact hb
  refine ⟨hv1, hv1.set v', hown'.kept (grownBy_setCell' w1 B v') (.inr (hv1.not_row hte hown').symm), ?_, fun x hx hxB => ?_, fun B0 h0 hB => ?_⟩
  · refine ((KeepsOthers.alloc W tmp).trans (KeepsOthers.of_grownBy hgrow fun j o ej hj => ?_)).trans (KeepsOthers.setCell _ _ _)
    rcases (hrow.alloc tmp).2 with ⟨rfl, _⟩ | ⟨g, cap, cur, rfl, _, hgb, _⟩
    · simp [Value.ownBlock] at ej
    · obtain rfl : g = j := by simpa [Value.ownBlock] using ej
      rw [hgb] at hj; cases hj; rfl
  · rw [Below.heap_setCell _ _ _ x hxB]
    exact (hgrow.block x (by simp; omega) (fun e => by have := hnr x e.symm; omega)).trans (Below.heap_alloc W tmp x (by omega))
  · exact (((Below.refl B0 W).alloc (by omega) tmp).grown hgrow (by simp; omega) (fun j ej => by have := hnr j ej; omega)).setCell (p := ⟨B, 0, none⟩) hB v'
theorem ownsRow_base {W : World} {b b' : Nat} {e : TypeId} {size : Nat} {v : Value} {k : Nat} {xs : List Value} (h : W.ownsRow b e size v k xs) (hb : b' ≤ b) : W.ownsRow b' e size v k xs := by
  refine ⟨h.1, ?_⟩
  rcases h.2 with h0 | ⟨g, cap, cur, e1, h2, h3⟩
  · exact .inl h0
  · exact .inr ⟨g, cap, cur, e1, Nat.le_trans hb h2, h3⟩
def nearE (s : Stand) (k : Int) : Int := orE [checkE s, treeE s.ts.length k]
def nearR (s : Stand) (k : Int) : List Nat := if nearE s k = 0 then nearL s.ts s.near k.toNat else []
/-- A list of numbers, owned from a block on. -/
def NatsAt (w : World) (base : Nat) (v : Value) (l : List Nat) : Prop := w.ownsRow base 3 1 v l.length (l.map fun i : Nat => Value.int .i64 (i : Int)) ∧ (v = .slice none 0 0 ↔ l = [])
theorem treesB_ok : ∀ (front ts : List Tree), treesB front ts = true → ∀ t ∈ ts, treeB t = true
  | _, [], _, _, h => by cases h
  | front, t :: rest, h, u, hu => by
    simp only [treesB, Bool.and_eq_true] at h
    rcases List.mem_cons.1 hu with rfl | hu
    · exact h.1.1
    · exact treesB_ok _ rest h.2 u hu
theorem okTree_of {t : Tree} (h : treeB t = true) : okTree t := by
  simp only [treeB, Bool.and_eq_true, frB_iff] at h
  exact ⟨h.1.1.1.2.1, h.1.1.1.2.2, h.1.1.2.1, h.1.1.2.2⟩
/-- A stand that is checked without an error: what the walks want of it. -/
theorem valid_of {s : Stand} (h : checkE s = 0) : standB s = true ∧ s.ts.length ≤ 14 ∧ (∀ t ∈ s.ts, okTree t) ∧ 0 ≤ s.near ∧ s.near ≤ 100000 := by
  have hs : standB s = true := by
    unfold checkE at h; split at h
    · assumption
    · omega
  have hs' := hs
  simp only [standB, headB, Bool.and_eq_true, decide_eq_true_eq, frB_iff] at hs'
  exact ⟨hs, hs'.1.1.1.1, fun t ht => okTree_of (treesB_ok _ _ hs'.2 t ht), hs'.1.2.1, hs'.1.2.2⟩
theorem orE_cons_zero {x : Int} {es : List Int} (h : orE (x :: es) = 0) : x = 0 ∧ orE es = 0 := by
  unfold orE at h
  by_cases hx : x = 0
  · rw [if_pos hx] at h; exact ⟨hx, h⟩
  · rw [if_neg hx] at h; exact absurd h hx
theorem tree_valid {n k : Int} (h : treeE n k = 0) : 0 ≤ k ∧ k < n := by
  unfold treeE at h; split at h
  · rename_i h2; have := frB_iff.1 h2; omega
  · omega
theorem near_valid {s : Stand} {k : Int} (h : nearE s k = 0) : ∃ kn : Nat, k = kn ∧ kn < s.ts.length ∧ (s.ts.length ≤ 14 ∧ (∀ t ∈ s.ts, okTree t) ∧ 0 ≤ s.near ∧ s.near ≤ 100000) := by
  obtain ⟨h1, h2⟩ := orE_cons_zero h
  obtain ⟨h2, _⟩ := orE_cons_zero h2
  obtain ⟨a, b⟩ := tree_valid h2
  exact ⟨k.toNat, by omega, by omega, (valid_of h1).2⟩
set_option maxRecDepth 100000 in
set_option maxHeartbeats 2000000 in
theorem near_in (m : Nat) (hm : 6 ≤ m) (a : Option Addr) (n c : Nat) (ts : List Tree) (lo hi pr ne k : Int) (w : World) (hT : Trees w a n c ts) :
    CallsIn Fence.wide m Tryd.prog 15 #[.agg #[.slice a n c, .int .i64 lo, .int .i64 hi, .int .i64 pr, .int .i64 ne], .int .i64 k] w fun e w' =>
      ∃ v, e = .returned (.tuple #[v, .int .i64 (nearE ⟨ts, lo, hi, pr, ne⟩ k)]) ∧ NatsAt w' w.heap.size v (nearR ⟨ts, lo, hi, pr, ne⟩ k) ∧ Below w.heap.size w w' := by
  have h1 : 1 ≤ m := by omega
  obtain ⟨i0, hi0, hz0, hz1, hz2⟩ := info_parts info3
  have hT0 := hT
  obtain ⟨hn, hat, htags, hfit, hcap⟩ := hT
  have HN := Lib.hid hn
  clear hn
  have HX : Hid (∀ W, Below (w.heap.size + 1) (w.alloc (.cells #[.slice a n c, .int .i64 lo, .int .i64 hi, .int .i64 pr, .int .i64 ne] 29)) W → Box W w.heap.size #[.slice a n c, .int .i64 lo, .int .i64 hi, .int .i64 pr, .int .i64 ne] 29 ∧ Trees W a n c ts ∧ w.heap.size < W.heap.size ∧ Below w.heap.size w W) := Lib.hid fun W h => by
    have hB : Below w.heap.size w W := ((Below.refl _ _).alloc (Nat.le_refl _) _).trans (h.mono (by omega))
    exact ⟨(Box.new w _ _).below h (by omega), hT0.below hB, by have := h.size; simp at this; omega, hB⟩
  refine callsIn_of_wp_marks Tryd.func15 rfl trivial ?_ rfl
  simp only [Tryd.ntmps15, List.size_toArray, List.length_cons, List.length_nil, Nat.reduceAdd, Nat.reduceSub, Array.replicate_succ, Array.replicate_zero, List.push_toArray, List.append_toArray, List.nil_append, List.cons_append]
  gi_wp2_with fail
  refine wpIn_noPanic ?_
  refine regionIn_seq (fun W => Below (w.heap.size + 1) (w.alloc (.cells #[.slice a n c, .int .i64 lo, .int .i64 hi, .int .i64 pr, .int .i64 ne] 29)) W) [(0, true), (2, true), (3, true), (1, false), (4, false), (5, false), (6, false), (7, true)]
    rfl (fun _ => trivial) (by kernel_rfl) (by kernel_rfl) (by kernel_rfl) (by simp) (fun _ _ _ _ h => h) (Below.refl _ _).drew ?_
  (refine SeqIn.take (v := ?_) rfl (by rfl) (fun W hW => ?_) ?_; rotate_left; (obtain ⟨q0, _⟩ := HX.out W hW; have b0 : W.cell? ⟨w.heap.size, 0, none⟩ = some (.slice a n c) := q0.cell 0; have b1 : W.cell? ⟨w.heap.size, 1, none⟩ = some (.int .i64 lo) := q0.cell 1; have b2 : W.cell? ⟨w.heap.size, 2, none⟩ = some (.int .i64 hi) := q0.cell 2; have b3 : W.cell? ⟨w.heap.size, 3, none⟩ = some (.int .i64 pr) := q0.cell 3; have b4 : W.cell? ⟨w.heap.size, 4, none⟩ = some (.int .i64 ne) := q0.cell 4; clear q0 hW; go_simp; with_reducible rfl); simp only [Act.put, List.setIfInBounds_toArray, List.set_cons_zero, List.set_cons_succ])
  (refine SeqIn.take (v := ?_) rfl (by rfl) (fun W hW => ?_) ?_; rotate_left; (obtain ⟨q0, _⟩ := HX.out W hW; have b0 : W.cell? ⟨w.heap.size, 0, none⟩ = some (.slice a n c) := q0.cell 0; have b1 : W.cell? ⟨w.heap.size, 1, none⟩ = some (.int .i64 lo) := q0.cell 1; have b2 : W.cell? ⟨w.heap.size, 2, none⟩ = some (.int .i64 hi) := q0.cell 2; have b3 : W.cell? ⟨w.heap.size, 3, none⟩ = some (.int .i64 pr) := q0.cell 3; have b4 : W.cell? ⟨w.heap.size, 4, none⟩ = some (.int .i64 ne) := q0.cell 4; clear q0 hW; go_simp; with_reducible rfl); simp only [Act.put, List.setIfInBounds_toArray, List.set_cons_zero, List.set_cons_succ])
  (refine SeqIn.take (v := ?_) rfl (by rfl) (fun W hW => ?_) ?_; rotate_left; (go_simp; with_reducible rfl); simp only [Act.put, List.setIfInBounds_toArray, List.set_cons_zero, List.set_cons_succ])
  refine SeqIn.call rfl (by rfl) (fun K hK => ?_); go_simp
  refine ⟨trivial, ?_⟩
  refine (callsIn_wide.2 (check_any a n c ts lo hi pr ne _ (HX.out _ (Below.refl _ _).drew).2.1)).mono ?_
  rintro e w2 ⟨rfl, hb2⟩
  have hS2 : Below (w.heap.size + 1) (w.alloc (.cells #[.slice a n c, .int .i64 lo, .int .i64 hi, .int .i64 pr, .int .i64 ne] 29)) w2 := ((Below.refl _ _).drew).trans (hb2.mono (by simp))
  go_simp
  refine hK.out _ _ hS2 ?_
  clear hK K hb2
  refine SeqIn.call rfl (by rfl) (fun K hK => ?_); go_simp
  refine ⟨trivial, ?_⟩
  refine (callsIn_wide.2 (checkTree_any a n c lo hi pr ne k _ hfit)).mono ?_
  rintro e w3 ⟨rfl, hb3⟩
  have hS3 : Below (w.heap.size + 1) (w.alloc (.cells #[.slice a n c, .int .i64 lo, .int .i64 hi, .int .i64 pr, .int .i64 ne] 29)) w3 := hS2.trans (hb3.mono (by have := hS2.size; simpa using this))
  go_simp
  refine hK.out _ _ hS3 ?_
  clear hK K hb3
  refine SeqIn.call rfl (by rfl) (fun K hK => ?_); go_simp
  have hS4 : Below (w.heap.size + 1) (w.alloc (.cells #[.slice a n c, .int .i64 lo, .int .i64 hi, .int .i64 pr, .int .i64 ne] 29)) (w3.alloc (.cells #[.int .i64 (checkE ⟨ts, lo, hi, pr, ne⟩), .int .i64 (treeE (n : Int) k)] 31)) := hS3.alloc (by have := hS3.size; simp at this; omega) _
  have hBx := Box.new w3 #[.int .i64 (checkE ⟨ts, lo, hi, pr, ne⟩), .int .i64 (treeE (n : Int) k)] 31
  refine hK.out _ _ hS4 ?_
  clear hK K
  refine SeqIn.call rfl (by rfl) (fun K hK => ?_); go_simp
  refine ⟨trivial, ?_⟩
  refine (callsIn_wide.2 (cmpOr_any [checkE ⟨ts, lo, hi, pr, ne⟩, treeE (n : Int) k] _ _ _ _ (fun i hi => by
    match i, hi with
    | 0, _ => exact hBx.cell 0
    | 1, _ => exact hBx.cell 1) rfl (by simp))).mono ?_
  rintro e w' ⟨rfl, rfl⟩
  go_simp
  refine hK.out _ _ hS4 ?_
  clear hK K
  have HE : Hid (orE [checkE ⟨ts, lo, hi, pr, ne⟩, treeE (n : Int) k] = nearE ⟨ts, lo, hi, pr, ne⟩ k) := Lib.hid (by rw [HN.out]; rfl)
  rw [HE.out]
  (refine SeqIn.take (v := ?_) rfl (by rfl) (fun W hW => ?_) ?_; rotate_left; (go_simp; with_reducible rfl); simp only [Act.put, List.setIfInBounds_toArray, List.set_cons_zero, List.set_cons_succ])
  refine SeqIn.doneNP ?_
  obtain ⟨x, hx⟩ : ∃ x, x = nearE ⟨ts, lo, hi, pr, ne⟩ k := ⟨_, rfl⟩
  rw [← hx]
  have HXE := Lib.hid hx
  generalize hw4 : w3.alloc (.cells #[.int .i64 (checkE ⟨ts, lo, hi, pr, ne⟩), .int .i64 (treeE (n : Int) k)] 31) = w4 at hS4 ⊢
  clear hBx hw4 hS3 hS2 hx
  obtain ⟨qB, qT, qz, qb⟩ := HX.out w4 hS4
  rcases h0 : (x != 0) with _ | _
  · have hx0 : x = 0 := by simpa using h0
    have hE := HXE.out
    rw [hx0] at hE
    obtain ⟨kn, hk, hkn, hvalid⟩ := near_valid hE.symm
    dsimp only at hkn hvalid
    have HR : Hid (nearR ⟨ts, lo, hi, pr, ne⟩ k = nearL ts ne kn) := Lib.hid (by unfold nearR; rw [if_pos hE.symm, hk]; rfl)
    obtain ⟨h14, hok, hne1, hne2⟩ := hvalid
    subst hk
    rcases hat with rfl | ⟨b, off, rfl, hl, hTw⟩
    · simp at hkn
    have hTw4 := hTw.below qb hl
    have HH0 := Lib.hid h0
    have HEE := Lib.hid hE
    have HX0 := Lib.hid hx0
    clear hE hx0
    have hn := HN.out
    subst hn
    have s0 : w4.cell? ⟨w.heap.size, 0, none⟩ = some (.slice (some ⟨b, off, none⟩) ts.length c) := qB.cell 0
    have s1 : w4.cell? ⟨w.heap.size, 1, none⟩ = some (.int .i64 lo) := qB.cell 1
    have s2 : w4.cell? ⟨w.heap.size, 2, none⟩ = some (.int .i64 hi) := qB.cell 2
    have s3 : w4.cell? ⟨w.heap.size, 3, none⟩ = some (.int .i64 pr) := qB.cell 3
    have s4 : w4.cell? ⟨w.heap.size, 4, none⟩ = some (.int .i64 ne) := qB.cell 4
    have hwz : w4.heap.size ≠ w.heap.size := by omega
    gi_wp2_with (refine ⟨trivial, ?_⟩; gi_at_call 55; refine (neighbours_in (m - 1) _ _ _ _ _ _ _ _ _).mono ?_; rintro e w' ⟨rfl, rfl⟩)
    clear s0 s1 s2 s3 s4
    have bN := Boxed.new w4 30 (.slice none 0 0)
    have bS := (Box.new (w4.alloc (.cells #[.slice none 0 0] 30)) #[.slice (some ⟨b, off, none⟩) ts.length c, .int .i64 lo, .int .i64 hi, .int .i64 pr, .int .i64 ne] 29).alloc (.cells #[.int .i64 (kn : Int)] 3)
    have bT := Box.new ((w4.alloc (.cells #[.slice none 0 0] 30)).alloc (.cells #[.slice (some ⟨b, off, none⟩) ts.length c, .int .i64 lo, .int .i64 hi, .int .i64 pr, .int .i64 ne] 29)) #[.int .i64 (kn : Int)] 3
    rw [World.size_alloc] at bS
    rw [World.size_alloc, World.size_alloc] at bT
    have hB5 : Below w.heap.size w (((w4.alloc (.cells #[.slice none 0 0] 30)).alloc (.cells #[.slice (some ⟨b, off, none⟩) ts.length c, .int .i64 lo, .int .i64 hi, .int .i64 pr, .int .i64 ne] 29)).alloc (.cells #[.int .i64 (kn : Int)] 3)) := ((qb.alloc (by omega) _).alloc (by simp; omega) _).alloc (by simp; omega) _
    have bN5 := (bN.alloc (.cells #[.slice (some ⟨b, off, none⟩) ts.length c, .int .i64 lo, .int .i64 hi, .int .i64 pr, .int .i64 ne] 29)).alloc (.cells #[.int .i64 (kn : Int)] 3)
    have hz5 : (((w4.alloc (.cells #[.slice none 0 0] 30)).alloc (.cells #[.slice (some ⟨b, off, none⟩) ts.length c, .int .i64 lo, .int .i64 hi, .int .i64 pr, .int .i64 ne] 29)).alloc (.cells #[.int .i64 (kn : Int)] 3)).heap.size = w4.heap.size + 1 + 1 + 1 := by simp
    have hT5 := hTw.below hB5 hl
    clear bN
    generalize ((w4.alloc (.cells #[.slice none 0 0] 30)).alloc (.cells #[.slice (some ⟨b, off, none⟩) ts.length c, .int .i64 lo, .int .i64 hi, .int .i64 pr, .int .i64 ne] 29)).alloc (.cells #[.int .i64 (kn : Int)] 3) = w5 at *
    refine wpIn_rangeFunc_ownG rfl h1 (gf := 90) (lb := #[.pointer (some ⟨w4.heap.size + 1, 0, none⟩), .pointer (some ⟨w4.heap.size + 1 + 1, 0, none⟩)]) rfl trivial (enters_of Tryd.func90 (by kernel_rfl) rfl)
      (neighbours_stops (m - 1) (by omega) (w4.heap.size + 1) (w4.heap.size + 1 + 1) b off c kn lo hi pr ne ts (fun x => x < w.heap.size ∨ x = w4.heap.size + 1 ∨ x = w4.heap.size + 1 + 1) h14 hkn hok ⟨hne1, hne2⟩ (.inl hl) (.inr (.inl rfl)) (.inr (.inr rfl)) w5 (fun x hx => by omega) bS bT hT5)
      keep_t (keep_b (fun x hx => by omega)) (Below.refl _ _) (fun _ => rfl)
      (fun pre W => (∃ v, Boxed W w4.heap.size 30 v ∧ W.ownsRow (w4.heap.size + 1 + 1 + 1) 3 1 v pre.length (pre.map fun i : Nat => Value.int .i64 (i : Int)) ∧ (v = .slice none 0 0 ↔ pre = [])) ∧ Below w.heap.size w W ∧ w4.heap.size + 1 + 1 + 1 ≤ W.heap.size)
      (fun _ _ _ => False) ?hI (fun _ _ _ _ _ hs _ _ => hs) ⟨⟨_, bN5, World.ownsRow_nil _ _ _ _, by simp⟩, hB5, by omega⟩ ?a1 ?assign ?body ?done ?stop
    case hI =>
      refine OwnFrom.and (Own.from (holdsRow_own (w4.heap.size + 1 + 1 + 1) w4.heap.size 30 3 1 (fun pre : List Nat => pre.length) (fun pre => pre.map fun i : Nat => Value.int .i64 (i : Int)) (fun pre v => v = .slice none 0 0 ↔ pre = [])) _) (OwnFrom.and (ownFrom_below (Nat.le_refl _) (by omega)) ?_)
      intro s W W' row hs hg _
      exact Nat.le_trans hs hg.size
    case assign =>
      intro l x W K hK
      gi_wp2
      exact hK
    case body =>
      rintro l pre x W ⟨⟨v, hv, hrow, hnil⟩, hB, hzW⟩ hlt
      have hc := hv.cell
      gi_wp2_with (gi_at_builtin; refine wpListIn_append_own _ rfl _ _ 30 rfl (w4.heap.size + 1 + 1 + 1) 3 i0 (.int .i64 0) 1 8 Tryd.underlying30 hi0 hz0 hz1 hz2 rfl (by decide) _ _ _ rfl (hrow.alloc _) ⟨W.heap.size, 0, none⟩ 1 1 [.int .i64 (x : Int)] rfl rfl (cell_one_new _ _ _) (by simp [Value.oneCell']) (by unfold maxLen; omega) (by omega) (by simp; omega) ?_; intro v' w1 hown' hgrow _; obtain ⟨g', cap', rfl⟩ := ownsRow_succ hown'; obtain ⟨hv1, hv2, hr2, hk2, hkp, hb2⟩ := appended_keep hv (by decide) hrow hzW hown' hgrow; have hc1 := hv1.cell; have hf1 := hv1.frozen)
      exact ⟨hk2.from _, fun y hy => hkp y (by omega) (by omega), ⟨_, hv2, by simpa using hr2, by simp⟩, hB.trans (hb2 _ (by omega) (by omega)), Nat.le_trans hzW (hb2 0 (by omega) (by omega)).size⟩
    case done =>
      rintro D ys W hD rfl ⟨⟨v, hv, hrow, hnil⟩, hB, hzW⟩ hK
      have hc := hv.cell
      gi_wp2
      refine ⟨by simp, .inl ⟨_, _, rfl, run_takeDeferred hK, ?_⟩⟩
      refine ⟨_, results_tmp2 rfl _ _ _, v, by rw [← HEE.out]; rfl, ?_, hB.trans (belowK_b (w := w) (Nat.le_refl _) W D _ _ (by omega) hK rfl rfl)⟩
      rw [HR.out]
      exact ⟨ownsRow_base (ownsRow_putObj hrow _ hK rfl) (by omega), hnil⟩
    case stop =>
      rintro D c pre W _ _ h _
      exact h.elim
  · have HR : Hid (nearR ⟨ts, lo, hi, pr, ne⟩ k = []) := Lib.hid (by unfold nearR; rw [if_neg (by rw [← HXE.out]; simpa using h0)])
    gi_wp2_with fail
    refine ⟨_, results_tmp2 rfl _ _ _, _, by rw [HXE.out]; rfl, ?_, qb⟩
    rw [HR.out]
    exact ⟨World.ownsRow_nil _ _ _ _, by simp⟩
end Go.Proofs.YtpkjjiieglebbaaDoor
