/- Contract of package stand's readStand where the text has the form. Condition: a text of at most 65536 bytes. (Written by wip/gen_read.py.) -/
import Derived.Test.YtpkjjiieglebbaaDoorLI
import Derived.Test.YtpkjjiieglebbaaDoorR2
namespace Go.Proofs.YtpkjjiieglebbaaDoor
open Go Go.RowKit
/-- The trees of a text, read to its end. -/
def treesL : Nat → List UInt8 → Option (List Tree)
  | _, [] => some []
  | 0, _ :: _ => none
  | f + 1, c :: l => (treeL (c :: l)).bind fun a => (treesL f a.2).map (a.1 :: ·)
/-- The cells of trees, one behind the other. -/
def treeCells (ts : List Tree) : List Value := ts.flatMap fun t => [.string t.tag, .int .i64 t.x, .int .i64 t.y, .int .i64 t.gl, .int .i64 t.gh, .int .i64 t.cr]
theorem expL_len {p l l' : List UInt8} (h : expL p l = some l') : l'.length ≤ l.length := by
  unfold expL at h
  split at h
  · simp only [Option.some.injEq] at h
    subst h
    unfold Lib.trimPrefix
    split <;> simp
  · cases h
theorem expL_len' {p l l' : List UInt8} (h : expL p l = some l') : l'.length + p.length ≤ l.length := by
  unfold expL at h
  split at h
  · rename_i hp
    simp only [Option.some.injEq] at h
    subst h
    have := (List.isPrefixOf_iff_prefix.1 (show p.isPrefixOf l = true from hp)).length_le
    unfold Lib.trimPrefix
    rw [if_pos hp, List.length_drop]; omega
  · cases h
theorem numL_len {l l' : List UInt8} {n : Int} (h : numL l = some (n, l')) : l'.length ≤ l.length := by
  unfold numL at h
  split at h
  · cases h
  · simp only [Option.some.injEq, Prod.mk.injEq] at h
    rw [← h.2]; simp
theorem tagL_len {l l' t : List UInt8} (h : tagL l = some (t, l')) : l'.length ≤ l.length ∧ t.length ≤ l.length := by
  unfold tagL at h
  split at h
  · cases h
  · simp only [Option.some.injEq, Prod.mk.injEq] at h
    rw [← h.2, ← h.1]; simp; omega
theorem spanL_len {l l' : List UInt8} {a : Int × Int} (h : spanL l = some (a, l')) : l'.length ≤ l.length := by
  obtain ⟨l1, l2, h1, h2, h3⟩ := spanL_some (a := a.1) (b := a.2) h
  have := numL_len h1; have := expL_len h2; have := numL_len h3; omega
theorem treeL_len {l l' : List UInt8} {u : Tree} (h : treeL l = some (u, l')) : l'.length + 1 ≤ l.length ∧ u.tag.size ≤ l.length := by
  obtain ⟨t, x, y, gl, gh, cr, L1, L2, L3, L4, L5, L6, L7, L8, L9, L10, rfl, h1, h2, h3, h4, h5, h6, h7, h8, h9, h10, h11⟩ := treeL_some h
  have := expL_len' h1; have := (tagL_len h2); have := expL_len h3; have := numL_len h4; have := expL_len h5; have := numL_len h6; have := expL_len h7; have := spanL_len h8; have := expL_len h9; have := numL_len h10; have := expL_len h11
  simp only [List.length_cons, List.length_nil] at *
  refine ⟨by omega, ?_⟩
  show (⟨t.toArray⟩ : ByteArray).size ≤ _
  have e : (⟨t.toArray⟩ : ByteArray).size = t.length := by simp [ByteArray.size]
  omega
theorem treesL_tags : ∀ {f : Nat} {l : List UInt8} {ts : List Tree}, treesL f l = some ts → ∀ t ∈ ts, t.tag.size ≤ l.length
  | _, [], ts, h, t, ht => by
    cases ‹Nat› <;> (simp only [treesL, Option.some.injEq] at h; subst h; cases ht)
  | 0, _ :: _, _, h, _, _ => by cases h
  | f + 1, c :: l, ts, h, t, ht => by
    simp only [treesL, Option.bind_eq_some_iff, Option.map_eq_some_iff] at h
    obtain ⟨⟨u, l'⟩, hu, ts', hts, rfl⟩ := h
    have := treeL_len hu
    rcases List.mem_cons.1 ht with rfl | ht
    · exact this.2
    · have := treesL_tags hts t ht
      dsimp only at this
      omega
theorem treesL_step {f : Nat} {l : List UInt8} {u : Tree} {ts : List Tree} (h : treesL f l = some (u :: ts)) : ∃ f' l', treeL l = some (u, l') ∧ treesL f' l' = some ts := by
  match f, l, h with
  | 0, [], h => cases h
  | _ + 1, [], h => cases h
  | 0, _ :: _, h => cases h
  | f + 1, c :: l, h =>
    simp only [treesL, Option.bind_eq_some_iff, Option.map_eq_some_iff] at h
    obtain ⟨⟨v, l'⟩, hv, ts', hts, he⟩ := h
    simp only [List.cons.injEq] at he
    obtain ⟨rfl, rfl⟩ := he
    exact ⟨f, l', hv, hts⟩
theorem treesL_nil {f : Nat} {l : List UInt8} (h : treesL f l = some []) : l = [] := by
  match f, l, h with
  | _, [], _ => rfl
  | 0, _ :: _, h => cases h
  | f + 1, c :: l, h =>
    simp only [treesL, Option.bind_eq_some_iff, Option.map_eq_some_iff] at h
    obtain ⟨_, _, _, _, he⟩ := h
    cases he
theorem treeL_ne {l l' : List UInt8} {u : Tree} (h : treeL l = some (u, l')) : l ≠ [] := fun e => by
  have := treeL_len h; rw [e] at this; simp at this
theorem cell_old {Br : Nat} {w w' : World} {l : List UInt8} (r : Rd Br w w' l) {b i : Nat} (hb : b < w.heap.size) (hn : b ≠ Br) : w'.cell? ⟨b, i, none⟩ = w.cell? ⟨b, i, none⟩ := by
  simp [World.cell?, r.old b hb hn]
theorem cell_alloc {w : World} {b i : Nat} (hb : b < w.heap.size) (o : Obj) : (w.alloc o).cell? ⟨b, i, none⟩ = w.cell? ⟨b, i, none⟩ := by
  simp [World.cell?, Below.heap_alloc w o b hb]
theorem ownsRow_setCell {W : World} {b : Nat} {e : TypeId} {size : Nat} {v : Value} {k : Nat} {xs : List Value} (h : W.ownsRow b e size v k xs) {p : Addr} (hp : p.block < b) (u : Value) : (W.setCell p u).ownsRow b e size v k xs := by
  refine ⟨h.1, ?_⟩
  rcases h.2 with h0 | ⟨g, cap, cur, e1, h2, h3, h4⟩
  · exact .inl h0
  · exact .inr ⟨g, cap, cur, e1, h2, (Below.heap_setCell _ _ _ g (by omega)).trans h3, h4⟩
theorem ownsRow_put5 {W : World} {b B : Nat} {e : TypeId} {size : Nat} {v : Value} {k : Nat} {xs : List Value} (h : W.ownsRow b e size v k xs) (hp : B < b) (v0 v1 v2 v3 v4 : Value) : (put5 W B v0 v1 v2 v3 v4).ownsRow b e size v k xs :=
  ownsRow_setCell (ownsRow_setCell (ownsRow_setCell (ownsRow_setCell (ownsRow_setCell h hp _) hp _) hp _) hp _) hp _
theorem Box.grown {W w2 : World} {b base : Nat} {cs : Array Value} {t e : TypeId} {size k : Nat} {v : Value} {xs : List Value} (h : Box W b cs t) (hg : W.grownBy w2 v.ownBlock) (hrow : W.ownsRow base e size v k xs) (hb : b < base) : Box w2 b cs t := by
  refine (hg.block b h.lt fun e1 => ?_).trans h
  rcases hrow.2 with ⟨rfl, _⟩ | ⟨g, cap, cur, rfl, h2, _, _⟩
  · simp [Value.ownBlock] at e1
  · obtain rfl : b = g := by simpa [Value.ownBlock] using e1
    omega
theorem row_form {W : World} {B : Nat} {e : TypeId} {size : Nat} {v : Value} {k : Nat} {xs : List Value} (h : W.ownsRow B e size v k xs) : ∃ a c, v = .slice a k c := by
  rcases h.2 with ⟨rfl, rfl⟩ | ⟨g, cap, cur, rfl, _⟩
  · exact ⟨none, 0, rfl⟩
  · exact ⟨_, _, rfl⟩
theorem ownsRow_rd {Br : Nat} {w w' : World} {l : List UInt8} {b : Nat} {e : TypeId} {size : Nat} {v : Value} {k : Nat} {xs : List Value} (h : w.ownsRow b e size v k xs) (r : Rd Br w w' l) (hb : Br < b) : w'.ownsRow b e size v k xs := by
  refine ⟨h.1, ?_⟩
  rcases h.2 with h0 | ⟨g, cap, cur, e1, h2, h3, h4⟩
  · exact .inl h0
  · exact .inr ⟨g, cap, cur, e1, h2, (r.old g (lt_of_block h3) (by omega)).trans h3, h4⟩
theorem row_not {W : World} {b base : Nat} {e : TypeId} {size k : Nat} {v : Value} {xs : List Value} (hrow : W.ownsRow base e size v k xs) (hb : b < base) : some b ≠ v.ownBlock := fun e1 => by
  rcases hrow.2 with ⟨rfl, _⟩ | ⟨g, cap, cur, rfl, h2, _, _⟩
  · simp [Value.ownBlock] at e1
  · obtain rfl : b = g := by simpa [Value.ownBlock] using e1
    omega
theorem row_ge {W : World} {base : Nat} {e : TypeId} {size k : Nat} {v : Value} {xs : List Value} (hrow : W.ownsRow base e size v k xs) : ∀ j, v.ownBlock = some j → base ≤ j := fun j e1 => by
  rcases hrow.2 with ⟨rfl, _⟩ | ⟨g, cap, cur, rfl, h2, _, _⟩
  · simp [Value.ownBlock] at e1
  · obtain rfl : g = j := by simpa [Value.ownBlock] using e1
    exact h2
theorem treeCells_snoc (ts : List Tree) (u : Tree) : treeCells (ts ++ [u]) = treeCells ts ++ [.string u.tag, .int .i64 u.x, .int .i64 u.y, .int .i64 u.gl, .int .i64 u.gh, .int .i64 u.cr] := by simp [treeCells]
/-- A stand, read from a text; its trees read to its end. -/
def readL (l0 : List UInt8) : Option Stand :=
  (expL [115, 116, 97, 110, 100, 32, 103, 114, 111, 119, 32] l0).bind fun l1 =>
  (spanL l1).bind fun a2 =>
  (expL [32, 112, 114, 101, 115, 115, 32] a2.2).bind fun l3 =>
  (numL l3).bind fun a4 =>
  (expL [32, 110, 101, 97, 114, 32] a4.2).bind fun l5 =>
  (numL l5).bind fun a6 =>
  (expL [10] a6.2).bind fun l7 =>
  (treesL l7.length l7).map fun ts => ⟨ts, a2.1.1, a2.1.2, a4.1, a6.1⟩
theorem readL_some {l : List UInt8} {S : Stand} (h : readL l = some S) : ∃ (ts : List Tree) (lo hi pr ne : Int) (L1 L2 L3 L4 L5 L6 L7 : List UInt8), S = ⟨ts, lo, hi, pr, ne⟩ ∧ expL [115, 116, 97, 110, 100, 32, 103, 114, 111, 119, 32] l = some L1 ∧ spanL L1 = some ((lo, hi), L2) ∧ expL [32, 112, 114, 101, 115, 115, 32] L2 = some L3 ∧ numL L3 = some (pr, L4) ∧ expL [32, 110, 101, 97, 114, 32] L4 = some L5 ∧ numL L5 = some (ne, L6) ∧ expL [10] L6 = some L7 ∧ treesL L7.length L7 = some ts := by
  simp only [readL, Option.bind_eq_some_iff, Option.map_eq_some_iff] at h
  obtain ⟨M1, h1, ⟨v2, M2⟩, h2, M3, h3, ⟨v4, M4⟩, h4, M5, h5, ⟨v6, M6⟩, h6, M7, h7, ts, h8, rfl⟩ := h
  exact ⟨ts, v2.1, v2.2, v4, v6, M1, M2, M3, M4, M5, M6, M7, rfl, h1, h2, h3, h4, h5, h6, h7, h8⟩
set_option maxRecDepth 100000 in
set_option maxHeartbeats 4000000 in
theorem readStand_rd {s : ByteArray} {S : Stand} (w : World) (hs : s.size ≤ 65536) (h : readL s.data.toList = some S) :
    Calls Tryd.prog 87 #[.string s] w fun e w' => ∃ v, e = .returned (.agg #[v, .int .i64 S.lo, .int .i64 S.hi, .int .i64 S.press, .int .i64 S.near]) ∧ w'.ownsRow w.heap.size 62 6 v S.ts.length (treeCells S.ts) ∧ S.ts.length ≤ 65536 ∧ Below w.heap.size w w' := by
  obtain ⟨ts, lo, hi, pr, ne, L1, L2, L3, L4, L5, L6, L7, rfl, h1, h2, h3, h4, h5, h6, h7, h8⟩ := readL_some h
  dsimp only
  have z0 := hs
  have y0 : s.data.toList = s.data.toList := rfl
  have x0 := Boxed.new (w.alloc (.cells #[.slice none 0 0, .int .i64 0, .int .i64 0, .int .i64 0, .int .i64 0] 29)) 135 (.string s)
  rw [World.size_alloc] at x0
  have X0 := Lib.hid (x0.alloc (.cells #[.slice none 0 0, .int .i64 0, .int .i64 0, .int .i64 0, .int .i64 0] 29))
  have k0 := Box.new ((w.alloc (.cells #[.slice none 0 0, .int .i64 0, .int .i64 0, .int .i64 0, .int .i64 0] 29)).alloc (.cells #[.string s] 135)) #[.slice none 0 0, .int .i64 0, .int .i64 0, .int .i64 0, .int .i64 0] 29
  rw [World.size_alloc, World.size_alloc] at k0
  have K0 := Lib.hid k0
  have D0 := Lib.hid (((Box.new w #[.slice none 0 0, .int .i64 0, .int .i64 0, .int .i64 0, .int .i64 0] 29).alloc (.cells #[.string s] 135)).alloc (.cells #[.slice none 0 0, .int .i64 0, .int .i64 0, .int .i64 0, .int .i64 0] 29))
  have B0 := Lib.hid ((((Below.refl w.heap.size w).alloc (Nat.le_refl _) (.cells #[.slice none 0 0, .int .i64 0, .int .i64 0, .int .i64 0, .int .i64 0] 29)).alloc (by simp) (.cells #[.string s] 135)).alloc (by simp; omega) (.cells #[.slice none 0 0, .int .i64 0, .int .i64 0, .int .i64 0, .int .i64 0] 29))
  clear x0 k0
  have H1 := Lib.hid h1
  have H2 := Lib.hid h2
  have H3 := Lib.hid h3
  have H4 := Lib.hid h4
  have H5 := Lib.hid h5
  have H6 := Lib.hid h6
  have H7 := Lib.hid h7
  have H8 := Lib.hid h8
  clear h h8 h1 h2 h3 h4 h5 h6 h7
  have hmf : ∀ (fn : Fn) (first cap : Array Value) (W : World), (Instr.makeFunc fn first cap).run Tryd.prog W = .ok (.func fn first cap) W := fun _ _ _ _ => rfl
  go_enter Tryd.func87, Tryd.ntmps87
  go_wp2_with (first
    | (go_at_call 102; refine (expect_rd (p := ⟨#[10]⟩) (l := L7) (w.heap.size + 1) _ z6 X6.out (by rw [y6]; exact H7.out)).mono ?_; rintro e w7 ⟨rfl, r⟩; obtain ⟨s7, x7, y7, z7⟩ := r.box; have kb := r.old _ K6.out.lt (by omega); have db := r.old _ D6.out.lt (by omega); have k1 : Box w7 (w.heap.size + 1 + 1) #[.slice none 0 0, .int .i64 lo, .int .i64 hi, .int .i64 pr, .int .i64 ne] 29 := kb.trans K6.out; have d1 : Box w7 w.heap.size #[.slice none 0 0, .int .i64 0, .int .i64 0, .int .i64 0, .int .i64 0] 29 := db.trans D6.out; have r1 := B6.out.trans (r.bel.mono (by omega)); have B7 := Lib.hid r1; have X7 := Lib.hid x7; have K7 := Lib.hid k1; have D7 := Lib.hid d1; clear r r1 k1 d1 kb db x7)
    | (go_at_call 103; refine (number_rd (w.heap.size + 1) _ z5 X5.out (by rw [y5]; exact H6.out)).mono ?_; rintro e w6 ⟨rfl, r⟩; obtain ⟨s6, x6, y6, z6⟩ := r.box; have kb := r.old _ K5.out.lt (by omega); have db := r.old _ D5.out.lt (by omega); have k1 : Box w6 (w.heap.size + 1 + 1) #[.slice none 0 0, .int .i64 lo, .int .i64 hi, .int .i64 pr, .int .i64 0] 29 := kb.trans K5.out; have d1 : Box w6 w.heap.size #[.slice none 0 0, .int .i64 0, .int .i64 0, .int .i64 0, .int .i64 0] 29 := db.trans D5.out; have r1 := B5.out.trans (r.bel.mono (by omega)); have c4 : w6.cell? ⟨(w.heap.size + 1 + 1), 4, none⟩ = some (.int .i64 0) := k1.cell 4; have u4 : w6.frozen? ⟨(w.heap.size + 1 + 1), 4, none⟩ = false := k1.free 4; have k2 := (k1.set 4 (.int .i64 ne)); simp at k2; have B6 := Lib.hid (r1.setCell (p := ⟨(w.heap.size + 1 + 1), 4, none⟩) (by dsimp only; omega) (.int .i64 ne)); have X6 := Lib.hid (boxed_off x6 (show (w.heap.size + 1) ≠ (w.heap.size + 1 + 1) by omega) 4 (.int .i64 ne)); have K6 := Lib.hid k2; have D6 := Lib.hid (d1.other (p := ⟨(w.heap.size + 1 + 1), 4, none⟩) (by dsimp only; omega) (.int .i64 ne)); clear r r1 k1 k2 d1 kb db x6)
    | (go_at_call 102; refine (expect_rd (p := ⟨#[32, 110, 101, 97, 114, 32]⟩) (l := L5) (w.heap.size + 1) _ z4 X4.out (by rw [y4]; exact H5.out)).mono ?_; rintro e w5 ⟨rfl, r⟩; obtain ⟨s5, x5, y5, z5⟩ := r.box; have kb := r.old _ K4.out.lt (by omega); have db := r.old _ D4.out.lt (by omega); have k1 : Box w5 (w.heap.size + 1 + 1) #[.slice none 0 0, .int .i64 lo, .int .i64 hi, .int .i64 pr, .int .i64 0] 29 := kb.trans K4.out; have d1 : Box w5 w.heap.size #[.slice none 0 0, .int .i64 0, .int .i64 0, .int .i64 0, .int .i64 0] 29 := db.trans D4.out; have r1 := B4.out.trans (r.bel.mono (by omega)); have B5 := Lib.hid r1; have X5 := Lib.hid x5; have K5 := Lib.hid k1; have D5 := Lib.hid d1; clear r r1 k1 d1 kb db x5)
    | (go_at_call 103; refine (number_rd (w.heap.size + 1) _ z3 X3.out (by rw [y3]; exact H4.out)).mono ?_; rintro e w4 ⟨rfl, r⟩; obtain ⟨s4, x4, y4, z4⟩ := r.box; have kb := r.old _ K3.out.lt (by omega); have db := r.old _ D3.out.lt (by omega); have k1 : Box w4 (w.heap.size + 1 + 1) #[.slice none 0 0, .int .i64 lo, .int .i64 hi, .int .i64 0, .int .i64 0] 29 := kb.trans K3.out; have d1 : Box w4 w.heap.size #[.slice none 0 0, .int .i64 0, .int .i64 0, .int .i64 0, .int .i64 0] 29 := db.trans D3.out; have r1 := B3.out.trans (r.bel.mono (by omega)); have c3 : w4.cell? ⟨(w.heap.size + 1 + 1), 3, none⟩ = some (.int .i64 0) := k1.cell 3; have u3 : w4.frozen? ⟨(w.heap.size + 1 + 1), 3, none⟩ = false := k1.free 3; have k2 := (k1.set 3 (.int .i64 pr)); simp at k2; have B4 := Lib.hid (r1.setCell (p := ⟨(w.heap.size + 1 + 1), 3, none⟩) (by dsimp only; omega) (.int .i64 pr)); have X4 := Lib.hid (boxed_off x4 (show (w.heap.size + 1) ≠ (w.heap.size + 1 + 1) by omega) 3 (.int .i64 pr)); have K4 := Lib.hid k2; have D4 := Lib.hid (d1.other (p := ⟨(w.heap.size + 1 + 1), 3, none⟩) (by dsimp only; omega) (.int .i64 pr)); clear r r1 k1 k2 d1 kb db x4)
    | (go_at_call 102; refine (expect_rd (p := ⟨#[32, 112, 114, 101, 115, 115, 32]⟩) (l := L3) (w.heap.size + 1) _ z2 X2.out (by rw [y2]; exact H3.out)).mono ?_; rintro e w3 ⟨rfl, r⟩; obtain ⟨s3, x3, y3, z3⟩ := r.box; have kb := r.old _ K2.out.lt (by omega); have db := r.old _ D2.out.lt (by omega); have k1 : Box w3 (w.heap.size + 1 + 1) #[.slice none 0 0, .int .i64 lo, .int .i64 hi, .int .i64 0, .int .i64 0] 29 := kb.trans K2.out; have d1 : Box w3 w.heap.size #[.slice none 0 0, .int .i64 0, .int .i64 0, .int .i64 0, .int .i64 0] 29 := db.trans D2.out; have r1 := B2.out.trans (r.bel.mono (by omega)); have B3 := Lib.hid r1; have X3 := Lib.hid x3; have K3 := Lib.hid k1; have D3 := Lib.hid d1; clear r r1 k1 d1 kb db x3)
    | (go_at_call 104; refine (span_rd (w.heap.size + 1) _ z1 X1.out (by rw [y1]; exact H2.out)).mono ?_; rintro e w2 ⟨rfl, r⟩; obtain ⟨s2, x2, y2, z2⟩ := r.box; have kb := r.old _ K1.out.lt (by omega); have db := r.old _ D1.out.lt (by omega); have k1 : Box w2 (w.heap.size + 1 + 1) #[.slice none 0 0, .int .i64 0, .int .i64 0, .int .i64 0, .int .i64 0] 29 := kb.trans K1.out; have d1 : Box w2 w.heap.size #[.slice none 0 0, .int .i64 0, .int .i64 0, .int .i64 0, .int .i64 0] 29 := db.trans D1.out; have r1 := B1.out.trans (r.bel.mono (by omega)); have c1 : w2.cell? ⟨(w.heap.size + 1 + 1), 1, none⟩ = some (.int .i64 0) := k1.cell 1; have u1 : w2.frozen? ⟨(w.heap.size + 1 + 1), 1, none⟩ = false := k1.free 1; have c2 : w2.cell? ⟨(w.heap.size + 1 + 1), 2, none⟩ = some (.int .i64 0) := k1.cell 2; have u2 : w2.frozen? ⟨(w.heap.size + 1 + 1), 2, none⟩ = false := k1.free 2; have k2 := ((k1.set 1 (.int .i64 lo)).set 2 (.int .i64 hi)); simp at k2; have B2 := Lib.hid ((r1.setCell (p := ⟨(w.heap.size + 1 + 1), 1, none⟩) (by dsimp only; omega) (.int .i64 lo)).setCell (p := ⟨(w.heap.size + 1 + 1), 2, none⟩) (by dsimp only; omega) (.int .i64 hi)); have X2 := Lib.hid (boxed_off (boxed_off x2 (show (w.heap.size + 1) ≠ (w.heap.size + 1 + 1) by omega) 1 (.int .i64 lo)) (show (w.heap.size + 1) ≠ (w.heap.size + 1 + 1) by omega) 2 (.int .i64 hi)); have K2 := Lib.hid k2; have D2 := Lib.hid ((d1.other (p := ⟨(w.heap.size + 1 + 1), 1, none⟩) (by dsimp only; omega) (.int .i64 lo)).other (p := ⟨(w.heap.size + 1 + 1), 2, none⟩) (by dsimp only; omega) (.int .i64 hi)); clear r r1 k1 k2 d1 kb db x2)
    | (go_at_call 102; refine (expect_rd (p := ⟨#[115, 116, 97, 110, 100, 32, 103, 114, 111, 119, 32]⟩) (l := L1) (w.heap.size + 1) _ z0 X0.out (by rw [y0]; exact H1.out)).mono ?_; rintro e w1 ⟨rfl, r⟩; obtain ⟨s1, x1, y1, z1⟩ := r.box; have kb := r.old _ K0.out.lt (by omega); have db := r.old _ D0.out.lt (by omega); have k1 : Box w1 (w.heap.size + 1 + 1) #[.slice none 0 0, .int .i64 0, .int .i64 0, .int .i64 0, .int .i64 0] 29 := kb.trans K0.out; have d1 : Box w1 w.heap.size #[.slice none 0 0, .int .i64 0, .int .i64 0, .int .i64 0, .int .i64 0] 29 := db.trans D0.out; have r1 := B0.out.trans (r.bel.mono (by omega)); have B1 := Lib.hid r1; have X1 := Lib.hid x1; have K1 := Lib.hid k1; have D1 := Lib.hid d1; clear r r1 k1 d1 kb db x1))
  clear hmf z0 z1 z2 z3 z4 z5 z6 y0 y1 y2 y3 y4 y5 y6 X0 X1 X2 X3 X4 X5 X6 K0 K1 K2 K3 K4 K5 K6 D0 D1 D2 D3 D4 D5 D6 B0 B1 B2 B3 B4 B5 B6 H1 H2 H3 H4 H5 H6 H7 c1 c2 c3 c4 u1 u2 u3 u4
  have H9 := Lib.hid (show ts.length + 0 ≤ ts.length by omega)
  go_loopg [40] ts.length (fun g _ wr => ∃ (front back : List Tree) (f : Nat) (sv : ByteArray) (v : Value), back.length = g ∧ Hid (ts = front ++ back) ∧ Hid (treesL f sv.data.toList = some back) ∧ Hid (Boxed wr (w.heap.size + 1) 135 (.string sv)) ∧ sv.size ≤ 65536 ∧ Hid (front.length + sv.size ≤ 65536) ∧ Hid (wr.ownsRow (w.heap.size + 1 + 1 + 1) 62 6 v front.length (treeCells front)) ∧ Hid (Box wr (w.heap.size + 1 + 1) #[v, .int .i64 lo, .int .i64 hi, .int .i64 pr, .int .i64 ne] 29) ∧ Hid (Box wr w.heap.size #[.slice none 0 0, .int .i64 0, .int .i64 0, .int .i64 0, .int .i64 0] 29) ∧ Hid (Below w.heap.size w wr) ∧ w.heap.size + 1 + 1 + 1 ≤ wr.heap.size)
  case atStart => exact ⟨[], ts, _, s7, .slice none 0 0, rfl, Lib.hid rfl, Lib.hid (by rw [y7]; exact H8.out), X7, z7, Lib.hid (by simpa using z7), Lib.hid (World.ownsRow_nil _ _ _ _), K7, D7, B7, by have := K7.out.lt; omega⟩
  case round =>
    obtain ⟨front, back, f, sv, v, hg, HT, HF, HX, hsv, HL, HO, HK, HD, HB, hz⟩ := hrel
    have c0 := HX.out.cell
    have k0 : wr.cell? ⟨(w.heap.size + 1 + 1), 0, none⟩ = some v := HK.out.cell 0
    cases gk with
    | zero =>
      obtain rfl : back = [] := by cases back with | nil => rfl | cons _ _ => cases hg
      have hl := treesL_nil HF.out
      obtain rfl : sv = ⟨#[]⟩ := by
        apply ByteArray.ext; apply Array.ext'; simpa using hl
      have k1 : wr.cell? ⟨(w.heap.size + 1 + 1), 1, none⟩ = some (.int .i64 lo) := HK.out.cell 1
      have k2 : wr.cell? ⟨(w.heap.size + 1 + 1), 2, none⟩ = some (.int .i64 hi) := HK.out.cell 2
      have k3 : wr.cell? ⟨(w.heap.size + 1 + 1), 3, none⟩ = some (.int .i64 pr) := HK.out.cell 3
      have k4 : wr.cell? ⟨(w.heap.size + 1 + 1), 4, none⟩ = some (.int .i64 ne) := HK.out.cell 4
      obtain ⟨va, vc, rfl⟩ := row_form HO.out
      have d0 : wr.cell? ⟨w.heap.size, 0, none⟩ = some (.slice none 0 0) := HD.out.cell 0
      have d1 : wr.cell? ⟨w.heap.size, 1, none⟩ = some (.int .i64 0) := HD.out.cell 1
      have d2 : wr.cell? ⟨w.heap.size, 2, none⟩ = some (.int .i64 0) := HD.out.cell 2
      have d3 : wr.cell? ⟨w.heap.size, 3, none⟩ = some (.int .i64 0) := HD.out.cell 3
      have d4 : wr.cell? ⟨w.heap.size, 4, none⟩ = some (.int .i64 0) := HD.out.cell 4
      have q0 : wr.frozen? ⟨w.heap.size, 0, none⟩ = false := HD.out.free 0
      have q1 : wr.frozen? ⟨w.heap.size, 1, none⟩ = false := HD.out.free 1
      have q2 : wr.frozen? ⟨w.heap.size, 2, none⟩ = false := HD.out.free 2
      have q3 : wr.frozen? ⟨w.heap.size, 3, none⟩ = false := HD.out.free 3
      have q4 : wr.frozen? ⟨w.heap.size, 4, none⟩ = false := HD.out.free 4
      clear hl
      go_wp2_with fail
      have bR := put5.box HD.out (.slice va front.length vc) (.int .i64 lo) (.int .i64 hi) (.int .i64 pr) (.int .i64 ne)
      have r0 := bR.cell 0; have r1 := bR.cell 1; have r2 := bR.cell 2; have r3 := bR.cell 3; have r4 := bR.cell 4
      simp [put5] at r0 r1 r2 r3 r4
      have hts : ts = front := by have := HT.out; simpa using this
      refine bodyPost_ret (v := .agg #[.slice va front.length vc, .int .i64 lo, .int .i64 hi, .int .i64 pr, .int .i64 ne]) (by simp [results, Tryd.results87, go_sem, r0, r1, r2, r3, r4]) rfl ⟨_, rfl, ?_, ?_, put5.below HB.out (Nat.le_refl _) _ _ _ _ _⟩
      · rw [hts]
        exact ownsRow_base (ownsRow_put5 HO.out (by omega) _ _ _ _ _) (by omega)
      · rw [hts]; have := HL.out; omega
    | succ gk =>
      obtain ⟨u, back, rfl⟩ : ∃ u bs, back = u :: bs := by cases back with | nil => cases hg | cons u bs => exact ⟨u, bs, rfl⟩
      obtain ⟨f', l', hu, hr⟩ := treesL_step HF.out
      have hne : sv.data.toList ≠ [] := treeL_ne hu
      have hlen := treeL_len hu
      have HU := Lib.hid hu
      obtain ⟨i0, hi0, hzz⟩ := Option.map_eq_some_iff.1 infoTree
      simp only [Prod.mk.injEq, Option.map_eq_some_iff] at hzz
      obtain ⟨⟨z6, hz0, hzs⟩, hz1, hz2⟩ := hzz
      have HR := Lib.hid hr
      have hn0 : (sv.toList == []) = false := by
        rw [Lib.toList_data]
        cases h : sv.data.toList with
        | nil => exact absurd h hne
        | cons _ _ => rfl
      clear hu hr hne
      obtain ⟨va, vc, rfl⟩ := row_form HO.out
      go_wp2_with fail
      refine region_plan (.take 0 (.take 2 (.two 1 3 (.one 3 (.one 4 (.one 5 (.take 6 (.one 7 .done))))) (.two 1 4 (.one 4 (.one 5 (.take 6 (.one 7 .done)))) (.one 1 (.one 5 (.take 6 (.one 7 .done)))))))) (by kernel_rfl) (by kernel_rfl) (by kernel_rfl) (by simp [Plan.depth]) (fun _ _ _ _ h => h) ?_
      (refine PlanW.free (v := ?_) rfl (by rfl) (fun W => ?_) ?_; rotate_left; (go_simp; with_reducible rfl); simp only [Act.put, List.setIfInBounds_toArray, List.set_cons_zero, List.set_cons_succ])
      (refine PlanW.free (v := ?_) rfl (by rfl) (fun W => ?_) ?_; rotate_left; (go_simp; with_reducible rfl); simp only [Act.put, List.setIfInBounds_toArray, List.set_cons_zero, List.set_cons_succ])
      refine ⟨?_, ?_⟩
      · (refine wpOp_plan rfl (by rfl) (fun K hK => ?_); go_simp; refine hK.out _ _ ?_; clear hK K)
        (refine PlanW.call rfl (by rfl) (fun K hK => ?_); go_simp; refine (tree_rd (w.heap.size + 1) wr.drew hsv HX.out HU.out).mono ?_; rintro e w1 ⟨rfl, r⟩; have k1 : w1.cell? ⟨(w.heap.size + 1 + 1), 0, none⟩ = some (.slice va front.length vc) := (cell_old r HK.out.lt (by omega)).trans (HK.out.cell 0); go_simp; refine hK.out _ _ ?_; clear hK K)
        (refine PlanW.call rfl (by rfl) (fun K hK => ?_); go_simp; refine hK.out _ _ ?_; clear hK K; have k2 := k1)
        (refine PlanW.call rfl (by rfl) (fun K hK => ?_); have hfr := HL.out; have bN := Box.new w1 #[.string u.tag, .int .i64 u.x, .int .i64 u.y, .int .i64 u.gl, .int .i64 u.gh, .int .i64 u.cr] 62; have hO1 := (ownsRow_rd (w := wr.drew) HO.out r (by omega)).alloc (.cells #[.string u.tag, .int .i64 u.x, .int .i64 u.y, .int .i64 u.gl, .int .i64 u.gh, .int .i64 u.cr] 62); refine wp_append_own _ (.tmp 40) (.tmp 43) 25 rfl (w.heap.size + 1 + 1 + 1) 62 i0 z6 6 56 Tryd.underlying25 hi0 hz0 hz1 hz2 hzs (by decide) (.slice va front.length vc) front.length (treeCells front) rfl hO1 ⟨w1.heap.size, 0, none⟩ 1 1 [.string u.tag, .int .i64 u.x, .int .i64 u.y, .int .i64 u.gl, .int .i64 u.gh, .int .i64 u.cr] rfl (by rfl) (fun j x hx => by rw [Addr.add_lit, Nat.zero_add, bN.cell]; simpa using hx) (by simp [Value.oneCell']) (by unfold maxLen; omega) (by omega) (by have := r.bel.size; simp at this ⊢; omega) ?_; intro v' w2 hown hgrow _; obtain ⟨va', vc', rfl⟩ := row_form hown; have hw1 := r.bel.size; simp only [World.size_drew] at hw1; have kb : Box w1 (w.heap.size + 1 + 1) #[.slice va front.length vc, .int .i64 lo, .int .i64 hi, .int .i64 pr, .int .i64 ne] 29 := (r.old _ HK.out.lt (by omega)).trans HK.out; have db : Box w1 w.heap.size #[.slice none 0 0, .int .i64 0, .int .i64 0, .int .i64 0, .int .i64 0] 29 := (r.old _ HD.out.lt (by omega)).trans HD.out; have kg := (kb.alloc (.cells #[.string u.tag, .int .i64 u.x, .int .i64 u.y, .int .i64 u.gl, .int .i64 u.gh, .int .i64 u.cr] 62)).grown hgrow hO1 (by omega); have dg := (db.alloc (.cells #[.string u.tag, .int .i64 u.x, .int .i64 u.y, .int .i64 u.gl, .int .i64 u.gh, .int .i64 u.cr] 62)).grown hgrow hO1 (by omega); obtain ⟨sx, xx, yx, zx⟩ := r.box; have xg := boxed_of (xx.alloc (.cells #[.string u.tag, .int .i64 u.x, .int .i64 u.y, .int .i64 u.gl, .int .i64 u.gh, .int .i64 u.cr] 62)) (hgrow.block (w.heap.size + 1) (by simp; omega) (row_not hO1 (by omega))); have c1 : w2.cell? ⟨(w.heap.size + 1 + 1), 0, none⟩ = some (.slice va front.length vc) := kg.cell 0; have f1 : w2.frozen? ⟨(w.heap.size + 1 + 1), 0, none⟩ = false := kg.free 0; have bg := ((HB.out.drew.trans (r.bel.mono (show w.heap.size ≤ (w.heap.size + 1) by omega))).alloc (by omega) (.cells #[.string u.tag, .int .i64 u.x, .int .i64 u.y, .int .i64 u.gl, .int .i64 u.gh, .int .i64 u.cr] 62)).grown hgrow (by simp; omega) (fun j ej => by have := row_ge hO1 j ej; omega); refine hK.out _ _ ?_; clear hK K; (refine PlanW.free (v := ?_) rfl (by rfl) (fun W => ?_) ?_; rotate_left; (go_simp; with_reducible rfl); simp only [Act.put, List.setIfInBounds_toArray, List.set_cons_zero, List.set_cons_succ]); refine PlanW.call rfl (by rfl) (fun K hK => ?_); go_simp; refine hK.out _ _ ?_; clear hK K; refine PlanW.end' ?_; go_wp2_with fail; go_roundg gk)
        case rel => exact ⟨front ++ [u], back, f', sx, .slice va' (front.length + 1) vc', by simpa using hg, Lib.hid (by rw [HT.out]; simp), Lib.hid (by rw [yx]; exact HR.out), Lib.hid (boxed_off xg (by omega) 0 _), zx, Lib.hid (by have := hlen.1; have := HL.out; have := congrArg List.length yx; rw [size_len] at *; rw [List.length_append, List.length_singleton]; omega), Lib.hid (by rw [treeCells_snoc, List.length_append, List.length_singleton]; exact ownsRow_setCell hown (by dsimp only; omega) _), Lib.hid (kg.set 0 _), Lib.hid (dg.other (by dsimp only; omega) _), Lib.hid (bg.setCell (by dsimp only; omega) _), by have := hgrow.size; simp at this ⊢; omega⟩
        case measure => omega
      · (refine wpOp_plan rfl (by rfl) (fun K hK => ?_); go_simp; refine (tree_rd (w.heap.size + 1) wr.drew hsv HX.out HU.out).mono ?_; rintro e w1 ⟨rfl, r⟩; have k1 : w1.cell? ⟨(w.heap.size + 1 + 1), 0, none⟩ = some (.slice va front.length vc) := (cell_old r HK.out.lt (by omega)).trans (HK.out.cell 0); go_simp; refine hK.out _ _ ?_; clear hK K)
        refine ⟨?_, ?_⟩
        · (refine wpOp_plan rfl (by rfl) (fun K hK => ?_); go_simp; refine hK.out _ _ ?_; clear hK K)
          (refine PlanW.call rfl (by rfl) (fun K hK => ?_); go_simp; refine hK.out _ _ ?_; clear hK K; have k2 := k1)
          (refine PlanW.call rfl (by rfl) (fun K hK => ?_); have hfr := HL.out; have bN := Box.new w1 #[.string u.tag, .int .i64 u.x, .int .i64 u.y, .int .i64 u.gl, .int .i64 u.gh, .int .i64 u.cr] 62; have hO1 := (ownsRow_rd (w := wr.drew) HO.out r (by omega)).alloc (.cells #[.string u.tag, .int .i64 u.x, .int .i64 u.y, .int .i64 u.gl, .int .i64 u.gh, .int .i64 u.cr] 62); refine wp_append_own _ (.tmp 40) (.tmp 43) 25 rfl (w.heap.size + 1 + 1 + 1) 62 i0 z6 6 56 Tryd.underlying25 hi0 hz0 hz1 hz2 hzs (by decide) (.slice va front.length vc) front.length (treeCells front) rfl hO1 ⟨w1.heap.size, 0, none⟩ 1 1 [.string u.tag, .int .i64 u.x, .int .i64 u.y, .int .i64 u.gl, .int .i64 u.gh, .int .i64 u.cr] rfl (by rfl) (fun j x hx => by rw [Addr.add_lit, Nat.zero_add, bN.cell]; simpa using hx) (by simp [Value.oneCell']) (by unfold maxLen; omega) (by omega) (by have := r.bel.size; simp at this ⊢; omega) ?_; intro v' w2 hown hgrow _; obtain ⟨va', vc', rfl⟩ := row_form hown; have hw1 := r.bel.size; simp only [World.size_drew] at hw1; have kb : Box w1 (w.heap.size + 1 + 1) #[.slice va front.length vc, .int .i64 lo, .int .i64 hi, .int .i64 pr, .int .i64 ne] 29 := (r.old _ HK.out.lt (by omega)).trans HK.out; have db : Box w1 w.heap.size #[.slice none 0 0, .int .i64 0, .int .i64 0, .int .i64 0, .int .i64 0] 29 := (r.old _ HD.out.lt (by omega)).trans HD.out; have kg := (kb.alloc (.cells #[.string u.tag, .int .i64 u.x, .int .i64 u.y, .int .i64 u.gl, .int .i64 u.gh, .int .i64 u.cr] 62)).grown hgrow hO1 (by omega); have dg := (db.alloc (.cells #[.string u.tag, .int .i64 u.x, .int .i64 u.y, .int .i64 u.gl, .int .i64 u.gh, .int .i64 u.cr] 62)).grown hgrow hO1 (by omega); obtain ⟨sx, xx, yx, zx⟩ := r.box; have xg := boxed_of (xx.alloc (.cells #[.string u.tag, .int .i64 u.x, .int .i64 u.y, .int .i64 u.gl, .int .i64 u.gh, .int .i64 u.cr] 62)) (hgrow.block (w.heap.size + 1) (by simp; omega) (row_not hO1 (by omega))); have c1 : w2.cell? ⟨(w.heap.size + 1 + 1), 0, none⟩ = some (.slice va front.length vc) := kg.cell 0; have f1 : w2.frozen? ⟨(w.heap.size + 1 + 1), 0, none⟩ = false := kg.free 0; have bg := ((HB.out.drew.trans (r.bel.mono (show w.heap.size ≤ (w.heap.size + 1) by omega))).alloc (by omega) (.cells #[.string u.tag, .int .i64 u.x, .int .i64 u.y, .int .i64 u.gl, .int .i64 u.gh, .int .i64 u.cr] 62)).grown hgrow (by simp; omega) (fun j ej => by have := row_ge hO1 j ej; omega); refine hK.out _ _ ?_; clear hK K; (refine PlanW.free (v := ?_) rfl (by rfl) (fun W => ?_) ?_; rotate_left; (go_simp; with_reducible rfl); simp only [Act.put, List.setIfInBounds_toArray, List.set_cons_zero, List.set_cons_succ]); refine PlanW.call rfl (by rfl) (fun K hK => ?_); go_simp; refine hK.out _ _ ?_; clear hK K; refine PlanW.end' ?_; go_wp2_with fail; go_roundg gk)
          case rel => exact ⟨front ++ [u], back, f', sx, .slice va' (front.length + 1) vc', by simpa using hg, Lib.hid (by rw [HT.out]; simp), Lib.hid (by rw [yx]; exact HR.out), Lib.hid (boxed_off xg (by omega) 0 _), zx, Lib.hid (by have := hlen.1; have := HL.out; have := congrArg List.length yx; rw [size_len] at *; rw [List.length_append, List.length_singleton]; omega), Lib.hid (by rw [treeCells_snoc, List.length_append, List.length_singleton]; exact ownsRow_setCell hown (by dsimp only; omega) _), Lib.hid (kg.set 0 _), Lib.hid (dg.other (by dsimp only; omega) _), Lib.hid (bg.setCell (by dsimp only; omega) _), by have := hgrow.size; simp at this ⊢; omega⟩
          case measure => omega
        · (refine wpOp_plan rfl (by rfl) (fun K hK => ?_); go_simp; refine hK.out _ _ ?_; clear hK K)
          (have k2 : (w1.alloc (.cells #[.string u.tag, .int .i64 u.x, .int .i64 u.y, .int .i64 u.gl, .int .i64 u.gh, .int .i64 u.cr] 62)).cell? ⟨(w.heap.size + 1 + 1), 0, none⟩ = some (.slice va front.length vc) := (cell_alloc (by have := r.bel.size; simp at this; omega) _).trans k1; refine PlanW.call rfl (by rfl) (fun K hK => ?_); go_simp; refine hK.out _ _ ?_; clear hK K)
          (refine PlanW.call rfl (by rfl) (fun K hK => ?_); have hfr := HL.out; have bN := Box.new w1 #[.string u.tag, .int .i64 u.x, .int .i64 u.y, .int .i64 u.gl, .int .i64 u.gh, .int .i64 u.cr] 62; have hO1 := (ownsRow_rd (w := wr.drew) HO.out r (by omega)).alloc (.cells #[.string u.tag, .int .i64 u.x, .int .i64 u.y, .int .i64 u.gl, .int .i64 u.gh, .int .i64 u.cr] 62); refine wp_append_own _ (.tmp 40) (.tmp 43) 25 rfl (w.heap.size + 1 + 1 + 1) 62 i0 z6 6 56 Tryd.underlying25 hi0 hz0 hz1 hz2 hzs (by decide) (.slice va front.length vc) front.length (treeCells front) rfl hO1 ⟨w1.heap.size, 0, none⟩ 1 1 [.string u.tag, .int .i64 u.x, .int .i64 u.y, .int .i64 u.gl, .int .i64 u.gh, .int .i64 u.cr] rfl (by rfl) (fun j x hx => by rw [Addr.add_lit, Nat.zero_add, bN.cell]; simpa using hx) (by simp [Value.oneCell']) (by unfold maxLen; omega) (by omega) (by have := r.bel.size; simp at this ⊢; omega) ?_; intro v' w2 hown hgrow _; obtain ⟨va', vc', rfl⟩ := row_form hown; have hw1 := r.bel.size; simp only [World.size_drew] at hw1; have kb : Box w1 (w.heap.size + 1 + 1) #[.slice va front.length vc, .int .i64 lo, .int .i64 hi, .int .i64 pr, .int .i64 ne] 29 := (r.old _ HK.out.lt (by omega)).trans HK.out; have db : Box w1 w.heap.size #[.slice none 0 0, .int .i64 0, .int .i64 0, .int .i64 0, .int .i64 0] 29 := (r.old _ HD.out.lt (by omega)).trans HD.out; have kg := (kb.alloc (.cells #[.string u.tag, .int .i64 u.x, .int .i64 u.y, .int .i64 u.gl, .int .i64 u.gh, .int .i64 u.cr] 62)).grown hgrow hO1 (by omega); have dg := (db.alloc (.cells #[.string u.tag, .int .i64 u.x, .int .i64 u.y, .int .i64 u.gl, .int .i64 u.gh, .int .i64 u.cr] 62)).grown hgrow hO1 (by omega); obtain ⟨sx, xx, yx, zx⟩ := r.box; have xg := boxed_of (xx.alloc (.cells #[.string u.tag, .int .i64 u.x, .int .i64 u.y, .int .i64 u.gl, .int .i64 u.gh, .int .i64 u.cr] 62)) (hgrow.block (w.heap.size + 1) (by simp; omega) (row_not hO1 (by omega))); have c1 : w2.cell? ⟨(w.heap.size + 1 + 1), 0, none⟩ = some (.slice va front.length vc) := kg.cell 0; have f1 : w2.frozen? ⟨(w.heap.size + 1 + 1), 0, none⟩ = false := kg.free 0; have bg := ((HB.out.drew.trans (r.bel.mono (show w.heap.size ≤ (w.heap.size + 1) by omega))).alloc (by omega) (.cells #[.string u.tag, .int .i64 u.x, .int .i64 u.y, .int .i64 u.gl, .int .i64 u.gh, .int .i64 u.cr] 62)).grown hgrow (by simp; omega) (fun j ej => by have := row_ge hO1 j ej; omega); refine hK.out _ _ ?_; clear hK K; (refine PlanW.free (v := ?_) rfl (by rfl) (fun W => ?_) ?_; rotate_left; (go_simp; with_reducible rfl); simp only [Act.put, List.setIfInBounds_toArray, List.set_cons_zero, List.set_cons_succ]); refine PlanW.call rfl (by rfl) (fun K hK => ?_); go_simp; refine hK.out _ _ ?_; clear hK K; refine PlanW.end' ?_; go_wp2_with fail; go_roundg gk)
          case rel => exact ⟨front ++ [u], back, f', sx, .slice va' (front.length + 1) vc', by simpa using hg, Lib.hid (by rw [HT.out]; simp), Lib.hid (by rw [yx]; exact HR.out), Lib.hid (boxed_off xg (by omega) 0 _), zx, Lib.hid (by have := hlen.1; have := HL.out; have := congrArg List.length yx; rw [size_len] at *; rw [List.length_append, List.length_singleton]; omega), Lib.hid (by rw [treeCells_snoc, List.length_append, List.length_singleton]; exact ownsRow_setCell hown (by dsimp only; omega) _), Lib.hid (kg.set 0 _), Lib.hid (dg.other (by dsimp only; omega) _), Lib.hid (bg.setCell (by dsimp only; omega) _), by have := hgrow.size; simp at this ⊢; omega⟩
          case measure => omega
end Go.Proofs.YtpkjjiieglebbaaDoor

