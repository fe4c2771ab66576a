/- What StandKnown's walk wants: stands that are not valid, codes of errors, a region that draws. Conditions: as each says. (Written by wip/gen_known.py.) -/
import Derived.Test.YtpkjjiieglebbaaDoorTD
namespace Go.Proofs.YtpkjjiieglebbaaDoor
open Go Go.RowKit
set_option maxRecDepth 100000 in
set_option maxHeartbeats 1000000 in
theorem trees_box (w : World) :
    Calls Tryd.prog 49 #[] w fun e w' => ∃ B, e = .returned (.agg #[.slice (some ⟨B, 0, none⟩) 3 3, .int .i64 8, .int .i64 12, .int .i64 3, .int .i64 30]) ∧ w.heap.size ≤ B ∧ Box w' B #[.string ⟨#[97]⟩, .int .i64 0, .int .i64 0, .int .i64 900, .int .i64 920, .int .i64 40, .string ⟨#[98]⟩, .int .i64 30, .int .i64 0, .int .i64 1000, .int .i64 1000, .int .i64 30, .string ⟨#[99]⟩, .int .i64 60, .int .i64 0, .int .i64 700, .int .i64 760, .int .i64 50] 62 ∧ Below w.heap.size w w' := by
  have hB : Below w.heap.size w (w.alloc (.cells #[.slice none 0 0, .int .i64 0, .int .i64 0, .int .i64 0, .int .i64 0] 29)) := (Below.refl _ _).alloc (Nat.le_refl _) _
  have hR := Box.new w #[.slice none 0 0, .int .i64 0, .int .i64 0, .int .i64 0, .int .i64 0] 29
  go_enter Tryd.func49, Tryd.ntmps49
  go_wp2_with (go_at_call 50; refine (to_any _ _ _).mono ?_; rintro e w1 ⟨rfl, hb⟩; have hB := hB.trans (hb.mono (Nat.le_of_lt hR.lt)); have hR := hR.below hb hR.lt; have hA := hR.alloc (.cells #[.string ⟨#[97]⟩, .int .i64 0, .int .i64 0, .int .i64 900, .int .i64 920, .int .i64 40, .string ⟨#[98]⟩, .int .i64 30, .int .i64 0, .int .i64 1000, .int .i64 1000, .int .i64 30, .string ⟨#[99]⟩, .int .i64 60, .int .i64 0, .int .i64 700, .int .i64 760, .int .i64 50] 62); have c0 := hA.cell 0; have c1 := hA.cell 1; have c2 := hA.cell 2; have c3 := hA.cell 3; have c4 := hA.cell 4; have f0 := hA.free 0; have f1 := hA.free 1; have f2 := hA.free 2; have f3 := hA.free 3; have f4 := hA.free 4; simp only [List.getElem?_toArray, List.getElem?_cons_zero, List.getElem?_cons_succ] at c0 c1 c2 c3 c4; clear hb hA)
  have hlt := hR.lt
  have hA := hR.alloc (.cells #[.string ⟨#[97]⟩, .int .i64 0, .int .i64 0, .int .i64 900, .int .i64 920, .int .i64 40, .string ⟨#[98]⟩, .int .i64 30, .int .i64 0, .int .i64 1000, .int .i64 1000, .int .i64 30, .string ⟨#[99]⟩, .int .i64 60, .int .i64 0, .int .i64 700, .int .i64 760, .int .i64 50] 62)
  have hT := Box.new w1 #[.string ⟨#[97]⟩, .int .i64 0, .int .i64 0, .int .i64 900, .int .i64 920, .int .i64 40, .string ⟨#[98]⟩, .int .i64 30, .int .i64 0, .int .i64 1000, .int .i64 1000, .int .i64 30, .string ⟨#[99]⟩, .int .i64 60, .int .i64 0, .int .i64 700, .int .i64 760, .int .i64 50] 62
  have bR := put5.box hA (.slice (some ⟨w1.heap.size, 0, none⟩) 3 3) (.int .i64 8) (.int .i64 12) (.int .i64 3) (.int .i64 30)
  have r0 := bR.cell 0; have r1 := bR.cell 1; have r2 := bR.cell 2; have r3 := bR.cell 3; have r4 := bR.cell 4
  simp [put5] at r0 r1 r2 r3 r4
  refine bodyPost_ret (v := .agg #[.slice (some ⟨w1.heap.size, 0, none⟩) 3 3, .int .i64 8, .int .i64 12, .int .i64 3, .int .i64 30]) (by simp [results, Tryd.results49, go_sem, r0, r1, r2, r3, r4]) rfl ⟨w1.heap.size, rfl, by omega, put5.other hT (by omega) _ _ _ _ _, put5.below (hB.alloc (by omega) _) (Nat.le_refl _) _ _ _ _ _⟩
theorem tr3 {w : World} {B : Nat} {t u v : Tree} (h : Box w B #[.string t.tag, .int .i64 t.x, .int .i64 t.y, .int .i64 t.gl, .int .i64 t.gh, .int .i64 t.cr, .string u.tag, .int .i64 u.x, .int .i64 u.y, .int .i64 u.gl, .int .i64 u.gh, .int .i64 u.cr, .string v.tag, .int .i64 v.x, .int .i64 v.y, .int .i64 v.gl, .int .i64 v.gh, .int .i64 v.cr] 62) (ht : t.tag.size ≤ maxLen) (hu : u.tag.size ≤ maxLen) (hv : v.tag.size ≤ maxLen) : Trees w (some ⟨B, 0, none⟩) 3 3 [t, u, v] :=
  ⟨rfl, .inr ⟨B, 0, rfl, h.lt, fun i x hx => by
    match i, hx with
    | 0, hx => cases hx; exact ⟨h.cell 0, h.cell 1, h.cell 2, h.cell 3, h.cell 4, h.cell 5⟩
    | 1, hx => cases hx; exact ⟨h.cell 6, h.cell 7, h.cell 8, h.cell 9, h.cell 10, h.cell 11⟩
    | 2, hx => cases hx; exact ⟨h.cell 12, h.cell 13, h.cell 14, h.cell 15, h.cell 16, h.cell 17⟩
    | _ + 3, hx => cases hx⟩, fun x hx => by
    simp only [List.mem_cons, List.not_mem_nil, or_false] at hx
    rcases hx with rfl | rfl | rfl <;> assumption, by omega, Nat.le_refl _⟩
def zeroTree : Tree := ⟨⟨#[]⟩, 0, 0, 0, 0, 0⟩
theorem tr15 {w : World} {B : Nat} (h : Box w B (madeCells #[.string ⟨#[]⟩, .int .i64 0, .int .i64 0, .int .i64 0, .int .i64 0, .int .i64 0] 90) 62) : Trees w (some ⟨B, 0, none⟩) 15 15 (List.replicate 15 zeroTree) := by
  refine ⟨rfl, .inr ⟨B, 0, rfl, h.lt, fun i t ht => ?_⟩, fun t ht => ?_, by omega, Nat.le_refl _⟩
  · obtain ⟨hi, e⟩ := List.getElem?_eq_some_iff.1 ht
    rw [List.length_replicate] at hi
    rw [List.getElem_replicate] at e
    subst e
    have hc : ∀ c, c < 6 → w.cell? ⟨B, 0 + i * 6 + c, none⟩ = some (#[Value.string ⟨#[]⟩, .int .i64 0, .int .i64 0, .int .i64 0, .int .i64 0, .int .i64 0][c]!) := fun c hc => by
      rw [h.cell, Nat.zero_add]
      unfold madeCells
      rw [Array.getElem?_map, Array.getElem?_range, if_pos (by omega)]
      show some _ = _
      have e : (i * 6 + c) % (#[Value.string ⟨#[]⟩, .int .i64 0, .int .i64 0, .int .i64 0, .int .i64 0, .int .i64 0] : Array Value).size = c := by
        show (i * 6 + c) % 6 = c
        omega
      show some ((#[Value.string ⟨#[]⟩, .int .i64 0, .int .i64 0, .int .i64 0, .int .i64 0, .int .i64 0] : Array Value)[(i * 6 + c) % (#[Value.string ⟨#[]⟩, .int .i64 0, .int .i64 0, .int .i64 0, .int .i64 0, .int .i64 0] : Array Value).size]!) = _
      rw [e]
    exact ⟨hc 0 (by omega), hc 1 (by omega), hc 2 (by omega), hc 3 (by omega), hc 4 (by omega), hc 5 (by omega)⟩
  · rw [List.eq_of_mem_replicate ht]
    show (0 : Nat) ≤ maxLen
    omega
theorem box_ne {w : World} {B D : Nat} {cs ds : Array Value} {t u : TypeId} (h : Box w B cs t) (k : Box w D ds u) (hne : cs.size ≠ ds.size) : B ≠ D := by
  rintro rfl
  have := h.symm.trans k
  simp only [Option.some.injEq, Obj.cells.injEq] at this
  exact hne (by rw [this.1])
theorem infoTree0 : (Tryd.prog.info? 62).map (fun i => (i.zero, i.size, i.bytes)) = some (some (.agg #[.string ⟨#[]⟩, .int .i64 0, .int .i64 0, .int .i64 0, .int .i64 0, .int .i64 0]), 6, 56) := by kernel_rfl
def noL : List ByteArray := [⟨#[]⟩, ⟨#[65]⟩, ⟨#[49, 97]⟩, ⟨#[45, 97]⟩, ⟨#[97, 32, 98]⟩, ⟨#[97, 95, 98]⟩, ⟨#[97, 98, 99, 100, 101, 102, 103, 104, 105, 106, 107, 108, 109, 110, 111, 112, 113]⟩, ⟨#[195, 164]⟩]
theorem no_words : ∀ x ∈ noL, wordB x.data.toList = false ∧ x.size ≤ maxLen := by
  intro x hx
  simp only [noL, List.mem_cons, List.not_mem_nil, or_false] at hx
  rcases hx with rfl | rfl | rfl | rfl | rfl | rfl | rfl | rfl <;> exact ⟨by decide +kernel, by decide +kernel⟩
theorem bad_0 : checkE ⟨[⟨⟨#[97]⟩, 0, 0, 900, 920, 40⟩, ⟨⟨#[98]⟩, 30, 0, 1000, 1000, 30⟩, ⟨⟨#[99]⟩, 60, 0, 700, 760, 50⟩], 9, 8, 3, 30⟩ = 10 := by
  have h : standB ⟨[⟨⟨#[97]⟩, 0, 0, 900, 920, 40⟩, ⟨⟨#[98]⟩, 30, 0, 1000, 1000, 30⟩, ⟨⟨#[99]⟩, 60, 0, 700, 760, 50⟩], 9, 8, 3, 30⟩ = false := by
    simp only [standB, headB]
    decide +kernel
  unfold checkE; rw [h]; rfl
theorem bad_1 : checkE ⟨[⟨⟨#[97]⟩, 0, 0, 900, 920, 40⟩, ⟨⟨#[97]⟩, 30, 0, 1000, 1000, 30⟩, ⟨⟨#[99]⟩, 60, 0, 700, 760, 50⟩], 8, 12, 3, 30⟩ = 10 := by
  have h : standB ⟨[⟨⟨#[97]⟩, 0, 0, 900, 920, 40⟩, ⟨⟨#[97]⟩, 30, 0, 1000, 1000, 30⟩, ⟨⟨#[99]⟩, 60, 0, 700, 760, 50⟩], 8, 12, 3, 30⟩ = false := by
    simp only [standB, headB]
    decide +kernel
  unfold checkE; rw [h]; rfl
theorem bad_2 : checkE ⟨[⟨⟨#[97]⟩, 0, 0, 900, 920, 40⟩, ⟨⟨#[98]⟩, 0, 0, 1000, 1000, 30⟩, ⟨⟨#[99]⟩, 60, 0, 700, 760, 50⟩], 8, 12, 3, 30⟩ = 10 := by
  have h : standB ⟨[⟨⟨#[97]⟩, 0, 0, 900, 920, 40⟩, ⟨⟨#[98]⟩, 0, 0, 1000, 1000, 30⟩, ⟨⟨#[99]⟩, 60, 0, 700, 760, 50⟩], 8, 12, 3, 30⟩ = false := by
    simp only [standB, headB]
    decide +kernel
  unfold checkE; rw [h]; rfl
theorem bad_3 : checkE ⟨[⟨⟨#[97]⟩, 0, 0, 900, 920, 40⟩, ⟨⟨#[98]⟩, 30, 0, 1000, 1000, 30⟩, ⟨⟨#[99]⟩, 60, 0, 0, 5, 50⟩], 8, 12, 3, 30⟩ = 10 := by
  have h : standB ⟨[⟨⟨#[97]⟩, 0, 0, 900, 920, 40⟩, ⟨⟨#[98]⟩, 30, 0, 1000, 1000, 30⟩, ⟨⟨#[99]⟩, 60, 0, 0, 5, 50⟩], 8, 12, 3, 30⟩ = false := by
    simp only [standB, headB]
    decide +kernel
  unfold checkE; rw [h]; rfl
theorem bad_4 : checkE ⟨[⟨⟨#[97]⟩, 0, 0, 900, 920, 101⟩, ⟨⟨#[98]⟩, 30, 0, 1000, 1000, 30⟩, ⟨⟨#[99]⟩, 60, 0, 700, 760, 50⟩], 8, 12, 3, 30⟩ = 10 := by
  have h : standB ⟨[⟨⟨#[97]⟩, 0, 0, 900, 920, 101⟩, ⟨⟨#[98]⟩, 30, 0, 1000, 1000, 30⟩, ⟨⟨#[99]⟩, 60, 0, 700, 760, 50⟩], 8, 12, 3, 30⟩ = false := by
    simp only [standB, headB]
    decide +kernel
  unfold checkE; rw [h]; rfl
theorem bad_5 : checkE ⟨[⟨⟨#[97]⟩, 0, 0, 900, 920, 40⟩, ⟨⟨#[98]⟩, 30, 0, 1000, 1000, 30⟩, ⟨⟨#[99]⟩, 60, 0, 700, 760, 50⟩], 8, 12, 3, (-1)⟩ = 10 := by
  have h : standB ⟨[⟨⟨#[97]⟩, 0, 0, 900, 920, 40⟩, ⟨⟨#[98]⟩, 30, 0, 1000, 1000, 30⟩, ⟨⟨#[99]⟩, 60, 0, 700, 760, 50⟩], 8, 12, 3, (-1)⟩ = false := by
    simp only [standB, headB]
    decide +kernel
  unfold checkE; rw [h]; rfl
theorem bad_6 : checkE ⟨(List.replicate 15 zeroTree), 0, 0, 0, 0⟩ = 10 := by
  have h : standB ⟨(List.replicate 15 zeroTree), 0, 0, 0, 0⟩ = false := by
    simp only [standB, headB]
    decide +kernel
  unfold checkE; rw [h]; rfl
theorem near_code (a : Option Addr) (n c : Nat) (ts : List Tree) (lo hi pr ne k E : Int) (w : World) (hT : Trees w a n c ts) (h : nearE ⟨ts, lo, hi, pr, ne⟩ k = E) :
    Calls Tryd.prog 15 #[.agg #[.slice a n c, .int .i64 lo, .int .i64 hi, .int .i64 pr, .int .i64 ne], .int .i64 k] w fun e w' => ∃ v, e = .returned (.tuple #[v, .int .i64 E]) ∧ Below w.heap.size w w' := by
  refine (callsIn_wide.1 (near_in 6 (by omega) a n c ts lo hi pr ne k w hT)).mono ?_
  rintro e w' ⟨v, rfl, _, hb⟩
  rw [h]
  exact ⟨v, rfl, hb⟩
theorem thin_code (a : Option Addr) (n c : Nat) (ts : List Tree) (lo hi pr ne k E : Int) (w : World) (hT : Trees w a n c ts) (h : thinE ⟨ts, lo, hi, pr, ne⟩ k = E) :
    Calls Tryd.prog 31 #[.agg #[.slice a n c, .int .i64 lo, .int .i64 hi, .int .i64 pr, .int .i64 ne], .int .i64 k] w fun e w' => ∃ v y, e = .returned (.tuple #[v, .int .i64 y, .int .i64 E]) ∧ Below w.heap.size w w' := by
  refine (thin_any a n c ts lo hi pr ne k w hT).mono ?_
  rintro e w' ⟨v, rfl, _, hb⟩
  rw [h]
  exact ⟨v, _, rfl, hb⟩
theorem print_code (a : Option Addr) (n c : Nat) (ts : List Tree) (lo hi pr ne E : Int) (w : World) (hT : Trees w a n c ts) (hP : Tab w) (h : checkE ⟨ts, lo, hi, pr, ne⟩ = E) :
    Calls Tryd.prog 39 #[.agg #[.slice a n c, .int .i64 lo, .int .i64 hi, .int .i64 pr, .int .i64 ne]] w fun e w' => ∃ y, e = .returned (.tuple #[.string y, .int .i64 E]) ∧ Below w.heap.size w w' := by
  refine (print_any a n c ts lo hi pr ne w hT hP).mono ?_
  rintro e w' ⟨rfl, hb⟩
  rw [h]
  exact ⟨_, rfl, hb⟩
theorem ready_code (ra rb rc rr : Int) (a : Option Addr) (n c : Nat) (ts : List Tree) (lo hi pr ne k y E : Int) (w : World) (hT : Trees w a n c ts) (h : readyE ⟨ra, rb, rc, rr⟩ ⟨ts, lo, hi, pr, ne⟩ k y = E) :
    Calls Tryd.prog 29 #[.agg #[.int .i64 ra, .int .i64 rb, .int .i64 rc, .int .i64 rr], .agg #[.slice a n c, .int .i64 lo, .int .i64 hi, .int .i64 pr, .int .i64 ne], .int .i64 k, .int .i64 y] w fun e w' => ∃ p q, e = .returned (.tuple #[.agg #[.int .i64 p, .int .i64 q], .int .i64 E]) ∧ Below w.heap.size w w' := by
  refine (ready_any ra rb rc rr a n c ts lo hi pr ne k y w hT).mono ?_
  rintro e w' ⟨rfl, hb⟩
  rw [h]
  exact ⟨_, _, rfl, hb⟩
theorem faces_code (ra rb rc rr : Int) (a : Option Addr) (n c : Nat) (ts : List Tree) (lo hi pr ne k y E : Int) (w : World) (hT : Trees w a n c ts) (h : facesE ⟨ra, rb, rc, rr⟩ ⟨ts, lo, hi, pr, ne⟩ k y = E) :
    Calls Tryd.prog 27 #[.agg #[.int .i64 ra, .int .i64 rb, .int .i64 rc, .int .i64 rr], .agg #[.slice a n c, .int .i64 lo, .int .i64 hi, .int .i64 pr, .int .i64 ne], .int .i64 k, .int .i64 y] w fun e w' => ∃ p q, e = .returned (.tuple #[.agg #[.int .i64 p, .int .i64 q], .int .i64 E]) ∧ Below w.heap.size w w' := by
  refine (faces_any ra rb rc rr a n c ts lo hi pr ne k y w hT).mono ?_
  rintro e w' ⟨rfl, hb⟩
  rw [h]
  exact ⟨_, _, rfl, hb⟩
theorem girth_code (a : Option Addr) (n c : Nat) (ts : List Tree) (lo hi pr ne k y E : Int) (w : World) (hT : Trees w a n c ts) (h : girthE ⟨ts, lo, hi, pr, ne⟩ k y = E) :
    Calls Tryd.prog 25 #[.agg #[.slice a n c, .int .i64 lo, .int .i64 hi, .int .i64 pr, .int .i64 ne], .int .i64 k, .int .i64 y] w fun e w' => ∃ p q, e = .returned (.tuple #[.agg #[.int .i64 p, .int .i64 q], .int .i64 E]) ∧ Below w.heap.size w w' := by
  refine (girth_any a n c ts lo hi pr ne k y w hT).mono ?_
  rintro e w' ⟨rfl, hb⟩
  rw [h]
  exact ⟨_, _, rfl, hb⟩
theorem left_code (a ka : Option Addr) (n c kn kc : Nat) (ts : List Tree) (l : List Int) (lo hi pr ne E : Int) (w : World) (hT : Trees w a n c ts) (hl : ∀ x ∈ l, -9223372036854775808 ≤ x ∧ x ≤ 9223372036854775807) (hm : kn ≤ maxLen) (hK : IntsAt w ka kn l) (h : leftE ⟨ts, lo, hi, pr, ne⟩ l = E) :
    Calls Tryd.prog 33 #[.agg #[.slice a n c, .int .i64 lo, .int .i64 hi, .int .i64 pr, .int .i64 ne], .slice ka kn kc] w fun e w' => ∃ a' n' c' p q r s, e = .returned (.tuple #[.agg #[.slice a' n' c', .int .i64 p, .int .i64 q, .int .i64 r, .int .i64 s], .int .i64 E]) ∧ Below w.heap.size w w' := by
  refine (left_any a ka n c kn kc ts l lo hi pr ne w hT hl hm hK).mono ?_
  rintro e w' ⟨a', n', c', rfl, _, hb⟩
  rw [h]
  exact ⟨a', n', c', _, _, _, _, rfl, hb⟩
def badGood (m : Nat) (vs : Nat → Value) : Nat → World → Prop
  | 0, w => ∃ B, vs 0 = (fun B : Nat => Value.agg #[.slice (some ⟨B, 0, none⟩) 3 3, .int .i64 8, .int .i64 12, .int .i64 3, .int .i64 30]) B ∧ m ≤ B ∧ Box w B #[.string ⟨#[97]⟩, .int .i64 0, .int .i64 0, .int .i64 900, .int .i64 920, .int .i64 40, .string ⟨#[98]⟩, .int .i64 30, .int .i64 0, .int .i64 1000, .int .i64 1000, .int .i64 30, .string ⟨#[99]⟩, .int .i64 60, .int .i64 0, .int .i64 700, .int .i64 760, .int .i64 50] 62
  | 1, w => ∃ B D, vs 1 = (fun B : Nat => Value.agg #[.slice (some ⟨B, 0, none⟩) 3 3, .int .i64 8, .int .i64 12, .int .i64 3, .int .i64 30]) B ∧ vs 0 = (fun B : Nat => Value.agg #[.slice (some ⟨B, 0, none⟩) 3 3, .int .i64 8, .int .i64 12, .int .i64 3, .int .i64 30]) D ∧ D < B ∧ m ≤ B ∧ Box w B #[.string ⟨#[97]⟩, .int .i64 0, .int .i64 0, .int .i64 900, .int .i64 920, .int .i64 40, .string ⟨#[98]⟩, .int .i64 30, .int .i64 0, .int .i64 1000, .int .i64 1000, .int .i64 30, .string ⟨#[99]⟩, .int .i64 60, .int .i64 0, .int .i64 700, .int .i64 760, .int .i64 50] 62
  | 2, w => ∃ B D, vs 2 = (fun B : Nat => Value.agg #[.slice (some ⟨B, 0, none⟩) 3 3, .int .i64 8, .int .i64 12, .int .i64 3, .int .i64 30]) B ∧ vs 1 = (fun B : Nat => Value.agg #[.slice (some ⟨B, 0, none⟩) 3 3, .int .i64 8, .int .i64 12, .int .i64 3, .int .i64 30]) D ∧ D < B ∧ m ≤ B ∧ Box w B #[.string ⟨#[97]⟩, .int .i64 0, .int .i64 0, .int .i64 900, .int .i64 920, .int .i64 40, .string ⟨#[98]⟩, .int .i64 30, .int .i64 0, .int .i64 1000, .int .i64 1000, .int .i64 30, .string ⟨#[99]⟩, .int .i64 60, .int .i64 0, .int .i64 700, .int .i64 760, .int .i64 50] 62
  | 3, w => ∃ B D, vs 3 = (fun B : Nat => Value.agg #[.slice (some ⟨B, 0, none⟩) 3 3, .int .i64 8, .int .i64 12, .int .i64 3, .int .i64 30]) B ∧ vs 2 = (fun B : Nat => Value.agg #[.slice (some ⟨B, 0, none⟩) 3 3, .int .i64 8, .int .i64 12, .int .i64 3, .int .i64 30]) D ∧ D < B ∧ m ≤ B ∧ Box w B #[.string ⟨#[97]⟩, .int .i64 0, .int .i64 0, .int .i64 900, .int .i64 920, .int .i64 40, .string ⟨#[98]⟩, .int .i64 30, .int .i64 0, .int .i64 1000, .int .i64 1000, .int .i64 30, .string ⟨#[99]⟩, .int .i64 60, .int .i64 0, .int .i64 700, .int .i64 760, .int .i64 50] 62
  | 4, w => ∃ B D, vs 4 = (fun B : Nat => Value.agg #[.slice (some ⟨B, 0, none⟩) 3 3, .int .i64 8, .int .i64 12, .int .i64 3, .int .i64 30]) B ∧ vs 3 = (fun B : Nat => Value.agg #[.slice (some ⟨B, 0, none⟩) 3 3, .int .i64 8, .int .i64 12, .int .i64 3, .int .i64 30]) D ∧ D < B ∧ m ≤ B ∧ Box w B #[.string ⟨#[97]⟩, .int .i64 0, .int .i64 0, .int .i64 900, .int .i64 920, .int .i64 40, .string ⟨#[98]⟩, .int .i64 30, .int .i64 0, .int .i64 1000, .int .i64 1000, .int .i64 30, .string ⟨#[99]⟩, .int .i64 60, .int .i64 0, .int .i64 700, .int .i64 760, .int .i64 50] 62
  | 5, w => ∃ B D, vs 5 = (fun B : Nat => Value.agg #[.slice (some ⟨B, 0, none⟩) 3 3, .int .i64 8, .int .i64 12, .int .i64 3, .int .i64 30]) B ∧ vs 4 = (fun B : Nat => Value.agg #[.slice (some ⟨B, 0, none⟩) 3 3, .int .i64 8, .int .i64 12, .int .i64 3, .int .i64 30]) D ∧ D < B ∧ m ≤ B ∧ Box w B #[.string ⟨#[97]⟩, .int .i64 0, .int .i64 0, .int .i64 900, .int .i64 920, .int .i64 40, .string ⟨#[98]⟩, .int .i64 30, .int .i64 0, .int .i64 1000, .int .i64 1000, .int .i64 30, .string ⟨#[99]⟩, .int .i64 60, .int .i64 0, .int .i64 700, .int .i64 760, .int .i64 50] 62
  | 6, w => ∃ B, vs 6 = .slice (some ⟨B, 0, none⟩) 15 15 ∧ Box w B (madeCells #[.string ⟨#[]⟩, .int .i64 0, .int .i64 0, .int .i64 0, .int .i64 0, .int .i64 0] 90) 62
  | 7, w => ∃ B, vs 7 = .agg #[.slice (some ⟨B, 0, none⟩) 15 15, .int .i64 0, .int .i64 0, .int .i64 0, .int .i64 0] ∧ Box w B (madeCells #[.string ⟨#[]⟩, .int .i64 0, .int .i64 0, .int .i64 0, .int .i64 0, .int .i64 0] 90) 62
  | 8, w => ∃ G B0 B1 B2 B3 B4 B5 B6, vs 8 = .slice (some ⟨G, 0, none⟩) 7 7 ∧ Box w G #[.slice (some ⟨B0, 0, none⟩) 3 3, .int .i64 8, .int .i64 12, .int .i64 3, .int .i64 30, .slice (some ⟨B1, 0, none⟩) 3 3, .int .i64 8, .int .i64 12, .int .i64 3, .int .i64 30, .slice (some ⟨B2, 0, none⟩) 3 3, .int .i64 8, .int .i64 12, .int .i64 3, .int .i64 30, .slice (some ⟨B3, 0, none⟩) 3 3, .int .i64 8, .int .i64 12, .int .i64 3, .int .i64 30, .slice (some ⟨B4, 0, none⟩) 3 3, .int .i64 8, .int .i64 12, .int .i64 3, .int .i64 30, .slice (some ⟨B5, 0, none⟩) 3 3, .int .i64 8, .int .i64 12, .int .i64 3, .int .i64 30, .slice (some ⟨B6, 0, none⟩) 15 15, .int .i64 0, .int .i64 0, .int .i64 0, .int .i64 0] 29 ∧ (B0 < B1 ∧ B1 < B2 ∧ B2 < B3 ∧ B3 < B4 ∧ B4 < B5 ∧ m ≤ B0 ∧ m ≤ G) ∧ Box w B0 #[.string ⟨#[97]⟩, .int .i64 0, .int .i64 0, .int .i64 900, .int .i64 920, .int .i64 40, .string ⟨#[98]⟩, .int .i64 30, .int .i64 0, .int .i64 1000, .int .i64 1000, .int .i64 30, .string ⟨#[99]⟩, .int .i64 60, .int .i64 0, .int .i64 700, .int .i64 760, .int .i64 50] 62 ∧ Box w B1 #[.string ⟨#[97]⟩, .int .i64 0, .int .i64 0, .int .i64 900, .int .i64 920, .int .i64 40, .string ⟨#[98]⟩, .int .i64 30, .int .i64 0, .int .i64 1000, .int .i64 1000, .int .i64 30, .string ⟨#[99]⟩, .int .i64 60, .int .i64 0, .int .i64 700, .int .i64 760, .int .i64 50] 62 ∧ Box w B2 #[.string ⟨#[97]⟩, .int .i64 0, .int .i64 0, .int .i64 900, .int .i64 920, .int .i64 40, .string ⟨#[98]⟩, .int .i64 30, .int .i64 0, .int .i64 1000, .int .i64 1000, .int .i64 30, .string ⟨#[99]⟩, .int .i64 60, .int .i64 0, .int .i64 700, .int .i64 760, .int .i64 50] 62 ∧ Box w B3 #[.string ⟨#[97]⟩, .int .i64 0, .int .i64 0, .int .i64 900, .int .i64 920, .int .i64 40, .string ⟨#[98]⟩, .int .i64 30, .int .i64 0, .int .i64 1000, .int .i64 1000, .int .i64 30, .string ⟨#[99]⟩, .int .i64 60, .int .i64 0, .int .i64 700, .int .i64 760, .int .i64 50] 62 ∧ Box w B4 #[.string ⟨#[97]⟩, .int .i64 0, .int .i64 0, .int .i64 900, .int .i64 920, .int .i64 40, .string ⟨#[98]⟩, .int .i64 30, .int .i64 0, .int .i64 1000, .int .i64 1000, .int .i64 30, .string ⟨#[99]⟩, .int .i64 60, .int .i64 0, .int .i64 700, .int .i64 760, .int .i64 50] 62 ∧ Box w B5 #[.string ⟨#[97]⟩, .int .i64 0, .int .i64 0, .int .i64 900, .int .i64 920, .int .i64 40, .string ⟨#[98]⟩, .int .i64 30, .int .i64 0, .int .i64 1000, .int .i64 1000, .int .i64 30, .string ⟨#[99]⟩, .int .i64 60, .int .i64 0, .int .i64 700, .int .i64 760, .int .i64 50] 62 ∧ Box w B6 (madeCells #[.string ⟨#[]⟩, .int .i64 0, .int .i64 0, .int .i64 0, .int .i64 0, .int .i64 0] 90) 62
  | 9, w => ∃ G B0 B1 B2 B3 B4 B5 B6, vs 9 = .slice (some ⟨G, 0, none⟩) 7 7 ∧ Box w G #[.slice (some ⟨B0, 0, none⟩) 3 3, .int .i64 8, .int .i64 12, .int .i64 3, .int .i64 30, .slice (some ⟨B1, 0, none⟩) 3 3, .int .i64 8, .int .i64 12, .int .i64 3, .int .i64 30, .slice (some ⟨B2, 0, none⟩) 3 3, .int .i64 8, .int .i64 12, .int .i64 3, .int .i64 30, .slice (some ⟨B3, 0, none⟩) 3 3, .int .i64 8, .int .i64 12, .int .i64 3, .int .i64 30, .slice (some ⟨B4, 0, none⟩) 3 3, .int .i64 8, .int .i64 12, .int .i64 3, .int .i64 30, .slice (some ⟨B5, 0, none⟩) 3 3, .int .i64 8, .int .i64 12, .int .i64 3, .int .i64 30, .slice (some ⟨B6, 0, none⟩) 15 15, .int .i64 0, .int .i64 0, .int .i64 0, .int .i64 0] 29 ∧ (B0 < B1 ∧ B1 < B2 ∧ B2 < B3 ∧ B3 < B4 ∧ B4 < B5 ∧ m ≤ B0 ∧ m ≤ G) ∧ Box w B0 #[.string ⟨#[97]⟩, .int .i64 0, .int .i64 0, .int .i64 900, .int .i64 920, .int .i64 40, .string ⟨#[98]⟩, .int .i64 30, .int .i64 0, .int .i64 1000, .int .i64 1000, .int .i64 30, .string ⟨#[99]⟩, .int .i64 60, .int .i64 0, .int .i64 700, .int .i64 760, .int .i64 50] 62 ∧ Box w B1 #[.string ⟨#[97]⟩, .int .i64 0, .int .i64 0, .int .i64 900, .int .i64 920, .int .i64 40, .string ⟨#[98]⟩, .int .i64 30, .int .i64 0, .int .i64 1000, .int .i64 1000, .int .i64 30, .string ⟨#[99]⟩, .int .i64 60, .int .i64 0, .int .i64 700, .int .i64 760, .int .i64 50] 62 ∧ Box w B2 #[.string ⟨#[97]⟩, .int .i64 0, .int .i64 0, .int .i64 900, .int .i64 920, .int .i64 40, .string ⟨#[98]⟩, .int .i64 30, .int .i64 0, .int .i64 1000, .int .i64 1000, .int .i64 30, .string ⟨#[99]⟩, .int .i64 60, .int .i64 0, .int .i64 700, .int .i64 760, .int .i64 50] 62 ∧ Box w B3 #[.string ⟨#[97]⟩, .int .i64 0, .int .i64 0, .int .i64 900, .int .i64 920, .int .i64 40, .string ⟨#[98]⟩, .int .i64 30, .int .i64 0, .int .i64 1000, .int .i64 1000, .int .i64 30, .string ⟨#[99]⟩, .int .i64 60, .int .i64 0, .int .i64 700, .int .i64 760, .int .i64 50] 62 ∧ Box w B4 #[.string ⟨#[97]⟩, .int .i64 0, .int .i64 0, .int .i64 900, .int .i64 920, .int .i64 40, .string ⟨#[98]⟩, .int .i64 30, .int .i64 0, .int .i64 1000, .int .i64 1000, .int .i64 30, .string ⟨#[99]⟩, .int .i64 60, .int .i64 0, .int .i64 700, .int .i64 760, .int .i64 50] 62 ∧ Box w B5 #[.string ⟨#[97]⟩, .int .i64 0, .int .i64 0, .int .i64 900, .int .i64 920, .int .i64 40, .string ⟨#[98]⟩, .int .i64 30, .int .i64 0, .int .i64 1000, .int .i64 1000, .int .i64 30, .string ⟨#[99]⟩, .int .i64 60, .int .i64 0, .int .i64 700, .int .i64 760, .int .i64 50] 62 ∧ Box w B6 (madeCells #[.string ⟨#[]⟩, .int .i64 0, .int .i64 0, .int .i64 0, .int .i64 0, .int .i64 0] 90) 62
  | _, _ => True
theorem badGood_mono (m : Nat) (vs : Nat → Value) (i : Nat) (w w' : World) (h : badGood m vs i w) (hb : Below w.heap.size w w') : badGood m vs i w' := by
  match i, h with
  | 0, h => obtain ⟨B, e, q, b⟩ := h; exact ⟨B, e, q, b.below hb b.lt⟩
  | 1, h => obtain ⟨B, D, e, e', l, q, b⟩ := h; exact ⟨B, D, e, e', l, q, b.below hb b.lt⟩
  | 2, h => obtain ⟨B, D, e, e', l, q, b⟩ := h; exact ⟨B, D, e, e', l, q, b.below hb b.lt⟩
  | 3, h => obtain ⟨B, D, e, e', l, q, b⟩ := h; exact ⟨B, D, e, e', l, q, b.below hb b.lt⟩
  | 4, h => obtain ⟨B, D, e, e', l, q, b⟩ := h; exact ⟨B, D, e, e', l, q, b.below hb b.lt⟩
  | 5, h => obtain ⟨B, D, e, e', l, q, b⟩ := h; exact ⟨B, D, e, e', l, q, b.below hb b.lt⟩
  | 6, h => obtain ⟨B, e, b⟩ := h; exact ⟨B, e, b.below hb b.lt⟩
  | 7, h => obtain ⟨B, e, b⟩ := h; exact ⟨B, e, b.below hb b.lt⟩
  | 8, h => obtain ⟨G, B0, B1, B2, B3, B4, B5, B6, e, b, l, b0, b1, b2, b3, b4, b5, b6⟩ := h; exact ⟨G, B0, B1, B2, B3, B4, B5, B6, e, b.below hb b.lt, l, b0.below hb b0.lt, b1.below hb b1.lt, b2.below hb b2.lt, b3.below hb b3.lt, b4.below hb b4.lt, b5.below hb b5.lt, b6.below hb b6.lt⟩
  | 9, h => obtain ⟨G, B0, B1, B2, B3, B4, B5, B6, e, b, l, b0, b1, b2, b3, b4, b5, b6⟩ := h; exact ⟨G, B0, B1, B2, B3, B4, B5, B6, e, b.below hb b.lt, l, b0.below hb b0.lt, b1.below hb b1.lt, b2.below hb b2.lt, b3.below hb b3.lt, b4.below hb b4.lt, b5.below hb b5.lt, b6.below hb b6.lt⟩
  | _ + 10, _ => trivial
end Go.Proofs.YtpkjjiieglebbaaDoor
