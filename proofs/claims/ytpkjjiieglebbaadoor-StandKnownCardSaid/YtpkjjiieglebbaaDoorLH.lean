/- Contracts of the laws' small helpers: to, trees, rule, acts. Conditions: none. -/
import Derived.Test.YtpkjjiieglebbaaDoorR1
import Derived.Test.YtpkjjiieglebbaaDoorFO
import Derived.Test.YtpkjjiieglebbaaDoorPR
namespace Go.Proofs.YtpkjjiieglebbaaDoor
open Go Go.RowKit
theorem to_any (x y : Int) (w : World) :
    Calls Tryd.prog 50 #[.int .i64 x, .int .i64 y] w fun e w' => e = .returned (.agg #[.int .i64 x, .int .i64 y]) ∧ Below w.heap.size w w' := by
  go_enter Tryd.func50, Tryd.ntmps50
  go_wp2_with fail
  refine bodyPost_ret (v := .agg #[.int .i64 x, .int .i64 y]) (by simp [results, Tryd.results50, go_sem]) rfl ⟨rfl, ?_⟩
  exact (Below.refl _ _).alloc (Nat.le_refl _) _
theorem rule_any (w : World) :
    Calls Tryd.prog 51 #[] w fun e w' => e = .returned (.agg #[.int .i64 950, .int .i64 1300, .int .i64 1700, .int .i64 35]) ∧ Below w.heap.size w w' := by
  go_enter Tryd.func51, Tryd.ntmps51
  go_wp2_with fail
  refine bodyPost_ret (v := .agg #[.int .i64 950, .int .i64 1300, .int .i64 1700, .int .i64 35]) (by simp [results, Tryd.results51, go_sem]) rfl ⟨rfl, ?_⟩
  exact (Below.refl _ _).alloc (Nat.le_refl _) _
def exT : List Tree := [⟨⟨#[97]⟩, 0, 0, 900, 920, 40⟩, ⟨⟨#[98]⟩, 30, 0, 1000, 1000, 30⟩, ⟨⟨#[99]⟩, 60, 0, 700, 760, 50⟩]
def exC : Array Value := #[.string ⟨#[97]⟩, .int .i64 0, .int .i64 0, .int .i64 900, .int .i64 920, .int .i64 40, .string ⟨#[98]⟩, .int .i64 30, .int .i64 0, .int .i64 1000, .int .i64 1000, .int .i64 30, .string ⟨#[99]⟩, .int .i64 60, .int .i64 0, .int .i64 700, .int .i64 760, .int .i64 50]
theorem exT_at {w : World} {B : Nat} (h : Box w B exC 62) : TreesAt w B 0 exT := fun i t ht => by
  match i, ht with
  | 0, ht => cases ht; exact ⟨h.cell 0, h.cell 1, h.cell 2, h.cell 3, h.cell 4, h.cell 5⟩
  | 1, ht => cases ht; exact ⟨h.cell 6, h.cell 7, h.cell 8, h.cell 9, h.cell 10, h.cell 11⟩
  | 2, ht => cases ht; exact ⟨h.cell 12, h.cell 13, h.cell 14, h.cell 15, h.cell 16, h.cell 17⟩
  | _ + 3, ht => cases ht
theorem exT_trees {w : World} {B : Nat} (h : Box w B exC 62) : Trees w (some ⟨B, 0, none⟩) 3 3 exT :=
  ⟨rfl, .inr ⟨B, 0, rfl, h.lt, exT_at h⟩, fun t ht => by
    simp only [exT, List.mem_cons, List.not_mem_nil, or_false] at ht
    rcases ht with rfl | rfl | rfl <;> (show (1 : Nat) ≤ maxLen; unfold maxLen; omega), by omega, Nat.le_refl _⟩
set_option maxRecDepth 100000 in
set_option maxHeartbeats 1000000 in
theorem trees_any (w : World) :
    Calls Tryd.prog 49 #[] w fun e w' => ∃ B, e = .returned (.agg #[.slice (some ⟨B, 0, none⟩) 3 3, .int .i64 8, .int .i64 12, .int .i64 3, .int .i64 30]) ∧ Trees w' (some ⟨B, 0, none⟩) 3 3 exT ∧ Below w.heap.size w w' := by
  have hB : Below w.heap.size w (w.alloc (.cells #[.slice none 0 0, .int .i64 0, .int .i64 0, .int .i64 0, .int .i64 0] 29)) := (Below.refl _ _).alloc (Nat.le_refl _) _
  have hR := Box.new w #[.slice none 0 0, .int .i64 0, .int .i64 0, .int .i64 0, .int .i64 0] 29
  go_enter Tryd.func49, Tryd.ntmps49
  go_wp2_with (go_at_call 50; refine (to_any _ _ _).mono ?_; rintro e w1 ⟨rfl, hb⟩; have hB := hB.trans (hb.mono (Nat.le_of_lt hR.lt)); have hR := hR.below hb hR.lt; have hA := hR.alloc (.cells #[.string ⟨#[97]⟩, .int .i64 0, .int .i64 0, .int .i64 900, .int .i64 920, .int .i64 40, .string ⟨#[98]⟩, .int .i64 30, .int .i64 0, .int .i64 1000, .int .i64 1000, .int .i64 30, .string ⟨#[99]⟩, .int .i64 60, .int .i64 0, .int .i64 700, .int .i64 760, .int .i64 50] 62); have c0 := hA.cell 0; have c1 := hA.cell 1; have c2 := hA.cell 2; have c3 := hA.cell 3; have c4 := hA.cell 4; have f0 := hA.free 0; have f1 := hA.free 1; have f2 := hA.free 2; have f3 := hA.free 3; have f4 := hA.free 4; simp only [List.getElem?_toArray, List.getElem?_cons_zero, List.getElem?_cons_succ] at c0 c1 c2 c3 c4; clear hb hA)
  have hlt := hR.lt
  have hA := hR.alloc (.cells #[.string ⟨#[97]⟩, .int .i64 0, .int .i64 0, .int .i64 900, .int .i64 920, .int .i64 40, .string ⟨#[98]⟩, .int .i64 30, .int .i64 0, .int .i64 1000, .int .i64 1000, .int .i64 30, .string ⟨#[99]⟩, .int .i64 60, .int .i64 0, .int .i64 700, .int .i64 760, .int .i64 50] 62)
  have hT := Box.new w1 #[.string ⟨#[97]⟩, .int .i64 0, .int .i64 0, .int .i64 900, .int .i64 920, .int .i64 40, .string ⟨#[98]⟩, .int .i64 30, .int .i64 0, .int .i64 1000, .int .i64 1000, .int .i64 30, .string ⟨#[99]⟩, .int .i64 60, .int .i64 0, .int .i64 700, .int .i64 760, .int .i64 50] 62
  have bR := put5.box hA (.slice (some ⟨w1.heap.size, 0, none⟩) 3 3) (.int .i64 8) (.int .i64 12) (.int .i64 3) (.int .i64 30)
  have r0 := bR.cell 0; have r1 := bR.cell 1; have r2 := bR.cell 2; have r3 := bR.cell 3; have r4 := bR.cell 4
  simp [put5] at r0 r1 r2 r3 r4
  refine bodyPost_ret (v := .agg #[.slice (some ⟨w1.heap.size, 0, none⟩) 3 3, .int .i64 8, .int .i64 12, .int .i64 3, .int .i64 30]) (by simp [results, Tryd.results49, go_sem, r0, r1, r2, r3, r4]) rfl ⟨w1.heap.size, rfl, exT_trees (put5.other hT (by omega) _ _ _ _ _), put5.below (hB.alloc (by omega) _) (Nat.le_refl _) _ _ _ _ _⟩
set_option maxHeartbeats 1000000 in
theorem acts_any (w : World) :
    Calls Tryd.prog 67 #[] w fun e w' => e = .returned (.slice (some ⟨w.heap.size, 0, none⟩) 5 5) ∧ Acts w' (some ⟨w.heap.size, 0, none⟩) 5 [⟨0, ⟨#[120]⟩, 1⟩, ⟨1000, ⟨#[120]⟩, 2⟩, ⟨1200, ⟨#[120]⟩, 3⟩, ⟨1500, ⟨#[120]⟩, 5⟩, ⟨1500, ⟨#[120]⟩, 1⟩] ∧ Below w.heap.size w w' := by
  go_enter Tryd.func67, Tryd.ntmps67
  go_wp2_with fail
  go_ret
  refine ⟨rfl, ⟨rfl, .inr ⟨_, 0, rfl, by simp, fun i t ht => ?_⟩, fun t ht => ?_, by omega⟩, (Below.refl _ _).alloc (Nat.le_refl _) _⟩
  · have h := Box.new w #[.int .i64 0, .string ⟨#[120]⟩, .int .i64 1, .int .i64 1000, .string ⟨#[120]⟩, .int .i64 2, .int .i64 1200, .string ⟨#[120]⟩, .int .i64 3, .int .i64 1500, .string ⟨#[120]⟩, .int .i64 5, .int .i64 1500, .string ⟨#[120]⟩, .int .i64 1] 70
    match i, ht with
    | 0, ht => cases ht; exact ⟨h.cell 0, h.cell 1, h.cell 2⟩
    | 1, ht => cases ht; exact ⟨h.cell 3, h.cell 4, h.cell 5⟩
    | 2, ht => cases ht; exact ⟨h.cell 6, h.cell 7, h.cell 8⟩
    | 3, ht => cases ht; exact ⟨h.cell 9, h.cell 10, h.cell 11⟩
    | 4, ht => cases ht; exact ⟨h.cell 12, h.cell 13, h.cell 14⟩
    | _ + 5, ht => cases ht
  · simp only [List.mem_cons, List.not_mem_nil, or_false] at ht
    rcases ht with rfl | rfl | rfl | rfl | rfl <;> (show (1 : Nat) ≤ maxLen; unfold maxLen; omega)
end Go.Proofs.YtpkjjiieglebbaaDoor
