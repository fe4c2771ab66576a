/- Contract of the laws' told: it says true. Conditions: the variable changes holds what the text lays. (Written by wip/gen_told.py.) -/
import Derived.Test.YtpkjjiieglebbaaDoorRV
import Derived.Test.YtpkjjiieglebbaaDoorWO
import Derived.Test.YtpkjjiieglebbaaDoorPX
import Derived.Deep.OwnRows
namespace Go.Proofs.YtpkjjiieglebbaaDoor
open Go Go.RowKit
theorem acts_box (w : World) :
    Calls Tryd.prog 67 #[] w fun e w' => e = .returned (.slice (some ⟨w.heap.size, 0, none⟩) 5 5) ∧ Box w' w.heap.size #[.int .i64 0, .string ⟨#[120]⟩, .int .i64 1, .int .i64 1000, .string ⟨#[120]⟩, .int .i64 2, .int .i64 1200, .string ⟨#[120]⟩, .int .i64 3, .int .i64 1500, .string ⟨#[120]⟩, .int .i64 5, .int .i64 1500, .string ⟨#[120]⟩, .int .i64 1] 70 ∧ Below w.heap.size w w' := by
  go_enter Tryd.func67, Tryd.ntmps67
  go_wp2_with fail
  go_ret
  exact ⟨rfl, Box.new _ _ _, (Below.refl _ _).alloc (Nat.le_refl _) _⟩
def GA (v : Value) (w : World) : Prop := ∃ B, v = .slice (some ⟨B, 0, none⟩) 5 5 ∧ Box w B #[.int .i64 0, .string ⟨#[120]⟩, .int .i64 1, .int .i64 1000, .string ⟨#[120]⟩, .int .i64 2, .int .i64 1200, .string ⟨#[120]⟩, .int .i64 3, .int .i64 1500, .string ⟨#[120]⟩, .int .i64 5, .int .i64 1500, .string ⟨#[120]⟩, .int .i64 1] 70
def GS (cs : Array Value) (n : Nat) (v : Value) (w : World) : Prop := ∃ B, v = .slice (some ⟨B, 0, none⟩) n n ∧ Box w B cs 70
def GP (off : Nat) (v : Value) (w : World) : Prop := ∃ B, v = .pointer (some ⟨B, off, none⟩) ∧ Box w B #[.int .i64 0, .string ⟨#[120]⟩, .int .i64 1, .int .i64 1000, .string ⟨#[120]⟩, .int .i64 2, .int .i64 1200, .string ⟨#[120]⟩, .int .i64 3, .int .i64 1500, .string ⟨#[120]⟩, .int .i64 5, .int .i64 1500, .string ⟨#[120]⟩, .int .i64 1] 70
def GV (x : Value) (v : Value) (_ : World) : Prop := v = x
def GT (v : Value) (w : World) : Prop := ∃ B, v = .slice (some ⟨B, 3, none⟩) 4 4 ∧ Box w B #[.int .i64 0, .string ⟨#[120]⟩, .int .i64 1, .int .i64 1000, .string ⟨#[120]⟩, .int .i64 2, .int .i64 1200, .string ⟨#[120]⟩, .int .i64 3, .int .i64 1500, .string ⟨#[120]⟩, .int .i64 5, .int .i64 1500, .string ⟨#[120]⟩, .int .i64 1] 70
def GO (v : Value) (w : World) : Prop := ∃ G B0 B1 B2 B3 B4 B5 B6 B7 B8, v = .slice (some ⟨G, 0, none⟩) 9 9 ∧ Box w G #[.slice (some ⟨B0, 3, none⟩) 4 4, .slice (some ⟨B1, 0, none⟩) 2 2, .slice (some ⟨B2, 0, none⟩) 2 2, .slice (some ⟨B3, 0, none⟩) 2 2, .slice (some ⟨B4, 0, none⟩) 2 2, .slice (some ⟨B5, 0, none⟩) 1 1, .slice (some ⟨B6, 0, none⟩) 1 1, .slice (some ⟨B7, 0, none⟩) 1 1, .slice (some ⟨B8, 0, none⟩) 3 3] 50 ∧ Box w B0 #[.int .i64 0, .string ⟨#[120]⟩, .int .i64 1, .int .i64 1000, .string ⟨#[120]⟩, .int .i64 2, .int .i64 1200, .string ⟨#[120]⟩, .int .i64 3, .int .i64 1500, .string ⟨#[120]⟩, .int .i64 5, .int .i64 1500, .string ⟨#[120]⟩, .int .i64 1] 70 ∧ Box w B1 #[.int .i64 0, .string ⟨#[120]⟩, .int .i64 1, .int .i64 0, .string ⟨#[120]⟩, .int .i64 1] 70 ∧ Box w B2 #[.int .i64 0, .string ⟨#[120]⟩, .int .i64 1, .int .i64 999, .string ⟨#[120]⟩, .int .i64 2] 70 ∧ Box w B3 #[.int .i64 5, .string ⟨#[120]⟩, .int .i64 1, .int .i64 4, .string ⟨#[121]⟩, .int .i64 1] 70 ∧ Box w B4 #[.int .i64 0, .string ⟨#[120]⟩, .int .i64 1, .int .i64 1200, .string ⟨#[120]⟩, .int .i64 3] 70 ∧ Box w B5 #[.int .i64 0, .string ⟨#[88]⟩, .int .i64 1] 70 ∧ Box w B6 #[.int .i64 0, .string ⟨#[120]⟩, .int .i64 6] 70 ∧ Box w B7 #[.int .i64 (-1), .string ⟨#[120]⟩, .int .i64 1] 70 ∧ Box w B8 #[.int .i64 0, .string ⟨#[120]⟩, .int .i64 1, .int .i64 0, .string ⟨#[120]⟩, .int .i64 4, .int .i64 0, .string ⟨#[120]⟩, .int .i64 4] 70
theorem GA.mono {v : Value} {w w' : World} (h : GA v w) (hb : Below w.heap.size w w') : GA v w' := by obtain ⟨B, e, b⟩ := h; exact ⟨B, e, b.below hb b.lt⟩
theorem GS.mono {cs : Array Value} {n : Nat} {v : Value} {w w' : World} (h : GS cs n v w) (hb : Below w.heap.size w w') : GS cs n v w' := by obtain ⟨B, e, b⟩ := h; exact ⟨B, e, b.below hb b.lt⟩
theorem GP.mono {off : Nat} {v : Value} {w w' : World} (h : GP off v w) (hb : Below w.heap.size w w') : GP off v w' := by obtain ⟨B, e, b⟩ := h; exact ⟨B, e, b.below hb b.lt⟩
theorem GT.mono {v : Value} {w w' : World} (h : GT v w) (hb : Below w.heap.size w w') : GT v w' := by obtain ⟨B, e, b⟩ := h; exact ⟨B, e, b.below hb b.lt⟩
theorem GO.mono {v : Value} {w w' : World} (h : GO v w) (hb : Below w.heap.size w w') : GO v w' := by
  obtain ⟨G, B0, B1, B2, B3, B4, B5, B6, B7, B8, e, b, b0, b1, b2, b3, b4, b5, b6, b7, b8⟩ := h
  exact ⟨G, B0, B1, B2, B3, B4, B5, B6, B7, B8, e, b.below hb b.lt, b0.below hb b0.lt, b1.below hb b1.lt, b2.below hb b2.lt, b3.below hb b3.lt, b4.below hb b4.lt, b5.below hb b5.lt, b6.below hb b6.lt, b7.below hb b7.lt, b8.below hb b8.lt⟩
def toldGood : Nat → Value → World → Prop
  | 0 => GA
  | 1 => GT
  | 2 => GA
  | 3 => GP 0
  | 4 => GV (.agg #[.int .i64 0, .string ⟨#[120]⟩, .int .i64 1])
  | 5 => GA
  | 6 => GP 0
  | 7 => GV (.agg #[.int .i64 0, .string ⟨#[120]⟩, .int .i64 1])
  | 8 => GS #[.int .i64 0, .string ⟨#[120]⟩, .int .i64 1, .int .i64 0, .string ⟨#[120]⟩, .int .i64 1] 2
  | 9 => GA
  | 10 => GP 0
  | 11 => GV (.agg #[.int .i64 0, .string ⟨#[120]⟩, .int .i64 1])
  | 12 => GV (.agg #[.int .i64 999, .string ⟨#[120]⟩, .int .i64 2])
  | 13 => GS #[.int .i64 0, .string ⟨#[120]⟩, .int .i64 1, .int .i64 999, .string ⟨#[120]⟩, .int .i64 2] 2
  | 14 => GV (.agg #[.int .i64 5, .string ⟨#[120]⟩, .int .i64 1])
  | 15 => GV (.agg #[.int .i64 4, .string ⟨#[121]⟩, .int .i64 1])
  | 16 => GS #[.int .i64 5, .string ⟨#[120]⟩, .int .i64 1, .int .i64 4, .string ⟨#[121]⟩, .int .i64 1] 2
  | 17 => GA
  | 18 => GP 0
  | 19 => GV (.agg #[.int .i64 0, .string ⟨#[120]⟩, .int .i64 1])
  | 20 => GA
  | 21 => GP 6
  | 22 => GV (.agg #[.int .i64 1200, .string ⟨#[120]⟩, .int .i64 3])
  | 23 => GS #[.int .i64 0, .string ⟨#[120]⟩, .int .i64 1, .int .i64 1200, .string ⟨#[120]⟩, .int .i64 3] 2
  | 24 => GV (.agg #[.int .i64 0, .string ⟨#[88]⟩, .int .i64 1])
  | 25 => GS #[.int .i64 0, .string ⟨#[88]⟩, .int .i64 1] 1
  | 26 => GV (.agg #[.int .i64 0, .string ⟨#[120]⟩, .int .i64 6])
  | 27 => GS #[.int .i64 0, .string ⟨#[120]⟩, .int .i64 6] 1
  | 28 => GV (.agg #[.int .i64 (-1), .string ⟨#[120]⟩, .int .i64 1])
  | 29 => GS #[.int .i64 (-1), .string ⟨#[120]⟩, .int .i64 1] 1
  | 30 => GA
  | 31 => GP 0
  | 32 => GV (.agg #[.int .i64 0, .string ⟨#[120]⟩, .int .i64 1])
  | 33 => GV (.agg #[.int .i64 0, .string ⟨#[120]⟩, .int .i64 4])
  | 34 => GV (.agg #[.int .i64 0, .string ⟨#[120]⟩, .int .i64 4])
  | 35 => GS #[.int .i64 0, .string ⟨#[120]⟩, .int .i64 1, .int .i64 0, .string ⟨#[120]⟩, .int .i64 4, .int .i64 0, .string ⟨#[120]⟩, .int .i64 4] 3
  | 36 => GO
  | 37 => GO
  | _ => fun _ _ => True
theorem toldGood_mono (i : Nat) (v : Value) (w w' : World) (h : toldGood i v w) (hb : Below w.heap.size w w') : toldGood i v w' := by
  match i, h with
  | 0, h => exact GA.mono h hb
  | 1, h => exact GT.mono h hb
  | 2, h => exact GA.mono h hb
  | 3, h => exact GP.mono h hb
  | 4, h => exact h
  | 5, h => exact GA.mono h hb
  | 6, h => exact GP.mono h hb
  | 7, h => exact h
  | 8, h => exact GS.mono h hb
  | 9, h => exact GA.mono h hb
  | 10, h => exact GP.mono h hb
  | 11, h => exact h
  | 12, h => exact h
  | 13, h => exact GS.mono h hb
  | 14, h => exact h
  | 15, h => exact h
  | 16, h => exact GS.mono h hb
  | 17, h => exact GA.mono h hb
  | 18, h => exact GP.mono h hb
  | 19, h => exact h
  | 20, h => exact GA.mono h hb
  | 21, h => exact GP.mono h hb
  | 22, h => exact h
  | 23, h => exact GS.mono h hb
  | 24, h => exact h
  | 25, h => exact GS.mono h hb
  | 26, h => exact h
  | 27, h => exact GS.mono h hb
  | 28, h => exact h
  | 29, h => exact GS.mono h hb
  | 30, h => exact GA.mono h hb
  | 31, h => exact GP.mono h hb
  | 32, h => exact h
  | 33, h => exact h
  | 34, h => exact h
  | 35, h => exact GS.mono h hb
  | 36, h => exact GO.mono h hb
  | 37, h => exact GO.mono h hb
  | _ + 38, _ => trivial
theorem odd_0 {w : World} {B : Nat} (h : Box w B #[.int .i64 0, .string ⟨#[120]⟩, .int .i64 1, .int .i64 1000, .string ⟨#[120]⟩, .int .i64 2, .int .i64 1200, .string ⟨#[120]⟩, .int .i64 3, .int .i64 1500, .string ⟨#[120]⟩, .int .i64 5, .int .i64 1500, .string ⟨#[120]⟩, .int .i64 1] 70) : Acts w (some ⟨B, 3, none⟩) 4 [⟨1000, ⟨#[120]⟩, 2⟩, ⟨1200, ⟨#[120]⟩, 3⟩, ⟨1500, ⟨#[120]⟩, 5⟩, ⟨1500, ⟨#[120]⟩, 1⟩] := by
  refine ⟨rfl, .inr ⟨B, 3, rfl, h.lt, fun i t ht => ?_⟩, fun t ht => ?_, by omega⟩
  · match i, ht with
    | 0, ht => cases ht; exact ⟨h.cell 3, h.cell 4, h.cell 5⟩
    | 1, ht => cases ht; exact ⟨h.cell 6, h.cell 7, h.cell 8⟩
    | 2, ht => cases ht; exact ⟨h.cell 9, h.cell 10, h.cell 11⟩
    | 3, ht => cases ht; exact ⟨h.cell 12, h.cell 13, h.cell 14⟩
    | _ + 4, ht => cases ht
  · simp only [List.mem_cons, List.not_mem_nil, or_false] at ht
    rcases ht with rfl | rfl | rfl | rfl <;> (show (1 : Nat) ≤ maxLen; unfold maxLen; omega)
theorem fol_0 : (followL [⟨1000, ⟨#[120]⟩, 2⟩, ⟨1200, ⟨#[120]⟩, 3⟩, ⟨1500, ⟨#[120]⟩, 5⟩, ⟨1500, ⟨#[120]⟩, 1⟩]).2.2.1 = 0 ∧ (followL [⟨1000, ⟨#[120]⟩, 2⟩, ⟨1200, ⟨#[120]⟩, 3⟩, ⟨1500, ⟨#[120]⟩, 5⟩, ⟨1500, ⟨#[120]⟩, 1⟩]).2.2.2 = 13 := ⟨by rfl, by rfl⟩
theorem odd_1 {w : World} {B : Nat} (h : Box w B #[.int .i64 0, .string ⟨#[120]⟩, .int .i64 1, .int .i64 0, .string ⟨#[120]⟩, .int .i64 1] 70) : Acts w (some ⟨B, 0, none⟩) 2 [⟨0, ⟨#[120]⟩, 1⟩, ⟨0, ⟨#[120]⟩, 1⟩] := by
  refine ⟨rfl, .inr ⟨B, 0, rfl, h.lt, fun i t ht => ?_⟩, fun t ht => ?_, by omega⟩
  · match i, ht with
    | 0, ht => cases ht; exact ⟨h.cell 0, h.cell 1, h.cell 2⟩
    | 1, ht => cases ht; exact ⟨h.cell 3, h.cell 4, h.cell 5⟩
    | _ + 2, ht => cases ht
  · simp only [List.mem_cons, List.not_mem_nil, or_false] at ht
    rcases ht with rfl | rfl <;> (show (1 : Nat) ≤ maxLen; unfold maxLen; omega)
theorem fol_1 : (followL [⟨0, ⟨#[120]⟩, 1⟩, ⟨0, ⟨#[120]⟩, 1⟩]).2.2.1 = 1 ∧ (followL [⟨0, ⟨#[120]⟩, 1⟩, ⟨0, ⟨#[120]⟩, 1⟩]).2.2.2 = 13 := ⟨by rfl, by rfl⟩
theorem odd_2 {w : World} {B : Nat} (h : Box w B #[.int .i64 0, .string ⟨#[120]⟩, .int .i64 1, .int .i64 999, .string ⟨#[120]⟩, .int .i64 2] 70) : Acts w (some ⟨B, 0, none⟩) 2 [⟨0, ⟨#[120]⟩, 1⟩, ⟨999, ⟨#[120]⟩, 2⟩] := by
  refine ⟨rfl, .inr ⟨B, 0, rfl, h.lt, fun i t ht => ?_⟩, fun t ht => ?_, by omega⟩
  · match i, ht with
    | 0, ht => cases ht; exact ⟨h.cell 0, h.cell 1, h.cell 2⟩
    | 1, ht => cases ht; exact ⟨h.cell 3, h.cell 4, h.cell 5⟩
    | _ + 2, ht => cases ht
  · simp only [List.mem_cons, List.not_mem_nil, or_false] at ht
    rcases ht with rfl | rfl <;> (show (1 : Nat) ≤ maxLen; unfold maxLen; omega)
theorem fol_2 : (followL [⟨0, ⟨#[120]⟩, 1⟩, ⟨999, ⟨#[120]⟩, 2⟩]).2.2.1 = 1 ∧ (followL [⟨0, ⟨#[120]⟩, 1⟩, ⟨999, ⟨#[120]⟩, 2⟩]).2.2.2 = 13 := ⟨by rfl, by rfl⟩
theorem odd_3 {w : World} {B : Nat} (h : Box w B #[.int .i64 5, .string ⟨#[120]⟩, .int .i64 1, .int .i64 4, .string ⟨#[121]⟩, .int .i64 1] 70) : Acts w (some ⟨B, 0, none⟩) 2 [⟨5, ⟨#[120]⟩, 1⟩, ⟨4, ⟨#[121]⟩, 1⟩] := by
  refine ⟨rfl, .inr ⟨B, 0, rfl, h.lt, fun i t ht => ?_⟩, fun t ht => ?_, by omega⟩
  · match i, ht with
    | 0, ht => cases ht; exact ⟨h.cell 0, h.cell 1, h.cell 2⟩
    | 1, ht => cases ht; exact ⟨h.cell 3, h.cell 4, h.cell 5⟩
    | _ + 2, ht => cases ht
  · simp only [List.mem_cons, List.not_mem_nil, or_false] at ht
    rcases ht with rfl | rfl <;> (show (1 : Nat) ≤ maxLen; unfold maxLen; omega)
theorem fol_3 : (followL [⟨5, ⟨#[120]⟩, 1⟩, ⟨4, ⟨#[121]⟩, 1⟩]).2.2.1 = 1 ∧ (followL [⟨5, ⟨#[120]⟩, 1⟩, ⟨4, ⟨#[121]⟩, 1⟩]).2.2.2 = 13 := ⟨by rfl, by rfl⟩
theorem odd_4 {w : World} {B : Nat} (h : Box w B #[.int .i64 0, .string ⟨#[120]⟩, .int .i64 1, .int .i64 1200, .string ⟨#[120]⟩, .int .i64 3] 70) : Acts w (some ⟨B, 0, none⟩) 2 [⟨0, ⟨#[120]⟩, 1⟩, ⟨1200, ⟨#[120]⟩, 3⟩] := by
  refine ⟨rfl, .inr ⟨B, 0, rfl, h.lt, fun i t ht => ?_⟩, fun t ht => ?_, by omega⟩
  · match i, ht with
    | 0, ht => cases ht; exact ⟨h.cell 0, h.cell 1, h.cell 2⟩
    | 1, ht => cases ht; exact ⟨h.cell 3, h.cell 4, h.cell 5⟩
    | _ + 2, ht => cases ht
  · simp only [List.mem_cons, List.not_mem_nil, or_false] at ht
    rcases ht with rfl | rfl <;> (show (1 : Nat) ≤ maxLen; unfold maxLen; omega)
theorem fol_4 : (followL [⟨0, ⟨#[120]⟩, 1⟩, ⟨1200, ⟨#[120]⟩, 3⟩]).2.2.1 = 1 ∧ (followL [⟨0, ⟨#[120]⟩, 1⟩, ⟨1200, ⟨#[120]⟩, 3⟩]).2.2.2 = 13 := ⟨by rfl, by rfl⟩
theorem odd_5 {w : World} {B : Nat} (h : Box w B #[.int .i64 0, .string ⟨#[88]⟩, .int .i64 1] 70) : Acts w (some ⟨B, 0, none⟩) 1 [⟨0, ⟨#[88]⟩, 1⟩] := by
  refine ⟨rfl, .inr ⟨B, 0, rfl, h.lt, fun i t ht => ?_⟩, fun t ht => ?_, by omega⟩
  · match i, ht with
    | 0, ht => cases ht; exact ⟨h.cell 0, h.cell 1, h.cell 2⟩
    | _ + 1, ht => cases ht
  · simp only [List.mem_cons, List.not_mem_nil, or_false] at ht
    subst ht; (show (1 : Nat) ≤ maxLen; unfold maxLen; omega)
theorem fol_5 : (followL [⟨0, ⟨#[88]⟩, 1⟩]).2.2.1 = 0 ∧ (followL [⟨0, ⟨#[88]⟩, 1⟩]).2.2.2 = 13 := ⟨by rfl, by rfl⟩
theorem odd_6 {w : World} {B : Nat} (h : Box w B #[.int .i64 0, .string ⟨#[120]⟩, .int .i64 6] 70) : Acts w (some ⟨B, 0, none⟩) 1 [⟨0, ⟨#[120]⟩, 6⟩] := by
  refine ⟨rfl, .inr ⟨B, 0, rfl, h.lt, fun i t ht => ?_⟩, fun t ht => ?_, by omega⟩
  · match i, ht with
    | 0, ht => cases ht; exact ⟨h.cell 0, h.cell 1, h.cell 2⟩
    | _ + 1, ht => cases ht
  · simp only [List.mem_cons, List.not_mem_nil, or_false] at ht
    subst ht; (show (1 : Nat) ≤ maxLen; unfold maxLen; omega)
theorem fol_6 : (followL [⟨0, ⟨#[120]⟩, 6⟩]).2.2.1 = 0 ∧ (followL [⟨0, ⟨#[120]⟩, 6⟩]).2.2.2 = 13 := ⟨by rfl, by rfl⟩
theorem odd_7 {w : World} {B : Nat} (h : Box w B #[.int .i64 (-1), .string ⟨#[120]⟩, .int .i64 1] 70) : Acts w (some ⟨B, 0, none⟩) 1 [⟨(-1), ⟨#[120]⟩, 1⟩] := by
  refine ⟨rfl, .inr ⟨B, 0, rfl, h.lt, fun i t ht => ?_⟩, fun t ht => ?_, by omega⟩
  · match i, ht with
    | 0, ht => cases ht; exact ⟨h.cell 0, h.cell 1, h.cell 2⟩
    | _ + 1, ht => cases ht
  · simp only [List.mem_cons, List.not_mem_nil, or_false] at ht
    subst ht; (show (1 : Nat) ≤ maxLen; unfold maxLen; omega)
theorem fol_7 : (followL [⟨(-1), ⟨#[120]⟩, 1⟩]).2.2.1 = 0 ∧ (followL [⟨(-1), ⟨#[120]⟩, 1⟩]).2.2.2 = 13 := ⟨by rfl, by rfl⟩
theorem odd_8 {w : World} {B : Nat} (h : Box w B #[.int .i64 0, .string ⟨#[120]⟩, .int .i64 1, .int .i64 0, .string ⟨#[120]⟩, .int .i64 4, .int .i64 0, .string ⟨#[120]⟩, .int .i64 4] 70) : Acts w (some ⟨B, 0, none⟩) 3 [⟨0, ⟨#[120]⟩, 1⟩, ⟨0, ⟨#[120]⟩, 4⟩, ⟨0, ⟨#[120]⟩, 4⟩] := by
  refine ⟨rfl, .inr ⟨B, 0, rfl, h.lt, fun i t ht => ?_⟩, fun t ht => ?_, by omega⟩
  · match i, ht with
    | 0, ht => cases ht; exact ⟨h.cell 0, h.cell 1, h.cell 2⟩
    | 1, ht => cases ht; exact ⟨h.cell 3, h.cell 4, h.cell 5⟩
    | 2, ht => cases ht; exact ⟨h.cell 6, h.cell 7, h.cell 8⟩
    | _ + 3, ht => cases ht
  · simp only [List.mem_cons, List.not_mem_nil, or_false] at ht
    rcases ht with rfl | rfl | rfl <;> (show (1 : Nat) ≤ maxLen; unfold maxLen; omega)
theorem fol_8 : (followL [⟨0, ⟨#[120]⟩, 1⟩, ⟨0, ⟨#[120]⟩, 4⟩, ⟨0, ⟨#[120]⟩, 4⟩]).2.2.1 = 2 ∧ (followL [⟨0, ⟨#[120]⟩, 1⟩, ⟨0, ⟨#[120]⟩, 4⟩, ⟨0, ⟨#[120]⟩, 4⟩]).2.2.2 = 13 := ⟨by rfl, by rfl⟩
theorem acts_six {w : World} {B : Nat} (h : Box w B #[.int .i64 0, .string ⟨#[113]⟩, .int .i64 1, .int .i64 0, .string ⟨#[112]⟩, .int .i64 1, .int .i64 1000, .string ⟨#[112]⟩, .int .i64 2, .int .i64 2000, .string ⟨#[112]⟩, .int .i64 2, .int .i64 2000, .string ⟨#[113]⟩, .int .i64 4, .int .i64 3000, .string ⟨#[113]⟩, .int .i64 5] 70) : Acts w (some ⟨B, 0, none⟩) 6 [⟨0, ⟨#[113]⟩, 1⟩, ⟨0, ⟨#[112]⟩, 1⟩, ⟨1000, ⟨#[112]⟩, 2⟩, ⟨2000, ⟨#[112]⟩, 2⟩, ⟨2000, ⟨#[113]⟩, 4⟩, ⟨3000, ⟨#[113]⟩, 5⟩] := by
  refine ⟨rfl, .inr ⟨B, 0, rfl, h.lt, fun i t ht => ?_⟩, fun t ht => ?_, by omega⟩
  · match i, ht with
    | 0, ht => cases ht; exact ⟨h.cell 0, h.cell 1, h.cell 2⟩
    | 1, ht => cases ht; exact ⟨h.cell 3, h.cell 4, h.cell 5⟩
    | 2, ht => cases ht; exact ⟨h.cell 6, h.cell 7, h.cell 8⟩
    | 3, ht => cases ht; exact ⟨h.cell 9, h.cell 10, h.cell 11⟩
    | 4, ht => cases ht; exact ⟨h.cell 12, h.cell 13, h.cell 14⟩
    | 5, ht => cases ht; exact ⟨h.cell 15, h.cell 16, h.cell 17⟩
    | _ + 6, ht => cases ht
  · simp only [List.mem_cons, List.not_mem_nil, or_false] at ht
    rcases ht with rfl | rfl | rfl | rfl | rfl | rfl <;> (show (1 : Nat) ≤ maxLen; unfold maxLen; omega)
theorem fol_six : followL [⟨0, ⟨#[113]⟩, 1⟩, ⟨0, ⟨#[112]⟩, 1⟩, ⟨1000, ⟨#[112]⟩, 2⟩, ⟨2000, ⟨#[112]⟩, 2⟩, ⟨2000, ⟨#[113]⟩, 4⟩, ⟨3000, ⟨#[113]⟩, 5⟩] = ([⟨#[113]⟩, ⟨#[112]⟩], [0, 2], 6, 0) := by rfl
theorem fol_nil : followL [] = ([], [], 0, 0) := by rfl
theorem infoAct0 : (Tryd.prog.info? 70).map (fun i => (i.zero, i.size, i.bytes)) = some (some (.agg #[.int .i64 0, .string ⟨#[]⟩, .int .i64 0]), 3, 32) := by kernel_rfl
theorem infoByte : (Tryd.prog.info? 5).map (fun i => (i.zero, i.size, i.bytes)) = some (some (.int .u8 0), 1, 1) := by kernel_rfl
theorem texts_new2 (w : World) (x y : ByteArray) : TextsAt (w.alloc (.cells #[.string x, .string y] 9)) (some ⟨w.heap.size, 0, none⟩) 2 [x, y] :=
  ⟨rfl, .inr ⟨w.heap.size, 0, rfl, by simp, fun i z hz => by
    match i, hz with
    | 0, hz => cases hz; exact (Box.new w #[.string x, .string y] 9).cell 0
    | 1, hz => cases hz; exact (Box.new w #[.string x, .string y] 9).cell 1
    | _ + 2, hz => cases hz⟩⟩
def zeroAct : Act := ⟨0, ⟨#[]⟩, 0⟩
theorem acts_made {w : World} {B : Nat} (h : Box w B (madeCells #[.int .i64 0, .string ⟨#[]⟩, .int .i64 0] 771) 70) : Acts w (some ⟨B, 0, none⟩) 257 (List.replicate 257 zeroAct) := by
  refine ⟨by rw [List.length_replicate], .inr ⟨B, 0, rfl, h.lt, fun i t ht => ?_⟩, fun t ht => ?_, by omega⟩
  · obtain ⟨hi, e⟩ := List.getElem?_eq_some_iff.1 ht
    rw [List.length_replicate] at hi
    rw [List.getElem_replicate] at e
    subst e
    have hc : ∀ c, c < 3 → w.cell? ⟨B, 0 + i * 3 + c, none⟩ = some (#[Value.int .i64 0, .string ⟨#[]⟩, .int .i64 0][c]!) := fun c hc => by
      rw [h.cell, Nat.zero_add]
      unfold madeCells
      rw [Array.getElem?_map, Array.getElem?_range, if_pos (by omega)]
      show some _ = _
      have e : (i * 3 + c) % (#[Value.int .i64 0, .string ⟨#[]⟩, .int .i64 0] : Array Value).size = c := by
        show (i * 3 + c) % 3 = c
        omega
      show some ((#[Value.int .i64 0, .string ⟨#[]⟩, .int .i64 0] : Array Value)[(i * 3 + c) % (#[Value.int .i64 0, .string ⟨#[]⟩, .int .i64 0] : Array Value).size]!) = _
      rw [e]
    exact ⟨hc 0 (by omega), hc 1 (by omega), hc 2 (by omega)⟩
  · rw [List.eq_of_mem_replicate ht]
    show (0 : Nat) ≤ maxLen
    omega
theorem fol_made : followL (List.replicate 257 zeroAct) = ([], [], 0, 3) := by unfold followL; rw [if_pos (by rw [List.length_replicate]; omega)]
theorem txt_0 : parseS ⟨#[]⟩ = (⟨[], 0, 0, 0, 0⟩, 5) := by kernel_rfl
theorem txt_1 : parseS ⟨#[10]⟩ = (⟨[], 0, 0, 0, 0⟩, 5) := by kernel_rfl
theorem txt_2 : parseS ⟨#[115, 116, 97, 110, 100, 32, 103, 114, 111, 119, 32, 56, 32, 49, 50, 32, 112, 114, 101, 115, 115, 32, 51, 32, 110, 101, 97, 114, 32, 51, 48]⟩ = (⟨[], 0, 0, 0, 0⟩, 5) := by kernel_rfl
theorem txt_3 : parseS ⟨#[115, 116, 97, 110, 100, 32, 103, 114, 111, 119, 32, 48, 56, 32, 49, 50, 32, 112, 114, 101, 115, 115, 32, 51, 32, 110, 101, 97, 114, 32, 51, 48, 10]⟩ = (⟨[], 0, 0, 0, 0⟩, 5) := by kernel_rfl
theorem txt_4 : parseS ⟨#[115, 116, 97, 110, 100, 32, 103, 114, 111, 119, 32, 56, 32, 49, 50, 32, 112, 114, 101, 115, 115, 32, 51, 32, 110, 101, 97, 114, 32, 51, 48, 10, 10]⟩ = (⟨[], 0, 0, 0, 0⟩, 5) := by kernel_rfl
theorem txt_5 : parseS ⟨#[115, 116, 97, 110, 100, 32, 103, 114, 111, 119, 32, 49, 50, 32, 56, 32, 112, 114, 101, 115, 115, 32, 51, 32, 110, 101, 97, 114, 32, 51, 48, 10]⟩ = (⟨[], 0, 0, 0, 0⟩, 5) := by kernel_rfl
theorem txt_6 : parseS ⟨#[115, 116, 97, 110, 100, 32, 103, 114, 111, 119, 32, 56, 32, 49, 50, 32, 112, 114, 101, 115, 115, 32, 51, 32, 110, 101, 97, 114, 32, 51, 48, 10, 116, 114, 101, 101, 32, 65, 32, 48, 32, 48, 32, 103, 105, 114, 116, 104, 32, 57, 48, 48, 32, 57, 50, 48, 32, 99, 114, 111, 119, 110, 32, 52, 48, 10]⟩ = (⟨[], 0, 0, 0, 0⟩, 5) := by kernel_rfl
theorem txt_7 : parseS ⟨#[115, 116, 97, 110, 100, 32, 103, 114, 111, 119, 32, 56, 32, 49, 50, 32, 112, 114, 101, 115, 115, 32, 51, 32, 110, 101, 97, 114, 32, 51, 48, 10, 116, 114, 101, 101, 32, 97, 32, 48, 32, 48, 32, 103, 105, 114, 116, 104, 32, 57, 48, 48, 32, 57, 50, 48, 32, 99, 114, 111, 119, 110, 32, 52, 48, 32, 10]⟩ = (⟨[], 0, 0, 0, 0⟩, 5) := by kernel_rfl
theorem txt_8 : parseS ⟨#[115, 116, 97, 110, 100, 32, 103, 114, 111, 119, 32, 56, 32, 49, 50, 32, 112, 114, 101, 115, 115, 32, 51, 32, 110, 101, 97, 114, 32, 51, 48, 10, 116, 114, 101, 101, 32, 97, 32, 48, 32, 48, 32, 103, 105, 114, 116, 104, 32, 57, 48, 48, 32, 57, 50, 48, 10]⟩ = (⟨[], 0, 0, 0, 0⟩, 5) := by kernel_rfl
theorem txt_9 : parseS ⟨#[83, 116, 97, 110, 100, 32, 103, 114, 111, 119, 32, 56, 32, 49, 50, 32, 112, 114, 101, 115, 115, 32, 51, 32, 110, 101, 97, 114, 32, 51, 48, 10]⟩ = (⟨[], 0, 0, 0, 0⟩, 5) := by kernel_rfl
theorem txt_e : parseS ⟨#[115, 116, 97, 110, 100, 32, 103, 114, 111, 119, 32, 48, 32, 48, 32, 112, 114, 101, 115, 115, 32, 48, 32, 110, 101, 97, 114, 32, 48, 10]⟩ = (⟨[], 0, 0, 0, 0⟩, 0) := by kernel_rfl
/-- A text that is too long. -/
def bigText : ByteArray := strOfNums (List.replicate 65537 0)
def bigCells : Array Value := madeCells #[.int .u8 0] 65537
theorem conv_zero {B : Nat} (V : World) (hB : Box V B bigCells 5) : (convert 118 9 (.slice (some ⟨B, 0, none⟩) 65537 65537)).run Tryd.prog V = .ok (.string bigText) V :=
  run_convert_bytes_arg (P := Tryd.prog) V 118 5 Tryd.underlying118 Tryd.underlying5 B 0 65537 65537 (List.replicate 65537 0) (by rw [List.length_replicate]) (fun i hi => by
    rw [hB.cell, Nat.zero_add]
    unfold bigCells madeCells
    rw [Array.getElem?_map, Array.getElem?_range, if_pos hi]
    show some _ = _
    have e : i % (#[Value.int .u8 0] : Array Value).size = 0 := Nat.mod_one i
    show some ((#[Value.int .u8 0] : Array Value)[i % (#[Value.int .u8 0] : Array Value).size]!) = _
    rw [e, List.getD_eq_getElem?_getD, List.getElem?_replicate, if_pos hi]
    rfl) 9 Tryd.underlying9
theorem txt_big : parseS bigText = (⟨[], 0, 0, 0, 0⟩, 3) := by
  unfold parseS bigText
  rw [if_pos (by rw [strOfNums_size, List.length_replicate]; omega)]
set_option maxRecDepth 100000 in
set_option maxHeartbeats 4000000 in
theorem told_any (w : World) (hC : Chg w) :
    Calls Tryd.prog 52 #[] w fun e w' => e = .returned (.bool true) ∧ Below w.heap.size w w' := by
  have HC := Lib.hid (fun W (h : Below w.heap.size w W) => hC.below h)
  clear hC
  go_enter Tryd.func52, Tryd.ntmps52
  go_wp2_with fail
  refine region_inv toldGood (by kernel_rfl) toldGood_mono (by kernel_rfl) (by kernel_rfl) (by rfl) ?_ ?_
  case refine_1 =>
    intro i o ho
    match i, ho with
    | 0, ho =>
      obtain rfl := Option.some.inj ho
      intro a W vs hB hd hf K hK
      clear hd hf
      go_simp
      refine (acts_box _).mono ?_
      rintro e w' ⟨rfl, hA, hb⟩
      go_simp
      exact hK.out _ _ hb ⟨_, rfl, hA⟩
    | 1, ho =>
      obtain rfl := Option.some.inj ho
      intro a W vs hB hd hf K hK
      have t0 := (hd ⟨0, .data⟩ (by simp) rfl).2 _ _ rfl rfl
      have g0 : GA (vs 0) W := (hd ⟨0, .data⟩ (by simp) rfl).1
      clear hd hf
      obtain ⟨D0, v0, b0⟩ := g0
      rw [v0] at t0
      have e0 : a.tmps.getD 28 undef = .slice (some ⟨D0, 0, none⟩) 5 5 := by rw [Array.getD_eq_getD_getElem?, t0]; rfl
      go_simp
      exact hK.out _ _ (Below.refl _ _) ⟨D0, rfl, b0⟩
    | 2, ho =>
      obtain rfl := Option.some.inj ho
      intro a W vs hB hd hf K hK
      clear hd hf
      go_simp
      refine (acts_box _).mono ?_
      rintro e w' ⟨rfl, hA, hb⟩
      go_simp
      exact hK.out _ _ hb ⟨_, rfl, hA⟩
    | 3, ho =>
      obtain rfl := Option.some.inj ho
      intro a W vs hB hd hf K hK
      have t0 := (hd ⟨2, .data⟩ (by simp) rfl).2 _ _ rfl rfl
      have g0 : GA (vs 2) W := (hd ⟨2, .data⟩ (by simp) rfl).1
      clear hd hf
      obtain ⟨D0, v0, b0⟩ := g0
      rw [v0] at t0
      have e0 : a.tmps.getD 30 undef = .slice (some ⟨D0, 0, none⟩) 5 5 := by rw [Array.getD_eq_getD_getElem?, t0]; rfl
      go_simp
      exact hK.out _ _ (Below.refl _ _) ⟨D0, rfl, b0⟩
    | 4, ho =>
      obtain rfl := Option.some.inj ho
      intro a W vs hB hd hf K hK
      have t0 := (hd ⟨3, .data⟩ (by simp) rfl).2 _ _ rfl rfl
      have g0 : GP 0 (vs 3) W := (hd ⟨3, .data⟩ (by simp) rfl).1
      clear hd hf
      obtain ⟨D0, v0, b0⟩ := g0
      rw [v0] at t0
      have e0 : a.tmps.getD 31 undef = .pointer (some ⟨D0, 0, none⟩) := by rw [Array.getD_eq_getD_getElem?, t0]; rfl
      have x0 : W.cell? ⟨D0, 0, none⟩ = some (.int .i64 0) := b0.cell 0
      have x1 : W.cell? ⟨D0, 1, none⟩ = some (.string ⟨#[120]⟩) := b0.cell 1
      have x2 : W.cell? ⟨D0, 2, none⟩ = some (.int .i64 1) := b0.cell 2
      go_simp
      exact hK.out _ _ (Below.refl _ _) rfl
    | 5, ho =>
      obtain rfl := Option.some.inj ho
      intro a W vs hB hd hf K hK
      clear hd hf
      go_simp
      refine (acts_box _).mono ?_
      rintro e w' ⟨rfl, hA, hb⟩
      go_simp
      exact hK.out _ _ hb ⟨_, rfl, hA⟩
    | 6, ho =>
      obtain rfl := Option.some.inj ho
      intro a W vs hB hd hf K hK
      have t0 := (hd ⟨5, .data⟩ (by simp) rfl).2 _ _ rfl rfl
      have g0 : GA (vs 5) W := (hd ⟨5, .data⟩ (by simp) rfl).1
      clear hd hf
      obtain ⟨D0, v0, b0⟩ := g0
      rw [v0] at t0
      have e0 : a.tmps.getD 33 undef = .slice (some ⟨D0, 0, none⟩) 5 5 := by rw [Array.getD_eq_getD_getElem?, t0]; rfl
      go_simp
      exact hK.out _ _ (Below.refl _ _) ⟨D0, rfl, b0⟩
    | 7, ho =>
      obtain rfl := Option.some.inj ho
      intro a W vs hB hd hf K hK
      have t0 := (hd ⟨6, .data⟩ (by simp) rfl).2 _ _ rfl rfl
      have g0 : GP 0 (vs 6) W := (hd ⟨6, .data⟩ (by simp) rfl).1
      clear hd hf
      obtain ⟨D0, v0, b0⟩ := g0
      rw [v0] at t0
      have e0 : a.tmps.getD 34 undef = .pointer (some ⟨D0, 0, none⟩) := by rw [Array.getD_eq_getD_getElem?, t0]; rfl
      have x0 : W.cell? ⟨D0, 0, none⟩ = some (.int .i64 0) := b0.cell 0
      have x1 : W.cell? ⟨D0, 1, none⟩ = some (.string ⟨#[120]⟩) := b0.cell 1
      have x2 : W.cell? ⟨D0, 2, none⟩ = some (.int .i64 1) := b0.cell 2
      go_simp
      exact hK.out _ _ (Below.refl _ _) rfl
    | 8, ho =>
      obtain rfl := Option.some.inj ho
      intro a W vs hB hd hf K hK
      have t0 := (hd ⟨4, .data⟩ (by simp) rfl).2 _ _ rfl rfl
      have g0 : GV (.agg #[.int .i64 0, .string ⟨#[120]⟩, .int .i64 1]) (vs 4) W := (hd ⟨4, .data⟩ (by simp) rfl).1
      have t1 := (hd ⟨7, .data⟩ (by simp) rfl).2 _ _ rfl rfl
      have g1 : GV (.agg #[.int .i64 0, .string ⟨#[120]⟩, .int .i64 1]) (vs 7) W := (hd ⟨7, .data⟩ (by simp) rfl).1
      clear hd hf
      rw [show vs 4 = (.agg #[.int .i64 0, .string ⟨#[120]⟩, .int .i64 1]) from g0] at t0
      rw [show vs 7 = (.agg #[.int .i64 0, .string ⟨#[120]⟩, .int .i64 1]) from g1] at t1
      have e0 : a.tmps.getD 32 undef = (.agg #[.int .i64 0, .string ⟨#[120]⟩, .int .i64 1]) := by rw [Array.getD_eq_getD_getElem?, t0]; rfl
      have e1 : a.tmps.getD 35 undef = (.agg #[.int .i64 0, .string ⟨#[120]⟩, .int .i64 1]) := by rw [Array.getD_eq_getD_getElem?, t1]; rfl
      go_simp
      exact hK.out _ _ ((Below.refl _ _).alloc (Nat.le_refl _) _) ⟨_, rfl, Box.new _ _ _⟩
    | 9, ho =>
      obtain rfl := Option.some.inj ho
      intro a W vs hB hd hf K hK
      clear hd hf
      go_simp
      refine (acts_box _).mono ?_
      rintro e w' ⟨rfl, hA, hb⟩
      go_simp
      exact hK.out _ _ hb ⟨_, rfl, hA⟩
    | 10, ho =>
      obtain rfl := Option.some.inj ho
      intro a W vs hB hd hf K hK
      have t0 := (hd ⟨9, .data⟩ (by simp) rfl).2 _ _ rfl rfl
      have g0 : GA (vs 9) W := (hd ⟨9, .data⟩ (by simp) rfl).1
      clear hd hf
      obtain ⟨D0, v0, b0⟩ := g0
      rw [v0] at t0
      have e0 : a.tmps.getD 37 undef = .slice (some ⟨D0, 0, none⟩) 5 5 := by rw [Array.getD_eq_getD_getElem?, t0]; rfl
      go_simp
      exact hK.out _ _ (Below.refl _ _) ⟨D0, rfl, b0⟩
    | 11, ho =>
      obtain rfl := Option.some.inj ho
      intro a W vs hB hd hf K hK
      have t0 := (hd ⟨10, .data⟩ (by simp) rfl).2 _ _ rfl rfl
      have g0 : GP 0 (vs 10) W := (hd ⟨10, .data⟩ (by simp) rfl).1
      clear hd hf
      obtain ⟨D0, v0, b0⟩ := g0
      rw [v0] at t0
      have e0 : a.tmps.getD 38 undef = .pointer (some ⟨D0, 0, none⟩) := by rw [Array.getD_eq_getD_getElem?, t0]; rfl
      have x0 : W.cell? ⟨D0, 0, none⟩ = some (.int .i64 0) := b0.cell 0
      have x1 : W.cell? ⟨D0, 1, none⟩ = some (.string ⟨#[120]⟩) := b0.cell 1
      have x2 : W.cell? ⟨D0, 2, none⟩ = some (.int .i64 1) := b0.cell 2
      go_simp
      exact hK.out _ _ (Below.refl _ _) rfl
    | 12, ho =>
      obtain rfl := Option.some.inj ho
      intro a W vs hB hd hf K hK
      clear hd hf
      go_simp
      exact hK.out _ _ (Below.refl _ _) rfl
    | 13, ho =>
      obtain rfl := Option.some.inj ho
      intro a W vs hB hd hf K hK
      have t0 := (hd ⟨11, .data⟩ (by simp) rfl).2 _ _ rfl rfl
      have g0 : GV (.agg #[.int .i64 0, .string ⟨#[120]⟩, .int .i64 1]) (vs 11) W := (hd ⟨11, .data⟩ (by simp) rfl).1
      have t1 := (hd ⟨12, .data⟩ (by simp) rfl).2 _ _ rfl rfl
      have g1 : GV (.agg #[.int .i64 999, .string ⟨#[120]⟩, .int .i64 2]) (vs 12) W := (hd ⟨12, .data⟩ (by simp) rfl).1
      clear hd hf
      rw [show vs 11 = (.agg #[.int .i64 0, .string ⟨#[120]⟩, .int .i64 1]) from g0] at t0
      rw [show vs 12 = (.agg #[.int .i64 999, .string ⟨#[120]⟩, .int .i64 2]) from g1] at t1
      have e0 : a.tmps.getD 39 undef = (.agg #[.int .i64 0, .string ⟨#[120]⟩, .int .i64 1]) := by rw [Array.getD_eq_getD_getElem?, t0]; rfl
      have e1 : a.tmps.getD 40 undef = (.agg #[.int .i64 999, .string ⟨#[120]⟩, .int .i64 2]) := by rw [Array.getD_eq_getD_getElem?, t1]; rfl
      go_simp
      exact hK.out _ _ ((Below.refl _ _).alloc (Nat.le_refl _) _) ⟨_, rfl, Box.new _ _ _⟩
    | 14, ho =>
      obtain rfl := Option.some.inj ho
      intro a W vs hB hd hf K hK
      clear hd hf
      go_simp
      exact hK.out _ _ (Below.refl _ _) rfl
    | 15, ho =>
      obtain rfl := Option.some.inj ho
      intro a W vs hB hd hf K hK
      clear hd hf
      go_simp
      exact hK.out _ _ (Below.refl _ _) rfl
    | 16, ho =>
      obtain rfl := Option.some.inj ho
      intro a W vs hB hd hf K hK
      have t0 := (hd ⟨14, .data⟩ (by simp) rfl).2 _ _ rfl rfl
      have g0 : GV (.agg #[.int .i64 5, .string ⟨#[120]⟩, .int .i64 1]) (vs 14) W := (hd ⟨14, .data⟩ (by simp) rfl).1
      have t1 := (hd ⟨15, .data⟩ (by simp) rfl).2 _ _ rfl rfl
      have g1 : GV (.agg #[.int .i64 4, .string ⟨#[121]⟩, .int .i64 1]) (vs 15) W := (hd ⟨15, .data⟩ (by simp) rfl).1
      clear hd hf
      rw [show vs 14 = (.agg #[.int .i64 5, .string ⟨#[120]⟩, .int .i64 1]) from g0] at t0
      rw [show vs 15 = (.agg #[.int .i64 4, .string ⟨#[121]⟩, .int .i64 1]) from g1] at t1
      have e0 : a.tmps.getD 42 undef = (.agg #[.int .i64 5, .string ⟨#[120]⟩, .int .i64 1]) := by rw [Array.getD_eq_getD_getElem?, t0]; rfl
      have e1 : a.tmps.getD 43 undef = (.agg #[.int .i64 4, .string ⟨#[121]⟩, .int .i64 1]) := by rw [Array.getD_eq_getD_getElem?, t1]; rfl
      go_simp
      exact hK.out _ _ ((Below.refl _ _).alloc (Nat.le_refl _) _) ⟨_, rfl, Box.new _ _ _⟩
    | 17, ho =>
      obtain rfl := Option.some.inj ho
      intro a W vs hB hd hf K hK
      clear hd hf
      go_simp
      refine (acts_box _).mono ?_
      rintro e w' ⟨rfl, hA, hb⟩
      go_simp
      exact hK.out _ _ hb ⟨_, rfl, hA⟩
    | 18, ho =>
      obtain rfl := Option.some.inj ho
      intro a W vs hB hd hf K hK
      have t0 := (hd ⟨17, .data⟩ (by simp) rfl).2 _ _ rfl rfl
      have g0 : GA (vs 17) W := (hd ⟨17, .data⟩ (by simp) rfl).1
      clear hd hf
      obtain ⟨D0, v0, b0⟩ := g0
      rw [v0] at t0
      have e0 : a.tmps.getD 45 undef = .slice (some ⟨D0, 0, none⟩) 5 5 := by rw [Array.getD_eq_getD_getElem?, t0]; rfl
      go_simp
      exact hK.out _ _ (Below.refl _ _) ⟨D0, rfl, b0⟩
    | 19, ho =>
      obtain rfl := Option.some.inj ho
      intro a W vs hB hd hf K hK
      have t0 := (hd ⟨18, .data⟩ (by simp) rfl).2 _ _ rfl rfl
      have g0 : GP 0 (vs 18) W := (hd ⟨18, .data⟩ (by simp) rfl).1
      clear hd hf
      obtain ⟨D0, v0, b0⟩ := g0
      rw [v0] at t0
      have e0 : a.tmps.getD 46 undef = .pointer (some ⟨D0, 0, none⟩) := by rw [Array.getD_eq_getD_getElem?, t0]; rfl
      have x0 : W.cell? ⟨D0, 0, none⟩ = some (.int .i64 0) := b0.cell 0
      have x1 : W.cell? ⟨D0, 1, none⟩ = some (.string ⟨#[120]⟩) := b0.cell 1
      have x2 : W.cell? ⟨D0, 2, none⟩ = some (.int .i64 1) := b0.cell 2
      go_simp
      exact hK.out _ _ (Below.refl _ _) rfl
    | 20, ho =>
      obtain rfl := Option.some.inj ho
      intro a W vs hB hd hf K hK
      clear hd hf
      go_simp
      refine (acts_box _).mono ?_
      rintro e w' ⟨rfl, hA, hb⟩
      go_simp
      exact hK.out _ _ hb ⟨_, rfl, hA⟩
    | 21, ho =>
      obtain rfl := Option.some.inj ho
      intro a W vs hB hd hf K hK
      have t0 := (hd ⟨20, .data⟩ (by simp) rfl).2 _ _ rfl rfl
      have g0 : GA (vs 20) W := (hd ⟨20, .data⟩ (by simp) rfl).1
      clear hd hf
      obtain ⟨D0, v0, b0⟩ := g0
      rw [v0] at t0
      have e0 : a.tmps.getD 48 undef = .slice (some ⟨D0, 0, none⟩) 5 5 := by rw [Array.getD_eq_getD_getElem?, t0]; rfl
      go_simp
      exact hK.out _ _ (Below.refl _ _) ⟨D0, rfl, b0⟩
    | 22, ho =>
      obtain rfl := Option.some.inj ho
      intro a W vs hB hd hf K hK
      have t0 := (hd ⟨21, .data⟩ (by simp) rfl).2 _ _ rfl rfl
      have g0 : GP 6 (vs 21) W := (hd ⟨21, .data⟩ (by simp) rfl).1
      clear hd hf
      obtain ⟨D0, v0, b0⟩ := g0
      rw [v0] at t0
      have e0 : a.tmps.getD 49 undef = .pointer (some ⟨D0, 6, none⟩) := by rw [Array.getD_eq_getD_getElem?, t0]; rfl
      have x0 : W.cell? ⟨D0, 6, none⟩ = some (.int .i64 1200) := b0.cell 6
      have x1 : W.cell? ⟨D0, 7, none⟩ = some (.string ⟨#[120]⟩) := b0.cell 7
      have x2 : W.cell? ⟨D0, 8, none⟩ = some (.int .i64 3) := b0.cell 8
      go_simp
      exact hK.out _ _ (Below.refl _ _) rfl
    | 23, ho =>
      obtain rfl := Option.some.inj ho
      intro a W vs hB hd hf K hK
      have t0 := (hd ⟨19, .data⟩ (by simp) rfl).2 _ _ rfl rfl
      have g0 : GV (.agg #[.int .i64 0, .string ⟨#[120]⟩, .int .i64 1]) (vs 19) W := (hd ⟨19, .data⟩ (by simp) rfl).1
      have t1 := (hd ⟨22, .data⟩ (by simp) rfl).2 _ _ rfl rfl
      have g1 : GV (.agg #[.int .i64 1200, .string ⟨#[120]⟩, .int .i64 3]) (vs 22) W := (hd ⟨22, .data⟩ (by simp) rfl).1
      clear hd hf
      rw [show vs 19 = (.agg #[.int .i64 0, .string ⟨#[120]⟩, .int .i64 1]) from g0] at t0
      rw [show vs 22 = (.agg #[.int .i64 1200, .string ⟨#[120]⟩, .int .i64 3]) from g1] at t1
      have e0 : a.tmps.getD 47 undef = (.agg #[.int .i64 0, .string ⟨#[120]⟩, .int .i64 1]) := by rw [Array.getD_eq_getD_getElem?, t0]; rfl
      have e1 : a.tmps.getD 50 undef = (.agg #[.int .i64 1200, .string ⟨#[120]⟩, .int .i64 3]) := by rw [Array.getD_eq_getD_getElem?, t1]; rfl
      go_simp
      exact hK.out _ _ ((Below.refl _ _).alloc (Nat.le_refl _) _) ⟨_, rfl, Box.new _ _ _⟩
    | 24, ho =>
      obtain rfl := Option.some.inj ho
      intro a W vs hB hd hf K hK
      clear hd hf
      go_simp
      exact hK.out _ _ (Below.refl _ _) rfl
    | 25, ho =>
      obtain rfl := Option.some.inj ho
      intro a W vs hB hd hf K hK
      have t0 := (hd ⟨24, .data⟩ (by simp) rfl).2 _ _ rfl rfl
      have g0 : GV (.agg #[.int .i64 0, .string ⟨#[88]⟩, .int .i64 1]) (vs 24) W := (hd ⟨24, .data⟩ (by simp) rfl).1
      clear hd hf
      rw [show vs 24 = (.agg #[.int .i64 0, .string ⟨#[88]⟩, .int .i64 1]) from g0] at t0
      have e0 : a.tmps.getD 52 undef = (.agg #[.int .i64 0, .string ⟨#[88]⟩, .int .i64 1]) := by rw [Array.getD_eq_getD_getElem?, t0]; rfl
      go_simp
      exact hK.out _ _ ((Below.refl _ _).alloc (Nat.le_refl _) _) ⟨_, rfl, Box.new _ _ _⟩
    | 26, ho =>
      obtain rfl := Option.some.inj ho
      intro a W vs hB hd hf K hK
      clear hd hf
      go_simp
      exact hK.out _ _ (Below.refl _ _) rfl
    | 27, ho =>
      obtain rfl := Option.some.inj ho
      intro a W vs hB hd hf K hK
      have t0 := (hd ⟨26, .data⟩ (by simp) rfl).2 _ _ rfl rfl
      have g0 : GV (.agg #[.int .i64 0, .string ⟨#[120]⟩, .int .i64 6]) (vs 26) W := (hd ⟨26, .data⟩ (by simp) rfl).1
      clear hd hf
      rw [show vs 26 = (.agg #[.int .i64 0, .string ⟨#[120]⟩, .int .i64 6]) from g0] at t0
      have e0 : a.tmps.getD 54 undef = (.agg #[.int .i64 0, .string ⟨#[120]⟩, .int .i64 6]) := by rw [Array.getD_eq_getD_getElem?, t0]; rfl
      go_simp
      exact hK.out _ _ ((Below.refl _ _).alloc (Nat.le_refl _) _) ⟨_, rfl, Box.new _ _ _⟩
    | 28, ho =>
      obtain rfl := Option.some.inj ho
      intro a W vs hB hd hf K hK
      clear hd hf
      go_simp
      exact hK.out _ _ (Below.refl _ _) rfl
    | 29, ho =>
      obtain rfl := Option.some.inj ho
      intro a W vs hB hd hf K hK
      have t0 := (hd ⟨28, .data⟩ (by simp) rfl).2 _ _ rfl rfl
      have g0 : GV (.agg #[.int .i64 (-1), .string ⟨#[120]⟩, .int .i64 1]) (vs 28) W := (hd ⟨28, .data⟩ (by simp) rfl).1
      clear hd hf
      rw [show vs 28 = (.agg #[.int .i64 (-1), .string ⟨#[120]⟩, .int .i64 1]) from g0] at t0
      have e0 : a.tmps.getD 56 undef = (.agg #[.int .i64 (-1), .string ⟨#[120]⟩, .int .i64 1]) := by rw [Array.getD_eq_getD_getElem?, t0]; rfl
      go_simp
      exact hK.out _ _ ((Below.refl _ _).alloc (Nat.le_refl _) _) ⟨_, rfl, Box.new _ _ _⟩
    | 30, ho =>
      obtain rfl := Option.some.inj ho
      intro a W vs hB hd hf K hK
      clear hd hf
      go_simp
      refine (acts_box _).mono ?_
      rintro e w' ⟨rfl, hA, hb⟩
      go_simp
      exact hK.out _ _ hb ⟨_, rfl, hA⟩
    | 31, ho =>
      obtain rfl := Option.some.inj ho
      intro a W vs hB hd hf K hK
      have t0 := (hd ⟨30, .data⟩ (by simp) rfl).2 _ _ rfl rfl
      have g0 : GA (vs 30) W := (hd ⟨30, .data⟩ (by simp) rfl).1
      clear hd hf
      obtain ⟨D0, v0, b0⟩ := g0
      rw [v0] at t0
      have e0 : a.tmps.getD 58 undef = .slice (some ⟨D0, 0, none⟩) 5 5 := by rw [Array.getD_eq_getD_getElem?, t0]; rfl
      go_simp
      exact hK.out _ _ (Below.refl _ _) ⟨D0, rfl, b0⟩
    | 32, ho =>
      obtain rfl := Option.some.inj ho
      intro a W vs hB hd hf K hK
      have t0 := (hd ⟨31, .data⟩ (by simp) rfl).2 _ _ rfl rfl
      have g0 : GP 0 (vs 31) W := (hd ⟨31, .data⟩ (by simp) rfl).1
      clear hd hf
      obtain ⟨D0, v0, b0⟩ := g0
      rw [v0] at t0
      have e0 : a.tmps.getD 59 undef = .pointer (some ⟨D0, 0, none⟩) := by rw [Array.getD_eq_getD_getElem?, t0]; rfl
      have x0 : W.cell? ⟨D0, 0, none⟩ = some (.int .i64 0) := b0.cell 0
      have x1 : W.cell? ⟨D0, 1, none⟩ = some (.string ⟨#[120]⟩) := b0.cell 1
      have x2 : W.cell? ⟨D0, 2, none⟩ = some (.int .i64 1) := b0.cell 2
      go_simp
      exact hK.out _ _ (Below.refl _ _) rfl
    | 33, ho =>
      obtain rfl := Option.some.inj ho
      intro a W vs hB hd hf K hK
      clear hd hf
      go_simp
      exact hK.out _ _ (Below.refl _ _) rfl
    | 34, ho =>
      obtain rfl := Option.some.inj ho
      intro a W vs hB hd hf K hK
      clear hd hf
      go_simp
      exact hK.out _ _ (Below.refl _ _) rfl
    | 35, ho =>
      obtain rfl := Option.some.inj ho
      intro a W vs hB hd hf K hK
      have t0 := (hd ⟨32, .data⟩ (by simp) rfl).2 _ _ rfl rfl
      have g0 : GV (.agg #[.int .i64 0, .string ⟨#[120]⟩, .int .i64 1]) (vs 32) W := (hd ⟨32, .data⟩ (by simp) rfl).1
      have t1 := (hd ⟨33, .data⟩ (by simp) rfl).2 _ _ rfl rfl
      have g1 : GV (.agg #[.int .i64 0, .string ⟨#[120]⟩, .int .i64 4]) (vs 33) W := (hd ⟨33, .data⟩ (by simp) rfl).1
      have t2 := (hd ⟨34, .data⟩ (by simp) rfl).2 _ _ rfl rfl
      have g2 : GV (.agg #[.int .i64 0, .string ⟨#[120]⟩, .int .i64 4]) (vs 34) W := (hd ⟨34, .data⟩ (by simp) rfl).1
      clear hd hf
      rw [show vs 32 = (.agg #[.int .i64 0, .string ⟨#[120]⟩, .int .i64 1]) from g0] at t0
      rw [show vs 33 = (.agg #[.int .i64 0, .string ⟨#[120]⟩, .int .i64 4]) from g1] at t1
      rw [show vs 34 = (.agg #[.int .i64 0, .string ⟨#[120]⟩, .int .i64 4]) from g2] at t2
      have e0 : a.tmps.getD 60 undef = (.agg #[.int .i64 0, .string ⟨#[120]⟩, .int .i64 1]) := by rw [Array.getD_eq_getD_getElem?, t0]; rfl
      have e1 : a.tmps.getD 61 undef = (.agg #[.int .i64 0, .string ⟨#[120]⟩, .int .i64 4]) := by rw [Array.getD_eq_getD_getElem?, t1]; rfl
      have e2 : a.tmps.getD 62 undef = (.agg #[.int .i64 0, .string ⟨#[120]⟩, .int .i64 4]) := by rw [Array.getD_eq_getD_getElem?, t2]; rfl
      go_simp
      exact hK.out _ _ ((Below.refl _ _).alloc (Nat.le_refl _) _) ⟨_, rfl, Box.new _ _ _⟩
    | 36, ho =>
      obtain rfl := Option.some.inj ho
      intro a W vs hB hd hf K hK
      have t0 := (hd ⟨1, .data⟩ (by simp) rfl).2 _ _ rfl rfl
      have g0 : GT (vs 1) W := (hd ⟨1, .data⟩ (by simp) rfl).1
      have t1 := (hd ⟨8, .data⟩ (by simp) rfl).2 _ _ rfl rfl
      have g1 : GS #[.int .i64 0, .string ⟨#[120]⟩, .int .i64 1, .int .i64 0, .string ⟨#[120]⟩, .int .i64 1] 2 (vs 8) W := (hd ⟨8, .data⟩ (by simp) rfl).1
      have t2 := (hd ⟨13, .data⟩ (by simp) rfl).2 _ _ rfl rfl
      have g2 : GS #[.int .i64 0, .string ⟨#[120]⟩, .int .i64 1, .int .i64 999, .string ⟨#[120]⟩, .int .i64 2] 2 (vs 13) W := (hd ⟨13, .data⟩ (by simp) rfl).1
      have t3 := (hd ⟨16, .data⟩ (by simp) rfl).2 _ _ rfl rfl
      have g3 : GS #[.int .i64 5, .string ⟨#[120]⟩, .int .i64 1, .int .i64 4, .string ⟨#[121]⟩, .int .i64 1] 2 (vs 16) W := (hd ⟨16, .data⟩ (by simp) rfl).1
      have t4 := (hd ⟨23, .data⟩ (by simp) rfl).2 _ _ rfl rfl
      have g4 : GS #[.int .i64 0, .string ⟨#[120]⟩, .int .i64 1, .int .i64 1200, .string ⟨#[120]⟩, .int .i64 3] 2 (vs 23) W := (hd ⟨23, .data⟩ (by simp) rfl).1
      have t5 := (hd ⟨25, .data⟩ (by simp) rfl).2 _ _ rfl rfl
      have g5 : GS #[.int .i64 0, .string ⟨#[88]⟩, .int .i64 1] 1 (vs 25) W := (hd ⟨25, .data⟩ (by simp) rfl).1
      have t6 := (hd ⟨27, .data⟩ (by simp) rfl).2 _ _ rfl rfl
      have g6 : GS #[.int .i64 0, .string ⟨#[120]⟩, .int .i64 6] 1 (vs 27) W := (hd ⟨27, .data⟩ (by simp) rfl).1
      have t7 := (hd ⟨29, .data⟩ (by simp) rfl).2 _ _ rfl rfl
      have g7 : GS #[.int .i64 (-1), .string ⟨#[120]⟩, .int .i64 1] 1 (vs 29) W := (hd ⟨29, .data⟩ (by simp) rfl).1
      have t8 := (hd ⟨35, .data⟩ (by simp) rfl).2 _ _ rfl rfl
      have g8 : GS #[.int .i64 0, .string ⟨#[120]⟩, .int .i64 1, .int .i64 0, .string ⟨#[120]⟩, .int .i64 4, .int .i64 0, .string ⟨#[120]⟩, .int .i64 4] 3 (vs 35) W := (hd ⟨35, .data⟩ (by simp) rfl).1
      clear hd hf
      obtain ⟨D0, v0, b0⟩ := g0
      rw [v0] at t0
      obtain ⟨D1, v1, b1⟩ := g1
      rw [v1] at t1
      obtain ⟨D2, v2, b2⟩ := g2
      rw [v2] at t2
      obtain ⟨D3, v3, b3⟩ := g3
      rw [v3] at t3
      obtain ⟨D4, v4, b4⟩ := g4
      rw [v4] at t4
      obtain ⟨D5, v5, b5⟩ := g5
      rw [v5] at t5
      obtain ⟨D6, v6, b6⟩ := g6
      rw [v6] at t6
      obtain ⟨D7, v7, b7⟩ := g7
      rw [v7] at t7
      obtain ⟨D8, v8, b8⟩ := g8
      rw [v8] at t8
      have e0 : a.tmps.getD 29 undef = .slice (some ⟨D0, 3, none⟩) 4 4 := by rw [Array.getD_eq_getD_getElem?, t0]; rfl
      have e1 : a.tmps.getD 36 undef = .slice (some ⟨D1, 0, none⟩) 2 2 := by rw [Array.getD_eq_getD_getElem?, t1]; rfl
      have e2 : a.tmps.getD 41 undef = .slice (some ⟨D2, 0, none⟩) 2 2 := by rw [Array.getD_eq_getD_getElem?, t2]; rfl
      have e3 : a.tmps.getD 44 undef = .slice (some ⟨D3, 0, none⟩) 2 2 := by rw [Array.getD_eq_getD_getElem?, t3]; rfl
      have e4 : a.tmps.getD 51 undef = .slice (some ⟨D4, 0, none⟩) 2 2 := by rw [Array.getD_eq_getD_getElem?, t4]; rfl
      have e5 : a.tmps.getD 53 undef = .slice (some ⟨D5, 0, none⟩) 1 1 := by rw [Array.getD_eq_getD_getElem?, t5]; rfl
      have e6 : a.tmps.getD 55 undef = .slice (some ⟨D6, 0, none⟩) 1 1 := by rw [Array.getD_eq_getD_getElem?, t6]; rfl
      have e7 : a.tmps.getD 57 undef = .slice (some ⟨D7, 0, none⟩) 1 1 := by rw [Array.getD_eq_getD_getElem?, t7]; rfl
      have e8 : a.tmps.getD 63 undef = .slice (some ⟨D8, 0, none⟩) 3 3 := by rw [Array.getD_eq_getD_getElem?, t8]; rfl
      go_simp
      exact hK.out _ _ ((Below.refl _ _).alloc (Nat.le_refl _) _) ⟨_, D0, D1, D2, D3, D4, D5, D6, D7, D8, rfl, Box.new _ _ _, b0.alloc _, b1.alloc _, b2.alloc _, b3.alloc _, b4.alloc _, b5.alloc _, b6.alloc _, b7.alloc _, b8.alloc _⟩
    | 37, ho =>
      obtain rfl := Option.some.inj ho
      intro a W vs hB hd hf K hK
      have t0 := (hd ⟨36, .data⟩ (by simp) rfl).2 _ _ rfl rfl
      have g0 : GO (vs 36) W := (hd ⟨36, .data⟩ (by simp) rfl).1
      clear hd hf
      go_simp
      exact hK.out _ _ (Below.refl _ _) g0
    | _ + 38, ho => cases ho
  case refine_2 =>
    intro vs W hB hg
    obtain ⟨G, B0, B1, B2, B3, B4, B5, B6, B7, B8, hv, bG, b0, b1, b2, b3, b4, b5, b6, b7, b8⟩ := (show GO (vs 37) W from hg 37 (by decide))
    have HB := Lib.hid ((Below.refl w.heap.size w).drew.trans hB)
    simp only [putAll, Nat.zero_add, Nat.reduceAdd, _root_.Go.Act.put, List.setIfInBounds_toArray, List.set_cons_zero, List.set_cons_succ]
    rw [hv]
    clear hg hB hv
    have HO : Hid (∀ V, Below (W.alloc (.cells #[.int .i64 0, .int .i64 1, .int .i64 1, .int .i64 1, .int .i64 1, .int .i64 0, .int .i64 0, .int .i64 0, .int .i64 2] 3)).heap.size (W.alloc (.cells #[.int .i64 0, .int .i64 1, .int .i64 1, .int .i64 1, .int .i64 1, .int .i64 0, .int .i64 0, .int .i64 0, .int .i64 2] 3)) V → Below w.heap.size w V ∧ w.heap.size ≤ V.heap.size ∧ ∀ k, k < 9 → ∃ (B off n : Nat) (L : List Act), V.cell? ⟨G, k, none⟩ = some (.slice (some ⟨B, off, none⟩) n n) ∧ Acts V (some ⟨B, off, none⟩) n L ∧ V.cell? ⟨W.heap.size, k, none⟩ = some (.int .i64 ((followL L).2.2.1 : Int)) ∧ (followL L).2.2.2 = 13) := Lib.hid fun V h => by
      have hbb : Below W.heap.size W V := ((Below.refl _ _).alloc (Nat.le_refl _) _).trans (h.mono (by simp))
      have wB := (Box.new W #[.int .i64 0, .int .i64 1, .int .i64 1, .int .i64 1, .int .i64 1, .int .i64 0, .int .i64 0, .int .i64 0, .int .i64 2] 3).below h (by simp)
      have gB := bG.below hbb bG.lt
      have hww := HB.out.trans (hbb.mono HB.out.size)
      refine ⟨hww, hww.size, fun k hk => ?_⟩
      match k, hk with
      | 0, _ => exact ⟨B0, 3, 4, _, gB.cell 0, odd_0 (b0.below hbb b0.lt), (wB.cell 0).trans (by rw [fol_0.1]; rfl), fol_0.2⟩
      | 1, _ => exact ⟨B1, 0, 2, _, gB.cell 1, odd_1 (b1.below hbb b1.lt), (wB.cell 1).trans (by rw [fol_1.1]; rfl), fol_1.2⟩
      | 2, _ => exact ⟨B2, 0, 2, _, gB.cell 2, odd_2 (b2.below hbb b2.lt), (wB.cell 2).trans (by rw [fol_2.1]; rfl), fol_2.2⟩
      | 3, _ => exact ⟨B3, 0, 2, _, gB.cell 3, odd_3 (b3.below hbb b3.lt), (wB.cell 3).trans (by rw [fol_3.1]; rfl), fol_3.2⟩
      | 4, _ => exact ⟨B4, 0, 2, _, gB.cell 4, odd_4 (b4.below hbb b4.lt), (wB.cell 4).trans (by rw [fol_4.1]; rfl), fol_4.2⟩
      | 5, _ => exact ⟨B5, 0, 1, _, gB.cell 5, odd_5 (b5.below hbb b5.lt), (wB.cell 5).trans (by rw [fol_5.1]; rfl), fol_5.2⟩
      | 6, _ => exact ⟨B6, 0, 1, _, gB.cell 6, odd_6 (b6.below hbb b6.lt), (wB.cell 6).trans (by rw [fol_6.1]; rfl), fol_6.2⟩
      | 7, _ => exact ⟨B7, 0, 1, _, gB.cell 7, odd_7 (b7.below hbb b7.lt), (wB.cell 7).trans (by rw [fol_7.1]; rfl), fol_7.2⟩
      | 8, _ => exact ⟨B8, 0, 3, _, gB.cell 8, odd_8 (b8.below hbb b8.lt), (wB.cell 8).trans (by rw [fol_8.1]; rfl), fol_8.2⟩
      | _ + 9, hk => exact absurd hk (by omega)
    clear bG b0 b1 b2 b3 b4 b5 b6 b7 b8
    go_wp2_with fail
    go_loopw [3] (fun iv wr => ∃ k : Nat, k ≤ 9 ∧ iv = .int .i64 k ∧ Below (W.alloc (.cells #[.int .i64 0, .int .i64 1, .int .i64 1, .int .i64 1, .int .i64 1, .int .i64 0, .int .i64 0, .int .i64 0, .int .i64 2] 3)).heap.size (W.alloc (.cells #[.int .i64 0, .int .i64 1, .int .i64 1, .int .i64 1, .int .i64 1, .int .i64 0, .int .i64 0, .int .i64 0, .int .i64 2] 3)) wr) (fun iv _ => 9 - (intOf iv).toNat)
    case atStart => exact ⟨0, by omega, rfl, Below.refl _ _⟩
    case round =>
      obtain ⟨k, hk, rfl, hBr⟩ := hrel
      obtain ⟨hw1, hz1, hall⟩ := HO.out _ hBr
      by_cases hlt : k < 9
      · obtain ⟨B, off, n, L, cG, hA, cW, h13⟩ := hall k hlt
        have hk' : (k : Int) < 9 := by omega
        have H13 := Lib.hid h13
        obtain ⟨F, hF⟩ : ∃ F, (followL L).2.2.1 = F := ⟨_, rfl⟩
        rw [hF] at cW
        have HF := Lib.hid hF
        clear h13 hF hall
        go_wp2_with fail
        refine (follow_any _ n n L _ hA (HC.out _ hw1)).mono ?_
        rw [HF.out, H13.out]
        rintro e w2 ⟨v1, v2, rfl, _, _, hb⟩
        have cW2 : w2.cell? ⟨W.heap.size, k, none⟩ = some (.int .i64 (F : Int)) := (hb.cell (p := ⟨W.heap.size, k, none⟩) (by have := hBr.size; simp at this; show W.heap.size < wr.heap.size; omega)).trans cW
        have hB2 := Lib.hid (hBr.trans (hb.mono hBr.size))
        clear hb hA cG cW
        go_wp2_with fail
        go_roundw
        case rel => exact ⟨k + 1, by omega, by go_num, hB2.out⟩
        case measure => simp [intOf]; omega
      · obtain rfl : k = 9 := by omega
        have HW := Lib.hid hw1
        clear hall hBr hw1 hz1
        obtain ⟨iA, hiA, hzA⟩ := Option.map_eq_some_iff.1 infoAct0
        simp only [Prod.mk.injEq] at hzA
        obtain ⟨hzA, hsA, hbA⟩ := hzA
        have hmk : ∀ V, (Instr.makeSlice 50 (.int .i64 257) (.int .i64 257)).run Tryd.prog V = .ok (.slice (some ⟨V.heap.size, 0, none⟩) 257 257) (V.alloc (.cells (madeCells #[.int .i64 0, .string ⟨#[]⟩, .int .i64 0] 771) 70)) := fun V => by
          have h := run_make (P := Tryd.prog) V 50 70 iA _ (by kernel_rfl) hiA hzA .i64 .i64 257 257 (by omega) (by omega) (by rw [hbA]; omega) (by omega)
          rw [hsA] at h
          exact h
        have hmb : ∀ V, (Instr.makeSlice 118 (.int .i64 65537) (.int .i64 65537)).run Tryd.prog V = .ok (.slice (some ⟨V.heap.size, 0, none⟩) 65537 65537) (V.alloc (.cells bigCells 5)) := fun V =>
          run_make_row' (P := Tryd.prog) 118 5 (.int .u8 0) 1 (by kernel_rfl) infoByte rfl .i64 .i64 65537 (by omega) (by omega) V
        have HMB := Lib.hid hmb
        clear hmb hiA hzA hsA hbA
        go_wp2_with fail
        refine (follow_any _ 257 257 _ _ (acts_made (Box.new wr _ _)) (HC.out _ (HW.out.alloc HW.out.size _))).mono ?_
        rw [fol_made]
        rintro e w2 ⟨v1, v2, rfl, _, _, hb⟩
        have HW2 := Lib.hid (HW.out.trans (((Below.refl wr.heap.size wr).alloc (Nat.le_refl _) _ |>.trans (hb.mono (by simp))).mono HW.out.size))
        clear hb hmk
        dsimp only
        go_wp2_with fail
        refine (follow_any none 0 0 [] _ ⟨rfl, .inl rfl, (fun _ h => by cases h), by omega⟩ (HC.out _ HW2.out)).mono ?_
        rw [fol_nil]
        rintro e w3 ⟨v3, v4, rfl, hr3, hr4, hb⟩
        obtain ⟨a3, c3, rfl⟩ := row_form hr3
        obtain ⟨a4, c4, rfl⟩ := row_form hr4
        have HW3 := Lib.hid (HW2.out.trans (hb.mono HW2.out.size))
        clear hb hr3 hr4
        dsimp only [List.length_nil]
        go_wp2_with fail
        refine (follow_any _ 6 6 _ _ (acts_six (Box.new w3 _ _)) (HC.out _ (HW3.out.alloc HW3.out.size _))).mono ?_
        rw [fol_six]
        rintro e w4 ⟨v5, v6, rfl, hr5, hr6, hb⟩
        dsimp only at hr5 hr6
        obtain ⟨a5, c5, rfl⟩ := row_form hr5
        obtain ⟨a6, c6, rfl⟩ := row_form hr6
        have T4 := texts_of_row (l := [⟨#[113]⟩, ⟨#[112]⟩]) hr5 rfl
        have I4 := ints_of_row (l := [0, 2]) hr6 rfl
        have HW4 := Lib.hid (HW3.out.trans (((Below.refl w3.heap.size w3).alloc (Nat.le_refl _) _ |>.trans (hb.mono (by simp))).mono HW3.out.size))
        have T4a := Lib.hid (T4.below (below_new (.cells #[.string ⟨#[113]⟩, .string ⟨#[112]⟩] 9)))
        have I4a := Lib.hid (I4.below (below_new (.cells #[.string ⟨#[113]⟩, .string ⟨#[112]⟩] 9)))
        have HW4a := Lib.hid (HW4.out.alloc HW4.out.size (.cells #[.string ⟨#[113]⟩, .string ⟨#[112]⟩] 9))
        have Q4a := Lib.hid (texts_new2 w4 ⟨#[113]⟩ ⟨#[112]⟩)
        clear hb hr5 hr6 T4 I4
        dsimp only [List.length_cons, List.length_nil]
        go_wp2_with (first
          | (go_at_call 17; refine (same_any a6 (some ⟨_, 0, none⟩) 2 c6 2 2 [0, 2] [0, 2] _ I5a.out (ints_new2 w5 0 2) max2 max2).mono ?_; rintro e w6 ⟨rfl, hb⟩; have HW6 := Lib.hid (HW5a.out.trans (hb.mono HW5a.out.size)); clear hb)
          | (go_at_call 38; refine (sameTexts_any a5 (some ⟨_, 0, none⟩) 2 c5 2 2 [⟨#[113]⟩, ⟨#[112]⟩] [⟨#[113]⟩, ⟨#[112]⟩] _ T4a.out Q4a.out max2 max2).mono ?_; rintro e w5 ⟨rfl, hb⟩; have HW5 := Lib.hid (HW4a.out.trans (hb.mono HW4a.out.size)); have I5 := I4a.out.below hb; have I5a := Lib.hid (I5.below (below_new (.cells #[.int .i64 0, .int .i64 2] 3))); have HW5a := Lib.hid (HW5.out.alloc HW5.out.size (.cells #[.int .i64 0, .int .i64 2] 3)); clear hb I5; rw [textsB_self]))

        have HT : Hid (∀ V, Below (w6.alloc (.cells #[.string ⟨#[]⟩, .string ⟨#[10]⟩, .string ⟨#[115, 116, 97, 110, 100, 32, 103, 114, 111, 119, 32, 56, 32, 49, 50, 32, 112, 114, 101, 115, 115, 32, 51, 32, 110, 101, 97, 114, 32, 51, 48]⟩, .string ⟨#[115, 116, 97, 110, 100, 32, 103, 114, 111, 119, 32, 48, 56, 32, 49, 50, 32, 112, 114, 101, 115, 115, 32, 51, 32, 110, 101, 97, 114, 32, 51, 48, 10]⟩, .string ⟨#[115, 116, 97, 110, 100, 32, 103, 114, 111, 119, 32, 56, 32, 49, 50, 32, 112, 114, 101, 115, 115, 32, 51, 32, 110, 101, 97, 114, 32, 51, 48, 10, 10]⟩, .string ⟨#[115, 116, 97, 110, 100, 32, 103, 114, 111, 119, 32, 49, 50, 32, 56, 32, 112, 114, 101, 115, 115, 32, 51, 32, 110, 101, 97, 114, 32, 51, 48, 10]⟩, .string ⟨#[115, 116, 97, 110, 100, 32, 103, 114, 111, 119, 32, 56, 32, 49, 50, 32, 112, 114, 101, 115, 115, 32, 51, 32, 110, 101, 97, 114, 32, 51, 48, 10, 116, 114, 101, 101, 32, 65, 32, 48, 32, 48, 32, 103, 105, 114, 116, 104, 32, 57, 48, 48, 32, 57, 50, 48, 32, 99, 114, 111, 119, 110, 32, 52, 48, 10]⟩, .string ⟨#[115, 116, 97, 110, 100, 32, 103, 114, 111, 119, 32, 56, 32, 49, 50, 32, 112, 114, 101, 115, 115, 32, 51, 32, 110, 101, 97, 114, 32, 51, 48, 10, 116, 114, 101, 101, 32, 97, 32, 48, 32, 48, 32, 103, 105, 114, 116, 104, 32, 57, 48, 48, 32, 57, 50, 48, 32, 99, 114, 111, 119, 110, 32, 52, 48, 32, 10]⟩, .string ⟨#[115, 116, 97, 110, 100, 32, 103, 114, 111, 119, 32, 56, 32, 49, 50, 32, 112, 114, 101, 115, 115, 32, 51, 32, 110, 101, 97, 114, 32, 51, 48, 10, 116, 114, 101, 101, 32, 97, 32, 48, 32, 48, 32, 103, 105, 114, 116, 104, 32, 57, 48, 48, 32, 57, 50, 48, 10]⟩, .string ⟨#[83, 116, 97, 110, 100, 32, 103, 114, 111, 119, 32, 56, 32, 49, 50, 32, 112, 114, 101, 115, 115, 32, 51, 32, 110, 101, 97, 114, 32, 51, 48, 10]⟩] 9)).heap.size (w6.alloc (.cells #[.string ⟨#[]⟩, .string ⟨#[10]⟩, .string ⟨#[115, 116, 97, 110, 100, 32, 103, 114, 111, 119, 32, 56, 32, 49, 50, 32, 112, 114, 101, 115, 115, 32, 51, 32, 110, 101, 97, 114, 32, 51, 48]⟩, .string ⟨#[115, 116, 97, 110, 100, 32, 103, 114, 111, 119, 32, 48, 56, 32, 49, 50, 32, 112, 114, 101, 115, 115, 32, 51, 32, 110, 101, 97, 114, 32, 51, 48, 10]⟩, .string ⟨#[115, 116, 97, 110, 100, 32, 103, 114, 111, 119, 32, 56, 32, 49, 50, 32, 112, 114, 101, 115, 115, 32, 51, 32, 110, 101, 97, 114, 32, 51, 48, 10, 10]⟩, .string ⟨#[115, 116, 97, 110, 100, 32, 103, 114, 111, 119, 32, 49, 50, 32, 56, 32, 112, 114, 101, 115, 115, 32, 51, 32, 110, 101, 97, 114, 32, 51, 48, 10]⟩, .string ⟨#[115, 116, 97, 110, 100, 32, 103, 114, 111, 119, 32, 56, 32, 49, 50, 32, 112, 114, 101, 115, 115, 32, 51, 32, 110, 101, 97, 114, 32, 51, 48, 10, 116, 114, 101, 101, 32, 65, 32, 48, 32, 48, 32, 103, 105, 114, 116, 104, 32, 57, 48, 48, 32, 57, 50, 48, 32, 99, 114, 111, 119, 110, 32, 52, 48, 10]⟩, .string ⟨#[115, 116, 97, 110, 100, 32, 103, 114, 111, 119, 32, 56, 32, 49, 50, 32, 112, 114, 101, 115, 115, 32, 51, 32, 110, 101, 97, 114, 32, 51, 48, 10, 116, 114, 101, 101, 32, 97, 32, 48, 32, 48, 32, 103, 105, 114, 116, 104, 32, 57, 48, 48, 32, 57, 50, 48, 32, 99, 114, 111, 119, 110, 32, 52, 48, 32, 10]⟩, .string ⟨#[115, 116, 97, 110, 100, 32, 103, 114, 111, 119, 32, 56, 32, 49, 50, 32, 112, 114, 101, 115, 115, 32, 51, 32, 110, 101, 97, 114, 32, 51, 48, 10, 116, 114, 101, 101, 32, 97, 32, 48, 32, 48, 32, 103, 105, 114, 116, 104, 32, 57, 48, 48, 32, 57, 50, 48, 10]⟩, .string ⟨#[83, 116, 97, 110, 100, 32, 103, 114, 111, 119, 32, 56, 32, 49, 50, 32, 112, 114, 101, 115, 115, 32, 51, 32, 110, 101, 97, 114, 32, 51, 48, 10]⟩] 9)) V → Below w.heap.size w V ∧ w.heap.size ≤ V.heap.size ∧ ∀ k, k < 10 → ∃ s, V.cell? ⟨w6.heap.size, k, none⟩ = some (.string s) ∧ parseS s = (⟨[], 0, 0, 0, 0⟩, 5)) := Lib.hid fun V h => by
          have wB := (Box.new w6 #[.string ⟨#[]⟩, .string ⟨#[10]⟩, .string ⟨#[115, 116, 97, 110, 100, 32, 103, 114, 111, 119, 32, 56, 32, 49, 50, 32, 112, 114, 101, 115, 115, 32, 51, 32, 110, 101, 97, 114, 32, 51, 48]⟩, .string ⟨#[115, 116, 97, 110, 100, 32, 103, 114, 111, 119, 32, 48, 56, 32, 49, 50, 32, 112, 114, 101, 115, 115, 32, 51, 32, 110, 101, 97, 114, 32, 51, 48, 10]⟩, .string ⟨#[115, 116, 97, 110, 100, 32, 103, 114, 111, 119, 32, 56, 32, 49, 50, 32, 112, 114, 101, 115, 115, 32, 51, 32, 110, 101, 97, 114, 32, 51, 48, 10, 10]⟩, .string ⟨#[115, 116, 97, 110, 100, 32, 103, 114, 111, 119, 32, 49, 50, 32, 56, 32, 112, 114, 101, 115, 115, 32, 51, 32, 110, 101, 97, 114, 32, 51, 48, 10]⟩, .string ⟨#[115, 116, 97, 110, 100, 32, 103, 114, 111, 119, 32, 56, 32, 49, 50, 32, 112, 114, 101, 115, 115, 32, 51, 32, 110, 101, 97, 114, 32, 51, 48, 10, 116, 114, 101, 101, 32, 65, 32, 48, 32, 48, 32, 103, 105, 114, 116, 104, 32, 57, 48, 48, 32, 57, 50, 48, 32, 99, 114, 111, 119, 110, 32, 52, 48, 10]⟩, .string ⟨#[115, 116, 97, 110, 100, 32, 103, 114, 111, 119, 32, 56, 32, 49, 50, 32, 112, 114, 101, 115, 115, 32, 51, 32, 110, 101, 97, 114, 32, 51, 48, 10, 116, 114, 101, 101, 32, 97, 32, 48, 32, 48, 32, 103, 105, 114, 116, 104, 32, 57, 48, 48, 32, 57, 50, 48, 32, 99, 114, 111, 119, 110, 32, 52, 48, 32, 10]⟩, .string ⟨#[115, 116, 97, 110, 100, 32, 103, 114, 111, 119, 32, 56, 32, 49, 50, 32, 112, 114, 101, 115, 115, 32, 51, 32, 110, 101, 97, 114, 32, 51, 48, 10, 116, 114, 101, 101, 32, 97, 32, 48, 32, 48, 32, 103, 105, 114, 116, 104, 32, 57, 48, 48, 32, 57, 50, 48, 10]⟩, .string ⟨#[83, 116, 97, 110, 100, 32, 103, 114, 111, 119, 32, 56, 32, 49, 50, 32, 112, 114, 101, 115, 115, 32, 51, 32, 110, 101, 97, 114, 32, 51, 48, 10]⟩] 9).below h (by simp)
          have hww := HW6.out.trans (((Below.refl w6.heap.size w6).alloc (Nat.le_refl _) _ |>.trans (h.mono (by simp))).mono HW6.out.size)
          refine ⟨hww, hww.size, fun k hk => ?_⟩
          match k, hk with
          | 0, _ => exact ⟨_, wB.cell 0, txt_0⟩
          | 1, _ => exact ⟨_, wB.cell 1, txt_1⟩
          | 2, _ => exact ⟨_, wB.cell 2, txt_2⟩
          | 3, _ => exact ⟨_, wB.cell 3, txt_3⟩
          | 4, _ => exact ⟨_, wB.cell 4, txt_4⟩
          | 5, _ => exact ⟨_, wB.cell 5, txt_5⟩
          | 6, _ => exact ⟨_, wB.cell 6, txt_6⟩
          | 7, _ => exact ⟨_, wB.cell 7, txt_7⟩
          | 8, _ => exact ⟨_, wB.cell 8, txt_8⟩
          | 9, _ => exact ⟨_, wB.cell 9, txt_9⟩
          | _ + 10, hk => exact absurd hk (by omega)
        clear HO
        go_loopw [21] (fun iv wr => ∃ k : Nat, k ≤ 10 ∧ iv = .int .i64 k ∧ Below (w6.alloc (.cells #[.string ⟨#[]⟩, .string ⟨#[10]⟩, .string ⟨#[115, 116, 97, 110, 100, 32, 103, 114, 111, 119, 32, 56, 32, 49, 50, 32, 112, 114, 101, 115, 115, 32, 51, 32, 110, 101, 97, 114, 32, 51, 48]⟩, .string ⟨#[115, 116, 97, 110, 100, 32, 103, 114, 111, 119, 32, 48, 56, 32, 49, 50, 32, 112, 114, 101, 115, 115, 32, 51, 32, 110, 101, 97, 114, 32, 51, 48, 10]⟩, .string ⟨#[115, 116, 97, 110, 100, 32, 103, 114, 111, 119, 32, 56, 32, 49, 50, 32, 112, 114, 101, 115, 115, 32, 51, 32, 110, 101, 97, 114, 32, 51, 48, 10, 10]⟩, .string ⟨#[115, 116, 97, 110, 100, 32, 103, 114, 111, 119, 32, 49, 50, 32, 56, 32, 112, 114, 101, 115, 115, 32, 51, 32, 110, 101, 97, 114, 32, 51, 48, 10]⟩, .string ⟨#[115, 116, 97, 110, 100, 32, 103, 114, 111, 119, 32, 56, 32, 49, 50, 32, 112, 114, 101, 115, 115, 32, 51, 32, 110, 101, 97, 114, 32, 51, 48, 10, 116, 114, 101, 101, 32, 65, 32, 48, 32, 48, 32, 103, 105, 114, 116, 104, 32, 57, 48, 48, 32, 57, 50, 48, 32, 99, 114, 111, 119, 110, 32, 52, 48, 10]⟩, .string ⟨#[115, 116, 97, 110, 100, 32, 103, 114, 111, 119, 32, 56, 32, 49, 50, 32, 112, 114, 101, 115, 115, 32, 51, 32, 110, 101, 97, 114, 32, 51, 48, 10, 116, 114, 101, 101, 32, 97, 32, 48, 32, 48, 32, 103, 105, 114, 116, 104, 32, 57, 48, 48, 32, 57, 50, 48, 32, 99, 114, 111, 119, 110, 32, 52, 48, 32, 10]⟩, .string ⟨#[115, 116, 97, 110, 100, 32, 103, 114, 111, 119, 32, 56, 32, 49, 50, 32, 112, 114, 101, 115, 115, 32, 51, 32, 110, 101, 97, 114, 32, 51, 48, 10, 116, 114, 101, 101, 32, 97, 32, 48, 32, 48, 32, 103, 105, 114, 116, 104, 32, 57, 48, 48, 32, 57, 50, 48, 10]⟩, .string ⟨#[83, 116, 97, 110, 100, 32, 103, 114, 111, 119, 32, 56, 32, 49, 50, 32, 112, 114, 101, 115, 115, 32, 51, 32, 110, 101, 97, 114, 32, 51, 48, 10]⟩] 9)).heap.size (w6.alloc (.cells #[.string ⟨#[]⟩, .string ⟨#[10]⟩, .string ⟨#[115, 116, 97, 110, 100, 32, 103, 114, 111, 119, 32, 56, 32, 49, 50, 32, 112, 114, 101, 115, 115, 32, 51, 32, 110, 101, 97, 114, 32, 51, 48]⟩, .string ⟨#[115, 116, 97, 110, 100, 32, 103, 114, 111, 119, 32, 48, 56, 32, 49, 50, 32, 112, 114, 101, 115, 115, 32, 51, 32, 110, 101, 97, 114, 32, 51, 48, 10]⟩, .string ⟨#[115, 116, 97, 110, 100, 32, 103, 114, 111, 119, 32, 56, 32, 49, 50, 32, 112, 114, 101, 115, 115, 32, 51, 32, 110, 101, 97, 114, 32, 51, 48, 10, 10]⟩, .string ⟨#[115, 116, 97, 110, 100, 32, 103, 114, 111, 119, 32, 49, 50, 32, 56, 32, 112, 114, 101, 115, 115, 32, 51, 32, 110, 101, 97, 114, 32, 51, 48, 10]⟩, .string ⟨#[115, 116, 97, 110, 100, 32, 103, 114, 111, 119, 32, 56, 32, 49, 50, 32, 112, 114, 101, 115, 115, 32, 51, 32, 110, 101, 97, 114, 32, 51, 48, 10, 116, 114, 101, 101, 32, 65, 32, 48, 32, 48, 32, 103, 105, 114, 116, 104, 32, 57, 48, 48, 32, 57, 50, 48, 32, 99, 114, 111, 119, 110, 32, 52, 48, 10]⟩, .string ⟨#[115, 116, 97, 110, 100, 32, 103, 114, 111, 119, 32, 56, 32, 49, 50, 32, 112, 114, 101, 115, 115, 32, 51, 32, 110, 101, 97, 114, 32, 51, 48, 10, 116, 114, 101, 101, 32, 97, 32, 48, 32, 48, 32, 103, 105, 114, 116, 104, 32, 57, 48, 48, 32, 57, 50, 48, 32, 99, 114, 111, 119, 110, 32, 52, 48, 32, 10]⟩, .string ⟨#[115, 116, 97, 110, 100, 32, 103, 114, 111, 119, 32, 56, 32, 49, 50, 32, 112, 114, 101, 115, 115, 32, 51, 32, 110, 101, 97, 114, 32, 51, 48, 10, 116, 114, 101, 101, 32, 97, 32, 48, 32, 48, 32, 103, 105, 114, 116, 104, 32, 57, 48, 48, 32, 57, 50, 48, 10]⟩, .string ⟨#[83, 116, 97, 110, 100, 32, 103, 114, 111, 119, 32, 56, 32, 49, 50, 32, 112, 114, 101, 115, 115, 32, 51, 32, 110, 101, 97, 114, 32, 51, 48, 10]⟩] 9)) wr) (fun iv _ => 10 - (intOf iv).toNat)
        case atStart => exact ⟨0, by omega, rfl, Below.refl _ _⟩
        case round =>
          obtain ⟨k, hk, rfl, hBr⟩ := hrel
          obtain ⟨hw1, hz1, hall⟩ := HT.out _ hBr
          by_cases hlt : k < 10
          · obtain ⟨s, cT, hP⟩ := hall k hlt
            have hk' : (k : Int) < 10 := by omega
            have HP := Lib.hid hP
            clear hP hall
            go_wp2_with fail
            refine (parse_any s _).mono ?_
            rw [HP.out]
            rintro e w7 ⟨a7, c7, rfl, _, hb⟩
            have hB7 := Lib.hid ((hBr.trans (hb.mono hBr.size)).alloc (hBr.trans (hb.mono hBr.size)).size (.cells #[.slice a7 0 c7, .int .i64 0, .int .i64 0, .int .i64 0, .int .i64 0] 29))
            clear hb cT
            dsimp only [List.length_nil]
            go_wp2_with fail
            go_roundw
            case rel => exact ⟨k + 1, by omega, by go_num, hB7.out⟩
            case measure => simp [intOf]; omega
          · obtain rfl : k = 10 := by omega
            have HWA := Lib.hid hw1
            clear hall hBr hw1 hz1 HT
            go_wp2_with fail
            refine (parse_any ⟨#[115, 116, 97, 110, 100, 32, 103, 114, 111, 119, 32, 48, 32, 48, 32, 112, 114, 101, 115, 115, 32, 48, 32, 110, 101, 97, 114, 32, 48, 10]⟩ _).mono ?_
            rw [txt_e]
            rintro e w8 ⟨a8, c8, rfl, _, hb⟩
            have HW8 := Lib.hid (HWA.out.trans (hb.mono HWA.out.size))
            clear hb
            dsimp only [List.length_nil]
            have hmb := HMB.out
            have kb := Box.new (w8.alloc (.cells #[.slice a8 0 c8, .int .i64 0, .int .i64 0, .int .i64 0, .int .i64 0] 29)) bigCells 5
            rw [World.size_alloc] at kb
            have kc := conv_zero _ kb
            have HB8 := Lib.hid ((Box.new w8 #[.slice a8 0 c8, .int .i64 0, .int .i64 0, .int .i64 0, .int .i64 0] 29).alloc (.cells bigCells 5))
            have HW8a := Lib.hid ((HW8.out.alloc HW8.out.size (.cells #[.slice a8 0 c8, .int .i64 0, .int .i64 0, .int .i64 0, .int .i64 0] 29)).alloc (HW8.out.alloc HW8.out.size (.cells #[.slice a8 0 c8, .int .i64 0, .int .i64 0, .int .i64 0, .int .i64 0] 29)).size (.cells bigCells 5))
            clear kb
            go_wp2_with fail
            refine (parse_any bigText _).mono ?_
            rw [txt_big]
            rintro e w9 ⟨a9, c9, rfl, _, hb⟩
            have HB9 := Lib.hid ((HB8.out.below hb HB8.out.lt).alloc (.cells #[.slice a9 0 c9, .int .i64 0, .int .i64 0, .int .i64 0, .int .i64 0] 29))
            have HW9 := Lib.hid ((HW8a.out.trans (hb.mono HW8a.out.size)).alloc (HW8a.out.trans (hb.mono HW8a.out.size)).size (.cells #[.slice a9 0 c9, .int .i64 0, .int .i64 0, .int .i64 0, .int .i64 0] 29))
            have k0 : (w9.alloc (.cells #[.slice a9 0 c9, .int .i64 0, .int .i64 0, .int .i64 0, .int .i64 0] 29)).cell? ⟨w8.heap.size, 0, none⟩ = some (.slice a8 0 c8) := HB9.out.cell 0
            have k4 : (w9.alloc (.cells #[.slice a9 0 c9, .int .i64 0, .int .i64 0, .int .i64 0, .int .i64 0] 29)).cell? ⟨w8.heap.size, 4, none⟩ = some (.int .i64 0) := HB9.out.cell 4
            clear hb kc hmb
            dsimp only [List.length_nil]
            go_wp2_with fail
            go_ret
            exact ⟨rfl, HW9.out⟩
end Go.Proofs.YtpkjjiieglebbaaDoor
