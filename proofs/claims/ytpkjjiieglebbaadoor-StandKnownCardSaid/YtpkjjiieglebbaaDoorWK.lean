/- Contract of the laws' works: the chapter's examples hold. Conditions: the variable changes and the table of powers of ten hold what the text lays. -/
import Derived.Test.YtpkjjiieglebbaaDoorLH
namespace Go.Proofs.YtpkjjiieglebbaaDoor
open Go Go.RowKit
theorem ex_check : checkE (⟨exT, 8, 12, 3, 30⟩ : Stand) = 0 := by
  have h : standB (⟨exT, 8, 12, 3, 30⟩ : Stand) = true := by
    simp only [standB, headB, exT, treesB, clash, Lib.toList_data, List.any_cons, List.any_nil, List.nil_append, List.cons_append]
    decide +kernel
  unfold checkE; rw [h]; rfl
theorem ex_nearE : nearE (⟨exT, 8, 12, 3, 30⟩ : Stand) 1 = 0 := by unfold nearE; rw [ex_check]; rfl
theorem ex_near : nearR (⟨exT, 8, 12, 3, 30⟩ : Stand) 1 = [0, 2] := by unfold nearR; rw [if_pos ex_nearE]; decide +kernel
theorem ex_girthE : girthE (⟨exT, 8, 12, 3, 30⟩ : Stand) 1 10 = 0 := by unfold girthE; rw [ex_check]; rfl
theorem ex_girth : girthR (⟨exT, 8, 12, 3, 30⟩ : Stand) 1 10 = (1020, 1060) := by unfold girthR; rw [if_pos ex_girthE]; decide +kernel
theorem ex_facesE : facesE (⟨950, 1300, 1700, 35⟩ : Rule) (⟨exT, 8, 12, 3, 30⟩ : Stand) 0 9 = 0 := by unfold facesE; rw [ex_check]; rfl
theorem ex_faces : facesR (⟨950, 1300, 1700, 35⟩ : Rule) (⟨exT, 8, 12, 3, 30⟩ : Stand) 0 9 = (0, 1) := by unfold facesR; rw [if_pos ex_facesE]; decide +kernel
theorem ex_readyE : readyE (⟨950, 1300, 1700, 35⟩ : Rule) (⟨exT, 8, 12, 3, 30⟩ : Stand) 2 1 = 0 := by unfold readyE; rw [ex_check]; rfl
theorem ex_ready : readyR (⟨950, 1300, 1700, 35⟩ : Rule) (⟨exT, 8, 12, 3, 30⟩ : Stand) 2 1 = (22, 50) := by unfold readyR; rw [if_pos ex_readyE]; decide +kernel
theorem ex_thinE : thinE (⟨exT, 8, 12, 3, 30⟩ : Stand) 30 = 0 := by unfold thinE; rw [ex_check]; rfl
theorem ex_thin : thinR (⟨exT, 8, 12, 3, 30⟩ : Stand) 30 = ([0, 2], 1600) := by unfold thinR; rw [if_pos ex_thinE]; decide +kernel
theorem ex_leftE : leftE (⟨exT, 8, 12, 3, 30⟩ : Stand) [0] = 0 := by unfold leftE; rw [ex_check]; rfl
def exO : Stand := ⟨[⟨⟨#[97]⟩, 0, 0, 900, 920, 40⟩], 8, 12, 3, 30⟩
theorem ex_left : leftS (⟨exT, 8, 12, 3, 30⟩ : Stand) [0] = exO := by unfold leftS; rw [if_pos ex_leftE]; rfl
theorem exO_check : checkE exO = 0 := by
  have h : standB exO = true := by
    simp only [standB, headB, exO, treesB, List.any_nil]
    decide +kernel
  unfold checkE; rw [h]; rfl
theorem it8 : Lib.itoa 8 = [56] := by simp [Lib.itoa, Lib.decDigits]
theorem it12 : Lib.itoa 12 = [49, 50] := by simp [Lib.itoa, Lib.decDigits]
theorem it3 : Lib.itoa 3 = [51] := by simp [Lib.itoa, Lib.decDigits]
theorem it30 : Lib.itoa 30 = [51, 48] := by simp [Lib.itoa, Lib.decDigits]
theorem it0 : Lib.itoa 0 = [48] := by simp [Lib.itoa, Lib.decDigits]
theorem it900 : Lib.itoa 900 = [57, 48, 48] := by simp [Lib.itoa, Lib.decDigits]
theorem it920 : Lib.itoa 920 = [57, 50, 48] := by simp [Lib.itoa, Lib.decDigits]
theorem it40 : Lib.itoa 40 = [52, 48] := by simp [Lib.itoa, Lib.decDigits]
/-- The text of the stand with the first tree. -/
def exX : List UInt8 := [115, 116, 97, 110, 100, 32, 103, 114, 111, 119, 32, 56, 32, 49, 50, 32, 112, 114, 101, 115, 115, 32, 51, 32, 110, 101, 97, 114, 32, 51, 48, 10, 116, 114, 101, 101, 32, 97, 32, 48, 32, 48, 32, 103, 105, 114, 116, 104, 32, 57, 48, 48, 32, 57, 50, 48, 32, 99, 114, 111, 119, 110, 32, 52, 48, 10]
theorem ex_print : printL exO = exX := by
  simp only [printL, headT, exO, num, it8, it12, it3, it30, linesL, treeT, it0, it900, it920, it40, List.flatMap_cons, List.flatMap_nil, List.append_nil]
  decide +kernel
theorem ex_read : readL exX = some exO := by kernel_rfl
theorem exO_stand : standB exO = true := (valid_of exO_check).1
theorem ex_follow : followL [⟨0, ⟨#[120]⟩, 1⟩, ⟨1000, ⟨#[120]⟩, 2⟩, ⟨1200, ⟨#[120]⟩, 3⟩, ⟨1500, ⟨#[120]⟩, 5⟩, ⟨1500, ⟨#[120]⟩, 1⟩] = ([⟨#[120]⟩], [1], 5, 0) := by rfl
end Go.Proofs.YtpkjjiieglebbaaDoor
namespace Go.Proofs.YtpkjjiieglebbaaDoor
open Go Go.RowKit
theorem ints_of_row {w : World} {base n c : Nat} {a : Option Addr} {l : List Int} (h : w.ownsRow base 3 1 (.slice a n c) l.length (l.map (Value.int .i64))) (hn : n = l.length) : IntsAt w a n l := by
  subst hn
  refine ⟨rfl, ?_⟩
  rcases h.2 with ⟨_, h0⟩ | ⟨g, cap, cur, h1, _, hg, _, _, _, _⟩
  · exact .inl (List.eq_nil_of_length_eq_zero h0)
  · simp only [Value.slice.injEq] at h1
    obtain ⟨rfl, _, rfl⟩ := h1
    refine .inr ⟨g, 0, rfl, lt_of_block hg, fun i x hx => ?_⟩
    have := h.cells (g := g) rfl i (.int .i64 x) (by simp [hx])
    rwa [Addr.add_lit] at this
theorem texts_of_row {w : World} {base n c : Nat} {a : Option Addr} {l : List ByteArray} (h : w.ownsRow base 9 1 (.slice a n c) l.length (l.map Value.string)) (hn : n = l.length) : TextsAt w a n l := by
  subst hn
  refine ⟨rfl, ?_⟩
  rcases h.2 with ⟨_, h0⟩ | ⟨g, cap, cur, h1, _, hg, _, _, _, _⟩
  · exact .inl (List.eq_nil_of_length_eq_zero h0)
  · simp only [Value.slice.injEq] at h1
    obtain ⟨rfl, _, rfl⟩ := h1
    refine .inr ⟨g, 0, rfl, lt_of_block hg, fun i x hx => ?_⟩
    have := h.cells (g := g) rfl i (.string x) (by simp [hx])
    rwa [Addr.add_lit] at this
theorem near_ex (a : Option Addr) (w : World) (hT : Trees w a 3 3 exT) :
    Calls Tryd.prog 15 #[.agg #[.slice a 3 3, .int .i64 8, .int .i64 12, .int .i64 3, .int .i64 30], .int .i64 1] w fun e w' => ∃ a' c', e = .returned (.tuple #[.slice a' 2 c', .int .i64 0]) ∧ IntsAt w' a' 2 [0, 2] ∧ Below w.heap.size w w' := by
  refine (callsIn_wide.1 (near_in 6 (by omega) a 3 3 exT 8 12 3 30 1 w hT)).mono ?_
  rintro e w' ⟨v, rfl, hv, hb⟩
  rw [ex_nearE, ex_near] at *
  obtain ⟨a', c', rfl⟩ := row_form hv.1
  exact ⟨a', c', rfl, ints_of_row (l := [0, 2]) hv.1 rfl, hb⟩
theorem girth_ex (a : Option Addr) (w : World) (hT : Trees w a 3 3 exT) :
    Calls Tryd.prog 25 #[.agg #[.slice a 3 3, .int .i64 8, .int .i64 12, .int .i64 3, .int .i64 30], .int .i64 1, .int .i64 10] w fun e w' => e = .returned (.tuple #[.agg #[.int .i64 1020, .int .i64 1060], .int .i64 0]) ∧ Below w.heap.size w w' := by
  refine (girth_any a 3 3 exT 8 12 3 30 1 10 w hT).mono ?_
  rw [ex_girthE, ex_girth]
  exact fun _ _ h => h
theorem faces_ex (a : Option Addr) (w : World) (hT : Trees w a 3 3 exT) :
    Calls Tryd.prog 27 #[.agg #[.int .i64 950, .int .i64 1300, .int .i64 1700, .int .i64 35], .agg #[.slice a 3 3, .int .i64 8, .int .i64 12, .int .i64 3, .int .i64 30], .int .i64 0, .int .i64 9] w fun e w' => e = .returned (.tuple #[.agg #[.int .i64 0, .int .i64 1], .int .i64 0]) ∧ Below w.heap.size w w' := by
  refine (faces_any 950 1300 1700 35 a 3 3 exT 8 12 3 30 0 9 w hT).mono ?_
  rw [ex_facesE, ex_faces]
  exact fun _ _ h => h
theorem ready_ex (a : Option Addr) (w : World) (hT : Trees w a 3 3 exT) :
    Calls Tryd.prog 29 #[.agg #[.int .i64 950, .int .i64 1300, .int .i64 1700, .int .i64 35], .agg #[.slice a 3 3, .int .i64 8, .int .i64 12, .int .i64 3, .int .i64 30], .int .i64 2, .int .i64 1] w fun e w' => e = .returned (.tuple #[.agg #[.int .i64 22, .int .i64 50], .int .i64 0]) ∧ Below w.heap.size w w' := by
  refine (ready_any 950 1300 1700 35 a 3 3 exT 8 12 3 30 2 1 w hT).mono ?_
  rw [ex_readyE, ex_ready]
  exact fun _ _ h => h
theorem thin_ex (a : Option Addr) (w : World) (hT : Trees w a 3 3 exT) :
    Calls Tryd.prog 31 #[.agg #[.slice a 3 3, .int .i64 8, .int .i64 12, .int .i64 3, .int .i64 30], .int .i64 30] w fun e w' => ∃ a' c', e = .returned (.tuple #[.slice a' 2 c', .int .i64 1600, .int .i64 0]) ∧ IntsAt w' a' 2 [0, 2] ∧ Below w.heap.size w w' := by
  refine (thin_any a 3 3 exT 8 12 3 30 30 w hT).mono ?_
  rintro e w' ⟨v, rfl, hv, hb⟩
  rw [ex_thinE, ex_thin] at *
  obtain ⟨a', c', rfl⟩ := row_form hv
  exact ⟨a', c', rfl, ints_of_row (l := [0, 2]) hv rfl, hb⟩
theorem left_ex (a ka : Option Addr) (w : World) (hT : Trees w a 3 3 exT) (hK : IntsAt w ka 1 [0]) :
    Calls Tryd.prog 33 #[.agg #[.slice a 3 3, .int .i64 8, .int .i64 12, .int .i64 3, .int .i64 30], .slice ka 1 1] w fun e w' => ∃ a' n' c', e = .returned (.tuple #[.agg #[.slice a' n' c', .int .i64 8, .int .i64 12, .int .i64 3, .int .i64 30], .int .i64 0]) ∧ Trees w' a' n' c' exO.ts ∧ Below w.heap.size w w' := by
  refine (left_any a ka 3 3 1 1 exT [0] 8 12 3 30 w hT (by simp) (by unfold maxLen; omega) hK).mono ?_
  rw [ex_leftE, ex_left]
  exact fun _ _ h => h
theorem print_ex (a : Option Addr) (n c : Nat) (w : World) (hT : Trees w a n c exO.ts) (hP : Tab w) :
    Calls Tryd.prog 39 #[.agg #[.slice a n c, .int .i64 8, .int .i64 12, .int .i64 3, .int .i64 30]] w fun e w' => e = .returned (.tuple #[.string ⟨exX.toArray⟩, .int .i64 0]) ∧ Below w.heap.size w w' := by
  have hc : checkE ⟨exO.ts, 8, 12, 3, 30⟩ = 0 := exO_check
  have hp : printL ⟨exO.ts, 8, 12, 3, 30⟩ = exX := ex_print
  refine (print_any a n c exO.ts 8 12 3 30 w hT hP).mono ?_
  rw [hc, hp, if_pos rfl]
  exact fun _ _ h => h
theorem parse_ex (w : World) :
    Calls Tryd.prog 41 #[.string ⟨exX.toArray⟩] w fun e w' => ∃ a n c, e = .returned (.tuple #[.agg #[.slice a n c, .int .i64 8, .int .i64 12, .int .i64 3, .int .i64 30], .int .i64 0]) ∧ Trees w' a n c exO.ts ∧ Below w.heap.size w w' := by
  refine (parse_ok (s := ⟨exX.toArray⟩) (S := exO) w (by decide +kernel) ex_read exO_stand).mono ?_
  rintro e w' ⟨v, rfl, hv, hb⟩
  obtain ⟨a', c', rfl⟩ := row_form hv
  refine ⟨a', _, c', rfl, trees_of_row hv rfl (fun t ht => ?_) (by decide), hb⟩
  simp only [exO, List.mem_cons, List.not_mem_nil, or_false] at ht
  rcases ht with rfl
  show (1 : Nat) ≤ maxLen; unfold maxLen; omega
theorem follow_ex (a : Option Addr) (w : World) (hA : Acts w a 5 [⟨0, ⟨#[120]⟩, 1⟩, ⟨1000, ⟨#[120]⟩, 2⟩, ⟨1200, ⟨#[120]⟩, 3⟩, ⟨1500, ⟨#[120]⟩, 5⟩, ⟨1500, ⟨#[120]⟩, 1⟩]) (hC : Chg w) :
    Calls Tryd.prog 36 #[.slice a 5 5] w fun e w' => ∃ a1 c1 a2 c2, e = .returned (.tuple #[.slice a1 1 c1, .slice a2 1 c2, .int .i64 5, .int .i64 0]) ∧ TextsAt w' a1 1 [⟨#[120]⟩] ∧ IntsAt w' a2 1 [1] ∧ Below w.heap.size w w' := by
  refine (follow_any a 5 5 _ w hA hC).mono ?_
  rintro e w' ⟨v1, v2, rfl, h1, h2, hb⟩
  rw [ex_follow] at *
  obtain ⟨a1, c1, rfl⟩ := row_form h1
  obtain ⟨a2, c2, rfl⟩ := row_form h2
  exact ⟨a1, c1, a2, c2, rfl, texts_of_row (l := [⟨#[120]⟩]) h1 rfl, ints_of_row (l := [1]) h2 rfl, hb⟩
end Go.Proofs.YtpkjjiieglebbaaDoor
