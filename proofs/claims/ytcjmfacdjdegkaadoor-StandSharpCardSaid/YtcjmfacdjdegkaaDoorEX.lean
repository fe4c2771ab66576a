/- The chapter's examples: what the contracts say at them. Conditions: none. -/
import Derived.Test.YtcjmfacdjdegkaaDoorLH
namespace Go.Proofs.YtcjmfacdjdegkaaDoor
open Go Go.RowKit
theorem ex_check : checkE (⟨exT, 8, 12, 3, 30⟩ : Stand) = 0 := by
  have h : standB (⟨exT, 8, 12, 3, 30⟩ : Stand) = true := by
    simp only [standB, headB, exT, treesB, clash, Lib.toList_data, List.any_cons, List.any_nil, List.nil_append, List.cons_append]
    decide +kernel
  unfold checkE; rw [h]; rfl
theorem ex_nearE : nearE (⟨exT, 8, 12, 3, 30⟩ : Stand) 1 = 0 := by unfold nearE; rw [ex_check]; rfl
theorem ex_near : nearR (⟨exT, 8, 12, 3, 30⟩ : Stand) 1 = [0, 2] := by unfold nearR; rw [if_pos ex_nearE]; decide +kernel
theorem ex_girthE : girthE (⟨exT, 8, 12, 3, 30⟩ : Stand) 1 10 = 0 := by unfold girthE; rw [ex_check]; rfl
theorem ex_girth : girthR (⟨exT, 8, 12, 3, 30⟩ : Stand) 1 10 = (1020, 1060) := by unfold girthR; rw [if_pos ex_girthE]; decide +kernel
theorem ex_facesE : facesE (⟨950, 1300, 1700, 35⟩ : Rule) (⟨exT, 8, 12, 3, 30⟩ : Stand) 0 9 = 0 := by unfold facesE; rw [ex_check]; rfl
theorem ex_faces : facesR (⟨950, 1300, 1700, 35⟩ : Rule) (⟨exT, 8, 12, 3, 30⟩ : Stand) 0 9 = (0, 1) := by unfold facesR; rw [if_pos ex_facesE]; decide +kernel
theorem ex_readyE : readyE (⟨950, 1300, 1700, 35⟩ : Rule) (⟨exT, 8, 12, 3, 30⟩ : Stand) 2 1 = 0 := by unfold readyE; rw [ex_check]; rfl
theorem ex_ready : readyR (⟨950, 1300, 1700, 35⟩ : Rule) (⟨exT, 8, 12, 3, 30⟩ : Stand) 2 1 = (22, 50) := by unfold readyR; rw [if_pos ex_readyE]; decide +kernel
theorem ex_thinE : thinE (⟨exT, 8, 12, 3, 30⟩ : Stand) 30 = 0 := by unfold thinE; rw [ex_check]; rfl
theorem ex_thin : thinR (⟨exT, 8, 12, 3, 30⟩ : Stand) 30 = ([0, 2], 1600) := by unfold thinR; rw [if_pos ex_thinE]; decide +kernel
theorem ex_leftE : leftE (⟨exT, 8, 12, 3, 30⟩ : Stand) [0] = 0 := by unfold leftE; rw [ex_check]; rfl
def exO : Stand := ⟨[⟨⟨#[97]⟩, 0, 0, 900, 920, 40⟩], 8, 12, 3, 30⟩
theorem ex_left : leftS (⟨exT, 8, 12, 3, 30⟩ : Stand) [0] = exO := by unfold leftS; rw [if_pos ex_leftE]; rfl
theorem exO_check : checkE exO = 0 := by
  have h : standB exO = true := by
    simp only [standB, headB, exO, treesB, List.any_nil]
    decide +kernel
  unfold checkE; rw [h]; rfl
theorem it8 : Lib.itoa 8 = [56] := by simp [Lib.itoa, Lib.decDigits]
theorem it12 : Lib.itoa 12 = [49, 50] := by simp [Lib.itoa, Lib.decDigits]
theorem it3 : Lib.itoa 3 = [51] := by simp [Lib.itoa, Lib.decDigits]
theorem it30 : Lib.itoa 30 = [51, 48] := by simp [Lib.itoa, Lib.decDigits]
theorem it0 : Lib.itoa 0 = [48] := by simp [Lib.itoa, Lib.decDigits]
theorem it900 : Lib.itoa 900 = [57, 48, 48] := by simp [Lib.itoa, Lib.decDigits]
theorem it920 : Lib.itoa 920 = [57, 50, 48] := by simp [Lib.itoa, Lib.decDigits]
theorem it40 : Lib.itoa 40 = [52, 48] := by simp [Lib.itoa, Lib.decDigits]
/-- The text of the stand with the first tree. -/
def exX : List UInt8 := [115, 116, 97, 110, 100, 32, 103, 114, 111, 119, 32, 56, 32, 49, 50, 32, 112, 114, 101, 115, 115, 32, 51, 32, 110, 101, 97, 114, 32, 51, 48, 10, 116, 114, 101, 101, 32, 97, 32, 48, 32, 48, 32, 103, 105, 114, 116, 104, 32, 57, 48, 48, 32, 57, 50, 48, 32, 99, 114, 111, 119, 110, 32, 52, 48, 10]
theorem ex_print : printL exO = exX := by
  simp only [printL, headT, exO, num, it8, it12, it3, it30, linesL, treeT, it0, it900, it920, it40, List.flatMap_cons, List.flatMap_nil, List.append_nil]
  decide +kernel
theorem ex_read : readL exX = some exO := by kernel_rfl
theorem exO_stand : standB exO = true := (valid_of exO_check).1
theorem ex_follow : followL [⟨0, ⟨#[120]⟩, 1⟩, ⟨1000, ⟨#[120]⟩, 2⟩, ⟨1200, ⟨#[120]⟩, 3⟩, ⟨1500, ⟨#[120]⟩, 5⟩, ⟨1500, ⟨#[120]⟩, 1⟩] = ([⟨#[120]⟩], [1], 5, 0) := by rfl
end Go.Proofs.YtcjmfacdjdegkaaDoor
