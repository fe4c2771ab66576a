/- Contract of package stand's line: the tokens, a blank between any two, and an end of line. Condition: few and short tokens. -/
import Derived.Test.YtpkjjiieglebbaaDoorTE
namespace Go.Proofs.YtpkjjiieglebbaaDoor
open Go Go.RowKit
def lineL (xs : List ByteArray) : List UInt8 := Lib.join (xs.map (·.data.toList)) [32] ++ [10]
theorem line_any (bk c : Nat) (xs : List ByteArray) (w : World) (hcells : ∀ (j : Nat) x, xs[j]? = some x → w.cell? ⟨bk, 0 + j, none⟩ = some (.string x)) (hbk : bk < w.heap.size) (hN : xs.length ≤ 1000) (hcap : xs.length ≤ c)
    (hlen : (Lib.join (xs.map (·.data.toList)) [32]).length ≤ 1000000) :
    Calls Tryd.prog 84 #[.slice (some ⟨bk, 0, none⟩) xs.length c] w fun e w' => e = .returned (.string ⟨(lineL xs).toArray⟩) ∧ Below w.heap.size w w' := by
  have HJ := Lib.hid (Tryd.strings_Join bk 0 c xs ⟨#[32]⟩ w hcells hbk (by omega) hcap (by show (Lib.join (xs.map (·.data.toList)) [32]).length ≤ _; omega))
  obtain ⟨js, hjs⟩ : ∃ js : ByteArray, js = ⟨(Lib.join (xs.map (·.data.toList)) [32]).toArray⟩ := ⟨_, rfl⟩
  have hsz : js.size ≤ 1000000 := by rw [hjs]; show (Lib.join (xs.map (·.data.toList)) [32]).toArray.size ≤ _; simpa using hlen
  have HJS := Lib.hid hjs
  clear hjs hcells
  go_enter Tryd.func84, Tryd.ntmps84
  go_wp2_with (go_at_call 100; refine HJ.out.mono ?_; rintro e w1 ⟨rfl, hb⟩; rw [show (⟨(Lib.join (xs.map (·.data.toList)) (⟨#[32]⟩ : ByteArray).data.toList).toArray⟩ : ByteArray) = js from HJS.out.symm])
  have he : js ++ ⟨#[10]⟩ = ⟨(lineL xs).toArray⟩ := by
    rw [HJS.out]
    apply ByteArray.ext
    apply Array.ext'
    simp [lineL, ByteArray.data_append]
  rw [he]
  go_ret
  exact ⟨rfl, hb⟩
end Go.Proofs.YtpkjjiieglebbaaDoor
