/- Contracts of package stand's reader over what is left of the text: expect, number, span, tag. Conditions: a text that fits into memory. -/
import Derived.Test.YtcjmfacdjdegkaaDoorNU
namespace Go.Proofs.YtcjmfacdjdegkaaDoor
open Go Go.RowKit
def expL (p l : List UInt8) : Option (List UInt8) := if Lib.hasPrefix l p = true then some (Lib.trimPrefix l p) else none
def badD (l : List UInt8) : Bool := decide ((l.takeWhile digB).length < 1) || (decide (9 < (l.takeWhile digB).length) || (decide (1 < (l.takeWhile digB).length) && decide (l.head? = some 48)))
def numL (l : List UInt8) : Option (Int × List UInt8) :=
  if badD l = true then none else some (valD (l.take (l.takeWhile digB).length), l.drop (l.takeWhile digB).length)
def spanL (l : List UInt8) : Option ((Int × Int) × List UInt8) :=
  (numL l).bind fun a => (expL [32] a.2).bind fun r => (numL r).bind fun b => some ((a.1, b.1), b.2)
theorem fits_of {n : Nat} (h : n ≤ 65536) : n ≤ maxLen := by unfold maxLen; omega
/-- What is left for the reader to read, and that all else is as it was. -/
structure Rd (Br : Nat) (w w' : World) (l : List UInt8) : Prop where
  box : ∃ s : ByteArray, Boxed w' Br 135 (.string s) ∧ s.data.toList = l ∧ s.size ≤ 65536
  bel : Below Br w w'
  old : ∀ x, x < w.heap.size → x ≠ Br → w'.heap[x]? = w.heap[x]?
def errV : Ending := .panicked [{ v := .iface 31 (.int .i64 5), recovered := false }]
theorem Rd.trans {Br : Nat} {w w1 w2 : World} {l1 l2 : List UInt8} (h : Rd Br w w1 l1) (k : Rd Br w1 w2 l2) : Rd Br w w2 l2 :=
  ⟨k.box, h.bel.trans k.bel, fun x hx hn => (k.old x (Nat.lt_of_lt_of_le hx h.bel.size) hn).trans (h.old x hx hn)⟩
theorem Rd.start {Br : Nat} {w w1 : World} {s : ByteArray} (hb : Boxed w Br 135 (.string s)) (hs : s.size ≤ 65536) (h : Below w.heap.size w w1) : Rd Br w w1 s.data.toList :=
  ⟨⟨s, boxed_of hb (h.block _ hb.lt), rfl, hs⟩, h.mono (Nat.le_of_lt hb.lt), fun x hx _ => h.block x hx⟩
theorem Rd.set {Br : Nat} {w : World} {s s' : ByteArray} (hb : Boxed w Br 135 (.string s)) (hs : s'.size ≤ 65536) : Rd Br w (w.setCell ⟨Br, 0, none⟩ (.string s')) s'.data.toList :=
  ⟨⟨s', Boxed.set _ hb, rfl, hs⟩, (Below.refl Br _).setCell (p := ⟨Br, 0, none⟩) (by exact Nat.le_refl Br) _, fun x hx hn => Below.heap_setCell _ _ _ x (by exact hn)⟩
theorem trim_len (l p : List UInt8) : (Lib.trimPrefix l p).length ≤ l.length := by
  unfold Lib.trimPrefix
  split <;> simp
theorem expect_rd {p : ByteArray} {s : ByteArray} {l : List UInt8} (Br : Nat) (w : World) (hs : s.size ≤ 65536) (hb : Boxed w Br 135 (.string s)) (h : expL p.data.toList s.data.toList = some l) :
    Calls Tryd.prog 102 #[.pointer (some ⟨Br, 0, none⟩), .string p] w fun e w' => e = .returned (.tuple #[]) ∧ Rd Br w w' l := by
  unfold expL at h
  split at h
  · rename_i hp
    cases h
    refine (expect_yes Br s p w hb hp).mono ?_
    rintro e w' ⟨rfl, rfl⟩
    refine ⟨rfl, ?_⟩
    have := Rd.set (s' := ⟨(Lib.trimPrefix s.data.toList p.data.toList).toArray⟩) hb (by
      have h1 := trim_len s.data.toList p.data.toList
      have h2 := size_len s
      show (Lib.trimPrefix s.data.toList p.data.toList).toArray.size ≤ 65536
      simp only [List.size_toArray]
      omega)
    simpa using this
  · cases h
theorem expect_er {p : ByteArray} {s : ByteArray} (Br : Nat) (w : World) (hb : Boxed w Br 135 (.string s)) (h : expL p.data.toList s.data.toList = none) :
    Calls Tryd.prog 102 #[.pointer (some ⟨Br, 0, none⟩), .string p] w fun e w' => e = errV ∧ Below Br w w' := by
  unfold expL at h
  split at h
  · cases h
  · rename_i hp
    refine (expect_no Br s p w hb (by simpa using hp)).mono ?_
    rintro e w' ⟨rfl, rfl⟩
    exact ⟨rfl, Below.refl _ _⟩
theorem number_rd {s : ByteArray} {n : Int} {l : List UInt8} (Br : Nat) (w : World) (hs : s.size ≤ 65536) (hb : Boxed w Br 135 (.string s)) (h : numL s.data.toList = some (n, l)) :
    Calls Tryd.prog 103 #[.pointer (some ⟨Br, 0, none⟩)] w fun e w' => e = .returned (.int .i64 n) ∧ Rd Br w w' l := by
  unfold numL at h
  split at h
  · cases h
  · rename_i hp
    cases h
    simp only [badD, Bool.or_eq_true, Bool.and_eq_true, decide_eq_true_eq, not_or, not_and] at hp
    obtain ⟨h1, h2, h3⟩ := hp
    refine (number_yes Br s w (fits_of hs) hb (by unfold digs; omega) (by unfold digs; omega) (fun hd h0 e0 => h3 hd ?_)).mono ?_
    · rw [List.head?_eq_getElem?, List.getElem?_eq_getElem (by simpa using h0)]
      exact congrArg some e0
    · rintro e w' ⟨rfl, rfl⟩
      refine ⟨rfl, ?_⟩
      have := Rd.set (s' := s.extract (digs s) s.size) hb (by simp; omega)
      have e : (s.extract (digs s) s.size).data.toList = s.data.toList.drop (digs s) := by
        simp [ByteArray.data_extract, Array.toList_extract, List.extract]
        exact List.take_of_length_le (by simp)
      rw [e] at this
      exact this
theorem number_er {s : ByteArray} (Br : Nat) (w : World) (hs : s.size ≤ 65536) (hb : Boxed w Br 135 (.string s)) (h : numL s.data.toList = none) :
    Calls Tryd.prog 103 #[.pointer (some ⟨Br, 0, none⟩)] w fun e w' => e = errV ∧ Below Br w w' := by
  unfold numL at h
  split at h
  · rename_i hp
    simp only [badD, Bool.or_eq_true, Bool.and_eq_true, decide_eq_true_eq] at hp
    refine (number_no Br s w (fits_of hs) hb ?_).mono ?_
    · rcases hp with h1 | h2 | ⟨h3, h4⟩
      · exact .inl h1
      · exact .inr (.inl h2)
      · refine .inr (.inr ⟨h3, ?_⟩)
        rw [List.head?_eq_getElem?] at h4
        obtain ⟨h5, h6⟩ := List.getElem?_eq_some_iff.1 h4
        exact ⟨by simpa using h5, h6⟩
    · rintro e w' ⟨rfl, rfl⟩
      exact ⟨rfl, (Below.refl Br _).setCell (p := ⟨Br, 0, none⟩) (by exact Nat.le_refl Br) _⟩
  · cases h
end Go.Proofs.YtcjmfacdjdegkaaDoor
