/- Contracts of package stand's reader: tag. Condition: a text of at most 65536 bytes. -/
import Derived.Test.YtpkjjiieglebbaaDoorNU
import Derived.Lib.IndexLaws
namespace Go.Proofs.YtpkjjiieglebbaaDoor
open Go Go.RowKit
def expL (p l : List UInt8) : Option (List UInt8) := if Lib.hasPrefix l p = true then some (Lib.trimPrefix l p) else none
def badD (l : List UInt8) : Bool := decide ((l.takeWhile digB).length < 1) || (decide (9 < (l.takeWhile digB).length) || (decide (1 < (l.takeWhile digB).length) && decide (l.head? = some 48)))
def numL (l : List UInt8) : Option (Int × List UInt8) :=
  if badD l = true then none else some (valD (l.take (l.takeWhile digB).length), l.drop (l.takeWhile digB).length)
def spanL (l : List UInt8) : Option ((Int × Int) × List UInt8) :=
  (numL l).bind fun a => (expL [32] a.2).bind fun r => (numL r).bind fun b => some ((a.1, b.1), b.2)
theorem fits_of {n : Nat} (h : n ≤ 65536) : n ≤ maxLen := by unfold maxLen; omega
/-- What is left for the reader to read, and that all else is as it was. -/
structure Rd (Br : Nat) (w w' : World) (l : List UInt8) : Prop where
  box : ∃ s : ByteArray, Boxed w' Br 135 (.string s) ∧ s.data.toList = l ∧ s.size ≤ 65536
  bel : Below Br w w'
  old : ∀ x, x < w.heap.size → x ≠ Br → w'.heap[x]? = w.heap[x]?
def errV : Ending := .panicked [{ v := .iface 31 (.int .i64 5), recovered := false }]
theorem Rd.trans {Br : Nat} {w w1 w2 : World} {l1 l2 : List UInt8} (h : Rd Br w w1 l1) (k : Rd Br w1 w2 l2) : Rd Br w w2 l2 :=
  ⟨k.box, h.bel.trans k.bel, fun x hx hn => (k.old x (Nat.lt_of_lt_of_le hx h.bel.size) hn).trans (h.old x hx hn)⟩
theorem Rd.start {Br : Nat} {w w1 : World} {s : ByteArray} (hb : Boxed w Br 135 (.string s)) (hs : s.size ≤ 65536) (h : Below w.heap.size w w1) : Rd Br w w1 s.data.toList :=
  ⟨⟨s, boxed_of hb (h.block _ hb.lt), rfl, hs⟩, h.mono (Nat.le_of_lt hb.lt), fun x hx _ => h.block x hx⟩
theorem Rd.set {Br : Nat} {w : World} {s s' : ByteArray} (hb : Boxed w Br 135 (.string s)) (hs : s'.size ≤ 65536) : Rd Br w (w.setCell ⟨Br, 0, none⟩ (.string s')) s'.data.toList :=
  ⟨⟨s', Boxed.set _ hb, rfl, hs⟩, (Below.refl Br _).setCell (p := ⟨Br, 0, none⟩) (by exact Nat.le_refl Br) _, fun x hx hn => Below.heap_setCell _ _ _ x (by exact hn)⟩
theorem trim_len (l p : List UInt8) : (Lib.trimPrefix l p).length ≤ l.length := by
  unfold Lib.trimPrefix
  split <;> simp
theorem expect_rd {p : ByteArray} {s : ByteArray} {l : List UInt8} (Br : Nat) (w : World) (hs : s.size ≤ 65536) (hb : Boxed w Br 135 (.string s)) (h : expL p.data.toList s.data.toList = some l) :
    Calls Tryd.prog 102 #[.pointer (some ⟨Br, 0, none⟩), .string p] w fun e w' => e = .returned (.tuple #[]) ∧ Rd Br w w' l := by
  unfold expL at h
  split at h
  · rename_i hp
    cases h
    refine (expect_yes Br s p w hb hp).mono ?_
    rintro e w' ⟨rfl, rfl⟩
    refine ⟨rfl, ?_⟩
    have := Rd.set (s' := ⟨(Lib.trimPrefix s.data.toList p.data.toList).toArray⟩) hb (by
      have h1 := trim_len s.data.toList p.data.toList
      have h2 := size_len s
      show (Lib.trimPrefix s.data.toList p.data.toList).toArray.size ≤ 65536
      simp only [List.size_toArray]
      omega)
    simpa using this
  · cases h
theorem expect_er {p : ByteArray} {s : ByteArray} (Br : Nat) (w : World) (hb : Boxed w Br 135 (.string s)) (h : expL p.data.toList s.data.toList = none) :
    Calls Tryd.prog 102 #[.pointer (some ⟨Br, 0, none⟩), .string p] w fun e w' => e = errV ∧ Below Br w w' := by
  unfold expL at h
  split at h
  · cases h
  · rename_i hp
    refine (expect_no Br s p w hb (by simpa using hp)).mono ?_
    rintro e w' ⟨rfl, rfl⟩
    exact ⟨rfl, Below.refl _ _⟩
theorem number_rd {s : ByteArray} {n : Int} {l : List UInt8} (Br : Nat) (w : World) (hs : s.size ≤ 65536) (hb : Boxed w Br 135 (.string s)) (h : numL s.data.toList = some (n, l)) :
    Calls Tryd.prog 103 #[.pointer (some ⟨Br, 0, none⟩)] w fun e w' => e = .returned (.int .i64 n) ∧ Rd Br w w' l := by
  unfold numL at h
  split at h
  · cases h
  · rename_i hp
    cases h
    simp only [badD, Bool.or_eq_true, Bool.and_eq_true, decide_eq_true_eq, not_or, not_and] at hp
    obtain ⟨h1, h2, h3⟩ := hp
    refine (number_yes Br s w (fits_of hs) hb (by unfold digs; omega) (by unfold digs; omega) (fun hd h0 e0 => h3 hd ?_)).mono ?_
    · rw [List.head?_eq_getElem?, List.getElem?_eq_getElem (by simpa using h0)]
      exact congrArg some e0
    · rintro e w' ⟨rfl, rfl⟩
      refine ⟨rfl, ?_⟩
      have := Rd.set (s' := s.extract (digs s) s.size) hb (by simp; omega)
      have e : (s.extract (digs s) s.size).data.toList = s.data.toList.drop (digs s) := by
        simp [ByteArray.data_extract, Array.toList_extract, List.extract]
        exact List.take_of_length_le (by simp)
      rw [e] at this
      exact this
theorem number_er {s : ByteArray} (Br : Nat) (w : World) (hs : s.size ≤ 65536) (hb : Boxed w Br 135 (.string s)) (h : numL s.data.toList = none) :
    Calls Tryd.prog 103 #[.pointer (some ⟨Br, 0, none⟩)] w fun e w' => e = errV ∧ Below Br w w' := by
  unfold numL at h
  split at h
  · rename_i hp
    simp only [badD, Bool.or_eq_true, Bool.and_eq_true, decide_eq_true_eq] at hp
    refine (number_no Br s w (fits_of hs) hb ?_).mono ?_
    · rcases hp with h1 | h2 | ⟨h3, h4⟩
      · exact .inl h1
      · exact .inr (.inl h2)
      · refine .inr (.inr ⟨h3, ?_⟩)
        rw [List.head?_eq_getElem?] at h4
        obtain ⟨h5, h6⟩ := List.getElem?_eq_some_iff.1 h4
        exact ⟨by simpa using h5, h6⟩
    · rintro e w' ⟨rfl, rfl⟩
      exact ⟨rfl, (Below.refl Br _).setCell (p := ⟨Br, 0, none⟩) (by exact Nat.le_refl Br) _⟩
  · cases h
end Go.Proofs.YtpkjjiieglebbaaDoor
namespace Go.Proofs.YtpkjjiieglebbaaDoor
open Go Go.RowKit
theorem spanL_some {l l3 : List UInt8} {a b : Int} (h : spanL l = some ((a, b), l3)) : ∃ l1 l2, numL l = some (a, l1) ∧ expL [32] l1 = some l2 ∧ numL l2 = some (b, l3) := by
  unfold spanL at h
  rcases e1 : numL l with _ | ⟨a', l1⟩
  · rw [e1] at h; cases h
  · rw [e1] at h
    simp only [Option.bind_some] at h
    rcases e2 : expL [32] l1 with _ | l2
    · rw [e2] at h; cases h
    · rw [e2] at h
      simp only [Option.bind_some] at h
      rcases e3 : numL l2 with _ | ⟨b', l3'⟩
      · rw [e3] at h; cases h
      · rw [e3] at h
        simp only [Option.bind_some, Option.some.injEq, Prod.mk.injEq] at h
        obtain ⟨⟨rfl, rfl⟩, rfl⟩ := h
        exact ⟨l1, l2, rfl, e2, e3⟩
theorem spanL_none {l : List UInt8} (h : spanL l = none) : numL l = none ∨ (∃ a l1, numL l = some (a, l1) ∧ (expL [32] l1 = none ∨ ∃ l2, expL [32] l1 = some l2 ∧ numL l2 = none)) := by
  unfold spanL at h
  rcases e1 : numL l with _ | ⟨a', l1⟩
  · exact .inl rfl
  · rw [e1] at h
    simp only [Option.bind_some] at h
    refine .inr ⟨a', l1, rfl, ?_⟩
    rcases e2 : expL [32] l1 with _ | l2
    · exact .inl rfl
    · rw [e2] at h
      simp only [Option.bind_some] at h
      refine .inr ⟨l2, rfl, ?_⟩
      rcases e3 : numL l2 with _ | ⟨b', l3'⟩
      · rfl
      · rw [e3] at h; cases h
theorem Rd.alloc {Br : Nat} {w W : World} {o : Obj} {l : List UInt8} (h : Rd Br (w.alloc o) W l) (hlt : Br < w.heap.size) : Rd Br w W l :=
  ⟨h.box, ((Below.refl Br w).alloc (Nat.le_of_lt hlt) o).trans h.bel, fun x hx hn => (h.old x (by simp; omega) hn).trans (Below.heap_alloc w o x hx)⟩
theorem Rd.new {Br : Nat} {w W : World} {l : List UInt8} (h : Rd Br w W l) (hlt : Br < w.heap.size) (q : Nat) (i : Nat) (hq : w.heap.size ≤ q) (v : Value) : Rd Br w (W.setCell ⟨q, i, none⟩ v) l := by
  obtain ⟨s, hb, hl, hs⟩ := h.box
  have ho : ∀ x, x < w.heap.size → (W.setCell ⟨q, i, none⟩ v).heap[x]? = W.heap[x]? := fun x hx => Below.heap_setCell _ _ _ x (by show x ≠ q; omega)
  exact ⟨⟨s, boxed_of hb (ho Br hlt), hl, hs⟩, h.bel.setCell (by show Br ≤ q; omega) v, fun x hx hn => (ho x hx).trans (h.old x hx hn)⟩
set_option maxRecDepth 100000 in
set_option maxHeartbeats 1000000 in
theorem span_rd {s : ByteArray} {a b : Int} {l : List UInt8} (Br : Nat) (w : World) (hs : s.size ≤ 65536) (hb : Boxed w Br 135 (.string s)) (h : spanL s.data.toList = some ((a, b), l)) :
    Calls Tryd.prog 104 #[.pointer (some ⟨Br, 0, none⟩)] w fun e w' => e = .returned (.agg #[.int .i64 a, .int .i64 b]) ∧ Rd Br w w' l := by
  obtain ⟨l1, l2, h1, h2, h3⟩ := spanL_some h
  have HB := Lib.hid (hb.alloc (.cells #[.int .i64 0, .int .i64 0] 27))
  have HB0 := Lib.hid hb
  have H1 := Lib.hid h1
  have hlt := hb.lt
  clear h h1 hb
  go_enter Tryd.func104, Tryd.ntmps104
  go_wp2_with (first
    | (go_at_call 103; refine (number_rd Br _ hs HB.out H1.out).mono ?_; rintro e w1 ⟨rfl, r1⟩; obtain ⟨s1, x1, y1, z1⟩ := r1.box; have R1 := Lib.hid r1; have X1 := Lib.hid x1; clear r1 x1)
    | (go_at_call 102; refine (expect_rd (p := ⟨#[32]⟩) (l := l2) Br _ z1 X1.out (by rw [y1]; exact h2)).mono ?_; rintro e w2 ⟨rfl, r2⟩; obtain ⟨s2, x2, y2, z2⟩ := r2.box; have R2 := Lib.hid r2; have X2 := Lib.hid x2; clear r2 x2)
    | (go_at_call 103; refine (number_rd Br _ z2 X2.out (by rw [y2]; exact h3)).mono ?_; rintro e w3 ⟨rfl, r3⟩; have R3 := Lib.hid ((R1.out.trans R2.out).trans r3); clear r3;
        have k0 : Box w3 w.heap.size #[.int .i64 0, .int .i64 0] 27 := (R3.out.old _ (by simp) (by omega)).trans (Box.new w _ _); have q0 : w3.cell? ⟨w.heap.size, 0, none⟩ = some (.int .i64 0) := k0.cell 0; have q1 : w3.cell? ⟨w.heap.size, 1, none⟩ = some (.int .i64 0) := k0.cell 1; have q2 : w3.frozen? ⟨w.heap.size, 0, none⟩ = false := k0.free 0; have q3 : w3.frozen? ⟨w.heap.size, 1, none⟩ = false := k0.free 1; have K0 := Lib.hid k0; clear k0))
  have bR2 := (K0.out.set 0 (.int .i64 a)).set 1 (.int .i64 b)
  have r0 := bR2.cell 0
  have r1 := bR2.cell 1
  simp at r0 r1
  exact bodyPost_ret (v := .agg #[.int .i64 a, .int .i64 b]) (by simp [results, Tryd.results104, go_sem, r0, r1]) rfl ⟨rfl, ((R3.out.alloc hlt).new hlt _ _ (Nat.le_refl _) _).new hlt _ _ (Nat.le_refl _) _⟩
set_option maxRecDepth 100000 in
set_option maxHeartbeats 1000000 in
theorem span_er {s : ByteArray} (Br : Nat) (w : World) (hs : s.size ≤ 65536) (hb : Boxed w Br 135 (.string s)) (h : spanL s.data.toList = none) :
    Calls Tryd.prog 104 #[.pointer (some ⟨Br, 0, none⟩)] w fun e w' => e = errV ∧ Below Br w w' := by
  have HB := Lib.hid (hb.alloc (.cells #[.int .i64 0, .int .i64 0] 27))
  have hlt := hb.lt
  have HA := Lib.hid ((Below.refl Br w).alloc (Nat.le_of_lt hlt) (.cells #[.int .i64 0, .int .i64 0] 27))
  rcases spanL_none h with h1 | ⟨a, l1, h1, h2 | ⟨l2, h2, h3⟩⟩
  all_goals
    have H1 := Lib.hid h1
    clear h h1 hb
    go_enter Tryd.func104, Tryd.ntmps104
    go_wp2_with (first
      | (go_at_call 103; refine (number_rd Br _ hs HB.out H1.out).mono ?_; rintro e w1 ⟨rfl, r1⟩; obtain ⟨s1, x1, y1, z1⟩ := r1.box; have R1 := Lib.hid r1; have X1 := Lib.hid x1; clear r1 x1)
      | (go_at_call 103; refine (number_er Br _ hs HB.out H1.out).mono ?_; rintro e w1 ⟨rfl, r1⟩; have RE := Lib.hid (HA.out.trans r1); clear r1; unfold errV)
      | (go_at_call 102; refine (expect_rd (p := ⟨#[32]⟩) (l := l2) Br _ z1 X1.out (by rw [y1]; exact h2)).mono ?_; rintro e w2 ⟨rfl, r2⟩; obtain ⟨s2, x2, y2, z2⟩ := r2.box; have R2 := Lib.hid r2; have X2 := Lib.hid x2; clear r2 x2)
      | (go_at_call 102; refine (expect_er (p := ⟨#[32]⟩) Br _ X1.out (by rw [y1]; exact h2)).mono ?_; rintro e w2 ⟨rfl, r2⟩; have RE := Lib.hid ((HA.out.trans R1.out.bel).trans r2); clear r2; unfold errV)
      | (go_at_call 103; refine (number_er Br _ z2 X2.out (by rw [y2]; exact h3)).mono ?_; rintro e w3 ⟨rfl, r3⟩; have RE := Lib.hid (((HA.out.trans R1.out.bel).trans R2.out.bel).trans r3); clear r3; unfold errV))
    exact ⟨rfl, rfl, RE.out⟩
end Go.Proofs.YtpkjjiieglebbaaDoor
namespace Go.Proofs.YtpkjjiieglebbaaDoor
open Go Go.RowKit
def tagL (l : List UInt8) : Option (List UInt8 × List UInt8) := if Lib.indexByte l 32 < 0 then none else some (l.take (Lib.indexByte l 32).toNat, l.drop (Lib.indexByte l 32).toNat)
theorem strClone_any (s : ByteArray) (w : World) (hs : s.size ≤ 65536) :
    Calls Tryd.prog 122 #[.string s] w fun e w' => e = .returned (.string s) ∧ Below w.heap.size w w' := by
  go_enter Tryd.func122, Tryd.ntmps122
  go_wp2_with (go_at_call 132; refine (Tryd.stringslite_Clone s _ (by omega)).mono ?_; rintro e w1 ⟨rfl, hb⟩)
  go_ret
  exact ⟨rfl, hb⟩
theorem index_le (l : List UInt8) (h : ¬ Lib.indexByte l 32 < 0) : (Lib.indexByte l 32).toNat ≤ l.length := by
  have := Lib.indexByte_some (l := l) (c := 32) (o := (Lib.indexByte l 32).toNat) (by omega)
  exact Nat.le_of_lt (List.getElem?_eq_some_iff.1 this.1).1
set_option maxHeartbeats 1000000 in
theorem tag_rd {s : ByteArray} {a l : List UInt8} (Br : Nat) (w : World) (hs : s.size ≤ 65536) (hb : Boxed w Br 135 (.string s)) (h : tagL s.data.toList = some (a, l)) :
    Calls Tryd.prog 113 #[.pointer (some ⟨Br, 0, none⟩)] w fun e w' => e = .returned (.string ⟨a.toArray⟩) ∧ Rd Br w w' l := by
  unfold tagL at h
  split at h
  · cases h
  rename_i hneg
  simp only [Option.some.injEq, Prod.mk.injEq] at h
  obtain ⟨rfl, rfl⟩ := h
  obtain ⟨k, hk⟩ : ∃ k : Nat, k = (Lib.indexByte s.data.toList 32).toNat := ⟨_, rfl⟩
  have hI : Lib.indexByte s.data.toList 32 = (k : Int) := by omega
  have hks : k ≤ s.size := by have := index_le _ hneg; rw [← hk] at this; simpa using this
  rw [← hk]
  have c0 := hb.cell
  have HB := Lib.hid hb
  have HK := Lib.hid hk
  have hm : s.size ≤ maxLen := by unfold maxLen; omega
  clear hb hneg hk
  go_enter Tryd.func113, Tryd.ntmps113
  go_wp2_with (first
    | (go_at_call 121; refine (Tryd.strings_IndexByte s 32 _).mono ?_; rintro e w1 ⟨rfl, rfl⟩; rw [show (32 : Int).toNat.toUInt8 = 32 from rfl, hI])
    | (go_at_call 112; refine (take_p Br s k _ hm HB.out hks).mono ?_; rintro e w1 ⟨p, rfl, hp, hpk, rfl⟩; have HP := Lib.hid hp; clear hp)
    | (go_at_call 122; refine (strClone_any p _ (by omega)).mono ?_; rintro e w2 ⟨rfl, hb2⟩))
  go_ret
  have hx : s.extract k s.size = ⟨(s.data.toList.drop k).toArray⟩ := by
    apply ByteArray.ext
    apply Array.ext'
    simp [ByteArray.data_extract, Array.toList_extract, List.extract]
    exact List.take_of_length_le (by simp)
  have hl : (s.extract k s.size).data.toList = s.data.toList.drop k := by rw [hx]
  have hsz : (s.extract k s.size).size ≤ 65536 := by simp; omega
  have r1 := Rd.set (s' := s.extract k s.size) HB.out hsz
  have r2 := Rd.start (Boxed.set (.string (s.extract k s.size)) HB.out) hsz hb2
  have hp : p = ⟨(s.data.toList.take k).toArray⟩ := by rw [← HP.out]
  rw [hl] at r2
  exact ⟨by rw [← hp]; rfl, r1.trans r2⟩
theorem tag_er {s : ByteArray} (Br : Nat) (w : World) (_hs : s.size ≤ 65536) (hb : Boxed w Br 135 (.string s)) (h : tagL s.data.toList = none) :
    Calls Tryd.prog 113 #[.pointer (some ⟨Br, 0, none⟩)] w fun e w' => e = errV ∧ Below Br w w' := by
  unfold tagL at h
  split at h
  · rename_i hneg
    have hI : Lib.indexByte s.data.toList 32 = -1 := by have := Lib.indexByte_ge s.data.toList 32; omega
    have c0 := hb.cell
    clear hb hneg h
    go_enter Tryd.func113, Tryd.ntmps113
    go_wp2_with (go_at_call 121; refine (Tryd.strings_IndexByte s 32 _).mono ?_; rintro e w1 ⟨rfl, rfl⟩; rw [show (32 : Int).toNat.toUInt8 = 32 from rfl, hI])
    exact ⟨rfl, rfl, Below.refl _ _⟩
  · cases h
end Go.Proofs.YtpkjjiieglebbaaDoor
