/- Contracts of package stand's reader: tag. Condition: a text of at most 65536 bytes. -/
import Derived.Test.YtcjmfacdjdegkaaDoorSN
import Derived.Lib.IndexLaws
namespace Go.Proofs.YtcjmfacdjdegkaaDoor
open Go Go.RowKit
def tagL (l : List UInt8) : Option (List UInt8 × List UInt8) := if Lib.indexByte l 32 < 0 then none else some (l.take (Lib.indexByte l 32).toNat, l.drop (Lib.indexByte l 32).toNat)
theorem strClone_any (s : ByteArray) (w : World) (hs : s.size ≤ 65536) :
    Calls Tryd.prog 122 #[.string s] w fun e w' => e = .returned (.string s) ∧ Below w.heap.size w w' := by
  go_enter Tryd.func122, Tryd.ntmps122
  go_wp2_with (go_at_call 132; refine (Tryd.stringslite_Clone s _ (by omega)).mono ?_; rintro e w1 ⟨rfl, hb⟩)
  go_ret
  exact ⟨rfl, hb⟩
theorem index_le (l : List UInt8) (h : ¬ Lib.indexByte l 32 < 0) : (Lib.indexByte l 32).toNat ≤ l.length := by
  have := Lib.indexByte_some (l := l) (c := 32) (o := (Lib.indexByte l 32).toNat) (by omega)
  exact Nat.le_of_lt (List.getElem?_eq_some_iff.1 this.1).1
set_option maxHeartbeats 1000000 in
theorem tag_rd {s : ByteArray} {a l : List UInt8} (Br : Nat) (w : World) (hs : s.size ≤ 65536) (hb : Boxed w Br 135 (.string s)) (h : tagL s.data.toList = some (a, l)) :
    Calls Tryd.prog 113 #[.pointer (some ⟨Br, 0, none⟩)] w fun e w' => e = .returned (.string ⟨a.toArray⟩) ∧ Rd Br w w' l := by
  unfold tagL at h
  split at h
  · cases h
  rename_i hneg
  simp only [Option.some.injEq, Prod.mk.injEq] at h
  obtain ⟨rfl, rfl⟩ := h
  obtain ⟨k, hk⟩ : ∃ k : Nat, k = (Lib.indexByte s.data.toList 32).toNat := ⟨_, rfl⟩
  have hI : Lib.indexByte s.data.toList 32 = (k : Int) := by omega
  have hks : k ≤ s.size := by have := index_le _ hneg; rw [← hk] at this; simpa using this
  rw [← hk]
  have c0 := hb.cell
  have HB := Lib.hid hb
  have HK := Lib.hid hk
  have hm : s.size ≤ maxLen := by unfold maxLen; omega
  clear hb hneg hk
  go_enter Tryd.func113, Tryd.ntmps113
  go_wp2_with (first
    | (go_at_call 121; refine (Tryd.strings_IndexByte s 32 _).mono ?_; rintro e w1 ⟨rfl, rfl⟩; rw [show (32 : Int).toNat.toUInt8 = 32 from rfl, hI])
    | (go_at_call 112; refine (take_p Br s k _ hm HB.out hks).mono ?_; rintro e w1 ⟨p, rfl, hp, hpk, rfl⟩; have HP := Lib.hid hp; clear hp)
    | (go_at_call 122; refine (strClone_any p _ (by omega)).mono ?_; rintro e w2 ⟨rfl, hb2⟩))
  go_ret
  have hx : s.extract k s.size = ⟨(s.data.toList.drop k).toArray⟩ := by
    apply ByteArray.ext
    apply Array.ext'
    simp [ByteArray.data_extract, Array.toList_extract, List.extract]
    exact List.take_of_length_le (by simp)
  have hl : (s.extract k s.size).data.toList = s.data.toList.drop k := by rw [hx]
  have hsz : (s.extract k s.size).size ≤ 65536 := by simp; omega
  have r1 := Rd.set (s' := s.extract k s.size) HB.out hsz
  have r2 := Rd.start (Boxed.set (.string (s.extract k s.size)) HB.out) hsz hb2
  have hp : p = ⟨(s.data.toList.take k).toArray⟩ := by rw [← HP.out]
  rw [hl] at r2
  exact ⟨by rw [← hp]; rfl, r1.trans r2⟩
theorem tag_er {s : ByteArray} (Br : Nat) (w : World) (_hs : s.size ≤ 65536) (hb : Boxed w Br 135 (.string s)) (h : tagL s.data.toList = none) :
    Calls Tryd.prog 113 #[.pointer (some ⟨Br, 0, none⟩)] w fun e w' => e = errV ∧ Below Br w w' := by
  unfold tagL at h
  split at h
  · rename_i hneg
    have hI : Lib.indexByte s.data.toList 32 = -1 := by have := Lib.indexByte_ge s.data.toList 32; omega
    have c0 := hb.cell
    clear hb hneg h
    go_enter Tryd.func113, Tryd.ntmps113
    go_wp2_with (go_at_call 121; refine (Tryd.strings_IndexByte s 32 _).mono ?_; rintro e w1 ⟨rfl, rfl⟩; rw [show (32 : Int).toNat.toUInt8 = 32 from rfl, hI])
    exact ⟨rfl, rfl, Below.refl _ _⟩
  · cases h
end Go.Proofs.YtcjmfacdjdegkaaDoor
