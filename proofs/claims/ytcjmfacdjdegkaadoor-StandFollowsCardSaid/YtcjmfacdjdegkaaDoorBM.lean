/- Contracts of the laws' helpers Mod, Get and At. Conditions: numbers fit into 64 bits; lists lie in memory as told. -/
import Derived.Test.YtcjmfacdjdegkaaDoorWF
namespace Go.Proofs.YtcjmfacdjdegkaaDoor
open Go Go.RowKit
/-- A number brought from 0 to a count less 1. -/
def modN (n c : Int) : Int := if c < 1 then 0 else n % c
theorem modN_range {n c : Int} (h : 1 ≤ c) : 0 ≤ modN n c ∧ modN n c < c := by
  unfold modN
  rw [if_neg (by omega)]
  exact ⟨Int.emod_nonneg _ (by omega), Int.emod_lt_of_pos _ (by omega)⟩
theorem tmod_emod {n c : Int} (h : 1 ≤ c) : (if n.tmod c < 0 then n.tmod c + c else n.tmod c) = n % c := by
  rw [Int.tmod_eq_emod]
  have h1 := Int.emod_nonneg n (show c ≠ 0 by omega)
  have h2 := Int.emod_lt_of_pos n (show 0 < c by omega)
  have e : (c.natAbs : Int) = c := by omega
  split <;> split <;> omega
set_option maxHeartbeats 1000000 in
theorem refMod_any (n c : Int) (w : World) (_hn : -9223372036854775808 ≤ n ∧ n ≤ 9223372036854775807) (hc : c ≤ 9223372036854775807) :
    Calls Tryd.prog 43 #[.int .i64 n, .int .i64 c] w fun e w' => e = .returned (.int .i64 (modN n c)) ∧ w = w' := by
  by_cases h : c < 1
  · have HF : Hid (modN n c = 0) := Lib.hid (by simp [modN, h])
    go_enter Tryd.func43, Tryd.ntmps43
    go_wp2_with fail
    go_ret; exact ⟨ret_int HF.out.symm, rfl⟩
  · have HF : Hid ((if n.tmod c < 0 then n.tmod c + c else n.tmod c) = modN n c) := Lib.hid (by
      unfold modN; rw [if_neg h]; exact tmod_emod (by omega))
    go_enter Tryd.func43, Tryd.ntmps43
    go_wp2_with fail
    · have h2 := HF.out
      rw [if_pos (by omega)] at h2
      have h3 := modN_range (n := n) h
      have hw : wrap64 (n.tmod c + c) = n.tmod c + c := by unfold wrap64; omega
      go_ret
      exact ⟨ret_int (by rw [hw]; exact h2), rfl⟩
    · go_ret
      refine ⟨ret_int ?_, rfl⟩
      have := HF.out
      rwa [if_neg (by omega)] at this
/-- The element of a list that an index gives, going around. -/
def getN (l : List Int) (i : Int) : Int := if l = [] then 0 else l.getD (modN i l.length).toNat 0
theorem getN_fits {l : List Int} (h : ∀ x ∈ l, -9223372036854775808 ≤ x ∧ x ≤ 9223372036854775807) (i : Int) : -9223372036854775808 ≤ getN l i ∧ getN l i ≤ 9223372036854775807 := by
  unfold getN
  split
  · omega
  · rw [List.getD_eq_getElem?_getD]
    cases e : l[(modN i l.length).toNat]? with
    | none => simp
    | some x => exact h x (List.mem_of_getElem? e)
set_option maxHeartbeats 1000000 in
theorem refGet_any (a : Option Addr) (n c : Nat) (l : List Int) (i : Int) (w : World) (hi : -9223372036854775808 ≤ i ∧ i ≤ 9223372036854775807) (hA : IntsAt w a n l) (hn : n ≤ maxLen) :
    Calls Tryd.prog 44 #[.slice a n c, .int .i64 i] w fun e w' => e = .returned (.int .i64 (getN l i)) ∧ Below w.heap.size w w' := by
  obtain ⟨hl, hA⟩ := hA
  subst hl
  unfold maxLen at hn
  rcases hA with rfl | ⟨b, off, rfl, hb, hA⟩
  · go_enter Tryd.func44, Tryd.ntmps44
    go_wp2_with fail
    go_ret; exact ⟨rfl, Below.refl _ _⟩
  · by_cases h0 : l = []
    · subst h0
      go_enter Tryd.func44, Tryd.ntmps44
      go_wp2_with fail
      go_ret; exact ⟨rfl, Below.refl _ _⟩
    · have hpos : 0 < l.length := List.length_pos_iff.2 h0
      have hm := modN_range (n := i) (c := (l.length : Int)) (by omega)
      obtain ⟨k, hk⟩ : ∃ k : Nat, modN i l.length = k := ⟨(modN i l.length).toNat, by omega⟩
      obtain ⟨x, hx⟩ : ∃ x, l[k]? = some x := ⟨_, List.getElem?_eq_getElem (by omega)⟩
      have HF : Hid (getN l i = x) := Lib.hid (by
        unfold getN
        rw [if_neg h0, hk, show ((k : Int)).toNat = k by omega, List.getD_eq_getElem?_getD, hx]
        rfl)
      have c0 := hA k x hx
      rw [hk] at hm
      have HK := Lib.hid hk
      have hlen : l.length ≤ 9223372036854775807 := by omega
      clear hA hk hx h0 hn
      go_enter Tryd.func44, Tryd.ntmps44
      go_wp2_with (go_at_call 43; refine (refMod_any _ _ _ hi (by omega)).mono ?_; rw [HK.out]; rintro e w' ⟨rfl, rfl⟩)
      go_ret; exact ⟨ret_int HF.out.symm, Below.refl _ _⟩
set_option maxHeartbeats 1000000 in
theorem refAt_any (a : Option Addr) (n c : Nat) (l : List Int) (v : Int) (w : World) (hA : IntsAt w a n l) (hn : n ≤ maxLen) :
    Calls Tryd.prog 46 #[.slice a n c, .int .i64 v] w fun e w' => (∃ z : Int, e = .returned (.int .i64 z) ∧ (0 ≤ z ↔ v ∈ l) ∧ -1 ≤ z) ∧ Below w.heap.size w w' := by
  obtain ⟨hl, hA⟩ := hA
  subst hl
  unfold maxLen at hn
  have hlen : l.length ≤ 9223372036854775807 := by omega
  clear hn
  have HA := Lib.hid hA
  clear hA
  go_enter Tryd.func46, Tryd.ntmps46
  go_wp2_with fail
  go_loop [5] (fun i => ∃ k : Nat, k ≤ l.length ∧ i = .int .i64 k ∧ Hid (v ∉ l.take k)) (fun i => l.length - (intOf i).toNat)
  case atStart => exact ⟨0, Nat.zero_le _, rfl, Lib.hid (by simp)⟩
  case round =>
    obtain ⟨k, hk, rfl, HK⟩ := hrel
    by_cases hlt : k < l.length
    · obtain ⟨x, hx⟩ : ∃ x, l[k]? = some x := ⟨_, List.getElem?_eq_getElem hlt⟩
      rcases HA.out with rfl | ⟨p, off, rfl, hpl, hP⟩
      · simp at hlt
      have c0 := hP k x hx
      rcases hxy : (x == v) with _ | _
      · have HK1 : Hid (v ∉ l.take (k + 1)) := Lib.hid (by
          rw [List.take_add_one, hx]
          simp only [List.mem_append, Option.toList_some, List.mem_singleton, not_or]
          refine ⟨HK.out, fun e => ?_⟩
          subst e
          simp at hxy)
        clear hP hx
        go_wp2_with fail
        go_round
        case rel => exact ⟨k + 1, by omega, by go_num, HK1⟩
        case measure => simp [intOf]; omega
      · have HM : Hid (v ∈ l) := Lib.hid (by
          have : x = v := by simpa using hxy
          rw [← this]; exact List.mem_of_getElem? hx)
        clear hP hx
        go_wp2_with fail
        go_ret; exact ⟨⟨k, rfl, ⟨fun _ => HM.out, fun _ => by omega⟩, by omega⟩, Below.refl _ _⟩
    · have HM : Hid (v ∉ l) := Lib.hid (by
        have := HK.out
        rwa [List.take_of_length_le (by omega)] at this)
      go_wp2_with fail
      go_ret; exact ⟨⟨-1, rfl, ⟨fun h => absurd h (by omega), fun h => absurd h HM.out⟩, by omega⟩, Below.refl _ _⟩
end Go.Proofs.YtcjmfacdjdegkaaDoor
