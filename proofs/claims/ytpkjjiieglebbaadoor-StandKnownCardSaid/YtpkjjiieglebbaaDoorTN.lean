/- Contract of package stand's Thin. Conditions: the trees lie in memory as the model says; tags fit into memory. -/
import Derived.Test.YtpkjjiieglebbaaDoorWT
namespace Go.Proofs.YtpkjjiieglebbaaDoor
open Go Go.RowKit
theorem or2_any (x y : Int) (b : Nat) (w : World) (h : Box w b #[.int .i64 x, .int .i64 y] 31) :
    Calls Tryd.prog 53 #[.slice (some ⟨b, 0, none⟩) 2 2] w fun e w' => e = .returned (.int .i64 (orE [x, y])) ∧ w = w' :=
  cmpOr_any [x, y] _ _ _ _ (fun i hi => by
    match i, hi with
    | 0, _ => exact h.cell 0
    | 1, _ => exact h.cell 1) rfl (by simp)
def thinE (s : Stand) (gap : Int) : Int := orE [checkE s, rangeE gap 0 100000]
def thinR (s : Stand) (gap : Int) : List Nat × Int := if thinE s gap = 0 then bestOf s.ts gap else ([], 0)
set_option maxRecDepth 100000 in
set_option maxHeartbeats 2000000 in
theorem thin_any (a : Option Addr) (n c : Nat) (ts : List Tree) (lo hi pr ne gap : Int) (w : World) (hT : Trees w a n c ts) :
    Calls Tryd.prog 31 #[.agg #[.slice a n c, .int .i64 lo, .int .i64 hi, .int .i64 pr, .int .i64 ne], .int .i64 gap] w fun e w' =>
      ∃ v, e = .returned (.tuple #[v, .int .i64 (thinR ⟨ts, lo, hi, pr, ne⟩ gap).2, .int .i64 (thinE ⟨ts, lo, hi, pr, ne⟩ gap)]) ∧ w'.ownsRow w.heap.size 3 1 v (thinR ⟨ts, lo, hi, pr, ne⟩ gap).1.length ((thinR ⟨ts, lo, hi, pr, ne⟩ gap).1.map fun i : Nat => Value.int .i64 (i : Int)) ∧ Below w.heap.size w w' := by
  have hn := hT.len
  subst hn
  have HX : Hid (∀ W, Below (w.heap.size + 1) (w.alloc (.cells #[.slice a ts.length c, .int .i64 lo, .int .i64 hi, .int .i64 pr, .int .i64 ne] 29)) W → Box W w.heap.size #[.slice a ts.length c, .int .i64 lo, .int .i64 hi, .int .i64 pr, .int .i64 ne] 29 ∧ Trees W a ts.length c ts ∧ w.heap.size < W.heap.size ∧ Below w.heap.size w W) := Lib.hid fun W h => by
    have hB : Below w.heap.size w W := ((Below.refl _ _).alloc (Nat.le_refl _) _).trans (h.mono (by omega))
    exact ⟨(Box.new w _ _).below h (by omega), hT.below hB, by have := h.size; simp at this; omega, hB⟩
  obtain ⟨x, hx⟩ : ∃ x, x = thinE ⟨ts, lo, hi, pr, ne⟩ gap := ⟨_, rfl⟩
  have HXE := Lib.hid hx
  have HE : Hid (orE [checkE ⟨ts, lo, hi, pr, ne⟩, rangeE gap 0 100000] = x) := Lib.hid hx.symm
  clear hT hx
  rw [← HXE.out]
  have hS0 : Below (w.heap.size + 1) (w.alloc (.cells #[.slice a ts.length c, .int .i64 lo, .int .i64 hi, .int .i64 pr, .int .i64 ne] 29)) (w.alloc (.cells #[.slice a ts.length c, .int .i64 lo, .int .i64 hi, .int .i64 pr, .int .i64 ne] 29)) := Below.refl _ _
  have hErr : x ≠ 0 → Hid (thinR ⟨ts, lo, hi, pr, ne⟩ gap = ([], 0)) := fun h => Lib.hid (by unfold thinR; rw [if_neg (by rw [← HXE.out]; exact h)])
  have hOk : x = 0 → Hid (thinR ⟨ts, lo, hi, pr, ne⟩ gap = bestOf ts gap ∧ ts.length ≤ 14 ∧ (∀ t ∈ ts, okTree t) ∧ (∀ t ∈ ts, 0 ≤ t.gl ∧ t.gl ≤ 4000) ∧ 0 ≤ gap ∧ gap ≤ 100000) := fun h => Lib.hid (by
    have hz : thinE ⟨ts, lo, hi, pr, ne⟩ gap = 0 := by rw [← HXE.out]; exact h
    obtain ⟨h1, h2⟩ := orE_cons_zero hz
    obtain ⟨h2, _⟩ := orE_cons_zero h2
    obtain ⟨hs, h14, hok, _⟩ := valid_of h1
    have hg : 0 ≤ gap ∧ gap ≤ 100000 := by
      unfold rangeE at h2; split at h2
      · rename_i h4; exact frB_iff.1 h4
      · omega
    exact ⟨by unfold thinR; rw [if_pos hz], h14, hok, fun t ht => by have := girth_of hs ht; omega, hg⟩)
  have HHE := Lib.hid hErr
  have HHO := Lib.hid hOk
  clear hErr hOk
  rcases h0 : (x != 0) with _ | _
  · have hx0 : x = 0 := by simpa using h0
    have HO := HHO.out hx0
    go_enter Tryd.func31, Tryd.ntmps31
    go_wp2_with (first
      | (go_at_call 20; refine (check_any a ts.length c ts lo hi pr ne _ (HX.out _ hS0).2.1).mono ?_; rintro e w1 ⟨rfl, hb1⟩; have hz1 : (w.alloc (.cells #[.slice a ts.length c, .int .i64 lo, .int .i64 hi, .int .i64 pr, .int .i64 ne] 29)).heap.size = w.heap.size + 1 := (by simp); rw [hz1] at hb1; have hc1 : ∀ o, (w1.alloc o).cell? ⟨w.heap.size, 0, none⟩ = some (.slice a ts.length c) := fun o => ((HX.out _ hb1).1.alloc o).cell 0)
      | (go_at_call 68; refine (checkRange_any gap 0 100000 _).mono ?_; rintro e w' ⟨rfl, rfl⟩)
      | (go_at_call 53; refine (or2_any (checkE ⟨ts, lo, hi, pr, ne⟩) (rangeE gap 0 100000) _ _ (Box.new w1 #[.int .i64 (checkE ⟨ts, lo, hi, pr, ne⟩), .int .i64 (rangeE gap 0 100000)] 31)).mono ?_; rintro e w' ⟨rfl, rfl⟩; rw [HE.out])
      | (go_at_call 75; refine (worthiest_any a ts.length c ts gap _ (HX.out _ (hb1.alloc (HX.out _ hb1).2.2.1 _)).2.1 HO.out.2.1 HO.out.2.2.1 HO.out.2.2.2.1 HO.out.2.2.2.2).mono ?_; rintro e w2 ⟨v, rfl, hv, hb2⟩))
    have hbA := hb1.alloc (HX.out _ hb1).2.2.1 (.cells #[.int .i64 (checkE ⟨ts, lo, hi, pr, ne⟩), .int .i64 (rangeE gap 0 100000)] 31)
    have hBF := (HX.out _ hbA).2.2.2
    have hsz := hBF.size
    refine bodyPost_ret (v := .tuple #[v, .int .i64 (bestOf ts gap).2, .int .i64 0]) (by simp [results, Tryd.results31, go_sem]) rfl ⟨v, by rw [HO.out.1, hx0], ?_, hBF.trans (hb2.mono hsz)⟩
    rw [HO.out.1]
    exact ownsRow_base hv hsz
  · have HR := HHE.out (by simpa using h0)
    go_enter Tryd.func31, Tryd.ntmps31
    go_wp2_with (first
      | (go_at_call 20; refine (check_any a ts.length c ts lo hi pr ne _ (HX.out _ hS0).2.1).mono ?_; rintro e w1 ⟨rfl, hb1⟩; have hz1 : (w.alloc (.cells #[.slice a ts.length c, .int .i64 lo, .int .i64 hi, .int .i64 pr, .int .i64 ne] 29)).heap.size = w.heap.size + 1 := (by simp); rw [hz1] at hb1)
      | (go_at_call 68; refine (checkRange_any gap 0 100000 _).mono ?_; rintro e w' ⟨rfl, rfl⟩)
      | (go_at_call 53; refine (or2_any (checkE ⟨ts, lo, hi, pr, ne⟩) (rangeE gap 0 100000) _ _ (Box.new w1 #[.int .i64 (checkE ⟨ts, lo, hi, pr, ne⟩), .int .i64 (rangeE gap 0 100000)] 31)).mono ?_; rintro e w' ⟨rfl, rfl⟩; rw [HE.out]))
    refine bodyPost_ret (v := .tuple #[.slice none 0 0, .int .i64 0, .int .i64 x]) (by simp [results, Tryd.results31, go_sem]) rfl ?_
    rw [HR.out]
    exact ⟨_, rfl, World.ownsRow_nil _ _ _ _, (HX.out _ (hb1.alloc (HX.out _ hb1).2.2.1 _)).2.2.2⟩
end Go.Proofs.YtpkjjiieglebbaaDoor
