/- Contract of package stand's life.after: how a tree is after an act, and whether the act can be. Conditions: the variable changes holds what the text lays; days from 0 to 36500. -/
import Derived.Test.YtpkjjiieglebbaaDoorB
import Derived.DeepKeys
namespace Go.Proofs.YtpkjjiieglebbaaDoor
open Go Go.RowKit
/-- What can happen to a tree: the act, how the tree is before, and then. -/
def chgL : List (Int × Int × Int) := [(1, 0, 1), (2, 1, 2), (2, 2, 2), (2, 3, 2), (3, 2, 3), (4, 1, 4), (4, 2, 4), (4, 3, 4), (5, 1, 0), (5, 2, 0), (5, 3, 0), (5, 4, 0)]
def chgV : List Value := chgL.flatMap fun c => [.int .i64 c.1, .int .i64 c.2.1, .int .i64 c.2.2]
/-- The variable changes holds what the text lays. -/
def Chg (w : World) : Prop := ∃ t fr, w.heap[0]? = some (.cells chgV.toArray t fr)
theorem Chg.lt {w : World} (h : Chg w) : 0 < w.heap.size := by
  obtain ⟨t, fr, h⟩ := h
  exact (Array.getElem?_eq_some_iff.1 h).1
theorem Chg.below {w w' : World} (h : Chg w) (hb : Below w.heap.size w w') : Chg w' := by
  have hl := h.lt
  obtain ⟨t, fr, h⟩ := h
  exact ⟨t, fr, (hb.block _ hl).trans h⟩
def chgB (what st : Int) (c : Int × Int × Int) : Bool := c.1 == what && c.2.1 == st
def thenM (st what : Int) : Option Int := (chgL.find? (chgB what st)).map (·.2.2)
def afterM (st pl day what : Int) : Option (Int × Int) := if what = 2 ∧ day - pl < 1000 then none else (thenM st what).map fun t => (t, if what = 1 then day else pl)
theorem sizeArr : (Tryd.prog.info? 131).map (·.size) = some chgV.toArray.size := by kernel_rfl
theorem chg_snoc (what st : Int) (k : Nat) (c : Int × Int × Int) (h : chgL[k]? = some c) : (chgL.take (k + 1)).find? (chgB what st) = ((chgL.take k).find? (chgB what st)).or (if chgB what st c then some c else none) := by
  rw [List.take_add_one, h, List.find?_append]
  simp
theorem wrap_small {n : Int} (h1 : -9223372036854775808 ≤ n) (h2 : n ≤ 9223372036854775807) : IntKind.i64.wrap n = n := by rw [IntKind.wrap_i64]; omega
theorem eql_pair (a b c d : Int) (w : World) : (Op.equalIn 10000 128 (.agg #[.int .i64 a, .int .i64 b]) (.agg #[.int .i64 c, .int .i64 d])).run Tryd.prog w = .ok (a == c && b == d) w := by
  rw [show (10000 : Nat) = 9998 + 1 + 1 from rfl]
  unfold Op.equalIn
  simp only [Sem.run_bind, run_underlying Tryd.underlying128, Result.andThen_ok]
  have e1 := fun (a b : Int) (w : World) => run_equalIn_int w 9998 3 .i64 .i64 a b Tryd.underlying3
  rcases h1 : (a == c) with _ | _
  · simp [go_sem, show List.range' 0 2 = [0, 1] from rfl, e1, h1]
  · rcases h2 : (b == d) with _ | _
    · simp [go_sem, show List.range' 0 2 = [0, 1] from rfl, e1, h1, h2]
    · simp [go_sem, show List.range' 0 2 = [0, 1] from rfl, e1, h1, h2]
theorem find_hit {what st : Int} {c : Int × Int × Int} {k : Nat} (h : (chgL.take (k + 1)).find? (chgB what st) = some c) : thenM st what = some c.2.2 := by
  unfold thenM
  rw [← List.take_append_drop (k + 1) chgL, List.find?_append, h]
  rfl
theorem find_end {what st : Int} {k : Nat} (hk : 12 ≤ k) (h : (chgL.take k).find? (chgB what st) = none) : thenM st what = none := by
  unfold thenM
  rw [List.take_of_length_le (by simpa [chgL] using hk)] at h
  rw [h]; rfl
theorem index_chg (w : World) : ∀ (k : Nat) (c : Int × Int × Int), chgL[k]? = some c → (Instr.index 131 (.agg chgV.toArray) (.int .i64 (k : Int))).run Tryd.prog w = .ok (.agg #[.int .i64 c.1, .int .i64 c.2.1, .int .i64 c.2.2]) w
  | 0, _, h => by cases h; kernel_rfl
  | 1, _, h => by cases h; kernel_rfl
  | 2, _, h => by cases h; kernel_rfl
  | 3, _, h => by cases h; kernel_rfl
  | 4, _, h => by cases h; kernel_rfl
  | 5, _, h => by cases h; kernel_rfl
  | 6, _, h => by cases h; kernel_rfl
  | 7, _, h => by cases h; kernel_rfl
  | 8, _, h => by cases h; kernel_rfl
  | 9, _, h => by cases h; kernel_rfl
  | 10, _, h => by cases h; kernel_rfl
  | 11, _, h => by cases h; kernel_rfl
  | _ + 12, _, h => by cases h
set_option maxRecDepth 100000 in
set_option maxHeartbeats 2000000 in
theorem after_any (st pl day what : Int) (tag : ByteArray) (w : World) (hC : Chg w) (hp : 0 ≤ pl ∧ pl ≤ 36500) (hd : 0 ≤ day ∧ day ≤ 36500) :
    Calls Tryd.prog 80 #[.agg #[.int .i64 st, .int .i64 pl], .agg #[.int .i64 day, .string tag, .int .i64 what]] w fun e w' =>
      e = .returned (.tuple #[.agg #[.int .i64 ((afterM st pl day what).getD (0, 0)).1, .int .i64 ((afterM st pl day what).getD (0, 0)).2], .bool (afterM st pl day what).isSome]) ∧ Below w.heap.size w w' := by
  obtain ⟨p1, p2⟩ := hp
  obtain ⟨d1, d2⟩ := hd
  have hB0 := Lib.hid ((((Below.refl w.heap.size w).alloc (Nat.le_refl _) (.cells #[.int .i64 st, .int .i64 pl] 104)).alloc (by simp) (.cells #[.int .i64 day, .string tag, .int .i64 what] 70)).alloc (by simp; omega) (.cells #[.int .i64 0, .int .i64 0] 104))
  have hlt := hC.lt
  obtain ⟨gt, gfr, hg0⟩ := hC
  by_cases h2 : what = 2 ∧ day - pl < 1000
  · have HF : Hid (afterM st pl day what = none) := Lib.hid (by unfold afterM; rw [if_pos h2])
    obtain ⟨rfl, h3⟩ := h2
    go_enter Tryd.func80, Tryd.ntmps80
    go_wp2_with fail
    have bR1 := Box.new ((w.alloc (.cells #[.int .i64 st, .int .i64 pl] 104)).alloc (.cells #[.int .i64 day, .string tag, .int .i64 2] 70)) #[.int .i64 0, .int .i64 0] 104
    rw [World.size_alloc, World.size_alloc] at bR1
    have q0 := bR1.cell 0
    have q1 := bR1.cell 1
    simp at q0 q1
    refine bodyPost_ret (v := .tuple #[.agg #[.int .i64 0, .int .i64 0], .bool false]) (by simp [results, Tryd.results80, go_sem, q0, q1]) rfl ⟨?_, hB0.out⟩
    rw [HF.out]; rfl
  have HX : Hid (∀ W, Below (w.heap.size + 1 + 1 + 1 + 1) ((((w.alloc (.cells #[.int .i64 st, .int .i64 pl] 104)).alloc (.cells #[.int .i64 day, .string tag, .int .i64 what] 70)).alloc (.cells #[.int .i64 0, .int .i64 0] 104)).alloc (.cells #[.int .i64 what, .int .i64 st] 128)) W → Box W (w.heap.size + 1 + 1) #[.int .i64 0, .int .i64 0] 104 ∧ Box W (w.heap.size + 1 + 1 + 1) #[.int .i64 what, .int .i64 st] 128 ∧ w.heap.size + 1 + 1 + 1 < W.heap.size ∧ Below w.heap.size w W) := Lib.hid fun W h => by
    have b0 := (Box.new ((w.alloc (.cells #[.int .i64 st, .int .i64 pl] 104)).alloc (.cells #[.int .i64 day, .string tag, .int .i64 what] 70)) #[.int .i64 0, .int .i64 0] 104).alloc (.cells #[.int .i64 what, .int .i64 st] 128)
    have b1 := Box.new (((w.alloc (.cells #[.int .i64 st, .int .i64 pl] 104)).alloc (.cells #[.int .i64 day, .string tag, .int .i64 what] 70)).alloc (.cells #[.int .i64 0, .int .i64 0] 104)) #[.int .i64 what, .int .i64 st] 128
    simp only [World.size_alloc] at b0 b1
    exact ⟨b0.below h (by omega), b1.below h (by omega), by have := h.size; simp at this; omega, (hB0.out.alloc (by simp; omega) _).trans (h.mono (by omega))⟩
  have HM : Hid (afterM st pl day what = (thenM st what).map fun t => (t, if what = 1 then day else pl)) := Lib.hid (by unfold afterM; rw [if_neg h2])
  obtain ⟨pv, hpv⟩ : ∃ pv, pv = if what = 1 then day else pl := ⟨_, rfl⟩
  rw [← hpv] at HM
  have HPV := Lib.hid hpv
  clear hpv
  have hways : (what = 1 ∧ what ≠ 2) ∨ (what ≠ 1 ∧ what ≠ 2) ∨ (what ≠ 1 ∧ what = 2 ∧ ¬ day - pl < 1000) := by omega
  rcases hways with ⟨h1, h3⟩ | ⟨h1, h3⟩ | ⟨h1, h3, h4⟩
  · focus
    have hq : pv = day := by rw [HPV.out, if_pos h1]
    rw [hq] at HM
    have e1 : (what == 1) = true := by simpa using h1
    have e2 : (what == 2) = false := by simpa using h3
    clear h1 h2 h3 HPV hq
    go_enter Tryd.func80, Tryd.ntmps80
    go_wp2_with (refine wpList_load_row rfl 131 (.global 0) rfl 0 rfl gt chgV.toArray gfr _ (by rw [Below.heap_alloc _ _ _ (by simp only [World.size_alloc]; omega), Below.heap_alloc _ _ _ (by simp only [World.size_alloc]; omega), Below.heap_alloc _ _ _ (by simp only [World.size_alloc]; omega), Below.heap_alloc _ _ _ hlt]; exact hg0) Tryd.underlying131 rfl sizeArr ?_)
    go_loopw [35] (fun i wr => ∃ k : Nat, k ≤ 12 ∧ i = .int .i64 k ∧ Below (w.heap.size + 1 + 1 + 1 + 1) ((((w.alloc (.cells #[.int .i64 st, .int .i64 pl] 104)).alloc (.cells #[.int .i64 day, .string tag, .int .i64 what] 70)).alloc (.cells #[.int .i64 0, .int .i64 0] 104)).alloc (.cells #[.int .i64 what, .int .i64 st] 128)) wr ∧ Hid ((chgL.take k).find? (chgB what st) = none)) (fun i _ => 12 - (intOf i).toNat)
    case atStart => exact ⟨0, by omega, rfl, Below.refl _ _, Lib.hid rfl⟩
    case round =>
      obtain ⟨k, hk, rfl, hb, HK⟩ := hrel
      obtain ⟨bR, bK, hz, hB⟩ := HX.out wr hb
      have r0 : wr.cell? ⟨w.heap.size + 1 + 1, 0, none⟩ = some (.int .i64 0) := bR.cell 0
      have r1 : wr.cell? ⟨w.heap.size + 1 + 1, 1, none⟩ = some (.int .i64 0) := bR.cell 1
      have r2 : wr.frozen? ⟨w.heap.size + 1 + 1, 0, none⟩ = false := bR.free 0
      have r3 : wr.frozen? ⟨w.heap.size + 1 + 1, 1, none⟩ = false := bR.free 1
      have k0 : wr.cell? ⟨w.heap.size + 1 + 1 + 1, 0, none⟩ = some (.int .i64 what) := bK.cell 0
      have k1 : wr.cell? ⟨w.heap.size + 1 + 1 + 1, 1, none⟩ = some (.int .i64 st) := bK.cell 1
      have z1 : wr.heap.size ≠ w.heap.size + 1 + 1 := by omega
      have z2 : wr.heap.size ≠ w.heap.size + 1 + 1 + 1 := by omega
      by_cases hlt : k < 12
      · obtain ⟨c, hc⟩ : ∃ c, chgL[k]? = some c := ⟨_, List.getElem?_eq_getElem hlt⟩
        have hix := fun W => index_chg W k c hc
        have hst := chg_snoc what st k c hc
        rw [HK.out] at hst
        have HS := Lib.hid hst
        obtain ⟨ca, cb, ct⟩ := c
        clear hc hst HX
        rcases hhit : (ca == what && cb == st) with _ | _
        · have heq : ∀ W, (Op.equalIn 10000 128 (.agg #[.int .i64 ca, .int .i64 cb]) (.agg #[.int .i64 what, .int .i64 st])).run Tryd.prog W = .ok false W := fun W => by rw [eql_pair, hhit]
          have HK1 : Hid ((chgL.take (k + 1)).find? (chgB what st) = none) := Lib.hid (by rw [HS.out]; simp [chgB, hhit])
          have hb1 := hb.alloc (by omega) (.cells #[.int .i64 ca, .int .i64 cb, .int .i64 ct] 130)
          clear HS hhit
          go_wp2_with fail
          go_roundw
          case rel => exact ⟨k + 1, by omega, by go_num, hb1, HK1⟩
          case measure => simp [intOf]; omega
        · have heq : ∀ W, (Op.equalIn 10000 128 (.agg #[.int .i64 ca, .int .i64 cb]) (.agg #[.int .i64 what, .int .i64 st])).run Tryd.prog W = .ok true W := fun W => by rw [eql_pair, hhit]
          have HF : Hid (afterM st pl day what = some (ct, day)) := Lib.hid (by rw [HM.out, find_hit (c := (ca, cb, ct)) (k := k) (by rw [HS.out]; simp [chgB, hhit])]; rfl)
          have hB1 := ((hB.alloc (by omega) (.cells #[.int .i64 ca, .int .i64 cb, .int .i64 ct] 130)).setCell (p := ⟨w.heap.size + 1 + 1, 0, none⟩) (by dsimp only; omega) (.int .i64 ct)).setCell (p := ⟨w.heap.size + 1 + 1, 1, none⟩) (by dsimp only; omega) (.int .i64 day)
          have bR0 := bR.alloc (.cells #[.int .i64 ca, .int .i64 cb, .int .i64 ct] 130)
          have s0 := bR0.cell 0; have s1 := bR0.cell 1; have s2 := bR0.free 0; have s3 := bR0.free 1
          simp only [List.getElem?_toArray, List.getElem?_cons_zero, List.getElem?_cons_succ] at s0 s1
          have bR1 := (bR0.set 0 (.int .i64 ct)).set 1 (.int .i64 day)
          have q0 := bR1.cell 0
          have q1 := bR1.cell 1
          simp at q0 q1
          clear HS hhit bR1
          go_wp2_with fail
          refine bodyPost_ret (v := .tuple #[.agg #[.int .i64 ct, .int .i64 day], .bool true]) (by simp [results, Tryd.results80, go_sem, q0, q1]) rfl ⟨?_, hB1⟩
          rw [HF.out]; rfl
      · have HF : Hid (afterM st pl day what = none) := Lib.hid (by rw [HM.out, find_end (by omega) HK.out]; rfl)
        have hB1 := (hB.setCell (p := ⟨w.heap.size + 1 + 1, 0, none⟩) (by dsimp only; omega) (.int .i64 0)).setCell (p := ⟨w.heap.size + 1 + 1, 1, none⟩) (by dsimp only; omega) (.int .i64 0)
        have bR1 := (bR.set 0 (.int .i64 0)).set 1 (.int .i64 0)
        have q0 := bR1.cell 0
        have q1 := bR1.cell 1
        simp at q0 q1
        clear bR1
        go_wp2_with fail
        refine bodyPost_ret (v := .tuple #[.agg #[.int .i64 0, .int .i64 0], .bool false]) (by simp [results, Tryd.results80, go_sem, q0, q1]) rfl ⟨?_, hB1⟩
        rw [HF.out]; rfl
  · focus
    have hq : pv = pl := by rw [HPV.out, if_neg h1]
    rw [hq] at HM
    have e1 : (what == 1) = false := by simpa using h1
    have e2 : (what == 2) = false := by simpa using h3
    clear h1 h2 h3 HPV hq
    go_enter Tryd.func80, Tryd.ntmps80
    go_wp2_with (refine wpList_load_row rfl 131 (.global 0) rfl 0 rfl gt chgV.toArray gfr _ (by rw [Below.heap_alloc _ _ _ (by simp only [World.size_alloc]; omega), Below.heap_alloc _ _ _ (by simp only [World.size_alloc]; omega), Below.heap_alloc _ _ _ (by simp only [World.size_alloc]; omega), Below.heap_alloc _ _ _ hlt]; exact hg0) Tryd.underlying131 rfl sizeArr ?_)
    go_loopw [35] (fun i wr => ∃ k : Nat, k ≤ 12 ∧ i = .int .i64 k ∧ Below (w.heap.size + 1 + 1 + 1 + 1) ((((w.alloc (.cells #[.int .i64 st, .int .i64 pl] 104)).alloc (.cells #[.int .i64 day, .string tag, .int .i64 what] 70)).alloc (.cells #[.int .i64 0, .int .i64 0] 104)).alloc (.cells #[.int .i64 what, .int .i64 st] 128)) wr ∧ Hid ((chgL.take k).find? (chgB what st) = none)) (fun i _ => 12 - (intOf i).toNat)
    case atStart => exact ⟨0, by omega, rfl, Below.refl _ _, Lib.hid rfl⟩
    case round =>
      obtain ⟨k, hk, rfl, hb, HK⟩ := hrel
      obtain ⟨bR, bK, hz, hB⟩ := HX.out wr hb
      have r0 : wr.cell? ⟨w.heap.size + 1 + 1, 0, none⟩ = some (.int .i64 0) := bR.cell 0
      have r1 : wr.cell? ⟨w.heap.size + 1 + 1, 1, none⟩ = some (.int .i64 0) := bR.cell 1
      have r2 : wr.frozen? ⟨w.heap.size + 1 + 1, 0, none⟩ = false := bR.free 0
      have r3 : wr.frozen? ⟨w.heap.size + 1 + 1, 1, none⟩ = false := bR.free 1
      have k0 : wr.cell? ⟨w.heap.size + 1 + 1 + 1, 0, none⟩ = some (.int .i64 what) := bK.cell 0
      have k1 : wr.cell? ⟨w.heap.size + 1 + 1 + 1, 1, none⟩ = some (.int .i64 st) := bK.cell 1
      have z1 : wr.heap.size ≠ w.heap.size + 1 + 1 := by omega
      have z2 : wr.heap.size ≠ w.heap.size + 1 + 1 + 1 := by omega
      by_cases hlt : k < 12
      · obtain ⟨c, hc⟩ : ∃ c, chgL[k]? = some c := ⟨_, List.getElem?_eq_getElem hlt⟩
        have hix := fun W => index_chg W k c hc
        have hst := chg_snoc what st k c hc
        rw [HK.out] at hst
        have HS := Lib.hid hst
        obtain ⟨ca, cb, ct⟩ := c
        clear hc hst HX
        rcases hhit : (ca == what && cb == st) with _ | _
        · have heq : ∀ W, (Op.equalIn 10000 128 (.agg #[.int .i64 ca, .int .i64 cb]) (.agg #[.int .i64 what, .int .i64 st])).run Tryd.prog W = .ok false W := fun W => by rw [eql_pair, hhit]
          have HK1 : Hid ((chgL.take (k + 1)).find? (chgB what st) = none) := Lib.hid (by rw [HS.out]; simp [chgB, hhit])
          have hb1 := hb.alloc (by omega) (.cells #[.int .i64 ca, .int .i64 cb, .int .i64 ct] 130)
          clear HS hhit
          go_wp2_with fail
          go_roundw
          case rel => exact ⟨k + 1, by omega, by go_num, hb1, HK1⟩
          case measure => simp [intOf]; omega
        · have heq : ∀ W, (Op.equalIn 10000 128 (.agg #[.int .i64 ca, .int .i64 cb]) (.agg #[.int .i64 what, .int .i64 st])).run Tryd.prog W = .ok true W := fun W => by rw [eql_pair, hhit]
          have HF : Hid (afterM st pl day what = some (ct, pl)) := Lib.hid (by rw [HM.out, find_hit (c := (ca, cb, ct)) (k := k) (by rw [HS.out]; simp [chgB, hhit])]; rfl)
          have hB1 := ((hB.alloc (by omega) (.cells #[.int .i64 ca, .int .i64 cb, .int .i64 ct] 130)).setCell (p := ⟨w.heap.size + 1 + 1, 0, none⟩) (by dsimp only; omega) (.int .i64 ct)).setCell (p := ⟨w.heap.size + 1 + 1, 1, none⟩) (by dsimp only; omega) (.int .i64 pl)
          have bR0 := bR.alloc (.cells #[.int .i64 ca, .int .i64 cb, .int .i64 ct] 130)
          have s0 := bR0.cell 0; have s1 := bR0.cell 1; have s2 := bR0.free 0; have s3 := bR0.free 1
          simp only [List.getElem?_toArray, List.getElem?_cons_zero, List.getElem?_cons_succ] at s0 s1
          have bR1 := (bR0.set 0 (.int .i64 ct)).set 1 (.int .i64 pl)
          have q0 := bR1.cell 0
          have q1 := bR1.cell 1
          simp at q0 q1
          clear HS hhit bR1
          go_wp2_with fail
          refine bodyPost_ret (v := .tuple #[.agg #[.int .i64 ct, .int .i64 pl], .bool true]) (by simp [results, Tryd.results80, go_sem, q0, q1]) rfl ⟨?_, hB1⟩
          rw [HF.out]; rfl
      · have HF : Hid (afterM st pl day what = none) := Lib.hid (by rw [HM.out, find_end (by omega) HK.out]; rfl)
        have hB1 := (hB.setCell (p := ⟨w.heap.size + 1 + 1, 0, none⟩) (by dsimp only; omega) (.int .i64 0)).setCell (p := ⟨w.heap.size + 1 + 1, 1, none⟩) (by dsimp only; omega) (.int .i64 0)
        have bR1 := (bR.set 0 (.int .i64 0)).set 1 (.int .i64 0)
        have q0 := bR1.cell 0
        have q1 := bR1.cell 1
        simp at q0 q1
        clear bR1
        go_wp2_with fail
        refine bodyPost_ret (v := .tuple #[.agg #[.int .i64 0, .int .i64 0], .bool false]) (by simp [results, Tryd.results80, go_sem, q0, q1]) rfl ⟨?_, hB1⟩
        rw [HF.out]; rfl
  · focus
    have hq : pv = pl := by rw [HPV.out, if_neg h1]
    rw [hq] at HM
    have e1 : (what == 1) = false := by simpa using h1
    have e2 : (what == 2) = true := by simpa using h3
    clear h1 h2 h3 HPV hq
    go_enter Tryd.func80, Tryd.ntmps80
    go_wp2_with (refine wpList_load_row rfl 131 (.global 0) rfl 0 rfl gt chgV.toArray gfr _ (by rw [Below.heap_alloc _ _ _ (by simp only [World.size_alloc]; omega), Below.heap_alloc _ _ _ (by simp only [World.size_alloc]; omega), Below.heap_alloc _ _ _ (by simp only [World.size_alloc]; omega), Below.heap_alloc _ _ _ hlt]; exact hg0) Tryd.underlying131 rfl sizeArr ?_)
    go_loopw [35] (fun i wr => ∃ k : Nat, k ≤ 12 ∧ i = .int .i64 k ∧ Below (w.heap.size + 1 + 1 + 1 + 1) ((((w.alloc (.cells #[.int .i64 st, .int .i64 pl] 104)).alloc (.cells #[.int .i64 day, .string tag, .int .i64 what] 70)).alloc (.cells #[.int .i64 0, .int .i64 0] 104)).alloc (.cells #[.int .i64 what, .int .i64 st] 128)) wr ∧ Hid ((chgL.take k).find? (chgB what st) = none)) (fun i _ => 12 - (intOf i).toNat)
    case atStart => exact ⟨0, by omega, rfl, Below.refl _ _, Lib.hid rfl⟩
    case round =>
      obtain ⟨k, hk, rfl, hb, HK⟩ := hrel
      obtain ⟨bR, bK, hz, hB⟩ := HX.out wr hb
      have r0 : wr.cell? ⟨w.heap.size + 1 + 1, 0, none⟩ = some (.int .i64 0) := bR.cell 0
      have r1 : wr.cell? ⟨w.heap.size + 1 + 1, 1, none⟩ = some (.int .i64 0) := bR.cell 1
      have r2 : wr.frozen? ⟨w.heap.size + 1 + 1, 0, none⟩ = false := bR.free 0
      have r3 : wr.frozen? ⟨w.heap.size + 1 + 1, 1, none⟩ = false := bR.free 1
      have k0 : wr.cell? ⟨w.heap.size + 1 + 1 + 1, 0, none⟩ = some (.int .i64 what) := bK.cell 0
      have k1 : wr.cell? ⟨w.heap.size + 1 + 1 + 1, 1, none⟩ = some (.int .i64 st) := bK.cell 1
      have z1 : wr.heap.size ≠ w.heap.size + 1 + 1 := by omega
      have z2 : wr.heap.size ≠ w.heap.size + 1 + 1 + 1 := by omega
      by_cases hlt : k < 12
      · obtain ⟨c, hc⟩ : ∃ c, chgL[k]? = some c := ⟨_, List.getElem?_eq_getElem hlt⟩
        have hix := fun W => index_chg W k c hc
        have hst := chg_snoc what st k c hc
        rw [HK.out] at hst
        have HS := Lib.hid hst
        obtain ⟨ca, cb, ct⟩ := c
        clear hc hst HX
        rcases hhit : (ca == what && cb == st) with _ | _
        · have heq : ∀ W, (Op.equalIn 10000 128 (.agg #[.int .i64 ca, .int .i64 cb]) (.agg #[.int .i64 what, .int .i64 st])).run Tryd.prog W = .ok false W := fun W => by rw [eql_pair, hhit]
          have HK1 : Hid ((chgL.take (k + 1)).find? (chgB what st) = none) := Lib.hid (by rw [HS.out]; simp [chgB, hhit])
          have hb1 := hb.alloc (by omega) (.cells #[.int .i64 ca, .int .i64 cb, .int .i64 ct] 130)
          clear HS hhit
          go_wp2_with fail
          go_roundw
          case rel => exact ⟨k + 1, by omega, by go_num, hb1, HK1⟩
          case measure => simp [intOf]; omega
        · have heq : ∀ W, (Op.equalIn 10000 128 (.agg #[.int .i64 ca, .int .i64 cb]) (.agg #[.int .i64 what, .int .i64 st])).run Tryd.prog W = .ok true W := fun W => by rw [eql_pair, hhit]
          have HF : Hid (afterM st pl day what = some (ct, pl)) := Lib.hid (by rw [HM.out, find_hit (c := (ca, cb, ct)) (k := k) (by rw [HS.out]; simp [chgB, hhit])]; rfl)
          have hB1 := ((hB.alloc (by omega) (.cells #[.int .i64 ca, .int .i64 cb, .int .i64 ct] 130)).setCell (p := ⟨w.heap.size + 1 + 1, 0, none⟩) (by dsimp only; omega) (.int .i64 ct)).setCell (p := ⟨w.heap.size + 1 + 1, 1, none⟩) (by dsimp only; omega) (.int .i64 pl)
          have bR0 := bR.alloc (.cells #[.int .i64 ca, .int .i64 cb, .int .i64 ct] 130)
          have s0 := bR0.cell 0; have s1 := bR0.cell 1; have s2 := bR0.free 0; have s3 := bR0.free 1
          simp only [List.getElem?_toArray, List.getElem?_cons_zero, List.getElem?_cons_succ] at s0 s1
          have bR1 := (bR0.set 0 (.int .i64 ct)).set 1 (.int .i64 pl)
          have q0 := bR1.cell 0
          have q1 := bR1.cell 1
          simp at q0 q1
          clear HS hhit bR1
          go_wp2_with fail
          refine bodyPost_ret (v := .tuple #[.agg #[.int .i64 ct, .int .i64 pl], .bool true]) (by simp [results, Tryd.results80, go_sem, q0, q1]) rfl ⟨?_, hB1⟩
          rw [HF.out]; rfl
      · have HF : Hid (afterM st pl day what = none) := Lib.hid (by rw [HM.out, find_end (by omega) HK.out]; rfl)
        have hB1 := (hB.setCell (p := ⟨w.heap.size + 1 + 1, 0, none⟩) (by dsimp only; omega) (.int .i64 0)).setCell (p := ⟨w.heap.size + 1 + 1, 1, none⟩) (by dsimp only; omega) (.int .i64 0)
        have bR1 := (bR.set 0 (.int .i64 0)).set 1 (.int .i64 0)
        have q0 := bR1.cell 0
        have q1 := bR1.cell 1
        simp at q0 q1
        clear bR1
        go_wp2_with fail
        refine bodyPost_ret (v := .tuple #[.agg #[.int .i64 0, .int .i64 0], .bool false]) (by simp [results, Tryd.results80, go_sem, q0, q1]) rfl ⟨?_, hB1⟩
        rw [HF.out]; rfl
end Go.Proofs.YtpkjjiieglebbaaDoor
