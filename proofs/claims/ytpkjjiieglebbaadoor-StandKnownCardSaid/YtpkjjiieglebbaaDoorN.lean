/- The contract of the neighbours of a tree, a range over a function: it hands on the indices of the neighbours, increasing, whatever the loop's body does that keeps the trees and what the iterator has captured. Conditions: a valid stand, an index of one of its trees. -/
import Derived.Test.YtpkjjiieglebbaaDoorD
import Derived.Test.YtpkjjiieglebbaaDoorRI
import Derived.RangeFuncNested
import Derived.RangeFuncBound
import Derived.RangeFuncCalls
import Derived.RangeFuncLeaves
import Derived.Shelf.Abstract
import Derived.Shelf.RegionOpen
import Derived.OwnWalkIn
import Derived.TacticsInMore
import Derived.LoopNIn
import Derived.LoopIn
namespace Go.Proofs.YtpkjjiieglebbaaDoor
open Go Go.RowKit Go.Shelf
attribute [local go_sem] Oper.semAt_some
/-- Some blocks lie as they lay. -/
def Keep (p : Nat → Prop) (A B : World) : Prop := ∀ x, p x → B.heap[x]? = A.heap[x]?
theorem Keep.trans {p : Nat → Prop} {A B C : World} (h : Keep p A B) (k : Keep p B C) : Keep p A C := fun x hx => (k x hx).trans (h x hx)
theorem Keep.box {p : Nat → Prop} {A B : World} (h : Keep p A B) {b : Nat} {cs : Array Value} {t : TypeId} (hb : Box A b cs t) (hp : p b) : Box B b cs t := (h b hp).trans hb
theorem Keep.trees {p : Nat → Prop} {A B : World} (h : Keep p A B) {b off : Nat} {ts : List Tree} (ht : TreesAt A b off ts) (hp : p b) : TreesAt B b off ts := fun i t hi => by
  have e : ∀ o, B.cell? ⟨b, o, none⟩ = A.cell? ⟨b, o, none⟩ := fun o => World.cell?_of_block (w := A) (h b hp)
  obtain ⟨c0, c1, c2, c3, c4, c5⟩ := ht i t hi
  exact ⟨(e _).trans c0, (e _).trans c1, (e _).trans c2, (e _).trans c3, (e _).trans c4, (e _).trans c5⟩
theorem Keep.of_below {p : Nat → Prop} {B : Nat} {A C : World} (h : Below B A C) (hp : ∀ x, p x → x < B) : Keep p A C := fun x hx => h.block x (hp x hx)
theorem Keep.lt {p : Nat → Prop} {A B : World} (h : Keep p A B) (hp : ∀ x, p x → x < A.heap.size) : ∀ x, p x → x < B.heap.size := fun x hx => by
  have h1 := h x hx
  rw [Array.getElem?_eq_getElem (hp x hx)] at h1
  exact (Array.getElem?_eq_some_iff.1 h1).1
theorem nearTo_prefix (ts : List Tree) (ne : Int) (k : Nat) {i j : Nat} (h : i ≤ j) : nearTo ts ne k i <+: nearTo ts ne k j := by
  unfold nearTo
  obtain ⟨d, rfl⟩ := Nat.exists_eq_add_of_le h
  rw [List.range_add, List.filter_append]
  exact List.prefix_append _ _
theorem nearTo_succ (ts : List Tree) (ne : Int) (k j : Nat) : nearTo ts ne k (j + 1) = nearTo ts ne k j ++ if nbB ts ne k j then [j] else [] := by
  simp only [nearTo, List.range_succ, List.filter_append]; congr 1
  by_cases h : nbB ts ne k j <;> simp [h]
theorem nearTo_len (ts : List Tree) (ne : Int) (k j : Nat) : (nearTo ts ne k j).length ≤ j := by
  have := List.length_filter_le (nbB ts ne k) (List.range j)
  simpa [nearTo] using this
def okTree (t : Tree) : Prop := 0 ≤ t.x ∧ t.x ≤ 100000 ∧ 0 ≤ t.y ∧ t.y ≤ 100000
theorem grown_of_below {A B : World} (h : Below A.heap.size A B) : A.grownBy B none := ⟨h.os, h.tape, h.output, h.size, fun i hi _ => h.block i hi⟩
set_option maxRecDepth 100000 in
set_option maxHeartbeats 2000000 in
theorem neighbours1_in (n : Nat) (hn : 2 ≤ n) (l Bs Bt b off c k : Nat) (lo hi pr ne : Int) (ts : List Tree) (p : Nat → Prop) (J Jx : List Nat → World → Prop)
    (hlen : ts.length ≤ 14) (hk : k < ts.length) (hok : ∀ t ∈ ts, okTree t) (hne : 0 ≤ ne ∧ ne ≤ 100000) (hpb : p b) (hps : p Bs) (hpt : p Bt)
    (W : World) (hJ : AbidesFrom W.heap.size J) (hpW : ∀ x, p x → x < W.heap.size)
    (hY : ∀ pre x W, J pre W → pre.length < ts.length → YieldAt Fence.wide (n - 1) Tryd.prog l #[.int .i64 (x : Nat)] W fun e W' =>
      (e = .returned (.bool true) ∧ J (pre ++ [x]) W' ∧ Keep p W W') ∨ (e = .returned (.bool false) ∧ Jx (pre ++ [x]) W'))
    (hBs : Box W Bs #[.slice (some ⟨b, off, none⟩) ts.length c, .int .i64 lo, .int .i64 hi, .int .i64 pr, .int .i64 ne] 29) (hBt : Box W Bt #[.int .i64 (k : Int)] 3) (hT : TreesAt W b off ts) (h0 : J [] W) :
    CallsIn Fence.wide n Tryd.prog 90 #[.func (.yield l) #[] #[], .pointer (some ⟨Bs, 0, none⟩), .pointer (some ⟨Bt, 0, none⟩)] W fun e W' => (∃ v, e = .returned v) ∧
      ((∃ ys, ys = nearL ts ne k ∧ J ys W') ∨ (∃ pre, pre <+: nearL ts ne k ∧ Jx pre W')) := by
  refine callsIn_of_wp Tryd.func90 rfl trivial ?_ rfl
  simp only [Tryd.ntmps90, List.size_toArray, List.length_cons, List.length_nil, Nat.reduceAdd, Nat.reduceSub, Array.replicate_succ, Array.replicate_zero, List.push_toArray, List.append_toArray, List.nil_append, List.cons_append]
  have s0 : W.cell? ⟨Bs, 0, none⟩ = some (.slice (some ⟨b, off, none⟩) ts.length c) := hBs.cell 0
  gi_wp2
  gi_loopw [9] (fun i wr => ∃ j : Nat, j ≤ ts.length ∧ i = .int .i64 j ∧ J (nearTo ts ne k j) wr ∧ Keep p W wr)
    (fun i _ => ts.length - (intOf i).toNat)
  case atStart => exact ⟨0, Nat.zero_le _, rfl, h0, fun _ _ => rfl⟩
  case round =>
    obtain ⟨j, hj, rfl, hJs, hK⟩ := hrel
    have hpr := hK.lt hpW
    by_cases hlt : j < ts.length
    · obtain ⟨u, hu⟩ : ∃ u, ts[j]? = some u := ⟨_, List.getElem?_eq_getElem hlt⟩
      obtain ⟨t, ht⟩ : ∃ t, ts[k]? = some t := ⟨_, List.getElem?_eq_getElem hk⟩
      have hT1 := hK.trees hT hpb
      have hX := hK.box hBs hps
      have hX2 := hK.box hBt hpt
      obtain ⟨c0, c1, c2, c3, c4, c5⟩ := hT1 j u hu
      have hokt := hok t (List.mem_of_getElem? ht)
      have hoku := hok u (List.mem_of_getElem? hu)
      have HS := Lib.hid s0
      clear s0
      have hnk : nbB ts ne k j = (!(j == k) && within t.x t.y u.x u.y ne) := by simp [nbB, ht, hu]
      obtain ⟨tag, x, y, gl, gh, cr⟩ := u
      dsimp only at c0 c1 c2 c3 c4 c5 hnk
      have hJa : ∀ o, J (nearTo ts ne k j) (wr.alloc o).drew := fun o => hJ _ _ _ none hJs (grown_of_below ((Below.refl _ _).alloc (Nat.le_refl _) o).drew) (fun r e => by cases e)
      have hst := nearTo_succ ts ne k j
      have HT := Lib.hid ht
      have HU := Lib.hid hu
      clear ht hu
      have hu1 := hK.trans (Keep.of_below ((Below.refl _ _).alloc (Nat.le_refl _) (.cells #[.string tag, .int .i64 x, .int .i64 y, .int .i64 gl, .int .i64 gh, .int .i64 cr] 62)).drew hpr)
      rcases hjk : (j == k) with _ | _
      · have hne' : ((j : Int) != (k : Int)) = true := by simp at hjk ⊢; omega
        rcases hwi : within t.x t.y x y ne with _ | _
        · have HJ : Hid (nearTo ts ne k (j + 1) = nearTo ts ne k j) := Lib.hid (by rw [hst, hnk, hwi]; simp)
          clear hst hnk hjk
          gi_wp2_with fail
          refine regionIn_seq (fun W' => Keep p W W' ∧ Box W' wr.heap.size #[.string tag, .int .i64 x, .int .i64 y, .int .i64 gl, .int .i64 gh, .int .i64 cr] 62) [(0, true), (1, true), (2, true), (3, true), (4, true), (5, true), (6, true), (7, true), (8, true), (9, true), (10, true), (11, true), (12, false), (13, true), (14, true), (15, true), (16, true), (17, true), (18, true), (19, true)]
            rfl (fun _ => trivial) (by kernel_rfl) (by kernel_rfl) (by kernel_rfl) (by simp) (fun _ _ _ _ h => h) ⟨hu1, (Box.new wr _ _).drew⟩ ?_
          iterate 12 (refine SeqIn.take (v := ?_) rfl (by rfl) (fun W' hW' => ?_) ?_; rotate_left; (have b0 : W'.cell? ⟨Bt, 0, none⟩ = some (.int .i64 (k : Int)) := (hW'.1.box hBt hpt).cell 0; have b1 : W'.cell? ⟨Bs, 0, none⟩ = some (.slice (some ⟨b, off, none⟩) ts.length c) := (hW'.1.box hBs hps).cell 0; have b2 : W'.cell? ⟨Bs, 4, none⟩ = some (.int .i64 ne) := (hW'.1.box hBs hps).cell 4; obtain ⟨a0, a1, a2, a3, a4, a5⟩ := (hW'.1.trees hT hpb) k t HT.out; have d0 : W'.cell? ⟨wr.heap.size, 0, none⟩ = some (.string tag) := hW'.2.cell 0; have d1 : W'.cell? ⟨wr.heap.size, 1, none⟩ = some (.int .i64 x) := hW'.2.cell 1; have d2 : W'.cell? ⟨wr.heap.size, 2, none⟩ = some (.int .i64 y) := hW'.2.cell 2; have d3 : W'.cell? ⟨wr.heap.size, 3, none⟩ = some (.int .i64 gl) := hW'.2.cell 3; have d4 : W'.cell? ⟨wr.heap.size, 4, none⟩ = some (.int .i64 gh) := hW'.2.cell 4; have d5 : W'.cell? ⟨wr.heap.size, 5, none⟩ = some (.int .i64 cr) := hW'.2.cell 5; clear hW'; go_simp; with_reducible rfl); simp only [Act.put, List.setIfInBounds_toArray, List.set_cons_zero, List.set_cons_succ])
          refine SeqIn.call rfl (by rfl) (fun K hK2 => ?_); go_simp
          refine ⟨trivial, fun _ => by omega, ?_⟩
          refine (callsIn_wide.2 (isWithin_any t ⟨tag, x, y, gl, gh, cr⟩ ne _ hokt hoku hne)).mono ?_
          rintro e w2 ⟨rfl, hb2⟩
          have hb2' := hb2.size
          simp at hb2'
          have hS2 : Keep p W w2 ∧ Box w2 wr.heap.size #[.string tag, .int .i64 x, .int .i64 y, .int .i64 gl, .int .i64 gh, .int .i64 cr] 62 := ⟨hu1.trans (Keep.of_below hb2 (fun x hx => by simp; have := hpr x hx; omega)), (Box.new wr _ _).drew.below hb2 (by simp)⟩
          go_simp
          have hJ2 : J (nearTo ts ne k j) w2 := hJ _ _ _ none (hJa _) (grown_of_below hb2) (fun r e => by cases e)
          refine hK2.out _ _ hS2 ?_
          clear hK2 K
          iterate 2 (refine SeqIn.take (v := ?_) rfl (by rfl) (fun W hW => ?_) ?_; rotate_left; (go_simp; with_reducible rfl); simp only [Act.put, List.setIfInBounds_toArray, List.set_cons_zero, List.set_cons_succ])
          iterate 4 (refine SeqIn.skip rfl (by rfl) ?_; simp only [Act.put, List.setIfInBounds_toArray, List.set_cons_zero, List.set_cons_succ])
          (refine SeqIn.take (v := ?_) rfl (by rfl) (fun W hW => ?_) ?_; rotate_left; (go_simp; with_reducible rfl); simp only [Act.put, List.setIfInBounds_toArray, List.set_cons_zero, List.set_cons_succ])
          refine SeqIn.done ?_
          gi_wp2_with fail
          go_roundw
          case rel => exact ⟨j + 1, by omega, by go_num, by rw [HJ.out]; exact hJ2, hS2.1⟩
          case measure => simp [intOf]; omega
        · have HJ : Hid (nearTo ts ne k (j + 1) = nearTo ts ne k j ++ [j]) := Lib.hid (by rw [hst, hnk, hwi, hjk]; simp)
          clear hst hnk hjk
          gi_wp2_with fail
          refine regionIn_seqM (fun W' => Keep p W W' ∧ Box W' wr.heap.size #[.string tag, .int .i64 x, .int .i64 y, .int .i64 gl, .int .i64 gh, .int .i64 cr] 62) [(0, true), (1, true), (2, true), (3, true), (4, true), (5, true), (6, true), (7, true), (8, true), (9, true), (10, true), (11, true), (12, false), (13, true), (14, true), (15, true), (16, true)] 17 20 [(18, true), (19, true)]
            rfl (fun _ => trivial) (by kernel_rfl) (by kernel_rfl) (by kernel_rfl) (by simp) (fun _ _ _ _ h => h) ⟨hu1, (Box.new wr _ _).drew⟩ ?_
          iterate 12 (refine SeqM.take (v := ?_) rfl (by rfl) (fun W' hW' => ?_) ?_; rotate_left; (have b0 : W'.cell? ⟨Bt, 0, none⟩ = some (.int .i64 (k : Int)) := (hW'.1.box hBt hpt).cell 0; have b1 : W'.cell? ⟨Bs, 0, none⟩ = some (.slice (some ⟨b, off, none⟩) ts.length c) := (hW'.1.box hBs hps).cell 0; have b2 : W'.cell? ⟨Bs, 4, none⟩ = some (.int .i64 ne) := (hW'.1.box hBs hps).cell 4; obtain ⟨a0, a1, a2, a3, a4, a5⟩ := (hW'.1.trees hT hpb) k t HT.out; have d0 : W'.cell? ⟨wr.heap.size, 0, none⟩ = some (.string tag) := hW'.2.cell 0; have d1 : W'.cell? ⟨wr.heap.size, 1, none⟩ = some (.int .i64 x) := hW'.2.cell 1; have d2 : W'.cell? ⟨wr.heap.size, 2, none⟩ = some (.int .i64 y) := hW'.2.cell 2; have d3 : W'.cell? ⟨wr.heap.size, 3, none⟩ = some (.int .i64 gl) := hW'.2.cell 3; have d4 : W'.cell? ⟨wr.heap.size, 4, none⟩ = some (.int .i64 gh) := hW'.2.cell 4; have d5 : W'.cell? ⟨wr.heap.size, 5, none⟩ = some (.int .i64 cr) := hW'.2.cell 5; clear hW'; go_simp; with_reducible rfl); simp only [Act.put, List.setIfInBounds_toArray, List.set_cons_zero, List.set_cons_succ])
          refine SeqM.call rfl (by rfl) (fun K hK2 => ?_); go_simp
          refine ⟨trivial, fun _ => by omega, ?_⟩
          refine (callsIn_wide.2 (isWithin_any t ⟨tag, x, y, gl, gh, cr⟩ ne _ hokt hoku hne)).mono ?_
          rintro e w2 ⟨rfl, hb2⟩
          have hb2' := hb2.size
          simp at hb2'
          have hS2 : Keep p W w2 ∧ Box w2 wr.heap.size #[.string tag, .int .i64 x, .int .i64 y, .int .i64 gl, .int .i64 gh, .int .i64 cr] 62 := ⟨hu1.trans (Keep.of_below hb2 (fun x hx => by simp; have := hpr x hx; omega)), (Box.new wr _ _).drew.below hb2 (by simp)⟩
          go_simp
          have hJ2 : J (nearTo ts ne k j) w2 := hJ _ _ _ none (hJa _) (grown_of_below hb2) (fun r e => by cases e)
          refine hK2.out _ _ hS2 ?_
          clear hK2 K
          iterate 4 (refine SeqM.take (v := ?_) rfl (by rfl) (fun W hW => ?_) ?_; rotate_left; (go_simp; with_reducible rfl); simp only [Act.put, List.setIfInBounds_toArray, List.set_cons_zero, List.set_cons_succ])
          obtain ⟨fn, tmps, assign, body, hy, hR⟩ := hY _ j w2 hJ2 (by have := nearTo_len ts ne k j; omega)
          refine SeqM.last rfl (by rfl) (fun K hK2 => ?_); go_simp
          refine ⟨fun _ => by omega, ?_⟩
          refine hR.mono ?_
          rintro e w3 (⟨rfl, hJ3, hk3⟩ | ⟨rfl, hJx3⟩)
          · go_simp
            refine hK2.out _ _ ?_
            clear hK2 K
            iterate 2 (refine SeqIn.take (v := ?_) rfl (by rfl) (fun W hW => ?_) ?_; rotate_left; (go_simp; with_reducible rfl); simp only [Act.put, List.setIfInBounds_toArray, List.set_cons_zero, List.set_cons_succ])
            refine SeqIn.done ?_
            gi_wp2_with fail
            go_roundw
            case rel => exact ⟨j + 1, by omega, by go_num, by rw [HJ.out]; exact hJ3, hS2.1.trans hk3⟩
            case measure => simp [intOf]; omega
          · go_simp
            refine hK2.out _ _ ?_
            clear hK2 K
            iterate 2 (refine SeqIn.take (v := ?_) rfl (by rfl) (fun W hW => ?_) ?_; rotate_left; (go_simp; with_reducible rfl); simp only [Act.put, List.setIfInBounds_toArray, List.set_cons_zero, List.set_cons_succ])
            refine SeqIn.done ?_
            gi_wp2_with fail
            refine bodyPost_ret (results_none rfl _ _ _) rfl ?_
            exact ⟨⟨_, rfl⟩, .inr ⟨_, by rw [← HJ.out]; exact nearTo_prefix ts ne k (by omega), hJx3⟩⟩
      · obtain rfl : j = k := by simpa using hjk
        have hb : ((j : Int) != (j : Int)) = false := by simp
        have HJ : Hid (nearTo ts ne j (j + 1) = nearTo ts ne j j) := Lib.hid (by rw [hst, hnk]; simp)
        clear hst hnk hjk
        gi_wp2_with fail
        refine regionIn_seq (fun W' => Keep p W W') [(0, true), (1, true), (2, true), (3, true), (4, true), (5, true), (6, true), (7, true), (8, true), (9, true), (10, true), (11, true), (12, true), (13, true), (14, true), (15, true), (16, true), (17, true), (18, true), (19, true)]
          rfl (fun _ => trivial) (by kernel_rfl) (by kernel_rfl) (by kernel_rfl) (by simp) (fun _ _ _ _ h => h) hu1 ?_
        (refine SeqIn.take (v := ?_) rfl (by rfl) (fun W hW => ?_) ?_; rotate_left; (go_simp; with_reducible rfl); simp only [Act.put, List.setIfInBounds_toArray, List.set_cons_zero, List.set_cons_succ])
        refine SeqIn.take (v := ?_) rfl (by rfl) (fun W' hW' => ?_) ?_; rotate_left
        · have b0 : W'.cell? ⟨Bt, 0, none⟩ = some (.int .i64 (j : Int)) := (hW'.box hBt hpt).cell 0
          go_simp; with_reducible rfl
        simp only [Act.put, List.setIfInBounds_toArray, List.set_cons_zero, List.set_cons_succ]
        iterate 2 (refine SeqIn.take (v := ?_) rfl (by rfl) (fun W hW => ?_) ?_; rotate_left; (go_simp; with_reducible rfl); simp only [Act.put, List.setIfInBounds_toArray, List.set_cons_zero, List.set_cons_succ])
        iterate 9 (refine SeqIn.skip rfl (by rfl) ?_; simp only [Act.put, List.setIfInBounds_toArray, List.set_cons_zero, List.set_cons_succ])
        iterate 2 (refine SeqIn.take (v := ?_) rfl (by rfl) (fun W hW => ?_) ?_; rotate_left; (go_simp; with_reducible rfl); simp only [Act.put, List.setIfInBounds_toArray, List.set_cons_zero, List.set_cons_succ])
        iterate 4 (refine SeqIn.skip rfl (by rfl) ?_; simp only [Act.put, List.setIfInBounds_toArray, List.set_cons_zero, List.set_cons_succ])
        (refine SeqIn.take (v := ?_) rfl (by rfl) (fun W hW => ?_) ?_; rotate_left; (go_simp; with_reducible rfl); simp only [Act.put, List.setIfInBounds_toArray, List.set_cons_zero, List.set_cons_succ])
        refine SeqIn.done ?_
        gi_wp2_with fail
        go_roundw
        case rel => exact ⟨j + 1, by omega, by go_num, by rw [HJ.out]; exact hJa _, hu1⟩
        case measure => simp [intOf]; omega
    · obtain rfl : j = ts.length := by omega
      gi_wp2_with fail
      go_end0
      exact ⟨⟨_, rfl⟩, .inl ⟨_, rfl, hJs⟩⟩
theorem neighbours_in (n : Nat) (a : Option Addr) (len c : Nat) (lo hi pr ne k : Int) (w : World) :
    CallsIn Fence.wide n Tryd.prog 55 #[.agg #[.slice a len c, .int .i64 lo, .int .i64 hi, .int .i64 pr, .int .i64 ne], .int .i64 k] w
      fun e w' => e = .returned (.func (.func 90) #[] #[.pointer (some ⟨w.heap.size, 0, none⟩), .pointer (some ⟨w.heap.size + 1, 0, none⟩)]) ∧
        (w.alloc (.cells #[.slice a len c, .int .i64 lo, .int .i64 hi, .int .i64 pr, .int .i64 ne] 29)).alloc (.cells #[.int .i64 k] 3) = w' := by
  refine callsIn_of_wp Tryd.func55 rfl trivial ?_ rfl
  simp only [Tryd.ntmps55, List.size_toArray, List.length_cons, List.length_nil, Nat.reduceAdd, Nat.reduceSub, Array.replicate_succ, Array.replicate_zero, List.push_toArray, List.append_toArray, List.nil_append, List.cons_append]
  gi_wp2
  go_ret
  exact ⟨rfl, rfl⟩
/-- THE CONTRACT: a loop over the neighbours. -/
theorem neighbours_stops (n : Nat) (hn : 2 ≤ n) (Bs Bt b off c k : Nat) (lo hi pr ne : Int) (ts : List Tree) (p : Nat → Prop)
    (hlen : ts.length ≤ 14) (hk : k < ts.length) (hok : ∀ t ∈ ts, okTree t) (hne : 0 ≤ ne ∧ ne ≤ 100000) (hpb : p b) (hps : p Bs) (hpt : p Bt)
    (w : World) (hpw : ∀ x, p x → x < w.heap.size)
    (hBs : Box w Bs #[.slice (some ⟨b, off, none⟩) ts.length c, .int .i64 lo, .int .i64 hi, .int .i64 pr, .int .i64 ne] 29) (hBt : Box w Bt #[.int .i64 (k : Int)] 3) (hT : TreesAt w b off ts) :
    SeqStopsK Fence.wide n Tryd.prog 90 #[.pointer (some ⟨Bs, 0, none⟩), .pointer (some ⟨Bt, 0, none⟩)] (fun x : Nat => #[Value.int .i64 (x : Int)]) (Keep p) (fun ys => ys = nearL ts ne k) (fun pre => pre <+: nearL ts ne k) ts.length w :=
  fun l J Jx W hW hJ _ hY h0 => neighbours1_in n hn l Bs Bt b off c k lo hi pr ne ts p J Jx hlen hk hok hne hpb hps hpt W hJ (fun x hx => Nat.lt_of_lt_of_le (hpw x hx) hW.size) hY (hBs.below hW (hpw _ hps)) (hBt.below hW (hpw _ hpt)) (hT.below hW (hpw _ hpb)) h0
theorem keep_t {p : Nat → Prop} {A B C : World} (h : Keep p A B) (k : Keep p B C) : Keep p A C := h.trans k
theorem keep_b {p : Nat → Prop} {w : World} (hp : ∀ x, p x → x < w.heap.size) (W : World) (l : Nat) (o o' : Obj) (hl : w.heap.size ≤ l) (_ : W.heap[l]? = some o) (_ : o.isCells = false) (_ : o.isWalk = false) : Keep p W (W.putObj l o') := fun x hx =>
  World.putObj_heap_other (fun e => by have := hp x hx; omega)
end Go.Proofs.YtpkjjiieglebbaaDoor
