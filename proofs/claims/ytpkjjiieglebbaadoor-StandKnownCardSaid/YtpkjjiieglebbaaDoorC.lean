/- Contract of package stand's Check: the code of the error of a stand. Conditions: the trees lie in memory as the model says; tags fit into memory. -/
import Derived.Test.YtpkjjiieglebbaaDoorB
import Derived.Test.YtpkjjiieglebbaaDoorR
namespace Go.Proofs.YtpkjjiieglebbaaDoor
open Go.RowKit
/-- A slice of trees: none, whatever the address; or trees in a block that is there. -/
structure Trees (w : World) (a : Option Addr) (n c : Nat) (ts : List Tree) : Prop where
  len : n = ts.length
  at_ : ts = [] ∨ ∃ b off, a = some ⟨b, off, none⟩ ∧ b < w.heap.size ∧ TreesAt w b off ts
  tags : ∀ t ∈ ts, t.tag.size ≤ maxLen
  fits : n ≤ 9223372036854775807
  cap : n ≤ c
theorem Trees.below {w w' : World} {a : Option Addr} {n c : Nat} {ts : List Tree} (h : Trees w a n c ts) (hb : Below w.heap.size w w') : Trees w' a n c ts :=
  ⟨h.len, h.at_.imp id fun ⟨b, off, e, hl, ht⟩ => ⟨b, off, e, Nat.lt_of_lt_of_le hl hb.size, ht.below hb hl⟩, h.tags, h.fits, h.cap⟩
set_option maxHeartbeats 1000000 in
theorem check_any (a : Option Addr) (n c : Nat) (ts : List Tree) (lo hi pr ne : Int) (w : World) (hT : Trees w a n c ts) :
    Calls Tryd.prog 20 #[.agg #[.slice a n c, .int .i64 lo, .int .i64 hi, .int .i64 pr, .int .i64 ne]] w
      fun e w' => e = .returned (.int .i64 (checkE ⟨ts, lo, hi, pr, ne⟩)) ∧ Below w.heap.size w w' := by
  obtain ⟨hn, hat, htags, hfit, hcap⟩ := hT
  subst hn
  by_cases h14 : 14 < ts.length
  · have HF : Hid (checkE ⟨ts, lo, hi, pr, ne⟩ = 10) := Lib.hid (by simp [checkE, standB, headB]; omega)
    clear hat htags
    go_enter Tryd.func20, Tryd.ntmps20
    go_wp2_with (first | (go_at_call 62; refine (isFrom_any _ _ _ _).mono ?_; rintro e w' ⟨rfl, rfl⟩) | (go_at_call 61; refine (isSpan_any _ _ _ _ _).mono ?_; rintro e w1 ⟨rfl, hb1⟩; obtain ⟨hc1, hf1⟩ := bcell hb1))
    go_ret; exact ⟨ret_int HF.out.symm, (Below.refl _ _).alloc (Nat.le_refl _) _⟩
  have hn14 : ts.length ≤ 14 := by omega
  rcases h1 : spanB lo hi 0 100 with _ | _
  · have HF : Hid (checkE ⟨ts, lo, hi, pr, ne⟩ = 10) := Lib.hid (by simp [checkE, standB, headB, h1])
    clear hat htags
    go_enter Tryd.func20, Tryd.ntmps20
    go_wp2_with (first | (go_at_call 62; refine (isFrom_any _ _ _ _).mono ?_; rintro e w' ⟨rfl, rfl⟩) | (go_at_call 61; refine (isSpan_any _ _ _ _ _).mono ?_; rintro e w1 ⟨rfl, hb1⟩; obtain ⟨hc1, hf1⟩ := bcell hb1))
    go_ret; exact ⟨ret_int HF.out.symm, ((Below.refl _ _).alloc (Nat.le_refl _) _).trans (hb1.mono (by simp))⟩
  rcases h2 : frB pr 0 100 with _ | _
  · have HF : Hid (checkE ⟨ts, lo, hi, pr, ne⟩ = 10) := Lib.hid (by simp [checkE, standB, headB, h2])
    clear hat htags
    go_enter Tryd.func20, Tryd.ntmps20
    go_wp2_with (first | (go_at_call 62; refine (isFrom_any _ _ _ _).mono ?_; rintro e w' ⟨rfl, rfl⟩) | (go_at_call 61; refine (isSpan_any _ _ _ _ _).mono ?_; rintro e w1 ⟨rfl, hb1⟩; obtain ⟨hc1, hf1⟩ := bcell hb1))
    go_ret; exact ⟨ret_int HF.out.symm, ((Below.refl _ _).alloc (Nat.le_refl _) _).trans (hb1.mono (by simp))⟩
  rcases h3 : frB ne 0 100000 with _ | _
  · have HF : Hid (checkE ⟨ts, lo, hi, pr, ne⟩ = 10) := Lib.hid (by simp [checkE, standB, headB, h3])
    clear hat htags
    go_enter Tryd.func20, Tryd.ntmps20
    go_wp2_with (first | (go_at_call 62; refine (isFrom_any _ _ _ _).mono ?_; rintro e w' ⟨rfl, rfl⟩) | (go_at_call 61; refine (isSpan_any _ _ _ _ _).mono ?_; rintro e w1 ⟨rfl, hb1⟩; obtain ⟨hc1, hf1⟩ := bcell hb1))
    go_ret; exact ⟨ret_int HF.out.symm, ((Below.refl _ _).alloc (Nat.le_refl _) _).trans (hb1.mono (by simp))⟩
  have HH : Hid (checkE ⟨ts, lo, hi, pr, ne⟩ = if treesB [] ts then 0 else 10) := Lib.hid (by simp only [checkE, standB, headB, h1, h2, h3]; simp [hn14])
  have h14' : ¬ 14 < ts.length := h14
  have HX : Hid (∀ w1, Below (w.heap.size + 1) (w.alloc (.cells #[.slice a ts.length c, .int .i64 lo, .int .i64 hi, .int .i64 pr, .int .i64 ne] 29)) w1 → ∀ wr, Below w1.heap.size w1 wr →
      (∀ b off, a = some ⟨b, off, none⟩ → b < w.heap.size → TreesAt w b off ts → TreesAt wr b off ts ∧ b < wr.heap.size) ∧ Box wr w.heap.size #[.slice a ts.length c, .int .i64 lo, .int .i64 hi, .int .i64 pr, .int .i64 ne] 29 ∧ w.heap.size < wr.heap.size ∧ Below w.heap.size w wr) :=
    Lib.hid fun w1 hb wr hr => by
      have z := hb.size
      have z2 := hr.size
      simp at z
      have hB : Below w.heap.size w wr := (((Below.refl _ _).alloc (Nat.le_refl _) _).trans (hb.mono (by omega))).trans (hr.mono (by omega))
      exact ⟨fun b off _ hl ht => ⟨ht.below hB hl, by omega⟩, ((Box.new w _ _).below hb (by omega)).below hr (by omega), by omega, hB⟩
  go_enter Tryd.func20, Tryd.ntmps20
  go_wp2_with (first | (go_at_call 62; refine (isFrom_any _ _ _ _).mono ?_; rintro e w' ⟨rfl, rfl⟩) | (go_at_call 61; refine (isSpan_any _ _ _ _ _).mono ?_; rintro e w1 ⟨rfl, hb1⟩; obtain ⟨hc1, hf1⟩ := bcell hb1))
  have HY := Lib.hid (HX.out w1 (hb1.mono (by simp)))
  clear HX hc1 hf1 hb1
  go_loopw [30] (fun i wr => ∃ k : Nat, k ≤ ts.length ∧ i = .int .i64 k ∧ Below w1.heap.size w1 wr ∧ Hid (treesB [] ts = treesB (ts.take k) (ts.drop k)))
    (fun i _ => ts.length - (intOf i).toNat)
  case atStart => exact ⟨0, Nat.zero_le _, rfl, Below.refl _ _, Lib.hid (by simp)⟩
  case round =>
    obtain ⟨k, hk, rfl, hb, HK⟩ := hrel
    obtain ⟨hT1, hX, hz, hB1⟩ := HY.out wr hb
    clear HY
    by_cases hlt : k < ts.length
    · obtain ⟨t, ht⟩ : ∃ t, ts[k]? = some t := ⟨_, List.getElem?_eq_getElem hlt⟩
      rcases hat with rfl | ⟨b, off, rfl, hl, hTw⟩
      · simp at hlt
      obtain ⟨hT2, hl2⟩ := hT1 b off rfl hl hTw
      obtain ⟨c0, c1, c2, c3, c4, c5⟩ := hT2 k t ht
      have htg := htags t (List.mem_of_getElem? ht)
      have e0 : wr.cell? ⟨w.heap.size, 0, none⟩ = some (.slice (some ⟨b, off, none⟩) ts.length c) := hX.cell 0
      have hst : treesB (ts.take k) (ts.drop k) = (treeB t && !(ts.take k).any (clash t) && treesB (ts.take (k + 1)) (ts.drop (k + 1))) := by
        rw [List.drop_eq_getElem_cons hlt, List.take_add_one, ht, treesB]
        simp [show ts[k] = t by rw [List.getElem?_eq_getElem hlt] at ht; exact Option.some.inj ht]
      have hne : wr.heap.size ≠ w.heap.size := by omega
      have HT2 := Lib.hid hT2
      clear hT1 ht hTw hT2
      obtain ⟨tag, x, y, gl, gh, cr⟩ := t
      rcases ht1 : treeB ⟨tag, x, y, gl, gh, cr⟩ with _ | _
      · have HF : Hid (checkE ⟨ts, lo, hi, pr, ne⟩ = 10) := Lib.hid (by rw [HH.out, HK.out, hst, ht1]; rfl)
        clear HK HH hst
        go_wp2_with fail
        refine region_seq (fun W => Box W wr.heap.size #[.string tag, .int .i64 x, .int .i64 y, .int .i64 gl, .int .i64 gh, .int .i64 cr] 62 ∧ Box W w.heap.size #[.slice (some ⟨b, off, none⟩) ts.length c, .int .i64 lo, .int .i64 hi, .int .i64 pr, .int .i64 ne] 29 ∧ TreesAt W b off ts ∧ b < W.heap.size) [(0, true), (1, false), (2, true), (3, true), (4, true), (5, true), (6, true), (7, true), (8, true), (9, true), (10, true)]
          (by kernel_rfl) (by kernel_rfl) (by kernel_rfl) (by simp) (fun _ _ _ _ h => h) ⟨Box.new wr _ _, hX.alloc _, HT2.out.alloc hl2 _, by simp; omega⟩ ?_
        (refine SeqW.take (v := ?_) rfl (by rfl) (fun W hW => ?_) ?_; rotate_left; (obtain ⟨q0, q1, q2, q3⟩ := hW; have b0 : W.cell? ⟨wr.heap.size, 0, none⟩ = some (.string tag) := q0.cell 0; have b1 : W.cell? ⟨wr.heap.size, 1, none⟩ = some (.int .i64 x) := q0.cell 1; have b2 : W.cell? ⟨wr.heap.size, 2, none⟩ = some (.int .i64 y) := q0.cell 2; have b3 : W.cell? ⟨wr.heap.size, 3, none⟩ = some (.int .i64 gl) := q0.cell 3; have b4 : W.cell? ⟨wr.heap.size, 4, none⟩ = some (.int .i64 gh) := q0.cell 4; have b5 : W.cell? ⟨wr.heap.size, 5, none⟩ = some (.int .i64 cr) := q0.cell 5; have d0 : W.cell? ⟨w.heap.size, 0, none⟩ = some (.slice (some ⟨b, off, none⟩) ts.length c) := q1.cell 0; clear q0 q1 q2 q3; go_simp; with_reducible rfl); simp only [Act.put, List.setIfInBounds_toArray, List.set_cons_zero, List.set_cons_succ])
        refine SeqW.call rfl (by rfl) (fun K hK => ?_); go_simp
        refine (isTree_any tag x y gl gh cr _ htg).mono ?_
        rintro e w2 ⟨rfl, hb2⟩
        have hS2 : Box w2 wr.heap.size #[.string tag, .int .i64 x, .int .i64 y, .int .i64 gl, .int .i64 gh, .int .i64 cr] 62 ∧ Box w2 w.heap.size #[.slice (some ⟨b, off, none⟩) ts.length c, .int .i64 lo, .int .i64 hi, .int .i64 pr, .int .i64 ne] 29 ∧ TreesAt w2 b off ts ∧ b < w2.heap.size := ⟨(Box.new wr _ _).drew.below hb2 (by simp), (hX.alloc _).drew.below hb2 (by simp; omega), (HT2.out.alloc hl2 _).drew.below hb2 (by simp; omega), by have := hb2.size; simp at this; omega⟩
        go_simp
        refine hK.out _ _ hS2 ?_
        clear hK K
        iterate 2 (refine SeqW.take (v := ?_) rfl (by rfl) (fun W hW => ?_) ?_; rotate_left; (go_simp; with_reducible rfl); simp only [Act.put, List.setIfInBounds_toArray, List.set_cons_zero, List.set_cons_succ])
        iterate 6 (refine SeqW.skip rfl (by rfl) ?_; simp only [Act.put, List.setIfInBounds_toArray, List.set_cons_zero, List.set_cons_succ])
        (refine SeqW.take (v := ?_) rfl (by rfl) (fun W hW => ?_) ?_; rotate_left; (go_simp; with_reducible rfl); simp only [Act.put, List.setIfInBounds_toArray, List.set_cons_zero, List.set_cons_succ])
        refine SeqW.done ?_
        go_wp2_with fail
        go_ret
        exact ⟨ret_int HF.out.symm, ((hB1.alloc (by omega) _).drew).trans (hb2.mono (by simp; omega))⟩
      · rcases ha1 : (ts.take k).any (clash ⟨tag, x, y, gl, gh, cr⟩) with _ | _
        · have HK1 : Hid (treesB [] ts = treesB (ts.take (k + 1)) (ts.drop (k + 1))) := Lib.hid (by rw [HK.out, hst, ht1, ha1]; rfl)
          clear HK hst
          have htl : Hid ((ts.take k).length = k) := Lib.hid (by simp; omega)
          have hkc : k ≤ c := by omega
          go_wp2_with fail
          refine region_seq (fun W => Box W wr.heap.size #[.string tag, .int .i64 x, .int .i64 y, .int .i64 gl, .int .i64 gh, .int .i64 cr] 62 ∧ Box W w.heap.size #[.slice (some ⟨b, off, none⟩) ts.length c, .int .i64 lo, .int .i64 hi, .int .i64 pr, .int .i64 ne] 29 ∧ TreesAt W b off ts ∧ b < W.heap.size) [(0, true), (1, false), (2, true), (3, true), (4, true), (5, true), (6, true), (7, true), (8, true), (9, false), (10, true)]
            (by kernel_rfl) (by kernel_rfl) (by kernel_rfl) (by simp) (fun _ _ _ _ h => h) ⟨Box.new wr _ _, hX.alloc _, HT2.out.alloc hl2 _, by simp; omega⟩ ?_
          (refine SeqW.take (v := ?_) rfl (by rfl) (fun W hW => ?_) ?_; rotate_left; (obtain ⟨q0, q1, q2, q3⟩ := hW; have b0 : W.cell? ⟨wr.heap.size, 0, none⟩ = some (.string tag) := q0.cell 0; have b1 : W.cell? ⟨wr.heap.size, 1, none⟩ = some (.int .i64 x) := q0.cell 1; have b2 : W.cell? ⟨wr.heap.size, 2, none⟩ = some (.int .i64 y) := q0.cell 2; have b3 : W.cell? ⟨wr.heap.size, 3, none⟩ = some (.int .i64 gl) := q0.cell 3; have b4 : W.cell? ⟨wr.heap.size, 4, none⟩ = some (.int .i64 gh) := q0.cell 4; have b5 : W.cell? ⟨wr.heap.size, 5, none⟩ = some (.int .i64 cr) := q0.cell 5; have d0 : W.cell? ⟨w.heap.size, 0, none⟩ = some (.slice (some ⟨b, off, none⟩) ts.length c) := q1.cell 0; clear q0 q1 q2 q3; go_simp; with_reducible rfl); simp only [Act.put, List.setIfInBounds_toArray, List.set_cons_zero, List.set_cons_succ])
          refine SeqW.call rfl (by rfl) (fun K hK => ?_); go_simp
          refine (isTree_any tag x y gl gh cr _ htg).mono ?_
          rintro e w2 ⟨rfl, hb2⟩
          have hS2 : Box w2 wr.heap.size #[.string tag, .int .i64 x, .int .i64 y, .int .i64 gl, .int .i64 gh, .int .i64 cr] 62 ∧ Box w2 w.heap.size #[.slice (some ⟨b, off, none⟩) ts.length c, .int .i64 lo, .int .i64 hi, .int .i64 pr, .int .i64 ne] 29 ∧ TreesAt w2 b off ts ∧ b < w2.heap.size := ⟨(Box.new wr _ _).drew.below hb2 (by simp), (hX.alloc _).drew.below hb2 (by simp; omega), (HT2.out.alloc hl2 _).drew.below hb2 (by simp; omega), by have := hb2.size; simp at this; omega⟩
          go_simp
          refine hK.out _ _ hS2 ?_
          clear hK K
          iterate 2 (refine SeqW.take (v := ?_) rfl (by rfl) (fun W hW => ?_) ?_; rotate_left; (go_simp; with_reducible rfl); simp only [Act.put, List.setIfInBounds_toArray, List.set_cons_zero, List.set_cons_succ])
          (refine SeqW.take (v := ?_) rfl (by rfl) (fun W hW => ?_) ?_; rotate_left; (obtain ⟨q0, q1, q2, q3⟩ := hW; have b0 : W.cell? ⟨wr.heap.size, 0, none⟩ = some (.string tag) := q0.cell 0; have b1 : W.cell? ⟨wr.heap.size, 1, none⟩ = some (.int .i64 x) := q0.cell 1; have b2 : W.cell? ⟨wr.heap.size, 2, none⟩ = some (.int .i64 y) := q0.cell 2; have b3 : W.cell? ⟨wr.heap.size, 3, none⟩ = some (.int .i64 gl) := q0.cell 3; have b4 : W.cell? ⟨wr.heap.size, 4, none⟩ = some (.int .i64 gh) := q0.cell 4; have b5 : W.cell? ⟨wr.heap.size, 5, none⟩ = some (.int .i64 cr) := q0.cell 5; have d0 : W.cell? ⟨w.heap.size, 0, none⟩ = some (.slice (some ⟨b, off, none⟩) ts.length c) := q1.cell 0; clear q0 q1 q2 q3; go_simp; with_reducible rfl); simp only [Act.put, List.setIfInBounds_toArray, List.set_cons_zero, List.set_cons_succ])
          (refine SeqW.take (v := ?_) rfl (by rfl) (fun W hW => ?_) ?_; rotate_left; (go_simp; with_reducible rfl); simp only [Act.put, List.setIfInBounds_toArray, List.set_cons_zero, List.set_cons_succ])
          (refine SeqW.take (v := ?_) rfl (by rfl) (fun W hW => ?_) ?_; rotate_left; (obtain ⟨q0, q1, q2, q3⟩ := hW; have b0 : W.cell? ⟨wr.heap.size, 0, none⟩ = some (.string tag) := q0.cell 0; have b1 : W.cell? ⟨wr.heap.size, 1, none⟩ = some (.int .i64 x) := q0.cell 1; have b2 : W.cell? ⟨wr.heap.size, 2, none⟩ = some (.int .i64 y) := q0.cell 2; have b3 : W.cell? ⟨wr.heap.size, 3, none⟩ = some (.int .i64 gl) := q0.cell 3; have b4 : W.cell? ⟨wr.heap.size, 4, none⟩ = some (.int .i64 gh) := q0.cell 4; have b5 : W.cell? ⟨wr.heap.size, 5, none⟩ = some (.int .i64 cr) := q0.cell 5; have d0 : W.cell? ⟨w.heap.size, 0, none⟩ = some (.slice (some ⟨b, off, none⟩) ts.length c) := q1.cell 0; clear q0 q1 q2 q3; go_simp; with_reducible rfl); simp only [Act.put, List.setIfInBounds_toArray, List.set_cons_zero, List.set_cons_succ])
          iterate 2 (refine SeqW.take (v := ?_) rfl (by rfl) (fun W hW => ?_) ?_; rotate_left; (go_simp; with_reducible rfl); simp only [Act.put, List.setIfInBounds_toArray, List.set_cons_zero, List.set_cons_succ])
          refine SeqW.call rfl (by rfl) (fun K hK => ?_); go_simp
          refine (clashes_any tag x y gl gh cr b off k c (ts.take k) _ (hS2.2.2.1.take k) hS2.2.2.2 (by simp; omega) htl.out).mono ?_
          rintro e w3 ⟨rfl, hb3⟩
          have hS3 : Box w3 wr.heap.size #[.string tag, .int .i64 x, .int .i64 y, .int .i64 gl, .int .i64 gh, .int .i64 cr] 62 ∧ Box w3 w.heap.size #[.slice (some ⟨b, off, none⟩) ts.length c, .int .i64 lo, .int .i64 hi, .int .i64 pr, .int .i64 ne] 29 ∧ TreesAt w3 b off ts ∧ b < w3.heap.size := ⟨hS2.1.below hb3 hS2.1.lt, hS2.2.1.below hb3 hS2.2.1.lt, hS2.2.2.1.below hb3 hS2.2.2.2, by have := hb3.size; omega⟩
          go_simp
          refine hK.out _ _ hS3 ?_
          clear hK K
          (refine SeqW.take (v := ?_) rfl (by rfl) (fun W hW => ?_) ?_; rotate_left; (go_simp; with_reducible rfl); simp only [Act.put, List.setIfInBounds_toArray, List.set_cons_zero, List.set_cons_succ])
          refine SeqW.done ?_
          go_wp2_with fail
          go_roundw
          case rel => exact ⟨k + 1, by omega, by go_num, hb.trans ((((((Below.refl _ _).alloc (Nat.le_refl _) _).drew).trans (hb2.mono (by simp))).trans (hb3.mono (by have := hb2.size; simp at this; omega))).mono hb.size), HK1⟩
          case measure => simp [intOf]; omega
        · have HF : Hid (checkE ⟨ts, lo, hi, pr, ne⟩ = 10) := Lib.hid (by rw [HH.out, HK.out, hst, ht1, ha1]; rfl)
          clear HK HH hst
          have htl : Hid ((ts.take k).length = k) := Lib.hid (by simp; omega)
          have hkc : k ≤ c := by omega
          go_wp2_with fail
          refine region_seq (fun W => Box W wr.heap.size #[.string tag, .int .i64 x, .int .i64 y, .int .i64 gl, .int .i64 gh, .int .i64 cr] 62 ∧ Box W w.heap.size #[.slice (some ⟨b, off, none⟩) ts.length c, .int .i64 lo, .int .i64 hi, .int .i64 pr, .int .i64 ne] 29 ∧ TreesAt W b off ts ∧ b < W.heap.size) [(0, true), (1, false), (2, true), (3, true), (4, true), (5, true), (6, true), (7, true), (8, true), (9, false), (10, true)]
            (by kernel_rfl) (by kernel_rfl) (by kernel_rfl) (by simp) (fun _ _ _ _ h => h) ⟨Box.new wr _ _, hX.alloc _, HT2.out.alloc hl2 _, by simp; omega⟩ ?_
          (refine SeqW.take (v := ?_) rfl (by rfl) (fun W hW => ?_) ?_; rotate_left; (obtain ⟨q0, q1, q2, q3⟩ := hW; have b0 : W.cell? ⟨wr.heap.size, 0, none⟩ = some (.string tag) := q0.cell 0; have b1 : W.cell? ⟨wr.heap.size, 1, none⟩ = some (.int .i64 x) := q0.cell 1; have b2 : W.cell? ⟨wr.heap.size, 2, none⟩ = some (.int .i64 y) := q0.cell 2; have b3 : W.cell? ⟨wr.heap.size, 3, none⟩ = some (.int .i64 gl) := q0.cell 3; have b4 : W.cell? ⟨wr.heap.size, 4, none⟩ = some (.int .i64 gh) := q0.cell 4; have b5 : W.cell? ⟨wr.heap.size, 5, none⟩ = some (.int .i64 cr) := q0.cell 5; have d0 : W.cell? ⟨w.heap.size, 0, none⟩ = some (.slice (some ⟨b, off, none⟩) ts.length c) := q1.cell 0; clear q0 q1 q2 q3; go_simp; with_reducible rfl); simp only [Act.put, List.setIfInBounds_toArray, List.set_cons_zero, List.set_cons_succ])
          refine SeqW.call rfl (by rfl) (fun K hK => ?_); go_simp
          refine (isTree_any tag x y gl gh cr _ htg).mono ?_
          rintro e w2 ⟨rfl, hb2⟩
          have hS2 : Box w2 wr.heap.size #[.string tag, .int .i64 x, .int .i64 y, .int .i64 gl, .int .i64 gh, .int .i64 cr] 62 ∧ Box w2 w.heap.size #[.slice (some ⟨b, off, none⟩) ts.length c, .int .i64 lo, .int .i64 hi, .int .i64 pr, .int .i64 ne] 29 ∧ TreesAt w2 b off ts ∧ b < w2.heap.size := ⟨(Box.new wr _ _).drew.below hb2 (by simp), (hX.alloc _).drew.below hb2 (by simp; omega), (HT2.out.alloc hl2 _).drew.below hb2 (by simp; omega), by have := hb2.size; simp at this; omega⟩
          go_simp
          refine hK.out _ _ hS2 ?_
          clear hK K
          iterate 2 (refine SeqW.take (v := ?_) rfl (by rfl) (fun W hW => ?_) ?_; rotate_left; (go_simp; with_reducible rfl); simp only [Act.put, List.setIfInBounds_toArray, List.set_cons_zero, List.set_cons_succ])
          (refine SeqW.take (v := ?_) rfl (by rfl) (fun W hW => ?_) ?_; rotate_left; (obtain ⟨q0, q1, q2, q3⟩ := hW; have b0 : W.cell? ⟨wr.heap.size, 0, none⟩ = some (.string tag) := q0.cell 0; have b1 : W.cell? ⟨wr.heap.size, 1, none⟩ = some (.int .i64 x) := q0.cell 1; have b2 : W.cell? ⟨wr.heap.size, 2, none⟩ = some (.int .i64 y) := q0.cell 2; have b3 : W.cell? ⟨wr.heap.size, 3, none⟩ = some (.int .i64 gl) := q0.cell 3; have b4 : W.cell? ⟨wr.heap.size, 4, none⟩ = some (.int .i64 gh) := q0.cell 4; have b5 : W.cell? ⟨wr.heap.size, 5, none⟩ = some (.int .i64 cr) := q0.cell 5; have d0 : W.cell? ⟨w.heap.size, 0, none⟩ = some (.slice (some ⟨b, off, none⟩) ts.length c) := q1.cell 0; clear q0 q1 q2 q3; go_simp; with_reducible rfl); simp only [Act.put, List.setIfInBounds_toArray, List.set_cons_zero, List.set_cons_succ])
          (refine SeqW.take (v := ?_) rfl (by rfl) (fun W hW => ?_) ?_; rotate_left; (go_simp; with_reducible rfl); simp only [Act.put, List.setIfInBounds_toArray, List.set_cons_zero, List.set_cons_succ])
          (refine SeqW.take (v := ?_) rfl (by rfl) (fun W hW => ?_) ?_; rotate_left; (obtain ⟨q0, q1, q2, q3⟩ := hW; have b0 : W.cell? ⟨wr.heap.size, 0, none⟩ = some (.string tag) := q0.cell 0; have b1 : W.cell? ⟨wr.heap.size, 1, none⟩ = some (.int .i64 x) := q0.cell 1; have b2 : W.cell? ⟨wr.heap.size, 2, none⟩ = some (.int .i64 y) := q0.cell 2; have b3 : W.cell? ⟨wr.heap.size, 3, none⟩ = some (.int .i64 gl) := q0.cell 3; have b4 : W.cell? ⟨wr.heap.size, 4, none⟩ = some (.int .i64 gh) := q0.cell 4; have b5 : W.cell? ⟨wr.heap.size, 5, none⟩ = some (.int .i64 cr) := q0.cell 5; have d0 : W.cell? ⟨w.heap.size, 0, none⟩ = some (.slice (some ⟨b, off, none⟩) ts.length c) := q1.cell 0; clear q0 q1 q2 q3; go_simp; with_reducible rfl); simp only [Act.put, List.setIfInBounds_toArray, List.set_cons_zero, List.set_cons_succ])
          iterate 2 (refine SeqW.take (v := ?_) rfl (by rfl) (fun W hW => ?_) ?_; rotate_left; (go_simp; with_reducible rfl); simp only [Act.put, List.setIfInBounds_toArray, List.set_cons_zero, List.set_cons_succ])
          refine SeqW.call rfl (by rfl) (fun K hK => ?_); go_simp
          refine (clashes_any tag x y gl gh cr b off k c (ts.take k) _ (hS2.2.2.1.take k) hS2.2.2.2 (by simp; omega) htl.out).mono ?_
          rintro e w3 ⟨rfl, hb3⟩
          have hS3 : Box w3 wr.heap.size #[.string tag, .int .i64 x, .int .i64 y, .int .i64 gl, .int .i64 gh, .int .i64 cr] 62 ∧ Box w3 w.heap.size #[.slice (some ⟨b, off, none⟩) ts.length c, .int .i64 lo, .int .i64 hi, .int .i64 pr, .int .i64 ne] 29 ∧ TreesAt w3 b off ts ∧ b < w3.heap.size := ⟨hS2.1.below hb3 hS2.1.lt, hS2.2.1.below hb3 hS2.2.1.lt, hS2.2.2.1.below hb3 hS2.2.2.2, by have := hb3.size; omega⟩
          go_simp
          refine hK.out _ _ hS3 ?_
          clear hK K
          (refine SeqW.take (v := ?_) rfl (by rfl) (fun W hW => ?_) ?_; rotate_left; (go_simp; with_reducible rfl); simp only [Act.put, List.setIfInBounds_toArray, List.set_cons_zero, List.set_cons_succ])
          refine SeqW.done ?_
          go_wp2_with fail
          go_ret
          exact ⟨ret_int HF.out.symm, (((hB1.alloc (by omega) _).drew).trans (hb2.mono (by simp; omega))).trans (hb3.mono (by have := hb2.size; simp at this; omega))⟩
    · have HF : Hid (checkE ⟨ts, lo, hi, pr, ne⟩ = 0) := Lib.hid (by rw [HH.out, HK.out, List.drop_of_length_le (by omega)]; rfl)
      go_wp2_with fail
      go_ret
      exact ⟨ret_int HF.out.symm, hB1⟩
end Go.Proofs.YtpkjjiieglebbaaDoor
